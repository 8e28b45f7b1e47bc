/-
  Contracts of package repeat: a sign's numbers. No conditions but those of the calls.
-/
import Derived.Test.YthmkkbaenccgiaaRepS
import Derived.Deep.QuietTactic
import Derived.BigQuiet
import Derived.IntWalk
namespace Go.Proofs.Ythmkkbaenccgiaa.Rep
open Go.RowKit

theorem bits_any (w : World) (c : Nat) (hc : c < 256) : Calls Try.prog 11 #[.int .u8 (c : Int)] w fun e w' => e = .returned (.int .i64 (bitsOf' c : Int)) ∧ w = w' := by
  unfold bitsOf'
  go_enter Try.func11, Try.ntmps11
  by_cases h1 : c = 16
  · subst h1
    go_wp2
    go_ret
    exact ⟨rfl, rfl⟩
  · by_cases h2 : c = 17
    · subst h2
      go_wp2
      go_ret
      exact ⟨rfl, rfl⟩
    · by_cases h3 : c = 18
      · subst h3
        go_wp2
        go_ret
        exact ⟨rfl, rfl⟩
      · rw [if_neg h1, if_neg h2, if_neg h3]
        go_wp2
        go_ret
        exact ⟨rfl, rfl⟩

theorem least_any (w : World) (c : Nat) (hc : c < 256) : Calls Try.prog 28 #[.int .u8 (c : Int)] w fun e w' => e = .returned (.int .i64 (least c : Int)) ∧ w = w' := by
  unfold least
  go_enter Try.func28, Try.ntmps28
  by_cases h1 : c = 16
  · subst h1
    go_wp2
    go_ret
    exact ⟨rfl, rfl⟩
  · by_cases h2 : c = 17
    · subst h2
      go_wp2
      go_ret
      exact ⟨rfl, rfl⟩
    · by_cases h3 : c = 18
      · subst h3
        go_wp2
        go_ret
        exact ⟨rfl, rfl⟩
      · rw [if_neg (by omega), if_neg h3]
        go_wp2
        go_ret
        exact ⟨rfl, rfl⟩

/-- 2 to the number of a code's bits. -/
def room (c : Nat) : Nat := 2 ^ bitsOf' c
theorem room_le (c : Nat) : 1 ≤ room c ∧ room c ≤ 128 := by
  unfold room bitsOf'
  split
  · decide
  · split
    · decide
    · split <;> decide

theorem most_any (w : World) (c : Nat) (hc : c < 256) : Calls Try.prog 29 #[.int .u8 (c : Int)] w fun e w' => e = .returned (.int .i64 (most c : Int)) ∧ w = w' := by
  have h1 := bits_any w c hc
  have h2 := least_any w c hc
  have hr := room_le c
  have hl := least_le c
  have hm : most c = least c + room c - 1 := rfl
  rw [hm]
  have hb : bitsOf' c ≤ 7 := by unfold bitsOf'; split <;> (try split) <;> (try split) <;> omega
  have hp : (2 : Int) ^ bitsOf' c = (room c : Int) := by unfold room; simp
  generalize bitsOf' c = b at *
  generalize room c = p at *
  generalize least c = q at *
  have hw : wrap64 (p : Int) = (p : Int) := by unfold wrap64; omega
  go_enter Try.func29, Try.ntmps29
  go_wp2_with (first | (go_at_call 11; refine h1.mono ?_; rintro e w1 ⟨rfl, rfl⟩) | (go_at_call 28; refine h2.mono ?_; rintro e w1 ⟨rfl, rfl⟩))
  go_ret
  exact ⟨ret_int (by omega), rfl⟩

theorem _root_.Go.RowKit.Below.drewN {B : Nat} {a w : World} (h : Below B a w) (n : Nat) : Below B a (w.drewN n) := ⟨h.os, h.tape, h.output, h.size, h.block⟩

theorem bits_q (w : World) (c : Nat) (hc : c < 256) : Calls Try.prog 11 #[.int .u8 (c : Int)] w fun e w' => e = .returned (.int .i64 (bitsOf' c : Int)) ∧ w' = w :=
  (bits_any w c hc).mono fun _ _ h => ⟨h.1, h.2.symm⟩
theorem least_q (w : World) (c : Nat) (hc : c < 256) : Calls Try.prog 28 #[.int .u8 (c : Int)] w fun e w' => e = .returned (.int .i64 (least c : Int)) ∧ w' = w :=
  (least_any w c hc).mono fun _ _ h => ⟨h.1, h.2.symm⟩

set_option maxRecDepth 100000 in
theorem fits_any (w : World) (c x : Nat) (hc : c < 256) (hx : x < 256) : Calls Try.prog 21 #[signV c x] w fun e w' => e = .returned (.bool (fits (c, x))) ∧ Below w.heap.size w w' := by
  have hr := room_le c
  have hb : bitsOf' c ≤ 7 := by unfold bitsOf'; split <;> (try split) <;> (try split) <;> omega
  have hp : (2 : Int) ^ bitsOf' c = (room c : Int) := by unfold room; simp
  have hf : fits (c, x) = (decide (c ≤ 18) && decide (x < room c)) := rfl
  rw [hf]
  have hq := fun W => bits_q W c hc
  generalize bitsOf' c = b at *
  generalize room c = p at *
  have hw : IntKind.i64.wrap (p : Int) = (p : Int) := IntWalk.i64_in _ (by omega)
  have hx' : IntKind.i64.wrap (x : Int) = (x : Int) := IntWalk.i64_in _ (by omega)
  go_enter Try.func21, Try.ntmps21
  by_cases h18 : c ≤ 18
  · have d1 : decide ((c : Int) ≤ 18) = true := by simp; omega
    have d2 : (c : Int) ≤ 18 := by omega
    go_wp2
    go_quiet ((go_at_call 11; exact Calls.quiet_of_same (hq _)))
    go_wp2
    go_ret
    refine ⟨by simp [h18], (below_alloc w _).drewN _⟩
  · have d1 : decide ((c : Int) ≤ 18) = false := by simp; omega
    go_wp2
    go_quiet (fail)
    go_wp2
    go_ret
    refine ⟨by simp [h18], (below_alloc w _).drewN _⟩

theorem times_any (w : World) (c x : Nat) (hc : c < 256) (hx : x < 256) : Calls Try.prog 22 #[signV c x] w fun e w' => e = .returned (.int .i64 (times (c, x) : Int)) ∧ Below w.heap.size w w' := by
  have hl := least_le c
  have ht : times (c, x) = least c + x := rfl
  rw [ht]
  have hq := fun W => least_q W c hc
  generalize least c = q at *
  have hx' : IntKind.i64.wrap (x : Int) = (x : Int) := IntWalk.i64_in _ (by omega)
  have hw : IntKind.i64.wrap ((q : Int) + (x : Int)) = (q : Int) + (x : Int) := IntWalk.i64_in _ (by omega)
  go_enter Try.func22, Try.ntmps22
  go_wp2
  go_quiet ((go_at_call 28; exact Calls.quiet_of_same (hq _)))
  go_wp2
  go_ret
  exact ⟨ret_int (by omega), (below_alloc w _).drewN _⟩

/-- What such a sign says behind these. -/
theorem length_any (w : World) (c x : Nat) (hc : c < 256) (v : Value) (L : List Nat) (h : ByteRow w v L) (hL : c = 16 → L ≠ []) (hl : L.length ≤ 140737488355328) :
    Calls Try.prog 24 #[signV c x, v] w fun e w' => e = .returned (.int .u8 (lengthOf (c, x) L : Int)) ∧ Below w.heap.size w w' := by
  obtain ⟨a, cap, rfl, hcap, hn, hat⟩ := h
  have ht : lengthOf (c, x) L = if c = 16 then L.getLastD 0 else if c = 17 ∨ c = 18 then 0 else c := rfl
  rw [ht]
  go_enter Try.func24, Try.ntmps24
  by_cases h1 : c = 16
  · subst h1
    rw [if_pos rfl]
    have hne := hL rfl
    have hpos : 0 < L.length := List.length_pos_iff.2 hne
    obtain ⟨hlt, b, off, rfl, hcell⟩ := hat (L.length - 1) (by omega)
    have e1 : L.getLastD 0 = L[L.length - 1] := by rw [List.getLastD_eq_getLast?, List.getLast?_eq_getElem?, List.getElem?_eq_getElem (by omega)]; rfl
    rw [e1]
    clear e1 hat hL ht hne
    generalize L[L.length - 1] = y at *
    obtain ⟨q, hq⟩ : ∃ q : Nat, L.length = q + 1 := ⟨L.length - 1, by omega⟩
    rw [hq] at hcap hl hcell ⊢
    rw [Nat.add_sub_cancel] at hcell
    clear hq hpos
    have e2 : ((q + 1 : Nat) : Int) - 1 = (q : Int) := by omega
    have hlt2 : b < w.heap.size := World.block_lt_of_cell? w _ hcell
    go_wp2
    go_ret
    exact ⟨rfl, below_alloc w _⟩
  · rw [if_neg h1]
    clear hat
    by_cases h2 : c = 17
    · subst h2
      go_wp2
      go_ret
      exact ⟨rfl, below_alloc w _⟩
    · by_cases h3 : c = 18
      · subst h3
        go_wp2
        go_ret
        exact ⟨rfl, below_alloc w _⟩
      · rw [if_neg (by omega)]
        go_wp2
        go_ret
        exact ⟨rfl, below_alloc w _⟩

theorem times_le' (s : Nat × Nat) (h : fits s = true) : times s ≤ 138 ∧ s.1 ≤ 18 ∧ s.2 < 128 := by
  unfold fits at h
  simp only [Bool.and_eq_true, decide_eq_true_eq] at h
  have h1 := most_le s.1
  have h2 := room_le s.1
  have h3 := least_le s.1
  have h4 : s.2 < room s.1 := h.2
  unfold times
  refine ⟨by omega, h.1, by omega⟩

end Go.Proofs.Ythmkkbaenccgiaa.Rep
