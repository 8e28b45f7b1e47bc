/-
  Contracts of package repeat: what is no length, and what is no sign, is sought. No conditions but those of the calls.
-/
import Derived.Test.YthmkkbaenccgiaaRepA
namespace Go.Proofs.Ythmkkbaenccgiaa.Rep
open Go.RowKit

theorem over_any (w : World) (c : Nat) : Calls Try.prog 16 #[.int .u8 (c : Int)] w fun e w' => e = .returned (.bool (decide (15 < c))) ∧ w = w' := by
  go_enter Try.func16, Try.ntmps16
  go_wp2
  go_ret
  exact ⟨by simp; omega, rfl⟩

/-- slices.IndexFunc over lengths. -/
theorem indexB_any (w : World) (v : Value) (L : List Nat) (h : ByteRow w v L) (hl : L.length ≤ 140737488355328) :
    Calls Try.prog 25 #[v, .func (.func 16) #[] #[]] w fun e w' => (∃ i : Int, e = .returned (.int .i64 i) ∧ decide (0 ≤ i) = L.any fun x => decide (15 < x)) ∧ w = w' := by
  obtain ⟨a, cap, rfl, hc, hn, hat⟩ := h
  obtain ⟨t, ht⟩ : ∃ t, (L.any fun x => decide (15 < x)) = t := ⟨_, rfl⟩
  rw [ht]
  have HT := Lib.hid ht
  clear ht
  go_enter Try.func25, Try.ntmps25
  go_wp2
  go_loopw [5, 8] (fun _ i wr => ∃ k : Nat, k ≤ L.length ∧ i = .int .i64 (k : Int) ∧ (∀ j (hj : j < L.length), j < k → L[j] ≤ 15) ∧ wr = w) (fun _ i _ => L.length - (intOf i).toNat)
  case atStart => exact ⟨0, Nat.zero_le _, rfl, fun j _ hj => absurd hj (Nat.not_lt_zero _), rfl⟩
  case round =>
    obtain ⟨k, hk, rfl, hb, rfl⟩ := hrel
    by_cases hlt : k < L.length
    · obtain ⟨hy, b, off, rfl, hcell⟩ := hat k hlt
      obtain ⟨y, hy'⟩ : ∃ y, L[k] = y := ⟨_, rfl⟩
      rw [hy'] at hcell
      have HB := Lib.hid hb
      have HY := Lib.hid hy'
      clear hb hy' hat
      by_cases c : 15 < y
      · have hd : decide (15 < y) = true := by simp [c]
        go_wp2_with (go_at_call 16; refine (over_any _ y).mono ?_; rintro e w1 ⟨rfl, rfl⟩; rw [hd])
        go_ret
        refine ⟨⟨k, rfl, ?_⟩, rfl⟩
        rw [← HT.out]
        have e1 : (L.any fun x => decide (15 < x)) = true := by
          rw [List.any_eq_true]
          exact ⟨L[k], List.getElem_mem hlt, by rw [HY.out]; exact hd⟩
        rw [e1]
        simp
      · have hd : decide (15 < y) = false := by simp; omega
        go_wp2_with (go_at_call 16; refine (over_any _ y).mono ?_; rintro e w1 ⟨rfl, rfl⟩; rw [hd])
        go_roundw
        case rel =>
          refine ⟨k + 1, by omega, by go_num, fun j hj hjk => ?_, trivial⟩
          by_cases e : j = k
          · subst e
            rw [HY.out]
            omega
          · exact HB.out j hj (by omega)
        case measure => simp [intOf]; omega
    · obtain rfl : k = L.length := by omega
      have e1 : t = false := by
        rw [← HT.out, List.any_eq_false]
        intro x hx
        obtain ⟨i, hi, rfl⟩ := List.getElem_of_mem hx
        have := hb i hi hi
        simp
        omega
      subst e1
      go_wp2
      go_ret
      exact ⟨⟨-1, rfl, rfl⟩, rfl⟩

/-- slices.ContainsFunc over lengths. -/
theorem containsB_any (w : World) (v : Value) (L : List Nat) (h : ByteRow w v L) (hl : L.length ≤ 140737488355328) :
    Calls Try.prog 15 #[v, .func (.func 16) #[] #[]] w fun e w' => e = .returned (.bool (L.any fun x => decide (15 < x))) ∧ w = w' := by
  have hi := indexB_any w v L h hl
  obtain ⟨t, ht⟩ : ∃ t, (L.any fun x => decide (15 < x)) = t := ⟨_, rfl⟩
  rw [ht] at hi ⊢
  clear ht
  go_enter Try.func15, Try.ntmps15
  go_wp2_with (go_at_call 25; refine hi.mono ?_; rintro e w1 ⟨⟨i, rfl, hd⟩, rfl⟩)
  go_ret
  exact ⟨rfl, rfl⟩

/-! Signs. -/

theorem bad_any (w : World) (c x : Nat) (hc : c < 256) (hx : x < 256) : Calls Try.prog 20 #[signV c x] w fun e w' => e = .returned (.bool (!fits (c, x))) ∧ Below w.heap.size w w' := by
  have hf := fun W => fits_any W c x hc hx
  generalize fits (c, x) = f at *
  have ha := below_alloc w (.cells #[.int .u8 (c : Int), .int .u8 (x : Int)] 31)
  go_enter Try.func20, Try.ntmps20
  go_wp2_with (go_at_call 21; refine (hf _).mono ?_; rintro e w1 ⟨rfl, hb⟩)
  go_ret
  exact ⟨rfl, ha.trans (hb.mono ha.size)⟩

/-- slices.IndexFunc over signs. -/
theorem indexS_any (w : World) (v : Value) (L : List (Nat × Nat)) (h : SignRow w v L) (hl : L.length ≤ 140737488355328) :
    Calls Try.prog 31 #[v, .func (.func 20) #[] #[]] w fun e w' => (∃ i : Int, e = .returned (.int .i64 i) ∧ decide (0 ≤ i) = !L.all fits) ∧ Below w.heap.size w w' := by
  have hrow := fun W hB => h.below (B := w.heap.size) (w' := W) hB (Nat.le_refl _)
  obtain ⟨a, cap, rfl, hc, hmx, hn, hat⟩ := h
  obtain ⟨t, ht⟩ : ∃ t, (!L.all fits) = t := ⟨_, rfl⟩
  rw [ht]
  have HT := Lib.hid ht
  clear ht hat
  go_enter Try.func31, Try.ntmps31
  go_wp2
  go_loopw [5, 8] (fun _ i wr => ∃ k : Nat, k ≤ L.length ∧ i = .int .i64 (k : Int) ∧ (∀ j (hj : j < L.length), j < k → fits L[j] = true) ∧ Below w.heap.size w wr) (fun _ i _ => L.length - (intOf i).toNat)
  case atStart => exact ⟨0, Nat.zero_le _, rfl, fun j _ hj => absurd hj (Nat.not_lt_zero _), Below.refl _ _⟩
  case round =>
    obtain ⟨k, hk, rfl, hb, hB⟩ := hrel
    by_cases hlt : k < L.length
    · obtain ⟨a', cap', e1, _, _, _, hat⟩ := hrow _ hB
      obtain ⟨rfl, -, rfl⟩ := Value.slice.inj e1
      obtain ⟨⟨hy0, hy1⟩, b, off, rfl, c0, c1⟩ := hat k hlt
      obtain ⟨y0, y1, hy'⟩ : ∃ y0 y1, L[k] = (y0, y1) := ⟨_, _, rfl⟩
      rw [hy'] at c0 c1 hy0 hy1
      have HB := Lib.hid hb
      have HY := Lib.hid hy'
      clear hb hy' hat hrow e1
      have hba := fun W => bad_any W y0 y1 hy0 hy1
      have HF : ∃ f, fits (y0, y1) = f := ⟨_, rfl⟩
      obtain ⟨f, hf⟩ := HF
      rw [hf] at hba
      have HF := Lib.hid hf
      clear hf
      cases f with
      | false =>
        go_wp2_with (go_at_call 20; refine (hba _).mono ?_; rintro e w1 ⟨rfl, hb1⟩)
        go_ret
        refine ⟨⟨k, rfl, ?_⟩, hB.trans (hb1.mono hB.size)⟩
        rw [← HT.out]
        have e1 : L.all fits = false := by
          rw [List.all_eq_false]
          exact ⟨L[k], List.getElem_mem hlt, by rw [HY.out, HF.out]; simp⟩
        rw [e1]
        simp
      | true =>
        go_wp2_with (go_at_call 20; refine (hba _).mono ?_; rintro e w1 ⟨rfl, hb1⟩)
        go_roundw
        case rel =>
          refine ⟨k + 1, by omega, by go_num, fun j hj hjk => ?_, hB.trans (hb1.mono hB.size)⟩
          by_cases e : j = k
          · subst e
            rw [HY.out]
            exact HF.out
          · exact HB.out j hj (by omega)
        case measure => simp [intOf]; omega
    · obtain rfl : k = L.length := by omega
      have e1 : t = false := by
        rw [← HT.out]
        have : L.all fits = true := by
          rw [List.all_eq_true]
          intro x hx
          obtain ⟨i, hi, rfl⟩ := List.getElem_of_mem hx
          exact hb i hi hi
        rw [this]; rfl
      subst e1
      go_wp2
      go_ret
      exact ⟨⟨-1, rfl, rfl⟩, hB⟩

/-- slices.ContainsFunc over signs. -/
theorem containsS_any (w : World) (v : Value) (L : List (Nat × Nat)) (h : SignRow w v L) (hl : L.length ≤ 140737488355328) :
    Calls Try.prog 19 #[v, .func (.func 20) #[] #[]] w fun e w' => e = .returned (.bool (!L.all fits)) ∧ Below w.heap.size w w' := by
  have hi := indexS_any w v L h hl
  obtain ⟨t, ht⟩ : ∃ t, (!L.all fits) = t := ⟨_, rfl⟩
  rw [ht] at hi ⊢
  clear ht
  go_enter Try.func19, Try.ntmps19
  go_wp2_with (go_at_call 31; refine hi.mono ?_; rintro e w1 ⟨⟨i, rfl, hd⟩, hb⟩)
  go_ret
  exact ⟨rfl, hb⟩

end Go.Proofs.Ythmkkbaenccgiaa.Rep
