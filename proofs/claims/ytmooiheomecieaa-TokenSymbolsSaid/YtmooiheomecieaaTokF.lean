/-
  Contracts of pressworkref08: the lists, the bits, the last that is not above; Length, Distance. No conditions but those of the calls.
-/
import Derived.Test.YtmooiheomecieaaTokO
import Derived.Test.YtmooiheomecieaaInts
import Derived.Test.YtmooiheomecieaaRegion
import Derived.Deep.QuietTactic
import Derived.BigQuiet
import Derived.IntWalk
namespace Go.Proofs.Ytmooiheomecieaa.Tok
open Go.RowKit

theorem lenS_first : lenS.map (·.1) = [3, 4, 5, 6, 7, 8, 9, 10, 11, 13, 15, 17, 19, 23, 27, 31, 35, 43, 51, 59, 67, 83, 99, 115, 131, 163, 195, 227, 258] := by decide
theorem disS_first : disS.map (·.1) = [1, 2, 3, 4, 5, 7, 9, 13, 17, 25, 33, 49, 65, 97, 129, 193, 257, 385, 513, 769, 1025, 1537, 2049, 3073, 4097, 6145, 8193, 12289, 16385, 24577] := by decide

set_option maxRecDepth 100000 in
/-- Lengths. -/
theorem refLengths_any (w : World) : Calls Try.prog 14 #[] w fun e w' => ∃ v, e = .returned v ∧ NumRow w' v (lenS.map (·.1)) ∧ Below w.heap.size w w' := by
  rw [lenS_first]
  go_enter Try.func14, Try.ntmps14
  go_wp2
  go_ret
  exact ⟨_, rfl, numRow_lit _ [3, 4, 5, 6, 7, 8, 9, 10, 11, 13, 15, 17, 19, 23, 27, 31, 35, 43, 51, 59, 67, 83, 99, 115, 131, 163, 195, 227, 258] _ _, below_alloc w _⟩

set_option maxRecDepth 100000 in
/-- Distances. -/
theorem refDistances_any (w : World) : Calls Try.prog 18 #[] w fun e w' => ∃ v, e = .returned v ∧ NumRow w' v (disS.map (·.1)) ∧ Below w.heap.size w w' := by
  rw [disS_first]
  go_enter Try.func18, Try.ntmps18
  go_wp2
  go_ret
  exact ⟨_, rfl, numRow_lit _ [1, 2, 3, 4, 5, 7, 9, 13, 17, 25, 33, 49, 65, 97, 129, 193, 257, 385, 513, 769, 1025, 1537, 2049, 3073, 4097, 6145, 8193, 12289, 16385, 24577] _ _, below_alloc w _⟩

/-- The bits of a symbol of lengths. -/
def lbits (s : Nat) : Nat := if s < 265 ∨ s = 285 then 0 else (s - 261) / 4
def dbits (s : Nat) : Nat := if s < 4 then 0 else (s - 2) / 2

theorem lbits_eq (k : Nat) (hk : k < lenS.length) : lbits (257 + k) = lenS[k].2 := by
  have h : ∀ j : Fin 29, lbits (257 + j.1) = (lenS.getD j.1 (0, 0)).2 := by rw [lenS_eq]; decide
  have := h ⟨k, hk⟩
  rw [List.getD_eq_getElem?_getD, List.getElem?_eq_getElem hk] at this
  exact this
theorem dbits_eq (k : Nat) (hk : k < disS.length) : dbits k = disS[k].2 := by
  have h : ∀ j : Fin 30, dbits j.1 = (disS.getD j.1 (0, 0)).2 := by rw [disS_eq]; decide
  have := h ⟨k, hk⟩
  rw [List.getD_eq_getElem?_getD, List.getElem?_eq_getElem hk] at this
  exact this

/-- LengthBits. -/
theorem lengthBits_any (w : World) (s : Nat) (hs : s ≤ 1000) : Calls Try.prog 15 #[.int .i64 (s : Int)] w fun e w' => e = .returned (.int .i64 (lbits s : Int)) ∧ Below w.heap.size w w' := by
  by_cases h1 : s < 265
  · have e : lbits s = 0 := if_pos (.inl h1)
    rw [e]
    clear e
    go_enter Try.func15, Try.ntmps15
    go_wp2
    go_ret
    exact ⟨rfl, Below.refl _ _⟩
  · by_cases h2 : s = 285
    · subst h2
      clear h1 hs
      go_enter Try.func15, Try.ntmps15
      go_wp2
      go_ret
      exact ⟨rfl, Below.refl _ _⟩
    · have e : lbits s = (s - 261) / 4 := if_neg (by omega)
      rw [e]
      clear e
      obtain ⟨m, hm⟩ : ∃ m, s - 261 = m := ⟨_, rfl⟩
      have hm1 : (s : Int) - 261 = (m : Int) := by omega
      have hq0 : (m : Int) / 4 = ((m / 4 : Nat) : Int) := by omega
      have hq1 : m / 4 ≤ m := Nat.div_le_self _ _
      rw [hm]
      have h3 : (s : Int) ≠ 285 := by omega
      have hm9 : m ≤ 1000 := by omega
      have h4 : decide ((s : Int) < 265) = false := decide_eq_false (by omega)
      have h5 : ((s : Int) == 285) = false := beq_eq_false_iff_ne.2 h3
      clear hm h1 h2 h3
      generalize m / 4 = q at *
      go_enter Try.func15, Try.ntmps15
      go_wp2
      go_ret
      exact ⟨rfl, Below.refl _ _⟩

/-- DistanceBits. -/
theorem distanceBits_any (w : World) (s : Nat) (hs : s ≤ 1000) : Calls Try.prog 19 #[.int .i64 (s : Int)] w fun e w' => e = .returned (.int .i64 (dbits s : Int)) ∧ Below w.heap.size w w' := by
  by_cases h1 : s < 4
  · have e : dbits s = 0 := if_pos h1
    rw [e]
    clear e
    go_enter Try.func19, Try.ntmps19
    go_wp2
    go_ret
    exact ⟨rfl, Below.refl _ _⟩
  · have e : dbits s = (s - 2) / 2 := if_neg h1
    rw [e]
    clear e
    obtain ⟨m, hm⟩ : ∃ m, s - 2 = m := ⟨_, rfl⟩
    have hm1 : (s : Int) - 2 = (m : Int) := by omega
    have hq0 : (m : Int) / 2 = ((m / 2 : Nat) : Int) := by omega
    have hq1 : m / 2 ≤ m := Nat.div_le_self _ _
    rw [hm]
    generalize m / 2 = q at *
    go_enter Try.func19, Try.ntmps19
    go_wp2
    go_ret
    exact ⟨rfl, Below.refl _ _⟩

set_option maxRecDepth 100000 in
set_option maxHeartbeats 2000000 in
/-- last. -/
theorem last_any (w : World) (v : Value) (S : List (Nat × Nat)) (n : Nat) (hrow : NumRow w v (S.map (·.1))) (hr : Rises S) (hlen : S.length ≤ 1000) (h0 : 0 < S.length) (hlo : S[0].1 ≤ n) (_hn : n ≤ 1000000) (hsm : ∀ p ∈ S, p.1 < 65536) :
    Calls Try.prog 24 #[v, .int .i64 (n : Int)] w fun e w' => e = .returned (.int .i64 (at_ S n : Int)) ∧ Below w.heap.size w w' := by
  have hp := upTo_pos S n h0 hlo
  have hu := upTo_le S n
  have hat : at_ S n + 1 = upTo S n := by unfold at_; omega
  generalize hk0 : at_ S n = t at *
  have hrow0 := fun W (hb : Below w.heap.size w W) => hrow.below hb (Nat.le_refl _)
  obtain ⟨a, cap, rfl, hcap, hnn, -⟩ := hrow
  rw [List.length_map] at hcap
  have hiff := fun k hk => upTo_iff S n hr k hk
  clear hr hlo hk0 hnn
  go_enter Try.func24, Try.ntmps24
  go_wp2
  go_loopw [5] (fun i wr => ∃ k : Nat, k ≤ t ∧ i = .int .i64 (k : Int) ∧ Below w.heap.size w wr) (fun i _ => t - (intOf i).toNat)
  case atStart => exact ⟨0, Nat.zero_le _, rfl, Below.refl _ _⟩
  case round =>
    obtain ⟨k, hk, rfl, hb⟩ := hrel
    by_cases hin : k + 1 < S.length
    · obtain ⟨a', cap', e1, _, _, hcell⟩ := hrow0 _ hb
      obtain ⟨rfl, -, rfl⟩ := Value.slice.inj e1
      obtain ⟨b, off, rfl, c0⟩ := hcell (k + 1) (by simpa using hin)
      rw [List.getElem_map] at c0
      have hi := hiff (k + 1) hin
      have hs := hsm _ (List.getElem_mem hin)
      rw [List.length_map] at *
      generalize S[k + 1].1 = y at *
      clear hcell hrow0 hiff e1 hsm
      by_cases hlt : k < t
      · have hy : y ≤ n := hi.2 (by omega)
        clear hi
        go_wp2
        go_roundw
        case rel => exact ⟨k + 1, by omega, by go_num, hb⟩
        case measure => simp [intOf]; omega
      · have hy : ¬ y ≤ n := fun h => absurd (hi.1 h) (by omega)
        clear hi
        obtain rfl : k = t := by omega
        clear hat hp hu
        go_wp2
        go_ret
        exact ⟨rfl, hb⟩
    · obtain rfl : k = t := by omega
      clear hrow0 hiff hsm
      rw [List.length_map] at *
      go_wp2
      go_ret
      exact ⟨rfl, hb⟩

end Go.Proofs.Ytmooiheomecieaa.Tok
