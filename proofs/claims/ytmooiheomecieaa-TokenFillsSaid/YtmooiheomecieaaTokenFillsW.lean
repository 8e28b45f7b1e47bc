/-
  The walk of TokenFills. No conditions.
-/
import Derived.Test.YtmooiheomecieaaTokX
namespace Go.Proofs.Ytmooiheomecieaa.tokenFills
open Go.RowKit Tok

theorem lenOf_at (k : Nat) (hk : k < 28) : lenOfAns ((257 + k : Nat) : Int) = (rise 3 4 k, riseB 4 k, 0) := by
  have hl : k < lenS.length := by rw [lenS_length]; omega
  have h : lenOfAns ((257 + k : Nat) : Int) = _ := ansOf_in lenS 257 k hl
  rw [h]
  have e : lenS[k] = (rise 3 4 k, riseB 4 k) := by
    have h28 : k < (spansOf 3 4 28).length := by rw [spansOf_length]; exact hk
    have e1 : lenS[k] = (spansOf 3 4 28)[k] := List.getElem_append_left h28
    rw [e1, spansOf_get]
  rw [e]

theorem disOf_at (k : Nat) (hk : k < 30) : disOfAns (k : Int) = (rise 1 2 k, riseB 2 k, 0) := by
  have hl : k < disS.length := by rw [disS_length]; omega
  have h : disOfAns ((0 + k : Nat) : Int) = _ := ansOf_in disS 0 k hl
  rw [Nat.zero_add] at h
  rw [h]
  have e : disS[k] = (rise 1 2 k, riseB 2 k) := spansOf_get 1 2 30 k (by rw [spansOf_length]; exact hk)
  rw [e]

theorem len_small (k : Nat) (hk : k ≤ 28) : rise 3 4 k ≤ 259 ∧ riseB 4 k ≤ 13 := by
  have h : ∀ j : Fin 29, rise 3 4 j.1 ≤ 259 ∧ riseB 4 j.1 ≤ 13 := by decide
  exact h ⟨k, by omega⟩
theorem dis_small (k : Nat) (hk : k ≤ 30) : rise 1 2 k ≤ 32769 ∧ riseB 2 k ≤ 14 := by
  have h : ∀ j : Fin 31, rise 1 2 j.1 ≤ 32769 ∧ riseB 2 j.1 ≤ 14 := by decide
  exact h ⟨k, by omega⟩

set_option maxRecDepth 100000 in
set_option maxHeartbeats 4000000 in
theorem walk (w : World) : Calls Try.prog 6 #[] w fun e w' => e = .returned (.bool true) ∧ Below w.heap.size w w' := by
  have hsays := fun W => says_any W
  have hlast := fun W => lengthOf_any W 285 (by decide) (by decide)
  have e0 : lenOfAns 285 = (258, 0, 0) := by decide
  rw [e0] at hlast
  clear e0
  have z0 : rise 3 4 0 = 3 := rfl
  have z1 : rise 1 2 0 = 1 := rfl
  have z28 : rise 3 4 28 = 259 := by decide
  have z30 : rise 1 2 30 = 32769 := by decide
  go_enter Try.func6, Try.ntmps6
  go_wp2
  go_loopw [1, 2, 3, 4, 5] (fun nx s _ _ _ wr => ∃ k : Nat, k ≤ 28 ∧ s = .int .i64 ((257 + k : Nat) : Int) ∧ nx = .int .i64 (rise 3 4 k : Int) ∧ Below w.heap.size w wr) (fun _ s _ _ _ _ => 285 - (intOf s).toNat)
  case atStart => exact ⟨0, Nat.zero_le _, rfl, by rw [z0]; rfl, Below.refl _ _⟩
  case round =>
    obtain ⟨k, hk, rfl, rfl, hb⟩ := hrel
    obtain ⟨s1, s2⟩ := len_small k hk
    by_cases hlt : k < 28
    · have hof := fun W => lengthOf_any W ((257 + k : Nat) : Int) (by omega) (by omega)
      rw [lenOf_at k hlt] at hof
      have hn : rise 3 4 (k + 1) = rise 3 4 k + 2 ^ riseB 4 k := rfl
      obtain ⟨s3, s4⟩ := len_small (k + 1) (by omega)
      obtain ⟨nn, hnn⟩ : ∃ nn, rise 3 4 (k + 1) = nn := ⟨_, rfl⟩
      obtain ⟨P, hP⟩ : ∃ P : Nat, 2 ^ riseB 4 k = P := ⟨_, rfl⟩
      have hP1 : (2 : Int) ^ riseB 4 k = (P : Int) := by rw [← hP]; simp
      rw [hnn, hP] at hn
      rw [hnn] at s3
      have HNN := Lib.hid hnn
      generalize rise 3 4 k = a at *
      generalize riseB 4 k = z at *
      have hadd : (a : Int) + (P : Int) = (nn : Int) := by omega
      obtain ⟨m, hm⟩ : ∃ m, 257 + k = m := ⟨_, rfl⟩
      have hm1 : m < 285 := by omega
      have HM := Lib.hid hm
      rw [hm] at hof
      rw [hm]
      clear hm hnn hP hn hsays hlast z0 z1 z28 z30 hlt s4
      go_wp2_with (go_at_call 13; refine (hof _).mono ?_; rintro e w1 ⟨rfl, hb1⟩)
      have hk1 := HM.out
      exact ⟨⟨k + 1, by omega, by rw [← hk1]; go_num, by rw [HNN.out], Below.andThen hb hb1⟩, by simp [intOf]; omega⟩
    · obtain rfl : k = 28 := by omega
      rw [z28]
      clear s1 s2 hlt hk z0 z28
      go_wp2_with (go_at_call 13; refine (hlast _).mono ?_; rintro e w1 ⟨rfl, hb1⟩)
      have hb := Below.andThen hb hb1
      clear hb1 hlast
      go_loopw [1, 9, 10, 11, 12] (fun nx s _ _ _ wr => ∃ k : Nat, k ≤ 30 ∧ s = .int .i64 (k : Int) ∧ nx = .int .i64 (rise 1 2 k : Int) ∧ Below w.heap.size w wr) (fun _ s _ _ _ _ => 30 - (intOf s).toNat)
      case atStart => exact ⟨0, Nat.zero_le _, rfl, by rw [z1]; rfl, hb⟩
      case round =>
        clear hb
        obtain ⟨k, hk, rfl, rfl, hb⟩ := hrel
        obtain ⟨s1, s2⟩ := dis_small k hk
        by_cases hlt : k < 30
        · have hof := fun W => distanceOf_any W (k : Int) (by omega) (by omega)
          rw [disOf_at k hlt] at hof
          have hn : rise 1 2 (k + 1) = rise 1 2 k + 2 ^ riseB 2 k := rfl
          obtain ⟨s3, s4⟩ := dis_small (k + 1) (by omega)
          obtain ⟨nn, hnn⟩ : ∃ nn, rise 1 2 (k + 1) = nn := ⟨_, rfl⟩
          obtain ⟨P, hP⟩ : ∃ P : Nat, 2 ^ riseB 2 k = P := ⟨_, rfl⟩
          have hP1 : (2 : Int) ^ riseB 2 k = (P : Int) := by rw [← hP]; simp
          rw [hnn, hP] at hn
          rw [hnn] at s3
          have HNN := Lib.hid hnn
          generalize rise 1 2 k = a at *
          generalize riseB 2 k = z at *
          have hadd : (a : Int) + (P : Int) = (nn : Int) := by omega
          clear hnn hP hn hsays z1 z30 s4
          go_wp2_with (go_at_call 16; refine (hof _).mono ?_; rintro e w1 ⟨rfl, hb1⟩)
          exact ⟨⟨k + 1, by omega, by go_num, by rw [HNN.out], Below.andThen hb hb1⟩, by simp [intOf]; omega⟩
        · obtain rfl : k = 30 := by omega
          rw [z30]
          clear s1 s2 hlt hk z1 z30
          go_wp2_with (go_at_call 17; refine (hsays _).mono ?_; rintro e w1 ⟨rfl, hb1⟩)
          go_ret
          exact ⟨rfl, Below.andThen hb hb1⟩

end Go.Proofs.Ytmooiheomecieaa.tokenFills
