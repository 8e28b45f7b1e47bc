/-
  The walk of TokenKnown. No conditions.
-/
import Derived.Test.YtmooiheomecieaaTokX
namespace Go.Proofs.Ytmooiheomecieaa.tokenKnown
open Go.RowKit Tok

/-- What may not be. -/
def tab : List Tk := [(2, 1, 0), (259, 1, 0), (3, 0, 0), (3, 32769, 0), (0, 1, 0), (3, 1, 1), (-1, 1, 0), (3, -1, 0)]

theorem tab_bad (k : Nat) (hk : k < tab.length) : may tab[k] = false ∧ InT tab[k] := by
  have h : ∀ j : Fin 8, may (tab.getD j.1 (0, 0, 0)) = false ∧ InT (tab.getD j.1 (0, 0, 0)) := by unfold InT; decide
  have := h ⟨k, hk⟩
  rw [List.getD_eq_getElem?_getD, List.getElem?_eq_getElem hk] at this
  exact this

theorem rep_same (x : Nat) : ∀ (n m : Nat), rep 1 n (List.replicate (m + 1) x) = List.replicate (m + 1 + n) x
  | 0, _ => rfl
  | n + 1, m => by
    rw [rep]
    have e : (List.replicate (m + 1) x).getD ((List.replicate (m + 1) x).length - 1) 0 = x := by simp
    rw [e, show List.replicate (m + 1) x ++ [x] = List.replicate (m + 1 + 1) x from (List.replicate_succ' ..).symm, rep_same x n (m + 1)]
    congr 1
    omega

theorem long : exErr [(0, 0, 7), (258, 1, 0)] = 0 ∧ exAns [(0, 0, 7), (258, 1, 0)] = List.replicate 259 7 := by
  refine ex_some (by decide) ?_
  show say [] [(0, 0, 7), (258, 1, 0)] = _
  rw [say, if_pos (by decide), say, if_neg (by decide), if_neg (by decide), say]
  have := rep_same 7 258 0
  exact congrArg some this

theorem fits_two {a b : Tk} (ha : InT a) (hb : InT b) : Fits [a, b] := by
  intro t ht
  simp only [List.mem_cons, List.not_mem_nil, or_false] at ht
  rcases ht with rfl | rfl
  · exact ha
  · exact hb

set_option maxRecDepth 100000 in
set_option maxHeartbeats 8000000 in
theorem walk (w : World) : Calls Try.prog 8 #[] w fun e w' => e = .returned (.bool true) ∧ Below w.heap.size w w' := by
  have hsays := fun W => says_any W
  have h1 := fun W => length_any W 12 (by decide) (by decide)
  have h2 := fun W => length_any W 258 (by decide) (by decide)
  have h3 := fun W => distance_any W 32768 (by decide) (by decide)
  have h4 := fun W => length_any W 2 (by decide) (by decide)
  have h5 := fun W => length_any W 259 (by decide) (by decide)
  have h6 := fun W => distance_any W 0 (by decide) (by decide)
  have h7 := fun W => distance_any W 32769 (by decide) (by decide)
  rw [show lenAns 12 = (265, 1, 1, 0) by decide] at h1
  rw [show lenAns 258 = (285, 0, 0, 0) by decide] at h2
  rw [show disAns 32768 = (29, 13, 8191, 0) by decide] at h3
  rw [show lenAns 2 = (0, 0, 0, 5) by decide] at h4
  rw [show lenAns 259 = (0, 0, 0, 5) by decide] at h5
  rw [show disAns 0 = (0, 0, 0, 5) by decide] at h6
  rw [show disAns 32769 = (0, 0, 0, 5) by decide] at h7
  have x1 : exErr [(3, 1, 0)] = 2 ∧ exAns [(3, 1, 0)] = [] := by decide
  have x2 : exErr [(3, 1, 0), (2, 1, 0)] = 5 ∧ exAns [(3, 1, 0), (2, 1, 0)] = [] := by decide
  have x3 := long
  have f1 : Fits [(3, 1, 0)] := by
    intro t ht
    simp only [List.mem_cons, List.not_mem_nil, or_false] at ht
    subst ht
    unfold InT; decide
  have f2 : Fits [(3, 1, 0), (2, 1, 0)] := fits_two (by unfold InT; decide) (by unfold InT; decide)
  have f3 : Fits [(0, 0, 7), (258, 1, 0)] := fits_two (by unfold InT; decide) (by unfold InT; decide)
  go_enter Try.func8, Try.ntmps8
  go_wp2_with fail
  refine (h1 _).mono ?_
  rintro e w1 ⟨rfl, b1⟩
  go_wp2_with fail
  refine (h2 _).mono ?_
  rintro e w2 ⟨rfl, b2⟩
  go_wp2_with fail
  refine (h3 _).mono ?_
  rintro e w3 ⟨rfl, b3⟩
  go_wp2_with fail
  refine (h4 _).mono ?_
  rintro e w4 ⟨rfl, b4⟩
  go_wp2_with fail
  refine (h5 _).mono ?_
  rintro e w5 ⟨rfl, b5⟩
  go_wp2_with fail
  refine (h6 _).mono ?_
  rintro e w6 ⟨rfl, b6⟩
  go_wp2_with fail
  refine (h7 _).mono ?_
  rintro e w7 ⟨rfl, b7⟩
  have s0 := (((((((St.start w).quiet b1).quiet b2).quiet b3).quiet b4).quiet b5).quiet b6).quiet b7
  have s1 := s0.newBox (tks tab).toArray 37
  clear h1 h2 h3 h4 h5 h6 h7 b1 b2 b3 b4 b5 b6 b7 s0
  go_wp2_with fail
  generalize w7.heap.size = g0 at *
  go_loopw [30, 31, 32] (fun i _ _ wr => ∃ k : Nat, k ≤ 8 ∧ i = .int .i64 (k : Int) ∧ St w.heap.size w wr [boxT g0 (tks tab).toArray 37]) (fun i _ _ _ => 8 - (intOf i).toNat)
  case atStart => exact ⟨0, Nat.zero_le _, rfl, s1⟩
  case round =>
    clear s1
    obtain ⟨k, hk, rfl, s1⟩ := hrel
    by_cases hlt : k < 8
    · obtain ⟨hbad, hin⟩ := tab_bad k hlt
      obtain ⟨g1, g2, g3⟩ := tks_get tab k hlt
      obtain ⟨tl, td, ty, hs⟩ : ∃ tl td ty, tab[k]'hlt = (tl, td, ty) := ⟨_, _, _, rfl⟩
      rw [hs] at hbad hin g1 g2 g3
      have c0 : wr.cell? ⟨g0, k * 3, none⟩ = some (.int .i64 tl) := by rw [(s1.boxAt (k * 3)).1]; simpa using g1
      have c1 : wr.cell? ⟨g0, k * 3 + 1, none⟩ = some (.int .i64 td) := by rw [(s1.boxAt (k * 3 + 1)).1]; simpa using g2
      have c2 : wr.cell? ⟨g0, k * 3 + 2, none⟩ = some (.int .u8 (ty : Int)) := by rw [(s1.boxAt (k * 3 + 2)).1]; simpa using g3
      have hE : exErr [(0, 0, 1), (tl, td, ty)] = 5 ∧ exAns [(0, 0, 1), (tl, td, ty)] = [] := ex_bad (by rw [List.all_eq_false]; exact ⟨(tl, td, ty), by simp, by rw [hbad]; simp⟩)
      have hex := expand_st (s1.newBox (tks [(0, 0, 1), (tl, td, ty)]).toArray 37) _ _ (toks_box (fits_two (by unfold InT; decide) hin) (show 2 ≤ maxLen by decide)) (show 2 ≤ 100000 by decide)
      unfold ExpandSt at hex
      rw [hE.1, hE.2] at hex
      clear hbad hin g1 g2 g3 hs hE x1 x2 x3 f1 f2 f3 hsays
      go_wp2_with (go_at_call 20; refine hex.mono ?_; rintro e w8 ⟨v8, rfl, s8⟩; obtain ⟨va, vc, rfl⟩ := ownsRow_slice s8.row)
      exact ⟨⟨k + 1, by omega, by go_num, s8.drop.drop⟩, by simp [intOf]; omega⟩
    · obtain rfl : k = 8 := by omega
      clear hk hlt
      have s1 := s1.drop
      have hex := expand_st (s1.newBox (tks [(3, 1, 0)]).toArray 37) _ _ (toks_box f1 (by decide)) (by decide)
      unfold ExpandSt at hex
      rw [x1.1, x1.2] at hex
      go_wp2_with fail
      refine hex.mono ?_
      rintro e w8 ⟨v8, rfl, s8⟩
      obtain ⟨va, vc, rfl⟩ := ownsRow_slice s8.row
      have s8 := s8.drop.drop
      clear hex s1
      have hex := expand_st (s8.newBox (tks [(3, 1, 0), (2, 1, 0)]).toArray 37) _ _ (toks_box f2 (by decide)) (by decide)
      unfold ExpandSt at hex
      rw [x2.1, x2.2] at hex
      go_wp2_with fail
      refine hex.mono ?_
      rintro e w9 ⟨v9, rfl, s9⟩
      obtain ⟨va9, vc9, rfl⟩ := ownsRow_slice s9.row
      have s9 := s9.drop.drop
      clear hex s8
      have hex := expand_st (s9.newBox (tks [(0, 0, 7), (258, 1, 0)]).toArray 37) _ _ (toks_box f3 (by decide)) (by decide)
      unfold ExpandSt at hex
      rw [x3.1, x3.2] at hex
      go_wp2_with fail
      refine hex.mono ?_
      rintro e w10 ⟨v10, rfl, s10⟩
      clear hex s9 x1 x2 x3 f1 f2 f3
      rw [List.length_replicate] at s10
      obtain ⟨g, cap, rfl, hcap⟩ := s10.rowShape (by decide)
      have hcell : w10.cell? ⟨g, 258, none⟩ = some (.int .u8 7) := by
        rw [s10.row.cellAt 258 (by decide)]
        rw [u8s_get _ _ (by simp), List.getElem_replicate]
        rfl
      have hb := s10.below (Nat.le_refl _)
      clear s10
      go_wp2_with (go_at_call 17; refine (hsays _).mono ?_; rintro e w11 ⟨rfl, b11⟩)
      go_ret
      exact ⟨rfl, Below.andThen hb b11⟩

end Go.Proofs.Ytmooiheomecieaa.tokenKnown
