/-
  Every Ahead and Behind answers as the document says; what is handed in stays: the walk of NearFinds. No conditions.
-/
import Derived.Test.YtjchchinmggldaaNearF
namespace Go.Proofs.Ytjchchinmggldaa.nearFinds
open Go.RowKit Go.Proofs.Ytjchchinmggldaa.Suf Go.Proofs.Ytjchchinmggldaa.Near

set_option maxRecDepth 100000 in
set_option maxHeartbeats 8000000 in
theorem walk (w : World) (v : Value) (l : List Int) (h : IntRow w v l) :
    Calls Try.prog 3 #[v] w fun e w' => e = .returned (.bool true) ∧ Below w.heap.size w w' := by
  have hbyte : ∀ x ∈ l, -9223372036854775808 ≤ x ∧ x ≤ 9223372036854775807 := fun x hx => by
    obtain ⟨a, c, _, _, _, hat⟩ := h
    obtain ⟨i, hi, rfl⟩ := List.mem_iff_getElem.1 hx
    exact (hat i hi).1
  obtain ⟨va, vc, rfl⟩ : ∃ a c, v = .slice a l.length c := by obtain ⟨a, c, e, _⟩ := h; exact ⟨a, c, e⟩
  by_cases c1 : 600 < l.length
  · clear h
    go_enter Try.func3, Try.ntmps3
    go_wp2
    go_ret
    exact ⟨rfl, Below.refl _ _⟩
  have HV : Hid (∀ W r, St w.heap.size w W r → IntRow W (.slice va l.length vc) l) := Lib.hid fun W r t => h.below (t.below (Nat.le_refl _)) (Nat.le_refl _)
  have HI : Hid (∀ W g r, St w.heap.size w W (rowT 3 1 g l.length (iVals l) :: r) → IntRow W g l) := Lib.hid fun W g r t => intRow_of t.row rfl hbyte
  have HB := Lib.hid h
  have hle : l.length ≤ 600 := by omega
  clear h hbyte
  go_enter Try.func3, Try.ntmps3
  go_wp2_with (at_builtin; refine wpList_copyInts (xs := l) rfl _ _ rfl (St.start w) HB.out rfl rfl (by omega) ?_)
  intro vi w1 s1
  go_wp2_with fail
  refine (ahead_st s1 vi l (fun W t => HI.out W _ _ t) (by omega)).mono ?_
  rintro e w2 ⟨v2, rfl, s2⟩
  go_wp2_with fail
  refine (refAhead_st s2 _ l (fun W t => HV.out W _ t) (by omega)).mono ?_
  rintro e w3 ⟨v3, rfl, s3⟩
  clear s1 s2
  go_wp2_with fail
  refine (sameI_st s3 v2 v3 _ _ (ahRow s3.drop (by omega)) (ahRow s3 (by omega)) (by rw [aheads_length]; omega)).mono ?_
  rintro e w4 ⟨rfl, s4⟩
  rw [show decide (aheads l = aheads l) = true from decide_eq_true rfl]
  have s5 := s4.drop.drop
  clear s3 s4
  go_wp2_with fail
  refine (behind_st s5 vi l (fun W t => HI.out W _ _ t) (by omega)).mono ?_
  rintro e w6 ⟨v6, rfl, s6⟩
  go_wp2_with fail
  refine (refBehind_st s6 _ l (fun W t => HV.out W _ t) (by omega)).mono ?_
  rintro e w7 ⟨v7, rfl, s7⟩
  clear s5 s6
  go_wp2_with fail
  refine (sameI_st s7 v6 v7 _ _ (beRow s7.drop (by omega)) (beRow s7 (by omega)) (by rw [behs_length]; omega)).mono ?_
  rintro e w8 ⟨rfl, s8⟩
  rw [show decide (behs l = behs l) = true from decide_eq_true rfl]
  have s9 := s8.drop.drop
  clear s7 s8
  go_wp2_with fail
  refine (sameI_st s9 vi _ l l (HI.out _ _ _ s9) (HV.out _ _ s9) (by omega)).mono ?_
  rintro e w10 ⟨rfl, s10⟩
  rw [show decide (l = l) = true from decide_eq_true rfl]
  have hb := s10.below (Nat.le_refl _)
  clear s9 s10
  go_wp2_with fail
  refine (finds_any w10).mono ?_
  rintro e w11 ⟨rfl, b2⟩
  go_wp2_with fail
  go_ret
  exact ⟨rfl, hb.trans (b2.mono hb.size)⟩

end Go.Proofs.Ytjchchinmggldaa.nearFinds
