/-
  Every Places answers as the document says; what is handed in stays: the walk of SufsortPlaces. No conditions.
-/
import Derived.Test.YthcbmkbgchobfaaSufM
namespace Go.Proofs.Ythcbmkbgchobfaa.sufsortPlaces
open Go.RowKit Go.Proofs.Ythcbmkbgchobfaa.Suf

set_option maxRecDepth 100000 in
set_option maxHeartbeats 8000000 in
theorem walk (w : World) (v : Value) (b : List Int) (h : IntRow w v b) :
    Calls Try.prog 4 #[v] w fun e w' => e = .returned (.bool true) ∧ Below w.heap.size w w' := by
  have hbyte : ∀ x ∈ b, -9223372036854775808 ≤ x ∧ x ≤ 9223372036854775807 := fun x hx => by
    obtain ⟨a, c, _, _, _, hat⟩ := h
    obtain ⟨i, hi, rfl⟩ := List.mem_iff_getElem.1 hx
    exact (hat i hi).1
  obtain ⟨va, vc, rfl⟩ : ∃ a c, v = .slice a b.length c := by obtain ⟨a, c, e, _⟩ := h; exact ⟨a, c, e⟩
  by_cases c1 : 300 < b.length
  · go_enter Try.func4, Try.ntmps4
    go_wp2
    go_ret
    exact ⟨rfl, Below.refl _ _⟩
  have HV : Hid (∀ W r, St w.heap.size w W r → IntRow W (.slice va b.length vc) b) := Lib.hid fun W r t => h.below (t.below (Nat.le_refl _)) (Nat.le_refl _)
  have HI : Hid (∀ W g r, St w.heap.size w W (rowT 3 1 g b.length (iVals b) :: r) → IntRow W g b) := Lib.hid fun W g r t => intRow_of t.row rfl hbyte
  have HB := Lib.hid h
  have hle : b.length ≤ 300 := by omega
  clear h hbyte
  go_enter Try.func4, Try.ntmps4
  go_wp2_with (at_builtin; refine wpList_copyInts (xs := b) rfl _ _ rfl (St.start w) HB.out rfl rfl (by omega) ?_)
  intro vi w1 s1
  go_wp2_with fail
  refine (places_st s1 vi b (fun W t => HI.out W _ _ t) (by omega)).mono ?_
  rintro e w2 (⟨J, hJ, g, rfl, s2⟩ | ⟨hno, rfl, s2⟩)
  · have hJl : J.length ≤ 300 := by rw [hJ.1]; exact hle
    have hJm : ∀ x ∈ J, x ≤ 1000000 := fun x hx => by
      obtain ⟨i, hi, rfl⟩ := List.mem_iff_getElem.1 hx
      have := hJ.lt hi
      omega
    clear s1
    go_wp2_with fail
    refine (refPlaces_st s2 _ b (fun W t => HV.out W _ t) (by omega)).mono ?_
    rintro e w3 (⟨J2, hJ2, g2, rfl, s3⟩ | ⟨hno, _⟩)
    · obtain rfl := hJ.one hJ2
      clear s2
      go_wp2_with fail
      refine (same_st s3 _ _ J J (numsRow s3.swap rfl) (numsRow s3 rfl) (by omega) hJm hJm).mono ?_
      rintro e w4 ⟨rfl, s4⟩
      rw [show decide (J = J) = true from decide_eq_true rfl]
      have s5 := s4.drop.drop
      clear s3 s4 hJ hJ2
      go_wp2_with fail
      refine (same_any w4 _ _ b b (HI.out w4 _ _ s5) (HV.out w4 _ s5) (by omega)).mono ?_
      rintro e w5 ⟨rfl, k, rfl⟩
      rw [show decide (b = b) = true from decide_eq_true rfl]
      have b1 := (s5.drewN k).below (Nat.le_refl _)
      clear s5
      generalize w4.drewN k = w5 at *
      go_wp2_with fail
      refine (sorts_any w5).mono ?_
      rintro e w8 ⟨rfl, b2⟩
      go_wp2_with fail
      go_ret
      exact ⟨rfl, b1.trans (b2.mono b1.size)⟩
    · exact absurd hJ (hno _)
  · clear s1
    go_wp2_with fail
    refine (refPlaces_st s2 _ b (fun W t => HV.out W _ t) (by omega)).mono ?_
    rintro e w3 (⟨J2, hJ2, _⟩ | ⟨_, rfl, s3⟩)
    · exact absurd hJ2 (hno _)
    · clear s2 hno
      go_wp2_with fail
      refine (same_st s3 _ _ [] [] (numRow_none _) (numRow_none _) (by simp) (by simp) (by simp)).mono ?_
      rintro e w4 ⟨rfl, s5⟩
      clear s3
      rw [show decide (([] : List Nat) = []) = true from decide_eq_true rfl]
      go_wp2_with fail
      refine (same_any w4 _ _ b b (HI.out w4 _ _ s5) (HV.out w4 _ s5) (by omega)).mono ?_
      rintro e w5 ⟨rfl, k, rfl⟩
      rw [show decide (b = b) = true from decide_eq_true rfl]
      have b1 := (s5.drewN k).below (Nat.le_refl _)
      clear s5
      generalize w4.drewN k = w5 at *
      go_wp2_with fail
      refine (sorts_any w5).mono ?_
      rintro e w8 ⟨rfl, b2⟩
      go_wp2_with fail
      go_ret
      exact ⟨rfl, b1.trans (b2.mono b1.size)⟩

end Go.Proofs.Ythcbmkbgchobfaa.sufsortPlaces
