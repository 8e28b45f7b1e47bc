/-
  Every Heights answers as the document says, of the order, and of rows that are none; what is handed in stays: the walk of LcpHeights. No conditions.
-/
import Derived.Test.YtfifkbadniekfaaLcpH
namespace Go.Proofs.Ytfifkbadniekfaa.lcpHeights
open Go.RowKit Go.Proofs.Ytfifkbadniekfaa.Suf Go.Proofs.Ytfifkbadniekfaa.Lcp

set_option maxRecDepth 100000 in
set_option maxHeartbeats 8000000 in
theorem walk (w : World) (v : Value) (b : List Nat) (h : ByteRow w v b) (u : Value) (xs : List Int) (hu : IntRow w u xs) :
    Calls Try.prog 3 #[v, u] w fun e w' => e = .returned (.bool true) ∧ Below w.heap.size w w' := by
  obtain ⟨va, vc, rfl⟩ : ∃ a c, v = .slice a b.length c := by obtain ⟨a, c, e, _⟩ := h; exact ⟨a, c, e⟩
  obtain ⟨ua, uc, rfl⟩ : ∃ a c, u = .slice a xs.length c := by obtain ⟨a, c, e, _⟩ := hu; exact ⟨a, c, e⟩
  by_cases c1 : 300 < b.length
  · clear h hu
    generalize xs.length = m
    go_enter Try.func3, Try.ntmps3
    go_wp2
    go_ret
    exact ⟨rfl, Below.refl _ _⟩
  by_cases c2 : 400 < xs.length
  · clear h hu
    go_enter Try.func3, Try.ntmps3
    go_wp2
    go_ret
    exact ⟨rfl, Below.refl _ _⟩
  have HV : Hid (∀ W r, St w.heap.size w W r → ByteRow W (.slice va b.length vc) b) := Lib.hid fun W r t => h.below (t.below (Nat.le_refl _)) (Nat.le_refl _)
  have HU : Hid (∀ W r, St w.heap.size w W r → IntRow W (.slice ua xs.length uc) xs) := Lib.hid fun W r t => hu.below (t.below (Nat.le_refl _)) (Nat.le_refl _)
  have hle : b.length ≤ 300 := by omega
  have hle2 : xs.length ≤ 400 := by omega
  clear h hu
  go_enter Try.func3, Try.ntmps3
  go_wp2_with fail
  refine (orderEnd_st (St.start w) _ b (fun W t => HV.out W _ t) (by omega)).mono ?_
  rintro e w1 ⟨O, vo, hO, rfl, s1⟩
  have hOl : O.length ≤ 300 := by rw [hO.len]; exact hle
  have hOm : ∀ x ∈ O, x ≤ 1000000 := fun x hx => by have := hO.mem x hx; omega
  go_wp2_with (at_builtin; refine wpList_copyNums (xs := O) rfl _ _ rfl s1 s1.numRow rfl rfl (by omega) ?_)
  intro vi w2 s2
  clear s1
  have HI : Hid (∀ W r, St w.heap.size w W (rowT 3 1 vi O.length (i64s O) :: r) → IntRow W vi (O.map fun x : Nat => (x : Int))) := Lib.hid fun W r t => NumRow.intRow t.numRow hOm
  go_wp2_with fail
  refine (heights_st s2 _ vi b _ (fun W t => HV.out W _ t) (fun W t => HI.out W _ t) (by omega) (by rw [List.length_map]; omega)).mono ?_
  rintro e w3 hh
  obtain ⟨L1, f1, v1, hA1, rfl, s3⟩ := hh.row
  clear hh s2
  go_wp2_with fail
  refine (refHeights_st s3 _ vo b _ (fun W t => HV.out W _ t) (fun W t => NumRow.intRow t.drop.drop.numRow hOm) (by omega) (by rw [List.length_map]; omega)).mono ?_
  rintro e w4 hh
  obtain ⟨L2, f2, v2, hA2, rfl, s4⟩ := hh.row
  obtain ⟨rfl, rfl⟩ := hA1.one hA2
  have hL1 := hA1.le (by omega)
  clear hh s3 hA1 hA2
  go_wp2_with fail
  refine (heights_st s4 _ (.slice ua xs.length uc) b xs (fun W t => HV.out W _ t) (fun W t => HU.out W _ t) (by omega) (by omega)).mono ?_
  rintro e w5 hh
  obtain ⟨L3, f3, v3, hA3, rfl, s5⟩ := hh.row
  clear hh s4
  go_wp2_with fail
  refine (refHeights_st s5 _ (.slice ua xs.length uc) b xs (fun W t => HV.out W _ t) (fun W t => HU.out W _ t) (by omega) (by omega)).mono ?_
  rintro e w6 hh
  obtain ⟨L4, f4, v4, hA4, rfl, s6⟩ := hh.row
  obtain ⟨rfl, rfl⟩ := hA3.one hA4
  have hL3 := hA3.le (by omega)
  clear hh s5 hA3 hA4
  go_wp2_with fail
  refine (same_st s6 v1 v2 L1 L1 s6.drop.drop.drop.numRow s6.drop.drop.numRow (by omega) hL1.2 hL1.2).mono ?_
  rintro e w7 ⟨rfl, s7⟩
  rw [show decide (L1 = L1) = true from decide_eq_true rfl]
  clear s6
  go_wp2_with fail
  refine (same_st s7 vi vo O O s7.drop.drop.drop.drop.numRow s7.drop.drop.drop.drop.drop.numRow (by omega) hOm hOm).mono ?_
  rintro e w8 ⟨rfl, s8⟩
  rw [show decide (O = O) = true from decide_eq_true rfl]
  clear s7
  go_wp2_with fail
  refine (same_st s8 v3 v4 L3 L3 s8.drop.numRow s8.numRow (by omega) hL3.2 hL3.2).mono ?_
  rintro e w9 ⟨rfl, s9⟩
  rw [show decide (L3 = L3) = true from decide_eq_true rfl]
  have b1 := s9.below (Nat.le_refl _)
  clear s8 s9 hL1 hL3
  go_wp2_with fail
  refine (heights_any w9).mono ?_
  rintro e w10 ⟨rfl, b2⟩
  go_wp2_with fail
  go_ret
  exact ⟨rfl, b1.trans (b2.mono b1.size)⟩

end Go.Proofs.Ytfifkbadniekfaa.lcpHeights
