/-
  Every Low and High; what is handed in stays: the walk of CrcSums. No conditions.
-/
import Derived.Test.YtgnccnpmegekmaaCrcL
namespace Go.Proofs.Ytgnccnpmegekmaa.crcSums
open Go.RowKit Go.Proofs.Ytgnccnpmegekmaa.Crc

set_option maxRecDepth 100000 in
theorem walk (w : World) (v : Value) (xs : List Nat) (hb : ByteRow w v xs) :
    Calls Try.prog 3 #[v] w fun e w' => e = .returned (.bool true) ∧ Below w.heap.size w w' := by
  have hbyte := hb.byte
  obtain ⟨a, cap, rfl, hc, -⟩ := id hb
  by_cases c1 : 20000 < xs.length
  · go_enter Try.func3, Try.ntmps3
    go_wp2
    go_ret
    exact ⟨rfl, Below.refl _ _⟩
  · have hl : xs.length ≤ 140737488355328 := by omega
    have HB := Lib.hid hb
    clear hb
    go_enter Try.func3, Try.ntmps3
    go_wp2_with (at_builtin; refine wpList_copy rfl _ _ rfl (St.start w) HB.out rfl rfl hl ?_)
    intro v1 w1 s1
    go_wp2_with fail
    refine (low_st s1 (St.bytesRow s1 hbyte) hl).mono ?_
    rintro e w2 ⟨rfl, s2, -⟩
    clear s1
    go_wp2_with fail
    refine (refLow_any w2 _ xs (HB.out.below (s2.below (Nat.le_refl _)) (Nat.le_refl _)) hl).mono ?_
    rintro e w3 ⟨rfl, rfl⟩
    go_wp2_with fail
    refine (high_st s2 (St.bytesRow s2 hbyte) hl).mono ?_
    rintro e w3 ⟨rfl, s3, -⟩
    clear s2
    go_wp2_with fail
    refine (refHigh_any w3 _ xs (HB.out.below (s3.below (Nat.le_refl _)) (Nat.le_refl _)) hl).mono ?_
    rintro e w4 ⟨rfl, rfl⟩
    have hcv1 := s3.string
    have hcv2 := run_string w3 _ xs (HB.out.below (s3.below (Nat.le_refl _)) (Nat.le_refl _)).reads
    go_wp2_with fail
    refine (sums_st s3).mono ?_
    rintro e w5 ⟨rfl, s5⟩
    clear hcv1 hcv2 s3
    go_wp2
    go_ret
    exact ⟨rfl, s5.below (Nat.le_refl _)⟩

end Go.Proofs.Ytgnccnpmegekmaa.crcSums
