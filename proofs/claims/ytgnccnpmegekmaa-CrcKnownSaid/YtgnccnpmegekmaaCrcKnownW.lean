/-
  The chapter's examples of package crc: the walk of CrcKnown. No conditions.
-/
import Derived.Test.YtgnccnpmegekmaaCrcL
namespace Go.Proofs.Ytgnccnpmegekmaa.crcKnown
open Go.RowKit Go.Proofs.Ytgnccnpmegekmaa.Crc

theorem k1 : lowSum [] = 0 := by decide +kernel
theorem k2 : highSum [] = 0 := by decide +kernel
theorem k3 : lowSum [97, 98, 99] = 891568578 := by decide +kernel
theorem k4 : lowSum [0] = 3523407757 := by decide +kernel
theorem k5 : fold 0 0 = 0 := by decide
theorem k6 : fold 2147483648 0 = 1 := by decide
theorem k7 : fold 3 1 = 7 := by decide

set_option maxRecDepth 100000 in
theorem walk (w : World) : Calls Try.prog 9 #[] w fun e w' => e = .returned (.bool true) ∧ Below w.heap.size w w' := by
  have hcv := run_convert_lit
  go_enter Try.func9, Try.ntmps9
  go_wp2_with fail
  refine (low_st (St.start w) (byteRow_none w) (by decide)).mono ?_
  rintro e w1 ⟨rfl, s1, -⟩
  rw [k1]
  go_wp2_with fail
  refine (high_st s1 (byteRow_none w1) (by decide)).mono ?_
  rintro e w2 ⟨rfl, s2, -⟩
  rw [k2]
  clear s1
  go_wp2_with fail
  refine (low_st (s2.alloc _) (byteRow_lit w2 [97, 98, 99] (3, 4) (by decide)) (by decide)).mono ?_
  rintro e w3 ⟨rfl, s3, -⟩
  rw [k3]
  clear s2
  go_wp2_with fail
  refine (low_st (s3.alloc _) (byteRow_lit w3 [0] (0, 0) (by decide)) (by decide)).mono ?_
  rintro e w4 ⟨rfl, s4, -⟩
  rw [k4]
  clear s3
  go_wp2_with fail
  refine (fold_any w4 0 0 (by decide) (by decide)).mono ?_
  rintro e w5 ⟨rfl, rfl⟩
  rw [k5]
  go_wp2_with fail
  refine (fold_any w4 2147483648 0 (by decide) (by decide)).mono ?_
  rintro e w5 ⟨rfl, rfl⟩
  rw [k6]
  go_wp2_with fail
  refine (fold_any w4 3 1 (by decide) (by decide)).mono ?_
  rintro e w5 ⟨rfl, rfl⟩
  rw [k7]
  go_wp2_with fail
  refine (sums_st s4).mono ?_
  rintro e w6 ⟨rfl, s6⟩
  clear s4
  go_wp2
  go_ret
  exact ⟨rfl, s6.below (Nat.le_refl _)⟩

end Go.Proofs.Ytgnccnpmegekmaa.crcKnown
