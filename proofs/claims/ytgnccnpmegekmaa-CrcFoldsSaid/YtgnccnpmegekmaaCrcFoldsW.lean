/-
  Every Fold: the walk of CrcFolds. No conditions.
-/
import Derived.Test.YtgnccnpmegekmaaCrcL
namespace Go.Proofs.Ytgnccnpmegekmaa.crcFolds
open Go.RowKit Go.Proofs.Ytgnccnpmegekmaa.Crc

theorem walk (w : World) (a0 : Int) (w0 : (Lit.int .u32 a0).wf = true) (a1 : Int) (w1 : (Lit.int .u32 a1).wf = true) :
    Calls Try.prog 4 #[.int .u32 a0, .int .u32 a1] w fun e w' => e = .returned (.bool true) ∧ Below w.heap.size w w' := by
  obtain ⟨x, rfl, hx⟩ := nat_of_u32 w0
  obtain ⟨y, rfl, hy⟩ := nat_of_u32 w1
  clear w0 w1
  go_enter Try.func4, Try.ntmps4
  go_wp2_with fail
  refine (fold_any w x y hx hy).mono ?_
  rintro e w1 ⟨rfl, rfl⟩
  go_wp2_with fail
  refine (refFold_any w x y hx hy).mono ?_
  rintro e w1 ⟨rfl, rfl⟩
  go_wp2_with fail
  refine (sums_st (St.start w)).mono ?_
  rintro e w2 ⟨rfl, s2⟩
  go_wp2
  go_ret
  exact ⟨rfl, s2.below (Nat.le_refl _)⟩

end Go.Proofs.Ytgnccnpmegekmaa.crcFolds
