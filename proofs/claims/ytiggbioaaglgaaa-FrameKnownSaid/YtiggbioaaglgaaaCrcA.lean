/-
  Contracts of package crc: what one bit that goes does to a register; Fold. No conditions.
-/
import Derived.Test.YtiggbioaaglgaaaCrcS
import Derived.Test.YtiggbioaaglgaaaStr
import Derived.Test.YtiggbioaaglgaaaRegion
namespace Go.Proofs.Ytiggbioaaglgaaa.Crc
open Go.RowKit

theorem stepL_nat (r : Reg) (b : Bool) : (stepL r b).toNat = if (r.toNat % 2 == 1) ^^ b then r.toNat / 2 ^^^ 3988292384 else r.toNat / 2 := by
  have h0 : r.getLsbD 0 = (r.toNat % 2 == 1) := by
    rw [BitVec.getLsbD, Nat.testBit_zero]
    rcases Nat.mod_two_eq_zero_or_one r.toNat with h | h <;> simp [h]
  unfold stepL
  rw [BitVec.toNat_xor, h0, BitVec.toNat_ushiftRight, Nat.shiftRight_eq_div_pow]
  cases ((r.toNat % 2 == 1) ^^ b) <;> simp

theorem stepH_nat (r : Reg) (b : Bool) : (stepH r b).toNat = if (r.toNat / 2147483648 == 1) ^^ b then r.toNat * 2 % 4294967296 ^^^ 79764919 else r.toNat * 2 % 4294967296 := by
  have h0 : r.msb = (r.toNat / 2147483648 == 1) := by
    have := r.isLt
    rw [BitVec.msb_eq_decide, Bool.eq_iff_iff]
    simp only [decide_eq_true_eq, beq_iff_eq]
    omega
  unfold stepH
  rw [BitVec.toNat_xor, h0, BitVec.toNat_shiftLeft, Nat.shiftLeft_eq]
  cases ((r.toNat / 2147483648 == 1) ^^ b) <;> simp

theorem and1_u32 (n : Nat) (h : n < 4294967296) : bits .and .u32 (n : Int) 1 = ((n % 2 : Nat) : Int) := by
  have := u32_and_nat n 1 h (by omega)
  rw [Nat.and_one_is_mod] at this
  exact this

/-- lowTurn: the lowest bit goes. -/
theorem lowTurn_any (w : World) (r : Reg) :
    Calls Try.prog 58 #[.int .u32 (r.toNat : Int)] w fun e w' => e = .returned (.int .u32 ((stepL r false).toNat : Int)) ∧ w = w' := by
  have hr : r.toNat < 4294967296 := r.isLt
  rw [stepL_nat, Bool.xor_false]
  generalize r.toNat = n at hr
  have e1 := and1_u32 n hr
  rcases Nat.mod_two_eq_zero_or_one n with h | h
  · rw [h] at e1
    simp only [h]
    go_enter Try.func58, Try.ntmps58
    go_wp2
    go_ret
    exact ⟨ret_int (by simp), rfl⟩
  · rw [h] at e1
    have e2 := u32_xor_nat (n / 2) 3988292384 (by omega) (by omega)
    simp only [h]
    have HH := Lib.hid h
    clear h
    go_enter Try.func58, Try.ntmps58
    go_wp2
    go_ret
    exact ⟨ret_int (by simpa using e2), rfl⟩

/-- All moved one to the left, round. -/
def fold (x y : Nat) : Nat := (x * 2 % 4294967296 + x / 2147483648) ^^^ y

end Go.Proofs.Ytiggbioaaglgaaa.Crc
