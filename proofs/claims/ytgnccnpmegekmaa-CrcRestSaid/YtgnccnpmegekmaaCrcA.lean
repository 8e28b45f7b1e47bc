/-
  Contracts of package crc: what one bit that goes does to a register; Fold. No conditions.
-/
import Derived.Test.YtgnccnpmegekmaaCrcS
import Derived.Test.YtgnccnpmegekmaaStr
import Derived.Test.YtgnccnpmegekmaaRegion
namespace Go.Proofs.Ytgnccnpmegekmaa.Crc
open Go.RowKit

theorem stepL_nat (r : Reg) (b : Bool) : (stepL r b).toNat = if (r.toNat % 2 == 1) ^^ b then r.toNat / 2 ^^^ 3988292384 else r.toNat / 2 := by
  have h0 : r.getLsbD 0 = (r.toNat % 2 == 1) := by
    rw [BitVec.getLsbD, Nat.testBit_zero]
    rcases Nat.mod_two_eq_zero_or_one r.toNat with h | h <;> simp [h]
  unfold stepL
  rw [BitVec.toNat_xor, h0, BitVec.toNat_ushiftRight, Nat.shiftRight_eq_div_pow]
  cases ((r.toNat % 2 == 1) ^^ b) <;> simp

theorem stepH_nat (r : Reg) (b : Bool) : (stepH r b).toNat = if (r.toNat / 2147483648 == 1) ^^ b then r.toNat * 2 % 4294967296 ^^^ 79764919 else r.toNat * 2 % 4294967296 := by
  have h0 : r.msb = (r.toNat / 2147483648 == 1) := by
    have := r.isLt
    rw [BitVec.msb_eq_decide, Bool.eq_iff_iff]
    simp only [decide_eq_true_eq, beq_iff_eq]
    omega
  unfold stepH
  rw [BitVec.toNat_xor, h0, BitVec.toNat_shiftLeft, Nat.shiftLeft_eq]
  cases ((r.toNat / 2147483648 == 1) ^^ b) <;> simp

theorem and1_u32 (n : Nat) (h : n < 4294967296) : bits .and .u32 (n : Int) 1 = ((n % 2 : Nat) : Int) := by
  have := u32_and_nat n 1 h (by omega)
  rw [Nat.and_one_is_mod] at this
  exact this

/-- lowTurn: the lowest bit goes. -/
theorem lowTurn_any (w : World) (r : Reg) :
    Calls Try.prog 19 #[.int .u32 (r.toNat : Int)] w fun e w' => e = .returned (.int .u32 ((stepL r false).toNat : Int)) ∧ w = w' := by
  have hr : r.toNat < 4294967296 := r.isLt
  rw [stepL_nat, Bool.xor_false]
  generalize r.toNat = n at hr
  have e1 := and1_u32 n hr
  rcases Nat.mod_two_eq_zero_or_one n with h | h
  · rw [h] at e1
    simp only [h]
    go_enter Try.func19, Try.ntmps19
    go_wp2
    go_ret
    exact ⟨ret_int (by simp), rfl⟩
  · rw [h] at e1
    have e2 := u32_xor_nat (n / 2) 3988292384 (by omega) (by omega)
    simp only [h]
    have HH := Lib.hid h
    clear h
    go_enter Try.func19, Try.ntmps19
    go_wp2
    go_ret
    exact ⟨ret_int (by simpa using e2), rfl⟩

/-- highTurn: the highest bit goes. -/
theorem highTurn_any (w : World) (r : Reg) :
    Calls Try.prog 22 #[.int .u32 (r.toNat : Int)] w fun e w' => e = .returned (.int .u32 ((stepH r false).toNat : Int)) ∧ w = w' := by
  have hr : r.toNat < 4294967296 := r.isLt
  rw [stepH_nat, Bool.xor_false]
  generalize r.toNat = n at hr
  have h : n / 2147483648 = 0 ∨ n / 2147483648 = 1 := by omega
  rcases h with h | h
  · have e1 : (n : Int) / 2147483648 = 0 := by omega
    simp only [h]
    go_enter Try.func22, Try.ntmps22
    go_wp2
    go_ret
    exact ⟨ret_int (by first | rfl | omega | trace_state), rfl⟩
  · have e1 : (n : Int) / 2147483648 = 1 := by omega
    have e2 := u32_xor_nat (n * 2 % 4294967296) 79764919 (by omega) (by omega)
    simp only [h]
    have HH := Lib.hid h
    have HE := Lib.hid e2
    clear h e2
    go_enter Try.func22, Try.ntmps22
    go_wp2
    go_ret
    exact ⟨ret_int (by simpa using HE.out), rfl⟩

/-- All moved one to the left, round. -/
def fold (x y : Nat) : Nat := (x * 2 % 4294967296 + x / 2147483648) ^^^ y

/-- Fold. -/
theorem fold_any (w : World) (x y : Nat) (hx : x < 4294967296) (hy : y < 4294967296) :
    Calls Try.prog 15 #[.int .u32 (x : Int), .int .u32 (y : Int)] w fun e w' => e = .returned (.int .u32 (fold x y : Int)) ∧ w = w' := by
  have e0 : x * 2 % 4294967296 ||| x / 2147483648 = x * 2 % 4294967296 + x / 2147483648 := by
    have h1 : x * 2 % 4294967296 = 2 ^ 1 * (x % 2147483648) := by omega
    rw [h1]
    exact (Nat.two_pow_add_eq_or_of_lt (i := 1) (by omega) _).symm
  have e1 := u32_or_nat (x * 2 % 4294967296) (x / 2147483648) (by omega) (by omega)
  rw [e0] at e1
  have e2 := u32_xor_nat (x * 2 % 4294967296 + x / 2147483648) y (by omega) (by omega)
  have HE := Lib.hid (And.intro e1 e2)
  clear e0 e1 e2
  go_enter Try.func15, Try.ntmps15
  go_wp2
  go_ret
  refine ⟨ret_int ?_, rfl⟩
  obtain ⟨e1, e2⟩ := HE.out
  simp only [Int.natCast_emod, Int.natCast_mul, Int.natCast_ediv, Int.natCast_add] at e1 e2
  unfold fold
  rw [← e2, ← e1]
  rfl

end Go.Proofs.Ytgnccnpmegekmaa.Crc
