/-
  Contracts of the document's own answers for layer 3 (package pressworkref03), bit by bit. No conditions but that rows are of at most 2^46 bytes.
-/
import Derived.Test.YtiggbioaaglgaaaCrcC
namespace Go.Proofs.Ytiggbioaaglgaaa.Crc
open Go.RowKit

theorem regL_snoc (r : Reg) (x n : Nat) : regL r (bitsOf x (n + 1)) = stepL (regL r (bitsOf x n)) (x / 2 ^ n % 2 == 1) := by
  rw [bitsOf_snoc, regL_append]
  rfl

set_option maxRecDepth 100000 in
set_option maxHeartbeats 1000000 in
theorem refLow_any (w : World) (v : Value) (xs : List Nat) (h : ByteRow w v xs) (hl : xs.length ≤ 140737488355328) :
    Calls Try.prog 32 #[v] w fun e w' => e = .returned (.int .u32 (lowSum xs : Int)) ∧ w = w' := by
  obtain ⟨a, cap, rfl, hc, hn, hat⟩ := h
  go_enter Try.func32, Try.ntmps32
  go_wp2
  go_loopw [3, 4] (fun r i wr => ∃ k : Nat, k ≤ xs.length ∧ i = .int .i64 (k : Int) ∧ r = .int .u32 ((lowReg (xs.take k)).toNat : Int) ∧ wr = w) (fun _ i _ => xs.length - (intOf i).toNat)
  case atStart => exact ⟨0, by omega, rfl, rfl, rfl⟩
  case round =>
    obtain ⟨k, hk, rfl, rfl, rfl⟩ := hrel
    by_cases hlt : k < xs.length
    · obtain ⟨hx, b0, off, rfl, c0⟩ := hat k hlt
      have HT := Lib.hid (lowReg_snoc xs k hlt)
      generalize xs[k] = x at hx c0 HT
      generalize lowReg (xs.take k) = r at HT
      have hd : decide ((k : Int) < (xs.length : Int)) = true := by simp; omega
      have HX := Lib.hid hx
      clear hx hat
      go_wp2
      go_loopw [3, 5, 6] (fun q c j wr2 => ∃ n : Nat, n ≤ 8 ∧ j = .int .i64 (n : Int) ∧ c = .int .u8 ((x / 2 ^ n : Nat) : Int) ∧ q = .int .u32 ((regL r (bitsOf x n)).toNat : Int) ∧ wr2 = wr) (fun _ _ j _ => 8 - (intOf j).toNat)
      case atStart => exact ⟨0, by omega, rfl, by simp, rfl, rfl⟩
      case round =>
        obtain ⟨n, hn8, rfl, rfl, rfl, rfl⟩ := hrel
        by_cases hlt8 : n < 8
        · have hs := regL_snoc r x n
          have hz : x / 2 ^ (n + 1) = x / 2 ^ n / 2 := by rw [Nat.pow_succ, ← Nat.div_div_eq_div_mul]
          have hy : x / 2 ^ n < 256 := Nat.lt_of_le_of_lt (Nat.div_le_self _ _) HX.out
          have hq : (regL r (bitsOf x n)).toNat < 4294967296 := (regL r (bitsOf x n)).isLt
          have hs2 := stepL_nat (regL r (bitsOf x n)) (x / 2 ^ n % 2 == 1)
          rw [← hs] at hs2
          generalize x / 2 ^ n = y at hy hz hs2
          generalize (regL r (bitsOf x n)).toNat = q at hq hs2
          have d8 : decide ((n : Int) < 8) = true := by simp; omega
          have HZ := Lib.hid hz
          clear hs hz
          by_cases hp : (y + q) % 2 = 1
          · have e1 : ((y : Int) + (q : Int)) % 4294967296 % 2 = 1 := by omega
            have e2 := u32_xor_nat (q / 2) 3988292384 (by omega) (by omega)
            have hs3 : (regL r (bitsOf x (n + 1))).toNat = q / 2 ^^^ 3988292384 := by
              rw [hs2]
              rcases Nat.mod_two_eq_zero_or_one y with h1 | h1 <;> rcases Nat.mod_two_eq_zero_or_one q with h2 | h2 <;> simp [h1, h2] <;> omega
            have HS := Lib.hid (And.intro hs3 e2)
            clear hs3 e2 hs2 hp
            go_wp2
            go_roundw
            case rel => exact ⟨n + 1, by omega, by go_num, by rw [HZ.out]; simp, by rw [HS.out.1, ← HS.out.2]; simp, trivial⟩
            case measure => simp [intOf]; omega
          · have e1 : ((y : Int) + (q : Int)) % 4294967296 % 2 = 0 := by omega
            have hs3 : (regL r (bitsOf x (n + 1))).toNat = q / 2 := by
              rw [hs2]
              rcases Nat.mod_two_eq_zero_or_one y with h1 | h1 <;> rcases Nat.mod_two_eq_zero_or_one q with h2 | h2 <;> simp [h1, h2] <;> omega
            have HS := Lib.hid hs3
            clear hs3 hs2 hp
            go_wp2
            go_roundw
            case rel => exact ⟨n + 1, by omega, by go_num, by rw [HZ.out]; simp, by rw [HS.out]; simp, trivial⟩
            case measure => simp [intOf]; omega
        · obtain rfl : n = 8 := by omega
          go_wp2
          refine ⟨⟨k + 1, by omega, by go_num, by rw [HT.out], trivial⟩, by simp [intOf]; omega⟩
    · obtain rfl : k = xs.length := by omega
      rw [List.take_length]
      have hr : (lowReg xs).toNat < 4294967296 := (lowReg xs).isLt
      go_wp2
      go_ret
      refine ⟨ret_int ?_, rfl⟩
      exact u32_xor_nat _ 4294967295 hr (by omega)

theorem regH_take (r : Reg) (x n : Nat) (h : n < 8) : regH r ((Msb.bitsOf x 8).take (n + 1)) = stepH (regH r ((Msb.bitsOf x 8).take n)) (x / 2 ^ (7 - n) % 2 == 1) := by
  have hl := Msb.bitsOf_length x 8
  have e := Msb.bitsOf_get x 8 n h
  rw [List.getElem?_eq_getElem (by omega)] at e
  rw [List.take_succ_eq_append_getElem (by omega), regH_append, Option.some.inj e]
  rfl

end Go.Proofs.Ytiggbioaaglgaaa.Crc
