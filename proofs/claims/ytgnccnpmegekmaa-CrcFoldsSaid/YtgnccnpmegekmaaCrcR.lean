/-
  Contracts of the document's own answers for layer 3 (package pressworkref03), bit by bit. No conditions but that rows are of at most 2^46 bytes.
-/
import Derived.Test.YtgnccnpmegekmaaCrcC
namespace Go.Proofs.Ytgnccnpmegekmaa.Crc
open Go.RowKit

theorem regL_snoc (r : Reg) (x n : Nat) : regL r (bitsOf x (n + 1)) = stepL (regL r (bitsOf x n)) (x / 2 ^ n % 2 == 1) := by
  rw [bitsOf_snoc, regL_append]
  rfl

set_option maxRecDepth 100000 in
set_option maxHeartbeats 1000000 in
theorem refLow_any (w : World) (v : Value) (xs : List Nat) (h : ByteRow w v xs) (hl : xs.length ≤ 140737488355328) :
    Calls Try.prog 11 #[v] w fun e w' => e = .returned (.int .u32 (lowSum xs : Int)) ∧ w = w' := by
  obtain ⟨a, cap, rfl, hc, hn, hat⟩ := h
  go_enter Try.func11, Try.ntmps11
  go_wp2
  go_loopw [3, 4] (fun r i wr => ∃ k : Nat, k ≤ xs.length ∧ i = .int .i64 (k : Int) ∧ r = .int .u32 ((lowReg (xs.take k)).toNat : Int) ∧ wr = w) (fun _ i _ => xs.length - (intOf i).toNat)
  case atStart => exact ⟨0, by omega, rfl, rfl, rfl⟩
  case round =>
    obtain ⟨k, hk, rfl, rfl, rfl⟩ := hrel
    by_cases hlt : k < xs.length
    · obtain ⟨hx, b0, off, rfl, c0⟩ := hat k hlt
      have HT := Lib.hid (lowReg_snoc xs k hlt)
      generalize xs[k] = x at hx c0 HT
      generalize lowReg (xs.take k) = r at HT
      have hd : decide ((k : Int) < (xs.length : Int)) = true := by simp; omega
      have HX := Lib.hid hx
      clear hx hat
      go_wp2
      go_loopw [3, 5, 6] (fun q c j wr2 => ∃ n : Nat, n ≤ 8 ∧ j = .int .i64 (n : Int) ∧ c = .int .u8 ((x / 2 ^ n : Nat) : Int) ∧ q = .int .u32 ((regL r (bitsOf x n)).toNat : Int) ∧ wr2 = wr) (fun _ _ j _ => 8 - (intOf j).toNat)
      case atStart => exact ⟨0, by omega, rfl, by simp, rfl, rfl⟩
      case round =>
        obtain ⟨n, hn8, rfl, rfl, rfl, rfl⟩ := hrel
        by_cases hlt8 : n < 8
        · have hs := regL_snoc r x n
          have hz : x / 2 ^ (n + 1) = x / 2 ^ n / 2 := by rw [Nat.pow_succ, ← Nat.div_div_eq_div_mul]
          have hy : x / 2 ^ n < 256 := Nat.lt_of_le_of_lt (Nat.div_le_self _ _) HX.out
          have hq : (regL r (bitsOf x n)).toNat < 4294967296 := (regL r (bitsOf x n)).isLt
          have hs2 := stepL_nat (regL r (bitsOf x n)) (x / 2 ^ n % 2 == 1)
          rw [← hs] at hs2
          generalize x / 2 ^ n = y at hy hz hs2
          generalize (regL r (bitsOf x n)).toNat = q at hq hs2
          have d8 : decide ((n : Int) < 8) = true := by simp; omega
          have HZ := Lib.hid hz
          clear hs hz
          by_cases hp : (y + q) % 2 = 1
          · have e1 : ((y : Int) + (q : Int)) % 4294967296 % 2 = 1 := by omega
            have e2 := u32_xor_nat (q / 2) 3988292384 (by omega) (by omega)
            have hs3 : (regL r (bitsOf x (n + 1))).toNat = q / 2 ^^^ 3988292384 := by
              rw [hs2]
              rcases Nat.mod_two_eq_zero_or_one y with h1 | h1 <;> rcases Nat.mod_two_eq_zero_or_one q with h2 | h2 <;> simp [h1, h2] <;> omega
            have HS := Lib.hid (And.intro hs3 e2)
            clear hs3 e2 hs2 hp
            go_wp2
            go_roundw
            case rel => exact ⟨n + 1, by omega, by go_num, by rw [HZ.out]; simp, by rw [HS.out.1, ← HS.out.2]; simp, trivial⟩
            case measure => simp [intOf]; omega
          · have e1 : ((y : Int) + (q : Int)) % 4294967296 % 2 = 0 := by omega
            have hs3 : (regL r (bitsOf x (n + 1))).toNat = q / 2 := by
              rw [hs2]
              rcases Nat.mod_two_eq_zero_or_one y with h1 | h1 <;> rcases Nat.mod_two_eq_zero_or_one q with h2 | h2 <;> simp [h1, h2] <;> omega
            have HS := Lib.hid hs3
            clear hs3 hs2 hp
            go_wp2
            go_roundw
            case rel => exact ⟨n + 1, by omega, by go_num, by rw [HZ.out]; simp, by rw [HS.out]; simp, trivial⟩
            case measure => simp [intOf]; omega
        · obtain rfl : n = 8 := by omega
          go_wp2
          refine ⟨⟨k + 1, by omega, by go_num, by rw [HT.out], trivial⟩, by simp [intOf]; omega⟩
    · obtain rfl : k = xs.length := by omega
      rw [List.take_length]
      have hr : (lowReg xs).toNat < 4294967296 := (lowReg xs).isLt
      go_wp2
      go_ret
      refine ⟨ret_int ?_, rfl⟩
      exact u32_xor_nat _ 4294967295 hr (by omega)

theorem regH_take (r : Reg) (x n : Nat) (h : n < 8) : regH r ((Msb.bitsOf x 8).take (n + 1)) = stepH (regH r ((Msb.bitsOf x 8).take n)) (x / 2 ^ (7 - n) % 2 == 1) := by
  have hl := Msb.bitsOf_length x 8
  have e := Msb.bitsOf_get x 8 n h
  rw [List.getElem?_eq_getElem (by omega)] at e
  rw [List.take_succ_eq_append_getElem (by omega), regH_append, Option.some.inj e]
  rfl

set_option maxRecDepth 100000 in
set_option maxHeartbeats 1000000 in
theorem refHigh_any (w : World) (v : Value) (xs : List Nat) (h : ByteRow w v xs) (hl : xs.length ≤ 140737488355328) :
    Calls Try.prog 13 #[v] w fun e w' => e = .returned (.int .u32 (highSum xs : Int)) ∧ w = w' := by
  obtain ⟨a, cap, rfl, hc, hn, hat⟩ := h
  go_enter Try.func13, Try.ntmps13
  go_wp2
  go_loopw [3, 4] (fun r i wr => ∃ k : Nat, k ≤ xs.length ∧ i = .int .i64 (k : Int) ∧ r = .int .u32 ((highReg (xs.take k)).toNat : Int) ∧ wr = w) (fun _ i _ => xs.length - (intOf i).toNat)
  case atStart => exact ⟨0, by omega, rfl, rfl, rfl⟩
  case round =>
    obtain ⟨k, hk, rfl, rfl, rfl⟩ := hrel
    by_cases hlt : k < xs.length
    · obtain ⟨hx, b0, off, rfl, c0⟩ := hat k hlt
      have HT := Lib.hid (highReg_snoc xs k hlt)
      generalize xs[k] = x at hx c0 HT
      generalize highReg (xs.take k) = r at HT
      have hd : decide ((k : Int) < (xs.length : Int)) = true := by simp; omega
      have HX := Lib.hid hx
      clear hx hat
      go_wp2
      go_loopw [3, 5] (fun q j wr2 => ∃ n : Nat, n ≤ 8 ∧ j = .int .i64 (7 - (n : Int)) ∧ q = .int .u32 ((regH r ((Msb.bitsOf x 8).take n)).toNat : Int) ∧ wr2 = wr) (fun _ j _ => (intOf j + 1).toNat)
      case atStart => exact ⟨0, by omega, rfl, rfl, rfl⟩
      case round =>
        obtain ⟨n, hn8, rfl, rfl, rfl⟩ := hrel
        by_cases hlt8 : n < 8
        · have hs := regH_take r x n hlt8
          have hy : x / 2 ^ (7 - n) < 256 := Nat.lt_of_le_of_lt (Nat.div_le_self _ _) HX.out
          have hq : (regH r ((Msb.bitsOf x 8).take n)).toNat < 4294967296 := (regH r ((Msb.bitsOf x 8).take n)).isLt
          have hs2 := stepH_nat (regH r ((Msb.bitsOf x 8).take n)) (x / 2 ^ (7 - n) % 2 == 1)
          rw [← hs] at hs2
          have hm : (7 : Int) - (n : Int) = ((7 - n : Nat) : Int) := by omega
          have ht : (7 : Int) - (n : Int) - 1 = 7 - ((n + 1 : Nat) : Int) := by omega
          have HM := Lib.hid ht
          clear ht hs
          rw [hm]
          have hcast : ((x : Int) / 2 ^ (7 - n)) = ((x / 2 ^ (7 - n) : Nat) : Int) := by simp
          generalize x / 2 ^ (7 - n) = y at hy hs2 hcast
          generalize hmm : 7 - n = m at hcast hm
          generalize (regH r ((Msb.bitsOf x 8).take n)).toNat = q at hq hs2
          have hmn : m + n = 7 := by omega
          have HN := Lib.hid hmn
          have hm7 : m ≤ 7 := by omega
          have hx := HX.out
          have hcast2 : ((x : Int) % 4294967296 / 2 ^ (min m 32)) = (y : Int) := by
            rw [Nat.min_eq_left (by omega), Int.emod_eq_of_lt (by omega) (by omega)]
            exact hcast
          clear hmn hmm hm HM
          by_cases hp : (y + q / 2147483648) % 2 = 1
          · have e1 : ((y : Int) + (q : Int) / 2147483648) % 4294967296 % 2 = 1 := by omega
            have e1' : ((y : Int) + (q : Int) / 2147483648) % 2 = 1 := by omega
            have e2 := u32_xor_nat (q * 2 % 4294967296) 79764919 (by omega) (by omega)
            have hs3 : (regH r ((Msb.bitsOf x 8).take (n + 1))).toNat = q * 2 % 4294967296 ^^^ 79764919 := by
              rw [hs2]
              have hq2 : q / 2147483648 = 0 ∨ q / 2147483648 = 1 := by omega
              rcases Nat.mod_two_eq_zero_or_one y with h1 | h1 <;> rcases hq2 with h2 | h2 <;> simp [h1, h2] <;> omega
            have HS := Lib.hid (And.intro hs3 e2)
            clear hs3 e2 hs2 hp
            go_wp2
            refine ⟨⟨n + 1, by omega, by have := HN.out; congr 1; omega, by rw [HS.out.1, ← HS.out.2]; simp, trivial⟩, by simp [intOf]⟩
          · have e1 : ((y : Int) + (q : Int) / 2147483648) % 4294967296 % 2 = 0 := by omega
            have e1' : ((y : Int) + (q : Int) / 2147483648) % 2 = 0 := by omega
            have hs3 : (regH r ((Msb.bitsOf x 8).take (n + 1))).toNat = q * 2 % 4294967296 := by
              rw [hs2]
              have hq2 : q / 2147483648 = 0 ∨ q / 2147483648 = 1 := by omega
              rcases Nat.mod_two_eq_zero_or_one y with h1 | h1 <;> rcases hq2 with h2 | h2 <;> simp [h1, h2] <;> omega
            have HS := Lib.hid hs3
            clear hs3 hs2 hp
            go_wp2
            refine ⟨⟨n + 1, by omega, by have := HN.out; congr 1; omega, by rw [HS.out]; simp, trivial⟩, by simp [intOf]⟩
        · obtain rfl : n = 8 := by omega
          go_wp2
          refine ⟨⟨k + 1, by omega, by go_num, by rw [HT.out, List.take_of_length_le (by rw [Msb.bitsOf_length]; omega)], trivial⟩, by simp [intOf]; omega⟩
    · obtain rfl : k = xs.length := by omega
      rw [List.take_length]
      have hr : (highReg xs).toNat < 4294967296 := (highReg xs).isLt
      go_wp2
      go_ret
      refine ⟨ret_int ?_, rfl⟩
      exact u32_xor_nat _ 4294967295 hr (by omega)

/-- Fold. -/
theorem refFold_any (w : World) (x y : Nat) (hx : x < 4294967296) (hy : y < 4294967296) :
    Calls Try.prog 16 #[.int .u32 (x : Int), .int .u32 (y : Int)] w fun e w' => e = .returned (.int .u32 (fold x y : Int)) ∧ w = w' := by
  have e2 := u32_xor_nat (x * 2 % 4294967296 + x / 2147483648) y (by omega) (by omega)
  have HE := Lib.hid e2
  have e3 : ((x : Int) * 2 % 4294967296 + (x : Int) / 2147483648) % 4294967296 = (x : Int) * 2 % 4294967296 + (x : Int) / 2147483648 := by omega
  clear e2
  go_enter Try.func16, Try.ntmps16
  go_wp2
  go_ret
  refine ⟨ret_int ?_, rfl⟩
  have e2 := HE.out
  simp only [Int.natCast_emod, Int.natCast_mul, Int.natCast_ediv, Int.natCast_add] at e2
  unfold fold
  rw [← e2]
  first | rfl | trace_state

/-- Turn. -/
theorem turn_any (w : World) (x n : Nat) (hx : x < 4294967296) (hn : n ≤ 32) :
    Calls Try.prog 17 #[.int .u32 (x : Int), .int .i64 (n : Int)] w fun e w' => e = .returned (.int .u32 (turn 0 x n : Int)) ∧ w = w' := by
  go_enter Try.func17, Try.ntmps17
  go_wp2
  go_loop [0, 5, 6] (fun v o i => ∃ k y q : Nat, k ≤ n ∧ i = .int .i64 (k : Int) ∧ v = .int .u32 (y : Int) ∧ o = .int .u32 (q : Int) ∧ y < 4294967296 ∧ q < 2 ^ k ∧ turn q y (n - k) = turn 0 x n) (fun _ _ i => n - (intOf i).toNat)
  case atStart => exact ⟨0, x, 0, by omega, rfl, rfl, rfl, hx, by decide, rfl⟩
  case round =>
    obtain ⟨k, y, q, hk, rfl, rfl, rfl, hy, hq, ht⟩ := hrel
    by_cases hlt : k < n
    · have hq2 : 2 ^ k ≤ 2 ^ 31 := Nat.pow_le_pow_right (by omega) (by omega)
      have hq3 : q < 2147483648 := by omega
      have hq4 : q * 2 + y % 2 < 2 ^ (k + 1) := by rw [Nat.pow_succ]; omega
      have ht2 : turn (q * 2 + y % 2) (y / 2) (n - (k + 1)) = turn 0 x n := by
        rw [← ht, show n - k = (n - (k + 1)) + 1 from by omega, turn]
      have HH := Lib.hid (And.intro hq4 ht2)
      have e1 : ((q : Int) * 2 % 4294967296 + (y : Int) % 2) % 4294967296 = ((q * 2 + y % 2 : Nat) : Int) := by omega
      have HE := Lib.hid e1
      clear hq hq2 hq4 ht ht2 e1
      go_wp2
      go_round
      case rel => exact ⟨k + 1, y / 2, q * 2 + y % 2, by omega, by go_num, by simp, by (try rw [← HE.out]); congr 1; omega, by omega, HH.out.1, HH.out.2⟩
      case measure => simp [intOf]; omega
    · obtain rfl : k = n := by omega
      rw [Nat.sub_self, turn] at ht
      have HH := Lib.hid ht
      clear ht hq
      go_wp2
      go_ret
      exact ⟨by rw [HH.out]; rfl, rfl⟩

end Go.Proofs.Ytgnccnpmegekmaa.Crc
