/-
  Plain facts about the two sums of layer 3: what a byte does to a register, what a table of 256 numbers says of that, and the bits of bytes. No program. No conditions.
-/
import Derived.Test.YtiggbioaaglgaaaCrcP
namespace Go.Proofs.Ytiggbioaaglgaaa.Crc

def zeros (n : Nat) : List Bool := List.replicate n false

theorem addB_zeros (n : Nat) : addB (zeros n) (zeros n) = zeros n := by
  unfold addB zeros
  rw [List.zipWith_replicate]
  simp

theorem ofBits_low (b : Bool) (l : List Bool) : (ofBits (b :: l)).getLsbD 0 = b := by
  rw [ofBits, BitVec.getLsbD_xor, BitVec.getLsbD_shiftLeft]
  cases b <;> simp

theorem ofBits_shr (b : Bool) (l : List Bool) (h : l.length ≤ 31) : ofBits (b :: l) >>> 1 = ofBits l := by
  apply BitVec.eq_of_getLsbD_eq
  intro i hi
  rw [BitVec.getLsbD_ushiftRight, ofBits, BitVec.getLsbD_xor, BitVec.getLsbD_shiftLeft]
  have h1 : (if b then 1#32 else 0#32).getLsbD (1 + i) = false := by
    cases b
    · simp
    · rw [if_pos rfl, BitVec.getLsbD_one]; simp
  rw [h1, Nat.add_sub_cancel_left]
  by_cases h31 : i < 31
  · simp only [show 1 + i < 32 from by omega, decide_true, Bool.true_and, show ¬ 1 + i < 1 from by omega, decide_false, Bool.not_false, Bool.xor_false]
  · rw [ofBits_high l i (by omega)]
    simp

theorem stepL_ofBits (b : Bool) (l : List Bool) (h : l.length ≤ 31) : stepL (ofBits (b :: l)) b = ofBits l := by
  unfold stepL
  rw [ofBits_low, ofBits_shr b l h]
  simp

/-- Bits may be added to the register ahead of all. -/
theorem regL_front (v : Reg) (l : List Bool) (h : l.length ≤ 32) : regL v l = regL (v ^^^ ofBits l) (zeros l.length) := by
  induction l generalizing v with
  | nil => simp [regL, ofBits, zeros]
  | cons b l ih =>
    simp only [List.length_cons] at h
    rw [regL_cons, ih _ (by omega)]
    show _ = regL (v ^^^ ofBits (b :: l)) (false :: zeros l.length)
    rw [regL_cons]
    congr 1
    have e := stepL_xor v (ofBits (b :: l)) b b
    rw [Bool.xor_self, stepL_ofBits b l (by omega)] at e
    exact e.symm

/-- Bits that stand high enough only go to the right. -/
theorem regL_shl (h : Reg) (n : Nat) (hn : ∀ i, 32 - n ≤ i → h.getLsbD i = false) (hn2 : n ≤ 32) : regL (h <<< n) (zeros n) = h := by
  induction n with
  | zero => simp [regL, zeros]
  | succ n ih =>
    show regL (h <<< (n + 1)) (false :: zeros n) = h
    rw [regL_cons]
    have e : stepL (h <<< (n + 1)) false = h <<< n := by
      unfold stepL
      have h0 : (h <<< (n + 1)).getLsbD 0 = false := by rw [BitVec.getLsbD_shiftLeft]; simp
      rw [h0]
      simp only [Bool.xor_false, Bool.false_eq_true, if_false, BitVec.xor_zero]
      apply BitVec.eq_of_getLsbD_eq
      intro i hi
      rw [BitVec.getLsbD_ushiftRight, BitVec.getLsbD_shiftLeft, BitVec.getLsbD_shiftLeft]
      by_cases h31 : i < 31
      · rw [show 1 + i - (n + 1) = i - n from by omega]
        simp only [show 1 + i < 32 from by omega, hi, decide_true, Bool.true_and]
        congr 2
        simp only [decide_eq_decide]
        omega
      · have : i = 31 := by omega
        subst this
        rw [hn (31 - n) (by omega)]
        simp
    rw [e]
    exact ih (fun i hi => hn i (by omega)) (by omega)

/-- What the table says at a place: eight bits 0. -/
def tabL (i : Nat) : Reg := regL (BitVec.ofNat 32 i) (zeros 8)
def tabH (i : Nat) : Reg := regH (BitVec.ofNat 32 i <<< 24) (zeros 8)

theorem split8 (w : Reg) : w = BitVec.ofNat 32 (w.toNat % 256) ^^^ ((w >>> 8) <<< 8) := by
  apply BitVec.eq_of_getLsbD_eq
  intro i hi
  rw [BitVec.getLsbD_xor, BitVec.getLsbD_shiftLeft, BitVec.getLsbD_ushiftRight, BitVec.getLsbD_ofNat]
  rw [show (256 : Nat) = 2 ^ 8 from rfl, Nat.testBit_mod_two_pow]
  by_cases h8 : i < 8
  · simp only [hi, h8, decide_true, Bool.true_and, Bool.not_true, Bool.and_false, Bool.false_and, Bool.xor_false]
    rfl
  · simp only [hi, h8, decide_true, decide_false, Bool.true_and, Bool.false_and, Bool.and_false, Bool.not_false, Bool.false_xor]
    rw [show 8 + (i - 8) = i from by omega]

theorem regL_tab (w : Reg) : regL w (zeros 8) = tabL (w.toNat % 256) ^^^ (w >>> 8) := by
  conv => lhs; rw [split8 w, ← addB_zeros 8]
  rw [regL_xor _ _ _ _ rfl, regL_shl (w >>> 8) 8 ?_ (by omega)]
  · rfl
  · intro i hi
    rw [BitVec.getLsbD_ushiftRight]
    exact BitVec.getLsbD_of_ge _ _ (by omega)

theorem ofBits_bitsOf (x n : Nat) (hn : n ≤ 32) (hx : x < 2 ^ n) : ofBits (bitsOf x n) = BitVec.ofNat 32 x := by
  induction n generalizing x with
  | zero =>
    have : x = 0 := by simpa using hx
    subst this
    rfl
  | succ n ih =>
    rw [Nat.pow_succ] at hx
    rw [bitsOf, ofBits, ih (x / 2) (by omega) (by omega)]
    apply BitVec.eq_of_getLsbD_eq
    intro i hi
    rw [BitVec.getLsbD_xor, BitVec.getLsbD_shiftLeft, BitVec.getLsbD_ofNat, BitVec.getLsbD_ofNat]
    cases i with
    | zero =>
      rw [Nat.testBit_zero]
      rcases Nat.mod_two_eq_zero_or_one x with h | h <;> simp [h]
    | succ i =>
      have h1 : (if (x % 2 == 1) = true then 1#32 else 0#32).getLsbD (i + 1) = false := by
        cases (x % 2 == 1)
        · simp
        · rw [if_pos rfl, BitVec.getLsbD_one]; simp
      rw [h1, Nat.add_sub_cancel, Nat.testBit_succ]
      simp only [hi, show i < 32 from by omega, show ¬ i + 1 < 1 from by omega, decide_true, decide_false, Bool.true_and, Bool.not_false, Bool.xor_false]

/-- What a byte does to the low register, by the table. -/
theorem byteL (v : Reg) (x : Nat) (hx : x < 256) : regL v (bitsOf x 8) = tabL ((v.toNat % 256) ^^^ x) ^^^ (v >>> 8) := by
  rw [regL_front v _ (by rw [bitsOf_length]; omega), bitsOf_length, ofBits_bitsOf x 8 (by omega) hx, regL_tab]
  have e1 : (v ^^^ BitVec.ofNat 32 x).toNat % 256 = (v.toNat % 256) ^^^ x := by
    rw [BitVec.toNat_xor, BitVec.toNat_ofNat, Nat.mod_eq_of_lt (show x < 2 ^ 32 by omega), show (256 : Nat) = 2 ^ 8 from rfl, Nat.xor_mod_two_pow, Nat.mod_eq_of_lt (show x < 2 ^ 8 by omega)]
  have e2 : (v ^^^ BitVec.ofNat 32 x) >>> 8 = v >>> 8 := by
    apply BitVec.eq_of_getLsbD_eq
    intro i hi
    rw [BitVec.getLsbD_ushiftRight, BitVec.getLsbD_ushiftRight, BitVec.getLsbD_xor, BitVec.getLsbD_ofNat, Nat.testBit_lt_two_pow (x := x) (i := 8 + i) (Nat.lt_of_lt_of_le hx (by rw [Nat.pow_add]; exact Nat.le_mul_of_pos_right _ (Nat.two_pow_pos i)))]
    simp
  rw [e1, e2]

end Go.Proofs.Ytiggbioaaglgaaa.Crc
