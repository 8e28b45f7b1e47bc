/-
  Plain facts about rows of bits and the bytes that they lie in, the lowest bit first. No program. No conditions.
-/
import Derived.Laws.BitsAll
import Derived.Laws.Bits128
namespace Go.Proofs.Ytjchchinmggldaa

theorem getD_in {α : Type} (l : List α) (d : α) {i : Nat} (h : i < l.length) : l.getD i d = l[i] := by simp [List.getD_eq_getElem?_getD, h]
theorem getD_out {α : Type} (l : List α) (d : α) {i : Nat} (h : l.length ≤ i) : l.getD i d = d := by simp [List.getD_eq_getElem?_getD, h]

/-- The number that bits are, the lowest first. -/
def num : List Bool → Nat
  | [] => 0
  | b :: l => b.toNat + 2 * num l

/-- The n lowest bits of a number, the lowest first. -/
def bitsOf (v : Nat) : Nat → List Bool
  | 0 => []
  | n + 1 => (v % 2 == 1) :: bitsOf (v / 2) n

theorem num_lt (l : List Bool) : num l < 2 ^ l.length := by
  induction l with
  | nil => simp [num]
  | cons b l ih => cases b <;> simp [num, Nat.pow_succ] <;> omega

theorem num_snoc (l : List Bool) (b : Bool) : num (l ++ [b]) = num l + b.toNat * 2 ^ l.length := by
  induction l with
  | nil => simp [num]
  | cons c l ih =>
    simp only [List.cons_append, num, ih, List.length_cons, Nat.pow_succ]
    have h : b.toNat * (2 ^ l.length * 2) = 2 * (b.toNat * 2 ^ l.length) := by rw [← Nat.mul_assoc]; exact Nat.mul_comm _ _
    omega

theorem num_append (l m : List Bool) : num (l ++ m) = num l + num m * 2 ^ l.length := by
  induction l with
  | nil => simp [num]
  | cons c l ih =>
    simp only [List.cons_append, num, ih, List.length_cons, Nat.pow_succ]
    have h : num m * (2 ^ l.length * 2) = 2 * (num m * 2 ^ l.length) := by rw [← Nat.mul_assoc]; exact Nat.mul_comm _ _
    omega

theorem bitsOf_length (v n : Nat) : (bitsOf v n).length = n := by
  induction n generalizing v with
  | zero => rfl
  | succ n ih => simp [bitsOf, ih]

theorem num_bitsOf (v n : Nat) : num (bitsOf v n) = v % 2 ^ n := by
  induction n generalizing v with
  | zero => simp [bitsOf, num, Nat.mod_one]
  | succ n ih =>
    simp only [bitsOf, num, ih]
    rw [Nat.pow_succ, Nat.mul_comm (2 ^ n) 2, Nat.mod_mul]
    rcases Nat.mod_two_eq_zero_or_one v with h | h <;> simp [h]

theorem num_bitsOf_lt {v n : Nat} (h : v < 2 ^ n) : num (bitsOf v n) = v := by rw [num_bitsOf, Nat.mod_eq_of_lt h]

theorem bitsOf_snoc (v n : Nat) : bitsOf v (n + 1) = bitsOf v n ++ [v / 2 ^ n % 2 == 1] := by
  induction n generalizing v with
  | zero => simp [bitsOf]
  | succ n ih =>
    rw [bitsOf, ih (v / 2), bitsOf]
    simp [Nat.pow_succ, Nat.div_div_eq_div_mul, Nat.mul_comm]

theorem bitsOf_num (l : List Bool) : bitsOf (num l) l.length = l := by
  induction l with
  | nil => rfl
  | cons b l ih =>
    have h1 : (b.toNat + 2 * num l) / 2 = num l := by cases b <;> simp <;> omega
    have h2 : (b.toNat + 2 * num l) % 2 = b.toNat := by cases b <;> simp <;> omega
    simp only [num, List.length_cons, bitsOf, h1, h2, ih]
    cases b <;> rfl

theorem num_bit (l : List Bool) (j : Nat) : num l / 2 ^ j % 2 = (l.getD j false).toNat := by
  induction l generalizing j with
  | nil => simp [num]
  | cons b l ih =>
    cases j with
    | zero => cases b <;> simp [num] <;> omega
    | succ j =>
      have h1 : (b.toNat + 2 * num l) / 2 = num l := by cases b <;> simp <;> omega
      rw [num, Nat.pow_succ, Nat.mul_comm (2 ^ j) 2, ← Nat.div_div_eq_div_mul, h1, ih]
      simp

/-- The bytes that bits lie in: as few as may be; bits behind the end are 0. -/
def pk (l : List Bool) : List Nat := (List.range ((l.length + 7) / 8)).map fun i => num ((l.drop (8 * i)).take 8)

theorem pk_length (l : List Bool) : (pk l).length = (l.length + 7) / 8 := by simp [pk]

theorem pk_nil : pk [] = [] := rfl

theorem pk_get (l : List Bool) (i : Nat) (h : i < (pk l).length) : (pk l)[i] = num ((l.drop (8 * i)).take 8) := by simp [pk]

theorem pk_lt (l : List Bool) : ∀ x ∈ pk l, x < 256 := by
  intro x hx
  simp only [pk, List.mem_map] at hx
  obtain ⟨i, _, rfl⟩ := hx
  refine Nat.lt_of_lt_of_le (num_lt _) (Nat.le_trans (Nat.pow_le_pow_right (by omega) (List.length_take_le 8 _)) (by decide))

/-- What one bit more does to the bytes. -/
def layRow (xs : List Nat) (n : Nat) (b : Bool) : List Nat :=
  if n % 8 = 0 then xs ++ [b.toNat] else xs.set (n / 8) (xs.getD (n / 8) 0 + b.toNat * 2 ^ (n % 8))

theorem layRow_pk (l : List Bool) (b : Bool) : layRow (pk l) l.length b = pk (l ++ [b]) := by
  unfold layRow
  split
  · rename_i h0
    apply List.ext_getElem
    · simp [pk_length]; omega
    · intro i h1 h2
      rw [pk_get]
      rw [List.length_append, pk_length, List.length_singleton] at h1
      by_cases hi : i < (pk l).length
      · rw [List.getElem_append_left hi, pk_get]
        rw [pk_length] at hi
        rw [List.drop_append_of_le_length (by omega), List.take_append_of_le_length (by simp; omega)]
      · rw [pk_length] at hi
        have : i = (l.length + 7) / 8 := by omega
        have e8 : 8 * i = l.length := by omega
        rw [List.getElem_append_right (by rw [pk_length]; omega)]
        simp [e8, num]
  · rename_i h0
    apply List.ext_getElem
    · simp [pk_length]; omega
    · intro i h1 h2
      rw [pk_get]
      rw [List.length_set, pk_length] at h1
      rw [List.getElem_set]
      split
      · rename_i hi
        subst hi
        have h3 : l.length / 8 < (pk l).length := by rw [pk_length]; omega
        rw [getD_in _ _ h3, pk_get]
        rw [List.drop_append_of_le_length (by omega)]
        rw [List.take_of_length_le (by simp; omega), List.take_of_length_le (by simp; omega), num_snoc]
        simp only [List.length_drop]
        rw [show l.length % 8 = l.length - 8 * (l.length / 8) from by omega]
      · rename_i hi
        rw [pk_get, List.drop_append_of_le_length (by omega), List.take_append_of_le_length (by simp; omega)]

/-- Bit number p of bytes. -/
def bitAt (xs : List Nat) (p : Nat) : Bool := xs.getD (p / 8) 0 / 2 ^ (p % 8) % 2 == 1

theorem bitAt_pk (l : List Bool) (p : Nat) : bitAt (pk l) p = l.getD p false := by
  unfold bitAt
  by_cases h : p / 8 < (pk l).length
  · rw [getD_in _ _ h, pk_get, num_bit]
    have e : ((l.drop (8 * (p / 8))).take 8).getD (p % 8) false = l.getD p false := by
      rw [List.getD_eq_getElem?_getD, List.getD_eq_getElem?_getD, List.getElem?_take, if_pos (by omega), List.getElem?_drop]
      congr 2
      omega
    rw [e]
    cases l.getD p false <;> rfl
  · rw [getD_out _ _ (by omega)]
    rw [pk_length] at h
    rw [getD_out _ _ (by omega)]
    simp

/-- The n bits from a place on. -/
def bitsAt (xs : List Nat) (p : Nat) : Nat → List Bool
  | 0 => []
  | n + 1 => bitsAt xs p n ++ [bitAt xs (p + n)]

theorem bitsAt_length (xs : List Nat) (p n : Nat) : (bitsAt xs p n).length = n := by
  induction n with
  | zero => rfl
  | succ n ih => simp [bitsAt, ih]

theorem bitsAt_pk (l : List Bool) (p n : Nat) (h : p + n ≤ l.length) : bitsAt (pk l) p n = (l.drop p).take n := by
  induction n with
  | zero => simp [bitsAt]
  | succ n ih =>
    rw [bitsAt, ih (by omega), bitAt_pk, getD_in _ _ (by omega), List.take_succ_eq_append_getElem (by simp; omega)]
    simp

theorem num_bitsAt_succ (xs : List Nat) (p n : Nat) : num (bitsAt xs p (n + 1)) = num (bitsAt xs p n) + (bitAt xs (p + n)).toNat * 2 ^ n := by
  rw [bitsAt, num_snoc, bitsAt_length]

theorem num_bitsAt_lt (xs : List Nat) (p n : Nat) : num (bitsAt xs p n) < 2 ^ n := by
  have := num_lt (bitsAt xs p n)
  rwa [bitsAt_length] at this

/-! What the walk's words on numbers come to. -/
theorem and7 (n : Int) : bits .and .i64 n 7 = n % 8 := by
  have h7 : (BitVec.ofInt 64 7).toNat = 2 ^ 3 - 1 := by decide
  have key : (BitVec.ofInt 64 n &&& BitVec.ofInt 64 7).toNat = (n % ((2 ^ 64 : Nat) : Int)).toNat % 2 ^ 3 := by
    rw [BitVec.toNat_and, BitVec.toNat_ofInt, h7, Nat.and_two_pow_sub_one_eq_mod]
  show IntKind.i64.wrap ((BitVec.ofInt 64 n &&& BitVec.ofInt 64 7).toNat : Nat) = n % 8
  rw [key, IntKind.wrap_i64]
  omega

theorem and1_u8 (n : Int) (h0 : 0 ≤ n) (h1 : n < 256) : bits .and .u8 n 1 = n % 2 := by
  rw [u8_and n 1 h0 h1 (by omega) (by omega)]
  obtain ⟨k, rfl⟩ := Int.eq_ofNat_of_zero_le h0
  simp

theorem or_free_u8 (x y k : Nat) (hx : x < 2 ^ k) (hy : y ≤ 1) (hk : k < 8) : bits .or .u8 (x : Int) ((y * 2 ^ k : Nat) : Int) = ((x + y * 2 ^ k : Nat) : Int) := by
  have h2 : 2 ^ (k + 1) ≤ 2 ^ 8 := Nat.pow_le_pow_right (by omega) (by omega)
  rw [Nat.pow_succ] at h2
  have h3 : y * 2 ^ k ≤ 1 * 2 ^ k := Nat.mul_le_mul_right _ hy
  rw [u8_or_nat _ _ (by omega) (by omega)]
  congr 1
  rw [Nat.or_comm, Nat.mul_comm, ← Nat.two_pow_add_eq_or_of_lt hx]
  exact Nat.add_comm _ _

theorem or_free_u32 (x y k : Nat) (hx : x < 2 ^ k) (hy : y ≤ 1) (hk : k < 32) : bits .or .u32 (x : Int) ((y * 2 ^ k : Nat) : Int) = ((x + y * 2 ^ k : Nat) : Int) := by
  have h2 : 2 ^ (k + 1) ≤ 2 ^ 32 := Nat.pow_le_pow_right (by omega) (by omega)
  rw [Nat.pow_succ] at h2
  have h3 : y * 2 ^ k ≤ 1 * 2 ^ k := Nat.mul_le_mul_right _ hy
  rw [u32_or_nat _ _ (by omega) (by omega)]
  congr 1
  rw [Nat.or_comm, Nat.mul_comm, ← Nat.two_pow_add_eq_or_of_lt hx]
  exact Nat.add_comm _ _

end Go.Proofs.Ytjchchinmggldaa
