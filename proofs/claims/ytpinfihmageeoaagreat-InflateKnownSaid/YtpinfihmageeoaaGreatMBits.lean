/-
  Plain facts about rows of bits and the bytes that they lie in, the highest bit first (for layer 2). No program. No conditions.
-/
import Derived.Test.YtpinfihmageeoaaGreatGA
namespace Go.Proofs.YtpinfihmageeoaaGreat.Msb
open Go.Proofs.YtpinfihmageeoaaGreat (getD_in getD_out)

/-- The number that bits are, the highest first. -/
def num (l : List Bool) : Nat := l.foldl (fun a b => 2 * a + b.toNat) 0

/-- The n lowest bits of a number, the highest first. -/
def bitsOf (v : Nat) : Nat → List Bool
  | 0 => []
  | n + 1 => bitsOf (v / 2) n ++ [v % 2 == 1]

theorem num_nil : num [] = 0 := rfl

theorem num_snoc (l : List Bool) (b : Bool) : num (l ++ [b]) = 2 * num l + b.toNat := by simp [num]

theorem foldl_from (l : List Bool) (a : Nat) : l.foldl (fun a b => 2 * a + b.toNat) a = a * 2 ^ l.length + num l := by
  induction l generalizing a with
  | nil => simp [num]
  | cons c l ih =>
    have h0 : num (c :: l) = l.foldl (fun a b => 2 * a + b.toNat) c.toNat := by simp [num]
    rw [List.foldl_cons, ih, h0, ih, List.length_cons, Nat.pow_succ, Nat.add_mul]
    have e : 2 * a * 2 ^ l.length = a * (2 ^ l.length * 2) := by rw [Nat.mul_comm 2 a, Nat.mul_assoc, Nat.mul_comm 2]
    omega

theorem num_append (l m : List Bool) : num (l ++ m) = num l * 2 ^ m.length + num m := by
  rw [num, List.foldl_append, foldl_from]
  rfl

theorem num_lt (l : List Bool) : num l < 2 ^ l.length := by
  have h : ∀ (m : List Bool), num m.reverse < 2 ^ m.length := by
    intro m
    induction m with
    | nil => simp [num]
    | cons b m ih =>
      rw [List.reverse_cons, num_snoc, List.length_cons, Nat.pow_succ]
      cases b <;> simp <;> omega
  have := h l.reverse
  simpa using this

theorem bitsOf_length (v n : Nat) : (bitsOf v n).length = n := by
  induction n generalizing v with
  | zero => rfl
  | succ n ih => simp [bitsOf, ih]

theorem num_bitsOf (v n : Nat) : num (bitsOf v n) = v % 2 ^ n := by
  induction n generalizing v with
  | zero => simp [bitsOf, num, Nat.mod_one]
  | succ n ih =>
    rw [bitsOf, num_snoc, ih, Nat.pow_succ, Nat.mul_comm (2 ^ n) 2, Nat.mod_mul]
    rcases Nat.mod_two_eq_zero_or_one v with h | h <;> simp [h] <;> omega

theorem num_bitsOf_lt {v n : Nat} (h : v < 2 ^ n) : num (bitsOf v n) = v := by rw [num_bitsOf, Nat.mod_eq_of_lt h]

/-- The k-th of the n bits. -/
theorem bitsOf_get (v n k : Nat) (h : k < n) : (bitsOf v n)[k]? = some (v / 2 ^ (n - 1 - k) % 2 == 1) := by
  induction n generalizing v with
  | zero => omega
  | succ n ih =>
    rw [bitsOf]
    by_cases hk : k < n
    · rw [List.getElem?_append_left (by rw [bitsOf_length]; exact hk), ih (v / 2) hk, Nat.div_div_eq_div_mul, ← Nat.pow_succ', show Nat.succ (n - 1 - k) = n + 1 - 1 - k from by omega]
    · obtain rfl : k = n := by omega
      rw [List.getElem?_append_right (by rw [bitsOf_length]; exact Nat.le_refl _), bitsOf_length]
      simp

/-- One bit more of them. -/
theorem bitsOf_take (v n k : Nat) (h : k < n) : (bitsOf v n).take (k + 1) = (bitsOf v n).take k ++ [v / 2 ^ (n - 1 - k) % 2 == 1] := by
  rw [List.take_add_one, bitsOf_get v n k h]
  rfl

theorem bitsOf_num (l : List Bool) : bitsOf (num l) l.length = l := by
  have h : ∀ (m : List Bool), bitsOf (num m.reverse) m.length = m.reverse := by
    intro m
    induction m with
    | nil => rfl
    | cons b m ih =>
      rw [List.reverse_cons, num_snoc, List.length_cons, bitsOf]
      have h1 : (2 * num m.reverse + b.toNat) / 2 = num m.reverse := by cases b <;> simp <;> omega
      have h2 : (2 * num m.reverse + b.toNat) % 2 = b.toNat := by cases b <;> simp <;> omega
      rw [h1, h2, ih]
      cases b <;> rfl
  have := h l.reverse
  simpa using this

theorem num_bit (l : List Bool) (j : Nat) (h : j < l.length) : num l / 2 ^ (l.length - 1 - j) % 2 = (l[j]).toNat := by
  have h1 := bitsOf_get (num l) l.length j h
  rw [bitsOf_num, List.getElem?_eq_getElem h] at h1
  have h2 := Option.some.inj h1
  rcases Nat.mod_two_eq_zero_or_one (num l / 2 ^ (l.length - 1 - j)) with e | e <;> rw [e] at h2 ⊢ <;> rw [h2] <;> rfl

/-- The bytes that bits lie in: as few as may be; bits behind the end are 0. -/
def pk (l : List Bool) : List Nat := (List.range ((l.length + 7) / 8)).map fun i => num ((l.drop (8 * i)).take 8) * 2 ^ (8 - ((l.drop (8 * i)).take 8).length)

theorem pk_length (l : List Bool) : (pk l).length = (l.length + 7) / 8 := by simp [pk]

theorem pk_nil : pk [] = [] := rfl

theorem pk_get (l : List Bool) (i : Nat) (h : i < (pk l).length) : (pk l)[i] = num ((l.drop (8 * i)).take 8) * 2 ^ (8 - ((l.drop (8 * i)).take 8).length) := by simp [pk]

theorem pk_lt (l : List Bool) : ∀ x ∈ pk l, x < 256 := by
  intro x hx
  simp only [pk, List.mem_map] at hx
  obtain ⟨i, _, rfl⟩ := hx
  generalize hc : (l.drop (8 * i)).take 8 = c
  have hl : c.length ≤ 8 := by rw [← hc]; exact List.length_take_le 8 _
  have h1 := num_lt c
  have h2 : num c * 2 ^ (8 - c.length) < 2 ^ c.length * 2 ^ (8 - c.length) := Nat.mul_lt_mul_of_pos_right h1 (Nat.two_pow_pos _)
  rw [← Nat.pow_add, show c.length + (8 - c.length) = 8 from by omega] at h2
  exact h2

/-- What one bit more does to the bytes. -/
def layRow (xs : List Nat) (n : Nat) (b : Bool) : List Nat :=
  if n % 8 = 0 then xs ++ [b.toNat * 128] else xs.set (n / 8) (xs.getD (n / 8) 0 + b.toNat * 2 ^ (7 - n % 8))

theorem layRow_pk (l : List Bool) (b : Bool) : layRow (pk l) l.length b = pk (l ++ [b]) := by
  unfold layRow
  split
  · rename_i h0
    apply List.ext_getElem
    · simp [pk_length]; omega
    · intro i h1 h2
      rw [pk_get]
      rw [List.length_append, pk_length, List.length_singleton] at h1
      by_cases hi : i < (pk l).length
      · rw [List.getElem_append_left hi, pk_get]
        rw [pk_length] at hi
        rw [List.drop_append_of_le_length (by omega), List.take_append_of_le_length (by simp; omega)]
      · rw [pk_length] at hi
        have e8 : 8 * i = l.length := by omega
        rw [List.getElem_append_right (by rw [pk_length]; omega)]
        simp [e8, num]
  · rename_i h0
    apply List.ext_getElem
    · simp [pk_length]; omega
    · intro i h1 h2
      rw [pk_get]
      rw [List.length_set, pk_length] at h1
      rw [List.getElem_set]
      split
      · rename_i hi
        subst hi
        have h3 : l.length / 8 < (pk l).length := by rw [pk_length]; omega
        rw [getD_in _ _ h3, pk_get, List.drop_append_of_le_length (by omega)]
        have hl : (l.drop (8 * (l.length / 8))).length = l.length % 8 := by simp; omega
        generalize l.drop (8 * (l.length / 8)) = c at hl
        rw [List.take_of_length_le (by omega), List.take_of_length_le (by simp; omega), num_snoc, List.length_append, hl, List.length_singleton]
        rw [show 8 - l.length % 8 = (8 - (l.length % 8 + 1)) + 1 from by omega, Nat.pow_succ, Nat.add_mul, show 7 - l.length % 8 = 8 - (l.length % 8 + 1) from by omega]
        have e : num c * (2 ^ (8 - (l.length % 8 + 1)) * 2) = 2 * num c * 2 ^ (8 - (l.length % 8 + 1)) := by rw [Nat.mul_comm 2 (num c), Nat.mul_assoc, Nat.mul_comm 2]
        rw [e]
      · rename_i hi
        rw [pk_get, List.drop_append_of_le_length (by omega), List.take_append_of_le_length (by simp; omega)]

/-- Bit number p of bytes. -/
def bitAt (xs : List Nat) (p : Nat) : Bool := xs.getD (p / 8) 0 / 2 ^ (7 - p % 8) % 2 == 1

theorem byte_bit_at (c : List Bool) (j : Nat) (hc : c.length ≤ 8) (hj : j < 8) : num c * 2 ^ (8 - c.length) / 2 ^ (7 - j) % 2 = (c.getD j false).toNat := by
  by_cases h : j < c.length
  · rw [getD_in _ _ h, ← num_bit c j h, show 7 - j = (8 - c.length) + (c.length - 1 - j) from by omega, Nat.pow_add, ← Nat.div_div_eq_div_mul, Nat.mul_div_cancel _ (Nat.two_pow_pos _)]
  · rw [getD_out _ _ (by omega), show 8 - c.length = (7 - j) + (j - c.length) + 1 from by omega, Nat.pow_succ, Nat.pow_add, Nat.mul_assoc, ← Nat.mul_assoc (num c), Nat.mul_comm (num c), Nat.mul_assoc, Nat.mul_div_cancel_left _ (Nat.two_pow_pos _), ← Nat.mul_assoc, Nat.mul_mod_left]
    rfl

theorem bitAt_pk (l : List Bool) (p : Nat) : bitAt (pk l) p = l.getD p false := by
  unfold bitAt
  by_cases h : p / 8 < (pk l).length
  · rw [getD_in _ _ h, pk_get, byte_bit_at _ _ (List.length_take_le 8 _) (by omega)]
    have e : ((l.drop (8 * (p / 8))).take 8).getD (p % 8) false = l.getD p false := by
      rw [List.getD_eq_getElem?_getD, List.getD_eq_getElem?_getD, List.getElem?_take, if_pos (by omega), List.getElem?_drop]
      congr 2
      omega
    rw [e]
    cases l.getD p false <;> rfl
  · rw [getD_out _ _ (by omega)]
    rw [pk_length] at h
    rw [getD_out _ _ (by omega)]
    simp

/-- The n bits from a place on. -/
def bitsAt (xs : List Nat) (p : Nat) : Nat → List Bool
  | 0 => []
  | n + 1 => bitsAt xs p n ++ [bitAt xs (p + n)]

theorem bitsAt_length (xs : List Nat) (p n : Nat) : (bitsAt xs p n).length = n := by
  induction n with
  | zero => rfl
  | succ n ih => simp [bitsAt, ih]

theorem bitsAt_pk (l : List Bool) (p n : Nat) (h : p + n ≤ l.length) : bitsAt (pk l) p n = (l.drop p).take n := by
  induction n with
  | zero => simp [bitsAt]
  | succ n ih =>
    rw [bitsAt, ih (by omega), bitAt_pk, getD_in _ _ (by omega), List.take_succ_eq_append_getElem (by simp; omega)]
    simp

theorem num_bitsAt_succ (xs : List Nat) (p n : Nat) : num (bitsAt xs p (n + 1)) = 2 * num (bitsAt xs p n) + (bitAt xs (p + n)).toNat := by
  rw [bitsAt, num_snoc]

theorem num_bitsAt_lt (xs : List Nat) (p n : Nat) : num (bitsAt xs p n) < 2 ^ n := by
  have := num_lt (bitsAt xs p n)
  rwa [bitsAt_length] at this

end Go.Proofs.YtpinfihmageeoaaGreat.Msb
