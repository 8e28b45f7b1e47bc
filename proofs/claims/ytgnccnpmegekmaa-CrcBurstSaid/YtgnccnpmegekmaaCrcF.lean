/-
  Plain facts about bits that turn within bytes, and the sums of such bytes. No program. No conditions.
-/
import Derived.Test.YtgnccnpmegekmaaCrcS
namespace Go.Proofs.Ytgnccnpmegekmaa.Crc

/-- Of the bytes the first k bits from F on are turned where the pattern says so; a byte's bit number j stands at the place e j. -/
def flip (e : Nat → Nat) (F pat : Nat) : Nat → List Nat → List Nat
  | 0, xs => xs
  | k + 1, xs => if pat.testBit k then (flip e F pat k xs).set ((F + k) / 8) ((flip e F pat k xs).getD ((F + k) / 8) 0 ^^^ 2 ^ e ((F + k) % 8)) else flip e F pat k xs

/-- Is there one among the first k? -/
def anyBit (pat : Nat) : Nat → Bool
  | 0 => false
  | k + 1 => anyBit pat k || pat.testBit k

theorem flip_length (e : Nat → Nat) (F pat k : Nat) (xs : List Nat) : (flip e F pat k xs).length = xs.length := by
  induction k with
  | zero => rfl
  | succ k ih => rw [flip]; split <;> simp [ih]

theorem getD_set (l : List Nat) (i j v : Nat) (h : i < l.length) : (l.set i v).getD j 0 = if i = j then v else l.getD j 0 := by
  simp only [List.getD_eq_getElem?_getD, List.getElem?_set, h, if_true]
  by_cases c : i = j
  · simp [c]
  · simp [c]

theorem flip_byte (e : Nat → Nat) (he : ∀ j, j < 8 → e j < 8) (F pat k : Nat) (xs : List Nat) (h : ∀ i, xs.getD i 0 < 256) : ∀ i, (flip e F pat k xs).getD i 0 < 256 := by
  induction k with
  | zero => exact h
  | succ k ih =>
    intro i
    rw [flip]
    split
    · by_cases c : (F + k) / 8 < (flip e F pat k xs).length
      · rw [getD_set _ _ _ _ c]
        split
        · exact Nat.xor_lt_two_pow (n := 8) (ih _) (Nat.pow_lt_pow_right (by omega) (he _ (by omega)))
        · exact ih i
      · rw [List.set_eq_of_length_le (by omega)]; exact ih i
    · exact ih i

theorem flip_bit (e : Nat → Nat) (hi : ∀ i j, i < 8 → j < 8 → e i = e j → i = j) (F pat k : Nat) (xs : List Nat) (hk : F + k ≤ 8 * xs.length) (p : Nat) (hp : p < 8 * xs.length) :
    ((flip e F pat k xs).getD (p / 8) 0).testBit (e (p % 8)) = (((xs.getD (p / 8) 0).testBit (e (p % 8))) ^^ (decide (F ≤ p) && decide (p < F + k) && pat.testBit (p - F))) := by
  induction k with
  | zero =>
    have : (decide (F ≤ p) && decide (p < F + 0)) = false := by
      rw [Bool.and_eq_false_iff]; simp only [decide_eq_false_iff_not]; omega
    rw [this]
    simp [flip]
  | succ k ih =>
    have ih' := ih (by omega)
    rw [flip]
    by_cases hb : pat.testBit k = true
    · rw [if_pos hb, getD_set _ _ _ _ (by rw [flip_length]; omega)]
      by_cases c : p = F + k
      · subst c
        rw [if_pos rfl, Nat.testBit_xor, ih']
        have e1 : (decide (F ≤ F + k) && decide (F + k < F + k)) = false := by simp
        have e2 : (decide (F ≤ F + k) && decide (F + k < F + (k + 1))) = true := by simp
        rw [e1, e2, Nat.add_sub_cancel_left, hb, Nat.testBit_two_pow_self]
        simp
      · have e3 : decide (p < F + (k + 1)) = decide (p < F + k) := by simp only [decide_eq_decide]; omega
        rw [e3, ← ih']
        split
        · rename_i hq
          have hne : e ((F + k) % 8) ≠ e (p % 8) := fun h => c (by
            have := hi _ _ (by omega) (by omega) h
            omega)
          rw [Nat.testBit_xor, Nat.testBit_two_pow_of_ne hne, Bool.xor_false, hq]
        · rfl
    · rw [if_neg hb, ih']
      by_cases c : p = F + k
      · subst c
        have hb' : pat.testBit k = false := by simpa using hb
        rw [Nat.add_sub_cancel_left, hb']
        simp
      · have e3 : decide (p < F + (k + 1)) = decide (p < F + k) := by simp only [decide_eq_decide]; omega
        rw [e3]

theorem flip_none (e : Nat → Nat) (F pat k : Nat) (xs : List Nat) (h : anyBit pat k = false) : flip e F pat k xs = xs := by
  induction k with
  | zero => rfl
  | succ k ih =>
    rw [anyBit, Bool.or_eq_false_iff] at h
    rw [flip, if_neg (by rw [h.2]; simp), ih h.1]

theorem anyBit_false (pat k : Nat) (h : ∀ j, j < k → pat.testBit j = false) : anyBit pat k = false := by
  induction k with
  | zero => rfl
  | succ k ih => rw [anyBit, ih (fun j hj => h j (by omega)), h k (by omega)]; rfl

/-- Rows of bits that say each other's bytes. -/
theorem burst_of (e : Nat → Nat) (hi : ∀ i j, i < 8 → j < 8 → e i = e j → i = j) (B : List Nat → List Bool) (hB : ∀ xs : List Nat, (B xs).length = 8 * xs.length) (hat : ∀ (xs : List Nat) (p : Nat), p < 8 * xs.length → (B xs)[p]? = some ((xs.getD (p / 8) 0).testBit (e (p % 8))))
    (R : List Bool → Reg) (hR : ∀ l m : List Bool, l.length = m.length → ∀ F : Nat, (∀ i (h1 : i < l.length) (h2 : i < m.length), (i < F ∨ F + 32 ≤ i) → l[i] = m[i]) → R l = R m → l = m)
    (F pat k : Nat) (hk32 : k ≤ 32) (xs : List Nat) (hk : F + k ≤ 8 * xs.length) : (R (B xs) = R (B (flip e F pat k xs))) ↔ anyBit pat k = false := by
  constructor
  · intro h
    have hl : (B xs).length = (B (flip e F pat k xs)).length := by rw [hB, hB, flip_length]
    have h2 := hR _ _ hl F (fun i h1 h2 ho => by
      rw [hB] at h1
      have a1 := hat xs i h1
      have a2 := hat (flip e F pat k xs) i (by rw [flip_length]; exact h1)
      rw [List.getElem?_eq_getElem (by rw [hB]; exact h1)] at a1
      rw [List.getElem?_eq_getElem h2, flip_bit e hi F pat k xs hk i h1] at a2
      rw [Option.some.inj a1, Option.some.inj a2]
      have : (decide (F ≤ i) && decide (i < F + k)) = false := by
        rw [Bool.and_eq_false_iff]; simp only [decide_eq_false_iff_not]; omega
      rw [this]; simp) h
    refine anyBit_false pat k (fun j hj => ?_)
    have a1 := hat xs (F + j) (by omega)
    have a2 := hat (flip e F pat k xs) (F + j) (by rw [flip_length]; omega)
    rw [← h2, a1, flip_bit e hi F pat k xs hk (F + j) (by omega)] at a2
    have a3 := Option.some.inj a2
    have e2 : (decide (F ≤ F + j) && decide (F + j < F + k)) = true := by simp; omega
    rw [e2, Nat.add_sub_cancel_left, Bool.true_and] at a3
    revert a3
    cases (xs.getD ((F + j) / 8) 0).testBit (e ((F + j) % 8)) <;> cases pat.testBit j <;> simp
  · intro h
    rw [flip_none _ _ _ _ _ h]

theorem low_burst (F pat k : Nat) (hk32 : k ≤ 32) (xs : List Nat) (hk : F + k ≤ 8 * xs.length) : (lowSum xs = lowSum (flip (fun j => j) F pat k xs)) ↔ anyBit pat k = false := by
  rw [← burst_of (fun j => j) (fun _ _ _ _ h => h) lowBits lowBits_length (fun xs p hp => by rw [lowBits_at _ _ (by omega), List.getD_eq_getElem?_getD, List.getElem?_eq_getElem (by omega)]; rfl) (regL ones) (fun l m hl F hs h => burstL ones l m hl F hs h) F pat k hk32 xs hk]
  constructor
  · intro h; exact sum_inj _ _ h
  · intro h; unfold lowSum lowReg; rw [h]

theorem high_burst (F pat k : Nat) (hk32 : k ≤ 32) (xs : List Nat) (hk : F + k ≤ 8 * xs.length) : (highSum xs = highSum (flip (fun j => 7 - j) F pat k xs)) ↔ anyBit pat k = false := by
  rw [← burst_of (fun j => 7 - j) (fun i j hi hj h => by have h2 : 7 - i = 7 - j := h; omega) highBits highBits_length (fun xs p hp => by rw [highBits_at _ _ (by omega), List.getD_eq_getElem?_getD, List.getElem?_eq_getElem (by omega)]; rfl) (regH ones) (fun l m hl F hs h => burstH ones l m hl F hs h) F pat k hk32 xs hk]
  constructor
  · intro h; exact sum_inj _ _ h
  · intro h; unfold highSum highReg; rw [h]

end Go.Proofs.Ytgnccnpmegekmaa.Crc
