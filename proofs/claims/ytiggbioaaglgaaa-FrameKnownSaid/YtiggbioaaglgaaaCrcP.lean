/-
  Plain facts about the two sums of layer 3: registers of 32 bits, what bits do to them. No program. No conditions.
-/
import Derived.Test.YtiggbioaaglgaaaMBits
namespace Go.Proofs.Ytiggbioaaglgaaa.Crc

abbrev Reg := BitVec 32

/-- The low register goes one to the right. -/
def stepL (v : Reg) (b : Bool) : Reg := (v >>> 1) ^^^ (if v.getLsbD 0 ^^ b then 0xedb88320#32 else 0#32)
/-- The high register goes one to the left. -/
def stepH (v : Reg) (b : Bool) : Reg := (v <<< 1) ^^^ (if v.msb ^^ b then 0x04c11db7#32 else 0#32)

def regL (v : Reg) (l : List Bool) : Reg := l.foldl stepL v
def regH (v : Reg) (l : List Bool) : Reg := l.foldl stepH v

theorem regL_nil (v : Reg) : regL v [] = v := rfl
theorem regL_cons (v : Reg) (b : Bool) (l : List Bool) : regL v (b :: l) = regL (stepL v b) l := rfl
theorem regL_append (v : Reg) (l m : List Bool) : regL v (l ++ m) = regL (regL v l) m := List.foldl_append
theorem regH_cons (v : Reg) (b : Bool) (l : List Bool) : regH v (b :: l) = regH (stepH v b) l := rfl
theorem regH_append (v : Reg) (l m : List Bool) : regH v (l ++ m) = regH (regH v l) m := List.foldl_append

/-! The high register is the low one, turned round. -/
theorem reverse_xor (x y : Reg) : (x ^^^ y).reverse = x.reverse ^^^ y.reverse := by
  apply BitVec.eq_of_getLsbD_eq
  intro i hi
  simp [BitVec.getLsbD_reverse, BitVec.getMsbD_xor]

theorem reverse_shl (x : Reg) : (x <<< 1).reverse = x.reverse >>> 1 := by
  apply BitVec.eq_of_getLsbD_eq
  intro i hi
  simp only [BitVec.getLsbD_reverse, BitVec.getLsbD_ushiftRight, BitVec.getMsbD_shiftLeft]
  rw [Nat.add_comm]

theorem reverse_poly : (0x04c11db7#32 : Reg).reverse = 0xedb88320#32 := by decide +kernel
theorem reverse_zero : (0#32 : Reg).reverse = 0#32 := by decide +kernel
theorem reverse_ones : (0xffffffff#32 : Reg).reverse = 0xffffffff#32 := by decide +kernel

theorem stepH_reverse (v : Reg) (b : Bool) : (stepH v b).reverse = stepL v.reverse b := by
  have e : v.reverse.getLsbD 0 = v.msb := by rw [BitVec.getLsbD_reverse, BitVec.msb]
  unfold stepH stepL
  rw [reverse_xor, reverse_shl, e]
  cases v.msb ^^ b
  · rw [if_neg (by simp), if_neg (by simp), reverse_zero]
  · rw [if_pos rfl, if_pos rfl, reverse_poly]

theorem regH_reverse (v : Reg) (l : List Bool) : (regH v l).reverse = regL v.reverse l := by
  induction l generalizing v with
  | nil => rfl
  | cons b l ih => rw [regH_cons, regL_cons, ih, stepH_reverse]

theorem reverse_reverse (v : Reg) : v.reverse.reverse = v := by
  apply BitVec.eq_of_getLsbD_eq
  intro i hi
  rw [BitVec.getLsbD_reverse, BitVec.getMsbD_reverse]

theorem regH_eq (v : Reg) (l : List Bool) : regH v l = (regL v.reverse l).reverse := by rw [← regH_reverse, reverse_reverse]

/-! Registers are added without carry. -/
theorem shr_xor (x y : Reg) : (x ^^^ y) >>> 1 = (x >>> 1) ^^^ (y >>> 1) := by
  apply BitVec.eq_of_getLsbD_eq
  intro i hi
  simp

theorem stepL_xor (v w : Reg) (b c : Bool) : stepL (v ^^^ w) (b ^^ c) = stepL v b ^^^ stepL w c := by
  have e : ((v ^^^ w).getLsbD 0 ^^ (b ^^ c)) = ((v.getLsbD 0 ^^ b) ^^ (w.getLsbD 0 ^^ c)) := by
    rw [BitVec.getLsbD_xor]
    cases v.getLsbD 0 <;> cases w.getLsbD 0 <;> cases b <;> cases c <;> rfl
  unfold stepL
  rw [shr_xor, e]
  generalize v >>> 1 = p
  generalize w >>> 1 = q
  cases (v.getLsbD 0 ^^ b) <;> cases (w.getLsbD 0 ^^ c)
  · simp
  · simp [BitVec.xor_assoc]
  · simp
    rw [BitVec.xor_assoc, BitVec.xor_comm q, ← BitVec.xor_assoc]
  · simp
    rw [BitVec.xor_assoc p, BitVec.xor_comm _ (q ^^^ _), BitVec.xor_assoc q, BitVec.xor_self]
    simp

/-- Rows of like length, added without carry. -/
def addB (l m : List Bool) : List Bool := List.zipWith (fun a b => a ^^ b) l m

theorem regL_xor (v w : Reg) (l m : List Bool) (h : l.length = m.length) : regL (v ^^^ w) (addB l m) = regL v l ^^^ regL w m := by
  induction l generalizing v w m with
  | nil =>
    cases m with
    | nil => rfl
    | cons b m => simp at h
  | cons a l ih =>
    cases m with
    | nil => simp at h
    | cons b m =>
      simp only [addB, List.zipWith_cons_cons, regL_cons] at ih ⊢
      rw [stepL_xor]
      exact ih _ _ _ (by simpa using h)

theorem regH_xor (v w : Reg) (l m : List Bool) (h : l.length = m.length) : regH (v ^^^ w) (addB l m) = regH v l ^^^ regH w m := by
  rw [regH_eq, reverse_xor, regL_xor _ _ _ _ h, reverse_xor, ← regH_eq, ← regH_eq]

/-! What is within 32 bits is not lost. -/

/-- Bits as a register, the lowest first. -/
def ofBits : List Bool → Reg
  | [] => 0#32
  | b :: l => (ofBits l <<< 1) ^^^ (if b then 1#32 else 0#32)

theorem stepL_small (u : Reg) (b : Bool) (h : (stepL u b).getLsbD 31 = false) : u = (stepL u b <<< 1) ^^^ (if b then 1#32 else 0#32) := by
  have hc : (u.getLsbD 0 ^^ b) = false := by
    cases hc : (u.getLsbD 0 ^^ b)
    · rfl
    · unfold stepL at h
      rw [hc, if_pos rfl, BitVec.getLsbD_xor, BitVec.getLsbD_ushiftRight] at h
      simp at h
  have hb : u.getLsbD 0 = b := by revert hc; cases u.getLsbD 0 <;> cases b <;> simp
  have e : stepL u b = u >>> 1 := by unfold stepL; rw [hc]; simp
  rw [e]
  apply BitVec.eq_of_getLsbD_eq
  intro i hi
  rw [BitVec.getLsbD_xor, BitVec.getLsbD_shiftLeft, BitVec.getLsbD_ushiftRight]
  cases i with
  | zero => rw [hb]; cases b <;> simp
  | succ i =>
    have : (if b then 1#32 else 0#32).getLsbD (i + 1) = false := by
      cases b
      · simp
      · rw [if_pos rfl, BitVec.getLsbD_one]; simp
    rw [this, Nat.add_sub_cancel, Nat.add_comm 1 i]
    simp only [Bool.xor_false, hi, decide_true, Bool.true_and, show ¬ i + 1 < 1 from by omega, decide_false, Bool.not_false]

theorem ofBits_high (l : List Bool) (i : Nat) (h : l.length ≤ i) : (ofBits l).getLsbD i = false := by
  induction l generalizing i with
  | nil => simp [ofBits]
  | cons b l ih =>
    cases i with
    | zero => simp at h
    | succ i =>
      rw [ofBits, BitVec.getLsbD_xor, BitVec.getLsbD_shiftLeft]
      have h1 : (if b then 1#32 else 0#32).getLsbD (i + 1) = false := by
        cases b
        · simp
        · rw [if_pos rfl, BitVec.getLsbD_one]; simp
      rw [h1, ih (i + 1 - 1) (by simp at h; omega)]
      simp

theorem regL_zero (u : Reg) (d : List Bool) (hd : d.length ≤ 32) (h : regL u d = 0#32) : u = ofBits d := by
  induction d generalizing u with
  | nil => exact h
  | cons b d ih =>
    simp only [List.length_cons] at hd
    have h1 := ih (stepL u b) (by omega) h
    have h2 := stepL_small u b (by rw [h1]; exact ofBits_high d 31 (by omega))
    rw [h2, h1]
    rfl

theorem ofBits_get (l : List Bool) (hl : l.length ≤ 32) (i : Nat) (h : i < l.length) : (ofBits l).getLsbD i = l[i] := by
  induction l generalizing i with
  | nil => simp at h
  | cons b l ih =>
    simp only [List.length_cons] at hl h
    rw [ofBits, BitVec.getLsbD_xor, BitVec.getLsbD_shiftLeft]
    cases i with
    | zero => cases b <;> simp
    | succ i =>
      have h1 : (if b then 1#32 else 0#32).getLsbD (i + 1) = false := by
        cases b
        · simp
        · rw [if_pos rfl, BitVec.getLsbD_one]; simp
      rw [h1]
      simp only [List.getElem_cons_succ, Nat.add_sub_cancel, Bool.xor_false]
      rw [ih (by omega) i (by omega)]
      simp
      omega

theorem stepL_inj (v w : Reg) (b : Bool) (h : stepL v b = stepL w b) : v = w := by
  have e : stepL (v ^^^ w) (b ^^ b) = 0#32 := by rw [stepL_xor, h, BitVec.xor_self]
  rw [Bool.xor_self] at e
  have h1 := stepL_small (v ^^^ w) false (by rw [e]; simp)
  rw [e] at h1
  simp at h1
  exact h1

theorem regL_inj (v w : Reg) (l : List Bool) (h : regL v l = regL w l) : v = w := by
  induction l generalizing v w with
  | nil => exact h
  | cons b l ih => exact stepL_inj v w b (ih _ _ h)

theorem regL_short (v : Reg) (l m : List Bool) (hlm : l.length = m.length) (hl : l.length ≤ 32) (h : regL v l = regL v m) : l = m := by
  have e : regL 0#32 (addB l m) = 0#32 := by
    have e1 := regL_xor v v l m hlm
    rwa [BitVec.xor_self, h, BitVec.xor_self] at e1
  have hlen : (addB l m).length = l.length := by simp [addB, hlm]
  have e2 := regL_zero _ _ (by omega) e
  apply List.ext_getElem hlm
  intro i h1 h2
  have e3 := ofBits_get (addB l m) (by omega) i (by omega)
  rw [← e2] at e3
  simp [addB] at e3
  exact e3

/-- The stage's theorem, of the low register: rows that differ only within 32 bits. -/
theorem burstL (v : Reg) (l m : List Bool) (hlm : l.length = m.length) (from_ : Nat) (hs : ∀ i (h1 : i < l.length) (h2 : i < m.length), (i < from_ ∨ from_ + 32 ≤ i) → l[i] = m[i]) (h : regL v l = regL v m) : l = m := by
  have a1 : l.take from_ = m.take from_ := by
    apply List.ext_getElem (by simp [hlm])
    intro i h1 h2
    simp at h1 h2
    rw [List.getElem_take, List.getElem_take]
    exact hs i (by omega) (by omega) (.inl (by omega))
  have a3 : l.drop (from_ + 32) = m.drop (from_ + 32) := by
    apply List.ext_getElem (by simp [hlm])
    intro i h1 h2
    simp at h1 h2
    rw [List.getElem_drop, List.getElem_drop]
    exact hs _ (by omega) (by omega) (.inr (by omega))
  have sl : l = l.take from_ ++ ((l.drop from_).take 32 ++ l.drop (from_ + 32)) := by
    rw [← List.drop_drop, List.take_append_drop, List.take_append_drop]
  have sm : m = m.take from_ ++ ((m.drop from_).take 32 ++ m.drop (from_ + 32)) := by
    rw [← List.drop_drop, List.take_append_drop, List.take_append_drop]
  rw [sl, sm, ← a1, ← a3, regL_append, regL_append, regL_append, regL_append] at h
  have h2 := regL_inj _ _ _ h
  have h3 := regL_short _ _ _ (by simp [hlm]) (by simp; omega) h2
  rw [sl, h3, a1, a3, ← sm]

theorem burstH (v : Reg) (l m : List Bool) (hlm : l.length = m.length) (from_ : Nat) (hs : ∀ i (h1 : i < l.length) (h2 : i < m.length), (i < from_ ∨ from_ + 32 ≤ i) → l[i] = m[i]) (h : regH v l = regH v m) : l = m := by
  rw [regH_eq, regH_eq] at h
  have h1 := congrArg BitVec.reverse h
  rw [reverse_reverse, reverse_reverse] at h1
  exact burstL _ l m hlm from_ hs h1

end Go.Proofs.Ytiggbioaaglgaaa.Crc
