/-
  CrcP CrcQ CrcS, one behind the other (merged by wip/merge.py). No conditions but those that each states.
-/
import Derived.Test.YtpinfihmageeoaaGreatMBits

namespace Go.Proofs.YtpinfihmageeoaaGreat.Crc

abbrev Reg := BitVec 32

def stepL (v : Reg) (b : Bool) : Reg := (v >>> 1) ^^^ (if v.getLsbD 0 ^^ b then 0xedb88320#32 else 0#32)
def stepH (v : Reg) (b : Bool) : Reg := (v <<< 1) ^^^ (if v.msb ^^ b then 0x04c11db7#32 else 0#32)

def regL (v : Reg) (l : List Bool) : Reg := l.foldl stepL v
def regH (v : Reg) (l : List Bool) : Reg := l.foldl stepH v

theorem regL_nil (v : Reg) : regL v [] = v := rfl
theorem regL_cons (v : Reg) (b : Bool) (l : List Bool) : regL v (b :: l) = regL (stepL v b) l := rfl
theorem regL_append (v : Reg) (l m : List Bool) : regL v (l ++ m) = regL (regL v l) m := List.foldl_append
theorem regH_cons (v : Reg) (b : Bool) (l : List Bool) : regH v (b :: l) = regH (stepH v b) l := rfl
theorem regH_append (v : Reg) (l m : List Bool) : regH v (l ++ m) = regH (regH v l) m := List.foldl_append

theorem reverse_xor (x y : Reg) : (x ^^^ y).reverse = x.reverse ^^^ y.reverse := by
  apply BitVec.eq_of_getLsbD_eq
  intro i hi
  simp [BitVec.getLsbD_reverse, BitVec.getMsbD_xor]

theorem reverse_shl (x : Reg) : (x <<< 1).reverse = x.reverse >>> 1 := by
  apply BitVec.eq_of_getLsbD_eq
  intro i hi
  simp only [BitVec.getLsbD_reverse, BitVec.getLsbD_ushiftRight, BitVec.getMsbD_shiftLeft]
  rw [Nat.add_comm]

theorem reverse_poly : (0x04c11db7#32 : Reg).reverse = 0xedb88320#32 := by decide +kernel
theorem reverse_zero : (0#32 : Reg).reverse = 0#32 := by decide +kernel
theorem reverse_ones : (0xffffffff#32 : Reg).reverse = 0xffffffff#32 := by decide +kernel

theorem stepH_reverse (v : Reg) (b : Bool) : (stepH v b).reverse = stepL v.reverse b := by
  have e : v.reverse.getLsbD 0 = v.msb := by rw [BitVec.getLsbD_reverse, BitVec.msb]
  unfold stepH stepL
  rw [reverse_xor, reverse_shl, e]
  cases v.msb ^^ b
  · rw [if_neg (by simp), if_neg (by simp), reverse_zero]
  · rw [if_pos rfl, if_pos rfl, reverse_poly]

theorem regH_reverse (v : Reg) (l : List Bool) : (regH v l).reverse = regL v.reverse l := by
  induction l generalizing v with
  | nil => rfl
  | cons b l ih => rw [regH_cons, regL_cons, ih, stepH_reverse]

theorem reverse_reverse (v : Reg) : v.reverse.reverse = v := by
  apply BitVec.eq_of_getLsbD_eq
  intro i hi
  rw [BitVec.getLsbD_reverse, BitVec.getMsbD_reverse]

theorem regH_eq (v : Reg) (l : List Bool) : regH v l = (regL v.reverse l).reverse := by rw [← regH_reverse, reverse_reverse]

theorem shr_xor (x y : Reg) : (x ^^^ y) >>> 1 = (x >>> 1) ^^^ (y >>> 1) := by
  apply BitVec.eq_of_getLsbD_eq
  intro i hi
  simp

theorem stepL_xor (v w : Reg) (b c : Bool) : stepL (v ^^^ w) (b ^^ c) = stepL v b ^^^ stepL w c := by
  have e : ((v ^^^ w).getLsbD 0 ^^ (b ^^ c)) = ((v.getLsbD 0 ^^ b) ^^ (w.getLsbD 0 ^^ c)) := by
    rw [BitVec.getLsbD_xor]
    cases v.getLsbD 0 <;> cases w.getLsbD 0 <;> cases b <;> cases c <;> rfl
  unfold stepL
  rw [shr_xor, e]
  generalize v >>> 1 = p
  generalize w >>> 1 = q
  cases (v.getLsbD 0 ^^ b) <;> cases (w.getLsbD 0 ^^ c)
  · simp
  · simp [BitVec.xor_assoc]
  · simp
    rw [BitVec.xor_assoc, BitVec.xor_comm q, ← BitVec.xor_assoc]
  · simp
    rw [BitVec.xor_assoc p, BitVec.xor_comm _ (q ^^^ _), BitVec.xor_assoc q, BitVec.xor_self]
    simp

def addB (l m : List Bool) : List Bool := List.zipWith (fun a b => a ^^ b) l m

theorem regL_xor (v w : Reg) (l m : List Bool) (h : l.length = m.length) : regL (v ^^^ w) (addB l m) = regL v l ^^^ regL w m := by
  induction l generalizing v w m with
  | nil =>
    cases m with
    | nil => rfl
    | cons b m => simp at h
  | cons a l ih =>
    cases m with
    | nil => simp at h
    | cons b m =>
      simp only [addB, List.zipWith_cons_cons, regL_cons] at ih ⊢
      rw [stepL_xor]
      exact ih _ _ _ (by simpa using h)

theorem regH_xor (v w : Reg) (l m : List Bool) (h : l.length = m.length) : regH (v ^^^ w) (addB l m) = regH v l ^^^ regH w m := by
  rw [regH_eq, reverse_xor, regL_xor _ _ _ _ h, reverse_xor, ← regH_eq, ← regH_eq]


def ofBits : List Bool → Reg
  | [] => 0#32
  | b :: l => (ofBits l <<< 1) ^^^ (if b then 1#32 else 0#32)

theorem stepL_small (u : Reg) (b : Bool) (h : (stepL u b).getLsbD 31 = false) : u = (stepL u b <<< 1) ^^^ (if b then 1#32 else 0#32) := by
  have hc : (u.getLsbD 0 ^^ b) = false := by
    cases hc : (u.getLsbD 0 ^^ b)
    · rfl
    · unfold stepL at h
      rw [hc, if_pos rfl, BitVec.getLsbD_xor, BitVec.getLsbD_ushiftRight] at h
      simp at h
  have hb : u.getLsbD 0 = b := by revert hc; cases u.getLsbD 0 <;> cases b <;> simp
  have e : stepL u b = u >>> 1 := by unfold stepL; rw [hc]; simp
  rw [e]
  apply BitVec.eq_of_getLsbD_eq
  intro i hi
  rw [BitVec.getLsbD_xor, BitVec.getLsbD_shiftLeft, BitVec.getLsbD_ushiftRight]
  cases i with
  | zero => rw [hb]; cases b <;> simp
  | succ i =>
    have : (if b then 1#32 else 0#32).getLsbD (i + 1) = false := by
      cases b
      · simp
      · rw [if_pos rfl, BitVec.getLsbD_one]; simp
    rw [this, Nat.add_sub_cancel, Nat.add_comm 1 i]
    simp only [Bool.xor_false, hi, decide_true, Bool.true_and, show ¬ i + 1 < 1 from by omega, decide_false, Bool.not_false]

theorem ofBits_high (l : List Bool) (i : Nat) (h : l.length ≤ i) : (ofBits l).getLsbD i = false := by
  induction l generalizing i with
  | nil => simp [ofBits]
  | cons b l ih =>
    cases i with
    | zero => simp at h
    | succ i =>
      rw [ofBits, BitVec.getLsbD_xor, BitVec.getLsbD_shiftLeft]
      have h1 : (if b then 1#32 else 0#32).getLsbD (i + 1) = false := by
        cases b
        · simp
        · rw [if_pos rfl, BitVec.getLsbD_one]; simp
      rw [h1, ih (i + 1 - 1) (by simp at h; omega)]
      simp

theorem regL_zero (u : Reg) (d : List Bool) (hd : d.length ≤ 32) (h : regL u d = 0#32) : u = ofBits d := by
  induction d generalizing u with
  | nil => exact h
  | cons b d ih =>
    simp only [List.length_cons] at hd
    have h1 := ih (stepL u b) (by omega) h
    have h2 := stepL_small u b (by rw [h1]; exact ofBits_high d 31 (by omega))
    rw [h2, h1]
    rfl

theorem ofBits_get (l : List Bool) (hl : l.length ≤ 32) (i : Nat) (h : i < l.length) : (ofBits l).getLsbD i = l[i] := by
  induction l generalizing i with
  | nil => simp at h
  | cons b l ih =>
    simp only [List.length_cons] at hl h
    rw [ofBits, BitVec.getLsbD_xor, BitVec.getLsbD_shiftLeft]
    cases i with
    | zero => cases b <;> simp
    | succ i =>
      have h1 : (if b then 1#32 else 0#32).getLsbD (i + 1) = false := by
        cases b
        · simp
        · rw [if_pos rfl, BitVec.getLsbD_one]; simp
      rw [h1]
      simp only [List.getElem_cons_succ, Nat.add_sub_cancel, Bool.xor_false]
      rw [ih (by omega) i (by omega)]
      simp
      omega

theorem stepL_inj (v w : Reg) (b : Bool) (h : stepL v b = stepL w b) : v = w := by
  have e : stepL (v ^^^ w) (b ^^ b) = 0#32 := by rw [stepL_xor, h, BitVec.xor_self]
  rw [Bool.xor_self] at e
  have h1 := stepL_small (v ^^^ w) false (by rw [e]; simp)
  rw [e] at h1
  simp at h1
  exact h1

theorem regL_inj (v w : Reg) (l : List Bool) (h : regL v l = regL w l) : v = w := by
  induction l generalizing v w with
  | nil => exact h
  | cons b l ih => exact stepL_inj v w b (ih _ _ h)

theorem regL_short (v : Reg) (l m : List Bool) (hlm : l.length = m.length) (hl : l.length ≤ 32) (h : regL v l = regL v m) : l = m := by
  have e : regL 0#32 (addB l m) = 0#32 := by
    have e1 := regL_xor v v l m hlm
    rwa [BitVec.xor_self, h, BitVec.xor_self] at e1
  have hlen : (addB l m).length = l.length := by simp [addB, hlm]
  have e2 := regL_zero _ _ (by omega) e
  apply List.ext_getElem hlm
  intro i h1 h2
  have e3 := ofBits_get (addB l m) (by omega) i (by omega)
  rw [← e2] at e3
  simp [addB] at e3
  exact e3

theorem burstL (v : Reg) (l m : List Bool) (hlm : l.length = m.length) (from_ : Nat) (hs : ∀ i (h1 : i < l.length) (h2 : i < m.length), (i < from_ ∨ from_ + 32 ≤ i) → l[i] = m[i]) (h : regL v l = regL v m) : l = m := by
  have a1 : l.take from_ = m.take from_ := by
    apply List.ext_getElem (by simp [hlm])
    intro i h1 h2
    simp at h1 h2
    rw [List.getElem_take, List.getElem_take]
    exact hs i (by omega) (by omega) (.inl (by omega))
  have a3 : l.drop (from_ + 32) = m.drop (from_ + 32) := by
    apply List.ext_getElem (by simp [hlm])
    intro i h1 h2
    simp at h1 h2
    rw [List.getElem_drop, List.getElem_drop]
    exact hs _ (by omega) (by omega) (.inr (by omega))
  have sl : l = l.take from_ ++ ((l.drop from_).take 32 ++ l.drop (from_ + 32)) := by
    rw [← List.drop_drop, List.take_append_drop, List.take_append_drop]
  have sm : m = m.take from_ ++ ((m.drop from_).take 32 ++ m.drop (from_ + 32)) := by
    rw [← List.drop_drop, List.take_append_drop, List.take_append_drop]
  rw [sl, sm, ← a1, ← a3, regL_append, regL_append, regL_append, regL_append] at h
  have h2 := regL_inj _ _ _ h
  have h3 := regL_short _ _ _ (by simp [hlm]) (by simp; omega) h2
  rw [sl, h3, a1, a3, ← sm]

theorem burstH (v : Reg) (l m : List Bool) (hlm : l.length = m.length) (from_ : Nat) (hs : ∀ i (h1 : i < l.length) (h2 : i < m.length), (i < from_ ∨ from_ + 32 ≤ i) → l[i] = m[i]) (h : regH v l = regH v m) : l = m := by
  rw [regH_eq, regH_eq] at h
  have h1 := congrArg BitVec.reverse h
  rw [reverse_reverse, reverse_reverse] at h1
  exact burstL _ l m hlm from_ hs h1

end Go.Proofs.YtpinfihmageeoaaGreat.Crc

namespace Go.Proofs.YtpinfihmageeoaaGreat.Crc

def zeros (n : Nat) : List Bool := List.replicate n false

theorem addB_zeros (n : Nat) : addB (zeros n) (zeros n) = zeros n := by
  unfold addB zeros
  rw [List.zipWith_replicate]
  simp

theorem ofBits_low (b : Bool) (l : List Bool) : (ofBits (b :: l)).getLsbD 0 = b := by
  rw [ofBits, BitVec.getLsbD_xor, BitVec.getLsbD_shiftLeft]
  cases b <;> simp

theorem ofBits_shr (b : Bool) (l : List Bool) (h : l.length ≤ 31) : ofBits (b :: l) >>> 1 = ofBits l := by
  apply BitVec.eq_of_getLsbD_eq
  intro i hi
  rw [BitVec.getLsbD_ushiftRight, ofBits, BitVec.getLsbD_xor, BitVec.getLsbD_shiftLeft]
  have h1 : (if b then 1#32 else 0#32).getLsbD (1 + i) = false := by
    cases b
    · simp
    · rw [if_pos rfl, BitVec.getLsbD_one]; simp
  rw [h1, Nat.add_sub_cancel_left]
  by_cases h31 : i < 31
  · simp only [show 1 + i < 32 from by omega, decide_true, Bool.true_and, show ¬ 1 + i < 1 from by omega, decide_false, Bool.not_false, Bool.xor_false]
  · rw [ofBits_high l i (by omega)]
    simp

theorem stepL_ofBits (b : Bool) (l : List Bool) (h : l.length ≤ 31) : stepL (ofBits (b :: l)) b = ofBits l := by
  unfold stepL
  rw [ofBits_low, ofBits_shr b l h]
  simp

theorem regL_front (v : Reg) (l : List Bool) (h : l.length ≤ 32) : regL v l = regL (v ^^^ ofBits l) (zeros l.length) := by
  induction l generalizing v with
  | nil => simp [regL, ofBits, zeros]
  | cons b l ih =>
    simp only [List.length_cons] at h
    rw [regL_cons, ih _ (by omega)]
    show _ = regL (v ^^^ ofBits (b :: l)) (false :: zeros l.length)
    rw [regL_cons]
    congr 1
    have e := stepL_xor v (ofBits (b :: l)) b b
    rw [Bool.xor_self, stepL_ofBits b l (by omega)] at e
    exact e.symm

theorem regL_shl (h : Reg) (n : Nat) (hn : ∀ i, 32 - n ≤ i → h.getLsbD i = false) (hn2 : n ≤ 32) : regL (h <<< n) (zeros n) = h := by
  induction n with
  | zero => simp [regL, zeros]
  | succ n ih =>
    show regL (h <<< (n + 1)) (false :: zeros n) = h
    rw [regL_cons]
    have e : stepL (h <<< (n + 1)) false = h <<< n := by
      unfold stepL
      have h0 : (h <<< (n + 1)).getLsbD 0 = false := by rw [BitVec.getLsbD_shiftLeft]; simp
      rw [h0]
      simp only [Bool.xor_false, Bool.false_eq_true, if_false, BitVec.xor_zero]
      apply BitVec.eq_of_getLsbD_eq
      intro i hi
      rw [BitVec.getLsbD_ushiftRight, BitVec.getLsbD_shiftLeft, BitVec.getLsbD_shiftLeft]
      by_cases h31 : i < 31
      · rw [show 1 + i - (n + 1) = i - n from by omega]
        simp only [show 1 + i < 32 from by omega, hi, decide_true, Bool.true_and]
        congr 2
        simp only [decide_eq_decide]
        omega
      · have : i = 31 := by omega
        subst this
        rw [hn (31 - n) (by omega)]
        simp
    rw [e]
    exact ih (fun i hi => hn i (by omega)) (by omega)

def tabL (i : Nat) : Reg := regL (BitVec.ofNat 32 i) (zeros 8)
def tabH (i : Nat) : Reg := regH (BitVec.ofNat 32 i <<< 24) (zeros 8)

theorem split8 (w : Reg) : w = BitVec.ofNat 32 (w.toNat % 256) ^^^ ((w >>> 8) <<< 8) := by
  apply BitVec.eq_of_getLsbD_eq
  intro i hi
  rw [BitVec.getLsbD_xor, BitVec.getLsbD_shiftLeft, BitVec.getLsbD_ushiftRight, BitVec.getLsbD_ofNat]
  rw [show (256 : Nat) = 2 ^ 8 from rfl, Nat.testBit_mod_two_pow]
  by_cases h8 : i < 8
  · simp only [hi, h8, decide_true, Bool.true_and, Bool.not_true, Bool.and_false, Bool.false_and, Bool.xor_false]
    rfl
  · simp only [hi, h8, decide_true, decide_false, Bool.true_and, Bool.false_and, Bool.and_false, Bool.not_false, Bool.false_xor]
    rw [show 8 + (i - 8) = i from by omega]

theorem regL_tab (w : Reg) : regL w (zeros 8) = tabL (w.toNat % 256) ^^^ (w >>> 8) := by
  conv => lhs; rw [split8 w, ← addB_zeros 8]
  rw [regL_xor _ _ _ _ rfl, regL_shl (w >>> 8) 8 ?_ (by omega)]
  · rfl
  · intro i hi
    rw [BitVec.getLsbD_ushiftRight]
    exact BitVec.getLsbD_of_ge _ _ (by omega)

theorem ofBits_bitsOf (x n : Nat) (hn : n ≤ 32) (hx : x < 2 ^ n) : ofBits (bitsOf x n) = BitVec.ofNat 32 x := by
  induction n generalizing x with
  | zero =>
    have : x = 0 := by simpa using hx
    subst this
    rfl
  | succ n ih =>
    rw [Nat.pow_succ] at hx
    rw [bitsOf, ofBits, ih (x / 2) (by omega) (by omega)]
    apply BitVec.eq_of_getLsbD_eq
    intro i hi
    rw [BitVec.getLsbD_xor, BitVec.getLsbD_shiftLeft, BitVec.getLsbD_ofNat, BitVec.getLsbD_ofNat]
    cases i with
    | zero =>
      rw [Nat.testBit_zero]
      rcases Nat.mod_two_eq_zero_or_one x with h | h <;> simp [h]
    | succ i =>
      have h1 : (if (x % 2 == 1) = true then 1#32 else 0#32).getLsbD (i + 1) = false := by
        cases (x % 2 == 1)
        · simp
        · rw [if_pos rfl, BitVec.getLsbD_one]; simp
      rw [h1, Nat.add_sub_cancel, Nat.testBit_succ]
      simp only [hi, show i < 32 from by omega, show ¬ i + 1 < 1 from by omega, decide_true, decide_false, Bool.true_and, Bool.not_false, Bool.xor_false]

theorem byteL (v : Reg) (x : Nat) (hx : x < 256) : regL v (bitsOf x 8) = tabL ((v.toNat % 256) ^^^ x) ^^^ (v >>> 8) := by
  rw [regL_front v _ (by rw [bitsOf_length]; omega), bitsOf_length, ofBits_bitsOf x 8 (by omega) hx, regL_tab]
  have e1 : (v ^^^ BitVec.ofNat 32 x).toNat % 256 = (v.toNat % 256) ^^^ x := by
    rw [BitVec.toNat_xor, BitVec.toNat_ofNat, Nat.mod_eq_of_lt (show x < 2 ^ 32 by omega), show (256 : Nat) = 2 ^ 8 from rfl, Nat.xor_mod_two_pow, Nat.mod_eq_of_lt (show x < 2 ^ 8 by omega)]
  have e2 : (v ^^^ BitVec.ofNat 32 x) >>> 8 = v >>> 8 := by
    apply BitVec.eq_of_getLsbD_eq
    intro i hi
    rw [BitVec.getLsbD_ushiftRight, BitVec.getLsbD_ushiftRight, BitVec.getLsbD_xor, BitVec.getLsbD_ofNat, Nat.testBit_lt_two_pow (x := x) (i := 8 + i) (Nat.lt_of_lt_of_le hx (by rw [Nat.pow_add]; exact Nat.le_mul_of_pos_right _ (Nat.two_pow_pos i)))]
    simp
  rw [e1, e2]

end Go.Proofs.YtpinfihmageeoaaGreat.Crc

namespace Go.Proofs.YtpinfihmageeoaaGreat.Crc

theorem reverse_shl_n (x : Reg) (n : Nat) : (x <<< n).reverse = x.reverse >>> n := by
  apply BitVec.eq_of_getLsbD_eq
  intro i hi
  simp only [BitVec.getLsbD_reverse, BitVec.getLsbD_ushiftRight, BitVec.getMsbD_shiftLeft]
  rw [Nat.add_comm]

theorem reverse_shr_n (x : Reg) (n : Nat) : (x >>> n).reverse = x.reverse <<< n := by
  have e := reverse_shl_n x.reverse n
  rw [reverse_reverse] at e
  rw [← e, reverse_reverse]

theorem regH_tab (w : Reg) : regH w (zeros 8) = tabH (w.toNat / 16777216) ^^^ (w <<< 8) := by
  have hs : w = (BitVec.ofNat 32 (w.toNat / 16777216) <<< 24) ^^^ ((w <<< 8) >>> 8) := by
    apply BitVec.eq_of_getLsbD_eq
    intro i hi
    rw [BitVec.getLsbD_xor, BitVec.getLsbD_shiftLeft, BitVec.getLsbD_ushiftRight, BitVec.getLsbD_shiftLeft, BitVec.getLsbD_ofNat]
    rw [show (16777216 : Nat) = 2 ^ 24 from rfl, Nat.testBit_div_two_pow]
    by_cases h24 : i < 24
    · simp only [hi, h24, decide_true, Bool.true_and, Bool.not_true, Bool.false_and, Bool.and_false, Bool.false_xor, show 8 + i < 32 from by omega, show ¬ 8 + i < 8 from by omega, decide_false, Bool.not_false]
      rw [Nat.add_sub_cancel_left]
    · simp only [hi, h24, decide_true, decide_false, Bool.true_and, Bool.not_false, show i - 24 < 32 from by omega, show ¬ 8 + i < 32 from by omega, Bool.false_and, Bool.xor_false]
      rw [show i - 24 + 24 = i from by omega]
      rfl
  conv => lhs; rw [hs, ← addB_zeros 8]
  rw [regH_xor _ _ _ _ rfl]
  have e : regH ((w <<< 8) >>> 8) (zeros 8) = w <<< 8 := by
    rw [regH_eq, reverse_shr_n, regL_shl _ 8 ?_ (by omega), reverse_reverse]
    intro i hi
    rw [reverse_shl_n, BitVec.getLsbD_ushiftRight]
    exact BitVec.getLsbD_of_ge _ _ (by omega)
  rw [e]
  rfl

theorem ofBits_high_byte (x : Nat) : (ofBits (Msb.bitsOf x 8)).reverse = BitVec.ofNat 32 x <<< 24 := by
  apply BitVec.eq_of_getLsbD_eq
  intro i hi
  rw [BitVec.getLsbD_reverse, BitVec.getMsbD_eq_getLsbD, BitVec.getLsbD_shiftLeft, BitVec.getLsbD_ofNat]
  have hl := Msb.bitsOf_length x 8
  by_cases h24 : i < 24
  · rw [ofBits_high _ _ (by rw [hl]; omega)]
    simp [h24]
  · rw [ofBits_get _ (by rw [hl]; omega) _ (by rw [hl]; omega)]
    have e := Msb.bitsOf_get x 8 (32 - 1 - i) (by omega)
    rw [List.getElem?_eq_getElem (by rw [hl]; omega)] at e
    rw [Option.some.inj e, show 8 - 1 - (32 - 1 - i) = i - 24 from by omega]
    simp only [hi, h24, decide_true, decide_false, Bool.true_and, Bool.not_false, show i - 24 < 32 from by omega]
    rw [Nat.testBit_eq_decide_div_mod_eq]
    rcases Nat.mod_two_eq_zero_or_one (x / 2 ^ (i - 24)) with h | h <;> simp [h]

theorem byteH (v : Reg) (x : Nat) (hx : x < 256) : regH v (Msb.bitsOf x 8) = tabH ((v.toNat / 16777216) ^^^ x) ^^^ (v <<< 8) := by
  have hl := Msb.bitsOf_length x 8
  have e0 : regH v (Msb.bitsOf x 8) = regH (v ^^^ (BitVec.ofNat 32 x <<< 24)) (zeros 8) := by
    rw [regH_eq, regL_front _ _ (by rw [hl]; omega), hl, regH_eq, reverse_xor, ← ofBits_high_byte x, reverse_reverse]
  rw [e0, regH_tab]
  have e1 : (v ^^^ (BitVec.ofNat 32 x <<< 24)).toNat / 16777216 = (v.toNat / 16777216) ^^^ x := by
    rw [BitVec.toNat_xor, BitVec.toNat_shiftLeft, BitVec.toNat_ofNat, Nat.mod_eq_of_lt (show x < 2 ^ 32 by omega), Nat.shiftLeft_eq, Nat.mod_eq_of_lt (show x * 2 ^ 24 < 2 ^ 32 by omega), show (16777216 : Nat) = 2 ^ 24 from rfl, Nat.xor_div_two_pow, Nat.mul_div_cancel _ (Nat.two_pow_pos 24)]
  have e2 : (v ^^^ (BitVec.ofNat 32 x <<< 24)) <<< 8 = v <<< 8 := by
    apply BitVec.eq_of_getLsbD_eq
    intro i hi
    rw [BitVec.getLsbD_shiftLeft, BitVec.getLsbD_shiftLeft, BitVec.getLsbD_xor, BitVec.getLsbD_shiftLeft]
    by_cases h8 : i < 8
    · simp [h8]
    · simp [show i - 8 < 24 from by omega]
  rw [e1, e2]

def lowBits (xs : List Nat) : List Bool := xs.flatMap fun x => bitsOf x 8
def highBits (xs : List Nat) : List Bool := xs.flatMap fun x => Msb.bitsOf x 8
def ones : Reg := 0xffffffff#32
def lowReg (xs : List Nat) : Reg := regL ones (lowBits xs)
def highReg (xs : List Nat) : Reg := regH ones (highBits xs)
def lowSum (xs : List Nat) : Nat := (lowReg xs ^^^ ones).toNat
def highSum (xs : List Nat) : Nat := (highReg xs ^^^ ones).toNat

theorem lowBits_length (xs : List Nat) : (lowBits xs).length = 8 * xs.length := by
  induction xs with
  | nil => rfl
  | cons x xs ih => simp only [lowBits, List.flatMap_cons, List.length_append, bitsOf_length, List.length_cons] at *; omega

theorem highBits_length (xs : List Nat) : (highBits xs).length = 8 * xs.length := by
  induction xs with
  | nil => rfl
  | cons x xs ih => simp only [highBits, List.flatMap_cons, List.length_append, Msb.bitsOf_length, List.length_cons] at *; omega

theorem lowBits_append (xs ys : List Nat) : lowBits (xs ++ ys) = lowBits xs ++ lowBits ys := by simp [lowBits]
theorem highBits_append (xs ys : List Nat) : highBits (xs ++ ys) = highBits xs ++ highBits ys := by simp [highBits]

theorem lowReg_snoc (xs : List Nat) (k : Nat) (h : k < xs.length) : lowReg (xs.take (k + 1)) = regL (lowReg (xs.take k)) (bitsOf xs[k] 8) := by
  show regL ones (lowBits (xs.take (k + 1))) = _
  rw [List.take_succ_eq_append_getElem h, lowBits_append, regL_append]
  show regL (lowReg (xs.take k)) (lowBits [xs[k]]) = _
  simp only [lowBits, List.flatMap_cons, List.flatMap_nil, List.append_nil]

theorem highReg_snoc (xs : List Nat) (k : Nat) (h : k < xs.length) : highReg (xs.take (k + 1)) = regH (highReg (xs.take k)) (Msb.bitsOf xs[k] 8) := by
  show regH ones (highBits (xs.take (k + 1))) = _
  rw [List.take_succ_eq_append_getElem h, highBits_append, regH_append]
  show regH (highReg (xs.take k)) (highBits [xs[k]]) = _
  simp only [highBits, List.flatMap_cons, List.flatMap_nil, List.append_nil]

theorem sum_inj (v w : Reg) (h : (v ^^^ ones).toNat = (w ^^^ ones).toNat) : v = w := by
  have h1 := BitVec.eq_of_toNat_eq h
  have h2 := congrArg (· ^^^ ones) h1
  simpa [BitVec.xor_assoc, BitVec.xor_self] using h2

theorem bitsOf_at (x n k : Nat) (h : k < n) : (bitsOf x n)[k]? = some (x.testBit k) := by
  induction n generalizing x k with
  | zero => omega
  | succ n ih =>
    rw [bitsOf]
    cases k with
    | zero =>
      rw [Nat.testBit_zero]
      rcases Nat.mod_two_eq_zero_or_one x with e | e <;> simp [e]
    | succ k => rw [List.getElem?_cons_succ, ih (x / 2) k (by omega), Nat.testBit_succ]

theorem bitsOfH_at (x n k : Nat) (h : k < n) : (Msb.bitsOf x n)[k]? = some (x.testBit (n - 1 - k)) := by
  rw [Msb.bitsOf_get x n k h, Nat.testBit_eq_decide_div_mod_eq]
  rcases Nat.mod_two_eq_zero_or_one (x / 2 ^ (n - 1 - k)) with e | e <;> simp [e]

theorem flat_at (f : Nat → List Bool) (hf : ∀ x, (f x).length = 8) (xs : List Nat) (p : Nat) (h : p / 8 < xs.length) : (xs.flatMap f)[p]? = (f xs[p / 8])[p % 8]? := by
  induction xs generalizing p with
  | nil => simp at h
  | cons x xs ih =>
    rw [List.flatMap_cons]
    by_cases hp : p < 8
    · rw [List.getElem?_append_left (by rw [hf]; exact hp)]
      have e : p / 8 = 0 := by omega
      simp only [e, List.getElem_cons_zero, Nat.mod_eq_of_lt hp]
    · rw [List.getElem?_append_right (by rw [hf]; omega), hf]
      have e : p / 8 = (p - 8) / 8 + 1 := by omega
      have h' : (p - 8) / 8 < xs.length := by simp only [List.length_cons] at h; omega
      rw [ih (p - 8) h', show (p - 8) % 8 = p % 8 from by omega]
      simp only [e, List.getElem_cons_succ]

theorem lowBits_at (xs : List Nat) (p : Nat) (h : p / 8 < xs.length) : (lowBits xs)[p]? = some ((xs[p / 8]).testBit (p % 8)) := by
  unfold lowBits
  rw [flat_at _ (fun x => bitsOf_length x 8) xs p h, bitsOf_at _ _ _ (by omega)]

theorem highBits_at (xs : List Nat) (p : Nat) (h : p / 8 < xs.length) : (highBits xs)[p]? = some ((xs[p / 8]).testBit (7 - p % 8)) := by
  unfold highBits
  rw [flat_at _ (fun x => Msb.bitsOf_length x 8) xs p h, bitsOfH_at _ _ _ (by omega)]

def le4 (v : Nat) : List Nat := [v % 256, v / 256 % 256, v / 65536 % 256, v / 16777216 % 256]
def be4 (v : Nat) : List Nat := [v / 16777216 % 256, v / 65536 % 256, v / 256 % 256, v % 256]

theorem bitsOf_add (x m n : Nat) : bitsOf x (m + n) = bitsOf x m ++ bitsOf (x / 2 ^ m) n := by
  induction m generalizing x with
  | zero => simp [bitsOf]
  | succ m ih =>
    rw [show m + 1 + n = (m + n) + 1 from by omega, bitsOf, bitsOf, ih (x / 2), List.cons_append, Nat.div_div_eq_div_mul, ← Nat.pow_succ']

theorem bitsOf_mod (x m n : Nat) (h : n ≤ m) : bitsOf (x % 2 ^ m) n = bitsOf x n := by
  induction n generalizing x m with
  | zero => rfl
  | succ n ih =>
    obtain ⟨m, rfl⟩ : ∃ k, m = k + 1 := ⟨m - 1, by omega⟩
    have e1 : x % 2 ^ (m + 1) % 2 = x % 2 := by rw [Nat.pow_succ, Nat.mul_comm, Nat.mod_mul_right_mod]
    have e2 : x % 2 ^ (m + 1) / 2 = x / 2 % 2 ^ m := by rw [Nat.pow_succ, Nat.mul_comm, Nat.mod_mul_right_div_self]
    rw [bitsOf, bitsOf, e1, e2, ih (x / 2) m (by omega)]

theorem lowBits_le4 (v : Nat) : lowBits (le4 v) = bitsOf v 32 := by
  have h : ∀ x, bitsOf (x % 256) 8 = bitsOf x 8 := fun x => bitsOf_mod x 8 8 (Nat.le_refl _)
  simp only [lowBits, le4, List.flatMap_cons, List.flatMap_nil, h, List.append_nil]
  rw [show (32 : Nat) = 8 + (8 + (8 + 8)) from rfl, bitsOf_add v 8, bitsOf_add (v / 2 ^ 8) 8, bitsOf_add (v / 2 ^ 8 / 2 ^ 8) 8]
  rw [Nat.div_div_eq_div_mul, Nat.div_div_eq_div_mul]

theorem xor_ones_cancel (v : Reg) : v ^^^ (v ^^^ ones) = ones := by rw [← BitVec.xor_assoc, BitVec.xor_self]; simp

theorem restL_const : regL ones (zeros 32) ^^^ ones = 0x2144df1c#32 := by decide +kernel
theorem restH_const : regH ones (zeros 32) ^^^ ones = 0x38fb2284#32 := by decide +kernel

theorem low_rest (xs : List Nat) : lowSum (xs ++ le4 (lowSum xs)) = 0x2144df1c := by
  have hs : lowSum xs < 2 ^ 32 := (lowReg xs ^^^ ones).isLt
  have e : lowReg (xs ++ le4 (lowSum xs)) = regL ones (zeros 32) := by
    show regL ones (lowBits (xs ++ le4 (lowSum xs))) = _
    rw [lowBits_append, regL_append, lowBits_le4, regL_front _ _ (by rw [bitsOf_length]; omega), bitsOf_length, ofBits_bitsOf _ 32 (by omega) hs]
    show regL (lowReg xs ^^^ BitVec.ofNat 32 (lowReg xs ^^^ ones).toNat) (zeros 32) = _
    rw [BitVec.ofNat_toNat, BitVec.setWidth_eq, xor_ones_cancel]
  unfold lowSum at *
  rw [e, restL_const]
  rfl


def turn : Nat → Nat → Nat → Nat
  | out, _, 0 => out
  | out, v, n + 1 => turn (out * 2 + v % 2) (v / 2) n

theorem bitsOfH_cons (v n : Nat) : Msb.bitsOf v (n + 1) = (v / 2 ^ n % 2 == 1) :: Msb.bitsOf v n := by
  induction n generalizing v with
  | zero => simp [Msb.bitsOf]
  | succ n ih => rw [Msb.bitsOf, ih (v / 2), Msb.bitsOf, List.cons_append, Nat.div_div_eq_div_mul, ← Nat.pow_succ']

theorem bitsOfH_reverse (x n : Nat) : Msb.bitsOf x n = (bitsOf x n).reverse := by
  induction n generalizing x with
  | zero => rfl
  | succ n ih => rw [Msb.bitsOf, bitsOf, List.reverse_cons, ih]

theorem turn_num (n : Nat) : ∀ out v, turn out v n = out * 2 ^ n + Msb.num (bitsOf v n) := by
  induction n with
  | zero => intro out v; simp [turn, bitsOf, Msb.num]
  | succ n ih =>
    intro out v
    rw [turn, ih, bitsOf, Nat.pow_succ]
    have e : Msb.num ((v % 2 == 1) :: bitsOf (v / 2) n) = (v % 2) * 2 ^ n + Msb.num (bitsOf (v / 2) n) := by
      have := Msb.num_append [v % 2 == 1] (bitsOf (v / 2) n)
      rw [bitsOf_length] at this
      rw [List.singleton_append] at this
      rw [this]
      congr 2
      rcases Nat.mod_two_eq_zero_or_one v with h | h <;> simp [h, Msb.num]
    rw [e, Nat.add_mul]
    have e2 : out * 2 * 2 ^ n = out * (2 ^ n * 2) := by rw [Nat.mul_assoc, Nat.mul_comm 2]
    omega

theorem bitsOf_numH (l : List Bool) : bitsOf (Msb.num l) l.length = l.reverse := by
  have h := Msb.bitsOf_num l
  rw [bitsOfH_reverse] at h
  have h2 := congrArg List.reverse h
  rwa [List.reverse_reverse] at h2

theorem bits_turn (v n : Nat) : bitsOf (turn 0 v n) n = (bitsOf v n).reverse := by
  rw [turn_num, Nat.zero_mul, Nat.zero_add]
  have := bitsOf_numH (bitsOf v n)
  rwa [bitsOf_length] at this

theorem turn_lt (v n : Nat) : turn 0 v n < 2 ^ n := by
  rw [turn_num, Nat.zero_mul, Nat.zero_add]
  have := Msb.num_lt (bitsOf v n)
  rwa [bitsOf_length] at this

theorem highBits_turn (xs : List Nat) : highBits xs = lowBits (xs.map fun x => turn 0 x 8) := by
  induction xs with
  | nil => rfl
  | cons x xs ih =>
    simp only [highBits, lowBits, List.map_cons, List.flatMap_cons] at ih ⊢
    rw [ih, bits_turn, bitsOfH_reverse]

theorem reg_reverse_toNat (v : Reg) : v.reverse.toNat = turn 0 v.toNat 32 := by
  apply Nat.eq_of_testBit_eq
  intro i
  by_cases hi : i < 32
  · have h1 : v.reverse.toNat.testBit i = v.reverse.getLsbD i := rfl
    have h2 := bitsOf_at (turn 0 v.toNat 32) 32 i hi
    rw [bits_turn, List.getElem?_reverse (by rw [bitsOf_length]; exact hi), bitsOf_length, bitsOf_at _ _ _ (by omega)] at h2
    rw [h1, BitVec.getLsbD_reverse, BitVec.getMsbD_eq_getLsbD, ← Option.some.inj h2]
    simp only [hi, decide_true, Bool.true_and]
    rfl
  · have l1 : v.reverse.toNat < 2 ^ i := Nat.lt_of_lt_of_le v.reverse.isLt (Nat.pow_le_pow_right (by omega) (by omega))
    have l2 : turn 0 v.toNat 32 < 2 ^ i := Nat.lt_of_lt_of_le (turn_lt _ _) (Nat.pow_le_pow_right (by omega) (by omega))
    rw [Nat.testBit_lt_two_pow l1, Nat.testBit_lt_two_pow l2]

theorem high_turned (xs : List Nat) : highSum xs = turn 0 (lowSum (xs.map fun x => turn 0 x 8)) 32 := by
  show (regH ones (highBits xs) ^^^ ones).toNat = turn 0 (regL ones (lowBits _) ^^^ ones).toNat 32
  have e : (regL ones (lowBits (xs.map fun x => turn 0 x 8)) ^^^ ones).reverse = regH ones (highBits xs) ^^^ ones := by
    rw [reverse_xor, regH_eq, highBits_turn, show ones.reverse = ones from reverse_ones]
  rw [← e, reg_reverse_toNat]

theorem bitsOfH_add (x m n : Nat) : Msb.bitsOf x (m + n) = Msb.bitsOf (x / 2 ^ n) m ++ Msb.bitsOf x n := by
  rw [bitsOfH_reverse, bitsOfH_reverse, bitsOfH_reverse, Nat.add_comm, bitsOf_add, List.reverse_append]

theorem highBits_be4 (v : Nat) : highBits (be4 v) = Msb.bitsOf v 32 := by
  have h : ∀ x, Msb.bitsOf (x % 256) 8 = Msb.bitsOf x 8 := fun x => by
    rw [bitsOfH_reverse, bitsOfH_reverse]
    exact congrArg _ (bitsOf_mod x 8 8 (Nat.le_refl _))
  simp only [highBits, be4, List.flatMap_cons, List.flatMap_nil, h, List.append_nil]
  rw [show (32 : Nat) = 8 + (8 + (8 + 8)) from rfl, bitsOfH_add v 8 (8 + (8 + 8)), bitsOfH_add v 8 (8 + 8), bitsOfH_add v 8 8]

theorem ofBits_highs (v : Reg) : (ofBits (Msb.bitsOf v.toNat 32)).reverse = v := by
  have e : Msb.bitsOf v.toNat 32 = bitsOf v.reverse.toNat 32 := by rw [reg_reverse_toNat, bits_turn, bitsOfH_reverse]
  rw [e, ofBits_bitsOf _ 32 (by omega) v.reverse.isLt, BitVec.ofNat_toNat, BitVec.setWidth_eq, reverse_reverse]

theorem high_rest (xs : List Nat) : highSum (xs ++ be4 (highSum xs)) = 0x38fb2284 := by
  have e : highReg (xs ++ be4 (highSum xs)) = regH ones (zeros 32) := by
    show regH ones (highBits (xs ++ be4 (highSum xs))) = _
    rw [highBits_append, regH_append, highBits_be4]
    show regH (highReg xs) _ = _
    rw [regH_eq, regL_front _ _ (by rw [Msb.bitsOf_length]; omega), Msb.bitsOf_length, regH_eq ones]
    show (regL ((highReg xs).reverse ^^^ ofBits (Msb.bitsOf (highReg xs ^^^ ones).toNat 32)) (zeros 32)).reverse = _
    have e2 : ofBits (Msb.bitsOf (highReg xs ^^^ ones).toNat 32) = (highReg xs ^^^ ones).reverse := by
      have := congrArg BitVec.reverse (ofBits_highs (highReg xs ^^^ ones))
      rwa [reverse_reverse] at this
    rw [e2, ← reverse_xor, xor_ones_cancel]
  unfold highSum at *
  rw [e, restH_const]
  rfl

theorem three_reg (a b c : Reg) : (a ^^^ ones) ^^^ (b ^^^ ones) ^^^ (c ^^^ ones) = (a ^^^ b ^^^ c) ^^^ ones := by
  apply BitVec.eq_of_getLsbD_eq
  intro i hi
  simp only [BitVec.getLsbD_xor]
  cases a.getLsbD i <;> cases b.getLsbD i <;> cases c.getLsbD i <;> cases (ones.getLsbD i) <;> rfl

theorem ones_three : ones ^^^ ones ^^^ ones = ones := by decide +kernel

theorem bits_xor (x y n : Nat) : bitsOf (x ^^^ y) n = addB (bitsOf x n) (bitsOf y n) := by
  apply List.ext_getElem?
  intro i
  unfold addB
  rw [List.getElem?_zipWith]
  by_cases h : i < n
  · rw [bitsOf_at _ _ _ h, bitsOf_at _ _ _ h, bitsOf_at _ _ _ h, Nat.testBit_xor]
  · rw [List.getElem?_eq_none (by rw [bitsOf_length]; omega), List.getElem?_eq_none (by rw [bitsOf_length]; omega)]

theorem bitsH_xor (x y n : Nat) : Msb.bitsOf (x ^^^ y) n = addB (Msb.bitsOf x n) (Msb.bitsOf y n) := by
  apply List.ext_getElem?
  intro i
  unfold addB
  rw [List.getElem?_zipWith]
  by_cases h : i < n
  · rw [bitsOfH_at _ _ _ h, bitsOfH_at _ _ _ h, bitsOfH_at _ _ _ h, Nat.testBit_xor]
  · rw [List.getElem?_eq_none (by rw [Msb.bitsOf_length]; omega), List.getElem?_eq_none (by rw [Msb.bitsOf_length]; omega)]

def addBytes (xs ys : List Nat) : List Nat := List.zipWith (fun a b => a ^^^ b) xs ys

theorem addB_append (a b c d : List Bool) (h : a.length = c.length) : addB (a ++ b) (c ++ d) = addB a c ++ addB b d := List.zipWith_append h

theorem lowBits_add (xs ys : List Nat) (h : xs.length = ys.length) : lowBits (addBytes xs ys) = addB (lowBits xs) (lowBits ys) := by
  induction xs generalizing ys with
  | nil =>
    cases ys with
    | nil => rfl
    | cons y ys => simp at h
  | cons x xs ih =>
    cases ys with
    | nil => simp at h
    | cons y ys =>
      simp only [lowBits, addBytes, List.zipWith_cons_cons, List.flatMap_cons] at ih ⊢
      rw [ih ys (by simpa using h), bits_xor, addB_append _ _ _ _ (by rw [bitsOf_length, bitsOf_length])]

theorem highBits_add (xs ys : List Nat) (h : xs.length = ys.length) : highBits (addBytes xs ys) = addB (highBits xs) (highBits ys) := by
  induction xs generalizing ys with
  | nil =>
    cases ys with
    | nil => rfl
    | cons y ys => simp at h
  | cons x xs ih =>
    cases ys with
    | nil => simp at h
    | cons y ys =>
      simp only [highBits, addBytes, List.zipWith_cons_cons, List.flatMap_cons] at ih ⊢
      rw [ih ys (by simpa using h), bitsH_xor, addB_append _ _ _ _ (by rw [Msb.bitsOf_length, Msb.bitsOf_length])]

theorem addBytes_length (xs ys : List Nat) (h : xs.length = ys.length) : (addBytes xs ys).length = xs.length := by simp [addBytes, h]

theorem low_three (xs ys zs : List Nat) (h1 : xs.length = ys.length) (h2 : xs.length = zs.length) : lowSum (addBytes (addBytes xs ys) zs) = lowSum xs ^^^ lowSum ys ^^^ lowSum zs := by
  show (lowReg _ ^^^ ones).toNat = (lowReg xs ^^^ ones).toNat ^^^ (lowReg ys ^^^ ones).toNat ^^^ (lowReg zs ^^^ ones).toNat
  rw [← BitVec.toNat_xor, ← BitVec.toNat_xor, three_reg]
  congr 2
  show regL ones _ = regL ones _ ^^^ regL ones _ ^^^ regL ones _
  rw [lowBits_add _ _ (by rw [addBytes_length _ _ h1]; exact h2), lowBits_add _ _ h1, ← regL_xor _ _ _ _ (by rw [lowBits_length, lowBits_length, h1]), ← regL_xor _ _ _ _ (by simp only [addB, List.length_zipWith, lowBits_length]; omega), ones_three]

theorem high_three (xs ys zs : List Nat) (h1 : xs.length = ys.length) (h2 : xs.length = zs.length) : highSum (addBytes (addBytes xs ys) zs) = highSum xs ^^^ highSum ys ^^^ highSum zs := by
  show (highReg _ ^^^ ones).toNat = (highReg xs ^^^ ones).toNat ^^^ (highReg ys ^^^ ones).toNat ^^^ (highReg zs ^^^ ones).toNat
  rw [← BitVec.toNat_xor, ← BitVec.toNat_xor, three_reg]
  congr 2
  show regH ones _ = regH ones _ ^^^ regH ones _ ^^^ regH ones _
  rw [highBits_add _ _ (by rw [addBytes_length _ _ h1]; exact h2), highBits_add _ _ h1, ← regH_xor _ _ _ _ (by rw [highBits_length, highBits_length, h1]), ← regH_xor _ _ _ _ (by simp only [addB, List.length_zipWith, highBits_length]; omega), ones_three]

end Go.Proofs.YtpinfihmageeoaaGreat.Crc
