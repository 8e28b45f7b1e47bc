/-
  Plain facts about the symbols of lengths and of distances, and about what tokens say. No program. No conditions.
-/
import Derived.Lib.Hide
namespace Go.Proofs.Ytmooiheomecieaa.Tok

/-- How many bits the symbol i has. -/
def riseB (each i : Nat) : Nat := i / each - 1
/-- Its least number. -/
def rise (first each : Nat) : Nat → Nat
  | 0 => first
  | i + 1 => rise first each i + 2 ^ riseB each i

def spansOf (first each n : Nat) : List (Nat × Nat) := (List.range n).map fun i => (rise first each i, riseB each i)

theorem spansOf_length (first each n : Nat) : (spansOf first each n).length = n := by simp [spansOf]
theorem spansOf_get (first each n i : Nat) (h : i < (spansOf first each n).length) : (spansOf first each n)[i] = (rise first each i, riseB each i) := by simp [spansOf]
theorem spansOf_take (first each n k : Nat) (hk : k < n) : (spansOf first each n).take (k + 1) = (spansOf first each n).take k ++ [(rise first each k, riseB each k)] := by
  rw [List.take_succ_eq_append_getElem (by rw [spansOf_length]; exact hk), spansOf_get]

/-- The symbols of lengths, of distances: the least number, and the bits. -/
def lenS : List (Nat × Nat) := spansOf 3 4 28 ++ [(258, 0)]
def disS : List (Nat × Nat) := spansOf 1 2 30

theorem lenS_eq : lenS = [(3, 0), (4, 0), (5, 0), (6, 0), (7, 0), (8, 0), (9, 0), (10, 0), (11, 1), (13, 1), (15, 1), (17, 1), (19, 2), (23, 2), (27, 2), (31, 2), (35, 3), (43, 3), (51, 3), (59, 3), (67, 4), (83, 4), (99, 4), (115, 4), (131, 5), (163, 5), (195, 5), (227, 5), (258, 0)] := by decide
theorem disS_eq : disS = [(1, 0), (2, 0), (3, 0), (4, 0), (5, 1), (7, 1), (9, 2), (13, 2), (17, 3), (25, 3), (33, 4), (49, 4), (65, 5), (97, 5), (129, 6), (193, 6), (257, 7), (385, 7), (513, 8), (769, 8), (1025, 9), (1537, 9), (2049, 10), (3073, 10), (4097, 11), (6145, 11), (8193, 12), (12289, 12), (16385, 13), (24577, 13)] := by decide

theorem lenS_length : lenS.length = 29 := rfl
theorem disS_length : disS.length = 30 := rfl

/-- How many of these begin at or below n. -/
def upTo : List (Nat × Nat) → Nat → Nat
  | [], _ => 0
  | p :: r, n => if p.1 ≤ n then upTo r n + 1 else 0

/-- They rise. -/
def Rises (S : List (Nat × Nat)) : Prop := ∀ i (h : i + 1 < S.length), S[i].1 < S[i + 1].1

/-- Each and the next one. -/
def pairs (f : Nat × Nat → Nat × Nat → Bool) : List (Nat × Nat) → Bool
  | [] => true
  | [_] => true
  | a :: b :: r => f a b && pairs f (b :: r)

theorem pairs_get (f : Nat × Nat → Nat × Nat → Bool) : ∀ (S : List (Nat × Nat)), pairs f S = true → ∀ i (h : i + 1 < S.length), f S[i] S[i + 1] = true
  | [], _, i, hi => absurd hi (by simp)
  | [_], _, i, hi => absurd hi (by simp)
  | a :: b :: r, h, 0, _ => by simp only [pairs, Bool.and_eq_true] at h; exact h.1
  | a :: b :: r, h, i + 1, hi => by
    simp only [pairs, Bool.and_eq_true] at h
    exact pairs_get f (b :: r) h.2 i (by simpa using hi)

theorem rises_tail {p : Nat × Nat} {r : List (Nat × Nat)} (h : Rises (p :: r)) : Rises r := fun i hi => h (i + 1) (by simpa using hi)

theorem rises_le {S : List (Nat × Nat)} (h : Rises S) : ∀ (j i : Nat) (hj : j < S.length) (hi : i ≤ j), S[i].1 ≤ S[j].1
  | 0, i, hj, hi => by obtain rfl : i = 0 := by omega
                       exact Nat.le_refl _
  | j + 1, i, hj, hi => by
    by_cases e : i = j + 1
    · subst e; exact Nat.le_refl _
    · have h1 := rises_le h j i (by omega) (by omega)
      have h2 := h j hj
      omega

theorem upTo_le (S : List (Nat × Nat)) (n : Nat) : upTo S n ≤ S.length := by
  induction S with
  | nil => exact Nat.le_refl _
  | cons p r ih => unfold upTo; split <;> simp <;> omega

theorem upTo_iff : ∀ (S : List (Nat × Nat)) (n : Nat) (_ : Rises S) (k : Nat) (hk : k < S.length), S[k].1 ≤ n ↔ k < upTo S n
  | [], _, _, k, hk => absurd hk (by simp)
  | p :: r, n, h, k, hk => by
    unfold upTo
    split
    · rename_i hp
      cases k with
      | zero => simp; exact hp
      | succ k =>
        have := upTo_iff r n (rises_tail h) k (by simpa using hk)
        simp only [List.getElem_cons_succ]
        omega
    · rename_i hp
      have h1 := rises_le h k 0 hk (Nat.zero_le _)
      simp only [List.getElem_cons_zero] at h1
      omega

theorem upTo_mono : ∀ (S : List (Nat × Nat)) (n m : Nat), n ≤ m → upTo S n ≤ upTo S m
  | [], _, _, _ => Nat.le_refl _
  | p :: r, n, m, h => by
    have := upTo_mono r n m h
    unfold upTo
    split
    · rw [if_pos (by omega)]; omega
    · omega

theorem upTo_pos (S : List (Nat × Nat)) (n : Nat) (h0 : 0 < S.length) (h : S[0].1 ≤ n) : 0 < upTo S n := by
  cases S with
  | nil => simp at h0
  | cons p r =>
    unfold upTo
    rw [if_pos (show p.1 ≤ n from h)]
    omega

/-- Each begins at or ahead of where the one ahead ends. -/
def Close (S : List (Nat × Nat)) : Prop := ∀ i (h : i + 1 < S.length), S[i + 1].1 ≤ S[i].1 + 2 ^ S[i].2

theorem rises_lenS : Rises lenS := fun i h => by
  have := pairs_get (fun a b => decide (a.1 < b.1)) lenS (by rw [lenS_eq]; decide) i h
  exact of_decide_eq_true this
theorem rises_disS : Rises disS := fun i h => by
  have := pairs_get (fun a b => decide (a.1 < b.1)) disS (by rw [disS_eq]; decide) i h
  exact of_decide_eq_true this
theorem close_lenS : Close lenS := fun i h => by
  have := pairs_get (fun a b => decide (b.1 ≤ a.1 + 2 ^ a.2)) lenS (by rw [lenS_eq]; decide) i h
  exact of_decide_eq_true this
theorem close_disS : Close disS := fun i h => by
  have := pairs_get (fun a b => decide (b.1 ≤ a.1 + 2 ^ a.2)) disS (by rw [disS_eq]; decide) i h
  exact of_decide_eq_true this

/-- The place of what says n. -/
def at_ (S : List (Nat × Nat)) (n : Nat) : Nat := upTo S n - 1

theorem at_lt (S : List (Nat × Nat)) (n : Nat) (h0 : 0 < S.length) : at_ S n < S.length := by
  have := upTo_le S n
  unfold at_
  omega

/-- What lies above the least number has no more bits than it may. -/
theorem at_says (S : List (Nat × Nat)) (n hi : Nat) (hr : Rises S) (hc : Close S) (h0 : 0 < S.length) (hlo : S[0].1 ≤ n) (hhi : n ≤ hi) (hlast : ∀ h : S.length - 1 < S.length, hi < S[S.length - 1].1 + 2 ^ S[S.length - 1].2) :
    (S[at_ S n]'(at_lt S n h0)).1 ≤ n ∧ n < (S[at_ S n]'(at_lt S n h0)).1 + 2 ^ (S[at_ S n]'(at_lt S n h0)).2 := by

  have hp := upTo_pos S n h0 hlo
  have hl := at_lt S n h0
  have e : at_ S n + 1 = upTo S n := by unfold at_; omega
  have h1 := (upTo_iff S n hr (at_ S n) hl).2 (by omega)
  refine ⟨h1, ?_⟩
  by_cases h2 : at_ S n + 1 < S.length
  · have h3 := mt (upTo_iff S n hr (at_ S n + 1) h2).1 (by omega)
    have h4 := hc (at_ S n) h2
    omega
  · have h3 : at_ S n = S.length - 1 := by omega
    have h4 := hlast (by omega)
    have h5 : S[at_ S n] = S[S.length - 1] := by simp only [h3]
    rw [h5]
    omega

/-- What Length and Distance answer: the symbol, its bits, what is above the least, the error. -/
def ans (S : List (Nat × Nat)) (lo hi base : Nat) (n : Int) : Nat × Nat × Nat × Nat :=
  if n < (lo : Int) ∨ (hi : Int) < n then (0, 0, 0, 5) else (base + at_ S n.toNat, (S.getD (at_ S n.toNat) (0, 0)).2, n.toNat - (S.getD (at_ S n.toNat) (0, 0)).1, 0)
/-- What LengthOf and DistanceOf answer. -/
def ansOf (S : List (Nat × Nat)) (base : Nat) (s : Int) : Nat × Nat × Nat :=
  if s < (base : Int) ∨ ((base + S.length : Nat) : Int) ≤ s then (0, 0, 5) else ((S.getD (s.toNat - base) (0, 0)).1, (S.getD (s.toNat - base) (0, 0)).2, 0)

abbrev lenAns (n : Int) := ans lenS 3 258 257 n
abbrev disAns (n : Int) := ans disS 1 32768 0 n
abbrev lenOfAns (s : Int) := ansOf lenS 257 s
abbrev disOfAns (s : Int) := ansOf disS 0 s

theorem ans_in (S : List (Nat × Nat)) (lo hi base n : Nat) (h1 : lo ≤ n) (h2 : n ≤ hi) (h0 : 0 < S.length) :
    ans S lo hi base (n : Int) = (base + at_ S n, (S[at_ S n]'(at_lt S n h0)).2, n - (S[at_ S n]'(at_lt S n h0)).1, 0) := by
  unfold ans
  rw [if_neg (by omega), Int.toNat_natCast, List.getD_eq_getElem?_getD, List.getElem?_eq_getElem (at_lt S n h0)]
  rfl

theorem ans_out (S : List (Nat × Nat)) (lo hi base : Nat) (n : Int) (h : n < (lo : Int) ∨ (hi : Int) < n) : ans S lo hi base n = (0, 0, 0, 5) := by
  unfold ans
  rw [if_pos h]

theorem ansOf_in (S : List (Nat × Nat)) (base k : Nat) (hk : k < S.length) : ansOf S base ((base + k : Nat) : Int) = (S[k].1, S[k].2, 0) := by
  unfold ansOf
  rw [if_neg (by omega), Int.toNat_natCast, show base + k - base = k from by omega, List.getD_eq_getElem?_getD, List.getElem?_eq_getElem hk]
  rfl

theorem ansOf_out (S : List (Nat × Nat)) (base : Nat) (s : Int) (h : s < (base : Int) ∨ ((base + S.length : Nat) : Int) ≤ s) : ansOf S base s = (0, 0, 5) := by
  unfold ansOf
  rw [if_pos h]

theorem small_spans : (∀ p ∈ lenS, p.1 < 65536 ∧ p.2 < 16) ∧ ∀ p ∈ disS, p.1 < 65536 ∧ p.2 < 16 := by
  rw [lenS_eq, disS_eq]
  decide

/-! Tokens: Len, Dist, Byte. -/

abbrev Tk := Int × Int × Nat

def isB (t : Tk) : Bool := decide (t.1 = 0) && decide (t.2.1 = 0)
def isR (t : Tk) : Bool := decide (t.2.2 = 0) && decide (3 ≤ t.1) && decide (t.1 ≤ 258) && decide (1 ≤ t.2.1) && decide (t.2.1 ≤ 32768)
def may (t : Tk) : Bool := isB t || isR t

/-- A repetition, byte by byte. -/
def rep (d : Nat) : Nat → List Nat → List Nat
  | 0, out => out
  | n + 1, out => rep d n (out ++ [out.getD (out.length - d) 0])

theorem rep_length (d : Nat) : ∀ (n : Nat) (out : List Nat), (rep d n out).length = out.length + n
  | 0, out => rfl
  | n + 1, out => by rw [rep, rep_length d n]; simp; omega

theorem rep_add (d : Nat) : ∀ (n m : Nat) (out : List Nat), rep d m (rep d n out) = rep d (n + m) out
  | 0, m, out => by rw [rep, Nat.zero_add]
  | n + 1, m, out => by
    rw [rep, rep_add d n m, show n + 1 + m = (n + m) + 1 from by omega, rep]

theorem rep_more (d n : Nat) (out : List Nat) : rep d (n + 1) out = rep d n out ++ [(rep d n out).getD ((rep d n out).length - d) 0] := by
  rw [← rep_add d n 1]
  rfl

theorem rep_byte (d : Nat) : ∀ (n : Nat) (out : List Nat), (∀ x ∈ out, x < 256) → ∀ x ∈ rep d n out, x < 256
  | 0, _, h => h
  | n + 1, out, h => by
    rw [rep]
    refine rep_byte d n _ fun x hx => ?_
    rcases List.mem_append.1 hx with hx | hx
    · exact h x hx
    · obtain e0 : x = out.getD (out.length - d) 0 := List.mem_singleton.1 hx
      rw [e0, List.getD_eq_getElem?_getD]
      cases e : out[out.length - d]? with
      | none => simp
      | some y => exact h y (List.mem_of_getElem? e)

/-- What these tokens say behind those bytes. -/
def say : List Nat → List Tk → Option (List Nat)
  | out, [] => some out
  | out, t :: r => if isB t then say (out ++ [t.2.2]) r else if (out.length : Int) < t.2.1 then none else say (rep t.2.1.toNat t.1.toNat out) r

theorem say_append : ∀ (l m : List Tk) (out : List Nat), say out (l ++ m) = (say out l).bind fun o => say o m
  | [], _, _ => rfl
  | t :: r, m, out => by
    rw [List.cons_append, say, say]
    split
    · exact say_append r m _
    · split
      · rfl
      · exact say_append r m _

theorem say_drop (l : List Tk) (k : Nat) (out : List Nat) (h : say [] (l.take k) = some out) : say [] l = say out (l.drop k) := by
  conv => lhs; rw [← List.take_append_drop k l]
  rw [say_append, h]
  rfl

def exErr (l : List Tk) : Nat := if l.all may = false then 5 else if say [] l = none then 2 else 0
def exAns (l : List Tk) : List Nat := if l.all may = false then [] else (say [] l).getD []

theorem ex_bad {l : List Tk} (h : l.all may = false) : exErr l = 5 ∧ exAns l = [] := by
  unfold exErr exAns
  rw [if_pos h, if_pos h]
  exact ⟨rfl, rfl⟩

theorem ex_none {l : List Tk} (hf : l.all may = true) (h : say [] l = none) : exErr l = 2 ∧ exAns l = [] := by
  have hf' : ¬ l.all may = false := by rw [hf]; simp
  unfold exErr exAns
  rw [if_neg hf', if_neg hf', if_pos h, h]
  exact ⟨rfl, rfl⟩

theorem ex_some {l : List Tk} (hf : l.all may = true) {out : List Nat} (h : say [] l = some out) : exErr l = 0 ∧ exAns l = out := by
  have hf' : ¬ l.all may = false := by rw [hf]; simp
  unfold exErr exAns
  rw [if_neg hf', if_neg hf', h]
  exact ⟨rfl, rfl⟩

theorem say_none {l : List Tk} (k : Nat) (hk : k < l.length) (out : List Nat) (h : say [] (l.take k) = some out) (hb : isB l[k] = false) (hd : (out.length : Int) < l[k].2.1) : say [] l = none := by
  rw [say_drop l k out h, List.drop_eq_getElem_cons hk, say, if_neg (by simp [hb]), if_pos hd]

theorem say_byte {l : List Tk} (k : Nat) (hk : k < l.length) (out : List Nat) (h : say [] (l.take k) = some out) (hb : isB l[k] = true) : say [] (l.take (k + 1)) = some (out ++ [l[k].2.2]) := by
  rw [List.take_succ_eq_append_getElem hk, say_append, h]
  show say out [l[k]] = _
  rw [say, if_pos hb, say]

theorem say_rep {l : List Tk} (k : Nat) (hk : k < l.length) (out : List Nat) (h : say [] (l.take k) = some out) (hb : isB l[k] = false) (hd : ¬ (out.length : Int) < l[k].2.1) : say [] (l.take (k + 1)) = some (rep l[k].2.1.toNat l[k].1.toNat out) := by
  rw [List.take_succ_eq_append_getElem hk, say_append, h]
  show say out [l[k]] = _
  rw [say, if_neg (by simp [hb]), if_neg hd, say]

theorem may_rep {t : Tk} (h : may t = true) (hb : isB t = false) : t.2.2 = 0 ∧ 3 ≤ t.1 ∧ t.1 ≤ 258 ∧ 1 ≤ t.2.1 ∧ t.2.1 ≤ 32768 := by
  unfold may at h
  rw [hb] at h
  unfold isR at h
  simp only [Bool.false_or, Bool.and_eq_true, decide_eq_true_eq] at h
  omega

theorem isB_iff {t : Tk} : isB t = true ↔ t.1 = 0 ∧ t.2.1 = 0 := by
  unfold isB
  simp

end Go.Proofs.Ytmooiheomecieaa.Tok
