/-
  HdP HdQ HdM, one behind the other (merged by wip/merge.py). No conditions but those that each states.
-/
import Derived.Test.YtpinfihmageeoaaGreatGF
import Derived.Test.YtpinfihmageeoaaGreatGE
import Derived.Test.YtpinfihmageeoaaGreatGD
import Derived.Test.YtpinfihmageeoaaGreatGM
import Derived.Test.YtpinfihmageeoaaGreatBools
import Derived.Test.YtpinfihmageeoaaGreatInts
import Derived.Deep.QuietTactic
import Derived.BigQuiet
import Derived.IntWalk

namespace Go.Proofs.YtpinfihmageeoaaGreat.Hd
open Kraft

def nm (R : List Bool) (p n : Nat) : Nat := num ((R.drop p).take n)

theorem nm_lt (R : List Bool) (p n : Nat) : nm R p n < 2 ^ n := by
  unfold nm
  have h := num_lt ((R.drop p).take n)
  exact Nat.lt_of_lt_of_le h (Nat.pow_le_pow_right (by omega) (by simp; omega))

theorem nm_zero (R : List Bool) (p : Nat) : nm R p 0 = 0 := by simp [nm, num]

theorem nm_more (R S : List Bool) (p n : Nat) (h : p + n ≤ R.length) : nm (R ++ S) p n = nm R p n := by
  unfold nm
  rw [List.drop_append_of_le_length (by omega), List.take_append_of_le_length (by rw [List.length_drop]; omega)]

theorem nm_put (A C : List Bool) (x n : Nat) (hx : x < 2 ^ n) (R : List Bool) (p : Nat) (hR : R = A ++ bitsOf x n ++ C) (hp : p = A.length) : nm R p n = x := by
  subst hR hp
  unfold nm
  rw [List.append_assoc, List.drop_left, List.take_append_of_le_length (by rw [bitsOf_length]; exact Nat.le_refl _), List.take_of_length_le (by rw [bitsOf_length]; exact Nat.le_refl _), num_bitsOf_lt hx]

def order : List Nat := [16, 17, 18, 0, 8, 7, 9, 6, 10, 5, 11, 4, 12, 3, 13, 2, 14, 1, 15]

def ord (i : Nat) : Nat := order.getD i 0

theorem ord_lt (i : Nat) : ord i < 19 := by
  unfold ord
  by_cases h : i < 19
  · have : ∀ j, j < 19 → order.getD j 0 < 19 := by decide
    exact this i h
  · rw [getD_out _ _ (by show 19 ≤ i; omega)]; omega

theorem ord_inj {i j : Nat} (hi : i < 19) (hj : j < 19) (h : ord i = ord j) : i = j := by
  have : ∀ i, i < 19 → ∀ j, j < 19 → order.getD i 0 = order.getD j 0 → i = j := by decide
  exact this i hi j hj h

theorem ord_onto {c : Nat} (hc : c < 19) : ∃ i, i < 19 ∧ ord i = c := by
  have : ∀ c, c < 19 → ∃ i, i < 19 ∧ order.getD i 0 = c := by decide
  exact this c hc

def lensTo (R : List Bool) (p : Nat) : Nat → List Nat
  | 0 => List.replicate 19 0
  | i + 1 => (lensTo R p i).set (ord i) (nm R (p + 3 * i) 3)

theorem lensTo_length (R : List Bool) (p : Nat) : ∀ i, (lensTo R p i).length = 19
  | 0 => by simp [lensTo]
  | i + 1 => by rw [lensTo, List.length_set, lensTo_length R p i]

theorem lensTo_small (R : List Bool) (p : Nat) : ∀ i, ∀ x ∈ lensTo R p i, x < 8
  | 0, x, hx => by
    rw [lensTo] at hx
    rw [List.eq_of_mem_replicate hx]; omega
  | i + 1, x, hx => by
    rw [lensTo] at hx
    rcases List.mem_or_eq_of_mem_set hx with h | h
    · exact lensTo_small R p i x h
    · rw [h]; exact nm_lt R _ 3

theorem lensTo_more (R S : List Bool) (p : Nat) : ∀ i, p + 3 * i ≤ R.length → lensTo (R ++ S) p i = lensTo R p i
  | 0, _ => rfl
  | i + 1, h => by rw [lensTo, lensTo, lensTo_more R S p i (by omega), nm_more R S _ 3 (by omega)]

def oneSign (L : List Nat) (R : List Bool) (p : Nat) : Option ((Nat × Nat) × Nat) :=
  if (seek (tab L L.length) 0 0 (R.drop p)).2.2 ≠ 0 then none else
  if R.length < p + (seek (tab L L.length) 0 0 (R.drop p)).1 + Rep.bitsOf' (seek (tab L L.length) 0 0 (R.drop p)).2.1.toNat then none else
  some (((seek (tab L L.length) 0 0 (R.drop p)).2.1.toNat, nm R (p + (seek (tab L L.length) 0 0 (R.drop p)).1) (Rep.bitsOf' (seek (tab L L.length) 0 0 (R.drop p)).2.1.toNat)),
    p + (seek (tab L L.length) 0 0 (R.drop p)).1 + Rep.bitsOf' (seek (tab L L.length) 0 0 (R.drop p)).2.1.toNat)

def signsFrom (L : List Nat) (R : List Bool) (d p : Nat) : Option (List (Nat × Nat) × Nat) :=
  if d = 0 then some ([], p) else
  match oneSign L R p with
  | none => none
  | some s => (signsFrom L R (d - Rep.times s.1) s.2).map fun x => (s.1 :: x.1, x.2)
termination_by d
decreasing_by
  have := Rep.times_pos s.1
  omega

theorem signs_end (L : List Nat) (R : List Bool) (p : Nat) : signsFrom L R 0 p = some ([], p) := by rw [signsFrom, if_pos rfl]
theorem signs_none {L : List Nat} {R : List Bool} {d p : Nat} (hd : 0 < d) (h : oneSign L R p = none) : signsFrom L R d p = none := by
  rw [signsFrom, if_neg (by omega), h]
theorem signs_on {L : List Nat} {R : List Bool} {d p q : Nat} {s : Nat × Nat} (hd : 0 < d) (h : oneSign L R p = some (s, q)) :
    signsFrom L R d p = (signsFrom L R (d - Rep.times s) q).map fun x => (s :: x.1, x.2) := by
  rw [signsFrom, if_neg (by omega), h]

def full (L : List Nat) : Bool := decide (weight L = 1048576)
def low15 (L : List Nat) : Bool := L.all fun x => decide (x ≤ 15)
def mayH (p q : List Nat) : Bool :=
  (decide (257 ≤ p.length ∧ p.length ≤ 286 ∧ 1 ≤ q.length ∧ q.length ≤ 30 ∧ len p 256 ≠ 0) && (low15 p && low15 q)) && ((full p || single p) && (full q || decide (weight q = 0) || single q))

def headOf (a b : Nat) (x : List (Nat × Nat) × Nat) : Option (List Nat × List Nat × Nat) :=
  match Rep.say [] x.1 with
  | none => none
  | some out => if out.length = a + b ∧ mayH (out.take a) (out.drop a) = true then some (out.take a, out.drop a, x.2) else none

def na (R : List Bool) (p : Nat) : Nat := nm R p 5 + 257
def nb (R : List Bool) (p : Nat) : Nat := nm R (p + 5) 5 + 1
def nz (R : List Bool) (p : Nat) : Nat := nm R (p + 10) 4 + 4

def headAt (R : List Bool) (p : Nat) : Option (List Nat × List Nat × Nat) :=
  if R.length < p + 14 then none else
  if R.length < p + 14 + 3 * nz R p then none else
  if weight (lensTo R (p + 14) (nz R p)) ≠ 1048576 then none else
  (signsFrom (lensTo R (p + 14) (nz R p)) R (na R p + nb R p) (p + 14 + 3 * nz R p)).bind (headOf (na R p) (nb R p))


theorem seek_more : ∀ (f : Leads) (l m : List Bool) (a n : Nat), (seek f a n l).2.2 = 0 → seek f a n (l ++ m) = seek f a n l
  | f, [], m, a, n, h => by
    cases e : f a n with
    | none => rw [seek_none e] at h; cases h
    | some s =>
      by_cases hs : s = -1
      · subst hs; rw [seek_end e] at h; cases h
      · rw [seek_sym e hs, seek_sym e hs]
  | f, b :: r, m, a, n, h => by
    cases e : f a n with
    | none => rw [seek_none e] at h; cases h
    | some s =>
      by_cases hs : s = -1
      · subst hs
        rw [seek_on e] at h ⊢
        rw [List.cons_append, seek_on e, seek_more f r m _ _ h]
      · rw [seek_sym e hs, seek_sym e hs]

theorem seek_err : ∀ (f : Leads) (l : List Bool) (a n : Nat), (seek f a n l).2.2 = 0 ∨ seek f a n l = ((seek f a n l).1, 0, 2)
  | f, [], a, n => by
    cases e : f a n with
    | none => right; rw [seek_none e]
    | some s =>
      by_cases hs : s = -1
      · subst hs; right; rw [seek_end e]
      · left; rw [seek_sym e hs]
  | f, b :: r, a, n => by
    cases e : f a n with
    | none => right; rw [seek_none e]
    | some s =>
      by_cases hs : s = -1
      · subst hs
        rw [seek_on e]
        rcases seek_err f r (2 * a + b.toNat) (n + 1) with h | h
        · left; exact h
        · right; rw [h]
      · left; rw [seek_sym e hs]

theorem seek_in {L : List Nat} (f : Leads) (hf : ∀ a n v, f a n = some v → v = -1 ∨ ∃ k, k < L.length ∧ 0 < len L k ∧ v = (k : Int)) :
    ∀ (l : List Bool) (a n : Nat), (seek f a n l).2.2 = 0 → ∃ k, k < L.length ∧ 0 < len L k ∧ (seek f a n l).2.1 = (k : Int)
  | [], a, n, h => by
    cases e : f a n with
    | none => rw [seek_none e] at h; cases h
    | some s =>
      by_cases hs : s = -1
      · subst hs; rw [seek_end e] at h; cases h
      · rw [seek_sym e hs]
        rcases hf _ _ _ e with g | ⟨k, h1, h2, h3⟩
        · exact absurd g hs
        · exact ⟨k, h1, h2, h3⟩
  | b :: r, a, n, h => by
    cases e : f a n with
    | none => rw [seek_none e] at h; cases h
    | some s =>
      by_cases hs : s = -1
      · subst hs
        rw [seek_on e] at h ⊢
        exact seek_in f hf r _ _ h
      · rw [seek_sym e hs]
        rcases hf _ _ _ e with g | ⟨k, h1, h2, h3⟩
        · exact absurd g hs
        · exact ⟨k, h1, h2, h3⟩

theorem tab_in (L : List Nat) : ∀ a n v, tab L L.length a n = some v → v = -1 ∨ ∃ k, k < L.length ∧ 0 < len L k ∧ v = (k : Int) := by
  intro a n v h
  rcases tab_some _ _ _ _ h with ⟨k, h1, h2, h3, _, _⟩ | ⟨h1, _⟩
  · exact .inr ⟨k, h1, h2, h3⟩
  · exact .inl h1

theorem one_le {L : List Nat} {R : List Bool} {p q : Nat} {s : Nat × Nat} (h : oneSign L R p = some (s, q)) : q ≤ R.length ∧ p ≤ q := by
  unfold oneSign at h
  split at h
  · cases h
  · split at h
    · cases h
    · have h2 := (Prod.mk.inj (Option.some.inj h)).2
      omega

theorem one_in {L : List Nat} {R : List Bool} {p q : Nat} {s : Nat × Nat} (h : oneSign L R p = some (s, q)) : s.1 < L.length ∧ 0 < len L s.1 ∧ s.2 < 2 ^ Rep.bitsOf' s.1 := by
  unfold oneSign at h
  split at h
  · cases h
  · rename_i h0
    split at h
    · cases h
    · have h2 := (Prod.mk.inj (Option.some.inj h)).1
      obtain ⟨k, h3, h4, h5⟩ := seek_in _ (tab_in L) (R.drop p) 0 0 (by omega)
      rw [← h2, h5, Int.toNat_natCast]
      exact ⟨h3, h4, nm_lt _ _ _⟩

theorem one_more {L : List Nat} {R S : List Bool} {p q : Nat} {s : Nat × Nat} (hp : p ≤ R.length) (h : oneSign L R p = some (s, q)) : oneSign L (R ++ S) p = some (s, q) := by
  unfold oneSign at h ⊢
  rw [List.drop_append_of_le_length hp]
  split at h
  · cases h
  · rename_i h0
    have h0 : (seek (tab L L.length) 0 0 (R.drop p)).2.2 = 0 := by omega
    rw [seek_more _ _ _ _ _ h0, if_neg (by omega)]
    split at h
    · cases h
    · rename_i h1
      rw [if_neg (by rw [List.length_append]; omega), ← h, nm_more _ _ _ _ (by omega)]

theorem signs_le (L : List Nat) (R : List Bool) : ∀ (m d p : Nat), d ≤ m → p ≤ R.length → ∀ x, signsFrom L R d p = some x → x.2 ≤ R.length ∧ p ≤ x.2
  | m, d, p, hd, hp, x, h => by
    by_cases h0 : d = 0
    · subst h0
      rw [signs_end] at h
      rw [← Option.some.inj h]
      exact ⟨hp, Nat.le_refl _⟩
    · cases e : oneSign L R p with
      | none => rw [signs_none (by omega) e] at h; cases h
      | some s =>
        obtain ⟨s, q⟩ := s
        rw [signs_on (by omega) e, Option.map_eq_some_iff] at h
        obtain ⟨y, hy, hx⟩ := h
        have hq := one_le e
        have ht := Rep.times_pos s
        cases m with
        | zero => omega
        | succ m =>
          have := signs_le L R m (d - Rep.times s) q (by omega) hq.1 y hy
          rw [← hx]
          exact ⟨this.1, Nat.le_trans hq.2 this.2⟩

theorem signs_more (L : List Nat) (R S : List Bool) : ∀ (m d p : Nat), d ≤ m → p ≤ R.length → ∀ x, signsFrom L R d p = some x → signsFrom L (R ++ S) d p = some x
  | m, d, p, hd, hp, x, h => by
    by_cases h0 : d = 0
    · subst h0
      rw [signs_end] at h ⊢
      exact h
    · cases e : oneSign L R p with
      | none => rw [signs_none (by omega) e] at h; cases h
      | some s =>
        obtain ⟨s, q⟩ := s
        rw [signs_on (by omega) e, Option.map_eq_some_iff] at h
        obtain ⟨y, hy, hx⟩ := h
        have hq := one_le e
        have ht := Rep.times_pos s
        cases m with
        | zero => omega
        | succ m => rw [signs_on (by omega) (one_more hp e), signs_more L R S m (d - Rep.times s) q (by omega) hq.1 y hy, ← hx]; rfl

theorem headOf_at {a b : Nat} {x : List (Nat × Nat) × Nat} {y : List Nat × List Nat × Nat} (h : headOf a b x = some y) : y.2.2 = x.2 ∧ mayH y.1 y.2.1 = true ∧ y.1.length = a ∧ y.2.1.length = b := by
  unfold headOf at h
  split at h
  · cases h
  · split at h
    · rename_i h1
      rw [← Option.some.inj h]
      refine ⟨rfl, h1.2, ?_, ?_⟩
      · show (List.take _ _).length = _; rw [List.length_take]; omega
      · show (List.drop _ _).length = _; rw [List.length_drop]; omega
    · cases h

theorem head_more {R : List Bool} {p : Nat} {y : List Nat × List Nat × Nat} (h : headAt R p = some y) (S : List Bool) : headAt (R ++ S) p = some y ∧ y.2.2 ≤ R.length ∧ p ≤ y.2.2 ∧ mayH y.1 y.2.1 = true := by
  unfold headAt at h ⊢
  split at h
  · cases h
  · rename_i h0
    have e1 : na (R ++ S) p = na R p := by unfold na; rw [nm_more _ _ _ _ (by omega)]
    have e2 : nb (R ++ S) p = nb R p := by unfold nb; rw [nm_more _ _ _ _ (by omega)]
    have e3 : nz (R ++ S) p = nz R p := by unfold nz; rw [nm_more _ _ _ _ (by omega)]
    rw [e1, e2, e3, if_neg (by rw [List.length_append]; omega)]
    split at h
    · cases h
    · rename_i h1
      rw [if_neg (by rw [List.length_append]; omega), lensTo_more _ _ _ _ (by omega)]
      split at h
      · cases h
      · rename_i h2
        rw [if_neg h2]
        obtain ⟨x, hx, hy⟩ := Option.bind_eq_some_iff.1 h
        have h3 := signs_le _ R _ _ _ (Nat.le_refl _) (by omega) _ hx
        have h4 := headOf_at hy
        rw [signs_more _ R S _ _ _ (Nat.le_refl _) (by omega) _ hx]
        exact ⟨hy, by rw [h4.1]; exact h3.1, by rw [h4.1]; omega, h4.2.1⟩

theorem head_cut {R : List Bool} {p : Nat} {y : List Nat × List Nat × Nat} (h : headAt R p = some y) (k : Nat) (hk : k < y.2.2) : headAt (R.take k) p = none := by
  cases e : headAt (R.take k) p with
  | none => rfl
  | some z =>
    have h1 := head_more e (R.drop k)
    rw [List.take_append_drop, h] at h1
    obtain rfl := Option.some.inj h1.1
    have := h1.2.1
    rw [List.length_take] at this
    omega


def encS (L : List Nat) (l : List (Nat × Nat)) : List Bool := l.flatMap fun s => wordBits L (s.1 : Int) ++ bitsOf s.2 (Rep.bitsOf' s.1)

theorem one_put {L : List Nat} (h20 : ∀ j, len L j ≤ 20) (hw : weight L ≤ 1048576) (A C : List Bool) (s : Nat × Nat) (hs : s.1 < L.length) (h0 : 0 < len L s.1) (hx : s.2 < 2 ^ Rep.bitsOf' s.1) :
    oneSign L (A ++ (wordBits L (s.1 : Int) ++ bitsOf s.2 (Rep.bitsOf' s.1)) ++ C) A.length = some (s, A.length + (wordBits L (s.1 : Int) ++ bitsOf s.2 (Rep.bitsOf' s.1)).length) := by
  have hl : (wordBits L (s.1 : Int)).length = len L s.1 := by rw [wordBits_length, bitsAtSym_nat]
  have hsk : seek (tab L L.length) 0 0 ((A ++ (wordBits L (s.1 : Int) ++ bitsOf s.2 (Rep.bitsOf' s.1)) ++ C).drop A.length) = (len L s.1, (s.1 : Int), 0) := by
    rw [List.append_assoc, List.drop_left, wordBits_nat, List.append_assoc]
    exact seek_put h20 hw s.1 hs h0 _
  unfold oneSign
  rw [hsk]
  simp only [ne_eq, not_true_eq_false, if_false, Int.toNat_natCast]
  rw [if_neg (by simp only [List.length_append, bitsOf_length, hl]; omega), nm_put (A ++ wordBits L (s.1 : Int)) C s.2 _ hx _ _ (by simp only [List.append_assoc]) (by rw [List.length_append, hl]), List.length_append, hl, bitsOf_length, Nat.add_assoc]

def timesAll (l : List (Nat × Nat)) : Nat := (l.map Rep.times).sum

theorem signs_put {L : List Nat} (h20 : ∀ j, len L j ≤ 20) (hw : weight L ≤ 1048576) : ∀ (l : List (Nat × Nat)) (A C : List Bool), (∀ s ∈ l, s.1 < L.length ∧ 0 < len L s.1 ∧ s.2 < 2 ^ Rep.bitsOf' s.1) →
    signsFrom L (A ++ encS L l ++ C) (timesAll l) A.length = some (l, A.length + (encS L l).length)
  | [], A, C, _ => by
    show signsFrom L _ 0 _ = _
    rw [signs_end]
    rfl
  | s :: l, A, C, h => by
    obtain ⟨h1, h2, h3⟩ := h s (by simp)
    have e := one_put h20 hw A (encS L l ++ C) s h1 h2 h3
    have hR : A ++ encS L (s :: l) ++ C = A ++ (wordBits L (s.1 : Int) ++ bitsOf s.2 (Rep.bitsOf' s.1)) ++ (encS L l ++ C) := by simp [encS]
    have ht := Rep.times_pos s
    have hd : timesAll (s :: l) = Rep.times s + timesAll l := by simp [timesAll]
    rw [hd, hR, signs_on (by omega) e, Nat.add_sub_cancel_left]
    have ih := signs_put h20 hw l (A ++ (wordBits L (s.1 : Int) ++ bitsOf s.2 (Rep.bitsOf' s.1))) C (fun t ht => h t (by simp [ht]))
    rw [List.length_append] at ih
    rw [← List.append_assoc, ih]
    simp [encS, Nat.add_assoc]

theorem say_times : ∀ (l : List (Nat × Nat)) (out o : List Nat), Rep.say out l = some o → o.length = out.length + timesAll l
  | [], out, o, h => by
    rw [← Option.some.inj h]
    rfl
  | s :: l, out, o, h => by
    unfold Rep.say at h
    split at h
    · cases h
    · have := say_times l _ o h
      simp only [List.length_append, List.length_replicate] at this
      simp only [timesAll, List.map_cons, List.sum_cons] at *
      omega

def lensBits (L : List Nat) : Nat → List Bool
  | 0 => []
  | z + 1 => lensBits L z ++ bitsOf (len L (ord z)) 3

theorem lensBits_length (L : List Nat) : ∀ z, (lensBits L z).length = 3 * z
  | 0 => rfl
  | z + 1 => by rw [lensBits, List.length_append, lensBits_length L z, bitsOf_length]; omega

def lensCut (L : List Nat) : Nat → List Nat
  | 0 => List.replicate 19 0
  | z + 1 => (lensCut L z).set (ord z) (len L (ord z))

theorem lensCut_length (L : List Nat) : ∀ z, (lensCut L z).length = 19
  | 0 => by simp [lensCut]
  | z + 1 => by rw [lensCut, List.length_set, lensCut_length L z]

theorem lensCut_get (L : List Nat) : ∀ z, z ≤ 19 → ∀ i, i < 19 → len (lensCut L z) (ord i) = if i < z then len L (ord i) else 0
  | 0, _, i, _ => by
    unfold len lensCut
    rw [if_neg (by omega), List.getD_eq_getElem?_getD, List.getElem?_replicate]
    split <;> rfl
  | z + 1, hz, i, hi => by
    have ih := lensCut_get L z (by omega) i hi
    unfold len at ih ⊢
    rw [lensCut, List.getD_eq_getElem?_getD, List.getElem?_set]
    by_cases h : ord z = ord i
    · have : z = i := ord_inj (by omega) hi h
      subst this
      rw [if_pos rfl, if_pos (by rw [lensCut_length]; exact ord_lt z), if_pos (by omega)]
      rfl
    · have : z ≠ i := fun e => h (by rw [e])
      rw [if_neg h, ← List.getD_eq_getElem?_getD, ih]
      by_cases h2 : i < z
      · rw [if_pos h2, if_pos (by omega)]
      · rw [if_neg h2, if_neg (by omega)]

theorem lensCut_all {L : List Nat} (hL : L.length = 19) {z : Nat} (hz : z ≤ 19) (h : ∀ i, z ≤ i → i < 19 → len L (ord i) = 0) : lensCut L z = L := by
  refine List.ext_getElem (by rw [lensCut_length, hL]) fun c h1 h2 => ?_
  obtain ⟨i, hi, rfl⟩ := ord_onto (by rw [hL] at h2; exact h2)
  have e := lensCut_get L z hz i hi
  have e2 : len (lensCut L z) (ord i) = (lensCut L z)[ord i] := by unfold len; rw [getD_in _ _ h1]
  have e3 : len L (ord i) = L[ord i] := by unfold len; rw [getD_in _ _ h2]
  rw [← e2, e]
  split
  · exact e3
  · rw [← e3, h i (by omega) hi]

theorem lensTo_put (L : List Nat) (h7 : ∀ x ∈ L, x < 8) (A C : List Bool) (R : List Bool) : ∀ z, R.take (A.length + 3 * z) = A ++ lensBits L z → lensTo R A.length z = lensCut L z
  | 0, _ => rfl
  | z + 1, h => by
    have hlen : A.length + 3 * (z + 1) ≤ R.length := by
      have := congrArg List.length h
      rw [List.length_take, List.length_append, lensBits_length] at this
      omega
    have h1 : R.take (A.length + 3 * z) = A ++ lensBits L z := by
      have := congrArg (List.take (A.length + 3 * z)) h
      rw [List.take_take, Nat.min_eq_left (by omega), lensBits, ← List.append_assoc] at this
      rw [this, List.take_append_of_le_length (by rw [List.length_append, lensBits_length]; exact Nat.le_refl _), List.take_of_length_le (by rw [List.length_append, lensBits_length]; exact Nat.le_refl _)]
    have hlt : len L (ord z) < 2 ^ 3 := by
      unfold len
      by_cases hz : ord z < L.length
      · rw [getD_in _ _ hz]; exact h7 _ (List.getElem_mem hz)
      · rw [getD_out _ _ (by omega)]; omega
    have h2 : nm R (A.length + 3 * z) 3 = len L (ord z) := by
      refine nm_put (A ++ lensBits L z) (R.drop (A.length + 3 * (z + 1))) _ 3 hlt _ _ ?_ (by rw [List.length_append, lensBits_length])
      rw [lensBits, ← List.append_assoc] at h
      rw [← h, List.take_append_drop]
    rw [lensTo, lensCut, lensTo_put L h7 A C R z h1, h2]

def headBits (L : List Nat) (z : Nat) (l : List (Nat × Nat)) (a b : Nat) : List Bool :=
  bitsOf (a - 257) 5 ++ bitsOf (b - 1) 5 ++ bitsOf (z - 4) 4 ++ lensBits L z ++ encS L l

theorem mayH_len {p q : List Nat} (h : mayH p q = true) : 257 ≤ p.length ∧ p.length ≤ 286 ∧ 1 ≤ q.length ∧ q.length ≤ 30 ∧ len p 256 ≠ 0 ∧ (∀ x ∈ p, x ≤ 15) ∧ ∀ x ∈ q, x ≤ 15 := by
  unfold mayH low15 at h
  simp only [Bool.and_eq_true, decide_eq_true_eq, List.all_eq_true] at h
  obtain ⟨⟨⟨h1, h2, h3, h4, h5⟩, h6, h7⟩, _⟩ := h
  exact ⟨h1, h2, h3, h4, h5, h6, h7⟩

structure Tells (L : List Nat) (z : Nat) (l : List (Nat × Nat)) (p q : List Nat) : Prop where
  len19 : L.length = 19
  low7 : ∀ x ∈ L, x < 8
  full : weight L = 1048576
  z4 : 4 ≤ z
  z19 : z ≤ 19
  none : ∀ i, z ≤ i → i < 19 → len L (ord i) = 0
  word : ∀ s ∈ l, s.1 < 19 ∧ 0 < len L s.1 ∧ s.2 < 2 ^ Rep.bitsOf' s.1
  says : Rep.say [] l = some (p ++ q)

theorem head_put {L : List Nat} {z : Nat} {l : List (Nat × Nat)} {p q : List Nat} (h : Tells L z l p q) (hm : mayH p q = true) (A C : List Bool) :
    headAt (A ++ headBits L z l p.length q.length ++ C) A.length = some (p, q, A.length + (headBits L z l p.length q.length).length) := by
  obtain ⟨a1, a2, b1, b2, _⟩ := mayH_len hm
  have hz4 := h.z4
  have hz19 := h.z19
  obtain ⟨R, hR⟩ : ∃ R, R = A ++ headBits L z l p.length q.length ++ C := ⟨_, rfl⟩
  rw [← hR]
  have hb : (headBits L z l p.length q.length).length = 14 + 3 * z + (encS L l).length := by
    unfold headBits
    simp only [List.length_append, bitsOf_length, lensBits_length]
  have hRl : R.length = A.length + (14 + 3 * z + (encS L l).length) + C.length := by rw [hR, List.length_append, List.length_append, hb]
  have ea : na R A.length = p.length := by
    unfold na
    rw [nm_put A (bitsOf (q.length - 1) 5 ++ bitsOf (z - 4) 4 ++ lensBits L z ++ encS L l ++ C) (p.length - 257) 5 (by omega) R _ (by rw [hR]; unfold headBits; simp only [List.append_assoc]) rfl]
    omega
  have eb : nb R A.length = q.length := by
    unfold nb
    rw [nm_put (A ++ bitsOf (p.length - 257) 5) (bitsOf (z - 4) 4 ++ lensBits L z ++ encS L l ++ C) (q.length - 1) 5 (by omega) R _ (by rw [hR]; unfold headBits; simp only [List.append_assoc]) (by rw [List.length_append, bitsOf_length])]
    omega
  have ez : nz R A.length = z := by
    unfold nz
    rw [nm_put (A ++ bitsOf (p.length - 257) 5 ++ bitsOf (q.length - 1) 5) (lensBits L z ++ encS L l ++ C) (z - 4) 4 (by omega) R _ (by rw [hR]; unfold headBits; simp only [List.append_assoc]) (by simp only [List.length_append, bitsOf_length])]
    omega
  have el : lensTo R (A.length + 14) z = L := by
    have hA : (A ++ (bitsOf (p.length - 257) 5 ++ bitsOf (q.length - 1) 5 ++ bitsOf (z - 4) 4)).length = A.length + 14 := by simp only [List.length_append, bitsOf_length]
    have := lensTo_put L h.low7 (A ++ (bitsOf (p.length - 257) 5 ++ bitsOf (q.length - 1) 5 ++ bitsOf (z - 4) 4)) C R z (by
      rw [hR, show A ++ headBits L z l p.length q.length ++ C = A ++ (bitsOf (p.length - 257) 5 ++ bitsOf (q.length - 1) 5 ++ bitsOf (z - 4) 4) ++ lensBits L z ++ (encS L l ++ C) from by unfold headBits; simp only [List.append_assoc]]
      exact List.take_left' (by simp only [List.length_append, lensBits_length]))
    rw [hA] at this
    rw [this, lensCut_all h.len19 h.z19 h.none]
  have ht : timesAll l = p.length + q.length := by
    have := say_times l [] _ h.says
    rw [List.length_append] at this
    simpa using this.symm
  unfold headAt
  rw [ea, eb, ez, el, if_neg (by omega), if_neg (by omega), if_neg (by rw [h.full]; exact fun h => h rfl), ← ht]
  have h20 : ∀ j, len L j ≤ 20 := by
    intro j
    unfold len
    by_cases hj : j < L.length
    · rw [getD_in _ _ hj]; have := h.low7 _ (List.getElem_mem hj); omega
    · rw [getD_out _ _ (by omega)]; omega
  have hs := signs_put h20 (by rw [h.full]; exact Nat.le_refl _) l (A ++ (bitsOf (p.length - 257) 5 ++ bitsOf (q.length - 1) 5 ++ bitsOf (z - 4) 4) ++ lensBits L z) C (fun s hs => by rw [h.len19]; exact h.word s hs)
  have hA2 : (A ++ (bitsOf (p.length - 257) 5 ++ bitsOf (q.length - 1) 5 ++ bitsOf (z - 4) 4) ++ lensBits L z).length = A.length + 14 + 3 * z := by simp only [List.length_append, bitsOf_length, lensBits_length]
  rw [hA2, show A ++ (bitsOf (p.length - 257) 5 ++ bitsOf (q.length - 1) 5 ++ bitsOf (z - 4) 4) ++ lensBits L z ++ encS L l ++ C = R from by rw [hR]; unfold headBits; simp only [List.append_assoc]] at hs
  rw [hs, Option.bind_some]
  unfold headOf
  rw [h.says]
  simp only
  rw [if_pos ⟨List.length_append, by rw [List.take_left, List.drop_left]; exact hm⟩, List.take_left, List.drop_left, hb]
  congr 3
  omega

theorem head_small {L : List Nat} {z : Nat} {l : List (Nat × Nat)} {p q : List Nat} (h : Tells L z l p q) : (headBits L z l p.length q.length).length ≤ 14 + 57 + 14 * l.length := by
  have hz := h.z19
  have he : ∀ l : List (Nat × Nat), (∀ s ∈ l, s.1 < 19) → (encS L l).length ≤ 14 * l.length := by
    intro l
    induction l with
    | nil => intro _; simp [encS]
    | cons s l ih =>
      intro hs
      have h1 := ih (fun t ht => hs t (by simp [ht]))
      have h2 : (wordBits L (s.1 : Int)).length ≤ 7 := by
        rw [wordBits_length, bitsAtSym_nat]
        unfold len
        by_cases hj : s.1 < L.length
        · rw [getD_in _ _ hj]; have := h.low7 _ (List.getElem_mem hj); omega
        · rw [getD_out _ _ (by omega)]; omega
      have h3 : Rep.bitsOf' s.1 ≤ 7 := by unfold Rep.bitsOf'; split <;> (try omega); split <;> (try omega); split <;> omega
      simp only [encS, List.flatMap_cons, List.length_append, bitsOf_length, List.length_cons] at *
      omega
  have := he l (fun s hs => (h.word s hs).1)
  unfold headBits
  simp only [List.length_append, bitsOf_length, lensBits_length]
  omega

end Go.Proofs.YtpinfihmageeoaaGreat.Hd

namespace Go.Proofs.YtpinfihmageeoaaGreat.Hd
open Go.RowKit Kraft

attribute [local go_sem] Oper.semAt_some

def classH (L : List Nat) : Nat := if low15 L then class_ (weight L) else 9

theorem low15_big {L : List Nat} (i : Nat) (hi : i < L.length) (h : 15 < L[i]) : low15 L = false := by
  rw [Bool.eq_false_iff]
  intro e
  unfold low15 at e
  have := List.all_eq_true.1 e _ (List.getElem_mem hi)
  simp at this
  omega

theorem low15_of {L : List Nat} (h : ∀ (i : Nat) (hi : i < L.length), L[i] ≤ 15) : low15 L = true := by
  unfold low15
  rw [List.all_eq_true]
  intro x hx
  obtain ⟨i, hi, rfl⟩ := List.getElem_of_mem hx
  exact decide_eq_true (h i hi)

theorem may_of15 {L : List Nat} (h : low15 L = true) (hl : L.length ≤ 512) : may L = true :=
  (may_iff L).2 ⟨hl, fun x hx => by
    unfold low15 at h
    have := List.all_eq_true.1 h _ hx
    simp at this
    omega⟩

set_option maxRecDepth 100000 in
theorem refClass_any (w : World) (v : Value) (L : List Nat) (h : ByteRow w v L) (hl : L.length ≤ 512) :
    Calls Tryz.prog 107 #[v] w fun e w' => e = .returned (.int .u8 (classH L : Int)) ∧ w = w' := by
  have hrow := h
  obtain ⟨a, cap, rfl, hc, hn, hat⟩ := h
  go_enter Tryz.func107, Tryz.ntmps107
  go_wp2
  go_loopw [3] (fun i wr => ∃ k : Nat, k ≤ L.length ∧ i = .int .i64 (k : Int) ∧ (∀ j (hj : j < L.length), j < k → L[j] ≤ 15) ∧ wr = w) (fun i _ => L.length - (intOf i).toNat)
  case atStart => exact ⟨0, by omega, rfl, fun j _ hj => absurd hj (by omega), rfl⟩
  case round =>
    obtain ⟨k, hk, rfl, hall, rfl⟩ := hrel
    have HA := Lib.hid hall
    clear hall
    by_cases hlt : k < L.length
    · obtain ⟨hx, b0, off, rfl, c0⟩ := hat k hlt
      have H1 : 15 < L[k] → classH L = 9 := fun h => by unfold classH; rw [low15_big k hlt h]; rfl
      have H2 : L[k] ≤ 15 → ∀ j (hj : j < L.length), j < k + 1 → L[j] ≤ 15 := fun h j hj hjk => by
        by_cases e : j = k
        · subst e; exact h
        · exact HA.out j hj (by omega)
      have H2 := Lib.hid H2
      generalize L[k] = x at hx c0 H1 H2
      by_cases hx15 : 15 < x
      · go_wp2
        go_ret
        exact ⟨by rw [H1 hx15]; rfl, rfl⟩
      · go_wp2
        go_roundw
        case rel => exact ⟨k + 1, by omega, by go_num, H2.out (by omega), trivial⟩
        case measure => simp [intOf]; omega
    · obtain rfl : k = L.length := by omega
      have h15 := low15_of (fun i hi => HA.out i hi hi)
      have hm := may_of15 h15 hl
      have hcl := refClassify_any wr _ L hrow (by omega)
      unfold classAns at hcl
      rw [if_pos hm] at hcl
      have hq : classH L = class_ (weight L) := by unfold classH; rw [if_pos h15]
      generalize class_ (weight L) = z at hcl hq
      have HQ := Lib.hid hq
      clear hq hm h15
      go_wp2_with fail
      refine hcl.mono ?_
      rintro e w1 ⟨rfl, rfl⟩
      go_wp2
      go_ret
      exact ⟨by rw [HQ.out]; rfl, rfl⟩

set_option maxRecDepth 100000 in
set_option maxHeartbeats 1000000 in
theorem refSingle_any (w : World) (v : Value) (L : List Nat) (h : ByteRow w v L) (hl : L.length ≤ 140737488355328) :
    Calls Tryz.prog 133 #[v] w fun e w' => e = .returned (.bool (single L)) ∧ w = w' := by
  obtain ⟨a, cap, rfl, hc, hn, hat⟩ := h
  go_enter Tryz.func133, Tryz.ntmps133
  go_wp2
  go_loopw [3, 4, 5] (fun s o i wr => ∃ k : Nat, k ≤ L.length ∧ i = .int .i64 (k : Int) ∧ s = .int .i64 (somes L k : Int) ∧ o = .int .i64 (ones L k : Int) ∧ wr = w) (fun _ _ i _ => L.length - (intOf i).toNat)
  case atStart => exact ⟨0, by omega, rfl, rfl, rfl, rfl⟩
  case round =>
    obtain ⟨k, hk, rfl, rfl, rfl, rfl⟩ := hrel
    by_cases hlt : k < L.length
    · obtain ⟨hx, b0, off, rfl, c0⟩ := hat k hlt
      have hs := somes_le L k
      have ho := ones_le L k
      have HS := somes_succ L k hlt
      have HO := ones_succ L k hlt
      have HS := Lib.hid HS
      have HO := Lib.hid HO
      generalize somes L k = s at hs HS
      generalize ones L k = o at ho HO
      generalize L[k] = x at hx c0 HS HO
      by_cases h0 : x = 0
      · subst h0
        go_wp2
        go_roundw
        case rel => exact ⟨k + 1, by omega, by go_num, by rw [HS.out]; rfl, by rw [HO.out]; rfl, trivial⟩
        case measure => simp [intOf]; omega
      · by_cases h1 : x = 1
        · subst h1
          go_wp2
          go_roundw
          case rel => exact ⟨k + 1, by omega, by go_num, by rw [HS.out]; go_num, by rw [HO.out]; go_num, trivial⟩
          case measure => simp [intOf]; omega
        · have h2 : 0 < x := by omega
          go_wp2
          go_roundw
          case rel => exact ⟨k + 1, by omega, by go_num, by rw [HS.out, if_neg h0]; go_num, by rw [HO.out, if_neg h1]; go_num, trivial⟩
          case measure => simp [intOf]; omega
    · obtain rfl : k = L.length := by omega
      have HE := Lib.hid (show single L = (decide (somes L L.length = 1) && decide (ones L L.length = 1)) from rfl)
      generalize somes L L.length = s at HE
      generalize ones L L.length = o at HE
      obtain ⟨z, hz⟩ : ∃ z, single L = z := ⟨_, rfl⟩
      rw [hz] at HE
      have HZ := Lib.hid hz
      clear hz
      by_cases h1 : s = 1
      · subst h1
        by_cases h2 : o = 1
        · subst h2
          go_wp2
          go_ret
          exact ⟨by rw [HZ.out, HE.out]; rfl, rfl⟩
        · have d2 : ((o : Int) == 1) = false := by simp; omega
          go_wp2
          go_ret
          exact ⟨by rw [HZ.out, HE.out]; simp [h2], rfl⟩
      · go_wp2
        go_ret
        exact ⟨by rw [HZ.out, HE.out]; simp [h1], rfl⟩

theorem single_15 {L : List Nat} (h : single L = true) : low15 L = true := by
  unfold single at h
  simp only [Bool.and_eq_true, decide_eq_true_eq] at h
  obtain ⟨h1, h2⟩ := h
  refine low15_of fun i hi => ?_
  -- the one length that is not 0 is 1
  have hle : ∀ k, ones L k ≤ somes L k := by
    intro k
    unfold ones somes
    exact sumTo_le fun j _ => by split <;> split <;> omega
  by_cases h0 : L[i] ≤ 15
  · exact h0
  · exfalso
    have key : ∀ k, k ≤ L.length → i < k → ones L k + 1 ≤ somes L k := by
      intro k
      induction k with
      | zero => intro _ h; omega
      | succ k ih =>
        intro hk hik
        have e1 := somes_succ L k (by omega)
        have e2 := ones_succ L k (by omega)
        by_cases e : i = k
        · subst e
          rw [if_neg (by omega)] at e1
          rw [if_neg (by omega)] at e2
          have := hle i
          omega
        · have := ih (by omega) (by omega)
          have h3 : (if L[k] = 1 then 1 else 0) ≤ (if L[k] = 0 then 0 else 1) := by split <;> split <;> omega
          omega
    have := key L.length (Nat.le_refl _) hi
    omega

set_option maxRecDepth 100000 in
theorem refExtra_any (w : World) (c : Nat) : Calls Tryz.prog 109 #[.int .i64 (c : Int)] w fun e w' => e = .returned (.int .i64 (Rep.bitsOf' c : Int)) ∧ w = w' := by
  unfold Rep.bitsOf'
  by_cases h1 : c = 16
  · subst h1
    go_enter Tryz.func109, Tryz.ntmps109
    go_wp2
    go_ret
    exact ⟨rfl, rfl⟩
  · rw [if_neg h1]
    by_cases h2 : c = 17
    · subst h2
      go_enter Tryz.func109, Tryz.ntmps109
      go_wp2
      go_ret
      exact ⟨rfl, rfl⟩
    · rw [if_neg h2]
      by_cases h3 : c = 18
      · subst h3
        go_enter Tryz.func109, Tryz.ntmps109
        go_wp2
        go_ret
        exact ⟨rfl, rfl⟩
      · rw [if_neg h3]
        have b1 : ((c : Int) == 16) = false := by rw [beq_eq_false_iff_ne]; omega
        have b2 : ((c : Int) == 17) = false := by rw [beq_eq_false_iff_ne]; omega
        have b3 : ((c : Int) == 18) = false := by rw [beq_eq_false_iff_ne]; omega
        go_enter Tryz.func109, Tryz.ntmps109
        go_wp2
        go_ret
        exact ⟨rfl, rfl⟩

set_option maxRecDepth 100000 in
theorem refOrder_any (w : World) : Calls Tryz.prog 106 #[] w fun e w' => ∃ v, e = .returned v ∧ NumRow w' v order ∧ Below w.heap.size w w' := by
  go_enter Tryz.func106, Tryz.ntmps106
  go_wp2
  go_ret
  exact ⟨_, rfl, numRow_lit _ [16, 17, 18, 0, 8, 7, 9, 6, 10, 5, 11, 4, 12, 3, 13, 2, 14, 1, 15] _ _, below_alloc w _⟩

set_option maxRecDepth 100000 in
theorem refBits9_st {B : Nat} {w0 w : World} {r : List Thing} (st : St B w0 w r) (v : Value) (R : List Bool) (h : ∀ W, St B w0 W r → RowAt W v R) (hl : R.length ≤ 1000000) :
    Calls Tryz.prog 52 #[v] w (BytesSt B w0 r (nats R)) := by
  obtain ⟨a, cap, rfl, -⟩ := h w st
  have HR := Lib.hid h
  clear h
  obtain ⟨i0, hi, hz0, hz1, hz2⟩ := info_parts info8
  go_enter Tryz.func52, Tryz.ntmps52
  go_wp2
  go_loopw [3, 4, 5] (fun ov iv _ wr => ∃ k : Nat, k ≤ R.length ∧ iv = .int .i64 (k : Int) ∧ St B w0 wr (rowT 5 1 ov k (u8s (nats (R.take k))) :: r)) (fun _ iv _ _ => R.length - (intOf iv).toNat)
  case atStart => exact ⟨0, Nat.zero_le _, rfl, by rw [List.take_zero]; exact st.addNil⟩
  case round =>
    obtain ⟨k, hk, rfl, t1⟩ := hrel
    by_cases hlt : k < R.length
    · obtain ⟨a', cap', e1, _, _, hat⟩ := HR.out _ t1.drop
      obtain ⟨rfl, -, rfl⟩ := Value.slice.inj e1
      obtain ⟨b, off, rfl, c0⟩ := hat k hlt
      have HB := Lib.hid (show R.take (k + 1) = R.take k ++ [R[k]] from List.take_succ_eq_append_getElem hlt)
      clear hat e1
      generalize R[k] = x at c0 HB
      cases x
      · go_wp2_with (at_builtin; refine wpList_append_one rfl _ _ 26 rfl 5 i0 (.int .u8 0) 1 1 Tryz.underlying26 hi hz0 hz1 hz2 rfl (by decide) t1 rfl [.int .u8 0] rfl rfl ?oneCell (by unfold maxLen; omega) (by omega) ?_)
        case oneCell => first | rfl | (intro u hu; simp at hu; subst hu; rfl)
        intro v' w5 t5
        go_wp2
        go_roundw
        case rel => exact ⟨k + 1, by omega, by go_num, by rw [HB.out, nats_append, u8s_append]; exact t5⟩
        case measure => simp [intOf]; omega
      · go_wp2_with (at_builtin; refine wpList_append_one rfl _ _ 26 rfl 5 i0 (.int .u8 0) 1 1 Tryz.underlying26 hi hz0 hz1 hz2 rfl (by decide) t1 rfl [.int .u8 1] rfl rfl ?oneCell (by unfold maxLen; omega) (by omega) ?_)
        case oneCell => first | rfl | (intro u hu; simp at hu; subst hu; rfl)
        intro v' w5 t5
        go_wp2
        go_roundw
        case rel => exact ⟨k + 1, by omega, by go_num, by rw [HB.out, nats_append, u8s_append]; exact t5⟩
        case measure => simp [intOf]; omega
    · obtain rfl : k = R.length := by omega
      go_wp2
      go_ret
      rw [List.take_of_length_le (Nat.le_refl _)] at t1
      exact ⟨_, rfl, by rw [nats_length]; exact t1⟩

end Go.Proofs.YtpinfihmageeoaaGreat.Hd

namespace Go.Proofs.YtpinfihmageeoaaGreat.Hd
open Go.RowKit Kraft

attribute [local go_sem] Oper.semAt_some

theorem class_full (L : List Nat) (h : low15 L = true) : decide (classH L = 2) = full L ∧ decide (classH L = 0) = decide (weight L = 0) := by
  unfold classH full class_
  rw [if_pos h]
  constructor
  · refine decide_eq_decide.2 ?_
    split
    · omega
    · split
      · omega
      · split <;> omega
  · refine decide_eq_decide.2 ?_
    split
    · omega
    · split
      · omega
      · split <;> omega

theorem mayH_class {P Q : List Nat} (h : 257 ≤ P.length ∧ P.length ≤ 286 ∧ 1 ≤ Q.length ∧ Q.length ≤ 30 ∧ len P 256 ≠ 0) :
    mayH P Q = ((decide (classH P = 2) || single P) && (decide (classH Q = 2) || decide (classH Q = 0) || single Q)) := by
  unfold mayH
  rw [decide_eq_true h, Bool.true_and]
  cases hp : low15 P with
  | false =>
    have h1 : single P = false := by rw [Bool.eq_false_iff]; intro e; rw [single_15 e] at hp; cases hp
    have h2 : decide (classH P = 2) = false := decide_eq_false (by unfold classH; rw [hp]; simp)
    rw [h1, h2]
    rfl
  | true =>
    rw [(class_full P hp).1, Bool.true_and]
    cases hq : low15 Q with
    | false =>
      have h1 : single Q = false := by rw [Bool.eq_false_iff]; intro e; rw [single_15 e] at hq; cases hq
      have h2 : decide (classH Q = 2) = false := decide_eq_false (by unfold classH; rw [hq]; simp)
      have h3 : decide (classH Q = 0) = false := decide_eq_false (by unfold classH; rw [hq]; simp)
      rw [h1, h2, h3]
      simp
    | true => rw [(class_full Q hq).1, (class_full Q hq).2, Bool.true_and]

theorem mayH_not {P Q : List Nat} (h : ¬ (257 ≤ P.length ∧ P.length ≤ 286 ∧ 1 ≤ Q.length ∧ Q.length ≤ 30 ∧ len P 256 ≠ 0)) : mayH P Q = false := by
  unfold mayH
  rw [decide_eq_false h]
  rfl

set_option maxRecDepth 100000 in
set_option maxHeartbeats 4000000 in
theorem refMayH_any (w : World) (va vb : Value) (P Q : List Nat) (hp : ByteRow w va P) (hq : ByteRow w vb Q) (hlp : P.length ≤ 140737488355328) (hlq : Q.length ≤ 140737488355328) :
    Calls Tryz.prog 111 #[va, vb] w fun e w' => e = .returned (.bool (mayH P Q)) ∧ w = w' := by
  have hp0 := hp
  have hq0 := hq
  obtain ⟨a, ca, rfl, hca, _, hat⟩ := hp
  obtain ⟨b, cb, rfl, hcb, _, _⟩ := hq
  obtain ⟨z, hz⟩ : ∃ z, mayH P Q = z := ⟨_, rfl⟩
  rw [hz]
  by_cases h1 : P.length < 257
  · rw [mayH_not (by omega)] at hz
    subst hz
    go_enter Tryz.func111, Tryz.ntmps111
    go_wp2
    go_ret
    exact ⟨rfl, rfl⟩
  · by_cases h2 : 286 < P.length
    · rw [mayH_not (by omega)] at hz
      subst hz
      go_enter Tryz.func111, Tryz.ntmps111
      go_wp2
      go_ret
      exact ⟨rfl, rfl⟩
    · by_cases h3 : Q.length < 1
      · rw [mayH_not (by omega)] at hz
        subst hz
        go_enter Tryz.func111, Tryz.ntmps111
        go_wp2
        go_ret
        exact ⟨rfl, rfl⟩
      · by_cases h4 : 30 < Q.length
        · rw [mayH_not (by omega)] at hz
          subst hz
          go_enter Tryz.func111, Tryz.ntmps111
          go_wp2
          go_ret
          exact ⟨rfl, rfl⟩
        · obtain ⟨hx, g, off, rfl, c0⟩ := hat 256 (by omega)
          have hlen : len P 256 = P[256] := len_at P 256 (by omega)
          have hmc := fun h => mayH_class (P := P) (Q := Q) h
          rw [hlen, hz] at hmc
          have hno := fun h => mayH_not (P := P) (Q := Q) h
          rw [hlen, hz] at hno
          generalize P[256] = x at hx c0 hmc hno
          clear hlen hz hat
          by_cases h5 : x = 0
          · subst h5
            obtain rfl := hno (by omega)
            go_enter Tryz.func111, Tryz.ntmps111
            go_wp2
            go_ret
            exact ⟨rfl, rfl⟩
          · have hmc := hmc ⟨by omega, by omega, by omega, by omega, h5⟩
            have d5 : ((x : Int) == 0) = false := by rw [beq_eq_false_iff_ne]; omega
            have k1 := refClass_any w _ P hp0 (by omega)
            have k2 := refClass_any w _ Q hq0 (by omega)
            have s1 := refSingle_any w _ P hp0 (by omega)
            have s2 := refSingle_any w _ Q hq0 (by omega)
            clear hno hp0 hq0
            generalize classH P = z1 at hmc k1
            generalize classH Q = z2 at hmc k2
            generalize single P = p1 at hmc s1
            generalize single Q = p2 at hmc s2
            have HM := Lib.hid hmc
            clear hmc
            have hfin : ∀ y : Bool, y = z → ∀ W, w = W → (Ending.returned (.bool y) = .returned (.bool z) ∧ w = W) := fun y h W e => ⟨by rw [h], e⟩
            have hc1 : z1 = 2 ∨ (z1 ≠ 2 ∧ p1 = true) ∨ (z1 ≠ 2 ∧ p1 = false) := by
              by_cases h : z1 = 2
              · exact .inl h
              · cases p1
                · exact .inr (.inr ⟨h, rfl⟩)
                · exact .inr (.inl ⟨h, rfl⟩)
            have hc2 : z2 = 2 ∨ z2 = 0 ∨ (z2 ≠ 2 ∧ z2 ≠ 0) := by omega
            go_enter Tryz.func111, Tryz.ntmps111
            go_wp2_with fail
            refine k1.mono ?_
            rintro e w1 ⟨rfl, rfl⟩
            go_wp2_with fail
            refine k2.mono ?_
            rintro e w1 ⟨rfl, rfl⟩
            clear k1 k2 c0 d5 hx h1 h2 h3 h4 h5
            rcases hc1 with rfl | ⟨n1, rfl⟩ | ⟨n1, rfl⟩
            · rcases hc2 with rfl | rfl | ⟨n2, n3⟩
              · go_wp2
                go_ret
                exact hfin _ (by rw [HM.out]; rfl) _ rfl
              · go_wp2
                go_ret
                exact hfin _ (by rw [HM.out]; rfl) _ rfl
              · have d2 : ((z2 : Int) == 2) = false := by rw [beq_eq_false_iff_ne]; omega
                have d3 : ((z2 : Int) == 0) = false := by rw [beq_eq_false_iff_ne]; omega
                go_wp2_with (go_at_call 133; refine s2.mono ?_; rintro e w2 ⟨rfl, rfl⟩)
                go_ret
                exact hfin _ (by rw [HM.out, decide_eq_false n2, decide_eq_false n3]; simp) _ rfl
            · have d1 : ((z1 : Int) == 2) = false := by rw [beq_eq_false_iff_ne]; omega
              rcases hc2 with rfl | rfl | ⟨n2, n3⟩
              · go_wp2_with (go_at_call 133; refine s1.mono ?_; rintro e w2 ⟨rfl, rfl⟩)
                go_ret
                exact hfin _ (by rw [HM.out]; simp) _ rfl
              · go_wp2_with (go_at_call 133; refine s1.mono ?_; rintro e w2 ⟨rfl, rfl⟩)
                go_ret
                exact hfin _ (by rw [HM.out]; simp) _ rfl
              · have d2 : ((z2 : Int) == 2) = false := by rw [beq_eq_false_iff_ne]; omega
                have d3 : ((z2 : Int) == 0) = false := by rw [beq_eq_false_iff_ne]; omega
                go_wp2_with (first | (go_at_call 133; refine s1.mono ?_; rintro e w2 ⟨rfl, rfl⟩; clear s1) | (go_at_call 133; refine s2.mono ?_; rintro e w2 ⟨rfl, rfl⟩))
                go_ret
                exact hfin _ (by rw [HM.out, decide_eq_false n2, decide_eq_false n3]; simp) _ rfl
            · have d1 : ((z1 : Int) == 2) = false := by rw [beq_eq_false_iff_ne]; omega
              go_wp2_with (go_at_call 133; refine s1.mono ?_; rintro e w2 ⟨rfl, rfl⟩)
              go_ret
              exact hfin _ (by rw [HM.out, decide_eq_false n1]; rfl) _ rfl

end Go.Proofs.YtpinfihmageeoaaGreat.Hd
