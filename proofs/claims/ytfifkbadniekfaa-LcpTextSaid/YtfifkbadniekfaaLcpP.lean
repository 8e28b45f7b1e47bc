/-
  Plain facts for layer 14: what is common to two places of a text; when an order is that of the ends; heights, place by place. No program. No conditions.
-/
import Derived.Test.YtfifkbadniekfaaSufJ
import Derived.Test.YtfifkbadniekfaaSufK
namespace Go.Proofs.Ytfifkbadniekfaa.Lcp
open Go.Proofs.Ytfifkbadniekfaa.Suf

/-- With how many of the same numbers both begin. -/
def alike : List Nat → List Nat → Nat
  | x :: xs, y :: ys => if x = y then alike xs ys + 1 else 0
  | _, _ => 0

def Both (xs ys : List Nat) (k : Nat) : Prop := ∃ x, xs[k]? = some x ∧ ys[k]? = some x

theorem alike_both : ∀ (xs ys : List Nat) (k : Nat), k < alike xs ys → Both xs ys k
  | x :: xs, y :: ys, k, h => by
    rw [alike] at h
    split at h
    · rename_i e
      subst e
      cases k with
      | zero => exact ⟨x, rfl, rfl⟩
      | succ k =>
        obtain ⟨z, h1, h2⟩ := alike_both xs ys k (by omega)
        exact ⟨z, by simpa using h1, by simpa using h2⟩
    · omega
  | [], _, k, h => by rw [alike] at h; omega; intros; contradiction
  | _ :: _, [], k, h => by rw [alike] at h; omega; intros; contradiction

theorem alike_not : ∀ (xs ys : List Nat), ¬ Both xs ys (alike xs ys)
  | x :: xs, y :: ys, h => by
    rw [alike] at h
    split at h
    · obtain ⟨z, h1, h2⟩ := h
      exact alike_not xs ys ⟨z, by simpa using h1, by simpa using h2⟩
    · rename_i e
      obtain ⟨z, h1, h2⟩ := h
      simp at h1 h2
      exact e (h1.trans h2.symm)
  | [], _, ⟨z, h1, _⟩ => by simp at h1
  | _ :: _, [], ⟨z, _, h2⟩ => by simp at h2

theorem alike_is {xs ys : List Nat} {n : Nat} (h1 : ∀ k, k < n → Both xs ys k) (h2 : ¬ Both xs ys n) : alike xs ys = n := by
  rcases Nat.lt_trichotomy (alike xs ys) n with h | h | h
  · exact absurd (h1 _ h) (alike_not xs ys)
  · exact h
  · exact absurd (alike_both xs ys n h) h2

theorem alike_le (xs ys : List Nat) : alike xs ys ≤ xs.length ∧ alike xs ys ≤ ys.length := by
  constructor
  · apply Nat.le_of_not_lt
    intro h
    obtain ⟨z, h1, _⟩ := alike_both xs ys _ h
    simp at h1
  · apply Nat.le_of_not_lt
    intro h
    obtain ⟨z, _, h1⟩ := alike_both xs ys _ h
    simp at h1

/-- What is common to two places of a text. -/
def com (b : List Nat) (p q : Nat) : Nat := alike (b.drop p) (b.drop q)

theorem both_drop (b : List Nat) (p q k : Nat) : Both (b.drop p) (b.drop q) k ↔ ∃ x, b[p + k]? = some x ∧ b[q + k]? = some x := by
  unfold Both
  simp only [List.getElem?_drop]

theorem com_comm (b : List Nat) (p q : Nat) : com b p q = com b q p := by
  refine alike_is (fun k hk => ?_) ?_
  · obtain ⟨x, h1, h2⟩ := alike_both _ _ k hk
    exact ⟨x, h2, h1⟩
  · rintro ⟨x, h1, h2⟩
    exact alike_not _ _ ⟨x, h2, h1⟩

theorem com_le (b : List Nat) (p q : Nat) (hp : p ≤ b.length) (hq : q ≤ b.length) : p + com b p q ≤ b.length ∧ q + com b p q ≤ b.length := by
  have := alike_le (b.drop p) (b.drop q)
  simp only [List.length_drop] at this
  unfold com
  omega

theorem com_from (b : List Nat) (p q m : Nat) (h : m ≤ com b p q) : com b p q = m + alike (b.drop (p + m)) (b.drop (q + m)) := by
  refine alike_is (fun k hk => ?_) ?_
  · by_cases e : k < m
    · exact alike_both _ _ k (Nat.lt_of_lt_of_le e h)
    · obtain ⟨x, h1, h2⟩ := (both_drop _ _ _ _).1 (alike_both (b.drop (p + m)) (b.drop (q + m)) (k - m) (by omega))
      rw [show p + m + (k - m) = p + k by omega] at h1
      rw [show q + m + (k - m) = q + k by omega] at h2
      exact (both_drop _ _ _ _).2 ⟨x, h1, h2⟩
  · intro h'
    obtain ⟨x, h1, h2⟩ := (both_drop _ _ _ _).1 h'
    rw [← Nat.add_assoc] at h1 h2
    exact alike_not (b.drop (p + m)) (b.drop (q + m)) ((both_drop _ _ _ _).2 ⟨x, h1, h2⟩)

theorem val_some {b : List Nat} {p j x : Nat} (h : b[p + j]? = some x) : val false b p j = 1 + x := by
  obtain ⟨h1, h2⟩ := List.getElem?_eq_some_iff.1 h
  simp only [val, Bool.false_eq_true, if_false]
  rw [if_pos h1, List.getD_eq_getElem?_getD, h]
  rfl

theorem val_none {b : List Nat} {p j : Nat} (h : b[p + j]? = none) : val false b p j = 0 := by
  simp only [val, Bool.false_eq_true, if_false]
  rw [if_neg (by rw [List.getElem?_eq_none_iff] at h; omega)]

theorem val_next (b : List Nat) (p j : Nat) : val false b (p + 1) j = val false b p (j + 1) := by
  simp only [val, Bool.false_eq_true, if_false]
  rw [show p + 1 + j = p + (j + 1) by omega]

theorem com_val {b : List Nat} {p q : Nat} (hp : p < b.length) (hq : q < b.length) (hne : p ≠ q) :
    Like (val false b p) (val false b q) (com b p q) ∧ val false b p (com b p q) ≠ val false b q (com b p q) := by
  have hb : ∀ k, k < com b p q → ∃ x, b[p + k]? = some x ∧ b[q + k]? = some x := fun k hk => (both_drop _ _ _ _).1 (alike_both _ _ k hk)
  have hn : ¬ ∃ x, b[p + com b p q]? = some x ∧ b[q + com b p q]? = some x := fun h => alike_not _ _ ((both_drop _ _ _ _).2 h)
  generalize com b p q = c at *
  refine ⟨fun k hk => ?_, fun e => ?_⟩
  · obtain ⟨x, h1, h2⟩ := hb k hk
    rw [val_some h1, val_some h2]
  · cases h1 : b[p + c]? with
    | some x =>
      rw [val_some h1] at e
      cases h2 : b[q + c]? with
      | some y => rw [val_some h2] at e; exact hn ⟨x, h1, by rw [h2, show y = x by omega]⟩
      | none => rw [val_none h2] at e; omega
    | none =>
      cases h2 : b[q + c]? with
      | some y => rw [val_none h1, val_some h2] at e; omega
      | none =>
        rw [List.getElem?_eq_none_iff] at h1 h2
        rcases Nat.lt_or_gt_of_ne hne with l | l
        · by_cases l2 : b.length - q < c
          · obtain ⟨x, _, h3⟩ := hb _ l2
            have := (List.getElem?_eq_some_iff.1 h3).1
            omega
          · omega
        · by_cases l2 : b.length - p < c
          · obtain ⟨x, h3, _⟩ := hb _ l2
            have := (List.getElem?_eq_some_iff.1 h3).1
            omega
          · omega

theorem com_is {b : List Nat} {p q c : Nat} (hp : p < b.length) (hq : q < b.length) (h1 : Like (val false b p) (val false b q) c) (h2 : val false b p c ≠ val false b q c) : com b p q = c := by
  have hne : p ≠ q := fun e => by subst e; exact h2 rfl
  obtain ⟨g1, g2⟩ := com_val hp hq hne
  rcases Nat.lt_trichotomy (com b p q) c with h | h | h
  · exact absurd (h1 _ h) g2
  · exact h
  · exact absurd (g1 _ h) h2

theorem ahead_com {b : List Nat} {p q : Nat} (hp : p < b.length) (hq : q < b.length) (h : Ahead false b p q) : val false b p (com b p q) < val false b q (com b p q) := by
  obtain ⟨j, _, h2, h3⟩ := ends_apart hq h
  have := com_is hp hq h2 (Nat.ne_of_lt h3)
  rw [this]
  exact h3

theorem ahead_of_com {b : List Nat} {p q : Nat} (hp : p < b.length) (hq : q < b.length) (hne : p ≠ q) (h : val false b p (com b p q) < val false b q (com b p q)) : Ahead false b p q := by
  obtain ⟨g1, _⟩ := com_val hp hq hne
  exact .inl (less_len false b p q (com b p q + 1) hp hq ⟨_, Nat.lt_succ_self _, g1, h⟩)

theorem com_between {b : List Nat} {p q r : Nat} (hp : p < b.length) (hq : q < b.length) (hr : r < b.length) (h : Ahead false b p q) (h' : Ahead false b q r) : com b p r = min (com b p q) (com b q r) := by
  have a1 := ahead_com hp hq h
  have a2 := ahead_com hq hr h'
  have n1 : p ≠ q := fun e => by subst e; exact Ahead.irrefl h
  have n2 : q ≠ r := fun e => by subst e; exact Ahead.irrefl h'
  obtain ⟨l1, _⟩ := com_val hp hq n1
  obtain ⟨l2, _⟩ := com_val hq hr n2
  generalize com b p q = c at *
  generalize com b q r = d at *
  rcases Nat.lt_trichotomy c d with h | h | h
  · rw [Nat.min_eq_left (by omega)]
    refine com_is hp hr (l1.trans (l2.mono (by omega))) ?_
    rw [← l2 c h]; omega
  · subst h
    rw [Nat.min_self]
    exact com_is hp hr (l1.trans l2) (by omega)
  · rw [Nat.min_eq_right (by omega)]
    refine com_is hp hr ((l1.mono (by omega)).trans l2) ?_
    rw [l1 d h]; omega

/-! Heights. -/

/-- The height of a place of the order. -/
def hAt (b O : List Nat) (i : Nat) : Nat := if i = 0 then 0 else com b (nth O (i - 1)) (nth O i)
def hts (b O : List Nat) : List Nat := tab O.length (hAt b O)
theorem hts_length (b O : List Nat) : (hts b O).length = O.length := tab_length ..

theorem Whole.at {n : Nat} {R : Nat → Nat → Prop} {O : List Nat} (h : Whole n R O) {i : Nat} (hi : i < n) : nth O i < n := by
  rw [nth_lt (by rw [h.len]; exact hi)]
  exact h.mem _ (List.getElem_mem _)

theorem Whole.lt {n : Nat} {R : Nat → Nat → Prop} {O : List Nat} (h : Whole n R O) {i k : Nat} (hik : i < k) (hk : k < n) : R (nth O i) (nth O k) := by
  rw [nth_lt (show i < O.length by rw [h.len]; omega), nth_lt (show k < O.length by rw [h.len]; exact hk)]
  exact List.pairwise_iff_getElem.1 h.ord i k _ _ hik

/-- The least of these numbers behind p, up to q. -/
def Least (H : List Int) (p q : Nat) (m : Int) : Prop := (∃ k, p < k ∧ k ≤ q ∧ H[k]? = some m) ∧ ∀ k v, p < k → k ≤ q → H[k]? = some v → m ≤ v

theorem Least.one {H : List Int} {p q : Nat} {m m' : Int} (h : Least H p q m) (h' : Least H p q m') : m = m' := by
  obtain ⟨⟨k, a1, a2, a3⟩, h2⟩ := h
  obtain ⟨⟨k', b1, b2, b3⟩, h2'⟩ := h'
  have := h2 _ _ b1 b2 b3
  have := h2' _ _ a1 a2 a3
  omega

theorem hts_int (b O : List Nat) (k : Nat) (hk : k < O.length) : ((hts b O).map fun x : Nat => (x : Int))[k]? = some (hAt b O k : Int) := by
  unfold hts
  have h1 : k < (tab O.length (hAt b O)).length := by rw [tab_length]; exact hk
  rw [List.getElem?_map, List.getElem?_eq_getElem h1, tab_get]
  rfl

/-- What is common to the places that stand at p and q is the least height between. -/
theorem hts_least {b O : List Nat} (h : Whole b.length (Ahead false b) O) (p : Nat) : ∀ q, p < q → q < b.length → Least ((hts b O).map fun x : Nat => (x : Int)) p q (com b (nth O p) (nth O q) : Int) := by
  intro q
  induction q with
  | zero => intro h1; omega
  | succ q ih =>
    intro h1 h2
    have hO := h.len
    have hq1 := hts_int b O (q + 1) (by omega)
    have e1 : hAt b O (q + 1) = com b (nth O q) (nth O (q + 1)) := by simp [hAt]
    rw [e1] at hq1
    by_cases e : p = q
    · subst e
      refine ⟨⟨p + 1, by omega, by omega, hq1⟩, fun k v a1 a2 a3 => ?_⟩
      obtain rfl : k = p + 1 := by omega
      rw [hq1] at a3
      have := Option.some.inj a3
      omega
    · obtain ⟨⟨k, a1, a2, a3⟩, h3⟩ := ih (by omega) (by omega)
      have hb := com_between (Whole.at h (show p < b.length by omega)) (Whole.at h (show q < b.length by omega)) (Whole.at h h2) (Whole.lt h (show p < q by omega) (by omega)) (Whole.lt h (show q < q + 1 by omega) h2)
      rw [hb]
      refine ⟨?_, fun k v b1 b2 b3 => ?_⟩
      · by_cases l : com b (nth O p) (nth O q) ≤ com b (nth O q) (nth O (q + 1))
        · exact ⟨k, a1, by omega, by rw [Nat.min_eq_left l]; exact a3⟩
        · exact ⟨q + 1, by omega, by omega, by rw [Nat.min_eq_right (by omega)]; exact hq1⟩
      · by_cases e2 : k = q + 1
        · subst e2
          rw [hq1] at b3
          have := Option.some.inj b3
          omega
        · have := h3 k v b1 (by omega) b3
          omega

/-! Which order is that of the ends. -/

/-- Where what is behind a place stands. -/
def rk (n : Nat) (J : List Nat) (p : Nat) : Int := if p + 1 = n then -1 else (nth J (p + 1) : Int)
/-- Two neighbours may be so. -/
def Good (b J : List Nat) (p q : Nat) : Prop := nth b p < nth b q ∨ nth b p = nth b q ∧ rk b.length J p < rk b.length J q

theorem ints_inv {xs : List Int} {J : List Nat} (h : Inv xs J) : ∃ O : List Nat, xs = O.map fun x : Nat => (x : Int) := by
  obtain ⟨O, h1, h2⟩ := list_of (fun i (x : Nat) => xs[i]? = some (x : Int)) xs.length (fun i hi => by
    obtain ⟨k, _, e, _⟩ := h.at hi
    exact ⟨k, e⟩)
  refine ⟨O, List.ext_getElem? fun i => ?_⟩
  by_cases hi : i < xs.length
  · rw [List.getElem?_map, List.getElem?_eq_getElem (show i < O.length by omega), h2 i (by omega)]; rfl
  · rw [List.getElem?_eq_none (by omega), List.getElem?_eq_none (by rw [List.length_map]; omega)]

theorem ints_one {O O' : List Nat} (h : (O.map fun x : Nat => (x : Int)) = O'.map fun x : Nat => (x : Int)) : O = O' := by
  have := congrArg (List.map Int.toNat) h
  simpa [List.map_map, Function.comp_def] using this

/-- J is of the order O. -/
structure Of (O J : List Nat) : Prop where
  len : J.length = O.length
  at_ : ∀ p, p < O.length → nth J p < O.length ∧ nth O (nth J p) = p
  back : ∀ i, i < O.length → nth O i < O.length ∧ nth J (nth O i) = i

theorem of_inv {O J : List Nat} (h : Inv (O.map fun x : Nat => (x : Int)) J) : Of O J := by
  have hl : J.length = O.length := by have := h.1; simpa using this
  have h1 : ∀ p, p < O.length → nth J p < O.length ∧ nth O (nth J p) = p := fun p hp => by
    have h2 := h.lt (show p < J.length by omega)
    rw [List.length_map] at h2
    rw [nth_lt (show p < J.length by omega)]
    refine ⟨h2, ?_⟩
    have h3 := h.2 p (by omega)
    rw [List.getElem?_map, List.getElem?_eq_getElem h2] at h3
    rw [nth_lt h2]
    simp at h3
    omega
  refine ⟨hl, h1, fun i hi => ?_⟩
  obtain ⟨k, hk, e1, e2⟩ := h.at (p := i) (by rw [List.length_map]; exact hi)
  rw [List.getElem?_map, List.getElem?_eq_getElem hi] at e1
  simp at e1
  have e3 : O[i] = k := by omega
  rw [nth_lt hi, e3]
  exact ⟨by omega, by rw [nth_lt hk]; exact e2⟩

theorem val_zero {b : List Nat} {p : Nat} (hp : p < b.length) : val false b p 0 = 1 + nth b p := by
  rw [val_first _ _ _ hp, nth_lt hp]

theorem less_step {b : List Nat} {p q : Nat} (hp : p < b.length) (hq : q < b.length) : (∃ d, Less (val false b p) (val false b q) d) ↔ nth b p < nth b q ∨ nth b p = nth b q ∧ ∃ d, Less (val false b (p + 1)) (val false b (q + 1)) d := by
  constructor
  · rintro ⟨d, j, h1, h2, h3⟩
    cases j with
    | zero => rw [val_zero hp, val_zero hq] at h3; exact .inl (by omega)
    | succ j =>
      have h4 := h2 0 (by omega)
      rw [val_zero hp, val_zero hq] at h4
      exact .inr ⟨by omega, j + 1, j, by omega, fun i hi => by rw [val_next, val_next]; exact h2 _ (by omega), by rw [val_next, val_next]; exact h3⟩
  · rintro (h | ⟨h, d, j, h1, h2, h3⟩)
    · exact ⟨1, 0, by omega, fun i hi => absurd hi (by omega), by rw [val_zero hp, val_zero hq]; omega⟩
    · refine ⟨j + 2, j + 1, by omega, fun i hi => ?_, by rw [← val_next, ← val_next]; exact h3⟩
      cases i with
      | zero => rw [val_zero hp, val_zero hq, h]
      | succ i => rw [← val_next, ← val_next]; exact h2 i (by omega)

theorem ahead_less {b : List Nat} {p q : Nat} (hp : p < b.length) (hq : q < b.length) : Ahead false b p q ↔ ∃ d, Less (val false b p) (val false b q) d :=
  ⟨fun h => ⟨_, ends_apart hq h⟩, fun ⟨d, h⟩ => .inl (less_len false b p q d hp hq h)⟩

theorem not_less_end {b : List Nat} {p : Nat} (d : Nat) : ¬ Less (val false b p) (val false b b.length) d := by
  rintro ⟨j, _, _, h⟩
  rw [val_end] at h
  omega

theorem good_order {b O J : List Nat} (hl : O.length = b.length) (hJ : Of O J) (hg : ∀ i, i + 1 < b.length → Good b J (nth O i) (nth O (i + 1))) :
    ∀ m i k, i < k → k < b.length → b.length ≤ nth O i + m → Ahead false b (nth O i) (nth O k) := by
  intro m
  induction m with
  | zero => intro i k h1 h2 h3; have := (hJ.back i (by omega)).1; omega
  | succ m ih =>
    intro i k h1 h2 h3
    have bp := (hJ.back i (by omega)).1
    have bq := (hJ.back k (by omega)).1
    -- along the order bytes do not fall, and where they are the same what is behind rises
    have chain : ∀ d, i + d + 1 < b.length → nth b (nth O i) ≤ nth b (nth O (i + d + 1)) ∧ (nth b (nth O i) = nth b (nth O (i + d + 1)) → rk b.length J (nth O i) < rk b.length J (nth O (i + d + 1))) := by
      intro d
      induction d with
      | zero =>
        intro hd
        rcases hg i hd with h | ⟨h, h'⟩
        · exact ⟨by simp; omega, fun e => by simp at e; omega⟩
        · exact ⟨by simp; omega, fun _ => by simpa using h'⟩
      | succ d ihd =>
        intro hd
        obtain ⟨a1, a2⟩ := ihd (by omega)
        rcases hg (i + d + 1) (by omega) with h | ⟨h, h'⟩
        · rw [show i + (d + 1) + 1 = i + d + 1 + 1 by omega]
          exact ⟨by omega, fun e => by omega⟩
        · rw [show i + (d + 1) + 1 = i + d + 1 + 1 by omega]
          exact ⟨by omega, fun e => by have := a2 (by omega); omega⟩
    obtain ⟨d, rfl⟩ : ∃ d, k = i + d + 1 := ⟨k - i - 1, by omega⟩
    obtain ⟨a1, a2⟩ := chain d h2
    rw [ahead_less (by omega) (by omega), less_step (by omega) (by omega)]
    by_cases e : nth b (nth O i) = nth b (nth O (i + d + 1))
    · refine .inr ⟨e, ?_⟩
      have a3 := a2 e
      have hne : nth O i ≠ nth O (i + d + 1) := fun e2 => by
        have e3 := (hJ.back i (by omega)).2
        have e4 := (hJ.back (i + d + 1) (by omega)).2
        rw [e2, e4] at e3
        omega
      generalize nth O (i + d + 1) = q at *
      have hq1 : q + 1 ≠ b.length := fun e2 => by
        unfold rk at a3
        rw [if_pos e2] at a3
        split at a3 <;> omega
      by_cases hp1 : nth O i + 1 = b.length
      · refine ⟨1, 0, by omega, fun i hi => absurd hi (by omega), ?_⟩
        rw [hp1, val_end, val_zero (by omega)]
        omega
      · unfold rk at a3
        rw [if_neg hp1, if_neg hq1] at a3
        obtain ⟨j1, j2⟩ := hJ.at_ (nth O i + 1) (by omega)
        obtain ⟨j3, j4⟩ := hJ.at_ (q + 1) (by omega)
        have := ih (nth J (nth O i + 1)) (nth J (q + 1)) (by omega) (by omega) (by rw [j2]; omega)
        rw [j2, j4] at this
        exact (ahead_less (by omega) (by omega)).1 this
    · exact .inl (by omega)

/-- An order of all places is that of the ends just if its neighbours may be so. -/
theorem order_good {b O J : List Nat} (hl : O.length = b.length) (hJ : Of O J) : Whole b.length (Ahead false b) O ↔ ∀ i, i + 1 < b.length → Good b J (nth O i) (nth O (i + 1)) := by
  constructor
  · intro h i hi
    have hp := Whole.at h (show i < b.length by omega)
    have hq := Whole.at h hi
    have ha := (less_step hp hq).1 ((ahead_less hp hq).1 (Whole.lt h (show i < i + 1 by omega) hi))
    rcases ha with ha | ⟨ha, d, hd⟩
    · exact .inl ha
    · refine .inr ⟨ha, ?_⟩
      have hq1 : nth O (i + 1) + 1 ≠ b.length := fun e => by
        rw [e] at hd
        exact not_less_end d hd
      unfold rk
      rw [if_neg hq1]
      by_cases hp1 : nth O i + 1 = b.length
      · rw [if_pos hp1]; omega
      · rw [if_neg hp1]
        obtain ⟨j1, j2⟩ := hJ.at_ (nth O i + 1) (by omega)
        obtain ⟨j3, j4⟩ := hJ.at_ (nth O (i + 1) + 1) (by omega)
        have h1 : Ahead false b (nth O i + 1) (nth O (i + 1) + 1) := (ahead_less (by omega) (by omega)).2 ⟨d, hd⟩
        rcases Nat.lt_trichotomy (nth J (nth O i + 1)) (nth J (nth O (i + 1) + 1)) with g | g | g
        · omega
        · rw [← g, j2] at j4
          rw [← j4] at h1
          exact absurd h1 Ahead.irrefl
        · have h2 := Whole.lt h g (by omega)
          rw [j2, j4] at h2
          exact (h1.asymm h2).elim
  · intro h
    refine ⟨hl, fun x hx => ?_, List.pairwise_iff_getElem.2 fun i k hi hk hik => ?_⟩
    · obtain ⟨i, hi, rfl⟩ := List.mem_iff_getElem.1 hx
      have := (hJ.back i hi).1
      rw [nth_lt hi] at this
      omega
    · have := good_order hl hJ h b.length i k hik (by omega) (by omega)
      rwa [nth_lt hi, nth_lt hk] at this

/-! Heights, along the places of the text. -/

/-- What is common to a place and the one ahead of it in the order. -/
def nAt (b O J : List Nat) (k : Nat) : Nat := if nth J k = 0 then 0 else com b (nth O (nth J k - 1)) k
/-- What is known of it ahead. -/
def nFrom (b O J : List Nat) : Nat → Nat
  | 0 => 0
  | k + 1 => nAt b O J k - 1

theorem nAt_le {b O J : List Nat} (h : Whole b.length (Ahead false b) O) (hJ : Of O J) {k : Nat} (hk : k < b.length) : nAt b O J k + k ≤ b.length := by
  unfold nAt
  split
  · omega
  · have hj := (hJ.at_ k (by rw [h.len]; exact hk)).1
    rw [h.len] at hj
    have := com_le b (nth O (nth J k - 1)) k (Nat.le_of_lt (Whole.at h (by omega))) (by omega)
    omega

theorem nFrom_le {b O J : List Nat} (h : Whole b.length (Ahead false b) O) (hJ : Of O J) {k : Nat} (hk : k < b.length) (h0 : nth J k ≠ 0) : nFrom b O J k ≤ com b (nth O (nth J k - 1)) k := by
  have hlen := h.len
  cases k with
  | zero => exact Nat.zero_le _
  | succ k =>
    show nAt b O J k - 1 ≤ _
    unfold nAt
    by_cases e : nth J k = 0
    · rw [if_pos e]; exact Nat.zero_le _
    rw [if_neg e]
    obtain ⟨j1, j2⟩ := hJ.at_ k (by omega)
    obtain ⟨j3, j4⟩ := hJ.at_ (k + 1) (by omega)
    have hp := Whole.at h (show nth J k - 1 < b.length by omega)
    have ha := Whole.lt h (show nth J k - 1 < nth J k by omega) (by omega)
    rw [j2] at ha
    obtain ⟨p, hpe⟩ : ∃ p, nth O (nth J k - 1) = p := ⟨_, rfl⟩
    rw [hpe] at ha hp ⊢
    by_cases hc : com b p k ≤ 1
    · omega
    have hne : p ≠ k := fun e => by subst e; exact Ahead.irrefl ha
    obtain ⟨l1, l2⟩ := com_val hp (by omega) hne
    have l3 := ahead_com hp (by omega) ha
    have hle := com_le b p k (by omega) (by omega)
    have hp1 : p + 1 < b.length := by omega
    obtain ⟨c, hcc⟩ : ∃ c, com b p k = c + 1 := ⟨com b p k - 1, by omega⟩
    rw [hcc] at l1 l2 l3 hle hc ⊢
    have hc1 : com b (p + 1) (k + 1) = c := com_is hp1 hk (fun i hi => by rw [val_next, val_next]; exact l1 _ (by omega)) (by rw [val_next, val_next]; exact l2)
    have ha1 : Ahead false b (p + 1) (k + 1) := (ahead_less hp1 hk).2 ⟨c + 1, c, by omega, fun i hi => by rw [val_next, val_next]; exact l1 _ (by omega), by rw [val_next, val_next]; exact l3⟩
    obtain ⟨j5, j6⟩ := hJ.at_ (p + 1) (by omega)
    have hlt : nth J (p + 1) < nth J (k + 1) := by
      rcases Nat.lt_trichotomy (nth J (p + 1)) (nth J (k + 1)) with g | g | g
      · exact g
      · rw [← g, j6] at j4
        omega
      · have h2 := Whole.lt h g (by omega)
        rw [j6, j4] at h2
        exact (ha1.asymm h2).elim
    have hq := Whole.at h (show nth J (k + 1) - 1 < b.length by omega)
    have haq := Whole.lt h (show nth J (k + 1) - 1 < nth J (k + 1) by omega) (by omega)
    rw [j4] at haq
    by_cases e2 : nth J (p + 1) = nth J (k + 1) - 1
    · rw [← e2, j6, hc1]; omega
    · have hpq := Whole.lt h (show nth J (p + 1) < nth J (k + 1) - 1 by omega) (by omega)
      rw [j6] at hpq
      have := com_between hp1 hq hk hpq haq
      omega

/-- The heights as far as k places have been told. -/
def hFill (b O : List Nat) (k : Nat) : List Nat := tab O.length fun i => if nth O i < k then hAt b O i else 0
theorem hFill_length (b O : List Nat) (k : Nat) : (hFill b O k).length = O.length := tab_length ..
theorem hFill_zero (b O : List Nat) : List.replicate O.length 0 = hFill b O 0 := tab_zeros _ _ fun v _ => by rw [if_neg (by omega)]
theorem hFill_end {b O : List Nat} (h : Whole b.length (Ahead false b) O) : hFill b O b.length = hts b O := tab_same _ _ _ fun v hv => by
  have := Whole.at h (show v < b.length by rw [← h.len]; exact hv)
  rw [if_pos this]
theorem hFill_step {b O J : List Nat} (hJ : Of O J) {k : Nat} (hk : k < O.length) : (hFill b O k).set (nth J k) (nAt b O J k) = hFill b O (k + 1) := by
  obtain ⟨h1, h2⟩ := hJ.at_ k hk
  refine tab_set _ _ _ _ _ ?_ fun v hv hne => ?_
  · rw [h2, if_pos (by omega)]
    unfold hAt nAt
    rw [h2]
  · have hne2 : nth O v ≠ k := fun e => by
      have := (hJ.back v hv).2
      rw [e] at this
      exact hne this.symm
    by_cases e : nth O v < k
    · rw [if_pos e, if_pos (by omega)]
    · rw [if_neg e, if_neg (by omega)]

/-- A height, and the byte behind what is common. -/
theorem hts_behind {b O : List Nat} (h : Whole b.length (Ahead false b) O) {i : Nat} (hi : i + 1 < b.length) :
    nth O (i + 1) + hAt b O (i + 1) < b.length ∧ nth O i + hAt b O (i + 1) ≤ b.length ∧ (nth O i + hAt b O (i + 1) < b.length → nth b (nth O i + hAt b O (i + 1)) < nth b (nth O (i + 1) + hAt b O (i + 1))) := by
  have e : hAt b O (i + 1) = com b (nth O i) (nth O (i + 1)) := by simp [hAt]
  rw [e]
  have hp := Whole.at h (show i < b.length by omega)
  have hq := Whole.at h hi
  have ha := ahead_com hp hq (Whole.lt h (show i < i + 1 by omega) hi)
  have hle := com_le b (nth O i) (nth O (i + 1)) (by omega) (by omega)
  generalize com b (nth O i) (nth O (i + 1)) = c at *
  have h1 : nth O (i + 1) + c < b.length := by
    apply Nat.lt_of_not_le
    intro h2
    rw [val_none (p := nth O (i + 1)) (j := c) (List.getElem?_eq_none h2)] at ha
    omega
  refine ⟨h1, hle.1, fun h2 => ?_⟩
  rw [val_some (List.getElem?_eq_getElem h1), val_some (List.getElem?_eq_getElem h2)] at ha
  rw [nth_lt h1, nth_lt h2]
  omega

end Go.Proofs.Ytfifkbadniekfaa.Lcp
