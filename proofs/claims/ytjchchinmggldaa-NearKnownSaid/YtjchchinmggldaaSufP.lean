/-
  Plain facts for layer 13: the order of a text's ends and rotations, by twice as many values at a time. No program. No conditions.
-/
import Derived.Test.YtjchchinmggldaaBits
namespace Go.Proofs.Ytjchchinmggldaa.Suf

/-- Where the text from a place on goes on so far behind it. -/
def beh (rot : Bool) (n p d : Nat) : Nat := if rot then (p + d) % n else min (p + d) n

/-- What stands so far behind a place: 0, where the text is over. -/
def val (rot : Bool) (b : List Nat) (p j : Nat) : Nat :=
  if rot then (if p < b.length then 1 + b.getD ((p + j) % b.length) 0 else 0) else if p + j < b.length then 1 + b.getD (p + j) 0 else 0

theorem beh_le (rot : Bool) (n p d : Nat) (h : p < n) : beh rot n p d ≤ n := by
  unfold beh
  cases rot
  · simp; omega
  · simp; exact Nat.le_of_lt (Nat.mod_lt _ (by omega))

theorem val_beh (rot : Bool) (b : List Nat) (p d j : Nat) (h : p < b.length) : val rot b (beh rot b.length p d) j = val rot b p (d + j) := by
  unfold val beh
  cases rot
  · simp only [Bool.false_eq_true, if_false]
    by_cases h1 : p + d ≤ b.length
    · rw [Nat.min_eq_left h1, Nat.add_assoc]
    · rw [Nat.min_eq_right (by omega), if_neg (by omega), if_neg (by omega)]
  · simp only [if_true]
    rw [if_pos (Nat.mod_lt _ (by omega)), if_pos h, Nat.mod_add_mod, Nat.add_assoc]

theorem val_end (rot : Bool) (b : List Nat) (j : Nat) : val rot b b.length j = 0 := by
  unfold val
  cases rot <;> simp

theorem val_first (rot : Bool) (b : List Nat) (p : Nat) (h : p < b.length) : val rot b p 0 = 1 + b[p] := by
  unfold val
  cases rot <;> simp [h, Nat.mod_eq_of_lt h]

/-- The first d are alike; or at the first place where they are not, a lesser one stands. -/
def Like (u v : Nat → Nat) (d : Nat) : Prop := ∀ i, i < d → u i = v i
def Less (u v : Nat → Nat) (d : Nat) : Prop := ∃ j, j < d ∧ (∀ i, i < j → u i = v i) ∧ u j < v j

theorem Like.rfl {u : Nat → Nat} {d : Nat} : Like u u d := fun _ _ => Eq.refl _
theorem Like.symm {u v : Nat → Nat} {d : Nat} (h : Like u v d) : Like v u d := fun i hi => (h i hi).symm
theorem Like.trans {u v x : Nat → Nat} {d : Nat} (h : Like u v d) (h' : Like v x d) : Like u x d := fun i hi => (h i hi).trans (h' i hi)
theorem Like.mono {u v : Nat → Nat} {d e : Nat} (h : Like u v d) (l : e ≤ d) : Like u v e := fun i hi => h i (by omega)
theorem Less.mono {u v : Nat → Nat} {d e : Nat} (h : Less u v d) (l : d ≤ e) : Less u v e := by
  obtain ⟨j, h1, h2⟩ := h
  exact ⟨j, by omega, h2⟩

theorem three (u v : Nat → Nat) (d : Nat) : Like u v d ∨ Less u v d ∨ Less v u d := by
  induction d with
  | zero => exact .inl fun i hi => absurd hi (by omega)
  | succ d ih =>
    rcases ih with h | h | h
    · rcases Nat.lt_trichotomy (u d) (v d) with h1 | h1 | h1
      · exact .inr (.inl ⟨d, by omega, h, h1⟩)
      · refine .inl fun i hi => ?_
        rcases Nat.lt_succ_iff_lt_or_eq.1 hi with h2 | rfl
        · exact h i h2
        · exact h1
      · exact .inr (.inr ⟨d, by omega, fun i hi => (h i hi).symm, h1⟩)
    · exact .inr (.inl (h.mono (by omega)))
    · exact .inr (.inr (h.mono (by omega)))

theorem Less.not_like {u v : Nat → Nat} {d : Nat} (h : Less u v d) : ¬ Like u v d := by
  obtain ⟨j, h1, h2, h3⟩ := h
  exact fun e => by have := e j h1; omega

theorem Less.not_like' {u v : Nat → Nat} {d : Nat} (h : Less u v d) : ¬ Like v u d := fun e => h.not_like e.symm

theorem Less.trans {u v x : Nat → Nat} {d e : Nat} (h : Less u v d) (h' : Less v x e) : Less u x (min d e) ∨ Less u x (max d e) := by
  obtain ⟨i, h1, h2, h3⟩ := h
  obtain ⟨j, g1, g2, g3⟩ := h'
  refine .inr ⟨min i j, by omega, fun k hk => (h2 k (by omega)).trans (g2 k (by omega)), ?_⟩
  rcases Nat.lt_trichotomy i j with hl | rfl | hl
  · rw [Nat.min_eq_left (by omega), ← g2 i hl]; exact h3
  · rw [Nat.min_self]; omega
  · rw [Nat.min_eq_right (by omega), h2 j hl]; exact g3

theorem Less.trans' {u v x : Nat → Nat} {d : Nat} (h : Less u v d) (h' : Less v x d) : Less u x d := by
  rcases h.trans h' with h | h <;> simpa using h

theorem Less.irrefl {u : Nat → Nat} {d : Nat} : ¬ Less u u d := fun h => h.not_like Like.rfl

theorem Less.asymm {u v : Nat → Nat} {d e : Nat} (h : Less u v d) (h' : Less v u e) : False := by
  rcases h.trans h' with h | h <;> exact h.irrefl

theorem Like.less {u v x : Nat → Nat} {d : Nat} (h : Like u v d) (h' : Less v x d) : Less u x d := by
  obtain ⟨j, g1, g2, g3⟩ := h'
  exact ⟨j, g1, fun i hi => (h i (by omega)).trans (g2 i hi), by rw [h j g1]; exact g3⟩

theorem Less.like {u v x : Nat → Nat} {d : Nat} (h : Less u v d) (h' : Like v x d) : Less u x d := by
  obtain ⟨j, g1, g2, g3⟩ := h
  exact ⟨j, g1, fun i hi => (g2 i hi).trans (h' i (by omega)), by rw [← h' j g1]; exact g3⟩

theorem like_add {u v : Nat → Nat} {d e : Nat} : Like u v (d + e) ↔ Like u v d ∧ Like (fun j => u (d + j)) (fun j => v (d + j)) e := by
  constructor
  · exact fun h => ⟨h.mono (by omega), fun i hi => h (d + i) (by omega)⟩
  · rintro ⟨h, g⟩ i hi
    by_cases h1 : i < d
    · exact h i h1
    · have := g (i - d) (by omega)
      simpa [show d + (i - d) = i by omega] using this

theorem less_add {u v : Nat → Nat} {d e : Nat} : Less u v (d + e) ↔ Less u v d ∨ Like u v d ∧ Less (fun j => u (d + j)) (fun j => v (d + j)) e := by
  constructor
  · rintro ⟨j, h1, h2, h3⟩
    by_cases h4 : j < d
    · exact .inl ⟨j, h4, h2, h3⟩
    · refine .inr ⟨fun i hi => h2 i (by omega), j - d, by omega, fun i hi => h2 _ (by omega), ?_⟩
      simpa [show d + (j - d) = j by omega] using h3
  · rintro (h | ⟨h, j, h1, h2, h3⟩)
    · exact h.mono (by omega)
    · refine ⟨d + j, by omega, fun i hi => ?_, h3⟩
      by_cases h4 : i < d
      · exact h i h4
      · have := h2 (i - d) (by omega)
        simpa [show d + (i - d) = i by omega] using this

/-- As many values as the text has bytes tell any two places apart that may be told apart. -/
theorem like_all (rot : Bool) (b : List Nat) (p q d : Nat) (hp : p < b.length) (hq : q < b.length) (hd : b.length ≤ d) (h : Like (val rot b p) (val rot b q) d) (e : Nat) : Like (val rot b p) (val rot b q) e := by
  cases rot
  · suffices p = q by subst this; exact Like.rfl
    rcases Nat.lt_trichotomy p q with hl | h1 | hl
    · have := h (b.length - q) (by omega)
      simp only [val, Bool.false_eq_true, if_false] at this
      rw [if_pos (by omega), if_neg (by omega)] at this
      omega
    · exact h1
    · have := h (b.length - p) (by omega)
      simp only [val, Bool.false_eq_true, if_false] at this
      rw [if_neg (by omega), if_pos (by omega)] at this
      omega
  · intro i _
    have := h (i % b.length) (Nat.lt_of_lt_of_le (Nat.mod_lt _ (by omega)) hd)
    simpa only [val, if_true, Nat.add_mod_mod] using this

/-- p stands ahead of q: its text is a lesser one, or it is the same, and p is. -/
def Ahead (rot : Bool) (b : List Nat) (p q : Nat) : Prop := Less (val rot b p) (val rot b q) b.length ∨ Like (val rot b p) (val rot b q) b.length ∧ p < q

theorem Ahead.irrefl {rot : Bool} {b : List Nat} {p : Nat} : ¬ Ahead rot b p p := by
  rintro (h | ⟨_, h⟩)
  · exact h.irrefl
  · omega

theorem Ahead.trans {rot : Bool} {b : List Nat} {p q r : Nat} (h : Ahead rot b p q) (h' : Ahead rot b q r) : Ahead rot b p r := by
  rcases h with h | ⟨h, l⟩ <;> rcases h' with h' | ⟨h', l'⟩
  · exact .inl (h.trans' h')
  · exact .inl (h.like h')
  · exact .inl (h.less h')
  · exact .inr ⟨h.trans h', by omega⟩

theorem Ahead.asymm {rot : Bool} {b : List Nat} {p q : Nat} (h : Ahead rot b p q) (h' : Ahead rot b q p) : False := (h.trans h').irrefl

theorem ahead_three (rot : Bool) (b : List Nat) (p q : Nat) (h : p ≠ q) : Ahead rot b p q ∨ Ahead rot b q p := by
  rcases three (val rot b p) (val rot b q) b.length with h1 | h1 | h1
  · rcases Nat.lt_or_gt_of_ne h with h2 | h2
    · exact .inl (.inr ⟨h1, h2⟩)
    · exact .inr (.inr ⟨h1.symm, h2⟩)
  · exact .inl (.inl h1)
  · exact .inr (.inl h1)

/-- A row of all numbers below n, in this order. -/
structure Whole (n : Nat) (R : Nat → Nat → Prop) (O : List Nat) : Prop where
  len : O.length = n
  mem : ∀ x ∈ O, x < n
  ord : O.Pairwise R

theorem Whole.nodup {n : Nat} {R : Nat → Nat → Prop} {O : List Nat} (h : Whole n R O) (hR : ∀ x, ¬ R x x) : O.Nodup := by
  refine h.ord.imp fun {a b} hab e => ?_
  subst e
  exact hR _ hab

theorem nodup_all : ∀ (n : Nat) (O : List Nat), O.Nodup → O.length = n → (∀ x ∈ O, x < n) → ∀ x, x < n → x ∈ O := by
  intro n
  induction n with
  | zero => intro O _ _ _ x hx; omega
  | succ n ih =>
    intro O hd hl hm x hx
    by_cases hn : n ∈ O
    · by_cases e : x = n
      · exact e ▸ hn
      · refine List.mem_of_mem_erase (ih (O.erase n) (hd.erase n) (by rw [List.length_erase_of_mem hn]; omega) ?_ x (by omega))
        intro y hy
        have h1 := hm y (List.mem_of_mem_erase hy)
        have h2 : y ≠ n := fun e => by subst e; exact absurd hy (hd.not_mem_erase)
        omega
    · exfalso
      have h1 : ∀ y ∈ O, y < n := fun y hy => by
        have := hm y hy
        have h2 : y ≠ n := fun e => hn (e ▸ hy)
        omega
      match O, hl with
      | a :: O', hl =>
        have h2 := ih O' (List.nodup_cons.1 hd).2 (by simpa using hl) (fun y hy => h1 y (List.mem_cons_of_mem _ hy)) a (h1 a (List.mem_cons_self ..))
        exact (List.nodup_cons.1 hd).1 h2

theorem Whole.all {n : Nat} {R : Nat → Nat → Prop} {O : List Nat} (h : Whole n R O) (hR : ∀ x, ¬ R x x) (x : Nat) (hx : x < n) : x ∈ O := nodup_all n O (h.nodup hR) h.len h.mem x hx

theorem pairwise_same {R : Nat → Nat → Prop} (ha : ∀ x y, R x y → R y x → False) : ∀ (X Y : List Nat), (∀ x, x ∈ X ↔ x ∈ Y) → X.Pairwise R → Y.Pairwise R → X = Y
  | [], [], _, _, _ => rfl
  | [], y :: Y, h, _, _ => absurd ((h y).2 (List.mem_cons_self ..)) (by simp)
  | x :: X, [], h, _, _ => absurd ((h x).1 (List.mem_cons_self ..)) (by simp)
  | x :: X, y :: Y, h, hX, hY => by
    have hX' := List.pairwise_cons.1 hX
    have hY' := List.pairwise_cons.1 hY
    have hxx : ∀ z, ¬ R z z := fun z hz => ha z z hz hz
    have e : x = y := by
      rcases List.mem_cons.1 ((h x).1 (List.mem_cons_self ..)) with e | h1
      · exact e
      · rcases List.mem_cons.1 ((h y).2 (List.mem_cons_self ..)) with e | h2
        · exact e.symm
        · exact (ha _ _ (hX'.1 _ h2) (hY'.1 _ h1)).elim
    subst e
    congr 1
    refine pairwise_same ha X Y (fun z => ⟨fun hz => ?_, fun hz => ?_⟩) hX'.2 hY'.2
    · rcases List.mem_cons.1 ((h z).1 (List.mem_cons_of_mem _ hz)) with e | h1
      · subst e; exact absurd (hX'.1 _ hz) (hxx _)
      · exact h1
    · rcases List.mem_cons.1 ((h z).2 (List.mem_cons_of_mem _ hz)) with e | h1
      · subst e; exact absurd (hY'.1 _ hz) (hxx _)
      · exact h1

/-- There is one such row. -/
theorem Whole.one {n : Nat} {R : Nat → Nat → Prop} {X Y : List Nat} (ha : ∀ x y, R x y → R y x → False) (hX : Whole n R X) (hY : Whole n R Y) : X = Y := by
  have hxx : ∀ z, ¬ R z z := fun z hz => ha z z hz hz
  exact pairwise_same ha X Y (fun x => ⟨fun h => hY.all hxx x (hX.mem x h), fun h => hX.all hxx x (hY.mem x h)⟩) hX.ord hY.ord

/-- Those of a row in order of a number that each has, like ones as they came. -/
def bucket (P : List Nat) (r : Nat → Nat) : Nat → List Nat
  | 0 => P.filter fun p => r p = 0
  | m + 1 => bucket P r m ++ P.filter fun p => r p = m + 1

/-- How many have a lesser number. -/
def low (P : List Nat) (r : Nat → Nat) (v : Nat) : Nat := (P.filter fun p => r p < v).length
/-- How many have this number. -/
def kin (P : List Nat) (r : Nat → Nat) (v : Nat) : Nat := (P.filter fun p => r p = v).length

theorem low_zero (P : List Nat) (r : Nat → Nat) : low P r 0 = 0 := by simp [low]
theorem low_succ (P : List Nat) (r : Nat → Nat) (v : Nat) : low P r (v + 1) = low P r v + kin P r v := by
  unfold low kin
  induction P with
  | nil => rfl
  | cons p P ih =>
    simp only [List.filter_cons]
    by_cases h1 : r p < v
    · simp [h1, show r p < v + 1 by omega, show ¬ r p = v by omega, ih]; omega
    · by_cases h2 : r p = v
      · simp [h2, ih]; omega
      · simp [h1, h2, show ¬ r p < v + 1 by omega, ih]

theorem low_mono (P : List Nat) (r : Nat → Nat) {v v' : Nat} (h : v ≤ v') : low P r v ≤ low P r v' := by
  obtain ⟨k, rfl⟩ := Nat.exists_eq_add_of_le h
  clear h
  induction k with
  | zero => exact Nat.le_refl _
  | succ k ih => have := low_succ P r (v + k); rw [← Nat.add_assoc]; omega

theorem bucket_length (P : List Nat) (r : Nat → Nat) (m : Nat) : (bucket P r m).length = low P r (m + 1) := by
  induction m with
  | zero => rw [low_succ, low_zero]; simp [bucket, kin]
  | succ m ih => rw [low_succ, bucket, List.length_append, ih]; rfl

theorem low_all (P : List Nat) (r : Nat → Nat) (m : Nat) (h : ∀ p ∈ P, r p < m) : low P r m = P.length := by
  unfold low
  rw [List.filter_eq_self.2 (by simpa using h)]

theorem bucket_mem (P : List Nat) (r : Nat → Nat) (m : Nat) (x : Nat) : x ∈ bucket P r m ↔ x ∈ P ∧ r x ≤ m := by
  induction m with
  | zero => simp [bucket]
  | succ m ih =>
    simp only [bucket, List.mem_append, ih, List.mem_filter, decide_eq_true_eq]
    constructor
    · rintro (⟨h, l⟩ | ⟨h, l⟩)
      · exact ⟨h, by omega⟩
      · exact ⟨h, by omega⟩
    · rintro ⟨h, l⟩
      by_cases e : r x = m + 1
      · exact .inr ⟨h, e⟩
      · exact .inl ⟨h, by omega⟩

theorem bucket_pairwise {R : Nat → Nat → Prop} (P : List Nat) (r : Nat → Nat) (m : Nat) (h : P.Pairwise R) : (bucket P r m).Pairwise fun p q => r p < r q ∨ r p = r q ∧ R p q := by
  have h1 : ∀ v, (P.filter fun p => r p = v).Pairwise fun p q => r p < r q ∨ r p = r q ∧ R p q := by
    intro v
    refine List.Pairwise.imp_of_mem (fun {a b} ha hb hab => ?_) (h.filter _)
    have ha' : r a = v := by simpa using (List.mem_filter.1 ha).2
    have hb' : r b = v := by simpa using (List.mem_filter.1 hb).2
    exact .inr ⟨by omega, hab⟩
  induction m with
  | zero => exact h1 0
  | succ m ih =>
    refine List.pairwise_append.2 ⟨ih, h1 _, fun a ha b hb => .inl ?_⟩
    have h2 := ((bucket_mem P r m a).1 ha).2
    have h3 : r b = m + 1 := by simpa using (List.mem_filter.1 hb).2
    omega

theorem bucket_whole {R : Nat → Nat → Prop} {n m : Nat} {P : List Nat} (r : Nat → Nat) (h : Whole n R P) (hr : ∀ p ∈ P, r p ≤ m) : Whole n (fun p q => r p < r q ∨ r p = r q ∧ R p q) (bucket P r m) :=
  ⟨by rw [bucket_length, low_all P r _ (fun p hp => by have := hr p hp; omega), h.len], fun x hx => h.mem x ((bucket_mem P r m x).1 hx).1, bucket_pairwise P r m h.ord⟩

theorem bucket_at (P : List Nat) (r : Nat → Nat) (v j : Nat) (hj : j < kin P r v) : ∀ m, v ≤ m → (bucket P r m)[low P r v + j]? = (P.filter fun p => r p = v)[j]? := by
  intro m
  induction m with
  | zero =>
    intro hv
    obtain rfl : v = 0 := by omega
    rw [low_zero, Nat.zero_add]; rfl
  | succ m ih =>
    intro hv
    by_cases e : v = m + 1
    · subst e
      rw [bucket, List.getElem?_append_right (by rw [bucket_length]; omega), bucket_length]
      congr 1
      omega
    · have h1 : low P r v + j < low P r (m + 1) := by
        have h2 := low_succ P r v
        have h3 := low_mono P r (show v + 1 ≤ m + 1 by omega)
        omega
      rw [bucket, List.getElem?_append_left (by rw [bucket_length]; exact h1)]
      exact ih (by omega)

theorem bucket_spot (P : List Nat) (r : Nat → Nat) (m i : Nat) (h : i < low P r (m + 1)) : ∃ v j, v ≤ m ∧ j < kin P r v ∧ i = low P r v + j := by
  induction m with
  | zero =>
    rw [low_succ, low_zero] at h
    exact ⟨0, i, Nat.le_refl _, by omega, by rw [low_zero]; omega⟩
  | succ m ih =>
    by_cases h1 : i < low P r (m + 1)
    · obtain ⟨v, j, h2, h3, h4⟩ := ih h1
      exact ⟨v, j, by omega, h3, h4⟩
    · rw [low_succ] at h
      exact ⟨m + 1, i - low P r (m + 1), Nat.le_refl _, by omega, by omega⟩

end Go.Proofs.Ytjchchinmggldaa.Suf
