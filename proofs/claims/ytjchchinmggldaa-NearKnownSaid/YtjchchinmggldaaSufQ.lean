/-
  Plain facts for layer 13: ranks of pairs in order; what a round by twice as many values makes of them; where no more is told apart. No program. No conditions.
-/
import Derived.Test.YtjchchinmggldaaSufP
namespace Go.Proofs.Ytjchchinmggldaa.Suf

/-- Pairs of numbers, one behind the other: the one ahead of the i-th, and how many kinds there are up to it. -/
def front (x : Nat → Nat × Nat) (i : Nat) : Nat × Nat := if i = 0 then (0, 0) else x (i - 1)
def kd (x : Nat → Nat × Nat) : Nat → Nat
  | 0 => 0
  | i + 1 => if x i = front x i then kd x i else kd x i + 1

theorem kd_step (x : Nat → Nat × Nat) (i : Nat) : kd x i ≤ kd x (i + 1) ∧ kd x (i + 1) ≤ kd x i + 1 := by
  simp only [kd]; split <;> omega

theorem kd_mono (x : Nat → Nat × Nat) {i j : Nat} (h : i ≤ j) : kd x i ≤ kd x j := by
  obtain ⟨k, rfl⟩ := Nat.exists_eq_add_of_le h
  clear h
  induction k with
  | zero => exact Nat.le_refl _
  | succ k ih => have := kd_step x (i + k); rw [← Nat.add_assoc]; omega

theorem kd_le (x : Nat → Nat × Nat) (i : Nat) : kd x i ≤ i := by
  induction i with
  | zero => exact Nat.le_refl _
  | succ i ih => have := kd_step x i; omega

theorem kd_far (x : Nat → Nat × Nat) (i k : Nat) : kd x (i + k) ≤ kd x i + k := by
  induction k with
  | zero => exact Nat.le_refl _
  | succ k ih => have := kd_step x (i + k); rw [← Nat.add_assoc]; omega

theorem kd_same (x : Nat → Nat × Nat) (i k : Nat) (h : kd x (i + 1) = kd x (i + k + 1)) : x i = x (i + k) := by
  induction k with
  | zero => rfl
  | succ k ih =>
    have h1 := kd_mono x (show i + 1 ≤ i + k + 1 by omega)
    have h2 := kd_step x (i + k + 1)
    rw [← Nat.add_assoc] at h ⊢
    rw [ih (by omega)]
    have h3 : kd x (i + k + 1 + 1) = kd x (i + k + 1) := by omega
    have h4 : x (i + k + 1) = front x (i + k + 1) := by
      by_cases e : x (i + k + 1) = front x (i + k + 1)
      · exact e
      · rw [kd, if_neg e] at h3; omega
    rw [h4]
    simp [front]

def PL (a b : Nat × Nat) : Prop := a.1 < b.1 ∨ a.1 = b.1 ∧ a.2 < b.2

theorem kd_like (x : Nat → Nat × Nat) (n i k : Nat) (hm : ∀ i j, i < j → j < n → PL (x i) (x j) ∨ x i = x j) (hk : i + k < n) (h : x i = x (i + k)) : kd x (i + 1) = kd x (i + k + 1) := by
  induction k with
  | zero => rfl
  | succ k ih =>
    rw [← Nat.add_assoc] at h ⊢
    have h1 : x (i + k) = x i := by
      by_cases e : k = 0
      · subst e; rfl
      have h2 := hm i (i + k) (by omega) (by omega)
      have h3 := hm (i + k) (i + k + 1) (by omega) (by omega)
      rw [← h] at h3
      rcases h2 with h2 | h2
      · rcases h3 with h3 | h3
        · unfold PL at h2 h3; omega
        · exact h3
      · exact h2.symm
    rw [ih (by omega) h1.symm, kd.eq_2 x (i + k + 1), if_pos]
    simp only [front, Nat.add_one_ne_zero, if_false, Nat.add_sub_cancel]
    rw [h1, h]

/-- In order by d values, like ones as they stand. -/
def By (rot : Bool) (b : List Nat) (d : Nat) (p q : Nat) : Prop := Less (val rot b p) (val rot b q) d ∨ Like (val rot b p) (val rot b q) d ∧ p < q

/-- f are ranks by d values, from 1 to K. -/
structure Rk (rot : Bool) (b : List Nat) (d K : Nat) (f : Nat → Nat) : Prop where
  last : f b.length = 0
  within : ∀ p, p < b.length → 1 ≤ f p ∧ f p ≤ K
  less : ∀ p q, p < b.length → q < b.length → (f p < f q ↔ Less (val rot b p) (val rot b q) d)
  onto : ∀ v, 1 ≤ v → v ≤ K → ∃ p, p < b.length ∧ f p = v
  full : b.length ≤ K → ∀ p q, p < b.length → q < b.length → f p = f q → p = q
  most : K ≤ b.length

theorem Rk.less' {rot : Bool} {b : List Nat} {d K : Nat} {f : Nat → Nat} (h : Rk rot b d K f) (hd : 1 ≤ d) (p q : Nat) (hp : p ≤ b.length) (hq : q ≤ b.length) : f p < f q ↔ Less (val rot b p) (val rot b q) d := by
  by_cases hq' : q = b.length
  · subst hq'
    rw [h.last]
    constructor
    · intro h; omega
    · rintro ⟨j, _, _, h3⟩; rw [val_end] at h3; omega
  · by_cases hp' : p = b.length
    · subst hp'
      rw [h.last]
      have h1 := h.within q (by omega)
      refine ⟨fun _ => ⟨0, by omega, fun i hi => absurd hi (by omega), ?_⟩, fun _ => by omega⟩
      rw [val_end, val_first _ _ _ (show q < b.length by omega)]; omega
    · exact h.less p q (by omega) (by omega)

theorem Rk.like' {rot : Bool} {b : List Nat} {d K : Nat} {f : Nat → Nat} (h : Rk rot b d K f) (hd : 1 ≤ d) (p q : Nat) (hp : p ≤ b.length) (hq : q ≤ b.length) : f p = f q ↔ Like (val rot b p) (val rot b q) d := by
  have h1 := h.less' hd p q hp hq
  have h2 := h.less' hd q p hq hp
  rcases three (val rot b p) (val rot b q) d with h3 | h3 | h3
  · refine ⟨fun _ => h3, fun _ => ?_⟩
    have : ¬ f p < f q := fun e => (h1.1 e).not_like h3
    have : ¬ f q < f p := fun e => (h2.1 e).not_like' h3
    omega
  · have := h1.2 h3
    exact ⟨fun e => by omega, fun e => absurd e h3.not_like⟩
  · have := h2.2 h3
    exact ⟨fun e => by omega, fun e => absurd e h3.not_like'⟩

/-- The ranks of the next round. -/
theorem rk_of {rot : Bool} {b : List Nat} {d : Nat} {O : List Nat} {a c f : Nat → Nat} {x : Nat → Nat × Nat}
    (hO : Whole b.length (fun p q => a p < a q ∨ a p = a q ∧ (c p < c q ∨ c p = c q ∧ p < q)) O) (ha : ∀ p, p < b.length → 1 ≤ a p)
    (hx : ∀ i (h : i < O.length), x i = (a O[i], c O[i])) (hf : ∀ i (h : i < O.length), f O[i] = kd x (i + 1)) (hn : f b.length = 0)
    (hL : ∀ p q, p < b.length → q < b.length → (Less (val rot b p) (val rot b q) d ↔ a p < a q ∨ a p = a q ∧ c p < c q)) :
    Rk rot b d (kd x b.length) f ∧ Whole b.length (By rot b d) O := by
  have hir : ∀ p, ¬ (a p < a p ∨ a p = a p ∧ (c p < c p ∨ c p = c p ∧ p < p)) := fun p h => by omega
  have hpw := List.pairwise_iff_getElem.1 hO.ord
  have hl := hO.len
  have hm : ∀ i j, i < j → j < b.length → PL (x i) (x j) ∨ x i = x j := by
    intro i j h1 h2
    have h3 := hpw i j (by omega) (by omega) h1
    rw [hx i (by omega), hx j (by omega)]
    rcases h3 with h3 | ⟨h3, h4 | ⟨h4, _⟩⟩
    · exact .inl (.inl h3)
    · exact .inl (.inr ⟨h3, h4⟩)
    · exact .inr (by rw [h3, h4])
  have h0 : 0 < b.length → kd x 1 = 1 := by
    intro h
    rw [kd, if_neg]
    · rfl
    · intro e
      have h1 := hx 0 (by omega)
      rw [e] at h1
      have h2 := ha O[0] (hO.mem _ (List.getElem_mem _))
      have h3 : (0, 0) = (a O[0], c O[0]) := h1
      simp only [Prod.mk.injEq] at h3
      omega
  have hat : ∀ p, p < b.length → ∃ i, ∃ h : i < O.length, O[i] = p := fun p hp => List.mem_iff_getElem.1 (hO.all hir p hp)
  have hPL : ∀ p q, p < b.length → q < b.length → (PL (a p, c p) (a q, c q) ↔ Less (val rot b p) (val rot b q) d) := fun p q hp hq => (hL p q hp hq).symm
  refine ⟨⟨hn, ?_, ?_, ?_, ?_, kd_le x _⟩, hl, hO.mem, ?_⟩
  · intro p hp
    obtain ⟨i, hi, rfl⟩ := hat p hp
    rw [hf i hi]
    have h1 := kd_mono x (show 1 ≤ i + 1 by omega)
    have h2 := kd_mono x (show i + 1 ≤ b.length by omega)
    have h3 := h0 (by omega)
    omega
  · intro p q hp hq
    obtain ⟨i, hi, rfl⟩ := hat p hp
    obtain ⟨j, hj, rfl⟩ := hat q hq
    rw [← hPL _ _ hp hq, ← hx i hi, ← hx j hj, hf i hi, hf j hj]
    constructor
    · intro h
      by_cases hij : i < j
      · rcases hm i j hij (by omega) with h1 | h1
        · exact h1
        · obtain ⟨k, rfl⟩ := Nat.exists_eq_add_of_le (Nat.le_of_lt hij)
          have := kd_like x b.length i k hm (by omega) h1
          omega
      · have := kd_mono x (show j + 1 ≤ i + 1 by omega)
        omega
    · intro h
      by_cases hij : i < j
      · have h1 := kd_mono x (show i + 1 ≤ j + 1 by omega)
        by_cases e : kd x (i + 1) = kd x (j + 1)
        · obtain ⟨k, rfl⟩ := Nat.exists_eq_add_of_le (Nat.le_of_lt hij)
          have := kd_same x i k e
          rw [this] at h
          unfold PL at h
          omega
        · omega
      · exfalso
        by_cases e : i = j
        · subst e; unfold PL at h; omega
        · rcases hm j i (by omega) (by omega) with h1 | h1
          · unfold PL at h h1; omega
          · rw [h1] at h; unfold PL at h; omega
  · intro v h1 h2
    have : ∀ m, m ≤ b.length → v ≤ kd x m → ∃ i, i < m ∧ kd x (i + 1) = v := by
      intro m
      induction m with
      | zero => intro _ h; rw [kd] at h; omega
      | succ m ih =>
        intro hm' h
        by_cases e : v ≤ kd x m
        · obtain ⟨i, h3, h4⟩ := ih (by omega) e
          exact ⟨i, by omega, h4⟩
        · have := kd_step x m
          exact ⟨m, by omega, by omega⟩
    obtain ⟨i, h3, h4⟩ := this _ (Nat.le_refl _) h2
    exact ⟨O[i]'(by omega), hO.mem _ (List.getElem_mem _), by rw [hf i (by omega), h4]⟩
  · intro hk p q hp hq e
    obtain ⟨i, hi, rfl⟩ := hat p hp
    obtain ⟨j, hj, rfl⟩ := hat q hq
    rw [hf i hi, hf j hj] at e
    have h1 : ∀ m, m ≤ b.length → kd x m = m := by
      intro m hm'
      have h2 := kd_far x m (b.length - m)
      have h3 := kd_le x m
      rw [show m + (b.length - m) = b.length by omega] at h2
      omega
    rw [h1 _ (by omega), h1 _ (by omega)] at e
    obtain rfl : i = j := by omega
    rfl
  · refine List.Pairwise.imp_of_mem (fun {p q} hp hq h => ?_) hO.ord
    have h1 := hL p q (hO.mem _ hp) (hO.mem _ hq)
    have h2 := hL q p (hO.mem _ hq) (hO.mem _ hp)
    rcases h with h | ⟨h, h' | ⟨h', h3⟩⟩
    · exact .inl (h1.2 (.inl h))
    · exact .inl (h1.2 (.inr ⟨h, h'⟩))
    · refine .inr ⟨?_, h3⟩
      rcases three (val rot b p) (val rot b q) d with h4 | h4 | h4
      · exact h4
      · have := h1.1 h4; omega
      · have := h2.1 h4; omega

/-- By twice as many. -/
theorem less_twice {rot : Bool} {b : List Nat} {d K : Nat} {f : Nat → Nat} (h : Rk rot b d K f) (hd : 1 ≤ d) (p q : Nat) (hp : p < b.length) (hq : q < b.length) :
    Less (val rot b p) (val rot b q) (d + d) ↔ f p < f q ∨ f p = f q ∧ f (beh rot b.length p d) < f (beh rot b.length q d) := by
  rw [less_add, h.less' hd p q (by omega) (by omega), h.like' hd p q (by omega) (by omega), h.less' hd _ _ (beh_le rot _ _ _ hp) (beh_le rot _ _ _ hq)]
  rw [show val rot b (beh rot b.length p d) = fun j => val rot b p (d + j) from funext fun j => val_beh rot b p d j hp, show val rot b (beh rot b.length q d) = fun j => val rot b q (d + j) from funext fun j => val_beh rot b q d j hq]

/-- By one. -/
theorem less_one (rot : Bool) (b : List Nat) (p q : Nat) (hp : p < b.length) (hq : q < b.length) : Less (val rot b p) (val rot b q) 1 ↔ 1 + b[p] < 1 + b[q] := by
  constructor
  · rintro ⟨j, h1, _, h3⟩
    obtain rfl : j = 0 := by omega
    rwa [val_first _ _ _ hp, val_first _ _ _ hq] at h3
  · intro h
    exact ⟨0, by omega, fun i hi => absurd hi (by omega), by rw [val_first _ _ _ hp, val_first _ _ _ hq]; exact h⟩

theorem less_len (rot : Bool) (b : List Nat) (p q d : Nat) (hp : p < b.length) (hq : q < b.length) (h : Less (val rot b p) (val rot b q) d) : Less (val rot b p) (val rot b q) b.length := by
  rcases three (val rot b p) (val rot b q) b.length with h1 | h1 | h1
  · exact absurd (like_all rot b p q _ hp hq (Nat.le_refl _) h1 d) h.not_like
  · exact h1
  · exact (h.asymm h1).elim

/-- Where no more values tell more apart, the order stands. -/
theorem order_done {rot : Bool} {b : List Nat} {d : Nat} {O : List Nat} (h : Whole b.length (By rot b d) O) (hd : ∀ p q, p < b.length → q < b.length → Like (val rot b p) (val rot b q) d → Like (val rot b p) (val rot b q) b.length) : Whole b.length (Ahead rot b) O := by
  refine ⟨h.len, h.mem, List.Pairwise.imp_of_mem (fun {p q} hp hq h' => ?_) h.ord⟩
  rcases h' with h' | ⟨h', l⟩
  · exact .inl (less_len rot b p q d (h.mem _ hp) (h.mem _ hq) h')
  · exact .inr ⟨hd p q (h.mem _ hp) (h.mem _ hq) h', l⟩

theorem By.irrefl {rot : Bool} {b : List Nat} {d p : Nat} : ¬ By rot b d p p := by
  rintro (h | ⟨_, h⟩)
  · exact h.irrefl
  · omega

/-- As many kinds as ahead: the ranks are the same. -/
theorem same_kinds {rot : Bool} {b : List Nat} {d K : Nat} {f g : Nat → Nat} {O : List Nat} (hf : Rk rot b d K f) (hg : Rk rot b (d + d) K g) (hO : Whole b.length (By rot b (d + d)) O) (p : Nat) (hp : p < b.length) : f p = g p := by
  have hl := hO.len
  have hpw := List.pairwise_iff_getElem.1 hO.ord
  have hat : ∀ p, p < b.length → ∃ i, ∃ h : i < O.length, O[i] = p := fun p hp => List.mem_iff_getElem.1 (hO.all (fun _ => By.irrefl) p hp)
  have hmem : ∀ i (h : i < O.length), O[i] < b.length := fun i h => hO.mem _ (List.getElem_mem _)
  have hG : ∀ i j (hi : i < O.length) (hj : j < O.length), i ≤ j → g O[i] ≤ g O[j] := by
    intro i j hi hj hij
    by_cases e : i = j
    · subst e; exact Nat.le_refl _
    have h1 := hpw i j hi hj (by omega)
    apply Nat.le_of_not_lt
    intro h2
    have h3 := (hg.less _ _ (hmem j hj) (hmem i hi)).1 h2
    rcases h1 with h1 | ⟨h1, _⟩
    · exact h1.asymm h3
    · exact h3.not_like' h1
  have hFl : ∀ i j (hi : i < O.length) (hj : j < O.length), f O[i] < f O[j] → g O[i] < g O[j] := by
    intro i j hi hj h
    have h1 := (hf.less _ _ (hmem i hi) (hmem j hj)).1 h
    exact (hg.less _ _ (hmem i hi) (hmem j hj)).2 (h1.mono (by omega))
  have hF : ∀ i j (hi : i < O.length) (hj : j < O.length), i ≤ j → f O[i] ≤ f O[j] := by
    intro i j hi hj hij
    apply Nat.le_of_not_lt
    intro h2
    have := hFl j i hj hi h2
    have := hG i j hi hj hij
    omega
  have hS : ∀ i (hi : i + 1 < O.length), f O[i + 1] ≤ f O[i] + 1 := by
    intro i hi
    apply Nat.le_of_not_lt
    intro h
    have h1 := hf.within O[i + 1] (hmem _ hi)
    obtain ⟨q, hq, e⟩ := hf.onto (f O[i] + 1) (by omega) (by omega)
    obtain ⟨j, hj, rfl⟩ := hat q hq
    by_cases hij : j ≤ i
    · have := hF j i hj (by omega) hij; omega
    · have := hF (i + 1) j hi hj (by omega); omega
  have hD : ∀ i k (hi : i + k < O.length), f O[i + k] + g (O[i]'(by omega)) ≤ g O[i + k] + f (O[i]'(by omega)) := by
    intro i k
    induction k with
    | zero => intro hi; simp only [Nat.add_zero]; omega
    | succ k ih =>
      intro hi
      have h1 := ih (by omega)
      have h2 := hS (i + k) (by omega)
      have h3 := hF (i + k) (i + k + 1) (by omega) (by omega) (by omega)
      have h4 := hG (i + k) (i + k + 1) (by omega) (by omega) (by omega)
      have h5 := hFl (i + k) (i + k + 1) (by omega) (by omega)
      simp only [← Nat.add_assoc]
      by_cases e : f O[i + k] < f O[i + k + 1]
      · have := h5 e; omega
      · omega
  obtain ⟨i, hi, rfl⟩ := hat p hp
  have hn : 0 < O.length := by omega
  have f0 : f O[0] = 1 := by
    have h1 := hf.within O[0] (hmem 0 hn)
    obtain ⟨q, hq, e⟩ := hf.onto 1 (by omega) (by omega)
    obtain ⟨j, hj, rfl⟩ := hat q hq
    have := hF 0 j hn hj (by omega)
    omega
  have g0 : g O[0] = 1 := by
    have h1 := hg.within O[0] (hmem 0 hn)
    obtain ⟨q, hq, e⟩ := hg.onto 1 (by omega) (by omega)
    obtain ⟨j, hj, rfl⟩ := hat q hq
    have := hG 0 j hn hj (by omega)
    omega
  have fn : f O[O.length - 1] = K := by
    have h1 := hf.within O[O.length - 1] (hmem _ (by omega))
    obtain ⟨q, hq, e⟩ := hf.onto K (by omega) (by omega)
    obtain ⟨j, hj, rfl⟩ := hat q hq
    have := hF j (O.length - 1) hj (by omega) (by omega)
    omega
  have gn := (hg.within O[O.length - 1] (hmem _ (by omega))).2
  have d1 := hD 0 i (by omega)
  have d2 := hD i (O.length - 1 - i) (by omega)
  simp only [Nat.zero_add, show i + (O.length - 1 - i) = O.length - 1 by omega] at d1 d2
  omega

/-- .. so no more values tell more apart. -/
theorem like_ever {rot : Bool} {b : List Nat} {d : Nat} (hd : 1 ≤ d) (h2 : ∀ p q, p < b.length → q < b.length → Like (val rot b p) (val rot b q) d → Like (val rot b p) (val rot b q) (d + d)) :
    ∀ e p q, p ≤ b.length → q ≤ b.length → Like (val rot b p) (val rot b q) d → Like (val rot b p) (val rot b q) e := by
  intro e
  induction e using Nat.strongRecOn with
  | ind e ih =>
    intro p q hp hq hl
    by_cases e1 : p = q
    · subst e1; exact Like.rfl
    have hp' : p < b.length := by
      by_cases e2 : p = b.length
      · subst e2
        have := hl 0 (by omega)
        rw [val_end, val_first _ _ _ (show q < b.length by omega)] at this
        omega
      · omega
    have hq' : q < b.length := by
      by_cases e2 : q = b.length
      · subst e2
        have := hl 0 (by omega)
        rw [val_end, val_first _ _ _ hp'] at this
        omega
      · omega
    by_cases e3 : e ≤ d
    · exact hl.mono e3
    obtain ⟨e', rfl⟩ := Nat.exists_eq_add_of_le (Nat.le_of_lt (Nat.lt_of_not_le e3))
    refine like_add.2 ⟨hl, ?_⟩
    have h3 := (like_add.1 (h2 p q hp' hq' hl)).2
    have ep : val rot b (beh rot b.length p d) = fun j => val rot b p (d + j) := funext fun j => val_beh rot b p d j hp'
    have eq : val rot b (beh rot b.length q d) = fun j => val rot b q (d + j) := funext fun j => val_beh rot b q d j hq'
    rw [← ep, ← eq] at h3 ⊢
    exact ih e' (by omega) _ _ (beh_le rot _ _ _ hp') (beh_le rot _ _ _ hq') h3

end Go.Proofs.Ytjchchinmggldaa.Suf
