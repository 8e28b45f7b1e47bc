/-
  Full codes, plain facts (no program): the greatest length stands twice; no length is above the number of words, less one. No conditions.
-/
import Derived.Test.YtpolbpjclklgbaaLimD
import Derived.Test.YtpolbpjclklgbaaLimC
namespace Go.Proofs.Ytpolbpjclklgbaa.Limit

def fill (L : Nat) (O : List Nat) : Nat := (O.map fun x => 2 ^ (L - x)).sum

theorem fill_cons (L x : Nat) (O : List Nat) : fill L (x :: O) = 2 ^ (L - x) + fill L O := rfl

theorem fill_perm {L : Nat} {O P : List Nat} (h : O.Perm P) : fill L O = fill L P := (h.map _).sum_nat

theorem max_of (O : List Nat) (h : O ≠ []) : ∃ m, m ∈ O ∧ ∀ x ∈ O, x ≤ m := by
  induction O with
  | nil => exact absurd rfl h
  | cons x O ih =>
    by_cases e : O = []
    · subst e; exact ⟨x, List.mem_cons_self, fun y hy => by rw [List.mem_singleton.1 hy]; exact Nat.le_refl _⟩
    · obtain ⟨m, h1, h2⟩ := ih e
      by_cases c : x ≤ m
      · exact ⟨m, List.mem_cons_of_mem _ h1, fun y hy => by
          rcases List.mem_cons.1 hy with rfl | hy
          · exact c
          · exact h2 y hy⟩
      · exact ⟨x, List.mem_cons_self, fun y hy => by
          rcases List.mem_cons.1 hy with rfl | hy
          · exact Nat.le_refl _
          · have := h2 y hy; omega⟩

theorem fill_dvd (L k : Nat) (O : List Nat) (h : ∀ x ∈ O, x ≤ k) : 2 ^ (L - k) ∣ fill L O := by
  induction O with
  | nil => exact ⟨0, rfl⟩
  | cons x O ih =>
    rw [fill_cons]
    exact Nat.dvd_add (Nat.pow_dvd_pow 2 (by have := h x List.mem_cons_self; omega)) (ih (fun y hy => h y (List.mem_cons_of_mem _ hy)))

theorem fill_pos (L : Nat) (O : List Nat) : O.length ≤ fill L O := by
  induction O with
  | nil => simp
  | cons x O ih => rw [fill_cons, List.length_cons]; have := Nat.two_pow_pos (L - x); omega

/-- The greatest length stands twice. -/
theorem twice {L : Nat} {O : List Nat} (hf : fill L O = 2 ^ L) (hL : ∀ x ∈ O, x ≤ L) (h2 : 2 ≤ O.length) : ∃ m R, 1 ≤ m ∧ m ≤ L ∧ O.Perm (m :: m :: R) ∧ ∀ x ∈ O, x ≤ m := by
  obtain ⟨m, h1, h3⟩ := max_of O (by rintro rfl; simp at h2)
  have hp := List.perm_cons_erase h1
  have hfe := fill_perm (L := L) hp
  rw [hf, fill_cons] at hfe
  have hne : 0 < fill L (O.erase m) := by
    have := fill_pos L (O.erase m)
    have := hp.length_eq
    rw [List.length_cons] at this
    omega
  have hm : 1 ≤ m := Nat.pos_of_ne_zero (by
    rintro rfl
    rw [Nat.sub_zero] at hfe
    omega)
  have hmL := hL m h1
  by_cases h4 : m ∈ O.erase m
  · exact ⟨m, (O.erase m).erase m, hm, hmL, hp.trans ((List.perm_cons_erase h4).cons m), h3⟩
  · exfalso
    have h5 := fill_dvd L (m - 1) (O.erase m) (fun x hx => by
      have a1 := h3 x (List.mem_of_mem_erase hx)
      have a2 : x ≠ m := by rintro rfl; exact h4 hx
      omega)
    have h6 : 2 ^ (L - (m - 1)) ∣ 2 ^ L := Nat.pow_dvd_pow 2 (by omega)
    rw [hfe] at h6
    have h7 := (Nat.dvd_add_iff_left h5).2 h6
    have h8 := Nat.le_of_dvd (Nat.two_pow_pos _) h7
    have h9 : 2 ^ (L - (m - 1)) = 2 * 2 ^ (L - m) := by
      rw [show L - (m - 1) = (L - m) + 1 from by omega, Nat.pow_succ, Nat.mul_comm]
    have := Nat.two_pow_pos (L - m)
    omega

/-- No length is above the number of words, less one. -/
theorem depth {L : Nat} : ∀ (n : Nat) (O : List Nat), O.length = n → fill L O = 2 ^ L → (∀ x ∈ O, x ≤ L) → ∀ x ∈ O, x + 1 ≤ n := by
  intro n
  induction n with
  | zero => intro O h _ _ x hx; rw [List.eq_nil_of_length_eq_zero h] at hx; cases hx
  | succ n ih =>
    intro O h hf hL x hx
    by_cases h1 : n = 0
    · subst h1
      obtain ⟨y, rfl⟩ : ∃ y, O = [y] := List.length_eq_one_iff.1 h
      have hxy := List.mem_singleton.1 hx
      subst hxy
      have hxL := hL x hx
      have e : 2 ^ (L - x) = 2 ^ L := by simpa [fill] using hf
      by_cases hx0 : x = 0
      · omega
      · have := Nat.pow_lt_pow_right (a := 2) (by omega) (show L - x < L by omega)
        omega
    · obtain ⟨m, R, m1, m2, hp, hm⟩ := twice hf hL (by omega)
      have hl := hp.length_eq
      have he := fill_perm (L := L) hp
      rw [hf, fill_cons, fill_cons] at he
      have e9 : 2 ^ (L - (m - 1)) = 2 * 2 ^ (L - m) := by
        rw [show L - (m - 1) = (L - m) + 1 from by omega, Nat.pow_succ, Nat.mul_comm]
      have := ih ((m - 1) :: R) (by simp only [List.length_cons] at hl ⊢; omega) (by rw [fill_cons, e9]; omega) (fun y hy => by
        rcases List.mem_cons.1 hy with rfl | hy
        · omega
        · exact hL y (hp.mem_iff.2 (List.mem_cons_of_mem _ (List.mem_cons_of_mem _ hy)))) (m - 1) List.mem_cons_self
      have := hm x hx
      omega

def best (F : List Nat) (L : Nat) : Nat := cost F (lengths F (rare F) L)

theorem pos_self {F : List Nat} (h : ∀ x ∈ F, 0 < x) : pos F = F := List.filter_eq_self.2 (fun x hx => by simpa using h x hx)

theorem best_perm {F G : List Nat} (h : F.Perm G) (L : Nat) : best F L = best G L :=
  cost_one (rare_is F) (rare_is G) (h.filter _) L

/-- A choice for a row of weights above 0, of two words or more: a row of lengths that fills. -/
theorem choice_fill {F O : List Nat} {L : Nat} (hF : ∀ x ∈ F, 0 < x) (h2 : 2 ≤ F.length) : Choice F L O ↔ O.length = F.length ∧ (∀ x ∈ O, 1 ≤ x ∧ x ≤ L) ∧ fill L O = 2 ^ L := by
  have hp := pos_self hF
  constructor
  · intro h
    have h1 : ∀ x ∈ O, 1 ≤ x ∧ x ≤ L := fun x hx => by
      obtain ⟨i, hi, rfl⟩ := nth_mem hx
      have hl := h.length
      exact ⟨(h.some i (by omega)).2 (by rw [nth_lt (by omega)]; exact hF _ (List.getElem_mem _)), h.limit i (by omega)⟩
    exact ⟨h.length, h1, by rw [fill, ← kraft_map _ _ (fun x hx => (h1 x hx).1)]; exact h.full (by rw [hp]; exact h2)⟩
  · rintro ⟨h1, h3, h4⟩
    have hm : ∀ i, i < F.length → 1 ≤ nth O i ∧ nth O i ≤ L := fun i hi => by
      rw [nth_lt (by omega)]; exact h3 _ (List.getElem_mem _)
    exact ⟨h1, fun i hi => ⟨fun _ => by rw [nth_lt hi]; exact hF _ (List.getElem_mem _), fun _ => (hm i hi).1⟩, fun i hi => (hm i hi).2, fun _ => by
      rw [kraft_map _ _ (fun x hx => (h3 x hx).1)]; exact h4, fun h5 => by rw [hp] at h5; omega⟩

theorem two_halves {L x : Nat} (h : x + 1 ≤ L) : 2 ^ (L - x) = 2 * 2 ^ (L - (x + 1)) := by
  rw [show L - x = (L - (x + 1)) + 1 from by omega, Nat.pow_succ, Nat.mul_comm]

theorem few_of (n : Nat) {L : Nat} (h : n ≤ L) : n ≤ 2 ^ L := Nat.le_trans h (Nat.le_of_lt Nat.lt_two_pow_self)

/-- Putting two together: no more. -/
theorem best_le {a b : Nat} {R : List Nat} {L : Nat} (h0 : ∀ x ∈ a :: b :: R, 0 < x) (hR : 1 ≤ R.length) (hL : R.length + 2 ≤ L) : best (a :: b :: R) L ≤ a + b + best ((a + b) :: R) L := by
  have h1 : ∀ x ∈ (a + b) :: R, 0 < x := fun x hx => by
    rcases List.mem_cons.1 hx with rfl | hx
    · have := h0 a List.mem_cons_self; omega
    · exact h0 x (List.mem_cons_of_mem _ (List.mem_cons_of_mem _ hx))
  have hr := rare_is ((a + b) :: R)
  have hc := lengths_choice hr (L := L) (by omega) (by rw [pos_perm_length hr, pos_self h1]; exact few_of _ (by simp only [List.length_cons]; omega))
  unfold best
  generalize lengths ((a + b) :: R) (rare ((a + b) :: R)) L = O at hc ⊢
  obtain ⟨q1, q2, q3⟩ := (choice_fill h1 (by simp only [List.length_cons]; omega)).1 hc
  cases O with
  | nil => simp at q1
  | cons x O =>
    have hd := depth _ _ rfl q3 (fun y hy => (q2 y hy).2) x List.mem_cons_self
    simp only [List.length_cons] at hd q1
    have hx := q2 x List.mem_cons_self
    have hr2 := rare_is (a :: b :: R)
    have hC : Choice (a :: b :: R) L ((x + 1) :: (x + 1) :: O) := (choice_fill h0 (by simp only [List.length_cons]; omega)).2 ⟨by simp only [List.length_cons]; omega, fun y hy => by
      rcases List.mem_cons.1 hy with rfl | hy
      · omega
      · rcases List.mem_cons.1 hy with rfl | hy
        · omega
        · exact q2 y (List.mem_cons_of_mem _ hy), by
      rw [fill_cons, fill_cons, ← q3, fill_cons, two_halves (L := L) (x := x) (by omega)]; omega⟩
    have := lengths_best hr2 (L := L) (by omega) (by rw [pos_perm_length hr2, pos_self h0]; exact few_of _ (by simp only [List.length_cons]; omega)) hC
    rw [cost_cons, cost_cons] at this
    rw [cost_cons]
    have e1 : a * (x + 1) = a * x + a := Nat.mul_succ a x
    have e2 : b * (x + 1) = b * x + b := Nat.mul_succ b x
    have e3 : (a + b) * x = a * x + b * x := Nat.add_mul a b x
    omega

/-- Putting the two rarest together: no less. -/
theorem best_ge {a b : Nat} {R : List Nat} {L : Nat} (h0 : ∀ x ∈ a :: b :: R, 0 < x) (hU : (a :: b :: R).Pairwise (· ≤ ·)) (hR : 1 ≤ R.length) (hL : R.length + 2 ≤ L) : a + b + best ((a + b) :: R) L ≤ best (a :: b :: R) L := by
  have h1 : ∀ x ∈ (a + b) :: R, 0 < x := fun x hx => by
    rcases List.mem_cons.1 hx with rfl | hx
    · have := h0 a List.mem_cons_self; omega
    · exact h0 x (List.mem_cons_of_mem _ (List.mem_cons_of_mem _ hx))
  have hr := rare_range hU h0
  have e : best (a :: b :: R) L = cost (a :: b :: R) (lengths (a :: b :: R) (List.range (a :: b :: R).length) L) := cost_one (rare_is _) hr (List.Perm.refl _) L
  rw [e]
  clear e
  have hch := lengths_choice hr (L := L) (by omega) (by rw [List.length_range]; exact few_of _ (by simp only [List.length_cons]; omega))
  have hat := fun i (hi : i < (List.range (a :: b :: R).length).length) => lengths_at hr L hi
  generalize lengths (a :: b :: R) (List.range (a :: b :: R).length) L = O at *
  obtain ⟨q1, q2, q3⟩ := (choice_fill h0 (by simp only [List.length_cons]; omega)).1 hch
  have hfall : O.Pairwise (fun x y => y ≤ x) := List.pairwise_iff_getElem.2 fun i j hi hj hij => by
    have a1 := hat i (by rw [List.length_range]; omega)
    have a2 := hat j (by rw [List.length_range]; omega)
    rw [List.getElem_range] at a1 a2
    rw [← nth_lt hi, ← nth_lt hj, a1, a2]
    exact lenAt_falls _ (by omega)
  clear hat hch hr
  obtain ⟨m, R2, m1, m2, hp, hm⟩ := twice q3 (fun x hx => (q2 x hx).2) (by rw [q1]; simp only [List.length_cons]; omega)
  match O, q1, q2, q3, hfall, hp, hm with
  | x :: y :: O, q1, q2, q3, hfall, hp, hm =>
    obtain ⟨f1, f2⟩ := List.pairwise_cons.1 hfall
    obtain ⟨f3, _⟩ := List.pairwise_cons.1 f2
    have hx : x = m := by
      have a1 := hm x List.mem_cons_self
      rcases List.mem_cons.1 (hp.mem_iff.2 List.mem_cons_self) with h | h
      · exact h.symm
      · have := f1 m h; omega
    subst hx
    have hp2 := hp.cons_inv
    have hy : y = x := by
      have a1 := f1 y List.mem_cons_self
      rcases List.mem_cons.1 (hp2.mem_iff.2 List.mem_cons_self) with h | h
      · exact h.symm
      · have := f3 x h; omega
    subst hy
    simp only [List.length_cons] at q1
    have hO := fill_pos L O
    rw [fill_cons, fill_cons] at q3
    have hy2 : 2 ≤ y := by
      refine Nat.le_of_not_lt fun c => ?_
      obtain rfl : y = 1 := by omega
      have := two_halves (L := L) (x := 0) (by omega)
      simp only [Nat.sub_zero, Nat.zero_add] at this
      omega
    obtain ⟨z, rfl⟩ : ∃ z, y = z + 1 := ⟨y - 1, by omega⟩
    have hC : Choice ((a + b) :: R) L (z :: O) := (choice_fill h1 (by simp only [List.length_cons]; omega)).2 ⟨by simp only [List.length_cons]; omega, fun w hw => by
      rcases List.mem_cons.1 hw with rfl | hw
      · omega
      · exact q2 w (List.mem_cons_of_mem _ (List.mem_cons_of_mem _ hw)), by
      rw [fill_cons, two_halves (L := L) (x := z) (by omega)]; omega⟩
    have hr2 := rare_is ((a + b) :: R)
    have hb : best ((a + b) :: R) L ≤ cost ((a + b) :: R) (z :: O) := lengths_best hr2 (L := L) (by omega) (by rw [pos_perm_length hr2, pos_self h1]; exact few_of _ (by simp only [List.length_cons]; omega)) hC
    rw [cost_cons] at hb
    rw [cost_cons, cost_cons]
    have e1 : a * (z + 1) = a * z + a := Nat.mul_succ a z
    have e2 : b * (z + 1) = b * z + b := Nat.mul_succ b z
    have e3 : (a + b) * z = a * z + b * z := Nat.add_mul a b z
    omega

theorem in_order (R : List Nat) : ∃ Q : List Nat, Q.Perm R ∧ Q.Pairwise (· ≤ ·) := by
  have hr := rare_is (R.map (· + 1))
  have hpos : pos (R.map (· + 1)) = R.map (· + 1) := pos_self (fun x hx => by obtain ⟨y, _, rfl⟩ := List.mem_map.1 hx; omega)
  refine ⟨((rare (R.map (· + 1))).map (nth (R.map (· + 1)))).map (· - 1), ?_, hr.up.map _ (fun a b h => by omega)⟩
  have := (hr.weights.map (· - 1))
  rw [hpos] at this
  refine this.trans (List.Perm.of_eq ?_)
  rw [List.map_map]
  conv => rhs; rw [← List.map_id R]
  exact List.map_congr_left fun x _ => by simp

/-- PUTTING TOGETHER: the two least frequencies, put together; their sum is what it costs. -/
theorem best_step {F R : List Nat} {a b L : Nat} (hp : F.Perm (a :: b :: R)) (h0 : ∀ x ∈ F, 0 < x) (hm : ∀ x ∈ R, a ≤ x ∧ b ≤ x) (hR : 1 ≤ R.length) (hL : R.length + 2 ≤ L) : best F L = a + b + best ((a + b) :: R) L := by
  obtain ⟨Q, hQ, hU⟩ := in_order R
  have hl := hQ.length_eq
  have key : ∀ a b : Nat, a ≤ b → F.Perm (a :: b :: R) → (∀ x ∈ R, a ≤ x ∧ b ≤ x) → best F L = a + b + best ((a + b) :: R) L := by
    intro a b hab hp hm
    have hp2 : F.Perm (a :: b :: Q) := hp.trans ((hQ.symm.cons b).cons a)
    have h2 : ∀ x ∈ a :: b :: Q, 0 < x := fun x hx => h0 x (hp2.mem_iff.2 hx)
    have hU2 : (a :: b :: Q).Pairwise (· ≤ ·) := List.pairwise_cons.2 ⟨fun x hx => by
      rcases List.mem_cons.1 hx with rfl | hx
      · exact hab
      · exact (hm x (hQ.mem_iff.1 hx)).1, List.pairwise_cons.2 ⟨fun x hx => (hm x (hQ.mem_iff.1 hx)).2, hU⟩⟩
    rw [best_perm hp2, ← best_perm (hQ.cons (a + b))]
    exact Nat.le_antisymm (best_le h2 (by omega) (by omega)) (best_ge h2 hU2 (by omega) (by omega))
  by_cases hab : a ≤ b
  · exact key a b hab hp hm
  · have := key b a (by omega) (hp.trans (List.Perm.swap b a R)) (fun x hx => ⟨(hm x hx).2, (hm x hx).1⟩)
    rw [this, Nat.add_comm b a]

theorem best_two {F : List Nat} {a b L : Nat} (hp : F.Perm [a, b]) (ha : 0 < a) (hb : 0 < b) (hL : 2 ≤ L) : best F L = a + b := by
  rw [best_perm hp]
  have h0 : ∀ x ∈ [a, b], 0 < x := fun x hx => by
    simp only [List.mem_cons, List.not_mem_nil, or_false] at hx
    rcases hx with rfl | rfl
    · exact ha
    · exact hb
  have hr := rare_is [a, b]
  have hc := lengths_choice hr (L := L) (by omega) (by rw [pos_perm_length hr, pos_self h0]; exact few_of _ (by simp only [List.length_cons, List.length_nil]; omega))
  unfold best
  generalize lengths [a, b] (rare [a, b]) L = O at hc ⊢
  obtain ⟨q1, q2, q3⟩ := (choice_fill h0 (by simp)).1 hc
  match O, q1, q2, q3 with
  | [x, y], q1, q2, q3 =>
    have hd := depth 2 [x, y] rfl q3 (fun z hz => (q2 z hz).2)
    have a1 := hd x (by simp)
    have a2 := hd y (by simp)
    have a3 := q2 x (by simp)
    have a4 := q2 y (by simp)
    obtain rfl : x = 1 := by omega
    obtain rfl : y = 1 := by omega
    simp [cost, nth, Kraft.sumTo]

end Go.Proofs.Ytpolbpjclklgbaa.Limit
