/-
  The least cost level by level (no program): a table by the levels that are left, and lengths. No conditions.
-/
import Derived.Test.YtpolbpjclklgbaaLimR
namespace Go.Proofs.Ytpolbpjclklgbaa.Limit

def none_ : Nat := 4611686018427387904

/-- The least of what there is. -/
def least (t : Nat → Option Nat) (m : Nat) : Nat := (List.range m).foldl (fun b i => match t i with | none => b | some c => min b c) none_

theorem least_succ (t : Nat → Option Nat) (m : Nat) : least t (m + 1) = match t m with | none => least t m | some c => min (least t m) c := by
  unfold least; rw [List.range_succ, List.foldl_append]; rfl

theorem least_le (t : Nat → Option Nat) (m i c : Nat) (hi : i < m) (h : t i = some c) : least t m ≤ c := by
  induction m with
  | zero => omega
  | succ m ih =>
    rw [least_succ]
    by_cases e : i = m
    · subst e; rw [h]; exact Nat.min_le_right _ _
    · have := ih (by omega)
      cases t m with
      | none => exact this
      | some d => exact Nat.le_trans (Nat.min_le_left _ _) this

theorem least_is (t : Nat → Option Nat) (m : Nat) (h : least t m < none_) : ∃ i, i < m ∧ t i = some (least t m) := by
  induction m with
  | zero => exact absurd h (by unfold least; simp)
  | succ m ih =>
    rw [least_succ] at h ⊢
    cases e : t m with
    | none =>
      rw [e] at h
      obtain ⟨i, h1, h2⟩ := ih h
      exact ⟨i, by omega, h2⟩
    | some d =>
      rw [e] at h
      by_cases c : least t m ≤ d
      · have c2 : min (least t m) d = least t m := Nat.min_eq_left c
        simp only [c2] at h ⊢
        obtain ⟨i, h1, h2⟩ := ih h
        exact ⟨i, by omega, h2⟩
      · have c2 : min (least t m) d = d := Nat.min_eq_right (by omega)
        simp only [c2]
        exact ⟨m, by omega, e⟩

/-- One place of the table: n symbols in all, W those that are left, o open places. -/
def term (n : Nat) (below : List Nat → Nat → Nat) (last : Bool) (W : List Nat) (o t : Nat) : Option Nat :=
  if last then (if o - t = 0 ∧ t = W.length then some W.sum else none)
  else if n + 1 < 2 * (o - t) then none
  else if below (W.drop t) (2 * (o - t)) < none_ then some (W.sum + below (W.drop t) (2 * (o - t))) else none

def onePlace (n : Nat) (below : List Nat → Nat → Nat) (last : Bool) (W : List Nat) (o : Nat) : Nat :=
  if W.length = 0 then (if o = 0 then 0 else none_)
  else if o = 0 ∨ W.length < o then none_
  else least (term n below last W o) (o + 1)

def table (n : Nat) : Nat → List Nat → Nat → Nat
  | 0 => onePlace n (fun _ _ => none_) true
  | d + 1 => onePlace n (table n d) false

/-- Lengths of the symbols that are left: d + 1 levels, o open places. -/
def Way (d : Nat) (W : List Nat) (o c : Nat) (l : List Nat) : Prop :=
  l.length = W.length ∧ (∀ x ∈ l, 1 ≤ x ∧ x ≤ d + 1) ∧ (l.map fun x => 2 ^ (d + 1 - x)).sum = o * 2 ^ d ∧ (List.zipWith (· * ·) W l).sum = c

theorem zip_ones (W : List Nat) : (List.zipWith (· * ·) W (List.replicate W.length 1)).sum = W.sum := by
  induction W with
  | nil => rfl
  | cons w W ih => simp [List.replicate_succ, ih]

theorem zip_up (W l : List Nat) (h : l.length = W.length) : (List.zipWith (· * ·) W (l.map (· + 1))).sum = W.sum + (List.zipWith (· * ·) W l).sum := by
  induction W generalizing l with
  | nil => simp
  | cons w W ih =>
    cases l with
    | nil => simp at h
    | cons x l =>
      have := ih l (by simpa using h)
      simp only [List.map_cons, List.zipWith_cons_cons, List.sum_cons, this, Nat.mul_add, Nat.mul_one]
      omega

theorem zip_split (W l : List Nat) (t : Nat) (ht : t ≤ W.length) : (List.zipWith (· * ·) W (List.replicate t 1 ++ l)).sum = (W.take t).sum + (List.zipWith (· * ·) (W.drop t) l).sum := by
  induction t generalizing W with
  | zero => simp
  | succ t ih =>
    cases W with
    | nil => simp at ht
    | cons w W =>
      have := ih W (by simpa using ht)
      simp only [List.replicate_succ, List.cons_append, List.zipWith_cons_cons, List.sum_cons, this, List.take_succ_cons, List.drop_succ_cons, Nat.mul_one]
      omega

theorem sum_parts (W : List Nat) (t : Nat) : (W.take t).sum + (W.drop t).sum = W.sum := by
  rw [← List.sum_append, List.take_append_drop]

theorem sum_ones (t k : Nat) : ((List.replicate t 1).map fun x => 2 ^ (k - x)).sum = t * 2 ^ (k - 1) := by
  induction t with
  | zero => simp
  | succ t ih => rw [List.replicate_succ, List.map_cons, List.sum_cons, ih, Nat.succ_mul]; omega

/-- What the table says is what some lengths cost. -/
theorem way_of (n : Nat) : ∀ (d : Nat) (W : List Nat) (o : Nat), table n d W o < none_ → ∃ l, Way d W o (table n d W o) l := by
  intro d
  induction d with
  | zero =>
    intro W o h
    have e : table n 0 W o = onePlace n (fun _ _ => none_) true W o := rfl
    rw [e] at h ⊢
    unfold onePlace at h ⊢
    by_cases h0 : W.length = 0
    · rw [if_pos h0] at h ⊢
      by_cases ho : o = 0
      · rw [if_pos ho]
        exact ⟨[], by simp [h0], by simp, by simp [ho], by simp⟩
      · rw [if_neg ho] at h; omega
    · rw [if_neg h0] at h ⊢
      by_cases h1 : o = 0 ∨ W.length < o
      · rw [if_pos h1] at h; omega
      · rw [if_neg h1] at h ⊢
        obtain ⟨t, ht, e1⟩ := least_is _ _ h
        generalize least _ _ = c at e1 h ⊢
        unfold term at e1
        rw [if_pos rfl] at e1
        split at e1
        · rename_i h2
          obtain rfl := Option.some.inj e1
          obtain ⟨h3, rfl⟩ := h2
          have ho : o = W.length := by omega
          refine ⟨List.replicate W.length 1, by simp, fun x hx => ?_, ?_, zip_ones W⟩
          · rw [(List.mem_replicate.1 hx).2]; omega
          · rw [sum_ones, ho]
        · cases e1
  | succ d ih =>
    intro W o h
    have e : table n (d + 1) W o = onePlace n (table n d) false W o := rfl
    rw [e] at h ⊢
    unfold onePlace at h ⊢
    by_cases h0 : W.length = 0
    · rw [if_pos h0] at h ⊢
      by_cases ho : o = 0
      · rw [if_pos ho]
        exact ⟨[], by simp [h0], by simp, by simp [ho], by simp⟩
      · rw [if_neg ho] at h; omega
    · rw [if_neg h0] at h ⊢
      by_cases h1 : o = 0 ∨ W.length < o
      · rw [if_pos h1] at h; omega
      · rw [if_neg h1] at h ⊢
        obtain ⟨t, ht, e1⟩ := least_is _ _ h
        generalize least _ _ = c at e1 h ⊢
        unfold term at e1
        simp only [Bool.false_eq_true, if_false] at e1
        split at e1
        · cases e1
        · split at e1
          · rename_i h2 h3
            obtain rfl := Option.some.inj e1
            obtain ⟨l, q1, q2, q3, q4⟩ := ih _ _ h3
            rw [List.length_drop] at q1
            refine ⟨List.replicate t 1 ++ l.map (· + 1), by simp; omega, fun x hx => ?_, ?_, ?_⟩
            · rcases List.mem_append.1 hx with hx | hx
              · rw [(List.mem_replicate.1 hx).2]; omega
              · obtain ⟨y, hy, rfl⟩ := List.mem_map.1 hx
                have := q2 y hy
                omega
            · rw [List.map_append, List.sum_append, sum_ones, List.map_map]
              have e2 : (l.map ((fun x => 2 ^ (d + 1 + 1 - x)) ∘ (· + 1))).sum = (l.map fun x => 2 ^ (d + 1 - x)).sum := by
                congr 1
                exact List.map_congr_left fun x _ => by simp only [Function.comp]; congr 1; omega
              rw [e2, q3, Nat.add_sub_cancel, Nat.mul_comm 2, Nat.mul_assoc, ← Nat.pow_succ', ← Nat.add_mul]
              congr 1
              omega
            · rw [zip_split _ _ _ (by omega), zip_up _ _ (by rw [List.length_drop]; exact q1), q4, ← Nat.add_assoc, sum_parts]
          · cases e1

/-- Rising lengths: the ones, and the rest. -/
theorem ones_first (l : List Nat) (hr : l.Pairwise (· ≤ ·)) (h1 : ∀ x ∈ l, 1 ≤ x) : ∃ (t : Nat) (r : List Nat), l = List.replicate t 1 ++ r.map (· + 1) ∧ (∀ x ∈ r, 1 ≤ x) ∧ r.Pairwise (· ≤ ·) := by
  induction l with
  | nil => exact ⟨0, [], rfl, by simp, .nil⟩
  | cons x l ih =>
    obtain ⟨hx, hr2⟩ := List.pairwise_cons.1 hr
    by_cases e : x = 1
    · subst e
      obtain ⟨t, r, q1, q2, q3⟩ := ih hr2 (fun y hy => h1 y (List.mem_cons_of_mem _ hy))
      exact ⟨t + 1, r, by rw [List.replicate_succ, List.cons_append, ← q1], q2, q3⟩
    · have hx1 := h1 x List.mem_cons_self
      have h2 : ∀ y ∈ x :: l, 2 ≤ y := fun y hy => by
        rcases List.mem_cons.1 hy with rfl | hy
        · omega
        · have := hx y hy; omega
      refine ⟨0, (x :: l).map (· - 1), ?_, fun y hy => ?_, ?_⟩
      · rw [List.replicate_zero, List.nil_append, List.map_map]
        conv => lhs; rw [← List.map_id (x :: l)]
        exact List.map_congr_left fun y hy => by
          have := h2 y hy
          simp only [Function.comp, id]
          omega
      · obtain ⟨z, hz, rfl⟩ := List.mem_map.1 hy
        have := h2 z hz
        omega
      · refine List.Pairwise.map _ (fun a b hab => ?_) hr
        omega

theorem sum_le_of (l : List Nat) (f : Nat → Nat) (b : Nat) (h : ∀ x ∈ l, f x ≤ b) : (l.map f).sum ≤ l.length * b := by
  induction l with
  | nil => simp
  | cons x l ih =>
    have h1 := h x List.mem_cons_self
    have h2 := ih (fun y hy => h y (List.mem_cons_of_mem _ hy))
    rw [List.map_cons, List.sum_cons, List.length_cons, Nat.succ_mul]
    omega

theorem open_le {d o : Nat} {l : List Nat} (h1 : ∀ x ∈ l, 1 ≤ x) (h : (l.map fun x => 2 ^ (d + 1 - x)).sum = o * 2 ^ d) : o ≤ l.length := by
  have := sum_le_of l (fun x => 2 ^ (d + 1 - x)) (2 ^ d) (fun x hx => Nat.pow_le_pow_right (by omega) (by have := h1 x hx; omega))
  rw [h] at this
  exact Nat.le_of_mul_le_mul_right this (Nat.two_pow_pos d)

/-- Rising lengths cost no less than the table says. -/
theorem table_le (n : Nat) : ∀ (d : Nat) (W : List Nat) (o c : Nat) (l : List Nat), W.length ≤ n → l.Pairwise (· ≤ ·) → Way d W o c l → c < none_ → table n d W o ≤ c := by
  intro d
  induction d with
  | zero =>
    intro W o c l hn hr ⟨q1, q2, q3, q4⟩ hc
    show onePlace n (fun _ _ => none_) true W o ≤ c
    have ho := open_le (fun x hx => (q2 x hx).1) q3
    have hone : l = List.replicate l.length 1 := List.eq_replicate_iff.2 ⟨rfl, fun x hx => by have := q2 x hx; omega⟩
    rw [q1] at hone ho
    subst hone
    rw [sum_ones] at q3
    have ho2 : o = W.length := by simpa using q3.symm
    rw [zip_ones] at q4
    unfold onePlace
    by_cases h0 : W.length = 0
    · rw [if_pos h0, if_pos (by omega)]; omega
    · rw [if_neg h0, if_neg (by omega)]
      refine least_le _ _ W.length c (by omega) ?_
      unfold term
      rw [if_pos rfl, if_pos (by omega), q4]
  | succ d ih =>
    intro W o c l hn hr ⟨q1, q2, q3, q4⟩ hc
    show onePlace n (table n d) false W o ≤ c
    have ho := open_le (fun x hx => (q2 x hx).1) q3
    obtain ⟨t, r, rfl, r1, r2⟩ := ones_first l hr (fun x hx => (q2 x hx).1)
    have hlen : t + r.length = W.length := by simpa using q1
    have hs : ((r.map (· + 1)).map fun x => 2 ^ (d + 1 + 1 - x)).sum = (r.map fun x => 2 ^ (d + 1 - x)).sum := by
      rw [List.map_map]
      congr 1
      exact List.map_congr_left fun x _ => by simp only [Function.comp]; congr 1; omega
    rw [List.map_append, List.sum_append, sum_ones, hs, Nat.add_sub_cancel] at q3
    have hto : t ≤ o := by
      have : t * 2 ^ (d + 1) ≤ o * 2 ^ (d + 1) := by omega
      exact Nat.le_of_mul_le_mul_right this (Nat.two_pow_pos _)
    obtain ⟨e, rfl⟩ : ∃ e, o = t + e := ⟨o - t, by omega⟩
    have q3' : (r.map fun x => 2 ^ (d + 1 - x)).sum = 2 * e * 2 ^ d := by
      rw [Nat.add_mul, Nat.pow_succ] at q3
      rw [Nat.mul_comm 2 e, Nat.mul_assoc, Nat.mul_comm 2]
      omega
    have ho2 := open_le r1 q3'
    rw [zip_split _ _ _ (by omega), zip_up _ _ (by rw [List.length_drop]; omega), ← Nat.add_assoc, sum_parts] at q4
    have hW : Way d (W.drop t) (2 * e) (List.zipWith (· * ·) (W.drop t) r).sum r := ⟨by rw [List.length_drop]; omega, fun x hx => ⟨r1 x hx, by
      have := (q2 (x + 1) (List.mem_append_right _ (List.mem_map_of_mem hx))).2
      omega⟩, q3', rfl⟩
    have hb := ih _ _ _ _ (by rw [List.length_drop]; omega) r2 hW (by omega)
    unfold onePlace
    by_cases h0 : W.length = 0
    · have : t + e = 0 := by
        rw [show r = [] from List.eq_nil_of_length_eq_zero (by omega)] at ho2
        simp at ho2
        omega
      rw [if_pos h0, if_pos this]; omega
    · have hne : t + e ≠ 0 := fun z => by
        obtain ⟨rfl, rfl⟩ : t = 0 ∧ e = 0 := by omega
        have h5 : r ≠ [] := fun z => by subst z; simp at hlen; omega
        obtain ⟨x, r', rfl⟩ := List.exists_cons_of_ne_nil h5
        rw [List.map_cons, List.sum_cons] at q3'
        have := Nat.two_pow_pos (d + 1 - x)
        omega
      rw [if_neg h0, if_neg (by
        rintro (z | z)
        · exact hne z
        · rw [q1] at ho; omega)]
      refine Nat.le_trans (least_le _ _ t (W.sum + table n d (W.drop t) (2 * e)) (by omega) ?_) (by omega)
      unfold term
      simp only [Bool.false_eq_true, if_false]
      rw [Nat.add_sub_cancel_left, if_neg (by omega), if_pos (by omega)]

theorem cost_zip (F O : List Nat) (h : O.length = F.length) : cost F O = (List.zipWith (· * ·) F O).sum := by
  induction F generalizing O with
  | nil => rfl
  | cons f F ih =>
    cases O with
    | nil => simp at h
    | cons o O => rw [cost_cons, ih O (by simpa using h)]; rfl

theorem kraft_map (L : Nat) (O : List Nat) (h : ∀ x ∈ O, 1 ≤ x) : kraft L O = (O.map fun x => 2 ^ (L - x)).sum := by
  induction O with
  | nil => rfl
  | cons o O ih =>
    have h1 := h o List.mem_cons_self
    rw [kraft_cons, ih (fun y hy => h y (List.mem_cons_of_mem _ hy)), if_neg (by omega)]
    rfl

theorem sum_rev (l : List Nat) : l.reverse.sum = l.sum := (List.reverse_perm l).sum_nat

theorem zip_rev (F O : List Nat) (h : O.length = F.length) : (List.zipWith (· * ·) F.reverse O.reverse).sum = (List.zipWith (· * ·) F O).sum := by
  rw [← List.reverse_zipWith h.symm, sum_rev]

/-- A row of weights in order: its places, in order. -/
theorem rare_range {W : List Nat} (hU : W.Pairwise (· ≤ ·)) (hp : ∀ x ∈ W, 0 < x) : Rare W (List.range W.length) := by
  refine ⟨?_, ?_⟩
  · rw [List.filter_eq_self.2 (fun i hi => by
      have hi2 := List.mem_range.1 hi
      rw [nth_lt hi2]
      simpa using hp _ (List.getElem_mem hi2))]
  · have e : (List.range W.length).map (nth W) = W := List.ext_getElem (by simp) fun i h1 h2 => by
      rw [List.getElem_map, List.getElem_range, nth_lt h2]
    rw [e]
    exact hU

/-- THE TABLE: what it says at last is what the lengths cost. -/
theorem table_cost {F S : List Nat} (h : Rare F S) {d n : Nat} (h2 : 2 ≤ S.length) (hf : S.length ≤ 2 ^ (d + 1)) (hn : S.length ≤ n) (hc : cost F (lengths F S (d + 1)) < none_) :
    table n d (S.map (nth F)).reverse 2 = cost F (lengths F S (d + 1)) := by
  obtain ⟨W, hW⟩ : ∃ W, S.map (nth F) = W := ⟨_, rfl⟩
  have hWl : W.length = S.length := by rw [← hW]; simp
  have hU : W.Pairwise (· ≤ ·) := by rw [← hW]; exact h.up
  have hP : W.Perm (pos F) := by rw [← hW]; exact h.weights
  have hp : ∀ x ∈ W, 0 < x := fun x hx => by
    have := hP.mem_iff.1 hx
    unfold pos at this
    simpa using (List.mem_filter.1 this).2
  have hpW : pos W = W := List.filter_eq_self.2 (fun x hx => by simpa using hp x hx)
  have hr := rare_range hU hp
  have e := cost_one h hr (by rw [hpW]; exact hP.symm) (d + 1)
  have hrl : (List.range W.length).length = S.length := by rw [List.length_range, hWl]
  have hch := lengths_choice hr (L := d + 1) (by omega) (by rw [hrl]; exact hf)
  have hbest := fun O => lengths_best hr (L := d + 1) (O := O) (by omega) (by rw [hrl]; exact hf)
  have hat := fun i (hi : i < (List.range W.length).length) => lengths_at hr (d + 1) hi
  rw [e] at hc ⊢
  rw [hW]
  clear e
  generalize lengths W (List.range W.length) (d + 1) = O at *
  have hOl := hch.length
  have hO1 : ∀ x ∈ O, 1 ≤ x ∧ x ≤ d + 1 := fun x hx => by
    obtain ⟨i, hi, rfl⟩ := nth_mem hx
    exact ⟨(hch.some i (by omega)).2 (by rw [nth_lt (by omega)]; exact hp _ (List.getElem_mem _)), hch.limit i (by omega)⟩
  have hfall : O.reverse.Pairwise (· ≤ ·) := by
    rw [List.pairwise_reverse]
    refine List.pairwise_iff_getElem.2 fun i j hi hj hij => ?_
    have a1 := hat i (by rw [List.length_range]; omega)
    have a2 := hat j (by rw [List.length_range]; omega)
    rw [List.getElem_range] at a1 a2
    rw [← nth_lt hi, ← nth_lt hj, a1, a2]
    exact lenAt_falls _ (by omega)
  refine Nat.le_antisymm ?_ ?_
  · refine table_le n d _ 2 _ O.reverse (by rw [List.length_reverse]; omega) hfall ⟨by rw [List.length_reverse, List.length_reverse, hOl], fun x hx => hO1 x (List.mem_reverse.1 hx), ?_, ?_⟩ hc
    · rw [List.map_reverse, sum_rev, ← kraft_map _ _ (fun x hx => (hO1 x hx).1), hch.full (by rw [hpW]; omega), Nat.pow_succ, Nat.mul_comm]
    · rw [zip_rev _ _ hOl, cost_zip _ _ hOl]
  · by_cases hlt : table n d W.reverse 2 < none_
    · obtain ⟨l, q1, q2, q3, q4⟩ := way_of n d W.reverse 2 hlt
      rw [List.length_reverse] at q1
      have hl : l.reverse.length = W.length := by rw [List.length_reverse, q1]
      have hm : ∀ i, i < W.length → 1 ≤ nth l.reverse i ∧ nth l.reverse i ≤ d + 1 := fun i hi => by
        rw [nth_lt (by omega)]
        exact q2 _ (List.mem_reverse.1 (List.getElem_mem _))
      have hC : Choice W (d + 1) l.reverse := ⟨hl, fun i hi => ⟨fun _ => by rw [nth_lt hi]; exact hp _ (List.getElem_mem _), fun _ => (hm i hi).1⟩, fun i hi => (hm i hi).2, fun _ => by
        rw [kraft_map _ _ (fun x hx => (q2 x (List.mem_reverse.1 hx)).1), List.map_reverse, sum_rev, q3, Nat.pow_succ, Nat.mul_comm], fun h1 => by rw [hpW] at h1; omega⟩
      have := hbest _ hC
      rw [cost_zip _ _ hl] at this
      rw [← zip_rev _ _ hl, List.reverse_reverse, q4] at this
      exact this
    · omega

end Go.Proofs.Ytpolbpjclklgbaa.Limit
