/-
  Plain facts for layer 13, besides: a text that is another one, repeated; a rotation of a text. No conditions.
-/
import Derived.Test.YthcbmkbgchobfaaSufM
namespace Go.Proofs.Ythcbmkbgchobfaa.Suf
open Go.RowKit

/-- A text, n times. -/
def rep (b : List Nat) : Nat → List Nat
  | 0 => []
  | n + 1 => rep b n ++ b

theorem rep_length (b : List Nat) (n : Nat) : (rep b n).length = n * b.length := by
  induction n with
  | zero => simp [rep]
  | succ n ih => rw [rep, List.length_append, ih, Nat.succ_mul]

theorem rep_get (b : List Nat) (n q : Nat) (h : q < n * b.length) : (rep b n).getD q 0 = b.getD (q % b.length) 0 := by
  induction n with
  | zero => omega
  | succ n ih =>
    rw [Nat.succ_mul] at h
    rw [rep, List.getD_eq_getElem?_getD]
    by_cases hq : q < n * b.length
    · rw [List.getElem?_append_left (by rw [rep_length]; exact hq), ← List.getD_eq_getElem?_getD, ih hq]
    · rw [List.getElem?_append_right (by rw [rep_length]; omega), rep_length, ← List.getD_eq_getElem?_getD]
      congr 1
      obtain ⟨x, hx⟩ := Nat.exists_eq_add_of_le (Nat.le_of_not_lt hq)
      subst hx
      rw [Nat.add_sub_cancel_left, Nat.mul_comm, Nat.mul_add_mod, Nat.mod_eq_of_lt (by omega)]

theorem rep_val (b : List Nat) (n p j : Nat) (h : p < n * b.length) : val true (rep b n) p j = 1 + b.getD ((p % b.length + j) % b.length) 0 := by
  have hN : 0 < n * b.length := by omega
  simp only [val, if_true]
  rw [rep_length, if_pos h, rep_get b n _ (Nat.mod_lt _ hN), Nat.mod_mul_left_mod, Nat.mod_add_mod]

theorem first_part {P : Nat → Bool} : ∀ (L : List Nat), L.Pairwise (fun x y => P y = true → P x = true) → ∀ j (h : j < L.length), P L[j] = true ↔ j < (L.filter P).length
  | [], _, j, h => absurd h (by simp)
  | x :: L, hp, j, h => by
    have hp' := List.pairwise_cons.1 hp
    by_cases hx : P x = true
    · rw [List.filter_cons_of_pos hx]
      cases j with
      | zero => simp [hx]
      | succ j =>
        have := first_part L hp'.2 j (by simpa using h)
        simpa using this
    · have h0 : (x :: L).filter P = [] := by
        rw [List.filter_eq_nil_iff]
        intro y hy
        rcases List.mem_cons.1 hy with rfl | hy
        · exact hx
        · exact fun e => hx (hp'.1 y hy e)
      rw [h0]
      constructor
      · intro e
        exfalso
        have : (x :: L)[j] ∈ (x :: L).filter P := List.mem_filter.2 ⟨List.getElem_mem _, e⟩
        rw [h0] at this
        simp at this
      · intro e; simp at e

theorem count_rep {P : Nat → Bool} (m n : Nat) (hP : ∀ p, P (p % m) = P p) : ((List.range (n * m)).filter P).length = n * ((List.range m).filter P).length := by
  induction n with
  | zero => simp
  | succ n ih =>
    rw [Nat.succ_mul, List.range_add, List.filter_append, List.length_append, ih, Nat.succ_mul]
    congr 1
    rw [List.filter_map, List.length_map]
    congr 2
    funext x
    show P (n * m + x) = P x
    rw [← hP (n * m + x), Nat.mul_comm, Nat.mul_add_mod, hP]

theorem Whole.perm {n : Nat} {R : Nat → Nat → Prop} {O : List Nat} (h : Whole n R O) (hR : ∀ x, ¬ R x x) : O.Perm (List.range n) :=
  (List.perm_ext_iff_of_nodup (h.nodup hR) List.nodup_range).2 fun x => ⟨fun hx => List.mem_range.2 (h.mem x hx), fun hx => h.all hR x (List.mem_range.1 hx)⟩

/-- In groups of as many as it is repeated. -/
theorem groups {b : List Nat} {n : Nat} {R : List Nat} (hn : 0 < n) (h : Whole (n * b.length) (Ahead true (rep b n)) R) (i : Nat) (hi : i < n * b.length) : Like (val true (rep b n) (R[i]'(by rw [h.len]; exact hi))) (val true (rep b n) (R[i - i % n]'(by rw [h.len]; omega))) (rep b n).length := by
  have hl := h.len
  have hm : 0 < b.length := by
    apply Nat.pos_of_ne_zero
    intro e
    rw [e] at hi
    simp at hi
  have hNl := rep_length b n
  obtain ⟨N, hN⟩ : ∃ N, n * b.length = N := ⟨_, rfl⟩
  have hg : i - i % n = n * (i / n) := by have := Nat.div_add_mod i n; omega
  obtain ⟨g, hge⟩ : ∃ g, i - i % n = g := ⟨_, rfl⟩
  have hgi : g ≤ i := by omega
  have hpw := List.pairwise_iff_getElem.1 h.ord
  obtain ⟨q, hq⟩ : ∃ q, R[i]'(by omega) = q := ⟨_, rfl⟩
  simp only [hge, hq]
  rcases three (val true (rep b n) q) (val true (rep b n) (R[g]'(by omega))) (rep b n).length with h1 | h1 | h1
  · exact h1
  · exfalso
    by_cases e : g = i
    · subst e; rw [hq] at h1; exact h1.irrefl
    · rcases hpw g i (by omega) (by omega) (by omega) with h2 | ⟨h2, _⟩
      · rw [hq] at h2; exact h2.asymm h1
      · rw [hq] at h2; exact h1.not_like' h2
  · exfalso
    let D : Nat → Prop := fun x => Less (fun j => 1 + b.getD ((x + j) % b.length) 0) (val true (rep b n) q) (rep b n).length
    let P : Nat → Bool := fun p => @decide (D (p % b.length)) (Classical.propDecidable _)
    have hPp : ∀ p, P (p % b.length) = P p := fun p => by
      show @decide (D (p % b.length % b.length)) (Classical.propDecidable _) = @decide (D (p % b.length)) (Classical.propDecidable _)
      rw [Nat.mod_mod]
    have hPv : ∀ p, p < N → (P p = true ↔ Less (val true (rep b n) p) (val true (rep b n) q) (rep b n).length) := fun p hp => by
      have : val true (rep b n) p = fun j => 1 + b.getD ((p % b.length + j) % b.length) 0 := funext fun j => rep_val b n p j (by omega)
      rw [this]
      exact @decide_eq_true_iff (D (p % b.length)) (Classical.propDecidable _)
    have hmem : ∀ j (hj : j < R.length), R[j] < N := fun j hj => by rw [← hN]; exact h.mem _ (List.getElem_mem _)
    have hdown : R.Pairwise fun x y => P y = true → P x = true := by
      refine List.Pairwise.imp_of_mem (fun {x y} hx hy hxy hy2 => ?_) h.ord
      have hx' : x < N := by rw [← hN]; exact h.mem x hx
      have hy' : y < N := by rw [← hN]; exact h.mem y hy
      rw [hPv x hx']
      rw [hPv y hy'] at hy2
      rcases hxy with h2 | ⟨h2, _⟩
      · exact h2.trans' hy2
      · exact h2.less hy2
    have hcnt : (R.filter P).length = n * ((List.range b.length).filter P).length := by
      rw [(h.perm (fun _ => Ahead.irrefl)).filter P |>.length_eq, count_rep b.length n hPp]
    have hg1 := (first_part R hdown g (by omega)).1 ((hPv _ (hmem g (by omega))).2 h1)
    have hi1 : ¬ i < (R.filter P).length := fun e => by
      have := (hPv _ (hmem i (by omega))).1 ((first_part R hdown i (by omega)).2 e)
      rw [hq] at this
      exact this.irrefl
    rw [hcnt] at hg1 hi1
    generalize ((List.range b.length).filter P).length = a at *
    have h2 : n * (i / n) < n * a := by rw [← hg, hge]; exact hg1
    have h3 : i / n < a := Nat.lt_of_mul_lt_mul_left h2
    have h4 := Nat.mul_le_mul_left n h3
    have h5 := Nat.div_add_mod i n
    have h6 := Nat.mod_lt i hn
    rw [Nat.mul_succ] at h4
    omega

/-- The rotations of a rotation. -/
theorem turn_val (c : List Nat) (k p j : Nat) (hk : k < c.length) (hp : p < c.length) : val true (text true c k) p j = val true c ((p + k) % c.length) j := by
  have hl : (text true c k).length = c.length := by simp [text]; omega
  have hd : ∀ q, q < c.length → (text true c k).getD q 0 = c.getD ((q + k) % c.length) 0 := fun q hq => by
    simp only [text, if_true]
    rw [List.getD_eq_getElem?_getD, List.getD_eq_getElem?_getD]
    by_cases h : q < c.length - k
    · rw [List.getElem?_append_left (by rw [List.length_drop]; exact h), List.getElem?_drop, Nat.mod_eq_of_lt (by omega), Nat.add_comm]
    · rw [List.getElem?_append_right (by rw [List.length_drop]; omega), List.length_drop, List.getElem?_take_of_lt (by omega), Nat.mod_eq_sub_mod (by omega), Nat.mod_eq_of_lt (by omega)]
      congr 2
      omega
  simp only [val, if_true]
  rw [hl, if_pos hp, if_pos (Nat.mod_lt _ (by omega)), hd _ (Nat.mod_lt _ (by omega)), Nat.mod_add_mod, Nat.mod_add_mod]
  congr 3
  omega

def leT (c : List Nat) (u v : Nat) : Prop := Less (val true c u) (val true c v) c.length ∨ Like (val true c u) (val true c v) c.length

theorem turned {c : List Nat} {k : Nat} {R S : List Nat} (hk : k < c.length) (hR : Whole c.length (Ahead true c) R) (hS : Whole c.length (Ahead true (text true c k)) S) (i : Nat) (hi : i < c.length) :
    text true c (R[i]'(by rw [hR.len]; exact hi)) = text true (text true c k) (S[i]'(by rw [hS.len]; exact hi)) := by
  have hl : (text true c k).length = c.length := by simp [text]; omega
  have hRl := hR.len
  have hSl := hS.len
  have hTf : ∀ p, p < c.length → text true (text true c k) p = text true c ((p + k) % c.length) := fun p hp => by
    refine List.ext_getElem? fun j => dig_inj ?_
    by_cases hj : j < c.length
    · rw [dig_text true _ p j (by omega) (by omega), dig_text true c _ j (Nat.mod_lt _ (by omega)) hj, turn_val c k p j hk hp]
    · rw [dig_ge (Nat.le_trans (text_le ..) (by omega)), dig_ge (Nat.le_trans (text_le ..) (by omega))]
  have hinj : ∀ p q, p < c.length → q < c.length → (p + k) % c.length = (q + k) % c.length → p = q := fun p q hp hq e => by
    have a1 : (p + k) % c.length = if p + k < c.length then p + k else p + k - c.length := by
      split
      · exact Nat.mod_eq_of_lt (by assumption)
      · rw [Nat.mod_eq_sub_mod (by omega), Nat.mod_eq_of_lt (by omega)]
    have a2 : (q + k) % c.length = if q + k < c.length then q + k else q + k - c.length := by
      split
      · exact Nat.mod_eq_of_lt (by assumption)
      · rw [Nat.mod_eq_sub_mod (by omega), Nat.mod_eq_of_lt (by omega)]
    rw [a1, a2] at e
    split at e <;> split at e <;> omega
  have hSn := hS.nodup (fun _ => Ahead.irrefl)
  have hnd : (S.map fun p => (p + k) % c.length).Nodup := by
    refine List.pairwise_map.2 (List.Pairwise.imp_of_mem (fun {p q} hp hq hne e => hne (hinj p q (by have := hS.mem p hp; omega) (by have := hS.mem q hq; omega) e)) hSn)
  have hall := nodup_all c.length (S.map fun p => (p + k) % c.length) hnd (by rw [List.length_map, hSl]) (fun x hx => by
    obtain ⟨p, _, rfl⟩ := List.mem_map.1 hx
    exact Nat.mod_lt _ (by omega))
  have hperm : R.Perm (S.map fun p => (p + k) % c.length) :=
    (List.perm_ext_iff_of_nodup (hR.nodup (fun _ => Ahead.irrefl)) hnd).2 fun x => ⟨fun hx => hall x (hR.mem x hx), fun hx => hR.all (fun _ => Ahead.irrefl) x (by
      obtain ⟨p, _, rfl⟩ := List.mem_map.1 hx
      exact Nat.mod_lt _ (by omega))⟩
  have e : R.map (text true c) = (S.map fun p => (p + k) % c.length).map (text true c) := by
    refine List.Perm.eq_of_pairwise (le := fun u v => u = v ∨ ∃ d, Less (dig u) (dig v) d) ?_ ?_ ?_ (hperm.map _)
    · rintro u v _ _ (h | ⟨d, h⟩) (h' | ⟨d', h'⟩)
      · exact h
      · exact h
      · exact h'.symm
      · exact (h.asymm h').elim
    · refine List.pairwise_map.2 (List.Pairwise.imp_of_mem (fun {p q} hp hq h => ?_) hR.ord)
      rcases h with h | ⟨h, _⟩
      · exact .inr ((less_text (hR.mem p hp) (hR.mem q hq)).2 h)
      · exact .inl ((same_text (hR.mem p hp) (hR.mem q hq)).2 h)
    · rw [List.map_map]
      refine List.pairwise_map.2 (List.Pairwise.imp_of_mem (fun {p q} hp hq h => ?_) hS.ord)
      have hp' := hS.mem p hp
      have hq' := hS.mem q hq
      show text true c ((p + k) % c.length) = text true c ((q + k) % c.length) ∨ ∃ d, Less (dig (text true c ((p + k) % c.length))) (dig (text true c ((q + k) % c.length))) d
      rw [← hTf p hp', ← hTf q hq']
      rcases h with h | ⟨h, _⟩
      · exact .inr ((less_text (by omega) (by omega)).2 h)
      · exact .inl ((same_text (by omega) (by omega)).2 h)
  have e2 := congrArg (fun l => l[i]?) e
  simp only [List.getElem?_map] at e2
  rw [List.getElem?_eq_getElem (by omega), List.getElem?_eq_getElem (by omega)] at e2
  have e3 := Option.some.inj e2
  rw [e3]
  exact (hTf _ (hS.mem _ (List.getElem_mem _))).symm

end Go.Proofs.Ythcbmkbgchobfaa.Suf
