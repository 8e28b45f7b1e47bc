/-
  Plain facts for layer 15: the nearest lesser numbers, ahead and behind; a stack of the places that may still be the nearest. No program. No conditions.
-/
import Derived.Test.YtjchchinmggldaaBits
namespace Go.Proofs.Ytjchchinmggldaa.Near

/-- The k-th number, or 0. -/
def nthI (l : List Int) (k : Nat) : Int := l.getD k 0
theorem nthI_lt {l : List Int} {k : Nat} (h : k < l.length) : nthI l k = l[k] := by unfold nthI; rw [List.getD_eq_getElem?_getD, List.getElem?_eq_getElem h]; rfl
theorem nthI_some {l : List Int} {k : Nat} (h : k < l.length) : l[k]? = some (nthI l k) := by rw [nthI_lt h, List.getElem?_eq_getElem h]

/-- The greatest place below k at which a number less than x stands; -1, if there is none. -/
def seekUp (l : List Int) (x : Int) : Nat → Int
  | 0 => -1
  | k + 1 => if nthI l k < x then (k : Int) else seekUp l x k
/-- How many are no less than x, until one is. -/
def lead (x : Int) : List Int → Nat
  | [] => 0
  | y :: t => if y < x then 0 else lead x t + 1

/-- What Ahead, Behind answer for a place. -/
def ahOf (l : List Int) (i : Nat) : Int := seekUp l (nthI l i) i
def beOf (l : List Int) (i : Nat) : Nat := i + 1 + lead (nthI l i) (l.drop (i + 1))
def aheads (l : List Int) : List Int := (List.range l.length).map (ahOf l)
def behinds (l : List Int) : List Nat := (List.range l.length).map (beOf l)
theorem aheads_length (l : List Int) : (aheads l).length = l.length := by simp [aheads]
theorem behinds_length (l : List Int) : (behinds l).length = l.length := by simp [behinds]
theorem aheads_at (l : List Int) (i : Nat) (h : i < l.length) : (aheads l)[i]? = some (ahOf l i) := by simp [aheads, h]
theorem behinds_at (l : List Int) (i : Nat) (h : i < l.length) : (behinds l)[i]? = some (beOf l i) := by simp [behinds, h]

theorem seekUp_is (l : List Int) (x : Int) : ∀ k, -1 ≤ seekUp l x k ∧ seekUp l x k < k ∧ (∀ j : Nat, (j : Int) = seekUp l x k → nthI l j < x) ∧ ∀ j : Nat, seekUp l x k < j → j < k → x ≤ nthI l j
  | 0 => ⟨by simp [seekUp], by simp [seekUp], fun j h => by simp only [seekUp] at h; omega, fun j _ h => by omega⟩
  | k + 1 => by
    unfold seekUp
    split
    · rename_i h
      refine ⟨by omega, by omega, fun j e => ?_, fun j h1 h2 => by omega⟩
      have e2 : j = k := by omega
      rw [e2]
      exact h
    · rename_i h
      obtain ⟨h1, h2, h3, h4⟩ := seekUp_is l x k
      refine ⟨h1, by omega, h3, fun j g1 g2 => ?_⟩
      by_cases e : j = k
      · subst e; omega
      · exact h4 j g1 (by omega)

theorem lead_le (x : Int) : ∀ l : List Int, lead x l ≤ l.length
  | [] => Nat.le_refl _
  | y :: t => by unfold lead; split <;> simp; have := lead_le x t; omega

theorem lead_is (x : Int) : ∀ l : List Int, (lead x l < l.length → nthI l (lead x l) < x) ∧ ∀ j, j < lead x l → x ≤ nthI l j
  | [] => ⟨fun h => by simp [lead] at h, fun j h => by simp [lead] at h⟩
  | y :: t => by
    unfold lead
    split
    · rename_i h
      exact ⟨fun _ => h, fun j hj => by omega⟩
    · rename_i h
      obtain ⟨h1, h2⟩ := lead_is x t
      refine ⟨fun hl => ?_, fun j hj => ?_⟩
      · have := h1 (by simpa using hl)
        simpa [nthI] using this
      · cases j with
        | zero => simp [nthI]; omega
        | succ j => have := h2 j (by omega); simpa [nthI] using this

/-- k is the nearest place ahead of i at which a lesser number stands, or -1. -/
def IsAh (l : List Int) (i : Nat) (k : Int) : Prop := -1 ≤ k ∧ k < i ∧ (∀ j : Nat, (j : Int) = k → nthI l j < nthI l i) ∧ ∀ j : Nat, k < j → j < i → nthI l i ≤ nthI l j
/-- .. behind, or their number. -/
def IsBe (l : List Int) (i k : Nat) : Prop := i < k ∧ k ≤ l.length ∧ (k < l.length → nthI l k < nthI l i) ∧ ∀ j, i < j → j < k → nthI l i ≤ nthI l j

theorem ahOf_is (l : List Int) (i : Nat) : IsAh l i (ahOf l i) := seekUp_is l _ i

theorem nthI_drop (l : List Int) (i j : Nat) : nthI (l.drop i) j = nthI l (i + j) := by
  unfold nthI
  rw [List.getD_eq_getElem?_getD, List.getD_eq_getElem?_getD, List.getElem?_drop]

theorem beOf_is (l : List Int) (i : Nat) (hi : i < l.length) : IsBe l i (beOf l i) := by
  have h0 := lead_le (nthI l i) (l.drop (i + 1))
  obtain ⟨h1, h2⟩ := lead_is (nthI l i) (l.drop (i + 1))
  rw [List.length_drop] at h0
  unfold beOf
  refine ⟨by omega, by omega, fun h => ?_, fun j g1 g2 => ?_⟩
  · have := h1 (by rw [List.length_drop]; omega)
    rwa [nthI_drop] at this
  · have := h2 (j - (i + 1)) (by omega)
    rwa [nthI_drop, show i + 1 + (j - (i + 1)) = j by omega] at this

theorem IsAh.one {l : List Int} {i : Nat} {k k' : Int} (h : IsAh l i k) (h' : IsAh l i k') : k = k' := by
  obtain ⟨a1, a2, a3, a4⟩ := h
  obtain ⟨b1, b2, b3, b4⟩ := h'
  rcases Int.lt_trichotomy k k' with g | g | g
  · obtain ⟨j, hj⟩ : ∃ j : Nat, (j : Int) = k' := ⟨k'.toNat, by omega⟩
    have := b3 j hj
    have := a4 j (by omega) (by omega)
    omega
  · exact g
  · obtain ⟨j, hj⟩ : ∃ j : Nat, (j : Int) = k := ⟨k.toNat, by omega⟩
    have := a3 j hj
    have := b4 j (by omega) (by omega)
    omega

theorem IsBe.one {l : List Int} {i k k' : Nat} (h : IsBe l i k) (h' : IsBe l i k') : k = k' := by
  obtain ⟨a1, a2, a3, a4⟩ := h
  obtain ⟨b1, b2, b3, b4⟩ := h'
  rcases Nat.lt_trichotomy k k' with g | g | g
  · have := a3 (by omega)
    have := b4 k (by omega) g
    omega
  · exact g
  · have := b3 (by omega)
    have := a4 k' (by omega) g
    omega

theorem nthI_reverse (l : List Int) (j : Nat) (h : j < l.length) : nthI l.reverse j = nthI l (l.length - 1 - j) := by
  rw [nthI_lt (by simpa using h), nthI_lt (by omega), List.getElem_reverse]

/-- A row turned round has them turned round. -/
theorem ah_turned (l : List Int) (i : Nat) (hi : i < l.length) : ahOf l i = (l.length : Int) - 1 - (beOf l.reverse (l.length - 1 - i) : Int) := by
  have hb := beOf_is l.reverse (l.length - 1 - i) (by simp; omega)
  obtain ⟨h1, h2, h3, h4⟩ := hb
  rw [List.length_reverse] at h2 h3
  have e0 : nthI l.reverse (l.length - 1 - i) = nthI l i := by rw [nthI_reverse l _ (by omega), show l.length - 1 - (l.length - 1 - i) = i by omega]
  rw [e0] at h3 h4
  refine (ahOf_is l i).one ⟨by omega, by omega, fun j hj => ?_, fun j g1 g2 => ?_⟩
  · have := h3 (by omega)
    rw [nthI_reverse l _ (by omega)] at this
    rwa [show l.length - 1 - beOf l.reverse (l.length - 1 - i) = j by omega] at this
  · have := h4 (l.length - 1 - j) (by omega) (by omega)
    rwa [nthI_reverse l _ (by omega), show l.length - 1 - (l.length - 1 - j) = j by omega] at this

theorem nthI_left (l m : List Int) (j : Nat) (h : j < l.length) : nthI (l ++ m) j = nthI l j := by
  rw [nthI_lt (by simp; omega), nthI_lt h, List.getElem_append_left]
theorem nthI_right (l m : List Int) (j : Nat) : nthI (l ++ m) (l.length + j) = nthI m j := by
  unfold nthI
  rw [List.getD_eq_getElem?_getD, List.getD_eq_getElem?_getD, List.getElem?_append_right (by omega), Nat.add_sub_cancel_left]

/-- What stands behind plays no part for Ahead, what stands ahead none for Behind. -/
theorem ah_grows (l m : List Int) (i : Nat) (hi : i < l.length) : ahOf (l ++ m) i = ahOf l i := by
  obtain ⟨h1, h2, h3, h4⟩ := ahOf_is l i
  refine (ahOf_is (l ++ m) i).one ⟨h1, h2, fun j hj => ?_, fun j g1 g2 => ?_⟩
  · rw [nthI_left l m j (by omega), nthI_left l m i hi]; exact h3 j hj
  · rw [nthI_left l m j (by omega), nthI_left l m i hi]; exact h4 j g1 g2

theorem be_grows (l m : List Int) (i : Nat) (hi : i < m.length) : beOf (l ++ m) (l.length + i) = l.length + beOf m i := by
  obtain ⟨h1, h2, h3, h4⟩ := beOf_is m i hi
  refine (beOf_is (l ++ m) (l.length + i) (by simp; omega)).one ⟨by omega, by simp; omega, fun h => ?_, fun j g1 g2 => ?_⟩
  · rw [nthI_right, nthI_right]
    exact h3 (by simp at h; omega)
  · obtain ⟨t, rfl⟩ : ∃ t, j = l.length + t := ⟨j - l.length, by omega⟩
    rw [nthI_right, nthI_right]
    exact h4 t (by omega) (by omega)

/-! A stack: over places that are visited one behind the other. -/

/-- The stack behind these visits (the last one first): each place is laid on those that stand below it with a lesser number. -/
def stackOf (l : List Int) : List Nat → List Nat
  | [] => []
  | i :: V => i :: (stackOf l V).dropWhile fun j => decide (nthI l i ≤ nthI l j)

theorem drop_more {p q : Nat → Bool} (h : ∀ j, p j = true → q j = true) : ∀ l : List Nat, (l.dropWhile p).dropWhile q = l.dropWhile q
  | [] => rfl
  | a :: l => by
    by_cases hp : p a = true
    · rw [List.dropWhile_cons_of_pos hp, List.dropWhile_cons_of_pos (h a hp), drop_more h l]
    · rw [List.dropWhile_cons_of_neg hp]

/-- On the stack the nearest lesser number lies on top of those that are lesser. -/
theorem stack_find (l : List Int) (x : Int) : ∀ V : List Nat, ((stackOf l V).dropWhile fun j => decide (x ≤ nthI l j)).head? = V.find? fun j => decide (nthI l j < x)
  | [] => rfl
  | i :: V => by
    unfold stackOf
    by_cases h : nthI l i < x
    · rw [List.dropWhile_cons_of_neg (by simp; omega), List.find?_cons_of_pos (by simpa using h)]
      rfl
    · rw [List.dropWhile_cons_of_pos (by simp; omega), List.find?_cons_of_neg (by simpa using h), drop_more (fun j hj => by simp at hj ⊢; omega), stack_find l x V]

/-- The places below i, the last one first. -/
def downTo (i : Nat) : List Nat := (List.range i).reverse
theorem downTo_succ (i : Nat) : downTo (i + 1) = i :: downTo i := by simp [downTo, List.range_succ]

theorem seek_find (l : List Int) (x : Int) : ∀ i, seekUp l x i = match (downTo i).find? fun j => decide (nthI l j < x) with
    | some j => (j : Int)
    | none => -1
  | 0 => rfl
  | i + 1 => by
    rw [downTo_succ, seekUp]
    by_cases h : nthI l i < x
    · rw [if_pos h, List.find?_cons_of_pos (by simpa using h)]
    · rw [if_neg h, List.find?_cons_of_neg (by simpa using h), seek_find l x i]

/-- The places from i to n. -/
def upFrom (i n : Nat) : List Nat := (List.range (n - i)).map (i + ·)
theorem upFrom_cons {i n : Nat} (h : i < n) : upFrom i n = i :: upFrom (i + 1) n := by
  unfold upFrom
  obtain ⟨m, hm⟩ : ∃ m, n - i = m + 1 := ⟨n - i - 1, by omega⟩
  rw [hm, show n - (i + 1) = m by omega, List.range_succ_eq_map, List.map_cons, List.map_map, Nat.add_zero]
  congr 1
  exact List.map_congr_left fun x _ => by simp; omega
theorem upFrom_nil {i n : Nat} (h : n ≤ i) : upFrom i n = [] := by unfold upFrom; rw [show n - i = 0 by omega]; rfl

theorem lead_find (l : List Int) (x : Int) : ∀ (m i : Nat), l.length - i = m → i ≤ l.length → i + lead x (l.drop i) = match (upFrom i l.length).find? fun j => decide (nthI l j < x) with
    | some j => j
    | none => l.length
  | 0, i, h, hi => by
    rw [upFrom_nil (by omega), List.drop_of_length_le (by omega)]
    simp [lead]
    omega
  | m + 1, i, h, hi => by
    have hlt : i < l.length := by omega
    rw [upFrom_cons hlt, List.drop_eq_getElem_cons hlt, lead, ← nthI_lt hlt]
    by_cases hx : nthI l i < x
    · rw [if_pos hx, List.find?_cons_of_pos (by simpa using hx)]; simp
    · rw [if_neg hx, List.find?_cons_of_neg (by simpa using hx), ← lead_find l x m (i + 1) (by omega) (by omega)]
      omega

end Go.Proofs.Ytjchchinmggldaa.Near
