/-
  Plain facts for stage 6 (no program): rows of bits that lead to symbols, as a table is filled word by word; reading bit by bit. No conditions but that lengths are 20 at most and not over.
-/
import Derived.Test.YtakkfdibiboofaaKrP
namespace Go.Proofs.Ytakkfdibiboofaa
namespace Kraft

/-- From rows of bits (a number, how many bits) to where they lead. -/
abbrev Leads := Nat → Nat → Option Int

def upd (f : Leads) (a n : Nat) (v : Int) : Leads := fun a' n' => if a' = a ∧ n' = n then some v else f a' n'

/-- All shorter rows of this one lead further. -/
def down (f : Leads) (a : Nat) : Nat → Leads
  | 0 => f
  | n + 1 => down (upd f (a / 2) n (-1)) (a / 2) n

def addSym (f : Leads) (s a n : Nat) : Leads := down (upd f a n (s : Int)) a n

def tab (L : List Nat) : Nat → Leads
  | 0 => fun _ _ => none
  | i + 1 => if len L i = 0 then tab L i else addSym (tab L i) i (word L i) (len L i)

theorem down_eq : ∀ (n a : Nat) (f : Leads) (a' n' : Nat), down f a n a' n' = if n' < n ∧ a' = a / 2 ^ (n - n') then some (-1) else f a' n'
  | 0, a, f, a', n' => by unfold down; rw [if_neg (by omega)]
  | n + 1, a, f, a', n' => by
    unfold down
    rw [down_eq n (a / 2) (upd f (a / 2) n (-1)) a' n']
    have e : n' < n → a / 2 / 2 ^ (n - n') = a / 2 ^ (n + 1 - n') := fun h => by
      rw [Nat.div_div_eq_div_mul, show n + 1 - n' = (n - n') + 1 from by omega, Nat.pow_succ, Nat.mul_comm]
    by_cases h : n' < n
    · rw [e h]
      by_cases c : a' = a / 2 ^ (n + 1 - n')
      · rw [if_pos ⟨h, c⟩, if_pos ⟨by omega, c⟩]
      · rw [if_neg (by intro g; exact c g.2), if_neg (by intro g; exact c g.2)]
        unfold upd
        rw [if_neg (by omega)]
    · rw [if_neg (by omega)]
      unfold upd
      by_cases g : n' = n
      · subst g
        rw [show n' + 1 - n' = 1 from by omega, Nat.pow_one]
        by_cases c : a' = a / 2
        · rw [if_pos ⟨c, rfl⟩, if_pos ⟨by omega, c⟩]
        · rw [if_neg (by intro x; exact c x.1), if_neg (by intro x; exact c x.2)]
      · rw [if_neg (by omega), if_neg (by omega)]

theorem addSym_eq (f : Leads) (s a n a' n' : Nat) : addSym f s a n a' n' = if n' < n ∧ a' = a / 2 ^ (n - n') then some (-1) else if a' = a ∧ n' = n then some (s : Int) else f a' n' := by
  unfold addSym
  rw [down_eq]
  rfl

section
variable {L : List Nat}

/-- What a table holds is a word's, or is what a word begins with. -/
theorem tab_some : ∀ (i a n : Nat) (v : Int), tab L i a n = some v → (∃ k, k < i ∧ 0 < len L k ∧ v = (k : Int) ∧ n = len L k ∧ a = word L k) ∨ (v = -1 ∧ ∃ k, k < i ∧ n < len L k ∧ a = word L k / 2 ^ (len L k - n))
  | 0, _, _, _, h => by cases h
  | i + 1, a, n, v, h => by
    unfold tab at h
    split at h
    · rcases tab_some i a n v h with ⟨k, h1, h2⟩ | ⟨h1, k, h2, h3⟩
      · exact .inl ⟨k, by omega, h2⟩
      · exact .inr ⟨h1, k, by omega, h3⟩
    · rename_i h0
      rw [addSym_eq] at h
      split at h
      · rename_i c
        exact .inr ⟨(Option.some.inj h).symm, i, by omega, c.1, c.2⟩
      · split at h
        · rename_i c
          exact .inl ⟨i, by omega, by omega, (Option.some.inj h).symm, c.2, c.1⟩
        · rcases tab_some i a n v h with ⟨k, h1, h2⟩ | ⟨h1, k, h2, h3⟩
          · exact .inl ⟨k, by omega, h2⟩
          · exact .inr ⟨h1, k, by omega, h3⟩

variable (h20 : ∀ j, len L j ≤ 20)
include h20

theorem tab_word : ∀ (i k : Nat), i ≤ L.length → k < i → 0 < len L k → tab L i (word L k) (len L k) = some (k : Int)
  | 0, _, _, hk, _ => absurd hk (by omega)
  | i + 1, k, hi, hk, h0 => by
    unfold tab
    by_cases e : k = i
    · subst e
      rw [if_neg (by omega), addSym_eq, if_neg (by omega), if_pos ⟨rfl, rfl⟩]
    · have ih := tab_word i k (by omega) (by omega) h0
      split
      · exact ih
      · rename_i c
        rw [addSym_eq, if_neg, if_neg, ih]
        · rintro ⟨g1, g2⟩
          have := free L i k (by omega) (by omega) e (by omega) (by omega) (h20 k)
          rw [g2, Nat.sub_self, Nat.pow_zero, Nat.div_one] at this
          exact this g1
        · rintro ⟨g1, g2⟩
          exact free L k i (by omega) (by omega) (fun x => e x.symm) h0 (by omega) (h20 i) g2.symm

theorem tab_within : ∀ (i k n : Nat), i ≤ L.length → k < i → n < len L k → tab L i (word L k / 2 ^ (len L k - n)) n = some (-1)
  | 0, _, _, _, hk, _ => absurd hk (by omega)
  | i + 1, k, n, hi, hk, h0 => by
    unfold tab
    by_cases e : k = i
    · subst e
      rw [if_neg (by omega), addSym_eq, if_pos ⟨h0, rfl⟩]
    · have ih := tab_within i k n (by omega) (by omega) h0
      split
      · exact ih
      · rename_i c
        rw [addSym_eq]
        split
        · rfl
        · rw [if_neg, ih]
          rintro ⟨g1, g2⟩
          have := free L i k (by omega) (by omega) e (by omega) (by omega) (h20 k)
          rw [← g2] at this
          exact this g1

end

/-- Bits, read one by one from a row on: how many, the symbol, the error. -/
def seek (f : Leads) : Nat → Nat → List Bool → Nat × Int × Nat
  | a, n, [] => match f a n with
    | none => (0, 0, 2)
    | some s => if s = -1 then (0, 0, 2) else (0, s, 0)
  | a, n, b :: r => match f a n with
    | none => (0, 0, 2)
    | some s => if s = -1 then ((seek f (2 * a + b.toNat) (n + 1) r).1 + 1, (seek f (2 * a + b.toNat) (n + 1) r).2) else (0, s, 0)

theorem seek_none {f : Leads} {a n : Nat} (h : f a n = none) (l : List Bool) : seek f a n l = (0, 0, 2) := by cases l <;> simp [seek, h]
theorem seek_sym {f : Leads} {a n : Nat} {s : Int} (h : f a n = some s) (hs : s ≠ -1) (l : List Bool) : seek f a n l = (0, s, 0) := by cases l <;> simp [seek, h, hs]
theorem seek_end {f : Leads} {a n : Nat} (h : f a n = some (-1)) : seek f a n [] = (0, 0, 2) := by simp [seek, h]
theorem seek_on {f : Leads} {a n : Nat} (h : f a n = some (-1)) (b : Bool) (r : List Bool) :
    seek f a n (b :: r) = ((seek f (2 * a + b.toNat) (n + 1) r).1 + 1, (seek f (2 * a + b.toNat) (n + 1) r).2) := by simp [seek, h]

theorem seek_le : ∀ (f : Leads) (l : List Bool) (a n : Nat), (seek f a n l).1 ≤ l.length
  | f, [], a, n => by
    unfold seek
    split
    · exact Nat.le_refl _
    · split <;> exact Nat.le_refl _
  | f, b :: r, a, n => by
    unfold seek
    split
    · exact Nat.zero_le _
    · split
      · have := seek_le f r (2 * a + b.toNat) (n + 1)
        simpa using this
      · exact Nat.zero_le _

/-- The first m of the n bits of a number, the highest first. -/
def top (a n m : Nat) : List Bool := (List.range m).map fun j => a / 2 ^ (n - 1 - j) % 2 == 1

theorem top_length (a n m : Nat) : (top a n m).length = m := by simp [top]
theorem top_succ (a n m : Nat) : top a n (m + 1) = top a n m ++ [a / 2 ^ (n - 1 - m) % 2 == 1] := by simp [top, List.range_succ]

/-- The bits of a number from the m-th on, of n. -/
def low (a n : Nat) : Nat → List Bool
  | 0 => []
  | d + 1 => (a / 2 ^ d % 2 == 1) :: low a n d

theorem low_top (a n : Nat) : ∀ d, d ≤ n → top a n n = top a n (n - d) ++ low a n d
  | 0, _ => by simp [low]
  | d + 1, h => by
    rw [low_top a n d (by omega), show n - d = (n - (d + 1)) + 1 from by omega, top_succ, show n - 1 - (n - (d + 1)) = d from by omega, List.append_assoc]
    rfl

theorem top_low (a n : Nat) : top a n n = low a n n := by
  rw [low_top a n n (Nat.le_refl _), Nat.sub_self]
  simp [top]

theorem bit_next (a d : Nat) : a / 2 ^ d = 2 * (a / 2 ^ (d + 1)) + (a / 2 ^ d % 2 == 1 : Bool).toNat := by
  rw [Nat.pow_succ, ← Nat.div_div_eq_div_mul]
  generalize a / 2 ^ d = q
  rcases Nat.mod_two_eq_zero_or_one q with h | h
  · rw [h]; simp; omega
  · rw [h]; simp; omega

/-- What is put is got. -/
theorem seek_word {L : List Nat} (h20 : ∀ j, len L j ≤ 20) (k : Nat) (hk : k < L.length) (h0 : 0 < len L k) (r : List Bool) :
    ∀ d, d ≤ len L k → seek (tab L L.length) (word L k / 2 ^ d) (len L k - d) (low (word L k) (len L k) d ++ r) = (d, (k : Int), 0)
  | 0, _ => by
    rw [Nat.pow_zero, Nat.div_one, Nat.sub_zero]
    exact seek_sym (tab_word h20 _ k (Nat.le_refl _) hk h0) (by omega) _
  | d + 1, h => by
    have h1 := tab_within h20 L.length k (len L k - (d + 1)) (Nat.le_refl _) hk (by omega)
    rw [show len L k - (len L k - (d + 1)) = d + 1 from by omega] at h1
    show seek _ _ _ ((word L k / 2 ^ d % 2 == 1) :: (low (word L k) (len L k) d ++ r)) = _
    rw [seek_on h1, ← bit_next, show len L k - (d + 1) + 1 = len L k - d from by omega, seek_word h20 k hk h0 r d (by omega)]

theorem seek_put {L : List Nat} (h20 : ∀ j, len L j ≤ 20) (hw : weight L ≤ 1048576) (k : Nat) (hk : k < L.length) (h0 : 0 < len L k) (r : List Bool) :
    seek (tab L L.length) 0 0 (top (word L k) (len L k) (len L k) ++ r) = (len L k, (k : Int), 0) := by
  have h := seek_word h20 k hk h0 r (len L k) (Nat.le_refl _)
  rw [Nat.div_eq_of_lt (word_lt L k hk h0 (h20 k) hw), Nat.sub_self] at h
  rw [top_low]
  exact h

/-- The words of a table, the first i symbols of it. -/
def pairTo (L : List Nat) (i : Nat) : List (Nat × Nat) := (List.range L.length).map fun j => if j < i then (word L j, len L j) else (0, 0)

theorem pairTo_length (L : List Nat) (i : Nat) : (pairTo L i).length = L.length := by simp [pairTo]
theorem pairTo_get (L : List Nat) (i j : Nat) (h : j < L.length) : (pairTo L i)[j]? = some (if j < i then (word L j, len L j) else (0, 0)) := by simp [pairTo, h]
theorem pairTo_zero (L : List Nat) : pairTo L 0 = List.replicate L.length (0, 0) := by
  refine List.ext_getElem (by simp [pairTo]) (fun j h1 h2 => ?_)
  simp [pairTo]
theorem pairTo_succ (L : List Nat) (i : Nat) : pairTo L (i + 1) = (pairTo L i).set i (word L i, len L i) := by
  refine List.ext_getElem? (fun j => ?_)
  by_cases h : j < L.length
  · rw [pairTo_get L _ j h, List.getElem?_set, pairTo_length, pairTo_get L i j h]
    by_cases e : i = j
    · subst e; rw [if_pos rfl, if_pos h, if_pos (by omega)]
    · rw [if_neg e]
      by_cases g : j < i
      · rw [if_pos g, if_pos (by omega)]
      · rw [if_neg g, if_neg (by omega)]
  · rw [List.getElem?_eq_none (by rw [pairTo_length]; omega), List.getElem?_eq_none (by rw [List.length_set, pairTo_length]; omega)]
theorem pairTo_skip (L : List Nat) (i : Nat) (h0 : len L i = 0) : pairTo L (i + 1) = pairTo L i := by
  unfold pairTo
  refine List.map_congr_left (fun j _ => ?_)
  by_cases e : j = i
  · subst e
    rw [if_pos (by omega), if_neg (by omega), h0]
    unfold word
    rw [if_pos h0]
  · by_cases g : j < i
    · rw [if_pos g, if_pos (by omega)]
    · rw [if_neg g, if_neg (by omega)]

end Kraft
end Go.Proofs.Ytakkfdibiboofaa
