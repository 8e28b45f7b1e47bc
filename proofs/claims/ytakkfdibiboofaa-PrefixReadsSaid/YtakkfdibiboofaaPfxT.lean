/-
  Plain facts for stage 6: a row's beginning as a number; which words begin with it. And strings of bytes that differ. No program. No conditions.
-/
import Derived.Test.YtakkfdibiboofaaPfxS
namespace Go.Proofs.Ytakkfdibiboofaa
open Kraft

/-- A row's number, the first bit the highest. -/
def numTop (p : List Bool) : Nat := p.foldl (fun a b => 2 * a + b.toNat) 0

theorem numTop_snoc (p : List Bool) (b : Bool) : numTop (p ++ [b]) = 2 * numTop p + b.toNat := by simp [numTop]

theorem numTop_inj : ∀ (n : Nat) (p q : List Bool), p.length = n → q.length = n → numTop p = numTop q → p = q
  | 0, p, q, hp, hq, _ => by rw [List.eq_nil_of_length_eq_zero hp, List.eq_nil_of_length_eq_zero hq]
  | n + 1, p, q, hp, hq, h => by
    obtain ⟨p', b, rfl⟩ : ∃ p' b, p = p' ++ [b] := ⟨p.dropLast, p.getLast (by intro e; simp [e] at hp), (List.dropLast_concat_getLast _).symm⟩
    obtain ⟨q', c, rfl⟩ : ∃ q' c, q = q' ++ [c] := ⟨q.dropLast, q.getLast (by intro e; simp [e] at hq), (List.dropLast_concat_getLast _).symm⟩
    rw [numTop_snoc, numTop_snoc] at h
    have hb : b.toNat ≤ 1 := by cases b <;> simp
    have hc : c.toNat ≤ 1 := by cases c <;> simp
    have e1 : b = c := by
      have : b.toNat = c.toNat := by omega
      cases b <;> cases c <;> simp_all
    have e2 := numTop_inj n p' q' (by simpa using hp) (by simpa using hq) (by omega)
    rw [e1, e2]

theorem numTop_top (a n : Nat) (ha : a < 2 ^ n) : ∀ m, m ≤ n → numTop (top a n m) = a / 2 ^ (n - m)
  | 0, _ => by rw [Nat.sub_zero, Nat.div_eq_of_lt ha]; rfl
  | m + 1, h => by
    rw [top_succ, numTop_snoc, numTop_top a n ha m (by omega), show n - 1 - m = n - (m + 1) from by omega]
    have := bit_next a (n - (m + 1))
    rw [show n - (m + 1) + 1 = n - m from by omega] at this
    exact this.symm

theorem top_take (a n m : Nat) (h : m ≤ n) : (top a n n).take m = top a n m := by
  unfold top
  rw [← List.map_take, List.take_range, Nat.min_eq_left h]

/-- A row is a word's beginning. -/
theorem fits_iff {L : List Nat} (h20 : ∀ j, len L j ≤ 20) (hw : weight L ≤ 1048576) (j : Nat) (hj : j < L.length) (h0 : 0 < len L j) (p : List Bool) :
    (p.length ≤ len L j ∧ (wordBits L (j : Int)).take p.length = p) ↔ (p.length ≤ len L j ∧ word L j / 2 ^ (len L j - p.length) = numTop p) := by
  have hlt := word_lt L j hj h0 (h20 j) hw
  constructor
  · rintro ⟨h1, h2⟩
    refine ⟨h1, ?_⟩
    rw [wordBits_nat, top_take _ _ _ h1] at h2
    rw [← numTop_top _ _ hlt _ h1, h2]
  · rintro ⟨h1, h2⟩
    refine ⟨h1, ?_⟩
    rw [wordBits_nat, top_take _ _ _ h1]
    refine numTop_inj p.length _ _ (top_length _ _ _) rfl ?_
    rw [numTop_top _ _ hlt _ h1, h2]

/-- Does the word of symbol j begin with this row? -/
def Fit (L : List Nat) (p : List Bool) (j : Nat) : Prop := 0 < len L j ∧ p.length ≤ len L j ∧ (wordBits L (j : Int)).take p.length = p

instance (L : List Nat) (p : List Bool) (j : Nat) : Decidable (Fit L p j) := by unfold Fit; exact inferInstance

section
variable {L : List Nat} (h20 : ∀ j, len L j ≤ 20) (hw : weight L ≤ 1048576)
include h20 hw

theorem tab_exact {p : List Bool} {j : Nat} (hj : j < L.length) (h : Fit L p j) (he : len L j = p.length) : tab L L.length (numTop p) p.length = some (j : Int) := by
  obtain ⟨h0, h1, h2⟩ := h
  have := ((fits_iff h20 hw j hj h0 p).1 ⟨h1, h2⟩).2
  rw [he, Nat.sub_self, Nat.pow_zero, Nat.div_one] at this
  rw [← this, ← he]
  exact tab_word h20 _ j (Nat.le_refl _) hj h0

theorem tab_longer {p : List Bool} {j : Nat} (hj : j < L.length) (h : Fit L p j) (he : len L j ≠ p.length) : tab L L.length (numTop p) p.length = some (-1) := by
  obtain ⟨h0, h1, h2⟩ := h
  have := ((fits_iff h20 hw j hj h0 p).1 ⟨h1, h2⟩).2
  rw [← this]
  exact tab_within h20 _ j _ (Nat.le_refl _) hj (by omega)

theorem tab_nothing {p : List Bool} (h : ∀ j, j < L.length → ¬ Fit L p j) : tab L L.length (numTop p) p.length = none := by
  cases e : tab L L.length (numTop p) p.length with
  | none => rfl
  | some v =>
    exfalso
    rcases tab_some _ _ _ _ e with ⟨k, h1, h2, _, h4, h5⟩ | ⟨_, k, h1, h2, h3⟩
    · exact h k h1 ⟨h2, by omega, ((fits_iff h20 hw k h1 h2 p).2 ⟨by omega, by rw [h4, Nat.sub_self, Nat.pow_zero, Nat.div_one]; exact h5.symm⟩).2⟩
    · exact h k h1 ⟨by omega, by omega, ((fits_iff h20 hw k h1 (by omega) p).2 ⟨by omega, h3.symm⟩).2⟩

end

theorem rest_drop (f : Nat → Bool) (m p : Nat) : rest f m p = (rest f m 0).drop p := by
  refine List.ext_getElem ?_ (fun i h1 h2 => ?_)
  · rw [List.length_drop, rest_length, rest_length]
    omega
  · rw [List.getElem_drop]
    simp [rest]

theorem nats_inj {p q : List Bool} (h : nats p = nats q) : p = q := by
  refine (List.map_inj_right ?_).1 h
  intro a b hab
  cases a <;> cases b <;> simp_all

/-- Strings of bytes are alike if the bytes are. -/
theorem strOf_inj {xs ys : List Nat} (hx : ∀ x ∈ xs, x < 256) (hy : ∀ y ∈ ys, y < 256) : strOf xs = strOf ys ↔ xs = ys := by
  constructor
  · intro h
    have h1 := congrArg (fun s : ByteArray => s.data.toList) h
    simp only [strOf_data] at h1
    have h2 := congrArg (List.map UInt8.toNat) h1
    rw [List.map_map, List.map_map] at h2
    have e : ∀ zs : List Nat, (∀ z ∈ zs, z < 256) → zs.map (UInt8.toNat ∘ UInt8.ofNat) = zs := fun zs hz => by
      conv => rhs; rw [← List.map_id zs]
      refine List.map_congr_left (fun z hz' => ?_)
      have := hz z hz'
      simp
      omega
    rw [e xs hx, e ys hy] at h2
    exact h2
  · intro h; rw [h]

end Go.Proofs.Ytakkfdibiboofaa
