/-
  Contracts of package pressworklaw05: choice. No conditions but those of the calls.
-/
import Derived.Test.YtakkfdibiboofaaLimM
namespace Go.Proofs.Ytakkfdibiboofaa.Limit
open Go.RowKit
open Go.Proofs.Ytakkfdibiboofaa.Kraft

/-- How many of the first k are above 0. -/
def posN (F : List Nat) (k : Nat) : Nat := sumTo (fun i => if 0 < nth F i then 1 else 0) k

theorem posN_all (F : List Nat) : posN F F.length = (pos F).length := by
  induction F with
  | nil => rfl
  | cons f F ih =>
    unfold posN at ih ⊢
    rw [List.length_cons, Nat.add_comm F.length 1, sumTo_split]
    have : sumTo (fun j => if 0 < nth (f :: F) (1 + j) then 1 else 0) F.length = sumTo (fun i => if 0 < nth F i then 1 else 0) F.length := sumTo_congr fun i _ => by
      rw [Nat.add_comm 1 i]; rfl
    rw [this, ih]
    unfold pos
    by_cases h : 0 < f
    · rw [List.filter_cons_of_pos (by simpa using h), List.length_cons]
      simp [sumTo, nth, h]; omega
    · rw [List.filter_cons_of_neg (by simpa using h)]
      simp [sumTo, nth, h]

theorem posN_le (F : List Nat) (k : Nat) : posN F k ≤ k := by
  have := sumTo_bound (f := fun i => if 0 < nth F i then 1 else 0) (c := 1) (n := k) (fun j _ => by split <;> omega)
  unfold posN; omega

theorem posN_succ (F : List Nat) (k : Nat) : posN F (k + 1) = posN F k + if 0 < nth F k then 1 else 0 := by unfold posN; rw [sumTo]

/-- The first two of what a choice is. -/
def Fits (F O : List Nat) (L k : Nat) : Prop := ∀ i, i < k → (0 < nth O i ↔ 0 < nth F i) ∧ nth O i ≤ L

theorem choice_of {F O : List Nat} {L : Nat} (hl : O.length = F.length) (h : Fits F O L F.length) (hf : 2 ≤ (pos F).length → kraft L O = 2 ^ L) (ho : (pos F).length < 2 → ∀ i, i < F.length → nth O i ≤ 1) : Choice F L O :=
  ⟨hl, fun i hi => (h i hi).1, fun i hi => (h i hi).2, hf, ho⟩

theorem kraft_ge (L : Nat) (O : List Nat) : (pos O).length ≤ kraft L O := by
  induction O with
  | nil => simp [pos]
  | cons o O ih =>
    rw [kraft_cons]
    unfold pos at ih ⊢
    by_cases h : o = 0
    · subst h
      rw [List.filter_cons_of_neg (by simp), if_pos rfl]
      omega
    · rw [List.filter_cons_of_pos (by simp; omega), if_neg h, List.length_cons]
      have := Nat.two_pow_pos (L - o)
      omega

/-- Where there is a choice there are not too many symbols. -/
theorem choice_few {F O : List Nat} {L : Nat} (h : Choice F L O) : (pos F).length ≤ 2 ^ L := by
  by_cases h2 : 2 ≤ (pos F).length
  · have h1 := kraft_ge L O
    rw [h.full h2, pos_length_eq h.length h.some] at h1
    exact h1
  · have := Nat.two_pow_pos L
    omega

/-- Lengths of such frequencies, of a state. -/
theorem lengths_ok {B : Nat} {w0 w : World} {r : List Thing} (st : St B w0 w r) (v : Value) (xs : List Int) (L : Nat) (h : IntRow w v xs) (hx : ∀ x ∈ xs, 0 ≤ x ∧ x ≤ 1099511627776) (hn : xs.length ≤ 512) (hL : 1 ≤ L ∧ L ≤ 17) (hp : (pos (xs.map Int.toNat)).length ≤ 2 ^ L) :
    Calls Try.prog 27 #[v, .int .i64 (L : Int)] w fun e w' => ∃ u, e = .returned (.tuple #[u, .int .i64 0]) ∧ St B w0 w' (rowT 5 1 u xs.length (u8s (lengths (xs.map Int.toNat) (rare (xs.map Int.toNat)) L)) :: r) := by
  have hf : fitsB xs (L : Int) = true := (fitsB_iff xs L).2 ⟨by omega, hn, hx⟩
  have he : errOf xs (L : Int) = 0 := errOf_ok hf (by simpa using hp)
  have ha := lensAns_ok he
  refine (lengths_st st v xs (L : Int) h).mono ?_
  rintro e w' ⟨u, rfl, s⟩
  refine ⟨u, by rw [he]; rfl, ?_⟩
  have e1 : (Int.toNat (L : Int)) = L := by simp
  rw [ha, lengths_length, List.length_map, e1] at s
  exact s

theorem lengths_bytes (F S : List Nat) (L : Nat) (h : Rare F S) (hL : 1 ≤ L ∧ L ≤ 17) (hp : (pos F).length ≤ 2 ^ L) : ∀ x ∈ lengths F S L, x < 256 := by
  intro x hx
  obtain ⟨i, hi, rfl⟩ := nth_mem hx
  have := (lengths_choice h hL.1 (by rw [pos_perm_length h]; exact hp)).limit i (by rwa [lengths_length] at hi)
  omega

end Go.Proofs.Ytakkfdibiboofaa.Limit
