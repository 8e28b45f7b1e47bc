/-
  What two answers of layer 14 have in common. No conditions.
-/
import Derived.Test.YtfifkbadniekfaaLcpF
import Derived.Test.YtfifkbadniekfaaLcpG
namespace Go.Proofs.Ytfifkbadniekfaa.Lcp
open Go.RowKit Go.Proofs.Ytfifkbadniekfaa.Suf

/-- What Heights answers, as numbers. -/
def HAns (b : List Nat) (xs : List Int) (L : List Nat) (f : Int) : Prop :=
  (∃ O : List Nat, xs = (O.map fun x : Nat => (x : Int)) ∧ Whole b.length (Ahead false b) O ∧ L = hts b O ∧ f = 0) ∨
  ((∀ O : List Nat, xs = (O.map fun x : Nat => (x : Int)) → ¬ Whole b.length (Ahead false b) O) ∧ L = [] ∧ f = 5)

theorem HAns.one {b : List Nat} {xs : List Int} {L L' : List Nat} {f f' : Int} (h : HAns b xs L f) (h' : HAns b xs L' f') : L = L' ∧ f = f' := by
  rcases h with ⟨O, h1, h2, h3, h4⟩ | ⟨h1, h2, h3⟩ <;> rcases h' with ⟨O', g1, g2, g3, g4⟩ | ⟨g1, g2, g3⟩
  · obtain rfl := ints_one (h1.symm.trans g1)
    exact ⟨h3.trans g3.symm, h4.trans g4.symm⟩
  · exact absurd h2 (g1 O h1)
  · exact absurd g2 (h1 O' g1)
  · exact ⟨h2.trans g2.symm, h3.trans g3.symm⟩

theorem hts_le {b O : List Nat} (h : Whole b.length (Ahead false b) O) : ∀ x ∈ hts b O, x ≤ b.length := by
  intro x hx
  obtain ⟨i, hi, rfl⟩ := List.mem_iff_getElem.1 hx
  unfold hts at hi ⊢
  rw [tab_get]
  rw [tab_length, h.len] at hi
  unfold hAt
  split
  · omega
  · have := com_le b (nth O (i - 1)) (nth O i) (Nat.le_of_lt (Whole.at h (by omega))) (Nat.le_of_lt (Whole.at h hi))
    omega

theorem HAns.le {b : List Nat} {xs : List Int} {L : List Nat} {f : Int} (h : HAns b xs L f) (hb : b.length ≤ 1000) : L.length ≤ 1000 ∧ ∀ x ∈ L, x ≤ 1000000 := by
  rcases h with ⟨O, _, h2, rfl, _⟩ | ⟨_, rfl, _⟩
  · exact ⟨by rw [hts_length, h2.len]; exact hb, fun x hx => by have := hts_le h2 x hx; omega⟩
  · exact ⟨by simp, fun x hx => by cases hx⟩

theorem HeightsSt.row {B : Nat} {w0 w' : World} {r : List Thing} {b : List Nat} {xs : List Int} {en : Ending} (h : HeightsSt B w0 r b xs en w') :
    ∃ (L : List Nat) (f : Int) (v : Value), HAns b xs L f ∧ en = .returned (.tuple #[v, .int .i64 f]) ∧ St B w0 w' (rowT 3 1 v L.length (i64s L) :: r) := by
  rcases h with ⟨O, g, h1, h2, h3, h4⟩ | ⟨h1, h2, h3⟩
  · refine ⟨hts b O, 0, _, .inl ⟨O, h1, h2, rfl, rfl⟩, h3, ?_⟩
    rw [hts_length, h2.len]
    exact h4
  · exact ⟨[], 5, _, .inr ⟨h1, rfl, rfl⟩, h2, h3.addNil⟩

theorem ComAns.same {xs : List Int} {p q : Int} {e e' : Ending} (h : ComAns xs p q e) (h' : ComAns xs p q e') : ∃ n f : Int, e = .returned (.tuple #[.int .i64 n, .int .i64 f]) ∧ e' = .returned (.tuple #[.int .i64 n, .int .i64 f]) := by
  rcases h with ⟨h1, h2⟩ | ⟨i, j, m, h1, h2, h3, h4, h5, h6⟩ <;> rcases h' with ⟨g1, g2⟩ | ⟨i', j', m', g1, g2, g3, g4, g5, g6⟩
  · exact ⟨0, 5, h2, g2⟩
  · omega
  · omega
  · obtain rfl : i = i' := by omega
    obtain rfl : j = j' := by omega
    exact ⟨m, 0, h6, by rw [g6, h5.one g5]⟩

end Go.Proofs.Ytfifkbadniekfaa.Lcp
