/-
  Contract of pressworkref13.Places. No conditions but that rows are small.
-/
import Derived.Test.YtfifkbadniekfaaSufI
namespace Go.Proofs.Ytfifkbadniekfaa.Suf
open Go.RowKit

/-- The first k numbers have been found, each once. -/
def Found (xs : List Int) (k : Nat) (L : List Nat) : Prop := L.length = xs.length ∧ ∀ i, i < k → ∃ v, L[i]? = some v ∧ xs[v]? = some (i : Int)

/-- So often has a number been seen among the first p. -/
def Seen (xs : List Int) (k p c : Nat) (L : List Nat) : Prop :=
  c ≤ p ∧ ((c = 0 ∧ ∀ q : Nat, q < p → xs[q]? ≠ some (k : Int)) ∨ (c = 1 ∧ ∃ v, v < p ∧ L[k]? = some v ∧ xs[v]? = some (k : Int)) ∨ (2 ≤ c ∧ ∃ a b : Nat, a ≠ b ∧ xs[a]? = some (k : Int) ∧ xs[b]? = some (k : Int)))

theorem seen_other {xs : List Int} {k p c : Nat} {L : List Nat} (h : Seen xs k p c L) (hx : xs[p]? ≠ some (k : Int)) : Seen xs k (p + 1) c L := by
  obtain ⟨h0, h⟩ := h
  refine ⟨by omega, ?_⟩
  rcases h with ⟨h1, h2⟩ | ⟨h1, v, h2, h3⟩ | h
  · refine .inl ⟨h1, fun q hq => ?_⟩
    by_cases e : q = p
    · subst e; exact hx
    · exact h2 q (by omega)
  · exact .inr (.inl ⟨h1, v, by omega, h3⟩)
  · exact .inr (.inr h)

theorem seen_hit {xs : List Int} {k p c : Nat} {L : List Nat} (h : Seen xs k p c L) (hx : xs[p]? = some (k : Int)) (hk : k < L.length) : Seen xs k (p + 1) (c + 1) (L.set k p) := by
  obtain ⟨h0, h⟩ := h
  refine ⟨by omega, ?_⟩
  rcases h with ⟨h1, h2⟩ | ⟨h1, v, h2, h3, h4⟩ | ⟨h1, h2⟩
  · exact .inr (.inl ⟨by omega, p, by omega, by rw [List.getElem?_set_self hk], hx⟩)
  · exact .inr (.inr ⟨by omega, v, p, by omega, h4, hx⟩)
  · exact .inr (.inr ⟨by omega, h2⟩)

theorem found_set {xs : List Int} {k p : Nat} {L : List Nat} (h : Found xs k L) : Found xs k (L.set k p) := by
  refine ⟨by simpa using h.1, fun i hi => ?_⟩
  obtain ⟨v, h1, h2⟩ := h.2 i hi
  exact ⟨v, by rw [List.getElem?_set_ne (by omega)]; exact h1, h2⟩

theorem found_next {xs : List Int} {k : Nat} {L : List Nat} (h : Found xs k L) (hs : Seen xs k xs.length 1 L) : Found xs (k + 1) L := by
  refine ⟨h.1, fun i hi => ?_⟩
  by_cases e : i = k
  · subst e
    rcases hs.2 with ⟨h1, _⟩ | ⟨_, v, _, h3, h4⟩ | ⟨h1, _⟩
    · omega
    · exact ⟨v, h3, h4⟩
    · omega
  · exact h.2 i (by omega)

theorem found_end {xs : List Int} {L : List Nat} (h : Found xs xs.length L) : Inv xs L := by
  refine ⟨h.1, fun i hi => ?_⟩
  obtain ⟨v, h1, h2⟩ := h.2 i (by rw [← h.1]; exact hi)
  rw [List.getElem?_eq_getElem hi] at h1
  rw [Option.some.inj h1]
  exact h2

theorem no_inv_seen {xs : List Int} {k c : Nat} {L : List Nat} (hk : k < xs.length) (hs : Seen xs k xs.length c L) (hc : c ≠ 1) (J : List Nat) : ¬ Inv xs J := by
  rcases hs.2 with ⟨_, h2⟩ | ⟨h1, _⟩ | ⟨_, a, b, h1, h2, h3⟩
  · refine no_inv_none hk (fun p e => ?_) J
    exact h2 p (List.getElem?_eq_some_iff.1 e).1 e
  · omega
  · exact no_inv_twice h2 h3 h1 J

section
variable {B : Nat} {w0 w : World} {r : List Thing}

end
end Go.Proofs.Ytfifkbadniekfaa.Suf
