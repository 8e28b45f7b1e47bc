/-
  Contracts of package sufsort: ranks of places by their pairs. No conditions but that rows are small.
-/
import Derived.Test.YtjchchinmggldaaSufB
import Derived.Laws.Tables
namespace Go.Proofs.Ytjchchinmggldaa.Suf
open Go.RowKit

/-- The pairs of places in a row, and the ranks that the first k of them have. -/
def pairs (O : List Nat) (a c : Nat → Nat) (i : Nat) : Nat × Nat := (a (nth O i), c (nth O i))
def Ranks (O : List Nat) (x : Nat → Nat × Nat) (k : Nat) (R : List Nat) : Prop := R.length = O.length + 1 ∧ (∀ i, i < k → nth R (nth O i) = kd x (i + 1)) ∧ nth R O.length = 0

theorem nth_set (R : List Nat) (i j y : Nat) (h : i < R.length) : nth (R.set i y) j = if j = i then y else nth R j := by
  unfold nth
  rw [List.getD_eq_getElem?_getD, List.getD_eq_getElem?_getD, List.getElem?_set]
  by_cases e : i = j
  · subst e; simp [h]
  · rw [if_neg e, if_neg (fun h => e h.symm)]

theorem ranks_step {O : List Nat} {x : Nat → Nat × Nat} {k : Nat} {R : List Nat} (h : Ranks O x k R) (hk : k < O.length) (hm : ∀ p ∈ O, p < O.length) (hd : O.Nodup) : Ranks O x (k + 1) (R.set (nth O k) (kd x (k + 1))) := by
  obtain ⟨h1, h2, h3⟩ := h
  have hp : nth O k < O.length := by rw [nth_lt hk]; exact hm _ (List.getElem_mem _)
  refine ⟨by simpa using h1, fun i hi => ?_, ?_⟩
  · rw [nth_set _ _ _ _ (by omega)]
    by_cases e : i = k
    · subst e; rw [if_pos rfl]
    · rw [if_neg, h2 i (by omega)]
      intro e2
      rw [nth_lt hk, nth_lt (show i < O.length by omega)] at e2
      exact List.pairwise_iff_getElem.1 hd i k (by omega) hk (by omega) e2
  · rw [nth_set _ _ _ _ (by omega), if_neg (by omega), h3]

theorem kd_next (x : Nat → Nat × Nat) (k : Nat) : kd x (k + 1) = if x k = front x k then kd x k else kd x k + 1 := rfl
theorem front_next (x : Nat → Nat × Nat) (k : Nat) : front x (k + 1) = x k := by simp [front]

/-- What ranked leaves. -/
def RankSt (B : Nat) (w0 : World) (r : List Thing) (O : List Nat) (x : Nat → Nat × Nat) (en : Ending) (w' : World) : Prop :=
  ∃ (g : Nat) (R : List Nat), en = .returned (.tuple #[.slice (some ⟨g, 0, none⟩) R.length R.length, .int .i64 (kd x O.length : Int)]) ∧ Ranks O x O.length R ∧ St B w0 w' (numsT 3 g R.length R :: r)

section
variable {B : Nat} {w0 w : World} {r : List Thing}

end
end Go.Proofs.Ytjchchinmggldaa.Suf
