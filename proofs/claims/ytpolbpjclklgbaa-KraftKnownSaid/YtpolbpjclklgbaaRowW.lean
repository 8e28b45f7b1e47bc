/-
  What layers share, besides: rows of numbers of 32 bits that the call has made. No conditions.
-/
import Derived.Test.YtpolbpjclklgbaaRowB
namespace Go.Proofs.Ytpolbpjclklgbaa
open Go.RowKit

theorem info32 : (Try.prog.info? 25).map (fun i => (i.zero, i.size, i.bytes)) = some (some (.int .u32 0), 1, 4) := by kernel_rfl

/-- A row of the call's own at block g, of n numbers of 32 bits. -/
abbrev wordsT (g n : Nat) (xs : List Nat) : Thing := rowT 25 1 (.slice (some ⟨g, 0, none⟩) n n) n (u32s xs)

theorem St.wordCell {B : Nat} {w0 w : World} {g n : Nat} {xs : List Nat} {r : List Thing} (h : St B w0 w (wordsT g n xs :: r)) (i : Nat) (hl : xs.length = n) (hi : i < n) :
    w.cell? ⟨g, i, none⟩ = some (.int .u32 (xs[i]'(by omega) : Int)) ∧ w.frozen? ⟨g, i, none⟩ = false := by
  refine ⟨?_, h.row.frozenAt i⟩
  rw [h.row.cellAt i (by omega), u32s_get _ _ (by omega)]

/-- A store of a number. -/
theorem St.putWord {B : Nat} {w0 w : World} {g n : Nat} {xs : List Nat} {r : List Thing} (h : St B w0 w (wordsT g n xs :: r)) (i x : Nat) : St B w0 (w.setCell ⟨g, i, none⟩ (.int .u32 (x : Int))) (wordsT g n (xs.set i x) :: r) := by
  have := h.stored i (.int .u32 (x : Int))
  rwa [← u32s_set] at this

/-- 'make([]uint32, n)'. -/
theorem St.madeWords {B : Nat} {w0 w w' : World} {r : List Thing} {n : Nat} (h : St B w0 w r) (hown : w'.ownsRow w.heap.size 25 1 (.slice (some ⟨w.heap.size, 0, none⟩) n n) n (madeCells #[Value.int .u32 0] n).toList) (hg : w.grownBy w' none) :
    St B w0 w' (wordsT w.heap.size n (List.replicate n 0) :: r) := by
  rw [toList_madeCells_one, show List.replicate n (Value.int .u32 0) = u32s (List.replicate n 0) from by simp [u32s]] at hown
  exact h.addRow ((Below.refl w.heap.size w).grown hg (Nat.le_refl _) (by simp)) hown

/-- Two rows of the call's own lie apart, or one of them is nil. -/
theorem St.apartV {B : Nat} {w0 w : World} {e e' : TypeId} {s s' n n' : Nat} {v v' : Value} {xs ys : List Value} {r : List Thing} (h : St B w0 w (rowT e s v n xs :: rowT e' s' v' n' ys :: r)) (k : Nat) (hk : v.ownBlock = some k) : v'.ownBlock ≠ some k := by
  obtain ⟨S1, h1, _, S2, h3, h4, _⟩ := h.sep
  intro e
  exact (h4 k ((h3.2 k).2 e)).2 ((h1.2 k).2 hk)

end Go.Proofs.Ytpolbpjclklgbaa
