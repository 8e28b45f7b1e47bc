/-
  A variable of the call's own (a block of its own), as a thing. No program. No conditions.
-/
import Derived.Test.YtjchchinmggldaaSep
namespace Go.Proofs.Ytjchchinmggldaa
open Go.RowKit

/-- A block of the call's own that holds these cells. -/
def boxT (b : Nat) (cs : Array Value) (t : TypeId) : Thing where
  holds w S := w.heap[b]? = some (.cells cs t (0, 0)) ∧ ∀ k, S k ↔ k = b
  keep := by
    rintro w w' S T ⟨h1, h2⟩ ho hd
    exact ⟨ho.at h1 (hd b ((h2 b).2 rfl)), h2⟩
  lt := by
    rintro w S k ⟨h1, h2⟩ hk
    obtain rfl := (h2 k).1 hk
    exact lt_of_block h1

section
variable {B : Nat} {w0 w : World} {r : List Thing}

theorem St.newBox (st : St B w0 w r) (cs : Array Value) (t : TypeId) : St B w0 (w.alloc (.cells cs t)) (boxT w.heap.size cs t :: r) :=
  st.add (S := fun k => k = w.heap.size) (below_alloc _ _) ⟨heap_alloc_new w _, fun _ => Iff.rfl⟩ (fun k hk => by omega)

theorem St.box {b : Nat} {cs : Array Value} {t : TypeId} (st : St B w0 w (boxT b cs t :: r)) : w.heap[b]? = some (.cells cs t (0, 0)) := by
  obtain ⟨S1, h1, _⟩ := st.sep
  exact h1.1

theorem St.boxAt {b : Nat} {cs : Array Value} {t : TypeId} (st : St B w0 w (boxT b cs t :: r)) (j : Nat) : w.cell? ⟨b, j, none⟩ = cs[j]? ∧ w.frozen? ⟨b, j, none⟩ = false := by
  refine ⟨cell_of_row _ b j cs t (0, 0) st.box, ?_⟩
  simp [World.frozen?, st.box]

/-- A store into it. -/
theorem St.setBox {b : Nat} {u : Value} {t : TypeId} (st : St B w0 w (boxT b #[u] t :: r)) (u' : Value) : St B w0 (w.setCell ⟨b, 0, none⟩ u') (boxT b #[u'] t :: r) := by
  refine st.step fun S hS => ⟨S, ⟨?_, hS.2⟩, ?_, fun k hk => .inl hk⟩
  · exact heap_setCell_same _ b 0 _ t _ hS.1
  · have hg : S b := (hS.2 b).2 rfl
    exact (Only.refl _ _).setCell (fun _ => hg) _

end
end Go.Proofs.Ytjchchinmggldaa
