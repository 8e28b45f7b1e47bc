/-
  What layers share, besides: a thing of a state's list to the front; one cell of a variable is written. No program. No conditions.
-/
import Derived.Test.YtjchchinmggldaaBox
namespace Go.Proofs.Ytjchchinmggldaa
open Go.RowKit

/-- A thing of a state's list, to the front. -/
def toFront : Nat → List Thing → List Thing
  | 0, l => l
  | _, [] => []
  | n + 1, A :: r => match toFront n r with
    | [] => [A]
    | C :: r' => C :: A :: r'

theorem Sep.front {w : World} : ∀ (n : Nat) (l : List Thing) (S : Nat → Prop), Sep w l S → Sep w (toFront n l) S
  | 0, _, _, h => h
  | n + 1, [], _, h => h
  | n + 1, A :: r, S, h => by
    have h1 : Sep w (A :: toFront n r) S := Sep.under (fun S' h' => Sep.front n r S' h') h
    unfold toFront
    cases e : toFront n r with
    | nil => rw [e] at h1; exact h1
    | cons C r' => rw [e] at h1; exact h1.swap

theorem St.front {B : Nat} {w0 w : World} {l : List Thing} (n : Nat) (h : St B w0 w l) : St B w0 w (toFront n l) := ⟨h.only, h.size, Sep.front n l _ h.sep⟩

/-- One cell of a variable is written. -/
theorem St.setBoxAt {B : Nat} {w0 w : World} {r : List Thing} {b : Nat} {cs : Array Value} {t : TypeId} (st : St B w0 w (boxT b cs t :: r)) (j : Nat) (u : Value) : St B w0 (w.setCell ⟨b, j, none⟩ u) (boxT b (cs.setIfInBounds j u) t :: r) := by
  refine st.step fun S hS => ⟨S, ⟨heap_setCell_same _ b j _ t _ hS.1, hS.2⟩, ?_, fun k hk => .inl hk⟩
  have hg : S b := (hS.2 b).2 rfl
  exact (Only.refl _ _).setCell (fun _ => hg) _

end Go.Proofs.Ytjchchinmggldaa
