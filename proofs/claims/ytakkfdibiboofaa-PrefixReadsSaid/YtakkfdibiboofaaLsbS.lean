/-
  Contracts of package lsb over things that lie apart in memory. No conditions but that rows are small.
-/
import Derived.Test.YtakkfdibiboofaaLsbA
namespace Go.Proofs.Ytakkfdibiboofaa
open Go.RowKit

/-- A writer. -/
def wrT (pb : Nat) (l : List Bool) : Thing where
  holds w S := ∃ v, Wr w pb v l ∧ ∀ k, S k ↔ Mine pb v k
  keep h ho hd := by
    obtain ⟨v, h1, h2⟩ := h
    exact ⟨v, h1.only ho (fun k hk => hd k ((h2 k).2 hk)), h2⟩
  lt h hk := by
    obtain ⟨v, h1, h2⟩ := h
    exact h1.lt ((h2 _).1 hk)

/-- A reader. -/
def rdT (qb : Nat) (xs : List Nat) (p : Nat) : Thing where
  holds w S := ∃ v, Rd w qb v xs p ∧ ∀ k, S k ↔ Mine qb v k
  keep h ho hd := by
    obtain ⟨v, h1, h2⟩ := h
    exact ⟨v, h1.only ho (fun k hk => hd k ((h2 k).2 hk)), h2⟩
  lt h hk := by
    obtain ⟨v, h1, h2⟩ := h
    exact h1.lt ((h2 _).1 hk)

section
variable {B : Nat} {w0 w : World} {r : List Thing}

theorem St.wr {pb : Nat} {l : List Bool} (h : St B w0 w (wrT pb l :: r)) : ∃ v, Wr w pb v l := by
  obtain ⟨S1, ⟨v, h1, _⟩, _⟩ := h.sep
  exact ⟨v, h1⟩

theorem St.rd {qb : Nat} {xs : List Nat} {p : Nat} (h : St B w0 w (rdT qb xs p :: r)) : ∃ v, Rd w qb v xs p := by
  obtain ⟨S1, ⟨v, h1, _⟩, _⟩ := h.sep
  exact ⟨v, h1⟩

/-- A step of a writer, as a contract tells it. -/
theorem St.wrTo {pb : Nat} {l l' : List Bool} {w' : World} (h : St B w0 w (wrT pb l :: r)) (f : ∀ v, Wr w pb v l → WrTo w pb v l' w') : St B w0 w' (wrT pb l' :: r) := by
  refine h.step fun S hS => ?_
  obtain ⟨v, h1, h2⟩ := hS
  obtain ⟨v', g1, g2, g3⟩ := f v h1
  refine ⟨Mine pb v', ⟨v', g1, fun _ => Iff.rfl⟩, g2.mono (fun i _ hi => (h2 i).2 hi), fun k hk => ?_⟩
  by_cases hlt : k < w.heap.size
  · exact .inl ((h2 k).2 (Mine.of_fresh g3 hlt hk))
  · exact .inr (by omega)

/-- A contract of a writer's call, over a state. -/
theorem wr_calls {f : FuncId} {args : Array Value} {pb : Nat} {l l' : List Bool} {x : Ending} (h : St B w0 w (wrT pb l :: r))
    (c : ∀ v, Wr w pb v l → Calls Try.prog f args w fun e w' => e = x ∧ WrTo w pb v l' w') : Calls Try.prog f args w fun e w' => e = x ∧ St B w0 w' (wrT pb l' :: r) := by
  obtain ⟨S1, ⟨v, h1, h2⟩, h3, h4⟩ := h.sep
  refine (c v h1).mono ?_
  rintro e w' ⟨he, v', g1, g2, g3⟩
  refine ⟨he, ?_⟩
  have hst : St B w0 w' (wrT pb l' :: r) := by
    have hb := h
    refine ⟨h.only.trans g2 (fun i _ hi => h3 i ((h2 i).2 hi)), Nat.le_trans h.size g2.size, Mine pb v', ⟨v', g1, fun _ => Iff.rfl⟩, ?_, ?_⟩
    · intro k hk
      by_cases hlt : k < w.heap.size
      · exact h3 k ((h2 k).2 (Mine.of_fresh g3 hlt hk))
      · have := h.size; unfold From; omega
    · have e1 : Sep w r (fun k => (From B k ∧ ¬ S1 k) ∧ ¬ Mine pb v' k) := Sep.mono h4 (fun k hk hs => ⟨hs, fun h' => hs.2 ((h2 k).2 (Mine.of_fresh g3 hk h'))⟩)
      exact Sep.mono (Sep.keep g2 e1 (fun k hk hm => hk.1.2 ((h2 k).2 hm))) (fun k _ hk => ⟨hk.1.1, hk.2⟩)
  exact hst

end
end Go.Proofs.Ytakkfdibiboofaa
