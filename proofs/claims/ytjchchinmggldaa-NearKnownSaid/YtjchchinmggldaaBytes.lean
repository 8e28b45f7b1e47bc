/-
  Slices of bytes: those that came in, those in new memory. No conditions.
-/
import Derived.Test.YtjchchinmggldaaGen
import Derived.Test.YtjchchinmggldaaChecked
import Derived.Deep.Slices
import Derived.ProofKit
namespace Go.Proofs.Ytjchchinmggldaa
open Go.RowKit Go.ChangeShapes Go.WideShapes Go.Deep

theorem info8 : (Try.prog.info? 5).map (fun i => (i.zero, i.size, i.bytes)) = some (some (.int .u8 0), 1, 1) := by kernel_rfl

/-- Bytes in new memory. -/
def NewBytes (w : World) (xs : List Nat) (e : Ending) (w' : World) : Prop := ∃ v', e = .returned v' ∧ w'.ownsRow w.heap.size 5 1 v' xs.length (u8s xs) ∧ Below w.heap.size w w'

/-- A row of bytes written out in the text: its slice reads as them. -/
theorem reads_lit (w : World) (xs : List Nat) : Reads (w.alloc (.cells (u8s xs).toArray 5)) (.slice (some ⟨w.heap.size, 0, none⟩) xs.length xs.length) (u8s xs) := by
  refine .inr ⟨_, xs.length, by rw [u8s_length], ?_⟩
  intro j u hu
  have hadd : (⟨w.heap.size, 0, none⟩ : Addr).add j = ⟨w.heap.size, j, none⟩ := by unfold Addr.add; split <;> simp_all
  rw [hadd, cell_of_row _ w.heap.size j (u8s xs).toArray 5 (0, 0) (heap_alloc_new w _)]
  simpa using hu

/-- Bytes: a new slice. -/
def BytesSt (B : Nat) (w0 : World) (r : List Thing) (xs : List Nat) (e : Ending) (w' : World) : Prop := ∃ v', e = .returned v' ∧ St B w0 w' (rowT 5 1 v' xs.length (u8s xs) :: r)

/-- A slice that reads as these bytes. -/
def ByteRow (w : World) (v : Value) (xs : List Nat) : Prop := ∃ a cap, v = .slice a xs.length cap ∧ xs.length ≤ cap ∧ (a = none → cap = 0) ∧ ∀ (i : Nat) (h : i < xs.length), xs[i] < 256 ∧ ∃ b off, a = some ⟨b, off, none⟩ ∧ w.cell? ⟨b, off + i, none⟩ = some (.int .u8 (xs[i] : Int))

theorem ByteRow.reads {w : World} {v : Value} {xs : List Nat} (h : ByteRow w v xs) : Reads w v (u8s xs) := by
  obtain ⟨a, cap, rfl, hc, hn, hat⟩ := h
  cases a with
  | none =>
    have := hn rfl
    have h0 : xs = [] := List.eq_nil_of_length_eq_zero (by omega)
    subst h0 this
    exact .inl ⟨rfl, rfl⟩
  | some a =>
    refine .inr ⟨a, cap, by rw [u8s_length], fun j u hu => ?_⟩
    have hj : j < xs.length := by
      have := (List.getElem?_eq_some_iff.1 hu).1
      rwa [u8s_length] at this
    obtain ⟨_, b, off, e, hcell⟩ := hat j hj
    obtain rfl := Option.some.inj e
    rw [add_none, hcell, ← hu, u8s_get _ _ hj]

theorem ByteRow.byte {w : World} {v : Value} {xs : List Nat} (h : ByteRow w v xs) : ∀ x ∈ xs, x < 256 := by
  obtain ⟨a, cap, rfl, hc, hn, hat⟩ := h
  intro x hx
  obtain ⟨i, hi, rfl⟩ := List.getElem_of_mem hx
  exact (hat i hi).1

theorem ByteRow.below {w w' : World} {B : Nat} {v : Value} {xs : List Nat} (h : ByteRow w v xs) (hb : RowKit.Below B w w') (hB : w.heap.size ≤ B) : ByteRow w' v xs := by
  obtain ⟨a, cap, h1, h2, h3, h4⟩ := h
  refine ⟨a, cap, h1, h2, h3, fun i hi => ⟨(h4 i hi).1, ?_⟩⟩
  obtain ⟨_, b, off, e, hc⟩ := h4 i hi
  have lt := World.block_lt_of_cell? w _ hc
  exact ⟨b, off, e, (hb.cell (p := ⟨b, off + i, none⟩) (Nat.lt_of_lt_of_le lt hB)).trans hc⟩

section
open Go.ChangeShapes Go.WideShapes
variable {H : Type} {enc : TypeId × Value → H} {W : World}

end

end Go.Proofs.Ytjchchinmggldaa
