/-
  The document's Same; the laws' examples. No conditions but that rows are small.
-/
import Derived.Test.YtpinfihmageeoaaGreatFrV
import Derived.Test.YtpinfihmageeoaaGreatFrH
namespace Go.Proofs.YtpinfihmageeoaaGreat.Fr
open Go.RowKit Crc

/-- A row of bytes written out in the text, of any marks. -/
def litT (b : Nat) (xs : List Nat) (fr : Nat × Nat) : Thing where
  holds w S := w.heap[b]? = some (.cells (u8s xs).toArray 5 fr) ∧ ∀ k, S k ↔ k = b
  keep := by
    rintro w w' S T ⟨h1, h2⟩ ho hd
    exact ⟨ho.at h1 (hd b ((h2 b).2 rfl)), h2⟩
  lt := by
    rintro w S k ⟨h1, h2⟩ hk
    obtain rfl := (h2 k).1 hk
    exact lt_of_block h1

section
variable {B : Nat} {w0 w : World} {r : List Thing}

theorem _root_.Go.Proofs.YtpinfihmageeoaaGreat.St.newLit (st : St B w0 w r) (xs : List Nat) (fr : Nat × Nat) : St B w0 (w.alloc (.cells (u8s xs).toArray 5 fr)) (litT w.heap.size xs fr :: r) :=
  st.add (S := fun k => k = w.heap.size) (below_alloc _ _) ⟨heap_alloc_new w _, fun _ => Iff.rfl⟩ (fun k hk => by omega)

theorem _root_.Go.Proofs.YtpinfihmageeoaaGreat.St.litRow11 {b : Nat} {xs : List Nat} {fr : Nat × Nat} (st : St B w0 w (litT b xs fr :: r)) (hb : ∀ x ∈ xs, x < 256) : ByteRow w (.slice (some ⟨b, 0, none⟩) xs.length xs.length) xs := by
  obtain ⟨S1, h1, _⟩ := st.sep
  refine ⟨_, xs.length, rfl, Nat.le_refl _, (fun e => by cases e), fun i hi => ⟨hb _ (List.getElem_mem hi), b, 0, rfl, ?_⟩⟩
  rw [Nat.zero_add, cell_of_row _ b i (u8s xs).toArray 5 fr h1.1]
  simp [u8s, hi]
end

/-- The example's head. -/
def exH : Gz := ⟨false, 0, 0, 3, [], [97], [], 2, false⟩
def exB : List Nat := [31, 139, 8, 8, 0, 0, 0, 0, 0, 3, 97, 0]
def exM : List Nat := [31, 139, 8, 8, 0, 0, 0, 0, 0, 3, 97, 0, 109, 111, 114, 101]
def exD : List Nat := [49, 50, 51, 52, 53, 54, 55, 56, 57]
def exT : List Nat := [38, 57, 244, 203, 9, 0, 0, 0]
theorem exH_fits : Fits exH := ⟨by decide, by decide, by decide, by decide, by decide, by decide, by decide⟩
theorem exH_may : may exH = true := by decide
theorem exH_bytes : bytesOf exH = exB := by decide +kernel
theorem exM_got : get exM = some ⟨12, exH, false⟩ := by
  have h := get_put exH_fits exH_may [109, 111, 114, 101]
  rw [exH_bytes] at h
  exact h
theorem exD_tail : tailOf exD = exT := by
  unfold tailOf exD
  rw [low_digits]
  decide

theorem exB_str : strOf exB = ⟨#[31, 139, 8, 8, 0, 0, 0, 0, 0, 3, 97, 0]⟩ := by decide
theorem exT_str : strOf exT = ⟨#[38, 57, 244, 203, 9, 0, 0, 0]⟩ := by decide

end Go.Proofs.YtpinfihmageeoaaGreat.Fr
