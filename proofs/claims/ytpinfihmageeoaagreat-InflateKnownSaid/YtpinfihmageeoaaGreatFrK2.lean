/-
  A string's bytes, made a row. No conditions.
-/
import Derived.Test.YtpinfihmageeoaaGreatFrK
import Derived.Lib.AtoiErrMem
import Derived.Laws.AppendOwn
namespace Go.Proofs.YtpinfihmageeoaaGreat.Fr
open Go.RowKit Crc

/-- A row of bytes, of any marks, whatever stands behind them. -/
def strT (b : Nat) (cs : Array Value) (fr : Nat × Nat) : Thing where
  holds w S := w.heap[b]? = some (.cells cs 5 fr) ∧ ∀ k, S k ↔ k = b
  keep := by
    rintro w w' S T ⟨h1, h2⟩ ho hd
    exact ⟨ho.at h1 (hd b ((h2 b).2 rfl)), h2⟩
  lt := by
    rintro w S k ⟨h1, h2⟩ hk
    obtain rfl := (h2 k).1 hk
    exact lt_of_block h1

section
variable {B : Nat} {w0 w : World} {r : List Thing}

theorem conv_st (st : St B w0 w r) (xs : List Nat) (hb : ∀ x ∈ xs, x < 256) :
    ∃ cap W T, (convert 9 26 (.string (strOf xs))).run Tryz.prog w = .ok (.slice (some ⟨w.heap.size, 0, none⟩) xs.length cap) W ∧ St B w0 W (T :: r) ∧ ∀ W' L, St B w0 W' (T :: L) → ByteRow W' (.slice (some ⟨w.heap.size, 0, none⟩) xs.length cap) xs := by
  have hrun := Lib.run_convert_string_bytes (P := Tryz.prog) w 9 26 5 (strOf xs) Tryz.underlying9 Tryz.underlying26 Tryz.underlying5
  rw [strOf_size] at hrun
  refine ⟨_, _, strT w.heap.size (Lib.bytesCells w 5 (strOf xs)) ((Lib.bytesCells w 5 (strOf xs)).size, (Lib.bytesCells w 5 (strOf xs)).size + 1), hrun, ?_, ?_⟩
  · exact st.add (S := fun k => k = w.heap.size) (Lib.bytesWorld_below w 5 (strOf xs)) ⟨Lib.bytesWorld_at_new w 5 (strOf xs), fun _ => Iff.rfl⟩ (fun k hk => by omega)
  · intro W' L t
    obtain ⟨S1, h1, _⟩ := t.sep
    refine ⟨_, _, rfl, grownCap_ge _ _ _ _, (fun e => by cases e), fun i hi => ⟨hb _ (List.getElem_mem hi), w.heap.size, 0, rfl, ?_⟩⟩
    rw [Nat.zero_add, cell_of_row _ w.heap.size i _ 5 _ h1.1]
    unfold Lib.bytesCells
    rw [Array.getElem?_append_left (by rw [Array.size_map]; show i < (strOf xs).size; rw [strOf_size]; exact hi), Array.getElem?_map, strOf_data]
    simp [hi]
    have := hb _ (List.getElem_mem hi)
    omega
end
end Go.Proofs.YtpinfihmageeoaaGreat.Fr
