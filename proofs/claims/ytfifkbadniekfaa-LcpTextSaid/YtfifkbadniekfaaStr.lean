/-
  Bytes as a string. No conditions.
-/
import Derived.Test.YtfifkbadniekfaaBytes
import Derived.Laws.BytesString
namespace Go.Proofs.Ytfifkbadniekfaa
open Go.RowKit

theorem run_string (w : World) (v : Value) (xs : List Nat) (h : Reads w v (u8s xs)) : (convert 22 9 v).run Try.prog w = .ok (.string (strOf xs)) w := by
  rcases h with ⟨rfl, h0⟩ | ⟨a, cap, rfl, hc⟩
  · have : xs = [] := by simpa [u8s] using h0
    subst this
    rw [run_convert_bytes_string w 22 9 5 _ _ _ Try.underlying22 Try.underlying5 Try.underlying9]
    simp [Conv.bytesToString, Sem.run_pure, strOf]
  · rw [run_convert_bytes_string w 22 9 5 _ _ _ Try.underlying22 Try.underlying5 Try.underlying9]
    have hl := run_loadCells_list (P := Try.prog) w a (u8s xs) hc
    have e1 : u8s xs = (xs.map fun (x : Nat) => (x : Int)).map (Value.int .u8) := by simp [u8s]
    rw [run_bytesToString w a _ cap (xs.map fun (x : Nat) => (x : Int)) (by rw [hl, e1]), foldl_cast]
    rfl

/-- Bytes as a string, at a slice of the call's own. -/
theorem St.string {B : Nat} {w0 w : World} {r : List Thing} {v : Value} {xs : List Nat} (h : St B w0 w (rowT 5 1 v xs.length (u8s xs) :: r)) : (convert 22 9 v).run Try.prog w = .ok (.string (strOf xs)) w :=
  run_string w v xs (Reads.of_owns h.row)

end Go.Proofs.Ytfifkbadniekfaa
