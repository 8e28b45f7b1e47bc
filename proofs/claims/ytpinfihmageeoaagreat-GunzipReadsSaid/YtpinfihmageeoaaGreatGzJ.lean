/-
  Flows that are the same: pressworkref10.Same. No conditions but that rows are bytes.
-/
import Derived.Test.YtpinfihmageeoaaGreatGzK
namespace Go.Proofs.YtpinfihmageeoaaGreat.Gu
open Go.RowKit Kraft Hd Inf Fr

set_option maxRecDepth 100000 in
set_option maxHeartbeats 2000000 in
theorem same_eq (w : World) (va vb : Value) (A : List Nat) (n u : Nat) (wr : Bool) (hA : ByteRow w va A) (hC : ByteRow w vb A) :
    Calls Tryz.prog 15 #[.agg (flowW va n u wr), .agg (flowW vb n u wr)] w fun e w' => e = .returned (.bool true) ∧ Below w.heap.size w w' := by
  have hb1 := below_alloc w (.cells (flowW va n u wr) 28)
  have hb2 := below_alloc (w.alloc (.cells (flowW va n u wr) 28)) (.cells (flowW vb n u wr) 28)
  have hbel : Below w.heap.size w ((w.alloc (.cells (flowW va n u wr) 28)).alloc (.cells (flowW vb n u wr) 28)) := hb1.trans (hb2.mono (by simp))
  have hA2 := (hA.below hbel (Nat.le_refl _)).reads
  have hC2 := (hC.below hbel (Nat.le_refl _)).reads
  have cA := run_string _ _ _ hA2
  have cC := run_string _ _ _ hC2
  generalize strOf A = sA at *
  clear hA2 hC2 hb1 hb2
  obtain ⟨aa, ca, rfl, -⟩ := hA
  obtain ⟨ab, cb, rfl, -⟩ := hC
  go_enter Tryz.func15, Tryz.ntmps15
  go_wp2
  go_ret
  exact ⟨rfl, hbel⟩

end Go.Proofs.YtpinfihmageeoaaGreat.Gu
