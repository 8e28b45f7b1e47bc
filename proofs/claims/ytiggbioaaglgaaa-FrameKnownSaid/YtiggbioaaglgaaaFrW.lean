/-
  The document's May. No conditions but that rows are small.
-/
import Derived.Test.YtiggbioaaglgaaaFrV
namespace Go.Proofs.Ytiggbioaaglgaaa.Fr
open Go.RowKit Crc

set_option maxRecDepth 100000 in
set_option maxHeartbeats 4000000 in
theorem refMay_any (w : World) (h : Gz) (hf : Fits h) (ea : Option Addr) (ec : Nat) (hn : h.name.length ≤ 1000000) (hc : h.comment.length ≤ 1000000) :
    Calls Try.prog 20 #[.agg (headC h (.slice ea h.extra.length ec))] w fun e w' => e = .returned (.bool (may h)) ∧ Below w.heap.size w w' := by
  have hb1 := below_alloc w (.cells (headC h (.slice ea h.extra.length ec)) 25)
  have k7 : (w.alloc (.cells (headC h (.slice ea h.extra.length ec)) 25)).cell? ⟨w.heap.size, 7, none⟩ = some (.int .u8 (h.has : Int)) := (cell_of_row _ w.heap.size 7 _ _ (0, 0) (heap_alloc_new w _)).trans rfl
  have k4 : (w.alloc (.cells (headC h (.slice ea h.extra.length ec)) 25)).cell? ⟨w.heap.size, 4, none⟩ = some (.slice ea h.extra.length ec) := (cell_of_row _ w.heap.size 4 _ _ (0, 0) (heap_alloc_new w _)).trans rfl
  have k5 : (w.alloc (.cells (headC h (.slice ea h.extra.length ec)) 25)).cell? ⟨w.heap.size, 5, none⟩ = some (.string (strOf h.name)) := (cell_of_row _ w.heap.size 5 _ _ (0, 0) (heap_alloc_new w _)).trans rfl
  have k6 : (w.alloc (.cells (headC h (.slice ea h.extra.length ec)) 25)).cell? ⟨w.heap.size, 6, none⟩ = some (.string (strOf h.comment)) := (cell_of_row _ w.heap.size 6 _ _ (0, 0) (heap_alloc_new w _)).trans rfl
  have hwn := fun W => word_any W h.name hf.name hn
  have hwc := fun W => word_any W h.comment hf.comment hc
  rw [may_words]
  have hx := hf.has
  go_enter Try.func20, Try.ntmps20
  generalize decide (0 ∉ h.name) = wn at *
  generalize decide (0 ∉ h.comment) = wc at *
  generalize strOf h.name = sn at *
  generalize strOf h.comment = sc at *
  generalize h.extra.length = m at *
  generalize h.has = x at *
  clear hf hn hc
  have hcon : ∀ (W : World), Calls Try.prog 48 #[.string sn] W (fun e w' => e = .returned (.bool wn) ∧ w' = W) := hwn
  by_cases c1 : x < 8
  · by_cases c2 : m ≤ 65535
    · go_wp2_with fail
      refine (hwn _).mono ?_
      rintro e w1 ⟨rfl, rfl⟩
      clear hwn hcon
      cases wn with
      | false =>
        go_wp2
        go_ret
        refine ⟨?_, hb1⟩
        simp
      | true =>
        go_wp2_with fail
        refine (hwc _).mono ?_
        rintro e w1 ⟨rfl, rfl⟩
        clear hwc
        cases wc with
        | false =>
          go_wp2
          go_ret
          refine ⟨?_, hb1⟩
          simp
        | true =>
          generalize w.alloc (.cells (headC h (.slice ea m ec)) 25) = w1 at *
          have n1 : ((x : Int) % 2 = 1) ↔ x % 2 = 1 := by omega
          have n2 : ((x : Int) / 2 % 2 = 1) ↔ x / 2 % 2 = 1 := by omega
          have n3 : ((x : Int) / 4 = 1) ↔ x / 4 = 1 := by omega
          have n4 : ((m : Int) = 0) ↔ m = 0 := by omega
          have N := Lib.hid (And.intro n1 (And.intro n2 (And.intro n3 n4)))
          clear n1 n2 n3 n4
          go_wp2
          all_goals go_ret
          all_goals refine ⟨?_, hb1⟩
          all_goals obtain ⟨n1, n2, n3, n4⟩ := N.out
          all_goals clear k5 k6 k7 k4 hb1
          all_goals simp_all
          all_goals (cases hsc : sc.toList <;> simp_all)
    · go_wp2
      go_ret
      refine ⟨?_, hb1⟩
      simp
  · go_wp2
    go_ret
    refine ⟨?_, hb1⟩
    simp

end Go.Proofs.Ytiggbioaaglgaaa.Fr
