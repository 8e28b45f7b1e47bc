/-
  What the laws of layer 11 share. No conditions but that rows are small.
-/
import Derived.Test.YtiggbioaaglgaaaFrW
import Derived.Test.YtiggbioaaglgaaaFrX
namespace Go.Proofs.Ytiggbioaaglgaaa.Fr
open Go.RowKit Crc

/-- Are a head's fields longer than a law looks at? -/
def longB (h : Gz) : Bool := (decide (1000 < h.extra.length) && decide (h.extra.length ≤ 65535)) || (decide (70000 < h.extra.length) || (decide (1000 < h.name.length) || decide (1000 < h.comment.length)))

theorem longB_no {h : Gz} (hl : longB h = false) : (h.extra.length ≤ 1000 ∨ (65535 < h.extra.length ∧ h.extra.length ≤ 70000)) ∧ h.name.length ≤ 1000 ∧ h.comment.length ≤ 1000 := by
  unfold longB at hl
  simp only [Bool.or_eq_false_iff, Bool.and_eq_false_iff, decide_eq_false_iff_not] at hl
  omega

set_option maxRecDepth 100000 in
set_option maxHeartbeats 2000000 in
theorem long_any (w : World) (h : Gz) (ea : Option Addr) (ec : Nat) :
    Calls Try.prog 10 #[.agg (headC h (.slice ea h.extra.length ec))] w fun e w' => e = .returned (.bool (longB h)) ∧ Below w.heap.size w w' := by
  have hb1 := below_alloc w (.cells (headC h (.slice ea h.extra.length ec)) 25)
  have k4 : (w.alloc (.cells (headC h (.slice ea h.extra.length ec)) 25)).cell? ⟨w.heap.size, 4, none⟩ = some (.slice ea h.extra.length ec) := (cell_of_row _ w.heap.size 4 _ _ (0, 0) (heap_alloc_new w _)).trans rfl
  have k5 : (w.alloc (.cells (headC h (.slice ea h.extra.length ec)) 25)).cell? ⟨w.heap.size, 5, none⟩ = some (.string (strOf h.name)) := (cell_of_row _ w.heap.size 5 _ _ (0, 0) (heap_alloc_new w _)).trans rfl
  have k6 : (w.alloc (.cells (headC h (.slice ea h.extra.length ec)) 25)).cell? ⟨w.heap.size, 6, none⟩ = some (.string (strOf h.comment)) := (cell_of_row _ w.heap.size 6 _ _ (0, 0) (heap_alloc_new w _)).trans rfl
  have h5 := strOf_size h.name
  have h6 := strOf_size h.comment
  obtain ⟨n, hn⟩ : ∃ n, h.name.length = n := ⟨_, rfl⟩
  obtain ⟨c, hc⟩ : ∃ c, h.comment.length = c := ⟨_, rfl⟩
  obtain ⟨m, hm⟩ : ∃ m, h.extra.length = m := ⟨_, rfl⟩
  have hL : longB h = ((decide (1000 < m) && decide (m ≤ 65535)) || (decide (70000 < m) || (decide (1000 < n) || decide (1000 < c)))) := by unfold longB; rw [hn, hc, hm]
  rw [hL]
  rw [hn] at h5
  rw [hc] at h6
  rw [hm] at k4 k5 k6 hb1 ⊢
  clear hL hn hc hm
  go_enter Try.func10, Try.ntmps10
  by_cases c1 : 1000 < m
  · by_cases c2 : m ≤ 65535
    · go_wp2
      go_ret
      exact ⟨by simp, hb1⟩
    · by_cases c3 : 70000 < m
      · go_wp2
        go_ret
        exact ⟨by simp, hb1⟩
      · by_cases c4 : 1000 < n
        · go_wp2
          go_ret
          exact ⟨by simp, hb1⟩
        · go_wp2
          go_ret
          refine ⟨?_, hb1⟩
          simp [c2, c3, c4]
          rw [Bool.eq_iff_iff]
          simp only [Bool.or_eq_true, decide_eq_true_eq]
          omega
  · by_cases c4 : 1000 < n
    · go_wp2
      go_ret
      exact ⟨by simp, hb1⟩
    · go_wp2
      go_ret
      refine ⟨?_, hb1⟩
      have c3 : ¬ 70000 < m := by omega
      simp only [decide_eq_false c3]
      simp
      rw [Bool.eq_iff_iff]
      simp only [Bool.or_eq_true, decide_eq_true_eq]
      omega

section
variable {B : Nat} {w0 w : World} {r : List Thing} {b : Nat} {h : Gz} {ev : Value}

/-- A head in a variable: its cells. -/
theorem headAt (st : St B w0 w (boxT b (headC h ev) 25 :: r)) : w.cell? ⟨b, 0, none⟩ = some (.bool h.text) ∧ w.cell? ⟨b, 1, none⟩ = some (.int .u32 (h.time : Int)) ∧ w.cell? ⟨b, 2, none⟩ = some (.int .u8 (h.xfl : Int)) ∧ w.cell? ⟨b, 3, none⟩ = some (.int .u8 (h.os : Int)) ∧ w.cell? ⟨b, 4, none⟩ = some ev ∧ w.cell? ⟨b, 5, none⟩ = some (.string (strOf h.name)) ∧ w.cell? ⟨b, 6, none⟩ = some (.string (strOf h.comment)) ∧ w.cell? ⟨b, 7, none⟩ = some (.int .u8 (h.has : Int)) ∧ w.cell? ⟨b, 8, none⟩ = some (.bool h.sum) :=
  ⟨(St.boxAt st 0).1, (St.boxAt st 1).1, (St.boxAt st 2).1, (St.boxAt st 3).1, (St.boxAt st 4).1, (St.boxAt st 5).1, (St.boxAt st 6).1, (St.boxAt st 7).1, (St.boxAt st 8).1⟩
end

theorem laid_ge (h : Gz) : 10 ≤ (bytesOf h).length := by
  have h1 : ∀ k, 5 ≤ k → 10 ≤ (laid h k).length := by
    intro k hk
    induction k with
    | zero => omega
    | succ k ih =>
      by_cases c : k = 4
      · subst c
        show 10 ≤ ([31, 139, 8] ++ [flagsOf h] ++ le 4 h.time ++ [h.xfl] ++ [h.os]).length
        simp [le_length]
      · have := ih (by omega)
        show 10 ≤ (laid h k ++ _).length
        rw [List.length_append]
        omega
  exact h1 9 (by omega)

section
open Go.ChangeShapes Go.WideShapes
theorem okWide_head {W : World} {base : Nat} {v : Value} (h : Value.okWide Try.prog W .any base 25 v) : ∃ cs, v = .agg cs := by
  unfold Value.okWide at h
  rw [Try.underlying25] at h
  obtain ⟨cs, e, _⟩ := h
  exact ⟨cs, e⟩
end

end Go.Proofs.Ytiggbioaaglgaaa.Fr
