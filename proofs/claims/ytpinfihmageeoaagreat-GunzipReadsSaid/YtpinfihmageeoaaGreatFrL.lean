/-
  What the laws of layer 11 share. No conditions but that rows are small.
-/
import Derived.Test.YtpinfihmageeoaaGreatFrW
import Derived.Test.YtpinfihmageeoaaGreatFrX
namespace Go.Proofs.YtpinfihmageeoaaGreat.Fr
open Go.RowKit Crc

/-- Are a head's fields longer than a law looks at? -/
def longB (h : Gz) : Bool := (decide (1000 < h.extra.length) && decide (h.extra.length ≤ 65535)) || (decide (70000 < h.extra.length) || (decide (1000 < h.name.length) || decide (1000 < h.comment.length)))

theorem longB_no {h : Gz} (hl : longB h = false) : (h.extra.length ≤ 1000 ∨ (65535 < h.extra.length ∧ h.extra.length ≤ 70000)) ∧ h.name.length ≤ 1000 ∧ h.comment.length ≤ 1000 := by
  unfold longB at hl
  simp only [Bool.or_eq_false_iff, Bool.and_eq_false_iff, decide_eq_false_iff_not] at hl
  omega

section
variable {B : Nat} {w0 w : World} {r : List Thing} {b : Nat} {h : Gz} {ev : Value}

/-- A head in a variable: its cells. -/
theorem headAt (st : St B w0 w (boxT b (headC h ev) 80 :: r)) : w.cell? ⟨b, 0, none⟩ = some (.bool h.text) ∧ w.cell? ⟨b, 1, none⟩ = some (.int .u32 (h.time : Int)) ∧ w.cell? ⟨b, 2, none⟩ = some (.int .u8 (h.xfl : Int)) ∧ w.cell? ⟨b, 3, none⟩ = some (.int .u8 (h.os : Int)) ∧ w.cell? ⟨b, 4, none⟩ = some ev ∧ w.cell? ⟨b, 5, none⟩ = some (.string (strOf h.name)) ∧ w.cell? ⟨b, 6, none⟩ = some (.string (strOf h.comment)) ∧ w.cell? ⟨b, 7, none⟩ = some (.int .u8 (h.has : Int)) ∧ w.cell? ⟨b, 8, none⟩ = some (.bool h.sum) :=
  ⟨(St.boxAt st 0).1, (St.boxAt st 1).1, (St.boxAt st 2).1, (St.boxAt st 3).1, (St.boxAt st 4).1, (St.boxAt st 5).1, (St.boxAt st 6).1, (St.boxAt st 7).1, (St.boxAt st 8).1⟩
end

theorem laid_ge (h : Gz) : 10 ≤ (bytesOf h).length := by
  have h1 : ∀ k, 5 ≤ k → 10 ≤ (laid h k).length := by
    intro k hk
    induction k with
    | zero => omega
    | succ k ih =>
      by_cases c : k = 4
      · subst c
        show 10 ≤ ([31, 139, 8] ++ [flagsOf h] ++ le 4 h.time ++ [h.xfl] ++ [h.os]).length
        simp [le_length]
      · have := ih (by omega)
        show 10 ≤ (laid h k ++ _).length
        rw [List.length_append]
        omega
  exact h1 9 (by omega)

section
open Go.ChangeShapes Go.WideShapes
set_option maxRecDepth 100000 in
theorem okWide_head {W : World} {base : Nat} {v : Value} (h : Value.okWide Tryz.prog W .any base 80 v) : ∃ cs, v = .agg cs := by
  unfold Value.okWide at h
  rw [Tryz.underlying80] at h
  obtain ⟨cs, e, _⟩ := h
  exact ⟨cs, e⟩
end

end Go.Proofs.YtpinfihmageeoaaGreat.Fr
