/-
  What the laws of layer 4 share: the example that each of them asks besides. No conditions.
-/
import Derived.Test.YtpolbpjclklgbaaKrW
namespace Go.Proofs.Ytpolbpjclklgbaa.Kraft
open Go.RowKit

theorem WordsSt.open {B : Nat} {w0 w' : World} {r : List Thing} {L : List Nat} {e : Ending} (h : WordsSt B w0 r L e w') (er : Nat) (he : wordsErr L = er) (ws : List Nat) (hw : wordsOf L = ws) :
    ∃ v', e = .returned (.tuple #[v', .int .i64 (er : Int)]) ∧ St B w0 w' (rowT 25 1 v' ws.length (u32s ws) :: r) := by
  subst he hw
  exact h

theorem exErr : wordsErr [2, 1, 0, 2] = 0 := by decide +kernel
theorem exWords : wordsOf [2, 1, 0, 2] = [2, 0, 0, 3] := by decide +kernel
theorem exClass : classAns [2, 1, 0, 2] = .tuple #[.int .u8 2, .int .i64 0] := by
  have h : class_ (weight [2, 1, 0, 2]) = 2 := by decide +kernel
  have hm : may [2, 1, 0, 2] = true := by decide +kernel
  unfold classAns
  rw [if_pos hm, h]
  rfl
theorem exSingle1 : single [0, 1] = true := by decide +kernel
theorem exSingle2 : single [2] = false := by decide +kernel

/-- The cells of a row of the call's own. -/
theorem St.words4 {B : Nat} {w0 w : World} {r : List Thing} {v : Value} {a b c d : Nat} (h : St B w0 w (rowT 25 1 v 4 (u32s [a, b, c, d]) :: r)) :
    ∃ g cap, v = .slice (some ⟨g, 0, none⟩) 4 cap ∧ w.cell? ⟨g, 0, none⟩ = some (.int .u32 (a : Int)) ∧ w.cell? ⟨g, 1, none⟩ = some (.int .u32 (b : Int)) ∧ w.cell? ⟨g, 2, none⟩ = some (.int .u32 (c : Int)) ∧ w.cell? ⟨g, 3, none⟩ = some (.int .u32 (d : Int)) := by
  obtain ⟨g, cap, rfl, -⟩ := h.rowShape (by omega)
  have hr := h.row
  refine ⟨g, cap, rfl, ?_, ?_, ?_, ?_⟩
  · rw [hr.cellAt 0 (by omega)]; rfl
  · rw [hr.cellAt 1 (by omega)]; rfl
  · rw [hr.cellAt 2 (by omega)]; rfl
  · rw [hr.cellAt 3 (by omega)]; rfl

set_option maxRecDepth 100000 in
set_option maxHeartbeats 1000000 in
/-- classes: is an example what it is? -/
theorem classes_st {B : Nat} {w0 w : World} {r : List Thing} (st : St B w0 w r) :
    Calls Try.prog 14 #[] w fun e w' => e = .returned (.bool true) ∧ St B w0 w' r := by
  go_enter Try.func14, Try.ntmps14
  go_wp2_with fail
  refine (classify_any _ _ [2, 1, 0, 2] (byteRow_lit w [2, 1, 0, 2] (0, 0) (by decide)) (by decide)).mono ?_
  rintro e w1 ⟨rfl, rfl⟩
  rw [exClass]
  have s1 := st.alloc (.cells (u8s [2, 1, 0, 2]).toArray 5 (0, 0))
  generalize w.alloc (.cells (u8s [2, 1, 0, 2]).toArray 5 (0, 0)) = w1 at s1
  go_wp2_with fail
  refine (words_st (s1.alloc _) _ [2, 1, 0, 2] (byteRow_lit w1 [2, 1, 0, 2] (0, 0) (by decide)) (by decide)).mono ?_
  intro e w2 hW
  obtain ⟨v, rfl, s2⟩ := hW.open 0 exErr _ exWords
  clear hW
  obtain ⟨g, cap, rfl, c0, c1, c2, c3⟩ := St.words4 s2
  have s3 := s2.drop
  clear s1 s2 st
  go_wp2_with fail
  refine (single_any _ _ [0, 1] (byteRow_lit w2 [0, 1] (0, 0) (by decide)) (by decide)).mono ?_
  rintro e w3 ⟨rfl, rfl⟩
  rw [exSingle1]
  have s4 := s3.alloc (.cells (u8s [0, 1]).toArray 5 (0, 0))
  generalize w2.alloc (.cells (u8s [0, 1]).toArray 5 (0, 0)) = w3 at s4
  clear c0 c1 c2 c3 s3
  go_wp2_with fail
  refine (single_any _ _ [2] (byteRow_lit w3 [2] (0, 0) (by decide)) (by decide)).mono ?_
  rintro e w4 ⟨rfl, rfl⟩
  rw [exSingle2]
  have s5 := s4.alloc (.cells (u8s [2]).toArray 5 (0, 0))
  generalize w3.alloc (.cells (u8s [2]).toArray 5 (0, 0)) = w4 at s5
  clear s4
  go_wp2
  go_ret
  exact ⟨rfl, s5⟩

end Go.Proofs.Ytpolbpjclklgbaa.Kraft
