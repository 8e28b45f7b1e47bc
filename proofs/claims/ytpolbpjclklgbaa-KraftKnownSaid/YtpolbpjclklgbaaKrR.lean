/-
  Contracts of the document's answers of layer 4 (pressworkref04): May, Weight, Classify, Words. No conditions but those of the calls.
-/
import Derived.Test.YtpolbpjclklgbaaKrQ
import Derived.Test.YtpolbpjclklgbaaRowW
namespace Go.Proofs.Ytpolbpjclklgbaa.Kraft
open Go.RowKit

theorem may_of {L : List Nat} (h : ∀ (i : Nat) (hi : i < L.length), L[i] ≤ 20) : may L = decide (L.length ≤ 512) := by
  have e : (L.all fun x => decide (x ≤ 20)) = true := by
    rw [List.all_eq_true]
    intro x hx
    obtain ⟨i, hi, rfl⟩ := List.getElem_of_mem hx
    simpa using h i hi
  unfold may
  rw [e, Bool.and_true]

/-- What Words answers. -/
def wordsErr (L : List Nat) : Nat := if may L = false then 5 else if 1048576 < weight L then 2 else 0
def wordsOf (L : List Nat) : List Nat := if wordsErr L = 0 then words L else []

theorem wordsErr_ok {L : List Nat} (h : wordsErr L = 0) : may L = true ∧ weight L ≤ 1048576 := by
  unfold wordsErr at h
  cases hm : may L with
  | false => rw [if_pos hm] at h; omega
  | true =>
    rw [if_neg (by rw [hm]; decide)] at h
    by_cases c : 1048576 < weight L
    · rw [if_pos c] at h; omega
    · exact ⟨rfl, by omega⟩

theorem wordsErr_may {L : List Nat} (h : may L = false) : wordsErr L = 5 := by unfold wordsErr; rw [if_pos h]
theorem wordsErr_over {L : List Nat} (h : may L = true) (hw : 1048576 < weight L) : wordsErr L = 2 := by unfold wordsErr; rw [if_neg (by rw [h]; decide), if_pos hw]
theorem wordsErr_fits {L : List Nat} (h : may L = true) (hw : weight L ≤ 1048576) : wordsErr L = 0 := by unfold wordsErr; rw [if_neg (by rw [h]; decide), if_neg (by omega)]
theorem wordsOf_bad {L : List Nat} (h : wordsErr L ≠ 0) : wordsOf L = [] := if_neg h
theorem wordsOf_ok {L : List Nat} (h : wordsErr L = 0) : wordsOf L = words L := if_pos h

/-- What Words hands out: the words, in memory of its own, and the error. -/
def WordsSt (B : Nat) (w0 : World) (r : List Thing) (L : List Nat) (e : Ending) (w' : World) : Prop :=
  ∃ v', e = .returned (.tuple #[v', .int .i64 (wordsErr L : Int)]) ∧ St B w0 w' (rowT 25 1 v' (wordsOf L).length (u32s (wordsOf L)) :: r)

theorem WordsSt.none {B : Nat} {w0 w' : World} {r : List Thing} {L : List Nat} (h : wordsErr L ≠ 0) (st : St B w0 w' r) : WordsSt B w0 r L (.returned (.tuple #[.slice none 0 0, .int .i64 (wordsErr L : Int)])) w' :=
  ⟨_, rfl, by rw [wordsOf_bad h]; exact st.addNil⟩

theorem word_div (L : List Nat) (n k : Nat) (h0 : 0 < n) (h : len L k = n) : place L n k / 2 ^ (20 - n) = word L k := by
  unfold word from_
  rw [if_neg (by omega), h]

end Go.Proofs.Ytpolbpjclklgbaa.Kraft
