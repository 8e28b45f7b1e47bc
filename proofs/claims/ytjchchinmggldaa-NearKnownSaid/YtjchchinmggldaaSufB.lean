/-
  Contracts of package sufsort: places in order of their ranks, by counting. No conditions but that rows are small.
-/
import Derived.Test.YtjchchinmggldaaSufA
namespace Go.Proofs.Ytjchchinmggldaa.Suf
open Go.RowKit

/-- How many of the first k have the number ahead. -/
def tally (P : List Nat) (f : Nat → Nat) (k v : Nat) : Nat := if v = 0 then 0 else kin (P.take k) f (v - 1)
/-- .. summed up to j. -/
def summed (P : List Nat) (f : Nat → Nat) (j v : Nat) : Nat := if v ≤ j then low P f v else kin P f (v - 1)
/-- Where the next one of a number comes. -/
def starts (P : List Nat) (f : Nat → Nat) (m k v : Nat) : Nat := if v ≤ m then low P f v + kin (P.take k) f v else kin P f (v - 1)

theorem tally_step (P : List Nat) (f : Nat → Nat) (k n : Nat) (h : k < P.length) : (tab n (tally P f k)).set (f P[k] + 1) (tally P f k (f P[k] + 1) + 1) = tab n (tally P f (k + 1)) := by
  refine tab_set _ _ _ _ _ ?_ ?_
  · simp [tally, kin_take P f k _ h]
  · intro v _ hv
    unfold tally
    split
    · rfl
    · rw [kin_take P f k _ h, if_neg (by omega)]; rfl

theorem summed_step (P : List Nat) (f : Nat → Nat) (j n : Nat) : (tab n (summed P f j)).set (j + 1) (summed P f j (j + 1) + summed P f j j) = tab n (summed P f (j + 1)) := by
  refine tab_set _ _ _ _ _ ?_ ?_
  · simp [summed, low_succ, show ¬ j + 1 ≤ j by omega]; omega
  · intro v _ hv
    unfold summed
    split
    · rw [if_pos (by omega)]
    · rw [if_neg (by omega)]

theorem starts_step (P : List Nat) (f : Nat → Nat) (m k n : Nat) (h : k < P.length) (hm : f P[k] ≤ m) : (tab n (starts P f m k)).set (f P[k]) (starts P f m k (f P[k]) + 1) = tab n (starts P f m (k + 1)) := by
  refine tab_set _ _ _ _ _ ?_ ?_
  · simp [starts, kin_take P f k _ h, hm]; omega
  · intro v _ hv
    unfold starts
    split
    · rw [kin_take P f k _ h, if_neg (by omega)]; rfl
    · rfl

section
variable {B : Nat} {w0 w : World} {r : List Thing}

end
end Go.Proofs.Ytjchchinmggldaa.Suf
