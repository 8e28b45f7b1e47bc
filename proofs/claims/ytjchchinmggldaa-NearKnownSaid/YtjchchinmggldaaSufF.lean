/-
  Contract of package sufsort: sorted: all places in the order of the texts from there on. No conditions but that rows are small.
-/
import Derived.Test.YtjchchinmggldaaSufE
namespace Go.Proofs.Ytjchchinmggldaa.Suf
open Go.RowKit

/-- What sorted leaves: a new row of all places in the order of the texts from there on. -/
def OrderSt (B : Nat) (w0 : World) (r : List Thing) (rot : Bool) (b : List Nat) (en : Ending) (w' : World) : Prop := ∃ O, Whole b.length (Ahead rot b) O ∧ NumsNew B w0 r O en w'

section
variable {B : Nat} {w0 w : World} {r : List Thing}

end
end Go.Proofs.Ytjchchinmggldaa.Suf
