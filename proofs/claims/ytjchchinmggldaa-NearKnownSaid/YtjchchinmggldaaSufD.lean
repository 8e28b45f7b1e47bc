/-
  Contracts of package sufsort: the pairs that closures tell; where a text goes on. No conditions but that rows are small.
-/
import Derived.Test.YtjchchinmggldaaSufC
namespace Go.Proofs.Ytjchchinmggldaa.Suf
open Go.RowKit

end Go.Proofs.Ytjchchinmggldaa.Suf
