/-
  The document's May. No conditions but that rows are small.
-/
import Derived.Test.YtmcjbkfiipmgeaaGreatFrV
namespace Go.Proofs.YtmcjbkfiipmgeaaGreat.Fr
open Go.RowKit Crc

end Go.Proofs.YtmcjbkfiipmgeaaGreat.Fr
