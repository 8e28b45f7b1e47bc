/-
  The document's May. No conditions but that rows are small.
-/
import Derived.Test.YtpinfihmageeoaaGreatFrV
namespace Go.Proofs.YtpinfihmageeoaaGreat.Fr
open Go.RowKit Crc

end Go.Proofs.YtpinfihmageeoaaGreat.Fr
