/- spec.validHeap -/
import Derived.Test.YtlepgfccnfcagaaWp3
namespace Go.Proofs.Ytlepgfccnfcagaa
open Go.RowKit

end Go.Proofs.Ytlepgfccnfcagaa
