/- spec.validHeap -/
import Derived.Test.YtacilbglnhgifaaHpB
namespace Go.Proofs.Ytacilbglnhgifaa
open Go.RowKit

end Go.Proofs.Ytacilbglnhgifaa
