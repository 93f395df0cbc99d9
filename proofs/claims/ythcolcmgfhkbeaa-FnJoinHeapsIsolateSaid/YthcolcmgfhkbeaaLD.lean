/- laws: helpers of the drawn laws. -/
import Derived.Test.YthcolcmgfhkbeaaRows
import Derived.Test.YthcolcmgfhkbeaaP
import Derived.Test.YthcolcmgfhkbeaaI
import Derived.RegionTactic
namespace Go.Proofs.Ythcolcmgfhkbeaa
open Go.RowKit

end Go.Proofs.Ythcolcmgfhkbeaa
