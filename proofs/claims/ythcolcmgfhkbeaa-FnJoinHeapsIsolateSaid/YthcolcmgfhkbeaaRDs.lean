/- isolated of the model -/
import Derived.Test.YthcolcmgfhkbeaaRD0
import Derived.Deep.RegionHeld3
namespace Go.Proofs.Ythcolcmgfhkbeaa
open Go.RowKit

end Go.Proofs.Ythcolcmgfhkbeaa
