/- laws: helpers of the drawn laws. -/
import Derived.Test.YtjkadmbcnlelhaaRows
import Derived.Test.YtjkadmbcnlelhaaP
import Derived.Test.YtjkadmbcnlelhaaI
import Derived.RegionTactic
namespace Go.Proofs.Ytjkadmbcnlelhaa
open Go.RowKit

end Go.Proofs.Ytjkadmbcnlelhaa
