/- spec.goodCatches, spec.firstCatch -/
import Derived.Test.YtjcellhpmooifaaHA
namespace Go.Proofs.Ytjcellhpmooifaa
open Go.RowKit

end Go.Proofs.Ytjcellhpmooifaa
