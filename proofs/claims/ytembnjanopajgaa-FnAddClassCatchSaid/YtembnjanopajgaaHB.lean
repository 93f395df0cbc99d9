/- spec.goodCatches, spec.firstCatch -/
import Derived.Test.YtembnjanopajgaaHA
namespace Go.Proofs.Ytembnjanopajgaa
open Go.RowKit

end Go.Proofs.Ytembnjanopajgaa
