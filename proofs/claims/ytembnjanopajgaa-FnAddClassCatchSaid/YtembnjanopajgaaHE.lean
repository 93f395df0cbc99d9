/- spec.firstCatch, spec.FirstCatch -/
import Derived.Test.YtembnjanopajgaaHB
namespace Go.Proofs.Ytembnjanopajgaa
open Go.RowKit

end Go.Proofs.Ytembnjanopajgaa
