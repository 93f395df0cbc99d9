import Derived.Test.YtjkadmbcnlelhaaD
namespace Go.Proofs.Ytjkadmbcnlelhaa
open Go.RowKit

end Go.Proofs.Ytjkadmbcnlelhaa
