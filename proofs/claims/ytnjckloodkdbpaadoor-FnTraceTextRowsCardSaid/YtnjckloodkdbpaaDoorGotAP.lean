/- what the row's variables give: strconv's table -/
import Derived.Test.YtnjckloodkdbpaaDoorCq10
namespace Go.Proofs.YtnjckloodkdbpaaDoor
open Go.RowKit
def GotErr (w : World) : Prop := TabW w
theorem GotErr.le {w w' : World} (h : GotErr w) (hl : Le w w') : GotErr w' := TabW.le h hl
end Go.Proofs.YtnjckloodkdbpaaDoor
