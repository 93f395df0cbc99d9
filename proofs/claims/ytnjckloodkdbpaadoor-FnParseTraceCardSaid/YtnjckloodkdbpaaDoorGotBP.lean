/- what the row's variables give: strconv's table and its errors -/
import Derived.Test.YtnjckloodkdbpaaDoorCq10
namespace Go.Proofs.YtnjckloodkdbpaaDoor
open Go.RowKit
def GotErr (w : World) : Prop := TabW w ∧ ErrW w
theorem GotErr.le {w w' : World} (h : GotErr w) (hl : Le w w') : GotErr w' := ⟨h.1.le hl, h.2.le hl⟩
end Go.Proofs.YtnjckloodkdbpaaDoor
