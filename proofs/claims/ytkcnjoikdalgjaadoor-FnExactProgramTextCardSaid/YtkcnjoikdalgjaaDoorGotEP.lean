/- what the row's variables give: the words of lines, strconv's table -/
import Derived.Test.YtkcnjoikdalgjaaDoorDp8
namespace Go.Proofs.YtkcnjoikdalgjaaDoor
open Go.RowKit
def GotErr (w : World) : Prop := LnW w ∧ TabW w
theorem GotErr.le {w w' : World} (h : GotErr w) (hl : Le w w') : GotErr w' := ⟨h.1.le hl, h.2.le hl⟩
end Go.Proofs.YtkcnjoikdalgjaaDoor
