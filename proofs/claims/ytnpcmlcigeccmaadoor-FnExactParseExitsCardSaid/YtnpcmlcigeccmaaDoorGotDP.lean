/- what the row's variables give: the words of exits, strconv's table and its errors -/
import Derived.Test.YtnpcmlcigeccmaaDoorCv12
namespace Go.Proofs.YtnpcmlcigeccmaaDoor
open Go.RowKit
def GotErr (w : World) : Prop := ExW w ∧ TabW w ∧ ErrW w
theorem GotErr.le {w w' : World} (h : GotErr w) (hl : Le w w') : GotErr w' := ⟨h.1.le hl, h.2.1.le hl, h.2.2.le hl⟩
end Go.Proofs.YtnpcmlcigeccmaaDoor
