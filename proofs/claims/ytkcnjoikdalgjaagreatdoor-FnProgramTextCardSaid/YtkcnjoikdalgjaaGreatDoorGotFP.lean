/- what the row's variables give: the words of lines, strconv's table and its errors -/
import Derived.Test.YtkcnjoikdalgjaaGreatDoorZp16
namespace Go.Proofs.YtkcnjoikdalgjaaGreatDoor
open Go.RowKit
def GotErr (w : World) : Prop := LnW w ∧ TabW w ∧ ErrW w
theorem GotErr.le {w w' : World} (h : GotErr w) (hl : Le w w') : GotErr w' := ⟨h.1.le hl, h.2.1.le hl, h.2.2.le hl⟩
end Go.Proofs.YtkcnjoikdalgjaaGreatDoor
