/- Plain: IsA of the model; classes of a tree. -/
import Derived.Test.YtpdggodmiliijaaI
namespace Go.Proofs.Ytpdggodmiliijaa
open Go.RowKit

def isAx (xs : List Cls) (a b : Int) : Bool := okTree xs && hasK xs a && hasK xs b && isAL xs a b
theorem isAx_of {xs : List Cls} {t p q r : Bool} {a b : Int} (h1 : okTree xs = t) (h2 : hasK xs a = p) (h3 : hasK xs b = q) (h4 : isAL xs a b = r) : isAx xs a b = (t && p && q && r) := by unfold isAx; rw [h1, h2, h3, h4]
theorem hasK_iff {xs : List Cls} {a : Int} : hasK xs a = true ↔ 0 ≤ a ∧ a < xs.length := by unfold hasK; simp; omega
def blk : Value → Nat
  | .pointer (some p) => p.block + 1
  | _ => 0
end Go.Proofs.Ytpdggodmiliijaa
