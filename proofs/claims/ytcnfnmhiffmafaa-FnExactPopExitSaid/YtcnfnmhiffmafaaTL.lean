/- What the exact laws of all types share. -/
import Derived.Test.YtcnfnmhiffmafaaKB
import Derived.Test.YtcnfnmhiffmafaaRows
import Derived.Deep.RegionWith
import Derived.Deep.RegionHeld3
namespace Go.Proofs.Ytcnfnmhiffmafaa
open Go.RowKit

def SzOut (left : Int) (n : Nat) (w : World) (e : Ending) (w' : World) : Prop := ∃ r : Int, e = .returned (.int .i64 r) ∧ (r = -1 ∨ (0 ≤ r ∧ r ≤ left ∧ (n : Int) ≤ left)) ∧ Le w w'
end Go.Proofs.Ytcnfnmhiffmafaa
