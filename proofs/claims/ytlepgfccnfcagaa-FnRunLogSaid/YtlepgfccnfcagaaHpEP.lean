/- spec.ValidHeap, hasFault, goodFault -/
import Derived.Test.YtlepgfccnfcagaaHpCP
namespace Go.Proofs.Ytlepgfccnfcagaa
open Go.RowKit

/-- a valid heap that has the fault f -/
def hasF (hs : List Flt) (f : Int) : Bool := rng 0 ((hs.length : Int) - 1) f
theorem hasF_iff {hs : List Flt} {f : Int} : hasF hs f = true ↔ 0 ≤ f ∧ f < hs.length := by unfold hasF; rw [rng_iff]; omega
def goodF (xs : List Cls) (hs : List Flt) (f : Int) : Bool := okHeap xs hs && hasF hs f
end Go.Proofs.Ytlepgfccnfcagaa
