/- slices.Concat of two slices of Line -/
import Derived.Test.YtgjpbpoadonpjaaAP
import Derived.Test.YtgjpbpoadonpjaaTyLine
import Derived.Test.YtgjpbpoadonpjaaOneLin
import Derived.Test.YtgjpbpoadonpjaaRows
import Derived.Lib.AppendZerosOnto
namespace Go.Proofs.Ytgjpbpoadonpjaa
open Go.RowKit


theorem infoCcLine : (Try.prog.info? 55).map (fun i => (i.zero, i.size, i.bytes)) = some (some (.agg #[.int .i64 0, .int .i64 0, .int .i64 0, .int .i64 0]), 4, 32) := by kernel_rfl
def GrowOutLine (w : World) (e : Ending) (w' : World) : Prop := ∃ g G, e = .returned (.slice (some ⟨g, 0, none⟩) 0 G) ∧ w'.ownsRow w.heap.size 55 4 (.slice (some ⟨g, 0, none⟩) 0 G) 0 [] ∧ Le w w'
/-- a row of slices -/
structure SlV where
  A : Option Addr
  n : Nat
  c : Nat
end Go.Proofs.Ytgjpbpoadonpjaa
