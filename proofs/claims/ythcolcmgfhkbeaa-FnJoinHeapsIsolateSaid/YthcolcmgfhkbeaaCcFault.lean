/- slices.Concat of two slices of Fault -/
import Derived.Test.YthcolcmgfhkbeaaAP
import Derived.Test.YthcolcmgfhkbeaaTyFault
import Derived.Test.YthcolcmgfhkbeaaRows
import Derived.Lib.AppendZerosOnto
namespace Go.Proofs.Ythcolcmgfhkbeaa
open Go.RowKit

instance instOneFlt : EncOne Flt := ⟨by decide, fun x u hu => by simp [Enc.cells] at hu; rcases hu with rfl | rfl | rfl | rfl | rfl <;> rfl⟩
theorem infoCcFault : (Try.prog.info? 45).map (fun i => (i.zero, i.size, i.bytes)) = some (some (.agg #[.int .i64 0, .int .i64 0, .int .i64 0, .int .i64 0, .bool false]), 5, 40) := by kernel_rfl
def GrowOutFault (w : World) (e : Ending) (w' : World) : Prop := ∃ g G, e = .returned (.slice (some ⟨g, 0, none⟩) 0 G) ∧ w'.ownsRow w.heap.size 45 5 (.slice (some ⟨g, 0, none⟩) 0 G) 0 [] ∧ Le w w'
/-- a row of slices -/
structure SlV where
  A : Option Addr
  n : Nat
  c : Nat
end Go.Proofs.Ythcolcmgfhkbeaa
