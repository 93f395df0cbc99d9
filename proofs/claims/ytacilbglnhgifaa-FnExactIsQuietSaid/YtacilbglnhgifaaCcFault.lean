/- slices.Concat of two slices of Fault -/
import Derived.Test.YtacilbglnhgifaaAP
import Derived.Test.YtacilbglnhgifaaTyFault
import Derived.Test.YtacilbglnhgifaaRows
import Derived.Lib.AppendZerosOnto
namespace Go.Proofs.Ytacilbglnhgifaa
open Go.RowKit

instance instOneFlt : EncOne Flt := ⟨by decide, fun x u hu => by simp [Enc.cells] at hu; rcases hu with rfl | rfl | rfl | rfl | rfl <;> rfl⟩
theorem infoCcFault : (Try.prog.info? 84).map (fun i => (i.zero, i.size, i.bytes)) = some (some (.agg #[.int .i64 0, .int .i64 0, .int .i64 0, .int .i64 0, .bool false]), 5, 40) := by kernel_rfl
def GrowOutFault (w : World) (e : Ending) (w' : World) : Prop := ∃ g G, e = .returned (.slice (some ⟨g, 0, none⟩) 0 G) ∧ w'.ownsRow w.heap.size 84 5 (.slice (some ⟨g, 0, none⟩) 0 G) 0 [] ∧ Le w w'
/-- a row of slices -/
structure SlV where
  A : Option Addr
  n : Nat
  c : Nat
end Go.Proofs.Ytacilbglnhgifaa
