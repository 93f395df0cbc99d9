import Derived.Test.YtldnjihakkekkaaAP
import Derived.Test.YtldnjihakkekkaaTyLine
import Derived.Test.YtldnjihakkekkaaA
namespace Go.Proofs.Ytldnjihakkekkaa
open Go.RowKit
instance instOneLin : EncOne Lin := ⟨by decide, fun x u hu => by simp [Enc.cells] at hu; rcases hu with rfl | rfl | rfl | rfl <;> rfl⟩
theorem infoLn : (Try.prog.info? 49).map (fun i => (i.zero, i.size, i.bytes)) = some (some (.agg #[.int .i64 0, .int .i64 0, .int .i64 0, .int .i64 0]), 4, 32) := by kernel_rfl
end Go.Proofs.Ytldnjihakkekkaa
