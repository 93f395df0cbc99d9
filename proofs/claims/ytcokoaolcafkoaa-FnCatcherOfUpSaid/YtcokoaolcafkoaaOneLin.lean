import Derived.Test.YtcokoaolcafkoaaAP
import Derived.Test.YtcokoaolcafkoaaTyLine
import Derived.Test.YtcokoaolcafkoaaA
namespace Go.Proofs.Ytcokoaolcafkoaa
open Go.RowKit
instance instOneLin : EncOne Lin := ⟨by decide, fun x u hu => by simp [Enc.cells] at hu; rcases hu with rfl | rfl | rfl | rfl <;> rfl⟩
theorem infoLn : (Try.prog.info? 31).map (fun i => (i.zero, i.size, i.bytes)) = some (some (.agg #[.int .i64 0, .int .i64 0, .int .i64 0, .int .i64 0]), 4, 32) := by kernel_rfl
end Go.Proofs.Ytcokoaolcafkoaa
