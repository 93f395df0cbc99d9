import Derived.Test.YtakkmgeocmndjaaAP
import Derived.Test.YtakkmgeocmndjaaTyFrame
namespace Go.Proofs.Ytakkmgeocmndjaa
open Go.RowKit
instance instOneFrm : EncOne Frm := ⟨by decide, fun x u hu => by simp [Enc.cells] at hu; rcases hu with rfl | rfl <;> rfl⟩
theorem boxF (w : World) (f : Frm) (T : TypeId) : (w.alloc (.cells #[.string f.fn, .int .i64 f.line] T)).cell? ⟨w.heap.size, 0, none⟩ = some (.string f.fn) ∧ (w.alloc (.cells #[.string f.fn, .int .i64 f.line] T)).cell? ⟨w.heap.size, 1, none⟩ = some (.int .i64 f.line) ∧
    w.heap.size < (w.alloc (.cells #[.string f.fn, .int .i64 f.line] T)).heap.size ∧ Le w (w.alloc (.cells #[.string f.fn, .int .i64 f.line] T)) := by
  refine ⟨?_, ?_, by simp, Le.new w _⟩ <;> (rw [World.cell?_alloc_at _ _ _ _ rfl]; rfl)
end Go.Proofs.Ytakkmgeocmndjaa
