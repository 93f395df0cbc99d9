/- slices.Concat of two programs, of nothing too -/
import Derived.Test.YtgjpbpoadonpjaaCcLine
namespace Go.Proofs.Ytgjpbpoadonpjaa
open Go.RowKit
theorem boxS2 (w : World) (a b : Value) (T : TypeId) : (w.alloc (.cells #[a, b] T)).cell? ⟨w.heap.size, 0, none⟩ = some a ∧ (w.alloc (.cells #[a, b] T)).cell? ⟨w.heap.size, 1, none⟩ = some b ∧ w.heap.size < (w.alloc (.cells #[a, b] T)).heap.size ∧ Le w (w.alloc (.cells #[a, b] T)) := by
  refine ⟨?_, ?_, by simp, Le.new w _⟩ <;> (rw [World.cell?_alloc_at _ _ _ _ rfl]; rfl)
end Go.Proofs.Ytgjpbpoadonpjaa
