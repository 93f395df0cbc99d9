import Derived.Test.YtakkmgeocmndjaaTyRow
import Derived.Test.YtakkmgeocmndjaaTM
import Derived.Test.YtakkmgeocmndjaaTlFrame
namespace Go.Proofs.Ytakkmgeocmndjaa
open Go.RowKit

theorem infoRow : (Try.prog.info? 48).map (fun i => (i.zero, i.size, i.bytes)) = some (some (.agg #[.string ByteArray.empty, .int .i64 0, .int .i64 0]), 3, 32) := by kernel_rfl
theorem stk3 (w : World) (a r o : Array Value) (T U X : TypeId) :
    (∀ j, (((w.alloc (.cells a T)).alloc (.cells r U)).alloc (.cells o X)).cell? ⟨w.heap.size, j, none⟩ = a[j]?) ∧ (∀ j, (((w.alloc (.cells a T)).alloc (.cells r U)).alloc (.cells o X)).cell? ⟨w.heap.size + 1, j, none⟩ = r[j]?) ∧
    (∀ j, (((w.alloc (.cells a T)).alloc (.cells r U)).alloc (.cells o X)).cell? ⟨w.heap.size + 1 + 1, j, none⟩ = o[j]?) ∧ (∀ j, (((w.alloc (.cells a T)).alloc (.cells r U)).alloc (.cells o X)).frozen? ⟨w.heap.size + 1, j, none⟩ = false) ∧
    (∀ j, (((w.alloc (.cells a T)).alloc (.cells r U)).alloc (.cells o X)).frozen? ⟨w.heap.size + 1 + 1, j, none⟩ = false) ∧ w.heap.size + 1 + 1 < (((w.alloc (.cells a T)).alloc (.cells r U)).alloc (.cells o X)).heap.size ∧
    Le w (((w.alloc (.cells a T)).alloc (.cells r U)).alloc (.cells o X)) := by
  refine ⟨fun j => ?_, fun j => ?_, fun j => ?_, fun j => ?_, fun j => ?_, by simp, ((Le.new w _).alloc _).alloc _⟩
  · rw [World.cell?_alloc_past _ _ _ (by simp; omega), World.cell?_alloc_past _ _ _ (by simp), World.cell?_alloc_at _ _ _ _ rfl]
  · rw [World.cell?_alloc_past _ _ _ (by simp), World.cell?_alloc_at _ _ _ _ (by simp)]
  · rw [World.cell?_alloc_at _ _ _ _ (by simp)]
  · rw [World.frozen?_alloc_past _ _ _ (by simp), World.frozen?_alloc_at _ _ _ _ (by simp)]
  · rw [World.frozen?_alloc_at _ _ _ _ (by simp)]
theorem stk2 (w : World) (a r : Array Value) (T U : TypeId) :
    (∀ j, ((w.alloc (.cells a T)).alloc (.cells r U)).cell? ⟨w.heap.size, j, none⟩ = a[j]?) ∧ (∀ j, ((w.alloc (.cells a T)).alloc (.cells r U)).cell? ⟨w.heap.size + 1, j, none⟩ = r[j]?) ∧
    w.heap.size + 1 < ((w.alloc (.cells a T)).alloc (.cells r U)).heap.size ∧ Le w ((w.alloc (.cells a T)).alloc (.cells r U)) := by
  refine ⟨fun j => ?_, fun j => ?_, by simp, (Le.new w _).alloc _⟩
  · rw [World.cell?_alloc_past _ _ _ (by simp), World.cell?_alloc_at _ _ _ _ rfl]
  · rw [World.cell?_alloc_at _ _ _ _ (by simp)]
def mRwf (k : Int) (i : Nat) : Rwf := ⟨mTxt (k + 3 * i), k + 3 * i + 1, k + 3 * i + 1 + 1⟩

theorem mRwf_ok {q : Int} (h0 : 1 ≤ q) (h1 : q ≤ 1000000000) {n : Nat} (hn : n ≤ 1048576) : ∀ x ∈ (List.range n).map (mRwf q), Enc.ok x := by
  intro x hx
  simp at hx
  obtain ⟨i, hi, rfl⟩ := hx
  exact ⟨mTxt_size (by omega) (by omega), by show _ ≤ _; simp only [mRwf]; omega, by show _ ≤ _; simp only [mRwf]; omega, by show _ ≤ _; simp only [mRwf]; omega, by show _ ≤ _; simp only [mRwf]; omega⟩

end Go.Proofs.Ytakkmgeocmndjaa
