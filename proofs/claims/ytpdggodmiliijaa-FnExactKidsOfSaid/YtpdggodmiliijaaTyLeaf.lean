import Derived.Test.YtpdggodmiliijaaK
namespace Go.Proofs.Ytpdggodmiliijaa
open Go.RowKit

structure Lef where
  cls : Int
  code : Int
instance instEncLef : Enc Lef := ⟨2, fun x => [.int .i64 x.cls, .int .i64 x.code], fun x => -9223372036854775808 ≤ x.cls ∧ x.cls ≤ 9223372036854775807 ∧ -9223372036854775808 ≤ x.code ∧ x.code ≤ 9223372036854775807, fun _ => rfl⟩
theorem Sl.lef_at {w : World} {A : Option Addr} {n cap : Nat} {xs : List Lef} (h : Sl w A n cap xs) {k : Nat} (hk : k < xs.length) :
    ∃ b off, A = some ⟨b, off, none⟩ ∧ b < w.heap.size ∧ w.cell? ⟨b, off + k * 2, none⟩ = some (.int .i64 xs[k].cls) ∧ w.cell? ⟨b, off + k * 2 + 1, none⟩ = some (.int .i64 xs[k].code) ∧ (-9223372036854775808 ≤ xs[k].cls ∧ xs[k].cls ≤ 9223372036854775807 ∧ -9223372036854775808 ≤ xs[k].code ∧ xs[k].code ≤ 9223372036854775807) := by
  obtain ⟨b, off, e, hb, hc⟩ := h.cells_ hk
  have h0 := hc 0 (by decide) _ rfl
  have h1 := hc 1 (by decide) _ rfl
  exact ⟨b, off, e, hb, by simpa [Enc.size] using h0, by simpa [Enc.size, Nat.add_assoc] using h1, h.ok xs[k] (List.getElem_mem hk)⟩
theorem flat_lef_cls : ∀ (xs : List Lef) (k : Nat) (h : k < xs.length) (z : Int), (xs.flatMap Enc.cells).set (k * 2) (.int .i64 z) = (xs.set k {xs[k] with cls := z}).flatMap Enc.cells
  | x :: r, 0, _, z => rfl
  | x :: r, k + 1, h, z => by
    have ih := flat_lef_cls r k (by simpa using h) z
    have e : (k + 1) * 2 = k * 2 + 1 + 1 := by omega
    rw [e]
    show Value.int .i64 x.cls :: Value.int .i64 x.code :: (r.flatMap Enc.cells).set (k * 2) (.int .i64 z) = _
    rw [ih]; rfl
theorem flat_lef_code : ∀ (xs : List Lef) (k : Nat) (h : k < xs.length) (z : Int), (xs.flatMap Enc.cells).set (k * 2 + 1) (.int .i64 z) = (xs.set k {xs[k] with code := z}).flatMap Enc.cells
  | x :: r, 0, _, z => rfl
  | x :: r, k + 1, h, z => by
    have ih := flat_lef_code r k (by simpa using h) z
    have e : (k + 1) * 2 + 1 = k * 2 + 1 + 1 + 1 := by omega
    rw [e]
    show Value.int .i64 x.cls :: Value.int .i64 x.code :: (r.flatMap Enc.cells).set (k * 2 + 1) (.int .i64 z) = _
    rw [ih]; rfl
end Go.Proofs.Ytpdggodmiliijaa
