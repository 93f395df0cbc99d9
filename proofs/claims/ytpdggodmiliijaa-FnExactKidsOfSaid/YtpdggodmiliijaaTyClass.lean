import Derived.Test.YtpdggodmiliijaaK
namespace Go.Proofs.Ytpdggodmiliijaa
open Go.RowKit

theorem flat_cls_name : ∀ (xs : List Cls) (k : Nat) (h : k < xs.length) (z : ByteArray), (xs.flatMap Enc.cells).set (k * 2) (.string z) = (xs.set k {xs[k] with name := z}).flatMap Enc.cells
  | x :: r, 0, _, z => rfl
  | x :: r, k + 1, h, z => by
    have ih := flat_cls_name r k (by simpa using h) z
    have e : (k + 1) * 2 = k * 2 + 1 + 1 := by omega
    rw [e]
    show Value.string x.name :: Value.int .i64 x.parent :: (r.flatMap Enc.cells).set (k * 2) (.string z) = _
    rw [ih]; rfl
theorem flat_cls_parent : ∀ (xs : List Cls) (k : Nat) (h : k < xs.length) (z : Int), (xs.flatMap Enc.cells).set (k * 2 + 1) (.int .i64 z) = (xs.set k {xs[k] with parent := z}).flatMap Enc.cells
  | x :: r, 0, _, z => rfl
  | x :: r, k + 1, h, z => by
    have ih := flat_cls_parent r k (by simpa using h) z
    have e : (k + 1) * 2 + 1 = k * 2 + 1 + 1 + 1 := by omega
    rw [e]
    show Value.string x.name :: Value.int .i64 x.parent :: (r.flatMap Enc.cells).set (k * 2 + 1) (.int .i64 z) = _
    rw [ih]; rfl
end Go.Proofs.Ytpdggodmiliijaa
