import Derived.Test.YtpdggodmiliijaaK
namespace Go.Proofs.Ytpdggodmiliijaa
open Go.RowKit

structure Flt where
  cls : Int
  code : Int
  cause : Int
  ctx : Int
  hide : Bool
instance instEncFlt : Enc Flt := ⟨5, fun x => [.int .i64 x.cls, .int .i64 x.code, .int .i64 x.cause, .int .i64 x.ctx, .bool x.hide], fun x => -9223372036854775808 ≤ x.cls ∧ x.cls ≤ 9223372036854775807 ∧ -9223372036854775808 ≤ x.code ∧ x.code ≤ 9223372036854775807 ∧ -9223372036854775808 ≤ x.cause ∧ x.cause ≤ 9223372036854775807 ∧ -9223372036854775808 ≤ x.ctx ∧ x.ctx ≤ 9223372036854775807, fun _ => rfl⟩
theorem Sl.flt_at {w : World} {A : Option Addr} {n cap : Nat} {xs : List Flt} (h : Sl w A n cap xs) {k : Nat} (hk : k < xs.length) :
    ∃ b off, A = some ⟨b, off, none⟩ ∧ b < w.heap.size ∧ w.cell? ⟨b, off + k * 5, none⟩ = some (.int .i64 xs[k].cls) ∧ w.cell? ⟨b, off + k * 5 + 1, none⟩ = some (.int .i64 xs[k].code) ∧ w.cell? ⟨b, off + k * 5 + 2, none⟩ = some (.int .i64 xs[k].cause) ∧ w.cell? ⟨b, off + k * 5 + 3, none⟩ = some (.int .i64 xs[k].ctx) ∧ w.cell? ⟨b, off + k * 5 + 4, none⟩ = some (.bool xs[k].hide) ∧ (-9223372036854775808 ≤ xs[k].cls ∧ xs[k].cls ≤ 9223372036854775807 ∧ -9223372036854775808 ≤ xs[k].code ∧ xs[k].code ≤ 9223372036854775807 ∧ -9223372036854775808 ≤ xs[k].cause ∧ xs[k].cause ≤ 9223372036854775807 ∧ -9223372036854775808 ≤ xs[k].ctx ∧ xs[k].ctx ≤ 9223372036854775807) := by
  obtain ⟨b, off, e, hb, hc⟩ := h.cells_ hk
  have h0 := hc 0 (by decide) _ rfl
  have h1 := hc 1 (by decide) _ rfl
  have h2 := hc 2 (by decide) _ rfl
  have h3 := hc 3 (by decide) _ rfl
  have h4 := hc 4 (by decide) _ rfl
  exact ⟨b, off, e, hb, by simpa [Enc.size] using h0, by simpa [Enc.size, Nat.add_assoc] using h1, by simpa [Enc.size, Nat.add_assoc] using h2, by simpa [Enc.size, Nat.add_assoc] using h3, by simpa [Enc.size, Nat.add_assoc] using h4, h.ok xs[k] (List.getElem_mem hk)⟩
theorem flat_flt_cls : ∀ (xs : List Flt) (k : Nat) (h : k < xs.length) (z : Int), (xs.flatMap Enc.cells).set (k * 5) (.int .i64 z) = (xs.set k {xs[k] with cls := z}).flatMap Enc.cells
  | x :: r, 0, _, z => rfl
  | x :: r, k + 1, h, z => by
    have ih := flat_flt_cls r k (by simpa using h) z
    have e : (k + 1) * 5 = k * 5 + 1 + 1 + 1 + 1 + 1 := by omega
    rw [e]
    show Value.int .i64 x.cls :: Value.int .i64 x.code :: Value.int .i64 x.cause :: Value.int .i64 x.ctx :: Value.bool x.hide :: (r.flatMap Enc.cells).set (k * 5) (.int .i64 z) = _
    rw [ih]; rfl
theorem flat_flt_code : ∀ (xs : List Flt) (k : Nat) (h : k < xs.length) (z : Int), (xs.flatMap Enc.cells).set (k * 5 + 1) (.int .i64 z) = (xs.set k {xs[k] with code := z}).flatMap Enc.cells
  | x :: r, 0, _, z => rfl
  | x :: r, k + 1, h, z => by
    have ih := flat_flt_code r k (by simpa using h) z
    have e : (k + 1) * 5 + 1 = k * 5 + 1 + 1 + 1 + 1 + 1 + 1 := by omega
    rw [e]
    show Value.int .i64 x.cls :: Value.int .i64 x.code :: Value.int .i64 x.cause :: Value.int .i64 x.ctx :: Value.bool x.hide :: (r.flatMap Enc.cells).set (k * 5 + 1) (.int .i64 z) = _
    rw [ih]; rfl
theorem flat_flt_cause : ∀ (xs : List Flt) (k : Nat) (h : k < xs.length) (z : Int), (xs.flatMap Enc.cells).set (k * 5 + 2) (.int .i64 z) = (xs.set k {xs[k] with cause := z}).flatMap Enc.cells
  | x :: r, 0, _, z => rfl
  | x :: r, k + 1, h, z => by
    have ih := flat_flt_cause r k (by simpa using h) z
    have e : (k + 1) * 5 + 2 = k * 5 + 2 + 1 + 1 + 1 + 1 + 1 := by omega
    rw [e]
    show Value.int .i64 x.cls :: Value.int .i64 x.code :: Value.int .i64 x.cause :: Value.int .i64 x.ctx :: Value.bool x.hide :: (r.flatMap Enc.cells).set (k * 5 + 2) (.int .i64 z) = _
    rw [ih]; rfl
theorem flat_flt_ctx : ∀ (xs : List Flt) (k : Nat) (h : k < xs.length) (z : Int), (xs.flatMap Enc.cells).set (k * 5 + 3) (.int .i64 z) = (xs.set k {xs[k] with ctx := z}).flatMap Enc.cells
  | x :: r, 0, _, z => rfl
  | x :: r, k + 1, h, z => by
    have ih := flat_flt_ctx r k (by simpa using h) z
    have e : (k + 1) * 5 + 3 = k * 5 + 3 + 1 + 1 + 1 + 1 + 1 := by omega
    rw [e]
    show Value.int .i64 x.cls :: Value.int .i64 x.code :: Value.int .i64 x.cause :: Value.int .i64 x.ctx :: Value.bool x.hide :: (r.flatMap Enc.cells).set (k * 5 + 3) (.int .i64 z) = _
    rw [ih]; rfl
theorem flat_flt_hide : ∀ (xs : List Flt) (k : Nat) (h : k < xs.length) (z : Bool), (xs.flatMap Enc.cells).set (k * 5 + 4) (.bool z) = (xs.set k {xs[k] with hide := z}).flatMap Enc.cells
  | x :: r, 0, _, z => rfl
  | x :: r, k + 1, h, z => by
    have ih := flat_flt_hide r k (by simpa using h) z
    have e : (k + 1) * 5 + 4 = k * 5 + 4 + 1 + 1 + 1 + 1 + 1 := by omega
    rw [e]
    show Value.int .i64 x.cls :: Value.int .i64 x.code :: Value.int .i64 x.cause :: Value.int .i64 x.ctx :: Value.bool x.hide :: (r.flatMap Enc.cells).set (k * 5 + 4) (.bool z) = _
    rw [ih]; rfl
end Go.Proofs.Ytpdggodmiliijaa
