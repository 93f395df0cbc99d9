import Derived.Test.YtacilbglnhgifaaK
namespace Go.Proofs.Ytacilbglnhgifaa
open Go.RowKit

structure Xit where
  kind : Int
  a : Int
  b : Int
instance instEncXit : Enc Xit := ⟨3, fun x => [.int .i64 x.kind, .int .i64 x.a, .int .i64 x.b], fun x => -9223372036854775808 ≤ x.kind ∧ x.kind ≤ 9223372036854775807 ∧ -9223372036854775808 ≤ x.a ∧ x.a ≤ 9223372036854775807 ∧ -9223372036854775808 ≤ x.b ∧ x.b ≤ 9223372036854775807, fun _ => rfl⟩
theorem Sl.xit_at {w : World} {A : Option Addr} {n cap : Nat} {xs : List Xit} (h : Sl w A n cap xs) {k : Nat} (hk : k < xs.length) :
    ∃ b off, A = some ⟨b, off, none⟩ ∧ b < w.heap.size ∧ w.cell? ⟨b, off + k * 3, none⟩ = some (.int .i64 xs[k].kind) ∧ w.cell? ⟨b, off + k * 3 + 1, none⟩ = some (.int .i64 xs[k].a) ∧ w.cell? ⟨b, off + k * 3 + 2, none⟩ = some (.int .i64 xs[k].b) ∧ (-9223372036854775808 ≤ xs[k].kind ∧ xs[k].kind ≤ 9223372036854775807 ∧ -9223372036854775808 ≤ xs[k].a ∧ xs[k].a ≤ 9223372036854775807 ∧ -9223372036854775808 ≤ xs[k].b ∧ xs[k].b ≤ 9223372036854775807) := by
  obtain ⟨b, off, e, hb, hc⟩ := h.cells_ hk
  have h0 := hc 0 (by decide) _ rfl
  have h1 := hc 1 (by decide) _ rfl
  have h2 := hc 2 (by decide) _ rfl
  exact ⟨b, off, e, hb, by simpa [Enc.size] using h0, by simpa [Enc.size, Nat.add_assoc] using h1, by simpa [Enc.size, Nat.add_assoc] using h2, h.ok xs[k] (List.getElem_mem hk)⟩
theorem flat_xit_kind : ∀ (xs : List Xit) (k : Nat) (h : k < xs.length) (z : Int), (xs.flatMap Enc.cells).set (k * 3) (.int .i64 z) = (xs.set k {xs[k] with kind := z}).flatMap Enc.cells
  | x :: r, 0, _, z => rfl
  | x :: r, k + 1, h, z => by
    have ih := flat_xit_kind r k (by simpa using h) z
    have e : (k + 1) * 3 = k * 3 + 1 + 1 + 1 := by omega
    rw [e]
    show Value.int .i64 x.kind :: Value.int .i64 x.a :: Value.int .i64 x.b :: (r.flatMap Enc.cells).set (k * 3) (.int .i64 z) = _
    rw [ih]; rfl
theorem flat_xit_a : ∀ (xs : List Xit) (k : Nat) (h : k < xs.length) (z : Int), (xs.flatMap Enc.cells).set (k * 3 + 1) (.int .i64 z) = (xs.set k {xs[k] with a := z}).flatMap Enc.cells
  | x :: r, 0, _, z => rfl
  | x :: r, k + 1, h, z => by
    have ih := flat_xit_a r k (by simpa using h) z
    have e : (k + 1) * 3 + 1 = k * 3 + 1 + 1 + 1 + 1 := by omega
    rw [e]
    show Value.int .i64 x.kind :: Value.int .i64 x.a :: Value.int .i64 x.b :: (r.flatMap Enc.cells).set (k * 3 + 1) (.int .i64 z) = _
    rw [ih]; rfl
theorem flat_xit_b : ∀ (xs : List Xit) (k : Nat) (h : k < xs.length) (z : Int), (xs.flatMap Enc.cells).set (k * 3 + 2) (.int .i64 z) = (xs.set k {xs[k] with b := z}).flatMap Enc.cells
  | x :: r, 0, _, z => rfl
  | x :: r, k + 1, h, z => by
    have ih := flat_xit_b r k (by simpa using h) z
    have e : (k + 1) * 3 + 2 = k * 3 + 2 + 1 + 1 + 1 := by omega
    rw [e]
    show Value.int .i64 x.kind :: Value.int .i64 x.a :: Value.int .i64 x.b :: (r.flatMap Enc.cells).set (k * 3 + 2) (.int .i64 z) = _
    rw [ih]; rfl
end Go.Proofs.Ytacilbglnhgifaa
