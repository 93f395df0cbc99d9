import Derived.Test.YtomdhpfelchjeaaK
namespace Go.Proofs.Ytomdhpfelchjeaa
open Go.RowKit

structure Rng where
  lo : Int
  hi : Int
  target : Int
  cls : Int
instance instEncRng : Enc Rng := ⟨4, fun x => [.int .i64 x.lo, .int .i64 x.hi, .int .i64 x.target, .int .i64 x.cls], fun x => -9223372036854775808 ≤ x.lo ∧ x.lo ≤ 9223372036854775807 ∧ -9223372036854775808 ≤ x.hi ∧ x.hi ≤ 9223372036854775807 ∧ -9223372036854775808 ≤ x.target ∧ x.target ≤ 9223372036854775807 ∧ -9223372036854775808 ≤ x.cls ∧ x.cls ≤ 9223372036854775807, fun _ => rfl⟩
theorem Sl.rng_at {w : World} {A : Option Addr} {n cap : Nat} {xs : List Rng} (h : Sl w A n cap xs) {k : Nat} (hk : k < xs.length) :
    ∃ b off, A = some ⟨b, off, none⟩ ∧ b < w.heap.size ∧ w.cell? ⟨b, off + k * 4, none⟩ = some (.int .i64 xs[k].lo) ∧ w.cell? ⟨b, off + k * 4 + 1, none⟩ = some (.int .i64 xs[k].hi) ∧ w.cell? ⟨b, off + k * 4 + 2, none⟩ = some (.int .i64 xs[k].target) ∧ w.cell? ⟨b, off + k * 4 + 3, none⟩ = some (.int .i64 xs[k].cls) ∧ (-9223372036854775808 ≤ xs[k].lo ∧ xs[k].lo ≤ 9223372036854775807 ∧ -9223372036854775808 ≤ xs[k].hi ∧ xs[k].hi ≤ 9223372036854775807 ∧ -9223372036854775808 ≤ xs[k].target ∧ xs[k].target ≤ 9223372036854775807 ∧ -9223372036854775808 ≤ xs[k].cls ∧ xs[k].cls ≤ 9223372036854775807) := by
  obtain ⟨b, off, e, hb, hc⟩ := h.cells_ hk
  have h0 := hc 0 (by decide) _ rfl
  have h1 := hc 1 (by decide) _ rfl
  have h2 := hc 2 (by decide) _ rfl
  have h3 := hc 3 (by decide) _ rfl
  exact ⟨b, off, e, hb, by simpa [Enc.size] using h0, by simpa [Enc.size, Nat.add_assoc] using h1, by simpa [Enc.size, Nat.add_assoc] using h2, by simpa [Enc.size, Nat.add_assoc] using h3, h.ok xs[k] (List.getElem_mem hk)⟩
theorem flat_rng_lo : ∀ (xs : List Rng) (k : Nat) (h : k < xs.length) (z : Int), (xs.flatMap Enc.cells).set (k * 4) (.int .i64 z) = (xs.set k {xs[k] with lo := z}).flatMap Enc.cells
  | x :: r, 0, _, z => rfl
  | x :: r, k + 1, h, z => by
    have ih := flat_rng_lo r k (by simpa using h) z
    have e : (k + 1) * 4 = k * 4 + 1 + 1 + 1 + 1 := by omega
    rw [e]
    show Value.int .i64 x.lo :: Value.int .i64 x.hi :: Value.int .i64 x.target :: Value.int .i64 x.cls :: (r.flatMap Enc.cells).set (k * 4) (.int .i64 z) = _
    rw [ih]; rfl
theorem flat_rng_hi : ∀ (xs : List Rng) (k : Nat) (h : k < xs.length) (z : Int), (xs.flatMap Enc.cells).set (k * 4 + 1) (.int .i64 z) = (xs.set k {xs[k] with hi := z}).flatMap Enc.cells
  | x :: r, 0, _, z => rfl
  | x :: r, k + 1, h, z => by
    have ih := flat_rng_hi r k (by simpa using h) z
    have e : (k + 1) * 4 + 1 = k * 4 + 1 + 1 + 1 + 1 + 1 := by omega
    rw [e]
    show Value.int .i64 x.lo :: Value.int .i64 x.hi :: Value.int .i64 x.target :: Value.int .i64 x.cls :: (r.flatMap Enc.cells).set (k * 4 + 1) (.int .i64 z) = _
    rw [ih]; rfl
theorem flat_rng_target : ∀ (xs : List Rng) (k : Nat) (h : k < xs.length) (z : Int), (xs.flatMap Enc.cells).set (k * 4 + 2) (.int .i64 z) = (xs.set k {xs[k] with target := z}).flatMap Enc.cells
  | x :: r, 0, _, z => rfl
  | x :: r, k + 1, h, z => by
    have ih := flat_rng_target r k (by simpa using h) z
    have e : (k + 1) * 4 + 2 = k * 4 + 2 + 1 + 1 + 1 + 1 := by omega
    rw [e]
    show Value.int .i64 x.lo :: Value.int .i64 x.hi :: Value.int .i64 x.target :: Value.int .i64 x.cls :: (r.flatMap Enc.cells).set (k * 4 + 2) (.int .i64 z) = _
    rw [ih]; rfl
theorem flat_rng_cls : ∀ (xs : List Rng) (k : Nat) (h : k < xs.length) (z : Int), (xs.flatMap Enc.cells).set (k * 4 + 3) (.int .i64 z) = (xs.set k {xs[k] with cls := z}).flatMap Enc.cells
  | x :: r, 0, _, z => rfl
  | x :: r, k + 1, h, z => by
    have ih := flat_rng_cls r k (by simpa using h) z
    have e : (k + 1) * 4 + 3 = k * 4 + 3 + 1 + 1 + 1 + 1 := by omega
    rw [e]
    show Value.int .i64 x.lo :: Value.int .i64 x.hi :: Value.int .i64 x.target :: Value.int .i64 x.cls :: (r.flatMap Enc.cells).set (k * 4 + 3) (.int .i64 z) = _
    rw [ih]; rfl
end Go.Proofs.Ytomdhpfelchjeaa
