import Derived.Test.YtakkmgeocmndjaaK
namespace Go.Proofs.Ytakkmgeocmndjaa
open Go.RowKit

structure Rwf where
  fn : ByteArray
  line : Int
  times : Int
instance instEncRwf : Enc Rwf := ⟨3, fun x => [.string x.fn, .int .i64 x.line, .int .i64 x.times], fun x => x.fn.size ≤ 9223372036854775807 ∧ -9223372036854775808 ≤ x.line ∧ x.line ≤ 9223372036854775807 ∧ -9223372036854775808 ≤ x.times ∧ x.times ≤ 9223372036854775807, fun _ => rfl⟩
theorem Sl.rwf_at {w : World} {A : Option Addr} {n cap : Nat} {xs : List Rwf} (h : Sl w A n cap xs) {k : Nat} (hk : k < xs.length) :
    ∃ b off, A = some ⟨b, off, none⟩ ∧ b < w.heap.size ∧ w.cell? ⟨b, off + k * 3, none⟩ = some (.string xs[k].fn) ∧ w.cell? ⟨b, off + k * 3 + 1, none⟩ = some (.int .i64 xs[k].line) ∧ w.cell? ⟨b, off + k * 3 + 2, none⟩ = some (.int .i64 xs[k].times) ∧ (xs[k].fn.size ≤ 9223372036854775807 ∧ -9223372036854775808 ≤ xs[k].line ∧ xs[k].line ≤ 9223372036854775807 ∧ -9223372036854775808 ≤ xs[k].times ∧ xs[k].times ≤ 9223372036854775807) := by
  obtain ⟨b, off, e, hb, hc⟩ := h.cells_ hk
  have h0 := hc 0 (by decide) _ rfl
  have h1 := hc 1 (by decide) _ rfl
  have h2 := hc 2 (by decide) _ rfl
  exact ⟨b, off, e, hb, by simpa [Enc.size] using h0, by simpa [Enc.size, Nat.add_assoc] using h1, by simpa [Enc.size, Nat.add_assoc] using h2, h.ok xs[k] (List.getElem_mem hk)⟩
theorem flat_rwf_fn : ∀ (xs : List Rwf) (k : Nat) (h : k < xs.length) (z : ByteArray), (xs.flatMap Enc.cells).set (k * 3) (.string z) = (xs.set k {xs[k] with fn := z}).flatMap Enc.cells
  | x :: r, 0, _, z => rfl
  | x :: r, k + 1, h, z => by
    have ih := flat_rwf_fn r k (by simpa using h) z
    have e : (k + 1) * 3 = k * 3 + 1 + 1 + 1 := by omega
    rw [e]
    show Value.string x.fn :: Value.int .i64 x.line :: Value.int .i64 x.times :: (r.flatMap Enc.cells).set (k * 3) (.string z) = _
    rw [ih]; rfl
theorem flat_rwf_line : ∀ (xs : List Rwf) (k : Nat) (h : k < xs.length) (z : Int), (xs.flatMap Enc.cells).set (k * 3 + 1) (.int .i64 z) = (xs.set k {xs[k] with line := z}).flatMap Enc.cells
  | x :: r, 0, _, z => rfl
  | x :: r, k + 1, h, z => by
    have ih := flat_rwf_line r k (by simpa using h) z
    have e : (k + 1) * 3 + 1 = k * 3 + 1 + 1 + 1 + 1 := by omega
    rw [e]
    show Value.string x.fn :: Value.int .i64 x.line :: Value.int .i64 x.times :: (r.flatMap Enc.cells).set (k * 3 + 1) (.int .i64 z) = _
    rw [ih]; rfl
theorem flat_rwf_times : ∀ (xs : List Rwf) (k : Nat) (h : k < xs.length) (z : Int), (xs.flatMap Enc.cells).set (k * 3 + 2) (.int .i64 z) = (xs.set k {xs[k] with times := z}).flatMap Enc.cells
  | x :: r, 0, _, z => rfl
  | x :: r, k + 1, h, z => by
    have ih := flat_rwf_times r k (by simpa using h) z
    have e : (k + 1) * 3 + 2 = k * 3 + 2 + 1 + 1 + 1 := by omega
    rw [e]
    show Value.string x.fn :: Value.int .i64 x.line :: Value.int .i64 x.times :: (r.flatMap Enc.cells).set (k * 3 + 2) (.int .i64 z) = _
    rw [ih]; rfl
end Go.Proofs.Ytakkmgeocmndjaa
