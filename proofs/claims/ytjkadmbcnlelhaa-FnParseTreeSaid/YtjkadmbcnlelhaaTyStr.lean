import Derived.Test.YtjkadmbcnlelhaaK
namespace Go.Proofs.Ytjkadmbcnlelhaa
open Go.RowKit

instance instEncStr : Enc ByteArray := ⟨1, fun s => [.string s], fun s => s.size ≤ 9223372036854775807, fun _ => rfl⟩
theorem Sl.str_at {w : World} {A : Option Addr} {n cap : Nat} {xs : List ByteArray} (h : Sl w A n cap xs) {k : Nat} (hk : k < xs.length) :
    ∃ b off, A = some ⟨b, off, none⟩ ∧ b < w.heap.size ∧ w.cell? ⟨b, off + k, none⟩ = some (.string xs[k]) := by
  obtain ⟨b, off, e, hb, hc⟩ := h.cells_ hk
  have := hc 0 (by decide) _ rfl
  exact ⟨b, off, e, hb, by simpa [Enc.size] using this⟩

end Go.Proofs.Ytjkadmbcnlelhaa
