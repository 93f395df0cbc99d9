import Derived.Test.YtakkmgeocmndjaaTyFrame
import Derived.Test.YtakkmgeocmndjaaTM
namespace Go.Proofs.Ytakkmgeocmndjaa
open Go.RowKit

theorem infoFrame : (Try.prog.info? 28).map (fun i => (i.zero, i.size, i.bytes)) = some (some (.agg #[.string ByteArray.empty, .int .i64 0]), 2, 24) := by kernel_rfl
def mFrm (k : Int) (i : Nat) : Frm := ⟨mTxt (k + 2 * i), k + 2 * i + 1⟩

theorem mFrm_ok {q : Int} (h0 : 1 ≤ q) (h1 : q ≤ 1000000000) {n : Nat} (hn : n ≤ 1048576) : ∀ x ∈ (List.range n).map (mFrm q), Enc.ok x := by
  intro x hx
  simp at hx
  obtain ⟨i, hi, rfl⟩ := hx
  exact ⟨mTxt_size (by omega) (by omega), by show _ ≤ _; simp only [mFrm]; omega, by show _ ≤ _; simp only [mFrm]; omega⟩

end Go.Proofs.Ytakkmgeocmndjaa
