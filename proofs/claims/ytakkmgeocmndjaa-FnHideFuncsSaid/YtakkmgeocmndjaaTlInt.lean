import Derived.Test.YtakkmgeocmndjaaTL
namespace Go.Proofs.Ytakkmgeocmndjaa
open Go.RowKit

theorem infoInt : (Try.prog.info? 3).map (fun i => (i.zero, i.size, i.bytes)) = some (some (.int .i64 0), 1, 8) := by kernel_rfl
def mInt (q : Int) (i : Nat) : Int := q + i
theorem mInt_at (q : Int) (n : Nat) : ∀ i (h : i < ((List.range n).map (mInt q)).length), ((List.range n).map (mInt q))[i] = q + i := by intro i h; simp [mInt]
theorem mInt_ok {q : Int} (h0 : 1 ≤ q) (h1 : q ≤ 1000000000) {n : Nat} (hn : n ≤ 1048576) : ∀ x ∈ (List.range n).map (mInt q), Enc.ok x := by
  intro x hx
  simp at hx
  obtain ⟨i, hi, rfl⟩ := hx
  exact ⟨by show _ ≤ _; simp only [mInt]; omega, by show _ ≤ _; simp only [mInt]; omega⟩
end Go.Proofs.Ytakkmgeocmndjaa
