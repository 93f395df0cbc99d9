import Derived.Test.YtlejfmhmpcimaaaH
namespace Go.Proofs.Ytlejfmhmpcimaaa
open Go.ChangeShapes Go.WideShapes Go.ChangeAt Go.RowKit Go.Deep Go.Joins
section
variable {H : Type} {enc : TypeId × Value → H} {P : Program} {w : World} {base : Nat} {spare : Nat → Bool} {held : Bool}
theorem elt_int {e : TypeId} (he : P.underlying e = some (.int .i64)) : ∀ n cs' y, DataW.trod enc P w base spare held n e cs' = some y → ∃ x : Int, cs' = Enc.cells x ∧ Enc.ok x := by
  intro n cs' y hy
  obtain ⟨z, hz, _, hwf⟩ := DataW.trod_int he hy
  have hr : -9223372036854775808 ≤ z ∧ z ≤ 9223372036854775807 := by simpa [Lit.wf, IntKind.min, IntKind.max, IntKind.signed, IntKind.bits] using hwf
  exact ⟨z, hz, hr⟩
end
end Go.Proofs.Ytlejfmhmpcimaaa
