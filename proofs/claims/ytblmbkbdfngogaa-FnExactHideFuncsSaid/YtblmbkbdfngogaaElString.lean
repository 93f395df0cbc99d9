import Derived.Test.YtblmbkbdfngogaaH
import Derived.Test.YtblmbkbdfngogaaTyStr
namespace Go.Proofs.Ytblmbkbdfngogaa
open Go.ChangeShapes Go.WideShapes Go.ChangeAt Go.RowKit Go.Deep Go.Joins
section
variable {H : Type} {enc : TypeId × Value → H} {P : Program} {w : World} {base : Nat} {spare : Nat → Bool} {held : Bool}
theorem elt_string {e : TypeId} (he : P.underlying e = some (.string)) : ∀ n cs' y, DataW.trod enc P w base spare held n e cs' = some y → ∃ x : ByteArray, cs' = Enc.cells x ∧ Enc.ok x := by
  intro n cs' y hy
  obtain ⟨z, hz, _, hwf⟩ := DataW.trod_string he hy
  exact ⟨z, hz, (show z.size ≤ _ from by simpa [maxLen] using hwf)⟩
end
end Go.Proofs.Ytblmbkbdfngogaa
