import Derived.Test.YtpdggodmiliijaaH
import Derived.Test.YtpdggodmiliijaaTyClass
namespace Go.Proofs.Ytpdggodmiliijaa
open Go.ChangeShapes Go.WideShapes Go.ChangeAt Go.RowKit Go.Deep Go.Joins
section
variable {H : Type} {enc : TypeId × Value → H} {P : Program} {w : World} {base : Nat} {spare : Nat → Bool} {held : Bool}
theorem elt_cls {e : TypeId} {f0 f1 : Field} (he : P.underlying e = some (.struct #[f0, f1])) (hone : oneCellFields P #[f0, f1] = true) (hC : P.cellsOf e = 2) (h0 : P.underlying f0.type = some (.string)) (h1 : P.underlying f1.type = some (.int .i64)) :
    ∀ n cs' y, DataW.trod enc P w base spare held n e cs' = some y → ∃ x : Cls, cs' = Enc.cells x ∧ Enc.ok x := by
  intro n cs' y hy
  obtain ⟨ys, n', _, _, hl, hyl, hf⟩ := DataW.trod_struct he hy
  obtain ⟨o0, k0⟩ := hone_of hone 0 f0 rfl
  obtain ⟨o1, k1⟩ := hone_of hone 1 f1 rfl
  rw [hC] at hl
  match cs', hl, ys, hyl with
  | [c0, c1], _, [y0, y1], _ =>
    have t0 : DataW.trod enc P w base spare held n' f0.type [c0] = some y0 := by simpa [o0, k0] using hf 0 f0 rfl
    have t1 : DataW.trod enc P w base spare held n' f1.type [c1] = some y1 := by simpa [o1, k1] using hf 1 f1 rfl
    obtain ⟨z0, hz0, _, hr0⟩ := DataW.trod_string h0 t0
    simp at hz0; subst hz0
    obtain ⟨z1, hz1, _, hw1⟩ := DataW.trod_int h1 t1
    have hr1 : -9223372036854775808 ≤ z1 ∧ z1 ≤ 9223372036854775807 := by simpa [Lit.wf, IntKind.min, IntKind.max, IntKind.signed, IntKind.bits] using hw1
    simp at hz1; subst hz1
    exact ⟨⟨z0, z1⟩, rfl, by simpa [maxLen] using hr0, hr1.1, hr1.2⟩
end
end Go.Proofs.Ytpdggodmiliijaa
