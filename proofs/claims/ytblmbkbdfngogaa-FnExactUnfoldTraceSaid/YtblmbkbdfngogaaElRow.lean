import Derived.Test.YtblmbkbdfngogaaElFrame
import Derived.Test.YtblmbkbdfngogaaTyRow
namespace Go.Proofs.Ytblmbkbdfngogaa
open Go.ChangeShapes Go.WideShapes Go.ChangeAt Go.RowKit Go.Deep Go.Joins
section
variable {H : Type} {enc : TypeId × Value → H} {P : Program} {w : World} {base : Nat} {spare : Nat → Bool} {held : Bool}
theorem elt_rwf {e : TypeId} {f0 f1 g0 g1 : Field} (he : P.underlying e = some (.struct #[f0, f1])) (o0 : f0.offset = 0) (o1 : f1.offset = 2) (k1 : P.cellsOf f1.type = 1) (hC : P.cellsOf e = 3)
    (hf : P.underlying f0.type = some (.struct #[g0, g1])) (hone : oneCellFields P #[g0, g1] = true) (hC0 : P.cellsOf f0.type = 2) (h0 : P.underlying g0.type = some (.string)) (h1 : P.underlying g1.type = some (.int .i64)) (h2 : P.underlying f1.type = some (.int .i64)) :
    ∀ n cs' y, DataW.trod enc P w base spare held n e cs' = some y → ∃ x : Rwf, cs' = Enc.cells x ∧ Enc.ok x := by
  intro n cs' y hy
  obtain ⟨ys, n', _, _, hl, hyl, hF⟩ := DataW.trod_struct he hy
  rw [hC] at hl
  match cs', hl, ys, hyl with
  | [c0, c1, c2], _, [y0, y1], _ =>
    have t0 : DataW.trod enc P w base spare held n' f0.type [c0, c1] = some y0 := by simpa [o0, hC0] using hF 0 f0 rfl
    have t1 : DataW.trod enc P w base spare held n' f1.type [c2] = some y1 := by simpa [o1, k1] using hF 1 f1 rfl
    obtain ⟨x, hx, hok⟩ := elt_frm hf hone hC0 h0 h1 n' _ _ t0
    obtain ⟨z, hz, _, hw⟩ := DataW.trod_int h2 t1
    have hr : -9223372036854775808 ≤ z ∧ z ≤ 9223372036854775807 := by simpa [Lit.wf, IntKind.min, IntKind.max, IntKind.signed, IntKind.bits] using hw
    simp at hz; subst hz
    simp [Enc.cells] at hx
    obtain ⟨rfl, rfl⟩ := hx
    exact ⟨⟨x.fn, x.line, z⟩, rfl, hok.1, hok.2.1, hok.2.2, hr.1, hr.2⟩
end
end Go.Proofs.Ytblmbkbdfngogaa
