/- Isolated faults: plain (RD0 without what asks for a valid heap) -/
import Derived.Test.YtacilbglnhgifaaRJ
import Derived.Test.YtacilbglnhgifaaRS
import Derived.Test.YtacilbglnhgifaaHpF
import Derived.Test.YtacilbglnhgifaaIx
namespace Go.Proofs.Ytacilbglnhgifaa
open Go.RowKit

theorem idx_rng : ∀ (L : List Int) (x k : Int), 0 ≤ k → -1 ≤ idx L x k ∧ idx L x k < k + L.length + 1
  | [], x, k, h => by simp [idx]; omega
  | y :: r, x, k, h => by
    have := idx_rng r x (k + 1) (by omega)
    unfold idx
    split
    · simp; omega
    · simp; omega
def isoF (hs : List Flt) (L : List Int) (x : Int) : Flt :=
  match hs[x.toNat]? with
  | some y => ⟨y.cls, y.code, idx L y.cause 0, idx L y.ctx 0, y.hide⟩
  | none => ⟨0, 0, -1, -1, false⟩
theorem isoF_at {hs : List Flt} {L : List Int} {i : Nat} (h : i < hs.length) : isoF hs L (i : Int) = ⟨hs[i].cls, hs[i].code, idx L hs[i].cause 0, idx L hs[i].ctx 0, hs[i].hide⟩ := by
  unfold isoF; rw [Int.toNat_natCast, List.getElem?_eq_getElem h]
def isoL (hs : List Flt) (L : List Int) : List Flt := L.map (isoF hs L)
theorem isoF_ok {hs : List Flt} {L : List Int} (hok : ∀ x ∈ hs, Enc.ok x) (hl : L.length ≤ 1048576) (x : Int) : Enc.ok (isoF hs L x) := by
  unfold isoF
  split
  · next y hy =>
    have h := hok y (List.mem_of_getElem? hy)
    have a := idx_rng L y.cause 0 (by omega)
    have b := idx_rng L y.ctx 0 (by omega)
    exact ⟨h.1, h.2.1, h.2.2.1, h.2.2.2.1, by show (-9223372036854775808 : Int) ≤ idx L y.cause 0; omega, by show idx L y.cause 0 ≤ (9223372036854775807 : Int); omega, by show (-9223372036854775808 : Int) ≤ idx L y.ctx 0; omega, by show idx L y.ctx 0 ≤ (9223372036854775807 : Int); omega⟩
  · exact ⟨by decide, by decide, by decide, by decide, by decide, by decide, by decide, by decide⟩
theorem isoL_take {hs : List Flt} {L : List Int} {k : Nat} (hk : k < L.length) : (L.take k).map (isoF hs L) ++ [isoF hs L L[k]] = (L.take (k + 1)).map (isoF hs L) := by
  rw [List.take_succ_eq_append_getElem hk, List.map_append]; rfl

end Go.Proofs.Ytacilbglnhgifaa
