/- spec.deadCatches, spec.DeadCatches -/
import Derived.Test.YtjcellhpmooifaaHE
namespace Go.Proofs.Ytjcellhpmooifaa
open Go.RowKit

def deadK (xs : List Cls) (L : List Int) : Nat → List Int
  | 0 => []
  | k + 1 => deadK xs L k ++ (if 0 ≤ firstC xs (L.take k) (L.getD k 0) 0 then [(k : Int)] else [])
theorem deadK_len (xs : List Cls) (L : List Int) : ∀ k, (deadK xs L k).length ≤ k
  | 0 => Nat.le_refl _
  | k + 1 => by
    have := deadK_len xs L k
    unfold deadK
    split <;> simp <;> omega
theorem deadK_ok (xs : List Cls) (L : List Int) : ∀ k, k ≤ 8 → ∀ x ∈ deadK xs L k, Enc.ok x
  | 0, _, x, h => nomatch h
  | k + 1, hk, x, h => by
    unfold deadK at h
    rcases List.mem_append.1 h with h | h
    · exact deadK_ok xs L k (by omega) x h
    · split at h
      · simp at h; subst h; exact ⟨by omega, by omega⟩
      · cases h
theorem deadK_yes {xs : List Cls} {L : List Int} {k : Nat} (hk : k < L.length) (h : 0 ≤ firstC xs (L.take k) L[k] 0) : deadK xs L (k + 1) = deadK xs L k ++ [(k : Int)] := by
  rw [deadK, List.getD_eq_getElem?_getD, List.getElem?_eq_getElem hk, Option.getD_some, if_pos h]
theorem deadK_no {xs : List Cls} {L : List Int} {k : Nat} (hk : k < L.length) (h : ¬ 0 ≤ firstC xs (L.take k) L[k] 0) : deadK xs L (k + 1) = deadK xs L k := by
  rw [deadK, List.getD_eq_getElem?_getD, List.getElem?_eq_getElem hk, Option.getD_some, if_neg h, List.append_nil]
def deadX (xs : List Cls) (L : List Int) : List Int := cond (goodC xs L) (deadK xs L L.length) []
theorem deadX_of {xs : List Cls} {L : List Int} {t : Bool} (h : goodC xs L = t) : deadX xs L = cond t (deadK xs L L.length) [] := by unfold deadX; rw [h]
theorem deadX_len (xs : List Cls) (L : List Int) : (deadX xs L).length ≤ 1048576 := by
  cases h : goodC xs L
  · rw [deadX_of h]; simp
  · have := (goodC_of h).few
    have h2 := deadK_len xs L L.length
    rw [deadX_of h]; show (deadK xs L L.length).length ≤ _; omega

end Go.Proofs.Ytjcellhpmooifaa
