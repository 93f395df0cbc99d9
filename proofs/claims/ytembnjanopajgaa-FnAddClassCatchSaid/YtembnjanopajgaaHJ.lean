/- spec.CaughtBy -/
import Derived.Test.YtembnjanopajgaaHE
namespace Go.Proofs.Ytembnjanopajgaa
open Go.RowKit

def caughtK (xs : List Cls) (L : List Int) : Nat → List Int
  | 0 => []
  | k + 1 => caughtK xs L k ++ (if 0 ≤ firstC xs L (k : Int) 0 then [(k : Int)] else [])
theorem caughtK_len (xs : List Cls) (L : List Int) : ∀ k, (caughtK xs L k).length ≤ k
  | 0 => Nat.le_refl _
  | k + 1 => by
    have := caughtK_len xs L k
    unfold caughtK
    split <;> simp <;> omega
theorem caughtK_ok (xs : List Cls) (L : List Int) : ∀ k, k ≤ 8 → ∀ x ∈ caughtK xs L k, Enc.ok x
  | 0, _, x, h => nomatch h
  | k + 1, hk, x, h => by
    unfold caughtK at h
    rcases List.mem_append.1 h with h | h
    · exact caughtK_ok xs L k (by omega) x h
    · split at h
      · simp at h; subst h; exact ⟨by omega, by omega⟩
      · cases h
theorem caughtK_yes {xs : List Cls} {L : List Int} {k : Nat} (h : 0 ≤ firstC xs L (k : Int) 0) : caughtK xs L (k + 1) = caughtK xs L k ++ [(k : Int)] := by rw [caughtK, if_pos h]
theorem caughtK_no {xs : List Cls} {L : List Int} {k : Nat} (h : ¬ 0 ≤ firstC xs L (k : Int) 0) : caughtK xs L (k + 1) = caughtK xs L k := by rw [caughtK, if_neg h, List.append_nil]
def caughtX (xs : List Cls) (L : List Int) : List Int := cond (goodC xs L) (caughtK xs L xs.length) []
theorem caughtX_of {xs : List Cls} {L : List Int} {t : Bool} (h : goodC xs L = t) : caughtX xs L = cond t (caughtK xs L xs.length) [] := by unfold caughtX; rw [h]
theorem caughtX_len (xs : List Cls) (L : List Int) : (caughtX xs L).length ≤ 1048576 := by
  cases h : goodC xs L
  · rw [caughtX_of h]; simp
  · have := (goodC_of h).tree.hi
    have h2 := caughtK_len xs L xs.length
    rw [caughtX_of h]; show (caughtK xs L xs.length).length ≤ _; omega

end Go.Proofs.Ytembnjanopajgaa
