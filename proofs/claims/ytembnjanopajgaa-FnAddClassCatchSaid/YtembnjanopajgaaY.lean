import Derived.Test.YtembnjanopajgaaV
namespace Go.Proofs.Ytembnjanopajgaa
open Go.RowKit

def belowK (xs : List Cls) (a : Int) : Nat → List Int
  | 0 => []
  | k + 1 => belowK xs a k ++ (if isAL xs (k : Int) a then [(k : Int)] else [])
theorem belowK_len (xs : List Cls) (a : Int) : ∀ k, (belowK xs a k).length ≤ k
  | 0 => Nat.le_refl _
  | k + 1 => by
    have := belowK_len xs a k
    unfold belowK
    split <;> simp <;> omega
theorem belowK_ok (xs : List Cls) (a : Int) : ∀ k, k ≤ 8 → ∀ x ∈ belowK xs a k, Enc.ok x
  | 0, _, x, h => nomatch h
  | k + 1, hk, x, h => by
    unfold belowK at h
    rcases List.mem_append.1 h with h | h
    · exact belowK_ok xs a k (by omega) x h
    · split at h
      · simp at h; subst h; exact ⟨by omega, by omega⟩
      · cases h
def belowX (xs : List Cls) (a : Int) : List Int := cond (okTree xs && hasK xs a) (belowK xs a xs.length) []
theorem belowX_of {xs : List Cls} {a : Int} {b : Bool} (h : (okTree xs && hasK xs a) = b) : belowX xs a = cond b (belowK xs a xs.length) [] := by unfold belowX; rw [h]
theorem belowX_len (xs : List Cls) (a : Int) : (belowX xs a).length ≤ 1048576 := by
  cases h : okTree xs && hasK xs a
  · rw [belowX_of h]; simp
  · have hab : okTree xs = true ∧ hasK xs a = true := by simpa using h
    have g := good_of hab.1
    have := belowK_len xs a xs.length
    have := g.hi
    rw [belowX_of h]; show (belowK xs a xs.length).length ≤ _; omega

end Go.Proofs.Ytembnjanopajgaa
