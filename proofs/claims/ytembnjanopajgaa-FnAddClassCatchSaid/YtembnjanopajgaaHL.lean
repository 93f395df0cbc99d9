/- spec.LeastCatches -/
import Derived.Test.YtembnjanopajgaaHE
namespace Go.Proofs.Ytembnjanopajgaa
open Go.RowKit

def allN (xs : List Cls) (a : Int) : List Int → Bool
  | [] => true
  | b :: r => (b == a || !isAL xs a b) && allN xs a r
theorem allN_at {xs : List Cls} {a : Int} {L : List Int} {k : Nat} (h : k < L.length) : allN xs a (L.drop k) = ((L[k] == a || !isAL xs a L[k]) && allN xs a (L.drop (k + 1))) := by
  rw [List.drop_eq_getElem_cons h]; rfl
theorem allN_end {xs : List Cls} {a : Int} {L : List Int} {k : Nat} (h : ¬ k < L.length) : allN xs a (L.drop k) = true := by
  rw [List.drop_eq_nil_of_le (by omega)]; rfl
def needC (xs : List Cls) (L : List Int) (a : Int) : Bool := hasI L a && allN xs a L
def leastK (xs : List Cls) (L : List Int) : Nat → List Int
  | 0 => []
  | k + 1 => leastK xs L k ++ (if needC xs L (k : Int) then [(k : Int)] else [])
theorem leastK_len (xs : List Cls) (L : List Int) : ∀ k, (leastK xs L k).length ≤ k
  | 0 => Nat.le_refl _
  | k + 1 => by
    have := leastK_len xs L k
    unfold leastK
    split <;> simp <;> omega
theorem leastK_mem (xs : List Cls) (L : List Int) : ∀ k x, x ∈ leastK xs L k ↔ 0 ≤ x ∧ x < k ∧ needC xs L x = true
  | 0, x => by simp [leastK]; omega
  | k + 1, x => by
    unfold leastK
    rw [List.mem_append, leastK_mem xs L k x]
    cases h : needC xs L (k : Int)
    · simp only [Bool.false_eq_true, if_false, List.not_mem_nil, or_false]
      constructor
      · rintro ⟨h0, h1, h2⟩; exact ⟨h0, by omega, h2⟩
      · rintro ⟨h0, h1, h2⟩
        have : x ≠ k := fun e => by subst e; rw [h] at h2; cases h2
        exact ⟨h0, by omega, h2⟩
    · simp
      constructor
      · rintro (⟨h0, h1, h2⟩ | rfl)
        · exact ⟨h0, by omega, h2⟩
        · exact ⟨by omega, by omega, h⟩
      · rintro ⟨h0, h1, h2⟩
        by_cases e : x = k
        · exact .inr e
        · exact .inl ⟨h0, by omega, h2⟩
theorem leastK_asc (xs : List Cls) (L : List Int) : ∀ k, (leastK xs L k).Pairwise (· < ·)
  | 0 => by simp [leastK]
  | k + 1 => by
    unfold leastK
    rw [List.pairwise_append]
    refine ⟨leastK_asc xs L k, by split <;> simp, fun a ha b hb => ?_⟩
    have h1 := (leastK_mem xs L k a).1 ha
    split at hb
    · simp at hb; omega
    · cases hb
theorem leastK_yes {xs : List Cls} {L : List Int} {k : Nat} (h : needC xs L (k : Int) = true) : leastK xs L (k + 1) = leastK xs L k ++ [(k : Int)] := by rw [leastK, if_pos h]
theorem leastK_no {xs : List Cls} {L : List Int} {k : Nat} (h : needC xs L (k : Int) = false) : leastK xs L (k + 1) = leastK xs L k := by rw [leastK, h]; simp
def leastX (xs : List Cls) (L : List Int) : List Int := cond (goodC xs L) (leastK xs L xs.length) []
theorem leastX_of {xs : List Cls} {L : List Int} {t : Bool} (h : goodC xs L = t) : leastX xs L = cond t (leastK xs L xs.length) [] := by unfold leastX; rw [h]
theorem leastK_ok (xs : List Cls) (L : List Int) (k : Nat) (hk : k ≤ 8) : ∀ x ∈ leastK xs L k, Enc.ok x := by
  intro x hx
  have := (leastK_mem xs L k x).1 hx
  exact ⟨by omega, by omega⟩
theorem leastX_len (xs : List Cls) (L : List Int) : (leastX xs L).length ≤ 1048576 := by
  cases h : goodC xs L
  · rw [leastX_of h]; simp
  · have := (goodC_of h).tree.hi
    have h2 := leastK_len xs L xs.length
    rw [leastX_of h]; show (leastK xs L xs.length).length ≤ _; omega

end Go.Proofs.Ytembnjanopajgaa
