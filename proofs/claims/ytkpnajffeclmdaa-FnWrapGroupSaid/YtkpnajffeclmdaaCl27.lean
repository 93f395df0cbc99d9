/- one text of HE, HG, HJ, HL -/
import Derived.Test.YtkpnajffeclmdaaCl25
namespace Go.Proofs.Ytkpnajffeclmdaa
open Go.RowKit
set_option linter.unusedVariables false
section
end

section
def deadK (xs : List Cls) (L : List Int) : Nat → List Int
  | 0 => []
  | k + 1 => deadK xs L k ++ (if 0 ≤ firstC xs (L.take k) (L.getD k 0) 0 then [(k : Int)] else [])
theorem deadK_len (xs : List Cls) (L : List Int) : ∀ k, (deadK xs L k).length ≤ k
  | 0 => Nat.le_refl _
  | k + 1 => by
    have := deadK_len xs L k
    unfold deadK
    split <;> simp <;> omega
theorem deadK_ok (xs : List Cls) (L : List Int) : ∀ k, k ≤ 8 → ∀ x ∈ deadK xs L k, Enc.ok x
  | 0, _, x, h => nomatch h
  | k + 1, hk, x, h => by
    unfold deadK at h
    rcases List.mem_append.1 h with h | h
    · exact deadK_ok xs L k (by omega) x h
    · split at h
      · simp at h; subst h; exact ⟨by omega, by omega⟩
      · cases h
theorem deadK_yes {xs : List Cls} {L : List Int} {k : Nat} (hk : k < L.length) (h : 0 ≤ firstC xs (L.take k) L[k] 0) : deadK xs L (k + 1) = deadK xs L k ++ [(k : Int)] := by
  rw [deadK, List.getD_eq_getElem?_getD, List.getElem?_eq_getElem hk, Option.getD_some, if_pos h]
theorem deadK_no {xs : List Cls} {L : List Int} {k : Nat} (hk : k < L.length) (h : ¬ 0 ≤ firstC xs (L.take k) L[k] 0) : deadK xs L (k + 1) = deadK xs L k := by
  rw [deadK, List.getD_eq_getElem?_getD, List.getElem?_eq_getElem hk, Option.getD_some, if_neg h, List.append_nil]
def deadX (xs : List Cls) (L : List Int) : List Int := cond (goodC xs L) (deadK xs L L.length) []
theorem deadX_of {xs : List Cls} {L : List Int} {t : Bool} (h : goodC xs L = t) : deadX xs L = cond t (deadK xs L L.length) [] := by unfold deadX; rw [h]
theorem deadX_len (xs : List Cls) (L : List Int) : (deadX xs L).length ≤ 1048576 := by
  cases h : goodC xs L
  · rw [deadX_of h]; simp
  · have := (goodC_of h).few
    have h2 := deadK_len xs L L.length
    rw [deadX_of h]; show (deadK xs L L.length).length ≤ _; omega

end

section
def caughtK (xs : List Cls) (L : List Int) : Nat → List Int
  | 0 => []
  | k + 1 => caughtK xs L k ++ (if 0 ≤ firstC xs L (k : Int) 0 then [(k : Int)] else [])
theorem caughtK_len (xs : List Cls) (L : List Int) : ∀ k, (caughtK xs L k).length ≤ k
  | 0 => Nat.le_refl _
  | k + 1 => by
    have := caughtK_len xs L k
    unfold caughtK
    split <;> simp <;> omega
theorem caughtK_ok (xs : List Cls) (L : List Int) : ∀ k, k ≤ 8 → ∀ x ∈ caughtK xs L k, Enc.ok x
  | 0, _, x, h => nomatch h
  | k + 1, hk, x, h => by
    unfold caughtK at h
    rcases List.mem_append.1 h with h | h
    · exact caughtK_ok xs L k (by omega) x h
    · split at h
      · simp at h; subst h; exact ⟨by omega, by omega⟩
      · cases h
theorem caughtK_yes {xs : List Cls} {L : List Int} {k : Nat} (h : 0 ≤ firstC xs L (k : Int) 0) : caughtK xs L (k + 1) = caughtK xs L k ++ [(k : Int)] := by rw [caughtK, if_pos h]
theorem caughtK_no {xs : List Cls} {L : List Int} {k : Nat} (h : ¬ 0 ≤ firstC xs L (k : Int) 0) : caughtK xs L (k + 1) = caughtK xs L k := by rw [caughtK, if_neg h, List.append_nil]
def caughtX (xs : List Cls) (L : List Int) : List Int := cond (goodC xs L) (caughtK xs L xs.length) []
theorem caughtX_of {xs : List Cls} {L : List Int} {t : Bool} (h : goodC xs L = t) : caughtX xs L = cond t (caughtK xs L xs.length) [] := by unfold caughtX; rw [h]
theorem caughtX_len (xs : List Cls) (L : List Int) : (caughtX xs L).length ≤ 1048576 := by
  cases h : goodC xs L
  · rw [caughtX_of h]; simp
  · have := (goodC_of h).tree.hi
    have h2 := caughtK_len xs L xs.length
    rw [caughtX_of h]; show (caughtK xs L xs.length).length ≤ _; omega

end

section
def allN (xs : List Cls) (a : Int) : List Int → Bool
  | [] => true
  | b :: r => (b == a || !isAL xs a b) && allN xs a r
theorem allN_at {xs : List Cls} {a : Int} {L : List Int} {k : Nat} (h : k < L.length) : allN xs a (L.drop k) = ((L[k] == a || !isAL xs a L[k]) && allN xs a (L.drop (k + 1))) := by
  rw [List.drop_eq_getElem_cons h]; rfl
theorem allN_end {xs : List Cls} {a : Int} {L : List Int} {k : Nat} (h : ¬ k < L.length) : allN xs a (L.drop k) = true := by
  rw [List.drop_eq_nil_of_le (by omega)]; rfl
def needC (xs : List Cls) (L : List Int) (a : Int) : Bool := hasI L a && allN xs a L
def leastK (xs : List Cls) (L : List Int) : Nat → List Int
  | 0 => []
  | k + 1 => leastK xs L k ++ (if needC xs L (k : Int) then [(k : Int)] else [])
theorem leastK_len (xs : List Cls) (L : List Int) : ∀ k, (leastK xs L k).length ≤ k
  | 0 => Nat.le_refl _
  | k + 1 => by
    have := leastK_len xs L k
    unfold leastK
    split <;> simp <;> omega
theorem leastK_mem (xs : List Cls) (L : List Int) : ∀ k x, x ∈ leastK xs L k ↔ 0 ≤ x ∧ x < k ∧ needC xs L x = true
  | 0, x => by simp [leastK]; omega
  | k + 1, x => by
    unfold leastK
    rw [List.mem_append, leastK_mem xs L k x]
    cases h : needC xs L (k : Int)
    · simp only [Bool.false_eq_true, if_false, List.not_mem_nil, or_false]
      constructor
      · rintro ⟨h0, h1, h2⟩; exact ⟨h0, by omega, h2⟩
      · rintro ⟨h0, h1, h2⟩
        have : x ≠ k := fun e => by subst e; rw [h] at h2; cases h2
        exact ⟨h0, by omega, h2⟩
    · simp
      constructor
      · rintro (⟨h0, h1, h2⟩ | rfl)
        · exact ⟨h0, by omega, h2⟩
        · exact ⟨by omega, by omega, h⟩
      · rintro ⟨h0, h1, h2⟩
        by_cases e : x = k
        · exact .inr e
        · exact .inl ⟨h0, by omega, h2⟩
theorem leastK_asc (xs : List Cls) (L : List Int) : ∀ k, (leastK xs L k).Pairwise (· < ·)
  | 0 => by simp [leastK]
  | k + 1 => by
    unfold leastK
    rw [List.pairwise_append]
    refine ⟨leastK_asc xs L k, by split <;> simp, fun a ha b hb => ?_⟩
    have h1 := (leastK_mem xs L k a).1 ha
    split at hb
    · simp at hb; omega
    · cases hb
theorem leastK_yes {xs : List Cls} {L : List Int} {k : Nat} (h : needC xs L (k : Int) = true) : leastK xs L (k + 1) = leastK xs L k ++ [(k : Int)] := by rw [leastK, if_pos h]
theorem leastK_no {xs : List Cls} {L : List Int} {k : Nat} (h : needC xs L (k : Int) = false) : leastK xs L (k + 1) = leastK xs L k := by rw [leastK, h]; simp
def leastX (xs : List Cls) (L : List Int) : List Int := cond (goodC xs L) (leastK xs L xs.length) []
theorem leastX_of {xs : List Cls} {L : List Int} {t : Bool} (h : goodC xs L = t) : leastX xs L = cond t (leastK xs L xs.length) [] := by unfold leastX; rw [h]
theorem leastK_ok (xs : List Cls) (L : List Int) (k : Nat) (hk : k ≤ 8) : ∀ x ∈ leastK xs L k, Enc.ok x := by
  intro x hx
  have := (leastK_mem xs L k x).1 hx
  exact ⟨by omega, by omega⟩
theorem leastX_len (xs : List Cls) (L : List Int) : (leastX xs L).length ≤ 1048576 := by
  cases h : goodC xs L
  · rw [leastX_of h]; simp
  · have := (goodC_of h).tree.hi
    have h2 := leastK_len xs L xs.length
    rw [leastX_of h]; show (leastK xs L xs.length).length ≤ _; omega

end
end Go.Proofs.Ytkpnajffeclmdaa
