/- Classes that are caught: the plain functions, and the lists of the specification. -/
import Derived.Test.YtomdhpfelchjeaaV
import Derived.Test.YtomdhpfelchjeaaKB
namespace Go.Proofs.Ytomdhpfelchjeaa
open Go.RowKit

def firstC (xs : List Cls) : List Int → Int → Int → Int
  | [], _, _ => -1
  | b :: r, a, k => if isAL xs a b then k else firstC xs r a (k + 1)
theorem firstC_at {xs : List Cls} {L : List Int} {k : Nat} (h : k < L.length) (a j : Int) : firstC xs (L.drop k) a j = if isAL xs a L[k] then j else firstC xs (L.drop (k + 1)) a (j + 1) := by
  rw [List.drop_eq_getElem_cons h]; rfl
theorem firstC_end {xs : List Cls} {L : List Int} {k : Nat} (h : ¬ k < L.length) (a j : Int) : firstC xs (L.drop k) a j = -1 := by
  rw [List.drop_eq_nil_of_le (by omega)]; rfl
theorem firstC_range (xs : List Cls) (a : Int) : ∀ (L : List Int) (j : Int), 0 ≤ j → firstC xs L a j = -1 ∨ (j ≤ firstC xs L a j ∧ firstC xs L a j < j + L.length)
  | [], _, _ => .inl rfl
  | b :: r, j, hj => by
    unfold firstC
    split
    · right; simp; omega
    · rcases firstC_range xs a r (j + 1) (by omega) with h | ⟨h1, h2⟩
      · exact .inl h
      · right; simp; omega
def goodL (xs : List Cls) : List Int → Bool
  | [] => true
  | b :: r => hasK xs b && goodL xs r
def goodC (xs : List Cls) (L : List Int) : Bool := okTree xs && goodL xs L && decide (L.length ≤ 6)
theorem goodL_at {xs : List Cls} {L : List Int} {k : Nat} (h : k < L.length) : goodL xs (L.drop k) = (hasK xs L[k] && goodL xs (L.drop (k + 1))) := by
  rw [List.drop_eq_getElem_cons h]; rfl
theorem goodL_end {xs : List Cls} {L : List Int} {k : Nat} (h : ¬ k < L.length) : goodL xs (L.drop k) = true := by
  rw [List.drop_eq_nil_of_le (by omega)]; rfl
theorem goodL_mem {xs : List Cls} : ∀ {L : List Int}, goodL xs L = true → ∀ b ∈ L, hasK xs b = true
  | [], _, _, h => nomatch h
  | c :: r, h, b, hb => by
    rw [goodL, Bool.and_eq_true] at h
    rcases List.mem_cons.1 hb with rfl | hb
    · exact h.1
    · exact goodL_mem h.2 b hb
theorem goodL_mk {xs : List Cls} : ∀ {L : List Int}, (∀ b ∈ L, hasK xs b = true) → goodL xs L = true
  | [], _ => rfl
  | c :: r, h => by rw [goodL, h c (by simp), goodL_mk (fun b hb => h b (by simp [hb]))]; rfl
theorem goodL_no {xs : List Cls} {L : List Int} {b : Int} (hb : b ∈ L) (h : hasK xs b = false) : goodL xs L = false := by
  cases hg : goodL xs L
  · rfl
  · rw [goodL_mem hg b hb] at h; cases h
structure GoodC (xs : List Cls) (L : List Int) : Prop where
  tree : Good xs
  mem : ∀ b ∈ L, 0 ≤ b ∧ b < xs.length
  few : L.length ≤ 6
theorem goodC_of {xs : List Cls} {L : List Int} (h : goodC xs L = true) : GoodC xs L := by
  unfold goodC at h
  simp only [Bool.and_eq_true, decide_eq_true_eq] at h
  exact ⟨good_of h.1.1, fun b hb => hasK_iff.1 (goodL_mem h.1.2 b hb), h.2⟩
def firstX (xs : List Cls) (L : List Int) (a : Int) : Int := cond (goodC xs L && hasK xs a) (firstC xs L a 0) (-2)
theorem firstX_of {xs : List Cls} {L : List Int} {a : Int} {t : Bool} (h : (goodC xs L && hasK xs a) = t) : firstX xs L a = cond t (firstC xs L a 0) (-2) := by unfold firstX; rw [h]
end Go.Proofs.Ytomdhpfelchjeaa
