import Derived.Test.YtembnjanopajgaaV
namespace Go.Proofs.Ytembnjanopajgaa
open Go.RowKit

def firstIs (xs : List Cls) (b : Int) : List Int → Int
  | [] => -1
  | x :: r => if isAL xs b x then x else firstIs xs b r
def commonX (xs : List Cls) (a b : Int) : Int := cond (okTree xs && hasK xs a && hasK xs b) (firstIs xs b (aboveL xs a)) (-1)
theorem commonX_of {xs : List Cls} {a b : Int} {t : Bool} (h : (okTree xs && hasK xs a && hasK xs b) = t) : commonX xs a b = cond t (firstIs xs b (aboveL xs a)) (-1) := by unfold commonX; rw [h]
theorem firstIs_at {xs : List Cls} {L : List Int} {k : Nat} (h : k < L.length) (b : Int) : firstIs xs b (L.drop k) = if isAL xs b L[k] then L[k] else firstIs xs b (L.drop (k + 1)) := by
  rw [List.drop_eq_getElem_cons h]; rfl
/-- the root is above all, and all is the root -/
theorem root_mem {xs : List Cls} (g : Good xs) : ∀ (m : Nat) (i : Nat), i = m → i < xs.length → (0 : Int) ∈ aboveL xs (i : Int) := by
  intro m
  induction m using Nat.strongRecOn with
  | _ m ih =>
    intro i hm hi
    rw [aboveL_at g hi]
    by_cases h0 : i = 0
    · subst h0; exact List.mem_cons_self
    · have hp := g.par i hi (by omega)
      obtain ⟨p, hpe⟩ := Int.eq_ofNat_of_zero_le hp.1
      rw [hpe]
      exact List.mem_cons_of_mem _ (ih p (by omega) p rfl (by omega))
theorem hasI_mem {L : List Int} {x : Int} (h : x ∈ L) : hasI L x = true := by
  induction L with
  | nil => cases h
  | cons z r ih =>
    rcases List.mem_cons.1 h with rfl | h
    · simp [hasI]
    · simp [hasI, ih h]
theorem isA_root {xs : List Cls} (g : Good xs) {b : Int} (h0 : 0 ≤ b) (hb : b < xs.length) : isAL xs b 0 = true := by
  obtain ⟨i, rfl⟩ := Int.eq_ofNat_of_zero_le h0
  exact hasI_mem (root_mem g i i rfl (by omega))

end Go.Proofs.Ytembnjanopajgaa
