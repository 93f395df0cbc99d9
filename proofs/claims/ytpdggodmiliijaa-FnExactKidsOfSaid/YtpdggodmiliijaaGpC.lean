/- Plain: what a group keeps of its leaves -/
import Derived.Test.YtpdggodmiliijaaGpB
namespace Go.Proofs.Ytpdggodmiliijaa
open Go.RowKit

def anyF (f : Nat → Bool) : Nat → Nat → Bool
  | _, 0 => false
  | k, m + 1 => f k || anyF f (k + 1) m
theorem anyF_iff {f : Nat → Bool} : ∀ m k, anyF f k m = true ↔ ∃ i, k ≤ i ∧ i < k + m ∧ f i = true
  | 0, k => by
    simp only [anyF]
    constructor
    · intro h; cases h
    · rintro ⟨i, h1, h2, _⟩; omega
  | m + 1, k => by
    unfold anyF
    rw [Bool.or_eq_true, anyF_iff m (k + 1)]
    constructor
    · rintro (h | ⟨i, h1, h2, h3⟩)
      · exact ⟨k, Nat.le_refl _, by omega, h⟩
      · exact ⟨i, by omega, by omega, h3⟩
    · rintro ⟨i, h1, h2, h3⟩
      by_cases e : i = k
      · subst e; exact .inl h3
      · exact .inr ⟨i, by omega, by omega, h3⟩
theorem endFrom_le (g : List Prt) (i : Nat) : ∀ m k, k + m ≤ g.length → endFrom g i m k ≤ g.length
  | 0, k, h => by unfold endFrom; omega
  | m + 1, k, h => by
    unfold endFrom
    split
    · exact endFrom_le g i m (k + 1) (by omega)
    · omega
theorem endN_le {g : List Prt} {i : Nat} (h : i < g.length) : endN g i ≤ g.length := endFrom_le g i _ _ (by omega)
theorem endN_gt (g : List Prt) (i : Nat) : i < endN g i := endFrom_ge g i _ (i + 1)
/-- the part k is a leaf that passes -/
def passAt (t : Prt → Bool) (g : List Prt) (k : Nat) : Bool := !(gAt g k).group && t (gAt g k)
/-- a leaf passes that is the part i, or lies below it -/
def keepsAt (t : Prt → Bool) (g : List Prt) (i : Nat) : Bool := anyF (passAt t g) i (endN g i - i)
theorem keeps_iff {t : Prt → Bool} {g : List Prt} {i : Nat} : keepsAt t g i = true ↔ ∃ k, i ≤ k ∧ k < endN g i ∧ passAt t g k = true := by
  unfold keepsAt
  rw [anyF_iff]
  have := endN_gt g i
  constructor
  · rintro ⟨k, h1, h2, h3⟩; exact ⟨k, h1, by omega, h3⟩
  · rintro ⟨k, h1, h2, h3⟩; exact ⟨k, h1, by omega, h3⟩
/-- something is kept just where a leaf passes -/
theorem kept_any (t : Prt → Bool) (g : List Prt) : anyF (keepsAt t g) 0 g.length = anyF (passAt t g) 0 g.length := by
  rw [Bool.eq_iff_iff, anyF_iff, anyF_iff]
  constructor
  · rintro ⟨i, _, h2, h3⟩
    obtain ⟨k, a, b, c⟩ := keeps_iff.1 h3
    have := endN_le (g := g) (i := i) (by omega)
    exact ⟨k, by omega, by omega, c⟩
  · rintro ⟨k, h1, h2, h3⟩
    exact ⟨k, h1, h2, keeps_iff.2 ⟨k, Nat.le_refl _, endN_gt g k, h3⟩⟩
/-- what is below a part that is below another one ends with that one, or ahead -/
theorem endFrom_stop {g : List Prt} {i : Nat} : ∀ m k, k + m = g.length → endFrom g i m k < g.length → (gAt g (endFrom g i m k)).depth ≤ (gAt g i).depth
  | 0, k, e, h => by unfold endFrom at h; omega
  | m + 1, k, e, h => by
    unfold endFrom at h ⊢
    by_cases c : k < g.length ∧ (gAt g i).depth < (gAt g k).depth
    · rw [if_pos c] at h ⊢; exact endFrom_stop m (k + 1) (by omega) h
    · rw [if_neg c] at h ⊢
      have : ¬ (gAt g i).depth < (gAt g k).depth := fun x => c ⟨h, x⟩
      omega
theorem endFrom_in {g : List Prt} {i : Nat} : ∀ m k j, k ≤ j → j < endFrom g i m k → (gAt g i).depth < (gAt g j).depth
  | 0, k, j, h1, h2 => by unfold endFrom at h2; omega
  | m + 1, k, j, h1, h2 => by
    unfold endFrom at h2
    by_cases c : k < g.length ∧ (gAt g i).depth < (gAt g k).depth
    · rw [if_pos c] at h2
      by_cases e : j = k
      · subst e; exact c.2
      · exact endFrom_in m (k + 1) j (by omega) h2
    · rw [if_neg c] at h2; omega
theorem endN_stop {g : List Prt} {i : Nat} (hi : i < g.length) (h : endN g i < g.length) : (gAt g (endN g i)).depth ≤ (gAt g i).depth := endFrom_stop _ _ (by omega) h
theorem endN_in {g : List Prt} {i j : Nat} (h1 : i < j) (h2 : j < endN g i) : (gAt g i).depth < (gAt g j).depth := endFrom_in _ _ j (by omega) h2
theorem endN_nest {g : List Prt} {i j : Nat} (hi : i < g.length) (h1 : i < j) (h2 : j < endN g i) : endN g j ≤ endN g i := by
  have hl := endN_le hi
  rcases Nat.lt_or_ge (endN g i) (endN g j) with h | h
  · exfalso
    have hj : j < g.length := by omega
    have hlt : endN g i < g.length := by have := endN_le hj; omega
    have a := endN_stop hi hlt
    have b := endN_in (g := g) (i := j) (j := endN g i) (by omega) h
    have c := endN_in h1 h2
    omega
  · exact h
end Go.Proofs.Ytpdggodmiliijaa
