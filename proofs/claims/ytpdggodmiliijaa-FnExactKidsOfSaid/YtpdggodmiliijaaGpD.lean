/- Plain: what the program keeps by visits is what the model keeps by indices -/
import Derived.Test.YtpdggodmiliijaaGpC
namespace Go.Proofs.Ytpdggodmiliijaa
open Go.RowKit

def selL (f : Nat → Bool) (g : List Prt) : Nat → Nat → List Prt
  | _, 0 => []
  | k, m + 1 => cond (f k) [gAt g k] [] ++ selL f g (k + 1) m
theorem selL_append (f : Nat → Bool) (g : List Prt) : ∀ m k j, selL f g k (m + j) = selL f g k m ++ selL f g (k + m) j
  | 0, k, j => by simp [selL]
  | m + 1, k, j => by
    have e : m + 1 + j = (m + j) + 1 := by omega
    rw [e, selL, selL, selL_append f g m (k + 1) j, List.append_assoc, show k + 1 + m = k + (m + 1) by omega]
theorem selL_none {f : Nat → Bool} {g : List Prt} : ∀ m k, (∀ i, k ≤ i → i < k + m → f i = false) → selL f g k m = []
  | 0, _, _ => rfl
  | m + 1, k, h => by
    rw [selL, h k (Nat.le_refl _) (by omega), selL_none m (k + 1) (fun i a b => h i (by omega) (by omega))]
    rfl
/-- the visits of the pieces from f up to b -/
def vis (t : Prt → Bool) (g : List Prt) : Nat → Nat → Nat → List Prt
  | 0, _, _ => []
  | m + 1, f, b => if f < b then cond (anyF (passAt t g) f (endN g f - f)) (gAt g f :: vis t g m (f + 1) (endN g f)) [] ++ vis t g m (endN g f) b else []
theorem vis_is (t : Prt → Bool) (g : List Prt) : ∀ (m f b : Nat), b ≤ g.length → (∀ i, f ≤ i → i < b → endN g i ≤ b) → b - f ≤ m → vis t g m f b = selL (keepsAt t g) g f (b - f)
  | 0, f, b, _, _, hm => by rw [show b - f = 0 by omega]; rfl
  | m + 1, f, b, hb, hn, hm => by
    unfold vis
    by_cases h : f < b
    · rw [if_pos h]
      have hgt := endN_gt g f
      have hle := hn f (Nat.le_refl _) h
      have hfl : f < g.length := by omega
      have ih2 := vis_is t g m (endN g f) b hb (fun i a c => hn i (by omega) c) (by omega)
      have ih1 := vis_is t g m (f + 1) (endN g f) (by omega) (fun i a c => endN_nest hfl (by omega) c) (by omega)
      rw [ih2]
      have es : b - f = (endN g f - f) + (b - endN g f) := by omega
      rw [es, selL_append, show f + (endN g f - f) = endN g f by omega]
      congr 1
      have e1 : endN g f - f = (endN g f - (f + 1)) + 1 := by omega
      cases ha : anyF (passAt t g) f (endN g f - f)
      · rw [cond_false]
        symm
        refine selL_none _ _ (fun i h1 h2 => ?_)
        cases hk : keepsAt t g i
        · rfl
        · exfalso
          obtain ⟨k, a1, a2, a3⟩ := keeps_iff.1 hk
          have hne : endN g i ≤ endN g f := by
            by_cases e : i = f
            · subst e; exact Nat.le_refl _
            · exact endN_nest hfl (by omega) (by omega)
          have : anyF (passAt t g) f (endN g f - f) = true := (anyF_iff _ _).2 ⟨k, by omega, by omega, a3⟩
          rw [this] at ha; cases ha
      · rw [cond_true, ih1, e1, selL]
        have hk : keepsAt t g f = true := ha
        rw [hk]
        rfl
    · rw [if_neg h, show b - f = 0 by omega]; rfl
/-- the whole of a valid group -/
theorem vis_all {xs : List Cls} {g : List Prt} (t : Prt → Bool) (_h : GoodG xs g) : vis t g g.length 0 g.length = selL (keepsAt t g) g 0 g.length :=
  vis_is t g g.length 0 g.length (Nat.le_refl _) (fun _ _ c => endN_le c) (by omega)
end Go.Proofs.Ytpdggodmiliijaa
