/- ReachOf of the model and of the program -/
import Derived.Test.YthcolcmgfhkbeaaRJ
import Derived.Test.YthcolcmgfhkbeaaRS
import Derived.Test.YthcolcmgfhkbeaaHpJ
namespace Go.Proofs.Ythcolcmgfhkbeaa
open Go.RowKit

def reachX (xs : List Cls) (hs : List Flt) (f : Int) : List Int := cond (goodF xs hs f) (reachL hs f) []
theorem reachX_of {xs : List Cls} {hs : List Flt} {f : Int} {t : Bool} (h : goodF xs hs f = t) : reachX xs hs f = cond t (reachL hs f) [] := by unfold reachX; rw [h]
theorem goodF_lnk {xs : List Cls} {hs : List Flt} {f : Int} (h : goodF xs hs f = true) : Lnk hs ∧ hs.length ≤ 24 ∧ 0 ≤ f ∧ f < hs.length := by
  unfold goodF at h; rw [Bool.and_eq_true] at h
  have g := goodH_of h.1
  have := hasF_iff.1 h.2
  exact ⟨g.lnk, g.few, this.1, this.2⟩
theorem reachX_len (xs : List Cls) (hs : List Flt) (f : Int) : (reachX xs hs f).length ≤ 1048576 := by
  cases h : goodF xs hs f
  · rw [reachX_of h]; simp
  · rw [reachX_of h]
    obtain ⟨_, h1, _⟩ := goodF_lnk h
    have := ascOf_len (L := rch0 hs f) hs.length
    show (ascOf (rch0 hs f) hs.length).length ≤ _
    omega

end Go.Proofs.Ythcolcmgfhkbeaa
