/- one text of PhTy -/
import Derived.Test.YtgjlmfjmjglplaaGreatFj17
import Derived.Test.YtgjlmfjmjglplaaGreatFj19
import Derived.Test.YtgjlmfjmjglplaaGreatFj13
namespace Go.Proofs.YtgjlmfjmjglplaaGreat
open Go.RowKit
set_option linter.unusedVariables false
section
def tyX (xs : List Cls) (p : List Lin) (i : Int) : List Int := cond (glB xs p i) (match tryAt p i.toNat with | some j => nI (parts p j) | none => []) []
theorem tyX_len (xs : List Cls) (p : List Lin) (i : Int) : (tyX xs p i).length ≤ 1048576 := by
  unfold tyX
  cases h : glB xs p i
  · simp
  · obtain ⟨h1, k, rfl, hk⟩ := glB_iff.1 h
    have h2 := (goodP_of h1).len
    show (match tryAt p (k : Int).toNat with | some j => nI (parts p j) | none => []).length ≤ _
    cases tryAt p (k : Int).toNat with
    | none => simp
    | some j =>
      have := parts_len p j
      show (nI _).length ≤ _
      rw [nI_len]; omega
theorem tyX_none {xs : List Cls} {p : List Lin} {k : Nat} (h : glB xs p k = true) (h2 : tryAt p k = none) : tyX xs p k = [] := by
  unfold tyX; rw [h, Int.toNat_natCast, h2]; rfl
theorem tyX_some {xs : List Cls} {p : List Lin} {k j : Nat} (h : glB xs p k = true) (h2 : tryAt p k = some j) : tyX xs p k = nI (parts p j) := by
  unfold tyX; rw [h, Int.toNat_natCast, h2]; rfl
theorem nI_contains (L : List Nat) (x : Nat) : (nI L).contains (x : Int) = L.contains x := by
  rw [Bool.eq_iff_iff, List.contains_iff_mem, List.contains_iff_mem]
  unfold nI
  rw [List.mem_map]
  exact ⟨fun ⟨y, hy, e⟩ => by rw [← Int.ofNat.inj e]; exact hy, fun h => ⟨x, h, rfl⟩⟩
theorem tyGo_yes {p : List Lin} {i j : Nat} (h7 : knd p j = 7) (hm : (parts p j).contains i = true) : tyGo p i (j + 1) = some j := by
  unfold tyGo; rw [if_pos ⟨h7, List.contains_iff_mem.1 hm⟩]
theorem tyGo_no {p : List Lin} {i j : Nat} (h : knd p j ≠ 7 ∨ (parts p j).contains i = false) : tyGo p i (j + 1) = tyGo p i j := by
  show (if _ then _ else _) = _
  rw [if_neg]
  rintro ⟨h1, h2⟩
  rcases h with h | h
  · exact h h1
  · rw [List.contains_iff_mem.2 h2] at h; cases h
end
end Go.Proofs.YtgjlmfjmjglplaaGreat
