/- groups: ValidGroup of both -/
import Derived.Test.YtilhjbbhkpflpaaGB
import Derived.Test.YtilhjbbhkpflpaaGK
namespace Go.Proofs.Ytilhjbbhkpflpaa
open Go.RowKit
theorem sValidGroup_any (A B : Option Addr) (n cap m c : Nat) (xs : List Cls) (g : List Prt) (w : World) (hT : Sl w A n cap xs) (hG : Sl w B m c g) :
    Calls Try.prog 7 #[.agg #[.slice A n cap], .slice B m c] w fun e w' => e = .returned (.bool (gOkS xs g)) ∧ Le w w' := by
  go_enter Try.func7, Try.ntmps7
  go_wp2_with fail
  refine (validGroup_any _ _ _ _ _ _ xs g _ (hT.alloc _) (hG.alloc _)).mono ?_
  rintro e w2 ⟨rfl, hle⟩
  go_wp2
  go_ret
  exact ⟨rfl, (Le.new w _).trans hle⟩
theorem iValidGroupS_any (A B : Option Addr) (n cap m c : Nat) (xs : List Cls) (g : List Prt) (w : World) (hT : Sl w A n cap xs) (hG : Sl w B m c g) :
    Calls Try.prog 10 #[.agg #[.slice A n cap], .slice B m c] w fun e w' => e = .returned (.bool (gOkS xs g)) ∧ Le w w' := by
  rw [gOk_same]; exact iValidGroup_any _ _ _ _ _ _ xs g w hT hG
end Go.Proofs.Ytilhjbbhkpflpaa
