/- groups: ValidGroup of both -/
import Derived.Test.YtpdggodmiliijaaGB
import Derived.Test.YtpdggodmiliijaaGK
namespace Go.Proofs.Ytpdggodmiliijaa
open Go.RowKit
theorem iValidGroupS_any (A B : Option Addr) (n cap m c : Nat) (xs : List Cls) (g : List Prt) (w : World) (hT : Sl w A n cap xs) (hG : Sl w B m c g) :
    Calls Try.prog 52 #[.agg #[.slice A n cap], .slice B m c] w fun e w' => e = .returned (.bool (gOkS xs g)) ∧ Le w w' := by
  rw [gOk_same]; exact iValidGroup_any _ _ _ _ _ _ xs g w hT hG
end Go.Proofs.Ytpdggodmiliijaa
