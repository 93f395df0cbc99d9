import Derived.Test.YtjmoddphfhgghaaD
namespace Go.Proofs.Ytjmoddphfhgghaa
open Go.RowKit

theorem sValidTree_any (A : Option Addr) (n cap : Nat) (xs : List Cls) (w : World) (hR : Sl w A n cap xs) :
    Calls Try.prog 11 #[.agg #[.slice A n cap]] w fun e w' => e = .returned (.bool (okTree xs)) ∧ Le w w' := by
  go_enter Try.func11, Try.ntmps11
  go_wp2_with fail
  refine (validTree_any A n cap xs _ (hR.alloc _)).mono ?_
  rintro e w2 ⟨rfl, hle⟩
  go_wp2
  go_ret
  exact ⟨rfl, (Le.new w _).trans hle⟩

end Go.Proofs.Ytjmoddphfhgghaa
