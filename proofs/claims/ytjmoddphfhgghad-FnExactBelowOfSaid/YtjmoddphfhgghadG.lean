import Derived.Test.YtjmoddphfhgghadF
import Derived.Test.YtjmoddphfhgghadD
import Derived.Deep.RegionWith
namespace Go.Proofs.Ytjmoddphfhgghad
open Go.RowKit

theorem cls_ok {A : Option Addr} {n cap : Nat} {xs : List Cls} {w : World} (h : Sl w A n cap xs) : ∀ x ∈ xs, Enc.ok x := h.ok
theorem own_sl {w : World} {base g n cap : Nat} {xs : List Cls} (h : w.ownsRow base 62 2 (.slice (some ⟨g, 0, none⟩) n cap) n (xs.flatMap Enc.cells)) (hok : ∀ x ∈ xs, Enc.ok x) : Sl w (some ⟨g, 0, none⟩) n cap xs := Sl.of_own h rfl (by decide) hok

end Go.Proofs.Ytjmoddphfhgghad
