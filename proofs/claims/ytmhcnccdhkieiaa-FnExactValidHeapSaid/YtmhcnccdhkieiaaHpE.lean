/- spec.ValidHeap, hasFault, goodFault -/
import Derived.Test.YtmhcnccdhkieiaaHpC
namespace Go.Proofs.Ytmhcnccdhkieiaa
open Go.RowKit

theorem sValidHeap_any (A H : Option Addr) (n cap m c : Nat) (xs : List Cls) (hs : List Flt) (w : World) (hR : Sl w A n cap xs) (hH : Sl w H m c hs) (hm : m ≤ 2097152) :
    Calls Try.prog 6 #[.agg #[.slice A n cap], .agg #[.slice H m c]] w fun e w' => e = .returned (.bool (okHeap xs hs)) ∧ Le w w' := by
  go_enter Try.func6, Try.ntmps6
  go_wp2_with fail
  obtain ⟨c0, z0, c1, z1, L0⟩ := box2 w (.slice A n cap) (.slice H m c) 33 37
  generalize (w.alloc (.cells #[.slice A n cap] 33)).alloc (.cells #[.slice H m c] 37) = W at *
  go_wp2_with fail
  refine (validHeap_any A H n cap m c xs hs _ (hR.le L0) (hH.le L0) hm).mono ?_
  rintro e w1 ⟨rfl, hle⟩
  go_wp2
  go_ret
  exact ⟨rfl, L0.trans hle⟩
/-- a valid heap that has the fault f -/
def hasF (hs : List Flt) (f : Int) : Bool := rng 0 ((hs.length : Int) - 1) f
theorem hasF_iff {hs : List Flt} {f : Int} : hasF hs f = true ↔ 0 ≤ f ∧ f < hs.length := by unfold hasF; rw [rng_iff]; omega
def goodF (xs : List Cls) (hs : List Flt) (f : Int) : Bool := okHeap xs hs && hasF hs f
end Go.Proofs.Ytmhcnccdhkieiaa
