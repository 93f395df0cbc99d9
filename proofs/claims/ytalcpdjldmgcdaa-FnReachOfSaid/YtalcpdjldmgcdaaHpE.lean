/- spec.ValidHeap, hasFault, goodFault -/
import Derived.Test.YtalcpdjldmgcdaaHpC
namespace Go.Proofs.Ytalcpdjldmgcdaa
open Go.RowKit

/-- a valid heap that has the fault f -/
def hasF (hs : List Flt) (f : Int) : Bool := rng 0 ((hs.length : Int) - 1) f
theorem hasF_iff {hs : List Flt} {f : Int} : hasF hs f = true ↔ 0 ≤ f ∧ f < hs.length := by unfold hasF; rw [rng_iff]; omega
theorem sHasFault_any (H : Option Addr) (m c : Nat) (hs : List Flt) (f : Int) (w : World) (hH : Sl w H m c hs) :
    Calls Try.prog 48 #[.agg #[.slice H m c], .int .i64 f] w fun e w' => e = .returned (.bool (hasF hs f)) ∧ Le w w' := by
  obtain rfl := hH.len
  have hm := hH.n_le
  have hnn : IntKind.i64.wrap ((hs.length : Int) - 1) = (hs.length : Int) - 1 := IntWalk.i64_in _ (by omega)
  go_enter Try.func48, Try.ntmps48
  go_wp2_with fail
  obtain ⟨c0, z0, L0⟩ := box1 w (.slice H hs.length c) 28
  generalize w.alloc (.cells #[.slice H hs.length c] 28) = W at *
  go_wp2_with fail
  refine (rng_any _ _ _ _).mono ?_
  rintro e w1 ⟨rfl, rfl⟩
  go_wp2
  go_ret
  exact ⟨rfl, L0⟩
def goodF (xs : List Cls) (hs : List Flt) (f : Int) : Bool := okHeap xs hs && hasF hs f
set_option maxHeartbeats 2000000 in
set_option maxRecDepth 100000 in
theorem goodFault_any (A H : Option Addr) (n cap m c : Nat) (xs : List Cls) (hs : List Flt) (f : Int) (w : World) (hR : Sl w A n cap xs) (hH : Sl w H m c hs) (hm : m ≤ 2097152) :
    Calls Try.prog 30 #[.agg #[.slice A n cap], .agg #[.slice H m c], .int .i64 f] w fun e w' => e = .returned (.bool (goodF xs hs f)) ∧ Le w w' := by
  have HG : Hid (goodF xs hs f = (okHeap xs hs && hasF hs f)) := rfl
  go_enter Try.func30, Try.ntmps30
  go_wp2_with fail
  obtain ⟨c0, z0, c1, z1, L0⟩ := box2 w (.slice A n cap) (.slice H m c) 25 28
  generalize (w.alloc (.cells #[.slice A n cap] 25)).alloc (.cells #[.slice H m c] 28) = W at *
  go_wp2_with fail
  refine (validHeap_any A H n cap m c xs hs _ (hR.le L0) (hH.le L0) hm).mono ?_
  rintro e w1 ⟨rfl, hle⟩
  replace c0 := (hle.cell z0).trans c0
  replace c1 := (hle.cell z1).trans c1
  replace z0 := Nat.lt_of_lt_of_le z0 hle.size
  replace z1 := Nat.lt_of_lt_of_le z1 hle.size
  replace L0 := L0.trans hle
  cases ho : okHeap xs hs
  · rw [ho] at HG
    go_wp2
    go_ret
    exact ⟨ret_bool (by rw [HG.out]; rfl), L0⟩
  · rw [ho] at HG
    go_wp2_with fail
    refine (sHasFault_any H m c hs f _ (hH.le L0)).mono ?_
    rintro e w2 ⟨rfl, hle2⟩
    go_wp2
    go_ret
    exact ⟨ret_bool (by rw [HG.out]; rfl), L0.trans hle2⟩
end Go.Proofs.Ytalcpdjldmgcdaa
