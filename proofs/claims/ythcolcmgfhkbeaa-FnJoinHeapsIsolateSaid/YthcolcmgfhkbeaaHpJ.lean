/- ShownNext of the model and of the program -/
import Derived.Test.YthcolcmgfhkbeaaHpE
import Derived.Test.YthcolcmgfhkbeaaVH
namespace Go.Proofs.Ythcolcmgfhkbeaa
open Go.RowKit

/-- what is shown ahead of a fault -/
def shownOf (x : Flt) : Int := cond (decide (0 ≤ x.cause)) x.cause (cond x.hide (-1) x.ctx)
def shownAt (hs : List Flt) (f : Int) : Int := match hs[f.toNat]? with | some x => shownOf x | none => -1
theorem shownAt_at {hs : List Flt} {i : Nat} (h : i < hs.length) : shownAt hs (i : Int) = shownOf hs[i] := by
  unfold shownAt; rw [Int.toNat_natCast, List.getElem?_eq_getElem h]
def shownX (xs : List Cls) (hs : List Flt) (f : Int) : Int := cond (goodF xs hs f) (shownAt hs f) (-2)
theorem shownX_of {xs : List Cls} {hs : List Flt} {f : Int} {t : Bool} (h : goodF xs hs f = t) : shownX xs hs f = cond t (shownAt hs f) (-2) := by unfold shownX; rw [h]

theorem iHasFault_any (A H : Option Addr) (n cap m c : Nat) (xs : List Cls) (hs : List Flt) (f : Int) (w : World) (hR : Sl w A n cap xs) (hH : Sl w H m c hs) (hm : m ≤ 2097152) :
    Calls Try.prog 17 #[.agg #[.slice A n cap], .agg #[.slice H m c], .int .i64 f] w fun e w' => e = .returned (.bool (goodF xs hs f)) ∧ Le w w' := by
  have HG : Hid (goodF xs hs f = (hasF hs f && okHeap xs hs)) := by show _ = _; unfold goodF; rw [Bool.and_comm]
  obtain rfl := hH.len
  have hnn : IntKind.i64.wrap ((hs.length : Int) - 1) = (hs.length : Int) - 1 := IntWalk.i64_in _ (by omega)
  go_enter Try.func17, Try.ntmps17
  go_wp2_with fail
  obtain ⟨c0, z0, c1, z1, L0⟩ := box2 w (.slice A n cap) (.slice H hs.length c) 25 28
  generalize (w.alloc (.cells #[.slice A n cap] 25)).alloc (.cells #[.slice H hs.length c] 28) = W at *
  refine (iInRange_any _ _ _ _).mono ?_
  rintro e w1 ⟨rfl, hle⟩
  replace c0 := (hle.cell z0).trans c0
  replace c1 := (hle.cell z1).trans c1
  replace z0 := Nat.lt_of_lt_of_le z0 hle.size
  replace z1 := Nat.lt_of_lt_of_le z1 hle.size
  replace L0 := L0.trans hle
  clear hle
  have hq : rng 0 ((hs.length : Int) - 1) f = hasF hs f := rfl
  rw [hq]
  cases ho : hasF hs f
  · rw [ho] at HG
    go_wp2
    go_ret
    exact ⟨ret_bool (by rw [HG.out]; rfl), L0⟩
  · rw [ho] at HG
    go_wp2_with fail
    refine (iValidHeap_any A H n cap hs.length c xs hs w1 (hR.le L0) (hH.le L0) hm).mono ?_
    rintro e w2 ⟨rfl, hle⟩
    go_wp2
    go_ret
    exact ⟨ret_bool (by rw [HG.out]; rfl), L0.trans hle⟩

end Go.Proofs.Ythcolcmgfhkbeaa
