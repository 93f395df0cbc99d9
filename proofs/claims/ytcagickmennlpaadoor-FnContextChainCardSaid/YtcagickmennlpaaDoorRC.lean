/- ReachOf of the model and of the program -/
import Derived.Test.YtcagickmennlpaaDoorRJ
import Derived.Test.YtcagickmennlpaaDoorRS
import Derived.Test.YtcagickmennlpaaDoorHpJ
namespace Go.Proofs.YtcagickmennlpaaDoor
open Go.RowKit

def reachX (xs : List Cls) (hs : List Flt) (f : Int) : List Int := cond (goodF xs hs f) (reachL hs f) []
theorem reachX_of {xs : List Cls} {hs : List Flt} {f : Int} {t : Bool} (h : goodF xs hs f = t) : reachX xs hs f = cond t (reachL hs f) [] := by unfold reachX; rw [h]
theorem goodF_lnk {xs : List Cls} {hs : List Flt} {f : Int} (h : goodF xs hs f = true) : Lnk hs ∧ hs.length ≤ 24 ∧ 0 ≤ f ∧ f < hs.length := by
  unfold goodF at h; rw [Bool.and_eq_true] at h
  have g := goodH_of h.1
  have := hasF_iff.1 h.2
  exact ⟨g.lnk, g.few, this.1, this.2⟩
theorem reachX_len (xs : List Cls) (hs : List Flt) (f : Int) : (reachX xs hs f).length ≤ 1048576 := by
  cases h : goodF xs hs f
  · rw [reachX_of h]; simp
  · rw [reachX_of h]
    obtain ⟨_, h1, _⟩ := goodF_lnk h
    have := ascOf_len (L := rch0 hs f) hs.length
    show (ascOf (rch0 hs f) hs.length).length ≤ _
    omega

set_option maxRecDepth 100000 in
theorem iReachOf_any (A H : Option Addr) (n cap m c : Nat) (xs : List Cls) (hs : List Flt) (f : Int) (w : World) (hR : Sl w A n cap xs) (hH : Sl w H m c hs) (hm : m ≤ 2097152) :
    Calls Tryd.prog 32 #[.agg #[.slice A n cap], .agg #[.slice H m c], .int .i64 f] w fun e w' => ∃ v, e = .returned v ∧ Owd 3 w w' v (reachX xs hs f) ∧ Le w w' := by
  go_enter Tryd.func32, Tryd.ntmps32
  go_wp2_with fail
  obtain ⟨c0, z0, c1, z1, L0⟩ := box2 w (.slice A n cap) (.slice H m c) 25 28
  have S0 := hH.le L0
  have hL0 := L0
  generalize (w.alloc (.cells #[.slice A n cap] 25)).alloc (.cells #[.slice H m c] 28) = W at *
  refine (iHasFault_any A H n cap m c xs hs f W (hR.le L0) S0 hm).mono ?_
  rintro e w1 ⟨rfl, hle⟩
  replace c0 := (hle.cell z0).trans c0
  replace c1 := (hle.cell z1).trans c1
  replace z0 := Nat.lt_of_lt_of_le z0 hle.size
  replace z1 := Nat.lt_of_lt_of_le z1 hle.size
  replace L0 := L0.trans hle
  replace S0 := S0.le hle
  have hle1 := hle
  clear hle
  cases ho : goodF xs hs f
  · have HX := Lib.hid (reachX_of ho)
    clear ho
    go_wp2
    go_ret
    exact ⟨_, rfl, by rw [HX.out]; exact Owd.nil _ _ _, L0⟩
  · have HX := Lib.hid (reachX_of ho)
    obtain ⟨lk, hfew, hf0, hf1⟩ := goodF_lnk ho
    have HLK := Lib.hid lk
    clear ho lk
    go_wp2_with fail
    refine (iReach_any H m c hs f _ S0 HLK.out hf0 hf1 hm).mono ?_
    rintro e w2 ⟨v, rfl, D, hle⟩
    have HD := Lib.hid (D.mono (w00 := w) L0)
    clear D
    go_wp2
    go_ret
    exact ⟨_, rfl, by rw [HX.out]; exact HD.out, L0.trans hle⟩

end Go.Proofs.YtcagickmennlpaaDoor
