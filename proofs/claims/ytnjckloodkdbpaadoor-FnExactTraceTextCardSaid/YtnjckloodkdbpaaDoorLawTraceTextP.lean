import Derived.Test.YtnjckloodkdbpaaDoorCq2
import Derived.Test.YtnjckloodkdbpaaDoorCq9
import Derived.Test.YtnjckloodkdbpaaDoorCq10
import Derived.Test.YtnjckloodkdbpaaDoorGotAP
namespace Go.Proofs.YtnjckloodkdbpaaDoor
open Go.RowKit

set_option maxHeartbeats 16000000 in
set_option maxRecDepth 100000 in
theorem exTraceText_walk (Al : Option Addr) (nl cl : Nat) (l : List Frm) (w : World) (hl : Sl w Al nl cl l) (hG : GotErr w) :
    Calls Tryd.prog 6 #[.slice Al nl cl] w fun e w' => e = .returned (.bool true) ∧ Le w w' := by
  have hokl := hl.ok
  have hmxl := hl.n_le
  go_enter Tryd.func6, Tryd.ntmps6
  go_wp2_with fail
  have L0 := Le.refl w
  refine (szFrameS_any Al nl cl l _ _ (hl.le L0) (by omega) (by omega)).mono ?_
  rintro e w1 ⟨rl, rfl, hr, hle⟩
  have s1 := hle.size
  replace L0 := L0.trans hle
  clear hle
  rcases hr with rfl | ⟨hl0, hl1, hl2⟩
  · go_wp2
    go_ret
    exact ⟨rfl, L0⟩
  have hnegl : decide (rl < 0) = false := decide_eq_false (by omega)
  go_wp2_with fail
  refine (toFrameS_any Al nl cl l _ (hl.le L0) (by omega)).mono ?_
  rintro e w2 ⟨rfl, Oal, hle⟩
  have s2 := hle.size
  replace L0 := L0.trans hle
  clear hle
  have hbal := own_lt Oal
  go_wp2_with fail
  refine (sTraceText_any _ _ _ l _ (Sl.of_own Oal rfl (by decide) hokl)).mono ?_
  rintro e w3 ⟨rfl, hle⟩
  have s3 := hle.size
  replace L0 := L0.trans hle
  replace Oal := own_le Oal hle
  clear hle
  clear Oal
  go_wp2_with fail
  refine (toFrameS_any Al nl cl l _ (hl.le L0) (by omega)).mono ?_
  rintro e w4 ⟨rfl, Oxl, hle⟩
  have s4 := hle.size
  replace L0 := L0.trans hle
  clear hle
  have hbxl := own_lt Oxl
  go_wp2_with fail
  refine (iTraceText_any _ _ _ l _ (Sl.of_own Oxl rfl (by decide) hokl) (hG.le L0)).mono ?_
  rintro e w5 ⟨rfl, hle⟩
  have s5 := hle.size
  replace L0 := L0.trans hle
  replace Oxl := own_le Oxl hle
  clear hle
  go_wp2_with fail
  refine (toFrameS_any Al nl cl l _ (hl.le L0) (by omega)).mono ?_
  rintro e w6 ⟨rfl, Oy, hle⟩
  have s6 := hle.size
  replace L0 := L0.trans hle
  replace Oxl := own_le Oxl hle
  clear hle
  have hby := own_lt Oy
  have Sy := Sl.of_own Oy rfl (by decide) hokl; clear Oy hby
  go_wp2_with fail
  refine (eqFrameS_self _ _ _ _ _ l _ (Sl.of_own Oxl rfl (by decide) hokl) Sy).mono ?_
  rintro e w7 ⟨rfl, hle⟩
  have s7 := hle.size
  replace L0 := L0.trans hle
  replace Oxl := own_le Oxl hle
  clear hle
  clear Sy
  go_wp2
  go_ret
  exact ⟨rfl, L0⟩
end Go.Proofs.YtnjckloodkdbpaaDoor
