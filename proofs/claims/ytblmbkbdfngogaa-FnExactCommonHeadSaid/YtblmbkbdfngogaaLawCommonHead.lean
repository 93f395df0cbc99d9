import Derived.Test.YtblmbkbdfngogaaTlFrame
import Derived.Test.YtblmbkbdfngogaaTrB
namespace Go.Proofs.Ytblmbkbdfngogaa
open Go.RowKit

set_option maxHeartbeats 16000000 in
set_option maxRecDepth 100000 in
theorem exCommonHead_walk (Al : Option Addr) (nl cl : Nat) (l : List Frm) (Ab : Option Addr) (nb cb : Nat) (b : List Frm) (w : World) (hl : Sl w Al nl cl l) (hb : Sl w Ab nb cb b) :
    Calls Try.prog 9 #[.slice Al nl cl, .slice Ab nb cb] w fun e w' => e = .returned (.bool true) ∧ Le w w' := by
  have hokl := hl.ok
  have hmxl := hl.n_le
  have hokb := hb.ok
  have hmxb := hb.n_le
  go_enter Try.func9, Try.ntmps9
  go_wp2_with fail
  have L0 := Le.refl w
  refine (szFrameS_any Al nl cl l _ _ (hl.le L0) (by omega) (by omega)).mono ?_
  rintro e w1 ⟨rl, rfl, hr, hle⟩
  have s1 := hle.size
  replace L0 := L0.trans hle
  clear hle
  rcases hr with rfl | ⟨hl0, hl1, hl2⟩
  · go_wp2
    go_ret
    exact ⟨rfl, L0⟩
  have hnegl : decide (rl < 0) = false := decide_eq_false (by omega)
  go_wp2_with fail
  refine (szFrameS_any Ab nb cb b _ _ (hb.le L0) (by omega) (by omega)).mono ?_
  rintro e w2 ⟨rb, rfl, hr, hle⟩
  have s2 := hle.size
  replace L0 := L0.trans hle
  clear hle
  rcases hr with rfl | ⟨hb0, hb1, hb2⟩
  · go_wp2
    go_ret
    exact ⟨rfl, L0⟩
  have hnegb : decide (rb < 0) = false := decide_eq_false (by omega)
  go_wp2_with fail
  refine (toFrameS_any Al nl cl l _ (hl.le L0) (by omega)).mono ?_
  rintro e w3 ⟨rfl, Oal, hle⟩
  have s3 := hle.size
  replace L0 := L0.trans hle
  clear hle
  have hbal := own_lt Oal
  go_wp2_with fail
  refine (toFrameS_any Ab nb cb b _ (hb.le L0) (by omega)).mono ?_
  rintro e w4 ⟨rfl, Oab, hle⟩
  have s4 := hle.size
  replace L0 := L0.trans hle
  replace Oal := own_le Oal hle
  clear hle
  have hbab := own_lt Oab
  go_wp2_with fail
  refine (sCommonHead_any _ _ _ _ _ _ l b _ (Sl.of_own Oal rfl (by decide) hokl) (Sl.of_own Oab rfl (by decide) hokb)).mono ?_
  rintro e w5 ⟨rfl, hle⟩
  have s5 := hle.size
  replace L0 := L0.trans hle
  replace Oal := own_le Oal hle
  replace Oab := own_le Oab hle
  clear hle
  clear Oal Oab
  go_wp2_with fail
  refine (toFrameS_any Al nl cl l _ (hl.le L0) (by omega)).mono ?_
  rintro e w6 ⟨rfl, Oxl, hle⟩
  have s6 := hle.size
  replace L0 := L0.trans hle
  clear hle
  have hbxl := own_lt Oxl
  go_wp2_with fail
  refine (toFrameS_any Ab nb cb b _ (hb.le L0) (by omega)).mono ?_
  rintro e w7 ⟨rfl, Oxb, hle⟩
  have s7 := hle.size
  replace L0 := L0.trans hle
  replace Oxl := own_le Oxl hle
  clear hle
  have hbxb := own_lt Oxb
  go_wp2_with fail
  refine (iCommonHead_any _ _ _ _ _ _ l b _ (Sl.of_own Oxl rfl (by decide) hokl) (Sl.of_own Oxb rfl (by decide) hokb)).mono ?_
  rintro e w8 ⟨rfl, hle⟩
  have s8 := hle.size
  replace L0 := L0.trans hle
  replace Oxl := own_le Oxl hle
  replace Oxb := own_le Oxb hle
  clear hle
  go_wp2_with fail
  refine (toFrameS_any Al nl cl l _ (hl.le L0) (by omega)).mono ?_
  rintro e w9 ⟨rfl, Oy, hle⟩
  have s9 := hle.size
  replace L0 := L0.trans hle
  replace Oxl := own_le Oxl hle
  replace Oxb := own_le Oxb hle
  clear hle
  have hby := own_lt Oy
  have Sy := Sl.of_own Oy rfl (by decide) hokl; clear Oy hby
  go_wp2_with fail
  refine (eqFrameS_self _ _ _ _ _ l _ (Sl.of_own Oxl rfl (by decide) hokl) Sy).mono ?_
  rintro e w10 ⟨rfl, hle⟩
  have s10 := hle.size
  replace L0 := L0.trans hle
  replace Oxl := own_le Oxl hle
  replace Oxb := own_le Oxb hle
  clear hle
  clear Sy
  go_wp2_with fail
  refine (toFrameS_any Ab nb cb b _ (hb.le L0) (by omega)).mono ?_
  rintro e w11 ⟨rfl, Oy, hle⟩
  have s11 := hle.size
  replace L0 := L0.trans hle
  replace Oxl := own_le Oxl hle
  replace Oxb := own_le Oxb hle
  clear hle
  have hby := own_lt Oy
  have Sy := Sl.of_own Oy rfl (by decide) hokb; clear Oy hby
  go_wp2_with fail
  refine (eqFrameS_self _ _ _ _ _ b _ (Sl.of_own Oxb rfl (by decide) hokb) Sy).mono ?_
  rintro e w12 ⟨rfl, hle⟩
  have s12 := hle.size
  replace L0 := L0.trans hle
  replace Oxl := own_le Oxl hle
  replace Oxb := own_le Oxb hle
  clear hle
  clear Sy
  go_wp2
  go_ret
  exact ⟨rfl, L0⟩
end Go.Proofs.Ytblmbkbdfngogaa
