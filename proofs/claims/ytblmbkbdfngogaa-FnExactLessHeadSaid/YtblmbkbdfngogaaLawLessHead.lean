import Derived.Test.YtblmbkbdfngogaaTlFrame
import Derived.Test.YtblmbkbdfngogaaTlW
import Derived.Test.YtblmbkbdfngogaaTrD
namespace Go.Proofs.Ytblmbkbdfngogaa
open Go.RowKit

set_option maxHeartbeats 16000000 in
set_option maxRecDepth 100000 in
theorem exLessHead_walk (Al : Option Addr) (nl cl : Nat) (l : List Frm) (Ab : Option Addr) (nb cb : Nat) (b : List Frm) (w : World) (hl : Sl w Al nl cl l) (hb : Sl w Ab nb cb b) :
    Calls Try.prog 10 #[.slice Al nl cl, .slice Ab nb cb] w fun e w' => e = .returned (.bool true) ∧ Le w w' := by
  have hokl := hl.ok
  have hmxl := hl.n_le
  have hokb := hb.ok
  have hmxb := hb.n_le
  have HL0 : (lessX l b).length ≤ 1048576 := lessX_len l b
  go_enter Try.func10, Try.ntmps10
  go_wp2_with fail
  have L0 := Le.refl w
  refine (szFrameS_any Al nl cl l _ _ (hl.le L0) (by omega) (by omega)).mono ?_
  rintro e w1 ⟨rl, rfl, hr, hle⟩
  have s1 := hle.size
  replace L0 := L0.trans hle
  clear hle
  rcases hr with rfl | ⟨hl0, hl1, hl2⟩
  · go_wp2
    go_ret
    exact ⟨rfl, L0⟩
  have hnegl : decide (rl < 0) = false := decide_eq_false (by omega)
  go_wp2_with fail
  refine (szFrameS_any Ab nb cb b _ _ (hb.le L0) (by omega) (by omega)).mono ?_
  rintro e w2 ⟨rb, rfl, hr, hle⟩
  have s2 := hle.size
  replace L0 := L0.trans hle
  clear hle
  rcases hr with rfl | ⟨hb0, hb1, hb2⟩
  · go_wp2
    go_ret
    exact ⟨rfl, L0⟩
  have hnegb : decide (rb < 0) = false := decide_eq_false (by omega)
  go_wp2_with fail
  refine (toFrameS_any Al nl cl l _ (hl.le L0) (by omega)).mono ?_
  rintro e w3 ⟨rfl, Oal, hle⟩
  have s3 := hle.size
  replace L0 := L0.trans hle
  clear hle
  have hbal := own_lt Oal
  go_wp2_with fail
  refine (toFrameS_any Ab nb cb b _ (hb.le L0) (by omega)).mono ?_
  rintro e w4 ⟨rfl, Oab, hle⟩
  have s4 := hle.size
  replace L0 := L0.trans hle
  replace Oal := own_le Oal hle
  clear hle
  have hbab := own_lt Oab
  go_wp2_with fail
  refine (sLessHead_any _ _ _ _ _ _ l b _ (Sl.of_own Oal rfl (by decide) hokl) (Sl.of_own Oab rfl (by decide) hokb)).mono ?_
  rintro e w5 ⟨v00, rfl, D00, hle⟩
  have s5 := hle.size
  replace L0 := L0.trans hle
  replace Oal := own_le Oal hle
  replace Oab := own_le Oab hle
  clear hle
  obtain ⟨A00, q00, rfl, S00, hB00⟩ := D00.form (by decide)
  have HB00 := Lib.hid hB00; clear hB00
  have okL00 := D00.ok
  have HU00 := Lib.hid (S00.under)
  clear D00
  clear Oal Oab
  go_wp2_with fail
  refine (toFrameS_any Al nl cl l _ (hl.le L0) (by omega)).mono ?_
  rintro e w6 ⟨rfl, Oxl, hle⟩
  have s6 := hle.size
  replace L0 := L0.trans hle
  replace S00 := S00.le hle
  clear hle
  have hbxl := own_lt Oxl
  go_wp2_with fail
  refine (toFrameS_any Ab nb cb b _ (hb.le L0) (by omega)).mono ?_
  rintro e w7 ⟨rfl, Oxb, hle⟩
  have s7 := hle.size
  replace L0 := L0.trans hle
  replace S00 := S00.le hle
  replace Oxl := own_le Oxl hle
  clear hle
  have hbxb := own_lt Oxb
  go_wp2_with fail
  refine (iLessHead_any _ _ _ _ _ _ l b _ (Sl.of_own Oxl rfl (by decide) hokl) (Sl.of_own Oxb rfl (by decide) hokb)).mono ?_
  rintro e w8 ⟨v10, rfl, D10, hle⟩
  have s8 := hle.size
  replace L0 := L0.trans hle
  replace S00 := S00.le hle
  replace Oxl := own_le Oxl hle
  replace Oxb := own_le Oxb hle
  clear hle
  obtain ⟨A10, q10, rfl, S10, hB10⟩ := D10.form (by decide)
  have HB10 := Lib.hid hB10; clear hB10
  have okL10 := D10.ok
  have N10 := D10.row; clear S10
  clear D10
  go_wp2_with fail
  refine (eqFrameS_self _ _ _ _ _ (lessX l b) _ (Sl.of_win N10 rfl (by decide) okL10) S00).mono ?_
  rintro e w9 ⟨rfl, hle⟩
  have s9 := hle.size
  replace L0 := L0.trans hle
  replace S00 := S00.le hle
  replace Oxl := own_le Oxl hle
  replace Oxb := own_le Oxb hle
  replace N10 := N10.le hle
  clear hle
  go_wp2_with fail
  refine (toFrameS_any Al nl cl l _ (hl.le L0) (by omega)).mono ?_
  rintro e w10 ⟨rfl, Oy, hle⟩
  have s10 := hle.size
  replace L0 := L0.trans hle
  replace S00 := S00.le hle
  replace Oxl := own_le Oxl hle
  replace Oxb := own_le Oxb hle
  replace N10 := N10.le hle
  clear hle
  have hby := own_lt Oy
  have Sy := Sl.of_own Oy rfl (by decide) hokl; clear Oy hby
  go_wp2_with fail
  refine (eqFrameS_self _ _ _ _ _ l _ (Sl.of_own Oxl rfl (by decide) hokl) Sy).mono ?_
  rintro e w11 ⟨rfl, hle⟩
  have s11 := hle.size
  replace L0 := L0.trans hle
  replace S00 := S00.le hle
  replace Oxl := own_le Oxl hle
  replace Oxb := own_le Oxb hle
  replace N10 := N10.le hle
  clear hle
  clear Sy
  go_wp2_with fail
  refine (toFrameS_any Ab nb cb b _ (hb.le L0) (by omega)).mono ?_
  rintro e w12 ⟨rfl, Oy, hle⟩
  have s12 := hle.size
  replace L0 := L0.trans hle
  replace S00 := S00.le hle
  replace Oxl := own_le Oxl hle
  replace Oxb := own_le Oxb hle
  replace N10 := N10.le hle
  clear hle
  have hby := own_lt Oy
  have Sy := Sl.of_own Oy rfl (by decide) hokb; clear Oy hby
  go_wp2_with fail
  refine (eqFrameS_self _ _ _ _ _ b _ (Sl.of_own Oxb rfl (by decide) hokb) Sy).mono ?_
  rintro e w13 ⟨rfl, hle⟩
  have s13 := hle.size
  replace L0 := L0.trans hle
  replace S00 := S00.le hle
  replace Oxl := own_le Oxl hle
  replace Oxb := own_le Oxb hle
  replace N10 := N10.le hle
  clear hle
  clear Sy
  go_wp2_with fail
  refine (markFrameS_any _ _ _ _ _ _ _ Oxl (by omega) (by omega) (by omega)).mono ?_
  rintro e w14 ⟨rfl, _, hg⟩
  have s14 := hg.size
  replace L0 := L0.grown hg (fun k hk => by have e1 : w5.heap.size = k := (by injection hk); omega)
  replace S00 := S00.grown hg (fun hn a e h => by have h1 := HU00.out hn a e; have h2 : a.block = w5.heap.size := (by injection h); omega)
  replace Oxb := Oxb.kept hg (.inr (fun e => by have e1 : w6.heap.size = w5.heap.size := (by injection e); omega))
  replace N10 := N10.kept hg (.inr (fun e => by have e1 : w7.heap.size ≤ w5.heap.size ∧ w5.heap.size < w8.heap.size := HB10.out _ e; omega))
  clear hg Oxl
  go_wp2_with fail
  refine (markFrameS_any _ _ _ _ _ _ _ Oxb (by omega) (by omega) (by omega)).mono ?_
  rintro e w15 ⟨rfl, _, hg⟩
  have s15 := hg.size
  replace L0 := L0.grown hg (fun k hk => by have e1 : w6.heap.size = k := (by injection hk); omega)
  replace S00 := S00.grown hg (fun hn a e h => by have h1 := HU00.out hn a e; have h2 : a.block = w6.heap.size := (by injection h); omega)
  replace N10 := N10.kept hg (.inr (fun e => by have e1 : w7.heap.size ≤ w6.heap.size ∧ w6.heap.size < w8.heap.size := HB10.out _ e; omega))
  clear hg Oxb
  have hkk : decide (1 + 2 * (nl : Int) + 2 * (nb : Int) < 0) = false := decide_eq_false (by omega)
  go_wp2_with fail
  refine (eqFrameS_self _ _ _ _ _ (lessX l b) _ (Sl.of_win N10 rfl (by decide) okL10) S00).mono ?_
  rintro e w16 ⟨rfl, hle⟩
  have s16 := hle.size
  replace L0 := L0.trans hle
  replace S00 := S00.le hle
  replace N10 := N10.le hle
  clear hle
  go_wp2_with fail
  refine (markFrameS_win _ _ _ _ _ _ _ N10 (by omega) (by omega) HL0).mono ?_
  rintro e w17 ⟨rfl, Om, hg⟩
  have s17 := hg.size
  replace L0 := L0.grown hg (fun k hk => by have e1 : w7.heap.size ≤ k ∧ k < w8.heap.size := HB10.out k hk; omega)
  replace S00 := S00.grown hg (fun hn a e h => by have h1 := HU00.out hn a e; have h2 : w7.heap.size ≤ a.block ∧ a.block < w8.heap.size := HB10.out _ h.symm; omega)
  clear hg N10
  have N10 := Om; clear Om
  go_wp2_with fail
  refine (heldFrameS_any _ _ _ _ _ (Sl.of_win N10 rfl (by decide) (mFrm_ok (by omega) (by omega) HL0)) (by omega) (by omega) HL0).mono ?_
  rintro e w18 ⟨rfl, hle⟩
  have s18 := hle.size
  replace L0 := L0.trans hle
  replace S00 := S00.le hle
  replace N10 := N10.le hle
  clear hle
  have hqq0 : decide ((1 : Int) + 2 * ((lessX l b).length : Int) < 0) = false := decide_eq_false (by omega)
  go_wp2_with fail
  refine (toFrameS_any Al nl cl l _ (hl.le L0) (by omega)).mono ?_
  rintro e w19 ⟨rfl, Ohl, hle⟩
  have s19 := hle.size
  replace L0 := L0.trans hle
  replace S00 := S00.le hle
  replace N10 := N10.le hle
  clear hle
  have hbhl := own_lt Ohl
  go_wp2_with fail
  refine (toFrameS_any Ab nb cb b _ (hb.le L0) (by omega)).mono ?_
  rintro e w20 ⟨rfl, Ohb, hle⟩
  have s20 := hle.size
  replace L0 := L0.trans hle
  replace S00 := S00.le hle
  replace N10 := N10.le hle
  replace Ohl := own_le Ohl hle
  clear hle
  have hbhb := own_lt Ohb
  go_wp2_with fail
  refine (iLessHead_any _ _ _ _ _ _ l b _ (Sl.of_own Ohl rfl (by decide) hokl) (Sl.of_own Ohb rfl (by decide) hokb)).mono ?_
  rintro e w21 ⟨v20, rfl, D20, hle⟩
  have s21 := hle.size
  replace L0 := L0.trans hle
  replace S00 := S00.le hle
  replace N10 := N10.le hle
  replace Ohl := own_le Ohl hle
  replace Ohb := own_le Ohb hle
  clear hle
  obtain ⟨A20, q20, rfl, S20, hB20⟩ := D20.form (by decide)
  have HB20 := Lib.hid hB20; clear hB20
  have okL20 := D20.ok
  have N20 := D20.row; clear S20
  clear D20
  clear Ohl
  clear Ohb
  go_wp2_with fail
  refine (eqFrameS_self _ _ _ _ _ (lessX l b) _ (Sl.of_win N20 rfl (by decide) okL20) S00).mono ?_
  rintro e w22 ⟨rfl, hle⟩
  have s22 := hle.size
  replace L0 := L0.trans hle
  replace S00 := S00.le hle
  replace N10 := N10.le hle
  replace N20 := N20.le hle
  clear hle
  clear N20
  go_wp2_with fail
  refine (heldFrameS_any _ _ _ _ _ (Sl.of_win N10 rfl (by decide) (mFrm_ok (by omega) (by omega) HL0)) (by omega) (by omega) HL0).mono ?_
  rintro e w23 ⟨rfl, hle⟩
  have s23 := hle.size
  replace L0 := L0.trans hle
  replace S00 := S00.le hle
  replace N10 := N10.le hle
  clear hle
  go_wp2
  go_ret
  exact ⟨rfl, L0⟩
end Go.Proofs.Ytblmbkbdfngogaa
