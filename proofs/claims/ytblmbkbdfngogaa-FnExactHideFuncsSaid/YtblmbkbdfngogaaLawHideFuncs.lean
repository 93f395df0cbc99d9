import Derived.Test.YtblmbkbdfngogaaTlFrame
import Derived.Test.YtblmbkbdfngogaaTlString
import Derived.Test.YtblmbkbdfngogaaTrH
namespace Go.Proofs.Ytblmbkbdfngogaa
open Go.RowKit

set_option maxHeartbeats 16000000 in
set_option maxRecDepth 100000 in
theorem exHideFuncs_walk (Al : Option Addr) (nl cl : Nat) (l : List Frm) (Ax : Option Addr) (nx cx : Nat) (x : List ByteArray) (w : World) (hl : Sl w Al nl cl l) (hx : Sl w Ax nx cx x) :
    Calls Try.prog 6 #[.slice Al nl cl, .slice Ax nx cx] w fun e w' => e = .returned (.bool true) ∧ Le w w' := by
  have hokl := hl.ok
  have hmxl := hl.n_le
  have hokx := hx.ok
  have hmxx := hx.n_le
  have HL0 : (hideX l x).length ≤ 1048576 := hideX_len l x
  go_enter Try.func6, Try.ntmps6
  go_wp2_with fail
  have L0 := Le.refl w
  refine (szFrameS_any Al nl cl l _ _ (hl.le L0) (by omega) (by omega)).mono ?_
  rintro e w1 ⟨rl, rfl, hr, hle⟩
  have s1 := hle.size
  replace L0 := L0.trans hle
  clear hle
  rcases hr with rfl | ⟨hl0, hl1, hl2⟩
  · go_wp2
    go_ret
    exact ⟨rfl, L0⟩
  have hnegl : decide (rl < 0) = false := decide_eq_false (by omega)
  go_wp2_with fail
  refine (szStringS_any Ax nx cx x _ _ (hx.le L0) (by omega) (by omega)).mono ?_
  rintro e w2 ⟨rx, rfl, hr, hle⟩
  have s2 := hle.size
  replace L0 := L0.trans hle
  clear hle
  rcases hr with rfl | ⟨hx0, hx1, hx2⟩
  · go_wp2
    go_ret
    exact ⟨rfl, L0⟩
  have hnegx : decide (rx < 0) = false := decide_eq_false (by omega)
  go_wp2_with fail
  refine (toFrameS_any Al nl cl l _ (hl.le L0) (by omega)).mono ?_
  rintro e w3 ⟨rfl, Oal, hle⟩
  have s3 := hle.size
  replace L0 := L0.trans hle
  clear hle
  have hbal := own_lt Oal
  go_wp2_with fail
  refine (toStringS_any Ax nx cx x _ (hx.le L0) (by omega)).mono ?_
  rintro e w4 ⟨rfl, Oax, hle⟩
  have s4 := hle.size
  replace L0 := L0.trans hle
  replace Oal := own_le Oal hle
  clear hle
  have hbax := own_lt Oax
  go_wp2_with fail
  refine (sHideFuncs_any _ _ _ _ _ _ l x _ (Sl.of_own Oal rfl (by decide) hokl) (Sl.of_own Oax rfl (by decide) hokx)).mono ?_
  rintro e w5 ⟨v00, rfl, D00, hle⟩
  have s5 := hle.size
  replace L0 := L0.trans hle
  replace Oal := own_le Oal hle
  replace Oax := own_le Oax hle
  clear hle
  obtain ⟨A00, q00, rfl, S00, hB00⟩ := D00.form (by decide)
  have HB00 := Lib.hid hB00; clear hB00
  have okL00 := D00.ok
  have HU00 := Lib.hid (S00.under)
  clear D00
  clear Oal Oax
  go_wp2_with fail
  refine (toFrameS_any Al nl cl l _ (hl.le L0) (by omega)).mono ?_
  rintro e w6 ⟨rfl, Oxl, hle⟩
  have s6 := hle.size
  replace L0 := L0.trans hle
  replace S00 := S00.le hle
  clear hle
  have hbxl := own_lt Oxl
  go_wp2_with fail
  refine (toStringS_any Ax nx cx x _ (hx.le L0) (by omega)).mono ?_
  rintro e w7 ⟨rfl, Oxx, hle⟩
  have s7 := hle.size
  replace L0 := L0.trans hle
  replace S00 := S00.le hle
  replace Oxl := own_le Oxl hle
  clear hle
  have hbxx := own_lt Oxx
  go_wp2_with fail
  refine (iHideFuncs_any _ _ _ _ _ _ l x _ (Sl.of_own Oxl rfl (by decide) hokl) (Sl.of_own Oxx rfl (by decide) hokx)).mono ?_
  rintro e w8 ⟨v10, rfl, D10, hle⟩
  have s8 := hle.size
  replace L0 := L0.trans hle
  replace S00 := S00.le hle
  replace Oxl := own_le Oxl hle
  replace Oxx := own_le Oxx hle
  clear hle
  obtain ⟨A10, q10, rfl, S10, hB10⟩ := D10.form (by decide)
  have HB10 := Lib.hid hB10; clear hB10
  have okL10 := D10.ok
  have O10 := D10.row; clear S10
  clear D10
  go_wp2_with fail
  refine (eqFrameS_self _ _ _ _ _ (hideX l x) _ (Sl.of_own O10 rfl (by decide) okL10) S00).mono ?_
  rintro e w9 ⟨rfl, hle⟩
  have s9 := hle.size
  replace L0 := L0.trans hle
  replace S00 := S00.le hle
  replace Oxl := own_le Oxl hle
  replace Oxx := own_le Oxx hle
  replace O10 := own_le O10 hle
  clear hle
  go_wp2_with fail
  refine (toFrameS_any Al nl cl l _ (hl.le L0) (by omega)).mono ?_
  rintro e w10 ⟨rfl, Oy, hle⟩
  have s10 := hle.size
  replace L0 := L0.trans hle
  replace S00 := S00.le hle
  replace Oxl := own_le Oxl hle
  replace Oxx := own_le Oxx hle
  replace O10 := own_le O10 hle
  clear hle
  have hby := own_lt Oy
  have Sy := Sl.of_own Oy rfl (by decide) hokl; clear Oy hby
  go_wp2_with fail
  refine (eqFrameS_self _ _ _ _ _ l _ (Sl.of_own Oxl rfl (by decide) hokl) Sy).mono ?_
  rintro e w11 ⟨rfl, hle⟩
  have s11 := hle.size
  replace L0 := L0.trans hle
  replace S00 := S00.le hle
  replace Oxl := own_le Oxl hle
  replace Oxx := own_le Oxx hle
  replace O10 := own_le O10 hle
  clear hle
  clear Sy
  go_wp2_with fail
  refine (toStringS_any Ax nx cx x _ (hx.le L0) (by omega)).mono ?_
  rintro e w12 ⟨rfl, Oy, hle⟩
  have s12 := hle.size
  replace L0 := L0.trans hle
  replace S00 := S00.le hle
  replace Oxl := own_le Oxl hle
  replace Oxx := own_le Oxx hle
  replace O10 := own_le O10 hle
  clear hle
  have hby := own_lt Oy
  have Sy := Sl.of_own Oy rfl (by decide) hokx; clear Oy hby
  go_wp2_with fail
  refine (eqStringS_self _ _ _ _ _ x _ (Sl.of_own Oxx rfl (by decide) hokx) Sy).mono ?_
  rintro e w13 ⟨rfl, hle⟩
  have s13 := hle.size
  replace L0 := L0.trans hle
  replace S00 := S00.le hle
  replace Oxl := own_le Oxl hle
  replace Oxx := own_le Oxx hle
  replace O10 := own_le O10 hle
  clear hle
  clear Sy
  go_wp2_with fail
  refine (markFrameS_any _ _ _ _ _ _ _ Oxl (by omega) (by omega) (by omega)).mono ?_
  rintro e w14 ⟨rfl, _, hg⟩
  have s14 := hg.size
  replace L0 := L0.grown hg (fun k hk => by have e1 : w5.heap.size = k := (by injection hk); omega)
  replace S00 := S00.grown hg (fun hn a e h => by have h1 := HU00.out hn a e; have h2 : a.block = w5.heap.size := (by injection h); omega)
  replace Oxx := Oxx.kept hg (.inr (fun e => by have e1 : w6.heap.size = w5.heap.size := (by injection e); omega))
  replace O10 := O10.kept hg (.inr (fun e => by have e1 : w7.heap.size ≤ w5.heap.size ∧ w5.heap.size < w8.heap.size := HB10.out _ e; omega))
  clear hg Oxl
  go_wp2_with fail
  refine (markStringS_any _ _ _ _ _ _ _ Oxx (by omega) (by omega) (by omega)).mono ?_
  rintro e w15 ⟨rfl, _, hg⟩
  have s15 := hg.size
  replace L0 := L0.grown hg (fun k hk => by have e1 : w6.heap.size = k := (by injection hk); omega)
  replace S00 := S00.grown hg (fun hn a e h => by have h1 := HU00.out hn a e; have h2 : a.block = w6.heap.size := (by injection h); omega)
  replace O10 := O10.kept hg (.inr (fun e => by have e1 : w7.heap.size ≤ w6.heap.size ∧ w6.heap.size < w8.heap.size := HB10.out _ e; omega))
  clear hg Oxx
  have hkk : decide (1 + 2 * (nl : Int) + (nx : Int) < 0) = false := decide_eq_false (by omega)
  go_wp2_with fail
  refine (eqFrameS_self _ _ _ _ _ (hideX l x) _ (Sl.of_own O10 rfl (by decide) okL10) S00).mono ?_
  rintro e w16 ⟨rfl, hle⟩
  have s16 := hle.size
  replace L0 := L0.trans hle
  replace S00 := S00.le hle
  replace O10 := own_le O10 hle
  clear hle
  go_wp2_with fail
  refine (markFrameS_any _ _ _ _ _ _ _ O10 (by omega) (by omega) HL0).mono ?_
  rintro e w17 ⟨rfl, Om, hg⟩
  have s17 := hg.size
  replace L0 := L0.grown hg (fun k hk => by have e1 : w7.heap.size ≤ k ∧ k < w8.heap.size := HB10.out k hk; omega)
  replace S00 := S00.grown hg (fun hn a e h => by have h1 := HU00.out hn a e; have h2 : w7.heap.size ≤ a.block ∧ a.block < w8.heap.size := HB10.out _ h.symm; omega)
  clear hg O10
  have O10 := Om; clear Om
  go_wp2_with fail
  refine (heldFrameS_any _ _ _ _ _ (Sl.of_own O10 rfl (by decide) (mFrm_ok (by omega) (by omega) HL0)) (by omega) (by omega) HL0).mono ?_
  rintro e w18 ⟨rfl, hle⟩
  have s18 := hle.size
  replace L0 := L0.trans hle
  replace S00 := S00.le hle
  replace O10 := own_le O10 hle
  clear hle
  have hqq0 : decide ((1 : Int) + 2 * ((hideX l x).length : Int) < 0) = false := decide_eq_false (by omega)
  go_wp2_with fail
  refine (toFrameS_any Al nl cl l _ (hl.le L0) (by omega)).mono ?_
  rintro e w19 ⟨rfl, Ohl, hle⟩
  have s19 := hle.size
  replace L0 := L0.trans hle
  replace S00 := S00.le hle
  replace O10 := own_le O10 hle
  clear hle
  have hbhl := own_lt Ohl
  go_wp2_with fail
  refine (toStringS_any Ax nx cx x _ (hx.le L0) (by omega)).mono ?_
  rintro e w20 ⟨rfl, Ohx, hle⟩
  have s20 := hle.size
  replace L0 := L0.trans hle
  replace S00 := S00.le hle
  replace O10 := own_le O10 hle
  replace Ohl := own_le Ohl hle
  clear hle
  have hbhx := own_lt Ohx
  go_wp2_with fail
  refine (iHideFuncs_any _ _ _ _ _ _ l x _ (Sl.of_own Ohl rfl (by decide) hokl) (Sl.of_own Ohx rfl (by decide) hokx)).mono ?_
  rintro e w21 ⟨v20, rfl, D20, hle⟩
  have s21 := hle.size
  replace L0 := L0.trans hle
  replace S00 := S00.le hle
  replace O10 := own_le O10 hle
  replace Ohl := own_le Ohl hle
  replace Ohx := own_le Ohx hle
  clear hle
  obtain ⟨A20, q20, rfl, S20, hB20⟩ := D20.form (by decide)
  have HB20 := Lib.hid hB20; clear hB20
  have okL20 := D20.ok
  have O20 := D20.row; clear S20
  clear D20
  clear Ohl
  clear Ohx
  go_wp2_with fail
  refine (eqFrameS_self _ _ _ _ _ (hideX l x) _ (Sl.of_own O20 rfl (by decide) okL20) S00).mono ?_
  rintro e w22 ⟨rfl, hle⟩
  have s22 := hle.size
  replace L0 := L0.trans hle
  replace S00 := S00.le hle
  replace O10 := own_le O10 hle
  replace O20 := own_le O20 hle
  clear hle
  clear O20
  go_wp2_with fail
  refine (heldFrameS_any _ _ _ _ _ (Sl.of_own O10 rfl (by decide) (mFrm_ok (by omega) (by omega) HL0)) (by omega) (by omega) HL0).mono ?_
  rintro e w23 ⟨rfl, hle⟩
  have s23 := hle.size
  replace L0 := L0.trans hle
  replace S00 := S00.le hle
  replace O10 := own_le O10 hle
  clear hle
  go_wp2
  go_ret
  exact ⟨rfl, L0⟩
end Go.Proofs.Ytblmbkbdfngogaa
