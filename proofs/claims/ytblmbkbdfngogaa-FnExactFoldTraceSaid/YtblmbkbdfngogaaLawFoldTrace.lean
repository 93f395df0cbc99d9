import Derived.Test.YtblmbkbdfngogaaTlFrame
import Derived.Test.YtblmbkbdfngogaaTlRow
import Derived.Test.YtblmbkbdfngogaaTrL
namespace Go.Proofs.Ytblmbkbdfngogaa
open Go.RowKit

set_option maxHeartbeats 16000000 in
set_option maxRecDepth 100000 in
theorem exFoldTrace_walk (Al : Option Addr) (nl cl : Nat) (l : List Frm) (w : World) (hl : Sl w Al nl cl l) :
    Calls Try.prog 7 #[.slice Al nl cl] w fun e w' => e = .returned (.bool true) ∧ Le w w' := by
  have hokl := hl.ok
  have hmxl := hl.n_le
  have HL0 : (foldX l).length ≤ 1048576 := foldX_len l
  go_enter Try.func7, Try.ntmps7
  go_wp2_with fail
  have L0 := Le.refl w
  refine (szFrameS_any Al nl cl l _ _ (hl.le L0) (by omega) (by omega)).mono ?_
  rintro e w1 ⟨rl, rfl, hr, hle⟩
  have s1 := hle.size
  replace L0 := L0.trans hle
  clear hle
  rcases hr with rfl | ⟨hl0, hl1, hl2⟩
  · go_wp2
    go_ret
    exact ⟨rfl, L0⟩
  have hnegl : decide (rl < 0) = false := decide_eq_false (by omega)
  go_wp2_with fail
  refine (toFrameS_any Al nl cl l _ (hl.le L0) (by omega)).mono ?_
  rintro e w2 ⟨rfl, Oal, hle⟩
  have s2 := hle.size
  replace L0 := L0.trans hle
  clear hle
  have hbal := own_lt Oal
  go_wp2_with fail
  refine (sFoldTrace_any _ _ _ l _ (Sl.of_own Oal rfl (by decide) hokl)).mono ?_
  rintro e w3 ⟨v00, rfl, D00, hle⟩
  have s3 := hle.size
  replace L0 := L0.trans hle
  replace Oal := own_le Oal hle
  clear hle
  obtain ⟨A00, q00, rfl, S00, hB00⟩ := D00.form (by decide)
  have HB00 := Lib.hid hB00; clear hB00
  have okL00 := D00.ok
  have HU00 := Lib.hid (S00.under)
  clear D00
  clear Oal
  go_wp2_with fail
  refine (toFrameS_any Al nl cl l _ (hl.le L0) (by omega)).mono ?_
  rintro e w4 ⟨rfl, Oxl, hle⟩
  have s4 := hle.size
  replace L0 := L0.trans hle
  replace S00 := S00.le hle
  clear hle
  have hbxl := own_lt Oxl
  go_wp2_with fail
  refine (iFoldTrace_any _ _ _ l _ (Sl.of_own Oxl rfl (by decide) hokl)).mono ?_
  rintro e w5 ⟨v10, rfl, D10, hle⟩
  have s5 := hle.size
  replace L0 := L0.trans hle
  replace S00 := S00.le hle
  replace Oxl := own_le Oxl hle
  clear hle
  obtain ⟨A10, q10, rfl, S10, hB10⟩ := D10.form (by decide)
  have HB10 := Lib.hid hB10; clear hB10
  have okL10 := D10.ok
  have O10 := D10.row; clear S10
  clear D10
  go_wp2_with fail
  refine (eqRowS_self _ _ _ _ _ (foldX l) _ (Sl.of_own O10 rfl (by decide) okL10) S00).mono ?_
  rintro e w6 ⟨rfl, hle⟩
  have s6 := hle.size
  replace L0 := L0.trans hle
  replace S00 := S00.le hle
  replace Oxl := own_le Oxl hle
  replace O10 := own_le O10 hle
  clear hle
  go_wp2_with fail
  refine (toFrameS_any Al nl cl l _ (hl.le L0) (by omega)).mono ?_
  rintro e w7 ⟨rfl, Oy, hle⟩
  have s7 := hle.size
  replace L0 := L0.trans hle
  replace S00 := S00.le hle
  replace Oxl := own_le Oxl hle
  replace O10 := own_le O10 hle
  clear hle
  have hby := own_lt Oy
  have Sy := Sl.of_own Oy rfl (by decide) hokl; clear Oy hby
  go_wp2_with fail
  refine (eqFrameS_self _ _ _ _ _ l _ (Sl.of_own Oxl rfl (by decide) hokl) Sy).mono ?_
  rintro e w8 ⟨rfl, hle⟩
  have s8 := hle.size
  replace L0 := L0.trans hle
  replace S00 := S00.le hle
  replace Oxl := own_le Oxl hle
  replace O10 := own_le O10 hle
  clear hle
  clear Sy
  go_wp2_with fail
  refine (markFrameS_any _ _ _ _ _ _ _ Oxl (by omega) (by omega) (by omega)).mono ?_
  rintro e w9 ⟨rfl, _, hg⟩
  have s9 := hg.size
  replace L0 := L0.grown hg (fun k hk => by have e1 : w3.heap.size = k := (by injection hk); omega)
  replace S00 := S00.grown hg (fun hn a e h => by have h1 := HU00.out hn a e; have h2 : a.block = w3.heap.size := (by injection h); omega)
  replace O10 := O10.kept hg (.inr (fun e => by have e1 : w4.heap.size ≤ w3.heap.size ∧ w3.heap.size < w5.heap.size := HB10.out _ e; omega))
  clear hg Oxl
  have hkk : decide (1 + 2 * (nl : Int) < 0) = false := decide_eq_false (by omega)
  go_wp2_with fail
  refine (eqRowS_self _ _ _ _ _ (foldX l) _ (Sl.of_own O10 rfl (by decide) okL10) S00).mono ?_
  rintro e w10 ⟨rfl, hle⟩
  have s10 := hle.size
  replace L0 := L0.trans hle
  replace S00 := S00.le hle
  replace O10 := own_le O10 hle
  clear hle
  go_wp2_with fail
  refine (markRowS_any _ _ _ _ _ _ _ O10 (by omega) (by omega) HL0).mono ?_
  rintro e w11 ⟨rfl, Om, hg⟩
  have s11 := hg.size
  replace L0 := L0.grown hg (fun k hk => by have e1 : w4.heap.size ≤ k ∧ k < w5.heap.size := HB10.out k hk; omega)
  replace S00 := S00.grown hg (fun hn a e h => by have h1 := HU00.out hn a e; have h2 : w4.heap.size ≤ a.block ∧ a.block < w5.heap.size := HB10.out _ h.symm; omega)
  clear hg O10
  have O10 := Om; clear Om
  go_wp2_with fail
  refine (heldRowS_any _ _ _ _ _ (Sl.of_own O10 rfl (by decide) (mRwf_ok (by omega) (by omega) HL0)) (by omega) (by omega) HL0).mono ?_
  rintro e w12 ⟨rfl, hle⟩
  have s12 := hle.size
  replace L0 := L0.trans hle
  replace S00 := S00.le hle
  replace O10 := own_le O10 hle
  clear hle
  have hqq0 : decide ((1 : Int) + 3 * ((foldX l).length : Int) < 0) = false := decide_eq_false (by omega)
  go_wp2_with fail
  refine (toFrameS_any Al nl cl l _ (hl.le L0) (by omega)).mono ?_
  rintro e w13 ⟨rfl, Ohl, hle⟩
  have s13 := hle.size
  replace L0 := L0.trans hle
  replace S00 := S00.le hle
  replace O10 := own_le O10 hle
  clear hle
  have hbhl := own_lt Ohl
  go_wp2_with fail
  refine (iFoldTrace_any _ _ _ l _ (Sl.of_own Ohl rfl (by decide) hokl)).mono ?_
  rintro e w14 ⟨v20, rfl, D20, hle⟩
  have s14 := hle.size
  replace L0 := L0.trans hle
  replace S00 := S00.le hle
  replace O10 := own_le O10 hle
  replace Ohl := own_le Ohl hle
  clear hle
  obtain ⟨A20, q20, rfl, S20, hB20⟩ := D20.form (by decide)
  have HB20 := Lib.hid hB20; clear hB20
  have okL20 := D20.ok
  have O20 := D20.row; clear S20
  clear D20
  clear Ohl
  go_wp2_with fail
  refine (eqRowS_self _ _ _ _ _ (foldX l) _ (Sl.of_own O20 rfl (by decide) okL20) S00).mono ?_
  rintro e w15 ⟨rfl, hle⟩
  have s15 := hle.size
  replace L0 := L0.trans hle
  replace S00 := S00.le hle
  replace O10 := own_le O10 hle
  replace O20 := own_le O20 hle
  clear hle
  clear O20
  go_wp2_with fail
  refine (heldRowS_any _ _ _ _ _ (Sl.of_own O10 rfl (by decide) (mRwf_ok (by omega) (by omega) HL0)) (by omega) (by omega) HL0).mono ?_
  rintro e w16 ⟨rfl, hle⟩
  have s16 := hle.size
  replace L0 := L0.trans hle
  replace S00 := S00.le hle
  replace O10 := own_le O10 hle
  clear hle
  go_wp2
  go_ret
  exact ⟨rfl, L0⟩
end Go.Proofs.Ytblmbkbdfngogaa
