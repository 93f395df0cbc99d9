/- For all arguments the exact law of RunProgram: the walk. -/
import Derived.Test.YtdbmolhdgmopoaaGreatRb1
import Derived.Test.YtdbmolhdgmopoaaGreatRb10
namespace Go.Proofs.YtdbmolhdgmopoaaGreat
open Go.RowKit

set_option maxHeartbeats 16000000 in
set_option maxRecDepth 100000 in
theorem exRunProgram_walk (At : Option Addr) (nt ct : Nat) (t : List Cls) (Ap : Option Addr) (np cp : Nat) (p : List Lin) (w : World) (ht : Sl w At nt ct t) (hp : Sl w Ap np cp p) :
    Calls Tryz.prog 3 #[.agg #[.slice At nt ct], .slice Ap np cp] w fun e w' => e = .returned (.bool true) ∧ Le w w' := by
  have hokt := ht.ok
  have hmxt := ht.n_le
  have hokp := hp.ok
  have hmxp := hp.n_le
  have HLL := rpL_len t p
  have HLH := rpH_len t p
  go_enter Tryz.func3, Tryz.ntmps3
  go_wp2_with fail
  obtain ⟨cat, zat, L0⟩ := box1 w (.slice At nt ct) 24
  have s0 : w.heap.size ≤ (w.alloc (.cells #[.slice At nt ct] 24)).heap.size := L0.size
  have sz0 := zat
  generalize w.alloc (.cells #[.slice At nt ct] 24) = W at *
  refine (szTree_any At nt ct t _ _ (ht.le L0) (by omega) (by omega)).mono ?_
  rintro e w1 ⟨rt, rfl, hr, hle⟩
  have s1 := hle.size
  replace cat := (hle.cell zat).trans cat
  replace zat := Nat.lt_of_lt_of_le zat hle.size
  replace L0 := L0.trans hle
  clear hle
  rcases hr with rfl | ⟨ht0, ht1, ht2⟩
  · go_wp2
    go_ret
    exact ⟨rfl, L0⟩
  have hnegt : decide (rt < 0) = false := decide_eq_false (by omega)
  go_wp2_with fail
  refine (szLineS_any Ap np cp p _ _ (hp.le L0) (by omega) (by omega)).mono ?_
  rintro e w2 ⟨rp, rfl, hr, hle⟩
  have s2 := hle.size
  replace cat := (hle.cell zat).trans cat
  replace zat := Nat.lt_of_lt_of_le zat hle.size
  replace L0 := L0.trans hle
  clear hle
  rcases hr with rfl | ⟨hp0, hp1, hp2⟩
  · go_wp2
    go_ret
    exact ⟨rfl, L0⟩
  have hnegp : decide (rp < 0) = false := decide_eq_false (by omega)
  go_wp2_with fail
  refine (toTree_any At nt ct t _ (ht.le L0) (by omega)).mono ?_
  rintro e w3 ⟨gat, rfl, hgat, Oat, hle⟩
  have s3 := hle.size
  replace cat := (hle.cell zat).trans cat
  replace zat := Nat.lt_of_lt_of_le zat hle.size
  replace L0 := L0.trans hle
  clear hle
  have hbat := own_lt Oat
  go_wp2_with fail
  refine (toLineS_any Ap np cp p _ (hp.le L0) (by omega)).mono ?_
  rintro e w4 ⟨rfl, Oap, hle⟩
  have s4 := hle.size
  replace cat := (hle.cell zat).trans cat
  replace zat := Nat.lt_of_lt_of_le zat hle.size
  replace L0 := L0.trans hle
  replace Oat := own_le Oat hle
  clear hle
  have hbap := own_lt Oap
  go_wp2_with fail
  refine (sRp_any _ _ _ _ _ _ t p (by have h1 := hp.len; have h2 := ht.len; omega) _ (Sl.of_own Oat rfl (by decide) hokt) (Sl.of_own Oap rfl (by decide) hokp)).mono ?_
  rintro e w5 ⟨vl0, vh0, rfl, DL0, DH0, -, hle⟩
  have s5 := hle.size
  replace cat := (hle.cell zat).trans cat
  replace zat := Nat.lt_of_lt_of_le zat hle.size
  replace L0 := L0.trans hle
  replace Oat := own_le Oat hle
  replace Oap := own_le Oap hle
  clear hle
  obtain ⟨A00, q00, rfl, S00, hB00⟩ := DL0.form (by decide)
  have HU00 := Lib.hid (S00.under)
  obtain ⟨A01, q01, rfl, S01, hB01⟩ := DH0.form (by decide)
  have HU01 := Lib.hid (S01.under)
  clear DL0 DH0 Oat Oap hB00 hB01
  go_wp2_with fail
  obtain ⟨cw0, cw1, cw2, cw3, zw0, hle⟩ := boxR w5 (.slice A00 (rpL t p).length q00) (.int .i64 (rpE t p)) (.int .i64 (rpV t p)) (.slice A01 (rpH t p).length q01) 33
  have zw1 := zw0
  have zw2 := zw0
  have zw3 := zw0
  have sbw := zw0
  replace cat := (hle.cell zat).trans cat
  replace zat := Nat.lt_of_lt_of_le zat hle.size
  replace L0 := L0.trans hle
  replace S00 := S00.le hle
  replace S01 := S01.le hle
  clear hle
  generalize w5.alloc (.cells #[.slice A00 (rpL t p).length q00, .int .i64 (rpE t p), .int .i64 (rpV t p), .slice A01 (rpH t p).length q01] 33) = w5b at *
  refine (toTree_any At nt ct t _ (ht.le L0) (by omega)).mono ?_
  rintro e w6 ⟨gxt, rfl, hgxt, Oxt, hle⟩
  have s6 := hle.size
  replace cat := (hle.cell zat).trans cat
  replace cw0 := (hle.cell zw0).trans cw0
  replace cw1 := (hle.cell zw1).trans cw1
  replace cw2 := (hle.cell zw2).trans cw2
  replace cw3 := (hle.cell zw3).trans cw3
  replace zat := Nat.lt_of_lt_of_le zat hle.size
  replace L0 := L0.trans hle
  replace S00 := S00.le hle
  replace S01 := S01.le hle
  replace zw0 := Nat.lt_of_lt_of_le zw0 hle.size
  replace zw1 := Nat.lt_of_lt_of_le zw1 hle.size
  replace zw2 := Nat.lt_of_lt_of_le zw2 hle.size
  replace zw3 := Nat.lt_of_lt_of_le zw3 hle.size
  clear hle
  have hbxt := own_lt Oxt
  go_wp2_with fail
  obtain ⟨cxt, zxt, hleB⟩ := box1 w6 (.slice (some ⟨gxt, 0, none⟩) nt nt) 37
  replace cat := (hleB.cell zat).trans cat
  replace cw0 := (hleB.cell zw0).trans cw0
  replace cw1 := (hleB.cell zw1).trans cw1
  replace cw2 := (hleB.cell zw2).trans cw2
  replace cw3 := (hleB.cell zw3).trans cw3
  replace zat := Nat.lt_of_lt_of_le zat hleB.size
  replace L0 := L0.trans hleB
  replace S00 := S00.le hleB
  replace S01 := S01.le hleB
  replace zw0 := Nat.lt_of_lt_of_le zw0 hleB.size
  replace zw1 := Nat.lt_of_lt_of_le zw1 hleB.size
  replace zw2 := Nat.lt_of_lt_of_le zw2 hleB.size
  replace zw3 := Nat.lt_of_lt_of_le zw3 hleB.size
  replace Oxt := own_le Oxt hleB
  clear hleB
  generalize w6.alloc (.cells #[.slice (some ⟨gxt, 0, none⟩) nt nt] 37) = w7 at *
  have s7 := zxt
  refine (toLineS_any Ap np cp p _ (hp.le L0) (by omega)).mono ?_
  rintro e w8 ⟨rfl, Oxp, hle⟩
  have s8 := hle.size
  replace cat := (hle.cell zat).trans cat
  replace cw0 := (hle.cell zw0).trans cw0
  replace cw1 := (hle.cell zw1).trans cw1
  replace cw2 := (hle.cell zw2).trans cw2
  replace cw3 := (hle.cell zw3).trans cw3
  replace cxt := (hle.cell zxt).trans cxt
  replace zat := Nat.lt_of_lt_of_le zat hle.size
  replace L0 := L0.trans hle
  replace S00 := S00.le hle
  replace S01 := S01.le hle
  replace zw0 := Nat.lt_of_lt_of_le zw0 hle.size
  replace zw1 := Nat.lt_of_lt_of_le zw1 hle.size
  replace zw2 := Nat.lt_of_lt_of_le zw2 hle.size
  replace zw3 := Nat.lt_of_lt_of_le zw3 hle.size
  replace Oxt := own_le Oxt hle
  replace zxt := Nat.lt_of_lt_of_le zxt hle.size
  clear hle
  have hbxp := own_lt Oxp
  go_wp2_with fail
  refine (iRp_any _ _ _ _ _ _ t p (by have h1 := hp.len; have h2 := ht.len; omega) _ (Sl.of_own Oxt rfl (by decide) hokt) (Sl.of_own Oxp rfl (by decide) hokp)).mono ?_
  rintro e w9 ⟨vl1, vh1, rfl, DL1, DH1, P1, hle⟩
  have s9 := hle.size
  replace cat := (hle.cell zat).trans cat
  replace cw0 := (hle.cell zw0).trans cw0
  replace cw1 := (hle.cell zw1).trans cw1
  replace cw2 := (hle.cell zw2).trans cw2
  replace cw3 := (hle.cell zw3).trans cw3
  replace cxt := (hle.cell zxt).trans cxt
  replace zat := Nat.lt_of_lt_of_le zat hle.size
  replace L0 := L0.trans hle
  replace S00 := S00.le hle
  replace S01 := S01.le hle
  replace zw0 := Nat.lt_of_lt_of_le zw0 hle.size
  replace zw1 := Nat.lt_of_lt_of_le zw1 hle.size
  replace zw2 := Nat.lt_of_lt_of_le zw2 hle.size
  replace zw3 := Nat.lt_of_lt_of_le zw3 hle.size
  replace Oxt := own_le Oxt hle
  replace zxt := Nat.lt_of_lt_of_le zxt hle.size
  replace Oxp := own_le Oxp hle
  clear hle
  obtain ⟨A10, q10, rfl, S10, hB10⟩ := DL1.form (by decide)
  have HB10 := Lib.hid hB10; clear hB10
  have okL10 := DL1.ok
  have O10 := DL1.row; clear S10
  clear DL1
  obtain ⟨A11, q11, rfl, S11, hB11⟩ := DH1.form (by decide)
  have HB11 := Lib.hid hB11; clear hB11
  have okL11 := DH1.ok
  have O11 := DH1.row; clear S11
  clear DH1
  go_wp2_with fail
  obtain ⟨cg0, cg1, cg2, cg3, zg0, hle⟩ := boxR w9 (.slice A10 (rpL t p).length q10) (.int .i64 (rpE t p)) (.int .i64 (rpV t p)) (.slice A11 (rpH t p).length q11) 33
  have zg1 := zg0
  have zg2 := zg0
  have zg3 := zg0
  have sbg := zg0
  replace cat := (hle.cell zat).trans cat
  replace cw0 := (hle.cell zw0).trans cw0
  replace cw1 := (hle.cell zw1).trans cw1
  replace cw2 := (hle.cell zw2).trans cw2
  replace cw3 := (hle.cell zw3).trans cw3
  replace cxt := (hle.cell zxt).trans cxt
  replace zat := Nat.lt_of_lt_of_le zat hle.size
  replace L0 := L0.trans hle
  replace S00 := S00.le hle
  replace S01 := S01.le hle
  replace zw0 := Nat.lt_of_lt_of_le zw0 hle.size
  replace zw1 := Nat.lt_of_lt_of_le zw1 hle.size
  replace zw2 := Nat.lt_of_lt_of_le zw2 hle.size
  replace zw3 := Nat.lt_of_lt_of_le zw3 hle.size
  replace Oxt := own_le Oxt hle
  replace zxt := Nat.lt_of_lt_of_le zxt hle.size
  replace Oxp := own_le Oxp hle
  replace O10 := own_le O10 hle
  replace O11 := own_le O11 hle
  clear hle
  generalize w9.alloc (.cells #[.slice A10 (rpL t p).length q10, .int .i64 (rpE t p), .int .i64 (rpV t p), .slice A11 (rpH t p).length q11] 33) = w9b at *
  refine (eqResult_self _ _ _ _ _ _ _ _ _ _ (rpL t p) (rpH t p) _ _ _ (Sl.of_own O10 rfl (by decide) okL10) S00 (Sl.of_own O11 rfl (by decide) okL11) S01).mono ?_
  rintro e w10 ⟨rfl, hle⟩
  have s10 := hle.size
  replace cat := (hle.cell zat).trans cat
  replace cw0 := (hle.cell zw0).trans cw0
  replace cw1 := (hle.cell zw1).trans cw1
  replace cw2 := (hle.cell zw2).trans cw2
  replace cw3 := (hle.cell zw3).trans cw3
  replace cxt := (hle.cell zxt).trans cxt
  replace cg0 := (hle.cell zg0).trans cg0
  replace cg1 := (hle.cell zg1).trans cg1
  replace cg2 := (hle.cell zg2).trans cg2
  replace cg3 := (hle.cell zg3).trans cg3
  replace zat := Nat.lt_of_lt_of_le zat hle.size
  replace L0 := L0.trans hle
  replace S00 := S00.le hle
  replace S01 := S01.le hle
  replace zw0 := Nat.lt_of_lt_of_le zw0 hle.size
  replace zw1 := Nat.lt_of_lt_of_le zw1 hle.size
  replace zw2 := Nat.lt_of_lt_of_le zw2 hle.size
  replace zw3 := Nat.lt_of_lt_of_le zw3 hle.size
  replace Oxt := own_le Oxt hle
  replace zxt := Nat.lt_of_lt_of_le zxt hle.size
  replace Oxp := own_le Oxp hle
  replace O10 := own_le O10 hle
  replace O11 := own_le O11 hle
  replace zg0 := Nat.lt_of_lt_of_le zg0 hle.size
  replace zg1 := Nat.lt_of_lt_of_le zg1 hle.size
  replace zg2 := Nat.lt_of_lt_of_le zg2 hle.size
  replace zg3 := Nat.lt_of_lt_of_le zg3 hle.size
  clear hle
  go_wp2_with fail
  replace L0 := L0.drew
  replace S00 := S00.le (Le.refl _).drew
  replace S01 := S01.le (Le.refl _).drew
  replace Oxt := Oxt.drew
  replace Oxp := Oxp.drew
  replace O10 := O10.drew
  replace O11 := O11.drew
  replace cw0 := (show w10.drew.cell? _ = _ from cw0)
  replace zw0 := (show _ < w10.drew.heap.size from zw0)
  replace cw1 := (show w10.drew.cell? _ = _ from cw1)
  replace zw1 := (show _ < w10.drew.heap.size from zw1)
  replace cw2 := (show w10.drew.cell? _ = _ from cw2)
  replace zw2 := (show _ < w10.drew.heap.size from zw2)
  replace cw3 := (show w10.drew.cell? _ = _ from cw3)
  replace zw3 := (show _ < w10.drew.heap.size from zw3)
  replace cg0 := (show w10.drew.cell? _ = _ from cg0)
  replace zg0 := (show _ < w10.drew.heap.size from zg0)
  replace cg1 := (show w10.drew.cell? _ = _ from cg1)
  replace zg1 := (show _ < w10.drew.heap.size from zg1)
  replace cg2 := (show w10.drew.cell? _ = _ from cg2)
  replace zg2 := (show _ < w10.drew.heap.size from zg2)
  replace cg3 := (show w10.drew.cell? _ = _ from cg3)
  replace zg3 := (show _ < w10.drew.heap.size from zg3)
  go_region_held3 (fun w' => w'.cell? ⟨w.heap.size, 0, none⟩ = some (.slice At nt ct) ∧ w'.cell? ⟨w6.heap.size, 0, none⟩ = some (.slice (some ⟨gxt, 0, none⟩) nt nt))
    (first | exact ⟨cat, cxt⟩)
    (first
    | (go_at_call 8; refine (toTree_any At nt ct t _ (ht.le L0) (by omega)).mono ?_; rintro e w11 ⟨gy, rfl, hgy, Oy, hle⟩; have s11 : w10.heap.size ≤ w11.heap.size := hle.size; replace cat := (hle.cell zat).trans cat; replace zat := Nat.lt_of_lt_of_le zat hle.size; replace L0 := L0.trans hle; replace S00 := S00.le hle; replace S01 := S01.le hle; replace cw0 := (hle.cell zw0).trans cw0; replace zw0 := Nat.lt_of_lt_of_le zw0 hle.size; replace cw1 := (hle.cell zw1).trans cw1; replace zw1 := Nat.lt_of_lt_of_le zw1 hle.size; replace cw2 := (hle.cell zw2).trans cw2; replace zw2 := Nat.lt_of_lt_of_le zw2 hle.size; replace cw3 := (hle.cell zw3).trans cw3; replace zw3 := Nat.lt_of_lt_of_le zw3 hle.size; replace Oxt := own_le Oxt hle; replace cxt := (hle.cell zxt).trans cxt; replace zxt := Nat.lt_of_lt_of_le zxt hle.size; replace Oxp := own_le Oxp hle; replace O10 := own_le O10 hle; replace O11 := own_le O11 hle; replace cg0 := (hle.cell zg0).trans cg0; replace zg0 := Nat.lt_of_lt_of_le zg0 hle.size; replace cg1 := (hle.cell zg1).trans cg1; replace zg1 := Nat.lt_of_lt_of_le zg1 hle.size; replace cg2 := (hle.cell zg2).trans cg2; replace zg2 := Nat.lt_of_lt_of_le zg2 hle.size; replace cg3 := (hle.cell zg3).trans cg3; replace zg3 := Nat.lt_of_lt_of_le zg3 hle.size; clear hle; have hby := own_lt Oy; have Sy := Sl.of_own Oy rfl (by decide) hokt; clear Oy hby)
    | (go_at_call 12; refine (eqTree_self _ _ _ _ _ t _ (Sl.of_own Oxt rfl (by decide) hokt) Sy).mono ?_; rintro e w12 ⟨rfl, hle⟩; have s12 := hle.size; replace cat := (hle.cell zat).trans cat; replace zat := Nat.lt_of_lt_of_le zat hle.size; replace L0 := L0.trans hle; replace S00 := S00.le hle; replace S01 := S01.le hle; replace cw0 := (hle.cell zw0).trans cw0; replace zw0 := Nat.lt_of_lt_of_le zw0 hle.size; replace cw1 := (hle.cell zw1).trans cw1; replace zw1 := Nat.lt_of_lt_of_le zw1 hle.size; replace cw2 := (hle.cell zw2).trans cw2; replace zw2 := Nat.lt_of_lt_of_le zw2 hle.size; replace cw3 := (hle.cell zw3).trans cw3; replace zw3 := Nat.lt_of_lt_of_le zw3 hle.size; replace Oxt := own_le Oxt hle; replace cxt := (hle.cell zxt).trans cxt; replace zxt := Nat.lt_of_lt_of_le zxt hle.size; replace Oxp := own_le Oxp hle; replace O10 := own_le O10 hle; replace O11 := own_le O11 hle; replace cg0 := (hle.cell zg0).trans cg0; replace zg0 := Nat.lt_of_lt_of_le zg0 hle.size; replace cg1 := (hle.cell zg1).trans cg1; replace zg1 := Nat.lt_of_lt_of_le zg1 hle.size; replace cg2 := (hle.cell zg2).trans cg2; replace zg2 := Nat.lt_of_lt_of_le zg2 hle.size; replace cg3 := (hle.cell zg3).trans cg3; replace zg3 := Nat.lt_of_lt_of_le zg3 hle.size; clear hle; clear Sy))
  go_wp2_with fail
  refine (toLineS_any Ap np cp p _ (hp.le L0) (by omega)).mono ?_
  rintro e w13 ⟨rfl, Oy, hle⟩
  have s13 := hle.size
  replace cat := (hle.cell zat).trans cat
  replace cw0 := (hle.cell zw0).trans cw0
  replace cw1 := (hle.cell zw1).trans cw1
  replace cw2 := (hle.cell zw2).trans cw2
  replace cw3 := (hle.cell zw3).trans cw3
  replace cxt := (hle.cell zxt).trans cxt
  replace cg0 := (hle.cell zg0).trans cg0
  replace cg1 := (hle.cell zg1).trans cg1
  replace cg2 := (hle.cell zg2).trans cg2
  replace cg3 := (hle.cell zg3).trans cg3
  replace zat := Nat.lt_of_lt_of_le zat hle.size
  replace L0 := L0.trans hle
  replace S00 := S00.le hle
  replace S01 := S01.le hle
  replace zw0 := Nat.lt_of_lt_of_le zw0 hle.size
  replace zw1 := Nat.lt_of_lt_of_le zw1 hle.size
  replace zw2 := Nat.lt_of_lt_of_le zw2 hle.size
  replace zw3 := Nat.lt_of_lt_of_le zw3 hle.size
  replace Oxt := own_le Oxt hle
  replace zxt := Nat.lt_of_lt_of_le zxt hle.size
  replace Oxp := own_le Oxp hle
  replace O10 := own_le O10 hle
  replace O11 := own_le O11 hle
  replace zg0 := Nat.lt_of_lt_of_le zg0 hle.size
  replace zg1 := Nat.lt_of_lt_of_le zg1 hle.size
  replace zg2 := Nat.lt_of_lt_of_le zg2 hle.size
  replace zg3 := Nat.lt_of_lt_of_le zg3 hle.size
  clear hle
  have hby := own_lt Oy
  have Sy := Sl.of_own Oy rfl (by decide) hokp; clear Oy hby
  go_wp2_with fail
  refine (eqLineS_self _ _ _ _ _ p _ (Sl.of_own Oxp rfl (by decide) hokp) Sy).mono ?_
  rintro e w14 ⟨rfl, hle⟩
  have s14 := hle.size
  replace cat := (hle.cell zat).trans cat
  replace cw0 := (hle.cell zw0).trans cw0
  replace cw1 := (hle.cell zw1).trans cw1
  replace cw2 := (hle.cell zw2).trans cw2
  replace cw3 := (hle.cell zw3).trans cw3
  replace cxt := (hle.cell zxt).trans cxt
  replace cg0 := (hle.cell zg0).trans cg0
  replace cg1 := (hle.cell zg1).trans cg1
  replace cg2 := (hle.cell zg2).trans cg2
  replace cg3 := (hle.cell zg3).trans cg3
  replace zat := Nat.lt_of_lt_of_le zat hle.size
  replace L0 := L0.trans hle
  replace S00 := S00.le hle
  replace S01 := S01.le hle
  replace zw0 := Nat.lt_of_lt_of_le zw0 hle.size
  replace zw1 := Nat.lt_of_lt_of_le zw1 hle.size
  replace zw2 := Nat.lt_of_lt_of_le zw2 hle.size
  replace zw3 := Nat.lt_of_lt_of_le zw3 hle.size
  replace Oxt := own_le Oxt hle
  replace zxt := Nat.lt_of_lt_of_le zxt hle.size
  replace Oxp := own_le Oxp hle
  replace O10 := own_le O10 hle
  replace O11 := own_le O11 hle
  replace zg0 := Nat.lt_of_lt_of_le zg0 hle.size
  replace zg1 := Nat.lt_of_lt_of_le zg1 hle.size
  replace zg2 := Nat.lt_of_lt_of_le zg2 hle.size
  replace zg3 := Nat.lt_of_lt_of_le zg3 hle.size
  clear hle
  clear Sy
  go_wp2_with fail
  refine (markTree_any _ _ _ _ _ _ _ Oxt (by omega) (by omega) (by omega)).mono ?_
  rintro e w15 ⟨rfl, _, hg⟩
  have s15 := hg.size
  replace cat := hg.cell (a := ⟨w.heap.size, 0, none⟩) cat (fun e => by have e1 : w.heap.size = gxt := (by injection e); omega)
  replace zat := Nat.lt_of_lt_of_le zat hg.size
  replace L0 := L0.grown hg (fun k hk => by have e1 : gxt = k := (by injection hk); omega)
  replace S00 := S00.grown hg (fun hn a e h => by have h1 := HU00.out hn a e; have h2 : a.block = gxt := (by injection h); omega)
  replace S01 := S01.grown hg (fun hn a e h => by have h1 := HU01.out hn a e; have h2 : a.block = gxt := (by injection h); omega)
  replace cw0 := hg.cell (a := ⟨w5.heap.size, 0, none⟩) cw0 (fun e => by have e1 : w5.heap.size = gxt := (by injection e); omega)
  replace zw0 := Nat.lt_of_lt_of_le zw0 hg.size
  replace cw1 := hg.cell (a := ⟨w5.heap.size, 1, none⟩) cw1 (fun e => by have e1 : w5.heap.size = gxt := (by injection e); omega)
  replace zw1 := Nat.lt_of_lt_of_le zw1 hg.size
  replace cw2 := hg.cell (a := ⟨w5.heap.size, 2, none⟩) cw2 (fun e => by have e1 : w5.heap.size = gxt := (by injection e); omega)
  replace zw2 := Nat.lt_of_lt_of_le zw2 hg.size
  replace cw3 := hg.cell (a := ⟨w5.heap.size, 3, none⟩) cw3 (fun e => by have e1 : w5.heap.size = gxt := (by injection e); omega)
  replace zw3 := Nat.lt_of_lt_of_le zw3 hg.size
  replace cxt := hg.cell (a := ⟨w6.heap.size, 0, none⟩) cxt (fun e => by have e1 : w6.heap.size = gxt := (by injection e); omega)
  replace zxt := Nat.lt_of_lt_of_le zxt hg.size
  replace Oxp := Oxp.kept hg (.inr (fun e => by have e1 : w7.heap.size = gxt := (by injection e); omega))
  replace O10 := O10.kept hg (.inr (fun e => by have e1 : w8.heap.size ≤ gxt ∧ gxt < w9.heap.size := HB10.out _ e; omega))
  replace O11 := O11.kept hg (.inr (fun e => by have e1 : w8.heap.size ≤ gxt ∧ gxt < w9.heap.size := HB11.out _ e; omega))
  replace cg0 := hg.cell (a := ⟨w9.heap.size, 0, none⟩) cg0 (fun e => by have e1 : w9.heap.size = gxt := (by injection e); omega)
  replace zg0 := Nat.lt_of_lt_of_le zg0 hg.size
  replace cg1 := hg.cell (a := ⟨w9.heap.size, 1, none⟩) cg1 (fun e => by have e1 : w9.heap.size = gxt := (by injection e); omega)
  replace zg1 := Nat.lt_of_lt_of_le zg1 hg.size
  replace cg2 := hg.cell (a := ⟨w9.heap.size, 2, none⟩) cg2 (fun e => by have e1 : w9.heap.size = gxt := (by injection e); omega)
  replace zg2 := Nat.lt_of_lt_of_le zg2 hg.size
  replace cg3 := hg.cell (a := ⟨w9.heap.size, 3, none⟩) cg3 (fun e => by have e1 : w9.heap.size = gxt := (by injection e); omega)
  replace zg3 := Nat.lt_of_lt_of_le zg3 hg.size
  clear hg Oxt
  clear cxt zxt
  go_wp2_with fail
  refine (markLineS_any _ _ _ _ _ _ _ Oxp (by omega) (by omega) (by omega)).mono ?_
  rintro e w16 ⟨rfl, _, hg⟩
  have s16 := hg.size
  replace cat := hg.cell (a := ⟨w.heap.size, 0, none⟩) cat (fun e => by have e1 : w.heap.size = w7.heap.size := (by injection e); omega)
  replace zat := Nat.lt_of_lt_of_le zat hg.size
  replace L0 := L0.grown hg (fun k hk => by have e1 : w7.heap.size = k := (by injection hk); omega)
  replace S00 := S00.grown hg (fun hn a e h => by have h1 := HU00.out hn a e; have h2 : a.block = w7.heap.size := (by injection h); omega)
  replace S01 := S01.grown hg (fun hn a e h => by have h1 := HU01.out hn a e; have h2 : a.block = w7.heap.size := (by injection h); omega)
  replace cw0 := hg.cell (a := ⟨w5.heap.size, 0, none⟩) cw0 (fun e => by have e1 : w5.heap.size = w7.heap.size := (by injection e); omega)
  replace zw0 := Nat.lt_of_lt_of_le zw0 hg.size
  replace cw1 := hg.cell (a := ⟨w5.heap.size, 1, none⟩) cw1 (fun e => by have e1 : w5.heap.size = w7.heap.size := (by injection e); omega)
  replace zw1 := Nat.lt_of_lt_of_le zw1 hg.size
  replace cw2 := hg.cell (a := ⟨w5.heap.size, 2, none⟩) cw2 (fun e => by have e1 : w5.heap.size = w7.heap.size := (by injection e); omega)
  replace zw2 := Nat.lt_of_lt_of_le zw2 hg.size
  replace cw3 := hg.cell (a := ⟨w5.heap.size, 3, none⟩) cw3 (fun e => by have e1 : w5.heap.size = w7.heap.size := (by injection e); omega)
  replace zw3 := Nat.lt_of_lt_of_le zw3 hg.size
  replace O10 := O10.kept hg (.inr (fun e => by have e1 : w8.heap.size ≤ w7.heap.size ∧ w7.heap.size < w9.heap.size := HB10.out _ e; omega))
  replace O11 := O11.kept hg (.inr (fun e => by have e1 : w8.heap.size ≤ w7.heap.size ∧ w7.heap.size < w9.heap.size := HB11.out _ e; omega))
  replace cg0 := hg.cell (a := ⟨w9.heap.size, 0, none⟩) cg0 (fun e => by have e1 : w9.heap.size = w7.heap.size := (by injection e); omega)
  replace zg0 := Nat.lt_of_lt_of_le zg0 hg.size
  replace cg1 := hg.cell (a := ⟨w9.heap.size, 1, none⟩) cg1 (fun e => by have e1 : w9.heap.size = w7.heap.size := (by injection e); omega)
  replace zg1 := Nat.lt_of_lt_of_le zg1 hg.size
  replace cg2 := hg.cell (a := ⟨w9.heap.size, 2, none⟩) cg2 (fun e => by have e1 : w9.heap.size = w7.heap.size := (by injection e); omega)
  replace zg2 := Nat.lt_of_lt_of_le zg2 hg.size
  replace cg3 := hg.cell (a := ⟨w9.heap.size, 3, none⟩) cg3 (fun e => by have e1 : w9.heap.size = w7.heap.size := (by injection e); omega)
  replace zg3 := Nat.lt_of_lt_of_le zg3 hg.size
  clear hg Oxp
  have hkk : decide (1 + 2 * (nt : Int) + 4 * (np : Int) < 0) = false := decide_eq_false (by omega)
  go_wp2_with fail
  refine (eqResult_self _ _ _ _ _ _ _ _ _ _ (rpL t p) (rpH t p) _ _ _ (Sl.of_own O10 rfl (by decide) okL10) S00 (Sl.of_own O11 rfl (by decide) okL11) S01).mono ?_
  rintro e w17 ⟨rfl, hle⟩
  have s17 := hle.size
  replace cat := (hle.cell zat).trans cat
  replace cw0 := (hle.cell zw0).trans cw0
  replace cw1 := (hle.cell zw1).trans cw1
  replace cw2 := (hle.cell zw2).trans cw2
  replace cw3 := (hle.cell zw3).trans cw3
  replace cg0 := (hle.cell zg0).trans cg0
  replace cg1 := (hle.cell zg1).trans cg1
  replace cg2 := (hle.cell zg2).trans cg2
  replace cg3 := (hle.cell zg3).trans cg3
  replace zat := Nat.lt_of_lt_of_le zat hle.size
  replace L0 := L0.trans hle
  replace S00 := S00.le hle
  replace S01 := S01.le hle
  replace zw0 := Nat.lt_of_lt_of_le zw0 hle.size
  replace zw1 := Nat.lt_of_lt_of_le zw1 hle.size
  replace zw2 := Nat.lt_of_lt_of_le zw2 hle.size
  replace zw3 := Nat.lt_of_lt_of_le zw3 hle.size
  replace O10 := own_le O10 hle
  replace O11 := own_le O11 hle
  replace zg0 := Nat.lt_of_lt_of_le zg0 hle.size
  replace zg1 := Nat.lt_of_lt_of_le zg1 hle.size
  replace zg2 := Nat.lt_of_lt_of_le zg2 hle.size
  replace zg3 := Nat.lt_of_lt_of_le zg3 hle.size
  clear hle
  go_wp2_with fail
  refine (markResult_any _ _ _ _ _ _ _ _ _ _ _ _ _ _ O10 O11 P1 (by omega) (by omega) HLL HLH).mono ?_
  rintro e w18 ⟨rfl, Om0, Om1, wm, hg1, hg2⟩
  have s18a := hg1.size
  have s18b := hg2.size
  replace cat := hg1.cell (a := ⟨w.heap.size, 0, none⟩) cat (fun e => by have e1 : w8.heap.size ≤ w.heap.size ∧ w.heap.size < w9.heap.size := HB10.out _ e.symm; omega)
  replace zat := Nat.lt_of_lt_of_le zat hg1.size
  replace L0 := L0.grown hg1 (fun k hk => by have e1 : w8.heap.size ≤ k ∧ k < w9.heap.size := HB10.out k hk; omega)
  replace S00 := S00.grown hg1 (fun hn a e h => by have h1 := HU00.out hn a e; have h2 : w8.heap.size ≤ a.block ∧ a.block < w9.heap.size := HB10.out _ h.symm; omega)
  replace S01 := S01.grown hg1 (fun hn a e h => by have h1 := HU01.out hn a e; have h2 : w8.heap.size ≤ a.block ∧ a.block < w9.heap.size := HB10.out _ h.symm; omega)
  replace cw0 := hg1.cell (a := ⟨w5.heap.size, 0, none⟩) cw0 (fun e => by have e1 : w8.heap.size ≤ w5.heap.size ∧ w5.heap.size < w9.heap.size := HB10.out _ e.symm; omega)
  replace zw0 := Nat.lt_of_lt_of_le zw0 hg1.size
  replace cw1 := hg1.cell (a := ⟨w5.heap.size, 1, none⟩) cw1 (fun e => by have e1 : w8.heap.size ≤ w5.heap.size ∧ w5.heap.size < w9.heap.size := HB10.out _ e.symm; omega)
  replace zw1 := Nat.lt_of_lt_of_le zw1 hg1.size
  replace cw2 := hg1.cell (a := ⟨w5.heap.size, 2, none⟩) cw2 (fun e => by have e1 : w8.heap.size ≤ w5.heap.size ∧ w5.heap.size < w9.heap.size := HB10.out _ e.symm; omega)
  replace zw2 := Nat.lt_of_lt_of_le zw2 hg1.size
  replace cw3 := hg1.cell (a := ⟨w5.heap.size, 3, none⟩) cw3 (fun e => by have e1 : w8.heap.size ≤ w5.heap.size ∧ w5.heap.size < w9.heap.size := HB10.out _ e.symm; omega)
  replace zw3 := Nat.lt_of_lt_of_le zw3 hg1.size
  replace cg0 := hg1.cell (a := ⟨w9.heap.size, 0, none⟩) cg0 (fun e => by have e1 : w8.heap.size ≤ w9.heap.size ∧ w9.heap.size < w9.heap.size := HB10.out _ e.symm; omega)
  replace zg0 := Nat.lt_of_lt_of_le zg0 hg1.size
  replace cg1 := hg1.cell (a := ⟨w9.heap.size, 1, none⟩) cg1 (fun e => by have e1 : w8.heap.size ≤ w9.heap.size ∧ w9.heap.size < w9.heap.size := HB10.out _ e.symm; omega)
  replace zg1 := Nat.lt_of_lt_of_le zg1 hg1.size
  replace cg2 := hg1.cell (a := ⟨w9.heap.size, 2, none⟩) cg2 (fun e => by have e1 : w8.heap.size ≤ w9.heap.size ∧ w9.heap.size < w9.heap.size := HB10.out _ e.symm; omega)
  replace zg2 := Nat.lt_of_lt_of_le zg2 hg1.size
  replace cg3 := hg1.cell (a := ⟨w9.heap.size, 3, none⟩) cg3 (fun e => by have e1 : w8.heap.size ≤ w9.heap.size ∧ w9.heap.size < w9.heap.size := HB10.out _ e.symm; omega)
  replace zg3 := Nat.lt_of_lt_of_le zg3 hg1.size
  replace cat := hg2.cell (a := ⟨w.heap.size, 0, none⟩) cat (fun e => by have e1 : w8.heap.size ≤ w.heap.size ∧ w.heap.size < w9.heap.size := HB11.out _ e.symm; omega)
  replace zat := Nat.lt_of_lt_of_le zat hg2.size
  replace L0 := L0.grown hg2 (fun k hk => by have e1 : w8.heap.size ≤ k ∧ k < w9.heap.size := HB11.out k hk; omega)
  replace S00 := S00.grown hg2 (fun hn a e h => by have h1 := HU00.out hn a e; have h2 : w8.heap.size ≤ a.block ∧ a.block < w9.heap.size := HB11.out _ h.symm; omega)
  replace S01 := S01.grown hg2 (fun hn a e h => by have h1 := HU01.out hn a e; have h2 : w8.heap.size ≤ a.block ∧ a.block < w9.heap.size := HB11.out _ h.symm; omega)
  replace cw0 := hg2.cell (a := ⟨w5.heap.size, 0, none⟩) cw0 (fun e => by have e1 : w8.heap.size ≤ w5.heap.size ∧ w5.heap.size < w9.heap.size := HB11.out _ e.symm; omega)
  replace zw0 := Nat.lt_of_lt_of_le zw0 hg2.size
  replace cw1 := hg2.cell (a := ⟨w5.heap.size, 1, none⟩) cw1 (fun e => by have e1 : w8.heap.size ≤ w5.heap.size ∧ w5.heap.size < w9.heap.size := HB11.out _ e.symm; omega)
  replace zw1 := Nat.lt_of_lt_of_le zw1 hg2.size
  replace cw2 := hg2.cell (a := ⟨w5.heap.size, 2, none⟩) cw2 (fun e => by have e1 : w8.heap.size ≤ w5.heap.size ∧ w5.heap.size < w9.heap.size := HB11.out _ e.symm; omega)
  replace zw2 := Nat.lt_of_lt_of_le zw2 hg2.size
  replace cw3 := hg2.cell (a := ⟨w5.heap.size, 3, none⟩) cw3 (fun e => by have e1 : w8.heap.size ≤ w5.heap.size ∧ w5.heap.size < w9.heap.size := HB11.out _ e.symm; omega)
  replace zw3 := Nat.lt_of_lt_of_le zw3 hg2.size
  replace cg0 := hg2.cell (a := ⟨w9.heap.size, 0, none⟩) cg0 (fun e => by have e1 : w8.heap.size ≤ w9.heap.size ∧ w9.heap.size < w9.heap.size := HB11.out _ e.symm; omega)
  replace zg0 := Nat.lt_of_lt_of_le zg0 hg2.size
  replace cg1 := hg2.cell (a := ⟨w9.heap.size, 1, none⟩) cg1 (fun e => by have e1 : w8.heap.size ≤ w9.heap.size ∧ w9.heap.size < w9.heap.size := HB11.out _ e.symm; omega)
  replace zg1 := Nat.lt_of_lt_of_le zg1 hg2.size
  replace cg2 := hg2.cell (a := ⟨w9.heap.size, 2, none⟩) cg2 (fun e => by have e1 : w8.heap.size ≤ w9.heap.size ∧ w9.heap.size < w9.heap.size := HB11.out _ e.symm; omega)
  replace zg2 := Nat.lt_of_lt_of_le zg2 hg2.size
  replace cg3 := hg2.cell (a := ⟨w9.heap.size, 3, none⟩) cg3 (fun e => by have e1 : w8.heap.size ≤ w9.heap.size ∧ w9.heap.size < w9.heap.size := HB11.out _ e.symm; omega)
  replace zg3 := Nat.lt_of_lt_of_le zg3 hg2.size
  clear hg1 hg2 O10 O11
  have O10 := Om0; clear Om0
  have O11 := Om1; clear Om1
  go_wp2_with fail
  refine (heldResult_any _ _ _ _ _ _ _ _ _ _ (Sl.of_own O10 rfl (by decide) (mInt_ok (by omega) (by omega) HLL)) (Sl.of_own O11 rfl (by decide) (mFlt_ok (by omega) (by omega) HLH)) (by omega) (by omega) HLL HLH).mono ?_
  rintro e w19 ⟨rfl, hle⟩
  have s19 := hle.size
  replace cat := (hle.cell zat).trans cat
  replace cw0 := (hle.cell zw0).trans cw0
  replace cw1 := (hle.cell zw1).trans cw1
  replace cw2 := (hle.cell zw2).trans cw2
  replace cw3 := (hle.cell zw3).trans cw3
  replace cg0 := (hle.cell zg0).trans cg0
  replace cg1 := (hle.cell zg1).trans cg1
  replace cg2 := (hle.cell zg2).trans cg2
  replace cg3 := (hle.cell zg3).trans cg3
  replace zat := Nat.lt_of_lt_of_le zat hle.size
  replace L0 := L0.trans hle
  replace S00 := S00.le hle
  replace S01 := S01.le hle
  replace zw0 := Nat.lt_of_lt_of_le zw0 hle.size
  replace zw1 := Nat.lt_of_lt_of_le zw1 hle.size
  replace zw2 := Nat.lt_of_lt_of_le zw2 hle.size
  replace zw3 := Nat.lt_of_lt_of_le zw3 hle.size
  replace O10 := own_le O10 hle
  replace O11 := own_le O11 hle
  replace zg0 := Nat.lt_of_lt_of_le zg0 hle.size
  replace zg1 := Nat.lt_of_lt_of_le zg1 hle.size
  replace zg2 := Nat.lt_of_lt_of_le zg2 hle.size
  replace zg3 := Nat.lt_of_lt_of_le zg3 hle.size
  clear hle
  have hqq0 : decide ((1 : Int) + ((rpL t p).length : Int) + 5 * ((rpH t p).length : Int) < 0) = false := decide_eq_false (by omega)
  go_wp2_with fail
  refine (toTree_any At nt ct t _ (ht.le L0) (by omega)).mono ?_
  rintro e w20 ⟨ght, rfl, hght, Oht, hle⟩
  have s20 := hle.size
  replace cat := (hle.cell zat).trans cat
  replace cw0 := (hle.cell zw0).trans cw0
  replace cw1 := (hle.cell zw1).trans cw1
  replace cw2 := (hle.cell zw2).trans cw2
  replace cw3 := (hle.cell zw3).trans cw3
  replace cg0 := (hle.cell zg0).trans cg0
  replace cg1 := (hle.cell zg1).trans cg1
  replace cg2 := (hle.cell zg2).trans cg2
  replace cg3 := (hle.cell zg3).trans cg3
  replace zat := Nat.lt_of_lt_of_le zat hle.size
  replace L0 := L0.trans hle
  replace S00 := S00.le hle
  replace S01 := S01.le hle
  replace zw0 := Nat.lt_of_lt_of_le zw0 hle.size
  replace zw1 := Nat.lt_of_lt_of_le zw1 hle.size
  replace zw2 := Nat.lt_of_lt_of_le zw2 hle.size
  replace zw3 := Nat.lt_of_lt_of_le zw3 hle.size
  replace O10 := own_le O10 hle
  replace O11 := own_le O11 hle
  replace zg0 := Nat.lt_of_lt_of_le zg0 hle.size
  replace zg1 := Nat.lt_of_lt_of_le zg1 hle.size
  replace zg2 := Nat.lt_of_lt_of_le zg2 hle.size
  replace zg3 := Nat.lt_of_lt_of_le zg3 hle.size
  clear hle
  have hbht := own_lt Oht
  go_wp2_with fail
  refine (toLineS_any Ap np cp p _ (hp.le L0) (by omega)).mono ?_
  rintro e w21 ⟨rfl, Ohp, hle⟩
  have s21 := hle.size
  replace cat := (hle.cell zat).trans cat
  replace cw0 := (hle.cell zw0).trans cw0
  replace cw1 := (hle.cell zw1).trans cw1
  replace cw2 := (hle.cell zw2).trans cw2
  replace cw3 := (hle.cell zw3).trans cw3
  replace cg0 := (hle.cell zg0).trans cg0
  replace cg1 := (hle.cell zg1).trans cg1
  replace cg2 := (hle.cell zg2).trans cg2
  replace cg3 := (hle.cell zg3).trans cg3
  replace zat := Nat.lt_of_lt_of_le zat hle.size
  replace L0 := L0.trans hle
  replace S00 := S00.le hle
  replace S01 := S01.le hle
  replace zw0 := Nat.lt_of_lt_of_le zw0 hle.size
  replace zw1 := Nat.lt_of_lt_of_le zw1 hle.size
  replace zw2 := Nat.lt_of_lt_of_le zw2 hle.size
  replace zw3 := Nat.lt_of_lt_of_le zw3 hle.size
  replace O10 := own_le O10 hle
  replace O11 := own_le O11 hle
  replace zg0 := Nat.lt_of_lt_of_le zg0 hle.size
  replace zg1 := Nat.lt_of_lt_of_le zg1 hle.size
  replace zg2 := Nat.lt_of_lt_of_le zg2 hle.size
  replace zg3 := Nat.lt_of_lt_of_le zg3 hle.size
  replace Oht := own_le Oht hle
  clear hle
  have hbhp := own_lt Ohp
  go_wp2_with fail
  refine (iRp_any _ _ _ _ _ _ t p (by have h1 := hp.len; have h2 := ht.len; omega) _ (Sl.of_own Oht rfl (by decide) hokt) (Sl.of_own Ohp rfl (by decide) hokp)).mono ?_
  rintro e w22 ⟨vl2, vh2, rfl, DL2, DH2, -, hle⟩
  have s22 := hle.size
  replace cat := (hle.cell zat).trans cat
  replace cw0 := (hle.cell zw0).trans cw0
  replace cw1 := (hle.cell zw1).trans cw1
  replace cw2 := (hle.cell zw2).trans cw2
  replace cw3 := (hle.cell zw3).trans cw3
  replace cg0 := (hle.cell zg0).trans cg0
  replace cg1 := (hle.cell zg1).trans cg1
  replace cg2 := (hle.cell zg2).trans cg2
  replace cg3 := (hle.cell zg3).trans cg3
  replace zat := Nat.lt_of_lt_of_le zat hle.size
  replace L0 := L0.trans hle
  replace S00 := S00.le hle
  replace S01 := S01.le hle
  replace zw0 := Nat.lt_of_lt_of_le zw0 hle.size
  replace zw1 := Nat.lt_of_lt_of_le zw1 hle.size
  replace zw2 := Nat.lt_of_lt_of_le zw2 hle.size
  replace zw3 := Nat.lt_of_lt_of_le zw3 hle.size
  replace O10 := own_le O10 hle
  replace O11 := own_le O11 hle
  replace zg0 := Nat.lt_of_lt_of_le zg0 hle.size
  replace zg1 := Nat.lt_of_lt_of_le zg1 hle.size
  replace zg2 := Nat.lt_of_lt_of_le zg2 hle.size
  replace zg3 := Nat.lt_of_lt_of_le zg3 hle.size
  replace Oht := own_le Oht hle
  replace Ohp := own_le Ohp hle
  clear hle
  obtain ⟨A20, q20, rfl, S20, hB20⟩ := DL2.form (by decide)
  have okL20 := DL2.ok
  have O20 := DL2.row; clear S20 hB20
  clear DL2
  obtain ⟨A21, q21, rfl, S21, hB21⟩ := DH2.form (by decide)
  have okL21 := DH2.ok
  have O21 := DH2.row; clear S21 hB21
  clear DH2
  clear Oht Ohp
  go_wp2_with fail
  obtain ⟨ch0, ch1, ch2, ch3, zh0, hle⟩ := boxR w22 (.slice A20 (rpL t p).length q20) (.int .i64 (rpE t p)) (.int .i64 (rpV t p)) (.slice A21 (rpH t p).length q21) 33
  have zh1 := zh0
  have zh2 := zh0
  have zh3 := zh0
  have sbh := zh0
  replace cat := (hle.cell zat).trans cat
  replace cw0 := (hle.cell zw0).trans cw0
  replace cw1 := (hle.cell zw1).trans cw1
  replace cw2 := (hle.cell zw2).trans cw2
  replace cw3 := (hle.cell zw3).trans cw3
  replace cg0 := (hle.cell zg0).trans cg0
  replace cg1 := (hle.cell zg1).trans cg1
  replace cg2 := (hle.cell zg2).trans cg2
  replace cg3 := (hle.cell zg3).trans cg3
  replace zat := Nat.lt_of_lt_of_le zat hle.size
  replace L0 := L0.trans hle
  replace S00 := S00.le hle
  replace S01 := S01.le hle
  replace zw0 := Nat.lt_of_lt_of_le zw0 hle.size
  replace zw1 := Nat.lt_of_lt_of_le zw1 hle.size
  replace zw2 := Nat.lt_of_lt_of_le zw2 hle.size
  replace zw3 := Nat.lt_of_lt_of_le zw3 hle.size
  replace O10 := own_le O10 hle
  replace O11 := own_le O11 hle
  replace zg0 := Nat.lt_of_lt_of_le zg0 hle.size
  replace zg1 := Nat.lt_of_lt_of_le zg1 hle.size
  replace zg2 := Nat.lt_of_lt_of_le zg2 hle.size
  replace zg3 := Nat.lt_of_lt_of_le zg3 hle.size
  replace O20 := own_le O20 hle
  replace O21 := own_le O21 hle
  clear hle
  generalize w22.alloc (.cells #[.slice A20 (rpL t p).length q20, .int .i64 (rpE t p), .int .i64 (rpV t p), .slice A21 (rpH t p).length q21] 33) = w22b at *
  refine (eqResult_self _ _ _ _ _ _ _ _ _ _ (rpL t p) (rpH t p) _ _ _ (Sl.of_own O20 rfl (by decide) okL20) S00 (Sl.of_own O21 rfl (by decide) okL21) S01).mono ?_
  rintro e w23 ⟨rfl, hle⟩
  have s23 := hle.size
  replace cat := (hle.cell zat).trans cat
  replace cw0 := (hle.cell zw0).trans cw0
  replace cw1 := (hle.cell zw1).trans cw1
  replace cw2 := (hle.cell zw2).trans cw2
  replace cw3 := (hle.cell zw3).trans cw3
  replace cg0 := (hle.cell zg0).trans cg0
  replace cg1 := (hle.cell zg1).trans cg1
  replace cg2 := (hle.cell zg2).trans cg2
  replace cg3 := (hle.cell zg3).trans cg3
  replace ch0 := (hle.cell zh0).trans ch0
  replace ch1 := (hle.cell zh1).trans ch1
  replace ch2 := (hle.cell zh2).trans ch2
  replace ch3 := (hle.cell zh3).trans ch3
  replace zat := Nat.lt_of_lt_of_le zat hle.size
  replace L0 := L0.trans hle
  replace S00 := S00.le hle
  replace S01 := S01.le hle
  replace zw0 := Nat.lt_of_lt_of_le zw0 hle.size
  replace zw1 := Nat.lt_of_lt_of_le zw1 hle.size
  replace zw2 := Nat.lt_of_lt_of_le zw2 hle.size
  replace zw3 := Nat.lt_of_lt_of_le zw3 hle.size
  replace O10 := own_le O10 hle
  replace O11 := own_le O11 hle
  replace zg0 := Nat.lt_of_lt_of_le zg0 hle.size
  replace zg1 := Nat.lt_of_lt_of_le zg1 hle.size
  replace zg2 := Nat.lt_of_lt_of_le zg2 hle.size
  replace zg3 := Nat.lt_of_lt_of_le zg3 hle.size
  replace O20 := own_le O20 hle
  replace O21 := own_le O21 hle
  replace zh0 := Nat.lt_of_lt_of_le zh0 hle.size
  replace zh1 := Nat.lt_of_lt_of_le zh1 hle.size
  replace zh2 := Nat.lt_of_lt_of_le zh2 hle.size
  replace zh3 := Nat.lt_of_lt_of_le zh3 hle.size
  clear hle
  clear O20 O21
  go_wp2_with fail
  refine (heldResult_any _ _ _ _ _ _ _ _ _ _ (Sl.of_own O10 rfl (by decide) (mInt_ok (by omega) (by omega) HLL)) (Sl.of_own O11 rfl (by decide) (mFlt_ok (by omega) (by omega) HLH)) (by omega) (by omega) HLL HLH).mono ?_
  rintro e w24 ⟨rfl, hle⟩
  have s24 := hle.size
  replace cat := (hle.cell zat).trans cat
  replace cw0 := (hle.cell zw0).trans cw0
  replace cw1 := (hle.cell zw1).trans cw1
  replace cw2 := (hle.cell zw2).trans cw2
  replace cw3 := (hle.cell zw3).trans cw3
  replace cg0 := (hle.cell zg0).trans cg0
  replace cg1 := (hle.cell zg1).trans cg1
  replace cg2 := (hle.cell zg2).trans cg2
  replace cg3 := (hle.cell zg3).trans cg3
  replace ch0 := (hle.cell zh0).trans ch0
  replace ch1 := (hle.cell zh1).trans ch1
  replace ch2 := (hle.cell zh2).trans ch2
  replace ch3 := (hle.cell zh3).trans ch3
  replace zat := Nat.lt_of_lt_of_le zat hle.size
  replace L0 := L0.trans hle
  replace S00 := S00.le hle
  replace S01 := S01.le hle
  replace zw0 := Nat.lt_of_lt_of_le zw0 hle.size
  replace zw1 := Nat.lt_of_lt_of_le zw1 hle.size
  replace zw2 := Nat.lt_of_lt_of_le zw2 hle.size
  replace zw3 := Nat.lt_of_lt_of_le zw3 hle.size
  replace O10 := own_le O10 hle
  replace O11 := own_le O11 hle
  replace zg0 := Nat.lt_of_lt_of_le zg0 hle.size
  replace zg1 := Nat.lt_of_lt_of_le zg1 hle.size
  replace zg2 := Nat.lt_of_lt_of_le zg2 hle.size
  replace zg3 := Nat.lt_of_lt_of_le zg3 hle.size
  replace zh0 := Nat.lt_of_lt_of_le zh0 hle.size
  replace zh1 := Nat.lt_of_lt_of_le zh1 hle.size
  replace zh2 := Nat.lt_of_lt_of_le zh2 hle.size
  replace zh3 := Nat.lt_of_lt_of_le zh3 hle.size
  clear hle
  go_wp2
  go_ret
  exact ⟨rfl, L0⟩
end Go.Proofs.YtdbmolhdgmopoaaGreat
