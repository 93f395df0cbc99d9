import Derived.Test.YtcnfnmhiffmafaaTlClass
import Derived.Test.YtcnfnmhiffmafaaTlExit
import Derived.Test.YtcnfnmhiffmafaaPxC
namespace Go.Proofs.Ytcnfnmhiffmafaa
open Go.RowKit

set_option maxHeartbeats 16000000 in
set_option maxRecDepth 100000 in
theorem exPopExit_walk (At : Option Addr) (nt ct : Nat) (t : List Cls) (Ap : Option Addr) (np cp : Nat) (p : List Xit) (w : World) (ht : Sl w At nt ct t) (hp : Sl w Ap np cp p) :
    Calls Try.prog 6 #[.agg #[.slice At nt ct], .slice Ap np cp] w fun e w' => e = .returned (.bool true) ∧ Le w w' := by
  have hokt := ht.ok
  have hmxt := ht.n_le
  have hokp := hp.ok
  have hmxp := hp.n_le
  have HL0 : (poX t p).length ≤ 1048576 := poX_len t p
  go_enter Try.func6, Try.ntmps6
  go_wp2_with fail
  obtain ⟨cat, zat, L0⟩ := box1 w (.slice At nt ct) 24
  have s0 : w.heap.size ≤ (w.alloc (.cells #[.slice At nt ct] 24)).heap.size := L0.size
  have sz0 := zat
  generalize w.alloc (.cells #[.slice At nt ct] 24) = W at *
  refine (szTree_any At nt ct t _ _ (ht.le L0) (by omega) (by omega)).mono ?_
  rintro e w1 ⟨rt, rfl, hr, hle⟩
  have s1 := hle.size
  replace cat := (hle.cell zat).trans cat
  replace zat := Nat.lt_of_lt_of_le zat hle.size
  replace L0 := L0.trans hle
  clear hle
  rcases hr with rfl | ⟨ht0, ht1, ht2⟩
  · go_wp2
    go_ret
    exact ⟨rfl, L0⟩
  have hnegt : decide (rt < 0) = false := decide_eq_false (by omega)
  go_wp2_with fail
  refine (szExitS_any Ap np cp p _ _ (hp.le L0) (by omega) (by omega)).mono ?_
  rintro e w2 ⟨rp, rfl, hr, hle⟩
  have s2 := hle.size
  replace cat := (hle.cell zat).trans cat
  replace zat := Nat.lt_of_lt_of_le zat hle.size
  replace L0 := L0.trans hle
  clear hle
  rcases hr with rfl | ⟨hp0, hp1, hp2⟩
  · go_wp2
    go_ret
    exact ⟨rfl, L0⟩
  have hnegp : decide (rp < 0) = false := decide_eq_false (by omega)
  go_wp2_with fail
  refine (toTree_any At nt ct t _ (ht.le L0) (by omega)).mono ?_
  rintro e w3 ⟨gat, rfl, hgat, Oat, hle⟩
  have s3 := hle.size
  replace cat := (hle.cell zat).trans cat
  replace zat := Nat.lt_of_lt_of_le zat hle.size
  replace L0 := L0.trans hle
  clear hle
  have hbat := own_lt Oat
  go_wp2_with fail
  refine (toExitS_any Ap np cp p _ (hp.le L0) (by omega)).mono ?_
  rintro e w4 ⟨rfl, Oap, hle⟩
  have s4 := hle.size
  replace cat := (hle.cell zat).trans cat
  replace zat := Nat.lt_of_lt_of_le zat hle.size
  replace L0 := L0.trans hle
  replace Oat := own_le Oat hle
  clear hle
  have hbap := own_lt Oap
  go_wp2_with fail
  refine (sPopExit_any _ _ _ _ _ _ t p (by omega) _ (Sl.of_own Oat rfl (by decide) hokt) (Sl.of_own Oap rfl (by decide) hokp)).mono ?_
  rintro e w5 ⟨v00, rfl, D00, hle⟩
  have s5 := hle.size
  replace cat := (hle.cell zat).trans cat
  replace zat := Nat.lt_of_lt_of_le zat hle.size
  replace L0 := L0.trans hle
  replace Oat := own_le Oat hle
  replace Oap := own_le Oap hle
  clear hle
  obtain ⟨A00, q00, rfl, S00, hB00⟩ := D00.form (by decide)
  have HB00 := Lib.hid hB00; clear hB00
  have okL00 := D00.ok
  have HU00 := Lib.hid (S00.under)
  clear D00
  clear Oat Oap
  go_wp2_with fail
  obtain ⟨cb010, cb011, cb012, zb010, hleB⟩ := boxT w5 (.int .i64 (poE t p).kind) (.int .i64 (poE t p).a) (.int .i64 (poE t p).b) 42
  have zb011 := zb010
  have zb012 := zb010
  replace cat := (hleB.cell zat).trans cat
  replace zat := Nat.lt_of_lt_of_le zat hleB.size
  replace L0 := L0.trans hleB
  replace S00 := S00.le hleB
  clear hleB
  generalize w5.alloc (.cells #[.int .i64 (poE t p).kind, .int .i64 (poE t p).a, .int .i64 (poE t p).b] 42) = w6 at *
  have s6 := zb010
  refine (toTree_any At nt ct t _ (ht.le L0) (by omega)).mono ?_
  rintro e w7 ⟨gxt, rfl, hgxt, Oxt, hle⟩
  have s7 := hle.size
  replace cat := (hle.cell zat).trans cat
  replace cb010 := (hle.cell zb010).trans cb010
  replace cb011 := (hle.cell zb011).trans cb011
  replace cb012 := (hle.cell zb012).trans cb012
  replace zat := Nat.lt_of_lt_of_le zat hle.size
  replace L0 := L0.trans hle
  replace S00 := S00.le hle
  replace zb010 := Nat.lt_of_lt_of_le zb010 hle.size
  replace zb011 := Nat.lt_of_lt_of_le zb011 hle.size
  replace zb012 := Nat.lt_of_lt_of_le zb012 hle.size
  clear hle
  have hbxt := own_lt Oxt
  go_wp2_with fail
  obtain ⟨cxt, zxt, hleB⟩ := box1 w7 (.slice (some ⟨gxt, 0, none⟩) nt nt) 31
  replace cat := (hleB.cell zat).trans cat
  replace cb010 := (hleB.cell zb010).trans cb010
  replace cb011 := (hleB.cell zb011).trans cb011
  replace cb012 := (hleB.cell zb012).trans cb012
  replace zat := Nat.lt_of_lt_of_le zat hleB.size
  replace L0 := L0.trans hleB
  replace S00 := S00.le hleB
  replace zb010 := Nat.lt_of_lt_of_le zb010 hleB.size
  replace zb011 := Nat.lt_of_lt_of_le zb011 hleB.size
  replace zb012 := Nat.lt_of_lt_of_le zb012 hleB.size
  replace Oxt := own_le Oxt hleB
  clear hleB
  generalize w7.alloc (.cells #[.slice (some ⟨gxt, 0, none⟩) nt nt] 31) = w8 at *
  have s8 := zxt
  refine (toExitS_any Ap np cp p _ (hp.le L0) (by omega)).mono ?_
  rintro e w9 ⟨rfl, Oxp, hle⟩
  have s9 := hle.size
  replace cat := (hle.cell zat).trans cat
  replace cb010 := (hle.cell zb010).trans cb010
  replace cb011 := (hle.cell zb011).trans cb011
  replace cb012 := (hle.cell zb012).trans cb012
  replace cxt := (hle.cell zxt).trans cxt
  replace zat := Nat.lt_of_lt_of_le zat hle.size
  replace L0 := L0.trans hle
  replace S00 := S00.le hle
  replace zb010 := Nat.lt_of_lt_of_le zb010 hle.size
  replace zb011 := Nat.lt_of_lt_of_le zb011 hle.size
  replace zb012 := Nat.lt_of_lt_of_le zb012 hle.size
  replace Oxt := own_le Oxt hle
  replace zxt := Nat.lt_of_lt_of_le zxt hle.size
  clear hle
  have hbxp := own_lt Oxp
  go_wp2_with fail
  refine (iPopExit_any _ _ _ _ _ _ t p (by omega) _ (Sl.of_own Oxt rfl (by decide) hokt) (Sl.of_own Oxp rfl (by decide) hokp)).mono ?_
  rintro e w10 ⟨v10, rfl, D10, hle⟩
  have s10 := hle.size
  replace cat := (hle.cell zat).trans cat
  replace cb010 := (hle.cell zb010).trans cb010
  replace cb011 := (hle.cell zb011).trans cb011
  replace cb012 := (hle.cell zb012).trans cb012
  replace cxt := (hle.cell zxt).trans cxt
  replace zat := Nat.lt_of_lt_of_le zat hle.size
  replace L0 := L0.trans hle
  replace S00 := S00.le hle
  replace zb010 := Nat.lt_of_lt_of_le zb010 hle.size
  replace zb011 := Nat.lt_of_lt_of_le zb011 hle.size
  replace zb012 := Nat.lt_of_lt_of_le zb012 hle.size
  replace Oxt := own_le Oxt hle
  replace zxt := Nat.lt_of_lt_of_le zxt hle.size
  replace Oxp := own_le Oxp hle
  clear hle
  obtain ⟨A10, q10, rfl, S10, hB10⟩ := D10.form (by decide)
  have HB10 := Lib.hid hB10; clear hB10
  have okL10 := D10.ok
  have O10 := D10.row; clear S10
  clear D10
  go_wp2_with fail
  obtain ⟨cb110, cb111, cb112, zb110, hleB⟩ := boxT w10 (.int .i64 (poE t p).kind) (.int .i64 (poE t p).a) (.int .i64 (poE t p).b) 42
  have zb111 := zb110
  have zb112 := zb110
  replace cat := (hleB.cell zat).trans cat
  replace cb010 := (hleB.cell zb010).trans cb010
  replace cb011 := (hleB.cell zb011).trans cb011
  replace cb012 := (hleB.cell zb012).trans cb012
  replace cxt := (hleB.cell zxt).trans cxt
  replace zat := Nat.lt_of_lt_of_le zat hleB.size
  replace L0 := L0.trans hleB
  replace S00 := S00.le hleB
  replace zb010 := Nat.lt_of_lt_of_le zb010 hleB.size
  replace zb011 := Nat.lt_of_lt_of_le zb011 hleB.size
  replace zb012 := Nat.lt_of_lt_of_le zb012 hleB.size
  replace Oxt := own_le Oxt hleB
  replace zxt := Nat.lt_of_lt_of_le zxt hleB.size
  replace Oxp := own_le Oxp hleB
  replace O10 := own_le O10 hleB
  clear hleB
  generalize w10.alloc (.cells #[.int .i64 (poE t p).kind, .int .i64 (poE t p).a, .int .i64 (poE t p).b] 42) = w11 at *
  have s11 := zb110
  refine (eqExitS_self _ _ _ _ _ (poX t p) _ (Sl.of_own O10 rfl (by decide) okL10) S00).mono ?_
  rintro e w12 ⟨rfl, hle⟩
  have s12 := hle.size
  replace cat := (hle.cell zat).trans cat
  replace cb010 := (hle.cell zb010).trans cb010
  replace cb011 := (hle.cell zb011).trans cb011
  replace cb012 := (hle.cell zb012).trans cb012
  replace cxt := (hle.cell zxt).trans cxt
  replace cb110 := (hle.cell zb110).trans cb110
  replace cb111 := (hle.cell zb111).trans cb111
  replace cb112 := (hle.cell zb112).trans cb112
  replace zat := Nat.lt_of_lt_of_le zat hle.size
  replace L0 := L0.trans hle
  replace S00 := S00.le hle
  replace zb010 := Nat.lt_of_lt_of_le zb010 hle.size
  replace zb011 := Nat.lt_of_lt_of_le zb011 hle.size
  replace zb012 := Nat.lt_of_lt_of_le zb012 hle.size
  replace Oxt := own_le Oxt hle
  replace zxt := Nat.lt_of_lt_of_le zxt hle.size
  replace Oxp := own_le Oxp hle
  replace O10 := own_le O10 hle
  replace zb110 := Nat.lt_of_lt_of_le zb110 hle.size
  replace zb111 := Nat.lt_of_lt_of_le zb111 hle.size
  replace zb112 := Nat.lt_of_lt_of_le zb112 hle.size
  clear hle
  go_wp2_with fail
  refine (eqExit_self (poE t p) _).mono ?_
  rintro e w13 ⟨rfl, hle⟩
  have s13 := hle.size
  replace cat := (hle.cell zat).trans cat
  replace cb010 := (hle.cell zb010).trans cb010
  replace cb011 := (hle.cell zb011).trans cb011
  replace cb012 := (hle.cell zb012).trans cb012
  replace cxt := (hle.cell zxt).trans cxt
  replace cb110 := (hle.cell zb110).trans cb110
  replace cb111 := (hle.cell zb111).trans cb111
  replace cb112 := (hle.cell zb112).trans cb112
  replace zat := Nat.lt_of_lt_of_le zat hle.size
  replace L0 := L0.trans hle
  replace S00 := S00.le hle
  replace zb010 := Nat.lt_of_lt_of_le zb010 hle.size
  replace zb011 := Nat.lt_of_lt_of_le zb011 hle.size
  replace zb012 := Nat.lt_of_lt_of_le zb012 hle.size
  replace Oxt := own_le Oxt hle
  replace zxt := Nat.lt_of_lt_of_le zxt hle.size
  replace Oxp := own_le Oxp hle
  replace O10 := own_le O10 hle
  replace zb110 := Nat.lt_of_lt_of_le zb110 hle.size
  replace zb111 := Nat.lt_of_lt_of_le zb111 hle.size
  replace zb112 := Nat.lt_of_lt_of_le zb112 hle.size
  clear hle
  go_wp2_with fail
  replace L0 := L0.drew
  replace S00 := S00.le (Le.refl _).drew
  replace Oxt := Oxt.drew
  replace Oxp := Oxp.drew
  replace O10 := O10.drew
  go_region_held3 (fun w' => w'.cell? ⟨w.heap.size, 0, none⟩ = some (.slice At nt ct) ∧ w'.cell? ⟨w7.heap.size, 0, none⟩ = some (.slice (some ⟨gxt, 0, none⟩) nt nt))
    (first | exact ⟨cat, cxt⟩)
    (first
    | (go_at_call 10; refine (toTree_any At nt ct t _ (ht.le L0) (by omega)).mono ?_; rintro e w14 ⟨gy, rfl, hgy, Oy, hle⟩; have s14 : w13.heap.size ≤ w14.heap.size := hle.size; replace cat := (hle.cell zat).trans cat; replace cb010 := (hle.cell zb010).trans cb010; replace cb011 := (hle.cell zb011).trans cb011; replace cb012 := (hle.cell zb012).trans cb012; replace cxt := (hle.cell zxt).trans cxt; replace cb110 := (hle.cell zb110).trans cb110; replace cb111 := (hle.cell zb111).trans cb111; replace cb112 := (hle.cell zb112).trans cb112; replace zat := Nat.lt_of_lt_of_le zat hle.size; replace L0 := L0.trans hle; replace S00 := S00.le hle; replace zb010 := Nat.lt_of_lt_of_le zb010 hle.size; replace zb011 := Nat.lt_of_lt_of_le zb011 hle.size; replace zb012 := Nat.lt_of_lt_of_le zb012 hle.size; replace Oxt := own_le Oxt hle; replace zxt := Nat.lt_of_lt_of_le zxt hle.size; replace Oxp := own_le Oxp hle; replace O10 := own_le O10 hle; replace zb110 := Nat.lt_of_lt_of_le zb110 hle.size; replace zb111 := Nat.lt_of_lt_of_le zb111 hle.size; replace zb112 := Nat.lt_of_lt_of_le zb112 hle.size; clear hle; have Sy := Sl.of_own Oy rfl (by decide) hokt; clear Oy)
    | (go_at_call 13; refine (eqTree_self _ _ _ _ _ t _ (Sl.of_own Oxt rfl (by decide) hokt) Sy).mono ?_; rintro e w15 ⟨rfl, hle⟩; have s15 := hle.size; replace cat := (hle.cell zat).trans cat; replace cb010 := (hle.cell zb010).trans cb010; replace cb011 := (hle.cell zb011).trans cb011; replace cb012 := (hle.cell zb012).trans cb012; replace cxt := (hle.cell zxt).trans cxt; replace cb110 := (hle.cell zb110).trans cb110; replace cb111 := (hle.cell zb111).trans cb111; replace cb112 := (hle.cell zb112).trans cb112; replace zat := Nat.lt_of_lt_of_le zat hle.size; replace L0 := L0.trans hle; replace S00 := S00.le hle; replace zb010 := Nat.lt_of_lt_of_le zb010 hle.size; replace zb011 := Nat.lt_of_lt_of_le zb011 hle.size; replace zb012 := Nat.lt_of_lt_of_le zb012 hle.size; replace Oxt := own_le Oxt hle; replace zxt := Nat.lt_of_lt_of_le zxt hle.size; replace Oxp := own_le Oxp hle; replace O10 := own_le O10 hle; replace zb110 := Nat.lt_of_lt_of_le zb110 hle.size; replace zb111 := Nat.lt_of_lt_of_le zb111 hle.size; replace zb112 := Nat.lt_of_lt_of_le zb112 hle.size; clear hle Sy))
  go_wp2_with fail
  refine (toExitS_any Ap np cp p _ (hp.le L0) (by omega)).mono ?_
  rintro e w16 ⟨rfl, Oy, hle⟩
  have s16 := hle.size
  replace cat := (hle.cell zat).trans cat
  replace cb010 := (hle.cell zb010).trans cb010
  replace cb011 := (hle.cell zb011).trans cb011
  replace cb012 := (hle.cell zb012).trans cb012
  replace cxt := (hle.cell zxt).trans cxt
  replace cb110 := (hle.cell zb110).trans cb110
  replace cb111 := (hle.cell zb111).trans cb111
  replace cb112 := (hle.cell zb112).trans cb112
  replace zat := Nat.lt_of_lt_of_le zat hle.size
  replace L0 := L0.trans hle
  replace S00 := S00.le hle
  replace zb010 := Nat.lt_of_lt_of_le zb010 hle.size
  replace zb011 := Nat.lt_of_lt_of_le zb011 hle.size
  replace zb012 := Nat.lt_of_lt_of_le zb012 hle.size
  replace Oxt := own_le Oxt hle
  replace zxt := Nat.lt_of_lt_of_le zxt hle.size
  replace Oxp := own_le Oxp hle
  replace O10 := own_le O10 hle
  replace zb110 := Nat.lt_of_lt_of_le zb110 hle.size
  replace zb111 := Nat.lt_of_lt_of_le zb111 hle.size
  replace zb112 := Nat.lt_of_lt_of_le zb112 hle.size
  clear hle
  have hby := own_lt Oy
  have Sy := Sl.of_own Oy rfl (by decide) hokp; clear Oy hby
  go_wp2_with fail
  refine (eqExitS_self _ _ _ _ _ p _ (Sl.of_own Oxp rfl (by decide) hokp) Sy).mono ?_
  rintro e w17 ⟨rfl, hle⟩
  have s17 := hle.size
  replace cat := (hle.cell zat).trans cat
  replace cb010 := (hle.cell zb010).trans cb010
  replace cb011 := (hle.cell zb011).trans cb011
  replace cb012 := (hle.cell zb012).trans cb012
  replace cxt := (hle.cell zxt).trans cxt
  replace cb110 := (hle.cell zb110).trans cb110
  replace cb111 := (hle.cell zb111).trans cb111
  replace cb112 := (hle.cell zb112).trans cb112
  replace zat := Nat.lt_of_lt_of_le zat hle.size
  replace L0 := L0.trans hle
  replace S00 := S00.le hle
  replace zb010 := Nat.lt_of_lt_of_le zb010 hle.size
  replace zb011 := Nat.lt_of_lt_of_le zb011 hle.size
  replace zb012 := Nat.lt_of_lt_of_le zb012 hle.size
  replace Oxt := own_le Oxt hle
  replace zxt := Nat.lt_of_lt_of_le zxt hle.size
  replace Oxp := own_le Oxp hle
  replace O10 := own_le O10 hle
  replace zb110 := Nat.lt_of_lt_of_le zb110 hle.size
  replace zb111 := Nat.lt_of_lt_of_le zb111 hle.size
  replace zb112 := Nat.lt_of_lt_of_le zb112 hle.size
  clear hle
  clear Sy
  go_wp2_with fail
  refine (markTree_any _ _ _ _ _ _ _ Oxt (by omega) (by omega) (by omega)).mono ?_
  rintro e w18 ⟨rfl, _, hg⟩
  have s18 := hg.size
  replace cat := hg.cell (a := ⟨w.heap.size, 0, none⟩) cat (fun e => by have e1 : w.heap.size = gxt := (by injection e); omega)
  replace zat := Nat.lt_of_lt_of_le zat hg.size
  replace L0 := L0.grown hg (fun k hk => by have e1 : gxt = k := (by injection hk); omega)
  replace S00 := S00.grown hg (fun hn a e h => by have h1 := HU00.out hn a e; have h2 : a.block = gxt := (by injection h); omega)
  replace cb010 := hg.cell (a := ⟨w5.heap.size, 0, none⟩) cb010 (fun e => by have e1 : w5.heap.size = gxt := (by injection e); omega)
  replace zb010 := Nat.lt_of_lt_of_le zb010 hg.size
  replace cb011 := hg.cell (a := ⟨w5.heap.size, 1, none⟩) cb011 (fun e => by have e1 : w5.heap.size = gxt := (by injection e); omega)
  replace zb011 := Nat.lt_of_lt_of_le zb011 hg.size
  replace cb012 := hg.cell (a := ⟨w5.heap.size, 2, none⟩) cb012 (fun e => by have e1 : w5.heap.size = gxt := (by injection e); omega)
  replace zb012 := Nat.lt_of_lt_of_le zb012 hg.size
  replace cxt := hg.cell (a := ⟨w7.heap.size, 0, none⟩) cxt (fun e => by have e1 : w7.heap.size = gxt := (by injection e); omega)
  replace zxt := Nat.lt_of_lt_of_le zxt hg.size
  replace Oxp := Oxp.kept hg (.inr (fun e => by have e1 : w8.heap.size = gxt := (by injection e); omega))
  replace O10 := O10.kept hg (.inr (fun e => by have e1 : w9.heap.size ≤ gxt ∧ gxt < w10.heap.size := HB10.out _ e; omega))
  replace cb110 := hg.cell (a := ⟨w10.heap.size, 0, none⟩) cb110 (fun e => by have e1 : w10.heap.size = gxt := (by injection e); omega)
  replace zb110 := Nat.lt_of_lt_of_le zb110 hg.size
  replace cb111 := hg.cell (a := ⟨w10.heap.size, 1, none⟩) cb111 (fun e => by have e1 : w10.heap.size = gxt := (by injection e); omega)
  replace zb111 := Nat.lt_of_lt_of_le zb111 hg.size
  replace cb112 := hg.cell (a := ⟨w10.heap.size, 2, none⟩) cb112 (fun e => by have e1 : w10.heap.size = gxt := (by injection e); omega)
  replace zb112 := Nat.lt_of_lt_of_le zb112 hg.size
  clear hg Oxt
  clear cxt zxt
  go_wp2_with fail
  refine (markExitS_any _ _ _ _ _ _ _ Oxp (by omega) (by omega) (by omega)).mono ?_
  rintro e w19 ⟨rfl, _, hg⟩
  have s19 := hg.size
  replace cat := hg.cell (a := ⟨w.heap.size, 0, none⟩) cat (fun e => by have e1 : w.heap.size = w8.heap.size := (by injection e); omega)
  replace zat := Nat.lt_of_lt_of_le zat hg.size
  replace L0 := L0.grown hg (fun k hk => by have e1 : w8.heap.size = k := (by injection hk); omega)
  replace S00 := S00.grown hg (fun hn a e h => by have h1 := HU00.out hn a e; have h2 : a.block = w8.heap.size := (by injection h); omega)
  replace cb010 := hg.cell (a := ⟨w5.heap.size, 0, none⟩) cb010 (fun e => by have e1 : w5.heap.size = w8.heap.size := (by injection e); omega)
  replace zb010 := Nat.lt_of_lt_of_le zb010 hg.size
  replace cb011 := hg.cell (a := ⟨w5.heap.size, 1, none⟩) cb011 (fun e => by have e1 : w5.heap.size = w8.heap.size := (by injection e); omega)
  replace zb011 := Nat.lt_of_lt_of_le zb011 hg.size
  replace cb012 := hg.cell (a := ⟨w5.heap.size, 2, none⟩) cb012 (fun e => by have e1 : w5.heap.size = w8.heap.size := (by injection e); omega)
  replace zb012 := Nat.lt_of_lt_of_le zb012 hg.size
  replace O10 := O10.kept hg (.inr (fun e => by have e1 : w9.heap.size ≤ w8.heap.size ∧ w8.heap.size < w10.heap.size := HB10.out _ e; omega))
  replace cb110 := hg.cell (a := ⟨w10.heap.size, 0, none⟩) cb110 (fun e => by have e1 : w10.heap.size = w8.heap.size := (by injection e); omega)
  replace zb110 := Nat.lt_of_lt_of_le zb110 hg.size
  replace cb111 := hg.cell (a := ⟨w10.heap.size, 1, none⟩) cb111 (fun e => by have e1 : w10.heap.size = w8.heap.size := (by injection e); omega)
  replace zb111 := Nat.lt_of_lt_of_le zb111 hg.size
  replace cb112 := hg.cell (a := ⟨w10.heap.size, 2, none⟩) cb112 (fun e => by have e1 : w10.heap.size = w8.heap.size := (by injection e); omega)
  replace zb112 := Nat.lt_of_lt_of_le zb112 hg.size
  clear hg Oxp
  have hkk : decide (1 + 2 * (nt : Int) + 3 * (np : Int) < 0) = false := decide_eq_false (by omega)
  go_wp2_with fail
  refine (eqExitS_self _ _ _ _ _ (poX t p) _ (Sl.of_own O10 rfl (by decide) okL10) S00).mono ?_
  rintro e w20 ⟨rfl, hle⟩
  have s20 := hle.size
  replace cat := (hle.cell zat).trans cat
  replace cb010 := (hle.cell zb010).trans cb010
  replace cb011 := (hle.cell zb011).trans cb011
  replace cb012 := (hle.cell zb012).trans cb012
  replace cb110 := (hle.cell zb110).trans cb110
  replace cb111 := (hle.cell zb111).trans cb111
  replace cb112 := (hle.cell zb112).trans cb112
  replace zat := Nat.lt_of_lt_of_le zat hle.size
  replace L0 := L0.trans hle
  replace S00 := S00.le hle
  replace zb010 := Nat.lt_of_lt_of_le zb010 hle.size
  replace zb011 := Nat.lt_of_lt_of_le zb011 hle.size
  replace zb012 := Nat.lt_of_lt_of_le zb012 hle.size
  replace O10 := own_le O10 hle
  replace zb110 := Nat.lt_of_lt_of_le zb110 hle.size
  replace zb111 := Nat.lt_of_lt_of_le zb111 hle.size
  replace zb112 := Nat.lt_of_lt_of_le zb112 hle.size
  clear hle
  go_wp2_with fail
  refine (eqExit_self (poE t p) _).mono ?_
  rintro e w21 ⟨rfl, hle⟩
  have s21 := hle.size
  replace cat := (hle.cell zat).trans cat
  replace cb010 := (hle.cell zb010).trans cb010
  replace cb011 := (hle.cell zb011).trans cb011
  replace cb012 := (hle.cell zb012).trans cb012
  replace cb110 := (hle.cell zb110).trans cb110
  replace cb111 := (hle.cell zb111).trans cb111
  replace cb112 := (hle.cell zb112).trans cb112
  replace zat := Nat.lt_of_lt_of_le zat hle.size
  replace L0 := L0.trans hle
  replace S00 := S00.le hle
  replace zb010 := Nat.lt_of_lt_of_le zb010 hle.size
  replace zb011 := Nat.lt_of_lt_of_le zb011 hle.size
  replace zb012 := Nat.lt_of_lt_of_le zb012 hle.size
  replace O10 := own_le O10 hle
  replace zb110 := Nat.lt_of_lt_of_le zb110 hle.size
  replace zb111 := Nat.lt_of_lt_of_le zb111 hle.size
  replace zb112 := Nat.lt_of_lt_of_le zb112 hle.size
  clear hle
  go_wp2_with fail
  refine (markExitS_any _ _ _ _ _ _ _ O10 (by omega) (by omega) HL0).mono ?_
  rintro e w22 ⟨rfl, Om, hg⟩
  have s22 := hg.size
  replace cat := hg.cell (a := ⟨w.heap.size, 0, none⟩) cat (fun e => by have e1 : w9.heap.size ≤ w.heap.size ∧ w.heap.size < w10.heap.size := HB10.out _ e.symm; omega)
  replace zat := Nat.lt_of_lt_of_le zat hg.size
  replace L0 := L0.grown hg (fun k hk => by have e1 : w9.heap.size ≤ k ∧ k < w10.heap.size := HB10.out k hk; omega)
  replace S00 := S00.grown hg (fun hn a e h => by have h1 := HU00.out hn a e; have h2 : w9.heap.size ≤ a.block ∧ a.block < w10.heap.size := HB10.out _ h.symm; omega)
  replace cb010 := hg.cell (a := ⟨w5.heap.size, 0, none⟩) cb010 (fun e => by have e1 : w9.heap.size ≤ w5.heap.size ∧ w5.heap.size < w10.heap.size := HB10.out _ e.symm; omega)
  replace zb010 := Nat.lt_of_lt_of_le zb010 hg.size
  replace cb011 := hg.cell (a := ⟨w5.heap.size, 1, none⟩) cb011 (fun e => by have e1 : w9.heap.size ≤ w5.heap.size ∧ w5.heap.size < w10.heap.size := HB10.out _ e.symm; omega)
  replace zb011 := Nat.lt_of_lt_of_le zb011 hg.size
  replace cb012 := hg.cell (a := ⟨w5.heap.size, 2, none⟩) cb012 (fun e => by have e1 : w9.heap.size ≤ w5.heap.size ∧ w5.heap.size < w10.heap.size := HB10.out _ e.symm; omega)
  replace zb012 := Nat.lt_of_lt_of_le zb012 hg.size
  replace cb110 := hg.cell (a := ⟨w10.heap.size, 0, none⟩) cb110 (fun e => by have e1 : w9.heap.size ≤ w10.heap.size ∧ w10.heap.size < w10.heap.size := HB10.out _ e.symm; omega)
  replace zb110 := Nat.lt_of_lt_of_le zb110 hg.size
  replace cb111 := hg.cell (a := ⟨w10.heap.size, 1, none⟩) cb111 (fun e => by have e1 : w9.heap.size ≤ w10.heap.size ∧ w10.heap.size < w10.heap.size := HB10.out _ e.symm; omega)
  replace zb111 := Nat.lt_of_lt_of_le zb111 hg.size
  replace cb112 := hg.cell (a := ⟨w10.heap.size, 2, none⟩) cb112 (fun e => by have e1 : w9.heap.size ≤ w10.heap.size ∧ w10.heap.size < w10.heap.size := HB10.out _ e.symm; omega)
  replace zb112 := Nat.lt_of_lt_of_le zb112 hg.size
  clear hg O10
  have O10 := Om; clear Om
  go_wp2_with fail
  refine (heldExitS_any _ _ _ _ _ (Sl.of_own O10 rfl (by decide) (mXit_ok (by omega) (by omega) HL0)) (by omega) (by omega) HL0).mono ?_
  rintro e w23 ⟨rfl, hle⟩
  have s23 := hle.size
  replace cat := (hle.cell zat).trans cat
  replace cb010 := (hle.cell zb010).trans cb010
  replace cb011 := (hle.cell zb011).trans cb011
  replace cb012 := (hle.cell zb012).trans cb012
  replace cb110 := (hle.cell zb110).trans cb110
  replace cb111 := (hle.cell zb111).trans cb111
  replace cb112 := (hle.cell zb112).trans cb112
  replace zat := Nat.lt_of_lt_of_le zat hle.size
  replace L0 := L0.trans hle
  replace S00 := S00.le hle
  replace zb010 := Nat.lt_of_lt_of_le zb010 hle.size
  replace zb011 := Nat.lt_of_lt_of_le zb011 hle.size
  replace zb012 := Nat.lt_of_lt_of_le zb012 hle.size
  replace O10 := own_le O10 hle
  replace zb110 := Nat.lt_of_lt_of_le zb110 hle.size
  replace zb111 := Nat.lt_of_lt_of_le zb111 hle.size
  replace zb112 := Nat.lt_of_lt_of_le zb112 hle.size
  clear hle
  have hqq0 : decide ((1 : Int) + 3 * ((poX t p).length : Int) < 0) = false := decide_eq_false (by omega)
  go_wp2_with fail
  refine (toTree_any At nt ct t _ (ht.le L0) (by omega)).mono ?_
  rintro e w24 ⟨ght, rfl, hght, Oht, hle⟩
  have s24 := hle.size
  replace cat := (hle.cell zat).trans cat
  replace cb010 := (hle.cell zb010).trans cb010
  replace cb011 := (hle.cell zb011).trans cb011
  replace cb012 := (hle.cell zb012).trans cb012
  replace cb110 := (hle.cell zb110).trans cb110
  replace cb111 := (hle.cell zb111).trans cb111
  replace cb112 := (hle.cell zb112).trans cb112
  replace zat := Nat.lt_of_lt_of_le zat hle.size
  replace L0 := L0.trans hle
  replace S00 := S00.le hle
  replace zb010 := Nat.lt_of_lt_of_le zb010 hle.size
  replace zb011 := Nat.lt_of_lt_of_le zb011 hle.size
  replace zb012 := Nat.lt_of_lt_of_le zb012 hle.size
  replace O10 := own_le O10 hle
  replace zb110 := Nat.lt_of_lt_of_le zb110 hle.size
  replace zb111 := Nat.lt_of_lt_of_le zb111 hle.size
  replace zb112 := Nat.lt_of_lt_of_le zb112 hle.size
  clear hle
  have hbht := own_lt Oht
  go_wp2_with fail
  refine (toExitS_any Ap np cp p _ (hp.le L0) (by omega)).mono ?_
  rintro e w25 ⟨rfl, Ohp, hle⟩
  have s25 := hle.size
  replace cat := (hle.cell zat).trans cat
  replace cb010 := (hle.cell zb010).trans cb010
  replace cb011 := (hle.cell zb011).trans cb011
  replace cb012 := (hle.cell zb012).trans cb012
  replace cb110 := (hle.cell zb110).trans cb110
  replace cb111 := (hle.cell zb111).trans cb111
  replace cb112 := (hle.cell zb112).trans cb112
  replace zat := Nat.lt_of_lt_of_le zat hle.size
  replace L0 := L0.trans hle
  replace S00 := S00.le hle
  replace zb010 := Nat.lt_of_lt_of_le zb010 hle.size
  replace zb011 := Nat.lt_of_lt_of_le zb011 hle.size
  replace zb012 := Nat.lt_of_lt_of_le zb012 hle.size
  replace O10 := own_le O10 hle
  replace zb110 := Nat.lt_of_lt_of_le zb110 hle.size
  replace zb111 := Nat.lt_of_lt_of_le zb111 hle.size
  replace zb112 := Nat.lt_of_lt_of_le zb112 hle.size
  replace Oht := own_le Oht hle
  clear hle
  have hbhp := own_lt Ohp
  go_wp2_with fail
  refine (iPopExit_any _ _ _ _ _ _ t p (by omega) _ (Sl.of_own Oht rfl (by decide) hokt) (Sl.of_own Ohp rfl (by decide) hokp)).mono ?_
  rintro e w26 ⟨v20, rfl, D20, hle⟩
  have s26 := hle.size
  replace cat := (hle.cell zat).trans cat
  replace cb010 := (hle.cell zb010).trans cb010
  replace cb011 := (hle.cell zb011).trans cb011
  replace cb012 := (hle.cell zb012).trans cb012
  replace cb110 := (hle.cell zb110).trans cb110
  replace cb111 := (hle.cell zb111).trans cb111
  replace cb112 := (hle.cell zb112).trans cb112
  replace zat := Nat.lt_of_lt_of_le zat hle.size
  replace L0 := L0.trans hle
  replace S00 := S00.le hle
  replace zb010 := Nat.lt_of_lt_of_le zb010 hle.size
  replace zb011 := Nat.lt_of_lt_of_le zb011 hle.size
  replace zb012 := Nat.lt_of_lt_of_le zb012 hle.size
  replace O10 := own_le O10 hle
  replace zb110 := Nat.lt_of_lt_of_le zb110 hle.size
  replace zb111 := Nat.lt_of_lt_of_le zb111 hle.size
  replace zb112 := Nat.lt_of_lt_of_le zb112 hle.size
  replace Oht := own_le Oht hle
  replace Ohp := own_le Ohp hle
  clear hle
  obtain ⟨A20, q20, rfl, S20, hB20⟩ := D20.form (by decide)
  have HB20 := Lib.hid hB20; clear hB20
  have okL20 := D20.ok
  have O20 := D20.row; clear S20
  clear D20
  clear Oht
  clear Ohp
  go_wp2_with fail
  obtain ⟨cb210, cb211, cb212, zb210, hleB⟩ := boxT w26 (.int .i64 (poE t p).kind) (.int .i64 (poE t p).a) (.int .i64 (poE t p).b) 42
  have zb211 := zb210
  have zb212 := zb210
  replace cat := (hleB.cell zat).trans cat
  replace cb010 := (hleB.cell zb010).trans cb010
  replace cb011 := (hleB.cell zb011).trans cb011
  replace cb012 := (hleB.cell zb012).trans cb012
  replace cb110 := (hleB.cell zb110).trans cb110
  replace cb111 := (hleB.cell zb111).trans cb111
  replace cb112 := (hleB.cell zb112).trans cb112
  replace zat := Nat.lt_of_lt_of_le zat hleB.size
  replace L0 := L0.trans hleB
  replace S00 := S00.le hleB
  replace zb010 := Nat.lt_of_lt_of_le zb010 hleB.size
  replace zb011 := Nat.lt_of_lt_of_le zb011 hleB.size
  replace zb012 := Nat.lt_of_lt_of_le zb012 hleB.size
  replace O10 := own_le O10 hleB
  replace zb110 := Nat.lt_of_lt_of_le zb110 hleB.size
  replace zb111 := Nat.lt_of_lt_of_le zb111 hleB.size
  replace zb112 := Nat.lt_of_lt_of_le zb112 hleB.size
  replace O20 := own_le O20 hleB
  clear hleB
  generalize w26.alloc (.cells #[.int .i64 (poE t p).kind, .int .i64 (poE t p).a, .int .i64 (poE t p).b] 42) = w27 at *
  have s27 := zb210
  refine (eqExitS_self _ _ _ _ _ (poX t p) _ (Sl.of_own O20 rfl (by decide) okL20) S00).mono ?_
  rintro e w28 ⟨rfl, hle⟩
  have s28 := hle.size
  replace cat := (hle.cell zat).trans cat
  replace cb010 := (hle.cell zb010).trans cb010
  replace cb011 := (hle.cell zb011).trans cb011
  replace cb012 := (hle.cell zb012).trans cb012
  replace cb110 := (hle.cell zb110).trans cb110
  replace cb111 := (hle.cell zb111).trans cb111
  replace cb112 := (hle.cell zb112).trans cb112
  replace cb210 := (hle.cell zb210).trans cb210
  replace cb211 := (hle.cell zb211).trans cb211
  replace cb212 := (hle.cell zb212).trans cb212
  replace zat := Nat.lt_of_lt_of_le zat hle.size
  replace L0 := L0.trans hle
  replace S00 := S00.le hle
  replace zb010 := Nat.lt_of_lt_of_le zb010 hle.size
  replace zb011 := Nat.lt_of_lt_of_le zb011 hle.size
  replace zb012 := Nat.lt_of_lt_of_le zb012 hle.size
  replace O10 := own_le O10 hle
  replace zb110 := Nat.lt_of_lt_of_le zb110 hle.size
  replace zb111 := Nat.lt_of_lt_of_le zb111 hle.size
  replace zb112 := Nat.lt_of_lt_of_le zb112 hle.size
  replace O20 := own_le O20 hle
  replace zb210 := Nat.lt_of_lt_of_le zb210 hle.size
  replace zb211 := Nat.lt_of_lt_of_le zb211 hle.size
  replace zb212 := Nat.lt_of_lt_of_le zb212 hle.size
  clear hle
  go_wp2_with fail
  refine (eqExit_self (poE t p) _).mono ?_
  rintro e w29 ⟨rfl, hle⟩
  have s29 := hle.size
  replace cat := (hle.cell zat).trans cat
  replace cb010 := (hle.cell zb010).trans cb010
  replace cb011 := (hle.cell zb011).trans cb011
  replace cb012 := (hle.cell zb012).trans cb012
  replace cb110 := (hle.cell zb110).trans cb110
  replace cb111 := (hle.cell zb111).trans cb111
  replace cb112 := (hle.cell zb112).trans cb112
  replace cb210 := (hle.cell zb210).trans cb210
  replace cb211 := (hle.cell zb211).trans cb211
  replace cb212 := (hle.cell zb212).trans cb212
  replace zat := Nat.lt_of_lt_of_le zat hle.size
  replace L0 := L0.trans hle
  replace S00 := S00.le hle
  replace zb010 := Nat.lt_of_lt_of_le zb010 hle.size
  replace zb011 := Nat.lt_of_lt_of_le zb011 hle.size
  replace zb012 := Nat.lt_of_lt_of_le zb012 hle.size
  replace O10 := own_le O10 hle
  replace zb110 := Nat.lt_of_lt_of_le zb110 hle.size
  replace zb111 := Nat.lt_of_lt_of_le zb111 hle.size
  replace zb112 := Nat.lt_of_lt_of_le zb112 hle.size
  replace O20 := own_le O20 hle
  replace zb210 := Nat.lt_of_lt_of_le zb210 hle.size
  replace zb211 := Nat.lt_of_lt_of_le zb211 hle.size
  replace zb212 := Nat.lt_of_lt_of_le zb212 hle.size
  clear hle
  clear O20
  go_wp2_with fail
  refine (heldExitS_any _ _ _ _ _ (Sl.of_own O10 rfl (by decide) (mXit_ok (by omega) (by omega) HL0)) (by omega) (by omega) HL0).mono ?_
  rintro e w30 ⟨rfl, hle⟩
  have s30 := hle.size
  replace cat := (hle.cell zat).trans cat
  replace cb010 := (hle.cell zb010).trans cb010
  replace cb011 := (hle.cell zb011).trans cb011
  replace cb012 := (hle.cell zb012).trans cb012
  replace cb110 := (hle.cell zb110).trans cb110
  replace cb111 := (hle.cell zb111).trans cb111
  replace cb112 := (hle.cell zb112).trans cb112
  replace cb210 := (hle.cell zb210).trans cb210
  replace cb211 := (hle.cell zb211).trans cb211
  replace cb212 := (hle.cell zb212).trans cb212
  replace zat := Nat.lt_of_lt_of_le zat hle.size
  replace L0 := L0.trans hle
  replace S00 := S00.le hle
  replace zb010 := Nat.lt_of_lt_of_le zb010 hle.size
  replace zb011 := Nat.lt_of_lt_of_le zb011 hle.size
  replace zb012 := Nat.lt_of_lt_of_le zb012 hle.size
  replace O10 := own_le O10 hle
  replace zb110 := Nat.lt_of_lt_of_le zb110 hle.size
  replace zb111 := Nat.lt_of_lt_of_le zb111 hle.size
  replace zb112 := Nat.lt_of_lt_of_le zb112 hle.size
  replace zb210 := Nat.lt_of_lt_of_le zb210 hle.size
  replace zb211 := Nat.lt_of_lt_of_le zb211 hle.size
  replace zb212 := Nat.lt_of_lt_of_le zb212 hle.size
  clear hle
  go_wp2
  go_ret
  exact ⟨rfl, L0⟩
end Go.Proofs.Ytcnfnmhiffmafaa
