import Derived.Test.YtngepnecgoeicaaDoorTlClass
import Derived.Test.YtngepnecgoeicaaDoorTlFault
import Derived.Test.YtngepnecgoeicaaDoorTlInt
import Derived.Test.YtngepnecgoeicaaDoorDc
namespace Go.Proofs.YtngepnecgoeicaaDoor
open Go.RowKit

set_option maxHeartbeats 16000000 in
set_option maxRecDepth 100000 in
theorem exShownChain_walk (At : Option Addr) (nt ct : Nat) (t : List Cls) (Ah : Option Addr) (nh ch : Nat) (h : List Flt) (f : Int) (w : World) (ht : Sl w At nt ct t) (hh : Sl w Ah nh ch h) (hf : -9223372036854775808 ≤ f ∧ f ≤ 9223372036854775807) (hG : GotErr w) :
    Calls Tryd.prog 4 #[.agg #[.slice At nt ct], .agg #[.slice Ah nh ch], .int .i64 f] w fun e w' => e = .returned (.bool true) ∧ Le w w' := by
  have hokt := ht.ok
  have hmxt := ht.n_le
  have hokh := hh.ok
  have hmxh := hh.n_le
  have HL0 : (shX t h f).length ≤ 1048576 := shX_len t h f
  go_enter Tryd.func4, Tryd.ntmps4
  go_wp2_with fail
  obtain ⟨cat, zat, cah, zah, L0⟩ := box2 w (.slice At nt ct) (.slice Ah nh ch) 24 27
  have s0 : w.heap.size ≤ ((w.alloc (.cells #[.slice At nt ct] 24)).alloc (.cells #[.slice Ah nh ch] 27)).heap.size := L0.size
  have sz0 := zah
  generalize (w.alloc (.cells #[.slice At nt ct] 24)).alloc (.cells #[.slice Ah nh ch] 27) = W at *
  refine (szTree_any At nt ct t _ _ (ht.le L0) (by omega) (by omega)).mono ?_
  rintro e w1 ⟨rt, rfl, hr, hle⟩
  have s1 := hle.size
  replace cat := (hle.cell zat).trans cat
  replace cah := (hle.cell zah).trans cah
  replace zat := Nat.lt_of_lt_of_le zat hle.size
  replace zah := Nat.lt_of_lt_of_le zah hle.size
  replace L0 := L0.trans hle
  clear hle
  rcases hr with rfl | ⟨ht0, ht1, ht2⟩
  · go_wp2
    go_ret
    exact ⟨rfl, L0⟩
  have hnegt : decide (rt < 0) = false := decide_eq_false (by omega)
  go_wp2_with fail
  refine (szHeap_any Ah nh ch h _ _ (hh.le L0) (by omega) (by omega)).mono ?_
  rintro e w2 ⟨rh, rfl, hr, hle⟩
  have s2 := hle.size
  replace cat := (hle.cell zat).trans cat
  replace cah := (hle.cell zah).trans cah
  replace zat := Nat.lt_of_lt_of_le zat hle.size
  replace zah := Nat.lt_of_lt_of_le zah hle.size
  replace L0 := L0.trans hle
  clear hle
  rcases hr with rfl | ⟨hh0, hh1, hh2⟩
  · go_wp2
    go_ret
    exact ⟨rfl, L0⟩
  have hnegh : decide (rh < 0) = false := decide_eq_false (by omega)
  go_wp2_with fail
  replace L0 := L0.drew
  go_region_held3 (fun w' => w'.cell? ⟨w.heap.size, 0, none⟩ = some (.slice At nt ct) ∧ w'.cell? ⟨w.heap.size + 1, 0, none⟩ = some (.slice Ah nh ch))
    (first | exact ⟨cat, cah⟩)
    (first
    | (go_at_call 11; refine (toTree_any At nt ct t _ (ht.le L0) (by omega)).mono ?_; rintro e w3 ⟨gat, rfl, hgat, Oat, hle⟩; have s3 : w2.heap.size ≤ w3.heap.size := hle.size; replace cat := (hle.cell zat).trans cat; replace cah := (hle.cell zah).trans cah; replace zat := Nat.lt_of_lt_of_le zat hle.size; replace zah := Nat.lt_of_lt_of_le zah hle.size; replace L0 := L0.trans hle; clear hle; have hbat := own_lt Oat)
    | (go_at_call 12; refine (toHeap_any Ah nh ch h _ (hh.le L0) (by omega)).mono ?_; rintro e w4 ⟨gah, rfl, hgah, Oah, hle⟩; have s4 : w3.heap.size ≤ w4.heap.size := hle.size; replace cat := (hle.cell zat).trans cat; replace cah := (hle.cell zah).trans cah; replace zat := Nat.lt_of_lt_of_le zat hle.size; replace zah := Nat.lt_of_lt_of_le zah hle.size; replace L0 := L0.trans hle; replace Oat := own_le Oat hle; clear hle; have hbah := own_lt Oah)
    | (go_at_call 19; refine (sShownChain_any _ _ _ _ _ _ t h f _ (Sl.of_own Oat rfl (by decide) hokt) (Sl.of_own Oah rfl (by decide) hokh) (by omega)).mono ?_; rintro e w5 ⟨v00, rfl, D00, hle⟩; have s5 : w4.heap.size ≤ w5.heap.size := hle.size; replace cat := (hle.cell zat).trans cat; replace cah := (hle.cell zah).trans cah; replace zat := Nat.lt_of_lt_of_le zat hle.size; replace zah := Nat.lt_of_lt_of_le zah hle.size; replace L0 := L0.trans hle; replace Oat := own_le Oat hle; replace Oah := own_le Oah hle; clear hle))
  obtain ⟨A00, q00, rfl, S00, hB00⟩ := D00.form (by decide)
  have HB00 := Lib.hid hB00; clear hB00
  have okL00 := D00.ok
  have HU00 := Lib.hid (S00.under)
  clear D00
  clear Oat Oah
  go_wp2_with fail
  refine (toTree_any At nt ct t _ (ht.le L0) (by omega)).mono ?_
  rintro e w6 ⟨gxt, rfl, hgxt, Oxt, hle⟩
  have s6 := hle.size
  replace cat := (hle.cell zat).trans cat
  replace cah := (hle.cell zah).trans cah
  replace zat := Nat.lt_of_lt_of_le zat hle.size
  replace zah := Nat.lt_of_lt_of_le zah hle.size
  replace L0 := L0.trans hle
  replace S00 := S00.le hle
  clear hle
  have hbxt := own_lt Oxt
  go_wp2_with fail
  obtain ⟨cxt, zxt, hleB⟩ := box1 w6 (.slice (some ⟨gxt, 0, none⟩) nt nt) 37
  replace cat := (hleB.cell zat).trans cat
  replace cah := (hleB.cell zah).trans cah
  replace zat := Nat.lt_of_lt_of_le zat hleB.size
  replace zah := Nat.lt_of_lt_of_le zah hleB.size
  replace L0 := L0.trans hleB
  replace S00 := S00.le hleB
  replace Oxt := own_le Oxt hleB
  clear hleB
  generalize w6.alloc (.cells #[.slice (some ⟨gxt, 0, none⟩) nt nt] 37) = w7 at *
  have s7 := zxt
  refine (toHeap_any Ah nh ch h _ (hh.le L0) (by omega)).mono ?_
  rintro e w8 ⟨gxh, rfl, hgxh, Oxh, hle⟩
  have s8 := hle.size
  replace cat := (hle.cell zat).trans cat
  replace cah := (hle.cell zah).trans cah
  replace cxt := (hle.cell zxt).trans cxt
  replace zat := Nat.lt_of_lt_of_le zat hle.size
  replace zah := Nat.lt_of_lt_of_le zah hle.size
  replace L0 := L0.trans hle
  replace S00 := S00.le hle
  replace Oxt := own_le Oxt hle
  replace zxt := Nat.lt_of_lt_of_le zxt hle.size
  clear hle
  have hbxh := own_lt Oxh
  go_wp2_with fail
  obtain ⟨cxh, zxh, hleB⟩ := box1 w8 (.slice (some ⟨gxh, 0, none⟩) nh nh) 32
  replace cat := (hleB.cell zat).trans cat
  replace cah := (hleB.cell zah).trans cah
  replace cxt := (hleB.cell zxt).trans cxt
  replace zat := Nat.lt_of_lt_of_le zat hleB.size
  replace zah := Nat.lt_of_lt_of_le zah hleB.size
  replace L0 := L0.trans hleB
  replace S00 := S00.le hleB
  replace Oxt := own_le Oxt hleB
  replace zxt := Nat.lt_of_lt_of_le zxt hleB.size
  replace Oxh := own_le Oxh hleB
  clear hleB
  generalize w8.alloc (.cells #[.slice (some ⟨gxh, 0, none⟩) nh nh] 32) = w9 at *
  have s9 := zxh
  refine (iShownChain_any _ _ _ _ _ _ t h f _ (Sl.of_own Oxt rfl (by decide) hokt) (Sl.of_own Oxh rfl (by decide) hokh) (by omega) (hG.le L0)).mono ?_
  rintro e w10 ⟨v10, rfl, D10, hle⟩
  have s10 := hle.size
  replace cat := (hle.cell zat).trans cat
  replace cah := (hle.cell zah).trans cah
  replace cxt := (hle.cell zxt).trans cxt
  replace cxh := (hle.cell zxh).trans cxh
  replace zat := Nat.lt_of_lt_of_le zat hle.size
  replace zah := Nat.lt_of_lt_of_le zah hle.size
  replace L0 := L0.trans hle
  replace S00 := S00.le hle
  replace Oxt := own_le Oxt hle
  replace zxt := Nat.lt_of_lt_of_le zxt hle.size
  replace Oxh := own_le Oxh hle
  replace zxh := Nat.lt_of_lt_of_le zxh hle.size
  clear hle
  obtain ⟨A10, q10, rfl, S10, hB10⟩ := D10.form (by decide)
  have HB10 := Lib.hid hB10; clear hB10
  have okL10 := D10.ok
  have O10 := D10.row; clear S10
  clear D10
  go_wp2_with fail
  refine (eqIntS_self _ _ _ _ _ (shX t h f) _ (Sl.of_own O10 rfl (by decide) okL10) S00).mono ?_
  rintro e w11 ⟨rfl, hle⟩
  have s11 := hle.size
  replace cat := (hle.cell zat).trans cat
  replace cah := (hle.cell zah).trans cah
  replace cxt := (hle.cell zxt).trans cxt
  replace cxh := (hle.cell zxh).trans cxh
  replace zat := Nat.lt_of_lt_of_le zat hle.size
  replace zah := Nat.lt_of_lt_of_le zah hle.size
  replace L0 := L0.trans hle
  replace S00 := S00.le hle
  replace Oxt := own_le Oxt hle
  replace zxt := Nat.lt_of_lt_of_le zxt hle.size
  replace Oxh := own_le Oxh hle
  replace zxh := Nat.lt_of_lt_of_le zxh hle.size
  replace O10 := own_le O10 hle
  clear hle
  go_wp2_with fail
  replace L0 := L0.drew
  replace S00 := S00.le (Le.refl _).drew
  replace Oxt := Oxt.drew
  replace Oxh := Oxh.drew
  replace O10 := O10.drew
  go_region_held3 (fun w' => w'.cell? ⟨w.heap.size, 0, none⟩ = some (.slice At nt ct) ∧ w'.cell? ⟨w6.heap.size, 0, none⟩ = some (.slice (some ⟨gxt, 0, none⟩) nt nt))
    (first | exact ⟨cat, cxt⟩)
    (first
    | (go_at_call 11; refine (toTree_any At nt ct t _ (ht.le L0) (by omega)).mono ?_; rintro e w12 ⟨gy, rfl, hgy, Oy, hle⟩; have s12 : w11.heap.size ≤ w12.heap.size := hle.size; replace cat := (hle.cell zat).trans cat; replace cah := (hle.cell zah).trans cah; replace cxt := (hle.cell zxt).trans cxt; replace cxh := (hle.cell zxh).trans cxh; replace zat := Nat.lt_of_lt_of_le zat hle.size; replace zah := Nat.lt_of_lt_of_le zah hle.size; replace L0 := L0.trans hle; replace S00 := S00.le hle; replace Oxt := own_le Oxt hle; replace zxt := Nat.lt_of_lt_of_le zxt hle.size; replace Oxh := own_le Oxh hle; replace zxh := Nat.lt_of_lt_of_le zxh hle.size; replace O10 := own_le O10 hle; clear hle; have Sy := Sl.of_own Oy rfl (by decide) hokt; clear Oy)
    | (go_at_call 15; refine (eqTree_self _ _ _ _ _ t _ (Sl.of_own Oxt rfl (by decide) hokt) Sy).mono ?_; rintro e w13 ⟨rfl, hle⟩; have s13 := hle.size; replace cat := (hle.cell zat).trans cat; replace cah := (hle.cell zah).trans cah; replace cxt := (hle.cell zxt).trans cxt; replace cxh := (hle.cell zxh).trans cxh; replace zat := Nat.lt_of_lt_of_le zat hle.size; replace zah := Nat.lt_of_lt_of_le zah hle.size; replace L0 := L0.trans hle; replace S00 := S00.le hle; replace Oxt := own_le Oxt hle; replace zxt := Nat.lt_of_lt_of_le zxt hle.size; replace Oxh := own_le Oxh hle; replace zxh := Nat.lt_of_lt_of_le zxh hle.size; replace O10 := own_le O10 hle; clear hle Sy))
  go_wp2_with fail
  replace L0 := L0.drew
  replace S00 := S00.le (Le.refl _).drew
  replace Oxt := Oxt.drew
  replace Oxh := Oxh.drew
  replace O10 := O10.drew
  go_region_held3 (fun w' => w'.cell? ⟨w.heap.size + 1, 0, none⟩ = some (.slice Ah nh ch) ∧ w'.cell? ⟨w8.heap.size, 0, none⟩ = some (.slice (some ⟨gxh, 0, none⟩) nh nh))
    (first | exact ⟨cah, cxh⟩)
    (first
    | (go_at_call 12; refine (toHeap_any Ah nh ch h _ (hh.le L0) (by omega)).mono ?_; rintro e w14 ⟨gy, rfl, hgy, Oy, hle⟩; have s14 : w13.heap.size ≤ w14.heap.size := hle.size; replace cat := (hle.cell zat).trans cat; replace cah := (hle.cell zah).trans cah; replace cxt := (hle.cell zxt).trans cxt; replace cxh := (hle.cell zxh).trans cxh; replace zat := Nat.lt_of_lt_of_le zat hle.size; replace zah := Nat.lt_of_lt_of_le zah hle.size; replace L0 := L0.trans hle; replace S00 := S00.le hle; replace Oxt := own_le Oxt hle; replace zxt := Nat.lt_of_lt_of_le zxt hle.size; replace Oxh := own_le Oxh hle; replace zxh := Nat.lt_of_lt_of_le zxh hle.size; replace O10 := own_le O10 hle; clear hle; have Sy := Sl.of_own Oy rfl (by decide) hokh; clear Oy)
    | (go_at_call 14; refine (eqHeap_self _ _ _ _ _ h _ (Sl.of_own Oxh rfl (by decide) hokh) Sy).mono ?_; rintro e w15 ⟨rfl, hle⟩; have s15 := hle.size; replace cat := (hle.cell zat).trans cat; replace cah := (hle.cell zah).trans cah; replace cxt := (hle.cell zxt).trans cxt; replace cxh := (hle.cell zxh).trans cxh; replace zat := Nat.lt_of_lt_of_le zat hle.size; replace zah := Nat.lt_of_lt_of_le zah hle.size; replace L0 := L0.trans hle; replace S00 := S00.le hle; replace Oxt := own_le Oxt hle; replace zxt := Nat.lt_of_lt_of_le zxt hle.size; replace Oxh := own_le Oxh hle; replace zxh := Nat.lt_of_lt_of_le zxh hle.size; replace O10 := own_le O10 hle; clear hle Sy))
  go_wp2_with fail
  refine (markTree_any _ _ _ _ _ _ _ Oxt (by omega) (by omega) (by omega)).mono ?_
  rintro e w16 ⟨rfl, _, hg⟩
  have s16 := hg.size
  replace cat := hg.cell (a := ⟨w.heap.size, 0, none⟩) cat (fun e => by have e1 : w.heap.size = gxt := (by injection e); omega)
  replace zat := Nat.lt_of_lt_of_le zat hg.size
  replace cah := hg.cell (a := ⟨w.heap.size + 1, 0, none⟩) cah (fun e => by have e1 : w.heap.size + 1 = gxt := (by injection e); omega)
  replace zah := Nat.lt_of_lt_of_le zah hg.size
  replace L0 := L0.grown hg (fun k hk => by have e1 : gxt = k := (by injection hk); omega)
  replace S00 := S00.grown hg (fun hn a e h => by have h1 := HU00.out hn a e; have h2 : a.block = gxt := (by injection h); omega)
  replace cxt := hg.cell (a := ⟨w6.heap.size, 0, none⟩) cxt (fun e => by have e1 : w6.heap.size = gxt := (by injection e); omega)
  replace zxt := Nat.lt_of_lt_of_le zxt hg.size
  replace Oxh := Oxh.kept hg (.inr (fun e => by have e1 : gxh = gxt := (by injection e); omega))
  replace cxh := hg.cell (a := ⟨w8.heap.size, 0, none⟩) cxh (fun e => by have e1 : w8.heap.size = gxt := (by injection e); omega)
  replace zxh := Nat.lt_of_lt_of_le zxh hg.size
  replace O10 := O10.kept hg (.inr (fun e => by have e1 : w9.heap.size ≤ gxt ∧ gxt < w10.heap.size := HB10.out _ e; omega))
  clear hg Oxt
  clear cxt zxt
  go_wp2_with fail
  refine (markHeap_any _ _ _ _ _ _ _ Oxh (by omega) (by omega) (by omega)).mono ?_
  rintro e w17 ⟨rfl, _, hg⟩
  have s17 := hg.size
  replace cat := hg.cell (a := ⟨w.heap.size, 0, none⟩) cat (fun e => by have e1 : w.heap.size = gxh := (by injection e); omega)
  replace zat := Nat.lt_of_lt_of_le zat hg.size
  replace cah := hg.cell (a := ⟨w.heap.size + 1, 0, none⟩) cah (fun e => by have e1 : w.heap.size + 1 = gxh := (by injection e); omega)
  replace zah := Nat.lt_of_lt_of_le zah hg.size
  replace L0 := L0.grown hg (fun k hk => by have e1 : gxh = k := (by injection hk); omega)
  replace S00 := S00.grown hg (fun hn a e h => by have h1 := HU00.out hn a e; have h2 : a.block = gxh := (by injection h); omega)
  replace cxh := hg.cell (a := ⟨w8.heap.size, 0, none⟩) cxh (fun e => by have e1 : w8.heap.size = gxh := (by injection e); omega)
  replace zxh := Nat.lt_of_lt_of_le zxh hg.size
  replace O10 := O10.kept hg (.inr (fun e => by have e1 : w9.heap.size ≤ gxh ∧ gxh < w10.heap.size := HB10.out _ e; omega))
  clear hg Oxh
  clear cxh zxh
  have hkk : decide (1 + 2 * (nt : Int) + 5 * (nh : Int) < 0) = false := decide_eq_false (by omega)
  go_wp2_with fail
  refine (eqIntS_self _ _ _ _ _ (shX t h f) _ (Sl.of_own O10 rfl (by decide) okL10) S00).mono ?_
  rintro e w18 ⟨rfl, hle⟩
  have s18 := hle.size
  replace cat := (hle.cell zat).trans cat
  replace cah := (hle.cell zah).trans cah
  replace zat := Nat.lt_of_lt_of_le zat hle.size
  replace zah := Nat.lt_of_lt_of_le zah hle.size
  replace L0 := L0.trans hle
  replace S00 := S00.le hle
  replace O10 := own_le O10 hle
  clear hle
  go_wp2_with fail
  refine (markIntS_any _ _ _ _ _ _ _ O10 (by omega) (by omega) HL0).mono ?_
  rintro e w19 ⟨rfl, Om, hg⟩
  have s19 := hg.size
  replace cat := hg.cell (a := ⟨w.heap.size, 0, none⟩) cat (fun e => by have e1 : w9.heap.size ≤ w.heap.size ∧ w.heap.size < w10.heap.size := HB10.out _ e.symm; omega)
  replace zat := Nat.lt_of_lt_of_le zat hg.size
  replace cah := hg.cell (a := ⟨w.heap.size + 1, 0, none⟩) cah (fun e => by have e1 : w9.heap.size ≤ w.heap.size + 1 ∧ w.heap.size + 1 < w10.heap.size := HB10.out _ e.symm; omega)
  replace zah := Nat.lt_of_lt_of_le zah hg.size
  replace L0 := L0.grown hg (fun k hk => by have e1 : w9.heap.size ≤ k ∧ k < w10.heap.size := HB10.out k hk; omega)
  replace S00 := S00.grown hg (fun hn a e h => by have h1 := HU00.out hn a e; have h2 : w9.heap.size ≤ a.block ∧ a.block < w10.heap.size := HB10.out _ h.symm; omega)
  clear hg O10
  have O10 := Om; clear Om
  go_wp2_with fail
  refine (heldIntS_any _ _ _ _ _ (Sl.of_own O10 rfl (by decide) (mInt_ok (by omega) (by omega) HL0)) (by omega) (by omega) HL0).mono ?_
  rintro e w20 ⟨rfl, hle⟩
  have s20 := hle.size
  replace cat := (hle.cell zat).trans cat
  replace cah := (hle.cell zah).trans cah
  replace zat := Nat.lt_of_lt_of_le zat hle.size
  replace zah := Nat.lt_of_lt_of_le zah hle.size
  replace L0 := L0.trans hle
  replace S00 := S00.le hle
  replace O10 := own_le O10 hle
  clear hle
  have hqq0 : decide ((1 : Int) + ((shX t h f).length : Int) < 0) = false := decide_eq_false (by omega)
  go_wp2_with fail
  replace L0 := L0.drew
  replace S00 := S00.le (Le.refl _).drew
  replace O10 := O10.drew
  go_region_held3 (fun w' => w'.cell? ⟨w.heap.size, 0, none⟩ = some (.slice At nt ct) ∧ w'.cell? ⟨w.heap.size + 1, 0, none⟩ = some (.slice Ah nh ch))
    (first | exact ⟨cat, cah⟩)
    (first
    | (go_at_call 11; refine (toTree_any At nt ct t _ (ht.le L0) (by omega)).mono ?_; rintro e w21 ⟨ght, rfl, hght, Oht, hle⟩; have s21 : w20.heap.size ≤ w21.heap.size := hle.size; replace cat := (hle.cell zat).trans cat; replace cah := (hle.cell zah).trans cah; replace zat := Nat.lt_of_lt_of_le zat hle.size; replace zah := Nat.lt_of_lt_of_le zah hle.size; replace L0 := L0.trans hle; replace S00 := S00.le hle; replace O10 := own_le O10 hle; clear hle; have hbht := own_lt Oht)
    | (go_at_call 12; refine (toHeap_any Ah nh ch h _ (hh.le L0) (by omega)).mono ?_; rintro e w22 ⟨ghh, rfl, hghh, Ohh, hle⟩; have s22 : w21.heap.size ≤ w22.heap.size := hle.size; replace cat := (hle.cell zat).trans cat; replace cah := (hle.cell zah).trans cah; replace zat := Nat.lt_of_lt_of_le zat hle.size; replace zah := Nat.lt_of_lt_of_le zah hle.size; replace L0 := L0.trans hle; replace S00 := S00.le hle; replace O10 := own_le O10 hle; replace Oht := own_le Oht hle; clear hle; have hbhh := own_lt Ohh)
    | (go_at_call 20; refine (iShownChain_any _ _ _ _ _ _ t h f _ (Sl.of_own Oht rfl (by decide) hokt) (Sl.of_own Ohh rfl (by decide) hokh) (by omega) (hG.le L0)).mono ?_; rintro e w23 ⟨v20, rfl, D20, hle⟩; have s23 : w22.heap.size ≤ w23.heap.size := hle.size; replace cat := (hle.cell zat).trans cat; replace cah := (hle.cell zah).trans cah; replace zat := Nat.lt_of_lt_of_le zat hle.size; replace zah := Nat.lt_of_lt_of_le zah hle.size; replace L0 := L0.trans hle; replace S00 := S00.le hle; replace O10 := own_le O10 hle; replace Oht := own_le Oht hle; replace Ohh := own_le Ohh hle; clear hle))
  obtain ⟨A20, q20, rfl, S20, hB20⟩ := D20.form (by decide)
  have HB20 := Lib.hid hB20; clear hB20
  have okL20 := D20.ok
  have O20 := D20.row; clear S20
  clear D20
  clear Oht
  clear Ohh
  go_wp2_with fail
  refine (eqIntS_self _ _ _ _ _ (shX t h f) _ (Sl.of_own O20 rfl (by decide) okL20) S00).mono ?_
  rintro e w24 ⟨rfl, hle⟩
  have s24 := hle.size
  replace cat := (hle.cell zat).trans cat
  replace cah := (hle.cell zah).trans cah
  replace zat := Nat.lt_of_lt_of_le zat hle.size
  replace zah := Nat.lt_of_lt_of_le zah hle.size
  replace L0 := L0.trans hle
  replace S00 := S00.le hle
  replace O10 := own_le O10 hle
  replace O20 := own_le O20 hle
  clear hle
  clear O20
  go_wp2_with fail
  refine (heldIntS_any _ _ _ _ _ (Sl.of_own O10 rfl (by decide) (mInt_ok (by omega) (by omega) HL0)) (by omega) (by omega) HL0).mono ?_
  rintro e w25 ⟨rfl, hle⟩
  have s25 := hle.size
  replace cat := (hle.cell zat).trans cat
  replace cah := (hle.cell zah).trans cah
  replace zat := Nat.lt_of_lt_of_le zat hle.size
  replace zah := Nat.lt_of_lt_of_le zah hle.size
  replace L0 := L0.trans hle
  replace S00 := S00.le hle
  replace O10 := own_le O10 hle
  clear hle
  go_wp2
  go_ret
  exact ⟨rfl, L0⟩
end Go.Proofs.YtngepnecgoeicaaDoor
