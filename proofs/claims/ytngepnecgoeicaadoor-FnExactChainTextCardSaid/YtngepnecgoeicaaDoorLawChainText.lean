import Derived.Test.YtngepnecgoeicaaDoorTlClass
import Derived.Test.YtngepnecgoeicaaDoorTlFault
import Derived.Test.YtngepnecgoeicaaDoorTx5
namespace Go.Proofs.YtngepnecgoeicaaDoor
open Go.RowKit

set_option maxHeartbeats 16000000 in
set_option maxRecDepth 100000 in
theorem exChainText_walk (At : Option Addr) (nt ct : Nat) (t : List Cls) (Ah : Option Addr) (nh ch : Nat) (h : List Flt) (f : Int) (w : World) (ht : Sl w At nt ct t) (hh : Sl w Ah nh ch h) (hf : -9223372036854775808 ≤ f ∧ f ≤ 9223372036854775807) (hG : GotErr w) :
    Calls Tryd.prog 7 #[.agg #[.slice At nt ct], .agg #[.slice Ah nh ch], .int .i64 f] w fun e w' => e = .returned (.bool true) ∧ Le w w' := by
  have hokt := ht.ok
  have hmxt := ht.n_le
  have hokh := hh.ok
  have hmxh := hh.n_le
  go_enter Tryd.func7, Tryd.ntmps7
  go_wp2_with fail
  obtain ⟨cat, zat, cah, zah, L0⟩ := box2 w (.slice At nt ct) (.slice Ah nh ch) 24 27
  have s0 : w.heap.size ≤ ((w.alloc (.cells #[.slice At nt ct] 24)).alloc (.cells #[.slice Ah nh ch] 27)).heap.size := L0.size
  have sz0 := zah
  generalize (w.alloc (.cells #[.slice At nt ct] 24)).alloc (.cells #[.slice Ah nh ch] 27) = W at *
  refine (szTree_any At nt ct t _ _ (ht.le L0) (by omega) (by omega)).mono ?_
  rintro e w1 ⟨rt, rfl, hr, hle⟩
  have s1 := hle.size
  replace cat := (hle.cell zat).trans cat
  replace cah := (hle.cell zah).trans cah
  replace zat := Nat.lt_of_lt_of_le zat hle.size
  replace zah := Nat.lt_of_lt_of_le zah hle.size
  replace L0 := L0.trans hle
  clear hle
  rcases hr with rfl | ⟨ht0, ht1, ht2⟩
  · go_wp2
    go_ret
    exact ⟨rfl, L0⟩
  have hnegt : decide (rt < 0) = false := decide_eq_false (by omega)
  go_wp2_with fail
  refine (szHeap_any Ah nh ch h _ _ (hh.le L0) (by omega) (by omega)).mono ?_
  rintro e w2 ⟨rh, rfl, hr, hle⟩
  have s2 := hle.size
  replace cat := (hle.cell zat).trans cat
  replace cah := (hle.cell zah).trans cah
  replace zat := Nat.lt_of_lt_of_le zat hle.size
  replace zah := Nat.lt_of_lt_of_le zah hle.size
  replace L0 := L0.trans hle
  clear hle
  rcases hr with rfl | ⟨hh0, hh1, hh2⟩
  · go_wp2
    go_ret
    exact ⟨rfl, L0⟩
  have hnegh : decide (rh < 0) = false := decide_eq_false (by omega)
  go_wp2_with fail
  replace L0 := L0.drew
  go_region_held3 (fun w' => w'.cell? ⟨w.heap.size, 0, none⟩ = some (.slice At nt ct) ∧ w'.cell? ⟨w.heap.size + 1, 0, none⟩ = some (.slice Ah nh ch))
    (first | exact ⟨cat, cah⟩)
    (first
    | (go_at_call 11; refine (toTree_any At nt ct t _ (ht.le L0) (by omega)).mono ?_; rintro e w3 ⟨gat, rfl, hgat, Oat, hle⟩; have s3 : w2.heap.size ≤ w3.heap.size := hle.size; replace cat := (hle.cell zat).trans cat; replace cah := (hle.cell zah).trans cah; replace zat := Nat.lt_of_lt_of_le zat hle.size; replace zah := Nat.lt_of_lt_of_le zah hle.size; replace L0 := L0.trans hle; clear hle; have hbat := own_lt Oat)
    | (go_at_call 12; refine (toHeap_any Ah nh ch h _ (hh.le L0) (by omega)).mono ?_; rintro e w4 ⟨gah, rfl, hgah, Oah, hle⟩; have s4 : w3.heap.size ≤ w4.heap.size := hle.size; replace cat := (hle.cell zat).trans cat; replace cah := (hle.cell zah).trans cah; replace zat := Nat.lt_of_lt_of_le zat hle.size; replace zah := Nat.lt_of_lt_of_le zah hle.size; replace L0 := L0.trans hle; replace Oat := own_le Oat hle; clear hle; have hbah := own_lt Oah)
    | (go_at_call 28; refine (sChainText_any _ _ _ _ _ _ t h f _ (Sl.of_own Oat rfl (by decide) hokt) (Sl.of_own Oah rfl (by decide) hokh) (by omega)).mono ?_; rintro e w5 ⟨rfl, hle⟩; have s5 : w4.heap.size ≤ w5.heap.size := hle.size; replace cat := (hle.cell zat).trans cat; replace cah := (hle.cell zah).trans cah; replace zat := Nat.lt_of_lt_of_le zat hle.size; replace zah := Nat.lt_of_lt_of_le zah hle.size; replace L0 := L0.trans hle; replace Oat := own_le Oat hle; replace Oah := own_le Oah hle; clear hle))
  clear Oat Oah
  go_wp2_with fail
  refine (toTree_any At nt ct t _ (ht.le L0) (by omega)).mono ?_
  rintro e w6 ⟨gxt, rfl, hgxt, Oxt, hle⟩
  have s6 := hle.size
  replace cat := (hle.cell zat).trans cat
  replace cah := (hle.cell zah).trans cah
  replace zat := Nat.lt_of_lt_of_le zat hle.size
  replace zah := Nat.lt_of_lt_of_le zah hle.size
  replace L0 := L0.trans hle
  clear hle
  have hbxt := own_lt Oxt
  go_wp2_with fail
  obtain ⟨cxt, zxt, hleB⟩ := box1 w6 (.slice (some ⟨gxt, 0, none⟩) nt nt) 37
  replace cat := (hleB.cell zat).trans cat
  replace cah := (hleB.cell zah).trans cah
  replace zat := Nat.lt_of_lt_of_le zat hleB.size
  replace zah := Nat.lt_of_lt_of_le zah hleB.size
  replace L0 := L0.trans hleB
  replace Oxt := own_le Oxt hleB
  clear hleB
  generalize w6.alloc (.cells #[.slice (some ⟨gxt, 0, none⟩) nt nt] 37) = w7 at *
  have s7 := zxt
  refine (toHeap_any Ah nh ch h _ (hh.le L0) (by omega)).mono ?_
  rintro e w8 ⟨gxh, rfl, hgxh, Oxh, hle⟩
  have s8 := hle.size
  replace cat := (hle.cell zat).trans cat
  replace cah := (hle.cell zah).trans cah
  replace cxt := (hle.cell zxt).trans cxt
  replace zat := Nat.lt_of_lt_of_le zat hle.size
  replace zah := Nat.lt_of_lt_of_le zah hle.size
  replace L0 := L0.trans hle
  replace Oxt := own_le Oxt hle
  replace zxt := Nat.lt_of_lt_of_le zxt hle.size
  clear hle
  have hbxh := own_lt Oxh
  go_wp2_with fail
  obtain ⟨cxh, zxh, hleB⟩ := box1 w8 (.slice (some ⟨gxh, 0, none⟩) nh nh) 32
  replace cat := (hleB.cell zat).trans cat
  replace cah := (hleB.cell zah).trans cah
  replace cxt := (hleB.cell zxt).trans cxt
  replace zat := Nat.lt_of_lt_of_le zat hleB.size
  replace zah := Nat.lt_of_lt_of_le zah hleB.size
  replace L0 := L0.trans hleB
  replace Oxt := own_le Oxt hleB
  replace zxt := Nat.lt_of_lt_of_le zxt hleB.size
  replace Oxh := own_le Oxh hleB
  clear hleB
  generalize w8.alloc (.cells #[.slice (some ⟨gxh, 0, none⟩) nh nh] 32) = w9 at *
  have s9 := zxh
  refine (iChainText_any _ _ _ _ _ _ t h f _ (Sl.of_own Oxt rfl (by decide) hokt) (Sl.of_own Oxh rfl (by decide) hokh) (by omega) (hG.le L0)).mono ?_
  rintro e w10 ⟨rfl, hle⟩
  have s10 := hle.size
  replace cat := (hle.cell zat).trans cat
  replace cah := (hle.cell zah).trans cah
  replace cxt := (hle.cell zxt).trans cxt
  replace cxh := (hle.cell zxh).trans cxh
  replace zat := Nat.lt_of_lt_of_le zat hle.size
  replace zah := Nat.lt_of_lt_of_le zah hle.size
  replace L0 := L0.trans hle
  replace Oxt := own_le Oxt hle
  replace zxt := Nat.lt_of_lt_of_le zxt hle.size
  replace Oxh := own_le Oxh hle
  replace zxh := Nat.lt_of_lt_of_le zxh hle.size
  clear hle
  go_wp2_with fail
  replace L0 := L0.drew
  replace Oxt := Oxt.drew
  replace Oxh := Oxh.drew
  go_region_held3 (fun w' => w'.cell? ⟨w.heap.size, 0, none⟩ = some (.slice At nt ct) ∧ w'.cell? ⟨w6.heap.size, 0, none⟩ = some (.slice (some ⟨gxt, 0, none⟩) nt nt))
    (first | exact ⟨cat, cxt⟩)
    (first
    | (go_at_call 11; refine (toTree_any At nt ct t _ (ht.le L0) (by omega)).mono ?_; rintro e w11 ⟨gy, rfl, hgy, Oy, hle⟩; have s11 : w10.heap.size ≤ w11.heap.size := hle.size; replace cat := (hle.cell zat).trans cat; replace cah := (hle.cell zah).trans cah; replace cxt := (hle.cell zxt).trans cxt; replace cxh := (hle.cell zxh).trans cxh; replace zat := Nat.lt_of_lt_of_le zat hle.size; replace zah := Nat.lt_of_lt_of_le zah hle.size; replace L0 := L0.trans hle; replace Oxt := own_le Oxt hle; replace zxt := Nat.lt_of_lt_of_le zxt hle.size; replace Oxh := own_le Oxh hle; replace zxh := Nat.lt_of_lt_of_le zxh hle.size; clear hle; have Sy := Sl.of_own Oy rfl (by decide) hokt; clear Oy)
    | (go_at_call 15; refine (eqTree_self _ _ _ _ _ t _ (Sl.of_own Oxt rfl (by decide) hokt) Sy).mono ?_; rintro e w12 ⟨rfl, hle⟩; have s12 := hle.size; replace cat := (hle.cell zat).trans cat; replace cah := (hle.cell zah).trans cah; replace cxt := (hle.cell zxt).trans cxt; replace cxh := (hle.cell zxh).trans cxh; replace zat := Nat.lt_of_lt_of_le zat hle.size; replace zah := Nat.lt_of_lt_of_le zah hle.size; replace L0 := L0.trans hle; replace Oxt := own_le Oxt hle; replace zxt := Nat.lt_of_lt_of_le zxt hle.size; replace Oxh := own_le Oxh hle; replace zxh := Nat.lt_of_lt_of_le zxh hle.size; clear hle Sy))
  go_wp2_with fail
  replace L0 := L0.drew
  replace Oxt := Oxt.drew
  replace Oxh := Oxh.drew
  go_region_held3 (fun w' => w'.cell? ⟨w.heap.size + 1, 0, none⟩ = some (.slice Ah nh ch) ∧ w'.cell? ⟨w8.heap.size, 0, none⟩ = some (.slice (some ⟨gxh, 0, none⟩) nh nh))
    (first | exact ⟨cah, cxh⟩)
    (first
    | (go_at_call 12; refine (toHeap_any Ah nh ch h _ (hh.le L0) (by omega)).mono ?_; rintro e w13 ⟨gy, rfl, hgy, Oy, hle⟩; have s13 : w12.heap.size ≤ w13.heap.size := hle.size; replace cat := (hle.cell zat).trans cat; replace cah := (hle.cell zah).trans cah; replace cxt := (hle.cell zxt).trans cxt; replace cxh := (hle.cell zxh).trans cxh; replace zat := Nat.lt_of_lt_of_le zat hle.size; replace zah := Nat.lt_of_lt_of_le zah hle.size; replace L0 := L0.trans hle; replace Oxt := own_le Oxt hle; replace zxt := Nat.lt_of_lt_of_le zxt hle.size; replace Oxh := own_le Oxh hle; replace zxh := Nat.lt_of_lt_of_le zxh hle.size; clear hle; have Sy := Sl.of_own Oy rfl (by decide) hokh; clear Oy)
    | (go_at_call 14; refine (eqHeap_self _ _ _ _ _ h _ (Sl.of_own Oxh rfl (by decide) hokh) Sy).mono ?_; rintro e w14 ⟨rfl, hle⟩; have s14 := hle.size; replace cat := (hle.cell zat).trans cat; replace cah := (hle.cell zah).trans cah; replace cxt := (hle.cell zxt).trans cxt; replace cxh := (hle.cell zxh).trans cxh; replace zat := Nat.lt_of_lt_of_le zat hle.size; replace zah := Nat.lt_of_lt_of_le zah hle.size; replace L0 := L0.trans hle; replace Oxt := own_le Oxt hle; replace zxt := Nat.lt_of_lt_of_le zxt hle.size; replace Oxh := own_le Oxh hle; replace zxh := Nat.lt_of_lt_of_le zxh hle.size; clear hle Sy))
  go_wp2
  go_ret
  exact ⟨rfl, L0⟩
end Go.Proofs.YtngepnecgoeicaaDoor
