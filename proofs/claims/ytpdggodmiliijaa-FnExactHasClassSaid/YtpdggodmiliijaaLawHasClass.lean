import Derived.Test.YtpdggodmiliijaaTlClass
import Derived.Test.YtpdggodmiliijaaTlPart
import Derived.Test.YtpdggodmiliijaaItG
namespace Go.Proofs.Ytpdggodmiliijaa
open Go.RowKit

set_option maxHeartbeats 16000000 in
set_option maxRecDepth 100000 in
theorem exHasClass_walk (At : Option Addr) (nt ct : Nat) (t : List Cls) (Ag : Option Addr) (ng cg : Nat) (g : List Prt) (a : Int) (w : World) (ht : Sl w At nt ct t) (hg : Sl w Ag ng cg g) (_ha : -9223372036854775808 ≤ a ∧ a ≤ 9223372036854775807) :
    Calls Try.prog 4 #[.agg #[.slice At nt ct], .slice Ag ng cg, .int .i64 a] w fun e w' => e = .returned (.bool true) ∧ Le w w' := by
  have hokt := ht.ok
  have hmxt := ht.n_le
  have hokg := hg.ok
  have hmxg := hg.n_le
  go_enter Try.func4, Try.ntmps4
  go_wp2_with fail
  obtain ⟨cat, zat, L0⟩ := box1 w (.slice At nt ct) 24
  have s0 : w.heap.size ≤ (w.alloc (.cells #[.slice At nt ct] 24)).heap.size := L0.size
  have sz0 := zat
  generalize w.alloc (.cells #[.slice At nt ct] 24) = W at *
  refine (szTree_any At nt ct t _ _ (ht.le L0) (by omega) (by omega)).mono ?_
  rintro e w1 ⟨rt, rfl, hr, hle⟩
  have s1 := hle.size
  replace cat := (hle.cell zat).trans cat
  replace zat := Nat.lt_of_lt_of_le zat hle.size
  replace L0 := L0.trans hle
  clear hle
  rcases hr with rfl | ⟨ht0, ht1, ht2⟩
  · go_wp2
    go_ret
    exact ⟨rfl, L0⟩
  have hnegt : decide (rt < 0) = false := decide_eq_false (by omega)
  go_wp2_with fail
  refine (szPartS_any Ag ng cg g _ _ (hg.le L0) (by omega) (by omega)).mono ?_
  rintro e w2 ⟨rg, rfl, hr, hle⟩
  have s2 := hle.size
  replace cat := (hle.cell zat).trans cat
  replace zat := Nat.lt_of_lt_of_le zat hle.size
  replace L0 := L0.trans hle
  clear hle
  rcases hr with rfl | ⟨hg0, hg1, hg2⟩
  · go_wp2
    go_ret
    exact ⟨rfl, L0⟩
  have hnegg : decide (rg < 0) = false := decide_eq_false (by omega)
  go_wp2_with fail
  refine (toTree_any At nt ct t _ (ht.le L0) (by omega)).mono ?_
  rintro e w3 ⟨gat, rfl, hgat, Oat, hle⟩
  have s3 := hle.size
  replace cat := (hle.cell zat).trans cat
  replace zat := Nat.lt_of_lt_of_le zat hle.size
  replace L0 := L0.trans hle
  clear hle
  have hbat := own_lt Oat
  go_wp2_with fail
  refine (toPartS_any Ag ng cg g _ (hg.le L0) (by omega)).mono ?_
  rintro e w4 ⟨rfl, Oag, hle⟩
  have s4 := hle.size
  replace cat := (hle.cell zat).trans cat
  replace zat := Nat.lt_of_lt_of_le zat hle.size
  replace L0 := L0.trans hle
  replace Oat := own_le Oat hle
  clear hle
  have hbag := own_lt Oag
  go_wp2_with fail
  refine (sHasClass_any _ _ _ _ _ _ t g a _ (Sl.of_own Oat rfl (by decide) hokt) (Sl.of_own Oag rfl (by decide) hokg)).mono ?_
  rintro e w5 ⟨rfl, hle⟩
  have s5 := hle.size
  replace cat := (hle.cell zat).trans cat
  replace zat := Nat.lt_of_lt_of_le zat hle.size
  replace L0 := L0.trans hle
  replace Oat := own_le Oat hle
  replace Oag := own_le Oag hle
  clear hle
  clear Oat Oag
  go_wp2_with fail
  refine (toTree_any At nt ct t _ (ht.le L0) (by omega)).mono ?_
  rintro e w6 ⟨gxt, rfl, hgxt, Oxt, hle⟩
  have s6 := hle.size
  replace cat := (hle.cell zat).trans cat
  replace zat := Nat.lt_of_lt_of_le zat hle.size
  replace L0 := L0.trans hle
  clear hle
  have hbxt := own_lt Oxt
  go_wp2_with fail
  obtain ⟨cxt, zxt, hleB⟩ := box1 w6 (.slice (some ⟨gxt, 0, none⟩) nt nt) 32
  replace cat := (hleB.cell zat).trans cat
  replace zat := Nat.lt_of_lt_of_le zat hleB.size
  replace L0 := L0.trans hleB
  replace Oxt := own_le Oxt hleB
  clear hleB
  generalize w6.alloc (.cells #[.slice (some ⟨gxt, 0, none⟩) nt nt] 32) = w7 at *
  have s7 := zxt
  refine (toPartS_any Ag ng cg g _ (hg.le L0) (by omega)).mono ?_
  rintro e w8 ⟨rfl, Oxg, hle⟩
  have s8 := hle.size
  replace cat := (hle.cell zat).trans cat
  replace cxt := (hle.cell zxt).trans cxt
  replace zat := Nat.lt_of_lt_of_le zat hle.size
  replace L0 := L0.trans hle
  replace Oxt := own_le Oxt hle
  replace zxt := Nat.lt_of_lt_of_le zxt hle.size
  clear hle
  have hbxg := own_lt Oxg
  go_wp2_with fail
  refine (iHasClass_any _ _ _ _ _ _ t g a _ (Sl.of_own Oxt rfl (by decide) hokt) (Sl.of_own Oxg rfl (by decide) hokg)).mono ?_
  rintro e w9 ⟨rfl, hle⟩
  have s9 := hle.size
  replace cat := (hle.cell zat).trans cat
  replace cxt := (hle.cell zxt).trans cxt
  replace zat := Nat.lt_of_lt_of_le zat hle.size
  replace L0 := L0.trans hle
  replace Oxt := own_le Oxt hle
  replace zxt := Nat.lt_of_lt_of_le zxt hle.size
  replace Oxg := own_le Oxg hle
  clear hle
  go_wp2_with fail
  replace L0 := L0.drew
  replace Oxt := Oxt.drew
  replace Oxg := Oxg.drew
  go_region_held3 (fun w' => w'.cell? ⟨w.heap.size, 0, none⟩ = some (.slice At nt ct) ∧ w'.cell? ⟨w6.heap.size, 0, none⟩ = some (.slice (some ⟨gxt, 0, none⟩) nt nt))
    (first | exact ⟨cat, cxt⟩)
    (first
    | (go_at_call 14; refine (toTree_any At nt ct t _ (ht.le L0) (by omega)).mono ?_; rintro e w10 ⟨gy, rfl, hgy, Oy, hle⟩; have s10 : w9.heap.size ≤ w10.heap.size := hle.size; replace cat := (hle.cell zat).trans cat; replace cxt := (hle.cell zxt).trans cxt; replace zat := Nat.lt_of_lt_of_le zat hle.size; replace L0 := L0.trans hle; replace Oxt := own_le Oxt hle; replace zxt := Nat.lt_of_lt_of_le zxt hle.size; replace Oxg := own_le Oxg hle; clear hle; have Sy := Sl.of_own Oy rfl (by decide) hokt; clear Oy)
    | (go_at_call 18; refine (eqTree_self _ _ _ _ _ t _ (Sl.of_own Oxt rfl (by decide) hokt) Sy).mono ?_; rintro e w11 ⟨rfl, hle⟩; have s11 := hle.size; replace cat := (hle.cell zat).trans cat; replace cxt := (hle.cell zxt).trans cxt; replace zat := Nat.lt_of_lt_of_le zat hle.size; replace L0 := L0.trans hle; replace Oxt := own_le Oxt hle; replace zxt := Nat.lt_of_lt_of_le zxt hle.size; replace Oxg := own_le Oxg hle; clear hle Sy))
  go_wp2_with fail
  refine (toPartS_any Ag ng cg g _ (hg.le L0) (by omega)).mono ?_
  rintro e w12 ⟨rfl, Oy, hle⟩
  have s12 := hle.size
  replace cat := (hle.cell zat).trans cat
  replace cxt := (hle.cell zxt).trans cxt
  replace zat := Nat.lt_of_lt_of_le zat hle.size
  replace L0 := L0.trans hle
  replace Oxt := own_le Oxt hle
  replace zxt := Nat.lt_of_lt_of_le zxt hle.size
  replace Oxg := own_le Oxg hle
  clear hle
  have hby := own_lt Oy
  have Sy := Sl.of_own Oy rfl (by decide) hokg; clear Oy hby
  go_wp2_with fail
  refine (eqPartS_self _ _ _ _ _ g _ (Sl.of_own Oxg rfl (by decide) hokg) Sy).mono ?_
  rintro e w13 ⟨rfl, hle⟩
  have s13 := hle.size
  replace cat := (hle.cell zat).trans cat
  replace cxt := (hle.cell zxt).trans cxt
  replace zat := Nat.lt_of_lt_of_le zat hle.size
  replace L0 := L0.trans hle
  replace Oxt := own_le Oxt hle
  replace zxt := Nat.lt_of_lt_of_le zxt hle.size
  replace Oxg := own_le Oxg hle
  clear hle
  clear Sy
  go_wp2
  go_ret
  exact ⟨rfl, L0⟩
end Go.Proofs.Ytpdggodmiliijaa
