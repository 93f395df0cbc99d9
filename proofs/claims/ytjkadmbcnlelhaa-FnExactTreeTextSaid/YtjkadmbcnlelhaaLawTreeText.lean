import Derived.Test.YtjkadmbcnlelhaaTlClass
import Derived.Test.YtjkadmbcnlelhaaTtI
namespace Go.Proofs.Ytjkadmbcnlelhaa
open Go.RowKit

set_option maxHeartbeats 16000000 in
set_option maxRecDepth 100000 in
theorem exTreeText_walk (At : Option Addr) (nt ct : Nat) (t : List Cls) (w : World) (ht : Sl w At nt ct t) :
    Calls Try.prog 5 #[.agg #[.slice At nt ct]] w fun e w' => e = .returned (.bool true) ∧ Le w w' := by
  have hokt := ht.ok
  have hmxt := ht.n_le
  go_enter Try.func5, Try.ntmps5
  go_wp2_with fail
  obtain ⟨cat, zat, L0⟩ := box1 w (.slice At nt ct) 37
  have s0 : w.heap.size ≤ (w.alloc (.cells #[.slice At nt ct] 37)).heap.size := L0.size
  have sz0 := zat
  generalize w.alloc (.cells #[.slice At nt ct] 37) = W at *
  refine (szTree_any At nt ct t _ _ (ht.le L0) (by omega) (by omega)).mono ?_
  rintro e w1 ⟨rt, rfl, hr, hle⟩
  have s1 := hle.size
  replace cat := (hle.cell zat).trans cat
  replace zat := Nat.lt_of_lt_of_le zat hle.size
  replace L0 := L0.trans hle
  clear hle
  rcases hr with rfl | ⟨ht0, ht1, ht2⟩
  · go_wp2
    go_ret
    exact ⟨rfl, L0⟩
  have hnegt : decide (rt < 0) = false := decide_eq_false (by omega)
  go_wp2_with fail
  refine (toTree_any At nt ct t _ (ht.le L0) (by omega)).mono ?_
  rintro e w2 ⟨gat, rfl, hgat, Oat, hle⟩
  have s2 := hle.size
  replace cat := (hle.cell zat).trans cat
  replace zat := Nat.lt_of_lt_of_le zat hle.size
  replace L0 := L0.trans hle
  clear hle
  have hbat := own_lt Oat
  go_wp2_with fail
  refine (sTreeText_any _ _ _ t _ (Sl.of_own Oat rfl (by decide) hokt)).mono ?_
  rintro e w3 ⟨rfl, hle⟩
  have s3 := hle.size
  replace cat := (hle.cell zat).trans cat
  replace zat := Nat.lt_of_lt_of_le zat hle.size
  replace L0 := L0.trans hle
  replace Oat := own_le Oat hle
  clear hle
  clear Oat
  go_wp2_with fail
  refine (toTree_any At nt ct t _ (ht.le L0) (by omega)).mono ?_
  rintro e w4 ⟨gxt, rfl, hgxt, Oxt, hle⟩
  have s4 := hle.size
  replace cat := (hle.cell zat).trans cat
  replace zat := Nat.lt_of_lt_of_le zat hle.size
  replace L0 := L0.trans hle
  clear hle
  have hbxt := own_lt Oxt
  go_wp2_with fail
  obtain ⟨cxt, zxt, hleB⟩ := box1 w4 (.slice (some ⟨gxt, 0, none⟩) nt nt) 25
  replace cat := (hleB.cell zat).trans cat
  replace zat := Nat.lt_of_lt_of_le zat hleB.size
  replace L0 := L0.trans hleB
  replace Oxt := own_le Oxt hleB
  clear hleB
  generalize w4.alloc (.cells #[.slice (some ⟨gxt, 0, none⟩) nt nt] 25) = w5 at *
  have s5 := zxt
  refine (iTreeText_any _ _ _ t _ (Sl.of_own Oxt rfl (by decide) hokt)).mono ?_
  rintro e w6 ⟨rfl, hle⟩
  have s6 := hle.size
  replace cat := (hle.cell zat).trans cat
  replace cxt := (hle.cell zxt).trans cxt
  replace zat := Nat.lt_of_lt_of_le zat hle.size
  replace L0 := L0.trans hle
  replace Oxt := own_le Oxt hle
  replace zxt := Nat.lt_of_lt_of_le zxt hle.size
  clear hle
  go_wp2_with fail
  replace L0 := L0.drew
  replace Oxt := Oxt.drew
  go_region_held3 (fun w' => w'.cell? ⟨w.heap.size, 0, none⟩ = some (.slice At nt ct) ∧ w'.cell? ⟨w4.heap.size, 0, none⟩ = some (.slice (some ⟨gxt, 0, none⟩) nt nt))
    (first | exact ⟨cat, cxt⟩)
    (first
    | (go_at_call 17; refine (toTree_any At nt ct t _ (ht.le L0) (by omega)).mono ?_; rintro e w7 ⟨gy, rfl, hgy, Oy, hle⟩; have s7 : w6.heap.size ≤ w7.heap.size := hle.size; replace cat := (hle.cell zat).trans cat; replace cxt := (hle.cell zxt).trans cxt; replace zat := Nat.lt_of_lt_of_le zat hle.size; replace L0 := L0.trans hle; replace Oxt := own_le Oxt hle; replace zxt := Nat.lt_of_lt_of_le zxt hle.size; clear hle; have Sy := Sl.of_own Oy rfl (by decide) hokt; clear Oy)
    | (go_at_call 18; refine (eqTree_self _ _ _ _ _ t _ (Sl.of_own Oxt rfl (by decide) hokt) Sy).mono ?_; rintro e w8 ⟨rfl, hle⟩; have s8 := hle.size; replace cat := (hle.cell zat).trans cat; replace cxt := (hle.cell zxt).trans cxt; replace zat := Nat.lt_of_lt_of_le zat hle.size; replace L0 := L0.trans hle; replace Oxt := own_le Oxt hle; replace zxt := Nat.lt_of_lt_of_le zxt hle.size; clear hle Sy))
  go_wp2
  go_ret
  exact ⟨rfl, L0⟩
end Go.Proofs.Ytjkadmbcnlelhaa
