import Derived.Test.YtlejfmhmpcimaaaTlClass
import Derived.Test.YtlejfmhmpcimaaaTlIntTo
import Derived.Test.YtlejfmhmpcimaaaHE
import Derived.Test.YtlejfmhmpcimaaaHF
namespace Go.Proofs.Ytlejfmhmpcimaaa
open Go.RowKit

set_option maxHeartbeats 16000000 in
set_option maxRecDepth 100000 in
theorem exFirstCatch_walk (At : Option Addr) (nt ct : Nat) (t : List Cls) (Al : Option Addr) (nl cl : Nat) (l : List Int) (a : Int) (w : World) (ht : Sl w At nt ct t) (hl : Sl w Al nl cl l) (ha : -9223372036854775808 ≤ a ∧ a ≤ 9223372036854775807) :
    Calls Try.prog 4 #[.agg #[.slice At nt ct], .slice Al nl cl, .int .i64 a] w fun e w' => e = .returned (.bool true) ∧ Le w w' := by
  have hokt := ht.ok
  have hmxt := ht.n_le
  have hokl := hl.ok
  have hmxl := hl.n_le
  by_cases hbigl : 1048576 < nl
  · go_enter Try.func4, Try.ntmps4
    go_wp2
    go_ret
    exact ⟨rfl, Le.new w _⟩
  go_enter Try.func4, Try.ntmps4
  go_wp2_with fail
  obtain ⟨cat, zat, L0⟩ := box1 w (.slice At nt ct) 24
  have s0 : w.heap.size ≤ (w.alloc (.cells #[.slice At nt ct] 24)).heap.size := L0.size
  generalize w.alloc (.cells #[.slice At nt ct] 24) = W at *
  refine (szTree_any At nt ct t _ _ (ht.le L0) (by omega) (by omega)).mono ?_
  rintro e w1 ⟨rt, rfl, hr, hle⟩
  have s1 := hle.size
  replace cat := (hle.cell zat).trans cat
  replace zat := Nat.lt_of_lt_of_le zat hle.size
  replace L0 := L0.trans hle
  clear hle
  rcases hr with rfl | ⟨ht0, ht1, ht2⟩
  · go_wp2
    go_ret
    exact ⟨rfl, L0⟩
  have hnegt : decide (rt < 0) = false := decide_eq_false (by omega)
  go_wp2_with fail
  refine (toTree_any At nt ct t _ (ht.le L0) (by omega)).mono ?_
  rintro e w2 ⟨gat, rfl, hgat, Oat, hle⟩
  have s2 := hle.size
  replace cat := (hle.cell zat).trans cat
  replace zat := Nat.lt_of_lt_of_le zat hle.size
  replace L0 := L0.trans hle
  clear hle
  have hbat := own_lt Oat
  go_wp2_with fail
  refine (toIntS_any Al nl cl l _ (hl.le L0) (by omega)).mono ?_
  rintro e w3 ⟨rfl, Oal, hle⟩
  have s3 := hle.size
  replace cat := (hle.cell zat).trans cat
  replace zat := Nat.lt_of_lt_of_le zat hle.size
  replace L0 := L0.trans hle
  replace Oat := own_le Oat hle
  clear hle
  have hbal := own_lt Oal
  go_wp2_with fail
  refine (sFirstCatch_any _ _ _ _ _ _ t l a _ (Sl.of_own Oat rfl (by decide) hokt) (Sl.of_own Oal rfl (by decide) hokl)).mono ?_
  rintro e w4 ⟨rfl, hle⟩
  have s4 := hle.size
  replace cat := (hle.cell zat).trans cat
  replace zat := Nat.lt_of_lt_of_le zat hle.size
  replace L0 := L0.trans hle
  replace Oat := own_le Oat hle
  replace Oal := own_le Oal hle
  clear hle
  clear Oat Oal
  go_wp2_with fail
  refine (toTree_any At nt ct t _ (ht.le L0) (by omega)).mono ?_
  rintro e w5 ⟨gxt, rfl, hgxt, Oxt, hle⟩
  have s5 := hle.size
  replace cat := (hle.cell zat).trans cat
  replace zat := Nat.lt_of_lt_of_le zat hle.size
  replace L0 := L0.trans hle
  clear hle
  have hbxt := own_lt Oxt
  go_wp2_with fail
  obtain ⟨cxt, zxt, hleB⟩ := box1 w5 (.slice (some ⟨gxt, 0, none⟩) nt nt) 28
  replace cat := (hleB.cell zat).trans cat
  replace zat := Nat.lt_of_lt_of_le zat hleB.size
  replace L0 := L0.trans hleB
  replace Oxt := own_le Oxt hleB
  clear hleB
  generalize w5.alloc (.cells #[.slice (some ⟨gxt, 0, none⟩) nt nt] 28) = w6 at *
  have s6 := zxt
  refine (toIntS_any Al nl cl l _ (hl.le L0) (by omega)).mono ?_
  rintro e w7 ⟨rfl, Oxl, hle⟩
  have s7 := hle.size
  replace cat := (hle.cell zat).trans cat
  replace cxt := (hle.cell zxt).trans cxt
  replace zat := Nat.lt_of_lt_of_le zat hle.size
  replace L0 := L0.trans hle
  replace Oxt := own_le Oxt hle
  replace zxt := Nat.lt_of_lt_of_le zxt hle.size
  clear hle
  have hbxl := own_lt Oxl
  go_wp2_with fail
  refine (iFirstCatch_any _ _ _ _ _ _ t l a _ (Sl.of_own Oxt rfl (by decide) hokt) (Sl.of_own Oxl rfl (by decide) hokl)).mono ?_
  rintro e w8 ⟨rfl, hle⟩
  have s8 := hle.size
  replace cat := (hle.cell zat).trans cat
  replace cxt := (hle.cell zxt).trans cxt
  replace zat := Nat.lt_of_lt_of_le zat hle.size
  replace L0 := L0.trans hle
  replace Oxt := own_le Oxt hle
  replace zxt := Nat.lt_of_lt_of_le zxt hle.size
  replace Oxl := own_le Oxl hle
  clear hle
  go_wp2_with fail
  replace L0 := L0.drew
  replace Oxt := Oxt.drew
  replace Oxl := Oxl.drew
  go_region_held3 (fun w' => w'.cell? ⟨w.heap.size, 0, none⟩ = some (.slice At nt ct) ∧ w'.cell? ⟨w5.heap.size, 0, none⟩ = some (.slice (some ⟨gxt, 0, none⟩) nt nt))
    (first | exact ⟨cat, cxt⟩)
    (first
    | (go_at_call 17; refine (toTree_any At nt ct t _ (ht.le L0) (by omega)).mono ?_; rintro e w9 ⟨gy, rfl, hgy, Oy, hle⟩; have s9 : w8.heap.size ≤ w9.heap.size := hle.size; replace cat := (hle.cell zat).trans cat; replace cxt := (hle.cell zxt).trans cxt; replace zat := Nat.lt_of_lt_of_le zat hle.size; replace L0 := L0.trans hle; replace Oxt := own_le Oxt hle; replace zxt := Nat.lt_of_lt_of_le zxt hle.size; replace Oxl := own_le Oxl hle; clear hle; have Sy := Sl.of_own Oy rfl (by decide) hokt; clear Oy)
    | (go_at_call 19; refine (eqTree_self _ _ _ _ _ t _ (Sl.of_own Oxt rfl (by decide) hokt) Sy).mono ?_; rintro e w10 ⟨rfl, hle⟩; have s10 := hle.size; replace cat := (hle.cell zat).trans cat; replace cxt := (hle.cell zxt).trans cxt; replace zat := Nat.lt_of_lt_of_le zat hle.size; replace L0 := L0.trans hle; replace Oxt := own_le Oxt hle; replace zxt := Nat.lt_of_lt_of_le zxt hle.size; replace Oxl := own_le Oxl hle; clear hle Sy))
  go_wp2_with fail
  refine (toIntS_any Al nl cl l _ (hl.le L0) (by omega)).mono ?_
  rintro e w11 ⟨rfl, Oy, hle⟩
  have s11 := hle.size
  replace cat := (hle.cell zat).trans cat
  replace cxt := (hle.cell zxt).trans cxt
  replace zat := Nat.lt_of_lt_of_le zat hle.size
  replace L0 := L0.trans hle
  replace Oxt := own_le Oxt hle
  replace zxt := Nat.lt_of_lt_of_le zxt hle.size
  replace Oxl := own_le Oxl hle
  clear hle
  have hby := own_lt Oy
  have Sy := Sl.of_own Oy rfl (by decide) hokl; clear Oy hby
  go_wp2_with fail
  refine (eqIntS_self _ _ _ _ _ l _ (Sl.of_own Oxl rfl (by decide) hokl) Sy).mono ?_
  rintro e w12 ⟨rfl, hle⟩
  have s12 := hle.size
  replace cat := (hle.cell zat).trans cat
  replace cxt := (hle.cell zxt).trans cxt
  replace zat := Nat.lt_of_lt_of_le zat hle.size
  replace L0 := L0.trans hle
  replace Oxt := own_le Oxt hle
  replace zxt := Nat.lt_of_lt_of_le zxt hle.size
  replace Oxl := own_le Oxl hle
  clear hle
  clear Sy
  go_wp2
  go_ret
  exact ⟨rfl, L0⟩
end Go.Proofs.Ytlejfmhmpcimaaa
