import Derived.Test.YtacilbglnhgifaaTlClass
import Derived.Test.YtacilbglnhgifaaTlExit
import Derived.Test.YtacilbglnhgifaaTlInt
import Derived.Test.YtacilbglnhgifaaLvH
namespace Go.Proofs.Ytacilbglnhgifaa
open Go.RowKit

set_option maxHeartbeats 16000000 in
set_option maxRecDepth 100000 in
theorem exEscapesOf_walk (At : Option Addr) (nt ct : Nat) (t : List Cls) (Ap : Option Addr) (np cp : Nat) (p : List Xit) (w : World) (ht : Sl w At nt ct t) (hp : Sl w Ap np cp p) :
    Calls Try.prog 4 #[.agg #[.slice At nt ct], .slice Ap np cp] w fun e w' => e = .returned (.bool true) ∧ Le w w' := by
  have hokt := ht.ok
  have hmxt := ht.n_le
  have hokp := hp.ok
  have hmxp := hp.n_le
  have HL0 : (escI t p).length ≤ 1048576 := escI_len t p
  go_enter Try.func4, Try.ntmps4
  go_wp2_with fail
  obtain ⟨cat, zat, L0⟩ := box1 w (.slice At nt ct) 24
  have s0 : w.heap.size ≤ (w.alloc (.cells #[.slice At nt ct] 24)).heap.size := L0.size
  have sz0 := zat
  generalize w.alloc (.cells #[.slice At nt ct] 24) = W at *
  refine (szTree_any At nt ct t _ _ (ht.le L0) (by omega) (by omega)).mono ?_
  rintro e w1 ⟨rt, rfl, hr, hle⟩
  have s1 := hle.size
  replace cat := (hle.cell zat).trans cat
  replace zat := Nat.lt_of_lt_of_le zat hle.size
  replace L0 := L0.trans hle
  clear hle
  rcases hr with rfl | ⟨ht0, ht1, ht2⟩
  · go_wp2
    go_ret
    exact ⟨rfl, L0⟩
  have hnegt : decide (rt < 0) = false := decide_eq_false (by omega)
  go_wp2_with fail
  refine (szExitS_any Ap np cp p _ _ (hp.le L0) (by omega) (by omega)).mono ?_
  rintro e w2 ⟨rp, rfl, hr, hle⟩
  have s2 := hle.size
  replace cat := (hle.cell zat).trans cat
  replace zat := Nat.lt_of_lt_of_le zat hle.size
  replace L0 := L0.trans hle
  clear hle
  rcases hr with rfl | ⟨hp0, hp1, hp2⟩
  · go_wp2
    go_ret
    exact ⟨rfl, L0⟩
  have hnegp : decide (rp < 0) = false := decide_eq_false (by omega)
  go_wp2_with fail
  refine (toTree_any At nt ct t _ (ht.le L0) (by omega)).mono ?_
  rintro e w3 ⟨gat, rfl, hgat, Oat, hle⟩
  have s3 := hle.size
  replace cat := (hle.cell zat).trans cat
  replace zat := Nat.lt_of_lt_of_le zat hle.size
  replace L0 := L0.trans hle
  clear hle
  have hbat := own_lt Oat
  go_wp2_with fail
  refine (toExitS_any Ap np cp p _ (hp.le L0) (by omega)).mono ?_
  rintro e w4 ⟨rfl, Oap, hle⟩
  have s4 := hle.size
  replace cat := (hle.cell zat).trans cat
  replace zat := Nat.lt_of_lt_of_le zat hle.size
  replace L0 := L0.trans hle
  replace Oat := own_le Oat hle
  clear hle
  have hbap := own_lt Oap
  go_wp2_with fail
  refine (sEscapesOfW_any _ _ _ _ _ _ t p _ (Sl.of_own Oat rfl (by decide) hokt) (Sl.of_own Oap rfl (by decide) hokp)).mono ?_
  rintro e w5 ⟨v00, rfl, D00, hle⟩
  have s5 := hle.size
  replace cat := (hle.cell zat).trans cat
  replace zat := Nat.lt_of_lt_of_le zat hle.size
  replace L0 := L0.trans hle
  replace Oat := own_le Oat hle
  replace Oap := own_le Oap hle
  clear hle
  obtain ⟨A00, q00, rfl, S00, hB00⟩ := D00.form (by decide)
  have HB00 := Lib.hid hB00; clear hB00
  have okL00 := D00.ok
  have HU00 := Lib.hid (S00.under)
  clear D00
  clear Oat Oap
  go_wp2_with fail
  refine (toTree_any At nt ct t _ (ht.le L0) (by omega)).mono ?_
  rintro e w6 ⟨gxt, rfl, hgxt, Oxt, hle⟩
  have s6 := hle.size
  replace cat := (hle.cell zat).trans cat
  replace zat := Nat.lt_of_lt_of_le zat hle.size
  replace L0 := L0.trans hle
  replace S00 := S00.le hle
  clear hle
  have hbxt := own_lt Oxt
  go_wp2_with fail
  obtain ⟨cxt, zxt, hleB⟩ := box1 w6 (.slice (some ⟨gxt, 0, none⟩) nt nt) 39
  replace cat := (hleB.cell zat).trans cat
  replace zat := Nat.lt_of_lt_of_le zat hleB.size
  replace L0 := L0.trans hleB
  replace S00 := S00.le hleB
  replace Oxt := own_le Oxt hleB
  clear hleB
  generalize w6.alloc (.cells #[.slice (some ⟨gxt, 0, none⟩) nt nt] 39) = w7 at *
  have s7 := zxt
  refine (toExitS_any Ap np cp p _ (hp.le L0) (by omega)).mono ?_
  rintro e w8 ⟨rfl, Oxp, hle⟩
  have s8 := hle.size
  replace cat := (hle.cell zat).trans cat
  replace cxt := (hle.cell zxt).trans cxt
  replace zat := Nat.lt_of_lt_of_le zat hle.size
  replace L0 := L0.trans hle
  replace S00 := S00.le hle
  replace Oxt := own_le Oxt hle
  replace zxt := Nat.lt_of_lt_of_le zxt hle.size
  clear hle
  have hbxp := own_lt Oxp
  go_wp2_with fail
  refine (iEscapesOfW_any _ _ _ _ _ _ t p _ (Sl.of_own Oxt rfl (by decide) hokt) (Sl.of_own Oxp rfl (by decide) hokp)).mono ?_
  rintro e w9 ⟨v10, rfl, D10, hle⟩
  have s9 := hle.size
  replace cat := (hle.cell zat).trans cat
  replace cxt := (hle.cell zxt).trans cxt
  replace zat := Nat.lt_of_lt_of_le zat hle.size
  replace L0 := L0.trans hle
  replace S00 := S00.le hle
  replace Oxt := own_le Oxt hle
  replace zxt := Nat.lt_of_lt_of_le zxt hle.size
  replace Oxp := own_le Oxp hle
  clear hle
  obtain ⟨A10, q10, rfl, S10, hB10⟩ := D10.form (by decide)
  have HB10 := Lib.hid hB10; clear hB10
  have okL10 := D10.ok
  have O10 := D10.row; clear S10
  clear D10
  go_wp2_with fail
  refine (eqIntS_self _ _ _ _ _ (escI t p) _ (Sl.of_own O10 rfl (by decide) okL10) S00).mono ?_
  rintro e w10 ⟨rfl, hle⟩
  have s10 := hle.size
  replace cat := (hle.cell zat).trans cat
  replace cxt := (hle.cell zxt).trans cxt
  replace zat := Nat.lt_of_lt_of_le zat hle.size
  replace L0 := L0.trans hle
  replace S00 := S00.le hle
  replace Oxt := own_le Oxt hle
  replace zxt := Nat.lt_of_lt_of_le zxt hle.size
  replace Oxp := own_le Oxp hle
  replace O10 := own_le O10 hle
  clear hle
  go_wp2_with fail
  replace L0 := L0.drew
  replace S00 := S00.le (Le.refl _).drew
  replace Oxt := Oxt.drew
  replace Oxp := Oxp.drew
  replace O10 := O10.drew
  go_region_held3 (fun w' => w'.cell? ⟨w.heap.size, 0, none⟩ = some (.slice At nt ct) ∧ w'.cell? ⟨w6.heap.size, 0, none⟩ = some (.slice (some ⟨gxt, 0, none⟩) nt nt))
    (first | exact ⟨cat, cxt⟩)
    (first
    | (go_at_call 9; refine (toTree_any At nt ct t _ (ht.le L0) (by omega)).mono ?_; rintro e w11 ⟨gy, rfl, hgy, Oy, hle⟩; have s11 : w10.heap.size ≤ w11.heap.size := hle.size; replace cat := (hle.cell zat).trans cat; replace cxt := (hle.cell zxt).trans cxt; replace zat := Nat.lt_of_lt_of_le zat hle.size; replace L0 := L0.trans hle; replace S00 := S00.le hle; replace Oxt := own_le Oxt hle; replace zxt := Nat.lt_of_lt_of_le zxt hle.size; replace Oxp := own_le Oxp hle; replace O10 := own_le O10 hle; clear hle; have Sy := Sl.of_own Oy rfl (by decide) hokt; clear Oy)
    | (go_at_call 14; refine (eqTree_self _ _ _ _ _ t _ (Sl.of_own Oxt rfl (by decide) hokt) Sy).mono ?_; rintro e w12 ⟨rfl, hle⟩; have s12 := hle.size; replace cat := (hle.cell zat).trans cat; replace cxt := (hle.cell zxt).trans cxt; replace zat := Nat.lt_of_lt_of_le zat hle.size; replace L0 := L0.trans hle; replace S00 := S00.le hle; replace Oxt := own_le Oxt hle; replace zxt := Nat.lt_of_lt_of_le zxt hle.size; replace Oxp := own_le Oxp hle; replace O10 := own_le O10 hle; clear hle Sy))
  go_wp2_with fail
  refine (toExitS_any Ap np cp p _ (hp.le L0) (by omega)).mono ?_
  rintro e w13 ⟨rfl, Oy, hle⟩
  have s13 := hle.size
  replace cat := (hle.cell zat).trans cat
  replace cxt := (hle.cell zxt).trans cxt
  replace zat := Nat.lt_of_lt_of_le zat hle.size
  replace L0 := L0.trans hle
  replace S00 := S00.le hle
  replace Oxt := own_le Oxt hle
  replace zxt := Nat.lt_of_lt_of_le zxt hle.size
  replace Oxp := own_le Oxp hle
  replace O10 := own_le O10 hle
  clear hle
  have hby := own_lt Oy
  have Sy := Sl.of_own Oy rfl (by decide) hokp; clear Oy hby
  go_wp2_with fail
  refine (eqExitS_self _ _ _ _ _ p _ (Sl.of_own Oxp rfl (by decide) hokp) Sy).mono ?_
  rintro e w14 ⟨rfl, hle⟩
  have s14 := hle.size
  replace cat := (hle.cell zat).trans cat
  replace cxt := (hle.cell zxt).trans cxt
  replace zat := Nat.lt_of_lt_of_le zat hle.size
  replace L0 := L0.trans hle
  replace S00 := S00.le hle
  replace Oxt := own_le Oxt hle
  replace zxt := Nat.lt_of_lt_of_le zxt hle.size
  replace Oxp := own_le Oxp hle
  replace O10 := own_le O10 hle
  clear hle
  clear Sy
  go_wp2_with fail
  refine (markTree_any _ _ _ _ _ _ _ Oxt (by omega) (by omega) (by omega)).mono ?_
  rintro e w15 ⟨rfl, _, hg⟩
  have s15 := hg.size
  replace cat := hg.cell (a := ⟨w.heap.size, 0, none⟩) cat (fun e => by have e1 : w.heap.size = gxt := (by injection e); omega)
  replace zat := Nat.lt_of_lt_of_le zat hg.size
  replace L0 := L0.grown hg (fun k hk => by have e1 : gxt = k := (by injection hk); omega)
  replace S00 := S00.grown hg (fun hn a e h => by have h1 := HU00.out hn a e; have h2 : a.block = gxt := (by injection h); omega)
  replace cxt := hg.cell (a := ⟨w6.heap.size, 0, none⟩) cxt (fun e => by have e1 : w6.heap.size = gxt := (by injection e); omega)
  replace zxt := Nat.lt_of_lt_of_le zxt hg.size
  replace Oxp := Oxp.kept hg (.inr (fun e => by have e1 : w7.heap.size = gxt := (by injection e); omega))
  replace O10 := O10.kept hg (.inr (fun e => by have e1 : w8.heap.size ≤ gxt ∧ gxt < w9.heap.size := HB10.out _ e; omega))
  clear hg Oxt
  clear cxt zxt
  go_wp2_with fail
  refine (markExitS_any _ _ _ _ _ _ _ Oxp (by omega) (by omega) (by omega)).mono ?_
  rintro e w16 ⟨rfl, _, hg⟩
  have s16 := hg.size
  replace cat := hg.cell (a := ⟨w.heap.size, 0, none⟩) cat (fun e => by have e1 : w.heap.size = w7.heap.size := (by injection e); omega)
  replace zat := Nat.lt_of_lt_of_le zat hg.size
  replace L0 := L0.grown hg (fun k hk => by have e1 : w7.heap.size = k := (by injection hk); omega)
  replace S00 := S00.grown hg (fun hn a e h => by have h1 := HU00.out hn a e; have h2 : a.block = w7.heap.size := (by injection h); omega)
  replace O10 := O10.kept hg (.inr (fun e => by have e1 : w8.heap.size ≤ w7.heap.size ∧ w7.heap.size < w9.heap.size := HB10.out _ e; omega))
  clear hg Oxp
  have hkk : decide (1 + 2 * (nt : Int) + 3 * (np : Int) < 0) = false := decide_eq_false (by omega)
  go_wp2_with fail
  refine (eqIntS_self _ _ _ _ _ (escI t p) _ (Sl.of_own O10 rfl (by decide) okL10) S00).mono ?_
  rintro e w17 ⟨rfl, hle⟩
  have s17 := hle.size
  replace cat := (hle.cell zat).trans cat
  replace zat := Nat.lt_of_lt_of_le zat hle.size
  replace L0 := L0.trans hle
  replace S00 := S00.le hle
  replace O10 := own_le O10 hle
  clear hle
  go_wp2_with fail
  refine (markIntS_any _ _ _ _ _ _ _ O10 (by omega) (by omega) HL0).mono ?_
  rintro e w18 ⟨rfl, Om, hg⟩
  have s18 := hg.size
  replace cat := hg.cell (a := ⟨w.heap.size, 0, none⟩) cat (fun e => by have e1 : w8.heap.size ≤ w.heap.size ∧ w.heap.size < w9.heap.size := HB10.out _ e.symm; omega)
  replace zat := Nat.lt_of_lt_of_le zat hg.size
  replace L0 := L0.grown hg (fun k hk => by have e1 : w8.heap.size ≤ k ∧ k < w9.heap.size := HB10.out k hk; omega)
  replace S00 := S00.grown hg (fun hn a e h => by have h1 := HU00.out hn a e; have h2 : w8.heap.size ≤ a.block ∧ a.block < w9.heap.size := HB10.out _ h.symm; omega)
  clear hg O10
  have O10 := Om; clear Om
  go_wp2_with fail
  refine (heldIntS_any _ _ _ _ _ (Sl.of_own O10 rfl (by decide) (mInt_ok (by omega) (by omega) HL0)) (by omega) (by omega) HL0).mono ?_
  rintro e w19 ⟨rfl, hle⟩
  have s19 := hle.size
  replace cat := (hle.cell zat).trans cat
  replace zat := Nat.lt_of_lt_of_le zat hle.size
  replace L0 := L0.trans hle
  replace S00 := S00.le hle
  replace O10 := own_le O10 hle
  clear hle
  have hqq0 : decide ((1 : Int) + ((escI t p).length : Int) < 0) = false := decide_eq_false (by omega)
  go_wp2_with fail
  refine (toTree_any At nt ct t _ (ht.le L0) (by omega)).mono ?_
  rintro e w20 ⟨ght, rfl, hght, Oht, hle⟩
  have s20 := hle.size
  replace cat := (hle.cell zat).trans cat
  replace zat := Nat.lt_of_lt_of_le zat hle.size
  replace L0 := L0.trans hle
  replace S00 := S00.le hle
  replace O10 := own_le O10 hle
  clear hle
  have hbht := own_lt Oht
  go_wp2_with fail
  refine (toExitS_any Ap np cp p _ (hp.le L0) (by omega)).mono ?_
  rintro e w21 ⟨rfl, Ohp, hle⟩
  have s21 := hle.size
  replace cat := (hle.cell zat).trans cat
  replace zat := Nat.lt_of_lt_of_le zat hle.size
  replace L0 := L0.trans hle
  replace S00 := S00.le hle
  replace O10 := own_le O10 hle
  replace Oht := own_le Oht hle
  clear hle
  have hbhp := own_lt Ohp
  go_wp2_with fail
  refine (iEscapesOfW_any _ _ _ _ _ _ t p _ (Sl.of_own Oht rfl (by decide) hokt) (Sl.of_own Ohp rfl (by decide) hokp)).mono ?_
  rintro e w22 ⟨v20, rfl, D20, hle⟩
  have s22 := hle.size
  replace cat := (hle.cell zat).trans cat
  replace zat := Nat.lt_of_lt_of_le zat hle.size
  replace L0 := L0.trans hle
  replace S00 := S00.le hle
  replace O10 := own_le O10 hle
  replace Oht := own_le Oht hle
  replace Ohp := own_le Ohp hle
  clear hle
  obtain ⟨A20, q20, rfl, S20, hB20⟩ := D20.form (by decide)
  have HB20 := Lib.hid hB20; clear hB20
  have okL20 := D20.ok
  have O20 := D20.row; clear S20
  clear D20
  clear Oht
  clear Ohp
  go_wp2_with fail
  refine (eqIntS_self _ _ _ _ _ (escI t p) _ (Sl.of_own O20 rfl (by decide) okL20) S00).mono ?_
  rintro e w23 ⟨rfl, hle⟩
  have s23 := hle.size
  replace cat := (hle.cell zat).trans cat
  replace zat := Nat.lt_of_lt_of_le zat hle.size
  replace L0 := L0.trans hle
  replace S00 := S00.le hle
  replace O10 := own_le O10 hle
  replace O20 := own_le O20 hle
  clear hle
  clear O20
  go_wp2_with fail
  refine (heldIntS_any _ _ _ _ _ (Sl.of_own O10 rfl (by decide) (mInt_ok (by omega) (by omega) HL0)) (by omega) (by omega) HL0).mono ?_
  rintro e w24 ⟨rfl, hle⟩
  have s24 := hle.size
  replace cat := (hle.cell zat).trans cat
  replace zat := Nat.lt_of_lt_of_le zat hle.size
  replace L0 := L0.trans hle
  replace S00 := S00.le hle
  replace O10 := own_le O10 hle
  clear hle
  go_wp2
  go_ret
  exact ⟨rfl, L0⟩
end Go.Proofs.Ytacilbglnhgifaa
