import Derived.Test.YtpdggodmiliijaaTlClass
import Derived.Test.YtpdggodmiliijaaTlPart
import Derived.Test.YtpdggodmiliijaaItP
namespace Go.Proofs.Ytpdggodmiliijaa
open Go.RowKit

set_option maxHeartbeats 16000000 in
set_option maxRecDepth 100000 in
theorem exSplitGroup_walk (At : Option Addr) (nt ct : Nat) (t : List Cls) (Ag : Option Addr) (ng cg : Nat) (g : List Prt) (a : Int) (w : World) (ht : Sl w At nt ct t) (hg : Sl w Ag ng cg g) (_ha : -9223372036854775808 ≤ a ∧ a ≤ 9223372036854775807) :
    Calls Try.prog 5 #[.agg #[.slice At nt ct], .slice Ag ng cg, .int .i64 a] w fun e w' => e = .returned (.bool true) ∧ Le w w' := by
  have hokt := ht.ok
  have hmxt := ht.n_le
  have hokg := hg.ok
  have hmxg := hg.n_le
  have HL0 : (spX t g a true).length ≤ 1048576 := spX_len t g a true
  have HL1 : (spX t g a false).length ≤ 1048576 := spX_len t g a false
  go_enter Try.func5, Try.ntmps5
  go_wp2_with fail
  obtain ⟨cat, zat, L0⟩ := box1 w (.slice At nt ct) 24
  have s0 : w.heap.size ≤ (w.alloc (.cells #[.slice At nt ct] 24)).heap.size := L0.size
  have sz0 := zat
  generalize w.alloc (.cells #[.slice At nt ct] 24) = W at *
  refine (szTree_any At nt ct t _ _ (ht.le L0) (by omega) (by omega)).mono ?_
  rintro e w1 ⟨rt, rfl, hr, hle⟩
  have s1 := hle.size
  replace cat := (hle.cell zat).trans cat
  replace zat := Nat.lt_of_lt_of_le zat hle.size
  replace L0 := L0.trans hle
  clear hle
  rcases hr with rfl | ⟨ht0, ht1, ht2⟩
  · go_wp2
    go_ret
    exact ⟨rfl, L0⟩
  have hnegt : decide (rt < 0) = false := decide_eq_false (by omega)
  go_wp2_with fail
  refine (szPartS_any Ag ng cg g _ _ (hg.le L0) (by omega) (by omega)).mono ?_
  rintro e w2 ⟨rg, rfl, hr, hle⟩
  have s2 := hle.size
  replace cat := (hle.cell zat).trans cat
  replace zat := Nat.lt_of_lt_of_le zat hle.size
  replace L0 := L0.trans hle
  clear hle
  rcases hr with rfl | ⟨hg0, hg1, hg2⟩
  · go_wp2
    go_ret
    exact ⟨rfl, L0⟩
  have hnegg : decide (rg < 0) = false := decide_eq_false (by omega)
  go_wp2_with fail
  refine (toTree_any At nt ct t _ (ht.le L0) (by omega)).mono ?_
  rintro e w3 ⟨gat, rfl, hgat, Oat, hle⟩
  have s3 := hle.size
  replace cat := (hle.cell zat).trans cat
  replace zat := Nat.lt_of_lt_of_le zat hle.size
  replace L0 := L0.trans hle
  clear hle
  have hbat := own_lt Oat
  go_wp2_with fail
  refine (toPartS_any Ag ng cg g _ (hg.le L0) (by omega)).mono ?_
  rintro e w4 ⟨rfl, Oag, hle⟩
  have s4 := hle.size
  replace cat := (hle.cell zat).trans cat
  replace zat := Nat.lt_of_lt_of_le zat hle.size
  replace L0 := L0.trans hle
  replace Oat := own_le Oat hle
  clear hle
  have hbag := own_lt Oag
  go_wp2_with fail
  refine (sSplitGroup_any _ _ _ _ _ _ t g a _ (Sl.of_own Oat rfl (by decide) hokt) (Sl.of_own Oag rfl (by decide) hokg)).mono ?_
  rintro e w5 ⟨v00, v01, rfl, D00, D01, -, hle⟩
  have s5 := hle.size
  replace cat := (hle.cell zat).trans cat
  replace zat := Nat.lt_of_lt_of_le zat hle.size
  replace L0 := L0.trans hle
  replace Oat := own_le Oat hle
  replace Oag := own_le Oag hle
  clear hle
  obtain ⟨A00, q00, rfl, S00, hB00⟩ := D00.form (by decide)
  have HB00 := Lib.hid hB00; clear hB00
  have okL00 := D00.ok
  have HU00 := Lib.hid (S00.under)
  clear D00
  obtain ⟨A01, q01, rfl, S01, hB01⟩ := D01.form (by decide)
  have HB01 := Lib.hid hB01; clear hB01
  have okL01 := D01.ok
  have HU01 := Lib.hid (S01.under)
  clear D01
  clear Oat Oag
  go_wp2_with fail
  refine (toTree_any At nt ct t _ (ht.le L0) (by omega)).mono ?_
  rintro e w6 ⟨gxt, rfl, hgxt, Oxt, hle⟩
  have s6 := hle.size
  replace cat := (hle.cell zat).trans cat
  replace zat := Nat.lt_of_lt_of_le zat hle.size
  replace L0 := L0.trans hle
  replace S00 := S00.le hle
  replace S01 := S01.le hle
  clear hle
  have hbxt := own_lt Oxt
  go_wp2_with fail
  obtain ⟨cxt, zxt, hleB⟩ := box1 w6 (.slice (some ⟨gxt, 0, none⟩) nt nt) 32
  replace cat := (hleB.cell zat).trans cat
  replace zat := Nat.lt_of_lt_of_le zat hleB.size
  replace L0 := L0.trans hleB
  replace S00 := S00.le hleB
  replace S01 := S01.le hleB
  replace Oxt := own_le Oxt hleB
  clear hleB
  generalize w6.alloc (.cells #[.slice (some ⟨gxt, 0, none⟩) nt nt] 32) = w7 at *
  have s7 := zxt
  refine (toPartS_any Ag ng cg g _ (hg.le L0) (by omega)).mono ?_
  rintro e w8 ⟨rfl, Oxg, hle⟩
  have s8 := hle.size
  replace cat := (hle.cell zat).trans cat
  replace cxt := (hle.cell zxt).trans cxt
  replace zat := Nat.lt_of_lt_of_le zat hle.size
  replace L0 := L0.trans hle
  replace S00 := S00.le hle
  replace S01 := S01.le hle
  replace Oxt := own_le Oxt hle
  replace zxt := Nat.lt_of_lt_of_le zxt hle.size
  clear hle
  have hbxg := own_lt Oxg
  go_wp2_with fail
  refine (iSplitGroup_any _ _ _ _ _ _ t g a _ (Sl.of_own Oxt rfl (by decide) hokt) (Sl.of_own Oxg rfl (by decide) hokg)).mono ?_
  rintro e w9 ⟨v10, v11, rfl, D10, D11, AP1, hle⟩
  have s9 := hle.size
  replace cat := (hle.cell zat).trans cat
  replace cxt := (hle.cell zxt).trans cxt
  replace zat := Nat.lt_of_lt_of_le zat hle.size
  replace L0 := L0.trans hle
  replace S00 := S00.le hle
  replace S01 := S01.le hle
  replace Oxt := own_le Oxt hle
  replace zxt := Nat.lt_of_lt_of_le zxt hle.size
  replace Oxg := own_le Oxg hle
  clear hle
  obtain ⟨A10, q10, rfl, S10, hB10⟩ := D10.form (by decide)
  have HB10 := Lib.hid hB10; clear hB10
  have okL10 := D10.ok
  have O10 := D10.row; clear S10
  clear D10
  obtain ⟨A11, q11, rfl, S11, hB11⟩ := D11.form (by decide)
  have HB11 := Lib.hid hB11; clear hB11
  have okL11 := D11.ok
  have O11 := D11.row; clear S11
  clear D11
  have HD1110 := Lib.hid (Apart.symm AP1)
  have HD1011 := Lib.hid AP1
  clear AP1
  go_wp2_with fail
  refine (eqPartS_self _ _ _ _ _ (spX t g a true) _ (Sl.of_own O10 rfl (by decide) okL10) S00).mono ?_
  rintro e w10 ⟨rfl, hle⟩
  have s10 := hle.size
  replace cat := (hle.cell zat).trans cat
  replace cxt := (hle.cell zxt).trans cxt
  replace zat := Nat.lt_of_lt_of_le zat hle.size
  replace L0 := L0.trans hle
  replace S00 := S00.le hle
  replace S01 := S01.le hle
  replace Oxt := own_le Oxt hle
  replace zxt := Nat.lt_of_lt_of_le zxt hle.size
  replace Oxg := own_le Oxg hle
  replace O10 := own_le O10 hle
  replace O11 := own_le O11 hle
  clear hle
  go_wp2_with fail
  refine (eqPartS_self _ _ _ _ _ (spX t g a false) _ (Sl.of_own O11 rfl (by decide) okL11) S01).mono ?_
  rintro e w11 ⟨rfl, hle⟩
  have s11 := hle.size
  replace cat := (hle.cell zat).trans cat
  replace cxt := (hle.cell zxt).trans cxt
  replace zat := Nat.lt_of_lt_of_le zat hle.size
  replace L0 := L0.trans hle
  replace S00 := S00.le hle
  replace S01 := S01.le hle
  replace Oxt := own_le Oxt hle
  replace zxt := Nat.lt_of_lt_of_le zxt hle.size
  replace Oxg := own_le Oxg hle
  replace O10 := own_le O10 hle
  replace O11 := own_le O11 hle
  clear hle
  go_wp2_with fail
  replace L0 := L0.drew
  replace S00 := S00.le (Le.refl _).drew
  replace S01 := S01.le (Le.refl _).drew
  replace Oxt := Oxt.drew
  replace Oxg := Oxg.drew
  replace O10 := O10.drew
  replace O11 := O11.drew
  go_region_held3 (fun w' => w'.cell? ⟨w.heap.size, 0, none⟩ = some (.slice At nt ct) ∧ w'.cell? ⟨w6.heap.size, 0, none⟩ = some (.slice (some ⟨gxt, 0, none⟩) nt nt))
    (first | exact ⟨cat, cxt⟩)
    (first
    | (go_at_call 14; refine (toTree_any At nt ct t _ (ht.le L0) (by omega)).mono ?_; rintro e w12 ⟨gy, rfl, hgy, Oy, hle⟩; have s12 : w11.heap.size ≤ w12.heap.size := hle.size; replace cat := (hle.cell zat).trans cat; replace cxt := (hle.cell zxt).trans cxt; replace zat := Nat.lt_of_lt_of_le zat hle.size; replace L0 := L0.trans hle; replace S00 := S00.le hle; replace S01 := S01.le hle; replace Oxt := own_le Oxt hle; replace zxt := Nat.lt_of_lt_of_le zxt hle.size; replace Oxg := own_le Oxg hle; replace O10 := own_le O10 hle; replace O11 := own_le O11 hle; clear hle; have Sy := Sl.of_own Oy rfl (by decide) hokt; clear Oy)
    | (go_at_call 18; refine (eqTree_self _ _ _ _ _ t _ (Sl.of_own Oxt rfl (by decide) hokt) Sy).mono ?_; rintro e w13 ⟨rfl, hle⟩; have s13 := hle.size; replace cat := (hle.cell zat).trans cat; replace cxt := (hle.cell zxt).trans cxt; replace zat := Nat.lt_of_lt_of_le zat hle.size; replace L0 := L0.trans hle; replace S00 := S00.le hle; replace S01 := S01.le hle; replace Oxt := own_le Oxt hle; replace zxt := Nat.lt_of_lt_of_le zxt hle.size; replace Oxg := own_le Oxg hle; replace O10 := own_le O10 hle; replace O11 := own_le O11 hle; clear hle Sy))
  go_wp2_with fail
  refine (toPartS_any Ag ng cg g _ (hg.le L0) (by omega)).mono ?_
  rintro e w14 ⟨rfl, Oy, hle⟩
  have s14 := hle.size
  replace cat := (hle.cell zat).trans cat
  replace cxt := (hle.cell zxt).trans cxt
  replace zat := Nat.lt_of_lt_of_le zat hle.size
  replace L0 := L0.trans hle
  replace S00 := S00.le hle
  replace S01 := S01.le hle
  replace Oxt := own_le Oxt hle
  replace zxt := Nat.lt_of_lt_of_le zxt hle.size
  replace Oxg := own_le Oxg hle
  replace O10 := own_le O10 hle
  replace O11 := own_le O11 hle
  clear hle
  have hby := own_lt Oy
  have Sy := Sl.of_own Oy rfl (by decide) hokg; clear Oy hby
  go_wp2_with fail
  refine (eqPartS_self _ _ _ _ _ g _ (Sl.of_own Oxg rfl (by decide) hokg) Sy).mono ?_
  rintro e w15 ⟨rfl, hle⟩
  have s15 := hle.size
  replace cat := (hle.cell zat).trans cat
  replace cxt := (hle.cell zxt).trans cxt
  replace zat := Nat.lt_of_lt_of_le zat hle.size
  replace L0 := L0.trans hle
  replace S00 := S00.le hle
  replace S01 := S01.le hle
  replace Oxt := own_le Oxt hle
  replace zxt := Nat.lt_of_lt_of_le zxt hle.size
  replace Oxg := own_le Oxg hle
  replace O10 := own_le O10 hle
  replace O11 := own_le O11 hle
  clear hle
  clear Sy
  go_wp2_with fail
  refine (markTree_any _ _ _ _ _ _ _ Oxt (by omega) (by omega) (by omega)).mono ?_
  rintro e w16 ⟨rfl, _, hg⟩
  have s16 := hg.size
  replace cat := hg.cell (a := ⟨w.heap.size, 0, none⟩) cat (fun e => by have e1 : w.heap.size = gxt := (by injection e); omega)
  replace zat := Nat.lt_of_lt_of_le zat hg.size
  replace L0 := L0.grown hg (fun k hk => by have e1 : gxt = k := (by injection hk); omega)
  replace S00 := S00.grown hg (fun hn a e h => by have h1 := HU00.out hn a e; have h2 : a.block = gxt := (by injection h); omega)
  replace S01 := S01.grown hg (fun hn a e h => by have h1 := HU01.out hn a e; have h2 : a.block = gxt := (by injection h); omega)
  replace cxt := hg.cell (a := ⟨w6.heap.size, 0, none⟩) cxt (fun e => by have e1 : w6.heap.size = gxt := (by injection e); omega)
  replace zxt := Nat.lt_of_lt_of_le zxt hg.size
  replace Oxg := Oxg.kept hg (.inr (fun e => by have e1 : w7.heap.size = gxt := (by injection e); omega))
  replace O10 := O10.kept hg (.inr (fun e => by have e1 : w8.heap.size ≤ gxt ∧ gxt < w9.heap.size := HB10.out _ e; omega))
  replace O11 := O11.kept hg (.inr (fun e => by have e1 : w8.heap.size ≤ gxt ∧ gxt < w9.heap.size := HB11.out _ e; omega))
  clear hg Oxt
  clear cxt zxt
  go_wp2_with fail
  refine (markPartS_any _ _ _ _ _ _ _ Oxg (by omega) (by omega) (by omega)).mono ?_
  rintro e w17 ⟨rfl, _, hg⟩
  have s17 := hg.size
  replace cat := hg.cell (a := ⟨w.heap.size, 0, none⟩) cat (fun e => by have e1 : w.heap.size = w7.heap.size := (by injection e); omega)
  replace zat := Nat.lt_of_lt_of_le zat hg.size
  replace L0 := L0.grown hg (fun k hk => by have e1 : w7.heap.size = k := (by injection hk); omega)
  replace S00 := S00.grown hg (fun hn a e h => by have h1 := HU00.out hn a e; have h2 : a.block = w7.heap.size := (by injection h); omega)
  replace S01 := S01.grown hg (fun hn a e h => by have h1 := HU01.out hn a e; have h2 : a.block = w7.heap.size := (by injection h); omega)
  replace O10 := O10.kept hg (.inr (fun e => by have e1 : w8.heap.size ≤ w7.heap.size ∧ w7.heap.size < w9.heap.size := HB10.out _ e; omega))
  replace O11 := O11.kept hg (.inr (fun e => by have e1 : w8.heap.size ≤ w7.heap.size ∧ w7.heap.size < w9.heap.size := HB11.out _ e; omega))
  clear hg Oxg
  have hkk : decide (1 + 2 * (nt : Int) + 4 * (ng : Int) < 0) = false := decide_eq_false (by omega)
  go_wp2_with fail
  refine (eqPartS_self _ _ _ _ _ (spX t g a true) _ (Sl.of_own O10 rfl (by decide) okL10) S00).mono ?_
  rintro e w18 ⟨rfl, hle⟩
  have s18 := hle.size
  replace cat := (hle.cell zat).trans cat
  replace zat := Nat.lt_of_lt_of_le zat hle.size
  replace L0 := L0.trans hle
  replace S00 := S00.le hle
  replace S01 := S01.le hle
  replace O10 := own_le O10 hle
  replace O11 := own_le O11 hle
  clear hle
  go_wp2_with fail
  refine (eqPartS_self _ _ _ _ _ (spX t g a false) _ (Sl.of_own O11 rfl (by decide) okL11) S01).mono ?_
  rintro e w19 ⟨rfl, hle⟩
  have s19 := hle.size
  replace cat := (hle.cell zat).trans cat
  replace zat := Nat.lt_of_lt_of_le zat hle.size
  replace L0 := L0.trans hle
  replace S00 := S00.le hle
  replace S01 := S01.le hle
  replace O10 := own_le O10 hle
  replace O11 := own_le O11 hle
  clear hle
  go_wp2_with fail
  refine (markPartS_any _ _ _ _ _ _ _ O10 (by omega) (by omega) HL0).mono ?_
  rintro e w20 ⟨rfl, Om, hg⟩
  have s20 := hg.size
  replace cat := hg.cell (a := ⟨w.heap.size, 0, none⟩) cat (fun e => by have e1 : w8.heap.size ≤ w.heap.size ∧ w.heap.size < w9.heap.size := HB10.out _ e.symm; omega)
  replace zat := Nat.lt_of_lt_of_le zat hg.size
  replace L0 := L0.grown hg (fun k hk => by have e1 : w8.heap.size ≤ k ∧ k < w9.heap.size := HB10.out k hk; omega)
  replace S00 := S00.grown hg (fun hn a e h => by have h1 := HU00.out hn a e; have h2 : w8.heap.size ≤ a.block ∧ a.block < w9.heap.size := HB10.out _ h.symm; omega)
  replace S01 := S01.grown hg (fun hn a e h => by have h1 := HU01.out hn a e; have h2 : w8.heap.size ≤ a.block ∧ a.block < w9.heap.size := HB10.out _ h.symm; omega)
  replace O11 := O11.kept hg HD1110.out
  clear hg O10
  have O10 := Om; clear Om
  go_wp2_with fail
  refine (markPartS_any _ _ _ _ _ _ _ O11 (by omega) (by omega) HL1).mono ?_
  rintro e w21 ⟨rfl, Om, hg⟩
  have s21 := hg.size
  replace cat := hg.cell (a := ⟨w.heap.size, 0, none⟩) cat (fun e => by have e1 : w8.heap.size ≤ w.heap.size ∧ w.heap.size < w9.heap.size := HB11.out _ e.symm; omega)
  replace zat := Nat.lt_of_lt_of_le zat hg.size
  replace L0 := L0.grown hg (fun k hk => by have e1 : w8.heap.size ≤ k ∧ k < w9.heap.size := HB11.out k hk; omega)
  replace S00 := S00.grown hg (fun hn a e h => by have h1 := HU00.out hn a e; have h2 : w8.heap.size ≤ a.block ∧ a.block < w9.heap.size := HB11.out _ h.symm; omega)
  replace S01 := S01.grown hg (fun hn a e h => by have h1 := HU01.out hn a e; have h2 : w8.heap.size ≤ a.block ∧ a.block < w9.heap.size := HB11.out _ h.symm; omega)
  replace O10 := O10.kept hg HD1011.out
  clear hg O11
  have O11 := Om; clear Om
  go_wp2_with fail
  refine (heldPartS_any _ _ _ _ _ (Sl.of_own O10 rfl (by decide) (mPrt_ok (by omega) (by omega) HL0)) (by omega) (by omega) HL0).mono ?_
  rintro e w22 ⟨rfl, hle⟩
  have s22 := hle.size
  replace cat := (hle.cell zat).trans cat
  replace zat := Nat.lt_of_lt_of_le zat hle.size
  replace L0 := L0.trans hle
  replace S00 := S00.le hle
  replace S01 := S01.le hle
  replace O10 := own_le O10 hle
  replace O11 := own_le O11 hle
  clear hle
  have hqq0 : decide ((1 : Int) + 4 * ((spX t g a true).length : Int) < 0) = false := decide_eq_false (by omega)
  go_wp2_with fail
  refine (heldPartS_any _ _ _ _ _ (Sl.of_own O11 rfl (by decide) (mPrt_ok (by omega) (by omega) HL1)) (by omega) (by omega) HL1).mono ?_
  rintro e w23 ⟨rfl, hle⟩
  have s23 := hle.size
  replace cat := (hle.cell zat).trans cat
  replace zat := Nat.lt_of_lt_of_le zat hle.size
  replace L0 := L0.trans hle
  replace S00 := S00.le hle
  replace S01 := S01.le hle
  replace O10 := own_le O10 hle
  replace O11 := own_le O11 hle
  clear hle
  have hqq1 : decide ((1 : Int) + 4 * ((spX t g a false).length : Int) < 0) = false := decide_eq_false (by omega)
  go_wp2_with fail
  refine (toTree_any At nt ct t _ (ht.le L0) (by omega)).mono ?_
  rintro e w24 ⟨ght, rfl, hght, Oht, hle⟩
  have s24 := hle.size
  replace cat := (hle.cell zat).trans cat
  replace zat := Nat.lt_of_lt_of_le zat hle.size
  replace L0 := L0.trans hle
  replace S00 := S00.le hle
  replace S01 := S01.le hle
  replace O10 := own_le O10 hle
  replace O11 := own_le O11 hle
  clear hle
  have hbht := own_lt Oht
  go_wp2_with fail
  refine (toPartS_any Ag ng cg g _ (hg.le L0) (by omega)).mono ?_
  rintro e w25 ⟨rfl, Ohg, hle⟩
  have s25 := hle.size
  replace cat := (hle.cell zat).trans cat
  replace zat := Nat.lt_of_lt_of_le zat hle.size
  replace L0 := L0.trans hle
  replace S00 := S00.le hle
  replace S01 := S01.le hle
  replace O10 := own_le O10 hle
  replace O11 := own_le O11 hle
  replace Oht := own_le Oht hle
  clear hle
  have hbhg := own_lt Ohg
  go_wp2_with fail
  refine (iSplitGroup_any _ _ _ _ _ _ t g a _ (Sl.of_own Oht rfl (by decide) hokt) (Sl.of_own Ohg rfl (by decide) hokg)).mono ?_
  rintro e w26 ⟨v20, v21, rfl, D20, D21, -, hle⟩
  have s26 := hle.size
  replace cat := (hle.cell zat).trans cat
  replace zat := Nat.lt_of_lt_of_le zat hle.size
  replace L0 := L0.trans hle
  replace S00 := S00.le hle
  replace S01 := S01.le hle
  replace O10 := own_le O10 hle
  replace O11 := own_le O11 hle
  replace Oht := own_le Oht hle
  replace Ohg := own_le Ohg hle
  clear hle
  obtain ⟨A20, q20, rfl, S20, hB20⟩ := D20.form (by decide)
  have HB20 := Lib.hid hB20; clear hB20
  have okL20 := D20.ok
  have O20 := D20.row; clear S20
  clear D20
  obtain ⟨A21, q21, rfl, S21, hB21⟩ := D21.form (by decide)
  have HB21 := Lib.hid hB21; clear hB21
  have okL21 := D21.ok
  have O21 := D21.row; clear S21
  clear D21
  clear Oht
  clear Ohg
  go_wp2_with fail
  refine (eqPartS_self _ _ _ _ _ (spX t g a true) _ (Sl.of_own O20 rfl (by decide) okL20) S00).mono ?_
  rintro e w27 ⟨rfl, hle⟩
  have s27 := hle.size
  replace cat := (hle.cell zat).trans cat
  replace zat := Nat.lt_of_lt_of_le zat hle.size
  replace L0 := L0.trans hle
  replace S00 := S00.le hle
  replace S01 := S01.le hle
  replace O10 := own_le O10 hle
  replace O11 := own_le O11 hle
  replace O20 := own_le O20 hle
  replace O21 := own_le O21 hle
  clear hle
  go_wp2_with fail
  refine (eqPartS_self _ _ _ _ _ (spX t g a false) _ (Sl.of_own O21 rfl (by decide) okL21) S01).mono ?_
  rintro e w28 ⟨rfl, hle⟩
  have s28 := hle.size
  replace cat := (hle.cell zat).trans cat
  replace zat := Nat.lt_of_lt_of_le zat hle.size
  replace L0 := L0.trans hle
  replace S00 := S00.le hle
  replace S01 := S01.le hle
  replace O10 := own_le O10 hle
  replace O11 := own_le O11 hle
  replace O20 := own_le O20 hle
  replace O21 := own_le O21 hle
  clear hle
  clear O20
  clear O21
  go_wp2_with fail
  refine (heldPartS_any _ _ _ _ _ (Sl.of_own O10 rfl (by decide) (mPrt_ok (by omega) (by omega) HL0)) (by omega) (by omega) HL0).mono ?_
  rintro e w29 ⟨rfl, hle⟩
  have s29 := hle.size
  replace cat := (hle.cell zat).trans cat
  replace zat := Nat.lt_of_lt_of_le zat hle.size
  replace L0 := L0.trans hle
  replace S00 := S00.le hle
  replace S01 := S01.le hle
  replace O10 := own_le O10 hle
  replace O11 := own_le O11 hle
  clear hle
  go_wp2_with fail
  refine (heldPartS_any _ _ _ _ _ (Sl.of_own O11 rfl (by decide) (mPrt_ok (by omega) (by omega) HL1)) (by omega) (by omega) HL1).mono ?_
  rintro e w30 ⟨rfl, hle⟩
  have s30 := hle.size
  replace cat := (hle.cell zat).trans cat
  replace zat := Nat.lt_of_lt_of_le zat hle.size
  replace L0 := L0.trans hle
  replace S00 := S00.le hle
  replace S01 := S01.le hle
  replace O10 := own_le O10 hle
  replace O11 := own_le O11 hle
  clear hle
  go_wp2
  go_ret
  exact ⟨rfl, L0⟩
end Go.Proofs.Ytpdggodmiliijaa
