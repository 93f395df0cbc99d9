import Derived.Test.YtkcnjoikdalgjaaGreatDoorZp17
import Derived.Test.YtkcnjoikdalgjaaGreatDoorZp16
import Derived.Test.YtkcnjoikdalgjaaGreatDoorGotFP
namespace Go.Proofs.YtkcnjoikdalgjaaGreatDoor
open Go.RowKit

set_option maxHeartbeats 16000000 in
set_option maxRecDepth 100000 in
theorem exParseProgram_walk (At : Option Addr) (nt ct : Nat) (t : List Cls) (s : ByteArray) (w : World) (ht : Sl w At nt ct t) (_hs : s.size ≤ 9223372036854775807) (hG : GotErr w) :
    Calls Tryz.prog 5 #[.agg #[.slice At nt ct], .string s] w fun e w' => e = .returned (.bool true) ∧ Le w w' := by
  have hokt := ht.ok
  have hmxt := ht.n_le
  have HL0 : (ppX t (bl s)).length ≤ 1048576 := (Nat.le_trans (pp_len t (bl s)) (by decide))
  by_cases hbigs : 1048576 < s.size
  · go_enter Tryz.func5, Tryz.ntmps5
    go_wp2
    go_ret
    exact ⟨rfl, Le.new w _⟩
  go_enter Tryz.func5, Tryz.ntmps5
  go_wp2_with fail
  obtain ⟨cat, zat, L0⟩ := box1 w (.slice At nt ct) 40
  have s0 : w.heap.size ≤ (w.alloc (.cells #[.slice At nt ct] 40)).heap.size := L0.size
  have sz0 := zat
  generalize w.alloc (.cells #[.slice At nt ct] 40) = W at *
  refine (szTree_any At nt ct t _ _ (ht.le L0) (by omega) (by omega)).mono ?_
  rintro e w1 ⟨rt, rfl, hr, hle⟩
  have s1 := hle.size
  replace cat := (hle.cell zat).trans cat
  replace zat := Nat.lt_of_lt_of_le zat hle.size
  replace L0 := L0.trans hle
  clear hle
  rcases hr with rfl | ⟨ht0, ht1, ht2⟩
  · go_wp2
    go_ret
    exact ⟨rfl, L0⟩
  have hnegt : decide (rt < 0) = false := decide_eq_false (by omega)
  go_wp2_with fail
  refine (toTree_any At nt ct t _ (ht.le L0) (by omega)).mono ?_
  rintro e w2 ⟨gat, rfl, hgat, Oat, hle⟩
  have s2 := hle.size
  replace cat := (hle.cell zat).trans cat
  replace zat := Nat.lt_of_lt_of_le zat hle.size
  replace L0 := L0.trans hle
  clear hle
  have hbat := own_lt Oat
  go_wp2_with fail
  refine (sParseProgram_any _ _ _ t s _ (Sl.of_own Oat rfl (by decide) hokt) (by omega)).mono ?_
  rintro e w3 ⟨v00, rfl, D00, hle⟩
  have s3 := hle.size
  replace cat := (hle.cell zat).trans cat
  replace zat := Nat.lt_of_lt_of_le zat hle.size
  replace L0 := L0.trans hle
  replace Oat := own_le Oat hle
  clear hle
  obtain ⟨A00, q00, rfl, S00, hB00⟩ := D00.form (by decide)
  have HB00 := Lib.hid hB00; clear hB00
  have okL00 := D00.ok
  have HU00 := Lib.hid (S00.under)
  clear D00
  clear Oat
  go_wp2_with fail
  refine (toTree_any At nt ct t _ (ht.le L0) (by omega)).mono ?_
  rintro e w4 ⟨gxt, rfl, hgxt, Oxt, hle⟩
  have s4 := hle.size
  replace cat := (hle.cell zat).trans cat
  replace zat := Nat.lt_of_lt_of_le zat hle.size
  replace L0 := L0.trans hle
  replace S00 := S00.le hle
  clear hle
  have hbxt := own_lt Oxt
  go_wp2_with fail
  obtain ⟨cxt, zxt, hleB⟩ := box1 w4 (.slice (some ⟨gxt, 0, none⟩) nt nt) 25
  replace cat := (hleB.cell zat).trans cat
  replace zat := Nat.lt_of_lt_of_le zat hleB.size
  replace L0 := L0.trans hleB
  replace S00 := S00.le hleB
  replace Oxt := own_le Oxt hleB
  clear hleB
  generalize w4.alloc (.cells #[.slice (some ⟨gxt, 0, none⟩) nt nt] 25) = w5 at *
  have s5 := zxt
  refine (iParseProgram_any _ _ _ t s _ (Sl.of_own Oxt rfl (by decide) hokt) (by have h2 := ht.len; omega) (by omega) (hG.le L0).1 (hG.le L0).2.2 (hG.le L0).2.1).mono ?_
  rintro e w6 ⟨v10, rfl, D10, hle⟩
  have s6 := hle.size
  replace cat := (hle.cell zat).trans cat
  replace cxt := (hle.cell zxt).trans cxt
  replace zat := Nat.lt_of_lt_of_le zat hle.size
  replace L0 := L0.trans hle
  replace S00 := S00.le hle
  replace Oxt := own_le Oxt hle
  replace zxt := Nat.lt_of_lt_of_le zxt hle.size
  clear hle
  obtain ⟨A10, q10, rfl, S10, hB10⟩ := D10.form (by decide)
  have HB10 := Lib.hid hB10; clear hB10
  have okL10 := D10.ok
  have O10 := D10.row; clear S10
  clear D10
  go_wp2_with fail
  refine (eqLineS_self _ _ _ _ _ (ppX t (bl s)) _ (Sl.of_own O10 rfl (by decide) okL10) S00).mono ?_
  rintro e w7 ⟨rfl, hle⟩
  have s7 := hle.size
  replace cat := (hle.cell zat).trans cat
  replace cxt := (hle.cell zxt).trans cxt
  replace zat := Nat.lt_of_lt_of_le zat hle.size
  replace L0 := L0.trans hle
  replace S00 := S00.le hle
  replace Oxt := own_le Oxt hle
  replace zxt := Nat.lt_of_lt_of_le zxt hle.size
  replace O10 := own_le O10 hle
  clear hle
  go_wp2_with fail
  replace L0 := L0.drew
  replace S00 := S00.le (Le.refl _).drew
  replace Oxt := Oxt.drew
  replace O10 := O10.drew
  go_region_held3 (fun w' => w'.cell? ⟨w.heap.size, 0, none⟩ = some (.slice At nt ct) ∧ w'.cell? ⟨w4.heap.size, 0, none⟩ = some (.slice (some ⟨gxt, 0, none⟩) nt nt))
    (first | exact ⟨cat, cxt⟩)
    (first
    | (go_at_call 16; refine (toTree_any At nt ct t _ (ht.le L0) (by omega)).mono ?_; rintro e w8 ⟨gy, rfl, hgy, Oy, hle⟩; have s8 : w7.heap.size ≤ w8.heap.size := hle.size; replace cat := (hle.cell zat).trans cat; replace cxt := (hle.cell zxt).trans cxt; replace zat := Nat.lt_of_lt_of_le zat hle.size; replace L0 := L0.trans hle; replace S00 := S00.le hle; replace Oxt := own_le Oxt hle; replace zxt := Nat.lt_of_lt_of_le zxt hle.size; replace O10 := own_le O10 hle; clear hle; have Sy := Sl.of_own Oy rfl (by decide) hokt; clear Oy)
    | (go_at_call 18; refine (eqTree_self _ _ _ _ _ t _ (Sl.of_own Oxt rfl (by decide) hokt) Sy).mono ?_; rintro e w9 ⟨rfl, hle⟩; have s9 := hle.size; replace cat := (hle.cell zat).trans cat; replace cxt := (hle.cell zxt).trans cxt; replace zat := Nat.lt_of_lt_of_le zat hle.size; replace L0 := L0.trans hle; replace S00 := S00.le hle; replace Oxt := own_le Oxt hle; replace zxt := Nat.lt_of_lt_of_le zxt hle.size; replace O10 := own_le O10 hle; clear hle Sy))
  go_wp2_with fail
  refine (markTree_any _ _ _ _ _ _ _ Oxt (by omega) (by omega) (by omega)).mono ?_
  rintro e w10 ⟨rfl, _, hg⟩
  have s10 := hg.size
  replace cat := hg.cell (a := ⟨w.heap.size, 0, none⟩) cat (fun e => by have e1 : w.heap.size = gxt := (by injection e); omega)
  replace zat := Nat.lt_of_lt_of_le zat hg.size
  replace L0 := L0.grown hg (fun k hk => by have e1 : gxt = k := (by injection hk); omega)
  replace S00 := S00.grown hg (fun hn a e h => by have h1 := HU00.out hn a e; have h2 : a.block = gxt := (by injection h); omega)
  replace cxt := hg.cell (a := ⟨w4.heap.size, 0, none⟩) cxt (fun e => by have e1 : w4.heap.size = gxt := (by injection e); omega)
  replace zxt := Nat.lt_of_lt_of_le zxt hg.size
  replace O10 := O10.kept hg (.inr (fun e => by have e1 : w5.heap.size ≤ gxt ∧ gxt < w6.heap.size := HB10.out _ e; omega))
  clear hg Oxt
  clear cxt zxt
  have hkk : decide (1 + 2 * (nt : Int) < 0) = false := decide_eq_false (by omega)
  go_wp2_with fail
  refine (eqLineS_self _ _ _ _ _ (ppX t (bl s)) _ (Sl.of_own O10 rfl (by decide) okL10) S00).mono ?_
  rintro e w11 ⟨rfl, hle⟩
  have s11 := hle.size
  replace cat := (hle.cell zat).trans cat
  replace zat := Nat.lt_of_lt_of_le zat hle.size
  replace L0 := L0.trans hle
  replace S00 := S00.le hle
  replace O10 := own_le O10 hle
  clear hle
  go_wp2_with fail
  refine (markLineS_any _ _ _ _ _ _ _ O10 (by omega) (by omega) HL0).mono ?_
  rintro e w12 ⟨rfl, Om, hg⟩
  have s12 := hg.size
  replace cat := hg.cell (a := ⟨w.heap.size, 0, none⟩) cat (fun e => by have e1 : w5.heap.size ≤ w.heap.size ∧ w.heap.size < w6.heap.size := HB10.out _ e.symm; omega)
  replace zat := Nat.lt_of_lt_of_le zat hg.size
  replace L0 := L0.grown hg (fun k hk => by have e1 : w5.heap.size ≤ k ∧ k < w6.heap.size := HB10.out k hk; omega)
  replace S00 := S00.grown hg (fun hn a e h => by have h1 := HU00.out hn a e; have h2 : w5.heap.size ≤ a.block ∧ a.block < w6.heap.size := HB10.out _ h.symm; omega)
  clear hg O10
  have O10 := Om; clear Om
  go_wp2_with fail
  refine (heldLineS_any _ _ _ _ _ (Sl.of_own O10 rfl (by decide) (mLin_ok (by omega) (by omega) HL0)) (by omega) (by omega) HL0).mono ?_
  rintro e w13 ⟨rfl, hle⟩
  have s13 := hle.size
  replace cat := (hle.cell zat).trans cat
  replace zat := Nat.lt_of_lt_of_le zat hle.size
  replace L0 := L0.trans hle
  replace S00 := S00.le hle
  replace O10 := own_le O10 hle
  clear hle
  have hqq0 : decide ((1 : Int) + 4 * ((ppX t (bl s)).length : Int) < 0) = false := decide_eq_false (by omega)
  go_wp2_with fail
  refine (toTree_any At nt ct t _ (ht.le L0) (by omega)).mono ?_
  rintro e w14 ⟨ght, rfl, hght, Oht, hle⟩
  have s14 := hle.size
  replace cat := (hle.cell zat).trans cat
  replace zat := Nat.lt_of_lt_of_le zat hle.size
  replace L0 := L0.trans hle
  replace S00 := S00.le hle
  replace O10 := own_le O10 hle
  clear hle
  have hbht := own_lt Oht
  go_wp2_with fail
  refine (iParseProgram_any _ _ _ t s _ (Sl.of_own Oht rfl (by decide) hokt) (by have h2 := ht.len; omega) (by omega) (hG.le L0).1 (hG.le L0).2.2 (hG.le L0).2.1).mono ?_
  rintro e w15 ⟨v20, rfl, D20, hle⟩
  have s15 := hle.size
  replace cat := (hle.cell zat).trans cat
  replace zat := Nat.lt_of_lt_of_le zat hle.size
  replace L0 := L0.trans hle
  replace S00 := S00.le hle
  replace O10 := own_le O10 hle
  replace Oht := own_le Oht hle
  clear hle
  obtain ⟨A20, q20, rfl, S20, hB20⟩ := D20.form (by decide)
  have HB20 := Lib.hid hB20; clear hB20
  have okL20 := D20.ok
  have O20 := D20.row; clear S20
  clear D20
  clear Oht
  go_wp2_with fail
  refine (eqLineS_self _ _ _ _ _ (ppX t (bl s)) _ (Sl.of_own O20 rfl (by decide) okL20) S00).mono ?_
  rintro e w16 ⟨rfl, hle⟩
  have s16 := hle.size
  replace cat := (hle.cell zat).trans cat
  replace zat := Nat.lt_of_lt_of_le zat hle.size
  replace L0 := L0.trans hle
  replace S00 := S00.le hle
  replace O10 := own_le O10 hle
  replace O20 := own_le O20 hle
  clear hle
  clear O20
  go_wp2_with fail
  refine (heldLineS_any _ _ _ _ _ (Sl.of_own O10 rfl (by decide) (mLin_ok (by omega) (by omega) HL0)) (by omega) (by omega) HL0).mono ?_
  rintro e w17 ⟨rfl, hle⟩
  have s17 := hle.size
  replace cat := (hle.cell zat).trans cat
  replace zat := Nat.lt_of_lt_of_le zat hle.size
  replace L0 := L0.trans hle
  replace S00 := S00.le hle
  replace O10 := own_le O10 hle
  clear hle
  go_wp2
  go_ret
  exact ⟨rfl, L0⟩
end Go.Proofs.YtkcnjoikdalgjaaGreatDoor
