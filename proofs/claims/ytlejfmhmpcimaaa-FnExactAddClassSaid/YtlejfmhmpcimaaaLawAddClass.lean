import Derived.Test.YtlejfmhmpcimaaaTlClass
import Derived.Test.YtlejfmhmpcimaaaHM
import Derived.Test.YtlejfmhmpcimaaaHN
namespace Go.Proofs.Ytlejfmhmpcimaaa
open Go.RowKit

set_option maxHeartbeats 16000000 in
set_option maxRecDepth 100000 in
theorem exAddClass_walk (At : Option Addr) (nt ct : Nat) (t : List Cls) (s : ByteArray) (p : Int) (w : World) (ht : Sl w At nt ct t) (hs : s.size ≤ 9223372036854775807) (hp : -9223372036854775808 ≤ p ∧ p ≤ 9223372036854775807) :
    Calls Try.prog 3 #[.agg #[.slice At nt ct], .string s, .int .i64 p] w fun e w' => e = .returned (.bool true) ∧ Le w w' := by
  have hokt := ht.ok
  have hmxt := ht.n_le
  have HL0 : (addX t s p).length ≤ 1048576 := addX_len t s p
  by_cases hbigs : 1048576 < s.size
  · go_enter Try.func3, Try.ntmps3
    go_wp2
    go_ret
    exact ⟨rfl, Le.new w _⟩
  go_enter Try.func3, Try.ntmps3
  go_wp2_with fail
  obtain ⟨cat, zat, L0⟩ := box1 w (.slice At nt ct) 24
  have s0 : w.heap.size ≤ (w.alloc (.cells #[.slice At nt ct] 24)).heap.size := L0.size
  generalize w.alloc (.cells #[.slice At nt ct] 24) = W at *
  refine (szTree_any At nt ct t _ _ (ht.le L0) (by omega) (by omega)).mono ?_
  rintro e w1 ⟨rt, rfl, hr, hle⟩
  have s1 := hle.size
  replace cat := (hle.cell zat).trans cat
  replace zat := Nat.lt_of_lt_of_le zat hle.size
  replace L0 := L0.trans hle
  clear hle
  rcases hr with rfl | ⟨ht0, ht1, ht2⟩
  · go_wp2
    go_ret
    exact ⟨rfl, L0⟩
  have hnegt : decide (rt < 0) = false := decide_eq_false (by omega)
  go_wp2_with fail
  refine (toTree_any At nt ct t _ (ht.le L0) (by omega)).mono ?_
  rintro e w2 ⟨gat, rfl, hgat, Oat, hle⟩
  have s2 := hle.size
  replace cat := (hle.cell zat).trans cat
  replace zat := Nat.lt_of_lt_of_le zat hle.size
  replace L0 := L0.trans hle
  clear hle
  have hbat := own_lt Oat
  go_wp2_with fail
  refine (sAddClass_any _ _ _ t s p _ (Sl.of_own Oat rfl (by decide) hokt) hs hp (by omega)).mono ?_
  rintro e w3 ⟨v00, rfl, D00, hle⟩
  have s3 := hle.size
  replace cat := (hle.cell zat).trans cat
  replace zat := Nat.lt_of_lt_of_le zat hle.size
  replace L0 := L0.trans hle
  replace Oat := own_le Oat hle
  clear hle
  obtain ⟨A00, q00, rfl, S00, hB00⟩ := D00.form (by decide)
  have HB00 := Lib.hid hB00; clear hB00
  have okL00 := D00.ok
  have HU00 := Lib.hid (S00.under)
  clear D00
  clear Oat
  go_wp2_with fail
  obtain ⟨cb00, zb00, hleB⟩ := box1 w3 (.slice A00 (addX t s p).length q00) 28
  replace cat := (hleB.cell zat).trans cat
  replace zat := Nat.lt_of_lt_of_le zat hleB.size
  replace L0 := L0.trans hleB
  replace S00 := S00.le hleB
  clear hleB
  generalize w3.alloc (.cells #[.slice A00 (addX t s p).length q00] 28) = w4 at *
  have s4 := zb00
  refine (toTree_any At nt ct t _ (ht.le L0) (by omega)).mono ?_
  rintro e w5 ⟨gxt, rfl, hgxt, Oxt, hle⟩
  have s5 := hle.size
  replace cat := (hle.cell zat).trans cat
  replace cb00 := (hle.cell zb00).trans cb00
  replace zat := Nat.lt_of_lt_of_le zat hle.size
  replace L0 := L0.trans hle
  replace S00 := S00.le hle
  replace zb00 := Nat.lt_of_lt_of_le zb00 hle.size
  clear hle
  have hbxt := own_lt Oxt
  go_wp2_with fail
  obtain ⟨cxt, zxt, hleB⟩ := box1 w5 (.slice (some ⟨gxt, 0, none⟩) nt nt) 28
  replace cat := (hleB.cell zat).trans cat
  replace cb00 := (hleB.cell zb00).trans cb00
  replace zat := Nat.lt_of_lt_of_le zat hleB.size
  replace L0 := L0.trans hleB
  replace S00 := S00.le hleB
  replace zb00 := Nat.lt_of_lt_of_le zb00 hleB.size
  replace Oxt := own_le Oxt hleB
  clear hleB
  generalize w5.alloc (.cells #[.slice (some ⟨gxt, 0, none⟩) nt nt] 28) = w6 at *
  have s6 := zxt
  refine (iAddClass_any _ _ _ t s p _ (Sl.of_own Oxt rfl (by decide) hokt) hs hp).mono ?_
  rintro e w7 ⟨v10, rfl, D10, hle⟩
  have s7 := hle.size
  replace cat := (hle.cell zat).trans cat
  replace cb00 := (hle.cell zb00).trans cb00
  replace cxt := (hle.cell zxt).trans cxt
  replace zat := Nat.lt_of_lt_of_le zat hle.size
  replace L0 := L0.trans hle
  replace S00 := S00.le hle
  replace zb00 := Nat.lt_of_lt_of_le zb00 hle.size
  replace Oxt := own_le Oxt hle
  replace zxt := Nat.lt_of_lt_of_le zxt hle.size
  clear hle
  obtain ⟨A10, q10, rfl, S10, hB10⟩ := D10.form (by decide)
  have HB10 := Lib.hid hB10; clear hB10
  have okL10 := D10.ok
  have O10 := D10.row; clear S10
  clear D10
  go_wp2_with fail
  obtain ⟨cb10, zb10, hleB⟩ := box1 w7 (.slice A10 (addX t s p).length q10) 28
  replace cat := (hleB.cell zat).trans cat
  replace cb00 := (hleB.cell zb00).trans cb00
  replace cxt := (hleB.cell zxt).trans cxt
  replace zat := Nat.lt_of_lt_of_le zat hleB.size
  replace L0 := L0.trans hleB
  replace S00 := S00.le hleB
  replace zb00 := Nat.lt_of_lt_of_le zb00 hleB.size
  replace Oxt := own_le Oxt hleB
  replace zxt := Nat.lt_of_lt_of_le zxt hleB.size
  replace O10 := own_le O10 hleB
  clear hleB
  generalize w7.alloc (.cells #[.slice A10 (addX t s p).length q10] 28) = w8 at *
  have s8 := zb10
  refine (eqTree_self _ _ _ _ _ (addX t s p) _ (Sl.of_own O10 rfl (by decide) okL10) S00).mono ?_
  rintro e w9 ⟨rfl, hle⟩
  have s9 := hle.size
  replace cat := (hle.cell zat).trans cat
  replace cb00 := (hle.cell zb00).trans cb00
  replace cxt := (hle.cell zxt).trans cxt
  replace cb10 := (hle.cell zb10).trans cb10
  replace zat := Nat.lt_of_lt_of_le zat hle.size
  replace L0 := L0.trans hle
  replace S00 := S00.le hle
  replace zb00 := Nat.lt_of_lt_of_le zb00 hle.size
  replace Oxt := own_le Oxt hle
  replace zxt := Nat.lt_of_lt_of_le zxt hle.size
  replace O10 := own_le O10 hle
  replace zb10 := Nat.lt_of_lt_of_le zb10 hle.size
  clear hle
  go_wp2_with fail
  replace L0 := L0.drew
  replace S00 := S00.le (Le.refl _).drew
  replace Oxt := Oxt.drew
  replace O10 := O10.drew
  go_region_held3 (fun w' => w'.cell? ⟨w.heap.size, 0, none⟩ = some (.slice At nt ct) ∧ w'.cell? ⟨w5.heap.size, 0, none⟩ = some (.slice (some ⟨gxt, 0, none⟩) nt nt))
    (first | exact ⟨cat, cxt⟩)
    (first
    | (go_at_call 17; refine (toTree_any At nt ct t _ (ht.le L0) (by omega)).mono ?_; rintro e w10 ⟨gy, rfl, hgy, Oy, hle⟩; have s10 : w9.heap.size ≤ w10.heap.size := hle.size; replace cat := (hle.cell zat).trans cat; replace cb00 := (hle.cell zb00).trans cb00; replace cxt := (hle.cell zxt).trans cxt; replace cb10 := (hle.cell zb10).trans cb10; replace zat := Nat.lt_of_lt_of_le zat hle.size; replace L0 := L0.trans hle; replace S00 := S00.le hle; replace zb00 := Nat.lt_of_lt_of_le zb00 hle.size; replace Oxt := own_le Oxt hle; replace zxt := Nat.lt_of_lt_of_le zxt hle.size; replace O10 := own_le O10 hle; replace zb10 := Nat.lt_of_lt_of_le zb10 hle.size; clear hle; have Sy := Sl.of_own Oy rfl (by decide) hokt; clear Oy)
    | (go_at_call 19; refine (eqTree_self _ _ _ _ _ t _ (Sl.of_own Oxt rfl (by decide) hokt) Sy).mono ?_; rintro e w11 ⟨rfl, hle⟩; have s11 := hle.size; replace cat := (hle.cell zat).trans cat; replace cb00 := (hle.cell zb00).trans cb00; replace cxt := (hle.cell zxt).trans cxt; replace cb10 := (hle.cell zb10).trans cb10; replace zat := Nat.lt_of_lt_of_le zat hle.size; replace L0 := L0.trans hle; replace S00 := S00.le hle; replace zb00 := Nat.lt_of_lt_of_le zb00 hle.size; replace Oxt := own_le Oxt hle; replace zxt := Nat.lt_of_lt_of_le zxt hle.size; replace O10 := own_le O10 hle; replace zb10 := Nat.lt_of_lt_of_le zb10 hle.size; clear hle Sy))
  go_wp2_with fail
  refine (markTree_any _ _ _ _ _ _ _ Oxt (by omega) (by omega) (by omega)).mono ?_
  rintro e w12 ⟨rfl, _, hg⟩
  have s12 := hg.size
  replace cat := hg.cell (a := ⟨w.heap.size, 0, none⟩) cat (fun e => by have e1 : w.heap.size = gxt := (by injection e); omega)
  replace zat := Nat.lt_of_lt_of_le zat hg.size
  replace L0 := L0.grown hg (fun k hk => by have e1 : gxt = k := (by injection hk); omega)
  replace S00 := S00.grown hg (fun hn a e h => by have h1 := HU00.out hn a e; have h2 : a.block = gxt := (by injection h); omega)
  replace cb00 := hg.cell (a := ⟨w3.heap.size, 0, none⟩) cb00 (fun e => by have e1 : w3.heap.size = gxt := (by injection e); omega)
  replace zb00 := Nat.lt_of_lt_of_le zb00 hg.size
  replace cxt := hg.cell (a := ⟨w5.heap.size, 0, none⟩) cxt (fun e => by have e1 : w5.heap.size = gxt := (by injection e); omega)
  replace zxt := Nat.lt_of_lt_of_le zxt hg.size
  replace O10 := O10.kept hg (.inr (fun e => by have e1 : w6.heap.size ≤ gxt ∧ gxt < w7.heap.size := HB10.out _ e; omega))
  replace cb10 := hg.cell (a := ⟨w7.heap.size, 0, none⟩) cb10 (fun e => by have e1 : w7.heap.size = gxt := (by injection e); omega)
  replace zb10 := Nat.lt_of_lt_of_le zb10 hg.size
  clear hg Oxt
  clear cxt zxt
  have hkk : decide (1 + 2 * (nt : Int) < 0) = false := decide_eq_false (by omega)
  go_wp2_with fail
  refine (eqTree_self _ _ _ _ _ (addX t s p) _ (Sl.of_own O10 rfl (by decide) okL10) S00).mono ?_
  rintro e w13 ⟨rfl, hle⟩
  have s13 := hle.size
  replace cat := (hle.cell zat).trans cat
  replace cb00 := (hle.cell zb00).trans cb00
  replace cb10 := (hle.cell zb10).trans cb10
  replace zat := Nat.lt_of_lt_of_le zat hle.size
  replace L0 := L0.trans hle
  replace S00 := S00.le hle
  replace zb00 := Nat.lt_of_lt_of_le zb00 hle.size
  replace O10 := own_le O10 hle
  replace zb10 := Nat.lt_of_lt_of_le zb10 hle.size
  clear hle
  go_wp2_with fail
  refine (markTree_any _ _ _ _ _ _ _ O10 (by omega) (by omega) HL0).mono ?_
  rintro e w14 ⟨rfl, Om, hg⟩
  have s14 := hg.size
  replace cat := hg.cell (a := ⟨w.heap.size, 0, none⟩) cat (fun e => by have e1 : w6.heap.size ≤ w.heap.size ∧ w.heap.size < w7.heap.size := HB10.out _ e.symm; omega)
  replace zat := Nat.lt_of_lt_of_le zat hg.size
  replace L0 := L0.grown hg (fun k hk => by have e1 : w6.heap.size ≤ k ∧ k < w7.heap.size := HB10.out k hk; omega)
  replace S00 := S00.grown hg (fun hn a e h => by have h1 := HU00.out hn a e; have h2 : w6.heap.size ≤ a.block ∧ a.block < w7.heap.size := HB10.out _ h.symm; omega)
  replace cb00 := hg.cell (a := ⟨w3.heap.size, 0, none⟩) cb00 (fun e => by have e1 : w6.heap.size ≤ w3.heap.size ∧ w3.heap.size < w7.heap.size := HB10.out _ e.symm; omega)
  replace zb00 := Nat.lt_of_lt_of_le zb00 hg.size
  replace cb10 := hg.cell (a := ⟨w7.heap.size, 0, none⟩) cb10 (fun e => by have e1 : w6.heap.size ≤ w7.heap.size ∧ w7.heap.size < w7.heap.size := HB10.out _ e.symm; omega)
  replace zb10 := Nat.lt_of_lt_of_le zb10 hg.size
  clear hg O10
  have O10 := Om; clear Om
  go_wp2_with fail
  refine (heldTree_any _ _ _ _ _ (Sl.of_own O10 rfl (by decide) (mCls_ok (by omega) (by omega) HL0)) (by omega) (by omega) HL0).mono ?_
  rintro e w15 ⟨rfl, hle⟩
  have s15 := hle.size
  replace cat := (hle.cell zat).trans cat
  replace cb00 := (hle.cell zb00).trans cb00
  replace cb10 := (hle.cell zb10).trans cb10
  replace zat := Nat.lt_of_lt_of_le zat hle.size
  replace L0 := L0.trans hle
  replace S00 := S00.le hle
  replace zb00 := Nat.lt_of_lt_of_le zb00 hle.size
  replace O10 := own_le O10 hle
  replace zb10 := Nat.lt_of_lt_of_le zb10 hle.size
  clear hle
  have hqq0 : decide ((1 : Int) + 2 * ((addX t s p).length : Int) < 0) = false := decide_eq_false (by omega)
  go_wp2_with fail
  refine (toTree_any At nt ct t _ (ht.le L0) (by omega)).mono ?_
  rintro e w16 ⟨ght, rfl, hght, Oht, hle⟩
  have s16 := hle.size
  replace cat := (hle.cell zat).trans cat
  replace cb00 := (hle.cell zb00).trans cb00
  replace cb10 := (hle.cell zb10).trans cb10
  replace zat := Nat.lt_of_lt_of_le zat hle.size
  replace L0 := L0.trans hle
  replace S00 := S00.le hle
  replace zb00 := Nat.lt_of_lt_of_le zb00 hle.size
  replace O10 := own_le O10 hle
  replace zb10 := Nat.lt_of_lt_of_le zb10 hle.size
  clear hle
  have hbht := own_lt Oht
  go_wp2_with fail
  refine (iAddClass_any _ _ _ t s p _ (Sl.of_own Oht rfl (by decide) hokt) hs hp).mono ?_
  rintro e w17 ⟨v20, rfl, D20, hle⟩
  have s17 := hle.size
  replace cat := (hle.cell zat).trans cat
  replace cb00 := (hle.cell zb00).trans cb00
  replace cb10 := (hle.cell zb10).trans cb10
  replace zat := Nat.lt_of_lt_of_le zat hle.size
  replace L0 := L0.trans hle
  replace S00 := S00.le hle
  replace zb00 := Nat.lt_of_lt_of_le zb00 hle.size
  replace O10 := own_le O10 hle
  replace zb10 := Nat.lt_of_lt_of_le zb10 hle.size
  replace Oht := own_le Oht hle
  clear hle
  obtain ⟨A20, q20, rfl, S20, hB20⟩ := D20.form (by decide)
  have HB20 := Lib.hid hB20; clear hB20
  have okL20 := D20.ok
  have O20 := D20.row; clear S20
  clear D20
  clear Oht
  go_wp2_with fail
  obtain ⟨cb20, zb20, hleB⟩ := box1 w17 (.slice A20 (addX t s p).length q20) 28
  replace cat := (hleB.cell zat).trans cat
  replace cb00 := (hleB.cell zb00).trans cb00
  replace cb10 := (hleB.cell zb10).trans cb10
  replace zat := Nat.lt_of_lt_of_le zat hleB.size
  replace L0 := L0.trans hleB
  replace S00 := S00.le hleB
  replace zb00 := Nat.lt_of_lt_of_le zb00 hleB.size
  replace O10 := own_le O10 hleB
  replace zb10 := Nat.lt_of_lt_of_le zb10 hleB.size
  replace O20 := own_le O20 hleB
  clear hleB
  generalize w17.alloc (.cells #[.slice A20 (addX t s p).length q20] 28) = w18 at *
  have s18 := zb20
  refine (eqTree_self _ _ _ _ _ (addX t s p) _ (Sl.of_own O20 rfl (by decide) okL20) S00).mono ?_
  rintro e w19 ⟨rfl, hle⟩
  have s19 := hle.size
  replace cat := (hle.cell zat).trans cat
  replace cb00 := (hle.cell zb00).trans cb00
  replace cb10 := (hle.cell zb10).trans cb10
  replace cb20 := (hle.cell zb20).trans cb20
  replace zat := Nat.lt_of_lt_of_le zat hle.size
  replace L0 := L0.trans hle
  replace S00 := S00.le hle
  replace zb00 := Nat.lt_of_lt_of_le zb00 hle.size
  replace O10 := own_le O10 hle
  replace zb10 := Nat.lt_of_lt_of_le zb10 hle.size
  replace O20 := own_le O20 hle
  replace zb20 := Nat.lt_of_lt_of_le zb20 hle.size
  clear hle
  clear O20
  go_wp2_with fail
  refine (heldTree_any _ _ _ _ _ (Sl.of_own O10 rfl (by decide) (mCls_ok (by omega) (by omega) HL0)) (by omega) (by omega) HL0).mono ?_
  rintro e w20 ⟨rfl, hle⟩
  have s20 := hle.size
  replace cat := (hle.cell zat).trans cat
  replace cb00 := (hle.cell zb00).trans cb00
  replace cb10 := (hle.cell zb10).trans cb10
  replace cb20 := (hle.cell zb20).trans cb20
  replace zat := Nat.lt_of_lt_of_le zat hle.size
  replace L0 := L0.trans hle
  replace S00 := S00.le hle
  replace zb00 := Nat.lt_of_lt_of_le zb00 hle.size
  replace O10 := own_le O10 hle
  replace zb10 := Nat.lt_of_lt_of_le zb10 hle.size
  replace zb20 := Nat.lt_of_lt_of_le zb20 hle.size
  clear hle
  go_wp2
  go_ret
  exact ⟨rfl, L0⟩
end Go.Proofs.Ytlejfmhmpcimaaa
