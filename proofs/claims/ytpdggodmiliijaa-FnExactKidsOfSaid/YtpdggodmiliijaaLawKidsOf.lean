import Derived.Test.YtpdggodmiliijaaTlClass
import Derived.Test.YtpdggodmiliijaaTlPartSS
import Derived.Test.YtpdggodmiliijaaItS
namespace Go.Proofs.Ytpdggodmiliijaa
open Go.RowKit

set_option maxHeartbeats 16000000 in
set_option maxRecDepth 100000 in
theorem exKidsOf_walk (At : Option Addr) (nt ct : Nat) (t : List Cls) (Ag : Option Addr) (ng cg : Nat) (g : List Prt) (w : World) (ht : Sl w At nt ct t) (hg : Sl w Ag ng cg g) :
    Calls Try.prog 7 #[.agg #[.slice At nt ct], .slice Ag ng cg] w fun e w' => e = .returned (.bool true) ∧ Le w w' := by
  have hokt := ht.ok
  have hmxt := ht.n_le
  have hokg := hg.ok
  have hmxg := hg.n_le
  have HL0 : tot (kidsX t g) ≤ 1048576 := (kidsX_tot t g).1
  have HLn0 : (kidsX t g).length ≤ 1048576 := (kidsX_tot t g).2
  go_enter Try.func7, Try.ntmps7
  go_wp2_with fail
  obtain ⟨cat, zat, L0⟩ := box1 w (.slice At nt ct) 24
  have s0 : w.heap.size ≤ (w.alloc (.cells #[.slice At nt ct] 24)).heap.size := L0.size
  have sz0 := zat
  generalize w.alloc (.cells #[.slice At nt ct] 24) = W at *
  refine (szTree_any At nt ct t _ _ (ht.le L0) (by omega) (by omega)).mono ?_
  rintro e w1 ⟨rt, rfl, hr, hle⟩
  have s1 := hle.size
  replace cat := (hle.cell zat).trans cat
  replace zat := Nat.lt_of_lt_of_le zat hle.size
  replace L0 := L0.trans hle
  clear hle
  rcases hr with rfl | ⟨ht0, ht1, ht2⟩
  · go_wp2
    go_ret
    exact ⟨rfl, L0⟩
  have hnegt : decide (rt < 0) = false := decide_eq_false (by omega)
  go_wp2_with fail
  refine (szPartS_any Ag ng cg g _ _ (hg.le L0) (by omega) (by omega)).mono ?_
  rintro e w2 ⟨rg, rfl, hr, hle⟩
  have s2 := hle.size
  replace cat := (hle.cell zat).trans cat
  replace zat := Nat.lt_of_lt_of_le zat hle.size
  replace L0 := L0.trans hle
  clear hle
  rcases hr with rfl | ⟨hg0, hg1, hg2⟩
  · go_wp2
    go_ret
    exact ⟨rfl, L0⟩
  have hnegg : decide (rg < 0) = false := decide_eq_false (by omega)
  go_wp2_with fail
  refine (toTree_any At nt ct t _ (ht.le L0) (by omega)).mono ?_
  rintro e w3 ⟨gat, rfl, hgat, Oat, hle⟩
  have s3 := hle.size
  replace cat := (hle.cell zat).trans cat
  replace zat := Nat.lt_of_lt_of_le zat hle.size
  replace L0 := L0.trans hle
  clear hle
  have hbat := own_lt Oat
  go_wp2_with fail
  refine (toPartS_any Ag ng cg g _ (hg.le L0) (by omega)).mono ?_
  rintro e w4 ⟨rfl, Oag, hle⟩
  have s4 := hle.size
  replace cat := (hle.cell zat).trans cat
  replace zat := Nat.lt_of_lt_of_le zat hle.size
  replace L0 := L0.trans hle
  replace Oat := own_le Oat hle
  clear hle
  have hbag := own_lt Oag
  go_wp2_with fail
  refine (sKidsOf_any _ _ _ _ _ _ t g _ (Sl.of_own Oat rfl (by decide) hokt) (Sl.of_own Oag rfl (by decide) hokg)).mono ?_
  rintro e w5 ⟨v00, hs00, rfl, D00, hle⟩
  have s5 := hle.size
  replace cat := (hle.cell zat).trans cat
  replace zat := Nat.lt_of_lt_of_le zat hle.size
  replace L0 := L0.trans hle
  replace Oat := own_le Oat hle
  replace Oag := own_le Oag hle
  clear hle
  obtain ⟨A00, q00, rfl, -⟩ := D00.form
  have S00 := D00.lsR (by decide)
  clear D00
  clear Oat Oag
  go_wp2_with fail
  refine (toTree_any At nt ct t _ (ht.le L0) (by omega)).mono ?_
  rintro e w6 ⟨gxt, rfl, hgxt, Oxt, hle⟩
  have s6 := hle.size
  replace cat := (hle.cell zat).trans cat
  replace zat := Nat.lt_of_lt_of_le zat hle.size
  replace L0 := L0.trans hle
  replace S00 := S00.le hle
  clear hle
  have hbxt := own_lt Oxt
  go_wp2_with fail
  obtain ⟨cxt, zxt, hleB⟩ := box1 w6 (.slice (some ⟨gxt, 0, none⟩) nt nt) 32
  replace cat := (hleB.cell zat).trans cat
  replace zat := Nat.lt_of_lt_of_le zat hleB.size
  replace L0 := L0.trans hleB
  replace S00 := S00.le hleB
  replace Oxt := own_le Oxt hleB
  clear hleB
  generalize w6.alloc (.cells #[.slice (some ⟨gxt, 0, none⟩) nt nt] 32) = w7 at *
  have s7 := zxt
  refine (toPartS_any Ag ng cg g _ (hg.le L0) (by omega)).mono ?_
  rintro e w8 ⟨rfl, Oxg, hle⟩
  have s8 := hle.size
  replace cat := (hle.cell zat).trans cat
  replace cxt := (hle.cell zxt).trans cxt
  replace zat := Nat.lt_of_lt_of_le zat hle.size
  replace L0 := L0.trans hle
  replace S00 := S00.le hle
  replace Oxt := own_le Oxt hle
  replace zxt := Nat.lt_of_lt_of_le zxt hle.size
  clear hle
  have hbxg := own_lt Oxg
  go_wp2_with fail
  refine (iKidsOf_any _ _ _ _ _ _ t g _ (Sl.of_own Oxt rfl (by decide) hokt) (Sl.of_own Oxg rfl (by decide) hokg)).mono ?_
  rintro e w9 ⟨v10, hs10, rfl, D10, hle⟩
  have s9 := hle.size
  replace cat := (hle.cell zat).trans cat
  replace cxt := (hle.cell zxt).trans cxt
  replace zat := Nat.lt_of_lt_of_le zat hle.size
  replace L0 := L0.trans hle
  replace S00 := S00.le hle
  replace Oxt := own_le Oxt hle
  replace zxt := Nat.lt_of_lt_of_le zxt hle.size
  replace Oxg := own_le Oxg hle
  clear hle
  obtain ⟨A10, q10, rfl, -⟩ := D10.form
  have HK10 := Lib.hid D10.blk
  have SO10 := D10
  clear D10
  go_wp2_with fail
  refine (eqPartSS_self _ _ _ _ _ _ _ (kidsX t g) _ (SO10.lsR (by decide)).top (SO10.lsR (by decide)).rd S00.top S00.rd).mono ?_
  rintro e w10 ⟨rfl, hle⟩
  have s10 := hle.size
  replace cat := (hle.cell zat).trans cat
  replace cxt := (hle.cell zxt).trans cxt
  replace zat := Nat.lt_of_lt_of_le zat hle.size
  replace L0 := L0.trans hle
  replace S00 := S00.le hle
  replace Oxt := own_le Oxt hle
  replace zxt := Nat.lt_of_lt_of_le zxt hle.size
  replace Oxg := own_le Oxg hle
  replace SO10 := SO10.le hle
  clear hle
  go_wp2_with fail
  replace L0 := L0.drew
  replace S00 := S00.le (Le.refl _).drew
  replace Oxt := Oxt.drew
  replace Oxg := Oxg.drew
  replace SO10 := SO10.le (Le.refl _).drew
  go_region_held3 (fun w' => w'.cell? ⟨w.heap.size, 0, none⟩ = some (.slice At nt ct) ∧ w'.cell? ⟨w6.heap.size, 0, none⟩ = some (.slice (some ⟨gxt, 0, none⟩) nt nt))
    (first | exact ⟨cat, cxt⟩)
    (first
    | (go_at_call 14; refine (toTree_any At nt ct t _ (ht.le L0) (by omega)).mono ?_; rintro e w11 ⟨gy, rfl, hgy, Oy, hle⟩; have s11 : w10.heap.size ≤ w11.heap.size := hle.size; replace cat := (hle.cell zat).trans cat; replace cxt := (hle.cell zxt).trans cxt; replace zat := Nat.lt_of_lt_of_le zat hle.size; replace L0 := L0.trans hle; replace S00 := S00.le hle; replace Oxt := own_le Oxt hle; replace zxt := Nat.lt_of_lt_of_le zxt hle.size; replace Oxg := own_le Oxg hle; replace SO10 := SO10.le hle; clear hle; have Sy := Sl.of_own Oy rfl (by decide) hokt; clear Oy)
    | (go_at_call 18; refine (eqTree_self _ _ _ _ _ t _ (Sl.of_own Oxt rfl (by decide) hokt) Sy).mono ?_; rintro e w12 ⟨rfl, hle⟩; have s12 := hle.size; replace cat := (hle.cell zat).trans cat; replace cxt := (hle.cell zxt).trans cxt; replace zat := Nat.lt_of_lt_of_le zat hle.size; replace L0 := L0.trans hle; replace S00 := S00.le hle; replace Oxt := own_le Oxt hle; replace zxt := Nat.lt_of_lt_of_le zxt hle.size; replace Oxg := own_le Oxg hle; replace SO10 := SO10.le hle; clear hle Sy))
  go_wp2_with fail
  refine (toPartS_any Ag ng cg g _ (hg.le L0) (by omega)).mono ?_
  rintro e w13 ⟨rfl, Oy, hle⟩
  have s13 := hle.size
  replace cat := (hle.cell zat).trans cat
  replace cxt := (hle.cell zxt).trans cxt
  replace zat := Nat.lt_of_lt_of_le zat hle.size
  replace L0 := L0.trans hle
  replace S00 := S00.le hle
  replace Oxt := own_le Oxt hle
  replace zxt := Nat.lt_of_lt_of_le zxt hle.size
  replace Oxg := own_le Oxg hle
  replace SO10 := SO10.le hle
  clear hle
  have hby := own_lt Oy
  have Sy := Sl.of_own Oy rfl (by decide) hokg; clear Oy hby
  go_wp2_with fail
  refine (eqPartS_self _ _ _ _ _ g _ (Sl.of_own Oxg rfl (by decide) hokg) Sy).mono ?_
  rintro e w14 ⟨rfl, hle⟩
  have s14 := hle.size
  replace cat := (hle.cell zat).trans cat
  replace cxt := (hle.cell zxt).trans cxt
  replace zat := Nat.lt_of_lt_of_le zat hle.size
  replace L0 := L0.trans hle
  replace S00 := S00.le hle
  replace Oxt := own_le Oxt hle
  replace zxt := Nat.lt_of_lt_of_le zxt hle.size
  replace Oxg := own_le Oxg hle
  replace SO10 := SO10.le hle
  clear hle
  clear Sy
  go_wp2_with fail
  refine (markTree_any _ _ _ _ _ _ _ Oxt (by omega) (by omega) (by omega)).mono ?_
  rintro e w15 ⟨rfl, _, hg⟩
  have s15 := hg.size
  replace cat := hg.cell (a := ⟨w.heap.size, 0, none⟩) cat (fun e => by have e1 : w.heap.size = gxt := (by injection e); omega)
  replace zat := Nat.lt_of_lt_of_le zat hg.size
  replace L0 := L0.grown hg (fun k hk => by have e1 : gxt = k := (by injection hk); omega)
  replace S00 := S00.grown (b := gxt) hg (by omega)
  replace cxt := hg.cell (a := ⟨w6.heap.size, 0, none⟩) cxt (fun e => by have e1 : w6.heap.size = gxt := (by injection e); omega)
  replace zxt := Nat.lt_of_lt_of_le zxt hg.size
  replace Oxg := Oxg.kept hg (.inr (fun e => by have e1 : w7.heap.size = gxt := (by injection e); omega))
  replace SO10 := SO10.grown (b := gxt) hg (.inl (by omega))
  clear hg Oxt
  clear cxt zxt
  go_wp2_with fail
  refine (markPartS_any _ _ _ _ _ _ _ Oxg (by omega) (by omega) (by omega)).mono ?_
  rintro e w16 ⟨rfl, _, hg⟩
  have s16 := hg.size
  replace cat := hg.cell (a := ⟨w.heap.size, 0, none⟩) cat (fun e => by have e1 : w.heap.size = w7.heap.size := (by injection e); omega)
  replace zat := Nat.lt_of_lt_of_le zat hg.size
  replace L0 := L0.grown hg (fun k hk => by have e1 : w7.heap.size = k := (by injection hk); omega)
  replace S00 := S00.grown (b := w7.heap.size) hg (by omega)
  replace SO10 := SO10.grown (b := w7.heap.size) hg (.inl (by omega))
  clear hg Oxg
  have hkk : decide (1 + 2 * (nt : Int) + 4 * (ng : Int) < 0) = false := decide_eq_false (by omega)
  go_wp2_with fail
  refine (eqPartSS_self _ _ _ _ _ _ _ (kidsX t g) _ (SO10.lsR (by decide)).top (SO10.lsR (by decide)).rd S00.top S00.rd).mono ?_
  rintro e w17 ⟨rfl, hle⟩
  have s17 := hle.size
  replace cat := (hle.cell zat).trans cat
  replace zat := Nat.lt_of_lt_of_le zat hle.size
  replace L0 := L0.trans hle
  replace S00 := S00.le hle
  replace SO10 := SO10.le hle
  clear hle
  go_wp2_with fail
  refine (markPartSS_any _ _ _ _ _ _ _ _ SO10 (by omega) (by omega) HL0 HLn0).mono ?_
  rintro e w18 ⟨rfl, Om, hg⟩
  have s18 := hg.size
  replace cat := hg.cell cat (fun e => by have := HK10.out _ e; omega)
  replace zat := Nat.lt_of_lt_of_le zat hg.size
  replace L0 := L0.grB hg (fun k hk => by have := HK10.out k hk; omega)
  replace S00 := S00.grB hg (fun k hk => by have := HK10.out k hk; omega)
  clear hg SO10
  have SO10 := Om; clear Om
  go_wp2_with fail
  refine (heldPartSS_any _ _ _ _ (kidsX t g) _ _ (SO10.lsR (by decide)).top (SO10.lsR (by decide)).rd (by omega) (by omega) HL0 HLn0).mono ?_
  rintro e w19 ⟨rfl, hle⟩
  have s19 := hle.size
  replace cat := (hle.cell zat).trans cat
  replace zat := Nat.lt_of_lt_of_le zat hle.size
  replace L0 := L0.trans hle
  replace S00 := S00.le hle
  replace SO10 := SO10.le hle
  clear hle
  have hqq0 : decide ((1 : Int) + 4 * ((tot (kidsX t g) : Nat) : Int) < 0) = false := decide_eq_false (by omega)
  go_wp2_with fail
  refine (toTree_any At nt ct t _ (ht.le L0) (by omega)).mono ?_
  rintro e w20 ⟨ght, rfl, hght, Oht, hle⟩
  have s20 := hle.size
  replace cat := (hle.cell zat).trans cat
  replace zat := Nat.lt_of_lt_of_le zat hle.size
  replace L0 := L0.trans hle
  replace S00 := S00.le hle
  replace SO10 := SO10.le hle
  clear hle
  have hbht := own_lt Oht
  go_wp2_with fail
  refine (toPartS_any Ag ng cg g _ (hg.le L0) (by omega)).mono ?_
  rintro e w21 ⟨rfl, Ohg, hle⟩
  have s21 := hle.size
  replace cat := (hle.cell zat).trans cat
  replace zat := Nat.lt_of_lt_of_le zat hle.size
  replace L0 := L0.trans hle
  replace S00 := S00.le hle
  replace SO10 := SO10.le hle
  replace Oht := own_le Oht hle
  clear hle
  have hbhg := own_lt Ohg
  go_wp2_with fail
  refine (iKidsOf_any _ _ _ _ _ _ t g _ (Sl.of_own Oht rfl (by decide) hokt) (Sl.of_own Ohg rfl (by decide) hokg)).mono ?_
  rintro e w22 ⟨v20, hs20, rfl, D20, hle⟩
  have s22 := hle.size
  replace cat := (hle.cell zat).trans cat
  replace zat := Nat.lt_of_lt_of_le zat hle.size
  replace L0 := L0.trans hle
  replace S00 := S00.le hle
  replace SO10 := SO10.le hle
  replace Oht := own_le Oht hle
  replace Ohg := own_le Ohg hle
  clear hle
  obtain ⟨A20, q20, rfl, -⟩ := D20.form
  have HK20 := Lib.hid D20.blk
  have SO20 := D20
  clear D20
  clear Oht
  clear Ohg
  go_wp2_with fail
  refine (eqPartSS_self _ _ _ _ _ _ _ (kidsX t g) _ (SO20.lsR (by decide)).top (SO20.lsR (by decide)).rd S00.top S00.rd).mono ?_
  rintro e w23 ⟨rfl, hle⟩
  have s23 := hle.size
  replace cat := (hle.cell zat).trans cat
  replace zat := Nat.lt_of_lt_of_le zat hle.size
  replace L0 := L0.trans hle
  replace S00 := S00.le hle
  replace SO10 := SO10.le hle
  replace SO20 := SO20.le hle
  clear hle
  clear SO20
  go_wp2_with fail
  refine (heldPartSS_any _ _ _ _ (kidsX t g) _ _ (SO10.lsR (by decide)).top (SO10.lsR (by decide)).rd (by omega) (by omega) HL0 HLn0).mono ?_
  rintro e w24 ⟨rfl, hle⟩
  have s24 := hle.size
  replace cat := (hle.cell zat).trans cat
  replace zat := Nat.lt_of_lt_of_le zat hle.size
  replace L0 := L0.trans hle
  replace S00 := S00.le hle
  replace SO10 := SO10.le hle
  clear hle
  go_wp2
  go_ret
  exact ⟨rfl, L0⟩
end Go.Proofs.Ytpdggodmiliijaa
