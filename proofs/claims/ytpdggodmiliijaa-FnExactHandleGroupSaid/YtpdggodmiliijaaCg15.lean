/- one text of LawHandleGroup, TlPartST -/
import Derived.Test.YtpdggodmiliijaaCg1
import Derived.Test.YtpdggodmiliijaaCg2
import Derived.Test.YtpdggodmiliijaaCg8
import Derived.Test.YtpdggodmiliijaaCg14
namespace Go.Proofs.Ytpdggodmiliijaa
open Go.RowKit
set_option linter.unusedVariables false
section
theorem own_apart {hs : List Hdr} {u : Value} (h : ∀ (i : Nat) (x : Hdr), hs[i]? = some x → Apart x.v u) : ∀ k, u.ownBlock = some k → ¬ ∃ x ∈ hs, x.v.ownBlock = some k := by
  rintro k hk ⟨x, hx, e⟩
  obtain ⟨i, hi, rfl⟩ := List.getElem_of_mem hx
  rcases h i _ (List.getElem?_eq_getElem hi) with h1 | h1
  · rw [h1] at e; cases e
  · exact h1 (e.trans hk.symm)
theorem OwL.keptA {α : Type} [Enc α] {TT T : TypeId} {w0 w w' : World} {v u : Value} {hs : List Hdr} {L : List (List α)} (h : OwL TT T w0 w v hs L) (hg : w.grownBy w' u.ownBlock) (h1 : ∀ (i : Nat) (x : Hdr), hs[i]? = some x → Apart x.v u) (h2 : Apart v u) : OwL TT T w0 w' v hs L :=
  ⟨⟨h.top.row.kept hg h2, h.top.ok⟩, h.len, fun i x l e f => ⟨(h.each i x l e f).row.kept hg (h1 i x e), (h.each i x l e f).ok⟩, h.apart, h.off⟩

set_option maxHeartbeats 16000000 in
set_option maxRecDepth 100000 in
theorem exHandleGroup_walk (At : Option Addr) (nt ct : Nat) (t : List Cls) (Ag : Option Addr) (ng cg : Nat) (g : List Prt) (Al : Option Addr) (nl cl : Nat) (l : List Int) (w : World) (ht : Sl w At nt ct t) (hg : Sl w Ag ng cg g) (hl : Sl w Al nl cl l) :
    Calls Try.prog 6 #[.agg #[.slice At nt ct], .slice Ag ng cg, .slice Al nl cl] w fun e w' => e = .returned (.bool true) ∧ Le w w' := by
  have hokt := ht.ok
  have hmxt := ht.n_le
  have hokg := hg.ok
  have hmxg := hg.n_le
  have hokl := hl.ok
  have hmxl := hl.n_le
  have HL0 : tot (hgTX t g l) ≤ 1048576 := (hgTX_tot t g l).1
  have HLn0 : (hgTX t g l).length ≤ 1048576 := (hgTX_tot t g l).2
  have HL1 : (hgRX t g l).length ≤ 1048576 := hgRX_len t g l
  by_cases hbigl : 1048576 < nl
  · go_enter Try.func6, Try.ntmps6
    go_wp2
    go_ret
    exact ⟨rfl, Le.new w _⟩
  go_enter Try.func6, Try.ntmps6
  go_wp2_with fail
  obtain ⟨cat, zat, L0⟩ := box1 w (.slice At nt ct) 24
  have s0 : w.heap.size ≤ (w.alloc (.cells #[.slice At nt ct] 24)).heap.size := L0.size
  have sz0 := zat
  generalize w.alloc (.cells #[.slice At nt ct] 24) = W at *
  refine (szTree_any At nt ct t _ _ (ht.le L0) (by omega) (by omega)).mono ?_
  rintro e w1 ⟨rt, rfl, hr, hle⟩
  have s1 := hle.size
  replace cat := (hle.cell zat).trans cat
  replace zat := Nat.lt_of_lt_of_le zat hle.size
  replace L0 := L0.trans hle
  clear hle
  rcases hr with rfl | ⟨ht0, ht1, ht2⟩
  · go_wp2
    go_ret
    exact ⟨rfl, L0⟩
  have hnegt : decide (rt < 0) = false := decide_eq_false (by omega)
  go_wp2_with fail
  refine (szPartS_any Ag ng cg g _ _ (hg.le L0) (by omega) (by omega)).mono ?_
  rintro e w2 ⟨rg, rfl, hr, hle⟩
  have s2 := hle.size
  replace cat := (hle.cell zat).trans cat
  replace zat := Nat.lt_of_lt_of_le zat hle.size
  replace L0 := L0.trans hle
  clear hle
  rcases hr with rfl | ⟨hg0, hg1, hg2⟩
  · go_wp2
    go_ret
    exact ⟨rfl, L0⟩
  have hnegg : decide (rg < 0) = false := decide_eq_false (by omega)
  go_wp2_with fail
  refine (toTree_any At nt ct t _ (ht.le L0) (by omega)).mono ?_
  rintro e w3 ⟨gat, rfl, hgat, Oat, hle⟩
  have s3 := hle.size
  replace cat := (hle.cell zat).trans cat
  replace zat := Nat.lt_of_lt_of_le zat hle.size
  replace L0 := L0.trans hle
  clear hle
  have hbat := own_lt Oat
  go_wp2_with fail
  refine (toPartS_any Ag ng cg g _ (hg.le L0) (by omega)).mono ?_
  rintro e w4 ⟨rfl, Oag, hle⟩
  have s4 := hle.size
  replace cat := (hle.cell zat).trans cat
  replace zat := Nat.lt_of_lt_of_le zat hle.size
  replace L0 := L0.trans hle
  replace Oat := own_le Oat hle
  clear hle
  have hbag := own_lt Oag
  go_wp2_with fail
  refine (toIntS_any Al nl cl l _ (hl.le L0) (by omega)).mono ?_
  rintro e w5 ⟨rfl, Oal, hle⟩
  have s5 := hle.size
  replace cat := (hle.cell zat).trans cat
  replace zat := Nat.lt_of_lt_of_le zat hle.size
  replace L0 := L0.trans hle
  replace Oat := own_le Oat hle
  replace Oag := own_le Oag hle
  clear hle
  have hbal := own_lt Oal
  go_wp2_with fail
  refine (sHandleGroup_any _ _ _ _ _ _ _ _ _ t g l _ (Sl.of_own Oat rfl (by decide) hokt) (Sl.of_own Oag rfl (by decide) hokg) (Sl.of_own Oal rfl (by decide) hokl)).mono ?_
  rintro e w6 ⟨v00, hs00, v01, rfl, D00, D01, -, hle⟩
  have s6 := hle.size
  replace cat := (hle.cell zat).trans cat
  replace zat := Nat.lt_of_lt_of_le zat hle.size
  replace L0 := L0.trans hle
  replace Oat := own_le Oat hle
  replace Oag := own_le Oag hle
  replace Oal := own_le Oal hle
  clear hle
  obtain ⟨A00, q00, rfl, -⟩ := D00.form
  have S00 := D00.lsR (by decide)
  clear D00
  obtain ⟨A01, q01, rfl, S01, hB01⟩ := D01.form (by decide)
  have HB01 := Lib.hid hB01; clear hB01
  have okL01 := D01.ok
  have HU01 := Lib.hid (S01.under)
  clear D01
  clear Oat Oag Oal
  go_wp2_with fail
  refine (toTree_any At nt ct t _ (ht.le L0) (by omega)).mono ?_
  rintro e w7 ⟨gxt, rfl, hgxt, Oxt, hle⟩
  have s7 := hle.size
  replace cat := (hle.cell zat).trans cat
  replace zat := Nat.lt_of_lt_of_le zat hle.size
  replace L0 := L0.trans hle
  replace S00 := S00.le hle
  replace S01 := S01.le hle
  clear hle
  have hbxt := own_lt Oxt
  go_wp2_with fail
  obtain ⟨cxt, zxt, hleB⟩ := box1 w7 (.slice (some ⟨gxt, 0, none⟩) nt nt) 32
  replace cat := (hleB.cell zat).trans cat
  replace zat := Nat.lt_of_lt_of_le zat hleB.size
  replace L0 := L0.trans hleB
  replace S00 := S00.le hleB
  replace S01 := S01.le hleB
  replace Oxt := own_le Oxt hleB
  clear hleB
  generalize w7.alloc (.cells #[.slice (some ⟨gxt, 0, none⟩) nt nt] 32) = w8 at *
  have s8 := zxt
  refine (toPartS_any Ag ng cg g _ (hg.le L0) (by omega)).mono ?_
  rintro e w9 ⟨rfl, Oxg, hle⟩
  have s9 := hle.size
  replace cat := (hle.cell zat).trans cat
  replace cxt := (hle.cell zxt).trans cxt
  replace zat := Nat.lt_of_lt_of_le zat hle.size
  replace L0 := L0.trans hle
  replace S00 := S00.le hle
  replace S01 := S01.le hle
  replace Oxt := own_le Oxt hle
  replace zxt := Nat.lt_of_lt_of_le zxt hle.size
  clear hle
  have hbxg := own_lt Oxg
  go_wp2_with fail
  refine (toIntS_any Al nl cl l _ (hl.le L0) (by omega)).mono ?_
  rintro e w10 ⟨rfl, Oxl, hle⟩
  have s10 := hle.size
  replace cat := (hle.cell zat).trans cat
  replace cxt := (hle.cell zxt).trans cxt
  replace zat := Nat.lt_of_lt_of_le zat hle.size
  replace L0 := L0.trans hle
  replace S00 := S00.le hle
  replace S01 := S01.le hle
  replace Oxt := own_le Oxt hle
  replace zxt := Nat.lt_of_lt_of_le zxt hle.size
  replace Oxg := own_le Oxg hle
  clear hle
  have hbxl := own_lt Oxl
  go_wp2_with fail
  refine (iHandleGroup_any _ _ _ _ _ _ _ _ _ t g l _ (Sl.of_own Oxt rfl (by decide) hokt) (Sl.of_own Oxg rfl (by decide) hokg) (Sl.of_own Oxl rfl (by decide) hokl)).mono ?_
  rintro e w11 ⟨v10, hs10, v11, rfl, D10, D11, AP1, hle⟩
  have s11 := hle.size
  replace cat := (hle.cell zat).trans cat
  replace cxt := (hle.cell zxt).trans cxt
  replace zat := Nat.lt_of_lt_of_le zat hle.size
  replace L0 := L0.trans hle
  replace S00 := S00.le hle
  replace S01 := S01.le hle
  replace Oxt := own_le Oxt hle
  replace zxt := Nat.lt_of_lt_of_le zxt hle.size
  replace Oxg := own_le Oxg hle
  replace Oxl := own_le Oxl hle
  clear hle
  obtain ⟨A10, q10, rfl, -⟩ := D10.form
  have HK10 := Lib.hid D10.blk
  have SO10 := D10
  clear D10
  obtain ⟨A11, q11, rfl, S11, hB11⟩ := D11.form (by decide)
  have HB11 := Lib.hid hB11; clear hB11
  have okL11 := D11.ok
  have O11 := D11.row; clear S11
  clear D11
  have HAP1 := Lib.hid AP1; clear AP1
  go_wp2_with fail
  refine (eqPartSS_self _ _ _ _ _ _ _ (hgTX t g l) _ (SO10.lsR (by decide)).top (SO10.lsR (by decide)).rd S00.top S00.rd).mono ?_
  rintro e w12 ⟨rfl, hle⟩
  have s12 := hle.size
  replace cat := (hle.cell zat).trans cat
  replace cxt := (hle.cell zxt).trans cxt
  replace zat := Nat.lt_of_lt_of_le zat hle.size
  replace L0 := L0.trans hle
  replace S00 := S00.le hle
  replace S01 := S01.le hle
  replace Oxt := own_le Oxt hle
  replace zxt := Nat.lt_of_lt_of_le zxt hle.size
  replace Oxg := own_le Oxg hle
  replace Oxl := own_le Oxl hle
  replace SO10 := SO10.le hle
  replace O11 := own_le O11 hle
  clear hle
  go_wp2_with fail
  refine (eqPartS_self _ _ _ _ _ (hgRX t g l) _ (Sl.of_own O11 rfl (by decide) okL11) S01).mono ?_
  rintro e w13 ⟨rfl, hle⟩
  have s13 := hle.size
  replace cat := (hle.cell zat).trans cat
  replace cxt := (hle.cell zxt).trans cxt
  replace zat := Nat.lt_of_lt_of_le zat hle.size
  replace L0 := L0.trans hle
  replace S00 := S00.le hle
  replace S01 := S01.le hle
  replace Oxt := own_le Oxt hle
  replace zxt := Nat.lt_of_lt_of_le zxt hle.size
  replace Oxg := own_le Oxg hle
  replace Oxl := own_le Oxl hle
  replace SO10 := SO10.le hle
  replace O11 := own_le O11 hle
  clear hle
  go_wp2_with fail
  replace L0 := L0.drew
  replace S00 := S00.le (Le.refl _).drew
  replace S01 := S01.le (Le.refl _).drew
  replace Oxt := Oxt.drew
  replace Oxg := Oxg.drew
  replace Oxl := Oxl.drew
  replace SO10 := SO10.le (Le.refl _).drew
  replace O11 := O11.drew
  go_region_held3 (fun w' => w'.cell? ⟨w.heap.size, 0, none⟩ = some (.slice At nt ct) ∧ w'.cell? ⟨w7.heap.size, 0, none⟩ = some (.slice (some ⟨gxt, 0, none⟩) nt nt))
    (first | exact ⟨cat, cxt⟩)
    (first
    | (go_at_call 14; refine (toTree_any At nt ct t _ (ht.le L0) (by omega)).mono ?_; rintro e w14 ⟨gy, rfl, hgy, Oy, hle⟩; have s14 : w13.heap.size ≤ w14.heap.size := hle.size; replace cat := (hle.cell zat).trans cat; replace cxt := (hle.cell zxt).trans cxt; replace zat := Nat.lt_of_lt_of_le zat hle.size; replace L0 := L0.trans hle; replace S00 := S00.le hle; replace S01 := S01.le hle; replace Oxt := own_le Oxt hle; replace zxt := Nat.lt_of_lt_of_le zxt hle.size; replace Oxg := own_le Oxg hle; replace Oxl := own_le Oxl hle; replace SO10 := SO10.le hle; replace O11 := own_le O11 hle; clear hle; have Sy := Sl.of_own Oy rfl (by decide) hokt; clear Oy)
    | (go_at_call 18; refine (eqTree_self _ _ _ _ _ t _ (Sl.of_own Oxt rfl (by decide) hokt) Sy).mono ?_; rintro e w15 ⟨rfl, hle⟩; have s15 := hle.size; replace cat := (hle.cell zat).trans cat; replace cxt := (hle.cell zxt).trans cxt; replace zat := Nat.lt_of_lt_of_le zat hle.size; replace L0 := L0.trans hle; replace S00 := S00.le hle; replace S01 := S01.le hle; replace Oxt := own_le Oxt hle; replace zxt := Nat.lt_of_lt_of_le zxt hle.size; replace Oxg := own_le Oxg hle; replace Oxl := own_le Oxl hle; replace SO10 := SO10.le hle; replace O11 := own_le O11 hle; clear hle Sy))
  go_wp2_with fail
  refine (toPartS_any Ag ng cg g _ (hg.le L0) (by omega)).mono ?_
  rintro e w16 ⟨rfl, Oy, hle⟩
  have s16 := hle.size
  replace cat := (hle.cell zat).trans cat
  replace cxt := (hle.cell zxt).trans cxt
  replace zat := Nat.lt_of_lt_of_le zat hle.size
  replace L0 := L0.trans hle
  replace S00 := S00.le hle
  replace S01 := S01.le hle
  replace Oxt := own_le Oxt hle
  replace zxt := Nat.lt_of_lt_of_le zxt hle.size
  replace Oxg := own_le Oxg hle
  replace Oxl := own_le Oxl hle
  replace SO10 := SO10.le hle
  replace O11 := own_le O11 hle
  clear hle
  have hby := own_lt Oy
  have Sy := Sl.of_own Oy rfl (by decide) hokg; clear Oy hby
  go_wp2_with fail
  refine (eqPartS_self _ _ _ _ _ g _ (Sl.of_own Oxg rfl (by decide) hokg) Sy).mono ?_
  rintro e w17 ⟨rfl, hle⟩
  have s17 := hle.size
  replace cat := (hle.cell zat).trans cat
  replace cxt := (hle.cell zxt).trans cxt
  replace zat := Nat.lt_of_lt_of_le zat hle.size
  replace L0 := L0.trans hle
  replace S00 := S00.le hle
  replace S01 := S01.le hle
  replace Oxt := own_le Oxt hle
  replace zxt := Nat.lt_of_lt_of_le zxt hle.size
  replace Oxg := own_le Oxg hle
  replace Oxl := own_le Oxl hle
  replace SO10 := SO10.le hle
  replace O11 := own_le O11 hle
  clear hle
  clear Sy
  go_wp2_with fail
  refine (toIntS_any Al nl cl l _ (hl.le L0) (by omega)).mono ?_
  rintro e w18 ⟨rfl, Oy, hle⟩
  have s18 := hle.size
  replace cat := (hle.cell zat).trans cat
  replace cxt := (hle.cell zxt).trans cxt
  replace zat := Nat.lt_of_lt_of_le zat hle.size
  replace L0 := L0.trans hle
  replace S00 := S00.le hle
  replace S01 := S01.le hle
  replace Oxt := own_le Oxt hle
  replace zxt := Nat.lt_of_lt_of_le zxt hle.size
  replace Oxg := own_le Oxg hle
  replace Oxl := own_le Oxl hle
  replace SO10 := SO10.le hle
  replace O11 := own_le O11 hle
  clear hle
  have hby := own_lt Oy
  have Sy := Sl.of_own Oy rfl (by decide) hokl; clear Oy hby
  go_wp2_with fail
  refine (eqIntS_self _ _ _ _ _ l _ (Sl.of_own Oxl rfl (by decide) hokl) Sy).mono ?_
  rintro e w19 ⟨rfl, hle⟩
  have s19 := hle.size
  replace cat := (hle.cell zat).trans cat
  replace cxt := (hle.cell zxt).trans cxt
  replace zat := Nat.lt_of_lt_of_le zat hle.size
  replace L0 := L0.trans hle
  replace S00 := S00.le hle
  replace S01 := S01.le hle
  replace Oxt := own_le Oxt hle
  replace zxt := Nat.lt_of_lt_of_le zxt hle.size
  replace Oxg := own_le Oxg hle
  replace Oxl := own_le Oxl hle
  replace SO10 := SO10.le hle
  replace O11 := own_le O11 hle
  clear hle
  clear Sy
  go_wp2_with fail
  refine (markTree_any _ _ _ _ _ _ _ Oxt (by omega) (by omega) (by omega)).mono ?_
  rintro e w20 ⟨rfl, _, hg⟩
  have s20 := hg.size
  replace cat := hg.cell (a := ⟨w.heap.size, 0, none⟩) cat (fun e => by have e1 : w.heap.size = gxt := (by injection e); omega)
  replace zat := Nat.lt_of_lt_of_le zat hg.size
  replace L0 := L0.grown hg (fun k hk => by have e1 : gxt = k := (by injection hk); omega)
  replace S00 := S00.grown (b := gxt) hg (by omega)
  replace S01 := S01.grown hg (fun hn a e h => by have h1 := HU01.out hn a e; have h2 : a.block = gxt := (by injection h); omega)
  replace cxt := hg.cell (a := ⟨w7.heap.size, 0, none⟩) cxt (fun e => by have e1 : w7.heap.size = gxt := (by injection e); omega)
  replace zxt := Nat.lt_of_lt_of_le zxt hg.size
  replace Oxg := Oxg.kept hg (.inr (fun e => by have e1 : w8.heap.size = gxt := (by injection e); omega))
  replace Oxl := Oxl.kept hg (.inr (fun e => by have e1 : w9.heap.size = gxt := (by injection e); omega))
  replace SO10 := SO10.grown (b := gxt) hg (.inl (by omega))
  replace O11 := O11.kept hg (.inr (fun e => by have e1 : w10.heap.size ≤ gxt ∧ gxt < w11.heap.size := HB11.out _ e; omega))
  clear hg Oxt
  clear cxt zxt
  go_wp2_with fail
  refine (markPartS_any _ _ _ _ _ _ _ Oxg (by omega) (by omega) (by omega)).mono ?_
  rintro e w21 ⟨rfl, _, hg⟩
  have s21 := hg.size
  replace cat := hg.cell (a := ⟨w.heap.size, 0, none⟩) cat (fun e => by have e1 : w.heap.size = w8.heap.size := (by injection e); omega)
  replace zat := Nat.lt_of_lt_of_le zat hg.size
  replace L0 := L0.grown hg (fun k hk => by have e1 : w8.heap.size = k := (by injection hk); omega)
  replace S00 := S00.grown (b := w8.heap.size) hg (by omega)
  replace S01 := S01.grown hg (fun hn a e h => by have h1 := HU01.out hn a e; have h2 : a.block = w8.heap.size := (by injection h); omega)
  replace Oxl := Oxl.kept hg (.inr (fun e => by have e1 : w9.heap.size = w8.heap.size := (by injection e); omega))
  replace SO10 := SO10.grown (b := w8.heap.size) hg (.inl (by omega))
  replace O11 := O11.kept hg (.inr (fun e => by have e1 : w10.heap.size ≤ w8.heap.size ∧ w8.heap.size < w11.heap.size := HB11.out _ e; omega))
  clear hg Oxg
  go_wp2_with fail
  refine (markIntS_any _ _ _ _ _ _ _ Oxl (by omega) (by omega) (by omega)).mono ?_
  rintro e w22 ⟨rfl, _, hg⟩
  have s22 := hg.size
  replace cat := hg.cell (a := ⟨w.heap.size, 0, none⟩) cat (fun e => by have e1 : w.heap.size = w9.heap.size := (by injection e); omega)
  replace zat := Nat.lt_of_lt_of_le zat hg.size
  replace L0 := L0.grown hg (fun k hk => by have e1 : w9.heap.size = k := (by injection hk); omega)
  replace S00 := S00.grown (b := w9.heap.size) hg (by omega)
  replace S01 := S01.grown hg (fun hn a e h => by have h1 := HU01.out hn a e; have h2 : a.block = w9.heap.size := (by injection h); omega)
  replace SO10 := SO10.grown (b := w9.heap.size) hg (.inl (by omega))
  replace O11 := O11.kept hg (.inr (fun e => by have e1 : w10.heap.size ≤ w9.heap.size ∧ w9.heap.size < w11.heap.size := HB11.out _ e; omega))
  clear hg Oxl
  have hkk : decide (1 + 2 * (nt : Int) + 4 * (ng : Int) + (nl : Int) < 0) = false := decide_eq_false (by omega)
  go_wp2_with fail
  refine (eqPartSS_self _ _ _ _ _ _ _ (hgTX t g l) _ (SO10.lsR (by decide)).top (SO10.lsR (by decide)).rd S00.top S00.rd).mono ?_
  rintro e w23 ⟨rfl, hle⟩
  have s23 := hle.size
  replace cat := (hle.cell zat).trans cat
  replace zat := Nat.lt_of_lt_of_le zat hle.size
  replace L0 := L0.trans hle
  replace S00 := S00.le hle
  replace S01 := S01.le hle
  replace SO10 := SO10.le hle
  replace O11 := own_le O11 hle
  clear hle
  go_wp2_with fail
  refine (eqPartS_self _ _ _ _ _ (hgRX t g l) _ (Sl.of_own O11 rfl (by decide) okL11) S01).mono ?_
  rintro e w24 ⟨rfl, hle⟩
  have s24 := hle.size
  replace cat := (hle.cell zat).trans cat
  replace zat := Nat.lt_of_lt_of_le zat hle.size
  replace L0 := L0.trans hle
  replace S00 := S00.le hle
  replace S01 := S01.le hle
  replace SO10 := SO10.le hle
  replace O11 := own_le O11 hle
  clear hle
  go_wp2_with fail
  refine (markPartSS_any _ _ _ _ _ _ _ _ SO10 (by omega) (by omega) HL0 HLn0).mono ?_
  rintro e w25 ⟨rfl, Om, hg⟩
  have s25 := hg.size
  replace cat := hg.cell cat (fun e => by have := HK10.out _ e; omega)
  replace zat := Nat.lt_of_lt_of_le zat hg.size
  replace L0 := L0.grB hg (fun k hk => by have := HK10.out k hk; omega)
  replace S00 := S00.grB hg (fun k hk => by have := HK10.out k hk; omega)
  replace S01 := S01.grB hg (fun hn a e s => by have h1 := HU01.out hn a e; have h2 := HK10.out _ s; omega)
  replace O11 := own_grB O11 hg (own_apart HAP1.out.1)
  clear hg SO10
  have SO10 := Om; clear Om
  go_wp2_with fail
  refine (markPartS_any _ _ _ _ _ _ _ O11 (by omega) (by omega) HL1).mono ?_
  rintro e w26 ⟨rfl, Om, hg⟩
  have s26 := hg.size
  replace cat := hg.cell (a := ⟨w.heap.size, 0, none⟩) cat (fun e => by have e1 : w10.heap.size ≤ w.heap.size ∧ w.heap.size < w11.heap.size := HB11.out _ e.symm; omega)
  replace zat := Nat.lt_of_lt_of_le zat hg.size
  replace L0 := L0.grown hg (fun k hk => by have e1 : w10.heap.size ≤ k ∧ k < w11.heap.size := HB11.out k hk; omega)
  replace S00 := S00.grB (S := fun k => (Value.slice A11 (hgRX t g l).length q11).ownBlock = some k) (GrB.of_grown hg (fun k e => e)) (fun k e => by have := HB11.out k e; omega)
  replace S01 := S01.grown hg (fun hn a e h => by have h1 := HU01.out hn a e; have h2 : w10.heap.size ≤ a.block ∧ a.block < w11.heap.size := HB11.out _ h.symm; omega)
  replace SO10 := OwL.keptA SO10 hg HAP1.out.1 HAP1.out.2
  clear hg O11
  have O11 := Om; clear Om
  go_wp2_with fail
  refine (heldPartSS_any _ _ _ _ (hgTX t g l) _ _ (SO10.lsR (by decide)).top (SO10.lsR (by decide)).rd (by omega) (by omega) HL0 HLn0).mono ?_
  rintro e w27 ⟨rfl, hle⟩
  have s27 := hle.size
  replace cat := (hle.cell zat).trans cat
  replace zat := Nat.lt_of_lt_of_le zat hle.size
  replace L0 := L0.trans hle
  replace S00 := S00.le hle
  replace S01 := S01.le hle
  replace SO10 := SO10.le hle
  replace O11 := own_le O11 hle
  clear hle
  have hqq0 : decide ((1 : Int) + 4 * ((tot (hgTX t g l) : Nat) : Int) < 0) = false := decide_eq_false (by omega)
  go_wp2_with fail
  refine (heldPartS_any _ _ _ _ _ (Sl.of_own O11 rfl (by decide) (mPrt_ok (by omega) (by omega) HL1)) (by omega) (by omega) HL1).mono ?_
  rintro e w28 ⟨rfl, hle⟩
  have s28 := hle.size
  replace cat := (hle.cell zat).trans cat
  replace zat := Nat.lt_of_lt_of_le zat hle.size
  replace L0 := L0.trans hle
  replace S00 := S00.le hle
  replace S01 := S01.le hle
  replace SO10 := SO10.le hle
  replace O11 := own_le O11 hle
  clear hle
  have hqq1 : decide ((1 : Int) + 4 * ((hgRX t g l).length : Int) < 0) = false := decide_eq_false (by omega)
  go_wp2_with fail
  refine (toTree_any At nt ct t _ (ht.le L0) (by omega)).mono ?_
  rintro e w29 ⟨ght, rfl, hght, Oht, hle⟩
  have s29 := hle.size
  replace cat := (hle.cell zat).trans cat
  replace zat := Nat.lt_of_lt_of_le zat hle.size
  replace L0 := L0.trans hle
  replace S00 := S00.le hle
  replace S01 := S01.le hle
  replace SO10 := SO10.le hle
  replace O11 := own_le O11 hle
  clear hle
  have hbht := own_lt Oht
  go_wp2_with fail
  refine (toPartS_any Ag ng cg g _ (hg.le L0) (by omega)).mono ?_
  rintro e w30 ⟨rfl, Ohg, hle⟩
  have s30 := hle.size
  replace cat := (hle.cell zat).trans cat
  replace zat := Nat.lt_of_lt_of_le zat hle.size
  replace L0 := L0.trans hle
  replace S00 := S00.le hle
  replace S01 := S01.le hle
  replace SO10 := SO10.le hle
  replace O11 := own_le O11 hle
  replace Oht := own_le Oht hle
  clear hle
  have hbhg := own_lt Ohg
  go_wp2_with fail
  refine (toIntS_any Al nl cl l _ (hl.le L0) (by omega)).mono ?_
  rintro e w31 ⟨rfl, Ohl, hle⟩
  have s31 := hle.size
  replace cat := (hle.cell zat).trans cat
  replace zat := Nat.lt_of_lt_of_le zat hle.size
  replace L0 := L0.trans hle
  replace S00 := S00.le hle
  replace S01 := S01.le hle
  replace SO10 := SO10.le hle
  replace O11 := own_le O11 hle
  replace Oht := own_le Oht hle
  replace Ohg := own_le Ohg hle
  clear hle
  have hbhl := own_lt Ohl
  go_wp2_with fail
  refine (iHandleGroup_any _ _ _ _ _ _ _ _ _ t g l _ (Sl.of_own Oht rfl (by decide) hokt) (Sl.of_own Ohg rfl (by decide) hokg) (Sl.of_own Ohl rfl (by decide) hokl)).mono ?_
  rintro e w32 ⟨v20, hs20, v21, rfl, D20, D21, -, hle⟩
  have s32 := hle.size
  replace cat := (hle.cell zat).trans cat
  replace zat := Nat.lt_of_lt_of_le zat hle.size
  replace L0 := L0.trans hle
  replace S00 := S00.le hle
  replace S01 := S01.le hle
  replace SO10 := SO10.le hle
  replace O11 := own_le O11 hle
  replace Oht := own_le Oht hle
  replace Ohg := own_le Ohg hle
  replace Ohl := own_le Ohl hle
  clear hle
  obtain ⟨A20, q20, rfl, -⟩ := D20.form
  have HK20 := Lib.hid D20.blk
  have SO20 := D20
  clear D20
  obtain ⟨A21, q21, rfl, S21, hB21⟩ := D21.form (by decide)
  have HB21 := Lib.hid hB21; clear hB21
  have okL21 := D21.ok
  have O21 := D21.row; clear S21
  clear D21
  clear Oht
  clear Ohg
  clear Ohl
  go_wp2_with fail
  refine (eqPartSS_self _ _ _ _ _ _ _ (hgTX t g l) _ (SO20.lsR (by decide)).top (SO20.lsR (by decide)).rd S00.top S00.rd).mono ?_
  rintro e w33 ⟨rfl, hle⟩
  have s33 := hle.size
  replace cat := (hle.cell zat).trans cat
  replace zat := Nat.lt_of_lt_of_le zat hle.size
  replace L0 := L0.trans hle
  replace S00 := S00.le hle
  replace S01 := S01.le hle
  replace SO10 := SO10.le hle
  replace O11 := own_le O11 hle
  replace SO20 := SO20.le hle
  replace O21 := own_le O21 hle
  clear hle
  go_wp2_with fail
  refine (eqPartS_self _ _ _ _ _ (hgRX t g l) _ (Sl.of_own O21 rfl (by decide) okL21) S01).mono ?_
  rintro e w34 ⟨rfl, hle⟩
  have s34 := hle.size
  replace cat := (hle.cell zat).trans cat
  replace zat := Nat.lt_of_lt_of_le zat hle.size
  replace L0 := L0.trans hle
  replace S00 := S00.le hle
  replace S01 := S01.le hle
  replace SO10 := SO10.le hle
  replace O11 := own_le O11 hle
  replace SO20 := SO20.le hle
  replace O21 := own_le O21 hle
  clear hle
  clear SO20
  clear O21
  go_wp2_with fail
  refine (heldPartSS_any _ _ _ _ (hgTX t g l) _ _ (SO10.lsR (by decide)).top (SO10.lsR (by decide)).rd (by omega) (by omega) HL0 HLn0).mono ?_
  rintro e w35 ⟨rfl, hle⟩
  have s35 := hle.size
  replace cat := (hle.cell zat).trans cat
  replace zat := Nat.lt_of_lt_of_le zat hle.size
  replace L0 := L0.trans hle
  replace S00 := S00.le hle
  replace S01 := S01.le hle
  replace SO10 := SO10.le hle
  replace O11 := own_le O11 hle
  clear hle
  go_wp2_with fail
  refine (heldPartS_any _ _ _ _ _ (Sl.of_own O11 rfl (by decide) (mPrt_ok (by omega) (by omega) HL1)) (by omega) (by omega) HL1).mono ?_
  rintro e w36 ⟨rfl, hle⟩
  have s36 := hle.size
  replace cat := (hle.cell zat).trans cat
  replace zat := Nat.lt_of_lt_of_le zat hle.size
  replace L0 := L0.trans hle
  replace S00 := S00.le hle
  replace S01 := S01.le hle
  replace SO10 := SO10.le hle
  replace O11 := own_le O11 hle
  clear hle
  go_wp2
  go_ret
  exact ⟨rfl, L0⟩
end

section
theorem szPartS_sub (A : Option Addr) (n cap : Nat) (xs : List Prt) (left : Int) (w : World) (hR : Sl w A n cap xs) (h0 : 0 ≤ left) (h1 : left ≤ 1048576) :
    Calls Try.prog 12 #[.slice A n cap, .int .i64 left] w fun e w' => (e = .returned (.int .i64 (-1)) ∨ ((n : Int) ≤ left ∧ e = .returned (.int .i64 (left - n)))) ∧ Le w w' := by
  have hm := hR.n_le
  by_cases h : left - n < 0
  · go_enter Try.func12, Try.ntmps12
    go_wp2
    go_ret
    exact ⟨.inl rfl, Le.refl w⟩
  · go_enter Try.func12, Try.ntmps12
    go_wp2
    go_ret
    exact ⟨.inr ⟨by omega, rfl⟩, Le.refl w⟩
theorem szPartSS_any (A : Option Addr) (n cap : Nat) (hs : List Hdr) (L : List (List Prt)) (left : Int) (w : World) (S : Sl w A n cap hs) (R : Rd2 w hs L) (h0 : 0 ≤ left) (h1 : left ≤ 1048576) :
    Calls Try.prog 39 #[.slice A n cap, .int .i64 left] w (SzOut left (n + tot L) w) := by
  have hm := S.n_le
  have hl1 : n ≤ L.length := by have := R.len; have := S.len; omega
  have hl2 : L.length ≤ n := by have := R.len; have := S.len; omega
  have hl3 : hs.length ≤ n := by have := S.len; omega
  have hl4 : n ≤ hs.length := by have := S.len; omega
  by_cases h : left - n < 0
  · go_enter Try.func39, Try.ntmps39
    go_wp2
    go_ret
    exact ⟨-1, rfl, .inl rfl, Le.refl w⟩
  · have hd : decide (left - n < 0) = false := decide_eq_false h
    have hr1 : 0 ≤ left - n := by omega
    clear h
    go_enter Try.func39, Try.ntmps39
    go_wp2
    go_loopw [1, 5] (fun z i wr => ∃ (k : Nat) (r : Int), k ≤ n ∧ i = .int .i64 k ∧ z = .int .i64 r ∧ 0 ≤ r ∧ r ≤ left ∧ (n : Int) + (tot (L.take k) : Nat) + r ≤ left ∧ Le w wr) (fun _ i _ => n - (intOf i).toNat)
    case atStart => exact ⟨0, left - n, Nat.zero_le _, rfl, rfl, hr1, by omega, by simp [tot]; omega, Le.refl _⟩
    case round =>
      obtain ⟨k, r, hk, rfl, rfl, hr0, hrl, hsum, hle⟩ := hrel
      by_cases hlt : k < n
      · have hlh : k < hs.length := by omega
        have hlL : k < L.length := by omega
        obtain ⟨b, off, rfl, hb, hcell⟩ := (S.le hle).hdr_at hlh
        have sk := (R.le hle).each k _ _ (List.getElem?_eq_getElem hlh) (List.getElem?_eq_getElem hlL)
        have HT := Lib.hid (tot_take_succ hlL)
        have HLN := Lib.hid sk.len
        clear hd
        go_wp2_with fail
        refine (szPartS_sub _ _ _ L[k] r _ sk hr0 (by omega)).mono ?_
        rintro e w2 ⟨hr, hle2⟩
        have HL := Lib.hid (hle.trans hle2)
        rcases hr with rfl | ⟨g2, rfl⟩
        · go_wp2
          go_ret
          exact ⟨-1, rfl, .inl rfl, HL.out⟩
        · have hneg : decide (r - hs[k].n < 0) = false := decide_eq_false (by omega)
          have hsum2 : (n : Int) + (tot (L.take (k + 1)) : Nat) + (r - hs[k].n) ≤ left := by rw [HT.out, HLN.out]; omega
          have HS := Lib.hid hsum2
          clear hsum2
          go_wp2
          go_roundw
          case rel => exact ⟨k + 1, r - hs[k].n, by omega, by go_num, rfl, by omega, by omega, HS.out, HL.out⟩
          case measure => simp [intOf]; omega
      · obtain rfl : k = n := by omega
        rw [List.take_of_length_le (by omega)] at hsum
        have HS := Lib.hid hsum
        clear hsum
        go_wp2
        go_ret
        exact ⟨r, rfl, .inr ⟨hr0, hrl, by have := HS.out; omega⟩, hle⟩
theorem toPartSS_any (A : Option Addr) (n cap : Nat) (hs : List Hdr) (L : List (List Prt)) (w : World) (S : Sl w A n cap hs) (R : Rd2 w hs L) (hn : n ≤ 1048576) (ht : tot L ≤ 1048576) :
    Calls Try.prog 41 #[.slice A n cap] w fun e w' => ∃ ks, e = .returned (.slice (some ⟨w.heap.size, 0, none⟩) n n) ∧ OwL 34 70 w w' (.slice (some ⟨w.heap.size, 0, none⟩) n n) ks L ∧ Le w w' := by
  obtain ⟨i0, hi, hz0, hz1, hz2⟩ := info_parts infoPartSl
  have hl1 : n ≤ L.length := by have := R.len; have := S.len; omega
  have hl2 : L.length ≤ n := by have := R.len; have := S.len; omega
  have hl3 : hs.length ≤ n := by have := S.len; omega
  have hl4 : n ≤ hs.length := by have := S.len; omega
  go_enter Try.func41, Try.ntmps41
  go_wp2_with (refine wpList_make_full _ rfl _ _ 48 rfl w.heap.size 34 i0 _ 1 Try.underlying48 hi hz0 hz1 .i64 .i64 _ _ n rfl rfl rfl rfl (by rw [hz2]; omega) (by unfold maxLen; omega) (Nat.le_refl _) ?_; intro w1 hown1 hg1)
  have L0 := (Le.refl w).grown hg1 (by intro k hk; cases hk)
  have O0 : OwL 34 70 w w1 (.slice (some ⟨w.heap.size, 0, none⟩) n n) _ (List.replicate n ([] : List Prt)) := OwL.made (by
    have h := hown1
    rw [Nat.mul_one] at h
    have e : (madeCells (Value.slice none 0 0).cells n).toList = List.replicate n (.slice none 0 0) := toList_madeCells_one _ _
    rw [e] at h; exact h)
  clear hown1 hg1
  go_loopw [4] (fun i wr => ∃ (k : Nat) (ks : List Hdr), k ≤ n ∧ i = .int .i64 k ∧ OwL 34 70 w wr (.slice (some ⟨w.heap.size, 0, none⟩) n n) ks (L.take k ++ List.replicate (n - k) []) ∧ Le w wr) (fun i _ => n - (intOf i).toNat)
  case atStart => exact ⟨0, _, Nat.zero_le _, rfl, O0, L0⟩
  case round =>
    obtain ⟨k, ks, hk, rfl, O1, L1⟩ := hrel
    clear O0 L0
    by_cases hlt : k < n
    · have hlh : k < hs.length := by omega
      have hlL : k < L.length := by omega
      obtain ⟨b, off, rfl, hb, hcell⟩ := (S.le L1).hdr_at hlh
      have sk := (R.le L1).each k _ _ (List.getElem?_eq_getElem hlh) (List.getElem?_eq_getElem hlL)
      have hsz := tot_get_le hlL
      have hln := sk.len
      have hkn : hs[k].n ≤ 1048576 := by omega
      have hhl : ks.length = n := by have h1 := O1.len; rw [List.length_append, List.length_take, List.length_replicate] at h1; omega
      have HHL := Lib.hid hhl
      have HLN := Lib.hid hln
      have HST : Hid ((L.take k ++ List.replicate (n - k) []).set k L[k] = L.take (k + 1) ++ List.replicate (n - (k + 1)) []) := by
        show _ = _
        rw [set_rep _ _ _ (by rw [List.length_take]; omega) hlt, List.take_succ_eq_append_getElem hlL]
      have HO1 := Lib.hid O1
      clear hln hhl hsz O1
      go_wp2_with fail
      refine (toPartS_any _ _ _ L[k] _ sk hkn).mono ?_
      rintro e w2 ⟨rfl, O2, hl2⟩
      have O9 := HO1.out.le hl2
      have row9 : w2.ownsRow w.heap.size 34 1 (.slice (some ⟨w.heap.size, 0, none⟩) n n) n (ks.flatMap Enc.cells) := by
        have := O9.top.row; rw [HHL.out] at this; exact this
      have hcx : ∃ z, w2.cell? ⟨w.heap.size, k, none⟩ = some z := by
        have hfl : (ks.flatMap (Enc.cells (α := Hdr))).length = ks.length * 1 := flat_len ks
        rw [row9.cellAt k (by omega)]
        exact ⟨_, List.getElem?_eq_getElem (by rw [hfl, HHL.out]; omega)⟩
      obtain ⟨z, hcx⟩ := hcx
      have hfx := row9.frozenAt k
      have Om : Owd 70 wr w2 (.slice (some ⟨wr.heap.size, 0, none⟩) hs[k].n hs[k].n) L[k] := ⟨by rw [HLN.out]; exact O2, sk.ok⟩
      obtain ⟨lat1, lat2⟩ := OwL.later HO1.out (Nat.le_refl _) Om
      have hst := row9.stored k (.slice (some ⟨wr.heap.size, 0, none⟩) hs[k].n hs[k].n)
      have hset := flat_hdr_set ks k ⟨some ⟨wr.heap.size, 0, none⟩, hs[k].n, hs[k].n⟩
      have HP : Hid (OwL 34 70 w (w2.setCell ⟨w.heap.size, k, none⟩ (.slice (some ⟨wr.heap.size, 0, none⟩) hs[k].n hs[k].n)) (.slice (some ⟨w.heap.size, 0, none⟩) n n) (ks.set k ⟨some ⟨wr.heap.size, 0, none⟩, hs[k].n, hs[k].n⟩) (L.take (k + 1) ++ List.replicate (n - (k + 1)) [])) := by
        show OwL _ _ _ _ _ _ _
        rw [← HST.out]
        refine OwL.put O9 (by rw [HHL.out]; exact hlt) ⟨((Om.mono L1).row).kept hst.2 lat1, Om.ok⟩ lat1 lat2 ?_ hst.2
        have h1 := hst.1
        rw [show (ks.flatMap (Enc.cells (α := Hdr))).set k (.slice (some ⟨wr.heap.size, 0, none⟩) hs[k].n hs[k].n) = _ from hset] at h1
        rw [HHL.out]; exact h1
      have HL : Hid (Le w (w2.setCell ⟨w.heap.size, k, none⟩ (.slice (some ⟨wr.heap.size, 0, none⟩) hs[k].n hs[k].n))) := (L1.trans hl2).setCell (Nat.le_refl _) _
      clear hset hst row9 O9 O2 Om lat1 lat2 sk
      go_wp2
      go_roundw
      case rel => exact ⟨k + 1, _, by omega, by go_num, HP.out, HL.out⟩
      case measure => simp [intOf]; omega
    · obtain rfl : k = n := by omega
      rw [List.take_of_length_le (by omega), Nat.sub_self, List.replicate_zero, List.append_nil] at O1
      have HO := Lib.hid O1
      clear O1
      go_wp2
      go_ret
      exact ⟨ks, rfl, HO.out, L1⟩
end
end Go.Proofs.Ytpdggodmiliijaa
