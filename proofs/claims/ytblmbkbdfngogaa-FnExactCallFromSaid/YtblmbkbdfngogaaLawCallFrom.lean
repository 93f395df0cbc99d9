import Derived.Test.YtblmbkbdfngogaaTlFrame
import Derived.Test.YtblmbkbdfngogaaTrI
namespace Go.Proofs.Ytblmbkbdfngogaa
open Go.RowKit

set_option maxHeartbeats 16000000 in
set_option maxRecDepth 100000 in
theorem exCallFrom_walk (Al : Option Addr) (nl cl : Nat) (l : List Frm) (f : Frm) (w : World) (hl : Sl w Al nl cl l) (hf : Enc.ok f) :
    Calls Try.prog 4 #[.slice Al nl cl, .agg #[.string f.fn, .int .i64 f.line]] w fun e w' => e = .returned (.bool true) ∧ Le w w' := by
  have hokl := hl.ok
  have hmxl := hl.n_le
  have HL0 : (callX l f).length ≤ 1048576 := callX_len l f
  go_enter Try.func4, Try.ntmps4
  go_wp2_with fail
  obtain ⟨cf0, cf1, zf0, L0⟩ := boxF w f 30
  have zf1 := zf0
  have sz0 := zf0
  have s0 := L0.size
  generalize w.alloc (.cells #[.string f.fn, .int .i64 f.line] 30) = W at *
  refine (szFrameS_any Al nl cl l _ _ (hl.le L0) (by omega) (by omega)).mono ?_
  rintro e w1 ⟨rl, rfl, hr, hle⟩
  have s1 := hle.size
  replace cf0 := (hle.cell zf0).trans cf0
  replace cf1 := (hle.cell zf1).trans cf1
  replace zf0 := Nat.lt_of_lt_of_le zf0 hle.size
  replace zf1 := Nat.lt_of_lt_of_le zf1 hle.size
  replace L0 := L0.trans hle
  clear hle
  rcases hr with rfl | ⟨hl0, hl1, hl2⟩
  · go_wp2
    go_ret
    exact ⟨rfl, L0⟩
  have hnegl : decide (rl < 0) = false := decide_eq_false (by omega)
  go_wp2_with fail
  refine (szFrame_any f _ _ hf (by omega) (by omega)).mono ?_
  rintro e w2 ⟨rf, rfl, hr, hle⟩
  have s2 := hle.size
  replace cf0 := (hle.cell zf0).trans cf0
  replace cf1 := (hle.cell zf1).trans cf1
  replace zf0 := Nat.lt_of_lt_of_le zf0 hle.size
  replace zf1 := Nat.lt_of_lt_of_le zf1 hle.size
  replace L0 := L0.trans hle
  clear hle
  rcases hr with rfl | ⟨hf0, hf1, hf2⟩
  · go_wp2
    go_ret
    exact ⟨rfl, L0⟩
  have hnegf : decide (rf < 0) = false := decide_eq_false (by omega)
  go_wp2_with fail
  replace L0 := L0.drew
  go_region_held3 (fun w' => w'.cell? ⟨w.heap.size, 0, none⟩ = some (.string f.fn) ∧ w'.cell? ⟨w.heap.size, 1, none⟩ = some (.int .i64 f.line))
    (first | exact ⟨cf0, cf1⟩)
    (first
    | (go_at_call 16; refine (toFrameS_any Al nl cl l _ (hl.le L0) (by omega)).mono ?_; rintro e w3 ⟨rfl, Oal, hle⟩; have s3 : w2.heap.size ≤ w3.heap.size := hle.size; replace cf0 := (hle.cell zf0).trans cf0; replace cf1 := (hle.cell zf1).trans cf1; replace zf0 := Nat.lt_of_lt_of_le zf0 hle.size; replace zf1 := Nat.lt_of_lt_of_le zf1 hle.size; replace L0 := L0.trans hle; clear hle; have hbal := own_lt Oal)
    | (go_at_call 21; refine (toFrame_any f _).mono ?_; rintro e w4 ⟨rfl, hle⟩; have s4 : w3.heap.size ≤ w4.heap.size := hle.size; replace cf0 := (hle.cell zf0).trans cf0; replace cf1 := (hle.cell zf1).trans cf1; replace zf0 := Nat.lt_of_lt_of_le zf0 hle.size; replace zf1 := Nat.lt_of_lt_of_le zf1 hle.size; replace L0 := L0.trans hle; replace Oal := own_le Oal hle; clear hle)
    | (go_at_call 20; refine (sCallFrom_any _ _ _ l f _ (Sl.of_own Oal rfl (by decide) hokl) hf (by omega)).mono ?_; rintro e w5 ⟨v00, rfl, D00, hle⟩; have s5 : w4.heap.size ≤ w5.heap.size := hle.size; replace cf0 := (hle.cell zf0).trans cf0; replace cf1 := (hle.cell zf1).trans cf1; replace zf0 := Nat.lt_of_lt_of_le zf0 hle.size; replace zf1 := Nat.lt_of_lt_of_le zf1 hle.size; replace L0 := L0.trans hle; replace Oal := own_le Oal hle; clear hle))
  obtain ⟨A00, q00, rfl, S00, hB00⟩ := D00.form (by decide)
  have HB00 := Lib.hid hB00; clear hB00
  have okL00 := D00.ok
  have HU00 := Lib.hid (S00.under)
  clear D00
  clear Oal
  go_wp2_with fail
  refine (toFrameS_any Al nl cl l _ (hl.le L0) (by omega)).mono ?_
  rintro e w6 ⟨rfl, Oxl, hle⟩
  have s6 := hle.size
  replace cf0 := (hle.cell zf0).trans cf0
  replace cf1 := (hle.cell zf1).trans cf1
  replace zf0 := Nat.lt_of_lt_of_le zf0 hle.size
  replace zf1 := Nat.lt_of_lt_of_le zf1 hle.size
  replace L0 := L0.trans hle
  replace S00 := S00.le hle
  clear hle
  have hbxl := own_lt Oxl
  go_wp2_with fail
  refine (toFrame_any f _).mono ?_
  rintro e w7 ⟨rfl, hle⟩
  have s7 := hle.size
  replace cf0 := (hle.cell zf0).trans cf0
  replace cf1 := (hle.cell zf1).trans cf1
  replace zf0 := Nat.lt_of_lt_of_le zf0 hle.size
  replace zf1 := Nat.lt_of_lt_of_le zf1 hle.size
  replace L0 := L0.trans hle
  replace S00 := S00.le hle
  replace Oxl := own_le Oxl hle
  clear hle
  go_wp2_with fail
  refine (iCallFrom_any _ _ _ l f _ (Sl.of_own Oxl rfl (by decide) hokl) hf (by omega)).mono ?_
  rintro e w8 ⟨v10, rfl, D10, hle⟩
  have s8 := hle.size
  replace cf0 := (hle.cell zf0).trans cf0
  replace cf1 := (hle.cell zf1).trans cf1
  replace zf0 := Nat.lt_of_lt_of_le zf0 hle.size
  replace zf1 := Nat.lt_of_lt_of_le zf1 hle.size
  replace L0 := L0.trans hle
  replace S00 := S00.le hle
  replace Oxl := own_le Oxl hle
  clear hle
  obtain ⟨A10, q10, rfl, S10, hB10⟩ := D10.form (by decide)
  have HB10 := Lib.hid hB10; clear hB10
  have okL10 := D10.ok
  have O10 := D10.row; clear S10
  clear D10
  go_wp2_with fail
  refine (eqFrameS_self _ _ _ _ _ (callX l f) _ (Sl.of_own O10 rfl (by decide) okL10) S00).mono ?_
  rintro e w9 ⟨rfl, hle⟩
  have s9 := hle.size
  replace cf0 := (hle.cell zf0).trans cf0
  replace cf1 := (hle.cell zf1).trans cf1
  replace zf0 := Nat.lt_of_lt_of_le zf0 hle.size
  replace zf1 := Nat.lt_of_lt_of_le zf1 hle.size
  replace L0 := L0.trans hle
  replace S00 := S00.le hle
  replace Oxl := own_le Oxl hle
  replace O10 := own_le O10 hle
  clear hle
  go_wp2_with fail
  refine (toFrameS_any Al nl cl l _ (hl.le L0) (by omega)).mono ?_
  rintro e w10 ⟨rfl, Oy, hle⟩
  have s10 := hle.size
  replace cf0 := (hle.cell zf0).trans cf0
  replace cf1 := (hle.cell zf1).trans cf1
  replace zf0 := Nat.lt_of_lt_of_le zf0 hle.size
  replace zf1 := Nat.lt_of_lt_of_le zf1 hle.size
  replace L0 := L0.trans hle
  replace S00 := S00.le hle
  replace Oxl := own_le Oxl hle
  replace O10 := own_le O10 hle
  clear hle
  have hby := own_lt Oy
  have Sy := Sl.of_own Oy rfl (by decide) hokl; clear Oy hby
  go_wp2_with fail
  refine (eqFrameS_self _ _ _ _ _ l _ (Sl.of_own Oxl rfl (by decide) hokl) Sy).mono ?_
  rintro e w11 ⟨rfl, hle⟩
  have s11 := hle.size
  replace cf0 := (hle.cell zf0).trans cf0
  replace cf1 := (hle.cell zf1).trans cf1
  replace zf0 := Nat.lt_of_lt_of_le zf0 hle.size
  replace zf1 := Nat.lt_of_lt_of_le zf1 hle.size
  replace L0 := L0.trans hle
  replace S00 := S00.le hle
  replace Oxl := own_le Oxl hle
  replace O10 := own_le O10 hle
  clear hle
  clear Sy
  go_wp2_with fail
  refine (markFrameS_any _ _ _ _ _ _ _ Oxl (by omega) (by omega) (by omega)).mono ?_
  rintro e w12 ⟨rfl, _, hg⟩
  have s12 := hg.size
  replace cf0 := hg.cell (a := ⟨w.heap.size, 0, none⟩) cf0 (fun e => by have e1 : w.heap.size = w5.heap.size := (by injection e); omega)
  replace zf0 := Nat.lt_of_lt_of_le zf0 hg.size
  replace cf1 := hg.cell (a := ⟨w.heap.size, 1, none⟩) cf1 (fun e => by have e1 : w.heap.size = w5.heap.size := (by injection e); omega)
  replace zf1 := Nat.lt_of_lt_of_le zf1 hg.size
  replace L0 := L0.grown hg (fun k hk => by have e1 : w5.heap.size = k := (by injection hk); omega)
  replace S00 := S00.grown hg (fun hn a e h => by have h1 := HU00.out hn a e; have h2 : a.block = w5.heap.size := (by injection h); omega)
  replace O10 := O10.kept hg (.inr (fun e => by have e1 : w7.heap.size ≤ w5.heap.size ∧ w5.heap.size < w8.heap.size := HB10.out _ e; omega))
  clear hg Oxl
  have hkk : decide (1 + 2 * (nl : Int) < 0) = false := decide_eq_false (by omega)
  go_wp2_with fail
  refine (eqFrameS_self _ _ _ _ _ (callX l f) _ (Sl.of_own O10 rfl (by decide) okL10) S00).mono ?_
  rintro e w13 ⟨rfl, hle⟩
  have s13 := hle.size
  replace cf0 := (hle.cell zf0).trans cf0
  replace cf1 := (hle.cell zf1).trans cf1
  replace zf0 := Nat.lt_of_lt_of_le zf0 hle.size
  replace zf1 := Nat.lt_of_lt_of_le zf1 hle.size
  replace L0 := L0.trans hle
  replace S00 := S00.le hle
  replace O10 := own_le O10 hle
  clear hle
  go_wp2_with fail
  refine (markFrameS_any _ _ _ _ _ _ _ O10 (by omega) (by omega) HL0).mono ?_
  rintro e w14 ⟨rfl, Om, hg⟩
  have s14 := hg.size
  replace cf0 := hg.cell (a := ⟨w.heap.size, 0, none⟩) cf0 (fun e => by have e1 : w7.heap.size ≤ w.heap.size ∧ w.heap.size < w8.heap.size := HB10.out _ e.symm; omega)
  replace zf0 := Nat.lt_of_lt_of_le zf0 hg.size
  replace cf1 := hg.cell (a := ⟨w.heap.size, 1, none⟩) cf1 (fun e => by have e1 : w7.heap.size ≤ w.heap.size ∧ w.heap.size < w8.heap.size := HB10.out _ e.symm; omega)
  replace zf1 := Nat.lt_of_lt_of_le zf1 hg.size
  replace L0 := L0.grown hg (fun k hk => by have e1 : w7.heap.size ≤ k ∧ k < w8.heap.size := HB10.out k hk; omega)
  replace S00 := S00.grown hg (fun hn a e h => by have h1 := HU00.out hn a e; have h2 : w7.heap.size ≤ a.block ∧ a.block < w8.heap.size := HB10.out _ h.symm; omega)
  clear hg O10
  have O10 := Om; clear Om
  go_wp2_with fail
  refine (heldFrameS_any _ _ _ _ _ (Sl.of_own O10 rfl (by decide) (mFrm_ok (by omega) (by omega) HL0)) (by omega) (by omega) HL0).mono ?_
  rintro e w15 ⟨rfl, hle⟩
  have s15 := hle.size
  replace cf0 := (hle.cell zf0).trans cf0
  replace cf1 := (hle.cell zf1).trans cf1
  replace zf0 := Nat.lt_of_lt_of_le zf0 hle.size
  replace zf1 := Nat.lt_of_lt_of_le zf1 hle.size
  replace L0 := L0.trans hle
  replace S00 := S00.le hle
  replace O10 := own_le O10 hle
  clear hle
  have hqq0 : decide ((1 : Int) + 2 * ((callX l f).length : Int) < 0) = false := decide_eq_false (by omega)
  go_wp2_with fail
  replace L0 := L0.drew
  replace S00 := S00.le (Le.refl _).drew
  replace O10 := O10.drew
  go_region_held3 (fun w' => w'.cell? ⟨w.heap.size, 0, none⟩ = some (.string f.fn) ∧ w'.cell? ⟨w.heap.size, 1, none⟩ = some (.int .i64 f.line))
    (first | exact ⟨cf0, cf1⟩)
    (first
    | (go_at_call 16; refine (toFrameS_any Al nl cl l _ (hl.le L0) (by omega)).mono ?_; rintro e w16 ⟨rfl, Ohl, hle⟩; have s16 : w15.heap.size ≤ w16.heap.size := hle.size; replace cf0 := (hle.cell zf0).trans cf0; replace cf1 := (hle.cell zf1).trans cf1; replace zf0 := Nat.lt_of_lt_of_le zf0 hle.size; replace zf1 := Nat.lt_of_lt_of_le zf1 hle.size; replace L0 := L0.trans hle; replace S00 := S00.le hle; replace O10 := own_le O10 hle; clear hle; have hbhl := own_lt Ohl)
    | (go_at_call 21; refine (toFrame_any f _).mono ?_; rintro e w17 ⟨rfl, hle⟩; have s17 : w16.heap.size ≤ w17.heap.size := hle.size; replace cf0 := (hle.cell zf0).trans cf0; replace cf1 := (hle.cell zf1).trans cf1; replace zf0 := Nat.lt_of_lt_of_le zf0 hle.size; replace zf1 := Nat.lt_of_lt_of_le zf1 hle.size; replace L0 := L0.trans hle; replace S00 := S00.le hle; replace O10 := own_le O10 hle; replace Ohl := own_le Ohl hle; clear hle)
    | (go_at_call 22; refine (iCallFrom_any _ _ _ l f _ (Sl.of_own Ohl rfl (by decide) hokl) hf (by omega)).mono ?_; rintro e w18 ⟨v20, rfl, D20, hle⟩; have s18 : w17.heap.size ≤ w18.heap.size := hle.size; replace cf0 := (hle.cell zf0).trans cf0; replace cf1 := (hle.cell zf1).trans cf1; replace zf0 := Nat.lt_of_lt_of_le zf0 hle.size; replace zf1 := Nat.lt_of_lt_of_le zf1 hle.size; replace L0 := L0.trans hle; replace S00 := S00.le hle; replace O10 := own_le O10 hle; replace Ohl := own_le Ohl hle; clear hle))
  obtain ⟨A20, q20, rfl, S20, hB20⟩ := D20.form (by decide)
  have HB20 := Lib.hid hB20; clear hB20
  have okL20 := D20.ok
  have O20 := D20.row; clear S20
  clear D20
  clear Ohl
  go_wp2_with fail
  refine (eqFrameS_self _ _ _ _ _ (callX l f) _ (Sl.of_own O20 rfl (by decide) okL20) S00).mono ?_
  rintro e w19 ⟨rfl, hle⟩
  have s19 := hle.size
  replace cf0 := (hle.cell zf0).trans cf0
  replace cf1 := (hle.cell zf1).trans cf1
  replace zf0 := Nat.lt_of_lt_of_le zf0 hle.size
  replace zf1 := Nat.lt_of_lt_of_le zf1 hle.size
  replace L0 := L0.trans hle
  replace S00 := S00.le hle
  replace O10 := own_le O10 hle
  replace O20 := own_le O20 hle
  clear hle
  clear O20
  go_wp2_with fail
  refine (heldFrameS_any _ _ _ _ _ (Sl.of_own O10 rfl (by decide) (mFrm_ok (by omega) (by omega) HL0)) (by omega) (by omega) HL0).mono ?_
  rintro e w20 ⟨rfl, hle⟩
  have s20 := hle.size
  replace cf0 := (hle.cell zf0).trans cf0
  replace cf1 := (hle.cell zf1).trans cf1
  replace zf0 := Nat.lt_of_lt_of_le zf0 hle.size
  replace zf1 := Nat.lt_of_lt_of_le zf1 hle.size
  replace L0 := L0.trans hle
  replace S00 := S00.le hle
  replace O10 := own_le O10 hle
  clear hle
  go_wp2
  go_ret
  exact ⟨rfl, L0⟩
end Go.Proofs.Ytblmbkbdfngogaa
