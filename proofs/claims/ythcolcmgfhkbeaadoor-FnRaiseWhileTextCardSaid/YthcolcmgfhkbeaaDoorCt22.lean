/- one text of RWi, RW, FRaiseWhileText, H -/
import Derived.Test.YthcolcmgfhkbeaaDoorCt7
import Derived.Test.YthcolcmgfhkbeaaDoorCt8
import Derived.Test.YthcolcmgfhkbeaaDoorCt17
import Derived.Test.YthcolcmgfhkbeaaDoorCt3
import Derived.Test.YthcolcmgfhkbeaaDoorCt1
import Derived.ProofKit
import Derived.OpenShut
import Derived.ShutString
import Derived.ChangeOld
import Derived.Deep.Slices
import Derived.Lib.SmallJoins
namespace Go.Proofs.YthcolcmgfhkbeaaDoor
open Go.RowKit
set_option linter.unusedVariables false
section
set_option maxHeartbeats 8000000 in
set_option maxRecDepth 100000 in
theorem iRaiseW_any (A H : Option Addr) (n cap m c : Nat) (xs : List Cls) (hs : List Flt) (f g : Int) (w : World) (hH : Sl w H m c hs) (hgf : goodF xs hs f = true) (hgg : goodF xs hs g = true) (hG : GotErr w) :
    Calls Tryd.prog 53 #[.agg #[.slice A n cap], .agg #[.slice H m c], .int .i64 f, .int .i64 g] w fun e w' => ∃ v, e = .returned (.agg #[v]) ∧ Owd 49 w w' v (raisedL hs f g) ∧ Le w w' := by
  obtain rfl := hH.len
  obtain ⟨cA, zA, c0, z0, c1, z1, L0⟩ := box3 w (.slice A n cap) (.slice H hs.length c) (.slice none 0 0) 25 28 28
  have f1 : (((w.alloc (.cells #[.slice A n cap] 25)).alloc (.cells #[.slice H hs.length c] 28)).alloc (.cells #[.slice none 0 0] 28)).frozen? ⟨w.heap.size + 1 + 1, 0, none⟩ = false := World.frozen?_alloc_at _ _ _ _ (by simp)
  have S0 := hH.le L0
  have HOKH := Lib.hid hH.ok
  have hfew := goodF_few hgf
  obtain ⟨fi, rfl, hfi⟩ := goodF_at hgf
  have hg2 := goodF_in hgg
  have hch := ctxCh_of hgg
  have hgr : -9223372036854775808 ≤ g ∧ g ≤ 9223372036854775807 := by have := hg2.2; omega
  have hfi3 : (fi : Int) < (hs.length : Int) := by omega
  have hgp := hg2.2.1
  obtain ⟨gi, hgi, hgil⟩ := goodF_at hgg
  have HLK := Lib.hid hg2.1
  have HUN : Hid (∀ a, H = some a → 0 < hs.length → a.block < w.heap.size) := fun a e h => hH.under h a e
  clear hg2 hgf hgg
  go_enter Tryd.func53, Tryd.ntmps53
  go_wp2_with fail
  generalize ((w.alloc (.cells #[.slice A n cap] 25)).alloc (.cells #[.slice H hs.length c] 28)).alloc (.cells #[.slice none 0 0] 28) = w3 at *
  have y1 := z1
  refine (iCopyHeap_any H hs.length c hs w3 S0 (by omega)).mono ?_
  rintro e w4 ⟨v, rfl, D, hle⟩
  obtain ⟨gb, q, rfl, O, hg0, hg1⟩ := D.blk (by omega)
  replace cA := (hle.cell zA).trans cA
  replace c0 := (hle.cell z0).trans c0
  replace c1 := (hle.cell z1).trans c1
  replace f1 := (hle.frozen z1).trans f1
  replace zA := Nat.lt_of_lt_of_le zA hle.size
  replace z0 := Nat.lt_of_lt_of_le z0 hle.size
  replace z1 := Nat.lt_of_lt_of_le z1 hle.size
  replace L0 := L0.trans hle
  replace S0 := S0.le hle
  have hs4 := hle.size
  clear hle D
  have cB : (w4.alloc (.cells #[.slice (some ⟨gb, 0, none⟩) hs.length q] 28)).cell? ⟨w4.heap.size, 0, none⟩ = some (.slice (some ⟨gb, 0, none⟩) hs.length q) := by rw [World.cell?_alloc_at _ _ _ _ rfl]; rfl
  have zB : w4.heap.size < (w4.alloc (.cells #[.slice (some ⟨gb, 0, none⟩) hs.length q] 28)).heap.size := by simp
  have LB := Le.new w4 (.cells #[.slice (some ⟨gb, 0, none⟩) hs.length q] 28)
  replace cA := (LB.cell zA).trans cA
  replace c0 := (LB.cell z0).trans c0
  replace c1 := (LB.cell z1).trans c1
  replace f1 := (LB.frozen z1).trans f1
  replace zA := Nat.lt_of_lt_of_le zA LB.size
  replace z0 := Nat.lt_of_lt_of_le z0 LB.size
  replace z1 := Nat.lt_of_lt_of_le z1 LB.size
  replace L0 := L0.trans LB
  replace S0 := S0.le LB
  replace O := own_le O LB
  clear LB
  by_cases hfg : (fi : Int) = g
  · subst hfg
    have hb1 : ((fi : Int) == (fi : Int)) = true := by simp
    have HG1 := Lib.hid hg1; clear hg1
    generalize hW5 : w4.alloc (.cells #[.slice (some ⟨gb, 0, none⟩) hs.length q] 28) = W5 at *
    have hg1 := HG1.out
    clear hch
    have HR : raisedL hs (fi : Int) (fi : Int) = hs := raisedL_same _ _
    have OF : W5.ownsRow w3.heap.size 49 5 (.slice (some ⟨gb, 0, none⟩) hs.length q) (raisedL hs (fi : Int) (fi : Int)).length ((raisedL hs (fi : Int) (fi : Int)).flatMap Enc.cells) := by rw [raisedL_len, HR]; exact O
    have LX : Le w W5 := L0
    have cX : W5.cell? ⟨w.heap.size + 1 + 1, 0, none⟩ = some (.slice none 0 0) := c1
    have bX : W5.cell? ⟨w4.heap.size, 0, none⟩ = some (.slice (some ⟨gb, 0, none⟩) hs.length q) := cB
    have fX : W5.frozen? ⟨w.heap.size + 1 + 1, 0, none⟩ = false := by simpa using f1
    have hend := fun u => cell_set_same (v := u) cX
    have HE := Lib.hid (res_end (r := w.heap.size + 1 + 1) LX (by omega) y1 OF (raisedL_ok hgr HOKH.out))
    clear OF HR LX
    subst hW5
    clear hg1
    go_wp2
    exact bodyPost_ret (v := .agg #[.slice (some ⟨gb, 0, none⟩) hs.length q]) (by simp [results, Tryd.results53, go_sem, hend]) rfl ⟨_, rfl, by have h := HE.out (.slice (some ⟨gb, 0, none⟩) hs.length q); exact h.1, (HE.out _).2⟩
  · have hb1 : ((fi : Int) == g) = false := by simpa using hfg
    have HRO := Lib.hid (raisedL_other (hs := hs) hfg)
    have HCH := Lib.hid hch
    subst hgi
    have HG1 := Lib.hid hg1; clear hg1 hch hfg
    go_wp2_with fail
    generalize hW5 : w4.alloc (.cells #[.slice (some ⟨gb, 0, none⟩) hs.length q] 28) = W5 at *
    clear hW5
    have hg1 := HG1.out
    have s5 := zB
    refine (inContext_any A H n cap hs.length c gi W5).mono ?_
    rintro e w6 ⟨gg, rfl, hgg, hgs, hle⟩
    replace cA := (hle.cell zA).trans cA
    replace c0 := (hle.cell z0).trans c0
    replace c1 := (hle.cell z1).trans c1
    replace cB := (hle.cell zB).trans cB
    replace f1 := (hle.frozen z1).trans f1
    replace zA := Nat.lt_of_lt_of_le zA hle.size
    replace z0 := Nat.lt_of_lt_of_le z0 hle.size
    replace z1 := Nat.lt_of_lt_of_le z1 hle.size
    replace zB := Nat.lt_of_lt_of_le zB hle.size
    replace L0 := L0.trans hle
    replace S0 := S0.le hle
    replace O := own_le O hle
    have s6 := hle.size
    have F2 := FCh.one hgg
    clear hgg hle
    go_wp2_with fail
    refine (indicesCtx_any _ H hs.length c hs gg gi w6 S0 ⟨_, _, _, rfl⟩ HLK.out.ctxlt hgil (by omega) F2 (hG.le L0)).mono ?_
    rintro e w7 ⟨v, rfl, D, hle⟩
    replace D : Owd 3 w6 w7 v (chainN (ctxOf hs) hs.length gi) := D
    have hlch := Chn.go_len2 HLK.out.ctxlt (by omega : (0 : Int) ≤ (gi : Int)) (by omega : (gi : Int) < hs.length)
    generalize hL : chainN (ctxOf hs) hs.length (gi : Int) = L at *
    have HL := Lib.hid hL; clear hL
    obtain ⟨AL, cL, rfl, SL, hAL⟩ := D.form (by decide)
    replace cA := (hle.cell zA).trans cA
    replace c0 := (hle.cell z0).trans c0
    replace c1 := (hle.cell z1).trans c1
    replace cB := (hle.cell zB).trans cB
    replace f1 := (hle.frozen z1).trans f1
    replace zA := Nat.lt_of_lt_of_le zA hle.size
    replace z0 := Nat.lt_of_lt_of_le z0 hle.size
    replace z1 := Nat.lt_of_lt_of_le z1 hle.size
    replace zB := Nat.lt_of_lt_of_le zB hle.size
    replace L0 := L0.trans hle
    replace S0 := S0.le hle
    replace O := own_le O hle
    have s7 := hle.size
    clear hle D F2
    have HALN : Hid (∀ a, AL = some a → a.block ≠ gb) := fun a e h => by
      have := (hAL a.block (by rw [e]; rfl)).1
      omega
    clear hAL
    have HC0 := Lib.hid c0; have HC1 := Lib.hid c1; have HCB := Lib.hid cB; have HF1 := Lib.hid f1; have HS := Lib.hid S0; have HSL := Lib.hid SL; have HL0 := Lib.hid L0
    have x0 := z0; have x1 := z1; have xB := zB
    have hll : (L.length : Int) ≤ 1048576 := by omega
    have xg : gb < w7.heap.size := by omega
    go_wp2
    clear c0 c1 cB f1 S0 SL cA zA
    go_loopw [11, 25] (fun _ x wr => ∃ k : Nat, k ≤ L.length ∧ x = .int .i64 k ∧ w7.grownBy wr (some gb) ∧ wr.ownsRow w3.heap.size 49 5 (.slice (some ⟨gb, 0, none⟩) hs.length q) hs.length ((cutL hs (fi : Int) (L.take k)).flatMap Enc.cells)) (fun _ x _ => L.length - (intOf x).toNat)
    case atStart => exact ⟨0, Nat.zero_le _, rfl, World.grownBy.refl w7 _, by simpa [cutL] using O⟩
    case round =>
      obtain ⟨k, hk, rfl, hgw, O⟩ := hrel
      have c0 := hgw.cell (a := ⟨w.heap.size + 1, 0, none⟩) HC0.out (fun e => by injection e with e; have e2 : w.heap.size + 1 = gb := e; omega)
      have c1 := hgw.cell (a := ⟨w.heap.size + 1 + 1, 0, none⟩) HC1.out (fun e => by injection e with e; have e2 : w.heap.size + 1 + 1 = gb := e; omega)
      have cB := hgw.cell (a := ⟨w4.heap.size, 0, none⟩) HCB.out (fun e => by injection e with e; have e2 : w4.heap.size = gb := e; omega)
      have f1 := (World.frozen?_of_block (a := ⟨w.heap.size + 1 + 1, 0, none⟩) (hgw.block (w.heap.size + 1 + 1) (by omega) (fun e => by injection e with e; omega))).trans HF1.out
      have S0 := HS.out.grown hgw (fun hn a e h => by injection h with h; have := HUN.out a e hn; omega)
      have SL := HSL.out.grown hgw (fun hn a e h => HALN.out a e (by injection h))
      have L0 := HL0.out.grown hgw (fun j hj => by injection hj with hj; omega)
      have sw := hgw.size
      by_cases hlt : k < L.length
      · have hr := HCH.out.rng _ (List.getElem_mem hlt)
        have HT := Lib.hid (cutL_succ (hs := hs) (f := (fi : Int)) hlt)
        obtain ⟨i, hi⟩ := Int.eq_ofNat_of_zero_le hr.1
        obtain ⟨b, off, rfl, hb, hx, _, _⟩ := SL.int_at hlt
        rw [hi] at hr HT hx
        have hil : i < hs.length := by omega
        have hi3 : (i : Int) < (hs.length : Int) := by omega
        have hk3 : (k : Int) < (L.length : Int) := by omega
        obtain ⟨b2, off2, rfl, hb2, q0, q1, q2, q3, q4, -⟩ := S0.flt_at hil
        have hcx := ctxOf_at hil
        rw [← hcx] at q3
        clear hcx hi q0 q1 q2 q4
        by_cases hcf : ctxOf hs (i : Int) = (fi : Int)
        · have hb3 : (ctxOf hs (i : Int) == (fi : Int)) = true := by simpa using hcf
          have O1 := (O.stored (i * 5 + 3) (.int .i64 (-1))).1
          rw [flat_ctx (cutL hs (fi : Int) (L.take k)) i (by rw [cutL_len]; exact hil) (-1)] at O1
          have HT2 : Hid (cutL hs (fi : Int) (L.take (k + 1)) = setF (cutL hs (fi : Int) (L.take k)) (i : Int) (ctxF (-1))) := by show _ = _; rw [HT.out]; unfold cutOne; rw [if_pos hcf]
          have k1 := O.cellAt (i * 5 + 3) (by omega)
          obtain ⟨u1, hu1⟩ : ∃ u, ((cutL hs (fi : Int) (L.take k)).flatMap (Enc.cells (α := Flt)))[i * 5 + 3]? = some u := ⟨_, List.getElem?_eq_getElem (by rw [flat_len, cutL_len]; show i * 5 + 3 < hs.length * 5; omega)⟩
          rw [hu1] at k1
          have e1 := O.frozenAt (i * 5 + 3)
          have hgw2 := gx_set (o := i * 5 + 3) hgw (.int .i64 (-1))
          clear hcf hu1
          go_wp2
          go_roundw
          case rel => exact ⟨k + 1, by omega, by go_num, hgw2, by rw [HT2.out]; exact O1⟩
          case measure => simp [intOf]; omega
        · have hb3 : (ctxOf hs (i : Int) == (fi : Int)) = false := by simpa using hcf
          have HT2 : Hid (cutL hs (fi : Int) (L.take (k + 1)) = cutL hs (fi : Int) (L.take k)) := by show _ = _; rw [HT.out]; unfold cutOne; rw [if_neg hcf]
          clear hcf
          go_wp2
          go_roundw
          case rel => exact ⟨k + 1, by omega, by go_num, hgw, by rw [HT2.out]; exact O⟩
          case measure => simp [intOf]; omega
      · have hkk : k = L.length := by omega
        have HKK := Lib.hid hkk
        have O1 := (O.stored (fi * 5 + 3) (.int .i64 (gi : Int))).1
        rw [flat_ctx (cutL hs (fi : Int) (L.take k)) fi (by rw [cutL_len]; exact hfi) gi] at O1
        have HR : raisedL hs (fi : Int) (gi : Int) = setF (cutL hs (fi : Int) (L.take k)) (fi : Int) (ctxF (gi : Int)) := by rw [HRO.out, hkk, List.take_length]
        have OF : (wr.setCell ⟨gb, fi * 5 + 3, none⟩ (.int .i64 (gi : Int))).ownsRow w3.heap.size 49 5 (.slice (some ⟨gb, 0, none⟩) hs.length q) (raisedL hs (fi : Int) (gi : Int)).length ((raisedL hs (fi : Int) (gi : Int)).flatMap Enc.cells) := by rw [raisedL_len, HR]; exact O1
        have LX := L0.setCell (b := gb) (o := fi * 5 + 3) (by omega) (.int .i64 (gi : Int))
        have cX : (wr.setCell ⟨gb, fi * 5 + 3, none⟩ (.int .i64 (gi : Int))).cell? ⟨w.heap.size + 1 + 1, 0, none⟩ = some (.slice none 0 0) := (cell_set_other (.inl (by omega))).trans c1
        have bX : (wr.setCell ⟨gb, fi * 5 + 3, none⟩ (.int .i64 (gi : Int))).cell? ⟨w4.heap.size, 0, none⟩ = some (.slice (some ⟨gb, 0, none⟩) hs.length q) := (cell_set_other (.inl (by omega))).trans cB
        have fX : (wr.setCell ⟨gb, fi * 5 + 3, none⟩ (.int .i64 (gi : Int))).frozen? ⟨w.heap.size + 1 + 1, 0, none⟩ = false := by simpa using f1
        have k1 := O.cellAt (fi * 5 + 3) (by omega)
        obtain ⟨u1, hu1⟩ : ∃ u, ((cutL hs (fi : Int) (L.take k)).flatMap (Enc.cells (α := Flt)))[fi * 5 + 3]? = some u := ⟨_, List.getElem?_eq_getElem (by rw [flat_len, cutL_len]; show fi * 5 + 3 < hs.length * 5; omega)⟩
        rw [hu1] at k1
        have e1 := O.frozenAt (fi * 5 + 3)
        have hend := fun u => cell_set_same (v := u) cX
        have HE := Lib.hid (res_end (r := w.heap.size + 1 + 1) LX (by omega) y1 OF (raisedL_ok hgr HOKH.out))
        clear OF HR LX hu1 O1 O hkk
        go_wp2
        exact bodyPost_ret (v := .agg #[.slice (some ⟨gb, 0, none⟩) hs.length q]) (by simp [results, Tryd.results53, go_sem, hend]) rfl ⟨_, rfl, by have h := HE.out (.slice (some ⟨gb, 0, none⟩) hs.length q); exact h.1, (HE.out _).2⟩
end

section
set_option maxHeartbeats 4000000 in
set_option maxRecDepth 100000 in
theorem sRaiseWhile_any (A H : Option Addr) (n cap m c : Nat) (xs : List Cls) (hs : List Flt) (f g : Int) (w : World) (hR : Sl w A n cap xs) (hH : Sl w H m c hs) (hm : m ≤ 1048576) :
    Calls Tryd.prog 28 #[.agg #[.slice A n cap], .agg #[.slice H m c], .int .i64 f, .int .i64 g] w fun e w' => ∃ v, e = .returned (.tuple #[.agg #[v], .bool (rwOk xs hs f g)]) ∧ Owd 49 w w' v (rwX xs hs f g) ∧ Le w w' := by
  obtain ⟨c0, z0, c1, z1, c2, z2, L0⟩ := box3 w (.slice A n cap) (.slice H m c) (.slice none 0 0) 25 28 28
  have f2 : (((w.alloc (.cells #[.slice A n cap] 25)).alloc (.cells #[.slice H m c] 28)).alloc (.cells #[.slice none 0 0] 28)).frozen? ⟨w.heap.size + 1 + 1, 0, none⟩ = false := World.frozen?_alloc_at _ _ _ _ (by simp)
  have S0 := hR.le L0
  have S1 := hH.le L0
  have HV : Hid (rwOk xs hs f g = (goodF xs hs f && hasF hs g)) := rwOk_has _ _ _ _
  go_enter Tryd.func28, Tryd.ntmps28
  go_wp2_with fail
  generalize ((w.alloc (.cells #[.slice A n cap] 25)).alloc (.cells #[.slice H m c] 28)).alloc (.cells #[.slice none 0 0] 28) = W at *
  refine (goodFault_any A H n cap m c xs hs f W S0 S1 (by omega)).mono ?_
  rintro e w2 ⟨rfl, hle⟩
  replace c0 := (hle.cell z0).trans c0
  replace c1 := (hle.cell z1).trans c1
  replace c2 := (hle.cell z2).trans c2
  replace f2 := (hle.frozen z2).trans f2
  replace z0 := Nat.lt_of_lt_of_le z0 hle.size
  replace z1 := Nat.lt_of_lt_of_le z1 hle.size
  replace z2 := Nat.lt_of_lt_of_le z2 hle.size
  replace L0 := L0.trans hle
  replace S0 := S0.le hle
  replace S1 := S1.le hle
  clear hle
  cases ho : goodF xs hs f
  · have hX : rwOk xs hs f g = false := by rw [HV.out, ho]; rfl
    have HF := Lib.hid (rwX_of hX)
    have HX := Lib.hid hX
    clear ho hX
    have hend := fun u => cell_set_same (v := u) c2
    go_wp2
    exact bodyPost_ret (v := .tuple #[.agg #[.slice none 0 0], .bool false]) (by simp [results, Tryd.results28, go_sem, hend]) rfl ⟨_, by rw [HX.out], by rw [HF.out]; exact Owd.nil _ _ _, L0.setCell (by omega) _⟩
  · go_wp2_with fail
    refine (sHasFault_any H m c hs g _ S1).mono ?_
    rintro e w3 ⟨rfl, hle⟩
    replace c0 := (hle.cell z0).trans c0
    replace c1 := (hle.cell z1).trans c1
    replace c2 := (hle.cell z2).trans c2
    replace f2 := (hle.frozen z2).trans f2
    replace z0 := Nat.lt_of_lt_of_le z0 hle.size
    replace z1 := Nat.lt_of_lt_of_le z1 hle.size
    replace z2 := Nat.lt_of_lt_of_le z2 hle.size
    replace L0 := L0.trans hle
    replace S0 := S0.le hle
    replace S1 := S1.le hle
    clear hle
    cases h2 : hasF hs g
    · have hX : rwOk xs hs f g = false := by rw [HV.out, h2, Bool.and_false]
      have HF := Lib.hid (rwX_of hX)
      have HX := Lib.hid hX
      clear ho hX h2
      have hend := fun u => cell_set_same (v := u) c2
      go_wp2
      exact bodyPost_ret (v := .tuple #[.agg #[.slice none 0 0], .bool false]) (by simp [results, Tryd.results28, go_sem, hend]) rfl ⟨_, by rw [HX.out], by rw [HF.out]; exact Owd.nil _ _ _, L0.setCell (by omega) _⟩
    · have hX : rwOk xs hs f g = true := by rw [HV.out, ho, h2]; rfl
      have hg2 : goodF xs hs f = true ∧ goodF xs hs g = true := by
        have := hX
        unfold rwOk at this; rw [Bool.and_eq_true] at this; exact this
      have HF := Lib.hid (rwX_of hX)
      have HX := Lib.hid hX
      have HG := Lib.hid hg2
      clear ho hX h2 hg2
      go_wp2_with fail
      refine (sRaised_any H m c xs hs f g _ S1 HG.out.1 HG.out.2).mono ?_
      rintro e w4 ⟨v, rfl, D, hle⟩
      have y2 := z2
      replace c2 := (hle.cell z2).trans c2
      replace f2 := (hle.frozen z2).trans f2
      replace z2 := Nat.lt_of_lt_of_le z2 hle.size
      replace L0 := L0.trans hle
      obtain ⟨A3, q3, rfl⟩ := own_form D.row
      have HE := Lib.hid (res_end (r := w.heap.size + 1 + 1) L0 (by omega) y2 D.row D.ok)
      clear D hle
      have hend := fun u => cell_set_same (v := u) c2
      go_wp2
      exact bodyPost_ret (v := .tuple #[.agg #[.slice A3 (raisedL hs f g).length q3], .bool true]) (by simp [results, Tryd.results28, go_sem, hend]) rfl ⟨_, by rw [HX.out], by rw [HF.out]; exact (HE.out _).1, (HE.out _).2⟩
set_option maxHeartbeats 4000000 in
set_option maxRecDepth 100000 in
theorem iRaiseWhile_any (A H : Option Addr) (n cap m c : Nat) (xs : List Cls) (hs : List Flt) (f g : Int) (w : World) (hR : Sl w A n cap xs) (hH : Sl w H m c hs) (hm : m ≤ 1048576) (hG : GotErr w) :
    Calls Tryd.prog 27 #[.agg #[.slice A n cap], .agg #[.slice H m c], .int .i64 f, .int .i64 g] w fun e w' => ∃ v, e = .returned (.tuple #[.agg #[v], .bool (rwOk xs hs f g)]) ∧ Owd 49 w w' v (rwX xs hs f g) ∧ Le w w' := by
  obtain ⟨c0, z0, c1, z1, c2, z2, L0⟩ := box3 w (.slice A n cap) (.slice H m c) (.slice none 0 0) 25 28 28
  have f2 : (((w.alloc (.cells #[.slice A n cap] 25)).alloc (.cells #[.slice H m c] 28)).alloc (.cells #[.slice none 0 0] 28)).frozen? ⟨w.heap.size + 1 + 1, 0, none⟩ = false := World.frozen?_alloc_at _ _ _ _ (by simp)
  have S0 := hR.le L0
  have S1 := hH.le L0
  have HV : Hid (rwOk xs hs f g = (goodF xs hs f && goodF xs hs g)) := rfl
  go_enter Tryd.func27, Tryd.ntmps27
  go_wp2_with fail
  generalize ((w.alloc (.cells #[.slice A n cap] 25)).alloc (.cells #[.slice H m c] 28)).alloc (.cells #[.slice none 0 0] 28) = W at *
  refine (iHasFault_any A H n cap m c xs hs f W S0 S1 (by omega)).mono ?_
  rintro e w2 ⟨rfl, hle⟩
  replace c0 := (hle.cell z0).trans c0
  replace c1 := (hle.cell z1).trans c1
  replace c2 := (hle.cell z2).trans c2
  replace f2 := (hle.frozen z2).trans f2
  replace z0 := Nat.lt_of_lt_of_le z0 hle.size
  replace z1 := Nat.lt_of_lt_of_le z1 hle.size
  replace z2 := Nat.lt_of_lt_of_le z2 hle.size
  replace L0 := L0.trans hle
  replace S0 := S0.le hle
  replace S1 := S1.le hle
  clear hle
  cases ho : goodF xs hs f
  · have hX : rwOk xs hs f g = false := by rw [HV.out, ho]; rfl
    have HF := Lib.hid (rwX_of hX)
    have HX := Lib.hid hX
    clear ho hX
    have hend := fun u => cell_set_same (v := u) c2
    go_wp2
    exact bodyPost_ret (v := .tuple #[.agg #[.slice none 0 0], .bool false]) (by simp [results, Tryd.results27, go_sem, hend]) rfl ⟨_, by rw [HX.out], by rw [HF.out]; exact Owd.nil _ _ _, L0.setCell (by omega) _⟩
  · go_wp2_with fail
    refine (iHasFault_any A H n cap m c xs hs g _ S0 S1 (by omega)).mono ?_
    rintro e w3 ⟨rfl, hle⟩
    replace c0 := (hle.cell z0).trans c0
    replace c1 := (hle.cell z1).trans c1
    replace c2 := (hle.cell z2).trans c2
    replace f2 := (hle.frozen z2).trans f2
    replace z0 := Nat.lt_of_lt_of_le z0 hle.size
    replace z1 := Nat.lt_of_lt_of_le z1 hle.size
    replace z2 := Nat.lt_of_lt_of_le z2 hle.size
    replace L0 := L0.trans hle
    replace S0 := S0.le hle
    replace S1 := S1.le hle
    clear hle
    cases h2 : goodF xs hs g
    · have hX : rwOk xs hs f g = false := by rw [HV.out, h2, Bool.and_false]
      have HF := Lib.hid (rwX_of hX)
      have HX := Lib.hid hX
      clear ho hX h2
      have hend := fun u => cell_set_same (v := u) c2
      go_wp2
      exact bodyPost_ret (v := .tuple #[.agg #[.slice none 0 0], .bool false]) (by simp [results, Tryd.results27, go_sem, hend]) rfl ⟨_, by rw [HX.out], by rw [HF.out]; exact Owd.nil _ _ _, L0.setCell (by omega) _⟩
    · have hX : rwOk xs hs f g = true := by rw [HV.out, ho, h2]; rfl
      have hg2 : goodF xs hs f = true ∧ goodF xs hs g = true := by
        have := hX
        unfold rwOk at this; rw [Bool.and_eq_true] at this; exact this
      have HF := Lib.hid (rwX_of hX)
      have HX := Lib.hid hX
      have HG := Lib.hid hg2
      clear ho hX h2 hg2
      go_wp2_with fail
      refine (iRaiseW_any A H n cap m c xs hs f g _ S1 HG.out.1 HG.out.2 (hG.le L0)).mono ?_
      rintro e w4 ⟨v, rfl, D, hle⟩
      have y2 := z2
      replace c2 := (hle.cell z2).trans c2
      replace f2 := (hle.frozen z2).trans f2
      replace z2 := Nat.lt_of_lt_of_le z2 hle.size
      replace L0 := L0.trans hle
      obtain ⟨A3, q3, rfl⟩ := own_form D.row
      have HE := Lib.hid (res_end (r := w.heap.size + 1 + 1) L0 (by omega) y2 D.row D.ok)
      clear D hle
      have hend := fun u => cell_set_same (v := u) c2
      go_wp2
      exact bodyPost_ret (v := .tuple #[.agg #[.slice A3 (raisedL hs f g).length q3], .bool true]) (by simp [results, Tryd.results27, go_sem, hend]) rfl ⟨_, by rw [HX.out], by rw [HF.out]; exact (HE.out _).1, (HE.out _).2⟩
end

section
/-- what the law says of a text behind a raise -/
theorem rwtext_facts {xs : List Cls} {hs : List Flt} {i j : Nat} (hgf : goodF xs hs (i : Int) = true) (hgg : goodF xs hs (j : Int) = true) : scOk xs hs (i : Int) (-1) = true ∧ ∃ U G : ByteArray, ctX xs (scX xs hs (i : Int) (-1)) (i : Int) = U ∧ ctX xs hs (j : Int) = G ∧
    (∀ hi : i < hs.length, i ≠ j → ¬ 0 ≤ hs[i].cause → hs[i].hide = false → hasI (reachX xs hs (j : Int)) (i : Int) = false → ctX xs (raisedL hs (i : Int) (j : Int)) (i : Int) = G ++ sepT ++ U) := by
  have hin := goodF_in hgf
  have hin2 := goodF_in hgg
  have hok := goodF_ok hgf
  have hi : i < hs.length := by omega
  have hj : j < hs.length := by omega
  have e2 : scOk xs hs (i : Int) (-1) = true := by
    unfold scOk; rw [hgf]
    unfold vl
    rw [rng_iff.2 ⟨by omega, by omega⟩]
    simp
  have e3 : scX xs hs (i : Int) (-1) = setF hs (i : Int) (cauF (-1)) := by rw [scX_of e2]; rfl
  have hok3 := ok_cau hi (c := -1) ⟨by omega, by omega, by omega⟩ hok
  have hz3 : i < (setF hs (i : Int) (cauF (-1))).length := by rw [setF_len]; exact hi
  have hokr := ok_raised hok hi hj
  refine ⟨e2, fT xs hs (i : Int), _, ?_, rfl, fun _ hne hc hh hr => ?_⟩
  · rw [e3, ctX_of (goodF_mk hok3 hz3)]; exact text_alone hi
  · rw [ctX_of (goodF_mk hokr (by rw [raisedL_len]; exact hi)), ctX_of hgg]
    refine text_raised hok hi hj hne (by omega) hh (fun hm => ?_)
    have : hasI (reachX xs hs (j : Int)) (i : Int) = true := by
      unfold reachX; rw [hgg]; exact hasI_iff'.2 hm
    rw [hr] at this; cases this
set_option maxHeartbeats 4000000 in
set_option maxRecDepth 100000 in
theorem fnRaiseWhileText_walk (A : Option Addr) (n cap : Nat) (bs : List By) (w : World) (hR : Sl w A n cap bs) (NG : GotErr w) :
    Calls Tryd.prog 7 #[.slice A n cap] w fun e w' => e = .returned (.bool true) ∧ Le w w' := by
  have hm := hR.n_le
  by_cases hbig : 1048576 < n
  · go_enter Tryd.func7, Tryd.ntmps7
    go_wp2
    go_ret
    exact ⟨rfl, Le.refl w⟩
  go_enter Tryd.func7, Tryd.ntmps7
  go_wp2_with fail
  refine (drawRaiseWhile_any A n cap bs w hR).mono ?_
  rintro e w1 ⟨B, m, c, xs, A1, q1, hs, _, rfl, ⟨f, g, rfl, hf0, hf1, hg0, hg1⟩, S, hm8, S2, hl6, L0⟩
  replace NG := NG.le L0
  go_wp2_with fail
  obtain ⟨ct, zt, ch, zh, hleB⟩ := box2 w1 (.slice B m c) (.slice A1 hs.length q1) 25 28
  replace S := S.le hleB
  replace S2 := S2.le hleB
  replace L0 := L0.trans hleB
  replace NG := NG.le hleB
  clear hleB
  generalize (w1.alloc (.cells #[.slice B m c] 25)).alloc (.cells #[.slice A1 hs.length q1] 28) = W1 at *
  have hI := iRaiseWhile_any B A1 m c hs.length q1 xs hs f g W1 S S2 (by omega) NG
  have HQ : Hid (∀ w, Sl w B m c xs → Sl w A1 hs.length q1 hs → _) := fun w h h2 => sRaiseWhile_any B A1 m c hs.length q1 xs hs f g w h h2 (by omega)
  have hlen : (rwX xs hs f g).length ≤ 6 := by
    cases h : rwOk xs hs f g
    · rw [rwX_of h]; simp
    · rw [rwX_of h]; show (raisedL _ _ _).length ≤ 6; rw [raisedL_len]; exact hl6
  have HF : rwOk xs hs f g = true → goodF xs hs f = true ∧ goodF xs hs g = true := fun h => by unfold rwOk at h; rw [Bool.and_eq_true] at h; exact h
  have HX : rwOk xs hs f g = true → rwX xs hs f g = raisedL hs f g := fun h => by rw [rwX_of h]; rfl
  rcases Bool.eq_false_or_eq_true (rwOk xs hs f g) with ho | ho
  · obtain ⟨hgf, hgg⟩ := HF ho
    have hX := HX ho
    obtain ⟨i, rfl, hi⟩ := goodF_at hgf
    obtain ⟨j, rfl, hj⟩ := goodF_at hgg
    have hok : okHeap xs hs = true := by have h := hgf; unfold goodF at h; rw [Bool.and_eq_true] at h; exact h.1
    obtain ⟨hsc, U, G, hU, hG, hT⟩ := rwtext_facts hgf hgg
    have HSC := Lib.hid hsc
    have HU := Lib.hid hU
    have HG := Lib.hid hG
    have HT := Lib.hid (hT hi)
    have hUs := ctX_size xs (scX xs hs (i : Int) (-1)) (i : Int)
    have hGs := ctX_size xs hs (j : Int)
    rw [hU] at hUs
    rw [hG] at hGs
    have hl2 : (scX xs hs (i : Int) (-1)).length ≤ 6 := by rw [scX_of hsc]; show (setF _ _ _).length ≤ 6; rw [setF_len]; exact hl6
    have hlx := raisedL_len hs (i : Int) (j : Int)
    clear hsc hU hG hT
    rw [ho, hX] at hI HQ
    rw [hX] at hlen
    have HLX := Lib.hid hlx
    clear HF HX ho hX hgf hgg hok hlx hf0 hf1 hg0 hg1
    generalize raisedL hs (i : Int) (j : Int) = L at *
    refine (Calls.heap2 hI).mono ?_
    rintro e w2 ⟨A2, q2, rfl, S3, hle⟩
    replace ct := (hle.cell zt).trans ct
    replace ch := (hle.cell zh).trans ch
    replace zt := Nat.lt_of_lt_of_le zt hle.size
    replace zh := Nat.lt_of_lt_of_le zh hle.size
    replace S := S.le hle
    replace S2 := S2.le hle
    replace L0 := L0.trans hle
    replace NG := NG.le hle
    clear hle hI
    go_wp2_with fail
    obtain ⟨co, zo, hleB⟩ := box1 w2 (.slice A2 L.length q2) 28
    replace ct := (hleB.cell zt).trans ct
    replace ch := (hleB.cell zh).trans ch
    replace zt := Nat.lt_of_lt_of_le zt hleB.size
    replace zh := Nat.lt_of_lt_of_le zh hleB.size
    replace S := S.le hleB
    replace L0 := L0.trans hleB
    replace S2 := S2.le hleB
    replace S3 := S3.le hleB
    replace NG := NG.le hleB
    clear hleB
    generalize w2.alloc (.cells #[.slice A2 L.length q2] 28) = w3 at *
    refine (Calls.heap2 (HQ.out w3 S S2)).mono ?_
    rintro e w4 ⟨A4, q4, rfl, S4, hle⟩
    replace ct := (hle.cell zt).trans ct
    replace ch := (hle.cell zh).trans ch
    replace co := (hle.cell zo).trans co
    replace zt := Nat.lt_of_lt_of_le zt hle.size
    replace zh := Nat.lt_of_lt_of_le zh hle.size
    replace zo := Nat.lt_of_lt_of_le zo hle.size
    replace S := S.le hle
    replace L0 := L0.trans hle
    replace S2 := S2.le hle
    replace S3 := S3.le hle
    replace NG := NG.le hle
    clear hle
    go_wp2_with fail
    obtain ⟨cv, zv, hleB⟩ := box1 w4 (.slice A4 L.length q4) 28
    replace ct := (hleB.cell zt).trans ct
    replace ch := (hleB.cell zh).trans ch
    replace co := (hleB.cell zo).trans co
    replace zt := Nat.lt_of_lt_of_le zt hleB.size
    replace zh := Nat.lt_of_lt_of_le zh hleB.size
    replace zo := Nat.lt_of_lt_of_le zo hleB.size
    replace S := S.le hleB
    replace L0 := L0.trans hleB
    replace S2 := S2.le hleB
    replace S3 := S3.le hleB
    replace S4 := S4.le hleB
    replace NG := NG.le hleB
    clear hleB
    generalize w4.alloc (.cells #[.slice A4 L.length q4] 28) = w5 at *
    refine (equalHeap_self A2 A4 _ q2 q4 L w5 S3 S4).mono ?_
    rintro e w6 ⟨rfl, hle⟩
    replace ct := (hle.cell zt).trans ct
    replace ch := (hle.cell zh).trans ch
    replace co := (hle.cell zo).trans co
    replace cv := (hle.cell zv).trans cv
    replace zt := Nat.lt_of_lt_of_le zt hle.size
    replace zh := Nat.lt_of_lt_of_le zh hle.size
    replace zo := Nat.lt_of_lt_of_le zo hle.size
    replace zv := Nat.lt_of_lt_of_le zv hle.size
    replace S := S.le hle
    replace L0 := L0.trans hle
    replace S2 := S2.le hle
    replace S3 := S3.le hle
    replace S4 := S4.le hle
    replace NG := NG.le hle
    clear hle
    clear cv zv S4
    obtain ⟨H2, hH2⟩ : ∃ X, scX xs hs (i : Int) (-1) = X := ⟨_, rfl⟩
    have HH2 := Lib.hid hH2
    rw [hH2] at hl2 HU
    clear hH2 HQ
    by_cases hij : i = j
    · subst hij
      have hb1 : ((i : Int) == (i : Int)) = true := by simp
      clear HT
      go_wp2
      go_ret
      exact ⟨rfl, L0⟩
    have hb1 : ((i : Int) == (j : Int)) = false := by simp; omega
    replace HT := Lib.hid (HT.out hij)
    clear hij
    obtain ⟨b, off, rfl, hbl, k0, k1, k2, k3, k4, _⟩ := S2.flt_at hi
    have hil2 : (i : Int) < (hs.length : Int) := by omega
    clear k0 k1 k3
    generalize hs[i].cause = vc at *
    generalize hs[i].hide = vh at *
    by_cases hvc : 0 ≤ vc
    · have d1 : decide (0 ≤ vc) = true := decide_eq_true hvc
      have d2 : decide (vc < 0) = false := decide_eq_false (by omega)
      go_wp2
      go_ret
      exact ⟨rfl, L0⟩
    have d1 : decide (0 ≤ vc) = false := decide_eq_false hvc
    have d2 : decide (vc < 0) = true := decide_eq_true (by omega)
    replace HT := Lib.hid (HT.out (by omega))
    clear hvc
    cases vh
    rotate_left
    · go_wp2
      go_ret
      exact ⟨rfl, L0⟩
    replace HT := Lib.hid (HT.out rfl)
    go_wp2_with fail
    refine (Calls.intsH (iReachOf_any B _ m c hs.length q1 xs hs (j : Int) w6 S S2 (by omega))).mono ?_
    rintro e w7 ⟨A7, q7, rfl, S7, hle⟩
    replace ct := (hle.cell zt).trans ct
    replace ch := (hle.cell zh).trans ch
    replace co := (hle.cell zo).trans co
    replace zt := Nat.lt_of_lt_of_le zt hle.size
    replace zh := Nat.lt_of_lt_of_le zh hle.size
    replace zo := Nat.lt_of_lt_of_le zo hle.size
    replace S := S.le hle
    replace L0 := L0.trans hle
    replace S2 := S2.le hle
    replace S3 := S3.le hle
    replace NG := NG.le hle
    clear hle k2 k4 hbl
    go_wp2_with fail
    refine (isIn_any A7 _ q7 _ (i : Int) w7 S7).mono ?_
    rintro e w8 ⟨rfl, rfl⟩
    clear S7
    cases hri : hasI (reachX xs hs (j : Int)) (i : Int)
    rotate_left
    · go_wp2
      go_ret
      exact ⟨rfl, L0⟩
    replace HT := Lib.hid (HT.out hri)
    clear hri
    go_wp2_with fail
    refine (Calls.asH2 HH2.out HSC.out (Calls.heap2 (iSetCause_any B _ m c hs.length q1 xs hs (i : Int) (-1) w7 S S2 (by omega) (by decide)))).mono ?_
    rintro e w8 ⟨A8, q8, rfl, S8, hle⟩
    replace ct := (hle.cell zt).trans ct
    replace ch := (hle.cell zh).trans ch
    replace co := (hle.cell zo).trans co
    replace zt := Nat.lt_of_lt_of_le zt hle.size
    replace zh := Nat.lt_of_lt_of_le zh hle.size
    replace zo := Nat.lt_of_lt_of_le zo hle.size
    replace S := S.le hle
    replace L0 := L0.trans hle
    replace S2 := S2.le hle
    replace S3 := S3.le hle
    replace NG := NG.le hle
    clear hle
    go_wp2_with fail
    obtain ⟨ca, za, hleB⟩ := box1 w8 (.slice A8 H2.length q8) 28
    replace ct := (hleB.cell zt).trans ct
    replace ch := (hleB.cell zh).trans ch
    replace co := (hleB.cell zo).trans co
    replace zt := Nat.lt_of_lt_of_le zt hleB.size
    replace zh := Nat.lt_of_lt_of_le zh hleB.size
    replace zo := Nat.lt_of_lt_of_le zo hleB.size
    replace S := S.le hleB
    replace L0 := L0.trans hleB
    replace S2 := S2.le hleB
    replace S3 := S3.le hleB
    replace S8 := S8.le hleB
    replace NG := NG.le hleB
    clear hleB
    generalize w8.alloc (.cells #[.slice A8 H2.length q8] 28) = w9 at *
    have hl : L.length ≤ 6 := hlen
    have hc1 : ∀ (g : Ext w9) (_ : True), Calls Tryd.prog 13 #[.agg #[.slice B m c], .agg #[.slice A2 L.length q2], .int .i64 (i : Int)] (w9.ext g) fun e w' => e = .returned (.string (G ++ sepT ++ U)) ∧ Le (w9.ext g) w' := fun g _ => Calls.val (iChainText_any B A2 m c L.length q2 xs L (i : Int) _ (S.ext _) (S3.ext _) (by omega) (NG.le (Le.ext w9 g))) (vst HT.out)
    have hc2 : ∀ (g : Ext w9) (_ : True), Calls Tryd.prog 13 #[.agg #[.slice B m c], .agg #[.slice (some ⟨b, off, none⟩) hs.length q1], .int .i64 (j : Int)] (w9.ext g) fun e w' => e = .returned (.string G) ∧ Le (w9.ext g) w' := fun g _ => Calls.val (iChainText_any B _ m c hs.length q1 xs hs (j : Int) _ (S.ext _) (S2.ext _) (by omega) (NG.le (Le.ext w9 g))) (vst HG.out)
    have hc3 : ∀ (g : Ext w9) (_ : True), Calls Tryd.prog 13 #[.agg #[.slice B m c], .agg #[.slice A8 H2.length q8], .int .i64 (i : Int)] (w9.ext g) fun e w' => e = .returned (.string U) ∧ Le (w9.ext g) w' := fun g _ => Calls.val (iChainText_any B A8 m c H2.length q8 xs H2 (i : Int) _ (S.ext _) (S8.ext _) (by omega) (NG.le (Le.ext w9 g))) (vst HU.out)
    have E1 := cell_ext zt ct
    have E2 := cell_ext zh ch
    have E3 := cell_ext zo co
    have E4 := cell_ext za ca
    have hs3 : sepT.size = 3 := rfl
    have hG2 : (G.size : Int) ≤ 300 := by omega
    have hU2 : (U.size : Int) ≤ 300 := by omega
    have hGT : (G ++ sepT).size ≤ 303 := by rw [ByteArray.size_append]; omega
    have hGU : (G ++ sepT ++ U).size ≤ 603 := by rw [ByteArray.size_append]; omega
    have heq : ((G ++ sepT ++ U).toList == (G ++ { data := #[32, 126, 32] } ++ U).toList) = true := by
      show ((G ++ sepT ++ U).toList == (G ++ sepT ++ U).toList) = true
      simp
    go_wp2_with fail
    refine wp_region_ext (by kernel_rfl) (by kernel_rfl) ?_
    repeat (go_big_quiet_step (first | (go_at_call 13; with_reducible first | exact Calls.ext_of (hc1 _ trivial) | exact Calls.ext_of (hc2 _ trivial) | exact Calls.ext_of (hc3 _ trivial))))
    refine wpQuiet_nil ?_
    intro _ hw'
    obtain ⟨gg, rfl⟩ := hw'
    have hw3 := Le.ext w9 gg
    generalize w9.ext gg = W2 at *
    go_wp2
    go_ret
    exact ⟨rfl, L0.trans hw3⟩
  · rw [ho] at hI HQ
    clear ho HF HX
    generalize rwX xs hs f g = L at *
    refine (Calls.heap2 hI).mono ?_
    rintro e w2 ⟨A2, q2, rfl, S3, hle⟩
    replace ct := (hle.cell zt).trans ct
    replace ch := (hle.cell zh).trans ch
    replace zt := Nat.lt_of_lt_of_le zt hle.size
    replace zh := Nat.lt_of_lt_of_le zh hle.size
    replace S := S.le hle
    replace S2 := S2.le hle
    replace L0 := L0.trans hle
    replace NG := NG.le hle
    clear hle hI
    go_wp2_with fail
    obtain ⟨co, zo, hleB⟩ := box1 w2 (.slice A2 L.length q2) 28
    replace ct := (hleB.cell zt).trans ct
    replace ch := (hleB.cell zh).trans ch
    replace zt := Nat.lt_of_lt_of_le zt hleB.size
    replace zh := Nat.lt_of_lt_of_le zh hleB.size
    replace S := S.le hleB
    replace L0 := L0.trans hleB
    replace S2 := S2.le hleB
    replace S3 := S3.le hleB
    replace NG := NG.le hleB
    clear hleB
    generalize w2.alloc (.cells #[.slice A2 L.length q2] 28) = w3 at *
    refine (Calls.heap2 (HQ.out w3 S S2)).mono ?_
    rintro e w4 ⟨A4, q4, rfl, S4, hle⟩
    replace ct := (hle.cell zt).trans ct
    replace ch := (hle.cell zh).trans ch
    replace co := (hle.cell zo).trans co
    replace zt := Nat.lt_of_lt_of_le zt hle.size
    replace zh := Nat.lt_of_lt_of_le zh hle.size
    replace zo := Nat.lt_of_lt_of_le zo hle.size
    replace S := S.le hle
    replace L0 := L0.trans hle
    replace S2 := S2.le hle
    replace S3 := S3.le hle
    replace NG := NG.le hle
    clear hle
    go_wp2_with fail
    obtain ⟨cv, zv, hleB⟩ := box1 w4 (.slice A4 L.length q4) 28
    replace ct := (hleB.cell zt).trans ct
    replace ch := (hleB.cell zh).trans ch
    replace co := (hleB.cell zo).trans co
    replace zt := Nat.lt_of_lt_of_le zt hleB.size
    replace zh := Nat.lt_of_lt_of_le zh hleB.size
    replace zo := Nat.lt_of_lt_of_le zo hleB.size
    replace S := S.le hleB
    replace L0 := L0.trans hleB
    replace S2 := S2.le hleB
    replace S3 := S3.le hleB
    replace S4 := S4.le hleB
    replace NG := NG.le hleB
    clear hleB
    generalize w4.alloc (.cells #[.slice A4 L.length q4] 28) = w5 at *
    refine (equalHeap_self A2 A4 _ q2 q4 L w5 S3 S4).mono ?_
    rintro e w6 ⟨rfl, hle⟩
    replace ct := (hle.cell zt).trans ct
    replace ch := (hle.cell zh).trans ch
    replace co := (hle.cell zo).trans co
    replace cv := (hle.cell zv).trans cv
    replace zt := Nat.lt_of_lt_of_le zt hle.size
    replace zh := Nat.lt_of_lt_of_le zh hle.size
    replace zo := Nat.lt_of_lt_of_le zo hle.size
    replace zv := Nat.lt_of_lt_of_le zv hle.size
    replace S := S.le hle
    replace L0 := L0.trans hle
    replace S2 := S2.le hle
    replace S3 := S3.le hle
    replace S4 := S4.le hle
    replace NG := NG.le hle
    clear hle
    go_wp2_with fail
    refine (equalHeap_self A2 A4 _ q2 q4 L _ S3 S4).mono ?_
    rintro e w7 ⟨rfl, hle⟩
    replace L0 := L0.trans hle
    clear hle
    go_wp2
    go_ret
    exact ⟨rfl, L0⟩
end

section
open Go.ChangeShapes Go.WideShapes Go.ChangeAt Go.RowKit Go.Deep Go.Joins

theorem list_of {α : Type} (p : Nat → α → Prop) : ∀ n, (∀ i, i < n → ∃ x, p i x) → ∃ xs : List α, xs.length = n ∧ ∀ i x, xs[i]? = some x → p i x
  | 0, _ => ⟨[], rfl, fun i x h => by simp at h⟩
  | n + 1, h => by
    obtain ⟨xs, hl, hx⟩ := list_of p n (fun i hi => h i (by omega))
    obtain ⟨x, hp⟩ := h n (by omega)
    refine ⟨xs ++ [x], by simp [hl], fun i y hy => ?_⟩
    rw [List.getElem?_append] at hy
    split at hy
    · exact hx i y hy
    · rename_i hge
      have hi : i = n := by
        rcases Nat.lt_or_ge (i - xs.length) 1 with h1 | h1
        · omega
        · rw [List.getElem?_eq_none (by simpa using h1)] at hy; cases hy
      subst hi
      rw [hl, Nat.sub_self] at hy
      simp at hy; subst hy; exact hp
theorem add_pl (b o n : Nat) : (⟨b, o, none⟩ : Addr).add n = ⟨b, o + n, none⟩ := by
  unfold Addr.add; split
  · next h => subst h; rfl
  · rfl

section
variable {H : Type} {enc : TypeId × Value → H} {P : Program} {w : World} {base : Nat} {spare : Nat → Bool} {held : Bool}
theorem open_sl {α : Type} [Enc α] {t e : TypeId} {fuel : Nat} {cs : List Value} {x : DataW H × List MemPlace} (ht : P.underlying t = some (.slice e)) (hC : P.cellsOf e = Enc.size α) (hp : 0 < Enc.size α)
    (hel : ∀ n cs' y, DataW.trod enc P w base spare held n e cs' = some y → ∃ x : α, cs' = Enc.cells x ∧ Enc.ok x) (h : DataW.trod enc P w base spare held fuel t cs = some x) :
    ∃ (A : Option Addr) (n cap : Nat) (xs : List α), cs = [.slice A n cap] ∧ Sl w A n cap xs := by
  rcases open_slice ht h with ⟨h0, _⟩ | ⟨a, len, cap, m, n, D, Pl, hcs, hb, hl, hm, hmm, hx, hi⟩
  · exact ⟨none, 0, 0, [], h0, Sl.nil w none 0 (by omega)⟩
  · have hlm : len ≤ m := by rw [hmm]; split <;> omega
    obtain ⟨xs, hlen, hxs⟩ := list_of (fun i (x : α) => Enc.ok x ∧ ∀ j, j < Enc.size α → w.cell? ((a.add (i * Enc.size α)).add j) = (Enc.cells x)[j]?) len (fun i hil => by
      obtain ⟨cs', hc, ht'⟩ := hi i (by omega)
      obtain ⟨x, rfl, hok⟩ := hel _ _ _ ht'
      rw [hC] at hc
      obtain ⟨_, _, hat⟩ := World.cells?_some hc
      exact ⟨x, hok, hat⟩)
    refine ⟨some a, len, cap, xs, hcs, hlen, hl, by simpa [maxLen] using hm, fun x hx => ?_, fun hn => ?_⟩
    · obtain ⟨i, hi⟩ := List.getElem?_of_mem hx
      exact (hxs i x hi).1
    · obtain ⟨b, off, spot⟩ := a
      have h0 := (hxs 0 xs[0] (List.getElem?_eq_getElem (by omega))).2 0 hp
      rw [List.getElem?_eq_getElem (by rw [Enc.len]; exact hp)] at h0
      have hs : spot = none := by simpa [Addr.add] using World.cell?_spot h0
      subst hs
      have hlt : b < w.heap.size := by
        have := World.block_lt_of_cell? _ _ h0
        rw [Nat.zero_mul, add_pl, add_pl] at this; exact this
      refine ⟨b, off, rfl, hlt, fun j u hu => ?_⟩
      have hjl : j < xs.length * Enc.size α := by
        have := (List.getElem?_eq_some_iff.1 hu).1
        rwa [flat_len] at this
      have hk : j / Enc.size α < xs.length := by rw [Nat.div_lt_iff_lt_mul hp]; exact hjl
      have hr : j % Enc.size α < Enc.size α := Nat.mod_lt _ hp
      have hdiv : j / Enc.size α * Enc.size α + j % Enc.size α = j := by rw [Nat.mul_comm]; exact Nat.div_add_mod _ _
      have h1 := (hxs (j / Enc.size α) _ (List.getElem?_eq_getElem hk)).2 _ hr
      rw [add_pl, add_pl, Nat.add_assoc, hdiv] at h1
      rw [h1, ← flat_at xs _ hk _ hr, hdiv, hu]

theorem el_cls {e : TypeId} {f0 f1 : Field} (he : P.underlying e = some (.struct #[f0, f1])) (hone : oneCellFields P #[f0, f1] = true) (hC : P.cellsOf e = 2) (h0 : P.underlying f0.type = some .string) (h1 : P.underlying f1.type = some (.int .i64)) :
    ∀ n cs' y, DataW.trod enc P w base spare held n e cs' = some y → ∃ x : Cls, cs' = Enc.cells x ∧ Enc.ok x := by
  intro n cs' y hy
  obtain ⟨y0, y1, n', _, hl, t0, t1⟩ := trod_struct2 he hy
  obtain ⟨o0, k0⟩ := hone_of hone 0 f0 rfl
  obtain ⟨o1, k1⟩ := hone_of hone 1 f1 rfl
  rw [hC] at hl
  match cs', hl with
  | [c0, c1], _ =>
    rw [o0, k0] at t0
    rw [o1, k1] at t1
    obtain ⟨s, hs, _, hsz⟩ := DataW.trod_string h0 t0
    obtain ⟨z, hz, _, hwf⟩ := DataW.trod_int h1 t1
    simp at hs hz
    subst hs; subst hz
    refine ⟨⟨s, z⟩, rfl, by simpa [maxLen] using hsz, ?_⟩
    simpa [Lit.wf, IntKind.min, IntKind.max, IntKind.signed, IntKind.bits] using hwf

theorem open_agg1 {r : Reach} {b0 : Nat} {t : TypeId} {f0 : Field} {v : Value} {d : DataW H} {p : List MemPlace} (hs : P.underlying t = some (.struct #[f0])) (hone : oneCellFields P #[f0] = true) (hC : P.cellsOf t = 1)
    (hv : Value.okWide P w r b0 t v) (h : DataW.Trod enc P w base spare held t v d p) :
    ∃ (v0 : Value) (y0 : DataW H × List MemPlace) (n : Nat), v = .agg #[v0] ∧ DataW.trod enc P w base spare held n f0.type [v0] = some y0 := by
  obtain ⟨cs, rfl, hsz⟩ := okWide_struct hs hv
  obtain ⟨l⟩ := cs
  match l, hsz.trans hC with
  | [c0], _ =>
    obtain ⟨fuel, hf⟩ := h
    obtain ⟨xs, n, _, hx, _, hlen, hg⟩ := DataW.trod_struct hs hf
    obtain ⟨o0, k0⟩ := hone_of hone 0 f0 rfl
    match xs, hlen with
    | [y0], _ => exact ⟨c0, y0, n, rfl, by simpa [Value.cells, o0, k0] using hg 0 f0 rfl⟩
end
end
end Go.Proofs.YthcolcmgfhkbeaaDoor
