/- raiseWhile of the program -/
import Derived.Test.YtcagickmennlpaaDoorPW
namespace Go.Proofs.YtcagickmennlpaaDoor
open Go.RowKit

set_option maxHeartbeats 8000000 in
set_option maxRecDepth 100000 in
theorem iRaiseW_any (A H : Option Addr) (n cap m c : Nat) (xs : List Cls) (hs : List Flt) (f g : Int) (w : World) (hH : Sl w H m c hs) (hgf : goodF xs hs f = true) (hgg : goodF xs hs g = true) (hG : GotErr w) :
    Calls Tryd.prog 49 #[.agg #[.slice A n cap], .agg #[.slice H m c], .int .i64 f, .int .i64 g] w fun e w' => ∃ v, e = .returned (.agg #[v]) ∧ Owd 35 w w' v (raisedL hs f g) ∧ Le w w' := by
  obtain rfl := hH.len
  obtain ⟨cA, zA, c0, z0, c1, z1, L0⟩ := box3 w (.slice A n cap) (.slice H hs.length c) (.slice none 0 0) 25 28 28
  have f1 : (((w.alloc (.cells #[.slice A n cap] 25)).alloc (.cells #[.slice H hs.length c] 28)).alloc (.cells #[.slice none 0 0] 28)).frozen? ⟨w.heap.size + 1 + 1, 0, none⟩ = false := World.frozen?_alloc_at _ _ _ _ (by simp)
  have S0 := hH.le L0
  have HOKH := Lib.hid hH.ok
  have hfew := goodF_few hgf
  obtain ⟨fi, rfl, hfi⟩ := goodF_at hgf
  have hg2 := goodF_in hgg
  have hch := ctxCh_of hgg
  have hgr : -9223372036854775808 ≤ g ∧ g ≤ 9223372036854775807 := by have := hg2.2; omega
  have hfi3 : (fi : Int) < (hs.length : Int) := by omega
  have hgp := hg2.2.1
  obtain ⟨gi, hgi, hgil⟩ := goodF_at hgg
  have HLK := Lib.hid hg2.1
  have HUN : Hid (∀ a, H = some a → 0 < hs.length → a.block < w.heap.size) := fun a e h => hH.under h a e
  clear hg2 hgf hgg
  go_enter Tryd.func49, Tryd.ntmps49
  go_wp2_with fail
  generalize ((w.alloc (.cells #[.slice A n cap] 25)).alloc (.cells #[.slice H hs.length c] 28)).alloc (.cells #[.slice none 0 0] 28) = w3 at *
  have y1 := z1
  refine (iCopyHeap_any H hs.length c hs w3 S0 (by omega)).mono ?_
  rintro e w4 ⟨v, rfl, D, hle⟩
  obtain ⟨gb, q, rfl, O, hg0, hg1⟩ := D.blk (by omega)
  replace cA := (hle.cell zA).trans cA
  replace c0 := (hle.cell z0).trans c0
  replace c1 := (hle.cell z1).trans c1
  replace f1 := (hle.frozen z1).trans f1
  replace zA := Nat.lt_of_lt_of_le zA hle.size
  replace z0 := Nat.lt_of_lt_of_le z0 hle.size
  replace z1 := Nat.lt_of_lt_of_le z1 hle.size
  replace L0 := L0.trans hle
  replace S0 := S0.le hle
  have hs4 := hle.size
  clear hle D
  have cB : (w4.alloc (.cells #[.slice (some ⟨gb, 0, none⟩) hs.length q] 28)).cell? ⟨w4.heap.size, 0, none⟩ = some (.slice (some ⟨gb, 0, none⟩) hs.length q) := by rw [World.cell?_alloc_at _ _ _ _ rfl]; rfl
  have zB : w4.heap.size < (w4.alloc (.cells #[.slice (some ⟨gb, 0, none⟩) hs.length q] 28)).heap.size := by simp
  have LB := Le.new w4 (.cells #[.slice (some ⟨gb, 0, none⟩) hs.length q] 28)
  replace cA := (LB.cell zA).trans cA
  replace c0 := (LB.cell z0).trans c0
  replace c1 := (LB.cell z1).trans c1
  replace f1 := (LB.frozen z1).trans f1
  replace zA := Nat.lt_of_lt_of_le zA LB.size
  replace z0 := Nat.lt_of_lt_of_le z0 LB.size
  replace z1 := Nat.lt_of_lt_of_le z1 LB.size
  replace L0 := L0.trans LB
  replace S0 := S0.le LB
  replace O := own_le O LB
  clear LB
  by_cases hfg : (fi : Int) = g
  · subst hfg
    have hb1 : ((fi : Int) == (fi : Int)) = true := by simp
    have HG1 := Lib.hid hg1; clear hg1
    generalize hW5 : w4.alloc (.cells #[.slice (some ⟨gb, 0, none⟩) hs.length q] 28) = W5 at *
    have hg1 := HG1.out
    clear hch
    have HR : raisedL hs (fi : Int) (fi : Int) = hs := raisedL_same _ _
    have OF : W5.ownsRow w3.heap.size 35 5 (.slice (some ⟨gb, 0, none⟩) hs.length q) (raisedL hs (fi : Int) (fi : Int)).length ((raisedL hs (fi : Int) (fi : Int)).flatMap Enc.cells) := by rw [raisedL_len, HR]; exact O
    have LX : Le w W5 := L0
    have cX : W5.cell? ⟨w.heap.size + 1 + 1, 0, none⟩ = some (.slice none 0 0) := c1
    have bX : W5.cell? ⟨w4.heap.size, 0, none⟩ = some (.slice (some ⟨gb, 0, none⟩) hs.length q) := cB
    have fX : W5.frozen? ⟨w.heap.size + 1 + 1, 0, none⟩ = false := by simpa using f1
    have hend := fun u => cell_set_same (v := u) cX
    have HE := Lib.hid (res_end (r := w.heap.size + 1 + 1) LX (by omega) y1 OF (raisedL_ok hgr HOKH.out))
    clear OF HR LX
    subst hW5
    clear hg1
    go_wp2
    exact bodyPost_ret (v := .agg #[.slice (some ⟨gb, 0, none⟩) hs.length q]) (by simp [results, Tryd.results49, go_sem, hend]) rfl ⟨_, rfl, by have h := HE.out (.slice (some ⟨gb, 0, none⟩) hs.length q); exact h.1, (HE.out _).2⟩
  · have hb1 : ((fi : Int) == g) = false := by simpa using hfg
    have HRO := Lib.hid (raisedL_other (hs := hs) hfg)
    have HCH := Lib.hid hch
    subst hgi
    have HG1 := Lib.hid hg1; clear hg1 hch hfg
    go_wp2_with fail
    generalize hW5 : w4.alloc (.cells #[.slice (some ⟨gb, 0, none⟩) hs.length q] 28) = W5 at *
    clear hW5
    have hg1 := HG1.out
    have s5 := zB
    refine (inContext_any A H n cap hs.length c gi W5).mono ?_
    rintro e w6 ⟨gg, rfl, hgg, hgs, hle⟩
    replace cA := (hle.cell zA).trans cA
    replace c0 := (hle.cell z0).trans c0
    replace c1 := (hle.cell z1).trans c1
    replace cB := (hle.cell zB).trans cB
    replace f1 := (hle.frozen z1).trans f1
    replace zA := Nat.lt_of_lt_of_le zA hle.size
    replace z0 := Nat.lt_of_lt_of_le z0 hle.size
    replace z1 := Nat.lt_of_lt_of_le z1 hle.size
    replace zB := Nat.lt_of_lt_of_le zB hle.size
    replace L0 := L0.trans hle
    replace S0 := S0.le hle
    replace O := own_le O hle
    have s6 := hle.size
    have F2 := FCh.one hgg
    clear hgg hle
    go_wp2_with fail
    refine (indicesCtx_any _ H hs.length c hs gg gi w6 S0 ⟨_, _, _, rfl⟩ HLK.out.ctxlt hgil (by omega) F2 (hG.le L0)).mono ?_
    rintro e w7 ⟨v, rfl, D, hle⟩
    replace D : Owd 3 w6 w7 v (chainN (ctxOf hs) hs.length gi) := D
    have hlch := Chn.go_len2 HLK.out.ctxlt (by omega : (0 : Int) ≤ (gi : Int)) (by omega : (gi : Int) < hs.length)
    generalize hL : chainN (ctxOf hs) hs.length (gi : Int) = L at *
    have HL := Lib.hid hL; clear hL
    obtain ⟨AL, cL, rfl, SL, hAL⟩ := D.form (by decide)
    replace cA := (hle.cell zA).trans cA
    replace c0 := (hle.cell z0).trans c0
    replace c1 := (hle.cell z1).trans c1
    replace cB := (hle.cell zB).trans cB
    replace f1 := (hle.frozen z1).trans f1
    replace zA := Nat.lt_of_lt_of_le zA hle.size
    replace z0 := Nat.lt_of_lt_of_le z0 hle.size
    replace z1 := Nat.lt_of_lt_of_le z1 hle.size
    replace zB := Nat.lt_of_lt_of_le zB hle.size
    replace L0 := L0.trans hle
    replace S0 := S0.le hle
    replace O := own_le O hle
    have s7 := hle.size
    clear hle D F2
    have HALN : Hid (∀ a, AL = some a → a.block ≠ gb) := fun a e h => by
      have := (hAL a.block (by rw [e]; rfl)).1
      omega
    clear hAL
    have HC0 := Lib.hid c0; have HC1 := Lib.hid c1; have HCB := Lib.hid cB; have HF1 := Lib.hid f1; have HS := Lib.hid S0; have HSL := Lib.hid SL; have HL0 := Lib.hid L0
    have x0 := z0; have x1 := z1; have xB := zB
    have hll : (L.length : Int) ≤ 1048576 := by omega
    have xg : gb < w7.heap.size := by omega
    go_wp2
    clear c0 c1 cB f1 S0 SL cA zA
    go_loopw [11, 25] (fun _ x wr => ∃ k : Nat, k ≤ L.length ∧ x = .int .i64 k ∧ w7.grownBy wr (some gb) ∧ wr.ownsRow w3.heap.size 35 5 (.slice (some ⟨gb, 0, none⟩) hs.length q) hs.length ((cutL hs (fi : Int) (L.take k)).flatMap Enc.cells)) (fun _ x _ => L.length - (intOf x).toNat)
    case atStart => exact ⟨0, Nat.zero_le _, rfl, World.grownBy.refl w7 _, by simpa [cutL] using O⟩
    case round =>
      obtain ⟨k, hk, rfl, hgw, O⟩ := hrel
      have c0 := hgw.cell (a := ⟨w.heap.size + 1, 0, none⟩) HC0.out (fun e => by injection e with e; have e2 : w.heap.size + 1 = gb := e; omega)
      have c1 := hgw.cell (a := ⟨w.heap.size + 1 + 1, 0, none⟩) HC1.out (fun e => by injection e with e; have e2 : w.heap.size + 1 + 1 = gb := e; omega)
      have cB := hgw.cell (a := ⟨w4.heap.size, 0, none⟩) HCB.out (fun e => by injection e with e; have e2 : w4.heap.size = gb := e; omega)
      have f1 := (World.frozen?_of_block (a := ⟨w.heap.size + 1 + 1, 0, none⟩) (hgw.block (w.heap.size + 1 + 1) (by omega) (fun e => by injection e with e; omega))).trans HF1.out
      have S0 := HS.out.grown hgw (fun hn a e h => by injection h with h; have := HUN.out a e hn; omega)
      have SL := HSL.out.grown hgw (fun hn a e h => HALN.out a e (by injection h))
      have L0 := HL0.out.grown hgw (fun j hj => by injection hj with hj; omega)
      have sw := hgw.size
      by_cases hlt : k < L.length
      · have hr := HCH.out.rng _ (List.getElem_mem hlt)
        have HT := Lib.hid (cutL_succ (hs := hs) (f := (fi : Int)) hlt)
        obtain ⟨i, hi⟩ := Int.eq_ofNat_of_zero_le hr.1
        obtain ⟨b, off, rfl, hb, hx, _, _⟩ := SL.int_at hlt
        rw [hi] at hr HT hx
        have hil : i < hs.length := by omega
        have hi3 : (i : Int) < (hs.length : Int) := by omega
        have hk3 : (k : Int) < (L.length : Int) := by omega
        obtain ⟨b2, off2, rfl, hb2, q0, q1, q2, q3, q4, -⟩ := S0.flt_at hil
        have hcx := ctxOf_at hil
        rw [← hcx] at q3
        clear hcx hi q0 q1 q2 q4
        by_cases hcf : ctxOf hs (i : Int) = (fi : Int)
        · have hb3 : (ctxOf hs (i : Int) == (fi : Int)) = true := by simpa using hcf
          have O1 := (O.stored (i * 5 + 3) (.int .i64 (-1))).1
          rw [flat_ctx (cutL hs (fi : Int) (L.take k)) i (by rw [cutL_len]; exact hil) (-1)] at O1
          have HT2 : Hid (cutL hs (fi : Int) (L.take (k + 1)) = setF (cutL hs (fi : Int) (L.take k)) (i : Int) (ctxF (-1))) := by show _ = _; rw [HT.out]; unfold cutOne; rw [if_pos hcf]
          have k1 := O.cellAt (i * 5 + 3) (by omega)
          obtain ⟨u1, hu1⟩ : ∃ u, ((cutL hs (fi : Int) (L.take k)).flatMap (Enc.cells (α := Flt)))[i * 5 + 3]? = some u := ⟨_, List.getElem?_eq_getElem (by rw [flat_len, cutL_len]; show i * 5 + 3 < hs.length * 5; omega)⟩
          rw [hu1] at k1
          have e1 := O.frozenAt (i * 5 + 3)
          have hgw2 := gx_set (o := i * 5 + 3) hgw (.int .i64 (-1))
          clear hcf hu1
          go_wp2
          go_roundw
          case rel => exact ⟨k + 1, by omega, by go_num, hgw2, by rw [HT2.out]; exact O1⟩
          case measure => simp [intOf]; omega
        · have hb3 : (ctxOf hs (i : Int) == (fi : Int)) = false := by simpa using hcf
          have HT2 : Hid (cutL hs (fi : Int) (L.take (k + 1)) = cutL hs (fi : Int) (L.take k)) := by show _ = _; rw [HT.out]; unfold cutOne; rw [if_neg hcf]
          clear hcf
          go_wp2
          go_roundw
          case rel => exact ⟨k + 1, by omega, by go_num, hgw, by rw [HT2.out]; exact O⟩
          case measure => simp [intOf]; omega
      · have hkk : k = L.length := by omega
        have HKK := Lib.hid hkk
        have O1 := (O.stored (fi * 5 + 3) (.int .i64 (gi : Int))).1
        rw [flat_ctx (cutL hs (fi : Int) (L.take k)) fi (by rw [cutL_len]; exact hfi) gi] at O1
        have HR : raisedL hs (fi : Int) (gi : Int) = setF (cutL hs (fi : Int) (L.take k)) (fi : Int) (ctxF (gi : Int)) := by rw [HRO.out, hkk, List.take_length]
        have OF : (wr.setCell ⟨gb, fi * 5 + 3, none⟩ (.int .i64 (gi : Int))).ownsRow w3.heap.size 35 5 (.slice (some ⟨gb, 0, none⟩) hs.length q) (raisedL hs (fi : Int) (gi : Int)).length ((raisedL hs (fi : Int) (gi : Int)).flatMap Enc.cells) := by rw [raisedL_len, HR]; exact O1
        have LX := L0.setCell (b := gb) (o := fi * 5 + 3) (by omega) (.int .i64 (gi : Int))
        have cX : (wr.setCell ⟨gb, fi * 5 + 3, none⟩ (.int .i64 (gi : Int))).cell? ⟨w.heap.size + 1 + 1, 0, none⟩ = some (.slice none 0 0) := (cell_set_other (.inl (by omega))).trans c1
        have bX : (wr.setCell ⟨gb, fi * 5 + 3, none⟩ (.int .i64 (gi : Int))).cell? ⟨w4.heap.size, 0, none⟩ = some (.slice (some ⟨gb, 0, none⟩) hs.length q) := (cell_set_other (.inl (by omega))).trans cB
        have fX : (wr.setCell ⟨gb, fi * 5 + 3, none⟩ (.int .i64 (gi : Int))).frozen? ⟨w.heap.size + 1 + 1, 0, none⟩ = false := by simpa using f1
        have k1 := O.cellAt (fi * 5 + 3) (by omega)
        obtain ⟨u1, hu1⟩ : ∃ u, ((cutL hs (fi : Int) (L.take k)).flatMap (Enc.cells (α := Flt)))[fi * 5 + 3]? = some u := ⟨_, List.getElem?_eq_getElem (by rw [flat_len, cutL_len]; show fi * 5 + 3 < hs.length * 5; omega)⟩
        rw [hu1] at k1
        have e1 := O.frozenAt (fi * 5 + 3)
        have hend := fun u => cell_set_same (v := u) cX
        have HE := Lib.hid (res_end (r := w.heap.size + 1 + 1) LX (by omega) y1 OF (raisedL_ok hgr HOKH.out))
        clear OF HR LX hu1 O1 O hkk
        go_wp2
        exact bodyPost_ret (v := .agg #[.slice (some ⟨gb, 0, none⟩) hs.length q]) (by simp [results, Tryd.results49, go_sem, hend]) rfl ⟨_, rfl, by have h := HE.out (.slice (some ⟨gb, 0, none⟩) hs.length q); exact h.1, (HE.out _).2⟩
end Go.Proofs.YtcagickmennlpaaDoor
