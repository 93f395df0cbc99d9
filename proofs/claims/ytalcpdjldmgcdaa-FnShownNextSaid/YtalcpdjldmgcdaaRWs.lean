/- raised of the model -/
import Derived.Test.YtalcpdjldmgcdaaPW
import Derived.Deep.LoopGhost
namespace Go.Proofs.Ytalcpdjldmgcdaa
open Go.RowKit

set_option maxHeartbeats 8000000 in
set_option maxRecDepth 100000 in
theorem sRaised_any (H : Option Addr) (m c : Nat) (xs : List Cls) (hs : List Flt) (f g : Int) (w : World) (hH : Sl w H m c hs) (hgf : goodF xs hs f = true) (hgg : goodF xs hs g = true) :
    Calls Try.prog 51 #[.agg #[.slice H m c], .int .i64 f, .int .i64 g] w fun e w' => ∃ v, e = .returned (.agg #[v]) ∧ Owd 35 w w' v (raisedL hs f g) ∧ Le w w' := by
  obtain rfl := hH.len
  obtain ⟨c0, z0, c1, z1, L0⟩ := box2 w (.slice H hs.length c) (.slice none 0 0) 28 28
  have f1 : ((w.alloc (.cells #[.slice H hs.length c] 28)).alloc (.cells #[.slice none 0 0] 28)).frozen? ⟨w.heap.size + 1, 0, none⟩ = false := World.frozen?_alloc_at _ _ _ _ (by simp)
  have S0 := hH.le L0
  have HOKH := Lib.hid hH.ok
  have hfew := goodF_few hgf
  obtain ⟨fi, rfl, hfi⟩ := goodF_at hgf
  have hg2 := goodF_in hgg
  have hch := ctxCh_of hgg
  have hgr : -9223372036854775808 ≤ g ∧ g ≤ 9223372036854775807 := by have := hg2.2; omega
  have hfi3 : (fi : Int) < (hs.length : Int) := by omega
  have hgp := hg2.2.1
  clear hg2 hgf hgg
  go_enter Try.func51, Try.ntmps51
  go_wp2_with fail
  generalize (w.alloc (.cells #[.slice H hs.length c] 28)).alloc (.cells #[.slice none 0 0] 28) = w3 at *
  have y1 := z1
  refine (sCopyHeap_any H hs.length c hs w3 S0 (by omega)).mono ?_
  rintro e w4 ⟨v, rfl, D, hle⟩
  obtain ⟨gb, q, rfl, O, hg0, hg1⟩ := D.blk (by omega)
  replace c1 := (hle.cell z1).trans c1
  replace f1 := (hle.frozen z1).trans f1
  replace z1 := Nat.lt_of_lt_of_le z1 hle.size
  replace L0 := L0.trans hle
  have hs4 := hle.size
  clear hle D c0 z0
  have cB : (w4.alloc (.cells #[.slice (some ⟨gb, 0, none⟩) hs.length q] 28)).cell? ⟨w4.heap.size, 0, none⟩ = some (.slice (some ⟨gb, 0, none⟩) hs.length q) := by rw [World.cell?_alloc_at _ _ _ _ rfl]; rfl
  have zB : w4.heap.size < (w4.alloc (.cells #[.slice (some ⟨gb, 0, none⟩) hs.length q] 28)).heap.size := by simp
  have LB := Le.new w4 (.cells #[.slice (some ⟨gb, 0, none⟩) hs.length q] 28)
  replace c1 := (LB.cell z1).trans c1
  replace f1 := (LB.frozen z1).trans f1
  replace z1 := Nat.lt_of_lt_of_le z1 LB.size
  replace L0 := L0.trans LB
  replace O := own_le O LB
  clear LB
  by_cases hfg : (fi : Int) = g
  · subst hfg
    have hb1 : ((fi : Int) == (fi : Int)) = true := by simp
    have HG1 := Lib.hid hg1; clear hg1
    generalize hW5 : w4.alloc (.cells #[.slice (some ⟨gb, 0, none⟩) hs.length q] 28) = W5 at *
    have hg1 := HG1.out
    clear hch
    have HR : raisedL hs (fi : Int) (fi : Int) = hs := raisedL_same _ _
    have OF : W5.ownsRow w3.heap.size 35 5 (.slice (some ⟨gb, 0, none⟩) hs.length q) (raisedL hs (fi : Int) (fi : Int)).length ((raisedL hs (fi : Int) (fi : Int)).flatMap Enc.cells) := by rw [raisedL_len, HR]; exact O
    have LX : Le w W5 := L0
    have cX : W5.cell? ⟨w.heap.size + 1, 0, none⟩ = some (.slice none 0 0) := c1
    have bX : W5.cell? ⟨w4.heap.size, 0, none⟩ = some (.slice (some ⟨gb, 0, none⟩) hs.length q) := cB
    have fX : W5.frozen? ⟨w.heap.size + 1, 0, none⟩ = false := by simpa using f1
    have hend := fun u => cell_set_same (v := u) cX
    have HE := Lib.hid (res_end (r := w.heap.size + 1) LX (by omega) y1 OF (raisedL_ok hgr HOKH.out))
    clear OF HR LX
    subst hW5
    clear hg1
    go_wp2
    exact bodyPost_ret (v := .agg #[.slice (some ⟨gb, 0, none⟩) hs.length q]) (by simp [results, Try.results51, go_sem, hend]) rfl ⟨_, rfl, by have h := HE.out (.slice (some ⟨gb, 0, none⟩) hs.length q); exact h.1, (HE.out _).2⟩
  · have hb1 : ((fi : Int) == g) = false := by simpa using hfg
    have hb2 : decide (g < 0) = false := decide_eq_false (by omega)
    have HRO := Lib.hid (raisedL_other (hs := hs) hfg)
    have HCH := Lib.hid hch
    have hne := hch.is.ne
    have hhd := hch.is.hd
    generalize hL : chainN (ctxOf hs) hs.length g = L at *
    have HL := Lib.hid hL; clear hL
    have hl0 : 0 < L.length := by rcases Nat.eq_zero_or_pos L.length with h | h; exact absurd (List.eq_nil_of_length_eq_zero h) hne; exact h
    have hL0 : L[0] = g := by rw [List.head?_eq_getElem?, List.getElem?_eq_getElem hl0] at hhd; injection hhd
    have HL0 := Lib.hid hL0
    have HG1 := Lib.hid hg1; clear hg1 hch hne hhd hL0 hfg
    go_wp2
    generalize hW5 : w4.alloc (.cells #[.slice (some ⟨gb, 0, none⟩) hs.length q] 28) = W5 at *
    clear hW5
    have hg1 := HG1.out
    go_loopg [8] (L.length) (fun mm x wr => ∃ (k : Nat) (h : k < L.length), x = .int .i64 L[k] ∧ mm = L.length - k ∧ (∀ j (h : j < L.length), j < k → ctxOf hs L[j] ≠ (fi : Int)) ∧ W5 = wr)
    case atStart => exact ⟨0, hl0, by rw [HL0.out], rfl, fun j h h2 => by omega, rfl⟩
    case round =>
      obtain ⟨k, hk, rfl, rfl, hno, rfl⟩ := hrel
      have HNO := Lib.hid hno; clear hno
      have hr := HCH.out.rng _ (List.getElem_mem hk)
      have hneg := HCH.out.neg k hk
      have hnext := HCH.out.next k hk
      have HONE := Lib.hid (fun j (hj : j < L.length) (e1 : ctxOf hs L[j] = (fi : Int)) (e2 : ctxOf hs L[k] = (fi : Int)) => HCH.out.once (f := (fi : Int)) (by omega) hj hk e1 e2)
      obtain ⟨i, hi⟩ := Int.eq_ofNat_of_zero_le hr.1
      have HI := Lib.hid hi
      rw [hi] at hr hneg hnext
      have hil : i < hs.length := by omega
      have hi3 : (i : Int) < (hs.length : Int) := by omega
      have hcx := ctxOf_at hil
      have q3 := O.cellAt (i * 5 + 3) (by omega)
      rw [show (hs.flatMap (Enc.cells (α := Flt)))[i * 5 + 3]? = _ from (flat_at hs i hil 3 (by decide))] at q3
      simp only [Enc.cells, List.getElem?_cons_succ, List.getElem?_cons_zero] at q3
      rw [← hcx] at q3
      clear hcx
      rw [hi]
      have HNEG := Lib.hid hneg; have HNEXT := Lib.hid hnext
      clear hneg hnext hi
      by_cases hcn : ctxOf hs (i : Int) < 0
      · have hd1 : decide (0 ≤ ctxOf hs (i : Int)) = false := decide_eq_false (by omega)
        have HCN := Lib.hid hcn
        have hnc : cutL hs (fi : Int) L = hs := by
          unfold cutL
          refine cutL_none L hs (fun x hx => ?_)
          obtain ⟨j, hj, rfl⟩ := List.getElem_of_mem hx
          have hk2 := HNEG.out HCN.out
          rcases Nat.lt_or_ge j k with h | h
          · exact HNO.out j hj h
          · have e : j = k := by omega
            subst e; rw [HI.out]; have := HCN.out; omega
        have HNC := Lib.hid hnc; clear hnc
        have O1 := (O.stored (fi * 5 + 3) (.int .i64 g)).1
        rw [flat_ctx hs fi hfi g] at O1
        have HR : raisedL hs (fi : Int) g = setF hs (fi : Int) (ctxF g) := by rw [HRO.out, HNC.out]
        have OF : (W5.setCell ⟨gb, fi * 5 + 3, none⟩ (.int .i64 g)).ownsRow w3.heap.size 35 5 (.slice (some ⟨gb, 0, none⟩) hs.length q) (raisedL hs (fi : Int) g).length ((raisedL hs (fi : Int) g).flatMap Enc.cells) := by rw [raisedL_len, HR]; exact O1
        have LX : Le w (W5.setCell ⟨gb, fi * 5 + 3, none⟩ (.int .i64 g)) := L0.setCell (by omega) _
        have cX : (W5.setCell ⟨gb, fi * 5 + 3, none⟩ (.int .i64 g)).cell? ⟨w.heap.size + 1, 0, none⟩ = some (.slice none 0 0) := (cell_set_other (.inl (by omega))).trans (c1)
        have bX : (W5.setCell ⟨gb, fi * 5 + 3, none⟩ (.int .i64 g)).cell? ⟨w4.heap.size, 0, none⟩ = some (.slice (some ⟨gb, 0, none⟩) hs.length q) := (cell_set_other (.inl (by omega))).trans (cB)
        have fX : (W5.setCell ⟨gb, fi * 5 + 3, none⟩ (.int .i64 g)).frozen? ⟨w.heap.size + 1, 0, none⟩ = false := by simpa using f1
        have k0 := O.cellAt (fi * 5 + 3) (by omega)
        rw [show (hs.flatMap (Enc.cells (α := Flt)))[fi * 5 + 3]? = _ from (flat_at hs fi hfi 3 (by decide))] at k0
        simp only [Enc.cells, List.getElem?_cons_succ, List.getElem?_cons_zero] at k0
        have e0 := O.frozenAt (fi * 5 + 3)
        have hend := fun u => cell_set_same (v := u) cX
        have HE := Lib.hid (res_end (r := w.heap.size + 1) LX (by omega) y1 OF (raisedL_ok hgr HOKH.out))
        clear OF HR LX
        go_wp2
        exact bodyPost_ret (v := .agg #[.slice (some ⟨gb, 0, none⟩) hs.length q]) (by simp [results, Try.results51, go_sem, hend]) rfl ⟨_, rfl, by have h := HE.out (.slice (some ⟨gb, 0, none⟩) hs.length q); exact h.1, (HE.out _).2⟩
      · have hd1 : decide (0 ≤ ctxOf hs (i : Int)) = true := decide_eq_true (by omega)
        by_cases hcf : ctxOf hs (i : Int) = (fi : Int)
        · have hb3 : (ctxOf hs (i : Int) == (fi : Int)) = true := by simpa using hcf
          have HCF := Lib.hid hcf
          clear hcf
          have hcut : cutL hs (fi : Int) L = setF hs (i : Int) (ctxF (-1)) := by
            have := cutL_here (hs := hs) (f := (fi : Int)) hk (by rw [HI.out]; exact HCF.out) (fun j hj hne e => hne (HONE.out j hj e (by rw [HI.out]; exact HCF.out)))
            rw [HI.out] at this; exact this
          have HCUT := Lib.hid hcut; clear hcut
          have O1 := (O.stored (i * 5 + 3) (.int .i64 (-1))).1
          rw [flat_ctx hs i hil (-1)] at O1
          have O2 := (O1.stored (fi * 5 + 3) (.int .i64 g)).1
          rw [flat_ctx (setF hs (i : Int) (ctxF (-1))) fi (by rw [setF_len]; exact hfi) g] at O2
          have HR : raisedL hs (fi : Int) g = setF (setF hs (i : Int) (ctxF (-1))) (fi : Int) (ctxF g) := by rw [HRO.out, HCUT.out]
          have OF : ((W5.setCell ⟨gb, i * 5 + 3, none⟩ (.int .i64 (-1))).setCell ⟨gb, fi * 5 + 3, none⟩ (.int .i64 g)).ownsRow w3.heap.size 35 5 (.slice (some ⟨gb, 0, none⟩) hs.length q) (raisedL hs (fi : Int) g).length ((raisedL hs (fi : Int) g).flatMap Enc.cells) := by rw [raisedL_len, HR]; exact O2
          have LX : Le w ((W5.setCell ⟨gb, i * 5 + 3, none⟩ (.int .i64 (-1))).setCell ⟨gb, fi * 5 + 3, none⟩ (.int .i64 g)) := (L0.setCell (by omega) _).setCell (by omega) _
          have cX : ((W5.setCell ⟨gb, i * 5 + 3, none⟩ (.int .i64 (-1))).setCell ⟨gb, fi * 5 + 3, none⟩ (.int .i64 g)).cell? ⟨w.heap.size + 1, 0, none⟩ = some (.slice none 0 0) := (cell_set_other (.inl (by omega))).trans ((cell_set_other (.inl (by omega))).trans (c1))
          have bX : ((W5.setCell ⟨gb, i * 5 + 3, none⟩ (.int .i64 (-1))).setCell ⟨gb, fi * 5 + 3, none⟩ (.int .i64 g)).cell? ⟨w4.heap.size, 0, none⟩ = some (.slice (some ⟨gb, 0, none⟩) hs.length q) := (cell_set_other (.inl (by omega))).trans ((cell_set_other (.inl (by omega))).trans (cB))
          have fX : ((W5.setCell ⟨gb, i * 5 + 3, none⟩ (.int .i64 (-1))).setCell ⟨gb, fi * 5 + 3, none⟩ (.int .i64 g)).frozen? ⟨w.heap.size + 1, 0, none⟩ = false := by simpa using f1
          have k0 := O.cellAt (i * 5 + 3) (by omega)
          rw [show (hs.flatMap (Enc.cells (α := Flt)))[i * 5 + 3]? = _ from (flat_at hs i hil 3 (by decide))] at k0
          simp only [Enc.cells, List.getElem?_cons_succ, List.getElem?_cons_zero] at k0
          have e0 := O.frozenAt (i * 5 + 3)
          have k1 := O1.cellAt (fi * 5 + 3) (by omega)
          obtain ⟨u1, hu1⟩ : ∃ u, ((setF hs (i : Int) (ctxF (-1))).flatMap (Enc.cells (α := Flt)))[fi * 5 + 3]? = some u := ⟨_, List.getElem?_eq_getElem (by rw [flat_len, setF_len]; show fi * 5 + 3 < hs.length * 5; omega)⟩
          rw [hu1] at k1
          have e1 := O1.frozenAt (fi * 5 + 3)
          have hend := fun u => cell_set_same (v := u) cX
          have HE := Lib.hid (res_end (r := w.heap.size + 1) LX (by omega) y1 OF (raisedL_ok hgr HOKH.out))
          clear OF HR LX
          go_wp2
          exact bodyPost_ret (v := .agg #[.slice (some ⟨gb, 0, none⟩) hs.length q]) (by simp [results, Try.results51, go_sem, hend]) rfl ⟨_, rfl, by have h := HE.out (.slice (some ⟨gb, 0, none⟩) hs.length q); exact h.1, (HE.out _).2⟩
        · have hb3 : (ctxOf hs (i : Int) == (fi : Int)) = false := by simpa using hcf
          obtain ⟨hk2, hn2⟩ := HNEXT.out (by omega)
          have HN2 := Lib.hid hn2
          have HNO2 : Hid (∀ j (h : j < L.length), j < k + 1 → ctxOf hs L[j] ≠ (fi : Int)) := fun j hj h2 => by
            rcases Nat.lt_or_ge j k with h | h
            · exact HNO.out j hj h
            · have e : j = k := by omega
              subst e; rw [HI.out]; exact hcf
          clear hn2 hcf
          go_wp2
          go_roundg (L.length - (k + 1))
          case measure => omega
          case rel => exact ⟨k + 1, hk2, by rw [HN2.out], rfl, HNO2.out, rfl⟩
end Go.Proofs.Ytalcpdjldmgcdaa
