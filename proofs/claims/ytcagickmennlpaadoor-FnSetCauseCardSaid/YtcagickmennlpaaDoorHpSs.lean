/- SetCause -/
import Derived.Test.YtcagickmennlpaaDoorHpQ
namespace Go.Proofs.YtcagickmennlpaaDoor
open Go.RowKit

set_option maxHeartbeats 4000000 in
set_option maxRecDepth 100000 in
theorem sSetCause_any (A H : Option Addr) (n cap m k : Nat) (xs : List Cls) (hs : List Flt) (f : Int) (c : Int) (w : World) (hR : Sl w A n cap xs) (hH : Sl w H m k hs) (hm : m ≤ 1048576) (hc : -9223372036854775808 ≤ c ∧ c ≤ 9223372036854775807) :
    Calls Tryd.prog 25 #[.agg #[.slice A n cap], .agg #[.slice H m k], .int .i64 f, .int .i64 c] w fun e w' => ∃ v, e = .returned (.tuple #[.agg #[v], .bool (scOk xs hs f c)]) ∧ Owd 35 w w' v (scX xs hs f c) ∧ Le w w' := by
  obtain rfl := hH.len
  obtain ⟨c0, z0, c1, z1, c2, z2, L0⟩ := box3 w (.slice A n cap) (.slice H hs.length k) (.slice none 0 0) 25 28 28
  have f2 : (((w.alloc (.cells #[.slice A n cap] 25)).alloc (.cells #[.slice H hs.length k] 28)).alloc (.cells #[.slice none 0 0] 28)).frozen? ⟨w.heap.size + 1 + 1, 0, none⟩ = false := World.frozen?_alloc_at _ _ _ _ (by simp)
  have S0 := hR.le L0
  have S1 := hH.le L0
  have HK := Lib.hid hH.ok
  have hs0 : w.heap.size ≤ (((w.alloc (.cells #[.slice A n cap] 25)).alloc (.cells #[.slice H hs.length k] 28)).alloc (.cells #[.slice none 0 0] 28)).heap.size := L0.size
  have HV : Hid (scOk xs hs f c = (goodF xs hs f && vl hs.length f c)) := rfl
  cases h1 : goodF xs hs f
  · have hX : scOk xs hs f c = false := by rw [HV.out, h1]; rfl
    have HF := Lib.hid (scX_of hX)
    have HX := Lib.hid hX; clear hX
    go_enter Tryd.func25, Tryd.ntmps25
    go_wp2_with fail
    generalize ((w.alloc (.cells #[.slice A n cap] 25)).alloc (.cells #[.slice H hs.length k] 28)).alloc (.cells #[.slice none 0 0] 28) = W at *
    have zW := z2
    refine (goodFault_any A H n cap hs.length k xs hs _ W S0 S1 (by omega)).mono ?_
    rintro e w2 ⟨rfl, hle⟩
    rw [h1]
    replace c0 := (hle.cell z0).trans c0
    replace c1 := (hle.cell z1).trans c1
    replace c2 := (hle.cell z2).trans c2
    replace f2 := (hle.frozen z2).trans f2
    replace z0 := Nat.lt_of_lt_of_le z0 hle.size
    replace z1 := Nat.lt_of_lt_of_le z1 hle.size
    replace z2 := Nat.lt_of_lt_of_le z2 hle.size
    replace L0 := L0.trans hle
    replace S0 := S0.le hle
    replace S1 := S1.le hle
    have hs2 := hle.size
    clear hle h1
    have hend := fun u => cell_set_same (v := u) c2
    go_wp2
    exact bodyPost_ret (v := .tuple #[.agg #[.slice none 0 0], .bool false]) (by simp [results, Tryd.results25, go_sem, hend]) rfl ⟨_, by first | rfl | rw [HX.out], by rw [HF.out]; exact Owd.nil _ _ _, L0.setCell (by omega) _⟩
  · obtain ⟨i, rfl, hi⟩ := goodF_at h1
    have hfew := goodF_few h1
    have him : (i : Int) < (hs.length : Int) := by omega
    cases h2 : vl hs.length i c
    · have hX : scOk xs hs i c = false := by rw [HV.out, h1, h2]; rfl
      have HF := Lib.hid (scX_of hX)
      have HX := Lib.hid hX; clear hX
      have hv := h2
      clear h2
      unfold vl at hv
      by_cases hcf : c = (i : Int)
      · subst hcf
        go_enter Tryd.func25, Tryd.ntmps25
        go_wp2_with fail
        generalize ((w.alloc (.cells #[.slice A n cap] 25)).alloc (.cells #[.slice H hs.length k] 28)).alloc (.cells #[.slice none 0 0] 28) = W at *
        have zW := z2
        refine (goodFault_any A H n cap hs.length k xs hs _ W S0 S1 (by omega)).mono ?_
        rintro e w2 ⟨rfl, hle⟩
        rw [h1]
        replace c0 := (hle.cell z0).trans c0
        replace c1 := (hle.cell z1).trans c1
        replace c2 := (hle.cell z2).trans c2
        replace f2 := (hle.frozen z2).trans f2
        replace z0 := Nat.lt_of_lt_of_le z0 hle.size
        replace z1 := Nat.lt_of_lt_of_le z1 hle.size
        replace z2 := Nat.lt_of_lt_of_le z2 hle.size
        replace L0 := L0.trans hle
        replace S0 := S0.le hle
        replace S1 := S1.le hle
        have hs2 := hle.size
        clear hle h1
        have hend := fun u => cell_set_same (v := u) c2
        go_wp2
        exact bodyPost_ret (v := .tuple #[.agg #[.slice none 0 0], .bool false]) (by simp [results, Tryd.results25, go_sem, hend]) rfl ⟨_, by first | rfl | rw [HX.out], by rw [HF.out]; exact Owd.nil _ _ _, L0.setCell (by omega) _⟩
      · have hcf2 : (c != (i : Int)) = true := by simpa using hcf
        rw [hcf2, Bool.true_and] at hv
        have hc1 : c ≠ -1 := by rintro rfl; have : rng (-1) ((hs.length : Int) - 1) (-1) = true := rng_iff.2 (by omega); rw [hv] at this; cases this
        have h3 : hasF hs c = false := by rw [Bool.eq_false_iff]; intro h; have h4 := hasF_iff.1 h; have : rng (-1) ((hs.length : Int) - 1) c = true := rng_iff.2 (by omega); rw [hv] at this; cases this
        clear hv hcf2
        have hq1 : (c == (i : Int)) = false := by simpa using hcf
        have hq2 : (c != -1) = true := by simpa using hc1
        go_enter Tryd.func25, Tryd.ntmps25
        go_wp2_with fail
        generalize ((w.alloc (.cells #[.slice A n cap] 25)).alloc (.cells #[.slice H hs.length k] 28)).alloc (.cells #[.slice none 0 0] 28) = W at *
        have zW := z2
        refine (goodFault_any A H n cap hs.length k xs hs _ W S0 S1 (by omega)).mono ?_
        rintro e w2 ⟨rfl, hle⟩
        rw [h1]
        replace c0 := (hle.cell z0).trans c0
        replace c1 := (hle.cell z1).trans c1
        replace c2 := (hle.cell z2).trans c2
        replace f2 := (hle.frozen z2).trans f2
        replace z0 := Nat.lt_of_lt_of_le z0 hle.size
        replace z1 := Nat.lt_of_lt_of_le z1 hle.size
        replace z2 := Nat.lt_of_lt_of_le z2 hle.size
        replace L0 := L0.trans hle
        replace S0 := S0.le hle
        replace S1 := S1.le hle
        have hs2 := hle.size
        clear hle h1
        go_wp2_with fail
        refine (sHasFault_any H hs.length k hs c _ S1).mono ?_
        rintro e w3 ⟨rfl, hle⟩
        rw [h3]
        replace c0 := (hle.cell z0).trans c0
        replace c1 := (hle.cell z1).trans c1
        replace c2 := (hle.cell z2).trans c2
        replace f2 := (hle.frozen z2).trans f2
        replace z0 := Nat.lt_of_lt_of_le z0 hle.size
        replace z1 := Nat.lt_of_lt_of_le z1 hle.size
        replace z2 := Nat.lt_of_lt_of_le z2 hle.size
        replace L0 := L0.trans hle
        replace S0 := S0.le hle
        replace S1 := S1.le hle
        have hs3 := hle.size
        clear hle h3
        have hend := fun u => cell_set_same (v := u) c2
        go_wp2
        exact bodyPost_ret (v := .tuple #[.agg #[.slice none 0 0], .bool false]) (by simp [results, Tryd.results25, go_sem, hend]) rfl ⟨_, by first | rfl | rw [HX.out], by rw [HF.out]; exact Owd.nil _ _ _, L0.setCell (by omega) _⟩
    · have hX : scOk xs hs i c = true := by rw [HV.out, h1, h2]; rfl
      have HF := Lib.hid (scX_of hX)
      have HX := Lib.hid hX; clear hX
      have hv := h2
      clear h2
      unfold vl at hv
      simp only [Bool.and_eq_true, bne_iff_ne, rng_iff] at hv
      obtain ⟨hcf, hv1, hv2⟩ := hv
      have hG : Hid (∀ w3 : World, True) := fun _ => trivial
      have hq1 : (c == (i : Int)) = false := by simpa using hcf
      by_cases hc1 : c = -1
      · subst hc1
        go_enter Tryd.func25, Tryd.ntmps25
        go_wp2_with fail
        generalize ((w.alloc (.cells #[.slice A n cap] 25)).alloc (.cells #[.slice H hs.length k] 28)).alloc (.cells #[.slice none 0 0] 28) = W at *
        have zW := z2
        refine (goodFault_any A H n cap hs.length k xs hs _ W S0 S1 (by omega)).mono ?_
        rintro e w2 ⟨rfl, hle⟩
        rw [h1]
        replace c0 := (hle.cell z0).trans c0
        replace c1 := (hle.cell z1).trans c1
        replace c2 := (hle.cell z2).trans c2
        replace f2 := (hle.frozen z2).trans f2
        replace z0 := Nat.lt_of_lt_of_le z0 hle.size
        replace z1 := Nat.lt_of_lt_of_le z1 hle.size
        replace z2 := Nat.lt_of_lt_of_le z2 hle.size
        replace L0 := L0.trans hle
        replace S0 := S0.le hle
        replace S1 := S1.le hle
        have hs2 := hle.size
        clear hle h1
        clear hcf hv1 hv2 hc
        have HE0 : Hid (∀ x ∈ setF hs i (cauF (-1)), Enc.ok x) := setF_ok HK.out (cauF_ok (by omega))
        go_wp2_with fail
        refine (sCopyHeap_any H hs.length k hs _ S1 (by omega)).mono ?_
        rintro e w4 ⟨v, rfl, D, hle⟩
        obtain ⟨g, q, rfl, O, hg0, hg1⟩ := D.blk (by omega)
        have hs4 := hle.size
        replace c0 := (hle.cell z0).trans c0
        replace c1 := (hle.cell z1).trans c1
        replace c2 := (hle.cell z2).trans c2
        replace f2 := (hle.frozen z2).trans f2
        replace z0 := Nat.lt_of_lt_of_le z0 hle.size
        replace z1 := Nat.lt_of_lt_of_le z1 hle.size
        replace z2 := Nat.lt_of_lt_of_le z2 hle.size
        replace L0 := L0.trans hle
        clear hle D S0 S1
        have cB : (w4.alloc (.cells #[.slice (some ⟨g, 0, none⟩) hs.length q] 28)).cell? ⟨w4.heap.size, 0, none⟩ = some (.slice (some ⟨g, 0, none⟩) hs.length q) := by rw [World.cell?_alloc_at _ _ _ _ rfl]; rfl
        have zB : w4.heap.size < (w4.alloc (.cells #[.slice (some ⟨g, 0, none⟩) hs.length q] 28)).heap.size := by simp
        have LB := Le.new w4 (.cells #[.slice (some ⟨g, 0, none⟩) hs.length q] 28)
        replace c0 := (LB.cell z0).trans c0
        replace c1 := (LB.cell z1).trans c1
        replace c2 := (LB.cell z2).trans c2
        replace f2 := (LB.frozen z2).trans f2
        replace z0 := Nat.lt_of_lt_of_le z0 LB.size
        replace z1 := Nat.lt_of_lt_of_le z1 LB.size
        replace z2 := Nat.lt_of_lt_of_le z2 LB.size
        replace L0 := L0.trans LB
        replace O := own_le O LB
        clear LB
        generalize hW5 : w4.alloc (.cells #[.slice (some ⟨g, 0, none⟩) hs.length q] 28) = W5 at *
        have hgW : g < W5.heap.size := by omega
        have q2 := O.cellAt (i * 5 + 2) (by omega)
        have q4 := O.cellAt (i * 5 + 4) (by omega)
        rw [show (hs.flatMap (Enc.cells (α := Flt)))[i * 5 + 2]? = _ from (flat_at hs i hi 2 (by decide))] at q2
        rw [show (hs.flatMap (Enc.cells (α := Flt)))[i * 5 + 4]? = _ from (flat_at hs i hi 4 (by decide))] at q4
        simp only [Enc.cells, List.getElem?_cons_succ, List.getElem?_cons_zero] at q2 q4
        have e2 := O.frozenAt (i * 5 + 2)
        have e4 := O.frozenAt (i * 5 + 4)
        have O5 := ((O.stored (i * 5 + 2) (.int .i64 (-1))).1.stored (i * 5 + 4) (.bool true)).1
        rw [flat_cau hs i hi (-1)] at O5
        have L5 : Le w ((W5.setCell ⟨g, i * 5 + 2, none⟩ (.int .i64 (-1))).setCell ⟨g, i * 5 + 4, none⟩ (.bool true)) := by first | exact (L0.setCell (by omega) _).setCell (by omega) _ | exact L0.setCell (by omega) _
        have c5 : ((W5.setCell ⟨g, i * 5 + 2, none⟩ (.int .i64 (-1))).setCell ⟨g, i * 5 + 4, none⟩ (.bool true)).cell? ⟨w.heap.size + 1 + 1, 0, none⟩ = some (.slice none 0 0) := by first | exact ((cell_set_other (.inl (by omega))).trans (cell_set_other (.inl (by omega)))).trans c2 | exact (cell_set_other (.inl (by omega))).trans c2
        have f5 : ((W5.setCell ⟨g, i * 5 + 2, none⟩ (.int .i64 (-1))).setCell ⟨g, i * 5 + 4, none⟩ (.bool true)).frozen? ⟨w.heap.size + 1 + 1, 0, none⟩ = false := by simpa using f2
        have d5 : ((W5.setCell ⟨g, i * 5 + 2, none⟩ (.int .i64 (-1))).setCell ⟨g, i * 5 + 4, none⟩ (.bool true)).cell? ⟨w4.heap.size, 0, none⟩ = some (.slice (some ⟨g, 0, none⟩) hs.length q) := by first | exact ((cell_set_other (.inl (by omega))).trans (cell_set_other (.inl (by omega)))).trans cB | exact (cell_set_other (.inl (by omega))).trans cB
        have hend := fun u => cell_set_same (v := u) c5
        have HE := Lib.hid (res_end (r := w.heap.size + 1 + 1) L5 (by omega) (show w.heap.size + 1 + 1 < w.heap.size + 1 + 1 + 1 from Nat.lt_succ_self _) (own_mono (base := _) (by rw [setF_len]; exact O5) (by omega)) HE0.out)
        clear HE0
        subst hW5
        clear hg1 hgW O O5
        go_wp2
        exact bodyPost_ret (v := .tuple #[.agg #[.slice (some ⟨g, 0, none⟩) hs.length q], .bool true]) (by simp [results, Tryd.results25, go_sem, hend]) rfl ⟨_, by first | rfl | rw [HX.out], by rw [HF.out]; exact (HE.out _).1, (HE.out _).2⟩
      · have h3 : hasF hs c = true := hasF_iff.2 (by omega)
        have hq2 : (c != -1) = true := by simpa using hc1
        go_enter Tryd.func25, Tryd.ntmps25
        go_wp2_with fail
        generalize ((w.alloc (.cells #[.slice A n cap] 25)).alloc (.cells #[.slice H hs.length k] 28)).alloc (.cells #[.slice none 0 0] 28) = W at *
        have zW := z2
        refine (goodFault_any A H n cap hs.length k xs hs _ W S0 S1 (by omega)).mono ?_
        rintro e w2 ⟨rfl, hle⟩
        rw [h1]
        replace c0 := (hle.cell z0).trans c0
        replace c1 := (hle.cell z1).trans c1
        replace c2 := (hle.cell z2).trans c2
        replace f2 := (hle.frozen z2).trans f2
        replace z0 := Nat.lt_of_lt_of_le z0 hle.size
        replace z1 := Nat.lt_of_lt_of_le z1 hle.size
        replace z2 := Nat.lt_of_lt_of_le z2 hle.size
        replace L0 := L0.trans hle
        replace S0 := S0.le hle
        replace S1 := S1.le hle
        have hs2 := hle.size
        clear hle h1
        go_wp2_with fail
        refine (sHasFault_any H hs.length k hs c _ S1).mono ?_
        rintro e w3 ⟨rfl, hle⟩
        rw [h3]
        replace c0 := (hle.cell z0).trans c0
        replace c1 := (hle.cell z1).trans c1
        replace c2 := (hle.cell z2).trans c2
        replace f2 := (hle.frozen z2).trans f2
        replace z0 := Nat.lt_of_lt_of_le z0 hle.size
        replace z1 := Nat.lt_of_lt_of_le z1 hle.size
        replace z2 := Nat.lt_of_lt_of_le z2 hle.size
        replace L0 := L0.trans hle
        replace S0 := S0.le hle
        replace S1 := S1.le hle
        have hs3 := hle.size
        clear hle h3 hcf hv1 hv2
        have HE0 : Hid (∀ x ∈ setF hs i (cauF c), Enc.ok x) := setF_ok HK.out (cauF_ok hc)
        go_wp2_with fail
        refine (sCopyHeap_any H hs.length k hs _ S1 (by omega)).mono ?_
        rintro e w4 ⟨v, rfl, D, hle⟩
        obtain ⟨g, q, rfl, O, hg0, hg1⟩ := D.blk (by omega)
        have hs4 := hle.size
        replace c0 := (hle.cell z0).trans c0
        replace c1 := (hle.cell z1).trans c1
        replace c2 := (hle.cell z2).trans c2
        replace f2 := (hle.frozen z2).trans f2
        replace z0 := Nat.lt_of_lt_of_le z0 hle.size
        replace z1 := Nat.lt_of_lt_of_le z1 hle.size
        replace z2 := Nat.lt_of_lt_of_le z2 hle.size
        replace L0 := L0.trans hle
        clear hle D S0 S1
        have cB : (w4.alloc (.cells #[.slice (some ⟨g, 0, none⟩) hs.length q] 28)).cell? ⟨w4.heap.size, 0, none⟩ = some (.slice (some ⟨g, 0, none⟩) hs.length q) := by rw [World.cell?_alloc_at _ _ _ _ rfl]; rfl
        have zB : w4.heap.size < (w4.alloc (.cells #[.slice (some ⟨g, 0, none⟩) hs.length q] 28)).heap.size := by simp
        have LB := Le.new w4 (.cells #[.slice (some ⟨g, 0, none⟩) hs.length q] 28)
        replace c0 := (LB.cell z0).trans c0
        replace c1 := (LB.cell z1).trans c1
        replace c2 := (LB.cell z2).trans c2
        replace f2 := (LB.frozen z2).trans f2
        replace z0 := Nat.lt_of_lt_of_le z0 LB.size
        replace z1 := Nat.lt_of_lt_of_le z1 LB.size
        replace z2 := Nat.lt_of_lt_of_le z2 LB.size
        replace L0 := L0.trans LB
        replace O := own_le O LB
        clear LB
        generalize hW5 : w4.alloc (.cells #[.slice (some ⟨g, 0, none⟩) hs.length q] 28) = W5 at *
        have hgW : g < W5.heap.size := by omega
        have q2 := O.cellAt (i * 5 + 2) (by omega)
        have q4 := O.cellAt (i * 5 + 4) (by omega)
        rw [show (hs.flatMap (Enc.cells (α := Flt)))[i * 5 + 2]? = _ from (flat_at hs i hi 2 (by decide))] at q2
        rw [show (hs.flatMap (Enc.cells (α := Flt)))[i * 5 + 4]? = _ from (flat_at hs i hi 4 (by decide))] at q4
        simp only [Enc.cells, List.getElem?_cons_succ, List.getElem?_cons_zero] at q2 q4
        have e2 := O.frozenAt (i * 5 + 2)
        have e4 := O.frozenAt (i * 5 + 4)
        have O5 := ((O.stored (i * 5 + 2) (.int .i64 c)).1.stored (i * 5 + 4) (.bool true)).1
        rw [flat_cau hs i hi c] at O5
        have L5 : Le w ((W5.setCell ⟨g, i * 5 + 2, none⟩ (.int .i64 c)).setCell ⟨g, i * 5 + 4, none⟩ (.bool true)) := by first | exact (L0.setCell (by omega) _).setCell (by omega) _ | exact L0.setCell (by omega) _
        have c5 : ((W5.setCell ⟨g, i * 5 + 2, none⟩ (.int .i64 c)).setCell ⟨g, i * 5 + 4, none⟩ (.bool true)).cell? ⟨w.heap.size + 1 + 1, 0, none⟩ = some (.slice none 0 0) := by first | exact ((cell_set_other (.inl (by omega))).trans (cell_set_other (.inl (by omega)))).trans c2 | exact (cell_set_other (.inl (by omega))).trans c2
        have f5 : ((W5.setCell ⟨g, i * 5 + 2, none⟩ (.int .i64 c)).setCell ⟨g, i * 5 + 4, none⟩ (.bool true)).frozen? ⟨w.heap.size + 1 + 1, 0, none⟩ = false := by simpa using f2
        have d5 : ((W5.setCell ⟨g, i * 5 + 2, none⟩ (.int .i64 c)).setCell ⟨g, i * 5 + 4, none⟩ (.bool true)).cell? ⟨w4.heap.size, 0, none⟩ = some (.slice (some ⟨g, 0, none⟩) hs.length q) := by first | exact ((cell_set_other (.inl (by omega))).trans (cell_set_other (.inl (by omega)))).trans cB | exact (cell_set_other (.inl (by omega))).trans cB
        have hend := fun u => cell_set_same (v := u) c5
        have HE := Lib.hid (res_end (r := w.heap.size + 1 + 1) L5 (by omega) (show w.heap.size + 1 + 1 < w.heap.size + 1 + 1 + 1 from Nat.lt_succ_self _) (own_mono (base := _) (by rw [setF_len]; exact O5) (by omega)) HE0.out)
        clear HE0
        subst hW5
        clear hg1 hgW O O5
        go_wp2
        exact bodyPost_ret (v := .tuple #[.agg #[.slice (some ⟨g, 0, none⟩) hs.length q], .bool true]) (by simp [results, Tryd.results25, go_sem, hend]) rfl ⟨_, by first | rfl | rw [HX.out], by rw [HF.out]; exact (HE.out _).1, (HE.out _).2⟩
end Go.Proofs.YtcagickmennlpaaDoor
