/- SetCause -/
import Derived.Test.YtcagickmennlpaaDoorHpQ
namespace Go.Proofs.YtcagickmennlpaaDoor
open Go.RowKit

set_option maxHeartbeats 4000000 in
set_option maxRecDepth 100000 in
theorem iSetCause_any (A H : Option Addr) (n cap m k : Nat) (xs : List Cls) (hs : List Flt) (f : Int) (c : Int) (w : World) (hR : Sl w A n cap xs) (hH : Sl w H m k hs) (hm : m ≤ 1048576) (hc : -9223372036854775808 ≤ c ∧ c ≤ 9223372036854775807) :
    Calls Tryd.prog 24 #[.agg #[.slice A n cap], .agg #[.slice H m k], .int .i64 f, .int .i64 c] w fun e w' => ∃ v, e = .returned (.tuple #[.agg #[v], .bool (scOk xs hs f c)]) ∧ Owd 35 w w' v (scX xs hs f c) ∧ Le w w' := by
  obtain rfl := hH.len
  obtain ⟨c0, z0, c1, z1, c2, z2, L0⟩ := box3 w (.slice A n cap) (.slice H hs.length k) (.slice none 0 0) 25 28 28
  have f2 : (((w.alloc (.cells #[.slice A n cap] 25)).alloc (.cells #[.slice H hs.length k] 28)).alloc (.cells #[.slice none 0 0] 28)).frozen? ⟨w.heap.size + 1 + 1, 0, none⟩ = false := World.frozen?_alloc_at _ _ _ _ (by simp)
  have S0 := hR.le L0
  have S1 := hH.le L0
  have HK := Lib.hid hH.ok
  have hs0 : w.heap.size ≤ (((w.alloc (.cells #[.slice A n cap] 25)).alloc (.cells #[.slice H hs.length k] 28)).alloc (.cells #[.slice none 0 0] 28)).heap.size := L0.size
  have HV : Hid (scOk xs hs f c = (goodF xs hs f && vl hs.length f c)) := rfl
  cases h1 : goodF xs hs f
  · have hX : scOk xs hs f c = false := by rw [HV.out, h1]; rfl
    have HF := Lib.hid (scX_of hX)
    have HX := Lib.hid hX; clear hX
    go_enter Tryd.func24, Tryd.ntmps24
    go_wp2_with fail
    generalize ((w.alloc (.cells #[.slice A n cap] 25)).alloc (.cells #[.slice H hs.length k] 28)).alloc (.cells #[.slice none 0 0] 28) = W at *
    have zW := z2
    refine (iHasFault_any A H n cap hs.length k xs hs _ W S0 S1 (by omega)).mono ?_
    rintro e w2 ⟨rfl, hle⟩
    rw [h1]
    replace c0 := (hle.cell z0).trans c0
    replace c1 := (hle.cell z1).trans c1
    replace c2 := (hle.cell z2).trans c2
    replace f2 := (hle.frozen z2).trans f2
    replace z0 := Nat.lt_of_lt_of_le z0 hle.size
    replace z1 := Nat.lt_of_lt_of_le z1 hle.size
    replace z2 := Nat.lt_of_lt_of_le z2 hle.size
    replace L0 := L0.trans hle
    replace S0 := S0.le hle
    replace S1 := S1.le hle
    have hs2 := hle.size
    clear hle h1
    have hend := fun u => cell_set_same (v := u) c2
    go_wp2
    exact bodyPost_ret (v := .tuple #[.agg #[.slice none 0 0], .bool false]) (by simp [results, Tryd.results24, go_sem, hend]) rfl ⟨_, by first | rfl | rw [HX.out], by rw [HF.out]; exact Owd.nil _ _ _, L0.setCell (by omega) _⟩
  · obtain ⟨i, rfl, hi⟩ := goodF_at h1
    have hfew := goodF_few h1
    have him : (i : Int) < (hs.length : Int) := by omega
    cases h2 : vl hs.length i c
    · have hX : scOk xs hs i c = false := by rw [HV.out, h1, h2]; rfl
      have HF := Lib.hid (scX_of hX)
      have HX := Lib.hid hX; clear hX
      go_enter Tryd.func24, Tryd.ntmps24
      go_wp2_with fail
      generalize ((w.alloc (.cells #[.slice A n cap] 25)).alloc (.cells #[.slice H hs.length k] 28)).alloc (.cells #[.slice none 0 0] 28) = W at *
      have zW := z2
      refine (iHasFault_any A H n cap hs.length k xs hs _ W S0 S1 (by omega)).mono ?_
      rintro e w2 ⟨rfl, hle⟩
      rw [h1]
      replace c0 := (hle.cell z0).trans c0
      replace c1 := (hle.cell z1).trans c1
      replace c2 := (hle.cell z2).trans c2
      replace f2 := (hle.frozen z2).trans f2
      replace z0 := Nat.lt_of_lt_of_le z0 hle.size
      replace z1 := Nat.lt_of_lt_of_le z1 hle.size
      replace z2 := Nat.lt_of_lt_of_le z2 hle.size
      replace L0 := L0.trans hle
      replace S0 := S0.le hle
      replace S1 := S1.le hle
      have hs2 := hle.size
      clear hle h1
      go_wp2_with fail
      refine (validLink_any hs.length i c _ (by omega) (by omega)).mono ?_
      rintro e w3 ⟨rfl, hle⟩
      rw [h2]
      replace c0 := (hle.cell z0).trans c0
      replace c1 := (hle.cell z1).trans c1
      replace c2 := (hle.cell z2).trans c2
      replace f2 := (hle.frozen z2).trans f2
      replace z0 := Nat.lt_of_lt_of_le z0 hle.size
      replace z1 := Nat.lt_of_lt_of_le z1 hle.size
      replace z2 := Nat.lt_of_lt_of_le z2 hle.size
      replace L0 := L0.trans hle
      replace S0 := S0.le hle
      replace S1 := S1.le hle
      have hs3 := hle.size
      clear hle h2
      have hend := fun u => cell_set_same (v := u) c2
      go_wp2
      exact bodyPost_ret (v := .tuple #[.agg #[.slice none 0 0], .bool false]) (by simp [results, Tryd.results24, go_sem, hend]) rfl ⟨_, by first | rfl | rw [HX.out], by rw [HF.out]; exact Owd.nil _ _ _, L0.setCell (by omega) _⟩
    · have hX : scOk xs hs i c = true := by rw [HV.out, h1, h2]; rfl
      have HF := Lib.hid (scX_of hX)
      have HX := Lib.hid hX; clear hX
      go_enter Tryd.func24, Tryd.ntmps24
      go_wp2_with fail
      generalize ((w.alloc (.cells #[.slice A n cap] 25)).alloc (.cells #[.slice H hs.length k] 28)).alloc (.cells #[.slice none 0 0] 28) = W at *
      have zW := z2
      refine (iHasFault_any A H n cap hs.length k xs hs _ W S0 S1 (by omega)).mono ?_
      rintro e w2 ⟨rfl, hle⟩
      rw [h1]
      replace c0 := (hle.cell z0).trans c0
      replace c1 := (hle.cell z1).trans c1
      replace c2 := (hle.cell z2).trans c2
      replace f2 := (hle.frozen z2).trans f2
      replace z0 := Nat.lt_of_lt_of_le z0 hle.size
      replace z1 := Nat.lt_of_lt_of_le z1 hle.size
      replace z2 := Nat.lt_of_lt_of_le z2 hle.size
      replace L0 := L0.trans hle
      replace S0 := S0.le hle
      replace S1 := S1.le hle
      have hs2 := hle.size
      clear hle h1
      go_wp2_with fail
      refine (validLink_any hs.length i c _ (by omega) (by omega)).mono ?_
      rintro e w3 ⟨rfl, hle⟩
      rw [h2]
      replace c0 := (hle.cell z0).trans c0
      replace c1 := (hle.cell z1).trans c1
      replace c2 := (hle.cell z2).trans c2
      replace f2 := (hle.frozen z2).trans f2
      replace z0 := Nat.lt_of_lt_of_le z0 hle.size
      replace z1 := Nat.lt_of_lt_of_le z1 hle.size
      replace z2 := Nat.lt_of_lt_of_le z2 hle.size
      replace L0 := L0.trans hle
      replace S0 := S0.le hle
      replace S1 := S1.le hle
      have hs3 := hle.size
      clear hle h2
      have HE0 : Hid (∀ x ∈ setF hs i (cauF c), Enc.ok x) := setF_ok HK.out (cauF_ok hc)
      go_wp2_with fail
      refine (iCopyHeap_any H hs.length k hs _ S1 (by omega)).mono ?_
      rintro e w4 ⟨v, rfl, D, hle⟩
      obtain ⟨g, q, rfl, O, hg0, hg1⟩ := D.blk (by omega)
      have hs4 := hle.size
      replace c0 := (hle.cell z0).trans c0
      replace c1 := (hle.cell z1).trans c1
      replace c2 := (hle.cell z2).trans c2
      replace f2 := (hle.frozen z2).trans f2
      replace z0 := Nat.lt_of_lt_of_le z0 hle.size
      replace z1 := Nat.lt_of_lt_of_le z1 hle.size
      replace z2 := Nat.lt_of_lt_of_le z2 hle.size
      replace L0 := L0.trans hle
      clear hle D S0 S1
      have cB : (w4.alloc (.cells #[.slice (some ⟨g, 0, none⟩) hs.length q] 28)).cell? ⟨w4.heap.size, 0, none⟩ = some (.slice (some ⟨g, 0, none⟩) hs.length q) := by rw [World.cell?_alloc_at _ _ _ _ rfl]; rfl
      have zB : w4.heap.size < (w4.alloc (.cells #[.slice (some ⟨g, 0, none⟩) hs.length q] 28)).heap.size := by simp
      have LB := Le.new w4 (.cells #[.slice (some ⟨g, 0, none⟩) hs.length q] 28)
      replace c0 := (LB.cell z0).trans c0
      replace c1 := (LB.cell z1).trans c1
      replace c2 := (LB.cell z2).trans c2
      replace f2 := (LB.frozen z2).trans f2
      replace z0 := Nat.lt_of_lt_of_le z0 LB.size
      replace z1 := Nat.lt_of_lt_of_le z1 LB.size
      replace z2 := Nat.lt_of_lt_of_le z2 LB.size
      replace L0 := L0.trans LB
      replace O := own_le O LB
      clear LB
      go_wp2_with fail
      generalize w4.alloc (.cells #[.slice (some ⟨g, 0, none⟩) hs.length q] 28) = W6 at *
      obtain ⟨W5, hW5⟩ : ∃ W5, W5 = W6.drew := ⟨_, rfl⟩
      replace cB := (show W6.drew.cell? _ = _ from cB)
      replace c2 := (show W6.drew.cell? _ = _ from c2)
      replace f2 := (show W6.drew.frozen? _ = _ from f2)
      replace zB := (show w4.heap.size < W6.drew.heap.size from zB)
      replace O := O.drew
      replace L0 := L0.drew
      rw [← hW5] at cB c2 f2 zB O L0
      have hgW : g < W5.heap.size := by omega
      have q2 := O.cellAt (i * 5 + 2) (by omega)
      have q4 := O.cellAt (i * 5 + 4) (by omega)
      rw [show (hs.flatMap (Enc.cells (α := Flt)))[i * 5 + 2]? = _ from (flat_at hs i hi 2 (by decide))] at q2
      rw [show (hs.flatMap (Enc.cells (α := Flt)))[i * 5 + 4]? = _ from (flat_at hs i hi 4 (by decide))] at q4
      simp only [Enc.cells, List.getElem?_cons_succ, List.getElem?_cons_zero] at q2 q4
      have e2 := O.frozenAt (i * 5 + 2)
      have e4 := O.frozenAt (i * 5 + 4)
      have O5 := ((O.stored (i * 5 + 2) (.int .i64 c)).1.stored (i * 5 + 4) (.bool true)).1
      rw [flat_cau hs i hi c] at O5
      have L5 : Le w ((W5.setCell ⟨g, i * 5 + 2, none⟩ (.int .i64 c)).setCell ⟨g, i * 5 + 4, none⟩ (.bool true)) := by first | exact (L0.setCell (by omega) _).setCell (by omega) _ | exact L0.setCell (by omega) _
      have c5 : ((W5.setCell ⟨g, i * 5 + 2, none⟩ (.int .i64 c)).setCell ⟨g, i * 5 + 4, none⟩ (.bool true)).cell? ⟨w.heap.size + 1 + 1, 0, none⟩ = some (.slice none 0 0) := by first | exact ((cell_set_other (.inl (by omega))).trans (cell_set_other (.inl (by omega)))).trans c2 | exact (cell_set_other (.inl (by omega))).trans c2
      have f5 : ((W5.setCell ⟨g, i * 5 + 2, none⟩ (.int .i64 c)).setCell ⟨g, i * 5 + 4, none⟩ (.bool true)).frozen? ⟨w.heap.size + 1 + 1, 0, none⟩ = false := by simpa using f2
      have d5 : ((W5.setCell ⟨g, i * 5 + 2, none⟩ (.int .i64 c)).setCell ⟨g, i * 5 + 4, none⟩ (.bool true)).cell? ⟨w4.heap.size, 0, none⟩ = some (.slice (some ⟨g, 0, none⟩) hs.length q) := by first | exact ((cell_set_other (.inl (by omega))).trans (cell_set_other (.inl (by omega)))).trans cB | exact (cell_set_other (.inl (by omega))).trans cB
      have hend := fun u => cell_set_same (v := u) c5
      have HE := Lib.hid (res_end (r := w.heap.size + 1 + 1) L5 (by omega) (show w.heap.size + 1 + 1 < w.heap.size + 1 + 1 + 1 from Nat.lt_succ_self _) (own_mono (base := _) (by rw [setF_len]; exact O5) (by omega)) HE0.out)
      clear HE0
      subst hW5
      have e6 : (W6.drew.setCell ⟨g, i * 5 + 2, none⟩ (.int .i64 c)).frozen? ⟨g, i * 5 + 4, none⟩ = false := by simpa using e4
      have d6 : (W6.drew.setCell ⟨g, i * 5 + 2, none⟩ (.int .i64 c)).cell? ⟨w4.heap.size, 0, none⟩ = some (.slice (some ⟨g, 0, none⟩) hs.length q) := (cell_set_other (.inl (by omega))).trans cB
      have q6 : (W6.drew.setCell ⟨g, i * 5 + 2, none⟩ (.int .i64 c)).cell? ⟨g, i * 5 + 4, none⟩ = some (.bool hs[i].hide) := (cell_set_other (.inr (by omega))).trans q4
      have q7 := (show (W6.setCell ⟨g, i * 5 + 2, none⟩ (.int .i64 c)).cell? ⟨g, i * 5 + 4, none⟩ = some (.bool hs[i].hide) from q6)
      have e7 := (show (W6.setCell ⟨g, i * 5 + 2, none⟩ (.int .i64 c)).frozen? ⟨g, i * 5 + 4, none⟩ = false from e6)
      have q8 := (show (W6.setCell ⟨g, i * 5 + 2, none⟩ (.int .i64 c)).drew.cell? ⟨g, i * 5 + 4, none⟩ = some (.bool hs[i].hide) from q6)
      have e8 := (show (W6.setCell ⟨g, i * 5 + 2, none⟩ (.int .i64 c)).drew.frozen? ⟨g, i * 5 + 4, none⟩ = false from e6)
      go_region_held3 (fun w' => w'.cell? ⟨w4.heap.size, 0, none⟩ = some (.slice (some ⟨g, 0, none⟩) hs.length q)) (first | exact cB | exact d6 | exact d5) (fail)
      have c8 := (show ((W6.setCell ⟨g, i * 5 + 2, none⟩ (.int .i64 c)).setCell ⟨g, i * 5 + 4, none⟩ (.bool true)).drew.cell? ⟨w.heap.size + 1 + 1, 0, none⟩ = some (.slice none 0 0) from c5)
      have f8 := (show ((W6.setCell ⟨g, i * 5 + 2, none⟩ (.int .i64 c)).setCell ⟨g, i * 5 + 4, none⟩ (.bool true)).drew.frozen? ⟨w.heap.size + 1 + 1, 0, none⟩ = false from f5)
      have d8 := (show ((W6.setCell ⟨g, i * 5 + 2, none⟩ (.int .i64 c)).setCell ⟨g, i * 5 + 4, none⟩ (.bool true)).drew.cell? ⟨w4.heap.size, 0, none⟩ = some (.slice (some ⟨g, 0, none⟩) hs.length q) from d5)
      have HE2 : Hid (∀ u : Value, Owd 35 w (((W6.setCell ⟨g, i * 5 + 2, none⟩ (.int .i64 c)).setCell ⟨g, i * 5 + 4, none⟩ (.bool true)).drew.setCell ⟨w.heap.size + 1 + 1, 0, none⟩ u) (.slice (some ⟨g, 0, none⟩) hs.length q) (setF hs i (cauF c)) ∧ Le w (((W6.setCell ⟨g, i * 5 + 2, none⟩ (.int .i64 c)).setCell ⟨g, i * 5 + 4, none⟩ (.bool true)).drew.setCell ⟨w.heap.size + 1 + 1, 0, none⟩ u)) := HE.out
      clear hend c5 f5 d5 d6 q6 e6 q7 e7 q8 e8 HE
      generalize ((W6.setCell ⟨g, i * 5 + 2, none⟩ (.int .i64 c)).setCell ⟨g, i * 5 + 4, none⟩ (.bool true)).drew = W9 at *
      have HE := HE2
      have hend := fun u => cell_set_same (v := u) c8
      go_wp2
      exact bodyPost_ret (v := .tuple #[.agg #[.slice (some ⟨g, 0, none⟩) hs.length q], .bool true]) (by simp [results, Tryd.results24, go_sem, hend]) rfl ⟨_, by first | rfl | rw [HX.out], by rw [HF.out]; exact (HE.out _).1, (HE.out _).2⟩
end Go.Proofs.YtcagickmennlpaaDoor
