/- RaiseWhile of the model and of the program -/
import Derived.Test.YtcagickmennlpaaDoorRWs
import Derived.Test.YtcagickmennlpaaDoorRWi
namespace Go.Proofs.YtcagickmennlpaaDoor
open Go.RowKit

set_option maxHeartbeats 4000000 in
set_option maxRecDepth 100000 in
theorem sRaiseWhile_any (A H : Option Addr) (n cap m c : Nat) (xs : List Cls) (hs : List Flt) (f g : Int) (w : World) (hR : Sl w A n cap xs) (hH : Sl w H m c hs) (hm : m ≤ 1048576) :
    Calls Tryd.prog 22 #[.agg #[.slice A n cap], .agg #[.slice H m c], .int .i64 f, .int .i64 g] w fun e w' => ∃ v, e = .returned (.tuple #[.agg #[v], .bool (rwOk xs hs f g)]) ∧ Owd 35 w w' v (rwX xs hs f g) ∧ Le w w' := by
  obtain ⟨c0, z0, c1, z1, c2, z2, L0⟩ := box3 w (.slice A n cap) (.slice H m c) (.slice none 0 0) 25 28 28
  have f2 : (((w.alloc (.cells #[.slice A n cap] 25)).alloc (.cells #[.slice H m c] 28)).alloc (.cells #[.slice none 0 0] 28)).frozen? ⟨w.heap.size + 1 + 1, 0, none⟩ = false := World.frozen?_alloc_at _ _ _ _ (by simp)
  have S0 := hR.le L0
  have S1 := hH.le L0
  have HV : Hid (rwOk xs hs f g = (goodF xs hs f && hasF hs g)) := rwOk_has _ _ _ _
  go_enter Tryd.func22, Tryd.ntmps22
  go_wp2_with fail
  generalize ((w.alloc (.cells #[.slice A n cap] 25)).alloc (.cells #[.slice H m c] 28)).alloc (.cells #[.slice none 0 0] 28) = W at *
  refine (goodFault_any A H n cap m c xs hs f W S0 S1 (by omega)).mono ?_
  rintro e w2 ⟨rfl, hle⟩
  replace c0 := (hle.cell z0).trans c0
  replace c1 := (hle.cell z1).trans c1
  replace c2 := (hle.cell z2).trans c2
  replace f2 := (hle.frozen z2).trans f2
  replace z0 := Nat.lt_of_lt_of_le z0 hle.size
  replace z1 := Nat.lt_of_lt_of_le z1 hle.size
  replace z2 := Nat.lt_of_lt_of_le z2 hle.size
  replace L0 := L0.trans hle
  replace S0 := S0.le hle
  replace S1 := S1.le hle
  clear hle
  cases ho : goodF xs hs f
  · have hX : rwOk xs hs f g = false := by rw [HV.out, ho]; rfl
    have HF := Lib.hid (rwX_of hX)
    have HX := Lib.hid hX
    clear ho hX
    have hend := fun u => cell_set_same (v := u) c2
    go_wp2
    exact bodyPost_ret (v := .tuple #[.agg #[.slice none 0 0], .bool false]) (by simp [results, Tryd.results22, go_sem, hend]) rfl ⟨_, by rw [HX.out], by rw [HF.out]; exact Owd.nil _ _ _, L0.setCell (by omega) _⟩
  · go_wp2_with fail
    refine (sHasFault_any H m c hs g _ S1).mono ?_
    rintro e w3 ⟨rfl, hle⟩
    replace c0 := (hle.cell z0).trans c0
    replace c1 := (hle.cell z1).trans c1
    replace c2 := (hle.cell z2).trans c2
    replace f2 := (hle.frozen z2).trans f2
    replace z0 := Nat.lt_of_lt_of_le z0 hle.size
    replace z1 := Nat.lt_of_lt_of_le z1 hle.size
    replace z2 := Nat.lt_of_lt_of_le z2 hle.size
    replace L0 := L0.trans hle
    replace S0 := S0.le hle
    replace S1 := S1.le hle
    clear hle
    cases h2 : hasF hs g
    · have hX : rwOk xs hs f g = false := by rw [HV.out, h2, Bool.and_false]
      have HF := Lib.hid (rwX_of hX)
      have HX := Lib.hid hX
      clear ho hX h2
      have hend := fun u => cell_set_same (v := u) c2
      go_wp2
      exact bodyPost_ret (v := .tuple #[.agg #[.slice none 0 0], .bool false]) (by simp [results, Tryd.results22, go_sem, hend]) rfl ⟨_, by rw [HX.out], by rw [HF.out]; exact Owd.nil _ _ _, L0.setCell (by omega) _⟩
    · have hX : rwOk xs hs f g = true := by rw [HV.out, ho, h2]; rfl
      have hg2 : goodF xs hs f = true ∧ goodF xs hs g = true := by
        have := hX
        unfold rwOk at this; rw [Bool.and_eq_true] at this; exact this
      have HF := Lib.hid (rwX_of hX)
      have HX := Lib.hid hX
      have HG := Lib.hid hg2
      clear ho hX h2 hg2
      go_wp2_with fail
      refine (sRaised_any H m c xs hs f g _ S1 HG.out.1 HG.out.2).mono ?_
      rintro e w4 ⟨v, rfl, D, hle⟩
      have y2 := z2
      replace c2 := (hle.cell z2).trans c2
      replace f2 := (hle.frozen z2).trans f2
      replace z2 := Nat.lt_of_lt_of_le z2 hle.size
      replace L0 := L0.trans hle
      obtain ⟨A3, q3, rfl⟩ := own_form D.row
      have HE := Lib.hid (res_end (r := w.heap.size + 1 + 1) L0 (by omega) y2 D.row D.ok)
      clear D hle
      have hend := fun u => cell_set_same (v := u) c2
      go_wp2
      exact bodyPost_ret (v := .tuple #[.agg #[.slice A3 (raisedL hs f g).length q3], .bool true]) (by simp [results, Tryd.results22, go_sem, hend]) rfl ⟨_, by rw [HX.out], by rw [HF.out]; exact (HE.out _).1, (HE.out _).2⟩
set_option maxHeartbeats 4000000 in
set_option maxRecDepth 100000 in
theorem iRaiseWhile_any (A H : Option Addr) (n cap m c : Nat) (xs : List Cls) (hs : List Flt) (f g : Int) (w : World) (hR : Sl w A n cap xs) (hH : Sl w H m c hs) (hm : m ≤ 1048576) (hG : GotErr w) :
    Calls Tryd.prog 21 #[.agg #[.slice A n cap], .agg #[.slice H m c], .int .i64 f, .int .i64 g] w fun e w' => ∃ v, e = .returned (.tuple #[.agg #[v], .bool (rwOk xs hs f g)]) ∧ Owd 35 w w' v (rwX xs hs f g) ∧ Le w w' := by
  obtain ⟨c0, z0, c1, z1, c2, z2, L0⟩ := box3 w (.slice A n cap) (.slice H m c) (.slice none 0 0) 25 28 28
  have f2 : (((w.alloc (.cells #[.slice A n cap] 25)).alloc (.cells #[.slice H m c] 28)).alloc (.cells #[.slice none 0 0] 28)).frozen? ⟨w.heap.size + 1 + 1, 0, none⟩ = false := World.frozen?_alloc_at _ _ _ _ (by simp)
  have S0 := hR.le L0
  have S1 := hH.le L0
  have HV : Hid (rwOk xs hs f g = (goodF xs hs f && goodF xs hs g)) := rfl
  go_enter Tryd.func21, Tryd.ntmps21
  go_wp2_with fail
  generalize ((w.alloc (.cells #[.slice A n cap] 25)).alloc (.cells #[.slice H m c] 28)).alloc (.cells #[.slice none 0 0] 28) = W at *
  refine (iHasFault_any A H n cap m c xs hs f W S0 S1 (by omega)).mono ?_
  rintro e w2 ⟨rfl, hle⟩
  replace c0 := (hle.cell z0).trans c0
  replace c1 := (hle.cell z1).trans c1
  replace c2 := (hle.cell z2).trans c2
  replace f2 := (hle.frozen z2).trans f2
  replace z0 := Nat.lt_of_lt_of_le z0 hle.size
  replace z1 := Nat.lt_of_lt_of_le z1 hle.size
  replace z2 := Nat.lt_of_lt_of_le z2 hle.size
  replace L0 := L0.trans hle
  replace S0 := S0.le hle
  replace S1 := S1.le hle
  clear hle
  cases ho : goodF xs hs f
  · have hX : rwOk xs hs f g = false := by rw [HV.out, ho]; rfl
    have HF := Lib.hid (rwX_of hX)
    have HX := Lib.hid hX
    clear ho hX
    have hend := fun u => cell_set_same (v := u) c2
    go_wp2
    exact bodyPost_ret (v := .tuple #[.agg #[.slice none 0 0], .bool false]) (by simp [results, Tryd.results21, go_sem, hend]) rfl ⟨_, by rw [HX.out], by rw [HF.out]; exact Owd.nil _ _ _, L0.setCell (by omega) _⟩
  · go_wp2_with fail
    refine (iHasFault_any A H n cap m c xs hs g _ S0 S1 (by omega)).mono ?_
    rintro e w3 ⟨rfl, hle⟩
    replace c0 := (hle.cell z0).trans c0
    replace c1 := (hle.cell z1).trans c1
    replace c2 := (hle.cell z2).trans c2
    replace f2 := (hle.frozen z2).trans f2
    replace z0 := Nat.lt_of_lt_of_le z0 hle.size
    replace z1 := Nat.lt_of_lt_of_le z1 hle.size
    replace z2 := Nat.lt_of_lt_of_le z2 hle.size
    replace L0 := L0.trans hle
    replace S0 := S0.le hle
    replace S1 := S1.le hle
    clear hle
    cases h2 : goodF xs hs g
    · have hX : rwOk xs hs f g = false := by rw [HV.out, h2, Bool.and_false]
      have HF := Lib.hid (rwX_of hX)
      have HX := Lib.hid hX
      clear ho hX h2
      have hend := fun u => cell_set_same (v := u) c2
      go_wp2
      exact bodyPost_ret (v := .tuple #[.agg #[.slice none 0 0], .bool false]) (by simp [results, Tryd.results21, go_sem, hend]) rfl ⟨_, by rw [HX.out], by rw [HF.out]; exact Owd.nil _ _ _, L0.setCell (by omega) _⟩
    · have hX : rwOk xs hs f g = true := by rw [HV.out, ho, h2]; rfl
      have hg2 : goodF xs hs f = true ∧ goodF xs hs g = true := by
        have := hX
        unfold rwOk at this; rw [Bool.and_eq_true] at this; exact this
      have HF := Lib.hid (rwX_of hX)
      have HX := Lib.hid hX
      have HG := Lib.hid hg2
      clear ho hX h2 hg2
      go_wp2_with fail
      refine (iRaiseW_any A H n cap m c xs hs f g _ S1 HG.out.1 HG.out.2 (hG.le L0)).mono ?_
      rintro e w4 ⟨v, rfl, D, hle⟩
      have y2 := z2
      replace c2 := (hle.cell z2).trans c2
      replace f2 := (hle.frozen z2).trans f2
      replace z2 := Nat.lt_of_lt_of_le z2 hle.size
      replace L0 := L0.trans hle
      obtain ⟨A3, q3, rfl⟩ := own_form D.row
      have HE := Lib.hid (res_end (r := w.heap.size + 1 + 1) L0 (by omega) y2 D.row D.ok)
      clear D hle
      have hend := fun u => cell_set_same (v := u) c2
      go_wp2
      exact bodyPost_ret (v := .tuple #[.agg #[.slice A3 (raisedL hs f g).length q3], .bool true]) (by simp [results, Tryd.results21, go_sem, hend]) rfl ⟨_, by rw [HX.out], by rw [HF.out]; exact (HE.out _).1, (HE.out _).2⟩
end Go.Proofs.YtcagickmennlpaaDoor
