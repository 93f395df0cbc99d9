/- IsolateFault of the model and of the program -/
import Derived.Test.YthcolcmgfhkbeaaRDs
import Derived.Test.YthcolcmgfhkbeaaRDi
namespace Go.Proofs.Ythcolcmgfhkbeaa
open Go.RowKit

set_option maxHeartbeats 4000000 in
set_option maxRecDepth 100000 in
theorem iIsolateFault_any (A H : Option Addr) (n cap m c : Nat) (xs : List Cls) (hs : List Flt) (f : Int) (w : World) (hR : Sl w A n cap xs) (hH : Sl w H m c hs) (hm : m ≤ 1048576) :
    Calls Try.prog 8 #[.agg #[.slice A n cap], .agg #[.slice H m c], .int .i64 f] w fun e w' => ∃ v, e = .returned (.tuple #[.agg #[v], .int .i64 (isoI xs hs f)]) ∧ Owd 45 w w' v (isoX xs hs f) ∧ Le w w' := by
  obtain ⟨c0, z0, c1, z1, c2, z2, L0⟩ := box3 w (.slice A n cap) (.slice H m c) (.slice none 0 0) 25 28 28
  have f2 : (((w.alloc (.cells #[.slice A n cap] 25)).alloc (.cells #[.slice H m c] 28)).alloc (.cells #[.slice none 0 0] 28)).frozen? ⟨w.heap.size + 1 + 1, 0, none⟩ = false := World.frozen?_alloc_at _ _ _ _ (by simp)
  have S0 := hR.le L0
  have S1 := hH.le L0
  go_enter Try.func8, Try.ntmps8
  go_wp2_with fail
  generalize ((w.alloc (.cells #[.slice A n cap] 25)).alloc (.cells #[.slice H m c] 28)).alloc (.cells #[.slice none 0 0] 28) = W at *
  refine (iHasFault_any A H n cap m c xs hs f W S0 S1 (by omega)).mono ?_
  rintro e w2 ⟨rfl, hle⟩
  replace c0 := (hle.cell z0).trans c0
  replace c1 := (hle.cell z1).trans c1
  replace c2 := (hle.cell z2).trans c2
  replace f2 := (hle.frozen z2).trans f2
  replace z0 := Nat.lt_of_lt_of_le z0 hle.size
  replace z1 := Nat.lt_of_lt_of_le z1 hle.size
  replace z2 := Nat.lt_of_lt_of_le z2 hle.size
  replace L0 := L0.trans hle
  replace S0 := S0.le hle
  replace S1 := S1.le hle
  have s2 := hle.size
  clear hle
  cases ho : goodF xs hs f
  · have HX := Lib.hid (iso_of ho)
    clear ho
    have hend := fun u => cell_set_same (v := u) c2
    go_wp2
    exact bodyPost_ret (v := .tuple #[.agg #[.slice none 0 0], .int .i64 (-1)]) (by simp [results, Try.results8, go_sem, hend]) rfl ⟨_, by rw [HX.out.2]; rfl, by rw [HX.out.1]; exact Owd.nil _ _ _, L0.setCell (by omega) _⟩
  · have HX := Lib.hid (iso_of ho)
    have hg := goodF_lnk ho
    have HG := Lib.hid hg
    clear ho hg
    go_wp2_with fail
    refine (iIsolate_any H m c hs f w2 S1 HG.out.1 HG.out.2.2.1 HG.out.2.2.2 hm).mono ?_
    rintro e w3 ⟨v, rfl, D, hle⟩
    have y2 := z2
    replace c2 := (hle.cell z2).trans c2
    replace f2 := (hle.frozen z2).trans f2
    replace z2 := Nat.lt_of_lt_of_le z2 hle.size
    replace L0 := L0.trans hle
    obtain ⟨A3, q3, rfl⟩ := own_form D.row
    have HE := Lib.hid (res_end (r := w.heap.size + 1 + 1) L0 (by omega) y2 D.row D.ok)
    clear D hle
    have hend := fun u => cell_set_same (v := u) c2
    go_wp2
    exact bodyPost_ret (v := .tuple #[.agg #[.slice A3 (isoL hs (reachL hs f)).length q3], .int .i64 (idx (reachL hs f) f 0)]) (by simp [results, Try.results8, go_sem, hend]) rfl ⟨_, by rw [HX.out.2]; rfl, by rw [HX.out.1]; exact (HE.out _).1, (HE.out _).2⟩
end Go.Proofs.Ythcolcmgfhkbeaa
