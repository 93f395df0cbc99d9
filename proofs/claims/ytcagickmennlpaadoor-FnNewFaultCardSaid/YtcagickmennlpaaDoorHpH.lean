/- spec.NewFault -/
import Derived.Test.YtcagickmennlpaaDoorHpG
import Derived.Deep.RegionHeld3
namespace Go.Proofs.YtcagickmennlpaaDoor
open Go.RowKit

set_option maxHeartbeats 2000000 in
set_option maxRecDepth 100000 in
theorem sNewFault_any (A H : Option Addr) (n cap m c : Nat) (xs : List Cls) (hs : List Flt) (a b : Int) (w : World) (hR : Sl w A n cap xs) (hH : Sl w H m c hs) (hm : m ≤ 1048576) (ha : -9223372036854775808 ≤ a ∧ a ≤ 9223372036854775807) (hb : -9223372036854775808 ≤ b ∧ b ≤ 9223372036854775807) :
    Calls Tryd.prog 16 #[.agg #[.slice A n cap], .agg #[.slice H m c], .int .i64 a, .int .i64 b] w fun e w' => ∃ v, e = .returned (.tuple #[.agg #[v], .int .i64 (nfI xs hs a b), .bool (nfOk xs hs a b)]) ∧ Owd 35 w w' v (nfX xs hs a b) ∧ Le w w' := by
  obtain ⟨c0, z0, c1, z1, c2, z2, L0⟩ := box3 w (.slice A n cap) (.slice H m c) (.slice none 0 0) 25 28 28
  have f2 : (((w.alloc (.cells #[.slice A n cap] 25)).alloc (.cells #[.slice H m c] 28)).alloc (.cells #[.slice none 0 0] 28)).frozen? ⟨w.heap.size + 1 + 1, 0, none⟩ = false := World.frozen?_alloc_at _ _ _ _ (by simp)
  have S0 := hR.le L0
  have S1 := hH.le L0
  have hlen := hH.len
  have hl : (hs ++ [mkF a b]).length = m + 1 := by simp [hlen]
  have HL := Lib.hid hl; clear hl
  cases h1 : okHeap xs hs
  all_goals cases h2 : okHeap xs (hs ++ [mkF a b])
  all_goals
    have hX : nfOk xs hs a b = (okHeap xs hs && okHeap xs (hs ++ [mkF a b])) := rfl
    rw [h1, h2] at hX
    simp at hX
    have HF := Lib.hid (nf_of hX)
    have HX := Lib.hid hX; clear hX
    go_enter Tryd.func16, Tryd.ntmps16
    go_wp2_with fail
    generalize ((w.alloc (.cells #[.slice A n cap] 25)).alloc (.cells #[.slice H m c] 28)).alloc (.cells #[.slice none 0 0] 28) = W at *
    have zW := z2
    refine (added_any H m c hs a b W S1 (by omega) ha hb).mono ?_
    rintro e w1 ⟨v, rfl, D, hle⟩
    have hsW := hle.size
    replace c0 := (hle.cell z0).trans c0
    replace c1 := (hle.cell z1).trans c1
    replace c2 := (hle.cell z2).trans c2
    replace f2 := (hle.frozen z2).trans f2
    replace z0 := Nat.lt_of_lt_of_le z0 hle.size
    replace z1 := Nat.lt_of_lt_of_le z1 hle.size
    replace z2 := Nat.lt_of_lt_of_le z2 hle.size
    replace L0 := L0.trans hle
    replace S0 := S0.le hle
    replace S1 := S1.le hle
    clear hle
    obtain ⟨A2, q2, rfl⟩ := own_form D.row
    have HD := Lib.hid D.ok
    have O2 := D.row
    rw [HL.out] at O2
    rw [HL.out]
    clear D
    go_wp2_with fail
    obtain ⟨c3, z3, hleB⟩ := box1 w1 (.slice A2 (m + 1) q2) 28
    replace c0 := (hleB.cell z0).trans c0
    replace c1 := (hleB.cell z1).trans c1
    replace c2 := (hleB.cell z2).trans c2
    replace f2 := (hleB.frozen z2).trans f2
    replace z0 := Nat.lt_of_lt_of_le z0 hleB.size
    replace z1 := Nat.lt_of_lt_of_le z1 hleB.size
    replace z2 := Nat.lt_of_lt_of_le z2 hleB.size
    replace L0 := L0.trans hleB
    replace S0 := S0.le hleB
    replace S1 := S1.le hleB
    replace O2 := own_le O2 hleB
    clear hleB
    generalize w1.alloc (.cells #[.slice A2 (m + 1) q2] 28) = W3 at *
    refine (validHeap_any A H n cap m c xs hs W3 S0 S1 (by omega)).mono ?_
    rintro e w4 ⟨rfl, hle⟩
    rw [h1]
    replace c0 := (hle.cell z0).trans c0
    replace c1 := (hle.cell z1).trans c1
    replace c2 := (hle.cell z2).trans c2
    replace c3 := (hle.cell z3).trans c3
    replace f2 := (hle.frozen z2).trans f2
    replace z0 := Nat.lt_of_lt_of_le z0 hle.size
    replace z1 := Nat.lt_of_lt_of_le z1 hle.size
    replace z2 := Nat.lt_of_lt_of_le z2 hle.size
    replace z3 := Nat.lt_of_lt_of_le z3 hle.size
    replace L0 := L0.trans hle
    replace S0 := S0.le hle
    replace O2 := own_le O2 hle
    clear hle h1
    go_wp2_with fail
    try (refine (validHeap_any A A2 n cap (m + 1) q2 xs (hs ++ [mkF a b]) _ S0 (Sl.of_own O2 rfl (by decide) HD.out) (by omega)).mono ?_; rintro e w5 ⟨rfl, hle⟩; rw [h2]; replace c1 := (hle.cell z1).trans c1; replace c2 := (hle.cell z2).trans c2; replace c3 := (hle.cell z3).trans c3; replace f2 := (hle.frozen z2).trans f2; replace z1 := Nat.lt_of_lt_of_le z1 hle.size; replace z2 := Nat.lt_of_lt_of_le z2 hle.size; replace z3 := Nat.lt_of_lt_of_le z3 hle.size; replace L0 := L0.trans hle; replace O2 := own_le O2 hle; clear hle; go_wp2_with fail)
    clear h2
    have hend := fun u => cell_set_same (v := u) c2
    have HE := Lib.hid (res_end (r := w.heap.size + 1 + 1) L0 (by omega) zW (by rw [HL.out]; exact O2) HD.out)
    go_wp2
    first
      | exact bodyPost_ret (v := .tuple #[.agg #[.slice none 0 0], .int .i64 (-1), .bool false]) (by simp [results, Tryd.results16, go_sem, hend]) rfl ⟨_, by rw [HX.out, HF.out.2]; rfl, by rw [HF.out.1]; exact Owd.nil _ _ _, (HE.out _).2⟩
      | skip
  · clear HE hend
    replace c1 := (show w5.drew.cell? _ = _ from c1)
    replace z1 := (show _ < w5.drew.heap.size from z1)
    replace c2 := (show w5.drew.cell? _ = _ from c2)
    replace z2 := (show _ < w5.drew.heap.size from z2)
    replace c3 := (show w5.drew.cell? _ = _ from c3)
    replace z3 := (show _ < w5.drew.heap.size from z3)
    replace L0 := L0.drew
    replace O2 := O2.drew
    replace f2 := (show w5.drew.frozen? _ = _ from f2)
    have hw13 : w1.heap.size ≠ w.heap.size + 1 + 1 := by omega
    have hend := fun u => cell_set_same (v := u) (show w5.cell? ⟨w.heap.size + 1 + 1, 0, none⟩ = _ from c2)
    have HE := Lib.hid (res_end (r := w.heap.size + 1 + 1) L0 (by omega) zW (by rw [HL.out]; exact O2) HD.out)
    go_region_held3 (fun w' => w'.cell? ⟨w1.heap.size, 0, none⟩ = some (.slice A2 (m + 1) q2) ∧ w'.cell? ⟨w.heap.size + 1, 0, none⟩ = some (.slice H m c))
      (first | exact ⟨c3, c1⟩ | exact ⟨(cell_set_other (.inl (by omega))).trans c3, (cell_set_other (.inl (by omega))).trans c1⟩)
      (skip)
    go_wp2
    exact bodyPost_ret (v := .tuple #[.agg #[.slice A2 (m + 1) q2], .int .i64 m, .bool true]) (by simp [results, Tryd.results16, go_sem, hend]) rfl ⟨_, by rw [HX.out, HF.out.2, hlen]; rfl, by rw [HF.out.1]; exact (HE.out (.slice A2 (m + 1) q2)).1, (HE.out (.slice A2 (m + 1) q2)).2⟩
end Go.Proofs.YtcagickmennlpaaDoor
