/- impl.NewFault -/
import Derived.Test.YtcagickmennlpaaDoorHpG
import Derived.Test.YtcagickmennlpaaDoorVH
namespace Go.Proofs.YtcagickmennlpaaDoor
open Go.RowKit

theorem box2l (w : World) (o : Obj) (v u : Value) (U : TypeId) : ((w.alloc o).alloc (.cells #[v, u] U)).cell? ⟨w.heap.size + 1, 0, none⟩ = some v ∧ ((w.alloc o).alloc (.cells #[v, u] U)).cell? ⟨w.heap.size + 1, 1, none⟩ = some u := by
  constructor <;> (rw [World.cell?_alloc_at _ _ _ _ (by simp)]; rfl)
set_option maxHeartbeats 2000000 in
set_option maxRecDepth 100000 in
theorem iNewFault_any (A H : Option Addr) (n cap m c : Nat) (xs : List Cls) (hs : List Flt) (a b : Int) (w : World) (hR : Sl w A n cap xs) (hH : Sl w H m c hs) (hm : m ≤ 1048576) (ha : -9223372036854775808 ≤ a ∧ a ≤ 9223372036854775807) (hb : -9223372036854775808 ≤ b ∧ b ≤ 9223372036854775807) :
    Calls Tryd.prog 15 #[.agg #[.slice A n cap], .agg #[.slice H m c], .int .i64 a, .int .i64 b] w fun e w' => ∃ v, e = .returned (.tuple #[.agg #[v], .int .i64 (nfI xs hs a b), .bool (nfOk xs hs a b)]) ∧ Owd 35 w w' v (nfX xs hs a b) ∧ Le w w' := by
  obtain ⟨c0, z0, c1, z1, c2, z2, L0⟩ := box3 w (.slice A n cap) (.slice H m c) (.slice none 0 0) 25 28 28
  have f2 : (((w.alloc (.cells #[.slice A n cap] 25)).alloc (.cells #[.slice H m c] 28)).alloc (.cells #[.slice none 0 0] 28)).frozen? ⟨w.heap.size + 1 + 1, 0, none⟩ = false := World.frozen?_alloc_at _ _ _ _ (by simp)
  have S0 := hR.le L0
  have S1 := hH.le L0
  have hlen := hH.len
  have HK := Lib.hid (mkF_ok ha hb)
  cases h1 : okHeap xs hs
  · have hX : nfOk xs hs a b = (okHeap xs hs && okHeap xs (hs ++ [mkF a b])) := rfl
    rw [h1, Bool.false_and] at hX
    have HF := Lib.hid (nf_of hX)
    have HX := Lib.hid hX; clear hX
    go_enter Tryd.func15, Tryd.ntmps15
    go_wp2_with fail
    generalize ((w.alloc (.cells #[.slice A n cap] 25)).alloc (.cells #[.slice H m c] 28)).alloc (.cells #[.slice none 0 0] 28) = W at *
    refine (iValidHeap_any A H n cap m c xs hs W S0 S1 (by omega)).mono ?_
    rintro e w2 ⟨rfl, hle⟩
    rw [h1]
    replace c0 := (hle.cell z0).trans c0
    replace c1 := (hle.cell z1).trans c1
    replace c2 := (hle.cell z2).trans c2
    replace f2 := (hle.frozen z2).trans f2
    replace z0 := Nat.lt_of_lt_of_le z0 hle.size
    replace z1 := Nat.lt_of_lt_of_le z1 hle.size
    replace z2 := Nat.lt_of_lt_of_le z2 hle.size
    replace L0 := L0.trans hle
    clear hle h1
    have hend := fun u => cell_set_same (v := u) c2
    go_wp2
    exact bodyPost_ret (v := .tuple #[.agg #[.slice none 0 0], .int .i64 (-1), .bool false]) (by simp [results, Tryd.results15, go_sem, hend]) rfl ⟨_, by rw [HX.out, HF.out.2]; rfl, by rw [HF.out.1]; exact Owd.nil _ _ _, L0.setCell (by omega) _⟩
  · have hl : (hs ++ [mkF a b]).length = m + 1 := by simp [hlen]
    have HL := Lib.hid hl; clear hl
    cases h2 : okHeap xs (hs ++ [mkF a b])
    all_goals
      have hX : nfOk xs hs a b = (okHeap xs hs && okHeap xs (hs ++ [mkF a b])) := rfl
      rw [h1, h2, Bool.true_and] at hX
      have HF := Lib.hid (nf_of hX)
      have HX := Lib.hid hX; clear hX
      go_enter Tryd.func15, Tryd.ntmps15
      go_wp2_with fail
      generalize ((w.alloc (.cells #[.slice A n cap] 25)).alloc (.cells #[.slice H m c] 28)).alloc (.cells #[.slice none 0 0] 28) = W at *
      have zW := z2
      refine (iValidHeap_any A H n cap m c xs hs W S0 S1 (by omega)).mono ?_
      rintro e w2 ⟨rfl, hle⟩
      rw [h1]
      replace c0 := (hle.cell z0).trans c0
      replace c1 := (hle.cell z1).trans c1
      replace c2 := (hle.cell z2).trans c2
      replace f2 := (hle.frozen z2).trans f2
      replace z0 := Nat.lt_of_lt_of_le z0 hle.size
      replace z1 := Nat.lt_of_lt_of_le z1 hle.size
      replace z2 := Nat.lt_of_lt_of_le z2 hle.size
      replace L0 := L0.trans hle
      replace S0 := S0.le hle
      replace S1 := S1.le hle
      have hs2 := hle.size
      clear hle h1
      go_wp2_with fail
      have hl1 := ((Le.new w2 (.cells #[.int .i64 a, .int .i64 b, .int .i64 (-1), .int .i64 (-1), .bool false] 35)).alloc (.cells #[.int .i64 a, .int .i64 b, .int .i64 (-1), .int .i64 (-1), .bool false] 35)).alloc (.cells #[.slice H m c, .slice (some ⟨w2.heap.size + 1, 0, none⟩) 1 1] 26)
      have hq : (w2.alloc (.cells #[.int .i64 a, .int .i64 b, .int .i64 (-1), .int .i64 (-1), .bool false] 35)).heap.size = w2.heap.size + 1 := by simp
      obtain ⟨cb0, cb1⟩ := box2l (w2.alloc (.cells #[.int .i64 a, .int .i64 b, .int .i64 (-1), .int .i64 (-1), .bool false] 35)) (.cells #[.int .i64 a, .int .i64 b, .int .i64 (-1), .int .i64 (-1), .bool false] 35) (.slice H m c) (.slice (some ⟨w2.heap.size + 1, 0, none⟩) 1 1) 26
      rw [hq] at cb0 cb1
      have S2 := (sl_one (w := w2.alloc (.cells #[.int .i64 a, .int .i64 b, .int .i64 (-1), .int .i64 (-1), .bool false] 35)) (cs := #[.int .i64 a, .int .i64 b, .int .i64 (-1), .int .i64 (-1), .bool false]) (T := 35) (mkF a b) rfl HK.out (b := w2.heap.size + 1) hq.symm).alloc (.cells #[.slice H m c, .slice (some ⟨w2.heap.size + 1, 0, none⟩) 1 1] 26)
      have zb : w2.heap.size + 1 + 1 < (((w2.alloc (.cells #[.int .i64 a, .int .i64 b, .int .i64 (-1), .int .i64 (-1), .bool false] 35)).alloc (.cells #[.int .i64 a, .int .i64 b, .int .i64 (-1), .int .i64 (-1), .bool false] 35)).alloc (.cells #[.slice H m c, .slice (some ⟨w2.heap.size + 1, 0, none⟩) 1 1] 26)).heap.size := by simp
      replace c0 := (hl1.cell z0).trans c0
      replace c1 := (hl1.cell z1).trans c1
      replace c2 := (hl1.cell z2).trans c2
      replace f2 := (hl1.frozen z2).trans f2
      replace z0 := Nat.lt_of_lt_of_le z0 hl1.size
      replace z1 := Nat.lt_of_lt_of_le z1 hl1.size
      replace z2 := Nat.lt_of_lt_of_le z2 hl1.size
      replace L0 := L0.trans hl1
      replace S0 := S0.le hl1
      replace S1 := S1.le hl1
      clear hl1 hq
      generalize ((w2.alloc (.cells #[.int .i64 a, .int .i64 b, .int .i64 (-1), .int .i64 (-1), .bool false] 35)).alloc (.cells #[.int .i64 a, .int .i64 b, .int .i64 (-1), .int .i64 (-1), .bool false] 35)).alloc (.cells #[.slice H m c, .slice (some ⟨w2.heap.size + 1, 0, none⟩) 1 1] 26) = W3 at *
      have hm2 : m + 1 ≤ 4194304 := by omega
      refine (concatFault_any H _ m c 1 1 _ hs [mkF a b] W3 S1 S2 (by omega) hm2 cb0 cb1 zb).mono ?_
      rintro e w4 ⟨v, rfl, D, hle⟩
      obtain ⟨A2, q2, rfl⟩ := own_form D.row
      have hs3 : W.heap.size ≤ W3.heap.size := by omega
      have hs4 := hle.size
      replace c0 := (hle.cell z0).trans c0
      replace c1 := (hle.cell z1).trans c1
      replace c2 := (hle.cell z2).trans c2
      replace f2 := (hle.frozen z2).trans f2
      replace z0 := Nat.lt_of_lt_of_le z0 hle.size
      replace z1 := Nat.lt_of_lt_of_le z1 hle.size
      replace z2 := Nat.lt_of_lt_of_le z2 hle.size
      replace L0 := L0.trans hle
      replace S0 := S0.le hle
      replace S1 := S1.le hle
      clear hle cb0 cb1 S2
      have O2 := own_mono D.row hs3
      rw [HL.out] at O2
      have HA := Lib.hid D.ok
      rw [HL.out]
      clear D
      go_wp2_with fail
      obtain ⟨c3, z3, hleB⟩ := box1 w4 (.slice A2 (m + 1) q2) 28
      replace c0 := (hleB.cell z0).trans c0
      replace c1 := (hleB.cell z1).trans c1
      replace c2 := (hleB.cell z2).trans c2
      replace f2 := (hleB.frozen z2).trans f2
      replace z0 := Nat.lt_of_lt_of_le z0 hleB.size
      replace z1 := Nat.lt_of_lt_of_le z1 hleB.size
      replace z2 := Nat.lt_of_lt_of_le z2 hleB.size
      replace L0 := L0.trans hleB
      replace S0 := S0.le hleB
      replace O2 := own_le O2 hleB
      clear hleB
      generalize w4.alloc (.cells #[.slice A2 (m + 1) q2] 28) = W5 at *
      refine (iValidHeap_any A A2 n cap (m + 1) q2 xs (hs ++ [mkF a b]) W5 S0 (Sl.of_own O2 rfl (by decide) HA.out) (by omega)).mono ?_
      rintro e w6 ⟨rfl, hle⟩
      rw [h2]
      replace c0 := (hle.cell z0).trans c0
      replace c1 := (hle.cell z1).trans c1
      replace c2 := (hle.cell z2).trans c2
      replace c3 := (hle.cell z3).trans c3
      replace f2 := (hle.frozen z2).trans f2
      replace z0 := Nat.lt_of_lt_of_le z0 hle.size
      replace z1 := Nat.lt_of_lt_of_le z1 hle.size
      replace z2 := Nat.lt_of_lt_of_le z2 hle.size
      replace z3 := Nat.lt_of_lt_of_le z3 hle.size
      replace L0 := L0.trans hle
      replace O2 := own_le O2 hle
      clear hle h2
      have hend := fun u => cell_set_same (v := u) c2
      have HE := Lib.hid (res_end (r := w.heap.size + 1 + 1) L0 (by omega) zW (by rw [HL.out]; exact O2) HA.out)
      go_wp2
      first
        | exact bodyPost_ret (v := .tuple #[.agg #[.slice none 0 0], .int .i64 (-1), .bool false]) (by simp [results, Tryd.results15, go_sem, hend]) rfl ⟨_, by rw [HX.out, HF.out.2]; rfl, by rw [HF.out.1]; exact Owd.nil _ _ _, (HE.out _).2⟩
        | skip
    · clear HE hend
      replace c1 := (show w6.drew.cell? _ = _ from c1)
      replace z1 := (show _ < w6.drew.heap.size from z1)
      replace c2 := (show w6.drew.cell? _ = _ from c2)
      replace z2 := (show _ < w6.drew.heap.size from z2)
      replace c3 := (show w6.drew.cell? _ = _ from c3)
      replace z3 := (show _ < w6.drew.heap.size from z3)
      replace L0 := L0.drew
      replace O2 := O2.drew
      replace f2 := (show w6.drew.frozen? _ = _ from f2)
      have hw13 : w4.heap.size ≠ w.heap.size + 1 + 1 := by omega
      have hend := fun u => cell_set_same (v := u) (show w6.cell? ⟨w.heap.size + 1 + 1, 0, none⟩ = _ from c2)
      have HE := Lib.hid (res_end (r := w.heap.size + 1 + 1) L0 (by omega) zW (by rw [HL.out]; exact O2) HA.out)
      go_region_held3 (fun w' => w'.cell? ⟨w4.heap.size, 0, none⟩ = some (.slice A2 (m + 1) q2) ∧ w'.cell? ⟨w.heap.size + 1, 0, none⟩ = some (.slice H m c))
        (first | exact ⟨c3, c1⟩ | exact ⟨(cell_set_other (.inl (by omega))).trans c3, (cell_set_other (.inl (by omega))).trans c1⟩)
        (skip)
      go_wp2
      exact bodyPost_ret (v := .tuple #[.agg #[.slice A2 (m + 1) q2], .int .i64 m, .bool true]) (by simp [results, Tryd.results15, go_sem, hend]) rfl ⟨_, by rw [HX.out, HF.out.2, hlen]; rfl, by rw [HF.out.1]; exact (HE.out (.slice A2 (m + 1) q2)).1, (HE.out (.slice A2 (m + 1) q2)).2⟩
end Go.Proofs.YtcagickmennlpaaDoor
