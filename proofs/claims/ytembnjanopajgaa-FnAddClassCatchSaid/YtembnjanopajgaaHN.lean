/- impl.AddClass -/
import Derived.Test.YtembnjanopajgaaHM
import Derived.Test.YtembnjanopajgaaCcClass
import Derived.Test.YtembnjanopajgaaD
namespace Go.Proofs.Ytembnjanopajgaa
open Go.RowKit

theorem box2l (w : World) (o : Obj) (v u : Value) (U : TypeId) : ((w.alloc o).alloc (.cells #[v, u] U)).cell? ⟨w.heap.size + 1, 0, none⟩ = some v ∧ ((w.alloc o).alloc (.cells #[v, u] U)).cell? ⟨w.heap.size + 1, 1, none⟩ = some u := by
  constructor <;> (rw [World.cell?_alloc_at _ _ _ _ (by simp)]; rfl)
set_option maxHeartbeats 2000000 in
set_option maxRecDepth 100000 in
theorem iAddClass_any (A : Option Addr) (n cap : Nat) (xs : List Cls) (s : ByteArray) (p : Int) (w : World) (hR : Sl w A n cap xs) (hs : s.size ≤ 9223372036854775807) (hp : -9223372036854775808 ≤ p ∧ p ≤ 9223372036854775807) :
    Calls Try.prog 10 #[.agg #[.slice A n cap], .string s, .int .i64 p] w fun e w' => ∃ v, e = .returned (.tuple #[.agg #[v], .bool (addOk xs s p)]) ∧ Owd 71 w w' v (addX xs s p) ∧ Le w w' := by
  obtain ⟨c0, z0, c1, z1, L0⟩ := box2 w (.slice A n cap) (.slice none 0 0) 25 25
  have f1 : ((w.alloc (.cells #[.slice A n cap] 25)).alloc (.cells #[.slice none 0 0] 25)).frozen? ⟨w.heap.size + 1, 0, none⟩ = false := World.frozen?_alloc_at _ _ _ _ (by simp)
  have S0 := hR.le L0
  have HK := Lib.hid (cls_mk_ok hs hp)
  cases h1 : okTree xs
  · have hX : addOk xs s p = (okTree xs && okTree (xs ++ [⟨s, p⟩])) := rfl
    rw [h1, Bool.false_and] at hX
    have HF := Lib.hid (addX_of hX)
    have HX := Lib.hid hX; clear hX
    go_enter Try.func10, Try.ntmps10
    go_wp2_with fail
    generalize (w.alloc (.cells #[.slice A n cap] 25)).alloc (.cells #[.slice none 0 0] 25) = W at *
    refine (iValidTree_any A n cap xs _ S0).mono ?_
    rintro e w2 ⟨rfl, hle⟩
    rw [h1]
    replace c0 := (hle.cell z0).trans c0
    replace c1 := (hle.cell z1).trans c1
    replace f1 := (hle.frozen z1).trans f1
    replace z0 := Nat.lt_of_lt_of_le z0 hle.size
    replace z1 := Nat.lt_of_lt_of_le z1 hle.size
    replace L0 := L0.trans hle
    clear hle h1
    have hend := fun u => cell_set_same (v := u) c1
    go_wp2
    exact bodyPost_ret (v := .tuple #[.agg #[.slice none 0 0], .bool false]) (by simp [results, Try.results10, go_sem, hend]) rfl ⟨_, by rw [HX.out], by rw [HF.out]; exact Owd.nil _ _ _, L0.setCell (by omega) _⟩
  · have g := good_of h1
    have hhi := g.hi
    have hlo := g.lo
    have hn8 : n ≤ 8 := by have := hR.len; omega
    have hl : (xs ++ [(⟨s, p⟩ : Cls)]).length = n + 1 := by simp [hR.len]
    have HL := Lib.hid hl; clear hl
    cases h2 : okTree (xs ++ [⟨s, p⟩])
    all_goals
      have hX : addOk xs s p = (okTree xs && okTree (xs ++ [⟨s, p⟩])) := rfl
      rw [h1, h2, Bool.true_and] at hX
      have HF := Lib.hid (addX_of hX)
      have HX := Lib.hid hX; clear hX
      go_enter Try.func10, Try.ntmps10
      go_wp2_with fail
      generalize (w.alloc (.cells #[.slice A n cap] 25)).alloc (.cells #[.slice none 0 0] 25) = W at *
      refine (iValidTree_any A n cap xs _ S0).mono ?_
      rintro e w2 ⟨rfl, hle⟩
      rw [h1]
      replace c0 := (hle.cell z0).trans c0
      replace c1 := (hle.cell z1).trans c1
      replace f1 := (hle.frozen z1).trans f1
      replace z0 := Nat.lt_of_lt_of_le z0 hle.size
      replace z1 := Nat.lt_of_lt_of_le z1 hle.size
      replace L0 := L0.trans hle
      replace S0 := S0.le hle
      clear hle h1
      go_wp2_with fail
      have hl1 := (Le.new w2 (.cells #[.string s, .int .i64 p] 71)).alloc (.cells #[.slice A n cap, .slice (some ⟨w2.heap.size, 0, none⟩) 1 1] 23)
      obtain ⟨cb0, cb1⟩ := box2l w2 (.cells #[.string s, .int .i64 p] 71) (.slice A n cap) (.slice (some ⟨w2.heap.size, 0, none⟩) 1 1) 23
      have S1 := (sl_one (w := w2) (cs := #[.string s, .int .i64 p]) (T := 71) (⟨s, p⟩ : Cls) rfl HK.out rfl).alloc (.cells #[.slice A n cap, .slice (some ⟨w2.heap.size, 0, none⟩) 1 1] 23)
      have zb : w2.heap.size + 1 < ((w2.alloc (.cells #[.string s, .int .i64 p] 71)).alloc (.cells #[.slice A n cap, .slice (some ⟨w2.heap.size, 0, none⟩) 1 1] 23)).heap.size := by simp
      replace c0 := (hl1.cell z0).trans c0
      replace c1 := (hl1.cell z1).trans c1
      replace f1 := (hl1.frozen z1).trans f1
      replace z0 := Nat.lt_of_lt_of_le z0 hl1.size
      replace z1 := Nat.lt_of_lt_of_le z1 hl1.size
      replace L0 := L0.trans hl1
      replace S0 := S0.le hl1
      clear hl1
      generalize (w2.alloc (.cells #[.string s, .int .i64 p] 71)).alloc (.cells #[.slice A n cap, .slice (some ⟨w2.heap.size, 0, none⟩) 1 1] 23) = W3 at *
      refine (concatClass_any A _ n cap 1 1 _ xs [⟨s, p⟩] W3 S0 S1 (by omega) (by omega) cb0 cb1 zb).mono ?_
      rintro e w4 ⟨v, rfl, D, hle⟩
      obtain ⟨A2, q2, rfl⟩ := own_form D.row
      have hs3 := z1
      replace c0 := (hle.cell z0).trans c0
      replace c1 := (hle.cell z1).trans c1
      replace f1 := (hle.frozen z1).trans f1
      replace z0 := Nat.lt_of_lt_of_le z0 hle.size
      replace z1 := Nat.lt_of_lt_of_le z1 hle.size
      replace L0 := L0.trans hle
      clear hle cb0 cb1 S1 S0
      have O2 := D.row
      rw [HL.out] at O2
      have HA := Lib.hid D.ok
      rw [HL.out]
      clear D
      go_wp2_with fail
      obtain ⟨c2, z2, hleB⟩ := box1 w4 (.slice A2 (n + 1) q2) 25
      replace c0 := (hleB.cell z0).trans c0
      replace c1 := (hleB.cell z1).trans c1
      replace f1 := (hleB.frozen z1).trans f1
      replace z0 := Nat.lt_of_lt_of_le z0 hleB.size
      replace z1 := Nat.lt_of_lt_of_le z1 hleB.size
      replace L0 := L0.trans hleB
      replace O2 := own_le O2 hleB
      clear hleB
      generalize w4.alloc (.cells #[.slice A2 (n + 1) q2] 25) = W5 at *
      have S2 := Sl.of_own O2 rfl (by decide) HA.out
      refine (iValidTree_any A2 (n + 1) q2 (xs ++ [⟨s, p⟩]) _ S2).mono ?_
      rintro e w6 ⟨rfl, hle⟩
      rw [h2]
      replace c0 := (hle.cell z0).trans c0
      replace c1 := (hle.cell z1).trans c1
      replace c2 := (hle.cell z2).trans c2
      replace f1 := (hle.frozen z1).trans f1
      replace z0 := Nat.lt_of_lt_of_le z0 hle.size
      replace z1 := Nat.lt_of_lt_of_le z1 hle.size
      replace z2 := Nat.lt_of_lt_of_le z2 hle.size
      replace L0 := L0.trans hle
      replace O2 := own_le O2 hle
      clear hle h2 S2
      have HE := Lib.hid (add_end c1 L0 (own_mono O2 hs3) HA.out HL.out)
      have hend := fun u => cell_set_same (v := u) c1
      go_wp2
    · exact bodyPost_ret (v := .tuple #[.agg #[.slice none 0 0], .bool false]) (by simp [results, Try.results10, go_sem, hend]) rfl ⟨_, by rw [HX.out], by rw [HF.out]; exact Owd.nil _ _ _, (HE.out _).2⟩
    · exact bodyPost_ret (v := .tuple #[.agg #[.slice A2 (n + 1) q2], .bool true]) (by simp [results, Try.results10, go_sem, hend]) rfl ⟨_, by rw [HX.out], by rw [HF.out]; exact (HE.out _).1, (HE.out _).2⟩
end Go.Proofs.Ytembnjanopajgaa
