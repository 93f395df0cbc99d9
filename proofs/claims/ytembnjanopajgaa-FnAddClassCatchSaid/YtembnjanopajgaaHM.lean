/- spec.AddClass -/
import Derived.Test.YtembnjanopajgaaV
import Derived.Test.YtembnjanopajgaaAP
namespace Go.Proofs.Ytembnjanopajgaa
open Go.RowKit

def addOk (xs : List Cls) (s : ByteArray) (p : Int) : Bool := okTree xs && okTree (xs ++ [⟨s, p⟩])
def addX (xs : List Cls) (s : ByteArray) (p : Int) : List Cls := cond (addOk xs s p) (xs ++ [⟨s, p⟩]) []
theorem addX_of {xs : List Cls} {s : ByteArray} {p : Int} {t : Bool} (h : addOk xs s p = t) : addX xs s p = cond t (xs ++ [⟨s, p⟩]) [] := by unfold addX; rw [h]
theorem addX_len (xs : List Cls) (s : ByteArray) (p : Int) : (addX xs s p).length ≤ 1048576 := by
  cases h : addOk xs s p
  · rw [addX_of h]; simp
  · rw [addX_of h]
    have h2 := h
    unfold addOk at h2
    rw [Bool.and_eq_true] at h2
    have := (good_of h2.2).hi
    simp at this ⊢; omega
theorem cls_mk_ok {s : ByteArray} {p : Int} (hs : s.size ≤ 9223372036854775807) (hp : -9223372036854775808 ≤ p ∧ p ≤ 9223372036854775807) : Enc.ok (⟨s, p⟩ : Cls) := ⟨hs, hp.1, hp.2⟩
theorem clsInfoA : (Try.prog.info? 71).map (fun i => (i.zero, i.size, i.bytes)) = some (some (.agg #[.string ByteArray.empty, .int .i64 0]), 2, 24) := by kernel_rfl
theorem add_end {w w' : World} {A2 : Option Addr} {n q2 : Nat} {ys : List Cls} {x : Value} (c1 : w'.cell? ⟨w.heap.size + 1, 0, none⟩ = some x) (L0 : Le w w') (O2 : w'.ownsRow (w.heap.size + 1 + 1) 71 2 (.slice A2 (n + 1) q2) (n + 1) (ys.flatMap Enc.cells))
    (hok : ∀ x ∈ ys, Enc.ok x) (hl : ys.length = n + 1) (u : Value) : Owd 71 w (w'.setCell ⟨w.heap.size + 1, 0, none⟩ u) (.slice A2 (n + 1) q2) ys ∧ Le w (w'.setCell ⟨w.heap.size + 1, 0, none⟩ u) := by
  refine ⟨⟨?_, hok⟩, L0.setCell (by omega) u⟩
  rw [hl]
  exact own_mono (O2.kept (grown_set w' (w.heap.size + 1) 0 u) (.inr (fun e => by have := (O2.lt _ e).1; omega))) (by omega)
set_option maxHeartbeats 2000000 in
set_option maxRecDepth 100000 in
theorem sAddClass_any (A : Option Addr) (n cap : Nat) (xs : List Cls) (s : ByteArray) (p : Int) (w : World) (hR : Sl w A n cap xs) (hs : s.size ≤ 9223372036854775807) (hp : -9223372036854775808 ≤ p ∧ p ≤ 9223372036854775807) (hn : n ≤ 1048576) :
    Calls Try.prog 11 #[.agg #[.slice A n cap], .string s, .int .i64 p] w fun e w' => ∃ v, e = .returned (.tuple #[.agg #[v], .bool (addOk xs s p)]) ∧ Owd 71 w w' v (addX xs s p) ∧ Le w w' := by
  obtain ⟨i0, hi, hz0, hz1, hz2⟩ := info_parts clsInfoA
  obtain ⟨c0, z0, c1, z1, L0⟩ := box2 w (.slice A n cap) (.slice none 0 0) 25 25
  have S0 := hR.le L0
  have HK := Lib.hid (cls_mk_ok hs hp)
  have hA : ∀ x ∈ xs ++ [(⟨s, p⟩ : Cls)], Enc.ok x := by
    intro x hx
    rcases List.mem_append.1 hx with hx | hx
    · exact hR.ok x hx
    · simp at hx; subst hx; exact cls_mk_ok hs hp
  have HA := Lib.hid hA; clear hA
  have hl : (xs ++ [(⟨s, p⟩ : Cls)]).length = n + 1 := by simp [hR.len]
  have HL := Lib.hid hl; clear hl
  cases h1 : okTree xs
  all_goals cases h2 : okTree (xs ++ [⟨s, p⟩])
  all_goals
    have hX : addOk xs s p = (okTree xs && okTree (xs ++ [⟨s, p⟩])) := rfl
    rw [h1, h2] at hX
    simp only [Bool.and_true, Bool.and_false, Bool.false_and, Bool.true_and] at hX
    have HF := Lib.hid (addX_of hX)
    have HX := Lib.hid hX; clear hX
    go_enter Try.func11, Try.ntmps11
    go_wp2_with (first
      | (at_builtin; refine wpList_append_sl rfl (.tmp 9) (.tmp 11) 23 rfl (w.heap.size + 1 + 1) 71 i0 _ 24 Try.underlying23 hi hz0 hz1 hz2 rfl (.slice (some ⟨w.heap.size + 1 + 1, 0, none⟩) 0 0) 0 ([] : List Cls) rfl (own_empty (by simp) (by simp)) A n cap xs rfl (S0.alloc _) (by unfold maxLen; omega) (by omega) (by simp) ?_; intro v1 w1 O1 hg1 _; simp only [Nat.zero_add, List.nil_append] at O1; have L1 := ((Le.refl _).alloc _).grown hg1 (fun k hk => by simp [Value.ownBlock] at hk; simp; omega); have hs1 := L1.size; simp at hs1)
      | (at_builtin; refine wpList_append_sl rfl (.tmp 12) (.tmp 16) 23 rfl (w.heap.size + 1 + 1) 71 i0 _ 24 Try.underlying23 hi hz0 hz1 hz2 rfl v1 n xs rfl (O1.alloc _) (some ⟨w1.heap.size, 0, none⟩) 1 1 [(⟨s, p⟩ : Cls)] rfl (sl_one (⟨s, p⟩ : Cls) rfl HK.out rfl) (by unfold maxLen; omega) (by omega) (by simp; omega) ?_; intro v2 w2 O2 hg2 _; obtain ⟨A2, q2, rfl⟩ := own_form O2; have L2 := (L1.alloc _).grown hg2 (fun k hk => by have := (O1.lt k hk).1; simp; omega); replace c0 := (L2.cell z0).trans c0; replace c1 := (L2.cell z1).trans c1; replace L0 := L0.trans L2; replace S0 := S0.le L2; have f1 := (L2.frozen (b := w.heap.size + 1) (o := 0) (by simp)).trans (World.frozen?_alloc_at _ _ _ _ (by simp)); replace z0 := Nat.lt_of_lt_of_le z0 L2.size; replace z1 := Nat.lt_of_lt_of_le z1 L2.size; clear L2 L1 hg1 hg2 O1 hs1)
      | fail)
    obtain ⟨c2, z2, hleB⟩ := box1 w2 (.slice A2 (n + 1) q2) 25
    replace c0 := (hleB.cell z0).trans c0
    replace c1 := (hleB.cell z1).trans c1
    replace f1 := (hleB.frozen z1).trans f1
    replace z0 := Nat.lt_of_lt_of_le z0 hleB.size
    replace z1 := Nat.lt_of_lt_of_le z1 hleB.size
    replace L0 := L0.trans hleB
    replace S0 := S0.le hleB
    replace O2 := own_le O2 hleB
    clear hleB
    generalize w2.alloc (.cells #[.slice A2 (n + 1) q2] 25) = W3 at *
    have S2 := Sl.of_own O2 rfl (by decide) HA.out
    refine (validTree_any A n cap xs _ S0).mono ?_
    rintro e w4 ⟨rfl, hle⟩
    rw [h1]
    replace c0 := (hle.cell z0).trans c0
    replace c1 := (hle.cell z1).trans c1
    replace c2 := (hle.cell z2).trans c2
    replace f1 := (hle.frozen z1).trans f1
    replace z0 := Nat.lt_of_lt_of_le z0 hle.size
    replace z1 := Nat.lt_of_lt_of_le z1 hle.size
    replace z2 := Nat.lt_of_lt_of_le z2 hle.size
    replace L0 := L0.trans hle
    replace S2 := S2.le hle
    replace O2 := own_le O2 hle
    clear hle h1
    go_wp2_with fail
    try (refine (validTree_any A2 (n + 1) q2 (xs ++ [⟨s, p⟩]) _ S2).mono ?_; rintro e w5 ⟨rfl, hle⟩; rw [h2]; replace c1 := (hle.cell z1).trans c1; replace c2 := (hle.cell z2).trans c2; replace f1 := (hle.frozen z1).trans f1; replace L0 := L0.trans hle; replace O2 := own_le O2 hle; clear hle; go_wp2_with fail)
    clear h2 S2
    have HE := Lib.hid (add_end c1 L0 O2 HA.out HL.out)
    have hend := fun u => cell_set_same (v := u) c1
    go_wp2
    first
      | exact bodyPost_ret (v := .tuple #[.agg #[.slice A2 (n + 1) q2], .bool true]) (by simp [results, Try.results11, go_sem, hend]) rfl ⟨_, by rw [HX.out], by rw [HF.out]; exact (HE.out _).1, (HE.out _).2⟩
      | exact bodyPost_ret (v := .tuple #[.agg #[.slice none 0 0], .bool false]) (by simp [results, Try.results11, go_sem, hend]) rfl ⟨_, by rw [HX.out], by rw [HF.out]; exact Owd.nil _ _ _, (HE.out _).2⟩
end Go.Proofs.Ytembnjanopajgaa
