/- groups: HasClass of the program -/
import Derived.Test.YtpdggodmiliijaaItC
import Derived.Test.YtpdggodmiliijaaGL
namespace Go.Proofs.Ytpdggodmiliijaa
open Go.RowKit Go.Shelf
theorem good_leaf {xs : List Cls} {g : List Prt} (G : GoodG xs g) : ∀ x ∈ leavesL g, 0 ≤ x.cls ∧ x.cls < xs.length := by
  intro x hx
  unfold leavesL at hx
  obtain ⟨q, hq, rfl⟩ := List.mem_map.1 hx
  obtain ⟨hm, hg⟩ := List.mem_filter.1 hq
  obtain ⟨i, hi, e⟩ := List.getElem_of_mem hm
  have := G.leaf i hi (by rw [gAt_at hi, e]; simpa using hg)
  rw [gAt_at hi, e] at this
  exact this
/-- whether a group has a leaf of a class -/
def hcX (xs : List Cls) (g : List Prt) (a : Int) : Bool := gOkS xs g && hasK xs a && (leavesL g).any (fun x => isAL xs x.cls a)
theorem caughtLeaf_any (A : Option Addr) (n : Nat) (p : Option Addr) (w : World) :
    Calls Try.prog 64 #[.slice A n n, .iface 86 (.pointer p)] w fun e w' => e = .returned (.func (.func 90) #[] #[.pointer (some ⟨w.heap.size + 1, 0, none⟩), .pointer (some ⟨w.heap.size, 0, none⟩)]) ∧ w' = (w.alloc (.cells #[.slice A n n] 84)).alloc (.cells #[.iface 86 (.pointer p)] 119) := by
  go_enter Try.func64, Try.ntmps64
  go_wp2
  go_ret
  exact ⟨by simp, rfl⟩
set_option maxRecDepth 100000 in
set_option maxHeartbeats 2000000 in
theorem iHasClass_any (A B : Option Addr) (n cap m c : Nat) (xs : List Cls) (g : List Prt) (a : Int) (w : World) (hT : Sl w A n cap xs) (hG : Sl w B m c g) :
    Calls Try.prog 25 #[.agg #[.slice A n cap], .slice B m c, .int .i64 a] w fun e w' => e = .returned (.bool (hcX xs g a)) ∧ Le w w' := by
  have hl := Le.new w (.cells #[.slice A n cap] 32)
  obtain ⟨c0, z0, hl⟩ := box1 w (.slice A n cap) 32
  have hS := hT.le hl
  have hG1 := hG.le hl
  go_enter Try.func25, Try.ntmps25
  go_wp2_with fail
  generalize w.alloc (.cells #[.slice A n cap] 32) = w1 at *
  refine (nodesOf_any A n cap xs _ hS).mono ?_
  intro e w2 hout
  obtain ⟨hle, A2, n2, gs, rfl, hS2, hcase⟩ := nodes_one hout
  have hS1 := hS.le hle
  have hG2 := hG1.le hle
  have hLL := hl.trans hle
  have d0 := (hle.cell z0).trans c0
  clear hout
  go_wp2_with fail
  refine (nodeAt_any _ _ _ gs a _ hS2).mono ?_
  rintro e w3 ⟨rfl, rfl⟩
  by_cases hno : (okTree xs && hasK xs a) = true
  · have hab : okTree xs = true ∧ hasK xs a = true := by simpa using hno
    have g0 := good_of hab.1
    rcases hcase with ⟨h0, _⟩ | ⟨h1, rfl, hN⟩
    · rw [hab.1] at h0; cases h0
    · rcases ptr_cases hN.len a with ⟨h2, _⟩ | ⟨_, j, hj, rfl, hp⟩
      · rw [hab.2] at h2; cases h2
      · rw [hp]
        have hhi := g0.hi
        have HK := Lib.hid hab.2
        clear hab hno h1 hp
        go_wp2_with fail
        refine (iValidGroupS_any _ _ _ _ _ _ xs g _ hS1 hG2).mono ?_
        rintro e w3 ⟨rfl, hle3⟩
        have hS3 := hS2.le hle3
        have hG3 := hG2.le hle3
        have hN3 := hN.le hle3
        have hL3 := hLL.trans hle3
        have HF : Hid (hcX xs g j = (gOkS xs g && (leavesL g).any (fun x => isAL xs x.cls j))) := by show _ = _; unfold hcX; rw [HK.out, Bool.and_true]
        cases hg : gOkS xs g
        · rw [hg] at HF
          go_wp2
          go_ret
          exact ⟨ret_bool HF.out.symm, hL3⟩
        · rw [hg] at HF
          have G := goodG_of (by rw [← gOk_same]; exact hg)
          have GL := good_leaf G
          clear hg
          go_wp2_with fail
          refine (caughtLeaf_any _ _ _ _).mono ?_
          rintro e w4 ⟨rfl, rfl⟩
          obtain ⟨b0, y0, b1, y1, hl5⟩ := box2 w3 (.slice A2 xs.length xs.length) (.iface 86 (.pointer (some ⟨gs[j].g, 0, none⟩))) 84 119
          have hS5 := hS3.le hl5
          have hG5 := hG3.le hl5
          have hN5 := hN3.le hl5
          have hL5 := hL3.trans hl5
          generalize (w3.alloc (.cells #[.slice A2 xs.length xs.length] 84)).alloc (.cells #[.iface 86 (.pointer (some ⟨gs[j].g, 0, none⟩))] 119) = w5 at *
          go_wp2_with fail
          refine (hasLeaf_in _ _ (fun x => isAL xs x.cls j) B m c g w5 hG5 (fun x W hx hW => caughtLeaf1_any _ _ A2 gs xs g0 j hj x.cls x.code (GL x hx).1 (GL x hx).2 W (hS5.le hW) (hN5.le hW) ((hW.cell y1).trans b1) ((hW.cell y0).trans b0) (Nat.lt_of_lt_of_le y1 hW.size) (Nat.lt_of_lt_of_le y0 hW.size))).mono ?_
          rintro e w6 ⟨rfl, hle6⟩
          have hL6 := hL5.trans hle6
          go_wp2
          go_ret
          exact ⟨ret_bool HF.out.symm, hL6⟩
  · have h1 : (okTree xs && hasK xs a) = false := by simpa using hno
    have HF : Hid (hcX xs g a = false) := by
      show _ = _
      unfold hcX gOkS
      cases e1 : okTree xs
      · simp
      · rw [e1] at h1
        have : hasK xs a = false := by simpa using h1
        rw [this]; simp
    have hp : ptrOf gs a = none := by
      rcases hcase with ⟨h0, _, rfl⟩ | ⟨h0, _, hN⟩
      · exact ptrOf_nil a
      · rcases ptr_cases hN.len a with ⟨_, h⟩ | ⟨h, _⟩
        · exact h
        · rw [h0, h] at h1; cases h1
    rw [hp]
    clear hp hcase h1 hno
    go_wp2
    go_ret
    exact ⟨ret_bool HF.out.symm, hLL⟩
end Go.Proofs.Ytpdggodmiliijaa
