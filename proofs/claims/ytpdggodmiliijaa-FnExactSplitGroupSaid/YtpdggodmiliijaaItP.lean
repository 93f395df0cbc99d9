/- groups: SplitGroup of both -/
import Derived.Test.YtpdggodmiliijaaItO
namespace Go.Proofs.Ytpdggodmiliijaa
open Go.RowKit Go.Shelf
set_option maxRecDepth 100000 in
set_option maxHeartbeats 2000000 in
theorem sSplitGroup_any (A B : Option Addr) (n cap m c : Nat) (xs : List Cls) (g : List Prt) (a : Int) (w : World) (hT : Sl w A n cap xs) (hG : Sl w B m c g) :
    Calls Try.prog 26 #[.agg #[.slice A n cap], .slice B m c, .int .i64 a] w (SpOut w (spX xs g a true) (spX xs g a false)) := by
  obtain ⟨c0, z0, hl⟩ := box1 w (.slice A n cap) 32
  have hS := hT.le hl
  have hG1 := hG.le hl
  go_enter Try.func26, Try.ntmps26
  go_wp2_with fail
  generalize w.alloc (.cells #[.slice A n cap] 32) = w1 at *
  refine (validGroup_any _ _ _ _ _ _ xs g _ hS hG1).mono ?_
  rintro e w2 ⟨rfl, hle⟩
  have hS2 := hS.le hle
  have hG2 := hG1.le hle
  have hLL := hl.trans hle
  have d0 := (hle.cell z0).trans c0
  cases hg : gOkS xs g
  · have HX := Lib.hid (spX_of (a := a) (c := false) (by rw [hg]; rfl) true)
    have HY := Lib.hid (spX_of (a := a) (c := false) (by rw [hg]; rfl) false)
    clear hg
    go_wp2
    go_ret2
    exact ⟨_, _, rfl, by rw [HX.out]; exact Owd.nil _ _ _, by rw [HY.out]; exact Owd.nil _ _ _, .inl rfl, hLL⟩
  · have HG := Lib.hid hg
    have G := goodG_of (by rw [← gOk_same]; exact hg)
    clear hg
    cases hk : hasK xs a
    · have HX := Lib.hid (spX_of (xs := xs) (g := g) (a := a) (c := false) (by rw [HG.out, hk]; rfl) true)
      have HY := Lib.hid (spX_of (xs := xs) (g := g) (a := a) (c := false) (by rw [HG.out, hk]; rfl) false)
      go_wp2_with (go_at_call 59; refine (hasClass_any A n cap xs a _ hS2).mono ?_; rintro e w3 ⟨rfl, hle3⟩; rw [hk])
      go_ret2
      exact ⟨_, _, rfl, by rw [HX.out]; exact Owd.nil _ _ _, by rw [HY.out]; exact Owd.nil _ _ _, .inl rfl, hLL.trans hle3⟩
    · have HX := Lib.hid (spX_of (xs := xs) (g := g) (a := a) (c := true) (by rw [HG.out, hk]; rfl) true)
      have HY := Lib.hid (spX_of (xs := xs) (g := g) (a := a) (c := true) (by rw [HG.out, hk]; rfl) false)
      go_wp2_with (go_at_call 59; refine (hasClass_any A n cap xs a _ hS2).mono ?_; rintro e w3 ⟨rfl, hle3⟩; rw [hk]; have d3 := (hle3.cell (Nat.lt_of_lt_of_le z0 hle.size)).trans d0)
      refine (split_any _ _ _ _ _ _ xs g G a _ (hS2.le hle3) (hG2.le hle3)).mono ?_
      rintro e w4 ⟨v, u, rfl, O1, O2, AP, hle4⟩
      have HS : Hid (SpOut w (spX xs g a true) (spX xs g a false) (.returned (.tuple #[v, u])) w4) := ⟨v, u, rfl, by rw [HX.out]; exact O1.mono (hLL.trans hle3), by rw [HY.out]; exact O2.mono (hLL.trans hle3), AP, (hLL.trans hle3).trans hle4⟩
      clear O1 O2 AP
      go_wp2
      go_ret2
      exact HS.out
set_option maxRecDepth 100000 in
set_option maxHeartbeats 2000000 in
theorem iSplitGroup_any (A B : Option Addr) (n cap m c : Nat) (xs : List Cls) (g : List Prt) (a : Int) (w : World) (hT : Sl w A n cap xs) (hG : Sl w B m c g) :
    Calls Try.prog 27 #[.agg #[.slice A n cap], .slice B m c, .int .i64 a] w (SpOut w (spX xs g a true) (spX xs g a false)) := by
  obtain rfl := hG.len
  obtain ⟨c0, z0, hl⟩ := box1 w (.slice A n cap) 32
  have hS := hT.le hl
  have hG1 := hG.le hl
  go_enter Try.func27, Try.ntmps27
  go_wp2_with fail
  generalize w.alloc (.cells #[.slice A n cap] 32) = w1 at *
  refine (nodesOf_any A n cap xs _ hS).mono ?_
  intro e w2 hout
  obtain ⟨hle, A2, n2, gs, rfl, hS2, hcase⟩ := nodes_one hout
  have hS1 := hS.le hle
  have hG2 := hG1.le hle
  have hLL := hl.trans hle
  have d0 := (hle.cell z0).trans c0
  clear hout
  go_wp2_with fail
  refine (nodeAt_any _ _ _ gs a _ hS2).mono ?_
  rintro e w3 ⟨rfl, rfl⟩
  by_cases hno : (okTree xs && hasK xs a) = true
  · have hab : okTree xs = true ∧ hasK xs a = true := by simpa using hno
    have g0 := good_of hab.1
    rcases hcase with ⟨h0, _⟩ | ⟨h1, rfl, hN⟩
    · rw [hab.1] at h0; cases h0
    · rcases ptr_cases hN.len a with ⟨h2, _⟩ | ⟨_, j, hj, rfl, hp⟩
      · rw [hab.2] at h2; cases h2
      · rw [hp]
        have HK := Lib.hid hab.2
        clear hab hno h1 hp
        go_wp2_with fail
        refine (iValidGroupS_any _ _ _ _ _ _ xs g _ hS1 hG2).mono ?_
        rintro e w3 ⟨rfl, hle3⟩
        have hS3 := hS2.le hle3
        have hG3 := hG2.le hle3
        have hN3 := hN.le hle3
        have hL3 := hLL.trans hle3
        cases hg : gOkS xs g
        · have HX := Lib.hid (spX_of (a := (j : Int)) (c := false) (by rw [hg]; rfl) true)
          have HY := Lib.hid (spX_of (a := (j : Int)) (c := false) (by rw [hg]; rfl) false)
          clear hg
          go_wp2
          go_ret2
          exact ⟨_, _, rfl, by rw [HX.out]; exact Owd.nil _ _ _, by rw [HY.out]; exact Owd.nil _ _ _, .inl rfl, hL3⟩
        · have HX := Lib.hid (spX_of (a := (j : Int)) (c := true) (by rw [hg, HK.out]; rfl) true)
          have HY := Lib.hid (spX_of (a := (j : Int)) (c := true) (by rw [hg, HK.out]; rfl) false)
          have G := goodG_of (by rw [← gOk_same]; exact hg)
          have GL := good_leaf G
          have h0 : 0 < g.length := by have := G.len; omega
          obtain ⟨bz, oz, rfl, -, -⟩ := hG.prt_at h0
          clear hg
          go_wp2_with fail
          refine (caughtLeaf_any _ _ _ _).mono ?_
          rintro e w4 ⟨rfl, rfl⟩
          obtain ⟨b0, y0, b1, y1, hl5⟩ := box2 w3 (.slice A2 xs.length xs.length) (.iface 86 (.pointer (some ⟨gs[j].g, 0, none⟩))) 84 119
          have hS5 := hS3.le hl5
          have hG5 := hG3.le hl5
          have hN5 := hN3.le hl5
          have hL5 := hL3.trans hl5
          generalize (w3.alloc (.cells #[.slice A2 xs.length xs.length] 84)).alloc (.cells #[.iface 86 (.pointer (some ⟨gs[j].g, 0, none⟩))] 119) = w5 at *
          have HSP := split_prog 90 #[.pointer (some ⟨w3.heap.size + 1, 0, none⟩), .pointer (some ⟨w3.heap.size, 0, none⟩)] (enters_of Try.func90 (by kernel_rfl) rfl) (fun x => isAL xs x.cls j) xs bz oz c g G w5 hG5 (fun x W hx hW => caughtLeaf1_any _ _ A2 gs xs g0 j hj x.cls x.code (GL x hx).1 (GL x hx).2 W (hS5.le hW) (hN5.le hW) ((hW.cell y1).trans b1) ((hW.cell y0).trans b0) (Nat.lt_of_lt_of_le y1 hW.size) (Nat.lt_of_lt_of_le y0 hW.size))
          go_wp2_with fail
          refine HSP.mono ?_
          rintro e w6 ⟨v, u, rfl, O1, O2, AP, hle6⟩
          have HS : Hid (SpOut w (spX xs g j true) (spX xs g j false) (.returned (.tuple #[v, u])) w6) := ⟨v, u, rfl, by rw [HX.out, tS_yes]; exact O1.mono hL5, by rw [HY.out, tS_no]; exact O2.mono hL5, AP, hL5.trans hle6⟩
          clear O1 O2 AP
          go_wp2
          go_ret2
          exact HS.out
  · have h1 : (okTree xs && hasK xs a) = false := by simpa using hno
    have hz : (gOkS xs g && hasK xs a) = false := by
      unfold gOkS
      cases e1 : okTree xs
      · simp
      · rw [e1] at h1
        have : hasK xs a = false := by simpa using h1
        rw [this]; simp
    have HX := Lib.hid (spX_of hz true)
    have HY := Lib.hid (spX_of hz false)
    have hp : ptrOf gs a = none := by
      rcases hcase with ⟨h0, _, rfl⟩ | ⟨h0, _, hN⟩
      · exact ptrOf_nil a
      · rcases ptr_cases hN.len a with ⟨_, h⟩ | ⟨h, _⟩
        · exact h
        · rw [h0, h] at h1; cases h1
    rw [hp]
    clear hp hcase h1 hno hz
    go_wp2
    go_ret2
    exact ⟨_, _, rfl, by rw [HX.out]; exact Owd.nil _ _ _, by rw [HY.out]; exact Owd.nil _ _ _, .inl rfl, hLL⟩
end Go.Proofs.Ytpdggodmiliijaa
