/- one text of ItO, ItP, ItV -/
import Derived.Test.YtkpnajffeclmdaaCl23
import Derived.Test.YtkpnajffeclmdaaCl19
import Derived.Test.YtkpnajffeclmdaaCl20
import Derived.Test.YtkpnajffeclmdaaCl18
namespace Go.Proofs.Ytkpnajffeclmdaa
open Go.RowKit
set_option linter.unusedVariables false
section
open Go.RowKit Go.Shelf
set_option maxRecDepth 100000 in
set_option maxHeartbeats 2000000 in
theorem keep_prog (tf : Nat) (lb : Array Value) (eT : ∀ args w, (callFunc tf args).run Try.prog w = .ok (.enter tf args) w) (p : Lef → Bool) (xs : List Cls) (b off C : Nat) (g : List Prt) (G : GoodG xs g) (w : World) (hG : Sl w (some ⟨b, off, none⟩) g.length C g)
    (hT : ∀ (x : Lef) (W : World), x ∈ leavesL g → Le w W → Calls Try.prog tf (#[.agg #[.int .i64 x.cls, .int .i64 x.code]] ++ lb) W fun e W' => e = .returned (.bool (p x)) ∧ Le W W') :
    Calls Try.prog 65 #[.slice (some ⟨b, off, none⟩) g.length C, .func (.func tf) #[] lb] w fun e w' => ∃ v, e = .returned v ∧ Owd 57 w w' v (selK (keepsAt (fun q => p ⟨q.cls, q.code⟩) g) g g.length) ∧ Le w w' := by
  have HOK : Hid (∀ (f : Nat → Bool), ∀ x ∈ selK f g g.length, Enc.ok x) := fun f x hx => hG.ok x (selK_mem g.length (Nat.le_refl _) x hx)
  have SB : SlB w.heap.size w (some ⟨b, off, none⟩) g.length C g := ⟨hG, fun hn a e => by obtain ⟨b', off', e2, hb, -⟩ := hG.at_ hn; rw [e2] at e; cases e; exact hb⟩
  have V0 := fun (W : World) (hl : Le w W) (st : VSt w.heap.size tf lb b off C g W (.slice none 0 0) []) => visit_any tf lb eT p b off C g G.len.2 w hT g.length 0 (by omega) (by have := G.len; omega) W _ [] hl st (by simp)
  simp only [Nat.zero_mul, Nat.add_zero, Nat.sub_zero, end_zero G, List.nil_append] at V0
  have HV := Lib.hid V0
  clear V0
  have bF := ((Boxed.new w 68 (.func (.func tf) #[] lb)).alloc (.cells #[.slice none 0 0] 26)).alloc (.cells #[.nilFunc] 119)
  have bO := (Boxed.new (w.alloc (.cells #[.func (.func tf) #[] lb] 68)) 26 (.slice none 0 0)).alloc (.cells #[.nilFunc] 119)
  have bV := Boxed.new ((w.alloc (.cells #[.func (.func tf) #[] lb] 68)).alloc (.cells #[.slice none 0 0] 26)) 119 .nilFunc
  have L0 : Le w (((w.alloc (.cells #[.func (.func tf) #[] lb] 68)).alloc (.cells #[.slice none 0 0] 26)).alloc (.cells #[.nilFunc] 119)) := ((Le.new w _).alloc _).alloc _
  simp only [World.size_alloc] at bO bV
  have cV := bV.cell
  have fV := bV.frozen
  have L4 : Le w (((w.alloc (.cells #[.func (.func tf) #[] lb] 68)).alloc (.cells #[.slice none 0 0] 26)).alloc (.cells #[.func (.func 82) #[] #[.pointer (some ⟨w.heap.size, 0, none⟩), .pointer (some ⟨w.heap.size + 1, 0, none⟩), .pointer (some ⟨w.heap.size + 1 + 1, 0, none⟩)]] 119)) := ((Le.new w _).alloc _).alloc _
  have st : VSt w.heap.size tf lb b off C g (((w.alloc (.cells #[.func (.func tf) #[] lb] 68)).alloc (.cells #[.slice none 0 0] 26)).alloc (.cells #[.func (.func 82) #[] #[.pointer (some ⟨w.heap.size, 0, none⟩), .pointer (some ⟨w.heap.size + 1, 0, none⟩), .pointer (some ⟨w.heap.size + 1 + 1, 0, none⟩)]] 119)) (.slice none 0 0) [] := by
    have h1 := ((Boxed.new w 68 (.func (.func tf) #[] lb)).alloc (.cells #[.slice none 0 0] 26)).alloc (.cells #[.func (.func 82) #[] #[.pointer (some ⟨w.heap.size, 0, none⟩), .pointer (some ⟨w.heap.size + 1, 0, none⟩), .pointer (some ⟨w.heap.size + 1 + 1, 0, none⟩)]] 119)
    have h2 := (Boxed.new (w.alloc (.cells #[.func (.func tf) #[] lb] 68)) 26 (.slice none 0 0)).alloc (.cells #[.func (.func 82) #[] #[.pointer (some ⟨w.heap.size, 0, none⟩), .pointer (some ⟨w.heap.size + 1, 0, none⟩), .pointer (some ⟨w.heap.size + 1 + 1, 0, none⟩)]] 119)
    have h3 := Boxed.new ((w.alloc (.cells #[.func (.func tf) #[] lb] 68)).alloc (.cells #[.slice none 0 0] 26)) 119 (.func (.func 82) #[] #[.pointer (some ⟨w.heap.size, 0, none⟩), .pointer (some ⟨w.heap.size + 1, 0, none⟩), .pointer (some ⟨w.heap.size + 1 + 1, 0, none⟩)])
    rw [World.size_alloc] at h2
    rw [World.size_alloc, World.size_alloc] at h3
    exact ⟨h1, h2, h3, World.ownsRow_nil _ _ _ _, SB.below L4⟩
  have cT := st.bv.cell
  have hst : ∀ (W : World) (a : Addr) (f : Fn) (x y : Array Value) (m : Mode), (store a (.func f x y) m).run Try.prog W = stored Try.prog W a (.func f x y) m := fun W a f x y m => run_store Try.prog W a _ m rfl
  go_enter Try.func65, Try.ntmps65
  go_wp2_with fail
  generalize ((w.alloc (.cells #[.func (.func tf) #[] lb] 68)).alloc (.cells #[.slice none 0 0] 26)).alloc (.cells #[.func (.func 82) #[] #[.pointer (some ⟨w.heap.size, 0, none⟩), .pointer (some ⟨w.heap.size + 1, 0, none⟩), .pointer (some ⟨w.heap.size + 1 + 1, 0, none⟩)]] 119) = W4 at *
  refine (HV.out _ L4 st).mono ?_
  rintro e W5 ⟨⟨r, rfl⟩, v', st5, ef5⟩
  have HE := Lib.hid (L4.trans' ef5.le)
  have HO := Lib.hid (⟨st5.row, HOK.out _⟩ : Owd 57 w W5 v' (selK (keepsAt (fun q => p ⟨q.cls, q.code⟩) g) g g.length))
  have cO := st5.bo.cell
  clear st5 ef5
  go_wp2
  go_ret
  exact ⟨_, rfl, HO.out, HE.out⟩
set_option maxRecDepth 100000 in
theorem splitNot_any (tf : Nat) (lb : Array Value) (eT : ∀ args w, (callFunc tf args).run Try.prog w = .ok (.enter tf args) w) (p : Lef → Bool) (Bt : Nat) (x : Lef) (W : World) (hB : Boxed W Bt 68 (.func (.func tf) #[] lb))
    (hT : ∀ (W' : World), Le W W' → Calls Try.prog tf (#[.agg #[.int .i64 x.cls, .int .i64 x.code]] ++ lb) W' fun e W'' => e = .returned (.bool (p x)) ∧ Le W' W'') :
    Calls Try.prog 66 (#[.agg #[.int .i64 x.cls, .int .i64 x.code]] ++ #[.pointer (some ⟨Bt, 0, none⟩)]) W fun e W' => e = .returned (.bool (!p x)) ∧ Le W W' := by
  have hl := Le.new W (.cells #[.int .i64 x.cls, .int .i64 x.code] 38)
  have cB := (hB.alloc (.cells #[.int .i64 x.cls, .int .i64 x.code] 38)).cell
  go_enter Try.func66, Try.ntmps66
  go_wp2_with fail
  refine (hT _ hl).mono ?_
  rintro e W2 ⟨rfl, hle⟩
  go_wp2
  go_ret
  exact ⟨rfl, hl.trans hle⟩
theorem gOkS_len {xs : List Cls} {g : List Prt} (h : gOkS xs g = true) : g.length ≤ 16 := (goodG_of (by rw [← gOk_same]; exact h)).len.2
theorem apart_base {w w4 w6 : World} {v u : Value} {T T2 : TypeId} {L M : List Prt} (h : Owd T w w4 v L) (k : Owd T2 w4 w6 u M) : Apart v u := by
  cases e : v.ownBlock with
  | none => exact .inl e
  | some q =>
    refine .inr fun e2 => ?_
    have h1 := (h.row.lt q e).2
    have h2 := (k.row.lt q (by rw [← e2]; exact e)).1
    omega
set_option maxRecDepth 100000 in
set_option maxHeartbeats 2000000 in
theorem split_prog (tf : Nat) (lb : Array Value) (eT : ∀ args w, (callFunc tf args).run Try.prog w = .ok (.enter tf args) w) (p : Lef → Bool) (xs : List Cls) (b off C : Nat) (g : List Prt) (G : GoodG xs g) (w : World) (hG : Sl w (some ⟨b, off, none⟩) g.length C g)
    (hT : ∀ (x : Lef) (W : World), x ∈ leavesL g → Le w W → Calls Try.prog tf (#[.agg #[.int .i64 x.cls, .int .i64 x.code]] ++ lb) W fun e W' => e = .returned (.bool (p x)) ∧ Le W W') :
    Calls Try.prog 35 #[.slice (some ⟨b, off, none⟩) g.length C, .func (.func tf) #[] lb] w (SpOut w (selK (keepsAt (fun q => p ⟨q.cls, q.code⟩) g) g g.length) (selK (keepsAt (fun q => !p ⟨q.cls, q.code⟩) g) g g.length)) := by
  have bT := Boxed.new w 68 (.func (.func tf) #[] lb)
  have cT := bT.cell
  have hl := Le.new w (.cells #[.func (.func tf) #[] lb] 68)
  go_enter Try.func35, Try.ntmps35
  go_wp2_with fail
  generalize w.alloc (.cells #[.func (.func tf) #[] lb] 68) = w1 at *
  refine (keep_prog tf lb eT p xs b off C g G w1 (hG.le hl) (fun x W hx hW => hT x W hx (hl.trans hW))).mono ?_
  rintro e w4 ⟨v, rfl, O1, hle⟩
  have HO1 := Lib.hid O1
  have bT4 := boxed_le bT hle
  have hl4 := hl.trans hle
  clear O1
  go_wp2_with fail
  refine (keep_prog 66 #[.pointer (some ⟨w.heap.size, 0, none⟩)] (enters_of Try.func66 (by kernel_rfl) rfl) (fun x => !p x) xs b off C g G w4 (hG.le hl4) (fun x W hx hW => splitNot_any tf lb eT p _ x W (boxed_le bT4 hW) (fun W' hW' => hT x W' hx ((hl4.trans hW).trans hW')))).mono ?_
  rintro e w6 ⟨u, rfl, O2, hle6⟩
  have HS : Hid (SpOut w (selK (keepsAt (fun q => p ⟨q.cls, q.code⟩) g) g g.length) (selK (keepsAt (fun q => !p ⟨q.cls, q.code⟩) g) g g.length) (.returned (.tuple #[v, u])) w6) := ⟨v, u, rfl, (HO1.out.mono hl).le hle6, O2.mono hl4, apart_base HO1.out O2, hl4.trans hle6⟩
  clear O2
  go_wp2
  go_ret2
  exact HS.out
theorem tS_yes (xs : List Cls) (a : Int) : tS xs a true = fun q => isAL xs q.cls a := by funext q; unfold tS; cases isAL xs q.cls a <;> rfl
theorem tS_no (xs : List Cls) (a : Int) : tS xs a false = fun q => !isAL xs q.cls a := by funext q; unfold tS; cases isAL xs q.cls a <;> rfl
/-- the parts of a group with leaves of a class, and those with others -/
def spX (xs : List Cls) (g : List Prt) (a : Int) (wi : Bool) : List Prt := cond (gOkS xs g && hasK xs a) (selK (keepsAt (tS xs a wi) g) g g.length) []
theorem spX_of {xs : List Cls} {g : List Prt} {a : Int} {c : Bool} (h : (gOkS xs g && hasK xs a) = c) (wi : Bool) : spX xs g a wi = cond c (selK (keepsAt (tS xs a wi) g) g g.length) [] := by unfold spX; rw [h]
theorem spX_len (xs : List Cls) (g : List Prt) (a : Int) (wi : Bool) : (spX xs g a wi).length ≤ 1048576 := by
  cases h : gOkS xs g && hasK xs a
  · rw [spX_of h]; simp
  · have h1 : gOkS xs g = true := by cases e : gOkS xs g; rw [e] at h; cases h; rfl
    have := gOkS_len h1
    have h2 := selK_len (keepsAt (tS xs a wi) g) g g.length
    rw [spX_of h]; show (selK _ _ _).length ≤ _; omega
end

section
open Go.RowKit Go.Shelf
set_option maxRecDepth 100000 in
set_option maxHeartbeats 2000000 in
theorem sSplitGroup_any (A B : Option Addr) (n cap m c : Nat) (xs : List Cls) (g : List Prt) (a : Int) (w : World) (hT : Sl w A n cap xs) (hG : Sl w B m c g) :
    Calls Try.prog 10 #[.agg #[.slice A n cap], .slice B m c, .int .i64 a] w (SpOut w (spX xs g a true) (spX xs g a false)) := by
  obtain ⟨c0, z0, hl⟩ := box1 w (.slice A n cap) 25
  have hS := hT.le hl
  have hG1 := hG.le hl
  go_enter Try.func10, Try.ntmps10
  go_wp2_with fail
  generalize w.alloc (.cells #[.slice A n cap] 25) = w1 at *
  refine (validGroup_any _ _ _ _ _ _ xs g _ hS hG1).mono ?_
  rintro e w2 ⟨rfl, hle⟩
  have hS2 := hS.le hle
  have hG2 := hG1.le hle
  have hLL := hl.trans hle
  have d0 := (hle.cell z0).trans c0
  cases hg : gOkS xs g
  · have HX := Lib.hid (spX_of (a := a) (c := false) (by rw [hg]; rfl) true)
    have HY := Lib.hid (spX_of (a := a) (c := false) (by rw [hg]; rfl) false)
    clear hg
    go_wp2
    go_ret2
    exact ⟨_, _, rfl, by rw [HX.out]; exact Owd.nil _ _ _, by rw [HY.out]; exact Owd.nil _ _ _, .inl rfl, hLL⟩
  · have HG := Lib.hid hg
    have G := goodG_of (by rw [← gOk_same]; exact hg)
    clear hg
    cases hk : hasK xs a
    · have HX := Lib.hid (spX_of (xs := xs) (g := g) (a := a) (c := false) (by rw [HG.out, hk]; rfl) true)
      have HY := Lib.hid (spX_of (xs := xs) (g := g) (a := a) (c := false) (by rw [HG.out, hk]; rfl) false)
      go_wp2_with (go_at_call 38; refine (hasClass_any A n cap xs a _ hS2).mono ?_; rintro e w3 ⟨rfl, hle3⟩; rw [hk])
      go_ret2
      exact ⟨_, _, rfl, by rw [HX.out]; exact Owd.nil _ _ _, by rw [HY.out]; exact Owd.nil _ _ _, .inl rfl, hLL.trans hle3⟩
    · have HX := Lib.hid (spX_of (xs := xs) (g := g) (a := a) (c := true) (by rw [HG.out, hk]; rfl) true)
      have HY := Lib.hid (spX_of (xs := xs) (g := g) (a := a) (c := true) (by rw [HG.out, hk]; rfl) false)
      go_wp2_with (go_at_call 38; refine (hasClass_any A n cap xs a _ hS2).mono ?_; rintro e w3 ⟨rfl, hle3⟩; rw [hk]; have d3 := (hle3.cell (Nat.lt_of_lt_of_le z0 hle.size)).trans d0)
      refine (split_any _ _ _ _ _ _ xs g G a _ (hS2.le hle3) (hG2.le hle3)).mono ?_
      rintro e w4 ⟨v, u, rfl, O1, O2, AP, hle4⟩
      have HS : Hid (SpOut w (spX xs g a true) (spX xs g a false) (.returned (.tuple #[v, u])) w4) := ⟨v, u, rfl, by rw [HX.out]; exact O1.mono (hLL.trans hle3), by rw [HY.out]; exact O2.mono (hLL.trans hle3), AP, (hLL.trans hle3).trans hle4⟩
      clear O1 O2 AP
      go_wp2
      go_ret2
      exact HS.out
set_option maxRecDepth 100000 in
set_option maxHeartbeats 2000000 in
theorem iSplitGroup_any (A B : Option Addr) (n cap m c : Nat) (xs : List Cls) (g : List Prt) (a : Int) (w : World) (hT : Sl w A n cap xs) (hG : Sl w B m c g) :
    Calls Try.prog 9 #[.agg #[.slice A n cap], .slice B m c, .int .i64 a] w (SpOut w (spX xs g a true) (spX xs g a false)) := by
  obtain rfl := hG.len
  obtain ⟨c0, z0, hl⟩ := box1 w (.slice A n cap) 25
  have hS := hT.le hl
  have hG1 := hG.le hl
  go_enter Try.func9, Try.ntmps9
  go_wp2_with fail
  generalize w.alloc (.cells #[.slice A n cap] 25) = w1 at *
  refine (nodesOf_any A n cap xs _ hS).mono ?_
  intro e w2 hout
  obtain ⟨hle, A2, n2, gs, rfl, hS2, hcase⟩ := nodes_one hout
  have hS1 := hS.le hle
  have hG2 := hG1.le hle
  have hLL := hl.trans hle
  have d0 := (hle.cell z0).trans c0
  clear hout
  go_wp2_with fail
  refine (nodeAt_any _ _ _ gs a _ hS2).mono ?_
  rintro e w3 ⟨rfl, rfl⟩
  by_cases hno : (okTree xs && hasK xs a) = true
  · have hab : okTree xs = true ∧ hasK xs a = true := by simpa using hno
    have g0 := good_of hab.1
    rcases hcase with ⟨h0, _⟩ | ⟨h1, rfl, hN⟩
    · rw [hab.1] at h0; cases h0
    · rcases ptr_cases hN.len a with ⟨h2, _⟩ | ⟨_, j, hj, rfl, hp⟩
      · rw [hab.2] at h2; cases h2
      · rw [hp]
        have HK := Lib.hid hab.2
        clear hab hno h1 hp
        go_wp2_with fail
        refine (iValidGroupS_any _ _ _ _ _ _ xs g _ hS1 hG2).mono ?_
        rintro e w3 ⟨rfl, hle3⟩
        have hS3 := hS2.le hle3
        have hG3 := hG2.le hle3
        have hN3 := hN.le hle3
        have hL3 := hLL.trans hle3
        cases hg : gOkS xs g
        · have HX := Lib.hid (spX_of (a := (j : Int)) (c := false) (by rw [hg]; rfl) true)
          have HY := Lib.hid (spX_of (a := (j : Int)) (c := false) (by rw [hg]; rfl) false)
          clear hg
          go_wp2
          go_ret2
          exact ⟨_, _, rfl, by rw [HX.out]; exact Owd.nil _ _ _, by rw [HY.out]; exact Owd.nil _ _ _, .inl rfl, hL3⟩
        · have HX := Lib.hid (spX_of (a := (j : Int)) (c := true) (by rw [hg, HK.out]; rfl) true)
          have HY := Lib.hid (spX_of (a := (j : Int)) (c := true) (by rw [hg, HK.out]; rfl) false)
          have G := goodG_of (by rw [← gOk_same]; exact hg)
          have GL := good_leaf G
          have h0 : 0 < g.length := by have := G.len; omega
          obtain ⟨bz, oz, rfl, -, -⟩ := hG.prt_at h0
          clear hg
          go_wp2_with fail
          refine (caughtLeaf_any _ _ _ _).mono ?_
          rintro e w4 ⟨rfl, rfl⟩
          obtain ⟨b0, y0, b1, y1, hl5⟩ := box2 w3 (.slice A2 xs.length xs.length) (.iface 65 (.pointer (some ⟨gs[j].g, 0, none⟩))) 63 107
          have hS5 := hS3.le hl5
          have hG5 := hG3.le hl5
          have hN5 := hN3.le hl5
          have hL5 := hL3.trans hl5
          generalize (w3.alloc (.cells #[.slice A2 xs.length xs.length] 63)).alloc (.cells #[.iface 65 (.pointer (some ⟨gs[j].g, 0, none⟩))] 107) = w5 at *
          have HSP := split_prog 67 #[.pointer (some ⟨w3.heap.size + 1, 0, none⟩), .pointer (some ⟨w3.heap.size, 0, none⟩)] (enters_of Try.func67 (by kernel_rfl) rfl) (fun x => isAL xs x.cls j) xs bz oz c g G w5 hG5 (fun x W hx hW => caughtLeaf1_any _ _ A2 gs xs g0 j hj x.cls x.code (GL x hx).1 (GL x hx).2 W (hS5.le hW) (hN5.le hW) ((hW.cell y1).trans b1) ((hW.cell y0).trans b0) (Nat.lt_of_lt_of_le y1 hW.size) (Nat.lt_of_lt_of_le y0 hW.size))
          go_wp2_with fail
          refine HSP.mono ?_
          rintro e w6 ⟨v, u, rfl, O1, O2, AP, hle6⟩
          have HS : Hid (SpOut w (spX xs g j true) (spX xs g j false) (.returned (.tuple #[v, u])) w6) := ⟨v, u, rfl, by rw [HX.out, tS_yes]; exact O1.mono hL5, by rw [HY.out, tS_no]; exact O2.mono hL5, AP, hL5.trans hle6⟩
          clear O1 O2 AP
          go_wp2
          go_ret2
          exact HS.out
  · have h1 : (okTree xs && hasK xs a) = false := by simpa using hno
    have hz : (gOkS xs g && hasK xs a) = false := by
      unfold gOkS
      cases e1 : okTree xs
      · simp
      · rw [e1] at h1
        have : hasK xs a = false := by simpa using h1
        rw [this]; simp
    have HX := Lib.hid (spX_of hz true)
    have HY := Lib.hid (spX_of hz false)
    have hp : ptrOf gs a = none := by
      rcases hcase with ⟨h0, _, rfl⟩ | ⟨h0, _, hN⟩
      · exact ptrOf_nil a
      · rcases ptr_cases hN.len a with ⟨_, h⟩ | ⟨h, _⟩
        · exact h
        · rw [h0, h] at h1; cases h1
    rw [hp]
    clear hp hcase h1 hno hz
    go_wp2
    go_ret2
    exact ⟨_, _, rfl, by rw [HX.out]; exact Owd.nil _ _ _, by rw [HY.out]; exact Owd.nil _ _ _, .inl rfl, hLL⟩
end

section
open Go.RowKit Go.Shelf
attribute [local go_sem] Oper.semAt_some
theorem cell_one_newL (w : World) (x : Value) (t : TypeId) : ∀ j u, [x][j]? = some u → (w.alloc (.cells #[x] t)).cell? ((⟨w.heap.size, 0, none⟩ : Addr).add j) = some u := by
  intro j u hj
  match j, hj with
  | 0, hj => simp at hj; subst hj; simp [Addr.add]
  | _ + 1, hj => simp at hj
/-- a piece as a slice -/
def hdrK (g : List Prt) (b off C x : Nat) : Hdr := ⟨some ⟨b, off + x * 4, none⟩, endN g x - x, C - x⟩
end
end Go.Proofs.Ytkpnajffeclmdaa
