/- the law FnSplitGroupOrder -/
import Derived.Test.YtkpnajffeclmdaaCl14
import Derived.Test.YtkpnajffeclmdaaGpYP
import Derived.Test.YtkpnajffeclmdaaCl30
import Derived.Test.YtkpnajffeclmdaaCl31
import Derived.Test.YtkpnajffeclmdaaCl24
import Derived.Test.YtkpnajffeclmdaaCl12
import Derived.Test.YtkpnajffeclmdaaCl9
namespace Go.Proofs.Ytkpnajffeclmdaa
open Go.RowKit
theorem iValid_S (A B : Option Addr) (n cap m c : Nat) (xs : List Cls) (g : List Prt) (w : World) (hT : Sl w A n cap xs) (hG : Sl w B m c g) :
    Calls Try.prog 12 #[.agg #[.slice A n cap], .slice B m c] w fun e w' => e = .returned (.bool (gOkS xs g)) ∧ Le w w' := by
  rw [gOk_same]; exact iValidGroup_any A B n cap m c xs g w hT hG
def SpL (x y : List Prt) (w : World) (e : Ending) (w' : World) : Prop := ∃ (A B : Option Addr) (c d : Nat), e = .returned (.tuple #[.slice A x.length c, .slice B y.length d]) ∧ Sl w' A x.length c x ∧ Sl w' B y.length d y ∧ Le w w'
theorem Calls.spO {f : FuncId} {args : Array Value} {x y : List Prt} {w : World} (h : Calls Try.prog f args w (SpOut w x y)) : Calls Try.prog f args w (SpL x y w) :=
  h.mono fun _ _ ⟨v, u, he, h1, h2, _, hl⟩ => by
    obtain ⟨A, c, rfl, S, _⟩ := h1.form (by decide)
    obtain ⟨B, d, rfl, T, _⟩ := h2.form (by decide)
    exact ⟨A, B, c, d, he, S, T, hl⟩
theorem lv_small {xs : List Cls} {L : List Prt} (h : gOkS xs L = true) : (lvX xs L).length ≤ 16 := by
  obtain ⟨t, rfl, ht⟩ := gOk_iff.1 h
  rw [lvX_tree ht]
  have := leaves_len t
  have := ht.sz
  omega
set_option maxHeartbeats 4000000 in
set_option maxRecDepth 100000 in
theorem fnSplitGroupOrder_walk (A : Option Addr) (n cap : Nat) (bs : List By) (w : World) (hR : Sl w A n cap bs) :
    Calls Try.prog 6 #[.slice A n cap] w fun e w' => e = .returned (.bool true) ∧ Le w w' := by
  have hm := hR.n_le
  by_cases hbig : 1048576 < n
  · go_enter Try.func6, Try.ntmps6
    go_wp2
    go_ret
    exact ⟨rfl, Le.refl w⟩
  go_enter Try.func6, Try.ntmps6
  go_wp2_with fail
  refine (drawSplitGroup_any A n cap bs w hR).mono ?_
  rintro e w1 ⟨B, D, m, c, k, d, xs, L, a, rfl, S, hm8, S2, hk40, hW, ha0, ha1, L0⟩
  go_wp2_with fail
  obtain ⟨ct, zt, hleB⟩ := box1 w1 (.slice B m c) 25
  replace S := S.le hleB
  replace L0 := L0.trans hleB
  replace S2 := S2.le hleB
  clear hleB
  generalize w1.alloc (.cells #[.slice B m c] 25) = W1 at *
  have hlen2 := S2.len
  go_wp2_with fail
  refine (Calls.spO (iSplitGroup_any B D m c k d xs L a W1 S S2)).mono ?_
  rintro e w2 ⟨A2, B2, c2, d2, rfl, S3, S5, hle⟩
  replace ct := (hle.cell zt).trans ct
  replace zt := Nat.lt_of_lt_of_le zt hle.size
  replace S := S.le hle
  replace L0 := L0.trans hle
  replace S2 := S2.le hle
  clear hle
  go_wp2_with fail
  refine (Calls.spO (sSplitGroup_any B D m c k d xs L a w2 S S2)).mono ?_
  rintro e w3 ⟨A3, B3, c3, d3, rfl, S4, S6, hle⟩
  replace ct := (hle.cell zt).trans ct
  replace zt := Nat.lt_of_lt_of_le zt hle.size
  replace S := S.le hle
  replace L0 := L0.trans hle
  replace S2 := S2.le hle
  replace S3 := S3.le hle
  replace S5 := S5.le hle
  clear hle
  go_wp2_with fail
  refine (equalGroup_self A2 A3 _ c2 c3 (spX xs L a true) w3 S3 S4).mono ?_
  rintro e w4 ⟨rfl, hle⟩
  replace ct := (hle.cell zt).trans ct
  replace zt := Nat.lt_of_lt_of_le zt hle.size
  replace S := S.le hle
  replace L0 := L0.trans hle
  replace S2 := S2.le hle
  replace S3 := S3.le hle
  replace S5 := S5.le hle
  replace S4 := S4.le hle
  replace S6 := S6.le hle
  clear hle
  go_wp2_with fail
  refine (equalGroup_self B2 B3 _ d2 d3 (spX xs L a false) w4 S5 S6).mono ?_
  rintro e w5 ⟨rfl, hle⟩
  replace ct := (hle.cell zt).trans ct
  replace zt := Nat.lt_of_lt_of_le zt hle.size
  replace S := S.le hle
  replace L0 := L0.trans hle
  replace S2 := S2.le hle
  replace S3 := S3.le hle
  replace S5 := S5.le hle
  replace S4 := S4.le hle
  replace S6 := S6.le hle
  clear hle
  go_wp2_with fail
  refine (iValid_S B D m c k d xs L w5 S S2).mono ?_
  rintro e w6 ⟨rfl, hle⟩
  replace ct := (hle.cell zt).trans ct
  replace zt := Nat.lt_of_lt_of_le zt hle.size
  replace S := S.le hle
  replace L0 := L0.trans hle
  replace S2 := S2.le hle
  replace S3 := S3.le hle
  replace S5 := S5.le hle
  replace S4 := S4.le hle
  replace S6 := S6.le hle
  clear hle
  cases ho : gOkS xs L
  · go_wp2_with fail
    refine (equalGroup_self A2 A3 _ c2 c3 (spX xs L a true) w6 S3 S4).mono ?_
    rintro e w7 ⟨rfl, hle⟩
    replace L0 := L0.trans hle
    replace S5 := S5.le hle
    replace S6 := S6.le hle
    clear hle
    go_wp2_with fail
    refine (equalGroup_self B2 B3 _ d2 d3 (spX xs L a false) w7 S5 S6).mono ?_
    rintro e w8 ⟨rfl, hle⟩
    replace L0 := L0.trans hle
    clear hle
    go_wp2
    go_ret
    exact ⟨rfl, L0⟩
  go_wp2_with fail
  refine (has_any B m c xs a w6 S).mono ?_
  rintro e w7 ⟨rfl, hle⟩
  replace ct := (hle.cell zt).trans ct
  replace zt := Nat.lt_of_lt_of_le zt hle.size
  replace S := S.le hle
  replace L0 := L0.trans hle
  replace S2 := S2.le hle
  replace S3 := S3.le hle
  replace S5 := S5.le hle
  replace S4 := S4.le hle
  replace S6 := S6.le hle
  clear hle
  cases hh : hasK xs a
  · go_wp2_with fail
    refine (equalGroup_self A2 A3 _ c2 c3 (spX xs L a true) w7 S3 S4).mono ?_
    rintro e w8 ⟨rfl, hle⟩
    replace L0 := L0.trans hle
    replace S5 := S5.le hle
    replace S6 := S6.le hle
    clear hle
    go_wp2_with fail
    refine (equalGroup_self B2 B3 _ d2 d3 (spX xs L a false) w8 S5 S6).mono ?_
    rintro e w9 ⟨rfl, hle⟩
    replace L0 := L0.trans hle
    clear hle
    go_wp2
    go_ret
    exact ⟨rfl, L0⟩
  clear S4 S6
  have HY := Lib.hid (yes_all ho hh)
  have HLEN := Lib.hid (fun V k => yes_len xs a V k)
  have hsm := lv_small ho
  have O1 := own_empty (w := w7) (base := w7.heap.size) (g := w7.heap.size) (e := 38) (size := 2) (Nat.le_refl _) rfl
  have LA := Le.new w7 (.cells #[] 38)
  have z8 : (w7.alloc (.cells #[] 38)).heap.size = w7.heap.size + 1 := by simp
  have O2 := own_empty (w := w7.alloc (.cells #[] 38)) (base := w7.heap.size) (g := w7.heap.size + 1) (e := 38) (size := 2) (by omega) z8.symm
  have LB := LA.trans (Le.new (w7.alloc (.cells #[] 38)) (.cells #[] 38))
  have HZ9 : Hid (((w7.alloc (.cells #[] 38)).alloc (.cells #[] 38)).heap.size = w7.heap.size + 2) := by show _ = _; simp
  replace O1 := own_le O1 (Le.new (w7.alloc (.cells #[] 38)) (.cells #[] 38))
  have q7 : Hid (w1.heap.size < w7.heap.size) := zt
  have ctB := (LB.cell zt).trans ct
  have SB := S.le LB
  have S2B := S2.le LB
  clear LA z8
  go_wp2_with fail
  generalize (w7.alloc (.cells #[] 38)).alloc (.cells #[] 38) = W8 at *
  refine (iLeavesOf_any B D m c k d xs L W8 SB S2B).mono ?_
  rintro e w9 ⟨vv, rfl, DV, hle⟩
  obtain ⟨A9, c9, rfl, -, hB9⟩ := DV.form (by decide)
  replace O1 := own_le O1 hle
  replace O2 := own_le O2 hle
  have L79 := LB.trans hle
  have z9 : Hid (w7.heap.size + 2 ≤ w9.heap.size) := by have := HZ9.out; have := hle.size; show _ ≤ _; omega
  have HB9 := Lib.hid hB9
  clear hB9 hle S2 SB S2B ctB LB
  generalize lvX xs L = V at *
  have hokV := Lib.hid (fun k (h : k < V.length) => DV.ok V[k] (List.getElem_mem h))
  obtain ⟨i0, hi0, hz0, hzz1, hzz2⟩ := info_parts infoLefS
  go_wp2
  go_loopw [10, 11, 13] (fun v u i wr => ∃ (j : Nat) (A' B' : Option Addr) (c' d' : Nat), j ≤ V.length ∧ i = .int .i64 j ∧ v = .slice A' (yesL xs a (V.take j)).length c' ∧ u = .slice B' (noL xs a (V.take j)).length d' ∧
      wr.ownsRow w7.heap.size 38 2 v (yesL xs a (V.take j)).length ((yesL xs a (V.take j)).flatMap Enc.cells) ∧ wr.ownsRow w7.heap.size 38 2 u (noL xs a (V.take j)).length ((noL xs a (V.take j)).flatMap Enc.cells) ∧
      Apart v u ∧ (∀ q, v.ownBlock = some q → q = w7.heap.size ∨ q = w7.heap.size + 1 ∨ w9.heap.size ≤ q) ∧ (∀ q, u.ownBlock = some q → q = w7.heap.size ∨ q = w7.heap.size + 1 ∨ w9.heap.size ≤ q) ∧ GrB (fun k => k = w7.heap.size ∨ k = w7.heap.size + 1 ∨ w9.heap.size ≤ k) w9 wr) (fun _ _ i _ => V.length - (intOf i).toNat)
  case atStart => exact ⟨0, _, _, _, _, Nat.zero_le _, rfl, rfl, rfl, O1, O2, .inr (by simp [Value.ownBlock]), fun q e => .inl (by simp [Value.ownBlock] at e; omega), fun q e => .inr (.inl (by simp [Value.ownBlock] at e; omega)), GrB.refl _ _⟩
  case round =>
    obtain ⟨j, A', B', c', d', hj, rfl, rfl, rfl, O1, O2, hap, hv, hu, GB⟩ := hrel
    have LW : Le w7 wr := L79.grB GB (fun k h => by have := z9.out; rcases h with h | h | h <;> omega)
    have OV : Owd 38 W8 wr (.slice A9 V.length c9) V := ⟨own_grB DV.row GB (fun k e h => by have := HB9.out k e; have := HZ9.out; rcases h with h | h | h <;> omega), DV.ok⟩
    obtain ⟨A'', c'', e', S10, -⟩ := OV.form (by decide)
    injection e' with e1 e2 e3
    subst e1
    subst e3
    clear e2 OV
    replace ct := (LW.cell zt).trans ct
    replace zt := Nat.lt_of_lt_of_le zt LW.size
    replace S := S.le LW
    replace L0 := L0.trans LW
    replace S3 := S3.le LW
    replace S5 := S5.le LW
    obtain ⟨len1, len2⟩ := HLEN.out V j
    by_cases hlt : j < V.length
    · have hai : (j : Int) < V.length := by omega
      have hok := hokV.out j hlt
      obtain ⟨b, off, rfl, hb, e0, e1, -⟩ := S10.lef_at hlt
      have G1 := cell_ext hb e0
      have F9 := cell_ext zt ct
      have Y1 := Lib.hid (yes_yes (xs := xs) (a := a) hlt)
      have Y0 := Lib.hid (yes_no (xs := xs) (a := a) hlt)
      cases hbv : isAx xs V[j].cls a
      all_goals
        go_wp2_with fail
        refine wp_region_ext (by kernel_rfl) (by kernel_rfl) ?_
        repeat (go_big_quiet_step (first | (go_at_call 16; exact Calls.ext_of (Calls.val (iIsA_any B m c xs V[j].cls a _ (S.le (Le.ext _ _))) (vb hbv)))))
        refine wpQuiet_nil ?_
        intro _ hw'
        obtain ⟨gg, rfl⟩ := hw'
        have hw2 := Le.ext wr gg
        generalize wr.ext gg = W2 at *
        replace O1 := own_le O1 hw2
        replace O2 := own_le O2 hw2
        replace GB := GB.trans (GrB.of_le hw2)
        have LW2 := LW.trans hw2
        replace e0 := (hw2.cell hb).trans e0
        replace e1 := (hw2.cell hb).trans e1
        clear G1 F9 hw2 S10 ct S L0 S3 S5
      · have N1 : Hid (yesL xs a (V.take (j + 1)) = yesL xs a (V.take j)) := (Y0.out hbv).2
        have N2 : Hid (noL xs a (V.take (j + 1)) = noL xs a (V.take j) ++ [V[j]]) := (Y0.out hbv).1
        clear Y1 Y0
        generalize yesL xs a (V.take j) = E at *
        generalize noL xs a (V.take j) = C at *
        generalize V[j] = x at *
        go_wp2_with (first | (at_builtin; refine wpList_append_sl rfl _ _ 34 rfl w7.heap.size 38 i0 _ 16 Try.underlying34 hi0 hz0 hzz1 hzz2 rfl (.slice B' C.length d') C.length C rfl (O2.alloc _) _ 1 1 [x] rfl (sl_one x rfl hok rfl) (by unfold maxLen; omega) (by omega) (LW2.alloc _).size ?_; intro v1 w3 OA hgA hatA; have OB := (O1.alloc _).kept hgA hap; have hn3 := (hap.symm.new (O1.alloc _) hatA (Nat.le_refl _)).symm; have GB3 := (GB.trans (GrB.of_le (Le.new W2 _))).trans (GrB.of_grown hgA (fun k e => hu k e)); have hu3 : ∀ q, v1.ownBlock = some q → q = w7.heap.size ∨ q = w7.heap.size + 1 ∨ w9.heap.size ≤ q := fun q e => (by rcases hatA with h | h; exact hu q (h ▸ e); (rw [h] at e; injection e with e; have h9 := GB.size; have h10 := (Le.new W2 (.cells #[.int .i64 x.cls, .int .i64 x.code] 38)).size; exact .inr (.inr (by omega)))); clear hgA hatA))
        obtain ⟨A5, q5, rfl⟩ := own_form OA
        go_roundw
        case rel => exact ⟨j + 1, A', A5, c', q5, by omega, by go_num, by rw [N1.out], by rw [N2.out]; simp, by rw [N1.out]; exact OB, by rw [N2.out, List.length_append]; exact OA, hn3, hv, hu3, GB3⟩
        case measure => simp [intOf]; omega
      · have N1 : Hid (yesL xs a (V.take (j + 1)) = yesL xs a (V.take j) ++ [V[j]]) := (Y1.out hbv).1
        have N2 : Hid (noL xs a (V.take (j + 1)) = noL xs a (V.take j)) := (Y1.out hbv).2
        clear Y1 Y0
        generalize yesL xs a (V.take j) = E at *
        generalize noL xs a (V.take j) = C at *
        generalize V[j] = x at *
        go_wp2_with (first | (at_builtin; refine wpList_append_sl rfl _ _ 34 rfl w7.heap.size 38 i0 _ 16 Try.underlying34 hi0 hz0 hzz1 hzz2 rfl (.slice A' E.length c') E.length E rfl (O1.alloc _) _ 1 1 [x] rfl (sl_one x rfl hok rfl) (by unfold maxLen; omega) (by omega) (LW2.alloc _).size ?_; intro v1 w3 OA hgA hatA; have OB := (O2.alloc _).kept hgA hap.symm; have hn3 := hap.new (O2.alloc _) hatA (Nat.le_refl _); have GB3 := (GB.trans (GrB.of_le (Le.new W2 _))).trans (GrB.of_grown hgA (fun k e => hv k e)); have hv3 : ∀ q, v1.ownBlock = some q → q = w7.heap.size ∨ q = w7.heap.size + 1 ∨ w9.heap.size ≤ q := fun q e => (by rcases hatA with h | h; exact hv q (h ▸ e); (rw [h] at e; injection e with e; have h9 := GB.size; have h10 := (Le.new W2 (.cells #[.int .i64 x.cls, .int .i64 x.code] 38)).size; exact .inr (.inr (by omega)))); clear hgA hatA))
        obtain ⟨A5, q5, rfl⟩ := own_form OA
        go_roundw
        case rel => exact ⟨j + 1, A5, B', q5, d', by omega, by go_num, by rw [N1.out]; simp, by rw [N2.out], by rw [N1.out, List.length_append]; exact OA, by rw [N2.out]; exact OB, hn3, hv3, hu, GB3⟩
        case measure => simp [intOf]; omega
    · have hai : ¬ (j : Int) < V.length := by omega
      obtain rfl : j = V.length := by omega
      obtain ⟨y1, y2⟩ := HY.out
      clear hap hv hu GB len1 len2 S10
      rw [List.take_length] at O1 O2 ⊢
      rw [y1] at O1 ⊢
      rw [y2] at O2 ⊢
      clear y1 y2
      go_wp2_with fail
      refine (Calls.sl1o (by decide) (iLeavesOf_any B A2 m c _ c2 xs (spX xs L a true) wr S S3)).mono ?_
      rintro e w11 ⟨A11, c11, rfl, S11, hle⟩
      replace ct := (hle.cell zt).trans ct
      replace zt := Nat.lt_of_lt_of_le zt hle.size
      replace S := S.le hle
      replace L0 := L0.trans hle
      replace S5 := S5.le hle
      replace O1 := own_le O1 hle
      replace O2 := own_le O2 hle
      clear hle
      have S8 := Sl.of_own O1 rfl (by decide) S11.ok
      go_wp2_with fail
      refine (equalLeaves_self A11 A' _ c11 c' _ w11 S11 S8).mono ?_
      rintro e w12 ⟨rfl, hle⟩
      replace ct := (hle.cell zt).trans ct
      replace zt := Nat.lt_of_lt_of_le zt hle.size
      replace S := S.le hle
      replace L0 := L0.trans hle
      replace S5 := S5.le hle
      replace O2 := own_le O2 hle
      clear hle
      go_wp2_with fail
      refine (Calls.sl1o (by decide) (iLeavesOf_any B B2 m c _ d2 xs (spX xs L a false) w12 S S5)).mono ?_
      rintro e w13 ⟨A13, c13, rfl, S13, hle⟩
      replace L0 := L0.trans hle
      replace O2 := own_le O2 hle
      clear hle
      have S9 := Sl.of_own O2 rfl (by decide) S13.ok
      go_wp2_with fail
      refine (equalLeaves_self A13 B' _ c13 d' _ w13 S13 S9).mono ?_
      rintro e w14 ⟨rfl, hle⟩
      replace L0 := L0.trans hle
      clear hle
      go_wp2
      go_ret
      exact ⟨rfl, L0⟩
end Go.Proofs.Ytkpnajffeclmdaa
