/- the law FnSplitGroup -/
import Derived.Test.YtkpnajffeclmdaaCl14
import Derived.Test.YtkpnajffeclmdaaGpYP
import Derived.Test.YtkpnajffeclmdaaCl30
import Derived.Test.YtkpnajffeclmdaaCl31
import Derived.Test.YtkpnajffeclmdaaCl24
import Derived.Test.YtkpnajffeclmdaaCl12
import Derived.Test.YtkpnajffeclmdaaLGcP
import Derived.Test.YtkpnajffeclmdaaCl9
namespace Go.Proofs.Ytkpnajffeclmdaa
open Go.RowKit
theorem iValid_S (A B : Option Addr) (n cap m c : Nat) (xs : List Cls) (g : List Prt) (w : World) (hT : Sl w A n cap xs) (hG : Sl w B m c g) :
    Calls Try.prog 12 #[.agg #[.slice A n cap], .slice B m c] w fun e w' => e = .returned (.bool (gOkS xs g)) ∧ Le w w' := by
  rw [gOk_same]; exact iValidGroup_any A B n cap m c xs g w hT hG
def SpL (x y : List Prt) (w : World) (e : Ending) (w' : World) : Prop := ∃ (A B : Option Addr) (c d : Nat), e = .returned (.tuple #[.slice A x.length c, .slice B y.length d]) ∧ Sl w' A x.length c x ∧ Sl w' B y.length d y ∧ Le w w'
theorem Calls.spO {f : FuncId} {args : Array Value} {x y : List Prt} {w : World} (h : Calls Try.prog f args w (SpOut w x y)) : Calls Try.prog f args w (SpL x y w) :=
  h.mono fun _ _ ⟨v, u, he, h1, h2, _, hl⟩ => by
    obtain ⟨A, c, rfl, S, _⟩ := h1.form (by decide)
    obtain ⟨B, d, rfl, T, _⟩ := h2.form (by decide)
    exact ⟨A, B, c, d, he, S, T, hl⟩
theorem lv_small {xs : List Cls} {L : List Prt} (h : gOkS xs L = true) : (lvX xs L).length ≤ 16 := by
  obtain ⟨t, rfl, ht⟩ := gOk_iff.1 h
  rw [lvX_tree ht]
  have := leaves_len t
  have := ht.sz
  omega
set_option maxHeartbeats 4000000 in
set_option maxRecDepth 100000 in
theorem fnSplitGroup_walk (A : Option Addr) (n cap : Nat) (bs : List By) (w : World) (hR : Sl w A n cap bs) :
    Calls Try.prog 3 #[.slice A n cap] w fun e w' => e = .returned (.bool true) ∧ Le w w' := by
  have hm := hR.n_le
  by_cases hbig : 1048576 < n
  · go_enter Try.func3, Try.ntmps3
    go_wp2
    go_ret
    exact ⟨rfl, Le.refl w⟩
  go_enter Try.func3, Try.ntmps3
  go_wp2_with fail
  refine (drawSplitGroup_any A n cap bs w hR).mono ?_
  rintro e w1 ⟨B, D, m, c, k, d, xs, L, a, rfl, S, hm8, S2, hk40, hW, ha0, ha1, L0⟩
  go_wp2_with fail
  obtain ⟨ct, zt, hleB⟩ := box1 w1 (.slice B m c) 25
  replace S := S.le hleB
  replace L0 := L0.trans hleB
  replace S2 := S2.le hleB
  clear hleB
  generalize w1.alloc (.cells #[.slice B m c] 25) = W1 at *
  have hlen2 := S2.len
  go_wp2_with fail
  refine (Calls.spO (iSplitGroup_any B D m c k d xs L a W1 S S2)).mono ?_
  rintro e w2 ⟨A2, B2, c2, d2, rfl, S3, S5, hle⟩
  replace ct := (hle.cell zt).trans ct
  replace zt := Nat.lt_of_lt_of_le zt hle.size
  replace S := S.le hle
  replace L0 := L0.trans hle
  replace S2 := S2.le hle
  clear hle
  go_wp2_with fail
  refine (Calls.spO (sSplitGroup_any B D m c k d xs L a w2 S S2)).mono ?_
  rintro e w3 ⟨A3, B3, c3, d3, rfl, S4, S6, hle⟩
  replace ct := (hle.cell zt).trans ct
  replace zt := Nat.lt_of_lt_of_le zt hle.size
  replace S := S.le hle
  replace L0 := L0.trans hle
  replace S2 := S2.le hle
  replace S3 := S3.le hle
  replace S5 := S5.le hle
  clear hle
  go_wp2_with fail
  refine (equalGroup_self A2 A3 _ c2 c3 (spX xs L a true) w3 S3 S4).mono ?_
  rintro e w4 ⟨rfl, hle⟩
  replace ct := (hle.cell zt).trans ct
  replace zt := Nat.lt_of_lt_of_le zt hle.size
  replace S := S.le hle
  replace L0 := L0.trans hle
  replace S2 := S2.le hle
  replace S3 := S3.le hle
  replace S5 := S5.le hle
  replace S4 := S4.le hle
  replace S6 := S6.le hle
  clear hle
  go_wp2_with fail
  refine (equalGroup_self B2 B3 _ d2 d3 (spX xs L a false) w4 S5 S6).mono ?_
  rintro e w5 ⟨rfl, hle⟩
  replace ct := (hle.cell zt).trans ct
  replace zt := Nat.lt_of_lt_of_le zt hle.size
  replace S := S.le hle
  replace L0 := L0.trans hle
  replace S2 := S2.le hle
  replace S3 := S3.le hle
  replace S5 := S5.le hle
  replace S4 := S4.le hle
  replace S6 := S6.le hle
  clear hle
  go_wp2_with fail
  refine (iValid_S B D m c k d xs L w5 S S2).mono ?_
  rintro e w6 ⟨rfl, hle⟩
  replace ct := (hle.cell zt).trans ct
  replace zt := Nat.lt_of_lt_of_le zt hle.size
  replace S := S.le hle
  replace L0 := L0.trans hle
  replace S2 := S2.le hle
  replace S3 := S3.le hle
  replace S5 := S5.le hle
  replace S4 := S4.le hle
  replace S6 := S6.le hle
  clear hle
  cases ho : gOkS xs L
  · go_wp2_with fail
    refine (equalGroup_self A2 A3 _ c2 c3 (spX xs L a true) w6 S3 S4).mono ?_
    rintro e w7 ⟨rfl, hle⟩
    replace L0 := L0.trans hle
    replace S5 := S5.le hle
    replace S6 := S6.le hle
    clear hle
    go_wp2_with fail
    refine (equalGroup_self B2 B3 _ d2 d3 (spX xs L a false) w7 S5 S6).mono ?_
    rintro e w8 ⟨rfl, hle⟩
    replace L0 := L0.trans hle
    clear hle
    go_wp2
    go_ret
    exact ⟨rfl, L0⟩
  go_wp2_with fail
  refine (has_any B m c xs a w6 S).mono ?_
  rintro e w7 ⟨rfl, hle⟩
  replace ct := (hle.cell zt).trans ct
  replace zt := Nat.lt_of_lt_of_le zt hle.size
  replace S := S.le hle
  replace L0 := L0.trans hle
  replace S2 := S2.le hle
  replace S3 := S3.le hle
  replace S5 := S5.le hle
  replace S4 := S4.le hle
  replace S6 := S6.le hle
  clear hle
  cases hh : hasK xs a
  · go_wp2_with fail
    refine (equalGroup_self A2 A3 _ c2 c3 (spX xs L a true) w7 S3 S4).mono ?_
    rintro e w8 ⟨rfl, hle⟩
    replace L0 := L0.trans hle
    replace S5 := S5.le hle
    replace S6 := S6.le hle
    clear hle
    go_wp2_with fail
    refine (equalGroup_self B2 B3 _ d2 d3 (spX xs L a false) w8 S5 S6).mono ?_
    rintro e w9 ⟨rfl, hle⟩
    replace L0 := L0.trans hle
    clear hle
    go_wp2
    go_ret
    exact ⟨rfl, L0⟩
  clear S4 S6
  obtain ⟨hcnt, hsum⟩ := count_facts ho hh
  have HAG := Lib.hid (split_again ho hh)
  have hsm := lv_small ho
  go_wp2_with fail
  refine (Calls.sl1o (by decide) (iLeavesOf_any B A2 m c _ c2 xs (spX xs L a true) w7 S S3)).mono ?_
  rintro e w8 ⟨A8, c8, rfl, S8, hle⟩
  replace ct := (hle.cell zt).trans ct
  replace zt := Nat.lt_of_lt_of_le zt hle.size
  replace S := S.le hle
  replace L0 := L0.trans hle
  replace S2 := S2.le hle
  replace S3 := S3.le hle
  replace S5 := S5.le hle
  clear hle
  go_wp2_with fail
  refine (Calls.sl1o (by decide) (iLeavesOf_any B B2 m c _ d2 xs (spX xs L a false) w8 S S5)).mono ?_
  rintro e w9 ⟨A9, c9, rfl, S9, hle⟩
  replace ct := (hle.cell zt).trans ct
  replace zt := Nat.lt_of_lt_of_le zt hle.size
  replace S := S.le hle
  replace L0 := L0.trans hle
  replace S2 := S2.le hle
  replace S3 := S3.le hle
  replace S8 := S8.le hle
  clear hle
  go_wp2_with fail
  refine (Calls.sl1o (by decide) (iLeavesOf_any B D m c k d xs L w9 S S2)).mono ?_
  rintro e w10 ⟨A10, c10, rfl, S10, hle⟩
  replace ct := (hle.cell zt).trans ct
  replace zt := Nat.lt_of_lt_of_le zt hle.size
  replace S := S.le hle
  replace L0 := L0.trans hle
  replace S3 := S3.le hle
  replace S8 := S8.le hle
  replace S9 := S9.le hle
  clear hle
  have HCN := Lib.hid hcnt
  have HSU := Lib.hid hsum
  have hb1 : (lvX xs (spX xs L a true)).length ≤ 16 := by omega
  have hb2 : (lvX xs (spX xs L a false)).length ≤ 16 := by omega
  clear hcnt hsum
  generalize lvX xs (spX xs L a true) = M1 at *
  generalize lvX xs (spX xs L a false) = M2 at *
  generalize lvX xs L = V at *
  generalize spX xs L a true = M at *
  clear S2 S5
  go_wp2
  go_loopw [13] (fun i wr => ∃ j : Nat, j ≤ V.length ∧ i = .int .i64 j ∧ Le w10 wr) (fun i _ => V.length - (intOf i).toNat)
  case atStart => exact ⟨0, Nat.zero_le _, rfl, Le.refl _⟩
  case round =>
    obtain ⟨j, hj, rfl, LW⟩ := hrel
    replace ct := (LW.cell zt).trans ct
    replace zt := Nat.lt_of_lt_of_le zt LW.size
    replace S := S.le LW
    replace L0 := L0.trans LW
    replace S3 := S3.le LW
    replace S8 := S8.le LW
    replace S9 := S9.le LW
    replace S10 := S10.le LW
    by_cases hlt : j < V.length
    · have hai : (j : Int) < V.length := by omega
      obtain ⟨b, off, rfl, hb, e0, e1, -⟩ := S10.lef_at hlt
      have G0 := cell_ext hb e0
      have G1 := cell_ext hb e1
      have F9 := cell_ext zt ct
      obtain ⟨x1, x2⟩ := HCN.out V[j] (List.getElem_mem hlt)
      have y1 := cntL_le V[j] M1
      have y2 := cntL_le V[j] M2
      obtain ⟨n1, h1⟩ : ∃ n1 : Nat, cntL V[j] M1 = n1 := ⟨_, rfl⟩
      obtain ⟨n2, h2⟩ : ∃ n2 : Nat, cntL V[j] M2 = n2 := ⟨_, rfl⟩
      obtain ⟨n3, h3⟩ : ∃ n3 : Nat, cntL V[j] V = n3 := ⟨_, rfl⟩
      rw [h1, h2, h3] at x1
      rw [h1] at x2 y1
      rw [h2] at y2
      have hws : IntKind.i64.wrap ((n1 : Int) + (n2 : Int)) = (n3 : Int) := by rw [IntWalk.i64_in _ (by omega)]; omega
      have hne : ((n3 : Int) != (n3 : Int)) = false := by simp
      have h1' : ((cntL V[j] M1 : Nat) : Int) = n1 := by rw [h1]
      have h2' : ((cntL V[j] M2 : Nat) : Int) = n2 := by rw [h2]
      have h3' : ((cntL V[j] V : Nat) : Int) = n3 := by rw [h3]
      clear h1 h2 h3 x1 y1 y2
      obtain ⟨bb, hbv⟩ : ∃ bb, isAx xs V[j].cls a = bb := ⟨_, rfl⟩
      rw [hbv] at x2
      have x3 : decide ((0 : Int) < n1) = bb := by rw [← x2]; exact Bool.eq_iff_iff.2 (by simp)
      cases bb
      all_goals
        go_wp2_with fail
        refine wp_region_ext (by kernel_rfl) (by kernel_rfl) ?_
        repeat (go_big_quiet_step (first | (go_at_call_of 15 (Value.slice A8 M1.length c8); exact Calls.ext_of (Calls.val (count_any A8 _ c8 M1 V[j] _ (S8.le (Le.ext _ _))) (vi h1'))) | (go_at_call_of 15 (Value.slice A9 M2.length c9); exact Calls.ext_of (Calls.val (count_any A9 _ c9 M2 V[j] _ (S9.le (Le.ext _ _))) (vi h2'))) | (go_at_call 15; exact Calls.ext_of (Calls.val (count_any _ _ c10 V V[j] _ (S10.le (Le.ext _ _))) (vi h3'))) | (go_at_call 16; exact Calls.ext_of (Calls.val (iIsA_any B m c xs V[j].cls a _ (S.le (Le.ext _ _))) (vb hbv)))))
        refine wpQuiet_nil ?_
        intro _ hw'
        obtain ⟨gg, rfl⟩ := hw'
        have hw2 := Le.ext wr gg
        generalize wr.ext gg = W2 at *
        go_wp2
        go_roundw
        case rel => exact ⟨j + 1, by omega, by go_num, LW.trans hw2⟩
        case measure => simp [intOf]; omega
    · have hai : ¬ (j : Int) < V.length := by omega
      have hws : IntKind.i64.wrap ((M1.length : Int) + (M2.length : Int)) = (V.length : Int) := by have := HSU.out; rw [IntWalk.i64_in _ (by omega)]; omega
      have hee : ((V.length : Int) == (V.length : Int)) = true := by simp
      clear S8 S9 S10
      by_cases hM : 0 < M.length
      · obtain ⟨q1, q2⟩ := HAG.out hM
        have HS := Calls.spO (iSplitGroup_any B A2 m c _ c2 xs M a wr S S3)
        rw [q1, q2] at HS
        clear q1 q2
        have hMz : ((M.length : Int) == 0) = false := by rw [beq_eq_false_iff_ne]; omega
        have hMn : ¬ M.length = 0 := by omega
        go_wp2_with fail
        refine (HS).mono ?_
        rintro e w11 ⟨A11, B11, c11, d11, rfl, S11, S12, hle⟩
        replace L0 := L0.trans hle
        replace S3 := S3.le hle
        clear hle
        go_wp2_with fail
        refine (equalGroup_self A11 A2 _ c11 c2 M w11 S11 S3).mono ?_
        rintro e w12 ⟨rfl, hle⟩
        replace L0 := L0.trans hle
        clear hle
        go_wp2
        go_ret
        exact ⟨rfl, L0⟩
      · have hMz : ((M.length : Int) == 0) = true := by rw [beq_iff_eq]; omega
        have HS := Calls.spO (iSplitGroup_any B A2 m c _ c2 xs M a wr S S3)
        go_wp2_with fail
        refine (HS).mono ?_
        rintro e w11 ⟨A11, B11, c11, d11, rfl, S11, S12, hle⟩
        replace L0 := L0.trans hle
        clear hle
        go_wp2
        go_ret
        exact ⟨rfl, L0⟩
end Go.Proofs.Ytkpnajffeclmdaa
