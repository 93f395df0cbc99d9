/- the law FnSplitGroupShape -/
import Derived.Test.YtpkkkpfanedieaaDrWQ
import Derived.Test.YtpkkkpfanedieaaGpXQ
import Derived.Test.YtpkkkpfanedieaaGpVQ
import Derived.Test.YtpkkkpfanedieaaCk18
import Derived.Test.YtpkkkpfanedieaaCk17
import Derived.Test.YtpkkkpfanedieaaCk16
import Derived.Test.YtpkkkpfanedieaaCk14
import Derived.Test.YtpkkkpfanedieaaLDQ
namespace Go.Proofs.Ytpkkkpfanedieaa
open Go.RowKit
theorem iValid_S (A B : Option Addr) (n cap m c : Nat) (xs : List Cls) (g : List Prt) (w : World) (hT : Sl w A n cap xs) (hG : Sl w B m c g) :
    Calls Try.prog 14 #[.agg #[.slice A n cap], .slice B m c] w fun e w' => e = .returned (.bool (gOkS xs g)) ∧ Le w w' := by
  rw [gOk_same]; exact iValidGroup_any A B n cap m c xs g w hT hG
def SpL (x y : List Prt) (w : World) (e : Ending) (w' : World) : Prop := ∃ (A B : Option Addr) (c d : Nat), e = .returned (.tuple #[.slice A x.length c, .slice B y.length d]) ∧ Sl w' A x.length c x ∧ Sl w' B y.length d y ∧ Le w w'
theorem Calls.spO {f : FuncId} {args : Array Value} {x y : List Prt} {w : World} (h : Calls Try.prog f args w (SpOut w x y)) : Calls Try.prog f args w (SpL x y w) :=
  h.mono fun _ _ ⟨v, u, he, h1, h2, _, hl⟩ => by
    obtain ⟨A, c, rfl, S, _⟩ := h1.form (by decide)
    obtain ⟨B, d, rfl, T, _⟩ := h2.form (by decide)
    exact ⟨A, B, c, d, he, S, T, hl⟩
theorem split_small {xs : List Cls} {L : List Prt} {a : Int} (h : gOkS xs L = true) (ha : hasK xs a = true) : (spX xs L a true).length ≤ 16 ∧ (spX xs L a false).length ≤ 16 := by
  obtain ⟨t, rfl, ht⟩ := gOk_iff.1 h
  rw [spX_tree ht ha, spX_tree ht ha, flatF_len, flatF_len]
  exact ⟨Nat.le_trans (szF_keep _ t) ht.sz, Nat.le_trans (szF_keep _ t) ht.sz⟩
set_option maxHeartbeats 4000000 in
set_option maxRecDepth 100000 in
theorem fnSplitGroupShape_walk (A : Option Addr) (n cap : Nat) (bs : List By) (w : World) (hR : Sl w A n cap bs) :
    Calls Try.prog 4 #[.slice A n cap] w fun e w' => e = .returned (.bool true) ∧ Le w w' := by
  have hm := hR.n_le
  by_cases hbig : 1048576 < n
  · go_enter Try.func4, Try.ntmps4
    go_wp2
    go_ret
    exact ⟨rfl, Le.refl w⟩
  go_enter Try.func4, Try.ntmps4
  go_wp2_with fail
  refine (drawSplitGroup_any A n cap bs w hR).mono ?_
  rintro e w1 ⟨B, D, m, c, k, d, xs, L, a, rfl, S, hm8, S2, hk40, hW, ha0, ha1, L0⟩
  go_wp2_with fail
  obtain ⟨ct, zt, hleB⟩ := box1 w1 (.slice B m c) 25
  replace S := S.le hleB
  replace L0 := L0.trans hleB
  replace S2 := S2.le hleB
  clear hleB
  generalize w1.alloc (.cells #[.slice B m c] 25) = W1 at *
  have hlen2 := S2.len
  go_wp2_with fail
  refine (Calls.spO (iSplitGroup_any B D m c k d xs L a W1 S S2)).mono ?_
  rintro e w2 ⟨A2, B2, c2, d2, rfl, S3, S5, hle⟩
  replace ct := (hle.cell zt).trans ct
  replace zt := Nat.lt_of_lt_of_le zt hle.size
  replace S := S.le hle
  replace L0 := L0.trans hle
  replace S2 := S2.le hle
  clear hle
  go_wp2_with fail
  refine (Calls.spO (sSplitGroup_any B D m c k d xs L a w2 S S2)).mono ?_
  rintro e w3 ⟨A3, B3, c3, d3, rfl, S4, S6, hle⟩
  replace ct := (hle.cell zt).trans ct
  replace zt := Nat.lt_of_lt_of_le zt hle.size
  replace S := S.le hle
  replace L0 := L0.trans hle
  replace S2 := S2.le hle
  replace S3 := S3.le hle
  replace S5 := S5.le hle
  clear hle
  go_wp2_with fail
  refine (equalGroup_self A2 A3 _ c2 c3 (spX xs L a true) w3 S3 S4).mono ?_
  rintro e w4 ⟨rfl, hle⟩
  replace ct := (hle.cell zt).trans ct
  replace zt := Nat.lt_of_lt_of_le zt hle.size
  replace S := S.le hle
  replace L0 := L0.trans hle
  replace S2 := S2.le hle
  replace S3 := S3.le hle
  replace S5 := S5.le hle
  replace S4 := S4.le hle
  replace S6 := S6.le hle
  clear hle
  go_wp2_with fail
  refine (equalGroup_self B2 B3 _ d2 d3 (spX xs L a false) w4 S5 S6).mono ?_
  rintro e w5 ⟨rfl, hle⟩
  replace ct := (hle.cell zt).trans ct
  replace zt := Nat.lt_of_lt_of_le zt hle.size
  replace S := S.le hle
  replace L0 := L0.trans hle
  replace S2 := S2.le hle
  replace S3 := S3.le hle
  replace S5 := S5.le hle
  replace S4 := S4.le hle
  replace S6 := S6.le hle
  clear hle
  go_wp2_with fail
  refine (iValid_S B D m c k d xs L w5 S S2).mono ?_
  rintro e w6 ⟨rfl, hle⟩
  replace ct := (hle.cell zt).trans ct
  replace zt := Nat.lt_of_lt_of_le zt hle.size
  replace S := S.le hle
  replace L0 := L0.trans hle
  replace S2 := S2.le hle
  replace S3 := S3.le hle
  replace S5 := S5.le hle
  replace S4 := S4.le hle
  replace S6 := S6.le hle
  clear hle
  cases ho : gOkS xs L
  · go_wp2_with fail
    refine (equalGroup_self A2 A3 _ c2 c3 (spX xs L a true) w6 S3 S4).mono ?_
    rintro e w7 ⟨rfl, hle⟩
    replace L0 := L0.trans hle
    replace S5 := S5.le hle
    replace S6 := S6.le hle
    clear hle
    go_wp2_with fail
    refine (equalGroup_self B2 B3 _ d2 d3 (spX xs L a false) w7 S5 S6).mono ?_
    rintro e w8 ⟨rfl, hle⟩
    replace L0 := L0.trans hle
    clear hle
    go_wp2
    go_ret
    exact ⟨rfl, L0⟩
  go_wp2_with fail
  refine (has_any B m c xs a w6 S).mono ?_
  rintro e w7 ⟨rfl, hle⟩
  replace ct := (hle.cell zt).trans ct
  replace zt := Nat.lt_of_lt_of_le zt hle.size
  replace S := S.le hle
  replace L0 := L0.trans hle
  replace S2 := S2.le hle
  replace S3 := S3.le hle
  replace S5 := S5.le hle
  replace S4 := S4.le hle
  replace S6 := S6.le hle
  clear hle
  cases hh : hasK xs a
  · go_wp2_with fail
    refine (equalGroup_self A2 A3 _ c2 c3 (spX xs L a true) w7 S3 S4).mono ?_
    rintro e w8 ⟨rfl, hle⟩
    replace L0 := L0.trans hle
    replace S5 := S5.le hle
    replace S6 := S6.le hle
    clear hle
    go_wp2_with fail
    refine (equalGroup_self B2 B3 _ d2 d3 (spX xs L a false) w8 S5 S6).mono ?_
    rintro e w9 ⟨rfl, hle⟩
    replace L0 := L0.trans hle
    clear hle
    go_wp2
    go_ret
    exact ⟨rfl, L0⟩
  clear S4 S6
  obtain ⟨h1, h2, h3, h4⟩ := split_facts ho hh
  obtain ⟨hs1, hs2⟩ := split_small ho hh
  have hl0 : 0 < L.length := by obtain ⟨_, _, hp, _⟩ := kids_facts ho; exact hp
  generalize spX xs L a true = M at *
  generalize spX xs L a false = N at *
  by_cases hM : 0 < M.length
  · obtain ⟨hvM, hgM, hdM⟩ := h1 hM
    have hMi : decide ((0 : Int) < M.length) = true := decide_eq_true (by omega)
    have hML : M[0] = L[0] := by rw [← gAt_at hM, hgM, gAt_at hl0]
    have hdd : decide (depX xs L < depX xs M) = false := decide_eq_false (by omega)
    obtain ⟨b5, o5, e5, hb5, r0, r1, r2, r3, -⟩ := S3.prt_at hM
    rw [hML] at r0 r1 r2 r3
    rw [Nat.zero_mul, Nat.add_zero] at r0 r1 r2 r3
    subst e5
    obtain ⟨b6, o6, e6, hb6, q0, q1, q2, q3, -⟩ := S2.prt_at hl0
    rw [Nat.zero_mul, Nat.add_zero] at q0 q1 q2 q3
    subst e6
    have G0 := cell_ext hb5 r0
    have G1 := cell_ext hb5 r1
    have G2 := cell_ext hb5 r2
    have G3 := cell_ext hb5 r3
    have F0 := cell_ext hb6 q0
    have F1 := cell_ext hb6 q1
    have F2 := cell_ext hb6 q2
    have F3 := cell_ext hb6 q3
    have E9 := cell_ext zt ct
    have d0 : (L[0].depth == L[0].depth) = true := by simp
    have d1 : (L[0].group == L[0].group) = true := by simp
    have d2' : (L[0].cls == L[0].cls) = true := by simp
    have d3 : (L[0].code == L[0].code) = true := by simp
    go_wp2_with fail
    refine wp_region_ext (by kernel_rfl) (by kernel_rfl) ?_
    repeat (go_big_quiet_step (first | (go_at_call 14; exact Calls.ext_of (Calls.val (iValid_S B _ m c _ c2 xs M _ (S.le (Le.ext _ _)) (S3.le (Le.ext _ _))) (vb hvM))) | (go_at_call_of 19 (Value.slice (some ⟨b5, o5, none⟩) M.length c2); exact Calls.ext_of (iGroupDepth_any B _ m c _ c2 xs M _ (S.le (Le.ext _ _)) (S3.le (Le.ext _ _)))) | (go_at_call 19; exact Calls.ext_of (iGroupDepth_any B _ m c k d xs L _ (S.le (Le.ext _ _)) (S2.le (Le.ext _ _))))))
    refine wpQuiet_nil ?_
    intro _ hw'
    obtain ⟨gg, rfl⟩ := hw'
    have hw2 := Le.ext w7 gg
    generalize w7.ext gg = V2 at *
    have L1 := L0.trans hw2
    have St := S.le hw2
    have S2t := S2.le hw2
    have S5t := S5.le hw2
    have ctt := (hw2.cell zt).trans ct
    have ztt := Nat.lt_of_lt_of_le zt hw2.size
    clear S S2 S5 L0 ct zt S3
    clear r0 r1 r2 r3 q0 q1 q2 q3 G0 G1 G2 G3 F0 F1 F2 F3 E9 d0 d1 d2' d3
    by_cases hN : 0 < N.length
    · have hhc : hcX xs L a = true := by rw [h4]; exact decide_eq_true hM
      have hws : IntKind.i64.wrap ((M.length : Int) + (N.length : Int)) = (M.length : Int) + N.length := IntWalk.i64_in _ (by omega)
      have hsum : decide ((0 : Int) < (M.length : Int) + N.length) = true := decide_eq_true (by omega)
      obtain ⟨hvN, hgN⟩ := h2 hN
      have hNi : decide ((0 : Int) < N.length) = true := decide_eq_true (by omega)
      have hNz : ((N.length : Int) == 0) = false := by rw [beq_eq_false_iff_ne]; omega
      have hNn : ¬ N.length = 0 := by omega
      have hNL : N[0] = L[0] := by rw [← gAt_at hN, hgN, gAt_at hl0]
      obtain ⟨b5, o5, rfl, hb5, r0, r1, r2, r3, -⟩ := S5t.prt_at hN
      rw [hNL] at r0 r1 r2 r3
      rw [Nat.zero_mul, Nat.add_zero] at r0 r1 r2 r3
      have G0 := cell_ext hb5 r0
      have G1 := cell_ext hb5 r1
      have G2 := cell_ext hb5 r2
      have G3 := cell_ext hb5 r3
      obtain ⟨b7, o7, e7, hb6, q0, q1, q2, q3, -⟩ := S2t.prt_at hl0
      simp only [Option.some.injEq, Addr.mk.injEq] at e7
      obtain ⟨rfl, rfl, _⟩ := e7
      rw [Nat.zero_mul, Nat.add_zero] at q0 q1 q2 q3
      have F0 := cell_ext hb6 q0
      have F1 := cell_ext hb6 q1
      have F2 := cell_ext hb6 q2
      have F3 := cell_ext hb6 q3
      have E9 := cell_ext ztt ctt
      have d0 : (L[0].depth == L[0].depth) = true := by simp
      have d1 : (L[0].group == L[0].group) = true := by simp
      have e2x : (L[0].cls == L[0].cls) = true := by simp
      have d3 : (L[0].code == L[0].code) = true := by simp
      go_wp2_with fail
      refine wp_region_ext (by kernel_rfl) (by kernel_rfl) ?_
      repeat (go_big_quiet_step (first | (go_at_call 14; exact Calls.ext_of (Calls.val (iValid_S B _ m c _ d2 xs N _ (St.le (Le.ext _ _)) (S5t.le (Le.ext _ _))) (vb hvN))) | (go_at_call 20; exact Calls.ext_of (Calls.val (iHasClass_any B _ m c k d xs L a _ (St.le (Le.ext _ _)) (S2t.le (Le.ext _ _))) (vb hhc)))))
      refine wpQuiet_nil ?_
      intro _ hw'
      obtain ⟨gg, rfl⟩ := hw'
      have hw2 := Le.ext V2 gg
      generalize V2.ext gg = V3 at *
      go_wp2
      go_ret
      exact ⟨by first | rfl | simp, L1.trans hw2⟩
    · have hhc : hcX xs L a = true := by rw [h4]; exact decide_eq_true hM
      have hws : IntKind.i64.wrap ((M.length : Int) + (N.length : Int)) = (M.length : Int) + N.length := IntWalk.i64_in _ (by omega)
      have hsum : decide ((0 : Int) < (M.length : Int) + N.length) = true := decide_eq_true (by omega)
      have hNz : ((N.length : Int) == 0) = true := by rw [beq_iff_eq]; omega
      have hNn : N.length = 0 := by omega
      clear hNn
      obtain ⟨b7, o7, e7, hb6, q0, q1, q2, q3, -⟩ := S2t.prt_at hl0
      simp only [Option.some.injEq, Addr.mk.injEq] at e7
      obtain ⟨rfl, rfl, _⟩ := e7
      rw [Nat.zero_mul, Nat.add_zero] at q0 q1 q2 q3
      have F0 := cell_ext hb6 q0
      have F1 := cell_ext hb6 q1
      have F2 := cell_ext hb6 q2
      have F3 := cell_ext hb6 q3
      have E9 := cell_ext ztt ctt
      have d0 : (L[0].depth == L[0].depth) = true := by simp
      have d1 : (L[0].group == L[0].group) = true := by simp
      have e2x : (L[0].cls == L[0].cls) = true := by simp
      have d3 : (L[0].code == L[0].code) = true := by simp
      go_wp2_with fail
      refine wp_region_ext (by kernel_rfl) (by kernel_rfl) ?_
      repeat (go_big_quiet_step (first | (go_at_call 20; exact Calls.ext_of (Calls.val (iHasClass_any B _ m c k d xs L a _ (St.le (Le.ext _ _)) (S2t.le (Le.ext _ _))) (vb hhc)))))
      refine wpQuiet_nil ?_
      intro _ hw'
      obtain ⟨gg, rfl⟩ := hw'
      have hw2 := Le.ext V2 gg
      generalize V2.ext gg = V3 at *
      go_wp2
      go_ret
      exact ⟨by first | rfl | simp, L1.trans hw2⟩
  · have hMi : decide ((0 : Int) < M.length) = false := decide_eq_false (by omega)
    go_wp2_with fail
    refine wp_region_ext (by kernel_rfl) (by kernel_rfl) ?_
    repeat (go_big_quiet_step (fail))
    refine wpQuiet_nil ?_
    intro _ hw'
    obtain ⟨gg, rfl⟩ := hw'
    have hw2 := Le.ext w7 gg
    generalize w7.ext gg = V2 at *
    have L1 := L0.trans hw2
    have St := S.le hw2
    have S2t := S2.le hw2
    have S5t := S5.le hw2
    have ctt := (hw2.cell zt).trans ct
    have ztt := Nat.lt_of_lt_of_le zt hw2.size
    clear S S2 S5 L0 ct zt S3
    have hN : 0 < N.length := by omega
    have hhc : hcX xs L a = false := by rw [h4]; exact decide_eq_false hM
    have hws : IntKind.i64.wrap ((M.length : Int) + (N.length : Int)) = (M.length : Int) + N.length := IntWalk.i64_in _ (by omega)
    have hsum : decide ((0 : Int) < (M.length : Int) + N.length) = true := decide_eq_true (by omega)
    obtain ⟨hvN, hgN⟩ := h2 hN
    have hNi : decide ((0 : Int) < N.length) = true := decide_eq_true (by omega)
    have hNz : ((N.length : Int) == 0) = false := by rw [beq_eq_false_iff_ne]; omega
    have hNn : ¬ N.length = 0 := by omega
    have hNL : N[0] = L[0] := by rw [← gAt_at hN, hgN, gAt_at hl0]
    obtain ⟨b5, o5, rfl, hb5, r0, r1, r2, r3, -⟩ := S5t.prt_at hN
    rw [hNL] at r0 r1 r2 r3
    rw [Nat.zero_mul, Nat.add_zero] at r0 r1 r2 r3
    have G0 := cell_ext hb5 r0
    have G1 := cell_ext hb5 r1
    have G2 := cell_ext hb5 r2
    have G3 := cell_ext hb5 r3
    obtain ⟨b6, o6, rfl, hb6, q0, q1, q2, q3, -⟩ := S2t.prt_at hl0
    rw [Nat.zero_mul, Nat.add_zero] at q0 q1 q2 q3
    have F0 := cell_ext hb6 q0
    have F1 := cell_ext hb6 q1
    have F2 := cell_ext hb6 q2
    have F3 := cell_ext hb6 q3
    have E9 := cell_ext ztt ctt
    have d0 : (L[0].depth == L[0].depth) = true := by simp
    have d1 : (L[0].group == L[0].group) = true := by simp
    have e2x : (L[0].cls == L[0].cls) = true := by simp
    have d3 : (L[0].code == L[0].code) = true := by simp
    go_wp2_with fail
    refine wp_region_ext (by kernel_rfl) (by kernel_rfl) ?_
    repeat (go_big_quiet_step (first | (go_at_call 14; exact Calls.ext_of (Calls.val (iValid_S B _ m c _ d2 xs N _ (St.le (Le.ext _ _)) (S5t.le (Le.ext _ _))) (vb hvN))) | (go_at_call 20; exact Calls.ext_of (Calls.val (iHasClass_any B _ m c k d xs L a _ (St.le (Le.ext _ _)) (S2t.le (Le.ext _ _))) (vb hhc)))))
    refine wpQuiet_nil ?_
    intro _ hw'
    obtain ⟨gg, rfl⟩ := hw'
    have hw2 := Le.ext V2 gg
    generalize V2.ext gg = V3 at *
    go_wp2
    go_ret
    exact ⟨by first | rfl | simp, L1.trans hw2⟩
end Go.Proofs.Ytpkkkpfanedieaa
