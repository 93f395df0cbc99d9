/- the law FnPushExit -/
import Derived.Test.YtonpgohigncjeaaDXfP
import Derived.Test.YtonpgohigncjeaaCx22
import Derived.Test.YtonpgohigncjeaaCx18
import Derived.Test.YtonpgohigncjeaaLXP
namespace Go.Proofs.Ytonpgohigncjeaa
open Go.RowKit
/-- one more exit at the end is done first -/
theorem push_ce {xs : List Cls} {L : List Xit} {y : Xit} (h : vxs xs (L ++ [y]) = true) (h0 : y.kind = 0) : ceL xs (L ++ [y]) false 0 0 = y.a :: ceL xs L false 0 0 ∧ ceE xs (L ++ [y]) false 0 0 = ceE xs L false 0 0 := by
  obtain ⟨p0, p1, -⟩ := ce_yes (xs := xs) (L := L ++ [y]) (has := false) (cl := 0) (k := 0) (ceOk_iff.2 ⟨h, rfl⟩)
  obtain ⟨q0, q1, -⟩ := ce_yes (xs := xs) (L := L) (has := false) (cl := 0) (k := 0) (ceOk_iff.2 ⟨(vxs_app h).1, rfl⟩)
  have e : stS false 0 0 = ([], [], -1) := rfl
  have e2 : clX xs (L ++ [y]) (stS false 0 0) = ([y.a] ++ (clX xs L ([], [], -1)).1, (clX xs L ([], [], -1)).2) := by
    rw [clX_app, e]
    show clX xs L (stX xs y ([], [], -1)) = _
    rw [stX_0 h0]
    exact clX_log xs [y.a] [] [] (-1) L
  rw [p0, p1, q0, q1, e2, e]
  exact ⟨rfl, rfl⟩
theorem intSl_tail {w : World} {b off n cap : Nat} {x : Int} {L : List Int} (h : Sl w (some ⟨b, off, none⟩) (n + 1) cap (x :: L)) : Sl w (some ⟨b, off + 1, none⟩) n (cap - 1) L := by
  have hl := h.len
  have hc := h.cap_
  have hx := h.max
  refine ⟨by simpa using hl, by omega, by omega, fun x hx => h.ok x (List.mem_cons_of_mem _ hx), fun hn => ?_⟩
  obtain ⟨b2, off2, e, hb, hcell⟩ := h.at_ (by omega)
  injection e with e
  injection e with e1 e2
  subst e1; subst e2
  refine ⟨b, off + 1, rfl, hb, fun j u hu => ?_⟩
  have := hcell (j + 1) u (by simpa [Enc.cells] using hu)
  rw [show off + 1 + j = off + (j + 1) by omega]; exact this
set_option maxHeartbeats 4000000 in
set_option maxRecDepth 100000 in
theorem fnPushExit_walk (A : Option Addr) (n cap : Nat) (bs : List By) (w : World) (hR : Sl w A n cap bs) :
    Calls Try.prog 4 #[.slice A n cap] w fun e w' => e = .returned (.bool true) ∧ Le w w' := by
  have hm := hR.n_le
  by_cases hbig : 1048576 < n
  · go_enter Try.func4, Try.ntmps4
    go_wp2
    go_ret
    exact ⟨rfl, Le.refl w⟩
  go_enter Try.func4, Try.ntmps4
  go_wp2_with fail
  refine (drawPushExit_any A n cap bs w hR).mono ?_
  rintro e w1 ⟨B, D, m, c, q, d, xs, L, y, rfl, S, hm8, S2, hq8, hy, L0⟩
  obtain rfl := S2.len
  clear hbig hm hR
  have hsm : L.length ≤ 1048576 := by omega
  obtain ⟨ct, zt, cx0, cx1, cx2, zx0, LB⟩ := boxTX w1 (.slice B m c) (.int .i64 y.kind) (.int .i64 y.a) (.int .i64 y.b) 25 42
  have zx1 := zx0
  have zx2 := zx0
  replace S := S.le LB
  replace L0 := L0.trans LB
  replace S2 := S2.le LB
  clear LB
  go_wp2_with fail
  generalize (w1.alloc (.cells #[.slice B m c] 25)).alloc (.cells #[.int .i64 y.kind, .int .i64 y.a, .int .i64 y.b] 42) = W1 at *
  refine (Calls.jx rfl rfl (iPushExit_any B D m c _ d xs L y hy hsm W1 S S2)).mono ?_
  rintro e w2 ⟨A3, c3, rfl, S3, hle⟩
  replace ct := (hle.cell zt).trans ct
  replace cx0 := (hle.cell zx0).trans cx0
  replace cx1 := (hle.cell zx1).trans cx1
  replace cx2 := (hle.cell zx2).trans cx2
  replace zt := Nat.lt_of_lt_of_le zt hle.size
  replace zx0 := Nat.lt_of_lt_of_le zx0 hle.size
  replace zx1 := Nat.lt_of_lt_of_le zx1 hle.size
  replace zx2 := Nat.lt_of_lt_of_le zx2 hle.size
  replace S := S.le hle
  replace L0 := L0.trans hle
  replace S2 := S2.le hle
  clear hle
  go_wp2_with fail
  refine (Calls.jx rfl rfl (sPushExit_any B D m c _ d xs L y hy hsm w2 S S2)).mono ?_
  rintro e w3 ⟨A4, c4, rfl, S4, hle⟩
  replace ct := (hle.cell zt).trans ct
  replace cx0 := (hle.cell zx0).trans cx0
  replace cx1 := (hle.cell zx1).trans cx1
  replace cx2 := (hle.cell zx2).trans cx2
  replace zt := Nat.lt_of_lt_of_le zt hle.size
  replace zx0 := Nat.lt_of_lt_of_le zx0 hle.size
  replace zx1 := Nat.lt_of_lt_of_le zx1 hle.size
  replace zx2 := Nat.lt_of_lt_of_le zx2 hle.size
  replace S := S.le hle
  replace L0 := L0.trans hle
  replace S2 := S2.le hle
  replace S3 := S3.le hle
  clear hle
  go_wp2_with fail
  refine (equalExits_self _ _ _ _ _ _ _ S3 S4).mono ?_
  rintro e w4 ⟨rfl, hle⟩
  replace ct := (hle.cell zt).trans ct
  replace cx0 := (hle.cell zx0).trans cx0
  replace cx1 := (hle.cell zx1).trans cx1
  replace cx2 := (hle.cell zx2).trans cx2
  replace zt := Nat.lt_of_lt_of_le zt hle.size
  replace zx0 := Nat.lt_of_lt_of_le zx0 hle.size
  replace zx1 := Nat.lt_of_lt_of_le zx1 hle.size
  replace zx2 := Nat.lt_of_lt_of_le zx2 hle.size
  replace S := S.le hle
  replace L0 := L0.trans hle
  replace S2 := S2.le hle
  replace S3 := S3.le hle
  replace S4 := S4.le hle
  clear hle
  cases hv : vxs xs (L ++ [y])
  · go_wp2_with fail
    refine (equalExits_self _ _ _ _ _ _ _ S3 S4).mono ?_
    rintro e w5 ⟨rfl, hle⟩
    replace L0 := L0.trans hle
    clear hle
    go_wp2
    go_ret
    exact ⟨rfl, L0⟩
  have hjx : jxX xs L [y] = L ++ [y] := by unfold jxX; rw [hv]; rfl
  rw [hjx] at S3 ⊢
  clear S4
  have HP : Hid (y.kind = 0 → ceL xs (L ++ [y]) false 0 0 = y.a :: ceL xs L false 0 0 ∧ ceE xs (L ++ [y]) false 0 0 = ceE xs L false 0 0) := push_ce hv
  have ok0 : Enc.ok (0 : Int) := ⟨by omega, by omega⟩
  have hlen : (L ++ [y]).length = L.length + 1 := by simp
  obtain ⟨M, hM⟩ : ∃ M, L ++ [y] = M := ⟨_, rfl⟩
  rw [hM] at S3 HP hlen ⊢
  clear hM hjx hv
  rw [hlen] at S3 ⊢
  go_wp2_with fail
  refine (Calls.ce (iCloseExits_any B D m c _ d xs L false 0 0 ok0 ok0 w4 S S2)).mono ?_
  rintro e w5 ⟨A5, q5, A6, q6, rfl, S5, S6, hle⟩
  replace ct := (hle.cell zt).trans ct
  replace cx0 := (hle.cell zx0).trans cx0
  replace cx1 := (hle.cell zx1).trans cx1
  replace cx2 := (hle.cell zx2).trans cx2
  replace zt := Nat.lt_of_lt_of_le zt hle.size
  replace zx0 := Nat.lt_of_lt_of_le zx0 hle.size
  replace zx1 := Nat.lt_of_lt_of_le zx1 hle.size
  replace zx2 := Nat.lt_of_lt_of_le zx2 hle.size
  replace S := S.le hle
  replace L0 := L0.trans hle
  replace S2 := S2.le hle
  replace S3 := S3.le hle
  obtain ⟨ca0, ca1, ca2, ca3, za0, LR⟩ := boxRr w5 (.slice A5 (ceL xs L false 0 0).length q5) (.int .i64 (ceE xs L false 0 0)) (.int .i64 (ceV xs L false 0 0)) (.slice A6 (ceH xs L false 0 0).length q6) 36
  have za1 := za0
  replace ct := (LR.cell zt).trans ct
  replace cx0 := (LR.cell zx0).trans cx0
  replace cx1 := (LR.cell zx1).trans cx1
  replace cx2 := (LR.cell zx2).trans cx2
  replace zt := Nat.lt_of_lt_of_le zt LR.size
  replace zx0 := Nat.lt_of_lt_of_le zx0 LR.size
  replace zx1 := Nat.lt_of_lt_of_le zx1 LR.size
  replace zx2 := Nat.lt_of_lt_of_le zx2 LR.size
  replace S := S.le LR
  replace L0 := L0.trans LR
  replace S2 := S2.le LR
  replace S3 := S3.le LR
  replace S5 := S5.le LR
  clear LR hle S6
  go_wp2_with fail
  generalize w5.alloc (.cells #[.slice A5 (ceL xs L false 0 0).length q5, .int .i64 (ceE xs L false 0 0), .int .i64 (ceV xs L false 0 0), .slice A6 (ceH xs L false 0 0).length q6] 36) = W5 at *
  by_cases hk : y.kind = 0
  · have hkb : (y.kind != 0) = false := by simpa using hk
    obtain ⟨p1, p2⟩ := HP.out hk
    have HC := Calls.ce (iCloseExits_any B A3 m c _ c3 xs M false 0 0 ok0 ok0 W5 S S3)
    rw [p1, p2, List.length_cons] at HC
    refine HC.mono ?_
    rintro e w6 ⟨A7, q7, A8, q8, rfl, S7, S8, hle⟩
    replace ct := (hle.cell zt).trans ct
    replace cx0 := (hle.cell zx0).trans cx0
    replace cx1 := (hle.cell zx1).trans cx1
    replace cx2 := (hle.cell zx2).trans cx2
    replace ca0 := (hle.cell za0).trans ca0
    replace ca1 := (hle.cell za1).trans ca1
    replace zt := Nat.lt_of_lt_of_le zt hle.size
    replace zx0 := Nat.lt_of_lt_of_le zx0 hle.size
    replace zx1 := Nat.lt_of_lt_of_le zx1 hle.size
    replace zx2 := Nat.lt_of_lt_of_le zx2 hle.size
    replace za0 := Nat.lt_of_lt_of_le za0 hle.size
    replace za1 := Nat.lt_of_lt_of_le za1 hle.size
    replace S := S.le hle
    replace L0 := L0.trans hle
    replace S2 := S2.le hle
    replace S3 := S3.le hle
    replace S5 := S5.le hle
    obtain ⟨cb0, cb1, cb2, cb3, zb0, LR⟩ := boxRr w6 (.slice A7 ((ceL xs L false 0 0).length + 1) q7) (.int .i64 (ceE xs L false 0 0)) (.int .i64 (ceV xs M false 0 0)) (.slice A8 (ceH xs M false 0 0).length q8) 36
    have zb1 := zb0
    replace ct := (LR.cell zt).trans ct
    replace cx0 := (LR.cell zx0).trans cx0
    replace cx1 := (LR.cell zx1).trans cx1
    replace cx2 := (LR.cell zx2).trans cx2
    replace ca0 := (LR.cell za0).trans ca0
    replace ca1 := (LR.cell za1).trans ca1
    replace zt := Nat.lt_of_lt_of_le zt LR.size
    replace zx0 := Nat.lt_of_lt_of_le zx0 LR.size
    replace zx1 := Nat.lt_of_lt_of_le zx1 LR.size
    replace zx2 := Nat.lt_of_lt_of_le zx2 LR.size
    replace za0 := Nat.lt_of_lt_of_le za0 LR.size
    replace za1 := Nat.lt_of_lt_of_le za1 LR.size
    replace S := S.le LR
    replace L0 := L0.trans LR
    replace S2 := S2.le LR
    replace S3 := S3.le LR
    replace S5 := S5.le LR
    replace S7 := S7.le LR
    clear LR hle S8
    clear p1 p2 HP hk S3 S2 S
    generalize ceL xs L false 0 0 = lg at *
    generalize ceE xs L false 0 0 = en at *
    generalize ceV xs M false 0 0 = va at *
    generalize (ceH xs M false 0 0).length = n8 at *
    go_wp2_with fail
    generalize w6.alloc (.cells #[.slice A7 (lg.length + 1) q7, .int .i64 en, .int .i64 va, .slice A8 n8 q8] 36) = W6 at *
    clear HC
    have hl5 := S7.n_le
    have hc7 := S7.cap_
    obtain ⟨bb, off, rfl, hbb, d0, -, -⟩ := S7.int_at (k := 0) (by simp)
    replace d0 : W6.cell? ⟨bb, off, none⟩ = some (.int .i64 y.a) := by simpa using d0
    generalize hln : lg.length = ln at *
    have Ea0 := cell_ext za0 ca0
    have Ea1 := cell_ext za1 ca1
    have Eb0 := cell_ext zb0 cb0
    have Eb1 := cell_ext zb1 cb1
    have Ex1 := cell_ext zx1 cx1
    have Ed := cell_ext hbb d0
    have hw1 : IntKind.i64.wrap ((ln : Int) + 1) = (ln : Int) + 1 := IntWalk.i64_in _ (by omega)
    have hq0 : ((ln : Int) + 1 == (ln : Int) + 1) = true := by simp
    have hq1 : (((ln + 1 : Nat) : Int) == (ln : Int) + 1) = true := by simp
    have hya : (y.a == y.a) = true := by simp
    have hee : (en == en) = true := by simp
    have h01 : (0 : Int) < (ln : Int) + 1 := by omega
    have h1l : (1 : Int) ≤ (ln : Int) + 1 := by omega
    have h1c : (ln : Int) + 1 ≤ (q7 : Int) := by omega
    have h1q : (1 : Int) ≤ (q7 : Int) := by omega
    by_cases hc : q7 = 1
    · subst hc
      obtain rfl : ln = 0 := by omega
      have ST : Sl W6 (some ⟨bb, off, none⟩) 0 0 lg := by rw [List.length_eq_zero_iff.1 hln]; exact Sl.nil _ _ _ (by omega)
      clear hln
      have hv2 : ∀ (g : Ext W6) (_ : True), Calls Try.prog 19 #[.slice (some ⟨bb, off, none⟩) 0 0, .slice A5 0 q5] (W6.ext g) fun e w' => e = .returned (.bool true) ∧ Le (W6.ext g) w' := fun g _ => equalInts_self _ _ _ _ _ lg _ (ST.le (Le.ext W6 g)) (S5.le (Le.ext W6 g))
      generalize y.a = va1 at *
      clear S7 ST hl5 hc7
      refine wp_region_ext (by kernel_rfl) (by kernel_rfl) ?_
      repeat (go_big_quiet_step (first | (go_at_call 19; with_reducible exact Calls.ext_of (hv2 _ trivial))))
      refine wpQuiet_nil ?_
      intro _ hw'
      obtain ⟨gg, rfl⟩ := hw'
      replace L0 := L0.trans (Le.ext W6 gg)
      go_wp2
      go_ret
      exact ⟨rfl, L0⟩
    · have ST := intSl_tail S7
      have hv2 : ∀ (g : Ext W6) (_ : True), Calls Try.prog 19 #[.slice (some ⟨bb, off + 1, none⟩) ln (q7 - 1), .slice A5 ln q5] (W6.ext g) fun e w' => e = .returned (.bool true) ∧ Le (W6.ext g) w' := fun g _ => equalInts_self _ _ _ _ _ lg _ (ST.le (Le.ext W6 g)) (S5.le (Le.ext W6 g))
      generalize y.a = va1 at *
      clear S7 ST hl5 hc7
      refine wp_region_ext (by kernel_rfl) (by kernel_rfl) ?_
      repeat (go_big_quiet_step (first | (go_at_call 19; with_reducible exact Calls.ext_of (hv2 _ trivial))))
      refine wpQuiet_nil ?_
      intro _ hw'
      obtain ⟨gg, rfl⟩ := hw'
      replace L0 := L0.trans (Le.ext W6 gg)
      go_wp2
      go_ret
      exact ⟨rfl, L0⟩
  · have hkb : (y.kind != 0) = true := by simpa using hk
    refine (Calls.ce (iCloseExits_any B A3 m c _ c3 xs M false 0 0 ok0 ok0 W5 S S3)).mono ?_
    rintro e w6 ⟨A7, q7, A8, q8, rfl, S7, S8, hle⟩
    replace ct := (hle.cell zt).trans ct
    replace cx0 := (hle.cell zx0).trans cx0
    replace cx1 := (hle.cell zx1).trans cx1
    replace cx2 := (hle.cell zx2).trans cx2
    replace ca0 := (hle.cell za0).trans ca0
    replace ca1 := (hle.cell za1).trans ca1
    replace zt := Nat.lt_of_lt_of_le zt hle.size
    replace zx0 := Nat.lt_of_lt_of_le zx0 hle.size
    replace zx1 := Nat.lt_of_lt_of_le zx1 hle.size
    replace zx2 := Nat.lt_of_lt_of_le zx2 hle.size
    replace za0 := Nat.lt_of_lt_of_le za0 hle.size
    replace za1 := Nat.lt_of_lt_of_le za1 hle.size
    replace S := S.le hle
    replace L0 := L0.trans hle
    replace S2 := S2.le hle
    replace S3 := S3.le hle
    replace S5 := S5.le hle
    obtain ⟨cb0, cb1, cb2, cb3, zb0, LR⟩ := boxRr w6 (.slice A7 (ceL xs M false 0 0).length q7) (.int .i64 (ceE xs M false 0 0)) (.int .i64 (ceV xs M false 0 0)) (.slice A8 (ceH xs M false 0 0).length q8) 36
    have zb1 := zb0
    replace ct := (LR.cell zt).trans ct
    replace cx0 := (LR.cell zx0).trans cx0
    replace cx1 := (LR.cell zx1).trans cx1
    replace cx2 := (LR.cell zx2).trans cx2
    replace ca0 := (LR.cell za0).trans ca0
    replace ca1 := (LR.cell za1).trans ca1
    replace zt := Nat.lt_of_lt_of_le zt LR.size
    replace zx0 := Nat.lt_of_lt_of_le zx0 LR.size
    replace zx1 := Nat.lt_of_lt_of_le zx1 LR.size
    replace zx2 := Nat.lt_of_lt_of_le zx2 LR.size
    replace za0 := Nat.lt_of_lt_of_le za0 LR.size
    replace za1 := Nat.lt_of_lt_of_le za1 LR.size
    replace S := S.le LR
    replace L0 := L0.trans LR
    replace S2 := S2.le LR
    replace S3 := S3.le LR
    replace S5 := S5.le LR
    replace S7 := S7.le LR
    clear LR hle S8
    have hl1 : ((L.length : Int) + 1 == (L.length : Int) + 1) = true := by simp
    clear S3 S7 S5 hk
    go_wp2
    go_ret
    exact ⟨rfl, L0⟩
end Go.Proofs.Ytonpgohigncjeaa
