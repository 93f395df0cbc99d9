/- the law FnCloseExitsCalls -/
import Derived.Test.YtonpgohigncjeaaCx20
namespace Go.Proofs.Ytonpgohigncjeaa
open Go.RowKit
theorem Calls.ce2 {f : FuncId} {args : Array Value} {w : World} {lg M : List Int} {hs : List Flt} {en va : Int} (e : lg = M) (h : Calls Try.prog f args w (CeOut w lg hs en va)) :
    Calls Try.prog f args w fun e w' => ∃ A0 q0 A1 q1, e = .returned (.agg #[.slice A0 M.length q0, .int .i64 en, .int .i64 va, .slice A1 hs.length q1]) ∧ Sl w' A0 M.length q0 M ∧ Le w w' := by
  subst e
  refine (Calls.ce h).mono ?_
  rintro e w' ⟨A0, q0, A1, q1, rfl, S0, _, hle⟩
  exact ⟨A0, q0, A1, q1, rfl, S0, hle⟩
/-- what calls alone tell, and how much is told -/
theorem calls_ce {xs : List Cls} {L : List Xit} {has : Bool} {cl k : Int} (h : vxs xs L = true) (hc : csv xs has cl k = true) : ceL xs (c0L L) has cl k = ((c0L L).map (·.a)).reverse ∧ (c0L L).length ≤ (ceL xs L has cl k).length ∧ (ceL xs L has cl k).length ≤ c1N L := by
  obtain ⟨q0, -⟩ := ce_yes (ceOk_iff.2 ⟨h, hc⟩)
  obtain ⟨p0, -⟩ := ce_yes (ceOk_iff.2 ⟨c0L_sub h, hc⟩)
  obtain ⟨i1, i2⟩ := calls_bnd (stS has cl k) L (vxs_iff.1 h).2.2
  have e : (stS has cl k).1 = [] := by cases has <;> rfl
  rw [q0, p0, calls_all xs _ _ c0L_kind, c0L_len]
  rw [e] at i1 i2 ⊢
  exact ⟨by simp, by simpa using i1, by simpa using i2⟩
theorem info_xitC : (Try.prog.info? 42).map (fun i => (i.zero, i.size, i.bytes)) = some (some (.agg #[.int .i64 0, .int .i64 0, .int .i64 0]), 3, 24) := by kernel_rfl
set_option maxHeartbeats 8000000 in
set_option maxRecDepth 100000 in
theorem fnCloseExitsCalls_walk (A : Option Addr) (n cap : Nat) (bs : List By) (w : World) (hR : Sl w A n cap bs) :
    Calls Try.prog 3 #[.slice A n cap] w fun e w' => e = .returned (.bool true) ∧ Le w w' := by
  have hm := hR.n_le
  by_cases hbig : 1048576 < n
  · go_enter Try.func3, Try.ntmps3
    go_wp2
    go_ret
    exact ⟨rfl, Le.refl w⟩
  go_enter Try.func3, Try.ntmps3
  go_wp2_with fail
  refine (drawCloseExits_any A n cap bs w hR).mono ?_
  rintro e w1 ⟨B, D, m, c, q, d, xs, L, has, cl, k, rfl, S, hm8, S2, hq8, hb, L0⟩
  obtain rfl := S2.len
  clear hbig hm hR
  have hcl : Enc.ok cl := ⟨by omega, by omega⟩
  have hkk : Enc.ok k := ⟨by omega, by omega⟩
  obtain ⟨ct, zt, cx0, cx1, cx2, zx0, LB⟩ := boxTX w1 (.slice B m c) (.bool has) (.int .i64 cl) (.int .i64 k) 25 28
  have zx1 := zx0
  have zx2 := zx0
  replace S := S.le LB
  replace L0 := L0.trans LB
  replace S2 := S2.le LB
  clear LB
  go_wp2_with fail
  generalize (w1.alloc (.cells #[.slice B m c] 25)).alloc (.cells #[.bool has, .int .i64 cl, .int .i64 k] 28) = W1 at *
  refine (Calls.ce (iCloseExits_any B D m c _ d xs L has cl k hcl hkk W1 S S2)).mono ?_
  rintro e w3 ⟨A0, q0, A1, q1, rfl, S3, S4, hle⟩
  replace ct := (hle.cell zt).trans ct
  replace cx0 := (hle.cell zx0).trans cx0
  replace cx1 := (hle.cell zx1).trans cx1
  replace cx2 := (hle.cell zx2).trans cx2
  replace zt := Nat.lt_of_lt_of_le zt hle.size
  replace zx0 := Nat.lt_of_lt_of_le zx0 hle.size
  replace zx1 := Nat.lt_of_lt_of_le zx1 hle.size
  replace zx2 := Nat.lt_of_lt_of_le zx2 hle.size
  replace S := S.le hle
  replace L0 := L0.trans hle
  replace S2 := S2.le hle
  clear hle
  obtain ⟨cr0, cr1, cr2, cr3, zr0, LB⟩ := boxRr w3 (.slice A0 (ceL xs L has cl k).length q0) (.int .i64 (ceE xs L has cl k)) (.int .i64 (ceV xs L has cl k)) (.slice A1 (ceH xs L has cl k).length q1) 36
  have zr1 := zr0
  have zr2 := zr0
  have zr3 := zr0
  replace ct := (LB.cell zt).trans ct
  replace cx0 := (LB.cell zx0).trans cx0
  replace cx1 := (LB.cell zx1).trans cx1
  replace cx2 := (LB.cell zx2).trans cx2
  replace zt := Nat.lt_of_lt_of_le zt LB.size
  replace zx0 := Nat.lt_of_lt_of_le zx0 LB.size
  replace zx1 := Nat.lt_of_lt_of_le zx1 LB.size
  replace zx2 := Nat.lt_of_lt_of_le zx2 LB.size
  replace S := S.le LB
  replace L0 := L0.trans LB
  replace S2 := S2.le LB
  replace S3 := S3.le LB
  replace S4 := S4.le LB
  clear LB
  go_wp2_with fail
  generalize w3.alloc (.cells #[.slice A0 (ceL xs L has cl k).length q0, .int .i64 (ceE xs L has cl k), .int .i64 (ceV xs L has cl k), .slice A1 (ceH xs L has cl k).length q1] 36) = W3 at *
  cases hv : vxs xs L
  · skip
    replace ct := (show W3.drew.cell? _ = _ from ct)
    replace zt := (show _ < W3.drew.heap.size from zt)
    replace cx0 := (show W3.drew.cell? _ = _ from cx0)
    replace zx0 := (show _ < W3.drew.heap.size from zx0)
    replace cx1 := (show W3.drew.cell? _ = _ from cx1)
    replace zx1 := (show _ < W3.drew.heap.size from zx1)
    replace cx2 := (show W3.drew.cell? _ = _ from cx2)
    replace zx2 := (show _ < W3.drew.heap.size from zx2)
    replace cr0 := (show W3.drew.cell? _ = _ from cr0)
    replace zr0 := (show _ < W3.drew.heap.size from zr0)
    replace cr1 := (show W3.drew.cell? _ = _ from cr1)
    replace zr1 := (show _ < W3.drew.heap.size from zr1)
    replace cr2 := (show W3.drew.cell? _ = _ from cr2)
    replace zr2 := (show _ < W3.drew.heap.size from zr2)
    replace cr3 := (show W3.drew.cell? _ = _ from cr3)
    replace zr3 := (show _ < W3.drew.heap.size from zr3)
    replace S := S.le (Le.refl _).drew
    replace L0 := L0.drew
    replace S2 := S2.le (Le.refl _).drew
    replace S3 := S3.le (Le.refl _).drew
    replace S4 := S4.le (Le.refl _).drew
    refine wp_region_noPanic ?_
    refine wp_region_Z (fun w' => w'.cell? ⟨w1.heap.size, 0, none⟩ = some (.slice B m c) ∧ w'.cell? ⟨w1.heap.size + 1, 0, none⟩ = some (.bool has) ∧ w'.cell? ⟨w1.heap.size + 1, 1, none⟩ = some (.int .i64 cl) ∧ w'.cell? ⟨w1.heap.size + 1, 2, none⟩ = some (.int .i64 k) ∧ w'.cell? ⟨w3.heap.size, 0, none⟩ = some (.slice A0 (ceL xs L has cl k).length q0) ∧ w'.cell? ⟨w3.heap.size, 1, none⟩ = some (.int .i64 (ceE xs L has cl k)) ∧ w'.cell? ⟨w3.heap.size, 2, none⟩ = some (.int .i64 (ceV xs L has cl k)) ∧ w'.cell? ⟨w3.heap.size, 3, none⟩ = some (.slice A1 (ceH xs L has cl k).length q1)) [] (by kernel_rfl) ?_
    generalize W3.drew = U at *
    refine wpAnyZ_take (i := 0) (v := ?_) rfl (by kernel_rfl) (fun _ _ _ h => h) (Or.inl ⟨by rfl, ?_⟩) (⟨ct, cx0, cx1, cx2, cr0, cr1, cr2, cr3⟩) ?_
    rotate_left 1
    · (intro w hSw; (try dsimp only at hSw); go_simp; try with_reducible rfl)
    try simp only [Act.put, List.setIfInBounds_toArray, List.set_cons_zero, List.set_cons_succ]
    refine wpAnyZ_take (i := 1) (v := ?_) rfl (by kernel_rfl) (fun _ _ _ h => h) (Or.inl ⟨by rfl, ?_⟩) (⟨ct, cx0, cx1, cx2, cr0, cr1, cr2, cr3⟩) ?_
    rotate_left 1
    · (intro w hSw; (try dsimp only at hSw); go_simp; try with_reducible rfl)
    try simp only [Act.put, List.setIfInBounds_toArray, List.set_cons_zero, List.set_cons_succ]
    refine wpAnyZ_take (i := 2) (v := ?_) rfl (by kernel_rfl) (fun _ _ _ h => h) (Or.inl ⟨by rfl, ?_⟩) (⟨ct, cx0, cx1, cx2, cr0, cr1, cr2, cr3⟩) ?_
    rotate_left 1
    · (intro w hSw; (try dsimp only at hSw); go_simp; try with_reducible rfl)
    try simp only [Act.put, List.setIfInBounds_toArray, List.set_cons_zero, List.set_cons_succ]
    refine wpAnyZ_take (i := 3) (v := ?_) rfl (by kernel_rfl) (fun _ _ _ h => h) (Or.inl ⟨by rfl, ?_⟩) (⟨ct, cx0, cx1, cx2, cr0, cr1, cr2, cr3⟩) ?_
    rotate_left 1
    · (intro w hSw; (try dsimp only at hSw); go_simp; try with_reducible rfl)
    try simp only [Act.put, List.setIfInBounds_toArray, List.set_cons_zero, List.set_cons_succ]
    refine wpAnyZ_one (i := 4) (by kernel_rfl) (ReadyZ.mk rfl (fun K hK => ?_))
    go_simp
    go_at_call 12
    refine (Calls.ce (sCloseExits_any B D m c _ d xs L has cl k hcl hkk _ S S2)).mono ?_
    rintro e u1 ⟨A2, q2, A3, q3, rfl, S5, S6, hle⟩
    replace ct := (hle.cell zt).trans ct
    replace cx0 := (hle.cell zx0).trans cx0
    replace cx1 := (hle.cell zx1).trans cx1
    replace cx2 := (hle.cell zx2).trans cx2
    replace cr0 := (hle.cell zr0).trans cr0
    replace cr1 := (hle.cell zr1).trans cr1
    replace cr2 := (hle.cell zr2).trans cr2
    replace cr3 := (hle.cell zr3).trans cr3
    replace zt := Nat.lt_of_lt_of_le zt hle.size
    replace zx0 := Nat.lt_of_lt_of_le zx0 hle.size
    replace zx1 := Nat.lt_of_lt_of_le zx1 hle.size
    replace zx2 := Nat.lt_of_lt_of_le zx2 hle.size
    replace zr0 := Nat.lt_of_lt_of_le zr0 hle.size
    replace zr1 := Nat.lt_of_lt_of_le zr1 hle.size
    replace zr2 := Nat.lt_of_lt_of_le zr2 hle.size
    replace zr3 := Nat.lt_of_lt_of_le zr3 hle.size
    replace S := S.le hle
    replace L0 := L0.trans hle
    replace S2 := S2.le hle
    replace S3 := S3.le hle
    replace S4 := S4.le hle
    clear hle
    refine hK.out _ _ (fun _ => ⟨ct, cx0, cx1, cx2, cr0, cr1, cr2, cr3⟩) ?_
    clear hK K
    try simp only [Act.put, List.setIfInBounds_toArray, List.set_cons_zero, List.set_cons_succ]
    refine wpAnyZ_one (i := 5) (by kernel_rfl) (ReadyZ.mk rfl (fun K hK => ?_))
    go_simp
    go_at_call 11
    refine (equalResult_self _ _ _ _ _ _ _ _ _ _ (ceL xs L has cl k) (ceH xs L has cl k) _ _ _ S3 S5 S4 S6).mono ?_
    rintro e u2 ⟨rfl, hle⟩
    replace ct := (hle.cell zt).trans ct
    replace cx0 := (hle.cell zx0).trans cx0
    replace cx1 := (hle.cell zx1).trans cx1
    replace cx2 := (hle.cell zx2).trans cx2
    replace cr0 := (hle.cell zr0).trans cr0
    replace cr1 := (hle.cell zr1).trans cr1
    replace cr2 := (hle.cell zr2).trans cr2
    replace cr3 := (hle.cell zr3).trans cr3
    replace zt := Nat.lt_of_lt_of_le zt hle.size
    replace zx0 := Nat.lt_of_lt_of_le zx0 hle.size
    replace zx1 := Nat.lt_of_lt_of_le zx1 hle.size
    replace zx2 := Nat.lt_of_lt_of_le zx2 hle.size
    replace zr0 := Nat.lt_of_lt_of_le zr0 hle.size
    replace zr1 := Nat.lt_of_lt_of_le zr1 hle.size
    replace zr2 := Nat.lt_of_lt_of_le zr2 hle.size
    replace zr3 := Nat.lt_of_lt_of_le zr3 hle.size
    replace S := S.le hle
    replace L0 := L0.trans hle
    replace S2 := S2.le hle
    replace S3 := S3.le hle
    replace S4 := S4.le hle
    clear hle S5 S6
    refine hK.out _ _ (fun _ => ⟨ct, cx0, cx1, cx2, cr0, cr1, cr2, cr3⟩) ?_
    clear hK K
    try simp only [Act.put, List.setIfInBounds_toArray, List.set_cons_zero, List.set_cons_succ]
    refine wpAnyZ_take (i := 6) (v := ?_) rfl (by kernel_rfl) (fun _ _ _ h => h) (Or.inl ⟨by rfl, ?_⟩) (⟨ct, cx0, cx1, cx2, cr0, cr1, cr2, cr3⟩) ?_
    rotate_left 1
    · (intro w hSw; (try dsimp only at hSw); go_simp; try with_reducible rfl)
    try simp only [Act.put, List.setIfInBounds_toArray, List.set_cons_zero, List.set_cons_succ]
    refine wpAnyZ_take (i := 7) (v := ?_) rfl (by kernel_rfl) (fun _ _ _ h => h) (Or.inl ⟨by rfl, ?_⟩) (⟨ct, cx0, cx1, cx2, cr0, cr1, cr2, cr3⟩) ?_
    rotate_left 1
    · (intro w hSw; (try dsimp only at hSw); go_simp; try with_reducible rfl)
    try simp only [Act.put, List.setIfInBounds_toArray, List.set_cons_zero, List.set_cons_succ]
    refine wpAnyZ_take (i := 8) (v := ?_) rfl (by kernel_rfl) (fun _ _ _ h => h) (Or.inl ⟨by rfl, ?_⟩) (⟨ct, cx0, cx1, cx2, cr0, cr1, cr2, cr3⟩) ?_
    rotate_left 1
    · (intro w hSw; (try dsimp only at hSw); go_simp; try with_reducible rfl)
    try simp only [Act.put, List.setIfInBounds_toArray, List.set_cons_zero, List.set_cons_succ]
    refine wpAnyZ_take (i := 9) (v := ?_) rfl (by kernel_rfl) (fun _ _ _ h => h) (Or.inl ⟨by rfl, ?_⟩) (⟨ct, cx0, cx1, cx2, cr0, cr1, cr2, cr3⟩) ?_
    rotate_left 1
    · (intro w hSw; (try dsimp only at hSw); go_simp; try with_reducible rfl)
    try simp only [Act.put, List.setIfInBounds_toArray, List.set_cons_zero, List.set_cons_succ]
    refine wpAnyZ_one (i := 10) (by kernel_rfl) (ReadyZ.mk rfl (fun K hK => ?_))
    go_simp
    go_at_call 13
    refine (Calls.val (iValidExits_any B D m c _ d xs L _ S S2) (by rw [hv])).mono ?_
    rintro e u3 ⟨rfl, hle⟩
    replace ct := (hle.cell zt).trans ct
    replace cx0 := (hle.cell zx0).trans cx0
    replace cx1 := (hle.cell zx1).trans cx1
    replace cx2 := (hle.cell zx2).trans cx2
    replace cr0 := (hle.cell zr0).trans cr0
    replace cr1 := (hle.cell zr1).trans cr1
    replace cr2 := (hle.cell zr2).trans cr2
    replace cr3 := (hle.cell zr3).trans cr3
    replace zt := Nat.lt_of_lt_of_le zt hle.size
    replace zx0 := Nat.lt_of_lt_of_le zx0 hle.size
    replace zx1 := Nat.lt_of_lt_of_le zx1 hle.size
    replace zx2 := Nat.lt_of_lt_of_le zx2 hle.size
    replace zr0 := Nat.lt_of_lt_of_le zr0 hle.size
    replace zr1 := Nat.lt_of_lt_of_le zr1 hle.size
    replace zr2 := Nat.lt_of_lt_of_le zr2 hle.size
    replace zr3 := Nat.lt_of_lt_of_le zr3 hle.size
    replace S := S.le hle
    replace L0 := L0.trans hle
    replace S2 := S2.le hle
    replace S3 := S3.le hle
    replace S4 := S4.le hle
    clear hle
    refine hK.out _ _ (fun _ => ⟨ct, cx0, cx1, cx2, cr0, cr1, cr2, cr3⟩) ?_
    clear hK K
    try simp only [Act.put, List.setIfInBounds_toArray, List.set_cons_zero, List.set_cons_succ]
    refine wpAnyZ_take (i := 11) (v := ?_) rfl (by kernel_rfl) (fun _ _ _ h => h) (Or.inl ⟨by rfl, ?_⟩) (⟨ct, cx0, cx1, cx2, cr0, cr1, cr2, cr3⟩) ?_
    rotate_left 1
    · (intro w hSw; (try dsimp only at hSw); go_simp; try with_reducible rfl)
    try simp only [Act.put, List.setIfInBounds_toArray, List.set_cons_zero, List.set_cons_succ]
    refine wpAnyZ_take (i := 12) (v := ?_) rfl (by kernel_rfl) (fun _ _ _ h => h) (Or.inl ⟨by rfl, ?_⟩) (⟨ct, cx0, cx1, cx2, cr0, cr1, cr2, cr3⟩) ?_
    rotate_left 1
    · (intro w hSw; (try dsimp only at hSw); go_simp; try with_reducible rfl)
    try simp only [Act.put, List.setIfInBounds_toArray, List.set_cons_zero, List.set_cons_succ]
    refine wpAnyZ_take (i := 13) (v := ?_) rfl (by kernel_rfl) (fun _ _ _ h => h) (Or.inl ⟨by rfl, ?_⟩) (⟨ct, cx0, cx1, cx2, cr0, cr1, cr2, cr3⟩) ?_
    rotate_left 1
    · (intro w hSw; (try dsimp only at hSw); go_simp; try with_reducible rfl)
    try simp only [Act.put, List.setIfInBounds_toArray, List.set_cons_zero, List.set_cons_succ]
    refine wpAnyZ_take (i := 14) (v := undef) rfl (by kernel_rfl) (fun _ _ _ h => h) (Or.inr ⟨?_, rfl⟩) (⟨ct, cx0, cx1, cx2, cr0, cr1, cr2, cr3⟩) ?_
    · rfl
    try simp only [Act.put, List.setIfInBounds_toArray, List.set_cons_zero, List.set_cons_succ]
    refine wpAnyZ_take (i := 15) (v := undef) rfl (by kernel_rfl) (fun _ _ _ h => h) (Or.inr ⟨?_, rfl⟩) (⟨ct, cx0, cx1, cx2, cr0, cr1, cr2, cr3⟩) ?_
    · rfl
    try simp only [Act.put, List.setIfInBounds_toArray, List.set_cons_zero, List.set_cons_succ]
    refine wpAnyZ_take (i := 16) (v := undef) rfl (by kernel_rfl) (fun _ _ _ h => h) (Or.inr ⟨?_, rfl⟩) (⟨ct, cx0, cx1, cx2, cr0, cr1, cr2, cr3⟩) ?_
    · rfl
    try simp only [Act.put, List.setIfInBounds_toArray, List.set_cons_zero, List.set_cons_succ]
    refine wpAnyZ_take (i := 17) (v := undef) rfl (by kernel_rfl) (fun _ _ _ h => h) (Or.inr ⟨?_, rfl⟩) (⟨ct, cx0, cx1, cx2, cr0, cr1, cr2, cr3⟩) ?_
    · rfl
    try simp only [Act.put, List.setIfInBounds_toArray, List.set_cons_zero, List.set_cons_succ]
    refine wpAnyZ_take (i := 18) (v := undef) rfl (by kernel_rfl) (fun _ _ _ h => h) (Or.inr ⟨?_, rfl⟩) (⟨ct, cx0, cx1, cx2, cr0, cr1, cr2, cr3⟩) ?_
    · rfl
    try simp only [Act.put, List.setIfInBounds_toArray, List.set_cons_zero, List.set_cons_succ]
    refine wpAnyZ_take (i := 19) (v := undef) rfl (by kernel_rfl) (fun _ _ _ h => h) (Or.inr ⟨?_, rfl⟩) (⟨ct, cx0, cx1, cx2, cr0, cr1, cr2, cr3⟩) ?_
    · rfl
    try simp only [Act.put, List.setIfInBounds_toArray, List.set_cons_zero, List.set_cons_succ]
    refine wpAnyZ_take (i := 20) (v := undef) rfl (by kernel_rfl) (fun _ _ _ h => h) (Or.inr ⟨?_, rfl⟩) (⟨ct, cx0, cx1, cx2, cr0, cr1, cr2, cr3⟩) ?_
    · rfl
    try simp only [Act.put, List.setIfInBounds_toArray, List.set_cons_zero, List.set_cons_succ]
    refine wpAnyZ_take (i := 21) (v := undef) rfl (by kernel_rfl) (fun _ _ _ h => h) (Or.inr ⟨?_, rfl⟩) (⟨ct, cx0, cx1, cx2, cr0, cr1, cr2, cr3⟩) ?_
    · rfl
    try simp only [Act.put, List.setIfInBounds_toArray, List.set_cons_zero, List.set_cons_succ]
    refine wpAnyZ_take (i := 22) (v := undef) rfl (by kernel_rfl) (fun _ _ _ h => h) (Or.inr ⟨?_, rfl⟩) (⟨ct, cx0, cx1, cx2, cr0, cr1, cr2, cr3⟩) ?_
    · rfl
    try simp only [Act.put, List.setIfInBounds_toArray, List.set_cons_zero, List.set_cons_succ]
    refine wpAnyZ_take (i := 23) (v := ?_) rfl (by kernel_rfl) (fun _ _ _ h => h) (Or.inl ⟨by rfl, ?_⟩) (⟨ct, cx0, cx1, cx2, cr0, cr1, cr2, cr3⟩) ?_
    rotate_left 1
    · (intro w hSw; (try dsimp only at hSw); go_simp; try with_reducible rfl)
    try simp only [Act.put, List.setIfInBounds_toArray, List.set_cons_zero, List.set_cons_succ]
    refine wpAnyZ_take (i := 24) (v := ?_) rfl (by kernel_rfl) (fun _ _ _ h => h) (Or.inl ⟨by rfl, ?_⟩) (⟨ct, cx0, cx1, cx2, cr0, cr1, cr2, cr3⟩) ?_
    rotate_left 1
    · (intro w hSw; (try dsimp only at hSw); go_simp; try with_reducible rfl)
    try simp only [Act.put, List.setIfInBounds_toArray, List.set_cons_zero, List.set_cons_succ]
    refine wpAnyZ_take (i := 25) (v := undef) rfl (by kernel_rfl) (fun _ _ _ h => h) (Or.inr ⟨?_, rfl⟩) (⟨ct, cx0, cx1, cx2, cr0, cr1, cr2, cr3⟩) ?_
    · rfl
    try simp only [Act.put, List.setIfInBounds_toArray, List.set_cons_zero, List.set_cons_succ]
    refine wpAnyZ_take (i := 26) (v := undef) rfl (by kernel_rfl) (fun _ _ _ h => h) (Or.inr ⟨?_, rfl⟩) (⟨ct, cx0, cx1, cx2, cr0, cr1, cr2, cr3⟩) ?_
    · rfl
    try simp only [Act.put, List.setIfInBounds_toArray, List.set_cons_zero, List.set_cons_succ]
    refine wpAnyZ_take (i := 27) (v := undef) rfl (by kernel_rfl) (fun _ _ _ h => h) (Or.inr ⟨?_, rfl⟩) (⟨ct, cx0, cx1, cx2, cr0, cr1, cr2, cr3⟩) ?_
    · rfl
    try simp only [Act.put, List.setIfInBounds_toArray, List.set_cons_zero, List.set_cons_succ]
    refine wpAnyZ_take (i := 28) (v := undef) rfl (by kernel_rfl) (fun _ _ _ h => h) (Or.inr ⟨?_, rfl⟩) (⟨ct, cx0, cx1, cx2, cr0, cr1, cr2, cr3⟩) ?_
    · rfl
    try simp only [Act.put, List.setIfInBounds_toArray, List.set_cons_zero, List.set_cons_succ]
    refine wpAnyZ_take (i := 29) (v := undef) rfl (by kernel_rfl) (fun _ _ _ h => h) (Or.inr ⟨?_, rfl⟩) (⟨ct, cx0, cx1, cx2, cr0, cr1, cr2, cr3⟩) ?_
    · rfl
    try simp only [Act.put, List.setIfInBounds_toArray, List.set_cons_zero, List.set_cons_succ]
    refine wpAnyZ_take (i := 30) (v := undef) rfl (by kernel_rfl) (fun _ _ _ h => h) (Or.inr ⟨?_, rfl⟩) (⟨ct, cx0, cx1, cx2, cr0, cr1, cr2, cr3⟩) ?_
    · rfl
    try simp only [Act.put, List.setIfInBounds_toArray, List.set_cons_zero, List.set_cons_succ]
    refine wpAnyZ_take (i := 31) (v := undef) rfl (by kernel_rfl) (fun _ _ _ h => h) (Or.inr ⟨?_, rfl⟩) (⟨ct, cx0, cx1, cx2, cr0, cr1, cr2, cr3⟩) ?_
    · rfl
    try simp only [Act.put, List.setIfInBounds_toArray, List.set_cons_zero, List.set_cons_succ]
    refine wpAnyZ_take (i := 32) (v := undef) rfl (by kernel_rfl) (fun _ _ _ h => h) (Or.inr ⟨?_, rfl⟩) (⟨ct, cx0, cx1, cx2, cr0, cr1, cr2, cr3⟩) ?_
    · rfl
    try simp only [Act.put, List.setIfInBounds_toArray, List.set_cons_zero, List.set_cons_succ]
    refine wpAnyZ_take (i := 33) (v := undef) rfl (by kernel_rfl) (fun _ _ _ h => h) (Or.inr ⟨?_, rfl⟩) (⟨ct, cx0, cx1, cx2, cr0, cr1, cr2, cr3⟩) ?_
    · rfl
    try simp only [Act.put, List.setIfInBounds_toArray, List.set_cons_zero, List.set_cons_succ]
    refine wpAnyZ_take (i := 34) (v := undef) rfl (by kernel_rfl) (fun _ _ _ h => h) (Or.inr ⟨?_, rfl⟩) (⟨ct, cx0, cx1, cx2, cr0, cr1, cr2, cr3⟩) ?_
    · rfl
    try simp only [Act.put, List.setIfInBounds_toArray, List.set_cons_zero, List.set_cons_succ]
    refine wpAnyZ_take (i := 35) (v := undef) rfl (by kernel_rfl) (fun _ _ _ h => h) (Or.inr ⟨?_, rfl⟩) (⟨ct, cx0, cx1, cx2, cr0, cr1, cr2, cr3⟩) ?_
    · rfl
    try simp only [Act.put, List.setIfInBounds_toArray, List.set_cons_zero, List.set_cons_succ]
    refine wpAnyZ_take (i := 36) (v := undef) rfl (by kernel_rfl) (fun _ _ _ h => h) (Or.inr ⟨?_, rfl⟩) (⟨ct, cx0, cx1, cx2, cr0, cr1, cr2, cr3⟩) ?_
    · rfl
    try simp only [Act.put, List.setIfInBounds_toArray, List.set_cons_zero, List.set_cons_succ]
    refine wpAnyZ_take (i := 37) (v := ?_) rfl (by kernel_rfl) (fun _ _ _ h => h) (Or.inl ⟨by rfl, ?_⟩) (⟨ct, cx0, cx1, cx2, cr0, cr1, cr2, cr3⟩) ?_
    rotate_left 1
    · (intro w hSw; (try dsimp only at hSw); go_simp; try with_reducible rfl)
    try simp only [Act.put, List.setIfInBounds_toArray, List.set_cons_zero, List.set_cons_succ]
    refine wpAnyZ_take (i := 38) (v := ?_) rfl (by kernel_rfl) (fun _ _ _ h => h) (Or.inl ⟨by rfl, ?_⟩) (⟨ct, cx0, cx1, cx2, cr0, cr1, cr2, cr3⟩) ?_
    rotate_left 1
    · (intro w hSw; (try dsimp only at hSw); go_simp; try with_reducible rfl)
    try simp only [Act.put, List.setIfInBounds_toArray, List.set_cons_zero, List.set_cons_succ]
    refine wpAnyZ_take (i := 39) (v := undef) rfl (by kernel_rfl) (fun _ _ _ h => h) (Or.inr ⟨?_, rfl⟩) (⟨ct, cx0, cx1, cx2, cr0, cr1, cr2, cr3⟩) ?_
    · rfl
    try simp only [Act.put, List.setIfInBounds_toArray, List.set_cons_zero, List.set_cons_succ]
    refine wpAnyZ_take (i := 40) (v := undef) rfl (by kernel_rfl) (fun _ _ _ h => h) (Or.inr ⟨?_, rfl⟩) (⟨ct, cx0, cx1, cx2, cr0, cr1, cr2, cr3⟩) ?_
    · rfl
    try simp only [Act.put, List.setIfInBounds_toArray, List.set_cons_zero, List.set_cons_succ]
    refine wpAnyZ_take (i := 41) (v := undef) rfl (by kernel_rfl) (fun _ _ _ h => h) (Or.inr ⟨?_, rfl⟩) (⟨ct, cx0, cx1, cx2, cr0, cr1, cr2, cr3⟩) ?_
    · rfl
    try simp only [Act.put, List.setIfInBounds_toArray, List.set_cons_zero, List.set_cons_succ]
    refine wpAnyZ_take (i := 42) (v := undef) rfl (by kernel_rfl) (fun _ _ _ h => h) (Or.inr ⟨?_, rfl⟩) (⟨ct, cx0, cx1, cx2, cr0, cr1, cr2, cr3⟩) ?_
    · rfl
    try simp only [Act.put, List.setIfInBounds_toArray, List.set_cons_zero, List.set_cons_succ]
    refine wpAnyZ_take (i := 43) (v := undef) rfl (by kernel_rfl) (fun _ _ _ h => h) (Or.inr ⟨?_, rfl⟩) (⟨ct, cx0, cx1, cx2, cr0, cr1, cr2, cr3⟩) ?_
    · rfl
    try simp only [Act.put, List.setIfInBounds_toArray, List.set_cons_zero, List.set_cons_succ]
    refine wpAnyZ_take (i := 44) (v := undef) rfl (by kernel_rfl) (fun _ _ _ h => h) (Or.inr ⟨?_, rfl⟩) (⟨ct, cx0, cx1, cx2, cr0, cr1, cr2, cr3⟩) ?_
    · rfl
    try simp only [Act.put, List.setIfInBounds_toArray, List.set_cons_zero, List.set_cons_succ]
    refine wpAnyZ_take (i := 45) (v := undef) rfl (by kernel_rfl) (fun _ _ _ h => h) (Or.inr ⟨?_, rfl⟩) (⟨ct, cx0, cx1, cx2, cr0, cr1, cr2, cr3⟩) ?_
    · rfl
    try simp only [Act.put, List.setIfInBounds_toArray, List.set_cons_zero, List.set_cons_succ]
    refine wpAnyZ_take (i := 46) (v := undef) rfl (by kernel_rfl) (fun _ _ _ h => h) (Or.inr ⟨?_, rfl⟩) (⟨ct, cx0, cx1, cx2, cr0, cr1, cr2, cr3⟩) ?_
    · rfl
    try simp only [Act.put, List.setIfInBounds_toArray, List.set_cons_zero, List.set_cons_succ]
    refine wpAnyZ_take (i := 47) (v := undef) rfl (by kernel_rfl) (fun _ _ _ h => h) (Or.inr ⟨?_, rfl⟩) (⟨ct, cx0, cx1, cx2, cr0, cr1, cr2, cr3⟩) ?_
    · rfl
    try simp only [Act.put, List.setIfInBounds_toArray, List.set_cons_zero, List.set_cons_succ]
    refine wpAnyZ_take (i := 48) (v := undef) rfl (by kernel_rfl) (fun _ _ _ h => h) (Or.inr ⟨?_, rfl⟩) (⟨ct, cx0, cx1, cx2, cr0, cr1, cr2, cr3⟩) ?_
    · rfl
    try simp only [Act.put, List.setIfInBounds_toArray, List.set_cons_zero, List.set_cons_succ]
    refine wpAnyZ_take (i := 49) (v := undef) rfl (by kernel_rfl) (fun _ _ _ h => h) (Or.inr ⟨?_, rfl⟩) (⟨ct, cx0, cx1, cx2, cr0, cr1, cr2, cr3⟩) ?_
    · rfl
    try simp only [Act.put, List.setIfInBounds_toArray, List.set_cons_zero, List.set_cons_succ]
    refine wpAnyZ_take (i := 50) (v := undef) rfl (by kernel_rfl) (fun _ _ _ h => h) (Or.inr ⟨?_, rfl⟩) (⟨ct, cx0, cx1, cx2, cr0, cr1, cr2, cr3⟩) ?_
    · rfl
    try simp only [Act.put, List.setIfInBounds_toArray, List.set_cons_zero, List.set_cons_succ]
    refine wpAnyZ_take (i := 51) (v := undef) rfl (by kernel_rfl) (fun _ _ _ h => h) (Or.inr ⟨?_, rfl⟩) (⟨ct, cx0, cx1, cx2, cr0, cr1, cr2, cr3⟩) ?_
    · rfl
    try simp only [Act.put, List.setIfInBounds_toArray, List.set_cons_zero, List.set_cons_succ]
    refine wpAnyZ_take (i := 52) (v := ?_) rfl (by kernel_rfl) (fun _ _ _ h => h) (Or.inl ⟨by rfl, ?_⟩) (⟨ct, cx0, cx1, cx2, cr0, cr1, cr2, cr3⟩) ?_
    rotate_left 1
    · (intro w hSw; (try dsimp only at hSw); go_simp; try with_reducible rfl)
    try simp only [Act.put, List.setIfInBounds_toArray, List.set_cons_zero, List.set_cons_succ]
    refine wpAnyZ_done (by kernel_rfl) ?_ _
    refine NoPanic.normal ?_
    go_wp2_with fail
    replace ct := (show u3.drew.cell? _ = _ from ct)
    replace zt := (show _ < u3.drew.heap.size from zt)
    replace cx0 := (show u3.drew.cell? _ = _ from cx0)
    replace zx0 := (show _ < u3.drew.heap.size from zx0)
    replace cx1 := (show u3.drew.cell? _ = _ from cx1)
    replace zx1 := (show _ < u3.drew.heap.size from zx1)
    replace cx2 := (show u3.drew.cell? _ = _ from cx2)
    replace zx2 := (show _ < u3.drew.heap.size from zx2)
    replace cr0 := (show u3.drew.cell? _ = _ from cr0)
    replace zr0 := (show _ < u3.drew.heap.size from zr0)
    replace cr1 := (show u3.drew.cell? _ = _ from cr1)
    replace zr1 := (show _ < u3.drew.heap.size from zr1)
    replace cr2 := (show u3.drew.cell? _ = _ from cr2)
    replace zr2 := (show _ < u3.drew.heap.size from zr2)
    replace cr3 := (show u3.drew.cell? _ = _ from cr3)
    replace zr3 := (show _ < u3.drew.heap.size from zr3)
    replace S := S.le (Le.refl _).drew
    replace L0 := L0.drew
    replace S2 := S2.le (Le.refl _).drew
    replace S3 := S3.le (Le.refl _).drew
    replace S4 := S4.le (Le.refl _).drew
    refine wp_region_noPanic ?_
    refine wp_region_Z (fun w' => w'.cell? ⟨w1.heap.size, 0, none⟩ = some (.slice B m c) ∧ w'.cell? ⟨w1.heap.size + 1, 0, none⟩ = some (.bool has) ∧ w'.cell? ⟨w1.heap.size + 1, 1, none⟩ = some (.int .i64 cl) ∧ w'.cell? ⟨w1.heap.size + 1, 2, none⟩ = some (.int .i64 k) ∧ w'.cell? ⟨w3.heap.size, 0, none⟩ = some (.slice A0 (ceL xs L has cl k).length q0) ∧ w'.cell? ⟨w3.heap.size, 1, none⟩ = some (.int .i64 (ceE xs L has cl k)) ∧ w'.cell? ⟨w3.heap.size, 2, none⟩ = some (.int .i64 (ceV xs L has cl k)) ∧ w'.cell? ⟨w3.heap.size, 3, none⟩ = some (.slice A1 (ceH xs L has cl k).length q1)) [] (by kernel_rfl) ?_
    generalize u3.drew = Y at *
    refine wpAnyZ_take (i := 0) (v := ?_) rfl (by kernel_rfl) (fun _ _ _ h => h) (Or.inl ⟨by rfl, ?_⟩) (⟨ct, cx0, cx1, cx2, cr0, cr1, cr2, cr3⟩) ?_
    rotate_left 1
    · (intro w hSw; (try dsimp only at hSw); go_simp; try with_reducible rfl)
    try simp only [Act.put, List.setIfInBounds_toArray, List.set_cons_zero, List.set_cons_succ]
    refine wpAnyZ_take (i := 1) (v := ?_) rfl (by kernel_rfl) (fun _ _ _ h => h) (Or.inl ⟨by rfl, ?_⟩) (⟨ct, cx0, cx1, cx2, cr0, cr1, cr2, cr3⟩) ?_
    rotate_left 1
    · (intro w hSw; (try dsimp only at hSw); go_simp; try with_reducible rfl)
    try simp only [Act.put, List.setIfInBounds_toArray, List.set_cons_zero, List.set_cons_succ]
    refine wpAnyZ_take (i := 2) (v := ?_) rfl (by kernel_rfl) (fun _ _ _ h => h) (Or.inl ⟨by rfl, ?_⟩) (⟨ct, cx0, cx1, cx2, cr0, cr1, cr2, cr3⟩) ?_
    rotate_left 1
    · (intro w hSw; (try dsimp only at hSw); go_simp; try with_reducible rfl)
    try simp only [Act.put, List.setIfInBounds_toArray, List.set_cons_zero, List.set_cons_succ]
    refine wpAnyZ_take (i := 3) (v := ?_) rfl (by kernel_rfl) (fun _ _ _ h => h) (Or.inl ⟨by rfl, ?_⟩) (⟨ct, cx0, cx1, cx2, cr0, cr1, cr2, cr3⟩) ?_
    rotate_left 1
    · (intro w hSw; (try dsimp only at hSw); go_simp; try with_reducible rfl)
    try simp only [Act.put, List.setIfInBounds_toArray, List.set_cons_zero, List.set_cons_succ]
    refine wpAnyZ_one (i := 4) (by kernel_rfl) (ReadyZ.mk rfl (fun K hK => ?_))
    go_simp
    go_at_call 12
    refine (Calls.ce (sCloseExits_any B D m c _ d xs L has cl k hcl hkk _ S S2)).mono ?_
    rintro e y1 ⟨A2, q2, A3, q3, rfl, S5, S6, hle⟩
    replace ct := (hle.cell zt).trans ct
    replace cx0 := (hle.cell zx0).trans cx0
    replace cx1 := (hle.cell zx1).trans cx1
    replace cx2 := (hle.cell zx2).trans cx2
    replace cr0 := (hle.cell zr0).trans cr0
    replace cr1 := (hle.cell zr1).trans cr1
    replace cr2 := (hle.cell zr2).trans cr2
    replace cr3 := (hle.cell zr3).trans cr3
    replace zt := Nat.lt_of_lt_of_le zt hle.size
    replace zx0 := Nat.lt_of_lt_of_le zx0 hle.size
    replace zx1 := Nat.lt_of_lt_of_le zx1 hle.size
    replace zx2 := Nat.lt_of_lt_of_le zx2 hle.size
    replace zr0 := Nat.lt_of_lt_of_le zr0 hle.size
    replace zr1 := Nat.lt_of_lt_of_le zr1 hle.size
    replace zr2 := Nat.lt_of_lt_of_le zr2 hle.size
    replace zr3 := Nat.lt_of_lt_of_le zr3 hle.size
    replace S := S.le hle
    replace L0 := L0.trans hle
    replace S2 := S2.le hle
    replace S3 := S3.le hle
    replace S4 := S4.le hle
    clear hle
    refine hK.out _ _ (fun _ => ⟨ct, cx0, cx1, cx2, cr0, cr1, cr2, cr3⟩) ?_
    clear hK K
    try simp only [Act.put, List.setIfInBounds_toArray, List.set_cons_zero, List.set_cons_succ]
    refine wpAnyZ_one (i := 5) (by kernel_rfl) (ReadyZ.mk rfl (fun K hK => ?_))
    go_simp
    go_at_call 11
    refine (equalResult_self _ _ _ _ _ _ _ _ _ _ (ceL xs L has cl k) (ceH xs L has cl k) _ _ _ S3 S5 S4 S6).mono ?_
    rintro e y2 ⟨rfl, hle⟩
    replace ct := (hle.cell zt).trans ct
    replace cx0 := (hle.cell zx0).trans cx0
    replace cx1 := (hle.cell zx1).trans cx1
    replace cx2 := (hle.cell zx2).trans cx2
    replace cr0 := (hle.cell zr0).trans cr0
    replace cr1 := (hle.cell zr1).trans cr1
    replace cr2 := (hle.cell zr2).trans cr2
    replace cr3 := (hle.cell zr3).trans cr3
    replace zt := Nat.lt_of_lt_of_le zt hle.size
    replace zx0 := Nat.lt_of_lt_of_le zx0 hle.size
    replace zx1 := Nat.lt_of_lt_of_le zx1 hle.size
    replace zx2 := Nat.lt_of_lt_of_le zx2 hle.size
    replace zr0 := Nat.lt_of_lt_of_le zr0 hle.size
    replace zr1 := Nat.lt_of_lt_of_le zr1 hle.size
    replace zr2 := Nat.lt_of_lt_of_le zr2 hle.size
    replace zr3 := Nat.lt_of_lt_of_le zr3 hle.size
    replace S := S.le hle
    replace L0 := L0.trans hle
    replace S2 := S2.le hle
    replace S3 := S3.le hle
    replace S4 := S4.le hle
    clear hle S5 S6
    refine hK.out _ _ (fun _ => ⟨ct, cx0, cx1, cx2, cr0, cr1, cr2, cr3⟩) ?_
    clear hK K
    try simp only [Act.put, List.setIfInBounds_toArray, List.set_cons_zero, List.set_cons_succ]
    refine wpAnyZ_take (i := 6) (v := ?_) rfl (by kernel_rfl) (fun _ _ _ h => h) (Or.inl ⟨by rfl, ?_⟩) (⟨ct, cx0, cx1, cx2, cr0, cr1, cr2, cr3⟩) ?_
    rotate_left 1
    · (intro w hSw; (try dsimp only at hSw); go_simp; try with_reducible rfl)
    try simp only [Act.put, List.setIfInBounds_toArray, List.set_cons_zero, List.set_cons_succ]
    refine wpAnyZ_done (by kernel_rfl) ?_ _
    refine NoPanic.normal ?_
    go_wp2
    go_ret
    exact ⟨rfl, L0⟩
  cases has
  · skip
    by_cases h1 : cl = 0
    rotate_left
    · have h1b : (cl != 0) = true := by simpa using h1
      replace ct := (show W3.drew.cell? _ = _ from ct)
      replace zt := (show _ < W3.drew.heap.size from zt)
      replace cx0 := (show W3.drew.cell? _ = _ from cx0)
      replace zx0 := (show _ < W3.drew.heap.size from zx0)
      replace cx1 := (show W3.drew.cell? _ = _ from cx1)
      replace zx1 := (show _ < W3.drew.heap.size from zx1)
      replace cx2 := (show W3.drew.cell? _ = _ from cx2)
      replace zx2 := (show _ < W3.drew.heap.size from zx2)
      replace cr0 := (show W3.drew.cell? _ = _ from cr0)
      replace zr0 := (show _ < W3.drew.heap.size from zr0)
      replace cr1 := (show W3.drew.cell? _ = _ from cr1)
      replace zr1 := (show _ < W3.drew.heap.size from zr1)
      replace cr2 := (show W3.drew.cell? _ = _ from cr2)
      replace zr2 := (show _ < W3.drew.heap.size from zr2)
      replace cr3 := (show W3.drew.cell? _ = _ from cr3)
      replace zr3 := (show _ < W3.drew.heap.size from zr3)
      replace S := S.le (Le.refl _).drew
      replace L0 := L0.drew
      replace S2 := S2.le (Le.refl _).drew
      replace S3 := S3.le (Le.refl _).drew
      replace S4 := S4.le (Le.refl _).drew
      refine wp_region_noPanic ?_
      refine wp_region_Z (fun w' => w'.cell? ⟨w1.heap.size, 0, none⟩ = some (.slice B m c) ∧ w'.cell? ⟨w1.heap.size + 1, 0, none⟩ = some (.bool false) ∧ w'.cell? ⟨w1.heap.size + 1, 1, none⟩ = some (.int .i64 cl) ∧ w'.cell? ⟨w1.heap.size + 1, 2, none⟩ = some (.int .i64 k) ∧ w'.cell? ⟨w3.heap.size, 0, none⟩ = some (.slice A0 (ceL xs L false cl k).length q0) ∧ w'.cell? ⟨w3.heap.size, 1, none⟩ = some (.int .i64 (ceE xs L false cl k)) ∧ w'.cell? ⟨w3.heap.size, 2, none⟩ = some (.int .i64 (ceV xs L false cl k)) ∧ w'.cell? ⟨w3.heap.size, 3, none⟩ = some (.slice A1 (ceH xs L false cl k).length q1)) [] (by kernel_rfl) ?_
      generalize W3.drew = U at *
      refine wpAnyZ_take (i := 0) (v := ?_) rfl (by kernel_rfl) (fun _ _ _ h => h) (Or.inl ⟨by rfl, ?_⟩) (⟨ct, cx0, cx1, cx2, cr0, cr1, cr2, cr3⟩) ?_
      rotate_left 1
      · (intro w hSw; (try dsimp only at hSw); go_simp; try with_reducible rfl)
      try simp only [Act.put, List.setIfInBounds_toArray, List.set_cons_zero, List.set_cons_succ]
      refine wpAnyZ_take (i := 1) (v := ?_) rfl (by kernel_rfl) (fun _ _ _ h => h) (Or.inl ⟨by rfl, ?_⟩) (⟨ct, cx0, cx1, cx2, cr0, cr1, cr2, cr3⟩) ?_
      rotate_left 1
      · (intro w hSw; (try dsimp only at hSw); go_simp; try with_reducible rfl)
      try simp only [Act.put, List.setIfInBounds_toArray, List.set_cons_zero, List.set_cons_succ]
      refine wpAnyZ_take (i := 2) (v := ?_) rfl (by kernel_rfl) (fun _ _ _ h => h) (Or.inl ⟨by rfl, ?_⟩) (⟨ct, cx0, cx1, cx2, cr0, cr1, cr2, cr3⟩) ?_
      rotate_left 1
      · (intro w hSw; (try dsimp only at hSw); go_simp; try with_reducible rfl)
      try simp only [Act.put, List.setIfInBounds_toArray, List.set_cons_zero, List.set_cons_succ]
      refine wpAnyZ_take (i := 3) (v := ?_) rfl (by kernel_rfl) (fun _ _ _ h => h) (Or.inl ⟨by rfl, ?_⟩) (⟨ct, cx0, cx1, cx2, cr0, cr1, cr2, cr3⟩) ?_
      rotate_left 1
      · (intro w hSw; (try dsimp only at hSw); go_simp; try with_reducible rfl)
      try simp only [Act.put, List.setIfInBounds_toArray, List.set_cons_zero, List.set_cons_succ]
      refine wpAnyZ_one (i := 4) (by kernel_rfl) (ReadyZ.mk rfl (fun K hK => ?_))
      go_simp
      go_at_call 12
      refine (Calls.ce (sCloseExits_any B D m c _ d xs L false cl k hcl hkk _ S S2)).mono ?_
      rintro e u1 ⟨A2, q2, A3, q3, rfl, S5, S6, hle⟩
      replace ct := (hle.cell zt).trans ct
      replace cx0 := (hle.cell zx0).trans cx0
      replace cx1 := (hle.cell zx1).trans cx1
      replace cx2 := (hle.cell zx2).trans cx2
      replace cr0 := (hle.cell zr0).trans cr0
      replace cr1 := (hle.cell zr1).trans cr1
      replace cr2 := (hle.cell zr2).trans cr2
      replace cr3 := (hle.cell zr3).trans cr3
      replace zt := Nat.lt_of_lt_of_le zt hle.size
      replace zx0 := Nat.lt_of_lt_of_le zx0 hle.size
      replace zx1 := Nat.lt_of_lt_of_le zx1 hle.size
      replace zx2 := Nat.lt_of_lt_of_le zx2 hle.size
      replace zr0 := Nat.lt_of_lt_of_le zr0 hle.size
      replace zr1 := Nat.lt_of_lt_of_le zr1 hle.size
      replace zr2 := Nat.lt_of_lt_of_le zr2 hle.size
      replace zr3 := Nat.lt_of_lt_of_le zr3 hle.size
      replace S := S.le hle
      replace L0 := L0.trans hle
      replace S2 := S2.le hle
      replace S3 := S3.le hle
      replace S4 := S4.le hle
      clear hle
      refine hK.out _ _ (fun _ => ⟨ct, cx0, cx1, cx2, cr0, cr1, cr2, cr3⟩) ?_
      clear hK K
      try simp only [Act.put, List.setIfInBounds_toArray, List.set_cons_zero, List.set_cons_succ]
      refine wpAnyZ_one (i := 5) (by kernel_rfl) (ReadyZ.mk rfl (fun K hK => ?_))
      go_simp
      go_at_call 11
      refine (equalResult_self _ _ _ _ _ _ _ _ _ _ (ceL xs L false cl k) (ceH xs L false cl k) _ _ _ S3 S5 S4 S6).mono ?_
      rintro e u2 ⟨rfl, hle⟩
      replace ct := (hle.cell zt).trans ct
      replace cx0 := (hle.cell zx0).trans cx0
      replace cx1 := (hle.cell zx1).trans cx1
      replace cx2 := (hle.cell zx2).trans cx2
      replace cr0 := (hle.cell zr0).trans cr0
      replace cr1 := (hle.cell zr1).trans cr1
      replace cr2 := (hle.cell zr2).trans cr2
      replace cr3 := (hle.cell zr3).trans cr3
      replace zt := Nat.lt_of_lt_of_le zt hle.size
      replace zx0 := Nat.lt_of_lt_of_le zx0 hle.size
      replace zx1 := Nat.lt_of_lt_of_le zx1 hle.size
      replace zx2 := Nat.lt_of_lt_of_le zx2 hle.size
      replace zr0 := Nat.lt_of_lt_of_le zr0 hle.size
      replace zr1 := Nat.lt_of_lt_of_le zr1 hle.size
      replace zr2 := Nat.lt_of_lt_of_le zr2 hle.size
      replace zr3 := Nat.lt_of_lt_of_le zr3 hle.size
      replace S := S.le hle
      replace L0 := L0.trans hle
      replace S2 := S2.le hle
      replace S3 := S3.le hle
      replace S4 := S4.le hle
      clear hle S5 S6
      refine hK.out _ _ (fun _ => ⟨ct, cx0, cx1, cx2, cr0, cr1, cr2, cr3⟩) ?_
      clear hK K
      try simp only [Act.put, List.setIfInBounds_toArray, List.set_cons_zero, List.set_cons_succ]
      refine wpAnyZ_take (i := 6) (v := ?_) rfl (by kernel_rfl) (fun _ _ _ h => h) (Or.inl ⟨by rfl, ?_⟩) (⟨ct, cx0, cx1, cx2, cr0, cr1, cr2, cr3⟩) ?_
      rotate_left 1
      · (intro w hSw; (try dsimp only at hSw); go_simp; try with_reducible rfl)
      try simp only [Act.put, List.setIfInBounds_toArray, List.set_cons_zero, List.set_cons_succ]
      refine wpAnyZ_take (i := 7) (v := ?_) rfl (by kernel_rfl) (fun _ _ _ h => h) (Or.inl ⟨by rfl, ?_⟩) (⟨ct, cx0, cx1, cx2, cr0, cr1, cr2, cr3⟩) ?_
      rotate_left 1
      · (intro w hSw; (try dsimp only at hSw); go_simp; try with_reducible rfl)
      try simp only [Act.put, List.setIfInBounds_toArray, List.set_cons_zero, List.set_cons_succ]
      refine wpAnyZ_take (i := 8) (v := ?_) rfl (by kernel_rfl) (fun _ _ _ h => h) (Or.inl ⟨by rfl, ?_⟩) (⟨ct, cx0, cx1, cx2, cr0, cr1, cr2, cr3⟩) ?_
      rotate_left 1
      · (intro w hSw; (try dsimp only at hSw); go_simp; try with_reducible rfl)
      try simp only [Act.put, List.setIfInBounds_toArray, List.set_cons_zero, List.set_cons_succ]
      refine wpAnyZ_take (i := 9) (v := ?_) rfl (by kernel_rfl) (fun _ _ _ h => h) (Or.inl ⟨by rfl, ?_⟩) (⟨ct, cx0, cx1, cx2, cr0, cr1, cr2, cr3⟩) ?_
      rotate_left 1
      · (intro w hSw; (try dsimp only at hSw); go_simp; try with_reducible rfl)
      try simp only [Act.put, List.setIfInBounds_toArray, List.set_cons_zero, List.set_cons_succ]
      refine wpAnyZ_one (i := 10) (by kernel_rfl) (ReadyZ.mk rfl (fun K hK => ?_))
      go_simp
      go_at_call 13
      refine (Calls.val (iValidExits_any B D m c _ d xs L _ S S2) (by rw [hv])).mono ?_
      rintro e u3 ⟨rfl, hle⟩
      replace ct := (hle.cell zt).trans ct
      replace cx0 := (hle.cell zx0).trans cx0
      replace cx1 := (hle.cell zx1).trans cx1
      replace cx2 := (hle.cell zx2).trans cx2
      replace cr0 := (hle.cell zr0).trans cr0
      replace cr1 := (hle.cell zr1).trans cr1
      replace cr2 := (hle.cell zr2).trans cr2
      replace cr3 := (hle.cell zr3).trans cr3
      replace zt := Nat.lt_of_lt_of_le zt hle.size
      replace zx0 := Nat.lt_of_lt_of_le zx0 hle.size
      replace zx1 := Nat.lt_of_lt_of_le zx1 hle.size
      replace zx2 := Nat.lt_of_lt_of_le zx2 hle.size
      replace zr0 := Nat.lt_of_lt_of_le zr0 hle.size
      replace zr1 := Nat.lt_of_lt_of_le zr1 hle.size
      replace zr2 := Nat.lt_of_lt_of_le zr2 hle.size
      replace zr3 := Nat.lt_of_lt_of_le zr3 hle.size
      replace S := S.le hle
      replace L0 := L0.trans hle
      replace S2 := S2.le hle
      replace S3 := S3.le hle
      replace S4 := S4.le hle
      clear hle
      refine hK.out _ _ (fun _ => ⟨ct, cx0, cx1, cx2, cr0, cr1, cr2, cr3⟩) ?_
      clear hK K
      try simp only [Act.put, List.setIfInBounds_toArray, List.set_cons_zero, List.set_cons_succ]
      refine wpAnyZ_take (i := 11) (v := ?_) rfl (by kernel_rfl) (fun _ _ _ h => h) (Or.inl ⟨by rfl, ?_⟩) (⟨ct, cx0, cx1, cx2, cr0, cr1, cr2, cr3⟩) ?_
      rotate_left 1
      · (intro w hSw; (try dsimp only at hSw); go_simp; try with_reducible rfl)
      try simp only [Act.put, List.setIfInBounds_toArray, List.set_cons_zero, List.set_cons_succ]
      refine wpAnyZ_take (i := 12) (v := ?_) rfl (by kernel_rfl) (fun _ _ _ h => h) (Or.inl ⟨by rfl, ?_⟩) (⟨ct, cx0, cx1, cx2, cr0, cr1, cr2, cr3⟩) ?_
      rotate_left 1
      · (intro w hSw; (try dsimp only at hSw); go_simp; try with_reducible rfl)
      try simp only [Act.put, List.setIfInBounds_toArray, List.set_cons_zero, List.set_cons_succ]
      refine wpAnyZ_take (i := 13) (v := ?_) rfl (by kernel_rfl) (fun _ _ _ h => h) (Or.inl ⟨by rfl, ?_⟩) (⟨ct, cx0, cx1, cx2, cr0, cr1, cr2, cr3⟩) ?_
      rotate_left 1
      · (intro w hSw; (try dsimp only at hSw); go_simp; try with_reducible rfl)
      try simp only [Act.put, List.setIfInBounds_toArray, List.set_cons_zero, List.set_cons_succ]
      refine wpAnyZ_take (i := 14) (v := ?_) rfl (by kernel_rfl) (fun _ _ _ h => h) (Or.inl ⟨by rfl, ?_⟩) (⟨ct, cx0, cx1, cx2, cr0, cr1, cr2, cr3⟩) ?_
      rotate_left 1
      · (intro w hSw; (try dsimp only at hSw); go_simp; try with_reducible rfl)
      try simp only [Act.put, List.setIfInBounds_toArray, List.set_cons_zero, List.set_cons_succ]
      refine wpAnyZ_take (i := 15) (v := ?_) rfl (by kernel_rfl) (fun _ _ _ h => h) (Or.inl ⟨by rfl, ?_⟩) (⟨ct, cx0, cx1, cx2, cr0, cr1, cr2, cr3⟩) ?_
      rotate_left 1
      · (intro w hSw; (try dsimp only at hSw); go_simp; try with_reducible rfl)
      try simp only [Act.put, List.setIfInBounds_toArray, List.set_cons_zero, List.set_cons_succ]
      refine wpAnyZ_take (i := 16) (v := ?_) rfl (by kernel_rfl) (fun _ _ _ h => h) (Or.inl ⟨by rfl, ?_⟩) (⟨ct, cx0, cx1, cx2, cr0, cr1, cr2, cr3⟩) ?_
      rotate_left 1
      · (intro w hSw; (try dsimp only at hSw); go_simp; try with_reducible rfl)
      try simp only [Act.put, List.setIfInBounds_toArray, List.set_cons_zero, List.set_cons_succ]
      refine wpAnyZ_take (i := 17) (v := undef) rfl (by kernel_rfl) (fun _ _ _ h => h) (Or.inr ⟨?_, rfl⟩) (⟨ct, cx0, cx1, cx2, cr0, cr1, cr2, cr3⟩) ?_
      · rfl
      try simp only [Act.put, List.setIfInBounds_toArray, List.set_cons_zero, List.set_cons_succ]
      refine wpAnyZ_take (i := 18) (v := undef) rfl (by kernel_rfl) (fun _ _ _ h => h) (Or.inr ⟨?_, rfl⟩) (⟨ct, cx0, cx1, cx2, cr0, cr1, cr2, cr3⟩) ?_
      · rfl
      try simp only [Act.put, List.setIfInBounds_toArray, List.set_cons_zero, List.set_cons_succ]
      refine wpAnyZ_take (i := 19) (v := undef) rfl (by kernel_rfl) (fun _ _ _ h => h) (Or.inr ⟨?_, rfl⟩) (⟨ct, cx0, cx1, cx2, cr0, cr1, cr2, cr3⟩) ?_
      · rfl
      try simp only [Act.put, List.setIfInBounds_toArray, List.set_cons_zero, List.set_cons_succ]
      refine wpAnyZ_take (i := 20) (v := undef) rfl (by kernel_rfl) (fun _ _ _ h => h) (Or.inr ⟨?_, rfl⟩) (⟨ct, cx0, cx1, cx2, cr0, cr1, cr2, cr3⟩) ?_
      · rfl
      try simp only [Act.put, List.setIfInBounds_toArray, List.set_cons_zero, List.set_cons_succ]
      refine wpAnyZ_take (i := 21) (v := undef) rfl (by kernel_rfl) (fun _ _ _ h => h) (Or.inr ⟨?_, rfl⟩) (⟨ct, cx0, cx1, cx2, cr0, cr1, cr2, cr3⟩) ?_
      · rfl
      try simp only [Act.put, List.setIfInBounds_toArray, List.set_cons_zero, List.set_cons_succ]
      refine wpAnyZ_take (i := 22) (v := ?_) rfl (by kernel_rfl) (fun _ _ _ h => h) (Or.inl ⟨by rfl, ?_⟩) (⟨ct, cx0, cx1, cx2, cr0, cr1, cr2, cr3⟩) ?_
      rotate_left 1
      · (intro w hSw; (try dsimp only at hSw); go_simp; try with_reducible rfl)
      try simp only [Act.put, List.setIfInBounds_toArray, List.set_cons_zero, List.set_cons_succ]
      refine wpAnyZ_take (i := 23) (v := ?_) rfl (by kernel_rfl) (fun _ _ _ h => h) (Or.inl ⟨by rfl, ?_⟩) (⟨ct, cx0, cx1, cx2, cr0, cr1, cr2, cr3⟩) ?_
      rotate_left 1
      · (intro w hSw; (try dsimp only at hSw); go_simp; try with_reducible rfl)
      try simp only [Act.put, List.setIfInBounds_toArray, List.set_cons_zero, List.set_cons_succ]
      refine wpAnyZ_take (i := 24) (v := ?_) rfl (by kernel_rfl) (fun _ _ _ h => h) (Or.inl ⟨by rfl, ?_⟩) (⟨ct, cx0, cx1, cx2, cr0, cr1, cr2, cr3⟩) ?_
      rotate_left 1
      · (intro w hSw; (try dsimp only at hSw); go_simp; try with_reducible rfl)
      try simp only [Act.put, List.setIfInBounds_toArray, List.set_cons_zero, List.set_cons_succ]
      refine wpAnyZ_take (i := 25) (v := ?_) rfl (by kernel_rfl) (fun _ _ _ h => h) (Or.inl ⟨by rfl, ?_⟩) (⟨ct, cx0, cx1, cx2, cr0, cr1, cr2, cr3⟩) ?_
      rotate_left 1
      · (intro w hSw; (try dsimp only at hSw); go_simp; try with_reducible rfl)
      try simp only [Act.put, List.setIfInBounds_toArray, List.set_cons_zero, List.set_cons_succ]
      refine wpAnyZ_take (i := 26) (v := ?_) rfl (by kernel_rfl) (fun _ _ _ h => h) (Or.inl ⟨by rfl, ?_⟩) (⟨ct, cx0, cx1, cx2, cr0, cr1, cr2, cr3⟩) ?_
      rotate_left 1
      · (intro w hSw; (try dsimp only at hSw); go_simp; try with_reducible rfl)
      try simp only [Act.put, List.setIfInBounds_toArray, List.set_cons_zero, List.set_cons_succ]
      refine wpAnyZ_take (i := 27) (v := ?_) rfl (by kernel_rfl) (fun _ _ _ h => h) (Or.inl ⟨by rfl, ?_⟩) (⟨ct, cx0, cx1, cx2, cr0, cr1, cr2, cr3⟩) ?_
      rotate_left 1
      · (intro w hSw; (try dsimp only at hSw); go_simp; try with_reducible rfl)
      try simp only [Act.put, List.setIfInBounds_toArray, List.set_cons_zero, List.set_cons_succ]
      refine wpAnyZ_take (i := 28) (v := undef) rfl (by kernel_rfl) (fun _ _ _ h => h) (Or.inr ⟨?_, rfl⟩) (⟨ct, cx0, cx1, cx2, cr0, cr1, cr2, cr3⟩) ?_
      · rfl
      try simp only [Act.put, List.setIfInBounds_toArray, List.set_cons_zero, List.set_cons_succ]
      refine wpAnyZ_take (i := 29) (v := undef) rfl (by kernel_rfl) (fun _ _ _ h => h) (Or.inr ⟨?_, rfl⟩) (⟨ct, cx0, cx1, cx2, cr0, cr1, cr2, cr3⟩) ?_
      · rfl
      try simp only [Act.put, List.setIfInBounds_toArray, List.set_cons_zero, List.set_cons_succ]
      refine wpAnyZ_take (i := 30) (v := undef) rfl (by kernel_rfl) (fun _ _ _ h => h) (Or.inr ⟨?_, rfl⟩) (⟨ct, cx0, cx1, cx2, cr0, cr1, cr2, cr3⟩) ?_
      · rfl
      try simp only [Act.put, List.setIfInBounds_toArray, List.set_cons_zero, List.set_cons_succ]
      refine wpAnyZ_take (i := 31) (v := undef) rfl (by kernel_rfl) (fun _ _ _ h => h) (Or.inr ⟨?_, rfl⟩) (⟨ct, cx0, cx1, cx2, cr0, cr1, cr2, cr3⟩) ?_
      · rfl
      try simp only [Act.put, List.setIfInBounds_toArray, List.set_cons_zero, List.set_cons_succ]
      refine wpAnyZ_take (i := 32) (v := undef) rfl (by kernel_rfl) (fun _ _ _ h => h) (Or.inr ⟨?_, rfl⟩) (⟨ct, cx0, cx1, cx2, cr0, cr1, cr2, cr3⟩) ?_
      · rfl
      try simp only [Act.put, List.setIfInBounds_toArray, List.set_cons_zero, List.set_cons_succ]
      refine wpAnyZ_take (i := 33) (v := undef) rfl (by kernel_rfl) (fun _ _ _ h => h) (Or.inr ⟨?_, rfl⟩) (⟨ct, cx0, cx1, cx2, cr0, cr1, cr2, cr3⟩) ?_
      · rfl
      try simp only [Act.put, List.setIfInBounds_toArray, List.set_cons_zero, List.set_cons_succ]
      refine wpAnyZ_take (i := 34) (v := undef) rfl (by kernel_rfl) (fun _ _ _ h => h) (Or.inr ⟨?_, rfl⟩) (⟨ct, cx0, cx1, cx2, cr0, cr1, cr2, cr3⟩) ?_
      · rfl
      try simp only [Act.put, List.setIfInBounds_toArray, List.set_cons_zero, List.set_cons_succ]
      refine wpAnyZ_take (i := 35) (v := undef) rfl (by kernel_rfl) (fun _ _ _ h => h) (Or.inr ⟨?_, rfl⟩) (⟨ct, cx0, cx1, cx2, cr0, cr1, cr2, cr3⟩) ?_
      · rfl
      try simp only [Act.put, List.setIfInBounds_toArray, List.set_cons_zero, List.set_cons_succ]
      refine wpAnyZ_take (i := 36) (v := ?_) rfl (by kernel_rfl) (fun _ _ _ h => h) (Or.inl ⟨by rfl, ?_⟩) (⟨ct, cx0, cx1, cx2, cr0, cr1, cr2, cr3⟩) ?_
      rotate_left 1
      · (intro w hSw; (try dsimp only at hSw); go_simp; try with_reducible rfl)
      try simp only [Act.put, List.setIfInBounds_toArray, List.set_cons_zero, List.set_cons_succ]
      refine wpAnyZ_take (i := 37) (v := ?_) rfl (by kernel_rfl) (fun _ _ _ h => h) (Or.inl ⟨by rfl, ?_⟩) (⟨ct, cx0, cx1, cx2, cr0, cr1, cr2, cr3⟩) ?_
      rotate_left 1
      · (intro w hSw; (try dsimp only at hSw); go_simp; try with_reducible rfl)
      try simp only [Act.put, List.setIfInBounds_toArray, List.set_cons_zero, List.set_cons_succ]
      refine wpAnyZ_take (i := 38) (v := ?_) rfl (by kernel_rfl) (fun _ _ _ h => h) (Or.inl ⟨by rfl, ?_⟩) (⟨ct, cx0, cx1, cx2, cr0, cr1, cr2, cr3⟩) ?_
      rotate_left 1
      · (intro w hSw; (try dsimp only at hSw); go_simp; try with_reducible rfl)
      try simp only [Act.put, List.setIfInBounds_toArray, List.set_cons_zero, List.set_cons_succ]
      refine wpAnyZ_take (i := 39) (v := ?_) rfl (by kernel_rfl) (fun _ _ _ h => h) (Or.inl ⟨by rfl, ?_⟩) (⟨ct, cx0, cx1, cx2, cr0, cr1, cr2, cr3⟩) ?_
      rotate_left 1
      · (intro w hSw; (try dsimp only at hSw); go_simp; try with_reducible rfl)
      try simp only [Act.put, List.setIfInBounds_toArray, List.set_cons_zero, List.set_cons_succ]
      refine wpAnyZ_take (i := 40) (v := ?_) rfl (by kernel_rfl) (fun _ _ _ h => h) (Or.inl ⟨by rfl, ?_⟩) (⟨ct, cx0, cx1, cx2, cr0, cr1, cr2, cr3⟩) ?_
      rotate_left 1
      · (intro w hSw; (try dsimp only at hSw); go_simp; try with_reducible rfl)
      try simp only [Act.put, List.setIfInBounds_toArray, List.set_cons_zero, List.set_cons_succ]
      refine wpAnyZ_take (i := 41) (v := ?_) rfl (by kernel_rfl) (fun _ _ _ h => h) (Or.inl ⟨by rfl, ?_⟩) (⟨ct, cx0, cx1, cx2, cr0, cr1, cr2, cr3⟩) ?_
      rotate_left 1
      · (intro w hSw; (try dsimp only at hSw); go_simp; try with_reducible rfl)
      try simp only [Act.put, List.setIfInBounds_toArray, List.set_cons_zero, List.set_cons_succ]
      refine wpAnyZ_take (i := 42) (v := ?_) rfl (by kernel_rfl) (fun _ _ _ h => h) (Or.inl ⟨by rfl, ?_⟩) (⟨ct, cx0, cx1, cx2, cr0, cr1, cr2, cr3⟩) ?_
      rotate_left 1
      · (intro w hSw; (try dsimp only at hSw); go_simp; try with_reducible rfl)
      try simp only [Act.put, List.setIfInBounds_toArray, List.set_cons_zero, List.set_cons_succ]
      refine wpAnyZ_take (i := 43) (v := ?_) rfl (by kernel_rfl) (fun _ _ _ h => h) (Or.inl ⟨by rfl, ?_⟩) (⟨ct, cx0, cx1, cx2, cr0, cr1, cr2, cr3⟩) ?_
      rotate_left 1
      · (intro w hSw; (try dsimp only at hSw); go_simp; try with_reducible rfl)
      try simp only [Act.put, List.setIfInBounds_toArray, List.set_cons_zero, List.set_cons_succ]
      refine wpAnyZ_take (i := 44) (v := ?_) rfl (by kernel_rfl) (fun _ _ _ h => h) (Or.inl ⟨by rfl, ?_⟩) (⟨ct, cx0, cx1, cx2, cr0, cr1, cr2, cr3⟩) ?_
      rotate_left 1
      · (intro w hSw; (try dsimp only at hSw); go_simp; try with_reducible rfl)
      try simp only [Act.put, List.setIfInBounds_toArray, List.set_cons_zero, List.set_cons_succ]
      refine wpAnyZ_take (i := 45) (v := ?_) rfl (by kernel_rfl) (fun _ _ _ h => h) (Or.inl ⟨by rfl, ?_⟩) (⟨ct, cx0, cx1, cx2, cr0, cr1, cr2, cr3⟩) ?_
      rotate_left 1
      · (intro w hSw; (try dsimp only at hSw); go_simp; try with_reducible rfl)
      try simp only [Act.put, List.setIfInBounds_toArray, List.set_cons_zero, List.set_cons_succ]
      refine wpAnyZ_take (i := 46) (v := ?_) rfl (by kernel_rfl) (fun _ _ _ h => h) (Or.inl ⟨by rfl, ?_⟩) (⟨ct, cx0, cx1, cx2, cr0, cr1, cr2, cr3⟩) ?_
      rotate_left 1
      · (intro w hSw; (try dsimp only at hSw); go_simp; try with_reducible rfl)
      try simp only [Act.put, List.setIfInBounds_toArray, List.set_cons_zero, List.set_cons_succ]
      refine wpAnyZ_take (i := 47) (v := undef) rfl (by kernel_rfl) (fun _ _ _ h => h) (Or.inr ⟨?_, rfl⟩) (⟨ct, cx0, cx1, cx2, cr0, cr1, cr2, cr3⟩) ?_
      · rfl
      try simp only [Act.put, List.setIfInBounds_toArray, List.set_cons_zero, List.set_cons_succ]
      refine wpAnyZ_take (i := 48) (v := undef) rfl (by kernel_rfl) (fun _ _ _ h => h) (Or.inr ⟨?_, rfl⟩) (⟨ct, cx0, cx1, cx2, cr0, cr1, cr2, cr3⟩) ?_
      · rfl
      try simp only [Act.put, List.setIfInBounds_toArray, List.set_cons_zero, List.set_cons_succ]
      refine wpAnyZ_take (i := 49) (v := undef) rfl (by kernel_rfl) (fun _ _ _ h => h) (Or.inr ⟨?_, rfl⟩) (⟨ct, cx0, cx1, cx2, cr0, cr1, cr2, cr3⟩) ?_
      · rfl
      try simp only [Act.put, List.setIfInBounds_toArray, List.set_cons_zero, List.set_cons_succ]
      refine wpAnyZ_take (i := 50) (v := ?_) rfl (by kernel_rfl) (fun _ _ _ h => h) (Or.inl ⟨by rfl, ?_⟩) (⟨ct, cx0, cx1, cx2, cr0, cr1, cr2, cr3⟩) ?_
      rotate_left 1
      · (intro w hSw; (try dsimp only at hSw); go_simp; try with_reducible rfl)
      try simp only [Act.put, List.setIfInBounds_toArray, List.set_cons_zero, List.set_cons_succ]
      refine wpAnyZ_take (i := 51) (v := ?_) rfl (by kernel_rfl) (fun _ _ _ h => h) (Or.inl ⟨by rfl, ?_⟩) (⟨ct, cx0, cx1, cx2, cr0, cr1, cr2, cr3⟩) ?_
      rotate_left 1
      · (intro w hSw; (try dsimp only at hSw); go_simp; try with_reducible rfl)
      try simp only [Act.put, List.setIfInBounds_toArray, List.set_cons_zero, List.set_cons_succ]
      refine wpAnyZ_take (i := 52) (v := ?_) rfl (by kernel_rfl) (fun _ _ _ h => h) (Or.inl ⟨by rfl, ?_⟩) (⟨ct, cx0, cx1, cx2, cr0, cr1, cr2, cr3⟩) ?_
      rotate_left 1
      · (intro w hSw; (try dsimp only at hSw); go_simp; try with_reducible rfl)
      try simp only [Act.put, List.setIfInBounds_toArray, List.set_cons_zero, List.set_cons_succ]
      refine wpAnyZ_done (by kernel_rfl) ?_ _
      refine NoPanic.normal ?_
      go_wp2_with fail
      replace ct := (show u3.drew.cell? _ = _ from ct)
      replace zt := (show _ < u3.drew.heap.size from zt)
      replace cx0 := (show u3.drew.cell? _ = _ from cx0)
      replace zx0 := (show _ < u3.drew.heap.size from zx0)
      replace cx1 := (show u3.drew.cell? _ = _ from cx1)
      replace zx1 := (show _ < u3.drew.heap.size from zx1)
      replace cx2 := (show u3.drew.cell? _ = _ from cx2)
      replace zx2 := (show _ < u3.drew.heap.size from zx2)
      replace cr0 := (show u3.drew.cell? _ = _ from cr0)
      replace zr0 := (show _ < u3.drew.heap.size from zr0)
      replace cr1 := (show u3.drew.cell? _ = _ from cr1)
      replace zr1 := (show _ < u3.drew.heap.size from zr1)
      replace cr2 := (show u3.drew.cell? _ = _ from cr2)
      replace zr2 := (show _ < u3.drew.heap.size from zr2)
      replace cr3 := (show u3.drew.cell? _ = _ from cr3)
      replace zr3 := (show _ < u3.drew.heap.size from zr3)
      replace S := S.le (Le.refl _).drew
      replace L0 := L0.drew
      replace S2 := S2.le (Le.refl _).drew
      replace S3 := S3.le (Le.refl _).drew
      replace S4 := S4.le (Le.refl _).drew
      refine wp_region_noPanic ?_
      refine wp_region_Z (fun w' => w'.cell? ⟨w1.heap.size, 0, none⟩ = some (.slice B m c) ∧ w'.cell? ⟨w1.heap.size + 1, 0, none⟩ = some (.bool false) ∧ w'.cell? ⟨w1.heap.size + 1, 1, none⟩ = some (.int .i64 cl) ∧ w'.cell? ⟨w1.heap.size + 1, 2, none⟩ = some (.int .i64 k) ∧ w'.cell? ⟨w3.heap.size, 0, none⟩ = some (.slice A0 (ceL xs L false cl k).length q0) ∧ w'.cell? ⟨w3.heap.size, 1, none⟩ = some (.int .i64 (ceE xs L false cl k)) ∧ w'.cell? ⟨w3.heap.size, 2, none⟩ = some (.int .i64 (ceV xs L false cl k)) ∧ w'.cell? ⟨w3.heap.size, 3, none⟩ = some (.slice A1 (ceH xs L false cl k).length q1)) [] (by kernel_rfl) ?_
      generalize u3.drew = Y at *
      refine wpAnyZ_take (i := 0) (v := ?_) rfl (by kernel_rfl) (fun _ _ _ h => h) (Or.inl ⟨by rfl, ?_⟩) (⟨ct, cx0, cx1, cx2, cr0, cr1, cr2, cr3⟩) ?_
      rotate_left 1
      · (intro w hSw; (try dsimp only at hSw); go_simp; try with_reducible rfl)
      try simp only [Act.put, List.setIfInBounds_toArray, List.set_cons_zero, List.set_cons_succ]
      refine wpAnyZ_take (i := 1) (v := ?_) rfl (by kernel_rfl) (fun _ _ _ h => h) (Or.inl ⟨by rfl, ?_⟩) (⟨ct, cx0, cx1, cx2, cr0, cr1, cr2, cr3⟩) ?_
      rotate_left 1
      · (intro w hSw; (try dsimp only at hSw); go_simp; try with_reducible rfl)
      try simp only [Act.put, List.setIfInBounds_toArray, List.set_cons_zero, List.set_cons_succ]
      refine wpAnyZ_take (i := 2) (v := ?_) rfl (by kernel_rfl) (fun _ _ _ h => h) (Or.inl ⟨by rfl, ?_⟩) (⟨ct, cx0, cx1, cx2, cr0, cr1, cr2, cr3⟩) ?_
      rotate_left 1
      · (intro w hSw; (try dsimp only at hSw); go_simp; try with_reducible rfl)
      try simp only [Act.put, List.setIfInBounds_toArray, List.set_cons_zero, List.set_cons_succ]
      refine wpAnyZ_take (i := 3) (v := ?_) rfl (by kernel_rfl) (fun _ _ _ h => h) (Or.inl ⟨by rfl, ?_⟩) (⟨ct, cx0, cx1, cx2, cr0, cr1, cr2, cr3⟩) ?_
      rotate_left 1
      · (intro w hSw; (try dsimp only at hSw); go_simp; try with_reducible rfl)
      try simp only [Act.put, List.setIfInBounds_toArray, List.set_cons_zero, List.set_cons_succ]
      refine wpAnyZ_one (i := 4) (by kernel_rfl) (ReadyZ.mk rfl (fun K hK => ?_))
      go_simp
      go_at_call 12
      refine (Calls.ce (sCloseExits_any B D m c _ d xs L false cl k hcl hkk _ S S2)).mono ?_
      rintro e y1 ⟨A2, q2, A3, q3, rfl, S5, S6, hle⟩
      replace ct := (hle.cell zt).trans ct
      replace cx0 := (hle.cell zx0).trans cx0
      replace cx1 := (hle.cell zx1).trans cx1
      replace cx2 := (hle.cell zx2).trans cx2
      replace cr0 := (hle.cell zr0).trans cr0
      replace cr1 := (hle.cell zr1).trans cr1
      replace cr2 := (hle.cell zr2).trans cr2
      replace cr3 := (hle.cell zr3).trans cr3
      replace zt := Nat.lt_of_lt_of_le zt hle.size
      replace zx0 := Nat.lt_of_lt_of_le zx0 hle.size
      replace zx1 := Nat.lt_of_lt_of_le zx1 hle.size
      replace zx2 := Nat.lt_of_lt_of_le zx2 hle.size
      replace zr0 := Nat.lt_of_lt_of_le zr0 hle.size
      replace zr1 := Nat.lt_of_lt_of_le zr1 hle.size
      replace zr2 := Nat.lt_of_lt_of_le zr2 hle.size
      replace zr3 := Nat.lt_of_lt_of_le zr3 hle.size
      replace S := S.le hle
      replace L0 := L0.trans hle
      replace S2 := S2.le hle
      replace S3 := S3.le hle
      replace S4 := S4.le hle
      clear hle
      refine hK.out _ _ (fun _ => ⟨ct, cx0, cx1, cx2, cr0, cr1, cr2, cr3⟩) ?_
      clear hK K
      try simp only [Act.put, List.setIfInBounds_toArray, List.set_cons_zero, List.set_cons_succ]
      refine wpAnyZ_one (i := 5) (by kernel_rfl) (ReadyZ.mk rfl (fun K hK => ?_))
      go_simp
      go_at_call 11
      refine (equalResult_self _ _ _ _ _ _ _ _ _ _ (ceL xs L false cl k) (ceH xs L false cl k) _ _ _ S3 S5 S4 S6).mono ?_
      rintro e y2 ⟨rfl, hle⟩
      replace ct := (hle.cell zt).trans ct
      replace cx0 := (hle.cell zx0).trans cx0
      replace cx1 := (hle.cell zx1).trans cx1
      replace cx2 := (hle.cell zx2).trans cx2
      replace cr0 := (hle.cell zr0).trans cr0
      replace cr1 := (hle.cell zr1).trans cr1
      replace cr2 := (hle.cell zr2).trans cr2
      replace cr3 := (hle.cell zr3).trans cr3
      replace zt := Nat.lt_of_lt_of_le zt hle.size
      replace zx0 := Nat.lt_of_lt_of_le zx0 hle.size
      replace zx1 := Nat.lt_of_lt_of_le zx1 hle.size
      replace zx2 := Nat.lt_of_lt_of_le zx2 hle.size
      replace zr0 := Nat.lt_of_lt_of_le zr0 hle.size
      replace zr1 := Nat.lt_of_lt_of_le zr1 hle.size
      replace zr2 := Nat.lt_of_lt_of_le zr2 hle.size
      replace zr3 := Nat.lt_of_lt_of_le zr3 hle.size
      replace S := S.le hle
      replace L0 := L0.trans hle
      replace S2 := S2.le hle
      replace S3 := S3.le hle
      replace S4 := S4.le hle
      clear hle S5 S6
      refine hK.out _ _ (fun _ => ⟨ct, cx0, cx1, cx2, cr0, cr1, cr2, cr3⟩) ?_
      clear hK K
      try simp only [Act.put, List.setIfInBounds_toArray, List.set_cons_zero, List.set_cons_succ]
      refine wpAnyZ_take (i := 6) (v := ?_) rfl (by kernel_rfl) (fun _ _ _ h => h) (Or.inl ⟨by rfl, ?_⟩) (⟨ct, cx0, cx1, cx2, cr0, cr1, cr2, cr3⟩) ?_
      rotate_left 1
      · (intro w hSw; (try dsimp only at hSw); go_simp; try with_reducible rfl)
      try simp only [Act.put, List.setIfInBounds_toArray, List.set_cons_zero, List.set_cons_succ]
      refine wpAnyZ_done (by kernel_rfl) ?_ _
      refine NoPanic.normal ?_
      go_wp2
      go_ret
      exact ⟨rfl, L0⟩
    obtain rfl := h1
    by_cases h2 : k = 0
    rotate_left
    · have h2b : (k != 0) = true := by simpa using h2
      replace ct := (show W3.drew.cell? _ = _ from ct)
      replace zt := (show _ < W3.drew.heap.size from zt)
      replace cx0 := (show W3.drew.cell? _ = _ from cx0)
      replace zx0 := (show _ < W3.drew.heap.size from zx0)
      replace cx1 := (show W3.drew.cell? _ = _ from cx1)
      replace zx1 := (show _ < W3.drew.heap.size from zx1)
      replace cx2 := (show W3.drew.cell? _ = _ from cx2)
      replace zx2 := (show _ < W3.drew.heap.size from zx2)
      replace cr0 := (show W3.drew.cell? _ = _ from cr0)
      replace zr0 := (show _ < W3.drew.heap.size from zr0)
      replace cr1 := (show W3.drew.cell? _ = _ from cr1)
      replace zr1 := (show _ < W3.drew.heap.size from zr1)
      replace cr2 := (show W3.drew.cell? _ = _ from cr2)
      replace zr2 := (show _ < W3.drew.heap.size from zr2)
      replace cr3 := (show W3.drew.cell? _ = _ from cr3)
      replace zr3 := (show _ < W3.drew.heap.size from zr3)
      replace S := S.le (Le.refl _).drew
      replace L0 := L0.drew
      replace S2 := S2.le (Le.refl _).drew
      replace S3 := S3.le (Le.refl _).drew
      replace S4 := S4.le (Le.refl _).drew
      refine wp_region_noPanic ?_
      refine wp_region_Z (fun w' => w'.cell? ⟨w1.heap.size, 0, none⟩ = some (.slice B m c) ∧ w'.cell? ⟨w1.heap.size + 1, 0, none⟩ = some (.bool false) ∧ w'.cell? ⟨w1.heap.size + 1, 1, none⟩ = some (.int .i64 0) ∧ w'.cell? ⟨w1.heap.size + 1, 2, none⟩ = some (.int .i64 k) ∧ w'.cell? ⟨w3.heap.size, 0, none⟩ = some (.slice A0 (ceL xs L false 0 k).length q0) ∧ w'.cell? ⟨w3.heap.size, 1, none⟩ = some (.int .i64 (ceE xs L false 0 k)) ∧ w'.cell? ⟨w3.heap.size, 2, none⟩ = some (.int .i64 (ceV xs L false 0 k)) ∧ w'.cell? ⟨w3.heap.size, 3, none⟩ = some (.slice A1 (ceH xs L false 0 k).length q1)) [] (by kernel_rfl) ?_
      generalize W3.drew = U at *
      refine wpAnyZ_take (i := 0) (v := ?_) rfl (by kernel_rfl) (fun _ _ _ h => h) (Or.inl ⟨by rfl, ?_⟩) (⟨ct, cx0, cx1, cx2, cr0, cr1, cr2, cr3⟩) ?_
      rotate_left 1
      · (intro w hSw; (try dsimp only at hSw); go_simp; try with_reducible rfl)
      try simp only [Act.put, List.setIfInBounds_toArray, List.set_cons_zero, List.set_cons_succ]
      refine wpAnyZ_take (i := 1) (v := ?_) rfl (by kernel_rfl) (fun _ _ _ h => h) (Or.inl ⟨by rfl, ?_⟩) (⟨ct, cx0, cx1, cx2, cr0, cr1, cr2, cr3⟩) ?_
      rotate_left 1
      · (intro w hSw; (try dsimp only at hSw); go_simp; try with_reducible rfl)
      try simp only [Act.put, List.setIfInBounds_toArray, List.set_cons_zero, List.set_cons_succ]
      refine wpAnyZ_take (i := 2) (v := ?_) rfl (by kernel_rfl) (fun _ _ _ h => h) (Or.inl ⟨by rfl, ?_⟩) (⟨ct, cx0, cx1, cx2, cr0, cr1, cr2, cr3⟩) ?_
      rotate_left 1
      · (intro w hSw; (try dsimp only at hSw); go_simp; try with_reducible rfl)
      try simp only [Act.put, List.setIfInBounds_toArray, List.set_cons_zero, List.set_cons_succ]
      refine wpAnyZ_take (i := 3) (v := ?_) rfl (by kernel_rfl) (fun _ _ _ h => h) (Or.inl ⟨by rfl, ?_⟩) (⟨ct, cx0, cx1, cx2, cr0, cr1, cr2, cr3⟩) ?_
      rotate_left 1
      · (intro w hSw; (try dsimp only at hSw); go_simp; try with_reducible rfl)
      try simp only [Act.put, List.setIfInBounds_toArray, List.set_cons_zero, List.set_cons_succ]
      refine wpAnyZ_one (i := 4) (by kernel_rfl) (ReadyZ.mk rfl (fun K hK => ?_))
      go_simp
      go_at_call 12
      refine (Calls.ce (sCloseExits_any B D m c _ d xs L false 0 k hcl hkk _ S S2)).mono ?_
      rintro e u1 ⟨A2, q2, A3, q3, rfl, S5, S6, hle⟩
      replace ct := (hle.cell zt).trans ct
      replace cx0 := (hle.cell zx0).trans cx0
      replace cx1 := (hle.cell zx1).trans cx1
      replace cx2 := (hle.cell zx2).trans cx2
      replace cr0 := (hle.cell zr0).trans cr0
      replace cr1 := (hle.cell zr1).trans cr1
      replace cr2 := (hle.cell zr2).trans cr2
      replace cr3 := (hle.cell zr3).trans cr3
      replace zt := Nat.lt_of_lt_of_le zt hle.size
      replace zx0 := Nat.lt_of_lt_of_le zx0 hle.size
      replace zx1 := Nat.lt_of_lt_of_le zx1 hle.size
      replace zx2 := Nat.lt_of_lt_of_le zx2 hle.size
      replace zr0 := Nat.lt_of_lt_of_le zr0 hle.size
      replace zr1 := Nat.lt_of_lt_of_le zr1 hle.size
      replace zr2 := Nat.lt_of_lt_of_le zr2 hle.size
      replace zr3 := Nat.lt_of_lt_of_le zr3 hle.size
      replace S := S.le hle
      replace L0 := L0.trans hle
      replace S2 := S2.le hle
      replace S3 := S3.le hle
      replace S4 := S4.le hle
      clear hle
      refine hK.out _ _ (fun _ => ⟨ct, cx0, cx1, cx2, cr0, cr1, cr2, cr3⟩) ?_
      clear hK K
      try simp only [Act.put, List.setIfInBounds_toArray, List.set_cons_zero, List.set_cons_succ]
      refine wpAnyZ_one (i := 5) (by kernel_rfl) (ReadyZ.mk rfl (fun K hK => ?_))
      go_simp
      go_at_call 11
      refine (equalResult_self _ _ _ _ _ _ _ _ _ _ (ceL xs L false 0 k) (ceH xs L false 0 k) _ _ _ S3 S5 S4 S6).mono ?_
      rintro e u2 ⟨rfl, hle⟩
      replace ct := (hle.cell zt).trans ct
      replace cx0 := (hle.cell zx0).trans cx0
      replace cx1 := (hle.cell zx1).trans cx1
      replace cx2 := (hle.cell zx2).trans cx2
      replace cr0 := (hle.cell zr0).trans cr0
      replace cr1 := (hle.cell zr1).trans cr1
      replace cr2 := (hle.cell zr2).trans cr2
      replace cr3 := (hle.cell zr3).trans cr3
      replace zt := Nat.lt_of_lt_of_le zt hle.size
      replace zx0 := Nat.lt_of_lt_of_le zx0 hle.size
      replace zx1 := Nat.lt_of_lt_of_le zx1 hle.size
      replace zx2 := Nat.lt_of_lt_of_le zx2 hle.size
      replace zr0 := Nat.lt_of_lt_of_le zr0 hle.size
      replace zr1 := Nat.lt_of_lt_of_le zr1 hle.size
      replace zr2 := Nat.lt_of_lt_of_le zr2 hle.size
      replace zr3 := Nat.lt_of_lt_of_le zr3 hle.size
      replace S := S.le hle
      replace L0 := L0.trans hle
      replace S2 := S2.le hle
      replace S3 := S3.le hle
      replace S4 := S4.le hle
      clear hle S5 S6
      refine hK.out _ _ (fun _ => ⟨ct, cx0, cx1, cx2, cr0, cr1, cr2, cr3⟩) ?_
      clear hK K
      try simp only [Act.put, List.setIfInBounds_toArray, List.set_cons_zero, List.set_cons_succ]
      refine wpAnyZ_take (i := 6) (v := ?_) rfl (by kernel_rfl) (fun _ _ _ h => h) (Or.inl ⟨by rfl, ?_⟩) (⟨ct, cx0, cx1, cx2, cr0, cr1, cr2, cr3⟩) ?_
      rotate_left 1
      · (intro w hSw; (try dsimp only at hSw); go_simp; try with_reducible rfl)
      try simp only [Act.put, List.setIfInBounds_toArray, List.set_cons_zero, List.set_cons_succ]
      refine wpAnyZ_take (i := 7) (v := ?_) rfl (by kernel_rfl) (fun _ _ _ h => h) (Or.inl ⟨by rfl, ?_⟩) (⟨ct, cx0, cx1, cx2, cr0, cr1, cr2, cr3⟩) ?_
      rotate_left 1
      · (intro w hSw; (try dsimp only at hSw); go_simp; try with_reducible rfl)
      try simp only [Act.put, List.setIfInBounds_toArray, List.set_cons_zero, List.set_cons_succ]
      refine wpAnyZ_take (i := 8) (v := ?_) rfl (by kernel_rfl) (fun _ _ _ h => h) (Or.inl ⟨by rfl, ?_⟩) (⟨ct, cx0, cx1, cx2, cr0, cr1, cr2, cr3⟩) ?_
      rotate_left 1
      · (intro w hSw; (try dsimp only at hSw); go_simp; try with_reducible rfl)
      try simp only [Act.put, List.setIfInBounds_toArray, List.set_cons_zero, List.set_cons_succ]
      refine wpAnyZ_take (i := 9) (v := ?_) rfl (by kernel_rfl) (fun _ _ _ h => h) (Or.inl ⟨by rfl, ?_⟩) (⟨ct, cx0, cx1, cx2, cr0, cr1, cr2, cr3⟩) ?_
      rotate_left 1
      · (intro w hSw; (try dsimp only at hSw); go_simp; try with_reducible rfl)
      try simp only [Act.put, List.setIfInBounds_toArray, List.set_cons_zero, List.set_cons_succ]
      refine wpAnyZ_one (i := 10) (by kernel_rfl) (ReadyZ.mk rfl (fun K hK => ?_))
      go_simp
      go_at_call 13
      refine (Calls.val (iValidExits_any B D m c _ d xs L _ S S2) (by rw [hv])).mono ?_
      rintro e u3 ⟨rfl, hle⟩
      replace ct := (hle.cell zt).trans ct
      replace cx0 := (hle.cell zx0).trans cx0
      replace cx1 := (hle.cell zx1).trans cx1
      replace cx2 := (hle.cell zx2).trans cx2
      replace cr0 := (hle.cell zr0).trans cr0
      replace cr1 := (hle.cell zr1).trans cr1
      replace cr2 := (hle.cell zr2).trans cr2
      replace cr3 := (hle.cell zr3).trans cr3
      replace zt := Nat.lt_of_lt_of_le zt hle.size
      replace zx0 := Nat.lt_of_lt_of_le zx0 hle.size
      replace zx1 := Nat.lt_of_lt_of_le zx1 hle.size
      replace zx2 := Nat.lt_of_lt_of_le zx2 hle.size
      replace zr0 := Nat.lt_of_lt_of_le zr0 hle.size
      replace zr1 := Nat.lt_of_lt_of_le zr1 hle.size
      replace zr2 := Nat.lt_of_lt_of_le zr2 hle.size
      replace zr3 := Nat.lt_of_lt_of_le zr3 hle.size
      replace S := S.le hle
      replace L0 := L0.trans hle
      replace S2 := S2.le hle
      replace S3 := S3.le hle
      replace S4 := S4.le hle
      clear hle
      refine hK.out _ _ (fun _ => ⟨ct, cx0, cx1, cx2, cr0, cr1, cr2, cr3⟩) ?_
      clear hK K
      try simp only [Act.put, List.setIfInBounds_toArray, List.set_cons_zero, List.set_cons_succ]
      refine wpAnyZ_take (i := 11) (v := ?_) rfl (by kernel_rfl) (fun _ _ _ h => h) (Or.inl ⟨by rfl, ?_⟩) (⟨ct, cx0, cx1, cx2, cr0, cr1, cr2, cr3⟩) ?_
      rotate_left 1
      · (intro w hSw; (try dsimp only at hSw); go_simp; try with_reducible rfl)
      try simp only [Act.put, List.setIfInBounds_toArray, List.set_cons_zero, List.set_cons_succ]
      refine wpAnyZ_take (i := 12) (v := ?_) rfl (by kernel_rfl) (fun _ _ _ h => h) (Or.inl ⟨by rfl, ?_⟩) (⟨ct, cx0, cx1, cx2, cr0, cr1, cr2, cr3⟩) ?_
      rotate_left 1
      · (intro w hSw; (try dsimp only at hSw); go_simp; try with_reducible rfl)
      try simp only [Act.put, List.setIfInBounds_toArray, List.set_cons_zero, List.set_cons_succ]
      refine wpAnyZ_take (i := 13) (v := ?_) rfl (by kernel_rfl) (fun _ _ _ h => h) (Or.inl ⟨by rfl, ?_⟩) (⟨ct, cx0, cx1, cx2, cr0, cr1, cr2, cr3⟩) ?_
      rotate_left 1
      · (intro w hSw; (try dsimp only at hSw); go_simp; try with_reducible rfl)
      try simp only [Act.put, List.setIfInBounds_toArray, List.set_cons_zero, List.set_cons_succ]
      refine wpAnyZ_take (i := 14) (v := ?_) rfl (by kernel_rfl) (fun _ _ _ h => h) (Or.inl ⟨by rfl, ?_⟩) (⟨ct, cx0, cx1, cx2, cr0, cr1, cr2, cr3⟩) ?_
      rotate_left 1
      · (intro w hSw; (try dsimp only at hSw); go_simp; try with_reducible rfl)
      try simp only [Act.put, List.setIfInBounds_toArray, List.set_cons_zero, List.set_cons_succ]
      refine wpAnyZ_take (i := 15) (v := ?_) rfl (by kernel_rfl) (fun _ _ _ h => h) (Or.inl ⟨by rfl, ?_⟩) (⟨ct, cx0, cx1, cx2, cr0, cr1, cr2, cr3⟩) ?_
      rotate_left 1
      · (intro w hSw; (try dsimp only at hSw); go_simp; try with_reducible rfl)
      try simp only [Act.put, List.setIfInBounds_toArray, List.set_cons_zero, List.set_cons_succ]
      refine wpAnyZ_take (i := 16) (v := ?_) rfl (by kernel_rfl) (fun _ _ _ h => h) (Or.inl ⟨by rfl, ?_⟩) (⟨ct, cx0, cx1, cx2, cr0, cr1, cr2, cr3⟩) ?_
      rotate_left 1
      · (intro w hSw; (try dsimp only at hSw); go_simp; try with_reducible rfl)
      try simp only [Act.put, List.setIfInBounds_toArray, List.set_cons_zero, List.set_cons_succ]
      refine wpAnyZ_take (i := 17) (v := undef) rfl (by kernel_rfl) (fun _ _ _ h => h) (Or.inr ⟨?_, rfl⟩) (⟨ct, cx0, cx1, cx2, cr0, cr1, cr2, cr3⟩) ?_
      · rfl
      try simp only [Act.put, List.setIfInBounds_toArray, List.set_cons_zero, List.set_cons_succ]
      refine wpAnyZ_take (i := 18) (v := undef) rfl (by kernel_rfl) (fun _ _ _ h => h) (Or.inr ⟨?_, rfl⟩) (⟨ct, cx0, cx1, cx2, cr0, cr1, cr2, cr3⟩) ?_
      · rfl
      try simp only [Act.put, List.setIfInBounds_toArray, List.set_cons_zero, List.set_cons_succ]
      refine wpAnyZ_take (i := 19) (v := undef) rfl (by kernel_rfl) (fun _ _ _ h => h) (Or.inr ⟨?_, rfl⟩) (⟨ct, cx0, cx1, cx2, cr0, cr1, cr2, cr3⟩) ?_
      · rfl
      try simp only [Act.put, List.setIfInBounds_toArray, List.set_cons_zero, List.set_cons_succ]
      refine wpAnyZ_take (i := 20) (v := undef) rfl (by kernel_rfl) (fun _ _ _ h => h) (Or.inr ⟨?_, rfl⟩) (⟨ct, cx0, cx1, cx2, cr0, cr1, cr2, cr3⟩) ?_
      · rfl
      try simp only [Act.put, List.setIfInBounds_toArray, List.set_cons_zero, List.set_cons_succ]
      refine wpAnyZ_take (i := 21) (v := undef) rfl (by kernel_rfl) (fun _ _ _ h => h) (Or.inr ⟨?_, rfl⟩) (⟨ct, cx0, cx1, cx2, cr0, cr1, cr2, cr3⟩) ?_
      · rfl
      try simp only [Act.put, List.setIfInBounds_toArray, List.set_cons_zero, List.set_cons_succ]
      refine wpAnyZ_take (i := 22) (v := ?_) rfl (by kernel_rfl) (fun _ _ _ h => h) (Or.inl ⟨by rfl, ?_⟩) (⟨ct, cx0, cx1, cx2, cr0, cr1, cr2, cr3⟩) ?_
      rotate_left 1
      · (intro w hSw; (try dsimp only at hSw); go_simp; try with_reducible rfl)
      try simp only [Act.put, List.setIfInBounds_toArray, List.set_cons_zero, List.set_cons_succ]
      refine wpAnyZ_take (i := 23) (v := ?_) rfl (by kernel_rfl) (fun _ _ _ h => h) (Or.inl ⟨by rfl, ?_⟩) (⟨ct, cx0, cx1, cx2, cr0, cr1, cr2, cr3⟩) ?_
      rotate_left 1
      · (intro w hSw; (try dsimp only at hSw); go_simp; try with_reducible rfl)
      try simp only [Act.put, List.setIfInBounds_toArray, List.set_cons_zero, List.set_cons_succ]
      refine wpAnyZ_take (i := 24) (v := ?_) rfl (by kernel_rfl) (fun _ _ _ h => h) (Or.inl ⟨by rfl, ?_⟩) (⟨ct, cx0, cx1, cx2, cr0, cr1, cr2, cr3⟩) ?_
      rotate_left 1
      · (intro w hSw; (try dsimp only at hSw); go_simp; try with_reducible rfl)
      try simp only [Act.put, List.setIfInBounds_toArray, List.set_cons_zero, List.set_cons_succ]
      refine wpAnyZ_take (i := 25) (v := ?_) rfl (by kernel_rfl) (fun _ _ _ h => h) (Or.inl ⟨by rfl, ?_⟩) (⟨ct, cx0, cx1, cx2, cr0, cr1, cr2, cr3⟩) ?_
      rotate_left 1
      · (intro w hSw; (try dsimp only at hSw); go_simp; try with_reducible rfl)
      try simp only [Act.put, List.setIfInBounds_toArray, List.set_cons_zero, List.set_cons_succ]
      refine wpAnyZ_take (i := 26) (v := ?_) rfl (by kernel_rfl) (fun _ _ _ h => h) (Or.inl ⟨by rfl, ?_⟩) (⟨ct, cx0, cx1, cx2, cr0, cr1, cr2, cr3⟩) ?_
      rotate_left 1
      · (intro w hSw; (try dsimp only at hSw); go_simp; try with_reducible rfl)
      try simp only [Act.put, List.setIfInBounds_toArray, List.set_cons_zero, List.set_cons_succ]
      refine wpAnyZ_take (i := 27) (v := ?_) rfl (by kernel_rfl) (fun _ _ _ h => h) (Or.inl ⟨by rfl, ?_⟩) (⟨ct, cx0, cx1, cx2, cr0, cr1, cr2, cr3⟩) ?_
      rotate_left 1
      · (intro w hSw; (try dsimp only at hSw); go_simp; try with_reducible rfl)
      try simp only [Act.put, List.setIfInBounds_toArray, List.set_cons_zero, List.set_cons_succ]
      refine wpAnyZ_take (i := 28) (v := undef) rfl (by kernel_rfl) (fun _ _ _ h => h) (Or.inr ⟨?_, rfl⟩) (⟨ct, cx0, cx1, cx2, cr0, cr1, cr2, cr3⟩) ?_
      · rfl
      try simp only [Act.put, List.setIfInBounds_toArray, List.set_cons_zero, List.set_cons_succ]
      refine wpAnyZ_take (i := 29) (v := undef) rfl (by kernel_rfl) (fun _ _ _ h => h) (Or.inr ⟨?_, rfl⟩) (⟨ct, cx0, cx1, cx2, cr0, cr1, cr2, cr3⟩) ?_
      · rfl
      try simp only [Act.put, List.setIfInBounds_toArray, List.set_cons_zero, List.set_cons_succ]
      refine wpAnyZ_take (i := 30) (v := undef) rfl (by kernel_rfl) (fun _ _ _ h => h) (Or.inr ⟨?_, rfl⟩) (⟨ct, cx0, cx1, cx2, cr0, cr1, cr2, cr3⟩) ?_
      · rfl
      try simp only [Act.put, List.setIfInBounds_toArray, List.set_cons_zero, List.set_cons_succ]
      refine wpAnyZ_take (i := 31) (v := undef) rfl (by kernel_rfl) (fun _ _ _ h => h) (Or.inr ⟨?_, rfl⟩) (⟨ct, cx0, cx1, cx2, cr0, cr1, cr2, cr3⟩) ?_
      · rfl
      try simp only [Act.put, List.setIfInBounds_toArray, List.set_cons_zero, List.set_cons_succ]
      refine wpAnyZ_take (i := 32) (v := undef) rfl (by kernel_rfl) (fun _ _ _ h => h) (Or.inr ⟨?_, rfl⟩) (⟨ct, cx0, cx1, cx2, cr0, cr1, cr2, cr3⟩) ?_
      · rfl
      try simp only [Act.put, List.setIfInBounds_toArray, List.set_cons_zero, List.set_cons_succ]
      refine wpAnyZ_take (i := 33) (v := undef) rfl (by kernel_rfl) (fun _ _ _ h => h) (Or.inr ⟨?_, rfl⟩) (⟨ct, cx0, cx1, cx2, cr0, cr1, cr2, cr3⟩) ?_
      · rfl
      try simp only [Act.put, List.setIfInBounds_toArray, List.set_cons_zero, List.set_cons_succ]
      refine wpAnyZ_take (i := 34) (v := undef) rfl (by kernel_rfl) (fun _ _ _ h => h) (Or.inr ⟨?_, rfl⟩) (⟨ct, cx0, cx1, cx2, cr0, cr1, cr2, cr3⟩) ?_
      · rfl
      try simp only [Act.put, List.setIfInBounds_toArray, List.set_cons_zero, List.set_cons_succ]
      refine wpAnyZ_take (i := 35) (v := undef) rfl (by kernel_rfl) (fun _ _ _ h => h) (Or.inr ⟨?_, rfl⟩) (⟨ct, cx0, cx1, cx2, cr0, cr1, cr2, cr3⟩) ?_
      · rfl
      try simp only [Act.put, List.setIfInBounds_toArray, List.set_cons_zero, List.set_cons_succ]
      refine wpAnyZ_take (i := 36) (v := ?_) rfl (by kernel_rfl) (fun _ _ _ h => h) (Or.inl ⟨by rfl, ?_⟩) (⟨ct, cx0, cx1, cx2, cr0, cr1, cr2, cr3⟩) ?_
      rotate_left 1
      · (intro w hSw; (try dsimp only at hSw); go_simp; try with_reducible rfl)
      try simp only [Act.put, List.setIfInBounds_toArray, List.set_cons_zero, List.set_cons_succ]
      refine wpAnyZ_take (i := 37) (v := ?_) rfl (by kernel_rfl) (fun _ _ _ h => h) (Or.inl ⟨by rfl, ?_⟩) (⟨ct, cx0, cx1, cx2, cr0, cr1, cr2, cr3⟩) ?_
      rotate_left 1
      · (intro w hSw; (try dsimp only at hSw); go_simp; try with_reducible rfl)
      try simp only [Act.put, List.setIfInBounds_toArray, List.set_cons_zero, List.set_cons_succ]
      refine wpAnyZ_take (i := 38) (v := ?_) rfl (by kernel_rfl) (fun _ _ _ h => h) (Or.inl ⟨by rfl, ?_⟩) (⟨ct, cx0, cx1, cx2, cr0, cr1, cr2, cr3⟩) ?_
      rotate_left 1
      · (intro w hSw; (try dsimp only at hSw); go_simp; try with_reducible rfl)
      try simp only [Act.put, List.setIfInBounds_toArray, List.set_cons_zero, List.set_cons_succ]
      refine wpAnyZ_take (i := 39) (v := ?_) rfl (by kernel_rfl) (fun _ _ _ h => h) (Or.inl ⟨by rfl, ?_⟩) (⟨ct, cx0, cx1, cx2, cr0, cr1, cr2, cr3⟩) ?_
      rotate_left 1
      · (intro w hSw; (try dsimp only at hSw); go_simp; try with_reducible rfl)
      try simp only [Act.put, List.setIfInBounds_toArray, List.set_cons_zero, List.set_cons_succ]
      refine wpAnyZ_take (i := 40) (v := ?_) rfl (by kernel_rfl) (fun _ _ _ h => h) (Or.inl ⟨by rfl, ?_⟩) (⟨ct, cx0, cx1, cx2, cr0, cr1, cr2, cr3⟩) ?_
      rotate_left 1
      · (intro w hSw; (try dsimp only at hSw); go_simp; try with_reducible rfl)
      try simp only [Act.put, List.setIfInBounds_toArray, List.set_cons_zero, List.set_cons_succ]
      refine wpAnyZ_take (i := 41) (v := ?_) rfl (by kernel_rfl) (fun _ _ _ h => h) (Or.inl ⟨by rfl, ?_⟩) (⟨ct, cx0, cx1, cx2, cr0, cr1, cr2, cr3⟩) ?_
      rotate_left 1
      · (intro w hSw; (try dsimp only at hSw); go_simp; try with_reducible rfl)
      try simp only [Act.put, List.setIfInBounds_toArray, List.set_cons_zero, List.set_cons_succ]
      refine wpAnyZ_take (i := 42) (v := ?_) rfl (by kernel_rfl) (fun _ _ _ h => h) (Or.inl ⟨by rfl, ?_⟩) (⟨ct, cx0, cx1, cx2, cr0, cr1, cr2, cr3⟩) ?_
      rotate_left 1
      · (intro w hSw; (try dsimp only at hSw); go_simp; try with_reducible rfl)
      try simp only [Act.put, List.setIfInBounds_toArray, List.set_cons_zero, List.set_cons_succ]
      refine wpAnyZ_take (i := 43) (v := ?_) rfl (by kernel_rfl) (fun _ _ _ h => h) (Or.inl ⟨by rfl, ?_⟩) (⟨ct, cx0, cx1, cx2, cr0, cr1, cr2, cr3⟩) ?_
      rotate_left 1
      · (intro w hSw; (try dsimp only at hSw); go_simp; try with_reducible rfl)
      try simp only [Act.put, List.setIfInBounds_toArray, List.set_cons_zero, List.set_cons_succ]
      refine wpAnyZ_take (i := 44) (v := ?_) rfl (by kernel_rfl) (fun _ _ _ h => h) (Or.inl ⟨by rfl, ?_⟩) (⟨ct, cx0, cx1, cx2, cr0, cr1, cr2, cr3⟩) ?_
      rotate_left 1
      · (intro w hSw; (try dsimp only at hSw); go_simp; try with_reducible rfl)
      try simp only [Act.put, List.setIfInBounds_toArray, List.set_cons_zero, List.set_cons_succ]
      refine wpAnyZ_take (i := 45) (v := ?_) rfl (by kernel_rfl) (fun _ _ _ h => h) (Or.inl ⟨by rfl, ?_⟩) (⟨ct, cx0, cx1, cx2, cr0, cr1, cr2, cr3⟩) ?_
      rotate_left 1
      · (intro w hSw; (try dsimp only at hSw); go_simp; try with_reducible rfl)
      try simp only [Act.put, List.setIfInBounds_toArray, List.set_cons_zero, List.set_cons_succ]
      refine wpAnyZ_take (i := 46) (v := ?_) rfl (by kernel_rfl) (fun _ _ _ h => h) (Or.inl ⟨by rfl, ?_⟩) (⟨ct, cx0, cx1, cx2, cr0, cr1, cr2, cr3⟩) ?_
      rotate_left 1
      · (intro w hSw; (try dsimp only at hSw); go_simp; try with_reducible rfl)
      try simp only [Act.put, List.setIfInBounds_toArray, List.set_cons_zero, List.set_cons_succ]
      refine wpAnyZ_take (i := 47) (v := ?_) rfl (by kernel_rfl) (fun _ _ _ h => h) (Or.inl ⟨by rfl, ?_⟩) (⟨ct, cx0, cx1, cx2, cr0, cr1, cr2, cr3⟩) ?_
      rotate_left 1
      · (intro w hSw; (try dsimp only at hSw); go_simp; try with_reducible rfl)
      try simp only [Act.put, List.setIfInBounds_toArray, List.set_cons_zero, List.set_cons_succ]
      refine wpAnyZ_take (i := 48) (v := ?_) rfl (by kernel_rfl) (fun _ _ _ h => h) (Or.inl ⟨by rfl, ?_⟩) (⟨ct, cx0, cx1, cx2, cr0, cr1, cr2, cr3⟩) ?_
      rotate_left 1
      · (intro w hSw; (try dsimp only at hSw); go_simp; try with_reducible rfl)
      try simp only [Act.put, List.setIfInBounds_toArray, List.set_cons_zero, List.set_cons_succ]
      refine wpAnyZ_take (i := 49) (v := ?_) rfl (by kernel_rfl) (fun _ _ _ h => h) (Or.inl ⟨by rfl, ?_⟩) (⟨ct, cx0, cx1, cx2, cr0, cr1, cr2, cr3⟩) ?_
      rotate_left 1
      · (intro w hSw; (try dsimp only at hSw); go_simp; try with_reducible rfl)
      try simp only [Act.put, List.setIfInBounds_toArray, List.set_cons_zero, List.set_cons_succ]
      refine wpAnyZ_take (i := 50) (v := ?_) rfl (by kernel_rfl) (fun _ _ _ h => h) (Or.inl ⟨by rfl, ?_⟩) (⟨ct, cx0, cx1, cx2, cr0, cr1, cr2, cr3⟩) ?_
      rotate_left 1
      · (intro w hSw; (try dsimp only at hSw); go_simp; try with_reducible rfl)
      try simp only [Act.put, List.setIfInBounds_toArray, List.set_cons_zero, List.set_cons_succ]
      refine wpAnyZ_take (i := 51) (v := ?_) rfl (by kernel_rfl) (fun _ _ _ h => h) (Or.inl ⟨by rfl, ?_⟩) (⟨ct, cx0, cx1, cx2, cr0, cr1, cr2, cr3⟩) ?_
      rotate_left 1
      · (intro w hSw; (try dsimp only at hSw); go_simp; try with_reducible rfl)
      try simp only [Act.put, List.setIfInBounds_toArray, List.set_cons_zero, List.set_cons_succ]
      refine wpAnyZ_take (i := 52) (v := ?_) rfl (by kernel_rfl) (fun _ _ _ h => h) (Or.inl ⟨by rfl, ?_⟩) (⟨ct, cx0, cx1, cx2, cr0, cr1, cr2, cr3⟩) ?_
      rotate_left 1
      · (intro w hSw; (try dsimp only at hSw); go_simp; try with_reducible rfl)
      try simp only [Act.put, List.setIfInBounds_toArray, List.set_cons_zero, List.set_cons_succ]
      refine wpAnyZ_done (by kernel_rfl) ?_ _
      refine NoPanic.normal ?_
      go_wp2_with fail
      replace ct := (show u3.drew.cell? _ = _ from ct)
      replace zt := (show _ < u3.drew.heap.size from zt)
      replace cx0 := (show u3.drew.cell? _ = _ from cx0)
      replace zx0 := (show _ < u3.drew.heap.size from zx0)
      replace cx1 := (show u3.drew.cell? _ = _ from cx1)
      replace zx1 := (show _ < u3.drew.heap.size from zx1)
      replace cx2 := (show u3.drew.cell? _ = _ from cx2)
      replace zx2 := (show _ < u3.drew.heap.size from zx2)
      replace cr0 := (show u3.drew.cell? _ = _ from cr0)
      replace zr0 := (show _ < u3.drew.heap.size from zr0)
      replace cr1 := (show u3.drew.cell? _ = _ from cr1)
      replace zr1 := (show _ < u3.drew.heap.size from zr1)
      replace cr2 := (show u3.drew.cell? _ = _ from cr2)
      replace zr2 := (show _ < u3.drew.heap.size from zr2)
      replace cr3 := (show u3.drew.cell? _ = _ from cr3)
      replace zr3 := (show _ < u3.drew.heap.size from zr3)
      replace S := S.le (Le.refl _).drew
      replace L0 := L0.drew
      replace S2 := S2.le (Le.refl _).drew
      replace S3 := S3.le (Le.refl _).drew
      replace S4 := S4.le (Le.refl _).drew
      refine wp_region_noPanic ?_
      refine wp_region_Z (fun w' => w'.cell? ⟨w1.heap.size, 0, none⟩ = some (.slice B m c) ∧ w'.cell? ⟨w1.heap.size + 1, 0, none⟩ = some (.bool false) ∧ w'.cell? ⟨w1.heap.size + 1, 1, none⟩ = some (.int .i64 0) ∧ w'.cell? ⟨w1.heap.size + 1, 2, none⟩ = some (.int .i64 k) ∧ w'.cell? ⟨w3.heap.size, 0, none⟩ = some (.slice A0 (ceL xs L false 0 k).length q0) ∧ w'.cell? ⟨w3.heap.size, 1, none⟩ = some (.int .i64 (ceE xs L false 0 k)) ∧ w'.cell? ⟨w3.heap.size, 2, none⟩ = some (.int .i64 (ceV xs L false 0 k)) ∧ w'.cell? ⟨w3.heap.size, 3, none⟩ = some (.slice A1 (ceH xs L false 0 k).length q1)) [] (by kernel_rfl) ?_
      generalize u3.drew = Y at *
      refine wpAnyZ_take (i := 0) (v := ?_) rfl (by kernel_rfl) (fun _ _ _ h => h) (Or.inl ⟨by rfl, ?_⟩) (⟨ct, cx0, cx1, cx2, cr0, cr1, cr2, cr3⟩) ?_
      rotate_left 1
      · (intro w hSw; (try dsimp only at hSw); go_simp; try with_reducible rfl)
      try simp only [Act.put, List.setIfInBounds_toArray, List.set_cons_zero, List.set_cons_succ]
      refine wpAnyZ_take (i := 1) (v := ?_) rfl (by kernel_rfl) (fun _ _ _ h => h) (Or.inl ⟨by rfl, ?_⟩) (⟨ct, cx0, cx1, cx2, cr0, cr1, cr2, cr3⟩) ?_
      rotate_left 1
      · (intro w hSw; (try dsimp only at hSw); go_simp; try with_reducible rfl)
      try simp only [Act.put, List.setIfInBounds_toArray, List.set_cons_zero, List.set_cons_succ]
      refine wpAnyZ_take (i := 2) (v := ?_) rfl (by kernel_rfl) (fun _ _ _ h => h) (Or.inl ⟨by rfl, ?_⟩) (⟨ct, cx0, cx1, cx2, cr0, cr1, cr2, cr3⟩) ?_
      rotate_left 1
      · (intro w hSw; (try dsimp only at hSw); go_simp; try with_reducible rfl)
      try simp only [Act.put, List.setIfInBounds_toArray, List.set_cons_zero, List.set_cons_succ]
      refine wpAnyZ_take (i := 3) (v := ?_) rfl (by kernel_rfl) (fun _ _ _ h => h) (Or.inl ⟨by rfl, ?_⟩) (⟨ct, cx0, cx1, cx2, cr0, cr1, cr2, cr3⟩) ?_
      rotate_left 1
      · (intro w hSw; (try dsimp only at hSw); go_simp; try with_reducible rfl)
      try simp only [Act.put, List.setIfInBounds_toArray, List.set_cons_zero, List.set_cons_succ]
      refine wpAnyZ_one (i := 4) (by kernel_rfl) (ReadyZ.mk rfl (fun K hK => ?_))
      go_simp
      go_at_call 12
      refine (Calls.ce (sCloseExits_any B D m c _ d xs L false 0 k hcl hkk _ S S2)).mono ?_
      rintro e y1 ⟨A2, q2, A3, q3, rfl, S5, S6, hle⟩
      replace ct := (hle.cell zt).trans ct
      replace cx0 := (hle.cell zx0).trans cx0
      replace cx1 := (hle.cell zx1).trans cx1
      replace cx2 := (hle.cell zx2).trans cx2
      replace cr0 := (hle.cell zr0).trans cr0
      replace cr1 := (hle.cell zr1).trans cr1
      replace cr2 := (hle.cell zr2).trans cr2
      replace cr3 := (hle.cell zr3).trans cr3
      replace zt := Nat.lt_of_lt_of_le zt hle.size
      replace zx0 := Nat.lt_of_lt_of_le zx0 hle.size
      replace zx1 := Nat.lt_of_lt_of_le zx1 hle.size
      replace zx2 := Nat.lt_of_lt_of_le zx2 hle.size
      replace zr0 := Nat.lt_of_lt_of_le zr0 hle.size
      replace zr1 := Nat.lt_of_lt_of_le zr1 hle.size
      replace zr2 := Nat.lt_of_lt_of_le zr2 hle.size
      replace zr3 := Nat.lt_of_lt_of_le zr3 hle.size
      replace S := S.le hle
      replace L0 := L0.trans hle
      replace S2 := S2.le hle
      replace S3 := S3.le hle
      replace S4 := S4.le hle
      clear hle
      refine hK.out _ _ (fun _ => ⟨ct, cx0, cx1, cx2, cr0, cr1, cr2, cr3⟩) ?_
      clear hK K
      try simp only [Act.put, List.setIfInBounds_toArray, List.set_cons_zero, List.set_cons_succ]
      refine wpAnyZ_one (i := 5) (by kernel_rfl) (ReadyZ.mk rfl (fun K hK => ?_))
      go_simp
      go_at_call 11
      refine (equalResult_self _ _ _ _ _ _ _ _ _ _ (ceL xs L false 0 k) (ceH xs L false 0 k) _ _ _ S3 S5 S4 S6).mono ?_
      rintro e y2 ⟨rfl, hle⟩
      replace ct := (hle.cell zt).trans ct
      replace cx0 := (hle.cell zx0).trans cx0
      replace cx1 := (hle.cell zx1).trans cx1
      replace cx2 := (hle.cell zx2).trans cx2
      replace cr0 := (hle.cell zr0).trans cr0
      replace cr1 := (hle.cell zr1).trans cr1
      replace cr2 := (hle.cell zr2).trans cr2
      replace cr3 := (hle.cell zr3).trans cr3
      replace zt := Nat.lt_of_lt_of_le zt hle.size
      replace zx0 := Nat.lt_of_lt_of_le zx0 hle.size
      replace zx1 := Nat.lt_of_lt_of_le zx1 hle.size
      replace zx2 := Nat.lt_of_lt_of_le zx2 hle.size
      replace zr0 := Nat.lt_of_lt_of_le zr0 hle.size
      replace zr1 := Nat.lt_of_lt_of_le zr1 hle.size
      replace zr2 := Nat.lt_of_lt_of_le zr2 hle.size
      replace zr3 := Nat.lt_of_lt_of_le zr3 hle.size
      replace S := S.le hle
      replace L0 := L0.trans hle
      replace S2 := S2.le hle
      replace S3 := S3.le hle
      replace S4 := S4.le hle
      clear hle S5 S6
      refine hK.out _ _ (fun _ => ⟨ct, cx0, cx1, cx2, cr0, cr1, cr2, cr3⟩) ?_
      clear hK K
      try simp only [Act.put, List.setIfInBounds_toArray, List.set_cons_zero, List.set_cons_succ]
      refine wpAnyZ_take (i := 6) (v := ?_) rfl (by kernel_rfl) (fun _ _ _ h => h) (Or.inl ⟨by rfl, ?_⟩) (⟨ct, cx0, cx1, cx2, cr0, cr1, cr2, cr3⟩) ?_
      rotate_left 1
      · (intro w hSw; (try dsimp only at hSw); go_simp; try with_reducible rfl)
      try simp only [Act.put, List.setIfInBounds_toArray, List.set_cons_zero, List.set_cons_succ]
      refine wpAnyZ_done (by kernel_rfl) ?_ _
      refine NoPanic.normal ?_
      go_wp2
      go_ret
      exact ⟨rfl, L0⟩
    obtain rfl := h2
    have HCS : csv xs false 0 0 = true := rfl
    replace ct := (show W3.drew.cell? _ = _ from ct)
    replace zt := (show _ < W3.drew.heap.size from zt)
    replace cx0 := (show W3.drew.cell? _ = _ from cx0)
    replace zx0 := (show _ < W3.drew.heap.size from zx0)
    replace cx1 := (show W3.drew.cell? _ = _ from cx1)
    replace zx1 := (show _ < W3.drew.heap.size from zx1)
    replace cx2 := (show W3.drew.cell? _ = _ from cx2)
    replace zx2 := (show _ < W3.drew.heap.size from zx2)
    replace cr0 := (show W3.drew.cell? _ = _ from cr0)
    replace zr0 := (show _ < W3.drew.heap.size from zr0)
    replace cr1 := (show W3.drew.cell? _ = _ from cr1)
    replace zr1 := (show _ < W3.drew.heap.size from zr1)
    replace cr2 := (show W3.drew.cell? _ = _ from cr2)
    replace zr2 := (show _ < W3.drew.heap.size from zr2)
    replace cr3 := (show W3.drew.cell? _ = _ from cr3)
    replace zr3 := (show _ < W3.drew.heap.size from zr3)
    replace S := S.le (Le.refl _).drew
    replace L0 := L0.drew
    replace S2 := S2.le (Le.refl _).drew
    replace S3 := S3.le (Le.refl _).drew
    replace S4 := S4.le (Le.refl _).drew
    refine wp_region_noPanic ?_
    refine wp_region_Z (fun w' => w'.cell? ⟨w1.heap.size, 0, none⟩ = some (.slice B m c) ∧ w'.cell? ⟨w1.heap.size + 1, 0, none⟩ = some (.bool false) ∧ w'.cell? ⟨w1.heap.size + 1, 1, none⟩ = some (.int .i64 0) ∧ w'.cell? ⟨w1.heap.size + 1, 2, none⟩ = some (.int .i64 0) ∧ w'.cell? ⟨w3.heap.size, 0, none⟩ = some (.slice A0 (ceL xs L false 0 0).length q0) ∧ w'.cell? ⟨w3.heap.size, 1, none⟩ = some (.int .i64 (ceE xs L false 0 0)) ∧ w'.cell? ⟨w3.heap.size, 2, none⟩ = some (.int .i64 (ceV xs L false 0 0)) ∧ w'.cell? ⟨w3.heap.size, 3, none⟩ = some (.slice A1 (ceH xs L false 0 0).length q1)) [] (by kernel_rfl) ?_
    generalize W3.drew = U at *
    refine wpAnyZ_take (i := 0) (v := ?_) rfl (by kernel_rfl) (fun _ _ _ h => h) (Or.inl ⟨by rfl, ?_⟩) (⟨ct, cx0, cx1, cx2, cr0, cr1, cr2, cr3⟩) ?_
    rotate_left 1
    · (intro w hSw; (try dsimp only at hSw); go_simp; try with_reducible rfl)
    try simp only [Act.put, List.setIfInBounds_toArray, List.set_cons_zero, List.set_cons_succ]
    refine wpAnyZ_take (i := 1) (v := ?_) rfl (by kernel_rfl) (fun _ _ _ h => h) (Or.inl ⟨by rfl, ?_⟩) (⟨ct, cx0, cx1, cx2, cr0, cr1, cr2, cr3⟩) ?_
    rotate_left 1
    · (intro w hSw; (try dsimp only at hSw); go_simp; try with_reducible rfl)
    try simp only [Act.put, List.setIfInBounds_toArray, List.set_cons_zero, List.set_cons_succ]
    refine wpAnyZ_take (i := 2) (v := ?_) rfl (by kernel_rfl) (fun _ _ _ h => h) (Or.inl ⟨by rfl, ?_⟩) (⟨ct, cx0, cx1, cx2, cr0, cr1, cr2, cr3⟩) ?_
    rotate_left 1
    · (intro w hSw; (try dsimp only at hSw); go_simp; try with_reducible rfl)
    try simp only [Act.put, List.setIfInBounds_toArray, List.set_cons_zero, List.set_cons_succ]
    refine wpAnyZ_take (i := 3) (v := ?_) rfl (by kernel_rfl) (fun _ _ _ h => h) (Or.inl ⟨by rfl, ?_⟩) (⟨ct, cx0, cx1, cx2, cr0, cr1, cr2, cr3⟩) ?_
    rotate_left 1
    · (intro w hSw; (try dsimp only at hSw); go_simp; try with_reducible rfl)
    try simp only [Act.put, List.setIfInBounds_toArray, List.set_cons_zero, List.set_cons_succ]
    refine wpAnyZ_one (i := 4) (by kernel_rfl) (ReadyZ.mk rfl (fun K hK => ?_))
    go_simp
    go_at_call 12
    refine (Calls.ce (sCloseExits_any B D m c _ d xs L false 0 0 hcl hkk _ S S2)).mono ?_
    rintro e u1 ⟨A2, q2, A3, q3, rfl, S5, S6, hle⟩
    replace ct := (hle.cell zt).trans ct
    replace cx0 := (hle.cell zx0).trans cx0
    replace cx1 := (hle.cell zx1).trans cx1
    replace cx2 := (hle.cell zx2).trans cx2
    replace cr0 := (hle.cell zr0).trans cr0
    replace cr1 := (hle.cell zr1).trans cr1
    replace cr2 := (hle.cell zr2).trans cr2
    replace cr3 := (hle.cell zr3).trans cr3
    replace zt := Nat.lt_of_lt_of_le zt hle.size
    replace zx0 := Nat.lt_of_lt_of_le zx0 hle.size
    replace zx1 := Nat.lt_of_lt_of_le zx1 hle.size
    replace zx2 := Nat.lt_of_lt_of_le zx2 hle.size
    replace zr0 := Nat.lt_of_lt_of_le zr0 hle.size
    replace zr1 := Nat.lt_of_lt_of_le zr1 hle.size
    replace zr2 := Nat.lt_of_lt_of_le zr2 hle.size
    replace zr3 := Nat.lt_of_lt_of_le zr3 hle.size
    replace S := S.le hle
    replace L0 := L0.trans hle
    replace S2 := S2.le hle
    replace S3 := S3.le hle
    replace S4 := S4.le hle
    clear hle
    refine hK.out _ _ (fun _ => ⟨ct, cx0, cx1, cx2, cr0, cr1, cr2, cr3⟩) ?_
    clear hK K
    try simp only [Act.put, List.setIfInBounds_toArray, List.set_cons_zero, List.set_cons_succ]
    refine wpAnyZ_one (i := 5) (by kernel_rfl) (ReadyZ.mk rfl (fun K hK => ?_))
    go_simp
    go_at_call 11
    refine (equalResult_self _ _ _ _ _ _ _ _ _ _ (ceL xs L false 0 0) (ceH xs L false 0 0) _ _ _ S3 S5 S4 S6).mono ?_
    rintro e u2 ⟨rfl, hle⟩
    replace ct := (hle.cell zt).trans ct
    replace cx0 := (hle.cell zx0).trans cx0
    replace cx1 := (hle.cell zx1).trans cx1
    replace cx2 := (hle.cell zx2).trans cx2
    replace cr0 := (hle.cell zr0).trans cr0
    replace cr1 := (hle.cell zr1).trans cr1
    replace cr2 := (hle.cell zr2).trans cr2
    replace cr3 := (hle.cell zr3).trans cr3
    replace zt := Nat.lt_of_lt_of_le zt hle.size
    replace zx0 := Nat.lt_of_lt_of_le zx0 hle.size
    replace zx1 := Nat.lt_of_lt_of_le zx1 hle.size
    replace zx2 := Nat.lt_of_lt_of_le zx2 hle.size
    replace zr0 := Nat.lt_of_lt_of_le zr0 hle.size
    replace zr1 := Nat.lt_of_lt_of_le zr1 hle.size
    replace zr2 := Nat.lt_of_lt_of_le zr2 hle.size
    replace zr3 := Nat.lt_of_lt_of_le zr3 hle.size
    replace S := S.le hle
    replace L0 := L0.trans hle
    replace S2 := S2.le hle
    replace S3 := S3.le hle
    replace S4 := S4.le hle
    clear hle S5 S6
    refine hK.out _ _ (fun _ => ⟨ct, cx0, cx1, cx2, cr0, cr1, cr2, cr3⟩) ?_
    clear hK K
    try simp only [Act.put, List.setIfInBounds_toArray, List.set_cons_zero, List.set_cons_succ]
    refine wpAnyZ_take (i := 6) (v := ?_) rfl (by kernel_rfl) (fun _ _ _ h => h) (Or.inl ⟨by rfl, ?_⟩) (⟨ct, cx0, cx1, cx2, cr0, cr1, cr2, cr3⟩) ?_
    rotate_left 1
    · (intro w hSw; (try dsimp only at hSw); go_simp; try with_reducible rfl)
    try simp only [Act.put, List.setIfInBounds_toArray, List.set_cons_zero, List.set_cons_succ]
    refine wpAnyZ_take (i := 7) (v := ?_) rfl (by kernel_rfl) (fun _ _ _ h => h) (Or.inl ⟨by rfl, ?_⟩) (⟨ct, cx0, cx1, cx2, cr0, cr1, cr2, cr3⟩) ?_
    rotate_left 1
    · (intro w hSw; (try dsimp only at hSw); go_simp; try with_reducible rfl)
    try simp only [Act.put, List.setIfInBounds_toArray, List.set_cons_zero, List.set_cons_succ]
    refine wpAnyZ_take (i := 8) (v := ?_) rfl (by kernel_rfl) (fun _ _ _ h => h) (Or.inl ⟨by rfl, ?_⟩) (⟨ct, cx0, cx1, cx2, cr0, cr1, cr2, cr3⟩) ?_
    rotate_left 1
    · (intro w hSw; (try dsimp only at hSw); go_simp; try with_reducible rfl)
    try simp only [Act.put, List.setIfInBounds_toArray, List.set_cons_zero, List.set_cons_succ]
    refine wpAnyZ_take (i := 9) (v := ?_) rfl (by kernel_rfl) (fun _ _ _ h => h) (Or.inl ⟨by rfl, ?_⟩) (⟨ct, cx0, cx1, cx2, cr0, cr1, cr2, cr3⟩) ?_
    rotate_left 1
    · (intro w hSw; (try dsimp only at hSw); go_simp; try with_reducible rfl)
    try simp only [Act.put, List.setIfInBounds_toArray, List.set_cons_zero, List.set_cons_succ]
    refine wpAnyZ_one (i := 10) (by kernel_rfl) (ReadyZ.mk rfl (fun K hK => ?_))
    go_simp
    go_at_call 13
    refine (Calls.val (iValidExits_any B D m c _ d xs L _ S S2) (by rw [hv])).mono ?_
    rintro e u3 ⟨rfl, hle⟩
    replace ct := (hle.cell zt).trans ct
    replace cx0 := (hle.cell zx0).trans cx0
    replace cx1 := (hle.cell zx1).trans cx1
    replace cx2 := (hle.cell zx2).trans cx2
    replace cr0 := (hle.cell zr0).trans cr0
    replace cr1 := (hle.cell zr1).trans cr1
    replace cr2 := (hle.cell zr2).trans cr2
    replace cr3 := (hle.cell zr3).trans cr3
    replace zt := Nat.lt_of_lt_of_le zt hle.size
    replace zx0 := Nat.lt_of_lt_of_le zx0 hle.size
    replace zx1 := Nat.lt_of_lt_of_le zx1 hle.size
    replace zx2 := Nat.lt_of_lt_of_le zx2 hle.size
    replace zr0 := Nat.lt_of_lt_of_le zr0 hle.size
    replace zr1 := Nat.lt_of_lt_of_le zr1 hle.size
    replace zr2 := Nat.lt_of_lt_of_le zr2 hle.size
    replace zr3 := Nat.lt_of_lt_of_le zr3 hle.size
    replace S := S.le hle
    replace L0 := L0.trans hle
    replace S2 := S2.le hle
    replace S3 := S3.le hle
    replace S4 := S4.le hle
    clear hle
    refine hK.out _ _ (fun _ => ⟨ct, cx0, cx1, cx2, cr0, cr1, cr2, cr3⟩) ?_
    clear hK K
    try simp only [Act.put, List.setIfInBounds_toArray, List.set_cons_zero, List.set_cons_succ]
    refine wpAnyZ_take (i := 11) (v := ?_) rfl (by kernel_rfl) (fun _ _ _ h => h) (Or.inl ⟨by rfl, ?_⟩) (⟨ct, cx0, cx1, cx2, cr0, cr1, cr2, cr3⟩) ?_
    rotate_left 1
    · (intro w hSw; (try dsimp only at hSw); go_simp; try with_reducible rfl)
    try simp only [Act.put, List.setIfInBounds_toArray, List.set_cons_zero, List.set_cons_succ]
    refine wpAnyZ_take (i := 12) (v := ?_) rfl (by kernel_rfl) (fun _ _ _ h => h) (Or.inl ⟨by rfl, ?_⟩) (⟨ct, cx0, cx1, cx2, cr0, cr1, cr2, cr3⟩) ?_
    rotate_left 1
    · (intro w hSw; (try dsimp only at hSw); go_simp; try with_reducible rfl)
    try simp only [Act.put, List.setIfInBounds_toArray, List.set_cons_zero, List.set_cons_succ]
    refine wpAnyZ_take (i := 13) (v := ?_) rfl (by kernel_rfl) (fun _ _ _ h => h) (Or.inl ⟨by rfl, ?_⟩) (⟨ct, cx0, cx1, cx2, cr0, cr1, cr2, cr3⟩) ?_
    rotate_left 1
    · (intro w hSw; (try dsimp only at hSw); go_simp; try with_reducible rfl)
    try simp only [Act.put, List.setIfInBounds_toArray, List.set_cons_zero, List.set_cons_succ]
    refine wpAnyZ_take (i := 14) (v := ?_) rfl (by kernel_rfl) (fun _ _ _ h => h) (Or.inl ⟨by rfl, ?_⟩) (⟨ct, cx0, cx1, cx2, cr0, cr1, cr2, cr3⟩) ?_
    rotate_left 1
    · (intro w hSw; (try dsimp only at hSw); go_simp; try with_reducible rfl)
    try simp only [Act.put, List.setIfInBounds_toArray, List.set_cons_zero, List.set_cons_succ]
    refine wpAnyZ_take (i := 15) (v := ?_) rfl (by kernel_rfl) (fun _ _ _ h => h) (Or.inl ⟨by rfl, ?_⟩) (⟨ct, cx0, cx1, cx2, cr0, cr1, cr2, cr3⟩) ?_
    rotate_left 1
    · (intro w hSw; (try dsimp only at hSw); go_simp; try with_reducible rfl)
    try simp only [Act.put, List.setIfInBounds_toArray, List.set_cons_zero, List.set_cons_succ]
    refine wpAnyZ_take (i := 16) (v := ?_) rfl (by kernel_rfl) (fun _ _ _ h => h) (Or.inl ⟨by rfl, ?_⟩) (⟨ct, cx0, cx1, cx2, cr0, cr1, cr2, cr3⟩) ?_
    rotate_left 1
    · (intro w hSw; (try dsimp only at hSw); go_simp; try with_reducible rfl)
    try simp only [Act.put, List.setIfInBounds_toArray, List.set_cons_zero, List.set_cons_succ]
    refine wpAnyZ_take (i := 17) (v := undef) rfl (by kernel_rfl) (fun _ _ _ h => h) (Or.inr ⟨?_, rfl⟩) (⟨ct, cx0, cx1, cx2, cr0, cr1, cr2, cr3⟩) ?_
    · rfl
    try simp only [Act.put, List.setIfInBounds_toArray, List.set_cons_zero, List.set_cons_succ]
    refine wpAnyZ_take (i := 18) (v := undef) rfl (by kernel_rfl) (fun _ _ _ h => h) (Or.inr ⟨?_, rfl⟩) (⟨ct, cx0, cx1, cx2, cr0, cr1, cr2, cr3⟩) ?_
    · rfl
    try simp only [Act.put, List.setIfInBounds_toArray, List.set_cons_zero, List.set_cons_succ]
    refine wpAnyZ_take (i := 19) (v := undef) rfl (by kernel_rfl) (fun _ _ _ h => h) (Or.inr ⟨?_, rfl⟩) (⟨ct, cx0, cx1, cx2, cr0, cr1, cr2, cr3⟩) ?_
    · rfl
    try simp only [Act.put, List.setIfInBounds_toArray, List.set_cons_zero, List.set_cons_succ]
    refine wpAnyZ_take (i := 20) (v := undef) rfl (by kernel_rfl) (fun _ _ _ h => h) (Or.inr ⟨?_, rfl⟩) (⟨ct, cx0, cx1, cx2, cr0, cr1, cr2, cr3⟩) ?_
    · rfl
    try simp only [Act.put, List.setIfInBounds_toArray, List.set_cons_zero, List.set_cons_succ]
    refine wpAnyZ_take (i := 21) (v := undef) rfl (by kernel_rfl) (fun _ _ _ h => h) (Or.inr ⟨?_, rfl⟩) (⟨ct, cx0, cx1, cx2, cr0, cr1, cr2, cr3⟩) ?_
    · rfl
    try simp only [Act.put, List.setIfInBounds_toArray, List.set_cons_zero, List.set_cons_succ]
    refine wpAnyZ_take (i := 22) (v := ?_) rfl (by kernel_rfl) (fun _ _ _ h => h) (Or.inl ⟨by rfl, ?_⟩) (⟨ct, cx0, cx1, cx2, cr0, cr1, cr2, cr3⟩) ?_
    rotate_left 1
    · (intro w hSw; (try dsimp only at hSw); go_simp; try with_reducible rfl)
    try simp only [Act.put, List.setIfInBounds_toArray, List.set_cons_zero, List.set_cons_succ]
    refine wpAnyZ_take (i := 23) (v := ?_) rfl (by kernel_rfl) (fun _ _ _ h => h) (Or.inl ⟨by rfl, ?_⟩) (⟨ct, cx0, cx1, cx2, cr0, cr1, cr2, cr3⟩) ?_
    rotate_left 1
    · (intro w hSw; (try dsimp only at hSw); go_simp; try with_reducible rfl)
    try simp only [Act.put, List.setIfInBounds_toArray, List.set_cons_zero, List.set_cons_succ]
    refine wpAnyZ_take (i := 24) (v := ?_) rfl (by kernel_rfl) (fun _ _ _ h => h) (Or.inl ⟨by rfl, ?_⟩) (⟨ct, cx0, cx1, cx2, cr0, cr1, cr2, cr3⟩) ?_
    rotate_left 1
    · (intro w hSw; (try dsimp only at hSw); go_simp; try with_reducible rfl)
    try simp only [Act.put, List.setIfInBounds_toArray, List.set_cons_zero, List.set_cons_succ]
    refine wpAnyZ_take (i := 25) (v := ?_) rfl (by kernel_rfl) (fun _ _ _ h => h) (Or.inl ⟨by rfl, ?_⟩) (⟨ct, cx0, cx1, cx2, cr0, cr1, cr2, cr3⟩) ?_
    rotate_left 1
    · (intro w hSw; (try dsimp only at hSw); go_simp; try with_reducible rfl)
    try simp only [Act.put, List.setIfInBounds_toArray, List.set_cons_zero, List.set_cons_succ]
    refine wpAnyZ_take (i := 26) (v := ?_) rfl (by kernel_rfl) (fun _ _ _ h => h) (Or.inl ⟨by rfl, ?_⟩) (⟨ct, cx0, cx1, cx2, cr0, cr1, cr2, cr3⟩) ?_
    rotate_left 1
    · (intro w hSw; (try dsimp only at hSw); go_simp; try with_reducible rfl)
    try simp only [Act.put, List.setIfInBounds_toArray, List.set_cons_zero, List.set_cons_succ]
    refine wpAnyZ_take (i := 27) (v := ?_) rfl (by kernel_rfl) (fun _ _ _ h => h) (Or.inl ⟨by rfl, ?_⟩) (⟨ct, cx0, cx1, cx2, cr0, cr1, cr2, cr3⟩) ?_
    rotate_left 1
    · (intro w hSw; (try dsimp only at hSw); go_simp; try with_reducible rfl)
    try simp only [Act.put, List.setIfInBounds_toArray, List.set_cons_zero, List.set_cons_succ]
    refine wpAnyZ_take (i := 28) (v := undef) rfl (by kernel_rfl) (fun _ _ _ h => h) (Or.inr ⟨?_, rfl⟩) (⟨ct, cx0, cx1, cx2, cr0, cr1, cr2, cr3⟩) ?_
    · rfl
    try simp only [Act.put, List.setIfInBounds_toArray, List.set_cons_zero, List.set_cons_succ]
    refine wpAnyZ_take (i := 29) (v := undef) rfl (by kernel_rfl) (fun _ _ _ h => h) (Or.inr ⟨?_, rfl⟩) (⟨ct, cx0, cx1, cx2, cr0, cr1, cr2, cr3⟩) ?_
    · rfl
    try simp only [Act.put, List.setIfInBounds_toArray, List.set_cons_zero, List.set_cons_succ]
    refine wpAnyZ_take (i := 30) (v := undef) rfl (by kernel_rfl) (fun _ _ _ h => h) (Or.inr ⟨?_, rfl⟩) (⟨ct, cx0, cx1, cx2, cr0, cr1, cr2, cr3⟩) ?_
    · rfl
    try simp only [Act.put, List.setIfInBounds_toArray, List.set_cons_zero, List.set_cons_succ]
    refine wpAnyZ_take (i := 31) (v := undef) rfl (by kernel_rfl) (fun _ _ _ h => h) (Or.inr ⟨?_, rfl⟩) (⟨ct, cx0, cx1, cx2, cr0, cr1, cr2, cr3⟩) ?_
    · rfl
    try simp only [Act.put, List.setIfInBounds_toArray, List.set_cons_zero, List.set_cons_succ]
    refine wpAnyZ_take (i := 32) (v := undef) rfl (by kernel_rfl) (fun _ _ _ h => h) (Or.inr ⟨?_, rfl⟩) (⟨ct, cx0, cx1, cx2, cr0, cr1, cr2, cr3⟩) ?_
    · rfl
    try simp only [Act.put, List.setIfInBounds_toArray, List.set_cons_zero, List.set_cons_succ]
    refine wpAnyZ_take (i := 33) (v := undef) rfl (by kernel_rfl) (fun _ _ _ h => h) (Or.inr ⟨?_, rfl⟩) (⟨ct, cx0, cx1, cx2, cr0, cr1, cr2, cr3⟩) ?_
    · rfl
    try simp only [Act.put, List.setIfInBounds_toArray, List.set_cons_zero, List.set_cons_succ]
    refine wpAnyZ_take (i := 34) (v := undef) rfl (by kernel_rfl) (fun _ _ _ h => h) (Or.inr ⟨?_, rfl⟩) (⟨ct, cx0, cx1, cx2, cr0, cr1, cr2, cr3⟩) ?_
    · rfl
    try simp only [Act.put, List.setIfInBounds_toArray, List.set_cons_zero, List.set_cons_succ]
    refine wpAnyZ_take (i := 35) (v := undef) rfl (by kernel_rfl) (fun _ _ _ h => h) (Or.inr ⟨?_, rfl⟩) (⟨ct, cx0, cx1, cx2, cr0, cr1, cr2, cr3⟩) ?_
    · rfl
    try simp only [Act.put, List.setIfInBounds_toArray, List.set_cons_zero, List.set_cons_succ]
    refine wpAnyZ_take (i := 36) (v := ?_) rfl (by kernel_rfl) (fun _ _ _ h => h) (Or.inl ⟨by rfl, ?_⟩) (⟨ct, cx0, cx1, cx2, cr0, cr1, cr2, cr3⟩) ?_
    rotate_left 1
    · (intro w hSw; (try dsimp only at hSw); go_simp; try with_reducible rfl)
    try simp only [Act.put, List.setIfInBounds_toArray, List.set_cons_zero, List.set_cons_succ]
    refine wpAnyZ_take (i := 37) (v := ?_) rfl (by kernel_rfl) (fun _ _ _ h => h) (Or.inl ⟨by rfl, ?_⟩) (⟨ct, cx0, cx1, cx2, cr0, cr1, cr2, cr3⟩) ?_
    rotate_left 1
    · (intro w hSw; (try dsimp only at hSw); go_simp; try with_reducible rfl)
    try simp only [Act.put, List.setIfInBounds_toArray, List.set_cons_zero, List.set_cons_succ]
    refine wpAnyZ_take (i := 38) (v := ?_) rfl (by kernel_rfl) (fun _ _ _ h => h) (Or.inl ⟨by rfl, ?_⟩) (⟨ct, cx0, cx1, cx2, cr0, cr1, cr2, cr3⟩) ?_
    rotate_left 1
    · (intro w hSw; (try dsimp only at hSw); go_simp; try with_reducible rfl)
    try simp only [Act.put, List.setIfInBounds_toArray, List.set_cons_zero, List.set_cons_succ]
    refine wpAnyZ_take (i := 39) (v := ?_) rfl (by kernel_rfl) (fun _ _ _ h => h) (Or.inl ⟨by rfl, ?_⟩) (⟨ct, cx0, cx1, cx2, cr0, cr1, cr2, cr3⟩) ?_
    rotate_left 1
    · (intro w hSw; (try dsimp only at hSw); go_simp; try with_reducible rfl)
    try simp only [Act.put, List.setIfInBounds_toArray, List.set_cons_zero, List.set_cons_succ]
    refine wpAnyZ_take (i := 40) (v := ?_) rfl (by kernel_rfl) (fun _ _ _ h => h) (Or.inl ⟨by rfl, ?_⟩) (⟨ct, cx0, cx1, cx2, cr0, cr1, cr2, cr3⟩) ?_
    rotate_left 1
    · (intro w hSw; (try dsimp only at hSw); go_simp; try with_reducible rfl)
    try simp only [Act.put, List.setIfInBounds_toArray, List.set_cons_zero, List.set_cons_succ]
    refine wpAnyZ_take (i := 41) (v := ?_) rfl (by kernel_rfl) (fun _ _ _ h => h) (Or.inl ⟨by rfl, ?_⟩) (⟨ct, cx0, cx1, cx2, cr0, cr1, cr2, cr3⟩) ?_
    rotate_left 1
    · (intro w hSw; (try dsimp only at hSw); go_simp; try with_reducible rfl)
    try simp only [Act.put, List.setIfInBounds_toArray, List.set_cons_zero, List.set_cons_succ]
    refine wpAnyZ_take (i := 42) (v := ?_) rfl (by kernel_rfl) (fun _ _ _ h => h) (Or.inl ⟨by rfl, ?_⟩) (⟨ct, cx0, cx1, cx2, cr0, cr1, cr2, cr3⟩) ?_
    rotate_left 1
    · (intro w hSw; (try dsimp only at hSw); go_simp; try with_reducible rfl)
    try simp only [Act.put, List.setIfInBounds_toArray, List.set_cons_zero, List.set_cons_succ]
    refine wpAnyZ_take (i := 43) (v := ?_) rfl (by kernel_rfl) (fun _ _ _ h => h) (Or.inl ⟨by rfl, ?_⟩) (⟨ct, cx0, cx1, cx2, cr0, cr1, cr2, cr3⟩) ?_
    rotate_left 1
    · (intro w hSw; (try dsimp only at hSw); go_simp; try with_reducible rfl)
    try simp only [Act.put, List.setIfInBounds_toArray, List.set_cons_zero, List.set_cons_succ]
    refine wpAnyZ_take (i := 44) (v := ?_) rfl (by kernel_rfl) (fun _ _ _ h => h) (Or.inl ⟨by rfl, ?_⟩) (⟨ct, cx0, cx1, cx2, cr0, cr1, cr2, cr3⟩) ?_
    rotate_left 1
    · (intro w hSw; (try dsimp only at hSw); go_simp; try with_reducible rfl)
    try simp only [Act.put, List.setIfInBounds_toArray, List.set_cons_zero, List.set_cons_succ]
    refine wpAnyZ_take (i := 45) (v := ?_) rfl (by kernel_rfl) (fun _ _ _ h => h) (Or.inl ⟨by rfl, ?_⟩) (⟨ct, cx0, cx1, cx2, cr0, cr1, cr2, cr3⟩) ?_
    rotate_left 1
    · (intro w hSw; (try dsimp only at hSw); go_simp; try with_reducible rfl)
    try simp only [Act.put, List.setIfInBounds_toArray, List.set_cons_zero, List.set_cons_succ]
    refine wpAnyZ_take (i := 46) (v := ?_) rfl (by kernel_rfl) (fun _ _ _ h => h) (Or.inl ⟨by rfl, ?_⟩) (⟨ct, cx0, cx1, cx2, cr0, cr1, cr2, cr3⟩) ?_
    rotate_left 1
    · (intro w hSw; (try dsimp only at hSw); go_simp; try with_reducible rfl)
    try simp only [Act.put, List.setIfInBounds_toArray, List.set_cons_zero, List.set_cons_succ]
    refine wpAnyZ_take (i := 47) (v := ?_) rfl (by kernel_rfl) (fun _ _ _ h => h) (Or.inl ⟨by rfl, ?_⟩) (⟨ct, cx0, cx1, cx2, cr0, cr1, cr2, cr3⟩) ?_
    rotate_left 1
    · (intro w hSw; (try dsimp only at hSw); go_simp; try with_reducible rfl)
    try simp only [Act.put, List.setIfInBounds_toArray, List.set_cons_zero, List.set_cons_succ]
    refine wpAnyZ_take (i := 48) (v := ?_) rfl (by kernel_rfl) (fun _ _ _ h => h) (Or.inl ⟨by rfl, ?_⟩) (⟨ct, cx0, cx1, cx2, cr0, cr1, cr2, cr3⟩) ?_
    rotate_left 1
    · (intro w hSw; (try dsimp only at hSw); go_simp; try with_reducible rfl)
    try simp only [Act.put, List.setIfInBounds_toArray, List.set_cons_zero, List.set_cons_succ]
    refine wpAnyZ_take (i := 49) (v := ?_) rfl (by kernel_rfl) (fun _ _ _ h => h) (Or.inl ⟨by rfl, ?_⟩) (⟨ct, cx0, cx1, cx2, cr0, cr1, cr2, cr3⟩) ?_
    rotate_left 1
    · (intro w hSw; (try dsimp only at hSw); go_simp; try with_reducible rfl)
    try simp only [Act.put, List.setIfInBounds_toArray, List.set_cons_zero, List.set_cons_succ]
    refine wpAnyZ_take (i := 50) (v := ?_) rfl (by kernel_rfl) (fun _ _ _ h => h) (Or.inl ⟨by rfl, ?_⟩) (⟨ct, cx0, cx1, cx2, cr0, cr1, cr2, cr3⟩) ?_
    rotate_left 1
    · (intro w hSw; (try dsimp only at hSw); go_simp; try with_reducible rfl)
    try simp only [Act.put, List.setIfInBounds_toArray, List.set_cons_zero, List.set_cons_succ]
    refine wpAnyZ_take (i := 51) (v := ?_) rfl (by kernel_rfl) (fun _ _ _ h => h) (Or.inl ⟨by rfl, ?_⟩) (⟨ct, cx0, cx1, cx2, cr0, cr1, cr2, cr3⟩) ?_
    rotate_left 1
    · (intro w hSw; (try dsimp only at hSw); go_simp; try with_reducible rfl)
    try simp only [Act.put, List.setIfInBounds_toArray, List.set_cons_zero, List.set_cons_succ]
    refine wpAnyZ_take (i := 52) (v := ?_) rfl (by kernel_rfl) (fun _ _ _ h => h) (Or.inl ⟨by rfl, ?_⟩) (⟨ct, cx0, cx1, cx2, cr0, cr1, cr2, cr3⟩) ?_
    rotate_left 1
    · (intro w hSw; (try dsimp only at hSw); go_simp; try with_reducible rfl)
    try simp only [Act.put, List.setIfInBounds_toArray, List.set_cons_zero, List.set_cons_succ]
    refine wpAnyZ_done (by kernel_rfl) ?_ _
    refine NoPanic.normal ?_
    have hcs : Hid (csv xs false 0 0 = true) := HCS
    obtain ⟨CL, hCL⟩ : ∃ CL, c0L L = CL := ⟨_, rfl⟩
    obtain ⟨p1, p2, p3⟩ := calls_ce hv hcs.out
    rw [hCL] at p1 p2
    have HP2 := Lib.hid p2
    have HP3 := Lib.hid p3
    have HP1 := Lib.hid p1
    have hok : ∀ x ∈ CL, Enc.ok x := fun x hx => S2.ok x (List.mem_filter.1 (by rw [← hCL] at hx; exact hx)).1
    have HCO := Lib.hid hok
    have HCL := Lib.hid hCL
    have hc8 : CL.length ≤ 8 := by rw [← hCL]; exact Nat.le_trans (List.length_filter_le _ _) hq8
    have HUB := Lib.hid (S2.under)
    obtain ⟨i0, hi, hz0, hz1, hz2⟩ := info_parts info_xitC
    clear p1 p2 p3 hok hCL hb S3 S4 cr1 cr2 cr3 hv
    go_wp2_with fail
    have LE := Le.new u3 (.cells #[] 42)
    have O0 := own_empty (w := u3) (base := u3.heap.size) (g := u3.heap.size) (e := 42) (size := 3) (by omega) rfl
    generalize u3.alloc (.cells #[] 42) = V at *
    go_wp2
    go_loopw [7, 8, 9] (fun v s i wr => ∃ j : Nat, j ≤ L.length ∧ i = .int .i64 j ∧ s = .int .i64 (c1N (L.take j) : Nat) ∧ wr.ownsRow u3.heap.size 42 3 v (c0L (L.take j)).length ((c0L (L.take j)).flatMap Enc.cells) ∧ Le u3 wr) (fun _ _ i _ => L.length - (intOf i).toNat)
    case atStart => exact ⟨0, Nat.zero_le _, rfl, rfl, O0, LE⟩
    case round =>
      clear O0 LE
      obtain ⟨j, hj, rfl, rfl, O, hle⟩ := hrel
      have HLE := Lib.hid hle
      replace ct := (hle.cell zt).trans ct
      replace cx0 := (hle.cell zx0).trans cx0
      replace cx1 := (hle.cell zx1).trans cx1
      replace cx2 := (hle.cell zx2).trans cx2
      replace cr0 := (hle.cell zr0).trans cr0
      replace zt := Nat.lt_of_lt_of_le zt hle.size
      replace zx0 := Nat.lt_of_lt_of_le zx0 hle.size
      replace zx1 := Nat.lt_of_lt_of_le zx1 hle.size
      replace zx2 := Nat.lt_of_lt_of_le zx2 hle.size
      replace zr0 := Nat.lt_of_lt_of_le zr0 hle.size
      replace S := S.le hle
      replace L0 := L0.trans hle
      replace S2 := S2.le hle
      clear hle
      have HN := Lib.hid (c1N_le (L.take j))
      have HCK : Hid (∀ x ∈ c0L (L.take j), Enc.ok x) := fun x hx => S2.ok x (List.mem_of_mem_take (List.mem_filter.1 hx).1)
      have hcl8 : (c0L (L.take j)).length ≤ 8 := Nat.le_trans (List.length_filter_le _ _) (by rw [List.length_take]; omega)
      by_cases hlt : j < L.length
      · obtain ⟨b, off, rfl, hb1, d0, d1, d2, hxo⟩ := S2.xit_at hlt
        have HXO := Lib.hid hxo
        clear hxo
        have HUX : Hid (b < u3.heap.size) := HUB.out (by omega) _ rfl
        have HC := Lib.hid (c1N_take hlt)
        have HT := Lib.hid (c0L_take hlt)
        have hji : (0 : Int) ≤ (j : Int) := by omega
        have hjn : (j : Int) < (L.length : Int) := by omega
        have hcn : c1N (L.take j) ≤ 8 := by have h := HN.out; rw [List.length_take] at h; omega
        have HCN := Lib.hid hcn
        obtain ⟨x, HX⟩ : ∃ x, Hid (L[j] = x) := ⟨_, Lib.hid rfl⟩
        rw [HX.out] at d0 d1 d2 HC HT
        have hxo : Enc.ok x := by rw [← HX.out]; exact HXO.out
        clear HXO HN hcn
        have hcn8 : c1N (L.take j) + 1 ≤ 9 := by have := HCN.out; omega
        by_cases h0 : x.kind = 0
        · have h0b : (x.kind == 0) = true := by simpa using h0
          have HC2 : Hid (c1N (L.take (j + 1)) = c1N (L.take j) + 1) := by show _ = _; rw [HC.out, if_pos (.inl h0)]
          have HT2 : Hid (c0L (L.take (j + 1)) = c0L (L.take j) ++ [x]) := by show _ = _; rw [HT.out, if_pos h0]
          clear HC HT h0
          have hbk := O.lt
          generalize c0L (L.take j) = P at *
          generalize c1N (L.take j) = cn at *
          obtain ⟨A1, c1, rfl⟩ := own_form O
          go_wp2_with (at_builtin; refine wpList_append_sl rfl _ _ 26 rfl u3.heap.size 42 i0 _ 24 Try.underlying26 hi hz0 hz1 hz2 rfl _ _ P rfl (O.alloc _) _ 1 1 [x] rfl (sl_one x rfl hxo rfl) (by unfold maxLen; omega) (by omega) (Nat.le_trans HLE.out.size (Le.new wr _).size) ?_; intro v1 w4 O4 hg4 hbl; have HLA := Lib.hid ((HLE.out.trans (Le.new wr (.cells #[.int .i64 x.kind, .int .i64 x.a, .int .i64 x.b] 42))).grown hg4 (fun kb hkb => by have h := (hbk kb hkb).1; omega)); have e0 := hg4.cell (a := ⟨b, off + j * 3, none⟩) (((Le.new wr _).cell hb1).trans d0) (fun e => by have h : u3.heap.size ≤ b := (hbk _ e.symm).1; have h2 := HUX.out; omega); have HO4 := Lib.hid O4; obtain ⟨A9, c9, rfl⟩ := own_form O4; clear O4 hg4 hbl)
          go_roundw
          case rel => exact ⟨j + 1, by omega, by go_num, by rw [HC2.out]; go_num, by rw [HT2.out, List.length_append]; exact HO4.out, HLA.out⟩
          case measure => (simp [intOf]) <;> omega
        · have h0b : (x.kind == 0) = false := by simpa using h0
          have HT2 : Hid (c0L (L.take (j + 1)) = c0L (L.take j)) := by show _ = _; rw [HT.out, if_neg h0, List.append_nil]
          by_cases h1 : x.kind = 1
          · have h1b : (x.kind == 1) = true := by simpa using h1
            have HC2 : Hid (c1N (L.take (j + 1)) = c1N (L.take j) + 1) := by show _ = _; rw [HC.out, if_pos (.inr h1)]
            clear HC HT h0 h1
            generalize c0L (L.take j) = P at *
            generalize c1N (L.take j) = cn at *
            obtain ⟨A1, c1, rfl⟩ := own_form O
            go_wp2
            go_roundw
            case rel => exact ⟨j + 1, by omega, by go_num, by rw [HC2.out]; go_num, by rw [HT2.out]; exact O, HLE.out⟩
            case measure => (simp [intOf]) <;> omega
          · have h1b : (x.kind == 1) = false := by simpa using h1
            have HC2 : Hid (c1N (L.take (j + 1)) = c1N (L.take j)) := by show _ = _; rw [HC.out, if_neg (by omega)]; rfl
            clear HC HT h0 h1
            generalize c0L (L.take j) = P at *
            generalize c1N (L.take j) = cn at *
            obtain ⟨A1, c1, rfl⟩ := own_form O
            go_wp2
            go_roundw
            case rel => exact ⟨j + 1, by omega, by go_num, by rw [HC2.out], by rw [HT2.out]; exact O, HLE.out⟩
            case measure => (simp [intOf]) <;> omega
      · have e : L.take j = L := List.take_of_length_le (by omega)
        rw [e, HCL.out] at O
        rw [e]
        clear e HCK HN hcl8
        obtain ⟨A1, c1, rfl⟩ := own_form O
        have SC := Sl.of_own O rfl (by decide) HCO.out
        clear O
        have HK2 : Hid (∀ (w0 : World), Sl w0 B m c xs → Sl w0 A1 CL.length c1 CL → Calls Try.prog 10 #[.agg #[.slice B m c], .slice A1 CL.length c1, .agg #[.bool false, .int .i64 0, .int .i64 0]] w0 fun e w' => ∃ A0 q0 A1 q1, e = .returned (.agg #[.slice A0 CL.length q0, .int .i64 (ceE xs CL false 0 0), .int .i64 (ceV xs CL false 0 0), .slice A1 (ceH xs CL false 0 0).length q1]) ∧ Sl w' A0 CL.length q0 (List.map (fun x => x.a) CL).reverse ∧ Le w0 w') := fun w0 h1 h2 => by
          have h := Calls.ce2 HP1.out (iCloseExits_any B A1 m c _ c1 xs CL false 0 0 hcl hkk w0 h1 h2)
          rw [List.length_reverse, List.length_map] at h
          exact h
        generalize ceE xs CL false 0 0 = e1 at *
        generalize ceV xs CL false 0 0 = e2 at *
        generalize (ceH xs CL false 0 0).length = e3 at *
        go_wp2_with fail
        refine (HK2.out wr S SC).mono ?_
        rintro e w5 ⟨A4, q4, A5, q5, rfl, S7, hle⟩
        replace cr0 := (hle.cell zr0).trans cr0
        replace zr0 := Nat.lt_of_lt_of_le zr0 hle.size
        replace L0 := L0.trans hle
        replace SC := SC.le hle
        clear hle
        obtain ⟨cs0, cs1, cs2, cs3, zs0, LB⟩ := boxRr w5 (.slice A4 CL.length q4) (.int .i64 e1) (.int .i64 e2) (.slice A5 e3 q5) 36
        replace S7 := S7.le LB
        replace cr0 := (LB.cell zr0).trans cr0
        replace zr0 := Nat.lt_of_lt_of_le zr0 LB.size
        replace L0 := L0.trans LB
        replace SC := SC.le LB
        clear LB HK2 cs1 cs2 cs3
        go_wp2_with fail
        generalize w5.alloc (.cells #[.slice A4 CL.length q4, .int .i64 e1, .int .i64 e2, .slice A5 e3 q5] 36) = W5 at *
        go_wp2
        go_loopw [11] (fun i wr => ∃ r : Nat, r ≤ CL.length ∧ i = .int .i64 r ∧ Le W5 wr) (fun i _ => CL.length - (intOf i).toNat)
        case atStart => exact ⟨0, Nat.zero_le _, rfl, Le.refl _⟩
        case round =>
          obtain ⟨r, hr, rfl, hle⟩ := hrel
          have HLE := Lib.hid hle
          replace cr0 := (hle.cell zr0).trans cr0
          replace cs0 := (hle.cell zs0).trans cs0
          replace zr0 := Nat.lt_of_lt_of_le zr0 hle.size
          replace zs0 := Nat.lt_of_lt_of_le zs0 hle.size
          replace L0 := L0.trans hle
          replace S7 := S7.le hle
          replace SC := SC.le hle
          clear hle
          by_cases hlt : r < CL.length
          · obtain ⟨q, hq⟩ : ∃ q, q + r + 1 = CL.length := ⟨CL.length - r - 1, by omega⟩
            have hqL : q < CL.length := by omega
            have hx : r < (List.map (fun x => x.a) CL).reverse.length := by simpa using hlt
            obtain ⟨b, off, rfl, hb1, dm, -, -⟩ := S7.int_at hx
            have em : (List.map (fun x => x.a) CL).reverse[r]'(by simpa using hlt) = CL[q].a := by
              rw [List.getElem_reverse, List.getElem_map]
              have e : (List.map (fun x => x.a) CL).length - 1 - r = q := by rw [List.length_map]; omega
              simp only [e]
            obtain ⟨b2, off2, rfl, hb2, -, da, -⟩ := SC.xit_at hqL
            rw [em] at dm
            generalize CL[q].a = va at *
            have E0 := cell_ext zs0 cs0
            have E1 := cell_ext hb1 dm
            have E2 := cell_ext hb2 da
            have hw1 : IntKind.i64.wrap ((CL.length : Int) - 1) = (CL.length : Int) - 1 := IntWalk.i64_in _ (by omega)
            have hw2 : IntKind.i64.wrap ((CL.length : Int) - 1 - (r : Int)) = (q : Int) := by
              have e : (CL.length : Int) - 1 - (r : Int) = (q : Int) := by omega
              rw [e]; exact IntWalk.i64_in _ (by omega)
            have hri : (0 : Int) ≤ (r : Int) := by omega
            have hrn : (r : Int) < (CL.length : Int) := by omega
            have hqi : (0 : Int) ≤ (q : Int) := by omega
            have hqn : (q : Int) < (CL.length : Int) := by omega
            have hne : (va != va) = false := by simp
            clear hq em
            go_wp2_with fail
            refine wp_region_ext (by kernel_rfl) (by kernel_rfl) ?_
            repeat (go_big_quiet_step (fail))
            refine wpQuiet_nil ?_
            intro _ hw'
            obtain ⟨gg, rfl⟩ := hw'
            have HLE2 := Lib.hid (HLE.out.trans (Le.ext wr gg))
            generalize wr.ext gg = W6 at *
            go_wp2
            go_roundw
            case rel => exact ⟨r + 1, by omega, by go_num, HLE2.out⟩
            case measure => (simp [intOf]) <;> omega
          · have hp2 := HP2.out
            have hp3 := HP3.out
            have HD : Hid (True) := trivial
            generalize (ceL xs L false 0 0).length = n1 at *
            generalize c1N L = cn at *
            have g0 : ((CL.length : Int) == (CL.length : Int)) = true := by simp
            have g1 : decide ((CL.length : Int) ≤ (n1 : Int)) = true := decide_eq_true (by omega)
            have g2 : decide ((n1 : Int) ≤ (cn : Int)) = true := decide_eq_true (by omega)
            have g3 : decide (CL.length ≤ n1) = true := decide_eq_true hp2
            have g4 : decide (n1 ≤ cn) = true := decide_eq_true hp3
            go_wp2
            go_ret
            exact ⟨rfl, L0⟩
  · cases hh : hasK xs cl
    · skip
      replace ct := (show W3.drew.cell? _ = _ from ct)
      replace zt := (show _ < W3.drew.heap.size from zt)
      replace cx0 := (show W3.drew.cell? _ = _ from cx0)
      replace zx0 := (show _ < W3.drew.heap.size from zx0)
      replace cx1 := (show W3.drew.cell? _ = _ from cx1)
      replace zx1 := (show _ < W3.drew.heap.size from zx1)
      replace cx2 := (show W3.drew.cell? _ = _ from cx2)
      replace zx2 := (show _ < W3.drew.heap.size from zx2)
      replace cr0 := (show W3.drew.cell? _ = _ from cr0)
      replace zr0 := (show _ < W3.drew.heap.size from zr0)
      replace cr1 := (show W3.drew.cell? _ = _ from cr1)
      replace zr1 := (show _ < W3.drew.heap.size from zr1)
      replace cr2 := (show W3.drew.cell? _ = _ from cr2)
      replace zr2 := (show _ < W3.drew.heap.size from zr2)
      replace cr3 := (show W3.drew.cell? _ = _ from cr3)
      replace zr3 := (show _ < W3.drew.heap.size from zr3)
      replace S := S.le (Le.refl _).drew
      replace L0 := L0.drew
      replace S2 := S2.le (Le.refl _).drew
      replace S3 := S3.le (Le.refl _).drew
      replace S4 := S4.le (Le.refl _).drew
      refine wp_region_noPanic ?_
      refine wp_region_Z (fun w' => w'.cell? ⟨w1.heap.size, 0, none⟩ = some (.slice B m c) ∧ w'.cell? ⟨w1.heap.size + 1, 0, none⟩ = some (.bool true) ∧ w'.cell? ⟨w1.heap.size + 1, 1, none⟩ = some (.int .i64 cl) ∧ w'.cell? ⟨w1.heap.size + 1, 2, none⟩ = some (.int .i64 k) ∧ w'.cell? ⟨w3.heap.size, 0, none⟩ = some (.slice A0 (ceL xs L true cl k).length q0) ∧ w'.cell? ⟨w3.heap.size, 1, none⟩ = some (.int .i64 (ceE xs L true cl k)) ∧ w'.cell? ⟨w3.heap.size, 2, none⟩ = some (.int .i64 (ceV xs L true cl k)) ∧ w'.cell? ⟨w3.heap.size, 3, none⟩ = some (.slice A1 (ceH xs L true cl k).length q1)) [] (by kernel_rfl) ?_
      generalize W3.drew = U at *
      refine wpAnyZ_take (i := 0) (v := ?_) rfl (by kernel_rfl) (fun _ _ _ h => h) (Or.inl ⟨by rfl, ?_⟩) (⟨ct, cx0, cx1, cx2, cr0, cr1, cr2, cr3⟩) ?_
      rotate_left 1
      · (intro w hSw; (try dsimp only at hSw); go_simp; try with_reducible rfl)
      try simp only [Act.put, List.setIfInBounds_toArray, List.set_cons_zero, List.set_cons_succ]
      refine wpAnyZ_take (i := 1) (v := ?_) rfl (by kernel_rfl) (fun _ _ _ h => h) (Or.inl ⟨by rfl, ?_⟩) (⟨ct, cx0, cx1, cx2, cr0, cr1, cr2, cr3⟩) ?_
      rotate_left 1
      · (intro w hSw; (try dsimp only at hSw); go_simp; try with_reducible rfl)
      try simp only [Act.put, List.setIfInBounds_toArray, List.set_cons_zero, List.set_cons_succ]
      refine wpAnyZ_take (i := 2) (v := ?_) rfl (by kernel_rfl) (fun _ _ _ h => h) (Or.inl ⟨by rfl, ?_⟩) (⟨ct, cx0, cx1, cx2, cr0, cr1, cr2, cr3⟩) ?_
      rotate_left 1
      · (intro w hSw; (try dsimp only at hSw); go_simp; try with_reducible rfl)
      try simp only [Act.put, List.setIfInBounds_toArray, List.set_cons_zero, List.set_cons_succ]
      refine wpAnyZ_take (i := 3) (v := ?_) rfl (by kernel_rfl) (fun _ _ _ h => h) (Or.inl ⟨by rfl, ?_⟩) (⟨ct, cx0, cx1, cx2, cr0, cr1, cr2, cr3⟩) ?_
      rotate_left 1
      · (intro w hSw; (try dsimp only at hSw); go_simp; try with_reducible rfl)
      try simp only [Act.put, List.setIfInBounds_toArray, List.set_cons_zero, List.set_cons_succ]
      refine wpAnyZ_one (i := 4) (by kernel_rfl) (ReadyZ.mk rfl (fun K hK => ?_))
      go_simp
      go_at_call 12
      refine (Calls.ce (sCloseExits_any B D m c _ d xs L true cl k hcl hkk _ S S2)).mono ?_
      rintro e u1 ⟨A2, q2, A3, q3, rfl, S5, S6, hle⟩
      replace ct := (hle.cell zt).trans ct
      replace cx0 := (hle.cell zx0).trans cx0
      replace cx1 := (hle.cell zx1).trans cx1
      replace cx2 := (hle.cell zx2).trans cx2
      replace cr0 := (hle.cell zr0).trans cr0
      replace cr1 := (hle.cell zr1).trans cr1
      replace cr2 := (hle.cell zr2).trans cr2
      replace cr3 := (hle.cell zr3).trans cr3
      replace zt := Nat.lt_of_lt_of_le zt hle.size
      replace zx0 := Nat.lt_of_lt_of_le zx0 hle.size
      replace zx1 := Nat.lt_of_lt_of_le zx1 hle.size
      replace zx2 := Nat.lt_of_lt_of_le zx2 hle.size
      replace zr0 := Nat.lt_of_lt_of_le zr0 hle.size
      replace zr1 := Nat.lt_of_lt_of_le zr1 hle.size
      replace zr2 := Nat.lt_of_lt_of_le zr2 hle.size
      replace zr3 := Nat.lt_of_lt_of_le zr3 hle.size
      replace S := S.le hle
      replace L0 := L0.trans hle
      replace S2 := S2.le hle
      replace S3 := S3.le hle
      replace S4 := S4.le hle
      clear hle
      refine hK.out _ _ (fun _ => ⟨ct, cx0, cx1, cx2, cr0, cr1, cr2, cr3⟩) ?_
      clear hK K
      try simp only [Act.put, List.setIfInBounds_toArray, List.set_cons_zero, List.set_cons_succ]
      refine wpAnyZ_one (i := 5) (by kernel_rfl) (ReadyZ.mk rfl (fun K hK => ?_))
      go_simp
      go_at_call 11
      refine (equalResult_self _ _ _ _ _ _ _ _ _ _ (ceL xs L true cl k) (ceH xs L true cl k) _ _ _ S3 S5 S4 S6).mono ?_
      rintro e u2 ⟨rfl, hle⟩
      replace ct := (hle.cell zt).trans ct
      replace cx0 := (hle.cell zx0).trans cx0
      replace cx1 := (hle.cell zx1).trans cx1
      replace cx2 := (hle.cell zx2).trans cx2
      replace cr0 := (hle.cell zr0).trans cr0
      replace cr1 := (hle.cell zr1).trans cr1
      replace cr2 := (hle.cell zr2).trans cr2
      replace cr3 := (hle.cell zr3).trans cr3
      replace zt := Nat.lt_of_lt_of_le zt hle.size
      replace zx0 := Nat.lt_of_lt_of_le zx0 hle.size
      replace zx1 := Nat.lt_of_lt_of_le zx1 hle.size
      replace zx2 := Nat.lt_of_lt_of_le zx2 hle.size
      replace zr0 := Nat.lt_of_lt_of_le zr0 hle.size
      replace zr1 := Nat.lt_of_lt_of_le zr1 hle.size
      replace zr2 := Nat.lt_of_lt_of_le zr2 hle.size
      replace zr3 := Nat.lt_of_lt_of_le zr3 hle.size
      replace S := S.le hle
      replace L0 := L0.trans hle
      replace S2 := S2.le hle
      replace S3 := S3.le hle
      replace S4 := S4.le hle
      clear hle S5 S6
      refine hK.out _ _ (fun _ => ⟨ct, cx0, cx1, cx2, cr0, cr1, cr2, cr3⟩) ?_
      clear hK K
      try simp only [Act.put, List.setIfInBounds_toArray, List.set_cons_zero, List.set_cons_succ]
      refine wpAnyZ_take (i := 6) (v := ?_) rfl (by kernel_rfl) (fun _ _ _ h => h) (Or.inl ⟨by rfl, ?_⟩) (⟨ct, cx0, cx1, cx2, cr0, cr1, cr2, cr3⟩) ?_
      rotate_left 1
      · (intro w hSw; (try dsimp only at hSw); go_simp; try with_reducible rfl)
      try simp only [Act.put, List.setIfInBounds_toArray, List.set_cons_zero, List.set_cons_succ]
      refine wpAnyZ_take (i := 7) (v := ?_) rfl (by kernel_rfl) (fun _ _ _ h => h) (Or.inl ⟨by rfl, ?_⟩) (⟨ct, cx0, cx1, cx2, cr0, cr1, cr2, cr3⟩) ?_
      rotate_left 1
      · (intro w hSw; (try dsimp only at hSw); go_simp; try with_reducible rfl)
      try simp only [Act.put, List.setIfInBounds_toArray, List.set_cons_zero, List.set_cons_succ]
      refine wpAnyZ_take (i := 8) (v := ?_) rfl (by kernel_rfl) (fun _ _ _ h => h) (Or.inl ⟨by rfl, ?_⟩) (⟨ct, cx0, cx1, cx2, cr0, cr1, cr2, cr3⟩) ?_
      rotate_left 1
      · (intro w hSw; (try dsimp only at hSw); go_simp; try with_reducible rfl)
      try simp only [Act.put, List.setIfInBounds_toArray, List.set_cons_zero, List.set_cons_succ]
      refine wpAnyZ_take (i := 9) (v := ?_) rfl (by kernel_rfl) (fun _ _ _ h => h) (Or.inl ⟨by rfl, ?_⟩) (⟨ct, cx0, cx1, cx2, cr0, cr1, cr2, cr3⟩) ?_
      rotate_left 1
      · (intro w hSw; (try dsimp only at hSw); go_simp; try with_reducible rfl)
      try simp only [Act.put, List.setIfInBounds_toArray, List.set_cons_zero, List.set_cons_succ]
      refine wpAnyZ_one (i := 10) (by kernel_rfl) (ReadyZ.mk rfl (fun K hK => ?_))
      go_simp
      go_at_call 13
      refine (Calls.val (iValidExits_any B D m c _ d xs L _ S S2) (by rw [hv])).mono ?_
      rintro e u3 ⟨rfl, hle⟩
      replace ct := (hle.cell zt).trans ct
      replace cx0 := (hle.cell zx0).trans cx0
      replace cx1 := (hle.cell zx1).trans cx1
      replace cx2 := (hle.cell zx2).trans cx2
      replace cr0 := (hle.cell zr0).trans cr0
      replace cr1 := (hle.cell zr1).trans cr1
      replace cr2 := (hle.cell zr2).trans cr2
      replace cr3 := (hle.cell zr3).trans cr3
      replace zt := Nat.lt_of_lt_of_le zt hle.size
      replace zx0 := Nat.lt_of_lt_of_le zx0 hle.size
      replace zx1 := Nat.lt_of_lt_of_le zx1 hle.size
      replace zx2 := Nat.lt_of_lt_of_le zx2 hle.size
      replace zr0 := Nat.lt_of_lt_of_le zr0 hle.size
      replace zr1 := Nat.lt_of_lt_of_le zr1 hle.size
      replace zr2 := Nat.lt_of_lt_of_le zr2 hle.size
      replace zr3 := Nat.lt_of_lt_of_le zr3 hle.size
      replace S := S.le hle
      replace L0 := L0.trans hle
      replace S2 := S2.le hle
      replace S3 := S3.le hle
      replace S4 := S4.le hle
      clear hle
      refine hK.out _ _ (fun _ => ⟨ct, cx0, cx1, cx2, cr0, cr1, cr2, cr3⟩) ?_
      clear hK K
      try simp only [Act.put, List.setIfInBounds_toArray, List.set_cons_zero, List.set_cons_succ]
      refine wpAnyZ_take (i := 11) (v := ?_) rfl (by kernel_rfl) (fun _ _ _ h => h) (Or.inl ⟨by rfl, ?_⟩) (⟨ct, cx0, cx1, cx2, cr0, cr1, cr2, cr3⟩) ?_
      rotate_left 1
      · (intro w hSw; (try dsimp only at hSw); go_simp; try with_reducible rfl)
      try simp only [Act.put, List.setIfInBounds_toArray, List.set_cons_zero, List.set_cons_succ]
      refine wpAnyZ_take (i := 12) (v := ?_) rfl (by kernel_rfl) (fun _ _ _ h => h) (Or.inl ⟨by rfl, ?_⟩) (⟨ct, cx0, cx1, cx2, cr0, cr1, cr2, cr3⟩) ?_
      rotate_left 1
      · (intro w hSw; (try dsimp only at hSw); go_simp; try with_reducible rfl)
      try simp only [Act.put, List.setIfInBounds_toArray, List.set_cons_zero, List.set_cons_succ]
      refine wpAnyZ_take (i := 13) (v := ?_) rfl (by kernel_rfl) (fun _ _ _ h => h) (Or.inl ⟨by rfl, ?_⟩) (⟨ct, cx0, cx1, cx2, cr0, cr1, cr2, cr3⟩) ?_
      rotate_left 1
      · (intro w hSw; (try dsimp only at hSw); go_simp; try with_reducible rfl)
      try simp only [Act.put, List.setIfInBounds_toArray, List.set_cons_zero, List.set_cons_succ]
      refine wpAnyZ_take (i := 14) (v := ?_) rfl (by kernel_rfl) (fun _ _ _ h => h) (Or.inl ⟨by rfl, ?_⟩) (⟨ct, cx0, cx1, cx2, cr0, cr1, cr2, cr3⟩) ?_
      rotate_left 1
      · (intro w hSw; (try dsimp only at hSw); go_simp; try with_reducible rfl)
      try simp only [Act.put, List.setIfInBounds_toArray, List.set_cons_zero, List.set_cons_succ]
      refine wpAnyZ_take (i := 15) (v := ?_) rfl (by kernel_rfl) (fun _ _ _ h => h) (Or.inl ⟨by rfl, ?_⟩) (⟨ct, cx0, cx1, cx2, cr0, cr1, cr2, cr3⟩) ?_
      rotate_left 1
      · (intro w hSw; (try dsimp only at hSw); go_simp; try with_reducible rfl)
      try simp only [Act.put, List.setIfInBounds_toArray, List.set_cons_zero, List.set_cons_succ]
      refine wpAnyZ_take (i := 16) (v := ?_) rfl (by kernel_rfl) (fun _ _ _ h => h) (Or.inl ⟨by rfl, ?_⟩) (⟨ct, cx0, cx1, cx2, cr0, cr1, cr2, cr3⟩) ?_
      rotate_left 1
      · (intro w hSw; (try dsimp only at hSw); go_simp; try with_reducible rfl)
      try simp only [Act.put, List.setIfInBounds_toArray, List.set_cons_zero, List.set_cons_succ]
      refine wpAnyZ_take (i := 17) (v := ?_) rfl (by kernel_rfl) (fun _ _ _ h => h) (Or.inl ⟨by rfl, ?_⟩) (⟨ct, cx0, cx1, cx2, cr0, cr1, cr2, cr3⟩) ?_
      rotate_left 1
      · (intro w hSw; (try dsimp only at hSw); go_simp; try with_reducible rfl)
      try simp only [Act.put, List.setIfInBounds_toArray, List.set_cons_zero, List.set_cons_succ]
      refine wpAnyZ_take (i := 18) (v := ?_) rfl (by kernel_rfl) (fun _ _ _ h => h) (Or.inl ⟨by rfl, ?_⟩) (⟨ct, cx0, cx1, cx2, cr0, cr1, cr2, cr3⟩) ?_
      rotate_left 1
      · (intro w hSw; (try dsimp only at hSw); go_simp; try with_reducible rfl)
      try simp only [Act.put, List.setIfInBounds_toArray, List.set_cons_zero, List.set_cons_succ]
      refine wpAnyZ_take (i := 19) (v := ?_) rfl (by kernel_rfl) (fun _ _ _ h => h) (Or.inl ⟨by rfl, ?_⟩) (⟨ct, cx0, cx1, cx2, cr0, cr1, cr2, cr3⟩) ?_
      rotate_left 1
      · (intro w hSw; (try dsimp only at hSw); go_simp; try with_reducible rfl)
      try simp only [Act.put, List.setIfInBounds_toArray, List.set_cons_zero, List.set_cons_succ]
      refine wpAnyZ_one (i := 20) (by kernel_rfl) (ReadyZ.mk rfl (fun K hK => ?_))
      go_simp
      go_at_call 14
      refine (Calls.val (has_any B m c xs cl _ S) (by rw [hh])).mono ?_
      rintro e u4 ⟨rfl, hle⟩
      replace ct := (hle.cell zt).trans ct
      replace cx0 := (hle.cell zx0).trans cx0
      replace cx1 := (hle.cell zx1).trans cx1
      replace cx2 := (hle.cell zx2).trans cx2
      replace cr0 := (hle.cell zr0).trans cr0
      replace cr1 := (hle.cell zr1).trans cr1
      replace cr2 := (hle.cell zr2).trans cr2
      replace cr3 := (hle.cell zr3).trans cr3
      replace zt := Nat.lt_of_lt_of_le zt hle.size
      replace zx0 := Nat.lt_of_lt_of_le zx0 hle.size
      replace zx1 := Nat.lt_of_lt_of_le zx1 hle.size
      replace zx2 := Nat.lt_of_lt_of_le zx2 hle.size
      replace zr0 := Nat.lt_of_lt_of_le zr0 hle.size
      replace zr1 := Nat.lt_of_lt_of_le zr1 hle.size
      replace zr2 := Nat.lt_of_lt_of_le zr2 hle.size
      replace zr3 := Nat.lt_of_lt_of_le zr3 hle.size
      replace S := S.le hle
      replace L0 := L0.trans hle
      replace S2 := S2.le hle
      replace S3 := S3.le hle
      replace S4 := S4.le hle
      clear hle
      refine hK.out _ _ (fun _ => ⟨ct, cx0, cx1, cx2, cr0, cr1, cr2, cr3⟩) ?_
      clear hK K
      try simp only [Act.put, List.setIfInBounds_toArray, List.set_cons_zero, List.set_cons_succ]
      refine wpAnyZ_take (i := 21) (v := ?_) rfl (by kernel_rfl) (fun _ _ _ h => h) (Or.inl ⟨by rfl, ?_⟩) (⟨ct, cx0, cx1, cx2, cr0, cr1, cr2, cr3⟩) ?_
      rotate_left 1
      · (intro w hSw; (try dsimp only at hSw); go_simp; try with_reducible rfl)
      try simp only [Act.put, List.setIfInBounds_toArray, List.set_cons_zero, List.set_cons_succ]
      refine wpAnyZ_take (i := 22) (v := ?_) rfl (by kernel_rfl) (fun _ _ _ h => h) (Or.inl ⟨by rfl, ?_⟩) (⟨ct, cx0, cx1, cx2, cr0, cr1, cr2, cr3⟩) ?_
      rotate_left 1
      · (intro w hSw; (try dsimp only at hSw); go_simp; try with_reducible rfl)
      try simp only [Act.put, List.setIfInBounds_toArray, List.set_cons_zero, List.set_cons_succ]
      refine wpAnyZ_take (i := 23) (v := ?_) rfl (by kernel_rfl) (fun _ _ _ h => h) (Or.inl ⟨by rfl, ?_⟩) (⟨ct, cx0, cx1, cx2, cr0, cr1, cr2, cr3⟩) ?_
      rotate_left 1
      · (intro w hSw; (try dsimp only at hSw); go_simp; try with_reducible rfl)
      try simp only [Act.put, List.setIfInBounds_toArray, List.set_cons_zero, List.set_cons_succ]
      refine wpAnyZ_take (i := 24) (v := ?_) rfl (by kernel_rfl) (fun _ _ _ h => h) (Or.inl ⟨by rfl, ?_⟩) (⟨ct, cx0, cx1, cx2, cr0, cr1, cr2, cr3⟩) ?_
      rotate_left 1
      · (intro w hSw; (try dsimp only at hSw); go_simp; try with_reducible rfl)
      try simp only [Act.put, List.setIfInBounds_toArray, List.set_cons_zero, List.set_cons_succ]
      refine wpAnyZ_take (i := 25) (v := undef) rfl (by kernel_rfl) (fun _ _ _ h => h) (Or.inr ⟨?_, rfl⟩) (⟨ct, cx0, cx1, cx2, cr0, cr1, cr2, cr3⟩) ?_
      · rfl
      try simp only [Act.put, List.setIfInBounds_toArray, List.set_cons_zero, List.set_cons_succ]
      refine wpAnyZ_take (i := 26) (v := undef) rfl (by kernel_rfl) (fun _ _ _ h => h) (Or.inr ⟨?_, rfl⟩) (⟨ct, cx0, cx1, cx2, cr0, cr1, cr2, cr3⟩) ?_
      · rfl
      try simp only [Act.put, List.setIfInBounds_toArray, List.set_cons_zero, List.set_cons_succ]
      refine wpAnyZ_take (i := 27) (v := undef) rfl (by kernel_rfl) (fun _ _ _ h => h) (Or.inr ⟨?_, rfl⟩) (⟨ct, cx0, cx1, cx2, cr0, cr1, cr2, cr3⟩) ?_
      · rfl
      try simp only [Act.put, List.setIfInBounds_toArray, List.set_cons_zero, List.set_cons_succ]
      refine wpAnyZ_take (i := 28) (v := undef) rfl (by kernel_rfl) (fun _ _ _ h => h) (Or.inr ⟨?_, rfl⟩) (⟨ct, cx0, cx1, cx2, cr0, cr1, cr2, cr3⟩) ?_
      · rfl
      try simp only [Act.put, List.setIfInBounds_toArray, List.set_cons_zero, List.set_cons_succ]
      refine wpAnyZ_take (i := 29) (v := undef) rfl (by kernel_rfl) (fun _ _ _ h => h) (Or.inr ⟨?_, rfl⟩) (⟨ct, cx0, cx1, cx2, cr0, cr1, cr2, cr3⟩) ?_
      · rfl
      try simp only [Act.put, List.setIfInBounds_toArray, List.set_cons_zero, List.set_cons_succ]
      refine wpAnyZ_take (i := 30) (v := undef) rfl (by kernel_rfl) (fun _ _ _ h => h) (Or.inr ⟨?_, rfl⟩) (⟨ct, cx0, cx1, cx2, cr0, cr1, cr2, cr3⟩) ?_
      · rfl
      try simp only [Act.put, List.setIfInBounds_toArray, List.set_cons_zero, List.set_cons_succ]
      refine wpAnyZ_take (i := 31) (v := undef) rfl (by kernel_rfl) (fun _ _ _ h => h) (Or.inr ⟨?_, rfl⟩) (⟨ct, cx0, cx1, cx2, cr0, cr1, cr2, cr3⟩) ?_
      · rfl
      try simp only [Act.put, List.setIfInBounds_toArray, List.set_cons_zero, List.set_cons_succ]
      refine wpAnyZ_take (i := 32) (v := undef) rfl (by kernel_rfl) (fun _ _ _ h => h) (Or.inr ⟨?_, rfl⟩) (⟨ct, cx0, cx1, cx2, cr0, cr1, cr2, cr3⟩) ?_
      · rfl
      try simp only [Act.put, List.setIfInBounds_toArray, List.set_cons_zero, List.set_cons_succ]
      refine wpAnyZ_take (i := 33) (v := undef) rfl (by kernel_rfl) (fun _ _ _ h => h) (Or.inr ⟨?_, rfl⟩) (⟨ct, cx0, cx1, cx2, cr0, cr1, cr2, cr3⟩) ?_
      · rfl
      try simp only [Act.put, List.setIfInBounds_toArray, List.set_cons_zero, List.set_cons_succ]
      refine wpAnyZ_take (i := 34) (v := undef) rfl (by kernel_rfl) (fun _ _ _ h => h) (Or.inr ⟨?_, rfl⟩) (⟨ct, cx0, cx1, cx2, cr0, cr1, cr2, cr3⟩) ?_
      · rfl
      try simp only [Act.put, List.setIfInBounds_toArray, List.set_cons_zero, List.set_cons_succ]
      refine wpAnyZ_take (i := 35) (v := undef) rfl (by kernel_rfl) (fun _ _ _ h => h) (Or.inr ⟨?_, rfl⟩) (⟨ct, cx0, cx1, cx2, cr0, cr1, cr2, cr3⟩) ?_
      · rfl
      try simp only [Act.put, List.setIfInBounds_toArray, List.set_cons_zero, List.set_cons_succ]
      refine wpAnyZ_take (i := 36) (v := undef) rfl (by kernel_rfl) (fun _ _ _ h => h) (Or.inr ⟨?_, rfl⟩) (⟨ct, cx0, cx1, cx2, cr0, cr1, cr2, cr3⟩) ?_
      · rfl
      try simp only [Act.put, List.setIfInBounds_toArray, List.set_cons_zero, List.set_cons_succ]
      refine wpAnyZ_take (i := 37) (v := ?_) rfl (by kernel_rfl) (fun _ _ _ h => h) (Or.inl ⟨by rfl, ?_⟩) (⟨ct, cx0, cx1, cx2, cr0, cr1, cr2, cr3⟩) ?_
      rotate_left 1
      · (intro w hSw; (try dsimp only at hSw); go_simp; try with_reducible rfl)
      try simp only [Act.put, List.setIfInBounds_toArray, List.set_cons_zero, List.set_cons_succ]
      refine wpAnyZ_take (i := 38) (v := ?_) rfl (by kernel_rfl) (fun _ _ _ h => h) (Or.inl ⟨by rfl, ?_⟩) (⟨ct, cx0, cx1, cx2, cr0, cr1, cr2, cr3⟩) ?_
      rotate_left 1
      · (intro w hSw; (try dsimp only at hSw); go_simp; try with_reducible rfl)
      try simp only [Act.put, List.setIfInBounds_toArray, List.set_cons_zero, List.set_cons_succ]
      refine wpAnyZ_take (i := 39) (v := undef) rfl (by kernel_rfl) (fun _ _ _ h => h) (Or.inr ⟨?_, rfl⟩) (⟨ct, cx0, cx1, cx2, cr0, cr1, cr2, cr3⟩) ?_
      · rfl
      try simp only [Act.put, List.setIfInBounds_toArray, List.set_cons_zero, List.set_cons_succ]
      refine wpAnyZ_take (i := 40) (v := undef) rfl (by kernel_rfl) (fun _ _ _ h => h) (Or.inr ⟨?_, rfl⟩) (⟨ct, cx0, cx1, cx2, cr0, cr1, cr2, cr3⟩) ?_
      · rfl
      try simp only [Act.put, List.setIfInBounds_toArray, List.set_cons_zero, List.set_cons_succ]
      refine wpAnyZ_take (i := 41) (v := undef) rfl (by kernel_rfl) (fun _ _ _ h => h) (Or.inr ⟨?_, rfl⟩) (⟨ct, cx0, cx1, cx2, cr0, cr1, cr2, cr3⟩) ?_
      · rfl
      try simp only [Act.put, List.setIfInBounds_toArray, List.set_cons_zero, List.set_cons_succ]
      refine wpAnyZ_take (i := 42) (v := undef) rfl (by kernel_rfl) (fun _ _ _ h => h) (Or.inr ⟨?_, rfl⟩) (⟨ct, cx0, cx1, cx2, cr0, cr1, cr2, cr3⟩) ?_
      · rfl
      try simp only [Act.put, List.setIfInBounds_toArray, List.set_cons_zero, List.set_cons_succ]
      refine wpAnyZ_take (i := 43) (v := undef) rfl (by kernel_rfl) (fun _ _ _ h => h) (Or.inr ⟨?_, rfl⟩) (⟨ct, cx0, cx1, cx2, cr0, cr1, cr2, cr3⟩) ?_
      · rfl
      try simp only [Act.put, List.setIfInBounds_toArray, List.set_cons_zero, List.set_cons_succ]
      refine wpAnyZ_take (i := 44) (v := undef) rfl (by kernel_rfl) (fun _ _ _ h => h) (Or.inr ⟨?_, rfl⟩) (⟨ct, cx0, cx1, cx2, cr0, cr1, cr2, cr3⟩) ?_
      · rfl
      try simp only [Act.put, List.setIfInBounds_toArray, List.set_cons_zero, List.set_cons_succ]
      refine wpAnyZ_take (i := 45) (v := undef) rfl (by kernel_rfl) (fun _ _ _ h => h) (Or.inr ⟨?_, rfl⟩) (⟨ct, cx0, cx1, cx2, cr0, cr1, cr2, cr3⟩) ?_
      · rfl
      try simp only [Act.put, List.setIfInBounds_toArray, List.set_cons_zero, List.set_cons_succ]
      refine wpAnyZ_take (i := 46) (v := undef) rfl (by kernel_rfl) (fun _ _ _ h => h) (Or.inr ⟨?_, rfl⟩) (⟨ct, cx0, cx1, cx2, cr0, cr1, cr2, cr3⟩) ?_
      · rfl
      try simp only [Act.put, List.setIfInBounds_toArray, List.set_cons_zero, List.set_cons_succ]
      refine wpAnyZ_take (i := 47) (v := undef) rfl (by kernel_rfl) (fun _ _ _ h => h) (Or.inr ⟨?_, rfl⟩) (⟨ct, cx0, cx1, cx2, cr0, cr1, cr2, cr3⟩) ?_
      · rfl
      try simp only [Act.put, List.setIfInBounds_toArray, List.set_cons_zero, List.set_cons_succ]
      refine wpAnyZ_take (i := 48) (v := undef) rfl (by kernel_rfl) (fun _ _ _ h => h) (Or.inr ⟨?_, rfl⟩) (⟨ct, cx0, cx1, cx2, cr0, cr1, cr2, cr3⟩) ?_
      · rfl
      try simp only [Act.put, List.setIfInBounds_toArray, List.set_cons_zero, List.set_cons_succ]
      refine wpAnyZ_take (i := 49) (v := undef) rfl (by kernel_rfl) (fun _ _ _ h => h) (Or.inr ⟨?_, rfl⟩) (⟨ct, cx0, cx1, cx2, cr0, cr1, cr2, cr3⟩) ?_
      · rfl
      try simp only [Act.put, List.setIfInBounds_toArray, List.set_cons_zero, List.set_cons_succ]
      refine wpAnyZ_take (i := 50) (v := undef) rfl (by kernel_rfl) (fun _ _ _ h => h) (Or.inr ⟨?_, rfl⟩) (⟨ct, cx0, cx1, cx2, cr0, cr1, cr2, cr3⟩) ?_
      · rfl
      try simp only [Act.put, List.setIfInBounds_toArray, List.set_cons_zero, List.set_cons_succ]
      refine wpAnyZ_take (i := 51) (v := undef) rfl (by kernel_rfl) (fun _ _ _ h => h) (Or.inr ⟨?_, rfl⟩) (⟨ct, cx0, cx1, cx2, cr0, cr1, cr2, cr3⟩) ?_
      · rfl
      try simp only [Act.put, List.setIfInBounds_toArray, List.set_cons_zero, List.set_cons_succ]
      refine wpAnyZ_take (i := 52) (v := ?_) rfl (by kernel_rfl) (fun _ _ _ h => h) (Or.inl ⟨by rfl, ?_⟩) (⟨ct, cx0, cx1, cx2, cr0, cr1, cr2, cr3⟩) ?_
      rotate_left 1
      · (intro w hSw; (try dsimp only at hSw); go_simp; try with_reducible rfl)
      try simp only [Act.put, List.setIfInBounds_toArray, List.set_cons_zero, List.set_cons_succ]
      refine wpAnyZ_done (by kernel_rfl) ?_ _
      refine NoPanic.normal ?_
      go_wp2_with fail
      replace ct := (show u4.drew.cell? _ = _ from ct)
      replace zt := (show _ < u4.drew.heap.size from zt)
      replace cx0 := (show u4.drew.cell? _ = _ from cx0)
      replace zx0 := (show _ < u4.drew.heap.size from zx0)
      replace cx1 := (show u4.drew.cell? _ = _ from cx1)
      replace zx1 := (show _ < u4.drew.heap.size from zx1)
      replace cx2 := (show u4.drew.cell? _ = _ from cx2)
      replace zx2 := (show _ < u4.drew.heap.size from zx2)
      replace cr0 := (show u4.drew.cell? _ = _ from cr0)
      replace zr0 := (show _ < u4.drew.heap.size from zr0)
      replace cr1 := (show u4.drew.cell? _ = _ from cr1)
      replace zr1 := (show _ < u4.drew.heap.size from zr1)
      replace cr2 := (show u4.drew.cell? _ = _ from cr2)
      replace zr2 := (show _ < u4.drew.heap.size from zr2)
      replace cr3 := (show u4.drew.cell? _ = _ from cr3)
      replace zr3 := (show _ < u4.drew.heap.size from zr3)
      replace S := S.le (Le.refl _).drew
      replace L0 := L0.drew
      replace S2 := S2.le (Le.refl _).drew
      replace S3 := S3.le (Le.refl _).drew
      replace S4 := S4.le (Le.refl _).drew
      refine wp_region_noPanic ?_
      refine wp_region_Z (fun w' => w'.cell? ⟨w1.heap.size, 0, none⟩ = some (.slice B m c) ∧ w'.cell? ⟨w1.heap.size + 1, 0, none⟩ = some (.bool true) ∧ w'.cell? ⟨w1.heap.size + 1, 1, none⟩ = some (.int .i64 cl) ∧ w'.cell? ⟨w1.heap.size + 1, 2, none⟩ = some (.int .i64 k) ∧ w'.cell? ⟨w3.heap.size, 0, none⟩ = some (.slice A0 (ceL xs L true cl k).length q0) ∧ w'.cell? ⟨w3.heap.size, 1, none⟩ = some (.int .i64 (ceE xs L true cl k)) ∧ w'.cell? ⟨w3.heap.size, 2, none⟩ = some (.int .i64 (ceV xs L true cl k)) ∧ w'.cell? ⟨w3.heap.size, 3, none⟩ = some (.slice A1 (ceH xs L true cl k).length q1)) [] (by kernel_rfl) ?_
      generalize u4.drew = Y at *
      refine wpAnyZ_take (i := 0) (v := ?_) rfl (by kernel_rfl) (fun _ _ _ h => h) (Or.inl ⟨by rfl, ?_⟩) (⟨ct, cx0, cx1, cx2, cr0, cr1, cr2, cr3⟩) ?_
      rotate_left 1
      · (intro w hSw; (try dsimp only at hSw); go_simp; try with_reducible rfl)
      try simp only [Act.put, List.setIfInBounds_toArray, List.set_cons_zero, List.set_cons_succ]
      refine wpAnyZ_take (i := 1) (v := ?_) rfl (by kernel_rfl) (fun _ _ _ h => h) (Or.inl ⟨by rfl, ?_⟩) (⟨ct, cx0, cx1, cx2, cr0, cr1, cr2, cr3⟩) ?_
      rotate_left 1
      · (intro w hSw; (try dsimp only at hSw); go_simp; try with_reducible rfl)
      try simp only [Act.put, List.setIfInBounds_toArray, List.set_cons_zero, List.set_cons_succ]
      refine wpAnyZ_take (i := 2) (v := ?_) rfl (by kernel_rfl) (fun _ _ _ h => h) (Or.inl ⟨by rfl, ?_⟩) (⟨ct, cx0, cx1, cx2, cr0, cr1, cr2, cr3⟩) ?_
      rotate_left 1
      · (intro w hSw; (try dsimp only at hSw); go_simp; try with_reducible rfl)
      try simp only [Act.put, List.setIfInBounds_toArray, List.set_cons_zero, List.set_cons_succ]
      refine wpAnyZ_take (i := 3) (v := ?_) rfl (by kernel_rfl) (fun _ _ _ h => h) (Or.inl ⟨by rfl, ?_⟩) (⟨ct, cx0, cx1, cx2, cr0, cr1, cr2, cr3⟩) ?_
      rotate_left 1
      · (intro w hSw; (try dsimp only at hSw); go_simp; try with_reducible rfl)
      try simp only [Act.put, List.setIfInBounds_toArray, List.set_cons_zero, List.set_cons_succ]
      refine wpAnyZ_one (i := 4) (by kernel_rfl) (ReadyZ.mk rfl (fun K hK => ?_))
      go_simp
      go_at_call 12
      refine (Calls.ce (sCloseExits_any B D m c _ d xs L true cl k hcl hkk _ S S2)).mono ?_
      rintro e y1 ⟨A2, q2, A3, q3, rfl, S5, S6, hle⟩
      replace ct := (hle.cell zt).trans ct
      replace cx0 := (hle.cell zx0).trans cx0
      replace cx1 := (hle.cell zx1).trans cx1
      replace cx2 := (hle.cell zx2).trans cx2
      replace cr0 := (hle.cell zr0).trans cr0
      replace cr1 := (hle.cell zr1).trans cr1
      replace cr2 := (hle.cell zr2).trans cr2
      replace cr3 := (hle.cell zr3).trans cr3
      replace zt := Nat.lt_of_lt_of_le zt hle.size
      replace zx0 := Nat.lt_of_lt_of_le zx0 hle.size
      replace zx1 := Nat.lt_of_lt_of_le zx1 hle.size
      replace zx2 := Nat.lt_of_lt_of_le zx2 hle.size
      replace zr0 := Nat.lt_of_lt_of_le zr0 hle.size
      replace zr1 := Nat.lt_of_lt_of_le zr1 hle.size
      replace zr2 := Nat.lt_of_lt_of_le zr2 hle.size
      replace zr3 := Nat.lt_of_lt_of_le zr3 hle.size
      replace S := S.le hle
      replace L0 := L0.trans hle
      replace S2 := S2.le hle
      replace S3 := S3.le hle
      replace S4 := S4.le hle
      clear hle
      refine hK.out _ _ (fun _ => ⟨ct, cx0, cx1, cx2, cr0, cr1, cr2, cr3⟩) ?_
      clear hK K
      try simp only [Act.put, List.setIfInBounds_toArray, List.set_cons_zero, List.set_cons_succ]
      refine wpAnyZ_one (i := 5) (by kernel_rfl) (ReadyZ.mk rfl (fun K hK => ?_))
      go_simp
      go_at_call 11
      refine (equalResult_self _ _ _ _ _ _ _ _ _ _ (ceL xs L true cl k) (ceH xs L true cl k) _ _ _ S3 S5 S4 S6).mono ?_
      rintro e y2 ⟨rfl, hle⟩
      replace ct := (hle.cell zt).trans ct
      replace cx0 := (hle.cell zx0).trans cx0
      replace cx1 := (hle.cell zx1).trans cx1
      replace cx2 := (hle.cell zx2).trans cx2
      replace cr0 := (hle.cell zr0).trans cr0
      replace cr1 := (hle.cell zr1).trans cr1
      replace cr2 := (hle.cell zr2).trans cr2
      replace cr3 := (hle.cell zr3).trans cr3
      replace zt := Nat.lt_of_lt_of_le zt hle.size
      replace zx0 := Nat.lt_of_lt_of_le zx0 hle.size
      replace zx1 := Nat.lt_of_lt_of_le zx1 hle.size
      replace zx2 := Nat.lt_of_lt_of_le zx2 hle.size
      replace zr0 := Nat.lt_of_lt_of_le zr0 hle.size
      replace zr1 := Nat.lt_of_lt_of_le zr1 hle.size
      replace zr2 := Nat.lt_of_lt_of_le zr2 hle.size
      replace zr3 := Nat.lt_of_lt_of_le zr3 hle.size
      replace S := S.le hle
      replace L0 := L0.trans hle
      replace S2 := S2.le hle
      replace S3 := S3.le hle
      replace S4 := S4.le hle
      clear hle S5 S6
      refine hK.out _ _ (fun _ => ⟨ct, cx0, cx1, cx2, cr0, cr1, cr2, cr3⟩) ?_
      clear hK K
      try simp only [Act.put, List.setIfInBounds_toArray, List.set_cons_zero, List.set_cons_succ]
      refine wpAnyZ_take (i := 6) (v := ?_) rfl (by kernel_rfl) (fun _ _ _ h => h) (Or.inl ⟨by rfl, ?_⟩) (⟨ct, cx0, cx1, cx2, cr0, cr1, cr2, cr3⟩) ?_
      rotate_left 1
      · (intro w hSw; (try dsimp only at hSw); go_simp; try with_reducible rfl)
      try simp only [Act.put, List.setIfInBounds_toArray, List.set_cons_zero, List.set_cons_succ]
      refine wpAnyZ_done (by kernel_rfl) ?_ _
      refine NoPanic.normal ?_
      go_wp2
      go_ret
      exact ⟨rfl, L0⟩
    by_cases h1 : k < 0
    · have h1b : decide (k < 0) = true := decide_eq_true h1
      replace ct := (show W3.drew.cell? _ = _ from ct)
      replace zt := (show _ < W3.drew.heap.size from zt)
      replace cx0 := (show W3.drew.cell? _ = _ from cx0)
      replace zx0 := (show _ < W3.drew.heap.size from zx0)
      replace cx1 := (show W3.drew.cell? _ = _ from cx1)
      replace zx1 := (show _ < W3.drew.heap.size from zx1)
      replace cx2 := (show W3.drew.cell? _ = _ from cx2)
      replace zx2 := (show _ < W3.drew.heap.size from zx2)
      replace cr0 := (show W3.drew.cell? _ = _ from cr0)
      replace zr0 := (show _ < W3.drew.heap.size from zr0)
      replace cr1 := (show W3.drew.cell? _ = _ from cr1)
      replace zr1 := (show _ < W3.drew.heap.size from zr1)
      replace cr2 := (show W3.drew.cell? _ = _ from cr2)
      replace zr2 := (show _ < W3.drew.heap.size from zr2)
      replace cr3 := (show W3.drew.cell? _ = _ from cr3)
      replace zr3 := (show _ < W3.drew.heap.size from zr3)
      replace S := S.le (Le.refl _).drew
      replace L0 := L0.drew
      replace S2 := S2.le (Le.refl _).drew
      replace S3 := S3.le (Le.refl _).drew
      replace S4 := S4.le (Le.refl _).drew
      refine wp_region_noPanic ?_
      refine wp_region_Z (fun w' => w'.cell? ⟨w1.heap.size, 0, none⟩ = some (.slice B m c) ∧ w'.cell? ⟨w1.heap.size + 1, 0, none⟩ = some (.bool true) ∧ w'.cell? ⟨w1.heap.size + 1, 1, none⟩ = some (.int .i64 cl) ∧ w'.cell? ⟨w1.heap.size + 1, 2, none⟩ = some (.int .i64 k) ∧ w'.cell? ⟨w3.heap.size, 0, none⟩ = some (.slice A0 (ceL xs L true cl k).length q0) ∧ w'.cell? ⟨w3.heap.size, 1, none⟩ = some (.int .i64 (ceE xs L true cl k)) ∧ w'.cell? ⟨w3.heap.size, 2, none⟩ = some (.int .i64 (ceV xs L true cl k)) ∧ w'.cell? ⟨w3.heap.size, 3, none⟩ = some (.slice A1 (ceH xs L true cl k).length q1)) [] (by kernel_rfl) ?_
      generalize W3.drew = U at *
      refine wpAnyZ_take (i := 0) (v := ?_) rfl (by kernel_rfl) (fun _ _ _ h => h) (Or.inl ⟨by rfl, ?_⟩) (⟨ct, cx0, cx1, cx2, cr0, cr1, cr2, cr3⟩) ?_
      rotate_left 1
      · (intro w hSw; (try dsimp only at hSw); go_simp; try with_reducible rfl)
      try simp only [Act.put, List.setIfInBounds_toArray, List.set_cons_zero, List.set_cons_succ]
      refine wpAnyZ_take (i := 1) (v := ?_) rfl (by kernel_rfl) (fun _ _ _ h => h) (Or.inl ⟨by rfl, ?_⟩) (⟨ct, cx0, cx1, cx2, cr0, cr1, cr2, cr3⟩) ?_
      rotate_left 1
      · (intro w hSw; (try dsimp only at hSw); go_simp; try with_reducible rfl)
      try simp only [Act.put, List.setIfInBounds_toArray, List.set_cons_zero, List.set_cons_succ]
      refine wpAnyZ_take (i := 2) (v := ?_) rfl (by kernel_rfl) (fun _ _ _ h => h) (Or.inl ⟨by rfl, ?_⟩) (⟨ct, cx0, cx1, cx2, cr0, cr1, cr2, cr3⟩) ?_
      rotate_left 1
      · (intro w hSw; (try dsimp only at hSw); go_simp; try with_reducible rfl)
      try simp only [Act.put, List.setIfInBounds_toArray, List.set_cons_zero, List.set_cons_succ]
      refine wpAnyZ_take (i := 3) (v := ?_) rfl (by kernel_rfl) (fun _ _ _ h => h) (Or.inl ⟨by rfl, ?_⟩) (⟨ct, cx0, cx1, cx2, cr0, cr1, cr2, cr3⟩) ?_
      rotate_left 1
      · (intro w hSw; (try dsimp only at hSw); go_simp; try with_reducible rfl)
      try simp only [Act.put, List.setIfInBounds_toArray, List.set_cons_zero, List.set_cons_succ]
      refine wpAnyZ_one (i := 4) (by kernel_rfl) (ReadyZ.mk rfl (fun K hK => ?_))
      go_simp
      go_at_call 12
      refine (Calls.ce (sCloseExits_any B D m c _ d xs L true cl k hcl hkk _ S S2)).mono ?_
      rintro e u1 ⟨A2, q2, A3, q3, rfl, S5, S6, hle⟩
      replace ct := (hle.cell zt).trans ct
      replace cx0 := (hle.cell zx0).trans cx0
      replace cx1 := (hle.cell zx1).trans cx1
      replace cx2 := (hle.cell zx2).trans cx2
      replace cr0 := (hle.cell zr0).trans cr0
      replace cr1 := (hle.cell zr1).trans cr1
      replace cr2 := (hle.cell zr2).trans cr2
      replace cr3 := (hle.cell zr3).trans cr3
      replace zt := Nat.lt_of_lt_of_le zt hle.size
      replace zx0 := Nat.lt_of_lt_of_le zx0 hle.size
      replace zx1 := Nat.lt_of_lt_of_le zx1 hle.size
      replace zx2 := Nat.lt_of_lt_of_le zx2 hle.size
      replace zr0 := Nat.lt_of_lt_of_le zr0 hle.size
      replace zr1 := Nat.lt_of_lt_of_le zr1 hle.size
      replace zr2 := Nat.lt_of_lt_of_le zr2 hle.size
      replace zr3 := Nat.lt_of_lt_of_le zr3 hle.size
      replace S := S.le hle
      replace L0 := L0.trans hle
      replace S2 := S2.le hle
      replace S3 := S3.le hle
      replace S4 := S4.le hle
      clear hle
      refine hK.out _ _ (fun _ => ⟨ct, cx0, cx1, cx2, cr0, cr1, cr2, cr3⟩) ?_
      clear hK K
      try simp only [Act.put, List.setIfInBounds_toArray, List.set_cons_zero, List.set_cons_succ]
      refine wpAnyZ_one (i := 5) (by kernel_rfl) (ReadyZ.mk rfl (fun K hK => ?_))
      go_simp
      go_at_call 11
      refine (equalResult_self _ _ _ _ _ _ _ _ _ _ (ceL xs L true cl k) (ceH xs L true cl k) _ _ _ S3 S5 S4 S6).mono ?_
      rintro e u2 ⟨rfl, hle⟩
      replace ct := (hle.cell zt).trans ct
      replace cx0 := (hle.cell zx0).trans cx0
      replace cx1 := (hle.cell zx1).trans cx1
      replace cx2 := (hle.cell zx2).trans cx2
      replace cr0 := (hle.cell zr0).trans cr0
      replace cr1 := (hle.cell zr1).trans cr1
      replace cr2 := (hle.cell zr2).trans cr2
      replace cr3 := (hle.cell zr3).trans cr3
      replace zt := Nat.lt_of_lt_of_le zt hle.size
      replace zx0 := Nat.lt_of_lt_of_le zx0 hle.size
      replace zx1 := Nat.lt_of_lt_of_le zx1 hle.size
      replace zx2 := Nat.lt_of_lt_of_le zx2 hle.size
      replace zr0 := Nat.lt_of_lt_of_le zr0 hle.size
      replace zr1 := Nat.lt_of_lt_of_le zr1 hle.size
      replace zr2 := Nat.lt_of_lt_of_le zr2 hle.size
      replace zr3 := Nat.lt_of_lt_of_le zr3 hle.size
      replace S := S.le hle
      replace L0 := L0.trans hle
      replace S2 := S2.le hle
      replace S3 := S3.le hle
      replace S4 := S4.le hle
      clear hle S5 S6
      refine hK.out _ _ (fun _ => ⟨ct, cx0, cx1, cx2, cr0, cr1, cr2, cr3⟩) ?_
      clear hK K
      try simp only [Act.put, List.setIfInBounds_toArray, List.set_cons_zero, List.set_cons_succ]
      refine wpAnyZ_take (i := 6) (v := ?_) rfl (by kernel_rfl) (fun _ _ _ h => h) (Or.inl ⟨by rfl, ?_⟩) (⟨ct, cx0, cx1, cx2, cr0, cr1, cr2, cr3⟩) ?_
      rotate_left 1
      · (intro w hSw; (try dsimp only at hSw); go_simp; try with_reducible rfl)
      try simp only [Act.put, List.setIfInBounds_toArray, List.set_cons_zero, List.set_cons_succ]
      refine wpAnyZ_take (i := 7) (v := ?_) rfl (by kernel_rfl) (fun _ _ _ h => h) (Or.inl ⟨by rfl, ?_⟩) (⟨ct, cx0, cx1, cx2, cr0, cr1, cr2, cr3⟩) ?_
      rotate_left 1
      · (intro w hSw; (try dsimp only at hSw); go_simp; try with_reducible rfl)
      try simp only [Act.put, List.setIfInBounds_toArray, List.set_cons_zero, List.set_cons_succ]
      refine wpAnyZ_take (i := 8) (v := ?_) rfl (by kernel_rfl) (fun _ _ _ h => h) (Or.inl ⟨by rfl, ?_⟩) (⟨ct, cx0, cx1, cx2, cr0, cr1, cr2, cr3⟩) ?_
      rotate_left 1
      · (intro w hSw; (try dsimp only at hSw); go_simp; try with_reducible rfl)
      try simp only [Act.put, List.setIfInBounds_toArray, List.set_cons_zero, List.set_cons_succ]
      refine wpAnyZ_take (i := 9) (v := ?_) rfl (by kernel_rfl) (fun _ _ _ h => h) (Or.inl ⟨by rfl, ?_⟩) (⟨ct, cx0, cx1, cx2, cr0, cr1, cr2, cr3⟩) ?_
      rotate_left 1
      · (intro w hSw; (try dsimp only at hSw); go_simp; try with_reducible rfl)
      try simp only [Act.put, List.setIfInBounds_toArray, List.set_cons_zero, List.set_cons_succ]
      refine wpAnyZ_one (i := 10) (by kernel_rfl) (ReadyZ.mk rfl (fun K hK => ?_))
      go_simp
      go_at_call 13
      refine (Calls.val (iValidExits_any B D m c _ d xs L _ S S2) (by rw [hv])).mono ?_
      rintro e u3 ⟨rfl, hle⟩
      replace ct := (hle.cell zt).trans ct
      replace cx0 := (hle.cell zx0).trans cx0
      replace cx1 := (hle.cell zx1).trans cx1
      replace cx2 := (hle.cell zx2).trans cx2
      replace cr0 := (hle.cell zr0).trans cr0
      replace cr1 := (hle.cell zr1).trans cr1
      replace cr2 := (hle.cell zr2).trans cr2
      replace cr3 := (hle.cell zr3).trans cr3
      replace zt := Nat.lt_of_lt_of_le zt hle.size
      replace zx0 := Nat.lt_of_lt_of_le zx0 hle.size
      replace zx1 := Nat.lt_of_lt_of_le zx1 hle.size
      replace zx2 := Nat.lt_of_lt_of_le zx2 hle.size
      replace zr0 := Nat.lt_of_lt_of_le zr0 hle.size
      replace zr1 := Nat.lt_of_lt_of_le zr1 hle.size
      replace zr2 := Nat.lt_of_lt_of_le zr2 hle.size
      replace zr3 := Nat.lt_of_lt_of_le zr3 hle.size
      replace S := S.le hle
      replace L0 := L0.trans hle
      replace S2 := S2.le hle
      replace S3 := S3.le hle
      replace S4 := S4.le hle
      clear hle
      refine hK.out _ _ (fun _ => ⟨ct, cx0, cx1, cx2, cr0, cr1, cr2, cr3⟩) ?_
      clear hK K
      try simp only [Act.put, List.setIfInBounds_toArray, List.set_cons_zero, List.set_cons_succ]
      refine wpAnyZ_take (i := 11) (v := ?_) rfl (by kernel_rfl) (fun _ _ _ h => h) (Or.inl ⟨by rfl, ?_⟩) (⟨ct, cx0, cx1, cx2, cr0, cr1, cr2, cr3⟩) ?_
      rotate_left 1
      · (intro w hSw; (try dsimp only at hSw); go_simp; try with_reducible rfl)
      try simp only [Act.put, List.setIfInBounds_toArray, List.set_cons_zero, List.set_cons_succ]
      refine wpAnyZ_take (i := 12) (v := ?_) rfl (by kernel_rfl) (fun _ _ _ h => h) (Or.inl ⟨by rfl, ?_⟩) (⟨ct, cx0, cx1, cx2, cr0, cr1, cr2, cr3⟩) ?_
      rotate_left 1
      · (intro w hSw; (try dsimp only at hSw); go_simp; try with_reducible rfl)
      try simp only [Act.put, List.setIfInBounds_toArray, List.set_cons_zero, List.set_cons_succ]
      refine wpAnyZ_take (i := 13) (v := ?_) rfl (by kernel_rfl) (fun _ _ _ h => h) (Or.inl ⟨by rfl, ?_⟩) (⟨ct, cx0, cx1, cx2, cr0, cr1, cr2, cr3⟩) ?_
      rotate_left 1
      · (intro w hSw; (try dsimp only at hSw); go_simp; try with_reducible rfl)
      try simp only [Act.put, List.setIfInBounds_toArray, List.set_cons_zero, List.set_cons_succ]
      refine wpAnyZ_take (i := 14) (v := ?_) rfl (by kernel_rfl) (fun _ _ _ h => h) (Or.inl ⟨by rfl, ?_⟩) (⟨ct, cx0, cx1, cx2, cr0, cr1, cr2, cr3⟩) ?_
      rotate_left 1
      · (intro w hSw; (try dsimp only at hSw); go_simp; try with_reducible rfl)
      try simp only [Act.put, List.setIfInBounds_toArray, List.set_cons_zero, List.set_cons_succ]
      refine wpAnyZ_take (i := 15) (v := ?_) rfl (by kernel_rfl) (fun _ _ _ h => h) (Or.inl ⟨by rfl, ?_⟩) (⟨ct, cx0, cx1, cx2, cr0, cr1, cr2, cr3⟩) ?_
      rotate_left 1
      · (intro w hSw; (try dsimp only at hSw); go_simp; try with_reducible rfl)
      try simp only [Act.put, List.setIfInBounds_toArray, List.set_cons_zero, List.set_cons_succ]
      refine wpAnyZ_take (i := 16) (v := ?_) rfl (by kernel_rfl) (fun _ _ _ h => h) (Or.inl ⟨by rfl, ?_⟩) (⟨ct, cx0, cx1, cx2, cr0, cr1, cr2, cr3⟩) ?_
      rotate_left 1
      · (intro w hSw; (try dsimp only at hSw); go_simp; try with_reducible rfl)
      try simp only [Act.put, List.setIfInBounds_toArray, List.set_cons_zero, List.set_cons_succ]
      refine wpAnyZ_take (i := 17) (v := ?_) rfl (by kernel_rfl) (fun _ _ _ h => h) (Or.inl ⟨by rfl, ?_⟩) (⟨ct, cx0, cx1, cx2, cr0, cr1, cr2, cr3⟩) ?_
      rotate_left 1
      · (intro w hSw; (try dsimp only at hSw); go_simp; try with_reducible rfl)
      try simp only [Act.put, List.setIfInBounds_toArray, List.set_cons_zero, List.set_cons_succ]
      refine wpAnyZ_take (i := 18) (v := ?_) rfl (by kernel_rfl) (fun _ _ _ h => h) (Or.inl ⟨by rfl, ?_⟩) (⟨ct, cx0, cx1, cx2, cr0, cr1, cr2, cr3⟩) ?_
      rotate_left 1
      · (intro w hSw; (try dsimp only at hSw); go_simp; try with_reducible rfl)
      try simp only [Act.put, List.setIfInBounds_toArray, List.set_cons_zero, List.set_cons_succ]
      refine wpAnyZ_take (i := 19) (v := ?_) rfl (by kernel_rfl) (fun _ _ _ h => h) (Or.inl ⟨by rfl, ?_⟩) (⟨ct, cx0, cx1, cx2, cr0, cr1, cr2, cr3⟩) ?_
      rotate_left 1
      · (intro w hSw; (try dsimp only at hSw); go_simp; try with_reducible rfl)
      try simp only [Act.put, List.setIfInBounds_toArray, List.set_cons_zero, List.set_cons_succ]
      refine wpAnyZ_one (i := 20) (by kernel_rfl) (ReadyZ.mk rfl (fun K hK => ?_))
      go_simp
      go_at_call 14
      refine (Calls.val (has_any B m c xs cl _ S) (by rw [hh])).mono ?_
      rintro e u4 ⟨rfl, hle⟩
      replace ct := (hle.cell zt).trans ct
      replace cx0 := (hle.cell zx0).trans cx0
      replace cx1 := (hle.cell zx1).trans cx1
      replace cx2 := (hle.cell zx2).trans cx2
      replace cr0 := (hle.cell zr0).trans cr0
      replace cr1 := (hle.cell zr1).trans cr1
      replace cr2 := (hle.cell zr2).trans cr2
      replace cr3 := (hle.cell zr3).trans cr3
      replace zt := Nat.lt_of_lt_of_le zt hle.size
      replace zx0 := Nat.lt_of_lt_of_le zx0 hle.size
      replace zx1 := Nat.lt_of_lt_of_le zx1 hle.size
      replace zx2 := Nat.lt_of_lt_of_le zx2 hle.size
      replace zr0 := Nat.lt_of_lt_of_le zr0 hle.size
      replace zr1 := Nat.lt_of_lt_of_le zr1 hle.size
      replace zr2 := Nat.lt_of_lt_of_le zr2 hle.size
      replace zr3 := Nat.lt_of_lt_of_le zr3 hle.size
      replace S := S.le hle
      replace L0 := L0.trans hle
      replace S2 := S2.le hle
      replace S3 := S3.le hle
      replace S4 := S4.le hle
      clear hle
      refine hK.out _ _ (fun _ => ⟨ct, cx0, cx1, cx2, cr0, cr1, cr2, cr3⟩) ?_
      clear hK K
      try simp only [Act.put, List.setIfInBounds_toArray, List.set_cons_zero, List.set_cons_succ]
      refine wpAnyZ_take (i := 21) (v := ?_) rfl (by kernel_rfl) (fun _ _ _ h => h) (Or.inl ⟨by rfl, ?_⟩) (⟨ct, cx0, cx1, cx2, cr0, cr1, cr2, cr3⟩) ?_
      rotate_left 1
      · (intro w hSw; (try dsimp only at hSw); go_simp; try with_reducible rfl)
      try simp only [Act.put, List.setIfInBounds_toArray, List.set_cons_zero, List.set_cons_succ]
      refine wpAnyZ_take (i := 22) (v := ?_) rfl (by kernel_rfl) (fun _ _ _ h => h) (Or.inl ⟨by rfl, ?_⟩) (⟨ct, cx0, cx1, cx2, cr0, cr1, cr2, cr3⟩) ?_
      rotate_left 1
      · (intro w hSw; (try dsimp only at hSw); go_simp; try with_reducible rfl)
      try simp only [Act.put, List.setIfInBounds_toArray, List.set_cons_zero, List.set_cons_succ]
      refine wpAnyZ_take (i := 23) (v := ?_) rfl (by kernel_rfl) (fun _ _ _ h => h) (Or.inl ⟨by rfl, ?_⟩) (⟨ct, cx0, cx1, cx2, cr0, cr1, cr2, cr3⟩) ?_
      rotate_left 1
      · (intro w hSw; (try dsimp only at hSw); go_simp; try with_reducible rfl)
      try simp only [Act.put, List.setIfInBounds_toArray, List.set_cons_zero, List.set_cons_succ]
      refine wpAnyZ_take (i := 24) (v := ?_) rfl (by kernel_rfl) (fun _ _ _ h => h) (Or.inl ⟨by rfl, ?_⟩) (⟨ct, cx0, cx1, cx2, cr0, cr1, cr2, cr3⟩) ?_
      rotate_left 1
      · (intro w hSw; (try dsimp only at hSw); go_simp; try with_reducible rfl)
      try simp only [Act.put, List.setIfInBounds_toArray, List.set_cons_zero, List.set_cons_succ]
      refine wpAnyZ_take (i := 25) (v := ?_) rfl (by kernel_rfl) (fun _ _ _ h => h) (Or.inl ⟨by rfl, ?_⟩) (⟨ct, cx0, cx1, cx2, cr0, cr1, cr2, cr3⟩) ?_
      rotate_left 1
      · (intro w hSw; (try dsimp only at hSw); go_simp; try with_reducible rfl)
      try simp only [Act.put, List.setIfInBounds_toArray, List.set_cons_zero, List.set_cons_succ]
      refine wpAnyZ_take (i := 26) (v := ?_) rfl (by kernel_rfl) (fun _ _ _ h => h) (Or.inl ⟨by rfl, ?_⟩) (⟨ct, cx0, cx1, cx2, cr0, cr1, cr2, cr3⟩) ?_
      rotate_left 1
      · (intro w hSw; (try dsimp only at hSw); go_simp; try with_reducible rfl)
      try simp only [Act.put, List.setIfInBounds_toArray, List.set_cons_zero, List.set_cons_succ]
      refine wpAnyZ_take (i := 27) (v := ?_) rfl (by kernel_rfl) (fun _ _ _ h => h) (Or.inl ⟨by rfl, ?_⟩) (⟨ct, cx0, cx1, cx2, cr0, cr1, cr2, cr3⟩) ?_
      rotate_left 1
      · (intro w hSw; (try dsimp only at hSw); go_simp; try with_reducible rfl)
      try simp only [Act.put, List.setIfInBounds_toArray, List.set_cons_zero, List.set_cons_succ]
      refine wpAnyZ_take (i := 28) (v := ?_) rfl (by kernel_rfl) (fun _ _ _ h => h) (Or.inl ⟨by rfl, ?_⟩) (⟨ct, cx0, cx1, cx2, cr0, cr1, cr2, cr3⟩) ?_
      rotate_left 1
      · (intro w hSw; (try dsimp only at hSw); go_simp; try with_reducible rfl)
      try simp only [Act.put, List.setIfInBounds_toArray, List.set_cons_zero, List.set_cons_succ]
      refine wpAnyZ_take (i := 29) (v := ?_) rfl (by kernel_rfl) (fun _ _ _ h => h) (Or.inl ⟨by rfl, ?_⟩) (⟨ct, cx0, cx1, cx2, cr0, cr1, cr2, cr3⟩) ?_
      rotate_left 1
      · (intro w hSw; (try dsimp only at hSw); go_simp; try with_reducible rfl)
      try simp only [Act.put, List.setIfInBounds_toArray, List.set_cons_zero, List.set_cons_succ]
      refine wpAnyZ_take (i := 30) (v := ?_) rfl (by kernel_rfl) (fun _ _ _ h => h) (Or.inl ⟨by rfl, ?_⟩) (⟨ct, cx0, cx1, cx2, cr0, cr1, cr2, cr3⟩) ?_
      rotate_left 1
      · (intro w hSw; (try dsimp only at hSw); go_simp; try with_reducible rfl)
      try simp only [Act.put, List.setIfInBounds_toArray, List.set_cons_zero, List.set_cons_succ]
      refine wpAnyZ_take (i := 31) (v := ?_) rfl (by kernel_rfl) (fun _ _ _ h => h) (Or.inl ⟨by rfl, ?_⟩) (⟨ct, cx0, cx1, cx2, cr0, cr1, cr2, cr3⟩) ?_
      rotate_left 1
      · (intro w hSw; (try dsimp only at hSw); go_simp; try with_reducible rfl)
      try simp only [Act.put, List.setIfInBounds_toArray, List.set_cons_zero, List.set_cons_succ]
      refine wpAnyZ_take (i := 32) (v := undef) rfl (by kernel_rfl) (fun _ _ _ h => h) (Or.inr ⟨?_, rfl⟩) (⟨ct, cx0, cx1, cx2, cr0, cr1, cr2, cr3⟩) ?_
      · rfl
      try simp only [Act.put, List.setIfInBounds_toArray, List.set_cons_zero, List.set_cons_succ]
      refine wpAnyZ_take (i := 33) (v := undef) rfl (by kernel_rfl) (fun _ _ _ h => h) (Or.inr ⟨?_, rfl⟩) (⟨ct, cx0, cx1, cx2, cr0, cr1, cr2, cr3⟩) ?_
      · rfl
      try simp only [Act.put, List.setIfInBounds_toArray, List.set_cons_zero, List.set_cons_succ]
      refine wpAnyZ_take (i := 34) (v := undef) rfl (by kernel_rfl) (fun _ _ _ h => h) (Or.inr ⟨?_, rfl⟩) (⟨ct, cx0, cx1, cx2, cr0, cr1, cr2, cr3⟩) ?_
      · rfl
      try simp only [Act.put, List.setIfInBounds_toArray, List.set_cons_zero, List.set_cons_succ]
      refine wpAnyZ_take (i := 35) (v := ?_) rfl (by kernel_rfl) (fun _ _ _ h => h) (Or.inl ⟨by rfl, ?_⟩) (⟨ct, cx0, cx1, cx2, cr0, cr1, cr2, cr3⟩) ?_
      rotate_left 1
      · (intro w hSw; (try dsimp only at hSw); go_simp; try with_reducible rfl)
      try simp only [Act.put, List.setIfInBounds_toArray, List.set_cons_zero, List.set_cons_succ]
      refine wpAnyZ_take (i := 36) (v := ?_) rfl (by kernel_rfl) (fun _ _ _ h => h) (Or.inl ⟨by rfl, ?_⟩) (⟨ct, cx0, cx1, cx2, cr0, cr1, cr2, cr3⟩) ?_
      rotate_left 1
      · (intro w hSw; (try dsimp only at hSw); go_simp; try with_reducible rfl)
      try simp only [Act.put, List.setIfInBounds_toArray, List.set_cons_zero, List.set_cons_succ]
      refine wpAnyZ_take (i := 37) (v := ?_) rfl (by kernel_rfl) (fun _ _ _ h => h) (Or.inl ⟨by rfl, ?_⟩) (⟨ct, cx0, cx1, cx2, cr0, cr1, cr2, cr3⟩) ?_
      rotate_left 1
      · (intro w hSw; (try dsimp only at hSw); go_simp; try with_reducible rfl)
      try simp only [Act.put, List.setIfInBounds_toArray, List.set_cons_zero, List.set_cons_succ]
      refine wpAnyZ_take (i := 38) (v := ?_) rfl (by kernel_rfl) (fun _ _ _ h => h) (Or.inl ⟨by rfl, ?_⟩) (⟨ct, cx0, cx1, cx2, cr0, cr1, cr2, cr3⟩) ?_
      rotate_left 1
      · (intro w hSw; (try dsimp only at hSw); go_simp; try with_reducible rfl)
      try simp only [Act.put, List.setIfInBounds_toArray, List.set_cons_zero, List.set_cons_succ]
      refine wpAnyZ_take (i := 39) (v := undef) rfl (by kernel_rfl) (fun _ _ _ h => h) (Or.inr ⟨?_, rfl⟩) (⟨ct, cx0, cx1, cx2, cr0, cr1, cr2, cr3⟩) ?_
      · rfl
      try simp only [Act.put, List.setIfInBounds_toArray, List.set_cons_zero, List.set_cons_succ]
      refine wpAnyZ_take (i := 40) (v := undef) rfl (by kernel_rfl) (fun _ _ _ h => h) (Or.inr ⟨?_, rfl⟩) (⟨ct, cx0, cx1, cx2, cr0, cr1, cr2, cr3⟩) ?_
      · rfl
      try simp only [Act.put, List.setIfInBounds_toArray, List.set_cons_zero, List.set_cons_succ]
      refine wpAnyZ_take (i := 41) (v := undef) rfl (by kernel_rfl) (fun _ _ _ h => h) (Or.inr ⟨?_, rfl⟩) (⟨ct, cx0, cx1, cx2, cr0, cr1, cr2, cr3⟩) ?_
      · rfl
      try simp only [Act.put, List.setIfInBounds_toArray, List.set_cons_zero, List.set_cons_succ]
      refine wpAnyZ_take (i := 42) (v := undef) rfl (by kernel_rfl) (fun _ _ _ h => h) (Or.inr ⟨?_, rfl⟩) (⟨ct, cx0, cx1, cx2, cr0, cr1, cr2, cr3⟩) ?_
      · rfl
      try simp only [Act.put, List.setIfInBounds_toArray, List.set_cons_zero, List.set_cons_succ]
      refine wpAnyZ_take (i := 43) (v := undef) rfl (by kernel_rfl) (fun _ _ _ h => h) (Or.inr ⟨?_, rfl⟩) (⟨ct, cx0, cx1, cx2, cr0, cr1, cr2, cr3⟩) ?_
      · rfl
      try simp only [Act.put, List.setIfInBounds_toArray, List.set_cons_zero, List.set_cons_succ]
      refine wpAnyZ_take (i := 44) (v := undef) rfl (by kernel_rfl) (fun _ _ _ h => h) (Or.inr ⟨?_, rfl⟩) (⟨ct, cx0, cx1, cx2, cr0, cr1, cr2, cr3⟩) ?_
      · rfl
      try simp only [Act.put, List.setIfInBounds_toArray, List.set_cons_zero, List.set_cons_succ]
      refine wpAnyZ_take (i := 45) (v := undef) rfl (by kernel_rfl) (fun _ _ _ h => h) (Or.inr ⟨?_, rfl⟩) (⟨ct, cx0, cx1, cx2, cr0, cr1, cr2, cr3⟩) ?_
      · rfl
      try simp only [Act.put, List.setIfInBounds_toArray, List.set_cons_zero, List.set_cons_succ]
      refine wpAnyZ_take (i := 46) (v := undef) rfl (by kernel_rfl) (fun _ _ _ h => h) (Or.inr ⟨?_, rfl⟩) (⟨ct, cx0, cx1, cx2, cr0, cr1, cr2, cr3⟩) ?_
      · rfl
      try simp only [Act.put, List.setIfInBounds_toArray, List.set_cons_zero, List.set_cons_succ]
      refine wpAnyZ_take (i := 47) (v := undef) rfl (by kernel_rfl) (fun _ _ _ h => h) (Or.inr ⟨?_, rfl⟩) (⟨ct, cx0, cx1, cx2, cr0, cr1, cr2, cr3⟩) ?_
      · rfl
      try simp only [Act.put, List.setIfInBounds_toArray, List.set_cons_zero, List.set_cons_succ]
      refine wpAnyZ_take (i := 48) (v := undef) rfl (by kernel_rfl) (fun _ _ _ h => h) (Or.inr ⟨?_, rfl⟩) (⟨ct, cx0, cx1, cx2, cr0, cr1, cr2, cr3⟩) ?_
      · rfl
      try simp only [Act.put, List.setIfInBounds_toArray, List.set_cons_zero, List.set_cons_succ]
      refine wpAnyZ_take (i := 49) (v := undef) rfl (by kernel_rfl) (fun _ _ _ h => h) (Or.inr ⟨?_, rfl⟩) (⟨ct, cx0, cx1, cx2, cr0, cr1, cr2, cr3⟩) ?_
      · rfl
      try simp only [Act.put, List.setIfInBounds_toArray, List.set_cons_zero, List.set_cons_succ]
      refine wpAnyZ_take (i := 50) (v := undef) rfl (by kernel_rfl) (fun _ _ _ h => h) (Or.inr ⟨?_, rfl⟩) (⟨ct, cx0, cx1, cx2, cr0, cr1, cr2, cr3⟩) ?_
      · rfl
      try simp only [Act.put, List.setIfInBounds_toArray, List.set_cons_zero, List.set_cons_succ]
      refine wpAnyZ_take (i := 51) (v := undef) rfl (by kernel_rfl) (fun _ _ _ h => h) (Or.inr ⟨?_, rfl⟩) (⟨ct, cx0, cx1, cx2, cr0, cr1, cr2, cr3⟩) ?_
      · rfl
      try simp only [Act.put, List.setIfInBounds_toArray, List.set_cons_zero, List.set_cons_succ]
      refine wpAnyZ_take (i := 52) (v := ?_) rfl (by kernel_rfl) (fun _ _ _ h => h) (Or.inl ⟨by rfl, ?_⟩) (⟨ct, cx0, cx1, cx2, cr0, cr1, cr2, cr3⟩) ?_
      rotate_left 1
      · (intro w hSw; (try dsimp only at hSw); go_simp; try with_reducible rfl)
      try simp only [Act.put, List.setIfInBounds_toArray, List.set_cons_zero, List.set_cons_succ]
      refine wpAnyZ_done (by kernel_rfl) ?_ _
      refine NoPanic.normal ?_
      go_wp2_with fail
      replace ct := (show u4.drew.cell? _ = _ from ct)
      replace zt := (show _ < u4.drew.heap.size from zt)
      replace cx0 := (show u4.drew.cell? _ = _ from cx0)
      replace zx0 := (show _ < u4.drew.heap.size from zx0)
      replace cx1 := (show u4.drew.cell? _ = _ from cx1)
      replace zx1 := (show _ < u4.drew.heap.size from zx1)
      replace cx2 := (show u4.drew.cell? _ = _ from cx2)
      replace zx2 := (show _ < u4.drew.heap.size from zx2)
      replace cr0 := (show u4.drew.cell? _ = _ from cr0)
      replace zr0 := (show _ < u4.drew.heap.size from zr0)
      replace cr1 := (show u4.drew.cell? _ = _ from cr1)
      replace zr1 := (show _ < u4.drew.heap.size from zr1)
      replace cr2 := (show u4.drew.cell? _ = _ from cr2)
      replace zr2 := (show _ < u4.drew.heap.size from zr2)
      replace cr3 := (show u4.drew.cell? _ = _ from cr3)
      replace zr3 := (show _ < u4.drew.heap.size from zr3)
      replace S := S.le (Le.refl _).drew
      replace L0 := L0.drew
      replace S2 := S2.le (Le.refl _).drew
      replace S3 := S3.le (Le.refl _).drew
      replace S4 := S4.le (Le.refl _).drew
      refine wp_region_noPanic ?_
      refine wp_region_Z (fun w' => w'.cell? ⟨w1.heap.size, 0, none⟩ = some (.slice B m c) ∧ w'.cell? ⟨w1.heap.size + 1, 0, none⟩ = some (.bool true) ∧ w'.cell? ⟨w1.heap.size + 1, 1, none⟩ = some (.int .i64 cl) ∧ w'.cell? ⟨w1.heap.size + 1, 2, none⟩ = some (.int .i64 k) ∧ w'.cell? ⟨w3.heap.size, 0, none⟩ = some (.slice A0 (ceL xs L true cl k).length q0) ∧ w'.cell? ⟨w3.heap.size, 1, none⟩ = some (.int .i64 (ceE xs L true cl k)) ∧ w'.cell? ⟨w3.heap.size, 2, none⟩ = some (.int .i64 (ceV xs L true cl k)) ∧ w'.cell? ⟨w3.heap.size, 3, none⟩ = some (.slice A1 (ceH xs L true cl k).length q1)) [] (by kernel_rfl) ?_
      generalize u4.drew = Y at *
      refine wpAnyZ_take (i := 0) (v := ?_) rfl (by kernel_rfl) (fun _ _ _ h => h) (Or.inl ⟨by rfl, ?_⟩) (⟨ct, cx0, cx1, cx2, cr0, cr1, cr2, cr3⟩) ?_
      rotate_left 1
      · (intro w hSw; (try dsimp only at hSw); go_simp; try with_reducible rfl)
      try simp only [Act.put, List.setIfInBounds_toArray, List.set_cons_zero, List.set_cons_succ]
      refine wpAnyZ_take (i := 1) (v := ?_) rfl (by kernel_rfl) (fun _ _ _ h => h) (Or.inl ⟨by rfl, ?_⟩) (⟨ct, cx0, cx1, cx2, cr0, cr1, cr2, cr3⟩) ?_
      rotate_left 1
      · (intro w hSw; (try dsimp only at hSw); go_simp; try with_reducible rfl)
      try simp only [Act.put, List.setIfInBounds_toArray, List.set_cons_zero, List.set_cons_succ]
      refine wpAnyZ_take (i := 2) (v := ?_) rfl (by kernel_rfl) (fun _ _ _ h => h) (Or.inl ⟨by rfl, ?_⟩) (⟨ct, cx0, cx1, cx2, cr0, cr1, cr2, cr3⟩) ?_
      rotate_left 1
      · (intro w hSw; (try dsimp only at hSw); go_simp; try with_reducible rfl)
      try simp only [Act.put, List.setIfInBounds_toArray, List.set_cons_zero, List.set_cons_succ]
      refine wpAnyZ_take (i := 3) (v := ?_) rfl (by kernel_rfl) (fun _ _ _ h => h) (Or.inl ⟨by rfl, ?_⟩) (⟨ct, cx0, cx1, cx2, cr0, cr1, cr2, cr3⟩) ?_
      rotate_left 1
      · (intro w hSw; (try dsimp only at hSw); go_simp; try with_reducible rfl)
      try simp only [Act.put, List.setIfInBounds_toArray, List.set_cons_zero, List.set_cons_succ]
      refine wpAnyZ_one (i := 4) (by kernel_rfl) (ReadyZ.mk rfl (fun K hK => ?_))
      go_simp
      go_at_call 12
      refine (Calls.ce (sCloseExits_any B D m c _ d xs L true cl k hcl hkk _ S S2)).mono ?_
      rintro e y1 ⟨A2, q2, A3, q3, rfl, S5, S6, hle⟩
      replace ct := (hle.cell zt).trans ct
      replace cx0 := (hle.cell zx0).trans cx0
      replace cx1 := (hle.cell zx1).trans cx1
      replace cx2 := (hle.cell zx2).trans cx2
      replace cr0 := (hle.cell zr0).trans cr0
      replace cr1 := (hle.cell zr1).trans cr1
      replace cr2 := (hle.cell zr2).trans cr2
      replace cr3 := (hle.cell zr3).trans cr3
      replace zt := Nat.lt_of_lt_of_le zt hle.size
      replace zx0 := Nat.lt_of_lt_of_le zx0 hle.size
      replace zx1 := Nat.lt_of_lt_of_le zx1 hle.size
      replace zx2 := Nat.lt_of_lt_of_le zx2 hle.size
      replace zr0 := Nat.lt_of_lt_of_le zr0 hle.size
      replace zr1 := Nat.lt_of_lt_of_le zr1 hle.size
      replace zr2 := Nat.lt_of_lt_of_le zr2 hle.size
      replace zr3 := Nat.lt_of_lt_of_le zr3 hle.size
      replace S := S.le hle
      replace L0 := L0.trans hle
      replace S2 := S2.le hle
      replace S3 := S3.le hle
      replace S4 := S4.le hle
      clear hle
      refine hK.out _ _ (fun _ => ⟨ct, cx0, cx1, cx2, cr0, cr1, cr2, cr3⟩) ?_
      clear hK K
      try simp only [Act.put, List.setIfInBounds_toArray, List.set_cons_zero, List.set_cons_succ]
      refine wpAnyZ_one (i := 5) (by kernel_rfl) (ReadyZ.mk rfl (fun K hK => ?_))
      go_simp
      go_at_call 11
      refine (equalResult_self _ _ _ _ _ _ _ _ _ _ (ceL xs L true cl k) (ceH xs L true cl k) _ _ _ S3 S5 S4 S6).mono ?_
      rintro e y2 ⟨rfl, hle⟩
      replace ct := (hle.cell zt).trans ct
      replace cx0 := (hle.cell zx0).trans cx0
      replace cx1 := (hle.cell zx1).trans cx1
      replace cx2 := (hle.cell zx2).trans cx2
      replace cr0 := (hle.cell zr0).trans cr0
      replace cr1 := (hle.cell zr1).trans cr1
      replace cr2 := (hle.cell zr2).trans cr2
      replace cr3 := (hle.cell zr3).trans cr3
      replace zt := Nat.lt_of_lt_of_le zt hle.size
      replace zx0 := Nat.lt_of_lt_of_le zx0 hle.size
      replace zx1 := Nat.lt_of_lt_of_le zx1 hle.size
      replace zx2 := Nat.lt_of_lt_of_le zx2 hle.size
      replace zr0 := Nat.lt_of_lt_of_le zr0 hle.size
      replace zr1 := Nat.lt_of_lt_of_le zr1 hle.size
      replace zr2 := Nat.lt_of_lt_of_le zr2 hle.size
      replace zr3 := Nat.lt_of_lt_of_le zr3 hle.size
      replace S := S.le hle
      replace L0 := L0.trans hle
      replace S2 := S2.le hle
      replace S3 := S3.le hle
      replace S4 := S4.le hle
      clear hle S5 S6
      refine hK.out _ _ (fun _ => ⟨ct, cx0, cx1, cx2, cr0, cr1, cr2, cr3⟩) ?_
      clear hK K
      try simp only [Act.put, List.setIfInBounds_toArray, List.set_cons_zero, List.set_cons_succ]
      refine wpAnyZ_take (i := 6) (v := ?_) rfl (by kernel_rfl) (fun _ _ _ h => h) (Or.inl ⟨by rfl, ?_⟩) (⟨ct, cx0, cx1, cx2, cr0, cr1, cr2, cr3⟩) ?_
      rotate_left 1
      · (intro w hSw; (try dsimp only at hSw); go_simp; try with_reducible rfl)
      try simp only [Act.put, List.setIfInBounds_toArray, List.set_cons_zero, List.set_cons_succ]
      refine wpAnyZ_done (by kernel_rfl) ?_ _
      refine NoPanic.normal ?_
      go_wp2
      go_ret
      exact ⟨rfl, L0⟩
    have h1b : decide (k < 0) = false := decide_eq_false h1
    by_cases h2 : 99 < k
    · have h2b : decide (99 < k) = true := decide_eq_true h2
      replace ct := (show W3.drew.cell? _ = _ from ct)
      replace zt := (show _ < W3.drew.heap.size from zt)
      replace cx0 := (show W3.drew.cell? _ = _ from cx0)
      replace zx0 := (show _ < W3.drew.heap.size from zx0)
      replace cx1 := (show W3.drew.cell? _ = _ from cx1)
      replace zx1 := (show _ < W3.drew.heap.size from zx1)
      replace cx2 := (show W3.drew.cell? _ = _ from cx2)
      replace zx2 := (show _ < W3.drew.heap.size from zx2)
      replace cr0 := (show W3.drew.cell? _ = _ from cr0)
      replace zr0 := (show _ < W3.drew.heap.size from zr0)
      replace cr1 := (show W3.drew.cell? _ = _ from cr1)
      replace zr1 := (show _ < W3.drew.heap.size from zr1)
      replace cr2 := (show W3.drew.cell? _ = _ from cr2)
      replace zr2 := (show _ < W3.drew.heap.size from zr2)
      replace cr3 := (show W3.drew.cell? _ = _ from cr3)
      replace zr3 := (show _ < W3.drew.heap.size from zr3)
      replace S := S.le (Le.refl _).drew
      replace L0 := L0.drew
      replace S2 := S2.le (Le.refl _).drew
      replace S3 := S3.le (Le.refl _).drew
      replace S4 := S4.le (Le.refl _).drew
      refine wp_region_noPanic ?_
      refine wp_region_Z (fun w' => w'.cell? ⟨w1.heap.size, 0, none⟩ = some (.slice B m c) ∧ w'.cell? ⟨w1.heap.size + 1, 0, none⟩ = some (.bool true) ∧ w'.cell? ⟨w1.heap.size + 1, 1, none⟩ = some (.int .i64 cl) ∧ w'.cell? ⟨w1.heap.size + 1, 2, none⟩ = some (.int .i64 k) ∧ w'.cell? ⟨w3.heap.size, 0, none⟩ = some (.slice A0 (ceL xs L true cl k).length q0) ∧ w'.cell? ⟨w3.heap.size, 1, none⟩ = some (.int .i64 (ceE xs L true cl k)) ∧ w'.cell? ⟨w3.heap.size, 2, none⟩ = some (.int .i64 (ceV xs L true cl k)) ∧ w'.cell? ⟨w3.heap.size, 3, none⟩ = some (.slice A1 (ceH xs L true cl k).length q1)) [] (by kernel_rfl) ?_
      generalize W3.drew = U at *
      refine wpAnyZ_take (i := 0) (v := ?_) rfl (by kernel_rfl) (fun _ _ _ h => h) (Or.inl ⟨by rfl, ?_⟩) (⟨ct, cx0, cx1, cx2, cr0, cr1, cr2, cr3⟩) ?_
      rotate_left 1
      · (intro w hSw; (try dsimp only at hSw); go_simp; try with_reducible rfl)
      try simp only [Act.put, List.setIfInBounds_toArray, List.set_cons_zero, List.set_cons_succ]
      refine wpAnyZ_take (i := 1) (v := ?_) rfl (by kernel_rfl) (fun _ _ _ h => h) (Or.inl ⟨by rfl, ?_⟩) (⟨ct, cx0, cx1, cx2, cr0, cr1, cr2, cr3⟩) ?_
      rotate_left 1
      · (intro w hSw; (try dsimp only at hSw); go_simp; try with_reducible rfl)
      try simp only [Act.put, List.setIfInBounds_toArray, List.set_cons_zero, List.set_cons_succ]
      refine wpAnyZ_take (i := 2) (v := ?_) rfl (by kernel_rfl) (fun _ _ _ h => h) (Or.inl ⟨by rfl, ?_⟩) (⟨ct, cx0, cx1, cx2, cr0, cr1, cr2, cr3⟩) ?_
      rotate_left 1
      · (intro w hSw; (try dsimp only at hSw); go_simp; try with_reducible rfl)
      try simp only [Act.put, List.setIfInBounds_toArray, List.set_cons_zero, List.set_cons_succ]
      refine wpAnyZ_take (i := 3) (v := ?_) rfl (by kernel_rfl) (fun _ _ _ h => h) (Or.inl ⟨by rfl, ?_⟩) (⟨ct, cx0, cx1, cx2, cr0, cr1, cr2, cr3⟩) ?_
      rotate_left 1
      · (intro w hSw; (try dsimp only at hSw); go_simp; try with_reducible rfl)
      try simp only [Act.put, List.setIfInBounds_toArray, List.set_cons_zero, List.set_cons_succ]
      refine wpAnyZ_one (i := 4) (by kernel_rfl) (ReadyZ.mk rfl (fun K hK => ?_))
      go_simp
      go_at_call 12
      refine (Calls.ce (sCloseExits_any B D m c _ d xs L true cl k hcl hkk _ S S2)).mono ?_
      rintro e u1 ⟨A2, q2, A3, q3, rfl, S5, S6, hle⟩
      replace ct := (hle.cell zt).trans ct
      replace cx0 := (hle.cell zx0).trans cx0
      replace cx1 := (hle.cell zx1).trans cx1
      replace cx2 := (hle.cell zx2).trans cx2
      replace cr0 := (hle.cell zr0).trans cr0
      replace cr1 := (hle.cell zr1).trans cr1
      replace cr2 := (hle.cell zr2).trans cr2
      replace cr3 := (hle.cell zr3).trans cr3
      replace zt := Nat.lt_of_lt_of_le zt hle.size
      replace zx0 := Nat.lt_of_lt_of_le zx0 hle.size
      replace zx1 := Nat.lt_of_lt_of_le zx1 hle.size
      replace zx2 := Nat.lt_of_lt_of_le zx2 hle.size
      replace zr0 := Nat.lt_of_lt_of_le zr0 hle.size
      replace zr1 := Nat.lt_of_lt_of_le zr1 hle.size
      replace zr2 := Nat.lt_of_lt_of_le zr2 hle.size
      replace zr3 := Nat.lt_of_lt_of_le zr3 hle.size
      replace S := S.le hle
      replace L0 := L0.trans hle
      replace S2 := S2.le hle
      replace S3 := S3.le hle
      replace S4 := S4.le hle
      clear hle
      refine hK.out _ _ (fun _ => ⟨ct, cx0, cx1, cx2, cr0, cr1, cr2, cr3⟩) ?_
      clear hK K
      try simp only [Act.put, List.setIfInBounds_toArray, List.set_cons_zero, List.set_cons_succ]
      refine wpAnyZ_one (i := 5) (by kernel_rfl) (ReadyZ.mk rfl (fun K hK => ?_))
      go_simp
      go_at_call 11
      refine (equalResult_self _ _ _ _ _ _ _ _ _ _ (ceL xs L true cl k) (ceH xs L true cl k) _ _ _ S3 S5 S4 S6).mono ?_
      rintro e u2 ⟨rfl, hle⟩
      replace ct := (hle.cell zt).trans ct
      replace cx0 := (hle.cell zx0).trans cx0
      replace cx1 := (hle.cell zx1).trans cx1
      replace cx2 := (hle.cell zx2).trans cx2
      replace cr0 := (hle.cell zr0).trans cr0
      replace cr1 := (hle.cell zr1).trans cr1
      replace cr2 := (hle.cell zr2).trans cr2
      replace cr3 := (hle.cell zr3).trans cr3
      replace zt := Nat.lt_of_lt_of_le zt hle.size
      replace zx0 := Nat.lt_of_lt_of_le zx0 hle.size
      replace zx1 := Nat.lt_of_lt_of_le zx1 hle.size
      replace zx2 := Nat.lt_of_lt_of_le zx2 hle.size
      replace zr0 := Nat.lt_of_lt_of_le zr0 hle.size
      replace zr1 := Nat.lt_of_lt_of_le zr1 hle.size
      replace zr2 := Nat.lt_of_lt_of_le zr2 hle.size
      replace zr3 := Nat.lt_of_lt_of_le zr3 hle.size
      replace S := S.le hle
      replace L0 := L0.trans hle
      replace S2 := S2.le hle
      replace S3 := S3.le hle
      replace S4 := S4.le hle
      clear hle S5 S6
      refine hK.out _ _ (fun _ => ⟨ct, cx0, cx1, cx2, cr0, cr1, cr2, cr3⟩) ?_
      clear hK K
      try simp only [Act.put, List.setIfInBounds_toArray, List.set_cons_zero, List.set_cons_succ]
      refine wpAnyZ_take (i := 6) (v := ?_) rfl (by kernel_rfl) (fun _ _ _ h => h) (Or.inl ⟨by rfl, ?_⟩) (⟨ct, cx0, cx1, cx2, cr0, cr1, cr2, cr3⟩) ?_
      rotate_left 1
      · (intro w hSw; (try dsimp only at hSw); go_simp; try with_reducible rfl)
      try simp only [Act.put, List.setIfInBounds_toArray, List.set_cons_zero, List.set_cons_succ]
      refine wpAnyZ_take (i := 7) (v := ?_) rfl (by kernel_rfl) (fun _ _ _ h => h) (Or.inl ⟨by rfl, ?_⟩) (⟨ct, cx0, cx1, cx2, cr0, cr1, cr2, cr3⟩) ?_
      rotate_left 1
      · (intro w hSw; (try dsimp only at hSw); go_simp; try with_reducible rfl)
      try simp only [Act.put, List.setIfInBounds_toArray, List.set_cons_zero, List.set_cons_succ]
      refine wpAnyZ_take (i := 8) (v := ?_) rfl (by kernel_rfl) (fun _ _ _ h => h) (Or.inl ⟨by rfl, ?_⟩) (⟨ct, cx0, cx1, cx2, cr0, cr1, cr2, cr3⟩) ?_
      rotate_left 1
      · (intro w hSw; (try dsimp only at hSw); go_simp; try with_reducible rfl)
      try simp only [Act.put, List.setIfInBounds_toArray, List.set_cons_zero, List.set_cons_succ]
      refine wpAnyZ_take (i := 9) (v := ?_) rfl (by kernel_rfl) (fun _ _ _ h => h) (Or.inl ⟨by rfl, ?_⟩) (⟨ct, cx0, cx1, cx2, cr0, cr1, cr2, cr3⟩) ?_
      rotate_left 1
      · (intro w hSw; (try dsimp only at hSw); go_simp; try with_reducible rfl)
      try simp only [Act.put, List.setIfInBounds_toArray, List.set_cons_zero, List.set_cons_succ]
      refine wpAnyZ_one (i := 10) (by kernel_rfl) (ReadyZ.mk rfl (fun K hK => ?_))
      go_simp
      go_at_call 13
      refine (Calls.val (iValidExits_any B D m c _ d xs L _ S S2) (by rw [hv])).mono ?_
      rintro e u3 ⟨rfl, hle⟩
      replace ct := (hle.cell zt).trans ct
      replace cx0 := (hle.cell zx0).trans cx0
      replace cx1 := (hle.cell zx1).trans cx1
      replace cx2 := (hle.cell zx2).trans cx2
      replace cr0 := (hle.cell zr0).trans cr0
      replace cr1 := (hle.cell zr1).trans cr1
      replace cr2 := (hle.cell zr2).trans cr2
      replace cr3 := (hle.cell zr3).trans cr3
      replace zt := Nat.lt_of_lt_of_le zt hle.size
      replace zx0 := Nat.lt_of_lt_of_le zx0 hle.size
      replace zx1 := Nat.lt_of_lt_of_le zx1 hle.size
      replace zx2 := Nat.lt_of_lt_of_le zx2 hle.size
      replace zr0 := Nat.lt_of_lt_of_le zr0 hle.size
      replace zr1 := Nat.lt_of_lt_of_le zr1 hle.size
      replace zr2 := Nat.lt_of_lt_of_le zr2 hle.size
      replace zr3 := Nat.lt_of_lt_of_le zr3 hle.size
      replace S := S.le hle
      replace L0 := L0.trans hle
      replace S2 := S2.le hle
      replace S3 := S3.le hle
      replace S4 := S4.le hle
      clear hle
      refine hK.out _ _ (fun _ => ⟨ct, cx0, cx1, cx2, cr0, cr1, cr2, cr3⟩) ?_
      clear hK K
      try simp only [Act.put, List.setIfInBounds_toArray, List.set_cons_zero, List.set_cons_succ]
      refine wpAnyZ_take (i := 11) (v := ?_) rfl (by kernel_rfl) (fun _ _ _ h => h) (Or.inl ⟨by rfl, ?_⟩) (⟨ct, cx0, cx1, cx2, cr0, cr1, cr2, cr3⟩) ?_
      rotate_left 1
      · (intro w hSw; (try dsimp only at hSw); go_simp; try with_reducible rfl)
      try simp only [Act.put, List.setIfInBounds_toArray, List.set_cons_zero, List.set_cons_succ]
      refine wpAnyZ_take (i := 12) (v := ?_) rfl (by kernel_rfl) (fun _ _ _ h => h) (Or.inl ⟨by rfl, ?_⟩) (⟨ct, cx0, cx1, cx2, cr0, cr1, cr2, cr3⟩) ?_
      rotate_left 1
      · (intro w hSw; (try dsimp only at hSw); go_simp; try with_reducible rfl)
      try simp only [Act.put, List.setIfInBounds_toArray, List.set_cons_zero, List.set_cons_succ]
      refine wpAnyZ_take (i := 13) (v := ?_) rfl (by kernel_rfl) (fun _ _ _ h => h) (Or.inl ⟨by rfl, ?_⟩) (⟨ct, cx0, cx1, cx2, cr0, cr1, cr2, cr3⟩) ?_
      rotate_left 1
      · (intro w hSw; (try dsimp only at hSw); go_simp; try with_reducible rfl)
      try simp only [Act.put, List.setIfInBounds_toArray, List.set_cons_zero, List.set_cons_succ]
      refine wpAnyZ_take (i := 14) (v := ?_) rfl (by kernel_rfl) (fun _ _ _ h => h) (Or.inl ⟨by rfl, ?_⟩) (⟨ct, cx0, cx1, cx2, cr0, cr1, cr2, cr3⟩) ?_
      rotate_left 1
      · (intro w hSw; (try dsimp only at hSw); go_simp; try with_reducible rfl)
      try simp only [Act.put, List.setIfInBounds_toArray, List.set_cons_zero, List.set_cons_succ]
      refine wpAnyZ_take (i := 15) (v := ?_) rfl (by kernel_rfl) (fun _ _ _ h => h) (Or.inl ⟨by rfl, ?_⟩) (⟨ct, cx0, cx1, cx2, cr0, cr1, cr2, cr3⟩) ?_
      rotate_left 1
      · (intro w hSw; (try dsimp only at hSw); go_simp; try with_reducible rfl)
      try simp only [Act.put, List.setIfInBounds_toArray, List.set_cons_zero, List.set_cons_succ]
      refine wpAnyZ_take (i := 16) (v := ?_) rfl (by kernel_rfl) (fun _ _ _ h => h) (Or.inl ⟨by rfl, ?_⟩) (⟨ct, cx0, cx1, cx2, cr0, cr1, cr2, cr3⟩) ?_
      rotate_left 1
      · (intro w hSw; (try dsimp only at hSw); go_simp; try with_reducible rfl)
      try simp only [Act.put, List.setIfInBounds_toArray, List.set_cons_zero, List.set_cons_succ]
      refine wpAnyZ_take (i := 17) (v := ?_) rfl (by kernel_rfl) (fun _ _ _ h => h) (Or.inl ⟨by rfl, ?_⟩) (⟨ct, cx0, cx1, cx2, cr0, cr1, cr2, cr3⟩) ?_
      rotate_left 1
      · (intro w hSw; (try dsimp only at hSw); go_simp; try with_reducible rfl)
      try simp only [Act.put, List.setIfInBounds_toArray, List.set_cons_zero, List.set_cons_succ]
      refine wpAnyZ_take (i := 18) (v := ?_) rfl (by kernel_rfl) (fun _ _ _ h => h) (Or.inl ⟨by rfl, ?_⟩) (⟨ct, cx0, cx1, cx2, cr0, cr1, cr2, cr3⟩) ?_
      rotate_left 1
      · (intro w hSw; (try dsimp only at hSw); go_simp; try with_reducible rfl)
      try simp only [Act.put, List.setIfInBounds_toArray, List.set_cons_zero, List.set_cons_succ]
      refine wpAnyZ_take (i := 19) (v := ?_) rfl (by kernel_rfl) (fun _ _ _ h => h) (Or.inl ⟨by rfl, ?_⟩) (⟨ct, cx0, cx1, cx2, cr0, cr1, cr2, cr3⟩) ?_
      rotate_left 1
      · (intro w hSw; (try dsimp only at hSw); go_simp; try with_reducible rfl)
      try simp only [Act.put, List.setIfInBounds_toArray, List.set_cons_zero, List.set_cons_succ]
      refine wpAnyZ_one (i := 20) (by kernel_rfl) (ReadyZ.mk rfl (fun K hK => ?_))
      go_simp
      go_at_call 14
      refine (Calls.val (has_any B m c xs cl _ S) (by rw [hh])).mono ?_
      rintro e u4 ⟨rfl, hle⟩
      replace ct := (hle.cell zt).trans ct
      replace cx0 := (hle.cell zx0).trans cx0
      replace cx1 := (hle.cell zx1).trans cx1
      replace cx2 := (hle.cell zx2).trans cx2
      replace cr0 := (hle.cell zr0).trans cr0
      replace cr1 := (hle.cell zr1).trans cr1
      replace cr2 := (hle.cell zr2).trans cr2
      replace cr3 := (hle.cell zr3).trans cr3
      replace zt := Nat.lt_of_lt_of_le zt hle.size
      replace zx0 := Nat.lt_of_lt_of_le zx0 hle.size
      replace zx1 := Nat.lt_of_lt_of_le zx1 hle.size
      replace zx2 := Nat.lt_of_lt_of_le zx2 hle.size
      replace zr0 := Nat.lt_of_lt_of_le zr0 hle.size
      replace zr1 := Nat.lt_of_lt_of_le zr1 hle.size
      replace zr2 := Nat.lt_of_lt_of_le zr2 hle.size
      replace zr3 := Nat.lt_of_lt_of_le zr3 hle.size
      replace S := S.le hle
      replace L0 := L0.trans hle
      replace S2 := S2.le hle
      replace S3 := S3.le hle
      replace S4 := S4.le hle
      clear hle
      refine hK.out _ _ (fun _ => ⟨ct, cx0, cx1, cx2, cr0, cr1, cr2, cr3⟩) ?_
      clear hK K
      try simp only [Act.put, List.setIfInBounds_toArray, List.set_cons_zero, List.set_cons_succ]
      refine wpAnyZ_take (i := 21) (v := ?_) rfl (by kernel_rfl) (fun _ _ _ h => h) (Or.inl ⟨by rfl, ?_⟩) (⟨ct, cx0, cx1, cx2, cr0, cr1, cr2, cr3⟩) ?_
      rotate_left 1
      · (intro w hSw; (try dsimp only at hSw); go_simp; try with_reducible rfl)
      try simp only [Act.put, List.setIfInBounds_toArray, List.set_cons_zero, List.set_cons_succ]
      refine wpAnyZ_take (i := 22) (v := ?_) rfl (by kernel_rfl) (fun _ _ _ h => h) (Or.inl ⟨by rfl, ?_⟩) (⟨ct, cx0, cx1, cx2, cr0, cr1, cr2, cr3⟩) ?_
      rotate_left 1
      · (intro w hSw; (try dsimp only at hSw); go_simp; try with_reducible rfl)
      try simp only [Act.put, List.setIfInBounds_toArray, List.set_cons_zero, List.set_cons_succ]
      refine wpAnyZ_take (i := 23) (v := ?_) rfl (by kernel_rfl) (fun _ _ _ h => h) (Or.inl ⟨by rfl, ?_⟩) (⟨ct, cx0, cx1, cx2, cr0, cr1, cr2, cr3⟩) ?_
      rotate_left 1
      · (intro w hSw; (try dsimp only at hSw); go_simp; try with_reducible rfl)
      try simp only [Act.put, List.setIfInBounds_toArray, List.set_cons_zero, List.set_cons_succ]
      refine wpAnyZ_take (i := 24) (v := ?_) rfl (by kernel_rfl) (fun _ _ _ h => h) (Or.inl ⟨by rfl, ?_⟩) (⟨ct, cx0, cx1, cx2, cr0, cr1, cr2, cr3⟩) ?_
      rotate_left 1
      · (intro w hSw; (try dsimp only at hSw); go_simp; try with_reducible rfl)
      try simp only [Act.put, List.setIfInBounds_toArray, List.set_cons_zero, List.set_cons_succ]
      refine wpAnyZ_take (i := 25) (v := ?_) rfl (by kernel_rfl) (fun _ _ _ h => h) (Or.inl ⟨by rfl, ?_⟩) (⟨ct, cx0, cx1, cx2, cr0, cr1, cr2, cr3⟩) ?_
      rotate_left 1
      · (intro w hSw; (try dsimp only at hSw); go_simp; try with_reducible rfl)
      try simp only [Act.put, List.setIfInBounds_toArray, List.set_cons_zero, List.set_cons_succ]
      refine wpAnyZ_take (i := 26) (v := ?_) rfl (by kernel_rfl) (fun _ _ _ h => h) (Or.inl ⟨by rfl, ?_⟩) (⟨ct, cx0, cx1, cx2, cr0, cr1, cr2, cr3⟩) ?_
      rotate_left 1
      · (intro w hSw; (try dsimp only at hSw); go_simp; try with_reducible rfl)
      try simp only [Act.put, List.setIfInBounds_toArray, List.set_cons_zero, List.set_cons_succ]
      refine wpAnyZ_take (i := 27) (v := ?_) rfl (by kernel_rfl) (fun _ _ _ h => h) (Or.inl ⟨by rfl, ?_⟩) (⟨ct, cx0, cx1, cx2, cr0, cr1, cr2, cr3⟩) ?_
      rotate_left 1
      · (intro w hSw; (try dsimp only at hSw); go_simp; try with_reducible rfl)
      try simp only [Act.put, List.setIfInBounds_toArray, List.set_cons_zero, List.set_cons_succ]
      refine wpAnyZ_take (i := 28) (v := ?_) rfl (by kernel_rfl) (fun _ _ _ h => h) (Or.inl ⟨by rfl, ?_⟩) (⟨ct, cx0, cx1, cx2, cr0, cr1, cr2, cr3⟩) ?_
      rotate_left 1
      · (intro w hSw; (try dsimp only at hSw); go_simp; try with_reducible rfl)
      try simp only [Act.put, List.setIfInBounds_toArray, List.set_cons_zero, List.set_cons_succ]
      refine wpAnyZ_take (i := 29) (v := ?_) rfl (by kernel_rfl) (fun _ _ _ h => h) (Or.inl ⟨by rfl, ?_⟩) (⟨ct, cx0, cx1, cx2, cr0, cr1, cr2, cr3⟩) ?_
      rotate_left 1
      · (intro w hSw; (try dsimp only at hSw); go_simp; try with_reducible rfl)
      try simp only [Act.put, List.setIfInBounds_toArray, List.set_cons_zero, List.set_cons_succ]
      refine wpAnyZ_take (i := 30) (v := ?_) rfl (by kernel_rfl) (fun _ _ _ h => h) (Or.inl ⟨by rfl, ?_⟩) (⟨ct, cx0, cx1, cx2, cr0, cr1, cr2, cr3⟩) ?_
      rotate_left 1
      · (intro w hSw; (try dsimp only at hSw); go_simp; try with_reducible rfl)
      try simp only [Act.put, List.setIfInBounds_toArray, List.set_cons_zero, List.set_cons_succ]
      refine wpAnyZ_take (i := 31) (v := ?_) rfl (by kernel_rfl) (fun _ _ _ h => h) (Or.inl ⟨by rfl, ?_⟩) (⟨ct, cx0, cx1, cx2, cr0, cr1, cr2, cr3⟩) ?_
      rotate_left 1
      · (intro w hSw; (try dsimp only at hSw); go_simp; try with_reducible rfl)
      try simp only [Act.put, List.setIfInBounds_toArray, List.set_cons_zero, List.set_cons_succ]
      refine wpAnyZ_take (i := 32) (v := ?_) rfl (by kernel_rfl) (fun _ _ _ h => h) (Or.inl ⟨by rfl, ?_⟩) (⟨ct, cx0, cx1, cx2, cr0, cr1, cr2, cr3⟩) ?_
      rotate_left 1
      · (intro w hSw; (try dsimp only at hSw); go_simp; try with_reducible rfl)
      try simp only [Act.put, List.setIfInBounds_toArray, List.set_cons_zero, List.set_cons_succ]
      refine wpAnyZ_take (i := 33) (v := ?_) rfl (by kernel_rfl) (fun _ _ _ h => h) (Or.inl ⟨by rfl, ?_⟩) (⟨ct, cx0, cx1, cx2, cr0, cr1, cr2, cr3⟩) ?_
      rotate_left 1
      · (intro w hSw; (try dsimp only at hSw); go_simp; try with_reducible rfl)
      try simp only [Act.put, List.setIfInBounds_toArray, List.set_cons_zero, List.set_cons_succ]
      refine wpAnyZ_take (i := 34) (v := ?_) rfl (by kernel_rfl) (fun _ _ _ h => h) (Or.inl ⟨by rfl, ?_⟩) (⟨ct, cx0, cx1, cx2, cr0, cr1, cr2, cr3⟩) ?_
      rotate_left 1
      · (intro w hSw; (try dsimp only at hSw); go_simp; try with_reducible rfl)
      try simp only [Act.put, List.setIfInBounds_toArray, List.set_cons_zero, List.set_cons_succ]
      refine wpAnyZ_take (i := 35) (v := ?_) rfl (by kernel_rfl) (fun _ _ _ h => h) (Or.inl ⟨by rfl, ?_⟩) (⟨ct, cx0, cx1, cx2, cr0, cr1, cr2, cr3⟩) ?_
      rotate_left 1
      · (intro w hSw; (try dsimp only at hSw); go_simp; try with_reducible rfl)
      try simp only [Act.put, List.setIfInBounds_toArray, List.set_cons_zero, List.set_cons_succ]
      refine wpAnyZ_take (i := 36) (v := ?_) rfl (by kernel_rfl) (fun _ _ _ h => h) (Or.inl ⟨by rfl, ?_⟩) (⟨ct, cx0, cx1, cx2, cr0, cr1, cr2, cr3⟩) ?_
      rotate_left 1
      · (intro w hSw; (try dsimp only at hSw); go_simp; try with_reducible rfl)
      try simp only [Act.put, List.setIfInBounds_toArray, List.set_cons_zero, List.set_cons_succ]
      refine wpAnyZ_take (i := 37) (v := ?_) rfl (by kernel_rfl) (fun _ _ _ h => h) (Or.inl ⟨by rfl, ?_⟩) (⟨ct, cx0, cx1, cx2, cr0, cr1, cr2, cr3⟩) ?_
      rotate_left 1
      · (intro w hSw; (try dsimp only at hSw); go_simp; try with_reducible rfl)
      try simp only [Act.put, List.setIfInBounds_toArray, List.set_cons_zero, List.set_cons_succ]
      refine wpAnyZ_take (i := 38) (v := ?_) rfl (by kernel_rfl) (fun _ _ _ h => h) (Or.inl ⟨by rfl, ?_⟩) (⟨ct, cx0, cx1, cx2, cr0, cr1, cr2, cr3⟩) ?_
      rotate_left 1
      · (intro w hSw; (try dsimp only at hSw); go_simp; try with_reducible rfl)
      try simp only [Act.put, List.setIfInBounds_toArray, List.set_cons_zero, List.set_cons_succ]
      refine wpAnyZ_take (i := 39) (v := undef) rfl (by kernel_rfl) (fun _ _ _ h => h) (Or.inr ⟨?_, rfl⟩) (⟨ct, cx0, cx1, cx2, cr0, cr1, cr2, cr3⟩) ?_
      · rfl
      try simp only [Act.put, List.setIfInBounds_toArray, List.set_cons_zero, List.set_cons_succ]
      refine wpAnyZ_take (i := 40) (v := undef) rfl (by kernel_rfl) (fun _ _ _ h => h) (Or.inr ⟨?_, rfl⟩) (⟨ct, cx0, cx1, cx2, cr0, cr1, cr2, cr3⟩) ?_
      · rfl
      try simp only [Act.put, List.setIfInBounds_toArray, List.set_cons_zero, List.set_cons_succ]
      refine wpAnyZ_take (i := 41) (v := undef) rfl (by kernel_rfl) (fun _ _ _ h => h) (Or.inr ⟨?_, rfl⟩) (⟨ct, cx0, cx1, cx2, cr0, cr1, cr2, cr3⟩) ?_
      · rfl
      try simp only [Act.put, List.setIfInBounds_toArray, List.set_cons_zero, List.set_cons_succ]
      refine wpAnyZ_take (i := 42) (v := undef) rfl (by kernel_rfl) (fun _ _ _ h => h) (Or.inr ⟨?_, rfl⟩) (⟨ct, cx0, cx1, cx2, cr0, cr1, cr2, cr3⟩) ?_
      · rfl
      try simp only [Act.put, List.setIfInBounds_toArray, List.set_cons_zero, List.set_cons_succ]
      refine wpAnyZ_take (i := 43) (v := undef) rfl (by kernel_rfl) (fun _ _ _ h => h) (Or.inr ⟨?_, rfl⟩) (⟨ct, cx0, cx1, cx2, cr0, cr1, cr2, cr3⟩) ?_
      · rfl
      try simp only [Act.put, List.setIfInBounds_toArray, List.set_cons_zero, List.set_cons_succ]
      refine wpAnyZ_take (i := 44) (v := undef) rfl (by kernel_rfl) (fun _ _ _ h => h) (Or.inr ⟨?_, rfl⟩) (⟨ct, cx0, cx1, cx2, cr0, cr1, cr2, cr3⟩) ?_
      · rfl
      try simp only [Act.put, List.setIfInBounds_toArray, List.set_cons_zero, List.set_cons_succ]
      refine wpAnyZ_take (i := 45) (v := undef) rfl (by kernel_rfl) (fun _ _ _ h => h) (Or.inr ⟨?_, rfl⟩) (⟨ct, cx0, cx1, cx2, cr0, cr1, cr2, cr3⟩) ?_
      · rfl
      try simp only [Act.put, List.setIfInBounds_toArray, List.set_cons_zero, List.set_cons_succ]
      refine wpAnyZ_take (i := 46) (v := undef) rfl (by kernel_rfl) (fun _ _ _ h => h) (Or.inr ⟨?_, rfl⟩) (⟨ct, cx0, cx1, cx2, cr0, cr1, cr2, cr3⟩) ?_
      · rfl
      try simp only [Act.put, List.setIfInBounds_toArray, List.set_cons_zero, List.set_cons_succ]
      refine wpAnyZ_take (i := 47) (v := undef) rfl (by kernel_rfl) (fun _ _ _ h => h) (Or.inr ⟨?_, rfl⟩) (⟨ct, cx0, cx1, cx2, cr0, cr1, cr2, cr3⟩) ?_
      · rfl
      try simp only [Act.put, List.setIfInBounds_toArray, List.set_cons_zero, List.set_cons_succ]
      refine wpAnyZ_take (i := 48) (v := undef) rfl (by kernel_rfl) (fun _ _ _ h => h) (Or.inr ⟨?_, rfl⟩) (⟨ct, cx0, cx1, cx2, cr0, cr1, cr2, cr3⟩) ?_
      · rfl
      try simp only [Act.put, List.setIfInBounds_toArray, List.set_cons_zero, List.set_cons_succ]
      refine wpAnyZ_take (i := 49) (v := undef) rfl (by kernel_rfl) (fun _ _ _ h => h) (Or.inr ⟨?_, rfl⟩) (⟨ct, cx0, cx1, cx2, cr0, cr1, cr2, cr3⟩) ?_
      · rfl
      try simp only [Act.put, List.setIfInBounds_toArray, List.set_cons_zero, List.set_cons_succ]
      refine wpAnyZ_take (i := 50) (v := undef) rfl (by kernel_rfl) (fun _ _ _ h => h) (Or.inr ⟨?_, rfl⟩) (⟨ct, cx0, cx1, cx2, cr0, cr1, cr2, cr3⟩) ?_
      · rfl
      try simp only [Act.put, List.setIfInBounds_toArray, List.set_cons_zero, List.set_cons_succ]
      refine wpAnyZ_take (i := 51) (v := undef) rfl (by kernel_rfl) (fun _ _ _ h => h) (Or.inr ⟨?_, rfl⟩) (⟨ct, cx0, cx1, cx2, cr0, cr1, cr2, cr3⟩) ?_
      · rfl
      try simp only [Act.put, List.setIfInBounds_toArray, List.set_cons_zero, List.set_cons_succ]
      refine wpAnyZ_take (i := 52) (v := ?_) rfl (by kernel_rfl) (fun _ _ _ h => h) (Or.inl ⟨by rfl, ?_⟩) (⟨ct, cx0, cx1, cx2, cr0, cr1, cr2, cr3⟩) ?_
      rotate_left 1
      · (intro w hSw; (try dsimp only at hSw); go_simp; try with_reducible rfl)
      try simp only [Act.put, List.setIfInBounds_toArray, List.set_cons_zero, List.set_cons_succ]
      refine wpAnyZ_done (by kernel_rfl) ?_ _
      refine NoPanic.normal ?_
      go_wp2_with fail
      replace ct := (show u4.drew.cell? _ = _ from ct)
      replace zt := (show _ < u4.drew.heap.size from zt)
      replace cx0 := (show u4.drew.cell? _ = _ from cx0)
      replace zx0 := (show _ < u4.drew.heap.size from zx0)
      replace cx1 := (show u4.drew.cell? _ = _ from cx1)
      replace zx1 := (show _ < u4.drew.heap.size from zx1)
      replace cx2 := (show u4.drew.cell? _ = _ from cx2)
      replace zx2 := (show _ < u4.drew.heap.size from zx2)
      replace cr0 := (show u4.drew.cell? _ = _ from cr0)
      replace zr0 := (show _ < u4.drew.heap.size from zr0)
      replace cr1 := (show u4.drew.cell? _ = _ from cr1)
      replace zr1 := (show _ < u4.drew.heap.size from zr1)
      replace cr2 := (show u4.drew.cell? _ = _ from cr2)
      replace zr2 := (show _ < u4.drew.heap.size from zr2)
      replace cr3 := (show u4.drew.cell? _ = _ from cr3)
      replace zr3 := (show _ < u4.drew.heap.size from zr3)
      replace S := S.le (Le.refl _).drew
      replace L0 := L0.drew
      replace S2 := S2.le (Le.refl _).drew
      replace S3 := S3.le (Le.refl _).drew
      replace S4 := S4.le (Le.refl _).drew
      refine wp_region_noPanic ?_
      refine wp_region_Z (fun w' => w'.cell? ⟨w1.heap.size, 0, none⟩ = some (.slice B m c) ∧ w'.cell? ⟨w1.heap.size + 1, 0, none⟩ = some (.bool true) ∧ w'.cell? ⟨w1.heap.size + 1, 1, none⟩ = some (.int .i64 cl) ∧ w'.cell? ⟨w1.heap.size + 1, 2, none⟩ = some (.int .i64 k) ∧ w'.cell? ⟨w3.heap.size, 0, none⟩ = some (.slice A0 (ceL xs L true cl k).length q0) ∧ w'.cell? ⟨w3.heap.size, 1, none⟩ = some (.int .i64 (ceE xs L true cl k)) ∧ w'.cell? ⟨w3.heap.size, 2, none⟩ = some (.int .i64 (ceV xs L true cl k)) ∧ w'.cell? ⟨w3.heap.size, 3, none⟩ = some (.slice A1 (ceH xs L true cl k).length q1)) [] (by kernel_rfl) ?_
      generalize u4.drew = Y at *
      refine wpAnyZ_take (i := 0) (v := ?_) rfl (by kernel_rfl) (fun _ _ _ h => h) (Or.inl ⟨by rfl, ?_⟩) (⟨ct, cx0, cx1, cx2, cr0, cr1, cr2, cr3⟩) ?_
      rotate_left 1
      · (intro w hSw; (try dsimp only at hSw); go_simp; try with_reducible rfl)
      try simp only [Act.put, List.setIfInBounds_toArray, List.set_cons_zero, List.set_cons_succ]
      refine wpAnyZ_take (i := 1) (v := ?_) rfl (by kernel_rfl) (fun _ _ _ h => h) (Or.inl ⟨by rfl, ?_⟩) (⟨ct, cx0, cx1, cx2, cr0, cr1, cr2, cr3⟩) ?_
      rotate_left 1
      · (intro w hSw; (try dsimp only at hSw); go_simp; try with_reducible rfl)
      try simp only [Act.put, List.setIfInBounds_toArray, List.set_cons_zero, List.set_cons_succ]
      refine wpAnyZ_take (i := 2) (v := ?_) rfl (by kernel_rfl) (fun _ _ _ h => h) (Or.inl ⟨by rfl, ?_⟩) (⟨ct, cx0, cx1, cx2, cr0, cr1, cr2, cr3⟩) ?_
      rotate_left 1
      · (intro w hSw; (try dsimp only at hSw); go_simp; try with_reducible rfl)
      try simp only [Act.put, List.setIfInBounds_toArray, List.set_cons_zero, List.set_cons_succ]
      refine wpAnyZ_take (i := 3) (v := ?_) rfl (by kernel_rfl) (fun _ _ _ h => h) (Or.inl ⟨by rfl, ?_⟩) (⟨ct, cx0, cx1, cx2, cr0, cr1, cr2, cr3⟩) ?_
      rotate_left 1
      · (intro w hSw; (try dsimp only at hSw); go_simp; try with_reducible rfl)
      try simp only [Act.put, List.setIfInBounds_toArray, List.set_cons_zero, List.set_cons_succ]
      refine wpAnyZ_one (i := 4) (by kernel_rfl) (ReadyZ.mk rfl (fun K hK => ?_))
      go_simp
      go_at_call 12
      refine (Calls.ce (sCloseExits_any B D m c _ d xs L true cl k hcl hkk _ S S2)).mono ?_
      rintro e y1 ⟨A2, q2, A3, q3, rfl, S5, S6, hle⟩
      replace ct := (hle.cell zt).trans ct
      replace cx0 := (hle.cell zx0).trans cx0
      replace cx1 := (hle.cell zx1).trans cx1
      replace cx2 := (hle.cell zx2).trans cx2
      replace cr0 := (hle.cell zr0).trans cr0
      replace cr1 := (hle.cell zr1).trans cr1
      replace cr2 := (hle.cell zr2).trans cr2
      replace cr3 := (hle.cell zr3).trans cr3
      replace zt := Nat.lt_of_lt_of_le zt hle.size
      replace zx0 := Nat.lt_of_lt_of_le zx0 hle.size
      replace zx1 := Nat.lt_of_lt_of_le zx1 hle.size
      replace zx2 := Nat.lt_of_lt_of_le zx2 hle.size
      replace zr0 := Nat.lt_of_lt_of_le zr0 hle.size
      replace zr1 := Nat.lt_of_lt_of_le zr1 hle.size
      replace zr2 := Nat.lt_of_lt_of_le zr2 hle.size
      replace zr3 := Nat.lt_of_lt_of_le zr3 hle.size
      replace S := S.le hle
      replace L0 := L0.trans hle
      replace S2 := S2.le hle
      replace S3 := S3.le hle
      replace S4 := S4.le hle
      clear hle
      refine hK.out _ _ (fun _ => ⟨ct, cx0, cx1, cx2, cr0, cr1, cr2, cr3⟩) ?_
      clear hK K
      try simp only [Act.put, List.setIfInBounds_toArray, List.set_cons_zero, List.set_cons_succ]
      refine wpAnyZ_one (i := 5) (by kernel_rfl) (ReadyZ.mk rfl (fun K hK => ?_))
      go_simp
      go_at_call 11
      refine (equalResult_self _ _ _ _ _ _ _ _ _ _ (ceL xs L true cl k) (ceH xs L true cl k) _ _ _ S3 S5 S4 S6).mono ?_
      rintro e y2 ⟨rfl, hle⟩
      replace ct := (hle.cell zt).trans ct
      replace cx0 := (hle.cell zx0).trans cx0
      replace cx1 := (hle.cell zx1).trans cx1
      replace cx2 := (hle.cell zx2).trans cx2
      replace cr0 := (hle.cell zr0).trans cr0
      replace cr1 := (hle.cell zr1).trans cr1
      replace cr2 := (hle.cell zr2).trans cr2
      replace cr3 := (hle.cell zr3).trans cr3
      replace zt := Nat.lt_of_lt_of_le zt hle.size
      replace zx0 := Nat.lt_of_lt_of_le zx0 hle.size
      replace zx1 := Nat.lt_of_lt_of_le zx1 hle.size
      replace zx2 := Nat.lt_of_lt_of_le zx2 hle.size
      replace zr0 := Nat.lt_of_lt_of_le zr0 hle.size
      replace zr1 := Nat.lt_of_lt_of_le zr1 hle.size
      replace zr2 := Nat.lt_of_lt_of_le zr2 hle.size
      replace zr3 := Nat.lt_of_lt_of_le zr3 hle.size
      replace S := S.le hle
      replace L0 := L0.trans hle
      replace S2 := S2.le hle
      replace S3 := S3.le hle
      replace S4 := S4.le hle
      clear hle S5 S6
      refine hK.out _ _ (fun _ => ⟨ct, cx0, cx1, cx2, cr0, cr1, cr2, cr3⟩) ?_
      clear hK K
      try simp only [Act.put, List.setIfInBounds_toArray, List.set_cons_zero, List.set_cons_succ]
      refine wpAnyZ_take (i := 6) (v := ?_) rfl (by kernel_rfl) (fun _ _ _ h => h) (Or.inl ⟨by rfl, ?_⟩) (⟨ct, cx0, cx1, cx2, cr0, cr1, cr2, cr3⟩) ?_
      rotate_left 1
      · (intro w hSw; (try dsimp only at hSw); go_simp; try with_reducible rfl)
      try simp only [Act.put, List.setIfInBounds_toArray, List.set_cons_zero, List.set_cons_succ]
      refine wpAnyZ_done (by kernel_rfl) ?_ _
      refine NoPanic.normal ?_
      go_wp2
      go_ret
      exact ⟨rfl, L0⟩
    have h2b : decide (99 < k) = false := decide_eq_false h2
    have HCS : csv xs true cl k = true := by unfold csv; rw [if_pos rfl, hh, rng_iff.2 ⟨by omega, by omega⟩]; rfl
    replace ct := (show W3.drew.cell? _ = _ from ct)
    replace zt := (show _ < W3.drew.heap.size from zt)
    replace cx0 := (show W3.drew.cell? _ = _ from cx0)
    replace zx0 := (show _ < W3.drew.heap.size from zx0)
    replace cx1 := (show W3.drew.cell? _ = _ from cx1)
    replace zx1 := (show _ < W3.drew.heap.size from zx1)
    replace cx2 := (show W3.drew.cell? _ = _ from cx2)
    replace zx2 := (show _ < W3.drew.heap.size from zx2)
    replace cr0 := (show W3.drew.cell? _ = _ from cr0)
    replace zr0 := (show _ < W3.drew.heap.size from zr0)
    replace cr1 := (show W3.drew.cell? _ = _ from cr1)
    replace zr1 := (show _ < W3.drew.heap.size from zr1)
    replace cr2 := (show W3.drew.cell? _ = _ from cr2)
    replace zr2 := (show _ < W3.drew.heap.size from zr2)
    replace cr3 := (show W3.drew.cell? _ = _ from cr3)
    replace zr3 := (show _ < W3.drew.heap.size from zr3)
    replace S := S.le (Le.refl _).drew
    replace L0 := L0.drew
    replace S2 := S2.le (Le.refl _).drew
    replace S3 := S3.le (Le.refl _).drew
    replace S4 := S4.le (Le.refl _).drew
    refine wp_region_noPanic ?_
    refine wp_region_Z (fun w' => w'.cell? ⟨w1.heap.size, 0, none⟩ = some (.slice B m c) ∧ w'.cell? ⟨w1.heap.size + 1, 0, none⟩ = some (.bool true) ∧ w'.cell? ⟨w1.heap.size + 1, 1, none⟩ = some (.int .i64 cl) ∧ w'.cell? ⟨w1.heap.size + 1, 2, none⟩ = some (.int .i64 k) ∧ w'.cell? ⟨w3.heap.size, 0, none⟩ = some (.slice A0 (ceL xs L true cl k).length q0) ∧ w'.cell? ⟨w3.heap.size, 1, none⟩ = some (.int .i64 (ceE xs L true cl k)) ∧ w'.cell? ⟨w3.heap.size, 2, none⟩ = some (.int .i64 (ceV xs L true cl k)) ∧ w'.cell? ⟨w3.heap.size, 3, none⟩ = some (.slice A1 (ceH xs L true cl k).length q1)) [] (by kernel_rfl) ?_
    generalize W3.drew = U at *
    refine wpAnyZ_take (i := 0) (v := ?_) rfl (by kernel_rfl) (fun _ _ _ h => h) (Or.inl ⟨by rfl, ?_⟩) (⟨ct, cx0, cx1, cx2, cr0, cr1, cr2, cr3⟩) ?_
    rotate_left 1
    · (intro w hSw; (try dsimp only at hSw); go_simp; try with_reducible rfl)
    try simp only [Act.put, List.setIfInBounds_toArray, List.set_cons_zero, List.set_cons_succ]
    refine wpAnyZ_take (i := 1) (v := ?_) rfl (by kernel_rfl) (fun _ _ _ h => h) (Or.inl ⟨by rfl, ?_⟩) (⟨ct, cx0, cx1, cx2, cr0, cr1, cr2, cr3⟩) ?_
    rotate_left 1
    · (intro w hSw; (try dsimp only at hSw); go_simp; try with_reducible rfl)
    try simp only [Act.put, List.setIfInBounds_toArray, List.set_cons_zero, List.set_cons_succ]
    refine wpAnyZ_take (i := 2) (v := ?_) rfl (by kernel_rfl) (fun _ _ _ h => h) (Or.inl ⟨by rfl, ?_⟩) (⟨ct, cx0, cx1, cx2, cr0, cr1, cr2, cr3⟩) ?_
    rotate_left 1
    · (intro w hSw; (try dsimp only at hSw); go_simp; try with_reducible rfl)
    try simp only [Act.put, List.setIfInBounds_toArray, List.set_cons_zero, List.set_cons_succ]
    refine wpAnyZ_take (i := 3) (v := ?_) rfl (by kernel_rfl) (fun _ _ _ h => h) (Or.inl ⟨by rfl, ?_⟩) (⟨ct, cx0, cx1, cx2, cr0, cr1, cr2, cr3⟩) ?_
    rotate_left 1
    · (intro w hSw; (try dsimp only at hSw); go_simp; try with_reducible rfl)
    try simp only [Act.put, List.setIfInBounds_toArray, List.set_cons_zero, List.set_cons_succ]
    refine wpAnyZ_one (i := 4) (by kernel_rfl) (ReadyZ.mk rfl (fun K hK => ?_))
    go_simp
    go_at_call 12
    refine (Calls.ce (sCloseExits_any B D m c _ d xs L true cl k hcl hkk _ S S2)).mono ?_
    rintro e u1 ⟨A2, q2, A3, q3, rfl, S5, S6, hle⟩
    replace ct := (hle.cell zt).trans ct
    replace cx0 := (hle.cell zx0).trans cx0
    replace cx1 := (hle.cell zx1).trans cx1
    replace cx2 := (hle.cell zx2).trans cx2
    replace cr0 := (hle.cell zr0).trans cr0
    replace cr1 := (hle.cell zr1).trans cr1
    replace cr2 := (hle.cell zr2).trans cr2
    replace cr3 := (hle.cell zr3).trans cr3
    replace zt := Nat.lt_of_lt_of_le zt hle.size
    replace zx0 := Nat.lt_of_lt_of_le zx0 hle.size
    replace zx1 := Nat.lt_of_lt_of_le zx1 hle.size
    replace zx2 := Nat.lt_of_lt_of_le zx2 hle.size
    replace zr0 := Nat.lt_of_lt_of_le zr0 hle.size
    replace zr1 := Nat.lt_of_lt_of_le zr1 hle.size
    replace zr2 := Nat.lt_of_lt_of_le zr2 hle.size
    replace zr3 := Nat.lt_of_lt_of_le zr3 hle.size
    replace S := S.le hle
    replace L0 := L0.trans hle
    replace S2 := S2.le hle
    replace S3 := S3.le hle
    replace S4 := S4.le hle
    clear hle
    refine hK.out _ _ (fun _ => ⟨ct, cx0, cx1, cx2, cr0, cr1, cr2, cr3⟩) ?_
    clear hK K
    try simp only [Act.put, List.setIfInBounds_toArray, List.set_cons_zero, List.set_cons_succ]
    refine wpAnyZ_one (i := 5) (by kernel_rfl) (ReadyZ.mk rfl (fun K hK => ?_))
    go_simp
    go_at_call 11
    refine (equalResult_self _ _ _ _ _ _ _ _ _ _ (ceL xs L true cl k) (ceH xs L true cl k) _ _ _ S3 S5 S4 S6).mono ?_
    rintro e u2 ⟨rfl, hle⟩
    replace ct := (hle.cell zt).trans ct
    replace cx0 := (hle.cell zx0).trans cx0
    replace cx1 := (hle.cell zx1).trans cx1
    replace cx2 := (hle.cell zx2).trans cx2
    replace cr0 := (hle.cell zr0).trans cr0
    replace cr1 := (hle.cell zr1).trans cr1
    replace cr2 := (hle.cell zr2).trans cr2
    replace cr3 := (hle.cell zr3).trans cr3
    replace zt := Nat.lt_of_lt_of_le zt hle.size
    replace zx0 := Nat.lt_of_lt_of_le zx0 hle.size
    replace zx1 := Nat.lt_of_lt_of_le zx1 hle.size
    replace zx2 := Nat.lt_of_lt_of_le zx2 hle.size
    replace zr0 := Nat.lt_of_lt_of_le zr0 hle.size
    replace zr1 := Nat.lt_of_lt_of_le zr1 hle.size
    replace zr2 := Nat.lt_of_lt_of_le zr2 hle.size
    replace zr3 := Nat.lt_of_lt_of_le zr3 hle.size
    replace S := S.le hle
    replace L0 := L0.trans hle
    replace S2 := S2.le hle
    replace S3 := S3.le hle
    replace S4 := S4.le hle
    clear hle S5 S6
    refine hK.out _ _ (fun _ => ⟨ct, cx0, cx1, cx2, cr0, cr1, cr2, cr3⟩) ?_
    clear hK K
    try simp only [Act.put, List.setIfInBounds_toArray, List.set_cons_zero, List.set_cons_succ]
    refine wpAnyZ_take (i := 6) (v := ?_) rfl (by kernel_rfl) (fun _ _ _ h => h) (Or.inl ⟨by rfl, ?_⟩) (⟨ct, cx0, cx1, cx2, cr0, cr1, cr2, cr3⟩) ?_
    rotate_left 1
    · (intro w hSw; (try dsimp only at hSw); go_simp; try with_reducible rfl)
    try simp only [Act.put, List.setIfInBounds_toArray, List.set_cons_zero, List.set_cons_succ]
    refine wpAnyZ_take (i := 7) (v := ?_) rfl (by kernel_rfl) (fun _ _ _ h => h) (Or.inl ⟨by rfl, ?_⟩) (⟨ct, cx0, cx1, cx2, cr0, cr1, cr2, cr3⟩) ?_
    rotate_left 1
    · (intro w hSw; (try dsimp only at hSw); go_simp; try with_reducible rfl)
    try simp only [Act.put, List.setIfInBounds_toArray, List.set_cons_zero, List.set_cons_succ]
    refine wpAnyZ_take (i := 8) (v := ?_) rfl (by kernel_rfl) (fun _ _ _ h => h) (Or.inl ⟨by rfl, ?_⟩) (⟨ct, cx0, cx1, cx2, cr0, cr1, cr2, cr3⟩) ?_
    rotate_left 1
    · (intro w hSw; (try dsimp only at hSw); go_simp; try with_reducible rfl)
    try simp only [Act.put, List.setIfInBounds_toArray, List.set_cons_zero, List.set_cons_succ]
    refine wpAnyZ_take (i := 9) (v := ?_) rfl (by kernel_rfl) (fun _ _ _ h => h) (Or.inl ⟨by rfl, ?_⟩) (⟨ct, cx0, cx1, cx2, cr0, cr1, cr2, cr3⟩) ?_
    rotate_left 1
    · (intro w hSw; (try dsimp only at hSw); go_simp; try with_reducible rfl)
    try simp only [Act.put, List.setIfInBounds_toArray, List.set_cons_zero, List.set_cons_succ]
    refine wpAnyZ_one (i := 10) (by kernel_rfl) (ReadyZ.mk rfl (fun K hK => ?_))
    go_simp
    go_at_call 13
    refine (Calls.val (iValidExits_any B D m c _ d xs L _ S S2) (by rw [hv])).mono ?_
    rintro e u3 ⟨rfl, hle⟩
    replace ct := (hle.cell zt).trans ct
    replace cx0 := (hle.cell zx0).trans cx0
    replace cx1 := (hle.cell zx1).trans cx1
    replace cx2 := (hle.cell zx2).trans cx2
    replace cr0 := (hle.cell zr0).trans cr0
    replace cr1 := (hle.cell zr1).trans cr1
    replace cr2 := (hle.cell zr2).trans cr2
    replace cr3 := (hle.cell zr3).trans cr3
    replace zt := Nat.lt_of_lt_of_le zt hle.size
    replace zx0 := Nat.lt_of_lt_of_le zx0 hle.size
    replace zx1 := Nat.lt_of_lt_of_le zx1 hle.size
    replace zx2 := Nat.lt_of_lt_of_le zx2 hle.size
    replace zr0 := Nat.lt_of_lt_of_le zr0 hle.size
    replace zr1 := Nat.lt_of_lt_of_le zr1 hle.size
    replace zr2 := Nat.lt_of_lt_of_le zr2 hle.size
    replace zr3 := Nat.lt_of_lt_of_le zr3 hle.size
    replace S := S.le hle
    replace L0 := L0.trans hle
    replace S2 := S2.le hle
    replace S3 := S3.le hle
    replace S4 := S4.le hle
    clear hle
    refine hK.out _ _ (fun _ => ⟨ct, cx0, cx1, cx2, cr0, cr1, cr2, cr3⟩) ?_
    clear hK K
    try simp only [Act.put, List.setIfInBounds_toArray, List.set_cons_zero, List.set_cons_succ]
    refine wpAnyZ_take (i := 11) (v := ?_) rfl (by kernel_rfl) (fun _ _ _ h => h) (Or.inl ⟨by rfl, ?_⟩) (⟨ct, cx0, cx1, cx2, cr0, cr1, cr2, cr3⟩) ?_
    rotate_left 1
    · (intro w hSw; (try dsimp only at hSw); go_simp; try with_reducible rfl)
    try simp only [Act.put, List.setIfInBounds_toArray, List.set_cons_zero, List.set_cons_succ]
    refine wpAnyZ_take (i := 12) (v := ?_) rfl (by kernel_rfl) (fun _ _ _ h => h) (Or.inl ⟨by rfl, ?_⟩) (⟨ct, cx0, cx1, cx2, cr0, cr1, cr2, cr3⟩) ?_
    rotate_left 1
    · (intro w hSw; (try dsimp only at hSw); go_simp; try with_reducible rfl)
    try simp only [Act.put, List.setIfInBounds_toArray, List.set_cons_zero, List.set_cons_succ]
    refine wpAnyZ_take (i := 13) (v := ?_) rfl (by kernel_rfl) (fun _ _ _ h => h) (Or.inl ⟨by rfl, ?_⟩) (⟨ct, cx0, cx1, cx2, cr0, cr1, cr2, cr3⟩) ?_
    rotate_left 1
    · (intro w hSw; (try dsimp only at hSw); go_simp; try with_reducible rfl)
    try simp only [Act.put, List.setIfInBounds_toArray, List.set_cons_zero, List.set_cons_succ]
    refine wpAnyZ_take (i := 14) (v := ?_) rfl (by kernel_rfl) (fun _ _ _ h => h) (Or.inl ⟨by rfl, ?_⟩) (⟨ct, cx0, cx1, cx2, cr0, cr1, cr2, cr3⟩) ?_
    rotate_left 1
    · (intro w hSw; (try dsimp only at hSw); go_simp; try with_reducible rfl)
    try simp only [Act.put, List.setIfInBounds_toArray, List.set_cons_zero, List.set_cons_succ]
    refine wpAnyZ_take (i := 15) (v := ?_) rfl (by kernel_rfl) (fun _ _ _ h => h) (Or.inl ⟨by rfl, ?_⟩) (⟨ct, cx0, cx1, cx2, cr0, cr1, cr2, cr3⟩) ?_
    rotate_left 1
    · (intro w hSw; (try dsimp only at hSw); go_simp; try with_reducible rfl)
    try simp only [Act.put, List.setIfInBounds_toArray, List.set_cons_zero, List.set_cons_succ]
    refine wpAnyZ_take (i := 16) (v := ?_) rfl (by kernel_rfl) (fun _ _ _ h => h) (Or.inl ⟨by rfl, ?_⟩) (⟨ct, cx0, cx1, cx2, cr0, cr1, cr2, cr3⟩) ?_
    rotate_left 1
    · (intro w hSw; (try dsimp only at hSw); go_simp; try with_reducible rfl)
    try simp only [Act.put, List.setIfInBounds_toArray, List.set_cons_zero, List.set_cons_succ]
    refine wpAnyZ_take (i := 17) (v := ?_) rfl (by kernel_rfl) (fun _ _ _ h => h) (Or.inl ⟨by rfl, ?_⟩) (⟨ct, cx0, cx1, cx2, cr0, cr1, cr2, cr3⟩) ?_
    rotate_left 1
    · (intro w hSw; (try dsimp only at hSw); go_simp; try with_reducible rfl)
    try simp only [Act.put, List.setIfInBounds_toArray, List.set_cons_zero, List.set_cons_succ]
    refine wpAnyZ_take (i := 18) (v := ?_) rfl (by kernel_rfl) (fun _ _ _ h => h) (Or.inl ⟨by rfl, ?_⟩) (⟨ct, cx0, cx1, cx2, cr0, cr1, cr2, cr3⟩) ?_
    rotate_left 1
    · (intro w hSw; (try dsimp only at hSw); go_simp; try with_reducible rfl)
    try simp only [Act.put, List.setIfInBounds_toArray, List.set_cons_zero, List.set_cons_succ]
    refine wpAnyZ_take (i := 19) (v := ?_) rfl (by kernel_rfl) (fun _ _ _ h => h) (Or.inl ⟨by rfl, ?_⟩) (⟨ct, cx0, cx1, cx2, cr0, cr1, cr2, cr3⟩) ?_
    rotate_left 1
    · (intro w hSw; (try dsimp only at hSw); go_simp; try with_reducible rfl)
    try simp only [Act.put, List.setIfInBounds_toArray, List.set_cons_zero, List.set_cons_succ]
    refine wpAnyZ_one (i := 20) (by kernel_rfl) (ReadyZ.mk rfl (fun K hK => ?_))
    go_simp
    go_at_call 14
    refine (Calls.val (has_any B m c xs cl _ S) (by rw [hh])).mono ?_
    rintro e u4 ⟨rfl, hle⟩
    replace ct := (hle.cell zt).trans ct
    replace cx0 := (hle.cell zx0).trans cx0
    replace cx1 := (hle.cell zx1).trans cx1
    replace cx2 := (hle.cell zx2).trans cx2
    replace cr0 := (hle.cell zr0).trans cr0
    replace cr1 := (hle.cell zr1).trans cr1
    replace cr2 := (hle.cell zr2).trans cr2
    replace cr3 := (hle.cell zr3).trans cr3
    replace zt := Nat.lt_of_lt_of_le zt hle.size
    replace zx0 := Nat.lt_of_lt_of_le zx0 hle.size
    replace zx1 := Nat.lt_of_lt_of_le zx1 hle.size
    replace zx2 := Nat.lt_of_lt_of_le zx2 hle.size
    replace zr0 := Nat.lt_of_lt_of_le zr0 hle.size
    replace zr1 := Nat.lt_of_lt_of_le zr1 hle.size
    replace zr2 := Nat.lt_of_lt_of_le zr2 hle.size
    replace zr3 := Nat.lt_of_lt_of_le zr3 hle.size
    replace S := S.le hle
    replace L0 := L0.trans hle
    replace S2 := S2.le hle
    replace S3 := S3.le hle
    replace S4 := S4.le hle
    clear hle
    refine hK.out _ _ (fun _ => ⟨ct, cx0, cx1, cx2, cr0, cr1, cr2, cr3⟩) ?_
    clear hK K
    try simp only [Act.put, List.setIfInBounds_toArray, List.set_cons_zero, List.set_cons_succ]
    refine wpAnyZ_take (i := 21) (v := ?_) rfl (by kernel_rfl) (fun _ _ _ h => h) (Or.inl ⟨by rfl, ?_⟩) (⟨ct, cx0, cx1, cx2, cr0, cr1, cr2, cr3⟩) ?_
    rotate_left 1
    · (intro w hSw; (try dsimp only at hSw); go_simp; try with_reducible rfl)
    try simp only [Act.put, List.setIfInBounds_toArray, List.set_cons_zero, List.set_cons_succ]
    refine wpAnyZ_take (i := 22) (v := ?_) rfl (by kernel_rfl) (fun _ _ _ h => h) (Or.inl ⟨by rfl, ?_⟩) (⟨ct, cx0, cx1, cx2, cr0, cr1, cr2, cr3⟩) ?_
    rotate_left 1
    · (intro w hSw; (try dsimp only at hSw); go_simp; try with_reducible rfl)
    try simp only [Act.put, List.setIfInBounds_toArray, List.set_cons_zero, List.set_cons_succ]
    refine wpAnyZ_take (i := 23) (v := ?_) rfl (by kernel_rfl) (fun _ _ _ h => h) (Or.inl ⟨by rfl, ?_⟩) (⟨ct, cx0, cx1, cx2, cr0, cr1, cr2, cr3⟩) ?_
    rotate_left 1
    · (intro w hSw; (try dsimp only at hSw); go_simp; try with_reducible rfl)
    try simp only [Act.put, List.setIfInBounds_toArray, List.set_cons_zero, List.set_cons_succ]
    refine wpAnyZ_take (i := 24) (v := ?_) rfl (by kernel_rfl) (fun _ _ _ h => h) (Or.inl ⟨by rfl, ?_⟩) (⟨ct, cx0, cx1, cx2, cr0, cr1, cr2, cr3⟩) ?_
    rotate_left 1
    · (intro w hSw; (try dsimp only at hSw); go_simp; try with_reducible rfl)
    try simp only [Act.put, List.setIfInBounds_toArray, List.set_cons_zero, List.set_cons_succ]
    refine wpAnyZ_take (i := 25) (v := ?_) rfl (by kernel_rfl) (fun _ _ _ h => h) (Or.inl ⟨by rfl, ?_⟩) (⟨ct, cx0, cx1, cx2, cr0, cr1, cr2, cr3⟩) ?_
    rotate_left 1
    · (intro w hSw; (try dsimp only at hSw); go_simp; try with_reducible rfl)
    try simp only [Act.put, List.setIfInBounds_toArray, List.set_cons_zero, List.set_cons_succ]
    refine wpAnyZ_take (i := 26) (v := ?_) rfl (by kernel_rfl) (fun _ _ _ h => h) (Or.inl ⟨by rfl, ?_⟩) (⟨ct, cx0, cx1, cx2, cr0, cr1, cr2, cr3⟩) ?_
    rotate_left 1
    · (intro w hSw; (try dsimp only at hSw); go_simp; try with_reducible rfl)
    try simp only [Act.put, List.setIfInBounds_toArray, List.set_cons_zero, List.set_cons_succ]
    refine wpAnyZ_take (i := 27) (v := ?_) rfl (by kernel_rfl) (fun _ _ _ h => h) (Or.inl ⟨by rfl, ?_⟩) (⟨ct, cx0, cx1, cx2, cr0, cr1, cr2, cr3⟩) ?_
    rotate_left 1
    · (intro w hSw; (try dsimp only at hSw); go_simp; try with_reducible rfl)
    try simp only [Act.put, List.setIfInBounds_toArray, List.set_cons_zero, List.set_cons_succ]
    refine wpAnyZ_take (i := 28) (v := ?_) rfl (by kernel_rfl) (fun _ _ _ h => h) (Or.inl ⟨by rfl, ?_⟩) (⟨ct, cx0, cx1, cx2, cr0, cr1, cr2, cr3⟩) ?_
    rotate_left 1
    · (intro w hSw; (try dsimp only at hSw); go_simp; try with_reducible rfl)
    try simp only [Act.put, List.setIfInBounds_toArray, List.set_cons_zero, List.set_cons_succ]
    refine wpAnyZ_take (i := 29) (v := ?_) rfl (by kernel_rfl) (fun _ _ _ h => h) (Or.inl ⟨by rfl, ?_⟩) (⟨ct, cx0, cx1, cx2, cr0, cr1, cr2, cr3⟩) ?_
    rotate_left 1
    · (intro w hSw; (try dsimp only at hSw); go_simp; try with_reducible rfl)
    try simp only [Act.put, List.setIfInBounds_toArray, List.set_cons_zero, List.set_cons_succ]
    refine wpAnyZ_take (i := 30) (v := ?_) rfl (by kernel_rfl) (fun _ _ _ h => h) (Or.inl ⟨by rfl, ?_⟩) (⟨ct, cx0, cx1, cx2, cr0, cr1, cr2, cr3⟩) ?_
    rotate_left 1
    · (intro w hSw; (try dsimp only at hSw); go_simp; try with_reducible rfl)
    try simp only [Act.put, List.setIfInBounds_toArray, List.set_cons_zero, List.set_cons_succ]
    refine wpAnyZ_take (i := 31) (v := ?_) rfl (by kernel_rfl) (fun _ _ _ h => h) (Or.inl ⟨by rfl, ?_⟩) (⟨ct, cx0, cx1, cx2, cr0, cr1, cr2, cr3⟩) ?_
    rotate_left 1
    · (intro w hSw; (try dsimp only at hSw); go_simp; try with_reducible rfl)
    try simp only [Act.put, List.setIfInBounds_toArray, List.set_cons_zero, List.set_cons_succ]
    refine wpAnyZ_take (i := 32) (v := ?_) rfl (by kernel_rfl) (fun _ _ _ h => h) (Or.inl ⟨by rfl, ?_⟩) (⟨ct, cx0, cx1, cx2, cr0, cr1, cr2, cr3⟩) ?_
    rotate_left 1
    · (intro w hSw; (try dsimp only at hSw); go_simp; try with_reducible rfl)
    try simp only [Act.put, List.setIfInBounds_toArray, List.set_cons_zero, List.set_cons_succ]
    refine wpAnyZ_take (i := 33) (v := ?_) rfl (by kernel_rfl) (fun _ _ _ h => h) (Or.inl ⟨by rfl, ?_⟩) (⟨ct, cx0, cx1, cx2, cr0, cr1, cr2, cr3⟩) ?_
    rotate_left 1
    · (intro w hSw; (try dsimp only at hSw); go_simp; try with_reducible rfl)
    try simp only [Act.put, List.setIfInBounds_toArray, List.set_cons_zero, List.set_cons_succ]
    refine wpAnyZ_take (i := 34) (v := ?_) rfl (by kernel_rfl) (fun _ _ _ h => h) (Or.inl ⟨by rfl, ?_⟩) (⟨ct, cx0, cx1, cx2, cr0, cr1, cr2, cr3⟩) ?_
    rotate_left 1
    · (intro w hSw; (try dsimp only at hSw); go_simp; try with_reducible rfl)
    try simp only [Act.put, List.setIfInBounds_toArray, List.set_cons_zero, List.set_cons_succ]
    refine wpAnyZ_take (i := 35) (v := ?_) rfl (by kernel_rfl) (fun _ _ _ h => h) (Or.inl ⟨by rfl, ?_⟩) (⟨ct, cx0, cx1, cx2, cr0, cr1, cr2, cr3⟩) ?_
    rotate_left 1
    · (intro w hSw; (try dsimp only at hSw); go_simp; try with_reducible rfl)
    try simp only [Act.put, List.setIfInBounds_toArray, List.set_cons_zero, List.set_cons_succ]
    refine wpAnyZ_take (i := 36) (v := ?_) rfl (by kernel_rfl) (fun _ _ _ h => h) (Or.inl ⟨by rfl, ?_⟩) (⟨ct, cx0, cx1, cx2, cr0, cr1, cr2, cr3⟩) ?_
    rotate_left 1
    · (intro w hSw; (try dsimp only at hSw); go_simp; try with_reducible rfl)
    try simp only [Act.put, List.setIfInBounds_toArray, List.set_cons_zero, List.set_cons_succ]
    refine wpAnyZ_take (i := 37) (v := ?_) rfl (by kernel_rfl) (fun _ _ _ h => h) (Or.inl ⟨by rfl, ?_⟩) (⟨ct, cx0, cx1, cx2, cr0, cr1, cr2, cr3⟩) ?_
    rotate_left 1
    · (intro w hSw; (try dsimp only at hSw); go_simp; try with_reducible rfl)
    try simp only [Act.put, List.setIfInBounds_toArray, List.set_cons_zero, List.set_cons_succ]
    refine wpAnyZ_take (i := 38) (v := ?_) rfl (by kernel_rfl) (fun _ _ _ h => h) (Or.inl ⟨by rfl, ?_⟩) (⟨ct, cx0, cx1, cx2, cr0, cr1, cr2, cr3⟩) ?_
    rotate_left 1
    · (intro w hSw; (try dsimp only at hSw); go_simp; try with_reducible rfl)
    try simp only [Act.put, List.setIfInBounds_toArray, List.set_cons_zero, List.set_cons_succ]
    refine wpAnyZ_take (i := 39) (v := ?_) rfl (by kernel_rfl) (fun _ _ _ h => h) (Or.inl ⟨by rfl, ?_⟩) (⟨ct, cx0, cx1, cx2, cr0, cr1, cr2, cr3⟩) ?_
    rotate_left 1
    · (intro w hSw; (try dsimp only at hSw); go_simp; try with_reducible rfl)
    try simp only [Act.put, List.setIfInBounds_toArray, List.set_cons_zero, List.set_cons_succ]
    refine wpAnyZ_take (i := 40) (v := ?_) rfl (by kernel_rfl) (fun _ _ _ h => h) (Or.inl ⟨by rfl, ?_⟩) (⟨ct, cx0, cx1, cx2, cr0, cr1, cr2, cr3⟩) ?_
    rotate_left 1
    · (intro w hSw; (try dsimp only at hSw); go_simp; try with_reducible rfl)
    try simp only [Act.put, List.setIfInBounds_toArray, List.set_cons_zero, List.set_cons_succ]
    refine wpAnyZ_take (i := 41) (v := ?_) rfl (by kernel_rfl) (fun _ _ _ h => h) (Or.inl ⟨by rfl, ?_⟩) (⟨ct, cx0, cx1, cx2, cr0, cr1, cr2, cr3⟩) ?_
    rotate_left 1
    · (intro w hSw; (try dsimp only at hSw); go_simp; try with_reducible rfl)
    try simp only [Act.put, List.setIfInBounds_toArray, List.set_cons_zero, List.set_cons_succ]
    refine wpAnyZ_take (i := 42) (v := ?_) rfl (by kernel_rfl) (fun _ _ _ h => h) (Or.inl ⟨by rfl, ?_⟩) (⟨ct, cx0, cx1, cx2, cr0, cr1, cr2, cr3⟩) ?_
    rotate_left 1
    · (intro w hSw; (try dsimp only at hSw); go_simp; try with_reducible rfl)
    try simp only [Act.put, List.setIfInBounds_toArray, List.set_cons_zero, List.set_cons_succ]
    refine wpAnyZ_take (i := 43) (v := undef) rfl (by kernel_rfl) (fun _ _ _ h => h) (Or.inr ⟨?_, rfl⟩) (⟨ct, cx0, cx1, cx2, cr0, cr1, cr2, cr3⟩) ?_
    · rfl
    try simp only [Act.put, List.setIfInBounds_toArray, List.set_cons_zero, List.set_cons_succ]
    refine wpAnyZ_take (i := 44) (v := undef) rfl (by kernel_rfl) (fun _ _ _ h => h) (Or.inr ⟨?_, rfl⟩) (⟨ct, cx0, cx1, cx2, cr0, cr1, cr2, cr3⟩) ?_
    · rfl
    try simp only [Act.put, List.setIfInBounds_toArray, List.set_cons_zero, List.set_cons_succ]
    refine wpAnyZ_take (i := 45) (v := undef) rfl (by kernel_rfl) (fun _ _ _ h => h) (Or.inr ⟨?_, rfl⟩) (⟨ct, cx0, cx1, cx2, cr0, cr1, cr2, cr3⟩) ?_
    · rfl
    try simp only [Act.put, List.setIfInBounds_toArray, List.set_cons_zero, List.set_cons_succ]
    refine wpAnyZ_take (i := 46) (v := undef) rfl (by kernel_rfl) (fun _ _ _ h => h) (Or.inr ⟨?_, rfl⟩) (⟨ct, cx0, cx1, cx2, cr0, cr1, cr2, cr3⟩) ?_
    · rfl
    try simp only [Act.put, List.setIfInBounds_toArray, List.set_cons_zero, List.set_cons_succ]
    refine wpAnyZ_take (i := 47) (v := undef) rfl (by kernel_rfl) (fun _ _ _ h => h) (Or.inr ⟨?_, rfl⟩) (⟨ct, cx0, cx1, cx2, cr0, cr1, cr2, cr3⟩) ?_
    · rfl
    try simp only [Act.put, List.setIfInBounds_toArray, List.set_cons_zero, List.set_cons_succ]
    refine wpAnyZ_take (i := 48) (v := undef) rfl (by kernel_rfl) (fun _ _ _ h => h) (Or.inr ⟨?_, rfl⟩) (⟨ct, cx0, cx1, cx2, cr0, cr1, cr2, cr3⟩) ?_
    · rfl
    try simp only [Act.put, List.setIfInBounds_toArray, List.set_cons_zero, List.set_cons_succ]
    refine wpAnyZ_take (i := 49) (v := undef) rfl (by kernel_rfl) (fun _ _ _ h => h) (Or.inr ⟨?_, rfl⟩) (⟨ct, cx0, cx1, cx2, cr0, cr1, cr2, cr3⟩) ?_
    · rfl
    try simp only [Act.put, List.setIfInBounds_toArray, List.set_cons_zero, List.set_cons_succ]
    refine wpAnyZ_take (i := 50) (v := undef) rfl (by kernel_rfl) (fun _ _ _ h => h) (Or.inr ⟨?_, rfl⟩) (⟨ct, cx0, cx1, cx2, cr0, cr1, cr2, cr3⟩) ?_
    · rfl
    try simp only [Act.put, List.setIfInBounds_toArray, List.set_cons_zero, List.set_cons_succ]
    refine wpAnyZ_take (i := 51) (v := ?_) rfl (by kernel_rfl) (fun _ _ _ h => h) (Or.inl ⟨by rfl, ?_⟩) (⟨ct, cx0, cx1, cx2, cr0, cr1, cr2, cr3⟩) ?_
    rotate_left 1
    · (intro w hSw; (try dsimp only at hSw); go_simp; try with_reducible rfl)
    try simp only [Act.put, List.setIfInBounds_toArray, List.set_cons_zero, List.set_cons_succ]
    refine wpAnyZ_take (i := 52) (v := ?_) rfl (by kernel_rfl) (fun _ _ _ h => h) (Or.inl ⟨by rfl, ?_⟩) (⟨ct, cx0, cx1, cx2, cr0, cr1, cr2, cr3⟩) ?_
    rotate_left 1
    · (intro w hSw; (try dsimp only at hSw); go_simp; try with_reducible rfl)
    try simp only [Act.put, List.setIfInBounds_toArray, List.set_cons_zero, List.set_cons_succ]
    refine wpAnyZ_done (by kernel_rfl) ?_ _
    refine NoPanic.normal ?_
    have hcs : Hid (csv xs true cl k = true) := HCS
    obtain ⟨CL, hCL⟩ : ∃ CL, c0L L = CL := ⟨_, rfl⟩
    obtain ⟨p1, p2, p3⟩ := calls_ce hv hcs.out
    rw [hCL] at p1 p2
    have HP2 := Lib.hid p2
    have HP3 := Lib.hid p3
    have HP1 := Lib.hid p1
    have hok : ∀ x ∈ CL, Enc.ok x := fun x hx => S2.ok x (List.mem_filter.1 (by rw [← hCL] at hx; exact hx)).1
    have HCO := Lib.hid hok
    have HCL := Lib.hid hCL
    have hc8 : CL.length ≤ 8 := by rw [← hCL]; exact Nat.le_trans (List.length_filter_le _ _) hq8
    have HUB := Lib.hid (S2.under)
    obtain ⟨i0, hi, hz0, hz1, hz2⟩ := info_parts info_xitC
    clear p1 p2 p3 hok hCL hb S3 S4 cr1 cr2 cr3 hv
    go_wp2_with fail
    have LE := Le.new u4 (.cells #[] 42)
    have O0 := own_empty (w := u4) (base := u4.heap.size) (g := u4.heap.size) (e := 42) (size := 3) (by omega) rfl
    generalize u4.alloc (.cells #[] 42) = V at *
    go_wp2
    go_loopw [7, 8, 9] (fun v s i wr => ∃ j : Nat, j ≤ L.length ∧ i = .int .i64 j ∧ s = .int .i64 (c1N (L.take j) : Nat) ∧ wr.ownsRow u4.heap.size 42 3 v (c0L (L.take j)).length ((c0L (L.take j)).flatMap Enc.cells) ∧ Le u4 wr) (fun _ _ i _ => L.length - (intOf i).toNat)
    case atStart => exact ⟨0, Nat.zero_le _, rfl, rfl, O0, LE⟩
    case round =>
      clear O0 LE
      obtain ⟨j, hj, rfl, rfl, O, hle⟩ := hrel
      have HLE := Lib.hid hle
      replace ct := (hle.cell zt).trans ct
      replace cx0 := (hle.cell zx0).trans cx0
      replace cx1 := (hle.cell zx1).trans cx1
      replace cx2 := (hle.cell zx2).trans cx2
      replace cr0 := (hle.cell zr0).trans cr0
      replace zt := Nat.lt_of_lt_of_le zt hle.size
      replace zx0 := Nat.lt_of_lt_of_le zx0 hle.size
      replace zx1 := Nat.lt_of_lt_of_le zx1 hle.size
      replace zx2 := Nat.lt_of_lt_of_le zx2 hle.size
      replace zr0 := Nat.lt_of_lt_of_le zr0 hle.size
      replace S := S.le hle
      replace L0 := L0.trans hle
      replace S2 := S2.le hle
      clear hle
      have HN := Lib.hid (c1N_le (L.take j))
      have HCK : Hid (∀ x ∈ c0L (L.take j), Enc.ok x) := fun x hx => S2.ok x (List.mem_of_mem_take (List.mem_filter.1 hx).1)
      have hcl8 : (c0L (L.take j)).length ≤ 8 := Nat.le_trans (List.length_filter_le _ _) (by rw [List.length_take]; omega)
      by_cases hlt : j < L.length
      · obtain ⟨b, off, rfl, hb1, d0, d1, d2, hxo⟩ := S2.xit_at hlt
        have HXO := Lib.hid hxo
        clear hxo
        have HUX : Hid (b < u4.heap.size) := HUB.out (by omega) _ rfl
        have HC := Lib.hid (c1N_take hlt)
        have HT := Lib.hid (c0L_take hlt)
        have hji : (0 : Int) ≤ (j : Int) := by omega
        have hjn : (j : Int) < (L.length : Int) := by omega
        have hcn : c1N (L.take j) ≤ 8 := by have h := HN.out; rw [List.length_take] at h; omega
        have HCN := Lib.hid hcn
        obtain ⟨x, HX⟩ : ∃ x, Hid (L[j] = x) := ⟨_, Lib.hid rfl⟩
        rw [HX.out] at d0 d1 d2 HC HT
        have hxo : Enc.ok x := by rw [← HX.out]; exact HXO.out
        clear HXO HN hcn
        have hcn8 : c1N (L.take j) + 1 ≤ 9 := by have := HCN.out; omega
        by_cases h0 : x.kind = 0
        · have h0b : (x.kind == 0) = true := by simpa using h0
          have HC2 : Hid (c1N (L.take (j + 1)) = c1N (L.take j) + 1) := by show _ = _; rw [HC.out, if_pos (.inl h0)]
          have HT2 : Hid (c0L (L.take (j + 1)) = c0L (L.take j) ++ [x]) := by show _ = _; rw [HT.out, if_pos h0]
          clear HC HT h0
          have hbk := O.lt
          generalize c0L (L.take j) = P at *
          generalize c1N (L.take j) = cn at *
          obtain ⟨A1, c1, rfl⟩ := own_form O
          go_wp2_with (at_builtin; refine wpList_append_sl rfl _ _ 26 rfl u4.heap.size 42 i0 _ 24 Try.underlying26 hi hz0 hz1 hz2 rfl _ _ P rfl (O.alloc _) _ 1 1 [x] rfl (sl_one x rfl hxo rfl) (by unfold maxLen; omega) (by omega) (Nat.le_trans HLE.out.size (Le.new wr _).size) ?_; intro v1 w4 O4 hg4 hbl; have HLA := Lib.hid ((HLE.out.trans (Le.new wr (.cells #[.int .i64 x.kind, .int .i64 x.a, .int .i64 x.b] 42))).grown hg4 (fun kb hkb => by have h := (hbk kb hkb).1; omega)); have e0 := hg4.cell (a := ⟨b, off + j * 3, none⟩) (((Le.new wr _).cell hb1).trans d0) (fun e => by have h : u4.heap.size ≤ b := (hbk _ e.symm).1; have h2 := HUX.out; omega); have HO4 := Lib.hid O4; obtain ⟨A9, c9, rfl⟩ := own_form O4; clear O4 hg4 hbl)
          go_roundw
          case rel => exact ⟨j + 1, by omega, by go_num, by rw [HC2.out]; go_num, by rw [HT2.out, List.length_append]; exact HO4.out, HLA.out⟩
          case measure => (simp [intOf]) <;> omega
        · have h0b : (x.kind == 0) = false := by simpa using h0
          have HT2 : Hid (c0L (L.take (j + 1)) = c0L (L.take j)) := by show _ = _; rw [HT.out, if_neg h0, List.append_nil]
          by_cases h1 : x.kind = 1
          · have h1b : (x.kind == 1) = true := by simpa using h1
            have HC2 : Hid (c1N (L.take (j + 1)) = c1N (L.take j) + 1) := by show _ = _; rw [HC.out, if_pos (.inr h1)]
            clear HC HT h0 h1
            generalize c0L (L.take j) = P at *
            generalize c1N (L.take j) = cn at *
            obtain ⟨A1, c1, rfl⟩ := own_form O
            go_wp2
            go_roundw
            case rel => exact ⟨j + 1, by omega, by go_num, by rw [HC2.out]; go_num, by rw [HT2.out]; exact O, HLE.out⟩
            case measure => (simp [intOf]) <;> omega
          · have h1b : (x.kind == 1) = false := by simpa using h1
            have HC2 : Hid (c1N (L.take (j + 1)) = c1N (L.take j)) := by show _ = _; rw [HC.out, if_neg (by omega)]; rfl
            clear HC HT h0 h1
            generalize c0L (L.take j) = P at *
            generalize c1N (L.take j) = cn at *
            obtain ⟨A1, c1, rfl⟩ := own_form O
            go_wp2
            go_roundw
            case rel => exact ⟨j + 1, by omega, by go_num, by rw [HC2.out], by rw [HT2.out]; exact O, HLE.out⟩
            case measure => (simp [intOf]) <;> omega
      · have e : L.take j = L := List.take_of_length_le (by omega)
        rw [e, HCL.out] at O
        rw [e]
        clear e HCK HN hcl8
        obtain ⟨A1, c1, rfl⟩ := own_form O
        have SC := Sl.of_own O rfl (by decide) HCO.out
        clear O
        have HK2 : Hid (∀ (w0 : World), Sl w0 B m c xs → Sl w0 A1 CL.length c1 CL → Calls Try.prog 10 #[.agg #[.slice B m c], .slice A1 CL.length c1, .agg #[.bool true, .int .i64 cl, .int .i64 k]] w0 fun e w' => ∃ A0 q0 A1 q1, e = .returned (.agg #[.slice A0 CL.length q0, .int .i64 (ceE xs CL true cl k), .int .i64 (ceV xs CL true cl k), .slice A1 (ceH xs CL true cl k).length q1]) ∧ Sl w' A0 CL.length q0 (List.map (fun x => x.a) CL).reverse ∧ Le w0 w') := fun w0 h1 h2 => by
          have h := Calls.ce2 HP1.out (iCloseExits_any B A1 m c _ c1 xs CL true cl k hcl hkk w0 h1 h2)
          rw [List.length_reverse, List.length_map] at h
          exact h
        generalize ceE xs CL true cl k = e1 at *
        generalize ceV xs CL true cl k = e2 at *
        generalize (ceH xs CL true cl k).length = e3 at *
        go_wp2_with fail
        refine (HK2.out wr S SC).mono ?_
        rintro e w5 ⟨A4, q4, A5, q5, rfl, S7, hle⟩
        replace cr0 := (hle.cell zr0).trans cr0
        replace zr0 := Nat.lt_of_lt_of_le zr0 hle.size
        replace L0 := L0.trans hle
        replace SC := SC.le hle
        clear hle
        obtain ⟨cs0, cs1, cs2, cs3, zs0, LB⟩ := boxRr w5 (.slice A4 CL.length q4) (.int .i64 e1) (.int .i64 e2) (.slice A5 e3 q5) 36
        replace S7 := S7.le LB
        replace cr0 := (LB.cell zr0).trans cr0
        replace zr0 := Nat.lt_of_lt_of_le zr0 LB.size
        replace L0 := L0.trans LB
        replace SC := SC.le LB
        clear LB HK2 cs1 cs2 cs3
        go_wp2_with fail
        generalize w5.alloc (.cells #[.slice A4 CL.length q4, .int .i64 e1, .int .i64 e2, .slice A5 e3 q5] 36) = W5 at *
        go_wp2
        go_loopw [11] (fun i wr => ∃ r : Nat, r ≤ CL.length ∧ i = .int .i64 r ∧ Le W5 wr) (fun i _ => CL.length - (intOf i).toNat)
        case atStart => exact ⟨0, Nat.zero_le _, rfl, Le.refl _⟩
        case round =>
          obtain ⟨r, hr, rfl, hle⟩ := hrel
          have HLE := Lib.hid hle
          replace cr0 := (hle.cell zr0).trans cr0
          replace cs0 := (hle.cell zs0).trans cs0
          replace zr0 := Nat.lt_of_lt_of_le zr0 hle.size
          replace zs0 := Nat.lt_of_lt_of_le zs0 hle.size
          replace L0 := L0.trans hle
          replace S7 := S7.le hle
          replace SC := SC.le hle
          clear hle
          by_cases hlt : r < CL.length
          · obtain ⟨q, hq⟩ : ∃ q, q + r + 1 = CL.length := ⟨CL.length - r - 1, by omega⟩
            have hqL : q < CL.length := by omega
            have hx : r < (List.map (fun x => x.a) CL).reverse.length := by simpa using hlt
            obtain ⟨b, off, rfl, hb1, dm, -, -⟩ := S7.int_at hx
            have em : (List.map (fun x => x.a) CL).reverse[r]'(by simpa using hlt) = CL[q].a := by
              rw [List.getElem_reverse, List.getElem_map]
              have e : (List.map (fun x => x.a) CL).length - 1 - r = q := by rw [List.length_map]; omega
              simp only [e]
            obtain ⟨b2, off2, rfl, hb2, -, da, -⟩ := SC.xit_at hqL
            rw [em] at dm
            generalize CL[q].a = va at *
            have E0 := cell_ext zs0 cs0
            have E1 := cell_ext hb1 dm
            have E2 := cell_ext hb2 da
            have hw1 : IntKind.i64.wrap ((CL.length : Int) - 1) = (CL.length : Int) - 1 := IntWalk.i64_in _ (by omega)
            have hw2 : IntKind.i64.wrap ((CL.length : Int) - 1 - (r : Int)) = (q : Int) := by
              have e : (CL.length : Int) - 1 - (r : Int) = (q : Int) := by omega
              rw [e]; exact IntWalk.i64_in _ (by omega)
            have hri : (0 : Int) ≤ (r : Int) := by omega
            have hrn : (r : Int) < (CL.length : Int) := by omega
            have hqi : (0 : Int) ≤ (q : Int) := by omega
            have hqn : (q : Int) < (CL.length : Int) := by omega
            have hne : (va != va) = false := by simp
            clear hq em
            go_wp2_with fail
            refine wp_region_ext (by kernel_rfl) (by kernel_rfl) ?_
            repeat (go_big_quiet_step (fail))
            refine wpQuiet_nil ?_
            intro _ hw'
            obtain ⟨gg, rfl⟩ := hw'
            have HLE2 := Lib.hid (HLE.out.trans (Le.ext wr gg))
            generalize wr.ext gg = W6 at *
            go_wp2
            go_roundw
            case rel => exact ⟨r + 1, by omega, by go_num, HLE2.out⟩
            case measure => (simp [intOf]) <;> omega
          · have hp2 := HP2.out
            have hp3 := HP3.out
            have HD : Hid (True) := trivial
            generalize (ceL xs L true cl k).length = n1 at *
            generalize c1N L = cn at *
            have g0 : ((CL.length : Int) == (CL.length : Int)) = true := by simp
            have g1 : decide ((CL.length : Int) ≤ (n1 : Int)) = true := decide_eq_true (by omega)
            have g2 : decide ((n1 : Int) ≤ (cn : Int)) = true := decide_eq_true (by omega)
            have g3 : decide (CL.length ≤ n1) = true := decide_eq_true hp2
            have g4 : decide (n1 ≤ cn) = true := decide_eq_true hp3
            go_wp2
            go_ret
            exact ⟨rfl, L0⟩
end Go.Proofs.Ytonpgohigncjeaa
