/- one text of FCt -/
import Derived.Test.YtonpgohigncjeaaCx8
import Derived.Test.YtonpgohigncjeaaCx18
import Derived.Test.YtonpgohigncjeaaCx19
namespace Go.Proofs.Ytonpgohigncjeaa
open Go.RowKit
set_option linter.unusedVariables false
section
theorem c0N_app : ∀ (a b : List Xit), c0N (a ++ b) = c0N a + c0N b
  | [], b => by show c0N b = 0 + c0N b; omega
  | x :: a, b => by
    have ih := c0N_app a b
    show (if x.kind = 0 then 1 else 0) + c0N (a ++ b) = (if x.kind = 0 then 1 else 0) + c0N a + c0N b
    omega
theorem c0N_take {L : List Xit} {k : Nat} (h : k < L.length) : c0N (L.take (k + 1)) = c0N (L.take k) + if L[k].kind = 0 then 1 else 0 := by
  rw [List.take_succ_eq_append_getElem h, c0N_app]; rfl
theorem c1N_app : ∀ (a b : List Xit), c1N (a ++ b) = c1N a + c1N b
  | [], b => by show c1N b = 0 + c1N b; omega
  | x :: a, b => by
    have ih := c1N_app a b
    show (if x.kind = 0 ∨ x.kind = 1 then 1 else 0) + c1N (a ++ b) = (if x.kind = 0 ∨ x.kind = 1 then 1 else 0) + c1N a + c1N b
    omega
theorem c1N_take {L : List Xit} {k : Nat} (h : k < L.length) : c1N (L.take (k + 1)) = c1N (L.take k) + if L[k].kind = 0 ∨ L[k].kind = 1 then 1 else 0 := by
  rw [List.take_succ_eq_append_getElem h, c1N_app]; rfl
theorem c0N_le : ∀ (L : List Xit), c0N L ≤ L.length
  | [] => Nat.le_refl _
  | x :: L => by have := c0N_le L; unfold c0N; rw [List.length_cons]; split <;> omega
theorem c1N_le : ∀ (L : List Xit), c1N L ≤ L.length
  | [] => Nat.le_refl _
  | x :: L => by have := c1N_le L; unfold c1N; rw [List.length_cons]; split <;> omega
theorem c0L_take {L : List Xit} {k : Nat} (h : k < L.length) : c0L (L.take (k + 1)) = c0L (L.take k) ++ if L[k].kind = 0 then [L[k]] else [] := by
  unfold c0L
  rw [List.take_succ_eq_append_getElem h, List.filter_append]
  by_cases e : L[k].kind = 0
  · rw [if_pos e, List.filter_cons_of_pos (by simpa using e)]; rfl
  · rw [if_neg e, List.filter_cons_of_neg (by simpa using e)]; rfl
/-- without a fault, what is told -/
theorem tell_ce {xs : List Cls} {L : List Xit} (h : vxs xs L = true) (h3 : ∀ x ∈ L, x.kind ≠ 3) : (ceL xs L false 0 0).length = c0N L ∧ ceE xs L false 0 0 = 0 := by
  have ho : ceOk xs L false 0 0 = true := ceOk_iff.2 ⟨h, rfl⟩
  obtain ⟨q0, q1, -, -⟩ := ce_yes ho
  obtain ⟨i1, i2⟩ := tell_none xs [] [] L h3 (vxs_iff.1 h).2.2
  have e : stS false 0 0 = ([], [], -1) := rfl
  rw [q0, q1, e]
  refine ⟨by rw [i2]; simp, ?_⟩
  unfold clE
  rw [i1]; rfl
set_option maxHeartbeats 8000000 in
set_option maxRecDepth 100000 in
theorem fnCloseExitsTell_walk (A : Option Addr) (n cap : Nat) (bs : List By) (w : World) (hR : Sl w A n cap bs) :
    Calls Try.prog 8 #[.slice A n cap] w fun e w' => e = .returned (.bool true) ∧ Le w w' := by
  have hm := hR.n_le
  by_cases hbig : 1048576 < n
  · go_enter Try.func8, Try.ntmps8
    go_wp2
    go_ret
    exact ⟨rfl, Le.refl w⟩
  go_enter Try.func8, Try.ntmps8
  go_wp2_with fail
  refine (drawCloseExits_any A n cap bs w hR).mono ?_
  rintro e w1 ⟨B, D, m, c, q, d, xs, L, has, cl, k, rfl, S, hm8, S2, hq8, hb, L0⟩
  obtain rfl := S2.len
  clear hbig hm hR
  have hcl : Enc.ok cl := ⟨by omega, by omega⟩
  have hkk : Enc.ok k := ⟨by omega, by omega⟩
  obtain ⟨ct, zt, cx0, cx1, cx2, zx0, LB⟩ := boxTX w1 (.slice B m c) (.bool has) (.int .i64 cl) (.int .i64 k) 25 28
  have zx1 := zx0
  have zx2 := zx0
  replace S := S.le LB
  replace L0 := L0.trans LB
  replace S2 := S2.le LB
  clear LB
  go_wp2_with fail
  generalize (w1.alloc (.cells #[.slice B m c] 25)).alloc (.cells #[.bool has, .int .i64 cl, .int .i64 k] 28) = W1 at *
  refine (Calls.ce (iCloseExits_any B D m c _ d xs L has cl k hcl hkk W1 S S2)).mono ?_
  rintro e w3 ⟨A0, q0, A1, q1, rfl, S3, S4, hle⟩
  replace ct := (hle.cell zt).trans ct
  replace cx0 := (hle.cell zx0).trans cx0
  replace cx1 := (hle.cell zx1).trans cx1
  replace cx2 := (hle.cell zx2).trans cx2
  replace zt := Nat.lt_of_lt_of_le zt hle.size
  replace zx0 := Nat.lt_of_lt_of_le zx0 hle.size
  replace zx1 := Nat.lt_of_lt_of_le zx1 hle.size
  replace zx2 := Nat.lt_of_lt_of_le zx2 hle.size
  replace S := S.le hle
  replace L0 := L0.trans hle
  replace S2 := S2.le hle
  clear hle
  obtain ⟨cr0, cr1, cr2, cr3, zr0, LB⟩ := boxRr w3 (.slice A0 (ceL xs L has cl k).length q0) (.int .i64 (ceE xs L has cl k)) (.int .i64 (ceV xs L has cl k)) (.slice A1 (ceH xs L has cl k).length q1) 36
  have zr1 := zr0
  have zr2 := zr0
  have zr3 := zr0
  replace ct := (LB.cell zt).trans ct
  replace cx0 := (LB.cell zx0).trans cx0
  replace cx1 := (LB.cell zx1).trans cx1
  replace cx2 := (LB.cell zx2).trans cx2
  replace zt := Nat.lt_of_lt_of_le zt LB.size
  replace zx0 := Nat.lt_of_lt_of_le zx0 LB.size
  replace zx1 := Nat.lt_of_lt_of_le zx1 LB.size
  replace zx2 := Nat.lt_of_lt_of_le zx2 LB.size
  replace S := S.le LB
  replace L0 := L0.trans LB
  replace S2 := S2.le LB
  replace S3 := S3.le LB
  replace S4 := S4.le LB
  clear LB
  go_wp2_with fail
  generalize w3.alloc (.cells #[.slice A0 (ceL xs L has cl k).length q0, .int .i64 (ceE xs L has cl k), .int .i64 (ceV xs L has cl k), .slice A1 (ceH xs L has cl k).length q1] 36) = W3 at *
  cases hv : vxs xs L
  · skip
    replace ct := (show W3.drew.cell? _ = _ from ct)
    replace zt := (show _ < W3.drew.heap.size from zt)
    replace cx0 := (show W3.drew.cell? _ = _ from cx0)
    replace zx0 := (show _ < W3.drew.heap.size from zx0)
    replace cx1 := (show W3.drew.cell? _ = _ from cx1)
    replace zx1 := (show _ < W3.drew.heap.size from zx1)
    replace cx2 := (show W3.drew.cell? _ = _ from cx2)
    replace zx2 := (show _ < W3.drew.heap.size from zx2)
    replace cr0 := (show W3.drew.cell? _ = _ from cr0)
    replace zr0 := (show _ < W3.drew.heap.size from zr0)
    replace cr1 := (show W3.drew.cell? _ = _ from cr1)
    replace zr1 := (show _ < W3.drew.heap.size from zr1)
    replace cr2 := (show W3.drew.cell? _ = _ from cr2)
    replace zr2 := (show _ < W3.drew.heap.size from zr2)
    replace cr3 := (show W3.drew.cell? _ = _ from cr3)
    replace zr3 := (show _ < W3.drew.heap.size from zr3)
    replace S := S.le (Le.refl _).drew
    replace L0 := L0.drew
    replace S2 := S2.le (Le.refl _).drew
    replace S3 := S3.le (Le.refl _).drew
    replace S4 := S4.le (Le.refl _).drew
    refine wp_region_noPanic ?_
    refine wp_region_Z (fun w' => w'.cell? ⟨w1.heap.size, 0, none⟩ = some (.slice B m c) ∧ w'.cell? ⟨w1.heap.size + 1, 0, none⟩ = some (.bool has) ∧ w'.cell? ⟨w1.heap.size + 1, 1, none⟩ = some (.int .i64 cl) ∧ w'.cell? ⟨w1.heap.size + 1, 2, none⟩ = some (.int .i64 k) ∧ w'.cell? ⟨w3.heap.size, 0, none⟩ = some (.slice A0 (ceL xs L has cl k).length q0) ∧ w'.cell? ⟨w3.heap.size, 1, none⟩ = some (.int .i64 (ceE xs L has cl k)) ∧ w'.cell? ⟨w3.heap.size, 2, none⟩ = some (.int .i64 (ceV xs L has cl k)) ∧ w'.cell? ⟨w3.heap.size, 3, none⟩ = some (.slice A1 (ceH xs L has cl k).length q1)) [] (by kernel_rfl) ?_
    generalize W3.drew = U at *
    refine wpAnyZ_take (i := 0) (v := ?_) rfl (by kernel_rfl) (fun _ _ _ h => h) (Or.inl ⟨by rfl, ?_⟩) (⟨ct, cx0, cx1, cx2, cr0, cr1, cr2, cr3⟩) ?_
    rotate_left 1
    · (intro w hSw; (try dsimp only at hSw); go_simp; try with_reducible rfl)
    try simp only [Act.put, List.setIfInBounds_toArray, List.set_cons_zero, List.set_cons_succ]
    refine wpAnyZ_take (i := 1) (v := ?_) rfl (by kernel_rfl) (fun _ _ _ h => h) (Or.inl ⟨by rfl, ?_⟩) (⟨ct, cx0, cx1, cx2, cr0, cr1, cr2, cr3⟩) ?_
    rotate_left 1
    · (intro w hSw; (try dsimp only at hSw); go_simp; try with_reducible rfl)
    try simp only [Act.put, List.setIfInBounds_toArray, List.set_cons_zero, List.set_cons_succ]
    refine wpAnyZ_take (i := 2) (v := ?_) rfl (by kernel_rfl) (fun _ _ _ h => h) (Or.inl ⟨by rfl, ?_⟩) (⟨ct, cx0, cx1, cx2, cr0, cr1, cr2, cr3⟩) ?_
    rotate_left 1
    · (intro w hSw; (try dsimp only at hSw); go_simp; try with_reducible rfl)
    try simp only [Act.put, List.setIfInBounds_toArray, List.set_cons_zero, List.set_cons_succ]
    refine wpAnyZ_take (i := 3) (v := ?_) rfl (by kernel_rfl) (fun _ _ _ h => h) (Or.inl ⟨by rfl, ?_⟩) (⟨ct, cx0, cx1, cx2, cr0, cr1, cr2, cr3⟩) ?_
    rotate_left 1
    · (intro w hSw; (try dsimp only at hSw); go_simp; try with_reducible rfl)
    try simp only [Act.put, List.setIfInBounds_toArray, List.set_cons_zero, List.set_cons_succ]
    refine wpAnyZ_one (i := 4) (by kernel_rfl) (ReadyZ.mk rfl (fun K hK => ?_))
    go_simp
    go_at_call 12
    refine (Calls.ce (sCloseExits_any B D m c _ d xs L has cl k hcl hkk _ S S2)).mono ?_
    rintro e u1 ⟨A2, q2, A3, q3, rfl, S5, S6, hle⟩
    replace ct := (hle.cell zt).trans ct
    replace cx0 := (hle.cell zx0).trans cx0
    replace cx1 := (hle.cell zx1).trans cx1
    replace cx2 := (hle.cell zx2).trans cx2
    replace cr0 := (hle.cell zr0).trans cr0
    replace cr1 := (hle.cell zr1).trans cr1
    replace cr2 := (hle.cell zr2).trans cr2
    replace cr3 := (hle.cell zr3).trans cr3
    replace zt := Nat.lt_of_lt_of_le zt hle.size
    replace zx0 := Nat.lt_of_lt_of_le zx0 hle.size
    replace zx1 := Nat.lt_of_lt_of_le zx1 hle.size
    replace zx2 := Nat.lt_of_lt_of_le zx2 hle.size
    replace zr0 := Nat.lt_of_lt_of_le zr0 hle.size
    replace zr1 := Nat.lt_of_lt_of_le zr1 hle.size
    replace zr2 := Nat.lt_of_lt_of_le zr2 hle.size
    replace zr3 := Nat.lt_of_lt_of_le zr3 hle.size
    replace S := S.le hle
    replace L0 := L0.trans hle
    replace S2 := S2.le hle
    replace S3 := S3.le hle
    replace S4 := S4.le hle
    clear hle
    refine hK.out _ _ (fun _ => ⟨ct, cx0, cx1, cx2, cr0, cr1, cr2, cr3⟩) ?_
    clear hK K
    try simp only [Act.put, List.setIfInBounds_toArray, List.set_cons_zero, List.set_cons_succ]
    refine wpAnyZ_one (i := 5) (by kernel_rfl) (ReadyZ.mk rfl (fun K hK => ?_))
    go_simp
    go_at_call 11
    refine (equalResult_self _ _ _ _ _ _ _ _ _ _ (ceL xs L has cl k) (ceH xs L has cl k) _ _ _ S3 S5 S4 S6).mono ?_
    rintro e u2 ⟨rfl, hle⟩
    replace ct := (hle.cell zt).trans ct
    replace cx0 := (hle.cell zx0).trans cx0
    replace cx1 := (hle.cell zx1).trans cx1
    replace cx2 := (hle.cell zx2).trans cx2
    replace cr0 := (hle.cell zr0).trans cr0
    replace cr1 := (hle.cell zr1).trans cr1
    replace cr2 := (hle.cell zr2).trans cr2
    replace cr3 := (hle.cell zr3).trans cr3
    replace zt := Nat.lt_of_lt_of_le zt hle.size
    replace zx0 := Nat.lt_of_lt_of_le zx0 hle.size
    replace zx1 := Nat.lt_of_lt_of_le zx1 hle.size
    replace zx2 := Nat.lt_of_lt_of_le zx2 hle.size
    replace zr0 := Nat.lt_of_lt_of_le zr0 hle.size
    replace zr1 := Nat.lt_of_lt_of_le zr1 hle.size
    replace zr2 := Nat.lt_of_lt_of_le zr2 hle.size
    replace zr3 := Nat.lt_of_lt_of_le zr3 hle.size
    replace S := S.le hle
    replace L0 := L0.trans hle
    replace S2 := S2.le hle
    replace S3 := S3.le hle
    replace S4 := S4.le hle
    clear hle S5 S6
    refine hK.out _ _ (fun _ => ⟨ct, cx0, cx1, cx2, cr0, cr1, cr2, cr3⟩) ?_
    clear hK K
    try simp only [Act.put, List.setIfInBounds_toArray, List.set_cons_zero, List.set_cons_succ]
    refine wpAnyZ_take (i := 6) (v := ?_) rfl (by kernel_rfl) (fun _ _ _ h => h) (Or.inl ⟨by rfl, ?_⟩) (⟨ct, cx0, cx1, cx2, cr0, cr1, cr2, cr3⟩) ?_
    rotate_left 1
    · (intro w hSw; (try dsimp only at hSw); go_simp; try with_reducible rfl)
    try simp only [Act.put, List.setIfInBounds_toArray, List.set_cons_zero, List.set_cons_succ]
    refine wpAnyZ_take (i := 7) (v := ?_) rfl (by kernel_rfl) (fun _ _ _ h => h) (Or.inl ⟨by rfl, ?_⟩) (⟨ct, cx0, cx1, cx2, cr0, cr1, cr2, cr3⟩) ?_
    rotate_left 1
    · (intro w hSw; (try dsimp only at hSw); go_simp; try with_reducible rfl)
    try simp only [Act.put, List.setIfInBounds_toArray, List.set_cons_zero, List.set_cons_succ]
    refine wpAnyZ_take (i := 8) (v := ?_) rfl (by kernel_rfl) (fun _ _ _ h => h) (Or.inl ⟨by rfl, ?_⟩) (⟨ct, cx0, cx1, cx2, cr0, cr1, cr2, cr3⟩) ?_
    rotate_left 1
    · (intro w hSw; (try dsimp only at hSw); go_simp; try with_reducible rfl)
    try simp only [Act.put, List.setIfInBounds_toArray, List.set_cons_zero, List.set_cons_succ]
    refine wpAnyZ_take (i := 9) (v := ?_) rfl (by kernel_rfl) (fun _ _ _ h => h) (Or.inl ⟨by rfl, ?_⟩) (⟨ct, cx0, cx1, cx2, cr0, cr1, cr2, cr3⟩) ?_
    rotate_left 1
    · (intro w hSw; (try dsimp only at hSw); go_simp; try with_reducible rfl)
    try simp only [Act.put, List.setIfInBounds_toArray, List.set_cons_zero, List.set_cons_succ]
    refine wpAnyZ_one (i := 10) (by kernel_rfl) (ReadyZ.mk rfl (fun K hK => ?_))
    go_simp
    go_at_call 13
    refine (Calls.val (iValidExits_any B D m c _ d xs L _ S S2) (by rw [hv])).mono ?_
    rintro e u3 ⟨rfl, hle⟩
    replace ct := (hle.cell zt).trans ct
    replace cx0 := (hle.cell zx0).trans cx0
    replace cx1 := (hle.cell zx1).trans cx1
    replace cx2 := (hle.cell zx2).trans cx2
    replace cr0 := (hle.cell zr0).trans cr0
    replace cr1 := (hle.cell zr1).trans cr1
    replace cr2 := (hle.cell zr2).trans cr2
    replace cr3 := (hle.cell zr3).trans cr3
    replace zt := Nat.lt_of_lt_of_le zt hle.size
    replace zx0 := Nat.lt_of_lt_of_le zx0 hle.size
    replace zx1 := Nat.lt_of_lt_of_le zx1 hle.size
    replace zx2 := Nat.lt_of_lt_of_le zx2 hle.size
    replace zr0 := Nat.lt_of_lt_of_le zr0 hle.size
    replace zr1 := Nat.lt_of_lt_of_le zr1 hle.size
    replace zr2 := Nat.lt_of_lt_of_le zr2 hle.size
    replace zr3 := Nat.lt_of_lt_of_le zr3 hle.size
    replace S := S.le hle
    replace L0 := L0.trans hle
    replace S2 := S2.le hle
    replace S3 := S3.le hle
    replace S4 := S4.le hle
    clear hle
    refine hK.out _ _ (fun _ => ⟨ct, cx0, cx1, cx2, cr0, cr1, cr2, cr3⟩) ?_
    clear hK K
    try simp only [Act.put, List.setIfInBounds_toArray, List.set_cons_zero, List.set_cons_succ]
    refine wpAnyZ_take (i := 11) (v := ?_) rfl (by kernel_rfl) (fun _ _ _ h => h) (Or.inl ⟨by rfl, ?_⟩) (⟨ct, cx0, cx1, cx2, cr0, cr1, cr2, cr3⟩) ?_
    rotate_left 1
    · (intro w hSw; (try dsimp only at hSw); go_simp; try with_reducible rfl)
    try simp only [Act.put, List.setIfInBounds_toArray, List.set_cons_zero, List.set_cons_succ]
    refine wpAnyZ_take (i := 12) (v := ?_) rfl (by kernel_rfl) (fun _ _ _ h => h) (Or.inl ⟨by rfl, ?_⟩) (⟨ct, cx0, cx1, cx2, cr0, cr1, cr2, cr3⟩) ?_
    rotate_left 1
    · (intro w hSw; (try dsimp only at hSw); go_simp; try with_reducible rfl)
    try simp only [Act.put, List.setIfInBounds_toArray, List.set_cons_zero, List.set_cons_succ]
    refine wpAnyZ_take (i := 13) (v := ?_) rfl (by kernel_rfl) (fun _ _ _ h => h) (Or.inl ⟨by rfl, ?_⟩) (⟨ct, cx0, cx1, cx2, cr0, cr1, cr2, cr3⟩) ?_
    rotate_left 1
    · (intro w hSw; (try dsimp only at hSw); go_simp; try with_reducible rfl)
    try simp only [Act.put, List.setIfInBounds_toArray, List.set_cons_zero, List.set_cons_succ]
    refine wpAnyZ_take (i := 14) (v := undef) rfl (by kernel_rfl) (fun _ _ _ h => h) (Or.inr ⟨?_, rfl⟩) (⟨ct, cx0, cx1, cx2, cr0, cr1, cr2, cr3⟩) ?_
    · rfl
    try simp only [Act.put, List.setIfInBounds_toArray, List.set_cons_zero, List.set_cons_succ]
    refine wpAnyZ_take (i := 15) (v := undef) rfl (by kernel_rfl) (fun _ _ _ h => h) (Or.inr ⟨?_, rfl⟩) (⟨ct, cx0, cx1, cx2, cr0, cr1, cr2, cr3⟩) ?_
    · rfl
    try simp only [Act.put, List.setIfInBounds_toArray, List.set_cons_zero, List.set_cons_succ]
    refine wpAnyZ_take (i := 16) (v := ?_) rfl (by kernel_rfl) (fun _ _ _ h => h) (Or.inl ⟨by rfl, ?_⟩) (⟨ct, cx0, cx1, cx2, cr0, cr1, cr2, cr3⟩) ?_
    rotate_left 1
    · (intro w hSw; (try dsimp only at hSw); go_simp; try with_reducible rfl)
    try simp only [Act.put, List.setIfInBounds_toArray, List.set_cons_zero, List.set_cons_succ]
    refine wpAnyZ_take (i := 17) (v := ?_) rfl (by kernel_rfl) (fun _ _ _ h => h) (Or.inl ⟨by rfl, ?_⟩) (⟨ct, cx0, cx1, cx2, cr0, cr1, cr2, cr3⟩) ?_
    rotate_left 1
    · (intro w hSw; (try dsimp only at hSw); go_simp; try with_reducible rfl)
    try simp only [Act.put, List.setIfInBounds_toArray, List.set_cons_zero, List.set_cons_succ]
    refine wpAnyZ_take (i := 18) (v := undef) rfl (by kernel_rfl) (fun _ _ _ h => h) (Or.inr ⟨?_, rfl⟩) (⟨ct, cx0, cx1, cx2, cr0, cr1, cr2, cr3⟩) ?_
    · rfl
    try simp only [Act.put, List.setIfInBounds_toArray, List.set_cons_zero, List.set_cons_succ]
    refine wpAnyZ_take (i := 19) (v := undef) rfl (by kernel_rfl) (fun _ _ _ h => h) (Or.inr ⟨?_, rfl⟩) (⟨ct, cx0, cx1, cx2, cr0, cr1, cr2, cr3⟩) ?_
    · rfl
    try simp only [Act.put, List.setIfInBounds_toArray, List.set_cons_zero, List.set_cons_succ]
    refine wpAnyZ_take (i := 20) (v := undef) rfl (by kernel_rfl) (fun _ _ _ h => h) (Or.inr ⟨?_, rfl⟩) (⟨ct, cx0, cx1, cx2, cr0, cr1, cr2, cr3⟩) ?_
    · rfl
    try simp only [Act.put, List.setIfInBounds_toArray, List.set_cons_zero, List.set_cons_succ]
    refine wpAnyZ_take (i := 21) (v := ?_) rfl (by kernel_rfl) (fun _ _ _ h => h) (Or.inl ⟨by rfl, ?_⟩) (⟨ct, cx0, cx1, cx2, cr0, cr1, cr2, cr3⟩) ?_
    rotate_left 1
    · (intro w hSw; (try dsimp only at hSw); go_simp; try with_reducible rfl)
    try simp only [Act.put, List.setIfInBounds_toArray, List.set_cons_zero, List.set_cons_succ]
    refine wpAnyZ_take (i := 22) (v := ?_) rfl (by kernel_rfl) (fun _ _ _ h => h) (Or.inl ⟨by rfl, ?_⟩) (⟨ct, cx0, cx1, cx2, cr0, cr1, cr2, cr3⟩) ?_
    rotate_left 1
    · (intro w hSw; (try dsimp only at hSw); go_simp; try with_reducible rfl)
    try simp only [Act.put, List.setIfInBounds_toArray, List.set_cons_zero, List.set_cons_succ]
    refine wpAnyZ_take (i := 23) (v := undef) rfl (by kernel_rfl) (fun _ _ _ h => h) (Or.inr ⟨?_, rfl⟩) (⟨ct, cx0, cx1, cx2, cr0, cr1, cr2, cr3⟩) ?_
    · rfl
    try simp only [Act.put, List.setIfInBounds_toArray, List.set_cons_zero, List.set_cons_succ]
    refine wpAnyZ_take (i := 24) (v := undef) rfl (by kernel_rfl) (fun _ _ _ h => h) (Or.inr ⟨?_, rfl⟩) (⟨ct, cx0, cx1, cx2, cr0, cr1, cr2, cr3⟩) ?_
    · rfl
    try simp only [Act.put, List.setIfInBounds_toArray, List.set_cons_zero, List.set_cons_succ]
    refine wpAnyZ_take (i := 25) (v := undef) rfl (by kernel_rfl) (fun _ _ _ h => h) (Or.inr ⟨?_, rfl⟩) (⟨ct, cx0, cx1, cx2, cr0, cr1, cr2, cr3⟩) ?_
    · rfl
    try simp only [Act.put, List.setIfInBounds_toArray, List.set_cons_zero, List.set_cons_succ]
    refine wpAnyZ_take (i := 26) (v := ?_) rfl (by kernel_rfl) (fun _ _ _ h => h) (Or.inl ⟨by rfl, ?_⟩) (⟨ct, cx0, cx1, cx2, cr0, cr1, cr2, cr3⟩) ?_
    rotate_left 1
    · (intro w hSw; (try dsimp only at hSw); go_simp; try with_reducible rfl)
    try simp only [Act.put, List.setIfInBounds_toArray, List.set_cons_zero, List.set_cons_succ]
    refine wpAnyZ_done (by kernel_rfl) ?_ _
    refine NoPanic.normal ?_
    go_wp2_with fail
    replace ct := (show u3.drew.cell? _ = _ from ct)
    replace zt := (show _ < u3.drew.heap.size from zt)
    replace cx0 := (show u3.drew.cell? _ = _ from cx0)
    replace zx0 := (show _ < u3.drew.heap.size from zx0)
    replace cx1 := (show u3.drew.cell? _ = _ from cx1)
    replace zx1 := (show _ < u3.drew.heap.size from zx1)
    replace cx2 := (show u3.drew.cell? _ = _ from cx2)
    replace zx2 := (show _ < u3.drew.heap.size from zx2)
    replace cr0 := (show u3.drew.cell? _ = _ from cr0)
    replace zr0 := (show _ < u3.drew.heap.size from zr0)
    replace cr1 := (show u3.drew.cell? _ = _ from cr1)
    replace zr1 := (show _ < u3.drew.heap.size from zr1)
    replace cr2 := (show u3.drew.cell? _ = _ from cr2)
    replace zr2 := (show _ < u3.drew.heap.size from zr2)
    replace cr3 := (show u3.drew.cell? _ = _ from cr3)
    replace zr3 := (show _ < u3.drew.heap.size from zr3)
    replace S := S.le (Le.refl _).drew
    replace L0 := L0.drew
    replace S2 := S2.le (Le.refl _).drew
    replace S3 := S3.le (Le.refl _).drew
    replace S4 := S4.le (Le.refl _).drew
    refine wp_region_noPanic ?_
    refine wp_region_Z (fun w' => w'.cell? ⟨w1.heap.size, 0, none⟩ = some (.slice B m c) ∧ w'.cell? ⟨w1.heap.size + 1, 0, none⟩ = some (.bool has) ∧ w'.cell? ⟨w1.heap.size + 1, 1, none⟩ = some (.int .i64 cl) ∧ w'.cell? ⟨w1.heap.size + 1, 2, none⟩ = some (.int .i64 k) ∧ w'.cell? ⟨w3.heap.size, 0, none⟩ = some (.slice A0 (ceL xs L has cl k).length q0) ∧ w'.cell? ⟨w3.heap.size, 1, none⟩ = some (.int .i64 (ceE xs L has cl k)) ∧ w'.cell? ⟨w3.heap.size, 2, none⟩ = some (.int .i64 (ceV xs L has cl k)) ∧ w'.cell? ⟨w3.heap.size, 3, none⟩ = some (.slice A1 (ceH xs L has cl k).length q1)) [] (by kernel_rfl) ?_
    generalize u3.drew = Y at *
    refine wpAnyZ_take (i := 0) (v := ?_) rfl (by kernel_rfl) (fun _ _ _ h => h) (Or.inl ⟨by rfl, ?_⟩) (⟨ct, cx0, cx1, cx2, cr0, cr1, cr2, cr3⟩) ?_
    rotate_left 1
    · (intro w hSw; (try dsimp only at hSw); go_simp; try with_reducible rfl)
    try simp only [Act.put, List.setIfInBounds_toArray, List.set_cons_zero, List.set_cons_succ]
    refine wpAnyZ_take (i := 1) (v := ?_) rfl (by kernel_rfl) (fun _ _ _ h => h) (Or.inl ⟨by rfl, ?_⟩) (⟨ct, cx0, cx1, cx2, cr0, cr1, cr2, cr3⟩) ?_
    rotate_left 1
    · (intro w hSw; (try dsimp only at hSw); go_simp; try with_reducible rfl)
    try simp only [Act.put, List.setIfInBounds_toArray, List.set_cons_zero, List.set_cons_succ]
    refine wpAnyZ_take (i := 2) (v := ?_) rfl (by kernel_rfl) (fun _ _ _ h => h) (Or.inl ⟨by rfl, ?_⟩) (⟨ct, cx0, cx1, cx2, cr0, cr1, cr2, cr3⟩) ?_
    rotate_left 1
    · (intro w hSw; (try dsimp only at hSw); go_simp; try with_reducible rfl)
    try simp only [Act.put, List.setIfInBounds_toArray, List.set_cons_zero, List.set_cons_succ]
    refine wpAnyZ_take (i := 3) (v := ?_) rfl (by kernel_rfl) (fun _ _ _ h => h) (Or.inl ⟨by rfl, ?_⟩) (⟨ct, cx0, cx1, cx2, cr0, cr1, cr2, cr3⟩) ?_
    rotate_left 1
    · (intro w hSw; (try dsimp only at hSw); go_simp; try with_reducible rfl)
    try simp only [Act.put, List.setIfInBounds_toArray, List.set_cons_zero, List.set_cons_succ]
    refine wpAnyZ_one (i := 4) (by kernel_rfl) (ReadyZ.mk rfl (fun K hK => ?_))
    go_simp
    go_at_call 12
    refine (Calls.ce (sCloseExits_any B D m c _ d xs L has cl k hcl hkk _ S S2)).mono ?_
    rintro e y1 ⟨A2, q2, A3, q3, rfl, S5, S6, hle⟩
    replace ct := (hle.cell zt).trans ct
    replace cx0 := (hle.cell zx0).trans cx0
    replace cx1 := (hle.cell zx1).trans cx1
    replace cx2 := (hle.cell zx2).trans cx2
    replace cr0 := (hle.cell zr0).trans cr0
    replace cr1 := (hle.cell zr1).trans cr1
    replace cr2 := (hle.cell zr2).trans cr2
    replace cr3 := (hle.cell zr3).trans cr3
    replace zt := Nat.lt_of_lt_of_le zt hle.size
    replace zx0 := Nat.lt_of_lt_of_le zx0 hle.size
    replace zx1 := Nat.lt_of_lt_of_le zx1 hle.size
    replace zx2 := Nat.lt_of_lt_of_le zx2 hle.size
    replace zr0 := Nat.lt_of_lt_of_le zr0 hle.size
    replace zr1 := Nat.lt_of_lt_of_le zr1 hle.size
    replace zr2 := Nat.lt_of_lt_of_le zr2 hle.size
    replace zr3 := Nat.lt_of_lt_of_le zr3 hle.size
    replace S := S.le hle
    replace L0 := L0.trans hle
    replace S2 := S2.le hle
    replace S3 := S3.le hle
    replace S4 := S4.le hle
    clear hle
    refine hK.out _ _ (fun _ => ⟨ct, cx0, cx1, cx2, cr0, cr1, cr2, cr3⟩) ?_
    clear hK K
    try simp only [Act.put, List.setIfInBounds_toArray, List.set_cons_zero, List.set_cons_succ]
    refine wpAnyZ_one (i := 5) (by kernel_rfl) (ReadyZ.mk rfl (fun K hK => ?_))
    go_simp
    go_at_call 11
    refine (equalResult_self _ _ _ _ _ _ _ _ _ _ (ceL xs L has cl k) (ceH xs L has cl k) _ _ _ S3 S5 S4 S6).mono ?_
    rintro e y2 ⟨rfl, hle⟩
    replace ct := (hle.cell zt).trans ct
    replace cx0 := (hle.cell zx0).trans cx0
    replace cx1 := (hle.cell zx1).trans cx1
    replace cx2 := (hle.cell zx2).trans cx2
    replace cr0 := (hle.cell zr0).trans cr0
    replace cr1 := (hle.cell zr1).trans cr1
    replace cr2 := (hle.cell zr2).trans cr2
    replace cr3 := (hle.cell zr3).trans cr3
    replace zt := Nat.lt_of_lt_of_le zt hle.size
    replace zx0 := Nat.lt_of_lt_of_le zx0 hle.size
    replace zx1 := Nat.lt_of_lt_of_le zx1 hle.size
    replace zx2 := Nat.lt_of_lt_of_le zx2 hle.size
    replace zr0 := Nat.lt_of_lt_of_le zr0 hle.size
    replace zr1 := Nat.lt_of_lt_of_le zr1 hle.size
    replace zr2 := Nat.lt_of_lt_of_le zr2 hle.size
    replace zr3 := Nat.lt_of_lt_of_le zr3 hle.size
    replace S := S.le hle
    replace L0 := L0.trans hle
    replace S2 := S2.le hle
    replace S3 := S3.le hle
    replace S4 := S4.le hle
    clear hle S5 S6
    refine hK.out _ _ (fun _ => ⟨ct, cx0, cx1, cx2, cr0, cr1, cr2, cr3⟩) ?_
    clear hK K
    try simp only [Act.put, List.setIfInBounds_toArray, List.set_cons_zero, List.set_cons_succ]
    refine wpAnyZ_take (i := 6) (v := ?_) rfl (by kernel_rfl) (fun _ _ _ h => h) (Or.inl ⟨by rfl, ?_⟩) (⟨ct, cx0, cx1, cx2, cr0, cr1, cr2, cr3⟩) ?_
    rotate_left 1
    · (intro w hSw; (try dsimp only at hSw); go_simp; try with_reducible rfl)
    try simp only [Act.put, List.setIfInBounds_toArray, List.set_cons_zero, List.set_cons_succ]
    refine wpAnyZ_done (by kernel_rfl) ?_ _
    refine NoPanic.normal ?_
    go_wp2
    go_ret
    exact ⟨rfl, L0⟩
  cases has
  rotate_left
  · skip
    replace ct := (show W3.drew.cell? _ = _ from ct)
    replace zt := (show _ < W3.drew.heap.size from zt)
    replace cx0 := (show W3.drew.cell? _ = _ from cx0)
    replace zx0 := (show _ < W3.drew.heap.size from zx0)
    replace cx1 := (show W3.drew.cell? _ = _ from cx1)
    replace zx1 := (show _ < W3.drew.heap.size from zx1)
    replace cx2 := (show W3.drew.cell? _ = _ from cx2)
    replace zx2 := (show _ < W3.drew.heap.size from zx2)
    replace cr0 := (show W3.drew.cell? _ = _ from cr0)
    replace zr0 := (show _ < W3.drew.heap.size from zr0)
    replace cr1 := (show W3.drew.cell? _ = _ from cr1)
    replace zr1 := (show _ < W3.drew.heap.size from zr1)
    replace cr2 := (show W3.drew.cell? _ = _ from cr2)
    replace zr2 := (show _ < W3.drew.heap.size from zr2)
    replace cr3 := (show W3.drew.cell? _ = _ from cr3)
    replace zr3 := (show _ < W3.drew.heap.size from zr3)
    replace S := S.le (Le.refl _).drew
    replace L0 := L0.drew
    replace S2 := S2.le (Le.refl _).drew
    replace S3 := S3.le (Le.refl _).drew
    replace S4 := S4.le (Le.refl _).drew
    refine wp_region_noPanic ?_
    refine wp_region_Z (fun w' => w'.cell? ⟨w1.heap.size, 0, none⟩ = some (.slice B m c) ∧ w'.cell? ⟨w1.heap.size + 1, 0, none⟩ = some (.bool true) ∧ w'.cell? ⟨w1.heap.size + 1, 1, none⟩ = some (.int .i64 cl) ∧ w'.cell? ⟨w1.heap.size + 1, 2, none⟩ = some (.int .i64 k) ∧ w'.cell? ⟨w3.heap.size, 0, none⟩ = some (.slice A0 (ceL xs L true cl k).length q0) ∧ w'.cell? ⟨w3.heap.size, 1, none⟩ = some (.int .i64 (ceE xs L true cl k)) ∧ w'.cell? ⟨w3.heap.size, 2, none⟩ = some (.int .i64 (ceV xs L true cl k)) ∧ w'.cell? ⟨w3.heap.size, 3, none⟩ = some (.slice A1 (ceH xs L true cl k).length q1)) [] (by kernel_rfl) ?_
    generalize W3.drew = U at *
    refine wpAnyZ_take (i := 0) (v := ?_) rfl (by kernel_rfl) (fun _ _ _ h => h) (Or.inl ⟨by rfl, ?_⟩) (⟨ct, cx0, cx1, cx2, cr0, cr1, cr2, cr3⟩) ?_
    rotate_left 1
    · (intro w hSw; (try dsimp only at hSw); go_simp; try with_reducible rfl)
    try simp only [Act.put, List.setIfInBounds_toArray, List.set_cons_zero, List.set_cons_succ]
    refine wpAnyZ_take (i := 1) (v := ?_) rfl (by kernel_rfl) (fun _ _ _ h => h) (Or.inl ⟨by rfl, ?_⟩) (⟨ct, cx0, cx1, cx2, cr0, cr1, cr2, cr3⟩) ?_
    rotate_left 1
    · (intro w hSw; (try dsimp only at hSw); go_simp; try with_reducible rfl)
    try simp only [Act.put, List.setIfInBounds_toArray, List.set_cons_zero, List.set_cons_succ]
    refine wpAnyZ_take (i := 2) (v := ?_) rfl (by kernel_rfl) (fun _ _ _ h => h) (Or.inl ⟨by rfl, ?_⟩) (⟨ct, cx0, cx1, cx2, cr0, cr1, cr2, cr3⟩) ?_
    rotate_left 1
    · (intro w hSw; (try dsimp only at hSw); go_simp; try with_reducible rfl)
    try simp only [Act.put, List.setIfInBounds_toArray, List.set_cons_zero, List.set_cons_succ]
    refine wpAnyZ_take (i := 3) (v := ?_) rfl (by kernel_rfl) (fun _ _ _ h => h) (Or.inl ⟨by rfl, ?_⟩) (⟨ct, cx0, cx1, cx2, cr0, cr1, cr2, cr3⟩) ?_
    rotate_left 1
    · (intro w hSw; (try dsimp only at hSw); go_simp; try with_reducible rfl)
    try simp only [Act.put, List.setIfInBounds_toArray, List.set_cons_zero, List.set_cons_succ]
    refine wpAnyZ_one (i := 4) (by kernel_rfl) (ReadyZ.mk rfl (fun K hK => ?_))
    go_simp
    go_at_call 12
    refine (Calls.ce (sCloseExits_any B D m c _ d xs L true cl k hcl hkk _ S S2)).mono ?_
    rintro e u1 ⟨A2, q2, A3, q3, rfl, S5, S6, hle⟩
    replace ct := (hle.cell zt).trans ct
    replace cx0 := (hle.cell zx0).trans cx0
    replace cx1 := (hle.cell zx1).trans cx1
    replace cx2 := (hle.cell zx2).trans cx2
    replace cr0 := (hle.cell zr0).trans cr0
    replace cr1 := (hle.cell zr1).trans cr1
    replace cr2 := (hle.cell zr2).trans cr2
    replace cr3 := (hle.cell zr3).trans cr3
    replace zt := Nat.lt_of_lt_of_le zt hle.size
    replace zx0 := Nat.lt_of_lt_of_le zx0 hle.size
    replace zx1 := Nat.lt_of_lt_of_le zx1 hle.size
    replace zx2 := Nat.lt_of_lt_of_le zx2 hle.size
    replace zr0 := Nat.lt_of_lt_of_le zr0 hle.size
    replace zr1 := Nat.lt_of_lt_of_le zr1 hle.size
    replace zr2 := Nat.lt_of_lt_of_le zr2 hle.size
    replace zr3 := Nat.lt_of_lt_of_le zr3 hle.size
    replace S := S.le hle
    replace L0 := L0.trans hle
    replace S2 := S2.le hle
    replace S3 := S3.le hle
    replace S4 := S4.le hle
    clear hle
    refine hK.out _ _ (fun _ => ⟨ct, cx0, cx1, cx2, cr0, cr1, cr2, cr3⟩) ?_
    clear hK K
    try simp only [Act.put, List.setIfInBounds_toArray, List.set_cons_zero, List.set_cons_succ]
    refine wpAnyZ_one (i := 5) (by kernel_rfl) (ReadyZ.mk rfl (fun K hK => ?_))
    go_simp
    go_at_call 11
    refine (equalResult_self _ _ _ _ _ _ _ _ _ _ (ceL xs L true cl k) (ceH xs L true cl k) _ _ _ S3 S5 S4 S6).mono ?_
    rintro e u2 ⟨rfl, hle⟩
    replace ct := (hle.cell zt).trans ct
    replace cx0 := (hle.cell zx0).trans cx0
    replace cx1 := (hle.cell zx1).trans cx1
    replace cx2 := (hle.cell zx2).trans cx2
    replace cr0 := (hle.cell zr0).trans cr0
    replace cr1 := (hle.cell zr1).trans cr1
    replace cr2 := (hle.cell zr2).trans cr2
    replace cr3 := (hle.cell zr3).trans cr3
    replace zt := Nat.lt_of_lt_of_le zt hle.size
    replace zx0 := Nat.lt_of_lt_of_le zx0 hle.size
    replace zx1 := Nat.lt_of_lt_of_le zx1 hle.size
    replace zx2 := Nat.lt_of_lt_of_le zx2 hle.size
    replace zr0 := Nat.lt_of_lt_of_le zr0 hle.size
    replace zr1 := Nat.lt_of_lt_of_le zr1 hle.size
    replace zr2 := Nat.lt_of_lt_of_le zr2 hle.size
    replace zr3 := Nat.lt_of_lt_of_le zr3 hle.size
    replace S := S.le hle
    replace L0 := L0.trans hle
    replace S2 := S2.le hle
    replace S3 := S3.le hle
    replace S4 := S4.le hle
    clear hle S5 S6
    refine hK.out _ _ (fun _ => ⟨ct, cx0, cx1, cx2, cr0, cr1, cr2, cr3⟩) ?_
    clear hK K
    try simp only [Act.put, List.setIfInBounds_toArray, List.set_cons_zero, List.set_cons_succ]
    refine wpAnyZ_take (i := 6) (v := ?_) rfl (by kernel_rfl) (fun _ _ _ h => h) (Or.inl ⟨by rfl, ?_⟩) (⟨ct, cx0, cx1, cx2, cr0, cr1, cr2, cr3⟩) ?_
    rotate_left 1
    · (intro w hSw; (try dsimp only at hSw); go_simp; try with_reducible rfl)
    try simp only [Act.put, List.setIfInBounds_toArray, List.set_cons_zero, List.set_cons_succ]
    refine wpAnyZ_take (i := 7) (v := ?_) rfl (by kernel_rfl) (fun _ _ _ h => h) (Or.inl ⟨by rfl, ?_⟩) (⟨ct, cx0, cx1, cx2, cr0, cr1, cr2, cr3⟩) ?_
    rotate_left 1
    · (intro w hSw; (try dsimp only at hSw); go_simp; try with_reducible rfl)
    try simp only [Act.put, List.setIfInBounds_toArray, List.set_cons_zero, List.set_cons_succ]
    refine wpAnyZ_take (i := 8) (v := ?_) rfl (by kernel_rfl) (fun _ _ _ h => h) (Or.inl ⟨by rfl, ?_⟩) (⟨ct, cx0, cx1, cx2, cr0, cr1, cr2, cr3⟩) ?_
    rotate_left 1
    · (intro w hSw; (try dsimp only at hSw); go_simp; try with_reducible rfl)
    try simp only [Act.put, List.setIfInBounds_toArray, List.set_cons_zero, List.set_cons_succ]
    refine wpAnyZ_take (i := 9) (v := ?_) rfl (by kernel_rfl) (fun _ _ _ h => h) (Or.inl ⟨by rfl, ?_⟩) (⟨ct, cx0, cx1, cx2, cr0, cr1, cr2, cr3⟩) ?_
    rotate_left 1
    · (intro w hSw; (try dsimp only at hSw); go_simp; try with_reducible rfl)
    try simp only [Act.put, List.setIfInBounds_toArray, List.set_cons_zero, List.set_cons_succ]
    refine wpAnyZ_one (i := 10) (by kernel_rfl) (ReadyZ.mk rfl (fun K hK => ?_))
    go_simp
    go_at_call 13
    refine (Calls.val (iValidExits_any B D m c _ d xs L _ S S2) (by rw [hv])).mono ?_
    rintro e u3 ⟨rfl, hle⟩
    replace ct := (hle.cell zt).trans ct
    replace cx0 := (hle.cell zx0).trans cx0
    replace cx1 := (hle.cell zx1).trans cx1
    replace cx2 := (hle.cell zx2).trans cx2
    replace cr0 := (hle.cell zr0).trans cr0
    replace cr1 := (hle.cell zr1).trans cr1
    replace cr2 := (hle.cell zr2).trans cr2
    replace cr3 := (hle.cell zr3).trans cr3
    replace zt := Nat.lt_of_lt_of_le zt hle.size
    replace zx0 := Nat.lt_of_lt_of_le zx0 hle.size
    replace zx1 := Nat.lt_of_lt_of_le zx1 hle.size
    replace zx2 := Nat.lt_of_lt_of_le zx2 hle.size
    replace zr0 := Nat.lt_of_lt_of_le zr0 hle.size
    replace zr1 := Nat.lt_of_lt_of_le zr1 hle.size
    replace zr2 := Nat.lt_of_lt_of_le zr2 hle.size
    replace zr3 := Nat.lt_of_lt_of_le zr3 hle.size
    replace S := S.le hle
    replace L0 := L0.trans hle
    replace S2 := S2.le hle
    replace S3 := S3.le hle
    replace S4 := S4.le hle
    clear hle
    refine hK.out _ _ (fun _ => ⟨ct, cx0, cx1, cx2, cr0, cr1, cr2, cr3⟩) ?_
    clear hK K
    try simp only [Act.put, List.setIfInBounds_toArray, List.set_cons_zero, List.set_cons_succ]
    refine wpAnyZ_take (i := 11) (v := ?_) rfl (by kernel_rfl) (fun _ _ _ h => h) (Or.inl ⟨by rfl, ?_⟩) (⟨ct, cx0, cx1, cx2, cr0, cr1, cr2, cr3⟩) ?_
    rotate_left 1
    · (intro w hSw; (try dsimp only at hSw); go_simp; try with_reducible rfl)
    try simp only [Act.put, List.setIfInBounds_toArray, List.set_cons_zero, List.set_cons_succ]
    refine wpAnyZ_take (i := 12) (v := ?_) rfl (by kernel_rfl) (fun _ _ _ h => h) (Or.inl ⟨by rfl, ?_⟩) (⟨ct, cx0, cx1, cx2, cr0, cr1, cr2, cr3⟩) ?_
    rotate_left 1
    · (intro w hSw; (try dsimp only at hSw); go_simp; try with_reducible rfl)
    try simp only [Act.put, List.setIfInBounds_toArray, List.set_cons_zero, List.set_cons_succ]
    refine wpAnyZ_take (i := 13) (v := ?_) rfl (by kernel_rfl) (fun _ _ _ h => h) (Or.inl ⟨by rfl, ?_⟩) (⟨ct, cx0, cx1, cx2, cr0, cr1, cr2, cr3⟩) ?_
    rotate_left 1
    · (intro w hSw; (try dsimp only at hSw); go_simp; try with_reducible rfl)
    try simp only [Act.put, List.setIfInBounds_toArray, List.set_cons_zero, List.set_cons_succ]
    refine wpAnyZ_take (i := 14) (v := ?_) rfl (by kernel_rfl) (fun _ _ _ h => h) (Or.inl ⟨by rfl, ?_⟩) (⟨ct, cx0, cx1, cx2, cr0, cr1, cr2, cr3⟩) ?_
    rotate_left 1
    · (intro w hSw; (try dsimp only at hSw); go_simp; try with_reducible rfl)
    try simp only [Act.put, List.setIfInBounds_toArray, List.set_cons_zero, List.set_cons_succ]
    refine wpAnyZ_take (i := 15) (v := ?_) rfl (by kernel_rfl) (fun _ _ _ h => h) (Or.inl ⟨by rfl, ?_⟩) (⟨ct, cx0, cx1, cx2, cr0, cr1, cr2, cr3⟩) ?_
    rotate_left 1
    · (intro w hSw; (try dsimp only at hSw); go_simp; try with_reducible rfl)
    try simp only [Act.put, List.setIfInBounds_toArray, List.set_cons_zero, List.set_cons_succ]
    refine wpAnyZ_take (i := 16) (v := ?_) rfl (by kernel_rfl) (fun _ _ _ h => h) (Or.inl ⟨by rfl, ?_⟩) (⟨ct, cx0, cx1, cx2, cr0, cr1, cr2, cr3⟩) ?_
    rotate_left 1
    · (intro w hSw; (try dsimp only at hSw); go_simp; try with_reducible rfl)
    try simp only [Act.put, List.setIfInBounds_toArray, List.set_cons_zero, List.set_cons_succ]
    refine wpAnyZ_take (i := 17) (v := ?_) rfl (by kernel_rfl) (fun _ _ _ h => h) (Or.inl ⟨by rfl, ?_⟩) (⟨ct, cx0, cx1, cx2, cr0, cr1, cr2, cr3⟩) ?_
    rotate_left 1
    · (intro w hSw; (try dsimp only at hSw); go_simp; try with_reducible rfl)
    try simp only [Act.put, List.setIfInBounds_toArray, List.set_cons_zero, List.set_cons_succ]
    refine wpAnyZ_take (i := 18) (v := undef) rfl (by kernel_rfl) (fun _ _ _ h => h) (Or.inr ⟨?_, rfl⟩) (⟨ct, cx0, cx1, cx2, cr0, cr1, cr2, cr3⟩) ?_
    · rfl
    try simp only [Act.put, List.setIfInBounds_toArray, List.set_cons_zero, List.set_cons_succ]
    refine wpAnyZ_take (i := 19) (v := undef) rfl (by kernel_rfl) (fun _ _ _ h => h) (Or.inr ⟨?_, rfl⟩) (⟨ct, cx0, cx1, cx2, cr0, cr1, cr2, cr3⟩) ?_
    · rfl
    try simp only [Act.put, List.setIfInBounds_toArray, List.set_cons_zero, List.set_cons_succ]
    refine wpAnyZ_take (i := 20) (v := undef) rfl (by kernel_rfl) (fun _ _ _ h => h) (Or.inr ⟨?_, rfl⟩) (⟨ct, cx0, cx1, cx2, cr0, cr1, cr2, cr3⟩) ?_
    · rfl
    try simp only [Act.put, List.setIfInBounds_toArray, List.set_cons_zero, List.set_cons_succ]
    refine wpAnyZ_take (i := 21) (v := ?_) rfl (by kernel_rfl) (fun _ _ _ h => h) (Or.inl ⟨by rfl, ?_⟩) (⟨ct, cx0, cx1, cx2, cr0, cr1, cr2, cr3⟩) ?_
    rotate_left 1
    · (intro w hSw; (try dsimp only at hSw); go_simp; try with_reducible rfl)
    try simp only [Act.put, List.setIfInBounds_toArray, List.set_cons_zero, List.set_cons_succ]
    refine wpAnyZ_take (i := 22) (v := ?_) rfl (by kernel_rfl) (fun _ _ _ h => h) (Or.inl ⟨by rfl, ?_⟩) (⟨ct, cx0, cx1, cx2, cr0, cr1, cr2, cr3⟩) ?_
    rotate_left 1
    · (intro w hSw; (try dsimp only at hSw); go_simp; try with_reducible rfl)
    try simp only [Act.put, List.setIfInBounds_toArray, List.set_cons_zero, List.set_cons_succ]
    refine wpAnyZ_take (i := 23) (v := undef) rfl (by kernel_rfl) (fun _ _ _ h => h) (Or.inr ⟨?_, rfl⟩) (⟨ct, cx0, cx1, cx2, cr0, cr1, cr2, cr3⟩) ?_
    · rfl
    try simp only [Act.put, List.setIfInBounds_toArray, List.set_cons_zero, List.set_cons_succ]
    refine wpAnyZ_take (i := 24) (v := undef) rfl (by kernel_rfl) (fun _ _ _ h => h) (Or.inr ⟨?_, rfl⟩) (⟨ct, cx0, cx1, cx2, cr0, cr1, cr2, cr3⟩) ?_
    · rfl
    try simp only [Act.put, List.setIfInBounds_toArray, List.set_cons_zero, List.set_cons_succ]
    refine wpAnyZ_take (i := 25) (v := undef) rfl (by kernel_rfl) (fun _ _ _ h => h) (Or.inr ⟨?_, rfl⟩) (⟨ct, cx0, cx1, cx2, cr0, cr1, cr2, cr3⟩) ?_
    · rfl
    try simp only [Act.put, List.setIfInBounds_toArray, List.set_cons_zero, List.set_cons_succ]
    refine wpAnyZ_take (i := 26) (v := ?_) rfl (by kernel_rfl) (fun _ _ _ h => h) (Or.inl ⟨by rfl, ?_⟩) (⟨ct, cx0, cx1, cx2, cr0, cr1, cr2, cr3⟩) ?_
    rotate_left 1
    · (intro w hSw; (try dsimp only at hSw); go_simp; try with_reducible rfl)
    try simp only [Act.put, List.setIfInBounds_toArray, List.set_cons_zero, List.set_cons_succ]
    refine wpAnyZ_done (by kernel_rfl) ?_ _
    refine NoPanic.normal ?_
    go_wp2_with fail
    replace ct := (show u3.drew.cell? _ = _ from ct)
    replace zt := (show _ < u3.drew.heap.size from zt)
    replace cx0 := (show u3.drew.cell? _ = _ from cx0)
    replace zx0 := (show _ < u3.drew.heap.size from zx0)
    replace cx1 := (show u3.drew.cell? _ = _ from cx1)
    replace zx1 := (show _ < u3.drew.heap.size from zx1)
    replace cx2 := (show u3.drew.cell? _ = _ from cx2)
    replace zx2 := (show _ < u3.drew.heap.size from zx2)
    replace cr0 := (show u3.drew.cell? _ = _ from cr0)
    replace zr0 := (show _ < u3.drew.heap.size from zr0)
    replace cr1 := (show u3.drew.cell? _ = _ from cr1)
    replace zr1 := (show _ < u3.drew.heap.size from zr1)
    replace cr2 := (show u3.drew.cell? _ = _ from cr2)
    replace zr2 := (show _ < u3.drew.heap.size from zr2)
    replace cr3 := (show u3.drew.cell? _ = _ from cr3)
    replace zr3 := (show _ < u3.drew.heap.size from zr3)
    replace S := S.le (Le.refl _).drew
    replace L0 := L0.drew
    replace S2 := S2.le (Le.refl _).drew
    replace S3 := S3.le (Le.refl _).drew
    replace S4 := S4.le (Le.refl _).drew
    refine wp_region_noPanic ?_
    refine wp_region_Z (fun w' => w'.cell? ⟨w1.heap.size, 0, none⟩ = some (.slice B m c) ∧ w'.cell? ⟨w1.heap.size + 1, 0, none⟩ = some (.bool true) ∧ w'.cell? ⟨w1.heap.size + 1, 1, none⟩ = some (.int .i64 cl) ∧ w'.cell? ⟨w1.heap.size + 1, 2, none⟩ = some (.int .i64 k) ∧ w'.cell? ⟨w3.heap.size, 0, none⟩ = some (.slice A0 (ceL xs L true cl k).length q0) ∧ w'.cell? ⟨w3.heap.size, 1, none⟩ = some (.int .i64 (ceE xs L true cl k)) ∧ w'.cell? ⟨w3.heap.size, 2, none⟩ = some (.int .i64 (ceV xs L true cl k)) ∧ w'.cell? ⟨w3.heap.size, 3, none⟩ = some (.slice A1 (ceH xs L true cl k).length q1)) [] (by kernel_rfl) ?_
    generalize u3.drew = Y at *
    refine wpAnyZ_take (i := 0) (v := ?_) rfl (by kernel_rfl) (fun _ _ _ h => h) (Or.inl ⟨by rfl, ?_⟩) (⟨ct, cx0, cx1, cx2, cr0, cr1, cr2, cr3⟩) ?_
    rotate_left 1
    · (intro w hSw; (try dsimp only at hSw); go_simp; try with_reducible rfl)
    try simp only [Act.put, List.setIfInBounds_toArray, List.set_cons_zero, List.set_cons_succ]
    refine wpAnyZ_take (i := 1) (v := ?_) rfl (by kernel_rfl) (fun _ _ _ h => h) (Or.inl ⟨by rfl, ?_⟩) (⟨ct, cx0, cx1, cx2, cr0, cr1, cr2, cr3⟩) ?_
    rotate_left 1
    · (intro w hSw; (try dsimp only at hSw); go_simp; try with_reducible rfl)
    try simp only [Act.put, List.setIfInBounds_toArray, List.set_cons_zero, List.set_cons_succ]
    refine wpAnyZ_take (i := 2) (v := ?_) rfl (by kernel_rfl) (fun _ _ _ h => h) (Or.inl ⟨by rfl, ?_⟩) (⟨ct, cx0, cx1, cx2, cr0, cr1, cr2, cr3⟩) ?_
    rotate_left 1
    · (intro w hSw; (try dsimp only at hSw); go_simp; try with_reducible rfl)
    try simp only [Act.put, List.setIfInBounds_toArray, List.set_cons_zero, List.set_cons_succ]
    refine wpAnyZ_take (i := 3) (v := ?_) rfl (by kernel_rfl) (fun _ _ _ h => h) (Or.inl ⟨by rfl, ?_⟩) (⟨ct, cx0, cx1, cx2, cr0, cr1, cr2, cr3⟩) ?_
    rotate_left 1
    · (intro w hSw; (try dsimp only at hSw); go_simp; try with_reducible rfl)
    try simp only [Act.put, List.setIfInBounds_toArray, List.set_cons_zero, List.set_cons_succ]
    refine wpAnyZ_one (i := 4) (by kernel_rfl) (ReadyZ.mk rfl (fun K hK => ?_))
    go_simp
    go_at_call 12
    refine (Calls.ce (sCloseExits_any B D m c _ d xs L true cl k hcl hkk _ S S2)).mono ?_
    rintro e y1 ⟨A2, q2, A3, q3, rfl, S5, S6, hle⟩
    replace ct := (hle.cell zt).trans ct
    replace cx0 := (hle.cell zx0).trans cx0
    replace cx1 := (hle.cell zx1).trans cx1
    replace cx2 := (hle.cell zx2).trans cx2
    replace cr0 := (hle.cell zr0).trans cr0
    replace cr1 := (hle.cell zr1).trans cr1
    replace cr2 := (hle.cell zr2).trans cr2
    replace cr3 := (hle.cell zr3).trans cr3
    replace zt := Nat.lt_of_lt_of_le zt hle.size
    replace zx0 := Nat.lt_of_lt_of_le zx0 hle.size
    replace zx1 := Nat.lt_of_lt_of_le zx1 hle.size
    replace zx2 := Nat.lt_of_lt_of_le zx2 hle.size
    replace zr0 := Nat.lt_of_lt_of_le zr0 hle.size
    replace zr1 := Nat.lt_of_lt_of_le zr1 hle.size
    replace zr2 := Nat.lt_of_lt_of_le zr2 hle.size
    replace zr3 := Nat.lt_of_lt_of_le zr3 hle.size
    replace S := S.le hle
    replace L0 := L0.trans hle
    replace S2 := S2.le hle
    replace S3 := S3.le hle
    replace S4 := S4.le hle
    clear hle
    refine hK.out _ _ (fun _ => ⟨ct, cx0, cx1, cx2, cr0, cr1, cr2, cr3⟩) ?_
    clear hK K
    try simp only [Act.put, List.setIfInBounds_toArray, List.set_cons_zero, List.set_cons_succ]
    refine wpAnyZ_one (i := 5) (by kernel_rfl) (ReadyZ.mk rfl (fun K hK => ?_))
    go_simp
    go_at_call 11
    refine (equalResult_self _ _ _ _ _ _ _ _ _ _ (ceL xs L true cl k) (ceH xs L true cl k) _ _ _ S3 S5 S4 S6).mono ?_
    rintro e y2 ⟨rfl, hle⟩
    replace ct := (hle.cell zt).trans ct
    replace cx0 := (hle.cell zx0).trans cx0
    replace cx1 := (hle.cell zx1).trans cx1
    replace cx2 := (hle.cell zx2).trans cx2
    replace cr0 := (hle.cell zr0).trans cr0
    replace cr1 := (hle.cell zr1).trans cr1
    replace cr2 := (hle.cell zr2).trans cr2
    replace cr3 := (hle.cell zr3).trans cr3
    replace zt := Nat.lt_of_lt_of_le zt hle.size
    replace zx0 := Nat.lt_of_lt_of_le zx0 hle.size
    replace zx1 := Nat.lt_of_lt_of_le zx1 hle.size
    replace zx2 := Nat.lt_of_lt_of_le zx2 hle.size
    replace zr0 := Nat.lt_of_lt_of_le zr0 hle.size
    replace zr1 := Nat.lt_of_lt_of_le zr1 hle.size
    replace zr2 := Nat.lt_of_lt_of_le zr2 hle.size
    replace zr3 := Nat.lt_of_lt_of_le zr3 hle.size
    replace S := S.le hle
    replace L0 := L0.trans hle
    replace S2 := S2.le hle
    replace S3 := S3.le hle
    replace S4 := S4.le hle
    clear hle S5 S6
    refine hK.out _ _ (fun _ => ⟨ct, cx0, cx1, cx2, cr0, cr1, cr2, cr3⟩) ?_
    clear hK K
    try simp only [Act.put, List.setIfInBounds_toArray, List.set_cons_zero, List.set_cons_succ]
    refine wpAnyZ_take (i := 6) (v := ?_) rfl (by kernel_rfl) (fun _ _ _ h => h) (Or.inl ⟨by rfl, ?_⟩) (⟨ct, cx0, cx1, cx2, cr0, cr1, cr2, cr3⟩) ?_
    rotate_left 1
    · (intro w hSw; (try dsimp only at hSw); go_simp; try with_reducible rfl)
    try simp only [Act.put, List.setIfInBounds_toArray, List.set_cons_zero, List.set_cons_succ]
    refine wpAnyZ_done (by kernel_rfl) ?_ _
    refine NoPanic.normal ?_
    go_wp2
    go_ret
    exact ⟨rfl, L0⟩
  by_cases h1 : cl = 0
  rotate_left
  · have h1b : (cl != 0) = true := by simpa using h1
    replace ct := (show W3.drew.cell? _ = _ from ct)
    replace zt := (show _ < W3.drew.heap.size from zt)
    replace cx0 := (show W3.drew.cell? _ = _ from cx0)
    replace zx0 := (show _ < W3.drew.heap.size from zx0)
    replace cx1 := (show W3.drew.cell? _ = _ from cx1)
    replace zx1 := (show _ < W3.drew.heap.size from zx1)
    replace cx2 := (show W3.drew.cell? _ = _ from cx2)
    replace zx2 := (show _ < W3.drew.heap.size from zx2)
    replace cr0 := (show W3.drew.cell? _ = _ from cr0)
    replace zr0 := (show _ < W3.drew.heap.size from zr0)
    replace cr1 := (show W3.drew.cell? _ = _ from cr1)
    replace zr1 := (show _ < W3.drew.heap.size from zr1)
    replace cr2 := (show W3.drew.cell? _ = _ from cr2)
    replace zr2 := (show _ < W3.drew.heap.size from zr2)
    replace cr3 := (show W3.drew.cell? _ = _ from cr3)
    replace zr3 := (show _ < W3.drew.heap.size from zr3)
    replace S := S.le (Le.refl _).drew
    replace L0 := L0.drew
    replace S2 := S2.le (Le.refl _).drew
    replace S3 := S3.le (Le.refl _).drew
    replace S4 := S4.le (Le.refl _).drew
    refine wp_region_noPanic ?_
    refine wp_region_Z (fun w' => w'.cell? ⟨w1.heap.size, 0, none⟩ = some (.slice B m c) ∧ w'.cell? ⟨w1.heap.size + 1, 0, none⟩ = some (.bool false) ∧ w'.cell? ⟨w1.heap.size + 1, 1, none⟩ = some (.int .i64 cl) ∧ w'.cell? ⟨w1.heap.size + 1, 2, none⟩ = some (.int .i64 k) ∧ w'.cell? ⟨w3.heap.size, 0, none⟩ = some (.slice A0 (ceL xs L false cl k).length q0) ∧ w'.cell? ⟨w3.heap.size, 1, none⟩ = some (.int .i64 (ceE xs L false cl k)) ∧ w'.cell? ⟨w3.heap.size, 2, none⟩ = some (.int .i64 (ceV xs L false cl k)) ∧ w'.cell? ⟨w3.heap.size, 3, none⟩ = some (.slice A1 (ceH xs L false cl k).length q1)) [] (by kernel_rfl) ?_
    generalize W3.drew = U at *
    refine wpAnyZ_take (i := 0) (v := ?_) rfl (by kernel_rfl) (fun _ _ _ h => h) (Or.inl ⟨by rfl, ?_⟩) (⟨ct, cx0, cx1, cx2, cr0, cr1, cr2, cr3⟩) ?_
    rotate_left 1
    · (intro w hSw; (try dsimp only at hSw); go_simp; try with_reducible rfl)
    try simp only [Act.put, List.setIfInBounds_toArray, List.set_cons_zero, List.set_cons_succ]
    refine wpAnyZ_take (i := 1) (v := ?_) rfl (by kernel_rfl) (fun _ _ _ h => h) (Or.inl ⟨by rfl, ?_⟩) (⟨ct, cx0, cx1, cx2, cr0, cr1, cr2, cr3⟩) ?_
    rotate_left 1
    · (intro w hSw; (try dsimp only at hSw); go_simp; try with_reducible rfl)
    try simp only [Act.put, List.setIfInBounds_toArray, List.set_cons_zero, List.set_cons_succ]
    refine wpAnyZ_take (i := 2) (v := ?_) rfl (by kernel_rfl) (fun _ _ _ h => h) (Or.inl ⟨by rfl, ?_⟩) (⟨ct, cx0, cx1, cx2, cr0, cr1, cr2, cr3⟩) ?_
    rotate_left 1
    · (intro w hSw; (try dsimp only at hSw); go_simp; try with_reducible rfl)
    try simp only [Act.put, List.setIfInBounds_toArray, List.set_cons_zero, List.set_cons_succ]
    refine wpAnyZ_take (i := 3) (v := ?_) rfl (by kernel_rfl) (fun _ _ _ h => h) (Or.inl ⟨by rfl, ?_⟩) (⟨ct, cx0, cx1, cx2, cr0, cr1, cr2, cr3⟩) ?_
    rotate_left 1
    · (intro w hSw; (try dsimp only at hSw); go_simp; try with_reducible rfl)
    try simp only [Act.put, List.setIfInBounds_toArray, List.set_cons_zero, List.set_cons_succ]
    refine wpAnyZ_one (i := 4) (by kernel_rfl) (ReadyZ.mk rfl (fun K hK => ?_))
    go_simp
    go_at_call 12
    refine (Calls.ce (sCloseExits_any B D m c _ d xs L false cl k hcl hkk _ S S2)).mono ?_
    rintro e u1 ⟨A2, q2, A3, q3, rfl, S5, S6, hle⟩
    replace ct := (hle.cell zt).trans ct
    replace cx0 := (hle.cell zx0).trans cx0
    replace cx1 := (hle.cell zx1).trans cx1
    replace cx2 := (hle.cell zx2).trans cx2
    replace cr0 := (hle.cell zr0).trans cr0
    replace cr1 := (hle.cell zr1).trans cr1
    replace cr2 := (hle.cell zr2).trans cr2
    replace cr3 := (hle.cell zr3).trans cr3
    replace zt := Nat.lt_of_lt_of_le zt hle.size
    replace zx0 := Nat.lt_of_lt_of_le zx0 hle.size
    replace zx1 := Nat.lt_of_lt_of_le zx1 hle.size
    replace zx2 := Nat.lt_of_lt_of_le zx2 hle.size
    replace zr0 := Nat.lt_of_lt_of_le zr0 hle.size
    replace zr1 := Nat.lt_of_lt_of_le zr1 hle.size
    replace zr2 := Nat.lt_of_lt_of_le zr2 hle.size
    replace zr3 := Nat.lt_of_lt_of_le zr3 hle.size
    replace S := S.le hle
    replace L0 := L0.trans hle
    replace S2 := S2.le hle
    replace S3 := S3.le hle
    replace S4 := S4.le hle
    clear hle
    refine hK.out _ _ (fun _ => ⟨ct, cx0, cx1, cx2, cr0, cr1, cr2, cr3⟩) ?_
    clear hK K
    try simp only [Act.put, List.setIfInBounds_toArray, List.set_cons_zero, List.set_cons_succ]
    refine wpAnyZ_one (i := 5) (by kernel_rfl) (ReadyZ.mk rfl (fun K hK => ?_))
    go_simp
    go_at_call 11
    refine (equalResult_self _ _ _ _ _ _ _ _ _ _ (ceL xs L false cl k) (ceH xs L false cl k) _ _ _ S3 S5 S4 S6).mono ?_
    rintro e u2 ⟨rfl, hle⟩
    replace ct := (hle.cell zt).trans ct
    replace cx0 := (hle.cell zx0).trans cx0
    replace cx1 := (hle.cell zx1).trans cx1
    replace cx2 := (hle.cell zx2).trans cx2
    replace cr0 := (hle.cell zr0).trans cr0
    replace cr1 := (hle.cell zr1).trans cr1
    replace cr2 := (hle.cell zr2).trans cr2
    replace cr3 := (hle.cell zr3).trans cr3
    replace zt := Nat.lt_of_lt_of_le zt hle.size
    replace zx0 := Nat.lt_of_lt_of_le zx0 hle.size
    replace zx1 := Nat.lt_of_lt_of_le zx1 hle.size
    replace zx2 := Nat.lt_of_lt_of_le zx2 hle.size
    replace zr0 := Nat.lt_of_lt_of_le zr0 hle.size
    replace zr1 := Nat.lt_of_lt_of_le zr1 hle.size
    replace zr2 := Nat.lt_of_lt_of_le zr2 hle.size
    replace zr3 := Nat.lt_of_lt_of_le zr3 hle.size
    replace S := S.le hle
    replace L0 := L0.trans hle
    replace S2 := S2.le hle
    replace S3 := S3.le hle
    replace S4 := S4.le hle
    clear hle S5 S6
    refine hK.out _ _ (fun _ => ⟨ct, cx0, cx1, cx2, cr0, cr1, cr2, cr3⟩) ?_
    clear hK K
    try simp only [Act.put, List.setIfInBounds_toArray, List.set_cons_zero, List.set_cons_succ]
    refine wpAnyZ_take (i := 6) (v := ?_) rfl (by kernel_rfl) (fun _ _ _ h => h) (Or.inl ⟨by rfl, ?_⟩) (⟨ct, cx0, cx1, cx2, cr0, cr1, cr2, cr3⟩) ?_
    rotate_left 1
    · (intro w hSw; (try dsimp only at hSw); go_simp; try with_reducible rfl)
    try simp only [Act.put, List.setIfInBounds_toArray, List.set_cons_zero, List.set_cons_succ]
    refine wpAnyZ_take (i := 7) (v := ?_) rfl (by kernel_rfl) (fun _ _ _ h => h) (Or.inl ⟨by rfl, ?_⟩) (⟨ct, cx0, cx1, cx2, cr0, cr1, cr2, cr3⟩) ?_
    rotate_left 1
    · (intro w hSw; (try dsimp only at hSw); go_simp; try with_reducible rfl)
    try simp only [Act.put, List.setIfInBounds_toArray, List.set_cons_zero, List.set_cons_succ]
    refine wpAnyZ_take (i := 8) (v := ?_) rfl (by kernel_rfl) (fun _ _ _ h => h) (Or.inl ⟨by rfl, ?_⟩) (⟨ct, cx0, cx1, cx2, cr0, cr1, cr2, cr3⟩) ?_
    rotate_left 1
    · (intro w hSw; (try dsimp only at hSw); go_simp; try with_reducible rfl)
    try simp only [Act.put, List.setIfInBounds_toArray, List.set_cons_zero, List.set_cons_succ]
    refine wpAnyZ_take (i := 9) (v := ?_) rfl (by kernel_rfl) (fun _ _ _ h => h) (Or.inl ⟨by rfl, ?_⟩) (⟨ct, cx0, cx1, cx2, cr0, cr1, cr2, cr3⟩) ?_
    rotate_left 1
    · (intro w hSw; (try dsimp only at hSw); go_simp; try with_reducible rfl)
    try simp only [Act.put, List.setIfInBounds_toArray, List.set_cons_zero, List.set_cons_succ]
    refine wpAnyZ_one (i := 10) (by kernel_rfl) (ReadyZ.mk rfl (fun K hK => ?_))
    go_simp
    go_at_call 13
    refine (Calls.val (iValidExits_any B D m c _ d xs L _ S S2) (by rw [hv])).mono ?_
    rintro e u3 ⟨rfl, hle⟩
    replace ct := (hle.cell zt).trans ct
    replace cx0 := (hle.cell zx0).trans cx0
    replace cx1 := (hle.cell zx1).trans cx1
    replace cx2 := (hle.cell zx2).trans cx2
    replace cr0 := (hle.cell zr0).trans cr0
    replace cr1 := (hle.cell zr1).trans cr1
    replace cr2 := (hle.cell zr2).trans cr2
    replace cr3 := (hle.cell zr3).trans cr3
    replace zt := Nat.lt_of_lt_of_le zt hle.size
    replace zx0 := Nat.lt_of_lt_of_le zx0 hle.size
    replace zx1 := Nat.lt_of_lt_of_le zx1 hle.size
    replace zx2 := Nat.lt_of_lt_of_le zx2 hle.size
    replace zr0 := Nat.lt_of_lt_of_le zr0 hle.size
    replace zr1 := Nat.lt_of_lt_of_le zr1 hle.size
    replace zr2 := Nat.lt_of_lt_of_le zr2 hle.size
    replace zr3 := Nat.lt_of_lt_of_le zr3 hle.size
    replace S := S.le hle
    replace L0 := L0.trans hle
    replace S2 := S2.le hle
    replace S3 := S3.le hle
    replace S4 := S4.le hle
    clear hle
    refine hK.out _ _ (fun _ => ⟨ct, cx0, cx1, cx2, cr0, cr1, cr2, cr3⟩) ?_
    clear hK K
    try simp only [Act.put, List.setIfInBounds_toArray, List.set_cons_zero, List.set_cons_succ]
    refine wpAnyZ_take (i := 11) (v := ?_) rfl (by kernel_rfl) (fun _ _ _ h => h) (Or.inl ⟨by rfl, ?_⟩) (⟨ct, cx0, cx1, cx2, cr0, cr1, cr2, cr3⟩) ?_
    rotate_left 1
    · (intro w hSw; (try dsimp only at hSw); go_simp; try with_reducible rfl)
    try simp only [Act.put, List.setIfInBounds_toArray, List.set_cons_zero, List.set_cons_succ]
    refine wpAnyZ_take (i := 12) (v := ?_) rfl (by kernel_rfl) (fun _ _ _ h => h) (Or.inl ⟨by rfl, ?_⟩) (⟨ct, cx0, cx1, cx2, cr0, cr1, cr2, cr3⟩) ?_
    rotate_left 1
    · (intro w hSw; (try dsimp only at hSw); go_simp; try with_reducible rfl)
    try simp only [Act.put, List.setIfInBounds_toArray, List.set_cons_zero, List.set_cons_succ]
    refine wpAnyZ_take (i := 13) (v := ?_) rfl (by kernel_rfl) (fun _ _ _ h => h) (Or.inl ⟨by rfl, ?_⟩) (⟨ct, cx0, cx1, cx2, cr0, cr1, cr2, cr3⟩) ?_
    rotate_left 1
    · (intro w hSw; (try dsimp only at hSw); go_simp; try with_reducible rfl)
    try simp only [Act.put, List.setIfInBounds_toArray, List.set_cons_zero, List.set_cons_succ]
    refine wpAnyZ_take (i := 14) (v := ?_) rfl (by kernel_rfl) (fun _ _ _ h => h) (Or.inl ⟨by rfl, ?_⟩) (⟨ct, cx0, cx1, cx2, cr0, cr1, cr2, cr3⟩) ?_
    rotate_left 1
    · (intro w hSw; (try dsimp only at hSw); go_simp; try with_reducible rfl)
    try simp only [Act.put, List.setIfInBounds_toArray, List.set_cons_zero, List.set_cons_succ]
    refine wpAnyZ_take (i := 15) (v := ?_) rfl (by kernel_rfl) (fun _ _ _ h => h) (Or.inl ⟨by rfl, ?_⟩) (⟨ct, cx0, cx1, cx2, cr0, cr1, cr2, cr3⟩) ?_
    rotate_left 1
    · (intro w hSw; (try dsimp only at hSw); go_simp; try with_reducible rfl)
    try simp only [Act.put, List.setIfInBounds_toArray, List.set_cons_zero, List.set_cons_succ]
    refine wpAnyZ_take (i := 16) (v := ?_) rfl (by kernel_rfl) (fun _ _ _ h => h) (Or.inl ⟨by rfl, ?_⟩) (⟨ct, cx0, cx1, cx2, cr0, cr1, cr2, cr3⟩) ?_
    rotate_left 1
    · (intro w hSw; (try dsimp only at hSw); go_simp; try with_reducible rfl)
    try simp only [Act.put, List.setIfInBounds_toArray, List.set_cons_zero, List.set_cons_succ]
    refine wpAnyZ_take (i := 17) (v := ?_) rfl (by kernel_rfl) (fun _ _ _ h => h) (Or.inl ⟨by rfl, ?_⟩) (⟨ct, cx0, cx1, cx2, cr0, cr1, cr2, cr3⟩) ?_
    rotate_left 1
    · (intro w hSw; (try dsimp only at hSw); go_simp; try with_reducible rfl)
    try simp only [Act.put, List.setIfInBounds_toArray, List.set_cons_zero, List.set_cons_succ]
    refine wpAnyZ_take (i := 18) (v := ?_) rfl (by kernel_rfl) (fun _ _ _ h => h) (Or.inl ⟨by rfl, ?_⟩) (⟨ct, cx0, cx1, cx2, cr0, cr1, cr2, cr3⟩) ?_
    rotate_left 1
    · (intro w hSw; (try dsimp only at hSw); go_simp; try with_reducible rfl)
    try simp only [Act.put, List.setIfInBounds_toArray, List.set_cons_zero, List.set_cons_succ]
    refine wpAnyZ_take (i := 19) (v := ?_) rfl (by kernel_rfl) (fun _ _ _ h => h) (Or.inl ⟨by rfl, ?_⟩) (⟨ct, cx0, cx1, cx2, cr0, cr1, cr2, cr3⟩) ?_
    rotate_left 1
    · (intro w hSw; (try dsimp only at hSw); go_simp; try with_reducible rfl)
    try simp only [Act.put, List.setIfInBounds_toArray, List.set_cons_zero, List.set_cons_succ]
    refine wpAnyZ_take (i := 20) (v := ?_) rfl (by kernel_rfl) (fun _ _ _ h => h) (Or.inl ⟨by rfl, ?_⟩) (⟨ct, cx0, cx1, cx2, cr0, cr1, cr2, cr3⟩) ?_
    rotate_left 1
    · (intro w hSw; (try dsimp only at hSw); go_simp; try with_reducible rfl)
    try simp only [Act.put, List.setIfInBounds_toArray, List.set_cons_zero, List.set_cons_succ]
    refine wpAnyZ_take (i := 21) (v := ?_) rfl (by kernel_rfl) (fun _ _ _ h => h) (Or.inl ⟨by rfl, ?_⟩) (⟨ct, cx0, cx1, cx2, cr0, cr1, cr2, cr3⟩) ?_
    rotate_left 1
    · (intro w hSw; (try dsimp only at hSw); go_simp; try with_reducible rfl)
    try simp only [Act.put, List.setIfInBounds_toArray, List.set_cons_zero, List.set_cons_succ]
    refine wpAnyZ_take (i := 22) (v := ?_) rfl (by kernel_rfl) (fun _ _ _ h => h) (Or.inl ⟨by rfl, ?_⟩) (⟨ct, cx0, cx1, cx2, cr0, cr1, cr2, cr3⟩) ?_
    rotate_left 1
    · (intro w hSw; (try dsimp only at hSw); go_simp; try with_reducible rfl)
    try simp only [Act.put, List.setIfInBounds_toArray, List.set_cons_zero, List.set_cons_succ]
    refine wpAnyZ_take (i := 23) (v := undef) rfl (by kernel_rfl) (fun _ _ _ h => h) (Or.inr ⟨?_, rfl⟩) (⟨ct, cx0, cx1, cx2, cr0, cr1, cr2, cr3⟩) ?_
    · rfl
    try simp only [Act.put, List.setIfInBounds_toArray, List.set_cons_zero, List.set_cons_succ]
    refine wpAnyZ_take (i := 24) (v := undef) rfl (by kernel_rfl) (fun _ _ _ h => h) (Or.inr ⟨?_, rfl⟩) (⟨ct, cx0, cx1, cx2, cr0, cr1, cr2, cr3⟩) ?_
    · rfl
    try simp only [Act.put, List.setIfInBounds_toArray, List.set_cons_zero, List.set_cons_succ]
    refine wpAnyZ_take (i := 25) (v := undef) rfl (by kernel_rfl) (fun _ _ _ h => h) (Or.inr ⟨?_, rfl⟩) (⟨ct, cx0, cx1, cx2, cr0, cr1, cr2, cr3⟩) ?_
    · rfl
    try simp only [Act.put, List.setIfInBounds_toArray, List.set_cons_zero, List.set_cons_succ]
    refine wpAnyZ_take (i := 26) (v := ?_) rfl (by kernel_rfl) (fun _ _ _ h => h) (Or.inl ⟨by rfl, ?_⟩) (⟨ct, cx0, cx1, cx2, cr0, cr1, cr2, cr3⟩) ?_
    rotate_left 1
    · (intro w hSw; (try dsimp only at hSw); go_simp; try with_reducible rfl)
    try simp only [Act.put, List.setIfInBounds_toArray, List.set_cons_zero, List.set_cons_succ]
    refine wpAnyZ_done (by kernel_rfl) ?_ _
    refine NoPanic.normal ?_
    go_wp2_with fail
    replace ct := (show u3.drew.cell? _ = _ from ct)
    replace zt := (show _ < u3.drew.heap.size from zt)
    replace cx0 := (show u3.drew.cell? _ = _ from cx0)
    replace zx0 := (show _ < u3.drew.heap.size from zx0)
    replace cx1 := (show u3.drew.cell? _ = _ from cx1)
    replace zx1 := (show _ < u3.drew.heap.size from zx1)
    replace cx2 := (show u3.drew.cell? _ = _ from cx2)
    replace zx2 := (show _ < u3.drew.heap.size from zx2)
    replace cr0 := (show u3.drew.cell? _ = _ from cr0)
    replace zr0 := (show _ < u3.drew.heap.size from zr0)
    replace cr1 := (show u3.drew.cell? _ = _ from cr1)
    replace zr1 := (show _ < u3.drew.heap.size from zr1)
    replace cr2 := (show u3.drew.cell? _ = _ from cr2)
    replace zr2 := (show _ < u3.drew.heap.size from zr2)
    replace cr3 := (show u3.drew.cell? _ = _ from cr3)
    replace zr3 := (show _ < u3.drew.heap.size from zr3)
    replace S := S.le (Le.refl _).drew
    replace L0 := L0.drew
    replace S2 := S2.le (Le.refl _).drew
    replace S3 := S3.le (Le.refl _).drew
    replace S4 := S4.le (Le.refl _).drew
    refine wp_region_noPanic ?_
    refine wp_region_Z (fun w' => w'.cell? ⟨w1.heap.size, 0, none⟩ = some (.slice B m c) ∧ w'.cell? ⟨w1.heap.size + 1, 0, none⟩ = some (.bool false) ∧ w'.cell? ⟨w1.heap.size + 1, 1, none⟩ = some (.int .i64 cl) ∧ w'.cell? ⟨w1.heap.size + 1, 2, none⟩ = some (.int .i64 k) ∧ w'.cell? ⟨w3.heap.size, 0, none⟩ = some (.slice A0 (ceL xs L false cl k).length q0) ∧ w'.cell? ⟨w3.heap.size, 1, none⟩ = some (.int .i64 (ceE xs L false cl k)) ∧ w'.cell? ⟨w3.heap.size, 2, none⟩ = some (.int .i64 (ceV xs L false cl k)) ∧ w'.cell? ⟨w3.heap.size, 3, none⟩ = some (.slice A1 (ceH xs L false cl k).length q1)) [] (by kernel_rfl) ?_
    generalize u3.drew = Y at *
    refine wpAnyZ_take (i := 0) (v := ?_) rfl (by kernel_rfl) (fun _ _ _ h => h) (Or.inl ⟨by rfl, ?_⟩) (⟨ct, cx0, cx1, cx2, cr0, cr1, cr2, cr3⟩) ?_
    rotate_left 1
    · (intro w hSw; (try dsimp only at hSw); go_simp; try with_reducible rfl)
    try simp only [Act.put, List.setIfInBounds_toArray, List.set_cons_zero, List.set_cons_succ]
    refine wpAnyZ_take (i := 1) (v := ?_) rfl (by kernel_rfl) (fun _ _ _ h => h) (Or.inl ⟨by rfl, ?_⟩) (⟨ct, cx0, cx1, cx2, cr0, cr1, cr2, cr3⟩) ?_
    rotate_left 1
    · (intro w hSw; (try dsimp only at hSw); go_simp; try with_reducible rfl)
    try simp only [Act.put, List.setIfInBounds_toArray, List.set_cons_zero, List.set_cons_succ]
    refine wpAnyZ_take (i := 2) (v := ?_) rfl (by kernel_rfl) (fun _ _ _ h => h) (Or.inl ⟨by rfl, ?_⟩) (⟨ct, cx0, cx1, cx2, cr0, cr1, cr2, cr3⟩) ?_
    rotate_left 1
    · (intro w hSw; (try dsimp only at hSw); go_simp; try with_reducible rfl)
    try simp only [Act.put, List.setIfInBounds_toArray, List.set_cons_zero, List.set_cons_succ]
    refine wpAnyZ_take (i := 3) (v := ?_) rfl (by kernel_rfl) (fun _ _ _ h => h) (Or.inl ⟨by rfl, ?_⟩) (⟨ct, cx0, cx1, cx2, cr0, cr1, cr2, cr3⟩) ?_
    rotate_left 1
    · (intro w hSw; (try dsimp only at hSw); go_simp; try with_reducible rfl)
    try simp only [Act.put, List.setIfInBounds_toArray, List.set_cons_zero, List.set_cons_succ]
    refine wpAnyZ_one (i := 4) (by kernel_rfl) (ReadyZ.mk rfl (fun K hK => ?_))
    go_simp
    go_at_call 12
    refine (Calls.ce (sCloseExits_any B D m c _ d xs L false cl k hcl hkk _ S S2)).mono ?_
    rintro e y1 ⟨A2, q2, A3, q3, rfl, S5, S6, hle⟩
    replace ct := (hle.cell zt).trans ct
    replace cx0 := (hle.cell zx0).trans cx0
    replace cx1 := (hle.cell zx1).trans cx1
    replace cx2 := (hle.cell zx2).trans cx2
    replace cr0 := (hle.cell zr0).trans cr0
    replace cr1 := (hle.cell zr1).trans cr1
    replace cr2 := (hle.cell zr2).trans cr2
    replace cr3 := (hle.cell zr3).trans cr3
    replace zt := Nat.lt_of_lt_of_le zt hle.size
    replace zx0 := Nat.lt_of_lt_of_le zx0 hle.size
    replace zx1 := Nat.lt_of_lt_of_le zx1 hle.size
    replace zx2 := Nat.lt_of_lt_of_le zx2 hle.size
    replace zr0 := Nat.lt_of_lt_of_le zr0 hle.size
    replace zr1 := Nat.lt_of_lt_of_le zr1 hle.size
    replace zr2 := Nat.lt_of_lt_of_le zr2 hle.size
    replace zr3 := Nat.lt_of_lt_of_le zr3 hle.size
    replace S := S.le hle
    replace L0 := L0.trans hle
    replace S2 := S2.le hle
    replace S3 := S3.le hle
    replace S4 := S4.le hle
    clear hle
    refine hK.out _ _ (fun _ => ⟨ct, cx0, cx1, cx2, cr0, cr1, cr2, cr3⟩) ?_
    clear hK K
    try simp only [Act.put, List.setIfInBounds_toArray, List.set_cons_zero, List.set_cons_succ]
    refine wpAnyZ_one (i := 5) (by kernel_rfl) (ReadyZ.mk rfl (fun K hK => ?_))
    go_simp
    go_at_call 11
    refine (equalResult_self _ _ _ _ _ _ _ _ _ _ (ceL xs L false cl k) (ceH xs L false cl k) _ _ _ S3 S5 S4 S6).mono ?_
    rintro e y2 ⟨rfl, hle⟩
    replace ct := (hle.cell zt).trans ct
    replace cx0 := (hle.cell zx0).trans cx0
    replace cx1 := (hle.cell zx1).trans cx1
    replace cx2 := (hle.cell zx2).trans cx2
    replace cr0 := (hle.cell zr0).trans cr0
    replace cr1 := (hle.cell zr1).trans cr1
    replace cr2 := (hle.cell zr2).trans cr2
    replace cr3 := (hle.cell zr3).trans cr3
    replace zt := Nat.lt_of_lt_of_le zt hle.size
    replace zx0 := Nat.lt_of_lt_of_le zx0 hle.size
    replace zx1 := Nat.lt_of_lt_of_le zx1 hle.size
    replace zx2 := Nat.lt_of_lt_of_le zx2 hle.size
    replace zr0 := Nat.lt_of_lt_of_le zr0 hle.size
    replace zr1 := Nat.lt_of_lt_of_le zr1 hle.size
    replace zr2 := Nat.lt_of_lt_of_le zr2 hle.size
    replace zr3 := Nat.lt_of_lt_of_le zr3 hle.size
    replace S := S.le hle
    replace L0 := L0.trans hle
    replace S2 := S2.le hle
    replace S3 := S3.le hle
    replace S4 := S4.le hle
    clear hle S5 S6
    refine hK.out _ _ (fun _ => ⟨ct, cx0, cx1, cx2, cr0, cr1, cr2, cr3⟩) ?_
    clear hK K
    try simp only [Act.put, List.setIfInBounds_toArray, List.set_cons_zero, List.set_cons_succ]
    refine wpAnyZ_take (i := 6) (v := ?_) rfl (by kernel_rfl) (fun _ _ _ h => h) (Or.inl ⟨by rfl, ?_⟩) (⟨ct, cx0, cx1, cx2, cr0, cr1, cr2, cr3⟩) ?_
    rotate_left 1
    · (intro w hSw; (try dsimp only at hSw); go_simp; try with_reducible rfl)
    try simp only [Act.put, List.setIfInBounds_toArray, List.set_cons_zero, List.set_cons_succ]
    refine wpAnyZ_done (by kernel_rfl) ?_ _
    refine NoPanic.normal ?_
    go_wp2
    go_ret
    exact ⟨rfl, L0⟩
  obtain rfl := h1
  by_cases h2 : k = 0
  rotate_left
  · have h2b : (k != 0) = true := by simpa using h2
    replace ct := (show W3.drew.cell? _ = _ from ct)
    replace zt := (show _ < W3.drew.heap.size from zt)
    replace cx0 := (show W3.drew.cell? _ = _ from cx0)
    replace zx0 := (show _ < W3.drew.heap.size from zx0)
    replace cx1 := (show W3.drew.cell? _ = _ from cx1)
    replace zx1 := (show _ < W3.drew.heap.size from zx1)
    replace cx2 := (show W3.drew.cell? _ = _ from cx2)
    replace zx2 := (show _ < W3.drew.heap.size from zx2)
    replace cr0 := (show W3.drew.cell? _ = _ from cr0)
    replace zr0 := (show _ < W3.drew.heap.size from zr0)
    replace cr1 := (show W3.drew.cell? _ = _ from cr1)
    replace zr1 := (show _ < W3.drew.heap.size from zr1)
    replace cr2 := (show W3.drew.cell? _ = _ from cr2)
    replace zr2 := (show _ < W3.drew.heap.size from zr2)
    replace cr3 := (show W3.drew.cell? _ = _ from cr3)
    replace zr3 := (show _ < W3.drew.heap.size from zr3)
    replace S := S.le (Le.refl _).drew
    replace L0 := L0.drew
    replace S2 := S2.le (Le.refl _).drew
    replace S3 := S3.le (Le.refl _).drew
    replace S4 := S4.le (Le.refl _).drew
    refine wp_region_noPanic ?_
    refine wp_region_Z (fun w' => w'.cell? ⟨w1.heap.size, 0, none⟩ = some (.slice B m c) ∧ w'.cell? ⟨w1.heap.size + 1, 0, none⟩ = some (.bool false) ∧ w'.cell? ⟨w1.heap.size + 1, 1, none⟩ = some (.int .i64 0) ∧ w'.cell? ⟨w1.heap.size + 1, 2, none⟩ = some (.int .i64 k) ∧ w'.cell? ⟨w3.heap.size, 0, none⟩ = some (.slice A0 (ceL xs L false 0 k).length q0) ∧ w'.cell? ⟨w3.heap.size, 1, none⟩ = some (.int .i64 (ceE xs L false 0 k)) ∧ w'.cell? ⟨w3.heap.size, 2, none⟩ = some (.int .i64 (ceV xs L false 0 k)) ∧ w'.cell? ⟨w3.heap.size, 3, none⟩ = some (.slice A1 (ceH xs L false 0 k).length q1)) [] (by kernel_rfl) ?_
    generalize W3.drew = U at *
    refine wpAnyZ_take (i := 0) (v := ?_) rfl (by kernel_rfl) (fun _ _ _ h => h) (Or.inl ⟨by rfl, ?_⟩) (⟨ct, cx0, cx1, cx2, cr0, cr1, cr2, cr3⟩) ?_
    rotate_left 1
    · (intro w hSw; (try dsimp only at hSw); go_simp; try with_reducible rfl)
    try simp only [Act.put, List.setIfInBounds_toArray, List.set_cons_zero, List.set_cons_succ]
    refine wpAnyZ_take (i := 1) (v := ?_) rfl (by kernel_rfl) (fun _ _ _ h => h) (Or.inl ⟨by rfl, ?_⟩) (⟨ct, cx0, cx1, cx2, cr0, cr1, cr2, cr3⟩) ?_
    rotate_left 1
    · (intro w hSw; (try dsimp only at hSw); go_simp; try with_reducible rfl)
    try simp only [Act.put, List.setIfInBounds_toArray, List.set_cons_zero, List.set_cons_succ]
    refine wpAnyZ_take (i := 2) (v := ?_) rfl (by kernel_rfl) (fun _ _ _ h => h) (Or.inl ⟨by rfl, ?_⟩) (⟨ct, cx0, cx1, cx2, cr0, cr1, cr2, cr3⟩) ?_
    rotate_left 1
    · (intro w hSw; (try dsimp only at hSw); go_simp; try with_reducible rfl)
    try simp only [Act.put, List.setIfInBounds_toArray, List.set_cons_zero, List.set_cons_succ]
    refine wpAnyZ_take (i := 3) (v := ?_) rfl (by kernel_rfl) (fun _ _ _ h => h) (Or.inl ⟨by rfl, ?_⟩) (⟨ct, cx0, cx1, cx2, cr0, cr1, cr2, cr3⟩) ?_
    rotate_left 1
    · (intro w hSw; (try dsimp only at hSw); go_simp; try with_reducible rfl)
    try simp only [Act.put, List.setIfInBounds_toArray, List.set_cons_zero, List.set_cons_succ]
    refine wpAnyZ_one (i := 4) (by kernel_rfl) (ReadyZ.mk rfl (fun K hK => ?_))
    go_simp
    go_at_call 12
    refine (Calls.ce (sCloseExits_any B D m c _ d xs L false 0 k hcl hkk _ S S2)).mono ?_
    rintro e u1 ⟨A2, q2, A3, q3, rfl, S5, S6, hle⟩
    replace ct := (hle.cell zt).trans ct
    replace cx0 := (hle.cell zx0).trans cx0
    replace cx1 := (hle.cell zx1).trans cx1
    replace cx2 := (hle.cell zx2).trans cx2
    replace cr0 := (hle.cell zr0).trans cr0
    replace cr1 := (hle.cell zr1).trans cr1
    replace cr2 := (hle.cell zr2).trans cr2
    replace cr3 := (hle.cell zr3).trans cr3
    replace zt := Nat.lt_of_lt_of_le zt hle.size
    replace zx0 := Nat.lt_of_lt_of_le zx0 hle.size
    replace zx1 := Nat.lt_of_lt_of_le zx1 hle.size
    replace zx2 := Nat.lt_of_lt_of_le zx2 hle.size
    replace zr0 := Nat.lt_of_lt_of_le zr0 hle.size
    replace zr1 := Nat.lt_of_lt_of_le zr1 hle.size
    replace zr2 := Nat.lt_of_lt_of_le zr2 hle.size
    replace zr3 := Nat.lt_of_lt_of_le zr3 hle.size
    replace S := S.le hle
    replace L0 := L0.trans hle
    replace S2 := S2.le hle
    replace S3 := S3.le hle
    replace S4 := S4.le hle
    clear hle
    refine hK.out _ _ (fun _ => ⟨ct, cx0, cx1, cx2, cr0, cr1, cr2, cr3⟩) ?_
    clear hK K
    try simp only [Act.put, List.setIfInBounds_toArray, List.set_cons_zero, List.set_cons_succ]
    refine wpAnyZ_one (i := 5) (by kernel_rfl) (ReadyZ.mk rfl (fun K hK => ?_))
    go_simp
    go_at_call 11
    refine (equalResult_self _ _ _ _ _ _ _ _ _ _ (ceL xs L false 0 k) (ceH xs L false 0 k) _ _ _ S3 S5 S4 S6).mono ?_
    rintro e u2 ⟨rfl, hle⟩
    replace ct := (hle.cell zt).trans ct
    replace cx0 := (hle.cell zx0).trans cx0
    replace cx1 := (hle.cell zx1).trans cx1
    replace cx2 := (hle.cell zx2).trans cx2
    replace cr0 := (hle.cell zr0).trans cr0
    replace cr1 := (hle.cell zr1).trans cr1
    replace cr2 := (hle.cell zr2).trans cr2
    replace cr3 := (hle.cell zr3).trans cr3
    replace zt := Nat.lt_of_lt_of_le zt hle.size
    replace zx0 := Nat.lt_of_lt_of_le zx0 hle.size
    replace zx1 := Nat.lt_of_lt_of_le zx1 hle.size
    replace zx2 := Nat.lt_of_lt_of_le zx2 hle.size
    replace zr0 := Nat.lt_of_lt_of_le zr0 hle.size
    replace zr1 := Nat.lt_of_lt_of_le zr1 hle.size
    replace zr2 := Nat.lt_of_lt_of_le zr2 hle.size
    replace zr3 := Nat.lt_of_lt_of_le zr3 hle.size
    replace S := S.le hle
    replace L0 := L0.trans hle
    replace S2 := S2.le hle
    replace S3 := S3.le hle
    replace S4 := S4.le hle
    clear hle S5 S6
    refine hK.out _ _ (fun _ => ⟨ct, cx0, cx1, cx2, cr0, cr1, cr2, cr3⟩) ?_
    clear hK K
    try simp only [Act.put, List.setIfInBounds_toArray, List.set_cons_zero, List.set_cons_succ]
    refine wpAnyZ_take (i := 6) (v := ?_) rfl (by kernel_rfl) (fun _ _ _ h => h) (Or.inl ⟨by rfl, ?_⟩) (⟨ct, cx0, cx1, cx2, cr0, cr1, cr2, cr3⟩) ?_
    rotate_left 1
    · (intro w hSw; (try dsimp only at hSw); go_simp; try with_reducible rfl)
    try simp only [Act.put, List.setIfInBounds_toArray, List.set_cons_zero, List.set_cons_succ]
    refine wpAnyZ_take (i := 7) (v := ?_) rfl (by kernel_rfl) (fun _ _ _ h => h) (Or.inl ⟨by rfl, ?_⟩) (⟨ct, cx0, cx1, cx2, cr0, cr1, cr2, cr3⟩) ?_
    rotate_left 1
    · (intro w hSw; (try dsimp only at hSw); go_simp; try with_reducible rfl)
    try simp only [Act.put, List.setIfInBounds_toArray, List.set_cons_zero, List.set_cons_succ]
    refine wpAnyZ_take (i := 8) (v := ?_) rfl (by kernel_rfl) (fun _ _ _ h => h) (Or.inl ⟨by rfl, ?_⟩) (⟨ct, cx0, cx1, cx2, cr0, cr1, cr2, cr3⟩) ?_
    rotate_left 1
    · (intro w hSw; (try dsimp only at hSw); go_simp; try with_reducible rfl)
    try simp only [Act.put, List.setIfInBounds_toArray, List.set_cons_zero, List.set_cons_succ]
    refine wpAnyZ_take (i := 9) (v := ?_) rfl (by kernel_rfl) (fun _ _ _ h => h) (Or.inl ⟨by rfl, ?_⟩) (⟨ct, cx0, cx1, cx2, cr0, cr1, cr2, cr3⟩) ?_
    rotate_left 1
    · (intro w hSw; (try dsimp only at hSw); go_simp; try with_reducible rfl)
    try simp only [Act.put, List.setIfInBounds_toArray, List.set_cons_zero, List.set_cons_succ]
    refine wpAnyZ_one (i := 10) (by kernel_rfl) (ReadyZ.mk rfl (fun K hK => ?_))
    go_simp
    go_at_call 13
    refine (Calls.val (iValidExits_any B D m c _ d xs L _ S S2) (by rw [hv])).mono ?_
    rintro e u3 ⟨rfl, hle⟩
    replace ct := (hle.cell zt).trans ct
    replace cx0 := (hle.cell zx0).trans cx0
    replace cx1 := (hle.cell zx1).trans cx1
    replace cx2 := (hle.cell zx2).trans cx2
    replace cr0 := (hle.cell zr0).trans cr0
    replace cr1 := (hle.cell zr1).trans cr1
    replace cr2 := (hle.cell zr2).trans cr2
    replace cr3 := (hle.cell zr3).trans cr3
    replace zt := Nat.lt_of_lt_of_le zt hle.size
    replace zx0 := Nat.lt_of_lt_of_le zx0 hle.size
    replace zx1 := Nat.lt_of_lt_of_le zx1 hle.size
    replace zx2 := Nat.lt_of_lt_of_le zx2 hle.size
    replace zr0 := Nat.lt_of_lt_of_le zr0 hle.size
    replace zr1 := Nat.lt_of_lt_of_le zr1 hle.size
    replace zr2 := Nat.lt_of_lt_of_le zr2 hle.size
    replace zr3 := Nat.lt_of_lt_of_le zr3 hle.size
    replace S := S.le hle
    replace L0 := L0.trans hle
    replace S2 := S2.le hle
    replace S3 := S3.le hle
    replace S4 := S4.le hle
    clear hle
    refine hK.out _ _ (fun _ => ⟨ct, cx0, cx1, cx2, cr0, cr1, cr2, cr3⟩) ?_
    clear hK K
    try simp only [Act.put, List.setIfInBounds_toArray, List.set_cons_zero, List.set_cons_succ]
    refine wpAnyZ_take (i := 11) (v := ?_) rfl (by kernel_rfl) (fun _ _ _ h => h) (Or.inl ⟨by rfl, ?_⟩) (⟨ct, cx0, cx1, cx2, cr0, cr1, cr2, cr3⟩) ?_
    rotate_left 1
    · (intro w hSw; (try dsimp only at hSw); go_simp; try with_reducible rfl)
    try simp only [Act.put, List.setIfInBounds_toArray, List.set_cons_zero, List.set_cons_succ]
    refine wpAnyZ_take (i := 12) (v := ?_) rfl (by kernel_rfl) (fun _ _ _ h => h) (Or.inl ⟨by rfl, ?_⟩) (⟨ct, cx0, cx1, cx2, cr0, cr1, cr2, cr3⟩) ?_
    rotate_left 1
    · (intro w hSw; (try dsimp only at hSw); go_simp; try with_reducible rfl)
    try simp only [Act.put, List.setIfInBounds_toArray, List.set_cons_zero, List.set_cons_succ]
    refine wpAnyZ_take (i := 13) (v := ?_) rfl (by kernel_rfl) (fun _ _ _ h => h) (Or.inl ⟨by rfl, ?_⟩) (⟨ct, cx0, cx1, cx2, cr0, cr1, cr2, cr3⟩) ?_
    rotate_left 1
    · (intro w hSw; (try dsimp only at hSw); go_simp; try with_reducible rfl)
    try simp only [Act.put, List.setIfInBounds_toArray, List.set_cons_zero, List.set_cons_succ]
    refine wpAnyZ_take (i := 14) (v := ?_) rfl (by kernel_rfl) (fun _ _ _ h => h) (Or.inl ⟨by rfl, ?_⟩) (⟨ct, cx0, cx1, cx2, cr0, cr1, cr2, cr3⟩) ?_
    rotate_left 1
    · (intro w hSw; (try dsimp only at hSw); go_simp; try with_reducible rfl)
    try simp only [Act.put, List.setIfInBounds_toArray, List.set_cons_zero, List.set_cons_succ]
    refine wpAnyZ_take (i := 15) (v := ?_) rfl (by kernel_rfl) (fun _ _ _ h => h) (Or.inl ⟨by rfl, ?_⟩) (⟨ct, cx0, cx1, cx2, cr0, cr1, cr2, cr3⟩) ?_
    rotate_left 1
    · (intro w hSw; (try dsimp only at hSw); go_simp; try with_reducible rfl)
    try simp only [Act.put, List.setIfInBounds_toArray, List.set_cons_zero, List.set_cons_succ]
    refine wpAnyZ_take (i := 16) (v := ?_) rfl (by kernel_rfl) (fun _ _ _ h => h) (Or.inl ⟨by rfl, ?_⟩) (⟨ct, cx0, cx1, cx2, cr0, cr1, cr2, cr3⟩) ?_
    rotate_left 1
    · (intro w hSw; (try dsimp only at hSw); go_simp; try with_reducible rfl)
    try simp only [Act.put, List.setIfInBounds_toArray, List.set_cons_zero, List.set_cons_succ]
    refine wpAnyZ_take (i := 17) (v := ?_) rfl (by kernel_rfl) (fun _ _ _ h => h) (Or.inl ⟨by rfl, ?_⟩) (⟨ct, cx0, cx1, cx2, cr0, cr1, cr2, cr3⟩) ?_
    rotate_left 1
    · (intro w hSw; (try dsimp only at hSw); go_simp; try with_reducible rfl)
    try simp only [Act.put, List.setIfInBounds_toArray, List.set_cons_zero, List.set_cons_succ]
    refine wpAnyZ_take (i := 18) (v := ?_) rfl (by kernel_rfl) (fun _ _ _ h => h) (Or.inl ⟨by rfl, ?_⟩) (⟨ct, cx0, cx1, cx2, cr0, cr1, cr2, cr3⟩) ?_
    rotate_left 1
    · (intro w hSw; (try dsimp only at hSw); go_simp; try with_reducible rfl)
    try simp only [Act.put, List.setIfInBounds_toArray, List.set_cons_zero, List.set_cons_succ]
    refine wpAnyZ_take (i := 19) (v := ?_) rfl (by kernel_rfl) (fun _ _ _ h => h) (Or.inl ⟨by rfl, ?_⟩) (⟨ct, cx0, cx1, cx2, cr0, cr1, cr2, cr3⟩) ?_
    rotate_left 1
    · (intro w hSw; (try dsimp only at hSw); go_simp; try with_reducible rfl)
    try simp only [Act.put, List.setIfInBounds_toArray, List.set_cons_zero, List.set_cons_succ]
    refine wpAnyZ_take (i := 20) (v := ?_) rfl (by kernel_rfl) (fun _ _ _ h => h) (Or.inl ⟨by rfl, ?_⟩) (⟨ct, cx0, cx1, cx2, cr0, cr1, cr2, cr3⟩) ?_
    rotate_left 1
    · (intro w hSw; (try dsimp only at hSw); go_simp; try with_reducible rfl)
    try simp only [Act.put, List.setIfInBounds_toArray, List.set_cons_zero, List.set_cons_succ]
    refine wpAnyZ_take (i := 21) (v := ?_) rfl (by kernel_rfl) (fun _ _ _ h => h) (Or.inl ⟨by rfl, ?_⟩) (⟨ct, cx0, cx1, cx2, cr0, cr1, cr2, cr3⟩) ?_
    rotate_left 1
    · (intro w hSw; (try dsimp only at hSw); go_simp; try with_reducible rfl)
    try simp only [Act.put, List.setIfInBounds_toArray, List.set_cons_zero, List.set_cons_succ]
    refine wpAnyZ_take (i := 22) (v := ?_) rfl (by kernel_rfl) (fun _ _ _ h => h) (Or.inl ⟨by rfl, ?_⟩) (⟨ct, cx0, cx1, cx2, cr0, cr1, cr2, cr3⟩) ?_
    rotate_left 1
    · (intro w hSw; (try dsimp only at hSw); go_simp; try with_reducible rfl)
    try simp only [Act.put, List.setIfInBounds_toArray, List.set_cons_zero, List.set_cons_succ]
    refine wpAnyZ_take (i := 23) (v := ?_) rfl (by kernel_rfl) (fun _ _ _ h => h) (Or.inl ⟨by rfl, ?_⟩) (⟨ct, cx0, cx1, cx2, cr0, cr1, cr2, cr3⟩) ?_
    rotate_left 1
    · (intro w hSw; (try dsimp only at hSw); go_simp; try with_reducible rfl)
    try simp only [Act.put, List.setIfInBounds_toArray, List.set_cons_zero, List.set_cons_succ]
    refine wpAnyZ_take (i := 24) (v := ?_) rfl (by kernel_rfl) (fun _ _ _ h => h) (Or.inl ⟨by rfl, ?_⟩) (⟨ct, cx0, cx1, cx2, cr0, cr1, cr2, cr3⟩) ?_
    rotate_left 1
    · (intro w hSw; (try dsimp only at hSw); go_simp; try with_reducible rfl)
    try simp only [Act.put, List.setIfInBounds_toArray, List.set_cons_zero, List.set_cons_succ]
    refine wpAnyZ_take (i := 25) (v := ?_) rfl (by kernel_rfl) (fun _ _ _ h => h) (Or.inl ⟨by rfl, ?_⟩) (⟨ct, cx0, cx1, cx2, cr0, cr1, cr2, cr3⟩) ?_
    rotate_left 1
    · (intro w hSw; (try dsimp only at hSw); go_simp; try with_reducible rfl)
    try simp only [Act.put, List.setIfInBounds_toArray, List.set_cons_zero, List.set_cons_succ]
    refine wpAnyZ_take (i := 26) (v := ?_) rfl (by kernel_rfl) (fun _ _ _ h => h) (Or.inl ⟨by rfl, ?_⟩) (⟨ct, cx0, cx1, cx2, cr0, cr1, cr2, cr3⟩) ?_
    rotate_left 1
    · (intro w hSw; (try dsimp only at hSw); go_simp; try with_reducible rfl)
    try simp only [Act.put, List.setIfInBounds_toArray, List.set_cons_zero, List.set_cons_succ]
    refine wpAnyZ_done (by kernel_rfl) ?_ _
    refine NoPanic.normal ?_
    go_wp2_with fail
    replace ct := (show u3.drew.cell? _ = _ from ct)
    replace zt := (show _ < u3.drew.heap.size from zt)
    replace cx0 := (show u3.drew.cell? _ = _ from cx0)
    replace zx0 := (show _ < u3.drew.heap.size from zx0)
    replace cx1 := (show u3.drew.cell? _ = _ from cx1)
    replace zx1 := (show _ < u3.drew.heap.size from zx1)
    replace cx2 := (show u3.drew.cell? _ = _ from cx2)
    replace zx2 := (show _ < u3.drew.heap.size from zx2)
    replace cr0 := (show u3.drew.cell? _ = _ from cr0)
    replace zr0 := (show _ < u3.drew.heap.size from zr0)
    replace cr1 := (show u3.drew.cell? _ = _ from cr1)
    replace zr1 := (show _ < u3.drew.heap.size from zr1)
    replace cr2 := (show u3.drew.cell? _ = _ from cr2)
    replace zr2 := (show _ < u3.drew.heap.size from zr2)
    replace cr3 := (show u3.drew.cell? _ = _ from cr3)
    replace zr3 := (show _ < u3.drew.heap.size from zr3)
    replace S := S.le (Le.refl _).drew
    replace L0 := L0.drew
    replace S2 := S2.le (Le.refl _).drew
    replace S3 := S3.le (Le.refl _).drew
    replace S4 := S4.le (Le.refl _).drew
    refine wp_region_noPanic ?_
    refine wp_region_Z (fun w' => w'.cell? ⟨w1.heap.size, 0, none⟩ = some (.slice B m c) ∧ w'.cell? ⟨w1.heap.size + 1, 0, none⟩ = some (.bool false) ∧ w'.cell? ⟨w1.heap.size + 1, 1, none⟩ = some (.int .i64 0) ∧ w'.cell? ⟨w1.heap.size + 1, 2, none⟩ = some (.int .i64 k) ∧ w'.cell? ⟨w3.heap.size, 0, none⟩ = some (.slice A0 (ceL xs L false 0 k).length q0) ∧ w'.cell? ⟨w3.heap.size, 1, none⟩ = some (.int .i64 (ceE xs L false 0 k)) ∧ w'.cell? ⟨w3.heap.size, 2, none⟩ = some (.int .i64 (ceV xs L false 0 k)) ∧ w'.cell? ⟨w3.heap.size, 3, none⟩ = some (.slice A1 (ceH xs L false 0 k).length q1)) [] (by kernel_rfl) ?_
    generalize u3.drew = Y at *
    refine wpAnyZ_take (i := 0) (v := ?_) rfl (by kernel_rfl) (fun _ _ _ h => h) (Or.inl ⟨by rfl, ?_⟩) (⟨ct, cx0, cx1, cx2, cr0, cr1, cr2, cr3⟩) ?_
    rotate_left 1
    · (intro w hSw; (try dsimp only at hSw); go_simp; try with_reducible rfl)
    try simp only [Act.put, List.setIfInBounds_toArray, List.set_cons_zero, List.set_cons_succ]
    refine wpAnyZ_take (i := 1) (v := ?_) rfl (by kernel_rfl) (fun _ _ _ h => h) (Or.inl ⟨by rfl, ?_⟩) (⟨ct, cx0, cx1, cx2, cr0, cr1, cr2, cr3⟩) ?_
    rotate_left 1
    · (intro w hSw; (try dsimp only at hSw); go_simp; try with_reducible rfl)
    try simp only [Act.put, List.setIfInBounds_toArray, List.set_cons_zero, List.set_cons_succ]
    refine wpAnyZ_take (i := 2) (v := ?_) rfl (by kernel_rfl) (fun _ _ _ h => h) (Or.inl ⟨by rfl, ?_⟩) (⟨ct, cx0, cx1, cx2, cr0, cr1, cr2, cr3⟩) ?_
    rotate_left 1
    · (intro w hSw; (try dsimp only at hSw); go_simp; try with_reducible rfl)
    try simp only [Act.put, List.setIfInBounds_toArray, List.set_cons_zero, List.set_cons_succ]
    refine wpAnyZ_take (i := 3) (v := ?_) rfl (by kernel_rfl) (fun _ _ _ h => h) (Or.inl ⟨by rfl, ?_⟩) (⟨ct, cx0, cx1, cx2, cr0, cr1, cr2, cr3⟩) ?_
    rotate_left 1
    · (intro w hSw; (try dsimp only at hSw); go_simp; try with_reducible rfl)
    try simp only [Act.put, List.setIfInBounds_toArray, List.set_cons_zero, List.set_cons_succ]
    refine wpAnyZ_one (i := 4) (by kernel_rfl) (ReadyZ.mk rfl (fun K hK => ?_))
    go_simp
    go_at_call 12
    refine (Calls.ce (sCloseExits_any B D m c _ d xs L false 0 k hcl hkk _ S S2)).mono ?_
    rintro e y1 ⟨A2, q2, A3, q3, rfl, S5, S6, hle⟩
    replace ct := (hle.cell zt).trans ct
    replace cx0 := (hle.cell zx0).trans cx0
    replace cx1 := (hle.cell zx1).trans cx1
    replace cx2 := (hle.cell zx2).trans cx2
    replace cr0 := (hle.cell zr0).trans cr0
    replace cr1 := (hle.cell zr1).trans cr1
    replace cr2 := (hle.cell zr2).trans cr2
    replace cr3 := (hle.cell zr3).trans cr3
    replace zt := Nat.lt_of_lt_of_le zt hle.size
    replace zx0 := Nat.lt_of_lt_of_le zx0 hle.size
    replace zx1 := Nat.lt_of_lt_of_le zx1 hle.size
    replace zx2 := Nat.lt_of_lt_of_le zx2 hle.size
    replace zr0 := Nat.lt_of_lt_of_le zr0 hle.size
    replace zr1 := Nat.lt_of_lt_of_le zr1 hle.size
    replace zr2 := Nat.lt_of_lt_of_le zr2 hle.size
    replace zr3 := Nat.lt_of_lt_of_le zr3 hle.size
    replace S := S.le hle
    replace L0 := L0.trans hle
    replace S2 := S2.le hle
    replace S3 := S3.le hle
    replace S4 := S4.le hle
    clear hle
    refine hK.out _ _ (fun _ => ⟨ct, cx0, cx1, cx2, cr0, cr1, cr2, cr3⟩) ?_
    clear hK K
    try simp only [Act.put, List.setIfInBounds_toArray, List.set_cons_zero, List.set_cons_succ]
    refine wpAnyZ_one (i := 5) (by kernel_rfl) (ReadyZ.mk rfl (fun K hK => ?_))
    go_simp
    go_at_call 11
    refine (equalResult_self _ _ _ _ _ _ _ _ _ _ (ceL xs L false 0 k) (ceH xs L false 0 k) _ _ _ S3 S5 S4 S6).mono ?_
    rintro e y2 ⟨rfl, hle⟩
    replace ct := (hle.cell zt).trans ct
    replace cx0 := (hle.cell zx0).trans cx0
    replace cx1 := (hle.cell zx1).trans cx1
    replace cx2 := (hle.cell zx2).trans cx2
    replace cr0 := (hle.cell zr0).trans cr0
    replace cr1 := (hle.cell zr1).trans cr1
    replace cr2 := (hle.cell zr2).trans cr2
    replace cr3 := (hle.cell zr3).trans cr3
    replace zt := Nat.lt_of_lt_of_le zt hle.size
    replace zx0 := Nat.lt_of_lt_of_le zx0 hle.size
    replace zx1 := Nat.lt_of_lt_of_le zx1 hle.size
    replace zx2 := Nat.lt_of_lt_of_le zx2 hle.size
    replace zr0 := Nat.lt_of_lt_of_le zr0 hle.size
    replace zr1 := Nat.lt_of_lt_of_le zr1 hle.size
    replace zr2 := Nat.lt_of_lt_of_le zr2 hle.size
    replace zr3 := Nat.lt_of_lt_of_le zr3 hle.size
    replace S := S.le hle
    replace L0 := L0.trans hle
    replace S2 := S2.le hle
    replace S3 := S3.le hle
    replace S4 := S4.le hle
    clear hle S5 S6
    refine hK.out _ _ (fun _ => ⟨ct, cx0, cx1, cx2, cr0, cr1, cr2, cr3⟩) ?_
    clear hK K
    try simp only [Act.put, List.setIfInBounds_toArray, List.set_cons_zero, List.set_cons_succ]
    refine wpAnyZ_take (i := 6) (v := ?_) rfl (by kernel_rfl) (fun _ _ _ h => h) (Or.inl ⟨by rfl, ?_⟩) (⟨ct, cx0, cx1, cx2, cr0, cr1, cr2, cr3⟩) ?_
    rotate_left 1
    · (intro w hSw; (try dsimp only at hSw); go_simp; try with_reducible rfl)
    try simp only [Act.put, List.setIfInBounds_toArray, List.set_cons_zero, List.set_cons_succ]
    refine wpAnyZ_done (by kernel_rfl) ?_ _
    refine NoPanic.normal ?_
    go_wp2
    go_ret
    exact ⟨rfl, L0⟩
  obtain rfl := h2
  replace ct := (show W3.drew.cell? _ = _ from ct)
  replace zt := (show _ < W3.drew.heap.size from zt)
  replace cx0 := (show W3.drew.cell? _ = _ from cx0)
  replace zx0 := (show _ < W3.drew.heap.size from zx0)
  replace cx1 := (show W3.drew.cell? _ = _ from cx1)
  replace zx1 := (show _ < W3.drew.heap.size from zx1)
  replace cx2 := (show W3.drew.cell? _ = _ from cx2)
  replace zx2 := (show _ < W3.drew.heap.size from zx2)
  replace cr0 := (show W3.drew.cell? _ = _ from cr0)
  replace zr0 := (show _ < W3.drew.heap.size from zr0)
  replace cr1 := (show W3.drew.cell? _ = _ from cr1)
  replace zr1 := (show _ < W3.drew.heap.size from zr1)
  replace cr2 := (show W3.drew.cell? _ = _ from cr2)
  replace zr2 := (show _ < W3.drew.heap.size from zr2)
  replace cr3 := (show W3.drew.cell? _ = _ from cr3)
  replace zr3 := (show _ < W3.drew.heap.size from zr3)
  replace S := S.le (Le.refl _).drew
  replace L0 := L0.drew
  replace S2 := S2.le (Le.refl _).drew
  replace S3 := S3.le (Le.refl _).drew
  replace S4 := S4.le (Le.refl _).drew
  refine wp_region_noPanic ?_
  refine wp_region_Z (fun w' => w'.cell? ⟨w1.heap.size, 0, none⟩ = some (.slice B m c) ∧ w'.cell? ⟨w1.heap.size + 1, 0, none⟩ = some (.bool false) ∧ w'.cell? ⟨w1.heap.size + 1, 1, none⟩ = some (.int .i64 0) ∧ w'.cell? ⟨w1.heap.size + 1, 2, none⟩ = some (.int .i64 0) ∧ w'.cell? ⟨w3.heap.size, 0, none⟩ = some (.slice A0 (ceL xs L false 0 0).length q0) ∧ w'.cell? ⟨w3.heap.size, 1, none⟩ = some (.int .i64 (ceE xs L false 0 0)) ∧ w'.cell? ⟨w3.heap.size, 2, none⟩ = some (.int .i64 (ceV xs L false 0 0)) ∧ w'.cell? ⟨w3.heap.size, 3, none⟩ = some (.slice A1 (ceH xs L false 0 0).length q1)) [] (by kernel_rfl) ?_
  generalize W3.drew = U at *
  refine wpAnyZ_take (i := 0) (v := ?_) rfl (by kernel_rfl) (fun _ _ _ h => h) (Or.inl ⟨by rfl, ?_⟩) (⟨ct, cx0, cx1, cx2, cr0, cr1, cr2, cr3⟩) ?_
  rotate_left 1
  · (intro w hSw; (try dsimp only at hSw); go_simp; try with_reducible rfl)
  try simp only [Act.put, List.setIfInBounds_toArray, List.set_cons_zero, List.set_cons_succ]
  refine wpAnyZ_take (i := 1) (v := ?_) rfl (by kernel_rfl) (fun _ _ _ h => h) (Or.inl ⟨by rfl, ?_⟩) (⟨ct, cx0, cx1, cx2, cr0, cr1, cr2, cr3⟩) ?_
  rotate_left 1
  · (intro w hSw; (try dsimp only at hSw); go_simp; try with_reducible rfl)
  try simp only [Act.put, List.setIfInBounds_toArray, List.set_cons_zero, List.set_cons_succ]
  refine wpAnyZ_take (i := 2) (v := ?_) rfl (by kernel_rfl) (fun _ _ _ h => h) (Or.inl ⟨by rfl, ?_⟩) (⟨ct, cx0, cx1, cx2, cr0, cr1, cr2, cr3⟩) ?_
  rotate_left 1
  · (intro w hSw; (try dsimp only at hSw); go_simp; try with_reducible rfl)
  try simp only [Act.put, List.setIfInBounds_toArray, List.set_cons_zero, List.set_cons_succ]
  refine wpAnyZ_take (i := 3) (v := ?_) rfl (by kernel_rfl) (fun _ _ _ h => h) (Or.inl ⟨by rfl, ?_⟩) (⟨ct, cx0, cx1, cx2, cr0, cr1, cr2, cr3⟩) ?_
  rotate_left 1
  · (intro w hSw; (try dsimp only at hSw); go_simp; try with_reducible rfl)
  try simp only [Act.put, List.setIfInBounds_toArray, List.set_cons_zero, List.set_cons_succ]
  refine wpAnyZ_one (i := 4) (by kernel_rfl) (ReadyZ.mk rfl (fun K hK => ?_))
  go_simp
  go_at_call 12
  refine (Calls.ce (sCloseExits_any B D m c _ d xs L false 0 0 hcl hkk _ S S2)).mono ?_
  rintro e u1 ⟨A2, q2, A3, q3, rfl, S5, S6, hle⟩
  replace ct := (hle.cell zt).trans ct
  replace cx0 := (hle.cell zx0).trans cx0
  replace cx1 := (hle.cell zx1).trans cx1
  replace cx2 := (hle.cell zx2).trans cx2
  replace cr0 := (hle.cell zr0).trans cr0
  replace cr1 := (hle.cell zr1).trans cr1
  replace cr2 := (hle.cell zr2).trans cr2
  replace cr3 := (hle.cell zr3).trans cr3
  replace zt := Nat.lt_of_lt_of_le zt hle.size
  replace zx0 := Nat.lt_of_lt_of_le zx0 hle.size
  replace zx1 := Nat.lt_of_lt_of_le zx1 hle.size
  replace zx2 := Nat.lt_of_lt_of_le zx2 hle.size
  replace zr0 := Nat.lt_of_lt_of_le zr0 hle.size
  replace zr1 := Nat.lt_of_lt_of_le zr1 hle.size
  replace zr2 := Nat.lt_of_lt_of_le zr2 hle.size
  replace zr3 := Nat.lt_of_lt_of_le zr3 hle.size
  replace S := S.le hle
  replace L0 := L0.trans hle
  replace S2 := S2.le hle
  replace S3 := S3.le hle
  replace S4 := S4.le hle
  clear hle
  refine hK.out _ _ (fun _ => ⟨ct, cx0, cx1, cx2, cr0, cr1, cr2, cr3⟩) ?_
  clear hK K
  try simp only [Act.put, List.setIfInBounds_toArray, List.set_cons_zero, List.set_cons_succ]
  refine wpAnyZ_one (i := 5) (by kernel_rfl) (ReadyZ.mk rfl (fun K hK => ?_))
  go_simp
  go_at_call 11
  refine (equalResult_self _ _ _ _ _ _ _ _ _ _ (ceL xs L false 0 0) (ceH xs L false 0 0) _ _ _ S3 S5 S4 S6).mono ?_
  rintro e u2 ⟨rfl, hle⟩
  replace ct := (hle.cell zt).trans ct
  replace cx0 := (hle.cell zx0).trans cx0
  replace cx1 := (hle.cell zx1).trans cx1
  replace cx2 := (hle.cell zx2).trans cx2
  replace cr0 := (hle.cell zr0).trans cr0
  replace cr1 := (hle.cell zr1).trans cr1
  replace cr2 := (hle.cell zr2).trans cr2
  replace cr3 := (hle.cell zr3).trans cr3
  replace zt := Nat.lt_of_lt_of_le zt hle.size
  replace zx0 := Nat.lt_of_lt_of_le zx0 hle.size
  replace zx1 := Nat.lt_of_lt_of_le zx1 hle.size
  replace zx2 := Nat.lt_of_lt_of_le zx2 hle.size
  replace zr0 := Nat.lt_of_lt_of_le zr0 hle.size
  replace zr1 := Nat.lt_of_lt_of_le zr1 hle.size
  replace zr2 := Nat.lt_of_lt_of_le zr2 hle.size
  replace zr3 := Nat.lt_of_lt_of_le zr3 hle.size
  replace S := S.le hle
  replace L0 := L0.trans hle
  replace S2 := S2.le hle
  replace S3 := S3.le hle
  replace S4 := S4.le hle
  clear hle S5 S6
  refine hK.out _ _ (fun _ => ⟨ct, cx0, cx1, cx2, cr0, cr1, cr2, cr3⟩) ?_
  clear hK K
  try simp only [Act.put, List.setIfInBounds_toArray, List.set_cons_zero, List.set_cons_succ]
  refine wpAnyZ_take (i := 6) (v := ?_) rfl (by kernel_rfl) (fun _ _ _ h => h) (Or.inl ⟨by rfl, ?_⟩) (⟨ct, cx0, cx1, cx2, cr0, cr1, cr2, cr3⟩) ?_
  rotate_left 1
  · (intro w hSw; (try dsimp only at hSw); go_simp; try with_reducible rfl)
  try simp only [Act.put, List.setIfInBounds_toArray, List.set_cons_zero, List.set_cons_succ]
  refine wpAnyZ_take (i := 7) (v := ?_) rfl (by kernel_rfl) (fun _ _ _ h => h) (Or.inl ⟨by rfl, ?_⟩) (⟨ct, cx0, cx1, cx2, cr0, cr1, cr2, cr3⟩) ?_
  rotate_left 1
  · (intro w hSw; (try dsimp only at hSw); go_simp; try with_reducible rfl)
  try simp only [Act.put, List.setIfInBounds_toArray, List.set_cons_zero, List.set_cons_succ]
  refine wpAnyZ_take (i := 8) (v := ?_) rfl (by kernel_rfl) (fun _ _ _ h => h) (Or.inl ⟨by rfl, ?_⟩) (⟨ct, cx0, cx1, cx2, cr0, cr1, cr2, cr3⟩) ?_
  rotate_left 1
  · (intro w hSw; (try dsimp only at hSw); go_simp; try with_reducible rfl)
  try simp only [Act.put, List.setIfInBounds_toArray, List.set_cons_zero, List.set_cons_succ]
  refine wpAnyZ_take (i := 9) (v := ?_) rfl (by kernel_rfl) (fun _ _ _ h => h) (Or.inl ⟨by rfl, ?_⟩) (⟨ct, cx0, cx1, cx2, cr0, cr1, cr2, cr3⟩) ?_
  rotate_left 1
  · (intro w hSw; (try dsimp only at hSw); go_simp; try with_reducible rfl)
  try simp only [Act.put, List.setIfInBounds_toArray, List.set_cons_zero, List.set_cons_succ]
  refine wpAnyZ_one (i := 10) (by kernel_rfl) (ReadyZ.mk rfl (fun K hK => ?_))
  go_simp
  go_at_call 13
  refine (Calls.val (iValidExits_any B D m c _ d xs L _ S S2) (by rw [hv])).mono ?_
  rintro e u3 ⟨rfl, hle⟩
  replace ct := (hle.cell zt).trans ct
  replace cx0 := (hle.cell zx0).trans cx0
  replace cx1 := (hle.cell zx1).trans cx1
  replace cx2 := (hle.cell zx2).trans cx2
  replace cr0 := (hle.cell zr0).trans cr0
  replace cr1 := (hle.cell zr1).trans cr1
  replace cr2 := (hle.cell zr2).trans cr2
  replace cr3 := (hle.cell zr3).trans cr3
  replace zt := Nat.lt_of_lt_of_le zt hle.size
  replace zx0 := Nat.lt_of_lt_of_le zx0 hle.size
  replace zx1 := Nat.lt_of_lt_of_le zx1 hle.size
  replace zx2 := Nat.lt_of_lt_of_le zx2 hle.size
  replace zr0 := Nat.lt_of_lt_of_le zr0 hle.size
  replace zr1 := Nat.lt_of_lt_of_le zr1 hle.size
  replace zr2 := Nat.lt_of_lt_of_le zr2 hle.size
  replace zr3 := Nat.lt_of_lt_of_le zr3 hle.size
  replace S := S.le hle
  replace L0 := L0.trans hle
  replace S2 := S2.le hle
  replace S3 := S3.le hle
  replace S4 := S4.le hle
  clear hle
  refine hK.out _ _ (fun _ => ⟨ct, cx0, cx1, cx2, cr0, cr1, cr2, cr3⟩) ?_
  clear hK K
  try simp only [Act.put, List.setIfInBounds_toArray, List.set_cons_zero, List.set_cons_succ]
  refine wpAnyZ_take (i := 11) (v := ?_) rfl (by kernel_rfl) (fun _ _ _ h => h) (Or.inl ⟨by rfl, ?_⟩) (⟨ct, cx0, cx1, cx2, cr0, cr1, cr2, cr3⟩) ?_
  rotate_left 1
  · (intro w hSw; (try dsimp only at hSw); go_simp; try with_reducible rfl)
  try simp only [Act.put, List.setIfInBounds_toArray, List.set_cons_zero, List.set_cons_succ]
  refine wpAnyZ_take (i := 12) (v := ?_) rfl (by kernel_rfl) (fun _ _ _ h => h) (Or.inl ⟨by rfl, ?_⟩) (⟨ct, cx0, cx1, cx2, cr0, cr1, cr2, cr3⟩) ?_
  rotate_left 1
  · (intro w hSw; (try dsimp only at hSw); go_simp; try with_reducible rfl)
  try simp only [Act.put, List.setIfInBounds_toArray, List.set_cons_zero, List.set_cons_succ]
  refine wpAnyZ_take (i := 13) (v := ?_) rfl (by kernel_rfl) (fun _ _ _ h => h) (Or.inl ⟨by rfl, ?_⟩) (⟨ct, cx0, cx1, cx2, cr0, cr1, cr2, cr3⟩) ?_
  rotate_left 1
  · (intro w hSw; (try dsimp only at hSw); go_simp; try with_reducible rfl)
  try simp only [Act.put, List.setIfInBounds_toArray, List.set_cons_zero, List.set_cons_succ]
  refine wpAnyZ_take (i := 14) (v := ?_) rfl (by kernel_rfl) (fun _ _ _ h => h) (Or.inl ⟨by rfl, ?_⟩) (⟨ct, cx0, cx1, cx2, cr0, cr1, cr2, cr3⟩) ?_
  rotate_left 1
  · (intro w hSw; (try dsimp only at hSw); go_simp; try with_reducible rfl)
  try simp only [Act.put, List.setIfInBounds_toArray, List.set_cons_zero, List.set_cons_succ]
  refine wpAnyZ_take (i := 15) (v := ?_) rfl (by kernel_rfl) (fun _ _ _ h => h) (Or.inl ⟨by rfl, ?_⟩) (⟨ct, cx0, cx1, cx2, cr0, cr1, cr2, cr3⟩) ?_
  rotate_left 1
  · (intro w hSw; (try dsimp only at hSw); go_simp; try with_reducible rfl)
  try simp only [Act.put, List.setIfInBounds_toArray, List.set_cons_zero, List.set_cons_succ]
  refine wpAnyZ_take (i := 16) (v := ?_) rfl (by kernel_rfl) (fun _ _ _ h => h) (Or.inl ⟨by rfl, ?_⟩) (⟨ct, cx0, cx1, cx2, cr0, cr1, cr2, cr3⟩) ?_
  rotate_left 1
  · (intro w hSw; (try dsimp only at hSw); go_simp; try with_reducible rfl)
  try simp only [Act.put, List.setIfInBounds_toArray, List.set_cons_zero, List.set_cons_succ]
  refine wpAnyZ_take (i := 17) (v := ?_) rfl (by kernel_rfl) (fun _ _ _ h => h) (Or.inl ⟨by rfl, ?_⟩) (⟨ct, cx0, cx1, cx2, cr0, cr1, cr2, cr3⟩) ?_
  rotate_left 1
  · (intro w hSw; (try dsimp only at hSw); go_simp; try with_reducible rfl)
  try simp only [Act.put, List.setIfInBounds_toArray, List.set_cons_zero, List.set_cons_succ]
  refine wpAnyZ_take (i := 18) (v := ?_) rfl (by kernel_rfl) (fun _ _ _ h => h) (Or.inl ⟨by rfl, ?_⟩) (⟨ct, cx0, cx1, cx2, cr0, cr1, cr2, cr3⟩) ?_
  rotate_left 1
  · (intro w hSw; (try dsimp only at hSw); go_simp; try with_reducible rfl)
  try simp only [Act.put, List.setIfInBounds_toArray, List.set_cons_zero, List.set_cons_succ]
  refine wpAnyZ_take (i := 19) (v := ?_) rfl (by kernel_rfl) (fun _ _ _ h => h) (Or.inl ⟨by rfl, ?_⟩) (⟨ct, cx0, cx1, cx2, cr0, cr1, cr2, cr3⟩) ?_
  rotate_left 1
  · (intro w hSw; (try dsimp only at hSw); go_simp; try with_reducible rfl)
  try simp only [Act.put, List.setIfInBounds_toArray, List.set_cons_zero, List.set_cons_succ]
  refine wpAnyZ_take (i := 20) (v := ?_) rfl (by kernel_rfl) (fun _ _ _ h => h) (Or.inl ⟨by rfl, ?_⟩) (⟨ct, cx0, cx1, cx2, cr0, cr1, cr2, cr3⟩) ?_
  rotate_left 1
  · (intro w hSw; (try dsimp only at hSw); go_simp; try with_reducible rfl)
  try simp only [Act.put, List.setIfInBounds_toArray, List.set_cons_zero, List.set_cons_succ]
  refine wpAnyZ_take (i := 21) (v := ?_) rfl (by kernel_rfl) (fun _ _ _ h => h) (Or.inl ⟨by rfl, ?_⟩) (⟨ct, cx0, cx1, cx2, cr0, cr1, cr2, cr3⟩) ?_
  rotate_left 1
  · (intro w hSw; (try dsimp only at hSw); go_simp; try with_reducible rfl)
  try simp only [Act.put, List.setIfInBounds_toArray, List.set_cons_zero, List.set_cons_succ]
  refine wpAnyZ_take (i := 22) (v := ?_) rfl (by kernel_rfl) (fun _ _ _ h => h) (Or.inl ⟨by rfl, ?_⟩) (⟨ct, cx0, cx1, cx2, cr0, cr1, cr2, cr3⟩) ?_
  rotate_left 1
  · (intro w hSw; (try dsimp only at hSw); go_simp; try with_reducible rfl)
  try simp only [Act.put, List.setIfInBounds_toArray, List.set_cons_zero, List.set_cons_succ]
  refine wpAnyZ_take (i := 23) (v := ?_) rfl (by kernel_rfl) (fun _ _ _ h => h) (Or.inl ⟨by rfl, ?_⟩) (⟨ct, cx0, cx1, cx2, cr0, cr1, cr2, cr3⟩) ?_
  rotate_left 1
  · (intro w hSw; (try dsimp only at hSw); go_simp; try with_reducible rfl)
  try simp only [Act.put, List.setIfInBounds_toArray, List.set_cons_zero, List.set_cons_succ]
  refine wpAnyZ_take (i := 24) (v := ?_) rfl (by kernel_rfl) (fun _ _ _ h => h) (Or.inl ⟨by rfl, ?_⟩) (⟨ct, cx0, cx1, cx2, cr0, cr1, cr2, cr3⟩) ?_
  rotate_left 1
  · (intro w hSw; (try dsimp only at hSw); go_simp; try with_reducible rfl)
  try simp only [Act.put, List.setIfInBounds_toArray, List.set_cons_zero, List.set_cons_succ]
  refine wpAnyZ_take (i := 25) (v := ?_) rfl (by kernel_rfl) (fun _ _ _ h => h) (Or.inl ⟨by rfl, ?_⟩) (⟨ct, cx0, cx1, cx2, cr0, cr1, cr2, cr3⟩) ?_
  rotate_left 1
  · (intro w hSw; (try dsimp only at hSw); go_simp; try with_reducible rfl)
  try simp only [Act.put, List.setIfInBounds_toArray, List.set_cons_zero, List.set_cons_succ]
  refine wpAnyZ_take (i := 26) (v := ?_) rfl (by kernel_rfl) (fun _ _ _ h => h) (Or.inl ⟨by rfl, ?_⟩) (⟨ct, cx0, cx1, cx2, cr0, cr1, cr2, cr3⟩) ?_
  rotate_left 1
  · (intro w hSw; (try dsimp only at hSw); go_simp; try with_reducible rfl)
  try simp only [Act.put, List.setIfInBounds_toArray, List.set_cons_zero, List.set_cons_succ]
  refine wpAnyZ_done (by kernel_rfl) ?_ _
  refine NoPanic.normal ?_
  have HT : Hid ((∀ x ∈ L, x.kind ≠ 3) → (ceL xs L false 0 0).length = c0N L ∧ ceE xs L false 0 0 = 0) := tell_ce hv
  have HLE := Lib.hid (c0N_le L)
  clear hcl hkk hb S S3 S4 hv ct cx0 cx1 cx2 cr2 cr3
  go_wp2
  go_loopw [7, 8] (fun s i wr => ∃ j : Nat, j ≤ L.length ∧ s = .int .i64 (c0N (L.take j) : Nat) ∧ i = .int .i64 j ∧ Hid (∀ x ∈ L.take j, x.kind ≠ 3) ∧ Le u3 wr) (fun _ i _ => L.length - (intOf i).toNat)
  case atStart => exact ⟨0, Nat.zero_le _, rfl, rfl, (fun x hx => nomatch hx), Le.refl _⟩
  case round =>
    obtain ⟨j, hj, rfl, rfl, H3, hle⟩ := hrel
    replace cr0 := (hle.cell zr0).trans cr0
    replace cr1 := (hle.cell zr1).trans cr1
    replace zr0 := Nat.lt_of_lt_of_le zr0 hle.size
    replace zr1 := Nat.lt_of_lt_of_le zr1 hle.size
    replace L0 := L0.trans hle
    replace S2 := S2.le hle
    have HN := Lib.hid (c0N_le (L.take j))
    by_cases hlt : j < L.length
    · obtain ⟨b, off, rfl, hb1, d0, -⟩ := S2.xit_at hlt
      have HC := Lib.hid (c0N_take hlt)
      have hji : (0 : Int) ≤ (j : Int) := by omega
      have hjn : (j : Int) < (L.length : Int) := by omega
      by_cases h3 : L[j].kind = 3
      · have h3b : (L[j].kind == 3) = true := by simpa using h3
        generalize L[j].kind = vk at *
        clear HC h3
        go_wp2
        go_ret
        exact ⟨rfl, L0⟩
      have h3b : (L[j].kind == 3) = false := by simpa using h3
      have H4 : Hid (∀ x ∈ L.take (j + 1), x.kind ≠ 3) := fun x hx => by
        rw [List.take_succ_eq_append_getElem hlt] at hx
        rcases List.mem_append.1 hx with h | h
        · exact H3.out x h
        · rw [List.mem_singleton] at h; rw [h]; exact h3
      clear h3 H3
      have hcn : c0N (L.take j) ≤ 8 := by have h := HN.out; rw [List.length_take] at h; omega
      have HCN := Lib.hid hcn
      by_cases h0 : L[j].kind = 0
      · have h0b : (L[j].kind == 0) = true := by simpa using h0
        have HC2 : Hid (c0N (L.take (j + 1)) = c0N (L.take j) + 1) := by show _ = _; rw [HC.out, if_pos h0]
        clear HC h0
        generalize L[j].kind = vk at *
        generalize c0N (L.take j) = cn at *
        go_wp2
        go_roundw
        case rel => exact ⟨j + 1, by omega, by rw [HC2.out]; go_num, by go_num, H4, hle⟩
        case measure => simp [intOf]; omega
      · have h0b : (L[j].kind == 0) = false := by simpa using h0
        have HC2 : Hid (c0N (L.take (j + 1)) = c0N (L.take j)) := by show _ = _; rw [HC.out, if_neg h0]; rfl
        clear HC h0 hcn
        generalize L[j].kind = vk at *
        generalize c0N (L.take j) = cn at *
        go_wp2
        go_roundw
        case rel => exact ⟨j + 1, by omega, by rw [HC2.out], by go_num, H4, hle⟩
        case measure => simp [intOf]; omega
    · have e : L.take j = L := List.take_of_length_le (by omega)
      rw [e] at H3 ⊢
      obtain ⟨t1, t2⟩ := HT.out H3.out
      rw [t1] at cr0
      rw [t2] at cr1
      have hq : ((c0N L : Nat) : Int) == ((c0N L : Nat) : Int) := by simp
      clear e t1 t2 H3 HN
      generalize c0N L = cn at *
      go_wp2
      go_ret
      exact ⟨rfl, L0⟩
end
end Go.Proofs.Ytonpgohigncjeaa
