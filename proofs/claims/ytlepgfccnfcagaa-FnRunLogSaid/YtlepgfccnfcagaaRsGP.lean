/- programs: the model's run: runLine -/
import Derived.Test.YtlepgfccnfcagaaRsFP
import Derived.Test.YtlepgfccnfcagaaWp9
namespace Go.Proofs.Ytlepgfccnfcagaa
open Go.RowKit
set_option maxHeartbeats 8000000 in
set_option maxRecDepth 100000 in
theorem sRunLine_any (R m c n cap : Nat) (B A : Option Addr) (xs : List Cls) (p : List Lin) (blk : Bls) (N : Nat) (HB : SbOk R m c n cap B A xs p blk (Cn p N)) (HFw : BFw xs p blk (Cn p N)) (g : GoodP xs p) (i : Nat) (hi : i < p.length) (hd : 5 ≤ dep p i + N) (h : Int) (s : Rst) (gd : Gd xs s.2) (hh : Hd h s) (hsm0 : Sm s) (hsm : Sm (stepN blk xs p h i s).2) (lv hv : Value) (w : World) (H : Rn w R B m c xs A n cap p lv hv s.1 s.2) :
    SpOk R m c n cap B A xs p 97 #[.pointer (some ⟨R, 0, none⟩), .int .i64 i, .int .i64 h] lv hv w (stepN blk xs p h i s) := by
  have hA : lnA p i = p[i].a := lnA_at hi
  have hBc : lnBc p i = p[i].b := lnBc_at hi
  have hK : knd p i = p[i].kind := knd_at hi
  have hh0 := hh.1
  have hh1 := hh.2
  have hx8 := (good_of g.tree).hi
  have hz := H.z
  have hl1 := hsm0.1
  have hl2 := hsm0.2
  obtain rfl := H.T.len
  have L0 := Le.new w (.cells #[.int .i64 0, .int .i64 0] 94)
  have H1 := H.le L0
  have c1 := H1.c1
  obtain ⟨b5, off5, rfl, hb5, d0, d1, d2, d3, -⟩ := H1.T.lin_at hi
  have hi0 : (0 : Int) ≤ (i : Int) := by omega
  have hin : (i : Int) < (p.length : Int) := by omega
  have hg1 : (w.alloc (.cells #[.int .i64 0, .int .i64 0] 94)).heap.size = w.heap.size + 1 := by simp
  by_cases k1 : p[i].kind = 1
  · have hk : knd p i = 1 := hK.trans k1
    rw [k1] at d1
    have ha := log_a g hi (.inl k1)
    have hE : stepN blk xs p h i s = (.nil, (s.1 ++ [lnA p i], s.2)) := by unfold stepN; rw [if_pos hk]
    rw [hE] at hsm ⊢
    clear hE
    rw [hA] at hsm ⊢
    obtain ⟨i0, hq, hz0, hz1, hz2⟩ := info_parts infoIntR
    obtain ⟨AL, cL, rfl⟩ := own_form H.O
    generalize p[i].depth = vd at *
    generalize p[i].a = va at *
    generalize p[i].b = vb at *
    have LX := Le.new (w.alloc (.cells #[.int .i64 0, .int .i64 0] 94)) (.cells #[.int .i64 vd, .int .i64 1, .int .i64 va, .int .i64 vb] 42)
    have LI := Lx.new H1 vd 1 va vb 42
    rw [hg1] at LI
    have b1 : ((w.alloc (.cells #[.int .i64 0, .int .i64 0] 94)).alloc (.cells #[.int .i64 vd, .int .i64 1, .int .i64 va, .int .i64 vb] 42)).cell? ⟨w.heap.size + 1, 1, none⟩ = some (.int .i64 1) := by rw [← hg1, World.cell?_alloc_at _ _ _ _ rfl]; rfl
    have BX := (Bx.new H (.int .i64 0) (.int .i64 0) 94).le LX
    have RN := H1.le LX
    have KQ := Kp.of_le R (.slice AL s.1.length cL) hv (L0.trans LX)
    have x2 := LI.c2
    have x3 := LI.c3
    have DV := (Le.refl ((w.alloc (.cells #[.int .i64 0, .int .i64 0] 94)).alloc (.cells #[.int .i64 vd, .int .i64 1, .int .i64 va, .int .i64 vb] 42))).drew
    unfold SpOk
    show Calls _ _ _ _ _
    go_enter Try.func97, Try.ntmps97
    go_wp2_with fail
    refine wp_region_noPanic ?_
    refine wp_region_Z (fun w' => w'.cell? ⟨R, 2, none⟩ = some (.slice AL s.1.length cL) ∧ w'.cell? ⟨w.heap.size + 1, 2, none⟩ = some (.int .i64 va)) [11] (by kernel_rfl) ?_
    replace LI := LI.le DV
    replace BX := BX.le DV
    replace RN := RN.le DV
    replace KQ := KQ.trans (Kp.of_le R _ hv DV)
    generalize ((w.alloc (.cells #[.int .i64 0, .int .i64 0] 94)).alloc (.cells #[.int .i64 vd, .int .i64 1, .int .i64 va, .int .i64 vb] 42)).drew = V at *
    clear x2 x3 b1 d0 d1 d2 d3 c1 H1 L0 LX hg1 DV
    have x2 := LI.c2
    have zG := LI.z
    have hlG := LI.l
    have hX : Enc.ok va := ⟨by omega, by omega⟩
    have c2V := RN.c2
    have f2V := RN.f2
    have zV := RN.z
    have OV := RN.O
    refine wpAnyZ_take (i := 0) (v := ?_) rfl (by kernel_rfl) (fun _ _ _ h => h) (Or.inl ⟨by rfl, ?_⟩) (⟨c2V, x2⟩) ?_
    rotate_left 1
    · (intro w hSw; (try dsimp only at hSw); go_simp; try with_reducible rfl)
    try simp only [Act.put, List.setIfInBounds_toArray, List.set_cons_zero, List.set_cons_succ]
    refine wpAnyZ_take (i := 1) (v := ?_) rfl (by kernel_rfl) (fun _ _ _ h => h) (Or.inl ⟨by rfl, ?_⟩) (⟨c2V, x2⟩) ?_
    rotate_left 1
    · (intro w hSw; (try dsimp only at hSw); go_simp; try with_reducible rfl)
    try simp only [Act.put, List.setIfInBounds_toArray, List.set_cons_zero, List.set_cons_succ]
    refine wpAnyZ_take (i := 2) (v := ?_) rfl (by kernel_rfl) (fun _ _ _ h => h) (Or.inl ⟨by rfl, ?_⟩) (⟨c2V, x2⟩) ?_
    rotate_left 1
    · (intro w hSw; (try dsimp only at hSw); go_simp; try with_reducible rfl)
    try simp only [Act.put, List.setIfInBounds_toArray, List.set_cons_zero, List.set_cons_succ]
    refine wpAnyZ_take (i := 3) (v := ?_) rfl (by kernel_rfl) (fun _ _ _ h => h) (Or.inl ⟨by rfl, ?_⟩) (⟨c2V, x2⟩) ?_
    rotate_left 1
    · (intro w hSw; (try dsimp only at hSw); go_simp; try with_reducible rfl)
    try simp only [Act.put, List.setIfInBounds_toArray, List.set_cons_zero, List.set_cons_succ]
    refine wpAnyZ_take (i := 4) (v := ?_) rfl (by kernel_rfl) (fun _ _ _ h => h) (Or.inl ⟨by rfl, ?_⟩) (⟨c2V, x2⟩) ?_
    rotate_left 1
    · (intro w hSw; (try dsimp only at hSw); go_simp; try with_reducible rfl)
    try simp only [Act.put, List.setIfInBounds_toArray, List.set_cons_zero, List.set_cons_succ]
    refine wpAnyZ_take (i := 5) (v := ?_) rfl (by kernel_rfl) (fun _ _ _ h => h) (Or.inl ⟨by rfl, ?_⟩) (⟨c2V, x2⟩) ?_
    rotate_left 1
    · (intro w hSw; (try dsimp only at hSw); go_simp; try with_reducible rfl)
    try simp only [Act.put, List.setIfInBounds_toArray, List.set_cons_zero, List.set_cons_succ]
    refine wpAnyZ_take (i := 6) (v := ?_) rfl (by kernel_rfl) (fun _ _ _ h => h) (Or.inl ⟨by rfl, ?_⟩) (⟨c2V, x2⟩) ?_
    rotate_left 1
    · (intro w hSw; (try dsimp only at hSw); go_simp; try with_reducible rfl)
    try simp only [Act.put, List.setIfInBounds_toArray, List.set_cons_zero, List.set_cons_succ]
    refine wpAnyZ_one (i := 7) (by kernel_rfl) (ReadyZ.mk rfl (fun K hK => ?_))
    go_simp
    have LN := Le.new V (.cells #[.int .i64 (va)] 3)
    have e2 := (LN.cell zV).trans c2V
    have ex := (LN.cell zG).trans x2
    refine hK.out _ _ (fun _ => ⟨e2, ex⟩) ?_
    clear hK K
    try simp only [Act.put, List.setIfInBounds_toArray, List.set_cons_zero, List.set_cons_succ]
    refine wpAnyZ_one (i := 8) (by kernel_rfl) (ReadyZ.mk rfl (fun K hK => ?_))
    refine step_append_sl rfl (.tmp 23) (.tmp 26) 29 rfl (R - 1) 3 i0 _ 8 Try.underlying29 hq hz0 hz1 hz2 rfl (.slice AL s.1.length cL) s.1.length s.1 rfl (OV.alloc _) _ 1 1 [va] rfl (sl_one (va) rfl hX rfl) (by unfold maxLen; omega) (by omega) (Nat.le_trans (by omega) LN.size) ?_
    intro v1 w4 O4 hg4 hbl
    have HP := Lib.hid (RN.told LN hX O4 hg4 hbl)
    have hneR : some R ≠ (Value.slice AL s.1.length cL).ownBlock := fun e => RN.lneR e.symm
    have k2 := hg4.cell (a := ⟨R, 2, none⟩) e2 hneR
    have k3 : w4.frozen? ⟨R, 2, none⟩ = false := (World.frozen?_of_block (a := ⟨R, 2, none⟩) (hg4.block R (Nat.lt_of_lt_of_le zV LN.size) hneR)).trans ((LN.frozen zV).trans f2V)
    have kx := hg4.cell (a := ⟨w.heap.size + 1, 2, none⟩) ex (fun e => hlG e.symm)
    obtain ⟨A1, q1, rfl⟩ := own_form O4
    refine hK.out _ _ (fun _ => ⟨k2, kx⟩) ?_
    clear hK K
    try simp only [Act.put, List.setIfInBounds_toArray, List.set_cons_zero, List.set_cons_succ]
    refine wpAnyZ_take (i := 9) (v := ?_) rfl (by kernel_rfl) (fun _ _ _ h => h) (Or.inl ⟨by rfl, ?_⟩) (⟨k2, kx⟩) ?_
    rotate_left 1
    · (intro w hSw; (try dsimp only at hSw); go_simp; try with_reducible rfl)
    try simp only [Act.put, List.setIfInBounds_toArray, List.set_cons_zero, List.set_cons_succ]
    refine wpAnyZ_take (i := 10) (v := ?_) rfl (by kernel_rfl) (fun _ _ _ h => h) (Or.inl ⟨by rfl, ?_⟩) (⟨k2, kx⟩) ?_
    rotate_left 1
    · (intro w hSw; (try dsimp only at hSw); go_simp; try with_reducible rfl)
    try simp only [Act.put, List.setIfInBounds_toArray, List.set_cons_zero, List.set_cons_succ]
    refine wpAnyZ_one (i := 11) (by kernel_rfl) (ReadyZ.mk rfl (fun K hK => ?_))
    go_simp
    refine hK.out _ _ (fun h => absurd h (by decide)) ?_
    clear hK K
    try simp only [Act.put, List.setIfInBounds_toArray, List.set_cons_zero, List.set_cons_succ]
    refine wpAnyZ_done (by kernel_rfl) ?_ _
    refine NoPanic.normal ?_
    clear c2V f2V zV OV LN e2 ex O4 hg4 hbl k2 k3 kx hneR
    have RN2 := HP.out.1
    have BX2 := BX.kp HP.out.2
    have KQ2 := KQ.trans HP.out.2
    clear HP x2 zG hlG hX RN BX KQ LI
    generalize w4.setCell ⟨R, 2, none⟩ (.slice A1 (s.1.length + 1) q1) = W1 at *
    generalize (Value.slice A1 (s.1.length + 1) q1) = lv1 at *
    have b0 := BX2.c0
    have b01 := BX2.c1
    have f0 := BX2.f 0
    have f1 := BX2.f 1
    have HE := Lib.hid (And.intro (RN2.put2 BX2 hz (.int .i64 0) (.int .i64 0)) (KQ2.put2 (Nat.le_refl _) (.int .i64 0) (.int .i64 0)))
    have HZ := Lib.hid (BX2.put (.int .i64 0) (.int .i64 0))
    clear RN2 BX2 KQ2
    go_wp2
    have z0 := HZ.out.c0
    have z1 := HZ.out.c1
    exact bodyPost_ret (v := .agg #[.int .i64 0, .int .i64 0]) (by simp [results, Try.results97, go_sem, z0, z1]) rfl ⟨rfl, _, _, HE.out.1, HE.out.2⟩
  by_cases k2 : p[i].kind = 2
  · have hk : knd p i = 2 := hK.trans k2
    rw [k2] at d1
    have ha := raise_ab g hi k2
    have hE : stepN blk xs p h i s = rsN (lnA p i) (lnBc p i) h s := by unfold stepN; rw [if_neg (by rw [hk]; decide), if_pos hk]
    rw [hE] at hsm ⊢
    clear hE
    rw [hA, hBc] at hsm ⊢
    generalize p[i].depth = vd at *
    generalize p[i].a = va at *
    generalize p[i].b = vb at *
    have LX := Le.new (w.alloc (.cells #[.int .i64 0, .int .i64 0] 94)) (.cells #[.int .i64 vd, .int .i64 2, .int .i64 va, .int .i64 vb] 42)
    have LI := Lx.new H1 vd 2 va vb 42
    rw [hg1] at LI
    have b1 : ((w.alloc (.cells #[.int .i64 0, .int .i64 0] 94)).alloc (.cells #[.int .i64 vd, .int .i64 2, .int .i64 va, .int .i64 vb] 42)).cell? ⟨w.heap.size + 1, 1, none⟩ = some (.int .i64 2) := by rw [← hg1, World.cell?_alloc_at _ _ _ _ rfl]; rfl
    have BX := (Bx.new H (.int .i64 0) (.int .i64 0) 94).le LX
    have RN := H1.le LX
    have KQ := Kp.of_le R lv hv (L0.trans LX)
    have x2 := LI.c2
    have x3 := LI.c3
    have HC := sRaise_any R m c p.length cap B _ xs p lv hv s va vb h (by omega) (by omega) gd hh hl2 _ RN
    generalize rsN va vb h s = T at *
    unfold SpOk
    show Calls _ _ _ _ _
    go_enter Try.func97, Try.ntmps97
    go_wp2_with fail
    refine (show Calls _ _ _ _ _ from HC).mono ?_
    rintro e w2 ⟨rfl, lv2, hv2, RN2, KP2⟩
    have BX2 := BX.kp KP2
    have KQ2 := KQ.trans KP2
    have b0 := BX2.c0
    have b01 := BX2.c1
    have f0 := BX2.f 0
    have f1 := BX2.f 1
    have HE := Lib.hid (And.intro (RN2.put2 BX2 hz (.int .i64 (edK T.1)) (.int .i64 (edW T.1))) (KQ2.put2 (Nat.le_refl _) (.int .i64 (edK T.1)) (.int .i64 (edW T.1))))
    have HZ := Lib.hid (BX2.put (.int .i64 (edK T.1)) (.int .i64 (edW T.1)))
    clear RN2 KP2 BX2 KQ2 RN BX KQ LI
    go_wp2
    have z0 := HZ.out.c0
    have z1 := HZ.out.c1
    exact bodyPost_ret (v := .agg #[.int .i64 (edK T.1), .int .i64 (edW T.1)]) (by simp [results, Try.results97, go_sem, z0, z1]) rfl ⟨rfl, _, _, HE.out.1, HE.out.2⟩
  by_cases k3 : p[i].kind = 3
  · have hk : knd p i = 3 := hK.trans k3
    rw [k3] at d1
    have hE : stepN blk xs p h i s = againN h s := by unfold stepN; rw [if_neg (by rw [hk]; decide), if_neg (by rw [hk]; decide), if_pos hk]
    rw [hE] at hsm ⊢
    clear hE
    generalize p[i].depth = vd at *
    generalize p[i].a = va at *
    generalize p[i].b = vb at *
    have LX := Le.new (w.alloc (.cells #[.int .i64 0, .int .i64 0] 94)) (.cells #[.int .i64 vd, .int .i64 3, .int .i64 va, .int .i64 vb] 42)
    have LI := Lx.new H1 vd 3 va vb 42
    rw [hg1] at LI
    have b1 : ((w.alloc (.cells #[.int .i64 0, .int .i64 0] 94)).alloc (.cells #[.int .i64 vd, .int .i64 3, .int .i64 va, .int .i64 vb] 42)).cell? ⟨w.heap.size + 1, 1, none⟩ = some (.int .i64 3) := by rw [← hg1, World.cell?_alloc_at _ _ _ _ rfl]; rfl
    have BX := (Bx.new H (.int .i64 0) (.int .i64 0) 94).le LX
    have RN := H1.le LX
    have KQ := Kp.of_le R lv hv (L0.trans LX)
    have x2 := LI.c2
    have x3 := LI.c3
    have HC := sAgain_any R m c p.length cap B _ xs p lv hv s h gd hh hl2 _ RN
    generalize againN h s = T at *
    unfold SpOk
    show Calls _ _ _ _ _
    go_enter Try.func97, Try.ntmps97
    go_wp2_with fail
    refine (show Calls _ _ _ _ _ from HC).mono ?_
    rintro e w2 ⟨rfl, lv2, hv2, RN2, KP2⟩
    have BX2 := BX.kp KP2
    have KQ2 := KQ.trans KP2
    have b0 := BX2.c0
    have b01 := BX2.c1
    have f0 := BX2.f 0
    have f1 := BX2.f 1
    have HE := Lib.hid (And.intro (RN2.put2 BX2 hz (.int .i64 (edK T.1)) (.int .i64 (edW T.1))) (KQ2.put2 (Nat.le_refl _) (.int .i64 (edK T.1)) (.int .i64 (edW T.1))))
    have HZ := Lib.hid (BX2.put (.int .i64 (edK T.1)) (.int .i64 (edW T.1)))
    clear RN2 KP2 BX2 KQ2 RN BX KQ LI
    go_wp2
    have z0 := HZ.out.c0
    have z1 := HZ.out.c1
    exact bodyPost_ret (v := .agg #[.int .i64 (edK T.1), .int .i64 (edW T.1)]) (by simp [results, Try.results97, go_sem, z0, z1]) rfl ⟨rfl, _, _, HE.out.1, HE.out.2⟩
  by_cases k4 : p[i].kind = 4
  · have hk : knd p i = 4 := hK.trans k4
    rw [k4] at d1
    have hE : stepN blk xs p h i s = (.ret (lnA p i), s) := by unfold stepN; rw [if_neg (by rw [hk]; decide), if_neg (by rw [hk]; decide), if_neg (by rw [hk]; decide), if_pos hk]
    rw [hE] at hsm ⊢
    clear hE
    rw [hA] at hsm ⊢
    generalize p[i].depth = vd at *
    generalize p[i].a = va at *
    generalize p[i].b = vb at *
    have b1 : ((w.alloc (.cells #[.int .i64 0, .int .i64 0] 94)).alloc (.cells #[.int .i64 vd, .int .i64 4, .int .i64 va, .int .i64 vb] 42)).cell? ⟨w.heap.size + 1, 1, none⟩ = some (.int .i64 4) := by rw [← hg1, World.cell?_alloc_at _ _ _ _ rfl]; rfl
    have LI := Lx.new H1 vd 4 va vb 42
    rw [hg1] at LI
    have x2 := LI.c2
    unfold SpOk
    show Calls _ _ _ _ _
    go_enter Try.func97, Try.ntmps97
    go_wp2
    have LM := (Le.new w (.cells #[.int .i64 1, .int .i64 va] 94)).trans (Le.new (w.alloc (.cells #[.int .i64 1, .int .i64 va] 94)) (.cells #[.int .i64 vd, .int .i64 4, .int .i64 va, .int .i64 vb] 42))
    exact bodyPost_ret (v := .agg #[.int .i64 1, .int .i64 va]) (by simp [results, Try.results97, go_sem]) rfl ⟨rfl, _, _, H.le LM, Kp.of_le R lv hv LM⟩
  by_cases k5 : p[i].kind = 5
  · have hk : knd p i = 5 := hK.trans k5
    rw [k5] at d1
    have hE : stepN blk xs p h i s = (.brk, s) := by unfold stepN; rw [if_neg (by rw [hk]; decide), if_neg (by rw [hk]; decide), if_neg (by rw [hk]; decide), if_neg (by rw [hk]; decide), if_pos hk]
    rw [hE] at hsm ⊢
    clear hE
    generalize p[i].depth = vd at *
    generalize p[i].a = va at *
    generalize p[i].b = vb at *
    have b1 : ((w.alloc (.cells #[.int .i64 0, .int .i64 0] 94)).alloc (.cells #[.int .i64 vd, .int .i64 5, .int .i64 va, .int .i64 vb] 42)).cell? ⟨w.heap.size + 1, 1, none⟩ = some (.int .i64 5) := by rw [← hg1, World.cell?_alloc_at _ _ _ _ rfl]; rfl
    have LI := Lx.new H1 vd 5 va vb 42
    rw [hg1] at LI
    have x2 := LI.c2
    unfold SpOk
    show Calls _ _ _ _ _
    go_enter Try.func97, Try.ntmps97
    go_wp2
    have LM := (Le.new w (.cells #[.int .i64 3, .int .i64 0] 94)).trans (Le.new (w.alloc (.cells #[.int .i64 3, .int .i64 0] 94)) (.cells #[.int .i64 vd, .int .i64 5, .int .i64 va, .int .i64 vb] 42))
    exact bodyPost_ret (v := .agg #[.int .i64 3, .int .i64 0]) (by simp [results, Try.results97, go_sem]) rfl ⟨rfl, _, _, H.le LM, Kp.of_le R lv hv LM⟩
  by_cases k6 : p[i].kind = 6
  · have hk : knd p i = 6 := hK.trans k6
    rw [k6] at d1
    have hE : stepN blk xs p h i s = (.cnt, s) := by unfold stepN; rw [if_neg (by rw [hk]; decide), if_neg (by rw [hk]; decide), if_neg (by rw [hk]; decide), if_neg (by rw [hk]; decide), if_neg (by rw [hk]; decide), if_pos hk]
    rw [hE] at hsm ⊢
    clear hE
    generalize p[i].depth = vd at *
    generalize p[i].a = va at *
    generalize p[i].b = vb at *
    have b1 : ((w.alloc (.cells #[.int .i64 0, .int .i64 0] 94)).alloc (.cells #[.int .i64 vd, .int .i64 6, .int .i64 va, .int .i64 vb] 42)).cell? ⟨w.heap.size + 1, 1, none⟩ = some (.int .i64 6) := by rw [← hg1, World.cell?_alloc_at _ _ _ _ rfl]; rfl
    have LI := Lx.new H1 vd 6 va vb 42
    rw [hg1] at LI
    have x2 := LI.c2
    unfold SpOk
    show Calls _ _ _ _ _
    go_enter Try.func97, Try.ntmps97
    go_wp2
    have LM := (Le.new w (.cells #[.int .i64 4, .int .i64 0] 94)).trans (Le.new (w.alloc (.cells #[.int .i64 4, .int .i64 0] 94)) (.cells #[.int .i64 vd, .int .i64 6, .int .i64 va, .int .i64 vb] 42))
    exact bodyPost_ret (v := .agg #[.int .i64 4, .int .i64 0]) (by simp [results, Try.results97, go_sem]) rfl ⟨rfl, _, _, H.le LM, Kp.of_le R lv hv LM⟩
  by_cases k7 : p[i].kind = 7
  · have hk : knd p i = 7 := hK.trans k7
    rw [k7] at d1
    have hE : stepN blk xs p h i s = tryN blk xs p i h s := by unfold stepN; rw [if_neg (by rw [hk]; decide), if_neg (by rw [hk]; decide), if_neg (by rw [hk]; decide), if_neg (by rw [hk]; decide), if_neg (by rw [hk]; decide), if_neg (by rw [hk]; decide), if_pos hk]
    rw [hE] at hsm ⊢
    clear hE
    generalize p[i].depth = vd at *
    generalize p[i].a = va at *
    generalize p[i].b = vb at *
    have LX := Le.new (w.alloc (.cells #[.int .i64 0, .int .i64 0] 94)) (.cells #[.int .i64 vd, .int .i64 7, .int .i64 va, .int .i64 vb] 42)
    have LI := Lx.new H1 vd 7 va vb 42
    rw [hg1] at LI
    have b1 : ((w.alloc (.cells #[.int .i64 0, .int .i64 0] 94)).alloc (.cells #[.int .i64 vd, .int .i64 7, .int .i64 va, .int .i64 vb] 42)).cell? ⟨w.heap.size + 1, 1, none⟩ = some (.int .i64 7) := by rw [← hg1, World.cell?_alloc_at _ _ _ _ rfl]; rfl
    have BX := (Bx.new H (.int .i64 0) (.int .i64 0) 94).le LX
    have RN := H1.le LX
    have KQ := Kp.of_le R lv hv (L0.trans LX)
    have x2 := LI.c2
    have x3 := LI.c3
    have HC := sRunTry_any R m c p.length cap B _ xs p blk (Cn p N) HB HFw g i hi (cn_parts hi hk hd) hk h s gd hh hsm lv hv _ RN
    generalize tryN blk xs p i h s = T at *
    unfold SpOk
    show Calls _ _ _ _ _
    go_enter Try.func97, Try.ntmps97
    go_wp2_with fail
    refine (show Calls _ _ _ _ _ from HC).mono ?_
    rintro e w2 ⟨rfl, lv2, hv2, RN2, KP2⟩
    have BX2 := BX.kp KP2
    have KQ2 := KQ.trans KP2
    have b0 := BX2.c0
    have b01 := BX2.c1
    have f0 := BX2.f 0
    have f1 := BX2.f 1
    have HE := Lib.hid (And.intro (RN2.put2 BX2 hz (.int .i64 (edK T.1)) (.int .i64 (edW T.1))) (KQ2.put2 (Nat.le_refl _) (.int .i64 (edK T.1)) (.int .i64 (edW T.1))))
    have HZ := Lib.hid (BX2.put (.int .i64 (edK T.1)) (.int .i64 (edW T.1)))
    clear RN2 KP2 BX2 KQ2 RN BX KQ LI
    go_wp2
    have z0 := HZ.out.c0
    have z1 := HZ.out.c1
    exact bodyPost_ret (v := .agg #[.int .i64 (edK T.1), .int .i64 (edW T.1)]) (by simp [results, Try.results97, go_sem, z0, z1]) rfl ⟨rfl, _, _, HE.out.1, HE.out.2⟩
  by_cases k11 : p[i].kind = 11
  · have hk : knd p i = 11 := hK.trans k11
    rw [k11] at d1
    have hE : stepN blk xs p h i s = withN blk p i h s := by unfold stepN; rw [if_neg (by rw [hk]; decide), if_neg (by rw [hk]; decide), if_neg (by rw [hk]; decide), if_neg (by rw [hk]; decide), if_neg (by rw [hk]; decide), if_neg (by rw [hk]; decide), if_neg (by rw [hk]; decide), if_pos hk]
    rw [hE] at hsm ⊢
    clear hE
    generalize p[i].depth = vd at *
    generalize p[i].a = va at *
    generalize p[i].b = vb at *
    have LX := Le.new (w.alloc (.cells #[.int .i64 0, .int .i64 0] 94)) (.cells #[.int .i64 vd, .int .i64 11, .int .i64 va, .int .i64 vb] 42)
    have LI := Lx.new H1 vd 11 va vb 42
    rw [hg1] at LI
    have b1 : ((w.alloc (.cells #[.int .i64 0, .int .i64 0] 94)).alloc (.cells #[.int .i64 vd, .int .i64 11, .int .i64 va, .int .i64 vb] 42)).cell? ⟨w.heap.size + 1, 1, none⟩ = some (.int .i64 11) := by rw [← hg1, World.cell?_alloc_at _ _ _ _ rfl]; rfl
    have BX := (Bx.new H (.int .i64 0) (.int .i64 0) 94).le LX
    have RN := H1.le LX
    have KQ := Kp.of_le R lv hv (L0.trans LX)
    have x2 := LI.c2
    have x3 := LI.c3
    have HC := sRunWith_any R m c p.length cap B _ xs p blk (Cn p N) HB HFw g i hi ⟨by rw [hk]; rfl, hd⟩ hk h s gd hh hsm lv hv _ RN
    generalize withN blk p i h s = T at *
    unfold SpOk
    show Calls _ _ _ _ _
    go_enter Try.func97, Try.ntmps97
    go_wp2_with fail
    refine (show Calls _ _ _ _ _ from HC).mono ?_
    rintro e w2 ⟨rfl, lv2, hv2, RN2, KP2⟩
    have BX2 := BX.kp KP2
    have KQ2 := KQ.trans KP2
    have b0 := BX2.c0
    have b01 := BX2.c1
    have f0 := BX2.f 0
    have f1 := BX2.f 1
    have HE := Lib.hid (And.intro (RN2.put2 BX2 hz (.int .i64 (edK T.1)) (.int .i64 (edW T.1))) (KQ2.put2 (Nat.le_refl _) (.int .i64 (edK T.1)) (.int .i64 (edW T.1))))
    have HZ := Lib.hid (BX2.put (.int .i64 (edK T.1)) (.int .i64 (edW T.1)))
    clear RN2 KP2 BX2 KQ2 RN BX KQ LI
    go_wp2
    have z0 := HZ.out.c0
    have z1 := HZ.out.c1
    exact bodyPost_ret (v := .agg #[.int .i64 (edK T.1), .int .i64 (edW T.1)]) (by simp [results, Try.results97, go_sem, z0, z1]) rfl ⟨rfl, _, _, HE.out.1, HE.out.2⟩
  by_cases k12 : p[i].kind = 12
  · have hk : knd p i = 12 := hK.trans k12
    rw [k12] at d1
    have hE : stepN blk xs p h i s = loopN blk i h (lnA p i).toNat s := by unfold stepN; rw [if_neg (by rw [hk]; decide), if_neg (by rw [hk]; decide), if_neg (by rw [hk]; decide), if_neg (by rw [hk]; decide), if_neg (by rw [hk]; decide), if_neg (by rw [hk]; decide), if_neg (by rw [hk]; decide), if_neg (by rw [hk]; decide), if_pos hk]
    rw [hE] at hsm ⊢
    clear hE
    generalize p[i].depth = vd at *
    generalize p[i].a = va at *
    generalize p[i].b = vb at *
    have LX := Le.new (w.alloc (.cells #[.int .i64 0, .int .i64 0] 94)) (.cells #[.int .i64 vd, .int .i64 12, .int .i64 va, .int .i64 vb] 42)
    have LI := Lx.new H1 vd 12 va vb 42
    rw [hg1] at LI
    have b1 : ((w.alloc (.cells #[.int .i64 0, .int .i64 0] 94)).alloc (.cells #[.int .i64 vd, .int .i64 12, .int .i64 va, .int .i64 vb] 42)).cell? ⟨w.heap.size + 1, 1, none⟩ = some (.int .i64 12) := by rw [← hg1, World.cell?_alloc_at _ _ _ _ rfl]; rfl
    have BX := (Bx.new H (.int .i64 0) (.int .i64 0) 94).le LX
    have RN := H1.le LX
    have KQ := Kp.of_le R lv hv (L0.trans LX)
    have x2 := LI.c2
    have x3 := LI.c3
    have HC := sRunLoop_any R m c p.length cap B _ xs p blk (Cn p N) HB HFw g i hi ⟨by rw [hk]; rfl, hd⟩ hk h s gd hh hsm lv hv _ RN
    generalize loopN blk i h (lnA p i).toNat s = T at *
    unfold SpOk
    show Calls _ _ _ _ _
    go_enter Try.func97, Try.ntmps97
    go_wp2_with fail
    refine (show Calls _ _ _ _ _ from HC).mono ?_
    rintro e w2 ⟨rfl, lv2, hv2, RN2, KP2⟩
    have BX2 := BX.kp KP2
    have KQ2 := KQ.trans KP2
    have b0 := BX2.c0
    have b01 := BX2.c1
    have f0 := BX2.f 0
    have f1 := BX2.f 1
    have HE := Lib.hid (And.intro (RN2.put2 BX2 hz (.int .i64 (edK T.1)) (.int .i64 (edW T.1))) (KQ2.put2 (Nat.le_refl _) (.int .i64 (edK T.1)) (.int .i64 (edW T.1))))
    have HZ := Lib.hid (BX2.put (.int .i64 (edK T.1)) (.int .i64 (edW T.1)))
    clear RN2 KP2 BX2 KQ2 RN BX KQ LI
    go_wp2
    have z0 := HZ.out.c0
    have z1 := HZ.out.c1
    exact bodyPost_ret (v := .agg #[.int .i64 (edK T.1), .int .i64 (edW T.1)]) (by simp [results, Try.results97, go_sem, z0, z1]) rfl ⟨rfl, _, _, HE.out.1, HE.out.2⟩
  have hE : stepN blk xs p h i s = (.nil, s) := by unfold stepN; rw [hK, if_neg k1, if_neg k2, if_neg k3, if_neg k4, if_neg k5, if_neg k6, if_neg k7, if_neg k11, if_neg k12]
  rw [hE]
  clear hE hsm
  generalize p[i].depth = vd at *
  generalize p[i].kind = vk at *
  generalize p[i].a = va at *
  generalize p[i].b = vb at *
  have e1 : decide (vk = 1) = false := decide_eq_false k1
  have e2 : decide (vk = 2) = false := decide_eq_false k2
  have e3 : decide (vk = 3) = false := decide_eq_false k3
  have e4 : decide (vk = 4) = false := decide_eq_false k4
  have e5 : decide (vk = 5) = false := decide_eq_false k5
  have e6 : decide (vk = 6) = false := decide_eq_false k6
  have e7 : decide (vk = 7) = false := decide_eq_false k7
  have e11 : decide (vk = 11) = false := decide_eq_false k11
  have e12 : decide (vk = 12) = false := decide_eq_false k12
  have b1 : ((w.alloc (.cells #[.int .i64 0, .int .i64 0] 94)).alloc (.cells #[.int .i64 vd, .int .i64 vk, .int .i64 va, .int .i64 vb] 42)).cell? ⟨w.heap.size + 1, 1, none⟩ = some (.int .i64 vk) := by rw [← hg1, World.cell?_alloc_at _ _ _ _ rfl]; rfl
  have LM := (Le.new w (.cells #[.int .i64 0, .int .i64 0] 94)).trans (Le.new (w.alloc (.cells #[.int .i64 0, .int .i64 0] 94)) (.cells #[.int .i64 vd, .int .i64 vk, .int .i64 va, .int .i64 vb] 42))
  unfold SpOk
  show Calls _ _ _ _ _
  go_enter Try.func97, Try.ntmps97
  go_wp2
  exact bodyPost_ret (v := .agg #[.int .i64 0, .int .i64 0]) (by simp [results, Try.results97, go_sem]) rfl ⟨rfl, _, _, H.le LM, Kp.of_le R lv hv LM⟩
end Go.Proofs.Ytlepgfccnfcagaa
