/- the law FnThenProgram -/
import Derived.Test.YtlepgfccnfcagaaWp16
import Derived.Test.YtlepgfccnfcagaaWp13
import Derived.Test.YtlepgfccnfcagaaWp17
import Derived.Test.YtlepgfccnfcagaaWp18
namespace Go.Proofs.Ytlepgfccnfcagaa
open Go.RowKit
theorem th_parts {xs : List Cls} {p q : List Lin} (h : thOk xs p q = true) : vp xs p = true ∧ vp xs q = true ∧ vp xs (p ++ q) = true ∧ thX xs p q = p ++ q := by
  unfold thOk at h
  rw [Bool.and_eq_true, Bool.and_eq_true] at h
  refine ⟨h.1.1, h.1.2, h.2, ?_⟩
  unfold thX chkX
  rw [h.1.1, h.1.2, h.2]; rfl
set_option maxHeartbeats 8000000 in
set_option maxRecDepth 100000 in
theorem fnThenProgram_walk (A : Option Addr) (n cap : Nat) (bs : List By) (w : World) (hR : Sl w A n cap bs) :
    Calls Try.prog 5 #[.slice A n cap] w fun e w' => e = .returned (.bool true) ∧ Le w w' := by
  have hm := hR.n_le
  obtain ⟨i0, hi, hz0, hz1, hz2⟩ := info_parts infoInt
  by_cases hbig : 1048576 < n
  · go_enter Try.func5, Try.ntmps5
    go_wp2
    go_ret
    exact ⟨rfl, Le.refl w⟩
  go_enter Try.func5, Try.ntmps5
  go_wp2_with fail
  refine (drawThenProgram_any A n cap bs w hR).mono ?_
  rintro e w1 ⟨B, D, E, m, c, q, d, q2, d2, xs, p, r, rfl, S, hm8, S2, hq24, S3, hq8, L0⟩
  obtain rfl := S2.len
  obtain rfl := S3.len
  have hm1 : m ≤ 1048576 := by omega
  have hsm : p.length ≤ 1048576 := by omega
  have hsq : r.length ≤ 1048576 := by omega
  clear hbig hm hR
  have HI : Hid (∀ W, Sl W B m c xs → Sl W D p.length d p → Sl W E r.length d2 r → Calls Try.prog 20 #[.agg #[.slice B m c], .slice D p.length d, .slice E r.length d2] W fun e w' => ∃ A q, e = .returned (.tuple #[.slice A (thX xs p r).length q, .bool (thOk xs p r)]) ∧ Sl w' A (thX xs p r).length q (thX xs p r) ∧ Le W w') := fun W a b e => Calls.ln (iThenProgram_any B D E m c _ d _ d2 xs p r hm1 W a b e)
  have HS : Hid (∀ W, Sl W B m c xs → Sl W D p.length d p → Sl W E r.length d2 r → Calls Try.prog 21 #[.agg #[.slice B m c], .slice D p.length d, .slice E r.length d2] W fun e w' => ∃ A q, e = .returned (.tuple #[.slice A (thX xs p r).length q, .bool (thOk xs p r)]) ∧ Sl w' A (thX xs p r).length q (thX xs p r) ∧ Le W w') := fun W a b e => Calls.ln (sThenProgram_any B D E m c _ d _ d2 xs p r hsm hsq W a b e)
  have HNO : Hid (thOk xs p r = true → rpE xs p ≠ 0 → rpL xs (thX xs p r) = rpL xs p ∧ rpE xs (thX xs p r) = rpE xs p ∧ rpV xs (thX xs p r) = rpV xs p ∧ rpH xs (thX xs p r) = rpH xs p) := fun h h2 => by
    obtain ⟨a, b, c, e⟩ := th_parts h
    rw [e]; exact then_no a b c h2
  have HYES : Hid (thOk xs p r = true → rpE xs p = 0 → rpL xs (thX xs p r) = rpL xs p ++ rpL xs r ∧ rpE xs (thX xs p r) = rpE xs r ∧ rpV xs (thX xs p r) = rpV xs r ∧ rpH xs (thX xs p r) = rpH xs r) := fun h h2 => by
    obtain ⟨a, b, c, e⟩ := th_parts h
    rw [e]; exact then_yes a b c h2
  have HLP := Lib.hid (rpL_len xs p)
  have HLR := Lib.hid (rpL_len xs r)
  have HRX : Hid (∀ W A q, Sl W B m c xs → Sl W A (thX xs p r).length q (thX xs p r) → Calls Try.prog 11 #[.agg #[.slice B m c], .slice A (thX xs p r).length q] W fun e w' => ∃ A0 q0 A1 q1, e = .returned (.agg #[.slice A0 (rpL xs (thX xs p r)).length q0, .int .i64 (rpE xs (thX xs p r)), .int .i64 (rpV xs (thX xs p r)), .slice A1 (rpH xs (thX xs p r)).length q1]) ∧ Sl w' A0 (rpL xs (thX xs p r)).length q0 (rpL xs (thX xs p r)) ∧ Sl w' A1 (rpH xs (thX xs p r)).length q1 (rpH xs (thX xs p r)) ∧ Le W w') := fun W A q a b => Calls.rs (iRp_any B A m c _ q xs _ hm1 W a b)
  have HRP : Hid (∀ W, Sl W B m c xs → Sl W D p.length d p → Calls Try.prog 11 #[.agg #[.slice B m c], .slice D p.length d] W fun e w' => ∃ A0 q0 A1 q1, e = .returned (.agg #[.slice A0 (rpL xs p).length q0, .int .i64 (rpE xs p), .int .i64 (rpV xs p), .slice A1 (rpH xs p).length q1]) ∧ Sl w' A0 (rpL xs p).length q0 (rpL xs p) ∧ Sl w' A1 (rpH xs p).length q1 (rpH xs p) ∧ Le W w') := fun W a b => Calls.rs (iRp_any B D m c _ d xs _ hm1 W a b)
  have HRR : Hid (∀ W, Sl W B m c xs → Sl W E r.length d2 r → Calls Try.prog 11 #[.agg #[.slice B m c], .slice E r.length d2] W fun e w' => ∃ A0 q0 A1 q1, e = .returned (.agg #[.slice A0 (rpL xs r).length q0, .int .i64 (rpE xs r), .int .i64 (rpV xs r), .slice A1 (rpH xs r).length q1]) ∧ Sl w' A0 (rpL xs r).length q0 (rpL xs r) ∧ Sl w' A1 (rpH xs r).length q1 (rpH xs r) ∧ Le W w') := fun W a b => Calls.rs (iRp_any B E m c _ d2 xs _ hm1 W a b)
  generalize rpL xs (thX xs p r) = LX at *
  generalize rpE xs (thX xs p r) = EX at *
  generalize rpV xs (thX xs p r) = VX at *
  generalize rpH xs (thX xs p r) = HX at *
  generalize thX xs p r = X at *
  generalize thOk xs p r = ok at *
  generalize rpL xs p = LP at *
  generalize rpE xs p = EP at *
  generalize rpV xs p = VP at *
  generalize rpH xs p = HP at *
  generalize rpL xs r = LR at *
  generalize rpE xs r = ER at *
  generalize rpV xs r = VR at *
  generalize rpH xs r = HR at *
  have hbb : (ok != ok) = false := by simp
  have hbb2 : (ok == ok) = true := by simp
  go_wp2_with fail
  obtain ⟨ct, zt, hleB⟩ := box1 w1 (.slice B m c) 25
  replace S := S.le hleB
  replace L0 := L0.trans hleB
  replace S2 := S2.le hleB
  replace S3 := S3.le hleB
  clear hleB
  generalize w1.alloc (.cells #[.slice B m c] 25) = W1 at *
  refine (HI.out W1 S S2 S3).mono ?_
  rintro e w2 ⟨A2, q2, rfl, S4, hle⟩
  replace ct := (hle.cell zt).trans ct
  replace zt := Nat.lt_of_lt_of_le zt hle.size
  replace S := S.le hle
  replace L0 := L0.trans hle
  replace S2 := S2.le hle
  replace S3 := S3.le hle
  clear hle
  go_wp2_with fail
  refine (HS.out w2 S S2 S3).mono ?_
  rintro e w3 ⟨A3, q3, rfl, S5, hle⟩
  replace ct := (hle.cell zt).trans ct
  replace zt := Nat.lt_of_lt_of_le zt hle.size
  replace S := S.le hle
  replace L0 := L0.trans hle
  replace S2 := S2.le hle
  replace S3 := S3.le hle
  replace S4 := S4.le hle
  clear hle HI HS
  go_wp2_with fail
  refine (equalLines_self A2 A3 _ q2 q3 X w3 S4 S5).mono ?_
  rintro e w4 ⟨rfl, hle⟩
  replace ct := (hle.cell zt).trans ct
  replace zt := Nat.lt_of_lt_of_le zt hle.size
  replace S := S.le hle
  replace L0 := L0.trans hle
  replace S2 := S2.le hle
  replace S3 := S3.le hle
  replace S4 := S4.le hle
  replace S5 := S5.le hle
  clear hle
  cases ok
  · go_wp2_with fail
    refine (equalLines_self A2 A3 _ q2 q3 X w4 S4 S5).mono ?_
    rintro e w5 ⟨rfl, hle⟩
    replace L0 := L0.trans hle
    clear hle
    go_wp2
    go_ret
    exact ⟨rfl, L0⟩
  replace HNO := Lib.hid (HNO.out rfl)
  replace HYES := Lib.hid (HYES.out rfl)
  clear hbb hbb2 S5
  go_wp2_with fail
  refine (HRP.out w4 S S2).mono ?_
  rintro e w5 ⟨Aa, qa, Ha, ha, rfl, SLa, SHa, hle⟩
  replace ct := (hle.cell zt).trans ct
  replace zt := Nat.lt_of_lt_of_le zt hle.size
  replace S := S.le hle
  replace L0 := L0.trans hle
  replace S2 := S2.le hle
  replace S3 := S3.le hle
  replace S4 := S4.le hle
  clear hle HRP
  obtain ⟨ca0, ca1, ca2, ca3, za0, LB⟩ := boxRr w5 (.slice Aa LP.length qa) (.int .i64 EP) (.int .i64 VP) (.slice Ha HP.length ha) 34
  have za1 := za0
  have za2 := za0
  have za3 := za0
  replace ct := (LB.cell zt).trans ct
  replace zt := Nat.lt_of_lt_of_le zt LB.size
  replace S := S.le LB
  replace L0 := L0.trans LB
  replace S2 := S2.le LB
  replace S3 := S3.le LB
  replace S4 := S4.le LB
  replace SLa := SLa.le LB
  replace SHa := SHa.le LB
  clear LB
  go_wp2_with fail
  generalize w5.alloc (.cells #[.slice Aa LP.length qa, .int .i64 EP, .int .i64 VP, .slice Ha HP.length ha] 34) = W5 at *
  generalize w5.heap.size = ba at *
  refine (HRR.out W5 S S3).mono ?_
  rintro e w6 ⟨Ab, qb, Hb, hb, rfl, SLb, SHb, hle⟩
  replace ct := (hle.cell zt).trans ct
  replace ca0 := (hle.cell za0).trans ca0
  replace ca1 := (hle.cell za1).trans ca1
  replace ca2 := (hle.cell za2).trans ca2
  replace ca3 := (hle.cell za3).trans ca3
  replace zt := Nat.lt_of_lt_of_le zt hle.size
  replace za0 := Nat.lt_of_lt_of_le za0 hle.size
  replace za1 := Nat.lt_of_lt_of_le za1 hle.size
  replace za2 := Nat.lt_of_lt_of_le za2 hle.size
  replace za3 := Nat.lt_of_lt_of_le za3 hle.size
  replace S := S.le hle
  replace L0 := L0.trans hle
  replace S2 := S2.le hle
  replace S4 := S4.le hle
  replace SLa := SLa.le hle
  replace SHa := SHa.le hle
  clear hle HRR
  obtain ⟨cb0, cb1, cb2, cb3, zb0, LB⟩ := boxRr w6 (.slice Ab LR.length qb) (.int .i64 ER) (.int .i64 VR) (.slice Hb HR.length hb) 34
  have zb1 := zb0
  have zb2 := zb0
  have zb3 := zb0
  have fb0 : (w6.alloc (.cells #[.slice Ab LR.length qb, .int .i64 ER, .int .i64 VR, .slice Hb HR.length hb] 34)).frozen? ⟨w6.heap.size, 0, none⟩ = false := World.frozen?_alloc_at _ _ _ _ rfl
  have hab : ba < w6.heap.size := za0
  have HWB : Hid (w.heap.size ≤ w6.heap.size) := L0.size
  replace ct := (LB.cell zt).trans ct
  replace ca0 := (LB.cell za0).trans ca0
  replace ca1 := (LB.cell za1).trans ca1
  replace ca2 := (LB.cell za2).trans ca2
  replace ca3 := (LB.cell za3).trans ca3
  replace zt := Nat.lt_of_lt_of_le zt LB.size
  replace za0 := Nat.lt_of_lt_of_le za0 LB.size
  replace za1 := Nat.lt_of_lt_of_le za1 LB.size
  replace za2 := Nat.lt_of_lt_of_le za2 LB.size
  replace za3 := Nat.lt_of_lt_of_le za3 LB.size
  replace S := S.le LB
  replace L0 := L0.trans LB
  replace S4 := S4.le LB
  replace SLa := SLa.le LB
  replace SHa := SHa.le LB
  replace SLb := SLb.le LB
  replace SHb := SHb.le LB
  clear LB
  go_wp2_with fail
  generalize w6.alloc (.cells #[.slice Ab LR.length qb, .int .i64 ER, .int .i64 VR, .slice Hb HR.length hb] 34) = W6 at *
  generalize w6.heap.size = bb at *
  refine (HRX.out W6 A2 q2 S S4).mono ?_
  rintro e w7 ⟨Ac, qc, Hc, hc, rfl, SLc, SHc, hle⟩
  replace fb0 := (hle.frozen zb0).trans fb0
  replace ct := (hle.cell zt).trans ct
  replace ca0 := (hle.cell za0).trans ca0
  replace ca1 := (hle.cell za1).trans ca1
  replace ca2 := (hle.cell za2).trans ca2
  replace ca3 := (hle.cell za3).trans ca3
  replace cb0 := (hle.cell zb0).trans cb0
  replace cb1 := (hle.cell zb1).trans cb1
  replace cb2 := (hle.cell zb2).trans cb2
  replace cb3 := (hle.cell zb3).trans cb3
  replace zt := Nat.lt_of_lt_of_le zt hle.size
  replace za0 := Nat.lt_of_lt_of_le za0 hle.size
  replace za1 := Nat.lt_of_lt_of_le za1 hle.size
  replace za2 := Nat.lt_of_lt_of_le za2 hle.size
  replace za3 := Nat.lt_of_lt_of_le za3 hle.size
  replace zb0 := Nat.lt_of_lt_of_le zb0 hle.size
  replace zb1 := Nat.lt_of_lt_of_le zb1 hle.size
  replace zb2 := Nat.lt_of_lt_of_le zb2 hle.size
  replace zb3 := Nat.lt_of_lt_of_le zb3 hle.size
  replace L0 := L0.trans hle
  replace SLa := SLa.le hle
  replace SHa := SHa.le hle
  replace SLb := SLb.le hle
  replace SHb := SHb.le hle
  clear hle HRX
  obtain ⟨cc0, cc1, cc2, cc3, zc0, LB⟩ := boxRr w7 (.slice Ac LX.length qc) (.int .i64 EX) (.int .i64 VX) (.slice Hc HX.length hc) 34
  have zc1 := zc0
  have zc2 := zc0
  have zc3 := zc0
  have hbc : bb < w7.heap.size := zb0
  replace fb0 := (LB.frozen zb0).trans fb0
  replace ca0 := (LB.cell za0).trans ca0
  replace ca1 := (LB.cell za1).trans ca1
  replace ca2 := (LB.cell za2).trans ca2
  replace ca3 := (LB.cell za3).trans ca3
  replace cb0 := (LB.cell zb0).trans cb0
  replace cb1 := (LB.cell zb1).trans cb1
  replace cb2 := (LB.cell zb2).trans cb2
  replace cb3 := (LB.cell zb3).trans cb3
  replace za0 := Nat.lt_of_lt_of_le za0 LB.size
  replace za1 := Nat.lt_of_lt_of_le za1 LB.size
  replace za2 := Nat.lt_of_lt_of_le za2 LB.size
  replace za3 := Nat.lt_of_lt_of_le za3 LB.size
  replace zb0 := Nat.lt_of_lt_of_le zb0 LB.size
  replace zb1 := Nat.lt_of_lt_of_le zb1 LB.size
  replace zb2 := Nat.lt_of_lt_of_le zb2 LB.size
  replace zb3 := Nat.lt_of_lt_of_le zb3 LB.size
  replace L0 := L0.trans LB
  replace SLa := SLa.le LB
  replace SHa := SHa.le LB
  replace SLb := SLb.le LB
  replace SHb := SHb.le LB
  replace SLc := SLc.le LB
  replace SHc := SHc.le LB
  clear LB
  by_cases he : EP = 0
  · subst he
    obtain ⟨hl, rfl, rfl, rfl⟩ := HYES.out (by trivial)
    have HLX := Lib.hid hl
    clear HYES HNO hl
    have hl1 := HLP.out
    have hl2 := HLR.out
    have hwb : w.heap.size ≤ bb := HWB.out
    have hcb : bb ≠ w7.heap.size := by omega
    go_wp2_with fail
    generalize w7.alloc (.cells #[.slice Ac LX.length qc, .int .i64 EX, .int .i64 VX, .slice Hc HX.length hc] 34) = W7 at *
    generalize w7.heap.size = bx at *
    have dA : W7.drew.cell? ⟨ba, 0, none⟩ = some (.slice Aa LP.length qa) := ca0
    have dB : W7.drew.cell? ⟨bb, 0, none⟩ = some (.slice Ab LR.length qb) := cb0
    have e1 : W7.drew.cell? ⟨bb, 1, none⟩ = some (.int .i64 EX) := cb1
    have e2 : W7.drew.cell? ⟨bb, 2, none⟩ = some (.int .i64 VX) := cb2
    have e3 : W7.drew.cell? ⟨bb, 3, none⟩ = some (.slice Hb HX.length hb) := cb3
    have g0 : W7.drew.cell? ⟨bx, 0, none⟩ = some (.slice Ac LX.length qc) := cc0
    have g1 : W7.drew.cell? ⟨bx, 1, none⟩ = some (.int .i64 EX) := cc1
    have g2 : W7.drew.cell? ⟨bx, 2, none⟩ = some (.int .i64 VX) := cc2
    have g3 : W7.drew.cell? ⟨bx, 3, none⟩ = some (.slice Hc HX.length hc) := cc3
    have fB : W7.drew.frozen? ⟨bb, 0, none⟩ = false := fb0
    have zA : ba < W7.drew.heap.size := za0
    have zB : bb < W7.drew.heap.size := zb0
    have zC : bx < W7.drew.heap.size := zc0
    have Sa := SLa.le (Le.refl W7).drew
    have Sb := SLb.le (Le.refl W7).drew
    have Sc := SLc.le (Le.refl W7).drew
    have Tb := SHb.le (Le.refl W7).drew
    have Tc := SHc.le (Le.refl W7).drew
    have LD := L0.trans (Le.refl W7).drew
    clear ca0 ca1 ca2 ca3 cb0 cb1 cb2 cb3 cc0 cc1 cc2 cc3 fb0 za0 za1 za2 za3 zb0 zb1 zb2 zb3 zc0 zc1 zc2 zc3 SLa SLb SLc SHa SHb SHc L0
    refine wp_region_Z (fun w' => w'.cell? ⟨ba, 0, none⟩ = some (.slice Aa LP.length qa) ∧ w'.cell? ⟨bb, 0, none⟩ = some (.slice Ab LR.length qb)) [8] (by kernel_rfl) ?_
    generalize W7.drew = WD at *
    refine wpAnyZ_take (i := 1) (v := ?_) rfl (by kernel_rfl) (fun _ _ _ h => h) (Or.inl ⟨by rfl, ?_⟩) (⟨dA, dB⟩) ?_
    rotate_left 1
    · (intro w hSw; (try dsimp only at hSw); go_simp; try with_reducible rfl)
    try simp only [Act.put, List.setIfInBounds_toArray, List.set_cons_zero, List.set_cons_succ]
    refine wpAnyZ_take (i := 2) (v := ?_) rfl (by kernel_rfl) (fun _ _ _ h => h) (Or.inl ⟨by rfl, ?_⟩) (⟨dA, dB⟩) ?_
    rotate_left 1
    · (intro w hSw; (try dsimp only at hSw); go_simp; try with_reducible rfl)
    try simp only [Act.put, List.setIfInBounds_toArray, List.set_cons_zero, List.set_cons_succ]
    refine wpAnyZ_take (i := 4) (v := ?_) rfl (by kernel_rfl) (fun _ _ _ h => h) (Or.inl ⟨by rfl, ?_⟩) (⟨dA, dB⟩) ?_
    rotate_left 1
    · (intro w hSw; (try dsimp only at hSw); go_simp; try with_reducible rfl)
    try simp only [Act.put, List.setIfInBounds_toArray, List.set_cons_zero, List.set_cons_succ]
    refine wpAnyZ_take (i := 5) (v := ?_) rfl (by kernel_rfl) (fun _ _ _ h => h) (Or.inl ⟨by rfl, ?_⟩) (⟨dA, dB⟩) ?_
    rotate_left 1
    · (intro w hSw; (try dsimp only at hSw); go_simp; try with_reducible rfl)
    try simp only [Act.put, List.setIfInBounds_toArray, List.set_cons_zero, List.set_cons_succ]
    refine wpAnyZ_one (i := 0) (by kernel_rfl) (ReadyZ.mk rfl (fun K hK => ?_))
    go_simp
    have LE := Le.new WD (.cells #[] 3)
    have O1 := own_empty (w := WD) (base := WD.heap.size) (g := WD.heap.size) (e := 3) (size := 1) (Nat.le_refl _) rfl
    refine hK.out _ _ (fun _ => ⟨(LE.cell zA).trans dA, (LE.cell zB).trans dB⟩) ?_
    clear hK K
    try simp only [Act.put, List.setIfInBounds_toArray, List.set_cons_zero, List.set_cons_succ]
    refine wpAnyZ_one (i := 3) (by kernel_rfl) (ReadyZ.mk rfl (fun K hK => ?_))
    refine step_append_sl rfl (.tmp 72) (.tmp 74) 29 rfl WD.heap.size 3 i0 _ 8 Try.underlying29 hi hz0 hz1 hz2 rfl (.slice (some ⟨WD.heap.size, 0, none⟩) 0 0) 0 ([] : List Int) rfl O1 Aa LP.length qa LP rfl (Sa.le LE) (by unfold maxLen; omega) (by omega) LE.size ?_
    intro v3 w8 O3 hg3 hat3
    have L3 := LE.grown hg3 (fun k hk => (O1.lt k hk).1)
    clear hg3 hat3 O1 LE
    rw [List.nil_append, Nat.zero_add] at O3
    refine hK.out _ _ (fun _ => ⟨(L3.cell zA).trans dA, (L3.cell zB).trans dB⟩) ?_
    clear hK K
    try simp only [Act.put, List.setIfInBounds_toArray, List.set_cons_zero, List.set_cons_succ]
    refine wpAnyZ_one (i := 6) (by kernel_rfl) (ReadyZ.mk rfl (fun K hK => ?_))
    refine step_append_sl rfl (.tmp 75) (.tmp 77) 29 rfl WD.heap.size 3 i0 _ 8 Try.underlying29 hi hz0 hz1 hz2 rfl v3 LP.length LP rfl O3 Ab LR.length qb LR rfl (Sb.le L3) (by unfold maxLen; omega) (by omega) L3.size ?_
    intro v4 w9 O4 hg4 hat4
    have L4 := L3.grown hg4 (fun k hk => (O3.lt k hk).1)
    clear hg4 hat4 O3 L3
    have hlen : LP.length + LR.length = LX.length := by rw [HLX.out, List.length_append]
    rw [hlen, ← HLX.out] at O4
    obtain ⟨A4, q4, rfl⟩ := own_form O4
    have S4x := Sl.of_own O4 rfl (by decide) (xs := LX) (fun x hx => by
      rw [HLX.out] at hx
      rcases List.mem_append.1 hx with h | h
      · exact Sa.ok x h
      · exact Sb.ok x h)
    clear hlen O4
    have hA := (L4.cell zA).trans dA
    have hB := (L4.cell zB).trans dB
    have fB4 := (L4.frozen zB).trans fB
    refine hK.out _ _ (fun _ => ⟨hA, hB⟩) ?_
    clear hK K
    try simp only [Act.put, List.setIfInBounds_toArray, List.set_cons_zero, List.set_cons_succ]
    refine wpAnyZ_take (i := 7) (v := ?_) rfl (by kernel_rfl) (fun _ _ _ h => h) (Or.inl ⟨by rfl, ?_⟩) (⟨hA, hB⟩) ?_
    rotate_left 1
    · (intro w hSw; (try dsimp only at hSw); go_simp; try with_reducible rfl)
    try simp only [Act.put, List.setIfInBounds_toArray, List.set_cons_zero, List.set_cons_succ]
    refine wpAnyZ_one (i := 8) (by kernel_rfl) (ReadyZ.mk rfl (fun K hK => ?_))
    go_simp
    refine hK.out _ _ (fun h => absurd h (by decide)) ?_
    clear hK K
    try simp only [Act.put, List.setIfInBounds_toArray, List.set_cons_zero, List.set_cons_succ]
    refine wpAnyZ_done (by kernel_rfl) ?_ _
    have k0 : (w9.setCell ⟨bb, 0, none⟩ (.slice A4 LX.length q4)).cell? ⟨bb, 0, none⟩ = some (.slice A4 LX.length q4) := cell_set_same hB
    have k1 : (w9.setCell ⟨bb, 0, none⟩ (.slice A4 LX.length q4)).cell? ⟨bb, 1, none⟩ = some (.int .i64 EX) := (cell_set_other (.inr (by decide))).trans ((L4.cell zB).trans e1)
    have k2 : (w9.setCell ⟨bb, 0, none⟩ (.slice A4 LX.length q4)).cell? ⟨bb, 2, none⟩ = some (.int .i64 VX) := (cell_set_other (.inr (by decide))).trans ((L4.cell zB).trans e2)
    have k3 : (w9.setCell ⟨bb, 0, none⟩ (.slice A4 LX.length q4)).cell? ⟨bb, 3, none⟩ = some (.slice Hb HX.length hb) := (cell_set_other (.inr (by decide))).trans ((L4.cell zB).trans e3)
    have x0 : (w9.setCell ⟨bb, 0, none⟩ (.slice A4 LX.length q4)).cell? ⟨bx, 0, none⟩ = some (.slice Ac LX.length qc) := (cell_set_other (.inl hcb)).trans ((L4.cell zC).trans g0)
    have x1 : (w9.setCell ⟨bb, 0, none⟩ (.slice A4 LX.length q4)).cell? ⟨bx, 1, none⟩ = some (.int .i64 EX) := (cell_set_other (.inl hcb)).trans ((L4.cell zC).trans g1)
    have x2 : (w9.setCell ⟨bb, 0, none⟩ (.slice A4 LX.length q4)).cell? ⟨bx, 2, none⟩ = some (.int .i64 VX) := (cell_set_other (.inl hcb)).trans ((L4.cell zC).trans g2)
    have x3 : (w9.setCell ⟨bb, 0, none⟩ (.slice A4 LX.length q4)).cell? ⟨bx, 3, none⟩ = some (.slice Hc HX.length hc) := (cell_set_other (.inl hcb)).trans ((L4.cell zC).trans g3)
    have Y1 := (Sc.le L4).setNoneR (u := .slice A4 LX.length q4) hB (fun x h => by simp [Enc.cells] at h)
    have Y2 := S4x.setNoneR (u := .slice A4 LX.length q4) hB (fun x h => by simp [Enc.cells] at h)
    have Y3 := (Tc.le L4).setNoneR (u := .slice A4 LX.length q4) hB (fun x h => by simp [Enc.cells] at h)
    have Y4 := (Tb.le L4).setNoneR (u := .slice A4 LX.length q4) hB (fun x h => by simp [Enc.cells] at h)
    have LL := (LD.trans L4).setCell (b := bb) (o := 0) hwb (.slice A4 LX.length q4)
    clear hA hB fB4 L4 LD S4x Sa Sb Sc Tb Tc dA dB e1 e2 e3 g0 g1 g2 g3 fB zA zB zC
    generalize w9.setCell ⟨bb, 0, none⟩ (.slice A4 LX.length q4) = WZ at *
    go_wp2_with fail
    refine (equalResult_self Ac A4 Hc Hb _ qc q4 _ hc hb LX HX EX VX WZ Y1 Y2 Y3 Y4).mono ?_
    rintro e wf ⟨rfl, hle⟩
    have LF := LL.trans hle
    clear hle
    go_wp2
    go_ret
    exact ⟨rfl, LF⟩
  · have heb : (EP != 0) = true := by simp [he]
    obtain ⟨rfl, rfl, rfl, rfl⟩ := HNO.out he
    clear HYES HNO
    go_wp2_with fail
    generalize w7.alloc (.cells #[.slice Ac LX.length qc, .int .i64 EX, .int .i64 VX, .slice Hc HX.length hc] 34) = W7 at *
    refine (equalResult_self Ac Aa Hc Ha _ qc qa _ hc ha _ _ _ _ W7 SLc SLa SHc SHa).mono ?_
    rintro e w8 ⟨rfl, hle⟩
    have LF := L0.trans hle
    clear hle
    go_wp2
    go_ret
    exact ⟨rfl, LF⟩
end Go.Proofs.Ytlepgfccnfcagaa
