/- the law FnInLoopTwice -/
import Derived.Test.YtlepgfccnfcagaaFIlP
import Derived.Test.YtlepgfccnfcagaaFTpP
namespace Go.Proofs.Ytlepgfccnfcagaa
open Go.RowKit
set_option maxHeartbeats 8000000 in
set_option maxRecDepth 100000 in
theorem fnInLoopTwice_walk (A : Option Addr) (n cap : Nat) (bs : List By) (w : World) (hR : Sl w A n cap bs) :
    Calls Try.prog 8 #[.slice A n cap] w fun e w' => e = .returned (.bool true) ∧ Le w w' := by
  have hm := hR.n_le
  by_cases hbig : 1048576 < n
  · go_enter Try.func8, Try.ntmps8
    go_wp2
    go_ret
    exact ⟨rfl, Le.refl w⟩
  go_enter Try.func8, Try.ntmps8
  go_wp2_with fail
  refine (drawInLoop_any A n cap bs w hR).mono ?_
  rintro e w1 ⟨B, D, m, c, q, d, xs, p, u, rfl, S, hm8, S2, hq24, hu0, hu1, L0⟩
  obtain rfl := S2.len
  have hm1 : m ≤ 1048576 := by omega
  have hsm : p.length ≤ 1048576 := by omega
  have hu : -9223372036854775808 ≤ u ∧ u ≤ 9223372036854775807 := by omega
  clear hbig hm hR
  have HI : Hid (∀ W, Sl W B m c xs → Sl W D p.length d p → Calls Try.prog 28 #[.agg #[.slice B m c], .slice D p.length d, .int .i64 u] W fun e w' => ∃ A q, e = .returned (.tuple #[.slice A (ilX xs p u).length q, .bool (ilOk xs p u)]) ∧ Sl w' A (ilX xs p u).length q (ilX xs p u) ∧ Le W w') := fun W a b => Calls.ln (iInLoopP_any B D m c _ d xs p u hm1 hu W a b)
  have HS : Hid (∀ W, Sl W B m c xs → Sl W D p.length d p → Calls Try.prog 29 #[.agg #[.slice B m c], .slice D p.length d, .int .i64 u] W fun e w' => ∃ A q, e = .returned (.tuple #[.slice A (ilX xs p u).length q, .bool (ilOk xs p u)]) ∧ Sl w' A (ilX xs p u).length q (ilX xs p u) ∧ Le W w') := fun W a b => Calls.ln (sInLoopP_any B D m c _ d xs p u hsm hu W a b)
  have hu2 : -9223372036854775808 ≤ (2 : Int) ∧ (2 : Int) ≤ 9223372036854775807 := by omega
  have HI2 : Hid (∀ W, Sl W B m c xs → Sl W D p.length d p → Calls Try.prog 28 #[.agg #[.slice B m c], .slice D p.length d, .int .i64 2] W fun e w' => ∃ A q, e = .returned (.tuple #[.slice A (ilX xs p 2).length q, .bool (ilOk xs p 2)]) ∧ Sl w' A (ilX xs p 2).length q (ilX xs p 2) ∧ Le W w') := fun W a b => Calls.ln (iInLoopP_any B D m c _ d xs p 2 hm1 hu2 W a b)
  have HT2 : Hid (∀ W, Sl W B m c xs → Sl W D p.length d p → Calls Try.prog 20 #[.agg #[.slice B m c], .slice D p.length d, .slice D p.length d] W fun e w' => ∃ A q, e = .returned (.tuple #[.slice A (thX xs p p).length q, .bool (thOk xs p p)]) ∧ Sl w' A (thX xs p p).length q (thX xs p p) ∧ Le W w') := fun W a b => Calls.ln (iThenProgram_any B D D m c _ d _ d xs p p hm1 W a b b)
  have HEQ : Hid (ilOk xs p 2 = true → thOk xs p p = true → rpL xs (ilX xs p 2) = rpL xs (thX xs p p) ∧ rpE xs (ilX xs p 2) = rpE xs (thX xs p p) ∧ rpV xs (ilX xs p 2) = rpV xs (thX xs p p) ∧ rpH xs (ilX xs p 2) = rpH xs (thX xs p p)) := fun h h2 => by
    obtain ⟨a, b, c, -⟩ := il_parts h
    obtain ⟨-, -, e, f⟩ := th_parts h2
    rw [c, f]; exact loop_two a b e
  have HRA : Hid (∀ W A q, Sl W B m c xs → Sl W A (ilX xs p 2).length q (ilX xs p 2) → Calls Try.prog 11 #[.agg #[.slice B m c], .slice A (ilX xs p 2).length q] W fun e w' => ∃ A0 q0 A1 q1, e = .returned (.agg #[.slice A0 (rpL xs (ilX xs p 2)).length q0, .int .i64 (rpE xs (ilX xs p 2)), .int .i64 (rpV xs (ilX xs p 2)), .slice A1 (rpH xs (ilX xs p 2)).length q1]) ∧ Sl w' A0 (rpL xs (ilX xs p 2)).length q0 (rpL xs (ilX xs p 2)) ∧ Sl w' A1 (rpH xs (ilX xs p 2)).length q1 (rpH xs (ilX xs p 2)) ∧ Le W w') := fun W A q a b => Calls.rs (iRp_any B A m c _ q xs _ hm1 W a b)
  have HRB : Hid (∀ W A q, Sl W B m c xs → Sl W A (thX xs p p).length q (thX xs p p) → Calls Try.prog 11 #[.agg #[.slice B m c], .slice A (thX xs p p).length q] W fun e w' => ∃ A0 q0 A1 q1, e = .returned (.agg #[.slice A0 (rpL xs (thX xs p p)).length q0, .int .i64 (rpE xs (thX xs p p)), .int .i64 (rpV xs (thX xs p p)), .slice A1 (rpH xs (thX xs p p)).length q1]) ∧ Sl w' A0 (rpL xs (thX xs p p)).length q0 (rpL xs (thX xs p p)) ∧ Sl w' A1 (rpH xs (thX xs p p)).length q1 (rpH xs (thX xs p p)) ∧ Le W w') := fun W A q a b => Calls.rs (iRp_any B A m c _ q xs _ hm1 W a b)
  clear hu2
  generalize rpL xs (ilX xs p 2) = La at *
  generalize rpE xs (ilX xs p 2) = Ea at *
  generalize rpV xs (ilX xs p 2) = Va at *
  generalize rpH xs (ilX xs p 2) = Ha at *
  generalize rpL xs (thX xs p p) = Lb at *
  generalize rpE xs (thX xs p p) = Eb at *
  generalize rpV xs (thX xs p p) = Vb at *
  generalize rpH xs (thX xs p p) = Hb at *
  generalize ilX xs p 2 = Xa at *
  generalize ilOk xs p 2 = oka at *
  generalize thX xs p p = Xb at *
  generalize thOk xs p p = okb at *
  generalize ilX xs p u = X at *
  generalize ilOk xs p u = ok at *
  have hbb : (ok != ok) = false := by simp
  have hbb2 : (ok == ok) = true := by simp
  clear hu
  go_wp2_with fail
  obtain ⟨ct, zt, hleB⟩ := box1 w1 (.slice B m c) 25
  replace S := S.le hleB
  replace L0 := L0.trans hleB
  replace S2 := S2.le hleB
  clear hleB
  generalize w1.alloc (.cells #[.slice B m c] 25) = W1 at *
  refine (HI.out W1 S S2).mono ?_
  rintro e w2 ⟨A2, q2, rfl, S4, hle⟩
  replace ct := (hle.cell zt).trans ct
  replace zt := Nat.lt_of_lt_of_le zt hle.size
  replace S := S.le hle
  replace L0 := L0.trans hle
  replace S2 := S2.le hle
  clear hle
  go_wp2_with fail
  refine (HS.out w2 S S2).mono ?_
  rintro e w3 ⟨A3, q3, rfl, S5, hle⟩
  replace ct := (hle.cell zt).trans ct
  replace zt := Nat.lt_of_lt_of_le zt hle.size
  replace S := S.le hle
  replace L0 := L0.trans hle
  replace S2 := S2.le hle
  replace S4 := S4.le hle
  clear hle HI HS
  go_wp2_with fail
  refine (equalLines_self A2 A3 _ q2 q3 X w3 S4 S5).mono ?_
  rintro e w4 ⟨rfl, hle⟩
  replace ct := (hle.cell zt).trans ct
  replace zt := Nat.lt_of_lt_of_le zt hle.size
  replace S := S.le hle
  replace L0 := L0.trans hle
  replace S2 := S2.le hle
  replace S4 := S4.le hle
  replace S5 := S5.le hle
  clear hle
  cases ok
  · go_wp2_with fail
    refine (equalLines_self A2 A3 _ q2 q3 X w4 S4 S5).mono ?_
    rintro e w5 ⟨rfl, hle⟩
    replace L0 := L0.trans hle
    clear hle
    go_wp2
    go_ret
    exact ⟨rfl, L0⟩
  clear hbb hbb2 S5 S4
  go_wp2_with fail
  refine (HI2.out w4 S S2).mono ?_
  rintro e w5 ⟨Aa, qa, rfl, S6, hle⟩
  replace ct := (hle.cell zt).trans ct
  replace zt := Nat.lt_of_lt_of_le zt hle.size
  replace S := S.le hle
  replace L0 := L0.trans hle
  replace S2 := S2.le hle
  clear hle HI2
  go_wp2_with fail
  refine (HT2.out w5 S S2).mono ?_
  rintro e w6 ⟨Ab, qb, rfl, S7, hle⟩
  replace ct := (hle.cell zt).trans ct
  replace zt := Nat.lt_of_lt_of_le zt hle.size
  replace S := S.le hle
  replace L0 := L0.trans hle
  replace S2 := S2.le hle
  replace S6 := S6.le hle
  clear hle HT2
  cases oka
  · clear HEQ HRA HRB
    go_wp2_with fail
    have cX : w6.drew.cell? ⟨w1.heap.size, 0, none⟩ = some (.slice B m c) := ct
    have LX := L0.trans (Le.refl w6).drew
    refine wp_region_Z (fun w' => w'.cell? ⟨w1.heap.size, 0, none⟩ = some (.slice B m c)) [] (by kernel_rfl) ?_
    generalize w6.drew = WD at *
    refine wpAnyZ_take (i := 0) (v := ?_) rfl (by kernel_rfl) (fun _ _ _ h => h) (Or.inl ⟨by rfl, ?_⟩) (cX) ?_
    rotate_left 1
    · (intro w hSw; (try dsimp only at hSw); go_simp; try with_reducible rfl)
    try simp only [Act.put, List.setIfInBounds_toArray, List.set_cons_zero, List.set_cons_succ]
    refine wpAnyZ_take (i := 1) (v := ?_) rfl (by kernel_rfl) (fun _ _ _ h => h) (Or.inl ⟨by rfl, ?_⟩) (cX) ?_
    rotate_left 1
    · (intro w hSw; (try dsimp only at hSw); go_simp; try with_reducible rfl)
    try simp only [Act.put, List.setIfInBounds_toArray, List.set_cons_zero, List.set_cons_succ]
    refine wpAnyZ_take (i := 2) (v := ?_) rfl (by kernel_rfl) (fun _ _ _ h => h) (Or.inl ⟨by rfl, ?_⟩) (cX) ?_
    rotate_left 1
    · (intro w hSw; (try dsimp only at hSw); go_simp; try with_reducible rfl)
    try simp only [Act.put, List.setIfInBounds_toArray, List.set_cons_zero, List.set_cons_succ]
    refine wpAnyZ_take (i := 3) (v := undef) rfl (by kernel_rfl) (fun _ _ _ h => h) (Or.inr ⟨?_, rfl⟩) (cX) ?_
    · rfl
    try simp only [Act.put, List.setIfInBounds_toArray, List.set_cons_zero, List.set_cons_succ]
    refine wpAnyZ_take (i := 4) (v := undef) rfl (by kernel_rfl) (fun _ _ _ h => h) (Or.inr ⟨?_, rfl⟩) (cX) ?_
    · rfl
    try simp only [Act.put, List.setIfInBounds_toArray, List.set_cons_zero, List.set_cons_succ]
    refine wpAnyZ_take (i := 5) (v := ?_) rfl (by kernel_rfl) (fun _ _ _ h => h) (Or.inl ⟨by rfl, ?_⟩) (cX) ?_
    rotate_left 1
    · (intro w hSw; (try dsimp only at hSw); go_simp; try with_reducible rfl)
    try simp only [Act.put, List.setIfInBounds_toArray, List.set_cons_zero, List.set_cons_succ]
    refine wpAnyZ_take (i := 6) (v := ?_) rfl (by kernel_rfl) (fun _ _ _ h => h) (Or.inl ⟨by rfl, ?_⟩) (cX) ?_
    rotate_left 1
    · (intro w hSw; (try dsimp only at hSw); go_simp; try with_reducible rfl)
    try simp only [Act.put, List.setIfInBounds_toArray, List.set_cons_zero, List.set_cons_succ]
    refine wpAnyZ_take (i := 7) (v := undef) rfl (by kernel_rfl) (fun _ _ _ h => h) (Or.inr ⟨?_, rfl⟩) (cX) ?_
    · rfl
    try simp only [Act.put, List.setIfInBounds_toArray, List.set_cons_zero, List.set_cons_succ]
    refine wpAnyZ_take (i := 8) (v := undef) rfl (by kernel_rfl) (fun _ _ _ h => h) (Or.inr ⟨?_, rfl⟩) (cX) ?_
    · rfl
    try simp only [Act.put, List.setIfInBounds_toArray, List.set_cons_zero, List.set_cons_succ]
    refine wpAnyZ_take (i := 9) (v := undef) rfl (by kernel_rfl) (fun _ _ _ h => h) (Or.inr ⟨?_, rfl⟩) (cX) ?_
    · rfl
    try simp only [Act.put, List.setIfInBounds_toArray, List.set_cons_zero, List.set_cons_succ]
    refine wpAnyZ_take (i := 10) (v := undef) rfl (by kernel_rfl) (fun _ _ _ h => h) (Or.inr ⟨?_, rfl⟩) (cX) ?_
    · rfl
    try simp only [Act.put, List.setIfInBounds_toArray, List.set_cons_zero, List.set_cons_succ]
    refine wpAnyZ_take (i := 11) (v := undef) rfl (by kernel_rfl) (fun _ _ _ h => h) (Or.inr ⟨?_, rfl⟩) (cX) ?_
    · rfl
    try simp only [Act.put, List.setIfInBounds_toArray, List.set_cons_zero, List.set_cons_succ]
    refine wpAnyZ_take (i := 12) (v := undef) rfl (by kernel_rfl) (fun _ _ _ h => h) (Or.inr ⟨?_, rfl⟩) (cX) ?_
    · rfl
    try simp only [Act.put, List.setIfInBounds_toArray, List.set_cons_zero, List.set_cons_succ]
    refine wpAnyZ_take (i := 13) (v := undef) rfl (by kernel_rfl) (fun _ _ _ h => h) (Or.inr ⟨?_, rfl⟩) (cX) ?_
    · rfl
    try simp only [Act.put, List.setIfInBounds_toArray, List.set_cons_zero, List.set_cons_succ]
    refine wpAnyZ_take (i := 14) (v := ?_) rfl (by kernel_rfl) (fun _ _ _ h => h) (Or.inl ⟨by rfl, ?_⟩) (cX) ?_
    rotate_left 1
    · (intro w hSw; (try dsimp only at hSw); go_simp; try with_reducible rfl)
    try simp only [Act.put, List.setIfInBounds_toArray, List.set_cons_zero, List.set_cons_succ]
    refine wpAnyZ_take (i := 15) (v := ?_) rfl (by kernel_rfl) (fun _ _ _ h => h) (Or.inl ⟨by rfl, ?_⟩) (cX) ?_
    rotate_left 1
    · (intro w hSw; (try dsimp only at hSw); go_simp; try with_reducible rfl)
    try simp only [Act.put, List.setIfInBounds_toArray, List.set_cons_zero, List.set_cons_succ]
    refine wpAnyZ_done (by kernel_rfl) ?_ _
    go_wp2
    go_ret
    exact ⟨rfl, LX⟩
  cases okb
  · clear HEQ HRA HRB
    go_wp2_with fail
    have cX : w6.drew.cell? ⟨w1.heap.size, 0, none⟩ = some (.slice B m c) := ct
    have LX := L0.trans (Le.refl w6).drew
    refine wp_region_Z (fun w' => w'.cell? ⟨w1.heap.size, 0, none⟩ = some (.slice B m c)) [] (by kernel_rfl) ?_
    generalize w6.drew = WD at *
    refine wpAnyZ_take (i := 0) (v := ?_) rfl (by kernel_rfl) (fun _ _ _ h => h) (Or.inl ⟨by rfl, ?_⟩) (cX) ?_
    rotate_left 1
    · (intro w hSw; (try dsimp only at hSw); go_simp; try with_reducible rfl)
    try simp only [Act.put, List.setIfInBounds_toArray, List.set_cons_zero, List.set_cons_succ]
    refine wpAnyZ_take (i := 1) (v := ?_) rfl (by kernel_rfl) (fun _ _ _ h => h) (Or.inl ⟨by rfl, ?_⟩) (cX) ?_
    rotate_left 1
    · (intro w hSw; (try dsimp only at hSw); go_simp; try with_reducible rfl)
    try simp only [Act.put, List.setIfInBounds_toArray, List.set_cons_zero, List.set_cons_succ]
    refine wpAnyZ_take (i := 2) (v := ?_) rfl (by kernel_rfl) (fun _ _ _ h => h) (Or.inl ⟨by rfl, ?_⟩) (cX) ?_
    rotate_left 1
    · (intro w hSw; (try dsimp only at hSw); go_simp; try with_reducible rfl)
    try simp only [Act.put, List.setIfInBounds_toArray, List.set_cons_zero, List.set_cons_succ]
    refine wpAnyZ_take (i := 3) (v := ?_) rfl (by kernel_rfl) (fun _ _ _ h => h) (Or.inl ⟨by rfl, ?_⟩) (cX) ?_
    rotate_left 1
    · (intro w hSw; (try dsimp only at hSw); go_simp; try with_reducible rfl)
    try simp only [Act.put, List.setIfInBounds_toArray, List.set_cons_zero, List.set_cons_succ]
    refine wpAnyZ_take (i := 4) (v := ?_) rfl (by kernel_rfl) (fun _ _ _ h => h) (Or.inl ⟨by rfl, ?_⟩) (cX) ?_
    rotate_left 1
    · (intro w hSw; (try dsimp only at hSw); go_simp; try with_reducible rfl)
    try simp only [Act.put, List.setIfInBounds_toArray, List.set_cons_zero, List.set_cons_succ]
    refine wpAnyZ_take (i := 5) (v := ?_) rfl (by kernel_rfl) (fun _ _ _ h => h) (Or.inl ⟨by rfl, ?_⟩) (cX) ?_
    rotate_left 1
    · (intro w hSw; (try dsimp only at hSw); go_simp; try with_reducible rfl)
    try simp only [Act.put, List.setIfInBounds_toArray, List.set_cons_zero, List.set_cons_succ]
    refine wpAnyZ_take (i := 6) (v := ?_) rfl (by kernel_rfl) (fun _ _ _ h => h) (Or.inl ⟨by rfl, ?_⟩) (cX) ?_
    rotate_left 1
    · (intro w hSw; (try dsimp only at hSw); go_simp; try with_reducible rfl)
    try simp only [Act.put, List.setIfInBounds_toArray, List.set_cons_zero, List.set_cons_succ]
    refine wpAnyZ_take (i := 7) (v := undef) rfl (by kernel_rfl) (fun _ _ _ h => h) (Or.inr ⟨?_, rfl⟩) (cX) ?_
    · rfl
    try simp only [Act.put, List.setIfInBounds_toArray, List.set_cons_zero, List.set_cons_succ]
    refine wpAnyZ_take (i := 8) (v := undef) rfl (by kernel_rfl) (fun _ _ _ h => h) (Or.inr ⟨?_, rfl⟩) (cX) ?_
    · rfl
    try simp only [Act.put, List.setIfInBounds_toArray, List.set_cons_zero, List.set_cons_succ]
    refine wpAnyZ_take (i := 9) (v := undef) rfl (by kernel_rfl) (fun _ _ _ h => h) (Or.inr ⟨?_, rfl⟩) (cX) ?_
    · rfl
    try simp only [Act.put, List.setIfInBounds_toArray, List.set_cons_zero, List.set_cons_succ]
    refine wpAnyZ_take (i := 10) (v := undef) rfl (by kernel_rfl) (fun _ _ _ h => h) (Or.inr ⟨?_, rfl⟩) (cX) ?_
    · rfl
    try simp only [Act.put, List.setIfInBounds_toArray, List.set_cons_zero, List.set_cons_succ]
    refine wpAnyZ_take (i := 11) (v := undef) rfl (by kernel_rfl) (fun _ _ _ h => h) (Or.inr ⟨?_, rfl⟩) (cX) ?_
    · rfl
    try simp only [Act.put, List.setIfInBounds_toArray, List.set_cons_zero, List.set_cons_succ]
    refine wpAnyZ_take (i := 12) (v := undef) rfl (by kernel_rfl) (fun _ _ _ h => h) (Or.inr ⟨?_, rfl⟩) (cX) ?_
    · rfl
    try simp only [Act.put, List.setIfInBounds_toArray, List.set_cons_zero, List.set_cons_succ]
    refine wpAnyZ_take (i := 13) (v := undef) rfl (by kernel_rfl) (fun _ _ _ h => h) (Or.inr ⟨?_, rfl⟩) (cX) ?_
    · rfl
    try simp only [Act.put, List.setIfInBounds_toArray, List.set_cons_zero, List.set_cons_succ]
    refine wpAnyZ_take (i := 14) (v := ?_) rfl (by kernel_rfl) (fun _ _ _ h => h) (Or.inl ⟨by rfl, ?_⟩) (cX) ?_
    rotate_left 1
    · (intro w hSw; (try dsimp only at hSw); go_simp; try with_reducible rfl)
    try simp only [Act.put, List.setIfInBounds_toArray, List.set_cons_zero, List.set_cons_succ]
    refine wpAnyZ_take (i := 15) (v := ?_) rfl (by kernel_rfl) (fun _ _ _ h => h) (Or.inl ⟨by rfl, ?_⟩) (cX) ?_
    rotate_left 1
    · (intro w hSw; (try dsimp only at hSw); go_simp; try with_reducible rfl)
    try simp only [Act.put, List.setIfInBounds_toArray, List.set_cons_zero, List.set_cons_succ]
    refine wpAnyZ_done (by kernel_rfl) ?_ _
    go_wp2
    go_ret
    exact ⟨rfl, LX⟩
  obtain ⟨rfl, rfl, rfl, rfl⟩ := HEQ.out rfl rfl
  clear HEQ
  go_wp2_with fail
  have cX : w6.drew.cell? ⟨w1.heap.size, 0, none⟩ = some (.slice B m c) := ct
  have zX : w1.heap.size < w6.drew.heap.size := zt
  have LX := L0.trans (Le.refl w6).drew
  have SX := S.le (Le.refl w6).drew
  have SA := S6.le (Le.refl w6).drew
  have SB := S7.le (Le.refl w6).drew
  clear ct S S2 S6 S7 L0
  refine wp_region_Z (fun w' => w'.cell? ⟨w1.heap.size, 0, none⟩ = some (.slice B m c)) [] (by kernel_rfl) ?_
  generalize w6.drew = WD at *
  refine wpAnyZ_take (i := 0) (v := ?_) rfl (by kernel_rfl) (fun _ _ _ h => h) (Or.inl ⟨by rfl, ?_⟩) (cX) ?_
  rotate_left 1
  · (intro w hSw; (try dsimp only at hSw); go_simp; try with_reducible rfl)
  try simp only [Act.put, List.setIfInBounds_toArray, List.set_cons_zero, List.set_cons_succ]
  refine wpAnyZ_take (i := 1) (v := ?_) rfl (by kernel_rfl) (fun _ _ _ h => h) (Or.inl ⟨by rfl, ?_⟩) (cX) ?_
  rotate_left 1
  · (intro w hSw; (try dsimp only at hSw); go_simp; try with_reducible rfl)
  try simp only [Act.put, List.setIfInBounds_toArray, List.set_cons_zero, List.set_cons_succ]
  refine wpAnyZ_take (i := 2) (v := ?_) rfl (by kernel_rfl) (fun _ _ _ h => h) (Or.inl ⟨by rfl, ?_⟩) (cX) ?_
  rotate_left 1
  · (intro w hSw; (try dsimp only at hSw); go_simp; try with_reducible rfl)
  try simp only [Act.put, List.setIfInBounds_toArray, List.set_cons_zero, List.set_cons_succ]
  refine wpAnyZ_take (i := 3) (v := ?_) rfl (by kernel_rfl) (fun _ _ _ h => h) (Or.inl ⟨by rfl, ?_⟩) (cX) ?_
  rotate_left 1
  · (intro w hSw; (try dsimp only at hSw); go_simp; try with_reducible rfl)
  try simp only [Act.put, List.setIfInBounds_toArray, List.set_cons_zero, List.set_cons_succ]
  refine wpAnyZ_take (i := 4) (v := ?_) rfl (by kernel_rfl) (fun _ _ _ h => h) (Or.inl ⟨by rfl, ?_⟩) (cX) ?_
  rotate_left 1
  · (intro w hSw; (try dsimp only at hSw); go_simp; try with_reducible rfl)
  try simp only [Act.put, List.setIfInBounds_toArray, List.set_cons_zero, List.set_cons_succ]
  refine wpAnyZ_take (i := 5) (v := ?_) rfl (by kernel_rfl) (fun _ _ _ h => h) (Or.inl ⟨by rfl, ?_⟩) (cX) ?_
  rotate_left 1
  · (intro w hSw; (try dsimp only at hSw); go_simp; try with_reducible rfl)
  try simp only [Act.put, List.setIfInBounds_toArray, List.set_cons_zero, List.set_cons_succ]
  refine wpAnyZ_take (i := 6) (v := ?_) rfl (by kernel_rfl) (fun _ _ _ h => h) (Or.inl ⟨by rfl, ?_⟩) (cX) ?_
  rotate_left 1
  · (intro w hSw; (try dsimp only at hSw); go_simp; try with_reducible rfl)
  try simp only [Act.put, List.setIfInBounds_toArray, List.set_cons_zero, List.set_cons_succ]
  refine wpAnyZ_take (i := 7) (v := ?_) rfl (by kernel_rfl) (fun _ _ _ h => h) (Or.inl ⟨by rfl, ?_⟩) (cX) ?_
  rotate_left 1
  · (intro w hSw; (try dsimp only at hSw); go_simp; try with_reducible rfl)
  try simp only [Act.put, List.setIfInBounds_toArray, List.set_cons_zero, List.set_cons_succ]
  refine wpAnyZ_take (i := 8) (v := ?_) rfl (by kernel_rfl) (fun _ _ _ h => h) (Or.inl ⟨by rfl, ?_⟩) (cX) ?_
  rotate_left 1
  · (intro w hSw; (try dsimp only at hSw); go_simp; try with_reducible rfl)
  try simp only [Act.put, List.setIfInBounds_toArray, List.set_cons_zero, List.set_cons_succ]
  refine wpAnyZ_take (i := 10) (v := ?_) rfl (by kernel_rfl) (fun _ _ _ h => h) (Or.inl ⟨by rfl, ?_⟩) (cX) ?_
  rotate_left 1
  · (intro w hSw; (try dsimp only at hSw); go_simp; try with_reducible rfl)
  try simp only [Act.put, List.setIfInBounds_toArray, List.set_cons_zero, List.set_cons_succ]
  refine wpAnyZ_take (i := 11) (v := ?_) rfl (by kernel_rfl) (fun _ _ _ h => h) (Or.inl ⟨by rfl, ?_⟩) (cX) ?_
  rotate_left 1
  · (intro w hSw; (try dsimp only at hSw); go_simp; try with_reducible rfl)
  try simp only [Act.put, List.setIfInBounds_toArray, List.set_cons_zero, List.set_cons_succ]
  refine wpAnyZ_one (i := 9) (by kernel_rfl) (ReadyZ.mk rfl (fun K hK => ?_))
  go_simp
  go_at_call 11
  refine (HRA.out WD Aa qa SX SA).mono ?_
  rintro e w7 ⟨A0, k0, A1, k1, rfl, SL7, SH7, hle⟩
  replace cX := (hle.cell zX).trans cX
  replace zX := Nat.lt_of_lt_of_le zX hle.size
  replace LX := LX.trans hle
  replace SX := SX.le hle
  replace SB := SB.le hle
  clear hle HRA SA
  dsimp only
  refine hK.out _ _ (fun _ => cX) ?_
  clear hK K
  try simp only [Act.put, List.setIfInBounds_toArray, List.set_cons_zero, List.set_cons_succ]
  refine wpAnyZ_one (i := 12) (by kernel_rfl) (ReadyZ.mk rfl (fun K hK => ?_))
  go_simp
  go_at_call 11
  refine (HRB.out w7 Ab qb SX SB).mono ?_
  rintro e w8 ⟨A2', k2, A3', k3, rfl, SL8, SH8, hle⟩
  replace cX := (hle.cell zX).trans cX
  replace LX := LX.trans hle
  replace SL7 := SL7.le hle
  replace SH7 := SH7.le hle
  replace zX := Nat.lt_of_lt_of_le zX hle.size
  clear hle HRB SB SX
  dsimp only
  refine hK.out _ _ (fun _ => cX) ?_
  clear hK K
  try simp only [Act.put, List.setIfInBounds_toArray, List.set_cons_zero, List.set_cons_succ]
  refine wpAnyZ_one (i := 13) (by kernel_rfl) (ReadyZ.mk rfl (fun K hK => ?_))
  go_simp
  go_at_call 12
  refine (equalResult_self A0 A2' A1 A3' _ k0 k2 _ k1 k3 La Ha Ea Va w8 SL7 SL8 SH7 SH8).mono ?_
  rintro e w9 ⟨rfl, hle⟩
  replace cX := (hle.cell zX).trans cX
  replace LX := LX.trans hle
  clear hle SL7 SL8 SH7 SH8
  dsimp only
  refine hK.out _ _ (fun _ => cX) ?_
  clear hK K
  try simp only [Act.put, List.setIfInBounds_toArray, List.set_cons_zero, List.set_cons_succ]
  refine wpAnyZ_take (i := 14) (v := ?_) rfl (by kernel_rfl) (fun _ _ _ h => h) (Or.inl ⟨by rfl, ?_⟩) (cX) ?_
  rotate_left 1
  · (intro w hSw; (try dsimp only at hSw); go_simp; try with_reducible rfl)
  try simp only [Act.put, List.setIfInBounds_toArray, List.set_cons_zero, List.set_cons_succ]
  refine wpAnyZ_take (i := 15) (v := ?_) rfl (by kernel_rfl) (fun _ _ _ h => h) (Or.inl ⟨by rfl, ?_⟩) (cX) ?_
  rotate_left 1
  · (intro w hSw; (try dsimp only at hSw); go_simp; try with_reducible rfl)
  try simp only [Act.put, List.setIfInBounds_toArray, List.set_cons_zero, List.set_cons_succ]
  refine wpAnyZ_done (by kernel_rfl) ?_ _
  go_wp2
  go_ret
  exact ⟨rfl, LX⟩
end Go.Proofs.Ytlepgfccnfcagaa
