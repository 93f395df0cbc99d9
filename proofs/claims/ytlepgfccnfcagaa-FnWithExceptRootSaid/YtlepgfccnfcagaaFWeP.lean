/- the law FnWithExceptRoot -/
import Derived.Test.YtlepgfccnfcagaaDPxP
import Derived.Test.YtlepgfccnfcagaaWp13
import Derived.Test.YtlepgfccnfcagaaWp18
namespace Go.Proofs.Ytlepgfccnfcagaa
open Go.RowKit
theorem we_parts {xs : List Cls} {p : List Lin} (h : twOk xs p ⟨0, 8, 0, 0⟩ [] = true) : rpE xs (twX xs p ⟨0, 8, 0, 0⟩ []) ≠ 2 ∧ rpL xs (twX xs p ⟨0, 8, 0, 0⟩ []) = rpL xs p := by
  unfold twOk at h
  rw [Bool.and_eq_true, Bool.and_eq_true] at h
  have e : twX xs p ⟨0, 8, 0, 0⟩ [] = undL ⟨0, 7, 0, 0⟩ p ++ undL ⟨0, 8, 0, 0⟩ [] := by
    unfold twX chkX
    rw [h.1.1, h.1.2, h.2]; rfl
  rw [e]
  exact we_root h.1.1 h.2
set_option maxHeartbeats 8000000 in
set_option maxRecDepth 100000 in
theorem fnWithExceptRoot_walk (A : Option Addr) (n cap : Nat) (bs : List By) (w : World) (hR : Sl w A n cap bs) :
    Calls Try.prog 9 #[.slice A n cap] w fun e w' => e = .returned (.bool true) ∧ Le w w' := by
  have hm := hR.n_le
  obtain ⟨i0, hi, hz0, hz1, hz2⟩ := info_parts infoInt
  by_cases hbig : 1048576 < n
  · go_enter Try.func9, Try.ntmps9
    go_wp2
    go_ret
    exact ⟨rfl, Le.refl w⟩
  go_enter Try.func9, Try.ntmps9
  go_wp2_with fail
  refine (drawWithExcept_any A n cap bs w hR).mono ?_
  rintro e w1 ⟨B, D, E, m, c, q, d, q2, d2, xs, p, r, a, rfl, S, hm8, S2, hq24, S3, hq8, ha0, ha1, L0⟩
  obtain rfl := S2.len
  obtain rfl := S3.len
  have hm1 : m ≤ 1048576 := by omega
  have hsm : p.length ≤ 1048576 := by omega
  have hsq : r.length ≤ 1048576 := by omega
  clear hbig hm hR
  have ha : -9223372036854775808 ≤ a ∧ a ≤ 9223372036854775807 := by omega
  clear ha0 ha1
  have HI : Hid (∀ W, Sl W B m c xs → Sl W D p.length d p → Sl W E r.length d2 r → Calls Try.prog 31 #[.agg #[.slice B m c], .slice D p.length d, .int .i64 a, .slice E r.length d2] W fun e w' => ∃ A q, e = .returned (.tuple #[.slice A (twX xs p ⟨0, 8, a, 0⟩ r).length q, .bool (twOk xs p ⟨0, 8, a, 0⟩ r)]) ∧ Sl w' A (twX xs p ⟨0, 8, a, 0⟩ r).length q (twX xs p ⟨0, 8, a, 0⟩ r) ∧ Le W w') := fun W h1 h2 h3 => Calls.ln (iWithExcept_any B D E m c _ d _ d2 xs p r a ha hm1 W h1 h2 h3)
  have HS : Hid (∀ W, Sl W B m c xs → Sl W D p.length d p → Sl W E r.length d2 r → Calls Try.prog 32 #[.agg #[.slice B m c], .slice D p.length d, .int .i64 a, .slice E r.length d2] W fun e w' => ∃ A q, e = .returned (.tuple #[.slice A (twX xs p ⟨0, 8, a, 0⟩ r).length q, .bool (twOk xs p ⟨0, 8, a, 0⟩ r)]) ∧ Sl w' A (twX xs p ⟨0, 8, a, 0⟩ r).length q (twX xs p ⟨0, 8, a, 0⟩ r) ∧ Le W w') := fun W h1 h2 h3 => Calls.ln (sWithExcept_any B D E m c _ d _ d2 xs p r a ha hsm hsq W h1 h2 h3)
  have HI0 : Hid (∀ W, Sl W B m c xs → Sl W D p.length d p → Calls Try.prog 31 #[.agg #[.slice B m c], .slice D p.length d, .int .i64 0, .slice none 0 0] W fun e w' => ∃ A q, e = .returned (.tuple #[.slice A (twX xs p ⟨0, 8, 0, 0⟩ []).length q, .bool (twOk xs p ⟨0, 8, 0, 0⟩ [])]) ∧ Sl w' A (twX xs p ⟨0, 8, 0, 0⟩ []).length q (twX xs p ⟨0, 8, 0, 0⟩ []) ∧ Le W w') := fun W h1 h2 => Calls.ln (iWithExcept_any B D none m c _ d 0 0 xs p [] 0 (by decide) hm1 W h1 h2 (Sl.nil W none 0 (by decide)))
  have HRT : Hid (twOk xs p ⟨0, 8, 0, 0⟩ [] = true → rpE xs (twX xs p ⟨0, 8, 0, 0⟩ []) ≠ 2 ∧ rpL xs (twX xs p ⟨0, 8, 0, 0⟩ []) = rpL xs p) := fun h => we_parts h
  have HRX : Hid (∀ W A q, Sl W B m c xs → Sl W A (twX xs p ⟨0, 8, 0, 0⟩ []).length q (twX xs p ⟨0, 8, 0, 0⟩ []) → Calls Try.prog 11 #[.agg #[.slice B m c], .slice A (twX xs p ⟨0, 8, 0, 0⟩ []).length q] W fun e w' => ∃ A0 q0 A1 q1, e = .returned (.agg #[.slice A0 (rpL xs (twX xs p ⟨0, 8, 0, 0⟩ [])).length q0, .int .i64 (rpE xs (twX xs p ⟨0, 8, 0, 0⟩ [])), .int .i64 (rpV xs (twX xs p ⟨0, 8, 0, 0⟩ [])), .slice A1 (rpH xs (twX xs p ⟨0, 8, 0, 0⟩ [])).length q1]) ∧ Sl w' A0 (rpL xs (twX xs p ⟨0, 8, 0, 0⟩ [])).length q0 (rpL xs (twX xs p ⟨0, 8, 0, 0⟩ [])) ∧ Sl w' A1 (rpH xs (twX xs p ⟨0, 8, 0, 0⟩ [])).length q1 (rpH xs (twX xs p ⟨0, 8, 0, 0⟩ [])) ∧ Le W w') := fun W A q h1 h2 => Calls.rs (iRp_any B A m c _ q xs _ hm1 W h1 h2)
  have HRL : Hid (∀ W, Sl W B m c xs → Sl W D p.length d p → Calls Try.prog 16 #[.agg #[.slice B m c], .slice D p.length d] W fun e w' => ∃ A q, e = .returned (.slice A (rpL xs p).length q) ∧ Sl w' A (rpL xs p).length q (rpL xs p) ∧ Le W w') := fun W h1 h2 => (iRunLog_any B D m c _ d xs p hm1 W h1 h2).mono (by
    rintro e w' ⟨v, rfl, DD, hle⟩
    obtain ⟨A0, q0, rfl, S0, -⟩ := DD.form (by decide)
    exact ⟨A0, q0, rfl, S0, hle⟩)
  generalize rpL xs (twX xs p ⟨0, 8, 0, 0⟩ []) = LX at *
  generalize rpE xs (twX xs p ⟨0, 8, 0, 0⟩ []) = EX at *
  generalize rpV xs (twX xs p ⟨0, 8, 0, 0⟩ []) = VX at *
  generalize rpH xs (twX xs p ⟨0, 8, 0, 0⟩ []) = HX at *
  generalize twX xs p ⟨0, 8, 0, 0⟩ [] = Y at *
  generalize twOk xs p ⟨0, 8, 0, 0⟩ [] = ok2 at *
  generalize twX xs p ⟨0, 8, a, 0⟩ r = X at *
  generalize twOk xs p ⟨0, 8, a, 0⟩ r = ok at *
  generalize rpL xs p = LP at *
  have hbb : (ok != ok) = false := by simp
  have hbb2 : (ok == ok) = true := by simp
  clear ha
  go_wp2_with fail
  obtain ⟨ct, zt, hleB⟩ := box1 w1 (.slice B m c) 25
  replace S := S.le hleB
  replace L0 := L0.trans hleB
  replace S2 := S2.le hleB
  replace S3 := S3.le hleB
  clear hleB
  generalize w1.alloc (.cells #[.slice B m c] 25) = W1 at *
  refine (HI.out W1 S S2 S3).mono ?_
  rintro e w2 ⟨A2, q2, rfl, S4, hle⟩
  replace ct := (hle.cell zt).trans ct
  replace zt := Nat.lt_of_lt_of_le zt hle.size
  replace S := S.le hle
  replace L0 := L0.trans hle
  replace S2 := S2.le hle
  replace S3 := S3.le hle
  clear hle
  go_wp2_with fail
  refine (HS.out w2 S S2 S3).mono ?_
  rintro e w3 ⟨A3, q3, rfl, S5, hle⟩
  replace ct := (hle.cell zt).trans ct
  replace zt := Nat.lt_of_lt_of_le zt hle.size
  replace S := S.le hle
  replace L0 := L0.trans hle
  replace S2 := S2.le hle
  replace S3 := S3.le hle
  replace S4 := S4.le hle
  clear hle HI HS
  go_wp2_with fail
  refine (equalLines_self A2 A3 _ q2 q3 X w3 S4 S5).mono ?_
  rintro e w4 ⟨rfl, hle⟩
  replace ct := (hle.cell zt).trans ct
  replace zt := Nat.lt_of_lt_of_le zt hle.size
  replace S := S.le hle
  replace L0 := L0.trans hle
  replace S2 := S2.le hle
  replace S3 := S3.le hle
  replace S4 := S4.le hle
  replace S5 := S5.le hle
  clear hle
  cases ok
  · go_wp2_with fail
    refine (equalLines_self A2 A3 _ q2 q3 X w4 S4 S5).mono ?_
    rintro e w5 ⟨rfl, hle⟩
    replace L0 := L0.trans hle
    clear hle
    go_wp2
    go_ret
    exact ⟨rfl, L0⟩
  clear hbb hbb2 S5 S4 S3
  go_wp2_with fail
  refine (HI0.out w4 S S2).mono ?_
  rintro e w5 ⟨A4, q4, rfl, S4, hle⟩
  replace ct := (hle.cell zt).trans ct
  replace zt := Nat.lt_of_lt_of_le zt hle.size
  replace S := S.le hle
  replace L0 := L0.trans hle
  replace S2 := S2.le hle
  clear hle HI0
  go_wp2_with fail
  refine (HRX.out w5 A4 q4 S S4).mono ?_
  rintro e w6 ⟨Aa, qa, Ha, hA, rfl, SLa, SHa, hle⟩
  replace ct := (hle.cell zt).trans ct
  replace zt := Nat.lt_of_lt_of_le zt hle.size
  replace S := S.le hle
  replace L0 := L0.trans hle
  replace S2 := S2.le hle
  clear hle HRX S4 SHa
  obtain ⟨ca0, ca1, ca2, ca3, za0, LB⟩ := boxRr w6 (.slice Aa LX.length qa) (.int .i64 EX) (.int .i64 VX) (.slice Ha HX.length hA) 34
  have za1 := za0
  replace ct := (LB.cell zt).trans ct
  replace zt := Nat.lt_of_lt_of_le zt LB.size
  replace S := S.le LB
  replace L0 := L0.trans LB
  replace S2 := S2.le LB
  replace SLa := SLa.le LB
  clear LB ca2 ca3
  cases ok2
  · clear HRT HRL
    go_wp2_with fail
    generalize w6.alloc (.cells #[.slice Aa LX.length qa, .int .i64 EX, .int .i64 VX, .slice Ha HX.length hA] 34) = W6 at *
    generalize w6.heap.size = ba at *
    replace ct := (show W6.drew.cell? _ = _ from ct)
    replace zt := (show _ < W6.drew.heap.size from zt)
    replace L0 := L0.drew
    refine wp_region_noPanic ?_
    refine wp_region_held_drew (S := fun w' => w'.cell? ⟨w1.heap.size, 0, none⟩ = some (.slice B m c)) (by kernel_rfl) ct (fun hHeld => ?_)
    refine wpAnyH_takeL (i := 0) (v := ?_) rfl (by kernel_rfl) (by kernel_rfl) (by kernel_rfl) (fun _ _ _ h => h) (Or.inl ⟨by rfl, ?_⟩) (by assumption) ?_
    rotate_left 1
    · (intro w hSw; (try dsimp only at hSw); go_simp; try with_reducible rfl)
    try simp only [Act.put, List.setIfInBounds_toArray, List.set_cons_zero, List.set_cons_succ]
    refine wpAnyH_takeL (i := 1) (v := ?_) rfl (by kernel_rfl) (by kernel_rfl) (by kernel_rfl) (fun _ _ _ h => h) (Or.inl ⟨by rfl, ?_⟩) (by assumption) ?_
    rotate_left 1
    · (intro w hSw; (try dsimp only at hSw); go_simp; try with_reducible rfl)
    try simp only [Act.put, List.setIfInBounds_toArray, List.set_cons_zero, List.set_cons_succ]
    refine wpAnyH_takeL (i := 2) (v := ?_) rfl (by kernel_rfl) (by kernel_rfl) (by kernel_rfl) (fun _ _ _ h => h) (Or.inl ⟨by rfl, ?_⟩) (by assumption) ?_
    rotate_left 1
    · (intro w hSw; (try dsimp only at hSw); go_simp; try with_reducible rfl)
    try simp only [Act.put, List.setIfInBounds_toArray, List.set_cons_zero, List.set_cons_succ]
    refine wpAnyH_takeL (i := 3) (v := undef) rfl (by kernel_rfl) (by kernel_rfl) (by kernel_rfl) (fun _ _ _ h => h) (Or.inr ⟨?_, rfl⟩) (by assumption) ?_
    · rfl
    try simp only [Act.put, List.setIfInBounds_toArray, List.set_cons_zero, List.set_cons_succ]
    refine wpAnyH_takeL (i := 4) (v := undef) rfl (by kernel_rfl) (by kernel_rfl) (by kernel_rfl) (fun _ _ _ h => h) (Or.inr ⟨?_, rfl⟩) (by assumption) ?_
    · rfl
    try simp only [Act.put, List.setIfInBounds_toArray, List.set_cons_zero, List.set_cons_succ]
    refine wpAnyH_takeL (i := 5) (v := undef) rfl (by kernel_rfl) (by kernel_rfl) (by kernel_rfl) (fun _ _ _ h => h) (Or.inr ⟨?_, rfl⟩) (by assumption) ?_
    · rfl
    try simp only [Act.put, List.setIfInBounds_toArray, List.set_cons_zero, List.set_cons_succ]
    refine wpAnyH_takeL (i := 6) (v := undef) rfl (by kernel_rfl) (by kernel_rfl) (by kernel_rfl) (fun _ _ _ h => h) (Or.inr ⟨?_, rfl⟩) (by assumption) ?_
    · rfl
    try simp only [Act.put, List.setIfInBounds_toArray, List.set_cons_zero, List.set_cons_succ]
    refine wpAnyH_takeL (i := 7) (v := undef) rfl (by kernel_rfl) (by kernel_rfl) (by kernel_rfl) (fun _ _ _ h => h) (Or.inr ⟨?_, rfl⟩) (by assumption) ?_
    · rfl
    try simp only [Act.put, List.setIfInBounds_toArray, List.set_cons_zero, List.set_cons_succ]
    refine wpAnyH_takeL (i := 8) (v := undef) rfl (by kernel_rfl) (by kernel_rfl) (by kernel_rfl) (fun _ _ _ h => h) (Or.inr ⟨?_, rfl⟩) (by assumption) ?_
    · rfl
    try simp only [Act.put, List.setIfInBounds_toArray, List.set_cons_zero, List.set_cons_succ]
    refine wpAnyH_takeL (i := 9) (v := undef) rfl (by kernel_rfl) (by kernel_rfl) (by kernel_rfl) (fun _ _ _ h => h) (Or.inr ⟨?_, rfl⟩) (by assumption) ?_
    · rfl
    try simp only [Act.put, List.setIfInBounds_toArray, List.set_cons_zero, List.set_cons_succ]
    refine wpAnyH_takeL (i := 10) (v := undef) rfl (by kernel_rfl) (by kernel_rfl) (by kernel_rfl) (fun _ _ _ h => h) (Or.inr ⟨?_, rfl⟩) (by assumption) ?_
    · rfl
    try simp only [Act.put, List.setIfInBounds_toArray, List.set_cons_zero, List.set_cons_succ]
    refine wpAnyH_takeL (i := 11) (v := undef) rfl (by kernel_rfl) (by kernel_rfl) (by kernel_rfl) (fun _ _ _ h => h) (Or.inr ⟨?_, rfl⟩) (by assumption) ?_
    · rfl
    try simp only [Act.put, List.setIfInBounds_toArray, List.set_cons_zero, List.set_cons_succ]
    refine wpAnyH_takeL (i := 12) (v := undef) rfl (by kernel_rfl) (by kernel_rfl) (by kernel_rfl) (fun _ _ _ h => h) (Or.inr ⟨?_, rfl⟩) (by assumption) ?_
    · rfl
    try simp only [Act.put, List.setIfInBounds_toArray, List.set_cons_zero, List.set_cons_succ]
    refine wpAnyH_takeL (i := 13) (v := undef) rfl (by kernel_rfl) (by kernel_rfl) (by kernel_rfl) (fun _ _ _ h => h) (Or.inr ⟨?_, rfl⟩) (by assumption) ?_
    · rfl
    try simp only [Act.put, List.setIfInBounds_toArray, List.set_cons_zero, List.set_cons_succ]
    refine wpAnyH_takeL (i := 14) (v := ?_) rfl (by kernel_rfl) (by kernel_rfl) (by kernel_rfl) (fun _ _ _ h => h) (Or.inl ⟨by rfl, ?_⟩) (by assumption) ?_
    rotate_left 1
    · (intro w hSw; (try dsimp only at hSw); go_simp; try with_reducible rfl)
    try simp only [Act.put, List.setIfInBounds_toArray, List.set_cons_zero, List.set_cons_succ]
    refine wpAnyH_takeL (i := 15) (v := ?_) rfl (by kernel_rfl) (by kernel_rfl) (by kernel_rfl) (fun _ _ _ h => h) (Or.inl ⟨by rfl, ?_⟩) (by assumption) ?_
    rotate_left 1
    · (intro w hSw; (try dsimp only at hSw); go_simp; try with_reducible rfl)
    try simp only [Act.put, List.setIfInBounds_toArray, List.set_cons_zero, List.set_cons_succ]
    refine wpAnyH_done (by kernel_rfl) ?_ _
    refine NoPanic.normal ?_
    go_wp2
    go_ret
    exact ⟨rfl, L0⟩
  · obtain ⟨hne, rfl⟩ := HRT.out rfl
    have heb : (EX != 2) = true := by simp [hne]
    clear HRT
    go_wp2_with fail
    generalize w6.alloc (.cells #[.slice Aa LX.length qa, .int .i64 EX, .int .i64 VX, .slice Ha HX.length hA] 34) = W6 at *
    generalize w6.heap.size = ba at *
    replace ct := (show W6.drew.cell? _ = _ from ct)
    replace zt := (show _ < W6.drew.heap.size from zt)
    replace ca0 := (show W6.drew.cell? _ = _ from ca0)
    replace za0 := (show _ < W6.drew.heap.size from za0)
    replace ca1 := (show W6.drew.cell? _ = _ from ca1)
    replace za1 := (show _ < W6.drew.heap.size from za1)
    replace L0 := L0.drew
    replace S := S.le (Le.refl _).drew
    replace S2 := S2.le (Le.refl _).drew
    replace SLa := SLa.le (Le.refl _).drew
    refine wp_region_noPanic ?_
    refine wp_region_held_drew (S := fun w' => w'.cell? ⟨w1.heap.size, 0, none⟩ = some (.slice B m c) ∧ w'.cell? ⟨ba, 0, none⟩ = some (.slice Aa LX.length qa) ∧ w'.cell? ⟨ba, 1, none⟩ = some (.int .i64 EX)) (by kernel_rfl) ⟨ct, ca0, ca1⟩ (fun hHeld => ?_)
    refine wpAnyH_takeL (i := 0) (v := ?_) rfl (by kernel_rfl) (by kernel_rfl) (by kernel_rfl) (fun _ _ _ h => h) (Or.inl ⟨by rfl, ?_⟩) (by assumption) ?_
    rotate_left 1
    · (intro w hSw; (try dsimp only at hSw); go_simp; try with_reducible rfl)
    try simp only [Act.put, List.setIfInBounds_toArray, List.set_cons_zero, List.set_cons_succ]
    refine wpAnyH_takeL (i := 1) (v := ?_) rfl (by kernel_rfl) (by kernel_rfl) (by kernel_rfl) (fun _ _ _ h => h) (Or.inl ⟨by rfl, ?_⟩) (by assumption) ?_
    rotate_left 1
    · (intro w hSw; (try dsimp only at hSw); go_simp; try with_reducible rfl)
    try simp only [Act.put, List.setIfInBounds_toArray, List.set_cons_zero, List.set_cons_succ]
    refine wpAnyH_takeL (i := 2) (v := ?_) rfl (by kernel_rfl) (by kernel_rfl) (by kernel_rfl) (fun _ _ _ h => h) (Or.inl ⟨by rfl, ?_⟩) (by assumption) ?_
    rotate_left 1
    · (intro w hSw; (try dsimp only at hSw); go_simp; try with_reducible rfl)
    try simp only [Act.put, List.setIfInBounds_toArray, List.set_cons_zero, List.set_cons_succ]
    refine wpAnyH_takeL (i := 3) (v := ?_) rfl (by kernel_rfl) (by kernel_rfl) (by kernel_rfl) (fun _ _ _ h => h) (Or.inl ⟨by rfl, ?_⟩) (by assumption) ?_
    rotate_left 1
    · (intro w hSw; (try dsimp only at hSw); go_simp; try with_reducible rfl)
    try simp only [Act.put, List.setIfInBounds_toArray, List.set_cons_zero, List.set_cons_succ]
    refine wpAnyH_takeL (i := 4) (v := ?_) rfl (by kernel_rfl) (by kernel_rfl) (by kernel_rfl) (fun _ _ _ h => h) (Or.inl ⟨by rfl, ?_⟩) (by assumption) ?_
    rotate_left 1
    · (intro w hSw; (try dsimp only at hSw); go_simp; try with_reducible rfl)
    try simp only [Act.put, List.setIfInBounds_toArray, List.set_cons_zero, List.set_cons_succ]
    refine wpAnyH_takeL (i := 5) (v := ?_) rfl (by kernel_rfl) (by kernel_rfl) (by kernel_rfl) (fun _ _ _ h => h) (Or.inl ⟨by rfl, ?_⟩) (by assumption) ?_
    rotate_left 1
    · (intro w hSw; (try dsimp only at hSw); go_simp; try with_reducible rfl)
    try simp only [Act.put, List.setIfInBounds_toArray, List.set_cons_zero, List.set_cons_succ]
    refine wpAnyH_takeL (i := 6) (v := ?_) rfl (by kernel_rfl) (by kernel_rfl) (by kernel_rfl) (fun _ _ _ h => h) (Or.inl ⟨by rfl, ?_⟩) (by assumption) ?_
    rotate_left 1
    · (intro w hSw; (try dsimp only at hSw); go_simp; try with_reducible rfl)
    try simp only [Act.put, List.setIfInBounds_toArray, List.set_cons_zero, List.set_cons_succ]
    refine wpAnyH_takeL (i := 7) (v := ?_) rfl (by kernel_rfl) (by kernel_rfl) (by kernel_rfl) (fun _ _ _ h => h) (Or.inl ⟨by rfl, ?_⟩) (by assumption) ?_
    rotate_left 1
    · (intro w hSw; (try dsimp only at hSw); go_simp; try with_reducible rfl)
    try simp only [Act.put, List.setIfInBounds_toArray, List.set_cons_zero, List.set_cons_succ]
    refine wpAnyH_takeL (i := 8) (v := ?_) rfl (by kernel_rfl) (by kernel_rfl) (by kernel_rfl) (fun _ _ _ h => h) (Or.inl ⟨by rfl, ?_⟩) (by assumption) ?_
    rotate_left 1
    · (intro w hSw; (try dsimp only at hSw); go_simp; try with_reducible rfl)
    try simp only [Act.put, List.setIfInBounds_toArray, List.set_cons_zero, List.set_cons_succ]
    refine wpAnyH_takeL (i := 9) (v := ?_) rfl (by kernel_rfl) (by kernel_rfl) (by kernel_rfl) (fun _ _ _ h => h) (Or.inl ⟨by rfl, ?_⟩) (by assumption) ?_
    rotate_left 1
    · (intro w hSw; (try dsimp only at hSw); go_simp; try with_reducible rfl)
    try simp only [Act.put, List.setIfInBounds_toArray, List.set_cons_zero, List.set_cons_succ]
    refine wpAnyH_takeL (i := 10) (v := ?_) rfl (by kernel_rfl) (by kernel_rfl) (by kernel_rfl) (fun _ _ _ h => h) (Or.inl ⟨by rfl, ?_⟩) (by assumption) ?_
    rotate_left 1
    · (intro w hSw; (try dsimp only at hSw); go_simp; try with_reducible rfl)
    try simp only [Act.put, List.setIfInBounds_toArray, List.set_cons_zero, List.set_cons_succ]
    refine wpAnyH_ready (rs := [11]) (by kernel_rfl) (by simp) (AllReadyH.consL (i := 11) rfl (fun K hK => ?_) AllReadyH.nil)
    go_simp
    go_at_call 16
    refine (HRL.out _ S S2).mono ?_
    rintro e w7 ⟨Ab, qb, rfl, SLb, hle⟩
    replace ct := (hle.cell zt).trans ct
    replace ca0 := (hle.cell za0).trans ca0
    replace ca1 := (hle.cell za1).trans ca1
    replace zt := Nat.lt_of_lt_of_le zt hle.size
    replace za0 := Nat.lt_of_lt_of_le za0 hle.size
    replace za1 := Nat.lt_of_lt_of_le za1 hle.size
    replace L0 := L0.trans hle
    replace SLa := SLa.le hle
    clear hle HRL
    refine hK.out _ _ (⟨ct, ca0, ca1⟩) (fun hHeld => ?_)
    clear hK K
    try simp only [Act.put, List.setIfInBounds_toArray, List.set_cons_zero, List.set_cons_succ]
    refine wpAnyH_ready (rs := [12]) (by kernel_rfl) (by simp) (AllReadyH.consL (i := 12) rfl (fun K hK => ?_) AllReadyH.nil)
    go_simp
    go_at_call 17
    refine (equalInts_self Aa Ab _ qa qb LX _ SLa SLb).mono ?_
    rintro e w8 ⟨rfl, hle⟩
    replace ct := (hle.cell zt).trans ct
    replace ca0 := (hle.cell za0).trans ca0
    replace ca1 := (hle.cell za1).trans ca1
    replace zt := Nat.lt_of_lt_of_le zt hle.size
    replace za0 := Nat.lt_of_lt_of_le za0 hle.size
    replace za1 := Nat.lt_of_lt_of_le za1 hle.size
    replace L0 := L0.trans hle
    clear hle
    refine hK.out _ _ (⟨ct, ca0, ca1⟩) (fun hHeld => ?_)
    clear hK K
    try simp only [Act.put, List.setIfInBounds_toArray, List.set_cons_zero, List.set_cons_succ]
    refine wpAnyH_takeL (i := 13) (v := ?_) rfl (by kernel_rfl) (by kernel_rfl) (by kernel_rfl) (fun _ _ _ h => h) (Or.inl ⟨by rfl, ?_⟩) (by assumption) ?_
    rotate_left 1
    · (intro w hSw; (try dsimp only at hSw); go_simp; try with_reducible rfl)
    try simp only [Act.put, List.setIfInBounds_toArray, List.set_cons_zero, List.set_cons_succ]
    refine wpAnyH_takeL (i := 14) (v := ?_) rfl (by kernel_rfl) (by kernel_rfl) (by kernel_rfl) (fun _ _ _ h => h) (Or.inl ⟨by rfl, ?_⟩) (by assumption) ?_
    rotate_left 1
    · (intro w hSw; (try dsimp only at hSw); go_simp; try with_reducible rfl)
    try simp only [Act.put, List.setIfInBounds_toArray, List.set_cons_zero, List.set_cons_succ]
    refine wpAnyH_takeL (i := 15) (v := ?_) rfl (by kernel_rfl) (by kernel_rfl) (by kernel_rfl) (fun _ _ _ h => h) (Or.inl ⟨by rfl, ?_⟩) (by assumption) ?_
    rotate_left 1
    · (intro w hSw; (try dsimp only at hSw); go_simp; try with_reducible rfl)
    try simp only [Act.put, List.setIfInBounds_toArray, List.set_cons_zero, List.set_cons_succ]
    refine wpAnyH_done (by kernel_rfl) ?_ _
    refine NoPanic.normal ?_
    go_wp2
    go_ret
    exact ⟨rfl, L0⟩
end Go.Proofs.Ytlepgfccnfcagaa
