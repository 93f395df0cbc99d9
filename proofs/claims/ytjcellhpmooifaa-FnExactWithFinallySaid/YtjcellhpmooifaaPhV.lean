/- programs: a program in a try, in a loop: of the model -/
import Derived.Test.YtjcellhpmooifaaPhU
import Derived.Test.YtjcellhpmooifaaPhT
namespace Go.Proofs.Ytjcellhpmooifaa
open Go.RowKit
set_option maxHeartbeats 1000000 in
set_option maxRecDepth 100000 in
theorem sWithFinally_any (B A C : Option Addr) (m c n cap k d : Nat) (xs : List Cls) (p q : List Lin) (hsm : p.length ≤ 1048576) (hsq : q.length ≤ 1048576) (w : World) (hT : Sl w B m c xs) (hR : Sl w A n cap p) (hQ : Sl w C k d q) :
    Calls Try.prog 28 #[.agg #[.slice B m c], .slice A n cap, .slice C k d] w fun e w' => ∃ v, e = .returned (.tuple #[v, .bool (twOk xs p ⟨0, 10, 0, 0⟩ q)]) ∧ Owd 67 w w' v (twX xs p ⟨0, 10, 0, 0⟩ q) ∧ Le w w' := by
  obtain ⟨i0, hi, hz0, hz1, hz2⟩ := info_parts infoLn
  have hok := lin_ok (k := 10) (a := 0) (by omega) (by omega) (by omega)
  have HX : Hid (twX xs p ⟨0, 10, 0, 0⟩ q = cond (vp xs p && vp xs q) (chkX xs (undL ⟨0, 7, 0, 0⟩ p ++ undL ⟨0, 10, 0, 0⟩ q)) []) := rfl
  have HY : Hid (twOk xs p ⟨0, 10, 0, 0⟩ q = ((vp xs p && vp xs q) && vp xs (undL ⟨0, 7, 0, 0⟩ p ++ undL ⟨0, 10, 0, 0⟩ q))) := rfl
  go_enter Try.func28, Try.ntmps28
  go_wp2_with fail
  obtain ⟨ct, zt, hleB⟩ := box1 w (.slice B m c) 31
  have L0 := hleB
  clear hleB
  generalize w.alloc (.cells #[.slice B m c] 31) = W at *
  refine (sboth_any B A C m c n cap k d xs p q hsm hsq _ (hT.le L0) (hR.le L0) (hQ.le L0)).mono ?_
  rintro e w2 ⟨rfl, hle⟩
  replace ct := (hle.cell zt).trans ct
  replace zt := Nat.lt_of_lt_of_le zt hle.size
  replace L0 := L0.trans hle
  clear hle
  cases hv : (vp xs p && vp xs q)
  · rw [hv] at HX HY
    have HO : Hid (Owd 67 w w2 (.slice none 0 0) (twX xs p ⟨0, 10, 0, 0⟩ q)) := by show Owd _ _ _ _ _; rw [HX.out]; exact Owd.nil _ _ _
    go_wp2
    exact bodyPost_ret (v := .tuple #[.slice none 0 0, .bool false]) (by simp [results, Try.results28, go_sem]) rfl ⟨_, ret2 HY.out.symm rfl, HO.out, L0⟩
  · rw [hv] at HX HY
    have hb := Bool.and_eq_true_iff.1 hv
    have HDp := Lib.hid (good_deep hb.1)
    have HDq := Lib.hid (good_deep hb.2)
    have hp := (goodP_of hb.1).len
    have hq := (goodP_of hb.2).len
    have hnp := hR.len
    have hnq := hQ.len
    have hp2 : p.length ≤ 1048000 := by omega
    have hq2 : q.length ≤ 1048000 := by omega
    obtain ⟨U, HU⟩ : ∃ U, Hid (undL ⟨0, 7, 0, 0⟩ p = U) := ⟨_, rfl⟩
    obtain ⟨V, HV⟩ : ∃ V, Hid (undL ⟨0, 10, 0, 0⟩ q = V) := ⟨_, rfl⟩
    have HUL : Hid (U.length ≤ p.length + 2) := by show _ ≤ _; rw [← HU.out]; exact undL_len _ _
    have HVL : Hid (V.length ≤ q.length + 2) := by show _ ≤ _; rw [← HV.out]; exact undL_len _ _
    rw [HU.out, HV.out] at HX HY
    obtain ⟨PQ, HPQ⟩ : ∃ PQ, Hid (U ++ V = PQ) := ⟨_, rfl⟩
    have HPQL : Hid (U.length + V.length = PQ.length) := by show _ = _; rw [← HPQ.out, List.length_append]
    rw [HPQ.out] at HX HY
    have L1 : Le w2 w2.drew := (Le.refl w2).drew
    have SP := hR.le (L0.trans L1)
    have HCT : Hid (∀ w' : World, Le w2 w' → w'.cell? ⟨w.heap.size, 0, none⟩ = some (.slice B m c)) := fun w' hl => (hl.cell zt).trans ct
    clear hnp hnq ct
    go_wp2_with fail
    refine wp_region_noPanic ?_
    refine wp_region_held_drew (S := fun w' => w'.cell? ⟨w.heap.size, 0, none⟩ = some (.slice B m c)) (by kernel_rfl) (HCT.out _ L1) (fun hHeld => ?_)
    refine wpAnyH_takeL (i := 0) (v := ?_) rfl (by kernel_rfl) (by kernel_rfl) (by kernel_rfl) (fun _ _ _ h => h) (Or.inl ⟨by rfl, ?_⟩) (by assumption) ?_
    rotate_left 1
    · (intro w hSw; (try dsimp only at hSw); go_simp; try with_reducible rfl)
    try simp only [Act.put, List.setIfInBounds_toArray, List.set_cons_zero, List.set_cons_succ]
    refine wpAnyH_takeL (i := 1) (v := ?_) rfl (by kernel_rfl) (by kernel_rfl) (by kernel_rfl) (fun _ _ _ h => h) (Or.inl ⟨by rfl, ?_⟩) (by assumption) ?_
    rotate_left 1
    · (intro w hSw; (try dsimp only at hSw); go_simp; try with_reducible rfl)
    try simp only [Act.put, List.setIfInBounds_toArray, List.set_cons_zero, List.set_cons_succ]
    refine wpAnyH_takeL (i := 2) (v := ?_) rfl (by kernel_rfl) (by kernel_rfl) (by kernel_rfl) (fun _ _ _ h => h) (Or.inl ⟨by rfl, ?_⟩) (by assumption) ?_
    rotate_left 1
    · (intro w hSw; (try dsimp only at hSw); go_simp; try with_reducible rfl)
    try simp only [Act.put, List.setIfInBounds_toArray, List.set_cons_zero, List.set_cons_succ]
    refine wpAnyH_takeL (i := 4) (v := ?_) rfl (by kernel_rfl) (by kernel_rfl) (by kernel_rfl) (fun _ _ _ h => h) (Or.inl ⟨by rfl, ?_⟩) (by assumption) ?_
    rotate_left 1
    · (intro w hSw; (try dsimp only at hSw); go_simp; try with_reducible rfl)
    try simp only [Act.put, List.setIfInBounds_toArray, List.set_cons_zero, List.set_cons_succ]
    refine wpAnyH_takeL (i := 5) (v := ?_) rfl (by kernel_rfl) (by kernel_rfl) (by kernel_rfl) (fun _ _ _ h => h) (Or.inl ⟨by rfl, ?_⟩) (by assumption) ?_
    rotate_left 1
    · (intro w hSw; (try dsimp only at hSw); go_simp; try with_reducible rfl)
    try simp only [Act.put, List.setIfInBounds_toArray, List.set_cons_zero, List.set_cons_succ]
    refine wpAnyH_ready (rs := [3]) (by kernel_rfl) (by simp) (AllReadyH.consL (i := 3) rfl (fun K hK => ?_) AllReadyH.nil)
    go_simp
    go_at_call 71
    refine (sunder_any ⟨0, 7, 0, 0⟩ A n cap p hp2 try_ok HDp.out _ SP).mono ?_
    rintro e w3 ⟨v3, rfl, D3, hle⟩
    rw [HU.out] at D3
    have L3 := L1.trans hle
    have SQ3 := hQ.le (L0.trans L3)
    clear hle SP
    refine hK.out _ _ ((HCT.out _ L3)) (fun hHeld => ?_)
    clear hK K
    try simp only [Act.put, List.setIfInBounds_toArray, List.set_cons_zero, List.set_cons_succ]
    refine wpAnyH_ready (rs := [6]) (by kernel_rfl) (by simp) (AllReadyH.consL (i := 6) rfl (fun K hK => ?_) AllReadyH.nil)
    go_simp
    go_at_call 71
    refine (sunder_any ⟨0, 10, 0, 0⟩ C k d q hq2 hok HDq.out _ SQ3).mono ?_
    rintro e w4 ⟨v4, rfl, D4, hle⟩
    rw [HV.out] at D4
    have L4 := L3.trans hle
    have D34 := D3.le hle
    have HPO : ∀ x ∈ PQ, Enc.ok x := by
      rw [← HPQ.out]
      intro x hx
      rcases List.mem_append.1 hx with hx | hx
      · exact D3.ok x hx
      · exact D4.ok x hx
    obtain ⟨A4, q4, rfl, S4, hB4⟩ := D4.form (by decide)
    have hUV1 : U.length + V.length ≤ maxLen := by have := HUL.out; have := HVL.out; unfold maxLen; omega
    have hUV2 : (U.length + V.length) * 32 ≤ 140737488355328 := by have := HUL.out; have := HVL.out; omega
    clear hle D4 hB4 SQ3 D3
    refine hK.out _ _ ((HCT.out _ L4)) (fun hHeld => ?_)
    clear hK K
    try simp only [Act.put, List.setIfInBounds_toArray, List.set_cons_zero, List.set_cons_succ]
    refine wpAnyH_ready (rs := [7]) (by kernel_rfl) (by simp) (AllReadyH.consL (i := 7) rfl (fun K hK => ?_) AllReadyH.nil)
    refine step_append_sl rfl _ _ 33 rfl w2.drew.heap.size 67 i0 _ 32 Try.underlying33 hi hz0 hz1 hz2 rfl v3 U.length U rfl D34.row A4 V.length q4 V rfl S4 hUV1 hUV2 L4.size ?_
    intro v5 w5 O5 hg5 _
    have L5 := L4.grown hg5 (fun k hk => (D34.row.lt k hk).1)
    rw [HPQ.out, HPQL.out] at O5
    obtain ⟨A5, q5, rfl⟩ := own_form O5
    have D5 : Owd 67 w2.drew w5 (.slice A5 PQ.length q5) PQ := ⟨O5, HPO⟩
    have S5 := Sl.of_own O5 rfl (by decide) HPO
    have ST5 := hT.le (L0.trans L5)
    have h48 : PQ.length ≤ 1048576 := by have := HPQL.out; have := HUL.out; have := HVL.out; omega
    clear O5
    refine hK.out _ _ ((HCT.out _ L5)) (fun hHeld => ?_)
    clear hK K
    try simp only [Act.put, List.setIfInBounds_toArray, List.set_cons_zero, List.set_cons_succ]
    refine wpAnyH_ready (rs := [8]) (by kernel_rfl) (by simp) (AllReadyH.consL (i := 8) rfl (fun K hK => ?_) AllReadyH.nil)
    go_simp
    go_at_call 67
    refine (scheckedProgram_any B A5 m c _ q5 xs PQ h48 _ ST5 S5).mono ?_
    rintro e w7 ⟨rfl, hle7⟩
    have L7 := L5.trans hle7
    have D7 := chk_owd (xs := xs) ((D5.mono (L0.trans L1)).le hle7)
    refine hK.out _ _ ((HCT.out _ L7)) (fun hHeld => ?_)
    clear hK K
    try simp only [Act.put, List.setIfInBounds_toArray, List.set_cons_zero, List.set_cons_succ]
    refine wpAnyH_takeL (i := 9) (v := ?_) rfl (by kernel_rfl) (by kernel_rfl) (by kernel_rfl) (fun _ _ _ h => h) (Or.inl ⟨by rfl, ?_⟩) (by assumption) ?_
    rotate_left 1
    · (intro w hSw; (try dsimp only at hSw); go_simp; try with_reducible rfl)
    try simp only [Act.put, List.setIfInBounds_toArray, List.set_cons_zero, List.set_cons_succ]
    refine wpAnyH_takeL (i := 10) (v := ?_) rfl (by kernel_rfl) (by kernel_rfl) (by kernel_rfl) (fun _ _ _ h => h) (Or.inl ⟨by rfl, ?_⟩) (by assumption) ?_
    rotate_left 1
    · (intro w hSw; (try dsimp only at hSw); go_simp; try with_reducible rfl)
    try simp only [Act.put, List.setIfInBounds_toArray, List.set_cons_zero, List.set_cons_succ]
    refine wpAnyH_takeL (i := 11) (v := ?_) rfl (by kernel_rfl) (by kernel_rfl) (by kernel_rfl) (fun _ _ _ h => h) (Or.inl ⟨by rfl, ?_⟩) (by assumption) ?_
    rotate_left 1
    · (intro w hSw; (try dsimp only at hSw); go_simp; try with_reducible rfl)
    try simp only [Act.put, List.setIfInBounds_toArray, List.set_cons_zero, List.set_cons_succ]
    refine wpAnyH_takeL (i := 12) (v := ?_) rfl (by kernel_rfl) (by kernel_rfl) (by kernel_rfl) (fun _ _ _ h => h) (Or.inl ⟨by rfl, ?_⟩) (by assumption) ?_
    rotate_left 1
    · (intro w hSw; (try dsimp only at hSw); go_simp; try with_reducible rfl)
    try simp only [Act.put, List.setIfInBounds_toArray, List.set_cons_zero, List.set_cons_succ]
    refine wpAnyH_done (by kernel_rfl) ?_ _
    refine NoPanic.normal ?_
    have HO : Hid (Owd 67 w w7 (chkV xs PQ (.slice A5 PQ.length q5)) (twX xs p ⟨0, 10, 0, 0⟩ q)) := by show Owd _ _ _ _ _; rw [HX.out]; exact D7
    go_wp2
    exact bodyPost_ret (v := .tuple #[chkV xs PQ (.slice A5 PQ.length q5), .bool (vp xs PQ)]) (by simp [results, Try.results28, go_sem]) rfl ⟨_, ret2 HY.out.symm rfl, HO.out, L0.trans L7⟩
set_option maxHeartbeats 1000000 in
set_option maxRecDepth 100000 in
theorem sWithExcept_any (B A C : Option Addr) (m c n cap k d : Nat) (xs : List Cls) (p q : List Lin) (a : Int) (ha : -9223372036854775808 ≤ a ∧ a ≤ 9223372036854775807) (hsm : p.length ≤ 1048576) (hsq : q.length ≤ 1048576) (w : World) (hT : Sl w B m c xs) (hR : Sl w A n cap p) (hQ : Sl w C k d q) :
    Calls Try.prog 30 #[.agg #[.slice B m c], .slice A n cap, .int .i64 a, .slice C k d] w fun e w' => ∃ v, e = .returned (.tuple #[v, .bool (twOk xs p ⟨0, 8, a, 0⟩ q)]) ∧ Owd 67 w w' v (twX xs p ⟨0, 8, a, 0⟩ q) ∧ Le w w' := by
  obtain ⟨i0, hi, hz0, hz1, hz2⟩ := info_parts infoLn
  have hok := lin_ok (k := 8) ha (by omega) (by omega)
  have HX : Hid (twX xs p ⟨0, 8, a, 0⟩ q = cond (vp xs p && vp xs q) (chkX xs (undL ⟨0, 7, 0, 0⟩ p ++ undL ⟨0, 8, a, 0⟩ q)) []) := rfl
  have HY : Hid (twOk xs p ⟨0, 8, a, 0⟩ q = ((vp xs p && vp xs q) && vp xs (undL ⟨0, 7, 0, 0⟩ p ++ undL ⟨0, 8, a, 0⟩ q))) := rfl
  go_enter Try.func30, Try.ntmps30
  go_wp2_with fail
  obtain ⟨ct, zt, hleB⟩ := box1 w (.slice B m c) 31
  have L0 := hleB
  clear hleB
  generalize w.alloc (.cells #[.slice B m c] 31) = W at *
  refine (sboth_any B A C m c n cap k d xs p q hsm hsq _ (hT.le L0) (hR.le L0) (hQ.le L0)).mono ?_
  rintro e w2 ⟨rfl, hle⟩
  replace ct := (hle.cell zt).trans ct
  replace zt := Nat.lt_of_lt_of_le zt hle.size
  replace L0 := L0.trans hle
  clear hle
  cases hv : (vp xs p && vp xs q)
  · rw [hv] at HX HY
    have HO : Hid (Owd 67 w w2 (.slice none 0 0) (twX xs p ⟨0, 8, a, 0⟩ q)) := by show Owd _ _ _ _ _; rw [HX.out]; exact Owd.nil _ _ _
    go_wp2
    exact bodyPost_ret (v := .tuple #[.slice none 0 0, .bool false]) (by simp [results, Try.results30, go_sem]) rfl ⟨_, ret2 HY.out.symm rfl, HO.out, L0⟩
  · rw [hv] at HX HY
    have hb := Bool.and_eq_true_iff.1 hv
    have HDp := Lib.hid (good_deep hb.1)
    have HDq := Lib.hid (good_deep hb.2)
    have hp := (goodP_of hb.1).len
    have hq := (goodP_of hb.2).len
    have hnp := hR.len
    have hnq := hQ.len
    have hp2 : p.length ≤ 1048000 := by omega
    have hq2 : q.length ≤ 1048000 := by omega
    obtain ⟨U, HU⟩ : ∃ U, Hid (undL ⟨0, 7, 0, 0⟩ p = U) := ⟨_, rfl⟩
    obtain ⟨V, HV⟩ : ∃ V, Hid (undL ⟨0, 8, a, 0⟩ q = V) := ⟨_, rfl⟩
    have HUL : Hid (U.length ≤ p.length + 2) := by show _ ≤ _; rw [← HU.out]; exact undL_len _ _
    have HVL : Hid (V.length ≤ q.length + 2) := by show _ ≤ _; rw [← HV.out]; exact undL_len _ _
    rw [HU.out, HV.out] at HX HY
    obtain ⟨PQ, HPQ⟩ : ∃ PQ, Hid (U ++ V = PQ) := ⟨_, rfl⟩
    have HPQL : Hid (U.length + V.length = PQ.length) := by show _ = _; rw [← HPQ.out, List.length_append]
    rw [HPQ.out] at HX HY
    have L1 : Le w2 w2.drew := (Le.refl w2).drew
    have SP := hR.le (L0.trans L1)
    have HCT : Hid (∀ w' : World, Le w2 w' → w'.cell? ⟨w.heap.size, 0, none⟩ = some (.slice B m c)) := fun w' hl => (hl.cell zt).trans ct
    clear hnp hnq ct
    go_wp2_with fail
    refine wp_region_noPanic ?_
    refine wp_region_held_drew (S := fun w' => w'.cell? ⟨w.heap.size, 0, none⟩ = some (.slice B m c)) (by kernel_rfl) (HCT.out _ L1) (fun hHeld => ?_)
    refine wpAnyH_takeL (i := 0) (v := ?_) rfl (by kernel_rfl) (by kernel_rfl) (by kernel_rfl) (fun _ _ _ h => h) (Or.inl ⟨by rfl, ?_⟩) (by assumption) ?_
    rotate_left 1
    · (intro w hSw; (try dsimp only at hSw); go_simp; try with_reducible rfl)
    try simp only [Act.put, List.setIfInBounds_toArray, List.set_cons_zero, List.set_cons_succ]
    refine wpAnyH_takeL (i := 1) (v := ?_) rfl (by kernel_rfl) (by kernel_rfl) (by kernel_rfl) (fun _ _ _ h => h) (Or.inl ⟨by rfl, ?_⟩) (by assumption) ?_
    rotate_left 1
    · (intro w hSw; (try dsimp only at hSw); go_simp; try with_reducible rfl)
    try simp only [Act.put, List.setIfInBounds_toArray, List.set_cons_zero, List.set_cons_succ]
    refine wpAnyH_takeL (i := 2) (v := ?_) rfl (by kernel_rfl) (by kernel_rfl) (by kernel_rfl) (fun _ _ _ h => h) (Or.inl ⟨by rfl, ?_⟩) (by assumption) ?_
    rotate_left 1
    · (intro w hSw; (try dsimp only at hSw); go_simp; try with_reducible rfl)
    try simp only [Act.put, List.setIfInBounds_toArray, List.set_cons_zero, List.set_cons_succ]
    refine wpAnyH_takeL (i := 4) (v := ?_) rfl (by kernel_rfl) (by kernel_rfl) (by kernel_rfl) (fun _ _ _ h => h) (Or.inl ⟨by rfl, ?_⟩) (by assumption) ?_
    rotate_left 1
    · (intro w hSw; (try dsimp only at hSw); go_simp; try with_reducible rfl)
    try simp only [Act.put, List.setIfInBounds_toArray, List.set_cons_zero, List.set_cons_succ]
    refine wpAnyH_takeL (i := 5) (v := ?_) rfl (by kernel_rfl) (by kernel_rfl) (by kernel_rfl) (fun _ _ _ h => h) (Or.inl ⟨by rfl, ?_⟩) (by assumption) ?_
    rotate_left 1
    · (intro w hSw; (try dsimp only at hSw); go_simp; try with_reducible rfl)
    try simp only [Act.put, List.setIfInBounds_toArray, List.set_cons_zero, List.set_cons_succ]
    refine wpAnyH_takeL (i := 6) (v := ?_) rfl (by kernel_rfl) (by kernel_rfl) (by kernel_rfl) (fun _ _ _ h => h) (Or.inl ⟨by rfl, ?_⟩) (by assumption) ?_
    rotate_left 1
    · (intro w hSw; (try dsimp only at hSw); go_simp; try with_reducible rfl)
    try simp only [Act.put, List.setIfInBounds_toArray, List.set_cons_zero, List.set_cons_succ]
    refine wpAnyH_ready (rs := [3]) (by kernel_rfl) (by simp) (AllReadyH.consL (i := 3) rfl (fun K hK => ?_) AllReadyH.nil)
    go_simp
    go_at_call 71
    refine (sunder_any ⟨0, 7, 0, 0⟩ A n cap p hp2 try_ok HDp.out _ SP).mono ?_
    rintro e w3 ⟨v3, rfl, D3, hle⟩
    rw [HU.out] at D3
    have L3 := L1.trans hle
    have SQ3 := hQ.le (L0.trans L3)
    clear hle SP
    refine hK.out _ _ ((HCT.out _ L3)) (fun hHeld => ?_)
    clear hK K
    try simp only [Act.put, List.setIfInBounds_toArray, List.set_cons_zero, List.set_cons_succ]
    refine wpAnyH_ready (rs := [7]) (by kernel_rfl) (by simp) (AllReadyH.consL (i := 7) rfl (fun K hK => ?_) AllReadyH.nil)
    go_simp
    go_at_call 71
    refine (sunder_any ⟨0, 8, a, 0⟩ C k d q hq2 hok HDq.out _ SQ3).mono ?_
    rintro e w4 ⟨v4, rfl, D4, hle⟩
    rw [HV.out] at D4
    have L4 := L3.trans hle
    have D34 := D3.le hle
    have HPO : ∀ x ∈ PQ, Enc.ok x := by
      rw [← HPQ.out]
      intro x hx
      rcases List.mem_append.1 hx with hx | hx
      · exact D3.ok x hx
      · exact D4.ok x hx
    obtain ⟨A4, q4, rfl, S4, hB4⟩ := D4.form (by decide)
    have hUV1 : U.length + V.length ≤ maxLen := by have := HUL.out; have := HVL.out; unfold maxLen; omega
    have hUV2 : (U.length + V.length) * 32 ≤ 140737488355328 := by have := HUL.out; have := HVL.out; omega
    clear hle D4 hB4 SQ3 D3
    refine hK.out _ _ ((HCT.out _ L4)) (fun hHeld => ?_)
    clear hK K
    try simp only [Act.put, List.setIfInBounds_toArray, List.set_cons_zero, List.set_cons_succ]
    refine wpAnyH_ready (rs := [8]) (by kernel_rfl) (by simp) (AllReadyH.consL (i := 8) rfl (fun K hK => ?_) AllReadyH.nil)
    refine step_append_sl rfl _ _ 33 rfl w2.drew.heap.size 67 i0 _ 32 Try.underlying33 hi hz0 hz1 hz2 rfl v3 U.length U rfl D34.row A4 V.length q4 V rfl S4 hUV1 hUV2 L4.size ?_
    intro v5 w5 O5 hg5 _
    have L5 := L4.grown hg5 (fun k hk => (D34.row.lt k hk).1)
    rw [HPQ.out, HPQL.out] at O5
    obtain ⟨A5, q5, rfl⟩ := own_form O5
    have D5 : Owd 67 w2.drew w5 (.slice A5 PQ.length q5) PQ := ⟨O5, HPO⟩
    have S5 := Sl.of_own O5 rfl (by decide) HPO
    have ST5 := hT.le (L0.trans L5)
    have h48 : PQ.length ≤ 1048576 := by have := HPQL.out; have := HUL.out; have := HVL.out; omega
    clear O5
    refine hK.out _ _ ((HCT.out _ L5)) (fun hHeld => ?_)
    clear hK K
    try simp only [Act.put, List.setIfInBounds_toArray, List.set_cons_zero, List.set_cons_succ]
    refine wpAnyH_ready (rs := [9]) (by kernel_rfl) (by simp) (AllReadyH.consL (i := 9) rfl (fun K hK => ?_) AllReadyH.nil)
    go_simp
    go_at_call 67
    refine (scheckedProgram_any B A5 m c _ q5 xs PQ h48 _ ST5 S5).mono ?_
    rintro e w7 ⟨rfl, hle7⟩
    have L7 := L5.trans hle7
    have D7 := chk_owd (xs := xs) ((D5.mono (L0.trans L1)).le hle7)
    refine hK.out _ _ ((HCT.out _ L7)) (fun hHeld => ?_)
    clear hK K
    try simp only [Act.put, List.setIfInBounds_toArray, List.set_cons_zero, List.set_cons_succ]
    refine wpAnyH_takeL (i := 10) (v := ?_) rfl (by kernel_rfl) (by kernel_rfl) (by kernel_rfl) (fun _ _ _ h => h) (Or.inl ⟨by rfl, ?_⟩) (by assumption) ?_
    rotate_left 1
    · (intro w hSw; (try dsimp only at hSw); go_simp; try with_reducible rfl)
    try simp only [Act.put, List.setIfInBounds_toArray, List.set_cons_zero, List.set_cons_succ]
    refine wpAnyH_takeL (i := 11) (v := ?_) rfl (by kernel_rfl) (by kernel_rfl) (by kernel_rfl) (fun _ _ _ h => h) (Or.inl ⟨by rfl, ?_⟩) (by assumption) ?_
    rotate_left 1
    · (intro w hSw; (try dsimp only at hSw); go_simp; try with_reducible rfl)
    try simp only [Act.put, List.setIfInBounds_toArray, List.set_cons_zero, List.set_cons_succ]
    refine wpAnyH_takeL (i := 12) (v := ?_) rfl (by kernel_rfl) (by kernel_rfl) (by kernel_rfl) (fun _ _ _ h => h) (Or.inl ⟨by rfl, ?_⟩) (by assumption) ?_
    rotate_left 1
    · (intro w hSw; (try dsimp only at hSw); go_simp; try with_reducible rfl)
    try simp only [Act.put, List.setIfInBounds_toArray, List.set_cons_zero, List.set_cons_succ]
    refine wpAnyH_takeL (i := 13) (v := ?_) rfl (by kernel_rfl) (by kernel_rfl) (by kernel_rfl) (fun _ _ _ h => h) (Or.inl ⟨by rfl, ?_⟩) (by assumption) ?_
    rotate_left 1
    · (intro w hSw; (try dsimp only at hSw); go_simp; try with_reducible rfl)
    try simp only [Act.put, List.setIfInBounds_toArray, List.set_cons_zero, List.set_cons_succ]
    refine wpAnyH_done (by kernel_rfl) ?_ _
    refine NoPanic.normal ?_
    have HO : Hid (Owd 67 w w7 (chkV xs PQ (.slice A5 PQ.length q5)) (twX xs p ⟨0, 8, a, 0⟩ q)) := by show Owd _ _ _ _ _; rw [HX.out]; exact D7
    go_wp2
    exact bodyPost_ret (v := .tuple #[chkV xs PQ (.slice A5 PQ.length q5), .bool (vp xs PQ)]) (by simp [results, Try.results30, go_sem]) rfl ⟨_, ret2 HY.out.symm rfl, HO.out, L0.trans L7⟩
set_option maxHeartbeats 1000000 in
set_option maxRecDepth 100000 in
theorem sInLoopP_any (B A : Option Addr) (m c n cap : Nat) (xs : List Cls) (p : List Lin) (a : Int) (hsm : p.length ≤ 1048576) (ha : -9223372036854775808 ≤ a ∧ a ≤ 9223372036854775807) (w : World) (hT : Sl w B m c xs) (hR : Sl w A n cap p) :
    Calls Try.prog 32 #[.agg #[.slice B m c], .slice A n cap, .int .i64 a] w fun e w' => ∃ v, e = .returned (.tuple #[v, .bool (ilOk xs p a)]) ∧ Owd 67 w w' v (ilX xs p a) ∧ Le w w' := by
  have hok := lin_ok (k := 12) ha (by omega) (by omega)
  have HX : Hid (ilX xs p a = cond (vp xs p) (chkX xs (undL ⟨0, 12, a, 0⟩ p)) []) := rfl
  have HY : Hid (ilOk xs p a = (vp xs p && vp xs (undL ⟨0, 12, a, 0⟩ p))) := rfl
  go_enter Try.func32, Try.ntmps32
  go_wp2_with fail
  obtain ⟨ct, zt, hleB⟩ := box1 w (.slice B m c) 31
  have L0 := hleB
  clear hleB
  generalize w.alloc (.cells #[.slice B m c] 31) = W at *
  refine (svalidProgram_any B A m c n cap xs p hsm _ (hT.le L0) (hR.le L0)).mono ?_
  rintro e w2 ⟨rfl, hle⟩
  replace ct := (hle.cell zt).trans ct
  replace zt := Nat.lt_of_lt_of_le zt hle.size
  replace L0 := L0.trans hle
  clear hle
  cases hv : vp xs p
  · rw [hv] at HX HY
    have HO : Hid (Owd 67 w w2 (.slice none 0 0) (ilX xs p a)) := by show Owd _ _ _ _ _; rw [HX.out]; exact Owd.nil _ _ _
    go_wp2
    exact bodyPost_ret (v := .tuple #[.slice none 0 0, .bool false]) (by simp [results, Try.results32, go_sem]) rfl ⟨_, ret2 HY.out.symm rfl, HO.out, L0⟩
  · rw [hv] at HX HY
    have HDp := Lib.hid (good_deep hv)
    have hp := (goodP_of hv).len
    have hnp := hR.len
    have hp2 : p.length ≤ 1048000 := by omega
    obtain ⟨U, HU⟩ : ∃ U, Hid (undL ⟨0, 12, a, 0⟩ p = U) := ⟨_, rfl⟩
    have HUL : Hid (U.length ≤ p.length + 2) := by show _ ≤ _; rw [← HU.out]; exact undL_len _ _
    rw [HU.out] at HX HY
    have L1 : Le w2 w2.drew := (Le.refl w2).drew
    have SP := hR.le (L0.trans L1)
    have HCT : Hid (∀ w' : World, Le w2 w' → w'.cell? ⟨w.heap.size, 0, none⟩ = some (.slice B m c)) := fun w' hl => (hl.cell zt).trans ct
    clear hnp ct
    go_wp2_with fail
    refine wp_region_noPanic ?_
    refine wp_region_held_drew (S := fun w' => w'.cell? ⟨w.heap.size, 0, none⟩ = some (.slice B m c)) (by kernel_rfl) (HCT.out _ L1) (fun hHeld => ?_)
    refine wpAnyH_takeL (i := 0) (v := ?_) rfl (by kernel_rfl) (by kernel_rfl) (by kernel_rfl) (fun _ _ _ h => h) (Or.inl ⟨by rfl, ?_⟩) (by assumption) ?_
    rotate_left 1
    · (intro w hSw; (try dsimp only at hSw); go_simp; try with_reducible rfl)
    try simp only [Act.put, List.setIfInBounds_toArray, List.set_cons_zero, List.set_cons_succ]
    refine wpAnyH_takeL (i := 1) (v := ?_) rfl (by kernel_rfl) (by kernel_rfl) (by kernel_rfl) (fun _ _ _ h => h) (Or.inl ⟨by rfl, ?_⟩) (by assumption) ?_
    rotate_left 1
    · (intro w hSw; (try dsimp only at hSw); go_simp; try with_reducible rfl)
    try simp only [Act.put, List.setIfInBounds_toArray, List.set_cons_zero, List.set_cons_succ]
    refine wpAnyH_takeL (i := 2) (v := ?_) rfl (by kernel_rfl) (by kernel_rfl) (by kernel_rfl) (fun _ _ _ h => h) (Or.inl ⟨by rfl, ?_⟩) (by assumption) ?_
    rotate_left 1
    · (intro w hSw; (try dsimp only at hSw); go_simp; try with_reducible rfl)
    try simp only [Act.put, List.setIfInBounds_toArray, List.set_cons_zero, List.set_cons_succ]
    refine wpAnyH_takeL (i := 3) (v := ?_) rfl (by kernel_rfl) (by kernel_rfl) (by kernel_rfl) (fun _ _ _ h => h) (Or.inl ⟨by rfl, ?_⟩) (by assumption) ?_
    rotate_left 1
    · (intro w hSw; (try dsimp only at hSw); go_simp; try with_reducible rfl)
    try simp only [Act.put, List.setIfInBounds_toArray, List.set_cons_zero, List.set_cons_succ]
    refine wpAnyH_ready (rs := [4]) (by kernel_rfl) (by simp) (AllReadyH.consL (i := 4) rfl (fun K hK => ?_) AllReadyH.nil)
    go_simp
    go_at_call 71
    refine (sunder_any ⟨0, 12, a, 0⟩ A n cap p hp2 hok HDp.out _ SP).mono ?_
    rintro e w3 ⟨v3, rfl, D3, hle⟩
    rw [HU.out] at D3
    have L3 := L1.trans hle
    have ST3 := hT.le (L0.trans L3)
    obtain ⟨A3, q3, rfl, S3, hB3⟩ := D3.form (by decide)
    have h48 : U.length ≤ 1048576 := by have := HUL.out; omega
    refine hK.out _ _ ((HCT.out _ L3)) (fun hHeld => ?_)
    clear hK K
    try simp only [Act.put, List.setIfInBounds_toArray, List.set_cons_zero, List.set_cons_succ]
    refine wpAnyH_ready (rs := [5]) (by kernel_rfl) (by simp) (AllReadyH.consL (i := 5) rfl (fun K hK => ?_) AllReadyH.nil)
    go_simp
    go_at_call 67
    refine (scheckedProgram_any B A3 m c _ q3 xs U h48 _ ST3 S3).mono ?_
    rintro e w7 ⟨rfl, hle7⟩
    have L7 := L3.trans hle7
    have D7 := chk_owd (xs := xs) ((D3.mono (L0.trans L1)).le hle7)
    refine hK.out _ _ ((HCT.out _ L7)) (fun hHeld => ?_)
    clear hK K
    try simp only [Act.put, List.setIfInBounds_toArray, List.set_cons_zero, List.set_cons_succ]
    refine wpAnyH_takeL (i := 6) (v := ?_) rfl (by kernel_rfl) (by kernel_rfl) (by kernel_rfl) (fun _ _ _ h => h) (Or.inl ⟨by rfl, ?_⟩) (by assumption) ?_
    rotate_left 1
    · (intro w hSw; (try dsimp only at hSw); go_simp; try with_reducible rfl)
    try simp only [Act.put, List.setIfInBounds_toArray, List.set_cons_zero, List.set_cons_succ]
    refine wpAnyH_takeL (i := 7) (v := ?_) rfl (by kernel_rfl) (by kernel_rfl) (by kernel_rfl) (fun _ _ _ h => h) (Or.inl ⟨by rfl, ?_⟩) (by assumption) ?_
    rotate_left 1
    · (intro w hSw; (try dsimp only at hSw); go_simp; try with_reducible rfl)
    try simp only [Act.put, List.setIfInBounds_toArray, List.set_cons_zero, List.set_cons_succ]
    refine wpAnyH_takeL (i := 8) (v := ?_) rfl (by kernel_rfl) (by kernel_rfl) (by kernel_rfl) (fun _ _ _ h => h) (Or.inl ⟨by rfl, ?_⟩) (by assumption) ?_
    rotate_left 1
    · (intro w hSw; (try dsimp only at hSw); go_simp; try with_reducible rfl)
    try simp only [Act.put, List.setIfInBounds_toArray, List.set_cons_zero, List.set_cons_succ]
    refine wpAnyH_takeL (i := 9) (v := ?_) rfl (by kernel_rfl) (by kernel_rfl) (by kernel_rfl) (fun _ _ _ h => h) (Or.inl ⟨by rfl, ?_⟩) (by assumption) ?_
    rotate_left 1
    · (intro w hSw; (try dsimp only at hSw); go_simp; try with_reducible rfl)
    try simp only [Act.put, List.setIfInBounds_toArray, List.set_cons_zero, List.set_cons_succ]
    refine wpAnyH_done (by kernel_rfl) ?_ _
    refine NoPanic.normal ?_
    have HO : Hid (Owd 67 w w7 (chkV xs U (.slice A3 U.length q3)) (ilX xs p a)) := by show Owd _ _ _ _ _; rw [HX.out]; exact D7
    go_wp2
    exact bodyPost_ret (v := .tuple #[chkV xs U (.slice A3 U.length q3), .bool (vp xs U)]) (by simp [results, Try.results32, go_sem]) rfl ⟨_, ret2 HY.out.symm rfl, HO.out, L0.trans L7⟩
end Go.Proofs.Ytjcellhpmooifaa
