/- one text of PhV, LD, LHe, LL, LRr, TL, TlInt, H -/
import Derived.Test.YtlepgfccnfcagaaWp17
import Derived.Test.YtlepgfccnfcagaaRows
import Derived.Test.YtlepgfccnfcagaaWp1
import Derived.Test.YtlepgfccnfcagaaWp2
import Derived.Test.YtlepgfccnfcagaaWp11
import Derived.RegionTactic
import Derived.Deep.RegionWith
import Derived.Deep.RegionHeld3
import Derived.ProofKit
import Derived.OpenShut
import Derived.ShutString
import Derived.ChangeOld
import Derived.Deep.Slices
import Derived.Lib.SmallJoins
namespace Go.Proofs.Ytlepgfccnfcagaa
open Go.RowKit
set_option linter.unusedVariables false
section
set_option maxHeartbeats 1000000 in
set_option maxRecDepth 100000 in
theorem sWithFinally_any (B A C : Option Addr) (m c n cap k d : Nat) (xs : List Cls) (p q : List Lin) (hsm : p.length ≤ 1048576) (hsq : q.length ≤ 1048576) (w : World) (hT : Sl w B m c xs) (hR : Sl w A n cap p) (hQ : Sl w C k d q) :
    Calls Try.prog 25 #[.agg #[.slice B m c], .slice A n cap, .slice C k d] w fun e w' => ∃ v, e = .returned (.tuple #[v, .bool (twOk xs p ⟨0, 10, 0, 0⟩ q)]) ∧ Owd 42 w w' v (twX xs p ⟨0, 10, 0, 0⟩ q) ∧ Le w w' := by
  obtain ⟨i0, hi, hz0, hz1, hz2⟩ := info_parts infoLn
  have hok := lin_ok (k := 10) (a := 0) (by omega) (by omega) (by omega)
  have HX : Hid (twX xs p ⟨0, 10, 0, 0⟩ q = cond (vp xs p && vp xs q) (chkX xs (undL ⟨0, 7, 0, 0⟩ p ++ undL ⟨0, 10, 0, 0⟩ q)) []) := rfl
  have HY : Hid (twOk xs p ⟨0, 10, 0, 0⟩ q = ((vp xs p && vp xs q) && vp xs (undL ⟨0, 7, 0, 0⟩ p ++ undL ⟨0, 10, 0, 0⟩ q))) := rfl
  go_enter Try.func25, Try.ntmps25
  go_wp2_with fail
  obtain ⟨ct, zt, hleB⟩ := box1 w (.slice B m c) 25
  have L0 := hleB
  clear hleB
  generalize w.alloc (.cells #[.slice B m c] 25) = W at *
  refine (sboth_any B A C m c n cap k d xs p q hsm hsq _ (hT.le L0) (hR.le L0) (hQ.le L0)).mono ?_
  rintro e w2 ⟨rfl, hle⟩
  replace ct := (hle.cell zt).trans ct
  replace zt := Nat.lt_of_lt_of_le zt hle.size
  replace L0 := L0.trans hle
  clear hle
  cases hv : (vp xs p && vp xs q)
  · rw [hv] at HX HY
    have HO : Hid (Owd 42 w w2 (.slice none 0 0) (twX xs p ⟨0, 10, 0, 0⟩ q)) := by show Owd _ _ _ _ _; rw [HX.out]; exact Owd.nil _ _ _
    go_wp2
    exact bodyPost_ret (v := .tuple #[.slice none 0 0, .bool false]) (by simp [results, Try.results25, go_sem]) rfl ⟨_, ret2 HY.out.symm rfl, HO.out, L0⟩
  · rw [hv] at HX HY
    have hb := Bool.and_eq_true_iff.1 hv
    have HDp := Lib.hid (good_deep hb.1)
    have HDq := Lib.hid (good_deep hb.2)
    have hp := (goodP_of hb.1).len
    have hq := (goodP_of hb.2).len
    have hnp := hR.len
    have hnq := hQ.len
    have hp2 : p.length ≤ 1048000 := by omega
    have hq2 : q.length ≤ 1048000 := by omega
    obtain ⟨U, HU⟩ : ∃ U, Hid (undL ⟨0, 7, 0, 0⟩ p = U) := ⟨_, rfl⟩
    obtain ⟨V, HV⟩ : ∃ V, Hid (undL ⟨0, 10, 0, 0⟩ q = V) := ⟨_, rfl⟩
    have HUL : Hid (U.length ≤ p.length + 2) := by show _ ≤ _; rw [← HU.out]; exact undL_len _ _
    have HVL : Hid (V.length ≤ q.length + 2) := by show _ ≤ _; rw [← HV.out]; exact undL_len _ _
    rw [HU.out, HV.out] at HX HY
    obtain ⟨PQ, HPQ⟩ : ∃ PQ, Hid (U ++ V = PQ) := ⟨_, rfl⟩
    have HPQL : Hid (U.length + V.length = PQ.length) := by show _ = _; rw [← HPQ.out, List.length_append]
    rw [HPQ.out] at HX HY
    have L1 : Le w2 w2.drew := (Le.refl w2).drew
    have SP := hR.le (L0.trans L1)
    have HCT : Hid (∀ w' : World, Le w2 w' → w'.cell? ⟨w.heap.size, 0, none⟩ = some (.slice B m c)) := fun w' hl => (hl.cell zt).trans ct
    clear hnp hnq ct
    go_wp2_with fail
    refine wp_region_noPanic ?_
    refine wp_region_held_drew (S := fun w' => w'.cell? ⟨w.heap.size, 0, none⟩ = some (.slice B m c)) (by kernel_rfl) (HCT.out _ L1) (fun hHeld => ?_)
    refine wpAnyH_takeL (i := 0) (v := ?_) rfl (by kernel_rfl) (by kernel_rfl) (by kernel_rfl) (fun _ _ _ h => h) (Or.inl ⟨by rfl, ?_⟩) (by assumption) ?_
    rotate_left 1
    · (intro w hSw; (try dsimp only at hSw); go_simp; try with_reducible rfl)
    try simp only [Act.put, List.setIfInBounds_toArray, List.set_cons_zero, List.set_cons_succ]
    refine wpAnyH_takeL (i := 1) (v := ?_) rfl (by kernel_rfl) (by kernel_rfl) (by kernel_rfl) (fun _ _ _ h => h) (Or.inl ⟨by rfl, ?_⟩) (by assumption) ?_
    rotate_left 1
    · (intro w hSw; (try dsimp only at hSw); go_simp; try with_reducible rfl)
    try simp only [Act.put, List.setIfInBounds_toArray, List.set_cons_zero, List.set_cons_succ]
    refine wpAnyH_takeL (i := 2) (v := ?_) rfl (by kernel_rfl) (by kernel_rfl) (by kernel_rfl) (fun _ _ _ h => h) (Or.inl ⟨by rfl, ?_⟩) (by assumption) ?_
    rotate_left 1
    · (intro w hSw; (try dsimp only at hSw); go_simp; try with_reducible rfl)
    try simp only [Act.put, List.setIfInBounds_toArray, List.set_cons_zero, List.set_cons_succ]
    refine wpAnyH_takeL (i := 4) (v := ?_) rfl (by kernel_rfl) (by kernel_rfl) (by kernel_rfl) (fun _ _ _ h => h) (Or.inl ⟨by rfl, ?_⟩) (by assumption) ?_
    rotate_left 1
    · (intro w hSw; (try dsimp only at hSw); go_simp; try with_reducible rfl)
    try simp only [Act.put, List.setIfInBounds_toArray, List.set_cons_zero, List.set_cons_succ]
    refine wpAnyH_takeL (i := 5) (v := ?_) rfl (by kernel_rfl) (by kernel_rfl) (by kernel_rfl) (fun _ _ _ h => h) (Or.inl ⟨by rfl, ?_⟩) (by assumption) ?_
    rotate_left 1
    · (intro w hSw; (try dsimp only at hSw); go_simp; try with_reducible rfl)
    try simp only [Act.put, List.setIfInBounds_toArray, List.set_cons_zero, List.set_cons_succ]
    refine wpAnyH_ready (rs := [3]) (by kernel_rfl) (by simp) (AllReadyH.consL (i := 3) rfl (fun K hK => ?_) AllReadyH.nil)
    go_simp
    go_at_call 49
    refine (sunder_any ⟨0, 7, 0, 0⟩ A n cap p hp2 try_ok HDp.out _ SP).mono ?_
    rintro e w3 ⟨v3, rfl, D3, hle⟩
    rw [HU.out] at D3
    have L3 := L1.trans hle
    have SQ3 := hQ.le (L0.trans L3)
    clear hle SP
    refine hK.out _ _ ((HCT.out _ L3)) (fun hHeld => ?_)
    clear hK K
    try simp only [Act.put, List.setIfInBounds_toArray, List.set_cons_zero, List.set_cons_succ]
    refine wpAnyH_ready (rs := [6]) (by kernel_rfl) (by simp) (AllReadyH.consL (i := 6) rfl (fun K hK => ?_) AllReadyH.nil)
    go_simp
    go_at_call 49
    refine (sunder_any ⟨0, 10, 0, 0⟩ C k d q hq2 hok HDq.out _ SQ3).mono ?_
    rintro e w4 ⟨v4, rfl, D4, hle⟩
    rw [HV.out] at D4
    have L4 := L3.trans hle
    have D34 := D3.le hle
    have HPO : ∀ x ∈ PQ, Enc.ok x := by
      rw [← HPQ.out]
      intro x hx
      rcases List.mem_append.1 hx with hx | hx
      · exact D3.ok x hx
      · exact D4.ok x hx
    obtain ⟨A4, q4, rfl, S4, hB4⟩ := D4.form (by decide)
    have hUV1 : U.length + V.length ≤ maxLen := by have := HUL.out; have := HVL.out; unfold maxLen; omega
    have hUV2 : (U.length + V.length) * 32 ≤ 140737488355328 := by have := HUL.out; have := HVL.out; omega
    clear hle D4 hB4 SQ3 D3
    refine hK.out _ _ ((HCT.out _ L4)) (fun hHeld => ?_)
    clear hK K
    try simp only [Act.put, List.setIfInBounds_toArray, List.set_cons_zero, List.set_cons_succ]
    refine wpAnyH_ready (rs := [7]) (by kernel_rfl) (by simp) (AllReadyH.consL (i := 7) rfl (fun K hK => ?_) AllReadyH.nil)
    refine step_append_sl rfl _ _ 26 rfl w2.drew.heap.size 42 i0 _ 32 Try.underlying26 hi hz0 hz1 hz2 rfl v3 U.length U rfl D34.row A4 V.length q4 V rfl S4 hUV1 hUV2 L4.size ?_
    intro v5 w5 O5 hg5 _
    have L5 := L4.grown hg5 (fun k hk => (D34.row.lt k hk).1)
    rw [HPQ.out, HPQL.out] at O5
    obtain ⟨A5, q5, rfl⟩ := own_form O5
    have D5 : Owd 42 w2.drew w5 (.slice A5 PQ.length q5) PQ := ⟨O5, HPO⟩
    have S5 := Sl.of_own O5 rfl (by decide) HPO
    have ST5 := hT.le (L0.trans L5)
    have h48 : PQ.length ≤ 1048576 := by have := HPQL.out; have := HUL.out; have := HVL.out; omega
    clear O5
    refine hK.out _ _ ((HCT.out _ L5)) (fun hHeld => ?_)
    clear hK K
    try simp only [Act.put, List.setIfInBounds_toArray, List.set_cons_zero, List.set_cons_succ]
    refine wpAnyH_ready (rs := [8]) (by kernel_rfl) (by simp) (AllReadyH.consL (i := 8) rfl (fun K hK => ?_) AllReadyH.nil)
    go_simp
    go_at_call 47
    refine (scheckedProgram_any B A5 m c _ q5 xs PQ h48 _ ST5 S5).mono ?_
    rintro e w7 ⟨rfl, hle7⟩
    have L7 := L5.trans hle7
    have D7 := chk_owd (xs := xs) ((D5.mono (L0.trans L1)).le hle7)
    refine hK.out _ _ ((HCT.out _ L7)) (fun hHeld => ?_)
    clear hK K
    try simp only [Act.put, List.setIfInBounds_toArray, List.set_cons_zero, List.set_cons_succ]
    refine wpAnyH_takeL (i := 9) (v := ?_) rfl (by kernel_rfl) (by kernel_rfl) (by kernel_rfl) (fun _ _ _ h => h) (Or.inl ⟨by rfl, ?_⟩) (by assumption) ?_
    rotate_left 1
    · (intro w hSw; (try dsimp only at hSw); go_simp; try with_reducible rfl)
    try simp only [Act.put, List.setIfInBounds_toArray, List.set_cons_zero, List.set_cons_succ]
    refine wpAnyH_takeL (i := 10) (v := ?_) rfl (by kernel_rfl) (by kernel_rfl) (by kernel_rfl) (fun _ _ _ h => h) (Or.inl ⟨by rfl, ?_⟩) (by assumption) ?_
    rotate_left 1
    · (intro w hSw; (try dsimp only at hSw); go_simp; try with_reducible rfl)
    try simp only [Act.put, List.setIfInBounds_toArray, List.set_cons_zero, List.set_cons_succ]
    refine wpAnyH_takeL (i := 11) (v := ?_) rfl (by kernel_rfl) (by kernel_rfl) (by kernel_rfl) (fun _ _ _ h => h) (Or.inl ⟨by rfl, ?_⟩) (by assumption) ?_
    rotate_left 1
    · (intro w hSw; (try dsimp only at hSw); go_simp; try with_reducible rfl)
    try simp only [Act.put, List.setIfInBounds_toArray, List.set_cons_zero, List.set_cons_succ]
    refine wpAnyH_takeL (i := 12) (v := ?_) rfl (by kernel_rfl) (by kernel_rfl) (by kernel_rfl) (fun _ _ _ h => h) (Or.inl ⟨by rfl, ?_⟩) (by assumption) ?_
    rotate_left 1
    · (intro w hSw; (try dsimp only at hSw); go_simp; try with_reducible rfl)
    try simp only [Act.put, List.setIfInBounds_toArray, List.set_cons_zero, List.set_cons_succ]
    refine wpAnyH_done (by kernel_rfl) ?_ _
    refine NoPanic.normal ?_
    have HO : Hid (Owd 42 w w7 (chkV xs PQ (.slice A5 PQ.length q5)) (twX xs p ⟨0, 10, 0, 0⟩ q)) := by show Owd _ _ _ _ _; rw [HX.out]; exact D7
    go_wp2
    exact bodyPost_ret (v := .tuple #[chkV xs PQ (.slice A5 PQ.length q5), .bool (vp xs PQ)]) (by simp [results, Try.results25, go_sem]) rfl ⟨_, ret2 HY.out.symm rfl, HO.out, L0.trans L7⟩
set_option maxHeartbeats 1000000 in
set_option maxRecDepth 100000 in
theorem sWithExcept_any (B A C : Option Addr) (m c n cap k d : Nat) (xs : List Cls) (p q : List Lin) (a : Int) (ha : -9223372036854775808 ≤ a ∧ a ≤ 9223372036854775807) (hsm : p.length ≤ 1048576) (hsq : q.length ≤ 1048576) (w : World) (hT : Sl w B m c xs) (hR : Sl w A n cap p) (hQ : Sl w C k d q) :
    Calls Try.prog 32 #[.agg #[.slice B m c], .slice A n cap, .int .i64 a, .slice C k d] w fun e w' => ∃ v, e = .returned (.tuple #[v, .bool (twOk xs p ⟨0, 8, a, 0⟩ q)]) ∧ Owd 42 w w' v (twX xs p ⟨0, 8, a, 0⟩ q) ∧ Le w w' := by
  obtain ⟨i0, hi, hz0, hz1, hz2⟩ := info_parts infoLn
  have hok := lin_ok (k := 8) ha (by omega) (by omega)
  have HX : Hid (twX xs p ⟨0, 8, a, 0⟩ q = cond (vp xs p && vp xs q) (chkX xs (undL ⟨0, 7, 0, 0⟩ p ++ undL ⟨0, 8, a, 0⟩ q)) []) := rfl
  have HY : Hid (twOk xs p ⟨0, 8, a, 0⟩ q = ((vp xs p && vp xs q) && vp xs (undL ⟨0, 7, 0, 0⟩ p ++ undL ⟨0, 8, a, 0⟩ q))) := rfl
  go_enter Try.func32, Try.ntmps32
  go_wp2_with fail
  obtain ⟨ct, zt, hleB⟩ := box1 w (.slice B m c) 25
  have L0 := hleB
  clear hleB
  generalize w.alloc (.cells #[.slice B m c] 25) = W at *
  refine (sboth_any B A C m c n cap k d xs p q hsm hsq _ (hT.le L0) (hR.le L0) (hQ.le L0)).mono ?_
  rintro e w2 ⟨rfl, hle⟩
  replace ct := (hle.cell zt).trans ct
  replace zt := Nat.lt_of_lt_of_le zt hle.size
  replace L0 := L0.trans hle
  clear hle
  cases hv : (vp xs p && vp xs q)
  · rw [hv] at HX HY
    have HO : Hid (Owd 42 w w2 (.slice none 0 0) (twX xs p ⟨0, 8, a, 0⟩ q)) := by show Owd _ _ _ _ _; rw [HX.out]; exact Owd.nil _ _ _
    go_wp2
    exact bodyPost_ret (v := .tuple #[.slice none 0 0, .bool false]) (by simp [results, Try.results32, go_sem]) rfl ⟨_, ret2 HY.out.symm rfl, HO.out, L0⟩
  · rw [hv] at HX HY
    have hb := Bool.and_eq_true_iff.1 hv
    have HDp := Lib.hid (good_deep hb.1)
    have HDq := Lib.hid (good_deep hb.2)
    have hp := (goodP_of hb.1).len
    have hq := (goodP_of hb.2).len
    have hnp := hR.len
    have hnq := hQ.len
    have hp2 : p.length ≤ 1048000 := by omega
    have hq2 : q.length ≤ 1048000 := by omega
    obtain ⟨U, HU⟩ : ∃ U, Hid (undL ⟨0, 7, 0, 0⟩ p = U) := ⟨_, rfl⟩
    obtain ⟨V, HV⟩ : ∃ V, Hid (undL ⟨0, 8, a, 0⟩ q = V) := ⟨_, rfl⟩
    have HUL : Hid (U.length ≤ p.length + 2) := by show _ ≤ _; rw [← HU.out]; exact undL_len _ _
    have HVL : Hid (V.length ≤ q.length + 2) := by show _ ≤ _; rw [← HV.out]; exact undL_len _ _
    rw [HU.out, HV.out] at HX HY
    obtain ⟨PQ, HPQ⟩ : ∃ PQ, Hid (U ++ V = PQ) := ⟨_, rfl⟩
    have HPQL : Hid (U.length + V.length = PQ.length) := by show _ = _; rw [← HPQ.out, List.length_append]
    rw [HPQ.out] at HX HY
    have L1 : Le w2 w2.drew := (Le.refl w2).drew
    have SP := hR.le (L0.trans L1)
    have HCT : Hid (∀ w' : World, Le w2 w' → w'.cell? ⟨w.heap.size, 0, none⟩ = some (.slice B m c)) := fun w' hl => (hl.cell zt).trans ct
    clear hnp hnq ct
    go_wp2_with fail
    refine wp_region_noPanic ?_
    refine wp_region_held_drew (S := fun w' => w'.cell? ⟨w.heap.size, 0, none⟩ = some (.slice B m c)) (by kernel_rfl) (HCT.out _ L1) (fun hHeld => ?_)
    refine wpAnyH_takeL (i := 0) (v := ?_) rfl (by kernel_rfl) (by kernel_rfl) (by kernel_rfl) (fun _ _ _ h => h) (Or.inl ⟨by rfl, ?_⟩) (by assumption) ?_
    rotate_left 1
    · (intro w hSw; (try dsimp only at hSw); go_simp; try with_reducible rfl)
    try simp only [Act.put, List.setIfInBounds_toArray, List.set_cons_zero, List.set_cons_succ]
    refine wpAnyH_takeL (i := 1) (v := ?_) rfl (by kernel_rfl) (by kernel_rfl) (by kernel_rfl) (fun _ _ _ h => h) (Or.inl ⟨by rfl, ?_⟩) (by assumption) ?_
    rotate_left 1
    · (intro w hSw; (try dsimp only at hSw); go_simp; try with_reducible rfl)
    try simp only [Act.put, List.setIfInBounds_toArray, List.set_cons_zero, List.set_cons_succ]
    refine wpAnyH_takeL (i := 2) (v := ?_) rfl (by kernel_rfl) (by kernel_rfl) (by kernel_rfl) (fun _ _ _ h => h) (Or.inl ⟨by rfl, ?_⟩) (by assumption) ?_
    rotate_left 1
    · (intro w hSw; (try dsimp only at hSw); go_simp; try with_reducible rfl)
    try simp only [Act.put, List.setIfInBounds_toArray, List.set_cons_zero, List.set_cons_succ]
    refine wpAnyH_takeL (i := 4) (v := ?_) rfl (by kernel_rfl) (by kernel_rfl) (by kernel_rfl) (fun _ _ _ h => h) (Or.inl ⟨by rfl, ?_⟩) (by assumption) ?_
    rotate_left 1
    · (intro w hSw; (try dsimp only at hSw); go_simp; try with_reducible rfl)
    try simp only [Act.put, List.setIfInBounds_toArray, List.set_cons_zero, List.set_cons_succ]
    refine wpAnyH_takeL (i := 5) (v := ?_) rfl (by kernel_rfl) (by kernel_rfl) (by kernel_rfl) (fun _ _ _ h => h) (Or.inl ⟨by rfl, ?_⟩) (by assumption) ?_
    rotate_left 1
    · (intro w hSw; (try dsimp only at hSw); go_simp; try with_reducible rfl)
    try simp only [Act.put, List.setIfInBounds_toArray, List.set_cons_zero, List.set_cons_succ]
    refine wpAnyH_takeL (i := 6) (v := ?_) rfl (by kernel_rfl) (by kernel_rfl) (by kernel_rfl) (fun _ _ _ h => h) (Or.inl ⟨by rfl, ?_⟩) (by assumption) ?_
    rotate_left 1
    · (intro w hSw; (try dsimp only at hSw); go_simp; try with_reducible rfl)
    try simp only [Act.put, List.setIfInBounds_toArray, List.set_cons_zero, List.set_cons_succ]
    refine wpAnyH_ready (rs := [3]) (by kernel_rfl) (by simp) (AllReadyH.consL (i := 3) rfl (fun K hK => ?_) AllReadyH.nil)
    go_simp
    go_at_call 49
    refine (sunder_any ⟨0, 7, 0, 0⟩ A n cap p hp2 try_ok HDp.out _ SP).mono ?_
    rintro e w3 ⟨v3, rfl, D3, hle⟩
    rw [HU.out] at D3
    have L3 := L1.trans hle
    have SQ3 := hQ.le (L0.trans L3)
    clear hle SP
    refine hK.out _ _ ((HCT.out _ L3)) (fun hHeld => ?_)
    clear hK K
    try simp only [Act.put, List.setIfInBounds_toArray, List.set_cons_zero, List.set_cons_succ]
    refine wpAnyH_ready (rs := [7]) (by kernel_rfl) (by simp) (AllReadyH.consL (i := 7) rfl (fun K hK => ?_) AllReadyH.nil)
    go_simp
    go_at_call 49
    refine (sunder_any ⟨0, 8, a, 0⟩ C k d q hq2 hok HDq.out _ SQ3).mono ?_
    rintro e w4 ⟨v4, rfl, D4, hle⟩
    rw [HV.out] at D4
    have L4 := L3.trans hle
    have D34 := D3.le hle
    have HPO : ∀ x ∈ PQ, Enc.ok x := by
      rw [← HPQ.out]
      intro x hx
      rcases List.mem_append.1 hx with hx | hx
      · exact D3.ok x hx
      · exact D4.ok x hx
    obtain ⟨A4, q4, rfl, S4, hB4⟩ := D4.form (by decide)
    have hUV1 : U.length + V.length ≤ maxLen := by have := HUL.out; have := HVL.out; unfold maxLen; omega
    have hUV2 : (U.length + V.length) * 32 ≤ 140737488355328 := by have := HUL.out; have := HVL.out; omega
    clear hle D4 hB4 SQ3 D3
    refine hK.out _ _ ((HCT.out _ L4)) (fun hHeld => ?_)
    clear hK K
    try simp only [Act.put, List.setIfInBounds_toArray, List.set_cons_zero, List.set_cons_succ]
    refine wpAnyH_ready (rs := [8]) (by kernel_rfl) (by simp) (AllReadyH.consL (i := 8) rfl (fun K hK => ?_) AllReadyH.nil)
    refine step_append_sl rfl _ _ 26 rfl w2.drew.heap.size 42 i0 _ 32 Try.underlying26 hi hz0 hz1 hz2 rfl v3 U.length U rfl D34.row A4 V.length q4 V rfl S4 hUV1 hUV2 L4.size ?_
    intro v5 w5 O5 hg5 _
    have L5 := L4.grown hg5 (fun k hk => (D34.row.lt k hk).1)
    rw [HPQ.out, HPQL.out] at O5
    obtain ⟨A5, q5, rfl⟩ := own_form O5
    have D5 : Owd 42 w2.drew w5 (.slice A5 PQ.length q5) PQ := ⟨O5, HPO⟩
    have S5 := Sl.of_own O5 rfl (by decide) HPO
    have ST5 := hT.le (L0.trans L5)
    have h48 : PQ.length ≤ 1048576 := by have := HPQL.out; have := HUL.out; have := HVL.out; omega
    clear O5
    refine hK.out _ _ ((HCT.out _ L5)) (fun hHeld => ?_)
    clear hK K
    try simp only [Act.put, List.setIfInBounds_toArray, List.set_cons_zero, List.set_cons_succ]
    refine wpAnyH_ready (rs := [9]) (by kernel_rfl) (by simp) (AllReadyH.consL (i := 9) rfl (fun K hK => ?_) AllReadyH.nil)
    go_simp
    go_at_call 47
    refine (scheckedProgram_any B A5 m c _ q5 xs PQ h48 _ ST5 S5).mono ?_
    rintro e w7 ⟨rfl, hle7⟩
    have L7 := L5.trans hle7
    have D7 := chk_owd (xs := xs) ((D5.mono (L0.trans L1)).le hle7)
    refine hK.out _ _ ((HCT.out _ L7)) (fun hHeld => ?_)
    clear hK K
    try simp only [Act.put, List.setIfInBounds_toArray, List.set_cons_zero, List.set_cons_succ]
    refine wpAnyH_takeL (i := 10) (v := ?_) rfl (by kernel_rfl) (by kernel_rfl) (by kernel_rfl) (fun _ _ _ h => h) (Or.inl ⟨by rfl, ?_⟩) (by assumption) ?_
    rotate_left 1
    · (intro w hSw; (try dsimp only at hSw); go_simp; try with_reducible rfl)
    try simp only [Act.put, List.setIfInBounds_toArray, List.set_cons_zero, List.set_cons_succ]
    refine wpAnyH_takeL (i := 11) (v := ?_) rfl (by kernel_rfl) (by kernel_rfl) (by kernel_rfl) (fun _ _ _ h => h) (Or.inl ⟨by rfl, ?_⟩) (by assumption) ?_
    rotate_left 1
    · (intro w hSw; (try dsimp only at hSw); go_simp; try with_reducible rfl)
    try simp only [Act.put, List.setIfInBounds_toArray, List.set_cons_zero, List.set_cons_succ]
    refine wpAnyH_takeL (i := 12) (v := ?_) rfl (by kernel_rfl) (by kernel_rfl) (by kernel_rfl) (fun _ _ _ h => h) (Or.inl ⟨by rfl, ?_⟩) (by assumption) ?_
    rotate_left 1
    · (intro w hSw; (try dsimp only at hSw); go_simp; try with_reducible rfl)
    try simp only [Act.put, List.setIfInBounds_toArray, List.set_cons_zero, List.set_cons_succ]
    refine wpAnyH_takeL (i := 13) (v := ?_) rfl (by kernel_rfl) (by kernel_rfl) (by kernel_rfl) (fun _ _ _ h => h) (Or.inl ⟨by rfl, ?_⟩) (by assumption) ?_
    rotate_left 1
    · (intro w hSw; (try dsimp only at hSw); go_simp; try with_reducible rfl)
    try simp only [Act.put, List.setIfInBounds_toArray, List.set_cons_zero, List.set_cons_succ]
    refine wpAnyH_done (by kernel_rfl) ?_ _
    refine NoPanic.normal ?_
    have HO : Hid (Owd 42 w w7 (chkV xs PQ (.slice A5 PQ.length q5)) (twX xs p ⟨0, 8, a, 0⟩ q)) := by show Owd _ _ _ _ _; rw [HX.out]; exact D7
    go_wp2
    exact bodyPost_ret (v := .tuple #[chkV xs PQ (.slice A5 PQ.length q5), .bool (vp xs PQ)]) (by simp [results, Try.results32, go_sem]) rfl ⟨_, ret2 HY.out.symm rfl, HO.out, L0.trans L7⟩
set_option maxHeartbeats 1000000 in
set_option maxRecDepth 100000 in
theorem sInLoopP_any (B A : Option Addr) (m c n cap : Nat) (xs : List Cls) (p : List Lin) (a : Int) (hsm : p.length ≤ 1048576) (ha : -9223372036854775808 ≤ a ∧ a ≤ 9223372036854775807) (w : World) (hT : Sl w B m c xs) (hR : Sl w A n cap p) :
    Calls Try.prog 29 #[.agg #[.slice B m c], .slice A n cap, .int .i64 a] w fun e w' => ∃ v, e = .returned (.tuple #[v, .bool (ilOk xs p a)]) ∧ Owd 42 w w' v (ilX xs p a) ∧ Le w w' := by
  have hok := lin_ok (k := 12) ha (by omega) (by omega)
  have HX : Hid (ilX xs p a = cond (vp xs p) (chkX xs (undL ⟨0, 12, a, 0⟩ p)) []) := rfl
  have HY : Hid (ilOk xs p a = (vp xs p && vp xs (undL ⟨0, 12, a, 0⟩ p))) := rfl
  go_enter Try.func29, Try.ntmps29
  go_wp2_with fail
  obtain ⟨ct, zt, hleB⟩ := box1 w (.slice B m c) 25
  have L0 := hleB
  clear hleB
  generalize w.alloc (.cells #[.slice B m c] 25) = W at *
  refine (svalidProgram_any B A m c n cap xs p hsm _ (hT.le L0) (hR.le L0)).mono ?_
  rintro e w2 ⟨rfl, hle⟩
  replace ct := (hle.cell zt).trans ct
  replace zt := Nat.lt_of_lt_of_le zt hle.size
  replace L0 := L0.trans hle
  clear hle
  cases hv : vp xs p
  · rw [hv] at HX HY
    have HO : Hid (Owd 42 w w2 (.slice none 0 0) (ilX xs p a)) := by show Owd _ _ _ _ _; rw [HX.out]; exact Owd.nil _ _ _
    go_wp2
    exact bodyPost_ret (v := .tuple #[.slice none 0 0, .bool false]) (by simp [results, Try.results29, go_sem]) rfl ⟨_, ret2 HY.out.symm rfl, HO.out, L0⟩
  · rw [hv] at HX HY
    have HDp := Lib.hid (good_deep hv)
    have hp := (goodP_of hv).len
    have hnp := hR.len
    have hp2 : p.length ≤ 1048000 := by omega
    obtain ⟨U, HU⟩ : ∃ U, Hid (undL ⟨0, 12, a, 0⟩ p = U) := ⟨_, rfl⟩
    have HUL : Hid (U.length ≤ p.length + 2) := by show _ ≤ _; rw [← HU.out]; exact undL_len _ _
    rw [HU.out] at HX HY
    have L1 : Le w2 w2.drew := (Le.refl w2).drew
    have SP := hR.le (L0.trans L1)
    have HCT : Hid (∀ w' : World, Le w2 w' → w'.cell? ⟨w.heap.size, 0, none⟩ = some (.slice B m c)) := fun w' hl => (hl.cell zt).trans ct
    clear hnp ct
    go_wp2_with fail
    refine wp_region_noPanic ?_
    refine wp_region_held_drew (S := fun w' => w'.cell? ⟨w.heap.size, 0, none⟩ = some (.slice B m c)) (by kernel_rfl) (HCT.out _ L1) (fun hHeld => ?_)
    refine wpAnyH_takeL (i := 0) (v := ?_) rfl (by kernel_rfl) (by kernel_rfl) (by kernel_rfl) (fun _ _ _ h => h) (Or.inl ⟨by rfl, ?_⟩) (by assumption) ?_
    rotate_left 1
    · (intro w hSw; (try dsimp only at hSw); go_simp; try with_reducible rfl)
    try simp only [Act.put, List.setIfInBounds_toArray, List.set_cons_zero, List.set_cons_succ]
    refine wpAnyH_takeL (i := 1) (v := ?_) rfl (by kernel_rfl) (by kernel_rfl) (by kernel_rfl) (fun _ _ _ h => h) (Or.inl ⟨by rfl, ?_⟩) (by assumption) ?_
    rotate_left 1
    · (intro w hSw; (try dsimp only at hSw); go_simp; try with_reducible rfl)
    try simp only [Act.put, List.setIfInBounds_toArray, List.set_cons_zero, List.set_cons_succ]
    refine wpAnyH_takeL (i := 2) (v := ?_) rfl (by kernel_rfl) (by kernel_rfl) (by kernel_rfl) (fun _ _ _ h => h) (Or.inl ⟨by rfl, ?_⟩) (by assumption) ?_
    rotate_left 1
    · (intro w hSw; (try dsimp only at hSw); go_simp; try with_reducible rfl)
    try simp only [Act.put, List.setIfInBounds_toArray, List.set_cons_zero, List.set_cons_succ]
    refine wpAnyH_takeL (i := 3) (v := ?_) rfl (by kernel_rfl) (by kernel_rfl) (by kernel_rfl) (fun _ _ _ h => h) (Or.inl ⟨by rfl, ?_⟩) (by assumption) ?_
    rotate_left 1
    · (intro w hSw; (try dsimp only at hSw); go_simp; try with_reducible rfl)
    try simp only [Act.put, List.setIfInBounds_toArray, List.set_cons_zero, List.set_cons_succ]
    refine wpAnyH_ready (rs := [4]) (by kernel_rfl) (by simp) (AllReadyH.consL (i := 4) rfl (fun K hK => ?_) AllReadyH.nil)
    go_simp
    go_at_call 49
    refine (sunder_any ⟨0, 12, a, 0⟩ A n cap p hp2 hok HDp.out _ SP).mono ?_
    rintro e w3 ⟨v3, rfl, D3, hle⟩
    rw [HU.out] at D3
    have L3 := L1.trans hle
    have ST3 := hT.le (L0.trans L3)
    obtain ⟨A3, q3, rfl, S3, hB3⟩ := D3.form (by decide)
    have h48 : U.length ≤ 1048576 := by have := HUL.out; omega
    refine hK.out _ _ ((HCT.out _ L3)) (fun hHeld => ?_)
    clear hK K
    try simp only [Act.put, List.setIfInBounds_toArray, List.set_cons_zero, List.set_cons_succ]
    refine wpAnyH_ready (rs := [5]) (by kernel_rfl) (by simp) (AllReadyH.consL (i := 5) rfl (fun K hK => ?_) AllReadyH.nil)
    go_simp
    go_at_call 47
    refine (scheckedProgram_any B A3 m c _ q3 xs U h48 _ ST3 S3).mono ?_
    rintro e w7 ⟨rfl, hle7⟩
    have L7 := L3.trans hle7
    have D7 := chk_owd (xs := xs) ((D3.mono (L0.trans L1)).le hle7)
    refine hK.out _ _ ((HCT.out _ L7)) (fun hHeld => ?_)
    clear hK K
    try simp only [Act.put, List.setIfInBounds_toArray, List.set_cons_zero, List.set_cons_succ]
    refine wpAnyH_takeL (i := 6) (v := ?_) rfl (by kernel_rfl) (by kernel_rfl) (by kernel_rfl) (fun _ _ _ h => h) (Or.inl ⟨by rfl, ?_⟩) (by assumption) ?_
    rotate_left 1
    · (intro w hSw; (try dsimp only at hSw); go_simp; try with_reducible rfl)
    try simp only [Act.put, List.setIfInBounds_toArray, List.set_cons_zero, List.set_cons_succ]
    refine wpAnyH_takeL (i := 7) (v := ?_) rfl (by kernel_rfl) (by kernel_rfl) (by kernel_rfl) (fun _ _ _ h => h) (Or.inl ⟨by rfl, ?_⟩) (by assumption) ?_
    rotate_left 1
    · (intro w hSw; (try dsimp only at hSw); go_simp; try with_reducible rfl)
    try simp only [Act.put, List.setIfInBounds_toArray, List.set_cons_zero, List.set_cons_succ]
    refine wpAnyH_takeL (i := 8) (v := ?_) rfl (by kernel_rfl) (by kernel_rfl) (by kernel_rfl) (fun _ _ _ h => h) (Or.inl ⟨by rfl, ?_⟩) (by assumption) ?_
    rotate_left 1
    · (intro w hSw; (try dsimp only at hSw); go_simp; try with_reducible rfl)
    try simp only [Act.put, List.setIfInBounds_toArray, List.set_cons_zero, List.set_cons_succ]
    refine wpAnyH_takeL (i := 9) (v := ?_) rfl (by kernel_rfl) (by kernel_rfl) (by kernel_rfl) (fun _ _ _ h => h) (Or.inl ⟨by rfl, ?_⟩) (by assumption) ?_
    rotate_left 1
    · (intro w hSw; (try dsimp only at hSw); go_simp; try with_reducible rfl)
    try simp only [Act.put, List.setIfInBounds_toArray, List.set_cons_zero, List.set_cons_succ]
    refine wpAnyH_done (by kernel_rfl) ?_ _
    refine NoPanic.normal ?_
    have HO : Hid (Owd 42 w w7 (chkV xs U (.slice A3 U.length q3)) (ilX xs p a)) := by show Owd _ _ _ _ _; rw [HX.out]; exact D7
    go_wp2
    exact bodyPost_ret (v := .tuple #[chkV xs U (.slice A3 U.length q3), .bool (vp xs U)]) (by simp [results, Try.results29, go_sem]) rfl ⟨_, ret2 HY.out.symm rfl, HO.out, L0.trans L7⟩
end

section
theorem equalInts_self (A B : Option Addr) (n c d : Nat) (xs : List Int) (w : World) (hR : Sl w A n c xs) (hS : Sl w B n d xs) :
    Calls Try.prog 17 #[.slice A n c, .slice B n d] w fun e w' => e = .returned (.bool true) ∧ Le w w' := by
  obtain rfl := hR.len
  have hm := hR.n_le
  have hb : ((xs.length : Int) != (xs.length : Int)) = false := by simp
  go_enter Try.func17, Try.ntmps17
  go_wp2
  go_loopw [5] (fun i wr => ∃ k : Nat, k ≤ xs.length ∧ i = .int .i64 k ∧ Le w wr) (fun i _ => xs.length - (intOf i).toNat)
  case atStart => exact ⟨0, Nat.zero_le _, rfl, Le.refl _⟩
  case round =>
    obtain ⟨k, hk, rfl, hle⟩ := hrel
    have hRr := hR.le hle
    have hSr := hS.le hle
    clear hR hS
    by_cases hlt : k < xs.length
    · obtain ⟨b, off, rfl, hb, hcell, _, _⟩ := hRr.int_at hlt
      obtain ⟨b2, off2, rfl, hb2, hcell3, _, _⟩ := hSr.int_at hlt
      have E1 := cell_ext hb hcell
      have E2 := cell_ext hb2 hcell3
      have he2 : (xs[k] != xs[k]) = false := by simp
      go_wp2_with fail
      refine wp_region_ext (by kernel_rfl) (by kernel_rfl) ?_
      repeat (go_big_quiet_step (fail))
      refine wpQuiet_nil ?_
      intro _ hw'
      obtain ⟨g, rfl⟩ := hw'
      have hw1 := Le.ext wr g
      generalize wr.ext g = W2 at *
      go_wp2
      go_roundw
      case rel => exact ⟨k + 1, by omega, by go_num, hle.trans hw1⟩
      case measure => simp [intOf]; omega
    · go_wp2
      go_ret
      exact ⟨rfl, hle⟩

end

section
theorem equalHeap_self (A B : Option Addr) (n c d : Nat) (xs : List Flt) (w : World) (hR : Sl w A n c xs) (hS : Sl w B n d xs) :
    Calls Try.prog 26 #[.agg #[.slice A n c], .agg #[.slice B n d]] w fun e w' => e = .returned (.bool true) ∧ Le w w' := by
  obtain rfl := hR.len
  have hm := hR.n_le
  have hb : ((xs.length : Int) != (xs.length : Int)) = false := by simp
  go_enter Try.func26, Try.ntmps26
  go_wp2
  obtain ⟨c0, z0, c1, z1, L0⟩ := box2 w (.slice A xs.length c) (.slice B xs.length d) 32 32
  have S1 := hR.le L0
  have S2 := hS.le L0
  generalize (w.alloc (.cells #[.slice A xs.length c] 32)).alloc (.cells #[.slice B xs.length d] 32) = W at *
  go_loopw [5] (fun i wr => ∃ k : Nat, k ≤ xs.length ∧ i = .int .i64 k ∧ Le W wr) (fun i _ => xs.length - (intOf i).toNat)
  case atStart => exact ⟨0, Nat.zero_le _, rfl, Le.refl _⟩
  case round =>
    obtain ⟨k, hk, rfl, hle⟩ := hrel
    replace c0 := (hle.cell z0).trans c0
    replace c1 := (hle.cell z1).trans c1
    replace z0 := Nat.lt_of_lt_of_le z0 hle.size
    replace z1 := Nat.lt_of_lt_of_le z1 hle.size
    replace L0 := L0.trans hle
    replace S1 := S1.le hle
    replace S2 := S2.le hle
    by_cases hlt : k < xs.length
    · obtain ⟨b, off, rfl, hb1, k0, k1, k2, k3, k4, _⟩ := S1.flt_at hlt
      obtain ⟨b2, off2, rfl, hb2, d0, d1, d2, d3, d4, _⟩ := S2.flt_at hlt
      have E0 := cell_ext hb1 k0
      have E1 := cell_ext hb1 k1
      have E2 := cell_ext hb1 k2
      have E3 := cell_ext hb1 k3
      have E4 := cell_ext hb1 k4
      have F0 := cell_ext hb2 d0
      have F1 := cell_ext hb2 d1
      have F2 := cell_ext hb2 d2
      have F3 := cell_ext hb2 d3
      have F4 := cell_ext hb2 d4
      have G0 := cell_ext z0 c0
      have G1 := cell_ext z1 c1
      generalize xs[k].cls = v0 at *
      generalize xs[k].code = v1 at *
      generalize xs[k].cause = v2 at *
      generalize xs[k].ctx = v3 at *
      generalize xs[k].hide = v4 at *
      go_wp2_with fail
      refine wp_region_ext (by kernel_rfl) (by kernel_rfl) ?_
      repeat (go_big_quiet_step (fail))
      refine wpQuiet_nil ?_
      intro _ hw'
      obtain ⟨g, rfl⟩ := hw'
      have hw1 := Le.ext wr g
      generalize wr.ext g = W2 at *
      go_wp2
      go_roundw
      case rel => exact ⟨k + 1, by omega, by go_num, hle.trans hw1⟩
      case measure => simp [intOf]; omega
    · go_wp2
      go_ret
      exact ⟨rfl, L0⟩
variable {P : Program} {f : FuncId} {args : Array Value} {w : World} {T : TypeId}
theorem Calls.intsH {L : List Int} (h : Calls P f args w fun e w' => ∃ v, e = .returned v ∧ Owd T w w' v L ∧ Le w w') : Calls P f args w fun e w' => ∃ A c, e = .returned (.slice A L.length c) ∧ Sl w' A L.length c L ∧ Le w w' :=
  h.mono fun _ _ ⟨v, he, ho, hl⟩ => by obtain ⟨A, c, e2, hs, _⟩ := ho.form (by decide); exact ⟨A, c, by rw [he, e2], hs, hl⟩
end

section
set_option maxRecDepth 100000 in
theorem equalLines_self (A B : Option Addr) (n c d : Nat) (xs : List Lin) (w : World) (hR : Sl w A n c xs) (hS : Sl w B n d xs) :
    Calls Try.prog 22 #[.slice A n c, .slice B n d] w fun e w' => e = .returned (.bool true) ∧ Le w w' := by
  obtain rfl := hR.len
  have hm := hR.n_le
  have hb : ((xs.length : Int) != (xs.length : Int)) = false := by simp
  go_enter Try.func22, Try.ntmps22
  go_wp2
  go_loopw [5] (fun i wr => ∃ k : Nat, k ≤ xs.length ∧ i = .int .i64 k ∧ Le w wr) (fun i _ => xs.length - (intOf i).toNat)
  case atStart => exact ⟨0, Nat.zero_le _, rfl, Le.refl _⟩
  case round =>
    obtain ⟨k, hk, rfl, hle⟩ := hrel
    have hRr := hR.le hle
    have hSr := hS.le hle
    clear hR hS
    by_cases hlt : k < xs.length
    · obtain ⟨b, off, rfl, hb, hcell0, hcell1, hcell2, hcell3, _⟩ := hRr.lin_at hlt
      obtain ⟨b2, off2, rfl, hb2, hdell0, hdell1, hdell2, hdell3, _⟩ := hSr.lin_at hlt
      have E0 := cell_ext hb hcell0
      have F0 := cell_ext hb2 hdell0
      have E1 := cell_ext hb hcell1
      have F1 := cell_ext hb2 hdell1
      have E2 := cell_ext hb hcell2
      have F2 := cell_ext hb2 hdell2
      have E3 := cell_ext hb hcell3
      have F3 := cell_ext hb2 hdell3
      have q0 : (xs[k].kind == xs[k].kind) = true := by simp
      have q3 : (xs[k].depth == xs[k].depth) = true := by simp
      have q1 : (xs[k].a == xs[k].a) = true := by simp
      have q2 : (xs[k].b == xs[k].b) = true := by simp
      go_wp2_with fail
      refine wp_region_ext (by kernel_rfl) (by kernel_rfl) ?_
      repeat (go_big_quiet_step (fail))
      refine wpQuiet_nil ?_
      intro _ hw'
      obtain ⟨g, rfl⟩ := hw'
      have hw1 := Le.ext wr g
      generalize wr.ext g = W2 at *
      go_wp2
      go_roundw
      case rel => exact ⟨k + 1, by omega, by go_num, hle.trans hw1⟩
      case measure => simp [intOf]; omega
    · go_wp2
      go_ret
      exact ⟨rfl, hle⟩
end

section
theorem Sl.setNoneR {α : Type} [Enc α] {w : World} {A : Option Addr} {n cap : Nat} {xs : List α} {b o : Nat} {v u : Value} (h : Sl w A n cap xs) (hc : w.cell? ⟨b, o, none⟩ = some v) (hv : ∀ x : α, v ∉ Enc.cells x) : Sl (w.setCell ⟨b, o, none⟩ u) A n cap xs := by
  refine ⟨h.len, h.cap_, h.max, h.ok, fun hn => ?_⟩
  obtain ⟨b2, off, e, hb, hcell⟩ := h.at_ hn
  refine ⟨b2, off, e, by simpa [World.setCell] using hb, fun j t ht => ?_⟩
  have h1 := hcell j t ht
  by_cases c : b = b2 ∧ o = off + j
  · obtain ⟨rfl, rfl⟩ := c
    rw [hc] at h1
    injection h1 with h1
    subst h1
    obtain ⟨x, _, hx⟩ := List.mem_flatMap.1 (List.mem_of_getElem? ht)
    exact absurd hx (hv x)
  · have hne : b ≠ b2 ∨ o ≠ off + j := by
      by_cases c2 : b = b2
      · exact .inr (fun e => c ⟨c2, e⟩)
      · exact .inl c2
    rw [cell_set_other hne]
    exact h1
theorem boxRr (w : World) (a b c d : Value) (T : TypeId) : (w.alloc (.cells #[a, b, c, d] T)).cell? ⟨w.heap.size, 0, none⟩ = some a ∧ (w.alloc (.cells #[a, b, c, d] T)).cell? ⟨w.heap.size, 1, none⟩ = some b ∧ (w.alloc (.cells #[a, b, c, d] T)).cell? ⟨w.heap.size, 2, none⟩ = some c ∧ (w.alloc (.cells #[a, b, c, d] T)).cell? ⟨w.heap.size, 3, none⟩ = some d ∧
    w.heap.size < (w.alloc (.cells #[a, b, c, d] T)).heap.size ∧ Le w (w.alloc (.cells #[a, b, c, d] T)) := by
  refine ⟨?_, ?_, ?_, ?_, by simp, Le.new w _⟩ <;> (rw [World.cell?_alloc_at _ _ _ _ rfl]; rfl)
theorem Calls.rs {f : FuncId} {args : Array Value} {w : World} {lg : List Int} {hs : List Flt} {en va : Int} (h : Calls Try.prog f args w (ResOut w lg hs en va)) :
    Calls Try.prog f args w fun e w' => ∃ A0 q0 A1 q1, e = .returned (.agg #[.slice A0 lg.length q0, .int .i64 en, .int .i64 va, .slice A1 hs.length q1]) ∧ Sl w' A0 lg.length q0 lg ∧ Sl w' A1 hs.length q1 hs ∧ Le w w' := by
  refine h.mono ?_
  rintro e w' ⟨lv, hv, rfl, D0, D1, -, hle⟩
  obtain ⟨A0, q0, rfl, S0, -⟩ := D0.form (by decide)
  obtain ⟨A1, q1, rfl, S1, -⟩ := D1.form (by decide)
  exact ⟨A0, q0, A1, q1, rfl, S0, S1, hle⟩
theorem Calls.ln {f : FuncId} {args : Array Value} {w : World} {X : List Lin} {ok : Bool} (h : Calls Try.prog f args w fun e w' => ∃ v, e = .returned (.tuple #[v, .bool ok]) ∧ Owd 42 w w' v X ∧ Le w w') :
    Calls Try.prog f args w fun e w' => ∃ A q, e = .returned (.tuple #[.slice A X.length q, .bool ok]) ∧ Sl w' A X.length q X ∧ Le w w' := by
  refine h.mono ?_
  rintro e w' ⟨v, rfl, D, hle⟩
  obtain ⟨A, q, rfl, S, -⟩ := D.form (by decide)
  exact ⟨A, q, rfl, S, hle⟩
set_option maxHeartbeats 2000000 in
set_option maxRecDepth 100000 in
theorem equalResult_self (A B E F : Option Addr) (n c d m e f : Nat) (xs : List Int) (hs : List Flt) (x y : Int) (w : World) (hA : Sl w A n c xs) (hB : Sl w B n d xs) (hE : Sl w E m e hs) (hF : Sl w F m f hs) :
    Calls Try.prog 12 #[.agg #[.slice A n c, .int .i64 x, .int .i64 y, .slice E m e], .agg #[.slice B n d, .int .i64 x, .int .i64 y, .slice F m f]] w fun e w' => e = .returned (.bool true) ∧ Le w w' := by
  obtain ⟨ca0, ca1, ca2, ca3, za0, L0⟩ := boxRr w (.slice A n c) (.int .i64 x) (.int .i64 y) (.slice E m e) 34
  obtain ⟨cb0, cb1, cb2, cb3, zb0, L1⟩ := boxRr (w.alloc (.cells #[.slice A n c, .int .i64 x, .int .i64 y, .slice E m e] 34)) (.slice B n d) (.int .i64 x) (.int .i64 y) (.slice F m f) 34
  have ez : (w.alloc (.cells #[.slice A n c, .int .i64 x, .int .i64 y, .slice E m e] 34)).heap.size = w.heap.size + 1 := by simp
  rw [ez] at cb0 cb1 cb2 cb3 zb0
  have za1 := za0
  have za2 := za0
  have za3 := za0
  have zb1 := zb0
  have zb2 := zb0
  have zb3 := zb0
  replace ca0 := (L1.cell za0).trans ca0
  replace ca1 := (L1.cell za1).trans ca1
  replace ca2 := (L1.cell za2).trans ca2
  replace ca3 := (L1.cell za3).trans ca3
  replace za0 := Nat.lt_of_lt_of_le za0 L1.size
  replace za1 := Nat.lt_of_lt_of_le za1 L1.size
  replace za2 := Nat.lt_of_lt_of_le za2 L1.size
  replace za3 := Nat.lt_of_lt_of_le za3 L1.size
  replace L0 := L0.trans L1
  have SA := hA.le L0
  have SB := hB.le L0
  have SE := hE.le L0
  have SF := hF.le L0
  clear L1 ez
  have hx : (x == x) = true := by simp
  have hy : (y == y) = true := by simp
  go_enter Try.func12, Try.ntmps12
  go_wp2_with fail
  generalize (w.alloc (.cells #[.slice A n c, .int .i64 x, .int .i64 y, .slice E m e] 34)).alloc (.cells #[.slice B n d, .int .i64 x, .int .i64 y, .slice F m f] 34) = W at *
  refine (equalInts_self A B n c d xs W SA SB).mono ?_
  rintro e1 w2 ⟨rfl, hle⟩
  replace ca0 := (hle.cell za0).trans ca0
  replace ca1 := (hle.cell za1).trans ca1
  replace ca2 := (hle.cell za2).trans ca2
  replace ca3 := (hle.cell za3).trans ca3
  replace cb0 := (hle.cell zb0).trans cb0
  replace cb1 := (hle.cell zb1).trans cb1
  replace cb2 := (hle.cell zb2).trans cb2
  replace cb3 := (hle.cell zb3).trans cb3
  replace za0 := Nat.lt_of_lt_of_le za0 hle.size
  replace za1 := Nat.lt_of_lt_of_le za1 hle.size
  replace za2 := Nat.lt_of_lt_of_le za2 hle.size
  replace za3 := Nat.lt_of_lt_of_le za3 hle.size
  replace zb0 := Nat.lt_of_lt_of_le zb0 hle.size
  replace zb1 := Nat.lt_of_lt_of_le zb1 hle.size
  replace zb2 := Nat.lt_of_lt_of_le zb2 hle.size
  replace zb3 := Nat.lt_of_lt_of_le zb3 hle.size
  replace L0 := L0.trans hle
  replace SE := SE.le hle
  replace SF := SF.le hle
  clear hle
  go_wp2_with fail
  refine (equalHeap_self E F m e f hs w2 SE SF).mono ?_
  rintro e2 w3 ⟨rfl, hle⟩
  replace L0 := L0.trans hle
  clear hle
  go_wp2
  go_ret
  exact ⟨rfl, L0⟩
end

section
section
def SzOut (left : Int) (n : Nat) (w : World) (e : Ending) (w' : World) : Prop := ∃ r : Int, e = .returned (.int .i64 r) ∧ (r = -1 ∨ (0 ≤ r ∧ r ≤ left ∧ (n : Int) ≤ left)) ∧ Le w w'
end

section
theorem byte_str (w : World) (n : Int) : (convert 22 9 (.slice (some ⟨w.heap.size, 0, none⟩) 1 1)).run Try.prog (w.alloc (.cells #[.int .u8 n] 5)) = .ok (.string ⟨#[UInt8.ofNat n.toNat]⟩) (w.alloc (.cells #[.int .u8 n] 5)) := by
  rw [run_convert_bytes_string _ _ _ 5 _ _ _ Try.underlying22 Try.underlying5 Try.underlying9]
  have h := run_bytesToString (P := Try.prog) (w.alloc (.cells #[.int .u8 n] 5)) ⟨w.heap.size, 0, none⟩ 1 1 [n] (by simp [go_sem, loadCells])
  exact h
def mTxtF : Nat → Int → ByteArray → ByteArray
  | 0, _, o => o
  | f + 1, k, o => if 0 < k then mTxtF f (k / 10) (⟨#[UInt8.ofNat (48 + k % 10).toNat]⟩ ++ o) else o
def mTxt (k : Int) : ByteArray := ⟨#[109]⟩ ++ mTxtF k.toNat k ⟨#[]⟩
theorem mTxtF_end (f : Nat) {k : Int} (h : ¬ 0 < k) (o : ByteArray) : mTxtF f k o = o := by
  cases f with
  | zero => rfl
  | succ f => unfold mTxtF; rw [if_neg h]
theorem mTxtF_step (f : Nat) {k : Int} (h : 0 < k) (o : ByteArray) : mTxtF (f + 1) k o = mTxtF f (k / 10) (⟨#[UInt8.ofNat (48 + k % 10).toNat]⟩ ++ o) := by
  rw [mTxtF, if_pos h]
theorem mTxtF_size (f : Nat) : ∀ (k : Int) (o : ByteArray), 0 ≤ k → (mTxtF f k o).size ≤ k.toNat + o.size := by
  induction f with
  | zero => intro k o h; show o.size ≤ _; omega
  | succ f ih =>
    intro k o h
    by_cases hk : 0 < k
    · rw [mTxtF_step f hk]
      have := ih (k / 10) (⟨#[UInt8.ofNat (48 + k % 10).toNat]⟩ ++ o) (by omega)
      rw [ByteArray.size_append] at this
      have e : (⟨#[UInt8.ofNat (48 + k % 10).toNat]⟩ : ByteArray).size = 1 := rfl
      omega
    · rw [mTxtF_end _ hk]; omega
theorem mTxt_size {k : Int} (h0 : 0 ≤ k) (h1 : k ≤ 2000000000) : (mTxt k).size ≤ 9223372036854775807 := by
  unfold mTxt
  rw [ByteArray.size_append]
  have := mTxtF_size k.toNat k ⟨#[]⟩ h0
  have e : (⟨#[109]⟩ : ByteArray).size = 1 := rfl
  have e2 : (⟨#[]⟩ : ByteArray).size = 0 := rfl
  omega
def TextOut (k : Int) (w : World) (e : Ending) (w' : World) : Prop := e = .returned (.string (mTxt k)) ∧ (mTxt k).size ≤ 9223372036854775807 ∧ Le w w'
end
end

section
theorem infoInt : (Try.prog.info? 3).map (fun i => (i.zero, i.size, i.bytes)) = some (some (.int .i64 0), 1, 8) := by kernel_rfl
def mInt (q : Int) (i : Nat) : Int := q + i
theorem mInt_at (q : Int) (n : Nat) : ∀ i (h : i < ((List.range n).map (mInt q)).length), ((List.range n).map (mInt q))[i] = q + i := by intro i h; simp [mInt]
theorem mInt_ok {q : Int} (h0 : 1 ≤ q) (h1 : q ≤ 1000000000) {n : Nat} (hn : n ≤ 1048576) : ∀ x ∈ (List.range n).map (mInt q), Enc.ok x := by
  intro x hx
  simp at hx
  obtain ⟨i, hi, rfl⟩ := hx
  exact ⟨by show _ ≤ _; simp only [mInt]; omega, by show _ ≤ _; simp only [mInt]; omega⟩
end

section
open Go.ChangeShapes Go.WideShapes Go.ChangeAt Go.RowKit Go.Deep Go.Joins

theorem list_of {α : Type} (p : Nat → α → Prop) : ∀ n, (∀ i, i < n → ∃ x, p i x) → ∃ xs : List α, xs.length = n ∧ ∀ i x, xs[i]? = some x → p i x
  | 0, _ => ⟨[], rfl, fun i x h => by simp at h⟩
  | n + 1, h => by
    obtain ⟨xs, hl, hx⟩ := list_of p n (fun i hi => h i (by omega))
    obtain ⟨x, hp⟩ := h n (by omega)
    refine ⟨xs ++ [x], by simp [hl], fun i y hy => ?_⟩
    rw [List.getElem?_append] at hy
    split at hy
    · exact hx i y hy
    · rename_i hge
      have hi : i = n := by
        rcases Nat.lt_or_ge (i - xs.length) 1 with h1 | h1
        · omega
        · rw [List.getElem?_eq_none (by simpa using h1)] at hy; cases hy
      subst hi
      rw [hl, Nat.sub_self] at hy
      simp at hy; subst hy; exact hp
theorem add_pl (b o n : Nat) : (⟨b, o, none⟩ : Addr).add n = ⟨b, o + n, none⟩ := by
  unfold Addr.add; split
  · next h => subst h; rfl
  · rfl

section
variable {H : Type} {enc : TypeId × Value → H} {P : Program} {w : World} {base : Nat} {spare : Nat → Bool} {held : Bool}
theorem open_sl {α : Type} [Enc α] {t e : TypeId} {fuel : Nat} {cs : List Value} {x : DataW H × List MemPlace} (ht : P.underlying t = some (.slice e)) (hC : P.cellsOf e = Enc.size α) (hp : 0 < Enc.size α)
    (hel : ∀ n cs' y, DataW.trod enc P w base spare held n e cs' = some y → ∃ x : α, cs' = Enc.cells x ∧ Enc.ok x) (h : DataW.trod enc P w base spare held fuel t cs = some x) :
    ∃ (A : Option Addr) (n cap : Nat) (xs : List α), cs = [.slice A n cap] ∧ Sl w A n cap xs := by
  rcases open_slice ht h with ⟨h0, _⟩ | ⟨a, len, cap, m, n, D, Pl, hcs, hb, hl, hm, hmm, hx, hi⟩
  · exact ⟨none, 0, 0, [], h0, Sl.nil w none 0 (by omega)⟩
  · have hlm : len ≤ m := by rw [hmm]; split <;> omega
    obtain ⟨xs, hlen, hxs⟩ := list_of (fun i (x : α) => Enc.ok x ∧ ∀ j, j < Enc.size α → w.cell? ((a.add (i * Enc.size α)).add j) = (Enc.cells x)[j]?) len (fun i hil => by
      obtain ⟨cs', hc, ht'⟩ := hi i (by omega)
      obtain ⟨x, rfl, hok⟩ := hel _ _ _ ht'
      rw [hC] at hc
      obtain ⟨_, _, hat⟩ := World.cells?_some hc
      exact ⟨x, hok, hat⟩)
    refine ⟨some a, len, cap, xs, hcs, hlen, hl, by simpa [maxLen] using hm, fun x hx => ?_, fun hn => ?_⟩
    · obtain ⟨i, hi⟩ := List.getElem?_of_mem hx
      exact (hxs i x hi).1
    · obtain ⟨b, off, spot⟩ := a
      have h0 := (hxs 0 xs[0] (List.getElem?_eq_getElem (by omega))).2 0 hp
      rw [List.getElem?_eq_getElem (by rw [Enc.len]; exact hp)] at h0
      have hs : spot = none := by simpa [Addr.add] using World.cell?_spot h0
      subst hs
      have hlt : b < w.heap.size := by
        have := World.block_lt_of_cell? _ _ h0
        rw [Nat.zero_mul, add_pl, add_pl] at this; exact this
      refine ⟨b, off, rfl, hlt, fun j u hu => ?_⟩
      have hjl : j < xs.length * Enc.size α := by
        have := (List.getElem?_eq_some_iff.1 hu).1
        rwa [flat_len] at this
      have hk : j / Enc.size α < xs.length := by rw [Nat.div_lt_iff_lt_mul hp]; exact hjl
      have hr : j % Enc.size α < Enc.size α := Nat.mod_lt _ hp
      have hdiv : j / Enc.size α * Enc.size α + j % Enc.size α = j := by rw [Nat.mul_comm]; exact Nat.div_add_mod _ _
      have h1 := (hxs (j / Enc.size α) _ (List.getElem?_eq_getElem hk)).2 _ hr
      rw [add_pl, add_pl, Nat.add_assoc, hdiv] at h1
      rw [h1, ← flat_at xs _ hk _ hr, hdiv, hu]

theorem el_cls {e : TypeId} {f0 f1 : Field} (he : P.underlying e = some (.struct #[f0, f1])) (hone : oneCellFields P #[f0, f1] = true) (hC : P.cellsOf e = 2) (h0 : P.underlying f0.type = some .string) (h1 : P.underlying f1.type = some (.int .i64)) :
    ∀ n cs' y, DataW.trod enc P w base spare held n e cs' = some y → ∃ x : Cls, cs' = Enc.cells x ∧ Enc.ok x := by
  intro n cs' y hy
  obtain ⟨y0, y1, n', _, hl, t0, t1⟩ := trod_struct2 he hy
  obtain ⟨o0, k0⟩ := hone_of hone 0 f0 rfl
  obtain ⟨o1, k1⟩ := hone_of hone 1 f1 rfl
  rw [hC] at hl
  match cs', hl with
  | [c0, c1], _ =>
    rw [o0, k0] at t0
    rw [o1, k1] at t1
    obtain ⟨s, hs, _, hsz⟩ := DataW.trod_string h0 t0
    obtain ⟨z, hz, _, hwf⟩ := DataW.trod_int h1 t1
    simp at hs hz
    subst hs; subst hz
    refine ⟨⟨s, z⟩, rfl, by simpa [maxLen] using hsz, ?_⟩
    simpa [Lit.wf, IntKind.min, IntKind.max, IntKind.signed, IntKind.bits] using hwf

theorem open_agg1 {r : Reach} {b0 : Nat} {t : TypeId} {f0 : Field} {v : Value} {d : DataW H} {p : List MemPlace} (hs : P.underlying t = some (.struct #[f0])) (hone : oneCellFields P #[f0] = true) (hC : P.cellsOf t = 1)
    (hv : Value.okWide P w r b0 t v) (h : DataW.Trod enc P w base spare held t v d p) :
    ∃ (v0 : Value) (y0 : DataW H × List MemPlace) (n : Nat), v = .agg #[v0] ∧ DataW.trod enc P w base spare held n f0.type [v0] = some y0 := by
  obtain ⟨cs, rfl, hsz⟩ := okWide_struct hs hv
  obtain ⟨l⟩ := cs
  match l, hsz.trans hC with
  | [c0], _ =>
    obtain ⟨fuel, hf⟩ := h
    obtain ⟨xs, n, _, hx, _, hlen, hg⟩ := DataW.trod_struct hs hf
    obtain ⟨o0, k0⟩ := hone_of hone 0 f0 rfl
    match xs, hlen with
    | [y0], _ => exact ⟨c0, y0, n, rfl, by simpa [Value.cells, o0, k0] using hg 0 f0 rfl⟩
end
end
end Go.Proofs.Ytlepgfccnfcagaa
