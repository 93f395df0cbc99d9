/- programs: LowerWith of both -/
import Derived.Test.YtgjpbpoadonpjaaPhLy
namespace Go.Proofs.Ytgjpbpoadonpjaa
open Go.RowKit
def lwX (xs : List Cls) (p : List Lin) : List Lin := cond (vp xs p) (chkX xs (lwN 25 p)) []
def lwOk (xs : List Cls) (p : List Lin) : Bool := vp xs p && vp xs (lwN 25 p)
theorem lwX_len (xs : List Cls) (p : List Lin) : (lwX xs p).length ≤ 1048576 := by
  unfold lwX
  cases vp xs p
  · simp
  · have := chkX_len xs (lwN 25 p)
    show (chkX xs (lwN 25 p)).length ≤ _
    omega
theorem good_lw {xs : List Cls} {p : List Lin} (g : GoodP xs p) (hok : ∀ x ∈ p, Enc.ok x) : ∀ x ∈ p, LwOk x := by
  intro x hx
  refine ⟨hok x hx, ?_⟩
  obtain ⟨i, hi, rfl⟩ := List.mem_iff_getElem.1 hx
  have h := (g.line i hi).2.1.1.2
  rw [dep_at hi] at h
  exact h
set_option maxHeartbeats 1000000 in
set_option maxRecDepth 100000 in
theorem iLowerWith_any (B A : Option Addr) (m c n cap : Nat) (xs : List Cls) (p : List Lin) (hm : m ≤ 1048576) (w : World) (hT : Sl w B m c xs) (hR : Sl w A n cap p) :
    Calls Try.prog 14 #[.agg #[.slice B m c], .slice A n cap] w fun e w' => ∃ v, e = .returned (.tuple #[v, .bool (lwOk xs p)]) ∧ Owd 55 w w' v (lwX xs p) ∧ Le w w' := by
  have HX : Hid (lwX xs p = cond (vp xs p) (chkX xs (lwN 25 p)) []) := rfl
  have HY : Hid (lwOk xs p = (vp xs p && vp xs (lwN 25 p))) := rfl
  go_enter Try.func14, Try.ntmps14
  go_wp2_with fail
  obtain ⟨ct, zt, hleB⟩ := box1 w (.slice B m c) 33
  have L0 := hleB
  clear hleB
  generalize w.alloc (.cells #[.slice B m c] 33) = W at *
  refine (pValidProgram_any B A m c n cap xs p hm _ (hT.le L0) (hR.le L0)).mono ?_
  rintro e w1 ⟨rfl, hle⟩
  replace ct := (hle.cell zt).trans ct
  replace zt := Nat.lt_of_lt_of_le zt hle.size
  replace L0 := L0.trans hle
  clear hle
  cases h : vp xs p
  · rw [h] at HX HY
    have HO : Hid (Owd 55 w w1 (.slice none 0 0) (lwX xs p)) := by show Owd _ _ _ _ _; rw [HX.out]; exact Owd.nil _ _ _
    go_wp2
    exact bodyPost_ret (v := .tuple #[.slice none 0 0, .bool false]) (by simp [results, Try.results14, go_sem]) rfl ⟨_, ret2 HY.out.symm rfl, HO.out, L0⟩
  · rw [h] at HX HY
    have HD := Lib.hid (good_lw (goodP_of h) hR.ok)
    have hp := (goodP_of h).len
    go_wp2_with fail
    have hnp := hR.len
    have hnp2 : p.length ≤ 1048576 := by omega
    clear hnp
    have ct0 : w1.drew.cell? ⟨w.heap.size, 0, none⟩ = some (.slice B m c) := ct
    have L1 := L0.drew
    have SP := hR.le L1
    obtain ⟨U, HU⟩ : ∃ U, Hid (lwN 25 p = U) := ⟨_, rfl⟩
    rw [HU.out] at HX HY
    refine wp_region_noPanic ?_
    refine wp_region_held_drew (S := fun w' => w'.cell? ⟨w.heap.size, 0, none⟩ = some (.slice B m c)) (by kernel_rfl) ct0 (fun hHeld => ?_)
    refine wpAnyH_takeL (i := 0) (v := ?_) rfl (by kernel_rfl) (by kernel_rfl) (by kernel_rfl) (fun _ _ _ h => h) (Or.inl ⟨by rfl, ?_⟩) (by assumption) ?_
    rotate_left 1
    · (intro w hSw; (try dsimp only at hSw); go_simp; try with_reducible rfl)
    try simp only [Act.put, List.setIfInBounds_toArray, List.set_cons_zero, List.set_cons_succ]
    refine wpAnyH_takeL (i := 1) (v := ?_) rfl (by kernel_rfl) (by kernel_rfl) (by kernel_rfl) (fun _ _ _ h => h) (Or.inl ⟨by rfl, ?_⟩) (by assumption) ?_
    rotate_left 1
    · (intro w hSw; (try dsimp only at hSw); go_simp; try with_reducible rfl)
    try simp only [Act.put, List.setIfInBounds_toArray, List.set_cons_zero, List.set_cons_succ]
    refine wpAnyH_ready (rs := [2]) (by kernel_rfl) (by simp) (AllReadyH.consL (i := 2) rfl (fun K hK => ?_) AllReadyH.nil)
    go_simp
    go_at_call 41
    refine (ilower_any 25 A n cap p (by omega) (by omega) HD.out _ SP).mono ?_
    rintro e w3 ⟨v3, rfl, D3, hle⟩
    rw [HU.out] at D3
    have ctC := (hle.cell (show w.heap.size < w1.drew.heap.size from zt)).trans ct0
    have L3 := L1.trans hle
    have ztC := Nat.lt_of_lt_of_le (show w.heap.size < w1.drew.heap.size from zt) hle.size
    have STC := hT.le L3
    obtain ⟨A3, q3, rfl, S3, hB3⟩ := D3.form (by decide)
    refine hK.out _ _ (ctC) (fun hHeld => ?_)
    clear hK K
    try simp only [Act.put, List.setIfInBounds_toArray, List.set_cons_zero, List.set_cons_succ]
    refine wpAnyH_ready (rs := [3]) (by kernel_rfl) (by simp) (AllReadyH.consL (i := 3) rfl (fun K hK => ?_) AllReadyH.nil)
    go_simp
    go_at_call 40
    refine (iifValid_any B A3 m c _ q3 xs U hm _ STC S3).mono ?_
    rintro e w4 ⟨rfl, hle4⟩
    have ctD := (hle4.cell ztC).trans ctC
    have L4 := L3.trans hle4
    have D4 := chk_owd (xs := xs) ((D3.mono L1).le hle4)
    refine hK.out _ _ (ctD) (fun hHeld => ?_)
    clear hK K
    try simp only [Act.put, List.setIfInBounds_toArray, List.set_cons_zero, List.set_cons_succ]
    refine wpAnyH_takeL (i := 4) (v := ?_) rfl (by kernel_rfl) (by kernel_rfl) (by kernel_rfl) (fun _ _ _ h => h) (Or.inl ⟨by rfl, ?_⟩) (by assumption) ?_
    rotate_left 1
    · (intro w hSw; (try dsimp only at hSw); go_simp; try with_reducible rfl)
    try simp only [Act.put, List.setIfInBounds_toArray, List.set_cons_zero, List.set_cons_succ]
    refine wpAnyH_takeL (i := 5) (v := ?_) rfl (by kernel_rfl) (by kernel_rfl) (by kernel_rfl) (fun _ _ _ h => h) (Or.inl ⟨by rfl, ?_⟩) (by assumption) ?_
    rotate_left 1
    · (intro w hSw; (try dsimp only at hSw); go_simp; try with_reducible rfl)
    try simp only [Act.put, List.setIfInBounds_toArray, List.set_cons_zero, List.set_cons_succ]
    refine wpAnyH_takeL (i := 6) (v := ?_) rfl (by kernel_rfl) (by kernel_rfl) (by kernel_rfl) (fun _ _ _ h => h) (Or.inl ⟨by rfl, ?_⟩) (by assumption) ?_
    rotate_left 1
    · (intro w hSw; (try dsimp only at hSw); go_simp; try with_reducible rfl)
    try simp only [Act.put, List.setIfInBounds_toArray, List.set_cons_zero, List.set_cons_succ]
    refine wpAnyH_takeL (i := 7) (v := ?_) rfl (by kernel_rfl) (by kernel_rfl) (by kernel_rfl) (fun _ _ _ h => h) (Or.inl ⟨by rfl, ?_⟩) (by assumption) ?_
    rotate_left 1
    · (intro w hSw; (try dsimp only at hSw); go_simp; try with_reducible rfl)
    try simp only [Act.put, List.setIfInBounds_toArray, List.set_cons_zero, List.set_cons_succ]
    refine wpAnyH_done (by kernel_rfl) ?_ _
    refine NoPanic.normal ?_
    have HO : Hid (Owd 55 w w4 (chkV xs U (.slice A3 U.length q3)) (lwX xs p)) := by show Owd _ _ _ _ _; rw [HX.out]; exact D4
    go_wp2
    exact bodyPost_ret (v := .tuple #[chkV xs U (.slice A3 U.length q3), .bool (vp xs U)]) (by simp [results, Try.results14, go_sem]) rfl ⟨_, ret2 HY.out.symm rfl, HO.out, L4⟩
set_option maxHeartbeats 1000000 in
set_option maxRecDepth 100000 in
theorem sLowerWith_any (B A : Option Addr) (m c n cap : Nat) (xs : List Cls) (p : List Lin) (hsm : p.length ≤ 1048576) (w : World) (hT : Sl w B m c xs) (hR : Sl w A n cap p) :
    Calls Try.prog 11 #[.agg #[.slice B m c], .slice A n cap] w fun e w' => ∃ v, e = .returned (.tuple #[v, .bool (lwOk xs p)]) ∧ Owd 55 w w' v (lwX xs p) ∧ Le w w' := by
  have HX : Hid (lwX xs p = cond (vp xs p) (chkX xs (lwN 25 p)) []) := rfl
  have HY : Hid (lwOk xs p = (vp xs p && vp xs (lwN 25 p))) := rfl
  go_enter Try.func11, Try.ntmps11
  go_wp2_with fail
  obtain ⟨ct, zt, hleB⟩ := box1 w (.slice B m c) 33
  have L0 := hleB
  clear hleB
  generalize w.alloc (.cells #[.slice B m c] 33) = W at *
  refine (svalidProgram_any B A m c n cap xs p hsm _ (hT.le L0) (hR.le L0)).mono ?_
  rintro e w2 ⟨rfl, hle⟩
  replace ct := (hle.cell zt).trans ct
  replace zt := Nat.lt_of_lt_of_le zt hle.size
  replace L0 := L0.trans hle
  clear hle
  cases hv : vp xs p
  · rw [hv] at HX HY
    have HO : Hid (Owd 55 w w2 (.slice none 0 0) (lwX xs p)) := by show Owd _ _ _ _ _; rw [HX.out]; exact Owd.nil _ _ _
    go_wp2
    exact bodyPost_ret (v := .tuple #[.slice none 0 0, .bool false]) (by simp [results, Try.results11, go_sem]) rfl ⟨_, ret2 HY.out.symm rfl, HO.out, L0⟩
  · rw [hv] at HX HY
    have HDp := Lib.hid (good_lw (goodP_of hv) hR.ok)
    have hp := (goodP_of hv).len
    have hnp := hR.len
    have hp2 : p.length ≤ 1048000 := by omega
    obtain ⟨U, HU⟩ : ∃ U, Hid (lwN 25 p = U) := ⟨_, rfl⟩
    have HUL : Hid (U.length ≤ 4 * p.length) := by show _ ≤ _; rw [← HU.out]; exact lwN_len _ _
    rw [HU.out] at HX HY
    have L1 : Le w2 w2.drew := (Le.refl w2).drew
    have SP := hR.le (L0.trans L1)
    have HCT : Hid (∀ w' : World, Le w2 w' → w'.cell? ⟨w.heap.size, 0, none⟩ = some (.slice B m c)) := fun w' hl => (hl.cell zt).trans ct
    clear hnp ct
    go_wp2_with fail
    refine wp_region_noPanic ?_
    refine wp_region_held_drew (S := fun w' => w'.cell? ⟨w.heap.size, 0, none⟩ = some (.slice B m c)) (by kernel_rfl) (HCT.out _ L1) (fun hHeld => ?_)
    refine wpAnyH_takeL (i := 0) (v := ?_) rfl (by kernel_rfl) (by kernel_rfl) (by kernel_rfl) (fun _ _ _ h => h) (Or.inl ⟨by rfl, ?_⟩) (by assumption) ?_
    rotate_left 1
    · (intro w hSw; (try dsimp only at hSw); go_simp; try with_reducible rfl)
    try simp only [Act.put, List.setIfInBounds_toArray, List.set_cons_zero, List.set_cons_succ]
    refine wpAnyH_takeL (i := 1) (v := ?_) rfl (by kernel_rfl) (by kernel_rfl) (by kernel_rfl) (fun _ _ _ h => h) (Or.inl ⟨by rfl, ?_⟩) (by assumption) ?_
    rotate_left 1
    · (intro w hSw; (try dsimp only at hSw); go_simp; try with_reducible rfl)
    try simp only [Act.put, List.setIfInBounds_toArray, List.set_cons_zero, List.set_cons_succ]
    refine wpAnyH_ready (rs := [2]) (by kernel_rfl) (by simp) (AllReadyH.consL (i := 2) rfl (fun K hK => ?_) AllReadyH.nil)
    go_simp
    go_at_call 36
    refine (slowered_any 25 A n cap p (by omega) (by omega) HDp.out _ SP).mono ?_
    rintro e w3 ⟨v3, rfl, D3, hle⟩
    rw [HU.out] at D3
    have L3 := L1.trans hle
    have ST3 := hT.le (L0.trans L3)
    obtain ⟨A3, q3, rfl, S3, hB3⟩ := D3.form (by decide)
    have h48 : U.length ≤ 1048576 := by have := HUL.out; omega
    refine hK.out _ _ ((HCT.out _ L3)) (fun hHeld => ?_)
    clear hK K
    try simp only [Act.put, List.setIfInBounds_toArray, List.set_cons_zero, List.set_cons_succ]
    refine wpAnyH_ready (rs := [3]) (by kernel_rfl) (by simp) (AllReadyH.consL (i := 3) rfl (fun K hK => ?_) AllReadyH.nil)
    go_simp
    go_at_call 35
    refine (scheckedProgram_any B A3 m c _ q3 xs U h48 _ ST3 S3).mono ?_
    rintro e w7 ⟨rfl, hle7⟩
    have L7 := L3.trans hle7
    have D7 := chk_owd (xs := xs) ((D3.mono (L0.trans L1)).le hle7)
    refine hK.out _ _ ((HCT.out _ L7)) (fun hHeld => ?_)
    clear hK K
    try simp only [Act.put, List.setIfInBounds_toArray, List.set_cons_zero, List.set_cons_succ]
    refine wpAnyH_takeL (i := 4) (v := ?_) rfl (by kernel_rfl) (by kernel_rfl) (by kernel_rfl) (fun _ _ _ h => h) (Or.inl ⟨by rfl, ?_⟩) (by assumption) ?_
    rotate_left 1
    · (intro w hSw; (try dsimp only at hSw); go_simp; try with_reducible rfl)
    try simp only [Act.put, List.setIfInBounds_toArray, List.set_cons_zero, List.set_cons_succ]
    refine wpAnyH_takeL (i := 5) (v := ?_) rfl (by kernel_rfl) (by kernel_rfl) (by kernel_rfl) (fun _ _ _ h => h) (Or.inl ⟨by rfl, ?_⟩) (by assumption) ?_
    rotate_left 1
    · (intro w hSw; (try dsimp only at hSw); go_simp; try with_reducible rfl)
    try simp only [Act.put, List.setIfInBounds_toArray, List.set_cons_zero, List.set_cons_succ]
    refine wpAnyH_takeL (i := 6) (v := ?_) rfl (by kernel_rfl) (by kernel_rfl) (by kernel_rfl) (fun _ _ _ h => h) (Or.inl ⟨by rfl, ?_⟩) (by assumption) ?_
    rotate_left 1
    · (intro w hSw; (try dsimp only at hSw); go_simp; try with_reducible rfl)
    try simp only [Act.put, List.setIfInBounds_toArray, List.set_cons_zero, List.set_cons_succ]
    refine wpAnyH_takeL (i := 7) (v := ?_) rfl (by kernel_rfl) (by kernel_rfl) (by kernel_rfl) (fun _ _ _ h => h) (Or.inl ⟨by rfl, ?_⟩) (by assumption) ?_
    rotate_left 1
    · (intro w hSw; (try dsimp only at hSw); go_simp; try with_reducible rfl)
    try simp only [Act.put, List.setIfInBounds_toArray, List.set_cons_zero, List.set_cons_succ]
    refine wpAnyH_done (by kernel_rfl) ?_ _
    refine NoPanic.normal ?_
    have HO : Hid (Owd 55 w w7 (chkV xs U (.slice A3 U.length q3)) (lwX xs p)) := by show Owd _ _ _ _ _; rw [HX.out]; exact D7
    go_wp2
    exact bodyPost_ret (v := .tuple #[chkV xs U (.slice A3 U.length q3), .bool (vp xs U)]) (by simp [results, Try.results11, go_sem]) rfl ⟨_, ret2 HY.out.symm rfl, HO.out, L0.trans L7⟩
end Go.Proofs.Ytgjpbpoadonpjaa
