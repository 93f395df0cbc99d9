/- one text of PhS, PhU, PhT -/
import Derived.Test.YtlepgfccnfcagaaWp12
import Derived.Test.YtlepgfccnfcagaaWp16
import Derived.Test.YtlepgfccnfcagaaWp6
import Derived.Test.YtlepgfccnfcagaaWp5
import Derived.Deep.Cut
namespace Go.Proofs.Ytlepgfccnfcagaa
open Go.RowKit
set_option linter.unusedVariables false
section
def chkV (xs : List Cls) (p : List Lin) (v : Value) : Value := cond (vp xs p) v (.slice none 0 0)
theorem chk_owd {xs : List Cls} {p : List Lin} {w0 w : World} {v : Value} (h : Owd 42 w0 w v p) : Owd 42 w0 w (chkV xs p v) (chkX xs p) := by
  unfold chkV chkX
  cases vp xs p
  · exact Owd.nil _ _ _
  · exact h
theorem chkX_len (xs : List Cls) (p : List Lin) : (chkX xs p).length ≤ 24 := by
  unfold chkX
  cases h : vp xs p
  · simp
  · exact (goodP_of h).len
theorem ret2 {a b : Bool} {v u : Value} (h : a = b) (h2 : v = u) : Ending.returned (.tuple #[v, .bool a]) = .returned (.tuple #[u, .bool b]) := by rw [h, h2]
theorem iifValid_any (B A : Option Addr) (m c n cap : Nat) (xs : List Cls) (p : List Lin) (hm : m ≤ 1048576) (w : World) (hT : Sl w B m c xs) (hR : Sl w A n cap p) :
    Calls Try.prog 44 #[.agg #[.slice B m c], .slice A n cap] w fun e w' => e = .returned (.tuple #[chkV xs p (.slice A n cap), .bool (vp xs p)]) ∧ Le w w' := by
  have HV : Hid (chkV xs p (.slice A n cap) = cond (vp xs p) (.slice A n cap) (.slice none 0 0)) := rfl
  go_enter Try.func44, Try.ntmps44
  go_wp2_with fail
  obtain ⟨ct, zt, hleB⟩ := box1 w (.slice B m c) 25
  have L0 := hleB
  clear hleB
  generalize w.alloc (.cells #[.slice B m c] 25) = W at *
  refine (pValidProgram_any B A m c n cap xs p hm _ (hT.le L0) (hR.le L0)).mono ?_
  rintro e w1 ⟨rfl, hle⟩
  cases h : vp xs p
  · rw [h] at HV
    go_wp2
    exact bodyPost_ret (v := .tuple #[.slice none 0 0, .bool false]) (by simp [results, Try.results44, go_sem]) rfl ⟨ret2 h.symm HV.out.symm, L0.trans hle⟩
  · rw [h] at HV
    go_wp2
    exact bodyPost_ret (v := .tuple #[.slice A n cap, .bool true]) (by simp [results, Try.results44, go_sem]) rfl ⟨ret2 h.symm HV.out.symm, L0.trans hle⟩
theorem scheckedProgram_any (B A : Option Addr) (m c n cap : Nat) (xs : List Cls) (p : List Lin) (hsm : p.length ≤ 1048576) (w : World) (hT : Sl w B m c xs) (hR : Sl w A n cap p) :
    Calls Try.prog 47 #[.agg #[.slice B m c], .slice A n cap] w fun e w' => e = .returned (.tuple #[chkV xs p (.slice A n cap), .bool (vp xs p)]) ∧ Le w w' := by
  have HV : Hid (chkV xs p (.slice A n cap) = cond (vp xs p) (.slice A n cap) (.slice none 0 0)) := rfl
  go_enter Try.func47, Try.ntmps47
  go_wp2_with fail
  obtain ⟨ct, zt, hleB⟩ := box1 w (.slice B m c) 25
  have L0 := hleB
  clear hleB
  generalize w.alloc (.cells #[.slice B m c] 25) = W at *
  refine (svalidProgram_any B A m c n cap xs p hsm _ (hT.le L0) (hR.le L0)).mono ?_
  rintro e w1 ⟨rfl, hle⟩
  cases h : vp xs p
  · rw [h] at HV
    go_wp2
    exact bodyPost_ret (v := .tuple #[.slice none 0 0, .bool false]) (by simp [results, Try.results47, go_sem]) rfl ⟨ret2 h.symm HV.out.symm, L0.trans hle⟩
  · rw [h] at HV
    go_wp2
    exact bodyPost_ret (v := .tuple #[.slice A n cap, .bool true]) (by simp [results, Try.results47, go_sem]) rfl ⟨ret2 h.symm HV.out.symm, L0.trans hle⟩
theorem sboth_any (B A C : Option Addr) (m c n cap k d : Nat) (xs : List Cls) (p q : List Lin) (hsm : p.length ≤ 1048576) (hsq : q.length ≤ 1048576) (w : World) (hT : Sl w B m c xs) (hR : Sl w A n cap p) (hQ : Sl w C k d q) :
    Calls Try.prog 46 #[.agg #[.slice B m c], .slice A n cap, .slice C k d] w fun e w' => e = .returned (.bool (vp xs p && vp xs q)) ∧ Le w w' := by
  have HV : Hid ((vp xs p && vp xs q) = (vp xs p && vp xs q)) := rfl
  go_enter Try.func46, Try.ntmps46
  go_wp2_with fail
  obtain ⟨ct, zt, hleB⟩ := box1 w (.slice B m c) 25
  have L0 := hleB
  clear hleB
  generalize w.alloc (.cells #[.slice B m c] 25) = W at *
  refine (svalidProgram_any B A m c n cap xs p hsm _ (hT.le L0) (hR.le L0)).mono ?_
  rintro e w1 ⟨rfl, hle⟩
  replace ct := (hle.cell zt).trans ct
  replace zt := Nat.lt_of_lt_of_le zt hle.size
  replace L0 := L0.trans hle
  cases h : vp xs p
  · go_wp2
    go_ret
    exact ⟨ret_bool (by rw [h]; rfl), L0⟩
  · go_wp2_with fail
    refine (svalidProgram_any B C m c k d xs q hsq _ (hT.le L0) (hQ.le L0)).mono ?_
    rintro e w2 ⟨rfl, hle2⟩
    go_wp2
    go_ret
    exact ⟨ret_bool (by rw [h]; rfl), L0.trans hle2⟩
/-! ThenProgram -/
def thX (xs : List Cls) (p q : List Lin) : List Lin := cond (vp xs p && vp xs q) (chkX xs (p ++ q)) []
def thOk (xs : List Cls) (p q : List Lin) : Bool := (vp xs p && vp xs q) && vp xs (p ++ q)
theorem thX_len (xs : List Cls) (p q : List Lin) : (thX xs p q).length ≤ 1048576 := by
  unfold thX
  cases vp xs p && vp xs q
  · simp
  · exact Nat.le_trans (chkX_len _ _) (by omega)
set_option maxHeartbeats 1000000 in
set_option maxRecDepth 100000 in
theorem iThenProgram_any (B A C : Option Addr) (m c n cap k d : Nat) (xs : List Cls) (p q : List Lin) (hm : m ≤ 1048576) (w : World) (hT : Sl w B m c xs) (hR : Sl w A n cap p) (hQ : Sl w C k d q) :
    Calls Try.prog 20 #[.agg #[.slice B m c], .slice A n cap, .slice C k d] w fun e w' => ∃ v, e = .returned (.tuple #[v, .bool (thOk xs p q)]) ∧ Owd 42 w w' v (thX xs p q) ∧ Le w w' := by
  have HX : Hid (thX xs p q = cond (vp xs p && vp xs q) (chkX xs (p ++ q)) []) := rfl
  have HY : Hid (thOk xs p q = ((vp xs p && vp xs q) && vp xs (p ++ q))) := rfl
  go_enter Try.func20, Try.ntmps20
  go_wp2_with fail
  obtain ⟨ct, zt, hleB⟩ := box1 w (.slice B m c) 25
  have L0 := hleB
  clear hleB
  generalize w.alloc (.cells #[.slice B m c] 25) = W at *
  refine (pValidProgram_any B A m c n cap xs p hm _ (hT.le L0) (hR.le L0)).mono ?_
  rintro e w1 ⟨rfl, hle⟩
  replace ct := (hle.cell zt).trans ct
  replace zt := Nat.lt_of_lt_of_le zt hle.size
  replace L0 := L0.trans hle
  clear hle
  cases h : vp xs p
  · rw [h] at HX HY
    have HO : Hid (Owd 42 w w1 (.slice none 0 0) (thX xs p q)) := by show Owd _ _ _ _ _; rw [HX.out]; exact Owd.nil _ _ _
    go_wp2
    exact bodyPost_ret (v := .tuple #[.slice none 0 0, .bool false]) (by simp [results, Try.results20, go_sem]) rfl ⟨_, ret2 HY.out.symm rfl, HO.out, L0⟩
  · go_wp2_with fail
    refine (pValidProgram_any B C m c k d xs q hm _ (hT.le L0) (hQ.le L0)).mono ?_
    rintro e w2 ⟨rfl, hle⟩
    replace ct := (hle.cell zt).trans ct
    replace zt := Nat.lt_of_lt_of_le zt hle.size
    replace L0 := L0.trans hle
    clear hle
    cases h2 : vp xs q
    · rw [h, h2] at HX HY
      have HO : Hid (Owd 42 w w2 (.slice none 0 0) (thX xs p q)) := by show Owd _ _ _ _ _; rw [HX.out]; exact Owd.nil _ _ _
      go_wp2
      exact bodyPost_ret (v := .tuple #[.slice none 0 0, .bool false]) (by simp [results, Try.results20, go_sem]) rfl ⟨_, ret2 HY.out.symm rfl, HO.out, L0⟩
    · rw [h, h2] at HX HY
      have hp := (goodP_of h).len
      have hq := (goodP_of h2).len
      go_wp2_with fail
      obtain ⟨PQ, HPQ⟩ : ∃ PQ, Hid (p ++ q = PQ) := ⟨_, rfl⟩
      have HPL : Hid (PQ.length ≤ 48) := by show _ ≤ _; rw [← HPQ.out, List.length_append]; omega
      rw [HPQ.out] at HX HY
      have hnp := hR.len
      have hnq := hQ.len
      have hsum : n + k ≤ 4194304 := by omega
      clear hnp hnq
      obtain ⟨y0, y1, zy, LB⟩ := boxS2 w2 (.slice A n cap) (.slice C k d) 26
      have ctB := (LB.cell zt).trans ct
      have L1 := L0.trans LB
      have SPB := hR.le L1
      have SQB := hQ.le L1
      have STB := hT.le L1
      have ztB := Nat.lt_of_lt_of_le zt LB.size
      generalize hWB : w2.alloc (.cells #[.slice A n cap, .slice C k d] 26) = WB at *
      have ct0 : w2.drew.cell? ⟨w.heap.size, 0, none⟩ = some (.slice B m c) := ct
      have ctB2 : WB.drew.cell? ⟨w.heap.size, 0, none⟩ = some (.slice B m c) := ctB
      have y02 : WB.drew.cell? ⟨w2.heap.size, 0, none⟩ = some (.slice A n cap) := y0
      have y12 : WB.drew.cell? ⟨w2.heap.size, 1, none⟩ = some (.slice C k d) := y1
      have zy2 : w2.heap.size < WB.drew.heap.size := zy
      have ztB2 : w.heap.size < WB.drew.heap.size := ztB
      have L12 : Le w WB.drew := L1.drew
      have SPB2 := SPB.le (Le.refl WB).drew
      have SQB2 := SQB.le (Le.refl WB).drew
      have STB2 := STB.le (Le.refl WB).drew
      clear y0 y1 zy LB ctB L1 SPB SQB STB ztB
      refine wp_region_noPanic ?_
      refine wp_region_held_drew (S := fun w' => w'.cell? ⟨w.heap.size, 0, none⟩ = some (.slice B m c)) (by kernel_rfl) ct0 (fun hHeld => ?_)
      refine wpAnyH_takeL (i := 0) (v := ?_) rfl (by kernel_rfl) (by kernel_rfl) (by kernel_rfl) (fun _ _ _ h => h) (Or.inl ⟨by rfl, ?_⟩) (by assumption) ?_
      rotate_left 1
      · (intro w hSw; (try dsimp only at hSw); go_simp; try with_reducible rfl)
      try simp only [Act.put, List.setIfInBounds_toArray, List.set_cons_zero, List.set_cons_succ]
      refine wpAnyH_takeL (i := 1) (v := ?_) rfl (by kernel_rfl) (by kernel_rfl) (by kernel_rfl) (fun _ _ _ h => h) (Or.inl ⟨by rfl, ?_⟩) (by assumption) ?_
      rotate_left 1
      · (intro w hSw; (try dsimp only at hSw); go_simp; try with_reducible rfl)
      try simp only [Act.put, List.setIfInBounds_toArray, List.set_cons_zero, List.set_cons_succ]
      refine wpAnyH_takeL (i := 2) (v := ?_) rfl (by kernel_rfl) (by kernel_rfl) (by kernel_rfl) (fun _ _ _ h => h) (Or.inl ⟨by rfl, ?_⟩) (by assumption) ?_
      rotate_left 1
      · (intro w hSw; (try dsimp only at hSw); go_simp; try with_reducible rfl)
      try simp only [Act.put, List.setIfInBounds_toArray, List.set_cons_zero, List.set_cons_succ]
      refine wpAnyH_ready (rs := [3]) (by kernel_rfl) (by simp) (AllReadyH.consL (i := 3) rfl (fun K hK => ?_) AllReadyH.nil)
      go_simp
      refine hK.out _ _ (ctB2) (fun hHeld => ?_)
      clear hK K
      try simp only [Act.put, List.setIfInBounds_toArray, List.set_cons_zero, List.set_cons_succ]
      refine wpAnyH_ready (rs := [4]) (by kernel_rfl) (by simp) (AllReadyH.consL (i := 4) rfl (fun K hK => ?_) AllReadyH.nil)
      go_simp
      go_at_call 45
      refine (concatL_any A C n cap k d _ p q _ SPB2 SQB2 hsum y02 y12 zy2).mono ?_
      rintro e w3 ⟨v3, rfl, D3, hle⟩
      rw [HPQ.out] at D3
      have ctC := (hle.cell ztB2).trans ctB2
      have ztC := Nat.lt_of_lt_of_le ztB2 hle.size
      have STC := STB2.le hle
      have L3 := L12.trans hle
      obtain ⟨A3, q3, rfl, S3, hB3⟩ := D3.form (by decide)
      refine hK.out _ _ (ctC) (fun hHeld => ?_)
      clear hK K
      try simp only [Act.put, List.setIfInBounds_toArray, List.set_cons_zero, List.set_cons_succ]
      refine wpAnyH_ready (rs := [5]) (by kernel_rfl) (by simp) (AllReadyH.consL (i := 5) rfl (fun K hK => ?_) AllReadyH.nil)
      go_simp
      go_at_call 44
      refine (iifValid_any B A3 m c _ q3 xs PQ hm _ STC S3).mono ?_
      rintro e w4 ⟨rfl, hle4⟩
      have ctD := (hle4.cell ztC).trans ctC
      have L4 := L3.trans hle4
      have D4 := chk_owd (xs := xs) ((D3.mono L12).le hle4)
      refine hK.out _ _ (ctD) (fun hHeld => ?_)
      clear hK K
      try simp only [Act.put, List.setIfInBounds_toArray, List.set_cons_zero, List.set_cons_succ]
      refine wpAnyH_takeL (i := 6) (v := ?_) rfl (by kernel_rfl) (by kernel_rfl) (by kernel_rfl) (fun _ _ _ h => h) (Or.inl ⟨by rfl, ?_⟩) (by assumption) ?_
      rotate_left 1
      · (intro w hSw; (try dsimp only at hSw); go_simp; try with_reducible rfl)
      try simp only [Act.put, List.setIfInBounds_toArray, List.set_cons_zero, List.set_cons_succ]
      refine wpAnyH_takeL (i := 7) (v := ?_) rfl (by kernel_rfl) (by kernel_rfl) (by kernel_rfl) (fun _ _ _ h => h) (Or.inl ⟨by rfl, ?_⟩) (by assumption) ?_
      rotate_left 1
      · (intro w hSw; (try dsimp only at hSw); go_simp; try with_reducible rfl)
      try simp only [Act.put, List.setIfInBounds_toArray, List.set_cons_zero, List.set_cons_succ]
      refine wpAnyH_takeL (i := 8) (v := ?_) rfl (by kernel_rfl) (by kernel_rfl) (by kernel_rfl) (fun _ _ _ h => h) (Or.inl ⟨by rfl, ?_⟩) (by assumption) ?_
      rotate_left 1
      · (intro w hSw; (try dsimp only at hSw); go_simp; try with_reducible rfl)
      try simp only [Act.put, List.setIfInBounds_toArray, List.set_cons_zero, List.set_cons_succ]
      refine wpAnyH_takeL (i := 9) (v := ?_) rfl (by kernel_rfl) (by kernel_rfl) (by kernel_rfl) (fun _ _ _ h => h) (Or.inl ⟨by rfl, ?_⟩) (by assumption) ?_
      rotate_left 1
      · (intro w hSw; (try dsimp only at hSw); go_simp; try with_reducible rfl)
      try simp only [Act.put, List.setIfInBounds_toArray, List.set_cons_zero, List.set_cons_succ]
      refine wpAnyH_done (by kernel_rfl) ?_ _
      refine NoPanic.normal ?_
      have HO : Hid (Owd 42 w w4 (chkV xs PQ (.slice A3 PQ.length q3)) (thX xs p q)) := by show Owd _ _ _ _ _; rw [HX.out]; exact D4
      go_wp2
      exact bodyPost_ret (v := .tuple #[chkV xs PQ (.slice A3 PQ.length q3), .bool (vp xs PQ)]) (by simp [results, Try.results20, go_sem]) rfl ⟨_, ret2 HY.out.symm rfl, HO.out, L4⟩
set_option maxHeartbeats 1000000 in
set_option maxRecDepth 100000 in
theorem sThenProgram_any (B A C : Option Addr) (m c n cap k d : Nat) (xs : List Cls) (p q : List Lin) (hsm : p.length ≤ 1048576) (hsq : q.length ≤ 1048576) (w : World) (hT : Sl w B m c xs) (hR : Sl w A n cap p) (hQ : Sl w C k d q) :
    Calls Try.prog 21 #[.agg #[.slice B m c], .slice A n cap, .slice C k d] w fun e w' => ∃ v, e = .returned (.tuple #[v, .bool (thOk xs p q)]) ∧ Owd 42 w w' v (thX xs p q) ∧ Le w w' := by
  obtain ⟨i0, hi, hz0, hz1, hz2⟩ := info_parts infoLn
  have HX : Hid (thX xs p q = cond (vp xs p && vp xs q) (chkX xs (p ++ q)) []) := rfl
  have HY : Hid (thOk xs p q = ((vp xs p && vp xs q) && vp xs (p ++ q))) := rfl
  go_enter Try.func21, Try.ntmps21
  go_wp2_with fail
  obtain ⟨ct, zt, hleB⟩ := box1 w (.slice B m c) 25
  have L0 := hleB
  clear hleB
  generalize w.alloc (.cells #[.slice B m c] 25) = W at *
  refine (sboth_any B A C m c n cap k d xs p q hsm hsq _ (hT.le L0) (hR.le L0) (hQ.le L0)).mono ?_
  rintro e w1 ⟨rfl, hle⟩
  replace ct := (hle.cell zt).trans ct
  replace zt := Nat.lt_of_lt_of_le zt hle.size
  replace L0 := L0.trans hle
  clear hle
  cases h : (vp xs p && vp xs q)
  · rw [h] at HX HY
    have HO : Hid (Owd 42 w w1 (.slice none 0 0) (thX xs p q)) := by show Owd _ _ _ _ _; rw [HX.out]; exact Owd.nil _ _ _
    go_wp2
    exact bodyPost_ret (v := .tuple #[.slice none 0 0, .bool false]) (by simp [results, Try.results21, go_sem]) rfl ⟨_, ret2 HY.out.symm rfl, HO.out, L0⟩
  · rw [h] at HX HY
    have hb := Bool.and_eq_true_iff.1 h
    have hp := (goodP_of hb.1).len
    have hq := (goodP_of hb.2).len
    obtain ⟨PQ, HPQ⟩ : ∃ PQ, Hid (p ++ q = PQ) := ⟨_, rfl⟩
    have HPL : Hid (PQ.length ≤ 48) := by show _ ≤ _; rw [← HPQ.out, List.length_append]; omega
    rw [HPQ.out] at HX HY
    obtain rfl := hR.len
    obtain rfl := hQ.len
    go_wp2_with fail
    have OE : (w1.alloc (.cells #[] 42)).ownsRow w1.heap.size 42 4 (.slice (some ⟨w1.heap.size, 0, none⟩) 0 0) 0 [] := own_empty (Nat.le_refl _) rfl
    have LB := Le.new w1 (.cells #[] 42)
    have ctB := (LB.cell zt).trans ct
    have L1 := L0.trans LB
    have ztB := Nat.lt_of_lt_of_le zt LB.size
    have hle1 := L0.size
    generalize hWB : w1.alloc (.cells #[] 42) = WB at *
    have ct0 : w1.drew.cell? ⟨w.heap.size, 0, none⟩ = some (.slice B m c) := ct
    have ctB2 : WB.drew.cell? ⟨w.heap.size, 0, none⟩ = some (.slice B m c) := ctB
    have ztB2 : w.heap.size < WB.drew.heap.size := ztB
    have L12 : Le w WB.drew := L1.drew
    have L13 : Le w1 WB.drew := LB.drew
    have OE2 := OE.drew
    have SPB := hR.le L12
    have SQB := hQ.le L12
    have STB := hT.le L12
    have HZ1 := Lib.hid (show w1.heap.size ≤ WB.drew.heap.size from L13.size)
    clear OE LB ctB L1 ztB
    refine wp_region_noPanic ?_
    refine wp_region_held_drew (S := fun w' => w'.cell? ⟨w.heap.size, 0, none⟩ = some (.slice B m c)) (by kernel_rfl) ct0 (fun hHeld => ?_)
    refine wpAnyH_takeL (i := 0) (v := ?_) rfl (by kernel_rfl) (by kernel_rfl) (by kernel_rfl) (fun _ _ _ h => h) (Or.inl ⟨by rfl, ?_⟩) (by assumption) ?_
    rotate_left 1
    · (intro w hSw; (try dsimp only at hSw); go_simp; try with_reducible rfl)
    try simp only [Act.put, List.setIfInBounds_toArray, List.set_cons_zero, List.set_cons_succ]
    refine wpAnyH_takeL (i := 2) (v := ?_) rfl (by kernel_rfl) (by kernel_rfl) (by kernel_rfl) (fun _ _ _ h => h) (Or.inl ⟨by rfl, ?_⟩) (by assumption) ?_
    rotate_left 1
    · (intro w hSw; (try dsimp only at hSw); go_simp; try with_reducible rfl)
    try simp only [Act.put, List.setIfInBounds_toArray, List.set_cons_zero, List.set_cons_succ]
    refine wpAnyH_takeL (i := 4) (v := ?_) rfl (by kernel_rfl) (by kernel_rfl) (by kernel_rfl) (fun _ _ _ h => h) (Or.inl ⟨by rfl, ?_⟩) (by assumption) ?_
    rotate_left 1
    · (intro w hSw; (try dsimp only at hSw); go_simp; try with_reducible rfl)
    try simp only [Act.put, List.setIfInBounds_toArray, List.set_cons_zero, List.set_cons_succ]
    refine wpAnyH_ready (rs := [1]) (by kernel_rfl) (by simp) (AllReadyH.consL (i := 1) rfl (fun K hK => ?_) AllReadyH.nil)
    go_simp
    refine hK.out _ _ (ctB2) (fun hHeld => ?_)
    clear hK K
    try simp only [Act.put, List.setIfInBounds_toArray, List.set_cons_zero, List.set_cons_succ]
    refine wpAnyH_ready (rs := [3]) (by kernel_rfl) (by simp) (AllReadyH.consL (i := 3) rfl (fun K hK => ?_) AllReadyH.nil)
    refine step_append_sl rfl (.tmp 14) (.tmp 15) 26 rfl w1.heap.size 42 i0 _ 32 Try.underlying26 hi hz0 hz1 hz2 rfl (.slice (some ⟨w1.heap.size, 0, none⟩) 0 0) 0 ([] : List Lin) rfl OE2 A p.length cap p rfl SPB (by unfold maxLen; omega) (by omega) HZ1.out ?_
    intro v1 w3 O3 hg3 _
    have L3 := L13.grown hg3 (fun k hk => (OE2.lt k hk).1)
    have ctC : w3.cell? ⟨w.heap.size, 0, none⟩ = some (.slice B m c) := (L3.cell zt).trans ct
    have SQ3 := hQ.le (L0.trans L3)
    refine hK.out _ _ (ctC) (fun hHeld => ?_)
    clear hK K
    try simp only [Act.put, List.setIfInBounds_toArray, List.set_cons_zero, List.set_cons_succ]
    refine wpAnyH_ready (rs := [5]) (by kernel_rfl) (by simp) (AllReadyH.consL (i := 5) rfl (fun K hK => ?_) AllReadyH.nil)
    refine step_append_sl rfl (.tmp 16) (.tmp 17) 26 rfl w1.heap.size 42 i0 _ 32 Try.underlying26 hi hz0 hz1 hz2 rfl v1 (0 + p.length) ([] ++ p) rfl O3 C q.length d q rfl SQ3 (by unfold maxLen; omega) (by omega) L3.size ?_
    intro v2 w4 O4 hg4 _
    have L4 := L3.grown hg4 (fun k hk => (O3.lt k hk).1)
    have ctD : w4.cell? ⟨w.heap.size, 0, none⟩ = some (.slice B m c) := (L4.cell zt).trans ct
    have hPQl : 0 + p.length + q.length = PQ.length := by rw [← HPQ.out, List.length_append, Nat.zero_add]
    rw [List.nil_append, HPQ.out, hPQl] at O4
    have HQO : ∀ x ∈ PQ, Enc.ok x := by
      rw [← HPQ.out]
      intro x hx
      rcases List.mem_append.1 hx with hx | hx
      · exact hR.ok x hx
      · exact hQ.ok x hx
    obtain ⟨A4, q4, rfl⟩ := own_form O4
    have D4 : Owd 42 w1 w4 (.slice A4 PQ.length q4) PQ := ⟨O4, HQO⟩
    have S4 := Sl.of_own O4 rfl (by decide) HQO
    have ST4 := hT.le (L0.trans L4)
    have h48 := HPL.out
    clear O4 hPQl HQO
    refine hK.out _ _ (ctD) (fun hHeld => ?_)
    clear hK K
    try simp only [Act.put, List.setIfInBounds_toArray, List.set_cons_zero, List.set_cons_succ]
    refine wpAnyH_ready (rs := [6]) (by kernel_rfl) (by simp) (AllReadyH.consL (i := 6) rfl (fun K hK => ?_) AllReadyH.nil)
    go_simp
    go_at_call 47
    refine (scheckedProgram_any B A4 m c _ q4 xs PQ (by omega) _ ST4 S4).mono ?_
    rintro e w5 ⟨rfl, hle5⟩
    have L5 := (L0.trans L4).trans hle5
    have ctE := (hle5.cell (Nat.lt_of_lt_of_le zt L4.size)).trans ctD
    have D5 := chk_owd (xs := xs) ((D4.mono L0).le hle5)
    refine hK.out _ _ (ctE) (fun hHeld => ?_)
    clear hK K
    try simp only [Act.put, List.setIfInBounds_toArray, List.set_cons_zero, List.set_cons_succ]
    refine wpAnyH_takeL (i := 7) (v := ?_) rfl (by kernel_rfl) (by kernel_rfl) (by kernel_rfl) (fun _ _ _ h => h) (Or.inl ⟨by rfl, ?_⟩) (by assumption) ?_
    rotate_left 1
    · (intro w hSw; (try dsimp only at hSw); go_simp; try with_reducible rfl)
    try simp only [Act.put, List.setIfInBounds_toArray, List.set_cons_zero, List.set_cons_succ]
    refine wpAnyH_takeL (i := 8) (v := ?_) rfl (by kernel_rfl) (by kernel_rfl) (by kernel_rfl) (fun _ _ _ h => h) (Or.inl ⟨by rfl, ?_⟩) (by assumption) ?_
    rotate_left 1
    · (intro w hSw; (try dsimp only at hSw); go_simp; try with_reducible rfl)
    try simp only [Act.put, List.setIfInBounds_toArray, List.set_cons_zero, List.set_cons_succ]
    refine wpAnyH_takeL (i := 9) (v := ?_) rfl (by kernel_rfl) (by kernel_rfl) (by kernel_rfl) (fun _ _ _ h => h) (Or.inl ⟨by rfl, ?_⟩) (by assumption) ?_
    rotate_left 1
    · (intro w hSw; (try dsimp only at hSw); go_simp; try with_reducible rfl)
    try simp only [Act.put, List.setIfInBounds_toArray, List.set_cons_zero, List.set_cons_succ]
    refine wpAnyH_takeL (i := 10) (v := ?_) rfl (by kernel_rfl) (by kernel_rfl) (by kernel_rfl) (fun _ _ _ h => h) (Or.inl ⟨by rfl, ?_⟩) (by assumption) ?_
    rotate_left 1
    · (intro w hSw; (try dsimp only at hSw); go_simp; try with_reducible rfl)
    try simp only [Act.put, List.setIfInBounds_toArray, List.set_cons_zero, List.set_cons_succ]
    refine wpAnyH_done (by kernel_rfl) ?_ _
    refine NoPanic.normal ?_
    have HO : Hid (Owd 42 w w5 (chkV xs PQ (.slice A4 PQ.length q4)) (thX xs p q)) := by show Owd _ _ _ _ _; rw [HX.out]; exact D5
    go_wp2
    exact bodyPost_ret (v := .tuple #[chkV xs PQ (.slice A4 PQ.length q4), .bool (vp xs PQ)]) (by simp [results, Try.results21, go_sem]) rfl ⟨_, ret2 HY.out.symm rfl, HO.out, L5⟩
end

section
/-- a try with a program, and another one behind a line -/
def twX (xs : List Cls) (p : List Lin) (h : Lin) (q : List Lin) : List Lin := cond (vp xs p && vp xs q) (chkX xs (undL ⟨0, 7, 0, 0⟩ p ++ undL h q)) []
def twOk (xs : List Cls) (p : List Lin) (h : Lin) (q : List Lin) : Bool := (vp xs p && vp xs q) && vp xs (undL ⟨0, 7, 0, 0⟩ p ++ undL h q)
theorem twX_len (xs : List Cls) (p : List Lin) (h : Lin) (q : List Lin) : (twX xs p h q).length ≤ 1048576 := by
  unfold twX
  cases vp xs p && vp xs q
  · simp
  · exact Nat.le_trans (chkX_len _ _) (by omega)
/-- a program in a loop -/
def ilX (xs : List Cls) (p : List Lin) (n : Int) : List Lin := cond (vp xs p) (chkX xs (undL ⟨0, 12, n, 0⟩ p)) []
def ilOk (xs : List Cls) (p : List Lin) (n : Int) : Bool := vp xs p && vp xs (undL ⟨0, 12, n, 0⟩ p)
theorem ilX_len (xs : List Cls) (p : List Lin) (n : Int) : (ilX xs p n).length ≤ 1048576 := by
  unfold ilX
  cases vp xs p
  · simp
  · exact Nat.le_trans (chkX_len _ _) (by omega)
theorem good_deep {xs : List Cls} {p : List Lin} (h : vp xs p = true) : ∀ x ∈ p, x.depth ≤ 5 := fun x hx => by
  obtain ⟨i, hi, rfl⟩ := List.getElem_of_mem hx
  have := ((goodP_of h).line i hi).2.1.1
  rw [dep_at hi] at this
  exact this.2
theorem lin_ok {k a : Int} (ha : -9223372036854775808 ≤ a ∧ a ≤ 9223372036854775807) (h0 : 0 ≤ k) (h1 : k ≤ 100) : Enc.ok (⟨0, k, a, 0⟩ : Lin) :=
  ⟨show (-9223372036854775808 : Int) ≤ 0 by decide, show (0 : Int) ≤ 9223372036854775807 by decide, show (-9223372036854775808 : Int) ≤ k by omega, show k ≤ 9223372036854775807 by omega, ha.1, ha.2, show (-9223372036854775808 : Int) ≤ 0 by decide, show (0 : Int) ≤ 9223372036854775807 by decide⟩
theorem try_ok : Enc.ok (⟨0, 7, 0, 0⟩ : Lin) := ⟨by decide, by decide, by decide, by decide, by decide, by decide, by decide, by decide⟩
theorem box2t (w : World) (s a b c d : Value) (T U : TypeId) : ((w.alloc (.cells #[s] T)).alloc (.cells #[a, b, c, d] U)).cell? ⟨w.heap.size, 0, none⟩ = some s ∧ w.heap.size < ((w.alloc (.cells #[s] T)).alloc (.cells #[a, b, c, d] U)).heap.size ∧
    (∀ (j : Nat) v, #[a, b, c, d][j]? = some v → ((w.alloc (.cells #[s] T)).alloc (.cells #[a, b, c, d] U)).cell? ⟨w.heap.size + 1, j, none⟩ = some v) ∧ w.heap.size + 1 < ((w.alloc (.cells #[s] T)).alloc (.cells #[a, b, c, d] U)).heap.size ∧ Le w ((w.alloc (.cells #[s] T)).alloc (.cells #[a, b, c, d] U)) := by
  refine ⟨?_, by simp; omega, ?_, by simp, (Le.new w _).alloc _⟩
  · rw [World.cell?_alloc_past _ _ _ (by simp), World.cell?_alloc_at _ _ _ _ rfl]; rfl
  · intro j v hv
    rw [World.cell?_alloc_at _ _ _ _ (by simp)]; exact hv
set_option maxHeartbeats 1000000 in
set_option maxRecDepth 100000 in
theorem tryWith_any (B A C : Option Addr) (m c n cap k d : Nat) (xs : List Cls) (p q : List Lin) (h : Lin) (hm : m ≤ 1048576) (hh : Enc.ok h) (w : World) (hT : Sl w B m c xs) (hR : Sl w A n cap p) (hQ : Sl w C k d q) :
    Calls Try.prog 48 #[.agg #[.slice B m c], .slice A n cap, .agg #[.int .i64 h.depth, .int .i64 h.kind, .int .i64 h.a, .int .i64 h.b], .slice C k d] w fun e w' => ∃ v, e = .returned (.tuple #[v, .bool (twOk xs p h q)]) ∧ Owd 42 w w' v (twX xs p h q) ∧ Le w w' := by
  have HX : Hid (twX xs p h q = cond (vp xs p && vp xs q) (chkX xs (undL ⟨0, 7, 0, 0⟩ p ++ undL h q)) []) := rfl
  have HY : Hid (twOk xs p h q = ((vp xs p && vp xs q) && vp xs (undL ⟨0, 7, 0, 0⟩ p ++ undL h q))) := rfl
  go_enter Try.func48, Try.ntmps48
  go_wp2_with fail
  obtain ⟨ct, zt, ch, zh, L0⟩ := box2t w (.slice B m c) (.int .i64 h.depth) (.int .i64 h.kind) (.int .i64 h.a) (.int .i64 h.b) 25 42
  generalize (w.alloc (.cells #[.slice B m c] 25)).alloc (.cells #[.int .i64 h.depth, .int .i64 h.kind, .int .i64 h.a, .int .i64 h.b] 42) = W at *
  refine (pValidProgram_any B A m c n cap xs p hm _ (hT.le L0) (hR.le L0)).mono ?_
  rintro e w1 ⟨rfl, hle⟩
  replace ct := (hle.cell zt).trans ct
  replace ch := fun j v hv => (hle.cell zh).trans (ch j v hv)
  replace zt := Nat.lt_of_lt_of_le zt hle.size
  replace zh := Nat.lt_of_lt_of_le zh hle.size
  replace L0 := L0.trans hle
  clear hle
  cases hv1 : vp xs p
  · rw [hv1] at HX HY
    have HO : Hid (Owd 42 w w1 (.slice none 0 0) (twX xs p h q)) := by show Owd _ _ _ _ _; rw [HX.out]; exact Owd.nil _ _ _
    go_wp2
    exact bodyPost_ret (v := .tuple #[.slice none 0 0, .bool false]) (by simp [results, Try.results48, go_sem]) rfl ⟨_, ret2 HY.out.symm rfl, HO.out, L0⟩
  · go_wp2_with fail
    refine (pValidProgram_any B C m c k d xs q hm _ (hT.le L0) (hQ.le L0)).mono ?_
    rintro e w2 ⟨rfl, hle⟩
    replace ct := (hle.cell zt).trans ct
    replace ch := fun j v hv => (hle.cell zh).trans (ch j v hv)
    replace zt := Nat.lt_of_lt_of_le zt hle.size
    replace zh := Nat.lt_of_lt_of_le zh hle.size
    replace L0 := L0.trans hle
    clear hle
    cases hv2 : vp xs q
    · rw [hv1, hv2] at HX HY
      have HO : Hid (Owd 42 w w2 (.slice none 0 0) (twX xs p h q)) := by show Owd _ _ _ _ _; rw [HX.out]; exact Owd.nil _ _ _
      go_wp2
      exact bodyPost_ret (v := .tuple #[.slice none 0 0, .bool false]) (by simp [results, Try.results48, go_sem]) rfl ⟨_, ret2 HY.out.symm rfl, HO.out, L0⟩
    · rw [hv1, hv2] at HX HY
      go_wp2_with fail
      have HDp := Lib.hid (good_deep hv1)
      have HDq := Lib.hid (good_deep hv2)
      have hp := (goodP_of hv1).len
      have hq := (goodP_of hv2).len
      have hnp := hR.len
      have hnq := hQ.len
      have hp2 : p.length ≤ 1048576 := by omega
      have hq2 : q.length ≤ 1048576 := by omega
      have HC5 : Hid (∀ w' : World, Le w2 w' → w'.cell? ⟨w.heap.size, 0, none⟩ = some (.slice B m c) ∧ w'.cell? ⟨w.heap.size + 1, 0, none⟩ = some (.int .i64 h.depth) ∧ w'.cell? ⟨w.heap.size + 1, 1, none⟩ = some (.int .i64 h.kind) ∧ w'.cell? ⟨w.heap.size + 1, 2, none⟩ = some (.int .i64 h.a) ∧ w'.cell? ⟨w.heap.size + 1, 3, none⟩ = some (.int .i64 h.b)) := fun w' hl => ⟨(hl.cell zt).trans ct, (hl.cell zh).trans (ch 0 _ rfl), (hl.cell zh).trans (ch 1 _ rfl), (hl.cell zh).trans (ch 2 _ rfl), (hl.cell zh).trans (ch 3 _ rfl)⟩
      obtain ⟨U, HU⟩ : ∃ U, Hid (undL ⟨0, 7, 0, 0⟩ p = U) := ⟨_, rfl⟩
      obtain ⟨V, HV⟩ : ∃ V, Hid (undL h q = V) := ⟨_, rfl⟩
      have HUL : Hid (U.length ≤ p.length + 2) := by show _ ≤ _; rw [← HU.out]; exact undL_len _ _
      have HVL : Hid (V.length ≤ q.length + 2) := by show _ ≤ _; rw [← HV.out]; exact undL_len _ _
      rw [HU.out, HV.out] at HX HY
      obtain ⟨PQ, HPQ⟩ : ∃ PQ, Hid (U ++ V = PQ) := ⟨_, rfl⟩
      rw [HPQ.out] at HX HY
      have L1 : Le w2 w2.drew := (Le.refl w2).drew
      have SP := hR.le (L0.trans L1)
      clear hnp hnq ct ch
      refine wp_region_noPanic ?_
      refine wp_region_held_drew (S := fun w' => w'.cell? ⟨w.heap.size, 0, none⟩ = some (.slice B m c) ∧ w'.cell? ⟨w.heap.size + 1, 0, none⟩ = some (.int .i64 h.depth) ∧ w'.cell? ⟨w.heap.size + 1, 1, none⟩ = some (.int .i64 h.kind) ∧ w'.cell? ⟨w.heap.size + 1, 2, none⟩ = some (.int .i64 h.a) ∧ w'.cell? ⟨w.heap.size + 1, 3, none⟩ = some (.int .i64 h.b)) (by kernel_rfl) (HC5.out _ L1) (fun hHeld => ?_)
      refine wpAnyH_takeL (i := 0) (v := ?_) rfl (by kernel_rfl) (by kernel_rfl) (by kernel_rfl) (fun _ _ _ h => h) (Or.inl ⟨by rfl, ?_⟩) (by assumption) ?_
      rotate_left 1
      · (intro w hSw; (try dsimp only at hSw); go_simp; try with_reducible rfl)
      try simp only [Act.put, List.setIfInBounds_toArray, List.set_cons_zero, List.set_cons_succ]
      refine wpAnyH_takeL (i := 1) (v := ?_) rfl (by kernel_rfl) (by kernel_rfl) (by kernel_rfl) (fun _ _ _ h => h) (Or.inl ⟨by rfl, ?_⟩) (by assumption) ?_
      rotate_left 1
      · (intro w hSw; (try dsimp only at hSw); go_simp; try with_reducible rfl)
      try simp only [Act.put, List.setIfInBounds_toArray, List.set_cons_zero, List.set_cons_succ]
      refine wpAnyH_takeL (i := 2) (v := ?_) rfl (by kernel_rfl) (by kernel_rfl) (by kernel_rfl) (fun _ _ _ h => h) (Or.inl ⟨by rfl, ?_⟩) (by assumption) ?_
      rotate_left 1
      · (intro w hSw; (try dsimp only at hSw); go_simp; try with_reducible rfl)
      try simp only [Act.put, List.setIfInBounds_toArray, List.set_cons_zero, List.set_cons_succ]
      refine wpAnyH_takeL (i := 4) (v := ?_) rfl (by kernel_rfl) (by kernel_rfl) (by kernel_rfl) (fun _ _ _ h => h) (Or.inl ⟨by rfl, ?_⟩) (by assumption) ?_
      rotate_left 1
      · (intro w hSw; (try dsimp only at hSw); go_simp; try with_reducible rfl)
      try simp only [Act.put, List.setIfInBounds_toArray, List.set_cons_zero, List.set_cons_succ]
      refine wpAnyH_takeL (i := 5) (v := ?_) rfl (by kernel_rfl) (by kernel_rfl) (by kernel_rfl) (fun _ _ _ h => h) (Or.inl ⟨by rfl, ?_⟩) (by assumption) ?_
      rotate_left 1
      · (intro w hSw; (try dsimp only at hSw); go_simp; try with_reducible rfl)
      try simp only [Act.put, List.setIfInBounds_toArray, List.set_cons_zero, List.set_cons_succ]
      refine wpAnyH_ready (rs := [3]) (by kernel_rfl) (by simp) (AllReadyH.consL (i := 3) rfl (fun K hK => ?_) AllReadyH.nil)
      go_simp
      go_at_call 51
      refine (iunder_any ⟨0, 7, 0, 0⟩ A n cap p hp2 try_ok HDp.out _ SP).mono ?_
      rintro e w3 ⟨v3, rfl, D3, hle⟩
      rw [HU.out] at D3
      have L3 := L1.trans hle
      have SQ3 := hQ.le (L0.trans L3)
      obtain ⟨A3, q3, rfl, S3, hB3⟩ := D3.form (by decide)
      clear hle D3 hB3 SP
      refine hK.out _ _ ((HC5.out _ L3)) (fun hHeld => ?_)
      clear hK K
      try simp only [Act.put, List.setIfInBounds_toArray, List.set_cons_zero, List.set_cons_succ]
      refine wpAnyH_ready (rs := [6]) (by kernel_rfl) (by simp) (AllReadyH.consL (i := 6) rfl (fun K hK => ?_) AllReadyH.nil)
      go_simp
      go_at_call 51
      refine (iunder_any h C k d q hq2 hh HDq.out _ SQ3).mono ?_
      rintro e w4 ⟨v4, rfl, D4, hle⟩
      rw [HV.out] at D4
      have L4 := L3.trans hle
      have S34 := S3.le hle
      obtain ⟨A4, q4, rfl, S4, hB4⟩ := D4.form (by decide)
      have hUV : U.length + V.length ≤ 4194304 := by have := HUL.out; have := HVL.out; omega
      obtain ⟨y0, y1, zy, LB⟩ := boxS2 w4 (.slice A3 U.length q3) (.slice A4 V.length q4) 26
      obtain ⟨WB, hWB⟩ : ∃ WB, w4.alloc (.cells #[.slice A3 U.length q3, .slice A4 V.length q4] 26) = WB := ⟨_, rfl⟩
      rw [hWB] at y0 y1 zy LB
      have L5 := L4.trans LB
      have S35 := S34.le LB
      have S45 := S4.le LB
      clear hle D4 hB4 SQ3 S3
      refine hK.out _ _ ((HC5.out _ L4)) (fun hHeld => ?_)
      clear hK K
      try simp only [Act.put, List.setIfInBounds_toArray, List.set_cons_zero, List.set_cons_succ]
      refine wpAnyH_ready (rs := [7]) (by kernel_rfl) (by simp) (AllReadyH.consL (i := 7) rfl (fun K hK => ?_) AllReadyH.nil)
      go_simp
      refine hK.out _ _ ((HC5.out _ L5)) (fun hHeld => ?_)
      clear hK K
      try simp only [Act.put, List.setIfInBounds_toArray, List.set_cons_zero, List.set_cons_succ]
      refine wpAnyH_ready (rs := [8]) (by kernel_rfl) (by simp) (AllReadyH.consL (i := 8) rfl (fun K hK => ?_) AllReadyH.nil)
      go_simp
      go_at_call 45
      refine (concatL_any A3 A4 U.length q3 V.length q4 _ U V _ S35 S45 hUV y0 y1 zy).mono ?_
      rintro e w6 ⟨v6, rfl, D6, hle⟩
      rw [HPQ.out] at D6
      have L6 := L5.trans hle
      have ST6 := hT.le (L0.trans L6)
      have D60 := D6.mono (L0.trans L5)
      obtain ⟨A6, q6, rfl, S6, hB6⟩ := D6.form (by decide)
      refine hK.out _ _ ((HC5.out _ L6)) (fun hHeld => ?_)
      clear hK K
      try simp only [Act.put, List.setIfInBounds_toArray, List.set_cons_zero, List.set_cons_succ]
      refine wpAnyH_ready (rs := [9]) (by kernel_rfl) (by simp) (AllReadyH.consL (i := 9) rfl (fun K hK => ?_) AllReadyH.nil)
      go_simp
      go_at_call 44
      refine (iifValid_any B A6 m c _ q6 xs PQ hm _ ST6 S6).mono ?_
      rintro e w7 ⟨rfl, hle7⟩
      have L7 := L6.trans hle7
      have D7 := chk_owd (xs := xs) (D60.le hle7)
      refine hK.out _ _ ((HC5.out _ L7)) (fun hHeld => ?_)
      clear hK K
      try simp only [Act.put, List.setIfInBounds_toArray, List.set_cons_zero, List.set_cons_succ]
      refine wpAnyH_takeL (i := 10) (v := ?_) rfl (by kernel_rfl) (by kernel_rfl) (by kernel_rfl) (fun _ _ _ h => h) (Or.inl ⟨by rfl, ?_⟩) (by assumption) ?_
      rotate_left 1
      · (intro w hSw; (try dsimp only at hSw); go_simp; try with_reducible rfl)
      try simp only [Act.put, List.setIfInBounds_toArray, List.set_cons_zero, List.set_cons_succ]
      refine wpAnyH_takeL (i := 11) (v := ?_) rfl (by kernel_rfl) (by kernel_rfl) (by kernel_rfl) (fun _ _ _ h => h) (Or.inl ⟨by rfl, ?_⟩) (by assumption) ?_
      rotate_left 1
      · (intro w hSw; (try dsimp only at hSw); go_simp; try with_reducible rfl)
      try simp only [Act.put, List.setIfInBounds_toArray, List.set_cons_zero, List.set_cons_succ]
      refine wpAnyH_takeL (i := 12) (v := ?_) rfl (by kernel_rfl) (by kernel_rfl) (by kernel_rfl) (fun _ _ _ h => h) (Or.inl ⟨by rfl, ?_⟩) (by assumption) ?_
      rotate_left 1
      · (intro w hSw; (try dsimp only at hSw); go_simp; try with_reducible rfl)
      try simp only [Act.put, List.setIfInBounds_toArray, List.set_cons_zero, List.set_cons_succ]
      refine wpAnyH_takeL (i := 13) (v := ?_) rfl (by kernel_rfl) (by kernel_rfl) (by kernel_rfl) (fun _ _ _ h => h) (Or.inl ⟨by rfl, ?_⟩) (by assumption) ?_
      rotate_left 1
      · (intro w hSw; (try dsimp only at hSw); go_simp; try with_reducible rfl)
      try simp only [Act.put, List.setIfInBounds_toArray, List.set_cons_zero, List.set_cons_succ]
      refine wpAnyH_done (by kernel_rfl) ?_ _
      refine NoPanic.normal ?_
      have HO : Hid (Owd 42 w w7 (chkV xs PQ (.slice A6 PQ.length q6)) (twX xs p h q)) := by show Owd _ _ _ _ _; rw [HX.out]; exact D7
      go_wp2
      exact bodyPost_ret (v := .tuple #[chkV xs PQ (.slice A6 PQ.length q6), .bool (vp xs PQ)]) (by simp [results, Try.results48, go_sem]) rfl ⟨_, ret2 HY.out.symm rfl, HO.out, L0.trans L7⟩
theorem iWithFinally_any (B A C : Option Addr) (m c n cap k d : Nat) (xs : List Cls) (p q : List Lin) (hm : m ≤ 1048576) (w : World) (hT : Sl w B m c xs) (hR : Sl w A n cap p) (hQ : Sl w C k d q) :
    Calls Try.prog 24 #[.agg #[.slice B m c], .slice A n cap, .slice C k d] w fun e w' => ∃ v, e = .returned (.tuple #[v, .bool (twOk xs p ⟨0, 10, 0, 0⟩ q)]) ∧ Owd 42 w w' v (twX xs p ⟨0, 10, 0, 0⟩ q) ∧ Le w w' := by
  go_enter Try.func24, Try.ntmps24
  go_wp2_with fail
  obtain ⟨ct, zt, hleB⟩ := box1 w (.slice B m c) 25
  have L0 := hleB
  clear hleB
  generalize w.alloc (.cells #[.slice B m c] 25) = W at *
  refine (tryWith_any B A C m c n cap k d xs p q ⟨0, 10, 0, 0⟩ hm (lin_ok (k := 10) (a := 0) (by omega) (by omega) (by omega)) _ (hT.le L0) (hR.le L0) (hQ.le L0)).mono ?_
  rintro e w1 ⟨v, rfl, D, hle⟩
  have HO := Lib.hid (D.mono L0)
  go_wp2
  exact bodyPost_ret (v := .tuple #[v, .bool (twOk xs p ⟨0, 10, 0, 0⟩ q)]) (by simp [results, Try.results24, go_sem]) rfl ⟨_, rfl, HO.out, L0.trans hle⟩
theorem iWithExcept_any (B A C : Option Addr) (m c n cap k d : Nat) (xs : List Cls) (p q : List Lin) (a : Int) (ha : -9223372036854775808 ≤ a ∧ a ≤ 9223372036854775807) (hm : m ≤ 1048576) (w : World) (hT : Sl w B m c xs) (hR : Sl w A n cap p) (hQ : Sl w C k d q) :
    Calls Try.prog 31 #[.agg #[.slice B m c], .slice A n cap, .int .i64 a, .slice C k d] w fun e w' => ∃ v, e = .returned (.tuple #[v, .bool (twOk xs p ⟨0, 8, a, 0⟩ q)]) ∧ Owd 42 w w' v (twX xs p ⟨0, 8, a, 0⟩ q) ∧ Le w w' := by
  go_enter Try.func31, Try.ntmps31
  go_wp2_with fail
  obtain ⟨ct, zt, hleB⟩ := box1 w (.slice B m c) 25
  have L0 := hleB
  clear hleB
  generalize w.alloc (.cells #[.slice B m c] 25) = W at *
  refine (tryWith_any B A C m c n cap k d xs p q ⟨0, 8, a, 0⟩ hm (lin_ok ha (by omega) (by omega)) _ (hT.le L0) (hR.le L0) (hQ.le L0)).mono ?_
  rintro e w1 ⟨v, rfl, D, hle⟩
  have HO := Lib.hid (D.mono L0)
  go_wp2
  exact bodyPost_ret (v := .tuple #[v, .bool (twOk xs p ⟨0, 8, a, 0⟩ q)]) (by simp [results, Try.results31, go_sem]) rfl ⟨_, rfl, HO.out, L0.trans hle⟩
set_option maxHeartbeats 1000000 in
set_option maxRecDepth 100000 in
theorem iInLoopP_any (B A : Option Addr) (m c n cap : Nat) (xs : List Cls) (p : List Lin) (a : Int) (hm : m ≤ 1048576) (ha : -9223372036854775808 ≤ a ∧ a ≤ 9223372036854775807) (w : World) (hT : Sl w B m c xs) (hR : Sl w A n cap p) :
    Calls Try.prog 28 #[.agg #[.slice B m c], .slice A n cap, .int .i64 a] w fun e w' => ∃ v, e = .returned (.tuple #[v, .bool (ilOk xs p a)]) ∧ Owd 42 w w' v (ilX xs p a) ∧ Le w w' := by
  have HX : Hid (ilX xs p a = cond (vp xs p) (chkX xs (undL ⟨0, 12, a, 0⟩ p)) []) := rfl
  have HY : Hid (ilOk xs p a = (vp xs p && vp xs (undL ⟨0, 12, a, 0⟩ p))) := rfl
  go_enter Try.func28, Try.ntmps28
  go_wp2_with fail
  obtain ⟨ct, zt, hleB⟩ := box1 w (.slice B m c) 25
  have L0 := hleB
  clear hleB
  generalize w.alloc (.cells #[.slice B m c] 25) = W at *
  refine (pValidProgram_any B A m c n cap xs p hm _ (hT.le L0) (hR.le L0)).mono ?_
  rintro e w1 ⟨rfl, hle⟩
  replace ct := (hle.cell zt).trans ct
  replace zt := Nat.lt_of_lt_of_le zt hle.size
  replace L0 := L0.trans hle
  clear hle
  cases h : vp xs p
  · rw [h] at HX HY
    have HO : Hid (Owd 42 w w1 (.slice none 0 0) (ilX xs p a)) := by show Owd _ _ _ _ _; rw [HX.out]; exact Owd.nil _ _ _
    go_wp2
    exact bodyPost_ret (v := .tuple #[.slice none 0 0, .bool false]) (by simp [results, Try.results28, go_sem]) rfl ⟨_, ret2 HY.out.symm rfl, HO.out, L0⟩
  · rw [h] at HX HY
    have HD := Lib.hid (good_deep h)
    have hp := (goodP_of h).len
    go_wp2_with fail
    have hnp := hR.len
    have hnp2 : p.length ≤ 1048576 := by omega
    clear hnp
    have ct0 : w1.drew.cell? ⟨w.heap.size, 0, none⟩ = some (.slice B m c) := ct
    have L1 := L0.drew
    have SP := hR.le L1
    have hok12 : Enc.ok (⟨0, 12, a, 0⟩ : Lin) := lin_ok ha (by omega) (by omega)
    obtain ⟨U, HU⟩ : ∃ U, Hid (undL ⟨0, 12, a, 0⟩ p = U) := ⟨_, rfl⟩
    rw [HU.out] at HX HY
    refine wp_region_noPanic ?_
    refine wp_region_held_drew (S := fun w' => w'.cell? ⟨w.heap.size, 0, none⟩ = some (.slice B m c)) (by kernel_rfl) ct0 (fun hHeld => ?_)
    refine wpAnyH_takeL (i := 0) (v := ?_) rfl (by kernel_rfl) (by kernel_rfl) (by kernel_rfl) (fun _ _ _ h => h) (Or.inl ⟨by rfl, ?_⟩) (by assumption) ?_
    rotate_left 1
    · (intro w hSw; (try dsimp only at hSw); go_simp; try with_reducible rfl)
    try simp only [Act.put, List.setIfInBounds_toArray, List.set_cons_zero, List.set_cons_succ]
    refine wpAnyH_takeL (i := 1) (v := ?_) rfl (by kernel_rfl) (by kernel_rfl) (by kernel_rfl) (fun _ _ _ h => h) (Or.inl ⟨by rfl, ?_⟩) (by assumption) ?_
    rotate_left 1
    · (intro w hSw; (try dsimp only at hSw); go_simp; try with_reducible rfl)
    try simp only [Act.put, List.setIfInBounds_toArray, List.set_cons_zero, List.set_cons_succ]
    refine wpAnyH_takeL (i := 2) (v := ?_) rfl (by kernel_rfl) (by kernel_rfl) (by kernel_rfl) (fun _ _ _ h => h) (Or.inl ⟨by rfl, ?_⟩) (by assumption) ?_
    rotate_left 1
    · (intro w hSw; (try dsimp only at hSw); go_simp; try with_reducible rfl)
    try simp only [Act.put, List.setIfInBounds_toArray, List.set_cons_zero, List.set_cons_succ]
    refine wpAnyH_takeL (i := 3) (v := ?_) rfl (by kernel_rfl) (by kernel_rfl) (by kernel_rfl) (fun _ _ _ h => h) (Or.inl ⟨by rfl, ?_⟩) (by assumption) ?_
    rotate_left 1
    · (intro w hSw; (try dsimp only at hSw); go_simp; try with_reducible rfl)
    try simp only [Act.put, List.setIfInBounds_toArray, List.set_cons_zero, List.set_cons_succ]
    refine wpAnyH_ready (rs := [4]) (by kernel_rfl) (by simp) (AllReadyH.consL (i := 4) rfl (fun K hK => ?_) AllReadyH.nil)
    go_simp
    go_at_call 51
    refine (iunder_any ⟨0, 12, a, 0⟩ A n cap p hnp2 hok12 HD.out _ SP).mono ?_
    rintro e w3 ⟨v3, rfl, D3, hle⟩
    rw [HU.out] at D3
    have ctC := (hle.cell (show w.heap.size < w1.drew.heap.size from zt)).trans ct0
    have L3 := L1.trans hle
    have ztC := Nat.lt_of_lt_of_le (show w.heap.size < w1.drew.heap.size from zt) hle.size
    have STC := hT.le L3
    obtain ⟨A3, q3, rfl, S3, hB3⟩ := D3.form (by decide)
    refine hK.out _ _ (ctC) (fun hHeld => ?_)
    clear hK K
    try simp only [Act.put, List.setIfInBounds_toArray, List.set_cons_zero, List.set_cons_succ]
    refine wpAnyH_ready (rs := [5]) (by kernel_rfl) (by simp) (AllReadyH.consL (i := 5) rfl (fun K hK => ?_) AllReadyH.nil)
    go_simp
    go_at_call 44
    refine (iifValid_any B A3 m c _ q3 xs U hm _ STC S3).mono ?_
    rintro e w4 ⟨rfl, hle4⟩
    have ctD := (hle4.cell ztC).trans ctC
    have L4 := L3.trans hle4
    have D4 := chk_owd (xs := xs) ((D3.mono L1).le hle4)
    refine hK.out _ _ (ctD) (fun hHeld => ?_)
    clear hK K
    try simp only [Act.put, List.setIfInBounds_toArray, List.set_cons_zero, List.set_cons_succ]
    refine wpAnyH_takeL (i := 6) (v := ?_) rfl (by kernel_rfl) (by kernel_rfl) (by kernel_rfl) (fun _ _ _ h => h) (Or.inl ⟨by rfl, ?_⟩) (by assumption) ?_
    rotate_left 1
    · (intro w hSw; (try dsimp only at hSw); go_simp; try with_reducible rfl)
    try simp only [Act.put, List.setIfInBounds_toArray, List.set_cons_zero, List.set_cons_succ]
    refine wpAnyH_takeL (i := 7) (v := ?_) rfl (by kernel_rfl) (by kernel_rfl) (by kernel_rfl) (fun _ _ _ h => h) (Or.inl ⟨by rfl, ?_⟩) (by assumption) ?_
    rotate_left 1
    · (intro w hSw; (try dsimp only at hSw); go_simp; try with_reducible rfl)
    try simp only [Act.put, List.setIfInBounds_toArray, List.set_cons_zero, List.set_cons_succ]
    refine wpAnyH_takeL (i := 8) (v := ?_) rfl (by kernel_rfl) (by kernel_rfl) (by kernel_rfl) (fun _ _ _ h => h) (Or.inl ⟨by rfl, ?_⟩) (by assumption) ?_
    rotate_left 1
    · (intro w hSw; (try dsimp only at hSw); go_simp; try with_reducible rfl)
    try simp only [Act.put, List.setIfInBounds_toArray, List.set_cons_zero, List.set_cons_succ]
    refine wpAnyH_takeL (i := 9) (v := ?_) rfl (by kernel_rfl) (by kernel_rfl) (by kernel_rfl) (fun _ _ _ h => h) (Or.inl ⟨by rfl, ?_⟩) (by assumption) ?_
    rotate_left 1
    · (intro w hSw; (try dsimp only at hSw); go_simp; try with_reducible rfl)
    try simp only [Act.put, List.setIfInBounds_toArray, List.set_cons_zero, List.set_cons_succ]
    refine wpAnyH_done (by kernel_rfl) ?_ _
    refine NoPanic.normal ?_
    have HO : Hid (Owd 42 w w4 (chkV xs U (.slice A3 U.length q3)) (ilX xs p a)) := by show Owd _ _ _ _ _; rw [HX.out]; exact D4
    go_wp2
    exact bodyPost_ret (v := .tuple #[chkV xs U (.slice A3 U.length q3), .bool (vp xs U)]) (by simp [results, Try.results28, go_sem]) rfl ⟨_, ret2 HY.out.symm rfl, HO.out, L4⟩
end

section
def indK (p : List Lin) (k : Nat) : List Lin := (p.take k).map deep ++ p.drop k
theorem indK_len {p : List Lin} {k : Nat} : (indK p k).length = p.length := by
  unfold indK; rw [List.length_append, List.length_map, ← List.length_append, List.take_append_drop]
theorem indK_at {p : List Lin} {k : Nat} (h : k < p.length) : (indK p k)[k]'(by rw [indK_len]; exact h) = p[k] := by
  unfold indK
  rw [List.getElem_append_right (by rw [List.length_map, List.length_take]; omega)]
  simp [Nat.min_eq_left (Nat.le_of_lt h)]
theorem indK_set {p : List Lin} {k : Nat} (h : k < p.length) : (indK p k).set k (deep p[k]) = indK p (k + 1) := by
  unfold indK
  have hl : ((p.take k).map deep).length = k := by rw [List.length_map, List.length_take]; omega
  rw [List.set_append_right _ _ (by omega), hl, Nat.sub_self, List.drop_eq_getElem_cons h, List.set_cons_zero, List.take_succ_eq_append_getElem h, List.map_append, List.append_assoc]; rfl
theorem indK_0 (p : List Lin) : indK p 0 = p := by unfold indK; simp
theorem indK_end (p : List Lin) : indK p p.length = p.map deep := by unfold indK; simp
theorem own_head {w : World} {base e size m : Nat} {v : Value} {xs : List Value} (h : w.ownsRow base e size v m xs) (hm : 0 < m) : ∃ g c, v = .slice (some ⟨g, 0, none⟩) m c := by
  rcases h.2 with ⟨_, h0⟩ | ⟨g, c, _, h, _⟩
  · omega
  · exact ⟨g, c, h⟩
set_option maxHeartbeats 2000000 in
set_option maxRecDepth 100000 in
theorem indent_any (A : Option Addr) (n cap : Nat) (p : List Lin) (hsm : p.length ≤ 1048576) (h0 : 0 < p.length) (hd : ∀ x ∈ p, x.depth ≤ 5) (w : World) (hR : Sl w A n cap p) :
    Calls Try.prog 74 #[.slice A n cap] w fun e w' => ∃ v, e = .returned v ∧ Owd 42 w w' v (p.map deep) ∧ Le w w' := by
  obtain rfl := hR.len
  obtain ⟨i0, hq, hz0, hz1, hz2⟩ := info_parts infoLn
  have HOK : Hid (∀ x ∈ p.map deep, Enc.ok x) := fun x hx => by
    obtain ⟨y, hy, rfl⟩ := List.mem_map.1 hx
    exact deep_ok (hR.ok y hy) (hd y hy)
  have HD := Lib.hid hd
  have HRO := Lib.hid hR.ok
  clear hd
  go_enter Try.func74, Try.ntmps74
  have OE : (w.alloc (.cells #[] 42)).ownsRow w.heap.size 42 4 (.slice (some ⟨w.heap.size, 0, none⟩) 0 0) 0 [] := own_empty (Nat.le_refl _) rfl
  have L0 := Le.new w (.cells #[] 42)
  go_wp2_with (at_builtin; refine wpList_append_sl rfl _ _ 26 rfl w.heap.size 42 i0 _ 32 Try.underlying26 hq hz0 hz1 hz2 rfl (.slice (some ⟨w.heap.size, 0, none⟩) 0 0) 0 ([] : List Lin) rfl OE A p.length cap p rfl (hR.le L0) (by unfold maxLen; omega) (by omega) L0.size ?_; intro v1 w3 OA hgA _; have LA := L0.grown hgA (fun k hk => (OE.lt k hk).1); rw [Nat.zero_add, List.nil_append] at OA; obtain ⟨g, c3, rfl⟩ := own_head OA h0)
  clear OE L0 hgA
  have hgl := (OA.lt g rfl).1
  have O1 : w3.ownsRow w.heap.size 42 4 (.slice (some ⟨g, 0, none⟩) p.length c3) p.length ((indK p 0).flatMap Enc.cells) := by rw [indK_0]; exact OA
  clear OA
  go_loopw [4] (fun q wr => ∃ k : Nat, k ≤ p.length ∧ q = .int .i64 k ∧ wr.ownsRow w.heap.size 42 4 (.slice (some ⟨g, 0, none⟩) p.length c3) p.length ((indK p k).flatMap Enc.cells) ∧ Le w wr) (fun q _ => p.length - (intOf q).toNat)
  case atStart => exact ⟨0, Nat.zero_le _, rfl, O1, LA⟩
  case round =>
    obtain ⟨k, hk, rfl, O2, L2⟩ := hrel
    clear O1 LA
    by_cases hlt : k < p.length
    · have hik := indK_len (p := p) (k := k)
      have hdk := HD.out _ (List.getElem_mem hlt)
      have hlo := (HRO.out _ (List.getElem_mem hlt)).1
      have c0 : wr.cell? ⟨g, k * 4, none⟩ = some (.int .i64 p[k].depth) := by
        rw [O2.cellAt (k * 4) (by omega), show ((indK p k).flatMap (Enc.cells (α := Lin)))[k * 4]? = _ from by simpa [Enc.size] using flat_at (indK p k) k (by omega) 0 (by decide), indK_at hlt]; rfl
      have f0 := O2.frozenAt (k * 4)
      have HS : Hid ((wr.setCell ⟨g, k * 4, none⟩ (.int .i64 (p[k].depth + 1))).ownsRow w.heap.size 42 4 (.slice (some ⟨g, 0, none⟩) p.length c3) p.length ((indK p (k + 1)).flatMap Enc.cells)) := by
        show World.ownsRow _ _ _ _ _ _ _
        have := (O2.stored (k * 4) (.int .i64 (p[k].depth + 1))).1
        rw [flat_lin_depth _ k (by omega)] at this
        simp only [indK_at hlt] at this
        rw [← indK_set hlt]
        exact this
      have hw1 : IntKind.i64.wrap (p[k].depth + 1) = p[k].depth + 1 := IntWalk.i64_in _ (by omega)
      generalize p[k].depth = vd at *
      go_wp2
      go_roundw
      case rel => exact ⟨k + 1, by omega, by go_num, HS.out, L2.setCell hgl _⟩
      case measure => simp [intOf]; omega
    · obtain rfl : k = p.length := by omega
      have HF : Hid (Owd 42 w wr (.slice (some ⟨g, 0, none⟩) p.length c3) (p.map deep)) := by
        rw [indK_end] at O2
        exact ⟨by rw [List.length_map]; exact O2, HOK.out⟩
      go_wp2
      go_ret
      exact ⟨_, rfl, HF.out, L2⟩
theorem zero_ok : Enc.ok (⟨0, 0, 0, 0⟩ : Lin) := ⟨by decide, by decide, by decide, by decide, by decide, by decide, by decide, by decide⟩
theorem box4c (w : World) (a b c d : Value) (T : TypeId) (W' : World) (h : Le (w.alloc (.cells #[a, b, c, d] T)) W') : W'.cell? ⟨w.heap.size, 0, none⟩ = some a ∧ W'.cell? ⟨w.heap.size, 1, none⟩ = some b ∧ W'.cell? ⟨w.heap.size, 2, none⟩ = some c ∧ W'.cell? ⟨w.heap.size, 3, none⟩ = some d := by
  refine ⟨?_, ?_, ?_, ?_⟩ <;> (rw [h.cell (by simp), World.cell?_alloc_at _ _ _ _ rfl]; rfl)
theorem own_one (w : World) (h : Lin) {b : Nat} (hb : b ≤ w.heap.size) : (w.alloc (.cells #[.int .i64 h.depth, .int .i64 h.kind, .int .i64 h.a, .int .i64 h.b] 42)).ownsRow b 42 4 (.slice (some ⟨w.heap.size, 0, none⟩) 1 1) 1 ([h].flatMap Enc.cells) := by
  have := World.ownsRow_lit (base := b) (e := 42) (size := 4) w #[.int .i64 h.depth, .int .i64 h.kind, .int .i64 h.a, .int .i64 h.b] 1 hb (by unfold maxLen; omega) (by simp)
  simpa [Enc.cells] using this
set_option maxHeartbeats 2000000 in
set_option maxRecDepth 100000 in
theorem sunder_any (h : Lin) (A : Option Addr) (n cap : Nat) (p : List Lin) (hsm : p.length ≤ 1048000) (hh : Enc.ok h) (hd : ∀ x ∈ p, x.depth ≤ 5) (w : World) (hR : Sl w A n cap p) :
    Calls Try.prog 49 #[.agg #[.int .i64 h.depth, .int .i64 h.kind, .int .i64 h.a, .int .i64 h.b], .slice A n cap] w fun e w' => ∃ v, e = .returned v ∧ Owd 42 w w' v (undL h p) ∧ Le w w' := by
  obtain rfl := hR.len
  obtain ⟨i0, hq, hz0, hz1, hz2⟩ := info_parts infoLn
  have HOK := Lib.hid (undL_ok hh hR.ok hd)
  have HD := Lib.hid hd
  clear hd
  have HCE : Hid (∀ W' : World, Le (w.alloc (.cells #[.int .i64 h.depth, .int .i64 h.kind, .int .i64 h.a, .int .i64 h.b] 42)) W' → W'.cell? ⟨w.heap.size, 0, none⟩ = some (.int .i64 h.depth) ∧ W'.cell? ⟨w.heap.size, 1, none⟩ = some (.int .i64 h.kind) ∧ W'.cell? ⟨w.heap.size, 2, none⟩ = some (.int .i64 h.a) ∧ W'.cell? ⟨w.heap.size, 3, none⟩ = some (.int .i64 h.b)) := fun W' h' => box4c w _ _ _ _ _ W' h'
  have L00 := Le.new w (.cells #[.int .i64 h.depth, .int .i64 h.kind, .int .i64 h.a, .int .i64 h.b] 42)
  have hs0 : w.heap.size ≤ (w.alloc (.cells #[.int .i64 h.depth, .int .i64 h.kind, .int .i64 h.a, .int .i64 h.b] 42)).heap.size := L00.size
  have hR0 := hR.le L00
  go_enter Try.func49, Try.ntmps49
  generalize hW0 : w.alloc (.cells #[.int .i64 h.depth, .int .i64 h.kind, .int .i64 h.a, .int .i64 h.b] 42) = W0 at *
  have HLZ := Lib.hid (Le.new W0 (.cells #[.int .i64 0, .int .i64 0, .int .i64 0, .int .i64 0] 42))
  have HSA : Hid (Sl (W0.alloc (.cells #[.int .i64 0, .int .i64 0, .int .i64 0, .int .i64 0] 42)) (some ⟨W0.heap.size, 0, none⟩) 1 1 [(⟨0, 0, 0, 0⟩ : Lin)]) := sl_one (⟨0, 0, 0, 0⟩ : Lin) rfl zero_ok rfl
  go_upto_if 7 with fail
  go_cut [1] from 8 (fun s1 W1 => ∃ (A1 : Option Addr) (k1 : Nat) (P : List Lin), s1 = .slice A1 P.length k1 ∧ Sl W1 A1 P.length k1 P ∧ 0 < P.length ∧ P.length ≤ 1048000 ∧ (∀ x ∈ P, x.depth ≤ 5) ∧ undL h p = [h] ++ P.map deep ∧ Le W0 W1)
  case first =>
    by_cases hp0 : p.length = 0
    · have hp0b : ((p.length : Int) == 0) = true := by (rw [beq_iff_eq]; omega)
      have HU : Hid (undL h p = [h] ++ [(⟨0, 0, 0, 0⟩ : Lin)].map deep) := by
        show _ = _
        rw [show p = [] from List.eq_nil_of_length_eq_zero hp0]; rfl
      clear hp0
      go_wp2_with fail
      go_meet
      exact ⟨_, _, [(⟨0, 0, 0, 0⟩ : Lin)], rfl, HSA.out, by decide, by decide, by decide, HU.out, HLZ.out⟩
    · have hp0b : ((p.length : Int) == 0) = false := bf (by omega)
      have HU : Hid (undL h p = [h] ++ p.map deep) := undL_some (by omega)
      go_wp2_with fail
      go_meet
      exact ⟨_, _, p, rfl, hR0, by omega, hsm, HD.out, HU.out, Le.refl _⟩
  case rest =>
    obtain ⟨A1, k1, P, rfl, SA, hP0, hPL, hPD, hU, LW⟩ := hcut
    generalize wc = W1 at *
    have HPD := Lib.hid hPD
    have HU := Lib.hid hU
    clear hPD hU hR hR0 HSA HLZ HD
    have h63 : 1 + P.length ≤ maxLen := by unfold maxLen; omega
    have hby : (1 + P.length) * 32 ≤ 140737488355328 := by omega
    have HPML : Hid ((P.map deep).length = P.length) := List.length_map ..
    have HF : Hid (∀ (v : Value) (wx : World), wx.ownsRow W0.heap.size 42 4 v (1 + P.length) (([h] ++ P.map deep).flatMap Enc.cells) → Owd 42 w wx v (undL h p)) := fun v wx hx => ⟨own_mono (by rw [HU.out, show ([h] ++ P.map deep).length = 1 + P.length by simp; omega]; exact hx) hs0, HOK.out⟩
    have L1 : Le W0 W1.drew := LW.drew
    have LB1 := Le.new W1 (.cells #[.int .i64 h.depth, .int .i64 h.kind, .int .i64 h.a, .int .i64 h.b] 42)
    have OB := own_one W1 h (b := W0.heap.size) LW.size
    obtain ⟨WB, hWB⟩ : ∃ WB, W1.alloc (.cells #[.int .i64 h.depth, .int .i64 h.kind, .int .i64 h.a, .int .i64 h.b] 42) = WB := ⟨_, rfl⟩
    rw [hWB] at OB LB1
    have LB2 : Le W1.drew WB.drew := by rw [← hWB]; exact Le.new W1.drew _
    have OB2 := OB.drew
    have SA1 := SA.le (Le.refl W1).drew
    have SB := SA1.le LB2
    have LWB := L1.trans LB2
    clear OB LB1 SA
    go_wp2_with fail
    refine wp_region_noPanic ?_
    refine wp_region_held_drew (S := fun w' => w'.cell? ⟨w.heap.size, 0, none⟩ = some (.int .i64 h.depth) ∧ w'.cell? ⟨w.heap.size, 1, none⟩ = some (.int .i64 h.kind) ∧ w'.cell? ⟨w.heap.size, 2, none⟩ = some (.int .i64 h.a) ∧ w'.cell? ⟨w.heap.size, 3, none⟩ = some (.int .i64 h.b)) (by kernel_rfl) (HCE.out _ L1) (fun hHeld => ?_)
    refine wpAnyH_takeL (i := 0) (v := ?_) rfl (by kernel_rfl) (by kernel_rfl) (by kernel_rfl) (fun _ _ _ h => h) (Or.inl ⟨by rfl, ?_⟩) (by assumption) ?_
    rotate_left 1
    · (intro w hSw; (try dsimp only at hSw); go_simp; try with_reducible rfl)
    try simp only [Act.put, List.setIfInBounds_toArray, List.set_cons_zero, List.set_cons_succ]
    refine wpAnyH_takeL (i := 2) (v := ?_) rfl (by kernel_rfl) (by kernel_rfl) (by kernel_rfl) (fun _ _ _ h => h) (Or.inl ⟨by rfl, ?_⟩) (by assumption) ?_
    rotate_left 1
    · (intro w hSw; (try dsimp only at hSw); go_simp; try with_reducible rfl)
    try simp only [Act.put, List.setIfInBounds_toArray, List.set_cons_zero, List.set_cons_succ]
    refine wpAnyH_ready (rs := [1, 3]) (by kernel_rfl) (by simp) (AllReadyH.consL (i := 1) rfl (fun K hK => ?_) (AllReadyH.consL (i := 3) rfl (fun K hK => ?_) AllReadyH.nil))
    · go_simp
      refine hK.out _ _ ((HCE.out _ LWB)) (fun hHeld => ?_)
      clear hK K
      try simp only [Act.put, List.setIfInBounds_toArray, List.set_cons_zero, List.set_cons_succ]
      refine wpAnyH_ready (rs := [3]) (by kernel_rfl) (by simp) (AllReadyH.consL (i := 3) rfl (fun K hK => ?_) AllReadyH.nil)
      go_simp
      go_at_call 74
      refine (indent_any A1 P.length k1 P (by omega) hP0 HPD.out _ SB).mono ?_
      rintro e w3 ⟨v3, rfl, D3, hle⟩
      have L3 := LWB.trans hle
      have O3 := own_le OB2 hle
      obtain ⟨A3, q3, rfl, S3, hB3⟩ := D3.form (by decide)
      rw [HPML.out] at S3 ⊢
      refine hK.out _ _ ((HCE.out _ L3)) (fun hHeld => ?_)
      clear hK K
      try simp only [Act.put, List.setIfInBounds_toArray, List.set_cons_zero, List.set_cons_succ]
      refine wpAnyH_ready (rs := [4]) (by kernel_rfl) (by simp) (AllReadyH.consL (i := 4) rfl (fun K hK => ?_) AllReadyH.nil)
      refine step_append_sl rfl (.tmp 11) (.tmp 13) 26 rfl W0.heap.size 42 i0 _ 32 Try.underlying26 hq hz0 hz1 hz2 rfl (.slice (some ⟨W1.heap.size, 0, none⟩) 1 1) 1 [h] rfl O3 A3 P.length q3 (P.map deep) rfl S3 h63 hby L3.size ?_
      intro v4 w4 O4 hg4 _
      have L4 := L3.grown hg4 (fun k hk => (O3.lt k hk).1)
      refine hK.out _ _ ((HCE.out _ L4)) (fun hHeld => ?_)
      clear hK K
      try simp only [Act.put, List.setIfInBounds_toArray, List.set_cons_zero, List.set_cons_succ]
      refine wpAnyH_takeL (i := 5) (v := ?_) rfl (by kernel_rfl) (by kernel_rfl) (by kernel_rfl) (fun _ _ _ h => h) (Or.inl ⟨by rfl, ?_⟩) (by assumption) ?_
      rotate_left 1
      · (intro w hSw; (try dsimp only at hSw); go_simp; try with_reducible rfl)
      try simp only [Act.put, List.setIfInBounds_toArray, List.set_cons_zero, List.set_cons_succ]
      refine wpAnyH_done (by kernel_rfl) ?_ _
      refine NoPanic.normal ?_
      go_wp2
      go_ret
      exact ⟨_, rfl, HF.out _ _ O4, L00.trans L4⟩
    · go_simp
      go_at_call 74
      refine (indent_any A1 P.length k1 P (by omega) hP0 HPD.out _ SA1).mono ?_
      rintro e w3 ⟨v3, rfl, D3, hle⟩
      have L3 := L1.trans hle
      obtain ⟨A3, q3, rfl, S3, hB3⟩ := D3.form (by decide)
      rw [HPML.out] at S3 ⊢
      have LC1 := Le.new w3 (.cells #[.int .i64 h.depth, .int .i64 h.kind, .int .i64 h.a, .int .i64 h.b] 42)
      have OC := own_one w3 h (b := W0.heap.size) L3.size
      obtain ⟨WC, hWC⟩ : ∃ WC, w3.alloc (.cells #[.int .i64 h.depth, .int .i64 h.kind, .int .i64 h.a, .int .i64 h.b] 42) = WC := ⟨_, rfl⟩
      rw [hWC] at OC LC1
      have L4 := L3.trans LC1
      have S4 := S3.le LC1
      refine hK.out _ _ ((HCE.out _ L3)) (fun hHeld => ?_)
      clear hK K
      try simp only [Act.put, List.setIfInBounds_toArray, List.set_cons_zero, List.set_cons_succ]
      refine wpAnyH_ready (rs := [1]) (by kernel_rfl) (by simp) (AllReadyH.consL (i := 1) rfl (fun K hK => ?_) AllReadyH.nil)
      go_simp
      refine hK.out _ _ ((HCE.out _ L4)) (fun hHeld => ?_)
      clear hK K
      try simp only [Act.put, List.setIfInBounds_toArray, List.set_cons_zero, List.set_cons_succ]
      refine wpAnyH_ready (rs := [4]) (by kernel_rfl) (by simp) (AllReadyH.consL (i := 4) rfl (fun K hK => ?_) AllReadyH.nil)
      refine step_append_sl rfl (.tmp 11) (.tmp 13) 26 rfl W0.heap.size 42 i0 _ 32 Try.underlying26 hq hz0 hz1 hz2 rfl (.slice (some ⟨w3.heap.size, 0, none⟩) 1 1) 1 [h] rfl OC A3 P.length q3 (P.map deep) rfl S4 h63 hby L4.size ?_
      intro v4 w4 O4 hg4 _
      have L5 := L4.grown hg4 (fun k hk => (OC.lt k hk).1)
      refine hK.out _ _ ((HCE.out _ L5)) (fun hHeld => ?_)
      clear hK K
      try simp only [Act.put, List.setIfInBounds_toArray, List.set_cons_zero, List.set_cons_succ]
      refine wpAnyH_takeL (i := 5) (v := ?_) rfl (by kernel_rfl) (by kernel_rfl) (by kernel_rfl) (fun _ _ _ h => h) (Or.inl ⟨by rfl, ?_⟩) (by assumption) ?_
      rotate_left 1
      · (intro w hSw; (try dsimp only at hSw); go_simp; try with_reducible rfl)
      try simp only [Act.put, List.setIfInBounds_toArray, List.set_cons_zero, List.set_cons_succ]
      refine wpAnyH_done (by kernel_rfl) ?_ _
      refine NoPanic.normal ?_
      go_wp2
      go_ret
      exact ⟨_, rfl, HF.out _ _ O4, L00.trans L5⟩
end
end Go.Proofs.Ytlepgfccnfcagaa
