/- programs: held against the rules: ifValid, checkedProgram; ThenProgram of both -/
import Derived.Test.YtjcellhpmooifaaPhR
import Derived.Test.YtjcellhpmooifaaCcL0
import Derived.Test.YtjcellhpmooifaaRg
namespace Go.Proofs.Ytjcellhpmooifaa
open Go.RowKit
def chkV (xs : List Cls) (p : List Lin) (v : Value) : Value := cond (vp xs p) v (.slice none 0 0)
theorem chk_owd {xs : List Cls} {p : List Lin} {w0 w : World} {v : Value} (h : Owd 67 w0 w v p) : Owd 67 w0 w (chkV xs p v) (chkX xs p) := by
  unfold chkV chkX
  cases vp xs p
  · exact Owd.nil _ _ _
  · exact h
theorem chkX_len (xs : List Cls) (p : List Lin) : (chkX xs p).length ≤ 24 := by
  unfold chkX
  cases h : vp xs p
  · simp
  · exact (goodP_of h).len
theorem ret2 {a b : Bool} {v u : Value} (h : a = b) (h2 : v = u) : Ending.returned (.tuple #[v, .bool a]) = .returned (.tuple #[u, .bool b]) := by rw [h, h2]
theorem iifValid_any (B A : Option Addr) (m c n cap : Nat) (xs : List Cls) (p : List Lin) (hm : m ≤ 1048576) (w : World) (hT : Sl w B m c xs) (hR : Sl w A n cap p) :
    Calls Try.prog 68 #[.agg #[.slice B m c], .slice A n cap] w fun e w' => e = .returned (.tuple #[chkV xs p (.slice A n cap), .bool (vp xs p)]) ∧ Le w w' := by
  have HV : Hid (chkV xs p (.slice A n cap) = cond (vp xs p) (.slice A n cap) (.slice none 0 0)) := rfl
  go_enter Try.func68, Try.ntmps68
  go_wp2_with fail
  obtain ⟨ct, zt, hleB⟩ := box1 w (.slice B m c) 31
  have L0 := hleB
  clear hleB
  generalize w.alloc (.cells #[.slice B m c] 31) = W at *
  refine (pValidProgram_any B A m c n cap xs p hm _ (hT.le L0) (hR.le L0)).mono ?_
  rintro e w1 ⟨rfl, hle⟩
  cases h : vp xs p
  · rw [h] at HV
    go_wp2
    exact bodyPost_ret (v := .tuple #[.slice none 0 0, .bool false]) (by simp [results, Try.results68, go_sem]) rfl ⟨ret2 h.symm HV.out.symm, L0.trans hle⟩
  · rw [h] at HV
    go_wp2
    exact bodyPost_ret (v := .tuple #[.slice A n cap, .bool true]) (by simp [results, Try.results68, go_sem]) rfl ⟨ret2 h.symm HV.out.symm, L0.trans hle⟩
theorem scheckedProgram_any (B A : Option Addr) (m c n cap : Nat) (xs : List Cls) (p : List Lin) (hsm : p.length ≤ 1048576) (w : World) (hT : Sl w B m c xs) (hR : Sl w A n cap p) :
    Calls Try.prog 67 #[.agg #[.slice B m c], .slice A n cap] w fun e w' => e = .returned (.tuple #[chkV xs p (.slice A n cap), .bool (vp xs p)]) ∧ Le w w' := by
  have HV : Hid (chkV xs p (.slice A n cap) = cond (vp xs p) (.slice A n cap) (.slice none 0 0)) := rfl
  go_enter Try.func67, Try.ntmps67
  go_wp2_with fail
  obtain ⟨ct, zt, hleB⟩ := box1 w (.slice B m c) 31
  have L0 := hleB
  clear hleB
  generalize w.alloc (.cells #[.slice B m c] 31) = W at *
  refine (svalidProgram_any B A m c n cap xs p hsm _ (hT.le L0) (hR.le L0)).mono ?_
  rintro e w1 ⟨rfl, hle⟩
  cases h : vp xs p
  · rw [h] at HV
    go_wp2
    exact bodyPost_ret (v := .tuple #[.slice none 0 0, .bool false]) (by simp [results, Try.results67, go_sem]) rfl ⟨ret2 h.symm HV.out.symm, L0.trans hle⟩
  · rw [h] at HV
    go_wp2
    exact bodyPost_ret (v := .tuple #[.slice A n cap, .bool true]) (by simp [results, Try.results67, go_sem]) rfl ⟨ret2 h.symm HV.out.symm, L0.trans hle⟩
theorem sboth_any (B A C : Option Addr) (m c n cap k d : Nat) (xs : List Cls) (p q : List Lin) (hsm : p.length ≤ 1048576) (hsq : q.length ≤ 1048576) (w : World) (hT : Sl w B m c xs) (hR : Sl w A n cap p) (hQ : Sl w C k d q) :
    Calls Try.prog 66 #[.agg #[.slice B m c], .slice A n cap, .slice C k d] w fun e w' => e = .returned (.bool (vp xs p && vp xs q)) ∧ Le w w' := by
  have HV : Hid ((vp xs p && vp xs q) = (vp xs p && vp xs q)) := rfl
  go_enter Try.func66, Try.ntmps66
  go_wp2_with fail
  obtain ⟨ct, zt, hleB⟩ := box1 w (.slice B m c) 31
  have L0 := hleB
  clear hleB
  generalize w.alloc (.cells #[.slice B m c] 31) = W at *
  refine (svalidProgram_any B A m c n cap xs p hsm _ (hT.le L0) (hR.le L0)).mono ?_
  rintro e w1 ⟨rfl, hle⟩
  replace ct := (hle.cell zt).trans ct
  replace zt := Nat.lt_of_lt_of_le zt hle.size
  replace L0 := L0.trans hle
  cases h : vp xs p
  · go_wp2
    go_ret
    exact ⟨ret_bool (by rw [h]; rfl), L0⟩
  · go_wp2_with fail
    refine (svalidProgram_any B C m c k d xs q hsq _ (hT.le L0) (hQ.le L0)).mono ?_
    rintro e w2 ⟨rfl, hle2⟩
    go_wp2
    go_ret
    exact ⟨ret_bool (by rw [h]; rfl), L0.trans hle2⟩
/-! ThenProgram -/
def thX (xs : List Cls) (p q : List Lin) : List Lin := cond (vp xs p && vp xs q) (chkX xs (p ++ q)) []
def thOk (xs : List Cls) (p q : List Lin) : Bool := (vp xs p && vp xs q) && vp xs (p ++ q)
theorem thX_len (xs : List Cls) (p q : List Lin) : (thX xs p q).length ≤ 1048576 := by
  unfold thX
  cases vp xs p && vp xs q
  · simp
  · exact Nat.le_trans (chkX_len _ _) (by omega)
set_option maxHeartbeats 1000000 in
set_option maxRecDepth 100000 in
theorem iThenProgram_any (B A C : Option Addr) (m c n cap k d : Nat) (xs : List Cls) (p q : List Lin) (hm : m ≤ 1048576) (w : World) (hT : Sl w B m c xs) (hR : Sl w A n cap p) (hQ : Sl w C k d q) :
    Calls Try.prog 24 #[.agg #[.slice B m c], .slice A n cap, .slice C k d] w fun e w' => ∃ v, e = .returned (.tuple #[v, .bool (thOk xs p q)]) ∧ Owd 67 w w' v (thX xs p q) ∧ Le w w' := by
  have HX : Hid (thX xs p q = cond (vp xs p && vp xs q) (chkX xs (p ++ q)) []) := rfl
  have HY : Hid (thOk xs p q = ((vp xs p && vp xs q) && vp xs (p ++ q))) := rfl
  go_enter Try.func24, Try.ntmps24
  go_wp2_with fail
  obtain ⟨ct, zt, hleB⟩ := box1 w (.slice B m c) 31
  have L0 := hleB
  clear hleB
  generalize w.alloc (.cells #[.slice B m c] 31) = W at *
  refine (pValidProgram_any B A m c n cap xs p hm _ (hT.le L0) (hR.le L0)).mono ?_
  rintro e w1 ⟨rfl, hle⟩
  replace ct := (hle.cell zt).trans ct
  replace zt := Nat.lt_of_lt_of_le zt hle.size
  replace L0 := L0.trans hle
  clear hle
  cases h : vp xs p
  · rw [h] at HX HY
    have HO : Hid (Owd 67 w w1 (.slice none 0 0) (thX xs p q)) := by show Owd _ _ _ _ _; rw [HX.out]; exact Owd.nil _ _ _
    go_wp2
    exact bodyPost_ret (v := .tuple #[.slice none 0 0, .bool false]) (by simp [results, Try.results24, go_sem]) rfl ⟨_, ret2 HY.out.symm rfl, HO.out, L0⟩
  · go_wp2_with fail
    refine (pValidProgram_any B C m c k d xs q hm _ (hT.le L0) (hQ.le L0)).mono ?_
    rintro e w2 ⟨rfl, hle⟩
    replace ct := (hle.cell zt).trans ct
    replace zt := Nat.lt_of_lt_of_le zt hle.size
    replace L0 := L0.trans hle
    clear hle
    cases h2 : vp xs q
    · rw [h, h2] at HX HY
      have HO : Hid (Owd 67 w w2 (.slice none 0 0) (thX xs p q)) := by show Owd _ _ _ _ _; rw [HX.out]; exact Owd.nil _ _ _
      go_wp2
      exact bodyPost_ret (v := .tuple #[.slice none 0 0, .bool false]) (by simp [results, Try.results24, go_sem]) rfl ⟨_, ret2 HY.out.symm rfl, HO.out, L0⟩
    · rw [h, h2] at HX HY
      have hp := (goodP_of h).len
      have hq := (goodP_of h2).len
      go_wp2_with fail
      obtain ⟨PQ, HPQ⟩ : ∃ PQ, Hid (p ++ q = PQ) := ⟨_, rfl⟩
      have HPL : Hid (PQ.length ≤ 48) := by show _ ≤ _; rw [← HPQ.out, List.length_append]; omega
      rw [HPQ.out] at HX HY
      have hnp := hR.len
      have hnq := hQ.len
      have hsum : n + k ≤ 4194304 := by omega
      clear hnp hnq
      obtain ⟨y0, y1, zy, LB⟩ := boxS2 w2 (.slice A n cap) (.slice C k d) 33
      have ctB := (LB.cell zt).trans ct
      have L1 := L0.trans LB
      have SPB := hR.le L1
      have SQB := hQ.le L1
      have STB := hT.le L1
      have ztB := Nat.lt_of_lt_of_le zt LB.size
      generalize hWB : w2.alloc (.cells #[.slice A n cap, .slice C k d] 33) = WB at *
      have ct0 : w2.drew.cell? ⟨w.heap.size, 0, none⟩ = some (.slice B m c) := ct
      have ctB2 : WB.drew.cell? ⟨w.heap.size, 0, none⟩ = some (.slice B m c) := ctB
      have y02 : WB.drew.cell? ⟨w2.heap.size, 0, none⟩ = some (.slice A n cap) := y0
      have y12 : WB.drew.cell? ⟨w2.heap.size, 1, none⟩ = some (.slice C k d) := y1
      have zy2 : w2.heap.size < WB.drew.heap.size := zy
      have ztB2 : w.heap.size < WB.drew.heap.size := ztB
      have L12 : Le w WB.drew := L1.drew
      have SPB2 := SPB.le (Le.refl WB).drew
      have SQB2 := SQB.le (Le.refl WB).drew
      have STB2 := STB.le (Le.refl WB).drew
      clear y0 y1 zy LB ctB L1 SPB SQB STB ztB
      refine wp_region_noPanic ?_
      refine wp_region_held_drew (S := fun w' => w'.cell? ⟨w.heap.size, 0, none⟩ = some (.slice B m c)) (by kernel_rfl) ct0 (fun hHeld => ?_)
      refine wpAnyH_takeL (i := 0) (v := ?_) rfl (by kernel_rfl) (by kernel_rfl) (by kernel_rfl) (fun _ _ _ h => h) (Or.inl ⟨by rfl, ?_⟩) (by assumption) ?_
      rotate_left 1
      · (intro w hSw; (try dsimp only at hSw); go_simp; try with_reducible rfl)
      try simp only [Act.put, List.setIfInBounds_toArray, List.set_cons_zero, List.set_cons_succ]
      refine wpAnyH_takeL (i := 1) (v := ?_) rfl (by kernel_rfl) (by kernel_rfl) (by kernel_rfl) (fun _ _ _ h => h) (Or.inl ⟨by rfl, ?_⟩) (by assumption) ?_
      rotate_left 1
      · (intro w hSw; (try dsimp only at hSw); go_simp; try with_reducible rfl)
      try simp only [Act.put, List.setIfInBounds_toArray, List.set_cons_zero, List.set_cons_succ]
      refine wpAnyH_takeL (i := 2) (v := ?_) rfl (by kernel_rfl) (by kernel_rfl) (by kernel_rfl) (fun _ _ _ h => h) (Or.inl ⟨by rfl, ?_⟩) (by assumption) ?_
      rotate_left 1
      · (intro w hSw; (try dsimp only at hSw); go_simp; try with_reducible rfl)
      try simp only [Act.put, List.setIfInBounds_toArray, List.set_cons_zero, List.set_cons_succ]
      refine wpAnyH_ready (rs := [3]) (by kernel_rfl) (by simp) (AllReadyH.consL (i := 3) rfl (fun K hK => ?_) AllReadyH.nil)
      go_simp
      refine hK.out _ _ (ctB2) (fun hHeld => ?_)
      clear hK K
      try simp only [Act.put, List.setIfInBounds_toArray, List.set_cons_zero, List.set_cons_succ]
      refine wpAnyH_ready (rs := [4]) (by kernel_rfl) (by simp) (AllReadyH.consL (i := 4) rfl (fun K hK => ?_) AllReadyH.nil)
      go_simp
      go_at_call 69
      refine (concatL_any A C n cap k d _ p q _ SPB2 SQB2 hsum y02 y12 zy2).mono ?_
      rintro e w3 ⟨v3, rfl, D3, hle⟩
      rw [HPQ.out] at D3
      have ctC := (hle.cell ztB2).trans ctB2
      have ztC := Nat.lt_of_lt_of_le ztB2 hle.size
      have STC := STB2.le hle
      have L3 := L12.trans hle
      obtain ⟨A3, q3, rfl, S3, hB3⟩ := D3.form (by decide)
      refine hK.out _ _ (ctC) (fun hHeld => ?_)
      clear hK K
      try simp only [Act.put, List.setIfInBounds_toArray, List.set_cons_zero, List.set_cons_succ]
      refine wpAnyH_ready (rs := [5]) (by kernel_rfl) (by simp) (AllReadyH.consL (i := 5) rfl (fun K hK => ?_) AllReadyH.nil)
      go_simp
      go_at_call 68
      refine (iifValid_any B A3 m c _ q3 xs PQ hm _ STC S3).mono ?_
      rintro e w4 ⟨rfl, hle4⟩
      have ctD := (hle4.cell ztC).trans ctC
      have L4 := L3.trans hle4
      have D4 := chk_owd (xs := xs) ((D3.mono L12).le hle4)
      refine hK.out _ _ (ctD) (fun hHeld => ?_)
      clear hK K
      try simp only [Act.put, List.setIfInBounds_toArray, List.set_cons_zero, List.set_cons_succ]
      refine wpAnyH_takeL (i := 6) (v := ?_) rfl (by kernel_rfl) (by kernel_rfl) (by kernel_rfl) (fun _ _ _ h => h) (Or.inl ⟨by rfl, ?_⟩) (by assumption) ?_
      rotate_left 1
      · (intro w hSw; (try dsimp only at hSw); go_simp; try with_reducible rfl)
      try simp only [Act.put, List.setIfInBounds_toArray, List.set_cons_zero, List.set_cons_succ]
      refine wpAnyH_takeL (i := 7) (v := ?_) rfl (by kernel_rfl) (by kernel_rfl) (by kernel_rfl) (fun _ _ _ h => h) (Or.inl ⟨by rfl, ?_⟩) (by assumption) ?_
      rotate_left 1
      · (intro w hSw; (try dsimp only at hSw); go_simp; try with_reducible rfl)
      try simp only [Act.put, List.setIfInBounds_toArray, List.set_cons_zero, List.set_cons_succ]
      refine wpAnyH_takeL (i := 8) (v := ?_) rfl (by kernel_rfl) (by kernel_rfl) (by kernel_rfl) (fun _ _ _ h => h) (Or.inl ⟨by rfl, ?_⟩) (by assumption) ?_
      rotate_left 1
      · (intro w hSw; (try dsimp only at hSw); go_simp; try with_reducible rfl)
      try simp only [Act.put, List.setIfInBounds_toArray, List.set_cons_zero, List.set_cons_succ]
      refine wpAnyH_takeL (i := 9) (v := ?_) rfl (by kernel_rfl) (by kernel_rfl) (by kernel_rfl) (fun _ _ _ h => h) (Or.inl ⟨by rfl, ?_⟩) (by assumption) ?_
      rotate_left 1
      · (intro w hSw; (try dsimp only at hSw); go_simp; try with_reducible rfl)
      try simp only [Act.put, List.setIfInBounds_toArray, List.set_cons_zero, List.set_cons_succ]
      refine wpAnyH_done (by kernel_rfl) ?_ _
      refine NoPanic.normal ?_
      have HO : Hid (Owd 67 w w4 (chkV xs PQ (.slice A3 PQ.length q3)) (thX xs p q)) := by show Owd _ _ _ _ _; rw [HX.out]; exact D4
      go_wp2
      exact bodyPost_ret (v := .tuple #[chkV xs PQ (.slice A3 PQ.length q3), .bool (vp xs PQ)]) (by simp [results, Try.results24, go_sem]) rfl ⟨_, ret2 HY.out.symm rfl, HO.out, L4⟩
set_option maxHeartbeats 1000000 in
set_option maxRecDepth 100000 in
theorem sThenProgram_any (B A C : Option Addr) (m c n cap k d : Nat) (xs : List Cls) (p q : List Lin) (hsm : p.length ≤ 1048576) (hsq : q.length ≤ 1048576) (w : World) (hT : Sl w B m c xs) (hR : Sl w A n cap p) (hQ : Sl w C k d q) :
    Calls Try.prog 23 #[.agg #[.slice B m c], .slice A n cap, .slice C k d] w fun e w' => ∃ v, e = .returned (.tuple #[v, .bool (thOk xs p q)]) ∧ Owd 67 w w' v (thX xs p q) ∧ Le w w' := by
  obtain ⟨i0, hi, hz0, hz1, hz2⟩ := info_parts infoLn
  have HX : Hid (thX xs p q = cond (vp xs p && vp xs q) (chkX xs (p ++ q)) []) := rfl
  have HY : Hid (thOk xs p q = ((vp xs p && vp xs q) && vp xs (p ++ q))) := rfl
  go_enter Try.func23, Try.ntmps23
  go_wp2_with fail
  obtain ⟨ct, zt, hleB⟩ := box1 w (.slice B m c) 31
  have L0 := hleB
  clear hleB
  generalize w.alloc (.cells #[.slice B m c] 31) = W at *
  refine (sboth_any B A C m c n cap k d xs p q hsm hsq _ (hT.le L0) (hR.le L0) (hQ.le L0)).mono ?_
  rintro e w1 ⟨rfl, hle⟩
  replace ct := (hle.cell zt).trans ct
  replace zt := Nat.lt_of_lt_of_le zt hle.size
  replace L0 := L0.trans hle
  clear hle
  cases h : (vp xs p && vp xs q)
  · rw [h] at HX HY
    have HO : Hid (Owd 67 w w1 (.slice none 0 0) (thX xs p q)) := by show Owd _ _ _ _ _; rw [HX.out]; exact Owd.nil _ _ _
    go_wp2
    exact bodyPost_ret (v := .tuple #[.slice none 0 0, .bool false]) (by simp [results, Try.results23, go_sem]) rfl ⟨_, ret2 HY.out.symm rfl, HO.out, L0⟩
  · rw [h] at HX HY
    have hb := Bool.and_eq_true_iff.1 h
    have hp := (goodP_of hb.1).len
    have hq := (goodP_of hb.2).len
    obtain ⟨PQ, HPQ⟩ : ∃ PQ, Hid (p ++ q = PQ) := ⟨_, rfl⟩
    have HPL : Hid (PQ.length ≤ 48) := by show _ ≤ _; rw [← HPQ.out, List.length_append]; omega
    rw [HPQ.out] at HX HY
    obtain rfl := hR.len
    obtain rfl := hQ.len
    go_wp2_with fail
    have OE : (w1.alloc (.cells #[] 67)).ownsRow w1.heap.size 67 4 (.slice (some ⟨w1.heap.size, 0, none⟩) 0 0) 0 [] := own_empty (Nat.le_refl _) rfl
    have LB := Le.new w1 (.cells #[] 67)
    have ctB := (LB.cell zt).trans ct
    have L1 := L0.trans LB
    have ztB := Nat.lt_of_lt_of_le zt LB.size
    have hle1 := L0.size
    generalize hWB : w1.alloc (.cells #[] 67) = WB at *
    have ct0 : w1.drew.cell? ⟨w.heap.size, 0, none⟩ = some (.slice B m c) := ct
    have ctB2 : WB.drew.cell? ⟨w.heap.size, 0, none⟩ = some (.slice B m c) := ctB
    have ztB2 : w.heap.size < WB.drew.heap.size := ztB
    have L12 : Le w WB.drew := L1.drew
    have L13 : Le w1 WB.drew := LB.drew
    have OE2 := OE.drew
    have SPB := hR.le L12
    have SQB := hQ.le L12
    have STB := hT.le L12
    have HZ1 := Lib.hid (show w1.heap.size ≤ WB.drew.heap.size from L13.size)
    clear OE LB ctB L1 ztB
    refine wp_region_noPanic ?_
    refine wp_region_held_drew (S := fun w' => w'.cell? ⟨w.heap.size, 0, none⟩ = some (.slice B m c)) (by kernel_rfl) ct0 (fun hHeld => ?_)
    refine wpAnyH_takeL (i := 0) (v := ?_) rfl (by kernel_rfl) (by kernel_rfl) (by kernel_rfl) (fun _ _ _ h => h) (Or.inl ⟨by rfl, ?_⟩) (by assumption) ?_
    rotate_left 1
    · (intro w hSw; (try dsimp only at hSw); go_simp; try with_reducible rfl)
    try simp only [Act.put, List.setIfInBounds_toArray, List.set_cons_zero, List.set_cons_succ]
    refine wpAnyH_takeL (i := 2) (v := ?_) rfl (by kernel_rfl) (by kernel_rfl) (by kernel_rfl) (fun _ _ _ h => h) (Or.inl ⟨by rfl, ?_⟩) (by assumption) ?_
    rotate_left 1
    · (intro w hSw; (try dsimp only at hSw); go_simp; try with_reducible rfl)
    try simp only [Act.put, List.setIfInBounds_toArray, List.set_cons_zero, List.set_cons_succ]
    refine wpAnyH_takeL (i := 4) (v := ?_) rfl (by kernel_rfl) (by kernel_rfl) (by kernel_rfl) (fun _ _ _ h => h) (Or.inl ⟨by rfl, ?_⟩) (by assumption) ?_
    rotate_left 1
    · (intro w hSw; (try dsimp only at hSw); go_simp; try with_reducible rfl)
    try simp only [Act.put, List.setIfInBounds_toArray, List.set_cons_zero, List.set_cons_succ]
    refine wpAnyH_ready (rs := [1]) (by kernel_rfl) (by simp) (AllReadyH.consL (i := 1) rfl (fun K hK => ?_) AllReadyH.nil)
    go_simp
    refine hK.out _ _ (ctB2) (fun hHeld => ?_)
    clear hK K
    try simp only [Act.put, List.setIfInBounds_toArray, List.set_cons_zero, List.set_cons_succ]
    refine wpAnyH_ready (rs := [3]) (by kernel_rfl) (by simp) (AllReadyH.consL (i := 3) rfl (fun K hK => ?_) AllReadyH.nil)
    refine step_append_sl rfl (.tmp 14) (.tmp 15) 33 rfl w1.heap.size 67 i0 _ 32 Try.underlying33 hi hz0 hz1 hz2 rfl (.slice (some ⟨w1.heap.size, 0, none⟩) 0 0) 0 ([] : List Lin) rfl OE2 A p.length cap p rfl SPB (by unfold maxLen; omega) (by omega) HZ1.out ?_
    intro v1 w3 O3 hg3 _
    have L3 := L13.grown hg3 (fun k hk => (OE2.lt k hk).1)
    have ctC : w3.cell? ⟨w.heap.size, 0, none⟩ = some (.slice B m c) := (L3.cell zt).trans ct
    have SQ3 := hQ.le (L0.trans L3)
    refine hK.out _ _ (ctC) (fun hHeld => ?_)
    clear hK K
    try simp only [Act.put, List.setIfInBounds_toArray, List.set_cons_zero, List.set_cons_succ]
    refine wpAnyH_ready (rs := [5]) (by kernel_rfl) (by simp) (AllReadyH.consL (i := 5) rfl (fun K hK => ?_) AllReadyH.nil)
    refine step_append_sl rfl (.tmp 16) (.tmp 17) 33 rfl w1.heap.size 67 i0 _ 32 Try.underlying33 hi hz0 hz1 hz2 rfl v1 (0 + p.length) ([] ++ p) rfl O3 C q.length d q rfl SQ3 (by unfold maxLen; omega) (by omega) L3.size ?_
    intro v2 w4 O4 hg4 _
    have L4 := L3.grown hg4 (fun k hk => (O3.lt k hk).1)
    have ctD : w4.cell? ⟨w.heap.size, 0, none⟩ = some (.slice B m c) := (L4.cell zt).trans ct
    have hPQl : 0 + p.length + q.length = PQ.length := by rw [← HPQ.out, List.length_append, Nat.zero_add]
    rw [List.nil_append, HPQ.out, hPQl] at O4
    have HQO : ∀ x ∈ PQ, Enc.ok x := by
      rw [← HPQ.out]
      intro x hx
      rcases List.mem_append.1 hx with hx | hx
      · exact hR.ok x hx
      · exact hQ.ok x hx
    obtain ⟨A4, q4, rfl⟩ := own_form O4
    have D4 : Owd 67 w1 w4 (.slice A4 PQ.length q4) PQ := ⟨O4, HQO⟩
    have S4 := Sl.of_own O4 rfl (by decide) HQO
    have ST4 := hT.le (L0.trans L4)
    have h48 := HPL.out
    clear O4 hPQl HQO
    refine hK.out _ _ (ctD) (fun hHeld => ?_)
    clear hK K
    try simp only [Act.put, List.setIfInBounds_toArray, List.set_cons_zero, List.set_cons_succ]
    refine wpAnyH_ready (rs := [6]) (by kernel_rfl) (by simp) (AllReadyH.consL (i := 6) rfl (fun K hK => ?_) AllReadyH.nil)
    go_simp
    go_at_call 67
    refine (scheckedProgram_any B A4 m c _ q4 xs PQ (by omega) _ ST4 S4).mono ?_
    rintro e w5 ⟨rfl, hle5⟩
    have L5 := (L0.trans L4).trans hle5
    have ctE := (hle5.cell (Nat.lt_of_lt_of_le zt L4.size)).trans ctD
    have D5 := chk_owd (xs := xs) ((D4.mono L0).le hle5)
    refine hK.out _ _ (ctE) (fun hHeld => ?_)
    clear hK K
    try simp only [Act.put, List.setIfInBounds_toArray, List.set_cons_zero, List.set_cons_succ]
    refine wpAnyH_takeL (i := 7) (v := ?_) rfl (by kernel_rfl) (by kernel_rfl) (by kernel_rfl) (fun _ _ _ h => h) (Or.inl ⟨by rfl, ?_⟩) (by assumption) ?_
    rotate_left 1
    · (intro w hSw; (try dsimp only at hSw); go_simp; try with_reducible rfl)
    try simp only [Act.put, List.setIfInBounds_toArray, List.set_cons_zero, List.set_cons_succ]
    refine wpAnyH_takeL (i := 8) (v := ?_) rfl (by kernel_rfl) (by kernel_rfl) (by kernel_rfl) (fun _ _ _ h => h) (Or.inl ⟨by rfl, ?_⟩) (by assumption) ?_
    rotate_left 1
    · (intro w hSw; (try dsimp only at hSw); go_simp; try with_reducible rfl)
    try simp only [Act.put, List.setIfInBounds_toArray, List.set_cons_zero, List.set_cons_succ]
    refine wpAnyH_takeL (i := 9) (v := ?_) rfl (by kernel_rfl) (by kernel_rfl) (by kernel_rfl) (fun _ _ _ h => h) (Or.inl ⟨by rfl, ?_⟩) (by assumption) ?_
    rotate_left 1
    · (intro w hSw; (try dsimp only at hSw); go_simp; try with_reducible rfl)
    try simp only [Act.put, List.setIfInBounds_toArray, List.set_cons_zero, List.set_cons_succ]
    refine wpAnyH_takeL (i := 10) (v := ?_) rfl (by kernel_rfl) (by kernel_rfl) (by kernel_rfl) (fun _ _ _ h => h) (Or.inl ⟨by rfl, ?_⟩) (by assumption) ?_
    rotate_left 1
    · (intro w hSw; (try dsimp only at hSw); go_simp; try with_reducible rfl)
    try simp only [Act.put, List.setIfInBounds_toArray, List.set_cons_zero, List.set_cons_succ]
    refine wpAnyH_done (by kernel_rfl) ?_ _
    refine NoPanic.normal ?_
    have HO : Hid (Owd 67 w w5 (chkV xs PQ (.slice A4 PQ.length q4)) (thX xs p q)) := by show Owd _ _ _ _ _; rw [HX.out]; exact D5
    go_wp2
    exact bodyPost_ret (v := .tuple #[chkV xs PQ (.slice A4 PQ.length q4), .bool (vp xs PQ)]) (by simp [results, Try.results23, go_sem]) rfl ⟨_, ret2 HY.out.symm rfl, HO.out, L5⟩
end Go.Proofs.Ytjcellhpmooifaa
