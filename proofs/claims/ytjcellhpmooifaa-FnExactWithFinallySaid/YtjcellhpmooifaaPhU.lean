/- programs: a program in a try, in a loop: of the program -/
import Derived.Test.YtjcellhpmooifaaPhS
namespace Go.Proofs.Ytjcellhpmooifaa
open Go.RowKit
/-- a try with a program, and another one behind a line -/
def twX (xs : List Cls) (p : List Lin) (h : Lin) (q : List Lin) : List Lin := cond (vp xs p && vp xs q) (chkX xs (undL ⟨0, 7, 0, 0⟩ p ++ undL h q)) []
def twOk (xs : List Cls) (p : List Lin) (h : Lin) (q : List Lin) : Bool := (vp xs p && vp xs q) && vp xs (undL ⟨0, 7, 0, 0⟩ p ++ undL h q)
theorem twX_len (xs : List Cls) (p : List Lin) (h : Lin) (q : List Lin) : (twX xs p h q).length ≤ 1048576 := by
  unfold twX
  cases vp xs p && vp xs q
  · simp
  · exact Nat.le_trans (chkX_len _ _) (by omega)
/-- a program in a loop -/
def ilX (xs : List Cls) (p : List Lin) (n : Int) : List Lin := cond (vp xs p) (chkX xs (undL ⟨0, 12, n, 0⟩ p)) []
def ilOk (xs : List Cls) (p : List Lin) (n : Int) : Bool := vp xs p && vp xs (undL ⟨0, 12, n, 0⟩ p)
theorem ilX_len (xs : List Cls) (p : List Lin) (n : Int) : (ilX xs p n).length ≤ 1048576 := by
  unfold ilX
  cases vp xs p
  · simp
  · exact Nat.le_trans (chkX_len _ _) (by omega)
theorem good_deep {xs : List Cls} {p : List Lin} (h : vp xs p = true) : ∀ x ∈ p, x.depth ≤ 5 := fun x hx => by
  obtain ⟨i, hi, rfl⟩ := List.getElem_of_mem hx
  have := ((goodP_of h).line i hi).2.1.1
  rw [dep_at hi] at this
  exact this.2
theorem lin_ok {k a : Int} (ha : -9223372036854775808 ≤ a ∧ a ≤ 9223372036854775807) (h0 : 0 ≤ k) (h1 : k ≤ 100) : Enc.ok (⟨0, k, a, 0⟩ : Lin) :=
  ⟨show (-9223372036854775808 : Int) ≤ 0 by decide, show (0 : Int) ≤ 9223372036854775807 by decide, show (-9223372036854775808 : Int) ≤ k by omega, show k ≤ 9223372036854775807 by omega, ha.1, ha.2, show (-9223372036854775808 : Int) ≤ 0 by decide, show (0 : Int) ≤ 9223372036854775807 by decide⟩
theorem try_ok : Enc.ok (⟨0, 7, 0, 0⟩ : Lin) := ⟨by decide, by decide, by decide, by decide, by decide, by decide, by decide, by decide⟩
theorem box2t (w : World) (s a b c d : Value) (T U : TypeId) : ((w.alloc (.cells #[s] T)).alloc (.cells #[a, b, c, d] U)).cell? ⟨w.heap.size, 0, none⟩ = some s ∧ w.heap.size < ((w.alloc (.cells #[s] T)).alloc (.cells #[a, b, c, d] U)).heap.size ∧
    (∀ (j : Nat) v, #[a, b, c, d][j]? = some v → ((w.alloc (.cells #[s] T)).alloc (.cells #[a, b, c, d] U)).cell? ⟨w.heap.size + 1, j, none⟩ = some v) ∧ w.heap.size + 1 < ((w.alloc (.cells #[s] T)).alloc (.cells #[a, b, c, d] U)).heap.size ∧ Le w ((w.alloc (.cells #[s] T)).alloc (.cells #[a, b, c, d] U)) := by
  refine ⟨?_, by simp; omega, ?_, by simp, (Le.new w _).alloc _⟩
  · rw [World.cell?_alloc_past _ _ _ (by simp), World.cell?_alloc_at _ _ _ _ rfl]; rfl
  · intro j v hv
    rw [World.cell?_alloc_at _ _ _ _ (by simp)]; exact hv
set_option maxHeartbeats 1000000 in
set_option maxRecDepth 100000 in
theorem tryWith_any (B A C : Option Addr) (m c n cap k d : Nat) (xs : List Cls) (p q : List Lin) (h : Lin) (hm : m ≤ 1048576) (hh : Enc.ok h) (w : World) (hT : Sl w B m c xs) (hR : Sl w A n cap p) (hQ : Sl w C k d q) :
    Calls Try.prog 72 #[.agg #[.slice B m c], .slice A n cap, .agg #[.int .i64 h.depth, .int .i64 h.kind, .int .i64 h.a, .int .i64 h.b], .slice C k d] w fun e w' => ∃ v, e = .returned (.tuple #[v, .bool (twOk xs p h q)]) ∧ Owd 67 w w' v (twX xs p h q) ∧ Le w w' := by
  have HX : Hid (twX xs p h q = cond (vp xs p && vp xs q) (chkX xs (undL ⟨0, 7, 0, 0⟩ p ++ undL h q)) []) := rfl
  have HY : Hid (twOk xs p h q = ((vp xs p && vp xs q) && vp xs (undL ⟨0, 7, 0, 0⟩ p ++ undL h q))) := rfl
  go_enter Try.func72, Try.ntmps72
  go_wp2_with fail
  obtain ⟨ct, zt, ch, zh, L0⟩ := box2t w (.slice B m c) (.int .i64 h.depth) (.int .i64 h.kind) (.int .i64 h.a) (.int .i64 h.b) 31 67
  generalize (w.alloc (.cells #[.slice B m c] 31)).alloc (.cells #[.int .i64 h.depth, .int .i64 h.kind, .int .i64 h.a, .int .i64 h.b] 67) = W at *
  refine (pValidProgram_any B A m c n cap xs p hm _ (hT.le L0) (hR.le L0)).mono ?_
  rintro e w1 ⟨rfl, hle⟩
  replace ct := (hle.cell zt).trans ct
  replace ch := fun j v hv => (hle.cell zh).trans (ch j v hv)
  replace zt := Nat.lt_of_lt_of_le zt hle.size
  replace zh := Nat.lt_of_lt_of_le zh hle.size
  replace L0 := L0.trans hle
  clear hle
  cases hv1 : vp xs p
  · rw [hv1] at HX HY
    have HO : Hid (Owd 67 w w1 (.slice none 0 0) (twX xs p h q)) := by show Owd _ _ _ _ _; rw [HX.out]; exact Owd.nil _ _ _
    go_wp2
    exact bodyPost_ret (v := .tuple #[.slice none 0 0, .bool false]) (by simp [results, Try.results72, go_sem]) rfl ⟨_, ret2 HY.out.symm rfl, HO.out, L0⟩
  · go_wp2_with fail
    refine (pValidProgram_any B C m c k d xs q hm _ (hT.le L0) (hQ.le L0)).mono ?_
    rintro e w2 ⟨rfl, hle⟩
    replace ct := (hle.cell zt).trans ct
    replace ch := fun j v hv => (hle.cell zh).trans (ch j v hv)
    replace zt := Nat.lt_of_lt_of_le zt hle.size
    replace zh := Nat.lt_of_lt_of_le zh hle.size
    replace L0 := L0.trans hle
    clear hle
    cases hv2 : vp xs q
    · rw [hv1, hv2] at HX HY
      have HO : Hid (Owd 67 w w2 (.slice none 0 0) (twX xs p h q)) := by show Owd _ _ _ _ _; rw [HX.out]; exact Owd.nil _ _ _
      go_wp2
      exact bodyPost_ret (v := .tuple #[.slice none 0 0, .bool false]) (by simp [results, Try.results72, go_sem]) rfl ⟨_, ret2 HY.out.symm rfl, HO.out, L0⟩
    · rw [hv1, hv2] at HX HY
      go_wp2_with fail
      have HDp := Lib.hid (good_deep hv1)
      have HDq := Lib.hid (good_deep hv2)
      have hp := (goodP_of hv1).len
      have hq := (goodP_of hv2).len
      have hnp := hR.len
      have hnq := hQ.len
      have hp2 : p.length ≤ 1048576 := by omega
      have hq2 : q.length ≤ 1048576 := by omega
      have HC5 : Hid (∀ w' : World, Le w2 w' → w'.cell? ⟨w.heap.size, 0, none⟩ = some (.slice B m c) ∧ w'.cell? ⟨w.heap.size + 1, 0, none⟩ = some (.int .i64 h.depth) ∧ w'.cell? ⟨w.heap.size + 1, 1, none⟩ = some (.int .i64 h.kind) ∧ w'.cell? ⟨w.heap.size + 1, 2, none⟩ = some (.int .i64 h.a) ∧ w'.cell? ⟨w.heap.size + 1, 3, none⟩ = some (.int .i64 h.b)) := fun w' hl => ⟨(hl.cell zt).trans ct, (hl.cell zh).trans (ch 0 _ rfl), (hl.cell zh).trans (ch 1 _ rfl), (hl.cell zh).trans (ch 2 _ rfl), (hl.cell zh).trans (ch 3 _ rfl)⟩
      obtain ⟨U, HU⟩ : ∃ U, Hid (undL ⟨0, 7, 0, 0⟩ p = U) := ⟨_, rfl⟩
      obtain ⟨V, HV⟩ : ∃ V, Hid (undL h q = V) := ⟨_, rfl⟩
      have HUL : Hid (U.length ≤ p.length + 2) := by show _ ≤ _; rw [← HU.out]; exact undL_len _ _
      have HVL : Hid (V.length ≤ q.length + 2) := by show _ ≤ _; rw [← HV.out]; exact undL_len _ _
      rw [HU.out, HV.out] at HX HY
      obtain ⟨PQ, HPQ⟩ : ∃ PQ, Hid (U ++ V = PQ) := ⟨_, rfl⟩
      rw [HPQ.out] at HX HY
      have L1 : Le w2 w2.drew := (Le.refl w2).drew
      have SP := hR.le (L0.trans L1)
      clear hnp hnq ct ch
      refine wp_region_noPanic ?_
      refine wp_region_held_drew (S := fun w' => w'.cell? ⟨w.heap.size, 0, none⟩ = some (.slice B m c) ∧ w'.cell? ⟨w.heap.size + 1, 0, none⟩ = some (.int .i64 h.depth) ∧ w'.cell? ⟨w.heap.size + 1, 1, none⟩ = some (.int .i64 h.kind) ∧ w'.cell? ⟨w.heap.size + 1, 2, none⟩ = some (.int .i64 h.a) ∧ w'.cell? ⟨w.heap.size + 1, 3, none⟩ = some (.int .i64 h.b)) (by kernel_rfl) (HC5.out _ L1) (fun hHeld => ?_)
      refine wpAnyH_takeL (i := 0) (v := ?_) rfl (by kernel_rfl) (by kernel_rfl) (by kernel_rfl) (fun _ _ _ h => h) (Or.inl ⟨by rfl, ?_⟩) (by assumption) ?_
      rotate_left 1
      · (intro w hSw; (try dsimp only at hSw); go_simp; try with_reducible rfl)
      try simp only [Act.put, List.setIfInBounds_toArray, List.set_cons_zero, List.set_cons_succ]
      refine wpAnyH_takeL (i := 1) (v := ?_) rfl (by kernel_rfl) (by kernel_rfl) (by kernel_rfl) (fun _ _ _ h => h) (Or.inl ⟨by rfl, ?_⟩) (by assumption) ?_
      rotate_left 1
      · (intro w hSw; (try dsimp only at hSw); go_simp; try with_reducible rfl)
      try simp only [Act.put, List.setIfInBounds_toArray, List.set_cons_zero, List.set_cons_succ]
      refine wpAnyH_takeL (i := 2) (v := ?_) rfl (by kernel_rfl) (by kernel_rfl) (by kernel_rfl) (fun _ _ _ h => h) (Or.inl ⟨by rfl, ?_⟩) (by assumption) ?_
      rotate_left 1
      · (intro w hSw; (try dsimp only at hSw); go_simp; try with_reducible rfl)
      try simp only [Act.put, List.setIfInBounds_toArray, List.set_cons_zero, List.set_cons_succ]
      refine wpAnyH_takeL (i := 4) (v := ?_) rfl (by kernel_rfl) (by kernel_rfl) (by kernel_rfl) (fun _ _ _ h => h) (Or.inl ⟨by rfl, ?_⟩) (by assumption) ?_
      rotate_left 1
      · (intro w hSw; (try dsimp only at hSw); go_simp; try with_reducible rfl)
      try simp only [Act.put, List.setIfInBounds_toArray, List.set_cons_zero, List.set_cons_succ]
      refine wpAnyH_takeL (i := 5) (v := ?_) rfl (by kernel_rfl) (by kernel_rfl) (by kernel_rfl) (fun _ _ _ h => h) (Or.inl ⟨by rfl, ?_⟩) (by assumption) ?_
      rotate_left 1
      · (intro w hSw; (try dsimp only at hSw); go_simp; try with_reducible rfl)
      try simp only [Act.put, List.setIfInBounds_toArray, List.set_cons_zero, List.set_cons_succ]
      refine wpAnyH_ready (rs := [3]) (by kernel_rfl) (by simp) (AllReadyH.consL (i := 3) rfl (fun K hK => ?_) AllReadyH.nil)
      go_simp
      go_at_call 73
      refine (iunder_any ⟨0, 7, 0, 0⟩ A n cap p hp2 try_ok HDp.out _ SP).mono ?_
      rintro e w3 ⟨v3, rfl, D3, hle⟩
      rw [HU.out] at D3
      have L3 := L1.trans hle
      have SQ3 := hQ.le (L0.trans L3)
      obtain ⟨A3, q3, rfl, S3, hB3⟩ := D3.form (by decide)
      clear hle D3 hB3 SP
      refine hK.out _ _ ((HC5.out _ L3)) (fun hHeld => ?_)
      clear hK K
      try simp only [Act.put, List.setIfInBounds_toArray, List.set_cons_zero, List.set_cons_succ]
      refine wpAnyH_ready (rs := [6]) (by kernel_rfl) (by simp) (AllReadyH.consL (i := 6) rfl (fun K hK => ?_) AllReadyH.nil)
      go_simp
      go_at_call 73
      refine (iunder_any h C k d q hq2 hh HDq.out _ SQ3).mono ?_
      rintro e w4 ⟨v4, rfl, D4, hle⟩
      rw [HV.out] at D4
      have L4 := L3.trans hle
      have S34 := S3.le hle
      obtain ⟨A4, q4, rfl, S4, hB4⟩ := D4.form (by decide)
      have hUV : U.length + V.length ≤ 4194304 := by have := HUL.out; have := HVL.out; omega
      obtain ⟨y0, y1, zy, LB⟩ := boxS2 w4 (.slice A3 U.length q3) (.slice A4 V.length q4) 33
      obtain ⟨WB, hWB⟩ : ∃ WB, w4.alloc (.cells #[.slice A3 U.length q3, .slice A4 V.length q4] 33) = WB := ⟨_, rfl⟩
      rw [hWB] at y0 y1 zy LB
      have L5 := L4.trans LB
      have S35 := S34.le LB
      have S45 := S4.le LB
      clear hle D4 hB4 SQ3 S3
      refine hK.out _ _ ((HC5.out _ L4)) (fun hHeld => ?_)
      clear hK K
      try simp only [Act.put, List.setIfInBounds_toArray, List.set_cons_zero, List.set_cons_succ]
      refine wpAnyH_ready (rs := [7]) (by kernel_rfl) (by simp) (AllReadyH.consL (i := 7) rfl (fun K hK => ?_) AllReadyH.nil)
      go_simp
      refine hK.out _ _ ((HC5.out _ L5)) (fun hHeld => ?_)
      clear hK K
      try simp only [Act.put, List.setIfInBounds_toArray, List.set_cons_zero, List.set_cons_succ]
      refine wpAnyH_ready (rs := [8]) (by kernel_rfl) (by simp) (AllReadyH.consL (i := 8) rfl (fun K hK => ?_) AllReadyH.nil)
      go_simp
      go_at_call 69
      refine (concatL_any A3 A4 U.length q3 V.length q4 _ U V _ S35 S45 hUV y0 y1 zy).mono ?_
      rintro e w6 ⟨v6, rfl, D6, hle⟩
      rw [HPQ.out] at D6
      have L6 := L5.trans hle
      have ST6 := hT.le (L0.trans L6)
      have D60 := D6.mono (L0.trans L5)
      obtain ⟨A6, q6, rfl, S6, hB6⟩ := D6.form (by decide)
      refine hK.out _ _ ((HC5.out _ L6)) (fun hHeld => ?_)
      clear hK K
      try simp only [Act.put, List.setIfInBounds_toArray, List.set_cons_zero, List.set_cons_succ]
      refine wpAnyH_ready (rs := [9]) (by kernel_rfl) (by simp) (AllReadyH.consL (i := 9) rfl (fun K hK => ?_) AllReadyH.nil)
      go_simp
      go_at_call 68
      refine (iifValid_any B A6 m c _ q6 xs PQ hm _ ST6 S6).mono ?_
      rintro e w7 ⟨rfl, hle7⟩
      have L7 := L6.trans hle7
      have D7 := chk_owd (xs := xs) (D60.le hle7)
      refine hK.out _ _ ((HC5.out _ L7)) (fun hHeld => ?_)
      clear hK K
      try simp only [Act.put, List.setIfInBounds_toArray, List.set_cons_zero, List.set_cons_succ]
      refine wpAnyH_takeL (i := 10) (v := ?_) rfl (by kernel_rfl) (by kernel_rfl) (by kernel_rfl) (fun _ _ _ h => h) (Or.inl ⟨by rfl, ?_⟩) (by assumption) ?_
      rotate_left 1
      · (intro w hSw; (try dsimp only at hSw); go_simp; try with_reducible rfl)
      try simp only [Act.put, List.setIfInBounds_toArray, List.set_cons_zero, List.set_cons_succ]
      refine wpAnyH_takeL (i := 11) (v := ?_) rfl (by kernel_rfl) (by kernel_rfl) (by kernel_rfl) (fun _ _ _ h => h) (Or.inl ⟨by rfl, ?_⟩) (by assumption) ?_
      rotate_left 1
      · (intro w hSw; (try dsimp only at hSw); go_simp; try with_reducible rfl)
      try simp only [Act.put, List.setIfInBounds_toArray, List.set_cons_zero, List.set_cons_succ]
      refine wpAnyH_takeL (i := 12) (v := ?_) rfl (by kernel_rfl) (by kernel_rfl) (by kernel_rfl) (fun _ _ _ h => h) (Or.inl ⟨by rfl, ?_⟩) (by assumption) ?_
      rotate_left 1
      · (intro w hSw; (try dsimp only at hSw); go_simp; try with_reducible rfl)
      try simp only [Act.put, List.setIfInBounds_toArray, List.set_cons_zero, List.set_cons_succ]
      refine wpAnyH_takeL (i := 13) (v := ?_) rfl (by kernel_rfl) (by kernel_rfl) (by kernel_rfl) (fun _ _ _ h => h) (Or.inl ⟨by rfl, ?_⟩) (by assumption) ?_
      rotate_left 1
      · (intro w hSw; (try dsimp only at hSw); go_simp; try with_reducible rfl)
      try simp only [Act.put, List.setIfInBounds_toArray, List.set_cons_zero, List.set_cons_succ]
      refine wpAnyH_done (by kernel_rfl) ?_ _
      refine NoPanic.normal ?_
      have HO : Hid (Owd 67 w w7 (chkV xs PQ (.slice A6 PQ.length q6)) (twX xs p h q)) := by show Owd _ _ _ _ _; rw [HX.out]; exact D7
      go_wp2
      exact bodyPost_ret (v := .tuple #[chkV xs PQ (.slice A6 PQ.length q6), .bool (vp xs PQ)]) (by simp [results, Try.results72, go_sem]) rfl ⟨_, ret2 HY.out.symm rfl, HO.out, L0.trans L7⟩
theorem iWithFinally_any (B A C : Option Addr) (m c n cap k d : Nat) (xs : List Cls) (p q : List Lin) (hm : m ≤ 1048576) (w : World) (hT : Sl w B m c xs) (hR : Sl w A n cap p) (hQ : Sl w C k d q) :
    Calls Try.prog 29 #[.agg #[.slice B m c], .slice A n cap, .slice C k d] w fun e w' => ∃ v, e = .returned (.tuple #[v, .bool (twOk xs p ⟨0, 10, 0, 0⟩ q)]) ∧ Owd 67 w w' v (twX xs p ⟨0, 10, 0, 0⟩ q) ∧ Le w w' := by
  go_enter Try.func29, Try.ntmps29
  go_wp2_with fail
  obtain ⟨ct, zt, hleB⟩ := box1 w (.slice B m c) 31
  have L0 := hleB
  clear hleB
  generalize w.alloc (.cells #[.slice B m c] 31) = W at *
  refine (tryWith_any B A C m c n cap k d xs p q ⟨0, 10, 0, 0⟩ hm (lin_ok (k := 10) (a := 0) (by omega) (by omega) (by omega)) _ (hT.le L0) (hR.le L0) (hQ.le L0)).mono ?_
  rintro e w1 ⟨v, rfl, D, hle⟩
  have HO := Lib.hid (D.mono L0)
  go_wp2
  exact bodyPost_ret (v := .tuple #[v, .bool (twOk xs p ⟨0, 10, 0, 0⟩ q)]) (by simp [results, Try.results29, go_sem]) rfl ⟨_, rfl, HO.out, L0.trans hle⟩
theorem iWithExcept_any (B A C : Option Addr) (m c n cap k d : Nat) (xs : List Cls) (p q : List Lin) (a : Int) (ha : -9223372036854775808 ≤ a ∧ a ≤ 9223372036854775807) (hm : m ≤ 1048576) (w : World) (hT : Sl w B m c xs) (hR : Sl w A n cap p) (hQ : Sl w C k d q) :
    Calls Try.prog 31 #[.agg #[.slice B m c], .slice A n cap, .int .i64 a, .slice C k d] w fun e w' => ∃ v, e = .returned (.tuple #[v, .bool (twOk xs p ⟨0, 8, a, 0⟩ q)]) ∧ Owd 67 w w' v (twX xs p ⟨0, 8, a, 0⟩ q) ∧ Le w w' := by
  go_enter Try.func31, Try.ntmps31
  go_wp2_with fail
  obtain ⟨ct, zt, hleB⟩ := box1 w (.slice B m c) 31
  have L0 := hleB
  clear hleB
  generalize w.alloc (.cells #[.slice B m c] 31) = W at *
  refine (tryWith_any B A C m c n cap k d xs p q ⟨0, 8, a, 0⟩ hm (lin_ok ha (by omega) (by omega)) _ (hT.le L0) (hR.le L0) (hQ.le L0)).mono ?_
  rintro e w1 ⟨v, rfl, D, hle⟩
  have HO := Lib.hid (D.mono L0)
  go_wp2
  exact bodyPost_ret (v := .tuple #[v, .bool (twOk xs p ⟨0, 8, a, 0⟩ q)]) (by simp [results, Try.results31, go_sem]) rfl ⟨_, rfl, HO.out, L0.trans hle⟩
set_option maxHeartbeats 1000000 in
set_option maxRecDepth 100000 in
theorem iInLoopP_any (B A : Option Addr) (m c n cap : Nat) (xs : List Cls) (p : List Lin) (a : Int) (hm : m ≤ 1048576) (ha : -9223372036854775808 ≤ a ∧ a ≤ 9223372036854775807) (w : World) (hT : Sl w B m c xs) (hR : Sl w A n cap p) :
    Calls Try.prog 33 #[.agg #[.slice B m c], .slice A n cap, .int .i64 a] w fun e w' => ∃ v, e = .returned (.tuple #[v, .bool (ilOk xs p a)]) ∧ Owd 67 w w' v (ilX xs p a) ∧ Le w w' := by
  have HX : Hid (ilX xs p a = cond (vp xs p) (chkX xs (undL ⟨0, 12, a, 0⟩ p)) []) := rfl
  have HY : Hid (ilOk xs p a = (vp xs p && vp xs (undL ⟨0, 12, a, 0⟩ p))) := rfl
  go_enter Try.func33, Try.ntmps33
  go_wp2_with fail
  obtain ⟨ct, zt, hleB⟩ := box1 w (.slice B m c) 31
  have L0 := hleB
  clear hleB
  generalize w.alloc (.cells #[.slice B m c] 31) = W at *
  refine (pValidProgram_any B A m c n cap xs p hm _ (hT.le L0) (hR.le L0)).mono ?_
  rintro e w1 ⟨rfl, hle⟩
  replace ct := (hle.cell zt).trans ct
  replace zt := Nat.lt_of_lt_of_le zt hle.size
  replace L0 := L0.trans hle
  clear hle
  cases h : vp xs p
  · rw [h] at HX HY
    have HO : Hid (Owd 67 w w1 (.slice none 0 0) (ilX xs p a)) := by show Owd _ _ _ _ _; rw [HX.out]; exact Owd.nil _ _ _
    go_wp2
    exact bodyPost_ret (v := .tuple #[.slice none 0 0, .bool false]) (by simp [results, Try.results33, go_sem]) rfl ⟨_, ret2 HY.out.symm rfl, HO.out, L0⟩
  · rw [h] at HX HY
    have HD := Lib.hid (good_deep h)
    have hp := (goodP_of h).len
    go_wp2_with fail
    have hnp := hR.len
    have hnp2 : p.length ≤ 1048576 := by omega
    clear hnp
    have ct0 : w1.drew.cell? ⟨w.heap.size, 0, none⟩ = some (.slice B m c) := ct
    have L1 := L0.drew
    have SP := hR.le L1
    have hok12 : Enc.ok (⟨0, 12, a, 0⟩ : Lin) := lin_ok ha (by omega) (by omega)
    obtain ⟨U, HU⟩ : ∃ U, Hid (undL ⟨0, 12, a, 0⟩ p = U) := ⟨_, rfl⟩
    rw [HU.out] at HX HY
    refine wp_region_noPanic ?_
    refine wp_region_held_drew (S := fun w' => w'.cell? ⟨w.heap.size, 0, none⟩ = some (.slice B m c)) (by kernel_rfl) ct0 (fun hHeld => ?_)
    refine wpAnyH_takeL (i := 0) (v := ?_) rfl (by kernel_rfl) (by kernel_rfl) (by kernel_rfl) (fun _ _ _ h => h) (Or.inl ⟨by rfl, ?_⟩) (by assumption) ?_
    rotate_left 1
    · (intro w hSw; (try dsimp only at hSw); go_simp; try with_reducible rfl)
    try simp only [Act.put, List.setIfInBounds_toArray, List.set_cons_zero, List.set_cons_succ]
    refine wpAnyH_takeL (i := 1) (v := ?_) rfl (by kernel_rfl) (by kernel_rfl) (by kernel_rfl) (fun _ _ _ h => h) (Or.inl ⟨by rfl, ?_⟩) (by assumption) ?_
    rotate_left 1
    · (intro w hSw; (try dsimp only at hSw); go_simp; try with_reducible rfl)
    try simp only [Act.put, List.setIfInBounds_toArray, List.set_cons_zero, List.set_cons_succ]
    refine wpAnyH_takeL (i := 2) (v := ?_) rfl (by kernel_rfl) (by kernel_rfl) (by kernel_rfl) (fun _ _ _ h => h) (Or.inl ⟨by rfl, ?_⟩) (by assumption) ?_
    rotate_left 1
    · (intro w hSw; (try dsimp only at hSw); go_simp; try with_reducible rfl)
    try simp only [Act.put, List.setIfInBounds_toArray, List.set_cons_zero, List.set_cons_succ]
    refine wpAnyH_takeL (i := 3) (v := ?_) rfl (by kernel_rfl) (by kernel_rfl) (by kernel_rfl) (fun _ _ _ h => h) (Or.inl ⟨by rfl, ?_⟩) (by assumption) ?_
    rotate_left 1
    · (intro w hSw; (try dsimp only at hSw); go_simp; try with_reducible rfl)
    try simp only [Act.put, List.setIfInBounds_toArray, List.set_cons_zero, List.set_cons_succ]
    refine wpAnyH_ready (rs := [4]) (by kernel_rfl) (by simp) (AllReadyH.consL (i := 4) rfl (fun K hK => ?_) AllReadyH.nil)
    go_simp
    go_at_call 73
    refine (iunder_any ⟨0, 12, a, 0⟩ A n cap p hnp2 hok12 HD.out _ SP).mono ?_
    rintro e w3 ⟨v3, rfl, D3, hle⟩
    rw [HU.out] at D3
    have ctC := (hle.cell (show w.heap.size < w1.drew.heap.size from zt)).trans ct0
    have L3 := L1.trans hle
    have ztC := Nat.lt_of_lt_of_le (show w.heap.size < w1.drew.heap.size from zt) hle.size
    have STC := hT.le L3
    obtain ⟨A3, q3, rfl, S3, hB3⟩ := D3.form (by decide)
    refine hK.out _ _ (ctC) (fun hHeld => ?_)
    clear hK K
    try simp only [Act.put, List.setIfInBounds_toArray, List.set_cons_zero, List.set_cons_succ]
    refine wpAnyH_ready (rs := [5]) (by kernel_rfl) (by simp) (AllReadyH.consL (i := 5) rfl (fun K hK => ?_) AllReadyH.nil)
    go_simp
    go_at_call 68
    refine (iifValid_any B A3 m c _ q3 xs U hm _ STC S3).mono ?_
    rintro e w4 ⟨rfl, hle4⟩
    have ctD := (hle4.cell ztC).trans ctC
    have L4 := L3.trans hle4
    have D4 := chk_owd (xs := xs) ((D3.mono L1).le hle4)
    refine hK.out _ _ (ctD) (fun hHeld => ?_)
    clear hK K
    try simp only [Act.put, List.setIfInBounds_toArray, List.set_cons_zero, List.set_cons_succ]
    refine wpAnyH_takeL (i := 6) (v := ?_) rfl (by kernel_rfl) (by kernel_rfl) (by kernel_rfl) (fun _ _ _ h => h) (Or.inl ⟨by rfl, ?_⟩) (by assumption) ?_
    rotate_left 1
    · (intro w hSw; (try dsimp only at hSw); go_simp; try with_reducible rfl)
    try simp only [Act.put, List.setIfInBounds_toArray, List.set_cons_zero, List.set_cons_succ]
    refine wpAnyH_takeL (i := 7) (v := ?_) rfl (by kernel_rfl) (by kernel_rfl) (by kernel_rfl) (fun _ _ _ h => h) (Or.inl ⟨by rfl, ?_⟩) (by assumption) ?_
    rotate_left 1
    · (intro w hSw; (try dsimp only at hSw); go_simp; try with_reducible rfl)
    try simp only [Act.put, List.setIfInBounds_toArray, List.set_cons_zero, List.set_cons_succ]
    refine wpAnyH_takeL (i := 8) (v := ?_) rfl (by kernel_rfl) (by kernel_rfl) (by kernel_rfl) (fun _ _ _ h => h) (Or.inl ⟨by rfl, ?_⟩) (by assumption) ?_
    rotate_left 1
    · (intro w hSw; (try dsimp only at hSw); go_simp; try with_reducible rfl)
    try simp only [Act.put, List.setIfInBounds_toArray, List.set_cons_zero, List.set_cons_succ]
    refine wpAnyH_takeL (i := 9) (v := ?_) rfl (by kernel_rfl) (by kernel_rfl) (by kernel_rfl) (fun _ _ _ h => h) (Or.inl ⟨by rfl, ?_⟩) (by assumption) ?_
    rotate_left 1
    · (intro w hSw; (try dsimp only at hSw); go_simp; try with_reducible rfl)
    try simp only [Act.put, List.setIfInBounds_toArray, List.set_cons_zero, List.set_cons_succ]
    refine wpAnyH_done (by kernel_rfl) ?_ _
    refine NoPanic.normal ?_
    have HO : Hid (Owd 67 w w4 (chkV xs U (.slice A3 U.length q3)) (ilX xs p a)) := by show Owd _ _ _ _ _; rw [HX.out]; exact D4
    go_wp2
    exact bodyPost_ret (v := .tuple #[chkV xs U (.slice A3 U.length q3), .bool (vp xs U)]) (by simp [results, Try.results33, go_sem]) rfl ⟨_, ret2 HY.out.symm rfl, HO.out, L4⟩
end Go.Proofs.Ytjcellhpmooifaa
