/- one text of YpE, YpEb -/
import Derived.Test.YtkcnjoikdalgjaaDoorDp8
namespace Go.Proofs.YtkcnjoikdalgjaaDoor
open Go.RowKit
set_option linter.unusedVariables false
section
theorem str_sumL {P : Program} (a b : ByteArray) (ha : a.size ≤ 1000000) (hb : b.size ≤ 1000000) : ∀ w, (Op.stringOp .add a b).run P w = .ok (.string (a ++ b)) w := fun w => run_string_add w a b (by omega) (by omega)
def KwO (w : World) (e : Ending) (w' : World) : Prop := ∃ b, e = .returned (.slice (some ⟨b, 0, none⟩) 13 13) ∧ (∀ k : Fin 13, w'.cell? ⟨b, k.1, none⟩ = some (.string (tb (lwAt k.1)))) ∧ Sl w' (some ⟨b, 0, none⟩) 13 13 (lwL.map tb) ∧ b < w'.heap.size ∧ Le w w'
theorem kw_sl (w : World) : Sl (w.alloc (.cells lwCells 9)) (some ⟨w.heap.size, 0, none⟩) 13 13 (lwL.map tb) :=
  Sl.of_rowF (hp_new _ _ rfl) rfl rfl (by omega) (fun x hx => by
    obtain ⟨l, hl, rfl⟩ := List.mem_map.1 hx
    have : ∀ l ∈ lwL, l.length ≤ 8 := by decide
    have := this l hl
    show l.length ≤ 9223372036854775807; omega)
set_option maxRecDepth 100000 in
theorem kindWords_any (w : World) : Calls Tryd.prog 50 #[] w (KwO w) := by
  have hS := Lib.hid (kw_sl w)
  have hC : Hid (∀ k : Fin 13, (w.alloc (.cells lwCells 9)).cell? ⟨w.heap.size, k.1, none⟩ = some (.string (tb (lwAt k.1)))) := fun k => by
    rw [World.cell?_alloc_at _ _ _ _ rfl]; exact lwCells_at k
  go_enter Tryd.func50, Tryd.ntmps50
  go_wp2
  go_ret
  exact ⟨w.heap.size, rfl, hC.out, hS.out, by simp, Le.new w _⟩
def raiseU : ByteArray := ⟨#[114, 97, 105, 115, 101, 32]⟩
def exceptU : ByteArray := ⟨#[101, 120, 99, 101, 112, 116, 32]⟩
def withU : ByteArray := ⟨#[119, 105, 116, 104, 32]⟩
def quietU : ByteArray := ⟨#[32, 113, 117, 105, 101, 116]⟩
theorem u_num {K : List UInt8} {u : ByteArray} {l : List UInt8} (h : bl u = l) : tb K ++ spT ++ u = tb (K ++ 32 :: l) := bl_inj (by rw [bl_app, bl_app, h, bl_tb, bl_tb, bl_sp]; simp)
theorem u_with {u : ByteArray} {l : List UInt8} (h : bl u = l) : withU ++ u = tb (lwWith ++ 32 :: l) := bl_inj (by rw [bl_app, h, bl_tb]; rfl)
theorem u_quiet {u : ByteArray} {l : List UInt8} (h : bl u = l) : withU ++ u ++ quietU = tb (lwWith ++ 32 :: (l ++ 32 :: lwQuiet)) := bl_inj (by
  rw [bl_app, bl_app, h, bl_tb]
  show [119, 105, 116, 104, 32] ++ l ++ [32, 113, 117, 105, 101, 116] = _
  unfold lwWith lwQuiet; simp)
theorem u_except {u : ByteArray} {l : List UInt8} (h : bl u = l) : exceptU ++ u = tb (lwExcept ++ 32 :: l) := bl_inj (by rw [bl_app, h, bl_tb]; rfl)
theorem u_raise {v u : ByteArray} {l : List UInt8} (h : bl u = l) : raiseU ++ v ++ spT ++ u = tb (lwRaise ++ 32 :: (bl v ++ 32 :: l)) := bl_inj (by
  rw [bl_app, bl_app, bl_app, h, bl_tb, bl_sp]
  show ([114, 97, 105, 115, 101, 32] ++ bl v ++ [32]) ++ l = _
  unfold lwRaise
  simp)
set_option maxHeartbeats 4000000 in
set_option maxRecDepth 100000 in
theorem slineText_any (B : Option Addr) (m c : Nat) (xs : List Cls) (x : Lin) (w : World) (hT : Sl w B m c xs) (g : Good xs) (hx : numS xs x.kind x.a x.b = true) (h0 : 0 ≤ x.depth) :
    Calls Tryd.prog 27 #[.agg #[.slice B m c], .agg #[.int .i64 x.depth, .int .i64 x.kind, .int .i64 x.a, .int .i64 x.b]] w fun e w' => e = .returned (.string (tb (lnT xs x))) ∧ Le w w' := by
  obtain ⟨r, hr⟩ : ∃ r, Hid (tb (lnT xs x) = r) := ⟨_, Lib.hid rfl⟩
  obtain ⟨d, kd, a, b⟩ := x
  dsimp only at hx h0 hr ⊢
  obtain ⟨W, hW, ct, zt, -, x1, x2, x3, zx, L0⟩ := boxTLn w (.slice B m c) (.int .i64 d) (.int .i64 kd) (.int .i64 a) (.int .i64 b) 31 42
  have HW := Lib.hid hW
  clear hW
  have T1 := hT.le L0
  have HKW := Lib.hid (fun W => kindWords_any W)
  unfold KwO at HKW
  obtain rfl := hT.len
  obtain ⟨D, rfl, hc⟩ := ln_cases hx h0
  clear hT hx h0
  rcases hc with ⟨n, hn, hk, rfl, rfl⟩ | ⟨n, hn, rfl, rfl, hb⟩ | ⟨k, n, hk, hn, rfl, rfl, rfl⟩ | ⟨k, hk, rfl, rfl, rfl⟩ | ⟨k0, k10, n1, n2, n3, n4, rfl, rfl⟩
  · rcases hk with rfl | rfl | rfl
    · -- 1
      have hB : Hid (tb lwLog ++ spT ++ tb (numL n) = r) := by show _ = _; rw [← hr.out, lnT_num n (by omega), u_num (bl_tb _)]; rfl
      have zn := numL_szs hn
      have zk : (tb lwLog).size ≤ 8 := lw_szs 1
      have HI := Lib.hid (fun W => number2_any n W hn)
      have HC : Hid (∀ (W : World) (b : Nat), (∀ k : Fin 13, W.cell? ⟨b, k.1, none⟩ = some (.string (tb (lwAt k.1)))) → W.cell? ⟨b, 1, none⟩ = some (.string (tb lwLog))) := fun W b h => h 1
      generalize tb (numL n) = u at *
      generalize tb lwLog = kw at *
      have s1 : ∀ W, (Op.stringOp .add kw ⟨#[32]⟩).run Tryd.prog W = .ok (.string (kw ++ spT)) W := str_sumL kw spT (by omega) (by decide)
      have z1 : (kw ++ spT).size ≤ 9 := by rw [ByteArray.size_append]; have : spT.size = 1 := rfl; omega
      obtain ⟨y1, hy1⟩ : ∃ y, kw ++ spT = y := ⟨_, rfl⟩
      rw [hy1] at s1 z1 hB
      have s2 : ∀ W, (Op.stringOp .add y1 u).run Tryd.prog W = .ok (.string (y1 ++ u)) W := str_sumL y1 u (by omega) (by omega)
      rw [hB.out] at s2
      clear g hB hy1 z1 zn zk T1
      go_enter Tryd.func27, Tryd.ntmps27
      go_wp2_with fail
      rw [HW.out]
      have d1 : W.drew.cell? ⟨w.heap.size + 1, 1, none⟩ = some (.int .i64 1) := x1
      have d2 : W.drew.cell? ⟨w.heap.size + 1, 2, none⟩ = some (.int .i64 n) := x2
      have zd : w.heap.size + 1 < W.drew.heap.size := zx
      have LC : Le w W.drew := L0.trans (Le.refl W).drew
      clear ct x1 x2 x3 zt L0 HW zx
      refine wp_region_Z (fun w' => w'.cell? ⟨w.heap.size + 1, 1, none⟩ = some (.int .i64 1) ∧ w'.cell? ⟨w.heap.size + 1, 2, none⟩ = some (.int .i64 n)) [] (by kernel_rfl) ?_
      generalize W.drew = WD at *
      refine wpAnyZ_take (i := 1) (v := ?_) rfl (by kernel_rfl) (fun _ _ _ h => h) (Or.inl ⟨by rfl, ?_⟩) (⟨d1, d2⟩) ?_
      rotate_left 1
      · (intro w hSw; (try dsimp only at hSw); go_simp; try with_reducible rfl)
      try simp only [Act.put, List.setIfInBounds_toArray, List.set_cons_zero, List.set_cons_succ]
      refine wpAnyZ_take (i := 2) (v := ?_) rfl (by kernel_rfl) (fun _ _ _ h => h) (Or.inl ⟨by rfl, ?_⟩) (⟨d1, d2⟩) ?_
      rotate_left 1
      · (intro w hSw; (try dsimp only at hSw); go_simp; try with_reducible rfl)
      try simp only [Act.put, List.setIfInBounds_toArray, List.set_cons_zero, List.set_cons_succ]
      refine wpAnyZ_take (i := 6) (v := ?_) rfl (by kernel_rfl) (fun _ _ _ h => h) (Or.inl ⟨by rfl, ?_⟩) (⟨d1, d2⟩) ?_
      rotate_left 1
      · (intro w hSw; (try dsimp only at hSw); go_simp; try with_reducible rfl)
      try simp only [Act.put, List.setIfInBounds_toArray, List.set_cons_zero, List.set_cons_succ]
      refine wpAnyZ_take (i := 7) (v := ?_) rfl (by kernel_rfl) (fun _ _ _ h => h) (Or.inl ⟨by rfl, ?_⟩) (⟨d1, d2⟩) ?_
      rotate_left 1
      · (intro w hSw; (try dsimp only at hSw); go_simp; try with_reducible rfl)
      try simp only [Act.put, List.setIfInBounds_toArray, List.set_cons_zero, List.set_cons_succ]
      refine wpAnyZ_one (i := 0) (by kernel_rfl) (ReadyZ.mk rfl (fun K hK => ?_))
      go_simp
      go_at_call 50
      refine (HKW.out WD).mono ?_
      rintro e w1 ⟨b, rfl, hc, -, -, hle⟩
      replace hc := HC.out w1 b hc
      replace LC := LC.trans hle
      replace d1 := (hle.cell zd).trans d1
      replace d2 := (hle.cell zd).trans d2
      clear hle zd
      dsimp only
      refine hK.out _ _ (fun _ => ⟨d1, d2⟩) ?_
      clear hK K
      try simp only [Act.put, List.setIfInBounds_toArray, List.set_cons_zero, List.set_cons_succ]
      refine wpAnyZ_take (i := 3) (v := ?_) rfl (by kernel_rfl) (fun _ _ _ h => h) (Or.inl ⟨by rfl, ?_⟩) (⟨d1, d2⟩) ?_
      rotate_left 1
      · (intro w hSw; (try dsimp only at hSw); go_simp; try with_reducible rfl)
      try simp only [Act.put, List.setIfInBounds_toArray, List.set_cons_zero, List.set_cons_succ]
      refine wpAnyZ_two (i := 4) (k := 8) (by kernel_rfl) (ReadyZ.mk rfl (fun K hK => ?_)) (ReadyZ.mk rfl (fun K hK => ?_))
      · go_simp
        refine hK.out _ _ (fun _ => ⟨d1, d2⟩) ?_
        clear hK K
        try simp only [Act.put, List.setIfInBounds_toArray, List.set_cons_zero, List.set_cons_succ]
        refine wpAnyZ_take (i := 5) (v := ?_) rfl (by kernel_rfl) (fun _ _ _ h => h) (Or.inl ⟨by rfl, ?_⟩) (⟨d1, d2⟩) ?_
        rotate_left 1
        · (intro w hSw; (try dsimp only at hSw); go_simp; try with_reducible rfl)
        try simp only [Act.put, List.setIfInBounds_toArray, List.set_cons_zero, List.set_cons_succ]
        refine wpAnyZ_one (i := 8) (by kernel_rfl) (ReadyZ.mk rfl (fun K hK => ?_))
        go_simp
        go_at_call 51
        refine (HI.out w1).mono ?_
        rintro e w2 ⟨rfl, rfl⟩
        dsimp only
        refine hK.out _ _ (fun _ => ⟨d1, d2⟩) ?_
        clear hK K
        try simp only [Act.put, List.setIfInBounds_toArray, List.set_cons_zero, List.set_cons_succ]
        refine wpAnyZ_take (i := 9) (v := ?_) rfl (by kernel_rfl) (fun _ _ _ h => h) (Or.inl ⟨by rfl, ?_⟩) (⟨d1, d2⟩) ?_
        rotate_left 1
        · (intro w hSw; (try dsimp only at hSw); go_simp; try with_reducible rfl)
        try simp only [Act.put, List.setIfInBounds_toArray, List.set_cons_zero, List.set_cons_succ]
        refine wpAnyZ_take (i := 10) (v := ?_) rfl (by kernel_rfl) (fun _ _ _ h => h) (Or.inl ⟨by rfl, ?_⟩) (⟨d1, d2⟩) ?_
        rotate_left 1
        · (intro w hSw; (try dsimp only at hSw); go_simp; try with_reducible rfl)
        try simp only [Act.put, List.setIfInBounds_toArray, List.set_cons_zero, List.set_cons_succ]
        refine wpAnyZ_done (by kernel_rfl) ?_ _
        go_wp2
        go_ret
        exact ⟨ret_str (by rw [hr.out]), LC⟩
      · go_simp
        go_at_call 51
        refine (HI.out w1).mono ?_
        rintro e w2 ⟨rfl, rfl⟩
        dsimp only
        refine hK.out _ _ (fun _ => ⟨d1, d2⟩) ?_
        clear hK K
        try simp only [Act.put, List.setIfInBounds_toArray, List.set_cons_zero, List.set_cons_succ]
        refine wpAnyZ_one (i := 4) (by kernel_rfl) (ReadyZ.mk rfl (fun K hK => ?_))
        go_simp
        refine hK.out _ _ (fun _ => ⟨d1, d2⟩) ?_
        clear hK K
        try simp only [Act.put, List.setIfInBounds_toArray, List.set_cons_zero, List.set_cons_succ]
        refine wpAnyZ_take (i := 5) (v := ?_) rfl (by kernel_rfl) (fun _ _ _ h => h) (Or.inl ⟨by rfl, ?_⟩) (⟨d1, d2⟩) ?_
        rotate_left 1
        · (intro w hSw; (try dsimp only at hSw); go_simp; try with_reducible rfl)
        try simp only [Act.put, List.setIfInBounds_toArray, List.set_cons_zero, List.set_cons_succ]
        refine wpAnyZ_take (i := 9) (v := ?_) rfl (by kernel_rfl) (fun _ _ _ h => h) (Or.inl ⟨by rfl, ?_⟩) (⟨d1, d2⟩) ?_
        rotate_left 1
        · (intro w hSw; (try dsimp only at hSw); go_simp; try with_reducible rfl)
        try simp only [Act.put, List.setIfInBounds_toArray, List.set_cons_zero, List.set_cons_succ]
        refine wpAnyZ_take (i := 10) (v := ?_) rfl (by kernel_rfl) (fun _ _ _ h => h) (Or.inl ⟨by rfl, ?_⟩) (⟨d1, d2⟩) ?_
        rotate_left 1
        · (intro w hSw; (try dsimp only at hSw); go_simp; try with_reducible rfl)
        try simp only [Act.put, List.setIfInBounds_toArray, List.set_cons_zero, List.set_cons_succ]
        refine wpAnyZ_done (by kernel_rfl) ?_ _
        go_wp2
        go_ret
        exact ⟨ret_str (by rw [hr.out]), LC⟩
    · -- 4
      have hB : Hid (tb lwReturn ++ spT ++ tb (numL n) = r) := by show _ = _; rw [← hr.out, lnT_num n (by omega), u_num (bl_tb _)]; rfl
      have zn := numL_szs hn
      have zk : (tb lwReturn).size ≤ 8 := lw_szs 4
      have HI := Lib.hid (fun W => number2_any n W hn)
      have HC : Hid (∀ (W : World) (b : Nat), (∀ k : Fin 13, W.cell? ⟨b, k.1, none⟩ = some (.string (tb (lwAt k.1)))) → W.cell? ⟨b, 4, none⟩ = some (.string (tb lwReturn))) := fun W b h => h 4
      generalize tb (numL n) = u at *
      generalize tb lwReturn = kw at *
      have s1 : ∀ W, (Op.stringOp .add kw ⟨#[32]⟩).run Tryd.prog W = .ok (.string (kw ++ spT)) W := str_sumL kw spT (by omega) (by decide)
      have z1 : (kw ++ spT).size ≤ 9 := by rw [ByteArray.size_append]; have : spT.size = 1 := rfl; omega
      obtain ⟨y1, hy1⟩ : ∃ y, kw ++ spT = y := ⟨_, rfl⟩
      rw [hy1] at s1 z1 hB
      have s2 : ∀ W, (Op.stringOp .add y1 u).run Tryd.prog W = .ok (.string (y1 ++ u)) W := str_sumL y1 u (by omega) (by omega)
      rw [hB.out] at s2
      clear g hB hy1 z1 zn zk T1
      go_enter Tryd.func27, Tryd.ntmps27
      go_wp2_with fail
      rw [HW.out]
      have d1 : W.drew.cell? ⟨w.heap.size + 1, 1, none⟩ = some (.int .i64 4) := x1
      have d2 : W.drew.cell? ⟨w.heap.size + 1, 2, none⟩ = some (.int .i64 n) := x2
      have zd : w.heap.size + 1 < W.drew.heap.size := zx
      have LC : Le w W.drew := L0.trans (Le.refl W).drew
      clear ct x1 x2 x3 zt L0 HW zx
      refine wp_region_Z (fun w' => w'.cell? ⟨w.heap.size + 1, 1, none⟩ = some (.int .i64 4) ∧ w'.cell? ⟨w.heap.size + 1, 2, none⟩ = some (.int .i64 n)) [] (by kernel_rfl) ?_
      generalize W.drew = WD at *
      refine wpAnyZ_take (i := 1) (v := ?_) rfl (by kernel_rfl) (fun _ _ _ h => h) (Or.inl ⟨by rfl, ?_⟩) (⟨d1, d2⟩) ?_
      rotate_left 1
      · (intro w hSw; (try dsimp only at hSw); go_simp; try with_reducible rfl)
      try simp only [Act.put, List.setIfInBounds_toArray, List.set_cons_zero, List.set_cons_succ]
      refine wpAnyZ_take (i := 2) (v := ?_) rfl (by kernel_rfl) (fun _ _ _ h => h) (Or.inl ⟨by rfl, ?_⟩) (⟨d1, d2⟩) ?_
      rotate_left 1
      · (intro w hSw; (try dsimp only at hSw); go_simp; try with_reducible rfl)
      try simp only [Act.put, List.setIfInBounds_toArray, List.set_cons_zero, List.set_cons_succ]
      refine wpAnyZ_take (i := 6) (v := ?_) rfl (by kernel_rfl) (fun _ _ _ h => h) (Or.inl ⟨by rfl, ?_⟩) (⟨d1, d2⟩) ?_
      rotate_left 1
      · (intro w hSw; (try dsimp only at hSw); go_simp; try with_reducible rfl)
      try simp only [Act.put, List.setIfInBounds_toArray, List.set_cons_zero, List.set_cons_succ]
      refine wpAnyZ_take (i := 7) (v := ?_) rfl (by kernel_rfl) (fun _ _ _ h => h) (Or.inl ⟨by rfl, ?_⟩) (⟨d1, d2⟩) ?_
      rotate_left 1
      · (intro w hSw; (try dsimp only at hSw); go_simp; try with_reducible rfl)
      try simp only [Act.put, List.setIfInBounds_toArray, List.set_cons_zero, List.set_cons_succ]
      refine wpAnyZ_one (i := 0) (by kernel_rfl) (ReadyZ.mk rfl (fun K hK => ?_))
      go_simp
      go_at_call 50
      refine (HKW.out WD).mono ?_
      rintro e w1 ⟨b, rfl, hc, -, -, hle⟩
      replace hc := HC.out w1 b hc
      replace LC := LC.trans hle
      replace d1 := (hle.cell zd).trans d1
      replace d2 := (hle.cell zd).trans d2
      clear hle zd
      dsimp only
      refine hK.out _ _ (fun _ => ⟨d1, d2⟩) ?_
      clear hK K
      try simp only [Act.put, List.setIfInBounds_toArray, List.set_cons_zero, List.set_cons_succ]
      refine wpAnyZ_take (i := 3) (v := ?_) rfl (by kernel_rfl) (fun _ _ _ h => h) (Or.inl ⟨by rfl, ?_⟩) (⟨d1, d2⟩) ?_
      rotate_left 1
      · (intro w hSw; (try dsimp only at hSw); go_simp; try with_reducible rfl)
      try simp only [Act.put, List.setIfInBounds_toArray, List.set_cons_zero, List.set_cons_succ]
      refine wpAnyZ_two (i := 4) (k := 8) (by kernel_rfl) (ReadyZ.mk rfl (fun K hK => ?_)) (ReadyZ.mk rfl (fun K hK => ?_))
      · go_simp
        refine hK.out _ _ (fun _ => ⟨d1, d2⟩) ?_
        clear hK K
        try simp only [Act.put, List.setIfInBounds_toArray, List.set_cons_zero, List.set_cons_succ]
        refine wpAnyZ_take (i := 5) (v := ?_) rfl (by kernel_rfl) (fun _ _ _ h => h) (Or.inl ⟨by rfl, ?_⟩) (⟨d1, d2⟩) ?_
        rotate_left 1
        · (intro w hSw; (try dsimp only at hSw); go_simp; try with_reducible rfl)
        try simp only [Act.put, List.setIfInBounds_toArray, List.set_cons_zero, List.set_cons_succ]
        refine wpAnyZ_one (i := 8) (by kernel_rfl) (ReadyZ.mk rfl (fun K hK => ?_))
        go_simp
        go_at_call 51
        refine (HI.out w1).mono ?_
        rintro e w2 ⟨rfl, rfl⟩
        dsimp only
        refine hK.out _ _ (fun _ => ⟨d1, d2⟩) ?_
        clear hK K
        try simp only [Act.put, List.setIfInBounds_toArray, List.set_cons_zero, List.set_cons_succ]
        refine wpAnyZ_take (i := 9) (v := ?_) rfl (by kernel_rfl) (fun _ _ _ h => h) (Or.inl ⟨by rfl, ?_⟩) (⟨d1, d2⟩) ?_
        rotate_left 1
        · (intro w hSw; (try dsimp only at hSw); go_simp; try with_reducible rfl)
        try simp only [Act.put, List.setIfInBounds_toArray, List.set_cons_zero, List.set_cons_succ]
        refine wpAnyZ_take (i := 10) (v := ?_) rfl (by kernel_rfl) (fun _ _ _ h => h) (Or.inl ⟨by rfl, ?_⟩) (⟨d1, d2⟩) ?_
        rotate_left 1
        · (intro w hSw; (try dsimp only at hSw); go_simp; try with_reducible rfl)
        try simp only [Act.put, List.setIfInBounds_toArray, List.set_cons_zero, List.set_cons_succ]
        refine wpAnyZ_done (by kernel_rfl) ?_ _
        go_wp2
        go_ret
        exact ⟨ret_str (by rw [hr.out]), LC⟩
      · go_simp
        go_at_call 51
        refine (HI.out w1).mono ?_
        rintro e w2 ⟨rfl, rfl⟩
        dsimp only
        refine hK.out _ _ (fun _ => ⟨d1, d2⟩) ?_
        clear hK K
        try simp only [Act.put, List.setIfInBounds_toArray, List.set_cons_zero, List.set_cons_succ]
        refine wpAnyZ_one (i := 4) (by kernel_rfl) (ReadyZ.mk rfl (fun K hK => ?_))
        go_simp
        refine hK.out _ _ (fun _ => ⟨d1, d2⟩) ?_
        clear hK K
        try simp only [Act.put, List.setIfInBounds_toArray, List.set_cons_zero, List.set_cons_succ]
        refine wpAnyZ_take (i := 5) (v := ?_) rfl (by kernel_rfl) (fun _ _ _ h => h) (Or.inl ⟨by rfl, ?_⟩) (⟨d1, d2⟩) ?_
        rotate_left 1
        · (intro w hSw; (try dsimp only at hSw); go_simp; try with_reducible rfl)
        try simp only [Act.put, List.setIfInBounds_toArray, List.set_cons_zero, List.set_cons_succ]
        refine wpAnyZ_take (i := 9) (v := ?_) rfl (by kernel_rfl) (fun _ _ _ h => h) (Or.inl ⟨by rfl, ?_⟩) (⟨d1, d2⟩) ?_
        rotate_left 1
        · (intro w hSw; (try dsimp only at hSw); go_simp; try with_reducible rfl)
        try simp only [Act.put, List.setIfInBounds_toArray, List.set_cons_zero, List.set_cons_succ]
        refine wpAnyZ_take (i := 10) (v := ?_) rfl (by kernel_rfl) (fun _ _ _ h => h) (Or.inl ⟨by rfl, ?_⟩) (⟨d1, d2⟩) ?_
        rotate_left 1
        · (intro w hSw; (try dsimp only at hSw); go_simp; try with_reducible rfl)
        try simp only [Act.put, List.setIfInBounds_toArray, List.set_cons_zero, List.set_cons_succ]
        refine wpAnyZ_done (by kernel_rfl) ?_ _
        go_wp2
        go_ret
        exact ⟨ret_str (by rw [hr.out]), LC⟩
    · -- 12
      have hB : Hid (tb lwLoop ++ spT ++ tb (numL n) = r) := by show _ = _; rw [← hr.out, lnT_num n (by omega), u_num (bl_tb _)]; rfl
      have zn := numL_szs hn
      have zk : (tb lwLoop).size ≤ 8 := lw_szs 12
      have HI := Lib.hid (fun W => number2_any n W hn)
      have HC : Hid (∀ (W : World) (b : Nat), (∀ k : Fin 13, W.cell? ⟨b, k.1, none⟩ = some (.string (tb (lwAt k.1)))) → W.cell? ⟨b, 12, none⟩ = some (.string (tb lwLoop))) := fun W b h => h 12
      generalize tb (numL n) = u at *
      generalize tb lwLoop = kw at *
      have s1 : ∀ W, (Op.stringOp .add kw ⟨#[32]⟩).run Tryd.prog W = .ok (.string (kw ++ spT)) W := str_sumL kw spT (by omega) (by decide)
      have z1 : (kw ++ spT).size ≤ 9 := by rw [ByteArray.size_append]; have : spT.size = 1 := rfl; omega
      obtain ⟨y1, hy1⟩ : ∃ y, kw ++ spT = y := ⟨_, rfl⟩
      rw [hy1] at s1 z1 hB
      have s2 : ∀ W, (Op.stringOp .add y1 u).run Tryd.prog W = .ok (.string (y1 ++ u)) W := str_sumL y1 u (by omega) (by omega)
      rw [hB.out] at s2
      clear g hB hy1 z1 zn zk T1
      go_enter Tryd.func27, Tryd.ntmps27
      go_wp2_with fail
      rw [HW.out]
      have d1 : W.drew.cell? ⟨w.heap.size + 1, 1, none⟩ = some (.int .i64 12) := x1
      have d2 : W.drew.cell? ⟨w.heap.size + 1, 2, none⟩ = some (.int .i64 n) := x2
      have zd : w.heap.size + 1 < W.drew.heap.size := zx
      have LC : Le w W.drew := L0.trans (Le.refl W).drew
      clear ct x1 x2 x3 zt L0 HW zx
      refine wp_region_Z (fun w' => w'.cell? ⟨w.heap.size + 1, 1, none⟩ = some (.int .i64 12) ∧ w'.cell? ⟨w.heap.size + 1, 2, none⟩ = some (.int .i64 n)) [] (by kernel_rfl) ?_
      generalize W.drew = WD at *
      refine wpAnyZ_take (i := 1) (v := ?_) rfl (by kernel_rfl) (fun _ _ _ h => h) (Or.inl ⟨by rfl, ?_⟩) (⟨d1, d2⟩) ?_
      rotate_left 1
      · (intro w hSw; (try dsimp only at hSw); go_simp; try with_reducible rfl)
      try simp only [Act.put, List.setIfInBounds_toArray, List.set_cons_zero, List.set_cons_succ]
      refine wpAnyZ_take (i := 2) (v := ?_) rfl (by kernel_rfl) (fun _ _ _ h => h) (Or.inl ⟨by rfl, ?_⟩) (⟨d1, d2⟩) ?_
      rotate_left 1
      · (intro w hSw; (try dsimp only at hSw); go_simp; try with_reducible rfl)
      try simp only [Act.put, List.setIfInBounds_toArray, List.set_cons_zero, List.set_cons_succ]
      refine wpAnyZ_take (i := 6) (v := ?_) rfl (by kernel_rfl) (fun _ _ _ h => h) (Or.inl ⟨by rfl, ?_⟩) (⟨d1, d2⟩) ?_
      rotate_left 1
      · (intro w hSw; (try dsimp only at hSw); go_simp; try with_reducible rfl)
      try simp only [Act.put, List.setIfInBounds_toArray, List.set_cons_zero, List.set_cons_succ]
      refine wpAnyZ_take (i := 7) (v := ?_) rfl (by kernel_rfl) (fun _ _ _ h => h) (Or.inl ⟨by rfl, ?_⟩) (⟨d1, d2⟩) ?_
      rotate_left 1
      · (intro w hSw; (try dsimp only at hSw); go_simp; try with_reducible rfl)
      try simp only [Act.put, List.setIfInBounds_toArray, List.set_cons_zero, List.set_cons_succ]
      refine wpAnyZ_one (i := 0) (by kernel_rfl) (ReadyZ.mk rfl (fun K hK => ?_))
      go_simp
      go_at_call 50
      refine (HKW.out WD).mono ?_
      rintro e w1 ⟨b, rfl, hc, -, -, hle⟩
      replace hc := HC.out w1 b hc
      replace LC := LC.trans hle
      replace d1 := (hle.cell zd).trans d1
      replace d2 := (hle.cell zd).trans d2
      clear hle zd
      dsimp only
      refine hK.out _ _ (fun _ => ⟨d1, d2⟩) ?_
      clear hK K
      try simp only [Act.put, List.setIfInBounds_toArray, List.set_cons_zero, List.set_cons_succ]
      refine wpAnyZ_take (i := 3) (v := ?_) rfl (by kernel_rfl) (fun _ _ _ h => h) (Or.inl ⟨by rfl, ?_⟩) (⟨d1, d2⟩) ?_
      rotate_left 1
      · (intro w hSw; (try dsimp only at hSw); go_simp; try with_reducible rfl)
      try simp only [Act.put, List.setIfInBounds_toArray, List.set_cons_zero, List.set_cons_succ]
      refine wpAnyZ_two (i := 4) (k := 8) (by kernel_rfl) (ReadyZ.mk rfl (fun K hK => ?_)) (ReadyZ.mk rfl (fun K hK => ?_))
      · go_simp
        refine hK.out _ _ (fun _ => ⟨d1, d2⟩) ?_
        clear hK K
        try simp only [Act.put, List.setIfInBounds_toArray, List.set_cons_zero, List.set_cons_succ]
        refine wpAnyZ_take (i := 5) (v := ?_) rfl (by kernel_rfl) (fun _ _ _ h => h) (Or.inl ⟨by rfl, ?_⟩) (⟨d1, d2⟩) ?_
        rotate_left 1
        · (intro w hSw; (try dsimp only at hSw); go_simp; try with_reducible rfl)
        try simp only [Act.put, List.setIfInBounds_toArray, List.set_cons_zero, List.set_cons_succ]
        refine wpAnyZ_one (i := 8) (by kernel_rfl) (ReadyZ.mk rfl (fun K hK => ?_))
        go_simp
        go_at_call 51
        refine (HI.out w1).mono ?_
        rintro e w2 ⟨rfl, rfl⟩
        dsimp only
        refine hK.out _ _ (fun _ => ⟨d1, d2⟩) ?_
        clear hK K
        try simp only [Act.put, List.setIfInBounds_toArray, List.set_cons_zero, List.set_cons_succ]
        refine wpAnyZ_take (i := 9) (v := ?_) rfl (by kernel_rfl) (fun _ _ _ h => h) (Or.inl ⟨by rfl, ?_⟩) (⟨d1, d2⟩) ?_
        rotate_left 1
        · (intro w hSw; (try dsimp only at hSw); go_simp; try with_reducible rfl)
        try simp only [Act.put, List.setIfInBounds_toArray, List.set_cons_zero, List.set_cons_succ]
        refine wpAnyZ_take (i := 10) (v := ?_) rfl (by kernel_rfl) (fun _ _ _ h => h) (Or.inl ⟨by rfl, ?_⟩) (⟨d1, d2⟩) ?_
        rotate_left 1
        · (intro w hSw; (try dsimp only at hSw); go_simp; try with_reducible rfl)
        try simp only [Act.put, List.setIfInBounds_toArray, List.set_cons_zero, List.set_cons_succ]
        refine wpAnyZ_done (by kernel_rfl) ?_ _
        go_wp2
        go_ret
        exact ⟨ret_str (by rw [hr.out]), LC⟩
      · go_simp
        go_at_call 51
        refine (HI.out w1).mono ?_
        rintro e w2 ⟨rfl, rfl⟩
        dsimp only
        refine hK.out _ _ (fun _ => ⟨d1, d2⟩) ?_
        clear hK K
        try simp only [Act.put, List.setIfInBounds_toArray, List.set_cons_zero, List.set_cons_succ]
        refine wpAnyZ_one (i := 4) (by kernel_rfl) (ReadyZ.mk rfl (fun K hK => ?_))
        go_simp
        refine hK.out _ _ (fun _ => ⟨d1, d2⟩) ?_
        clear hK K
        try simp only [Act.put, List.setIfInBounds_toArray, List.set_cons_zero, List.set_cons_succ]
        refine wpAnyZ_take (i := 5) (v := ?_) rfl (by kernel_rfl) (fun _ _ _ h => h) (Or.inl ⟨by rfl, ?_⟩) (⟨d1, d2⟩) ?_
        rotate_left 1
        · (intro w hSw; (try dsimp only at hSw); go_simp; try with_reducible rfl)
        try simp only [Act.put, List.setIfInBounds_toArray, List.set_cons_zero, List.set_cons_succ]
        refine wpAnyZ_take (i := 9) (v := ?_) rfl (by kernel_rfl) (fun _ _ _ h => h) (Or.inl ⟨by rfl, ?_⟩) (⟨d1, d2⟩) ?_
        rotate_left 1
        · (intro w hSw; (try dsimp only at hSw); go_simp; try with_reducible rfl)
        try simp only [Act.put, List.setIfInBounds_toArray, List.set_cons_zero, List.set_cons_succ]
        refine wpAnyZ_take (i := 10) (v := ?_) rfl (by kernel_rfl) (fun _ _ _ h => h) (Or.inl ⟨by rfl, ?_⟩) (⟨d1, d2⟩) ?_
        rotate_left 1
        · (intro w hSw; (try dsimp only at hSw); go_simp; try with_reducible rfl)
        try simp only [Act.put, List.setIfInBounds_toArray, List.set_cons_zero, List.set_cons_succ]
        refine wpAnyZ_done (by kernel_rfl) ?_ _
        go_wp2
        go_ret
        exact ⟨ret_str (by rw [hr.out]), LC⟩
  · rcases hb with rfl | rfl
    · -- 11, 0
      have hB : Hid (withU ++ tb (numL n) = r) := by show _ = _; rw [← hr.out, lnT_with0 n (by omega), u_with (bl_tb _)]
      have zn := numL_szs hn
      have HI := Lib.hid (fun W => number2_any n W hn)
      generalize tb (numL n) = u at *
      have s1 : ∀ W, (Op.stringOp .add ⟨#[119, 105, 116, 104, 32]⟩ u).run Tryd.prog W = .ok (.string (withU ++ u)) W := str_sumL withU u (by decide) (by omega)
      rw [hB.out] at s1
      clear g hB zn T1 HKW
      have HX1 := HW.out
      subst HX1
      go_enter Tryd.func27, Tryd.ntmps27
      go_wp2_with fail
      refine (HI.out _).mono ?_
      rintro e w1 ⟨rfl, rfl⟩
      go_wp2
      go_ret
      exact ⟨ret_str (by rw [hr.out]), L0⟩
    · -- 11, 1
      have hB : Hid (withU ++ tb (numL n) ++ quietU = r) := by show _ = _; rw [← hr.out, lnT_with1 n, u_quiet (bl_tb _)]
      have zn := numL_szs hn
      have HI := Lib.hid (fun W => number2_any n W hn)
      generalize tb (numL n) = u at *
      have s1 : ∀ W, (Op.stringOp .add ⟨#[119, 105, 116, 104, 32]⟩ u).run Tryd.prog W = .ok (.string (withU ++ u)) W := str_sumL withU u (by decide) (by omega)
      have z1 : (withU ++ u).size ≤ 8 := by rw [ByteArray.size_append]; have : withU.size = 5 := rfl; omega
      obtain ⟨y1, hy1⟩ : ∃ y, withU ++ u = y := ⟨_, rfl⟩
      rw [hy1] at s1 z1 hB
      have s2 : ∀ W, (Op.stringOp .add y1 ⟨#[32, 113, 117, 105, 101, 116]⟩).run Tryd.prog W = .ok (.string (y1 ++ quietU)) W := str_sumL y1 quietU (by omega) (by decide)
      rw [hB.out] at s2
      clear g hB zn T1 HKW hy1 z1
      have HX1 := HW.out
      subst HX1
      go_enter Tryd.func27, Tryd.ntmps27
      go_wp2_with fail
      refine (HI.out _).mono ?_
      rintro e w1 ⟨rfl, rfl⟩
      go_wp2
      go_ret
      exact ⟨ret_str (by rw [hr.out]), L0⟩
  · -- 2
    have hB : Hid (raiseU ++ xs[k].name ++ spT ++ tb (numL n) = r) := by show _ = _; rw [← hr.out, lnT_raise k n, clN_at hk, u_raise (bl_tb _)]
    have zn := numL_szs hn
    have hnn := (name_rng (g.name k hk)).2.2
    rw [bl_len] at hnn
    obtain ⟨b, off, rfl, hb, q0, -, -⟩ := T1.cls_at hk
    have hkm : (k : Int) < (xs.length : Int) := by omega
    have HI := Lib.hid (fun W => number2_any n W hn)
    generalize tb (numL n) = u at *
    generalize xs[k].name = v at *
    have s1 : ∀ W, (Op.stringOp .add ⟨#[114, 97, 105, 115, 101, 32]⟩ v).run Tryd.prog W = .ok (.string (raiseU ++ v)) W := str_sumL raiseU v (by decide) (by omega)
    have z1 : (raiseU ++ v).size ≤ 20 := by rw [ByteArray.size_append]; have : raiseU.size = 6 := rfl; omega
    obtain ⟨y1, hy1⟩ : ∃ y, raiseU ++ v = y := ⟨_, rfl⟩
    rw [hy1] at s1 z1 hB
    have s2 : ∀ W, (Op.stringOp .add y1 ⟨#[32]⟩).run Tryd.prog W = .ok (.string (y1 ++ spT)) W := str_sumL y1 spT (by omega) (by decide)
    have z2 : (y1 ++ spT).size ≤ 21 := by rw [ByteArray.size_append]; have : spT.size = 1 := rfl; omega
    obtain ⟨y2, hy2⟩ : ∃ y, y1 ++ spT = y := ⟨_, rfl⟩
    rw [hy2] at s2 z2 hB
    have s3 : ∀ W, (Op.stringOp .add y2 u).run Tryd.prog W = .ok (.string (y2 ++ u)) W := str_sumL y2 u (by omega) (by omega)
    rw [hB.out] at s3
    clear g hB hy1 hy2 z1 z2 zn hnn HKW
    have HX1 := HW.out
    subst HX1
    go_enter Tryd.func27, Tryd.ntmps27
    go_wp2_with fail
    generalize (w.alloc (.cells #[.slice (some ⟨b, off, none⟩) xs.length c] 31)).alloc _ = W at *
    have E0 := cell_ext zt ct
    have E1 := cell_ext zx x1
    have E2 := cell_ext zx x2
    have E4 := cell_ext zx x3
    have E3 := cell_ext hb q0
    clear ct x1 x2 x3 q0 T1
    refine wp_region_ext (by kernel_rfl) (by kernel_rfl) ?_
    repeat (go_big_quiet_step (first | (go_at_call 51; exact Calls.ext_same (HI.out _))))
    refine wpQuiet_nil ?_
    intro _ hw'
    obtain ⟨gg, rfl⟩ := hw'
    have L2 := L0.trans (Le.ext W gg)
    generalize W.ext gg = W2 at *
    go_wp2
    go_ret
    exact ⟨ret_str (by rw [hr.out]), L2⟩
  · -- 8
    have hB : Hid (exceptU ++ xs[k].name = r) := by show _ = _; rw [← hr.out, lnT_except k, clN_at hk, u_except rfl]
    have hnn := (name_rng (g.name k hk)).2.2
    rw [bl_len] at hnn
    obtain ⟨b, off, rfl, hb, q0, -, -⟩ := T1.cls_at hk
    have hkm : (k : Int) < (xs.length : Int) := by omega
    generalize xs[k].name = v at *
    have s1 : ∀ W, (Op.stringOp .add ⟨#[101, 120, 99, 101, 112, 116, 32]⟩ v).run Tryd.prog W = .ok (.string (exceptU ++ v)) W := str_sumL exceptU v (by decide) (by omega)
    rw [hB.out] at s1
    clear g hB HKW
    have HX1 := HW.out
    subst HX1
    go_enter Tryd.func27, Tryd.ntmps27
    go_wp2
    go_ret
    exact ⟨ret_str (by rw [hr.out]), L0⟩
  · have hkk : kd = 0 ∨ kd = 3 ∨ kd = 5 ∨ kd = 6 ∨ kd = 7 ∨ kd = 9 ∨ kd = 10 := by omega
    clear k0 k10 n1 n2 n3 n4
    rcases hkk with rfl | rfl | rfl | rfl | rfl | rfl | rfl
    · -- 0
      have hB : Hid (tb lwPass = r) := by show _ = _; rw [← hr.out, lnT_word (by omega) (by omega) (by omega) (by omega)]; rfl
      have HC : Hid (∀ (W : World) (b : Nat), (∀ k : Fin 13, W.cell? ⟨b, k.1, none⟩ = some (.string (tb (lwAt k.1)))) → W.cell? ⟨b, 0, none⟩ = some (.string (tb lwPass))) := fun W b h => h 0
      generalize tb lwPass = kw at *
      clear g T1
      go_enter Tryd.func27, Tryd.ntmps27
      go_wp2_with fail
      rw [HW.out]
      have d1 : W.drew.cell? ⟨w.heap.size + 1, 1, none⟩ = some (.int .i64 0) := x1
      have zd : w.heap.size + 1 < W.drew.heap.size := zx
      have LC : Le w W.drew := L0.trans (Le.refl W).drew
      clear ct x1 x2 x3 zt L0 HW zx
      refine wp_region_Z (fun w' => w'.cell? ⟨w.heap.size + 1, 1, none⟩ = some (.int .i64 0)) [] (by kernel_rfl) ?_
      generalize W.drew = WD at *
      refine wpAnyZ_take (i := 1) (v := ?_) rfl (by kernel_rfl) (fun _ _ _ h => h) (Or.inl ⟨by rfl, ?_⟩) (d1) ?_
      rotate_left 1
      · (intro w hSw; (try dsimp only at hSw); go_simp; try with_reducible rfl)
      try simp only [Act.put, List.setIfInBounds_toArray, List.set_cons_zero, List.set_cons_succ]
      refine wpAnyZ_take (i := 2) (v := ?_) rfl (by kernel_rfl) (fun _ _ _ h => h) (Or.inl ⟨by rfl, ?_⟩) (d1) ?_
      rotate_left 1
      · (intro w hSw; (try dsimp only at hSw); go_simp; try with_reducible rfl)
      try simp only [Act.put, List.setIfInBounds_toArray, List.set_cons_zero, List.set_cons_succ]
      refine wpAnyZ_one (i := 0) (by kernel_rfl) (ReadyZ.mk rfl (fun K hK => ?_))
      go_simp
      go_at_call 50
      refine (HKW.out WD).mono ?_
      rintro e w1 ⟨b, rfl, hc, -, -, hle⟩
      replace hc := HC.out w1 b hc
      replace LC := LC.trans hle
      replace d1 := (hle.cell zd).trans d1
      clear hle zd
      dsimp only
      refine hK.out _ _ (fun _ => d1) ?_
      clear hK K
      try simp only [Act.put, List.setIfInBounds_toArray, List.set_cons_zero, List.set_cons_succ]
      refine wpAnyZ_take (i := 3) (v := ?_) rfl (by kernel_rfl) (fun _ _ _ h => h) (Or.inl ⟨by rfl, ?_⟩) (d1) ?_
      rotate_left 1
      · (intro w hSw; (try dsimp only at hSw); go_simp; try with_reducible rfl)
      try simp only [Act.put, List.setIfInBounds_toArray, List.set_cons_zero, List.set_cons_succ]
      refine wpAnyZ_one (i := 4) (by kernel_rfl) (ReadyZ.mk rfl (fun K hK => ?_))
      go_simp
      refine hK.out _ _ (fun _ => d1) ?_
      clear hK K
      try simp only [Act.put, List.setIfInBounds_toArray, List.set_cons_zero, List.set_cons_succ]
      refine wpAnyZ_take (i := 5) (v := ?_) rfl (by kernel_rfl) (fun _ _ _ h => h) (Or.inl ⟨by rfl, ?_⟩) (d1) ?_
      rotate_left 1
      · (intro w hSw; (try dsimp only at hSw); go_simp; try with_reducible rfl)
      try simp only [Act.put, List.setIfInBounds_toArray, List.set_cons_zero, List.set_cons_succ]
      refine wpAnyZ_done (by kernel_rfl) ?_ _
      go_wp2
      go_ret
      exact ⟨ret_str (by rw [hr.out, hB.out]), LC⟩
    · -- 3
      have hB : Hid (tb lwAgain = r) := by show _ = _; rw [← hr.out, lnT_word (by omega) (by omega) (by omega) (by omega)]; rfl
      have HC : Hid (∀ (W : World) (b : Nat), (∀ k : Fin 13, W.cell? ⟨b, k.1, none⟩ = some (.string (tb (lwAt k.1)))) → W.cell? ⟨b, 3, none⟩ = some (.string (tb lwAgain))) := fun W b h => h 3
      generalize tb lwAgain = kw at *
      clear g T1
      go_enter Tryd.func27, Tryd.ntmps27
      go_wp2_with fail
      rw [HW.out]
      have d1 : W.drew.cell? ⟨w.heap.size + 1, 1, none⟩ = some (.int .i64 3) := x1
      have zd : w.heap.size + 1 < W.drew.heap.size := zx
      have LC : Le w W.drew := L0.trans (Le.refl W).drew
      clear ct x1 x2 x3 zt L0 HW zx
      refine wp_region_Z (fun w' => w'.cell? ⟨w.heap.size + 1, 1, none⟩ = some (.int .i64 3)) [] (by kernel_rfl) ?_
      generalize W.drew = WD at *
      refine wpAnyZ_take (i := 1) (v := ?_) rfl (by kernel_rfl) (fun _ _ _ h => h) (Or.inl ⟨by rfl, ?_⟩) (d1) ?_
      rotate_left 1
      · (intro w hSw; (try dsimp only at hSw); go_simp; try with_reducible rfl)
      try simp only [Act.put, List.setIfInBounds_toArray, List.set_cons_zero, List.set_cons_succ]
      refine wpAnyZ_take (i := 2) (v := ?_) rfl (by kernel_rfl) (fun _ _ _ h => h) (Or.inl ⟨by rfl, ?_⟩) (d1) ?_
      rotate_left 1
      · (intro w hSw; (try dsimp only at hSw); go_simp; try with_reducible rfl)
      try simp only [Act.put, List.setIfInBounds_toArray, List.set_cons_zero, List.set_cons_succ]
      refine wpAnyZ_one (i := 0) (by kernel_rfl) (ReadyZ.mk rfl (fun K hK => ?_))
      go_simp
      go_at_call 50
      refine (HKW.out WD).mono ?_
      rintro e w1 ⟨b, rfl, hc, -, -, hle⟩
      replace hc := HC.out w1 b hc
      replace LC := LC.trans hle
      replace d1 := (hle.cell zd).trans d1
      clear hle zd
      dsimp only
      refine hK.out _ _ (fun _ => d1) ?_
      clear hK K
      try simp only [Act.put, List.setIfInBounds_toArray, List.set_cons_zero, List.set_cons_succ]
      refine wpAnyZ_take (i := 3) (v := ?_) rfl (by kernel_rfl) (fun _ _ _ h => h) (Or.inl ⟨by rfl, ?_⟩) (d1) ?_
      rotate_left 1
      · (intro w hSw; (try dsimp only at hSw); go_simp; try with_reducible rfl)
      try simp only [Act.put, List.setIfInBounds_toArray, List.set_cons_zero, List.set_cons_succ]
      refine wpAnyZ_one (i := 4) (by kernel_rfl) (ReadyZ.mk rfl (fun K hK => ?_))
      go_simp
      refine hK.out _ _ (fun _ => d1) ?_
      clear hK K
      try simp only [Act.put, List.setIfInBounds_toArray, List.set_cons_zero, List.set_cons_succ]
      refine wpAnyZ_take (i := 5) (v := ?_) rfl (by kernel_rfl) (fun _ _ _ h => h) (Or.inl ⟨by rfl, ?_⟩) (d1) ?_
      rotate_left 1
      · (intro w hSw; (try dsimp only at hSw); go_simp; try with_reducible rfl)
      try simp only [Act.put, List.setIfInBounds_toArray, List.set_cons_zero, List.set_cons_succ]
      refine wpAnyZ_done (by kernel_rfl) ?_ _
      go_wp2
      go_ret
      exact ⟨ret_str (by rw [hr.out, hB.out]), LC⟩
    · -- 5
      have hB : Hid (tb lwBreak = r) := by show _ = _; rw [← hr.out, lnT_word (by omega) (by omega) (by omega) (by omega)]; rfl
      have HC : Hid (∀ (W : World) (b : Nat), (∀ k : Fin 13, W.cell? ⟨b, k.1, none⟩ = some (.string (tb (lwAt k.1)))) → W.cell? ⟨b, 5, none⟩ = some (.string (tb lwBreak))) := fun W b h => h 5
      generalize tb lwBreak = kw at *
      clear g T1
      go_enter Tryd.func27, Tryd.ntmps27
      go_wp2_with fail
      rw [HW.out]
      have d1 : W.drew.cell? ⟨w.heap.size + 1, 1, none⟩ = some (.int .i64 5) := x1
      have zd : w.heap.size + 1 < W.drew.heap.size := zx
      have LC : Le w W.drew := L0.trans (Le.refl W).drew
      clear ct x1 x2 x3 zt L0 HW zx
      refine wp_region_Z (fun w' => w'.cell? ⟨w.heap.size + 1, 1, none⟩ = some (.int .i64 5)) [] (by kernel_rfl) ?_
      generalize W.drew = WD at *
      refine wpAnyZ_take (i := 1) (v := ?_) rfl (by kernel_rfl) (fun _ _ _ h => h) (Or.inl ⟨by rfl, ?_⟩) (d1) ?_
      rotate_left 1
      · (intro w hSw; (try dsimp only at hSw); go_simp; try with_reducible rfl)
      try simp only [Act.put, List.setIfInBounds_toArray, List.set_cons_zero, List.set_cons_succ]
      refine wpAnyZ_take (i := 2) (v := ?_) rfl (by kernel_rfl) (fun _ _ _ h => h) (Or.inl ⟨by rfl, ?_⟩) (d1) ?_
      rotate_left 1
      · (intro w hSw; (try dsimp only at hSw); go_simp; try with_reducible rfl)
      try simp only [Act.put, List.setIfInBounds_toArray, List.set_cons_zero, List.set_cons_succ]
      refine wpAnyZ_one (i := 0) (by kernel_rfl) (ReadyZ.mk rfl (fun K hK => ?_))
      go_simp
      go_at_call 50
      refine (HKW.out WD).mono ?_
      rintro e w1 ⟨b, rfl, hc, -, -, hle⟩
      replace hc := HC.out w1 b hc
      replace LC := LC.trans hle
      replace d1 := (hle.cell zd).trans d1
      clear hle zd
      dsimp only
      refine hK.out _ _ (fun _ => d1) ?_
      clear hK K
      try simp only [Act.put, List.setIfInBounds_toArray, List.set_cons_zero, List.set_cons_succ]
      refine wpAnyZ_take (i := 3) (v := ?_) rfl (by kernel_rfl) (fun _ _ _ h => h) (Or.inl ⟨by rfl, ?_⟩) (d1) ?_
      rotate_left 1
      · (intro w hSw; (try dsimp only at hSw); go_simp; try with_reducible rfl)
      try simp only [Act.put, List.setIfInBounds_toArray, List.set_cons_zero, List.set_cons_succ]
      refine wpAnyZ_one (i := 4) (by kernel_rfl) (ReadyZ.mk rfl (fun K hK => ?_))
      go_simp
      refine hK.out _ _ (fun _ => d1) ?_
      clear hK K
      try simp only [Act.put, List.setIfInBounds_toArray, List.set_cons_zero, List.set_cons_succ]
      refine wpAnyZ_take (i := 5) (v := ?_) rfl (by kernel_rfl) (fun _ _ _ h => h) (Or.inl ⟨by rfl, ?_⟩) (d1) ?_
      rotate_left 1
      · (intro w hSw; (try dsimp only at hSw); go_simp; try with_reducible rfl)
      try simp only [Act.put, List.setIfInBounds_toArray, List.set_cons_zero, List.set_cons_succ]
      refine wpAnyZ_done (by kernel_rfl) ?_ _
      go_wp2
      go_ret
      exact ⟨ret_str (by rw [hr.out, hB.out]), LC⟩
    · -- 6
      have hB : Hid (tb lwContinue = r) := by show _ = _; rw [← hr.out, lnT_word (by omega) (by omega) (by omega) (by omega)]; rfl
      have HC : Hid (∀ (W : World) (b : Nat), (∀ k : Fin 13, W.cell? ⟨b, k.1, none⟩ = some (.string (tb (lwAt k.1)))) → W.cell? ⟨b, 6, none⟩ = some (.string (tb lwContinue))) := fun W b h => h 6
      generalize tb lwContinue = kw at *
      clear g T1
      go_enter Tryd.func27, Tryd.ntmps27
      go_wp2_with fail
      rw [HW.out]
      have d1 : W.drew.cell? ⟨w.heap.size + 1, 1, none⟩ = some (.int .i64 6) := x1
      have zd : w.heap.size + 1 < W.drew.heap.size := zx
      have LC : Le w W.drew := L0.trans (Le.refl W).drew
      clear ct x1 x2 x3 zt L0 HW zx
      refine wp_region_Z (fun w' => w'.cell? ⟨w.heap.size + 1, 1, none⟩ = some (.int .i64 6)) [] (by kernel_rfl) ?_
      generalize W.drew = WD at *
      refine wpAnyZ_take (i := 1) (v := ?_) rfl (by kernel_rfl) (fun _ _ _ h => h) (Or.inl ⟨by rfl, ?_⟩) (d1) ?_
      rotate_left 1
      · (intro w hSw; (try dsimp only at hSw); go_simp; try with_reducible rfl)
      try simp only [Act.put, List.setIfInBounds_toArray, List.set_cons_zero, List.set_cons_succ]
      refine wpAnyZ_take (i := 2) (v := ?_) rfl (by kernel_rfl) (fun _ _ _ h => h) (Or.inl ⟨by rfl, ?_⟩) (d1) ?_
      rotate_left 1
      · (intro w hSw; (try dsimp only at hSw); go_simp; try with_reducible rfl)
      try simp only [Act.put, List.setIfInBounds_toArray, List.set_cons_zero, List.set_cons_succ]
      refine wpAnyZ_one (i := 0) (by kernel_rfl) (ReadyZ.mk rfl (fun K hK => ?_))
      go_simp
      go_at_call 50
      refine (HKW.out WD).mono ?_
      rintro e w1 ⟨b, rfl, hc, -, -, hle⟩
      replace hc := HC.out w1 b hc
      replace LC := LC.trans hle
      replace d1 := (hle.cell zd).trans d1
      clear hle zd
      dsimp only
      refine hK.out _ _ (fun _ => d1) ?_
      clear hK K
      try simp only [Act.put, List.setIfInBounds_toArray, List.set_cons_zero, List.set_cons_succ]
      refine wpAnyZ_take (i := 3) (v := ?_) rfl (by kernel_rfl) (fun _ _ _ h => h) (Or.inl ⟨by rfl, ?_⟩) (d1) ?_
      rotate_left 1
      · (intro w hSw; (try dsimp only at hSw); go_simp; try with_reducible rfl)
      try simp only [Act.put, List.setIfInBounds_toArray, List.set_cons_zero, List.set_cons_succ]
      refine wpAnyZ_one (i := 4) (by kernel_rfl) (ReadyZ.mk rfl (fun K hK => ?_))
      go_simp
      refine hK.out _ _ (fun _ => d1) ?_
      clear hK K
      try simp only [Act.put, List.setIfInBounds_toArray, List.set_cons_zero, List.set_cons_succ]
      refine wpAnyZ_take (i := 5) (v := ?_) rfl (by kernel_rfl) (fun _ _ _ h => h) (Or.inl ⟨by rfl, ?_⟩) (d1) ?_
      rotate_left 1
      · (intro w hSw; (try dsimp only at hSw); go_simp; try with_reducible rfl)
      try simp only [Act.put, List.setIfInBounds_toArray, List.set_cons_zero, List.set_cons_succ]
      refine wpAnyZ_done (by kernel_rfl) ?_ _
      go_wp2
      go_ret
      exact ⟨ret_str (by rw [hr.out, hB.out]), LC⟩
    · -- 7
      have hB : Hid (tb lwTry = r) := by show _ = _; rw [← hr.out, lnT_word (by omega) (by omega) (by omega) (by omega)]; rfl
      have HC : Hid (∀ (W : World) (b : Nat), (∀ k : Fin 13, W.cell? ⟨b, k.1, none⟩ = some (.string (tb (lwAt k.1)))) → W.cell? ⟨b, 7, none⟩ = some (.string (tb lwTry))) := fun W b h => h 7
      generalize tb lwTry = kw at *
      clear g T1
      go_enter Tryd.func27, Tryd.ntmps27
      go_wp2_with fail
      rw [HW.out]
      have d1 : W.drew.cell? ⟨w.heap.size + 1, 1, none⟩ = some (.int .i64 7) := x1
      have zd : w.heap.size + 1 < W.drew.heap.size := zx
      have LC : Le w W.drew := L0.trans (Le.refl W).drew
      clear ct x1 x2 x3 zt L0 HW zx
      refine wp_region_Z (fun w' => w'.cell? ⟨w.heap.size + 1, 1, none⟩ = some (.int .i64 7)) [] (by kernel_rfl) ?_
      generalize W.drew = WD at *
      refine wpAnyZ_take (i := 1) (v := ?_) rfl (by kernel_rfl) (fun _ _ _ h => h) (Or.inl ⟨by rfl, ?_⟩) (d1) ?_
      rotate_left 1
      · (intro w hSw; (try dsimp only at hSw); go_simp; try with_reducible rfl)
      try simp only [Act.put, List.setIfInBounds_toArray, List.set_cons_zero, List.set_cons_succ]
      refine wpAnyZ_take (i := 2) (v := ?_) rfl (by kernel_rfl) (fun _ _ _ h => h) (Or.inl ⟨by rfl, ?_⟩) (d1) ?_
      rotate_left 1
      · (intro w hSw; (try dsimp only at hSw); go_simp; try with_reducible rfl)
      try simp only [Act.put, List.setIfInBounds_toArray, List.set_cons_zero, List.set_cons_succ]
      refine wpAnyZ_one (i := 0) (by kernel_rfl) (ReadyZ.mk rfl (fun K hK => ?_))
      go_simp
      go_at_call 50
      refine (HKW.out WD).mono ?_
      rintro e w1 ⟨b, rfl, hc, -, -, hle⟩
      replace hc := HC.out w1 b hc
      replace LC := LC.trans hle
      replace d1 := (hle.cell zd).trans d1
      clear hle zd
      dsimp only
      refine hK.out _ _ (fun _ => d1) ?_
      clear hK K
      try simp only [Act.put, List.setIfInBounds_toArray, List.set_cons_zero, List.set_cons_succ]
      refine wpAnyZ_take (i := 3) (v := ?_) rfl (by kernel_rfl) (fun _ _ _ h => h) (Or.inl ⟨by rfl, ?_⟩) (d1) ?_
      rotate_left 1
      · (intro w hSw; (try dsimp only at hSw); go_simp; try with_reducible rfl)
      try simp only [Act.put, List.setIfInBounds_toArray, List.set_cons_zero, List.set_cons_succ]
      refine wpAnyZ_one (i := 4) (by kernel_rfl) (ReadyZ.mk rfl (fun K hK => ?_))
      go_simp
      refine hK.out _ _ (fun _ => d1) ?_
      clear hK K
      try simp only [Act.put, List.setIfInBounds_toArray, List.set_cons_zero, List.set_cons_succ]
      refine wpAnyZ_take (i := 5) (v := ?_) rfl (by kernel_rfl) (fun _ _ _ h => h) (Or.inl ⟨by rfl, ?_⟩) (d1) ?_
      rotate_left 1
      · (intro w hSw; (try dsimp only at hSw); go_simp; try with_reducible rfl)
      try simp only [Act.put, List.setIfInBounds_toArray, List.set_cons_zero, List.set_cons_succ]
      refine wpAnyZ_done (by kernel_rfl) ?_ _
      go_wp2
      go_ret
      exact ⟨ret_str (by rw [hr.out, hB.out]), LC⟩
    · -- 9
      have hB : Hid (tb lwElse = r) := by show _ = _; rw [← hr.out, lnT_word (by omega) (by omega) (by omega) (by omega)]; rfl
      have HC : Hid (∀ (W : World) (b : Nat), (∀ k : Fin 13, W.cell? ⟨b, k.1, none⟩ = some (.string (tb (lwAt k.1)))) → W.cell? ⟨b, 9, none⟩ = some (.string (tb lwElse))) := fun W b h => h 9
      generalize tb lwElse = kw at *
      clear g T1
      go_enter Tryd.func27, Tryd.ntmps27
      go_wp2_with fail
      rw [HW.out]
      have d1 : W.drew.cell? ⟨w.heap.size + 1, 1, none⟩ = some (.int .i64 9) := x1
      have zd : w.heap.size + 1 < W.drew.heap.size := zx
      have LC : Le w W.drew := L0.trans (Le.refl W).drew
      clear ct x1 x2 x3 zt L0 HW zx
      refine wp_region_Z (fun w' => w'.cell? ⟨w.heap.size + 1, 1, none⟩ = some (.int .i64 9)) [] (by kernel_rfl) ?_
      generalize W.drew = WD at *
      refine wpAnyZ_take (i := 1) (v := ?_) rfl (by kernel_rfl) (fun _ _ _ h => h) (Or.inl ⟨by rfl, ?_⟩) (d1) ?_
      rotate_left 1
      · (intro w hSw; (try dsimp only at hSw); go_simp; try with_reducible rfl)
      try simp only [Act.put, List.setIfInBounds_toArray, List.set_cons_zero, List.set_cons_succ]
      refine wpAnyZ_take (i := 2) (v := ?_) rfl (by kernel_rfl) (fun _ _ _ h => h) (Or.inl ⟨by rfl, ?_⟩) (d1) ?_
      rotate_left 1
      · (intro w hSw; (try dsimp only at hSw); go_simp; try with_reducible rfl)
      try simp only [Act.put, List.setIfInBounds_toArray, List.set_cons_zero, List.set_cons_succ]
      refine wpAnyZ_one (i := 0) (by kernel_rfl) (ReadyZ.mk rfl (fun K hK => ?_))
      go_simp
      go_at_call 50
      refine (HKW.out WD).mono ?_
      rintro e w1 ⟨b, rfl, hc, -, -, hle⟩
      replace hc := HC.out w1 b hc
      replace LC := LC.trans hle
      replace d1 := (hle.cell zd).trans d1
      clear hle zd
      dsimp only
      refine hK.out _ _ (fun _ => d1) ?_
      clear hK K
      try simp only [Act.put, List.setIfInBounds_toArray, List.set_cons_zero, List.set_cons_succ]
      refine wpAnyZ_take (i := 3) (v := ?_) rfl (by kernel_rfl) (fun _ _ _ h => h) (Or.inl ⟨by rfl, ?_⟩) (d1) ?_
      rotate_left 1
      · (intro w hSw; (try dsimp only at hSw); go_simp; try with_reducible rfl)
      try simp only [Act.put, List.setIfInBounds_toArray, List.set_cons_zero, List.set_cons_succ]
      refine wpAnyZ_one (i := 4) (by kernel_rfl) (ReadyZ.mk rfl (fun K hK => ?_))
      go_simp
      refine hK.out _ _ (fun _ => d1) ?_
      clear hK K
      try simp only [Act.put, List.setIfInBounds_toArray, List.set_cons_zero, List.set_cons_succ]
      refine wpAnyZ_take (i := 5) (v := ?_) rfl (by kernel_rfl) (fun _ _ _ h => h) (Or.inl ⟨by rfl, ?_⟩) (d1) ?_
      rotate_left 1
      · (intro w hSw; (try dsimp only at hSw); go_simp; try with_reducible rfl)
      try simp only [Act.put, List.setIfInBounds_toArray, List.set_cons_zero, List.set_cons_succ]
      refine wpAnyZ_done (by kernel_rfl) ?_ _
      go_wp2
      go_ret
      exact ⟨ret_str (by rw [hr.out, hB.out]), LC⟩
    · -- 10
      have hB : Hid (tb lwFinally = r) := by show _ = _; rw [← hr.out, lnT_word (by omega) (by omega) (by omega) (by omega)]; rfl
      have HC : Hid (∀ (W : World) (b : Nat), (∀ k : Fin 13, W.cell? ⟨b, k.1, none⟩ = some (.string (tb (lwAt k.1)))) → W.cell? ⟨b, 10, none⟩ = some (.string (tb lwFinally))) := fun W b h => h 10
      generalize tb lwFinally = kw at *
      clear g T1
      go_enter Tryd.func27, Tryd.ntmps27
      go_wp2_with fail
      rw [HW.out]
      have d1 : W.drew.cell? ⟨w.heap.size + 1, 1, none⟩ = some (.int .i64 10) := x1
      have zd : w.heap.size + 1 < W.drew.heap.size := zx
      have LC : Le w W.drew := L0.trans (Le.refl W).drew
      clear ct x1 x2 x3 zt L0 HW zx
      refine wp_region_Z (fun w' => w'.cell? ⟨w.heap.size + 1, 1, none⟩ = some (.int .i64 10)) [] (by kernel_rfl) ?_
      generalize W.drew = WD at *
      refine wpAnyZ_take (i := 1) (v := ?_) rfl (by kernel_rfl) (fun _ _ _ h => h) (Or.inl ⟨by rfl, ?_⟩) (d1) ?_
      rotate_left 1
      · (intro w hSw; (try dsimp only at hSw); go_simp; try with_reducible rfl)
      try simp only [Act.put, List.setIfInBounds_toArray, List.set_cons_zero, List.set_cons_succ]
      refine wpAnyZ_take (i := 2) (v := ?_) rfl (by kernel_rfl) (fun _ _ _ h => h) (Or.inl ⟨by rfl, ?_⟩) (d1) ?_
      rotate_left 1
      · (intro w hSw; (try dsimp only at hSw); go_simp; try with_reducible rfl)
      try simp only [Act.put, List.setIfInBounds_toArray, List.set_cons_zero, List.set_cons_succ]
      refine wpAnyZ_one (i := 0) (by kernel_rfl) (ReadyZ.mk rfl (fun K hK => ?_))
      go_simp
      go_at_call 50
      refine (HKW.out WD).mono ?_
      rintro e w1 ⟨b, rfl, hc, -, -, hle⟩
      replace hc := HC.out w1 b hc
      replace LC := LC.trans hle
      replace d1 := (hle.cell zd).trans d1
      clear hle zd
      dsimp only
      refine hK.out _ _ (fun _ => d1) ?_
      clear hK K
      try simp only [Act.put, List.setIfInBounds_toArray, List.set_cons_zero, List.set_cons_succ]
      refine wpAnyZ_take (i := 3) (v := ?_) rfl (by kernel_rfl) (fun _ _ _ h => h) (Or.inl ⟨by rfl, ?_⟩) (d1) ?_
      rotate_left 1
      · (intro w hSw; (try dsimp only at hSw); go_simp; try with_reducible rfl)
      try simp only [Act.put, List.setIfInBounds_toArray, List.set_cons_zero, List.set_cons_succ]
      refine wpAnyZ_one (i := 4) (by kernel_rfl) (ReadyZ.mk rfl (fun K hK => ?_))
      go_simp
      refine hK.out _ _ (fun _ => d1) ?_
      clear hK K
      try simp only [Act.put, List.setIfInBounds_toArray, List.set_cons_zero, List.set_cons_succ]
      refine wpAnyZ_take (i := 5) (v := ?_) rfl (by kernel_rfl) (fun _ _ _ h => h) (Or.inl ⟨by rfl, ?_⟩) (d1) ?_
      rotate_left 1
      · (intro w hSw; (try dsimp only at hSw); go_simp; try with_reducible rfl)
      try simp only [Act.put, List.setIfInBounds_toArray, List.set_cons_zero, List.set_cons_succ]
      refine wpAnyZ_done (by kernel_rfl) ?_ _
      go_wp2
      go_ret
      exact ⟨ret_str (by rw [hr.out, hB.out]), LC⟩
end

section
theorem pg_takeT {xs : List Cls} {p : List Lin} {k : Nat} (h : k < p.length) : tb (pgB xs (p.take (k + 1))) = tb (pgB xs (p.take k) ++ List.replicate p[k].depth.toNat 32) ++ tb (lnT xs p[k]) ++ nlT := bl_inj (by
  rw [bl_app, bl_app, bl_tb, bl_tb, bl_tb, bl_nl, pg_takeL h]
  simp only [List.append_assoc])
theorem rep_snoc (n : Nat) : List.replicate (n + 1) (32 : UInt8) = List.replicate n 32 ++ [32] := by rw [List.replicate_succ']
set_option maxHeartbeats 2000000 in
set_option maxRecDepth 100000 in
theorem sprogramText_any (B A : Option Addr) (m c n cap : Nat) (xs : List Cls) (L : List Lin) (w : World) (hT : Sl w B m c xs) (hR : Sl w A n cap L) (hv : vp xs L = true) :
    Calls Tryd.prog 14 #[.agg #[.slice B m c], .slice A n cap] w fun e w' => e = .returned (.string (tb (pgB xs L))) ∧ Le w w' := by
  obtain rfl := hR.len
  have hva := vP_iff.1 hv
  have HG := Lib.hid (good_of hva.1)
  have HOK : Hid (∀ x ∈ L, numS xs x.kind x.a x.b = true ∧ 0 ≤ x.depth ∧ x.depth ≤ 5) := fun x hx => hva.line hx
  have HPL := Lib.hid (pg_pre hva)
  have hl8 := hva.2.1
  clear hva hv
  go_enter Tryd.func14, Tryd.ntmps14
  go_wp2_with fail
  obtain ⟨c0, z0, L0⟩ := box1 w (.slice B m c) 31
  have HT := Lib.hid (hT.le L0)
  have HS := Lib.hid (hR.le L0)
  have HL := Lib.hid L0
  have HC := Lib.hid c0
  generalize w.alloc (.cells #[.slice B m c] 31) = W at *
  clear hT hR L0 c0
  go_wp2
  go_loopw [5, 6, 7] (fun v i _ wr => ∃ k : Nat, k ≤ L.length ∧ i = .int .i64 k ∧ v = .string (tb (pgB xs (L.take k))) ∧ Le W wr) (fun _ i _ _ => L.length - (intOf i).toNat)
  case atStart => exact ⟨0, Nat.zero_le _, rfl, rfl, Le.refl _⟩
  case round =>
    obtain ⟨k, hk, rfl, rfl, LR⟩ := hrel
    have hal := HPL.out k
    by_cases hlt : k < L.length
    · have hkl : (k : Int) < (L.length : Int) := by omega
      have c0 := (LR.cell z0).trans HC.out
      have zp : w.heap.size < wr.heap.size := by have := LR.size; omega
      have S := HS.out.le LR
      have hxk := HOK.out _ (List.getElem_mem hlt)
      obtain ⟨b, off, rfl, hbl, q0, q1, q2, q3, -⟩ := S.lin_at hlt
      have HNX := Lib.hid (pg_takeT (xs := xs) hlt)
      have HXT : Hid (∀ gg : Ext wr, Calls Tryd.prog 27 #[.agg #[.slice B m c], .agg #[.int .i64 L[k].depth, .int .i64 L[k].kind, .int .i64 L[k].a, .int .i64 L[k].b]] (wr.ext gg) fun e w' => e = .returned (.string (tb (lnT xs L[k]))) ∧ Le (wr.ext gg) w') := fun gg => slineText_any B m c xs L[k] _ (HT.out.le (LR.trans (Le.ext wr gg))) HG.out hxk.1 hxk.2.1
      have hxl : (tb (lnT xs L[k])).size ≤ 30 := lnT_len HG.out hxk.1 hxk.2.1 hxk.2.2
      obtain ⟨D, hD⟩ : ∃ D : Nat, L[k].depth = D := ⟨L[k].depth.toNat, by omega⟩
      have hD5 : D ≤ 5 := by omega
      rw [hD] at HNX HXT q0
      rw [Int.toNat_natCast] at HNX
      generalize pgB xs (L.take k) = o at *
      generalize tb (lnT xs L[k]) = tx at *
      generalize L[k].kind = vk at *
      generalize L[k].a = va at *
      generalize L[k].b = vb at *
      clear hxk S hD
      go_wp2_with fail
      generalize wr = W5 at *
      go_loopw [5, 7] (fun v i wq => ∃ j : Nat, j ≤ D ∧ i = .int .i64 ((D - j : Nat) : Int) ∧ v = .string (tb (o ++ List.replicate j 32)) ∧ W5 = wq) (fun _ i _ => (intOf i).toNat)
      case atStart => exact ⟨0, Nat.zero_le _, rfl, by rw [List.replicate_zero, List.append_nil], rfl⟩
      case round =>
        obtain ⟨j, hj, rfl, rfl, rfl⟩ := hrel
        have hos : (tb (o ++ List.replicate j (32 : UInt8))).size ≤ 749 := by rw [tb_size, List.length_append, List.length_replicate]; omega
        by_cases hjl : j < D
        · have hji : (0 : Int) < ((D - j : Nat) : Int) := by omega
          have hjw : IntKind.i64.wrap (((D - j : Nat) : Int) - 1) = ((D - (j + 1) : Nat) : Int) := by rw [show ((D - j : Nat) : Int) - 1 = ((D - (j + 1) : Nat) : Int) by omega]; exact IntWalk.i64_in _ (by omega)
          have HN2 : Hid (tb (o ++ List.replicate (j + 1) 32) = tb (o ++ List.replicate j 32) ++ spT) := by show _ = _; rw [rep_snoc, ← List.append_assoc, tb_app]; rfl
          generalize tb (o ++ List.replicate j (32 : UInt8)) = o1 at *
          have s1 : ∀ W, (Op.stringOp .add o1 ⟨#[32]⟩).run Tryd.prog W = .ok (.string (o1 ++ spT)) W := str_sumL o1 spT (by omega) (by decide)
          have hmm : ((D - j : Nat) : Int).toNat = D - j := by omega
          generalize ((D - j : Nat) : Int) = nj at *
          go_wp2
          go_roundw
          case rel => exact ⟨j + 1, by omega, by first | rw [hjw] | rfl, by rw [HN2.out], by first | trivial | rfl⟩
          case measure => simp [intOf]; omega
        · have hjz : ((D - j : Nat) : Int) = 0 := by omega
          obtain rfl : j = D := by omega
          rw [hjz]
          generalize tb (o ++ List.replicate j (32 : UInt8)) = o1 at *
          have s1 : ∀ W, (Op.stringOp .add o1 tx).run Tryd.prog W = .ok (.string (o1 ++ tx)) W := str_sumL o1 tx (by omega) (by omega)
          have z1 : (o1 ++ tx).size ≤ 779 := by rw [ByteArray.size_append]; omega
          obtain ⟨y1, hy1⟩ : ∃ y, o1 ++ tx = y := ⟨_, rfl⟩
          rw [hy1] at s1 z1 HNX
          have s2 : ∀ W, (Op.stringOp .add y1 ⟨#[10]⟩).run Tryd.prog W = .ok (.string (y1 ++ nlT)) W := str_sumL y1 nlT (by omega) (by decide)
          have E0 := cell_ext zp c0
          have E1 := cell_ext hbl q0
          have E2 := cell_ext hbl q1
          have E3 := cell_ext hbl q2
          have E4 := cell_ext hbl q3
          clear hxl hos hal z1 hy1 q0 q1 q2 q3 c0 hjz
          go_wp2_with fail
          refine wp_region_ext (by kernel_rfl) (by kernel_rfl) ?_
          repeat (go_big_quiet_step (first | (go_at_call 27; exact Calls.ext_of (HXT.out _))))
          refine wpQuiet_nil ?_
          intro _ hw'
          obtain ⟨gg, rfl⟩ := hw'
          have L2 := LR.trans (Le.ext W5 gg)
          generalize W5.ext gg = W2 at *
          go_wp2
          go_roundw
          case rel => exact ⟨k + 1, by omega, by go_num, by rw [HNX.out], L2⟩
          case measure => (simp [intOf]) <;> omega
    · have hkl : ¬ (k : Int) < (L.length : Int) := by omega
      obtain rfl : k = L.length := by omega
      rw [List.take_length]
      go_wp2
      go_ret
      exact ⟨rfl, HL.out.trans LR⟩
set_option maxRecDepth 100000 in
theorem sProgramText_any (B A : Option Addr) (m c n cap : Nat) (xs : List Cls) (L : List Lin) (w : World) (hsm : L.length ≤ 1048576) (hT : Sl w B m c xs) (hR : Sl w A n cap L) :
    Calls Tryd.prog 6 #[.agg #[.slice B m c], .slice A n cap] w fun e w' => e = .returned (.string (ptP xs L)) ∧ Le w w' := by
  go_enter Tryd.func6, Tryd.ntmps6
  go_wp2_with fail
  obtain ⟨c0, z0, L0⟩ := box1 w (.slice B m c) 31
  have ST := hT.le L0
  have S := hR.le L0
  generalize w.alloc (.cells #[.slice B m c] 31) = W at *
  refine (svalidProgram_any B A m c n cap xs L hsm W ST S).mono ?_
  rintro e w1 ⟨rfl, hle⟩
  replace c0 := (hle.cell z0).trans c0
  replace z0 := Nat.lt_of_lt_of_le z0 hle.size
  replace L0 := L0.trans hle
  replace ST := ST.le hle
  replace S := S.le hle
  clear hle
  cases ho : vp xs L
  · have HX := Lib.hid (ptP_of ho)
    clear ho
    go_wp2
    go_ret
    exact ⟨ret_str HX.out.symm, L0⟩
  · have HX := Lib.hid (ptP_of ho)
    go_wp2_with fail
    refine (sprogramText_any B A m c n cap xs L w1 ST S ho).mono ?_
    rintro e w2 ⟨rfl, hle⟩
    have LL := L0.trans hle
    go_wp2
    go_ret
    exact ⟨ret_str HX.out.symm, LL⟩
end
end Go.Proofs.YtkcnjoikdalgjaaDoor
