/- programs: the model's run: runWith, runFinally, runLoop -/
import Derived.Test.YtlepgfccnfcagaaRsBP
import Derived.Test.YtlepgfccnfcagaaWp8
namespace Go.Proofs.Ytlepgfccnfcagaa
open Go.RowKit
/-- the box of a line that a call keeps: its numbers -/
structure Lx (W : World) (R g : Nat) (lv hv : Value) (va vb : Int) : Prop where
  z : g < W.heap.size
  ne : g ≠ R
  l : lv.ownBlock ≠ some g
  h : hv.ownBlock ≠ some g
  c2 : W.cell? ⟨g, 2, none⟩ = some (.int .i64 va)
  c3 : W.cell? ⟨g, 3, none⟩ = some (.int .i64 vb)
section
variable {w w' W W' : World} {R g m c n cap : Nat} {B A : Option Addr} {xs : List Cls} {p : List Lin} {lv hv lv' hv' : Value} {va vb vd vk : Int} {lg : List Int} {hs : List Flt}
theorem Lx.kp (h : Lx W R g lv hv va vb) (k : Kp R lv hv lv' hv' W W') : Lx W' R g lv' hv' va vb :=
  ⟨Nat.lt_of_lt_of_le h.z k.size, h.ne, k.ownL h.z h.l, k.ownH h.z h.h, k.cell h.z h.ne h.l h.h h.c2, k.cell h.z h.ne h.l h.h h.c3⟩
theorem Lx.le (h : Lx W R g lv hv va vb) (L : Le W W') : Lx W' R g lv hv va vb := h.kp (Kp.of_le R lv hv L)
theorem Lx.new (RN : Rn W R B m c xs A n cap p lv hv lg hs) (vd vk va vb : Int) (T : TypeId) : Lx (W.alloc (.cells #[.int .i64 vd, .int .i64 vk, .int .i64 va, .int .i64 vb] T)) R W.heap.size lv hv va vb := by
  have z := RN.z
  refine ⟨by simp, by omega, fun e => by have := (RN.O.lt _ e).2; omega, fun e => by have := (RN.H.lt _ e).2; omega, ?_, ?_⟩
  · rw [World.cell?_alloc_at _ _ _ _ rfl]; rfl
  · rw [World.cell?_alloc_at _ _ _ _ rfl]; rfl
end
/-- the blocks of lines are run so by the model -/
def SbOk (R m c n cap : Nat) (B A : Option Addr) (xs : List Cls) (p : List Lin) (blk : Bls) (C : Nat → Prop) : Prop :=
  ∀ (x : Nat) (h : Int) (s : Rst) (lv hv : Value) (w : World), x < p.length → C x → Gd xs s.2 → Hd h s → Sm (blk x h s).2 → Rn w R B m c xs A n cap p lv hv s.1 s.2 → SpOk R m c n cap B A xs p 124 #[.pointer (some ⟨R, 0, none⟩), .int .i64 x, .int .i64 h] lv hv w (blk x h s)
set_option maxHeartbeats 4000000 in
set_option maxRecDepth 100000 in
theorem sRunWith_any (R m c n cap : Nat) (B A : Option Addr) (xs : List Cls) (p : List Lin) (blk : Bls) (C : Nat → Prop) (HB : SbOk R m c n cap B A xs p blk C) (HFw : BFw xs p blk C) (g : GoodP xs p) (i : Nat) (hi : i < p.length) (hC : C i) (h11 : knd p i = 11) (h : Int) (s : Rst) (gd : Gd xs s.2) (hh : Hd h s) (hsm : Sm (withN blk p i h s).2) (lv hv : Value) (w : World) (H : Rn w R B m c xs A n cap p lv hv s.1 s.2) :
    SpOk R m c n cap B A xs p 117 #[.pointer (some ⟨R, 0, none⟩), .int .i64 i, .int .i64 h] lv hv w (withN blk p i h s) := by
  have hab := with_ab g hi h11
  have hp := g.len
  have hA : lnA p i = p[i].a := lnA_at hi
  have hBc : lnBc p i = p[i].b := lnBc_at hi
  have F := HFw i h (s.1 ++ [100 + p[i].a], s.2) hi hC gd hh
  have HX : Hid (withN blk p i h s = (quiet (decide (p[i].b = 1)) (blk i h (s.1 ++ [100 + p[i].a], s.2)).1, ((blk i h (s.1 ++ [100 + p[i].a], s.2)).2.1 ++ [200 + p[i].a], (blk i h (s.1 ++ [100 + p[i].a], s.2)).2.2))) := by show _ = _; unfold withN; rw [hA, hBc]
  have hsm1 : Sm (blk i h (s.1 ++ [100 + p[i].a], s.2)).2 := by
    rw [HX.out] at hsm
    have h1 := hsm.1
    have h2 : ((blk i h (s.1 ++ [100 + p[i].a], s.2)).2.1 ++ [200 + p[i].a]).length ≤ 1000000 := h1
    rw [List.length_append] at h2
    exact ⟨by omega, hsm.2⟩
  have hsm0 := F.sm hsm1
  have hlg : s.1.length ≤ 1000000 := by have h1 : (s.1 ++ [100 + p[i].a]).length ≤ 1000000 := hsm0.1; rw [List.length_append] at h1; omega
  have HBx : ∀ lv2 hv2 w2, Rn w2 R B m c xs A n cap p lv2 hv2 (s.1 ++ [100 + p[i].a]) s.2 → SpOk R m c n cap B A xs p 124 #[.pointer (some ⟨R, 0, none⟩), .int .i64 i, .int .i64 h] lv2 hv2 w2 (blk i h (s.1 ++ [100 + p[i].a], s.2)) := fun lv2 hv2 w2 H2 => HB i h (s.1 ++ [100 + p[i].a], s.2) lv2 hv2 w2 hi hC gd hh hsm1 H2
  clear F hsm HB HFw hsm0
  generalize withN blk p i h s = z at *
  obtain rfl := HX.out
  clear HX
  have hlen3 := hsm1.1
  clear hsm1 gd hh hA hBc
  generalize blk i h (s.1 ++ [100 + p[i].a], s.2) = q at *
  rcases q with ⟨l, s3⟩
  have c1 := H.c1
  have hz := H.z
  obtain rfl := H.T.len
  obtain ⟨b5, off5, rfl, hb5, d0, d1, d2, d3, -⟩ := H.T.lin_at hi
  have hi0 : (0 : Int) ≤ (i : Int) := by omega
  have hin : (i : Int) < (p.length : Int) := by omega
  generalize p[i].depth = vd at *
  generalize p[i].kind = vk at *
  generalize p[i].a = va at *
  generalize p[i].b = vb at *
  obtain ⟨i0, hq, hz0, hz1, hz2⟩ := info_parts infoIntR
  have L0 := Le.new w (.cells #[.int .i64 0, .int .i64 0] 94)
  have BX := Bx.new H (.int .i64 0) (.int .i64 0) 94
  have H1 := H.le L0
  have LX := Le.new (w.alloc (.cells #[.int .i64 0, .int .i64 0] 94)) (.cells #[.int .i64 vd, .int .i64 vk, .int .i64 va, .int .i64 vb] 42)
  have LI := (Lx.new H1 vd vk va vb 42).le (Le.refl _).drew
  have RN := H1.le LX.drew
  have hg1 : (w.alloc (.cells #[.int .i64 0, .int .i64 0] 94)).heap.size = w.heap.size + 1 := by simp
  rw [hg1] at LI
  replace BX := BX.le LX.drew
  have KQ := Kp.of_le R lv hv (L0.trans LX.drew)
  obtain ⟨AL, cL, rfl⟩ := own_form H.O
  have c1 := H1.c1
  replace d0 := (L0.cell hb5).trans d0
  replace d1 := (L0.cell hb5).trans d1
  replace d2 := (L0.cell hb5).trans d2
  replace d3 := (L0.cell hb5).trans d3
  have HQ1 : Hid (edK l ≠ 2 → quiet (decide (vb = 1)) l = l) := by show _ → _; cases l <;> first | (intro e; exact absurd rfl e) | (intro _; rfl)
  have HQ2 : Hid (edK l = 2 → quiet (decide (vb = 1)) l = cond (decide (vb = 1)) .nil l) := by show _ → _; cases l <;> first | (intro e; cases e; done) | (intro _; show (if _ then _ else _) = _; cases decide (vb = 1) <;> rfl)
  generalize quiet (decide (vb = 1)) l = lq at *
  unfold SpOk
  show Calls _ _ _ _ _
  go_enter Try.func117, Try.ntmps117
  go_wp2_with fail
  refine wp_region_noPanic ?_
  refine wp_region_Z (fun w' => w'.cell? ⟨R, 2, none⟩ = some (.slice AL s.1.length cL) ∧ w'.cell? ⟨w.heap.size + 1, 2, none⟩ = some (.int .i64 va)) [12] (by kernel_rfl) ?_
  generalize ((w.alloc (.cells #[.int .i64 0, .int .i64 0] 94)).alloc (.cells #[.int .i64 vd, .int .i64 vk, .int .i64 va, .int .i64 vb] 42)).drew = V at *
  clear d0 d1 d2 d3 c1 H1 L0 LX hg1
  have x2 := LI.c2
  have zG := LI.z
  have hlG := LI.l
  have hX : Enc.ok (100 + va) := ⟨by omega, by omega⟩
  have hwr : IntKind.i64.wrap (100 + va) = 100 + va := IntWalk.i64_in _ (by omega)
  have c2V := RN.c2
  have f2V := RN.f2
  have zV := RN.z
  have OV := RN.O
  refine wpAnyZ_take (i := 0) (v := ?_) rfl (by kernel_rfl) (fun _ _ _ h => h) (Or.inl ⟨by rfl, ?_⟩) (⟨c2V, x2⟩) ?_
  rotate_left 1
  · (intro w hSw; (try dsimp only at hSw); go_simp; try with_reducible rfl)
  try simp only [Act.put, List.setIfInBounds_toArray, List.set_cons_zero, List.set_cons_succ]
  refine wpAnyZ_take (i := 1) (v := ?_) rfl (by kernel_rfl) (fun _ _ _ h => h) (Or.inl ⟨by rfl, ?_⟩) (⟨c2V, x2⟩) ?_
  rotate_left 1
  · (intro w hSw; (try dsimp only at hSw); go_simp; try with_reducible rfl)
  try simp only [Act.put, List.setIfInBounds_toArray, List.set_cons_zero, List.set_cons_succ]
  refine wpAnyZ_take (i := 2) (v := ?_) rfl (by kernel_rfl) (fun _ _ _ h => h) (Or.inl ⟨by rfl, ?_⟩) (⟨c2V, x2⟩) ?_
  rotate_left 1
  · (intro w hSw; (try dsimp only at hSw); go_simp; try with_reducible rfl)
  try simp only [Act.put, List.setIfInBounds_toArray, List.set_cons_zero, List.set_cons_succ]
  refine wpAnyZ_take (i := 3) (v := ?_) rfl (by kernel_rfl) (fun _ _ _ h => h) (Or.inl ⟨by rfl, ?_⟩) (⟨c2V, x2⟩) ?_
  rotate_left 1
  · (intro w hSw; (try dsimp only at hSw); go_simp; try with_reducible rfl)
  try simp only [Act.put, List.setIfInBounds_toArray, List.set_cons_zero, List.set_cons_succ]
  refine wpAnyZ_take (i := 4) (v := ?_) rfl (by kernel_rfl) (fun _ _ _ h => h) (Or.inl ⟨by rfl, ?_⟩) (⟨c2V, x2⟩) ?_
  rotate_left 1
  · (intro w hSw; (try dsimp only at hSw); go_simp; try with_reducible rfl)
  try simp only [Act.put, List.setIfInBounds_toArray, List.set_cons_zero, List.set_cons_succ]
  refine wpAnyZ_take (i := 5) (v := ?_) rfl (by kernel_rfl) (fun _ _ _ h => h) (Or.inl ⟨by rfl, ?_⟩) (⟨c2V, x2⟩) ?_
  rotate_left 1
  · (intro w hSw; (try dsimp only at hSw); go_simp; try with_reducible rfl)
  try simp only [Act.put, List.setIfInBounds_toArray, List.set_cons_zero, List.set_cons_succ]
  refine wpAnyZ_take (i := 6) (v := ?_) rfl (by kernel_rfl) (fun _ _ _ h => h) (Or.inl ⟨by rfl, ?_⟩) (⟨c2V, x2⟩) ?_
  rotate_left 1
  · (intro w hSw; (try dsimp only at hSw); go_simp; try with_reducible rfl)
  try simp only [Act.put, List.setIfInBounds_toArray, List.set_cons_zero, List.set_cons_succ]
  refine wpAnyZ_take (i := 7) (v := ?_) rfl (by kernel_rfl) (fun _ _ _ h => h) (Or.inl ⟨by rfl, ?_⟩) (⟨c2V, x2⟩) ?_
  rotate_left 1
  · (intro w hSw; (try dsimp only at hSw); go_simp; try with_reducible rfl)
  try simp only [Act.put, List.setIfInBounds_toArray, List.set_cons_zero, List.set_cons_succ]
  refine wpAnyZ_one (i := 8) (by kernel_rfl) (ReadyZ.mk rfl (fun K hK => ?_))
  go_simp
  have LN := Le.new V (.cells #[.int .i64 (100 + va)] 3)
  have e2 := (LN.cell zV).trans c2V
  have ex := (LN.cell zG).trans x2
  refine hK.out _ _ (fun _ => ⟨e2, ex⟩) ?_
  clear hK K
  try simp only [Act.put, List.setIfInBounds_toArray, List.set_cons_zero, List.set_cons_succ]
  refine wpAnyZ_one (i := 9) (by kernel_rfl) (ReadyZ.mk rfl (fun K hK => ?_))
  refine step_append_sl rfl (.tmp 20) (.tmp 24) 29 rfl (R - 1) 3 i0 _ 8 Try.underlying29 hq hz0 hz1 hz2 rfl (.slice AL s.1.length cL) s.1.length s.1 rfl (OV.alloc _) _ 1 1 [100 + va] rfl (sl_one (100 + va) rfl hX rfl) (by unfold maxLen; omega) (by omega) (Nat.le_trans (by omega) LN.size) ?_
  intro v1 w4 O4 hg4 hbl
  have HP := Lib.hid (RN.told LN hX O4 hg4 hbl)
  have hneR : some R ≠ (Value.slice AL s.1.length cL).ownBlock := fun e => RN.lneR e.symm
  have k2 := hg4.cell (a := ⟨R, 2, none⟩) e2 hneR
  have k3 : w4.frozen? ⟨R, 2, none⟩ = false := (World.frozen?_of_block (a := ⟨R, 2, none⟩) (hg4.block R (Nat.lt_of_lt_of_le zV LN.size) hneR)).trans ((LN.frozen zV).trans f2V)
  have kx := hg4.cell (a := ⟨w.heap.size + 1, 2, none⟩) ex (fun e => hlG e.symm)
  obtain ⟨A1, q1, rfl⟩ := own_form O4
  refine hK.out _ _ (fun _ => ⟨k2, kx⟩) ?_
  clear hK K
  try simp only [Act.put, List.setIfInBounds_toArray, List.set_cons_zero, List.set_cons_succ]
  refine wpAnyZ_take (i := 10) (v := ?_) rfl (by kernel_rfl) (fun _ _ _ h => h) (Or.inl ⟨by rfl, ?_⟩) (⟨k2, kx⟩) ?_
  rotate_left 1
  · (intro w hSw; (try dsimp only at hSw); go_simp; try with_reducible rfl)
  try simp only [Act.put, List.setIfInBounds_toArray, List.set_cons_zero, List.set_cons_succ]
  refine wpAnyZ_take (i := 11) (v := ?_) rfl (by kernel_rfl) (fun _ _ _ h => h) (Or.inl ⟨by rfl, ?_⟩) (⟨k2, kx⟩) ?_
  rotate_left 1
  · (intro w hSw; (try dsimp only at hSw); go_simp; try with_reducible rfl)
  try simp only [Act.put, List.setIfInBounds_toArray, List.set_cons_zero, List.set_cons_succ]
  refine wpAnyZ_one (i := 12) (by kernel_rfl) (ReadyZ.mk rfl (fun K hK => ?_))
  go_simp
  refine hK.out _ _ (fun h => absurd h (by decide)) ?_
  clear hK K
  try simp only [Act.put, List.setIfInBounds_toArray, List.set_cons_zero, List.set_cons_succ]
  refine wpAnyZ_done (by kernel_rfl) ?_ _
  refine NoPanic.normal ?_
  clear c2V f2V zV OV LN e2 ex O4 hg4 hbl k2 k3 kx hneR
  replace KQ := KQ.trans HP.out.2
  replace BX := BX.kp HP.out.2
  replace LI := LI.kp HP.out.2
  replace RN := HP.out.1
  clear HP x2 zG hlG hX
  generalize w4.setCell ⟨R, 2, none⟩ (.slice A1 (s.1.length + 1) q1) = W1 at *
  generalize (Value.slice A1 (s.1.length + 1) q1) = lv1 at *
  go_wp2_with fail
  refine (show Calls _ _ _ _ _ from HBx lv1 hv W1 RN).mono ?_
  rintro e w3 ⟨rfl, lv3, hv3, RN3, KP3⟩
  have LE := Le.new w3 (.cells #[.int .i64 (edK l), .int .i64 (edW l)] 94)
  have B2 := (Bx.new RN3 (.int .i64 (edK l)) (.int .i64 (edW l)) 94).le (Le.refl _).drew
  replace BX := (BX.kp KP3).le LE.drew
  replace LI := (LI.kp KP3).le LE.drew
  replace KQ := (KQ.trans KP3).trans (Kp.of_le R lv3 hv3 LE.drew)
  clear KP3 RN HBx
  have RN := RN3.le LE.drew
  clear RN3 LE
  simp only at RN
  obtain ⟨AM, cM, rfl⟩ := own_form RN.O
  go_wp2_with fail
  refine wp_region_noPanic ?_
  refine wp_region_Z (fun w' => w'.cell? ⟨R, 2, none⟩ = some (.slice AM s3.1.length cM) ∧ w'.cell? ⟨w.heap.size + 1, 2, none⟩ = some (.int .i64 va)) [12] (by kernel_rfl) ?_
  generalize (w3.alloc (.cells #[.int .i64 (edK l), .int .i64 (edW l)] 94)).drew = V2 at *
  have x2 := LI.c2
  have zG := LI.z
  have hlG := LI.l
  have hX : Enc.ok (200 + va) := ⟨by omega, by omega⟩
  have hwr : IntKind.i64.wrap (200 + va) = 200 + va := IntWalk.i64_in _ (by omega)
  have c2V := RN.c2
  have f2V := RN.f2
  have zV := RN.z
  have OV := RN.O
  refine wpAnyZ_take (i := 0) (v := ?_) rfl (by kernel_rfl) (fun _ _ _ h => h) (Or.inl ⟨by rfl, ?_⟩) (⟨c2V, x2⟩) ?_
  rotate_left 1
  · (intro w hSw; (try dsimp only at hSw); go_simp; try with_reducible rfl)
  try simp only [Act.put, List.setIfInBounds_toArray, List.set_cons_zero, List.set_cons_succ]
  refine wpAnyZ_take (i := 1) (v := ?_) rfl (by kernel_rfl) (fun _ _ _ h => h) (Or.inl ⟨by rfl, ?_⟩) (⟨c2V, x2⟩) ?_
  rotate_left 1
  · (intro w hSw; (try dsimp only at hSw); go_simp; try with_reducible rfl)
  try simp only [Act.put, List.setIfInBounds_toArray, List.set_cons_zero, List.set_cons_succ]
  refine wpAnyZ_take (i := 2) (v := ?_) rfl (by kernel_rfl) (fun _ _ _ h => h) (Or.inl ⟨by rfl, ?_⟩) (⟨c2V, x2⟩) ?_
  rotate_left 1
  · (intro w hSw; (try dsimp only at hSw); go_simp; try with_reducible rfl)
  try simp only [Act.put, List.setIfInBounds_toArray, List.set_cons_zero, List.set_cons_succ]
  refine wpAnyZ_take (i := 3) (v := ?_) rfl (by kernel_rfl) (fun _ _ _ h => h) (Or.inl ⟨by rfl, ?_⟩) (⟨c2V, x2⟩) ?_
  rotate_left 1
  · (intro w hSw; (try dsimp only at hSw); go_simp; try with_reducible rfl)
  try simp only [Act.put, List.setIfInBounds_toArray, List.set_cons_zero, List.set_cons_succ]
  refine wpAnyZ_take (i := 4) (v := ?_) rfl (by kernel_rfl) (fun _ _ _ h => h) (Or.inl ⟨by rfl, ?_⟩) (⟨c2V, x2⟩) ?_
  rotate_left 1
  · (intro w hSw; (try dsimp only at hSw); go_simp; try with_reducible rfl)
  try simp only [Act.put, List.setIfInBounds_toArray, List.set_cons_zero, List.set_cons_succ]
  refine wpAnyZ_take (i := 5) (v := ?_) rfl (by kernel_rfl) (fun _ _ _ h => h) (Or.inl ⟨by rfl, ?_⟩) (⟨c2V, x2⟩) ?_
  rotate_left 1
  · (intro w hSw; (try dsimp only at hSw); go_simp; try with_reducible rfl)
  try simp only [Act.put, List.setIfInBounds_toArray, List.set_cons_zero, List.set_cons_succ]
  refine wpAnyZ_take (i := 6) (v := ?_) rfl (by kernel_rfl) (fun _ _ _ h => h) (Or.inl ⟨by rfl, ?_⟩) (⟨c2V, x2⟩) ?_
  rotate_left 1
  · (intro w hSw; (try dsimp only at hSw); go_simp; try with_reducible rfl)
  try simp only [Act.put, List.setIfInBounds_toArray, List.set_cons_zero, List.set_cons_succ]
  refine wpAnyZ_take (i := 7) (v := ?_) rfl (by kernel_rfl) (fun _ _ _ h => h) (Or.inl ⟨by rfl, ?_⟩) (⟨c2V, x2⟩) ?_
  rotate_left 1
  · (intro w hSw; (try dsimp only at hSw); go_simp; try with_reducible rfl)
  try simp only [Act.put, List.setIfInBounds_toArray, List.set_cons_zero, List.set_cons_succ]
  refine wpAnyZ_one (i := 8) (by kernel_rfl) (ReadyZ.mk rfl (fun K hK => ?_))
  go_simp
  have LN := Le.new V2 (.cells #[.int .i64 (200 + va)] 3)
  have e2 := (LN.cell zV).trans c2V
  have ex := (LN.cell zG).trans x2
  refine hK.out _ _ (fun _ => ⟨e2, ex⟩) ?_
  clear hK K
  try simp only [Act.put, List.setIfInBounds_toArray, List.set_cons_zero, List.set_cons_succ]
  refine wpAnyZ_one (i := 9) (by kernel_rfl) (ReadyZ.mk rfl (fun K hK => ?_))
  refine step_append_sl rfl (.tmp 36) (.tmp 40) 29 rfl (R - 1) 3 i0 _ 8 Try.underlying29 hq hz0 hz1 hz2 rfl (.slice AM s3.1.length cM) s3.1.length s3.1 rfl (OV.alloc _) _ 1 1 [200 + va] rfl (sl_one (200 + va) rfl hX rfl) (by unfold maxLen; omega) (by omega) (Nat.le_trans (by omega) LN.size) ?_
  intro v1 w4 O4 hg4 hbl
  have HP := Lib.hid (RN.told LN hX O4 hg4 hbl)
  have hneR : some R ≠ (Value.slice AM s3.1.length cM).ownBlock := fun e => RN.lneR e.symm
  have k2 := hg4.cell (a := ⟨R, 2, none⟩) e2 hneR
  have k3 : w4.frozen? ⟨R, 2, none⟩ = false := (World.frozen?_of_block (a := ⟨R, 2, none⟩) (hg4.block R (Nat.lt_of_lt_of_le zV LN.size) hneR)).trans ((LN.frozen zV).trans f2V)
  have kx := hg4.cell (a := ⟨w.heap.size + 1, 2, none⟩) ex (fun e => hlG e.symm)
  obtain ⟨A1, q1, rfl⟩ := own_form O4
  refine hK.out _ _ (fun _ => ⟨k2, kx⟩) ?_
  clear hK K
  try simp only [Act.put, List.setIfInBounds_toArray, List.set_cons_zero, List.set_cons_succ]
  refine wpAnyZ_take (i := 10) (v := ?_) rfl (by kernel_rfl) (fun _ _ _ h => h) (Or.inl ⟨by rfl, ?_⟩) (⟨k2, kx⟩) ?_
  rotate_left 1
  · (intro w hSw; (try dsimp only at hSw); go_simp; try with_reducible rfl)
  try simp only [Act.put, List.setIfInBounds_toArray, List.set_cons_zero, List.set_cons_succ]
  refine wpAnyZ_take (i := 11) (v := ?_) rfl (by kernel_rfl) (fun _ _ _ h => h) (Or.inl ⟨by rfl, ?_⟩) (⟨k2, kx⟩) ?_
  rotate_left 1
  · (intro w hSw; (try dsimp only at hSw); go_simp; try with_reducible rfl)
  try simp only [Act.put, List.setIfInBounds_toArray, List.set_cons_zero, List.set_cons_succ]
  refine wpAnyZ_one (i := 12) (by kernel_rfl) (ReadyZ.mk rfl (fun K hK => ?_))
  go_simp
  refine hK.out _ _ (fun h => absurd h (by decide)) ?_
  clear hK K
  try simp only [Act.put, List.setIfInBounds_toArray, List.set_cons_zero, List.set_cons_succ]
  refine wpAnyZ_done (by kernel_rfl) ?_ _
  refine NoPanic.normal ?_
  clear c2V f2V zV OV LN e2 ex O4 hg4 hbl k2 k3 kx hneR
  replace KQ := KQ.trans HP.out.2
  replace BX := BX.kp HP.out.2
  replace B2 := B2.kp HP.out.2
  replace LI := LI.kp HP.out.2
  replace RN := HP.out.1
  clear HP x2 zG hlG hX
  generalize w4.setCell ⟨R, 2, none⟩ (.slice A1 (s3.1.length + 1) q1) = W6 at *
  generalize (Value.slice A1 (s3.1.length + 1) q1) = lv6 at *
  have x3 := LI.c3
  have b0 := BX.c0
  have b1 := BX.c1
  have f0 := BX.f 0
  have f1 := BX.f 1
  have y0 := B2.c0
  have y1 := B2.c1
  have hgz : R < w.heap.size := hz
  have HE := Lib.hid (fun (k v : Int) => And.intro (RN.put2 BX hgz (.int .i64 k) (.int .i64 v)) (KQ.put2 (Nat.le_refl _) (.int .i64 k) (.int .i64 v)))
  have HC := Lib.hid (fun (k v : Int) => BX.put (.int .i64 k) (.int .i64 v))
  clear RN KQ BX B2 LI
  by_cases h2 : edK l = 2
  · have hq2 := HQ2.out h2
    rw [h2] at y0
    have hEW : edK l = 2 := h2
    by_cases hb : vb = 1
    · have hbb : decide (vb = 1) = true := decide_eq_true hb
      rw [hbb] at hq2
      obtain rfl : lq = .nil := hq2
      go_wp2
      have z0 := (HC.out 0 0).c0
      have z1 := (HC.out 0 0).c1
      exact bodyPost_ret (v := .agg #[.int .i64 0, .int .i64 0]) (by simp [results, Try.results117, go_sem, z0, z1]) rfl ⟨rfl, _, _, (HE.out 0 0).1, (HE.out 0 0).2⟩
    · have hbb : decide (vb = 1) = false := decide_eq_false hb
      rw [hbb] at hq2
      obtain rfl : lq = l := hq2
      go_wp2
      have z0 := (HC.out 2 (edW lq)).c0
      have z1 := (HC.out 2 (edW lq)).c1
      exact bodyPost_ret (v := .agg #[.int .i64 2, .int .i64 (edW lq)]) (by simp [results, Try.results117, go_sem, z0, z1]) rfl ⟨rsRet2 rfl rfl, _, _, (HE.out 2 (edW lq)).1, (HE.out 2 (edW lq)).2⟩
  · have hb2 : decide (edK l = 2) = false := decide_eq_false h2
    obtain rfl : lq = l := HQ1.out h2
    clear HQ1 HQ2
    generalize hk1 : edK lq = k1 at *
    go_wp2
    have z0 := (HC.out k1 (edW lq)).c0
    have z1 := (HC.out k1 (edW lq)).c1
    exact bodyPost_ret (v := .agg #[.int .i64 k1, .int .i64 (edW lq)]) (by simp [results, Try.results117, go_sem, z0, z1]) rfl ⟨rsRet2 hk1.symm rfl, _, _, (HE.out k1 (edW lq)).1, (HE.out k1 (edW lq)).2⟩
end Go.Proofs.Ytlepgfccnfcagaa
