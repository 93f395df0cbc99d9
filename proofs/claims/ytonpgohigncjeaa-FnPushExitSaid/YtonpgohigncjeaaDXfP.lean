/- the draw of PushExit -/
import Derived.Test.YtonpgohigncjeaaCx8
namespace Go.Proofs.Ytonpgohigncjeaa
open Go.RowKit
def DrawnXsX (w : World) (e : Ending) (w' : World) : Prop :=
  ∃ (B D : Option Addr) (m c q d : Nat) (xs : List Cls) (L : List Xit) (y : Xit), e = .returned (.tuple #[.agg #[.slice B m c], .slice D q d, .agg #[.int .i64 y.kind, .int .i64 y.a, .int .i64 y.b]]) ∧ Sl w' B m c xs ∧ m ≤ 8 ∧ Sl w' D q d L ∧ q ≤ 8 ∧ Enc.ok y ∧ Le w w'
theorem box_txq (w : World) (T U : TypeId) : ((w.alloc (.cells #[.slice none 0 0] T)).alloc (.cells #[.int .i64 0, .int .i64 0, .int .i64 0] U)).cell? ⟨w.heap.size, 0, none⟩ = some (.slice none 0 0) ∧ ((w.alloc (.cells #[.slice none 0 0] T)).alloc (.cells #[.int .i64 0, .int .i64 0, .int .i64 0] U)).frozen? ⟨w.heap.size, 0, none⟩ = false ∧
    B3 ((w.alloc (.cells #[.slice none 0 0] T)).alloc (.cells #[.int .i64 0, .int .i64 0, .int .i64 0] U)) (w.heap.size + 1) (.int .i64 0) (.int .i64 0) (.int .i64 0) ∧ Le w ((w.alloc (.cells #[.slice none 0 0] T)).alloc (.cells #[.int .i64 0, .int .i64 0, .int .i64 0] U)) := by
  obtain ⟨c0, z0, L0⟩ := box1 w (.slice none 0 0) T
  have f0 : (w.alloc (.cells #[.slice none 0 0] T)).frozen? ⟨w.heap.size, 0, none⟩ = false := World.frozen?_alloc_at _ _ _ _ rfl
  have LN := Le.new (w.alloc (.cells #[.slice none 0 0] T)) (.cells #[.int .i64 0, .int .i64 0, .int .i64 0] U)
  have X := B3.new (w.alloc (.cells #[.slice none 0 0] T)) (.int .i64 0) (.int .i64 0) (.int .i64 0) U
  have e : (w.alloc (.cells #[.slice none 0 0] T)).heap.size = w.heap.size + 1 := by simp
  rw [e] at X
  exact ⟨(LN.cell z0).trans c0, (LN.frozen z0).trans f0, X, L0.trans LN⟩
set_option maxHeartbeats 4000000 in
set_option maxRecDepth 100000 in
theorem drawPushExit_any (A : Option Addr) (n cap : Nat) (bs : List By) (w : World) (hR : Sl w A n cap bs) : Calls Try.prog 15 #[.slice A n cap] w (DrawnXsX w) := by
  obtain ⟨c0, f0, X, L0⟩ := box_txq w 25 42
  have S0 := hR.le L0
  have zX := X.lt
  go_enter Try.func15, Try.ntmps15
  go_wp2_with fail
  generalize (w.alloc (.cells #[.slice none 0 0] 25)).alloc (.cells #[.int .i64 0, .int .i64 0, .int .i64 0] 42) = W at *
  refine (newReader_any A n cap bs W S0).mono ?_
  rintro e w1 ⟨g, A1, n1, k1, bs1, rfl, hg, R1, hle⟩
  replace c0 := (hle.cell (by omega)).trans c0
  replace f0 := (hle.frozen (by omega)).trans f0
  replace X := X.le hle
  replace L0 := L0.trans hle
  have hgz : w.heap.size + 1 < g := by omega
  have hg1 := R1.lt
  clear S0 zX hle
  have zX := X.lt
  go_wp2_with fail
  refine (someExits_any g 0 A1 n1 k1 bs1 w1 (by omega) R1).mono ?_
  rintro e w2 ⟨B, D, m, c, q, d, xs, L, p2, rfl, S2, hm, hab, SD, hq, hD, hp2, R2, hg2⟩
  replace c0 := (hg2.cell (by omega) (by omega)).trans c0
  replace f0 := (hg2.frozen (by omega) (by omega)).trans f0
  replace X := X.gx hg2 (by omega)
  have L2 := Gx.le L0 hg2 (by omega)
  have hgl := R2.lt
  obtain ⟨ct, zt, LB⟩ := box1 w2 (.slice B m c) 25
  replace c0 := (LB.cell (by have := X.lt; omega)).trans c0
  replace f0 := (LB.frozen (by have := X.lt; omega)).trans f0
  have zw2 : w.heap.size + 1 < w2.heap.size := X.lt
  replace X := X.le LB
  replace S2 := S2.le LB
  replace SD := SD.le LB
  replace R2 := R2.le LB
  replace L2 := L2.trans LB
  clear R1 L0 hg2 zX LB
  go_wp2_with fail
  generalize w2.alloc (.cells #[.slice B m c] 25) = V at *
  refine (anExit_any B m c g p2 A1 n1 k1 bs1 V hm (by omega) R2).mono ?_
  rintro e V3 ⟨y, p3, rfl, hy, hp3, R3, hg3⟩
  replace c0 := (hg3.cell (by omega) (by omega)).trans c0
  replace f0 := (hg3.frozen (by omega) (by omega)).trans f0
  replace X := X.gx hg3 (by omega)
  replace L2 := Gx.le L2 hg3 (by omega)
  replace S2 := S2.gx (fun hn a e => by have := hab hn a e; omega) hg3
  replace SD := SD.gx (fun hn a e => by have := hD hn a e; omega) hg3
  replace ct := (hg3.cell zt (by omega)).trans ct
  have zt3 : w2.heap.size < V3.heap.size := Nat.lt_of_lt_of_le zt hg3.size
  clear R2 hg3 zt
  obtain ⟨vk, va, vb⟩ := y
  have hfT := S2.under
  have hfD := SD.under
  have LX := Le.new V3 (.cells #[.int .i64 vk, .int .i64 va, .int .i64 vb] 42)
  have Y := B3.new V3 (.int .i64 vk) (.int .i64 va) (.int .i64 vb) 42
  replace c0 := (LX.cell (by omega)).trans c0
  replace f0 := (LX.frozen (by omega)).trans f0
  replace X := X.le LX
  replace L2 := L2.trans LX
  replace S2 := S2.le LX
  replace SD := SD.le LX
  replace ct := (LX.cell zt3).trans ct
  replace R3 := R3.le LX
  clear LX
  dsimp only at *
  go_wp2_with fail
  generalize V3.alloc (.cells #[.int .i64 vk, .int .i64 va, .int .i64 vb] 42) = V4 at *
  obtain ⟨xb, hxb⟩ : ∃ xb, V3.heap.size = xb := ⟨_, rfl⟩
  rw [hxb] at Y zt3 hfT hfD ⊢
  clear hxb
  have zY : xb < V4.heap.size := Y.lt
  refine (pick_any 12 g p3 A1 n1 k1 bs1 V4 (by omega) (by omega) (by omega) R3).mono ?_
  rintro e W5 ⟨v, rfl, hv0, hv1, R5, hg5⟩
  replace c0 := (hg5.cell (by omega) (by omega)).trans c0
  replace f0 := (hg5.frozen (by omega) (by omega)).trans f0
  replace X := X.gx hg5 (by omega)
  replace Y := Y.gx hg5 (by omega)
  replace L2 := Gx.le L2 hg5 (by omega)
  replace S2 := S2.gx (fun hn a e => by have := hab hn a e; omega) hg5
  replace SD := SD.gx (fun hn a e => by have := hD hn a e; omega) hg5
  replace ct := (hg5.cell (by omega) (by omega)).trans ct
  clear R3 R5 hg5 zY hv0 hv1
  have zY : xb < W5.heap.size := Y.lt
  by_cases hv : v = 0
  · subst hv
    have HYO : Enc.ok (⟨vk, -1, vb⟩ : Xit) := ⟨hy.1, hy.2.1, by show _ ≤ (-1 : Int); omega, by show (-1 : Int) ≤ _; omega, hy.2.2.2.2.1, hy.2.2.2.2.2⟩
    have yy1 := Y.c1
    have yf1 := Y.f 1
    replace c0 := (cell_set_other (v := .int .i64 (-1)) (o := 1) (o' := 0) (.inl (by omega : xb ≠ w.heap.size))).trans c0
    replace f0 : (W5.setCell ⟨xb, 1, none⟩ (.int .i64 (-1))).frozen? ⟨w.heap.size, 0, none⟩ = false := (frz3 _ _ _ _ _ _).trans f0
    replace X := X.far (by omega : xb ≠ w.heap.size + 1) 1 (.int .i64 (-1))
    replace ct := (cell_set_other (v := .int .i64 (-1)) (o := 1) (o' := 0) (.inl (by omega : xb ≠ w2.heap.size))).trans ct
    replace L2 := L2.setCell (b := xb) (o := 1) (by omega) (.int .i64 (-1))
    replace S2 := S2.setBlk (b := xb) (fun hn a e => by have := hfT hn a e; omega) 1 (.int .i64 (-1))
    replace SD := SD.setBlk (b := xb) (fun hn a e => by have := hfD hn a e; omega) 1 (.int .i64 (-1))
    have Y1 := Y.set1 (.int .i64 (-1))
    clear Y
    have Y := Y1
    clear Y1
    have hbx : (w.heap.size : Nat) < xb := by omega
    clear zY
    go_wp2_with fail
    generalize W5.setCell ⟨xb, 1, none⟩ (.int .i64 (-1)) = W6 at *
    have zYY := Y.lt
    have LD := Lib.hid ((Le.refl W6).drew)
    replace c0 := (LD.out.cell (by omega)).trans c0
    replace f0 := (LD.out.frozen (by omega)).trans f0
    replace X := X.le LD.out
    replace Y := Y.le LD.out
    replace ct := (LD.out.cell (by omega)).trans ct
    replace S2 := S2.le LD.out
    replace SD := SD.le LD.out
    replace L2 := L2.trans LD.out
    clear LD
    refine wp_region_Z (fun w' => w'.cell? ⟨w2.heap.size, 0, none⟩ = some (.slice B m c) ∧ w'.cell? ⟨xb, 0, none⟩ = some (.int .i64 vk) ∧ w'.cell? ⟨xb, 1, none⟩ = some (.int .i64 (-1)) ∧ w'.cell? ⟨xb, 2, none⟩ = some (.int .i64 vb)) [] (by kernel_rfl) ?_
    generalize W6.drew = V2 at *
    have y0 := Y.c0
    have y1 := Y.c1
    have y2 := Y.c2
    refine wpAnyZ_take (i := 0) (v := ?_) rfl (by kernel_rfl) (fun _ _ _ h => h) (Or.inl ⟨by rfl, ?_⟩) (⟨ct, y0, y1, y2⟩) ?_
    rotate_left 1
    · (intro w hSw; (try dsimp only at hSw); go_simp; try with_reducible rfl)
    try simp only [Act.put, List.setIfInBounds_toArray, List.set_cons_zero, List.set_cons_succ]
    refine wpAnyZ_take (i := 1) (v := ?_) rfl (by kernel_rfl) (fun _ _ _ h => h) (Or.inl ⟨by rfl, ?_⟩) (⟨ct, y0, y1, y2⟩) ?_
    rotate_left 1
    · (intro w hSw; (try dsimp only at hSw); go_simp; try with_reducible rfl)
    try simp only [Act.put, List.setIfInBounds_toArray, List.set_cons_zero, List.set_cons_succ]
    refine wpAnyZ_take (i := 2) (v := ?_) rfl (by kernel_rfl) (fun _ _ _ h => h) (Or.inl ⟨by rfl, ?_⟩) (⟨ct, y0, y1, y2⟩) ?_
    rotate_left 1
    · (intro w hSw; (try dsimp only at hSw); go_simp; try with_reducible rfl)
    try simp only [Act.put, List.setIfInBounds_toArray, List.set_cons_zero, List.set_cons_succ]
    have X5 := X.far (by omega : w.heap.size ≠ w.heap.size + 1) 0 (.slice B m c)
    have Y5 := Y.far (by omega : w.heap.size ≠ xb) 0 (.slice B m c)
    have k0 : (V2.setCell ⟨w.heap.size, 0, none⟩ (.slice B m c)).cell? ⟨w.heap.size, 0, none⟩ = some (.slice B m c) := cell_set_same c0
    have L5 := L2.setCell (b := w.heap.size) (o := 0) (Nat.le_refl _) (.slice B m c)
    have S5 := S2.setNoneX (u := .slice B m c) c0 (fun x h => by simp [Enc.cells] at h)
    have SD5 := SD.setNoneX (u := .slice B m c) c0 (fun x h => by simp [Enc.cells] at h)
    have ct5 := (cell_set_other (v := .slice B m c) (o := 0) (o' := 0) (.inl (by omega : w.heap.size ≠ w2.heap.size))).trans ct
    clear S2 SD L2 X Y y0 y1 y2
    have y0 := Y5.c0
    have y1 := Y5.c1
    have y2 := Y5.c2
    refine wpAnyZ_one (i := 3) (by kernel_rfl) (ReadyZ.mk rfl (fun K hK => ?_))
    go_simp
    refine hK.out _ _ (fun _ => ⟨ct5, y0, y1, y2⟩) ?_
    clear hK K
    try simp only [Act.put, List.setIfInBounds_toArray, List.set_cons_zero, List.set_cons_succ]
    refine wpAnyZ_take (i := 4) (v := ?_) rfl (by kernel_rfl) (fun _ _ _ h => h) (Or.inl ⟨by rfl, ?_⟩) (⟨ct5, y0, y1, y2⟩) ?_
    rotate_left 1
    · (intro w hSw; (try dsimp only at hSw); go_simp; try with_reducible rfl)
    try simp only [Act.put, List.setIfInBounds_toArray, List.set_cons_zero, List.set_cons_succ]
    generalize V2.setCell ⟨w.heap.size, 0, none⟩ (.slice B m c) = V5 at *
    obtain ⟨z0, z0f, z1, z1f, z2, z2f, ZA⟩ := X5.threeD (.int .i64 vk) (.int .i64 (-1)) (.int .i64 vb)
    have Y8 := ((Y5.far (by omega : w.heap.size + 1 ≠ xb) 0 (.int .i64 vk)).far (by omega : w.heap.size + 1 ≠ xb) 1 (.int .i64 (-1))).far (by omega : w.heap.size + 1 ≠ xb) 2 (.int .i64 vb)
    have k0' : Hid ((((V5.setCell ⟨w.heap.size + 1, 0, none⟩ (.int .i64 vk)).setCell ⟨w.heap.size + 1, 1, none⟩ (.int .i64 (-1))).setCell ⟨w.heap.size + 1, 2, none⟩ (.int .i64 vb)).cell? ⟨w.heap.size, 0, none⟩ = some (.slice B m c)) :=
      (cell_set_other (.inl (by omega))).trans ((cell_set_other (.inl (by omega))).trans ((cell_set_other (.inl (by omega))).trans k0))
    have ct8 : (((V5.setCell ⟨w.heap.size + 1, 0, none⟩ (.int .i64 vk)).setCell ⟨w.heap.size + 1, 1, none⟩ (.int .i64 (-1))).setCell ⟨w.heap.size + 1, 2, none⟩ (.int .i64 vb)).cell? ⟨w2.heap.size, 0, none⟩ = some (.slice B m c) :=
      (cell_set_other (.inl (by omega))).trans ((cell_set_other (.inl (by omega))).trans ((cell_set_other (.inl (by omega))).trans ct5))
    have S6 : Hid (Sl (((V5.setCell ⟨w.heap.size + 1, 0, none⟩ (.int .i64 vk)).setCell ⟨w.heap.size + 1, 1, none⟩ (.int .i64 (-1))).setCell ⟨w.heap.size + 1, 2, none⟩ (.int .i64 vb)) B m c xs) :=
      ((S5.setBlk (fun hn a e => by have := hab hn a e; omega) _ _).setBlk (fun hn a e => by have := hab hn a e; omega) _ _).setBlk (fun hn a e => by have := hab hn a e; omega) _ _
    have SD6 : Hid (Sl (((V5.setCell ⟨w.heap.size + 1, 0, none⟩ (.int .i64 vk)).setCell ⟨w.heap.size + 1, 1, none⟩ (.int .i64 (-1))).setCell ⟨w.heap.size + 1, 2, none⟩ (.int .i64 vb)) D q d L) :=
      ((SD5.setBlk (fun hn a e => by have := hD hn a e; omega) _ _).setBlk (fun hn a e => by have := hD hn a e; omega) _ _).setBlk (fun hn a e => by have := hD hn a e; omega) _ _
    have L6 := Lib.hid (((L5.setCell (b := w.heap.size + 1) (o := 0) (by omega) (.int .i64 vk)).setCell (b := w.heap.size + 1) (o := 1) (by omega) (.int .i64 (-1))).setCell (b := w.heap.size + 1) (o := 2) (by omega) (.int .i64 vb))
    have y3 := Y8.c0
    have y4 := Y8.c1
    have y5 := Y8.c2
    clear X5 Y5 k0 L5 S5 SD5 c0 f0 ct hab hD y0 y1 y2
    refine wpAnyZ_one (i := 5) (by kernel_rfl) (ReadyZ.mk rfl (fun K hK => ?_))
    go_simp
    refine hK.out _ _ (fun _ => ⟨ct8, y3, y4, y5⟩) ?_
    clear hK K
    try simp only [Act.put, List.setIfInBounds_toArray, List.set_cons_zero, List.set_cons_succ]
    refine wpAnyZ_done (by kernel_rfl) ?_ _
    go_wp2
    have e0 := ZA.out.c0
    have e1 := ZA.out.c1
    have e2 := ZA.out.c2
    have e3 := k0'.out
    exact bodyPost_ret (v := .tuple #[.agg #[.slice B m c], .slice D q d, .agg #[.int .i64 vk, .int .i64 (-1), .int .i64 vb]]) (by simp [results, Try.results15, go_sem, e0, e1, e2, e3]) rfl ⟨B, D, m, c, q, d, xs, L, ⟨vk, -1, vb⟩, rfl, S6.out, hm, SD6.out, hq, HYO, L6.out⟩
  · have hvb : (v == 0) = false := beq_eq_false_iff_ne.2 hv
    have HYO : Enc.ok (⟨vk, va, vb⟩ : Xit) := hy
    have zYY := Y.lt
    have LD := Lib.hid ((Le.refl W5).drew)
    replace c0 := (LD.out.cell (by omega)).trans c0
    replace f0 := (LD.out.frozen (by omega)).trans f0
    replace X := X.le LD.out
    replace Y := Y.le LD.out
    replace ct := (LD.out.cell (by omega)).trans ct
    replace S2 := S2.le LD.out
    replace SD := SD.le LD.out
    replace L2 := L2.trans LD.out
    clear LD
    go_wp2_with fail
    refine wp_region_Z (fun w' => w'.cell? ⟨w2.heap.size, 0, none⟩ = some (.slice B m c) ∧ w'.cell? ⟨xb, 0, none⟩ = some (.int .i64 vk) ∧ w'.cell? ⟨xb, 1, none⟩ = some (.int .i64 va) ∧ w'.cell? ⟨xb, 2, none⟩ = some (.int .i64 vb)) [] (by kernel_rfl) ?_
    generalize W5.drew = V2 at *
    have y0 := Y.c0
    have y1 := Y.c1
    have y2 := Y.c2
    refine wpAnyZ_take (i := 0) (v := ?_) rfl (by kernel_rfl) (fun _ _ _ h => h) (Or.inl ⟨by rfl, ?_⟩) (⟨ct, y0, y1, y2⟩) ?_
    rotate_left 1
    · (intro w hSw; (try dsimp only at hSw); go_simp; try with_reducible rfl)
    try simp only [Act.put, List.setIfInBounds_toArray, List.set_cons_zero, List.set_cons_succ]
    refine wpAnyZ_take (i := 1) (v := ?_) rfl (by kernel_rfl) (fun _ _ _ h => h) (Or.inl ⟨by rfl, ?_⟩) (⟨ct, y0, y1, y2⟩) ?_
    rotate_left 1
    · (intro w hSw; (try dsimp only at hSw); go_simp; try with_reducible rfl)
    try simp only [Act.put, List.setIfInBounds_toArray, List.set_cons_zero, List.set_cons_succ]
    refine wpAnyZ_take (i := 2) (v := ?_) rfl (by kernel_rfl) (fun _ _ _ h => h) (Or.inl ⟨by rfl, ?_⟩) (⟨ct, y0, y1, y2⟩) ?_
    rotate_left 1
    · (intro w hSw; (try dsimp only at hSw); go_simp; try with_reducible rfl)
    try simp only [Act.put, List.setIfInBounds_toArray, List.set_cons_zero, List.set_cons_succ]
    have X5 := X.far (by omega : w.heap.size ≠ w.heap.size + 1) 0 (.slice B m c)
    have Y5 := Y.far (by omega : w.heap.size ≠ xb) 0 (.slice B m c)
    have k0 : (V2.setCell ⟨w.heap.size, 0, none⟩ (.slice B m c)).cell? ⟨w.heap.size, 0, none⟩ = some (.slice B m c) := cell_set_same c0
    have L5 := L2.setCell (b := w.heap.size) (o := 0) (Nat.le_refl _) (.slice B m c)
    have S5 := S2.setNoneX (u := .slice B m c) c0 (fun x h => by simp [Enc.cells] at h)
    have SD5 := SD.setNoneX (u := .slice B m c) c0 (fun x h => by simp [Enc.cells] at h)
    have ct5 := (cell_set_other (v := .slice B m c) (o := 0) (o' := 0) (.inl (by omega : w.heap.size ≠ w2.heap.size))).trans ct
    clear S2 SD L2 X Y y0 y1 y2
    have y0 := Y5.c0
    have y1 := Y5.c1
    have y2 := Y5.c2
    refine wpAnyZ_one (i := 3) (by kernel_rfl) (ReadyZ.mk rfl (fun K hK => ?_))
    go_simp
    refine hK.out _ _ (fun _ => ⟨ct5, y0, y1, y2⟩) ?_
    clear hK K
    try simp only [Act.put, List.setIfInBounds_toArray, List.set_cons_zero, List.set_cons_succ]
    refine wpAnyZ_take (i := 4) (v := ?_) rfl (by kernel_rfl) (fun _ _ _ h => h) (Or.inl ⟨by rfl, ?_⟩) (⟨ct5, y0, y1, y2⟩) ?_
    rotate_left 1
    · (intro w hSw; (try dsimp only at hSw); go_simp; try with_reducible rfl)
    try simp only [Act.put, List.setIfInBounds_toArray, List.set_cons_zero, List.set_cons_succ]
    generalize V2.setCell ⟨w.heap.size, 0, none⟩ (.slice B m c) = V5 at *
    obtain ⟨z0, z0f, z1, z1f, z2, z2f, ZA⟩ := X5.threeD (.int .i64 vk) (.int .i64 va) (.int .i64 vb)
    have Y8 := ((Y5.far (by omega : w.heap.size + 1 ≠ xb) 0 (.int .i64 vk)).far (by omega : w.heap.size + 1 ≠ xb) 1 (.int .i64 va)).far (by omega : w.heap.size + 1 ≠ xb) 2 (.int .i64 vb)
    have k0' : Hid ((((V5.setCell ⟨w.heap.size + 1, 0, none⟩ (.int .i64 vk)).setCell ⟨w.heap.size + 1, 1, none⟩ (.int .i64 va)).setCell ⟨w.heap.size + 1, 2, none⟩ (.int .i64 vb)).cell? ⟨w.heap.size, 0, none⟩ = some (.slice B m c)) :=
      (cell_set_other (.inl (by omega))).trans ((cell_set_other (.inl (by omega))).trans ((cell_set_other (.inl (by omega))).trans k0))
    have ct8 : (((V5.setCell ⟨w.heap.size + 1, 0, none⟩ (.int .i64 vk)).setCell ⟨w.heap.size + 1, 1, none⟩ (.int .i64 va)).setCell ⟨w.heap.size + 1, 2, none⟩ (.int .i64 vb)).cell? ⟨w2.heap.size, 0, none⟩ = some (.slice B m c) :=
      (cell_set_other (.inl (by omega))).trans ((cell_set_other (.inl (by omega))).trans ((cell_set_other (.inl (by omega))).trans ct5))
    have S6 : Hid (Sl (((V5.setCell ⟨w.heap.size + 1, 0, none⟩ (.int .i64 vk)).setCell ⟨w.heap.size + 1, 1, none⟩ (.int .i64 va)).setCell ⟨w.heap.size + 1, 2, none⟩ (.int .i64 vb)) B m c xs) :=
      ((S5.setBlk (fun hn a e => by have := hab hn a e; omega) _ _).setBlk (fun hn a e => by have := hab hn a e; omega) _ _).setBlk (fun hn a e => by have := hab hn a e; omega) _ _
    have SD6 : Hid (Sl (((V5.setCell ⟨w.heap.size + 1, 0, none⟩ (.int .i64 vk)).setCell ⟨w.heap.size + 1, 1, none⟩ (.int .i64 va)).setCell ⟨w.heap.size + 1, 2, none⟩ (.int .i64 vb)) D q d L) :=
      ((SD5.setBlk (fun hn a e => by have := hD hn a e; omega) _ _).setBlk (fun hn a e => by have := hD hn a e; omega) _ _).setBlk (fun hn a e => by have := hD hn a e; omega) _ _
    have L6 := Lib.hid (((L5.setCell (b := w.heap.size + 1) (o := 0) (by omega) (.int .i64 vk)).setCell (b := w.heap.size + 1) (o := 1) (by omega) (.int .i64 va)).setCell (b := w.heap.size + 1) (o := 2) (by omega) (.int .i64 vb))
    have y3 := Y8.c0
    have y4 := Y8.c1
    have y5 := Y8.c2
    clear X5 Y5 k0 L5 S5 SD5 c0 f0 ct hab hD y0 y1 y2
    refine wpAnyZ_one (i := 5) (by kernel_rfl) (ReadyZ.mk rfl (fun K hK => ?_))
    go_simp
    refine hK.out _ _ (fun _ => ⟨ct8, y3, y4, y5⟩) ?_
    clear hK K
    try simp only [Act.put, List.setIfInBounds_toArray, List.set_cons_zero, List.set_cons_succ]
    refine wpAnyZ_done (by kernel_rfl) ?_ _
    go_wp2
    have e0 := ZA.out.c0
    have e1 := ZA.out.c1
    have e2 := ZA.out.c2
    have e3 := k0'.out
    exact bodyPost_ret (v := .tuple #[.agg #[.slice B m c], .slice D q d, .agg #[.int .i64 vk, .int .i64 va, .int .i64 vb]]) (by simp [results, Try.results15, go_sem, e0, e1, e2, e3]) rfl ⟨B, D, m, c, q, d, xs, L, ⟨vk, va, vb⟩, rfl, S6.out, hm, SD6.out, hq, HYO, L6.out⟩
end Go.Proofs.Ytonpgohigncjeaa
