/- one text of DPc -/
import Derived.Test.YtlepgfccnfcagaaWp13
import Derived.Test.YtlepgfccnfcagaaWp6
namespace Go.Proofs.Ytlepgfccnfcagaa
open Go.RowKit
set_option linter.unusedVariables false
section
/-- where the draw of a statement stands: the reader, the tree's box, the line's box -/
structure Bs (w wr : World) (g p : Nat) (A : Option Addr) (n cap : Nat) (bs : List By) (B : Option Addr) (m c X : Nat) (x : Lin) : Prop where
  R : Rd wr g p A n cap bs
  G : Gx g w wr
  gw : g < w.heap.size
  ct : wr.cell? ⟨w.heap.size, 0, none⟩ = some (.slice B m c)
  zt : w.heap.size < wr.heap.size
  xg : w.heap.size < X
  row : wr.heap[X]? = some (.cells #[.int .i64 x.depth, .int .i64 x.kind, .int .i64 x.a, .int .i64 x.b] 42 (0, 0))
section
variable {w wr w2 : World} {g p p2 : Nat} {A : Option Addr} {n cap : Nat} {bs : List By} {B : Option Addr} {m c X : Nat} {x : Lin}
theorem Bs.lt (h : Bs w wr g p A n cap bs B m c X x) : X < wr.heap.size := by
  rcases Nat.lt_or_ge X wr.heap.size with hlt | hge
  · exact hlt
  · have := h.row; rw [Array.getElem?_eq_none hge] at this; cases this
theorem Bs.c0 (h : Bs w wr g p A n cap bs B m c X x) : wr.cell? ⟨X, 0, none⟩ = some (.int .i64 x.depth) := (cell_of_row wr _ 0 _ _ _ h.row).trans rfl
theorem Bs.c1 (h : Bs w wr g p A n cap bs B m c X x) : wr.cell? ⟨X, 1, none⟩ = some (.int .i64 x.kind) := (cell_of_row wr _ 1 _ _ _ h.row).trans rfl
theorem Bs.c2 (h : Bs w wr g p A n cap bs B m c X x) : wr.cell? ⟨X, 2, none⟩ = some (.int .i64 x.a) := (cell_of_row wr _ 2 _ _ _ h.row).trans rfl
theorem Bs.c3 (h : Bs w wr g p A n cap bs B m c X x) : wr.cell? ⟨X, 3, none⟩ = some (.int .i64 x.b) := (cell_of_row wr _ 3 _ _ _ h.row).trans rfl
theorem Bs.fz (h : Bs w wr g p A n cap bs B m c X x) (o : Nat) : wr.frozen? ⟨X, o, none⟩ = false := frozen_of_row wr X o _ _ h.row
theorem Bs.call (h : Bs w wr g p A n cap bs B m c X x) (R2 : Rd w2 g p2 A n cap bs) (hg : Gx g wr w2) : Bs w w2 g p2 A n cap bs B m c X x :=
  ⟨R2, h.G.trans hg, h.gw, (hg.cell h.zt (by have := h.gw; omega)).trans h.ct, Nat.lt_of_lt_of_le h.zt hg.size, h.xg, (hg.block X h.lt (fun e => by injection e with e; have := h.gw; have := h.xg; omega)).trans h.row⟩
theorem Bs.le (h : Bs w wr g p A n cap bs B m c X x) (hl : Le wr w2) : Bs w w2 g p A n cap bs B m c X x := h.call (h.R.le hl) (Gx.of_le hl)
theorem Bs.set (h : Bs w wr g p A n cap bs B m c X x) (hA : 0 < n → ∀ a, A = some a → a.block < w.heap.size) {o : Nat} {v : Int} {y : Lin} (hr : (wr.setCell ⟨X, o, none⟩ (.int .i64 v)).heap[X]? = some (.cells #[.int .i64 y.depth, .int .i64 y.kind, .int .i64 y.a, .int .i64 y.b] 42 (0, 0))) : Bs w (wr.setCell ⟨X, o, none⟩ (.int .i64 v)) g p A n cap bs B m c X y :=
  ⟨h.R.setNew _ (by have := h.gw; have := h.xg; omega) (fun hn a e => by have := hA hn a e; have := h.xg; omega), h.G.setNewF (by have := h.xg; omega) _, h.gw, (cell_set_other (.inl (by have := h.xg; omega))).trans h.ct, by have := h.zt; simpa [World.setCell] using this, h.xg, hr⟩
theorem Bs.set1 (h : Bs w wr g p A n cap bs B m c X x) (hA : 0 < n → ∀ a, A = some a → a.block < w.heap.size) (v : Int) : Bs w (wr.setCell ⟨X, 1, none⟩ (.int .i64 v)) g p A n cap bs B m c X ⟨x.depth, v, x.a, x.b⟩ := h.set hA (heap_setCell_same wr X 1 _ _ _ h.row)
theorem Bs.set2 (h : Bs w wr g p A n cap bs B m c X x) (hA : 0 < n → ∀ a, A = some a → a.block < w.heap.size) (v : Int) : Bs w (wr.setCell ⟨X, 2, none⟩ (.int .i64 v)) g p A n cap bs B m c X ⟨x.depth, x.kind, v, x.b⟩ := h.set hA (heap_setCell_same wr X 2 _ _ _ h.row)
theorem Bs.set3 (h : Bs w wr g p A n cap bs B m c X x) (hA : 0 < n → ∀ a, A = some a → a.block < w.heap.size) (v : Int) : Bs w (wr.setCell ⟨X, 3, none⟩ (.int .i64 v)) g p A n cap bs B m c X ⟨x.depth, x.kind, x.a, v⟩ := h.set hA (heap_setCell_same wr X 3 _ _ _ h.row)
theorem Bs.grown (h : Bs w wr g p A n cap bs B m c X x) (hA : 0 < n → ∀ a, A = some a → a.block < w.heap.size) {r : Option Nat} (hg : wr.grownBy w2 r) (hr : ∀ k, r = some k → X < k) : Bs w w2 g p A n cap bs B m c X x :=
  ⟨h.R.grown hg (fun e => by have := hr _ e; have := h.gw; have := h.xg; omega) (fun hn a e e2 => by have := hr _ e2; have := hA hn a e; have := h.xg; omega), h.G.grown hg (fun k hk => by have := hr k hk; have := h.xg; omega), h.gw,
    (hg.cell (a := ⟨w.heap.size, 0, none⟩) h.ct (fun e => by have h1 : X < w.heap.size := hr _ e.symm; have := h.xg; omega)), Nat.lt_of_lt_of_le h.zt hg.size, h.xg, (hg.block X h.lt (fun e => by have := hr X e.symm; omega)).trans h.row⟩
theorem Bs.out (h : Bs w wr g p A n cap bs B m c X x) {lim k p0 b : Nat} (hok : Enc.ok x) (hb : b = wr.heap.size) (h1 : 1 ≤ lim) (h2 : p ≤ p0 + k) : LnsOut lim k g p0 A n cap bs w (.returned (.slice (some ⟨b, 0, none⟩) 1 1)) (wr.alloc (.cells #[.int .i64 x.depth, .int .i64 x.kind, .int .i64 x.a, .int .i64 x.b] 42)) := by
  subst hb
  exact ⟨_, [x], p, rfl, own_one2 wr x h.G.size, one_ok hok, Nat.one_pos, h1, h2, h.R.le (Le.new _ _), h.G.trans (Gx.of_le (Le.new _ _))⟩
end
theorem dl_ok2 {d k a b : Int} (h0 : 0 ≤ d) (h1 : d ≤ 3) (hk : 0 ≤ k ∧ k ≤ 20) (ha : 0 ≤ a ∧ a ≤ 1000000) (hb : 0 ≤ b ∧ b ≤ 1000000) : Enc.ok (⟨d, k, a, b⟩ : Lin) :=
  ⟨by show _ ≤ d; omega, by show d ≤ _; omega, by show _ ≤ k; omega, by show k ≤ _; omega, by show _ ≤ a; omega, by show a ≤ _; omega, by show _ ≤ b; omega, by show b ≤ _; omega⟩
set_option maxHeartbeats 4000000 in
set_option maxRecDepth 100000 in
theorem stmt_0 : DrawC 105 0 1 4 := by
  intro d lp B m c g p A n cap bs w hde hd0 hm hp hR
  have hgw := hR.lt
  have HA : Hid (0 < n → ∀ a, A = some a → a.block < w.heap.size) := fun hn a e => hR.sl.under hn a e
  have hd3 : d ≤ 3 := by omega
  go_enter Try.func105, Try.ntmps105
  go_wp2_with fail
  obtain ⟨ct, zt, L0⟩ := box1 w (.slice B m c) 25
  have R0 := hR.le L0
  have G0 := Gx.of_le (g := g) L0
  generalize w.alloc (.cells #[.slice B m c] 25) = W at *
  clear L0 hR
  refine (pick_any 16 g p A n cap bs W (by omega) (by omega) (by omega) R0).mono ?_
  rintro e0 w1 ⟨kz, rfl, kza, kzb, R1, hg1⟩
  replace ct := (hg1.cell zt (by omega)).trans ct
  replace zt := Nat.lt_of_lt_of_le zt hg1.size
  replace G0 := G0.trans hg1
  clear hg1 R0
  have hd3b : decide (3 ≤ d) = true := decide_eq_true (by omega)
  go_wp2_with fail
  refine (pick_any 9 g (p + 1) A n cap bs w1 (by omega) (by omega) (by omega) R1).mono ?_
  clear kza kzb
  rintro e1 w2 ⟨k, rfl, ka, kb, R2, hg2⟩
  replace ct := (hg2.cell zt (by omega)).trans ct
  replace zt := Nat.lt_of_lt_of_le zt hg2.size
  replace G0 := G0.trans hg2
  clear hg2 R1
  have BB : Bs w (w2.alloc (.cells #[.int .i64 d, .int .i64 0, .int .i64 0, .int .i64 0] 42)) g (p + 1 + 1) A n cap bs B m c w2.heap.size ⟨d, 0, 0, 0⟩ := by
    have LX := Le.new w2 (.cells #[.int .i64 d, .int .i64 0, .int .i64 0, .int .i64 0] 42)
    exact ⟨R2.le LX, G0.trans (Gx.of_le LX), hgw, (LX.cell zt).trans ct, Nat.lt_of_lt_of_le zt LX.size, zt, heap_alloc_new w2 _⟩
  clear ct zt G0 R2
  have hk15 : k ≤ 8 := by rcases kb with h | h <;> omega
  clear kb
  go_upto_region 6 with (fail)
  generalize w2.alloc (.cells #[.int .i64 d, .int .i64 0, .int .i64 0, .int .i64 0] 42) = WX at *
  generalize w2.heap.size = X at *
  have k0 := BB.c0
  have k1 := BB.c1
  have k2 := BB.c2
  have k3 := BB.c3
  have f1 := BB.fz 1
  have f2 := BB.fz 2
  have f3 := BB.fz 3
  have kt := BB.ct
  by_cases q4 : k < 4
  · have b4 : decide (k < 4) = true := decide_eq_true q4
    clear q4
    go_wp2_with fail
    refine (one_lit [1, 2, 3, 4, 5] 5 _ _ g (p + 1 + 1) A n cap bs (WX.setCell ⟨X, 1, none⟩ (.int .i64 1)) _ rfl rfl (by decide) (by decide) (by intro x hx; simp at hx; constructor <;> omega) (by omega) (by simp [World.setCell]) (BB.set1 HA.out 1).R).mono ?_
    rintro e1 y1 ⟨b1, rfl, hb1, R1, hg1⟩
    have h1 : 1 ≤ b1 ∧ b1 ≤ 5 := by (simp at hb1; omega)
    have B1 := (BB.set1 HA.out 1).call R1 hg1
    clear R1 hg1 hb1
    clear k0 k1 k2 k3 f1 f2 f3 kt
    have k0 := B1.c0
    have k1 := B1.c1
    have k2 := B1.c2
    have k3 := B1.c3
    have f1 := B1.fz 1
    have f2 := B1.fz 2
    have f3 := B1.fz 3
    have kt := B1.ct
    have BE := (B1.set2 HA.out b1)
    have j0 := BE.c0
    have j1 := BE.c1
    have j2 := BE.c2
    have j3 := BE.c3
    have HBE := Lib.hid BE
    clear BE
    go_wp2
    go_ret
    exact HBE.out.out (dl_ok2 hd0 hd3 (by omega) (by omega) (by omega)) (by simp [World.setCell]) (by omega) (by omega)
  have b4 : decide (k < 4) = false := decide_eq_false q4
  by_cases q6 : k < 6
  · have b6 : decide (k < 6) = true := decide_eq_true q6
    clear q4 q6
    go_wp2_with fail
    refine (pick_any m g (p + 1 + 1) A n cap bs (WX.setCell ⟨X, 1, none⟩ (.int .i64 2)) (by omega) (by omega) (by omega) (BB.set1 HA.out 2).R).mono ?_
    rintro e2 y2 ⟨b2, rfl, a2, hb2, R2, hg2⟩
    have h2 : 0 ≤ b2 ∧ b2 ≤ 8 := by rcases hb2 with h | h <;> omega
    have B2 := (BB.set1 HA.out 2).call R2 hg2
    clear R2 hg2 hb2 a2
    clear k0 k1 k2 k3 f1 f2 f3 kt
    have k0 := B2.c0
    have k1 := B2.c1
    have k2 := B2.c2
    have k3 := B2.c3
    have f1 := B2.fz 1
    have f2 := B2.fz 2
    have f3 := B2.fz 3
    have kt := B2.ct
    go_wp2_with fail
    refine (one_lit [1, 2, 3] 3 _ _ g ((p + 1 + 1) + 1) A n cap bs (y2.setCell ⟨X, 2, none⟩ (.int .i64 b2)) _ rfl rfl (by decide) (by decide) (by intro x hx; simp at hx; constructor <;> omega) (by omega) (by simp [World.setCell]) (B2.set2 HA.out b2).R).mono ?_
    rintro e3 y3 ⟨b3, rfl, hb3, R3, hg3⟩
    have h3 : 1 ≤ b3 ∧ b3 ≤ 3 := by (simp at hb3; omega)
    have B3 := (B2.set2 HA.out b2).call R3 hg3
    clear R3 hg3 hb3
    clear k0 k1 k2 k3 f1 f2 f3 kt
    have k0 := B3.c0
    have k1 := B3.c1
    have k2 := B3.c2
    have k3 := B3.c3
    have f1 := B3.fz 1
    have f2 := B3.fz 2
    have f3 := B3.fz 3
    have kt := B3.ct
    have BE := (B3.set3 HA.out b3)
    have j0 := BE.c0
    have j1 := BE.c1
    have j2 := BE.c2
    have j3 := BE.c3
    have HBE := Lib.hid BE
    clear BE
    go_wp2
    go_ret
    exact HBE.out.out (dl_ok2 hd0 hd3 (by omega) (by omega) (by omega)) (by simp [World.setCell]) (by omega) (by omega)
  have b6 : decide (k < 6) = false := decide_eq_false q6
  by_cases q7 : k = 6
  · subst q7
    clear q4 q6 b4 b6
    have BE := (BB.set1 HA.out 3)
    have j0 := BE.c0
    have j1 := BE.c1
    have j2 := BE.c2
    have j3 := BE.c3
    have HBE := Lib.hid BE
    clear BE
    go_wp2
    go_ret
    exact HBE.out.out (dl_ok2 hd0 hd3 (by omega) (by omega) (by omega)) (by simp [World.setCell]) (by omega) (by omega)
  have b7 : (k == 6) = false := by simpa using q7
  by_cases q8 : k = 7
  · subst q8
    clear q4 q6 b4 b6 q7 b7
    cases lp
    · skip
      go_wp2_with fail
      refine (one_lit [7, 8] 2 _ _ g (p + 1 + 1) A n cap bs (WX.setCell ⟨X, 1, none⟩ (.int .i64 4)) _ rfl rfl (by decide) (by decide) (by intro x hx; simp at hx; constructor <;> omega) (by omega) (by simp [World.setCell]) (BB.set1 HA.out 4).R).mono ?_
      rintro e4 y4 ⟨b4, rfl, hb4, R4, hg4⟩
      have h4 : 7 ≤ b4 ∧ b4 ≤ 8 := by (simp at hb4; omega)
      have B4 := (BB.set1 HA.out 4).call R4 hg4
      clear R4 hg4 hb4
      clear k0 k1 k2 k3 f1 f2 f3 kt
      have k0 := B4.c0
      have k1 := B4.c1
      have k2 := B4.c2
      have k3 := B4.c3
      have f1 := B4.fz 1
      have f2 := B4.fz 2
      have f3 := B4.fz 3
      have kt := B4.ct
      have BE := (B4.set2 HA.out b4)
      have j0 := BE.c0
      have j1 := BE.c1
      have j2 := BE.c2
      have j3 := BE.c3
      have HBE := Lib.hid BE
      clear BE
      go_wp2
      go_ret
      exact HBE.out.out (dl_ok2 hd0 hd3 (by omega) (by omega) (by omega)) (by simp [World.setCell]) (by omega) (by omega)
    · skip
      go_wp2_with fail
      refine (one_lit [5, 6] 2 _ _ g (p + 1 + 1) A n cap bs WX _ rfl rfl (by decide) (by decide) (by intro x hx; simp at hx; constructor <;> omega) (by omega) (by simp) BB.R).mono ?_
      rintro e5 y5 ⟨b5, rfl, hb5, R5, hg5⟩
      have h5 : 5 ≤ b5 ∧ b5 ≤ 6 := by (simp at hb5; omega)
      have B5 := BB.call R5 hg5
      clear R5 hg5 hb5
      clear k0 k1 k2 k3 f1 f2 f3 kt
      have k0 := B5.c0
      have k1 := B5.c1
      have k2 := B5.c2
      have k3 := B5.c3
      have f1 := B5.fz 1
      have f2 := B5.fz 2
      have f3 := B5.fz 3
      have kt := B5.ct
      have BE := (B5.set1 HA.out b5)
      have j0 := BE.c0
      have j1 := BE.c1
      have j2 := BE.c2
      have j3 := BE.c3
      have HBE := Lib.hid BE
      clear BE
      go_wp2
      go_ret
      exact HBE.out.out (dl_ok2 hd0 hd3 (by omega) (by omega) (by omega)) (by simp [World.setCell]) (by omega) (by omega)
  have b8 : (k == 7) = false := by simpa using q8
  by_cases q9 : k = 8
  · subst q9
    clear q4 q6 b4 b6 q7 b7 q8 b8
    have BE := (BB.set1 HA.out 0)
    have j0 := BE.c0
    have j1 := BE.c1
    have j2 := BE.c2
    have j3 := BE.c3
    have HBE := Lib.hid BE
    clear BE
    go_wp2
    go_ret
    exact HBE.out.out (dl_ok2 hd0 hd3 (by omega) (by omega) (by omega)) (by simp [World.setCell]) (by omega) (by omega)
  omega
set_option maxHeartbeats 8000000 in
set_option maxRecDepth 100000 in
theorem stmt_of (e T Kn : Nat) (hB : DrawC 78 e T Kn) (hT : DrawC 77 (e + 1) (5 + 5 * T) (8 + 5 * Kn)) (hTb : T ≤ 100000) (hKb : Kn ≤ 100000) : DrawC 105 (e + 1) (5 + 5 * T) (13 + 5 * Kn) := by
  intro d lp B m c g p A n cap bs w hde hd0 hm hp hR
  have hgw := hR.lt
  have HA : Hid (0 < n → ∀ a, A = some a → a.block < w.heap.size) := fun hn a e => hR.sl.under hn a e
  have hd3 : d ≤ 3 := by omega
  obtain ⟨i0, hi, hz0, hz1, hz2⟩ := info_parts infoLn
  have HB : Hid (∀ (l2 : Bool) (q : Nat) (wx : World), q + Kn ≤ 900000 → Rd wx g q A n cap bs → Calls Try.prog 78 #[.pointer (some ⟨g, 0, none⟩), .agg #[.slice B m c], .int .i64 (d + 1), .bool l2] wx (LnsOut T Kn g q A n cap bs wx)) := fun l2 q wx hq hr => hB (d + 1) l2 B m c g q A n cap bs wx (by omega) (by omega) hm hq hr
  have HT : Hid (∀ (l2 : Bool) (q : Nat) (wx : World), q + (8 + 5 * Kn) ≤ 900000 → Rd wx g q A n cap bs → Calls Try.prog 77 #[.pointer (some ⟨g, 0, none⟩), .agg #[.slice B m c], .int .i64 d, .bool l2] wx (LnsOut (5 + 5 * T) (8 + 5 * Kn) g q A n cap bs wx)) := fun l2 q wx hq hr => hT d l2 B m c g q A n cap bs wx hde hd0 hm hq hr
  have hd2 : d ≤ 2 := by omega
  have HWD : Hid (IntKind.i64.wrap (d + 1) = d + 1) := IntWalk.i64_in _ (by omega)
  clear hB hT hde
  go_enter Try.func105, Try.ntmps105
  go_wp2_with fail
  obtain ⟨ct, zt, L0⟩ := box1 w (.slice B m c) 25
  have R0 := hR.le L0
  have G0 := Gx.of_le (g := g) L0
  generalize w.alloc (.cells #[.slice B m c] 25) = W at *
  clear L0 hR
  refine (pick_any 16 g p A n cap bs W (by omega) (by omega) (by omega) R0).mono ?_
  rintro e0 w1 ⟨k, rfl, ka, kb, R1, hg1⟩
  replace ct := (hg1.cell zt (by omega)).trans ct
  replace zt := Nat.lt_of_lt_of_le zt hg1.size
  replace G0 := G0.trans hg1
  clear hg1 R0
  have hd3b : decide (3 ≤ d) = false := decide_eq_false (by omega)
  have BB : Bs w (w1.alloc (.cells #[.int .i64 d, .int .i64 0, .int .i64 0, .int .i64 0] 42)) g (p + 1) A n cap bs B m c w1.heap.size ⟨d, 0, 0, 0⟩ := by
    have LX := Le.new w1 (.cells #[.int .i64 d, .int .i64 0, .int .i64 0, .int .i64 0] 42)
    exact ⟨R1.le LX, G0.trans (Gx.of_le LX), hgw, (LX.cell zt).trans ct, Nat.lt_of_lt_of_le zt LX.size, zt, heap_alloc_new w1 _⟩
  clear ct zt G0 R1
  have hk15 : k ≤ 15 := by rcases kb with h | h <;> omega
  clear kb
  go_upto_region 6 with (fail)
  generalize w1.alloc (.cells #[.int .i64 d, .int .i64 0, .int .i64 0, .int .i64 0] 42) = WX at *
  generalize w1.heap.size = X at *
  have k0 := BB.c0
  have k1 := BB.c1
  have k2 := BB.c2
  have k3 := BB.c3
  have f1 := BB.fz 1
  have f2 := BB.fz 2
  have f3 := BB.fz 3
  have kt := BB.ct
  by_cases q4 : k < 4
  · have b4 : decide (k < 4) = true := decide_eq_true q4
    clear q4
    go_wp2_with fail
    refine (one_lit [1, 2, 3, 4, 5] 5 _ _ g (p + 1) A n cap bs (WX.setCell ⟨X, 1, none⟩ (.int .i64 1)) _ rfl rfl (by decide) (by decide) (by intro x hx; simp at hx; constructor <;> omega) (by omega) (by simp [World.setCell]) (BB.set1 HA.out 1).R).mono ?_
    rintro e6 y6 ⟨b6, rfl, hb6, R6, hg6⟩
    have h6 : 1 ≤ b6 ∧ b6 ≤ 5 := by (simp at hb6; omega)
    have B6 := (BB.set1 HA.out 1).call R6 hg6
    clear R6 hg6 hb6
    clear k0 k1 k2 k3 f1 f2 f3 kt
    have k0 := B6.c0
    have k1 := B6.c1
    have k2 := B6.c2
    have k3 := B6.c3
    have f1 := B6.fz 1
    have f2 := B6.fz 2
    have f3 := B6.fz 3
    have kt := B6.ct
    have BE := (B6.set2 HA.out b6)
    have j0 := BE.c0
    have j1 := BE.c1
    have j2 := BE.c2
    have j3 := BE.c3
    have HBE := Lib.hid BE
    clear BE
    go_wp2
    go_ret
    exact HBE.out.out (dl_ok2 hd0 hd3 (by omega) (by omega) (by omega)) (by simp [World.setCell]) (by omega) (by omega)
  have b4 : decide (k < 4) = false := decide_eq_false q4
  by_cases q6 : k < 6
  · have b6 : decide (k < 6) = true := decide_eq_true q6
    clear q4 q6
    go_wp2_with fail
    refine (pick_any m g (p + 1) A n cap bs (WX.setCell ⟨X, 1, none⟩ (.int .i64 2)) (by omega) (by omega) (by omega) (BB.set1 HA.out 2).R).mono ?_
    rintro e7 y7 ⟨b7, rfl, a7, hb7, R7, hg7⟩
    have h7 : 0 ≤ b7 ∧ b7 ≤ 8 := by rcases hb7 with h | h <;> omega
    have B7 := (BB.set1 HA.out 2).call R7 hg7
    clear R7 hg7 hb7 a7
    clear k0 k1 k2 k3 f1 f2 f3 kt
    have k0 := B7.c0
    have k1 := B7.c1
    have k2 := B7.c2
    have k3 := B7.c3
    have f1 := B7.fz 1
    have f2 := B7.fz 2
    have f3 := B7.fz 3
    have kt := B7.ct
    go_wp2_with fail
    refine (one_lit [1, 2, 3] 3 _ _ g ((p + 1) + 1) A n cap bs (y7.setCell ⟨X, 2, none⟩ (.int .i64 b7)) _ rfl rfl (by decide) (by decide) (by intro x hx; simp at hx; constructor <;> omega) (by omega) (by simp [World.setCell]) (B7.set2 HA.out b7).R).mono ?_
    rintro e8 y8 ⟨b8, rfl, hb8, R8, hg8⟩
    have h8 : 1 ≤ b8 ∧ b8 ≤ 3 := by (simp at hb8; omega)
    have B8 := (B7.set2 HA.out b7).call R8 hg8
    clear R8 hg8 hb8
    clear k0 k1 k2 k3 f1 f2 f3 kt
    have k0 := B8.c0
    have k1 := B8.c1
    have k2 := B8.c2
    have k3 := B8.c3
    have f1 := B8.fz 1
    have f2 := B8.fz 2
    have f3 := B8.fz 3
    have kt := B8.ct
    have BE := (B8.set3 HA.out b8)
    have j0 := BE.c0
    have j1 := BE.c1
    have j2 := BE.c2
    have j3 := BE.c3
    have HBE := Lib.hid BE
    clear BE
    go_wp2
    go_ret
    exact HBE.out.out (dl_ok2 hd0 hd3 (by omega) (by omega) (by omega)) (by simp [World.setCell]) (by omega) (by omega)
  have b6 : decide (k < 6) = false := decide_eq_false q6
  by_cases q7 : k = 6
  · subst q7
    clear q4 q6 b4 b6
    have BE := (BB.set1 HA.out 3)
    have j0 := BE.c0
    have j1 := BE.c1
    have j2 := BE.c2
    have j3 := BE.c3
    have HBE := Lib.hid BE
    clear BE
    go_wp2
    go_ret
    exact HBE.out.out (dl_ok2 hd0 hd3 (by omega) (by omega) (by omega)) (by simp [World.setCell]) (by omega) (by omega)
  have b7 : (k == 6) = false := by simpa using q7
  by_cases q8 : k = 7
  · subst q8
    clear q4 q6 b4 b6 q7 b7
    cases lp
    · skip
      go_wp2_with fail
      refine (one_lit [7, 8] 2 _ _ g (p + 1) A n cap bs (WX.setCell ⟨X, 1, none⟩ (.int .i64 4)) _ rfl rfl (by decide) (by decide) (by intro x hx; simp at hx; constructor <;> omega) (by omega) (by simp [World.setCell]) (BB.set1 HA.out 4).R).mono ?_
      rintro e9 y9 ⟨b9, rfl, hb9, R9, hg9⟩
      have h9 : 7 ≤ b9 ∧ b9 ≤ 8 := by (simp at hb9; omega)
      have B9 := (BB.set1 HA.out 4).call R9 hg9
      clear R9 hg9 hb9
      clear k0 k1 k2 k3 f1 f2 f3 kt
      have k0 := B9.c0
      have k1 := B9.c1
      have k2 := B9.c2
      have k3 := B9.c3
      have f1 := B9.fz 1
      have f2 := B9.fz 2
      have f3 := B9.fz 3
      have kt := B9.ct
      have BE := (B9.set2 HA.out b9)
      have j0 := BE.c0
      have j1 := BE.c1
      have j2 := BE.c2
      have j3 := BE.c3
      have HBE := Lib.hid BE
      clear BE
      go_wp2
      go_ret
      exact HBE.out.out (dl_ok2 hd0 hd3 (by omega) (by omega) (by omega)) (by simp [World.setCell]) (by omega) (by omega)
    · skip
      go_wp2_with fail
      refine (one_lit [5, 6] 2 _ _ g (p + 1) A n cap bs WX _ rfl rfl (by decide) (by decide) (by intro x hx; simp at hx; constructor <;> omega) (by omega) (by simp) BB.R).mono ?_
      rintro e10 y10 ⟨b10, rfl, hb10, R10, hg10⟩
      have h10 : 5 ≤ b10 ∧ b10 ≤ 6 := by (simp at hb10; omega)
      have B10 := BB.call R10 hg10
      clear R10 hg10 hb10
      clear k0 k1 k2 k3 f1 f2 f3 kt
      have k0 := B10.c0
      have k1 := B10.c1
      have k2 := B10.c2
      have k3 := B10.c3
      have f1 := B10.fz 1
      have f2 := B10.fz 2
      have f3 := B10.fz 3
      have kt := B10.ct
      have BE := (B10.set1 HA.out b10)
      have j0 := BE.c0
      have j1 := BE.c1
      have j2 := BE.c2
      have j3 := BE.c3
      have HBE := Lib.hid BE
      clear BE
      go_wp2
      go_ret
      exact HBE.out.out (dl_ok2 hd0 hd3 (by omega) (by omega) (by omega)) (by simp [World.setCell]) (by omega) (by omega)
  have b8 : (k == 7) = false := by simpa using q8
  by_cases q9 : k = 8
  · subst q9
    clear q4 q6 b4 b6 q7 b7 q8 b8
    have BE := (BB.set1 HA.out 0)
    have j0 := BE.c0
    have j1 := BE.c1
    have j2 := BE.c2
    have j3 := BE.c3
    have HBE := Lib.hid BE
    clear BE
    go_wp2
    go_ret
    exact HBE.out.out (dl_ok2 hd0 hd3 (by omega) (by omega) (by omega)) (by simp [World.setCell]) (by omega) (by omega)
  have b9 : (k == 8) = false := by simpa using q9
  by_cases q10 : k < 11
  · have b10 : decide (k < 11) = true := decide_eq_true q10
    clear q4 q6 q7 q8 q9 q10
    go_wp2_with fail
    refine (pick_any 4 g (p + 1) A n cap bs (WX.setCell ⟨X, 1, none⟩ (.int .i64 11)) (by omega) (by omega) (by omega) (BB.set1 HA.out 11).R).mono ?_
    rintro e11 y11 ⟨b11, rfl, a11, hb11, R11, hg11⟩
    have h11 : 0 ≤ b11 ∧ b11 ≤ 3 := by rcases hb11 with h | h <;> omega
    have B11 := (BB.set1 HA.out 11).call R11 hg11
    clear R11 hg11 hb11 a11
    clear k0 k1 k2 k3 f1 f2 f3 kt
    have k0 := B11.c0
    have k1 := B11.c1
    have k2 := B11.c2
    have k3 := B11.c3
    have f1 := B11.fz 1
    have f2 := B11.fz 2
    have f3 := B11.fz 3
    have kt := B11.ct
    go_wp2_with fail
    refine (pick_any 2 g ((p + 1) + 1) A n cap bs (y11.setCell ⟨X, 2, none⟩ (.int .i64 b11)) (by omega) (by omega) (by omega) (B11.set2 HA.out b11).R).mono ?_
    rintro e12 y12 ⟨b12, rfl, a12, hb12, R12, hg12⟩
    have h12 : 0 ≤ b12 ∧ b12 ≤ 1 := by rcases hb12 with h | h <;> omega
    have B12 := (B11.set2 HA.out b11).call R12 hg12
    clear R12 hg12 hb12 a12
    clear k0 k1 k2 k3 f1 f2 f3 kt
    have k0 := B12.c0
    have k1 := B12.c1
    have k2 := B12.c2
    have k3 := B12.c3
    have f1 := B12.fz 1
    have f2 := B12.fz 2
    have f3 := B12.fz 3
    have kt := B12.ct
    have BE := (B12.set3 HA.out b12)
    have j0 := BE.c0
    have j1 := BE.c1
    have j2 := BE.c2
    have j3 := BE.c3
    go_wp2_with fail
    clear k0 k1 k2 k3 f1 f2 f3 kt
    clear j0 j1 j2 j3
    generalize (y12.setCell ⟨X, 3, none⟩ (.int .i64 b12)) = WE at *
    have hokx : Enc.ok (⟨d, 11, b11, b12⟩ : Lin) := dl_ok2 hd0 hd3 (by omega) (by omega) (by omega)
    have BD : Bs w WE.drew g (((p + 1) + 1) + 1) A n cap bs B m c X (⟨d, 11, b11, b12⟩ : Lin) := BE.le (Le.refl WE).drew
    have hXE := BE.lt
    have hsE := BE.G.size
    refine wp_region_noPanic ?_
    refine wp_region_held_drew (S := fun w' => w'.cell? ⟨X, 0, none⟩ = some (.int .i64 (d)) ∧ w'.cell? ⟨X, 1, none⟩ = some (.int .i64 (11)) ∧ w'.cell? ⟨X, 2, none⟩ = some (.int .i64 (b11)) ∧ w'.cell? ⟨X, 3, none⟩ = some (.int .i64 (b12)) ∧ w'.cell? ⟨w.heap.size, 0, none⟩ = some (.slice B m c)) (by kernel_rfl) ⟨BD.c0, BD.c1, BD.c2, BD.c3, BD.ct⟩ (fun hHeld => ?_)
    refine wpAnyH_takeL (i := 0) (v := ?_) rfl (by kernel_rfl) (by kernel_rfl) (by kernel_rfl) (fun _ _ _ h => h) (Or.inl ⟨by rfl, ?_⟩) (by assumption) ?_
    rotate_left 1
    · (intro w hSw; (try dsimp only at hSw); go_simp; try with_reducible rfl)
    try simp only [Act.put, List.setIfInBounds_toArray, List.set_cons_zero, List.set_cons_succ]
    refine wpAnyH_takeL (i := 2) (v := ?_) rfl (by kernel_rfl) (by kernel_rfl) (by kernel_rfl) (fun _ _ _ h => h) (Or.inl ⟨by rfl, ?_⟩) (by assumption) ?_
    rotate_left 1
    · (intro w hSw; (try dsimp only at hSw); go_simp; try with_reducible rfl)
    try simp only [Act.put, List.setIfInBounds_toArray, List.set_cons_zero, List.set_cons_succ]
    refine wpAnyH_takeL (i := 3) (v := ?_) rfl (by kernel_rfl) (by kernel_rfl) (by kernel_rfl) (fun _ _ _ h => h) (Or.inl ⟨by rfl, ?_⟩) (by assumption) ?_
    rotate_left 1
    · (intro w hSw; (try dsimp only at hSw); go_simp; try with_reducible rfl)
    try simp only [Act.put, List.setIfInBounds_toArray, List.set_cons_zero, List.set_cons_succ]
    refine wpAnyH_takeL (i := 4) (v := ?_) rfl (by kernel_rfl) (by kernel_rfl) (by kernel_rfl) (fun _ _ _ h => h) (Or.inl ⟨by rfl, ?_⟩) (by assumption) ?_
    rotate_left 1
    · (intro w hSw; (try dsimp only at hSw); go_simp; try with_reducible rfl)
    try simp only [Act.put, List.setIfInBounds_toArray, List.set_cons_zero, List.set_cons_succ]
    refine wpAnyH_takeL (i := 5) (v := ?_) rfl (by kernel_rfl) (by kernel_rfl) (by kernel_rfl) (fun _ _ _ h => h) (Or.inl ⟨by rfl, ?_⟩) (by assumption) ?_
    rotate_left 1
    · (intro w hSw; (try dsimp only at hSw); go_simp; try with_reducible rfl)
    try simp only [Act.put, List.setIfInBounds_toArray, List.set_cons_zero, List.set_cons_succ]
    refine wpAnyH_takeL (i := 6) (v := ?_) rfl (by kernel_rfl) (by kernel_rfl) (by kernel_rfl) (fun _ _ _ h => h) (Or.inl ⟨by rfl, ?_⟩) (by assumption) ?_
    rotate_left 1
    · (intro w hSw; (try dsimp only at hSw); go_simp; try with_reducible rfl)
    try simp only [Act.put, List.setIfInBounds_toArray, List.set_cons_zero, List.set_cons_succ]
    refine wpAnyH_ready (rs := [1, 7]) (by kernel_rfl) (by simp) (AllReadyH.consL (i := 1) rfl (fun K hK => ?_) (AllReadyH.consL (i := 7) rfl (fun K hK => ?_) AllReadyH.nil))
    · have OB := own_one2 WE (⟨d, 11, b11, b12⟩ : Lin) (b := w.heap.size) hsE
      have LB := Le.new WE (.cells #[.int .i64 (d), .int .i64 (11), .int .i64 (b11), .int .i64 (b12)] 42)
      obtain ⟨WB, hWB⟩ : ∃ WB, WE.alloc (.cells #[.int .i64 (d), .int .i64 (11), .int .i64 (b11), .int .i64 (b12)] 42) = WB := ⟨_, rfl⟩
      rw [hWB] at LB
      replace OB : WB.ownsRow w.heap.size 42 4 (.slice (some ⟨WE.heap.size, 0, none⟩) 1 1) 1 ([(⟨d, 11, b11, b12⟩ : Lin)].flatMap Enc.cells) := by rw [← hWB]; exact OB
      have LB2 : Le WE.drew WB.drew := by rw [← hWB]; exact Le.new WE.drew _
      have B1 := BD.le LB2
      have OB2 := OB.drew
      go_simp
      refine hK.out _ _ (⟨B1.c0, B1.c1, B1.c2, B1.c3, B1.ct⟩) (fun hHeld => ?_)
      clear hK K
      try simp only [Act.put, List.setIfInBounds_toArray, List.set_cons_zero, List.set_cons_succ]
      refine wpAnyH_ready (rs := [7]) (by kernel_rfl) (by simp) (AllReadyH.consL (i := 7) rfl (fun K hK => ?_) AllReadyH.nil)
      go_simp
      go_at_call 78
      rw [HWD.out]
      refine (HB.out lp (((p + 1) + 1) + 1) WB.drew (by omega) B1.R).mono ?_
      rintro e2 w2x ⟨v2, M2, p2, rfl, O2, hM2, hm2, ht2, hp2, R2, hg2⟩
      have B3 := B1.call R2 hg2
      have OB3 := OB2.kept hg2 (.inr (fun e => by have e1 : WE.heap.size = g := (by injection e); omega))
      obtain ⟨B2, q2, rfl⟩ := own_form O2
      have S2 := Sl.of_own O2 rfl (by decide) hM2
      have HM2 := Lib.hid hM2
      refine hK.out _ _ (⟨B3.c0, B3.c1, B3.c2, B3.c3, B3.ct⟩) (fun hHeld => ?_)
      clear hK K
      try simp only [Act.put, List.setIfInBounds_toArray, List.set_cons_zero, List.set_cons_succ]
      refine wpAnyH_ready (rs := [8]) (by kernel_rfl) (by simp) (AllReadyH.consL (i := 8) rfl (fun K hK => ?_) AllReadyH.nil)
      refine step_append_sl rfl (.tmp 83) (.tmp 89) 26 rfl w.heap.size 42 i0 _ 32 Try.underlying26 hi hz0 hz1 hz2 rfl (.slice (some ⟨WE.heap.size, 0, none⟩) 1 1) 1 [(⟨d, 11, b11, b12⟩ : Lin)] rfl OB3 B2 M2.length q2 M2 rfl S2 (by unfold maxLen; omega) (by omega) B3.G.size ?_
      intro v4 w4 O4 hg4 _
      have B4 := B3.grown HA.out hg4 (fun k hk => by have e1 : WE.heap.size = k := (by injection hk); omega)
      refine hK.out _ _ (⟨B4.c0, B4.c1, B4.c2, B4.c3, B4.ct⟩) (fun hHeld => ?_)
      clear hK K
      try simp only [Act.put, List.setIfInBounds_toArray, List.set_cons_zero, List.set_cons_succ]
      refine wpAnyH_takeL (i := 9) (v := ?_) rfl (by kernel_rfl) (by kernel_rfl) (by kernel_rfl) (fun _ _ _ h => h) (Or.inl ⟨by rfl, ?_⟩) (by assumption) ?_
      rotate_left 1
      · (intro w hSw; (try dsimp only at hSw); go_simp; try with_reducible rfl)
      try simp only [Act.put, List.setIfInBounds_toArray, List.set_cons_zero, List.set_cons_succ]
      refine wpAnyH_done (by kernel_rfl) ?_ _
      refine NoPanic.normal ?_
      have HO4 : Hid (w4.ownsRow w.heap.size 42 4 v4 ([(⟨d, 11, b11, b12⟩ : Lin)] ++ M2).length (([(⟨d, 11, b11, b12⟩ : Lin)] ++ M2).flatMap Enc.cells)) := by show World.ownsRow _ _ _ _ _ _ _; rw [List.length_append]; exact O4
      have HB4 := Lib.hid B4
      have HL4 : Hid (0 < ([(⟨d, 11, b11, b12⟩ : Lin)] ++ M2).length ∧ ([(⟨d, 11, b11, b12⟩ : Lin)] ++ M2).length ≤ 5 + 5 * T) := by show _ ∧ _; rw [List.length_append]; simp; omega
      clear O4 hg4 B4
      go_wp2
      go_ret
      exact ⟨_, [(⟨d, 11, b11, b12⟩ : Lin)] ++ M2, p2, rfl, HO4.out, ok_app (one_ok hokx) HM2.out, HL4.out.1, HL4.out.2, by omega, HB4.out.R, HB4.out.G⟩
    · go_simp
      go_at_call 78
      rw [HWD.out]
      refine (HB.out lp (((p + 1) + 1) + 1) WE.drew (by omega) BD.R).mono ?_
      rintro e2 w2x ⟨v2, M2, p2, rfl, O2, hM2, hm2, ht2, hp2, R2, hg2⟩
      have B1 := BD.call R2 hg2
      obtain ⟨B2, q2, rfl⟩ := own_form O2
      have S2 := Sl.of_own O2 rfl (by decide) hM2
      have HM2 := Lib.hid hM2
      have OB := own_one2 w2x (⟨d, 11, b11, b12⟩ : Lin) (b := w.heap.size) B1.G.size
      have LB := Le.new w2x (.cells #[.int .i64 (d), .int .i64 (11), .int .i64 (b11), .int .i64 (b12)] 42)
      have hXB := B1.lt
      obtain ⟨WB, hWB⟩ : ∃ WB, w2x.alloc (.cells #[.int .i64 (d), .int .i64 (11), .int .i64 (b11), .int .i64 (b12)] 42) = WB := ⟨_, rfl⟩
      rw [hWB] at LB
      replace OB : WB.ownsRow w.heap.size 42 4 (.slice (some ⟨w2x.heap.size, 0, none⟩) 1 1) 1 ([(⟨d, 11, b11, b12⟩ : Lin)].flatMap Enc.cells) := by rw [← hWB]; exact OB
      have B3 := B1.le LB
      have S3 := S2.le LB
      refine hK.out _ _ (⟨B1.c0, B1.c1, B1.c2, B1.c3, B1.ct⟩) (fun hHeld => ?_)
      clear hK K
      try simp only [Act.put, List.setIfInBounds_toArray, List.set_cons_zero, List.set_cons_succ]
      refine wpAnyH_ready (rs := [1]) (by kernel_rfl) (by simp) (AllReadyH.consL (i := 1) rfl (fun K hK => ?_) AllReadyH.nil)
      go_simp
      refine hK.out _ _ (⟨B3.c0, B3.c1, B3.c2, B3.c3, B3.ct⟩) (fun hHeld => ?_)
      clear hK K
      try simp only [Act.put, List.setIfInBounds_toArray, List.set_cons_zero, List.set_cons_succ]
      refine wpAnyH_ready (rs := [8]) (by kernel_rfl) (by simp) (AllReadyH.consL (i := 8) rfl (fun K hK => ?_) AllReadyH.nil)
      refine step_append_sl rfl (.tmp 83) (.tmp 89) 26 rfl w.heap.size 42 i0 _ 32 Try.underlying26 hi hz0 hz1 hz2 rfl (.slice (some ⟨w2x.heap.size, 0, none⟩) 1 1) 1 [(⟨d, 11, b11, b12⟩ : Lin)] rfl OB B2 M2.length q2 M2 rfl S3 (by unfold maxLen; omega) (by omega) B3.G.size ?_
      intro v4 w4 O4 hg4 _
      have B4 := B3.grown HA.out hg4 (fun k hk => by have e1 : w2x.heap.size = k := (by injection hk); omega)
      refine hK.out _ _ (⟨B4.c0, B4.c1, B4.c2, B4.c3, B4.ct⟩) (fun hHeld => ?_)
      clear hK K
      try simp only [Act.put, List.setIfInBounds_toArray, List.set_cons_zero, List.set_cons_succ]
      refine wpAnyH_takeL (i := 9) (v := ?_) rfl (by kernel_rfl) (by kernel_rfl) (by kernel_rfl) (fun _ _ _ h => h) (Or.inl ⟨by rfl, ?_⟩) (by assumption) ?_
      rotate_left 1
      · (intro w hSw; (try dsimp only at hSw); go_simp; try with_reducible rfl)
      try simp only [Act.put, List.setIfInBounds_toArray, List.set_cons_zero, List.set_cons_succ]
      refine wpAnyH_done (by kernel_rfl) ?_ _
      refine NoPanic.normal ?_
      have HO4 : Hid (w4.ownsRow w.heap.size 42 4 v4 ([(⟨d, 11, b11, b12⟩ : Lin)] ++ M2).length (([(⟨d, 11, b11, b12⟩ : Lin)] ++ M2).flatMap Enc.cells)) := by show World.ownsRow _ _ _ _ _ _ _; rw [List.length_append]; exact O4
      have HB4 := Lib.hid B4
      have HL4 : Hid (0 < ([(⟨d, 11, b11, b12⟩ : Lin)] ++ M2).length ∧ ([(⟨d, 11, b11, b12⟩ : Lin)] ++ M2).length ≤ 5 + 5 * T) := by show _ ∧ _; rw [List.length_append]; simp; omega
      clear O4 hg4 B4
      go_wp2
      go_ret
      exact ⟨_, [(⟨d, 11, b11, b12⟩ : Lin)] ++ M2, p2, rfl, HO4.out, ok_app (one_ok hokx) HM2.out, HL4.out.1, HL4.out.2, by omega, HB4.out.R, HB4.out.G⟩
  have b10 : decide (k < 11) = false := decide_eq_false q10
  by_cases q11 : k = 11
  · subst q11
    clear q4 q6 b4 b6 q7 b7 q8 b8 q9 b9 q10 b10
    go_wp2_with fail
    refine (one_lit [2, 1, 3, 0] 4 _ _ g (p + 1) A n cap bs (WX.setCell ⟨X, 1, none⟩ (.int .i64 12)) _ rfl rfl (by decide) (by decide) (by intro x hx; simp at hx; constructor <;> omega) (by omega) (by simp [World.setCell]) (BB.set1 HA.out 12).R).mono ?_
    rintro e13 y13 ⟨b13, rfl, hb13, R13, hg13⟩
    have h13 : 0 ≤ b13 ∧ b13 ≤ 3 := by (simp at hb13; omega)
    have B13 := (BB.set1 HA.out 12).call R13 hg13
    clear R13 hg13 hb13
    clear k0 k1 k2 k3 f1 f2 f3 kt
    have k0 := B13.c0
    have k1 := B13.c1
    have k2 := B13.c2
    have k3 := B13.c3
    have f1 := B13.fz 1
    have f2 := B13.fz 2
    have f3 := B13.fz 3
    have kt := B13.ct
    have BE := (B13.set2 HA.out b13)
    have j0 := BE.c0
    have j1 := BE.c1
    have j2 := BE.c2
    have j3 := BE.c3
    go_wp2_with fail
    clear k0 k1 k2 k3 f1 f2 f3 kt
    clear j0 j1 j2 j3
    generalize (y13.setCell ⟨X, 2, none⟩ (.int .i64 b13)) = WE at *
    have hokx : Enc.ok (⟨d, 12, b13, 0⟩ : Lin) := dl_ok2 hd0 hd3 (by omega) (by omega) (by omega)
    have BD : Bs w WE.drew g ((p + 1) + 1) A n cap bs B m c X (⟨d, 12, b13, 0⟩ : Lin) := BE.le (Le.refl WE).drew
    have hXE := BE.lt
    have hsE := BE.G.size
    refine wp_region_noPanic ?_
    refine wp_region_held_drew (S := fun w' => w'.cell? ⟨X, 0, none⟩ = some (.int .i64 (d)) ∧ w'.cell? ⟨X, 1, none⟩ = some (.int .i64 (12)) ∧ w'.cell? ⟨X, 2, none⟩ = some (.int .i64 (b13)) ∧ w'.cell? ⟨X, 3, none⟩ = some (.int .i64 (0)) ∧ w'.cell? ⟨w.heap.size, 0, none⟩ = some (.slice B m c)) (by kernel_rfl) ⟨BD.c0, BD.c1, BD.c2, BD.c3, BD.ct⟩ (fun hHeld => ?_)
    refine wpAnyH_takeL (i := 0) (v := ?_) rfl (by kernel_rfl) (by kernel_rfl) (by kernel_rfl) (fun _ _ _ h => h) (Or.inl ⟨by rfl, ?_⟩) (by assumption) ?_
    rotate_left 1
    · (intro w hSw; (try dsimp only at hSw); go_simp; try with_reducible rfl)
    try simp only [Act.put, List.setIfInBounds_toArray, List.set_cons_zero, List.set_cons_succ]
    refine wpAnyH_takeL (i := 2) (v := ?_) rfl (by kernel_rfl) (by kernel_rfl) (by kernel_rfl) (fun _ _ _ h => h) (Or.inl ⟨by rfl, ?_⟩) (by assumption) ?_
    rotate_left 1
    · (intro w hSw; (try dsimp only at hSw); go_simp; try with_reducible rfl)
    try simp only [Act.put, List.setIfInBounds_toArray, List.set_cons_zero, List.set_cons_succ]
    refine wpAnyH_takeL (i := 3) (v := ?_) rfl (by kernel_rfl) (by kernel_rfl) (by kernel_rfl) (fun _ _ _ h => h) (Or.inl ⟨by rfl, ?_⟩) (by assumption) ?_
    rotate_left 1
    · (intro w hSw; (try dsimp only at hSw); go_simp; try with_reducible rfl)
    try simp only [Act.put, List.setIfInBounds_toArray, List.set_cons_zero, List.set_cons_succ]
    refine wpAnyH_takeL (i := 4) (v := ?_) rfl (by kernel_rfl) (by kernel_rfl) (by kernel_rfl) (fun _ _ _ h => h) (Or.inl ⟨by rfl, ?_⟩) (by assumption) ?_
    rotate_left 1
    · (intro w hSw; (try dsimp only at hSw); go_simp; try with_reducible rfl)
    try simp only [Act.put, List.setIfInBounds_toArray, List.set_cons_zero, List.set_cons_succ]
    refine wpAnyH_takeL (i := 5) (v := ?_) rfl (by kernel_rfl) (by kernel_rfl) (by kernel_rfl) (fun _ _ _ h => h) (Or.inl ⟨by rfl, ?_⟩) (by assumption) ?_
    rotate_left 1
    · (intro w hSw; (try dsimp only at hSw); go_simp; try with_reducible rfl)
    try simp only [Act.put, List.setIfInBounds_toArray, List.set_cons_zero, List.set_cons_succ]
    refine wpAnyH_ready (rs := [1, 6]) (by kernel_rfl) (by simp) (AllReadyH.consL (i := 1) rfl (fun K hK => ?_) (AllReadyH.consL (i := 6) rfl (fun K hK => ?_) AllReadyH.nil))
    · have OB := own_one2 WE (⟨d, 12, b13, 0⟩ : Lin) (b := w.heap.size) hsE
      have LB := Le.new WE (.cells #[.int .i64 (d), .int .i64 (12), .int .i64 (b13), .int .i64 (0)] 42)
      obtain ⟨WB, hWB⟩ : ∃ WB, WE.alloc (.cells #[.int .i64 (d), .int .i64 (12), .int .i64 (b13), .int .i64 (0)] 42) = WB := ⟨_, rfl⟩
      rw [hWB] at LB
      replace OB : WB.ownsRow w.heap.size 42 4 (.slice (some ⟨WE.heap.size, 0, none⟩) 1 1) 1 ([(⟨d, 12, b13, 0⟩ : Lin)].flatMap Enc.cells) := by rw [← hWB]; exact OB
      have LB2 : Le WE.drew WB.drew := by rw [← hWB]; exact Le.new WE.drew _
      have B1 := BD.le LB2
      have OB2 := OB.drew
      go_simp
      refine hK.out _ _ (⟨B1.c0, B1.c1, B1.c2, B1.c3, B1.ct⟩) (fun hHeld => ?_)
      clear hK K
      try simp only [Act.put, List.setIfInBounds_toArray, List.set_cons_zero, List.set_cons_succ]
      refine wpAnyH_ready (rs := [6]) (by kernel_rfl) (by simp) (AllReadyH.consL (i := 6) rfl (fun K hK => ?_) AllReadyH.nil)
      go_simp
      go_at_call 78
      rw [HWD.out]
      refine (HB.out true ((p + 1) + 1) WB.drew (by omega) B1.R).mono ?_
      rintro e2 w2x ⟨v2, M2, p2, rfl, O2, hM2, hm2, ht2, hp2, R2, hg2⟩
      have B3 := B1.call R2 hg2
      have OB3 := OB2.kept hg2 (.inr (fun e => by have e1 : WE.heap.size = g := (by injection e); omega))
      obtain ⟨B2, q2, rfl⟩ := own_form O2
      have S2 := Sl.of_own O2 rfl (by decide) hM2
      have HM2 := Lib.hid hM2
      refine hK.out _ _ (⟨B3.c0, B3.c1, B3.c2, B3.c3, B3.ct⟩) (fun hHeld => ?_)
      clear hK K
      try simp only [Act.put, List.setIfInBounds_toArray, List.set_cons_zero, List.set_cons_succ]
      refine wpAnyH_ready (rs := [7]) (by kernel_rfl) (by simp) (AllReadyH.consL (i := 7) rfl (fun K hK => ?_) AllReadyH.nil)
      refine step_append_sl rfl (.tmp 100) (.tmp 105) 26 rfl w.heap.size 42 i0 _ 32 Try.underlying26 hi hz0 hz1 hz2 rfl (.slice (some ⟨WE.heap.size, 0, none⟩) 1 1) 1 [(⟨d, 12, b13, 0⟩ : Lin)] rfl OB3 B2 M2.length q2 M2 rfl S2 (by unfold maxLen; omega) (by omega) B3.G.size ?_
      intro v4 w4 O4 hg4 _
      have B4 := B3.grown HA.out hg4 (fun k hk => by have e1 : WE.heap.size = k := (by injection hk); omega)
      refine hK.out _ _ (⟨B4.c0, B4.c1, B4.c2, B4.c3, B4.ct⟩) (fun hHeld => ?_)
      clear hK K
      try simp only [Act.put, List.setIfInBounds_toArray, List.set_cons_zero, List.set_cons_succ]
      refine wpAnyH_takeL (i := 8) (v := ?_) rfl (by kernel_rfl) (by kernel_rfl) (by kernel_rfl) (fun _ _ _ h => h) (Or.inl ⟨by rfl, ?_⟩) (by assumption) ?_
      rotate_left 1
      · (intro w hSw; (try dsimp only at hSw); go_simp; try with_reducible rfl)
      try simp only [Act.put, List.setIfInBounds_toArray, List.set_cons_zero, List.set_cons_succ]
      refine wpAnyH_done (by kernel_rfl) ?_ _
      refine NoPanic.normal ?_
      have HO4 : Hid (w4.ownsRow w.heap.size 42 4 v4 ([(⟨d, 12, b13, 0⟩ : Lin)] ++ M2).length (([(⟨d, 12, b13, 0⟩ : Lin)] ++ M2).flatMap Enc.cells)) := by show World.ownsRow _ _ _ _ _ _ _; rw [List.length_append]; exact O4
      have HB4 := Lib.hid B4
      have HL4 : Hid (0 < ([(⟨d, 12, b13, 0⟩ : Lin)] ++ M2).length ∧ ([(⟨d, 12, b13, 0⟩ : Lin)] ++ M2).length ≤ 5 + 5 * T) := by show _ ∧ _; rw [List.length_append]; simp; omega
      clear O4 hg4 B4
      go_wp2
      go_ret
      exact ⟨_, [(⟨d, 12, b13, 0⟩ : Lin)] ++ M2, p2, rfl, HO4.out, ok_app (one_ok hokx) HM2.out, HL4.out.1, HL4.out.2, by omega, HB4.out.R, HB4.out.G⟩
    · go_simp
      go_at_call 78
      rw [HWD.out]
      refine (HB.out true ((p + 1) + 1) WE.drew (by omega) BD.R).mono ?_
      rintro e2 w2x ⟨v2, M2, p2, rfl, O2, hM2, hm2, ht2, hp2, R2, hg2⟩
      have B1 := BD.call R2 hg2
      obtain ⟨B2, q2, rfl⟩ := own_form O2
      have S2 := Sl.of_own O2 rfl (by decide) hM2
      have HM2 := Lib.hid hM2
      have OB := own_one2 w2x (⟨d, 12, b13, 0⟩ : Lin) (b := w.heap.size) B1.G.size
      have LB := Le.new w2x (.cells #[.int .i64 (d), .int .i64 (12), .int .i64 (b13), .int .i64 (0)] 42)
      have hXB := B1.lt
      obtain ⟨WB, hWB⟩ : ∃ WB, w2x.alloc (.cells #[.int .i64 (d), .int .i64 (12), .int .i64 (b13), .int .i64 (0)] 42) = WB := ⟨_, rfl⟩
      rw [hWB] at LB
      replace OB : WB.ownsRow w.heap.size 42 4 (.slice (some ⟨w2x.heap.size, 0, none⟩) 1 1) 1 ([(⟨d, 12, b13, 0⟩ : Lin)].flatMap Enc.cells) := by rw [← hWB]; exact OB
      have B3 := B1.le LB
      have S3 := S2.le LB
      refine hK.out _ _ (⟨B1.c0, B1.c1, B1.c2, B1.c3, B1.ct⟩) (fun hHeld => ?_)
      clear hK K
      try simp only [Act.put, List.setIfInBounds_toArray, List.set_cons_zero, List.set_cons_succ]
      refine wpAnyH_ready (rs := [1]) (by kernel_rfl) (by simp) (AllReadyH.consL (i := 1) rfl (fun K hK => ?_) AllReadyH.nil)
      go_simp
      refine hK.out _ _ (⟨B3.c0, B3.c1, B3.c2, B3.c3, B3.ct⟩) (fun hHeld => ?_)
      clear hK K
      try simp only [Act.put, List.setIfInBounds_toArray, List.set_cons_zero, List.set_cons_succ]
      refine wpAnyH_ready (rs := [7]) (by kernel_rfl) (by simp) (AllReadyH.consL (i := 7) rfl (fun K hK => ?_) AllReadyH.nil)
      refine step_append_sl rfl (.tmp 100) (.tmp 105) 26 rfl w.heap.size 42 i0 _ 32 Try.underlying26 hi hz0 hz1 hz2 rfl (.slice (some ⟨w2x.heap.size, 0, none⟩) 1 1) 1 [(⟨d, 12, b13, 0⟩ : Lin)] rfl OB B2 M2.length q2 M2 rfl S3 (by unfold maxLen; omega) (by omega) B3.G.size ?_
      intro v4 w4 O4 hg4 _
      have B4 := B3.grown HA.out hg4 (fun k hk => by have e1 : w2x.heap.size = k := (by injection hk); omega)
      refine hK.out _ _ (⟨B4.c0, B4.c1, B4.c2, B4.c3, B4.ct⟩) (fun hHeld => ?_)
      clear hK K
      try simp only [Act.put, List.setIfInBounds_toArray, List.set_cons_zero, List.set_cons_succ]
      refine wpAnyH_takeL (i := 8) (v := ?_) rfl (by kernel_rfl) (by kernel_rfl) (by kernel_rfl) (fun _ _ _ h => h) (Or.inl ⟨by rfl, ?_⟩) (by assumption) ?_
      rotate_left 1
      · (intro w hSw; (try dsimp only at hSw); go_simp; try with_reducible rfl)
      try simp only [Act.put, List.setIfInBounds_toArray, List.set_cons_zero, List.set_cons_succ]
      refine wpAnyH_done (by kernel_rfl) ?_ _
      refine NoPanic.normal ?_
      have HO4 : Hid (w4.ownsRow w.heap.size 42 4 v4 ([(⟨d, 12, b13, 0⟩ : Lin)] ++ M2).length (([(⟨d, 12, b13, 0⟩ : Lin)] ++ M2).flatMap Enc.cells)) := by show World.ownsRow _ _ _ _ _ _ _; rw [List.length_append]; exact O4
      have HB4 := Lib.hid B4
      have HL4 : Hid (0 < ([(⟨d, 12, b13, 0⟩ : Lin)] ++ M2).length ∧ ([(⟨d, 12, b13, 0⟩ : Lin)] ++ M2).length ≤ 5 + 5 * T) := by show _ ∧ _; rw [List.length_append]; simp; omega
      clear O4 hg4 B4
      go_wp2
      go_ret
      exact ⟨_, [(⟨d, 12, b13, 0⟩ : Lin)] ++ M2, p2, rfl, HO4.out, ok_app (one_ok hokx) HM2.out, HL4.out.1, HL4.out.2, by omega, HB4.out.R, HB4.out.G⟩
  have b11 : (k == 11) = false := by simpa using q11
  go_wp2_with fail
  refine (HT.out lp (p + 1) WX (by omega) BB.R).mono ?_
  rintro e2 w2x ⟨v2, M2, p2, rfl, O2, hM2, hm2, ht2, hp2, R2, hg2⟩
  have B2 := BB.call R2 hg2
  have HO2 := Lib.hid O2
  have HM2 := Lib.hid hM2
  have HB2 := Lib.hid B2
  have hsz := BB.G.size
  clear k0 k1 k2 k3 f1 f2 f3 kt O2 hM2 B2 R2 hg2
  go_wp2
  go_ret
  exact ⟨_, M2, p2, rfl, own_mono HO2.out hsz, HM2.out, hm2, ht2, by omega, HB2.out.R, HB2.out.G⟩
end
end Go.Proofs.Ytlepgfccnfcagaa
