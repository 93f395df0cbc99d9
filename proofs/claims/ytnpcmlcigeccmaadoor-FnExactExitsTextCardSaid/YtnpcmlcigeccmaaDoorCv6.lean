/- one text of DXv, SV, TB, PAn -/
import Derived.Test.YtnpcmlcigeccmaaDoorCv3
import Derived.Test.YtnpcmlcigeccmaaDoorCv2
import Derived.Test.YtnpcmlcigeccmaaDoorCv4
import Derived.Test.YtnpcmlcigeccmaaDoorCv5
import Derived.Test.YtnpcmlcigeccmaaDoorCv1
namespace Go.Proofs.YtnpcmlcigeccmaaDoor
open Go.RowKit
set_option linter.unusedVariables false
section
instance instOneXitD : EncOne Xit := ⟨by decide, fun x u hu => by simp [Enc.cells] at hu; rcases hu with rfl | rfl | rfl <;> rfl⟩
theorem infoXt : (Tryd.prog.info? 58).map (fun i => (i.zero, i.size, i.bytes)) = some (some (.agg #[.int .i64 0, .int .i64 0, .int .i64 0]), 3, 24) := by kernel_rfl
/-- an exit that is being drawn: the tree's box, the result's box, its own box -/
structure Xs (w wr : World) (g p : Nat) (A : Option Addr) (n cap : Nat) (bs : List By) (B : Option Addr) (m c xb : Nat) (x : Xit) : Prop where
  R : Rd wr g p A n cap bs
  G : Gx g w wr
  gw : g < w.heap.size
  ct : wr.cell? ⟨w.heap.size, 0, none⟩ = some (.slice B m c)
  r0 : wr.cell? ⟨w.heap.size + 1, 0, none⟩ = some (.int .i64 0)
  r1 : wr.cell? ⟨w.heap.size + 1, 1, none⟩ = some (.int .i64 0)
  r2 : wr.cell? ⟨w.heap.size + 1, 2, none⟩ = some (.int .i64 0)
  f0 : wr.frozen? ⟨w.heap.size + 1, 0, none⟩ = false
  f1 : wr.frozen? ⟨w.heap.size + 1, 1, none⟩ = false
  f2 : wr.frozen? ⟨w.heap.size + 1, 2, none⟩ = false
  x0 : wr.cell? ⟨xb, 0, none⟩ = some (.int .i64 x.kind)
  x1 : wr.cell? ⟨xb, 1, none⟩ = some (.int .i64 x.a)
  x2 : wr.cell? ⟨xb, 2, none⟩ = some (.int .i64 x.b)
  q0 : wr.frozen? ⟨xb, 0, none⟩ = false
  q1 : wr.frozen? ⟨xb, 1, none⟩ = false
  q2 : wr.frozen? ⟨xb, 2, none⟩ = false
  zb : w.heap.size + 1 < xb
  zx : xb < wr.heap.size
section
variable {w wr w2 : World} {g p p2 : Nat} {A : Option Addr} {n cap : Nat} {bs : List By} {B : Option Addr} {m c xb : Nat} {x : Xit}
theorem Xs.call (h : Xs w wr g p A n cap bs B m c xb x) (R2 : Rd w2 g p2 A n cap bs) (hg : Gx g wr w2) : Xs w w2 g p2 A n cap bs B m c xb x := by
  have h1 := h.gw
  have h2 := h.zb
  have h3 := h.zx
  exact ⟨R2, h.G.trans hg, h.gw, (hg.cell (by omega) (by omega)).trans h.ct, (hg.cell (by omega) (by omega)).trans h.r0, (hg.cell (by omega) (by omega)).trans h.r1, (hg.cell (by omega) (by omega)).trans h.r2,
    (hg.frozen (by omega) (by omega)).trans h.f0, (hg.frozen (by omega) (by omega)).trans h.f1, (hg.frozen (by omega) (by omega)).trans h.f2,
    (hg.cell (by omega) (by omega)).trans h.x0, (hg.cell (by omega) (by omega)).trans h.x1, (hg.cell (by omega) (by omega)).trans h.x2,
    (hg.frozen (by omega) (by omega)).trans h.q0, (hg.frozen (by omega) (by omega)).trans h.q1, (hg.frozen (by omega) (by omega)).trans h.q2, h.zb, Nat.lt_of_lt_of_le h.zx hg.size⟩
theorem Xs.set (h : Xs w wr g p A n cap bs B m c xb x) (hA : 0 < n → ∀ a, A = some a → a.block < w.heap.size) (o : Nat) (u : Int) (y : Xit)
    (h0 : (wr.setCell ⟨xb, o, none⟩ (.int .i64 u)).cell? ⟨xb, 0, none⟩ = some (.int .i64 y.kind)) (h1 : (wr.setCell ⟨xb, o, none⟩ (.int .i64 u)).cell? ⟨xb, 1, none⟩ = some (.int .i64 y.a)) (h2 : (wr.setCell ⟨xb, o, none⟩ (.int .i64 u)).cell? ⟨xb, 2, none⟩ = some (.int .i64 y.b)) : Xs w (wr.setCell ⟨xb, o, none⟩ (.int .i64 u)) g p A n cap bs B m c xb y := by
  have e1 := h.gw
  have e2 := h.zb
  have e3 := h.zx
  have GS := Gx.set xb o wr (.int .i64 u)
  have hs : (wr.setCell ⟨xb, o, none⟩ (.int .i64 u)).heap.size = wr.heap.size := by simp [World.setCell]
  have hf : ∀ k, (wr.setCell ⟨xb, o, none⟩ (.int .i64 u)).frozen? ⟨xb, k, none⟩ = wr.frozen? ⟨xb, k, none⟩ := fun k => by first | exact World.frozen?_setCell .. | simp [World.frozen?, World.setCell]
  exact ⟨h.R.setNew _ (by omega) (fun hn a e => by have := hA hn a e; omega), h.G.setNewF (by omega) _, h.gw, (cell_set_other (.inl (by omega))).trans h.ct, (cell_set_other (.inl (by omega))).trans h.r0, (cell_set_other (.inl (by omega))).trans h.r1, (cell_set_other (.inl (by omega))).trans h.r2,
    (GS.frozen (by omega) (by omega)).trans h.f0, (GS.frozen (by omega) (by omega)).trans h.f1, (GS.frozen (by omega) (by omega)).trans h.f2, h0, h1, h2, (hf 0).trans h.q0, (hf 1).trans h.q1, (hf 2).trans h.q2, h.zb, by rw [hs]; exact h.zx⟩
theorem Xs.setA (h : Xs w wr g p A n cap bs B m c xb x) (hA : 0 < n → ∀ a, A = some a → a.block < w.heap.size) (u : Int) : Xs w (wr.setCell ⟨xb, 1, none⟩ (.int .i64 u)) g p A n cap bs B m c xb ⟨x.kind, u, x.b⟩ :=
  h.set hA 1 u _ ((cell_set_other (.inr (by decide))).trans h.x0) (cell_set_same h.x1) ((cell_set_other (.inr (by decide))).trans h.x2)
theorem Xs.setB (h : Xs w wr g p A n cap bs B m c xb x) (hA : 0 < n → ∀ a, A = some a → a.block < w.heap.size) (u : Int) : Xs w (wr.setCell ⟨xb, 2, none⟩ (.int .i64 u)) g p A n cap bs B m c xb ⟨x.kind, x.a, u⟩ :=
  h.set hA 2 u _ ((cell_set_other (.inr (by decide))).trans h.x0) ((cell_set_other (.inr (by decide))).trans h.x1) (cell_set_same h.x2)
theorem xit_ok {k a b : Int} (h : -9999 ≤ k ∧ k ≤ 9999 ∧ -9999 ≤ a ∧ a ≤ 9999 ∧ -9999 ≤ b ∧ b ≤ 9999) : Enc.ok (⟨k, a, b⟩ : Xit) := by
  show _ ∧ _ ∧ _ ∧ _ ∧ _ ∧ _
  exact ⟨by show _ ≤ k; omega, by show k ≤ _; omega, by show _ ≤ a; omega, by show a ≤ _; omega, by show _ ≤ b; omega, by show b ≤ _; omega⟩
theorem set3x {w : World} {g : Nat} {k a b u v x : Value} (c0 : w.cell? ⟨g, 0, none⟩ = some u) (c1 : w.cell? ⟨g, 1, none⟩ = some v) (c2 : w.cell? ⟨g, 2, none⟩ = some x) :
    (((w.setCell ⟨g, 0, none⟩ k).setCell ⟨g, 1, none⟩ a).setCell ⟨g, 2, none⟩ b).cell? ⟨g, 0, none⟩ = some k ∧ (((w.setCell ⟨g, 0, none⟩ k).setCell ⟨g, 1, none⟩ a).setCell ⟨g, 2, none⟩ b).cell? ⟨g, 1, none⟩ = some a ∧ (((w.setCell ⟨g, 0, none⟩ k).setCell ⟨g, 1, none⟩ a).setCell ⟨g, 2, none⟩ b).cell? ⟨g, 2, none⟩ = some b := by
  refine ⟨?_, ?_, ?_⟩
  · rw [cell_set_other (.inr (by decide)), cell_set_other (.inr (by decide))]; exact cell_set_same c0
  · rw [cell_set_other (.inr (by decide))]; exact cell_set_same (by rw [cell_set_other (.inr (by decide))]; exact c1)
  · exact cell_set_same (by rw [cell_set_other (.inr (by decide)), cell_set_other (.inr (by decide))]; exact c2)
/-- what a drawn exit is, where there are m classes -/
def VX (m : Nat) (x : Xit) : Prop := (x.kind = 0 ∨ x.kind = 1) ∧ 0 ≤ x.a ∧ x.a ≤ 99 ∧ x.b = 0 ∨ x.kind = 2 ∧ 0 ≤ x.a ∧ x.a < m ∧ x.b = 0 ∨ x.kind = 3 ∧ 0 ≤ x.a ∧ x.a < m ∧ 0 ≤ x.b ∧ x.b ≤ 99
theorem vx_mk {m : Nat} {k a b : Int} (h : (k = 0 ∨ k = 1) ∧ 0 ≤ a ∧ a ≤ 99 ∧ b = 0 ∨ k = 2 ∧ 0 ≤ a ∧ a < m ∧ b = 0 ∨ k = 3 ∧ 0 ≤ a ∧ a < m ∧ 0 ≤ b ∧ b ≤ 99) : VX m ⟨k, a, b⟩ := h
def XitOut (m g p : Nat) (A : Option Addr) (n cap : Nat) (bs : List By) (w : World) (e : Ending) (w' : World) : Prop :=
  ∃ (x : Xit) (p' : Nat), e = .returned (.agg #[.int .i64 x.kind, .int .i64 x.a, .int .i64 x.b]) ∧ Enc.ok x ∧ (0 < m → VX m x) ∧ p' ≤ p + 3 ∧ Rd w' g p' A n cap bs ∧ Gx g w w'
theorem Xs.out (h : Xs w wr g p A n cap bs B m c xb x) (hA : 0 < n → ∀ a, A = some a → a.block < w.heap.size) {p0 : Nat} (hp : p ≤ p0 + 3) (hx : Enc.ok x) (hv : 0 < m → VX m x) (k a b : Value) :
    XitOut m g p0 A n cap bs w (.returned (.agg #[.int .i64 x.kind, .int .i64 x.a, .int .i64 x.b])) (((wr.setCell ⟨w.heap.size + 1, 0, none⟩ k).setCell ⟨w.heap.size + 1, 1, none⟩ a).setCell ⟨w.heap.size + 1, 2, none⟩ b) := by
  have e1 := h.gw
  have hA2 : 0 < n → ∀ a, A = some a → a.block ≠ w.heap.size + 1 := fun hn a e => by have := hA hn a e; omega
  exact ⟨x, p, rfl, hx, hv, hp, ((h.R.setNew _ (by omega) hA2).setNew _ (by omega) hA2).setNew _ (by omega) hA2, ((h.G.setNewF (by omega) _).setNewF (by omega) _).setNewF (by omega) _⟩
end
set_option maxHeartbeats 2000000 in
set_option maxRecDepth 100000 in
theorem anExit_any (B : Option Addr) (m c g p : Nat) (A : Option Addr) (n cap : Nat) (bs : List By) (w : World) (hm : m ≤ 8) (hp : p ≤ 900000) (hR : Rd w g p A n cap bs) :
    Calls Tryd.prog 66 #[.pointer (some ⟨g, 0, none⟩), .agg #[.slice B m c]] w (XitOut m g p A n cap bs w) := by
  have hgw := hR.lt
  have HA : Hid (0 < n → ∀ a, A = some a → a.block < w.heap.size) := fun hn a e => hR.sl.under hn a e
  go_enter Tryd.func66, Tryd.ntmps66
  go_wp2_with fail
  obtain ⟨ct, zt, r0, r1, r2, zr, L0⟩ := boxTX w (.slice B m c) (.int .i64 0) (.int .i64 0) (.int .i64 0) 25 58
  have hf : ∀ o, o < 3 → ((w.alloc (.cells #[.slice B m c] 25)).alloc (.cells #[.int .i64 0, .int .i64 0, .int .i64 0] 58)).frozen? ⟨w.heap.size + 1, o, none⟩ = false := fun o _ => World.frozen?_alloc_at _ _ _ _ (by simp)
  have f0 := hf 0 (by decide)
  have f1 := hf 1 (by decide)
  have f2 := hf 2 (by decide)
  have R0 := hR.le L0
  have G0 := Gx.of_le (g := g) L0
  generalize (w.alloc (.cells #[.slice B m c] 25)).alloc (.cells #[.int .i64 0, .int .i64 0, .int .i64 0] 58) = W at *
  refine (pick_any 4 g p A n cap bs W (by omega) (by omega) (by omega) R0).mono ?_
  rintro e w1 ⟨v, rfl, hv0, hv1, R1, hg1⟩
  have hv4 : v < 4 := by rcases hv1 with h | h <;> omega
  obtain ⟨y0, y1, y2, zy, LX⟩ := boxT w1 (.int .i64 v) (.int .i64 0) (.int .i64 0) 58
  have hq : ∀ o, (w1.alloc (.cells #[.int .i64 v, .int .i64 0, .int .i64 0] 58)).frozen? ⟨w1.heap.size, o, none⟩ = false := fun o => World.frozen?_alloc_at _ _ _ _ rfl
  have hs1 := hg1.size
  have X1 : Xs w (w1.alloc (.cells #[.int .i64 v, .int .i64 0, .int .i64 0] 58)) g (p + 1) A n cap bs B m c w1.heap.size ⟨v, 0, 0⟩ :=
    ⟨R1.le LX, (G0.trans hg1).trans (Gx.of_le LX), hgw, (LX.cell (by omega)).trans ((hg1.cell zt (by omega)).trans ct), (LX.cell (by omega)).trans ((hg1.cell zr (by omega)).trans r0), (LX.cell (by omega)).trans ((hg1.cell zr (by omega)).trans r1), (LX.cell (by omega)).trans ((hg1.cell zr (by omega)).trans r2),
      (LX.frozen (by omega)).trans ((hg1.frozen zr (by omega)).trans f0), (LX.frozen (by omega)).trans ((hg1.frozen zr (by omega)).trans f1), (LX.frozen (by omega)).trans ((hg1.frozen zr (by omega)).trans f2), y0, y1, y2, hq 0, hq 1, hq 2, by omega, zy⟩
  clear ct r0 r1 r2 f0 f1 f2 hf y0 y1 y2 zy LX hq R0 R1 hg1 G0 L0 hv1 zt zr hs1
  have x0 := X1.x0
  have ct := X1.ct
  by_cases h2 : (2 : Int) ≤ v
  · have h2b : decide ((2 : Int) ≤ v) = true := decide_eq_true h2
    go_wp2_with fail
    generalize hWX : w1.alloc (.cells #[.int .i64 v, .int .i64 0, .int .i64 0] 58) = WX at *
    generalize w1.heap.size = xb at *
    clear hWX
    refine (pick_any (m : Int) g (p + 1) A n cap bs WX (by omega) (by omega) (by omega) X1.R).mono ?_
    rintro e w2 ⟨u, rfl, hu0, hu1, R2, hg2⟩
    have hu8 : 0 ≤ u ∧ u ≤ 8 := by rcases hu1 with h | h <;> omega
    have hum : 0 < m → u < m := fun h0 => by rcases hu1 with h | h <;> omega
    have X2 := X1.call R2 hg2
    have X3 : Xs w (w2.setCell ⟨xb, 1, none⟩ (.int .i64 u)) g (p + 1 + 1) A n cap bs B m c xb ⟨v, u, 0⟩ := X2.setA HA.out u
    have y1 : w2.cell? ⟨xb, 1, none⟩ = some (.int .i64 0) := X2.x1
    have qq1 := X2.q1
    have x0' : (w2.setCell ⟨xb, 1, none⟩ (.int .i64 u)).cell? ⟨xb, 0, none⟩ = some (.int .i64 v) := X3.x0
    clear X1 R2 hg2 x0 ct hu1 X2
    by_cases h3 : v = 3
    · subst h3
      go_wp2_with fail
      have hzz : w2.heap.size = (w2.setCell ⟨xb, 1, none⟩ (.int .i64 u)).heap.size := by first | simp [World.setCell] | rfl
      generalize w2.setCell ⟨xb, 1, none⟩ (.int .i64 u) = W3 at *
      refine (one_lit [1, 2, 3] 3 _ _ g (p + 1 + 1) A n cap bs W3 _ rfl rfl (by decide) (by decide) (by intro x hx; simp at hx; constructor <;> omega) (by omega) hzz X3.R).mono ?_
      rintro e w4 ⟨t, rfl, ht, R4, hg4⟩
      have ht3 : 1 ≤ t ∧ t ≤ 3 := by simp at ht; omega
      have X4 := X3.call R4 hg4
      have XX : Xs w (w4.setCell ⟨xb, 2, none⟩ (.int .i64 t)) g (p + 1 + 1 + 1) A n cap bs B m c xb ⟨3, u, t⟩ := X4.setB HA.out t
      have y2 : w4.cell? ⟨xb, 2, none⟩ = some (.int .i64 0) := X4.x2
      have qq2 := X4.q2
      clear X3 R4 hg4 ht x0' X4
      have HF := Lib.hid (XX.out HA.out (p0 := p) (by omega) (xit_ok (by omega)) (fun hm0 => vx_mk (by have := hum hm0; omega)) (.int .i64 3) (.int .i64 u) (.int .i64 t))
      have x0 : (w4.setCell ⟨xb, 2, none⟩ (.int .i64 t)).cell? ⟨xb, 0, none⟩ = some (.int .i64 3) := XX.x0
      have x1 : (w4.setCell ⟨xb, 2, none⟩ (.int .i64 t)).cell? ⟨xb, 1, none⟩ = some (.int .i64 u) := XX.x1
      have x2 : (w4.setCell ⟨xb, 2, none⟩ (.int .i64 t)).cell? ⟨xb, 2, none⟩ = some (.int .i64 t) := XX.x2
      have r0 := XX.r0
      have r1 := XX.r1
      have r2 := XX.r2
      have f0 := XX.f0
      have f1 := XX.f1
      have f2 := XX.f2
      have hne := XX.zb
      have hend := fun k a b => set3x (k := k) (a := a) (b := b) r0 r1 r2
      clear XX
      go_wp2
      exact bodyPost_ret (v := .agg #[.int .i64 3, .int .i64 u, .int .i64 t]) (by simp [results, Tryd.results66, go_sem, hend]) rfl HF.out
    · have h3b : (v == 3) = false := by simpa using h3
      have XX := X3
      have hv2 : v = 2 := by omega
      clear X3 h3
      have HF := Lib.hid (XX.out HA.out (p0 := p) (by omega) (xit_ok (by omega)) (fun hm0 => vx_mk (by have := hum hm0; omega)) (.int .i64 v) (.int .i64 u) (.int .i64 0))
      clear hv2
      have x0 : (w2.setCell ⟨xb, 1, none⟩ (.int .i64 u)).cell? ⟨xb, 0, none⟩ = some (.int .i64 v) := XX.x0
      have x1 : (w2.setCell ⟨xb, 1, none⟩ (.int .i64 u)).cell? ⟨xb, 1, none⟩ = some (.int .i64 u) := XX.x1
      have x2 : (w2.setCell ⟨xb, 1, none⟩ (.int .i64 u)).cell? ⟨xb, 2, none⟩ = some (.int .i64 0) := XX.x2
      have r0 := XX.r0
      have r1 := XX.r1
      have r2 := XX.r2
      have f0 := XX.f0
      have f1 := XX.f1
      have f2 := XX.f2
      have hne := XX.zb
      have hend := fun k a b => set3x (k := k) (a := a) (b := b) r0 r1 r2
      clear XX
      go_wp2
      exact bodyPost_ret (v := .agg #[.int .i64 v, .int .i64 u, .int .i64 0]) (by simp [results, Tryd.results66, go_sem, hend]) rfl HF.out
  · have h2b : decide ((2 : Int) ≤ v) = false := decide_eq_false h2
    have h3b : (v == 3) = false := by simp; omega
    go_wp2_with fail
    have hzz : w1.heap.size + 1 = (w1.alloc (.cells #[.int .i64 v, .int .i64 0, .int .i64 0] 58)).heap.size := by simp
    generalize hWX : w1.alloc (.cells #[.int .i64 v, .int .i64 0, .int .i64 0] 58) = WX at *
    generalize w1.heap.size = xb at *
    clear hWX
    refine (one_lit [1, 2, 3, 0, 99] 5 _ _ g (p + 1) A n cap bs WX _ rfl rfl (by decide) (by decide) (by intro x hx; simp at hx; constructor <;> omega) (by omega) hzz X1.R).mono ?_
    rintro e w2 ⟨u, rfl, hu, R2, hg2⟩
    have hu8 : 0 ≤ u ∧ u ≤ 99 := by simp at hu; omega
    have X2 := X1.call R2 hg2
    have XX : Xs w (w2.setCell ⟨xb, 1, none⟩ (.int .i64 u)) g (p + 1 + 1) A n cap bs B m c xb ⟨v, u, 0⟩ := X2.setA HA.out u
    have y1 : w2.cell? ⟨xb, 1, none⟩ = some (.int .i64 0) := X2.x1
    have qq1 := X2.q1
    clear X1 R2 hg2 x0 ct hu X2
    have HF := Lib.hid (XX.out HA.out (p0 := p) (by omega) (xit_ok (by omega)) (fun hm0 => vx_mk (by omega)) (.int .i64 v) (.int .i64 u) (.int .i64 0))
    have x0 : (w2.setCell ⟨xb, 1, none⟩ (.int .i64 u)).cell? ⟨xb, 0, none⟩ = some (.int .i64 v) := XX.x0
    have x1 : (w2.setCell ⟨xb, 1, none⟩ (.int .i64 u)).cell? ⟨xb, 1, none⟩ = some (.int .i64 u) := XX.x1
    have x2 : (w2.setCell ⟨xb, 1, none⟩ (.int .i64 u)).cell? ⟨xb, 2, none⟩ = some (.int .i64 0) := XX.x2
    have r0 := XX.r0
    have r1 := XX.r1
    have r2 := XX.r2
    have f0 := XX.f0
    have f1 := XX.f1
    have f2 := XX.f2
    have hne := XX.zb
    have hend := fun k a b => set3x (k := k) (a := a) (b := b) r0 r1 r2
    clear XX
    go_wp2
    exact bodyPost_ret (v := .agg #[.int .i64 v, .int .i64 u, .int .i64 0]) (by simp [results, Tryd.results66, go_sem, hend]) rfl HF.out
/-- exits that were drawn -/
def ExsOut (m k g p : Nat) (A : Option Addr) (n cap : Nat) (bs : List By) (w : World) (e : Ending) (w' : World) : Prop :=
  ∃ (v : Value) (xs : List Xit) (p' : Nat), e = .returned v ∧ w'.ownsRow w.heap.size 58 3 v xs.length (xs.flatMap Enc.cells) ∧ (∀ x ∈ xs, Enc.ok x ∧ (0 < m → VX m x)) ∧ xs.length ≤ 8 ∧ p' ≤ p + k ∧ Rd w' g p' A n cap bs ∧ Gx g w w'
set_option maxHeartbeats 2000000 in
set_option maxRecDepth 100000 in
theorem goodExits_any (B : Option Addr) (m c g p : Nat) (A : Option Addr) (n cap : Nat) (bs : List By) (w : World) (hm : m ≤ 8) (hp : p ≤ 800000) (hR : Rd w g p A n cap bs) :
    Calls Tryd.prog 37 #[.pointer (some ⟨g, 0, none⟩), .agg #[.slice B m c]] w (ExsOut m 25 g p A n cap bs w) := by
  have hgw := hR.lt
  obtain ⟨i0, hi, hz0, hz1, hz2⟩ := info_parts infoXt
  have HA : Hid (0 < n → ∀ a, A = some a → a.block < w.heap.size) := fun hn a e => hR.sl.under hn a e
  go_enter Tryd.func37, Tryd.ntmps37
  go_wp2_with fail
  obtain ⟨ct, zt, L0⟩ := box1 w (.slice B m c) 25
  have zsW : (w.alloc (.cells #[.slice B m c] 25)).heap.size = w.heap.size + 1 := by simp
  have R0 := hR.le L0
  generalize w.alloc (.cells #[.slice B m c] 25) = W at *
  have LE := Le.new W (.cells #[] 58)
  have O0 := own_empty (w := W) (base := w.heap.size + 1) (g := W.heap.size) (e := 58) (size := 3) (by omega) rfl
  have zs : (W.alloc (.cells #[] 58)).heap.size = W.heap.size + 1 := by simp
  rw [zsW] at O0 zs
  have R1 := R0.le LE
  have c1 := (LE.cell zt).trans ct
  have G1 := (Gx.of_le (g := g) L0).trans (Gx.of_le LE)
  clear R0 ct L0 LE
  generalize W.alloc (.cells #[] 58) = W1 at *
  refine (one_lit [3, 4, 2, 1, 5, 0, 8] 7 _ _ g p A n cap bs W1 _ rfl rfl (by decide) (by decide) (by intro x hx; simp at hx; constructor <;> omega) (by omega) (by rw [zs]) R1).mono ?_
  rintro e w1 ⟨u, rfl, hu, R2, hg2⟩
  have hu1 : 0 ≤ u ∧ u ≤ 8 := by simp at hu; omega
  have O1 := O0.kept hg2 (.inr (fun e => by have e1 : w.heap.size + 1 = g := (by injection e); omega))
  have c2 := (hg2.cell (k := w.heap.size) (by omega) (by omega)).trans c1
  have G2 := G1.trans hg2
  have z2 : w.heap.size + 1 < w1.heap.size := by have := hg2.size; omega
  clear hu R1 O0 hg2 zs c1 G1
  go_wp2
  go_loopw [5, 6] (fun v i wr => ∃ (L : List Xit) (k p' : Nat), i = .int .i64 k ∧ L.length + k ≤ 8 ∧ p' + 3 * k ≤ p + 25 ∧ (∀ x ∈ L, Enc.ok x ∧ (0 < m → VX m x)) ∧ wr.ownsRow (w.heap.size + 1) 58 3 v L.length (L.flatMap Enc.cells) ∧ w.heap.size + 1 < wr.heap.size ∧ wr.cell? ⟨w.heap.size, 0, none⟩ = some (.slice B m c) ∧ Rd wr g p' A n cap bs ∧ Gx g w wr) (fun _ i _ => (intOf i).toNat)
  case atStart =>
    obtain ⟨k, rfl⟩ := Int.eq_ofNat_of_zero_le hu1.1
    exact ⟨[], k, p + 1, rfl, by simp; omega, by omega, by simp, O1, z2, c2, R2, G2⟩
  case round =>
    clear O1 R2 G2 hu1 c2 z2
    obtain ⟨L, k, p', rfl, hk, hp', hL, O, z, ct, R, G⟩ := hrel
    by_cases h0 : 0 < k
    · have hk0 : (0 : Int) < k := by omega
      obtain ⟨j, rfl⟩ : ∃ j, k = j + 1 := ⟨k - 1, by omega⟩
      have hwj : IntKind.i64.wrap ((j : Int) + 1 - 1) = (j : Int) := by rw [Int.add_sub_cancel]; exact IntWalk.i64_in _ (by omega)
      go_wp2_with fail
      refine (anExit_any B m c g p' A n cap bs wr hm (by omega) R).mono ?_
      rintro e w2 ⟨x, p2, rfl, hx, hvx, hp2, R2, hg2⟩
      have O2 := O.kept hg2 (.inr (fun e => by have := (O.lt _ e).1; omega))
      have z2 := Nat.lt_of_lt_of_le z hg2.size
      have G2 := G.trans hg2
      have ct2 := (hg2.cell (k := w.heap.size) (o := 0) (by omega) (by omega)).trans ct
      have hbk := O2.lt
      clear O R G hg2 z ct
      obtain ⟨A1, c1, rfl⟩ := own_form O2
      go_wp2_with (at_builtin; refine wpList_append_sl rfl _ _ 26 rfl (w.heap.size + 1) 58 i0 _ 24 Tryd.underlying26 hi hz0 hz1 hz2 rfl _ _ L rfl (O2.alloc _) _ 1 1 [x] rfl (sl_one x rfl hx rfl) (by unfold maxLen; omega) (by omega) (Nat.le_trans (by omega) (Le.new w2 _).size) ?_; intro v1 w4 O4 hg4 hbl; have LA := Le.new w2 (.cells #[.int .i64 x.kind, .int .i64 x.a, .int .i64 x.b] 58); have R4 := (R2.le LA).grown hg4 (fun e => by have h := (hbk _ e).1; omega) (fun hn a e e2 => by have h := (hbk _ e2).1; have := HA.out hn a e; omega); have G4 := (G2.trans (Gx.of_le LA)).grown hg4 (fun k hk => by have h := (hbk _ hk).1; omega); have z4 := Nat.lt_of_lt_of_le (Nat.lt_of_lt_of_le z2 LA.size) hg4.size; have e0 := hg4.cell (a := ⟨w.heap.size, 0, none⟩) ((LA.cell (b := w.heap.size) (o := 0) (by omega)).trans ct2) (fun e => by have h : w.heap.size + 1 ≤ w.heap.size := (hbk _ e.symm).1; omega); clear hg4 LA)
      go_roundw
      case rel => exact ⟨L ++ [x], j, p2, by go_num, by simp; omega, by omega, (fun y hy => by rcases List.mem_append.1 hy with h | h; exact hL y h; simp at h; subst h; exact ⟨hx, hvx⟩), by rw [List.length_append]; exact O4, z4, e0, R4, G4⟩
      case measure => (simp [intOf]) <;> omega
    · obtain rfl : k = 0 := by omega
      obtain ⟨A1, c1, rfl⟩ := own_form O
      go_wp2
      go_ret
      exact ⟨_, L, p', rfl, own_mono O (by omega), hL, by omega, by omega, R, G⟩
def ExitsOut (k g p : Nat) (A : Option Addr) (n cap : Nat) (bs : List By) (w : World) (e : Ending) (w' : World) : Prop :=
  ∃ (B D : Option Addr) (m c q d : Nat) (xs : List Cls) (L : List Xit) (p' : Nat), e = .returned (.tuple #[.agg #[.slice B m c], .slice D q d]) ∧ Sl w' B m c xs ∧ m ≤ 8 ∧ (0 < m → ∀ a, B = some a → w.heap.size < a.block) ∧ Sl w' D q d L ∧ q ≤ 8 ∧ (0 < q → ∀ a, D = some a → w.heap.size < a.block) ∧ p' ≤ p + k ∧ Rd w' g p' A n cap bs ∧ Gx g w w'
theorem Sl.setNoneX {α : Type} [Enc α] {w : World} {A : Option Addr} {n cap : Nat} {xs : List α} {b o : Nat} {v u : Value} (h : Sl w A n cap xs) (hc : w.cell? ⟨b, o, none⟩ = some v) (hv : ∀ x : α, v ∉ Enc.cells x) : Sl (w.setCell ⟨b, o, none⟩ u) A n cap xs := by
  refine ⟨h.len, h.cap_, h.max, h.ok, fun hn => ?_⟩
  obtain ⟨b2, off, e, hb, hcell⟩ := h.at_ hn
  refine ⟨b2, off, e, by simpa [World.setCell] using hb, fun j t ht => ?_⟩
  have h1 := hcell j t ht
  by_cases c : b = b2 ∧ o = off + j
  · obtain ⟨rfl, rfl⟩ := c
    rw [hc] at h1
    injection h1 with h1
    subst h1
    obtain ⟨x, _, hx⟩ := List.mem_flatMap.1 (List.mem_of_getElem? ht)
    exact absurd hx (hv x)
  · have hne : b ≠ b2 ∨ o ≠ off + j := by
      by_cases c2 : b = b2
      · exact .inr (fun e => c ⟨c2, e⟩)
      · exact .inl c2
    rw [cell_set_other hne]
    exact h1
/-- the end of a draw of exits: the result's box is written -/
theorem exits_out {w wr : World} {g p0 p : Nat} {A : Option Addr} {n cap : Nat} {bs : List By} {B D : Option Addr} {m c q d : Nat} {xs : List Cls} {L : List Xit} (c0 : wr.cell? ⟨w.heap.size, 0, none⟩ = some (.slice none 0 0)) (S : Sl wr B m c xs) (hm : m ≤ 8) (hab : 0 < m → ∀ a, B = some a → w.heap.size < a.block) (SD : Sl wr D q d L) (hq : q ≤ 8) (hD : 0 < q → ∀ a, D = some a → w.heap.size < a.block) (hp : p ≤ p0 + 60) (R : Rd wr g p A n cap bs) (G : Gx g w wr) (gw : g < w.heap.size) (hA : 0 < n → ∀ a, A = some a → a.block < w.heap.size) (u : Value) :
    ExitsOut 60 g p0 A n cap bs w (.returned (.tuple #[.agg #[.slice B m c], .slice D q d])) (wr.setCell ⟨w.heap.size, 0, none⟩ u) :=
  ⟨B, D, m, c, q, d, xs, L, p, rfl, S.setNoneX c0 (fun x h => by simp [Enc.cells] at h), hm, hab, SD.setNoneX c0 (fun x h => by simp [Enc.cells] at h), hq, hD, hp, R.setNew u (by omega) (fun hn a e => by have := hA hn a e; omega), G.setNewF (Nat.le_refl _) u⟩
set_option maxHeartbeats 4000000 in
set_option maxRecDepth 100000 in
theorem someExits_any (g p : Nat) (A : Option Addr) (n cap : Nat) (bs : List By) (w : World) (hp : p ≤ 700000) (hR : Rd w g p A n cap bs) :
    Calls Tryd.prog 25 #[.pointer (some ⟨g, 0, none⟩)] w (ExitsOut 60 g p A n cap bs w) := by
  have hgw := hR.lt
  have HA : Hid (0 < n → ∀ a, A = some a → a.block < w.heap.size) := fun hn a e => hR.sl.under hn a e
  go_enter Tryd.func25, Tryd.ntmps25
  go_wp2_with fail
  obtain ⟨c0, z0, L0⟩ := box1 w (.slice none 0 0) 25
  have f0 : (w.alloc (.cells #[.slice none 0 0] 25)).frozen? ⟨w.heap.size, 0, none⟩ = false := World.frozen?_alloc_at _ _ _ _ rfl
  have R0 := hR.le L0
  have G0 := Gx.of_le (g := g) L0
  have zsW : (w.alloc (.cells #[.slice none 0 0] 25)).heap.size = w.heap.size + 1 := by simp
  clear L0
  generalize w.alloc (.cells #[.slice none 0 0] 25) = W at *
  refine (someTree_any g p A n cap bs W (by omega) R0).mono ?_
  rintro e w1 ⟨B, m, c, p1, xs, rfl, S, hm, hoff, hab0, hp1, R, hg⟩
  have hab : 0 < m → ∀ a, B = some a → w.heap.size < a.block := fun hn a e => by have := hab0 hn a e; omega
  have hgz : w.heap.size ≠ g := by omega
  have c1 := (hg.cell z0 hgz).trans c0
  have f1 := (hg.frozen z0 hgz).trans f0
  have z1 := Nat.lt_of_lt_of_le z0 hg.size
  have G1 := G0.trans hg
  obtain ⟨ct, zt, LB⟩ := box1 w1 (.slice B m c) 25
  have hgt : w1.heap.size ≠ g := by omega
  have c2 := (LB.cell z1).trans c1
  have f2 := (LB.frozen z1).trans f1
  have S2 := S.le LB
  have R2 := R.le LB
  have G2 := G1.trans (Gx.of_le LB)
  have z2 := Nat.lt_of_lt_of_le z1 LB.size
  have hoffB : 0 < m → Off g B := fun hn a e => by have := hab hn a e; omega
  have HBU : Hid (0 < m → ∀ a, B = some a → a.block < (w1.alloc (.cells #[.slice B m c] 25)).heap.size) := fun hn a e => S2.under hn a e
  clear c0 f0 R0 G0 c1 f1 G1 S R hg hoff hab0 LB hR
  go_wp2_with fail
  generalize w1.alloc (.cells #[.slice B m c] 25) = W2 at *
  generalize w1.heap.size = tb at *
  refine (goodExits_any B m c g p1 A n cap bs W2 hm (by omega) R2).mono ?_
  rintro e w2 ⟨v, L, p2, rfl, O, hokv, hl8, hp2, R3, hg3⟩
  have hok : ∀ x ∈ L, Enc.ok x := fun x hx => (hokv x hx).1
  clear hokv
  have c3 := (hg3.cell z2 hgz).trans c2
  have f3 := (hg3.frozen z2 hgz).trans f2
  have t3 := (hg3.cell zt hgt).trans ct
  have z3 := Nat.lt_of_lt_of_le z2 hg3.size
  have zt3 := Nat.lt_of_lt_of_le zt hg3.size
  have S3 := S2.gx hoffB hg3
  have G3 := G2.trans hg3
  clear c2 f2 ct S2 R2 G2 hg3
  rcases Nat.eq_zero_or_pos L.length with h0 | h0
  · have hT : L = [] := List.eq_nil_of_length_eq_zero h0
    subst hT
    obtain ⟨A4, c4, rfl⟩ := own_form O
    have SL : Sl w2 A4 0 c4 ([] : List Xit) := Sl.of_own O rfl (by decide) hok
    clear O hok h0 hl8
    have HF := Lib.hid (fun u => exits_out (p0 := p) (p := p2) c3 S3 hm hab SL (by omega) (fun h => absurd h (by omega)) (by omega) R3 G3 hgw HA.out u)
    have hend : ∀ u, (w2.setCell ⟨w.heap.size, 0, none⟩ u).cell? ⟨w.heap.size, 0, none⟩ = some u := fun u => cell_set_same c3
    go_wp2
    exact bodyPost_ret (v := .tuple #[.agg #[.slice B m c], .slice A4 0 c4]) (by simp [results, Tryd.results25, go_sem, hend]) rfl (HF.out _)
  · obtain ⟨j, hj⟩ : ∃ j, L.length = j + 1 := ⟨L.length - 1, by omega⟩
    have HJ := Lib.hid hj
    rw [hj] at O
    obtain ⟨b, cp, rfl⟩ := own_some O
    have hbb := O.lt b rfl
    have hbg : b ≠ g := by omega
    have hj7 : j ≤ 7 := by omega
    have HOK := Lib.hid hok
    have hbw : w.heap.size < b := by omega
    have htbb : tb < b := by omega
    have hW2b : W2.heap.size ≤ b := hbb.1
    clear hj h0 hl8 hok
    have hj1 : (0 : Int) < ((j + 1 : Nat) : Int) := by omega
    go_wp2_with fail
    refine (pick_any ((j + 1 : Nat) : Int) g p2 A n cap bs w2 (by omega) (by omega) (by omega) R3).mono ?_
    rintro e w3 ⟨x, rfl, hx0, hx1, R4, hg4⟩
    have O4 := O.kept hg4 (.inr (fun e => hbg (by injection e)))
    have c4 := (hg4.cell z3 hgz).trans c3
    have f4 := (hg4.frozen z3 hgz).trans f3
    have t4 := (hg4.cell zt3 hgt).trans t3
    have z4 := Nat.lt_of_lt_of_le z3 hg4.size
    have zt4 := Nat.lt_of_lt_of_le zt3 hg4.size
    have S4 := S3.gx hoffB hg4
    have G4 := G3.trans hg4
    obtain ⟨k, rfl⟩ := Int.eq_ofNat_of_zero_le hx0
    have hk : k < j + 1 := by rcases hx1 with h | h <;> omega
    have hk0 : (0 : Int) ≤ (k : Int) := by omega
    have hkn : (k : Int) < (j : Int) + 1 := by omega
    have hkx : k < L.length := by have := HJ.out; omega
    clear O R3 c3 f3 t3 S3 G3 hg4 hx1 hx0 z3 zt3
    go_wp2_with fail
    refine (pick_any 24 g (p2 + 1) A n cap bs w3 (by omega) (by omega) (by omega) R4).mono ?_
    rintro e w4 ⟨y, rfl, hy0, hy1, R5, hg5⟩
    replace O4 := O4.kept hg5 (.inr (fun e => hbg (by injection e)))
    replace c4 := (hg5.cell z4 hgz).trans c4
    replace f4 := (hg5.frozen z4 hgz).trans f4
    replace t4 := (hg5.cell zt4 hgt).trans t4
    replace z4 := Nat.lt_of_lt_of_le z4 hg5.size
    replace zt4 := Nat.lt_of_lt_of_le zt4 hg5.size
    replace S4 := S4.gx hoffB hg5
    replace G4 := G4.trans hg5
    replace R4 := R5
    clear R5 hg5 hy1 hy0
    by_cases hy0 : y = 0
    · subst hy0
      go_wp2_with fail
      refine (one_lit [-1, 4, 2] 3 _ _ g (p2 + 1 + 1) A n cap bs w4 _ rfl rfl (by decide) (by decide) (by intro x hx; simp at hx; constructor <;> omega) (by omega) rfl R4).mono ?_
      rintro e w5 ⟨s, rfl, hs, R5, hg5⟩
      have hso : -9223372036854775808 ≤ s ∧ s ≤ 9223372036854775807 := by simp at hs; omega
      have O5 := O4.kept hg5 (.inr (fun e => hbg (by injection e)))
      have c5 := (hg5.cell z4 hgz).trans c4
      have f5 := (hg5.frozen z4 hgz).trans f4
      have t5 := (hg5.cell zt4 hgt).trans t4
      have z5 := Nat.lt_of_lt_of_le z4 hg5.size
      have zt5 := Nat.lt_of_lt_of_le zt4 hg5.size
      have S5 := S4.gx hoffB hg5
      have G5 := G4.trans hg5
      have hcw : w5.cell? ⟨b, k * 3 + 0, none⟩ = some (.int .i64 L[k].kind) := by rw [O5.cellAt _ (by show _ < (j + 1) * 3; omega)]; exact flat_at L k hkx 0 (by decide)
      have hfw := O5.frozenAt (k * 3 + 0)
      have h1 := (O5.stored (k * 3 + 0) (.int .i64 s)).1
      have h2 := flat_xit_kind L k hkx s
      simp only [Nat.add_zero] at h1 h2 hcw hfw
      rw [h2] at h1
      have HOK2 : Hid (∀ x ∈ L.set k {L[k] with kind := s}, Enc.ok x) := fun x hx => by
        rcases List.mem_or_eq_of_mem_set hx with h | rfl
        · exact HOK.out x h
        · have hq := HOK.out _ (List.getElem_mem hkx)
          exact ⟨hso.1, hso.2, hq.2.2.1, hq.2.2.2.1, hq.2.2.2.2.1, hq.2.2.2.2.2⟩
      have SDh := Lib.hid (Sl.of_own h1 rfl (by decide) HOK2.out)
      have HR6 := Lib.hid (R5.setNew (o := k * 3 + 0) (.int .i64 s) hbg (fun hn a e => by have := HA.out hn a e; omega))
      have HS6 := Lib.hid (S5.grown (grown_set w5 b (k * 3 + 0) (.int .i64 s)) (fun hn a e e2 => by have e3 : a.block = b := (by injection e2); have := HBU.out hn a e; omega))
      have HG6 := Lib.hid (G5.setNewF (b := b) (o := k * 3 + 0) (by omega) (.int .i64 s))
      have c6 : (w5.setCell ⟨b, k * 3 + 0, none⟩ (.int .i64 s)).cell? ⟨w.heap.size, 0, none⟩ = some (.slice none 0 0) := (cell_set_other (.inl (by omega))).trans c5
      have f6 : (w5.setCell ⟨b, k * 3 + 0, none⟩ (.int .i64 s)).frozen? ⟨w.heap.size, 0, none⟩ = false := ((Gx.set b (k * 3 + 0) w5 (.int .i64 s)).frozen z5 (by omega)).trans f5
      have t6 : (w5.setCell ⟨b, k * 3 + 0, none⟩ (.int .i64 s)).cell? ⟨tb, 0, none⟩ = some (.slice B m c) := (cell_set_other (.inl (by omega))).trans t5
      simp only [Nat.add_zero] at SDh HR6 HS6 HG6 c6 f6 t6
      clear R4 O4 c4 f4 t4 z4 zt4 S4 G4 hg5 hs R5 c5 f5 t5 S5 G5 O5 h1 h2
      have SD := SDh.out
      have R6 := HR6.out
      have S6 := HS6.out
      have G6 := HG6.out
      have HF := Lib.hid (fun u => exits_out (p0 := p) (p := (p2 + 1 + 1 + 1)) c6 S6 hm hab SD (by omega) (fun _ a e => by injection e with e; rw [← e]; exact hbw) (by omega) R6 G6 hgw HA.out u)
      have hend : ∀ u, ((w5.setCell ⟨b, k * 3, none⟩ (.int .i64 s)).setCell ⟨w.heap.size, 0, none⟩ u).cell? ⟨w.heap.size, 0, none⟩ = some u := fun u => cell_set_same c6
      go_wp2
      exact bodyPost_ret (v := .tuple #[.agg #[.slice B m c], .slice (some ⟨b, 0, none⟩) (j + 1) cp]) (by simp [results, Tryd.results25, go_sem, hend]) rfl (HF.out _)
    have yb0 : (y == 0) = false := by simpa using hy0
    clear hy0
    by_cases hy1 : y = 1
    · subst hy1
      go_wp2_with fail
      refine (one_lit [-1, 100] 2 _ _ g (p2 + 1 + 1) A n cap bs w4 _ rfl rfl (by decide) (by decide) (by intro x hx; simp at hx; constructor <;> omega) (by omega) rfl R4).mono ?_
      rintro e w5 ⟨s, rfl, hs, R5, hg5⟩
      have hso : -9223372036854775808 ≤ s ∧ s ≤ 9223372036854775807 := by simp at hs; omega
      have O5 := O4.kept hg5 (.inr (fun e => hbg (by injection e)))
      have c5 := (hg5.cell z4 hgz).trans c4
      have f5 := (hg5.frozen z4 hgz).trans f4
      have t5 := (hg5.cell zt4 hgt).trans t4
      have z5 := Nat.lt_of_lt_of_le z4 hg5.size
      have zt5 := Nat.lt_of_lt_of_le zt4 hg5.size
      have S5 := S4.gx hoffB hg5
      have G5 := G4.trans hg5
      have hcw : w5.cell? ⟨b, k * 3 + 1, none⟩ = some (.int .i64 L[k].a) := by rw [O5.cellAt _ (by show _ < (j + 1) * 3; omega)]; exact flat_at L k hkx 1 (by decide)
      have hfw := O5.frozenAt (k * 3 + 1)
      have h1 := (O5.stored (k * 3 + 1) (.int .i64 s)).1
      have h2 := flat_xit_a L k hkx s
      rw [h2] at h1
      have HOK2 : Hid (∀ x ∈ L.set k {L[k] with a := s}, Enc.ok x) := fun x hx => by
        rcases List.mem_or_eq_of_mem_set hx with h | rfl
        · exact HOK.out x h
        · have hq := HOK.out _ (List.getElem_mem hkx)
          exact ⟨hq.1, hq.2.1, hso.1, hso.2, hq.2.2.2.2.1, hq.2.2.2.2.2⟩
      have SDh := Lib.hid (Sl.of_own h1 rfl (by decide) HOK2.out)
      have HR6 := Lib.hid (R5.setNew (o := k * 3 + 1) (.int .i64 s) hbg (fun hn a e => by have := HA.out hn a e; omega))
      have HS6 := Lib.hid (S5.grown (grown_set w5 b (k * 3 + 1) (.int .i64 s)) (fun hn a e e2 => by have e3 : a.block = b := (by injection e2); have := HBU.out hn a e; omega))
      have HG6 := Lib.hid (G5.setNewF (b := b) (o := k * 3 + 1) (by omega) (.int .i64 s))
      have c6 : (w5.setCell ⟨b, k * 3 + 1, none⟩ (.int .i64 s)).cell? ⟨w.heap.size, 0, none⟩ = some (.slice none 0 0) := (cell_set_other (.inl (by omega))).trans c5
      have f6 : (w5.setCell ⟨b, k * 3 + 1, none⟩ (.int .i64 s)).frozen? ⟨w.heap.size, 0, none⟩ = false := ((Gx.set b (k * 3 + 1) w5 (.int .i64 s)).frozen z5 (by omega)).trans f5
      have t6 : (w5.setCell ⟨b, k * 3 + 1, none⟩ (.int .i64 s)).cell? ⟨tb, 0, none⟩ = some (.slice B m c) := (cell_set_other (.inl (by omega))).trans t5
      clear R4 O4 c4 f4 t4 z4 zt4 S4 G4 hg5 hs R5 c5 f5 t5 S5 G5 O5 h1 h2
      have SD := SDh.out
      have R6 := HR6.out
      have S6 := HS6.out
      have G6 := HG6.out
      have HF := Lib.hid (fun u => exits_out (p0 := p) (p := (p2 + 1 + 1 + 1)) c6 S6 hm hab SD (by omega) (fun _ a e => by injection e with e; rw [← e]; exact hbw) (by omega) R6 G6 hgw HA.out u)
      have hend : ∀ u, ((w5.setCell ⟨b, k * 3 + 1, none⟩ (.int .i64 s)).setCell ⟨w.heap.size, 0, none⟩ u).cell? ⟨w.heap.size, 0, none⟩ = some u := fun u => cell_set_same c6
      go_wp2
      exact bodyPost_ret (v := .tuple #[.agg #[.slice B m c], .slice (some ⟨b, 0, none⟩) (j + 1) cp]) (by simp [results, Tryd.results25, go_sem, hend]) rfl (HF.out _)
    have yb1 : (y == 1) = false := by simpa using hy1
    clear hy1
    by_cases hy2 : y = 2
    · subst hy2
      go_wp2_with fail
      refine (one_lit [5, 100, -1] 3 _ _ g (p2 + 1 + 1) A n cap bs w4 _ rfl rfl (by decide) (by decide) (by intro x hx; simp at hx; constructor <;> omega) (by omega) rfl R4).mono ?_
      rintro e w5 ⟨s, rfl, hs, R5, hg5⟩
      have hso : -9223372036854775808 ≤ s ∧ s ≤ 9223372036854775807 := by simp at hs; omega
      have O5 := O4.kept hg5 (.inr (fun e => hbg (by injection e)))
      have c5 := (hg5.cell z4 hgz).trans c4
      have f5 := (hg5.frozen z4 hgz).trans f4
      have t5 := (hg5.cell zt4 hgt).trans t4
      have z5 := Nat.lt_of_lt_of_le z4 hg5.size
      have zt5 := Nat.lt_of_lt_of_le zt4 hg5.size
      have S5 := S4.gx hoffB hg5
      have G5 := G4.trans hg5
      have hcw : w5.cell? ⟨b, k * 3 + 2, none⟩ = some (.int .i64 L[k].b) := by rw [O5.cellAt _ (by show _ < (j + 1) * 3; omega)]; exact flat_at L k hkx 2 (by decide)
      have hfw := O5.frozenAt (k * 3 + 2)
      have h1 := (O5.stored (k * 3 + 2) (.int .i64 s)).1
      have h2 := flat_xit_b L k hkx s
      rw [h2] at h1
      have HOK2 : Hid (∀ x ∈ L.set k {L[k] with b := s}, Enc.ok x) := fun x hx => by
        rcases List.mem_or_eq_of_mem_set hx with h | rfl
        · exact HOK.out x h
        · have hq := HOK.out _ (List.getElem_mem hkx)
          exact ⟨hq.1, hq.2.1, hq.2.2.1, hq.2.2.2.1, hso.1, hso.2⟩
      have SDh := Lib.hid (Sl.of_own h1 rfl (by decide) HOK2.out)
      have HR6 := Lib.hid (R5.setNew (o := k * 3 + 2) (.int .i64 s) hbg (fun hn a e => by have := HA.out hn a e; omega))
      have HS6 := Lib.hid (S5.grown (grown_set w5 b (k * 3 + 2) (.int .i64 s)) (fun hn a e e2 => by have e3 : a.block = b := (by injection e2); have := HBU.out hn a e; omega))
      have HG6 := Lib.hid (G5.setNewF (b := b) (o := k * 3 + 2) (by omega) (.int .i64 s))
      have c6 : (w5.setCell ⟨b, k * 3 + 2, none⟩ (.int .i64 s)).cell? ⟨w.heap.size, 0, none⟩ = some (.slice none 0 0) := (cell_set_other (.inl (by omega))).trans c5
      have f6 : (w5.setCell ⟨b, k * 3 + 2, none⟩ (.int .i64 s)).frozen? ⟨w.heap.size, 0, none⟩ = false := ((Gx.set b (k * 3 + 2) w5 (.int .i64 s)).frozen z5 (by omega)).trans f5
      have t6 : (w5.setCell ⟨b, k * 3 + 2, none⟩ (.int .i64 s)).cell? ⟨tb, 0, none⟩ = some (.slice B m c) := (cell_set_other (.inl (by omega))).trans t5
      clear R4 O4 c4 f4 t4 z4 zt4 S4 G4 hg5 hs R5 c5 f5 t5 S5 G5 O5 h1 h2
      have SD := SDh.out
      have R6 := HR6.out
      have S6 := HS6.out
      have G6 := HG6.out
      have HF := Lib.hid (fun u => exits_out (p0 := p) (p := (p2 + 1 + 1 + 1)) c6 S6 hm hab SD (by omega) (fun _ a e => by injection e with e; rw [← e]; exact hbw) (by omega) R6 G6 hgw HA.out u)
      have hend : ∀ u, ((w5.setCell ⟨b, k * 3 + 2, none⟩ (.int .i64 s)).setCell ⟨w.heap.size, 0, none⟩ u).cell? ⟨w.heap.size, 0, none⟩ = some u := fun u => cell_set_same c6
      go_wp2
      exact bodyPost_ret (v := .tuple #[.agg #[.slice B m c], .slice (some ⟨b, 0, none⟩) (j + 1) cp]) (by simp [results, Tryd.results25, go_sem, hend]) rfl (HF.out _)
    have yb2 : (y == 2) = false := by simpa using hy2
    clear hy2
    have SD := Sl.of_own O4 rfl (by decide) HOK.out
    clear O4
    have HF := Lib.hid (fun u => exits_out (p0 := p) (p := (p2 + 1 + 1)) c4 S4 hm hab SD (by omega) (fun _ a e => by injection e with e; rw [← e]; exact hbw) (by omega) R4 G4 hgw HA.out u)
    have hend : ∀ u, (w4.setCell ⟨w.heap.size, 0, none⟩ u).cell? ⟨w.heap.size, 0, none⟩ = some u := fun u => cell_set_same c4
    go_wp2
    exact bodyPost_ret (v := .tuple #[.agg #[.slice B m c], .slice (some ⟨b, 0, none⟩) (j + 1) cp]) (by simp [results, Tryd.results25, go_sem, hend]) rfl (HF.out _)
/-- a tree and exits that were drawn for a law -/
def DrawnXs (w : World) (e : Ending) (w' : World) : Prop :=
  ∃ (B D : Option Addr) (m c q d : Nat) (xs : List Cls) (L : List Xit), e = .returned (.tuple #[.agg #[.slice B m c], .slice D q d]) ∧ Sl w' B m c xs ∧ m ≤ 8 ∧ Sl w' D q d L ∧ q ≤ 8 ∧ Le w w'
set_option maxHeartbeats 1000000 in
set_option maxRecDepth 100000 in
theorem drawExitsText_any (A : Option Addr) (n cap : Nat) (bs : List By) (w : World) (hR : Sl w A n cap bs) : Calls Tryd.prog 7 #[.slice A n cap] w (DrawnXs w) := by
  go_enter Tryd.func7, Tryd.ntmps7
  go_wp2_with fail
  obtain ⟨c0, z0, L0⟩ := box1 w (.slice none 0 0) 25
  have f0 : (w.alloc (.cells #[.slice none 0 0] 25)).frozen? ⟨w.heap.size, 0, none⟩ = false := World.frozen?_alloc_at _ _ _ _ rfl
  have S0 := hR.le L0
  generalize w.alloc (.cells #[.slice none 0 0] 25) = W at *
  refine (newReader_any A n cap bs W S0).mono ?_
  rintro e w1 ⟨g, A1, n1, k1, bs1, rfl, hg, R1, hle⟩
  have hz1 : w.heap.size < w1.heap.size := Nat.lt_of_lt_of_le z0 hle.size
  replace c0 := (hle.cell z0).trans c0
  replace f0 := (hle.frozen z0).trans f0
  replace L0 := L0.trans hle
  clear S0
  have hgz : w.heap.size ≠ g := by omega
  go_wp2_with fail
  refine (someExits_any g 0 A1 n1 k1 bs1 w1 (by omega) R1).mono ?_
  rintro e w2 ⟨B, D, m, c, q, d, xs, L, p2, rfl, S2, hm, hab, SD, hq, hD, hp2, R2, hg2⟩
  replace c0 := (hg2.cell hz1 hgz).trans c0
  replace f0 := (hg2.frozen hz1 hgz).trans f0
  have L2 := Gx.le L0 hg2 (by omega)
  have hend : ∀ u, (w2.setCell ⟨w.heap.size, 0, none⟩ u).cell? ⟨w.heap.size, 0, none⟩ = some u := fun u => cell_set_same c0
  have hSx : ∀ u, Sl (w2.setCell ⟨w.heap.size, 0, none⟩ u) B m c xs := fun u => S2.setNoneX c0 (fun x h => by simp [Enc.cells] at h)
  have hSy : ∀ u, Sl (w2.setCell ⟨w.heap.size, 0, none⟩ u) D q d L := fun u => SD.setNoneX c0 (fun x h => by simp [Enc.cells] at h)
  clear hle L0 R1 R2 hg2 S2 SD
  go_wp2
  exact bodyPost_ret (v := .tuple #[.agg #[.slice B m c], .slice D q d]) (by simp [results, Tryd.results7, go_sem, hend]) rfl ⟨B, D, m, c, q, d, xs, L, rfl, hSx _, hm, hSy _, hq, L2.setCell (Nat.le_refl _) _⟩
end

section
end

section
theorem okFrom_mk {all : List Cls} (hl : 1 ≤ all.length ∧ all.length ≤ 8) (hb : ∀ i (h : i < all.length), badCls all i all[i] = false) : ∀ (m k : Nat), k + m = all.length → okFrom all k (all.drop k) = true := by
  intro m
  induction m with
  | zero => intro k hk; rw [okFrom_end (by omega)]; simp; omega
  | succ m ih => intro k hk; rw [okFrom_at (by omega), hb k (by omega), ih (k + 1) (by omega)]; rfl
theorem okTree_take {xs : List Cls} (h : okTree xs = true) {k : Nat} (h1 : 1 ≤ k) (h2 : k ≤ xs.length) : okTree (xs.take k) = true := by
  obtain ⟨hl, hb⟩ := okFrom_mem (all := xs) xs.length 0 (by omega) (by simpa [okTree] using h)
  have hlen : (xs.take k).length = k := by rw [List.length_take]; omega
  have := okFrom_mk (all := xs.take k) (by omega) (fun i hi => by
    have hi' : i < k := by omega
    have e : (xs.take k)[i] = xs[i]'(by omega) := List.getElem_take
    have e2 : (xs.take k).take i = xs.take i := by rw [List.take_take]; congr 1; omega
    have hbi := hb i (by omega) (Nat.zero_le _)
    unfold badCls at hbi ⊢
    rw [e, e2]; exact hbi) (xs.take k).length 0 (by omega)
  simpa [okTree] using this

def DrawnTree (w : World) (e : Ending) (w' : World) : Prop := ∃ (B : Option Addr) (m c : Nat) (xs : List Cls), e = .returned (.agg #[.slice B m c]) ∧ Sl w' B m c xs ∧ m ≤ 8 ∧ Le w w'
end

section
theorem findN_spec (s : ByteArray) : ∀ (L : List Cls) (j : Int), (findN L s j = -1 ∧ ∀ i (h : i < L.length), L[i].name ≠ s) ∨ ∃ i, ∃ h : i < L.length, findN L s j = j + i ∧ L[i].name = s ∧ ∀ k (hk : k < i), (L[k]'(by omega)).name ≠ s
  | [], j => .inl ⟨rfl, fun i h => absurd h (by simp)⟩
  | c :: r, j => by
    unfold findN
    by_cases h : c.name = s
    · rw [if_pos h]
      exact .inr ⟨0, by simp, by simp, h, fun k hk => absurd hk (by omega)⟩
    · rw [if_neg h]
      rcases findN_spec s r (j + 1) with ⟨h1, h2⟩ | ⟨i, hi, h1, h2, h3⟩
      · refine .inl ⟨h1, fun i hi => ?_⟩
        cases i with
        | zero => exact h
        | succ i => exact h2 i (by simpa using hi)
      · refine .inr ⟨i + 1, by simpa using hi, by rw [h1]; omega, h2, fun k hk => ?_⟩
        cases k with
        | zero => exact h
        | succ k => exact h3 k (by omega)
theorem names_ne {xs : List Cls} (g : Good xs) {i k : Nat} (hik : i < k) (hk : k < xs.length) : (xs[i]'(by omega)).name ≠ xs[k].name := by
  have h := g.diff k hk
  rcases findN_spec xs[k].name (xs.take k) 0 with ⟨_, h2⟩ | ⟨j, hj, h1, _, _⟩
  · have := h2 i (by rw [List.length_take]; omega)
    rwa [List.getElem_take] at this
  · omega
theorem findN_here {xs : List Cls} (g : Good xs) {k : Nat} (hk : k < xs.length) : findN xs xs[k].name 0 = k := by
  rcases findN_spec xs[k].name xs 0 with ⟨_, h2⟩ | ⟨j, hj, h1, h2, h3⟩
  · exact absurd rfl (h2 k hk)
  · rcases Nat.lt_trichotomy j k with h | h | h
    · exact absurd h2 (names_ne g h hk)
    · omega
    · exact absurd rfl (h3 k h)
theorem findN_hit {xs : List Cls} {s : ByteArray} (h : 0 ≤ findN xs s 0) : ∃ i, ∃ hi : i < xs.length, findN xs s 0 = i ∧ xs[i].name = s := by
  rcases findN_spec s xs 0 with ⟨h1, _⟩ | ⟨j, hj, h1, h2, _⟩
  · omega
  · exact ⟨j, hj, by omega, h2⟩
end
end Go.Proofs.YtnpcmlcigeccmaaDoor
