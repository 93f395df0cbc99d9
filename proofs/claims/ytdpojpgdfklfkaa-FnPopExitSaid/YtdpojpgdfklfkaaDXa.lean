/- draws of exits: anExit, goodExits, someExits, and of the laws FnValidExits, FnPopExit -/
import Derived.Test.YtdpojpgdfklfkaaT
import Derived.Test.YtdpojpgdfklfkaaRZ
import Derived.Test.YtdpojpgdfklfkaaAP
import Derived.Test.YtdpojpgdfklfkaaPxA
namespace Go.Proofs.Ytdpojpgdfklfkaa
open Go.RowKit
instance instOneXitD : EncOne Xit := ⟨by decide, fun x u hu => by simp [Enc.cells] at hu; rcases hu with rfl | rfl | rfl <;> rfl⟩
theorem infoXt : (Try.prog.info? 32).map (fun i => (i.zero, i.size, i.bytes)) = some (some (.agg #[.int .i64 0, .int .i64 0, .int .i64 0]), 3, 24) := by kernel_rfl
/-- an exit that is being drawn: the tree's box, the result's box, its own box -/
structure Xs (w wr : World) (g p : Nat) (A : Option Addr) (n cap : Nat) (bs : List By) (B : Option Addr) (m c xb : Nat) (x : Xit) : Prop where
  R : Rd wr g p A n cap bs
  G : Gx g w wr
  gw : g < w.heap.size
  ct : wr.cell? ⟨w.heap.size, 0, none⟩ = some (.slice B m c)
  r0 : wr.cell? ⟨w.heap.size + 1, 0, none⟩ = some (.int .i64 0)
  r1 : wr.cell? ⟨w.heap.size + 1, 1, none⟩ = some (.int .i64 0)
  r2 : wr.cell? ⟨w.heap.size + 1, 2, none⟩ = some (.int .i64 0)
  f0 : wr.frozen? ⟨w.heap.size + 1, 0, none⟩ = false
  f1 : wr.frozen? ⟨w.heap.size + 1, 1, none⟩ = false
  f2 : wr.frozen? ⟨w.heap.size + 1, 2, none⟩ = false
  x0 : wr.cell? ⟨xb, 0, none⟩ = some (.int .i64 x.kind)
  x1 : wr.cell? ⟨xb, 1, none⟩ = some (.int .i64 x.a)
  x2 : wr.cell? ⟨xb, 2, none⟩ = some (.int .i64 x.b)
  q0 : wr.frozen? ⟨xb, 0, none⟩ = false
  q1 : wr.frozen? ⟨xb, 1, none⟩ = false
  q2 : wr.frozen? ⟨xb, 2, none⟩ = false
  zb : w.heap.size + 1 < xb
  zx : xb < wr.heap.size
section
variable {w wr w2 : World} {g p p2 : Nat} {A : Option Addr} {n cap : Nat} {bs : List By} {B : Option Addr} {m c xb : Nat} {x : Xit}
theorem Xs.call (h : Xs w wr g p A n cap bs B m c xb x) (R2 : Rd w2 g p2 A n cap bs) (hg : Gx g wr w2) : Xs w w2 g p2 A n cap bs B m c xb x := by
  have h1 := h.gw
  have h2 := h.zb
  have h3 := h.zx
  exact ⟨R2, h.G.trans hg, h.gw, (hg.cell (by omega) (by omega)).trans h.ct, (hg.cell (by omega) (by omega)).trans h.r0, (hg.cell (by omega) (by omega)).trans h.r1, (hg.cell (by omega) (by omega)).trans h.r2,
    (hg.frozen (by omega) (by omega)).trans h.f0, (hg.frozen (by omega) (by omega)).trans h.f1, (hg.frozen (by omega) (by omega)).trans h.f2,
    (hg.cell (by omega) (by omega)).trans h.x0, (hg.cell (by omega) (by omega)).trans h.x1, (hg.cell (by omega) (by omega)).trans h.x2,
    (hg.frozen (by omega) (by omega)).trans h.q0, (hg.frozen (by omega) (by omega)).trans h.q1, (hg.frozen (by omega) (by omega)).trans h.q2, h.zb, Nat.lt_of_lt_of_le h.zx hg.size⟩
theorem Xs.set (h : Xs w wr g p A n cap bs B m c xb x) (hA : 0 < n → ∀ a, A = some a → a.block < w.heap.size) (o : Nat) (u : Int) (y : Xit)
    (h0 : (wr.setCell ⟨xb, o, none⟩ (.int .i64 u)).cell? ⟨xb, 0, none⟩ = some (.int .i64 y.kind)) (h1 : (wr.setCell ⟨xb, o, none⟩ (.int .i64 u)).cell? ⟨xb, 1, none⟩ = some (.int .i64 y.a)) (h2 : (wr.setCell ⟨xb, o, none⟩ (.int .i64 u)).cell? ⟨xb, 2, none⟩ = some (.int .i64 y.b)) : Xs w (wr.setCell ⟨xb, o, none⟩ (.int .i64 u)) g p A n cap bs B m c xb y := by
  have e1 := h.gw
  have e2 := h.zb
  have e3 := h.zx
  have GS := Gx.set xb o wr (.int .i64 u)
  have hs : (wr.setCell ⟨xb, o, none⟩ (.int .i64 u)).heap.size = wr.heap.size := by simp [World.setCell]
  have hf : ∀ k, (wr.setCell ⟨xb, o, none⟩ (.int .i64 u)).frozen? ⟨xb, k, none⟩ = wr.frozen? ⟨xb, k, none⟩ := fun k => by first | exact World.frozen?_setCell .. | simp [World.frozen?, World.setCell]
  exact ⟨h.R.setNew _ (by omega) (fun hn a e => by have := hA hn a e; omega), h.G.setNewF (by omega) _, h.gw, (cell_set_other (.inl (by omega))).trans h.ct, (cell_set_other (.inl (by omega))).trans h.r0, (cell_set_other (.inl (by omega))).trans h.r1, (cell_set_other (.inl (by omega))).trans h.r2,
    (GS.frozen (by omega) (by omega)).trans h.f0, (GS.frozen (by omega) (by omega)).trans h.f1, (GS.frozen (by omega) (by omega)).trans h.f2, h0, h1, h2, (hf 0).trans h.q0, (hf 1).trans h.q1, (hf 2).trans h.q2, h.zb, by rw [hs]; exact h.zx⟩
theorem Xs.setA (h : Xs w wr g p A n cap bs B m c xb x) (hA : 0 < n → ∀ a, A = some a → a.block < w.heap.size) (u : Int) : Xs w (wr.setCell ⟨xb, 1, none⟩ (.int .i64 u)) g p A n cap bs B m c xb ⟨x.kind, u, x.b⟩ :=
  h.set hA 1 u _ ((cell_set_other (.inr (by decide))).trans h.x0) (cell_set_same h.x1) ((cell_set_other (.inr (by decide))).trans h.x2)
theorem Xs.setB (h : Xs w wr g p A n cap bs B m c xb x) (hA : 0 < n → ∀ a, A = some a → a.block < w.heap.size) (u : Int) : Xs w (wr.setCell ⟨xb, 2, none⟩ (.int .i64 u)) g p A n cap bs B m c xb ⟨x.kind, x.a, u⟩ :=
  h.set hA 2 u _ ((cell_set_other (.inr (by decide))).trans h.x0) ((cell_set_other (.inr (by decide))).trans h.x1) (cell_set_same h.x2)
theorem xit_ok {k a b : Int} (h : -9999 ≤ k ∧ k ≤ 9999 ∧ -9999 ≤ a ∧ a ≤ 9999 ∧ -9999 ≤ b ∧ b ≤ 9999) : Enc.ok (⟨k, a, b⟩ : Xit) := by
  show _ ∧ _ ∧ _ ∧ _ ∧ _ ∧ _
  exact ⟨by show _ ≤ k; omega, by show k ≤ _; omega, by show _ ≤ a; omega, by show a ≤ _; omega, by show _ ≤ b; omega, by show b ≤ _; omega⟩
theorem set3x {w : World} {g : Nat} {k a b u v x : Value} (c0 : w.cell? ⟨g, 0, none⟩ = some u) (c1 : w.cell? ⟨g, 1, none⟩ = some v) (c2 : w.cell? ⟨g, 2, none⟩ = some x) :
    (((w.setCell ⟨g, 0, none⟩ k).setCell ⟨g, 1, none⟩ a).setCell ⟨g, 2, none⟩ b).cell? ⟨g, 0, none⟩ = some k ∧ (((w.setCell ⟨g, 0, none⟩ k).setCell ⟨g, 1, none⟩ a).setCell ⟨g, 2, none⟩ b).cell? ⟨g, 1, none⟩ = some a ∧ (((w.setCell ⟨g, 0, none⟩ k).setCell ⟨g, 1, none⟩ a).setCell ⟨g, 2, none⟩ b).cell? ⟨g, 2, none⟩ = some b := by
  refine ⟨?_, ?_, ?_⟩
  · rw [cell_set_other (.inr (by decide)), cell_set_other (.inr (by decide))]; exact cell_set_same c0
  · rw [cell_set_other (.inr (by decide))]; exact cell_set_same (by rw [cell_set_other (.inr (by decide))]; exact c1)
  · exact cell_set_same (by rw [cell_set_other (.inr (by decide)), cell_set_other (.inr (by decide))]; exact c2)
def XitOut (g p : Nat) (A : Option Addr) (n cap : Nat) (bs : List By) (w : World) (e : Ending) (w' : World) : Prop :=
  ∃ (x : Xit) (p' : Nat), e = .returned (.agg #[.int .i64 x.kind, .int .i64 x.a, .int .i64 x.b]) ∧ Enc.ok x ∧ p' ≤ p + 3 ∧ Rd w' g p' A n cap bs ∧ Gx g w w'
theorem Xs.out (h : Xs w wr g p A n cap bs B m c xb x) (hA : 0 < n → ∀ a, A = some a → a.block < w.heap.size) {p0 : Nat} (hp : p ≤ p0 + 3) (hx : Enc.ok x) (k a b : Value) :
    XitOut g p0 A n cap bs w (.returned (.agg #[.int .i64 x.kind, .int .i64 x.a, .int .i64 x.b])) (((wr.setCell ⟨w.heap.size + 1, 0, none⟩ k).setCell ⟨w.heap.size + 1, 1, none⟩ a).setCell ⟨w.heap.size + 1, 2, none⟩ b) := by
  have e1 := h.gw
  have hA2 : 0 < n → ∀ a, A = some a → a.block ≠ w.heap.size + 1 := fun hn a e => by have := hA hn a e; omega
  exact ⟨x, p, rfl, hx, hp, ((h.R.setNew _ (by omega) hA2).setNew _ (by omega) hA2).setNew _ (by omega) hA2, ((h.G.setNewF (by omega) _).setNewF (by omega) _).setNewF (by omega) _⟩
end
set_option maxHeartbeats 2000000 in
set_option maxRecDepth 100000 in
theorem anExit_any (B : Option Addr) (m c g p : Nat) (A : Option Addr) (n cap : Nat) (bs : List By) (w : World) (hm : m ≤ 8) (hp : p ≤ 900000) (hR : Rd w g p A n cap bs) :
    Calls Try.prog 23 #[.pointer (some ⟨g, 0, none⟩), .agg #[.slice B m c]] w (XitOut g p A n cap bs w) := by
  have hgw := hR.lt
  have HA : Hid (0 < n → ∀ a, A = some a → a.block < w.heap.size) := fun hn a e => hR.sl.under hn a e
  go_enter Try.func23, Try.ntmps23
  go_wp2_with fail
  obtain ⟨ct, zt, r0, r1, r2, zr, L0⟩ := boxTX w (.slice B m c) (.int .i64 0) (.int .i64 0) (.int .i64 0) 25 32
  have hf : ∀ o, o < 3 → ((w.alloc (.cells #[.slice B m c] 25)).alloc (.cells #[.int .i64 0, .int .i64 0, .int .i64 0] 32)).frozen? ⟨w.heap.size + 1, o, none⟩ = false := fun o _ => World.frozen?_alloc_at _ _ _ _ (by simp)
  have f0 := hf 0 (by decide)
  have f1 := hf 1 (by decide)
  have f2 := hf 2 (by decide)
  have R0 := hR.le L0
  have G0 := Gx.of_le (g := g) L0
  generalize (w.alloc (.cells #[.slice B m c] 25)).alloc (.cells #[.int .i64 0, .int .i64 0, .int .i64 0] 32) = W at *
  refine (pick_any 4 g p A n cap bs W (by omega) (by omega) (by omega) R0).mono ?_
  rintro e w1 ⟨v, rfl, hv0, hv1, R1, hg1⟩
  have hv4 : v < 4 := by rcases hv1 with h | h <;> omega
  obtain ⟨y0, y1, y2, zy, LX⟩ := boxT w1 (.int .i64 v) (.int .i64 0) (.int .i64 0) 32
  have hq : ∀ o, (w1.alloc (.cells #[.int .i64 v, .int .i64 0, .int .i64 0] 32)).frozen? ⟨w1.heap.size, o, none⟩ = false := fun o => World.frozen?_alloc_at _ _ _ _ rfl
  have hs1 := hg1.size
  have X1 : Xs w (w1.alloc (.cells #[.int .i64 v, .int .i64 0, .int .i64 0] 32)) g (p + 1) A n cap bs B m c w1.heap.size ⟨v, 0, 0⟩ :=
    ⟨R1.le LX, (G0.trans hg1).trans (Gx.of_le LX), hgw, (LX.cell (by omega)).trans ((hg1.cell zt (by omega)).trans ct), (LX.cell (by omega)).trans ((hg1.cell zr (by omega)).trans r0), (LX.cell (by omega)).trans ((hg1.cell zr (by omega)).trans r1), (LX.cell (by omega)).trans ((hg1.cell zr (by omega)).trans r2),
      (LX.frozen (by omega)).trans ((hg1.frozen zr (by omega)).trans f0), (LX.frozen (by omega)).trans ((hg1.frozen zr (by omega)).trans f1), (LX.frozen (by omega)).trans ((hg1.frozen zr (by omega)).trans f2), y0, y1, y2, hq 0, hq 1, hq 2, by omega, zy⟩
  clear ct r0 r1 r2 f0 f1 f2 hf y0 y1 y2 zy LX hq R0 R1 hg1 G0 L0 hv1 zt zr hs1
  have x0 := X1.x0
  have ct := X1.ct
  by_cases h2 : (2 : Int) ≤ v
  · have h2b : decide ((2 : Int) ≤ v) = true := decide_eq_true h2
    go_wp2_with fail
    generalize hWX : w1.alloc (.cells #[.int .i64 v, .int .i64 0, .int .i64 0] 32) = WX at *
    generalize w1.heap.size = xb at *
    clear hWX
    refine (pick_any (m : Int) g (p + 1) A n cap bs WX (by omega) (by omega) (by omega) X1.R).mono ?_
    rintro e w2 ⟨u, rfl, hu0, hu1, R2, hg2⟩
    have hu8 : 0 ≤ u ∧ u ≤ 8 := by rcases hu1 with h | h <;> omega
    have X2 := X1.call R2 hg2
    have X3 : Xs w (w2.setCell ⟨xb, 1, none⟩ (.int .i64 u)) g (p + 1 + 1) A n cap bs B m c xb ⟨v, u, 0⟩ := X2.setA HA.out u
    have y1 : w2.cell? ⟨xb, 1, none⟩ = some (.int .i64 0) := X2.x1
    have qq1 := X2.q1
    have x0' : (w2.setCell ⟨xb, 1, none⟩ (.int .i64 u)).cell? ⟨xb, 0, none⟩ = some (.int .i64 v) := X3.x0
    clear X1 R2 hg2 x0 ct hu1 X2
    by_cases h3 : v = 3
    · subst h3
      go_wp2_with fail
      have hzz : w2.heap.size = (w2.setCell ⟨xb, 1, none⟩ (.int .i64 u)).heap.size := by first | simp [World.setCell] | rfl
      generalize w2.setCell ⟨xb, 1, none⟩ (.int .i64 u) = W3 at *
      refine (one_lit [1, 2, 3] 3 _ _ g (p + 1 + 1) A n cap bs W3 _ rfl rfl (by decide) (by decide) (by intro x hx; simp at hx; constructor <;> omega) (by omega) hzz X3.R).mono ?_
      rintro e w4 ⟨t, rfl, ht, R4, hg4⟩
      have ht3 : 1 ≤ t ∧ t ≤ 3 := by simp at ht; omega
      have X4 := X3.call R4 hg4
      have XX : Xs w (w4.setCell ⟨xb, 2, none⟩ (.int .i64 t)) g (p + 1 + 1 + 1) A n cap bs B m c xb ⟨3, u, t⟩ := X4.setB HA.out t
      have y2 : w4.cell? ⟨xb, 2, none⟩ = some (.int .i64 0) := X4.x2
      have qq2 := X4.q2
      clear X3 R4 hg4 ht x0' X4
      have HF := Lib.hid (XX.out HA.out (p0 := p) (by omega) (xit_ok (by omega)) (.int .i64 3) (.int .i64 u) (.int .i64 t))
      have x0 : (w4.setCell ⟨xb, 2, none⟩ (.int .i64 t)).cell? ⟨xb, 0, none⟩ = some (.int .i64 3) := XX.x0
      have x1 : (w4.setCell ⟨xb, 2, none⟩ (.int .i64 t)).cell? ⟨xb, 1, none⟩ = some (.int .i64 u) := XX.x1
      have x2 : (w4.setCell ⟨xb, 2, none⟩ (.int .i64 t)).cell? ⟨xb, 2, none⟩ = some (.int .i64 t) := XX.x2
      have r0 := XX.r0
      have r1 := XX.r1
      have r2 := XX.r2
      have f0 := XX.f0
      have f1 := XX.f1
      have f2 := XX.f2
      have hne := XX.zb
      have hend := fun k a b => set3x (k := k) (a := a) (b := b) r0 r1 r2
      clear XX
      go_wp2
      exact bodyPost_ret (v := .agg #[.int .i64 3, .int .i64 u, .int .i64 t]) (by simp [results, Try.results23, go_sem, hend]) rfl HF.out
    · have h3b : (v == 3) = false := by simpa using h3
      have XX := X3
      clear X3 h3
      have HF := Lib.hid (XX.out HA.out (p0 := p) (by omega) (xit_ok (by omega)) (.int .i64 v) (.int .i64 u) (.int .i64 0))
      have x0 : (w2.setCell ⟨xb, 1, none⟩ (.int .i64 u)).cell? ⟨xb, 0, none⟩ = some (.int .i64 v) := XX.x0
      have x1 : (w2.setCell ⟨xb, 1, none⟩ (.int .i64 u)).cell? ⟨xb, 1, none⟩ = some (.int .i64 u) := XX.x1
      have x2 : (w2.setCell ⟨xb, 1, none⟩ (.int .i64 u)).cell? ⟨xb, 2, none⟩ = some (.int .i64 0) := XX.x2
      have r0 := XX.r0
      have r1 := XX.r1
      have r2 := XX.r2
      have f0 := XX.f0
      have f1 := XX.f1
      have f2 := XX.f2
      have hne := XX.zb
      have hend := fun k a b => set3x (k := k) (a := a) (b := b) r0 r1 r2
      clear XX
      go_wp2
      exact bodyPost_ret (v := .agg #[.int .i64 v, .int .i64 u, .int .i64 0]) (by simp [results, Try.results23, go_sem, hend]) rfl HF.out
  · have h2b : decide ((2 : Int) ≤ v) = false := decide_eq_false h2
    have h3b : (v == 3) = false := by simp; omega
    go_wp2_with fail
    have hzz : w1.heap.size + 1 = (w1.alloc (.cells #[.int .i64 v, .int .i64 0, .int .i64 0] 32)).heap.size := by simp
    generalize hWX : w1.alloc (.cells #[.int .i64 v, .int .i64 0, .int .i64 0] 32) = WX at *
    generalize w1.heap.size = xb at *
    clear hWX
    refine (one_lit [1, 2, 3, 0, 99] 5 _ _ g (p + 1) A n cap bs WX _ rfl rfl (by decide) (by decide) (by intro x hx; simp at hx; constructor <;> omega) (by omega) hzz X1.R).mono ?_
    rintro e w2 ⟨u, rfl, hu, R2, hg2⟩
    have hu8 : 0 ≤ u ∧ u ≤ 99 := by simp at hu; omega
    have X2 := X1.call R2 hg2
    have XX : Xs w (w2.setCell ⟨xb, 1, none⟩ (.int .i64 u)) g (p + 1 + 1) A n cap bs B m c xb ⟨v, u, 0⟩ := X2.setA HA.out u
    have y1 : w2.cell? ⟨xb, 1, none⟩ = some (.int .i64 0) := X2.x1
    have qq1 := X2.q1
    clear X1 R2 hg2 x0 ct hu X2
    have HF := Lib.hid (XX.out HA.out (p0 := p) (by omega) (xit_ok (by omega)) (.int .i64 v) (.int .i64 u) (.int .i64 0))
    have x0 : (w2.setCell ⟨xb, 1, none⟩ (.int .i64 u)).cell? ⟨xb, 0, none⟩ = some (.int .i64 v) := XX.x0
    have x1 : (w2.setCell ⟨xb, 1, none⟩ (.int .i64 u)).cell? ⟨xb, 1, none⟩ = some (.int .i64 u) := XX.x1
    have x2 : (w2.setCell ⟨xb, 1, none⟩ (.int .i64 u)).cell? ⟨xb, 2, none⟩ = some (.int .i64 0) := XX.x2
    have r0 := XX.r0
    have r1 := XX.r1
    have r2 := XX.r2
    have f0 := XX.f0
    have f1 := XX.f1
    have f2 := XX.f2
    have hne := XX.zb
    have hend := fun k a b => set3x (k := k) (a := a) (b := b) r0 r1 r2
    clear XX
    go_wp2
    exact bodyPost_ret (v := .agg #[.int .i64 v, .int .i64 u, .int .i64 0]) (by simp [results, Try.results23, go_sem, hend]) rfl HF.out
end Go.Proofs.Ytdpojpgdfklfkaa
