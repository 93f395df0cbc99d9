import Derived.Test.YtjkadmbcnlelhaaRows
import Derived.Test.YtjkadmbcnlelhaaL
import Derived.Deep.RegionWith
namespace Go.Proofs.Ytjkadmbcnlelhaa
open Go.RowKit

/-- all but block g is as it was; there may be more -/
def Gx (g : Nat) (w w' : World) : Prop := w.grownBy w' (some g)
theorem Gx.refl (g : Nat) (w : World) : Gx g w w := ⟨rfl, rfl, rfl, Nat.le_refl _, fun _ _ _ => rfl⟩
theorem Gx.trans {g : Nat} {a b c : World} (h : Gx g a b) (k : Gx g b c) : Gx g a c :=
  ⟨k.os.trans h.os, k.tape.trans h.tape, k.output.trans h.output, Nat.le_trans h.size k.size, fun i hi hne => (k.block i (Nat.lt_of_lt_of_le hi h.size) hne).trans (h.block i hi hne)⟩
theorem Gx.of_le {g : Nat} {a b : World} (h : Le a b) : Gx g a b := ⟨h.os, h.tape, h.output, h.size, fun i hi _ => Below.block h i hi⟩
theorem Gx.cell {g : Nat} {a b : World} (h : Gx g a b) {k o : Nat} (hk : k < a.heap.size) (hne : k ≠ g) : b.cell? ⟨k, o, none⟩ = a.cell? ⟨k, o, none⟩ :=
  World.cell?_of_block (h.block k hk (fun e => hne (by injection e)))
theorem Gx.frozen {g : Nat} {a b : World} (h : Gx g a b) {k o : Nat} (hk : k < a.heap.size) (hne : k ≠ g) : b.frozen? ⟨k, o, none⟩ = a.frozen? ⟨k, o, none⟩ :=
  World.frozen?_of_block (h.block k hk (fun e => hne (by injection e)))
theorem Gx.set (g o : Nat) (w : World) (u : Value) : Gx g w (w.setCell ⟨g, o, none⟩ u) := grown_set w g o u
/-- a new block's world is above what was before the block came -/
theorem Gx.le {g : Nat} {a b c : World} (h : Le a b) (k : Gx g b c) (hg : a.heap.size ≤ g) : Le a c :=
  ⟨k.os.trans h.os, k.tape.trans h.tape, k.output.trans h.output, Nat.le_trans h.size k.size, fun i hi => (k.block i (Nat.lt_of_lt_of_le hi h.size) (fun e => by injection e with e; omega)).trans (Below.block h i hi)⟩

/-- a byte -/
structure By where
  b : UInt8
instance instEncBy : Enc By := ⟨1, fun x => [.int .u8 x.b.toNat], fun _ => True, fun _ => rfl⟩
theorem Sl.by_at {w : World} {A : Option Addr} {n cap : Nat} {xs : List By} (h : Sl w A n cap xs) {k : Nat} (hk : k < xs.length) :
    ∃ b off, A = some ⟨b, off, none⟩ ∧ b < w.heap.size ∧ w.cell? ⟨b, off + k, none⟩ = some (.int .u8 xs[k].b.toNat) ∧ (0 : Int) ≤ xs[k].b.toNat ∧ (xs[k].b.toNat : Int) ≤ 255 := by
  obtain ⟨b, off, e, hb, hc⟩ := h.cells_ hk
  have := hc 0 (by decide) _ rfl
  have h2 := UInt8.toNat_lt xs[k].b
  exact ⟨b, off, e, hb, by simpa [Enc.size] using this, by omega, by omega⟩

theorem Sl.by_v {w : World} {A : Option Addr} {n cap : Nat} {xs : List By} (h : Sl w A n cap xs) {k : Nat} (hk : k < n) :
    ∃ b off, ∃ v : Int, A = some ⟨b, off, none⟩ ∧ b < w.heap.size ∧ w.cell? ⟨b, off + k, none⟩ = some (.int .u8 v) ∧ 0 ≤ v ∧ v ≤ 255 := by
  obtain ⟨b, off, e, hb, hc, h1, h2⟩ := h.by_at (k := k) (by rw [h.len]; exact hk)
  exact ⟨b, off, _, e, hb, hc, h1, h2⟩
/-- the slice's memory is not block g -/
def Off (g : Nat) (A : Option Addr) : Prop := ∀ a, A = some a → a.block ≠ g
theorem Sl.gx {α : Type} [Enc α] {g : Nat} {w w' : World} {A : Option Addr} {n cap : Nat} {xs : List α} (h : Sl w A n cap xs) (ho : 0 < n → Off g A) (hg : Gx g w w') : Sl w' A n cap xs :=
  ⟨h.len, h.cap_, h.max, h.ok, fun hn => by
    obtain ⟨b, off, e, hlt, hc⟩ := h.at_ hn
    exact ⟨b, off, e, Nat.lt_of_lt_of_le hlt hg.size, fun j u hu => (hg.cell hlt (ho hn _ e)).trans (hc j u hu)⟩⟩

/-- the reader r lies in block g and has given p numbers -/
structure Rd (w : World) (g p : Nat) (A : Option Addr) (n cap : Nat) (bs : List By) : Prop where
  row : w.heap[g]? = some (.cells #[.slice A n cap, .int .i64 p] 71 (0, 0))
  sl : Sl w A n cap bs
  off : 0 < n → Off g A
  few : n ≤ 2000
theorem Rd.lt {w : World} {g p : Nat} {A : Option Addr} {n cap : Nat} {bs : List By} (h : Rd w g p A n cap bs) : g < w.heap.size := by
  rcases Nat.lt_or_ge g w.heap.size with hlt | hge
  · exact hlt
  · have := h.row; rw [Array.getElem?_eq_none hge] at this; cases this
theorem Rd.c0 {w : World} {g p : Nat} {A : Option Addr} {n cap : Nat} {bs : List By} (h : Rd w g p A n cap bs) : w.cell? ⟨g, 0, none⟩ = some (.slice A n cap) := (cell_of_row w _ 0 _ _ _ h.row).trans rfl
theorem Rd.c1 {w : World} {g p : Nat} {A : Option Addr} {n cap : Nat} {bs : List By} (h : Rd w g p A n cap bs) : w.cell? ⟨g, 1, none⟩ = some (.int .i64 p) := (cell_of_row w _ 1 _ _ _ h.row).trans rfl
theorem Rd.fz {w : World} {g p : Nat} {A : Option Addr} {n cap : Nat} {bs : List By} (h : Rd w g p A n cap bs) (o : Nat) : w.frozen? ⟨g, o, none⟩ = false := frozen_of_row w g o _ _ h.row
theorem Rd.le {w w' : World} {g p : Nat} {A : Option Addr} {n cap : Nat} {bs : List By} (h : Rd w g p A n cap bs) (hl : Le w w') : Rd w' g p A n cap bs :=
  ⟨(Below.block hl g h.lt).trans h.row, h.sl.le hl, h.off, h.few⟩
theorem Rd.step {w : World} {g p : Nat} {A : Option Addr} {n cap : Nat} {bs : List By} (h : Rd w g p A n cap bs) (q : Nat) : Rd (w.setCell ⟨g, 1, none⟩ (.int .i64 q)) g q A n cap bs :=
  ⟨heap_setCell_same w g 1 _ _ _ h.row, h.sl.gx h.off (Gx.set g 1 w _), h.off, h.few⟩

theorem w64 {x : Int} (h0 : -9223372036854775808 ≤ x) (h1 : x ≤ 9223372036854775807) : wrap64 x = x := by
  rw [← IntWalk.i64_left]; exact IntWalk.i64_in _ ⟨h0, h1⟩
theorem xor_i64 (a b : Nat) (ha : a < 4611686018427387904) (hb : b < 4611686018427387904) : bits BinOp.xor IntKind.i64 (a : Int) (b : Int) = ((a ^^^ b : Nat) : Int) := by
  have hx : a ^^^ b < 2 ^ 62 := Nat.xor_lt_two_pow (by omega) (by omega)
  have h1 : (BitVec.ofInt 64 (a : Int)).toNat = a := by
    rw [BitVec.ofInt_natCast, BitVec.toNat_ofNat]; exact Nat.mod_eq_of_lt (by omega)
  have h2 : (BitVec.ofInt 64 (b : Int)).toNat = b := by
    rw [BitVec.ofInt_natCast, BitVec.toNat_ofNat]; exact Nat.mod_eq_of_lt (by omega)
  show IntKind.i64.wrap ((BitVec.ofInt 64 (a : Int) ^^^ BitVec.ofInt 64 (b : Int)).toNat : Int) = _
  rw [BitVec.toNat_xor, h1, h2]
  exact IntWalk.i64_in _ ⟨by omega, by omega⟩
theorem xor_mod (X m : Int) (h0 : 0 ≤ X) (h1 : X ≤ 1000000000000) (hm : 1 ≤ m) : 0 ≤ (bits BinOp.xor IntKind.i64 X (wrap64 (X.tdiv 64))).tmod m ∧ (bits BinOp.xor IntKind.i64 X (wrap64 (X.tdiv 64))).tmod m < m := by
  have hd : X.tdiv 64 = X / 64 := Int.tdiv_eq_ediv_of_nonneg h0
  rw [hd, w64 (by omega) (by omega)]
  obtain ⟨a, rfl⟩ := Int.eq_ofNat_of_zero_le h0
  have e : ((a : Int) / 64) = ((a / 64 : Nat) : Int) := by omega
  rw [e, xor_i64 _ _ (by omega) (by omega), Int.tmod_eq_emod_of_nonneg (by omega)]
  exact ⟨Int.emod_nonneg _ (by omega), Int.emod_lt_of_pos _ (by omega)⟩
theorem pick_num (v1 v2 : Int) (p n : Nat) (a1 : 0 ≤ v1) (a2 : v1 ≤ 255) (b1 : 0 ≤ v2) (b2 : v2 ≤ 255) (hp : p ≤ 1000000) (hn : 0 < n) :
    0 ≤ wrap64 (v1 * 131 + v2 * 1117 + (p : Int) * 29 + wrap64 (wrap64 ((p : Int) / (n : Int)) * 53)) ∧ wrap64 (v1 * 131 + v2 * 1117 + (p : Int) * 29 + wrap64 (wrap64 ((p : Int) / (n : Int)) * 53)) ≤ 1000000000000 := by
  have hq0 : 0 ≤ (p : Int) / (n : Int) := Int.ediv_nonneg (by omega) (by omega)
  have hq1 : (p : Int) / (n : Int) ≤ p := Int.ediv_le_self _ (by omega)
  generalize (p : Int) / (n : Int) = q at *
  rw [w64 (x := q) (by omega) (by omega), w64 (x := q * 53) (by omega) (by omega), w64 (by omega) (by omega)]
  omega

def PickOut (m : Int) (g p : Nat) (A : Option Addr) (n cap : Nat) (bs : List By) (w : World) (e : Ending) (w' : World) : Prop :=
  ∃ v : Int, e = .returned (.int .i64 v) ∧ 0 ≤ v ∧ (v < m ∨ v = 0) ∧ Rd w' g (p + 1) A n cap bs ∧ Gx g w w'

theorem pick_any (m : Int) (g p : Nat) (A : Option Addr) (n cap : Nat) (bs : List By) (w : World) (hm : m ≤ 1000000) (hm0 : -1000000 ≤ m) (hp : p ≤ 1000000) (hR : Rd w g p A n cap bs) :
    Calls Try.prog 30 #[.pointer (some ⟨g, 0, none⟩), .int .i64 m] w (PickOut m g p A n cap bs w) := by
  have c0 := hR.c0
  have c1 := hR.c1
  have f1 := hR.fz 1
  have hst := hR.step (p + 1)
  have hgx := Gx.set g 1 w (.int .i64 ((p + 1 : Nat) : Int))
  have hfew := hR.few
  have hca : (((p + 1 : Nat) : Int)) = (p : Int) + 1 := by omega
  rw [hca] at hst hgx
  have HST := Lib.hid hst; clear hst
  clear hca
  by_cases h1 : m < 1
  · go_enter Try.func30, Try.ntmps30
    go_wp2
    go_ret
    exact ⟨0, rfl, by omega, .inr rfl, HST.out, hgx⟩
  · by_cases h2 : n = 0
    · subst h2
      go_enter Try.func30, Try.ntmps30
      go_wp2
      go_ret
      exact ⟨0, rfl, by omega, .inr rfl, HST.out, hgx⟩
    · have hn0 : ((n : Int) == 0) = false := by simp; omega
      by_cases h3 : p < n
      · obtain ⟨b, off, v, rfl, hb, hcell, hv1, hv2⟩ := hR.sl.by_v h3
        have hbg : b ≠ g := hR.off (by omega) _ rfl
        have hcell' : (w.setCell ⟨g, 1, none⟩ (.int .i64 ((p : Int) + 1))).cell? ⟨b, off + p, none⟩ = some (.int .u8 v) := (cell_set_other (.inl (Ne.symm hbg))).trans hcell
        have hmod := Int.emod_nonneg v (b := m) (by omega)
        have hmod2 := Int.emod_lt_of_pos v (b := m) (by omega)
        have HM := Lib.hid hmod; have HM2 := Lib.hid hmod2; clear hmod hmod2
        clear hcell
        go_enter Try.func30, Try.ntmps30
        go_wp2
        go_ret
        exact ⟨_, rfl, HM.out, .inl HM2.out, HST.out, hgx⟩
      · have hq0 := Nat.mod_lt p (y := n) (by omega)
        have hq1 := Nat.mod_lt (p * 7 + 3) (y := n) (by omega)
        obtain ⟨b, off, v1, rfl, hb, hcell, hv1, hv2⟩ := hR.sl.by_v hq0
        obtain ⟨b', off', v2, e, _, hcell2, hw1, hw2⟩ := hR.sl.by_v hq1
        injection e with e
        injection e with e1 e2
        subst e1; subst e2
        have hbg : b ≠ g := hR.off (by omega) _ rfl
        have hcell' : (w.setCell ⟨g, 1, none⟩ (.int .i64 ((p : Int) + 1))).cell? ⟨b, off + p % n, none⟩ = some (.int .u8 v1) := (cell_set_other (.inl (Ne.symm hbg))).trans hcell
        have hcell2' : (w.setCell ⟨g, 1, none⟩ (.int .i64 ((p : Int) + 1))).cell? ⟨b, off + (p * 7 + 3) % n, none⟩ = some (.int .u8 v2) := (cell_set_other (.inl (Ne.symm hbg))).trans hcell2
        clear hcell hcell2
        go_enter Try.func30, Try.ntmps30
        go_wp2
        have d0 : (w.setCell ⟨g, 1, none⟩ (.int .i64 ((p : Int) + 1))).cell? ⟨g, 0, none⟩ = some (.slice (some ⟨b, off, none⟩) n cap) := (cell_set_other (.inr (by decide))).trans c0
        generalize w.setCell ⟨g, 1, none⟩ (.int .i64 ((p : Int) + 1)) = W at *
        clear c0 c1 f1
        have hnn : (0 : Int) < n := by omega
        have hbd1 := Int.emod_nonneg ((p : Int) * 7 + 3) (b := (n : Int)) (by omega)
        have hbd2 := Int.emod_lt_of_pos ((p : Int) * 7 + 3) (b := (n : Int)) hnn
        go_quiet (fail)
        have hst2 := HST.out.le ((Le.refl W).drewN nq)
        have hgx2 := hgx.trans (Gx.of_le (g := g) ((Le.refl W).drewN nq))
        have HST2 := Lib.hid hst2; clear hst2
        have hX := pick_num v1 v2 p n hv1 hv2 hw1 hw2 hp (by omega)
        have hY := xor_mod _ m hX.1 hX.2 (by omega)
        have HY := Lib.hid hY; clear hX hY
        go_wp2
        go_ret
        exact ⟨_, rfl, HY.out.1, .inl HY.out.2, HST2.out, hgx2⟩
end Go.Proofs.Ytjkadmbcnlelhaa
