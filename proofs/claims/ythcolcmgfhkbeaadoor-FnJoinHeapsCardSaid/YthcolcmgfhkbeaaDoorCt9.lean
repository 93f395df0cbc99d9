/- one text of R, TyStr, S, RZ -/
import Derived.Test.YthcolcmgfhkbeaaDoorRows
import Derived.Test.YthcolcmgfhkbeaaDoorCt1
import Derived.Deep.RegionWith
import Derived.Deep.RegionHeld3
namespace Go.Proofs.YthcolcmgfhkbeaaDoor
open Go.RowKit
set_option linter.unusedVariables false
section
/-- all but block g is as it was; there may be more -/
def Gx (g : Nat) (w w' : World) : Prop := w.grownBy w' (some g)
theorem Gx.refl (g : Nat) (w : World) : Gx g w w := ⟨rfl, rfl, rfl, Nat.le_refl _, fun _ _ _ => rfl⟩
theorem Gx.trans {g : Nat} {a b c : World} (h : Gx g a b) (k : Gx g b c) : Gx g a c :=
  ⟨k.os.trans h.os, k.tape.trans h.tape, k.output.trans h.output, Nat.le_trans h.size k.size, fun i hi hne => (k.block i (Nat.lt_of_lt_of_le hi h.size) hne).trans (h.block i hi hne)⟩
theorem Gx.of_le {g : Nat} {a b : World} (h : Le a b) : Gx g a b := ⟨h.os, h.tape, h.output, h.size, fun i hi _ => Below.block h i hi⟩
theorem Gx.cell {g : Nat} {a b : World} (h : Gx g a b) {k o : Nat} (hk : k < a.heap.size) (hne : k ≠ g) : b.cell? ⟨k, o, none⟩ = a.cell? ⟨k, o, none⟩ :=
  World.cell?_of_block (h.block k hk (fun e => hne (by injection e)))
theorem Gx.frozen {g : Nat} {a b : World} (h : Gx g a b) {k o : Nat} (hk : k < a.heap.size) (hne : k ≠ g) : b.frozen? ⟨k, o, none⟩ = a.frozen? ⟨k, o, none⟩ :=
  World.frozen?_of_block (h.block k hk (fun e => hne (by injection e)))
theorem Gx.set (g o : Nat) (w : World) (u : Value) : Gx g w (w.setCell ⟨g, o, none⟩ u) := grown_set w g o u
/-- a new block's world is above what was before the block came -/
theorem Gx.le {g : Nat} {a b c : World} (h : Le a b) (k : Gx g b c) (hg : a.heap.size ≤ g) : Le a c :=
  ⟨k.os.trans h.os, k.tape.trans h.tape, k.output.trans h.output, Nat.le_trans h.size k.size, fun i hi => (k.block i (Nat.lt_of_lt_of_le hi h.size) (fun e => by injection e with e; omega)).trans (Below.block h i hi)⟩

/-- a byte -/
structure By where
  b : UInt8
instance instEncBy : Enc By := ⟨1, fun x => [.int .u8 x.b.toNat], fun _ => True, fun _ => rfl⟩
theorem Sl.by_at {w : World} {A : Option Addr} {n cap : Nat} {xs : List By} (h : Sl w A n cap xs) {k : Nat} (hk : k < xs.length) :
    ∃ b off, A = some ⟨b, off, none⟩ ∧ b < w.heap.size ∧ w.cell? ⟨b, off + k, none⟩ = some (.int .u8 xs[k].b.toNat) ∧ (0 : Int) ≤ xs[k].b.toNat ∧ (xs[k].b.toNat : Int) ≤ 255 := by
  obtain ⟨b, off, e, hb, hc⟩ := h.cells_ hk
  have := hc 0 (by decide) _ rfl
  have h2 := UInt8.toNat_lt xs[k].b
  exact ⟨b, off, e, hb, by simpa [Enc.size] using this, by omega, by omega⟩

theorem Sl.by_v {w : World} {A : Option Addr} {n cap : Nat} {xs : List By} (h : Sl w A n cap xs) {k : Nat} (hk : k < n) :
    ∃ b off, ∃ v : Int, A = some ⟨b, off, none⟩ ∧ b < w.heap.size ∧ w.cell? ⟨b, off + k, none⟩ = some (.int .u8 v) ∧ 0 ≤ v ∧ v ≤ 255 := by
  obtain ⟨b, off, e, hb, hc, h1, h2⟩ := h.by_at (k := k) (by rw [h.len]; exact hk)
  exact ⟨b, off, _, e, hb, hc, h1, h2⟩
/-- the slice's memory is not block g -/
def Off (g : Nat) (A : Option Addr) : Prop := ∀ a, A = some a → a.block ≠ g
theorem Sl.gx {α : Type} [Enc α] {g : Nat} {w w' : World} {A : Option Addr} {n cap : Nat} {xs : List α} (h : Sl w A n cap xs) (ho : 0 < n → Off g A) (hg : Gx g w w') : Sl w' A n cap xs :=
  ⟨h.len, h.cap_, h.max, h.ok, fun hn => by
    obtain ⟨b, off, e, hlt, hc⟩ := h.at_ hn
    exact ⟨b, off, e, Nat.lt_of_lt_of_le hlt hg.size, fun j u hu => (hg.cell hlt (ho hn _ e)).trans (hc j u hu)⟩⟩

/-- the reader r lies in block g and has given p numbers -/
structure Rd (w : World) (g p : Nat) (A : Option Addr) (n cap : Nat) (bs : List By) : Prop where
  row : w.heap[g]? = some (.cells #[.slice A n cap, .int .i64 p] 74 (0, 0))
  sl : Sl w A n cap bs
  off : 0 < n → Off g A
  few : n ≤ 2000
theorem Rd.lt {w : World} {g p : Nat} {A : Option Addr} {n cap : Nat} {bs : List By} (h : Rd w g p A n cap bs) : g < w.heap.size := by
  rcases Nat.lt_or_ge g w.heap.size with hlt | hge
  · exact hlt
  · have := h.row; rw [Array.getElem?_eq_none hge] at this; cases this
theorem Rd.c0 {w : World} {g p : Nat} {A : Option Addr} {n cap : Nat} {bs : List By} (h : Rd w g p A n cap bs) : w.cell? ⟨g, 0, none⟩ = some (.slice A n cap) := (cell_of_row w _ 0 _ _ _ h.row).trans rfl
theorem Rd.c1 {w : World} {g p : Nat} {A : Option Addr} {n cap : Nat} {bs : List By} (h : Rd w g p A n cap bs) : w.cell? ⟨g, 1, none⟩ = some (.int .i64 p) := (cell_of_row w _ 1 _ _ _ h.row).trans rfl
theorem Rd.fz {w : World} {g p : Nat} {A : Option Addr} {n cap : Nat} {bs : List By} (h : Rd w g p A n cap bs) (o : Nat) : w.frozen? ⟨g, o, none⟩ = false := frozen_of_row w g o _ _ h.row
theorem Rd.le {w w' : World} {g p : Nat} {A : Option Addr} {n cap : Nat} {bs : List By} (h : Rd w g p A n cap bs) (hl : Le w w') : Rd w' g p A n cap bs :=
  ⟨(Below.block hl g h.lt).trans h.row, h.sl.le hl, h.off, h.few⟩
theorem Rd.step {w : World} {g p : Nat} {A : Option Addr} {n cap : Nat} {bs : List By} (h : Rd w g p A n cap bs) (q : Nat) : Rd (w.setCell ⟨g, 1, none⟩ (.int .i64 q)) g q A n cap bs :=
  ⟨heap_setCell_same w g 1 _ _ _ h.row, h.sl.gx h.off (Gx.set g 1 w _), h.off, h.few⟩

theorem w64 {x : Int} (h0 : -9223372036854775808 ≤ x) (h1 : x ≤ 9223372036854775807) : wrap64 x = x := by
  rw [← IntWalk.i64_left]; exact IntWalk.i64_in _ ⟨h0, h1⟩
theorem xor_i64 (a b : Nat) (ha : a < 4611686018427387904) (hb : b < 4611686018427387904) : bits BinOp.xor IntKind.i64 (a : Int) (b : Int) = ((a ^^^ b : Nat) : Int) := by
  have hx : a ^^^ b < 2 ^ 62 := Nat.xor_lt_two_pow (by omega) (by omega)
  have h1 : (BitVec.ofInt 64 (a : Int)).toNat = a := by
    rw [BitVec.ofInt_natCast, BitVec.toNat_ofNat]; exact Nat.mod_eq_of_lt (by omega)
  have h2 : (BitVec.ofInt 64 (b : Int)).toNat = b := by
    rw [BitVec.ofInt_natCast, BitVec.toNat_ofNat]; exact Nat.mod_eq_of_lt (by omega)
  show IntKind.i64.wrap ((BitVec.ofInt 64 (a : Int) ^^^ BitVec.ofInt 64 (b : Int)).toNat : Int) = _
  rw [BitVec.toNat_xor, h1, h2]
  exact IntWalk.i64_in _ ⟨by omega, by omega⟩
theorem xor_mod (X m : Int) (h0 : 0 ≤ X) (h1 : X ≤ 1000000000000) (hm : 1 ≤ m) : 0 ≤ (bits BinOp.xor IntKind.i64 X (wrap64 (X.tdiv 64))).tmod m ∧ (bits BinOp.xor IntKind.i64 X (wrap64 (X.tdiv 64))).tmod m < m := by
  have hd : X.tdiv 64 = X / 64 := Int.tdiv_eq_ediv_of_nonneg h0
  rw [hd, w64 (by omega) (by omega)]
  obtain ⟨a, rfl⟩ := Int.eq_ofNat_of_zero_le h0
  have e : ((a : Int) / 64) = ((a / 64 : Nat) : Int) := by omega
  rw [e, xor_i64 _ _ (by omega) (by omega), Int.tmod_eq_emod_of_nonneg (by omega)]
  exact ⟨Int.emod_nonneg _ (by omega), Int.emod_lt_of_pos _ (by omega)⟩
theorem pick_num (v1 v2 : Int) (p n : Nat) (a1 : 0 ≤ v1) (a2 : v1 ≤ 255) (b1 : 0 ≤ v2) (b2 : v2 ≤ 255) (hp : p ≤ 1000000) (hn : 0 < n) :
    0 ≤ wrap64 (v1 * 131 + v2 * 1117 + (p : Int) * 29 + wrap64 (wrap64 ((p : Int) / (n : Int)) * 53)) ∧ wrap64 (v1 * 131 + v2 * 1117 + (p : Int) * 29 + wrap64 (wrap64 ((p : Int) / (n : Int)) * 53)) ≤ 1000000000000 := by
  have hq0 : 0 ≤ (p : Int) / (n : Int) := Int.ediv_nonneg (by omega) (by omega)
  have hq1 : (p : Int) / (n : Int) ≤ p := Int.ediv_le_self _ (by omega)
  generalize (p : Int) / (n : Int) = q at *
  rw [w64 (x := q) (by omega) (by omega), w64 (x := q * 53) (by omega) (by omega), w64 (by omega) (by omega)]
  omega

def PickOut (m : Int) (g p : Nat) (A : Option Addr) (n cap : Nat) (bs : List By) (w : World) (e : Ending) (w' : World) : Prop :=
  ∃ v : Int, e = .returned (.int .i64 v) ∧ 0 ≤ v ∧ (v < m ∨ v = 0) ∧ Rd w' g (p + 1) A n cap bs ∧ Gx g w w'

theorem pick_any (m : Int) (g p : Nat) (A : Option Addr) (n cap : Nat) (bs : List By) (w : World) (hm : m ≤ 1000000) (hm0 : -1000000 ≤ m) (hp : p ≤ 1000000) (hR : Rd w g p A n cap bs) :
    Calls Tryd.prog 74 #[.pointer (some ⟨g, 0, none⟩), .int .i64 m] w (PickOut m g p A n cap bs w) := by
  have c0 := hR.c0
  have c1 := hR.c1
  have f1 := hR.fz 1
  have hst := hR.step (p + 1)
  have hgx := Gx.set g 1 w (.int .i64 ((p + 1 : Nat) : Int))
  have hfew := hR.few
  have hca : (((p + 1 : Nat) : Int)) = (p : Int) + 1 := by omega
  rw [hca] at hst hgx
  have HST := Lib.hid hst; clear hst
  clear hca
  by_cases h1 : m < 1
  · go_enter Tryd.func74, Tryd.ntmps74
    go_wp2
    go_ret
    exact ⟨0, rfl, by omega, .inr rfl, HST.out, hgx⟩
  · by_cases h2 : n = 0
    · subst h2
      go_enter Tryd.func74, Tryd.ntmps74
      go_wp2
      go_ret
      exact ⟨0, rfl, by omega, .inr rfl, HST.out, hgx⟩
    · have hn0 : ((n : Int) == 0) = false := by simp; omega
      by_cases h3 : p < n
      · obtain ⟨b, off, v, rfl, hb, hcell, hv1, hv2⟩ := hR.sl.by_v h3
        have hbg : b ≠ g := hR.off (by omega) _ rfl
        have hcell' : (w.setCell ⟨g, 1, none⟩ (.int .i64 ((p : Int) + 1))).cell? ⟨b, off + p, none⟩ = some (.int .u8 v) := (cell_set_other (.inl (Ne.symm hbg))).trans hcell
        have hmod := Int.emod_nonneg v (b := m) (by omega)
        have hmod2 := Int.emod_lt_of_pos v (b := m) (by omega)
        have HM := Lib.hid hmod; have HM2 := Lib.hid hmod2; clear hmod hmod2
        clear hcell
        go_enter Tryd.func74, Tryd.ntmps74
        go_wp2
        go_ret
        exact ⟨_, rfl, HM.out, .inl HM2.out, HST.out, hgx⟩
      · have hq0 := Nat.mod_lt p (y := n) (by omega)
        have hq1 := Nat.mod_lt (p * 7 + 3) (y := n) (by omega)
        obtain ⟨b, off, v1, rfl, hb, hcell, hv1, hv2⟩ := hR.sl.by_v hq0
        obtain ⟨b', off', v2, e, _, hcell2, hw1, hw2⟩ := hR.sl.by_v hq1
        injection e with e
        injection e with e1 e2
        subst e1; subst e2
        have hbg : b ≠ g := hR.off (by omega) _ rfl
        have hcell' : (w.setCell ⟨g, 1, none⟩ (.int .i64 ((p : Int) + 1))).cell? ⟨b, off + p % n, none⟩ = some (.int .u8 v1) := (cell_set_other (.inl (Ne.symm hbg))).trans hcell
        have hcell2' : (w.setCell ⟨g, 1, none⟩ (.int .i64 ((p : Int) + 1))).cell? ⟨b, off + (p * 7 + 3) % n, none⟩ = some (.int .u8 v2) := (cell_set_other (.inl (Ne.symm hbg))).trans hcell2
        clear hcell hcell2
        go_enter Tryd.func74, Tryd.ntmps74
        go_wp2
        have d0 : (w.setCell ⟨g, 1, none⟩ (.int .i64 ((p : Int) + 1))).cell? ⟨g, 0, none⟩ = some (.slice (some ⟨b, off, none⟩) n cap) := (cell_set_other (.inr (by decide))).trans c0
        generalize w.setCell ⟨g, 1, none⟩ (.int .i64 ((p : Int) + 1)) = W at *
        clear c0 c1 f1
        have hnn : (0 : Int) < n := by omega
        have hbd1 := Int.emod_nonneg ((p : Int) * 7 + 3) (b := (n : Int)) (by omega)
        have hbd2 := Int.emod_lt_of_pos ((p : Int) * 7 + 3) (b := (n : Int)) hnn
        go_quiet (fail)
        have hst2 := HST.out.le ((Le.refl W).drewN nq)
        have hgx2 := hgx.trans (Gx.of_le (g := g) ((Le.refl W).drewN nq))
        have HST2 := Lib.hid hst2; clear hst2
        have hX := pick_num v1 v2 p n hv1 hv2 hw1 hw2 hp (by omega)
        have hY := xor_mod _ m hX.1 hX.2 (by omega)
        have HY := Lib.hid hY; clear hX hY
        go_wp2
        go_ret
        exact ⟨_, rfl, HY.out.1, .inl HY.out.2, HST2.out, hgx2⟩
end

section
instance instEncStr : Enc ByteArray := ⟨1, fun s => [.string s], fun s => s.size ≤ 9223372036854775807, fun _ => rfl⟩
theorem Sl.str_at {w : World} {A : Option Addr} {n cap : Nat} {xs : List ByteArray} (h : Sl w A n cap xs) {k : Nat} (hk : k < xs.length) :
    ∃ b off, A = some ⟨b, off, none⟩ ∧ b < w.heap.size ∧ w.cell? ⟨b, off + k, none⟩ = some (.string xs[k]) := by
  obtain ⟨b, off, e, hb, hc⟩ := h.cells_ hk
  have := hc 0 (by decide) _ rfl
  exact ⟨b, off, e, hb, by simpa [Enc.size] using this⟩
end

section
def ReaderOut (w : World) (e : Ending) (w' : World) : Prop :=
  ∃ g A n cap bs, e = .returned (.pointer (some ⟨g, 0, none⟩)) ∧ w.heap.size ≤ g ∧ Rd w' g 0 A n cap bs ∧ Le w w'
theorem newReader_any (A : Option Addr) (n cap : Nat) (bs : List By) (w : World) (hR : Sl w A n cap bs) :
    Calls Tryd.prog 31 #[.slice A n cap] w (ReaderOut w) := by
  have hm := hR.n_le
  have hcp := hR.cap_
  have hoff : 0 < n → Off w.heap.size A := fun hn => by
    obtain ⟨b, off, e, hb, _⟩ := hR.at_ hn
    exact fun a ea => by rw [e] at ea; injection ea with ea; rw [← ea]; exact Nat.ne_of_lt hb
  have HO := Lib.hid hoff; clear hoff
  by_cases h : 2000 < n
  · have ht := hR.take_ 2000 (by omega)
    go_enter Tryd.func31, Tryd.ntmps31
    go_wp2
    go_ret
    refine ⟨w.heap.size, A, 2000, cap, bs.take 2000, rfl, Nat.le_refl _, ⟨?_, ht.alloc _, fun _ => HO.out (by omega), by omega⟩, Le.new w _⟩
    exact heap_alloc_new w _
  · go_enter Tryd.func31, Tryd.ntmps31
    go_wp2
    go_ret
    refine ⟨w.heap.size, A, n, cap, bs, rfl, Nat.le_refl _, ⟨?_, hR.alloc _, HO.out, by omega⟩, Le.new w _⟩
    exact heap_alloc_new w _

def OneOut (xs : List Int) (g p : Nat) (A : Option Addr) (n cap : Nat) (bs : List By) (w : World) (e : Ending) (w' : World) : Prop :=
  ∃ v : Int, e = .returned (.int .i64 v) ∧ v ∈ xs ∧ Rd w' g (p + 1) A n cap bs ∧ Gx g w w'
theorem one_any (B : Option Addr) (m c : Nat) (xs : List Int) (g p : Nat) (A : Option Addr) (n cap : Nat) (bs : List By) (w : World) (hm : 0 < m) (hm1 : m ≤ 1000) (hp : p ≤ 1000000) (hS : Sl w B m c xs) (ho : 0 < m → Off g B) (hR : Rd w g p A n cap bs) :
    Calls Tryd.prog 75 #[.pointer (some ⟨g, 0, none⟩), .slice B m c] w (OneOut xs g p A n cap bs w) := by
  have hl := hS.len
  have HL := Lib.hid hl; clear hl
  have hc0 := hS.n_le
  go_enter Tryd.func75, Tryd.ntmps75
  go_wp2_with fail
  refine (pick_any m g p A n cap bs w (by omega) (by omega) hp hR).mono ?_
  rintro e w1 ⟨v, rfl, hv0, hv1, hR1, hg1⟩
  have hS1 := hS.gx ho hg1
  obtain ⟨k, rfl⟩ := Int.eq_ofNat_of_zero_le hv0
  have hk : k < m := by rcases hv1 with h | h <;> omega
  obtain ⟨b, off, rfl, hb, hcell, hw1, hw2⟩ := hS1.int_at (k := k) (by have := HL.out; omega)
  have hmem : Hid (xs[k]'(by have := HL.out; omega) ∈ xs) := List.getElem_mem _
  go_wp2
  go_ret
  exact ⟨_, rfl, hmem.out, hR1, hg1⟩

def OfOut (xs : List ByteArray) (g p : Nat) (A : Option Addr) (n cap : Nat) (bs : List By) (w : World) (e : Ending) (w' : World) : Prop :=
  ∃ s : ByteArray, e = .returned (.string s) ∧ s ∈ xs ∧ Rd w' g (p + 1) A n cap bs ∧ Gx g w w'
theorem of_any (B : Option Addr) (m c : Nat) (xs : List ByteArray) (g p : Nat) (A : Option Addr) (n cap : Nat) (bs : List By) (w : World) (hm : 0 < m) (hm1 : m ≤ 1000) (hp : p ≤ 1000000) (hS : Sl w B m c xs) (ho : 0 < m → Off g B) (hR : Rd w g p A n cap bs) :
    Calls Tryd.prog 95 #[.pointer (some ⟨g, 0, none⟩), .slice B m c] w (OfOut xs g p A n cap bs w) := by
  have hl := hS.len
  have HL := Lib.hid hl; clear hl
  have hc0 := hS.n_le
  go_enter Tryd.func95, Tryd.ntmps95
  go_wp2_with fail
  refine (pick_any m g p A n cap bs w (by omega) (by omega) hp hR).mono ?_
  rintro e w1 ⟨v, rfl, hv0, hv1, hR1, hg1⟩
  have hS1 := hS.gx ho hg1
  obtain ⟨k, rfl⟩ := Int.eq_ofNat_of_zero_le hv0
  have hk : k < m := by rcases hv1 with h | h <;> omega
  obtain ⟨b, off, rfl, hb, hcell⟩ := hS1.str_at (k := k) (by have := HL.out; omega)
  have hmem : Hid (xs[k]'(by have := HL.out; omega) ∈ xs) := List.getElem_mem _
  go_wp2
  go_ret
  exact ⟨_, rfl, hmem.out, hR1, hg1⟩
end

section
section
theorem Rd.grown {w w' : World} {g p : Nat} {A : Option Addr} {n cap : Nat} {bs : List By} {r : Option Nat} (h : Rd w g p A n cap bs) (hg : w.grownBy w' r) (hne : r ≠ some g) (hA : 0 < n → ∀ a, A = some a → r ≠ some a.block) : Rd w' g p A n cap bs :=
  ⟨(hg.block g h.lt (fun e => hne e.symm)).trans h.row, h.sl.grown hg (fun hn a e e2 => hA hn a e e2.symm), h.off, h.few⟩
theorem Gx.grown {g : Nat} {a b c : World} {r : Option Nat} (h : Gx g a b) (hg : b.grownBy c r) (hr : ∀ k, r = some k → a.heap.size ≤ k) : Gx g a c :=
  ⟨hg.os.trans h.os, hg.tape.trans h.tape, hg.output.trans h.output, Nat.le_trans h.size hg.size, fun i hi hne => (hg.block i (Nat.lt_of_lt_of_le hi h.size) (fun e => by have := hr i e.symm; omega)).trans (h.block i hi hne)⟩
theorem Sl.of_rowF {α : Type} [Enc α] {w : World} {b : Nat} {T : TypeId} {cs : Array Value} {fz : Nat × Nat} {n : Nat} {xs : List α} (h : w.heap[b]? = some (.cells cs T fz)) (hc : cs.toList = xs.flatMap Enc.cells) (hn : xs.length = n) (hm : n ≤ 1000) (hok : ∀ x ∈ xs, Enc.ok x) : Sl w (some ⟨b, 0, none⟩) n n xs := by
  refine ⟨hn, Nat.le_refl _, by omega, hok, fun _ => ⟨b, 0, rfl, ?_, fun j u hu => ?_⟩⟩
  · rcases Nat.lt_or_ge b w.heap.size with hlt | hge
    · exact hlt
    · rw [Array.getElem?_eq_none hge] at h; cases h
  · rw [Nat.zero_add, cell_of_row w b j cs T fz h, ← hu, ← hc]
    simp
/-- a choice of a list that is written out -/
theorem of_lit (ss : List ByteArray) (m : Nat) (cs : Array Value) (T : TypeId) (g p : Nat) (A : Option Addr) (n cap : Nat) (bs : List By) (W : World) (b : Nat) (hc : cs.toList = ss.flatMap Enc.cells) (hl : ss.length = m) (hm : 0 < m) (hm1 : m ≤ 1000) (hok : ∀ x ∈ ss, Enc.ok x) (hp : p ≤ 1000000) (hb : b = W.heap.size) (hR : Rd W g p A n cap bs) :
    Calls Tryd.prog 95 #[.pointer (some ⟨g, 0, none⟩), .slice (some ⟨b, 0, none⟩) m m] (W.alloc (.cells cs T)) (OfOut ss g p A n cap bs W) := by
  subst hb
  refine (of_any _ m m ss g p A n cap bs _ hm hm1 hp (Sl.of_rowF (hp_new _ _ rfl) hc hl hm1 hok) (fun _ a e => by injection e with e; rw [← e]; show W.heap.size ≠ g; have := hR.lt; omega) (hR.le (Le.new _ _))).mono ?_
  rintro e w' ⟨s, rfl, hs, R, G⟩
  exact ⟨s, rfl, hs, R, (Gx.of_le (Le.new _ _)).trans G⟩
theorem one_lit (ss : List Int) (m : Nat) (cs : Array Value) (T : TypeId) (g p : Nat) (A : Option Addr) (n cap : Nat) (bs : List By) (W : World) (b : Nat) (hc : cs.toList = ss.flatMap Enc.cells) (hl : ss.length = m) (hm : 0 < m) (hm1 : m ≤ 1000) (hok : ∀ x ∈ ss, Enc.ok x) (hp : p ≤ 1000000) (hb : b = W.heap.size) (hR : Rd W g p A n cap bs) :
    Calls Tryd.prog 75 #[.pointer (some ⟨g, 0, none⟩), .slice (some ⟨b, 0, none⟩) m m] (W.alloc (.cells cs T)) (OneOut ss g p A n cap bs W) := by
  subst hb
  refine (one_any _ m m ss g p A n cap bs _ hm hm1 hp (Sl.of_rowF (hp_new _ _ rfl) hc hl hm1 hok) (fun _ a e => by injection e with e; rw [← e]; show W.heap.size ≠ g; have := hR.lt; omega) (hR.le (Le.new _ _))).mono ?_
  rintro e w' ⟨s, rfl, hs, R, G⟩
  exact ⟨s, rfl, hs, R, (Gx.of_le (Le.new _ _)).trans G⟩
theorem Gx.setNewF {g b o : Nat} {a c : World} (h : Gx g a c) (hb : a.heap.size ≤ b) (u : Value) : Gx g a (c.setCell ⟨b, o, none⟩ u) :=
  ⟨h.os, h.tape, h.output, by have := h.size; simp [World.setCell]; exact this, fun i hi hne => (heap_setCell_other c ⟨b, o, none⟩ i u (by show i ≠ b; omega)).trans (h.block i hi hne)⟩
theorem Rd.setNew {w : World} {g p b o : Nat} {A : Option Addr} {n cap : Nat} {bs : List By} (h : Rd w g p A n cap bs) (u : Value) (hb : b ≠ g) (hA : 0 < n → ∀ a, A = some a → a.block ≠ b) : Rd (w.setCell ⟨b, o, none⟩ u) g p A n cap bs :=
  h.grown (grown_set w b o u) (fun e => hb (by injection e)) (fun hn a e e2 => hA hn a e (by injection e2 with e2; exact e2.symm))
theorem own_some {w : World} {base e size m : Nat} {v : Value} {xs : List Value} (h : w.ownsRow base e size v (m + 1) xs) : ∃ g c, v = .slice (some ⟨g, 0, none⟩) (m + 1) c := by
  rcases h.2 with ⟨_, h0⟩ | ⟨g, c, _, h, _⟩
  · omega
  · exact ⟨g, c, h⟩
end

section
section
variable {P : Program} {ops : Array Oper} {Q : Exit → Act → World → Prop} {md : Region.Mode} {S : World → Prop} {Z : List Nat}

/-- Whatever order is picked from here on; S holds behind every operation that is carried out, but for those of Z. -/
def wpAnyZ (P : Program) (md : Region.Mode) (ops : Array Oper) (Q : Exit → Act → World → Prop) (S : World → Prop) (Z : List Nat) : Nat → Array Bool → Act → World → Prop
  | 0, listed, a, w => Region.ready md ops listed = [] ∧ Q .normal a w
  | fuel + 1, listed, a, w =>
    (Region.ready md ops listed = [] → Q .normal a w) ∧
    ∀ i ∈ Region.ready md ops listed, wpOp P ops Q i (fun a' w' => (Z.contains i = false → S w') ∧ wpAnyZ P md ops Q S Z fuel (listed.setIfInBounds i true) a' w') a w

theorem wpAny_of_Z : ∀ (fuel : Nat) (listed : Array Bool) (a : Act) (w : World), wpAnyZ P md ops Q S Z fuel listed a w → wpAny P md ops Q fuel listed a w
  | 0, _, _, _, h => h
  | fuel + 1, _, _, _, h => ⟨h.1, fun i hi => wpOp_mono (fun a' w' h' => wpAny_of_Z fuel _ a' w' h'.2) (h.2 i hi)⟩

/-- the operations of C cannot come up ahead of number i -/
def Waits (md : Region.Mode) (ops : Array Oper) (listed : Array Bool) (i : Nat) (C : List Nat) : Prop :=
  ∀ k ∈ C, listed.getD k true = false ∧ ∃ o, ops[k]? = some o ∧ ∃ e ∈ o.after, Region.binds md e = true ∧ (e.on = i ∨ e.on ∈ C)
theorem Waits.not {listed : Array Bool} {i : Nat} {C : List Nat} (h : Waits md ops listed i C) (hi : listed.getD i true = false) {j : Nat} (hj : j ∈ Region.ready md ops listed) : j ∉ C := by
  intro hc
  obtain ⟨_, o, ho, e, he, hb, hon⟩ := h j hc
  obtain ⟨_, o', ho', hall⟩ := mem_ready.1 hj
  rw [ho] at ho'; injection ho' with ho'; subst ho'
  have h1 := hall e he hb
  have hx : listed.getD e.on true = false := by
    rcases hon with h2 | h2
    · rw [h2]; exact hi
    · exact (h _ h2).1
  rcases Nat.lt_or_ge e.on listed.size with h3 | h3
  · simp [h3] at h1 hx; rw [h1] at hx; cases hx
  · simp [Array.getElem?_eq_none h3] at h1
def waitsB (md : Region.Mode) (ops : Array Oper) (listed : Array Bool) (i : Nat) (C : List Nat) : Bool :=
  C.all fun k => !(listed.getD k true) && match ops[k]? with | some o => o.after.any fun e => Region.binds md e && (e.on == i || C.contains e.on) | none => false
theorem waits_of {listed : Array Bool} {i : Nat} {C : List Nat} (h : waitsB md ops listed i C = true) : Waits md ops listed i C := by
  intro k hk
  have h1 := List.all_eq_true.1 h k hk
  rw [Bool.and_eq_true] at h1
  refine ⟨by simpa using h1.1, ?_⟩
  have h2 := h1.2
  cases ho : ops[k]? with
  | none => rw [ho] at h2; cases h2
  | some o =>
    rw [ho] at h2
    replace h2 : (o.after.any fun e => Region.binds md e && (e.on == i || C.contains e.on)) = true := h2
    obtain ⟨e, he, h3⟩ := Array.any_eq_true'.1 h2
    rw [Bool.and_eq_true, Bool.or_eq_true] at h3
    exact ⟨o, rfl, e, he, h3.1, by simpa using h3.2⟩

theorem wpAnyZ_first {i : Nat} {oi : Oper} {v : Value} {C : List Nat} (hi : ops[i]? = some oi) (hsel : ∀ (j : Nat) (o : Oper) cs b, ops[j]? = some o → o.op ≠ .select cs b)
    (hQ : ∀ c a w, Q (.panic c) (a.put oi.dst v) w → Q (.panic c) a w) (hZ : ∀ z, Z.contains z = true → z ∈ C) :
    ∀ (fuel : Nat) (listed : Array Bool) (a : Act) (w : World),
      (∀ j oj, ops[j]? = some oj → j ≠ i → listed.getD j true = false → (∀ e ∈ oj.after, Region.binds md e = true → e.on ≠ i) → oi.apart ops oj = true) →
      Waits md ops listed i C → i ∈ Region.ready md ops listed → YieldsIf P ops S oi v a → S w →
      wpAnyZ P md ops Q S Z fuel (listed.setIfInBounds i true) (a.put oi.dst v) w → wpAnyZ P md ops Q S Z (fuel + 1) listed a w := by
  intro fuel
  induction fuel with
  | zero =>
    intro listed a w _ _ hr hy hS H
    refine ⟨fun h => (by rw [h] at hr; cases hr), fun j hj => ?_⟩
    by_cases hji : j = i
    · subst hji; exact hy.wpOp hi hS ⟨fun _ => hS, H⟩
    · have := ready_mono hj hji
      rw [H.1] at this
      cases this
  | succ fuel ih =>
    intro listed a w hfree hw hr hy hS H
    refine ⟨fun h => (by rw [h] at hr; cases hr), fun j hj => ?_⟩
    by_cases hji : j = i
    · subst hji; exact hy.wpOp hi hS ⟨fun _ => hS, H⟩
    · have h1 := H.2 j (ready_mono hj hji)
      have hjc := hw.not (mem_ready.1 hr).1 hj
      have hjz : Z.contains j = false := by
        cases e : Z.contains j
        · rfl
        · exact absurd (hZ j e) hjc
      obtain ⟨hjun, oj, hoj, hall⟩ := mem_ready.1 hj
      have hnot : ∀ e ∈ oj.after, Region.binds md e = true → e.on ≠ i := fun e he hb heq => by
        have h1 := hall e he hb
        have h0 := (mem_ready.1 hr).1
        rw [heq] at h1
        rcases Nat.lt_or_ge i listed.size with h' | h'
        · simp [h'] at h0 h1; rw [h0] at h1; cases h1
        · simp [Array.getElem?_eq_none h'] at h1
      have h2 := wpOp_putIf hoj (hfree j oj hoj hji hjun hnot) (fun cs b => hsel i oi cs b hi) (fun cs b => hsel j oj cs b hoj) hQ hy h1
      have hfree' : ∀ k ok, ops[k]? = some ok → k ≠ i → (listed.setIfInBounds j true).getD k true = false →
          (∀ e ∈ ok.after, Region.binds md e = true → e.on ≠ i) → oi.apart ops ok = true := fun k ok hk hki hun hno => by
        refine hfree k ok hk hki ?_ hno
        by_cases hjk : j = k
        · subst hjk; exact hjun
        · rw [getD_set_ne true hjk] at hun; exact hun
      have hw' : Waits md ops (listed.setIfInBounds j true) i C := fun k hk => ⟨by rw [getD_set_ne true (fun e => hjc (by rw [e]; exact hk))]; exact (hw k hk).1, (hw k hk).2⟩
      refine wpOp_mono (fun a' w' h3 => ⟨h3.2.1, ih (listed.setIfInBounds j true) a' w' hfree' hw' (ready_mono hr (Ne.symm hji)) h3.1 (h3.2.1 hjz) ?_⟩) h2
      rw [Array.setIfInBounds_comm _ _ hji]
      exact h3.2.2

theorem wpAnyZ_done {listed : Array Bool} {a : Act} {w : World} (hr : Region.ready md ops listed = []) (h : Q .normal a w) :
    ∀ fuel, wpAnyZ P md ops Q S Z fuel listed a w
  | 0 => ⟨hr, h⟩
  | _ + 1 => ⟨fun _ => h, by rw [hr]; simp⟩
theorem wp_region_Z {id : Nat} {a : Act} {w : World} (S : World → Prop) (Z : List Nat) (hm : P.follows .mixedOrders = true)
    (h : wpAnyZ P .any ops Q S Z ops.size (Array.replicate ops.size false) a w.drew) : (Code.region id ops true).wp P Q a w :=
  wp_region_any hm (wpAny_of_Z _ _ _ _ h)
end
section
variable {P : Program} {l : List Oper} {Q : Exit → Act → World → Prop} {md : Region.Mode} {S : World → Prop} {Z : List Nat}
/-- the operations that wait for number i (edges lead back) -/
def clos (md : Region.Mode) (ops : Array Oper) (i : Nat) : List Nat :=
  (List.range ops.size).foldl (fun C k => if (k != i && match ops[k]? with | some o => o.after.any fun e => Region.binds md e && (e.on == i || C.contains e.on) | none => false) then C ++ [k] else C) []
theorem wpAnyZ_takeC {i : Nat} (C : List Nat) {oi : Oper} {v : Value} {fuel : Nat} {listed : Array Bool} {a : Act} {w : World} (hi : l[i]? = some oi)
    (hs : Region.noSelect l.toArray = true) (hf : Region.free md l.toArray listed i = true) (hr : (Region.ready md l.toArray listed).contains i = true)
    (hz : (Z.all fun z => C.contains z) = true) (hw : waitsB md l.toArray listed i C = true)
    (hQ : ∀ c a w, Q (.panic c) (a.put oi.dst v) w → Q (.panic c) a w) (hy : YieldsIf P l.toArray S oi v a) (hS : S w)
    (h : wpAnyZ P md l.toArray Q S Z fuel (listed.setIfInBounds i true) (a.put oi.dst v) w) : wpAnyZ P md l.toArray Q S Z (fuel + 1) listed a w := by
  have hi' : l.toArray[i]? = some oi := by rw [List.getElem?_toArray]; exact hi
  exact wpAnyZ_first (C := C) hi' (Region.noSelect_spec hs) hQ (fun z hz' => by have := List.all_eq_true.1 hz z (by simpa using hz'); simpa using this) fuel listed a w (Region.free_spec hi' hf) (waits_of hw) (by simpa using hr) hy hS h
theorem wpAnyZ_take {i : Nat} {oi : Oper} {v : Value} {fuel : Nat} {listed : Array Bool} {a : Act} {w : World} (hi : l[i]? = some oi)
    (hs : (Region.noSelect l.toArray && Region.free md l.toArray listed i && (Region.ready md l.toArray listed).contains i && (Z.all fun z => (clos md l.toArray i).contains z) && waitsB md l.toArray listed i (clos md l.toArray i)) = true)
    (hQ : ∀ c a w, Q (.panic c) (a.put oi.dst v) w → Q (.panic c) a w) (hy : YieldsIf P l.toArray S oi v a) (hS : S w)
    (h : wpAnyZ P md l.toArray Q S Z fuel (listed.setIfInBounds i true) (a.put oi.dst v) w) : wpAnyZ P md l.toArray Q S Z (fuel + 1) listed a w := by
  simp only [Bool.and_eq_true] at hs
  exact wpAnyZ_takeC _ hi hs.1.1.1.1 hs.1.1.1.2 hs.1.1.2 hs.1.2 hs.2 hQ hy hS h
/-- number i comes up first -/
def ReadyZ (P : Program) (md : Region.Mode) (l : List Oper) (Q : Exit → Act → World → Prop) (S : World → Prop) (Z : List Nat) (fuel : Nat) (listed : Array Bool) (a : Act) (w : World) (i : Nat) : Prop :=
  wpOp P l.toArray Q i (fun a' w' => (Z.contains i = false → S w') ∧ wpAnyZ P md l.toArray Q S Z fuel (listed.setIfInBounds i true) a' w') a w
theorem wpAnyZ_one {i fuel : Nat} {listed : Array Bool} {a : Act} {w : World} (hr : Region.ready md l.toArray listed = [i]) (h : ReadyZ P md l Q S Z fuel listed a w i) : wpAnyZ P md l.toArray Q S Z (fuel + 1) listed a w :=
  ⟨fun h0 => absurd (hr ▸ h0) (by simp), hr ▸ fun j hj => by simp at hj; subst hj; exact h⟩
theorem wpAnyZ_two {i k fuel : Nat} {listed : Array Bool} {a : Act} {w : World} (hr : Region.ready md l.toArray listed = [i, k]) (h : ReadyZ P md l Q S Z fuel listed a w i) (h2 : ReadyZ P md l Q S Z fuel listed a w k) : wpAnyZ P md l.toArray Q S Z (fuel + 1) listed a w :=
  ⟨fun h0 => absurd (hr ▸ h0) (by simp), hr ▸ fun j hj => by simp at hj; rcases hj with rfl | rfl; exact h; exact h2⟩
theorem wpAnyZ_three {i k m fuel : Nat} {listed : Array Bool} {a : Act} {w : World} (hr : Region.ready md l.toArray listed = [i, k, m]) (h : ReadyZ P md l Q S Z fuel listed a w i) (h2 : ReadyZ P md l Q S Z fuel listed a w k) (h3 : ReadyZ P md l Q S Z fuel listed a w m) : wpAnyZ P md l.toArray Q S Z (fuel + 1) listed a w :=
  ⟨fun h0 => absurd (hr ▸ h0) (by simp), hr ▸ fun j hj => by simp at hj; rcases hj with rfl | rfl | rfl; exact h; exact h2; exact h3⟩
theorem ReadyZ.mk {fuel : Nat} {listed : Array Bool} {a : Act} {w : World} {i : Nat} {o : Oper} (ho : l[i]? = some o)
    (h : ∀ K' : Act → World → Prop, Shut (∀ a w, (Z.contains i = false → S w) → wpAnyZ P md l.toArray Q S Z fuel (listed.setIfInBounds i true) a w → K' a w) → if Region.wanted o (yielded l.toArray a.tmps) = true then Oper.wp P o a w K' Q else K' (a.put o.dst undef) w) :
    ReadyZ P md l Q S Z fuel listed a w i :=
  wpOp_step (by rw [List.getElem?_toArray]; exact ho) (fun K' hK => h K' (fun a w hS hW => hK a w ⟨hS, hW⟩))
end
end
end
end Go.Proofs.YthcolcmgfhkbeaaDoor
