/- one text of DM, DN, PAn, TtP -/
import Derived.Test.YtnjckloodkdbpaaDoorCq1
import Derived.Test.YtnjckloodkdbpaaDoorCq4
import Derived.Lib.IndexMore
import Derived.Lib.IndexBytes
namespace Go.Proofs.YtnjckloodkdbpaaDoor
open Go.RowKit
set_option linter.unusedVariables false
section
theorem Rd.grown {w w' : World} {g p : Nat} {A : Option Addr} {n cap : Nat} {bs : List By} {r : Option Nat} (h : Rd w g p A n cap bs) (hg : w.grownBy w' r) (hne : r ≠ some g) (hA : 0 < n → ∀ a, A = some a → r ≠ some a.block) : Rd w' g p A n cap bs :=
  ⟨(hg.block g h.lt (fun e => hne e.symm)).trans h.row, h.sl.grown hg (fun hn a e e2 => hA hn a e e2.symm), h.off, h.few⟩
theorem Gx.grown {g : Nat} {a b c : World} {r : Option Nat} (h : Gx g a b) (hg : b.grownBy c r) (hr : ∀ k, r = some k → a.heap.size ≤ k) : Gx g a c :=
  ⟨hg.os.trans h.os, hg.tape.trans h.tape, hg.output.trans h.output, Nat.le_trans h.size hg.size, fun i hi hne => (hg.block i (Nat.lt_of_lt_of_le hi h.size) (fun e => by have := hr i e.symm; omega)).trans (h.block i hi hne)⟩
theorem Sl.of_rowF {α : Type} [Enc α] {w : World} {b : Nat} {T : TypeId} {cs : Array Value} {fz : Nat × Nat} {n : Nat} {xs : List α} (h : w.heap[b]? = some (.cells cs T fz)) (hc : cs.toList = xs.flatMap Enc.cells) (hn : xs.length = n) (hm : n ≤ 1000) (hok : ∀ x ∈ xs, Enc.ok x) : Sl w (some ⟨b, 0, none⟩) n n xs := by
  refine ⟨hn, Nat.le_refl _, by omega, hok, fun _ => ⟨b, 0, rfl, ?_, fun j u hu => ?_⟩⟩
  · rcases Nat.lt_or_ge b w.heap.size with hlt | hge
    · exact hlt
    · rw [Array.getElem?_eq_none hge] at h; cases h
  · rw [Nat.zero_add, cell_of_row w b j cs T fz h, ← hu, ← hc]
    simp
/-- a choice of a list that is written out -/
theorem of_lit (ss : List ByteArray) (m : Nat) (cs : Array Value) (T : TypeId) (g p : Nat) (A : Option Addr) (n cap : Nat) (bs : List By) (W : World) (b : Nat) (hc : cs.toList = ss.flatMap Enc.cells) (hl : ss.length = m) (hm : 0 < m) (hm1 : m ≤ 1000) (hok : ∀ x ∈ ss, Enc.ok x) (hp : p ≤ 1000000) (hb : b = W.heap.size) (hR : Rd W g p A n cap bs) :
    Calls Tryd.prog 44 #[.pointer (some ⟨g, 0, none⟩), .slice (some ⟨b, 0, none⟩) m m] (W.alloc (.cells cs T)) (OfOut ss g p A n cap bs W) := by
  subst hb
  refine (of_any _ m m ss g p A n cap bs _ hm hm1 hp (Sl.of_rowF (hp_new _ _ rfl) hc hl hm1 hok) (fun _ a e => by injection e with e; rw [← e]; show W.heap.size ≠ g; have := hR.lt; omega) (hR.le (Le.new _ _))).mono ?_
  rintro e w' ⟨s, rfl, hs, R, G⟩
  exact ⟨s, rfl, hs, R, (Gx.of_le (Le.new _ _)).trans G⟩
theorem one_lit (ss : List Int) (m : Nat) (cs : Array Value) (T : TypeId) (g p : Nat) (A : Option Addr) (n cap : Nat) (bs : List By) (W : World) (b : Nat) (hc : cs.toList = ss.flatMap Enc.cells) (hl : ss.length = m) (hm : 0 < m) (hm1 : m ≤ 1000) (hok : ∀ x ∈ ss, Enc.ok x) (hp : p ≤ 1000000) (hb : b = W.heap.size) (hR : Rd W g p A n cap bs) :
    Calls Tryd.prog 45 #[.pointer (some ⟨g, 0, none⟩), .slice (some ⟨b, 0, none⟩) m m] (W.alloc (.cells cs T)) (OneOut ss g p A n cap bs W) := by
  subst hb
  refine (one_any _ m m ss g p A n cap bs _ hm hm1 hp (Sl.of_rowF (hp_new _ _ rfl) hc hl hm1 hok) (fun _ a e => by injection e with e; rw [← e]; show W.heap.size ≠ g; have := hR.lt; omega) (hR.le (Le.new _ _))).mono ?_
  rintro e w' ⟨s, rfl, hs, R, G⟩
  exact ⟨s, rfl, hs, R, (Gx.of_le (Le.new _ _)).trans G⟩
theorem Gx.setNewF {g b o : Nat} {a c : World} (h : Gx g a c) (hb : a.heap.size ≤ b) (u : Value) : Gx g a (c.setCell ⟨b, o, none⟩ u) :=
  ⟨h.os, h.tape, h.output, by have := h.size; simp [World.setCell]; exact this, fun i hi hne => (heap_setCell_other c ⟨b, o, none⟩ i u (by show i ≠ b; omega)).trans (h.block i hi hne)⟩
theorem Rd.setNew {w : World} {g p b o : Nat} {A : Option Addr} {n cap : Nat} {bs : List By} (h : Rd w g p A n cap bs) (u : Value) (hb : b ≠ g) (hA : 0 < n → ∀ a, A = some a → a.block ≠ b) : Rd (w.setCell ⟨b, o, none⟩ u) g p A n cap bs :=
  h.grown (grown_set w b o u) (fun e => hb (by injection e)) (fun hn a e e2 => hA hn a e (by injection e2 with e2; exact e2.symm))
def FrmOut (g p : Nat) (A : Option Addr) (n cap : Nat) (bs : List By) (w : World) (e : Ending) (w' : World) : Prop :=
  ∃ f : Frm, e = .returned (.agg #[.string f.fn, .int .i64 f.line]) ∧ Enc.ok f ∧ Rd w' g (p + 2) A n cap bs ∧ Gx g w w'
def fourS : List ByteArray := [⟨#[102]⟩, ⟨#[103]⟩, ⟨#[109, 97, 105, 110]⟩, ⟨#[102]⟩]
theorem fourS_ok : ∀ x ∈ fourS, Enc.ok x := by
  intro x hx; simp [fourS] at hx
  show x.size ≤ _
  rcases hx with rfl | rfl | rfl | rfl <;> decide
set_option maxRecDepth 100000 in
theorem aFrame_any (g p : Nat) (A : Option Addr) (n cap : Nat) (bs : List By) (w : World) (hp : p ≤ 900000) (hR : Rd w g p A n cap bs) :
    Calls Tryd.prog 57 #[.pointer (some ⟨g, 0, none⟩)] w (FrmOut g p A n cap bs w) := by
  have hgw := hR.lt
  have hA : 0 < n → ∀ a, A = some a → a.block ≠ w.heap.size := fun hn a e => by have := hR.sl.under hn a e; omega
  have HA := Lib.hid hA; clear hA
  go_enter Tryd.func57, Tryd.ntmps57
  go_wp2_with fail
  have L0 := Le.new w (.cells #[.string ⟨#[]⟩, .int .i64 0] 45)
  have b0 : (w.alloc (.cells #[.string ⟨#[]⟩, .int .i64 0] 45)).cell? ⟨w.heap.size, 0, none⟩ = some (.string ⟨#[]⟩) := by rw [World.cell?_alloc_at _ _ _ _ rfl]; rfl
  have b1 : (w.alloc (.cells #[.string ⟨#[]⟩, .int .i64 0] 45)).cell? ⟨w.heap.size, 1, none⟩ = some (.int .i64 0) := by rw [World.cell?_alloc_at _ _ _ _ rfl]; rfl
  have f0 : (w.alloc (.cells #[.string ⟨#[]⟩, .int .i64 0] 45)).frozen? ⟨w.heap.size, 0, none⟩ = false := World.frozen?_alloc_at _ _ _ _ rfl
  have f1 : (w.alloc (.cells #[.string ⟨#[]⟩, .int .i64 0] 45)).frozen? ⟨w.heap.size, 1, none⟩ = false := World.frozen?_alloc_at _ _ _ _ rfl
  have zs : (w.alloc (.cells #[.string ⟨#[]⟩, .int .i64 0] 45)).heap.size = w.heap.size + 1 := by simp
  have R0 := hR.le L0
  generalize w.alloc (.cells #[.string ⟨#[]⟩, .int .i64 0] 45) = W at *
  have hgz : w.heap.size ≠ g := by omega
  refine (of_lit fourS 4 _ _ g p A n cap bs W _ rfl rfl (by decide) (by decide) fourS_ok (by omega) zs.symm R0).mono ?_
  rintro e w1 ⟨s, rfl, hs, R1, G1⟩
  have hso := fourS_ok s hs
  have z1 : w.heap.size < w1.heap.size := by have := G1.size; omega
  replace b0 := (G1.cell (k := w.heap.size) (o := 0) (by omega) hgz).trans b0
  replace b1 := (G1.cell (k := w.heap.size) (o := 1) (by omega) hgz).trans b1
  replace f0 := (G1.frozen (k := w.heap.size) (o := 0) (by omega) hgz).trans f0
  replace f1 := (G1.frozen (k := w.heap.size) (o := 1) (by omega) hgz).trans f1
  have G := (Gx.of_le (g := g) L0).trans G1
  clear G1 hs R0 L0 zs
  go_wp2_with fail
  refine (one_lit [3, 7, 3, 999] 4 _ _ g (p + 1) A n cap bs w1 _ rfl rfl (by decide) (by decide) (by intro x hx; simp at hx; constructor <;> omega) (by omega) rfl R1).mono ?_
  rintro e w2 ⟨v, rfl, hv, R2, G2⟩
  have hvo : -9223372036854775808 ≤ v ∧ v ≤ 9223372036854775807 := by simp at hv; omega
  replace b0 := (G2.cell (k := w.heap.size) (o := 0) z1 hgz).trans b0
  replace b1 := (G2.cell (k := w.heap.size) (o := 1) z1 hgz).trans b1
  replace f0 := (G2.frozen (k := w.heap.size) (o := 0) z1 hgz).trans f0
  replace f1 := (G2.frozen (k := w.heap.size) (o := 1) z1 hgz).trans f1
  replace G := G.trans G2
  clear G2 hv R1
  have k0 : (w2.setCell ⟨w.heap.size, 0, none⟩ (.string s)).cell? ⟨w.heap.size, 0, none⟩ = some (.string s) := cell_set_same b0
  have k1 : ((w2.setCell ⟨w.heap.size, 0, none⟩ (.string s)).setCell ⟨w.heap.size, 1, none⟩ (.int .i64 v)).cell? ⟨w.heap.size, 1, none⟩ = some (.int .i64 v) := cell_set_same (by rw [cell_set_other (.inr (by decide))]; exact b1)
  have RE := Lib.hid ((R2.setNew (o := 0) (.string s) hgz HA.out).setNew (o := 1) (.int .i64 v) hgz HA.out)
  have GE := Lib.hid ((G.setNewF (o := 0) (Nat.le_refl _) (.string s)).setNewF (o := 1) (Nat.le_refl _) (.int .i64 v))
  clear R2 G
  go_wp2
  exact bodyPost_ret (v := .agg #[.string s, .int .i64 v]) (by simp [results, Tryd.results57, go_sem, k0, k1]) rfl ⟨⟨s, v⟩, rfl, ⟨hso, hvo.1, hvo.2⟩, RE.out, GE.out⟩
def FrmsOut (k g p : Nat) (A : Option Addr) (n cap : Nat) (bs : List By) (w : World) (e : Ending) (w' : World) : Prop :=
  ∃ (v : Value) (xs : List Frm) (p' : Nat), e = .returned v ∧ w'.ownsRow w.heap.size 45 2 v xs.length (xs.flatMap Enc.cells) ∧ (∀ x ∈ xs, Enc.ok x) ∧ xs.length ≤ 12 ∧ p' ≤ p + k ∧ Rd w' g p' A n cap bs ∧ Gx g w w'
set_option maxRecDepth 100000 in
theorem goodTrace_any (g p : Nat) (A : Option Addr) (n cap : Nat) (bs : List By) (w : World) (hp : p ≤ 800000) (hR : Rd w g p A n cap bs) :
    Calls Tryd.prog 33 #[.pointer (some ⟨g, 0, none⟩)] w (FrmsOut 20 g p A n cap bs w) := by
  have hgw := hR.lt
  obtain ⟨i0, hi, hz0, hz1, hz2⟩ := info_parts infoFrame
  have HA : Hid (0 < n → ∀ a, A = some a → a.block < w.heap.size) := fun hn a e => hR.sl.under hn a e
  go_enter Tryd.func33, Tryd.ntmps33
  go_wp2_with fail
  have L0 := Le.new w (.cells #[] 45)
  have O0 := own_empty (w := w) (base := w.heap.size) (g := w.heap.size) (e := 45) (size := 2) (Nat.le_refl _) rfl
  have zs : (w.alloc (.cells #[] 45)).heap.size = w.heap.size + 1 := by simp
  have R0 := hR.le L0
  generalize w.alloc (.cells #[] 45) = W at *
  refine (one_lit [3, 4, 2, 5, 1, 0, 6] 7 _ _ g p A n cap bs W _ rfl rfl (by decide) (by decide) (by intro x hx; simp at hx; constructor <;> omega) (by omega) zs.symm R0).mono ?_
  rintro e w1 ⟨u, rfl, hu, R1, G1⟩
  have hu1 : 0 ≤ u ∧ u ≤ 6 := by simp at hu; omega
  have O1 := O0.kept G1 (.inr (fun e => by have e1 : w.heap.size = g := (by injection e); omega))
  have G := (Gx.of_le (g := g) L0).trans G1
  clear hu R0 O0 L0 G1 zs
  go_wp2
  go_loopw [3, 4] (fun v i wr => ∃ (L : List Frm) (k p' : Nat), i = .int .i64 k ∧ k ≤ 6 ∧ p' + 3 * k ≤ p + 19 ∧ (∀ x ∈ L, Enc.ok x) ∧ L.length ≤ 12 ∧ wr.ownsRow w.heap.size 45 2 v L.length (L.flatMap Enc.cells) ∧ w.heap.size < wr.heap.size ∧ Rd wr g p' A n cap bs ∧ Gx g w wr) (fun _ i _ => (intOf i).toNat)
  case atStart =>
    obtain ⟨k, rfl⟩ := Int.eq_ofNat_of_zero_le hu1.1
    exact ⟨[], k, p + 1, rfl, by omega, by omega, by simp, by simp, O1, (O1.lt _ rfl).2, R1, G⟩
  case round =>
    clear O1 R1 G hu1
    obtain ⟨L, k, p', rfl, hk, hp', hL, hl, O, z, R, G⟩ := hrel
    by_cases h0 : 0 < k
    · have hk0 : (0 : Int) < k := by omega
      obtain ⟨j, rfl⟩ : ∃ j, k = j + 1 := ⟨k - 1, by omega⟩
      go_wp2_with fail
      refine (aFrame_any g p' A n cap bs wr (by omega) R).mono ?_
      rintro e w2 ⟨f, rfl, hf, R2, hg2⟩
      have O2 := O.kept hg2 (.inr (fun e => by have := (O.lt _ e).1; omega))
      have z2 := Nat.lt_of_lt_of_le z hg2.size
      have G2 := G.trans hg2
      clear O R G hg2 z
      go_wp2_with fail
      obtain ⟨d0, d1, zd, hl2⟩ := boxF w2 f 45
      have R2' := R2.le hl2
      have O2' := own_le O2 hl2
      have G2' := G2.trans (Gx.of_le hl2)
      have zz : w2.heap.size + 1 = (w2.alloc (.cells #[.string f.fn, .int .i64 f.line] 45)).heap.size := by simp
      generalize w2.alloc (.cells #[.string f.fn, .int .i64 f.line] 45) = W2 at *
      have hfg : w2.heap.size ≠ g := by have := R2.lt; omega
      have HNB0 : Hid (_ ≠ some w2.heap.size) := fun e => by have := (O2.lt _ e).2; omega
      clear R2 O2 G2 hl2
      refine (one_lit [1, 1, 2, 3] 4 _ _ g (p' + 2) A n cap bs W2 _ rfl rfl (by decide) (by decide) (by intro x hx; simp at hx; constructor <;> omega) (by omega) zz R2').mono ?_
      rintro e w3 ⟨u, rfl, hu, R3, hg3⟩
      have hu1 : 0 ≤ u ∧ u ≤ 3 := by simp at hu; omega
      have O3 := O2'.kept hg3 (.inr (fun e => by have := (O2'.lt _ e).1; omega))
      have z3 := Nat.lt_of_lt_of_le zd hg3.size
      have G3 := G2'.trans hg3
      replace d0 := (hg3.cell (k := w2.heap.size) (o := 0) zd hfg).trans d0
      replace d1 := (hg3.cell (k := w2.heap.size) (o := 1) zd hfg).trans d1
      clear hu O2' R2' G2' hg3 zd zz
      generalize hB : w2.heap.size = B at *
      clear hB
      generalize wr = WR at *
      go_wp2
      go_loopw [3, 6] (fun v i wr => ∃ (L : List Frm) (q : Nat), i = .int .i64 q ∧ q ≤ 3 ∧ (∀ x ∈ L, Enc.ok x) ∧ L.length ≤ 12 ∧ wr.ownsRow w.heap.size 45 2 v L.length (L.flatMap Enc.cells) ∧ Rd wr g (p' + 3) A n cap bs ∧ Gx g w wr ∧ wr.cell? ⟨B, 0, none⟩ = some (.string f.fn) ∧ wr.cell? ⟨B, 1, none⟩ = some (.int .i64 f.line) ∧ B < wr.heap.size ∧ Hid (v.ownBlock ≠ some B)) (fun _ i _ => (intOf i).toNat)
      case atStart =>
        obtain ⟨q, rfl⟩ := Int.eq_ofNat_of_zero_le hu1.1
        exact ⟨L, q, rfl, by omega, hL, hl, O3, R3, G3, d0, d1, z3, HNB0⟩
      case round =>
        clear O3 R3 G3 d0 d1 z3 hu1 hL hl
        obtain ⟨L, q, rfl, hq, hL, hl, O, R, G, d0, d1, zB, HNB⟩ := hrel
        obtain ⟨A1, c1, rfl⟩ := own_form O
        have hwj : IntKind.i64.wrap ((j : Int) + 1 - 1) = (j : Int) := by rw [Int.add_sub_cancel]; exact IntWalk.i64_in _ (by omega)
        cases q with
        | zero =>
          clear hq d0 d1
          go_wp2
          go_roundw
          case rel => exact ⟨L, j, p' + 3, by go_num, by omega, by omega, hL, hl, O, by omega, R, G⟩
          case measure => (simp [intOf]) <;> omega
        | succ t =>
          have hwt : IntKind.i64.wrap ((t : Int) + 1 - 1) = (t : Int) := by rw [Int.add_sub_cancel]; exact IntWalk.i64_in _ (by omega)
          by_cases h12 : L.length < 12
          · have hbk := O.lt
            go_wp2_with (at_builtin; refine wpList_append_sl rfl _ _ 23 rfl w.heap.size 45 i0 _ 24 Tryd.underlying23 hi hz0 hz1 hz2 rfl _ _ L rfl (O.alloc _) _ 1 1 [f] rfl (sl_one f rfl hf rfl) (by unfold maxLen; omega) (by omega) (Nat.le_trans (by omega) (Le.new wr _).size) ?_; intro v1 w4 O4 hg4 hbl; have HNB4 : Hid (v1.ownBlock ≠ some B) := (fun e => by rcases hbl with h | h; exact HNB.out (h.symm.trans e); (have e2 := h.symm.trans e; simp at e2; omega)); have LA := Le.new wr (.cells #[.string f.fn, .int .i64 f.line] 45); have R4 := (R.le LA).grown hg4 (fun e => by have h := (hbk _ e).1; omega) (fun hn a e e2 => by have h := (hbk _ e2).1; have := HA.out hn a e; omega); have G4 := (G.trans (Gx.of_le LA)).grown hg4 (fun k hk => by have h := (hbk _ hk).1; omega); have z4 := Nat.lt_of_lt_of_le (Nat.lt_of_lt_of_le zB LA.size) hg4.size; have e0 := hg4.cell (a := ⟨B, 0, none⟩) ((LA.cell zB).trans d0) (fun e => HNB.out e.symm); have e1 := hg4.cell (a := ⟨B, 1, none⟩) ((LA.cell zB).trans d1) (fun e => HNB.out e.symm); clear hg4 LA)
            go_roundw
            case rel => exact ⟨L ++ [f], t, by go_num, by omega, (fun y hy => by rcases List.mem_append.1 hy with h | h; exact hL y h; simp at h; subst h; exact hf), by simp; omega, by rw [List.length_append]; exact O4, R4, G4, e0, e1, z4, HNB4⟩
            case measure => (simp [intOf]) <;> omega
          · have h12' : L.length = 12 := by omega
            clear d0 d1
            go_wp2
            go_roundw
            case rel => exact ⟨L, j, p' + 3, by go_num, by omega, by omega, hL, hl, O, by omega, R, G⟩
            case measure => (simp [intOf]) <;> omega
    · obtain rfl : k = 0 := by omega
      go_wp2
      go_ret
      exact ⟨_, L, p', rfl, O, hL, hl, by omega, R, G⟩
def threeS : List ByteArray := [⟨#[]⟩, ⟨#[70]⟩, ⟨#[116, 111, 111, 108, 111, 110, 103]⟩]
theorem threeS_ok : ∀ x ∈ threeS, Enc.ok x := by
  intro x hx; simp [threeS] at hx
  show x.size ≤ _
  rcases hx with rfl | rfl | rfl <;> decide
set_option maxRecDepth 100000 in
theorem someTrace_any (g p : Nat) (A : Option Addr) (n cap : Nat) (bs : List By) (w : World) (hp : p ≤ 700000) (hR : Rd w g p A n cap bs) :
    Calls Tryd.prog 22 #[.pointer (some ⟨g, 0, none⟩)] w (FrmsOut 30 g p A n cap bs w) := by
  have hgw := hR.lt
  have HA : Hid (0 < n → ∀ a, A = some a → a.block < w.heap.size) := fun hn a e => hR.sl.under hn a e
  go_enter Tryd.func22, Tryd.ntmps22
  go_wp2_with fail
  refine (goodTrace_any g p A n cap bs w (by omega) hR).mono ?_
  rintro e w1 ⟨v, xs, p1, rfl, O, hok, hl, hp1, R, G⟩
  have HOK := Lib.hid hok; clear hok
  rcases Nat.eq_zero_or_pos xs.length with h0 | h0
  · have hx : xs = [] := List.eq_nil_of_length_eq_zero h0
    subst hx
    obtain ⟨A1, c1, rfl⟩ := own_form O
    replace O : w1.ownsRow w.heap.size 45 2 (.slice A1 0 c1) 0 (([] : List Frm).flatMap Enc.cells) := O
    clear h0
    go_wp2
    go_ret
    exact ⟨_, [], p1, rfl, O, HOK.out, by simp, by omega, R, G⟩
  · obtain ⟨m, hm⟩ : ∃ m, xs.length = m + 1 := ⟨xs.length - 1, by omega⟩
    rw [hm] at O
    obtain ⟨b, c1, rfl⟩ := own_some O
    have HM := Lib.hid hm
    have hm12 : m ≤ 11 := by omega
    have hbb := (O.lt b rfl)
    have hbg : b ≠ g := by omega
    have HAB : Hid (0 < n → ∀ a, A = some a → a.block ≠ b) := fun hn a e => by have := HA.out hn a e; omega
    clear hm h0 hl
    go_wp2_with fail
    refine (pick_any ((m + 1 : Nat) : Int) g p1 A n cap bs w1 (by omega) (by omega) (by omega) R).mono ?_
    rintro e w2 ⟨x, rfl, hx0, hx1, R2, hg2⟩
    have O2 := O.kept hg2 (.inr (fun e => hbg (by injection e)))
    have G2 := G.trans hg2
    obtain ⟨k, rfl⟩ := Int.eq_ofNat_of_zero_le hx0
    have hk : k < m + 1 := by rcases hx1 with h | h <;> omega
    clear O R G hg2 hx0 hx1
    go_wp2_with fail
    refine (pick_any 24 g (p1 + 1) A n cap bs w2 (by omega) (by omega) (by omega) R2).mono ?_
    rintro e w3 ⟨y, rfl, hy0, hy1, R3, hg3⟩
    have O3 := O2.kept hg3 (.inr (fun e => hbg (by injection e)))
    have G3 := G2.trans hg3
    clear O2 R2 G2 hg3 hy1
    by_cases hy : y = 0
    · subst hy
      go_wp2_with fail
      refine (of_lit threeS 3 _ _ g (p1 + 1 + 1) A n cap bs w3 _ rfl rfl (by decide) (by decide) threeS_ok (by omega) rfl R3).mono ?_
      rintro e w4 ⟨s, rfl, hs, R4, hg4⟩
      have hso := threeS_ok s hs
      have O4 := O3.kept hg4 (.inr (fun e => hbg (by injection e)))
      have G4 := G3.trans hg4
      have hkx : k < xs.length := by have := HM.out; omega
      have hc0 : w4.cell? ⟨b, k * 2, none⟩ = some (.string xs[k].fn) := by rw [O4.cellAt _ (by omega)]; exact flat_at xs k hkx 0 (by decide)
      have hf0 := O4.frozenAt (k * 2)
      have h1 := (O4.stored (k * 2) (.string s)).1
      rw [flat_frm_fn xs k hkx s] at h1
      have HO := Lib.hid h1
      have HOK2 : Hid (∀ x ∈ xs.set k {xs[k] with fn := s}, Enc.ok x) := fun x hx => by
        rcases List.mem_or_eq_of_mem_set hx with h | rfl
        · exact HOK.out x h
        · exact ⟨hso, (HOK.out _ (List.getElem_mem hkx)).2⟩
      have HR := Lib.hid (R4.setNew (o := k * 2) (.string s) hbg HAB.out)
      have HG := Lib.hid (G4.setNewF (b := b) (o := k * 2) hbb.1 (.string s))
      clear h1 O4 G4 R4 O3 G3 R3 hs hg4
      go_wp2
      go_ret
      exact ⟨_, xs.set k {xs[k] with fn := s}, p1 + 1 + 1 + 1, rfl, by rw [List.length_set, HM.out]; exact HO.out, HOK2.out, by rw [List.length_set, HM.out]; omega, by omega, HR.out, HG.out⟩
    · have hyb : (y == 0) = false := by simpa using hy
      by_cases hy2 : y = 1
      · subst hy2
        go_wp2_with fail
        refine (one_lit [0, 1000] 2 _ _ g (p1 + 1 + 1) A n cap bs w3 _ rfl rfl (by decide) (by decide) (by intro x hx; simp at hx; constructor <;> omega) (by omega) rfl R3).mono ?_
        rintro e w4 ⟨s, rfl, hs, R4, hg4⟩
        have hso : -9223372036854775808 ≤ s ∧ s ≤ 9223372036854775807 := by simp at hs; omega
        have O4 := O3.kept hg4 (.inr (fun e => hbg (by injection e)))
        have G4 := G3.trans hg4
        have hkx : k < xs.length := by have := HM.out; omega
        have hc0 : w4.cell? ⟨b, k * 2 + 1, none⟩ = some (.int .i64 xs[k].line) := by rw [O4.cellAt _ (by omega)]; exact flat_at xs k hkx 1 (by decide)
        have hf0 := O4.frozenAt (k * 2 + 1)
        have h1 := (O4.stored (k * 2 + 1) (.int .i64 s)).1
        rw [flat_frm_line xs k hkx s] at h1
        have HO := Lib.hid h1
        have HOK2 : Hid (∀ x ∈ xs.set k {xs[k] with line := s}, Enc.ok x) := fun x hx => by
          rcases List.mem_or_eq_of_mem_set hx with h | rfl
          · exact HOK.out x h
          · exact ⟨(HOK.out _ (List.getElem_mem hkx)).1, hso.1, hso.2⟩
        have HR := Lib.hid (R4.setNew (o := k * 2 + 1) (.int .i64 s) hbg HAB.out)
        have HG := Lib.hid (G4.setNewF (b := b) (o := k * 2 + 1) hbb.1 (.int .i64 s))
        clear h1 O4 G4 R4 O3 G3 R3 hs hg4
        go_wp2
        go_ret
        exact ⟨_, xs.set k {xs[k] with line := s}, p1 + 1 + 1 + 1, rfl, by rw [List.length_set, HM.out]; exact HO.out, HOK2.out, by rw [List.length_set, HM.out]; omega, by omega, HR.out, HG.out⟩
      · have hyc : (y == 1) = false := by simpa using hy2
        clear hy hy2 hy0
        go_wp2
        go_ret
        exact ⟨_, xs, p1 + 2, rfl, by rw [HM.out]; exact O3, HOK.out, by rw [HM.out]; omega, by omega, R3, G3⟩
def TwoOut (k g p : Nat) (A : Option Addr) (n cap : Nat) (bs : List By) (w : World) (e : Ending) (w' : World) : Prop :=
  ∃ (v u : Value) (xs ys : List Frm) (p' : Nat), e = .returned (.tuple #[v, u]) ∧ w'.ownsRow w.heap.size 45 2 v xs.length (xs.flatMap Enc.cells) ∧ (∀ x ∈ xs, Enc.ok x) ∧ xs.length ≤ 12 ∧
    w'.ownsRow w.heap.size 45 2 u ys.length (ys.flatMap Enc.cells) ∧ (∀ x ∈ ys, Enc.ok x) ∧ ys.length ≤ 12 ∧ p' ≤ p + k ∧ Rd w' g p' A n cap bs ∧ Gx g w w'
end

section
theorem own_sl {w : World} {base : Nat} {A : Option Addr} {n c : Nat} {xs : List Frm} (h : w.ownsRow base 45 2 (.slice A n c) n (xs.flatMap Enc.cells)) (hok : ∀ x ∈ xs, Enc.ok x) : Sl w A n c xs := Sl.of_own h rfl (by decide) hok
def DrT (w : World) (e : Ending) (w' : World) : Prop := ∃ (B : Option Addr) (m c : Nat) (xs : List Frm), e = .returned (.slice B m c) ∧ Sl w' B m c xs ∧ m ≤ 12 ∧ Le w w'
def DrTT (w : World) (e : Ending) (w' : World) : Prop := ∃ (B D : Option Addr) (m c k d : Nat) (xs ys : List Frm), e = .returned (.tuple #[.slice B m c, .slice D k d]) ∧ Sl w' B m c xs ∧ m ≤ 12 ∧ Sl w' D k d ys ∧ k ≤ 12 ∧ Le w w'
def DrTI (w : World) (e : Ending) (w' : World) : Prop := ∃ (B : Option Addr) (m c : Nat) (xs : List Frm) (a : Int), e = .returned (.tuple #[.slice B m c, .int .i64 a]) ∧ Sl w' B m c xs ∧ m ≤ 12 ∧ (-100 ≤ a ∧ a ≤ 100) ∧ Le w w'
def DrTS (w : World) (e : Ending) (w' : World) : Prop := ∃ (B : Option Addr) (m c : Nat) (xs : List Frm) (s : ByteArray), e = .returned (.tuple #[.slice B m c, .string s]) ∧ Sl w' B m c xs ∧ m ≤ 12 ∧ s.size ≤ 100 ∧ Le w w'
def DrTF (w : World) (e : Ending) (w' : World) : Prop := ∃ (B : Option Addr) (m c : Nat) (xs : List Frm) (f : Frm), e = .returned (.tuple #[.slice B m c, .agg #[.string f.fn, .int .i64 f.line]]) ∧ Sl w' B m c xs ∧ m ≤ 12 ∧ Enc.ok f ∧ Le w w'
end

section
theorem findN_spec (s : ByteArray) : ∀ (L : List Cls) (j : Int), (findN L s j = -1 ∧ ∀ i (h : i < L.length), L[i].name ≠ s) ∨ ∃ i, ∃ h : i < L.length, findN L s j = j + i ∧ L[i].name = s ∧ ∀ k (hk : k < i), (L[k]'(by omega)).name ≠ s
  | [], j => .inl ⟨rfl, fun i h => absurd h (by simp)⟩
  | c :: r, j => by
    unfold findN
    by_cases h : c.name = s
    · rw [if_pos h]
      exact .inr ⟨0, by simp, by simp, h, fun k hk => absurd hk (by omega)⟩
    · rw [if_neg h]
      rcases findN_spec s r (j + 1) with ⟨h1, h2⟩ | ⟨i, hi, h1, h2, h3⟩
      · refine .inl ⟨h1, fun i hi => ?_⟩
        cases i with
        | zero => exact h
        | succ i => exact h2 i (by simpa using hi)
      · refine .inr ⟨i + 1, by simpa using hi, by rw [h1]; omega, h2, fun k hk => ?_⟩
        cases k with
        | zero => exact h
        | succ k => exact h3 k (by omega)
theorem names_ne {xs : List Cls} (g : Good xs) {i k : Nat} (hik : i < k) (hk : k < xs.length) : (xs[i]'(by omega)).name ≠ xs[k].name := by
  have h := g.diff k hk
  rcases findN_spec xs[k].name (xs.take k) 0 with ⟨_, h2⟩ | ⟨j, hj, h1, _, _⟩
  · have := h2 i (by rw [List.length_take]; omega)
    rwa [List.getElem_take] at this
  · omega
theorem findN_here {xs : List Cls} (g : Good xs) {k : Nat} (hk : k < xs.length) : findN xs xs[k].name 0 = k := by
  rcases findN_spec xs[k].name xs 0 with ⟨_, h2⟩ | ⟨j, hj, h1, h2, h3⟩
  · exact absurd rfl (h2 k hk)
  · rcases Nat.lt_trichotomy j k with h | h | h
    · exact absurd h2 (names_ne g h hk)
    · omega
    · exact absurd rfl (h3 k h)
theorem findN_hit {xs : List Cls} {s : ByteArray} (h : 0 ≤ findN xs s 0) : ∃ i, ∃ hi : i < xs.length, findN xs s 0 = i ∧ xs[i].name = s := by
  rcases findN_spec s xs 0 with ⟨h1, _⟩ | ⟨j, hj, h1, h2, _⟩
  · omega
  · exact ⟨j, hj, by omega, h2⟩
end

section
/-- the bytes of a text, and the text of bytes -/
def bl (s : ByteArray) : List UInt8 := s.data.toList
def tb (l : List UInt8) : ByteArray := ⟨l.toArray⟩
theorem tb_bl (s : ByteArray) : tb (bl s) = s := rfl
theorem bl_tb (l : List UInt8) : bl (tb l) = l := rfl
theorem bl_app (a b : ByteArray) : bl (a ++ b) = bl a ++ bl b := by
  unfold bl; rw [ByteArray.data_append, Array.toList_append]
theorem bl_len (s : ByteArray) : (bl s).length = s.size := rfl
theorem bl_inj {a b : ByteArray} (h : bl a = bl b) : a = b := by rw [← tb_bl a, ← tb_bl b, h]
theorem bl_nil : bl ByteArray.empty = [] := rfl

/-- cuts at a byte -/
theorem indexByte_skip {c : UInt8} : ∀ {a : List UInt8}, c ∉ a → ∀ r, Lib.indexByte (a ++ c :: r) c = a.length
  | [], _, r => by simp [Lib.indexByte]
  | x :: a, h, r => by
    have hx : (x == c) = false := by
      rw [beq_eq_false_iff_ne]; rintro rfl; exact h (by simp)
    have ih := indexByte_skip (a := a) (fun q => h (List.mem_cons_of_mem _ q)) r
    show Lib.indexByte (x :: (a ++ c :: r)) c = _
    rw [Lib.indexByte, ih, hx]
    have : ((a.length : Int) == -1) = false := by rw [beq_eq_false_iff_ne]; omega
    rw [this]
    simp
theorem indexByte_miss {c : UInt8} : ∀ {a : List UInt8}, c ∉ a → Lib.indexByte a c = -1
  | [], _ => rfl
  | x :: a, h => by
    have hx : (x == c) = false := by
      rw [beq_eq_false_iff_ne]; rintro rfl; exact h (by simp)
    rw [Lib.indexByte, indexByte_miss (a := a) (fun q => h (List.mem_cons_of_mem _ q)), hx]
    rfl
theorem cut_line {c : UInt8} {a : List UInt8} (h : c ∉ a) (r : List UInt8) : Lib.cut (a ++ c :: r) [c] = (a, r, true) := by
  unfold Lib.cut
  rw [Lib.index_one, indexByte_skip h r, if_pos (by omega)]
  simp
theorem cut_one {c : UInt8} {a : List UInt8} (h : c ∉ a) : Lib.cut a [c] = (a, [], false) := by
  unfold Lib.cut
  rw [Lib.index_one, indexByte_miss h, if_neg (by omega)]
/-- a text is one piece, or one ahead of the byte and what is behind it -/
theorem split_or (c : UInt8) : ∀ (s : List UInt8), (c ∉ s) ∨ ∃ a r, s = a ++ c :: r ∧ c ∉ a
  | [] => .inl (by simp)
  | x :: s => by
    by_cases hx : x = c
    · exact .inr ⟨[], s, by rw [hx]; rfl, by simp⟩
    · rcases split_or c s with h | ⟨a, r, e, h⟩
      · left; intro hm
        rcases List.mem_cons.1 hm with e | e
        · exact hx e.symm
        · exact h e
      · right
        refine ⟨x :: a, r, by rw [e]; rfl, fun hm => ?_⟩
        rcases List.mem_cons.1 hm with e2 | e2
        · exact hx e2.symm
        · exact h e2
theorem cut_shorter (c : UInt8) {s : List UInt8} (h : s ≠ []) : (Lib.cut s [c]).2.1.length < s.length := by
  rcases split_or c s with h1 | ⟨a, r, e, h1⟩
  · rw [cut_one h1]
    show 0 < s.length
    exact List.length_pos_iff.2 h
  · rw [e, cut_line h1]
    simp; omega
theorem cut_fst_len (c : UInt8) (s : List UInt8) : (Lib.cut s [c]).1.length ≤ s.length ∧ (Lib.cut s [c]).2.1.length ≤ s.length := by
  rcases split_or c s with h1 | ⟨a, r, e, h1⟩
  · rw [cut_one h1]; exact ⟨Nat.le_refl _, Nat.zero_le _⟩
  · rw [e, cut_line h1]; simp; omega
/-- the pieces between the bytes of a kind -/
def splitL (c : UInt8) : List UInt8 → List (List UInt8)
  | [] => [[]]
  | x :: r => if x = c then [] :: splitL c r else
    match splitL c r with
    | [] => [[x]]
    | h :: t => (x :: h) :: t
theorem splitL_ne (c : UInt8) (s : List UInt8) : splitL c s ≠ [] := by
  cases s with
  | nil => simp [splitL]
  | cons x r =>
    rw [splitL]
    split
    · simp
    · split <;> simp
theorem splitL_skip {c : UInt8} : ∀ {a : List UInt8}, c ∉ a → ∀ s, ∃ h t, splitL c s = h :: t ∧ splitL c (a ++ s) = (a ++ h) :: t
  | [], _, s => by
    cases h : splitL c s with
    | nil => exact absurd h (splitL_ne c s)
    | cons x r => exact ⟨x, r, rfl, by simpa using h⟩
  | x :: r, hn, s => by
    have hx : x ≠ c := fun e => hn (by simp [e])
    obtain ⟨h, t, e1, e2⟩ := splitL_skip (a := r) (fun hq => hn (List.mem_cons_of_mem _ hq)) s
    refine ⟨h, t, e1, ?_⟩
    show splitL c (x :: (r ++ s)) = _
    rw [splitL, if_neg hx, e2]; rfl
theorem splitL_line {c : UInt8} {a : List UInt8} (h : c ∉ a) (s : List UInt8) : splitL c (a ++ c :: s) = a :: splitL c s := by
  obtain ⟨x, t, e1, e2⟩ := splitL_skip h (c :: s)
  rw [splitL, if_pos rfl] at e1
  injection e1 with e1 e3
  rw [e2, ← e1, ← e3]; simp
theorem splitL_one {c : UInt8} {a : List UInt8} (h : c ∉ a) : splitL c a = [a] := by
  obtain ⟨x, t, e1, e2⟩ := splitL_skip h []
  simp [splitL] at e1
  rw [e1.1, e1.2] at e2
  simpa using e2
theorem splitL_len (c : UInt8) (s : List UInt8) : (splitL c s).length = s.count c + 1 := by
  induction s with
  | nil => rfl
  | cons x r ih =>
    rw [splitL]
    by_cases hx : x = c
    · subst hx
      rw [if_pos rfl, List.length_cons, ih, List.count_cons_self]
    · rw [if_neg hx]
      have e : (x :: r).count c = r.count c := by rw [List.count_cons_of_ne hx]
      rw [e, ← ih]
      cases h : splitL c r with
      | nil => exact absurd h (splitL_ne c r)
      | cons y t => rfl

/-- the line of a class, the lines of several, the text of a tree -/
def lnB (xs : List Cls) (c : Cls) : List UInt8 := cond (decide (0 ≤ c.parent)) (bl c.name ++ 32 :: bl (match xs[c.parent.toNat]? with | some d => d.name | none => ByteArray.empty)) (bl c.name)
def txB (xs : List Cls) : List Cls → List UInt8
  | [] => []
  | c :: r => lnB xs c ++ 10 :: txB xs r
def treeB (xs : List Cls) : List UInt8 := txB xs xs
theorem txB_at {xs ys : List Cls} {k : Nat} (h : k < ys.length) : txB xs (ys.drop k) = lnB xs ys[k] ++ 10 :: txB xs (ys.drop (k + 1)) := by
  rw [List.drop_eq_getElem_cons h]; rfl
theorem txB_end {xs ys : List Cls} {k : Nat} (h : ¬ k < ys.length) : txB xs (ys.drop k) = [] := by
  rw [List.drop_eq_nil_of_le (by omega)]; rfl
theorem lowers_rng : ∀ (l : List UInt8), lowers l = true → ∀ x ∈ l, 97 ≤ x.toNat
  | [], _, x, hx => by simp at hx
  | c :: r, h, x, hx => by
    unfold lowers at h
    simp only [Bool.and_eq_true, decide_eq_true_eq] at h
    rcases List.mem_cons.1 hx with rfl | hx
    · exact h.1.1
    · exact lowers_rng r h.2 x hx
theorem name_rng {s : ByteArray} (h : okName s = true) : (∀ x ∈ bl s, 97 ≤ x.toNat) ∧ 1 ≤ (bl s).length ∧ (bl s).length ≤ 6 := by
  unfold okName at h
  simp only [Bool.and_eq_true, decide_eq_true_eq] at h
  refine ⟨lowers_rng _ h.1.1, ?_, ?_⟩
  · rw [bl_len]; have := h.1.2; omega
  · rw [bl_len]; have := h.2; omega
theorem not_mem_name {s : ByteArray} (h : okName s = true) {c : UInt8} (hc : c.toNat < 97) : c ∉ bl s := fun hm => by
  have := (name_rng h).1 c hm; omega
/-- the line of a class of a valid tree -/
theorem lnB_root {xs : List Cls} (g : Good xs) (h : 0 < xs.length) : lnB xs xs[0] = bl xs[0].name := by
  unfold lnB; rw [g.root h]; rfl
theorem lnB_up {xs : List Cls} (g : Good xs) {k : Nat} (h : k < xs.length) (h0 : 0 < k) : ∃ p : Nat, ∃ hp : p < k, xs[k].parent = (p : Int) ∧ lnB xs xs[k] = bl xs[k].name ++ 32 :: bl (xs[p]'(by omega)).name := by
  have a := g.par k h h0
  obtain ⟨p, hp⟩ := Int.eq_ofNat_of_zero_le a.1
  refine ⟨p, by omega, hp, ?_⟩
  unfold lnB
  rw [decide_eq_true a.1, hp, Int.toNat_natCast, List.getElem?_eq_getElem (by omega)]
  rfl
theorem lnB_nl {xs : List Cls} (g : Good xs) {k : Nat} (h : k < xs.length) : (10 : UInt8) ∉ lnB xs xs[k] ∧ (lnB xs xs[k]).length ≤ 13 := by
  have hn := g.name k h
  have hl := (name_rng hn).2.2
  rcases Nat.eq_zero_or_pos k with h0 | h0
  · subst h0
    rw [lnB_root g h]
    exact ⟨not_mem_name hn (by decide), by omega⟩
  · obtain ⟨p, hp, _, e⟩ := lnB_up g h h0
    have hn2 := g.name p (by omega)
    have hl2 := (name_rng hn2).2.2
    rw [e]
    refine ⟨fun hm => ?_, by simp; omega⟩
    rcases List.mem_append.1 hm with hm | hm
    · exact not_mem_name hn (by decide) hm
    · rcases List.mem_cons.1 hm with e2 | hm
      · exact absurd e2 (by decide)
      · exact not_mem_name hn2 (by decide) hm
theorem txB_len {xs : List Cls} (g : Good xs) : ∀ (m k : Nat), k + m = xs.length → (txB xs (xs.drop k)).length ≤ 14 * m := by
  intro m
  induction m with
  | zero => intro k hk; rw [txB_end (by omega)]; simp
  | succ m ih =>
    intro k hk
    have := ih (k + 1) (by omega)
    have h2 := (lnB_nl g (k := k) (by omega)).2
    rw [txB_at (by omega)]
    simp; omega
theorem treeB_len {xs : List Cls} (g : Good xs) : (treeB xs).length ≤ 112 := by
  have := txB_len g xs.length 0 (by omega)
  have := g.hi
  rw [List.drop_zero] at *
  unfold treeB; omega
/-- trees of texts: the program's -/
def pcI (acc : List Cls) (line : List UInt8) : Cls := ⟨tb (Lib.cut line [32]).1, findN acc (tb (Lib.cut line [32]).2.1) 0⟩
def pI : Nat → List UInt8 → List Cls → Option (List Cls)
  | 0, _, acc => some acc
  | m + 1, rest, acc => if rest = [] then some acc else if acc.length = 8 then none else pI m (Lib.cut rest [10]).2.1 (acc ++ [pcI acc (Lib.cut rest [10]).1])
/-- trees of texts: the model's -/
def pcS (acc : List Cls) (line : List UInt8) : Cls :=
  match splitL 32 line with
  | [a, b] => ⟨tb a, findN acc (tb b) 0⟩
  | a :: _ => ⟨tb a, -1⟩
  | [] => ⟨ByteArray.empty, -1⟩
def pS : List (List UInt8) → List Cls → List Cls
  | [], acc => acc
  | [_], acc => acc
  | l :: r, acc => pS r (acc ++ [pcS acc l])
theorem findN_take {xs : List Cls} (g : Good xs) {p k : Nat} (hp : p < k) (hk : k ≤ xs.length) : findN (xs.take k) (xs[p]'(by omega)).name 0 = (p : Int) := by
  rcases findN_spec (xs[p]'(by omega)).name (xs.take k) 0 with ⟨_, h2⟩ | ⟨j, hj, h1, h2, h3⟩
  · exact absurd (by rw [List.getElem_take]) (h2 p (by rw [List.length_take]; omega))
  · rw [List.length_take] at hj
    rw [List.getElem_take] at h2
    have e := findN_here g (k := p) (by omega)
    have e2 := findN_here g (k := j) (by omega)
    rw [h2] at e2
    rw [e] at e2
    rw [h1]; omega
theorem pcI_line {xs : List Cls} (g : Good xs) {k : Nat} (h : k < xs.length) : pcI (xs.take k) (lnB xs xs[k]) = xs[k] ∧ pcS (xs.take k) (lnB xs xs[k]) = xs[k] := by
  have hn := g.name k h
  have h32 := not_mem_name hn (c := 32) (by decide)
  rcases Nat.eq_zero_or_pos k with h0 | h0
  · subst h0
    rw [lnB_root g h]
    unfold pcI pcS
    rw [cut_one h32, splitL_one h32]
    have hr := g.root h
    constructor
    · show (⟨tb (bl xs[0].name), findN (xs.take 0) (tb []) 0⟩ : Cls) = xs[0]
      rw [tb_bl, List.take_zero]
      show (⟨xs[0].name, -1⟩ : Cls) = xs[0]
      rw [← hr]
    · show (⟨tb (bl xs[0].name), -1⟩ : Cls) = xs[0]
      rw [tb_bl, ← hr]
  · obtain ⟨p, hp, e, e2⟩ := lnB_up g h h0
    have hn2 := g.name p (by omega)
    have h32b := not_mem_name hn2 (c := 32) (by decide)
    have hf := findN_take g hp (Nat.le_of_lt h)
    rw [e2]
    unfold pcI pcS
    rw [cut_line h32, splitL_line h32, splitL_one h32b]
    constructor
    · show (⟨tb (bl xs[k].name), findN (xs.take k) (tb (bl _)) 0⟩ : Cls) = xs[k]
      rw [tb_bl, tb_bl, hf, ← e]
    · show (⟨tb (bl xs[k].name), findN (xs.take k) (tb (bl _)) 0⟩ : Cls) = xs[k]
      rw [tb_bl, tb_bl, hf, ← e]
theorem pI_tree {xs : List Cls} (g : Good xs) : ∀ (m k : Nat), k + m = xs.length → ∀ f, m < f → pI f (txB xs (xs.drop k)) (xs.take k) = some xs := by
  intro m
  induction m with
  | zero =>
    intro k hk f hf
    obtain ⟨f, rfl⟩ : ∃ q, f = q + 1 := ⟨f - 1, by omega⟩
    rw [txB_end (by omega), pI, if_pos rfl, List.take_of_length_le (by omega)]
  | succ m ih =>
    intro k hk f hf
    obtain ⟨f, rfl⟩ : ∃ q, f = q + 1 := ⟨f - 1, by omega⟩
    have h : k < xs.length := by omega
    have := g.hi
    rw [txB_at h, pI, if_neg (by simp), if_neg (by rw [List.length_take]; omega), cut_line (lnB_nl g h).1]
    show pI f (txB xs (xs.drop (k + 1))) (xs.take k ++ [pcI (xs.take k) (lnB xs xs[k])]) = _
    rw [(pcI_line g h).1, ← List.take_succ_eq_append_getElem h]
    exact ih (k + 1) (by omega) f (by omega)
theorem pS_tree {xs : List Cls} (g : Good xs) : ∀ (m k : Nat), k + m = xs.length → pS (splitL 10 (txB xs (xs.drop k))) (xs.take k) = xs := by
  intro m
  induction m with
  | zero =>
    intro k hk
    rw [txB_end (by omega)]
    show pS [[]] _ = _
    rw [pS, List.take_of_length_le (by omega)]
  | succ m ih =>
    intro k hk
    have h : k < xs.length := by omega
    rw [txB_at h, splitL_line (lnB_nl g h).1]
    have := ih (k + 1) (by omega)
    cases e : splitL 10 (txB xs (xs.drop (k + 1))) with
    | nil => exact absurd e (splitL_ne _ _)
    | cons a r =>
      rw [e] at this
      rw [pS, (pcI_line g h).2, ← List.take_succ_eq_append_getElem h]
      · exact this
      · simp
/-- the tree of a text, and whether there is one -/
def ptT (s : ByteArray) : List Cls := pS (splitL 10 (bl s)) []
def ptOk (s : ByteArray) : Bool := okTree (ptT s) && decide (treeB (ptT s) = bl s)
def ptX (s : ByteArray) : List Cls := cond (ptOk s) (ptT s) []
def ptI (s : ByteArray) : Option (List Cls) := pI (s.size + 1) (bl s) []
theorem pt_good {s : ByteArray} {xs : List Cls} (h1 : okTree xs = true) (h2 : treeB xs = bl s) : ptT s = xs ∧ ptI s = some xs := by
  have g := good_of h1
  have a := pS_tree g xs.length 0 (by omega)
  have hl : xs.length < s.size + 1 := by
    have hx : ∀ (m k : Nat), k + m = xs.length → m ≤ (txB xs (xs.drop k)).length := by
      intro m
      induction m with
      | zero => intro k _; omega
      | succ m ih => intro k hk; have := ih (k + 1) (by omega); rw [txB_at (by omega)]; simp; omega
    have := hx xs.length 0 (by omega)
    rw [List.drop_zero] at this
    have e : (txB xs xs).length = s.size := by
      show (treeB xs).length = s.size
      rw [h2]; rfl
    omega
  have b := pI_tree g xs.length 0 (by omega) (s.size + 1) hl
  rw [List.drop_zero, List.take_zero] at a b
  unfold ptT ptI
  rw [← h2]
  exact ⟨a, b⟩
/-- the program's way gives the same -/
theorem pt_none {s : ByteArray} (h : ptI s = none) : ptOk s = false := by
  cases e : ptOk s
  · rfl
  · unfold ptOk at e
    simp only [Bool.and_eq_true, decide_eq_true_eq] at e
    have := (pt_good e.1 e.2).2
    rw [h] at this; cases this
theorem pt_some {s : ByteArray} {xs : List Cls} (h : ptI s = some xs) : (okTree xs && decide (treeB xs = bl s)) = ptOk s ∧ (ptOk s = true → xs = ptX s) := by
  cases e : ptOk s
  · refine ⟨?_, fun h => by cases h⟩
    cases e2 : (okTree xs && decide (treeB xs = bl s))
    · rfl
    · simp only [Bool.and_eq_true, decide_eq_true_eq] at e2
      have a := (pt_good e2.1 e2.2).1
      unfold ptOk at e
      rw [a, e2.1, decide_eq_true e2.2] at e
      cases e
  · have e' := e
    unfold ptOk at e
    simp only [Bool.and_eq_true, decide_eq_true_eq] at e
    have b := (pt_good e.1 e.2).2
    rw [h] at b
    injection b with b
    subst b
    refine ⟨by rw [e.1, decide_eq_true e.2]; rfl, fun _ => by unfold ptX; rw [e']; rfl⟩
end
end Go.Proofs.YtnjckloodkdbpaaDoor
