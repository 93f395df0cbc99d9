/- draws of traces: aFrame, goodTrace, someTrace -/
import Derived.Test.YtakkmgeocmndjaaS
import Derived.Test.YtakkmgeocmndjaaTrL
namespace Go.Proofs.Ytakkmgeocmndjaa
open Go.RowKit
theorem Rd.grown {w w' : World} {g p : Nat} {A : Option Addr} {n cap : Nat} {bs : List By} {r : Option Nat} (h : Rd w g p A n cap bs) (hg : w.grownBy w' r) (hne : r ≠ some g) (hA : 0 < n → ∀ a, A = some a → r ≠ some a.block) : Rd w' g p A n cap bs :=
  ⟨(hg.block g h.lt (fun e => hne e.symm)).trans h.row, h.sl.grown hg (fun hn a e e2 => hA hn a e e2.symm), h.off, h.few⟩
theorem Gx.grown {g : Nat} {a b c : World} {r : Option Nat} (h : Gx g a b) (hg : b.grownBy c r) (hr : ∀ k, r = some k → a.heap.size ≤ k) : Gx g a c :=
  ⟨hg.os.trans h.os, hg.tape.trans h.tape, hg.output.trans h.output, Nat.le_trans h.size hg.size, fun i hi hne => (hg.block i (Nat.lt_of_lt_of_le hi h.size) (fun e => by have := hr i e.symm; omega)).trans (h.block i hi hne)⟩
theorem Sl.of_rowF {α : Type} [Enc α] {w : World} {b : Nat} {T : TypeId} {cs : Array Value} {fz : Nat × Nat} {n : Nat} {xs : List α} (h : w.heap[b]? = some (.cells cs T fz)) (hc : cs.toList = xs.flatMap Enc.cells) (hn : xs.length = n) (hm : n ≤ 1000) (hok : ∀ x ∈ xs, Enc.ok x) : Sl w (some ⟨b, 0, none⟩) n n xs := by
  refine ⟨hn, Nat.le_refl _, by omega, hok, fun _ => ⟨b, 0, rfl, ?_, fun j u hu => ?_⟩⟩
  · rcases Nat.lt_or_ge b w.heap.size with hlt | hge
    · exact hlt
    · rw [Array.getElem?_eq_none hge] at h; cases h
  · rw [Nat.zero_add, cell_of_row w b j cs T fz h, ← hu, ← hc]
    simp
/-- a choice of a list that is written out -/
theorem of_lit (ss : List ByteArray) (m : Nat) (cs : Array Value) (T : TypeId) (g p : Nat) (A : Option Addr) (n cap : Nat) (bs : List By) (W : World) (b : Nat) (hc : cs.toList = ss.flatMap Enc.cells) (hl : ss.length = m) (hm : 0 < m) (hm1 : m ≤ 1000) (hok : ∀ x ∈ ss, Enc.ok x) (hp : p ≤ 1000000) (hb : b = W.heap.size) (hR : Rd W g p A n cap bs) :
    Calls Try.prog 62 #[.pointer (some ⟨g, 0, none⟩), .slice (some ⟨b, 0, none⟩) m m] (W.alloc (.cells cs T)) (OfOut ss g p A n cap bs W) := by
  subst hb
  refine (of_any _ m m ss g p A n cap bs _ hm hm1 hp (Sl.of_rowF (hp_new _ _ rfl) hc hl hm1 hok) (fun _ a e => by injection e with e; rw [← e]; show W.heap.size ≠ g; have := hR.lt; omega) (hR.le (Le.new _ _))).mono ?_
  rintro e w' ⟨s, rfl, hs, R, G⟩
  exact ⟨s, rfl, hs, R, (Gx.of_le (Le.new _ _)).trans G⟩
theorem one_lit (ss : List Int) (m : Nat) (cs : Array Value) (T : TypeId) (g p : Nat) (A : Option Addr) (n cap : Nat) (bs : List By) (W : World) (b : Nat) (hc : cs.toList = ss.flatMap Enc.cells) (hl : ss.length = m) (hm : 0 < m) (hm1 : m ≤ 1000) (hok : ∀ x ∈ ss, Enc.ok x) (hp : p ≤ 1000000) (hb : b = W.heap.size) (hR : Rd W g p A n cap bs) :
    Calls Try.prog 60 #[.pointer (some ⟨g, 0, none⟩), .slice (some ⟨b, 0, none⟩) m m] (W.alloc (.cells cs T)) (OneOut ss g p A n cap bs W) := by
  subst hb
  refine (one_any _ m m ss g p A n cap bs _ hm hm1 hp (Sl.of_rowF (hp_new _ _ rfl) hc hl hm1 hok) (fun _ a e => by injection e with e; rw [← e]; show W.heap.size ≠ g; have := hR.lt; omega) (hR.le (Le.new _ _))).mono ?_
  rintro e w' ⟨s, rfl, hs, R, G⟩
  exact ⟨s, rfl, hs, R, (Gx.of_le (Le.new _ _)).trans G⟩
theorem Gx.setNewF {g b o : Nat} {a c : World} (h : Gx g a c) (hb : a.heap.size ≤ b) (u : Value) : Gx g a (c.setCell ⟨b, o, none⟩ u) :=
  ⟨h.os, h.tape, h.output, by have := h.size; simp [World.setCell]; exact this, fun i hi hne => (heap_setCell_other c ⟨b, o, none⟩ i u (by show i ≠ b; omega)).trans (h.block i hi hne)⟩
theorem Rd.setNew {w : World} {g p b o : Nat} {A : Option Addr} {n cap : Nat} {bs : List By} (h : Rd w g p A n cap bs) (u : Value) (hb : b ≠ g) (hA : 0 < n → ∀ a, A = some a → a.block ≠ b) : Rd (w.setCell ⟨b, o, none⟩ u) g p A n cap bs :=
  h.grown (grown_set w b o u) (fun e => hb (by injection e)) (fun hn a e e2 => hA hn a e (by injection e2 with e2; exact e2.symm))
def FrmOut (g p : Nat) (A : Option Addr) (n cap : Nat) (bs : List By) (w : World) (e : Ending) (w' : World) : Prop :=
  ∃ f : Frm, e = .returned (.agg #[.string f.fn, .int .i64 f.line]) ∧ Enc.ok f ∧ Rd w' g (p + 2) A n cap bs ∧ Gx g w w'
def fourS : List ByteArray := [⟨#[102]⟩, ⟨#[103]⟩, ⟨#[109, 97, 105, 110]⟩, ⟨#[102]⟩]
theorem fourS_ok : ∀ x ∈ fourS, Enc.ok x := by
  intro x hx; simp [fourS] at hx
  show x.size ≤ _
  rcases hx with rfl | rfl | rfl | rfl <;> decide
set_option maxRecDepth 100000 in
theorem aFrame_any (g p : Nat) (A : Option Addr) (n cap : Nat) (bs : List By) (w : World) (hp : p ≤ 900000) (hR : Rd w g p A n cap bs) :
    Calls Try.prog 56 #[.pointer (some ⟨g, 0, none⟩)] w (FrmOut g p A n cap bs w) := by
  have hgw := hR.lt
  have hA : 0 < n → ∀ a, A = some a → a.block ≠ w.heap.size := fun hn a e => by have := hR.sl.under hn a e; omega
  have HA := Lib.hid hA; clear hA
  go_enter Try.func56, Try.ntmps56
  go_wp2_with fail
  have L0 := Le.new w (.cells #[.string ⟨#[]⟩, .int .i64 0] 28)
  have b0 : (w.alloc (.cells #[.string ⟨#[]⟩, .int .i64 0] 28)).cell? ⟨w.heap.size, 0, none⟩ = some (.string ⟨#[]⟩) := by rw [World.cell?_alloc_at _ _ _ _ rfl]; rfl
  have b1 : (w.alloc (.cells #[.string ⟨#[]⟩, .int .i64 0] 28)).cell? ⟨w.heap.size, 1, none⟩ = some (.int .i64 0) := by rw [World.cell?_alloc_at _ _ _ _ rfl]; rfl
  have f0 : (w.alloc (.cells #[.string ⟨#[]⟩, .int .i64 0] 28)).frozen? ⟨w.heap.size, 0, none⟩ = false := World.frozen?_alloc_at _ _ _ _ rfl
  have f1 : (w.alloc (.cells #[.string ⟨#[]⟩, .int .i64 0] 28)).frozen? ⟨w.heap.size, 1, none⟩ = false := World.frozen?_alloc_at _ _ _ _ rfl
  have zs : (w.alloc (.cells #[.string ⟨#[]⟩, .int .i64 0] 28)).heap.size = w.heap.size + 1 := by simp
  have R0 := hR.le L0
  generalize w.alloc (.cells #[.string ⟨#[]⟩, .int .i64 0] 28) = W at *
  have hgz : w.heap.size ≠ g := by omega
  refine (of_lit fourS 4 _ _ g p A n cap bs W _ rfl rfl (by decide) (by decide) fourS_ok (by omega) zs.symm R0).mono ?_
  rintro e w1 ⟨s, rfl, hs, R1, G1⟩
  have hso := fourS_ok s hs
  have z1 : w.heap.size < w1.heap.size := by have := G1.size; omega
  replace b0 := (G1.cell (k := w.heap.size) (o := 0) (by omega) hgz).trans b0
  replace b1 := (G1.cell (k := w.heap.size) (o := 1) (by omega) hgz).trans b1
  replace f0 := (G1.frozen (k := w.heap.size) (o := 0) (by omega) hgz).trans f0
  replace f1 := (G1.frozen (k := w.heap.size) (o := 1) (by omega) hgz).trans f1
  have G := (Gx.of_le (g := g) L0).trans G1
  clear G1 hs R0 L0 zs
  go_wp2_with fail
  refine (one_lit [3, 7, 3, 999] 4 _ _ g (p + 1) A n cap bs w1 _ rfl rfl (by decide) (by decide) (by intro x hx; simp at hx; constructor <;> omega) (by omega) rfl R1).mono ?_
  rintro e w2 ⟨v, rfl, hv, R2, G2⟩
  have hvo : -9223372036854775808 ≤ v ∧ v ≤ 9223372036854775807 := by simp at hv; omega
  replace b0 := (G2.cell (k := w.heap.size) (o := 0) z1 hgz).trans b0
  replace b1 := (G2.cell (k := w.heap.size) (o := 1) z1 hgz).trans b1
  replace f0 := (G2.frozen (k := w.heap.size) (o := 0) z1 hgz).trans f0
  replace f1 := (G2.frozen (k := w.heap.size) (o := 1) z1 hgz).trans f1
  replace G := G.trans G2
  clear G2 hv R1
  have k0 : (w2.setCell ⟨w.heap.size, 0, none⟩ (.string s)).cell? ⟨w.heap.size, 0, none⟩ = some (.string s) := cell_set_same b0
  have k1 : ((w2.setCell ⟨w.heap.size, 0, none⟩ (.string s)).setCell ⟨w.heap.size, 1, none⟩ (.int .i64 v)).cell? ⟨w.heap.size, 1, none⟩ = some (.int .i64 v) := cell_set_same (by rw [cell_set_other (.inr (by decide))]; exact b1)
  have RE := Lib.hid ((R2.setNew (o := 0) (.string s) hgz HA.out).setNew (o := 1) (.int .i64 v) hgz HA.out)
  have GE := Lib.hid ((G.setNewF (o := 0) (Nat.le_refl _) (.string s)).setNewF (o := 1) (Nat.le_refl _) (.int .i64 v))
  clear R2 G
  go_wp2
  exact bodyPost_ret (v := .agg #[.string s, .int .i64 v]) (by simp [results, Try.results56, go_sem, k0, k1]) rfl ⟨⟨s, v⟩, rfl, ⟨hso, hvo.1, hvo.2⟩, RE.out, GE.out⟩
def FrmsOut (k g p : Nat) (A : Option Addr) (n cap : Nat) (bs : List By) (w : World) (e : Ending) (w' : World) : Prop :=
  ∃ (v : Value) (xs : List Frm) (p' : Nat), e = .returned v ∧ w'.ownsRow w.heap.size 28 2 v xs.length (xs.flatMap Enc.cells) ∧ (∀ x ∈ xs, Enc.ok x) ∧ xs.length ≤ 12 ∧ p' ≤ p + k ∧ Rd w' g p' A n cap bs ∧ Gx g w w'
set_option maxRecDepth 100000 in
theorem goodTrace_any (g p : Nat) (A : Option Addr) (n cap : Nat) (bs : List By) (w : World) (hp : p ≤ 800000) (hR : Rd w g p A n cap bs) :
    Calls Try.prog 69 #[.pointer (some ⟨g, 0, none⟩)] w (FrmsOut 20 g p A n cap bs w) := by
  have hgw := hR.lt
  obtain ⟨i0, hi, hz0, hz1, hz2⟩ := info_parts infoFrame
  have HA : Hid (0 < n → ∀ a, A = some a → a.block < w.heap.size) := fun hn a e => hR.sl.under hn a e
  go_enter Try.func69, Try.ntmps69
  go_wp2_with fail
  have L0 := Le.new w (.cells #[] 28)
  have O0 := own_empty (w := w) (base := w.heap.size) (g := w.heap.size) (e := 28) (size := 2) (Nat.le_refl _) rfl
  have zs : (w.alloc (.cells #[] 28)).heap.size = w.heap.size + 1 := by simp
  have R0 := hR.le L0
  generalize w.alloc (.cells #[] 28) = W at *
  refine (one_lit [3, 4, 2, 5, 1, 0, 6] 7 _ _ g p A n cap bs W _ rfl rfl (by decide) (by decide) (by intro x hx; simp at hx; constructor <;> omega) (by omega) zs.symm R0).mono ?_
  rintro e w1 ⟨u, rfl, hu, R1, G1⟩
  have hu1 : 0 ≤ u ∧ u ≤ 6 := by simp at hu; omega
  have O1 := O0.kept G1 (.inr (fun e => by have e1 : w.heap.size = g := (by injection e); omega))
  have G := (Gx.of_le (g := g) L0).trans G1
  clear hu R0 O0 L0 G1 zs
  go_wp2
  go_loopw [3, 4] (fun v i wr => ∃ (L : List Frm) (k p' : Nat), i = .int .i64 k ∧ k ≤ 6 ∧ p' + 3 * k ≤ p + 19 ∧ (∀ x ∈ L, Enc.ok x) ∧ L.length ≤ 12 ∧ wr.ownsRow w.heap.size 28 2 v L.length (L.flatMap Enc.cells) ∧ w.heap.size < wr.heap.size ∧ Rd wr g p' A n cap bs ∧ Gx g w wr) (fun _ i _ => (intOf i).toNat)
  case atStart =>
    obtain ⟨k, rfl⟩ := Int.eq_ofNat_of_zero_le hu1.1
    exact ⟨[], k, p + 1, rfl, by omega, by omega, by simp, by simp, O1, (O1.lt _ rfl).2, R1, G⟩
  case round =>
    clear O1 R1 G hu1
    obtain ⟨L, k, p', rfl, hk, hp', hL, hl, O, z, R, G⟩ := hrel
    by_cases h0 : 0 < k
    · have hk0 : (0 : Int) < k := by omega
      obtain ⟨j, rfl⟩ : ∃ j, k = j + 1 := ⟨k - 1, by omega⟩
      go_wp2_with fail
      refine (aFrame_any g p' A n cap bs wr (by omega) R).mono ?_
      rintro e w2 ⟨f, rfl, hf, R2, hg2⟩
      have O2 := O.kept hg2 (.inr (fun e => by have := (O.lt _ e).1; omega))
      have z2 := Nat.lt_of_lt_of_le z hg2.size
      have G2 := G.trans hg2
      clear O R G hg2 z
      go_wp2_with fail
      obtain ⟨d0, d1, zd, hl2⟩ := boxF w2 f 28
      have R2' := R2.le hl2
      have O2' := own_le O2 hl2
      have G2' := G2.trans (Gx.of_le hl2)
      have zz : w2.heap.size + 1 = (w2.alloc (.cells #[.string f.fn, .int .i64 f.line] 28)).heap.size := by simp
      generalize w2.alloc (.cells #[.string f.fn, .int .i64 f.line] 28) = W2 at *
      have hfg : w2.heap.size ≠ g := by have := R2.lt; omega
      have HNB0 : Hid (_ ≠ some w2.heap.size) := fun e => by have := (O2.lt _ e).2; omega
      clear R2 O2 G2 hl2
      refine (one_lit [1, 1, 2, 3] 4 _ _ g (p' + 2) A n cap bs W2 _ rfl rfl (by decide) (by decide) (by intro x hx; simp at hx; constructor <;> omega) (by omega) zz R2').mono ?_
      rintro e w3 ⟨u, rfl, hu, R3, hg3⟩
      have hu1 : 0 ≤ u ∧ u ≤ 3 := by simp at hu; omega
      have O3 := O2'.kept hg3 (.inr (fun e => by have := (O2'.lt _ e).1; omega))
      have z3 := Nat.lt_of_lt_of_le zd hg3.size
      have G3 := G2'.trans hg3
      replace d0 := (hg3.cell (k := w2.heap.size) (o := 0) zd hfg).trans d0
      replace d1 := (hg3.cell (k := w2.heap.size) (o := 1) zd hfg).trans d1
      clear hu O2' R2' G2' hg3 zd zz
      generalize hB : w2.heap.size = B at *
      clear hB
      generalize wr = WR at *
      go_wp2
      go_loopw [3, 6] (fun v i wr => ∃ (L : List Frm) (q : Nat), i = .int .i64 q ∧ q ≤ 3 ∧ (∀ x ∈ L, Enc.ok x) ∧ L.length ≤ 12 ∧ wr.ownsRow w.heap.size 28 2 v L.length (L.flatMap Enc.cells) ∧ Rd wr g (p' + 3) A n cap bs ∧ Gx g w wr ∧ wr.cell? ⟨B, 0, none⟩ = some (.string f.fn) ∧ wr.cell? ⟨B, 1, none⟩ = some (.int .i64 f.line) ∧ B < wr.heap.size ∧ Hid (v.ownBlock ≠ some B)) (fun _ i _ => (intOf i).toNat)
      case atStart =>
        obtain ⟨q, rfl⟩ := Int.eq_ofNat_of_zero_le hu1.1
        exact ⟨L, q, rfl, by omega, hL, hl, O3, R3, G3, d0, d1, z3, HNB0⟩
      case round =>
        clear O3 R3 G3 d0 d1 z3 hu1 hL hl
        obtain ⟨L, q, rfl, hq, hL, hl, O, R, G, d0, d1, zB, HNB⟩ := hrel
        obtain ⟨A1, c1, rfl⟩ := own_form O
        have hwj : IntKind.i64.wrap ((j : Int) + 1 - 1) = (j : Int) := by rw [Int.add_sub_cancel]; exact IntWalk.i64_in _ (by omega)
        cases q with
        | zero =>
          clear hq d0 d1
          go_wp2
          go_roundw
          case rel => exact ⟨L, j, p' + 3, by go_num, by omega, by omega, hL, hl, O, by omega, R, G⟩
          case measure => (simp [intOf]) <;> omega
        | succ t =>
          have hwt : IntKind.i64.wrap ((t : Int) + 1 - 1) = (t : Int) := by rw [Int.add_sub_cancel]; exact IntWalk.i64_in _ (by omega)
          by_cases h12 : L.length < 12
          · have hbk := O.lt
            go_wp2_with (at_builtin; refine wpList_append_sl rfl _ _ 23 rfl w.heap.size 28 i0 _ 24 Try.underlying23 hi hz0 hz1 hz2 rfl _ _ L rfl (O.alloc _) _ 1 1 [f] rfl (sl_one f rfl hf rfl) (by unfold maxLen; omega) (by omega) (Nat.le_trans (by omega) (Le.new wr _).size) ?_; intro v1 w4 O4 hg4 hbl; have HNB4 : Hid (v1.ownBlock ≠ some B) := (fun e => by rcases hbl with h | h; exact HNB.out (h.symm.trans e); (have e2 := h.symm.trans e; simp at e2; omega)); have LA := Le.new wr (.cells #[.string f.fn, .int .i64 f.line] 28); have R4 := (R.le LA).grown hg4 (fun e => by have h := (hbk _ e).1; omega) (fun hn a e e2 => by have h := (hbk _ e2).1; have := HA.out hn a e; omega); have G4 := (G.trans (Gx.of_le LA)).grown hg4 (fun k hk => by have h := (hbk _ hk).1; omega); have z4 := Nat.lt_of_lt_of_le (Nat.lt_of_lt_of_le zB LA.size) hg4.size; have e0 := hg4.cell (a := ⟨B, 0, none⟩) ((LA.cell zB).trans d0) (fun e => HNB.out e.symm); have e1 := hg4.cell (a := ⟨B, 1, none⟩) ((LA.cell zB).trans d1) (fun e => HNB.out e.symm); clear hg4 LA)
            go_roundw
            case rel => exact ⟨L ++ [f], t, by go_num, by omega, (fun y hy => by rcases List.mem_append.1 hy with h | h; exact hL y h; simp at h; subst h; exact hf), by simp; omega, by rw [List.length_append]; exact O4, R4, G4, e0, e1, z4, HNB4⟩
            case measure => (simp [intOf]) <;> omega
          · have h12' : L.length = 12 := by omega
            clear d0 d1
            go_wp2
            go_roundw
            case rel => exact ⟨L, j, p' + 3, by go_num, by omega, by omega, hL, hl, O, by omega, R, G⟩
            case measure => (simp [intOf]) <;> omega
    · obtain rfl : k = 0 := by omega
      go_wp2
      go_ret
      exact ⟨_, L, p', rfl, O, hL, hl, by omega, R, G⟩
def threeS : List ByteArray := [⟨#[]⟩, ⟨#[70]⟩, ⟨#[116, 111, 111, 108, 111, 110, 103]⟩]
theorem threeS_ok : ∀ x ∈ threeS, Enc.ok x := by
  intro x hx; simp [threeS] at hx
  show x.size ≤ _
  rcases hx with rfl | rfl | rfl <;> decide
set_option maxRecDepth 100000 in
theorem someTrace_any (g p : Nat) (A : Option Addr) (n cap : Nat) (bs : List By) (w : World) (hp : p ≤ 700000) (hR : Rd w g p A n cap bs) :
    Calls Try.prog 51 #[.pointer (some ⟨g, 0, none⟩)] w (FrmsOut 30 g p A n cap bs w) := by
  have hgw := hR.lt
  have HA : Hid (0 < n → ∀ a, A = some a → a.block < w.heap.size) := fun hn a e => hR.sl.under hn a e
  go_enter Try.func51, Try.ntmps51
  go_wp2_with fail
  refine (goodTrace_any g p A n cap bs w (by omega) hR).mono ?_
  rintro e w1 ⟨v, xs, p1, rfl, O, hok, hl, hp1, R, G⟩
  have HOK := Lib.hid hok; clear hok
  rcases Nat.eq_zero_or_pos xs.length with h0 | h0
  · have hx : xs = [] := List.eq_nil_of_length_eq_zero h0
    subst hx
    obtain ⟨A1, c1, rfl⟩ := own_form O
    replace O : w1.ownsRow w.heap.size 28 2 (.slice A1 0 c1) 0 (([] : List Frm).flatMap Enc.cells) := O
    clear h0
    go_wp2
    go_ret
    exact ⟨_, [], p1, rfl, O, HOK.out, by simp, by omega, R, G⟩
  · obtain ⟨m, hm⟩ : ∃ m, xs.length = m + 1 := ⟨xs.length - 1, by omega⟩
    rw [hm] at O
    obtain ⟨b, c1, rfl⟩ := own_some O
    have HM := Lib.hid hm
    have hm12 : m ≤ 11 := by omega
    have hbb := (O.lt b rfl)
    have hbg : b ≠ g := by omega
    have HAB : Hid (0 < n → ∀ a, A = some a → a.block ≠ b) := fun hn a e => by have := HA.out hn a e; omega
    clear hm h0 hl
    go_wp2_with fail
    refine (pick_any ((m + 1 : Nat) : Int) g p1 A n cap bs w1 (by omega) (by omega) (by omega) R).mono ?_
    rintro e w2 ⟨x, rfl, hx0, hx1, R2, hg2⟩
    have O2 := O.kept hg2 (.inr (fun e => hbg (by injection e)))
    have G2 := G.trans hg2
    obtain ⟨k, rfl⟩ := Int.eq_ofNat_of_zero_le hx0
    have hk : k < m + 1 := by rcases hx1 with h | h <;> omega
    clear O R G hg2 hx0 hx1
    go_wp2_with fail
    refine (pick_any 24 g (p1 + 1) A n cap bs w2 (by omega) (by omega) (by omega) R2).mono ?_
    rintro e w3 ⟨y, rfl, hy0, hy1, R3, hg3⟩
    have O3 := O2.kept hg3 (.inr (fun e => hbg (by injection e)))
    have G3 := G2.trans hg3
    clear O2 R2 G2 hg3 hy1
    by_cases hy : y = 0
    · subst hy
      go_wp2_with fail
      refine (of_lit threeS 3 _ _ g (p1 + 1 + 1) A n cap bs w3 _ rfl rfl (by decide) (by decide) threeS_ok (by omega) rfl R3).mono ?_
      rintro e w4 ⟨s, rfl, hs, R4, hg4⟩
      have hso := threeS_ok s hs
      have O4 := O3.kept hg4 (.inr (fun e => hbg (by injection e)))
      have G4 := G3.trans hg4
      have hkx : k < xs.length := by have := HM.out; omega
      have hc0 : w4.cell? ⟨b, k * 2, none⟩ = some (.string xs[k].fn) := by rw [O4.cellAt _ (by omega)]; exact flat_at xs k hkx 0 (by decide)
      have hf0 := O4.frozenAt (k * 2)
      have h1 := (O4.stored (k * 2) (.string s)).1
      rw [flat_frm_fn xs k hkx s] at h1
      have HO := Lib.hid h1
      have HOK2 : Hid (∀ x ∈ xs.set k {xs[k] with fn := s}, Enc.ok x) := fun x hx => by
        rcases List.mem_or_eq_of_mem_set hx with h | rfl
        · exact HOK.out x h
        · exact ⟨hso, (HOK.out _ (List.getElem_mem hkx)).2⟩
      have HR := Lib.hid (R4.setNew (o := k * 2) (.string s) hbg HAB.out)
      have HG := Lib.hid (G4.setNewF (b := b) (o := k * 2) hbb.1 (.string s))
      clear h1 O4 G4 R4 O3 G3 R3 hs hg4
      go_wp2
      go_ret
      exact ⟨_, xs.set k {xs[k] with fn := s}, p1 + 1 + 1 + 1, rfl, by rw [List.length_set, HM.out]; exact HO.out, HOK2.out, by rw [List.length_set, HM.out]; omega, by omega, HR.out, HG.out⟩
    · have hyb : (y == 0) = false := by simpa using hy
      by_cases hy2 : y = 1
      · subst hy2
        go_wp2_with fail
        refine (one_lit [0, 1000] 2 _ _ g (p1 + 1 + 1) A n cap bs w3 _ rfl rfl (by decide) (by decide) (by intro x hx; simp at hx; constructor <;> omega) (by omega) rfl R3).mono ?_
        rintro e w4 ⟨s, rfl, hs, R4, hg4⟩
        have hso : -9223372036854775808 ≤ s ∧ s ≤ 9223372036854775807 := by simp at hs; omega
        have O4 := O3.kept hg4 (.inr (fun e => hbg (by injection e)))
        have G4 := G3.trans hg4
        have hkx : k < xs.length := by have := HM.out; omega
        have hc0 : w4.cell? ⟨b, k * 2 + 1, none⟩ = some (.int .i64 xs[k].line) := by rw [O4.cellAt _ (by omega)]; exact flat_at xs k hkx 1 (by decide)
        have hf0 := O4.frozenAt (k * 2 + 1)
        have h1 := (O4.stored (k * 2 + 1) (.int .i64 s)).1
        rw [flat_frm_line xs k hkx s] at h1
        have HO := Lib.hid h1
        have HOK2 : Hid (∀ x ∈ xs.set k {xs[k] with line := s}, Enc.ok x) := fun x hx => by
          rcases List.mem_or_eq_of_mem_set hx with h | rfl
          · exact HOK.out x h
          · exact ⟨(HOK.out _ (List.getElem_mem hkx)).1, hso.1, hso.2⟩
        have HR := Lib.hid (R4.setNew (o := k * 2 + 1) (.int .i64 s) hbg HAB.out)
        have HG := Lib.hid (G4.setNewF (b := b) (o := k * 2 + 1) hbb.1 (.int .i64 s))
        clear h1 O4 G4 R4 O3 G3 R3 hs hg4
        go_wp2
        go_ret
        exact ⟨_, xs.set k {xs[k] with line := s}, p1 + 1 + 1 + 1, rfl, by rw [List.length_set, HM.out]; exact HO.out, HOK2.out, by rw [List.length_set, HM.out]; omega, by omega, HR.out, HG.out⟩
      · have hyc : (y == 1) = false := by simpa using hy2
        clear hy hy2 hy0
        go_wp2
        go_ret
        exact ⟨_, xs, p1 + 2, rfl, by rw [HM.out]; exact O3, HOK.out, by rw [HM.out]; omega, by omega, R3, G3⟩
def TwoOut (k g p : Nat) (A : Option Addr) (n cap : Nat) (bs : List By) (w : World) (e : Ending) (w' : World) : Prop :=
  ∃ (v u : Value) (xs ys : List Frm) (p' : Nat), e = .returned (.tuple #[v, u]) ∧ w'.ownsRow w.heap.size 28 2 v xs.length (xs.flatMap Enc.cells) ∧ (∀ x ∈ xs, Enc.ok x) ∧ xs.length ≤ 12 ∧
    w'.ownsRow w.heap.size 28 2 u ys.length (ys.flatMap Enc.cells) ∧ (∀ x ∈ ys, Enc.ok x) ∧ ys.length ≤ 12 ∧ p' ≤ p + k ∧ Rd w' g p' A n cap bs ∧ Gx g w w'
set_option maxRecDepth 100000 in
theorem twoTraces_any (g p : Nat) (A : Option Addr) (n cap : Nat) (bs : List By) (w : World) (hp : p ≤ 600000) (hR : Rd w g p A n cap bs) :
    Calls Try.prog 71 #[.pointer (some ⟨g, 0, none⟩)] w (TwoOut 80 g p A n cap bs w) := by
  have hgw := hR.lt
  obtain ⟨i0, hi, hz0, hz1, hz2⟩ := info_parts infoFrame
  have HA : Hid (0 < n → ∀ a, A = some a → a.block < w.heap.size) := fun hn a e => hR.sl.under hn a e
  go_enter Try.func71, Try.ntmps71
  go_wp2_with fail
  refine (someTrace_any g p A n cap bs w (by omega) hR).mono ?_
  rintro e w1 ⟨v, xs, p1, rfl, O, hok, hl, hp1, R, G⟩
  have HOK := Lib.hid hok; clear hok
  obtain ⟨A1, c1, rfl⟩ := own_form O
  have HB1 : Hid (∀ k, (Value.slice A1 xs.length c1).ownBlock = some k → w.heap.size ≤ k ∧ k < w1.heap.size) := fun k hk => O.lt k hk
  go_wp2_with fail
  refine (pick_any 3 g p1 A n cap bs w1 (by omega) (by omega) (by omega) R).mono ?_
  rintro e w2 ⟨y, rfl, hy0, hy1, R2, hg2⟩
  have O2 := O.kept hg2 (.inr (fun e => by have := HB1.out _ e; omega))
  have G2 := G.trans hg2
  have s2 := hg2.size
  have s1 := G.size
  clear O R G hg2 hy1
  by_cases hy : y = 0
  · subst hy
    go_wp2_with fail
    refine (someTrace_any g (p1 + 1) A n cap bs w2 (by omega) R2).mono ?_
    rintro e w3 ⟨u, ys, p2, rfl, O3, hok3, hl3, hp3, R3, hg3⟩
    have O4 := O2.kept hg3 (.inr (fun e => by have := HB1.out _ e; omega))
    have G3 := G2.trans hg3
    have HO := Lib.hid O3
    have HO4 := Lib.hid O4
    have HOK3 := Lib.hid hok3
    have HR := Lib.hid R3
    clear O3 O2 G2 R2 hg3 hok3 O4 R3
    go_wp2
    exact bodyPost_ret (v := .tuple #[.slice A1 xs.length c1, u]) (by simp [results, Try.results71, go_sem]) rfl ⟨_, u, xs, ys, p2, rfl, HO4.out, HOK.out, hl, own_mono HO.out (by omega), HOK3.out, hl3, by omega, HR.out, G3⟩
  · have hyb : (y == 0) = false := by simpa using hy
    clear hy hy0
    have hwn : IntKind.i64.wrap ((xs.length : Int) + 1) = (xs.length : Int) + 1 := IntWalk.i64_in _ (by omega)
    go_wp2_with fail
    refine (pick_any ((xs.length : Int) + 1) g (p1 + 1) A n cap bs w2 (by omega) (by omega) (by omega) R2).mono ?_
    rintro e w3 ⟨x, rfl, hx0, hx1, R3, hg3⟩
    have O3 := O2.kept hg3 (.inr (fun e => by have := HB1.out _ e; omega))
    have G3 := G2.trans hg3
    have s3 := hg3.size
    obtain ⟨k, rfl⟩ := Int.eq_ofNat_of_zero_le hx0
    have hk : k ≤ xs.length := by rcases hx1 with h | h <;> omega
    clear O2 R2 G2 hg3 hx0 hx1
    have S3 := Sl.of_own O3 rfl (by decide) HOK.out
    have hkc : k ≤ c1 := by have := S3.cap_; omega
    have S4 := S3.take_ k hk
    clear S3
    go_wp2_with fail
    refine (copyFrames_any _ _ _ (xs.take k) w3 S4 (by omega)).mono ?_
    rintro e w4 ⟨u, rfl, D, hle⟩
    have O4 := own_le O3 hle
    have R4 := R3.le hle
    have G4 := G3.trans (Gx.of_le hle)
    have s4 := hle.size
    have hlk : (xs.take k).length ≤ 12 := by rw [List.length_take]; omega
    clear O3 R3 G3 hle S4
    go_wp2_with fail
    refine (pick_any 3 g (p1 + 1 + 1) A n cap bs w4 (by omega) (by omega) (by omega) R4).mono ?_
    rintro e w5 ⟨y, rfl, hy0, hy1, R5, hg5⟩
    have O5 := O4.kept hg5 (.inr (fun e => by have := HB1.out _ e; omega))
    have G5 := G4.trans hg5
    have U5 := D.row.kept hg5 (.inr (fun e => by have := (D.row.lt _ e).1; omega))
    have okU := D.ok
    have hy3 : y < 3 := by rcases hy1 with h | h <;> omega
    have s5 := hg5.size
    clear O4 R4 G4 hg5 D hy1
    go_wp2
    go_loopw [5, 6] (fun v i wr => ∃ (L : List Frm) (q p' : Nat), i = .int .i64 q ∧ q ≤ 2 ∧ p' + 2 * q ≤ p1 + 8 ∧ (∀ x ∈ L, Enc.ok x) ∧ L.length ≤ 12 ∧ wr.ownsRow w3.heap.size 28 2 v L.length (L.flatMap Enc.cells) ∧ wr.ownsRow w.heap.size 28 2 (.slice A1 xs.length c1) xs.length (xs.flatMap Enc.cells) ∧ w3.heap.size ≤ wr.heap.size ∧ Rd wr g p' A n cap bs ∧ Gx g w wr) (fun _ i _ => (intOf i).toNat)
    case atStart =>
      obtain ⟨q, rfl⟩ := Int.eq_ofNat_of_zero_le hy0
      exact ⟨xs.take k, q, p1 + 1 + 1 + 1, rfl, by omega, by omega, okU, hlk, U5, O5, by omega, R5, G5⟩
    case round =>
      clear U5 O5 R5 G5 okU hlk s5 s4 hy0 hy3 hk hkc hwn hyb
      obtain ⟨L, q, p', rfl, hq, hp', hL, hll, hU, O, z, R, G⟩ := hrel
      obtain ⟨A2, c2, rfl⟩ := own_form hU
      have HLK := Lib.hid hL
      have HUX := Lib.hid hU
      have HOX := Lib.hid O
      have HR := Lib.hid R
      cases q with
      | zero =>
        clear hL O R
        clear hU
        go_wp2
        exact bodyPost_ret (v := .tuple #[.slice A1 xs.length c1, .slice A2 L.length c2]) (by simp [results, Try.results71, go_sem]) rfl ⟨_, _, xs, L, p', rfl, HOX.out, HOK.out, hl, own_mono HUX.out (by omega), HLK.out, hll, by omega, HR.out, G⟩
      | succ t =>
        have hwt : IntKind.i64.wrap ((t : Int) + 1 - 1) = (t : Int) := by rw [Int.add_sub_cancel]; exact IntWalk.i64_in _ (by omega)
        by_cases h12 : L.length < 12
        · clear hL HUX HOX HR
          go_wp2_with fail
          refine (aFrame_any g p' A n cap bs wr (by omega) R).mono ?_
          rintro e w6 ⟨f, rfl, hf, R6, hg6⟩
          have U6 := hU.kept hg6 (.inr (fun e => by have := (hU.lt _ e).1; omega))
          have O6 := O.kept hg6 (.inr (fun e => by have := HB1.out _ e; omega))
          have G6 := G.trans hg6
          have s6 := hg6.size
          have hbk := U6.lt
          clear hU O R G hg6
          go_wp2_with (at_builtin; refine wpList_append_sl rfl _ _ 23 rfl w3.heap.size 28 i0 _ 24 Try.underlying23 hi hz0 hz1 hz2 rfl _ _ L rfl (U6.alloc _) _ 1 1 [f] rfl (sl_one f rfl hf rfl) (by unfold maxLen; omega) (by omega) (Nat.le_trans (by omega) (Le.new w6 _).size) ?_; intro v1 w7 U7 hg7 hbl; have LA := Le.new w6 (.cells #[.string f.fn, .int .i64 f.line] 28); have R7 := (R6.le LA).grown hg7 (fun e => by have h := (hbk _ e).1; omega) (fun hn a e e2 => by have h := (hbk _ e2).1; have := HA.out hn a e; omega); have G7 := (G6.trans (Gx.of_le LA)).grown hg7 (fun k hk => by have h := (hbk _ hk).1; omega); have O7 := (own_le O6 LA).kept hg7 (match hA1 : (Value.slice A1 xs.length c1).ownBlock with | none => .inl rfl | some kb => .inr (fun e => by have h1 := HB1.out _ hA1; have h2 := (hbk _ e.symm).1; omega)); have s7 : w3.heap.size ≤ w7.heap.size := Nat.le_trans (Nat.le_trans z s6) (Nat.le_trans LA.size hg7.size); clear hg7 LA)
          go_roundw
          case rel => exact ⟨L ++ [f], t, p' + 2, by go_num, by omega, by omega, (fun y hy => by rcases List.mem_append.1 hy with h | h; exact HLK.out y h; simp at h; subst h; exact hf), by simp; omega, by rw [List.length_append]; exact U7, O7, s7, R7, G7⟩
          case measure => (simp [intOf]) <;> omega
        · have h12' : L.length = 12 := by omega
          clear hL O R h12'
          clear hU
          go_wp2
          exact bodyPost_ret (v := .tuple #[.slice A1 xs.length c1, .slice A2 L.length c2]) (by simp [results, Try.results71, go_sem]) rfl ⟨_, _, xs, L, p', rfl, HOX.out, HOK.out, hl, own_mono HUX.out (by omega), HLK.out, hll, by omega, HR.out, G⟩
end Go.Proofs.Ytakkmgeocmndjaa
