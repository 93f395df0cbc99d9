/- draws: CallFrom, TrimTrace, LinesOf, InnerTrace, WithHead, HideFuncs -/
import Derived.Test.YtakkmgeocmndjaaDN
import Derived.Deep.RegionHeld3
namespace Go.Proofs.Ytakkmgeocmndjaa
open Go.RowKit
set_option maxRecDepth 100000 in
theorem drawTrimTrace_any (A : Option Addr) (n cap : Nat) (bs : List By) (w : World) (hR : Sl w A n cap bs) : Calls Try.prog 23 #[.slice A n cap] w (DrTI w) := by
  go_enter Try.func23, Try.ntmps23
  go_wp2_with fail
  refine (newReader_any A n cap bs w hR).mono ?_
  rintro e w1 ⟨g, A1, n1, k1, bs1, rfl, hg, R1, hle⟩
  go_wp2_with fail
  refine (someTrace_any g 0 A1 n1 k1 bs1 w1 (by omega) R1).mono ?_
  rintro e w2 ⟨v, xs, p1, rfl, O, hok, hl, hp1, R, G⟩
  obtain ⟨B, c, rfl⟩ := own_form O
  have hgw := R1.lt
  clear R1
  go_wp2_with fail
  refine (one_lit [2, -2, 0, 1, -1, 20, -20] 7 _ _ g p1 A1 n1 k1 bs1 w2 _ rfl rfl (by decide) (by decide) (by intro x hx; simp at hx; constructor <;> omega) (by omega) rfl R).mono ?_
  rintro e w3 ⟨a, rfl, ha, R3, G3⟩
  have ha2 : -100 ≤ a ∧ a ≤ 100 := by simp at ha; omega
  have O3 := O.kept G3 (.inr (fun e => by have := (O.lt _ e).1; omega))
  have S := Lib.hid (own_sl O3 hok)
  have L2 := Gx.le hle (G.trans G3) hg
  clear O O3 hok R G hle ha R3 G3
  go_wp2
  exact bodyPost_ret (v := .tuple #[.slice B xs.length c, .int .i64 a]) (by simp [results, Try.results23, go_sem]) rfl ⟨_, _, _, xs, a, rfl, S.out, hl, ha2, L2⟩
def noS : List ByteArray := [⟨#[102]⟩, ⟨#[103]⟩, ⟨#[109, 97, 105, 110]⟩, ⟨#[110, 111]⟩]
theorem noS_ok : ∀ x ∈ noS, Enc.ok x := by
  intro x hx; simp [noS] at hx
  show x.size ≤ _
  rcases hx with rfl | rfl | rfl | rfl <;> decide
theorem noS_few : ∀ x ∈ noS, x.size ≤ 100 := by
  intro x hx; simp [noS] at hx
  rcases hx with rfl | rfl | rfl | rfl <;> decide
set_option maxRecDepth 100000 in
theorem drawLinesOf_any (A : Option Addr) (n cap : Nat) (bs : List By) (w : World) (hR : Sl w A n cap bs) : Calls Try.prog 45 #[.slice A n cap] w (DrTS w) := by
  go_enter Try.func45, Try.ntmps45
  go_wp2_with fail
  refine (newReader_any A n cap bs w hR).mono ?_
  rintro e w1 ⟨g, A1, n1, k1, bs1, rfl, hg, R1, hle⟩
  go_wp2_with fail
  refine (someTrace_any g 0 A1 n1 k1 bs1 w1 (by omega) R1).mono ?_
  rintro e w2 ⟨v, xs, p1, rfl, O, hok, hl, hp1, R, G⟩
  obtain ⟨B, c, rfl⟩ := own_form O
  have hgw := R1.lt
  clear R1
  go_wp2_with fail
  refine (of_lit noS 4 _ _ g p1 A1 n1 k1 bs1 w2 _ rfl rfl (by decide) (by decide) noS_ok (by omega) rfl R).mono ?_
  rintro e w3 ⟨s, rfl, hs, R3, G3⟩
  have hs2 := noS_few s hs
  have O3 := O.kept G3 (.inr (fun e => by have := (O.lt _ e).1; omega))
  have S := Lib.hid (own_sl O3 hok)
  have L2 := Gx.le hle (G.trans G3) hg
  clear O O3 hok R G hle hs R3 G3
  go_wp2
  exact bodyPost_ret (v := .tuple #[.slice B xs.length c, .string s]) (by simp [results, Try.results45, go_sem]) rfl ⟨_, _, _, xs, s, rfl, S.out, hl, hs2, L2⟩
theorem drawInnerTrace_any (A : Option Addr) (n cap : Nat) (bs : List By) (w : World) (hR : Sl w A n cap bs) : Calls Try.prog 48 #[.slice A n cap] w (DrTS w) := by
  go_enter Try.func48, Try.ntmps48
  go_wp2_with fail
  refine (drawLinesOf_any A n cap bs w hR).mono ?_
  rintro e w1 ⟨B, m, c, xs, s, rfl, S, hm, hs, L⟩
  go_wp2
  exact bodyPost_ret (v := .tuple #[.slice B m c, .string s]) (by simp [results, Try.results48, go_sem]) rfl ⟨B, m, c, xs, s, rfl, S, hm, hs, L⟩
set_option maxRecDepth 100000 in
theorem drawCallFrom_any (A : Option Addr) (n cap : Nat) (bs : List By) (w : World) (hR : Sl w A n cap bs) : Calls Try.prog 18 #[.slice A n cap] w (DrTF w) := by
  go_enter Try.func18, Try.ntmps18
  go_wp2_with fail
  have L0 := Le.new w (.cells #[.string ⟨#[]⟩, .int .i64 0] 28)
  have b0 : (w.alloc (.cells #[.string ⟨#[]⟩, .int .i64 0] 28)).cell? ⟨w.heap.size, 0, none⟩ = some (.string ⟨#[]⟩) := by rw [World.cell?_alloc_at _ _ _ _ rfl]; rfl
  have b1 : (w.alloc (.cells #[.string ⟨#[]⟩, .int .i64 0] 28)).cell? ⟨w.heap.size, 1, none⟩ = some (.int .i64 0) := by rw [World.cell?_alloc_at _ _ _ _ rfl]; rfl
  have f0 : (w.alloc (.cells #[.string ⟨#[]⟩, .int .i64 0] 28)).frozen? ⟨w.heap.size, 0, none⟩ = false := World.frozen?_alloc_at _ _ _ _ rfl
  have f1 : (w.alloc (.cells #[.string ⟨#[]⟩, .int .i64 0] 28)).frozen? ⟨w.heap.size, 1, none⟩ = false := World.frozen?_alloc_at _ _ _ _ rfl
  have zs : (w.alloc (.cells #[.string ⟨#[]⟩, .int .i64 0] 28)).heap.size = w.heap.size + 1 := by simp
  have hR0 := hR.le L0
  generalize w.alloc (.cells #[.string ⟨#[]⟩, .int .i64 0] 28) = W at *
  refine (newReader_any A n cap bs W hR0).mono ?_
  rintro e w1 ⟨g, A1, n1, k1, bs1, rfl, hg, R1, hle⟩
  have z0 : w.heap.size < W.heap.size := by omega
  have hrg : w.heap.size ≠ g := by omega
  have z1 := Nat.lt_of_lt_of_le z0 hle.size
  replace b0 := (hle.cell z0).trans b0
  replace b1 := (hle.cell z0).trans b1
  replace f0 := (hle.frozen z0).trans f0
  replace f1 := (hle.frozen z0).trans f1
  have hA1 : Hid (0 < n1 → ∀ a, A1 = some a → a.block < w1.heap.size) := fun hn a e => R1.sl.under hn a e
  have G1 := Gx.of_le (g := g) (L0.trans hle)
  clear hR0 hle L0
  go_wp2_with fail
  refine (aFrame_any g 0 A1 n1 k1 bs1 w1 (by omega) R1).mono ?_
  rintro e w2 ⟨f, rfl, hf, R2, hg2⟩
  have z2 := Nat.lt_of_lt_of_le z1 hg2.size
  replace b0 := (hg2.cell z1 hrg).trans b0
  replace b1 := (hg2.cell z1 hrg).trans b1
  replace f0 := (hg2.frozen z1 hrg).trans f0
  replace f1 := (hg2.frozen z1 hrg).trans f1
  have G2 := G1.trans hg2
  have s2 := hg2.size
  have hgw1 := R1.lt
  clear hg2 G1 R1
  go_wp2_with fail
  obtain ⟨d0, d1, zd, hl2⟩ := boxF w2 f 28
  have fd1 : (w2.alloc (.cells #[.string f.fn, .int .i64 f.line] 28)).frozen? ⟨w2.heap.size, 1, none⟩ = false := World.frozen?_alloc_at _ _ _ _ rfl
  generalize w2.alloc (.cells #[.string f.fn, .int .i64 f.line] 28) = W2 at *
  have hfg : w2.heap.size ≠ g := by omega
  have hA1F : Hid (0 < n1 → ∀ a, A1 = some a → a.block ≠ w2.heap.size) := fun hn a e => by have := hA1.out hn a e; omega
  have R2' := R2.le hl2
  have G2' := G2.trans (Gx.of_le hl2)
  replace b0 := (hl2.cell z2).trans b0
  replace b1 := (hl2.cell z2).trans b1
  replace f0 := (hl2.frozen z2).trans f0
  replace f1 := (hl2.frozen z2).trans f1
  have zW2 := Nat.lt_of_lt_of_le z2 hl2.size
  clear R2 G2 hl2
  refine (pick_any 12 g 2 A1 n1 k1 bs1 W2 (by omega) (by omega) (by omega) R2').mono ?_
  rintro e w3 ⟨y, rfl, hy0, hy1, R3, hg3⟩
  replace b0 := (hg3.cell zW2 hrg).trans b0
  replace b1 := (hg3.cell zW2 hrg).trans b1
  replace f0 := (hg3.frozen zW2 hrg).trans f0
  replace f1 := (hg3.frozen zW2 hrg).trans f1
  replace d0 := (hg3.cell zd hfg).trans d0
  replace d1 := (hg3.cell zd hfg).trans d1
  replace fd1 := (hg3.frozen zd hfg).trans fd1
  have zW := Nat.lt_of_lt_of_le zW2 hg3.size
  have zF := Nat.lt_of_lt_of_le zd hg3.size
  have G := G2'.trans hg3
  clear R2' G2' hg3 hy1 z2 zW2 zd
  generalize hFB : w2.heap.size = FB at *
  have hFB2 : w.heap.size < FB := by omega
  clear hFB
  by_cases hy : y = 0
  · subst hy
    have R := R3.setNew (o := 1) (.int .i64 0) hfg hA1F.out
    replace G := G.setNewF (b := FB) (o := 1) (by omega) (.int .i64 0)
    have e0 : (w3.setCell ⟨FB, 1, none⟩ (.int .i64 0)).cell? ⟨w.heap.size, 0, none⟩ = _ := (cell_set_other (.inl (by omega))).trans b0
    have e1 : (w3.setCell ⟨FB, 1, none⟩ (.int .i64 0)).cell? ⟨w.heap.size, 1, none⟩ = _ := (cell_set_other (.inl (by omega))).trans b1
    have e2 : (w3.setCell ⟨FB, 1, none⟩ (.int .i64 0)).cell? ⟨FB, 0, none⟩ = _ := (cell_set_other (.inr (by decide))).trans d0
    have e3 : (w3.setCell ⟨FB, 1, none⟩ (.int .i64 0)).cell? ⟨FB, 1, none⟩ = some (.int .i64 0) := cell_set_same d1
    have e4 : (w3.setCell ⟨FB, 1, none⟩ (.int .i64 0)).frozen? ⟨w.heap.size, 0, none⟩ = false := ((Gx.set FB 1 w3 (.int .i64 0)).frozen zW (by omega)).trans f0
    have e5 : (w3.setCell ⟨FB, 1, none⟩ (.int .i64 0)).frozen? ⟨w.heap.size, 1, none⟩ = false := ((Gx.set FB 1 w3 (.int .i64 0)).frozen zW (by omega)).trans f1
    have zW' : w.heap.size < (w3.setCell ⟨FB, 1, none⟩ (.int .i64 0)).heap.size := by simpa [World.setCell] using zW
    have zF' : FB < (w3.setCell ⟨FB, 1, none⟩ (.int .i64 0)).heap.size := by simpa [World.setCell] using zF
    go_wp2_with fail
    clear b0 b1 f0 f1 d0 d1 R3 zW zF fd1
    generalize w3.setCell ⟨FB, 1, none⟩ (.int .i64 0) = WS at *
    have b0 := e0
    have b1 := e1
    have d0 := e2
    have d1 := e3
    have f0 := e4
    have f1 := e5
    have zW := zW'
    have zF := zF'
    clear e0 e1 e2 e3 e4 e5 zW' zF'
    go_region_held3 (fun w' => w'.cell? ⟨FB, 0, none⟩ = some (.string f.fn) ∧ w'.cell? ⟨FB, 1, none⟩ = some (.int .i64 (0)))
      (first | exact ⟨d0, d1⟩ | exact ⟨(cell_set_other (.inl (by omega))).trans d0, (cell_set_other (.inl (by omega))).trans d1⟩ | exact ⟨(cell_set_other (.inl (by omega))).trans ((cell_set_other (.inl (by omega))).trans d0), (cell_set_other (.inl (by omega))).trans ((cell_set_other (.inl (by omega))).trans d1)⟩)
      (first | (go_at_call 51; refine (someTrace_any g (2 + 1) A1 n1 k1 bs1 _ (by omega) (R.le (Le.refl _).drew)).mono ?_; rintro e w5 ⟨v, xs, p1, rfl, O, hok, hl, hp1, R5, hg5⟩; replace d0 := (hg5.cell (k := FB) (o := 0) zF hfg).trans d0; replace d1 := (hg5.cell (k := FB) (o := 1) zF hfg).trans d1; replace b0 := (hg5.cell (k := w.heap.size) (o := 0) zW hrg).trans b0; replace b1 := (hg5.cell (k := w.heap.size) (o := 1) zW hrg).trans b1; replace f0 := (hg5.frozen (k := w.heap.size) (o := 0) zW hrg).trans f0; replace f1 := (hg5.frozen (k := w.heap.size) (o := 1) zW hrg).trans f1))
    obtain ⟨B, c, rfl⟩ := own_form O
    have HB5 : Hid (∀ k, (Value.slice B xs.length c).ownBlock = some k → w.heap.size < k) := fun k hk => by have h1 := (O.lt k hk).1; exact Nat.lt_of_lt_of_le zW h1
    have G5 := (G.trans (Gx.of_le (Le.refl _).drew)).trans hg5
    have GE := Lib.hid ((G5.setNewF (o := 0) (Nat.le_refl _) (.string f.fn)).setNewF (o := 1) (Nat.le_refl _) (.int .i64 (0)))
    have O6 := (O.kept (grown_set _ w.heap.size 0 (.string f.fn)) (.inr (fun e => by have := HB5.out _ e; omega))).kept (grown_set _ w.heap.size 1 (.int .i64 (0))) (.inr (fun e => by have := HB5.out _ e; omega))
    have HS := Lib.hid (own_sl O6 hok)
    have k0 : (w5.setCell ⟨w.heap.size, 0, none⟩ (.string f.fn)).cell? ⟨w.heap.size, 0, none⟩ = some (.string f.fn) := cell_set_same b0
    have k1 : ((w5.setCell ⟨w.heap.size, 0, none⟩ (.string f.fn)).setCell ⟨w.heap.size, 1, none⟩ (.int .i64 (0))).cell? ⟨w.heap.size, 1, none⟩ = some (.int .i64 (0)) := cell_set_same (by rw [cell_set_other (.inr (by decide))]; exact b1)
    have hgw2 : w.heap.size ≤ g := by omega
    clear O O6 hok R R5 G G5 hg5
    go_wp2
    exact bodyPost_ret (v := .tuple #[.slice B xs.length c, .agg #[.string f.fn, .int .i64 (0)]]) (by simp [results, Try.results18, go_sem, k0, k1]) rfl ⟨_, _, _, xs, ⟨f.fn, 0⟩, rfl, HS.out, hl, ⟨hf.1, by show (-9223372036854775808 : Int) ≤ 0; omega, by show (0 : Int) ≤ _; omega⟩, Gx.le (Le.refl w) GE.out hgw2⟩
  · have hyb : (y == 0) = false := by simpa using hy
    have R := R3
    clear hy R3 fd1
    go_wp2_with fail
    go_region_held3 (fun w' => w'.cell? ⟨FB, 0, none⟩ = some (.string f.fn) ∧ w'.cell? ⟨FB, 1, none⟩ = some (.int .i64 (f.line)))
      (first | exact ⟨d0, d1⟩ | exact ⟨(cell_set_other (.inl (by omega))).trans d0, (cell_set_other (.inl (by omega))).trans d1⟩ | exact ⟨(cell_set_other (.inl (by omega))).trans ((cell_set_other (.inl (by omega))).trans d0), (cell_set_other (.inl (by omega))).trans ((cell_set_other (.inl (by omega))).trans d1)⟩)
      (first | (go_at_call 51; refine (someTrace_any g (2 + 1) A1 n1 k1 bs1 _ (by omega) (R.le (Le.refl _).drew)).mono ?_; rintro e w5 ⟨v, xs, p1, rfl, O, hok, hl, hp1, R5, hg5⟩; replace d0 := (hg5.cell (k := FB) (o := 0) zF hfg).trans d0; replace d1 := (hg5.cell (k := FB) (o := 1) zF hfg).trans d1; replace b0 := (hg5.cell (k := w.heap.size) (o := 0) zW hrg).trans b0; replace b1 := (hg5.cell (k := w.heap.size) (o := 1) zW hrg).trans b1; replace f0 := (hg5.frozen (k := w.heap.size) (o := 0) zW hrg).trans f0; replace f1 := (hg5.frozen (k := w.heap.size) (o := 1) zW hrg).trans f1))
    obtain ⟨B, c, rfl⟩ := own_form O
    have HB5 : Hid (∀ k, (Value.slice B xs.length c).ownBlock = some k → w.heap.size < k) := fun k hk => by have h1 := (O.lt k hk).1; exact Nat.lt_of_lt_of_le zW h1
    have G5 := (G.trans (Gx.of_le (Le.refl _).drew)).trans hg5
    have GE := Lib.hid ((G5.setNewF (o := 0) (Nat.le_refl _) (.string f.fn)).setNewF (o := 1) (Nat.le_refl _) (.int .i64 (f.line)))
    have O6 := (O.kept (grown_set _ w.heap.size 0 (.string f.fn)) (.inr (fun e => by have := HB5.out _ e; omega))).kept (grown_set _ w.heap.size 1 (.int .i64 (f.line))) (.inr (fun e => by have := HB5.out _ e; omega))
    have HS := Lib.hid (own_sl O6 hok)
    have k0 : (w5.setCell ⟨w.heap.size, 0, none⟩ (.string f.fn)).cell? ⟨w.heap.size, 0, none⟩ = some (.string f.fn) := cell_set_same b0
    have k1 : ((w5.setCell ⟨w.heap.size, 0, none⟩ (.string f.fn)).setCell ⟨w.heap.size, 1, none⟩ (.int .i64 (f.line))).cell? ⟨w.heap.size, 1, none⟩ = some (.int .i64 (f.line)) := cell_set_same (by rw [cell_set_other (.inr (by decide))]; exact b1)
    have hgw2 : w.heap.size ≤ g := by omega
    clear O O6 hok R R5 G G5 hg5
    go_wp2
    exact bodyPost_ret (v := .tuple #[.slice B xs.length c, .agg #[.string f.fn, .int .i64 (f.line)]]) (by simp [results, Try.results18, go_sem, k0, k1]) rfl ⟨_, _, _, xs, ⟨f.fn, f.line⟩, rfl, HS.out, hl, hf, Gx.le (Le.refl w) GE.out hgw2⟩
end Go.Proofs.Ytakkmgeocmndjaa
