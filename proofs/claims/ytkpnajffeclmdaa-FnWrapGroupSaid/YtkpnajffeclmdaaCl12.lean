/- one text of ItC, ItH, ItI -/
import Derived.Test.YtkpnajffeclmdaaCl11
import Derived.Test.YtkpnajffeclmdaaCl8
import Derived.Test.YtkpnajffeclmdaaCl5
import Derived.Maps.AppendAt
namespace Go.Proofs.Ytkpnajffeclmdaa
open Go.RowKit
set_option linter.unusedVariables false
section
open Go.RowKit Go.Shelf
attribute [local go_sem] Oper.semAt_some
set_option maxHeartbeats 1000000 in
theorem leaves_in (F : Fence) (n : Nat) (hf : F.fn 45) (hro : F.round = none) (A : Option Addr) (m cap : Nat) (w : World) :
    CallsIn F n Try.prog 45 #[.slice A m cap] w fun e w' => e = .returned (.func (.func 75) #[] #[.pointer (some ⟨w.heap.size, 0, none⟩)]) ∧ w' = w.alloc (.cells #[.slice A m cap] 26) := by
  refine callsIn_of_wp Try.func45 rfl hf ?_ hro
  simp only [Try.ntmps45, List.size_toArray, List.length_cons, List.length_nil, Nat.reduceAdd, Nat.reduceSub, Array.replicate_succ, Array.replicate_zero, List.push_toArray, List.append_toArray, List.nil_append, List.cons_append]
  gi_wp2
  go_ret
  exact ⟨rfl, rfl⟩
theorem leaves_stops (F : Fence) (n : Nat) (hf : F.fn 75) (hro : F.round = none) (hn : 1 ≤ n) (Bg n₀ : Nat) (A : Option Addr) (m cap : Nat) (g : List Prt) (P : Lef → Prop) (hP : ∀ x ∈ leavesL g, P x) (w : World) (hBg : Bg < w.heap.size) (hn₀ : n₀ ≤ w.heap.size)
    (hc : w.cell? ⟨Bg, 0, none⟩ = some (.slice A m cap)) (S : SlB n₀ w A m cap g) :
    SeqStopsK F n Try.prog 75 #[.pointer (some ⟨Bg, 0, none⟩)] (encLef (P := P)) (Below n₀) (fun ys => ys.map (·.1) = leavesL g) (fun pre => pre.map (·.1) <+: leavesL g) g.length w := fun l J Jx W hW hJ _ hY h0 =>
  leaves1_in F n hf hro hn l Bg n₀ A m cap g P hP J Jx hY W (Nat.le_trans hn₀ hW.size) (fun s X Y row hs hg hr => hJ s X Y row hs hg (fun r e => hr r e)) ((hW.cell (p := ⟨Bg, 0, none⟩) hBg).trans hc) (S.below (hW.mono hn₀)) h0
theorem keepsFrom_le {B : Nat} {W W' : World} (h : Le W W') : KeepsFrom B W W' := ⟨h.size, fun k _ _ hk _ => (h.block k (Array.getElem?_eq_some_iff.1 hk).1).trans hk⟩
theorem boxed_le {W W' : World} {B : Nat} {t : TypeId} {v : Value} (h : Boxed W B t v) (hl : Le W W') : Boxed W' B t v := (hl.block B h.lt).trans h
def Boxed2 (W : World) (B : Nat) (t : TypeId) (u v : Value) : Prop := W.heap[B]? = some (.cells #[u, v] t (0, 0))
theorem boxed2_own {B : Nat} {t : TypeId} {u v : Value} {X Y : World} {row : Option Nat} (hs : Boxed2 X B t u v) (hg : X.grownBy Y row) (hr : ∀ r, row = some r → ∃ o : Obj, X.heap[r]? = some o ∧ o.isCells = false) : Boxed2 Y B t u v :=
  (grownBy_keeps_cells hg hr hs rfl).trans hs
theorem Boxed2.lt {W : World} {B : Nat} {t : TypeId} {u v : Value} (h : Boxed2 W B t u v) : B < W.heap.size := (Array.getElem?_eq_some_iff.1 h).1
theorem Boxed2.c0 {W : World} {B : Nat} {t : TypeId} {u v : Value} (h : Boxed2 W B t u v) : W.cell? ⟨B, 0, none⟩ = some u := by simp [World.cell?, show W.heap[B]? = _ from h]
theorem Boxed2.c1 {W : World} {B : Nat} {t : TypeId} {u v : Value} (h : Boxed2 W B t u v) : W.cell? ⟨B, 1, none⟩ = some v := by simp [World.cell?, show W.heap[B]? = _ from h]
set_option maxRecDepth 100000 in
set_option maxHeartbeats 4000000 in
theorem hasLeaf_in (Py Pn : Value) (p : Lef → Bool) (A : Option Addr) (m cap : Nat) (g : List Prt) (w : World) (S : Sl w A m cap g)
    (hT : ∀ (x : Lef) (W : World), x ∈ leavesL g → Le w W → Calls Try.prog 67 #[.agg #[.int .i64 x.cls, .int .i64 x.code], Py, Pn] W fun e W' => e = .returned (.bool (p x)) ∧ Le W W') :
    Calls Try.prog 53 #[.slice A m cap, .func (.func 67) #[] #[Py, Pn]] w fun e w' => e = .returned (.bool ((leavesL g).any p)) ∧ Le w w' := by
  have SB : SlB w.heap.size w A m cap g := ⟨S, fun hn a e => by obtain ⟨b, off, e2, hb, -⟩ := S.at_ hn; rw [e2] at e; cases e; exact hb⟩
  refine (callsIn_wide (n := 6)).1 ?_
  refine callsIn_of_wp_marks Try.func53 rfl trivial ?_ rfl
  simp only [Try.ntmps53, List.size_toArray, List.length_cons, List.length_nil, Nat.reduceAdd, Nat.reduceSub, Array.replicate_succ, Array.replicate_zero, List.push_toArray, List.append_toArray, List.nil_append, List.cons_append]
  gi_wp2_with (refine ⟨trivial, ?_⟩; gi_at_call 45; refine (leaves_in Fence.wide 5 trivial rfl _ _ _ _).mono ?_; rintro e w' ⟨rfl, rfl⟩)
  have bF := ((Boxed.new w 68 (.func (.func 67) #[] #[Py, Pn])).alloc (.cells #[.bool false] 4)).alloc (.cells #[.slice A m cap] 26)
  have bR := (Boxed.new (w.alloc (.cells #[.func (.func 67) #[] #[Py, Pn]] 68)) 4 (.bool false)).alloc (.cells #[.slice A m cap] 26)
  have bG := Boxed.new ((w.alloc (.cells #[.func (.func 67) #[] #[Py, Pn]] 68)).alloc (.cells #[.bool false] 4)) 26 (.slice A m cap)
  simp only [World.size_alloc] at bR bG
  have hB0 : Le w (((w.alloc (.cells #[.func (.func 67) #[] #[Py, Pn]] 68)).alloc (.cells #[.bool false] 4)).alloc (.cells #[.slice A m cap] 26)) := ((Le.new w _).alloc _).alloc _
  have hsz : (((w.alloc (.cells #[.func (.func 67) #[] #[Py, Pn]] 68)).alloc (.cells #[.bool false] 4)).alloc (.cells #[.slice A m cap] 26)).heap.size = w.heap.size + 3 := by simp
  generalize (((w.alloc (.cells #[.func (.func 67) #[] #[Py, Pn]] 68)).alloc (.cells #[.bool false] 4)).alloc (.cells #[.slice A m cap] 26)) = W0 at *
  refine wpIn_rangeFunc_ownH rfl (by omega) (gf := 75) (lb := #[.pointer (some ⟨w.heap.size + 1 + 1, 0, none⟩)]) rfl trivial (enters_of Try.func75 (by kernel_rfl) rfl)
    (leaves_stops Fence.wide (6 - 1) trivial rfl (by omega) (w.heap.size + 1 + 1) w.heap.size A m cap g (fun x => x ∈ leavesL g) (fun _ h => h) W0 (by omega) (by omega) bG.cell (SB.below hB0)) belowK_t (belowK_b (by omega)) (Below.refl _ _) (fun _ => rfl)
    (fun pre W => ((∀ y ∈ pre, p y.1 = false) ∧ Boxed W w.heap.size 68 (.func (.func 67) #[] #[Py, Pn]) ∧ Boxed W (w.heap.size + 1) 4 (.bool false)) ∧ Below w.heap.size w W)
    (fun c pre W => (c = .ret ∧ (∃ y ∈ pre, p y.1 = true) ∧ Boxed W (w.heap.size + 1) 4 (.bool true)) ∧ Below w.heap.size w W)
    (OwnFrom.and (Own.from (fun s X Y row hs hg hr => ⟨hs.1, boxed_own (β := Unit) _ _ (fun _ => _) () X Y row hs.2.1 hg hr, boxed_own (β := Unit) _ _ (fun _ => _) () X Y row hs.2.2 hg hr⟩) _) (ownFrom_below (Nat.le_refl _) (by omega)))
    (fun c => OwnFrom.and (Own.from (fun s X Y row hs hg hr => ⟨hs.1, hs.2.1, boxed_own (β := Unit) _ _ (fun _ => _) () X Y row hs.2.2 hg hr⟩) _) (ownFrom_below (Nat.le_refl _) (by omega)))
    ⟨⟨by simp, bF, bR⟩, hB0⟩
    (fun x a' W => ∃ Bx, w.heap.size + 1 < Bx ∧ Boxed2 W Bx 38 (.int .i64 x.1.cls) (.int .i64 x.1.code) ∧ a' = { tmps := #[.slice A m cap, .func (.func 67) #[] #[Py, Pn], undef, .pointer (some ⟨w.heap.size, 0, none⟩), .pointer (some ⟨w.heap.size + 1, 0, none⟩), .pointer (some ⟨Bx, 0, none⟩), .slice A m cap, .func (.func 75) #[] #[.pointer (some ⟨w.heap.size + 1 + 1, 0, none⟩)], .agg #[.int .i64 x.1.cls, .int .i64 x.1.code], undef, undef, undef], defers := [] })
    (fun x a' _ X Y row hs hg hr => by obtain ⟨Bx, h1, h2, h3⟩ := hs; exact ⟨Bx, h1, boxed2_own h2 hg (fun r e => (hr r e).2), h3⟩)
    ?assign ?body ?done ?stop
  case assign =>
    rintro l pre x W K ⟨⟨hp, bF1, bR1⟩, hB1⟩ hK
    gi_wp2
    exact hK _ _ ((KeepsOthers.alloc _ _).from _) ((Below.refl _ W).alloc hB1.size _) ⟨⟨hp, bF1.alloc _, bR1.alloc _⟩, hB1.alloc hB1.size _⟩ ⟨W.heap.size, bR1.lt, World.alloc_heap_new W _, rfl⟩
  case body =>
    rintro l pre x a' W hl ⟨r, hr⟩ ⟨⟨hp, bF1, bR1⟩, hB1⟩ ⟨Bx, hBx, bX, rfl⟩ hlt
    have cF := bF1.cell
    have cX0 := bX.c0
    have cX1 := bX.c1
    gi_wp2_with (refine ⟨trivial, ?_⟩; gi_at_call 67; refine (CallsIn.inRound l (callsIn_wide.2 (hT x.1 W x.2 hB1))).mono ?_; rintro e w' ⟨rfl, hle⟩; have bR2 := boxed_le bR1 hle; have bF2 := boxed_le bF1 hle; have cR2 := bR2.cell; have fR2 := bR2.frozen)
    · rename_i hx
      exact ⟨(keepsFrom_le hle).trans ((KeepsOthers.setCell _ _ _).from _), ⟨rfl, ⟨x, by simp, hx⟩, bR2.set _⟩, (hB1.trans (hle.mono hB1.size)).setCell (p := ⟨w.heap.size + 1, 0, none⟩) (by simp) _⟩
    · rename_i hx
      have hx' : p x.1 = false := by simpa using hx
      exact ⟨keepsFrom_le hle, hle.mono hB1.size, ⟨fun y hy => (List.mem_append.1 hy).elim (hp y) (fun e => by simp at e; rw [e]; exact hx'), bF2, bR2⟩, hB1.trans (hle.mono hB1.size)⟩
  case done =>
    rintro D zs W hD hz ⟨⟨hp, bF1, bR1⟩, hB1⟩ hK
    have cR := bR1.cell
    have fR := bR1.frozen
    have hno : (leavesL g).any p = false := by
      rw [← hz, List.any_map, List.any_eq_false]
      intro y hy
      simp [hp y hy]
    have HNO := Lib.hid hno
    clear hno
    gi_wp2
    have hK' := (KeepsOthers.setCell W ⟨w.heap.size + 1, 0, none⟩ (.bool false)).same D _ hK rfl
    refine ⟨by simp, .inl ⟨_, _, rfl, run_takeDeferred hK', ?_⟩⟩
    have hc5 := cell_kept (World.cell?_setCell_same' W ⟨w.heap.size + 1, 0, none⟩ (.bool false) (by rw [cR]; rfl)) (grownBy_putObj' _ D (.deferred none)) (fun r e => by cases e; exact ⟨_, hK', rfl⟩)
    refine ⟨.bool false, ?_, by rw [HNO.out], (hB1.setCell (p := ⟨w.heap.size + 1, 0, none⟩) (by simp) _).trans (belowK_b (w := w) (Nat.le_refl _) _ D _ _ (by omega) hK' rfl rfl)⟩
    simp [results, Try.f53, go_sem, hc5]
  case stop =>
    rintro D c pre W hD hpre ⟨⟨rfl, hin, bR1⟩, hB⟩ hK
    gi_wp2
    refine ⟨by simp, .inl ⟨_, _, rfl, run_takeDeferred hK, ?_⟩⟩
    have hc5 := cell_kept bR1.cell (grownBy_putObj' _ D (.deferred none)) (fun r e => by cases e; exact ⟨_, hK, rfl⟩)
    have hyes : (leavesL g).any p = true := by
      obtain ⟨y, hy, hpy⟩ := hin
      exact List.any_eq_true.2 ⟨y.1, y.2, hpy⟩
    refine ⟨.bool true, ?_, by rw [hyes], hB.trans (belowK_b (w := w) (Nat.le_refl _) W D _ _ (by omega) hK rfl rfl)⟩
    simp [results, Try.f53, go_sem, hc5]
end

section
open Go.RowKit Go.Shelf
attribute [local go_sem] Oper.semAt_some
theorem infoLefS : (Try.prog.info? 38).map (fun i => (i.zero, i.size, i.bytes)) = some (some (.agg #[.int .i64 0, .int .i64 0]), 2, 16) := by kernel_rfl
theorem cell_two_newL (w : World) (x y : Value) (t : TypeId) : ∀ j u, [x, y][j]? = some u → (w.alloc (.cells #[x, y] t)).cell? ((⟨w.heap.size, 0, none⟩ : Addr).add j) = some u := by
  intro j u hj
  match j, hj with
  | 0, hj => simp at hj; subst hj; simp [Addr.add]
  | 1, hj => simp at hj; subst hj; simp [Addr.add]
  | _ + 2, hj => simp at hj
abbrev LfT := { _x : Lef // True }
abbrev lfC (pre : List LfT) : List Value := (pre.map (·.1)).flatMap Enc.cells
theorem lfC_snoc (pre : List LfT) (x : LfT) : lfC (pre ++ [x]) = lfC pre ++ [.int .i64 x.1.cls, .int .i64 x.1.code] := by
  unfold lfC
  rw [List.map_append, List.flatMap_append]; rfl
theorem leaves_ok {w : World} {A : Option Addr} {m cap : Nat} {g : List Prt} (S : Sl w A m cap g) : ∀ x ∈ leavesL g, Enc.ok x := by
  intro x hx
  unfold leavesL at hx
  obtain ⟨q, hq, rfl⟩ := List.mem_map.1 hx
  have h := S.ok q (List.mem_filter.1 hq).1
  exact ⟨h.2.2.1, h.2.2.2.1, h.2.2.2.2.1, h.2.2.2.2.2⟩
set_option maxRecDepth 100000 in
set_option maxHeartbeats 4000000 in
theorem appendLeaves_any (Bg : Nat) (A : Option Addr) (m cap : Nat) (g : List Prt) (hm : g.length ≤ 16) (w : World) (S : Sl w A m cap g) (hBg : w.cell? ⟨Bg, 0, none⟩ = some (.slice A m cap)) (zBg : Bg < w.heap.size) :
    Calls Try.prog 74 #[.slice none 0 0, .func (.func 75) #[] #[.pointer (some ⟨Bg, 0, none⟩)]] w fun e w' => ∃ v, e = .returned v ∧ Owd 38 w w' v (leavesL g) ∧ Le w w' := by
  obtain ⟨i0, hi, hz0, hz1, hz2⟩ := info_parts infoLefS
  have HOK := Lib.hid (leaves_ok S)
  have SB : SlB w.heap.size w A m cap g := ⟨S, fun hn a e => by obtain ⟨b, off, e2, hb, -⟩ := S.at_ hn; rw [e2] at e; cases e; exact hb⟩
  refine (callsIn_wide (n := 6)).1 ?_
  refine callsIn_of_wp_marks Try.func74 rfl trivial ?_ rfl
  simp only [Try.ntmps74, List.size_toArray, List.length_cons, List.length_nil, Nat.reduceAdd, Nat.reduceSub, Array.replicate_succ, Array.replicate_zero, List.push_toArray, List.append_toArray, List.nil_append, List.cons_append]
  gi_wp2
  have bO := Boxed.new w 34 (.slice none 0 0)
  have hB0 : Le w (w.alloc (.cells #[.slice none 0 0] 34)) := Le.new w _
  have hsz : (w.alloc (.cells #[.slice none 0 0] 34)).heap.size = w.heap.size + 1 := by simp
  have dBg := (hB0.cell zBg).trans hBg
  generalize w.alloc (.cells #[.slice none 0 0] 34) = W0 at *
  refine wpIn_rangeFunc_ownH rfl (by omega) (gf := 75) (lb := #[.pointer (some ⟨Bg, 0, none⟩)]) rfl trivial (enters_of Try.func75 (by kernel_rfl) rfl)
    (leaves_stops Fence.wide (6 - 1) trivial rfl (by omega) Bg w.heap.size A m cap g (fun _ => True) (fun _ _ => trivial) W0 (by omega) (by omega) dBg (SB.below hB0)) belowK_t (belowK_b (by omega)) (Below.refl _ _) (fun _ => rfl)
    (fun pre W => (∃ v, Boxed W w.heap.size 34 v ∧ W.ownsRow w.heap.size 38 2 v pre.length (lfC pre) ∧ True) ∧ Below w.heap.size w W)
    (fun _ _ _ => False)
    (OwnFrom.and (Own.from (holdsRow_own w.heap.size w.heap.size 34 38 2 (fun pre => pre.length) (fun pre => lfC pre) (fun _ _ => True)) _) (ownFrom_below (Nat.le_refl _) (by omega)))
    (fun _ _ _ _ _ hs _ _ => hs)
    ⟨⟨_, bO, World.ownsRow_nil _ _ _ _, trivial⟩, hB0⟩
    (fun x a' W => ∃ Bx, w.heap.size < Bx ∧ Boxed2 W Bx 38 (.int .i64 x.1.cls) (.int .i64 x.1.code) ∧ a' = { tmps := #[.slice none 0 0, .func (.func 75) #[] #[.pointer (some ⟨Bg, 0, none⟩)], .pointer (some ⟨w.heap.size, 0, none⟩), undef, .slice none 0 0, .pointer (some ⟨Bx, 0, none⟩), .func (.func 75) #[] #[.pointer (some ⟨Bg, 0, none⟩)], .agg #[.int .i64 x.1.cls, .int .i64 x.1.code], undef, undef, undef, undef, undef], defers := [] })
    (fun x a' _ X Y row hs hg hr => by obtain ⟨Bx, h1, h2, h3⟩ := hs; exact ⟨Bx, h1, boxed2_own h2 hg (fun r e => (hr r e).2), h3⟩)
    ?assign ?body ?done ?stop
  case assign =>
    rintro l pre x W K ⟨⟨v, bv, hrow, -⟩, hB1⟩ hK
    gi_wp2
    exact hK _ _ ((KeepsOthers.alloc _ _).from _) ((Below.refl _ W).alloc hB1.size _) ⟨⟨v, bv.alloc _, hrow.alloc _, trivial⟩, hB1.alloc hB1.size _⟩ ⟨W.heap.size, bv.lt, World.alloc_heap_new W _, rfl⟩
  case body =>
    rintro l pre x a' W hl ⟨r, hr⟩ ⟨⟨v, hv, hrow, -⟩, hB⟩ ⟨Bx, hBx, bX, rfl⟩ hlt
    have hc := hv.cell
    have cX0 := bX.c0
    have cX1 := bX.c1
    gi_wp2_with (gi_at_builtin; refine wpListIn_append_own _ rfl _ _ 34 rfl w.heap.size 38 i0 _ 2 16 Try.underlying34 hi hz0 hz1 hz2 rfl (by decide) _ _ _ rfl (hrow.alloc _) ⟨W.heap.size, 0, none⟩ 1 1 [.int .i64 x.1.cls, .int .i64 x.1.code] rfl rfl (cell_two_newL _ _ _ _) (by intro u hu; simp at hu; rcases hu with rfl | rfl <;> rfl) (by unfold maxLen; omega) (by omega) (by have := hB.size; simp; omega) ?_; intro v' w1 hown' hgrow _; obtain ⟨g', cap', rfl⟩ := ownsRow_succ hown'; obtain ⟨hv1, hv2, hr2, hk2, hb2⟩ := hv.appended (by decide) hrow hB.size (Nat.le_refl _) hown' hgrow; have hc1 := hv1.cell; have hf1 := hv1.frozen)
    exact ⟨hk2.from _, hb2, ⟨_, hv2, by rw [lfC_snoc, List.length_append]; exact hr2, trivial⟩, hB.trans hb2⟩
  case done =>
    rintro D ys W hD hz ⟨⟨v, hv, hrow, -⟩, hB⟩ hK
    have hc := hv.cell
    have hll : ys.length = (leavesL g).length := by rw [← hz, List.length_map]
    have hcc : lfC ys = (leavesL g).flatMap Enc.cells := by unfold lfC; rw [hz]
    rw [hll, hcc] at hrow
    have HR := Lib.hid hrow
    clear hrow hll hcc
    gi_wp2
    refine ⟨by simp, .inl ⟨_, _, rfl, run_takeDeferred hK, ?_⟩⟩
    exact ⟨_, results_tmp rfl _ _ _, v, rfl, ⟨ownsRow_putObj HR.out _ hK rfl, HOK.out⟩, hB.trans (belowK_b (w := w) (Nat.le_refl _) W D _ _ (by omega) hK rfl rfl)⟩
  case stop =>
    rintro D c pre W _ _ h _
    exact h.elim
end

section
def lvX (xs : List Cls) (g : List Prt) : List Lef := cond (gOkS xs g) (leavesL g) []
instance instOneLef : EncOne Lef := ⟨by decide, fun x u hu => by simp [Enc.cells] at hu; rcases hu with rfl | rfl <;> rfl⟩
theorem lvX_of {xs : List Cls} {g : List Prt} {b : Bool} (h : gOkS xs g = b) : lvX xs g = cond b (leavesL g) [] := by unfold lvX; rw [h]
theorem gOk_len {xs : List Cls} {g : List Prt} (h : gOkS xs g = true) : g.length ≤ 16 := (goodG_of (by rw [← gOk_same]; exact h)).len.2
theorem lvX_len (xs : List Cls) (g : List Prt) : (lvX xs g).length ≤ 1048576 := by
  cases h : gOkS xs g
  · rw [lvX_of h]; simp
  · have := gOk_len h
    have := leavesL_len g
    rw [lvX_of h]; show (leavesL g).length ≤ _; omega
theorem collect_any (Bg : Nat) (A : Option Addr) (m cap : Nat) (g : List Prt) (hm : g.length ≤ 16) (w : World) (S : Sl w A m cap g) (hBg : w.cell? ⟨Bg, 0, none⟩ = some (.slice A m cap)) (zBg : Bg < w.heap.size) :
    Calls Try.prog 44 #[.func (.func 75) #[] #[.pointer (some ⟨Bg, 0, none⟩)]] w fun e w' => ∃ v, e = .returned v ∧ Owd 38 w w' v (leavesL g) ∧ Le w w' := by
  go_enter Try.func44, Try.ntmps44
  go_wp2_with fail
  refine (appendLeaves_any Bg A m cap g hm w S hBg zBg).mono ?_
  rintro e w2 ⟨v, rfl, O, hle⟩
  have HO := Lib.hid O
  clear O
  go_wp2
  go_ret
  exact ⟨_, rfl, HO.out, hle⟩
set_option maxRecDepth 100000 in
theorem iLeavesOf_any (A B : Option Addr) (n cap m c : Nat) (xs : List Cls) (g : List Prt) (w : World) (hT : Sl w A n cap xs) (hG : Sl w B m c g) :
    Calls Try.prog 14 #[.agg #[.slice A n cap], .slice B m c] w fun e w' => ∃ v, e = .returned v ∧ Owd 38 w w' v (lvX xs g) ∧ Le w w' := by
  obtain ⟨-, z0, hl⟩ := box1 w (.slice A n cap) 25
  have hS := hT.le hl
  have hG1 := hG.le hl
  go_enter Try.func14, Try.ntmps14
  go_wp2_with fail
  generalize w.alloc (.cells #[.slice A n cap] 25) = w1 at *
  refine (iValidGroupS_any _ _ _ _ _ _ xs g _ hS hG1).mono ?_
  rintro e w2 ⟨rfl, hle⟩
  have hG2 := hG1.le hle
  have hLL := hl.trans hle
  cases hg : gOkS xs g
  · have HX := Lib.hid (lvX_of hg)
    clear hg
    go_wp2
    go_ret
    exact ⟨_, rfl, by rw [HX.out]; exact Owd.nil _ _ _, hLL⟩
  · have HX := Lib.hid (lvX_of hg)
    have hm := gOk_len hg
    clear hg
    go_wp2_with fail
    refine (callsIn_wide (n := 6)).1 ?_
    refine (leaves_in Fence.wide 6 trivial rfl _ _ _ _).mono ?_
    rintro e w3 ⟨rfl, rfl⟩
    obtain ⟨b0, y0, hl3⟩ := box1 w2 (.slice B m c) 26
    have hG3 := hG2.le hl3
    have hL3 := hLL.trans hl3
    go_wp2_with fail
    generalize w2.alloc (.cells #[.slice B m c] 26) = w3 at *
    refine (collect_any _ _ _ _ g hm w3 hG3 b0 y0).mono ?_
    rintro e w4 ⟨v, rfl, O, hle4⟩
    have HO := Lib.hid (O.mono hL3)
    have HL4 := Lib.hid (hL3.trans hle4)
    clear O
    go_wp2
    go_ret
    exact ⟨_, rfl, by rw [HX.out]; exact HO.out, HL4.out⟩
end
end Go.Proofs.Ytkpnajffeclmdaa
