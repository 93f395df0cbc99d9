/- one text of ItC, ItH, ItI, ItJ, ItQ -/
import Derived.Test.YthmdlligfhfleaaCj9
import Derived.Test.YthmdlligfhfleaaCj7
import Derived.Test.YthmdlligfhfleaaCj4
import Derived.Maps.AppendAt
import Derived.Lib.SliceRun
namespace Go.Proofs.Ythmdlligfhfleaa
open Go.RowKit
set_option linter.unusedVariables false
section
open Go.RowKit Go.Shelf
attribute [local go_sem] Oper.semAt_some
set_option maxHeartbeats 1000000 in
theorem leaves_in (F : Fence) (n : Nat) (hf : F.fn 39) (hro : F.round = none) (A : Option Addr) (m cap : Nat) (w : World) :
    CallsIn F n Try.prog 39 #[.slice A m cap] w fun e w' => e = .returned (.func (.func 62) #[] #[.pointer (some ⟨w.heap.size, 0, none⟩)]) ∧ w' = w.alloc (.cells #[.slice A m cap] 26) := by
  refine callsIn_of_wp Try.func39 rfl hf ?_ hro
  simp only [Try.ntmps39, List.size_toArray, List.length_cons, List.length_nil, Nat.reduceAdd, Nat.reduceSub, Array.replicate_succ, Array.replicate_zero, List.push_toArray, List.append_toArray, List.nil_append, List.cons_append]
  gi_wp2
  go_ret
  exact ⟨rfl, rfl⟩
theorem leaves_stops (F : Fence) (n : Nat) (hf : F.fn 62) (hro : F.round = none) (hn : 1 ≤ n) (Bg n₀ : Nat) (A : Option Addr) (m cap : Nat) (g : List Prt) (P : Lef → Prop) (hP : ∀ x ∈ leavesL g, P x) (w : World) (hBg : Bg < w.heap.size) (hn₀ : n₀ ≤ w.heap.size)
    (hc : w.cell? ⟨Bg, 0, none⟩ = some (.slice A m cap)) (S : SlB n₀ w A m cap g) :
    SeqStopsK F n Try.prog 62 #[.pointer (some ⟨Bg, 0, none⟩)] (encLef (P := P)) (Below n₀) (fun ys => ys.map (·.1) = leavesL g) (fun pre => pre.map (·.1) <+: leavesL g) g.length w := fun l J Jx W hW hJ _ hY h0 =>
  leaves1_in F n hf hro hn l Bg n₀ A m cap g P hP J Jx hY W (Nat.le_trans hn₀ hW.size) (fun s X Y row hs hg hr => hJ s X Y row hs hg (fun r e => hr r e)) ((hW.cell (p := ⟨Bg, 0, none⟩) hBg).trans hc) (S.below (hW.mono hn₀)) h0
theorem keepsFrom_le {B : Nat} {W W' : World} (h : Le W W') : KeepsFrom B W W' := ⟨h.size, fun k _ _ hk _ => (h.block k (Array.getElem?_eq_some_iff.1 hk).1).trans hk⟩
theorem boxed_le {W W' : World} {B : Nat} {t : TypeId} {v : Value} (h : Boxed W B t v) (hl : Le W W') : Boxed W' B t v := (hl.block B h.lt).trans h
def Boxed2 (W : World) (B : Nat) (t : TypeId) (u v : Value) : Prop := W.heap[B]? = some (.cells #[u, v] t (0, 0))
theorem boxed2_own {B : Nat} {t : TypeId} {u v : Value} {X Y : World} {row : Option Nat} (hs : Boxed2 X B t u v) (hg : X.grownBy Y row) (hr : ∀ r, row = some r → ∃ o : Obj, X.heap[r]? = some o ∧ o.isCells = false) : Boxed2 Y B t u v :=
  (grownBy_keeps_cells hg hr hs rfl).trans hs
theorem Boxed2.lt {W : World} {B : Nat} {t : TypeId} {u v : Value} (h : Boxed2 W B t u v) : B < W.heap.size := (Array.getElem?_eq_some_iff.1 h).1
theorem Boxed2.c0 {W : World} {B : Nat} {t : TypeId} {u v : Value} (h : Boxed2 W B t u v) : W.cell? ⟨B, 0, none⟩ = some u := by simp [World.cell?, show W.heap[B]? = _ from h]
theorem Boxed2.c1 {W : World} {B : Nat} {t : TypeId} {u v : Value} (h : Boxed2 W B t u v) : W.cell? ⟨B, 1, none⟩ = some v := by simp [World.cell?, show W.heap[B]? = _ from h]
set_option maxRecDepth 100000 in
set_option maxHeartbeats 4000000 in
theorem hasLeaf_in (Py Pn : Value) (p : Lef → Bool) (A : Option Addr) (m cap : Nat) (g : List Prt) (w : World) (S : Sl w A m cap g)
    (hT : ∀ (x : Lef) (W : World), x ∈ leavesL g → Le w W → Calls Try.prog 65 #[.agg #[.int .i64 x.cls, .int .i64 x.code], Py, Pn] W fun e W' => e = .returned (.bool (p x)) ∧ Le W W') :
    Calls Try.prog 44 #[.slice A m cap, .func (.func 65) #[] #[Py, Pn]] w fun e w' => e = .returned (.bool ((leavesL g).any p)) ∧ Le w w' := by
  have SB : SlB w.heap.size w A m cap g := ⟨S, fun hn a e => by obtain ⟨b, off, e2, hb, -⟩ := S.at_ hn; rw [e2] at e; cases e; exact hb⟩
  refine (callsIn_wide (n := 6)).1 ?_
  refine callsIn_of_wp_marks Try.func44 rfl trivial ?_ rfl
  simp only [Try.ntmps44, List.size_toArray, List.length_cons, List.length_nil, Nat.reduceAdd, Nat.reduceSub, Array.replicate_succ, Array.replicate_zero, List.push_toArray, List.append_toArray, List.nil_append, List.cons_append]
  gi_wp2_with (refine ⟨trivial, ?_⟩; gi_at_call 39; refine (leaves_in Fence.wide 5 trivial rfl _ _ _ _).mono ?_; rintro e w' ⟨rfl, rfl⟩)
  have bF := ((Boxed.new w 71 (.func (.func 65) #[] #[Py, Pn])).alloc (.cells #[.bool false] 4)).alloc (.cells #[.slice A m cap] 26)
  have bR := (Boxed.new (w.alloc (.cells #[.func (.func 65) #[] #[Py, Pn]] 71)) 4 (.bool false)).alloc (.cells #[.slice A m cap] 26)
  have bG := Boxed.new ((w.alloc (.cells #[.func (.func 65) #[] #[Py, Pn]] 71)).alloc (.cells #[.bool false] 4)) 26 (.slice A m cap)
  simp only [World.size_alloc] at bR bG
  have hB0 : Le w (((w.alloc (.cells #[.func (.func 65) #[] #[Py, Pn]] 71)).alloc (.cells #[.bool false] 4)).alloc (.cells #[.slice A m cap] 26)) := ((Le.new w _).alloc _).alloc _
  have hsz : (((w.alloc (.cells #[.func (.func 65) #[] #[Py, Pn]] 71)).alloc (.cells #[.bool false] 4)).alloc (.cells #[.slice A m cap] 26)).heap.size = w.heap.size + 3 := by simp
  generalize (((w.alloc (.cells #[.func (.func 65) #[] #[Py, Pn]] 71)).alloc (.cells #[.bool false] 4)).alloc (.cells #[.slice A m cap] 26)) = W0 at *
  refine wpIn_rangeFunc_ownH rfl (by omega) (gf := 62) (lb := #[.pointer (some ⟨w.heap.size + 1 + 1, 0, none⟩)]) rfl trivial (enters_of Try.func62 (by kernel_rfl) rfl)
    (leaves_stops Fence.wide (6 - 1) trivial rfl (by omega) (w.heap.size + 1 + 1) w.heap.size A m cap g (fun x => x ∈ leavesL g) (fun _ h => h) W0 (by omega) (by omega) bG.cell (SB.below hB0)) belowK_t (belowK_b (by omega)) (Below.refl _ _) (fun _ => rfl)
    (fun pre W => ((∀ y ∈ pre, p y.1 = false) ∧ Boxed W w.heap.size 71 (.func (.func 65) #[] #[Py, Pn]) ∧ Boxed W (w.heap.size + 1) 4 (.bool false)) ∧ Below w.heap.size w W)
    (fun c pre W => (c = .ret ∧ (∃ y ∈ pre, p y.1 = true) ∧ Boxed W (w.heap.size + 1) 4 (.bool true)) ∧ Below w.heap.size w W)
    (OwnFrom.and (Own.from (fun s X Y row hs hg hr => ⟨hs.1, boxed_own (β := Unit) _ _ (fun _ => _) () X Y row hs.2.1 hg hr, boxed_own (β := Unit) _ _ (fun _ => _) () X Y row hs.2.2 hg hr⟩) _) (ownFrom_below (Nat.le_refl _) (by omega)))
    (fun c => OwnFrom.and (Own.from (fun s X Y row hs hg hr => ⟨hs.1, hs.2.1, boxed_own (β := Unit) _ _ (fun _ => _) () X Y row hs.2.2 hg hr⟩) _) (ownFrom_below (Nat.le_refl _) (by omega)))
    ⟨⟨by simp, bF, bR⟩, hB0⟩
    (fun x a' W => ∃ Bx, w.heap.size + 1 < Bx ∧ Boxed2 W Bx 45 (.int .i64 x.1.cls) (.int .i64 x.1.code) ∧ a' = { tmps := #[.slice A m cap, .func (.func 65) #[] #[Py, Pn], undef, .pointer (some ⟨w.heap.size, 0, none⟩), .pointer (some ⟨w.heap.size + 1, 0, none⟩), .pointer (some ⟨Bx, 0, none⟩), .slice A m cap, .func (.func 62) #[] #[.pointer (some ⟨w.heap.size + 1 + 1, 0, none⟩)], .agg #[.int .i64 x.1.cls, .int .i64 x.1.code], undef, undef, undef], defers := [] })
    (fun x a' _ X Y row hs hg hr => by obtain ⟨Bx, h1, h2, h3⟩ := hs; exact ⟨Bx, h1, boxed2_own h2 hg (fun r e => (hr r e).2), h3⟩)
    ?assign ?body ?done ?stop
  case assign =>
    rintro l pre x W K ⟨⟨hp, bF1, bR1⟩, hB1⟩ hK
    gi_wp2
    exact hK _ _ ((KeepsOthers.alloc _ _).from _) ((Below.refl _ W).alloc hB1.size _) ⟨⟨hp, bF1.alloc _, bR1.alloc _⟩, hB1.alloc hB1.size _⟩ ⟨W.heap.size, bR1.lt, World.alloc_heap_new W _, rfl⟩
  case body =>
    rintro l pre x a' W hl ⟨r, hr⟩ ⟨⟨hp, bF1, bR1⟩, hB1⟩ ⟨Bx, hBx, bX, rfl⟩ hlt
    have cF := bF1.cell
    have cX0 := bX.c0
    have cX1 := bX.c1
    gi_wp2_with (refine ⟨trivial, ?_⟩; gi_at_call 65; refine (CallsIn.inRound l (callsIn_wide.2 (hT x.1 W x.2 hB1))).mono ?_; rintro e w' ⟨rfl, hle⟩; have bR2 := boxed_le bR1 hle; have bF2 := boxed_le bF1 hle; have cR2 := bR2.cell; have fR2 := bR2.frozen)
    · rename_i hx
      exact ⟨(keepsFrom_le hle).trans ((KeepsOthers.setCell _ _ _).from _), ⟨rfl, ⟨x, by simp, hx⟩, bR2.set _⟩, (hB1.trans (hle.mono hB1.size)).setCell (p := ⟨w.heap.size + 1, 0, none⟩) (by simp) _⟩
    · rename_i hx
      have hx' : p x.1 = false := by simpa using hx
      exact ⟨keepsFrom_le hle, hle.mono hB1.size, ⟨fun y hy => (List.mem_append.1 hy).elim (hp y) (fun e => by simp at e; rw [e]; exact hx'), bF2, bR2⟩, hB1.trans (hle.mono hB1.size)⟩
  case done =>
    rintro D zs W hD hz ⟨⟨hp, bF1, bR1⟩, hB1⟩ hK
    have cR := bR1.cell
    have fR := bR1.frozen
    have hno : (leavesL g).any p = false := by
      rw [← hz, List.any_map, List.any_eq_false]
      intro y hy
      simp [hp y hy]
    have HNO := Lib.hid hno
    clear hno
    gi_wp2
    have hK' := (KeepsOthers.setCell W ⟨w.heap.size + 1, 0, none⟩ (.bool false)).same D _ hK rfl
    refine ⟨by simp, .inl ⟨_, _, rfl, run_takeDeferred hK', ?_⟩⟩
    have hc5 := cell_kept (World.cell?_setCell_same' W ⟨w.heap.size + 1, 0, none⟩ (.bool false) (by rw [cR]; rfl)) (grownBy_putObj' _ D (.deferred none)) (fun r e => by cases e; exact ⟨_, hK', rfl⟩)
    refine ⟨.bool false, ?_, by rw [HNO.out], (hB1.setCell (p := ⟨w.heap.size + 1, 0, none⟩) (by simp) _).trans (belowK_b (w := w) (Nat.le_refl _) _ D _ _ (by omega) hK' rfl rfl)⟩
    simp [results, Try.f44, go_sem, hc5]
  case stop =>
    rintro D c pre W hD hpre ⟨⟨rfl, hin, bR1⟩, hB⟩ hK
    gi_wp2
    refine ⟨by simp, .inl ⟨_, _, rfl, run_takeDeferred hK, ?_⟩⟩
    have hc5 := cell_kept bR1.cell (grownBy_putObj' _ D (.deferred none)) (fun r e => by cases e; exact ⟨_, hK, rfl⟩)
    have hyes : (leavesL g).any p = true := by
      obtain ⟨y, hy, hpy⟩ := hin
      exact List.any_eq_true.2 ⟨y.1, y.2, hpy⟩
    refine ⟨.bool true, ?_, by rw [hyes], hB.trans (belowK_b (w := w) (Nat.le_refl _) W D _ _ (by omega) hK rfl rfl)⟩
    simp [results, Try.f44, go_sem, hc5]
end

section
open Go.RowKit Go.Shelf
attribute [local go_sem] Oper.semAt_some
theorem infoLefS : (Try.prog.info? 45).map (fun i => (i.zero, i.size, i.bytes)) = some (some (.agg #[.int .i64 0, .int .i64 0]), 2, 16) := by kernel_rfl
theorem cell_two_newL (w : World) (x y : Value) (t : TypeId) : ∀ j u, [x, y][j]? = some u → (w.alloc (.cells #[x, y] t)).cell? ((⟨w.heap.size, 0, none⟩ : Addr).add j) = some u := by
  intro j u hj
  match j, hj with
  | 0, hj => simp at hj; subst hj; simp [Addr.add]
  | 1, hj => simp at hj; subst hj; simp [Addr.add]
  | _ + 2, hj => simp at hj
abbrev LfT := { _x : Lef // True }
abbrev lfC (pre : List LfT) : List Value := (pre.map (·.1)).flatMap Enc.cells
theorem lfC_snoc (pre : List LfT) (x : LfT) : lfC (pre ++ [x]) = lfC pre ++ [.int .i64 x.1.cls, .int .i64 x.1.code] := by
  unfold lfC
  rw [List.map_append, List.flatMap_append]; rfl
theorem leaves_ok {w : World} {A : Option Addr} {m cap : Nat} {g : List Prt} (S : Sl w A m cap g) : ∀ x ∈ leavesL g, Enc.ok x := by
  intro x hx
  unfold leavesL at hx
  obtain ⟨q, hq, rfl⟩ := List.mem_map.1 hx
  have h := S.ok q (List.mem_filter.1 hq).1
  exact ⟨h.2.2.1, h.2.2.2.1, h.2.2.2.2.1, h.2.2.2.2.2⟩
set_option maxRecDepth 100000 in
set_option maxHeartbeats 4000000 in
theorem appendLeaves_any (Bg : Nat) (A : Option Addr) (m cap : Nat) (g : List Prt) (hm : g.length ≤ 16) (w : World) (S : Sl w A m cap g) (hBg : w.cell? ⟨Bg, 0, none⟩ = some (.slice A m cap)) (zBg : Bg < w.heap.size) :
    Calls Try.prog 61 #[.slice none 0 0, .func (.func 62) #[] #[.pointer (some ⟨Bg, 0, none⟩)]] w fun e w' => ∃ v, e = .returned v ∧ Owd 45 w w' v (leavesL g) ∧ Le w w' := by
  obtain ⟨i0, hi, hz0, hz1, hz2⟩ := info_parts infoLefS
  have HOK := Lib.hid (leaves_ok S)
  have SB : SlB w.heap.size w A m cap g := ⟨S, fun hn a e => by obtain ⟨b, off, e2, hb, -⟩ := S.at_ hn; rw [e2] at e; cases e; exact hb⟩
  refine (callsIn_wide (n := 6)).1 ?_
  refine callsIn_of_wp_marks Try.func61 rfl trivial ?_ rfl
  simp only [Try.ntmps61, List.size_toArray, List.length_cons, List.length_nil, Nat.reduceAdd, Nat.reduceSub, Array.replicate_succ, Array.replicate_zero, List.push_toArray, List.append_toArray, List.nil_append, List.cons_append]
  gi_wp2
  have bO := Boxed.new w 32 (.slice none 0 0)
  have hB0 : Le w (w.alloc (.cells #[.slice none 0 0] 32)) := Le.new w _
  have hsz : (w.alloc (.cells #[.slice none 0 0] 32)).heap.size = w.heap.size + 1 := by simp
  have dBg := (hB0.cell zBg).trans hBg
  generalize w.alloc (.cells #[.slice none 0 0] 32) = W0 at *
  refine wpIn_rangeFunc_ownH rfl (by omega) (gf := 62) (lb := #[.pointer (some ⟨Bg, 0, none⟩)]) rfl trivial (enters_of Try.func62 (by kernel_rfl) rfl)
    (leaves_stops Fence.wide (6 - 1) trivial rfl (by omega) Bg w.heap.size A m cap g (fun _ => True) (fun _ _ => trivial) W0 (by omega) (by omega) dBg (SB.below hB0)) belowK_t (belowK_b (by omega)) (Below.refl _ _) (fun _ => rfl)
    (fun pre W => (∃ v, Boxed W w.heap.size 32 v ∧ W.ownsRow w.heap.size 45 2 v pre.length (lfC pre) ∧ True) ∧ Below w.heap.size w W)
    (fun _ _ _ => False)
    (OwnFrom.and (Own.from (holdsRow_own w.heap.size w.heap.size 32 45 2 (fun pre => pre.length) (fun pre => lfC pre) (fun _ _ => True)) _) (ownFrom_below (Nat.le_refl _) (by omega)))
    (fun _ _ _ _ _ hs _ _ => hs)
    ⟨⟨_, bO, World.ownsRow_nil _ _ _ _, trivial⟩, hB0⟩
    (fun x a' W => ∃ Bx, w.heap.size < Bx ∧ Boxed2 W Bx 45 (.int .i64 x.1.cls) (.int .i64 x.1.code) ∧ a' = { tmps := #[.slice none 0 0, .func (.func 62) #[] #[.pointer (some ⟨Bg, 0, none⟩)], .pointer (some ⟨w.heap.size, 0, none⟩), undef, .slice none 0 0, .pointer (some ⟨Bx, 0, none⟩), .func (.func 62) #[] #[.pointer (some ⟨Bg, 0, none⟩)], .agg #[.int .i64 x.1.cls, .int .i64 x.1.code], undef, undef, undef, undef, undef], defers := [] })
    (fun x a' _ X Y row hs hg hr => by obtain ⟨Bx, h1, h2, h3⟩ := hs; exact ⟨Bx, h1, boxed2_own h2 hg (fun r e => (hr r e).2), h3⟩)
    ?assign ?body ?done ?stop
  case assign =>
    rintro l pre x W K ⟨⟨v, bv, hrow, -⟩, hB1⟩ hK
    gi_wp2
    exact hK _ _ ((KeepsOthers.alloc _ _).from _) ((Below.refl _ W).alloc hB1.size _) ⟨⟨v, bv.alloc _, hrow.alloc _, trivial⟩, hB1.alloc hB1.size _⟩ ⟨W.heap.size, bv.lt, World.alloc_heap_new W _, rfl⟩
  case body =>
    rintro l pre x a' W hl ⟨r, hr⟩ ⟨⟨v, hv, hrow, -⟩, hB⟩ ⟨Bx, hBx, bX, rfl⟩ hlt
    have hc := hv.cell
    have cX0 := bX.c0
    have cX1 := bX.c1
    gi_wp2_with (gi_at_builtin; refine wpListIn_append_own _ rfl _ _ 32 rfl w.heap.size 45 i0 _ 2 16 Try.underlying32 hi hz0 hz1 hz2 rfl (by decide) _ _ _ rfl (hrow.alloc _) ⟨W.heap.size, 0, none⟩ 1 1 [.int .i64 x.1.cls, .int .i64 x.1.code] rfl rfl (cell_two_newL _ _ _ _) (by intro u hu; simp at hu; rcases hu with rfl | rfl <;> rfl) (by unfold maxLen; omega) (by omega) (by have := hB.size; simp; omega) ?_; intro v' w1 hown' hgrow _; obtain ⟨g', cap', rfl⟩ := ownsRow_succ hown'; obtain ⟨hv1, hv2, hr2, hk2, hb2⟩ := hv.appended (by decide) hrow hB.size (Nat.le_refl _) hown' hgrow; have hc1 := hv1.cell; have hf1 := hv1.frozen)
    exact ⟨hk2.from _, hb2, ⟨_, hv2, by rw [lfC_snoc, List.length_append]; exact hr2, trivial⟩, hB.trans hb2⟩
  case done =>
    rintro D ys W hD hz ⟨⟨v, hv, hrow, -⟩, hB⟩ hK
    have hc := hv.cell
    have hll : ys.length = (leavesL g).length := by rw [← hz, List.length_map]
    have hcc : lfC ys = (leavesL g).flatMap Enc.cells := by unfold lfC; rw [hz]
    rw [hll, hcc] at hrow
    have HR := Lib.hid hrow
    clear hrow hll hcc
    gi_wp2
    refine ⟨by simp, .inl ⟨_, _, rfl, run_takeDeferred hK, ?_⟩⟩
    exact ⟨_, results_tmp rfl _ _ _, v, rfl, ⟨ownsRow_putObj HR.out _ hK rfl, HOK.out⟩, hB.trans (belowK_b (w := w) (Nat.le_refl _) W D _ _ (by omega) hK rfl rfl)⟩
  case stop =>
    rintro D c pre W _ _ h _
    exact h.elim
end

section
def lvX (xs : List Cls) (g : List Prt) : List Lef := cond (gOkS xs g) (leavesL g) []
instance instOneLef : EncOne Lef := ⟨by decide, fun x u hu => by simp [Enc.cells] at hu; rcases hu with rfl | rfl <;> rfl⟩
theorem lvX_of {xs : List Cls} {g : List Prt} {b : Bool} (h : gOkS xs g = b) : lvX xs g = cond b (leavesL g) [] := by unfold lvX; rw [h]
theorem gOk_len {xs : List Cls} {g : List Prt} (h : gOkS xs g = true) : g.length ≤ 16 := (goodG_of (by rw [← gOk_same]; exact h)).len.2
theorem lvX_len (xs : List Cls) (g : List Prt) : (lvX xs g).length ≤ 1048576 := by
  cases h : gOkS xs g
  · rw [lvX_of h]; simp
  · have := gOk_len h
    have := leavesL_len g
    rw [lvX_of h]; show (leavesL g).length ≤ _; omega
theorem collect_any (Bg : Nat) (A : Option Addr) (m cap : Nat) (g : List Prt) (hm : g.length ≤ 16) (w : World) (S : Sl w A m cap g) (hBg : w.cell? ⟨Bg, 0, none⟩ = some (.slice A m cap)) (zBg : Bg < w.heap.size) :
    Calls Try.prog 38 #[.func (.func 62) #[] #[.pointer (some ⟨Bg, 0, none⟩)]] w fun e w' => ∃ v, e = .returned v ∧ Owd 45 w w' v (leavesL g) ∧ Le w w' := by
  go_enter Try.func38, Try.ntmps38
  go_wp2_with fail
  refine (appendLeaves_any Bg A m cap g hm w S hBg zBg).mono ?_
  rintro e w2 ⟨v, rfl, O, hle⟩
  have HO := Lib.hid O
  clear O
  go_wp2
  go_ret
  exact ⟨_, rfl, HO.out, hle⟩
set_option maxRecDepth 100000 in
theorem iLeavesOf_any (A B : Option Addr) (n cap m c : Nat) (xs : List Cls) (g : List Prt) (w : World) (hT : Sl w A n cap xs) (hG : Sl w B m c g) :
    Calls Try.prog 12 #[.agg #[.slice A n cap], .slice B m c] w fun e w' => ∃ v, e = .returned v ∧ Owd 45 w w' v (lvX xs g) ∧ Le w w' := by
  obtain ⟨-, z0, hl⟩ := box1 w (.slice A n cap) 25
  have hS := hT.le hl
  have hG1 := hG.le hl
  go_enter Try.func12, Try.ntmps12
  go_wp2_with fail
  generalize w.alloc (.cells #[.slice A n cap] 25) = w1 at *
  refine (iValidGroupS_any _ _ _ _ _ _ xs g _ hS hG1).mono ?_
  rintro e w2 ⟨rfl, hle⟩
  have hG2 := hG1.le hle
  have hLL := hl.trans hle
  cases hg : gOkS xs g
  · have HX := Lib.hid (lvX_of hg)
    clear hg
    go_wp2
    go_ret
    exact ⟨_, rfl, by rw [HX.out]; exact Owd.nil _ _ _, hLL⟩
  · have HX := Lib.hid (lvX_of hg)
    have hm := gOk_len hg
    clear hg
    go_wp2_with fail
    refine (callsIn_wide (n := 6)).1 ?_
    refine (leaves_in Fence.wide 6 trivial rfl _ _ _ _).mono ?_
    rintro e w3 ⟨rfl, rfl⟩
    obtain ⟨b0, y0, hl3⟩ := box1 w2 (.slice B m c) 26
    have hG3 := hG2.le hl3
    have hL3 := hLL.trans hl3
    go_wp2_with fail
    generalize w2.alloc (.cells #[.slice B m c] 26) = w3 at *
    refine (collect_any _ _ _ _ g hm w3 hG3 b0 y0).mono ?_
    rintro e w4 ⟨v, rfl, O, hle4⟩
    have HO := Lib.hid (O.mono hL3)
    have HL4 := Lib.hid (hL3.trans hle4)
    clear O
    go_wp2
    go_ret
    exact ⟨_, rfl, by rw [HX.out]; exact HO.out, HL4.out⟩
set_option maxRecDepth 100000 in
theorem leaf_any (d c code : Int) (gr : Bool) (w : World) : Calls Try.prog 63 #[.agg #[.int .i64 d, .bool gr, .int .i64 c, .int .i64 code]] w fun e w' => e = .returned (.agg #[.int .i64 c, .int .i64 code]) ∧ Le w w' := by
  go_enter Try.func63, Try.ntmps63
  go_wp2
  have e0 : ((w.alloc (.cells #[.int .i64 d, .bool gr, .int .i64 c, .int .i64 code] 35)).alloc (.cells #[.int .i64 c, .int .i64 code] 45)).cell? ⟨w.heap.size + 1, 0, none⟩ = some (.int .i64 c) := by rw [World.cell?_alloc_at _ _ _ _ (by simp)]; rfl
  have e1 : ((w.alloc (.cells #[.int .i64 d, .bool gr, .int .i64 c, .int .i64 code] 35)).alloc (.cells #[.int .i64 c, .int .i64 code] 45)).cell? ⟨w.heap.size + 1, 1, none⟩ = some (.int .i64 code) := by rw [World.cell?_alloc_at _ _ _ _ (by simp)]; rfl
  have L : Le w ((w.alloc (.cells #[.int .i64 d, .bool gr, .int .i64 c, .int .i64 code] 35)).alloc (.cells #[.int .i64 c, .int .i64 code] 45)) := (Le.new w _).alloc _
  generalize ((w.alloc (.cells #[.int .i64 d, .bool gr, .int .i64 c, .int .i64 code] 35)).alloc (.cells #[.int .i64 c, .int .i64 code] 45)) = W at *
  exact bodyPost_ret (v := .agg #[.int .i64 c, .int .i64 code]) (by simp [results, Try.f63, go_sem, e0, e1]) rfl ⟨rfl, L⟩
set_option maxRecDepth 100000 in
theorem sLeaves_any (B : Option Addr) (m c : Nat) (g : List Prt) (hm : g.length ≤ 16) (w : World) (hG : Sl w B m c g) :
    Calls Try.prog 40 #[.slice B m c] w fun e w' => ∃ v, e = .returned v ∧ Owd 45 w w' v (leavesL g) ∧ Le w w' := by
  obtain ⟨i0, hi, hz0, hz1, hz2⟩ := info_parts infoLefS
  have HOK := Lib.hid (leaves_ok hG)
  obtain rfl := hG.len
  go_enter Try.func40, Try.ntmps40
  go_wp2
  go_loopw [3, 4] (fun v i wr => ∃ k : Nat, k ≤ g.length ∧ i = .int .i64 k ∧ wr.ownsRow w.heap.size 45 2 v (leavesL (g.take k)).length ((leavesL (g.take k)).flatMap Enc.cells) ∧ Le w wr) (fun _ i _ => g.length - (intOf i).toNat)
  case atStart => exact ⟨0, Nat.zero_le _, rfl, own_empty (Nat.le_refl _) rfl, Le.new _ _⟩
  case round =>
    obtain ⟨k, hk, rfl, O1, L⟩ := hrel
    have R := hG.le L
    by_cases hlt : k < g.length
    · have hT := leavesL_take hlt
      have hll : (leavesL (g.take k)).length ≤ 16 := Nat.le_trans (leavesL_len _) (by rw [List.length_take]; omega)
      obtain ⟨b, off, rfl, hb, p0, p1, p2, p3, p4, p5, p6, p7, p8, p9⟩ := R.prt_at hlt
      cases hgr : g[k].group
      · rw [hgr] at p1
        rw [hgr, if_neg (by decide)] at hT
        have HT := Lib.hid hT
        clear hT
        go_wp2_with fail
        refine (leaf_any _ _ _ _ _).mono ?_
        rintro e w3 ⟨rfl, hle3⟩
        have P1 := own_le O1 hle3
        have L3 := L.trans hle3
        have hok : Enc.ok (⟨g[k].cls, g[k].code⟩ : Lef) := ⟨p6, p7, p8, p9⟩
        clear O1
        go_wp2_with (at_builtin; refine wpList_append_sl rfl _ _ 32 rfl w.heap.size 45 i0 _ 16 Try.underlying32 hi hz0 hz1 hz2 rfl _ _ (leavesL (g.take k)) rfl (P1.alloc _) _ 1 1 [(⟨g[k].cls, g[k].code⟩ : Lef)] rfl (sl_one (⟨g[k].cls, g[k].code⟩ : Lef) rfl hok rfl) (by unfold maxLen; omega) (by omega) (L3.alloc _).size ?_; intro v4 w4 O4 hg4 _; have L4 := (L3.alloc _).grown hg4 (fun k hk => (P1.lt k hk).1); clear hg4)
        go_roundw
        case rel => exact ⟨k + 1, by omega, by go_num, by rw [HT.out, List.length_append]; exact O4, L4⟩
        case measure => simp [intOf]; omega
      · rw [hgr] at p1
        rw [hgr, if_pos rfl, List.append_nil] at hT
        have HT := Lib.hid hT
        clear hT
        go_wp2
        go_roundw
        case rel => exact ⟨k + 1, by omega, by go_num, by rw [HT.out]; exact O1, L⟩
        case measure => simp [intOf]; omega
    · obtain rfl : k = g.length := by omega
      rw [List.take_length] at O1
      have HO := Lib.hid (⟨O1, HOK.out⟩ : Owd 45 w wr _ (leavesL g))
      clear O1
      go_wp2
      go_ret
      exact ⟨_, rfl, HO.out, L⟩
theorem sLeavesOf_any (A B : Option Addr) (n cap m c : Nat) (xs : List Cls) (g : List Prt) (w : World) (hT : Sl w A n cap xs) (hG : Sl w B m c g) :
    Calls Try.prog 15 #[.agg #[.slice A n cap], .slice B m c] w fun e w' => ∃ v, e = .returned v ∧ Owd 45 w w' v (lvX xs g) ∧ Le w w' := by
  obtain ⟨-, z0, hl⟩ := box1 w (.slice A n cap) 25
  have hS := hT.le hl
  have hG1 := hG.le hl
  go_enter Try.func15, Try.ntmps15
  go_wp2_with fail
  generalize w.alloc (.cells #[.slice A n cap] 25) = w1 at *
  refine (validGroup_any _ _ _ _ _ _ xs g _ hS hG1).mono ?_
  rintro e w2 ⟨rfl, hle⟩
  have hG2 := hG1.le hle
  have hLL := hl.trans hle
  cases hg : gOkS xs g
  · have HX := Lib.hid (lvX_of hg)
    clear hg
    go_wp2
    go_ret
    exact ⟨_, rfl, by rw [HX.out]; exact Owd.nil _ _ _, hLL⟩
  · have HX := Lib.hid (lvX_of hg)
    have hm := gOk_len hg
    clear hg
    go_wp2_with fail
    refine (sLeaves_any _ _ _ g hm _ hG2).mono ?_
    rintro e w4 ⟨v, rfl, O, hle4⟩
    have HO := Lib.hid (O.mono hLL)
    have HL4 := Lib.hid (hLL.trans hle4)
    clear O
    go_wp2
    go_ret
    exact ⟨_, rfl, by rw [HX.out]; exact HO.out, HL4.out⟩
end

section
open Go.RowKit Go.Shelf
/-- a leaf as a part right below a group -/
def tpL (x : Lef) : Prt := ⟨1, false, x.cls, x.code⟩
def flG (g : List Prt) : List Prt := cond (gAt g 0).group (gAt g 0 :: (leavesL g).map tpL) [gAt g 0]
def flX (xs : List Cls) (g : List Prt) : List Prt := cond (gOkS xs g) (flG g) []
theorem flX_of {xs : List Cls} {g : List Prt} {b : Bool} (h : gOkS xs g = b) : flX xs g = cond b (flG g) [] := by unfold flX; rw [h]
theorem flG_len (g : List Prt) : (flG g).length ≤ g.length + 1 := by
  have := leavesL_len g
  unfold flG
  cases (gAt g 0).group
  · simp
  · simp; omega
theorem flX_len (xs : List Cls) (g : List Prt) : (flX xs g).length ≤ 1048576 := by
  cases h : gOkS xs g
  · rw [flX_of h]; simp
  · have := gOk_len h
    have := flG_len g
    rw [flX_of h]; show (flG g).length ≤ _; omega
/-- a group whose first part is a leaf is that leaf -/
theorem leaf_alone {xs : List Cls} {g : List Prt} (G : GoodG xs g) (h : (gAt g 0).group = false) : g = [gAt g 0] := by
  have hl := G.len
  by_cases h1 : g.length = 1
  · obtain ⟨x, rfl⟩ := List.length_eq_one_iff.1 h1
    rfl
  · have hs := G.step 1 (Nat.le_refl _) (by omega)
    have hd := G.deep 1 (Nat.le_refl _) (by omega)
    rw [show 1 - 1 = 0 from rfl, h, G.first] at hs
    simp at hs
    omega
set_option maxRecDepth 100000 in
theorem clonePart_any (A : Option Addr) (m c : Nat) (g : List Prt) (w : World) (hG : Sl w A m c g) (hm : m ≤ 2097152) :
    Calls Try.prog 60 #[.slice A m c] w fun e w' => ∃ v, e = .returned v ∧ Owd 35 w w' v g ∧ Le w w' := by
  obtain ⟨i0, hi, hz0, hz1, hz2⟩ := info_parts infoPrtS
  have hlen := hG.len
  have hokA := Lib.hid hG.ok
  have q22 : ∀ (w : World) (a : Option Addr) (n c n' c' : Nat), (binOp .eql 26 (.slice a n c) (.slice none n' c')).run Try.prog w = .ok (.bool a.isNone) w := fun w a n c n' c' => Lib.run_eql_slice_nil w _ _ a n c n' c' Try.underlying26
  cases A with
  | none =>
    have h0 : g = [] := by
      rcases Nat.eq_zero_or_pos m with h0 | h0
      · exact List.eq_nil_of_length_eq_zero (by omega)
      · obtain ⟨b, off, h, _⟩ := hG.at_ h0; cases h
    subst h0
    go_enter Try.func60, Try.ntmps60
    go_wp2
    go_ret
    exact ⟨_, rfl, Owd.nil _ _ _, Le.refl _⟩
  | some ad =>
    go_enter Try.func60, Try.ntmps60
    go_wp2_with (at_builtin; refine wpList_append_sl rfl (.tmp 5) (.tmp 6) 26 rfl (w.heap.size) 35 i0 _ 32 Try.underlying26 hi hz0 hz1 hz2 rfl (.slice (some ⟨w.heap.size, 0, none⟩) 0 0) 0 ([] : List Prt) rfl (own_empty (by simp) (by simp)) (some ad) m c g rfl (hG.alloc _) (by unfold maxLen; omega) (by omega) (by simp) ?_; intro v1 w1 O1 hg1 _; simp only [Nat.zero_add, List.nil_append] at O1; have L1 := ((Le.refl _).alloc _).grown hg1 (fun k hk => by simp [Value.ownBlock] at hk; omega); clear hg1)
    go_ret
    have hd : Owd 35 w w1 v1 g := ⟨by rw [hlen]; exact O1, hokA.out⟩
    exact ⟨_, rfl, hd, L1⟩
theorem cell_four_newL (w : World) (x y z u : Value) (t : TypeId) : ∀ j v, [x, y, z, u][j]? = some v → (w.alloc (.cells #[x, y, z, u] t)).cell? ((⟨w.heap.size, 0, none⟩ : Addr).add j) = some v := by
  intro j v hj
  match j, hj with
  | 0, hj => simp at hj; subst hj; simp [Addr.add]
  | 1, hj => simp at hj; subst hj; simp [Addr.add]
  | 2, hj => simp at hj; subst hj; simp [Addr.add]
  | 3, hj => simp at hj; subst hj; simp [Addr.add]
  | _ + 4, hj => simp at hj
abbrev flC (p : Prt) (pre : List LfT) : List Value := (p :: (pre.map (·.1)).map tpL).flatMap Enc.cells
theorem flC_snoc (p : Prt) (pre : List LfT) (x : LfT) : flC p (pre ++ [x]) = flC p pre ++ [.int .i64 1, .bool false, .int .i64 x.1.cls, .int .i64 x.1.code] := by
  unfold flC
  rw [List.map_append, List.map_append, ← List.cons_append, List.flatMap_append]; rfl
theorem flG_ok {w : World} {A : Option Addr} {m c : Nat} {g : List Prt} (S : Sl w A m c g) (h0 : 0 < g.length) : ∀ x ∈ gAt g 0 :: (leavesL g).map tpL, Enc.ok x := by
  intro x hx
  rcases List.mem_cons.1 hx with rfl | hx
  · rw [gAt_at h0]; exact S.ok _ (List.getElem_mem h0)
  · obtain ⟨y, hy, rfl⟩ := List.mem_map.1 hx
    have h := leaves_ok S y hy
    exact ⟨by show (-9223372036854775808 : Int) ≤ 1; omega, by show (1 : Int) ≤ 9223372036854775807; omega, h.1, h.2.1, h.2.2.1, h.2.2.2⟩
attribute [local go_sem] Oper.semAt_some in
theorem own_oneP (w : World) (h : Prt) {b : Nat} (hb : b ≤ w.heap.size) : (w.alloc (.cells #[.int .i64 h.depth, .bool h.group, .int .i64 h.cls, .int .i64 h.code] 35)).ownsRow b 35 4 (.slice (some ⟨w.heap.size, 0, none⟩) 1 1) 1 (([h] : List Prt).flatMap Enc.cells) :=
  World.ownsRow_lit (base := b) (e := 35) (size := 4) w #[.int .i64 h.depth, .bool h.group, .int .i64 h.cls, .int .i64 h.code] 1 hb (by decide) (by simp)
theorem leavesL_one {g : List Prt} (h0 : 0 < g.length) (hg : (gAt g 0).group = true) : leavesL (g.take 1) = [] := by
  rw [gAt_at h0] at hg
  have := leavesL_take h0
  rw [hg, if_pos rfl] at this
  simpa [leavesL] using this
end

section
/-- parts that are deeper by a number -/
def shiftL (g : List Prt) (d : Int) : List Prt := g.map (fun p => { p with depth := p.depth + d })
theorem shiftL_len (g : List Prt) (d : Int) : (shiftL g d).length = g.length := List.length_map ..
theorem shift_set {g : List Prt} {k : Nat} (h : k < g.length) (d : Int) : (shiftL (g.take k) d ++ g.drop k).set k { g[k] with depth := g[k].depth + d } = shiftL (g.take (k + 1)) d ++ g.drop (k + 1) := by
  have hl : (shiftL (g.take k) d).length = k := by rw [shiftL_len, List.length_take]; omega
  rw [List.set_append_right _ _ (by omega), hl, Nat.sub_self, List.drop_eq_getElem_cons h, List.set_cons_zero, List.take_succ_eq_append_getElem h]
  unfold shiftL
  rw [List.map_append, List.append_assoc]; rfl
theorem shift_ok {g : List Prt} {d : Int} (hd : ∀ p ∈ g, -1000 ≤ p.depth ∧ p.depth ≤ 1000) (hb : -1000 ≤ d ∧ d ≤ 1000) (ok : ∀ x ∈ g, Enc.ok x) : ∀ x ∈ shiftL g d, Enc.ok x := by
  intro x hx
  obtain ⟨p, hp, rfl⟩ := List.mem_map.1 hx
  have h1 := hd p hp
  obtain ⟨a, b, c⟩ := ok p hp
  exact ⟨by show _ ≤ p.depth + d; omega, by show p.depth + d ≤ _; omega, c⟩
theorem own_set4 {w : World} {base gb n cap k : Nat} {T : TypeId} {g : List Prt} {d : Int} (h : w.ownsRow base T 4 (.slice (some ⟨gb, 0, none⟩) n cap) n ((shiftL (g.take k) d ++ g.drop k).flatMap Enc.cells)) (hk : k < g.length) :
    (w.setCell ⟨gb, k * 4, none⟩ (.int .i64 (g[k].depth + d))).ownsRow base T 4 (.slice (some ⟨gb, 0, none⟩) n cap) n ((shiftL (g.take (k + 1)) d ++ g.drop (k + 1)).flatMap Enc.cells) := by
  have h1 := (h.stored (k * 4) (.int .i64 (g[k].depth + d))).1
  have hl : (shiftL (g.take k) d).length = k := by rw [shiftL_len, List.length_take]; omega
  have hk2 : k < (shiftL (g.take k) d ++ g.drop k).length := by rw [List.length_append, hl, List.length_drop]; omega
  have e : (shiftL (g.take k) d ++ g.drop k)[k] = g[k] := by
    rw [List.getElem_append_right (by omega)]
    simp only [hl, Nat.sub_self]
    rw [List.getElem_drop]; rfl
  rw [flat_prt_depth _ k hk2, e, shift_set hk] at h1
  exact h1
set_option maxRecDepth 100000 in
theorem shiftParts_any (A : Option Addr) (m c : Nat) (g : List Prt) (d : Int) (w : World) (hG : Sl w A m c g) (hm : m ≤ 2097152) (hd : ∀ p ∈ g, -1000 ≤ p.depth ∧ p.depth ≤ 1000) (hb : -1000 ≤ d ∧ d ≤ 1000) :
    Calls Try.prog 37 #[.slice A m c, .int .i64 d] w fun e w' => ∃ v, e = .returned v ∧ Owd 35 w w' v (shiftL g d) ∧ Le w w' := by
  have HOK := Lib.hid (shift_ok hd hb hG.ok)
  have hlen := hG.len
  have hmx : g.length ≤ 2097152 := by omega
  clear hlen
  go_enter Try.func37, Try.ntmps37
  go_wp2_with fail
  refine (clonePart_any A m c g _ hG hm).mono ?_
  rintro e w1 ⟨v, rfl, O, hle⟩
  obtain ⟨A1, c1, rfl, -, -⟩ := O.form (by decide)
  have R := O.row
  clear O hG
  go_wp2
  go_loopw [11] (fun i wr => ∃ k : Nat, k ≤ g.length ∧ i = .int .i64 k ∧ wr.ownsRow w.heap.size 35 4 (.slice A1 g.length c1) g.length ((shiftL (g.take k) d ++ g.drop k).flatMap Enc.cells) ∧ Le w wr) (fun i _ => g.length - (intOf i).toNat)
  case atStart => exact ⟨0, Nat.zero_le _, rfl, R, hle⟩
  case round =>
    obtain ⟨k, hk, rfl, hown, L1⟩ := hrel
    clear R
    by_cases hlt : k < g.length
    · have hfl : ((shiftL (g.take k) d).flatMap (Enc.cells (α := Prt))).length = k * 4 := by rw [flat_len, shiftL_len, List.length_take]; show _ * 4 = _; rw [Nat.min_eq_left (by omega)]
      have hdk := hd g[k] (List.getElem_mem hlt)
      have hw1 : IntKind.i64.wrap (g[k].depth + d) = g[k].depth + d := IntWalk.i64_in _ (by omega)
      rcases hown.2 with ⟨h, h0'⟩ | ⟨gb, c', _, h, hgb, _⟩
      · omega
      · simp only [Value.slice.injEq, true_and] at h
        obtain ⟨rfl, rfl⟩ := h
        have hc0 : wr.cell? ⟨gb, k * 4, none⟩ = some (.int .i64 g[k].depth) := by
          rw [hown.cellAt _ (by omega), List.flatMap_append, List.getElem?_append_right (by omega), hfl, List.drop_eq_getElem_cons hlt, Nat.sub_self]; rfl
        have hf0 := hown.frozenAt (k * 4)
        have HN := Lib.hid (own_set4 hown hlt)
        have HL := Lib.hid (L1.setCell (b := gb) (o := k * 4) hgb (.int .i64 (g[k].depth + d)))
        clear hfl hown
        go_wp2
        go_roundw
        case rel => exact ⟨k + 1, by omega, by go_num, HN.out, HL.out⟩
        case measure => simp [intOf]; omega
    · obtain rfl : k = g.length := by omega
      have HO : Hid (Owd 35 w wr (.slice A1 g.length c1) (shiftL g d)) := by
        refine ⟨?_, HOK.out⟩
        rw [List.take_length, List.drop_length, List.append_nil] at hown
        rw [shiftL_len]; exact hown
      clear hown
      go_wp2
      go_ret
      exact ⟨_, rfl, HO.out, L1⟩
set_option maxRecDepth 100000 in
theorem deeper_any (A : Option Addr) (m c : Nat) (g : List Prt) (d : Int) (w : World) (hG : Sl w A m c g) (hm : m ≤ 2097152) (hd : ∀ p ∈ g, -1000 ≤ p.depth ∧ p.depth ≤ 1000) (hb : -1000 ≤ d ∧ d ≤ 1000) :
    Calls Try.prog 67 #[.slice A m c, .int .i64 d] w fun e w' => ∃ v, e = .returned v ∧ Owd 35 w w' v (shiftL g d) ∧ Le w w' := by
  obtain ⟨i0, hi, hz0, hz1, hz2⟩ := info_parts infoPrtS
  have HOK := Lib.hid (shift_ok hd hb hG.ok)
  obtain rfl := hG.len
  go_enter Try.func67, Try.ntmps67
  go_wp2_with (at_builtin; refine wpList_append_sl rfl _ _ 26 rfl w.heap.size 35 i0 _ 32 Try.underlying26 hi hz0 hz1 hz2 rfl (.slice (some ⟨w.heap.size, 0, none⟩) 0 0) 0 ([] : List Prt) rfl (own_empty (by simp) (by simp)) A g.length c g rfl (hG.alloc _) (by unfold maxLen; omega) (by omega) (by simp) ?_; intro v1 w1 O1 hg1 _; simp only [Nat.zero_add, List.nil_append] at O1; have L1 := ((Le.refl w).alloc _).grown hg1 (fun k hk => by simp [Value.ownBlock] at hk; omega); clear hg1)
  obtain ⟨A1, c1, rfl⟩ := own_form O1
  clear hG
  go_loopw [6] (fun i wr => ∃ k : Nat, k ≤ g.length ∧ i = .int .i64 k ∧ wr.ownsRow w.heap.size 35 4 (.slice A1 g.length c1) g.length ((shiftL (g.take k) d ++ g.drop k).flatMap Enc.cells) ∧ Le w wr) (fun i _ => g.length - (intOf i).toNat)
  case atStart => exact ⟨0, Nat.zero_le _, rfl, O1, L1⟩
  case round =>
    obtain ⟨k, hk, rfl, hown, L2⟩ := hrel
    clear O1 L1
    by_cases hlt : k < g.length
    · have hfl : ((shiftL (g.take k) d).flatMap (Enc.cells (α := Prt))).length = k * 4 := by rw [flat_len, shiftL_len, List.length_take]; show _ * 4 = _; rw [Nat.min_eq_left (by omega)]
      have hdk := hd g[k] (List.getElem_mem hlt)
      have hw1 : IntKind.i64.wrap (g[k].depth + d) = g[k].depth + d := IntWalk.i64_in _ (by omega)
      rcases hown.2 with ⟨h, h0'⟩ | ⟨gb, c', _, h, hgb, _⟩
      · omega
      · simp only [Value.slice.injEq, true_and] at h
        obtain ⟨rfl, rfl⟩ := h
        have hc0 : wr.cell? ⟨gb, k * 4, none⟩ = some (.int .i64 g[k].depth) := by
          rw [hown.cellAt _ (by omega), List.flatMap_append, List.getElem?_append_right (by omega), hfl, List.drop_eq_getElem_cons hlt, Nat.sub_self]; rfl
        have hf0 := hown.frozenAt (k * 4)
        have HN := Lib.hid (own_set4 hown hlt)
        have HL := Lib.hid (L2.setCell (b := gb) (o := k * 4) hgb (.int .i64 (g[k].depth + d)))
        clear hfl hown
        go_wp2
        go_roundw
        case rel => exact ⟨k + 1, by omega, by go_num, HN.out, HL.out⟩
        case measure => simp [intOf]; omega
    · obtain rfl : k = g.length := by omega
      have HO : Hid (Owd 35 w wr (.slice A1 g.length c1) (shiftL g d)) := by
        refine ⟨?_, HOK.out⟩
        rw [List.take_length, List.drop_length, List.append_nil] at hown
        rw [shiftL_len]; exact hown
      clear hown
      go_wp2
      go_ret
      exact ⟨_, rfl, HO.out, L2⟩
end
end Go.Proofs.Ythmdlligfhfleaa
