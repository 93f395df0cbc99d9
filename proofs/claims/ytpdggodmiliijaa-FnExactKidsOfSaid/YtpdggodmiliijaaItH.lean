/- groups: slices.Collect of the leaves; LeavesOf of the program -/
import Derived.Test.YtpdggodmiliijaaItC
import Derived.Test.YtpdggodmiliijaaGL
import Derived.Maps.AppendAt
namespace Go.Proofs.Ytpdggodmiliijaa
open Go.RowKit Go.Shelf
attribute [local go_sem] Oper.semAt_some
theorem infoLefS : (Try.prog.info? 75).map (fun i => (i.zero, i.size, i.bytes)) = some (some (.agg #[.int .i64 0, .int .i64 0]), 2, 16) := by kernel_rfl
theorem cell_two_newL (w : World) (x y : Value) (t : TypeId) : ∀ j u, [x, y][j]? = some u → (w.alloc (.cells #[x, y] t)).cell? ((⟨w.heap.size, 0, none⟩ : Addr).add j) = some u := by
  intro j u hj
  match j, hj with
  | 0, hj => simp at hj; subst hj; simp [Addr.add]
  | 1, hj => simp at hj; subst hj; simp [Addr.add]
  | _ + 2, hj => simp at hj
abbrev LfT := { _x : Lef // True }
abbrev lfC (pre : List LfT) : List Value := (pre.map (·.1)).flatMap Enc.cells
theorem lfC_snoc (pre : List LfT) (x : LfT) : lfC (pre ++ [x]) = lfC pre ++ [.int .i64 x.1.cls, .int .i64 x.1.code] := by
  unfold lfC
  rw [List.map_append, List.flatMap_append]; rfl
theorem leaves_ok {w : World} {A : Option Addr} {m cap : Nat} {g : List Prt} (S : Sl w A m cap g) : ∀ x ∈ leavesL g, Enc.ok x := by
  intro x hx
  unfold leavesL at hx
  obtain ⟨q, hq, rfl⟩ := List.mem_map.1 hx
  have h := S.ok q (List.mem_filter.1 hq).1
  exact ⟨h.2.2.1, h.2.2.2.1, h.2.2.2.2.1, h.2.2.2.2.2⟩
set_option maxRecDepth 100000 in
set_option maxHeartbeats 4000000 in
theorem appendLeaves_any (Bg : Nat) (A : Option Addr) (m cap : Nat) (g : List Prt) (hm : g.length ≤ 16) (w : World) (S : Sl w A m cap g) (hBg : w.cell? ⟨Bg, 0, none⟩ = some (.slice A m cap)) (zBg : Bg < w.heap.size) :
    Calls Try.prog 85 #[.slice none 0 0, .func (.func 86) #[] #[.pointer (some ⟨Bg, 0, none⟩)]] w fun e w' => ∃ v, e = .returned v ∧ Owd 75 w w' v (leavesL g) ∧ Le w w' := by
  obtain ⟨i0, hi, hz0, hz1, hz2⟩ := info_parts infoLefS
  have HOK := Lib.hid (leaves_ok S)
  have SB : SlB w.heap.size w A m cap g := ⟨S, fun hn a e => by obtain ⟨b, off, e2, hb, -⟩ := S.at_ hn; rw [e2] at e; cases e; exact hb⟩
  refine (callsIn_wide (n := 6)).1 ?_
  refine callsIn_of_wp_marks Try.func85 rfl trivial ?_ rfl
  simp only [Try.ntmps85, List.size_toArray, List.length_cons, List.length_nil, Nat.reduceAdd, Nat.reduceSub, Array.replicate_succ, Array.replicate_zero, List.push_toArray, List.append_toArray, List.nil_append, List.cons_append]
  gi_wp2
  have bO := Boxed.new w 28 (.slice none 0 0)
  have hB0 : Le w (w.alloc (.cells #[.slice none 0 0] 28)) := Le.new w _
  have hsz : (w.alloc (.cells #[.slice none 0 0] 28)).heap.size = w.heap.size + 1 := by simp
  have dBg := (hB0.cell zBg).trans hBg
  generalize w.alloc (.cells #[.slice none 0 0] 28) = W0 at *
  refine wpIn_rangeFunc_ownH rfl (by omega) (gf := 86) (lb := #[.pointer (some ⟨Bg, 0, none⟩)]) rfl trivial (enters_of Try.func86 (by kernel_rfl) rfl)
    (leaves_stops Fence.wide (6 - 1) trivial rfl (by omega) Bg w.heap.size A m cap g (fun _ => True) (fun _ _ => trivial) W0 (by omega) (by omega) dBg (SB.below hB0)) belowK_t (belowK_b (by omega)) (Below.refl _ _) (fun _ => rfl)
    (fun pre W => (∃ v, Boxed W w.heap.size 28 v ∧ W.ownsRow w.heap.size 75 2 v pre.length (lfC pre) ∧ True) ∧ Below w.heap.size w W)
    (fun _ _ _ => False)
    (OwnFrom.and (Own.from (holdsRow_own w.heap.size w.heap.size 28 75 2 (fun pre => pre.length) (fun pre => lfC pre) (fun _ _ => True)) _) (ownFrom_below (Nat.le_refl _) (by omega)))
    (fun _ _ _ _ _ hs _ _ => hs)
    ⟨⟨_, bO, World.ownsRow_nil _ _ _ _, trivial⟩, hB0⟩
    (fun x a' W => ∃ Bx, w.heap.size < Bx ∧ Boxed2 W Bx 75 (.int .i64 x.1.cls) (.int .i64 x.1.code) ∧ a' = { tmps := #[.slice none 0 0, .func (.func 86) #[] #[.pointer (some ⟨Bg, 0, none⟩)], .pointer (some ⟨w.heap.size, 0, none⟩), undef, .slice none 0 0, .pointer (some ⟨Bx, 0, none⟩), .func (.func 86) #[] #[.pointer (some ⟨Bg, 0, none⟩)], .agg #[.int .i64 x.1.cls, .int .i64 x.1.code], undef, undef, undef, undef, undef], defers := [] })
    (fun x a' _ X Y row hs hg hr => by obtain ⟨Bx, h1, h2, h3⟩ := hs; exact ⟨Bx, h1, boxed2_own h2 hg (fun r e => (hr r e).2), h3⟩)
    ?assign ?body ?done ?stop
  case assign =>
    rintro l pre x W K ⟨⟨v, bv, hrow, -⟩, hB1⟩ hK
    gi_wp2
    exact hK _ _ ((KeepsOthers.alloc _ _).from _) ((Below.refl _ W).alloc hB1.size _) ⟨⟨v, bv.alloc _, hrow.alloc _, trivial⟩, hB1.alloc hB1.size _⟩ ⟨W.heap.size, bv.lt, World.alloc_heap_new W _, rfl⟩
  case body =>
    rintro l pre x a' W hl ⟨r, hr⟩ ⟨⟨v, hv, hrow, -⟩, hB⟩ ⟨Bx, hBx, bX, rfl⟩ hlt
    have hc := hv.cell
    have cX0 := bX.c0
    have cX1 := bX.c1
    gi_wp2_with (gi_at_builtin; refine wpListIn_append_own _ rfl _ _ 28 rfl w.heap.size 75 i0 _ 2 16 Try.underlying28 hi hz0 hz1 hz2 rfl (by decide) _ _ _ rfl (hrow.alloc _) ⟨W.heap.size, 0, none⟩ 1 1 [.int .i64 x.1.cls, .int .i64 x.1.code] rfl rfl (cell_two_newL _ _ _ _) (by intro u hu; simp at hu; rcases hu with rfl | rfl <;> rfl) (by unfold maxLen; omega) (by omega) (by have := hB.size; simp; omega) ?_; intro v' w1 hown' hgrow _; obtain ⟨g', cap', rfl⟩ := ownsRow_succ hown'; obtain ⟨hv1, hv2, hr2, hk2, hb2⟩ := hv.appended (by decide) hrow hB.size (Nat.le_refl _) hown' hgrow; have hc1 := hv1.cell; have hf1 := hv1.frozen)
    exact ⟨hk2.from _, hb2, ⟨_, hv2, by rw [lfC_snoc, List.length_append]; exact hr2, trivial⟩, hB.trans hb2⟩
  case done =>
    rintro D ys W hD hz ⟨⟨v, hv, hrow, -⟩, hB⟩ hK
    have hc := hv.cell
    have hll : ys.length = (leavesL g).length := by rw [← hz, List.length_map]
    have hcc : lfC ys = (leavesL g).flatMap Enc.cells := by unfold lfC; rw [hz]
    rw [hll, hcc] at hrow
    have HR := Lib.hid hrow
    clear hrow hll hcc
    gi_wp2
    refine ⟨by simp, .inl ⟨_, _, rfl, run_takeDeferred hK, ?_⟩⟩
    exact ⟨_, results_tmp rfl _ _ _, v, rfl, ⟨ownsRow_putObj HR.out _ hK rfl, HOK.out⟩, hB.trans (belowK_b (w := w) (Nat.le_refl _) W D _ _ (by omega) hK rfl rfl)⟩
  case stop =>
    rintro D c pre W _ _ h _
    exact h.elim
end Go.Proofs.Ytpdggodmiliijaa
