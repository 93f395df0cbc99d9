/- groups: leaves(g) as a value that hands its leaves on; hasLeaf at the test of a class -/
import Derived.Test.YtpdggodmiliijaaItA
import Derived.Test.YtpdggodmiliijaaItB
namespace Go.Proofs.Ytpdggodmiliijaa
open Go.RowKit Go.Shelf
attribute [local go_sem] Oper.semAt_some
set_option maxHeartbeats 1000000 in
theorem leaves_in (F : Fence) (n : Nat) (hf : F.fn 54) (hro : F.round = none) (A : Option Addr) (m cap : Nat) (w : World) :
    CallsIn F n Try.prog 54 #[.slice A m cap] w fun e w' => e = .returned (.func (.func 86) #[] #[.pointer (some ⟨w.heap.size, 0, none⟩)]) ∧ w' = w.alloc (.cells #[.slice A m cap] 34) := by
  refine callsIn_of_wp Try.func54 rfl hf ?_ hro
  simp only [Try.ntmps54, List.size_toArray, List.length_cons, List.length_nil, Nat.reduceAdd, Nat.reduceSub, Array.replicate_succ, Array.replicate_zero, List.push_toArray, List.append_toArray, List.nil_append, List.cons_append]
  gi_wp2
  go_ret
  exact ⟨rfl, rfl⟩
theorem leaves_stops (F : Fence) (n : Nat) (hf : F.fn 86) (hro : F.round = none) (hn : 1 ≤ n) (Bg n₀ : Nat) (A : Option Addr) (m cap : Nat) (g : List Prt) (P : Lef → Prop) (hP : ∀ x ∈ leavesL g, P x) (w : World) (hBg : Bg < w.heap.size) (hn₀ : n₀ ≤ w.heap.size)
    (hc : w.cell? ⟨Bg, 0, none⟩ = some (.slice A m cap)) (S : SlB n₀ w A m cap g) :
    SeqStopsK F n Try.prog 86 #[.pointer (some ⟨Bg, 0, none⟩)] (encLef (P := P)) (Below n₀) (fun ys => ys.map (·.1) = leavesL g) (fun pre => pre.map (·.1) <+: leavesL g) g.length w := fun l J Jx W hW hJ _ hY h0 =>
  leaves1_in F n hf hro hn l Bg n₀ A m cap g P hP J Jx hY W (Nat.le_trans hn₀ hW.size) (fun s X Y row hs hg hr => hJ s X Y row hs hg (fun r e => hr r e)) ((hW.cell (p := ⟨Bg, 0, none⟩) hBg).trans hc) (S.below (hW.mono hn₀)) h0
theorem keepsFrom_le {B : Nat} {W W' : World} (h : Le W W') : KeepsFrom B W W' := ⟨h.size, fun k _ _ hk _ => (h.block k (Array.getElem?_eq_some_iff.1 hk).1).trans hk⟩
theorem boxed_le {W W' : World} {B : Nat} {t : TypeId} {v : Value} (h : Boxed W B t v) (hl : Le W W') : Boxed W' B t v := (hl.block B h.lt).trans h
def Boxed2 (W : World) (B : Nat) (t : TypeId) (u v : Value) : Prop := W.heap[B]? = some (.cells #[u, v] t (0, 0))
theorem boxed2_own {B : Nat} {t : TypeId} {u v : Value} {X Y : World} {row : Option Nat} (hs : Boxed2 X B t u v) (hg : X.grownBy Y row) (hr : ∀ r, row = some r → ∃ o : Obj, X.heap[r]? = some o ∧ o.isCells = false) : Boxed2 Y B t u v :=
  (grownBy_keeps_cells hg hr hs rfl).trans hs
theorem Boxed2.lt {W : World} {B : Nat} {t : TypeId} {u v : Value} (h : Boxed2 W B t u v) : B < W.heap.size := (Array.getElem?_eq_some_iff.1 h).1
theorem Boxed2.c0 {W : World} {B : Nat} {t : TypeId} {u v : Value} (h : Boxed2 W B t u v) : W.cell? ⟨B, 0, none⟩ = some u := by simp [World.cell?, show W.heap[B]? = _ from h]
theorem Boxed2.c1 {W : World} {B : Nat} {t : TypeId} {u v : Value} (h : Boxed2 W B t u v) : W.cell? ⟨B, 1, none⟩ = some v := by simp [World.cell?, show W.heap[B]? = _ from h]
set_option maxRecDepth 100000 in
set_option maxHeartbeats 4000000 in
theorem hasLeaf_in (Py Pn : Value) (p : Lef → Bool) (A : Option Addr) (m cap : Nat) (g : List Prt) (w : World) (S : Sl w A m cap g)
    (hT : ∀ (x : Lef) (W : World), x ∈ leavesL g → Le w W → Calls Try.prog 90 #[.agg #[.int .i64 x.cls, .int .i64 x.code], Py, Pn] W fun e W' => e = .returned (.bool (p x)) ∧ Le W W') :
    Calls Try.prog 63 #[.slice A m cap, .func (.func 90) #[] #[Py, Pn]] w fun e w' => e = .returned (.bool ((leavesL g).any p)) ∧ Le w w' := by
  have SB : SlB w.heap.size w A m cap g := ⟨S, fun hn a e => by obtain ⟨b, off, e2, hb, -⟩ := S.at_ hn; rw [e2] at e; cases e; exact hb⟩
  refine (callsIn_wide (n := 6)).1 ?_
  refine callsIn_of_wp_marks Try.func63 rfl trivial ?_ rfl
  simp only [Try.ntmps63, List.size_toArray, List.length_cons, List.length_nil, Nat.reduceAdd, Nat.reduceSub, Array.replicate_succ, Array.replicate_zero, List.push_toArray, List.append_toArray, List.nil_append, List.cons_append]
  gi_wp2_with (refine ⟨trivial, ?_⟩; gi_at_call 54; refine (leaves_in Fence.wide 5 trivial rfl _ _ _ _).mono ?_; rintro e w' ⟨rfl, rfl⟩)
  have bF := ((Boxed.new w 89 (.func (.func 90) #[] #[Py, Pn])).alloc (.cells #[.bool false] 4)).alloc (.cells #[.slice A m cap] 34)
  have bR := (Boxed.new (w.alloc (.cells #[.func (.func 90) #[] #[Py, Pn]] 89)) 4 (.bool false)).alloc (.cells #[.slice A m cap] 34)
  have bG := Boxed.new ((w.alloc (.cells #[.func (.func 90) #[] #[Py, Pn]] 89)).alloc (.cells #[.bool false] 4)) 34 (.slice A m cap)
  simp only [World.size_alloc] at bR bG
  have hB0 : Le w (((w.alloc (.cells #[.func (.func 90) #[] #[Py, Pn]] 89)).alloc (.cells #[.bool false] 4)).alloc (.cells #[.slice A m cap] 34)) := ((Le.new w _).alloc _).alloc _
  have hsz : (((w.alloc (.cells #[.func (.func 90) #[] #[Py, Pn]] 89)).alloc (.cells #[.bool false] 4)).alloc (.cells #[.slice A m cap] 34)).heap.size = w.heap.size + 3 := by simp
  generalize (((w.alloc (.cells #[.func (.func 90) #[] #[Py, Pn]] 89)).alloc (.cells #[.bool false] 4)).alloc (.cells #[.slice A m cap] 34)) = W0 at *
  refine wpIn_rangeFunc_ownH rfl (by omega) (gf := 86) (lb := #[.pointer (some ⟨w.heap.size + 1 + 1, 0, none⟩)]) rfl trivial (enters_of Try.func86 (by kernel_rfl) rfl)
    (leaves_stops Fence.wide (6 - 1) trivial rfl (by omega) (w.heap.size + 1 + 1) w.heap.size A m cap g (fun x => x ∈ leavesL g) (fun _ h => h) W0 (by omega) (by omega) bG.cell (SB.below hB0)) belowK_t (belowK_b (by omega)) (Below.refl _ _) (fun _ => rfl)
    (fun pre W => ((∀ y ∈ pre, p y.1 = false) ∧ Boxed W w.heap.size 89 (.func (.func 90) #[] #[Py, Pn]) ∧ Boxed W (w.heap.size + 1) 4 (.bool false)) ∧ Below w.heap.size w W)
    (fun c pre W => (c = .ret ∧ (∃ y ∈ pre, p y.1 = true) ∧ Boxed W (w.heap.size + 1) 4 (.bool true)) ∧ Below w.heap.size w W)
    (OwnFrom.and (Own.from (fun s X Y row hs hg hr => ⟨hs.1, boxed_own (β := Unit) _ _ (fun _ => _) () X Y row hs.2.1 hg hr, boxed_own (β := Unit) _ _ (fun _ => _) () X Y row hs.2.2 hg hr⟩) _) (ownFrom_below (Nat.le_refl _) (by omega)))
    (fun c => OwnFrom.and (Own.from (fun s X Y row hs hg hr => ⟨hs.1, hs.2.1, boxed_own (β := Unit) _ _ (fun _ => _) () X Y row hs.2.2 hg hr⟩) _) (ownFrom_below (Nat.le_refl _) (by omega)))
    ⟨⟨by simp, bF, bR⟩, hB0⟩
    (fun x a' W => ∃ Bx, w.heap.size + 1 < Bx ∧ Boxed2 W Bx 75 (.int .i64 x.1.cls) (.int .i64 x.1.code) ∧ a' = { tmps := #[.slice A m cap, .func (.func 90) #[] #[Py, Pn], undef, .pointer (some ⟨w.heap.size, 0, none⟩), .pointer (some ⟨w.heap.size + 1, 0, none⟩), .pointer (some ⟨Bx, 0, none⟩), .slice A m cap, .func (.func 86) #[] #[.pointer (some ⟨w.heap.size + 1 + 1, 0, none⟩)], .agg #[.int .i64 x.1.cls, .int .i64 x.1.code], undef, undef, undef], defers := [] })
    (fun x a' _ X Y row hs hg hr => by obtain ⟨Bx, h1, h2, h3⟩ := hs; exact ⟨Bx, h1, boxed2_own h2 hg (fun r e => (hr r e).2), h3⟩)
    ?assign ?body ?done ?stop
  case assign =>
    rintro l pre x W K ⟨⟨hp, bF1, bR1⟩, hB1⟩ hK
    gi_wp2
    exact hK _ _ ((KeepsOthers.alloc _ _).from _) ((Below.refl _ W).alloc hB1.size _) ⟨⟨hp, bF1.alloc _, bR1.alloc _⟩, hB1.alloc hB1.size _⟩ ⟨W.heap.size, bR1.lt, World.alloc_heap_new W _, rfl⟩
  case body =>
    rintro l pre x a' W hl ⟨r, hr⟩ ⟨⟨hp, bF1, bR1⟩, hB1⟩ ⟨Bx, hBx, bX, rfl⟩ hlt
    have cF := bF1.cell
    have cX0 := bX.c0
    have cX1 := bX.c1
    gi_wp2_with (refine ⟨trivial, ?_⟩; gi_at_call 90; refine (CallsIn.inRound l (callsIn_wide.2 (hT x.1 W x.2 hB1))).mono ?_; rintro e w' ⟨rfl, hle⟩; have bR2 := boxed_le bR1 hle; have bF2 := boxed_le bF1 hle; have cR2 := bR2.cell; have fR2 := bR2.frozen)
    · rename_i hx
      exact ⟨(keepsFrom_le hle).trans ((KeepsOthers.setCell _ _ _).from _), ⟨rfl, ⟨x, by simp, hx⟩, bR2.set _⟩, (hB1.trans (hle.mono hB1.size)).setCell (p := ⟨w.heap.size + 1, 0, none⟩) (by simp) _⟩
    · rename_i hx
      have hx' : p x.1 = false := by simpa using hx
      exact ⟨keepsFrom_le hle, hle.mono hB1.size, ⟨fun y hy => (List.mem_append.1 hy).elim (hp y) (fun e => by simp at e; rw [e]; exact hx'), bF2, bR2⟩, hB1.trans (hle.mono hB1.size)⟩
  case done =>
    rintro D zs W hD hz ⟨⟨hp, bF1, bR1⟩, hB1⟩ hK
    have cR := bR1.cell
    have fR := bR1.frozen
    have hno : (leavesL g).any p = false := by
      rw [← hz, List.any_map, List.any_eq_false]
      intro y hy
      simp [hp y hy]
    have HNO := Lib.hid hno
    clear hno
    gi_wp2
    have hK' := (KeepsOthers.setCell W ⟨w.heap.size + 1, 0, none⟩ (.bool false)).same D _ hK rfl
    refine ⟨by simp, .inl ⟨_, _, rfl, run_takeDeferred hK', ?_⟩⟩
    have hc5 := cell_kept (World.cell?_setCell_same' W ⟨w.heap.size + 1, 0, none⟩ (.bool false) (by rw [cR]; rfl)) (grownBy_putObj' _ D (.deferred none)) (fun r e => by cases e; exact ⟨_, hK', rfl⟩)
    refine ⟨.bool false, ?_, by rw [HNO.out], (hB1.setCell (p := ⟨w.heap.size + 1, 0, none⟩) (by simp) _).trans (belowK_b (w := w) (Nat.le_refl _) _ D _ _ (by omega) hK' rfl rfl)⟩
    simp [results, Try.f63, go_sem, hc5]
  case stop =>
    rintro D c pre W hD hpre ⟨⟨rfl, hin, bR1⟩, hB⟩ hK
    gi_wp2
    refine ⟨by simp, .inl ⟨_, _, rfl, run_takeDeferred hK, ?_⟩⟩
    have hc5 := cell_kept bR1.cell (grownBy_putObj' _ D (.deferred none)) (fun r e => by cases e; exact ⟨_, hK, rfl⟩)
    have hyes : (leavesL g).any p = true := by
      obtain ⟨y, hy, hpy⟩ := hin
      exact List.any_eq_true.2 ⟨y.1, y.2, hpy⟩
    refine ⟨.bool true, ?_, by rw [hyes], hB.trans (belowK_b (w := w) (Nat.le_refl _) W D _ _ (by omega) hK rfl rfl)⟩
    simp [results, Try.f63, go_sem, hc5]
end Go.Proofs.Ytpdggodmiliijaa
