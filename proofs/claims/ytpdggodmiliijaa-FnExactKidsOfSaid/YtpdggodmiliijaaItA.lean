/- groups: the iterator over leaves: its contract -/
import Derived.RangeFuncNested
import Derived.RangeFuncBound
import Derived.RangeFuncCalls
import Derived.RangeFuncLeaves
import Derived.RangeFuncBox
import Derived.Shelf.Abstract
import Derived.Shelf.RegionOpen
import Derived.WalkKit
import Derived.OwnWalkIn
import Derived.TacticsInMore
import Derived.LoopNIn
import Derived.LoopIn
import Derived.Test.YtpdggodmiliijaaRows
import Derived.Test.YtpdggodmiliijaaGpB
import Derived.Test.YtpdggodmiliijaaKB
namespace Go.Proofs.Ytpdggodmiliijaa
open Go.RowKit Go.Shelf
attribute [local go_sem] Oper.semAt_some
/-- a slice that lies below n₀ -/
structure SlB {α : Type} [Enc α] (n₀ : Nat) (w : World) (A : Option Addr) (n cap : Nat) (xs : List α) : Prop where
  sl : Sl w A n cap xs
  lo : 0 < n → ∀ a, A = some a → a.block < n₀
theorem Sl.belowN {α : Type} [Enc α] {n₀ : Nat} {w w' : World} {A : Option Addr} {n cap : Nat} {xs : List α} (h : Sl w A n cap xs) (hl : 0 < n → ∀ a, A = some a → a.block < n₀) (hB : Below n₀ w w') : Sl w' A n cap xs := by
  refine ⟨h.len, h.cap_, h.max, h.ok, fun hn => ?_⟩
  obtain ⟨b, off, e, hb, hc⟩ := h.at_ hn
  have hlt := hl hn _ e
  exact ⟨b, off, e, Nat.lt_of_lt_of_le hb hB.size, fun j u hu => (hB.cell (p := ⟨b, off + j, none⟩) hlt).trans (hc j u hu)⟩
theorem SlB.below {α : Type} [Enc α] {n₀ : Nat} {w w' : World} {A : Option Addr} {n cap : Nat} {xs : List α} (h : SlB n₀ w A n cap xs) (hB : Below n₀ w w') : SlB n₀ w' A n cap xs := ⟨h.sl.belowN h.lo hB, h.lo⟩
theorem leavesL_take {g : List Prt} {k : Nat} (h : k < g.length) : leavesL (g.take (k + 1)) = leavesL (g.take k) ++ if g[k].group = true then [] else [⟨g[k].cls, g[k].code⟩] := by
  unfold leavesL
  rw [List.take_succ_eq_append_getElem h, List.filter_append, List.map_append]
  cases e : g[k].group
  · rw [List.filter_cons_of_pos (by simp [e])]; rfl
  · rw [List.filter_cons_of_neg (by simp [e])]; rfl
theorem leavesL_len (g : List Prt) : (leavesL g).length ≤ g.length := by
  unfold leavesL
  rw [List.length_map]
  exact List.length_filter_le _ _
theorem leavesL_pre (g : List Prt) (k : Nat) : leavesL (g.take k) <+: leavesL g := by
  refine ⟨leavesL (g.drop k), ?_⟩
  unfold leavesL
  rw [← List.map_append, ← List.filter_append, List.take_append_drop]
abbrev encLef {P : Lef → Prop} (x : { x : Lef // P x }) : Array Value := #[.agg #[.int .i64 x.1.cls, .int .i64 x.1.code]]
set_option maxRecDepth 100000 in
set_option maxHeartbeats 4000000 in
theorem leaves1_in (F : Fence) (n : Nat) (hf : F.fn 86) (hro : F.round = none) (hn : 1 ≤ n) (l Bg n₀ : Nat) (A : Option Addr) (m cap : Nat) (g : List Prt) (P : Lef → Prop) (hP : ∀ x ∈ leavesL g, P x) (J Jx : List { x : Lef // P x } → World → Prop)
    (hY : ∀ pre x W, J pre W → pre.length < g.length → YieldAt F (n - 1) Try.prog l (encLef x) W fun e W' =>
      (e = .returned (.bool true) ∧ J (pre ++ [x]) W' ∧ Below n₀ W W') ∨ (e = .returned (.bool false) ∧ Jx (pre ++ [x]) W'))
    (W : World) (hn₀ : n₀ ≤ W.heap.size) (hJ : AbidesFrom W.heap.size J) (hBg : W.cell? ⟨Bg, 0, none⟩ = some (.slice A m cap)) (S : SlB n₀ W A m cap g) (h0 : J [] W) :
    CallsIn F n Try.prog 86 #[.func (.yield l) #[] #[], .pointer (some ⟨Bg, 0, none⟩)] W fun e W' => (∃ v, e = .returned v) ∧
      ((∃ ys, ys.map (·.1) = leavesL g ∧ J ys W') ∨ (∃ pre, pre.map (·.1) <+: leavesL g ∧ Jx pre W')) := by
  obtain rfl := S.sl.len
  have hmx := S.sl.n_le
  refine callsIn_of_wp Try.func86 rfl hf ?_ hro
  simp only [Try.ntmps86, List.size_toArray, List.length_cons, List.length_nil, Nat.reduceAdd, Nat.reduceSub, Array.replicate_succ, Array.replicate_zero, List.push_toArray, List.append_toArray, List.nil_append, List.cons_append]
  gi_wp2
  gi_loopw [7] (fun i wr => ∃ k : Nat, k ≤ g.length ∧ i = .int .i64 k ∧ (∃ ys : List { x : Lef // P x }, ys.map (·.1) = leavesL (g.take k) ∧ J ys wr) ∧ Below n₀ W wr ∧ W.heap.size ≤ wr.heap.size)
    (fun i _ => g.length - (intOf i).toNat)
  case atStart => exact ⟨0, Nat.zero_le _, rfl, ⟨[], rfl, h0⟩, Below.refl _ _, Nat.le_refl _⟩
  case round =>
    obtain ⟨k, hk, rfl, ⟨ys, hys, hJs⟩, hnx, hsz⟩ := hrel
    have HYS := Lib.hid hys
    clear hys
    by_cases hlt : k < g.length
    · obtain ⟨b, off, rfl, hb, c0, c1, c2, c3, -⟩ := (S.below hnx).sl.prt_at hlt
      have hJ' : J ys (wr.alloc (.cells #[.int .i64 g[k].depth, .bool g[k].group, .int .i64 g[k].cls, .int .i64 g[k].code] 70)) := hJ _ wr _ none hJs (World.grownBy_alloc wr _ none) (fun r e => by cases e)
      have hT := leavesL_take hlt
      have hlen : ys.length < g.length := by
        have h1 := congrArg List.length HYS.out
        rw [List.length_map] at h1
        rw [h1]; exact Nat.lt_of_le_of_lt (leavesL_len _) (by rw [List.length_take]; omega)
      cases e : g[k].group
      · rw [e] at c1 hJ'
        rw [e, if_neg (by decide)] at hT
        have hpre := leavesL_pre g (k + 1)
        rw [hT] at hpre
        have hPx : P ⟨g[k].cls, g[k].code⟩ := hP _ (hpre.subset (by simp))
        obtain ⟨fn, tmps, assign, body, hy, hR⟩ := hY ys ⟨⟨g[k].cls, g[k].code⟩, hPx⟩ _ hJ' hlen
        have HT := Lib.hid hT
        have HPR := Lib.hid hpre
        clear hT hpre
        gi_wp2
        refine hR.mono ?_
        rintro e3 W3 (⟨rfl, hJ3, hk3⟩ | ⟨rfl, hJx3⟩)
        · gi_wp2
          go_roundw
          case rel => exact ⟨k + 1, by omega, by simp, ⟨_, by rw [HT.out, List.map_append, HYS.out]; rfl, hJ3⟩, hnx.trans (((Below.refl n₀ wr).alloc (by omega) _).trans hk3), by have := hk3.size; simp at this; omega⟩
          case measure => simp [intOf]; omega
        · gi_wp2
          refine bodyPost_ret (results_none rfl _ _ _) rfl ?_
          exact ⟨⟨_, rfl⟩, .inr ⟨_, by rw [List.map_append, HYS.out]; exact HPR.out, hJx3⟩⟩
      · rw [e] at c1 hJ'
        rw [e, if_pos rfl, List.append_nil] at hT
        have HT := Lib.hid hT
        clear hT
        gi_wp2
        refine ⟨fun _ h => (by cases h), ?_⟩
        gi_wp2
        go_roundw
        case rel => exact ⟨k + 1, by omega, by simp, ⟨ys, by rw [HT.out]; exact HYS.out, hJ'⟩, hnx.trans ((Below.refl n₀ wr).alloc (by omega) _), by simp; omega⟩
        case measure => simp [intOf]; omega
    · obtain rfl : k = g.length := by omega
      gi_wp2
      go_end0
      exact ⟨⟨_, rfl⟩, .inl ⟨ys, by rw [HYS.out, List.take_length], hJs⟩⟩
end Go.Proofs.Ytpdggodmiliijaa
