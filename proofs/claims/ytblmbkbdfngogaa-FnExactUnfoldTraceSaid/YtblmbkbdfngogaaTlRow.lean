import Derived.Test.YtblmbkbdfngogaaTyRow
import Derived.Test.YtblmbkbdfngogaaTM
import Derived.Test.YtblmbkbdfngogaaTlFrame
namespace Go.Proofs.Ytblmbkbdfngogaa
open Go.RowKit

theorem infoRow : (Try.prog.info? 78).map (fun i => (i.zero, i.size, i.bytes)) = some (some (.agg #[.string ByteArray.empty, .int .i64 0, .int .i64 0]), 3, 32) := by kernel_rfl
theorem stk3 (w : World) (a r o : Array Value) (T U X : TypeId) :
    (∀ j, (((w.alloc (.cells a T)).alloc (.cells r U)).alloc (.cells o X)).cell? ⟨w.heap.size, j, none⟩ = a[j]?) ∧ (∀ j, (((w.alloc (.cells a T)).alloc (.cells r U)).alloc (.cells o X)).cell? ⟨w.heap.size + 1, j, none⟩ = r[j]?) ∧
    (∀ j, (((w.alloc (.cells a T)).alloc (.cells r U)).alloc (.cells o X)).cell? ⟨w.heap.size + 1 + 1, j, none⟩ = o[j]?) ∧ (∀ j, (((w.alloc (.cells a T)).alloc (.cells r U)).alloc (.cells o X)).frozen? ⟨w.heap.size + 1, j, none⟩ = false) ∧
    (∀ j, (((w.alloc (.cells a T)).alloc (.cells r U)).alloc (.cells o X)).frozen? ⟨w.heap.size + 1 + 1, j, none⟩ = false) ∧ w.heap.size + 1 + 1 < (((w.alloc (.cells a T)).alloc (.cells r U)).alloc (.cells o X)).heap.size ∧
    Le w (((w.alloc (.cells a T)).alloc (.cells r U)).alloc (.cells o X)) := by
  refine ⟨fun j => ?_, fun j => ?_, fun j => ?_, fun j => ?_, fun j => ?_, by simp, ((Le.new w _).alloc _).alloc _⟩
  · rw [World.cell?_alloc_past _ _ _ (by simp; omega), World.cell?_alloc_past _ _ _ (by simp), World.cell?_alloc_at _ _ _ _ rfl]
  · rw [World.cell?_alloc_past _ _ _ (by simp), World.cell?_alloc_at _ _ _ _ (by simp)]
  · rw [World.cell?_alloc_at _ _ _ _ (by simp)]
  · rw [World.frozen?_alloc_past _ _ _ (by simp), World.frozen?_alloc_at _ _ _ _ (by simp)]
  · rw [World.frozen?_alloc_at _ _ _ _ (by simp)]
theorem toRow_any (x : Rwf) (w : World) :
    Calls Try.prog 70 #[.agg #[.string x.fn, .int .i64 x.line, .int .i64 x.times]] w fun e w' => e = .returned (.agg #[.string x.fn, .int .i64 x.line, .int .i64 x.times]) ∧ Le w w' := by
  go_enter Try.func70, Try.ntmps70
  go_wp2_with fail
  obtain ⟨h0, h1, h2, h3, h4, z, L0⟩ := stk3 w #[Value.string x.fn, Value.int IntKind.i64 x.line, Value.int IntKind.i64 x.times] #[Value.string ⟨#[]⟩, Value.int IntKind.i64 0, Value.int IntKind.i64 0] #[Value.string ⟨#[]⟩, Value.int IntKind.i64 0, Value.int IntKind.i64 0] 81 78 78
  generalize ((w.alloc (.cells #[Value.string x.fn, Value.int IntKind.i64 x.line, Value.int IntKind.i64 x.times] 81)).alloc (.cells #[Value.string ⟨#[]⟩, Value.int IntKind.i64 0, Value.int IntKind.i64 0] 78)).alloc (.cells #[Value.string ⟨#[]⟩, Value.int IntKind.i64 0, Value.int IntKind.i64 0] 78) = W at *
  refine (toFrame_any ⟨x.fn, x.line⟩ _).mono ?_
  rintro e w2 ⟨rfl, hle⟩
  have c0 : w2.cell? ⟨w.heap.size, 2, none⟩ = some (.int .i64 x.times) := (hle.cell (by omega)).trans (h0 2)
  have r0 : w2.cell? ⟨w.heap.size + 1, 0, none⟩ = some (.string ⟨#[]⟩) := (hle.cell (by omega)).trans (h1 0)
  have r1 : w2.cell? ⟨w.heap.size + 1, 1, none⟩ = some (.int .i64 0) := (hle.cell (by omega)).trans (h1 1)
  have r2 : w2.cell? ⟨w.heap.size + 1, 2, none⟩ = some (.int .i64 0) := (hle.cell (by omega)).trans (h1 2)
  have o0 : w2.cell? ⟨w.heap.size + 1 + 1, 0, none⟩ = some (.string ⟨#[]⟩) := (hle.cell (by omega)).trans (h2 0)
  have o1 : w2.cell? ⟨w.heap.size + 1 + 1, 1, none⟩ = some (.int .i64 0) := (hle.cell (by omega)).trans (h2 1)
  have o2 : w2.cell? ⟨w.heap.size + 1 + 1, 2, none⟩ = some (.int .i64 0) := (hle.cell (by omega)).trans (h2 2)
  have f0 : w2.frozen? ⟨w.heap.size + 1, 0, none⟩ = false := (hle.frozen (by omega)).trans (h3 0)
  have f1 : w2.frozen? ⟨w.heap.size + 1, 1, none⟩ = false := (hle.frozen (by omega)).trans (h3 1)
  have f2 : w2.frozen? ⟨w.heap.size + 1, 2, none⟩ = false := (hle.frozen (by omega)).trans (h3 2)
  have g0 : w2.frozen? ⟨w.heap.size + 1 + 1, 0, none⟩ = false := (hle.frozen (by omega)).trans (h4 0)
  have g1 : w2.frozen? ⟨w.heap.size + 1 + 1, 1, none⟩ = false := (hle.frozen (by omega)).trans (h4 1)
  have g2 : w2.frozen? ⟨w.heap.size + 1 + 1, 2, none⟩ = false := (hle.frozen (by omega)).trans (h4 2)
  have L2 := L0.trans hle
  clear h0 h1 h2 h3 h4 hle L0
  go_wp2
  have k0 : ((((w2.setCell ⟨w.heap.size + 1 + 1, 0, none⟩ (.string x.fn)).setCell ⟨w.heap.size + 1 + 1, 1, none⟩ (.int .i64 x.line)).setCell ⟨w.heap.size + 1 + 1, 2, none⟩ (.int .i64 x.times)).setCell ⟨w.heap.size + 1, 0, none⟩ (.string x.fn)).cell? ⟨w.heap.size + 1, 0, none⟩ = some (.string x.fn) := cell_set_same (by rw [cell_set_other (.inl (by omega)), cell_set_other (.inl (by omega)), cell_set_other (.inl (by omega))]; exact r0)
  have k1 : (((((w2.setCell ⟨w.heap.size + 1 + 1, 0, none⟩ (.string x.fn)).setCell ⟨w.heap.size + 1 + 1, 1, none⟩ (.int .i64 x.line)).setCell ⟨w.heap.size + 1 + 1, 2, none⟩ (.int .i64 x.times)).setCell ⟨w.heap.size + 1, 0, none⟩ (.string x.fn)).setCell ⟨w.heap.size + 1, 1, none⟩ (.int .i64 x.line)).cell? ⟨w.heap.size + 1, 1, none⟩ = some (.int .i64 x.line) := cell_set_same (by rw [cell_set_other (.inr (by decide)), cell_set_other (.inl (by omega)), cell_set_other (.inl (by omega)), cell_set_other (.inl (by omega))]; exact r1)
  have k2 : ((((((w2.setCell ⟨w.heap.size + 1 + 1, 0, none⟩ (.string x.fn)).setCell ⟨w.heap.size + 1 + 1, 1, none⟩ (.int .i64 x.line)).setCell ⟨w.heap.size + 1 + 1, 2, none⟩ (.int .i64 x.times)).setCell ⟨w.heap.size + 1, 0, none⟩ (.string x.fn)).setCell ⟨w.heap.size + 1, 1, none⟩ (.int .i64 x.line)).setCell ⟨w.heap.size + 1, 2, none⟩ (.int .i64 x.times)).cell? ⟨w.heap.size + 1, 2, none⟩ = some (.int .i64 x.times) := cell_set_same (by rw [cell_set_other (.inr (by decide)), cell_set_other (.inr (by decide)), cell_set_other (.inl (by omega)), cell_set_other (.inl (by omega)), cell_set_other (.inl (by omega))]; exact r2)
  have LE := (((((L2.setCell (b := w.heap.size + 1 + 1) (o := 0) (by omega) (.string x.fn)).setCell (b := w.heap.size + 1 + 1) (o := 1) (by omega) (.int .i64 x.line)).setCell (b := w.heap.size + 1 + 1) (o := 2) (by omega) (.int .i64 x.times)).setCell (b := w.heap.size + 1) (o := 0) (by omega) (.string x.fn)).setCell (b := w.heap.size + 1) (o := 1) (by omega) (.int .i64 x.line)).setCell (b := w.heap.size + 1) (o := 2) (by omega) (.int .i64 x.times)
  exact bodyPost_ret (v := .agg #[Value.string x.fn, Value.int IntKind.i64 x.line, Value.int IntKind.i64 x.times]) (by simp [results, Try.results70, go_sem, k0, k1, k2]) rfl ⟨rfl, LE⟩

set_option maxRecDepth 100000 in
theorem toRowS_any (A : Option Addr) (n cap : Nat) (xs : List Rwf) (w : World) (hR : Sl w A n cap xs) (hn : n ≤ 1048576) :
    Calls Try.prog 40 #[.slice A n cap] w fun e w' => e = .returned (.slice (some ⟨w.heap.size, 0, none⟩) n n) ∧ w'.ownsRow w.heap.size 78 3 (.slice (some ⟨w.heap.size, 0, none⟩) n n) n (xs.flatMap Enc.cells) ∧ Le w w' := by
  obtain rfl := hR.len
  obtain ⟨i0, hi, hz0, hz1, hz2⟩ := info_parts infoRow
  have hb2 : i0.bytes * xs.length ≤ 281474976710656 := by rw [hz2]; omega
  go_enter Try.func40, Try.ntmps40
  go_wp2_with (refine wpList_make_full _ rfl _ _ 46 rfl w.heap.size 78 i0 _ 3 Try.underlying46 hi hz0 hz1 .i64 .i64 _ _ xs.length rfl rfl rfl rfl hb2 (by unfold maxLen; omega) (Nat.le_refl _) ?_; intro w1 hown1 hg1)
  have hl1 := (Le.refl w).grown hg1 (by intro k hk; cases hk)
  go_loopw [4] (fun i wr => ∃ k : Nat, ∃ r : List Value, k ≤ xs.length ∧ i = .int .i64 k ∧ r.length = (xs.length - k) * 3 ∧ wr.ownsRow w.heap.size 78 3 (.slice (some ⟨w.heap.size, 0, none⟩) xs.length xs.length) xs.length ((xs.take k).flatMap Enc.cells ++ r) ∧ Le w wr) (fun i _ => xs.length - (intOf i).toNat)
  case atStart => exact ⟨0, _, Nat.zero_le _, rfl, by simp [madeCells], hown1, hl1⟩
  case round =>
    obtain ⟨k, r, hk, rfl, hr, hown, hle⟩ := hrel
    have hRr := hR.le hle
    clear hR hown1 hg1 hl1
    by_cases hlt : k < xs.length
    · obtain ⟨b, off, rfl, hb, hcell0, hcell1, hcell2, _⟩ := hRr.rwf_at hlt
      match r, hr with
      | [], h => simp at h; omega
      | [_], h => simp at h; omega
      | [_, _], h => simp at h; omega
      | r0 :: r1 :: r2 :: rr, hr =>
      have hfl : ((xs.take k).flatMap (Enc.cells (α := Rwf))).length = k * 3 := by rw [flat_len, List.length_take]; show _ * 3 = _; rw [Nat.min_eq_left (by omega)]
      go_wp2_with fail
      refine (toRow_any xs[k] _).mono ?_
      rintro e w2 ⟨rfl, hw2⟩
      have hown2 := own_le hown hw2
      have hc0 : w2.cell? ⟨w.heap.size, k * 3, none⟩ = some r0 := by rw [hown2.cellAt _ (by omega), List.getElem?_append_right (by omega), hfl]; simp
      have hc1 : w2.cell? ⟨w.heap.size, k * 3 + 1, none⟩ = some r1 := by rw [hown2.cellAt _ (by omega), List.getElem?_append_right (by omega), hfl]; simp
      have hc2 : w2.cell? ⟨w.heap.size, k * 3 + 2, none⟩ = some r2 := by rw [hown2.cellAt _ (by omega), List.getElem?_append_right (by omega), hfl]; simp
      have hf0 := hown2.frozenAt (k * 3)
      have hf1 := hown2.frozenAt (k * 3 + 1)
      have hf2 := hown2.frozenAt (k * 3 + 2)
      go_wp2
      go_roundw
      case rel =>
        refine ⟨k + 1, rr, by omega, by go_num, by simp at hr; omega, ?_, (hle.trans hw2).setCell (Nat.le_refl _) _ |>.setCell (Nat.le_refl _) _ |>.setCell (Nat.le_refl _) _⟩
        have h1 := (((hown2.stored (k * 3) (.string xs[k].fn)).1.stored (k * 3 + 1) (.int .i64 xs[k].line)).1.stored (k * 3 + 2) (.int .i64 xs[k].times)).1
        have e : (xs.take (k + 1)).flatMap Enc.cells ++ rr = (((((xs.take k).flatMap Enc.cells ++ r0 :: r1 :: r2 :: rr).set (k * 3) (.string xs[k].fn)).set (k * 3 + 1) (.int .i64 xs[k].line)).set (k * 3 + 2) (.int .i64 xs[k].times)) := by
          rw [List.take_succ_eq_append_getElem hlt, List.flatMap_append, List.set_append_right _ _ (by omega), List.set_append_right _ _ (by omega), List.set_append_right _ _ (by omega), hfl]
          simp [Enc.cells]
        rw [e]; exact h1
      case measure => simp [intOf]; omega
    · have hk' : k = xs.length := by omega
      have hr0 : r = [] := List.eq_nil_of_length_eq_zero (by rw [hr, hk']; simp)
      have HO : Hid (wr.ownsRow w.heap.size 78 3 (.slice (some ⟨w.heap.size, 0, none⟩) xs.length xs.length) xs.length (xs.flatMap Enc.cells)) := by
        show World.ownsRow _ _ _ _ _ _ _
        rw [hk', hr0] at hown; simpa using hown
      clear hk' hr0 hr hown
      go_wp2
      go_ret
      exact ⟨rfl, HO.out, hle⟩

theorem stk2 (w : World) (a r : Array Value) (T U : TypeId) :
    (∀ j, ((w.alloc (.cells a T)).alloc (.cells r U)).cell? ⟨w.heap.size, j, none⟩ = a[j]?) ∧ (∀ j, ((w.alloc (.cells a T)).alloc (.cells r U)).cell? ⟨w.heap.size + 1, j, none⟩ = r[j]?) ∧
    w.heap.size + 1 < ((w.alloc (.cells a T)).alloc (.cells r U)).heap.size ∧ Le w ((w.alloc (.cells a T)).alloc (.cells r U)) := by
  refine ⟨fun j => ?_, fun j => ?_, by simp, (Le.new w _).alloc _⟩
  · rw [World.cell?_alloc_past _ _ _ (by simp), World.cell?_alloc_at _ _ _ _ rfl]
  · rw [World.cell?_alloc_at _ _ _ _ (by simp)]
theorem eqRow_self (x : Rwf) (w : World) : Calls Try.prog 67 #[.agg #[.string x.fn, .int .i64 x.line, .int .i64 x.times], .agg #[.string x.fn, .int .i64 x.line, .int .i64 x.times]] w fun e w' => e = .returned (.bool true) ∧ Le w w' := by
  go_enter Try.func67, Try.ntmps67
  go_wp2_with fail
  obtain ⟨h0, h1, z, L0⟩ := stk2 w #[Value.string x.fn, Value.int IntKind.i64 x.line, Value.int IntKind.i64 x.times] #[Value.string x.fn, Value.int IntKind.i64 x.line, Value.int IntKind.i64 x.times] 78 78
  generalize (w.alloc (.cells #[Value.string x.fn, Value.int IntKind.i64 x.line, Value.int IntKind.i64 x.times] 78)).alloc (.cells #[Value.string x.fn, Value.int IntKind.i64 x.line, Value.int IntKind.i64 x.times] 78) = W at *
  refine (eqFrame_self ⟨x.fn, x.line⟩ _).mono ?_
  rintro e w2 ⟨rfl, hle⟩
  have c0 : w2.cell? ⟨w.heap.size, 2, none⟩ = some (.int .i64 x.times) := (hle.cell (by omega)).trans (h0 2)
  have c1 : w2.cell? ⟨w.heap.size + 1, 2, none⟩ = some (.int .i64 x.times) := (hle.cell (by omega)).trans (h1 2)
  have hx : (x.times != x.times) = false := by simp
  have L2 := L0.trans hle
  clear h0 h1 hle L0
  go_wp2
  go_ret
  exact ⟨rfl, L2⟩

theorem eqRowS_self (A B : Option Addr) (n c d : Nat) (xs : List Rwf) (w : World) (hR : Sl w A n c xs) (hS : Sl w B n d xs) :
    Calls Try.prog 35 #[.slice A n c, .slice B n d] w fun e w' => e = .returned (.bool true) ∧ Le w w' := by
  obtain rfl := hR.len
  have hm := hR.n_le
  have hb : ((xs.length : Int) != (xs.length : Int)) = false := by simp
  go_enter Try.func35, Try.ntmps35
  go_wp2
  go_loopw [5] (fun i wr => ∃ k : Nat, k ≤ xs.length ∧ i = .int .i64 k ∧ Le w wr) (fun i _ => xs.length - (intOf i).toNat)
  case atStart => exact ⟨0, Nat.zero_le _, rfl, Le.refl _⟩
  case round =>
    obtain ⟨k, hk, rfl, hle⟩ := hrel
    have hRr := hR.le hle
    have hSr := hS.le hle
    clear hR hS
    by_cases hlt : k < xs.length
    · obtain ⟨b, off, rfl, hb, hcell0, hcell1, hcell2, _⟩ := hRr.rwf_at hlt
      obtain ⟨b2, off2, rfl, hb2, hdell0, hdell1, hdell2, _⟩ := hSr.rwf_at hlt
      have E0 := cell_ext hb hcell0
      have E1 := cell_ext hb hcell1
      have E2 := cell_ext hb hcell2
      have F0 := cell_ext hb2 hdell0
      have F1 := cell_ext hb2 hdell1
      have F2 := cell_ext hb2 hdell2
      go_wp2_with fail
      refine wp_region_ext (by kernel_rfl) (by kernel_rfl) ?_
      repeat (go_big_quiet_step (first | (go_at_call 67; exact Calls.ext_of (eqRow_self xs[k] _))))
      refine wpQuiet_nil ?_
      intro _ hw'
      obtain ⟨g, rfl⟩ := hw'
      have hw1 := Le.ext wr g
      generalize wr.ext g = W2 at *
      go_wp2
      go_roundw
      case rel => exact ⟨k + 1, by omega, by go_num, hle.trans hw1⟩
      case measure => simp [intOf]; omega
    · go_wp2
      go_ret
      exact ⟨rfl, hle⟩

def mRwf (k : Int) (i : Nat) : Rwf := ⟨mTxt (k + 3 * i), k + 3 * i + 1, k + 3 * i + 1 + 1⟩

set_option maxHeartbeats 1000000 in
set_option maxRecDepth 100000 in
theorem markRowS_row (g n c : Nat) (xs : List Value) (q : Int) (w : World) (base : Nat) (hR : w.ownsRow base 78 3 (.slice (some ⟨g, 0, none⟩) n c) n xs) (h0 : 1 ≤ q) (h1 : q ≤ 1000000000) (hn : n ≤ 1048576) :
    Calls Try.prog 36 #[.slice (some ⟨g, 0, none⟩) n c, .int .i64 q] w fun e w' => e = .returned (.int .i64 (q + 3 * n)) ∧ w'.ownsRow base 78 3 (.slice (some ⟨g, 0, none⟩) n c) n (((List.range n).map (mRwf q)).flatMap Enc.cells) ∧ w.grownBy w' (some g) := by
  go_enter Try.func36, Try.ntmps36
  go_wp2
  have hin := hR.1
  go_loopw [1, 5] (fun z i wr => ∃ k : Nat, ∃ r : List Value, k ≤ n ∧ i = .int .i64 k ∧ z = .int .i64 (q + 3 * k) ∧ r.length = (n - k) * 3 ∧ wr.ownsRow base 78 3 (.slice (some ⟨g, 0, none⟩) n c) n (((List.range k).map (mRwf q)).flatMap Enc.cells ++ r) ∧ w.grownBy wr (some g)) (fun _ i _ => n - (intOf i).toNat)
  case atStart => exact ⟨0, xs, Nat.zero_le _, rfl, by simp, by omega, by simpa using hR, World.grownBy.refl w _⟩
  case round =>
    obtain ⟨k, r, hk, rfl, rfl, hr, hown, hgr⟩ := hrel
    clear hR hin
    by_cases hlt : k < n
    · match r, hr with
      | [], h => simp at h; omega
      | [_], h => simp at h; omega
      | [_, _], h => simp at h; omega
      | r0 :: r1 :: r2 :: rr, hr =>
      have hfl : ((((List.range k).map (mRwf q)).flatMap (Enc.cells (α := Rwf)))).length = k * 3 := by rw [flat_len, List.length_map, List.length_range]; rfl
      have hc0 : wr.cell? ⟨g, k * 3, none⟩ = some r0 := by rw [hown.cellAt _ (by omega), List.getElem?_append_right (by omega), hfl]; simp
      have hc1 : wr.cell? ⟨g, k * 3 + 1, none⟩ = some r1 := by rw [hown.cellAt _ (by omega), List.getElem?_append_right (by omega), hfl]; simp
      have hc2 : wr.cell? ⟨g, k * 3 + 2, none⟩ = some r2 := by rw [hown.cellAt _ (by omega), List.getElem?_append_right (by omega), hfl]; simp
      have hf0 := hown.frozenAt (k * 3)
      have hf1 := hown.frozenAt (k * 3 + 1)
      have hf2 := hown.frozenAt (k * 3 + 2)
      have HFL := Lib.hid hfl; clear hfl
      go_wp2_with fail
      refine (markText_any (q + 3 * k) _ (by omega) (by omega)).mono ?_
      rintro e w2 ⟨rfl, hsz, hw2⟩
      have hown2 := own_le hown hw2
      have hgl := own_lt hown
      have hd0 := (hw2.cell (b := g) (o := k * 3) hgl).trans hc0
      have hg0 := hown2.frozenAt (k * 3)
      have hd1 := (hw2.cell (b := g) (o := k * 3 + 1) hgl).trans hc1
      have hg1 := hown2.frozenAt (k * 3 + 1)
      have hd2 := (hw2.cell (b := g) (o := k * 3 + 2) hgl).trans hc2
      have hg2 := hown2.frozenAt (k * 3 + 2)
      clear hc0 hf0 hc1 hf1 hc2 hf2
      go_wp2
      go_roundw
      case rel =>
        refine ⟨k + 1, rr, by omega, by go_num, by congr 1; omega, by simp at hr; omega, ?_, ?_⟩
        · have h1 := (((hown2.stored (k * 3) (.string (mTxt (q + 3 * k)))).1.stored (k * 3 + 1) (.int .i64 (q + 3 * k + 1))).1.stored (k * 3 + 2) (.int .i64 (q + 3 * k + 1 + 1))).1
          have e : ((List.range (k + 1)).map (mRwf q)).flatMap Enc.cells ++ rr = ((((((List.range k).map (mRwf q)).flatMap Enc.cells ++ r0 :: r1 :: r2 :: rr).set (k * 3) (.string (mTxt (q + 3 * k)))).set (k * 3 + 1) (.int .i64 (q + 3 * k + 1))).set (k * 3 + 2) (.int .i64 (q + 3 * k + 1 + 1))) := by
            rw [List.set_append_right _ _ (by have := HFL.out; omega), List.set_append_right _ _ (by have := HFL.out; omega), List.set_append_right _ _ (by have := HFL.out; omega), HFL.out, List.range_succ, List.map_append, List.flatMap_append]
            simp [Enc.cells, mRwf]
          rw [e]; exact h1
        · exact (gx_set (gx_set (gx_set (gx_le hgr hw2) _) _) _)
      case measure => simp [intOf]; omega
    · have he : k = n := by omega
      have hr0 : r = [] := List.eq_nil_of_length_eq_zero (by rw [hr, he]; simp)
      subst he
      have HO : Hid (wr.ownsRow base 78 3 (.slice (some ⟨g, 0, none⟩) k c) k (((List.range k).map (mRwf q)).flatMap Enc.cells)) := by
        show World.ownsRow _ _ _ _ _ _ _
        rw [hr0] at hown; simpa using hown
      clear hown hr0 hr
      go_wp2
      go_ret
      exact ⟨rfl, HO.out, hgr⟩

theorem markRowS_any (A : Option Addr) (n c : Nat) (xs : List Value) (q : Int) (w : World) (base : Nat) (hR : w.ownsRow base 78 3 (.slice A n c) n xs) (h0 : 1 ≤ q) (h1 : q ≤ 1000000000) (hn : n ≤ 1048576) :
    Calls Try.prog 36 #[.slice A n c, .int .i64 q] w fun e w' => e = .returned (.int .i64 (q + 3 * n)) ∧ w'.ownsRow base 78 3 (.slice A n c) n (((List.range n).map (mRwf q)).flatMap Enc.cells) ∧ w.grownBy w' (Value.slice A n c).ownBlock := by
  rcases hR.2 with ⟨h, h0'⟩ | ⟨g, c', _, h, _⟩
  · simp only [Value.slice.injEq] at h
    obtain ⟨rfl, rfl, rfl⟩ := h
    go_enter Try.func36, Try.ntmps36
    go_wp2
    refine wp_loop_rounds 1 ?_
    rw [rounds_succ]
    go_wp2
    go_ret
    exact ⟨by simp, World.ownsRow_nil w base 78 3, World.grownBy.refl w _⟩
  · simp only [Value.slice.injEq, true_and] at h
    obtain ⟨rfl, rfl⟩ := h
    exact markRowS_row g n c xs q w base hR h0 h1 hn

theorem mRwf_ok {q : Int} (h0 : 1 ≤ q) (h1 : q ≤ 1000000000) {n : Nat} (hn : n ≤ 1048576) : ∀ x ∈ (List.range n).map (mRwf q), Enc.ok x := by
  intro x hx
  simp at hx
  obtain ⟨i, hi, rfl⟩ := hx
  exact ⟨mTxt_size (by omega) (by omega), by show _ ≤ _; simp only [mRwf]; omega, by show _ ≤ _; simp only [mRwf]; omega, by show _ ≤ _; simp only [mRwf]; omega, by show _ ≤ _; simp only [mRwf]; omega⟩

theorem heldRowS_any (A : Option Addr) (n c : Nat) (q : Int) (w : World) (hR : Sl w A n c ((List.range n).map (mRwf q))) (h0 : 1 ≤ q) (h1 : q ≤ 1000000000) (hn : n ≤ 1048576) :
    Calls Try.prog 37 #[.slice A n c, .int .i64 q] w fun e w' => e = .returned (.int .i64 (q + 3 * n)) ∧ Le w w' := by
  have hl : ((List.range n).map (mRwf q)).length = n := by simp
  have HL := Lib.hid hl; clear hl
  go_enter Try.func37, Try.ntmps37
  go_wp2
  go_loopw [1, 5] (fun z i wr => ∃ k : Nat, k ≤ n ∧ i = .int .i64 k ∧ z = .int .i64 (q + 3 * k) ∧ Le w wr) (fun _ i _ => n - (intOf i).toNat)
  case atStart => exact ⟨0, Nat.zero_le _, rfl, by simp, Le.refl _⟩
  case round =>
    obtain ⟨k, hk, rfl, rfl, hle⟩ := hrel
    have hRr := hR.le hle
    clear hR
    by_cases hlt : k < n
    · obtain ⟨b, off, rfl, hb, hcell0, hcell1, hcell2, _⟩ := hRr.rwf_at (k := k) (by rw [HL.out]; exact hlt)
      have hx : ((List.range n).map (mRwf q))[k]'(by rw [HL.out]; exact hlt) = mRwf q k := by simp
      rw [hx] at hcell0 hcell1 hcell2
      simp only [mRwf] at hcell0 hcell1 hcell2
      clear hx
      have E0 := cell_ext hb hcell0
      have E1 := cell_ext hb hcell1
      have E2 := cell_ext hb hcell2
      go_wp2_with fail
      refine wp_region_ext (by kernel_rfl) (by kernel_rfl) ?_
      repeat (go_big_quiet_step (first | (go_at_call 60; exact Calls.ext_of (markText_ret _ _ (by omega) (by omega)))))
      refine wpQuiet_nil ?_
      intro _ hw'
      obtain ⟨g, rfl⟩ := hw'
      replace hle := hle.trans (Le.ext wr g)
      replace hcell0 := E0 g
      replace hcell1 := E1 g
      replace hcell2 := E2 g
      clear E0 E1 E2
      generalize wr.ext g = W2 at *
      go_wp2
      go_roundw
      case rel => exact ⟨k + 1, by omega, by go_num, by congr 1; omega, hle⟩
      case measure => simp [intOf]; omega
    · have he : k = n := by omega
      subst he
      go_wp2
      go_ret
      exact ⟨rfl, hle⟩

theorem szRow_any (c : Rwf) (left : Int) (w : World) (hc : Enc.ok c) (h0 : 0 ≤ left) (h1 : left ≤ 1048576) :
    Calls Try.prog 68 #[.agg #[.string c.fn, .int .i64 c.line, .int .i64 c.times], .int .i64 left] w (SzOut left c.fn.size w) := by
  go_enter Try.func68, Try.ntmps68
  go_wp2_with fail
  refine (szFrame_any ⟨c.fn, c.line⟩ left _ ⟨hc.1, hc.2.1, hc.2.2.1⟩ h0 h1).mono ?_
  rintro e w2 ⟨r, rfl, hr, hle⟩
  have hle2 := (Le.new w _).trans hle
  clear hle
  rcases hr with rfl | ⟨h2, h3, h4⟩
  · go_wp2
    go_ret
    exact ⟨-1, rfl, .inl rfl, hle2⟩
  · have hneg : decide (r < 0) = false := decide_eq_false (by omega)
    go_wp2
    go_ret
    exact ⟨r, rfl, .inr ⟨h2, h3, h4⟩, hle2⟩

theorem szRowS_any (A : Option Addr) (n cap : Nat) (xs : List Rwf) (left : Int) (w : World) (hR : Sl w A n cap xs) (h0 : 0 ≤ left) (h1 : left ≤ 1048576) :
    Calls Try.prog 38 #[.slice A n cap, .int .i64 left] w (SzOut left n w) := by
  obtain rfl := hR.len
  have hm := hR.n_le
  by_cases h : left - xs.length < 0
  · go_enter Try.func38, Try.ntmps38
    go_wp2
    go_ret
    exact ⟨-1, rfl, .inl rfl, Le.refl w⟩
  · go_enter Try.func38, Try.ntmps38
    go_wp2
    go_loopw [1, 5] (fun lf i wr => ∃ k : Nat, ∃ r : Int, k ≤ xs.length ∧ i = .int .i64 k ∧ lf = .int .i64 r ∧ 0 ≤ r ∧ r ≤ left ∧ Le w wr) (fun _ i _ => xs.length - (intOf i).toNat)
    case atStart => exact ⟨0, left - xs.length, Nat.zero_le _, rfl, rfl, by omega, by omega, Le.refl _⟩
    case round =>
      obtain ⟨k, r, hk, rfl, rfl, hr0, hr1, hle⟩ := hrel
      have hRr := hR.le hle
      clear hR
      by_cases hlt : k < xs.length
      · obtain ⟨b, off, rfl, hb, hcell0, hcell1, hcell2, _⟩ := hRr.rwf_at hlt
        go_wp2_with fail
        refine (szRow_any xs[k] _ _ (hRr.ok _ (List.getElem_mem hlt)) hr0 (by omega)).mono ?_
        rintro e w' ⟨r2, rfl, hr2, hle2⟩
        rcases hr2 with rfl | ⟨h20, h21, _⟩
        · go_wp2
          go_ret
          exact ⟨-1, rfl, .inl rfl, hle.trans hle2⟩
        · have hneg : decide (r2 < 0) = false := decide_eq_false (by omega)
          go_wp2
          go_roundw
          case rel => exact ⟨k + 1, r2, by omega, by go_num, rfl, by omega, by omega, hle.trans hle2⟩
          case measure => simp [intOf]; omega
      · go_wp2
        go_ret
        exact ⟨r, rfl, .inr ⟨hr0, by omega, by omega⟩, hle⟩

end Go.Proofs.Ytblmbkbdfngogaa
