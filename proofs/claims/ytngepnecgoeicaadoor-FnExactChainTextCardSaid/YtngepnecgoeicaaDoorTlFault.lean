import Derived.Test.YtngepnecgoeicaaDoorTyFault
import Derived.Test.YtngepnecgoeicaaDoorTL
namespace Go.Proofs.YtngepnecgoeicaaDoor
open Go.RowKit

theorem infoFault : (Tryd.prog.info? 76).map (fun i => (i.zero, i.size, i.bytes)) = some (some (.agg #[.int .i64 0, .int .i64 0, .int .i64 0, .int .i64 0, .bool false]), 5, 40) := by kernel_rfl
theorem toFault_any (x : Flt) (w : World) :
    Calls Tryd.prog 56 #[.agg #[.int .i64 x.cls, .int .i64 x.code, .int .i64 x.cause, .int .i64 x.ctx, .bool x.hide]] w fun e w' => e = .returned (.agg #[.int .i64 x.cls, .int .i64 x.code, .int .i64 x.cause, .int .i64 x.ctx, .bool x.hide]) ∧ Le w w' := by
  go_enter Tryd.func56, Tryd.ntmps56
  go_wp2
  exact bodyPost_ret (v := .agg #[.int .i64 x.cls, .int .i64 x.code, .int .i64 x.cause, .int .i64 x.ctx, .bool x.hide]) (by simp [results, Tryd.results56, go_sem]) rfl ⟨rfl, ((Le.new w _).alloc _).alloc _⟩

set_option maxRecDepth 100000 in
theorem toFaultS_any (A : Option Addr) (n cap : Nat) (xs : List Flt) (w : World) (hR : Sl w A n cap xs) (hn : n ≤ 1048576) :
    Calls Tryd.prog 36 #[.slice A n cap] w fun e w' => e = .returned (.slice (some ⟨w.heap.size, 0, none⟩) n n) ∧ w'.ownsRow w.heap.size 76 5 (.slice (some ⟨w.heap.size, 0, none⟩) n n) n (xs.flatMap Enc.cells) ∧ Le w w' := by
  obtain rfl := hR.len
  obtain ⟨i0, hi, hz0, hz1, hz2⟩ := info_parts infoFault
  have hb2 : i0.bytes * xs.length ≤ 281474976710656 := by rw [hz2]; omega
  go_enter Tryd.func36, Tryd.ntmps36
  go_wp2_with (refine wpList_make_full _ rfl _ _ 30 rfl w.heap.size 76 i0 _ 5 Tryd.underlying30 hi hz0 hz1 .i64 .i64 _ _ xs.length rfl rfl rfl rfl hb2 (by unfold maxLen; omega) (Nat.le_refl _) ?_; intro w1 hown1 hg1)
  have hl1 := (Le.refl w).grown hg1 (by intro k hk; cases hk)
  go_loopw [4] (fun i wr => ∃ k : Nat, ∃ r : List Value, k ≤ xs.length ∧ i = .int .i64 k ∧ r.length = (xs.length - k) * 5 ∧ wr.ownsRow w.heap.size 76 5 (.slice (some ⟨w.heap.size, 0, none⟩) xs.length xs.length) xs.length ((xs.take k).flatMap Enc.cells ++ r) ∧ Le w wr) (fun i _ => xs.length - (intOf i).toNat)
  case atStart => exact ⟨0, _, Nat.zero_le _, rfl, by simp [madeCells], hown1, hl1⟩
  case round =>
    obtain ⟨k, r, hk, rfl, hr, hown, hle⟩ := hrel
    have hRr := hR.le hle
    clear hR hown1 hg1 hl1
    by_cases hlt : k < xs.length
    · obtain ⟨b, off, rfl, hb, hcell0, hcell1, hcell2, hcell3, hcell4, _⟩ := hRr.flt_at hlt
      match r, hr with
      | [], h => simp at h; omega
      | [_], h => simp at h; omega
      | [_, _], h => simp at h; omega
      | [_, _, _], h => simp at h; omega
      | [_, _, _, _], h => simp at h; omega
      | r0 :: r1 :: r2 :: r3 :: r4 :: rr, hr =>
      have hfl : ((xs.take k).flatMap (Enc.cells (α := Flt))).length = k * 5 := by rw [flat_len, List.length_take]; show _ * 5 = _; rw [Nat.min_eq_left (by omega)]
      go_wp2_with fail
      refine (toFault_any xs[k] _).mono ?_
      rintro e w2 ⟨rfl, hw2⟩
      have hown2 := own_le hown hw2
      have hc0 : w2.cell? ⟨w.heap.size, k * 5, none⟩ = some r0 := by rw [hown2.cellAt _ (by omega), List.getElem?_append_right (by omega), hfl]; simp
      have hc1 : w2.cell? ⟨w.heap.size, k * 5 + 1, none⟩ = some r1 := by rw [hown2.cellAt _ (by omega), List.getElem?_append_right (by omega), hfl]; simp
      have hc2 : w2.cell? ⟨w.heap.size, k * 5 + 2, none⟩ = some r2 := by rw [hown2.cellAt _ (by omega), List.getElem?_append_right (by omega), hfl]; simp
      have hc3 : w2.cell? ⟨w.heap.size, k * 5 + 3, none⟩ = some r3 := by rw [hown2.cellAt _ (by omega), List.getElem?_append_right (by omega), hfl]; simp
      have hc4 : w2.cell? ⟨w.heap.size, k * 5 + 4, none⟩ = some r4 := by rw [hown2.cellAt _ (by omega), List.getElem?_append_right (by omega), hfl]; simp
      have hf0 := hown2.frozenAt (k * 5)
      have hf1 := hown2.frozenAt (k * 5 + 1)
      have hf2 := hown2.frozenAt (k * 5 + 2)
      have hf3 := hown2.frozenAt (k * 5 + 3)
      have hf4 := hown2.frozenAt (k * 5 + 4)
      go_wp2
      go_roundw
      case rel =>
        refine ⟨k + 1, rr, by omega, by go_num, by simp at hr; omega, ?_, (hle.trans hw2).setCell (Nat.le_refl _) _ |>.setCell (Nat.le_refl _) _ |>.setCell (Nat.le_refl _) _ |>.setCell (Nat.le_refl _) _ |>.setCell (Nat.le_refl _) _⟩
        have h1 := (((((hown2.stored (k * 5) (.int .i64 xs[k].cls)).1.stored (k * 5 + 1) (.int .i64 xs[k].code)).1.stored (k * 5 + 2) (.int .i64 xs[k].cause)).1.stored (k * 5 + 3) (.int .i64 xs[k].ctx)).1.stored (k * 5 + 4) (.bool xs[k].hide)).1
        have e : (xs.take (k + 1)).flatMap Enc.cells ++ rr = (((((((xs.take k).flatMap Enc.cells ++ r0 :: r1 :: r2 :: r3 :: r4 :: rr).set (k * 5) (.int .i64 xs[k].cls)).set (k * 5 + 1) (.int .i64 xs[k].code)).set (k * 5 + 2) (.int .i64 xs[k].cause)).set (k * 5 + 3) (.int .i64 xs[k].ctx)).set (k * 5 + 4) (.bool xs[k].hide)) := by
          rw [List.take_succ_eq_append_getElem hlt, List.flatMap_append, List.set_append_right _ _ (by omega), List.set_append_right _ _ (by omega), List.set_append_right _ _ (by omega), List.set_append_right _ _ (by omega), List.set_append_right _ _ (by omega), hfl]
          simp [Enc.cells]
        rw [e]; exact h1
      case measure => simp [intOf]; omega
    · have hk' : k = xs.length := by omega
      have hr0 : r = [] := List.eq_nil_of_length_eq_zero (by rw [hr, hk']; simp)
      have HO : Hid (wr.ownsRow w.heap.size 76 5 (.slice (some ⟨w.heap.size, 0, none⟩) xs.length xs.length) xs.length (xs.flatMap Enc.cells)) := by
        show World.ownsRow _ _ _ _ _ _ _
        rw [hk', hr0] at hown; simpa using hown
      clear hk' hr0 hr hown
      go_wp2
      go_ret
      exact ⟨rfl, HO.out, hle⟩

theorem eqFault_self (x : Flt) (w : World) : Calls Tryd.prog 60 #[.agg #[.int .i64 x.cls, .int .i64 x.code, .int .i64 x.cause, .int .i64 x.ctx, .bool x.hide], .agg #[.int .i64 x.cls, .int .i64 x.code, .int .i64 x.cause, .int .i64 x.ctx, .bool x.hide]] w fun e w' => e = .returned (.bool true) ∧ Le w w' := by
  go_enter Tryd.func60, Tryd.ntmps60
  go_wp2
  go_ret
  exact ⟨rfl, (Le.new w _).alloc _⟩

theorem eqFaultS_self (A B : Option Addr) (n c d : Nat) (xs : List Flt) (w : World) (hR : Sl w A n c xs) (hS : Sl w B n d xs) :
    Calls Tryd.prog 39 #[.slice A n c, .slice B n d] w fun e w' => e = .returned (.bool true) ∧ Le w w' := by
  obtain rfl := hR.len
  have hm := hR.n_le
  have hb : ((xs.length : Int) != (xs.length : Int)) = false := by simp
  go_enter Tryd.func39, Tryd.ntmps39
  go_wp2
  go_loopw [5] (fun i wr => ∃ k : Nat, k ≤ xs.length ∧ i = .int .i64 k ∧ Le w wr) (fun i _ => xs.length - (intOf i).toNat)
  case atStart => exact ⟨0, Nat.zero_le _, rfl, Le.refl _⟩
  case round =>
    obtain ⟨k, hk, rfl, hle⟩ := hrel
    have hRr := hR.le hle
    have hSr := hS.le hle
    clear hR hS
    by_cases hlt : k < xs.length
    · obtain ⟨b, off, rfl, hb, hcell0, hcell1, hcell2, hcell3, hcell4, _⟩ := hRr.flt_at hlt
      obtain ⟨b2, off2, rfl, hb2, hdell0, hdell1, hdell2, hdell3, hdell4, _⟩ := hSr.flt_at hlt
      have E0 := cell_ext hb hcell0
      have E1 := cell_ext hb hcell1
      have E2 := cell_ext hb hcell2
      have E3 := cell_ext hb hcell3
      have E4 := cell_ext hb hcell4
      have F0 := cell_ext hb2 hdell0
      have F1 := cell_ext hb2 hdell1
      have F2 := cell_ext hb2 hdell2
      have F3 := cell_ext hb2 hdell3
      have F4 := cell_ext hb2 hdell4
      go_wp2_with fail
      refine wp_region_ext (by kernel_rfl) (by kernel_rfl) ?_
      repeat (go_big_quiet_step (first | (go_at_call 60; exact Calls.ext_of (eqFault_self xs[k] _))))
      refine wpQuiet_nil ?_
      intro _ hw'
      obtain ⟨g, rfl⟩ := hw'
      have hw1 := Le.ext wr g
      generalize wr.ext g = W2 at *
      go_wp2
      go_roundw
      case rel => exact ⟨k + 1, by omega, by go_num, hle.trans hw1⟩
      case measure => simp [intOf]; omega
    · go_wp2
      go_ret
      exact ⟨rfl, hle⟩

def mFlt (k : Int) (i : Nat) : Flt := ⟨k + 5 * i, k + 5 * i + 1, k + 5 * i + 1 + 1, k + 5 * i + 1 + 1 + 1, ((k + 5 * i + 1 + 1 + 1 + 1) % 3 == 0)⟩

set_option maxHeartbeats 1000000 in
set_option maxRecDepth 100000 in
theorem markFaultS_row (g n c : Nat) (xs : List Value) (q : Int) (w : World) (base : Nat) (hR : w.ownsRow base 76 5 (.slice (some ⟨g, 0, none⟩) n c) n xs) (h0 : 1 ≤ q) (h1 : q ≤ 1000000000) (hn : n ≤ 1048576) :
    Calls Tryd.prog 42 #[.slice (some ⟨g, 0, none⟩) n c, .int .i64 q] w fun e w' => e = .returned (.int .i64 (q + 5 * n)) ∧ w'.ownsRow base 76 5 (.slice (some ⟨g, 0, none⟩) n c) n (((List.range n).map (mFlt q)).flatMap Enc.cells) ∧ w.grownBy w' (some g) := by
  go_enter Tryd.func42, Tryd.ntmps42
  go_wp2
  have hin := hR.1
  go_loopw [1, 5] (fun z i wr => ∃ k : Nat, ∃ r : List Value, k ≤ n ∧ i = .int .i64 k ∧ z = .int .i64 (q + 5 * k) ∧ r.length = (n - k) * 5 ∧ wr.ownsRow base 76 5 (.slice (some ⟨g, 0, none⟩) n c) n (((List.range k).map (mFlt q)).flatMap Enc.cells ++ r) ∧ w.grownBy wr (some g)) (fun _ i _ => n - (intOf i).toNat)
  case atStart => exact ⟨0, xs, Nat.zero_le _, rfl, by simp, by omega, by simpa using hR, World.grownBy.refl w _⟩
  case round =>
    obtain ⟨k, r, hk, rfl, rfl, hr, hown, hgr⟩ := hrel
    clear hR hin
    by_cases hlt : k < n
    · match r, hr with
      | [], h => simp at h; omega
      | [_], h => simp at h; omega
      | [_, _], h => simp at h; omega
      | [_, _, _], h => simp at h; omega
      | [_, _, _, _], h => simp at h; omega
      | r0 :: r1 :: r2 :: r3 :: r4 :: rr, hr =>
      have hfl : ((((List.range k).map (mFlt q)).flatMap (Enc.cells (α := Flt)))).length = k * 5 := by rw [flat_len, List.length_map, List.length_range]; rfl
      have hc0 : wr.cell? ⟨g, k * 5, none⟩ = some r0 := by rw [hown.cellAt _ (by omega), List.getElem?_append_right (by omega), hfl]; simp
      have hc1 : wr.cell? ⟨g, k * 5 + 1, none⟩ = some r1 := by rw [hown.cellAt _ (by omega), List.getElem?_append_right (by omega), hfl]; simp
      have hc2 : wr.cell? ⟨g, k * 5 + 2, none⟩ = some r2 := by rw [hown.cellAt _ (by omega), List.getElem?_append_right (by omega), hfl]; simp
      have hc3 : wr.cell? ⟨g, k * 5 + 3, none⟩ = some r3 := by rw [hown.cellAt _ (by omega), List.getElem?_append_right (by omega), hfl]; simp
      have hc4 : wr.cell? ⟨g, k * 5 + 4, none⟩ = some r4 := by rw [hown.cellAt _ (by omega), List.getElem?_append_right (by omega), hfl]; simp
      have hf0 := hown.frozenAt (k * 5)
      have hf1 := hown.frozenAt (k * 5 + 1)
      have hf2 := hown.frozenAt (k * 5 + 2)
      have hf3 := hown.frozenAt (k * 5 + 3)
      have hf4 := hown.frozenAt (k * 5 + 4)
      have HFL := Lib.hid hfl; clear hfl
      go_wp2
      go_roundw
      case rel =>
        refine ⟨k + 1, rr, by omega, by go_num, by congr 1; omega, by simp at hr; omega, ?_, ?_⟩
        · have h1 := (((((hown.stored (k * 5) (.int .i64 (q + 5 * k))).1.stored (k * 5 + 1) (.int .i64 (q + 5 * k + 1))).1.stored (k * 5 + 2) (.int .i64 (q + 5 * k + 1 + 1))).1.stored (k * 5 + 3) (.int .i64 (q + 5 * k + 1 + 1 + 1))).1.stored (k * 5 + 4) (.bool ((q + 5 * k + 1 + 1 + 1 + 1) % 3 == 0))).1
          have e : ((List.range (k + 1)).map (mFlt q)).flatMap Enc.cells ++ rr = ((((((((List.range k).map (mFlt q)).flatMap Enc.cells ++ r0 :: r1 :: r2 :: r3 :: r4 :: rr).set (k * 5) (.int .i64 (q + 5 * k))).set (k * 5 + 1) (.int .i64 (q + 5 * k + 1))).set (k * 5 + 2) (.int .i64 (q + 5 * k + 1 + 1))).set (k * 5 + 3) (.int .i64 (q + 5 * k + 1 + 1 + 1))).set (k * 5 + 4) (.bool ((q + 5 * k + 1 + 1 + 1 + 1) % 3 == 0))) := by
            rw [List.set_append_right _ _ (by have := HFL.out; omega), List.set_append_right _ _ (by have := HFL.out; omega), List.set_append_right _ _ (by have := HFL.out; omega), List.set_append_right _ _ (by have := HFL.out; omega), List.set_append_right _ _ (by have := HFL.out; omega), HFL.out, List.range_succ, List.map_append, List.flatMap_append]
            simp [Enc.cells, mFlt]
          rw [e]; exact h1
        · exact (gx_set (gx_set (gx_set (gx_set (gx_set hgr _) _) _) _) _)
      case measure => simp [intOf]; omega
    · have he : k = n := by omega
      have hr0 : r = [] := List.eq_nil_of_length_eq_zero (by rw [hr, he]; simp)
      subst he
      have HO : Hid (wr.ownsRow base 76 5 (.slice (some ⟨g, 0, none⟩) k c) k (((List.range k).map (mFlt q)).flatMap Enc.cells)) := by
        show World.ownsRow _ _ _ _ _ _ _
        rw [hr0] at hown; simpa using hown
      clear hown hr0 hr
      go_wp2
      go_ret
      exact ⟨rfl, HO.out, hgr⟩

theorem markFaultS_any (A : Option Addr) (n c : Nat) (xs : List Value) (q : Int) (w : World) (base : Nat) (hR : w.ownsRow base 76 5 (.slice A n c) n xs) (h0 : 1 ≤ q) (h1 : q ≤ 1000000000) (hn : n ≤ 1048576) :
    Calls Tryd.prog 42 #[.slice A n c, .int .i64 q] w fun e w' => e = .returned (.int .i64 (q + 5 * n)) ∧ w'.ownsRow base 76 5 (.slice A n c) n (((List.range n).map (mFlt q)).flatMap Enc.cells) ∧ w.grownBy w' (Value.slice A n c).ownBlock := by
  rcases hR.2 with ⟨h, h0'⟩ | ⟨g, c', _, h, _⟩
  · simp only [Value.slice.injEq] at h
    obtain ⟨rfl, rfl, rfl⟩ := h
    go_enter Tryd.func42, Tryd.ntmps42
    go_wp2
    refine wp_loop_rounds 1 ?_
    rw [rounds_succ]
    go_wp2
    go_ret
    exact ⟨by simp, World.ownsRow_nil w base 76 5, World.grownBy.refl w _⟩
  · simp only [Value.slice.injEq, true_and] at h
    obtain ⟨rfl, rfl⟩ := h
    exact markFaultS_row g n c xs q w base hR h0 h1 hn

theorem mFlt_ok {q : Int} (h0 : 1 ≤ q) (h1 : q ≤ 1000000000) {n : Nat} (hn : n ≤ 1048576) : ∀ x ∈ (List.range n).map (mFlt q), Enc.ok x := by
  intro x hx
  simp at hx
  obtain ⟨i, hi, rfl⟩ := hx
  exact ⟨by show _ ≤ _; simp only [mFlt]; omega, by show _ ≤ _; simp only [mFlt]; omega, by show _ ≤ _; simp only [mFlt]; omega, by show _ ≤ _; simp only [mFlt]; omega, by show _ ≤ _; simp only [mFlt]; omega, by show _ ≤ _; simp only [mFlt]; omega, by show _ ≤ _; simp only [mFlt]; omega, by show _ ≤ _; simp only [mFlt]; omega⟩

theorem heldFaultS_any (A : Option Addr) (n c : Nat) (q : Int) (w : World) (hR : Sl w A n c ((List.range n).map (mFlt q))) (h0 : 1 ≤ q) (h1 : q ≤ 1000000000) (hn : n ≤ 1048576) :
    Calls Tryd.prog 43 #[.slice A n c, .int .i64 q] w fun e w' => e = .returned (.int .i64 (q + 5 * n)) ∧ Le w w' := by
  have hl : ((List.range n).map (mFlt q)).length = n := by simp
  have HL := Lib.hid hl; clear hl
  go_enter Tryd.func43, Tryd.ntmps43
  go_wp2
  go_loopw [1, 5] (fun z i wr => ∃ k : Nat, k ≤ n ∧ i = .int .i64 k ∧ z = .int .i64 (q + 5 * k) ∧ Le w wr) (fun _ i _ => n - (intOf i).toNat)
  case atStart => exact ⟨0, Nat.zero_le _, rfl, by simp, Le.refl _⟩
  case round =>
    obtain ⟨k, hk, rfl, rfl, hle⟩ := hrel
    have hRr := hR.le hle
    clear hR
    by_cases hlt : k < n
    · obtain ⟨b, off, rfl, hb, hcell0, hcell1, hcell2, hcell3, hcell4, _⟩ := hRr.flt_at (k := k) (by rw [HL.out]; exact hlt)
      have hx : ((List.range n).map (mFlt q))[k]'(by rw [HL.out]; exact hlt) = mFlt q k := by simp
      rw [hx] at hcell0 hcell1 hcell2 hcell3 hcell4
      simp only [mFlt] at hcell0 hcell1 hcell2 hcell3 hcell4
      clear hx
      go_wp2
      go_roundw
      case rel => exact ⟨k + 1, by omega, by go_num, by congr 1; omega, hle⟩
      case measure => simp [intOf]; omega
    · have he : k = n := by omega
      subst he
      go_wp2
      go_ret
      exact ⟨rfl, hle⟩

theorem szFaultS_any (A : Option Addr) (n cap : Nat) (xs : List Flt) (left : Int) (w : World) (hR : Sl w A n cap xs) (h0 : 0 ≤ left) (h1 : left ≤ 1048576) :
    Calls Tryd.prog 31 #[.slice A n cap, .int .i64 left] w (SzOut left n w) := by
  have hm := hR.n_le
  by_cases h : left - n < 0
  · go_enter Tryd.func31, Tryd.ntmps31
    go_wp2
    go_ret
    exact ⟨-1, rfl, .inl rfl, Le.refl w⟩
  · go_enter Tryd.func31, Tryd.ntmps31
    go_wp2
    go_ret
    exact ⟨_, rfl, .inr ⟨by omega, by omega, by omega⟩, Le.refl w⟩

theorem szHeap_any (A : Option Addr) (n cap : Nat) (xs : List Flt) (left : Int) (w : World) (hR : Sl w A n cap xs) (h0 : 0 ≤ left) (h1 : left ≤ 1048576) :
    Calls Tryd.prog 9 #[.agg #[.slice A n cap], .int .i64 left] w (SzOut left n w) := by
  go_enter Tryd.func9, Tryd.ntmps9
  go_wp2_with fail
  refine (szFaultS_any A n cap xs _ _ (hR.alloc _) h0 h1).mono ?_
  rintro e w' ⟨r2, rfl, hr2, hle2⟩
  have hle := (Le.new w _).trans hle2
  rcases hr2 with rfl | ⟨h20, h21, h22⟩
  · go_wp2
    go_ret
    exact ⟨-1, rfl, .inl rfl, hle⟩
  · have hneg : decide (r2 < 0) = false := decide_eq_false (by omega)
    go_wp2
    go_ret
    exact ⟨r2, rfl, .inr ⟨by omega, by omega, h22⟩, hle⟩

theorem eqHeap_self (A B : Option Addr) (n c d : Nat) (xs : List Flt) (w : World) (hR : Sl w A n c xs) (hS : Sl w B n d xs) :
    Calls Tryd.prog 14 #[.agg #[.slice A n c], .agg #[.slice B n d]] w fun e w' => e = .returned (.bool true) ∧ Le w w' := by
  go_enter Tryd.func14, Tryd.ntmps14
  go_wp2_with fail
  refine (eqFaultS_self A B n c d xs _ ((hR.alloc _).alloc _) ((hS.alloc _).alloc _)).mono ?_
  rintro e w' ⟨rfl, hw1⟩
  go_wp2
  go_ret
  exact ⟨rfl, ((Le.new w _).alloc _).trans hw1⟩

theorem toHeap_any (A : Option Addr) (n cap : Nat) (xs : List Flt) (w : World) (hR : Sl w A n cap xs) (hn : n ≤ 1048576) :
    Calls Tryd.prog 12 #[.agg #[.slice A n cap]] w fun e w' => ∃ g, e = .returned (.agg #[.slice (some ⟨g, 0, none⟩) n n]) ∧ w.heap.size ≤ g ∧ w'.ownsRow w.heap.size 76 5 (.slice (some ⟨g, 0, none⟩) n n) n (xs.flatMap Enc.cells) ∧ Le w w' := by
  go_enter Tryd.func12, Tryd.ntmps12
  go_wp2_with fail
  generalize hWd : ((w.alloc (.cells #[.slice A n cap] 27)).alloc _).alloc _ = W
  have hsz : w.heap.size + 2 < W.heap.size := by rw [← hWd]; simp
  have hWle : Le w W := by rw [← hWd]; exact ((Le.new w _).alloc _).alloc _
  have c1 : W.cell? ⟨w.heap.size + 1, 0, none⟩ = some (.slice none 0 0) := by rw [← hWd, World.cell?_alloc_past _ _ _ (by simp), World.cell?_alloc_at _ _ _ _ (by simp)]; rfl
  have c2 : W.cell? ⟨w.heap.size + 1 + 1, 0, none⟩ = some (.slice none 0 0) := by rw [← hWd, World.cell?_alloc_at _ _ _ _ (by simp)]; rfl
  have f1 : W.frozen? ⟨w.heap.size + 1, 0, none⟩ = false := by rw [← hWd, World.frozen?_alloc_past _ _ _ (by simp), World.frozen?_alloc_at _ _ _ _ (by simp)]
  have f2 : W.frozen? ⟨w.heap.size + 1 + 1, 0, none⟩ = false := by rw [← hWd, World.frozen?_alloc_at _ _ _ _ (by simp)]
  clear hWd
  refine (toFaultS_any A n cap xs W (hR.le hWle) hn).mono ?_
  rintro e w2 ⟨rfl, hown, hle⟩
  have d1 := (hle.cell (b := w.heap.size + 1) (o := 0) (by omega)).trans c1
  have d2 := (hle.cell (b := w.heap.size + 1 + 1) (o := 0) (by omega)).trans c2
  have g1 := (hle.frozen (b := w.heap.size + 1) (o := 0) (by omega)).trans f1
  have g2 := (hle.frozen (b := w.heap.size + 1 + 1) (o := 0) (by omega)).trans f2
  have hz2 := hle.size
  have hbl := hWle.trans hle
  have hend : ∀ v, ((w2.setCell ⟨w.heap.size + 1 + 1, 0, none⟩ v).setCell ⟨w.heap.size + 1, 0, none⟩ v).cell? ⟨w.heap.size + 1, 0, none⟩ = some v := fun v => cell_set_same ((cell_set_other (.inl (by omega))).trans d1)
  clear c1 c2 f1 f2 hle
  go_wp2
  refine bodyPost_ret (v := .agg #[.slice (some ⟨W.heap.size, 0, none⟩) n n]) (by simp [results, Tryd.results12, go_sem, hend]) rfl ⟨W.heap.size, rfl, by omega, ?_, ?_⟩
  · exact own_set (own_set (own_mono hown (by omega)) (by omega) _) (by omega) _
  · exact (hbl.setCell (by omega) _).setCell (by omega) _

theorem markHeap_any (A : Option Addr) (n c : Nat) (xs : List Value) (q : Int) (w : World) (base : Nat) (hR : w.ownsRow base 76 5 (.slice A n c) n xs) (h0 : 1 ≤ q) (h1 : q ≤ 1000000000) (hn : n ≤ 1048576) :
    Calls Tryd.prog 17 #[.agg #[.slice A n c], .int .i64 q] w fun e w' => e = .returned (.int .i64 (q + 5 * n)) ∧ w'.ownsRow base 76 5 (.slice A n c) n (((List.range n).map (mFlt q)).flatMap Enc.cells) ∧ w.grownBy w' (Value.slice A n c).ownBlock := by
  go_enter Tryd.func17, Tryd.ntmps17
  go_wp2_with fail
  refine (markFaultS_any A n c xs q _ base (hR.alloc _) h0 h1 hn).mono ?_
  rintro e w2 ⟨rfl, hown, hg⟩
  have hgr := gx_from hg
  go_wp2
  go_ret
  exact ⟨rfl, hown, hgr⟩

theorem heldHeap_any (A : Option Addr) (n c : Nat) (q : Int) (w : World) (hR : Sl w A n c ((List.range n).map (mFlt q))) (h0 : 1 ≤ q) (h1 : q ≤ 1000000000) (hn : n ≤ 1048576) :
    Calls Tryd.prog 18 #[.agg #[.slice A n c], .int .i64 q] w fun e w' => e = .returned (.int .i64 (q + 5 * n)) ∧ Le w w' := by
  go_enter Tryd.func18, Tryd.ntmps18
  go_wp2_with fail
  refine (heldFaultS_any A n c q _ (hR.alloc _) h0 h1 hn).mono ?_
  rintro e w' ⟨rfl, hw1⟩
  have hneg : decide (q + 5 * (n : Int) < 0) = false := decide_eq_false (by omega)
  go_wp2
  go_ret
  exact ⟨rfl, (Le.new w _).trans hw1⟩

end Go.Proofs.YtngepnecgoeicaaDoor
