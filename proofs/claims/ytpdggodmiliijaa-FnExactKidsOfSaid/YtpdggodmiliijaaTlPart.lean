import Derived.Test.YtpdggodmiliijaaTyPart
import Derived.Test.YtpdggodmiliijaaTL
namespace Go.Proofs.Ytpdggodmiliijaa
open Go.RowKit

theorem infoPart : (Try.prog.info? 70).map (fun i => (i.zero, i.size, i.bytes)) = some (some (.agg #[.int .i64 0, .bool false, .int .i64 0, .int .i64 0]), 4, 32) := by kernel_rfl
theorem toPart_any (x : Prt) (w : World) :
    Calls Try.prog 51 #[.agg #[.int .i64 x.depth, .bool x.group, .int .i64 x.cls, .int .i64 x.code]] w fun e w' => e = .returned (.agg #[.int .i64 x.depth, .bool x.group, .int .i64 x.cls, .int .i64 x.code]) ∧ Le w w' := by
  go_enter Try.func51, Try.ntmps51
  go_wp2
  exact bodyPost_ret (v := .agg #[.int .i64 x.depth, .bool x.group, .int .i64 x.cls, .int .i64 x.code]) (by simp [results, Try.results51, go_sem]) rfl ⟨rfl, ((Le.new w _).alloc _).alloc _⟩

set_option maxRecDepth 100000 in
theorem toPartS_any (A : Option Addr) (n cap : Nat) (xs : List Prt) (w : World) (hR : Sl w A n cap xs) (hn : n ≤ 1048576) :
    Calls Try.prog 15 #[.slice A n cap] w fun e w' => e = .returned (.slice (some ⟨w.heap.size, 0, none⟩) n n) ∧ w'.ownsRow w.heap.size 70 4 (.slice (some ⟨w.heap.size, 0, none⟩) n n) n (xs.flatMap Enc.cells) ∧ Le w w' := by
  obtain rfl := hR.len
  obtain ⟨i0, hi, hz0, hz1, hz2⟩ := info_parts infoPart
  have hb2 : i0.bytes * xs.length ≤ 281474976710656 := by rw [hz2]; omega
  go_enter Try.func15, Try.ntmps15
  go_wp2_with (refine wpList_make_full _ rfl _ _ 34 rfl w.heap.size 70 i0 _ 4 Try.underlying34 hi hz0 hz1 .i64 .i64 _ _ xs.length rfl rfl rfl rfl hb2 (by unfold maxLen; omega) (Nat.le_refl _) ?_; intro w1 hown1 hg1)
  have hl1 := (Le.refl w).grown hg1 (by intro k hk; cases hk)
  go_loopw [4] (fun i wr => ∃ k : Nat, ∃ r : List Value, k ≤ xs.length ∧ i = .int .i64 k ∧ r.length = (xs.length - k) * 4 ∧ wr.ownsRow w.heap.size 70 4 (.slice (some ⟨w.heap.size, 0, none⟩) xs.length xs.length) xs.length ((xs.take k).flatMap Enc.cells ++ r) ∧ Le w wr) (fun i _ => xs.length - (intOf i).toNat)
  case atStart => exact ⟨0, _, Nat.zero_le _, rfl, by simp [madeCells], hown1, hl1⟩
  case round =>
    obtain ⟨k, r, hk, rfl, hr, hown, hle⟩ := hrel
    have hRr := hR.le hle
    clear hR hown1 hg1 hl1
    by_cases hlt : k < xs.length
    · obtain ⟨b, off, rfl, hb, hcell0, hcell1, hcell2, hcell3, _⟩ := hRr.prt_at hlt
      match r, hr with
      | [], h => simp at h; omega
      | [_], h => simp at h; omega
      | [_, _], h => simp at h; omega
      | [_, _, _], h => simp at h; omega
      | r0 :: r1 :: r2 :: r3 :: rr, hr =>
      have hfl : ((xs.take k).flatMap (Enc.cells (α := Prt))).length = k * 4 := by rw [flat_len, List.length_take]; show _ * 4 = _; rw [Nat.min_eq_left (by omega)]
      go_wp2_with fail
      refine (toPart_any xs[k] _).mono ?_
      rintro e w2 ⟨rfl, hw2⟩
      have hown2 := own_le hown hw2
      have hc0 : w2.cell? ⟨w.heap.size, k * 4, none⟩ = some r0 := by rw [hown2.cellAt _ (by omega), List.getElem?_append_right (by omega), hfl]; simp
      have hc1 : w2.cell? ⟨w.heap.size, k * 4 + 1, none⟩ = some r1 := by rw [hown2.cellAt _ (by omega), List.getElem?_append_right (by omega), hfl]; simp
      have hc2 : w2.cell? ⟨w.heap.size, k * 4 + 2, none⟩ = some r2 := by rw [hown2.cellAt _ (by omega), List.getElem?_append_right (by omega), hfl]; simp
      have hc3 : w2.cell? ⟨w.heap.size, k * 4 + 3, none⟩ = some r3 := by rw [hown2.cellAt _ (by omega), List.getElem?_append_right (by omega), hfl]; simp
      have hf0 := hown2.frozenAt (k * 4)
      have hf1 := hown2.frozenAt (k * 4 + 1)
      have hf2 := hown2.frozenAt (k * 4 + 2)
      have hf3 := hown2.frozenAt (k * 4 + 3)
      go_wp2
      go_roundw
      case rel =>
        refine ⟨k + 1, rr, by omega, by go_num, by simp at hr; omega, ?_, (hle.trans hw2).setCell (Nat.le_refl _) _ |>.setCell (Nat.le_refl _) _ |>.setCell (Nat.le_refl _) _ |>.setCell (Nat.le_refl _) _⟩
        have h1 := ((((hown2.stored (k * 4) (.int .i64 xs[k].depth)).1.stored (k * 4 + 1) (.bool xs[k].group)).1.stored (k * 4 + 2) (.int .i64 xs[k].cls)).1.stored (k * 4 + 3) (.int .i64 xs[k].code)).1
        have e : (xs.take (k + 1)).flatMap Enc.cells ++ rr = ((((((xs.take k).flatMap Enc.cells ++ r0 :: r1 :: r2 :: r3 :: rr).set (k * 4) (.int .i64 xs[k].depth)).set (k * 4 + 1) (.bool xs[k].group)).set (k * 4 + 2) (.int .i64 xs[k].cls)).set (k * 4 + 3) (.int .i64 xs[k].code)) := by
          rw [List.take_succ_eq_append_getElem hlt, List.flatMap_append, List.set_append_right _ _ (by omega), List.set_append_right _ _ (by omega), List.set_append_right _ _ (by omega), List.set_append_right _ _ (by omega), hfl]
          simp [Enc.cells]
        rw [e]; exact h1
      case measure => simp [intOf]; omega
    · have hk' : k = xs.length := by omega
      have hr0 : r = [] := List.eq_nil_of_length_eq_zero (by rw [hr, hk']; simp)
      have HO : Hid (wr.ownsRow w.heap.size 70 4 (.slice (some ⟨w.heap.size, 0, none⟩) xs.length xs.length) xs.length (xs.flatMap Enc.cells)) := by
        show World.ownsRow _ _ _ _ _ _ _
        rw [hk', hr0] at hown; simpa using hown
      clear hk' hr0 hr hown
      go_wp2
      go_ret
      exact ⟨rfl, HO.out, hle⟩

theorem eqPart_self (x : Prt) (w : World) : Calls Try.prog 57 #[.agg #[.int .i64 x.depth, .bool x.group, .int .i64 x.cls, .int .i64 x.code], .agg #[.int .i64 x.depth, .bool x.group, .int .i64 x.cls, .int .i64 x.code]] w fun e w' => e = .returned (.bool true) ∧ Le w w' := by
  go_enter Try.func57, Try.ntmps57
  go_wp2
  go_ret
  exact ⟨rfl, (Le.new w _).alloc _⟩

theorem eqPartS_self (A B : Option Addr) (n c d : Nat) (xs : List Prt) (w : World) (hR : Sl w A n c xs) (hS : Sl w B n d xs) :
    Calls Try.prog 19 #[.slice A n c, .slice B n d] w fun e w' => e = .returned (.bool true) ∧ Le w w' := by
  obtain rfl := hR.len
  have hm := hR.n_le
  have hb : ((xs.length : Int) != (xs.length : Int)) = false := by simp
  go_enter Try.func19, Try.ntmps19
  go_wp2
  go_loopw [5] (fun i wr => ∃ k : Nat, k ≤ xs.length ∧ i = .int .i64 k ∧ Le w wr) (fun i _ => xs.length - (intOf i).toNat)
  case atStart => exact ⟨0, Nat.zero_le _, rfl, Le.refl _⟩
  case round =>
    obtain ⟨k, hk, rfl, hle⟩ := hrel
    have hRr := hR.le hle
    have hSr := hS.le hle
    clear hR hS
    by_cases hlt : k < xs.length
    · obtain ⟨b, off, rfl, hb, hcell0, hcell1, hcell2, hcell3, _⟩ := hRr.prt_at hlt
      obtain ⟨b2, off2, rfl, hb2, hdell0, hdell1, hdell2, hdell3, _⟩ := hSr.prt_at hlt
      have E0 := cell_ext hb hcell0
      have E1 := cell_ext hb hcell1
      have E2 := cell_ext hb hcell2
      have E3 := cell_ext hb hcell3
      have F0 := cell_ext hb2 hdell0
      have F1 := cell_ext hb2 hdell1
      have F2 := cell_ext hb2 hdell2
      have F3 := cell_ext hb2 hdell3
      go_wp2_with fail
      refine wp_region_ext (by kernel_rfl) (by kernel_rfl) ?_
      repeat (go_big_quiet_step (first | (go_at_call 57; exact Calls.ext_of (eqPart_self xs[k] _))))
      refine wpQuiet_nil ?_
      intro _ hw'
      obtain ⟨g, rfl⟩ := hw'
      have hw1 := Le.ext wr g
      generalize wr.ext g = W2 at *
      go_wp2
      go_roundw
      case rel => exact ⟨k + 1, by omega, by go_num, hle.trans hw1⟩
      case measure => simp [intOf]; omega
    · go_wp2
      go_ret
      exact ⟨rfl, hle⟩

def mPrt (k : Int) (i : Nat) : Prt := ⟨k + 4 * i, ((k + 4 * i + 1) % 3 == 0), k + 4 * i + 1 + 1, k + 4 * i + 1 + 1 + 1⟩

set_option maxHeartbeats 1000000 in
set_option maxRecDepth 100000 in
theorem markPartS_row (g n c : Nat) (xs : List Value) (q : Int) (w : World) (base : Nat) (hR : w.ownsRow base 70 4 (.slice (some ⟨g, 0, none⟩) n c) n xs) (h0 : 1 ≤ q) (h1 : q ≤ 1000000000) (hn : n ≤ 1048576) :
    Calls Try.prog 21 #[.slice (some ⟨g, 0, none⟩) n c, .int .i64 q] w fun e w' => e = .returned (.int .i64 (q + 4 * n)) ∧ w'.ownsRow base 70 4 (.slice (some ⟨g, 0, none⟩) n c) n (((List.range n).map (mPrt q)).flatMap Enc.cells) ∧ w.grownBy w' (some g) := by
  go_enter Try.func21, Try.ntmps21
  go_wp2
  have hin := hR.1
  go_loopw [1, 5] (fun z i wr => ∃ k : Nat, ∃ r : List Value, k ≤ n ∧ i = .int .i64 k ∧ z = .int .i64 (q + 4 * k) ∧ r.length = (n - k) * 4 ∧ wr.ownsRow base 70 4 (.slice (some ⟨g, 0, none⟩) n c) n (((List.range k).map (mPrt q)).flatMap Enc.cells ++ r) ∧ w.grownBy wr (some g)) (fun _ i _ => n - (intOf i).toNat)
  case atStart => exact ⟨0, xs, Nat.zero_le _, rfl, by simp, by omega, by simpa using hR, World.grownBy.refl w _⟩
  case round =>
    obtain ⟨k, r, hk, rfl, rfl, hr, hown, hgr⟩ := hrel
    clear hR hin
    by_cases hlt : k < n
    · match r, hr with
      | [], h => simp at h; omega
      | [_], h => simp at h; omega
      | [_, _], h => simp at h; omega
      | [_, _, _], h => simp at h; omega
      | r0 :: r1 :: r2 :: r3 :: rr, hr =>
      have hfl : ((((List.range k).map (mPrt q)).flatMap (Enc.cells (α := Prt)))).length = k * 4 := by rw [flat_len, List.length_map, List.length_range]; rfl
      have hc0 : wr.cell? ⟨g, k * 4, none⟩ = some r0 := by rw [hown.cellAt _ (by omega), List.getElem?_append_right (by omega), hfl]; simp
      have hc1 : wr.cell? ⟨g, k * 4 + 1, none⟩ = some r1 := by rw [hown.cellAt _ (by omega), List.getElem?_append_right (by omega), hfl]; simp
      have hc2 : wr.cell? ⟨g, k * 4 + 2, none⟩ = some r2 := by rw [hown.cellAt _ (by omega), List.getElem?_append_right (by omega), hfl]; simp
      have hc3 : wr.cell? ⟨g, k * 4 + 3, none⟩ = some r3 := by rw [hown.cellAt _ (by omega), List.getElem?_append_right (by omega), hfl]; simp
      have hf0 := hown.frozenAt (k * 4)
      have hf1 := hown.frozenAt (k * 4 + 1)
      have hf2 := hown.frozenAt (k * 4 + 2)
      have hf3 := hown.frozenAt (k * 4 + 3)
      have HFL := Lib.hid hfl; clear hfl
      go_wp2
      go_roundw
      case rel =>
        refine ⟨k + 1, rr, by omega, by go_num, by congr 1; omega, by simp at hr; omega, ?_, ?_⟩
        · have h1 := ((((hown.stored (k * 4) (.int .i64 (q + 4 * k))).1.stored (k * 4 + 1) (.bool ((q + 4 * k + 1) % 3 == 0))).1.stored (k * 4 + 2) (.int .i64 (q + 4 * k + 1 + 1))).1.stored (k * 4 + 3) (.int .i64 (q + 4 * k + 1 + 1 + 1))).1
          have e : ((List.range (k + 1)).map (mPrt q)).flatMap Enc.cells ++ rr = (((((((List.range k).map (mPrt q)).flatMap Enc.cells ++ r0 :: r1 :: r2 :: r3 :: rr).set (k * 4) (.int .i64 (q + 4 * k))).set (k * 4 + 1) (.bool ((q + 4 * k + 1) % 3 == 0))).set (k * 4 + 2) (.int .i64 (q + 4 * k + 1 + 1))).set (k * 4 + 3) (.int .i64 (q + 4 * k + 1 + 1 + 1))) := by
            rw [List.set_append_right _ _ (by have := HFL.out; omega), List.set_append_right _ _ (by have := HFL.out; omega), List.set_append_right _ _ (by have := HFL.out; omega), List.set_append_right _ _ (by have := HFL.out; omega), HFL.out, List.range_succ, List.map_append, List.flatMap_append]
            simp [Enc.cells, mPrt]
          rw [e]; exact h1
        · exact (gx_set (gx_set (gx_set (gx_set hgr _) _) _) _)
      case measure => simp [intOf]; omega
    · have he : k = n := by omega
      have hr0 : r = [] := List.eq_nil_of_length_eq_zero (by rw [hr, he]; simp)
      subst he
      have HO : Hid (wr.ownsRow base 70 4 (.slice (some ⟨g, 0, none⟩) k c) k (((List.range k).map (mPrt q)).flatMap Enc.cells)) := by
        show World.ownsRow _ _ _ _ _ _ _
        rw [hr0] at hown; simpa using hown
      clear hown hr0 hr
      go_wp2
      go_ret
      exact ⟨rfl, HO.out, hgr⟩

theorem markPartS_any (A : Option Addr) (n c : Nat) (xs : List Value) (q : Int) (w : World) (base : Nat) (hR : w.ownsRow base 70 4 (.slice A n c) n xs) (h0 : 1 ≤ q) (h1 : q ≤ 1000000000) (hn : n ≤ 1048576) :
    Calls Try.prog 21 #[.slice A n c, .int .i64 q] w fun e w' => e = .returned (.int .i64 (q + 4 * n)) ∧ w'.ownsRow base 70 4 (.slice A n c) n (((List.range n).map (mPrt q)).flatMap Enc.cells) ∧ w.grownBy w' (Value.slice A n c).ownBlock := by
  rcases hR.2 with ⟨h, h0'⟩ | ⟨g, c', _, h, _⟩
  · simp only [Value.slice.injEq] at h
    obtain ⟨rfl, rfl, rfl⟩ := h
    go_enter Try.func21, Try.ntmps21
    go_wp2
    refine wp_loop_rounds 1 ?_
    rw [rounds_succ]
    go_wp2
    go_ret
    exact ⟨by simp, World.ownsRow_nil w base 70 4, World.grownBy.refl w _⟩
  · simp only [Value.slice.injEq, true_and] at h
    obtain ⟨rfl, rfl⟩ := h
    exact markPartS_row g n c xs q w base hR h0 h1 hn

theorem mPrt_ok {q : Int} (h0 : 1 ≤ q) (h1 : q ≤ 1000000000) {n : Nat} (hn : n ≤ 1048576) : ∀ x ∈ (List.range n).map (mPrt q), Enc.ok x := by
  intro x hx
  simp at hx
  obtain ⟨i, hi, rfl⟩ := hx
  exact ⟨by show _ ≤ _; simp only [mPrt]; omega, by show _ ≤ _; simp only [mPrt]; omega, by show _ ≤ _; simp only [mPrt]; omega, by show _ ≤ _; simp only [mPrt]; omega, by show _ ≤ _; simp only [mPrt]; omega, by show _ ≤ _; simp only [mPrt]; omega⟩

theorem heldPartS_any (A : Option Addr) (n c : Nat) (q : Int) (w : World) (hR : Sl w A n c ((List.range n).map (mPrt q))) (h0 : 1 ≤ q) (h1 : q ≤ 1000000000) (hn : n ≤ 1048576) :
    Calls Try.prog 28 #[.slice A n c, .int .i64 q] w fun e w' => e = .returned (.int .i64 (q + 4 * n)) ∧ Le w w' := by
  have hl : ((List.range n).map (mPrt q)).length = n := by simp
  have HL := Lib.hid hl; clear hl
  go_enter Try.func28, Try.ntmps28
  go_wp2
  go_loopw [1, 5] (fun z i wr => ∃ k : Nat, k ≤ n ∧ i = .int .i64 k ∧ z = .int .i64 (q + 4 * k) ∧ Le w wr) (fun _ i _ => n - (intOf i).toNat)
  case atStart => exact ⟨0, Nat.zero_le _, rfl, by simp, Le.refl _⟩
  case round =>
    obtain ⟨k, hk, rfl, rfl, hle⟩ := hrel
    have hRr := hR.le hle
    clear hR
    by_cases hlt : k < n
    · obtain ⟨b, off, rfl, hb, hcell0, hcell1, hcell2, hcell3, _⟩ := hRr.prt_at (k := k) (by rw [HL.out]; exact hlt)
      have hx : ((List.range n).map (mPrt q))[k]'(by rw [HL.out]; exact hlt) = mPrt q k := by simp
      rw [hx] at hcell0 hcell1 hcell2 hcell3
      simp only [mPrt] at hcell0 hcell1 hcell2 hcell3
      clear hx
      go_wp2
      go_roundw
      case rel => exact ⟨k + 1, by omega, by go_num, by congr 1; omega, hle⟩
      case measure => simp [intOf]; omega
    · have he : k = n := by omega
      subst he
      go_wp2
      go_ret
      exact ⟨rfl, hle⟩

theorem szPartS_any (A : Option Addr) (n cap : Nat) (xs : List Prt) (left : Int) (w : World) (hR : Sl w A n cap xs) (h0 : 0 ≤ left) (h1 : left ≤ 1048576) :
    Calls Try.prog 12 #[.slice A n cap, .int .i64 left] w (SzOut left n w) := by
  have hm := hR.n_le
  by_cases h : left - n < 0
  · go_enter Try.func12, Try.ntmps12
    go_wp2
    go_ret
    exact ⟨-1, rfl, .inl rfl, Le.refl w⟩
  · go_enter Try.func12, Try.ntmps12
    go_wp2
    go_ret
    exact ⟨_, rfl, .inr ⟨by omega, by omega, by omega⟩, Le.refl w⟩

end Go.Proofs.Ytpdggodmiliijaa
