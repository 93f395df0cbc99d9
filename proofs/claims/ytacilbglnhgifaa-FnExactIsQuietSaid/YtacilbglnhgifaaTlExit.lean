import Derived.Test.YtacilbglnhgifaaTyExit
import Derived.Test.YtacilbglnhgifaaTL
namespace Go.Proofs.Ytacilbglnhgifaa
open Go.RowKit

theorem infoExit : (Try.prog.info? 61).map (fun i => (i.zero, i.size, i.bytes)) = some (some (.agg #[.int .i64 0, .int .i64 0, .int .i64 0]), 3, 24) := by kernel_rfl
theorem toExit_any (x : Xit) (w : World) :
    Calls Try.prog 31 #[.agg #[.int .i64 x.kind, .int .i64 x.a, .int .i64 x.b]] w fun e w' => e = .returned (.agg #[.int .i64 x.kind, .int .i64 x.a, .int .i64 x.b]) ∧ Le w w' := by
  go_enter Try.func31, Try.ntmps31
  go_wp2
  exact bodyPost_ret (v := .agg #[.int .i64 x.kind, .int .i64 x.a, .int .i64 x.b]) (by simp [results, Try.results31, go_sem]) rfl ⟨rfl, ((Le.new w _).alloc _).alloc _⟩

set_option maxRecDepth 100000 in
theorem toExitS_any (A : Option Addr) (n cap : Nat) (xs : List Xit) (w : World) (hR : Sl w A n cap xs) (hn : n ≤ 1048576) :
    Calls Try.prog 10 #[.slice A n cap] w fun e w' => e = .returned (.slice (some ⟨w.heap.size, 0, none⟩) n n) ∧ w'.ownsRow w.heap.size 61 3 (.slice (some ⟨w.heap.size, 0, none⟩) n n) n (xs.flatMap Enc.cells) ∧ Le w w' := by
  obtain rfl := hR.len
  obtain ⟨i0, hi, hz0, hz1, hz2⟩ := info_parts infoExit
  have hb2 : i0.bytes * xs.length ≤ 281474976710656 := by rw [hz2]; omega
  go_enter Try.func10, Try.ntmps10
  go_wp2_with (refine wpList_make_full _ rfl _ _ 41 rfl w.heap.size 61 i0 _ 3 Try.underlying41 hi hz0 hz1 .i64 .i64 _ _ xs.length rfl rfl rfl rfl hb2 (by unfold maxLen; omega) (Nat.le_refl _) ?_; intro w1 hown1 hg1)
  have hl1 := (Le.refl w).grown hg1 (by intro k hk; cases hk)
  go_loopw [4] (fun i wr => ∃ k : Nat, ∃ r : List Value, k ≤ xs.length ∧ i = .int .i64 k ∧ r.length = (xs.length - k) * 3 ∧ wr.ownsRow w.heap.size 61 3 (.slice (some ⟨w.heap.size, 0, none⟩) xs.length xs.length) xs.length ((xs.take k).flatMap Enc.cells ++ r) ∧ Le w wr) (fun i _ => xs.length - (intOf i).toNat)
  case atStart => exact ⟨0, _, Nat.zero_le _, rfl, by simp [madeCells], hown1, hl1⟩
  case round =>
    obtain ⟨k, r, hk, rfl, hr, hown, hle⟩ := hrel
    have hRr := hR.le hle
    clear hR hown1 hg1 hl1
    by_cases hlt : k < xs.length
    · obtain ⟨b, off, rfl, hb, hcell0, hcell1, hcell2, _⟩ := hRr.xit_at hlt
      match r, hr with
      | [], h => simp at h; omega
      | [_], h => simp at h; omega
      | [_, _], h => simp at h; omega
      | r0 :: r1 :: r2 :: rr, hr =>
      have hfl : ((xs.take k).flatMap (Enc.cells (α := Xit))).length = k * 3 := by rw [flat_len, List.length_take]; show _ * 3 = _; rw [Nat.min_eq_left (by omega)]
      go_wp2_with fail
      refine (toExit_any xs[k] _).mono ?_
      rintro e w2 ⟨rfl, hw2⟩
      have hown2 := own_le hown hw2
      have hc0 : w2.cell? ⟨w.heap.size, k * 3, none⟩ = some r0 := by rw [hown2.cellAt _ (by omega), List.getElem?_append_right (by omega), hfl]; simp
      have hc1 : w2.cell? ⟨w.heap.size, k * 3 + 1, none⟩ = some r1 := by rw [hown2.cellAt _ (by omega), List.getElem?_append_right (by omega), hfl]; simp
      have hc2 : w2.cell? ⟨w.heap.size, k * 3 + 2, none⟩ = some r2 := by rw [hown2.cellAt _ (by omega), List.getElem?_append_right (by omega), hfl]; simp
      have hf0 := hown2.frozenAt (k * 3)
      have hf1 := hown2.frozenAt (k * 3 + 1)
      have hf2 := hown2.frozenAt (k * 3 + 2)
      go_wp2
      go_roundw
      case rel =>
        refine ⟨k + 1, rr, by omega, by go_num, by simp at hr; omega, ?_, (hle.trans hw2).setCell (Nat.le_refl _) _ |>.setCell (Nat.le_refl _) _ |>.setCell (Nat.le_refl _) _⟩
        have h1 := (((hown2.stored (k * 3) (.int .i64 xs[k].kind)).1.stored (k * 3 + 1) (.int .i64 xs[k].a)).1.stored (k * 3 + 2) (.int .i64 xs[k].b)).1
        have e : (xs.take (k + 1)).flatMap Enc.cells ++ rr = (((((xs.take k).flatMap Enc.cells ++ r0 :: r1 :: r2 :: rr).set (k * 3) (.int .i64 xs[k].kind)).set (k * 3 + 1) (.int .i64 xs[k].a)).set (k * 3 + 2) (.int .i64 xs[k].b)) := by
          rw [List.take_succ_eq_append_getElem hlt, List.flatMap_append, List.set_append_right _ _ (by omega), List.set_append_right _ _ (by omega), List.set_append_right _ _ (by omega), hfl]
          simp [Enc.cells]
        rw [e]; exact h1
      case measure => simp [intOf]; omega
    · have hk' : k = xs.length := by omega
      have hr0 : r = [] := List.eq_nil_of_length_eq_zero (by rw [hr, hk']; simp)
      have HO : Hid (wr.ownsRow w.heap.size 61 3 (.slice (some ⟨w.heap.size, 0, none⟩) xs.length xs.length) xs.length (xs.flatMap Enc.cells)) := by
        show World.ownsRow _ _ _ _ _ _ _
        rw [hk', hr0] at hown; simpa using hown
      clear hk' hr0 hr hown
      go_wp2
      go_ret
      exact ⟨rfl, HO.out, hle⟩

theorem eqExit_self (x : Xit) (w : World) : Calls Try.prog 38 #[.agg #[.int .i64 x.kind, .int .i64 x.a, .int .i64 x.b], .agg #[.int .i64 x.kind, .int .i64 x.a, .int .i64 x.b]] w fun e w' => e = .returned (.bool true) ∧ Le w w' := by
  go_enter Try.func38, Try.ntmps38
  go_wp2
  go_ret
  exact ⟨rfl, (Le.new w _).alloc _⟩

theorem eqExitS_self (A B : Option Addr) (n c d : Nat) (xs : List Xit) (w : World) (hR : Sl w A n c xs) (hS : Sl w B n d xs) :
    Calls Try.prog 15 #[.slice A n c, .slice B n d] w fun e w' => e = .returned (.bool true) ∧ Le w w' := by
  obtain rfl := hR.len
  have hm := hR.n_le
  have hb : ((xs.length : Int) != (xs.length : Int)) = false := by simp
  go_enter Try.func15, Try.ntmps15
  go_wp2
  go_loopw [5] (fun i wr => ∃ k : Nat, k ≤ xs.length ∧ i = .int .i64 k ∧ Le w wr) (fun i _ => xs.length - (intOf i).toNat)
  case atStart => exact ⟨0, Nat.zero_le _, rfl, Le.refl _⟩
  case round =>
    obtain ⟨k, hk, rfl, hle⟩ := hrel
    have hRr := hR.le hle
    have hSr := hS.le hle
    clear hR hS
    by_cases hlt : k < xs.length
    · obtain ⟨b, off, rfl, hb, hcell0, hcell1, hcell2, _⟩ := hRr.xit_at hlt
      obtain ⟨b2, off2, rfl, hb2, hdell0, hdell1, hdell2, _⟩ := hSr.xit_at hlt
      have E0 := cell_ext hb hcell0
      have E1 := cell_ext hb hcell1
      have E2 := cell_ext hb hcell2
      have F0 := cell_ext hb2 hdell0
      have F1 := cell_ext hb2 hdell1
      have F2 := cell_ext hb2 hdell2
      go_wp2_with fail
      refine wp_region_ext (by kernel_rfl) (by kernel_rfl) ?_
      repeat (go_big_quiet_step (first | (go_at_call 38; exact Calls.ext_of (eqExit_self xs[k] _))))
      refine wpQuiet_nil ?_
      intro _ hw'
      obtain ⟨g, rfl⟩ := hw'
      have hw1 := Le.ext wr g
      generalize wr.ext g = W2 at *
      go_wp2
      go_roundw
      case rel => exact ⟨k + 1, by omega, by go_num, hle.trans hw1⟩
      case measure => simp [intOf]; omega
    · go_wp2
      go_ret
      exact ⟨rfl, hle⟩

def mXit (k : Int) (i : Nat) : Xit := ⟨k + 3 * i, k + 3 * i + 1, k + 3 * i + 1 + 1⟩

set_option maxHeartbeats 1000000 in
set_option maxRecDepth 100000 in
theorem markExitS_row (g n c : Nat) (xs : List Value) (q : Int) (w : World) (base : Nat) (hR : w.ownsRow base 61 3 (.slice (some ⟨g, 0, none⟩) n c) n xs) (h0 : 1 ≤ q) (h1 : q ≤ 1000000000) (hn : n ≤ 1048576) :
    Calls Try.prog 17 #[.slice (some ⟨g, 0, none⟩) n c, .int .i64 q] w fun e w' => e = .returned (.int .i64 (q + 3 * n)) ∧ w'.ownsRow base 61 3 (.slice (some ⟨g, 0, none⟩) n c) n (((List.range n).map (mXit q)).flatMap Enc.cells) ∧ w.grownBy w' (some g) := by
  go_enter Try.func17, Try.ntmps17
  go_wp2
  have hin := hR.1
  go_loopw [1, 5] (fun z i wr => ∃ k : Nat, ∃ r : List Value, k ≤ n ∧ i = .int .i64 k ∧ z = .int .i64 (q + 3 * k) ∧ r.length = (n - k) * 3 ∧ wr.ownsRow base 61 3 (.slice (some ⟨g, 0, none⟩) n c) n (((List.range k).map (mXit q)).flatMap Enc.cells ++ r) ∧ w.grownBy wr (some g)) (fun _ i _ => n - (intOf i).toNat)
  case atStart => exact ⟨0, xs, Nat.zero_le _, rfl, by simp, by omega, by simpa using hR, World.grownBy.refl w _⟩
  case round =>
    obtain ⟨k, r, hk, rfl, rfl, hr, hown, hgr⟩ := hrel
    clear hR hin
    by_cases hlt : k < n
    · match r, hr with
      | [], h => simp at h; omega
      | [_], h => simp at h; omega
      | [_, _], h => simp at h; omega
      | r0 :: r1 :: r2 :: rr, hr =>
      have hfl : ((((List.range k).map (mXit q)).flatMap (Enc.cells (α := Xit)))).length = k * 3 := by rw [flat_len, List.length_map, List.length_range]; rfl
      have hc0 : wr.cell? ⟨g, k * 3, none⟩ = some r0 := by rw [hown.cellAt _ (by omega), List.getElem?_append_right (by omega), hfl]; simp
      have hc1 : wr.cell? ⟨g, k * 3 + 1, none⟩ = some r1 := by rw [hown.cellAt _ (by omega), List.getElem?_append_right (by omega), hfl]; simp
      have hc2 : wr.cell? ⟨g, k * 3 + 2, none⟩ = some r2 := by rw [hown.cellAt _ (by omega), List.getElem?_append_right (by omega), hfl]; simp
      have hf0 := hown.frozenAt (k * 3)
      have hf1 := hown.frozenAt (k * 3 + 1)
      have hf2 := hown.frozenAt (k * 3 + 2)
      have HFL := Lib.hid hfl; clear hfl
      go_wp2
      go_roundw
      case rel =>
        refine ⟨k + 1, rr, by omega, by go_num, by congr 1; omega, by simp at hr; omega, ?_, ?_⟩
        · have h1 := (((hown.stored (k * 3) (.int .i64 (q + 3 * k))).1.stored (k * 3 + 1) (.int .i64 (q + 3 * k + 1))).1.stored (k * 3 + 2) (.int .i64 (q + 3 * k + 1 + 1))).1
          have e : ((List.range (k + 1)).map (mXit q)).flatMap Enc.cells ++ rr = ((((((List.range k).map (mXit q)).flatMap Enc.cells ++ r0 :: r1 :: r2 :: rr).set (k * 3) (.int .i64 (q + 3 * k))).set (k * 3 + 1) (.int .i64 (q + 3 * k + 1))).set (k * 3 + 2) (.int .i64 (q + 3 * k + 1 + 1))) := by
            rw [List.set_append_right _ _ (by have := HFL.out; omega), List.set_append_right _ _ (by have := HFL.out; omega), List.set_append_right _ _ (by have := HFL.out; omega), HFL.out, List.range_succ, List.map_append, List.flatMap_append]
            simp [Enc.cells, mXit]
          rw [e]; exact h1
        · exact (gx_set (gx_set (gx_set hgr _) _) _)
      case measure => simp [intOf]; omega
    · have he : k = n := by omega
      have hr0 : r = [] := List.eq_nil_of_length_eq_zero (by rw [hr, he]; simp)
      subst he
      have HO : Hid (wr.ownsRow base 61 3 (.slice (some ⟨g, 0, none⟩) k c) k (((List.range k).map (mXit q)).flatMap Enc.cells)) := by
        show World.ownsRow _ _ _ _ _ _ _
        rw [hr0] at hown; simpa using hown
      clear hown hr0 hr
      go_wp2
      go_ret
      exact ⟨rfl, HO.out, hgr⟩

theorem markExitS_any (A : Option Addr) (n c : Nat) (xs : List Value) (q : Int) (w : World) (base : Nat) (hR : w.ownsRow base 61 3 (.slice A n c) n xs) (h0 : 1 ≤ q) (h1 : q ≤ 1000000000) (hn : n ≤ 1048576) :
    Calls Try.prog 17 #[.slice A n c, .int .i64 q] w fun e w' => e = .returned (.int .i64 (q + 3 * n)) ∧ w'.ownsRow base 61 3 (.slice A n c) n (((List.range n).map (mXit q)).flatMap Enc.cells) ∧ w.grownBy w' (Value.slice A n c).ownBlock := by
  rcases hR.2 with ⟨h, h0'⟩ | ⟨g, c', _, h, _⟩
  · simp only [Value.slice.injEq] at h
    obtain ⟨rfl, rfl, rfl⟩ := h
    go_enter Try.func17, Try.ntmps17
    go_wp2
    refine wp_loop_rounds 1 ?_
    rw [rounds_succ]
    go_wp2
    go_ret
    exact ⟨by simp, World.ownsRow_nil w base 61 3, World.grownBy.refl w _⟩
  · simp only [Value.slice.injEq, true_and] at h
    obtain ⟨rfl, rfl⟩ := h
    exact markExitS_row g n c xs q w base hR h0 h1 hn

theorem mXit_ok {q : Int} (h0 : 1 ≤ q) (h1 : q ≤ 1000000000) {n : Nat} (hn : n ≤ 1048576) : ∀ x ∈ (List.range n).map (mXit q), Enc.ok x := by
  intro x hx
  simp at hx
  obtain ⟨i, hi, rfl⟩ := hx
  exact ⟨by show _ ≤ _; simp only [mXit]; omega, by show _ ≤ _; simp only [mXit]; omega, by show _ ≤ _; simp only [mXit]; omega, by show _ ≤ _; simp only [mXit]; omega, by show _ ≤ _; simp only [mXit]; omega, by show _ ≤ _; simp only [mXit]; omega⟩

theorem szExitS_any (A : Option Addr) (n cap : Nat) (xs : List Xit) (left : Int) (w : World) (hR : Sl w A n cap xs) (h0 : 0 ≤ left) (h1 : left ≤ 1048576) :
    Calls Try.prog 7 #[.slice A n cap, .int .i64 left] w (SzOut left n w) := by
  have hm := hR.n_le
  by_cases h : left - n < 0
  · go_enter Try.func7, Try.ntmps7
    go_wp2
    go_ret
    exact ⟨-1, rfl, .inl rfl, Le.refl w⟩
  · go_enter Try.func7, Try.ntmps7
    go_wp2
    go_ret
    exact ⟨_, rfl, .inr ⟨by omega, by omega, by omega⟩, Le.refl w⟩

end Go.Proofs.Ytacilbglnhgifaa
