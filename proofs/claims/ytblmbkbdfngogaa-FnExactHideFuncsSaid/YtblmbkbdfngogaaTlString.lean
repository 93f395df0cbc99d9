import Derived.Test.YtblmbkbdfngogaaTyStr
import Derived.Test.YtblmbkbdfngogaaTM
namespace Go.Proofs.Ytblmbkbdfngogaa
open Go.RowKit

theorem infoString : (Try.prog.info? 9).map (fun i => (i.zero, i.size, i.bytes)) = some (some (.string ByteArray.empty), 1, 16) := by kernel_rfl
theorem Sl.str_ok {w : World} {A : Option Addr} {n cap : Nat} {xs : List ByteArray} (h : Sl w A n cap xs) {k : Nat} (hk : k < xs.length) : xs[k].size ≤ 9223372036854775807 := h.ok xs[k] (List.getElem_mem hk)
set_option maxRecDepth 100000 in
theorem toStringS_any (A : Option Addr) (n cap : Nat) (xs : List ByteArray) (w : World) (hR : Sl w A n cap xs) (hn : n ≤ 1048576) :
    Calls Try.prog 29 #[.slice A n cap] w fun e w' => e = .returned (.slice (some ⟨w.heap.size, 0, none⟩) n n) ∧ w'.ownsRow w.heap.size 9 1 (.slice (some ⟨w.heap.size, 0, none⟩) n n) n (xs.flatMap Enc.cells) ∧ Le w w' := by
  obtain rfl := hR.len
  obtain ⟨i0, hi, hz0, hz1, hz2⟩ := info_parts infoString
  have hb2 : i0.bytes * xs.length ≤ 281474976710656 := by rw [hz2]; omega
  go_enter Try.func29, Try.ntmps29
  go_wp2_with (refine wpList_make_full _ rfl _ _ 40 rfl w.heap.size 9 i0 _ 1 Try.underlying40 hi hz0 hz1 .i64 .i64 _ _ xs.length rfl rfl rfl rfl hb2 (by unfold maxLen; omega) (Nat.le_refl _) ?_; intro w1 hown1 hg1)
  have hl1 := (Le.refl w).grown hg1 (by intro k hk; cases hk)
  go_loopw [4] (fun i wr => ∃ k : Nat, ∃ r : List Value, k ≤ xs.length ∧ i = .int .i64 k ∧ r.length = xs.length - k ∧ wr.ownsRow w.heap.size 9 1 (.slice (some ⟨w.heap.size, 0, none⟩) xs.length xs.length) xs.length ((xs.take k).flatMap Enc.cells ++ r) ∧ Le w wr) (fun i _ => xs.length - (intOf i).toNat)
  case atStart => exact ⟨0, _, Nat.zero_le _, rfl, by simp [madeCells], hown1, hl1⟩
  case round =>
    obtain ⟨k, r, hk, rfl, hr, hown, hle⟩ := hrel
    have hRr := hR.le hle
    clear hR hown1 hg1 hl1
    by_cases hlt : k < xs.length
    · obtain ⟨b, off, rfl, hb, hcell0⟩ := hRr.str_at hlt
      match r, hr with
      | [], h => simp at h; omega
      | r0 :: rr, hr =>
      have hfl : ((xs.take k).flatMap (Enc.cells (α := ByteArray))).length = k := by rw [flat_len, List.length_take]; show _ * 1 = _; rw [Nat.min_eq_left (by omega)]; omega
      have hc0 : wr.cell? ⟨w.heap.size, k, none⟩ = some r0 := by rw [hown.cellAt _ (by omega), List.getElem?_append_right (by omega), hfl]; simp
      have hf0 := hown.frozenAt k
      go_wp2
      all_goals
        go_roundw
        case rel =>
          refine ⟨k + 1, rr, by omega, by go_num, by simp at hr; omega, ?_, hle.setCell (Nat.le_refl _) _⟩
          have h1 := (hown.stored k (.string xs[k])).1
          have e : (xs.take (k + 1)).flatMap Enc.cells ++ rr = ((xs.take k).flatMap Enc.cells ++ r0 :: rr).set k (.string xs[k]) := by
            rw [List.take_succ_eq_append_getElem hlt, List.flatMap_append, List.set_append_right _ _ (by omega), hfl]
            simp [Enc.cells]
          rw [e]; exact h1
        case measure => simp [intOf]; omega
    · have hk' : k = xs.length := by omega
      have hr0 : r = [] := List.eq_nil_of_length_eq_zero (by rw [hr, hk']; simp)
      have HO : Hid (wr.ownsRow w.heap.size 9 1 (.slice (some ⟨w.heap.size, 0, none⟩) xs.length xs.length) xs.length (xs.flatMap Enc.cells)) := by
        show World.ownsRow _ _ _ _ _ _ _
        rw [hk', hr0] at hown; simpa using hown
      clear hk' hr0 hr hown
      go_wp2
      go_ret
      exact ⟨rfl, HO.out, hle⟩

theorem eqStringS_self (A B : Option Addr) (n c d : Nat) (xs : List ByteArray) (w : World) (hR : Sl w A n c xs) (hS : Sl w B n d xs) :
    Calls Try.prog 31 #[.slice A n c, .slice B n d] w fun e w' => e = .returned (.bool true) ∧ Le w w' := by
  obtain rfl := hR.len
  have hm := hR.n_le
  have hb : ((xs.length : Int) != (xs.length : Int)) = false := by simp
  go_enter Try.func31, Try.ntmps31
  go_wp2
  go_loopw [5] (fun i wr => ∃ k : Nat, k ≤ xs.length ∧ i = .int .i64 k ∧ Le w wr) (fun i _ => xs.length - (intOf i).toNat)
  case atStart => exact ⟨0, Nat.zero_le _, rfl, Le.refl _⟩
  case round =>
    obtain ⟨k, hk, rfl, hle⟩ := hrel
    have hRr := hR.le hle
    have hSr := hS.le hle
    clear hR hS
    by_cases hlt : k < xs.length
    · obtain ⟨b, off, rfl, hb, hcell⟩ := hRr.str_at hlt
      obtain ⟨b2, off2, rfl, hb2, hcell3⟩ := hSr.str_at hlt
      have E1 := cell_ext hb hcell
      have E2 := cell_ext hb2 hcell3
      have he2 : (xs[k].toList != xs[k].toList) = false := by simp
      go_wp2_with fail
      refine wp_region_ext (by kernel_rfl) (by kernel_rfl) ?_
      repeat (go_big_quiet_step (fail))
      refine wpQuiet_nil ?_
      intro _ hw'
      obtain ⟨g, rfl⟩ := hw'
      have hw1 := Le.ext wr g
      generalize wr.ext g = W2 at *
      go_wp2
      go_roundw
      case rel => exact ⟨k + 1, by omega, by go_num, hle.trans hw1⟩
      case measure => simp [intOf]; omega
    · go_wp2
      go_ret
      exact ⟨rfl, hle⟩

def mStr (k : Int) (i : Nat) : ByteArray := mTxt (k + i)
set_option maxHeartbeats 1000000 in
set_option maxRecDepth 100000 in
theorem markStringS_row (g n c : Nat) (xs : List Value) (q : Int) (w : World) (base : Nat) (hR : w.ownsRow base 9 1 (.slice (some ⟨g, 0, none⟩) n c) n xs) (h0 : 1 ≤ q) (h1 : q ≤ 1000000000) (hn : n ≤ 1048576) :
    Calls Try.prog 32 #[.slice (some ⟨g, 0, none⟩) n c, .int .i64 q] w fun e w' => e = .returned (.int .i64 (q + n)) ∧ w'.ownsRow base 9 1 (.slice (some ⟨g, 0, none⟩) n c) n (((List.range n).map (mStr q)).flatMap Enc.cells) ∧ w.grownBy w' (some g) := by
  go_enter Try.func32, Try.ntmps32
  go_wp2
  have hin := hR.1
  go_loopw [1, 5] (fun z i wr => ∃ k : Nat, ∃ r : List Value, k ≤ n ∧ i = .int .i64 k ∧ z = .int .i64 (q + k) ∧ r.length = n - k ∧ wr.ownsRow base 9 1 (.slice (some ⟨g, 0, none⟩) n c) n (((List.range k).map (mStr q)).flatMap Enc.cells ++ r) ∧ w.grownBy wr (some g)) (fun _ i _ => n - (intOf i).toNat)
  case atStart => exact ⟨0, xs, Nat.zero_le _, rfl, by simp, by omega, by simpa using hR, World.grownBy.refl w _⟩
  case round =>
    obtain ⟨k, r, hk, rfl, rfl, hr, hown, hgr⟩ := hrel
    clear hR hin
    by_cases hlt : k < n
    · match r, hr with
      | [], h => simp at h; omega
      | r0 :: rr, hr =>
      have hfl : ((((List.range k).map (mStr q)).flatMap (Enc.cells (α := ByteArray)))).length = k := by rw [flat_len, List.length_map, List.length_range]; show k * 1 = k; omega
      have hc0 : wr.cell? ⟨g, k, none⟩ = some r0 := by rw [hown.cellAt _ (by omega), List.getElem?_append_right (by omega), hfl]; simp
      have HFL := Lib.hid hfl; clear hfl
      go_wp2_with fail
      refine (markText_any (q + k) _ (by omega) (by omega)).mono ?_
      rintro e w2 ⟨rfl, hsz, hw2⟩
      have hown2 := own_le hown hw2
      have hgl := own_lt hown
      have hd0 := (hw2.cell (b := g) (o := k) hgl).trans hc0
      have hg0 := hown2.frozenAt k
      clear hc0
      go_wp2
      go_roundw
      case rel =>
        refine ⟨k + 1, rr, by omega, by go_num, by congr 1; omega, by simp at hr; omega, ?_, gx_set (gx_le hgr hw2) _⟩
        have h1 := (hown2.stored k (.string (mTxt (q + k)))).1
        have e : ((List.range (k + 1)).map (mStr q)).flatMap Enc.cells ++ rr = (((List.range k).map (mStr q)).flatMap Enc.cells ++ r0 :: rr).set k (.string (mTxt (q + k))) := by
          rw [List.set_append_right _ _ (by have := HFL.out; omega), HFL.out, List.range_succ, List.map_append, List.flatMap_append]
          simp [Enc.cells, mStr]
        rw [e]; exact h1
      case measure => simp [intOf]; omega
    · have he : k = n := by omega
      have hr0 : r = [] := List.eq_nil_of_length_eq_zero (by omega)
      subst he
      have HO : Hid (wr.ownsRow base 9 1 (.slice (some ⟨g, 0, none⟩) k c) k (((List.range k).map (mStr q)).flatMap Enc.cells)) := by
        show World.ownsRow _ _ _ _ _ _ _
        rw [hr0] at hown; simpa using hown
      clear hown hr0
      go_wp2
      go_ret
      exact ⟨rfl, HO.out, hgr⟩
theorem markStringS_any (A : Option Addr) (n c : Nat) (xs : List Value) (q : Int) (w : World) (base : Nat) (hR : w.ownsRow base 9 1 (.slice A n c) n xs) (h0 : 1 ≤ q) (h1 : q ≤ 1000000000) (hn : n ≤ 1048576) :
    Calls Try.prog 32 #[.slice A n c, .int .i64 q] w fun e w' => e = .returned (.int .i64 (q + n)) ∧ w'.ownsRow base 9 1 (.slice A n c) n (((List.range n).map (mStr q)).flatMap Enc.cells) ∧ w.grownBy w' (Value.slice A n c).ownBlock := by
  rcases hR.2 with ⟨h, h0'⟩ | ⟨g, c', _, h, _⟩
  · simp only [Value.slice.injEq] at h
    obtain ⟨rfl, rfl, rfl⟩ := h
    go_enter Try.func32, Try.ntmps32
    go_wp2
    refine wp_loop_rounds 1 ?_
    rw [rounds_succ]
    go_wp2
    go_ret
    exact ⟨by simp, World.ownsRow_nil w base 9 1, World.grownBy.refl w _⟩
  · simp only [Value.slice.injEq, true_and] at h
    obtain ⟨rfl, rfl⟩ := h
    exact markStringS_row g n c xs q w base hR h0 h1 hn
theorem szStringS_any (A : Option Addr) (n cap : Nat) (xs : List ByteArray) (left : Int) (w : World) (hR : Sl w A n cap xs) (h0 : 0 ≤ left) (h1 : left ≤ 1048576) :
    Calls Try.prog 27 #[.slice A n cap, .int .i64 left] w (SzOut left n w) := by
  obtain rfl := hR.len
  have hm := hR.n_le
  by_cases h : left - xs.length < 0
  · go_enter Try.func27, Try.ntmps27
    go_wp2
    go_ret
    exact ⟨-1, rfl, .inl rfl, Le.refl w⟩
  · go_enter Try.func27, Try.ntmps27
    go_wp2
    go_loopw [1, 5] (fun lf i wr => ∃ k : Nat, ∃ r : Int, k ≤ xs.length ∧ i = .int .i64 k ∧ lf = .int .i64 r ∧ 0 ≤ r ∧ r ≤ left ∧ Le w wr) (fun _ i _ => xs.length - (intOf i).toNat)
    case atStart => exact ⟨0, left - xs.length, Nat.zero_le _, rfl, rfl, by omega, by omega, Le.refl _⟩
    case round =>
      obtain ⟨k, r, hk, rfl, rfl, hr0, hr1, hle⟩ := hrel
      have hRr := hR.le hle
      clear hR
      by_cases hlt : k < xs.length
      · have hs := hRr.str_ok hlt
        obtain ⟨b, off, rfl, hb, hcell0⟩ := hRr.str_at hlt
        by_cases hz : r - (xs[k].size : Int) < 0
        · go_wp2
          go_ret
          exact ⟨-1, rfl, .inl rfl, hle⟩
        · go_wp2
          go_roundw
          case rel => exact ⟨k + 1, r - (xs[k].size : Int), by omega, by go_num, rfl, by omega, by omega, hle⟩
          case measure => simp [intOf]; omega
      · go_wp2
        go_ret
        exact ⟨r, rfl, .inr ⟨hr0, by omega, by omega⟩, hle⟩
end Go.Proofs.Ytblmbkbdfngogaa
