import Derived.Test.YtlejfmhmpcimaaaTlInt
namespace Go.Proofs.Ytlejfmhmpcimaaa
open Go.RowKit
set_option maxRecDepth 100000 in
theorem toIntS_any (A : Option Addr) (n cap : Nat) (xs : List Int) (w : World) (hR : Sl w A n cap xs) (hn : n ≤ 1048576) :
    Calls Try.prog 23 #[.slice A n cap] w fun e w' => e = .returned (.slice (some ⟨w.heap.size, 0, none⟩) n n) ∧ w'.ownsRow w.heap.size 3 1 (.slice (some ⟨w.heap.size, 0, none⟩) n n) n (xs.flatMap Enc.cells) ∧ Le w w' := by
  obtain rfl := hR.len
  obtain ⟨i0, hi, hz0, hz1, hz2⟩ := info_parts infoInt
  have hb2 : i0.bytes * xs.length ≤ 281474976710656 := by rw [hz2]; omega
  go_enter Try.func23, Try.ntmps23
  go_wp2_with (refine wpList_make_full _ rfl _ _ 35 rfl w.heap.size 3 i0 _ 1 Try.underlying35 hi hz0 hz1 .i64 .i64 _ _ xs.length rfl rfl rfl rfl hb2 (by unfold maxLen; omega) (Nat.le_refl _) ?_; intro w1 hown1 hg1)
  have hl1 := (Le.refl w).grown hg1 (by intro k hk; cases hk)
  go_loopw [4] (fun i wr => ∃ k : Nat, ∃ r : List Value, k ≤ xs.length ∧ i = .int .i64 k ∧ r.length = xs.length - k ∧ wr.ownsRow w.heap.size 3 1 (.slice (some ⟨w.heap.size, 0, none⟩) xs.length xs.length) xs.length ((xs.take k).flatMap Enc.cells ++ r) ∧ Le w wr) (fun i _ => xs.length - (intOf i).toNat)
  case atStart => exact ⟨0, _, Nat.zero_le _, rfl, by simp [madeCells], hown1, hl1⟩
  case round =>
    obtain ⟨k, r, hk, rfl, hr, hown, hle⟩ := hrel
    have hRr := hR.le hle
    clear hR hown1 hg1 hl1
    by_cases hlt : k < xs.length
    · obtain ⟨b, off, rfl, hb, hcell0, _⟩ := hRr.int_at hlt
      match r, hr with
      | [], h => simp at h; omega
      | r0 :: rr, hr =>
      have hfl : ((xs.take k).flatMap (Enc.cells (α := Int))).length = k := by rw [flat_len, List.length_take]; show _ * 1 = _; rw [Nat.min_eq_left (by omega)]; omega
      have hc0 : wr.cell? ⟨w.heap.size, k, none⟩ = some r0 := by rw [hown.cellAt _ (by omega), List.getElem?_append_right (by omega), hfl]; simp
      have hf0 := hown.frozenAt k
      go_wp2
      all_goals
        go_roundw
        case rel =>
          refine ⟨k + 1, rr, by omega, by go_num, by simp at hr; omega, ?_, hle.setCell (Nat.le_refl _) _⟩
          have h1 := (hown.stored k (.int .i64 xs[k])).1
          have e : (xs.take (k + 1)).flatMap Enc.cells ++ rr = ((xs.take k).flatMap Enc.cells ++ r0 :: rr).set k (.int .i64 xs[k]) := by
            rw [List.take_succ_eq_append_getElem hlt, List.flatMap_append, List.set_append_right _ _ (by omega), hfl]
            simp [Enc.cells]
          rw [e]; exact h1
        case measure => simp [intOf]; omega
    · have hk' : k = xs.length := by omega
      have hr0 : r = [] := List.eq_nil_of_length_eq_zero (by rw [hr, hk']; simp)
      have HO : Hid (wr.ownsRow w.heap.size 3 1 (.slice (some ⟨w.heap.size, 0, none⟩) xs.length xs.length) xs.length (xs.flatMap Enc.cells)) := by
        show World.ownsRow _ _ _ _ _ _ _
        rw [hk', hr0] at hown; simpa using hown
      clear hk' hr0 hr hown
      go_wp2
      go_ret
      exact ⟨rfl, HO.out, hle⟩
end Go.Proofs.Ytlejfmhmpcimaaa
