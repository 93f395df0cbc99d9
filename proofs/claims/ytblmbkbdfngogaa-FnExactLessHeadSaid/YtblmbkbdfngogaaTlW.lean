/- markFrameS over a window -/
import Derived.Test.YtblmbkbdfngogaaTlFrame
import Derived.Test.YtblmbkbdfngogaaWN
namespace Go.Proofs.Ytblmbkbdfngogaa
open Go.RowKit
theorem win_set2 (pre G rr post : List Value) (r0 r1 u0 u1 : Value) (m : Nat) (hG : G.length = m) : ((pre ++ (G ++ r0 :: r1 :: rr) ++ post).set (pre.length + m) u0).set (pre.length + m + 1) u1 = pre ++ ((G ++ [u0, u1]) ++ rr) ++ post := by
  subst hG
  have e : pre ++ (G ++ r0 :: r1 :: rr) ++ post = (pre ++ G) ++ r0 :: r1 :: (rr ++ post) := by simp
  rw [e, List.set_append_right _ _ (by simp), List.set_append_right _ _ (by simp), List.length_append, Nat.sub_self]
  rw [show pre.length + G.length + 1 - (pre.length + G.length) = 1 by omega]
  simp
set_option maxHeartbeats 1000000 in
set_option maxRecDepth 100000 in
theorem markFrameS_off (g n c N c' : Nat) (pre post xs : List Value) (q : Int) (w : World) (base : Nat) (hR : w.ownsRow base 34 2 (.slice (some ⟨g, 0, none⟩) N c') N (pre ++ xs ++ post)) (hx : xs.length = n * 2) (h0 : 1 ≤ q) (h1 : q ≤ 1000000000) (hn : n ≤ 1048576) :
    Calls Try.prog 23 #[.slice (some ⟨g, pre.length, none⟩) n c, .int .i64 q] w fun e w' => e = .returned (.int .i64 (q + 2 * n)) ∧ w'.ownsRow base 34 2 (.slice (some ⟨g, 0, none⟩) N c') N (pre ++ ((List.range n).map (mFrm q)).flatMap Enc.cells ++ post) ∧ w.grownBy w' (some g) := by
  have hin := hR.1
  simp only [List.length_append] at hin
  go_enter Try.func23, Try.ntmps23
  go_wp2
  go_loopw [1, 5] (fun z i wr => ∃ k : Nat, ∃ r : List Value, k ≤ n ∧ i = .int .i64 k ∧ z = .int .i64 (q + 2 * k) ∧ r.length = (n - k) * 2 ∧ wr.ownsRow base 34 2 (.slice (some ⟨g, 0, none⟩) N c') N (pre ++ (((List.range k).map (mFrm q)).flatMap Enc.cells ++ r) ++ post) ∧ w.grownBy wr (some g)) (fun _ i _ => n - (intOf i).toNat)
  case atStart => exact ⟨0, xs, Nat.zero_le _, rfl, by simp, by omega, by simpa using hR, World.grownBy.refl w _⟩
  case round =>
    obtain ⟨k, r, hk, rfl, rfl, hr, hown, hgr⟩ := hrel
    clear hR
    by_cases hlt : k < n
    · match r, hr with
      | [], h => simp at h; omega
      | [_], h => simp at h; omega
      | r0 :: r1 :: rr, hr =>
      have hfl : ((((List.range k).map (mFrm q)).flatMap (Enc.cells (α := Frm)))).length = k * 2 := by rw [flat_len, List.length_map, List.length_range]; rfl
      have hc0 : wr.cell? ⟨g, pre.length + k * 2, none⟩ = some r0 := by rw [hown.cellAt _ (by omega), List.append_assoc, List.getElem?_append_right (by omega), Nat.add_sub_cancel_left, List.append_assoc, List.getElem?_append_right (by omega), hfl]; simp
      have hc1 : wr.cell? ⟨g, pre.length + k * 2 + 1, none⟩ = some r1 := by rw [hown.cellAt _ (by omega), List.append_assoc, List.getElem?_append_right (by omega), Nat.add_assoc, Nat.add_sub_cancel_left, List.append_assoc, List.getElem?_append_right (by omega), hfl]; simp
      have hf0 := hown.frozenAt (pre.length + k * 2)
      have hf1 := hown.frozenAt (pre.length + k * 2 + 1)
      have HFL := Lib.hid hfl; clear hfl
      have HIN := Lib.hid hin; clear hin
      go_wp2_with fail
      refine (markText_any (q + 2 * k) _ (by omega) (by omega)).mono ?_
      rintro e w2 ⟨rfl, hsz, hw2⟩
      have hown2 := own_le hown hw2
      have hgl := own_lt hown
      have hd0 := (hw2.cell (b := g) (o := pre.length + k * 2) hgl).trans hc0
      have hg0 := hown2.frozenAt (pre.length + k * 2)
      have hd1 := (hw2.cell (b := g) (o := pre.length + k * 2 + 1) hgl).trans hc1
      have hg1 := hown2.frozenAt (pre.length + k * 2 + 1)
      clear hc0 hf0 hc1 hf1
      go_wp2
      go_roundw
      case rel =>
        refine ⟨k + 1, rr, by omega, by go_num, by congr 1; omega, by simp at hr; omega, ?_, ?_⟩
        · have h1 := ((hown2.stored (pre.length + k * 2) (.string (mTxt (q + 2 * k)))).1.stored (pre.length + k * 2 + 1) (.int .i64 (q + 2 * k + 1))).1
          have e : pre ++ (((List.range (k + 1)).map (mFrm q)).flatMap Enc.cells ++ rr) ++ post = (((pre ++ (((List.range k).map (mFrm q)).flatMap Enc.cells ++ r0 :: r1 :: rr) ++ post).set (pre.length + k * 2) (.string (mTxt (q + 2 * k)))).set (pre.length + k * 2 + 1) (.int .i64 (q + 2 * k + 1))) := by
            rw [win_set2 _ _ _ _ _ _ _ _ _ HFL.out, List.range_succ, List.map_append, List.flatMap_append]
            rfl
          rw [e]; exact h1
        · exact (gx_set (gx_set (gx_le hgr hw2) _) _)
      case measure => simp [intOf]; omega
    · have he : k = n := by omega
      have hr0 : r = [] := List.eq_nil_of_length_eq_zero (by rw [hr, he]; simp)
      subst he
      have HO : Hid (wr.ownsRow base 34 2 (.slice (some ⟨g, 0, none⟩) N c') N (pre ++ ((List.range k).map (mFrm q)).flatMap Enc.cells ++ post)) := by
        show World.ownsRow _ _ _ _ _ _ _
        rw [hr0] at hown; simpa using hown
      clear hown hr0 hr hin
      go_wp2
      go_ret
      exact ⟨rfl, HO.out, hgr⟩
theorem markFrameS_win (A : Option Addr) (n c : Nat) (xs : List Value) (q : Int) (w : World) (base : Nat) (hR : ownsWin w base 34 2 (.slice A n c) n xs) (h0 : 1 ≤ q) (h1 : q ≤ 1000000000) (hn : n ≤ 1048576) :
    Calls Try.prog 23 #[.slice A n c, .int .i64 q] w fun e w' => e = .returned (.int .i64 (q + 2 * n)) ∧ ownsWin w' base 34 2 (.slice A n c) n (((List.range n).map (mFrm q)).flatMap Enc.cells) ∧ w.grownBy w' (Value.slice A n c).ownBlock := by
  rcases hR with hR | ⟨g, N, pre, post, c1, c', hR, hx, hv, r1, r2⟩
  · refine (markFrameS_any A n c xs q w base hR h0 h1 hn).mono ?_
    rintro e w' ⟨rfl, hO, hg⟩
    exact ⟨rfl, .inl hO, hg⟩
  · simp only [Value.slice.injEq, true_and] at hv
    obtain ⟨rfl, rfl⟩ := hv
    refine (markFrameS_off g n c N c' pre post xs q w base hR hx h0 h1 hn).mono ?_
    rintro e w' ⟨rfl, hO, hg⟩
    exact ⟨rfl, .inr ⟨g, N, pre, post, c, c', hO, by rw [flat_len, List.length_map, List.length_range]; rfl, rfl, r1, r2⟩, hg⟩
end Go.Proofs.Ytblmbkbdfngogaa
