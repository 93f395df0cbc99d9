import Derived.Test.YtjmoddphfhgghadQ
namespace Go.Proofs.Ytjmoddphfhgghad
open Go.RowKit

theorem byte_str (w : World) (n : Int) : (convert 84 9 (.slice (some ⟨w.heap.size, 0, none⟩) 1 1)).run Try.prog (w.alloc (.cells #[.int .u8 n] 5)) = .ok (.string ⟨#[UInt8.ofNat n.toNat]⟩) (w.alloc (.cells #[.int .u8 n] 5)) := by
  rw [run_convert_bytes_string _ _ _ 5 _ _ _ Try.underlying84 Try.underlying5 Try.underlying9]
  have h := run_bytesToString (P := Try.prog) (w.alloc (.cells #[.int .u8 n] 5)) ⟨w.heap.size, 0, none⟩ 1 1 [n] (by simp [go_sem, loadCells])
  exact h
def mTxtF : Nat → Int → ByteArray → ByteArray
  | 0, _, o => o
  | f + 1, k, o => if 0 < k then mTxtF f (k / 10) (⟨#[UInt8.ofNat (48 + k % 10).toNat]⟩ ++ o) else o
def mTxt (k : Int) : ByteArray := ⟨#[109]⟩ ++ mTxtF k.toNat k ⟨#[]⟩
theorem mTxtF_end (f : Nat) {k : Int} (h : ¬ 0 < k) (o : ByteArray) : mTxtF f k o = o := by
  cases f with
  | zero => rfl
  | succ f => unfold mTxtF; rw [if_neg h]
theorem mTxtF_step (f : Nat) {k : Int} (h : 0 < k) (o : ByteArray) : mTxtF (f + 1) k o = mTxtF f (k / 10) (⟨#[UInt8.ofNat (48 + k % 10).toNat]⟩ ++ o) := by
  rw [mTxtF, if_pos h]
def TextOut (k : Int) (w : World) (e : Ending) (w' : World) : Prop := e = .returned (.string (mTxt k)) ∧ (mTxt k).size ≤ 4194304 ∧ Le w w'
set_option maxRecDepth 100000 in
theorem markText_any (k : Int) (w : World) (h0 : 1 ≤ k) (h1 : k ≤ 4194000) : Calls Try.prog 56 #[.int .i64 k] w (TextOut k w) := by
  go_enter Try.func56, Try.ntmps56
  go_wp2
  go_loopw [0, 3] (fun q o wr => ∃ k' : Int, ∃ s : ByteArray, ∃ f : Nat, 0 ≤ k' ∧ q = .int .i64 k' ∧ o = .string s ∧ k' + s.size ≤ k ∧ k'.toNat ≤ f ∧ mTxtF k.toNat k ⟨#[]⟩ = mTxtF f k' s ∧ Le w wr) (fun q _ _ => (intOf q).toNat)
  case atStart => exact ⟨k, ⟨#[]⟩, k.toNat, by omega, rfl, rfl, by simp [ByteArray.size], Nat.le_refl _, rfl, Le.refl _⟩
  case round =>
    obtain ⟨k', s, f, hk, rfl, rfl, hs, hf, hr, hle⟩ := hrel
    have HR := Lib.hid hr; clear hr
    by_cases hlt : 0 < k'
    · have hbs := byte_str wr (48 + k' % 10)
      cases f with
      | zero => omega
      | succ f =>
      have HF : Hid (mTxtF k.toNat k ⟨#[]⟩ = mTxtF f (k' / 10) (⟨#[UInt8.ofNat (48 + k' % 10).toNat]⟩ ++ s)) := by show _ = _; rw [HR.out, mTxtF_step f hlt]
      go_wp2
      go_roundw
      case rel => exact ⟨k' / 10, _, f, by omega, rfl, rfl, by rw [ByteArray.size_append]; show k' / 10 + ((1 + s.size : Nat) : Int) ≤ k; omega, by omega, HF.out, hle.alloc _⟩
      case measure => simp [intOf]; omega
    · have HF : Hid (mTxt k = ⟨#[109]⟩ ++ s) := by show _ = _; unfold mTxt; rw [HR.out, mTxtF_end f hlt]
      have HS : Hid ((mTxt k).size ≤ 4194304) := by show _ ≤ _; rw [HF.out, ByteArray.size_append]; show 1 + s.size ≤ _; omega
      go_wp2
      go_ret
      exact ⟨ret_str HF.out.symm, HS.out, hle⟩

/-- marks: each name and each parent gets the next number -/
def mCls (k : Int) (i : Nat) : Cls := ⟨mTxt (k + 2 * i), k + 2 * i + 1⟩
set_option maxRecDepth 100000 in
theorem markClassS_any (g n c : Nat) (xs : List Value) (k : Int) (w : World) (base : Nat) (hR : w.ownsRow base 62 2 (.slice (some ⟨g, 0, none⟩) n c) n xs) (h0 : 1 ≤ k) (h1 : k ≤ 1000) (hn : n ≤ 1048576) :
    Calls Try.prog 38 #[.slice (some ⟨g, 0, none⟩) n c, .int .i64 k] w fun e w' => e = .returned (.int .i64 (k + 2 * n)) ∧ w'.ownsRow base 62 2 (.slice (some ⟨g, 0, none⟩) n c) n (((List.range n).map (mCls k)).flatMap Enc.cells) ∧ w.grownBy w' (some g) := by
  go_enter Try.func38, Try.ntmps38
  go_wp2
  have hin := hR.1
  go_loopw [1, 5] (fun q i wr => ∃ j : Nat, ∃ r : List Value, j ≤ n ∧ i = .int .i64 j ∧ q = .int .i64 (k + 2 * j) ∧ r.length = (n - j) * 2 ∧ wr.ownsRow base 62 2 (.slice (some ⟨g, 0, none⟩) n c) n (((List.range j).map (mCls k)).flatMap Enc.cells ++ r) ∧ w.grownBy wr (some g)) (fun _ i _ => n - (intOf i).toNat)
  case atStart => exact ⟨0, xs, Nat.zero_le _, rfl, by simp, by omega, by simpa using hR, World.grownBy.refl w _⟩
  case round =>
    obtain ⟨j, r, hj, rfl, rfl, hr, hown, hgr⟩ := hrel
    clear hR hin
    by_cases hlt : j < n
    · match r, hr with
      | [], h => simp at h; omega
      | [_], h => simp at h; omega
      | r0 :: r1 :: r2, hr =>
      have hfl : ((((List.range j).map (mCls k)).flatMap (Enc.cells (α := Cls)))).length = j * 2 := by rw [flat_len, List.length_map, List.length_range]; rfl
      have hc0 : wr.cell? ⟨g, j * 2, none⟩ = some r0 := by rw [hown.cellAt _ (by omega), List.getElem?_append_right (by omega), hfl]; simp
      have hc1 : wr.cell? ⟨g, j * 2 + 1, none⟩ = some r1 := by rw [hown.cellAt _ (by omega), List.getElem?_append_right (by omega), hfl]; simp
      have HFL := Lib.hid hfl; clear hfl
      go_wp2_with fail
      refine (markText_any (k + 2 * j) _ (by omega) (by omega)).mono ?_
      rintro e w2 ⟨rfl, hsz, hw2⟩
      have hown2 := own_le hown hw2
      have hgl := own_lt hown
      have hd0 := (hw2.cell (b := g) (o := j * 2) hgl).trans hc0
      have hd1 := (hw2.cell (b := g) (o := j * 2 + 1) hgl).trans hc1
      have hf0 := hown2.frozenAt (j * 2)
      have hf1 := hown2.frozenAt (j * 2 + 1)
      clear hc0 hc1
      go_wp2
      go_roundw
      case rel =>
        refine ⟨j + 1, r2, by omega, by go_num, ?_, by simp at hr; omega, ?_, ?_⟩
        · congr 1; omega
        · have h1 := ((hown2.stored (j * 2) (.string (mTxt (k + 2 * j)))).1.stored (j * 2 + 1) (.int .i64 (k + 2 * j + 1))).1
          have e : ((List.range (j + 1)).map (mCls k)).flatMap Enc.cells ++ r2 = ((((List.range j).map (mCls k)).flatMap Enc.cells ++ r0 :: r1 :: r2).set (j * 2) (.string (mTxt (k + 2 * j)))).set (j * 2 + 1) (.int .i64 (k + 2 * j + 1)) := by
            rw [List.set_append_right _ _ (by have := HFL.out; omega), List.set_append_right _ _ (by have := HFL.out; omega), HFL.out, List.range_succ, List.map_append, List.flatMap_append]
            simp [Enc.cells, mCls]
          rw [e]; exact h1
        · refine ⟨hw2.os.trans hgr.os, hw2.tape.trans hgr.tape, hw2.output.trans hgr.output, ?_, fun i hi hne => ?_⟩
          · have h1 := hgr.size; have h2 := hw2.size; simp [World.setCell]; omega
          · have hne' : i ≠ g := fun e => hne (by rw [e])
            exact (heap_setCell_other _ ⟨g, _, none⟩ i _ hne').trans ((heap_setCell_other _ ⟨g, _, none⟩ i _ hne').trans ((Below.block hw2 i (Nat.lt_of_lt_of_le hi hgr.size)).trans (hgr.block i hi hne)))
      case measure => simp [intOf]; omega
    · have he : j = n := by omega
      have hr0 : r = [] := List.eq_nil_of_length_eq_zero (by rw [hr, he]; simp)
      subst he
      have HO : Hid (wr.ownsRow base 62 2 (.slice (some ⟨g, 0, none⟩) j c) j (((List.range j).map (mCls k)).flatMap Enc.cells)) := by
        show World.ownsRow _ _ _ _ _ _ _
        rw [hr0] at hown; simpa using hown
      clear hown hr0 hr
      go_wp2
      go_ret
      exact ⟨rfl, HO.out, hgr⟩

theorem markTree_any (g n c : Nat) (xs : List Value) (k : Int) (w : World) (base : Nat) (hR : w.ownsRow base 62 2 (.slice (some ⟨g, 0, none⟩) n c) n xs) (h0 : 1 ≤ k) (h1 : k ≤ 1000) (hn : n ≤ 1048576) :
    Calls Try.prog 15 #[.agg #[.slice (some ⟨g, 0, none⟩) n c], .int .i64 k] w fun e w' => e = .returned (.int .i64 (k + 2 * n)) ∧ w'.ownsRow base 62 2 (.slice (some ⟨g, 0, none⟩) n c) n (((List.range n).map (mCls k)).flatMap Enc.cells) ∧ w.grownBy w' (some g) := by
  go_enter Try.func15, Try.ntmps15
  go_wp2_with fail
  refine (markClassS_any g n c xs k _ base (hR.alloc _) h0 h1 hn).mono ?_
  rintro e w2 ⟨rfl, hown, hg⟩
  have hgr : w.grownBy w2 (some g) := ⟨hg.os, hg.tape, hg.output, by have := hg.size; simp at this; omega, fun i hi hne => (hg.block i (by simp; omega) hne).trans (Below.heap_alloc _ _ _ hi)⟩
  go_wp2
  go_ret
  exact ⟨rfl, hown, hgr⟩
end Go.Proofs.Ytjmoddphfhgghad
