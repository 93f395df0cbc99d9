import Derived.Test.YtjmoddphfhgghadE
namespace Go.Proofs.Ytjmoddphfhgghad
open Go.RowKit

set_option maxRecDepth 100000 in
theorem toClassS_any (A : Option Addr) (n cap : Nat) (xs : List Cls) (w : World) (hR : Sl w A n cap xs) (hn : n ≤ 1048576) :
    Calls Try.prog 33 #[.slice A n cap] w fun e w' => e = .returned (.slice (some ⟨w.heap.size, 0, none⟩) n n) ∧ w'.ownsRow w.heap.size 62 2 (.slice (some ⟨w.heap.size, 0, none⟩) n n) n (xs.flatMap Enc.cells) ∧ Le w w' := by
  obtain rfl := hR.len
  obtain ⟨i0, hi, hz0, hz1, hz2⟩ := info_parts clsInfo
  have hb2 : i0.bytes * xs.length ≤ 281474976710656 := by rw [hz2]; omega
  go_enter Try.func33, Try.ntmps33
  go_wp2_with (refine wpList_make_full _ rfl _ _ 28 rfl w.heap.size 62 i0 _ 2 Try.underlying28 hi hz0 hz1 .i64 .i64 _ _ xs.length rfl rfl rfl rfl hb2 (by unfold maxLen; omega) (Nat.le_refl _) ?_; intro w1 hown1 hg1)
  have hl1 := (Le.refl w).grown hg1 (by intro k hk; cases hk)
  go_loopw [4] (fun i wr => ∃ k : Nat, ∃ r : List Value, k ≤ xs.length ∧ i = .int .i64 k ∧ r.length = (xs.length - k) * 2 ∧ wr.ownsRow w.heap.size 62 2 (.slice (some ⟨w.heap.size, 0, none⟩) xs.length xs.length) xs.length ((xs.take k).flatMap Enc.cells ++ r) ∧ Le w wr) (fun i _ => xs.length - (intOf i).toNat)
  case atStart => exact ⟨0, _, Nat.zero_le _, rfl, by simp [madeCells], hown1, hl1⟩
  case round =>
    obtain ⟨k, r, hk, rfl, hr, hown, hle⟩ := hrel
    have hRr := hR.le hle
    clear hR hown1 hg1 hl1
    by_cases hlt : k < xs.length
    · obtain ⟨b, off, rfl, hb, hcell, hcell2, _, _, _⟩ := hRr.cls_at hlt
      match r, hr with
      | [], h => simp at h; omega
      | [_], h => simp at h; omega
      | r0 :: r1 :: r2, hr =>
      have hfl : ((xs.take k).flatMap (Enc.cells (α := Cls))).length = k * 2 := by rw [flat_len, List.length_take]; show _ * 2 = _; rw [Nat.min_eq_left (by omega)]
      go_wp2_with fail
      refine (toClass_any xs[k] _).mono ?_
      rintro e w2 ⟨rfl, hw2⟩
      have hown2 := own_le hown hw2
      have hc0 : w2.cell? ⟨w.heap.size, k * 2, none⟩ = some r0 := by rw [hown2.cellAt _ (by omega), List.getElem?_append_right (by omega), hfl]; simp
      have hc1 : w2.cell? ⟨w.heap.size, k * 2 + 1, none⟩ = some r1 := by rw [hown2.cellAt _ (by omega), List.getElem?_append_right (by omega), hfl]; simp
      have hf : ∀ j, w2.frozen? ⟨w.heap.size, j, none⟩ = false := fun j => hown2.frozenAt j
      have hf0 := hf (k * 2)
      have hf1 := hf (k * 2 + 1)
      clear hf
      go_wp2
      go_roundw
      case rel =>
        refine ⟨k + 1, r2, by omega, by go_num, by simp at hr; omega, ?_, (hle.trans hw2).setCell (Nat.le_refl _) _ |>.setCell (Nat.le_refl _) _⟩
        have h1 := ((hown2.stored (k * 2) (.string xs[k].name)).1.stored (k * 2 + 1) (.int .i64 xs[k].parent)).1
        have e : (xs.take (k + 1)).flatMap Enc.cells ++ r2 = ((((xs.take k).flatMap Enc.cells ++ r0 :: r1 :: r2).set (k * 2) (.string xs[k].name)).set (k * 2 + 1) (.int .i64 xs[k].parent)) := by
          rw [List.take_succ_eq_append_getElem hlt, List.flatMap_append, List.set_append_right _ _ (by omega), List.set_append_right _ _ (by omega), hfl]
          simp [Enc.cells]
        rw [e]; exact h1
      case measure => simp [intOf]; omega
    · have hk' : k = xs.length := by omega
      have hr0 : r = [] := List.eq_nil_of_length_eq_zero (by rw [hr, hk']; simp)
      have HO : Hid (wr.ownsRow w.heap.size 62 2 (.slice (some ⟨w.heap.size, 0, none⟩) xs.length xs.length) xs.length (xs.flatMap Enc.cells)) := by
        show World.ownsRow _ _ _ _ _ _ _
        rw [hk', hr0] at hown; simpa using hown
      clear hk' hr0 hr hown
      go_wp2
      go_ret
      exact ⟨rfl, HO.out, hle⟩

/-- the tree that is made: a slice of its own -/
theorem toTree_any (A : Option Addr) (n cap : Nat) (xs : List Cls) (w : World) (hR : Sl w A n cap xs) (hn : n ≤ 1048576) :
    Calls Try.prog 11 #[.agg #[.slice A n cap]] w fun e w' => ∃ g, e = .returned (.agg #[.slice (some ⟨g, 0, none⟩) n n]) ∧ w.heap.size ≤ g ∧ w'.ownsRow w.heap.size 62 2 (.slice (some ⟨g, 0, none⟩) n n) n (xs.flatMap Enc.cells) ∧ Le w w' := by
  go_enter Try.func11, Try.ntmps11
  go_wp2_with fail
  generalize hWd : ((w.alloc (.cells #[.slice A n cap] 24)).alloc _).alloc _ = W
  have hsz : w.heap.size + 2 < W.heap.size := by rw [← hWd]; simp
  have hWle : Le w W := by rw [← hWd]; exact ((Le.new w _).alloc _).alloc _
  have c1 : W.cell? ⟨w.heap.size + 1, 0, none⟩ = some (.slice none 0 0) := by rw [← hWd, World.cell?_alloc_past _ _ _ (by simp), World.cell?_alloc_at _ _ _ _ (by simp)]; rfl
  have c2 : W.cell? ⟨w.heap.size + 1 + 1, 0, none⟩ = some (.slice none 0 0) := by rw [← hWd, World.cell?_alloc_at _ _ _ _ (by simp)]; rfl
  have f1 : W.frozen? ⟨w.heap.size + 1, 0, none⟩ = false := by rw [← hWd, World.frozen?_alloc_past _ _ _ (by simp), World.frozen?_alloc_at _ _ _ _ (by simp)]
  have f2 : W.frozen? ⟨w.heap.size + 1 + 1, 0, none⟩ = false := by rw [← hWd, World.frozen?_alloc_at _ _ _ _ (by simp)]
  clear hWd
  refine (toClassS_any A n cap xs W (hR.le hWle) hn).mono ?_
  rintro e w2 ⟨rfl, hown, hle⟩
  have d1 := (hle.cell (b := w.heap.size + 1) (o := 0) (by omega)).trans c1
  have d2 := (hle.cell (b := w.heap.size + 1 + 1) (o := 0) (by omega)).trans c2
  have g1 := (hle.frozen (b := w.heap.size + 1) (o := 0) (by omega)).trans f1
  have g2 := (hle.frozen (b := w.heap.size + 1 + 1) (o := 0) (by omega)).trans f2
  have hz2 := hle.size
  have hbl := hWle.trans hle
  have hend : ∀ v, ((w2.setCell ⟨w.heap.size + 1 + 1, 0, none⟩ v).setCell ⟨w.heap.size + 1, 0, none⟩ v).cell? ⟨w.heap.size + 1, 0, none⟩ = some v := fun v => cell_set_same ((cell_set_other (.inl (by omega))).trans d1)
  clear c1 c2 f1 f2 hle
  go_wp2
  refine bodyPost_ret (v := .agg #[.slice (some ⟨W.heap.size, 0, none⟩) n n]) (by simp [results, Try.results11, go_sem, hend]) rfl ⟨W.heap.size, rfl, by omega, ?_, ?_⟩
  · exact own_set (own_set (own_mono hown (by omega)) (by omega) _) (by omega) _
  · exact (hbl.setCell (by omega) _).setCell (by omega) _
end Go.Proofs.Ytjmoddphfhgghad
