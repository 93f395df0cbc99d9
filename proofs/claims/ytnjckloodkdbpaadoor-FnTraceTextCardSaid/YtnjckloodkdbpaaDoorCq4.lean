/- one text of TrK, TrL -/
import Derived.Test.YtnjckloodkdbpaaDoorCq3
namespace Go.Proofs.YtnjckloodkdbpaaDoor
open Go.RowKit
set_option linter.unusedVariables false
section
instance instOneRwf : EncOne Rwf := ⟨by decide, fun x u hu => by simp [Enc.cells] at hu; rcases hu with rfl | rfl | rfl <;> rfl⟩
def rwf0 : Rwf := ⟨ByteArray.empty, 0, 0⟩
def lastR (rs : List Rwf) : Rwf := rs.getD (rs.length - 1) rwf0
def bump (r : Rwf) : Rwf := {r with times := r.times + 1}
def sameR (rs : List Rwf) (f : Frm) : Prop := 0 < rs.length ∧ (lastR rs).fn = f.fn ∧ (lastR rs).line = f.line
instance (rs : List Rwf) (f : Frm) : Decidable (sameR rs f) := inferInstanceAs (Decidable (_ ∧ _ ∧ _))
def pushR (rs : List Rwf) (f : Frm) : List Rwf := if sameR rs f then rs.set (rs.length - 1) (bump (lastR rs)) else rs ++ [⟨f.fn, f.line, 1⟩]
def foldK (xs : List Frm) : Nat → List Rwf
  | 0 => []
  | k + 1 => pushR (foldK xs k) (xs.getD k frm0)
theorem foldK_at {xs : List Frm} {k : Nat} (hk : k < xs.length) : foldK xs (k + 1) = pushR (foldK xs k) xs[k] := by
  rw [foldK, List.getD_eq_getElem?_getD, List.getElem?_eq_getElem hk, Option.getD_some]
theorem push_yes {rs : List Rwf} {f : Frm} (h : sameR rs f) : pushR rs f = rs.set (rs.length - 1) (bump (lastR rs)) := if_pos h
theorem push_no {rs : List Rwf} {f : Frm} (h : ¬ sameR rs f) : pushR rs f = rs ++ [⟨f.fn, f.line, 1⟩] := if_neg h
theorem push_len (rs : List Rwf) (f : Frm) : 0 < (pushR rs f).length ∧ rs.length ≤ (pushR rs f).length ∧ (pushR rs f).length ≤ rs.length + 1 := by
  by_cases h : sameR rs f
  · rw [push_yes h]; have := h.1; simp; omega
  · rw [push_no h]; simp
theorem lastR_at {rs : List Rwf} (h : rs.length - 1 < rs.length) : lastR rs = rs[rs.length - 1] := by
  unfold lastR; rw [List.getD_eq_getElem?_getD, List.getElem?_eq_getElem h, Option.getD_some]
theorem push_last (rs : List Rwf) (f : Frm) : (lastR (pushR rs f)).fn = f.fn ∧ (lastR (pushR rs f)).line = f.line := by
  by_cases h : sameR rs f
  · have h0 := h.1
    rw [push_yes h]
    have e : lastR (rs.set (rs.length - 1) (bump (lastR rs))) = bump (lastR rs) := by
      unfold lastR
      rw [List.getD_eq_getElem?_getD, List.length_set, List.getElem?_set_self (by omega), Option.getD_some]
    rw [e]; exact h.2
  · rw [push_no h]
    have e : lastR (rs ++ [⟨f.fn, f.line, 1⟩]) = ⟨f.fn, f.line, 1⟩ := by
      unfold lastR
      rw [List.getD_eq_getElem?_getD, List.length_append, List.getElem?_append_right (by simp)]
      simp
    rw [e]; exact ⟨rfl, rfl⟩
theorem foldK_len (xs : List Frm) : ∀ k, (foldK xs k).length ≤ k ∧ (0 < k → 0 < (foldK xs k).length)
  | 0 => ⟨Nat.le_refl _, fun h => by omega⟩
  | k + 1 => by
    have h := foldK_len xs k
    have h2 := push_len (foldK xs k) (xs.getD k frm0)
    unfold foldK
    exact ⟨by omega, fun _ => h2.1⟩
theorem foldK_last {xs : List Frm} {k : Nat} (hk : k < xs.length) : (lastR (foldK xs (k + 1))).fn = xs[k].fn ∧ (lastR (foldK xs (k + 1))).line = xs[k].line := by
  rw [foldK_at hk]; exact push_last _ _
theorem push_mem {rs : List Rwf} {f : Frm} {r : Rwf} (h : r ∈ pushR rs f) : r ∈ rs ∨ (sameR rs f ∧ r = bump (lastR rs)) ∨ r = ⟨f.fn, f.line, 1⟩ := by
  by_cases hs : sameR rs f
  · rw [push_yes hs] at h
    rcases List.mem_or_eq_of_mem_set h with h | h
    · exact .inl h
    · exact .inr (.inl ⟨hs, h⟩)
  · rw [push_no hs] at h
    rcases List.mem_append.1 h with h | h
    · exact .inl h
    · simp at h; exact .inr (.inr h)
theorem lastR_mem {rs : List Rwf} (h : 0 < rs.length) : lastR rs ∈ rs := by
  rw [lastR_at (by omega)]; exact List.getElem_mem _
theorem foldK_times (xs : List Frm) : ∀ k, ∀ r ∈ foldK xs k, 1 ≤ r.times ∧ r.times ≤ k
  | 0, r, h => nomatch h
  | k + 1, r, h => by
    have ih := foldK_times xs k
    rcases push_mem h with h | ⟨hs, rfl⟩ | rfl
    · have := ih r h; omega
    · have := ih _ (lastR_mem hs.1)
      show 1 ≤ (lastR _).times + 1 ∧ (lastR _).times + 1 ≤ _
      omega
    · show (1 : Int) ≤ 1 ∧ (1 : Int) ≤ _; omega
theorem foldK_ok (xs : List Frm) (hok : ∀ x ∈ xs, Enc.ok x) : ∀ k, k ≤ xs.length → k ≤ 9223372036854775807 → ∀ r ∈ foldK xs k, Enc.ok r
  | 0, _, _, r, h => nomatch h
  | k + 1, hk, hm, r, h => by
    have ih := foldK_ok xs hok k (by omega) (by omega)
    have ht := foldK_times xs (k + 1) r h
    have hk' : k < xs.length := hk
    rw [foldK_at hk'] at h
    have hx := hok xs[k] (List.getElem_mem hk')
    rcases push_mem h with h | ⟨hs, rfl⟩ | rfl
    · exact ih r h
    · have h3 := ih _ (lastR_mem hs.1)
      exact ⟨h3.1, h3.2.1, h3.2.2.1, by omega, by omega⟩
    · exact ⟨hx.1, hx.2.1, hx.2.2, by omega, by omega⟩

theorem own_some {w : World} {base e size m : Nat} {v : Value} {xs : List Value} (h : w.ownsRow base e size v (m + 1) xs) : ∃ g c, v = .slice (some ⟨g, 0, none⟩) (m + 1) c := by
  rcases h.2 with ⟨_, h0⟩ | ⟨g, c, _, h, _⟩
  · omega
  · exact ⟨g, c, h⟩
theorem row_cells {w : World} {base g m c : Nat} {rs : List Rwf} {T : TypeId} (h : w.ownsRow base T 3 (.slice (some ⟨g, 0, none⟩) (m + 1) c) (m + 1) (rs.flatMap Enc.cells)) (hm : rs.length = m + 1) :
    w.cell? ⟨g, m * 3, none⟩ = some (.string (lastR rs).fn) ∧ w.cell? ⟨g, m * 3 + 1, none⟩ = some (.int .i64 (lastR rs).line) ∧ w.cell? ⟨g, m * 3 + 2, none⟩ = some (.int .i64 (lastR rs).times) := by
  have hk : m < rs.length := by omega
  have e : lastR rs = rs[m] := by
    unfold lastR; rw [hm, Nat.add_sub_cancel, List.getD_eq_getElem?_getD, List.getElem?_eq_getElem hk, Option.getD_some]
  rw [e]
  refine ⟨?_, ?_, ?_⟩
  · rw [h.cellAt _ (by omega)]; exact flat_at rs m hk 0 (by decide)
  · rw [h.cellAt _ (by omega)]; exact flat_at rs m hk 1 (by decide)
  · rw [h.cellAt _ (by omega)]; exact flat_at rs m hk 2 (by decide)
theorem row_bump {w : World} {base g m c : Nat} {rs : List Rwf} {f : Frm} {T : TypeId} (h : w.ownsRow base T 3 (.slice (some ⟨g, 0, none⟩) (m + 1) c) (m + 1) (rs.flatMap Enc.cells)) (hm : rs.length = m + 1) (hs : sameR rs f) :
    (w.setCell ⟨g, m * 3 + 2, none⟩ (.int .i64 ((lastR rs).times + 1))).ownsRow base T 3 (.slice (some ⟨g, 0, none⟩) (m + 1) c) (pushR rs f).length ((pushR rs f).flatMap Enc.cells) := by
  have hk : m < rs.length := by omega
  have e : lastR rs = rs[m] := by
    unfold lastR; rw [hm, Nat.add_sub_cancel, List.getD_eq_getElem?_getD, List.getElem?_eq_getElem hk, Option.getD_some]
  have h1 := (h.stored (m * 3 + 2) (.int .i64 ((lastR rs).times + 1))).1
  rw [flat_rwf_times rs m hk] at h1
  have e2 : pushR rs f = rs.set m {rs[m] with times := (lastR rs).times + 1} := by
    rw [push_yes hs, hm, Nat.add_sub_cancel, e]; rfl
  rw [e2, List.length_set, hm]; exact h1

def foldL (xs : List Frm) : List Rwf := foldK xs xs.length

set_option maxRecDepth 100000 in
theorem sfold_any (A : Option Addr) (n c : Nat) (xs : List Frm) (w : World) (hR : Sl w A n c xs) (hn : n ≤ 16777216) :
    Calls Tryd.prog 51 #[.slice A n c] w fun e w' => ∃ v, e = .returned v ∧ Owd 47 w w' v (foldL xs) ∧ Le w w' := by
  obtain ⟨i0, hi, hz0, hz1, hz2⟩ := info_parts infoRow
  obtain rfl := hR.len
  have HOK := Lib.hid (foldK_ok xs hR.ok xs.length (Nat.le_refl _) (by omega))
  go_enter Tryd.func51, Tryd.ntmps51
  go_wp2
  go_loopw [3, 4] (fun v i wr => ∃ k : Nat, k ≤ xs.length ∧ i = .int .i64 k ∧ wr.ownsRow w.heap.size 47 3 v (foldK xs k).length ((foldK xs k).flatMap Enc.cells) ∧ Le w wr) (fun _ i _ => xs.length - (intOf i).toNat)
  case atStart => exact ⟨0, Nat.zero_le _, rfl, own_empty (Nat.le_refl _) rfl, Le.new _ _⟩
  case round =>
    obtain ⟨k, hk, rfl, O1, hle⟩ := hrel
    have S1 := hR.le hle
    clear hR
    by_cases hlt : k < xs.length
    · obtain ⟨b, off, rfl, hb, hcell0, hcell1, hns, hp1, hp2⟩ := S1.frm_at hlt
      have hll := (foldK_len xs k).1
      have hsz := hle.size
      have hti := foldK_times xs k
      have HB := Lib.hid (foldK_at hlt)
      generalize foldK xs k = rs at *
      rcases Nat.eq_zero_or_pos rs.length with h0 | h0
      · have hns2 : ¬ sameR rs xs[k] := fun h => by have := h.1; omega
        have HP := Lib.hid (HB.out.trans (push_no hns2))
        have hr : rs = [] := List.eq_nil_of_length_eq_zero h0
        subst hr
        have hokx : Enc.ok (⟨xs[k].fn, xs[k].line, 1⟩ : Rwf) := ⟨hns, hp1, hp2, by show (-9223372036854775808 : Int) ≤ 1; omega, by show (1 : Int) ≤ _; omega⟩
        obtain ⟨A1, c1, rfl⟩ := own_form O1
        clear hns2 h0 hti HB
        replace O1 : wr.ownsRow w.heap.size 47 3 (.slice A1 0 c1) 0 (([] : List Rwf).flatMap Enc.cells) := O1
        have E0 := cell_ext hb hcell0
        have E1 := cell_ext hb hcell1
        have HMM : ([] : List Rwf).length = 0 := rfl
        go_wp2_with fail
        refine wp_region_ext (by kernel_rfl) (by kernel_rfl) ?_
        repeat (go_big_quiet_step (fail))
        refine wpQuiet_nil ?_
        intro _ hw'
        obtain ⟨gg, rfl⟩ := hw'
        have hw1 := Le.ext wr gg
        replace hle := hle.trans hw1
        replace O1 := own_le O1 hw1
        replace hcell0 := E0 gg
        replace hcell1 := E1 gg
        have hsz2 := hle.size
        generalize wr.ext gg = W2 at *
        go_wp2_with (at_builtin; refine wpList_append_sl rfl _ _ 32 rfl w.heap.size 47 i0 _ 32 Tryd.underlying32 hi hz0 hz1 hz2 rfl _ _ ([] : List Rwf) rfl (O1.alloc _) _ 1 1 [(⟨xs[k].fn, xs[k].line, 1⟩ : Rwf)] rfl (sl_one (⟨xs[k].fn, xs[k].line, 1⟩ : Rwf) rfl hokx rfl) (by unfold maxLen; omega) (by omega) (hle.alloc _).size ?_; intro v1 w3 O2 hg2 _; have L2 := (hle.alloc _).grown hg2 (fun k hk => (O1.lt k hk).1); clear hg2)
        go_roundw
        case rel => exact ⟨k + 1, by omega, by go_num, by rw [HP.out, List.length_append, HMM]; exact O2, L2⟩
        case measure => simp [intOf]; omega
      · obtain ⟨m, hm⟩ : ∃ m, rs.length = m + 1 := ⟨rs.length - 1, by omega⟩
        rw [hm] at O1
        obtain ⟨g, c1, rfl⟩ := own_some O1
        obtain ⟨c0, c1', c2⟩ := row_cells O1 hm
        have hg := own_lt O1
        have hlr := hti _ (lastR_mem h0)
        have hf2 := O1.frozenAt (m * 3 + 2)
        have hw : IntKind.i64.wrap ((m : Int) + 1 - 1) = (m : Int) := by rw [Int.add_sub_cancel]; exact IntWalk.i64_in _ (by omega)
        have HM := Lib.hid hm
        have hml : m < 16777216 := by omega
        have hw2 : IntKind.i64.wrap ((lastR rs).times + 1) = (lastR rs).times + 1 := IntWalk.i64_in _ (by omega)
        have E0 := cell_ext hb hcell0
        have E1 := cell_ext hb hcell1
        have F0 := cell_ext hg c0
        have F1 := cell_ext hg c1'
        by_cases hsame : sameR rs xs[k]
        · have e1 := str_eq hsame.2.1
          have e2 : ((lastR rs).line == xs[k].line) = true := by simpa using hsame.2.2
          have HS := Lib.hid hsame
          clear hsame hm h0 hti hll
          go_wp2_with fail
          refine wp_region_ext (by kernel_rfl) (by kernel_rfl) ?_
          repeat (go_big_quiet_step (fail))
          refine wpQuiet_nil ?_
          intro _ hw'
          obtain ⟨gg, rfl⟩ := hw'
          have hw1 := Le.ext wr gg
          replace hle := hle.trans hw1
          replace O1 := own_le O1 hw1
          replace c2 := (hw1.cell hg).trans c2
          replace hf2 := (hw1.frozen hg).trans hf2
          clear c0 c1' E0 E1 F0 F1 hcell0 hcell1
          have hsz2 := hle.size
          generalize wr.ext gg = W2 at *
          have hgb := (O1.lt g rfl).1
          go_wp2
          go_roundw
          case rel => exact ⟨k + 1, by omega, by go_num, by rw [HB.out]; exact row_bump O1 HM.out HS.out, hle.setCell hgb _⟩
          case measure => simp [intOf]; omega
        · have HP := Lib.hid (HB.out.trans (push_no hsame))
          have hokx : Enc.ok (⟨xs[k].fn, xs[k].line, 1⟩ : Rwf) := ⟨hns, hp1, hp2, by show (-9223372036854775808 : Int) ≤ 1; omega, by show (1 : Int) ≤ _; omega⟩
          have hcase : (lastR rs).fn ≠ xs[k].fn ∨ ((lastR rs).fn = xs[k].fn ∧ (lastR rs).line ≠ xs[k].line) := by
            by_cases h1 : (lastR rs).fn = xs[k].fn
            · exact .inr ⟨h1, fun h2 => hsame ⟨h0, h1, h2⟩⟩
            · exact .inl h1
          have HMM : rs.length = m + 1 := hm
          have HMH := Lib.hid HMM
          clear hsame hm h0 hti hll HMM
          rcases hcase with h1 | ⟨h1, h2⟩
          all_goals
            first | have e1 := str_ne h1 | (have e1 := str_eq h1; have e2 : ((lastR rs).line == xs[k].line) = false := by simpa using h2)
            clear h1
            go_wp2_with fail
            refine wp_region_ext (by kernel_rfl) (by kernel_rfl) ?_
            repeat (go_big_quiet_step (fail))
            refine wpQuiet_nil ?_
            intro _ hw'
            obtain ⟨gg, rfl⟩ := hw'
            have hw1 := Le.ext wr gg
            replace hle := hle.trans hw1
            replace O1 := own_le O1 hw1
            replace hcell0 := E0 gg
            replace hcell1 := E1 gg
            clear c0 c1' c2 hf2 E0 E1 F0 F1
            have hsz2 := hle.size
            generalize wr.ext gg = W2 at *
            have HMM := HMH.out
            go_wp2_with (at_builtin; refine wpList_append_sl rfl _ _ 32 rfl w.heap.size 47 i0 _ 32 Tryd.underlying32 hi hz0 hz1 hz2 rfl _ _ (rs) rfl (O1.alloc _) _ 1 1 [(⟨xs[k].fn, xs[k].line, 1⟩ : Rwf)] rfl (sl_one (⟨xs[k].fn, xs[k].line, 1⟩ : Rwf) rfl hokx rfl) (by unfold maxLen; omega) (by omega) (hle.alloc _).size ?_; intro v1 w3 O2 hg2 _; have L2 := (hle.alloc _).grown hg2 (fun k hk => (O1.lt k hk).1); clear hg2)
            go_roundw
            case rel => exact ⟨k + 1, by omega, by go_num, by rw [HP.out, List.length_append, HMM]; exact O2, L2⟩
            case measure => simp [intOf]; omega
    · obtain rfl : k = xs.length := by omega
      have HO := Lib.hid (⟨O1, HOK.out⟩ : Owd 47 w wr _ (foldL xs))
      clear O1
      go_wp2
      go_ret
      exact ⟨_, rfl, HO.out, hle⟩
set_option maxRecDepth 100000 in
theorem ifold_any (A : Option Addr) (n c : Nat) (xs : List Frm) (w : World) (hR : Sl w A n c xs) (hn : n ≤ 16777216) :
    Calls Tryd.prog 39 #[.slice A n c] w fun e w' => ∃ v, e = .returned v ∧ Owd 47 w w' v (foldL xs) ∧ Le w w' := by
  obtain ⟨i0, hi, hz0, hz1, hz2⟩ := info_parts infoRow
  obtain rfl := hR.len
  have HOK := Lib.hid (foldK_ok xs hR.ok xs.length (Nat.le_refl _) (by omega))
  go_enter Tryd.func39, Tryd.ntmps39
  go_wp2
  go_loopw [3, 8] (fun v i wr => ∃ k : Nat, k ≤ xs.length ∧ i = .int .i64 k ∧ wr.ownsRow w.heap.size 47 3 v (foldK xs k).length ((foldK xs k).flatMap Enc.cells) ∧ Le w wr) (fun _ i _ => xs.length - (intOf i).toNat)
  case atStart => exact ⟨0, Nat.zero_le _, rfl, World.ownsRow_nil _ _ _ _, Le.refl _⟩
  case round =>
    obtain ⟨k, hk, rfl, O1, hle⟩ := hrel
    have S1 := hR.le hle
    clear hR
    by_cases hlt : k < xs.length
    · obtain ⟨b, off, rfl, hb, hcell0, hcell1, hns, hp1, hp2⟩ := S1.frm_at hlt
      have hll := (foldK_len xs k).1
      have hti := foldK_times xs k
      have HB := Lib.hid (foldK_at hlt)
      have hokx : Enc.ok (⟨xs[k].fn, xs[k].line, 1⟩ : Rwf) := ⟨hns, hp1, hp2, by show (-9223372036854775808 : Int) ≤ 1; omega, by show (1 : Int) ≤ _; omega⟩
      cases k with
      | zero =>
        have hns2 : ¬ sameR (foldK xs 0) xs[0] := fun h => by have := h.1; simp [foldK] at this
        have HP := Lib.hid (HB.out.trans (push_no hns2))
        obtain ⟨A1, c1, rfl⟩ := own_form O1
        replace O1 : wr.ownsRow w.heap.size 47 3 (.slice A1 0 c1) 0 (([] : List Rwf).flatMap Enc.cells) := O1
        have HMM : (foldK xs 0).length = 0 := rfl
        clear hns2 hti HB
        simp only [Nat.zero_mul, Nat.add_zero] at hcell0 hcell1
        go_wp2_with fail
        obtain ⟨d0, d1, zd, hl⟩ := boxF wr xs[0] 45
        generalize wr.alloc (.cells #[.string xs[0].fn, .int .i64 xs[0].line] 45) = W1 at *
        replace hle := hle.trans hl
        replace O1 := own_le O1 hl
        refine wp_region_ext (by kernel_rfl) (by kernel_rfl) ?_
        repeat (go_big_quiet_step (fail))
        refine wpQuiet_nil ?_
        intro _ hw'
        obtain ⟨gg, rfl⟩ := hw'
        have hw1 := Le.ext W1 gg
        replace hle := hle.trans hw1
        replace O1 := own_le O1 hw1
        replace d0 := (hw1.cell zd).trans d0
        replace d1 := (hw1.cell zd).trans d1
        clear hcell0 hcell1 hl S1
        have hsz2 := hle.size
        generalize W1.ext gg = W2 at *
        go_wp2_with (at_builtin; refine wpList_append_sl rfl _ _ 32 rfl w.heap.size 47 i0 _ 32 Tryd.underlying32 hi hz0 hz1 hz2 rfl _ _ ([] : List Rwf) rfl (O1.alloc _) _ 1 1 [(⟨xs[0].fn, xs[0].line, 1⟩ : Rwf)] rfl (sl_one (⟨xs[0].fn, xs[0].line, 1⟩ : Rwf) rfl hokx rfl) (by unfold maxLen; omega) (by omega) (hle.alloc _).size ?_; intro v1 w3 O2 hg2 _; have L2 := (hle.alloc _).grown hg2 (fun k hk => (O1.lt k hk).1); clear hg2)
        go_roundw
        case rel => exact ⟨0 + 1, by omega, by go_num, by rw [HP.out, List.length_append, HMM]; exact O2, L2⟩
        case measure => simp [intOf]; omega
      | succ j =>
        have hj : j < xs.length := by omega
        have hlast := foldK_last hj
        have h0 := (foldK_len xs (j + 1)).2 (by omega)
        obtain ⟨b2, off2, hbe, hb2, hdell0, hdell1, _⟩ := S1.frm_at hj
        simp only [Option.some.injEq, Addr.mk.injEq, and_true] at hbe
        obtain ⟨rfl, rfl⟩ := hbe
        generalize foldK xs (j + 1) = rs at *
        obtain ⟨m, hm⟩ : ∃ m, rs.length = m + 1 := ⟨rs.length - 1, by omega⟩
        rw [hm] at O1
        obtain ⟨g, c1, rfl⟩ := own_some O1
        obtain ⟨_, _, c2⟩ := row_cells O1 hm
        have hg := own_lt O1
        have hlr := hti _ (lastR_mem h0)
        have hf2 := O1.frozenAt (m * 3 + 2)
        have hw : IntKind.i64.wrap ((m : Int) + 1 - 1) = (m : Int) := by rw [Int.add_sub_cancel]; exact IntWalk.i64_in _ (by omega)
        have hwj : IntKind.i64.wrap ((j : Int) + 1 - 1) = (j : Int) := by rw [Int.add_sub_cancel]; exact IntWalk.i64_in _ (by omega)
        have hml : m < 16777216 := by omega
        have hw2 : IntKind.i64.wrap ((lastR rs).times + 1) = (lastR rs).times + 1 := IntWalk.i64_in _ (by omega)
        by_cases hsame : sameR rs xs[j + 1]
        · have e1 : (xs[j + 1].fn.toList == xs[j].fn.toList) = true := str_eq (hsame.2.1.symm.trans hlast.1)
          have e2 : (xs[j + 1].line == xs[j].line) = true := by rw [← hlast.2, ← hsame.2.2]; simp
          have HM := Lib.hid hm
          have HS := Lib.hid hsame
          clear hsame hm h0 hti hll hlast
          go_wp2_with fail
          obtain ⟨d0, d1, zd, hl⟩ := boxF wr xs[j + 1] 45
          generalize wr.alloc (.cells #[.string xs[j + 1].fn, .int .i64 xs[j + 1].line] 45) = W1 at *
          replace hle := hle.trans hl
          replace O1 := own_le O1 hl
          have E0 := cell_ext (Nat.lt_of_lt_of_le hb hl.size) ((hl.cell hb).trans hdell0)
          have E1 := cell_ext (Nat.lt_of_lt_of_le hb hl.size) ((hl.cell hb).trans hdell1)
          have D0 := cell_ext zd d0
          have D1 := cell_ext zd d1
          replace c2 := (hl.cell hg).trans c2
          replace hf2 := (hl.frozen hg).trans hf2
          replace hg := Nat.lt_of_lt_of_le hg hl.size
          clear hcell0 hcell1 hdell0 hdell1 hl S1
          refine wp_region_ext (by kernel_rfl) (by kernel_rfl) ?_
          repeat (go_big_quiet_step (fail))
          refine wpQuiet_nil ?_
          intro _ hw'
          obtain ⟨gg, rfl⟩ := hw'
          have hw1 := Le.ext W1 gg
          replace hle := hle.trans hw1
          replace O1 := own_le O1 hw1
          replace d0 := (hw1.cell zd).trans d0
          replace d1 := (hw1.cell zd).trans d1
          replace c2 := (hw1.cell hg).trans c2
          replace hf2 := (hw1.frozen hg).trans hf2
          clear E0 E1 D0 D1
          have hsz2 := hle.size
          generalize W1.ext gg = W2 at *
          have hgb := (O1.lt g rfl).1
          go_wp2
          go_roundw
          case rel => exact ⟨j + 1 + 1, by omega, by go_num, by rw [HB.out]; exact row_bump O1 HM.out HS.out, hle.setCell hgb _⟩
          case measure => simp [intOf]; omega
        · have HP := Lib.hid (HB.out.trans (push_no hsame))
          have hcase : xs[j + 1].fn ≠ xs[j].fn ∨ (xs[j + 1].fn = xs[j].fn ∧ xs[j + 1].line ≠ xs[j].line) := by
            by_cases h1 : xs[j + 1].fn = xs[j].fn
            · exact .inr ⟨h1, fun h2 => hsame ⟨h0, hlast.1.trans h1.symm, hlast.2.trans h2.symm⟩⟩
            · exact .inl h1
          have HMH := Lib.hid hm
          clear hsame hm h0 hti hll hlast c2 hf2
          rcases hcase with h1 | ⟨h1, h2⟩
          all_goals
            first | have e1 := str_ne h1 | (have e1 := str_eq h1; have e2 : (xs[j + 1].line == xs[j].line) = false := by simpa using h2)
            clear h1
            go_wp2_with fail
            obtain ⟨d0, d1, zd, hl⟩ := boxF wr xs[j + 1] 45
            generalize wr.alloc (.cells #[.string xs[j + 1].fn, .int .i64 xs[j + 1].line] 45) = W1 at *
            replace hle := hle.trans hl
            replace O1 := own_le O1 hl
            have E0 := cell_ext (Nat.lt_of_lt_of_le hb hl.size) ((hl.cell hb).trans hdell0)
            have E1 := cell_ext (Nat.lt_of_lt_of_le hb hl.size) ((hl.cell hb).trans hdell1)
            have D0 := cell_ext zd d0
            have D1 := cell_ext zd d1
            clear hcell0 hcell1 hdell0 hdell1 hl S1
            refine wp_region_ext (by kernel_rfl) (by kernel_rfl) ?_
            repeat (go_big_quiet_step (fail))
            refine wpQuiet_nil ?_
            intro _ hw'
            obtain ⟨gg, rfl⟩ := hw'
            have hw1 := Le.ext W1 gg
            replace hle := hle.trans hw1
            replace O1 := own_le O1 hw1
            replace d0 := (hw1.cell zd).trans d0
            replace d1 := (hw1.cell zd).trans d1
            clear E0 E1 D0 D1
            have hsz2 := hle.size
            generalize W1.ext gg = W2 at *
            have HMM := HMH.out
            go_wp2_with (at_builtin; refine wpList_append_sl rfl _ _ 32 rfl w.heap.size 47 i0 _ 32 Tryd.underlying32 hi hz0 hz1 hz2 rfl _ _ (rs) rfl (O1.alloc _) _ 1 1 [(⟨xs[j + 1].fn, xs[j + 1].line, 1⟩ : Rwf)] rfl (sl_one (⟨xs[j + 1].fn, xs[j + 1].line, 1⟩ : Rwf) rfl hokx rfl) (by unfold maxLen; omega) (by omega) (hle.alloc _).size ?_; intro v1 w3 O2 hg2 _; have L2 := (hle.alloc _).grown hg2 (fun k hk => (O1.lt k hk).1); clear hg2)
            go_roundw
            case rel => exact ⟨j + 1 + 1, by omega, by go_num, by rw [HP.out, List.length_append, HMM]; exact O2, L2⟩
            case measure => simp [intOf]; omega
    · obtain rfl : k = xs.length := by omega
      have HO := Lib.hid (⟨O1, HOK.out⟩ : Owd 47 w wr _ (foldL xs))
      clear O1
      go_wp2
      go_ret
      exact ⟨_, rfl, HO.out, hle⟩
end

section
def foldX (xs : List Frm) : List Rwf := cond (vTr xs) (foldL xs) []
theorem foldX_of {xs : List Frm} {p : Bool} (h : vTr xs = p) : foldX xs = cond p (foldL xs) [] := by unfold foldX; rw [h]
theorem foldX_len (xs : List Frm) : (foldX xs).length ≤ 1048576 := by
  cases h : vTr xs
  · rw [foldX_of h]; simp
  · have := vTr_small h
    have h2 := (foldK_len xs xs.length).1
    rw [foldX_of h]; show (foldK xs xs.length).length ≤ _; omega
theorem iFoldTrace_any (A : Option Addr) (n c : Nat) (xs : List Frm) (w : World) (hR : Sl w A n c xs) :
    Calls Tryd.prog 16 #[.slice A n c] w fun e w' => ∃ v, e = .returned v ∧ Owd 47 w w' v (foldX xs) ∧ Le w w' := by
  cases h1 : vTr xs
  · have HX := Lib.hid (foldX_of h1)
    go_enter Tryd.func16, Tryd.ntmps16
    go_wp2_with fail
    refine (iValidTrace_any _ _ _ xs _ hR).mono ?_
    rintro e w1 ⟨rfl, hle⟩
    rw [h1]
    go_wp2
    go_ret
    exact ⟨_, rfl, by rw [HX.out]; exact Owd.nil _ _ _, hle⟩
  · have hsm := vTr_small h1
    have hlen := hR.len
    have HX := Lib.hid (foldX_of h1)
    go_enter Tryd.func16, Tryd.ntmps16
    go_wp2_with fail
    refine (iValidTrace_any _ _ _ xs _ hR).mono ?_
    rintro e w1 ⟨rfl, hle⟩
    rw [h1]
    have S1 := hR.le hle
    go_wp2_with fail
    refine (ifold_any _ _ _ xs _ S1 (by omega)).mono ?_
    rintro e w2 ⟨v, rfl, D, hle2⟩
    go_wp2
    go_ret
    exact ⟨_, rfl, by rw [HX.out]; exact D.mono hle, hle.trans hle2⟩
end
end Go.Proofs.YtnjckloodkdbpaaDoor
