/- the law FnFoldTrace -/
import Derived.Test.YtakkmgeocmndjaaFT0
import Derived.Test.YtakkmgeocmndjaaDN
import Derived.Test.YtakkmgeocmndjaaTrN
namespace Go.Proofs.Ytakkmgeocmndjaa
open Go.RowKit
theorem unfK_flat (rs : List Rwf) : ∀ k, k ≤ rs.length → unfK rs k = (rs.take k).flatMap unfR
  | 0, _ => rfl
  | k + 1, hk => by
    have hk' : k < rs.length := hk
    rw [unfK_at hk', unfK_flat rs k (by omega), List.take_succ_eq_append_getElem hk', List.flatMap_append]; simp
theorem unfL_flat (rs : List Rwf) : unfL rs = rs.flatMap unfR := by
  have h := unfK_flat rs rs.length (Nat.le_refl _)
  rw [List.take_length] at h; exact h
theorem last_split {rs : List Rwf} (h : 0 < rs.length) (x : Rwf) : rs = rs.take (rs.length - 1) ++ [lastR rs] ∧ rs.set (rs.length - 1) x = rs.take (rs.length - 1) ++ [x] := by
  have hk : rs.length - 1 < rs.length := by omega
  constructor
  · have e := List.take_succ_eq_append_getElem hk
    rw [Nat.sub_add_cancel h, List.take_length, ← lastR_at hk] at e
    exact e
  · rw [List.set_eq_take_append_cons_drop, if_pos hk, Nat.sub_add_cancel h, List.drop_length]
theorem unf_push {rs : List Rwf} {f : Frm} (ht : ∀ r ∈ rs, 1 ≤ r.times ∧ r.times ≤ 12) : unfL (pushR rs f) = unfL rs ++ [f] := by
  rw [unfL_flat, unfL_flat]
  by_cases hs : sameR rs f
  · have h0 := hs.1
    obtain ⟨e1, e2⟩ := last_split h0 (bump (lastR rs))
    have hl := ht _ (lastR_mem h0)
    rw [push_yes hs, e2]
    conv => rhs; rw [e1]
    rw [List.flatMap_append, List.flatMap_append, List.append_assoc]
    congr 1
    have hf : f = frmOf (lastR rs) := frm_eq hs.2.1.symm hs.2.2.symm
    have hn : unfN (bump (lastR rs)) = unfN (lastR rs) + 1 := by
      unfold unfN
      show (min ((lastR rs).times + 1) 13).toNat = _
      omega
    simp only [List.flatMap_cons, List.flatMap_nil, List.append_nil]
    unfold unfR
    rw [hn, show frmOf (bump (lastR rs)) = frmOf (lastR rs) from rfl, List.replicate_succ', ← hf]
  · rw [push_no hs, List.flatMap_append]
    congr 1
theorem unf_foldK (xs : List Frm) (h12 : xs.length ≤ 12) : ∀ k, k ≤ xs.length → unfL (foldK xs k) = xs.take k
  | 0, _ => rfl
  | k + 1, hk => by
    have hk' : k < xs.length := hk
    rw [foldK_at hk', unf_push (fun r hr => by have := foldK_times xs k r hr; omega), unf_foldK xs h12 k (by omega), List.take_succ_eq_append_getElem hk']
theorem unf_foldL {xs : List Frm} (h12 : xs.length ≤ 12) : unfL (foldL xs) = xs := by
  have h := unf_foldK xs h12 xs.length (Nat.le_refl _)
  rw [List.take_length] at h; exact h
def adjR (rs : List Rwf) : Prop := ∀ i (h : i + 1 < rs.length), ¬ (rs[i].fn = rs[i + 1].fn ∧ rs[i].line = rs[i + 1].line)
theorem adj_push {rs : List Rwf} {f : Frm} (h : adjR rs) : adjR (pushR rs f) := by
  intro i hi
  by_cases hs : sameR rs f
  · have h0 := hs.1
    have e : pushR rs f = rs.set (rs.length - 1) (bump (lastR rs)) := push_yes hs
    simp only [e] at hi ⊢
    rw [List.length_set] at hi
    rw [List.getElem_set_ne (by omega)]
    by_cases hl : i + 1 = rs.length - 1
    · rw [List.getElem_set]
      rw [if_pos hl.symm]
      have := h i hi
      have e2 : lastR rs = rs[i + 1] := by rw [lastR_at (by omega)]; congr 1; omega
      show ¬ (rs[i].fn = (lastR rs).fn ∧ rs[i].line = (lastR rs).line)
      rw [e2]; exact this
    · rw [List.getElem_set_ne (by omega)]
      exact h i hi
  · have e : pushR rs f = rs ++ [⟨f.fn, f.line, 1⟩] := push_no hs
    simp only [e] at hi ⊢
    rw [List.length_append] at hi
    simp at hi
    rw [List.getElem_append_left (by omega)]
    by_cases hl : i + 1 < rs.length
    · rw [List.getElem_append_left hl]; exact h i hl
    · have e3 : i + 1 = rs.length := by omega
      rw [List.getElem_append_right (by omega)]
      simp only [e3, Nat.sub_self, List.getElem_cons_zero]
      intro hh
      have e2 : lastR rs = rs[i] := by rw [lastR_at (by omega)]; congr 1; omega
      exact hs ⟨by omega, by rw [e2]; exact hh.1, by rw [e2]; exact hh.2⟩
theorem adj_fold (xs : List Frm) : ∀ k, adjR (foldK xs k)
  | 0 => fun i h => by simp [foldK] at h
  | k + 1 => adj_push (adj_fold xs k)
set_option maxHeartbeats 1000000 in
set_option maxRecDepth 100000 in
theorem fnFoldTrace_walk (A : Option Addr) (n cap : Nat) (bs : List By) (w : World) (hR : Sl w A n cap bs) :
    Calls Try.prog 7 #[.slice A n cap] w fun e w' => e = .returned (.bool true) ∧ Le w w' := by
  have hm := hR.n_le
  by_cases hbig : 1048576 < n
  · go_enter Try.func7, Try.ntmps7
    go_wp2
    go_ret
    exact ⟨rfl, Le.refl w⟩
  go_enter Try.func7, Try.ntmps7
  go_wp2_with fail
  refine (drawFoldTrace_any A n cap bs w hR).mono ?_
  rintro e w1 ⟨B, m, c, xs, rfl, S, hm8, L0⟩
  go_wp2_with fail
  refine (Calls.sl1 (by decide) (iFoldTrace_any _ _ _ xs _ S)).mono ?_
  rintro e w2 ⟨A3, c3, rfl, S3, hle⟩
  replace S := S.le hle
  replace L0 := L0.trans hle
  clear hle
  go_wp2_with fail
  refine (Calls.sl1 (by decide) (sFoldTrace_any _ _ _ xs _ S)).mono ?_
  rintro e w3 ⟨A4, c4, rfl, S4, hle⟩
  replace S := S.le hle
  replace S3 := S3.le hle
  replace L0 := L0.trans hle
  clear hle
  go_wp2_with fail
  refine (equalRows_self _ _ _ _ _ _ _ S3 S4).mono ?_
  rintro e w4 ⟨rfl, hle⟩
  replace S := S.le hle
  replace S3 := S3.le hle
  replace L0 := L0.trans hle
  clear hle
  go_wp2_with fail
  refine (iValidTrace_any _ _ _ xs _ S).mono ?_
  rintro e w5 ⟨rfl, hle⟩
  replace S := S.le hle
  replace S3 := S3.le hle
  replace L0 := L0.trans hle
  clear hle
  clear S4
  cases h1 : vTr xs
  · go_wp2_with fail
    refine (Calls.sl1 (by decide) (sFoldTrace_any _ _ _ xs _ S)).mono ?_
    rintro e w6 ⟨A5, c5, rfl, S5, hle⟩
    replace S := S.le hle
    replace S3 := S3.le hle
    replace L0 := L0.trans hle
    clear hle
    go_wp2_with fail
    refine (equalRows_self _ _ _ _ _ _ _ S3 S5).mono ?_
    rintro e w7 ⟨rfl, hle⟩
    replace L0 := L0.trans hle
    clear hle
    go_wp2
    go_ret
    exact ⟨rfl, L0⟩
  · have hlen := S.len
    have h12 := vTr_small h1
    have hX : foldX xs = foldL xs := foldX_of h1
    have hu : unfL (foldL xs) = xs := unf_foldL h12
    have HOK := Lib.hid (show unfOk (foldL xs) = true from unfOk_eq (by rw [hu]; exact h1) (by rw [hu]))
    have HX := Lib.hid (show unfX (foldL xs) = xs by rw [unfX_of HOK.out]; exact hu)
    have HADJ := Lib.hid (adj_fold xs xs.length)
    have HT := Lib.hid (foldK_times xs xs.length)
    have hfl : (foldL xs).length ≤ 12 := by have := (foldK_len xs xs.length).1; show (foldK xs xs.length).length ≤ 12; omega
    rw [hX] at S3 ⊢
    have HADJ' : Hid (adjR (foldL xs)) := HADJ
    have HT' : Hid (∀ r ∈ foldL xs, 1 ≤ r.times ∧ r.times ≤ (xs.length : Int)) := HT
    clear hX hu h1 HADJ HT
    generalize foldL xs = rs at *
    go_wp2_with fail
    refine (Calls.sl2 (by decide) (iUnfoldTrace_any _ _ _ rs _ S3 (by omega))).mono ?_
    rintro e w6 ⟨A6, c6, rfl, S6, hle⟩
    rw [HX.out, hlen] at S6 ⊢
    rw [HOK.out]
    replace S := S.le hle
    replace S3 := S3.le hle
    replace L0 := L0.trans hle
    clear hle hlen
    generalize w6 = W6 at *
    go_wp2
    go_loopw [7] (fun i wr => ∃ k : Nat, 1 ≤ k ∧ (k = 1 ∨ k ≤ rs.length) ∧ i = .int .i64 k ∧ Le W6 wr) (fun i _ => rs.length - (intOf i).toNat)
    case atStart => exact ⟨1, Nat.le_refl _, .inl rfl, rfl, Le.refl _⟩
    case round =>
      obtain ⟨k, hk1, hk, rfl, hle⟩ := hrel
      have T := S.le hle
      have T3 := S3.le hle
      have T6 := S6.le hle
      have LR := L0.trans hle
      clear S S3 S6 L0
      by_cases hlt : k < rs.length
      · obtain ⟨j, hjk⟩ : ∃ j, k = j + 1 := ⟨k - 1, by omega⟩
        have hjl : j < rs.length := by omega
        have hadj : ¬ (rs[j].fn = rs[k].fn ∧ rs[j].line = rs[k].line) := by subst hjk; exact HADJ'.out j hlt
        have htm : decide (rs[k].times < 1) = false := decide_eq_false (by have := HT'.out _ (List.getElem_mem hlt); omega)
        obtain ⟨b, off, rfl, hb, hcell0, hcell1, hcell2, _⟩ := T3.rwf_at hlt
        obtain ⟨b2, off2, e2, hb2, hdell0, hdell1, hdell2, _⟩ := T3.rwf_at hjl
        cases e2
        have E0 := cell_ext hb hcell0
        have F0 := cell_ext hb2 hdell0
        have E1 := cell_ext hb hcell1
        have F1 := cell_ext hb2 hdell1
        have E2 := cell_ext hb hcell2
        have hwz : IntKind.i64.wrap ((k : Int) - 1) = (j : Int) := by rw [show (k : Int) - 1 = (j : Int) by omega]; exact IntWalk.i64_in _ (by omega)
        have hj0 : (0 : Int) ≤ (j : Int) := by omega
        have hjn : (j : Int) < (rs.length : Int) := by omega
        have hkx : (0 : Int) ≤ (k : Int) := by omega
        have hcase : rs[j].fn ≠ rs[k].fn ∨ (rs[j].fn = rs[k].fn ∧ rs[j].line ≠ rs[k].line) := by
          by_cases h1 : rs[j].fn = rs[k].fn
          · exact .inr ⟨h1, fun h2 => hadj ⟨h1, h2⟩⟩
          · exact .inl h1
        clear hadj hjk
        rcases hcase with h1 | ⟨h1, h2⟩
        all_goals
          first | have e1 := str_ne h1 | (have e1 := str_eq h1; have e2 : (rs[j].line == rs[k].line) = false := by simpa using h2)
          clear h1
          go_wp2_with fail
          refine wp_region_ext (by kernel_rfl) (by kernel_rfl) ?_
          repeat (go_big_quiet_step (fail))
          refine wpQuiet_nil ?_
          intro _ hw'
          obtain ⟨g, rfl⟩ := hw'
          have hw1 := Le.ext wr g
          generalize wr.ext g = W2 at *
          go_wp2
          go_roundw
          case rel => exact ⟨k + 1, by omega, .inr (by omega), by go_num, hle.trans hw1⟩
          case measure => simp [intOf]; omega
      · go_wp2_with fail
        refine (equalTrace_self _ _ _ _ _ _ _ T6 T).mono ?_
        rintro e w8 ⟨rfl, hle8⟩
        go_wp2
        go_ret
        exact ⟨rfl, LR.trans hle8⟩
end Go.Proofs.Ytakkmgeocmndjaa
