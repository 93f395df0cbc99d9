/- UnfoldTrace: plain; spec.unfold; slices.Equal of rows -/
import Derived.Test.YtakkmgeocmndjaaTrL
namespace Go.Proofs.Ytakkmgeocmndjaa
open Go.RowKit
instance instDecRwf : DecidableEq Rwf := fun a b => decidable_of_iff (a.fn = b.fn ∧ a.line = b.line ∧ a.times = b.times) ⟨fun h => by cases a; cases b; simp_all, fun h => by subst h; exact ⟨rfl, rfl, rfl⟩⟩
def frmOf (r : Rwf) : Frm := ⟨r.fn, r.line⟩
def unfN (r : Rwf) : Nat := (min r.times 13).toNat
def unfR (r : Rwf) : List Frm := List.replicate (unfN r) (frmOf r)
def unfK (rs : List Rwf) : Nat → List Frm
  | 0 => []
  | k + 1 => unfK rs k ++ unfR (rs.getD k rwf0)
theorem unfK_at {rs : List Rwf} {k : Nat} (hk : k < rs.length) : unfK rs (k + 1) = unfK rs k ++ unfR rs[k] := by
  rw [unfK, List.getD_eq_getElem?_getD, List.getElem?_eq_getElem hk, Option.getD_some]
theorem unfN_le (r : Rwf) : unfN r ≤ 13 := by unfold unfN; omega
theorem unfK_len (rs : List Rwf) : ∀ k, (unfK rs k).length ≤ 13 * k
  | 0 => Nat.le_refl _
  | k + 1 => by
    have := unfK_len rs k
    have h2 := unfN_le (rs.getD k rwf0)
    show (unfK rs k ++ unfR _).length ≤ _
    rw [List.length_append]
    unfold unfR
    rw [List.length_replicate]; omega
theorem frmOf_ok {r : Rwf} (h : Enc.ok r) : Enc.ok (frmOf r) := ⟨h.1, h.2.1, h.2.2.1⟩
theorem unfK_ok (rs : List Rwf) (hok : ∀ r ∈ rs, Enc.ok r) : ∀ k, k ≤ rs.length → ∀ f ∈ unfK rs k, Enc.ok f
  | 0, _, f, h => nomatch h
  | k + 1, hk, f, h => by
    have hk' : k < rs.length := hk
    rw [unfK_at hk'] at h
    rcases List.mem_append.1 h with h | h
    · exact unfK_ok rs hok k (by omega) f h
    · rw [List.eq_of_mem_replicate h]; exact frmOf_ok (hok _ (List.getElem_mem hk'))
def unfL (rs : List Rwf) : List Frm := unfK rs rs.length
def unfOk (rs : List Rwf) : Bool := vTr (unfL rs) && decide (foldL (unfL rs) = rs)
def unfX (rs : List Rwf) : List Frm := cond (unfOk rs) (unfL rs) []
theorem unfX_of {rs : List Rwf} {p : Bool} (h : unfOk rs = p) : unfX rs = cond p (unfL rs) [] := by unfold unfX; rw [h]
theorem unfX_len (rs : List Rwf) : (unfX rs).length ≤ 1048576 := by
  cases h : unfOk rs
  · rw [unfX_of h]; simp
  · have h2 := h
    unfold unfOk at h2; simp at h2
    have := vTr_small h2.1
    rw [unfX_of h]; show (unfL rs).length ≤ _; omega
theorem unfK_mono (rs : List Rwf) (k : Nat) : ∀ j, k ≤ j → (unfK rs k).length ≤ (unfK rs j).length := by
  intro j h
  induction j with
  | zero => cases Nat.le_zero.1 h; exact Nat.le_refl _
  | succ j ih =>
    by_cases e : k = j + 1
    · subst e; exact Nat.le_refl _
    · have := ih (by omega)
      show _ ≤ (unfK rs j ++ unfR _).length
      rw [List.length_append]; omega
/-- a row that comes no times or too often is in no trace's rows -/
theorem unf_bad {rs : List Rwf} {k : Nat} (hk : k < rs.length) (h : rs[k].times < 1 ∨ 12 < ((unfK rs k).length : Int) + rs[k].times) : unfOk rs = false := by
  cases hu : unfOk rs
  · rfl
  · exfalso
    unfold unfOk at hu
    simp at hu
    have h12 := vTr_small hu.1
    rcases h with h | h
    · have := foldK_times (unfL rs) (unfL rs).length rs[k] (by
        have e : foldK (unfL rs) (unfL rs).length = rs := hu.2
        rw [e]; exact List.getElem_mem hk)
      omega
    · have h1 := unfK_mono rs (k + 1) rs.length hk
      have h2 : (unfK rs rs.length).length ≤ 12 := h12
      rw [unfK_at hk, List.length_append] at h1
      unfold unfR unfN at h1
      rw [List.length_replicate] at h1
      omega

theorem row_cases (a b : Rwf) : a = b ∨ a.fn ≠ b.fn ∨ (a.fn = b.fn ∧ a.line ≠ b.line) ∨ (a.fn = b.fn ∧ a.line = b.line ∧ a.times ≠ b.times) := by
  by_cases h1 : a.fn = b.fn
  · by_cases h2 : a.line = b.line
    · by_cases h3 : a.times = b.times
      · left; cases a; cases b; simp_all
      · exact .inr (.inr (.inr ⟨h1, h2, h3⟩))
    · exact .inr (.inr (.inl ⟨h1, h2⟩))
  · exact .inr (.inl h1)
theorem take_grow {α : Type} {xs ys : List α} {k : Nat} (h1 : k < xs.length) (h2 : k < ys.length) (h : xs.take k = ys.take k) (he : xs[k] = ys[k]) : xs.take (k + 1) = ys.take (k + 1) := by
  rw [List.take_succ_eq_append_getElem h1, List.take_succ_eq_append_getElem h2, h, he]

set_option maxHeartbeats 1000000 in
set_option maxRecDepth 100000 in
theorem iEqualRows_any (A B : Option Addr) (n c m d : Nat) (xs ys : List Rwf) (w : World) (hR : Sl w A n c xs) (hS : Sl w B m d ys) :
    Calls Try.prog 68 #[.slice A n c, .slice B m d] w fun e w' => e = .returned (.bool (decide (xs = ys))) ∧ Le w w' := by
  obtain rfl := hR.len
  obtain rfl := hS.len
  have hm := hR.n_le
  have hm2 := hS.n_le
  by_cases hl : xs.length = ys.length
  · have hb : ((xs.length : Int) != (ys.length : Int)) = false := by simp [hl]
    go_enter Try.func68, Try.ntmps68
    go_wp2
    go_loopw [5, 13] (fun _ i wr => ∃ k : Nat, k ≤ ys.length ∧ i = .int .i64 k ∧ xs.take k = ys.take k ∧ Le w wr) (fun _ i _ => ys.length - (intOf i).toNat)
    case atStart => exact ⟨0, Nat.zero_le _, rfl, rfl, Le.refl _⟩
    case round =>
      obtain ⟨k, hk, rfl, htk, hle⟩ := hrel
      have HTK := Lib.hid htk; clear htk
      have T := hR.le hle
      have T2 := hS.le hle
      clear hR hS
      by_cases hlt : k < ys.length
      · have hltx : k < xs.length := by omega
        have hki : (k : Int) < (xs.length : Int) := by omega
        have hk0 : (0 : Int) ≤ (k : Int) := by omega
        obtain ⟨b, off, rfl, hb, hcell0, hcell1, hcell2, -⟩ := T.rwf_at hltx
        obtain ⟨b2, off2, rfl, hb2, hdell0, hdell1, hdell2, -⟩ := T2.rwf_at hlt
        have E0 := cell_ext hb hcell0
        have E1 := cell_ext hb hcell1
        have E2 := cell_ext hb hcell2
        have F0 := cell_ext hb2 hdell0
        have F1 := cell_ext hb2 hdell1
        have F2 := cell_ext hb2 hdell2
        have HNE : Hid (xs[k] ≠ ys[k] → decide (xs = ys) = false) := fun h => decide_eq_false (fun e => h (by subst e; rfl))
        rcases row_cases xs[k] ys[k] with h | h | ⟨h, h2⟩ | ⟨h, h2, h3⟩
        · have HT := Lib.hid (take_grow hltx hlt HTK.out h)
          have e0 := str_eq (congrArg Rwf.fn h)
          have e1 : (xs[k].line == ys[k].line) = true := by simp [h]
          have e2 : (xs[k].times == ys[k].times) = true := by simp [h]
          clear h HNE HTK T T2
          go_wp2_with fail
          refine wp_region_ext (by kernel_rfl) (by kernel_rfl) ?_
          repeat (go_big_quiet_step (fail))
          refine wpQuiet_nil ?_
          intro _ hw'
          obtain ⟨g, rfl⟩ := hw'
          have hw1 := Le.ext wr g
          generalize wr.ext g = W2 at *
          go_wp2
          go_roundw
          case rel => exact ⟨k + 1, by omega, by go_num, HT.out, hle.trans hw1⟩
          case measure => simp [intOf]; omega
        · have HF := Lib.hid (HNE.out (fun e => h (by rw [e])))
          have e0 := str_ne h
          clear h HNE HTK T T2
          go_wp2_with fail
          refine wp_region_ext (by kernel_rfl) (by kernel_rfl) ?_
          repeat (go_big_quiet_step (fail))
          refine wpQuiet_nil ?_
          intro _ hw'
          obtain ⟨g, rfl⟩ := hw'
          have hw1 := Le.ext wr g
          generalize wr.ext g = W2 at *
          go_wp2
          go_ret
          exact ⟨ret_bool HF.out.symm, hle.trans hw1⟩
        · have HF := Lib.hid (HNE.out (fun e => h2 (by rw [e])))
          have e0 := str_eq h
          have e1 : (xs[k].line == ys[k].line) = false := by simpa using h2
          clear h h2 HNE HTK T T2
          go_wp2_with fail
          refine wp_region_ext (by kernel_rfl) (by kernel_rfl) ?_
          repeat (go_big_quiet_step (fail))
          refine wpQuiet_nil ?_
          intro _ hw'
          obtain ⟨g, rfl⟩ := hw'
          have hw1 := Le.ext wr g
          generalize wr.ext g = W2 at *
          go_wp2
          go_ret
          exact ⟨ret_bool HF.out.symm, hle.trans hw1⟩
        · have HF := Lib.hid (HNE.out (fun e => h3 (by rw [e])))
          have e0 := str_eq h
          have e1 : (xs[k].line == ys[k].line) = true := by simpa using h2
          have e2 : (xs[k].times == ys[k].times) = false := by simpa using h3
          clear h h2 h3 HNE HTK T T2
          go_wp2_with fail
          refine wp_region_ext (by kernel_rfl) (by kernel_rfl) ?_
          repeat (go_big_quiet_step (fail))
          refine wpQuiet_nil ?_
          intro _ hw'
          obtain ⟨g, rfl⟩ := hw'
          have hw1 := Le.ext wr g
          generalize wr.ext g = W2 at *
          go_wp2
          go_ret
          exact ⟨ret_bool HF.out.symm, hle.trans hw1⟩
      · have HF := Lib.hid (decide_eq_true (p := xs = ys) (by
          have h := HTK.out
          rw [List.take_of_length_le (by omega), List.take_of_length_le (by omega)] at h; exact h))
        clear HTK
        go_wp2
        go_ret
        exact ⟨ret_bool HF.out.symm, hle⟩
  · have hb : ((xs.length : Int) != (ys.length : Int)) = true := by simp; omega
    have HF := Lib.hid (decide_eq_false (p := xs = ys) (fun h => hl (by rw [h])))
    go_enter Try.func68, Try.ntmps68
    go_wp2
    go_ret
    exact ⟨ret_bool HF.out.symm, Le.refl _⟩

set_option maxHeartbeats 1000000 in
set_option maxRecDepth 100000 in
theorem sunfold_any (A : Option Addr) (n c : Nat) (rs : List Rwf) (w : World) (hR : Sl w A n c rs) (hn : n ≤ 1048576) :
    Calls Try.prog 70 #[.slice A n c] w fun e w' => ∃ v, e = .returned v ∧ Owd 28 w w' v (unfL rs) ∧ Le w w' := by
  obtain ⟨i0, hi, hz0, hz1', hz2⟩ := info_parts infoFrame
  obtain rfl := hR.len
  have HOK := Lib.hid (unfK_ok rs hR.ok rs.length (Nat.le_refl _))
  go_enter Try.func70, Try.ntmps70
  go_wp2
  go_loopw [3, 4] (fun v i wr => ∃ k : Nat, k ≤ rs.length ∧ i = .int .i64 k ∧ wr.ownsRow w.heap.size 28 2 v (unfK rs k).length ((unfK rs k).flatMap Enc.cells) ∧ Le w wr) (fun _ i _ => rs.length - (intOf i).toNat)
  case atStart => exact ⟨0, Nat.zero_le _, rfl, own_empty (Nat.le_refl _) rfl, Le.new _ _⟩
  case round =>
    obtain ⟨k, hk, rfl, O1, hle⟩ := hrel
    have S1 := hR.le hle
    by_cases hlt : k < rs.length
    · obtain ⟨b, off, rfl, hb, hcell0, hcell1, hcell2, hns, hp1, hp2, hp3, hp4⟩ := S1.rwf_at hlt
      have hll := unfK_len rs k
      have HB := Lib.hid (unfK_at hlt)
      have hmin : (if (13 : Int) < rs[k].times then (13 : Int) else rs[k].times) = min rs[k].times 13 := by split <;> omega
      have hfo : Enc.ok (frmOf rs[k]) := ⟨hns, hp1, hp2⟩
      have HN : Hid (unfN rs[k] = (min rs[k].times 13).toNat) := rfl
      have hbk := O1.lt
      have hsz := hle.size
      generalize wr = WR at *
      go_wp2
      go_loopw [3, 5] (fun v i wr => ∃ (z : Int) (q : Nat), i = .int .i64 z ∧ q ≤ unfN rs[k] ∧ z = min rs[k].times 13 - q ∧ wr.ownsRow w.heap.size 28 2 v (unfK rs k ++ List.replicate q (frmOf rs[k])).length ((unfK rs k ++ List.replicate q (frmOf rs[k])).flatMap Enc.cells) ∧ Le w wr) (fun _ i _ => (intOf i).toNat)
      case atStart => exact ⟨_, 0, rfl, Nat.zero_le _, by omega, by simpa using O1, hle⟩
      case round =>
        obtain ⟨z, q, rfl, hq, hz, O2, hle2⟩ := hrel
        have S2 := hR.le hle2
        clear O1 S1 hcell0 hcell1 hcell2
        obtain ⟨b', off', hbe, hb2, hcell0, hcell1, hcell2, -⟩ := S2.rwf_at hlt
        simp only [Option.some.injEq, Addr.mk.injEq, and_true] at hbe
        obtain ⟨rfl, rfl⟩ := hbe
        have hqn := unfN_le rs[k]
        have hsz2 := hle2.size
        by_cases h0 : 0 < z
        · have hqlt : q < unfN rs[k] := by have := HN.out; omega
          have hz1 : IntKind.i64.wrap (z - 1) = z - 1 := IntWalk.i64_in _ (by omega)
          have hlen : (unfK rs k ++ List.replicate q (frmOf rs[k])).length ≤ 13 * k + 13 := by rw [List.length_append, List.length_replicate]; omega
          have HZ := Lib.hid hz
          have hO2 := O2.lt
          have HE : Hid ((unfK rs k ++ List.replicate q (frmOf rs[k])) ++ [frmOf rs[k]] = unfK rs k ++ List.replicate (q + 1) (frmOf rs[k])) := by
            show _ = _
            rw [List.append_assoc, List.replicate_succ']
          generalize unfK rs k ++ List.replicate q (frmOf rs[k]) = LL at *
          clear hz hmin
          go_wp2_with (at_builtin; refine wpList_append_sl rfl _ _ 23 rfl w.heap.size 28 i0 _ 24 Try.underlying23 hi hz0 hz1' hz2 rfl _ _ LL rfl (O2.alloc _) _ 1 1 [frmOf rs[k]] rfl (sl_one (frmOf rs[k]) rfl hfo rfl) (by unfold maxLen; omega) (by omega) (hle2.alloc _).size ?_; intro v1 w3 O3 hg3 _; have L3 := (hle2.alloc _).grown hg3 (fun k hk => (hO2 k hk).1); clear hg3)
          go_roundw
          case rel => exact ⟨z - 1, q + 1, by go_num, by omega, by have := HZ.out; omega, by rw [← HE.out, List.length_append]; exact O3, L3⟩
          case measure => simp [intOf]; omega
        · have e : q = unfN rs[k] := by have := HN.out; omega
          subst e
          rw [show unfK rs k ++ List.replicate (unfN rs[k]) (frmOf rs[k]) = unfK rs (k + 1) from HB.out.symm] at O2
          have HO := Lib.hid O2
          clear O2 hz hmin
          go_wp2
          go_roundw
          case rel => exact ⟨k + 1, by omega, by go_num, HO.out, hle2⟩
          case measure => simp [intOf]; omega
    · obtain rfl : k = rs.length := by omega
      have HO := Lib.hid (⟨O1, HOK.out⟩ : Owd 28 w wr _ (unfL rs))
      clear O1
      go_wp2
      go_ret
      exact ⟨_, rfl, HO.out, hle⟩
end Go.Proofs.Ytakkmgeocmndjaa
