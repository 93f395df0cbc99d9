/- UnfoldTrace of the model and of the program -/
import Derived.Test.YtakkmgeocmndjaaTrM
import Derived.Test.YtakkmgeocmndjaaUR
import Derived.Test.YtakkmgeocmndjaaAG
namespace Go.Proofs.Ytakkmgeocmndjaa
open Go.RowKit
theorem unfOk_v {rs : List Rwf} (h : vTr (unfL rs) = false) : unfOk rs = false := by unfold unfOk; rw [h]; rfl
theorem unfOk_ne {rs : List Rwf} (h : foldL (unfL rs) ≠ rs) : unfOk rs = false := by unfold unfOk; rw [decide_eq_false h, Bool.and_false]
theorem unfOk_eq {rs : List Rwf} (hv : vTr (unfL rs) = true) (h : foldL (unfL rs) = rs) : unfOk rs = true := by unfold unfOk; rw [decide_eq_true h, hv]; rfl
set_option maxHeartbeats 1000000 in
set_option maxRecDepth 100000 in
theorem sUnfoldTrace_any (A : Option Addr) (n c : Nat) (rs : List Rwf) (w : World) (hR : Sl w A n c rs) (hn : n ≤ 1048576) :
    Calls Try.prog 35 #[.slice A n c] w fun e w' => ∃ v, e = .returned (.tuple #[v, .bool (unfOk rs)]) ∧ Owd 28 w w' v (unfX rs) ∧ Le w w' := by
  obtain rfl := hR.len
  have hul := unfK_len rs rs.length
  have hfl := (foldK_len (unfL rs) (unfL rs).length).1
  go_enter Try.func35, Try.ntmps35
  go_wp2_with fail
  refine (sunfold_any _ _ _ rs _ hR hn).mono ?_
  rintro e w1 ⟨v, rfl, D, L1⟩
  obtain ⟨A1, c1, rfl, S1, _⟩ := D.form (by decide)
  have HD := Lib.hid D
  have R1 := hR.le L1
  clear D hR
  go_wp2_with fail
  refine (sfold_any _ _ _ (unfL rs) _ S1 (by show (unfK rs rs.length).length ≤ _; omega)).mono ?_
  rintro e w2 ⟨v2, rfl, D2, hle2⟩
  obtain ⟨A2, c2, rfl, S2, _⟩ := D2.form (by decide)
  replace L1 := L1.trans hle2
  replace R1 := R1.le hle2
  replace S1 := S1.le hle2
  have HD2 := Lib.hid (HD.out.le hle2)
  clear D2 hle2 HD
  go_wp2_with fail
  refine (validTrace_any _ _ _ (unfL rs) _ S1).mono ?_
  rintro e w3 ⟨rfl, hle3⟩
  replace L1 := L1.trans hle3
  replace R1 := R1.le hle3
  replace S2 := S2.le hle3
  have HD := Lib.hid (HD2.out.le hle3)
  clear HD2 hle3 S1
  cases h1 : vTr (unfL rs)
  · have HF := Lib.hid (unfOk_v h1)
    have HX := Lib.hid (unfX_of HF.out)
    go_wp2
    exact bodyPost_ret (v := .tuple #[.slice none 0 0, .bool false]) (by simp [results, Try.results35, go_sem]) rfl ⟨_, by rw [HF.out], by rw [HX.out]; exact Owd.nil _ _ _, L1⟩
  · by_cases hl : (foldL (unfL rs)).length = rs.length
    · have hb : (((foldL (unfL rs)).length : Int) != (rs.length : Int)) = false := by simp [hl]
      have H1 := Lib.hid h1
      have HEQ : Hid (foldL (unfL rs) = rs → unfOk rs = true) := fun h => unfOk_eq H1.out h
      have HNE : Hid (foldL (unfL rs) ≠ rs → unfOk rs = false) := unfOk_ne
      have HX1 : Hid (unfOk rs = true → unfX rs = unfL rs) := fun h => unfX_of h
      have HX0 : Hid (unfOk rs = false → unfX rs = []) := fun h => unfX_of h
      clear h1 H1 hfl hul
      generalize foldL (unfL rs) = fs at *
      generalize unfL rs = us at *
      go_wp2
      generalize w3 = W3 at *
      go_loopw [6] (fun i wr => ∃ k : Nat, k ≤ rs.length ∧ i = .int .i64 k ∧ fs.take k = rs.take k ∧ Le W3 wr) (fun i _ => rs.length - (intOf i).toNat)
      case atStart => exact ⟨0, Nat.zero_le _, rfl, rfl, Le.refl _⟩
      case round =>
        obtain ⟨k, hk, rfl, htk, hle⟩ := hrel
        have HTK := Lib.hid htk; clear htk
        have T := S2.le hle
        have T2 := R1.le hle
        have LR := L1.trans hle
        have HDR := Lib.hid (HD.out.le hle)
        clear S2 R1 HD
        by_cases hlt : k < rs.length
        · have hltx : k < fs.length := by omega
          have hki : (k : Int) < (fs.length : Int) := by omega
          have hk0 : (0 : Int) ≤ (k : Int) := by omega
          obtain ⟨b, off, rfl, hb, hcell0, hcell1, hcell2, -⟩ := T.rwf_at hltx
          obtain ⟨b2, off2, rfl, hb2, hdell0, hdell1, hdell2, -⟩ := T2.rwf_at hlt
          have E0 := cell_ext hb hcell0
          have E1 := cell_ext hb hcell1
          have E2 := cell_ext hb hcell2
          have F0 := cell_ext hb2 hdell0
          have F1 := cell_ext hb2 hdell1
          have F2 := cell_ext hb2 hdell2
          have HK : Hid (fs[k] ≠ rs[k] → unfOk rs = false) := fun h => HNE.out (fun e => h (by simp only [e]))
          rcases row_cases fs[k] rs[k] with h | h | ⟨h, h2⟩ | ⟨h, h2, h3⟩
          · have HT := Lib.hid (take_grow hltx hlt HTK.out h)
            have e0 := str_eq (congrArg Rwf.fn h)
            have e1 : (fs[k].line == rs[k].line) = true := by simp [h]
            have e2 : (fs[k].times == rs[k].times) = true := by simp [h]
            clear h HK HTK T T2
            go_wp2_with fail
            refine wp_region_ext (by kernel_rfl) (by kernel_rfl) ?_
            repeat (go_big_quiet_step (fail))
            refine wpQuiet_nil ?_
            intro _ hw'
            obtain ⟨g, rfl⟩ := hw'
            have hw1 := Le.ext wr g
            generalize wr.ext g = W2 at *
            go_wp2
            go_roundw
            case rel => exact ⟨k + 1, by omega, by go_num, HT.out, hle.trans hw1⟩
            case measure => simp [intOf]; omega
          · have HF := Lib.hid (HK.out (fun e => h (by rw [e])))
            have e0 := str_ne h
            clear h HK HTK T T2
            go_wp2_with fail
            refine wp_region_ext (by kernel_rfl) (by kernel_rfl) ?_
            repeat (go_big_quiet_step (fail))
            refine wpQuiet_nil ?_
            intro _ hw'
            obtain ⟨g, rfl⟩ := hw'
            have hw1 := Le.ext wr g
            generalize wr.ext g = W2 at *
            go_wp2
            exact bodyPost_ret (v := .tuple #[.slice none 0 0, .bool false]) (by simp [results, Try.results35, go_sem]) rfl ⟨_, by rw [HF.out], by rw [HX0.out HF.out]; exact Owd.nil _ _ _, LR.trans hw1⟩
          · have HF := Lib.hid (HK.out (fun e => h2 (by rw [e])))
            have e0 := str_eq h
            have e1 : (fs[k].line == rs[k].line) = false := by simpa using h2
            clear h h2 HK HTK T T2
            go_wp2_with fail
            refine wp_region_ext (by kernel_rfl) (by kernel_rfl) ?_
            repeat (go_big_quiet_step (fail))
            refine wpQuiet_nil ?_
            intro _ hw'
            obtain ⟨g, rfl⟩ := hw'
            have hw1 := Le.ext wr g
            generalize wr.ext g = W2 at *
            go_wp2
            exact bodyPost_ret (v := .tuple #[.slice none 0 0, .bool false]) (by simp [results, Try.results35, go_sem]) rfl ⟨_, by rw [HF.out], by rw [HX0.out HF.out]; exact Owd.nil _ _ _, LR.trans hw1⟩
          · have HF := Lib.hid (HK.out (fun e => h3 (by rw [e])))
            have e0 := str_eq h
            have e1 : (fs[k].line == rs[k].line) = true := by simpa using h2
            have e2 : (fs[k].times == rs[k].times) = false := by simpa using h3
            clear h h2 h3 HK HTK T T2
            go_wp2_with fail
            refine wp_region_ext (by kernel_rfl) (by kernel_rfl) ?_
            repeat (go_big_quiet_step (fail))
            refine wpQuiet_nil ?_
            intro _ hw'
            obtain ⟨g, rfl⟩ := hw'
            have hw1 := Le.ext wr g
            generalize wr.ext g = W2 at *
            go_wp2
            exact bodyPost_ret (v := .tuple #[.slice none 0 0, .bool false]) (by simp [results, Try.results35, go_sem]) rfl ⟨_, by rw [HF.out], by rw [HX0.out HF.out]; exact Owd.nil _ _ _, LR.trans hw1⟩
        · have hfr : fs = rs := by
            have h := HTK.out
            rw [List.take_of_length_le (by omega), List.take_of_length_le (by omega)] at h; exact h
          have HF := Lib.hid (HEQ.out hfr)
          clear hfr
          go_wp2
          exact bodyPost_ret (v := .tuple #[.slice A1 us.length c1, .bool true]) (by simp [results, Try.results35, go_sem]) rfl ⟨_, by rw [HF.out], by rw [HX1.out HF.out]; exact HDR.out, LR⟩
    · have hb : (((foldL (unfL rs)).length : Int) != (rs.length : Int)) = true := by simp; omega
      have HF := Lib.hid (unfOk_ne (rs := rs) (fun h => hl (by rw [h])))
      have HX := Lib.hid (unfX_of HF.out)
      go_wp2
      exact bodyPost_ret (v := .tuple #[.slice none 0 0, .bool false]) (by simp [results, Try.results35, go_sem]) rfl ⟨_, by rw [HF.out], by rw [HX.out]; exact Owd.nil _ _ _, L1⟩
set_option maxHeartbeats 1000000 in
set_option maxRecDepth 100000 in
theorem iUnfoldTrace_any (A : Option Addr) (n c : Nat) (rs : List Rwf) (w : World) (hR : Sl w A n c rs) (hn : n ≤ 1048576) :
    Calls Try.prog 33 #[.slice A n c] w fun e w' => ∃ v, e = .returned (.tuple #[v, .bool (unfOk rs)]) ∧ Owd 28 w w' v (unfX rs) ∧ Le w w' := by
  obtain rfl := hR.len
  obtain ⟨i0, hi, hz0, hz1, hz2⟩ := info_parts infoFrame
  go_enter Try.func33, Try.ntmps33
  have HOK := Lib.hid (fun k (hk : k ≤ rs.length) => unfK_ok rs hR.ok k hk)
  go_wp2
  go_loopw [4, 9] (fun v i wr => ∃ k : Nat, k ≤ rs.length ∧ i = .int .i64 k ∧ (unfK rs k).length ≤ 12 ∧ wr.ownsRow w.heap.size 28 2 v (unfK rs k).length ((unfK rs k).flatMap Enc.cells) ∧ Le w wr) (fun _ i _ => rs.length - (intOf i).toNat)
  case atStart => exact ⟨0, Nat.zero_le _, rfl, Nat.zero_le _, World.ownsRow_nil _ _ _ _, Le.refl _⟩
  case round =>
    obtain ⟨k, hk, rfl, h12, O1, hle⟩ := hrel
    have S1 := hR.le hle
    clear hR
    by_cases hlt : k < rs.length
    · obtain ⟨b, off, rfl, hb, hcell0, hcell1, hcell2, hns, hp1, hp2, hp3, hp4⟩ := S1.rwf_at hlt
      have hfo : Enc.ok (frmOf rs[k]) := ⟨hns, hp1, hp2⟩
      have HBAD := Lib.hid (unf_bad hlt)
      have HB := Lib.hid (unfK_at hlt)
      have hN : unfN rs[k] = (min rs[k].times 13).toNat := rfl
      have HR := Lib.hid (show unfR rs[k] = List.replicate (unfN rs[k]) (frmOf rs[k]) from rfl)
      have hsz := hle.size
      generalize unfK rs k = LL at *
      obtain ⟨A1, c1, rfl⟩ := own_form O1
      have hwl : IntKind.i64.wrap (12 - (LL.length : Int)) = 12 - (LL.length : Int) := IntWalk.i64_in _ (by omega)
      by_cases hg : 1 ≤ rs[k].times ∧ rs[k].times ≤ 12 - (LL.length : Int)
      · have hrg : (decide ((1 : Int) ≤ rs[k].times) && decide (rs[k].times ≤ 12 - (LL.length : Int))) = true := by rw [decide_eq_true hg.1, decide_eq_true hg.2]; rfl
        obtain ⟨t, ht⟩ : ∃ t : Nat, rs[k].times = t := ⟨rs[k].times.toNat, by omega⟩
        have hNt : unfN rs[k] = t := by omega
        rw [hNt] at HR
        have ht1 : 1 ≤ t := by omega
        have ht2 : t ≤ 12 - LL.length := by omega
        rw [ht] at hrg
        have hO1 := O1.lt
        clear hNt hN HBAD hg
        go_wp2_with (first
          | (go_at_call 54; refine (iinRange_any _ _ _ _).mono ?_; rintro e w' ⟨rfl, rfl⟩; rw [hrg])
          | (go_at_call 67; refine (repeat_any _ (frmOf rs[k]) t _ (sl_one (frmOf rs[k]) rfl hfo (by simp)) ht1 (by omega)).mono ?_; rintro e w5 ⟨v5, rfl, D5, hle5⟩; have L5 : Le wr w5 := ((Le.new wr _).alloc _).trans hle5; obtain ⟨A5, c5, rfl, S5, _⟩ := D5.form (by decide); rw [List.length_replicate] at S5 ⊢; replace O1 := own_le O1 L5; replace hle := hle.trans L5; have hs5 := hle.size; clear D5 hle5)
          | (at_builtin; refine wpList_append_sl rfl _ _ 23 rfl w.heap.size 28 i0 _ 24 Try.underlying23 hi hz0 hz1 hz2 rfl _ _ LL rfl O1 A5 t c5 (List.replicate t (frmOf rs[k])) rfl S5 (by unfold maxLen; omega) (by omega) hs5 ?_; intro v6 w6 O6 hg6 _; have L6 := hle.grown hg6 (fun k hk => (hO1 k hk).1); clear hg6))
        go_roundw
        case rel => exact ⟨k + 1, by omega, by go_num, by rw [HB.out, HR.out, List.length_append, List.length_replicate]; omega, by rw [HB.out, HR.out, List.length_append, List.length_replicate]; exact O6, L6⟩
        case measure => simp [intOf]; omega
      · have hrg : (decide ((1 : Int) ≤ rs[k].times) && decide (rs[k].times ≤ 12 - (LL.length : Int))) = false := by
          by_cases h1 : 1 ≤ rs[k].times
          · rw [decide_eq_false (p := rs[k].times ≤ _) (by omega), Bool.and_false]
          · rw [decide_eq_false h1, Bool.false_and]
        have HF := Lib.hid (HBAD.out (by omega))
        have HX := Lib.hid (unfX_of HF.out)
        clear hg
        go_wp2_with (go_at_call 54; refine (iinRange_any _ _ _ _).mono ?_; rintro e w' ⟨rfl, rfl⟩; rw [hrg])
        exact bodyPost_ret (v := .tuple #[.slice none 0 0, .bool false]) (by simp [results, Try.results33, go_sem]) rfl ⟨_, by rw [HF.out], by rw [HX.out]; exact Owd.nil _ _ _, hle.alloc _⟩
    · obtain rfl : k = rs.length := by omega
      have HO := Lib.hid (⟨O1, HOK.out _ (Nat.le_refl _)⟩ : Owd 28 w wr _ (unfL rs))
      obtain ⟨A1, c1, rfl⟩ := own_form O1
      have SL : Sl wr A1 (unfK rs rs.length).length c1 (unfL rs) := Sl.of_own O1 rfl (by decide) (HOK.out _ (Nat.le_refl _))
      clear O1
      go_wp2_with fail
      refine (iValidTrace_any _ _ _ (unfL rs) _ SL).mono ?_
      rintro e w2 ⟨rfl, hle2⟩
      have HO2 := Lib.hid (HO.out.le hle2)
      have SL2 := SL.le hle2
      have S2 := S1.le hle2
      replace hle := hle.trans hle2
      clear HO hle2 SL S1
      cases h1 : vTr (unfL rs)
      · have HF := Lib.hid (unfOk_v h1)
        have HX := Lib.hid (unfX_of HF.out)
        go_wp2
        exact bodyPost_ret (v := .tuple #[.slice none 0 0, .bool false]) (by simp [results, Try.results33, go_sem]) rfl ⟨_, by rw [HF.out], by rw [HX.out]; exact Owd.nil _ _ _, hle⟩
      · go_wp2_with fail
        refine (ifold_any _ _ _ (unfL rs) _ SL2 (by omega)).mono ?_
        rintro e w3 ⟨v3, rfl, D3, hle3⟩
        obtain ⟨A3, c3, rfl, S3, _⟩ := D3.form (by decide)
        have HO3 := Lib.hid (HO2.out.le hle3)
        replace S2 := S2.le hle3
        replace hle := hle.trans hle3
        clear D3 hle3 HO2 SL2
        go_wp2_with fail
        refine (iEqualRows_any _ _ _ _ _ _ (foldL (unfL rs)) rs _ S3 S2).mono ?_
        rintro e w4 ⟨rfl, hle4⟩
        have HO4 := Lib.hid (HO3.out.le hle4)
        replace hle := hle.trans hle4
        clear hle4 HO3 S3 S2
        have hU : unfOk rs = decide (foldL (unfL rs) = rs) := by unfold unfOk; rw [h1, Bool.true_and]
        cases h2 : decide (foldL (unfL rs) = rs)
        · rw [h2] at hU
          have HF := Lib.hid hU
          have HX := Lib.hid (unfX_of hU)
          go_wp2
          exact bodyPost_ret (v := .tuple #[.slice none 0 0, .bool false]) (by simp [results, Try.results33, go_sem]) rfl ⟨_, by rw [HF.out], by rw [HX.out]; exact Owd.nil _ _ _, hle⟩
        · rw [h2] at hU
          have HF := Lib.hid hU
          have HX := Lib.hid (unfX_of hU)
          go_wp2
          exact bodyPost_ret (v := .tuple #[.slice A1 (unfK rs rs.length).length c1, .bool true]) (by simp [results, Try.results33, go_sem]) rfl ⟨_, by rw [HF.out], by rw [HX.out]; exact HO4.out, hle⟩
end Go.Proofs.Ytakkmgeocmndjaa
