/- WithHead of the model and of the program -/
import Derived.Test.YtakkmgeocmndjaaTrD
import Derived.Test.YtakkmgeocmndjaaAF
namespace Go.Proofs.Ytakkmgeocmndjaa
open Go.RowKit
def withOk (b : List Frm) (a : Int) (r : List Frm) : Bool := vTr b && vTr r && (decide (0 ≤ a) && decide (a ≤ b.length)) && decide (a + r.length ≤ 12)
def withX (b : List Frm) (a : Int) (r : List Frm) : List Frm := cond (withOk b a r) (b.take a.toNat ++ r) []
theorem withX_of {b r : List Frm} {a : Int} {p : Bool} (h : withOk b a r = p) : withX b a r = cond p (b.take a.toNat ++ r) [] := by unfold withX; rw [h]
theorem withX_len (b : List Frm) (a : Int) (r : List Frm) : (withX b a r).length ≤ 1048576 := by
  cases h : withOk b a r
  · rw [withX_of h]; simp
  · have h2 := h
    unfold withOk at h2; simp at h2
    have h3 := vTr_small h2.1.1.1
    have h4 := vTr_small h2.1.1.2
    rw [withX_of h]
    show (b.take a.toNat ++ r).length ≤ _
    simp; omega
theorem vTr_join {xs ys : List Frm} (h1 : vTr xs = true) (h2 : vTr ys = true) (k : Nat) (hk : k ≤ xs.length) : vTr (xs.take k ++ ys) = decide (k + ys.length ≤ 12) := by
  have e : (xs.take k ++ ys).length = k + ys.length := by simp; omega
  have hall : vAll (xs.take k ++ ys) = true := by
    unfold vAll
    rw [List.all_eq_true]
    intro f hf
    rcases List.mem_append.1 hf with hf | hf
    · exact vTr_all h1 f (List.mem_of_mem_take hf)
    · exact vTr_all h2 f hf
  unfold vTr; rw [hall, e, Bool.true_and]

set_option maxRecDepth 100000 in
theorem sWithHead_any (A B : Option Addr) (n c m d : Nat) (xs ys : List Frm) (a : Int) (w : World) (hR : Sl w A n c xs) (hS : Sl w B m d ys) (ha : -9223372036854775808 ≤ a ∧ a ≤ 9223372036854775807) :
    Calls Try.prog 44 #[.slice A n c, .int .i64 a, .slice B m d] w fun e w' => ∃ v, e = .returned (.tuple #[v, .bool (withOk xs a ys)]) ∧ Owd 28 w w' v (withX xs a ys) ∧ Le w w' := by
  obtain ⟨i0, hi, hz0, hz1, hz2⟩ := info_parts infoFrame
  obtain rfl := hR.len
  obtain rfl := hS.len
  cases h0 : withOk xs a ys
  · have HF := Lib.hid h0
    have HX := Lib.hid (withX_of h0)
    cases h1 : vTr xs
    · go_enter Try.func44, Try.ntmps44
      go_wp2_with fail
      refine (validTrace_any _ _ _ xs _ hR).mono ?_
      rintro e w1 ⟨rfl, hle⟩
      rw [h1]
      go_wp2
      exact bodyPost_ret (v := .tuple #[.slice none 0 0, .bool false]) (by simp [results, Try.results44, go_sem]) rfl ⟨_, rfl, by rw [HX.out]; exact Owd.nil _ _ _, hle⟩
    · cases h2 : vTr ys
      · go_enter Try.func44, Try.ntmps44
        go_wp2_with fail
        refine (validTrace_any _ _ _ xs _ hR).mono ?_
        rintro e w1 ⟨rfl, hle⟩
        rw [h1]
        go_wp2_with fail
        refine (validTrace_any _ _ _ ys _ (hS.le hle)).mono ?_
        rintro e w2 ⟨rfl, hle2⟩
        rw [h2]
        go_wp2
        exact bodyPost_ret (v := .tuple #[.slice none 0 0, .bool false]) (by simp [results, Try.results44, go_sem]) rfl ⟨_, rfl, by rw [HX.out]; exact Owd.nil _ _ _, hle.trans hle2⟩
      · have hsm := vTr_small h2
        cases h3 : (decide (0 ≤ a) && decide (a ≤ (xs.length : Int)))
        · go_enter Try.func44, Try.ntmps44
          go_wp2_with fail
          refine (validTrace_any _ _ _ xs _ hR).mono ?_
          rintro e w1 ⟨rfl, hle⟩
          rw [h1]
          go_wp2_with fail
          refine (validTrace_any _ _ _ ys _ (hS.le hle)).mono ?_
          rintro e w2 ⟨rfl, hle2⟩
          rw [h2]
          go_wp2_with fail
          refine (inRange_any _ _ _ _).mono ?_
          rintro e w3 ⟨rfl, rfl⟩
          rw [h3]
          go_wp2
          exact bodyPost_ret (v := .tuple #[.slice none 0 0, .bool false]) (by simp [results, Try.results44, go_sem]) rfl ⟨_, rfl, by rw [HX.out]; exact Owd.nil _ _ _, hle.trans hle2⟩
        · have h4 : decide (a + (ys.length : Int) ≤ 12) = false := by unfold withOk at h0; rw [h1, h2, h3] at h0; simpa using h0
          have h5 : decide (12 < a + (ys.length : Int)) = true := by simp at h4 ⊢; omega
          have h6 : 0 ≤ a ∧ a ≤ xs.length := by simpa using h3
          have hsx := vTr_small h1
          have hw : IntKind.i64.wrap (a + (ys.length : Int)) = a + (ys.length : Int) := IntWalk.i64_in _ (by omega)
          go_enter Try.func44, Try.ntmps44
          go_wp2_with fail
          refine (validTrace_any _ _ _ xs _ hR).mono ?_
          rintro e w1 ⟨rfl, hle⟩
          rw [h1]
          go_wp2_with fail
          refine (validTrace_any _ _ _ ys _ (hS.le hle)).mono ?_
          rintro e w2 ⟨rfl, hle2⟩
          rw [h2]
          go_wp2_with fail
          refine (inRange_any _ _ _ _).mono ?_
          rintro e w3 ⟨rfl, rfl⟩
          rw [h3]
          go_wp2
          exact bodyPost_ret (v := .tuple #[.slice none 0 0, .bool false]) (by simp [results, Try.results44, go_sem]) rfl ⟨_, rfl, by rw [HX.out]; exact Owd.nil _ _ _, hle.trans hle2⟩
  · have HX := Lib.hid (withX_of h0)
    have hh := h0
    unfold withOk at hh
    simp only [Bool.and_eq_true] at hh
    obtain ⟨⟨⟨h1, h2⟩, h3a, h3b⟩, h4⟩ := hh
    have h3 : (decide (0 ≤ a) && decide (a ≤ (xs.length : Int))) = true := by rw [h3a, h3b]; rfl
    have h6 : 0 ≤ a ∧ a ≤ xs.length := by simpa using h3
    have h7 : a + (ys.length : Int) ≤ 12 := by simpa using h4
    obtain ⟨k, rfl⟩ : ∃ k : Nat, a = k := ⟨a.toNat, by omega⟩
    have h5 : decide (12 < (k : Int) + (ys.length : Int)) = false := decide_eq_false (by omega)
    have hsx := vTr_small h1
    have hcp := hR.cap_
    have hkl : k ≤ xs.length := by omega
    have hkc : k ≤ c := by omega
    have hk12 : k + ys.length ≤ 12 := by omega
    have HOK := Lib.hid (show ∀ f ∈ xs.take k ++ ys, Enc.ok f from fun f hf => by
      rcases List.mem_append.1 hf with hf | hf
      · exact hR.ok f (List.mem_of_mem_take hf)
      · exact hS.ok f hf)
    have hw : IntKind.i64.wrap ((k : Int) + (ys.length : Int)) = (k : Int) + (ys.length : Int) := IntWalk.i64_in _ (by omega)
    have H0 := Lib.hid h0
    clear h4 h3a h3b h7 h6 h0
    go_enter Try.func44, Try.ntmps44
    go_wp2_with fail
    refine (validTrace_any _ _ _ xs _ hR).mono ?_
    rintro e w1 ⟨rfl, hle⟩
    rw [h1]
    go_wp2_with fail
    refine (validTrace_any _ _ _ ys _ (hS.le hle)).mono ?_
    rintro e w2 ⟨rfl, hle2⟩
    rw [h2]
    go_wp2_with fail
    refine (inRange_any _ _ _ _).mono ?_
    rintro e w3 ⟨rfl, rfl⟩
    rw [h3]
    have L0 := hle.trans hle2
    have S1 := (hR.le L0).take_ k hkl
    have S2 := hS.le L0
    clear hle hle2 hR hS h1 h2 h3
    go_wp2_with fail
    refine (copyFrames_any _ _ _ (xs.take k) _ S1 (by omega)).mono ?_
    rintro e w3 ⟨v, rfl, D, hle⟩
    have hlk : (xs.take k).length = k := by rw [List.length_take]; omega
    have O1 := D.row
    rw [hlk] at O1
    have S3 := S2.le hle
    have hz3 := hle.size
    have hs0 := L0.size
    replace L0 := L0.trans hle
    clear D hle S1 S2 hlk
    go_wp2_with (at_builtin; refine wpList_append_sl rfl _ _ 23 rfl w2.heap.size 28 i0 _ 24 Try.underlying23 hi hz0 hz1 hz2 rfl _ _ (xs.take k) rfl O1 B ys.length d ys rfl S3 (by unfold maxLen; omega) (by omega) hz3 ?_; intro v4 w4 O2 hg2 _; have L4 := L0.grown hg2 (fun j hj => by have h1 := (O1.lt j hj).1; have h2 := hs0; omega); clear hg2)
    have HD := Lib.hid (⟨by rw [show (xs.take k ++ ys).length = k + ys.length by simp; omega]; exact own_mono O2 hs0, HOK.out⟩ : Owd 28 w w4 v4 (xs.take k ++ ys))
    clear O2
    exact bodyPost_ret (v := .tuple #[v4, .bool true]) (by simp [results, Try.results44, go_sem]) rfl ⟨_, rfl, by rw [HX.out]; exact HD.out, L4⟩

set_option maxRecDepth 100000 in
theorem iWithHead_any (A B : Option Addr) (n c m d : Nat) (xs ys : List Frm) (a : Int) (w : World) (hR : Sl w A n c xs) (hS : Sl w B m d ys) (ha : -9223372036854775808 ≤ a ∧ a ≤ 9223372036854775807) :
    Calls Try.prog 42 #[.slice A n c, .int .i64 a, .slice B m d] w fun e w' => ∃ v, e = .returned (.tuple #[v, .bool (withOk xs a ys)]) ∧ OwdW 28 w w' v (withX xs a ys) ∧ Le w w' := by
  obtain ⟨i0, hi, hz0, hz1, hz2⟩ := info_parts infoFrame
  obtain rfl := hR.len
  obtain rfl := hS.len
  cases h1 : vTr xs
  · have h0 : withOk xs a ys = false := by unfold withOk; rw [h1]; rfl
    have HF := Lib.hid h0
    have HX := Lib.hid (withX_of h0)
    clear h0
    go_enter Try.func42, Try.ntmps42
    go_wp2_with fail
    refine (iValidTrace_any _ _ _ xs _ hR).mono ?_
    rintro e w1 ⟨rfl, hle⟩
    rw [h1]
    go_wp2
    exact bodyPost_ret (v := .tuple #[.slice none 0 0, .bool false]) (by simp [results, Try.results42, go_sem]) rfl ⟨_, by rw [HF.out], by rw [HX.out]; exact OwdW.of (Owd.nil _ _ _), hle⟩
  · cases h2 : vTr ys
    · have h0 : withOk xs a ys = false := by unfold withOk; rw [h1, h2]; rfl
      have HF := Lib.hid h0
      have HX := Lib.hid (withX_of h0)
      clear h0
      go_enter Try.func42, Try.ntmps42
      go_wp2_with fail
      refine (iValidTrace_any _ _ _ xs _ hR).mono ?_
      rintro e w1 ⟨rfl, hle⟩
      rw [h1]
      go_wp2_with fail
      refine (iValidTrace_any _ _ _ ys _ (hS.le hle)).mono ?_
      rintro e w2 ⟨rfl, hle2⟩
      rw [h2]
      go_wp2
      exact bodyPost_ret (v := .tuple #[.slice none 0 0, .bool false]) (by simp [results, Try.results42, go_sem]) rfl ⟨_, by rw [HF.out], by rw [HX.out]; exact OwdW.of (Owd.nil _ _ _), hle.trans hle2⟩
    · cases h3 : (decide (0 ≤ a) && decide (a ≤ (xs.length : Int)))
      · have h0 : withOk xs a ys = false := by unfold withOk; rw [h1, h2, h3]; rfl
        have HF := Lib.hid h0
        have HX := Lib.hid (withX_of h0)
        clear h0
        go_enter Try.func42, Try.ntmps42
        go_wp2_with fail
        refine (iValidTrace_any _ _ _ xs _ hR).mono ?_
        rintro e w1 ⟨rfl, hle⟩
        rw [h1]
        go_wp2_with fail
        refine (iValidTrace_any _ _ _ ys _ (hS.le hle)).mono ?_
        rintro e w2 ⟨rfl, hle2⟩
        rw [h2]
        go_wp2_with fail
        refine (iinRange_any _ _ _ _).mono ?_
        rintro e w3 ⟨rfl, rfl⟩
        rw [h3]
        go_wp2
        exact bodyPost_ret (v := .tuple #[.slice none 0 0, .bool false]) (by simp [results, Try.results42, go_sem]) rfl ⟨_, by rw [HF.out], by rw [HX.out]; exact OwdW.of (Owd.nil _ _ _), hle.trans hle2⟩
      · have h6 : 0 ≤ a ∧ a ≤ xs.length := by simpa using h3
        obtain ⟨k, rfl⟩ : ∃ k : Nat, a = k := ⟨a.toNat, by omega⟩
        have hkl : k ≤ xs.length := by omega
        have h0 : withOk xs k ys = decide (k + ys.length ≤ 12) := by
          unfold withOk; rw [h1, h2, h3]
          simp only [Bool.true_and]; exact decide_eq_decide.2 (by omega)
        have h7 := vTr_join h1 h2 k hkl
        have hsx := vTr_small h1
        have hsy := vTr_small h2
        have HOK := Lib.hid (show ∀ f ∈ xs.take k ++ ys, Enc.ok f from fun f hf => by
          rcases List.mem_append.1 hf with hf | hf
          · exact hR.ok f (List.mem_of_mem_take hf)
          · exact hS.ok f hf)
        have hokx := Lib.hid hR.ok
        have hlk := Lib.hid (show (xs.take k).length = k by rw [List.length_take]; omega)
        clear h6
        go_enter Try.func42, Try.ntmps42
        go_wp2_with fail
        refine (iValidTrace_any _ _ _ xs _ hR).mono ?_
        rintro e w1 ⟨rfl, hle⟩
        rw [h1]
        go_wp2_with fail
        refine (iValidTrace_any _ _ _ ys _ (hS.le hle)).mono ?_
        rintro e w2 ⟨rfl, hle2⟩
        rw [h2]
        go_wp2_with fail
        refine (iinRange_any _ _ _ _).mono ?_
        rintro e w3 ⟨rfl, rfl⟩
        rw [h3]
        have L0 := hle.trans hle2
        have S1 := hR.le L0
        have S2 := hS.le L0
        clear hle hle2 hR hS h3
        go_wp2_with fail
        refine (cutFrames_any _ _ _ xs k _ S1 (by omega) (by omega)).mono ?_
        rintro e w3 ⟨rfl, O, hle2⟩
        have D := cut_head (n := xs.length) (k := k) O rfl (by omega) hokx.out hkl L0
        have S3 : Sl w3 (some ⟨w2.heap.size, 0, none⟩) k k (xs.take k) := by
          have h := D.row
          rw [hlk.out] at h
          exact Sl.of_win h rfl (by decide) D.ok
        have HD := Lib.hid D
        have S4 := S2.le hle2
        replace L0 := L0.trans hle2
        have hs0 := L0.size
        clear D O hle2 S1 S2 h1 h2
        generalize cutP w2.heap.size xs.length k = PP at *
        go_wp2_with (at_builtin; refine wpList_append_full rfl _ _ 23 rfl 28 i0 _ 24 Try.underlying23 hi hz0 hz1 hz2 rfl _ k (xs.take k) rfl S3 B ys.length d ys rfl S4 (by unfold maxLen; omega) (by omega) ?_; intro v4 w4 hle4 hcase; refine of_stop ?_)
        unfold Stop
        have HDX : Hid (OwdW 28 w w4 v4 (xs.take k ++ ys)) := by
          rcases hcase with ⟨h0, rfl, rfl⟩ | O4
          · rw [List.eq_nil_of_length_eq_zero h0, List.append_nil]; exact HD.out
          · exact OwdW.of ⟨by rw [show (xs.take k ++ ys).length = k + ys.length by simp; omega]; exact own_mono O4 hs0, HOK.out⟩
        replace L0 := L0.trans hle4
        clear hcase HD S3 S4 hle4
        obtain ⟨A4, c4, rfl, S4, _⟩ := HDX.out.form (by decide)
        have hlen : (xs.take k ++ ys).length = k + ys.length := by simp; omega
        rw [hlen] at S4
        rw [hlen] at HDX
        rw [hlen]
        cases h8 : decide (k + ys.length ≤ 12)
        all_goals
          rw [h8] at h0 h7
          have HF := Lib.hid h0
          have HX := Lib.hid (withX_of h0)
          have H7 := Lib.hid h7
          clear h0 h7 hlen
          go_wp2_with fail
          refine (iValidTrace_any _ _ _ (xs.take k ++ ys) _ S4).mono ?_
          rintro e w5 ⟨rfl, hle⟩
          rw [H7.out]
          go_wp2
        · exact bodyPost_ret (v := .tuple #[.slice none 0 0, .bool false]) (by simp [results, Try.results42, go_sem]) rfl ⟨_, by rw [HF.out], by rw [HX.out]; exact OwdW.of (Owd.nil _ _ _), L0.trans hle⟩
        · exact bodyPost_ret (v := .tuple #[.slice A4 (k + ys.length) c4, .bool true]) (by simp [results, Try.results42, go_sem]) rfl ⟨_, by rw [HF.out], by rw [HX.out]; exact HDX.out.le hle, L0.trans hle⟩
end Go.Proofs.Ytakkmgeocmndjaa
