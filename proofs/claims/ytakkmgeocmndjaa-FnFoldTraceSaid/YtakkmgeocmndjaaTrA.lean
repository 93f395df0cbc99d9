/- traces: what is valid; spec.validFrame, spec.validTrace, spec.ValidTrace, impl.ValidTrace -/
import Derived.Test.YtakkmgeocmndjaaA
import Derived.Test.YtakkmgeocmndjaaC
import Derived.Test.YtakkmgeocmndjaaKB
import Derived.Test.YtakkmgeocmndjaaTyFrame
namespace Go.Proofs.Ytakkmgeocmndjaa
open Go.RowKit

def inL (a : Int) : Bool := decide (1 ≤ a) && decide (a ≤ 999)
def vFr (f : Frm) : Bool := okName f.fn && inL f.line
def vAll (xs : List Frm) : Bool := xs.all vFr
def vTr (xs : List Frm) : Bool := vAll xs && decide (xs.length ≤ 12)
theorem vAll_at {xs : List Frm} {k : Nat} (h : k < xs.length) : vAll (xs.drop k) = (vFr xs[k] && vAll (xs.drop (k + 1))) := by
  unfold vAll; rw [List.drop_eq_getElem_cons h]; rfl
theorem vAll_end {xs : List Frm} {k : Nat} (h : ¬ k < xs.length) : vAll (xs.drop k) = true := by
  rw [List.drop_eq_nil_of_le (by omega)]; rfl
theorem vTr_small {xs : List Frm} (h : vTr xs = true) : xs.length ≤ 12 := by unfold vTr at h; simp at h; exact h.2
theorem vTr_all {xs : List Frm} (h : vTr xs = true) : ∀ f ∈ xs, vFr f = true := by unfold vTr vAll at h; simp at h; exact h.1
theorem vTr_of {xs : List Frm} (h : ∀ f ∈ xs, vFr f = true) (hl : xs.length ≤ 12) : vTr xs = true := by unfold vTr vAll; simp; exact ⟨h, hl⟩

theorem validFrame_any (f : Frm) (w : World) (hf : Enc.ok f) :
    Calls Try.prog 75 #[.agg #[.string f.fn, .int .i64 f.line]] w fun e w' => e = .returned (.bool (vFr f)) ∧ Le w w' := by
  have hs : f.fn.size ≤ 9223372036854775807 := hf.1
  have HF : Hid (vFr f = (okName f.fn && inL f.line)) := rfl
  obtain ⟨fn, line⟩ := f
  cases h1 : okName fn
  · rw [h1, Bool.false_and] at HF
    go_enter Try.func75, Try.ntmps75
    go_wp2_with (go_at_call 79; refine (validName_any _ _ hs).mono ?_; rintro e w' ⟨rfl, rfl⟩)
    go_ret
    exact ⟨ret_bool HF.out.symm, (Le.new w _)⟩
  · rw [h1, Bool.true_and] at HF
    go_enter Try.func75, Try.ntmps75
    go_wp2_with (first | (go_at_call 79; refine (validName_any _ _ hs).mono ?_; rintro e w' ⟨rfl, rfl⟩) | (go_at_call 74; refine (inRange_any _ _ _ _).mono ?_; rintro e w' ⟨rfl, rfl⟩))
    go_ret
    exact ⟨ret_bool HF.out.symm, (Le.new w _)⟩

theorem validTrace_any (A : Option Addr) (n cap : Nat) (xs : List Frm) (w : World) (hR : Sl w A n cap xs) :
    Calls Try.prog 55 #[.slice A n cap] w fun e w' => e = .returned (.bool (vTr xs)) ∧ Le w w' := by
  obtain rfl := hR.len
  have hm := hR.n_le
  go_enter Try.func55, Try.ntmps55
  go_wp2
  go_loopw [3] (fun i wr => ∃ k : Nat, k ≤ xs.length ∧ i = .int .i64 k ∧ vTr xs = (vAll (xs.drop k) && decide (xs.length ≤ 12)) ∧ Le w wr) (fun i _ => xs.length - (intOf i).toNat)
  case atStart => exact ⟨0, Nat.zero_le _, rfl, rfl, Le.refl _⟩
  case round =>
    obtain ⟨k, hk, rfl, hr, hle⟩ := hrel
    have HR := Lib.hid hr; clear hr
    have hRr := hR.le hle
    clear hR
    by_cases hlt : k < xs.length
    · obtain ⟨b, off, rfl, hb, hcell0, hcell1, hns, hp1, hp2⟩ := hRr.frm_at hlt
      cases he : vFr xs[k]
      · have HF : Hid (vTr xs = false) := by show _ = _; rw [HR.out, vAll_at hlt, he]; rfl
        go_wp2_with fail
        refine (validFrame_any xs[k] _ ⟨hns, hp1, hp2⟩).mono ?_
        rw [he]
        rintro e w2 ⟨rfl, hw2⟩
        go_wp2
        go_ret
        exact ⟨ret_bool HF.out.symm, hle.trans hw2⟩
      · have HF : Hid (vTr xs = (vAll (xs.drop (k + 1)) && decide (xs.length ≤ 12))) := by show _ = _; rw [HR.out, vAll_at hlt, he]; rfl
        go_wp2_with fail
        refine (validFrame_any xs[k] _ ⟨hns, hp1, hp2⟩).mono ?_
        rw [he]
        rintro e w2 ⟨rfl, hw2⟩
        go_wp2
        go_roundw
        case rel => exact ⟨k + 1, by omega, by go_num, HF.out, hle.trans hw2⟩
        case measure => simp [intOf]; omega
    · have HF : Hid (vTr xs = decide ((xs.length : Int) ≤ 12)) := by show _ = _; rw [HR.out, vAll_end hlt, Bool.true_and]; exact decide_eq_decide.2 (by omega)
      go_wp2
      go_ret
      exact ⟨ret_bool HF.out.symm, hle⟩

theorem sValidTrace_any (A : Option Addr) (n cap : Nat) (xs : List Frm) (w : World) (hR : Sl w A n cap xs) :
    Calls Try.prog 17 #[.slice A n cap] w fun e w' => e = .returned (.bool (vTr xs)) ∧ Le w w' := by
  go_enter Try.func17, Try.ntmps17
  go_wp2_with fail
  refine (validTrace_any A n cap xs _ hR).mono ?_
  rintro e w2 ⟨rfl, hw2⟩
  go_wp2
  go_ret
  exact ⟨rfl, hw2⟩

theorem iinRange_any (a b c : Int) (w : World) : Calls Try.prog 54 #[.int .i64 a, .int .i64 b, .int .i64 c] w fun e w' => e = .returned (.bool (decide (b ≤ a) && decide (a ≤ c))) ∧ w = w' := by
  go_enter Try.func54, Try.ntmps54
  go_wp2
  all_goals (go_ret; simp_all)
  all_goals omega

theorem iValidTrace_any (A : Option Addr) (n cap : Nat) (xs : List Frm) (w : World) (hR : Sl w A n cap xs) :
    Calls Try.prog 16 #[.slice A n cap] w fun e w' => e = .returned (.bool (vTr xs)) ∧ Le w w' := by
  obtain rfl := hR.len
  have hm := hR.n_le
  by_cases h12 : 12 < xs.length
  · have HF : Hid (vTr xs = false) := by show _ = _; unfold vTr; rw [decide_eq_false (by omega), Bool.and_false]
    go_enter Try.func16, Try.ntmps16
    go_wp2
    go_ret
    exact ⟨ret_bool HF.out.symm, Le.refl _⟩
  · have H0 : Hid (vTr xs = vAll (xs.drop 0)) := by show _ = _; unfold vTr; rw [decide_eq_true (by omega), Bool.and_true]; rfl
    go_enter Try.func16, Try.ntmps16
    go_wp2
    go_loopw [10] (fun i wr => ∃ k : Nat, k ≤ xs.length ∧ i = .int .i64 k ∧ vTr xs = vAll (xs.drop k) ∧ Le w wr) (fun i _ => xs.length - (intOf i).toNat)
    case atStart => exact ⟨0, Nat.zero_le _, rfl, H0.out, Le.refl _⟩
    case round =>
      obtain ⟨k, hk, rfl, hr, hle⟩ := hrel
      have HR := Lib.hid hr; clear hr H0
      have hRr := hR.le hle
      clear hR
      by_cases hlt : k < xs.length
      · obtain ⟨b, off, rfl, hb, hcell0, hcell1, hns, hp1, hp2⟩ := hRr.frm_at hlt
        have HV : Hid (vTr xs = ((okName xs[k].fn && inL xs[k].line) && vAll (xs.drop (k + 1)))) := by show _ = _; rw [HR.out, vAll_at hlt]; rfl
        cases h1 : okName xs[k].fn
        · have HF : Hid (vTr xs = false) := by show _ = _; rw [HV.out, h1]; rfl
          clear HV
          go_wp2_with (go_at_call 53; refine (ivalidName_any _ _ hns).mono ?_; rintro e w' ⟨rfl, rfl⟩; rw [h1])
          go_ret
          exact ⟨ret_bool HF.out.symm, hle.trans (Le.new _ _)⟩
        · cases h2 : inL xs[k].line
          · have HF : Hid (vTr xs = false) := by show _ = _; rw [HV.out, h1, h2]; rfl
            clear HV
            go_wp2_with (first | (go_at_call 53; refine (ivalidName_any _ _ hns).mono ?_; rintro e w' ⟨rfl, rfl⟩; rw [h1]) | (go_at_call 54; refine (iinRange_any _ _ _ _).mono ?_; rintro e w' ⟨rfl, rfl⟩; rw [show (decide ((1 : Int) ≤ xs[k].line) && decide (xs[k].line ≤ 999)) = false from h2]))
            go_ret
            exact ⟨ret_bool HF.out.symm, hle.trans (Le.new _ _)⟩
          · have HF : Hid (vTr xs = vAll (xs.drop (k + 1))) := by show _ = _; rw [HV.out, h1, h2]; rfl
            clear HV
            go_wp2_with (first | (go_at_call 53; refine (ivalidName_any _ _ hns).mono ?_; rintro e w' ⟨rfl, rfl⟩; rw [h1]) | (go_at_call 54; refine (iinRange_any _ _ _ _).mono ?_; rintro e w' ⟨rfl, rfl⟩; rw [show (decide ((1 : Int) ≤ xs[k].line) && decide (xs[k].line ≤ 999)) = true from h2]))
            go_roundw
            case rel => exact ⟨k + 1, by omega, by go_num, HF.out, hle.trans (Le.new _ _)⟩
            case measure => simp [intOf]; omega
      · have HF : Hid (vTr xs = true) := by show _ = _; rw [HR.out, vAll_end hlt]
        go_wp2
        go_ret
        exact ⟨ret_bool HF.out.symm, hle⟩
end Go.Proofs.Ytakkmgeocmndjaa
