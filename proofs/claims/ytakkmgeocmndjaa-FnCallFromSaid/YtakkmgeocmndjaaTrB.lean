/- what two traces have in common -/
import Derived.Test.YtakkmgeocmndjaaTrA
namespace Go.Proofs.Ytakkmgeocmndjaa
open Go.RowKit

def comH : List Frm → List Frm → Nat
  | a :: r, b :: s => if a.fn = b.fn ∧ a.line = b.line then comH r s + 1 else 0
  | _, _ => 0
theorem comH_le : ∀ a b : List Frm, comH a b ≤ a.length ∧ comH a b ≤ b.length
  | [], _ => by simp [comH]
  | a :: r, [] => by simp [comH]
  | a :: r, b :: s => by
    unfold comH
    have := comH_le r s
    split <;> simp <;> omega
theorem comH_yes {a b : List Frm} {k : Nat} (h1 : k < a.length) (h2 : k < b.length) (h : a[k].fn = b[k].fn ∧ a[k].line = b[k].line) : comH (a.drop k) (b.drop k) = comH (a.drop (k + 1)) (b.drop (k + 1)) + 1 := by
  rw [List.drop_eq_getElem_cons h1, List.drop_eq_getElem_cons h2, comH, if_pos h]
theorem comH_no {a b : List Frm} {k : Nat} (h1 : k < a.length) (h2 : k < b.length) (h : ¬ (a[k].fn = b[k].fn ∧ a[k].line = b[k].line)) : comH (a.drop k) (b.drop k) = 0 := by
  rw [List.drop_eq_getElem_cons h1, List.drop_eq_getElem_cons h2, comH, if_neg h]
theorem comH_end {a b : List Frm} {k : Nat} (h : ¬ (k < a.length ∧ k < b.length)) : comH (a.drop k) (b.drop k) = 0 := by
  by_cases h1 : k < a.length
  · have e : b.drop k = [] := List.drop_eq_nil_of_le (by omega)
    rw [e]; cases a.drop k <;> rfl
  · have e : a.drop k = [] := List.drop_eq_nil_of_le (by omega)
    rw [e]; rfl
def comX (a b : List Frm) : Int := if vTr a && vTr b then comH a b else -1

theorem scommonHead_any (A B : Option Addr) (n c m d : Nat) (xs ys : List Frm) (w : World) (hR : Sl w A n c xs) (hS : Sl w B m d ys) :
    Calls Try.prog 73 #[.slice A n c, .slice B m d] w fun e w' => e = .returned (.int .i64 (comH xs ys)) ∧ Le w w' := by
  obtain rfl := hR.len
  obtain rfl := hS.len
  have hm := hR.n_le
  have hm2 := hS.n_le
  go_enter Try.func73, Try.ntmps73
  go_wp2
  go_loopw [5] (fun i wr => ∃ k : Nat, k ≤ xs.length ∧ i = .int .i64 k ∧ comH xs ys = k + comH (xs.drop k) (ys.drop k) ∧ Le w wr) (fun i _ => xs.length - (intOf i).toNat)
  case atStart => exact ⟨0, Nat.zero_le _, rfl, by simp, Le.refl _⟩
  case round =>
    obtain ⟨k, hk, rfl, hr, hle⟩ := hrel
    have HR := Lib.hid hr; clear hr
    have R1 := hR.le hle
    have S1 := hS.le hle
    clear hR hS
    by_cases hlt : k < xs.length
    · by_cases hlt2 : k < ys.length
      · obtain ⟨b, off, rfl, hb, hcell0, hcell1, _⟩ := R1.frm_at hlt
        obtain ⟨b2, off2, rfl, hb2, hdell0, hdell1, _⟩ := S1.frm_at hlt2
        have E0 := cell_ext hb hcell0
        have E1 := cell_ext hb hcell1
        have F0 := cell_ext hb2 hdell0
        have F1 := cell_ext hb2 hdell1
        by_cases h1 : xs[k].fn = ys[k].fn
        · have e1 := str_eq h1
          by_cases h2 : xs[k].line = ys[k].line
          · have e2 : (xs[k].line == ys[k].line) = true := by simp [h2]
            have HF : Hid (comH xs ys = (k + 1) + comH (xs.drop (k + 1)) (ys.drop (k + 1))) := by show _ = _; rw [HR.out, comH_yes hlt hlt2 ⟨h1, h2⟩]; omega
            clear h1 h2 HR
            go_wp2_with fail
            refine wp_region_ext (by kernel_rfl) (by kernel_rfl) ?_
            repeat (go_big_quiet_step (fail))
            refine wpQuiet_nil ?_
            intro _ hw'
            obtain ⟨g, rfl⟩ := hw'
            have hw1 := Le.ext wr g
            generalize wr.ext g = W2 at *
            go_wp2
            all_goals
              go_roundw
              case rel => exact ⟨k + 1, by omega, by go_num, HF.out, hle.trans hw1⟩
              case measure => simp [intOf]; omega
          · have e2 : (xs[k].line == ys[k].line) = false := by simp [h2]
            have HF : Hid (((comH xs ys : Nat) : Int) = k) := by show _ = _; rw [HR.out, comH_no hlt hlt2 (fun h => h2 h.2)]; rfl
            clear h1 h2 HR
            go_wp2_with fail
            refine wp_region_ext (by kernel_rfl) (by kernel_rfl) ?_
            repeat (go_big_quiet_step (fail))
            refine wpQuiet_nil ?_
            intro _ hw'
            obtain ⟨g, rfl⟩ := hw'
            have hw1 := Le.ext wr g
            generalize wr.ext g = W2 at *
            go_wp2
            all_goals (go_ret; exact ⟨ret_int HF.out.symm, hle.trans hw1⟩)
        · have e1 := str_ne h1
          have HF : Hid (((comH xs ys : Nat) : Int) = k) := by show _ = _; rw [HR.out, comH_no hlt hlt2 (fun h => h1 h.1)]; rfl
          clear h1 HR
          go_wp2_with fail
          refine wp_region_ext (by kernel_rfl) (by kernel_rfl) ?_
          repeat (go_big_quiet_step (fail))
          refine wpQuiet_nil ?_
          intro _ hw'
          obtain ⟨g, rfl⟩ := hw'
          have hw1 := Le.ext wr g
          generalize wr.ext g = W2 at *
          go_wp2
          all_goals (go_ret; exact ⟨ret_int HF.out.symm, hle.trans hw1⟩)
      · have HF : Hid (((comH xs ys : Nat) : Int) = k) := by show _ = _; rw [HR.out, comH_end (fun h => hlt2 h.2)]; rfl
        clear HR
        go_wp2_with fail
        refine wp_region_ext (by kernel_rfl) (by kernel_rfl) ?_
        repeat (go_big_quiet_step (fail))
        refine wpQuiet_nil ?_
        intro _ hw'
        obtain ⟨g, rfl⟩ := hw'
        have hw1 := Le.ext wr g
        generalize wr.ext g = W2 at *
        go_wp2
        all_goals (go_ret; exact ⟨ret_int HF.out.symm, hle.trans hw1⟩)
    · have HF : Hid (((comH xs ys : Nat) : Int) = k) := by show _ = _; rw [HR.out, comH_end (fun h => hlt h.1)]; rfl
      clear HR
      go_wp2_with fail
      refine wp_region_ext (by kernel_rfl) (by kernel_rfl) ?_
      repeat (go_big_quiet_step (fail))
      refine wpQuiet_nil ?_
      intro _ hw'
      obtain ⟨g, rfl⟩ := hw'
      have hw1 := Le.ext wr g
      generalize wr.ext g = W2 at *
      go_wp2
      all_goals (go_ret; exact ⟨ret_int HF.out.symm, hle.trans hw1⟩)
theorem icommonHead_any (A B : Option Addr) (n c m d : Nat) (xs ys : List Frm) (w : World) (hR : Sl w A n c xs) (hS : Sl w B m d ys) :
    Calls Try.prog 72 #[.slice A n c, .slice B m d] w fun e w' => e = .returned (.int .i64 (comH xs ys)) ∧ Le w w' := by
  obtain rfl := hR.len
  obtain rfl := hS.len
  have hm := hR.n_le
  have hm2 := hS.n_le
  go_enter Try.func72, Try.ntmps72
  go_wp2
  go_loopw [5] (fun i wr => ∃ k : Nat, k ≤ xs.length ∧ i = .int .i64 k ∧ comH xs ys = k + comH (xs.drop k) (ys.drop k) ∧ Le w wr) (fun i _ => xs.length - (intOf i).toNat)
  case atStart => exact ⟨0, Nat.zero_le _, rfl, by simp, Le.refl _⟩
  case round =>
    obtain ⟨k, hk, rfl, hr, hle⟩ := hrel
    have HR := Lib.hid hr; clear hr
    have R1 := hR.le hle
    have S1 := hS.le hle
    clear hR hS
    by_cases hlt : k < xs.length
    · by_cases hlt2 : k < ys.length
      · obtain ⟨b, off, rfl, hb, hcell0, hcell1, _⟩ := R1.frm_at hlt
        obtain ⟨b2, off2, rfl, hb2, hdell0, hdell1, _⟩ := S1.frm_at hlt2
        have E0 := cell_ext hb hcell0
        have E1 := cell_ext hb hcell1
        have F0 := cell_ext hb2 hdell0
        have F1 := cell_ext hb2 hdell1
        by_cases h1 : xs[k].fn = ys[k].fn
        · have e1 := str_eq h1
          by_cases h2 : xs[k].line = ys[k].line
          · have e2 : (xs[k].line == ys[k].line) = true := by simp [h2]
            have HF : Hid (comH xs ys = (k + 1) + comH (xs.drop (k + 1)) (ys.drop (k + 1))) := by show _ = _; rw [HR.out, comH_yes hlt hlt2 ⟨h1, h2⟩]; omega
            clear h1 h2 HR
            have hmin : decide ((k : Int) < if ys.length < xs.length then (ys.length : Int) else (xs.length : Int)) = true := by apply decide_eq_true; split <;> omega
            go_wp2_with fail
            refine wp_region_ext (by kernel_rfl) (by kernel_rfl) ?_
            repeat (go_big_quiet_step (fail))
            refine wpQuiet_nil ?_
            intro _ hw'
            obtain ⟨g, rfl⟩ := hw'
            have hw1 := Le.ext wr g
            generalize wr.ext g = W2 at *
            go_wp2
            all_goals
              go_roundw
              case rel => exact ⟨k + 1, by omega, by go_num, HF.out, hle.trans hw1⟩
              case measure => simp [intOf]; omega
          · have e2 : (xs[k].line == ys[k].line) = false := by simp [h2]
            have HF : Hid (((comH xs ys : Nat) : Int) = k) := by show _ = _; rw [HR.out, comH_no hlt hlt2 (fun h => h2 h.2)]; rfl
            have hmin : decide ((k : Int) < if ys.length < xs.length then (ys.length : Int) else (xs.length : Int)) = true := by apply decide_eq_true; split <;> omega
            clear h1 h2 HR
            go_wp2_with fail
            refine wp_region_ext (by kernel_rfl) (by kernel_rfl) ?_
            repeat (go_big_quiet_step (fail))
            refine wpQuiet_nil ?_
            intro _ hw'
            obtain ⟨g, rfl⟩ := hw'
            have hw1 := Le.ext wr g
            generalize wr.ext g = W2 at *
            go_wp2
            all_goals (go_ret; exact ⟨ret_int HF.out.symm, hle.trans hw1⟩)
        · have e1 := str_ne h1
          have HF : Hid (((comH xs ys : Nat) : Int) = k) := by show _ = _; rw [HR.out, comH_no hlt hlt2 (fun h => h1 h.1)]; rfl
          have hmin : decide ((k : Int) < if ys.length < xs.length then (ys.length : Int) else (xs.length : Int)) = true := by apply decide_eq_true; split <;> omega
          clear h1 HR
          go_wp2_with fail
          refine wp_region_ext (by kernel_rfl) (by kernel_rfl) ?_
          repeat (go_big_quiet_step (fail))
          refine wpQuiet_nil ?_
          intro _ hw'
          obtain ⟨g, rfl⟩ := hw'
          have hw1 := Le.ext wr g
          generalize wr.ext g = W2 at *
          go_wp2
          all_goals (go_ret; exact ⟨ret_int HF.out.symm, hle.trans hw1⟩)
      · have HF : Hid (((comH xs ys : Nat) : Int) = k) := by show _ = _; rw [HR.out, comH_end (fun h => hlt2 h.2)]; rfl
        have hmin : decide ((k : Int) < if ys.length < xs.length then (ys.length : Int) else (xs.length : Int)) = false := by apply decide_eq_false; split <;> omega
        clear HR
        go_wp2_with fail
        refine wp_region_ext (by kernel_rfl) (by kernel_rfl) ?_
        repeat (go_big_quiet_step (fail))
        refine wpQuiet_nil ?_
        intro _ hw'
        obtain ⟨g, rfl⟩ := hw'
        have hw1 := Le.ext wr g
        generalize wr.ext g = W2 at *
        go_wp2
        all_goals (go_ret; exact ⟨ret_int HF.out.symm, hle.trans hw1⟩)
    · have HF : Hid (((comH xs ys : Nat) : Int) = k) := by show _ = _; rw [HR.out, comH_end (fun h => hlt h.1)]; rfl
      have hmin : decide ((k : Int) < if ys.length < xs.length then (ys.length : Int) else (xs.length : Int)) = false := by apply decide_eq_false; split <;> omega
      clear HR
      go_wp2_with fail
      refine wp_region_ext (by kernel_rfl) (by kernel_rfl) ?_
      repeat (go_big_quiet_step (fail))
      refine wpQuiet_nil ?_
      intro _ hw'
      obtain ⟨g, rfl⟩ := hw'
      have hw1 := Le.ext wr g
      generalize wr.ext g = W2 at *
      go_wp2
      all_goals (go_ret; exact ⟨ret_int HF.out.symm, hle.trans hw1⟩)
theorem comX_of {a b : List Frm} {p q : Bool} (h1 : vTr a = p) (h2 : vTr b = q) : comX a b = if p && q then (comH a b : Int) else -1 := by unfold comX; rw [h1, h2]
theorem sCommonHead_any (A B : Option Addr) (n c m d : Nat) (xs ys : List Frm) (w : World) (hR : Sl w A n c xs) (hS : Sl w B m d ys) :
    Calls Try.prog 38 #[.slice A n c, .slice B m d] w fun e w' => e = .returned (.int .i64 (comX xs ys)) ∧ Le w w' := by
  cases h1 : vTr xs
  · have HF := Lib.hid (comX_of h1 (rfl : vTr ys = _))
    go_enter Try.func38, Try.ntmps38
    go_wp2_with fail
    refine (validTrace_any _ _ _ xs _ hR).mono ?_
    rintro e w1 ⟨rfl, hle⟩
    rw [h1]
    go_wp2
    go_ret
    exact ⟨ret_int HF.out.symm, hle⟩
  · cases h2 : vTr ys
    · have HF := Lib.hid (comX_of h1 h2)
      go_enter Try.func38, Try.ntmps38
      go_wp2_with fail
      refine (validTrace_any _ _ _ xs _ hR).mono ?_
      rintro e w1 ⟨rfl, hle⟩
      rw [h1]
      go_wp2_with fail
      refine (validTrace_any _ _ _ ys _ (hS.le hle)).mono ?_
      rintro e w2 ⟨rfl, hle2⟩
      rw [h2]
      go_wp2
      go_ret
      exact ⟨ret_int HF.out.symm, hle.trans hle2⟩
    · have HF := Lib.hid (comX_of h1 h2)
      go_enter Try.func38, Try.ntmps38
      go_wp2_with fail
      refine (validTrace_any _ _ _ xs _ hR).mono ?_
      rintro e w1 ⟨rfl, hle⟩
      rw [h1]
      go_wp2_with fail
      refine (validTrace_any _ _ _ ys _ (hS.le hle)).mono ?_
      rintro e w2 ⟨rfl, hle2⟩
      rw [h2]
      go_wp2_with fail
      refine (scommonHead_any _ _ _ _ _ _ xs ys _ ((hR.le hle).le hle2) ((hS.le hle).le hle2)).mono ?_
      rintro e w3 ⟨rfl, hle3⟩
      go_wp2
      go_ret
      exact ⟨ret_int HF.out.symm, (hle.trans hle2).trans hle3⟩
theorem iCommonHead_any (A B : Option Addr) (n c m d : Nat) (xs ys : List Frm) (w : World) (hR : Sl w A n c xs) (hS : Sl w B m d ys) :
    Calls Try.prog 37 #[.slice A n c, .slice B m d] w fun e w' => e = .returned (.int .i64 (comX xs ys)) ∧ Le w w' := by
  cases h1 : vTr xs
  · have HF := Lib.hid (comX_of h1 (rfl : vTr ys = _))
    go_enter Try.func37, Try.ntmps37
    go_wp2_with fail
    refine (iValidTrace_any _ _ _ xs _ hR).mono ?_
    rintro e w1 ⟨rfl, hle⟩
    rw [h1]
    go_wp2
    go_ret
    exact ⟨ret_int HF.out.symm, hle⟩
  · cases h2 : vTr ys
    · have HF := Lib.hid (comX_of h1 h2)
      go_enter Try.func37, Try.ntmps37
      go_wp2_with fail
      refine (iValidTrace_any _ _ _ xs _ hR).mono ?_
      rintro e w1 ⟨rfl, hle⟩
      rw [h1]
      go_wp2_with fail
      refine (iValidTrace_any _ _ _ ys _ (hS.le hle)).mono ?_
      rintro e w2 ⟨rfl, hle2⟩
      rw [h2]
      go_wp2
      go_ret
      exact ⟨ret_int HF.out.symm, hle.trans hle2⟩
    · have HF := Lib.hid (comX_of h1 h2)
      go_enter Try.func37, Try.ntmps37
      go_wp2_with fail
      refine (iValidTrace_any _ _ _ xs _ hR).mono ?_
      rintro e w1 ⟨rfl, hle⟩
      rw [h1]
      go_wp2_with fail
      refine (iValidTrace_any _ _ _ ys _ (hS.le hle)).mono ?_
      rintro e w2 ⟨rfl, hle2⟩
      rw [h2]
      go_wp2_with fail
      refine (icommonHead_any _ _ _ _ _ _ xs ys _ ((hR.le hle).le hle2) ((hS.le hle).le hle2)).mono ?_
      rintro e w3 ⟨rfl, hle3⟩
      go_wp2
      go_ret
      exact ⟨ret_int HF.out.symm, (hle.trans hle2).trans hle3⟩
end Go.Proofs.Ytakkmgeocmndjaa
