/- TrimTrace, LessHead, InnerTrace of the model and of the program -/
import Derived.Test.YtakkmgeocmndjaaTrC
namespace Go.Proofs.Ytakkmgeocmndjaa
open Go.RowKit
def lessX (a b : List Frm) : List Frm := cond (vTr a && vTr b) (a.drop (comH a b)) []
theorem lessX_of {a b : List Frm} {p q : Bool} (h1 : vTr a = p) (h2 : vTr b = q) : lessX a b = cond (p && q) (a.drop (comH a b)) [] := by unfold lessX; rw [h1, h2]
theorem lessX_len (a b : List Frm) : (lessX a b).length ≤ 1048576 := by
  cases h : (vTr a && vTr b)
  · unfold lessX; rw [h]; simp
  · simp at h
    have := vTr_small h.1
    rw [lessX_of h.1 h.2]; simp; omega

set_option maxRecDepth 100000 in
theorem sLessHead_any (A B : Option Addr) (n c m d : Nat) (xs ys : List Frm) (w : World) (hR : Sl w A n c xs) (hS : Sl w B m d ys) :
    Calls Try.prog 41 #[.slice A n c, .slice B m d] w fun e w' => ∃ v, e = .returned (.tuple #[v, .int .i64 (comX xs ys)]) ∧ Owd 28 w w' v (lessX xs ys) ∧ Le w w' := by
  cases h1 : vTr xs
  · have HF := Lib.hid (comX_of h1 (rfl : vTr ys = _))
    have HX := Lib.hid (lessX_of h1 (rfl : vTr ys = _))
    go_enter Try.func41, Try.ntmps41
    go_wp2_with fail
    refine (validTrace_any _ _ _ xs _ hR).mono ?_
    rintro e w1 ⟨rfl, hle⟩
    rw [h1]
    go_wp2
    exact bodyPost_ret (v := .tuple #[.slice none 0 0, .int .i64 (-1)]) (by simp [results, Try.results41, go_sem]) rfl ⟨_, by rw [HF.out]; rfl, by rw [HX.out]; exact Owd.nil _ _ _, hle⟩
  · cases h2 : vTr ys
    · have HF := Lib.hid (comX_of h1 h2)
      have HX := Lib.hid (lessX_of h1 h2)
      go_enter Try.func41, Try.ntmps41
      go_wp2_with fail
      refine (validTrace_any _ _ _ xs _ hR).mono ?_
      rintro e w1 ⟨rfl, hle⟩
      rw [h1]
      go_wp2_with fail
      refine (validTrace_any _ _ _ ys _ (hS.le hle)).mono ?_
      rintro e w2 ⟨rfl, hle2⟩
      rw [h2]
      go_wp2
      exact bodyPost_ret (v := .tuple #[.slice none 0 0, .int .i64 (-1)]) (by simp [results, Try.results41, go_sem]) rfl ⟨_, by rw [HF.out]; rfl, by rw [HX.out]; exact Owd.nil _ _ _, hle.trans hle2⟩
    · have HF := Lib.hid (comX_of h1 h2)
      have HX := Lib.hid (lessX_of h1 h2)
      have hR0 := hR.len
      have hc := comH_le xs ys
      have hsm := vTr_small h1
      go_enter Try.func41, Try.ntmps41
      go_wp2_with fail
      refine (validTrace_any _ _ _ xs _ hR).mono ?_
      rintro e w1 ⟨rfl, hle⟩
      rw [h1]
      go_wp2_with fail
      refine (validTrace_any _ _ _ ys _ (hS.le hle)).mono ?_
      rintro e w2 ⟨rfl, hle2⟩
      rw [h2]
      have L0 := hle.trans hle2
      have S1 := hR.le L0
      have S2 := hS.le L0
      go_wp2_with fail
      refine (scommonHead_any _ _ _ _ _ _ xs ys _ S1 S2).mono ?_
      rintro e w3 ⟨rfl, hle3⟩
      replace S1 := S1.le hle3
      replace S2 := S2.le hle3
      replace L0 := L0.trans hle3
      clear hle3
      clear hle hle2 hR hS
      generalize comH xs ys = k at *
      obtain rfl := hR0
      have hcp := S1.cap_
      have hmx := S1.max
      rcases A with _ | ad
      · have e0 := S1.none_nil
        subst e0
        obtain rfl : k = 0 := by have := hc.1; simpa using this
        go_wp2_with fail
        refine (copyFrames_any _ _ _ ([]) _ (Sl.nil _ _ _ (by omega)) (by omega)).mono ?_
        rintro e w4 ⟨v, rfl, D, hle⟩
        replace D := D.mono L0
        have LZ := L0.trans hle
        clear hle
        go_wp2
        exact bodyPost_ret (v := .tuple #[v, .int .i64 (0)]) (by simp [results, Try.results41, go_sem]) rfl ⟨_, by rw [HF.out]; rfl, by rw [HX.out]; exact D, LZ⟩
      by_cases hck : c = k
      · subst hck
        have S3 := S1.cutE (some ad) (by omega)
        go_wp2_with fail
        refine (copyFrames_any _ _ _ (xs.drop c) _ (S3) (by omega)).mono ?_
        rintro e w4 ⟨v, rfl, D, hle⟩
        replace D := D.mono L0
        have LZ := L0.trans hle
        clear hle
        go_wp2
        exact bodyPost_ret (v := .tuple #[v, .int .i64 (c)]) (by simp [results, Try.results41, go_sem]) rfl ⟨_, by rw [HF.out]; rfl, by rw [HX.out]; exact D, LZ⟩
      · have S3 := S1.cutS k (by omega) (s := k * 2) rfl
        go_wp2_with fail
        refine (copyFrames_any _ _ _ (xs.drop k) _ (S3) (by omega)).mono ?_
        rintro e w4 ⟨v, rfl, D, hle⟩
        replace D := D.mono L0
        have LZ := L0.trans hle
        clear hle
        go_wp2
        exact bodyPost_ret (v := .tuple #[v, .int .i64 (k)]) (by simp [results, Try.results41, go_sem]) rfl ⟨_, by rw [HF.out]; rfl, by rw [HX.out]; exact D, LZ⟩

theorem cut_rest {w0 w w' : World} {n k : Nat} {xs : List Frm} (hR : w'.ownsRow w.heap.size 28 2 (.slice (some ⟨w.heap.size, 0, none⟩) n n) n (xs.flatMap Enc.cells)) (hl : xs.length = n) (hm : n ≤ 2097152) (hok : ∀ x ∈ xs, Enc.ok x) (hk : k ≤ n) (L0 : Le w0 w) :
    OwdW 28 w0 w' (.slice (cutP w.heap.size n k) (n - k) (n - k)) (xs.drop k) := OwdW.mono (win_rest (s := 2) (w0 := w) hR hl hm hok k hk rfl) L0
theorem cut_head {w0 w w' : World} {n k : Nat} {xs : List Frm} (hR : w'.ownsRow w.heap.size 28 2 (.slice (some ⟨w.heap.size, 0, none⟩) n n) n (xs.flatMap Enc.cells)) (hl : xs.length = n) (hm : n ≤ 2097152) (hok : ∀ x ∈ xs, Enc.ok x) (hk : k ≤ n) (L0 : Le w0 w) :
    OwdW 28 w0 w' (.slice (some ⟨w.heap.size, 0, none⟩) k k) (xs.take k) := OwdW.mono (win_head (w0 := w) hR hl hm hok k hk) L0

set_option maxRecDepth 100000 in
theorem iLessHead_any (A B : Option Addr) (n c m d : Nat) (xs ys : List Frm) (w : World) (hR : Sl w A n c xs) (hS : Sl w B m d ys) :
    Calls Try.prog 40 #[.slice A n c, .slice B m d] w fun e w' => ∃ v, e = .returned (.tuple #[v, .int .i64 (comX xs ys)]) ∧ OwdW 28 w w' v (lessX xs ys) ∧ Le w w' := by
  have hlen := hR.len
  have hok := Lib.hid hR.ok
  cases h1 : (vTr xs && vTr ys)
  · have HF := Lib.hid (show comX xs ys = -1 by unfold comX; rw [h1]; rfl)
    have HX := Lib.hid (show lessX xs ys = [] by unfold lessX; rw [h1]; rfl)
    go_enter Try.func40, Try.ntmps40
    go_wp2_with fail
    refine (iCommonHead_any _ _ _ _ _ _ xs ys _ hR hS).mono ?_
    rintro e w1 ⟨rfl, hle⟩
    rw [HF.out]
    go_wp2
    exact bodyPost_ret (v := .tuple #[.slice none 0 0, .int .i64 (-1)]) (by simp [results, Try.results40, go_sem]) rfl ⟨_, by rw [HF.out], by rw [HX.out]; exact OwdW.of (Owd.nil _ _ _), hle⟩
  · have hc := (comH_le xs ys).1
    have HF := Lib.hid (show comX xs ys = (comH xs ys : Int) by unfold comX; rw [h1]; rfl)
    have HX := Lib.hid (show lessX xs ys = xs.drop (comH xs ys) by unfold lessX; rw [h1]; rfl)
    have hsm := vTr_small (by simp at h1; exact h1.1 : vTr xs = true)
    go_enter Try.func40, Try.ntmps40
    go_wp2_with fail
    refine (iCommonHead_any _ _ _ _ _ _ xs ys _ hR hS).mono ?_
    rintro e w1 ⟨rfl, hle⟩
    rw [HF.out]
    generalize comH xs ys = k at *
    have hneg : decide ((k : Int) < 0) = false := decide_eq_false (by omega)
    have S1 := hR.le hle
    go_wp2_with fail
    refine (cutFrames_any _ _ _ xs k _ S1 (by omega) (by omega)).mono ?_
    rintro e w2 ⟨rfl, O, hle2⟩
    have HD := Lib.hid (cut_rest (n := n) (k := k) O hlen (by omega) hok.out (by omega) hle)
    clear O
    go_wp2
    exact bodyPost_ret (v := .tuple #[.slice (cutP w1.heap.size n k) (n - k) (n - k), .int .i64 k]) (by simp [results, Try.results40, go_sem]) rfl ⟨_, by rw [HF.out], by rw [HX.out]; exact HD.out, hle.trans hle2⟩
end Go.Proofs.Ytakkmgeocmndjaa
