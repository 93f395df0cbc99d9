/- exits: what stays right while exits are done -/
import Derived.Test.YtacilbglnhgifaaLvK
import Derived.Test.YtacilbglnhgifaaLvG
namespace Go.Proofs.Ytacilbglnhgifaa
open Go.RowKit
structure CvOk (xs : List Cls) (N : Nat) (s : LvS) : Prop where
  ok : LvOk N s
  cx : Cxt s.2.1
  cl : ∀ i (h : i < s.2.1.length), hasK xs s.2.1[i].cls = true
  ca : ∀ i (h : i < s.2.1.length), s.2.1[i].cause = -1
theorem CvOk.lnk {xs : List Cls} {N : Nat} {s : LvS} (h : CvOk xs N s) : Lnk s.2.1 :=
  ⟨fun i hi => by rw [h.ca i hi]; omega, fun i hi => by have := h.cx i hi; omega, fun i hi => by have := h.cx i hi; rw [h.ca i hi]; omega⟩
theorem CvOk.step {xs : List Cls} {N : Nat} {s : LvS} (h : CvOk xs N s) {x : Xit} (hx : xOk xs x = true) : CvOk xs (N + 1) (stX xs x s) := by
  have hs := h.ok.step xs x
  have h3 := h.ok.lo
  have h4 := h.ok.hi
  by_cases k3 : x.kind = 3
  · have e : (stX xs x s).2.1 = s.2.1 ++ [⟨x.a, x.b, -1, s.2.2, false⟩] := by unfold stX; rw [if_neg (by omega), if_neg (by omega), if_pos k3]
    rw [xOk_3 k3, Bool.and_eq_true] at hx
    have key : ∀ i, i < (stX xs x s).2.1.length → i < s.2.1.length ∨ i = s.2.1.length := fun i hi => by
      rw [e, List.length_append] at hi
      have : i < s.2.1.length + 1 := hi
      omega
    refine ⟨hs, fun i hi => ?_, fun i hi => ?_, fun i hi => ?_⟩
    all_goals
      simp only [e]
      rcases key i hi with h1 | h1
      · rw [List.getElem_append_left h1]
        first | exact h.cx i h1 | exact h.cl i h1 | exact h.ca i h1
      · subst h1
        rw [List.getElem_append_right (Nat.le_refl _)]
        simp only [Nat.sub_self, List.getElem_cons_zero]
        first | exact hx.1 | (exact ⟨by omega, by omega⟩) | (show (-1 : Int) = -1; rfl) | skip
  · have e : (stX xs x s).2.1 = s.2.1 := by
      unfold stX
      by_cases k1 : x.kind = 1
      · rw [if_pos k1]
      · rw [if_neg k1]
        by_cases k2 : x.kind = 2
        · rw [if_pos k2]
        · rw [if_neg k2, if_neg k3]
    refine ⟨hs, ?_, fun i hi => ?_, fun i hi => ?_⟩
    · rw [e]; exact h.cx
    · simp only [e]; exact h.cl i (by rw [e] at hi; exact hi)
    · simp only [e]; exact h.ca i (by rw [e] at hi; exact hi)
theorem CvOk.all {xs : List Cls} {N : Nat} {s : LvS} (h : CvOk xs N s) : ∀ (K : List Xit), (∀ x ∈ K, xOk xs x = true) → CvOk xs (N + K.length) (clX xs K s)
  | [], _ => h
  | x :: K, hK => (CvOk.all h K fun y hy => hK y (List.mem_cons_of_mem _ hy)).step (hK x (List.mem_cons_self ..))
theorem CvOk.start {xs : List Cls} {has : Bool} {cl k : Int} (h : has = true → hasK xs cl = true) : CvOk xs 10 (stS has cl k) := by
  cases has
  · exact ⟨stS_ok _ _ _, fun i hi => absurd hi (Nat.not_lt_zero i), fun i hi => absurd hi (Nat.not_lt_zero i), fun i hi => absurd hi (Nat.not_lt_zero i)⟩
  · have key : ∀ i, i < (stS true cl k).2.1.length → i = 0 := fun i hi => by have : i < 1 := hi; omega
    refine ⟨stS_ok _ _ _, fun i hi => ?_, fun i hi => ?_, fun i hi => ?_⟩
    · have := key i hi; subst this; show (-1 : Int) ≤ -1 ∧ (-1 : Int) < 0; omega
    · have := key i hi; subst this; exact h rfl
    · have := key i hi; subst this; rfl
theorem clX_drop (xs : List Cls) (L : List Xit) (s : LvS) {k : Nat} (h : k < L.length) : clX xs (L.drop k) s = stX xs L[k] (clX xs (L.drop (k + 1)) s) := by rw [List.drop_eq_getElem_cons h]; rfl
theorem tk_AL {xs : List Cls} {N : Nat} {s : LvS} (h : CvOk xs N s) (ht : okTree xs = true) {a : Int} (ha : hasK xs a = true) {k : Nat} (hk : k < s.2.1.length) (e : s.2.2 = (k : Int)) : tkX xs s.2.1 s.2.2 a = if isAL xs s.2.1[k].cls a = true then -1 else s.2.2 := by
  unfold tkX isAx
  rw [if_pos (by omega), e, flC_at hk, ht, h.cl k hk, ha, Bool.true_and, Bool.true_and, Bool.true_and]
end Go.Proofs.Ytacilbglnhgifaa
