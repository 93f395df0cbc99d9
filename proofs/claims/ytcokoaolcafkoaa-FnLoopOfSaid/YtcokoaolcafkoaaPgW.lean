/- Plain: what is at the end of blocks -/
import Derived.Test.YtcokoaolcafkoaaPgA
import Derived.Test.YtcokoaolcafkoaaPhQ
namespace Go.Proofs.Ytcokoaolcafkoaa
open Go.RowKit
/-- the last line of the try of a line LnTry if it is LnFinally -/
def finE (p : List Lin) (j : Nat) : Option Nat := match (parts p j).getLast? with | some k => if knd p k = 10 then some k else none | none => none
/-- the line at the end of the block of a line -/
def lastE (p : List Lin) (i : Nat) : Option Nat := if knd p i = 11 then some i else if knd p i = 12 ∨ knd p i = 10 then none else match tryAt p i with | some j => finE p j | none => none
def wayL (p : List Lin) (L : List Nat) : List Nat := L.filterMap (lastE p)
/-- the program's map of ends behind some lines -/
def eGo (p : List Lin) : Nat → Nat → Option Nat
  | 0, _ => none
  | k + 1, x => if knd p k = 11 then (if x = k then some k else eGo p k x) else if knd p k = 7 then (match finE p k with | some l => if x ∈ (parts p k).take ((parts p k).length - 1) then some l else eGo p k x | none => eGo p k x) else eGo p k x
theorem parts_ne (p : List Lin) (j : Nat) : parts p j ≠ [] := by unfold parts; simp
theorem parts_pos (p : List Lin) (j : Nat) : 0 < (parts p j).length := by unfold parts; simp
theorem getLast_idx {α : Type} {L : List α} (h : 0 < L.length) : L.getLast? = some (L[L.length - 1]'(by omega)) := by
  rw [List.getLast?_eq_getElem?, List.getElem?_eq_getElem]
/-- each line of a try but the last one is followed by one that may come behind it -/
theorem pt_take (p : List Lin) : ∀ (m k x : Nat) (d : Int), x ∈ (k :: ptGo p d m k).take (ptGo p d m k).length → ∃ y, mayF (knd p x) (knd p y) = true
  | 0, k, x, d, h => by simp [ptGo] at h
  | m + 1, k, x, d, h => by
    unfold ptGo at h
    split at h
    · next c =>
      rw [List.length_cons, List.take_succ_cons] at h
      rcases List.mem_cons.1 h with rfl | h
      · exact ⟨_, c.2.2⟩
      · exact pt_take p m _ x d h
    · simp at h
theorem parts_take {p : List Lin} {j x : Nat} (h : x ∈ (parts p j).take ((parts p j).length - 1)) : x ∈ parts p j ∧ knd p x ≠ 10 := by
  refine ⟨List.mem_of_mem_take h, fun e => ?_⟩
  obtain ⟨y, hy⟩ := pt_take p p.length j x (dep p j) (by unfold parts at h; simpa using h)
  have := mayF_iff.1 hy
  omega
theorem take_mem {α : Type} {L : List α} {x : α} (h : x ∈ L) (hl : ∀ y, L.getLast? = some y → x ≠ y) : x ∈ L.take (L.length - 1) := by
  obtain ⟨i, hi, rfl⟩ := List.mem_iff_getElem.1 h
  have hne : i ≠ L.length - 1 := fun e => hl _ (getLast_idx (by omega)) (by congr 1)
  rw [List.mem_iff_getElem]
  exact ⟨i, by rw [List.length_take]; omega, by rw [List.getElem_take]⟩
theorem finE_10 {p : List Lin} {j l : Nat} (h : finE p j = some l) : knd p l = 10 ∧ (parts p j).getLast? = some l := by
  unfold finE at h
  split at h
  · next k hk =>
    split at h
    · next c => injection h with h; subst h; exact ⟨c, hk⟩
    · cases h
  · cases h
theorem eGo_none {p : List Lin} {x : Nat} (h : knd p x ≠ 11) (h2 : ∀ j, knd p j = 7 → x ∈ (parts p j).take ((parts p j).length - 1) → finE p j = none) : ∀ k, eGo p k x = none
  | 0 => rfl
  | k + 1 => by
    have ih := eGo_none h h2 k
    unfold eGo
    split
    · next c => rw [if_neg (fun e => h (by rw [e]; exact c)), ih]
    · split
      · next c =>
        split
        · next l hl =>
          split
          · next hm => rw [h2 k c hm] at hl; cases hl
          · exact ih
        · exact ih
      · exact ih
theorem eGo_with {p : List Lin} {x : Nat} (h : knd p x = 11) : ∀ k, x < k → eGo p k x = some x
  | 0, hk => by omega
  | k + 1, hk => by
    unfold eGo
    by_cases e : x = k
    · subst e; rw [if_pos h, if_pos rfl]
    · have ih := eGo_with h k (by omega)
      split
      · (try rw [if_neg e]); exact ih
      · split
        · next c =>
          split
          · next l hl =>
            split
            · next hm =>
              rcases List.mem_cons.1 (List.mem_of_mem_take hm) with e2 | h2
              · exact absurd e2 e
              · obtain ⟨y, _, h4, _⟩ := pt_back p _ _ _ h2
                have := mayF_iff.1 h4
                omega
            · exact ih
          · exact ih
        · exact ih
theorem eGo_try {p : List Lin} {x j l : Nat} (h7 : knd p j = 7) (hm : x ∈ (parts p j).take ((parts p j).length - 1)) (hl : finE p j = some l) (hx : knd p x ≠ 11) : ∀ k, j < k → eGo p k x = some l
  | 0, hk => by omega
  | k + 1, hk => by
    unfold eGo
    by_cases e : j = k
    · subst e; rw [if_neg (by omega), if_pos h7, hl]; exact if_pos hm
    · have ih := eGo_try h7 hm hl hx k (by omega)
      split
      · next c => rw [if_neg (fun e => hx (by rw [e]; exact c))]; exact ih
      · split
        · next c =>
          split
          · next l2 hl2 =>
            split
            · next hm2 => exact absurd (try_uniq x x (Nat.le_refl _) ⟨h7, List.mem_of_mem_take hm⟩ ⟨c, List.mem_of_mem_take hm2⟩) e
            · exact ih
          · exact ih
        · exact ih
theorem eGo_last {xs : List Cls} {p : List Lin} (g : GoodP xs p) {x : Nat} (hx : x < p.length) (ho : opn (knd p x) = true) : eGo p p.length x = lastE p x := by
  have ho' := opn_iff.1 ho
  unfold lastE
  by_cases h11 : knd p x = 11
  · rw [if_pos h11]; exact eGo_with h11 _ hx
  rw [if_neg h11]
  by_cases h12 : knd p x = 12 ∨ knd p x = 10
  · rw [if_pos h12]
    refine eGo_none h11 (fun j h7 hm => ?_) _
    have h1 := parts_take hm
    rcases h12 with h | h
    · rcases List.mem_cons.1 h1.1 with rfl | h2
      · omega
      · obtain ⟨y, _, h4, _⟩ := pt_back p _ _ _ h2
        have := mayF_iff.1 h4
        omega
    · exact absurd h h1.2
  rw [if_neg h12]
  obtain ⟨j, hj⟩ := tryAt_has g.tries hx (by
    by_cases h7 : knd p x = 7
    · exact .inl h7
    · exact .inr (fol_iff.2 (by omega)))
  rw [hj]
  have ht := tryAt_is hj
  show _ = finE p j
  cases hf : finE p j with
  | none => exact eGo_none h11 (fun k h7 hm => by rw [try_uniq x x (Nat.le_refl _) ⟨h7, List.mem_of_mem_take hm⟩ ht]; exact hf) _
  | some l =>
    have hl := finE_10 hf
    refine eGo_try ht.1 (take_mem ht.2 (fun y hy e => ?_)) hf h11 _ (by have := try_le x x (Nat.le_refl _) ht; omega)
    rw [hl.2] at hy; injection hy with hy
    subst hy
    subst e
    exact h12 (.inr hl.1)
/-! the lines around a line open blocks, each one less deep -/
theorem enGo_opn {p : List Lin} (H : ∀ i, i < p.length → depS p i) : ∀ (k : Nat) (d : Int), k < p.length → d ≤ dep p k → ∀ x ∈ enGo p d k, opn (knd p x) = true
  | 0, _, _, _, x, h => by cases h
  | k + 1, d, hk, hd, x, h => by
    have ih := fun d h1 h2 => enGo_opn H k d h1 h2
    unfold enGo at h
    have a := (H (k + 1) hk).2.2 k rfl
    split at h
    · next c =>
      rcases List.mem_cons.1 h with rfl | h
      · exact a.2.2 (by omega)
      · exact ih _ (by omega) (Int.le_refl _) x h
    · next c => exact ih d (by omega) (by omega) x h
theorem good_dep {xs : List Cls} {p : List Lin} (g : GoodP xs p) : ∀ i, i < p.length → depS p i := fun i hi => (g.line i hi).2.1
theorem encl_opn {xs : List Cls} {p : List Lin} (g : GoodP xs p) {i : Nat} (hi : i < p.length) : ∀ x ∈ encl p i, opn (knd p x) = true := enGo_opn (good_dep g) i _ hi (Int.le_refl _)
theorem enGo_deep {p : List Lin} (H : ∀ i, i < p.length → depS p i) : ∀ (k : Nat) (d : Int), k < p.length → 0 ≤ d → d ≤ dep p k → ((enGo p d k).length : Int) = d ∧ ∀ j (h : j < (enGo p d k).length), dep p (enGo p d k)[j] = d - 1 - j
  | 0, d, hk, h0, hd => by
    have := (H 0 hk).2.1 rfl
    exact ⟨by show ((0 : Nat) : Int) = d; omega, fun j h => by exact absurd h (Nat.not_lt_zero j)⟩
  | k + 1, d, hk, h0, hd => by
    have a := (H (k + 1) hk).2.2 k rfl
    rw [enGo_succ]
    by_cases c : dep p k < d
    · rw [if_pos c]
      have hdk : dep p k = d - 1 := by omega
      have hk0 := (H k (by omega)).1.1
      obtain ⟨h1, h2⟩ := enGo_deep H k (dep p k) (by omega) hk0 (Int.le_refl _)
      refine ⟨by rw [List.length_cons]; omega, fun j h => ?_⟩
      cases j with
      | zero => rw [List.getElem_cons_zero]; omega
      | succ j =>
        rw [List.getElem_cons_succ, h2 j (by simpa using h)]; omega
    · rw [if_neg c]
      exact enGo_deep H k d (by omega) h0 (by omega)
theorem encl_deep {xs : List Cls} {p : List Lin} (g : GoodP xs p) {i : Nat} (hi : i < p.length) : ((encl p i).length : Int) = dep p i ∧ ∀ j (h : j < (encl p i).length), dep p (encl p i)[j] = dep p i - 1 - j := enGo_deep (good_dep g) i _ hi (good_dep g i hi).1.1 (Int.le_refl _)
end Go.Proofs.Ytcokoaolcafkoaa
