/- plain: a program in which each number that is told is another (for FnRunLog) -/
import Derived.Test.YtlepgfccnfcagaaPdVP
import Derived.Test.YtlepgfccnfcagaaPrLP
import Derived.Test.YtlepgfccnfcagaaWp12
namespace Go.Proofs.Ytlepgfccnfcagaa
open Go.RowKit
def ql (x : Lin) : Lin := if x.kind = 1 then ⟨x.depth, x.kind, 99 - x.a, x.b⟩ else x
theorem ql_knd1 (x : Lin) : (ql x).kind = x.kind := by unfold ql; split <;> rfl
theorem ql_dep (p : List Lin) : dep (p.map ql) = dep p := by
  funext i
  unfold dep
  rw [List.getElem?_map]
  cases p[i]? with
  | none => rfl
  | some x => show (ql x).depth = x.depth; unfold ql; split <;> rfl
theorem ql_knd (p : List Lin) (i : Nat) : knd (p.map ql) i = knd p i := by
  unfold knd
  rw [List.getElem?_map]
  cases p[i]? with
  | none => rfl
  | some x => exact ql_knd1 x
theorem ql_Qr (p : List Lin) : Qr p (p.map ql) := by
  refine ⟨by simp, fun i => by rw [ql_dep], ql_knd p, fun i => ?_, fun i h => ?_, fun i h => ?_⟩
  · unfold lnBc
    rw [List.getElem?_map]
    cases p[i]? with
    | none => rfl
    | some x => show (ql x).b = x.b; unfold ql; split <;> rfl
  · unfold knd at h
    unfold lnA
    rw [List.getElem?_map]
    cases hx : p[i]? with
    | none => rfl
    | some x =>
      rw [hx] at h
      show (ql x).a = x.a
      unfold ql; rw [if_neg h]
  · unfold knd at h
    unfold lnA
    rw [List.getElem?_map]
    cases hx : p[i]? with
    | none => rw [hx] at h; exact absurd h (by decide)
    | some x =>
      rw [hx] at h
      show (ql x).a = 99 - x.a
      unfold ql; rw [if_pos h]
theorem vp_ql {xs : List Cls} {p : List Lin} (h : vp xs p = true) : vp xs (p.map ql) = true := by
  have hl : (p.map ql).length = p.length := by simp
  have hd := ql_dep p
  have hk : ∀ i, knd (p.map ql) i = knd p i ∨ (knd p i = 1 ∧ knd (p.map ql) i = 0) := fun i => .inl (ql_knd p i)
  rw [← vp_same, vpI_iff] at h ⊢
  obtain ⟨h1, h2, h3, h4, h5⟩ := h
  refine ⟨h1, by rw [hl]; exact h2, fun i hi => ?_, fun h0 => ?_, fun i hi => ?_⟩
  · have hi2 : i < p.length := by omega
    have h := h3 i hi2
    unfold lineI at h ⊢
    rw [lk_depI hd hk, lk_outs hd, lk_up hd hk, List.getElem_map, ql_knd1]
    by_cases e : p[i].kind = 1
    · have e2 : ql p[i] = ⟨p[i].depth, p[i].kind, 99 - p[i].a, p[i].b⟩ := by unfold ql; rw [if_pos e]
      rw [e2]
      have hm : mostA xs.length 1 = 99 := rfl
      refine ⟨?_, h.2.1, h.2.2.1, h.2.2.2⟩
      have hn := h.1
      rw [e, hm, rng_iff] at hn
      show rng 0 (mostA xs.length p[i].kind) (99 - p[i].a) = true
      rw [e, hm, rng_iff]
      omega
    · have e2 : ql p[i] = p[i] := by unfold ql; rw [if_neg e]
      rw [e2]
      exact h
  · have h := h4 (by omega)
    have a := lk_opn hk (p.length - 1)
    rw [knd_at (p := p.map ql) (by omega), knd_at (p := p) (by omega), h] at a
    simpa [hl] using a
  · have h := h5 i (by omega)
    rw [lk_k hk 7 (by decide), lk_parts hl hd hk, lk_exs hk, lk_fol hk]
    refine ⟨h.1, fun hf => ?_⟩
    obtain ⟨j, hj, h7, hm⟩ := h.2 hf
    exact ⟨j, hj, by rw [lk_k hk 7 (by decide)]; exact h7, by rw [lk_parts hl hd hk]; exact hm⟩
theorem rp_ql {xs : List Cls} {p : List Lin} (h : vp xs p = true) : (rpL xs (p.map ql)).length = (rpL xs p).length ∧ ∀ k (h1 : k < (rpL xs p).length) (h2 : k < (rpL xs (p.map ql)).length), Rl (rpL xs p)[k] (rpL xs (p.map ql))[k] := by
  have e1 : rpL xs p = (runI xs p).2.1 := by unfold rpL rgL; rw [h]; rfl
  have e2 : rpL xs (p.map ql) = (runI xs (p.map ql)).2.1 := by unfold rpL rgL; rw [vp_ql h]; rfl
  obtain ⟨-, -, hl, he⟩ := run_R (xs := xs) (ql_Qr p)
  refine ⟨by rw [e1, e2]; exact hl, fun k h1 h2 => ?_⟩
  simp only [e1, e2]
  exact he k (by rw [← e1]; exact h1) (by rw [← e2]; exact h2)
/-- a copy in which the first j lines are done -/
def MidQ (p L : List Lin) (j : Nat) : Prop := L.length = p.length ∧ ∀ i, L[i]? = if i < j then p[i]?.map ql else p[i]?
theorem MidQ.start (p : List Lin) : MidQ p p 0 := ⟨rfl, fun i => by rw [if_neg (by omega)]⟩
theorem MidQ.done {p L : List Lin} {j : Nat} (h : MidQ p L j) (hj : p.length ≤ j) : L = p.map ql := by
  apply List.ext_getElem?
  intro i
  rw [h.2 i, List.getElem?_map]
  by_cases hi : i < j
  · rw [if_pos hi]
  · rw [if_neg hi, List.getElem?_eq_none (by omega)]; rfl
theorem MidQ.at_ {p L : List Lin} {j : Nat} (h : MidQ p L j) (hj : j < p.length) : L[j]'(by rw [h.1]; exact hj) = p[j] := by
  have hjl : j < L.length := by rw [h.1]; exact hj
  have := h.2 j
  rw [if_neg (by omega), List.getElem?_eq_getElem hjl, List.getElem?_eq_getElem hj] at this
  injection this
theorem MidQ.keep {p L : List Lin} {j : Nat} (h : MidQ p L j) (hj : j < p.length) (hk : p[j].kind ≠ 1) : MidQ p L (j + 1) := by
  refine ⟨h.1, fun i => ?_⟩
  rw [h.2 i]
  by_cases e : i = j
  · subst e
    rw [if_neg (by omega), if_pos (by omega), List.getElem?_eq_getElem hj]
    show some p[i] = some (ql p[i])
    unfold ql; rw [if_neg hk]
  · by_cases hi : i < j
    · rw [if_pos hi, if_pos (by omega)]
    · rw [if_neg hi, if_neg (by omega)]
theorem MidQ.put {p L : List Lin} {j : Nat} (h : MidQ p L j) (hj : j < p.length) (hk : p[j].kind = 1) : MidQ p (L.set j ⟨p[j].depth, p[j].kind, 99 - p[j].a, p[j].b⟩) (j + 1) := by
  refine ⟨by rw [List.length_set]; exact h.1, fun i => ?_⟩
  have hl := h.1
  by_cases e : i = j
  · subst e
    rw [List.getElem?_set_self (by omega), if_pos (by omega), List.getElem?_eq_getElem hj]
    show _ = some (ql p[i])
    unfold ql; rw [if_pos hk]
  · rw [List.getElem?_set_ne (fun h => e h.symm), h.2 i]
    by_cases hi : i < j
    · rw [if_pos hi, if_pos (by omega)]
    · rw [if_neg hi, if_neg (by omega)]
end Go.Proofs.Ytlepgfccnfcagaa
