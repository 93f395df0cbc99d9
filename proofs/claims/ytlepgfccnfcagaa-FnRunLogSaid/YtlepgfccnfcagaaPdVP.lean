/- laws of programs: where each LnLog is made an LnPass, a valid program stays valid; the rows of such a copy -/
import Derived.Test.YtlepgfccnfcagaaWp5
import Derived.Test.YtlepgfccnfcagaaWp1
namespace Go.Proofs.Ytlepgfccnfcagaa
open Go.RowKit
def qz (x : Lin) : Lin := if x.kind = 1 then ⟨x.depth, 0, 0, 0⟩ else x
section
variable {p q : List Lin}
theorem qz_dep (p : List Lin) : dep (p.map qz) = dep p := by
  funext i
  unfold dep
  rw [List.getElem?_map]
  cases p[i]? with
  | none => rfl
  | some x => show (qz x).depth = x.depth; unfold qz; split <;> rfl
theorem qz_knd (p : List Lin) (i : Nat) : knd (p.map qz) i = knd p i ∨ (knd p i = 1 ∧ knd (p.map qz) i = 0) := by
  unfold knd
  rw [List.getElem?_map]
  cases p[i]? with
  | none => exact .inl rfl
  | some x =>
    show (qz x).kind = x.kind ∨ (x.kind = 1 ∧ (qz x).kind = 0)
    unfold qz
    by_cases h : x.kind = 1
    · rw [if_pos h]; exact .inr ⟨h, rfl⟩
    · rw [if_neg h]; exact .inl rfl
variable (hl : q.length = p.length) (hd : dep q = dep p) (hk : ∀ i, knd q i = knd p i ∨ (knd p i = 1 ∧ knd q i = 0))
include hk in
theorem lk_opn (i : Nat) : opn (knd q i) = opn (knd p i) := by
  rcases hk i with h | ⟨h1, h2⟩
  · rw [h]
  · rw [h1, h2]; rfl
include hk in
theorem lk_fol (i : Nat) : fol (knd q i) = fol (knd p i) := by
  rcases hk i with h | ⟨h1, h2⟩
  · rw [h]
  · rw [h1, h2]; rfl
include hk in
theorem lk_k (c : Int) (hc : 5 ≤ c) (i : Nat) : (knd q i = c) = (knd p i = c) := by
  rcases hk i with h | ⟨h1, h2⟩
  · rw [h]
  · rw [h1, h2]; exact propext ⟨fun h => by omega, fun h => by omega⟩
include hk in
theorem lk_may (i j : Nat) : mayF (knd q i) (knd q j) = mayF (knd p i) (knd p j) := by
  rcases hk i with h | ⟨h1, h2⟩ <;> rcases hk j with h3 | ⟨h3, h4⟩
  · rw [h, h3]
  · rw [h, h3, h4]; simp [mayF]
  · rw [h1, h2, h3]; simp [mayF]
  · rw [h1, h2, h3, h4]; simp [mayF]
include hd in
theorem lk_bGo (d : Int) : ∀ m k, bGo q d m k = bGo p d m k
  | 0, k => rfl
  | m + 1, k => by unfold bGo; rw [hd, lk_bGo d m (k + 1)]
include hl hd in
theorem lk_bEnd (i : Nat) : bEnd q i = bEnd p i := by unfold bEnd; rw [hl, hd, lk_bGo hd]
include hl hd hk in
theorem lk_pt (d : Int) : ∀ m k, ptGo q d m k = ptGo p d m k
  | 0, k => rfl
  | m + 1, k => by unfold ptGo; rw [lk_bEnd hl hd, hl, hd, lk_may hk, lk_pt d m]
include hl hd hk in
theorem lk_parts (i : Nat) : parts q i = parts p i := by unfold parts; rw [hl, hd, lk_pt hl hd hk]
include hk in
theorem lk_exs (L : List Nat) : exs q L = exs p L := by
  unfold exs
  exact List.countP_congr fun x _ => by rw [beq_iff_eq, beq_iff_eq, lk_k hk 8 (by decide)]
include hd in
theorem lk_oGo (d : Int) : ∀ k, oGo q d k = oGo p d k
  | 0 => rfl
  | k + 1 => by unfold oGo; rw [hd, lk_oGo d k]
include hd in
theorem lk_outs (i : Nat) : outs q i = outs p i := by unfold outs; rw [hd, lk_oGo hd]
include hd hk in
theorem lk_up : ∀ (m : Nat) (o : Option Nat), upGo q m o = upGo p m o
  | 0, none => rfl
  | 0, some _ => rfl
  | m + 1, none => rfl
  | m + 1, some j => by
    show (if knd q j = 12 then true else upGo q m (outs q j)) = if knd p j = 12 then true else upGo p m (outs p j)
    simp only [lk_k hk 12 (by decide), lk_outs hd, lk_up m]
include hd hk in
theorem lk_depI (i : Nat) : depI q i ↔ depI p i := by
  unfold depI
  rw [hd]
  simp only [lk_opn hk]
end
theorem vp_qz {xs : List Cls} {p : List Lin} (h : vp xs p = true) : vp xs (p.map qz) = true := by
  have hl : (p.map qz).length = p.length := by simp
  have hd := qz_dep p
  have hk := qz_knd p
  rw [← vp_same, vpI_iff] at h ⊢
  obtain ⟨h1, h2, h3, h4, h5⟩ := h
  refine ⟨h1, by rw [hl]; exact h2, fun i hi => ?_, fun h0 => ?_, fun i hi => ?_⟩
  · have hi2 : i < p.length := by omega
    have h := h3 i hi2
    unfold lineI at h ⊢
    rw [lk_depI hd hk, lk_outs hd, lk_up hd hk, List.getElem_map]
    by_cases e : p[i].kind = 1
    · have e2 : qz p[i] = ⟨p[i].depth, 0, 0, 0⟩ := by unfold qz; rw [if_pos e]
      rw [e2]
      exact ⟨rfl, rfl, h.2.2.1, fun h => by rcases h with h | h <;> cases h⟩
    · have e2 : qz p[i] = p[i] := by unfold qz; rw [if_neg e]
      rw [e2]
      exact h
  · have h := h4 (by omega)
    have a := lk_opn hk (p.length - 1)
    rw [knd_at (p := p.map qz) (by omega), knd_at (p := p) (by omega), h] at a
    simpa [hl] using a
  · have h := h5 i (by omega)
    rw [lk_k hk 7 (by decide), lk_parts hl hd hk, lk_exs hk, lk_fol hk]
    refine ⟨h.1, fun hf => ?_⟩
    obtain ⟨j, hj, h7, hm⟩ := h.2 hf
    exact ⟨j, hj, by rw [lk_k hk 7 (by decide)]; exact h7, by rw [lk_parts hl hd hk]; exact hm⟩
theorem vp_nil {xs : List Cls} {p : List Lin} (h : vp xs p = true) : vp xs [] = true := by
  rw [vp_iff] at h ⊢
  exact ⟨h.1, by decide, fun i hi => absurd hi (by simp)⟩
/-- the four cells of a line, set -/
theorem flat_lin4 : ∀ (xs : List Lin) (k : Nat) (_ : k < xs.length) (d n a b : Int), ((((xs.flatMap Enc.cells).set (k * 4) (.int .i64 d)).set (k * 4 + 1) (.int .i64 n)).set (k * 4 + 2) (.int .i64 a)).set (k * 4 + 3) (.int .i64 b) = (xs.set k (⟨d, n, a, b⟩ : Lin)).flatMap Enc.cells
  | x :: r, 0, _, d, n, a, b => rfl
  | x :: r, k + 1, h, d, n, a, b => by
    have ih := flat_lin4 r k (by simpa using h) d n a b
    have e : ∀ j, (k + 1) * 4 + j = k * 4 + j + 1 + 1 + 1 + 1 := fun j => by omega
    have e0 : (k + 1) * 4 = k * 4 + 1 + 1 + 1 + 1 := by omega
    show ((((Value.int .i64 x.depth :: .int .i64 x.kind :: .int .i64 x.a :: .int .i64 x.b :: r.flatMap Enc.cells).set ((k + 1) * 4) _).set _ _).set _ _).set _ _ = Value.int .i64 x.depth :: .int .i64 x.kind :: .int .i64 x.a :: .int .i64 x.b :: (r.set k _).flatMap Enc.cells
    rw [e 1, e 2, e 3, e0, ← ih]
    rfl
/-- a copy in which the first j lines are done -/
def Mid (p L : List Lin) (j : Nat) : Prop := L.length = p.length ∧ ∀ i, L[i]? = if i < j then p[i]?.map qz else p[i]?
theorem Mid.start (p : List Lin) : Mid p p 0 := ⟨rfl, fun i => by rw [if_neg (by omega)]⟩
theorem Mid.done {p L : List Lin} {j : Nat} (h : Mid p L j) (hj : p.length ≤ j) : L = p.map qz := by
  apply List.ext_getElem?
  intro i
  rw [h.2 i, List.getElem?_map]
  by_cases hi : i < j
  · rw [if_pos hi]
  · rw [if_neg hi, List.getElem?_eq_none (by omega)]; rfl
theorem Mid.at_ {p L : List Lin} {j : Nat} (h : Mid p L j) (hj : j < p.length) : L[j]'(by rw [h.1]; exact hj) = p[j] := by
  have hjl : j < L.length := by rw [h.1]; exact hj
  have := h.2 j
  rw [if_neg (by omega), List.getElem?_eq_getElem hjl, List.getElem?_eq_getElem hj] at this
  injection this
theorem Mid.keep {p L : List Lin} {j : Nat} (h : Mid p L j) (hj : j < p.length) (hk : p[j].kind ≠ 1) : Mid p L (j + 1) := by
  refine ⟨h.1, fun i => ?_⟩
  rw [h.2 i]
  by_cases e : i = j
  · subst e
    rw [if_neg (by omega), if_pos (by omega), List.getElem?_eq_getElem hj]
    show some p[i] = some (qz p[i])
    unfold qz; rw [if_neg hk]
  · by_cases hi : i < j
    · rw [if_pos hi, if_pos (by omega)]
    · rw [if_neg hi, if_neg (by omega)]
theorem Mid.put {p L : List Lin} {j : Nat} (h : Mid p L j) (hj : j < p.length) (hk : p[j].kind = 1) : Mid p (L.set j ⟨p[j].depth, 0, 0, 0⟩) (j + 1) := by
  refine ⟨by rw [List.length_set]; exact h.1, fun i => ?_⟩
  have hl := h.1
  by_cases e : i = j
  · subst e
    rw [List.getElem?_set_self (by omega), if_pos (by omega), List.getElem?_eq_getElem hj]
    show _ = some (qz p[i])
    unfold qz; rw [if_pos hk]
  · rw [List.getElem?_set_ne (fun h => e h.symm), h.2 i]
    by_cases hi : i < j
    · rw [if_pos hi, if_pos (by omega)]
    · rw [if_neg hi, if_neg (by omega)]
end Go.Proofs.Ytlepgfccnfcagaa
