/- one text of AsE, AsF, R, TyStr, S, SlF, RZ, DPb -/
import Derived.Test.YtlepgfccnfcagaaWp12
import Derived.Test.YtlepgfccnfcagaaRows
import Derived.Test.YtlepgfccnfcagaaWp1
import Derived.Test.YtlepgfccnfcagaaWp2
import Derived.Test.YtlepgfccnfcagaaWp7
import Derived.Test.YtlepgfccnfcagaaWp8
import Derived.Deep.RegionWith
import Derived.Deep.RegionHeld3
import Derived.Deep.CutRange
namespace Go.Proofs.Ytlepgfccnfcagaa
open Go.RowKit
set_option linter.unusedVariables false
section
def AllN (P : Int → Int → Int → Prop) : Fq → Prop
  | .nil => True
  | .nd k a b c r => P k a b ∧ AllN P c ∧ AllN P r
theorem allN_of {P : Int → Int → Int → Prop} : ∀ (F : Fq) (d : Int), (∀ x ∈ flatP d F, P x.kind x.a x.b) → AllN P F
  | .nil, _, _ => trivial
  | .nd k a b c r, d, h => by
    rw [flatP] at h
    exact ⟨h ⟨d, k, a, b⟩ (by simp), allN_of c (d + 1) (fun x hx => h x (by simp [hx])), allN_of r d (fun x hx => h x (by simp [hx]))⟩
theorem allN_vp {xs : List Cls} {p : List Lin} {F : Fq} (hv : vp xs p = true) (hp : p = flatP 0 F) : AllN (fun k a b => numS xs k a b = true) F := by
  refine allN_of F 0 (fun x hx => ?_)
  rw [← hp] at hx
  obtain ⟨i, hi, rfl⟩ := List.getElem_of_mem hx
  exact ((vp_iff.1 hv).2.2 i hi).1
theorem pts_mem : ∀ (I : List Itm) (k : Int), ∀ y ∈ ptsI k I, y ∈ I
  | [], _, y, h => by simp [ptsI] at h
  | z :: I, k, y, h => by
    unfold ptsI at h
    split at h
    · rcases List.mem_cons.1 h with rfl | h
      · exact List.mem_cons_self ..
      · exact List.mem_cons_of_mem _ (pts_mem I z.k y h)
    · simp at h
theorem fst_mem {K : Int} : ∀ {I : List Itm} {y : Itm}, fstK K I = some y → y ∈ I ∧ y.k = K
  | [], y, h => by cases h
  | z :: I, y, h => by
    unfold fstK at h
    split at h
    · rename_i e
      injection h with h; subst h; exact ⟨List.mem_cons_self .., e⟩
    · have := fst_mem h; exact ⟨List.mem_cons_of_mem _ this.1, this.2⟩
theorem cat_mem {xs : List Cls} {a : Int} : ∀ {I : List Itm} {y : Itm}, fstC xs a I = some y → y ∈ I ∧ isAL xs a y.a = true
  | [], y, h => by cases h
  | z :: I, y, h => by
    unfold fstC at h
    split at h
    · rename_i e
      injection h with h; subst h; exact ⟨List.mem_cons_self .., e.2⟩
    · have := cat_mem h; exact ⟨List.mem_cons_of_mem _ this.1, this.2⟩
/-! what is told -/
structure LogP (P : List Int → Prop) : Prop where
  nil : P []
  app : ∀ a b, P a → P b → P (a ++ b)
  one : ∀ a, 0 ≤ a → a ≤ 99 → P [a]
  wth : ∀ a t, 0 ≤ a → a ≤ 9 → P t → P ((100 + a) :: (t ++ [200 + a]))
section
variable {xs : List Cls} {P : List Int → Prop} (L : LogP P)
include L
theorem log_seq {x y : Ans} (hx : P x.2) (hy : P y.2) : P (seqA x y).2 := by
  obtain ⟨l, t⟩ := x
  cases l <;> first | exact L.app _ _ hx hy | exact hx
theorem log_loop {x : Ans} (hx : P x.2) : ∀ n, P (loopI x n).2
  | 0 => L.nil
  | n + 1 => by
    have ih := log_loop hx n
    obtain ⟨l, t⟩ := x
    cases l <;> first | exact L.app _ _ hx ih | exact hx
theorem log_stp {y : Itm} {r : List Itm} (h : ∀ z ∈ y :: r, numS xs z.k z.a z.b = true ∧ ∀ H, P (z.f H).2) (H : List (Int × Int)) : P (stpI xs y r H).2 := by
  have hy := h y (List.mem_cons_self ..)
  unfold stpI
  split
  · rename_i k
    have := hy.1
    unfold numS at this
    rw [if_pos (Or.inl k), Bool.and_eq_true, rng_iff] at this
    exact L.one _ this.1.1 this.1.2
  split
  · exact L.nil
  split
  · exact L.nil
  split
  · exact L.nil
  split
  · exact L.nil
  split
  · exact L.nil
  split
  · have hp : ∀ z ∈ ptsI 7 r, ∀ H, P (z.f H).2 := fun z hz => (h z (List.mem_cons_of_mem _ (pts_mem r 7 z hz))).2
    have hm : P (midI xs (ptsI 7 r) H (y.f H)).2 := by
      have h0 := hy.2 H
      unfold midI
      split
      · split
        · rename_i e; exact L.app _ _ h0 (hp _ (fst_mem e).1 _)
        · exact h0
      · split
        · rename_i e; exact L.app _ _ h0 (hp _ (cat_mem e).1 _)
        · exact h0
      · exact h0
    show P (finI (ptsI 7 r) H (midI xs (ptsI 7 r) H (y.f H))).2
    unfold finI
    split
    · exact hm
    · rename_i e; exact L.app _ _ hm (hp _ (fst_mem e).1 _)
  split
  · rename_i h1 h2 h3 h4 h5 h6 h7 k
    have := hy.1
    unfold numS at this
    rw [if_neg (by omega), if_neg (by omega), if_neg (by omega), if_pos k, Bool.and_eq_true, rng_iff] at this
    exact L.wth _ _ this.1.1 this.1.2 (hy.2 H)
  split
  · exact log_loop L (hy.2 H) _
  · exact L.nil
theorem log_blk : ∀ (I : List Itm), (∀ z ∈ I, numS xs z.k z.a z.b = true ∧ ∀ H, P (z.f H).2) → ∀ H, P (blkI xs I H).2
  | [], _, _ => L.nil
  | y :: r, h, H => log_seq L (log_stp L h H) (log_blk r (fun z hz => h z (List.mem_cons_of_mem _ hz)) H)
theorem log_sem : ∀ (F : Fq), AllN (fun k a b => numS xs k a b = true) F → ∀ z ∈ sem xs F, numS xs z.k z.a z.b = true ∧ ∀ H, P (z.f H).2
  | .nil, _, z, h => by simp [sem] at h
  | .nd k a b c r, hF, z, h => by
    rw [sem] at h
    rcases List.mem_cons.1 h with rfl | h
    · exact ⟨hF.1, log_blk L _ (log_sem c hF.2.1)⟩
    · exact log_sem r hF.2.2 z h
theorem log_rp {p : List Lin} (hv : vp xs p = true) : P (rpL xs p) := by
  obtain ⟨F, hF⟩ := tree_vp hv
  rw [(rp_tree hv hF).l]
  exact log_blk L _ (log_sem L F (allN_vp hv hF)) []
end
/-- what is open after some telling -/
def stk : List Int → List Int → Option (List Int)
  | st, [] => some st
  | st, x :: t => if 200 ≤ x then (match st with
      | [] => none
      | y :: r => if y = x - 200 then stk r t else none)
    else if 100 ≤ x then stk ((x - 100) :: st) t else stk st t
theorem stk_cons (st : List Int) (x : Int) (t : List Int) : stk st (x :: t) = if 200 ≤ x then (match st with
      | [] => none
      | y :: r => if y = x - 200 then stk r t else none)
    else if 100 ≤ x then stk ((x - 100) :: st) t else stk st t := by rw [stk.eq_def]
theorem stk_app : ∀ (a b st : List Int), stk st (a ++ b) = (stk st a).bind (fun s => stk s b)
  | [], b, st => rfl
  | x :: a, b, st => by
    rw [List.cons_append, stk_cons, stk_cons]
    split
    · cases st with
      | nil => rfl
      | cons y r =>
        dsimp only
        split
        · exact stk_app a b r
        · rfl
    split
    · exact stk_app a b _
    · exact stk_app a b st
def Bal (t : List Int) : Prop := ∀ st, stk st t = some st
theorem bal_logP : LogP Bal := by
  refine ⟨fun st => rfl, fun a b ha hb st => by rw [stk_app, ha st]; exact hb st, fun a h0 h1 st => ?_, fun a t h0 h1 ht st => ?_⟩
  · rw [stk_cons, if_neg (by omega), if_neg (by omega)]; rfl
  · rw [stk_cons, if_neg (by omega), if_pos (by omega), show 100 + a - 100 = a by omega, stk_app, ht]
    show stk (a :: st) [200 + a] = some st
    rw [stk_cons, if_pos (by omega)]
    dsimp only
    rw [if_pos (by omega)]; rfl
theorem run_bal {xs : List Cls} {p : List Lin} (hv : vp xs p = true) : stk [] (rpL xs p) = some [] := log_rp bal_logP hv []
/-! what handles nothing again does not look at what is handled -/
def apL (H : List (Int × Int)) (x : Ans) : Ans := (match x.1 with | .rai c => .rai (c ++ H) | l => l, x.2)
structure NoA (y : Itm) : Prop where
  k : y.k ≠ 3
  ne : ∀ X c, (y.f X).1 = .rai c → c ≠ []
  ap : ∀ X H, y.f (X ++ H) = apL H (y.f X)
theorem hdC_app {c H : List (Int × Int)} (h : c ≠ []) : hdC (c ++ H) = hdC c := by
  cases c with
  | nil => exact absurd rfl h
  | cons x c => rfl
theorem ap_seq (H : List (Int × Int)) (x y : Ans) : seqA (apL H x) (apL H y) = apL H (seqA x y) := by
  obtain ⟨l, t⟩ := x
  cases l <;> rfl
theorem ap_add (H : List (Int × Int)) (t : List Int) (x : Ans) : addT t (apL H x) = apL H (addT t x) := rfl
theorem ap_loop (H : List (Int × Int)) (x : Ans) : ∀ n, loopI (apL H x) n = apL H (loopI x n)
  | 0 => rfl
  | n + 1 => by
    have ih := ap_loop H x n
    obtain ⟨l, t⟩ := x
    cases l <;> first | rfl | (show addT _ (loopI (apL H _) n) = _; rw [ih]; rfl)
theorem ne_loop {x : Ans} (h : ∀ c, x.1 = .rai c → c ≠ []) : ∀ n c, (loopI x n).1 = .rai c → c ≠ []
  | 0, c, e => by cases e
  | n + 1, c, e => by
    have ih := ne_loop h n c
    obtain ⟨l, t⟩ := x
    cases l <;> first | exact ih e | exact h c e | cases e
section
variable {xs : List Cls}
theorem ne_mid {P : List Itm} (hP : ∀ y ∈ P, NoA y) {X : List (Int × Int)} {x : Ans} (h : ∀ c, x.1 = .rai c → c ≠ []) : ∀ c, (midI xs P X x).1 = .rai c → c ≠ [] := by
  intro c e
  obtain ⟨l, t⟩ := x
  unfold midI at e
  cases l <;> dsimp only at e
  · split at e
    · rename_i q; exact (hP _ (fst_mem q).1).ne _ _ e
    · exact h c e
  · exact h c e
  · split at e
    · rename_i q; exact (hP _ (cat_mem q).1).ne _ _ e
    · exact h c e
  · exact h c e
  · exact h c e
theorem ap_mid {P : List Itm} (hP : ∀ y ∈ P, NoA y) {X H : List (Int × Int)} {x : Ans} (h : ∀ c, x.1 = .rai c → c ≠ []) : midI xs P (X ++ H) (apL H x) = apL H (midI xs P X x) := by
  obtain ⟨l, t⟩ := x
  cases l
  · show (match fstK 9 P with | some y => addT t (y.f (X ++ H)) | none => _) = apL H (match fstK 9 P with | some y => addT t (y.f X) | none => _)
    rcases e : fstK 9 P with _ | y
    · rfl
    · show addT t (y.f (X ++ H)) = apL H (addT t (y.f X))
      rw [(hP y (fst_mem e).1).ap]; rfl
  · rfl
  · rename_i c
    have hc := h c rfl
    show (match fstC xs (hdC (c ++ H)) P with | some y => addT t (y.f (c ++ H)) | none => _) = apL H (match fstC xs (hdC c) P with | some y => addT t (y.f c) | none => _)
    rw [hdC_app hc]
    rcases e : fstC xs (hdC c) P with _ | y
    · rfl
    · show addT t (y.f (c ++ H)) = apL H (addT t (y.f c))
      rw [(hP y (cat_mem e).1).ap]; rfl
  · rfl
  · rfl
theorem ne_fin {P : List Itm} (hP : ∀ y ∈ P, NoA y) {X : List (Int × Int)} {x : Ans} (h : ∀ c, x.1 = .rai c → c ≠ []) : ∀ c, (finI P X x).1 = .rai c → c ≠ [] := by
  intro c e
  unfold finI at e
  split at e
  · exact h c e
  · rename_i y q
    have hy := hP y (fst_mem q).1
    dsimp only at e
    rcases hq : (y.f (hdI X x.1)).1 with _ | v | c2 | _ | _ <;> rw [hq] at e
    · exact h c e
    · cases e
    · have e2 : Lf2.rai c2 = .rai c := e
      injection e2 with e2
      subst e2
      exact hy.ne _ _ hq
    · cases e
    · cases e
theorem ap_fin {P : List Itm} (hP : ∀ y ∈ P, NoA y) {X H : List (Int × Int)} (x : Ans) : finI P (X ++ H) (apL H x) = apL H (finI P X x) := by
  unfold finI
  rcases e : fstK 10 P with _ | y
  · rfl
  · have hy := hP y (fst_mem e).1
    have hh : hdI (X ++ H) (apL H x).1 = hdI X x.1 ++ H := by
      obtain ⟨l, t⟩ := x
      cases l <;> rfl
    dsimp only
    rw [hh, hy.ap]
    obtain ⟨l, t⟩ := x
    rcases hq : y.f (hdI X l) with ⟨l2, t2⟩
    cases l <;> cases l2 <;> rfl
theorem noA_stp {y : Itm} {r : List Itm} (hy : NoA y) (hr : ∀ z ∈ r, NoA z) : (∀ X H, stpI xs y r (X ++ H) = apL H (stpI xs y r X)) ∧ (∀ X c, (stpI xs y r X).1 = .rai c → c ≠ []) := by
  have hp : ∀ z ∈ ptsI 7 r, NoA z := fun z hz => hr z (pts_mem r 7 z hz)
  by_cases h1 : y.k = 1
  · have e : ∀ X, stpI xs y r X = (.nil, [y.a]) := fun X => by unfold stpI; rw [if_pos h1]
    exact ⟨fun X H => by rw [e, e]; rfl, fun X c h => by rw [e] at h; cases h⟩
  by_cases h2 : y.k = 2
  · have e : ∀ X, stpI xs y r X = (.rai ((y.a, y.b) :: X), []) := fun X => by unfold stpI; rw [if_neg h1, if_pos h2]
    refine ⟨fun X H => by rw [e, e]; rfl, fun X c h => ?_⟩
    rw [e] at h
    injection h with h
    rw [← h]; exact nofun
  have h3 := hy.k
  by_cases h4 : y.k = 4
  · have e : ∀ X, stpI xs y r X = (.ret y.a, []) := fun X => by unfold stpI; rw [if_neg h1, if_neg h2, if_neg h3, if_pos h4]
    exact ⟨fun X H => by rw [e, e]; rfl, fun X c h => by rw [e] at h; cases h⟩
  by_cases h5 : y.k = 5
  · have e : ∀ X, stpI xs y r X = (.brk, []) := fun X => by unfold stpI; rw [if_neg h1, if_neg h2, if_neg h3, if_neg h4, if_pos h5]
    exact ⟨fun X H => by rw [e, e]; rfl, fun X c h => by rw [e] at h; cases h⟩
  by_cases h6 : y.k = 6
  · have e : ∀ X, stpI xs y r X = (.cnt, []) := fun X => by unfold stpI; rw [if_neg h1, if_neg h2, if_neg h3, if_neg h4, if_neg h5, if_pos h6]
    exact ⟨fun X H => by rw [e, e]; rfl, fun X c h => by rw [e] at h; cases h⟩
  by_cases h7 : y.k = 7
  · have e : ∀ X, stpI xs y r X = finI (ptsI 7 r) X (midI xs (ptsI 7 r) X (y.f X)) := fun X => by unfold stpI tryI; rw [if_neg h1, if_neg h2, if_neg h3, if_neg h4, if_neg h5, if_neg h6, if_pos h7]
    refine ⟨fun X H => ?_, fun X c h => ?_⟩
    · rw [e, e, hy.ap, ap_mid hp (fun c h => hy.ne X c h), ap_fin hp]
    · rw [e] at h
      exact ne_fin hp (ne_mid (xs := xs) hp (fun c h => hy.ne X c h)) c h
  by_cases h11 : y.k = 11
  · have e : ∀ X, stpI xs y r X = (quI (decide (y.b = 1)) (y.f X).1, (100 + y.a) :: ((y.f X).2 ++ [200 + y.a])) := fun X => by unfold stpI; rw [if_neg h1, if_neg h2, if_neg h3, if_neg h4, if_neg h5, if_neg h6, if_neg h7, if_pos h11]
    refine ⟨fun X H => ?_, fun X c h => ?_⟩
    · rw [e, e, hy.ap]
      obtain ⟨l, t⟩ := y.f X
      cases l <;> first | rfl | (rename_i q; cases decide (y.b = 1) <;> rfl)
    · rw [e] at h
      have hn := hy.ne X
      rcases hq : (y.f X).1 with _ | v | c2 | _ | _ <;> rw [hq] at h hn
      · cases h
      · cases h
      · cases hb : decide (y.b = 1) <;> rw [hb] at h
        · exact hn c h
        · cases h
      · cases h
      · cases h
  by_cases h12 : y.k = 12
  · have e : ∀ X, stpI xs y r X = loopI (y.f X) y.a.toNat := fun X => by unfold stpI; rw [if_neg h1, if_neg h2, if_neg h3, if_neg h4, if_neg h5, if_neg h6, if_neg h7, if_neg h11, if_pos h12]
    exact ⟨fun X H => by rw [e, e, hy.ap, ap_loop], fun X c h => by rw [e] at h; exact ne_loop (hy.ne X) _ c h⟩
  · have e : ∀ X, stpI xs y r X = (.nil, []) := fun X => by unfold stpI; rw [if_neg h1, if_neg h2, if_neg h3, if_neg h4, if_neg h5, if_neg h6, if_neg h7, if_neg h11, if_neg h12]
    exact ⟨fun X H => by rw [e, e]; rfl, fun X c h => by rw [e] at h; cases h⟩
theorem noA_blk : ∀ (I : List Itm), (∀ z ∈ I, NoA z) → (∀ X H, blkI xs I (X ++ H) = apL H (blkI xs I X)) ∧ (∀ X c, (blkI xs I X).1 = .rai c → c ≠ [])
  | [], _ => ⟨fun X H => rfl, fun X c h => by cases h⟩
  | y :: r, h => by
    have a := noA_stp (xs := xs) (h y (List.mem_cons_self ..)) (fun z hz => h z (List.mem_cons_of_mem _ hz))
    have b := noA_blk r (fun z hz => h z (List.mem_cons_of_mem _ hz))
    refine ⟨fun X H => ?_, fun X c e => ?_⟩
    · show seqA (stpI xs y r (X ++ H)) (blkI xs r (X ++ H)) = _
      rw [a.1, b.1, ap_seq]; rfl
    · have e2 : (seqA (stpI xs y r X) (blkI xs r X)).1 = .rai c := e
      have a2 := a.2 X
      rcases hq : stpI xs y r X with ⟨l, t⟩
      rw [hq] at e2 a2
      cases l <;> first | exact b.2 X c e2 | exact a2 c e2
theorem noA_sem : ∀ (F : Fq), AllN (fun k _ _ => k ≠ 3) F → ∀ z ∈ sem xs F, NoA z
  | .nil, _, z, h => by simp [sem] at h
  | .nd k a b c r, hF, z, h => by
    rw [sem] at h
    rcases List.mem_cons.1 h with rfl | h
    · have := noA_blk (xs := xs) _ (noA_sem c hF.2.1)
      exact ⟨hF.1, this.2, this.1⟩
    · exact noA_sem r hF.2.2 z h
end
/-! WithFinally, WithExcept of the root -/
theorem wf_ev {xs : List Cls} {p q : List Lin} (h1 : vp xs p = true) (h2 : vp xs q = true) (h3 : vp xs (undL ⟨0, 7, 0, 0⟩ p ++ undL ⟨0, 10, 0, 0⟩ q) = true) : ∃ x G, RpT xs p x ∧ q = flatP 0 G ∧ RpT xs q (evP xs G) ∧ RpT xs (undL ⟨0, 7, 0, 0⟩ p ++ undL ⟨0, 10, 0, 0⟩ q) (orI x.1 (blkI xs (sem xs G) (hdI [] x.1)).1, x.2 ++ (blkI xs (sem xs G) (hdI [] x.1)).2) := by
  obtain ⟨F, hF⟩ := tree_vp h1
  obtain ⟨G, hG⟩ := tree_vp h2
  refine ⟨_, G, rp_tree h1 hF, hG, rp_tree h2 hG, ?_⟩
  have := rp_tree (F := .nd 7 0 0 (orP F) (.nd 10 0 0 (orP G) .nil)) h3 (by
    rw [hF, hG, und_flat, und_flat]
    simp [flatP])
  unfold evP at this ⊢
  have e : blkI xs (sem xs (.nd 7 0 0 (orP F) (.nd 10 0 0 (orP G) .nil))) [] = (orI (blkI xs (sem xs F) []).1 (blkI xs (sem xs G) (hdI [] (blkI xs (sem xs F) []).1)).1, (blkI xs (sem xs F) []).2 ++ (blkI xs (sem xs G) (hdI [] (blkI xs (sem xs F) []).1)).2) := by
    have e1 : blkI xs (sem xs (.nd 7 0 0 (orP F) (.nd 10 0 0 (orP G) .nil))) [] = seqA (finI [(⟨10, 0, 0, blkI xs (sem xs (orP G))⟩ : Itm)] [] (midI xs [(⟨10, 0, 0, blkI xs (sem xs (orP G))⟩ : Itm)] [] (blkI xs (sem xs (orP F)) []))) (.nil, []) := by
      rw [sem, sem, sem, blkI]
      rfl
    rw [e1, seqA_nil, ev_orP]
    obtain ⟨l, t⟩ := blkI xs (sem xs F) []
    have hm : midI xs [(⟨10, 0, 0, blkI xs (sem xs (orP G))⟩ : Itm)] [] (l, t) = (l, t) := by cases l <;> rfl
    show finI [(⟨10, 0, 0, blkI xs (sem xs (orP G))⟩ : Itm)] [] (midI xs [(⟨10, 0, 0, blkI xs (sem xs (orP G))⟩ : Itm)] [] (l, t)) = _
    rw [hm]
    show (orI l (blkI xs (sem xs (orP G)) (hdI [] l)).1, t ++ (blkI xs (sem xs (orP G)) (hdI [] l)).2) = _
    rw [ev_orP]
  rw [e] at this
  exact this
end

section
/-- the root is above all, and all is the root -/
theorem root_memA {xs : List Cls} (g : Good xs) : ∀ (m : Nat) (i : Nat), i = m → i < xs.length → (0 : Int) ∈ aboveL xs (i : Int) := by
  intro m
  induction m using Nat.strongRecOn with
  | _ m ih =>
    intro i hm hi
    rw [aboveL_at g hi]
    by_cases h0 : i = 0
    · subst h0; exact List.mem_cons_self
    · have hp := g.par i hi (by omega)
      obtain ⟨p, hpe⟩ := Int.eq_ofNat_of_zero_le hp.1
      rw [hpe]
      exact List.mem_cons_of_mem _ (ih p (by omega) p rfl (by omega))
theorem isA_root' {xs : List Cls} (g : Good xs) {x : Int} (h0 : 0 ≤ x) (h1 : x < xs.length) : isAL xs x 0 = true := by
  obtain ⟨i, rfl⟩ := Int.eq_ofNat_of_zero_le h0
  exact hasI_iff'.2 (root_memA g i i rfl (by omega))
theorem wf_log {xs : List Cls} {p q : List Lin} (h1 : vp xs p = true) (h2 : vp xs q = true) (h3 : vp xs (undL ⟨0, 7, 0, 0⟩ p ++ undL ⟨0, 10, 0, 0⟩ q) = true) : ∃ t, rpL xs (undL ⟨0, 7, 0, 0⟩ p ++ undL ⟨0, 10, 0, 0⟩ q) = rpL xs p ++ t := by
  obtain ⟨x, G, a, hG, b, c⟩ := wf_ev h1 h2 h3
  exact ⟨_, by rw [a.l]; exact c.l⟩
theorem wf_no {xs : List Cls} {p q : List Lin} (h1 : vp xs p = true) (h2 : vp xs q = true) (h3 : vp xs (undL ⟨0, 7, 0, 0⟩ p ++ undL ⟨0, 10, 0, 0⟩ q) = true) (hn : ∀ x ∈ q, x.kind ≠ 3) :
    rpL xs (undL ⟨0, 7, 0, 0⟩ p ++ undL ⟨0, 10, 0, 0⟩ q) = rpL xs p ++ rpL xs q ∧
    (rpE xs q = 0 → rpE xs (undL ⟨0, 7, 0, 0⟩ p ++ undL ⟨0, 10, 0, 0⟩ q) = rpE xs p ∧ rpV xs (undL ⟨0, 7, 0, 0⟩ p ++ undL ⟨0, 10, 0, 0⟩ q) = rpV xs p ∧ rpH xs (undL ⟨0, 7, 0, 0⟩ p ++ undL ⟨0, 10, 0, 0⟩ q) = rpH xs p) ∧
    (rpE xs q ≠ 0 → rpE xs (undL ⟨0, 7, 0, 0⟩ p ++ undL ⟨0, 10, 0, 0⟩ q) = rpE xs q ∧ (rpE xs q = 2 ∨ rpV xs (undL ⟨0, 7, 0, 0⟩ p ++ undL ⟨0, 10, 0, 0⟩ q) = rpV xs q)) := by
  obtain ⟨x, G, a, hG, b, c⟩ := wf_ev h1 h2 h3
  have hA : AllN (fun k _ _ => k ≠ 3) G := allN_of G 0 (fun y hy => hn y (by rw [hG]; exact hy))
  have hap := (noA_blk (xs := xs) _ (noA_sem (xs := xs) G hA)).1 [] (hdI [] x.1)
  rw [List.nil_append] at hap
  rw [hap] at c
  have hj := b.j
  have hb := b
  unfold evP at hb hj
  rcases hy : blkI xs (sem xs G) [] with ⟨l, t⟩
  rw [hy] at c hb hj
  refine ⟨by rw [a.l, hb.l]; exact c.l, fun h => ?_, fun h => ?_⟩
  · rw [hb.e] at h
    cases l <;> first | exact absurd (show (1 : Int) = 0 from h) (by decide) | exact absurd (show (2 : Int) = 0 from h) (by decide) | exact absurd rfl hj.1 | exact absurd rfl hj.2 | skip
    rw [a.e, a.v, a.h]
    exact ⟨c.e, c.v, c.h⟩
  · rw [hb.e] at h ⊢
    cases l <;> first | exact absurd rfl h | skip
    · rw [hb.v]; exact ⟨c.e, .inr c.v⟩
    · exact ⟨c.e, .inl rfl⟩
theorem we_root {xs : List Cls} {p : List Lin} (h1 : vp xs p = true) (h3 : vp xs (undL ⟨0, 7, 0, 0⟩ p ++ undL ⟨0, 8, 0, 0⟩ []) = true) : rpE xs (undL ⟨0, 7, 0, 0⟩ p ++ undL ⟨0, 8, 0, 0⟩ []) ≠ 2 ∧ rpL xs (undL ⟨0, 7, 0, 0⟩ p ++ undL ⟨0, 8, 0, 0⟩ []) = rpL xs p := by
  obtain ⟨F, hF⟩ := tree_vp h1
  have a := rp_tree h1 hF
  have b := rp_tree (F := .nd 7 0 0 (orP F) (.nd 8 0 0 (orP .nil) .nil)) h3 (by
    rw [hF, und_flat, show ([] : List Lin) = flatP 0 .nil from rfl, und_flat]
    simp [flatP])
  have g := good_of (goodP_of h1).tree
  have hc := a.c
  unfold evP at a b hc
  have e1 : blkI xs (sem xs (.nd 7 0 0 (orP F) (.nd 8 0 0 (orP .nil) .nil))) [] = seqA (finI [(⟨8, 0, 0, blkI xs (sem xs (orP .nil))⟩ : Itm)] [] (midI xs [(⟨8, 0, 0, blkI xs (sem xs (orP .nil))⟩ : Itm)] [] (blkI xs (sem xs (orP F)) []))) (.nil, []) := by
    rw [sem, sem, sem, blkI]
    rfl
  rw [e1, seqA_nil, ev_orP] at b
  rw [a.l]
  rcases hy : blkI xs (sem xs F) [] with ⟨l, t⟩
  rw [hy] at b hc
  have hfin : ∀ z : Ans, finI [(⟨8, 0, 0, blkI xs (sem xs (orP .nil))⟩ : Itm)] [] z = z := fun z => rfl
  rw [hfin] at b
  cases l
  · exact ⟨fun h => by have := b.e.symm.trans h; exact absurd (show (0 : Int) = 2 from this) (by decide), b.l⟩
  · exact ⟨fun h => by have := b.e.symm.trans h; exact absurd (show (1 : Int) = 2 from this) (by decide), b.l⟩
  · rename_i c
    have hk := hasK_iff.1 (hc c rfl).2
    have hroot := isA_root' g hk.1 (show hdC c < xs.length by omega)
    have e2 : midI xs [(⟨8, 0, 0, blkI xs (sem xs (orP .nil))⟩ : Itm)] [] (.rai c, t) = (.nil, t ++ []) := by
      show (match fstC xs (hdC c) [(⟨8, 0, 0, blkI xs (sem xs (orP .nil))⟩ : Itm)] with | some y => addT t (y.f c) | none => _) = _
      unfold fstC
      rw [if_pos ⟨rfl, hroot⟩]; rfl
    rw [e2, List.append_nil] at b
    exact ⟨fun h => by have := b.e.symm.trans h; exact absurd (show (0 : Int) = 2 from this) (by decide), b.l⟩
  · exact ⟨fun h => by have := b.e.symm.trans h; exact absurd (show (0 : Int) = 2 from this) (by decide), b.l⟩
  · exact ⟨fun h => by have := b.e.symm.trans h; exact absurd (show (0 : Int) = 2 from this) (by decide), b.l⟩
end

section
/-- all but block g is as it was; there may be more -/
def Gx (g : Nat) (w w' : World) : Prop := w.grownBy w' (some g)
theorem Gx.refl (g : Nat) (w : World) : Gx g w w := ⟨rfl, rfl, rfl, Nat.le_refl _, fun _ _ _ => rfl⟩
theorem Gx.trans {g : Nat} {a b c : World} (h : Gx g a b) (k : Gx g b c) : Gx g a c :=
  ⟨k.os.trans h.os, k.tape.trans h.tape, k.output.trans h.output, Nat.le_trans h.size k.size, fun i hi hne => (k.block i (Nat.lt_of_lt_of_le hi h.size) hne).trans (h.block i hi hne)⟩
theorem Gx.of_le {g : Nat} {a b : World} (h : Le a b) : Gx g a b := ⟨h.os, h.tape, h.output, h.size, fun i hi _ => Below.block h i hi⟩
theorem Gx.cell {g : Nat} {a b : World} (h : Gx g a b) {k o : Nat} (hk : k < a.heap.size) (hne : k ≠ g) : b.cell? ⟨k, o, none⟩ = a.cell? ⟨k, o, none⟩ :=
  World.cell?_of_block (h.block k hk (fun e => hne (by injection e)))
theorem Gx.frozen {g : Nat} {a b : World} (h : Gx g a b) {k o : Nat} (hk : k < a.heap.size) (hne : k ≠ g) : b.frozen? ⟨k, o, none⟩ = a.frozen? ⟨k, o, none⟩ :=
  World.frozen?_of_block (h.block k hk (fun e => hne (by injection e)))
theorem Gx.set (g o : Nat) (w : World) (u : Value) : Gx g w (w.setCell ⟨g, o, none⟩ u) := grown_set w g o u
/-- a new block's world is above what was before the block came -/
theorem Gx.le {g : Nat} {a b c : World} (h : Le a b) (k : Gx g b c) (hg : a.heap.size ≤ g) : Le a c :=
  ⟨k.os.trans h.os, k.tape.trans h.tape, k.output.trans h.output, Nat.le_trans h.size k.size, fun i hi => (k.block i (Nat.lt_of_lt_of_le hi h.size) (fun e => by injection e with e; omega)).trans (Below.block h i hi)⟩

/-- a byte -/
structure By where
  b : UInt8
instance instEncBy : Enc By := ⟨1, fun x => [.int .u8 x.b.toNat], fun _ => True, fun _ => rfl⟩
theorem Sl.by_at {w : World} {A : Option Addr} {n cap : Nat} {xs : List By} (h : Sl w A n cap xs) {k : Nat} (hk : k < xs.length) :
    ∃ b off, A = some ⟨b, off, none⟩ ∧ b < w.heap.size ∧ w.cell? ⟨b, off + k, none⟩ = some (.int .u8 xs[k].b.toNat) ∧ (0 : Int) ≤ xs[k].b.toNat ∧ (xs[k].b.toNat : Int) ≤ 255 := by
  obtain ⟨b, off, e, hb, hc⟩ := h.cells_ hk
  have := hc 0 (by decide) _ rfl
  have h2 := UInt8.toNat_lt xs[k].b
  exact ⟨b, off, e, hb, by simpa [Enc.size] using this, by omega, by omega⟩

theorem Sl.by_v {w : World} {A : Option Addr} {n cap : Nat} {xs : List By} (h : Sl w A n cap xs) {k : Nat} (hk : k < n) :
    ∃ b off, ∃ v : Int, A = some ⟨b, off, none⟩ ∧ b < w.heap.size ∧ w.cell? ⟨b, off + k, none⟩ = some (.int .u8 v) ∧ 0 ≤ v ∧ v ≤ 255 := by
  obtain ⟨b, off, e, hb, hc, h1, h2⟩ := h.by_at (k := k) (by rw [h.len]; exact hk)
  exact ⟨b, off, _, e, hb, hc, h1, h2⟩
/-- the slice's memory is not block g -/
def Off (g : Nat) (A : Option Addr) : Prop := ∀ a, A = some a → a.block ≠ g
theorem Sl.gx {α : Type} [Enc α] {g : Nat} {w w' : World} {A : Option Addr} {n cap : Nat} {xs : List α} (h : Sl w A n cap xs) (ho : 0 < n → Off g A) (hg : Gx g w w') : Sl w' A n cap xs :=
  ⟨h.len, h.cap_, h.max, h.ok, fun hn => by
    obtain ⟨b, off, e, hlt, hc⟩ := h.at_ hn
    exact ⟨b, off, e, Nat.lt_of_lt_of_le hlt hg.size, fun j u hu => (hg.cell hlt (ho hn _ e)).trans (hc j u hu)⟩⟩

/-- the reader r lies in block g and has given p numbers -/
structure Rd (w : World) (g p : Nat) (A : Option Addr) (n cap : Nat) (bs : List By) : Prop where
  row : w.heap[g]? = some (.cells #[.slice A n cap, .int .i64 p] 81 (0, 0))
  sl : Sl w A n cap bs
  off : 0 < n → Off g A
  few : n ≤ 2000
theorem Rd.lt {w : World} {g p : Nat} {A : Option Addr} {n cap : Nat} {bs : List By} (h : Rd w g p A n cap bs) : g < w.heap.size := by
  rcases Nat.lt_or_ge g w.heap.size with hlt | hge
  · exact hlt
  · have := h.row; rw [Array.getElem?_eq_none hge] at this; cases this
theorem Rd.c0 {w : World} {g p : Nat} {A : Option Addr} {n cap : Nat} {bs : List By} (h : Rd w g p A n cap bs) : w.cell? ⟨g, 0, none⟩ = some (.slice A n cap) := (cell_of_row w _ 0 _ _ _ h.row).trans rfl
theorem Rd.c1 {w : World} {g p : Nat} {A : Option Addr} {n cap : Nat} {bs : List By} (h : Rd w g p A n cap bs) : w.cell? ⟨g, 1, none⟩ = some (.int .i64 p) := (cell_of_row w _ 1 _ _ _ h.row).trans rfl
theorem Rd.fz {w : World} {g p : Nat} {A : Option Addr} {n cap : Nat} {bs : List By} (h : Rd w g p A n cap bs) (o : Nat) : w.frozen? ⟨g, o, none⟩ = false := frozen_of_row w g o _ _ h.row
theorem Rd.le {w w' : World} {g p : Nat} {A : Option Addr} {n cap : Nat} {bs : List By} (h : Rd w g p A n cap bs) (hl : Le w w') : Rd w' g p A n cap bs :=
  ⟨(Below.block hl g h.lt).trans h.row, h.sl.le hl, h.off, h.few⟩
theorem Rd.step {w : World} {g p : Nat} {A : Option Addr} {n cap : Nat} {bs : List By} (h : Rd w g p A n cap bs) (q : Nat) : Rd (w.setCell ⟨g, 1, none⟩ (.int .i64 q)) g q A n cap bs :=
  ⟨heap_setCell_same w g 1 _ _ _ h.row, h.sl.gx h.off (Gx.set g 1 w _), h.off, h.few⟩

theorem w64 {x : Int} (h0 : -9223372036854775808 ≤ x) (h1 : x ≤ 9223372036854775807) : wrap64 x = x := by
  rw [← IntWalk.i64_left]; exact IntWalk.i64_in _ ⟨h0, h1⟩
theorem xor_i64 (a b : Nat) (ha : a < 4611686018427387904) (hb : b < 4611686018427387904) : bits BinOp.xor IntKind.i64 (a : Int) (b : Int) = ((a ^^^ b : Nat) : Int) := by
  have hx : a ^^^ b < 2 ^ 62 := Nat.xor_lt_two_pow (by omega) (by omega)
  have h1 : (BitVec.ofInt 64 (a : Int)).toNat = a := by
    rw [BitVec.ofInt_natCast, BitVec.toNat_ofNat]; exact Nat.mod_eq_of_lt (by omega)
  have h2 : (BitVec.ofInt 64 (b : Int)).toNat = b := by
    rw [BitVec.ofInt_natCast, BitVec.toNat_ofNat]; exact Nat.mod_eq_of_lt (by omega)
  show IntKind.i64.wrap ((BitVec.ofInt 64 (a : Int) ^^^ BitVec.ofInt 64 (b : Int)).toNat : Int) = _
  rw [BitVec.toNat_xor, h1, h2]
  exact IntWalk.i64_in _ ⟨by omega, by omega⟩
theorem xor_mod (X m : Int) (h0 : 0 ≤ X) (h1 : X ≤ 1000000000000) (hm : 1 ≤ m) : 0 ≤ (bits BinOp.xor IntKind.i64 X (wrap64 (X.tdiv 64))).tmod m ∧ (bits BinOp.xor IntKind.i64 X (wrap64 (X.tdiv 64))).tmod m < m := by
  have hd : X.tdiv 64 = X / 64 := Int.tdiv_eq_ediv_of_nonneg h0
  rw [hd, w64 (by omega) (by omega)]
  obtain ⟨a, rfl⟩ := Int.eq_ofNat_of_zero_le h0
  have e : ((a : Int) / 64) = ((a / 64 : Nat) : Int) := by omega
  rw [e, xor_i64 _ _ (by omega) (by omega), Int.tmod_eq_emod_of_nonneg (by omega)]
  exact ⟨Int.emod_nonneg _ (by omega), Int.emod_lt_of_pos _ (by omega)⟩
theorem pick_num (v1 v2 : Int) (p n : Nat) (a1 : 0 ≤ v1) (a2 : v1 ≤ 255) (b1 : 0 ≤ v2) (b2 : v2 ≤ 255) (hp : p ≤ 1000000) (hn : 0 < n) :
    0 ≤ wrap64 (v1 * 131 + v2 * 1117 + (p : Int) * 29 + wrap64 (wrap64 ((p : Int) / (n : Int)) * 53)) ∧ wrap64 (v1 * 131 + v2 * 1117 + (p : Int) * 29 + wrap64 (wrap64 ((p : Int) / (n : Int)) * 53)) ≤ 1000000000000 := by
  have hq0 : 0 ≤ (p : Int) / (n : Int) := Int.ediv_nonneg (by omega) (by omega)
  have hq1 : (p : Int) / (n : Int) ≤ p := Int.ediv_le_self _ (by omega)
  generalize (p : Int) / (n : Int) = q at *
  rw [w64 (x := q) (by omega) (by omega), w64 (x := q * 53) (by omega) (by omega), w64 (by omega) (by omega)]
  omega

def PickOut (m : Int) (g p : Nat) (A : Option Addr) (n cap : Nat) (bs : List By) (w : World) (e : Ending) (w' : World) : Prop :=
  ∃ v : Int, e = .returned (.int .i64 v) ∧ 0 ≤ v ∧ (v < m ∨ v = 0) ∧ Rd w' g (p + 1) A n cap bs ∧ Gx g w w'

theorem pick_any (m : Int) (g p : Nat) (A : Option Addr) (n cap : Nat) (bs : List By) (w : World) (hm : m ≤ 1000000) (hm0 : -1000000 ≤ m) (hp : p ≤ 1000000) (hR : Rd w g p A n cap bs) :
    Calls Try.prog 55 #[.pointer (some ⟨g, 0, none⟩), .int .i64 m] w (PickOut m g p A n cap bs w) := by
  have c0 := hR.c0
  have c1 := hR.c1
  have f1 := hR.fz 1
  have hst := hR.step (p + 1)
  have hgx := Gx.set g 1 w (.int .i64 ((p + 1 : Nat) : Int))
  have hfew := hR.few
  have hca : (((p + 1 : Nat) : Int)) = (p : Int) + 1 := by omega
  rw [hca] at hst hgx
  have HST := Lib.hid hst; clear hst
  clear hca
  by_cases h1 : m < 1
  · go_enter Try.func55, Try.ntmps55
    go_wp2
    go_ret
    exact ⟨0, rfl, by omega, .inr rfl, HST.out, hgx⟩
  · by_cases h2 : n = 0
    · subst h2
      go_enter Try.func55, Try.ntmps55
      go_wp2
      go_ret
      exact ⟨0, rfl, by omega, .inr rfl, HST.out, hgx⟩
    · have hn0 : ((n : Int) == 0) = false := by simp; omega
      by_cases h3 : p < n
      · obtain ⟨b, off, v, rfl, hb, hcell, hv1, hv2⟩ := hR.sl.by_v h3
        have hbg : b ≠ g := hR.off (by omega) _ rfl
        have hcell' : (w.setCell ⟨g, 1, none⟩ (.int .i64 ((p : Int) + 1))).cell? ⟨b, off + p, none⟩ = some (.int .u8 v) := (cell_set_other (.inl (Ne.symm hbg))).trans hcell
        have hmod := Int.emod_nonneg v (b := m) (by omega)
        have hmod2 := Int.emod_lt_of_pos v (b := m) (by omega)
        have HM := Lib.hid hmod; have HM2 := Lib.hid hmod2; clear hmod hmod2
        clear hcell
        go_enter Try.func55, Try.ntmps55
        go_wp2
        go_ret
        exact ⟨_, rfl, HM.out, .inl HM2.out, HST.out, hgx⟩
      · have hq0 := Nat.mod_lt p (y := n) (by omega)
        have hq1 := Nat.mod_lt (p * 7 + 3) (y := n) (by omega)
        obtain ⟨b, off, v1, rfl, hb, hcell, hv1, hv2⟩ := hR.sl.by_v hq0
        obtain ⟨b', off', v2, e, _, hcell2, hw1, hw2⟩ := hR.sl.by_v hq1
        injection e with e
        injection e with e1 e2
        subst e1; subst e2
        have hbg : b ≠ g := hR.off (by omega) _ rfl
        have hcell' : (w.setCell ⟨g, 1, none⟩ (.int .i64 ((p : Int) + 1))).cell? ⟨b, off + p % n, none⟩ = some (.int .u8 v1) := (cell_set_other (.inl (Ne.symm hbg))).trans hcell
        have hcell2' : (w.setCell ⟨g, 1, none⟩ (.int .i64 ((p : Int) + 1))).cell? ⟨b, off + (p * 7 + 3) % n, none⟩ = some (.int .u8 v2) := (cell_set_other (.inl (Ne.symm hbg))).trans hcell2
        clear hcell hcell2
        go_enter Try.func55, Try.ntmps55
        go_wp2
        have d0 : (w.setCell ⟨g, 1, none⟩ (.int .i64 ((p : Int) + 1))).cell? ⟨g, 0, none⟩ = some (.slice (some ⟨b, off, none⟩) n cap) := (cell_set_other (.inr (by decide))).trans c0
        generalize w.setCell ⟨g, 1, none⟩ (.int .i64 ((p : Int) + 1)) = W at *
        clear c0 c1 f1
        have hnn : (0 : Int) < n := by omega
        have hbd1 := Int.emod_nonneg ((p : Int) * 7 + 3) (b := (n : Int)) (by omega)
        have hbd2 := Int.emod_lt_of_pos ((p : Int) * 7 + 3) (b := (n : Int)) hnn
        go_quiet (fail)
        have hst2 := HST.out.le ((Le.refl W).drewN nq)
        have hgx2 := hgx.trans (Gx.of_le (g := g) ((Le.refl W).drewN nq))
        have HST2 := Lib.hid hst2; clear hst2
        have hX := pick_num v1 v2 p n hv1 hv2 hw1 hw2 hp (by omega)
        have hY := xor_mod _ m hX.1 hX.2 (by omega)
        have HY := Lib.hid hY; clear hX hY
        go_wp2
        go_ret
        exact ⟨_, rfl, HY.out.1, .inl HY.out.2, HST2.out, hgx2⟩
end

section
instance instEncStr : Enc ByteArray := ⟨1, fun s => [.string s], fun s => s.size ≤ 9223372036854775807, fun _ => rfl⟩
theorem Sl.str_at {w : World} {A : Option Addr} {n cap : Nat} {xs : List ByteArray} (h : Sl w A n cap xs) {k : Nat} (hk : k < xs.length) :
    ∃ b off, A = some ⟨b, off, none⟩ ∧ b < w.heap.size ∧ w.cell? ⟨b, off + k, none⟩ = some (.string xs[k]) := by
  obtain ⟨b, off, e, hb, hc⟩ := h.cells_ hk
  have := hc 0 (by decide) _ rfl
  exact ⟨b, off, e, hb, by simpa [Enc.size] using this⟩
end

section
def ReaderOut (w : World) (e : Ending) (w' : World) : Prop :=
  ∃ g A n cap bs, e = .returned (.pointer (some ⟨g, 0, none⟩)) ∧ w.heap.size ≤ g ∧ Rd w' g 0 A n cap bs ∧ Le w w'
theorem newReader_any (A : Option Addr) (n cap : Nat) (bs : List By) (w : World) (hR : Sl w A n cap bs) :
    Calls Try.prog 34 #[.slice A n cap] w (ReaderOut w) := by
  have hm := hR.n_le
  have hcp := hR.cap_
  have hoff : 0 < n → Off w.heap.size A := fun hn => by
    obtain ⟨b, off, e, hb, _⟩ := hR.at_ hn
    exact fun a ea => by rw [e] at ea; injection ea with ea; rw [← ea]; exact Nat.ne_of_lt hb
  have HO := Lib.hid hoff; clear hoff
  by_cases h : 2000 < n
  · have ht := hR.take_ 2000 (by omega)
    go_enter Try.func34, Try.ntmps34
    go_wp2
    go_ret
    refine ⟨w.heap.size, A, 2000, cap, bs.take 2000, rfl, Nat.le_refl _, ⟨?_, ht.alloc _, fun _ => HO.out (by omega), by omega⟩, Le.new w _⟩
    exact heap_alloc_new w _
  · go_enter Try.func34, Try.ntmps34
    go_wp2
    go_ret
    refine ⟨w.heap.size, A, n, cap, bs, rfl, Nat.le_refl _, ⟨?_, hR.alloc _, HO.out, by omega⟩, Le.new w _⟩
    exact heap_alloc_new w _

def OneOut (xs : List Int) (g p : Nat) (A : Option Addr) (n cap : Nat) (bs : List By) (w : World) (e : Ending) (w' : World) : Prop :=
  ∃ v : Int, e = .returned (.int .i64 v) ∧ v ∈ xs ∧ Rd w' g (p + 1) A n cap bs ∧ Gx g w w'
theorem one_any (B : Option Addr) (m c : Nat) (xs : List Int) (g p : Nat) (A : Option Addr) (n cap : Nat) (bs : List By) (w : World) (hm : 0 < m) (hm1 : m ≤ 1000) (hp : p ≤ 1000000) (hS : Sl w B m c xs) (ho : 0 < m → Off g B) (hR : Rd w g p A n cap bs) :
    Calls Try.prog 50 #[.pointer (some ⟨g, 0, none⟩), .slice B m c] w (OneOut xs g p A n cap bs w) := by
  have hl := hS.len
  have HL := Lib.hid hl; clear hl
  have hc0 := hS.n_le
  go_enter Try.func50, Try.ntmps50
  go_wp2_with fail
  refine (pick_any m g p A n cap bs w (by omega) (by omega) hp hR).mono ?_
  rintro e w1 ⟨v, rfl, hv0, hv1, hR1, hg1⟩
  have hS1 := hS.gx ho hg1
  obtain ⟨k, rfl⟩ := Int.eq_ofNat_of_zero_le hv0
  have hk : k < m := by rcases hv1 with h | h <;> omega
  obtain ⟨b, off, rfl, hb, hcell, hw1, hw2⟩ := hS1.int_at (k := k) (by have := HL.out; omega)
  have hmem : Hid (xs[k]'(by have := HL.out; omega) ∈ xs) := List.getElem_mem _
  go_wp2
  go_ret
  exact ⟨_, rfl, hmem.out, hR1, hg1⟩

def OfOut (xs : List ByteArray) (g p : Nat) (A : Option Addr) (n cap : Nat) (bs : List By) (w : World) (e : Ending) (w' : World) : Prop :=
  ∃ s : ByteArray, e = .returned (.string s) ∧ s ∈ xs ∧ Rd w' g (p + 1) A n cap bs ∧ Gx g w w'
theorem of_any (B : Option Addr) (m c : Nat) (xs : List ByteArray) (g p : Nat) (A : Option Addr) (n cap : Nat) (bs : List By) (w : World) (hm : 0 < m) (hm1 : m ≤ 1000) (hp : p ≤ 1000000) (hS : Sl w B m c xs) (ho : 0 < m → Off g B) (hR : Rd w g p A n cap bs) :
    Calls Try.prog 76 #[.pointer (some ⟨g, 0, none⟩), .slice B m c] w (OfOut xs g p A n cap bs w) := by
  have hl := hS.len
  have HL := Lib.hid hl; clear hl
  have hc0 := hS.n_le
  go_enter Try.func76, Try.ntmps76
  go_wp2_with fail
  refine (pick_any m g p A n cap bs w (by omega) (by omega) hp hR).mono ?_
  rintro e w1 ⟨v, rfl, hv0, hv1, hR1, hg1⟩
  have hS1 := hS.gx ho hg1
  obtain ⟨k, rfl⟩ := Int.eq_ofNat_of_zero_le hv0
  have hk : k < m := by rcases hv1 with h | h <;> omega
  obtain ⟨b, off, rfl, hb, hcell⟩ := hS1.str_at (k := k) (by have := HL.out; omega)
  have hmem : Hid (xs[k]'(by have := HL.out; omega) ∈ xs) := List.getElem_mem _
  go_wp2
  go_ret
  exact ⟨_, rfl, hmem.out, hR1, hg1⟩
end

section
theorem Sl.of_rowF {α : Type} [Enc α] {w : World} {b : Nat} {T : TypeId} {cs : Array Value} {fz : Nat × Nat} {n : Nat} {xs : List α} (h : w.heap[b]? = some (.cells cs T fz)) (hc : cs.toList = xs.flatMap Enc.cells) (hn : xs.length = n) (hm : n ≤ 1000) (hok : ∀ x ∈ xs, Enc.ok x) : Sl w (some ⟨b, 0, none⟩) n n xs := by
  refine ⟨hn, Nat.le_refl _, by omega, hok, fun _ => ⟨b, 0, rfl, ?_, fun j u hu => ?_⟩⟩
  · rcases Nat.lt_or_ge b w.heap.size with hlt | hge
    · exact hlt
    · rw [Array.getElem?_eq_none hge] at h; cases h
  · rw [Nat.zero_add, cell_of_row w b j cs T fz h, ← hu, ← hc]
    simp
end

section
section
theorem Rd.grown {w w' : World} {g p : Nat} {A : Option Addr} {n cap : Nat} {bs : List By} {r : Option Nat} (h : Rd w g p A n cap bs) (hg : w.grownBy w' r) (hne : r ≠ some g) (hA : 0 < n → ∀ a, A = some a → r ≠ some a.block) : Rd w' g p A n cap bs :=
  ⟨(hg.block g h.lt (fun e => hne e.symm)).trans h.row, h.sl.grown hg (fun hn a e e2 => hA hn a e e2.symm), h.off, h.few⟩
theorem Gx.grown {g : Nat} {a b c : World} {r : Option Nat} (h : Gx g a b) (hg : b.grownBy c r) (hr : ∀ k, r = some k → a.heap.size ≤ k) : Gx g a c :=
  ⟨hg.os.trans h.os, hg.tape.trans h.tape, hg.output.trans h.output, Nat.le_trans h.size hg.size, fun i hi hne => (hg.block i (Nat.lt_of_lt_of_le hi h.size) (fun e => by have := hr i e.symm; omega)).trans (h.block i hi hne)⟩
/-- a choice of a list that is written out -/
theorem of_lit (ss : List ByteArray) (m : Nat) (cs : Array Value) (T : TypeId) (g p : Nat) (A : Option Addr) (n cap : Nat) (bs : List By) (W : World) (b : Nat) (hc : cs.toList = ss.flatMap Enc.cells) (hl : ss.length = m) (hm : 0 < m) (hm1 : m ≤ 1000) (hok : ∀ x ∈ ss, Enc.ok x) (hp : p ≤ 1000000) (hb : b = W.heap.size) (hR : Rd W g p A n cap bs) :
    Calls Try.prog 76 #[.pointer (some ⟨g, 0, none⟩), .slice (some ⟨b, 0, none⟩) m m] (W.alloc (.cells cs T)) (OfOut ss g p A n cap bs W) := by
  subst hb
  refine (of_any _ m m ss g p A n cap bs _ hm hm1 hp (Sl.of_rowF (hp_new _ _ rfl) hc hl hm1 hok) (fun _ a e => by injection e with e; rw [← e]; show W.heap.size ≠ g; have := hR.lt; omega) (hR.le (Le.new _ _))).mono ?_
  rintro e w' ⟨s, rfl, hs, R, G⟩
  exact ⟨s, rfl, hs, R, (Gx.of_le (Le.new _ _)).trans G⟩
theorem one_lit (ss : List Int) (m : Nat) (cs : Array Value) (T : TypeId) (g p : Nat) (A : Option Addr) (n cap : Nat) (bs : List By) (W : World) (b : Nat) (hc : cs.toList = ss.flatMap Enc.cells) (hl : ss.length = m) (hm : 0 < m) (hm1 : m ≤ 1000) (hok : ∀ x ∈ ss, Enc.ok x) (hp : p ≤ 1000000) (hb : b = W.heap.size) (hR : Rd W g p A n cap bs) :
    Calls Try.prog 50 #[.pointer (some ⟨g, 0, none⟩), .slice (some ⟨b, 0, none⟩) m m] (W.alloc (.cells cs T)) (OneOut ss g p A n cap bs W) := by
  subst hb
  refine (one_any _ m m ss g p A n cap bs _ hm hm1 hp (Sl.of_rowF (hp_new _ _ rfl) hc hl hm1 hok) (fun _ a e => by injection e with e; rw [← e]; show W.heap.size ≠ g; have := hR.lt; omega) (hR.le (Le.new _ _))).mono ?_
  rintro e w' ⟨s, rfl, hs, R, G⟩
  exact ⟨s, rfl, hs, R, (Gx.of_le (Le.new _ _)).trans G⟩
theorem Gx.setNewF {g b o : Nat} {a c : World} (h : Gx g a c) (hb : a.heap.size ≤ b) (u : Value) : Gx g a (c.setCell ⟨b, o, none⟩ u) :=
  ⟨h.os, h.tape, h.output, by have := h.size; simp [World.setCell]; exact this, fun i hi hne => (heap_setCell_other c ⟨b, o, none⟩ i u (by show i ≠ b; omega)).trans (h.block i hi hne)⟩
theorem Rd.setNew {w : World} {g p b o : Nat} {A : Option Addr} {n cap : Nat} {bs : List By} (h : Rd w g p A n cap bs) (u : Value) (hb : b ≠ g) (hA : 0 < n → ∀ a, A = some a → a.block ≠ b) : Rd (w.setCell ⟨b, o, none⟩ u) g p A n cap bs :=
  h.grown (grown_set w b o u) (fun e => hb (by injection e)) (fun hn a e e2 => hA hn a e (by injection e2 with e2; exact e2.symm))
theorem own_some {w : World} {base e size m : Nat} {v : Value} {xs : List Value} (h : w.ownsRow base e size v (m + 1) xs) : ∃ g c, v = .slice (some ⟨g, 0, none⟩) (m + 1) c := by
  rcases h.2 with ⟨_, h0⟩ | ⟨g, c, _, h, _⟩
  · omega
  · exact ⟨g, c, h⟩
end
end

section
section
/-- lines that were drawn: at most so many, of the call's own -/
def LnsOut (lim k g p : Nat) (A : Option Addr) (n cap : Nat) (bs : List By) (w : World) (e : Ending) (w' : World) : Prop :=
  ∃ (v : Value) (L : List Lin) (p' : Nat), e = .returned v ∧ w'.ownsRow w.heap.size 42 4 v L.length (L.flatMap Enc.cells) ∧ (∀ x ∈ L, Enc.ok x) ∧ 0 < L.length ∧ L.length ≤ lim ∧ p' ≤ p + k ∧ Rd w' g p' A n cap bs ∧ Gx g w w'
def slN : Nat → Nat
  | 0 => 1
  | e + 1 => 5 + 5 * (3 * slN e)
def skN : Nat → Nat
  | 0 => 4
  | e + 1 => 13 + 5 * (1 + 3 * skN e)
/-- what is asked of a draw of lines at a depth -/
def DrawC (f : FuncId) (e lim k : Nat) : Prop := ∀ (d : Int) (lp : Bool) (B : Option Addr) (m c g p : Nat) (A : Option Addr) (n cap : Nat) (bs : List By) (w : World), d + e = 3 → 0 ≤ d → m ≤ 8 → p + k ≤ 900000 → Rd w g p A n cap bs →
  Calls Try.prog f #[.pointer (some ⟨g, 0, none⟩), .agg #[.slice B m c], .int .i64 d, .bool lp] w (LnsOut lim k g p A n cap bs w)
theorem ok_app {α : Type} [Enc α] {a b : List α} (h : ∀ x ∈ a, Enc.ok x) (h2 : ∀ x ∈ b, Enc.ok x) : ∀ x ∈ a ++ b, Enc.ok x := fun x hx => by
  rcases List.mem_append.1 hx with hx | hx
  · exact h x hx
  · exact h2 x hx
theorem one_ok {α : Type} [Enc α] {x : α} (h : Enc.ok x) : ∀ y ∈ [x], Enc.ok y := fun y hy => by
  rw [List.mem_singleton] at hy; rw [hy]; exact h
theorem own_one2 (w : World) (h : Lin) {b : Nat} (hb : b ≤ w.heap.size) : (w.alloc (.cells #[.int .i64 h.depth, .int .i64 h.kind, .int .i64 h.a, .int .i64 h.b] 42)).ownsRow b 42 4 (.slice (some ⟨w.heap.size, 0, none⟩) 1 1) 1 ([h].flatMap Enc.cells) := by
  have := World.ownsRow_lit (base := b) (e := 42) (size := 4) w #[.int .i64 h.depth, .int .i64 h.kind, .int .i64 h.a, .int .i64 h.b] 1 hb (by unfold maxLen; omega) (by simp)
  simpa [Enc.cells] using this
set_option maxHeartbeats 2000000 in
set_option maxRecDepth 100000 in
theorem block_of (e : Nat) (hS : DrawC 105 e (slN e) (skN e)) (hsl : 3 * slN e ≤ 100000) : DrawC 78 e (3 * slN e) (1 + 3 * skN e) := by
  intro d lp B m c g p A n cap bs w hde hd0 hm hp hR
  have hgw := hR.lt
  have HA : Hid (0 < n → ∀ a, A = some a → a.block < w.heap.size) := fun hn a e => hR.sl.under hn a e
  obtain ⟨i0, hi, hz0, hz1, hz2⟩ := info_parts infoLn
  have HS := Lib.hid hS
  clear hS
  generalize slN e = S at *
  generalize skN e = K at *
  go_enter Try.func78, Try.ntmps78
  go_wp2_with fail
  have O0 := own_empty (w := w.alloc (.cells #[.slice B m c] 25)) (base := w.heap.size) (g := w.heap.size + 1) (e := 42) (size := 4) (by simp) (by simp)
  obtain ⟨ct, zt, L0⟩ := box1 w (.slice B m c) 25
  have LE := Le.new (w.alloc (.cells #[.slice B m c] 25)) (.cells #[] 42)
  have hz4 : w.heap.size + 1 + 1 = ((w.alloc (.cells #[.slice B m c] 25)).alloc (.cells #[] 42)).heap.size := by simp
  replace ct := (LE.cell zt).trans ct
  replace zt := Nat.lt_of_lt_of_le zt LE.size
  replace L0 := L0.trans LE
  have R0 := hR.le L0
  have G0 := Gx.of_le (g := g) L0
  clear LE
  generalize (w.alloc (.cells #[.slice B m c] 25)).alloc (.cells #[] 42) = W at *
  refine (one_lit [1, 2, 1, 2, 3] 5 _ _ g p A n cap bs W _ rfl rfl (by decide) (by decide) (by intro x hx; simp at hx; constructor <;> omega) (by omega) hz4 R0).mono ?_
  rintro e1 w1 ⟨u, rfl, hu, R1, G1⟩
  have hu1 : 1 ≤ u ∧ u ≤ 3 := by simp at hu; omega
  have ct1 := (G1.cell zt (by omega)).trans ct
  have zt1 := Nat.lt_of_lt_of_le zt G1.size
  have G2 := G0.trans G1
  have O1 := O0.kept G1 (.inr (fun e => by simp [Value.ownBlock] at e; omega))
  clear hu hz4 L0 R0 G0 G1 ct O0 zt hR
  go_wp2
  go_loopw [9, 10] (fun v i wr => ∃ (L : List Lin) (q p' : Nat), i = .int .i64 q ∧ L.length + q * S ≤ 3 * S ∧ p' + q * K ≤ p + 1 + 3 * K ∧ (q = 0 → 0 < L.length) ∧ q ≤ 3 ∧ (∀ x ∈ L, Enc.ok x) ∧ wr.ownsRow w.heap.size 42 4 v L.length (L.flatMap Enc.cells) ∧ Rd wr g p' A n cap bs ∧ Gx g w wr ∧ wr.cell? ⟨w.heap.size, 0, none⟩ = some (.slice B m c) ∧ w.heap.size < wr.heap.size ∧ (v.ownBlock ≠ some w.heap.size)) (fun _ i _ => (intOf i).toNat)
  case atStart =>
    obtain ⟨q, rfl⟩ := Int.eq_ofNat_of_zero_le (show 0 ≤ u by omega)
    have hq3 : q ≤ 3 := by omega
    have h1 : q * S ≤ 3 * S := Nat.mul_le_mul_right S hq3
    have h2 : q * K ≤ 3 * K := Nat.mul_le_mul_right K hq3
    exact ⟨[], q, p + 1, rfl, by simpa using h1, by omega, by omega, hq3, (fun _ h => nomatch h), O1, R1, G2, ct1, zt1, by simp [Value.ownBlock]⟩
  case round =>
    clear O1 R1 G2 ct1 zt1 hu1
    obtain ⟨L, q, p', rfl, hLq, hpq, hq0, hq3, hL, O, R, G, ct, zt, hnb⟩ := hrel
    have HL := Lib.hid hL
    have HNB := Lib.hid hnb
    clear hL hnb
    cases q with
    | zero =>
      have hpos := hq0 rfl
      have hlim : L.length ≤ 3 * S := by omega
      have hp2 : p' ≤ p + (1 + 3 * K) := by omega
      clear hq0 hLq hpq
      go_wp2
      go_ret
      exact ⟨_, L, p', rfl, O, HL.out, hpos, hlim, hp2, R, G⟩
    | succ q =>
      have hsq : (q + 1) * S = q * S + S := Nat.succ_mul q S
      have hkq : (q + 1) * K = q * K + K := Nat.succ_mul q K
      have hqs0 : 0 ≤ q * S := Nat.zero_le _
      have hqk0 : 0 ≤ q * K := Nat.zero_le _
      have hLl : L.length ≤ 3 * S := by omega
      have hLq2 : L.length + (q * S + S) ≤ 3 * S := by omega
      have hpq2 : p' + (q * K + K) ≤ p + 1 + 3 * K := by omega
      have hpb : p' + K ≤ 900000 := by omega
      clear hsq hkq hLq hpq hq0
      generalize hQS : q * S = QS at *
      generalize hQK : q * K = QK at *
      have HQS := Lib.hid hQS
      have HQK := Lib.hid hQK
      clear hQS hQK
      have hq1 : (0 : Int) < (q : Int) + 1 := by omega
      have hwt : IntKind.i64.wrap ((q : Int) + 1 - 1) = (q : Int) := by rw [Int.add_sub_cancel]; exact IntWalk.i64_in _ (by omega)
      go_wp2_with fail
      refine (HS.out d lp B m c g p' A n cap bs wr hde hd0 hm hpb R).mono ?_
      rintro e2 w2 ⟨v2, M, p2, rfl, O2, hM, hM0, hMS, hp2, R2, hg2⟩
      have hbk := O.lt
      have O3 := O.kept hg2 (.inr (fun e => by have h := (hbk _ e).1; omega))
      have G3 := G.trans hg2
      have ct2 := (hg2.cell zt (by omega)).trans ct
      have hs2 := hg2.size
      have hs1 := G.size
      obtain ⟨A2, q2, rfl⟩ := own_form O2
      have S2 := Sl.of_own O2 rfl (by decide) hM
      have HM := Lib.hid hM
      clear O R G ct hg2 O2 hM
      go_wp2_with (at_builtin; refine wpList_append_sl rfl _ _ 26 rfl w.heap.size 42 i0 _ 32 Try.underlying26 hi hz0 hz1 hz2 rfl _ L.length L rfl O3 A2 M.length q2 M rfl S2 (by unfold maxLen; omega) (by omega) (by omega) ?_; intro v4 w4 O4 hg4 hbl; have R4 := R2.grown hg4 (fun e => by have h := (hbk _ e).1; omega) (fun hn a e e2 => by have h := (hbk _ e2).1; have := HA.out hn a e; omega); have G4 := G3.grown hg4 (fun k hk => (hbk _ hk).1); have ct4 := (hg4.cell (a := ⟨w.heap.size, 0, none⟩) ct2 (fun e => HNB.out e.symm)); have zt4 : w.heap.size < w4.heap.size := Nat.lt_of_lt_of_le zt (Nat.le_trans hs2 hg4.size); have HNB4 : Hid (v4.ownBlock ≠ some w.heap.size) := (fun e => by rcases hbl with h | h; exact HNB.out (h.symm.trans e); (have e2 := h.symm.trans e; injection e2 with e2; omega)); clear hg4 hbl)
      go_roundw
      case rel => exact ⟨L ++ M, q, p2, by go_num, by rw [List.length_append, HQS.out]; omega, by rw [HQK.out]; omega, fun _ => by rw [List.length_append]; omega, by omega, ok_app HL.out HM.out, by rw [List.length_append]; exact O4, R4, G4, ct4, zt4, HNB4.out⟩
      case measure => simp [intOf]
end

section
/-- where a draw of lines stands: its row, the reader, the tree's box -/
structure Ts (w wr : World) (g p : Nat) (A : Option Addr) (n cap : Nat) (bs : List By) (B : Option Addr) (m c : Nat) (v : Value) (L : List Lin) : Prop where
  O : wr.ownsRow w.heap.size 42 4 v L.length (L.flatMap Enc.cells)
  ok : ∀ x ∈ L, Enc.ok x
  R : Rd wr g p A n cap bs
  G : Gx g w wr
  gw : g < w.heap.size
  ct : wr.cell? ⟨w.heap.size, 0, none⟩ = some (.slice B m c)
  zt : w.heap.size < wr.heap.size
  nb : v.ownBlock ≠ some w.heap.size
section
variable {w wr w2 : World} {g p p2 : Nat} {A : Option Addr} {n cap : Nat} {bs : List By} {B : Option Addr} {m c : Nat} {v : Value} {L M : List Lin}
theorem Ts.call (h : Ts w wr g p A n cap bs B m c v L) (R2 : Rd w2 g p2 A n cap bs) (hg : Gx g wr w2) : Ts w w2 g p2 A n cap bs B m c v L :=
  ⟨h.O.kept hg (.inr (fun e => by have := (h.O.lt _ e).1; have := h.gw; omega)), h.ok, R2, h.G.trans hg, h.gw, (hg.cell h.zt (by have := h.gw; omega)).trans h.ct, Nat.lt_of_lt_of_le h.zt hg.size, h.nb⟩
theorem Ts.le (h : Ts w wr g p A n cap bs B m c v L) (hl : Le wr w2) : Ts w w2 g p A n cap bs B m c v L := h.call (h.R.le hl) (Gx.of_le hl)
/-- more lines behind -/
theorem Ts.app (h : Ts w wr g p A n cap bs B m c v L) (hA : 0 < n → ∀ a, A = some a → a.block < w.heap.size) {v2 : Value} (O2 : w2.ownsRow w.heap.size 42 4 v2 (L.length + M.length) ((L ++ M).flatMap Enc.cells)) (hM : ∀ x ∈ M, Enc.ok x) (hg : wr.grownBy w2 v.ownBlock) (hb : v2.ownBlock = v.ownBlock ∨ v2.ownBlock = some wr.heap.size) : Ts w w2 g p A n cap bs B m c v2 (L ++ M) :=
  ⟨by rw [List.length_append]; exact O2, ok_app h.ok hM, h.R.grown hg (fun e => by have := (h.O.lt _ e).1; have := h.gw; omega) (fun hn a e e2 => by have := (h.O.lt _ e2).1; have := hA hn a e; omega), h.G.grown hg (fun k hk => (h.O.lt k hk).1), h.gw,
    (hg.cell (a := ⟨w.heap.size, 0, none⟩) h.ct (fun e => h.nb e.symm)), Nat.lt_of_lt_of_le h.zt hg.size, fun e => by
      rcases hb with hb | hb
      · exact h.nb (hb.symm.trans e)
      · have e2 := hb.symm.trans e; injection e2 with e2; have := h.zt; omega⟩
theorem Ts.out (h : Ts w wr g p A n cap bs B m c v L) {lim k p0 : Nat} (h0 : 0 < L.length) (h1 : L.length ≤ lim) (h2 : p ≤ p0 + k) : LnsOut lim k g p0 A n cap bs w (.returned v) wr := ⟨v, L, p, rfl, h.O, h.ok, h0, h1, h2, h.R, h.G⟩
end
theorem dl_ok {d k a : Int} (h0 : 0 ≤ d) (h1 : d ≤ 3) (hk : 0 ≤ k ∧ k ≤ 20) (ha : 0 ≤ a ∧ a ≤ 1000000) : Enc.ok (⟨d, k, a, 0⟩ : Lin) := by
  exact ⟨by show _ ≤ d; omega, by show d ≤ _; omega, by show _ ≤ k; omega, by show k ≤ _; omega, by show _ ≤ a; omega, by show a ≤ _; omega, by show (-9223372036854775808 : Int) ≤ 0; omega, by show (0 : Int) ≤ 9223372036854775807; omega⟩
set_option maxHeartbeats 4000000 in
set_option maxRecDepth 100000 in
theorem try_of (e T K : Nat) (hB : DrawC 78 e T K) (hT : T ≤ 100000) (hK : K ≤ 100000) : DrawC 77 (e + 1) (5 + 5 * T) (8 + 5 * K) := by
  intro d lp B m c g p A n cap bs w hde hd0 hm hp hR
  have hgw := hR.lt
  have HA : Hid (0 < n → ∀ a, A = some a → a.block < w.heap.size) := fun hn a e => hR.sl.under hn a e
  obtain ⟨i0, hi, hz0, hz1, hz2⟩ := info_parts infoLn
  have HB : Hid (∀ (q : Nat) (wx : World), q + K ≤ 900000 → Rd wx g q A n cap bs → Calls Try.prog 78 #[.pointer (some ⟨g, 0, none⟩), .agg #[.slice B m c], .int .i64 (d + 1), .bool lp] wx (LnsOut T K g q A n cap bs wx)) := fun q wx hq hr => hB (d + 1) lp B m c g q A n cap bs wx (by omega) (by omega) hm hq hr
  have hd3 : d ≤ 2 := by omega
  have HOK : Hid (∀ k a : Int, (0 ≤ k ∧ k ≤ 20) → (0 ≤ a ∧ a ≤ 1000000) → Enc.ok (⟨d, k, a, 0⟩ : Lin)) := fun k a hk ha => dl_ok hd0 (by omega) hk ha
  clear hB hde
  go_enter Try.func77, Try.ntmps77
  go_wp2_with fail
  obtain ⟨ct, zt, L0⟩ := box1 w (.slice B m c) 25
  have O0 := own_one2 (w.alloc (.cells #[.slice B m c] 25)) ⟨d, 7, 0, 0⟩ (b := w.heap.size) L0.size
  have LE := Le.new (w.alloc (.cells #[.slice B m c] 25)) (.cells #[.int .i64 d, .int .i64 7, .int .i64 0, .int .i64 0] 42)
  have esz : (w.alloc (.cells #[.slice B m c] 25)).heap.size = w.heap.size + 1 := by simp
  rw [esz] at O0
  clear esz
  have T0 : Ts w ((w.alloc (.cells #[.slice B m c] 25)).alloc (.cells #[.int .i64 d, .int .i64 7, .int .i64 0, .int .i64 0] 42)) g p A n cap bs B m c (.slice (some ⟨w.heap.size + 1, 0, none⟩) 1 1) [(⟨d, 7, 0, 0⟩ : Lin)] :=
    ⟨O0, one_ok (HOK.out 7 0 (by omega) (by omega)), hR.le (L0.trans LE), Gx.of_le (L0.trans LE), hgw, (LE.cell zt).trans ct, Nat.lt_of_lt_of_le zt LE.size, by simp [Value.ownBlock]⟩
  clear O0 ct zt L0 LE hR
  generalize ((w.alloc (.cells #[.slice B m c] 25)).alloc (.cells #[.int .i64 d, .int .i64 7, .int .i64 0, .int .i64 0] 42)) = W at *
  generalize hL0 : [(⟨d, 7, 0, 0⟩ : Lin)] = L0 at T0
  have hl0 : L0.length = 1 := by rw [← hL0]; rfl
  clear hL0
  refine (HB.out p W (by omega) T0.R).mono ?_
  rintro e1 u1 ⟨v1, M1, p1, rfl, O1, hM1, hm1, ht1, hp1, R1, hg1⟩
  have C1 := T0.call R1 hg1
  have z1 := C1.zt
  obtain ⟨B1, q1, rfl⟩ := own_form O1
  have S1 := Sl.of_own O1 rfl (by decide) hM1
  clear hg1 R1 O1 T0
  go_wp2_with (at_builtin; refine wpList_append_sl rfl _ _ 26 rfl w.heap.size 42 i0 _ 32 Try.underlying26 hi hz0 hz1 hz2 rfl _ L0.length L0 rfl C1.O B1 M1.length q1 M1 rfl S1 (by unfold maxLen; omega) (by omega) (Nat.le_of_lt z1) ?_; intro x1 y1 OO1 gg1 bb1; have T1 := C1.app HA.out OO1 hM1 gg1 bb1; have ct1 := T1.ct; have zt1 := T1.zt; clear OO1 gg1 bb1 S1 hM1 C1 z1)
  generalize hL1 : L0 ++ M1 = L1 at T1
  have hl1 : L1.length = L0.length + M1.length := by rw [← hL1, List.length_append]
  clear hL1
  refine (one_lit [1, 2, 0, 1] 4 _ _ g p1 A n cap bs y1 _ rfl rfl (by decide) (by decide) (by intro x hx; simp at hx; constructor <;> omega) (by omega) rfl T1.R).mono ?_
  rintro eo wo ⟨u, rfl, hu, Ro, hgo⟩
  have hu1 : 0 ≤ u ∧ u ≤ 2 := by simp at hu; omega
  have To := T1.call Ro hgo
  clear hu Ro hgo T1 ct1 zt1
  obtain ⟨u, rfl⟩ := Int.eq_ofNat_of_zero_le hu1.1
  have hu2 : u ≤ 2 := by omega
  clear hu1
  have hlo : L1.length ≤ 1 + T := by omega
  have hlp : 0 < L1.length := by omega
  have hpo : p1 + 1 ≤ p + 1 + K := by omega
  go_wp2
  go_loopw [9, 11] (fun v i wr => ∃ (L : List Lin) (q p' : Nat), i = .int .i64 q ∧ q ≤ 2 ∧ L.length + q * (1 + T) ≤ 3 * (1 + T) ∧ p' + q * (2 + K) ≤ p + 1 + K + 2 * (2 + K) ∧ 0 < L.length ∧ Ts w wr g p' A n cap bs B m c v L) (fun _ i _ => (intOf i).toNat)
  case atStart =>
    have h1 : u * (1 + T) ≤ 2 * (1 + T) := Nat.mul_le_mul_right _ hu2
    have h2 : u * (2 + K) ≤ 2 * (2 + K) := Nat.mul_le_mul_right _ hu2
    exact ⟨L1, u, p1 + 1, rfl, hu2, by omega, by omega, hlp, To⟩
  case round =>
    clear To hlo hlp hpo hl0 hl1 hm1 ht1 hp1
    obtain ⟨L, q, p', rfl, hq2, hLq, hpq, hL0, TTs⟩ := hrel
    cases q with
    | succ q =>
      have hsq : (q + 1) * (1 + T) = q * (1 + T) + (1 + T) := Nat.succ_mul q _
      have hkq : (q + 1) * (2 + K) = q * (2 + K) + (2 + K) := Nat.succ_mul q _
      generalize hX : q * (1 + T) = X at *
      generalize hY : q * (2 + K) = Y at *
      have HX := Lib.hid hX
      have HY := Lib.hid hY
      rw [hsq] at hLq
      rw [hkq] at hpq
      clear hsq hkq hX hY
      have hLb : L.length ≤ 3 * (1 + T) := by omega
      have hpb : p' + 2 + K ≤ p + 1 + K + 2 * (2 + K) := by omega
      have hq1 : (0 : Int) < (q : Int) + 1 := by omega
      have hwt : IntKind.i64.wrap ((q : Int) + 1 - 1) = (q : Int) := by rw [Int.add_sub_cancel]; exact IntWalk.i64_in _ (by omega)
      have ctr := TTs.ct
      have ztr := TTs.zt
      go_wp2_with fail
      refine (pick_any m g p' A n cap bs wr (by omega) (by omega) (by omega) TTs.R).mono ?_
      rintro e6 w6 ⟨a, rfl, ha0, ha1, R6, hg6⟩
      have T6 := TTs.call R6 hg6
      have ha2 : 0 ≤ a ∧ a ≤ 8 := by rcases ha1 with h | h <;> omega
      clear R6 hg6 ha0 ha1 TTs ctr ztr
      go_wp2_with fail
      refine (one_lit [a, 0] 2 _ _ g (p' + 1) A n cap bs w6 _ rfl rfl (by decide) (by decide) (by intro x hx; simp at hx; constructor <;> omega) (by omega) rfl T6.R).mono ?_
      rintro e7 w7 ⟨b, rfl, hb, R7, hg7⟩
      have T7 := T6.call R7 hg7
      have hb2 : 0 ≤ b ∧ b ≤ 8 := by (simp at hb; omega)
      have hokb := HOK.out 8 b (by omega) (by omega)
      clear R7 hg7 hb T6 ha2
      go_wp2_with (at_builtin; refine wpList_append_sl rfl _ _ 26 rfl w.heap.size 42 i0 _ 32 Try.underlying26 hi hz0 hz1 hz2 rfl _ L.length L rfl (T7.le (Le.new _ _)).O _ 1 1 [(⟨d, 8, b, 0⟩ : Lin)] rfl (sl_one (⟨d, 8, b, 0⟩ : Lin) rfl hokb rfl) (by unfold maxLen; omega) (by omega) (Nat.le_of_lt (T7.le (Le.new _ _)).zt) ?_; intro x2 y2 OO2 gg2 bb2; have T2 := (T7.le (Le.new _ _)).app HA.out OO2 (one_ok hokb) gg2 bb2; have ct2 := T2.ct; have zt2 := T2.zt; clear OO2 gg2 bb2 T7)
      generalize hL2 : L ++ [(⟨d, 8, b, 0⟩ : Lin)] = L2 at T2
      have hl2 : L2.length = L.length + 1 := by rw [← hL2, List.length_append]; rfl
      clear hL2
      refine (HB.out (p' + 1 + 1) y2 (by omega) T2.R).mono ?_
      rintro e3 u3 ⟨v3, M3, p3, rfl, O3, hM3, hm3, ht3, hp3, R3, hg3⟩
      have C3 := T2.call R3 hg3
      have z3 := C3.zt
      obtain ⟨B3, q3, rfl⟩ := own_form O3
      have S3 := Sl.of_own O3 rfl (by decide) hM3
      clear hg3 R3 O3 T2
      go_wp2_with (at_builtin; refine wpList_append_sl rfl _ _ 26 rfl w.heap.size 42 i0 _ 32 Try.underlying26 hi hz0 hz1 hz2 rfl _ L2.length L2 rfl C3.O B3 M3.length q3 M3 rfl S3 (by unfold maxLen; omega) (by omega) (Nat.le_of_lt z3) ?_; intro x3 y3 OO3 gg3 bb3; have T3 := C3.app HA.out OO3 hM3 gg3 bb3; have ct3 := T3.ct; have zt3 := T3.zt; clear OO3 gg3 bb3 S3 hM3 C3 z3)
      generalize hL3 : L2 ++ M3 = L3 at T3
      have hl3 : L3.length = L2.length + M3.length := by rw [← hL3, List.length_append]
      clear hL3
      have hfa : L3.length + X ≤ 3 * (1 + T) := by omega
      have hfb : p3 + Y ≤ p + 1 + K + 2 * (2 + K) := by omega
      have hfc : 0 < L3.length := by omega
      go_roundw
      case rel => exact ⟨L3, q, p3, by go_num, by omega, by rw [HX.out]; exact hfa, by rw [HY.out]; exact hfb, hfc, T3⟩
      case measure => simp [intOf]
    | zero =>
      have hLb : L.length ≤ 3 * (1 + T) := by omega
      have hpb : p' ≤ p + 5 + 3 * K := by omega
      clear hLq hpq
      have ctr := TTs.ct
      have ztr := TTs.zt
      cases u with
      | zero =>
        go_wp2_with (at_builtin; refine wpList_append_sl rfl _ _ 26 rfl w.heap.size 42 i0 _ 32 Try.underlying26 hi hz0 hz1 hz2 rfl _ L.length L rfl (TTs.le (Le.new _ _)).O _ 1 1 [(⟨d, 10, 0, 0⟩ : Lin)] rfl (sl_one (⟨d, 10, 0, 0⟩ : Lin) rfl (HOK.out 10 0 (by omega) (by omega)) rfl) (by unfold maxLen; omega) (by omega) (Nat.le_of_lt (TTs.le (Le.new _ _)).zt) ?_; intro x4 y4 OO4 gg4 bb4; have T4 := (TTs.le (Le.new _ _)).app HA.out OO4 (one_ok (HOK.out 10 0 (by omega) (by omega))) gg4 bb4; have ct4 := T4.ct; have zt4 := T4.zt; clear OO4 gg4 bb4 TTs)
        generalize hL4 : L ++ [(⟨d, 10, 0, 0⟩ : Lin)] = L4 at T4
        have hl4 : L4.length = L.length + 1 := by rw [← hL4, List.length_append]; rfl
        clear hL4
        refine (HB.out p' y4 (by omega) T4.R).mono ?_
        rintro e5 u5 ⟨v5, M5, p5, rfl, O5, hM5, hm5, ht5, hp5, R5, hg5⟩
        have C5 := T4.call R5 hg5
        have z5 := C5.zt
        obtain ⟨B5, q5, rfl⟩ := own_form O5
        have S5 := Sl.of_own O5 rfl (by decide) hM5
        clear hg5 R5 O5 T4
        go_wp2_with (at_builtin; refine wpList_append_sl rfl _ _ 26 rfl w.heap.size 42 i0 _ 32 Try.underlying26 hi hz0 hz1 hz2 rfl _ L4.length L4 rfl C5.O B5 M5.length q5 M5 rfl S5 (by unfold maxLen; omega) (by omega) (Nat.le_of_lt z5) ?_; intro x5 y5 OO5 gg5 bb5; have T5 := C5.app HA.out OO5 hM5 gg5 bb5; have ct5 := T5.ct; have zt5 := T5.zt; clear OO5 gg5 bb5 S5 hM5 C5 z5)
        generalize hL5 : L4 ++ M5 = L5 at T5
        have hl5 : L5.length = L4.length + M5.length := by rw [← hL5, List.length_append]
        clear hL5
        go_ret
        exact T5.out (by omega) (by omega) (by omega)
      | succ u =>
        have hu3 : (0 : Int) < (u : Int) + 1 := by omega
        have hu4 : ((u : Int) + 1 == 0) = false := by simp; omega
        go_wp2_with fail
        refine (pick_any 3 g p' A n cap bs wr (by omega) (by omega) (by omega) TTs.R).mono ?_
        rintro e6 y6 ⟨a6, rfl, ha6, hb6, R6, hg6⟩
        have T6 := TTs.call R6 hg6
        clear R6 hg6 TTs ctr ztr
        have ct6 := T6.ct
        have zt6 := T6.zt
        by_cases hz6 : a6 = 0
        · subst hz6
          go_wp2_with (at_builtin; refine wpList_append_sl rfl _ _ 26 rfl w.heap.size 42 i0 _ 32 Try.underlying26 hi hz0 hz1 hz2 rfl _ L.length L rfl (T6.le (Le.new _ _)).O _ 1 1 [(⟨d, 9, 0, 0⟩ : Lin)] rfl (sl_one (⟨d, 9, 0, 0⟩ : Lin) rfl (HOK.out 9 0 (by omega) (by omega)) rfl) (by unfold maxLen; omega) (by omega) (Nat.le_of_lt (T6.le (Le.new _ _)).zt) ?_; intro x7 y7 OO7 gg7 bb7; have T7 := (T6.le (Le.new _ _)).app HA.out OO7 (one_ok (HOK.out 9 0 (by omega) (by omega))) gg7 bb7; have ct7 := T7.ct; have zt7 := T7.zt; clear OO7 gg7 bb7 T6)
          generalize hL7 : L ++ [(⟨d, 9, 0, 0⟩ : Lin)] = L7 at T7
          have hl7 : L7.length = L.length + 1 := by rw [← hL7, List.length_append]; rfl
          clear hL7
          refine (HB.out (p' + 1) y7 (by omega) T7.R).mono ?_
          rintro e8 u8 ⟨v8, M8, p8, rfl, O8, hM8, hm8, ht8, hp8, R8, hg8⟩
          have C8 := T7.call R8 hg8
          have z8 := C8.zt
          obtain ⟨B8, q8, rfl⟩ := own_form O8
          have S8 := Sl.of_own O8 rfl (by decide) hM8
          clear hg8 R8 O8 T7
          go_wp2_with (at_builtin; refine wpList_append_sl rfl _ _ 26 rfl w.heap.size 42 i0 _ 32 Try.underlying26 hi hz0 hz1 hz2 rfl _ L7.length L7 rfl C8.O B8 M8.length q8 M8 rfl S8 (by unfold maxLen; omega) (by omega) (Nat.le_of_lt z8) ?_; intro x8 y8 OO8 gg8 bb8; have T8 := C8.app HA.out OO8 hM8 gg8 bb8; have ct8 := T8.ct; have zt8 := T8.zt; clear OO8 gg8 bb8 S8 hM8 C8 z8)
          generalize hL8 : L7 ++ M8 = L8 at T8
          have hl8 : L8.length = L7.length + M8.length := by rw [← hL8, List.length_append]
          clear hL8
          refine (pick_any 2 g p8 A n cap bs y8 (by omega) (by omega) (by omega) T8.R).mono ?_
          rintro e9 y9 ⟨a9, rfl, ha9, hb9, R9, hg9⟩
          have T9 := T8.call R9 hg9
          clear R9 hg9 T8
          have ct9 := T9.ct
          have zt9 := T9.zt
          by_cases hz9 : a9 = 0
          · subst hz9
            go_wp2_with (at_builtin; refine wpList_append_sl rfl _ _ 26 rfl w.heap.size 42 i0 _ 32 Try.underlying26 hi hz0 hz1 hz2 rfl _ L8.length L8 rfl (T9.le (Le.new _ _)).O _ 1 1 [(⟨d, 10, 0, 0⟩ : Lin)] rfl (sl_one (⟨d, 10, 0, 0⟩ : Lin) rfl (HOK.out 10 0 (by omega) (by omega)) rfl) (by unfold maxLen; omega) (by omega) (Nat.le_of_lt (T9.le (Le.new _ _)).zt) ?_; intro x10 y10 OO10 gg10 bb10; have T10 := (T9.le (Le.new _ _)).app HA.out OO10 (one_ok (HOK.out 10 0 (by omega) (by omega))) gg10 bb10; have ct10 := T10.ct; have zt10 := T10.zt; clear OO10 gg10 bb10 T9)
            generalize hL10 : L8 ++ [(⟨d, 10, 0, 0⟩ : Lin)] = L10 at T10
            have hl10 : L10.length = L8.length + 1 := by rw [← hL10, List.length_append]; rfl
            clear hL10
            refine (HB.out (p8 + 1) y10 (by omega) T10.R).mono ?_
            rintro e11 u11 ⟨v11, M11, p11, rfl, O11, hM11, hm11, ht11, hp11, R11, hg11⟩
            have C11 := T10.call R11 hg11
            have z11 := C11.zt
            obtain ⟨B11, q11, rfl⟩ := own_form O11
            have S11 := Sl.of_own O11 rfl (by decide) hM11
            clear hg11 R11 O11 T10
            go_wp2_with (at_builtin; refine wpList_append_sl rfl _ _ 26 rfl w.heap.size 42 i0 _ 32 Try.underlying26 hi hz0 hz1 hz2 rfl _ L10.length L10 rfl C11.O B11 M11.length q11 M11 rfl S11 (by unfold maxLen; omega) (by omega) (Nat.le_of_lt z11) ?_; intro x11 y11 OO11 gg11 bb11; have T11 := C11.app HA.out OO11 hM11 gg11 bb11; have ct11 := T11.ct; have zt11 := T11.zt; clear OO11 gg11 bb11 S11 hM11 C11 z11)
            generalize hL11 : L10 ++ M11 = L11 at T11
            have hl11 : L11.length = L10.length + M11.length := by rw [← hL11, List.length_append]
            clear hL11
            go_ret
            exact T11.out (by omega) (by omega) (by omega)
          · have hzb9 : (a9 == 0) = false := by simpa using hz9
            clear hz9
            go_wp2
            go_ret
            exact T9.out (by omega) (by omega) (by omega)
        · have hzb6 : (a6 == 0) = false := by simpa using hz6
          clear hz6
          go_wp2_with fail
          refine (pick_any 2 g (p' + 1) A n cap bs y6 (by omega) (by omega) (by omega) T6.R).mono ?_
          rintro e12 y12 ⟨a12, rfl, ha12, hb12, R12, hg12⟩
          have T12 := T6.call R12 hg12
          clear R12 hg12 T6
          have ct12 := T12.ct
          have zt12 := T12.zt
          by_cases hz12 : a12 = 0
          · subst hz12
            go_wp2_with (at_builtin; refine wpList_append_sl rfl _ _ 26 rfl w.heap.size 42 i0 _ 32 Try.underlying26 hi hz0 hz1 hz2 rfl _ L.length L rfl (T12.le (Le.new _ _)).O _ 1 1 [(⟨d, 10, 0, 0⟩ : Lin)] rfl (sl_one (⟨d, 10, 0, 0⟩ : Lin) rfl (HOK.out 10 0 (by omega) (by omega)) rfl) (by unfold maxLen; omega) (by omega) (Nat.le_of_lt (T12.le (Le.new _ _)).zt) ?_; intro x13 y13 OO13 gg13 bb13; have T13 := (T12.le (Le.new _ _)).app HA.out OO13 (one_ok (HOK.out 10 0 (by omega) (by omega))) gg13 bb13; have ct13 := T13.ct; have zt13 := T13.zt; clear OO13 gg13 bb13 T12)
            generalize hL13 : L ++ [(⟨d, 10, 0, 0⟩ : Lin)] = L13 at T13
            have hl13 : L13.length = L.length + 1 := by rw [← hL13, List.length_append]; rfl
            clear hL13
            refine (HB.out ((p' + 1) + 1) y13 (by omega) T13.R).mono ?_
            rintro e14 u14 ⟨v14, M14, p14, rfl, O14, hM14, hm14, ht14, hp14, R14, hg14⟩
            have C14 := T13.call R14 hg14
            have z14 := C14.zt
            obtain ⟨B14, q14, rfl⟩ := own_form O14
            have S14 := Sl.of_own O14 rfl (by decide) hM14
            clear hg14 R14 O14 T13
            go_wp2_with (at_builtin; refine wpList_append_sl rfl _ _ 26 rfl w.heap.size 42 i0 _ 32 Try.underlying26 hi hz0 hz1 hz2 rfl _ L13.length L13 rfl C14.O B14 M14.length q14 M14 rfl S14 (by unfold maxLen; omega) (by omega) (Nat.le_of_lt z14) ?_; intro x14 y14 OO14 gg14 bb14; have T14 := C14.app HA.out OO14 hM14 gg14 bb14; have ct14 := T14.ct; have zt14 := T14.zt; clear OO14 gg14 bb14 S14 hM14 C14 z14)
            generalize hL14 : L13 ++ M14 = L14 at T14
            have hl14 : L14.length = L13.length + M14.length := by rw [← hL14, List.length_append]
            clear hL14
            go_ret
            exact T14.out (by omega) (by omega) (by omega)
          · have hzb12 : (a12 == 0) = false := by simpa using hz12
            clear hz12
            go_wp2
            go_ret
            exact T12.out (by omega) (by omega) (by omega)
end
end
end Go.Proofs.Ytlepgfccnfcagaa
