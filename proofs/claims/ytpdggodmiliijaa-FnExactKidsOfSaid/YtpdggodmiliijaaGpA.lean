/- Plain: valid groups, as the model and as the program ask -/
import Derived.Test.YtpdggodmiliijaaHpA
import Derived.Test.YtpdggodmiliijaaTyPart
namespace Go.Proofs.Ytpdggodmiliijaa
open Go.RowKit

def gAt (g : List Prt) (i : Nat) : Prt := g[i]?.getD ⟨0, false, 0, 0⟩
theorem gAt_at {g : List Prt} {i : Nat} (h : i < g.length) : gAt g i = g[i] := by unfold gAt; rw [List.getElem?_eq_getElem h]; rfl
/-- the index behind the last part below the part i -/
def endFrom (g : List Prt) (i : Nat) : Nat → Nat → Nat
  | 0, k => k
  | m + 1, k => if k < g.length ∧ (gAt g i).depth < (gAt g k).depth then endFrom g i m (k + 1) else k
def endN (g : List Prt) (i : Nat) : Nat := endFrom g i (g.length - (i + 1)) (i + 1)
theorem endFrom_ge (g : List Prt) (i : Nat) : ∀ m k, k ≤ endFrom g i m k
  | 0, k => Nat.le_refl _
  | m + 1, k => by
    unfold endFrom
    split
    · exact Nat.le_trans (Nat.le_succ k) (endFrom_ge g i m (k + 1))
    · exact Nat.le_refl _
def below (g : List Prt) (i : Nat) : Bool := decide (i + 1 < g.length) && decide ((gAt g i).depth < (gAt g (i + 1)).depth)
theorem end_below (g : List Prt) (i : Nat) : decide (endN g i = i + 1) = !below g i := by
  unfold endN below
  by_cases h : i + 1 < g.length
  · obtain ⟨m, hm⟩ : ∃ m, g.length - (i + 1) = m + 1 := ⟨g.length - (i + 1) - 1, by omega⟩
    rw [hm, decide_eq_true h, Bool.true_and]
    unfold endFrom
    by_cases hd : (gAt g i).depth < (gAt g (i + 1)).depth
    · rw [if_pos ⟨h, hd⟩, decide_eq_true hd]
      have := endFrom_ge g i m (i + 1 + 1)
      exact decide_eq_false (by omega)
    · rw [if_neg (fun x => hd x.2), decide_eq_false hd]
      exact decide_eq_true rfl
  · have hm : g.length - (i + 1) = 0 := by omega
    rw [hm, decide_eq_false h]
    exact decide_eq_true rfl
/-- what the model asks of the part i -/
def partS (xs : List Cls) (g : List Prt) (i : Nat) : Bool :=
  let p := gAt g i
  rng 0 99 p.code && rng 0 5 p.depth && !(p.group && (p.cls != 0)) && !(!p.group && !hasK xs p.cls) && (decide (p.depth = 0) == decide (i = 0)) &&
    (decide (i = 0) || !(decide ((gAt g (i - 1)).depth + 1 < p.depth) || (decide ((gAt g (i - 1)).depth < p.depth) && !(gAt g (i - 1)).group))) && !(p.group && decide (endN g i = i + 1))
/-- what the program asks of the part i -/
def depthP (g : List Prt) (i : Nat) : Bool :=
  if i = 0 then decide ((gAt g 0).depth = 0) else rng 1 (min ((gAt g (i - 1)).depth + (if (gAt g (i - 1)).group = true then 1 else 0)) 5) (gAt g i).depth
def partP (xs : List Cls) (g : List Prt) (i : Nat) : Bool :=
  let p := gAt g i
  rng 0 99 p.code && cond p.group (decide (p.cls = 0) && below g i) (rng 0 ((xs.length : Int) - 1) p.cls)
theorem part_same (xs : List Cls) (g : List Prt) (i : Nat) : partS xs g i = (depthP g i && partP xs g i) := by
  have hk : hasK xs (gAt g i).cls = rng 0 ((xs.length : Int) - 1) (gAt g i).cls := rfl
  have he := end_below g i
  unfold partS partP depthP
  simp only [he, hk]
  generalize below g i = bl
  generalize rng 0 99 (gAt g i).code = cd
  generalize rng 0 ((xs.length : Int) - 1) (gAt g i).cls = rk
  generalize (gAt g i).group = gr
  by_cases hi : i = 0
  · subst hi
    rw [if_pos rfl]
    generalize (gAt g 0).depth = dp
    generalize (gAt g 0).cls = cl
    rw [show decide ((0 : Nat) = 0) = true from rfl]
    simp only [Bool.true_or]
    by_cases hd : dp = 0
    · subst hd
      by_cases hc : cl = 0
      · subst hc; revert bl cd rk gr; decide
      · rw [decide_eq_false hc, show (cl != 0) = true from bne_iff_ne.2 hc]; revert bl cd rk gr; decide
    · rw [decide_eq_false hd]
      simp
  · rw [if_neg hi, decide_eq_false hi]
    generalize (gAt g (i - 1)).depth = pd
    generalize (gAt g (i - 1)).group = pg
    generalize (gAt g i).depth = dp
    generalize (gAt g i).cls = cl
    have hdep : (rng 0 5 dp && (decide (dp = 0) == false) && (false || !(decide (pd + 1 < dp) || (decide (pd < dp) && !pg)))) = rng 1 (min (pd + (if pg = true then 1 else 0)) 5) dp := by
      rw [Bool.eq_iff_iff]
      cases pg
      · simp only [Bool.and_eq_true, rng_iff, beq_iff_eq, decide_eq_false_iff_not, Bool.false_or, Bool.not_eq_true', Bool.or_eq_false_iff, Bool.not_false, Bool.and_true]
        simp
        omega
      · simp only [Bool.and_eq_true, rng_iff, beq_iff_eq, decide_eq_false_iff_not, Bool.false_or, Bool.not_eq_true', Bool.or_eq_false_iff, Bool.not_true, Bool.and_false]
        simp
        omega
    rw [← hdep]
    generalize rng 0 5 dp = r5
    generalize (decide (dp = 0) == false) = z
    generalize (false || !(decide (pd + 1 < dp) || (decide (pd < dp) && !pg))) = q
    by_cases hc : cl = 0
    · subst hc; revert bl cd rk gr r5 z q; decide
    · rw [decide_eq_false hc, show (cl != 0) = true from bne_iff_ne.2 hc]; revert bl cd rk gr r5 z q; decide
end Go.Proofs.Ytpdggodmiliijaa
