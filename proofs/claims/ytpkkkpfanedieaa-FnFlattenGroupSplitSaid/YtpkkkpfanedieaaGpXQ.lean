/- Plain: what the laws of split groups say -/
import Derived.Test.YtpkkkpfanedieaaCk18
namespace Go.Proofs.Ytpkkkpfanedieaa
open Go.RowKit
theorem one_sz : ∀ {u : Fo}, OneF u → 0 < szF u
  | _, .leaf x => by simp [szF]
  | _, .grp c k => by simp only [szF]; omega
theorem part_facts {xs : List Cls} {t : Fo} (h : GTr xs t) (p : Lef → Bool) : (0 < (flat 0 (keepF p t)).length → gOkS xs (flat 0 (keepF p t)) = true ∧ gAt (flat 0 (keepF p t)) 0 = gAt (flat 0 t) 0 ∧ depX xs (flat 0 (keepF p t)) ≤ depX xs (flat 0 t)) ∧ decide (0 < (flat 0 (keepF p t)).length) = anyFo p t := by
  cases ha : anyFo p t
  · have e := keepF_none ha
    rw [e]
    exact ⟨fun h => absurd h (by simp [flat]), by simp [flat]⟩
  · have hk := h.keep ha
    have h1 := keep_one h.one ha
    have hl := flatF_len (keepF p t) 0
    refine ⟨fun _ => ⟨hk.gOk, h1.2, ?_⟩, ?_⟩
    · rw [depX_tree hk, depX_tree h]
      have := htF_keep p t
      omega
    · have : 0 < (flat 0 (keepF p t)).length := by
        rw [hl]
        exact one_sz h1.1
      exact decide_eq_true this
theorem split_facts {xs : List Cls} {L : List Prt} {a : Int} (h : gOkS xs L = true) (ha : hasK xs a = true) :
    (0 < (spX xs L a true).length → gOkS xs (spX xs L a true) = true ∧ gAt (spX xs L a true) 0 = gAt L 0 ∧ depX xs (spX xs L a true) ≤ depX xs L) ∧
    (0 < (spX xs L a false).length → gOkS xs (spX xs L a false) = true ∧ gAt (spX xs L a false) 0 = gAt L 0) ∧
    0 < (spX xs L a true).length + (spX xs L a false).length ∧ hcX xs L a = decide (0 < (spX xs L a true).length) := by
  obtain ⟨t, rfl, ht⟩ := gOk_iff.1 h
  rw [spX_tree ht ha, spX_tree ht ha]
  obtain ⟨h1, h2⟩ := part_facts ht (fun x => isAL xs x.cls a == true)
  obtain ⟨k1, k2⟩ := part_facts ht (fun x => isAL xs x.cls a == false)
  refine ⟨h1, fun h => ⟨(k1 h).1, (k1 h).2.1⟩, ?_, ?_⟩
  · have hne := leaves_some ht.ok (one_ne ht.one)
    cases e : leavesF t with
    | nil => exact absurd e hne
    | cons x r =>
      cases hx : isAL xs x.cls a
      · have : anyFo (fun x => isAL xs x.cls a == false) t = true := by rw [any_leaves, e, List.any_cons, hx]; rfl
        rw [this] at k2
        have := of_decide_eq_true k2
        omega
      · have : anyFo (fun x => isAL xs x.cls a == true) t = true := by rw [any_leaves, e, List.any_cons, hx]; rfl
        rw [this] at h2
        have := of_decide_eq_true h2
        omega
  · rw [h2, hcX_tree (.inr ht), ha, Bool.true_and, any_leaves]
    congr 1
    funext x
    cases isAL xs x.cls a <;> rfl
theorem leaves_split {xs : List Cls} {L : List Prt} {a : Int} (h : gOkS xs L = true) (ha : hasK xs a = true) :
    lvX xs (spX xs L a true) = (lvX xs L).filter (fun x => isAL xs x.cls a) ∧ lvX xs (spX xs L a false) = (lvX xs L).filter (fun x => !isAL xs x.cls a) := by
  obtain ⟨t, rfl, ht⟩ := gOk_iff.1 h
  rw [spX_tree ht ha, spX_tree ht ha, lvE (keep_or ht _), lvE (keep_or ht _), leaves_keep, leaves_keep, lvX_tree ht]
  constructor
  · congr 1; funext x; cases isAL xs x.cls a <;> rfl
  · congr 1; funext x; cases isAL xs x.cls a <;> rfl
end Go.Proofs.Ytpkkkpfanedieaa
