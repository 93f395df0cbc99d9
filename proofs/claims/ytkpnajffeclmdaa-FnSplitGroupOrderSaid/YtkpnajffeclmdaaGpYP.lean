/- Plain: what the law FnSplitGroup says -/
import Derived.Test.YtkpnajffeclmdaaCl25
namespace Go.Proofs.Ytkpnajffeclmdaa
open Go.RowKit
theorem split_again {xs : List Cls} {L : List Prt} {a : Int} (h : gOkS xs L = true) (ha : hasK xs a = true) (hM : 0 < (spX xs L a true).length) :
    spX xs (spX xs L a true) a true = spX xs L a true ∧ spX xs (spX xs L a true) a false = [] := by
  obtain ⟨t, rfl, ht⟩ := gOk_iff.1 h
  rw [spX_tree ht ha] at hM ⊢
  cases hp : anyFo (fun x => isAL xs x.cls a == true) t
  · rw [keepF_none hp] at hM; exact absurd hM (by simp [flat])
  · rw [spX_tree (ht.keep hp) ha, spX_tree (ht.keep hp) ha, keep_keep, keep_keep]
    constructor
    · congr 1
      exact keep_same (fun x _ => by cases isAL xs x.cls a <;> rfl)
    · rw [keepF_none]
      · rfl
      · rw [any_leaves, List.any_eq_false]
        intro x _
        cases isAL xs x.cls a <;> simp
theorem count_facts {xs : List Cls} {L : List Prt} {a : Int} (h : gOkS xs L = true) (ha : hasK xs a = true) :
    (∀ x ∈ lvX xs L, cntL x (lvX xs (spX xs L a true)) + cntL x (lvX xs (spX xs L a false)) = cntL x (lvX xs L) ∧ decide (0 < cntL x (lvX xs (spX xs L a true))) = isAx xs x.cls a) ∧
    (lvX xs (spX xs L a true)).length + (lvX xs (spX xs L a false)).length = (lvX xs L).length := by
  obtain ⟨e1, e2⟩ := leaves_split h ha
  rw [e1, e2]
  refine ⟨fun x hx => ⟨cnt_split _ x _, ?_⟩, ?_⟩
  · rw [cnt_pass _ hx]
    obtain ⟨t, rfl, ht⟩ := gOk_iff.1 h
    rw [lvX_tree ht] at hx
    have hb := leaves_mem ht.ok x hx
    have e := isAx_of ht.tree (hasK_iff.2 ⟨hb.1, hb.2.1⟩) ha rfl
    rw [e]; simp
  · induction lvX xs L with
    | nil => rfl
    | cons x r ih => rw [List.filter_cons, List.filter_cons]; cases isAL xs x.cls a <;> simp at ih ⊢ <;> omega
theorem cnt_le (x : Lef) : ∀ V : List Lef, cntL x V ≤ V.length
  | [] => Nat.le_refl _
  | y :: r => by
    have := cnt_le x r
    rw [cntL, List.length_cons]
    cases decide (y.cls = x.cls) && decide (y.code = x.code)
    · show cntL x r ≤ _; omega
    · show 1 + cntL x r ≤ _; omega
/-- what the law FnSplitGroupOrder gathers -/
def yesL (xs : List Cls) (a : Int) (V : List Lef) : List Lef := V.filter fun x => isAx xs x.cls a
def noL (xs : List Cls) (a : Int) (V : List Lef) : List Lef := V.filter fun x => !isAx xs x.cls a
theorem yes_yes {xs : List Cls} {a : Int} {V : List Lef} {k : Nat} (h : k < V.length) (e : isAx xs V[k].cls a = true) : yesL xs a (V.take (k + 1)) = yesL xs a (V.take k) ++ [V[k]] ∧ noL xs a (V.take (k + 1)) = noL xs a (V.take k) := by
  unfold yesL noL
  rw [List.take_succ_eq_append_getElem h, List.filter_append, List.filter_append]
  simp [e]
theorem yes_no {xs : List Cls} {a : Int} {V : List Lef} {k : Nat} (h : k < V.length) (e : isAx xs V[k].cls a = false) : noL xs a (V.take (k + 1)) = noL xs a (V.take k) ++ [V[k]] ∧ yesL xs a (V.take (k + 1)) = yesL xs a (V.take k) := by
  unfold yesL noL
  rw [List.take_succ_eq_append_getElem h, List.filter_append, List.filter_append]
  simp [e]
theorem yes_all {xs : List Cls} {L : List Prt} {a : Int} (h : gOkS xs L = true) (ha : hasK xs a = true) : yesL xs a (lvX xs L) = lvX xs (spX xs L a true) ∧ noL xs a (lvX xs L) = lvX xs (spX xs L a false) := by
  obtain ⟨e1, e2⟩ := leaves_split h ha
  rw [e1, e2]
  obtain ⟨t, rfl, ht⟩ := gOk_iff.1 h
  rw [lvX_tree ht]
  have key : ∀ x ∈ leavesF t, isAx xs x.cls a = isAL xs x.cls a := fun x hx => by
    have hb := leaves_mem ht.ok x hx
    have e := isAx_of ht.tree (hasK_iff.2 ⟨hb.1, hb.2.1⟩) ha rfl
    rw [e]; simp
  exact ⟨List.filter_congr key, List.filter_congr (fun x hx => by rw [key x hx])⟩
theorem yes_len (xs : List Cls) (a : Int) (V : List Lef) (k : Nat) : (yesL xs a (V.take k)).length ≤ k ∧ (noL xs a (V.take k)).length ≤ k := by
  have h1 : (V.take k).length ≤ k := by rw [List.length_take]; omega
  exact ⟨Nat.le_trans (List.length_filter_le _ _) h1, Nat.le_trans (List.length_filter_le _ _) h1⟩
end Go.Proofs.Ytkpnajffeclmdaa
