/- Plain: what the laws of valid groups, leaves, depths and classes say -/
import Derived.Test.YtpkkkpfanedieaaCk16
namespace Go.Proofs.Ytpkkkpfanedieaa
open Go.RowKit
theorem kids_facts {xs : List Cls} {L : List Prt} (h : gOkS xs L = true) : (∀ l ∈ kidsX xs L, gOkS xs l = true) ∧ 0 < (lvX xs L).length ∧ 0 < L.length ∧ decide (0 < (kidsX xs L).length) = (gAt L 0).group := by
  obtain ⟨t, rfl, ht⟩ := gOk_iff.1 h
  rw [kidsX_tree ht, lvX_tree ht]
  have h1 := leaves_some ht.ok (one_ne ht.one)
  refine ⟨fun l hl => ?_, ?_, ?_, ?_⟩
  · obtain ⟨r, hr, rfl⟩ := List.mem_map.1 hl
    exact (ht.kid hr).gOk
  · exact List.length_pos_iff.2 h1
  · have := ht.one
    cases this <;> simp [flat]
  · have ho := ht.one
    have ok := ht.ok
    cases ho with
    | leaf x => rfl
    | grp c k =>
      have hk : k ≠ .nil := ok.2.2.1
      show decide (0 < ((rootsF k).map (flat 0)).length) = true
      cases k with
      | nil => exact absurd rfl hk
      | leaf x r => simp [rootsF]
      | grp c k r => simp [rootsF]
theorem kids_bad {xs : List Cls} {L : List Prt} (h : gOkS xs L = false) : lvX xs L = [] ∧ depX xs L = -1 := by
  constructor
  · unfold lvX; rw [h]; rfl
  · unfold depX; rw [h]; rfl
theorem dep_facts {xs : List Cls} {L : List Prt} (h : gOkS xs L = true) : depX xs L = mxD xs (kidsX xs L) + 1 ∧ 0 ≤ depX xs L := by
  obtain ⟨t, rfl, ht⟩ := gOk_iff.1 h
  refine ⟨dep_kids ht, ?_⟩
  rw [depX_tree ht]
  have := one_ht ht.one
  omega
/-- the leaves of some groups -/
def catL (xs : List Cls) (G : List (List Prt)) : List Lef := (G.map (lvX xs)).flatten
theorem catL_snoc (xs : List Cls) {G : List (List Prt)} {k : Nat} (h : k < G.length) : catL xs (G.take (k + 1)) = catL xs (G.take k) ++ lvX xs G[k] := by
  unfold catL
  rw [List.take_succ_eq_append_getElem h, List.map_append, List.flatten_append]; simp
theorem lv_facts {xs : List Cls} {L : List Prt} (h : gOkS xs L = true) : (kidsX xs L = [] → (lvX xs L).length = 1) ∧ (kidsX xs L ≠ [] → catL xs (kidsX xs L) = lvX xs L) := by
  obtain ⟨t, rfl, ht⟩ := gOk_iff.1 h
  have ho := ht.one
  have hk := kidsX_tree ht
  have hl := lvX_tree ht
  refine ⟨fun e => ?_, fun e => ?_⟩
  · rw [hl]
    rw [hk] at e
    cases ho with
    | leaf x => rfl
    | grp c k =>
      have hk' : k ≠ .nil := ht.ok.2.2.1
      cases k with
      | nil => exact absurd rfl hk'
      | leaf x r => simp [kidsF, rootsF] at e
      | grp c k r => simp [kidsF, rootsF] at e
  · have e2 : catL xs (kidsX xs (flat 0 t)) = ((rootsF (kidsF t)).map leavesF).flatten := by
      unfold catL
      rw [hk, List.map_map]
      congr 1
      exact List.map_congr_left (fun r hr => lvX_tree (ht.kid hr))
    rw [e2, ← leaves_roots, hl]
    cases ho with
    | leaf x => rw [hk] at e; exact absurd rfl e
    | grp c k => simp [kidsF, leavesF]
theorem hc_facts {xs : List Cls} {L : List Prt} {a : Int} (h : gOkS xs L = true) (ha : hasK xs a = true) : hcX xs L a = (lvX xs L).any (fun x => isAx xs x.cls a) ∧ hcX xs L 0 = true := by
  obtain ⟨t, rfl, ht⟩ := gOk_iff.1 h
  refine ⟨?_, hc_root ht⟩
  rw [hcX_tree (.inr ht), lvX_tree ht, ha, Bool.true_and]
  have hg := good_of ht.tree
  have key : ∀ x ∈ leavesF t, isAx xs x.cls a = isAL xs x.cls a := fun x hx => by
    have hb := leaves_mem ht.ok x hx
    have e := isAx_of ht.tree (hasK_iff.2 ⟨hb.1, hb.2.1⟩) ha rfl
    rw [e]; simp
  cases hq : (leavesF t).any (fun x => isAL xs x.cls a)
  · symm
    rw [List.any_eq_false] at hq ⊢
    intro x hx
    rw [key x hx]; exact hq x hx
  · rw [List.any_eq_true] at hq
    obtain ⟨x, hx, e⟩ := hq
    symm
    rw [List.any_eq_true]
    exact ⟨x, hx, by rw [key x hx]; exact e⟩
end Go.Proofs.Ytpkkkpfanedieaa
