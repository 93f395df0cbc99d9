/- laws of programs: plain facts of the lines of a try -/
import Derived.Test.YtcokoaolcafkoaaPhTy
namespace Go.Proofs.Ytcokoaolcafkoaa
open Go.RowKit
theorem bEnd_gt2 (p : List Lin) (k : Nat) : k < bEnd p k := by
  have := bGo_ge p (dep p k) (p.length - (k + 1)) (k + 1)
  unfold bEnd; omega
theorem pt_asc (p : List Lin) (d : Int) : ∀ m k, (∀ x ∈ ptGo p d m k, k < x ∧ x < p.length ∧ dep p x = d) ∧ (ptGo p d m k).Pairwise (· < ·)
  | 0, k => ⟨fun x hx => absurd hx (List.not_mem_nil), List.Pairwise.nil⟩
  | m + 1, k => by
    unfold ptGo
    split
    · next c =>
      have ih := pt_asc p d m (bEnd p k)
      have hb := bEnd_gt2 p k
      refine ⟨fun x hx => ?_, List.pairwise_cons.2 ⟨fun x hx => (ih.1 x hx).1, ih.2⟩⟩
      rcases List.mem_cons.1 hx with rfl | hx
      · exact ⟨hb, c.1, c.2.1⟩
      · have := ih.1 x hx
        exact ⟨by omega, this.2⟩
    · exact ⟨fun x hx => absurd hx (List.not_mem_nil), List.Pairwise.nil⟩
theorem parts_asc (p : List Lin) (j : Nat) : (parts p j).Pairwise (· < ·) := by
  have h := pt_asc p (dep p j) p.length j
  unfold parts
  exact List.pairwise_cons.2 ⟨fun x hx => (h.1 x hx).1, h.2⟩
theorem parts_dep {p : List Lin} {j x : Nat} (hj : j < p.length) (hx : x ∈ parts p j) : x < p.length ∧ dep p x = dep p j := by
  have h := pt_asc p (dep p j) p.length j
  unfold parts at hx
  rcases List.mem_cons.1 hx with rfl | hx
  · exact ⟨hj, rfl⟩
  · exact (h.1 x hx).2
theorem nI_asc {L : List Nat} (h : L.Pairwise (· < ·)) : (nI L).Pairwise (· < ·) := by
  unfold nI
  rw [List.pairwise_map]
  exact h.imp fun h => by omega
/-- what the law asks of the lines of a try -/
theorem ty_facts {xs : List Cls} {p : List Lin} {k : Nat} (h : vp xs p = true) (hk : k < p.length) : tyX xs p k = [] ∨ ∃ j, j < p.length ∧ knd p j = 7 ∧ tyX xs p k = nI (parts p j) ∧ 1 < (parts p j).length ∧ k ∈ parts p j ∧ ∀ x ∈ parts p j, x < p.length ∧ dep p x = dep p k ∧ tyX xs p x = nI (parts p j) := by
  have hg := glB_iff.2 ⟨h, k, rfl, hk⟩
  cases ht : tryAt p k with
  | none => exact .inl (tyX_none hg ht)
  | some j =>
    have hi := tryAt_is ht
    have hjk := try_le k k (Nat.le_refl _) hi
    have hj : j < p.length := by omega
    have hl := (((goodP_of h).tries j hj).1 hi.1).1
    have hl0 : 0 < (parts p j).length := by unfold parts; simp
    refine .inr ⟨j, hj, hi.1, tyX_some hg ht, by omega, hi.2, fun x hx => ?_⟩
    have a := parts_dep hj hx
    have b := parts_dep hj hi.2
    exact ⟨a.1, by rw [a.2, b.2], tyX_some (glB_iff.2 ⟨h, x, rfl, a.1⟩) (tryAt_of ⟨hi.1, hx⟩)⟩
theorem hasI_nIt {x : Nat} : ∀ {L : List Nat}, x ∈ L → hasI (nI L) (x : Int) = true
  | y :: r, h => by
    show ((y : Int) == (x : Int) || hasI (nI r) x) = true
    rcases List.mem_cons.1 h with rfl | h
    · simp
    · rw [hasI_nIt h]; simp
theorem Calls.sl1t {α : Type} [Enc α] {P : Program} {f : FuncId} {args : Array Value} {w : World} {xs : List α} {T : TypeId} (hp : 0 < Enc.size α) (h : Calls P f args w fun e w' => ∃ v, e = .returned v ∧ Owd T w w' v xs ∧ Le w w') : Calls P f args w fun e w' => ∃ A c, e = .returned (.slice A xs.length c) ∧ Sl w' A xs.length c xs ∧ Le w w' := by
  refine h.mono ?_
  rintro e w' ⟨v, rfl, D, hle⟩
  obtain ⟨A, c, rfl, S, _⟩ := D.form hp
  exact ⟨A, c, rfl, S, hle⟩
theorem ty_on {xs : List Cls} {p : List Lin} {i : Int} (h : (tyX xs p i).length ≠ 0) : vp xs p = true ∧ ∃ k : Nat, i = k ∧ k < p.length := by
  cases hg : glB xs p i
  · exact absurd (by unfold tyX; rw [hg]; rfl) h
  · exact glB_iff.1 hg
end Go.Proofs.Ytcokoaolcafkoaa
