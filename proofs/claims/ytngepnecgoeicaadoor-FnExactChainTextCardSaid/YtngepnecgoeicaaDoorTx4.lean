/- (*failure).Error and ChainText of the program -/
import Derived.Test.YtngepnecgoeicaaDoorTx3
namespace Go.Proofs.YtngepnecgoeicaaDoor
open Go.RowKit

theorem go_pre {nx : Int → Int} : ∀ (m : Nat) (x : Int) (out : List Int), ∃ r, Chn.go nx m x out = out ++ r
  | 0, x, out => ⟨[], by simp [Chn.go]⟩
  | m + 1, x, out => by
    unfold Chn.go
    by_cases h : x < 0 ∨ x ∈ out
    · rw [if_pos h]; exact ⟨[], by simp⟩
    · rw [if_neg h]
      obtain ⟨r, hr⟩ := go_pre m (nx x) (out ++ [x])
      exact ⟨x :: r, by rw [hr]; simp⟩
/-- what a failure at the end of L ++ [i] says -/
def errT (xs : List Cls) (hs : List Flt) (gk : Nat) (L : List Int) (i : Int) : ByteArray := chT xs hs ((Chn.go (nxShn hs) gk (nxShn hs i) (L ++ [i])).drop L.length)
theorem errT_stop {xs : List Cls} {hs : List Flt} {gk : Nat} {L : List Int} {i : Int} (h : nxShn hs i < 0 ∨ nxShn hs i ∈ L ++ [i]) : errT xs hs gk L i = fT xs hs i := by
  unfold errT; rw [go_stop h, List.drop_left' rfl]; rfl
theorem errT_on {xs : List Cls} {hs : List Flt} {gk : Nat} {L : List Int} {i : Int} (h : ¬ (nxShn hs i < 0 ∨ nxShn hs i ∈ L ++ [i])) :
    errT xs hs (gk + 1) L i = errT xs hs gk (L ++ [i]) (nxShn hs i) ++ lnkT hs i ++ fT xs hs i := by
  unfold errT
  have h' : 0 ≤ nxShn hs i ∧ nxShn hs i ∉ L ++ [i] := by simp only [not_or, Int.not_lt] at h; exact h
  rw [go_on h'.1 h'.2]
  obtain ⟨r, hr⟩ := go_pre (nx := nxShn hs) gk (nxShn hs (nxShn hs i)) ((L ++ [i]) ++ [nxShn hs i])
  rw [hr]
  have e1 : ((L ++ [i]) ++ [nxShn hs i] ++ r).drop L.length = i :: (nxShn hs i :: r) := by
    rw [List.append_assoc, List.append_assoc, List.drop_left' rfl]; rfl
  have e2 : ((L ++ [i]) ++ [nxShn hs i] ++ r).drop (L ++ [i]).length = nxShn hs i :: r := by
    rw [List.append_assoc, List.drop_left' rfl]; rfl
  rw [e1, e2]
  rfl
theorem errT_size {xs : List Cls} {hs : List Flt} (hsh : Short xs hs) (hnx : ∀ x : Int, 0 ≤ x → x < hs.length → nxShn hs x < hs.length) (hfew : hs.length ≤ 24) {gk : Nat} {L : List Int} {i : Int} (hg : gk ≤ 24)
    (hL : L.length ≤ 24) (hi : 0 ≤ i ∧ i < hs.length) : (errT xs hs gk L i).size ≤ 2000 := by
  have key : ∀ (m : Nat) (x : Int) (out : List Int), x < hs.length → ∀ r, Chn.go (nxShn hs) m x out = out ++ r → (∀ y ∈ r, 0 ≤ y ∧ y < hs.length) ∧ r.length ≤ m := by
    intro m
    induction m with
    | zero => intro x out _ r hr; simp [Chn.go] at hr; subst hr; simp
    | succ m ih =>
      intro x out hx r hr
      unfold Chn.go at hr
      by_cases h : x < 0 ∨ x ∈ out
      · rw [if_pos h] at hr
        have : r = [] := by simpa using hr
        subst this; simp
      · rw [if_neg h] at hr
        have h0 : 0 ≤ x := by omega
        obtain ⟨r', hr'⟩ := go_pre (nx := nxShn hs) m (nxShn hs x) (out ++ [x])
        have ⟨a, b⟩ := ih (nxShn hs x) (out ++ [x]) (hnx x h0 hx) r' hr'
        rw [hr', List.append_assoc] at hr
        have e := List.append_cancel_left hr
        subst e
        refine ⟨?_, by simp; omega⟩
        intro y hy
        simp at hy
        rcases hy with rfl | hy
        · exact ⟨h0, hx⟩
        · exact a y hy
  obtain ⟨r, hr⟩ := go_pre (nx := nxShn hs) gk (nxShn hs i) (L ++ [i])
  have ⟨a, b⟩ := key gk _ _ (hnx i hi.1 hi.2) r hr
  unfold errT
  rw [hr, List.append_assoc, List.drop_left' rfl]
  have := chT_size hsh ([i] ++ r) (by intro x hx; simp at hx; rcases hx with rfl | hx; exact hi; exact a x hx)
  simp only [List.length_append, List.length_singleton] at this
  omega
theorem lnk_is {hs : List Flt} {i : Nat} (hi : i < hs.length) (h : 0 ≤ nxShn hs (i : Int)) : (nxShn hs (i : Int) = hs[i].cause ↔ 0 ≤ hs[i].cause) := by
  rw [nxShn_at hi] at h ⊢
  simp only at h ⊢
  unfold shownOf at h ⊢
  by_cases hc : 0 ≤ hs[i].cause
  · simp [hc]
  · simp only [decide_eq_false hc] at h ⊢
    constructor
    · intro e
      simp only [cond_false] at e h
      cases hh : hs[i].hide <;> rw [hh] at e h <;> simp at e h <;> omega
    · intro e; exact absurd e hc
end Go.Proofs.YtngepnecgoeicaaDoor
