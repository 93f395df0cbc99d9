/- spec.sorted -/
import Derived.Test.YthcolcmgfhkbeaaAP
import Derived.Test.YthcolcmgfhkbeaaSC
import Derived.Test.YthcolcmgfhkbeaaHpB
import Derived.Deep.RegionHeld3
namespace Go.Proofs.Ythcolcmgfhkbeaa
open Go.RowKit

def SortOut (L : List Int) (w : World) (e : Ending) (w' : World) : Prop := ∃ v M, e = .returned v ∧ Owd 3 w w' v M ∧ Le w w' ∧ M.Pairwise (· < ·) ∧ (∀ x, x ∈ M ↔ x ∈ L) ∧ M.length ≤ L.length
/-- the number comes in at its place -/
theorem ins_asc {out : List Int} {k : Nat} {x : Int} (hk : k ≤ out.length) (ha : out.Pairwise (· < ·)) (hlt : ∀ j (h : j < out.length), j < k → out[j] < x) (hge : ∀ h : k < out.length, x < out[k]) : ((out.take k ++ [x]) ++ out.drop k).Pairwise (· < ·) := by
  have hp := List.pairwise_iff_getElem.1 ha
  rw [List.pairwise_append, List.pairwise_append]
  refine ⟨⟨ha.sublist (List.take_sublist _ _), by simp, fun a h1 b h2 => ?_⟩, ha.sublist (List.drop_sublist _ _), fun a h1 b h2 => ?_⟩
  · simp at h2; subst h2
    obtain ⟨j, hj, rfl⟩ := List.getElem_of_mem h1
    rw [List.length_take] at hj
    rw [List.getElem_take]
    exact hlt j (by omega) (by omega)
  · obtain ⟨j, hj, rfl⟩ := List.getElem_of_mem h2
    rw [List.length_drop] at hj
    rw [List.getElem_drop]
    have hxk : x ≤ out[k + j]'(by omega) ∧ x < out[k + j]'(by omega) := by
      have h3 := hge (by omega)
      rcases Nat.eq_zero_or_pos j with h4 | h4
      · subst h4; simp only [Nat.add_zero]; omega
      · have := hp k (k + j) (by omega) (by omega) (by omega); omega
    rcases List.mem_append.1 h1 with h1 | h1
    · obtain ⟨i, hi, rfl⟩ := List.getElem_of_mem h1
      rw [List.length_take] at hi
      rw [List.getElem_take]
      have := hlt i (by omega) (by omega)
      omega
    · simp at h1; subst h1; exact hxk.2
theorem ins_mem {out : List Int} {k : Nat} {x y : Int} : y ∈ (out.take k ++ [x]) ++ out.drop k ↔ y ∈ out ∨ y = x := by
  rw [List.mem_append, List.mem_append, List.mem_singleton]
  conv => rhs; rw [← List.take_append_drop k out, List.mem_append]
  constructor
  · rintro ((h | h) | h)
    · exact .inl (.inl h)
    · exact .inr h
    · exact .inl (.inr h)
  · rintro ((h | h) | h)
    · exact .inl (.inl h)
    · exact .inr h
    · exact .inl (.inr h)
theorem mem_take_succ {L : List Int} {i : Nat} (h : i < L.length) (x : Int) : x ∈ L.take (i + 1) ↔ x ∈ L.take i ∨ x = L[i] := by
  rw [List.take_succ_eq_append_getElem h, List.mem_append, List.mem_singleton]
/-- the part behind k of a slice -/
theorem Sl.dropK {α : Type} [Enc α] {w : World} {b off n cap : Nat} {xs : List α} (h : Sl w (some ⟨b, off, none⟩) n cap xs) (k : Nat) (hk : k ≤ n) : Sl w (some ⟨b, off + k * Enc.size α, none⟩) (n - k) (cap - k) (xs.drop k) := by
  have hl := h.len
  have hc := h.cap_
  have hm := h.max
  refine ⟨by rw [List.length_drop]; omega, by omega, by omega, fun x hx => h.ok x (List.mem_of_mem_drop hx), fun hn => ?_⟩
  obtain ⟨b', off', e, hb, hcell⟩ := h.at_ (by omega)
  injection e with e
  injection e with e1 e2
  subst e1 e2
  refine ⟨b, off + k * Enc.size α, rfl, hb, fun j u hu => ?_⟩
  have hsplit : xs.flatMap Enc.cells = (xs.take k).flatMap Enc.cells ++ (xs.drop k).flatMap Enc.cells := by rw [← List.flatMap_append, List.take_append_drop]
  have hlt : ((xs.take k).flatMap (Enc.cells (α := α))).length = k * Enc.size α := by rw [flat_len, List.length_take, Nat.min_eq_left (by omega)]
  have := hcell (k * Enc.size α + j) u (by
    rw [hsplit, List.getElem?_append_right (by omega), hlt]
    rw [Nat.add_sub_cancel_left]; exact hu)
  rw [Nat.add_assoc]; exact this

end Go.Proofs.Ythcolcmgfhkbeaa
