/- failures in memory -/
import Derived.Test.YthcolcmgfhkbeaaHpA
import Derived.Test.YthcolcmgfhkbeaaKB
import Derived.LaidEql
import Derived.LaidEqlPtr
import Derived.Stop.Asserts
import Derived.RowKitTokens
namespace Go.Proofs.Ythcolcmgfhkbeaa
open Go.RowKit

def upPtr (gs : List Nat) : Nat → Option Addr
  | 0 => none
  | k + 1 => (gs[k]?).map fun g => ⟨g, 0, none⟩
theorem upPtr_succ (gs : List Nat) (k : Nat) : upPtr gs (k + 1) = (gs[k]?).map fun g => ⟨g, 0, none⟩ := rfl
theorem upPtr_at {gs : List Nat} {k : Nat} (h : k < gs.length) : upPtr gs (k + 1) = some ⟨gs[k], 0, none⟩ := by rw [upPtr_succ, List.getElem?_eq_getElem h]; rfl
def TvOk (tv : Value) : Prop := ∃ A n cap, tv = .slice A n cap
/-- a chain of failures: each but the first came from the one ahead of it -/
structure FCh (w : World) (tv hv lk : Value) (gs : List Nat) (out : List Int) : Prop where
  len : gs.length = out.length
  lt : ∀ k (h : k < gs.length), gs[k] < w.heap.size
  asc : ∀ j k (hj : j < gs.length) (hk : k < gs.length), j < k → gs[j] < gs[k]
  row : ∀ k (h : k < gs.length) (h2 : k < out.length), w.heap[gs[k]]? = some (.cells #[tv, hv, .int .i64 out[k], lk, .pointer (upPtr gs k)] 86 (0, 0))
section
variable {w w' : World} {tv hv lk : Value} {gs : List Nat} {out : List Int} {k : Nat}
theorem FCh.le (h : FCh w tv hv lk gs out) (hl : Le w w') : FCh w' tv hv lk gs out :=
  ⟨h.len, fun k hk => Nat.lt_of_lt_of_le (h.lt k hk) hl.size, h.asc, fun k h1 h2 => (Below.block hl _ (h.lt k h1)).trans (h.row k h1 h2)⟩
theorem FCh.c0 (h : FCh w tv hv lk gs out) (hk : k < gs.length) : w.cell? ⟨gs[k], 0, none⟩ = some tv := (cell_of_row w _ 0 _ _ _ (h.row k hk (by have := h.len; omega))).trans rfl
theorem FCh.c1 (h : FCh w tv hv lk gs out) (hk : k < gs.length) : w.cell? ⟨gs[k], 1, none⟩ = some hv := (cell_of_row w _ 1 _ _ _ (h.row k hk (by have := h.len; omega))).trans rfl
theorem FCh.c2 (h : FCh w tv hv lk gs out) (hk : k < gs.length) (h2 : k < out.length) : w.cell? ⟨gs[k], 2, none⟩ = some (.int .i64 out[k]) := (cell_of_row w _ 2 _ _ _ (h.row k hk h2)).trans rfl
theorem FCh.c3 (h : FCh w tv hv lk gs out) (hk : k < gs.length) : w.cell? ⟨gs[k], 3, none⟩ = some lk := (cell_of_row w _ 3 _ _ _ (h.row k hk (by have := h.len; omega))).trans rfl
theorem FCh.c4 (h : FCh w tv hv lk gs out) (hk : k < gs.length) : w.cell? ⟨gs[k], 4, none⟩ = some (.pointer (upPtr gs k)) := (cell_of_row w _ 4 _ _ _ (h.row k hk (by have := h.len; omega))).trans rfl
theorem FCh.one {g : Nat} {x : Int} (h : w.heap[g]? = some (.cells #[tv, hv, .int .i64 x, lk, .pointer none] 86 (0, 0))) : FCh w tv hv lk [g] [x] := by
  have hlt : g < w.heap.size := (Array.getElem?_eq_some_iff.1 h).1
  refine ⟨rfl, fun k hk => ?_, fun j k hj hk hjk => ?_, fun k hk h2 => ?_⟩
  · simp at hk; subst hk; exact hlt
  · simp at hj hk; omega
  · simp at hk; subst hk; exact h
theorem FCh.snoc {g : Nat} {x : Int} {j : Nat} (h : FCh w tv hv lk gs out) (hj : gs.length = j + 1) (hl : Le w w') (hg : w.heap.size ≤ g) (hn : w'.heap[g]? = some (.cells #[tv, hv, .int .i64 x, lk, .pointer (some ⟨gs[j], 0, none⟩)] 86 (0, 0))) : FCh w' tv hv lk (gs ++ [g]) (out ++ [x]) := by
  have hlt : g < w'.heap.size := (Array.getElem?_eq_some_iff.1 hn).1
  have hlen := h.len
  have hup : ∀ k, k < gs.length → upPtr (gs ++ [g]) k = upPtr gs k := by
    intro k hk
    cases k with
    | zero => rfl
    | succ k => rw [upPtr_succ, upPtr_succ, List.getElem?_append_left (by omega)]
  have hup2 : upPtr (gs ++ [g]) gs.length = some ⟨gs[j], 0, none⟩ := by
    have e : upPtr (gs ++ [g]) gs.length = upPtr (gs ++ [g]) (j + 1) := by rw [hj]
    rw [e, upPtr_at (by simp; omega), List.getElem_append_left (by omega)]
  refine ⟨by simp [hlen], fun k hk => ?_, fun a b ha hb hab => ?_, fun k hk h2 => ?_⟩
  · rcases Nat.lt_or_ge k gs.length with h1 | h1
    · rw [List.getElem_append_left h1]; exact Nat.lt_of_lt_of_le (h.lt k h1) hl.size
    · rw [List.getElem_append_right h1]; simpa using hlt
  · simp at ha hb
    rcases Nat.lt_or_ge b gs.length with h1 | h1
    · rw [List.getElem_append_left h1, List.getElem_append_left (by omega)]; exact h.asc a b (by omega) h1 hab
    · rw [List.getElem_append_right h1, List.getElem_append_left (by omega)]
      have := h.lt a (by omega)
      simp; omega
  · simp at hk
    rcases Nat.lt_or_ge k gs.length with h1 | h1
    · rw [List.getElem_append_left h1, List.getElem_append_left (by omega), hup k h1]
      exact (Below.block hl _ (h.lt k h1)).trans (h.row k h1 (by omega))
    · have e : k = gs.length := by omega
      subst e
      rw [hup2, List.getElem_append_right (by omega), List.getElem_append_right (by omega)]
      simpa [hlen] using hn
end
end Go.Proofs.Ythcolcmgfhkbeaa
