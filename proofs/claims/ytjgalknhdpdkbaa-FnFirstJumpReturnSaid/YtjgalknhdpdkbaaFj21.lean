/- one text of PhCb -/
import Derived.Test.YtjgalknhdpdkbaaFj17
import Derived.Test.YtjgalknhdpdkbaaFj13
import Derived.Test.YtjgalknhdpdkbaaFj12
import Derived.Test.YtjgalknhdpdkbaaFj20
import Derived.Test.YtjgalknhdpdkbaaFj18
import Derived.Test.YtjgalknhdpdkbaaFj4
import Derived.WalkMore
import Derived.Scope
import Derived.Deep.LoopGhost
namespace Go.Proofs.Ytjgalknhdpdkbaa
open Go.RowKit
set_option linter.unusedVariables false
section
section
def lnBc (p : List Lin) (i : Nat) : Int := match p[i]? with | some x => x.b | none => 0
theorem lnBc_at {p : List Lin} {i : Nat} (h : i < p.length) : lnBc p i = p[i].b := by unfold lnBc; rw [List.getElem?_eq_getElem h]
/-- the first of some lines whose class a class is -/
def ctE (xs : List Cls) (p : List Lin) (a : Int) : List Nat → Int
  | [] => -1
  | x :: r => if isAL xs a (lnA p x) = true then (x : Int) else ctE xs p a r
/-- what catches in the block of a line -/
def ctAt (xs : List Cls) (p : List Lin) (a : Int) (i : Nat) : Int := if knd p i = 7 then ctE xs p a (exL p i) else if knd p i = 11 ∧ lnBc p i = 1 then (i : Int) else -1
/-- what catches in the blocks of some lines, and how many are left -/
def coF (xs : List Cls) (p : List Lin) (a : Int) : List Nat → Int
  | [] => -1
  | x :: r => if 0 ≤ ctAt xs p a x then ctAt xs p a x else coF xs p a r
def coN (xs : List Cls) (p : List Lin) (a : Int) : List Nat → Nat
  | [] => 0
  | x :: r => if 0 ≤ ctAt xs p a x then 0 else coN xs p a r + 1
theorem coF_at {xs : List Cls} {p : List Lin} {a : Int} {L : List Nat} {k : Nat} (h : k < L.length) : coF xs p a (L.drop k) = if 0 ≤ ctAt xs p a L[k] then ctAt xs p a L[k] else coF xs p a (L.drop (k + 1)) := by rw [List.drop_eq_getElem_cons h]; rfl
theorem coF_end {xs : List Cls} {p : List Lin} {a : Int} {L : List Nat} {k : Nat} (h : ¬ k < L.length) : coF xs p a (L.drop k) = -1 := by rw [List.drop_eq_nil_of_le (by omega)]; rfl
theorem coN_at {xs : List Cls} {p : List Lin} {a : Int} {L : List Nat} {k : Nat} (h : k < L.length) : coN xs p a (L.drop k) = if 0 ≤ ctAt xs p a L[k] then 0 else coN xs p a (L.drop (k + 1)) + 1 := by rw [List.drop_eq_getElem_cons h]; rfl
theorem coN_end {xs : List Cls} {p : List Lin} {a : Int} {L : List Nat} {k : Nat} (h : ¬ k < L.length) : coN xs p a (L.drop k) = 0 := by rw [List.drop_eq_nil_of_le (by omega)]; rfl
theorem coN_le (xs : List Cls) (p : List Lin) (a : Int) : ∀ L, coN xs p a L ≤ L.length
  | [] => Nat.le_refl _
  | x :: r => by
    unfold coN
    have := coN_le xs p a r
    split <;> simp <;> omega
theorem ex_drop {p : List Lin} {C : List Nat} {k : Nat} (h : k < C.length) : exF p (C.drop k) = if knd p C[k] = 8 then C[k] :: exF p (C.drop (k + 1)) else exF p (C.drop (k + 1)) := by
  rw [List.drop_eq_getElem_cons h]
  unfold exF
  rw [List.filter_cons]
  by_cases e : knd p C[k] = 8
  · rw [if_pos e, if_pos (by simpa using e)]
  · rw [if_neg e, if_neg (by simpa using e)]
theorem ct_two (xs : List Cls) (p : List Lin) (a : Int) : ∀ (E : List Nat) (z : Nat), (firstC xs (E.map (lnA p)) a z = -1 ∧ ctE xs p a E = -1) ∨ ∃ j : Nat, ∃ h : j < E.length, firstC xs (E.map (lnA p)) a z = ((z + j : Nat) : Int) ∧ ctE xs p a E = (E[j] : Int)
  | [], z => .inl ⟨rfl, rfl⟩
  | x :: r, z => by
    rw [List.map_cons]
    unfold firstC ctE
    by_cases h : isAL xs a (lnA p x) = true
    · rw [if_pos h, if_pos h]
      exact .inr ⟨0, by simp, by simp, rfl⟩
    · rw [if_neg h, if_neg h]
      rcases ct_two xs p a r (z + 1) with ⟨h1, h2⟩ | ⟨j, hj, h1, h2⟩
      · exact .inl ⟨h1, h2⟩
      · exact .inr ⟨j + 1, by simpa using hj, by rw [show ((z : Int) + 1) = ((z + 1 : Nat) : Int) by omega, h1]; omega, by rw [h2]; rfl⟩
theorem good_exc {xs : List Cls} {p : List Lin} (g : GoodP xs p) {i : Nat} (hi : i < p.length) (h7 : knd p i = 7) : goodC xs (clL p i) = true := by
  have hx : exs p (parts p i) ≤ 6 := ((g.tries i hi).1 h7).2
  rw [exs_len] at hx
  refine goodC_yes g.tree (by unfold clL; rw [clF_len]; exact hx) (goodL_mk fun b hb => ?_)
  obtain ⟨x, hx2, rfl⟩ := List.mem_map.1 hb
  have hm := List.mem_filter.1 hx2
  have hl := parts_lt hi x hm.1
  have hk : knd p x = 8 := by simpa using hm.2
  have hn := (g.line x hl).1
  rw [lnA_at hl]
  rw [knd_at hl] at hk
  unfold numS at hn
  rw [hk] at hn
  simp at hn
  exact hn.1
end

section
def grB (xs : List Cls) (p : List Lin) (i a : Int) : Bool := glB xs p i && hasK xs a
def caX (xs : List Cls) (p : List Lin) (i a : Int) : Int := cond (grB xs p i a) (coF xs p a (encl p i.toNat)) (-1)
theorem tup2 {a b c d : Int} (h : a = c) (h2 : b = d) : Ending.returned (.tuple #[.int .i64 a, .int .i64 b]) = .returned (.tuple #[.int .i64 c, .int .i64 d]) := by rw [h, h2]
end
end
end Go.Proofs.Ytjgalknhdpdkbaa
