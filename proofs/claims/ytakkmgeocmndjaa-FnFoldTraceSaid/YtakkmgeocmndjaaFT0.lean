/- laws of chapter 4: words;  -/
import Derived.Test.YtakkmgeocmndjaaDN
import Derived.Test.YtakkmgeocmndjaaLT
import Derived.Test.YtakkmgeocmndjaaTrE
import Derived.Test.YtakkmgeocmndjaaTrJ
namespace Go.Proofs.Ytakkmgeocmndjaa
open Go.RowKit
section
variable {α : Type} [Enc α] {P : Program} {f : FuncId} {args : Array Value} {w : World} {xs : List α} {T : TypeId}
theorem Calls.sl1 (hp : 0 < Enc.size α) (h : Calls P f args w fun e w' => ∃ v, e = .returned v ∧ Owd T w w' v xs ∧ Le w w') : Calls P f args w fun e w' => ∃ A c, e = .returned (.slice A xs.length c) ∧ Sl w' A xs.length c xs ∧ Le w w' := by
  refine h.mono ?_
  rintro e w' ⟨v, rfl, D, hle⟩
  obtain ⟨A, c, rfl, S, _⟩ := D.form hp
  exact ⟨A, c, rfl, S, hle⟩
theorem Calls.sl1W (hp : 0 < Enc.size α) (h : Calls P f args w fun e w' => ∃ v, e = .returned v ∧ OwdW T w w' v xs ∧ Le w w') : Calls P f args w fun e w' => ∃ A c, e = .returned (.slice A xs.length c) ∧ Sl w' A xs.length c xs ∧ Le w w' := by
  refine h.mono ?_
  rintro e w' ⟨v, rfl, D, hle⟩
  obtain ⟨A, c, rfl, S, _⟩ := D.form hp
  exact ⟨A, c, rfl, S, hle⟩
theorem Calls.sl2 {x : Value} (hp : 0 < Enc.size α) (h : Calls P f args w fun e w' => ∃ v, e = .returned (.tuple #[v, x]) ∧ Owd T w w' v xs ∧ Le w w') : Calls P f args w fun e w' => ∃ A c, e = .returned (.tuple #[.slice A xs.length c, x]) ∧ Sl w' A xs.length c xs ∧ Le w w' := by
  refine h.mono ?_
  rintro e w' ⟨v, rfl, D, hle⟩
  obtain ⟨A, c, rfl, S, _⟩ := D.form hp
  exact ⟨A, c, rfl, S, hle⟩
theorem Calls.sl2W {x : Value} (hp : 0 < Enc.size α) (h : Calls P f args w fun e w' => ∃ v, e = .returned (.tuple #[v, x]) ∧ OwdW T w w' v xs ∧ Le w w') : Calls P f args w fun e w' => ∃ A c, e = .returned (.tuple #[.slice A xs.length c, x]) ∧ Sl w' A xs.length c xs ∧ Le w w' := by
  refine h.mono ?_
  rintro e w' ⟨v, rfl, D, hle⟩
  obtain ⟨A, c, rfl, S, _⟩ := D.form hp
  exact ⟨A, c, rfl, S, hle⟩
end
theorem frm_eq {a b : Frm} (h1 : a.fn = b.fn) (h2 : a.line = b.line) : a = b := by cases a; cases b; simp_all
theorem comH_take : ∀ a b : List Frm, a.take (comH a b) = b.take (comH a b)
  | [], b => by simp [comH]
  | a :: r, [] => by simp [comH]
  | a :: r, b :: s => by
    by_cases h : a.fn = b.fn ∧ a.line = b.line
    · rw [comH, if_pos h, List.take_succ_cons, List.take_succ_cons, comH_take r s, frm_eq h.1 h.2]
    · rw [comH, if_neg h]; rfl
theorem comH_comm : ∀ a b : List Frm, comH a b = comH b a
  | [], [] => rfl
  | [], b :: s => rfl
  | a :: r, [] => rfl
  | a :: r, b :: s => by
    by_cases h : a.fn = b.fn ∧ a.line = b.line
    · rw [comH, if_pos h, comH, if_pos ⟨h.1.symm, h.2.symm⟩, comH_comm r s]
    · rw [comH, if_neg h, comH, if_neg (fun h2 => h ⟨h2.1.symm, h2.2.symm⟩)]
theorem comH_self : ∀ a : List Frm, comH a a = a.length
  | [] => rfl
  | a :: r => by rw [comH, if_pos ⟨rfl, rfl⟩, comH_self r]; rfl
theorem comH_stop : ∀ (a b : List Frm) (h1 : comH a b < a.length) (h2 : comH a b < b.length), ¬ (a[comH a b].fn = b[comH a b].fn ∧ a[comH a b].line = b[comH a b].line)
  | a :: r, b :: s, h1, h2 => by
    by_cases h : a.fn = b.fn ∧ a.line = b.line
    · have e : comH (a :: r) (b :: s) = comH r s + 1 := by rw [comH, if_pos h]
      rw [e] at h1 h2
      have ih := comH_stop r s (by simpa using h1) (by simpa using h2)
      simp only [e, List.getElem_cons_succ]
      exact ih
    · have e : comH (a :: r) (b :: s) = 0 := by rw [comH, if_neg h]
      simp only [e, List.getElem_cons_zero]
      exact h

end Go.Proofs.Ytakkmgeocmndjaa
