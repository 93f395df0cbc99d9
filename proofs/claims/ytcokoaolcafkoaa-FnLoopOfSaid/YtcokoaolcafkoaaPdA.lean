/- laws of programs: plain facts of the lines around a line -/
import Derived.Test.YtcokoaolcafkoaaPhX
import Derived.Test.YtcokoaolcafkoaaPgW
namespace Go.Proofs.Ytcokoaolcafkoaa
open Go.RowKit
theorem inL_encl (p : List Lin) : ∀ (n i : Nat), i < n → inL p i = true → ∃ x ∈ encl p i, knd p x = 12
  | 0, i, hn, _ => by omega
  | n + 1, i, hn, h => by
    have he : encl p i = enO p (outs p i) := by unfold encl; rw [en_out]; rfl
    rw [inL_upF] at h
    rw [he]
    cases ho : outs p i with
    | none => rw [ho] at h; cases h
    | some j =>
      have hj := oGo_lt ho
      rw [ho] at h
      by_cases hk : knd p j = 12
      · exact ⟨j, List.mem_cons_self .., hk⟩
      · have h2 : inL p j = true := by
          have h3 : (if knd p j = 12 then true else inL p j) = true := h
          rwa [if_neg hk] at h3
        obtain ⟨x, hx, hk2⟩ := inL_encl p n j (by omega) h2
        exact ⟨x, List.mem_cons_of_mem _ hx, hk2⟩
theorem loA_two (p : List Lin) : ∀ L : List Nat, (loA p L = -1 ∧ ∀ x ∈ L, knd p x ≠ 12) ∨ ∃ x ∈ L, loA p L = (x : Int) ∧ knd p x = 12
  | [] => .inl ⟨rfl, fun _ h => nomatch h⟩
  | y :: r => by
    unfold loA
    by_cases h : knd p y = 12
    · rw [if_pos h]
      exact .inr ⟨y, List.mem_cons_self .., rfl, h⟩
    · rw [if_neg h]
      rcases loA_two p r with ⟨h1, h2⟩ | ⟨x, hx, h1, h2⟩
      · refine .inl ⟨h1, fun x hx => ?_⟩
        rcases List.mem_cons.1 hx with rfl | hx
        · exact h
        · exact h2 x hx
      · exact .inr ⟨x, List.mem_cons_of_mem _ hx, h1, h2⟩
theorem hasI_nI {x : Nat} : ∀ {L : List Nat}, x ∈ L → hasI (nI L) (x : Int) = true
  | y :: r, h => by
    show ((y : Int) == (x : Int) || hasI (nI r) x) = true
    rcases List.mem_cons.1 h with rfl | h
    · simp
    · rw [hasI_nI h]; simp
theorem glB_bad {xs : List Cls} {p : List Lin} {i : Int} (h : vp xs p = false ∨ i < 0 ∨ (p.length : Int) ≤ i) : glB xs p i = false := by
  cases hg : glB xs p i
  · rfl
  · obtain ⟨h1, k, rfl, hk⟩ := glB_iff.1 hg
    rcases h with h | h | h
    · rw [h1] at h; cases h
    · omega
    · omega
theorem glB_ok {xs : List Cls} {p : List Lin} {k : Nat} (h : vp xs p = true) (hk : k < p.length) : glB xs p k = true := glB_iff.2 ⟨h, k, rfl, hk⟩
section
variable {α : Type} [Enc α] {P : Program} {f : FuncId} {args : Array Value} {w : World} {xs : List α} {T : TypeId}
theorem Calls.sl1 (hp : 0 < Enc.size α) (h : Calls P f args w fun e w' => ∃ v, e = .returned v ∧ Owd T w w' v xs ∧ Le w w') : Calls P f args w fun e w' => ∃ A c, e = .returned (.slice A xs.length c) ∧ Sl w' A xs.length c xs ∧ Le w w' := by
  refine h.mono ?_
  rintro e w' ⟨v, rfl, D, hle⟩
  obtain ⟨A, c, rfl, S, _⟩ := D.form hp
  exact ⟨A, c, rfl, S, hle⟩
end
end Go.Proofs.Ytcokoaolcafkoaa
