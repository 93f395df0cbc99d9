/- laws of programs: plain facts of what catches: what catches a class catches those below it -/
import Derived.Test.YtomdhpfelchjeaaWyC
namespace Go.Proofs.Ytomdhpfelchjeaa
open Go.RowKit
theorem isAL_iffC {xs : List Cls} {a b : Int} : isAL xs a b = true ↔ b ∈ aboveL xs a := by unfold isAL; exact hasI_iff'
theorem isAL_leC {xs : List Cls} (g : Good xs) {a b : Int} (ha : a < xs.length) (h : isAL xs a b = true) : 0 ≤ b ∧ b ≤ a := aboveL_mem g _ a rfl ha b (isAL_iffC.1 h)
theorem isAL_transC {xs : List Cls} (g : Good xs) : ∀ (m : Nat) (a : Int), (a + 1).toNat = m → a < xs.length → ∀ {b c : Int}, isAL xs a b = true → isAL xs b c = true → isAL xs a c = true := by
  intro m
  induction m using Nat.strongRecOn with
  | _ m ih =>
    intro a hm ha b c hb hc
    by_cases h : a < 0
    · rw [isAL_neg h] at hb; cases hb
    · obtain ⟨i, rfl⟩ := Int.eq_ofNat_of_zero_le (by omega : 0 ≤ a)
      have hi : i < xs.length := by omega
      have hp := g.par_le hi
      rw [isAL_at g hi, Bool.or_eq_true] at hb
      rcases hb with hb | hb
      · have : (i : Int) = b := by simpa using hb
        rw [this]; exact hc
      · rw [isAL_at g hi, ih (xs[i].parent + 1).toNat (by omega) _ rfl (by omega) hb hc, Bool.or_true]
theorem isAL_root {xs : List Cls} (g : Good xs) : ∀ (m : Nat) (a : Nat), a = m → a < xs.length → isAL xs (a : Int) 0 = true := by
  intro m
  induction m using Nat.strongRecOn with
  | _ m ih =>
    intro a hm ha
    rw [isAL_at g ha]
    by_cases h : a = 0
    · subst h; rfl
    · have hp := g.par a ha (by omega)
      obtain ⟨i, hi⟩ := Int.eq_ofNat_of_zero_le hp.1
      rw [hi, ih i (by omega) i rfl (by omega), Bool.or_true]
theorem ctE_mono {xs : List Cls} {p : List Lin} {a b : Int} (g : Good xs) (hb : b < xs.length) (h : isAL xs b a = true) : ∀ E : List Nat, 0 ≤ ctE xs p a E → 0 ≤ ctE xs p b E
  | [], k => by unfold ctE at k; omega
  | x :: r, k => by
    unfold ctE at k ⊢
    split
    · omega
    · next c =>
      split at k
      · next d => exact absurd (isAL_transC g _ b rfl hb h d) c
      · exact ctE_mono g hb h r k
theorem ctAt_mono {xs : List Cls} {p : List Lin} {a b : Int} (g : Good xs) (hb : b < xs.length) (h : isAL xs b a = true) (y : Nat) (k : 0 ≤ ctAt xs p a y) : 0 ≤ ctAt xs p b y := by
  unfold ctAt at k ⊢
  split
  · next c => rw [if_pos c] at k; exact ctE_mono g hb h _ k
  · next c => rw [if_neg c] at k; exact k
theorem coF_mono {xs : List Cls} {p : List Lin} {a b : Int} (g : Good xs) (hb : b < xs.length) (h : isAL xs b a = true) : ∀ E : List Nat, 0 ≤ coF xs p a E → 0 ≤ coF xs p b E
  | [], k => by unfold coF at k; omega
  | x :: r, k => by
    unfold coF at k ⊢
    by_cases c : 0 ≤ ctAt xs p b x
    · rw [if_pos c]; exact c
    · rw [if_neg c]
      rw [if_neg (fun d => c (ctAt_mono g hb h x d))] at k
      exact coF_mono g hb h r k
theorem ctE_what (xs : List Cls) (p : List Lin) (a : Int) : ∀ E : List Nat, 0 ≤ ctE xs p a E → ∃ x ∈ E, ctE xs p a E = (x : Int) ∧ isAL xs a (lnA p x) = true
  | [], k => by unfold ctE at k; omega
  | y :: r, k => by
    unfold ctE at k ⊢
    by_cases c : isAL xs a (lnA p y) = true
    · rw [if_pos c]; exact ⟨y, List.mem_cons_self .., rfl, c⟩
    · rw [if_neg c] at k ⊢
      obtain ⟨x, hx, e⟩ := ctE_what xs p a r k
      exact ⟨x, List.mem_cons_of_mem _ hx, e⟩
theorem coF_what (xs : List Cls) (p : List Lin) (a : Int) : ∀ E : List Nat, 0 ≤ coF xs p a E → ∃ y ∈ E, (knd p y = 11 ∧ lnBc p y = 1 ∧ coF xs p a E = (y : Int)) ∨ ∃ x ∈ exL p y, coF xs p a E = (x : Int) ∧ isAL xs a (lnA p x) = true
  | [], k => by unfold coF at k; omega
  | y :: r, k => by
    unfold coF at k ⊢
    by_cases c : 0 ≤ ctAt xs p a y
    · rw [if_pos c]
      refine ⟨y, List.mem_cons_self .., ?_⟩
      unfold ctAt at c ⊢
      by_cases h7 : knd p y = 7
      · rw [if_pos h7] at c ⊢; exact .inr (ctE_what xs p a _ c)
      · rw [if_neg h7] at c ⊢
        by_cases h11 : knd p y = 11 ∧ lnBc p y = 1
        · rw [if_pos h11]; exact .inl ⟨h11.1, h11.2, rfl⟩
        · rw [if_neg h11] at c; omega
    · rw [if_neg c] at k ⊢
      obtain ⟨x, hx, e⟩ := coF_what xs p a r k
      exact ⟨x, List.mem_cons_of_mem _ hx, e⟩
theorem caX_of {xs : List Cls} {p : List Lin} {k : Nat} {a : Int} (h : vp xs p = true) (hk : k < p.length) (ha : hasK xs a = true) : caX xs p k a = coF xs p a (encl p k) := by
  unfold caX grB; rw [glB_iff.2 ⟨h, k, rfl, hk⟩, ha]; rfl
theorem ca_mono {xs : List Cls} {p : List Lin} {k : Nat} {a b : Int} (h : vp xs p = true) (hk : k < p.length) (ha : hasK xs a = true) (hb : hasK xs b = true) (hba : isAL xs b a = true) (k0 : 0 ≤ caX xs p k a) : 0 ≤ caX xs p k b := by
  rw [caX_of h hk ha] at k0
  rw [caX_of h hk hb]
  exact coF_mono (good_of (goodP_of h).tree) (hasK_iff.1 hb).2 hba _ k0
theorem ca_root {xs : List Cls} {p : List Lin} {k : Nat} {a : Int} (h : vp xs p = true) (hk : k < p.length) (ha : hasK xs a = true) (k0 : caX xs p k a < 0) : caX xs p k 0 < 0 := by
  refine Int.not_le.1 fun c => ?_
  have hh := hasK_iff.1 ha
  obtain ⟨i, rfl⟩ := Int.eq_ofNat_of_zero_le hh.1
  have g := good_of (goodP_of h).tree
  have := ca_mono h hk (hasK_iff.2 ⟨Int.le_refl 0, by have := g.lo; omega⟩) ha (isAL_root g i i rfl (by omega)) c
  omega
theorem ca_what {xs : List Cls} {p : List Lin} {k : Nat} {a : Int} (h : vp xs p = true) (hk : k < p.length) (ha : hasK xs a = true) (k0 : 0 ≤ caX xs p k a) :
    ∃ x : Nat, ∃ hx : x < p.length, caX xs p k a = (x : Int) ∧ ((p[x].kind = 11 ∧ p[x].b = 1 ∧ x < k) ∨ (p[x].kind = 8 ∧ isAx xs a p[x].a = true)) := by
  have g := goodP_of h
  rw [caX_of h hk ha] at k0 ⊢
  obtain ⟨y, hy, hc⟩ := coF_what xs p a _ k0
  have hyk := encl_lt y hy
  have hyp : y < p.length := by omega
  rcases hc with ⟨h1, h2, h3⟩ | ⟨x, hx, h3, h4⟩
  · rw [knd_at hyp] at h1
    rw [lnBc_at hyp] at h2
    exact ⟨y, hyp, h3, .inl ⟨h1, h2, hyk⟩⟩
  · have hm := List.mem_filter.1 hx
    have hl := parts_lt hyp x hm.1
    have hk8 : knd p x = 8 := by simpa using hm.2
    have hn := (g.line x hl).1
    rw [lnA_at hl] at h4
    rw [knd_at hl] at hk8
    unfold numS at hn
    rw [hk8] at hn
    simp at hn
    exact ⟨x, hl, h3, .inr ⟨hk8, by unfold isAx; rw [g.tree, ha, hn.1, h4]; rfl⟩⟩
end Go.Proofs.Ytomdhpfelchjeaa
