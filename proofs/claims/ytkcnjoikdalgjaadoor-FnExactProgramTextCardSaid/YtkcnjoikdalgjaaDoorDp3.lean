/- one text of PgA, YpP, YpQ -/
import Derived.Test.YtkcnjoikdalgjaaDoorDp2
import Derived.Test.YtkcnjoikdalgjaaDoorDp1
namespace Go.Proofs.YtkcnjoikdalgjaaDoor
open Go.RowKit
set_option linter.unusedVariables false
section
section
def dep (p : List Lin) (i : Nat) : Int := match p[i]? with | some x => x.depth | none => 0
def knd (p : List Lin) (i : Nat) : Int := match p[i]? with | some x => x.kind | none => 0
theorem dep_at {p : List Lin} {i : Nat} (h : i < p.length) : dep p i = p[i].depth := by unfold dep; rw [List.getElem?_eq_getElem h]
theorem knd_at {p : List Lin} {i : Nat} (h : i < p.length) : knd p i = p[i].kind := by unfold knd; rw [List.getElem?_eq_getElem h]
/-- the line behind the block of a line -/
def bGo (p : List Lin) (d : Int) : Nat → Nat → Nat
  | 0, k => k
  | m + 1, k => if d < dep p k then bGo p d m (k + 1) else k
def bEnd (p : List Lin) (i : Nat) : Nat := bGo p (dep p i) (p.length - (i + 1)) (i + 1)
theorem bGo_ge (p : List Lin) (d : Int) : ∀ (m k : Nat), k ≤ bGo p d m k
  | 0, k => Nat.le_refl _
  | m + 1, k => by
    unfold bGo; split
    · exact Nat.le_trans (Nat.le_succ k) (bGo_ge p d m (k + 1))
    · exact Nat.le_refl _
theorem bGo_le (p : List Lin) (d : Int) : ∀ (m k : Nat), bGo p d m k ≤ k + m
  | 0, k => Nat.le_refl _
  | m + 1, k => by
    unfold bGo; split
    · have := bGo_le p d m (k + 1); omega
    · omega
theorem bGo_in (p : List Lin) (d : Int) : ∀ (m k x : Nat), k ≤ x → x < bGo p d m k → d < dep p x
  | 0, k, x, h1, h2 => by unfold bGo at h2; omega
  | m + 1, k, x, h1, h2 => by
    unfold bGo at h2
    split at h2
    · next h =>
      by_cases e : x = k
      · rw [e]; exact h
      · exact bGo_in p d m (k + 1) x (by omega) h2
    · omega
theorem bGo_stop (p : List Lin) (d : Int) : ∀ (m k : Nat), bGo p d m k < k + m → ¬ d < dep p (bGo p d m k)
  | 0, k, h => by unfold bGo at h; omega
  | m + 1, k, h => by
    unfold bGo at h ⊢
    split
    · next h1 => rw [if_pos h1] at h; exact bGo_stop p d m (k + 1) (by omega)
    · next h1 => exact h1
theorem bEnd_gt (p : List Lin) (i : Nat) : i < bEnd p i := bGo_ge p _ _ (i + 1)
theorem bEnd_le {p : List Lin} {i : Nat} (h : i < p.length) : bEnd p i ≤ p.length := by
  have := bGo_le p (dep p i) (p.length - (i + 1)) (i + 1)
  unfold bEnd; omega
theorem bEnd_in {p : List Lin} {i x : Nat} (h1 : i < x) (h2 : x < bEnd p i) : dep p i < dep p x := bGo_in p _ _ _ x h1 h2
theorem bEnd_stop {p : List Lin} {i : Nat} (hi : i < p.length) (h : bEnd p i < p.length) : dep p (bEnd p i) ≤ dep p i := by
  have := bGo_stop p (dep p i) (p.length - (i + 1)) (i + 1) (by unfold bEnd at h; omega)
  unfold bEnd; omega
/-- k is the line ahead of i that is as deep, with only deeper ones between -/
def Sib (p : List Lin) (k i : Nat) : Prop := k < i ∧ i < p.length ∧ dep p k = dep p i ∧ ∀ m, k < m → m < i → dep p i < dep p m
theorem sib_of {p : List Lin} {k : Nat} (h : bEnd p k < p.length) (he : dep p (bEnd p k) = dep p k) : Sib p k (bEnd p k) :=
  ⟨bEnd_gt p k, h, he.symm, fun m h1 h2 => by rw [he]; exact bEnd_in h1 h2⟩
theorem Sib.out {p : List Lin} {k i : Nat} (h : Sib p k i) : bEnd p k = i := by
  obtain ⟨h1, h2, h3, h4⟩ := h
  rcases Nat.lt_trichotomy (bEnd p k) i with h5 | h5 | h5
  · have a := bEnd_stop (by omega) (Nat.lt_trans h5 h2)
    have b := h4 _ (bEnd_gt p k) h5
    omega
  · exact h5
  · have := bEnd_in h1 h5
    omega
theorem Sib.uniq {p : List Lin} {k j i : Nat} (h : Sib p k i) (h2 : Sib p j i) : k = j := by
  rcases Nat.lt_trichotomy k j with h5 | h5 | h5
  · have := h.2.2.2 j h5 h2.1; have := h2.2.2.1; omega
  · exact h5
  · have := h2.2.2.2 k h5 h.1; have := h.2.2.1; omega
/-- the line behind the block of a line if that is as deep; the number of lines if there is none -/
def sNext (p : List Lin) (i : Nat) : Nat := if bEnd p i < p.length ∧ dep p (bEnd p i) = dep p i then bEnd p i else p.length
theorem sNext_gt {p : List Lin} {i : Nat} (h : i < p.length) : i < sNext p i := by
  unfold sNext; split
  · exact bEnd_gt p i
  · exact h
theorem sNext_sib {p : List Lin} {i : Nat} (h : sNext p i < p.length) : Sib p i (sNext p i) := by
  unfold sNext at h ⊢
  split
  · next e => exact sib_of e.1 e.2
  · next e => rw [if_neg e] at h; omega
theorem Sib.next {p : List Lin} {k i : Nat} (h : Sib p k i) : sNext p k = i := by
  have e := h.out
  unfold sNext
  rw [e, if_pos ⟨h.2.1, h.2.2.1.symm⟩]
/-- a kind that goes on with a try -/
def fol (k : Int) : Bool := decide (8 ≤ k) && decide (k ≤ 10)
theorem fol_iff {k : Int} : fol k = true ↔ 8 ≤ k ∧ k ≤ 10 := by unfold fol; simp
def chGo (p : List Lin) : Nat → Nat → List Nat
  | 0, _ => []
  | m + 1, k => if k < p.length ∧ fol (knd p k) = true then k :: chGo p m (sNext p k) else []
/-- the lines of a try as the model reads them -/
def chain (p : List Lin) (i : Nat) : List Nat := i :: chGo p p.length (sNext p i)
/-- what may come behind which line of a try -/
def mayF (a k : Int) : Bool := (decide (k = 8) && (decide (a = 7) || decide (a = 8))) || (decide (k = 9) && decide (a = 8)) || (decide (k = 10) && (decide (a = 7) || decide (a = 8) || decide (a = 9)))
theorem mayF_iff {a k : Int} : mayF a k = true ↔ (k = 8 ∧ (a = 7 ∨ a = 8)) ∨ (k = 9 ∧ a = 8) ∨ (k = 10 ∧ (a = 7 ∨ a = 8 ∨ a = 9)) := by
  unfold mayF; simp [or_assoc]
def ptGo (p : List Lin) (d : Int) : Nat → Nat → List Nat
  | 0, _ => []
  | m + 1, k => if bEnd p k < p.length ∧ dep p (bEnd p k) = d ∧ mayF (knd p k) (knd p (bEnd p k)) = true then bEnd p k :: ptGo p d m (bEnd p k) else []
/-- the lines of a try as the program reads them -/
def parts (p : List Lin) (i : Nat) : List Nat := i :: ptGo p (dep p i) p.length i
/-- how many LnExcept a list has -/
def exs (p : List Lin) (L : List Nat) : Nat := L.countP fun k => knd p k == 8
def vcGo (p : List Lin) : Bool → Int → Nat → List Nat → Option Nat
  | _, _, ex, [] => some ex
  | first, prev, ex, k :: r =>
    if (first = false ∧ (knd p k < prev ∨ (knd p k = prev ∧ knd p k ≠ 8))) ∨ (knd p k = 9 ∧ (if knd p k = 8 then ex + 1 else ex) = 0) then none
    else vcGo p false (knd p k) (if knd p k = 8 then ex + 1 else ex) r
/-- whether the lines of a try come in order, as the model asks -/
def vChain (p : List Lin) (i : Nat) : Bool := match vcGo p true 0 0 (chain p i).tail with | none => false | some ex => decide (1 < (chain p i).length) && decide (ex ≤ 6)
/-- what the walk over a try knows of the line that it has passed last -/
def StV (first : Bool) (prev : Int) (ex : Nat) (k : Int) : Prop := (first = true ∧ k = 7 ∧ ex = 0) ∨ (first = false ∧ prev = k ∧ 8 ≤ k ∧ k ≤ 10 ∧ (k ≤ 9 → 0 < ex))
def exN (n : Int) (ex : Nat) : Nat := if n = 8 then ex + 1 else ex
theorem exN_8 {n : Int} (h : n = 8) (ex : Nat) : exN n ex = ex + 1 := if_pos h
theorem exN_no {n : Int} (h : n ≠ 8) (ex : Nat) : exN n ex = ex := if_neg h
def badV (first : Bool) (prev : Int) (ex : Nat) (n : Int) : Prop := (first = false ∧ (n < prev ∨ (n = prev ∧ n ≠ 8))) ∨ (n = 9 ∧ exN n ex = 0)
theorem StV.step {first : Bool} {prev : Int} {ex : Nat} {k n : Int} (h : StV first prev ex k) (hn : 8 ≤ n ∧ n ≤ 10) (hv : ¬ badV first prev ex n) : mayF k n = true ∧ StV false n (exN n ex) n := by
  have hv1 : first = false → ¬ (n < prev ∨ (n = prev ∧ n ≠ 8)) := fun h1 h2 => hv (.inl ⟨h1, h2⟩)
  have hv2 : n = 9 → exN n ex ≠ 0 := fun h1 h2 => hv (.inr ⟨h1, h2⟩)
  have h8 := exN_8 (n := n)
  have h9 := exN_no (n := n)
  have hex : n = 8 → 0 < exN n ex := fun e => by rw [exN_8 e]; omega
  have hex9 : n = 9 → exN n ex = ex := fun e => exN_no (by omega) ex
  clear h8 h9 hv
  rcases h with ⟨rfl, rfl, rfl⟩ | ⟨rfl, rfl, h1, h2, h3⟩
  · have hn9 : n ≠ 9 := fun e => hv2 e (hex9 e)
    exact ⟨mayF_iff.2 (by omega), .inr ⟨rfl, rfl, hn.1, hn.2, fun _ => hex (by omega)⟩⟩
  · have hv3 := hv1 rfl
    refine ⟨mayF_iff.2 (by omega), .inr ⟨rfl, rfl, hn.1, hn.2, fun h4 => ?_⟩⟩
    by_cases e : n = 8
    · exact hex e
    · have e9 : n = 9 := by omega
      have := hex9 e9
      have := hv2 e9
      omega
theorem StV.back {first : Bool} {prev : Int} {ex : Nat} {k n : Int} (h : StV first prev ex k) (hm : mayF k n = true) : ¬ badV first prev ex n ∧ StV false n (exN n ex) n := by
  have hm' := mayF_iff.1 hm
  have hex : n = 8 → 0 < exN n ex := fun e => by rw [exN_8 e]; omega
  have hex9 : n = 9 → exN n ex = ex := fun e => exN_no (by omega) ex
  rcases h with ⟨rfl, rfl, rfl⟩ | ⟨rfl, rfl, h1, h2, h3⟩
  · refine ⟨?_, .inr ⟨rfl, rfl, by omega, by omega, fun _ => hex (by omega)⟩⟩
    rintro (⟨h, _⟩ | ⟨h, _⟩)
    · cases h
    · omega
  · refine ⟨?_, .inr ⟨rfl, rfl, by omega, by omega, fun h4 => ?_⟩⟩
    · rintro (⟨_, h⟩ | ⟨h, h4⟩)
      · omega
      · have := hex9 h
        have := h3 (by omega)
        omega
    · by_cases e : n = 8
      · exact hex e
      · have e9 : n = 9 := by omega
        have := hex9 e9
        have := h3 (by omega)
        omega
theorem vc_cons (p : List Lin) (first : Bool) (prev : Int) (ex : Nat) (k : Nat) (r : List Nat) [Decidable (badV first prev ex (knd p k))] : vcGo p first prev ex (k :: r) = if badV first prev ex (knd p k) then none else vcGo p false (knd p k) (exN (knd p k) ex) r := by
  show (if _ then none else _) = _
  by_cases h : badV first prev ex (knd p k)
  · rw [if_pos h]; exact if_pos h
  · rw [if_neg h]; exact if_neg h
theorem vc_bad {p : List Lin} {first : Bool} {prev : Int} {ex k : Nat} {r : List Nat} (h : badV first prev ex (knd p k)) : vcGo p first prev ex (k :: r) = none := if_pos h
theorem vc_ok {p : List Lin} {first : Bool} {prev : Int} {ex k : Nat} {r : List Nat} (h : ¬ badV first prev ex (knd p k)) : vcGo p first prev ex (k :: r) = vcGo p false (knd p k) (exN (knd p k) ex) r := if_neg h
theorem exs_cons (p : List Lin) (k : Nat) (r : List Nat) (ex : Nat) : exN (knd p k) ex + exs p r = ex + exs p (k :: r) := by
  unfold exs
  rw [List.countP_cons]
  by_cases h : knd p k = 8
  · rw [exN_8 h, h]; simp; omega
  · rw [exN_no h]
    have : (knd p k == 8) = false := by simpa using h
    rw [this]; simp
theorem pt_of_vc (p : List Lin) : ∀ (m k : Nat) (first : Bool) (prev : Int) (ex : Nat), k < p.length → StV first prev ex (knd p k) → vcGo p first prev ex (chGo p m (sNext p k)) ≠ none → ptGo p (dep p k) m k = chGo p m (sNext p k)
  | 0, _, _, _, _, _, _, _ => rfl
  | m + 1, k, first, prev, ex, hk, hs, hv => by
    by_cases hl : sNext p k < p.length
    · have sb := sNext_sib hl
      by_cases hf : fol (knd p (sNext p k)) = true
      · have hc : sNext p k < p.length ∧ fol (knd p (sNext p k)) = true := ⟨hl, hf⟩
        unfold chGo at hv ⊢
        unfold ptGo
        rw [if_pos hc] at hv
        have hb : ¬ badV first prev ex (knd p (sNext p k)) := fun hb => hv (vc_bad hb)
        rw [vc_ok hb] at hv
        obtain ⟨hm, hst⟩ := hs.step (fol_iff.1 hf) hb
        have hc2 : sNext p k < p.length ∧ dep p (sNext p k) = dep p k ∧ mayF (knd p k) (knd p (sNext p k)) = true := ⟨hl, sb.2.2.1.symm, hm⟩
        rw [sb.out, if_pos hc2, if_pos hc, sb.2.2.1, pt_of_vc p m _ _ _ _ hl hst hv]
      · unfold chGo ptGo
        rw [sb.out, if_neg (fun q => hf (fol_iff.2 (by have := mayF_iff.1 q.2.2; omega))), if_neg (fun q => hf q.2)]
    · unfold chGo ptGo
      rw [if_neg (fun q => by have := (sib_of q.1 q.2.1).next; have := q.1; omega), if_neg (fun q => hl q.1)]
theorem vc_of_pt (p : List Lin) : ∀ (m k : Nat) (first : Bool) (prev : Int) (ex : Nat), k < p.length → StV first prev ex (knd p k) → ptGo p (dep p k) m k = chGo p m (sNext p k) → vcGo p first prev ex (chGo p m (sNext p k)) = some (ex + exs p (chGo p m (sNext p k)))
  | 0, _, _, _, _, _, _, _ => rfl
  | m + 1, k, first, prev, ex, hk, hs, he => by
    unfold chGo at he ⊢
    unfold ptGo at he
    by_cases hl : sNext p k < p.length
    · have sb := sNext_sib hl
      by_cases hf : fol (knd p (sNext p k)) = true
      · rw [if_pos ⟨hl, hf⟩]
        rw [sb.out] at he
        by_cases hm : mayF (knd p k) (knd p (sNext p k)) = true
        · rw [if_pos ⟨hl, sb.2.2.1.symm, hm⟩, if_pos ⟨hl, hf⟩] at he
          injection he with _ he
          obtain ⟨hb, hst⟩ := hs.back hm
          rw [sb.2.2.1] at he
          rw [vc_ok hb, vc_of_pt p m _ _ _ _ hl hst he, exs_cons]
        · rw [if_neg (fun q => hm q.2.2), if_pos ⟨hl, hf⟩] at he; cases he
      · rw [if_neg (fun q => hf q.2)]; rfl
    · rw [if_neg (fun q => hl q.1)]; rfl
theorem vChain_iff {p : List Lin} {i : Nat} (hi : i < p.length) (h7 : knd p i = 7) : vChain p i = true ↔ parts p i = chain p i ∧ (parts p i).length ≠ 1 ∧ exs p (parts p i) ≤ 6 := by
  have hst : StV true 0 0 (knd p i) := .inl ⟨rfl, h7, rfl⟩
  have hex : ∀ r, exs p (i :: r) = exs p r := fun r => by
    have h := exs_cons p i r 0
    rw [exN_no (by omega)] at h; omega
  constructor
  · intro h
    unfold vChain at h
    show parts p i = chain p i ∧ _
    have hne : vcGo p true 0 0 (chGo p p.length (sNext p i)) ≠ none := fun e => by
      rw [show (chain p i).tail = chGo p p.length (sNext p i) from rfl, e] at h; cases h
    have he := pt_of_vc p p.length i true 0 0 hi hst hne
    have hv := vc_of_pt p p.length i true 0 0 hi hst he
    rw [show (chain p i).tail = chGo p p.length (sNext p i) from rfl, hv] at h
    have h' : (decide (1 < (chain p i).length) && decide (0 + exs p (chGo p p.length (sNext p i)) ≤ 6)) = true := h
    rw [Bool.and_eq_true, decide_eq_true_eq, decide_eq_true_eq] at h'
    have hp : parts p i = chain p i := by unfold parts chain; rw [he]
    refine ⟨hp, ?_, ?_⟩
    · rw [hp]; omega
    · rw [hp]; unfold chain; rw [hex]; omega
  · rintro ⟨hp, h1, h2⟩
    have he : ptGo p (dep p i) p.length i = chGo p p.length (sNext p i) := by unfold parts chain at hp; injection hp
    have hv := vc_of_pt p p.length i true 0 0 hi hst he
    rw [hp] at h1 h2
    unfold vChain
    rw [show (chain p i).tail = chGo p p.length (sNext p i) from rfl, hv]
    show (decide (1 < (chain p i).length) && decide (0 + exs p (chGo p p.length (sNext p i)) ≤ 6)) = true
    have h3 : exs p (chain p i) = exs p (chGo p p.length (sNext p i)) := hex _
    have h4 : 0 < (chain p i).length := by unfold chain; simp
    rw [Bool.and_eq_true, decide_eq_true_eq, decide_eq_true_eq]
    omega
theorem pt_pred (p : List Lin) : ∀ (m k x : Nat), k < p.length → x ∈ ptGo p (dep p k) m k → ∃ j, Sib p j x ∧ mayF (knd p j) (knd p x) = true
  | 0, _, _, _, h => by cases h
  | m + 1, k, x, hk, h => by
    unfold ptGo at h
    split at h
    · next c =>
      have sb := sib_of c.1 c.2.1
      rcases List.mem_cons.1 h with rfl | h
      · exact ⟨k, sb, c.2.2⟩
      · rw [sb.2.2.1] at h
        exact pt_pred p m _ x c.1 h
    · cases h
theorem ch_next (p : List Lin) : ∀ (m x k : Nat), p.length ≤ m + x → k ∈ chGo p m x → sNext p k < p.length → fol (knd p (sNext p k)) = true → sNext p k ∈ chGo p m x
  | 0, _, _, _, h, _, _ => by cases h
  | m + 1, x, k, hm, h, hl, hf => by
    unfold chGo at h ⊢
    split at h
    · next c =>
      rw [if_pos c]
      have hg := sNext_gt c.1
      rcases List.mem_cons.1 h with rfl | h
      · cases m with
        | zero => omega
        | succ m =>
          refine List.mem_cons_of_mem _ ?_
          unfold chGo
          rw [if_pos ⟨hl, hf⟩]
          exact List.mem_cons_self ..
      · exact List.mem_cons_of_mem _ (ch_next p m _ k (by omega) h hl hf)
    · cases h
def triesS (p : List Lin) : Prop := ∀ i, i < p.length → (knd p i = 7 → vChain p i = true) ∧ (fol (knd p i) = true → ∃ k, Sib p k i ∧ (knd p k = 7 ∨ fol (knd p k) = true))
def triesI (p : List Lin) : Prop := ∀ i, i < p.length → (knd p i = 7 → (parts p i).length ≠ 1 ∧ exs p (parts p i) ≤ 6) ∧ (fol (knd p i) = true → ∃ j, j < i ∧ knd p j = 7 ∧ i ∈ parts p j)
theorem full_of (p : List Lin) (H : triesI p) : ∀ (m k : Nat), k < p.length → ptGo p (dep p k) m k = chGo p m (sNext p k)
  | 0, _, _ => rfl
  | m + 1, k, hk => by
    unfold ptGo chGo
    by_cases hl : sNext p k < p.length
    · have sb := sNext_sib hl
      by_cases hf : fol (knd p (sNext p k)) = true
      · obtain ⟨j, hj, h7, hm⟩ := (H _ hl).2 hf
        have hne : sNext p k ≠ j := by omega
        have hm2 : sNext p k ∈ ptGo p (dep p j) p.length j := by
          rcases List.mem_cons.1 hm with h | h
          · exact absurd h hne
          · exact h
        obtain ⟨k', sb', hmf⟩ := pt_pred p _ j _ (by omega) hm2
        obtain rfl := sb'.uniq sb
        rw [sb.out, if_pos ⟨hl, sb.2.2.1.symm, hmf⟩, if_pos ⟨hl, hf⟩, sb.2.2.1, full_of p H m _ hl]
      · rw [sb.out, if_neg (fun q => hf (fol_iff.2 (by have := mayF_iff.1 q.2.2; omega))), if_neg (fun q => hf q.2)]
    · rw [if_neg (fun q => by have := (sib_of q.1 q.2.1).next; have := q.1; omega), if_neg (fun q => hl q.1)]
theorem tries_same (p : List Lin) : triesS p ↔ triesI p := by
  constructor
  · intro H
    have key : ∀ n i, i < n → i < p.length → fol (knd p i) = true → ∃ j, j < i ∧ knd p j = 7 ∧ i ∈ parts p j := by
      intro n
      induction n with
      | zero => intro i h; omega
      | succ n ih =>
        intro i hn hi hf
        obtain ⟨k, sb, hk⟩ := (H i hi).2 hf
        have hkl : k < p.length := by have := sb.1; omega
        have hnx := sb.next
        rcases hk with h7 | hfk
        · refine ⟨k, sb.1, h7, ?_⟩
          rw [((vChain_iff hkl h7).1 ((H k hkl).1 h7)).1]
          unfold chain
          refine List.mem_cons_of_mem _ ?_
          rw [hnx]
          obtain ⟨l, hl⟩ : ∃ l, p.length = l + 1 := ⟨p.length - 1, by omega⟩
          have : chGo p p.length i = i :: chGo p l (sNext p i) := by rw [hl]; unfold chGo; rw [if_pos ⟨by omega, hf⟩]; cases l <;> rfl
          rw [this]; exact List.mem_cons_self ..
        · obtain ⟨j, hj, h7, hm⟩ := ih k (by have := sb.1; omega) hkl hfk
          have hjl : j < p.length := by omega
          have hp := ((vChain_iff hjl h7).1 ((H j hjl).1 h7)).1
          refine ⟨j, by have := sb.1; omega, h7, ?_⟩
          rw [hp] at hm ⊢
          unfold chain at hm ⊢
          rcases List.mem_cons.1 hm with h | h
          · omega
          · have := ch_next p p.length (sNext p j) k (by omega) h (by rw [hnx]; exact hi) (by rw [hnx]; exact hf)
            rw [hnx] at this
            exact List.mem_cons_of_mem _ this
    exact fun i hi => ⟨fun h7 => ((vChain_iff hi h7).1 ((H i hi).1 h7)).2, fun hf => key (i + 1) i (by omega) hi hf⟩
  · intro H i hi
    refine ⟨fun h7 => (vChain_iff hi h7).2 ⟨?_, (H i hi).1 h7⟩, fun hf => ?_⟩
    · unfold parts chain; rw [full_of p H p.length i hi]
    · obtain ⟨j, hj, h7, hm⟩ := (H i hi).2 hf
      rcases List.mem_cons.1 hm with h | h
      · omega
      · obtain ⟨k, sb, hmf⟩ := pt_pred p _ j i (by omega) h
        refine ⟨k, sb, ?_⟩
        rcases mayF_iff.1 hmf with h | h | h
        · rcases h.2 with h | h
          · exact .inl h
          · exact .inr (fol_iff.2 (by omega))
        · exact .inr (fol_iff.2 (by omega))
        · rcases h.2 with h | h | h
          · exact .inl h
          · exact .inr (fol_iff.2 (by omega))
          · exact .inr (fol_iff.2 (by omega))
end

section
/-! numbers -/
def numS (xs : List Cls) (k a b : Int) : Bool :=
  if k = 1 ∨ k = 4 then rng 0 99 a && (b == 0)
  else if k = 2 then hasK xs a && rng 0 99 b
  else if k = 8 then hasK xs a && (b == 0)
  else if k = 11 then rng 0 9 a && rng 0 1 b
  else if k = 12 then rng 0 3 a && (b == 0)
  else rng 0 10 k && (a == 0) && (b == 0)
def mostA (n : Nat) (k : Int) : Int :=
  if k = 0 ∨ k = 3 ∨ k = 5 ∨ k = 6 ∨ k = 7 ∨ k = 9 ∨ k = 10 then 0
  else if k = 1 ∨ k = 4 then 99 else if k = 2 ∨ k = 8 then (n : Int) - 1 else if k = 11 then 9 else if k = 12 then 3 else -1
def mostB (k : Int) : Int :=
  if k = 0 ∨ k = 3 ∨ k = 5 ∨ k = 6 ∨ k = 7 ∨ k = 9 ∨ k = 10 then 0
  else if k = 1 ∨ k = 4 then 0 else if k = 2 then 99 else if k = 8 then 0 else if k = 11 then 1 else if k = 12 then 0 else -1
theorem num_same (xs : List Cls) (k a b : Int) : numS xs k a b = (rng 0 (mostA xs.length k) a && rng 0 (mostB k) b) := by
  rw [Bool.eq_iff_iff, Bool.and_eq_true, rng_iff, rng_iff]
  unfold numS mostA mostB
  by_cases h14 : k = 1 ∨ k = 4
  · rw [if_pos h14, if_neg (by omega), if_pos h14, if_neg (by omega), if_pos h14, Bool.and_eq_true, rng_iff, beq_iff_eq]; omega
  rw [if_neg h14]
  by_cases h2 : k = 2
  · rw [if_pos h2, if_neg (by omega), if_neg (by omega), if_pos (by omega), if_neg (by omega), if_neg (by omega), if_pos h2, Bool.and_eq_true, rng_iff, hasK_iff]; omega
  rw [if_neg h2]
  by_cases h8 : k = 8
  · rw [if_pos h8, if_neg (by omega), if_neg (by omega), if_pos (by omega), if_neg (by omega), if_neg (by omega), if_neg (by omega), if_pos h8, Bool.and_eq_true, hasK_iff, beq_iff_eq]; omega
  rw [if_neg h8]
  by_cases h11 : k = 11
  · rw [if_pos h11, if_neg (by omega), if_neg (by omega), if_neg (by omega), if_pos h11, if_neg (by omega), if_neg (by omega), if_neg (by omega), if_neg (by omega), if_pos h11, Bool.and_eq_true, rng_iff, rng_iff]
  rw [if_neg h11]
  by_cases h12 : k = 12
  · rw [if_pos h12, if_neg (by omega), if_neg (by omega), if_neg (by omega), if_neg (by omega), if_pos h12, if_neg (by omega), if_neg (by omega), if_neg (by omega), if_neg (by omega), if_neg (by omega), if_pos h12, Bool.and_eq_true, rng_iff, beq_iff_eq]; omega
  rw [if_neg h12, Bool.and_eq_true, Bool.and_eq_true, rng_iff, beq_iff_eq, beq_iff_eq]
  by_cases h0 : k = 0 ∨ k = 3 ∨ k = 5 ∨ k = 6 ∨ k = 7 ∨ k = 9 ∨ k = 10
  · rw [if_pos h0, if_pos h0]; omega
  · rw [if_neg h0, if_neg h0, if_neg (by omega), if_neg (by omega), if_neg (by omega), if_neg (by omega), if_neg (by omega), if_neg (by omega), if_neg (by omega), if_neg (by omega), if_neg (by omega)]; omega
/-! blocks and depths -/
def opn (k : Int) : Bool := rng 7 12 k
theorem opn_iff {k : Int} : opn k = true ↔ 7 ≤ k ∧ k ≤ 12 := rng_iff
/-- what the model asks of the depth of a line -/
def depS (p : List Lin) (i : Nat) : Prop := (0 ≤ dep p i ∧ dep p i ≤ 5) ∧ (i = 0 → dep p i = 0) ∧ (∀ j, i = j + 1 → dep p i ≤ dep p j + 1 ∧ (opn (knd p j) = true ↔ dep p i = dep p j + 1))
/-- what the program asks of it -/
def depI (p : List Lin) (i : Nat) : Prop := (i = 0 → dep p i = 0) ∧ (∀ j, i = j + 1 → (opn (knd p j) = true → dep p j < 5 ∧ dep p i = dep p j + 1) ∧ (opn (knd p j) = false → 0 ≤ dep p i ∧ dep p i ≤ dep p j))
theorem dep_same (p : List Lin) (n : Nat) : (∀ i, i < n → depS p i) ↔ (∀ i, i < n → depI p i) := by
  constructor
  · intro H i hi
    have a := H i hi
    refine ⟨a.2.1, fun j hj => ?_⟩
    have b := H j (by omega)
    have c := a.2.2 j hj
    refine ⟨fun ho => ?_, fun ho => ?_⟩
    · have := c.2.1 ho; have := a.1; omega
    · have h1 : ¬ dep p i = dep p j + 1 := fun e => by have := c.2.2 e; rw [ho] at this; cases this
      have := a.1; omega
  · intro H
    have key : ∀ m i, i < m → i < n → depS p i := by
      intro m
      induction m with
      | zero => intro i h; omega
      | succ m ih =>
        intro i him hi
        have a := H i hi
        cases i with
        | zero => have := a.1 rfl; exact ⟨by omega, fun _ => this, fun j hj => by omega⟩
        | succ j =>
          have b := ih j (by omega) (by omega)
          have c := a.2 j rfl
          have hb := b.1
          cases ho : opn (knd p j)
          · have d := c.2 ho
            refine ⟨by omega, fun h => by omega, fun j' hj' => ?_⟩
            obtain rfl : j' = j := by omega
            exact ⟨by omega, ⟨fun h => (by rw [ho] at h; cases h), fun h => by omega⟩⟩
          · have d := c.1 ho
            refine ⟨by omega, fun h => by omega, fun j' hj' => ?_⟩
            obtain rfl : j' = j := by omega
            exact ⟨by omega, ⟨fun _ => d.2, fun _ => ho⟩⟩
    exact fun i hi => key (i + 1) i (by omega) hi
/-! loops -/
/-- the model looks for a loop around: from k on down, below a depth -/
def inGo (p : List Lin) : Int → Nat → Bool
  | _, 0 => false
  | d, k + 1 => if dep p k < d then (if knd p k = 12 then true else inGo p (dep p k) k) else inGo p d k
def inL (p : List Lin) (i : Nat) : Bool := inGo p (dep p i) i
/-- the line in whose block a line is -/
def oGo (p : List Lin) (d : Int) : Nat → Option Nat
  | 0 => none
  | k + 1 => if dep p k < d then some k else oGo p d k
def outs (p : List Lin) (i : Nat) : Option Nat := oGo p (dep p i) i
theorem oGo_lt {p : List Lin} {d : Int} : ∀ {k j : Nat}, oGo p d k = some j → j < k
  | 0, _, h => by cases h
  | k + 1, j, h => by
    unfold oGo at h; split at h
    · injection h with h; omega
    · have := oGo_lt h; omega
/-- the program goes from line to line outside -/
def upGo (p : List Lin) : Nat → Option Nat → Bool
  | _, none => false
  | 0, some _ => false
  | m + 1, some j => if knd p j = 12 then true else upGo p m (outs p j)
theorem in_out (p : List Lin) (d : Int) : ∀ k, inGo p d k = match oGo p d k with | none => false | some j => if knd p j = 12 then true else inL p j
  | 0 => rfl
  | k + 1 => by
    unfold inGo oGo
    split
    · rfl
    · exact in_out p d k
theorem up_in (p : List Lin) : ∀ (m : Nat) (o : Option Nat), (∀ j, o = some j → j < m) → upGo p m o = match o with | none => false | some j => if knd p j = 12 then true else inL p j
  | 0, none, _ => rfl
  | 0, some j, h => by have := h j rfl; omega
  | m + 1, none, _ => rfl
  | m + 1, some j, h => by
    show (if knd p j = 12 then true else upGo p m (outs p j)) = if knd p j = 12 then true else inL p j
    by_cases e : knd p j = 12
    · rw [if_pos e, if_pos e]
    · rw [if_neg e, if_neg e, up_in p m (outs p j) (fun x hx => by have := oGo_lt hx; have := h j rfl; omega)]
      unfold inL
      rw [in_out]
      rfl
theorem inL_up (p : List Lin) (i : Nat) : inL p i = upGo p i (outs p i) := by
  rw [up_in p i (outs p i) (fun j hj => oGo_lt hj)]
  unfold inL
  rw [in_out]; rfl
/-! heads -/
/-- the line that a line goes on with -/
def hGo (p : List Lin) (d : Int) : Nat → Int
  | 0 => -1
  | k + 1 => if dep p k < d then -1 else if dep p k = d then (k : Int) else hGo p d k
def headOf (p : List Lin) (i : Nat) : Int := hGo p (dep p i) i
theorem hGo_is (p : List Lin) (d : Int) : ∀ k, (hGo p d k = -1 ∧ ¬ ∃ j, j < k ∧ dep p j = d ∧ ∀ m, j < m → m < k → d < dep p m) ∨ ∃ j : Nat, hGo p d k = (j : Int) ∧ j < k ∧ dep p j = d ∧ ∀ m, j < m → m < k → d < dep p m
  | 0 => .inl ⟨rfl, fun ⟨j, h, _⟩ => by omega⟩
  | k + 1 => by
    unfold hGo
    by_cases h1 : dep p k < d
    · rw [if_pos h1]
      refine .inl ⟨rfl, ?_⟩
      rintro ⟨j, hj, e, hb⟩
      by_cases ek : j = k
      · rw [ek] at e; omega
      · have := hb k (by omega) (by omega); omega
    · rw [if_neg h1]
      by_cases h2 : dep p k = d
      · rw [if_pos h2]
        exact .inr ⟨k, rfl, by omega, h2, fun m h3 h4 => by omega⟩
      · rw [if_neg h2]
        rcases hGo_is p d k with ⟨h, hn⟩ | ⟨j, h, hj, e, hb⟩
        · refine .inl ⟨h, ?_⟩
          rintro ⟨j, hj, e, hb⟩
          by_cases ek : j = k
          · rw [ek] at e; exact h2 e
          · exact hn ⟨j, by omega, e, fun m h3 h4 => hb m h3 (by omega)⟩
        · exact .inr ⟨j, h, by omega, e, fun m h3 h4 => by
            by_cases em : m = k
            · rw [em]; omega
            · exact hb m h3 (by omega)⟩
/-- what the model asks of a line that goes on with a try -/
def headOk (p : List Lin) (i : Nat) : Bool := decide (0 ≤ headOf p i) && (knd p (headOf p i).toNat == 7 || fol (knd p (headOf p i).toNat))
theorem headOk_iff {p : List Lin} {i : Nat} (hi : i < p.length) : headOk p i = true ↔ ∃ k, Sib p k i ∧ (knd p k = 7 ∨ fol (knd p k) = true) := by
  unfold headOk
  rcases hGo_is p (dep p i) i with ⟨h, hn⟩ | ⟨j, h, hj, e, hb⟩
  · have h' : headOf p i = -1 := h
    rw [h']
    constructor
    · intro h2; simp at h2
    · rintro ⟨k, sb, _⟩
      exact absurd ⟨k, sb.1, sb.2.2.1, sb.2.2.2⟩ hn
  · have h' : headOf p i = (j : Int) := h
    rw [h', Int.toNat_natCast, Bool.and_eq_true, Bool.or_eq_true, beq_iff_eq, decide_eq_true_eq]
    have sj : Sib p j i := ⟨hj, hi, e, hb⟩
    constructor
    · rintro ⟨_, h2⟩
      exact ⟨j, sj, h2⟩
    · rintro ⟨k, sb, h2⟩
      obtain rfl := sb.uniq sj
      exact ⟨by omega, h2⟩
/-! whole programs -/
/-- what the model asks of a line -/
def lineS (xs : List Cls) (p : List Lin) (i : Nat) (x : Lin) : Prop :=
  numS xs x.kind x.a x.b = true ∧ depS p i ∧ (i + 1 = p.length → opn x.kind = false) ∧ (x.kind = 7 → vChain p i = true) ∧ (x.kind = 5 ∨ x.kind = 6 → inL p i = true) ∧ (fol x.kind = true → headOk p i = true)
/-- what the program asks of it -/
def lineI (xs : List Cls) (p : List Lin) (i : Nat) (x : Lin) : Prop :=
  rng 0 (mostA xs.length x.kind) x.a = true ∧ rng 0 (mostB x.kind) x.b = true ∧ depI p i ∧ (x.kind = 5 ∨ x.kind = 6 → upGo p i (outs p i) = true)
theorem lines_same (xs : List Cls) (p : List Lin) : (∀ i (h : i < p.length), lineS xs p i p[i]) ↔ ((∀ i (h : i < p.length), lineI xs p i p[i]) ∧ (∀ h : 0 < p.length, opn (p[p.length - 1]'(by omega)).kind = false) ∧ triesI p) := by
  constructor
  · intro H
    refine ⟨fun i hi => ?_, fun h => (H _ (by omega)).2.2.1 (by omega), (tries_same p).1 fun i hi => ?_⟩
    · have a := H i hi
      have b := a.1
      rw [num_same, Bool.and_eq_true] at b
      exact ⟨b.1, b.2, (dep_same p p.length).1 (fun k hk => (H k hk).2.1) i hi, fun h => by rw [← inL_up]; exact a.2.2.2.2.1 h⟩
    · have a := H i hi
      rw [knd_at hi]
      exact ⟨a.2.2.2.1, fun h => (headOk_iff hi).1 (a.2.2.2.2.2 h)⟩
  · rintro ⟨H, hl, ht⟩ i hi
    have a := H i hi
    have t := (tries_same p).2 ht i hi
    rw [knd_at hi] at t
    refine ⟨?_, (dep_same p p.length).2 (fun k hk => (H k hk).2.2.1) i hi, fun e => ?_, t.1, fun h => by rw [inL_up]; exact a.2.2.2 h, fun h => (headOk_iff hi).2 (t.2 h)⟩
    · rw [num_same, Bool.and_eq_true]; exact ⟨a.1, a.2.1⟩
    · have := hl (by omega)
      have e2 : p.length - 1 = i := by omega
      simpa [e2] using this
end

section
def enGo (p : List Lin) : Int → Nat → List Nat
  | _, 0 => []
  | d, k + 1 => if dep p k < d then k :: enGo p (dep p k) k else enGo p d k
/-- the lines in whose blocks a line is, the innermost one first -/
def encl (p : List Lin) (i : Nat) : List Nat := enGo p (dep p i) i
def enO (p : List Lin) : Option Nat → List Nat
  | none => []
  | some j => j :: encl p j
theorem enGo_succ (p : List Lin) (d : Int) (k : Nat) : enGo p d (k + 1) = if dep p k < d then k :: enGo p (dep p k) k else enGo p d k := rfl
theorem en_out (p : List Lin) (d : Int) : ∀ k, enGo p d k = enO p (oGo p d k)
  | 0 => rfl
  | k + 1 => by
    unfold enGo oGo
    split
    · rfl
    · exact en_out p d k
theorem encl_out (p : List Lin) (i : Nat) : encl p i = enO p (outs p i) := en_out p _ i
theorem enGo_lt (p : List Lin) : ∀ k d, ∀ x ∈ enGo p d k, x < k
  | 0, _, x, h => by simp [enGo] at h
  | k + 1, d, x, h => by
    unfold enGo at h
    split at h
    · rcases List.mem_cons.1 h with rfl | h
      · omega
      · have := enGo_lt p k _ x h; omega
    · have := enGo_lt p k _ x h; omega
theorem encl_lt {p : List Lin} {i : Nat} : ∀ x ∈ encl p i, x < i := enGo_lt p i _
theorem enGo_len (p : List Lin) : ∀ k d, (enGo p d k).length ≤ k
  | 0, _ => Nat.le_refl _
  | k + 1, d => by
    unfold enGo
    split
    · have := enGo_len p k (dep p k); simp; omega
    · have := enGo_len p k d; omega
theorem encl_len (p : List Lin) (i : Nat) : (encl p i).length ≤ i := enGo_len p i _

/-! the try of a line -/
theorem head_sib {p : List Lin} {y x : Nat} (h : Sib p y x) : headOf p x = (y : Int) := by
  rcases hGo_is p (dep p x) x with ⟨h1, hn⟩ | ⟨j, h1, hj, e, hb⟩
  · exact absurd ⟨y, h.1, h.2.2.1, h.2.2.2⟩ hn
  · have sj : Sib p j x := ⟨hj, h.2.1, e, hb⟩
    have := h.uniq sj
    rw [this]; exact h1
theorem pt_back (p : List Lin) : ∀ (m k x : Nat), x ∈ ptGo p (dep p k) m k → ∃ y, Sib p y x ∧ mayF (knd p y) (knd p x) = true ∧ (y = k ∨ y ∈ ptGo p (dep p k) m k)
  | 0, _, _, h => by cases h
  | m + 1, k, x, h => by
    unfold ptGo at h ⊢
    split at h
    · next c =>
      rw [if_pos c]
      have sb := sib_of c.1 c.2.1
      rcases List.mem_cons.1 h with rfl | h
      · exact ⟨k, sb, c.2.2, .inl rfl⟩
      · rw [sb.2.2.1] at h ⊢
        obtain ⟨y, h1, h2, h3⟩ := pt_back p m _ x h
        exact ⟨y, h1, h2, .inr (by rcases h3 with rfl | h3; exact List.mem_cons_self ..; exact List.mem_cons_of_mem _ h3)⟩
    · cases h
/-- j is the try of i -/
def IsTry (p : List Lin) (j i : Nat) : Prop := knd p j = 7 ∧ i ∈ parts p j
theorem mayF_fol {a k : Int} (h : mayF a k = true) : fol k = true := fol_iff.2 (by have := mayF_iff.1 h; omega)
theorem try_step {p : List Lin} {j x : Nat} (h : IsTry p j x) : (knd p x = 7 ∧ x = j) ∨ (fol (knd p x) = true ∧ ∃ y : Nat, headOf p x = (y : Int) ∧ y < x ∧ x < p.length ∧ IsTry p j y) := by
  rcases List.mem_cons.1 h.2 with rfl | h2
  · exact .inl ⟨h.1, rfl⟩
  · obtain ⟨y, h3, h4, h5⟩ := pt_back p _ _ _ h2
    refine .inr ⟨mayF_fol h4, y, head_sib h3, h3.1, h3.2.1, h.1, ?_⟩
    rcases h5 with rfl | h5
    · exact List.mem_cons_self ..
    · exact List.mem_cons_of_mem _ h5
theorem try_le {p : List Lin} {j : Nat} : ∀ m x, x ≤ m → IsTry p j x → j ≤ x
  | m, x, hm, h => by
    rcases try_step h with ⟨_, rfl⟩ | ⟨_, y, _, hy, _, ht⟩
    · exact Nat.le_refl _
    · cases m with
      | zero => omega
      | succ m => have := try_le m y (by omega) ht; omega
theorem try_uniq {p : List Lin} {j k : Nat} : ∀ m x, x ≤ m → IsTry p j x → IsTry p k x → j = k
  | m, x, hm, h, h2 => by
    rcases try_step h with ⟨h7, rfl⟩ | ⟨hf, y, hy, hyx, _, ht⟩
    · rcases try_step h2 with ⟨_, rfl⟩ | ⟨hf, _⟩
      · rfl
      · have := fol_iff.1 hf; omega
    · rcases try_step h2 with ⟨h7, rfl⟩ | ⟨_, z, hz, _, _, ht2⟩
      · have := fol_iff.1 hf; omega
      · have e : y = z := by omega
        subst e
        cases m with
        | zero => omega
        | succ m => exact try_uniq m y (by omega) ht ht2
/-- the program looks for the try of a line from that on down -/
def tyGo (p : List Lin) (i : Nat) : Nat → Option Nat
  | 0 => none
  | j + 1 => if knd p j = 7 ∧ i ∈ parts p j then some j else tyGo p i j
def tryAt (p : List Lin) (i : Nat) : Option Nat := tyGo p i (i + 1)
theorem tyGo_is {p : List Lin} {i : Nat} : ∀ {k j : Nat}, tyGo p i k = some j → IsTry p j i ∧ j < k
  | 0, _, h => by cases h
  | k + 1, j, h => by
    unfold tyGo at h
    split at h
    · next c => injection h with h; subst h; exact ⟨c, by omega⟩
    · have := tyGo_is h; exact ⟨this.1, by omega⟩
theorem tyGo_none {p : List Lin} {i : Nat} : ∀ {k : Nat}, tyGo p i k = none → ∀ j, j < k → ¬ IsTry p j i
  | 0, _, j, h => by omega
  | k + 1, h, j, hj => by
    unfold tyGo at h
    split at h
    · cases h
    · next c =>
      by_cases e : j = k
      · rw [e]; exact c
      · exact tyGo_none h j (by omega)
theorem tryAt_is {p : List Lin} {i j : Nat} (h : tryAt p i = some j) : IsTry p j i := (tyGo_is h).1
theorem tryAt_of {p : List Lin} {i j : Nat} (h : IsTry p j i) : tryAt p i = some j := by
  cases e : tryAt p i with
  | none => exact absurd h (tyGo_none e j (by have := try_le i i (Nat.le_refl _) h; omega))
  | some k => rw [try_uniq i i (Nat.le_refl _) (tryAt_is e) h]
theorem tryAt_kind {p : List Lin} {i j : Nat} (h : tryAt p i = some j) : knd p i = 7 ∨ fol (knd p i) = true := by
  rcases try_step (tryAt_is h) with h | h
  · exact .inl h.1
  · exact .inr h.1
theorem tryAt_has {p : List Lin} (H : triesI p) {i : Nat} (hi : i < p.length) (hk : knd p i = 7 ∨ fol (knd p i) = true) : ∃ j, tryAt p i = some j := by
  rcases hk with h | h
  · exact ⟨i, tryAt_of ⟨h, List.mem_cons_self ..⟩⟩
  · obtain ⟨j, _, h7, hm⟩ := (H i hi).2 h
    exact ⟨j, tryAt_of ⟨h7, hm⟩⟩
theorem chain_parts {p : List Lin} (H : triesI p) {i : Nat} (hi : i < p.length) : chain p i = parts p i := by
  unfold chain parts; rw [full_of p H p.length i hi]
end
end

section
def lwPass : List UInt8 := [112, 97, 115, 115]
def lwLog : List UInt8 := [108, 111, 103]
def lwRaise : List UInt8 := [114, 97, 105, 115, 101]
def lwAgain : List UInt8 := [97, 103, 97, 105, 110]
def lwReturn : List UInt8 := [114, 101, 116, 117, 114, 110]
def lwBreak : List UInt8 := [98, 114, 101, 97, 107]
def lwContinue : List UInt8 := [99, 111, 110, 116, 105, 110, 117, 101]
def lwTry : List UInt8 := [116, 114, 121]
def lwExcept : List UInt8 := [101, 120, 99, 101, 112, 116]
def lwElse : List UInt8 := [101, 108, 115, 101]
def lwFinally : List UInt8 := [102, 105, 110, 97, 108, 108, 121]
def lwWith : List UInt8 := [119, 105, 116, 104]
def lwLoop : List UInt8 := [108, 111, 111, 112]
def lwQuiet : List UInt8 := [113, 117, 105, 101, 116]
/-- the words of lines, by their kinds -/
def lwL : List (List UInt8) := [lwPass, lwLog, lwRaise, lwAgain, lwReturn, lwBreak, lwContinue, lwTry, lwExcept, lwElse, lwFinally, lwWith, lwLoop]
/-- the word of a kind -/
def lwAt (k : Int) : List UInt8 := atW lwL k.toNat
/-- the kind of a word: the first of the list that it is -/
def lkF (w : List UInt8) : List (List UInt8) → Int → Int
  | [], _ => -1
  | a :: r, i => if w = a then i else lkF w r (i + 1)
def lkW (w : List UInt8) : Int := lkF w lwL 0
theorem lkW_at : ∀ k : Fin 13, lkW (lwAt k.1) = k.1 := by decide +kernel
theorem lw_no : ∀ k : Fin 13, (32 : UInt8) ∉ lwAt k.1 ∧ (10 : UInt8) ∉ lwAt k.1 ∧ (lwAt k.1).length ≤ 8 ∧ 1 ≤ (lwAt k.1).length := by decide +kernel
theorem quiet_no : (32 : UInt8) ∉ lwQuiet ∧ (10 : UInt8) ∉ lwQuiet := by decide
theorem lkF_rng (w : List UInt8) : ∀ (L : List (List UInt8)) (i : Int), 0 ≤ i → -1 ≤ lkF w L i ∧ lkF w L i < i + L.length ∧ (0 ≤ lkF w L i → i ≤ lkF w L i)
  | [], i, h => ⟨by show -1 ≤ (-1 : Int); omega, by show (-1 : Int) < _; simp; omega, fun h => absurd h (by show ¬ 0 ≤ (-1 : Int); omega)⟩
  | a :: r, i, h => by
    have ih := lkF_rng w r (i + 1) (by omega)
    rw [lkF]
    split
    · rw [List.length_cons]; exact ⟨by omega, by omega, fun _ => Int.le_refl _⟩
    · rw [List.length_cons]; exact ⟨ih.1, by omega, fun h => by have := ih.2.2 h; omega⟩
theorem lkW_rng (w : List UInt8) : -1 ≤ lkW w ∧ lkW w ≤ 12 := by
  have := lkF_rng w lwL 0 (by omega)
  have e : lwL.length = 13 := rfl
  unfold lkW
  rw [e] at this; omega
/-- the text of a line without its depth, with it -/
def lnT (xs : List Cls) (x : Lin) : List UInt8 :=
  if x.kind = 1 ∨ x.kind = 4 ∨ x.kind = 12 then lwAt x.kind ++ 32 :: numL x.a.toNat
  else if x.kind = 11 then (if x.b = 1 then lwAt x.kind ++ 32 :: (numL x.a.toNat ++ 32 :: lwQuiet) else lwAt x.kind ++ 32 :: numL x.a.toNat)
  else if x.kind = 2 then lwAt x.kind ++ 32 :: (clN xs x.a ++ 32 :: numL x.b.toNat)
  else if x.kind = 8 then lwAt x.kind ++ 32 :: clN xs x.a
  else lwAt x.kind
def liT (xs : List Cls) (x : Lin) : List UInt8 := List.replicate x.depth.toNat 32 ++ lnT xs x
/-- the spaces before a text -/
def spN : List UInt8 → Nat
  | [] => 0
  | c :: r => if c = 32 then 1 + spN r else 0
theorem spN_rep : ∀ (n : Nat) (c : UInt8) (r : List UInt8), c ≠ 32 → spN (List.replicate n 32 ++ c :: r) = n
  | 0, c, r, h => by show (if c = 32 then _ else 0) = 0; rw [if_neg h]
  | n + 1, c, r, h => by
    have ih := spN_rep n c r h
    rw [List.replicate_succ, List.cons_append, spN, if_pos rfl, ih]; omega
theorem spN_le : ∀ l : List UInt8, spN l ≤ l.length
  | [] => Nat.le_refl _
  | c :: r => by
    have := spN_le r
    rw [spN, List.length_cons]; split <;> omega
/-- the line of a text: the program's -/
def pLI (xs : List Cls) (l : List UInt8) : Lin :=
  let W := splitL 32 (l.drop (spN l))
  let k := lkW (atW W 0)
  if k = 1 ∨ k = 4 ∨ k = 12 then ⟨spN l, k, atI (atW W 1), 0⟩
  else if k = 11 then ⟨spN l, k, atI (atW W 1), if atW W 2 = lwQuiet then 1 else 0⟩
  else if k = 2 then ⟨spN l, k, findN xs (tb (atW W 1)) 0, atI (atW W 2)⟩
  else if k = 8 then ⟨spN l, k, findN xs (tb (atW W 1)) 0, 0⟩
  else ⟨spN l, k, 0, 0⟩
/-- the line of a text: the model's -/
def lnsA (xs : List Cls) (n : Nat) (k : Int) (w : List UInt8) : Int := if 1 < n ∧ (k = 2 ∨ k = 8) then findN xs (tb w) 0 else if 1 < n then rdN 100 w else 0
def lnsB (n : Nat) (k : Int) (w : List UInt8) : Int := if 2 < n ∧ k = 2 then rdN 100 w else if 2 < n then 1 else 0
def pLS (xs : List Cls) (l : List UInt8) : Lin :=
  let W := splitL 32 (l.drop (spN l))
  let k := lkW (atW W 0)
  ⟨spN l, k, lnsA xs W.length k (atW W 1), lnsB W.length k (atW W 2)⟩
theorem has_natL {xs : List Cls} {a : Int} (h : hasK xs a = true) : ∃ k : Nat, a = k ∧ k < xs.length := by
  obtain ⟨h1, h2⟩ := hasK_iff.1 h
  exact ⟨a.toNat, by omega, by omega⟩
theorem rng_iffL {a b x : Int} : rng a b x = true ↔ a ≤ x ∧ x ≤ b := by unfold rng; simp
theorem spl2 {a b : List UInt8} (ha : (32 : UInt8) ∉ a) (hb : (32 : UInt8) ∉ b) : splitL 32 (a ++ 32 :: b) = [a, b] := by rw [splitL_line ha, splitL_one hb]
theorem spl3 {a b c : List UInt8} (ha : (32 : UInt8) ∉ a) (hb : (32 : UInt8) ∉ b) (hc : (32 : UInt8) ∉ c) : splitL 32 (a ++ 32 :: (b ++ 32 :: c)) = [a, b, c] := by rw [splitL_line ha, splitL_line hb, splitL_one hc]
theorem lw_head {k : Fin 13} {r : List UInt8} : ∃ c t, lwAt k.1 ++ r = c :: t ∧ c ≠ 32 := by
  have h := lw_no k
  cases e : lwAt k.1 with
  | nil => rw [e] at h; exact absurd h.2.2.2 (by decide)
  | cons c t =>
    refine ⟨c, t ++ r, by rw [List.cons_append], fun e2 => h.1 ?_⟩
    rw [e, e2]; simp
/-- what a text of a line reads as: its spaces, the text behind them -/
theorem line_sp {n : Nat} {k : Fin 13} {r : List UInt8} : spN (List.replicate n 32 ++ (lwAt k.1 ++ r)) = n ∧ (List.replicate n 32 ++ (lwAt k.1 ++ r)).drop n = lwAt k.1 ++ r := by
  obtain ⟨c, t, e, h⟩ := lw_head (k := k) (r := r)
  rw [e]
  exact ⟨spN_rep n c t h, List.drop_left' (List.length_replicate ..)⟩
end

section
theorem clq_no {xs : List Cls} (g : Good xs) {k : Nat} (h : k < xs.length) {c : UInt8} (hc : c.toNat < 97) : c ∉ clN xs k := by
  rw [clN_at h]; exact not_mem_name (g.name k h) hc
theorem clq_find {xs : List Cls} (g : Good xs) {k : Nat} (h : k < xs.length) : findN xs (tb (clN xs k)) 0 = k := by
  rw [clN_at h, tb_bl]; exact findN_here g h
theorem clq_len {xs : List Cls} (g : Good xs) {k : Nat} (h : k < xs.length) : (clN xs k).length ≤ 6 := by
  rw [clN_at h]; exact (name_rng (g.name k h)).2.2
theorem nq32 {n : Nat} (h : n < 100) : (32 : UInt8) ∉ numL n := numL_not (by omega) (by decide)
theorem nq10 {n : Nat} (h : n < 100) : (10 : UInt8) ∉ numL n := numL_not (by omega) (by decide)
theorem nq_len {n : Nat} (h : n < 100) : (numL n).length ≤ 2 := numL_sz2 ⟨n, h⟩
/-- the ways of a valid line -/
theorem ln_cases {xs : List Cls} {d kd a b : Int} (h : numS xs kd a b = true) (h0 : 0 ≤ d) :
    ∃ D : Nat, d = D ∧ ((∃ n : Nat, n < 100 ∧ (kd = 1 ∨ kd = 4 ∨ kd = 12) ∧ a = n ∧ b = 0) ∨ (∃ n : Nat, n < 100 ∧ kd = 11 ∧ a = n ∧ (b = 0 ∨ b = 1)) ∨ (∃ k n : Nat, k < xs.length ∧ n < 100 ∧ kd = 2 ∧ a = k ∧ b = n) ∨ (∃ k : Nat, k < xs.length ∧ kd = 8 ∧ a = k ∧ b = 0) ∨ (0 ≤ kd ∧ kd ≤ 10 ∧ ¬ (kd = 1 ∨ kd = 4 ∨ kd = 12) ∧ kd ≠ 11 ∧ kd ≠ 2 ∧ kd ≠ 8 ∧ a = 0 ∧ b = 0)) := by
  refine ⟨d.toNat, by omega, ?_⟩
  unfold numS at h
  split at h
  · rename_i hk
    rw [Bool.and_eq_true, rng_iffL, beq_iff_eq] at h
    exact .inl ⟨a.toNat, by omega, by omega, by omega, h.2⟩
  split at h
  · rename_i hk
    rw [Bool.and_eq_true, rng_iffL] at h
    obtain ⟨k, e, hk2⟩ := has_natL h.1
    exact .inr (.inr (.inl ⟨k, b.toNat, hk2, by omega, hk, e, by omega⟩))
  split at h
  · rename_i hk
    rw [Bool.and_eq_true, beq_iff_eq] at h
    obtain ⟨k, e, hk2⟩ := has_natL h.1
    exact .inr (.inr (.inr (.inl ⟨k, hk2, hk, e, h.2⟩)))
  split at h
  · rename_i hk
    rw [Bool.and_eq_true, rng_iffL, rng_iffL] at h
    exact .inr (.inl ⟨a.toNat, by omega, hk, by omega, by omega⟩)
  split at h
  · rename_i hk
    rw [Bool.and_eq_true, rng_iffL, beq_iff_eq] at h
    exact .inl ⟨a.toNat, by omega, by omega, by omega, h.2⟩
  · rename_i h1 h2 h3 h4 h5
    rw [Bool.and_eq_true, Bool.and_eq_true, rng_iffL, beq_iff_eq, beq_iff_eq] at h
    exact .inr (.inr (.inr (.inr ⟨h.1.1.1, h.1.1.2, by omega, h4, h2, h3, h.1.2, h.2⟩)))
/-- reading a text of one word, two, three words behind D spaces -/
theorem rd1 {D : Nat} {k : Fin 13} : spN (List.replicate D 32 ++ lwAt k.1) = D ∧ splitL 32 ((List.replicate D 32 ++ lwAt k.1).drop D) = [lwAt k.1] := by
  have h := line_sp (n := D) (k := k) (r := [])
  rw [List.append_nil] at h
  exact ⟨h.1, by rw [h.2, splitL_one (lw_no k).1]⟩
theorem rd2 {D : Nat} {k : Fin 13} {u : List UInt8} (hu : (32 : UInt8) ∉ u) : spN (List.replicate D 32 ++ (lwAt k.1 ++ 32 :: u)) = D ∧ splitL 32 ((List.replicate D 32 ++ (lwAt k.1 ++ 32 :: u)).drop D) = [lwAt k.1, u] := by
  have h := line_sp (n := D) (k := k) (r := 32 :: u)
  exact ⟨h.1, by rw [h.2, spl2 (lw_no k).1 hu]⟩
theorem rd3 {D : Nat} {k : Fin 13} {u v : List UInt8} (hu : (32 : UInt8) ∉ u) (hv : (32 : UInt8) ∉ v) : spN (List.replicate D 32 ++ (lwAt k.1 ++ 32 :: (u ++ 32 :: v))) = D ∧ splitL 32 ((List.replicate D 32 ++ (lwAt k.1 ++ 32 :: (u ++ 32 :: v))).drop D) = [lwAt k.1, u, v] := by
  have h := line_sp (n := D) (k := k) (r := 32 :: (u ++ 32 :: v))
  exact ⟨h.1, by rw [h.2, spl3 (lw_no k).1 hu hv]⟩
theorem no10_2 {D : Nat} {k : Fin 13} {u : List UInt8} (hu : (10 : UInt8) ∉ u) : (10 : UInt8) ∉ List.replicate D 32 ++ (lwAt k.1 ++ 32 :: u) := fun hm => by
  rcases List.mem_append.1 hm with h | h
  · exact absurd (List.eq_of_mem_replicate h) (by decide)
  rcases List.mem_append.1 h with h | h
  · exact (lw_no k).2.1 h
  rcases List.mem_cons.1 h with h | h
  · exact absurd h (by decide)
  · exact hu h
theorem no10_app {u v : List UInt8} (hu : (10 : UInt8) ∉ u) (hv : (10 : UInt8) ∉ v) : (10 : UInt8) ∉ u ++ 32 :: v := fun hm => by
  rcases List.mem_append.1 hm with h | h
  · exact hu h
  rcases List.mem_cons.1 h with h | h
  · exact absurd h (by decide)
  · exact hv h
theorem no10_1 {D : Nat} {k : Fin 13} : (10 : UInt8) ∉ List.replicate D 32 ++ lwAt k.1 := fun hm => by
  rcases List.mem_append.1 hm with h | h
  · exact absurd (List.eq_of_mem_replicate h) (by decide)
  · exact (lw_no k).2.1 h
theorem line_read {xs : List Cls} (g : Good xs) {x : Lin} (h : numS xs x.kind x.a x.b = true) (h0 : 0 ≤ x.depth) (h5 : x.depth ≤ 5) :
    pLI xs (liT xs x) = x ∧ pLS xs (liT xs x) = x ∧ (10 : UInt8) ∉ liT xs x ∧ (liT xs x).length ≤ 30 := by
  obtain ⟨d, kd, a, b⟩ := x
  dsimp only at h h0 h5
  obtain ⟨D, rfl, hc⟩ := ln_cases (xs := xs) h h0
  have eD : ((D : Int)).toNat = D := by omega
  have hD : (List.replicate D (32 : UInt8)).length ≤ 5 := by rw [List.length_replicate]; omega
  rcases hc with ⟨n, hn, hk, rfl, rfl⟩ | ⟨n, hn, rfl, rfl, hb⟩ | ⟨k, n, hk, hn, rfl, rfl, rfl⟩ | ⟨k, hk, rfl, rfl, rfl⟩ | ⟨k0, k10, n1, n2, n3, n4, rfl, rfl⟩
  · obtain ⟨q, rfl⟩ : ∃ q : Fin 13, kd = (q.1 : Int) := ⟨⟨kd.toNat, by omega⟩, by show kd = ((kd.toNat : Nat) : Int); omega⟩
    have e : liT xs ⟨D, q.1, n, 0⟩ = List.replicate D 32 ++ (lwAt q.1 ++ 32 :: numL n) := by
      unfold liT lnT; dsimp only; rw [if_pos hk, eD]; congr 3
    obtain ⟨r1, r2⟩ := rd2 (D := D) (k := q) (nq32 hn)
    have hw := lkW_at q
    have hl := lw_no q
    have hnl := nq_len hn
    rw [e]
    refine ⟨?_, ?_, no10_2 (nq10 hn), by rw [List.length_append, List.length_append, List.length_cons]; omega⟩
    · unfold pLI; rw [r1, r2]; dsimp only
      show (if lkW (lwAt q.1) = 1 ∨ lkW (lwAt q.1) = 4 ∨ lkW (lwAt q.1) = 12 then (⟨D, lkW (lwAt q.1), atI (numL n), 0⟩ : Lin) else _) = _
      rw [hw, if_pos hk, atI_num (by omega)]
    · unfold pLS; rw [r1, r2]; dsimp only
      show (⟨D, lkW (lwAt q.1), lnsA xs 2 (lkW (lwAt q.1)) (numL n), lnsB 2 (lkW (lwAt q.1)) ([])⟩ : Lin) = _
      rw [hw]; unfold lnsA lnsB; rw [if_neg (by omega), if_pos (by omega), if_neg (by omega), if_neg (by omega), rdN_num hn (by omega)]
  · have hl := lw_no 11
    have hnl := nq_len hn
    rcases hb with rfl | rfl
    · have e : liT xs ⟨D, 11, n, 0⟩ = List.replicate D 32 ++ (lwAt (11 : Fin 13).1 ++ 32 :: numL n) := by
        unfold liT lnT; dsimp only; rw [if_neg (by omega), if_pos rfl, if_neg (by omega), eD]; congr 3
      obtain ⟨r1, r2⟩ := rd2 (D := D) (k := 11) (nq32 hn)
      have hw : lkW (lwAt (11 : Fin 13).1) = 11 := lkW_at 11
      rw [e]
      refine ⟨?_, ?_, no10_2 (nq10 hn), by rw [List.length_append, List.length_append, List.length_cons]; omega⟩
      · unfold pLI; rw [r1, r2]; dsimp only
        show (if lkW (lwAt (11 : Fin 13).1) = 1 ∨ lkW (lwAt (11 : Fin 13).1) = 4 ∨ lkW (lwAt (11 : Fin 13).1) = 12 then _ else if lkW (lwAt (11 : Fin 13).1) = 11 then (⟨D, lkW (lwAt (11 : Fin 13).1), atI (numL n), if [] = lwQuiet then 1 else 0⟩ : Lin) else _) = _
        rw [hw, if_neg (by omega), if_pos rfl, if_neg (by decide), atI_num (by omega)]
      · unfold pLS; rw [r1, r2]; dsimp only
        show (⟨D, lkW (lwAt (11 : Fin 13).1), lnsA xs 2 (lkW (lwAt (11 : Fin 13).1)) (numL n), lnsB 2 (lkW (lwAt (11 : Fin 13).1)) ([])⟩ : Lin) = _
        rw [hw]; unfold lnsA lnsB; rw [if_neg (by omega), if_pos (by omega), if_neg (by omega), if_neg (by omega), rdN_num hn (by omega)]
    · have e : liT xs ⟨D, 11, n, 1⟩ = List.replicate D 32 ++ (lwAt (11 : Fin 13).1 ++ 32 :: (numL n ++ 32 :: lwQuiet)) := by
        unfold liT lnT; dsimp only; rw [if_neg (by omega), if_pos rfl, if_pos rfl, eD]; congr 4
      obtain ⟨r1, r2⟩ := rd3 (D := D) (k := 11) (nq32 hn) quiet_no.1
      have hw : lkW (lwAt (11 : Fin 13).1) = 11 := lkW_at 11
      have hq : lwQuiet.length = 5 := rfl
      rw [e]
      refine ⟨?_, ?_, no10_2 (no10_app (nq10 hn) quiet_no.2), by rw [List.length_append, List.length_append, List.length_cons, List.length_append, List.length_cons]; omega⟩
      · unfold pLI; rw [r1, r2]; dsimp only
        show (if lkW (lwAt (11 : Fin 13).1) = 1 ∨ lkW (lwAt (11 : Fin 13).1) = 4 ∨ lkW (lwAt (11 : Fin 13).1) = 12 then _ else if lkW (lwAt (11 : Fin 13).1) = 11 then (⟨D, lkW (lwAt (11 : Fin 13).1), atI (numL n), if lwQuiet = lwQuiet then 1 else 0⟩ : Lin) else _) = _
        rw [hw, if_neg (by omega), if_pos rfl, if_pos rfl, atI_num (by omega)]
      · unfold pLS; rw [r1, r2]; dsimp only
        show (⟨D, lkW (lwAt (11 : Fin 13).1), lnsA xs 3 (lkW (lwAt (11 : Fin 13).1)) (numL n), lnsB 3 (lkW (lwAt (11 : Fin 13).1)) (lwQuiet)⟩ : Lin) = _
        rw [hw]; unfold lnsA lnsB; rw [if_neg (by omega), if_pos (by omega), if_neg (by omega), if_pos (by omega), rdN_num hn (by omega)]
  · have e : liT xs ⟨D, 2, k, n⟩ = List.replicate D 32 ++ (lwAt (2 : Fin 13).1 ++ 32 :: (clN xs k ++ 32 :: numL n)) := by
      unfold liT lnT; dsimp only; rw [if_neg (by omega), if_neg (by omega), if_pos rfl, eD]; congr 5
    obtain ⟨r1, r2⟩ := rd3 (D := D) (k := 2) (clq_no g hk (c := 32) (by decide)) (nq32 hn)
    have hw : lkW (lwAt (2 : Fin 13).1) = 2 := lkW_at 2
    have hl := lw_no 2
    have hnl := nq_len hn
    have hcl := clq_len g hk
    rw [e]
    refine ⟨?_, ?_, no10_2 (no10_app (clq_no g hk (by decide)) (nq10 hn)), by rw [List.length_append, List.length_append, List.length_cons, List.length_append, List.length_cons]; omega⟩
    · unfold pLI; rw [r1, r2]; dsimp only
      show (if lkW (lwAt (2 : Fin 13).1) = 1 ∨ lkW (lwAt (2 : Fin 13).1) = 4 ∨ lkW (lwAt (2 : Fin 13).1) = 12 then _ else if lkW (lwAt (2 : Fin 13).1) = 11 then _ else if lkW (lwAt (2 : Fin 13).1) = 2 then (⟨D, lkW (lwAt (2 : Fin 13).1), findN xs (tb (clN xs k)) 0, atI (numL n)⟩ : Lin) else _) = _
      rw [hw, if_neg (by omega), if_neg (by omega), if_pos rfl, clq_find g hk, atI_num (by omega)]
    · unfold pLS; rw [r1, r2]; dsimp only
      show (⟨D, lkW (lwAt (2 : Fin 13).1), lnsA xs 3 (lkW (lwAt (2 : Fin 13).1)) (clN xs k), lnsB 3 (lkW (lwAt (2 : Fin 13).1)) (numL n)⟩ : Lin) = _
      rw [hw]; unfold lnsA lnsB; rw [if_pos (by omega), if_pos (by omega), clq_find g hk, rdN_num hn (by omega)]
  · have e : liT xs ⟨D, 8, k, 0⟩ = List.replicate D 32 ++ (lwAt (8 : Fin 13).1 ++ 32 :: clN xs k) := by
      unfold liT lnT; dsimp only; rw [if_neg (by omega), if_neg (by omega), if_neg (by omega), if_pos rfl, eD]; rfl
    obtain ⟨r1, r2⟩ := rd2 (D := D) (k := 8) (clq_no g hk (c := 32) (by decide))
    have hw : lkW (lwAt (8 : Fin 13).1) = 8 := lkW_at 8
    have hl := lw_no 8
    have hcl := clq_len g hk
    rw [e]
    refine ⟨?_, ?_, no10_2 (clq_no g hk (by decide)), by rw [List.length_append, List.length_append, List.length_cons]; omega⟩
    · unfold pLI; rw [r1, r2]; dsimp only
      show (if lkW (lwAt (8 : Fin 13).1) = 1 ∨ lkW (lwAt (8 : Fin 13).1) = 4 ∨ lkW (lwAt (8 : Fin 13).1) = 12 then _ else if lkW (lwAt (8 : Fin 13).1) = 11 then _ else if lkW (lwAt (8 : Fin 13).1) = 2 then _ else if lkW (lwAt (8 : Fin 13).1) = 8 then (⟨D, lkW (lwAt (8 : Fin 13).1), findN xs (tb (clN xs k)) 0, 0⟩ : Lin) else _) = _
      rw [hw, if_neg (by omega), if_neg (by omega), if_neg (by omega), if_pos rfl, clq_find g hk]
    · unfold pLS; rw [r1, r2]; dsimp only
      show (⟨D, lkW (lwAt (8 : Fin 13).1), lnsA xs 2 (lkW (lwAt (8 : Fin 13).1)) (clN xs k), lnsB 2 (lkW (lwAt (8 : Fin 13).1)) ([])⟩ : Lin) = _
      rw [hw]; unfold lnsA lnsB; rw [if_pos (by omega), if_neg (by omega), if_neg (by omega), clq_find g hk]
  · obtain ⟨q, rfl⟩ : ∃ q : Fin 13, kd = (q.1 : Int) := ⟨⟨kd.toNat, by omega⟩, by show kd = ((kd.toNat : Nat) : Int); omega⟩
    have e : liT xs ⟨D, q.1, 0, 0⟩ = List.replicate D 32 ++ lwAt q.1 := by
      unfold liT lnT; dsimp only; rw [if_neg n1, if_neg n2, if_neg n3, if_neg n4, eD]
    obtain ⟨r1, r2⟩ := rd1 (D := D) (k := q)
    have hw := lkW_at q
    have hl := lw_no q
    rw [e]
    refine ⟨?_, ?_, no10_1, by rw [List.length_append]; omega⟩
    · unfold pLI; rw [r1, r2]; dsimp only
      show (if lkW (lwAt q.1) = 1 ∨ lkW (lwAt q.1) = 4 ∨ lkW (lwAt q.1) = 12 then _ else if lkW (lwAt q.1) = 11 then _ else if lkW (lwAt q.1) = 2 then _ else if lkW (lwAt q.1) = 8 then _ else (⟨D, lkW (lwAt q.1), 0, 0⟩ : Lin)) = _
      rw [hw, if_neg n1, if_neg n2, if_neg n3, if_neg n4]
    · unfold pLS; rw [r1, r2]; dsimp only
      show (⟨D, lkW (lwAt q.1), lnsA xs 1 (lkW (lwAt q.1)) ([]), lnsB 1 (lkW (lwAt q.1)) ([])⟩ : Lin) = _
      rw [hw]; unfold lnsA lnsB; rw [if_neg (by omega), if_neg (by omega), if_neg (by omega), if_neg (by omega)]
end
end Go.Proofs.YtkcnjoikdalgjaaDoor
