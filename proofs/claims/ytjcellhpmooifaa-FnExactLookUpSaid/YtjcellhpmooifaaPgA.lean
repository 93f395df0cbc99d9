/- Plain: programs: the tries that the model asks for are the tries that the program asks for -/
import Derived.Test.YtjcellhpmooifaaTyLine
namespace Go.Proofs.Ytjcellhpmooifaa
open Go.RowKit

def dep (p : List Lin) (i : Nat) : Int := match p[i]? with | some x => x.depth | none => 0
def knd (p : List Lin) (i : Nat) : Int := match p[i]? with | some x => x.kind | none => 0
theorem dep_at {p : List Lin} {i : Nat} (h : i < p.length) : dep p i = p[i].depth := by unfold dep; rw [List.getElem?_eq_getElem h]
theorem knd_at {p : List Lin} {i : Nat} (h : i < p.length) : knd p i = p[i].kind := by unfold knd; rw [List.getElem?_eq_getElem h]
/-- the line behind the block of a line -/
def bGo (p : List Lin) (d : Int) : Nat → Nat → Nat
  | 0, k => k
  | m + 1, k => if d < dep p k then bGo p d m (k + 1) else k
def bEnd (p : List Lin) (i : Nat) : Nat := bGo p (dep p i) (p.length - (i + 1)) (i + 1)
theorem bGo_ge (p : List Lin) (d : Int) : ∀ (m k : Nat), k ≤ bGo p d m k
  | 0, k => Nat.le_refl _
  | m + 1, k => by
    unfold bGo; split
    · exact Nat.le_trans (Nat.le_succ k) (bGo_ge p d m (k + 1))
    · exact Nat.le_refl _
theorem bGo_le (p : List Lin) (d : Int) : ∀ (m k : Nat), bGo p d m k ≤ k + m
  | 0, k => Nat.le_refl _
  | m + 1, k => by
    unfold bGo; split
    · have := bGo_le p d m (k + 1); omega
    · omega
theorem bGo_in (p : List Lin) (d : Int) : ∀ (m k x : Nat), k ≤ x → x < bGo p d m k → d < dep p x
  | 0, k, x, h1, h2 => by unfold bGo at h2; omega
  | m + 1, k, x, h1, h2 => by
    unfold bGo at h2
    split at h2
    · next h =>
      by_cases e : x = k
      · rw [e]; exact h
      · exact bGo_in p d m (k + 1) x (by omega) h2
    · omega
theorem bGo_stop (p : List Lin) (d : Int) : ∀ (m k : Nat), bGo p d m k < k + m → ¬ d < dep p (bGo p d m k)
  | 0, k, h => by unfold bGo at h; omega
  | m + 1, k, h => by
    unfold bGo at h ⊢
    split
    · next h1 => rw [if_pos h1] at h; exact bGo_stop p d m (k + 1) (by omega)
    · next h1 => exact h1
theorem bEnd_gt (p : List Lin) (i : Nat) : i < bEnd p i := bGo_ge p _ _ (i + 1)
theorem bEnd_le {p : List Lin} {i : Nat} (h : i < p.length) : bEnd p i ≤ p.length := by
  have := bGo_le p (dep p i) (p.length - (i + 1)) (i + 1)
  unfold bEnd; omega
theorem bEnd_in {p : List Lin} {i x : Nat} (h1 : i < x) (h2 : x < bEnd p i) : dep p i < dep p x := bGo_in p _ _ _ x h1 h2
theorem bEnd_stop {p : List Lin} {i : Nat} (hi : i < p.length) (h : bEnd p i < p.length) : dep p (bEnd p i) ≤ dep p i := by
  have := bGo_stop p (dep p i) (p.length - (i + 1)) (i + 1) (by unfold bEnd at h; omega)
  unfold bEnd; omega
/-- k is the line ahead of i that is as deep, with only deeper ones between -/
def Sib (p : List Lin) (k i : Nat) : Prop := k < i ∧ i < p.length ∧ dep p k = dep p i ∧ ∀ m, k < m → m < i → dep p i < dep p m
theorem sib_of {p : List Lin} {k : Nat} (h : bEnd p k < p.length) (he : dep p (bEnd p k) = dep p k) : Sib p k (bEnd p k) :=
  ⟨bEnd_gt p k, h, he.symm, fun m h1 h2 => by rw [he]; exact bEnd_in h1 h2⟩
theorem Sib.out {p : List Lin} {k i : Nat} (h : Sib p k i) : bEnd p k = i := by
  obtain ⟨h1, h2, h3, h4⟩ := h
  rcases Nat.lt_trichotomy (bEnd p k) i with h5 | h5 | h5
  · have a := bEnd_stop (by omega) (Nat.lt_trans h5 h2)
    have b := h4 _ (bEnd_gt p k) h5
    omega
  · exact h5
  · have := bEnd_in h1 h5
    omega
theorem Sib.uniq {p : List Lin} {k j i : Nat} (h : Sib p k i) (h2 : Sib p j i) : k = j := by
  rcases Nat.lt_trichotomy k j with h5 | h5 | h5
  · have := h.2.2.2 j h5 h2.1; have := h2.2.2.1; omega
  · exact h5
  · have := h2.2.2.2 k h5 h.1; have := h.2.2.1; omega
/-- the line behind the block of a line if that is as deep; the number of lines if there is none -/
def sNext (p : List Lin) (i : Nat) : Nat := if bEnd p i < p.length ∧ dep p (bEnd p i) = dep p i then bEnd p i else p.length
theorem sNext_gt {p : List Lin} {i : Nat} (h : i < p.length) : i < sNext p i := by
  unfold sNext; split
  · exact bEnd_gt p i
  · exact h
theorem sNext_sib {p : List Lin} {i : Nat} (h : sNext p i < p.length) : Sib p i (sNext p i) := by
  unfold sNext at h ⊢
  split
  · next e => exact sib_of e.1 e.2
  · next e => rw [if_neg e] at h; omega
theorem Sib.next {p : List Lin} {k i : Nat} (h : Sib p k i) : sNext p k = i := by
  have e := h.out
  unfold sNext
  rw [e, if_pos ⟨h.2.1, h.2.2.1.symm⟩]
/-- a kind that goes on with a try -/
def fol (k : Int) : Bool := decide (8 ≤ k) && decide (k ≤ 10)
theorem fol_iff {k : Int} : fol k = true ↔ 8 ≤ k ∧ k ≤ 10 := by unfold fol; simp
def chGo (p : List Lin) : Nat → Nat → List Nat
  | 0, _ => []
  | m + 1, k => if k < p.length ∧ fol (knd p k) = true then k :: chGo p m (sNext p k) else []
/-- the lines of a try as the model reads them -/
def chain (p : List Lin) (i : Nat) : List Nat := i :: chGo p p.length (sNext p i)
/-- what may come behind which line of a try -/
def mayF (a k : Int) : Bool := (decide (k = 8) && (decide (a = 7) || decide (a = 8))) || (decide (k = 9) && decide (a = 8)) || (decide (k = 10) && (decide (a = 7) || decide (a = 8) || decide (a = 9)))
theorem mayF_iff {a k : Int} : mayF a k = true ↔ (k = 8 ∧ (a = 7 ∨ a = 8)) ∨ (k = 9 ∧ a = 8) ∨ (k = 10 ∧ (a = 7 ∨ a = 8 ∨ a = 9)) := by
  unfold mayF; simp [or_assoc]
def ptGo (p : List Lin) (d : Int) : Nat → Nat → List Nat
  | 0, _ => []
  | m + 1, k => if bEnd p k < p.length ∧ dep p (bEnd p k) = d ∧ mayF (knd p k) (knd p (bEnd p k)) = true then bEnd p k :: ptGo p d m (bEnd p k) else []
/-- the lines of a try as the program reads them -/
def parts (p : List Lin) (i : Nat) : List Nat := i :: ptGo p (dep p i) p.length i
/-- how many LnExcept a list has -/
def exs (p : List Lin) (L : List Nat) : Nat := L.countP fun k => knd p k == 8
def vcGo (p : List Lin) : Bool → Int → Nat → List Nat → Option Nat
  | _, _, ex, [] => some ex
  | first, prev, ex, k :: r =>
    if (first = false ∧ (knd p k < prev ∨ (knd p k = prev ∧ knd p k ≠ 8))) ∨ (knd p k = 9 ∧ (if knd p k = 8 then ex + 1 else ex) = 0) then none
    else vcGo p false (knd p k) (if knd p k = 8 then ex + 1 else ex) r
/-- whether the lines of a try come in order, as the model asks -/
def vChain (p : List Lin) (i : Nat) : Bool := match vcGo p true 0 0 (chain p i).tail with | none => false | some ex => decide (1 < (chain p i).length) && decide (ex ≤ 6)
/-- what the walk over a try knows of the line that it has passed last -/
def StV (first : Bool) (prev : Int) (ex : Nat) (k : Int) : Prop := (first = true ∧ k = 7 ∧ ex = 0) ∨ (first = false ∧ prev = k ∧ 8 ≤ k ∧ k ≤ 10 ∧ (k ≤ 9 → 0 < ex))
def exN (n : Int) (ex : Nat) : Nat := if n = 8 then ex + 1 else ex
theorem exN_8 {n : Int} (h : n = 8) (ex : Nat) : exN n ex = ex + 1 := if_pos h
theorem exN_no {n : Int} (h : n ≠ 8) (ex : Nat) : exN n ex = ex := if_neg h
def badV (first : Bool) (prev : Int) (ex : Nat) (n : Int) : Prop := (first = false ∧ (n < prev ∨ (n = prev ∧ n ≠ 8))) ∨ (n = 9 ∧ exN n ex = 0)
theorem StV.step {first : Bool} {prev : Int} {ex : Nat} {k n : Int} (h : StV first prev ex k) (hn : 8 ≤ n ∧ n ≤ 10) (hv : ¬ badV first prev ex n) : mayF k n = true ∧ StV false n (exN n ex) n := by
  have hv1 : first = false → ¬ (n < prev ∨ (n = prev ∧ n ≠ 8)) := fun h1 h2 => hv (.inl ⟨h1, h2⟩)
  have hv2 : n = 9 → exN n ex ≠ 0 := fun h1 h2 => hv (.inr ⟨h1, h2⟩)
  have h8 := exN_8 (n := n)
  have h9 := exN_no (n := n)
  have hex : n = 8 → 0 < exN n ex := fun e => by rw [exN_8 e]; omega
  have hex9 : n = 9 → exN n ex = ex := fun e => exN_no (by omega) ex
  clear h8 h9 hv
  rcases h with ⟨rfl, rfl, rfl⟩ | ⟨rfl, rfl, h1, h2, h3⟩
  · have hn9 : n ≠ 9 := fun e => hv2 e (hex9 e)
    exact ⟨mayF_iff.2 (by omega), .inr ⟨rfl, rfl, hn.1, hn.2, fun _ => hex (by omega)⟩⟩
  · have hv3 := hv1 rfl
    refine ⟨mayF_iff.2 (by omega), .inr ⟨rfl, rfl, hn.1, hn.2, fun h4 => ?_⟩⟩
    by_cases e : n = 8
    · exact hex e
    · have e9 : n = 9 := by omega
      have := hex9 e9
      have := hv2 e9
      omega
theorem StV.back {first : Bool} {prev : Int} {ex : Nat} {k n : Int} (h : StV first prev ex k) (hm : mayF k n = true) : ¬ badV first prev ex n ∧ StV false n (exN n ex) n := by
  have hm' := mayF_iff.1 hm
  have hex : n = 8 → 0 < exN n ex := fun e => by rw [exN_8 e]; omega
  have hex9 : n = 9 → exN n ex = ex := fun e => exN_no (by omega) ex
  rcases h with ⟨rfl, rfl, rfl⟩ | ⟨rfl, rfl, h1, h2, h3⟩
  · refine ⟨?_, .inr ⟨rfl, rfl, by omega, by omega, fun _ => hex (by omega)⟩⟩
    rintro (⟨h, _⟩ | ⟨h, _⟩)
    · cases h
    · omega
  · refine ⟨?_, .inr ⟨rfl, rfl, by omega, by omega, fun h4 => ?_⟩⟩
    · rintro (⟨_, h⟩ | ⟨h, h4⟩)
      · omega
      · have := hex9 h
        have := h3 (by omega)
        omega
    · by_cases e : n = 8
      · exact hex e
      · have e9 : n = 9 := by omega
        have := hex9 e9
        have := h3 (by omega)
        omega
theorem vc_cons (p : List Lin) (first : Bool) (prev : Int) (ex : Nat) (k : Nat) (r : List Nat) [Decidable (badV first prev ex (knd p k))] : vcGo p first prev ex (k :: r) = if badV first prev ex (knd p k) then none else vcGo p false (knd p k) (exN (knd p k) ex) r := by
  show (if _ then none else _) = _
  by_cases h : badV first prev ex (knd p k)
  · rw [if_pos h]; exact if_pos h
  · rw [if_neg h]; exact if_neg h
theorem vc_bad {p : List Lin} {first : Bool} {prev : Int} {ex k : Nat} {r : List Nat} (h : badV first prev ex (knd p k)) : vcGo p first prev ex (k :: r) = none := if_pos h
theorem vc_ok {p : List Lin} {first : Bool} {prev : Int} {ex k : Nat} {r : List Nat} (h : ¬ badV first prev ex (knd p k)) : vcGo p first prev ex (k :: r) = vcGo p false (knd p k) (exN (knd p k) ex) r := if_neg h
theorem exs_cons (p : List Lin) (k : Nat) (r : List Nat) (ex : Nat) : exN (knd p k) ex + exs p r = ex + exs p (k :: r) := by
  unfold exs
  rw [List.countP_cons]
  by_cases h : knd p k = 8
  · rw [exN_8 h, h]; simp; omega
  · rw [exN_no h]
    have : (knd p k == 8) = false := by simpa using h
    rw [this]; simp
theorem pt_of_vc (p : List Lin) : ∀ (m k : Nat) (first : Bool) (prev : Int) (ex : Nat), k < p.length → StV first prev ex (knd p k) → vcGo p first prev ex (chGo p m (sNext p k)) ≠ none → ptGo p (dep p k) m k = chGo p m (sNext p k)
  | 0, _, _, _, _, _, _, _ => rfl
  | m + 1, k, first, prev, ex, hk, hs, hv => by
    by_cases hl : sNext p k < p.length
    · have sb := sNext_sib hl
      by_cases hf : fol (knd p (sNext p k)) = true
      · have hc : sNext p k < p.length ∧ fol (knd p (sNext p k)) = true := ⟨hl, hf⟩
        unfold chGo at hv ⊢
        unfold ptGo
        rw [if_pos hc] at hv
        have hb : ¬ badV first prev ex (knd p (sNext p k)) := fun hb => hv (vc_bad hb)
        rw [vc_ok hb] at hv
        obtain ⟨hm, hst⟩ := hs.step (fol_iff.1 hf) hb
        have hc2 : sNext p k < p.length ∧ dep p (sNext p k) = dep p k ∧ mayF (knd p k) (knd p (sNext p k)) = true := ⟨hl, sb.2.2.1.symm, hm⟩
        rw [sb.out, if_pos hc2, if_pos hc, sb.2.2.1, pt_of_vc p m _ _ _ _ hl hst hv]
      · unfold chGo ptGo
        rw [sb.out, if_neg (fun q => hf (fol_iff.2 (by have := mayF_iff.1 q.2.2; omega))), if_neg (fun q => hf q.2)]
    · unfold chGo ptGo
      rw [if_neg (fun q => by have := (sib_of q.1 q.2.1).next; have := q.1; omega), if_neg (fun q => hl q.1)]
theorem vc_of_pt (p : List Lin) : ∀ (m k : Nat) (first : Bool) (prev : Int) (ex : Nat), k < p.length → StV first prev ex (knd p k) → ptGo p (dep p k) m k = chGo p m (sNext p k) → vcGo p first prev ex (chGo p m (sNext p k)) = some (ex + exs p (chGo p m (sNext p k)))
  | 0, _, _, _, _, _, _, _ => rfl
  | m + 1, k, first, prev, ex, hk, hs, he => by
    unfold chGo at he ⊢
    unfold ptGo at he
    by_cases hl : sNext p k < p.length
    · have sb := sNext_sib hl
      by_cases hf : fol (knd p (sNext p k)) = true
      · rw [if_pos ⟨hl, hf⟩]
        rw [sb.out] at he
        by_cases hm : mayF (knd p k) (knd p (sNext p k)) = true
        · rw [if_pos ⟨hl, sb.2.2.1.symm, hm⟩, if_pos ⟨hl, hf⟩] at he
          injection he with _ he
          obtain ⟨hb, hst⟩ := hs.back hm
          rw [sb.2.2.1] at he
          rw [vc_ok hb, vc_of_pt p m _ _ _ _ hl hst he, exs_cons]
        · rw [if_neg (fun q => hm q.2.2), if_pos ⟨hl, hf⟩] at he; cases he
      · rw [if_neg (fun q => hf q.2)]; rfl
    · rw [if_neg (fun q => hl q.1)]; rfl
theorem vChain_iff {p : List Lin} {i : Nat} (hi : i < p.length) (h7 : knd p i = 7) : vChain p i = true ↔ parts p i = chain p i ∧ (parts p i).length ≠ 1 ∧ exs p (parts p i) ≤ 6 := by
  have hst : StV true 0 0 (knd p i) := .inl ⟨rfl, h7, rfl⟩
  have hex : ∀ r, exs p (i :: r) = exs p r := fun r => by
    have h := exs_cons p i r 0
    rw [exN_no (by omega)] at h; omega
  constructor
  · intro h
    unfold vChain at h
    show parts p i = chain p i ∧ _
    have hne : vcGo p true 0 0 (chGo p p.length (sNext p i)) ≠ none := fun e => by
      rw [show (chain p i).tail = chGo p p.length (sNext p i) from rfl, e] at h; cases h
    have he := pt_of_vc p p.length i true 0 0 hi hst hne
    have hv := vc_of_pt p p.length i true 0 0 hi hst he
    rw [show (chain p i).tail = chGo p p.length (sNext p i) from rfl, hv] at h
    have h' : (decide (1 < (chain p i).length) && decide (0 + exs p (chGo p p.length (sNext p i)) ≤ 6)) = true := h
    rw [Bool.and_eq_true, decide_eq_true_eq, decide_eq_true_eq] at h'
    have hp : parts p i = chain p i := by unfold parts chain; rw [he]
    refine ⟨hp, ?_, ?_⟩
    · rw [hp]; omega
    · rw [hp]; unfold chain; rw [hex]; omega
  · rintro ⟨hp, h1, h2⟩
    have he : ptGo p (dep p i) p.length i = chGo p p.length (sNext p i) := by unfold parts chain at hp; injection hp
    have hv := vc_of_pt p p.length i true 0 0 hi hst he
    rw [hp] at h1 h2
    unfold vChain
    rw [show (chain p i).tail = chGo p p.length (sNext p i) from rfl, hv]
    show (decide (1 < (chain p i).length) && decide (0 + exs p (chGo p p.length (sNext p i)) ≤ 6)) = true
    have h3 : exs p (chain p i) = exs p (chGo p p.length (sNext p i)) := hex _
    have h4 : 0 < (chain p i).length := by unfold chain; simp
    rw [Bool.and_eq_true, decide_eq_true_eq, decide_eq_true_eq]
    omega
theorem pt_pred (p : List Lin) : ∀ (m k x : Nat), k < p.length → x ∈ ptGo p (dep p k) m k → ∃ j, Sib p j x ∧ mayF (knd p j) (knd p x) = true
  | 0, _, _, _, h => by cases h
  | m + 1, k, x, hk, h => by
    unfold ptGo at h
    split at h
    · next c =>
      have sb := sib_of c.1 c.2.1
      rcases List.mem_cons.1 h with rfl | h
      · exact ⟨k, sb, c.2.2⟩
      · rw [sb.2.2.1] at h
        exact pt_pred p m _ x c.1 h
    · cases h
theorem ch_next (p : List Lin) : ∀ (m x k : Nat), p.length ≤ m + x → k ∈ chGo p m x → sNext p k < p.length → fol (knd p (sNext p k)) = true → sNext p k ∈ chGo p m x
  | 0, _, _, _, h, _, _ => by cases h
  | m + 1, x, k, hm, h, hl, hf => by
    unfold chGo at h ⊢
    split at h
    · next c =>
      rw [if_pos c]
      have hg := sNext_gt c.1
      rcases List.mem_cons.1 h with rfl | h
      · cases m with
        | zero => omega
        | succ m =>
          refine List.mem_cons_of_mem _ ?_
          unfold chGo
          rw [if_pos ⟨hl, hf⟩]
          exact List.mem_cons_self ..
      · exact List.mem_cons_of_mem _ (ch_next p m _ k (by omega) h hl hf)
    · cases h
def triesS (p : List Lin) : Prop := ∀ i, i < p.length → (knd p i = 7 → vChain p i = true) ∧ (fol (knd p i) = true → ∃ k, Sib p k i ∧ (knd p k = 7 ∨ fol (knd p k) = true))
def triesI (p : List Lin) : Prop := ∀ i, i < p.length → (knd p i = 7 → (parts p i).length ≠ 1 ∧ exs p (parts p i) ≤ 6) ∧ (fol (knd p i) = true → ∃ j, j < i ∧ knd p j = 7 ∧ i ∈ parts p j)
theorem full_of (p : List Lin) (H : triesI p) : ∀ (m k : Nat), k < p.length → ptGo p (dep p k) m k = chGo p m (sNext p k)
  | 0, _, _ => rfl
  | m + 1, k, hk => by
    unfold ptGo chGo
    by_cases hl : sNext p k < p.length
    · have sb := sNext_sib hl
      by_cases hf : fol (knd p (sNext p k)) = true
      · obtain ⟨j, hj, h7, hm⟩ := (H _ hl).2 hf
        have hne : sNext p k ≠ j := by omega
        have hm2 : sNext p k ∈ ptGo p (dep p j) p.length j := by
          rcases List.mem_cons.1 hm with h | h
          · exact absurd h hne
          · exact h
        obtain ⟨k', sb', hmf⟩ := pt_pred p _ j _ (by omega) hm2
        obtain rfl := sb'.uniq sb
        rw [sb.out, if_pos ⟨hl, sb.2.2.1.symm, hmf⟩, if_pos ⟨hl, hf⟩, sb.2.2.1, full_of p H m _ hl]
      · rw [sb.out, if_neg (fun q => hf (fol_iff.2 (by have := mayF_iff.1 q.2.2; omega))), if_neg (fun q => hf q.2)]
    · rw [if_neg (fun q => by have := (sib_of q.1 q.2.1).next; have := q.1; omega), if_neg (fun q => hl q.1)]
theorem tries_same (p : List Lin) : triesS p ↔ triesI p := by
  constructor
  · intro H
    have key : ∀ n i, i < n → i < p.length → fol (knd p i) = true → ∃ j, j < i ∧ knd p j = 7 ∧ i ∈ parts p j := by
      intro n
      induction n with
      | zero => intro i h; omega
      | succ n ih =>
        intro i hn hi hf
        obtain ⟨k, sb, hk⟩ := (H i hi).2 hf
        have hkl : k < p.length := by have := sb.1; omega
        have hnx := sb.next
        rcases hk with h7 | hfk
        · refine ⟨k, sb.1, h7, ?_⟩
          rw [((vChain_iff hkl h7).1 ((H k hkl).1 h7)).1]
          unfold chain
          refine List.mem_cons_of_mem _ ?_
          rw [hnx]
          obtain ⟨l, hl⟩ : ∃ l, p.length = l + 1 := ⟨p.length - 1, by omega⟩
          have : chGo p p.length i = i :: chGo p l (sNext p i) := by rw [hl]; unfold chGo; rw [if_pos ⟨by omega, hf⟩]; cases l <;> rfl
          rw [this]; exact List.mem_cons_self ..
        · obtain ⟨j, hj, h7, hm⟩ := ih k (by have := sb.1; omega) hkl hfk
          have hjl : j < p.length := by omega
          have hp := ((vChain_iff hjl h7).1 ((H j hjl).1 h7)).1
          refine ⟨j, by have := sb.1; omega, h7, ?_⟩
          rw [hp] at hm ⊢
          unfold chain at hm ⊢
          rcases List.mem_cons.1 hm with h | h
          · omega
          · have := ch_next p p.length (sNext p j) k (by omega) h (by rw [hnx]; exact hi) (by rw [hnx]; exact hf)
            rw [hnx] at this
            exact List.mem_cons_of_mem _ this
    exact fun i hi => ⟨fun h7 => ((vChain_iff hi h7).1 ((H i hi).1 h7)).2, fun hf => key (i + 1) i (by omega) hi hf⟩
  · intro H i hi
    refine ⟨fun h7 => (vChain_iff hi h7).2 ⟨?_, (H i hi).1 h7⟩, fun hf => ?_⟩
    · unfold parts chain; rw [full_of p H p.length i hi]
    · obtain ⟨j, hj, h7, hm⟩ := (H i hi).2 hf
      rcases List.mem_cons.1 hm with h | h
      · omega
      · obtain ⟨k, sb, hmf⟩ := pt_pred p _ j i (by omega) h
        refine ⟨k, sb, ?_⟩
        rcases mayF_iff.1 hmf with h | h | h
        · rcases h.2 with h | h
          · exact .inl h
          · exact .inr (fol_iff.2 (by omega))
        · exact .inr (fol_iff.2 (by omega))
        · rcases h.2 with h | h | h
          · exact .inl h
          · exact .inr (fol_iff.2 (by omega))
          · exact .inr (fol_iff.2 (by omega))
end Go.Proofs.Ytjcellhpmooifaa
