/- Plain: the lines around a line, the try of a line -/
import Derived.Test.YtjcellhpmooifaaPgB
namespace Go.Proofs.Ytjcellhpmooifaa
open Go.RowKit

def enGo (p : List Lin) : Int → Nat → List Nat
  | _, 0 => []
  | d, k + 1 => if dep p k < d then k :: enGo p (dep p k) k else enGo p d k
/-- the lines in whose blocks a line is, the innermost one first -/
def encl (p : List Lin) (i : Nat) : List Nat := enGo p (dep p i) i
def enO (p : List Lin) : Option Nat → List Nat
  | none => []
  | some j => j :: encl p j
theorem enGo_succ (p : List Lin) (d : Int) (k : Nat) : enGo p d (k + 1) = if dep p k < d then k :: enGo p (dep p k) k else enGo p d k := rfl
theorem en_out (p : List Lin) (d : Int) : ∀ k, enGo p d k = enO p (oGo p d k)
  | 0 => rfl
  | k + 1 => by
    unfold enGo oGo
    split
    · rfl
    · exact en_out p d k
theorem encl_out (p : List Lin) (i : Nat) : encl p i = enO p (outs p i) := en_out p _ i
theorem enGo_lt (p : List Lin) : ∀ k d, ∀ x ∈ enGo p d k, x < k
  | 0, _, x, h => by simp [enGo] at h
  | k + 1, d, x, h => by
    unfold enGo at h
    split at h
    · rcases List.mem_cons.1 h with rfl | h
      · omega
      · have := enGo_lt p k _ x h; omega
    · have := enGo_lt p k _ x h; omega
theorem encl_lt {p : List Lin} {i : Nat} : ∀ x ∈ encl p i, x < i := enGo_lt p i _
theorem enGo_len (p : List Lin) : ∀ k d, (enGo p d k).length ≤ k
  | 0, _ => Nat.le_refl _
  | k + 1, d => by
    unfold enGo
    split
    · have := enGo_len p k (dep p k); simp; omega
    · have := enGo_len p k d; omega
theorem encl_len (p : List Lin) (i : Nat) : (encl p i).length ≤ i := enGo_len p i _

/-! the try of a line -/
theorem head_sib {p : List Lin} {y x : Nat} (h : Sib p y x) : headOf p x = (y : Int) := by
  rcases hGo_is p (dep p x) x with ⟨h1, hn⟩ | ⟨j, h1, hj, e, hb⟩
  · exact absurd ⟨y, h.1, h.2.2.1, h.2.2.2⟩ hn
  · have sj : Sib p j x := ⟨hj, h.2.1, e, hb⟩
    have := h.uniq sj
    rw [this]; exact h1
theorem pt_back (p : List Lin) : ∀ (m k x : Nat), x ∈ ptGo p (dep p k) m k → ∃ y, Sib p y x ∧ mayF (knd p y) (knd p x) = true ∧ (y = k ∨ y ∈ ptGo p (dep p k) m k)
  | 0, _, _, h => by cases h
  | m + 1, k, x, h => by
    unfold ptGo at h ⊢
    split at h
    · next c =>
      rw [if_pos c]
      have sb := sib_of c.1 c.2.1
      rcases List.mem_cons.1 h with rfl | h
      · exact ⟨k, sb, c.2.2, .inl rfl⟩
      · rw [sb.2.2.1] at h ⊢
        obtain ⟨y, h1, h2, h3⟩ := pt_back p m _ x h
        exact ⟨y, h1, h2, .inr (by rcases h3 with rfl | h3; exact List.mem_cons_self ..; exact List.mem_cons_of_mem _ h3)⟩
    · cases h
/-- j is the try of i -/
def IsTry (p : List Lin) (j i : Nat) : Prop := knd p j = 7 ∧ i ∈ parts p j
theorem mayF_fol {a k : Int} (h : mayF a k = true) : fol k = true := fol_iff.2 (by have := mayF_iff.1 h; omega)
theorem try_step {p : List Lin} {j x : Nat} (h : IsTry p j x) : (knd p x = 7 ∧ x = j) ∨ (fol (knd p x) = true ∧ ∃ y : Nat, headOf p x = (y : Int) ∧ y < x ∧ x < p.length ∧ IsTry p j y) := by
  rcases List.mem_cons.1 h.2 with rfl | h2
  · exact .inl ⟨h.1, rfl⟩
  · obtain ⟨y, h3, h4, h5⟩ := pt_back p _ _ _ h2
    refine .inr ⟨mayF_fol h4, y, head_sib h3, h3.1, h3.2.1, h.1, ?_⟩
    rcases h5 with rfl | h5
    · exact List.mem_cons_self ..
    · exact List.mem_cons_of_mem _ h5
theorem try_le {p : List Lin} {j : Nat} : ∀ m x, x ≤ m → IsTry p j x → j ≤ x
  | m, x, hm, h => by
    rcases try_step h with ⟨_, rfl⟩ | ⟨_, y, _, hy, _, ht⟩
    · exact Nat.le_refl _
    · cases m with
      | zero => omega
      | succ m => have := try_le m y (by omega) ht; omega
theorem try_uniq {p : List Lin} {j k : Nat} : ∀ m x, x ≤ m → IsTry p j x → IsTry p k x → j = k
  | m, x, hm, h, h2 => by
    rcases try_step h with ⟨h7, rfl⟩ | ⟨hf, y, hy, hyx, _, ht⟩
    · rcases try_step h2 with ⟨_, rfl⟩ | ⟨hf, _⟩
      · rfl
      · have := fol_iff.1 hf; omega
    · rcases try_step h2 with ⟨h7, rfl⟩ | ⟨_, z, hz, _, _, ht2⟩
      · have := fol_iff.1 hf; omega
      · have e : y = z := by omega
        subst e
        cases m with
        | zero => omega
        | succ m => exact try_uniq m y (by omega) ht ht2
/-- the program looks for the try of a line from that on down -/
def tyGo (p : List Lin) (i : Nat) : Nat → Option Nat
  | 0 => none
  | j + 1 => if knd p j = 7 ∧ i ∈ parts p j then some j else tyGo p i j
def tryAt (p : List Lin) (i : Nat) : Option Nat := tyGo p i (i + 1)
theorem tyGo_is {p : List Lin} {i : Nat} : ∀ {k j : Nat}, tyGo p i k = some j → IsTry p j i ∧ j < k
  | 0, _, h => by cases h
  | k + 1, j, h => by
    unfold tyGo at h
    split at h
    · next c => injection h with h; subst h; exact ⟨c, by omega⟩
    · have := tyGo_is h; exact ⟨this.1, by omega⟩
theorem tyGo_none {p : List Lin} {i : Nat} : ∀ {k : Nat}, tyGo p i k = none → ∀ j, j < k → ¬ IsTry p j i
  | 0, _, j, h => by omega
  | k + 1, h, j, hj => by
    unfold tyGo at h
    split at h
    · cases h
    · next c =>
      by_cases e : j = k
      · rw [e]; exact c
      · exact tyGo_none h j (by omega)
theorem tryAt_is {p : List Lin} {i j : Nat} (h : tryAt p i = some j) : IsTry p j i := (tyGo_is h).1
theorem tryAt_of {p : List Lin} {i j : Nat} (h : IsTry p j i) : tryAt p i = some j := by
  cases e : tryAt p i with
  | none => exact absurd h (tyGo_none e j (by have := try_le i i (Nat.le_refl _) h; omega))
  | some k => rw [try_uniq i i (Nat.le_refl _) (tryAt_is e) h]
theorem tryAt_kind {p : List Lin} {i j : Nat} (h : tryAt p i = some j) : knd p i = 7 ∨ fol (knd p i) = true := by
  rcases try_step (tryAt_is h) with h | h
  · exact .inl h.1
  · exact .inr h.1
theorem tryAt_has {p : List Lin} (H : triesI p) {i : Nat} (hi : i < p.length) (hk : knd p i = 7 ∨ fol (knd p i) = true) : ∃ j, tryAt p i = some j := by
  rcases hk with h | h
  · exact ⟨i, tryAt_of ⟨h, List.mem_cons_self ..⟩⟩
  · obtain ⟨j, _, h7, hm⟩ := (H i hi).2 h
    exact ⟨j, tryAt_of ⟨h7, hm⟩⟩
theorem chain_parts {p : List Lin} (H : triesI p) {i : Nat} (hi : i < p.length) : chain p i = parts p i := by
  unfold chain parts; rw [full_of p H p.length i hi]
end Go.Proofs.Ytjcellhpmooifaa
