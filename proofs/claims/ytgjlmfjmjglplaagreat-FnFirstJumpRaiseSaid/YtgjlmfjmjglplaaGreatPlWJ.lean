/- programs, plain: the lines on the way out of a line, where none of them jumps -/
import Derived.Test.YtgjlmfjmjglplaaGreatPrTP
import Derived.Test.YtgjlmfjmjglplaaGreatWoJP
import Derived.Test.YtgjlmfjmjglplaaGreatFj27
import Derived.Test.YtgjlmfjmjglplaaGreatFj36
namespace Go.Proofs.YtgjlmfjmjglplaaGreat
open Go.RowKit
section
variable {xs : List Cls} {p : List Lin}
/-- all lines of a block are told or passed -/
def blkQ (p : List Lin) (d : Int) : Nat → Nat → Bool
  | 0, _ => true
  | m + 1, k => if d < dep p k then (if knd p k ≠ 1 ∧ knd p k ≠ 0 then false else blkQ p d m (k + 1)) else true
def plZ (p : List Lin) (z : Nat) : Bool := decide (knd p z = 11) || blkQ p (dep p z) (p.length - (z + 1)) (z + 1)
/-- what the law asks of the lines of a way -/
def plX (p : List Lin) : List Nat → Bool
  | [] => true
  | z :: r => plZ p z && plX p r
theorem plX_mem {W : List Nat} (h : plX p W = true) : ∀ z ∈ W, plZ p z = true := by
  induction W with
  | nil => intro z hz; cases hz
  | cons a r ih =>
    have h2 := Bool.and_eq_true_iff.1 (show (plZ p a && plX p r) = true from h)
    intro z hz
    rcases List.mem_cons.1 hz with rfl | hz
    · exact h2.1
    · exact ih h2.2 z hz
theorem blkQ_scn {d : Int} : ∀ m k, blkQ p d m k = true → scn p k (bGo p d m k) = -1
  | 0, k, _ => scn_end (by unfold bGo; omega)
  | m + 1, k, h => by
    unfold blkQ at h
    by_cases c : d < dep p k
    · rw [if_pos c] at h
      by_cases c2 : knd p k ≠ 1 ∧ knd p k ≠ 0
      · rw [if_pos c2] at h; cases h
      · rw [if_neg c2] at h
        have ih := blkQ_scn m (k + 1) h
        have e : bGo p d (m + 1) k = bGo p d m (k + 1) := by
          rw [bGo.eq_def]
          simp [c]
        rw [e, scn_at (by have := bGo_ge p d m (k + 1); omega)]
        have hk : knd p k = 1 ∨ knd p k = 0 := by omega
        rw [if_neg (fun h => by have := jmpK_iff.1 h; omega), if_neg (fun h => by
          rcases h with h | h
          · omega
          · unfold lpz at h
            simp at h
            omega)]
        exact ih
    · have e : bGo p d (m + 1) k = k := by
        rw [bGo.eq_def]
        simp [c]
      rw [e, scn_end (by omega)]
theorem fin_way {x t z : Nat} (hx : x < p.length) (h4 : knd p x = 4) (ht : t < p.length) (h7 : knd p t = 7) (hz : z ∈ parts p t) (hz10 : knd p z = 10) (htx : t < x) (hxz : x < z) : z ∈ wayL p (encl p x) := by
  have hz2 := hz
  obtain ⟨b, hb, rfl⟩ := List.getElem_of_mem hz2
  -- the line of the try in whose block it is
  have key : ∀ m, ∀ (hm : m < (parts p t).length), x < (parts p t)[m] → ∃ (k : Nat) (hk : k < (parts p t).length), k < m ∧ (parts p t)[k] ≤ x ∧ x < bEnd p (parts p t)[k] := by
    intro m
    induction m with
    | zero => intro hm h; exact absurd h (by show ¬ x < t; omega)
    | succ m ih =>
      intro hm h
      by_cases c : x < (parts p t)[m]'(by omega)
      · obtain ⟨k, hk, a1, a2⟩ := ih (by omega) c
        exact ⟨k, hk, by omega, a2⟩
      · rw [parts_link hm] at h
        exact ⟨m, by omega, by omega, by omega, h⟩
  obtain ⟨k, hk, hkb, k1, k2⟩ := key b hb hxz
  have hm : (parts p t)[k] ∈ parts p t := List.getElem_mem _
  have ho := opn_part ht h7 hm
  have hne : (parts p t)[k] ≠ x := fun e => by rw [e, h4] at ho; exact absurd ho.1 (by decide)
  have hE : (parts p t)[k] ∈ encl p x := (encl_mem hx).2 ⟨by omega, k2⟩
  have h10 : knd p (parts p t)[k] ≠ 10 := fun e => by have := (parts_aft hk (.inr e) b hb hkb).2; omega
  have h11 : knd p (parts p t)[k] ≠ 11 := fun e => by
    rcases try_step (show IsTry p t (parts p t)[k] from ⟨h7, hm⟩) with ⟨h, _⟩ | ⟨h, _⟩
    · omega
    · have := fol_iff.1 h; omega
  have hl : lastE p (parts p t)[k] = finE p t := by
    unfold lastE
    rw [if_neg h11, if_neg (fun h => h.elim ho.2 h10), tryAt_of ⟨h7, hm⟩]
  have hp := prt_one (K := 10) (.inr rfl) hz hz10
  rw [prt_last] at hp
  have hf : finE p t = some (parts p t)[b] := by
    unfold finE
    rw [getLast_idx (parts_pos p t)]
    by_cases c : knd p (lstP p t) = 10
    · rw [if_pos c] at hp
      show (if knd p (lstP p t) = 10 then some (lstP p t) else none) = _
      rw [if_pos c]; exact hp
    · rw [if_neg c] at hp; cases hp
  exact List.mem_filterMap.2 ⟨_, hE, by rw [hl, hf]⟩
/-- what returns ends all -/
theorem fjr {x : Nat} (hv : vp xs p = true) (hx : x < p.length) (hf : fjX xs p = (x : Int)) (h4 : knd p x = 4) (hW : plX p (wayL p (encl p x)) = true) : (runI xs p).1 = .ret (lnA p x) := by
  have g := goodP_of hv
  have e0 : fjX xs p = scn p 0 p.length := by unfold fjX; rw [hv]; rfl
  rw [e0] at hf
  refine run_ret g hf h4 (fun t z ht h7 hz h10 h1 h2 => ?_)
  have hm := plX_mem hW z (fin_way hx h4 ht h7 hz h10 h1 h2)
  have hb : blkQ p (dep p z) (p.length - (z + 1)) (z + 1) = true := by
    unfold plZ at hm
    rw [decide_eq_false (by omega), Bool.false_or] at hm
    exact hm
  exact blkQ_scn _ _ hb
end
end Go.Proofs.YtgjlmfjmjglplaaGreat
