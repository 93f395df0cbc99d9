/- Plain: valid groups, their leaves, their depth -/
import Derived.Test.YtpdggodmiliijaaGpA
import Derived.Test.YtpdggodmiliijaaTyLeaf
namespace Go.Proofs.Ytpdggodmiliijaa
open Go.RowKit

def allF2 (f : Nat → Bool) : Nat → Nat → Bool
  | _, 0 => true
  | k, m + 1 => f k && allF2 f (k + 1) m
theorem allF2_congr {f h : Nat → Bool} (e : ∀ i, f i = h i) : ∀ m k, allF2 f k m = allF2 h k m
  | 0, _ => rfl
  | m + 1, k => by unfold allF2; rw [e, allF2_congr e m (k + 1)]
theorem allF2_mem {f : Nat → Bool} : ∀ m k, allF2 f k m = true → ∀ i, k ≤ i → i < k + m → f i = true
  | 0, k, _, i, h1, h2 => by omega
  | m + 1, k, h, i, h1, h2 => by
    unfold allF2 at h
    rw [Bool.and_eq_true] at h
    by_cases e : i = k
    · subst e; exact h.1
    · exact allF2_mem m (k + 1) h.2 i (by omega) (by omega)
theorem allF2_at {f : Nat → Bool} {n k : Nat} (h : k < n) : allF2 f k (n - k) = (f k && allF2 f (k + 1) (n - (k + 1))) := by
  obtain ⟨m, hm⟩ : ∃ m, n - k = m + 1 := ⟨n - k - 1, by omega⟩
  rw [hm, show n - (k + 1) = m by omega]; rfl
theorem allF2_end {f : Nat → Bool} {n k : Nat} (h : ¬ k < n) : allF2 f k (n - k) = true := by
  rw [show n - k = 0 by omega]; rfl
/-- the model's validGroup, the program's ValidGroup -/
def gOkS (xs : List Cls) (g : List Prt) : Bool := allF2 (partS xs g) 0 g.length && (okTree xs && rng 1 16 g.length)
def gOkP (xs : List Cls) (g : List Prt) : Bool := okTree xs && rng 1 16 g.length && allF2 (fun i => depthP g i && partP xs g i) 0 g.length
theorem gOk_same (xs : List Cls) (g : List Prt) : gOkS xs g = gOkP xs g := by
  unfold gOkS gOkP
  rw [allF2_congr (part_same xs g) g.length 0, Bool.and_comm]
/-- what a valid group keeps to -/
structure GoodG (xs : List Cls) (g : List Prt) : Prop where
  tree : okTree xs = true
  len : 1 ≤ g.length ∧ g.length ≤ 16
  first : (gAt g 0).depth = 0
  deep : ∀ i, 1 ≤ i → i < g.length → 1 ≤ (gAt g i).depth ∧ (gAt g i).depth ≤ 5
  step : ∀ i, 1 ≤ i → i < g.length → (gAt g i).depth ≤ (gAt g (i - 1)).depth + (if (gAt g (i - 1)).group = true then 1 else 0)
  code : ∀ i, i < g.length → 0 ≤ (gAt g i).code ∧ (gAt g i).code ≤ 99
  grp : ∀ i, i < g.length → (gAt g i).group = true → (gAt g i).cls = 0 ∧ i + 1 < g.length ∧ (gAt g i).depth < (gAt g (i + 1)).depth
  leaf : ∀ i, i < g.length → (gAt g i).group = false → 0 ≤ (gAt g i).cls ∧ (gAt g i).cls < xs.length
theorem goodG_of {xs : List Cls} {g : List Prt} (h : gOkP xs g = true) : GoodG xs g := by
  unfold gOkP at h
  simp only [Bool.and_eq_true, rng_iff] at h
  obtain ⟨⟨h1, h2⟩, h3⟩ := h
  have hm := fun i (hi : i < g.length) => allF2_mem g.length 0 h3 i (Nat.zero_le _) (by omega)
  have hd : ∀ i, i < g.length → depthP g i = true ∧ partP xs g i = true := fun i hi => by
    have := hm i hi
    simpa only [Bool.and_eq_true] using this
  refine ⟨h1, by omega, ?_, ?_, ?_, ?_, ?_, ?_⟩
  · have := (hd 0 (by omega)).1
    unfold depthP at this
    simpa using this
  · intro i h0 hi
    have := (hd i hi).1
    unfold depthP at this
    rw [if_neg (by omega), rng_iff] at this
    omega
  · intro i h0 hi
    have := (hd i hi).1
    unfold depthP at this
    rw [if_neg (by omega), rng_iff] at this
    omega
  · intro i hi
    have := (hd i hi).2
    unfold partP at this
    simp only [Bool.and_eq_true, rng_iff] at this
    exact this.1
  · intro i hi hg
    have := (hd i hi).2
    unfold partP below at this
    simp only [hg, cond_true, Bool.and_eq_true, decide_eq_true_eq] at this
    exact ⟨this.2.1, this.2.2.1, this.2.2.2⟩
  · intro i hi hg
    have := (hd i hi).2
    unfold partP at this
    simp only [hg, cond_false, Bool.and_eq_true, rng_iff] at this
    omega
/-- all of a valid group lies below its first part -/
theorem endFrom_all {g : List Prt} (h : ∀ k, 1 ≤ k → k < g.length → (gAt g 0).depth < (gAt g k).depth) : ∀ m k, 1 ≤ k → k + m = g.length → endFrom g 0 m k = g.length
  | 0, k, _, e => by unfold endFrom; omega
  | m + 1, k, h1, e => by
    unfold endFrom
    rw [if_pos ⟨by omega, h k h1 (by omega)⟩]
    exact endFrom_all h m (k + 1) (by omega) (by omega)
theorem end_zero {xs : List Cls} {g : List Prt} (h : GoodG xs g) : endN g 0 = g.length := by
  unfold endN
  have hl := h.len
  refine endFrom_all (fun k h1 h2 => ?_) _ _ (by omega) (by omega)
  have := h.deep k h1 h2
  rw [h.first]; omega
/-- a valid group has a leaf: its last part -/
theorem last_leaf {xs : List Cls} {g : List Prt} (h : GoodG xs g) : (gAt g (g.length - 1)).group = false := by
  have hl := h.len
  cases e : (gAt g (g.length - 1)).group
  · rfl
  · have := (h.grp (g.length - 1) (by omega) e).2.1
    omega
def leavesL (g : List Prt) : List Lef := (g.filter (fun p => !p.group)).map (fun p => ⟨p.cls, p.code⟩)
def deepL (g : List Prt) : Int := g.foldl (fun n p => max n p.depth) 0
end Go.Proofs.Ytpdggodmiliijaa
