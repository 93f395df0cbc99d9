/- Plain: programs: what the model asks of lines is what the program asks -/
import Derived.Test.YtjcellhpmooifaaPgA
import Derived.Test.YtjcellhpmooifaaHpA
namespace Go.Proofs.Ytjcellhpmooifaa
open Go.RowKit

/-! numbers -/
def numS (xs : List Cls) (k a b : Int) : Bool :=
  if k = 1 ∨ k = 4 then rng 0 99 a && (b == 0)
  else if k = 2 then hasK xs a && rng 0 99 b
  else if k = 8 then hasK xs a && (b == 0)
  else if k = 11 then rng 0 9 a && rng 0 1 b
  else if k = 12 then rng 0 3 a && (b == 0)
  else rng 0 10 k && (a == 0) && (b == 0)
def mostA (n : Nat) (k : Int) : Int :=
  if k = 0 ∨ k = 3 ∨ k = 5 ∨ k = 6 ∨ k = 7 ∨ k = 9 ∨ k = 10 then 0
  else if k = 1 ∨ k = 4 then 99 else if k = 2 ∨ k = 8 then (n : Int) - 1 else if k = 11 then 9 else if k = 12 then 3 else -1
def mostB (k : Int) : Int :=
  if k = 0 ∨ k = 3 ∨ k = 5 ∨ k = 6 ∨ k = 7 ∨ k = 9 ∨ k = 10 then 0
  else if k = 1 ∨ k = 4 then 0 else if k = 2 then 99 else if k = 8 then 0 else if k = 11 then 1 else if k = 12 then 0 else -1
theorem num_same (xs : List Cls) (k a b : Int) : numS xs k a b = (rng 0 (mostA xs.length k) a && rng 0 (mostB k) b) := by
  rw [Bool.eq_iff_iff, Bool.and_eq_true, rng_iff, rng_iff]
  unfold numS mostA mostB
  by_cases h14 : k = 1 ∨ k = 4
  · rw [if_pos h14, if_neg (by omega), if_pos h14, if_neg (by omega), if_pos h14, Bool.and_eq_true, rng_iff, beq_iff_eq]; omega
  rw [if_neg h14]
  by_cases h2 : k = 2
  · rw [if_pos h2, if_neg (by omega), if_neg (by omega), if_pos (by omega), if_neg (by omega), if_neg (by omega), if_pos h2, Bool.and_eq_true, rng_iff, hasK_iff]; omega
  rw [if_neg h2]
  by_cases h8 : k = 8
  · rw [if_pos h8, if_neg (by omega), if_neg (by omega), if_pos (by omega), if_neg (by omega), if_neg (by omega), if_neg (by omega), if_pos h8, Bool.and_eq_true, hasK_iff, beq_iff_eq]; omega
  rw [if_neg h8]
  by_cases h11 : k = 11
  · rw [if_pos h11, if_neg (by omega), if_neg (by omega), if_neg (by omega), if_pos h11, if_neg (by omega), if_neg (by omega), if_neg (by omega), if_neg (by omega), if_pos h11, Bool.and_eq_true, rng_iff, rng_iff]
  rw [if_neg h11]
  by_cases h12 : k = 12
  · rw [if_pos h12, if_neg (by omega), if_neg (by omega), if_neg (by omega), if_neg (by omega), if_pos h12, if_neg (by omega), if_neg (by omega), if_neg (by omega), if_neg (by omega), if_neg (by omega), if_pos h12, Bool.and_eq_true, rng_iff, beq_iff_eq]; omega
  rw [if_neg h12, Bool.and_eq_true, Bool.and_eq_true, rng_iff, beq_iff_eq, beq_iff_eq]
  by_cases h0 : k = 0 ∨ k = 3 ∨ k = 5 ∨ k = 6 ∨ k = 7 ∨ k = 9 ∨ k = 10
  · rw [if_pos h0, if_pos h0]; omega
  · rw [if_neg h0, if_neg h0, if_neg (by omega), if_neg (by omega), if_neg (by omega), if_neg (by omega), if_neg (by omega), if_neg (by omega), if_neg (by omega), if_neg (by omega), if_neg (by omega)]; omega
/-! blocks and depths -/
def opn (k : Int) : Bool := rng 7 12 k
theorem opn_iff {k : Int} : opn k = true ↔ 7 ≤ k ∧ k ≤ 12 := rng_iff
/-- what the model asks of the depth of a line -/
def depS (p : List Lin) (i : Nat) : Prop := (0 ≤ dep p i ∧ dep p i ≤ 5) ∧ (i = 0 → dep p i = 0) ∧ (∀ j, i = j + 1 → dep p i ≤ dep p j + 1 ∧ (opn (knd p j) = true ↔ dep p i = dep p j + 1))
/-- what the program asks of it -/
def depI (p : List Lin) (i : Nat) : Prop := (i = 0 → dep p i = 0) ∧ (∀ j, i = j + 1 → (opn (knd p j) = true → dep p j < 5 ∧ dep p i = dep p j + 1) ∧ (opn (knd p j) = false → 0 ≤ dep p i ∧ dep p i ≤ dep p j))
theorem dep_same (p : List Lin) (n : Nat) : (∀ i, i < n → depS p i) ↔ (∀ i, i < n → depI p i) := by
  constructor
  · intro H i hi
    have a := H i hi
    refine ⟨a.2.1, fun j hj => ?_⟩
    have b := H j (by omega)
    have c := a.2.2 j hj
    refine ⟨fun ho => ?_, fun ho => ?_⟩
    · have := c.2.1 ho; have := a.1; omega
    · have h1 : ¬ dep p i = dep p j + 1 := fun e => by have := c.2.2 e; rw [ho] at this; cases this
      have := a.1; omega
  · intro H
    have key : ∀ m i, i < m → i < n → depS p i := by
      intro m
      induction m with
      | zero => intro i h; omega
      | succ m ih =>
        intro i him hi
        have a := H i hi
        cases i with
        | zero => have := a.1 rfl; exact ⟨by omega, fun _ => this, fun j hj => by omega⟩
        | succ j =>
          have b := ih j (by omega) (by omega)
          have c := a.2 j rfl
          have hb := b.1
          cases ho : opn (knd p j)
          · have d := c.2 ho
            refine ⟨by omega, fun h => by omega, fun j' hj' => ?_⟩
            obtain rfl : j' = j := by omega
            exact ⟨by omega, ⟨fun h => (by rw [ho] at h; cases h), fun h => by omega⟩⟩
          · have d := c.1 ho
            refine ⟨by omega, fun h => by omega, fun j' hj' => ?_⟩
            obtain rfl : j' = j := by omega
            exact ⟨by omega, ⟨fun _ => d.2, fun _ => ho⟩⟩
    exact fun i hi => key (i + 1) i (by omega) hi
/-! loops -/
/-- the model looks for a loop around: from k on down, below a depth -/
def inGo (p : List Lin) : Int → Nat → Bool
  | _, 0 => false
  | d, k + 1 => if dep p k < d then (if knd p k = 12 then true else inGo p (dep p k) k) else inGo p d k
def inL (p : List Lin) (i : Nat) : Bool := inGo p (dep p i) i
/-- the line in whose block a line is -/
def oGo (p : List Lin) (d : Int) : Nat → Option Nat
  | 0 => none
  | k + 1 => if dep p k < d then some k else oGo p d k
def outs (p : List Lin) (i : Nat) : Option Nat := oGo p (dep p i) i
theorem oGo_lt {p : List Lin} {d : Int} : ∀ {k j : Nat}, oGo p d k = some j → j < k
  | 0, _, h => by cases h
  | k + 1, j, h => by
    unfold oGo at h; split at h
    · injection h with h; omega
    · have := oGo_lt h; omega
/-- the program goes from line to line outside -/
def upGo (p : List Lin) : Nat → Option Nat → Bool
  | _, none => false
  | 0, some _ => false
  | m + 1, some j => if knd p j = 12 then true else upGo p m (outs p j)
theorem in_out (p : List Lin) (d : Int) : ∀ k, inGo p d k = match oGo p d k with | none => false | some j => if knd p j = 12 then true else inL p j
  | 0 => rfl
  | k + 1 => by
    unfold inGo oGo
    split
    · rfl
    · exact in_out p d k
theorem up_in (p : List Lin) : ∀ (m : Nat) (o : Option Nat), (∀ j, o = some j → j < m) → upGo p m o = match o with | none => false | some j => if knd p j = 12 then true else inL p j
  | 0, none, _ => rfl
  | 0, some j, h => by have := h j rfl; omega
  | m + 1, none, _ => rfl
  | m + 1, some j, h => by
    show (if knd p j = 12 then true else upGo p m (outs p j)) = if knd p j = 12 then true else inL p j
    by_cases e : knd p j = 12
    · rw [if_pos e, if_pos e]
    · rw [if_neg e, if_neg e, up_in p m (outs p j) (fun x hx => by have := oGo_lt hx; have := h j rfl; omega)]
      unfold inL
      rw [in_out]
      rfl
theorem inL_up (p : List Lin) (i : Nat) : inL p i = upGo p i (outs p i) := by
  rw [up_in p i (outs p i) (fun j hj => oGo_lt hj)]
  unfold inL
  rw [in_out]; rfl
/-! heads -/
/-- the line that a line goes on with -/
def hGo (p : List Lin) (d : Int) : Nat → Int
  | 0 => -1
  | k + 1 => if dep p k < d then -1 else if dep p k = d then (k : Int) else hGo p d k
def headOf (p : List Lin) (i : Nat) : Int := hGo p (dep p i) i
theorem hGo_is (p : List Lin) (d : Int) : ∀ k, (hGo p d k = -1 ∧ ¬ ∃ j, j < k ∧ dep p j = d ∧ ∀ m, j < m → m < k → d < dep p m) ∨ ∃ j : Nat, hGo p d k = (j : Int) ∧ j < k ∧ dep p j = d ∧ ∀ m, j < m → m < k → d < dep p m
  | 0 => .inl ⟨rfl, fun ⟨j, h, _⟩ => by omega⟩
  | k + 1 => by
    unfold hGo
    by_cases h1 : dep p k < d
    · rw [if_pos h1]
      refine .inl ⟨rfl, ?_⟩
      rintro ⟨j, hj, e, hb⟩
      by_cases ek : j = k
      · rw [ek] at e; omega
      · have := hb k (by omega) (by omega); omega
    · rw [if_neg h1]
      by_cases h2 : dep p k = d
      · rw [if_pos h2]
        exact .inr ⟨k, rfl, by omega, h2, fun m h3 h4 => by omega⟩
      · rw [if_neg h2]
        rcases hGo_is p d k with ⟨h, hn⟩ | ⟨j, h, hj, e, hb⟩
        · refine .inl ⟨h, ?_⟩
          rintro ⟨j, hj, e, hb⟩
          by_cases ek : j = k
          · rw [ek] at e; exact h2 e
          · exact hn ⟨j, by omega, e, fun m h3 h4 => hb m h3 (by omega)⟩
        · exact .inr ⟨j, h, by omega, e, fun m h3 h4 => by
            by_cases em : m = k
            · rw [em]; omega
            · exact hb m h3 (by omega)⟩
/-- what the model asks of a line that goes on with a try -/
def headOk (p : List Lin) (i : Nat) : Bool := decide (0 ≤ headOf p i) && (knd p (headOf p i).toNat == 7 || fol (knd p (headOf p i).toNat))
theorem headOk_iff {p : List Lin} {i : Nat} (hi : i < p.length) : headOk p i = true ↔ ∃ k, Sib p k i ∧ (knd p k = 7 ∨ fol (knd p k) = true) := by
  unfold headOk
  rcases hGo_is p (dep p i) i with ⟨h, hn⟩ | ⟨j, h, hj, e, hb⟩
  · have h' : headOf p i = -1 := h
    rw [h']
    constructor
    · intro h2; simp at h2
    · rintro ⟨k, sb, _⟩
      exact absurd ⟨k, sb.1, sb.2.2.1, sb.2.2.2⟩ hn
  · have h' : headOf p i = (j : Int) := h
    rw [h', Int.toNat_natCast, Bool.and_eq_true, Bool.or_eq_true, beq_iff_eq, decide_eq_true_eq]
    have sj : Sib p j i := ⟨hj, hi, e, hb⟩
    constructor
    · rintro ⟨_, h2⟩
      exact ⟨j, sj, h2⟩
    · rintro ⟨k, sb, h2⟩
      obtain rfl := sb.uniq sj
      exact ⟨by omega, h2⟩
/-! whole programs -/
/-- what the model asks of a line -/
def lineS (xs : List Cls) (p : List Lin) (i : Nat) (x : Lin) : Prop :=
  numS xs x.kind x.a x.b = true ∧ depS p i ∧ (i + 1 = p.length → opn x.kind = false) ∧ (x.kind = 7 → vChain p i = true) ∧ (x.kind = 5 ∨ x.kind = 6 → inL p i = true) ∧ (fol x.kind = true → headOk p i = true)
/-- what the program asks of it -/
def lineI (xs : List Cls) (p : List Lin) (i : Nat) (x : Lin) : Prop :=
  rng 0 (mostA xs.length x.kind) x.a = true ∧ rng 0 (mostB x.kind) x.b = true ∧ depI p i ∧ (x.kind = 5 ∨ x.kind = 6 → upGo p i (outs p i) = true)
theorem lines_same (xs : List Cls) (p : List Lin) : (∀ i (h : i < p.length), lineS xs p i p[i]) ↔ ((∀ i (h : i < p.length), lineI xs p i p[i]) ∧ (∀ h : 0 < p.length, opn (p[p.length - 1]'(by omega)).kind = false) ∧ triesI p) := by
  constructor
  · intro H
    refine ⟨fun i hi => ?_, fun h => (H _ (by omega)).2.2.1 (by omega), (tries_same p).1 fun i hi => ?_⟩
    · have a := H i hi
      have b := a.1
      rw [num_same, Bool.and_eq_true] at b
      exact ⟨b.1, b.2, (dep_same p p.length).1 (fun k hk => (H k hk).2.1) i hi, fun h => by rw [← inL_up]; exact a.2.2.2.2.1 h⟩
    · have a := H i hi
      rw [knd_at hi]
      exact ⟨a.2.2.2.1, fun h => (headOk_iff hi).1 (a.2.2.2.2.2 h)⟩
  · rintro ⟨H, hl, ht⟩ i hi
    have a := H i hi
    have t := (tries_same p).2 ht i hi
    rw [knd_at hi] at t
    refine ⟨?_, (dep_same p p.length).2 (fun k hk => (H k hk).2.2.1) i hi, fun e => ?_, t.1, fun h => by rw [inL_up]; exact a.2.2.2 h, fun h => (headOk_iff hi).2 (t.2 h)⟩
    · rw [num_same, Bool.and_eq_true]; exact ⟨a.1, a.2.1⟩
    · have := hl (by omega)
      have e2 : p.length - 1 = i := by omega
      simpa [e2] using this
end Go.Proofs.Ytjcellhpmooifaa
