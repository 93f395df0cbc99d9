/- Plain: what comes behind jumps -/
import Derived.Test.YtldnjihakkekkaaPhQ
namespace Go.Proofs.Ytldnjihakkekkaa
open Go.RowKit
/-- a kind that ends its block -/
def jmpK (k : Int) : Bool := rng 2 6 k
theorem jmpK_iff {k : Int} : jmpK k = true ↔ 2 ≤ k ∧ k ≤ 6 := rng_iff
/-- the model looks for a line ahead in the same block that ends it -/
def bjGo (p : List Lin) (d : Int) : Nat → Bool
  | 0 => false
  | k + 1 => if d ≤ dep p k then (if dep p k = d ∧ jmpK (knd p k) = true then true else bjGo p d k) else false
def bj (p : List Lin) (i : Nat) : Bool := bjGo p (dep p i) i
theorem bjGo_iff (p : List Lin) (d : Int) : ∀ k, bjGo p d k = true ↔ ∃ j, j < k ∧ dep p j = d ∧ jmpK (knd p j) = true ∧ ∀ y, j < y → y < k → d ≤ dep p y
  | 0 => by simp [bjGo]
  | k + 1 => by
    unfold bjGo
    by_cases h : d ≤ dep p k
    · rw [if_pos h]
      by_cases h2 : dep p k = d ∧ jmpK (knd p k) = true
      · rw [if_pos h2]
        exact ⟨fun _ => ⟨k, by omega, h2.1, h2.2, fun y h3 h4 => by omega⟩, fun _ => rfl⟩
      · rw [if_neg h2, bjGo_iff p d k]
        constructor
        · rintro ⟨j, hj, h3, h4, h5⟩
          exact ⟨j, by omega, h3, h4, fun y h6 h7 => by
            by_cases e : y = k
            · rw [e]; exact h
            · exact h5 y h6 (by omega)⟩
        · rintro ⟨j, hj, h3, h4, h5⟩
          have hjk : j ≠ k := fun e => h2 (by rw [← e]; exact ⟨h3, h4⟩)
          exact ⟨j, by omega, h3, h4, fun y h6 h7 => h5 y h6 (by omega)⟩
    · rw [if_neg h]
      refine ⟨fun h => (by cases h), ?_⟩
      rintro ⟨j, hj, h3, h4, h5⟩
      by_cases e : j = k
      · rw [e] at h3; omega
      · exact absurd (h5 k (by omega) (by omega)) h
/-- the line behind those that are not less deep -/
def jGo (p : List Lin) (d : Int) : Nat → Nat → Nat
  | 0, k => k
  | m + 1, k => if d ≤ dep p k then jGo p d m (k + 1) else k
def jEnd (p : List Lin) (i : Nat) : Nat := jGo p (dep p i) (p.length - (i + 1)) (i + 1)
theorem jGo_ge (p : List Lin) (d : Int) : ∀ (m k : Nat), k ≤ jGo p d m k
  | 0, k => Nat.le_refl _
  | m + 1, k => by
    unfold jGo; split
    · exact Nat.le_trans (Nat.le_succ k) (jGo_ge p d m (k + 1))
    · exact Nat.le_refl _
theorem jGo_le (p : List Lin) (d : Int) : ∀ (m k : Nat), jGo p d m k ≤ k + m
  | 0, k => Nat.le_refl _
  | m + 1, k => by
    unfold jGo; split
    · have := jGo_le p d m (k + 1); omega
    · omega
theorem jGo_lt (p : List Lin) (d : Int) : ∀ (m k x : Nat), k ≤ x → (x < jGo p d m k ↔ x < k + m ∧ ∀ y, k ≤ y → y ≤ x → d ≤ dep p y)
  | 0, k, x, h => by
    unfold jGo
    exact ⟨fun h2 => by omega, fun h2 => by omega⟩
  | m + 1, k, x, h => by
    unfold jGo
    by_cases hd : d ≤ dep p k
    · rw [if_pos hd]
      by_cases e : x = k
      · have := jGo_ge p d m (k + 1)
        refine ⟨fun _ => ⟨by omega, fun y h1 h2 => ?_⟩, fun _ => by omega⟩
        obtain rfl : y = k := by omega
        exact hd
      · rw [jGo_lt p d m (k + 1) x (by omega)]
        constructor
        · rintro ⟨h1, h2⟩
          refine ⟨by omega, fun y h3 h4 => ?_⟩
          by_cases e2 : y = k
          · rw [e2]; exact hd
          · exact h2 y (by omega) h4
        · rintro ⟨h1, h2⟩
          exact ⟨by omega, fun y h3 h4 => h2 y (by omega) h4⟩
    · rw [if_neg hd]
      exact ⟨fun h2 => by omega, fun h2 => absurd (h2.2 k (Nat.le_refl _) h) hd⟩
theorem jEnd_lt {p : List Lin} {j x : Nat} (hj : j < p.length) (h : j < x) : x < jEnd p j ↔ x < p.length ∧ ∀ y, j < y → y ≤ x → dep p j ≤ dep p y := by
  unfold jEnd
  rw [jGo_lt p _ _ _ _ (by omega)]
  exact and_congr (by omega) ⟨fun h y h1 h2 => h y (by omega) h2, fun h y h1 h2 => h y (by omega) h2⟩
theorem jEnd_le {p : List Lin} {j : Nat} (hj : j < p.length) : jEnd p j ≤ p.length := by
  have := jGo_le p (dep p j) (p.length - (j + 1)) (j + 1)
  unfold jEnd; omega
theorem jEnd_gt (p : List Lin) (j : Nat) : j < jEnd p j := jGo_ge p _ _ (j + 1)
/-- x lies in the block of a, or is a -/
theorem in_block {p : List Lin} {a x : Nat} (ha : a < p.length) (_h : a ≤ x) : x < bEnd p a ↔ x < p.length ∧ ∀ y, a < y → y ≤ x → dep p a < dep p y := by
  constructor
  · intro h2
    exact ⟨by have := bEnd_le ha; omega, fun y h3 h4 => bEnd_in h3 (by omega)⟩
  · rintro ⟨h2, h3⟩
    rcases Nat.lt_or_ge x (bEnd p a) with h4 | h4
    · exact h4
    · have h5 := bEnd_gt p a
      have h6 := bEnd_stop ha (by omega)
      have h7 := h3 (bEnd p a) h5 h4
      omega
/-- the last line at a depth, of some lines that are not less deep -/
theorem last_at {p : List Lin} {d : Int} {j : Nat} : ∀ x, j < x → (∀ y, j < y → y ≤ x → d ≤ dep p y) → dep p (j + 1) = d → ∃ a, j < a ∧ a ≤ x ∧ dep p a = d ∧ ∀ y, a < y → y ≤ x → d < dep p y
  | 0, h, _, _ => by omega
  | x + 1, h, h2, h3 => by
    by_cases e : dep p (x + 1) = d
    · exact ⟨x + 1, h, Nat.le_refl _, e, fun y h4 h5 => by omega⟩
    · have hx : j < x := by
        rcases Nat.lt_or_ge j x with h4 | h4
        · exact h4
        · obtain rfl : j = x := by omega
          exact absurd h3 e
      obtain ⟨a, h4, h5, h6, h7⟩ := last_at x hx (fun y h8 h9 => h2 y h8 (by omega)) h3
      refine ⟨a, h4, by omega, h6, fun y h8 h9 => ?_⟩
      by_cases e2 : y = x + 1
      · rw [e2]; have := h2 (x + 1) h (Nat.le_refl _); omega
      · exact h7 y h8 (by omega)
/-- the program marks x behind the jump j -/
def jIn (p : List Lin) (j x : Nat) : Bool := jmpK (knd p j) && decide (j < x) && decide (x < jEnd p j)
def mkJ (p : List Lin) (k x : Nat) : Bool := (List.range k).any fun j => jIn p j x
/-- a marked line lies in the block of one behind a jump of its block, or is that -/
theorem mark_iff {xs : List Cls} {p : List Lin} (g : GoodP xs p) {x : Nat} (hx : x < p.length) : mkJ p p.length x = true ↔ ∃ a, a ≤ x ∧ x < bEnd p a ∧ bj p a = true := by
  unfold mkJ jIn
  simp only [List.any_eq_true, List.mem_range, Bool.and_eq_true, decide_eq_true_eq]
  constructor
  · rintro ⟨j, hj, ⟨h1, h2⟩, h3⟩
    have h4 := (jEnd_lt hj h2).1 h3
    have hn : dep p (j + 1) = dep p j := by
      have h5 := h4.2 (j + 1) (by omega) (by omega)
      have h6 := (g.line (j + 1) (by omega)).2.1.2.2 j rfl
      have h7 := jmpK_iff.1 h1
      by_cases e : dep p (j + 1) = dep p j + 1
      · have := opn_iff.1 (h6.2.2 e)
        omega
      · have := h6.1; omega
    obtain ⟨a, h5, h6, h7, h8⟩ := last_at x h2 h4.2 hn
    refine ⟨a, h6, (in_block (by omega) h6).2 ⟨hx, fun y h9 h10 => by rw [h7]; exact h8 y h9 h10⟩, ?_⟩
    unfold bj
    rw [bjGo_iff, h7]
    exact ⟨j, h5, rfl, h1, fun y h9 h10 => h4.2 y h9 (by omega)⟩
  · rintro ⟨a, h1, h2, h3⟩
    have ha : a < p.length := by omega
    unfold bj at h3
    rw [bjGo_iff] at h3
    obtain ⟨j, h4, h5, h6, h7⟩ := h3
    have h8 := (in_block ha h1).1 h2
    refine ⟨j, by omega, ⟨h6, by omega⟩, (jEnd_lt (by omega) (by omega)).2 ⟨hx, fun y h9 h10 => ?_⟩⟩
    rcases Nat.lt_trichotomy y a with h11 | h11 | h11
    · rw [h5]; exact h7 y h9 h11
    · rw [h11, h5]; exact Int.le_refl _
    · have := h8.2 y h11 h10; omega
/-- the model goes on behind the block of a line that comes behind a jump -/
def prG (p : List Lin) : Nat → Nat → List Lin
  | 0, _ => []
  | m + 1, i => match p[i]? with
    | some x => if bj p i = true then prG p m (bEnd p i) else x :: prG p m (i + 1)
    | none => []
/-- the program leaves out what is marked -/
def prF (p : List Lin) : Nat → Nat → List Lin
  | 0, _ => []
  | m + 1, i => match p[i]? with
    | some x => if mkJ p p.length i = true then prF p m (i + 1) else x :: prF p m (i + 1)
    | none => []
theorem prF_fuel (p : List Lin) : ∀ (m n i : Nat), p.length ≤ m + i → p.length ≤ n + i → prF p m i = prF p n i
  | 0, n, i, h1, h2 => by
    cases n with
    | zero => rfl
    | succ n => unfold prF; rw [List.getElem?_eq_none (by omega)]
  | m + 1, 0, i, h1, h2 => by unfold prF; rw [List.getElem?_eq_none (by omega)]
  | m + 1, n + 1, i, h1, h2 => by
    unfold prF
    rw [prF_fuel p m n (i + 1) (by omega) (by omega)]
theorem prF_skip (p : List Lin) : ∀ (d m i : Nat), p.length ≤ m + i → i + d ≤ p.length → (∀ x, i ≤ x → x < i + d → mkJ p p.length x = true) → prF p m i = prF p m (i + d)
  | 0, _, _, _, _, _ => rfl
  | d + 1, m, i, h, h1, h2 => by
    obtain ⟨n, rfl⟩ : ∃ n, m = n + 1 := ⟨m - 1, by omega⟩
    have hi : i < p.length := by omega
    have e : prF p (n + 1) i = prF p n (i + 1) := by
      show (match p[i]? with | some x => _ | none => _) = _
      rw [List.getElem?_eq_getElem hi]
      exact if_pos (h2 i (Nat.le_refl _) (by omega))
    rw [e, prF_fuel p n (n + 1) (i + 1) (by omega) (by omega), prF_skip p d (n + 1) (i + 1) (by omega) (by omega) (fun x h3 h4 => h2 x (by omega) (by omega))]
    congr 1; omega
theorem pr_same {xs : List Cls} {p : List Lin} (g : GoodP xs p) : ∀ (m i : Nat), p.length ≤ m + i → (∀ b, b < i → i < bEnd p b → bj p b = false) → prG p m i = prF p m i
  | 0, _, _, _ => rfl
  | m + 1, i, hm, hr => by
    rcases Nat.lt_or_ge i p.length with hi | hi
    · have eG : prG p (m + 1) i = if bj p i = true then prG p m (bEnd p i) else p[i] :: prG p m (i + 1) := by
        show (match p[i]? with | some x => _ | none => _) = _
        rw [List.getElem?_eq_getElem hi]
      have eF : prF p (m + 1) i = if mkJ p p.length i = true then prF p m (i + 1) else p[i] :: prF p m (i + 1) := by
        show (match p[i]? with | some x => _ | none => _) = _
        rw [List.getElem?_eq_getElem hi]
      have hgt := bEnd_gt p i
      have hle := bEnd_le hi
      by_cases hb : bj p i = true
      · have hsk := prF_skip p (bEnd p i - i) (m + 1) i (by omega) (by omega) (fun x h1 h2 => (mark_iff g (by omega)).2 ⟨i, h1, by omega, hb⟩)
        rw [eG, if_pos hb, hsk, show i + (bEnd p i - i) = bEnd p i by omega, prF_fuel p (m + 1) m (bEnd p i) (by omega) (by omega)]
        refine pr_same g m _ (by omega) (fun b h1 h2 => ?_)
        rcases Nat.lt_or_ge b i with h3 | h3
        · exact hr b h3 (by omega)
        · exfalso
          have h4 := (in_block (p := p) (a := b) (x := bEnd p i) (by omega) (by omega)).1 h2
          have h5 := h4.2 (bEnd p i) h1 (Nat.le_refl _)
          have h6 := bEnd_stop hi h4.1
          rcases Nat.lt_or_ge i b with h7 | h7
          · have := bEnd_in h7 h1; omega
          · obtain rfl : b = i := by omega
            omega
      · have hno : ¬ mkJ p p.length i = true := fun h => by
          obtain ⟨a, h1, h2, h3⟩ := (mark_iff g hi).1 h
          rcases Nat.lt_or_ge a i with h4 | h4
          · have := hr a h4 h2; rw [this] at h3; cases h3
          · obtain rfl : a = i := by omega
            exact hb h3
        rw [eG, if_neg hb, eF, if_neg hno, pr_same g m (i + 1) (by omega) (fun b h1 h2 => ?_)]
        rcases Nat.lt_or_ge b i with h3 | h3
        · exact hr b h3 (by omega)
        · obtain rfl : b = i := by omega
          cases e : bj p b
          · rfl
          · exact absurd e hb
    · have e : p[i]? = none := List.getElem?_eq_none hi
      unfold prG prF
      rw [e]
/-- what is left of a program -/
def prL (p : List Lin) : List Lin := prF p p.length 0
theorem prL_model {xs : List Cls} {p : List Lin} (g : GoodP xs p) : prG p p.length 0 = prL p := pr_same g p.length 0 (by omega) (fun b h => by omega)
theorem prF_len (p : List Lin) : ∀ m i, (prF p m i).length ≤ m
  | 0, _ => Nat.le_refl _
  | m + 1, i => by
    unfold prF
    have := prF_len p m (i + 1)
    split
    · split
      · omega
      · simp; omega
    · simp
theorem prF_ok {p : List Lin} (h : ∀ x ∈ p, Enc.ok x) : ∀ m i, ∀ x ∈ prF p m i, Enc.ok x
  | 0, _, x, hx => nomatch hx
  | m + 1, i, x, hx => by
    unfold prF at hx
    split at hx
    · rename_i y hy
      split at hx
      · exact prF_ok h m _ x hx
      · rcases List.mem_cons.1 hx with rfl | hx
        · exact h _ (List.mem_of_getElem? hy)
        · exact prF_ok h m _ x hx
    · cases hx
end Go.Proofs.Ytldnjihakkekkaa
