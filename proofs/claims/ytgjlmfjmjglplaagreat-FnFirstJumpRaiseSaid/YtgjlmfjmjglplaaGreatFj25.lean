/- one text of PgD, PfJ -/
import Derived.Test.YtgjlmfjmjglplaaGreatFj17
namespace Go.Proofs.YtgjlmfjmjglplaaGreat
open Go.RowKit
set_option linter.unusedVariables false
section
/-- a kind that ends its block -/
def jmpK (k : Int) : Bool := rng 2 6 k
theorem jmpK_iff {k : Int} : jmpK k = true ↔ 2 ≤ k ∧ k ≤ 6 := rng_iff
/-- the model looks for a line ahead in the same block that ends it -/
def bjGo (p : List Lin) (d : Int) : Nat → Bool
  | 0 => false
  | k + 1 => if d ≤ dep p k then (if dep p k = d ∧ jmpK (knd p k) = true then true else bjGo p d k) else false
def bj (p : List Lin) (i : Nat) : Bool := bjGo p (dep p i) i
theorem bjGo_iff (p : List Lin) (d : Int) : ∀ k, bjGo p d k = true ↔ ∃ j, j < k ∧ dep p j = d ∧ jmpK (knd p j) = true ∧ ∀ y, j < y → y < k → d ≤ dep p y
  | 0 => by simp [bjGo]
  | k + 1 => by
    unfold bjGo
    by_cases h : d ≤ dep p k
    · rw [if_pos h]
      by_cases h2 : dep p k = d ∧ jmpK (knd p k) = true
      · rw [if_pos h2]
        exact ⟨fun _ => ⟨k, by omega, h2.1, h2.2, fun y h3 h4 => by omega⟩, fun _ => rfl⟩
      · rw [if_neg h2, bjGo_iff p d k]
        constructor
        · rintro ⟨j, hj, h3, h4, h5⟩
          exact ⟨j, by omega, h3, h4, fun y h6 h7 => by
            by_cases e : y = k
            · rw [e]; exact h
            · exact h5 y h6 (by omega)⟩
        · rintro ⟨j, hj, h3, h4, h5⟩
          have hjk : j ≠ k := fun e => h2 (by rw [← e]; exact ⟨h3, h4⟩)
          exact ⟨j, by omega, h3, h4, fun y h6 h7 => h5 y h6 (by omega)⟩
    · rw [if_neg h]
      refine ⟨fun h => (by cases h), ?_⟩
      rintro ⟨j, hj, h3, h4, h5⟩
      by_cases e : j = k
      · rw [e] at h3; omega
      · exact absurd (h5 k (by omega) (by omega)) h
/-- the line behind those that are not less deep -/
def jGo (p : List Lin) (d : Int) : Nat → Nat → Nat
  | 0, k => k
  | m + 1, k => if d ≤ dep p k then jGo p d m (k + 1) else k
def jEnd (p : List Lin) (i : Nat) : Nat := jGo p (dep p i) (p.length - (i + 1)) (i + 1)
theorem jGo_ge (p : List Lin) (d : Int) : ∀ (m k : Nat), k ≤ jGo p d m k
  | 0, k => Nat.le_refl _
  | m + 1, k => by
    unfold jGo; split
    · exact Nat.le_trans (Nat.le_succ k) (jGo_ge p d m (k + 1))
    · exact Nat.le_refl _
theorem jGo_le (p : List Lin) (d : Int) : ∀ (m k : Nat), jGo p d m k ≤ k + m
  | 0, k => Nat.le_refl _
  | m + 1, k => by
    unfold jGo; split
    · have := jGo_le p d m (k + 1); omega
    · omega
theorem jGo_lt (p : List Lin) (d : Int) : ∀ (m k x : Nat), k ≤ x → (x < jGo p d m k ↔ x < k + m ∧ ∀ y, k ≤ y → y ≤ x → d ≤ dep p y)
  | 0, k, x, h => by
    unfold jGo
    exact ⟨fun h2 => by omega, fun h2 => by omega⟩
  | m + 1, k, x, h => by
    unfold jGo
    by_cases hd : d ≤ dep p k
    · rw [if_pos hd]
      by_cases e : x = k
      · have := jGo_ge p d m (k + 1)
        refine ⟨fun _ => ⟨by omega, fun y h1 h2 => ?_⟩, fun _ => by omega⟩
        obtain rfl : y = k := by omega
        exact hd
      · rw [jGo_lt p d m (k + 1) x (by omega)]
        constructor
        · rintro ⟨h1, h2⟩
          refine ⟨by omega, fun y h3 h4 => ?_⟩
          by_cases e2 : y = k
          · rw [e2]; exact hd
          · exact h2 y (by omega) h4
        · rintro ⟨h1, h2⟩
          exact ⟨by omega, fun y h3 h4 => h2 y (by omega) h4⟩
    · rw [if_neg hd]
      exact ⟨fun h2 => by omega, fun h2 => absurd (h2.2 k (Nat.le_refl _) h) hd⟩
theorem jEnd_lt {p : List Lin} {j x : Nat} (hj : j < p.length) (h : j < x) : x < jEnd p j ↔ x < p.length ∧ ∀ y, j < y → y ≤ x → dep p j ≤ dep p y := by
  unfold jEnd
  rw [jGo_lt p _ _ _ _ (by omega)]
  exact and_congr (by omega) ⟨fun h y h1 h2 => h y (by omega) h2, fun h y h1 h2 => h y (by omega) h2⟩
theorem jEnd_le {p : List Lin} {j : Nat} (hj : j < p.length) : jEnd p j ≤ p.length := by
  have := jGo_le p (dep p j) (p.length - (j + 1)) (j + 1)
  unfold jEnd; omega
theorem jEnd_gt (p : List Lin) (j : Nat) : j < jEnd p j := jGo_ge p _ _ (j + 1)
/-- x lies in the block of a, or is a -/
theorem in_block {p : List Lin} {a x : Nat} (ha : a < p.length) (_h : a ≤ x) : x < bEnd p a ↔ x < p.length ∧ ∀ y, a < y → y ≤ x → dep p a < dep p y := by
  constructor
  · intro h2
    exact ⟨by have := bEnd_le ha; omega, fun y h3 h4 => bEnd_in h3 (by omega)⟩
  · rintro ⟨h2, h3⟩
    rcases Nat.lt_or_ge x (bEnd p a) with h4 | h4
    · exact h4
    · have h5 := bEnd_gt p a
      have h6 := bEnd_stop ha (by omega)
      have h7 := h3 (bEnd p a) h5 h4
      omega
/-- the last line at a depth, of some lines that are not less deep -/
theorem last_at {p : List Lin} {d : Int} {j : Nat} : ∀ x, j < x → (∀ y, j < y → y ≤ x → d ≤ dep p y) → dep p (j + 1) = d → ∃ a, j < a ∧ a ≤ x ∧ dep p a = d ∧ ∀ y, a < y → y ≤ x → d < dep p y
  | 0, h, _, _ => by omega
  | x + 1, h, h2, h3 => by
    by_cases e : dep p (x + 1) = d
    · exact ⟨x + 1, h, Nat.le_refl _, e, fun y h4 h5 => by omega⟩
    · have hx : j < x := by
        rcases Nat.lt_or_ge j x with h4 | h4
        · exact h4
        · obtain rfl : j = x := by omega
          exact absurd h3 e
      obtain ⟨a, h4, h5, h6, h7⟩ := last_at x hx (fun y h8 h9 => h2 y h8 (by omega)) h3
      refine ⟨a, h4, by omega, h6, fun y h8 h9 => ?_⟩
      by_cases e2 : y = x + 1
      · rw [e2]; have := h2 (x + 1) h (Nat.le_refl _); omega
      · exact h7 y h8 (by omega)
/-- the program marks x behind the jump j -/
def jIn (p : List Lin) (j x : Nat) : Bool := jmpK (knd p j) && decide (j < x) && decide (x < jEnd p j)
def mkJ (p : List Lin) (k x : Nat) : Bool := (List.range k).any fun j => jIn p j x
/-- a marked line lies in the block of one behind a jump of its block, or is that -/
theorem mark_iff {xs : List Cls} {p : List Lin} (g : GoodP xs p) {x : Nat} (hx : x < p.length) : mkJ p p.length x = true ↔ ∃ a, a ≤ x ∧ x < bEnd p a ∧ bj p a = true := by
  unfold mkJ jIn
  simp only [List.any_eq_true, List.mem_range, Bool.and_eq_true, decide_eq_true_eq]
  constructor
  · rintro ⟨j, hj, ⟨h1, h2⟩, h3⟩
    have h4 := (jEnd_lt hj h2).1 h3
    have hn : dep p (j + 1) = dep p j := by
      have h5 := h4.2 (j + 1) (by omega) (by omega)
      have h6 := (g.line (j + 1) (by omega)).2.1.2.2 j rfl
      have h7 := jmpK_iff.1 h1
      by_cases e : dep p (j + 1) = dep p j + 1
      · have := opn_iff.1 (h6.2.2 e)
        omega
      · have := h6.1; omega
    obtain ⟨a, h5, h6, h7, h8⟩ := last_at x h2 h4.2 hn
    refine ⟨a, h6, (in_block (by omega) h6).2 ⟨hx, fun y h9 h10 => by rw [h7]; exact h8 y h9 h10⟩, ?_⟩
    unfold bj
    rw [bjGo_iff, h7]
    exact ⟨j, h5, rfl, h1, fun y h9 h10 => h4.2 y h9 (by omega)⟩
  · rintro ⟨a, h1, h2, h3⟩
    have ha : a < p.length := by omega
    unfold bj at h3
    rw [bjGo_iff] at h3
    obtain ⟨j, h4, h5, h6, h7⟩ := h3
    have h8 := (in_block ha h1).1 h2
    refine ⟨j, by omega, ⟨h6, by omega⟩, (jEnd_lt (by omega) (by omega)).2 ⟨hx, fun y h9 h10 => ?_⟩⟩
    rcases Nat.lt_trichotomy y a with h11 | h11 | h11
    · rw [h5]; exact h7 y h9 h11
    · rw [h11, h5]; exact Int.le_refl _
    · have := h8.2 y h11 h10; omega
/-- the model goes on behind the block of a line that comes behind a jump -/
def prG (p : List Lin) : Nat → Nat → List Lin
  | 0, _ => []
  | m + 1, i => match p[i]? with
    | some x => if bj p i = true then prG p m (bEnd p i) else x :: prG p m (i + 1)
    | none => []
/-- the program leaves out what is marked -/
def prF (p : List Lin) : Nat → Nat → List Lin
  | 0, _ => []
  | m + 1, i => match p[i]? with
    | some x => if mkJ p p.length i = true then prF p m (i + 1) else x :: prF p m (i + 1)
    | none => []
theorem prF_fuel (p : List Lin) : ∀ (m n i : Nat), p.length ≤ m + i → p.length ≤ n + i → prF p m i = prF p n i
  | 0, n, i, h1, h2 => by
    cases n with
    | zero => rfl
    | succ n => unfold prF; rw [List.getElem?_eq_none (by omega)]
  | m + 1, 0, i, h1, h2 => by unfold prF; rw [List.getElem?_eq_none (by omega)]
  | m + 1, n + 1, i, h1, h2 => by
    unfold prF
    rw [prF_fuel p m n (i + 1) (by omega) (by omega)]
theorem prF_skip (p : List Lin) : ∀ (d m i : Nat), p.length ≤ m + i → i + d ≤ p.length → (∀ x, i ≤ x → x < i + d → mkJ p p.length x = true) → prF p m i = prF p m (i + d)
  | 0, _, _, _, _, _ => rfl
  | d + 1, m, i, h, h1, h2 => by
    obtain ⟨n, rfl⟩ : ∃ n, m = n + 1 := ⟨m - 1, by omega⟩
    have hi : i < p.length := by omega
    have e : prF p (n + 1) i = prF p n (i + 1) := by
      show (match p[i]? with | some x => _ | none => _) = _
      rw [List.getElem?_eq_getElem hi]
      exact if_pos (h2 i (Nat.le_refl _) (by omega))
    rw [e, prF_fuel p n (n + 1) (i + 1) (by omega) (by omega), prF_skip p d (n + 1) (i + 1) (by omega) (by omega) (fun x h3 h4 => h2 x (by omega) (by omega))]
    congr 1; omega
theorem pr_same {xs : List Cls} {p : List Lin} (g : GoodP xs p) : ∀ (m i : Nat), p.length ≤ m + i → (∀ b, b < i → i < bEnd p b → bj p b = false) → prG p m i = prF p m i
  | 0, _, _, _ => rfl
  | m + 1, i, hm, hr => by
    rcases Nat.lt_or_ge i p.length with hi | hi
    · have eG : prG p (m + 1) i = if bj p i = true then prG p m (bEnd p i) else p[i] :: prG p m (i + 1) := by
        show (match p[i]? with | some x => _ | none => _) = _
        rw [List.getElem?_eq_getElem hi]
      have eF : prF p (m + 1) i = if mkJ p p.length i = true then prF p m (i + 1) else p[i] :: prF p m (i + 1) := by
        show (match p[i]? with | some x => _ | none => _) = _
        rw [List.getElem?_eq_getElem hi]
      have hgt := bEnd_gt p i
      have hle := bEnd_le hi
      by_cases hb : bj p i = true
      · have hsk := prF_skip p (bEnd p i - i) (m + 1) i (by omega) (by omega) (fun x h1 h2 => (mark_iff g (by omega)).2 ⟨i, h1, by omega, hb⟩)
        rw [eG, if_pos hb, hsk, show i + (bEnd p i - i) = bEnd p i by omega, prF_fuel p (m + 1) m (bEnd p i) (by omega) (by omega)]
        refine pr_same g m _ (by omega) (fun b h1 h2 => ?_)
        rcases Nat.lt_or_ge b i with h3 | h3
        · exact hr b h3 (by omega)
        · exfalso
          have h4 := (in_block (p := p) (a := b) (x := bEnd p i) (by omega) (by omega)).1 h2
          have h5 := h4.2 (bEnd p i) h1 (Nat.le_refl _)
          have h6 := bEnd_stop hi h4.1
          rcases Nat.lt_or_ge i b with h7 | h7
          · have := bEnd_in h7 h1; omega
          · obtain rfl : b = i := by omega
            omega
      · have hno : ¬ mkJ p p.length i = true := fun h => by
          obtain ⟨a, h1, h2, h3⟩ := (mark_iff g hi).1 h
          rcases Nat.lt_or_ge a i with h4 | h4
          · have := hr a h4 h2; rw [this] at h3; cases h3
          · obtain rfl : a = i := by omega
            exact hb h3
        rw [eG, if_neg hb, eF, if_neg hno, pr_same g m (i + 1) (by omega) (fun b h1 h2 => ?_)]
        rcases Nat.lt_or_ge b i with h3 | h3
        · exact hr b h3 (by omega)
        · obtain rfl : b = i := by omega
          cases e : bj p b
          · rfl
          · exact absurd e hb
    · have e : p[i]? = none := List.getElem?_eq_none hi
      unfold prG prF
      rw [e]
/-- what is left of a program -/
def prL (p : List Lin) : List Lin := prF p p.length 0
theorem prL_model {xs : List Cls} {p : List Lin} (g : GoodP xs p) : prG p p.length 0 = prL p := pr_same g p.length 0 (by omega) (fun b h => by omega)
theorem prF_len (p : List Lin) : ∀ m i, (prF p m i).length ≤ m
  | 0, _ => Nat.le_refl _
  | m + 1, i => by
    unfold prF
    have := prF_len p m (i + 1)
    split
    · split
      · omega
      · simp; omega
    · simp
theorem prF_ok {p : List Lin} (h : ∀ x ∈ p, Enc.ok x) : ∀ m i, ∀ x ∈ prF p m i, Enc.ok x
  | 0, _, x, hx => nomatch hx
  | m + 1, i, x, hx => by
    unfold prF at hx
    split at hx
    · rename_i y hy
      split at hx
      · exact prF_ok h m _ x hx
      · rcases List.mem_cons.1 hx with rfl | hx
        · exact h _ (List.mem_of_getElem? hy)
        · exact prF_ok h m _ x hx
    · cases hx
end

section
theorem ptF_asc (p : List Lin) (d : Int) : ∀ m k, (∀ x ∈ ptGo p d m k, k < x ∧ x < p.length ∧ dep p x = d) ∧ (ptGo p d m k).Pairwise (· < ·)
  | 0, k => ⟨fun x hx => absurd hx (List.not_mem_nil), List.Pairwise.nil⟩
  | m + 1, k => by
    unfold ptGo
    split
    · next c =>
      have ih := ptF_asc p d m (bEnd p k)
      have hb := bEnd_gt p k
      refine ⟨fun x hx => ?_, List.pairwise_cons.2 ⟨fun x hx => (ih.1 x hx).1, ih.2⟩⟩
      rcases List.mem_cons.1 hx with rfl | hx
      · exact ⟨hb, c.1, c.2.1⟩
      · have := ih.1 x hx; exact ⟨by omega, this.2⟩
    · exact ⟨fun x hx => absurd hx (List.not_mem_nil), List.Pairwise.nil⟩
theorem partsF {p : List Lin} {j x : Nat} (hj : j < p.length) (h : x ∈ parts p j) : j ≤ x ∧ x < p.length ∧ dep p x = dep p j := by
  have a := (ptF_asc p (dep p j) p.length j).1
  unfold parts at h
  rcases List.mem_cons.1 h with rfl | h
  · exact ⟨Nat.le_refl _, hj, rfl⟩
  · have := a x h; exact ⟨by omega, this.2⟩
theorem partsF_asc (p : List Lin) (j : Nat) : (parts p j).Pairwise (· < ·) := by
  have h := ptF_asc p (dep p j) p.length j
  unfold parts
  exact List.pairwise_cons.2 ⟨fun x hx => (h.1 x hx).1, h.2⟩
/-- each line of a try is the one behind the block of the one ahead of it -/
theorem ptF_link (p : List Lin) (d : Int) : ∀ m k n (h : n < (ptGo p d m k).length), (ptGo p d m k)[n] = bEnd p ((k :: ptGo p d m k)[n]'(by rw [List.length_cons]; omega))
  | 0, k, n, h => by cases h
  | m + 1, k, n, h => by
    by_cases c : bEnd p k < p.length ∧ dep p (bEnd p k) = d ∧ mayF (knd p k) (knd p (bEnd p k)) = true
    · have e : ptGo p d (m + 1) k = bEnd p k :: ptGo p d m (bEnd p k) := if_pos c
      have key : ∀ (L : List Nat), L = bEnd p k :: ptGo p d m (bEnd p k) → ∀ (h : n < L.length), L[n] = bEnd p ((k :: L)[n]'(by rw [List.length_cons]; omega)) := by
        rintro L rfl h
        cases n with
        | zero => rfl
        | succ n => exact ptF_link p d m (bEnd p k) n (by simpa using h)
      exact key _ e h
    · have e : ptGo p d (m + 1) k = [] := if_neg c
      rw [e] at h; cases h
theorem parts_link {p : List Lin} {j n : Nat} (h : n + 1 < (parts p j).length) : (parts p j)[n + 1] = bEnd p (parts p j)[n] := by
  have h2 : n < (ptGo p (dep p j) p.length j).length := by unfold parts at h; simpa using h
  exact ptF_link p (dep p j) p.length j n h2
/-- the last line of a try -/
def lstP (p : List Lin) (i : Nat) : Nat := (parts p i)[(parts p i).length - 1]'(by unfold parts; simp)
theorem lstP_mem (p : List Lin) (i : Nat) : lstP p i ∈ parts p i := List.getElem_mem _
theorem lstP_ge {p : List Lin} {i x : Nat} (h : x ∈ parts p i) : x ≤ lstP p i := by
  obtain ⟨n, hn, rfl⟩ := List.getElem_of_mem h
  unfold lstP
  rcases Nat.lt_or_ge n ((parts p i).length - 1) with h1 | h1
  · exact Nat.le_of_lt (List.pairwise_iff_getElem.1 (partsF_asc p i) _ _ _ _ h1)
  · have e : n = (parts p i).length - 1 := by omega
    subst e; exact Nat.le_refl _
/-- the line that is run behind a line -/
def nx (p : List Lin) (i : Nat) : Nat := if knd p i = 7 then bEnd p (lstP p i) else bEnd p i
/-- lines from one up to another one are a block, or the whole program -/
structure Blk (p : List Lin) (a b : Nat) (D : Int) : Prop where
  le : b ≤ p.length
  deep : ∀ x, a ≤ x → x < b → D ≤ dep p x
  out : b < p.length → dep p b < D
  first : a < b → dep p a = D ∧ fol (knd p a) = false
theorem Blk.in {p : List Lin} {a b : Nat} {D : Int} (h : Blk p a b D) {x : Nat} (h1 : a ≤ x) (h2 : x < b) : bEnd p x ≤ b := by
  have hl := h.le
  refine Nat.le_of_not_lt fun c => ?_
  have h3 := bEnd_le (show x < p.length by omega)
  have h4 := bEnd_in (p := p) (i := x) (x := b) h2 c
  have h5 := h.out (by omega)
  have h6 := h.deep x h1 h2
  omega
/-- behind the block of a line at the block's depth there is another one, or the end -/
theorem Blk.sib {p : List Lin} {a b : Nat} {D : Int} (h : Blk p a b D) {x : Nat} (h1 : a ≤ x) (h2 : x < b) (hd : dep p x = D) (h3 : bEnd p x < b) : dep p (bEnd p x) = D := by
  have h4 := h.deep (bEnd p x) (by have := bEnd_gt p x; omega) h3
  have h5 := bEnd_stop (show x < p.length by have := h.le; omega) (by have := h.le; omega)
  omega
theorem Blk.part {p : List Lin} {a b : Nat} {D : Int} (h : Blk p a b D) {i : Nat} (h1 : a ≤ i) (h2 : i < b) (hd : dep p i = D) : ∀ n (hn : n < (parts p i).length), i ≤ (parts p i)[n] ∧ (parts p i)[n] < b ∧ dep p (parts p i)[n] = D
  | 0, hn => by
    have e : (parts p i)[0] = i := rfl
    rw [e]; exact ⟨Nat.le_refl _, h2, hd⟩
  | n + 1, hn => by
    have ih := h.part h1 h2 hd n (by omega)
    have hl := h.le
    have f := partsF (show i < p.length by omega) (List.getElem_mem hn)
    rw [parts_link hn] at f ⊢
    have h4 := h.in (x := (parts p i)[n]) (by omega) ih.2.1
    refine ⟨f.1, ?_, by rw [f.2.2, hd]⟩
    rcases Nat.lt_or_ge (bEnd p (parts p i)[n]) b with h5 | h5
    · exact h5
    · have e : bEnd p (parts p i)[n] = b := by omega
      have h6 := f.2
      rw [e] at h6
      have h7 := h.out h6.1
      omega
theorem Blk.nxt {p : List Lin} {xs : List Cls} (g : GoodP xs p) {a b : Nat} {D : Int} (h : Blk p a b D) {i : Nat} (h1 : a ≤ i) (h2 : i < b) (hd : dep p i = D) (hf : fol (knd p i) = false) : i < nx p i ∧ nx p i ≤ b ∧ (nx p i < b → dep p (nx p i) = D ∧ fol (knd p (nx p i)) = false) := by
  have hl := h.le
  have hip : i < p.length := by omega
  -- the last line of the statement
  obtain ⟨z, hz, hz1, hz2, hzd, hzp⟩ : ∃ z, nx p i = bEnd p z ∧ i ≤ z ∧ z < b ∧ dep p z = D ∧ ((knd p i = 7 ∧ z = lstP p i) ∨ (knd p i ≠ 7 ∧ z = i)) := by
    by_cases c : knd p i = 7
    · have f := h.part h1 h2 hd ((parts p i).length - 1) (by unfold parts; simp)
      exact ⟨lstP p i, by unfold nx; rw [if_pos c], f.1, f.2.1, f.2.2, .inl ⟨c, rfl⟩⟩
    · exact ⟨i, by unfold nx; rw [if_neg c], Nat.le_refl _, h2, hd, .inr ⟨c, rfl⟩⟩
  rw [hz]
  have hgt := bEnd_gt p z
  refine ⟨by omega, h.in (by omega) hz2, fun hb => ?_⟩
  have hd2 := h.sib (by omega) hz2 hzd hb
  refine ⟨hd2, ?_⟩
  cases hfo : fol (knd p (bEnd p z))
  · rfl
  · exfalso
    have sz : Sib p z (bEnd p z) := sib_of (by omega) (by rw [hd2, hzd])
    obtain ⟨j, hj, h7, hm⟩ := (g.tries (bEnd p z) (by omega)).2 hfo
    have hm2 : bEnd p z ∈ ptGo p (dep p j) p.length j := by
      unfold parts at hm
      rcases List.mem_cons.1 hm with e | h
      · omega
      · exact h
    obtain ⟨y, sy, hy, hyj⟩ := pt_back p _ _ _ hm2
    have e : y = z := sy.uniq sz
    subst e
    have hyp : y ∈ parts p j := by
      rcases hyj with e | h
      · rw [e]; exact List.mem_cons_self ..
      · exact List.mem_cons_of_mem _ h
    rcases hzp with ⟨c, e⟩ | ⟨c, e⟩
    · have hym : y ∈ parts p i := by rw [e]; exact lstP_mem p i
      have e2 : j = i := try_uniq y y (Nat.le_refl _) ⟨h7, hyp⟩ ⟨c, hym⟩
      subst e2
      have := lstP_ge hm
      omega
    · subst e
      rcases try_step ⟨h7, hyp⟩ with h | h
      · exact c h.1
      · rw [h.1] at hf; cases hf
theorem bEndF_two {xs : List Cls} {p : List Lin} (g : GoodP xs p) {l : Nat} (hl : l < p.length) (ho : opn (knd p l) = true) : l + 1 < bEnd p l ∧ dep p (l + 1) = dep p l + 1 := by
  have h1 := bEnd_gt p l
  have hlen : l + 1 < p.length := by
    refine Nat.lt_of_not_le fun c => ?_
    have := (g.line l hl).2.2.1 (by omega)
    rw [knd_at hl] at ho
    rw [ho] at this; cases this
  have h3 := ((g.line (l + 1) hlen).2.1.2.2 l rfl).2.1 ho
  refine ⟨Nat.lt_of_not_le fun c => ?_, h3⟩
  have e : bEnd p l = l + 1 := by omega
  have h2 := bEnd_stop hl (by omega)
  rw [e] at h2
  omega
theorem bEndF_one {xs : List Cls} {p : List Lin} (g : GoodP xs p) {l : Nat} (hl : l < p.length) (ho : opn (knd p l) = false) : bEnd p l = l + 1 := by
  have h1 := bEnd_gt p l
  refine Nat.le_antisymm (Nat.le_of_not_lt fun c => ?_) h1
  have h2 := bEnd_le hl
  have h3 := bEnd_in (p := p) (i := l) (x := l + 1) (by omega) c
  have h4 := (g.line (l + 1) (by omega)).2.1.2.2 l rfl
  have h5 : ¬ dep p (l + 1) = dep p l + 1 := fun e => by rw [h4.2.2 e] at ho; cases ho
  have := h4.1
  omega
/-- the block of a line -/
theorem Blk.of {xs : List Cls} {p : List Lin} (g : GoodP xs p) {h : Nat} (hh : h < p.length) (ho : opn (knd p h) = true) : Blk p (h + 1) (bEnd p h) (dep p h + 1) := by
  have h2 := bEndF_two g hh ho
  have hl := bEnd_le hh
  refine ⟨hl, fun x h3 h4 => by have := bEnd_in (p := p) (i := h) (x := x) (by omega) h4; omega, fun h3 => by have := bEnd_stop hh h3; omega, fun _ => ⟨h2.2, ?_⟩⟩
  cases hfo : fol (knd p (h + 1))
  · rfl
  · exfalso
    obtain ⟨j, hj, h7, hm⟩ := (g.tries (h + 1) (by omega)).2 hfo
    have hm2 : h + 1 ∈ ptGo p (dep p j) p.length j := by
      unfold parts at hm
      rcases List.mem_cons.1 hm with e | h
      · omega
      · exact h
    obtain ⟨y, sy, _, _⟩ := pt_back p _ _ _ hm2
    by_cases e : y = h
    · subst e; have := sy.2.2.1; omega
    · have h5 := sy.2.2.2 h (by have := sy.1; omega) (by omega)
      omega
theorem Blk.all {xs : List Cls} {p : List Lin} (g : GoodP xs p) : Blk p 0 p.length 0 := by
  refine ⟨Nat.le_refl _, fun x _ h => ((g.line x h).2.1.1).1, fun h => absurd h (by omega), fun h => ⟨(g.line 0 h).2.1.2.1 rfl, ?_⟩⟩
  cases hfo : fol (knd p 0)
  · rfl
  · obtain ⟨j, hj, _⟩ := (g.tries 0 h).2 hfo
    omega
/-! the first line that jumps -/
def lpz (p : List Lin) (i : Nat) : Bool := decide (knd p i = 12) && decide (lnA p i = 0)
def scG (p : List Lin) (b : Nat) : Nat → Nat → Int
  | 0, _ => -1
  | m + 1, i => if i < b then (if jmpK (knd p i) = true then (i : Int) else if knd p i = 8 ∨ lpz p i = true then scG p b m (bEnd p i) else scG p b m (i + 1)) else -1
theorem scG_fuel (p : List Lin) (b : Nat) : ∀ (m n i : Nat), b ≤ m + i → b ≤ n + i → scG p b m i = scG p b n i
  | 0, n, i, h1, h2 => by
    cases n with
    | zero => rfl
    | succ n => show (-1 : Int) = if i < b then _ else -1; rw [if_neg (by omega)]
  | m + 1, 0, i, h1, h2 => by show (if i < b then _ else (-1 : Int)) = -1; rw [if_neg (by omega)]
  | m + 1, n + 1, i, h1, h2 => by
    have hb := bEnd_gt p i
    show (if i < b then (if jmpK (knd p i) = true then (i : Int) else if knd p i = 8 ∨ lpz p i = true then scG p b m (bEnd p i) else scG p b m (i + 1)) else -1) = (if i < b then (if jmpK (knd p i) = true then (i : Int) else if knd p i = 8 ∨ lpz p i = true then scG p b n (bEnd p i) else scG p b n (i + 1)) else -1)
    rw [scG_fuel p b m n (bEnd p i) (by omega) (by omega), scG_fuel p b m n (i + 1) (by omega) (by omega)]
/-- the first line that jumps, of lines that are run as they come, but for what waits for a fault, and loops of no times -/
def scn (p : List Lin) (a b : Nat) : Int := scG p b (b - a) a
theorem scn_end {p : List Lin} {a b : Nat} (h : ¬ a < b) : scn p a b = -1 := by
  unfold scn
  rw [show b - a = 0 by omega]; rfl
theorem scn_at {p : List Lin} {a b : Nat} (h : a < b) : scn p a b = if jmpK (knd p a) = true then (a : Int) else if knd p a = 8 ∨ lpz p a = true then scn p (bEnd p a) b else scn p (a + 1) b := by
  have hb := bEnd_gt p a
  unfold scn
  rw [show b - a = (b - (a + 1)) + 1 by omega]
  show (if a < b then _ else (-1 : Int)) = _
  rw [if_pos h, scG_fuel p b (b - (a + 1)) (b - bEnd p a) (bEnd p a) (by omega) (by omega)]
theorem scn_range {p : List Lin} {b : Nat} : ∀ (m a : Nat), b ≤ m + a → scn p a b = -1 ∨ (a : Int) ≤ scn p a b
  | 0, a, h => .inl (scn_end (by omega))
  | m + 1, a, h => by
    by_cases c : a < b
    · rw [scn_at c]
      have hb := bEnd_gt p a
      split
      · exact .inr (Int.le_refl _)
      · split
        · rcases scn_range (p := p) (b := b) m (bEnd p a) (by omega) with h | h
          · exact .inl h
          · exact .inr (by omega)
        · rcases scn_range (p := p) (b := b) m (a + 1) (by omega) with h | h
          · exact .inl h
          · exact .inr (by omega)
    · exact .inl (scn_end c)
theorem scn_neg {p : List Lin} {a b : Nat} (h : ¬ 0 ≤ scn p a b) : scn p a b = -1 := by
  rcases scn_range (p := p) (b := b) b a (by omega) with h2 | h2
  · exact h2
  · omega
theorem scn_split {p : List Lin} {b c : Nat} (hcb : c ≤ b) : ∀ (m a : Nat), c ≤ m + a → a ≤ c → (∀ x, a ≤ x → x < c → bEnd p x ≤ c) → scn p a b = if 0 ≤ scn p a c then scn p a c else scn p c b
  | 0, a, h, h1, h2 => by
    obtain rfl : a = c := by omega
    rw [scn_end (b := a) (by omega), if_neg (by omega)]
  | m + 1, a, h, h1, h2 => by
    by_cases e : a = c
    · subst e; rw [scn_end (b := a) (by omega), if_neg (by omega)]
    · have hac : a < c := by omega
      have hbg := bEnd_gt p a
      have hbl := h2 a (Nat.le_refl _) hac
      rw [scn_at (show a < b by omega), scn_at hac]
      by_cases hj : jmpK (knd p a) = true
      · rw [if_pos hj, if_pos hj, if_pos (by omega)]
      · rw [if_neg hj, if_neg hj]
        by_cases h8 : knd p a = 8 ∨ lpz p a = true
        · rw [if_pos h8, if_pos h8]
          exact scn_split hcb m (bEnd p a) (by omega) hbl (fun x h3 h4 => h2 x (by omega) h4)
        · rw [if_neg h8, if_neg h8]
          exact scn_split hcb m (a + 1) (by omega) (by omega) (fun x h3 h4 => h2 x (by omega) h4)
end
end Go.Proofs.YtgjlmfjmjglplaaGreat
