/- one text of DlA -/
import Derived.Test.YtgjlmfjmjglplaaGreatFj25
import Derived.Test.YtgjlmfjmjglplaaGreatFj20
import Derived.Test.YtgjlmfjmjglplaaGreatFj3
import Derived.Test.YtgjlmfjmjglplaaGreatFj17
import Derived.Test.YtgjlmfjmjglplaaGreatFj26
import Derived.Test.YtgjlmfjmjglplaaGreatFj18
import Derived.Test.YtgjlmfjmjglplaaGreatFj16
import Derived.Test.YtgjlmfjmjglplaaGreatFj14
import Derived.Test.YtgjlmfjmjglplaaGreatFj11
namespace Go.Proofs.YtgjlmfjmjglplaaGreat
open Go.RowKit
set_option linter.unusedVariables false
section
section
/-! which blocks a line is in -/
def cv (p : List Lin) (i j : Nat) : Bool := decide (j < i) && decide (i < bEnd p j)
theorem cv_iff {p : List Lin} {i j : Nat} (hi : i < p.length) : cv p i j = true ↔ j < i ∧ ∀ x, j < x → x ≤ i → dep p j < dep p x := by
  unfold cv
  rw [Bool.and_eq_true, decide_eq_true_iff, decide_eq_true_iff]
  constructor
  · exact fun ⟨h1, h2⟩ => ⟨h1, fun x hx hxi => bEnd_in hx (by omega)⟩
  · refine fun ⟨h1, h2⟩ => ⟨h1, Nat.lt_of_not_le fun c => ?_⟩
    have hj : j < p.length := by omega
    have a := h2 (bEnd p j) (bEnd_gt p j) c
    have b := bEnd_stop hj (show bEnd p j < p.length by omega)
    omega
/-- the lines ahead of one in whose blocks another one is -/
def cvL (p : List Lin) (i : Nat) : Nat → List Nat
  | 0 => []
  | k + 1 => if cv p i k = true then k :: cvL p i k else cvL p i k
theorem cvL_en {p : List Lin} {i : Nat} (hi : i < p.length) : ∀ (k : Nat) (d : Int), k ≤ i → (∀ x, k ≤ x → x ≤ i → d ≤ dep p x) → (∃ x, k ≤ x ∧ x ≤ i ∧ dep p x = d) → cvL p i k = enGo p d k
  | 0, _, _, _, _ => rfl
  | k + 1, d, hk, hd, he => by
    rw [enGo_succ]
    unfold cvL
    by_cases c : dep p k < d
    · rw [if_pos c, if_pos ((cv_iff hi).2 ⟨by omega, fun x hx hxi => by have := hd x hx hxi; omega⟩)]
      rw [cvL_en hi k (dep p k) (by omega) (fun x hx hxi => by
        by_cases e : x = k
        · subst e; exact Int.le_refl _
        · have := hd x (by omega) hxi; omega) ⟨k, Nat.le_refl _, by omega, rfl⟩]
    · obtain ⟨x, hx, hxi, hxe⟩ := he
      rw [if_neg c, if_neg (fun h => by have := ((cv_iff hi).1 h).2 x hx hxi; omega)]
      exact cvL_en hi k d (by omega) (fun y hy hyi => by
        by_cases e : y = k
        · subst e; omega
        · exact hd y (by omega) hyi) ⟨x, by omega, hxi, hxe⟩
theorem cvL_encl {p : List Lin} {i : Nat} (hi : i < p.length) : cvL p i i = encl p i := cvL_en hi i (dep p i) (Nat.le_refl _) (fun x h1 h2 => by rw [show x = i by omega]; exact Int.le_refl _) ⟨i, Nat.le_refl _, Nat.le_refl _, rfl⟩
theorem cvL_mem {p : List Lin} {i x : Nat} : ∀ k, x ∈ cvL p i k ↔ x < k ∧ cv p i x = true
  | 0 => by simp [cvL]
  | k + 1 => by
    unfold cvL
    by_cases c : cv p i k = true
    · rw [if_pos c, List.mem_cons, cvL_mem k]
      constructor
      · rintro (rfl | h)
        · exact ⟨by omega, c⟩
        · exact ⟨by omega, h.2⟩
      · rintro ⟨h1, h2⟩
        by_cases e : x = k
        · exact .inl e
        · exact .inr ⟨by omega, h2⟩
    · rw [if_neg c, cvL_mem k]
      constructor
      · exact fun h => ⟨by omega, h.2⟩
      · rintro ⟨h1, h2⟩
        have : x ≠ k := fun e => c (e ▸ h2)
        exact ⟨by omega, h2⟩
/-- the lines around a line are those in whose blocks it is -/
theorem encl_mem {p : List Lin} {i x : Nat} (hi : i < p.length) : x ∈ encl p i ↔ x < i ∧ i < bEnd p x := by
  rw [← cvL_encl hi, cvL_mem]
  unfold cv
  rw [Bool.and_eq_true, decide_eq_true_iff, decide_eq_true_iff]
  exact ⟨fun h => h.2, fun h => ⟨h.1, h⟩⟩
theorem enGo_hd {p : List Lin} {y : Nat} {r : List Nat} : ∀ (d : Int) (k : Nat), enGo p d k = y :: r → r = encl p y
  | _, 0, h => by cases h
  | d, k + 1, h => by
    rw [enGo_succ] at h
    by_cases c : dep p k < d
    · rw [if_pos c] at h
      injection h with h1 h2
      rw [← h2, ← h1]; rfl
    · rw [if_neg c] at h
      exact enGo_hd d k h
/-! lines of a try in order -/
theorem ptL_asc (p : List Lin) (d : Int) : ∀ m k, (∀ x ∈ ptGo p d m k, k < x ∧ x < p.length) ∧ (ptGo p d m k).Pairwise (· < ·)
  | 0, k => ⟨fun x hx => absurd hx (List.not_mem_nil), List.Pairwise.nil⟩
  | m + 1, k => by
    unfold ptGo
    split
    · next c =>
      have ih := ptL_asc p d m (bEnd p k)
      have hb := bEnd_gt p k
      refine ⟨fun x hx => ?_, List.pairwise_cons.2 ⟨fun x hx => (ih.1 x hx).1, ih.2⟩⟩
      rcases List.mem_cons.1 hx with rfl | hx
      · exact ⟨hb, c.1⟩
      · have := ih.1 x hx; exact ⟨by omega, this.2⟩
    · exact ⟨fun x hx => absurd hx (List.not_mem_nil), List.Pairwise.nil⟩
theorem pt_tail {p : List Lin} {d : Int} : ∀ m k, (knd p k = 9 ∨ knd p k = 10) → ∀ x ∈ ptGo p d m k, knd p x = 10
  | 0, _, _, x, h => by cases h
  | m + 1, k, hk, x, h => by
    unfold ptGo at h
    split at h
    · next c =>
      have hm := mayF_iff.1 c.2.2
      have h10 : knd p (bEnd p k) = 10 := by omega
      rcases List.mem_cons.1 h with rfl | h
      · exact h10
      · exact pt_tail m _ (.inr h10) x h
    · cases h
theorem pt_pre {p : List Lin} {d : Int} {x : Nat} : ∀ m k, x ∈ ptGo p d m k → knd p x = 8 → ∃ pre post, ptGo p d m k = pre ++ x :: post ∧ ∀ y ∈ pre, y < x ∧ knd p y = 8
  | 0, _, h, _ => by cases h
  | m + 1, k, h, h8 => by
    unfold ptGo at h ⊢
    split at h
    · next c =>
      rw [if_pos c]
      rcases List.mem_cons.1 h with rfl | h
      · exact ⟨[], _, rfl, fun y hy => by cases hy⟩
      · have hm := mayF_iff.1 c.2.2
        have hk8 : knd p (bEnd p k) = 8 := by
          by_cases e : knd p (bEnd p k) = 8
          · exact e
          · have := pt_tail m (bEnd p k) (by omega) x h; omega
        obtain ⟨pre, post, e, hp⟩ := pt_pre m (bEnd p k) h h8
        have hlt := ((ptL_asc p d m (bEnd p k)).1 x h).1
        exact ⟨bEnd p k :: pre, post, by rw [e]; rfl, fun y hy => by
          rcases List.mem_cons.1 hy with rfl | hy
          · exact ⟨hlt, hk8⟩
          · exact hp y hy⟩
    · cases h
/-- the model looks among the lines ahead of one in its try for one that catches its class -/
def deS (xs : List Cls) (p : List Lin) (i : Nat) : List Nat → Bool
  | [] => false
  | y :: r => if y < i then (if isAL xs (lnA p i) (lnA p y) = true then true else deS xs p i r) else false
def dexB (xs : List Cls) (p : List Lin) (i : Nat) : Bool := if knd p i = 8 then (match tryAt p i with | some j => deS xs p i ((parts p j).drop 1) | none => false) else false
theorem deS_pre (xs : List Cls) (p : List Lin) (i : Nat) (post : List Nat) : ∀ pre : List Nat, (∀ y ∈ pre, y < i) → deS xs p i (pre ++ i :: post) = pre.any fun y => isAL xs (lnA p i) (lnA p y)
  | [], _ => by
    show deS xs p i (i :: post) = false
    unfold deS; rw [if_neg (by omega)]
  | y :: r, h => by
    show deS xs p i (y :: (r ++ i :: post)) = _
    unfold deS
    rw [if_pos (h y (List.mem_cons_self ..)), List.any_cons, deS_pre xs p i post r (fun z hz => h z (List.mem_cons_of_mem _ hz))]
    cases isAL xs (lnA p i) (lnA p y) <;> rfl
theorem firstC_pos {xs : List Cls} {a : Int} : ∀ {L : List Int} {j : Int}, 0 ≤ j → (0 ≤ firstC xs L a j ↔ L.any (fun b => isAL xs a b) = true)
  | [], j, _ => by
    show 0 ≤ (-1 : Int) ↔ _
    simp
  | b :: r, j, hj => by
    rw [List.any_cons, Bool.or_eq_true]
    show 0 ≤ (if isAL xs a b = true then j else firstC xs r a (j + 1)) ↔ _
    by_cases c : isAL xs a b = true
    · rw [if_pos c]; exact ⟨fun _ => .inl c, fun _ => hj⟩
    · rw [if_neg c, firstC_pos (by omega)]
      exact ⟨.inr, fun h => h.resolve_left c⟩
theorem deA_no {xs : List Cls} {p : List Lin} {x : Nat} : ∀ (E : List Nat) (acc : List Int), x ∉ E → x ∉ deA xs p acc E := fun E acc h hm => h (deA_mem xs p E acc x hm)
theorem deA_pre {xs : List Cls} {p : List Lin} {x : Nat} {post : List Nat} (hpost : x ∉ post) : ∀ (pre : List Nat) (acc : List Int), x ∉ pre → (x ∈ deA xs p acc (pre ++ x :: post) ↔ 0 ≤ firstC xs (acc ++ pre.map (lnA p)) (lnA p x) 0)
  | [], acc, _ => by
    show x ∈ deA xs p acc (x :: post) ↔ _
    rw [deA_cons, List.mem_append, List.map_nil, List.append_nil]
    constructor
    · rintro (h | h)
      · split at h
        · next c => exact c
        · cases h
      · exact absurd h (deA_no post _ hpost)
    · exact fun h => .inl (by rw [if_pos h]; exact List.mem_singleton.2 rfl)
  | y :: r, acc, hx => by
    have hy : x ≠ y := fun e => hx (e ▸ List.mem_cons_self ..)
    show x ∈ deA xs p acc (y :: (r ++ x :: post)) ↔ _
    rw [deA_cons, List.mem_append, deA_pre hpost r (acc ++ [lnA p y]) (fun h => hx (List.mem_cons_of_mem _ h)), List.append_assoc]
    constructor
    · rintro (h | h)
      · split at h
        · rw [List.mem_singleton] at h; exact absurd h hy
        · cases h
      · exact h
    · exact .inr
theorem deD_mem {xs : List Cls} {p : List Lin} {x : Nat} : ∀ n, x ∈ deD xs p n ↔ ∃ j, j < n ∧ x ∈ deAt xs p j
  | 0 => ⟨fun h => (by cases h), fun ⟨j, h, _⟩ => absurd h (by omega)⟩
  | n + 1 => by
    unfold deD
    rw [List.mem_append, deD_mem n]
    constructor
    · rintro (⟨j, h1, h2⟩ | h)
      · exact ⟨j, by omega, h2⟩
      · exact ⟨n, by omega, h⟩
    · rintro ⟨j, h1, h2⟩
      by_cases e : j = n
      · exact .inr (e ▸ h2)
      · exact .inl ⟨j, by omega, h2⟩
theorem dex_iff {xs : List Cls} {p : List Lin} {x : Nat} (hx : x < p.length) : dexB xs p x = true ↔ x ∈ deD xs p p.length := by
  have key : ∀ j, knd p j = 7 → x ∈ parts p j → knd p x = 8 → (deS xs p x ((parts p j).drop 1) = true ↔ x ∈ deA xs p [] (exL p j)) := fun j h7 hm h8 => by
    have hm2 : x ∈ ptGo p (dep p j) p.length j := by
      unfold parts at hm
      rcases List.mem_cons.1 hm with rfl | h
      · omega
      · exact h
    obtain ⟨pre, post, e, hp⟩ := pt_pre _ _ hm2 h8
    have hasc := (ptL_asc p (dep p j) p.length j).2
    rw [e] at hasc
    have hpost : x ∉ post := fun h => by
      have := (List.pairwise_cons.1 (List.pairwise_append.1 hasc).2.1).1 x h
      omega
    have hpre : x ∉ pre := fun h => by have := (hp x h).1; omega
    have e1 : (parts p j).drop 1 = pre ++ x :: post := e
    have e2 : exL p j = pre ++ x :: post.filter (fun k => knd p k == 8) := by
      unfold exL exF parts
      rw [e, List.filter_cons, if_neg (by simp; omega), List.filter_append, List.filter_cons, if_pos (by simpa using h8)]
      congr 1
      exact List.filter_eq_self.2 fun y hy => by simpa using (hp y hy).2
    rw [e1, e2, deS_pre xs p x post pre (fun y hy => (hp y hy).1), deA_pre (fun h => hpost (List.mem_filter.1 h).1) pre [] hpre, List.nil_append, firstC_pos (Int.le_refl 0), List.any_map]
    rfl
  rw [deD_mem]
  unfold dexB
  constructor
  · intro h
    split at h
    · next h8 =>
      split at h
      · next j hj =>
        have ht := tryAt_is hj
        refine ⟨j, by have := try_le x x (Nat.le_refl _) ht; omega, ?_⟩
        unfold deAt; rw [if_pos ht.1]
        exact (key j ht.1 ht.2 h8).1 h
      · cases h
    · cases h
  · rintro ⟨j, hj, h⟩
    unfold deAt at h
    split at h
    · next h7 =>
      have hm := deA_mem xs p _ _ x h
      have hm2 := List.mem_filter.1 hm
      have h8 : knd p x = 8 := by simpa using hm2.2
      rw [if_pos h8, tryAt_of ⟨h7, hm2.1⟩]
      exact (key j h7 hm2.1 h8).2 h
    · cases h
/-! what is dead -/
def lp0 (p : List Lin) (i : Nat) : Bool := decide (knd p i = 12) && decide (lnA p i = 0)
def dQ (xs : List Cls) (p : List Lin) (x : Nat) : Prop := (∃ a, a ≤ x ∧ x < bEnd p a ∧ (bj p a = true ∨ dexB xs p a = true)) ∨ ∃ l, l < x ∧ x < bEnd p l ∧ lp0 p l = true
/-- the model: a line is dead by itself, or as the one around it -/
def dlB (xs : List Cls) (p : List Lin) (out : List Nat) (i : Nat) : Bool := bj p i || dexB xs p i || (match encl p i with | [] => false | u :: _ => out.contains u || lp0 p u)
def dlL (xs : List Cls) (p : List Lin) : Nat → List Nat
  | 0 => []
  | k + 1 => dlL xs p k ++ (if dlB xs p (dlL xs p k) k = true then [k] else [])
theorem dlL_succ (xs : List Cls) (p : List Lin) (k : Nat) : dlL xs p (k + 1) = dlL xs p k ++ (if dlB xs p (dlL xs p k) k = true then [k] else []) := rfl
theorem dlL_lt {xs : List Cls} {p : List Lin} : ∀ k, ∀ x ∈ dlL xs p k, x < k
  | 0, x, h => by cases h
  | k + 1, x, h => by
    unfold dlL at h
    rcases List.mem_append.1 h with h | h
    · have := dlL_lt k x h; omega
    · split at h
      · rw [List.mem_singleton] at h; omega
      · cases h
theorem dlL_len {xs : List Cls} {p : List Lin} : ∀ k, (dlL xs p k).length ≤ k
  | 0 => Nat.le_refl _
  | k + 1 => by
    unfold dlL
    have := dlL_len (xs := xs) (p := p) k
    rw [List.length_append]
    split <;> simp <;> omega
theorem dQ_up {xs : List Cls} {p : List Lin} {i : Nat} (hi : i < p.length) : dQ xs p i ↔ (bj p i = true ∨ dexB xs p i = true) ∨ ∃ u r, encl p i = u :: r ∧ (dQ xs p u ∨ lp0 p u = true) := by
  have hself := bEnd_gt p i
  constructor
  · rintro (⟨a, h1, h2, h3⟩ | ⟨l, h1, h2, h3⟩)
    · by_cases e : a = i
      · exact .inl (e ▸ h3)
      · right
        have hm := (encl_mem hi).2 ⟨by omega, h2⟩
        cases he : encl p i with
        | nil => rw [he] at hm; cases hm
        | cons u r =>
          refine ⟨u, r, rfl, .inl (.inl ?_)⟩
          have hu := encl_lt (p := p) (i := i) u (by rw [he]; exact List.mem_cons_self ..)
          have hr := enGo_hd _ _ he
          rw [he] at hm
          rcases List.mem_cons.1 hm with rfl | hm
          · exact ⟨a, Nat.le_refl _, bEnd_gt p a, h3⟩
          · rw [hr] at hm
            have := (encl_mem (by omega)).1 hm
            exact ⟨a, by omega, this.2, h3⟩
    · right
      have hm := (encl_mem hi).2 ⟨h1, h2⟩
      cases he : encl p i with
      | nil => rw [he] at hm; cases hm
      | cons u r =>
        refine ⟨u, r, rfl, ?_⟩
        have hu := encl_lt (p := p) (i := i) u (by rw [he]; exact List.mem_cons_self ..)
        have hr := enGo_hd _ _ he
        rw [he] at hm
        rcases List.mem_cons.1 hm with rfl | hm
        · exact .inr h3
        · rw [hr] at hm
          have := (encl_mem (by omega)).1 hm
          exact .inl (.inr ⟨l, this.1, this.2, h3⟩)
  · rintro (h | ⟨u, r, he, h⟩)
    · exact .inl ⟨i, Nat.le_refl _, hself, h⟩
    · have hu := encl_lt (p := p) (i := i) u (by rw [he]; exact List.mem_cons_self ..)
      have hr := enGo_hd _ _ he
      have hmu := (encl_mem hi).1 (by rw [he]; exact List.mem_cons_self .. : u ∈ encl p i)
      have up : ∀ a, a ∈ encl p u → a < i ∧ i < bEnd p a := fun a ha => (encl_mem hi).1 (by rw [he, hr]; exact List.mem_cons_of_mem _ ha)
      rcases h with (⟨a, h1, h2, h3⟩ | ⟨l, h1, h2, h3⟩) | h
      · by_cases e : a = u
        · subst e; exact .inl ⟨a, by omega, hmu.2, h3⟩
        · have := up a ((encl_mem (by omega)).2 ⟨by omega, h2⟩)
          exact .inl ⟨a, by omega, this.2, h3⟩
      · have := up l ((encl_mem (by omega)).2 ⟨h1, h2⟩)
        exact .inr ⟨l, this.1, this.2, h3⟩
      · exact .inr ⟨u, hmu.1, hmu.2, h⟩
theorem dlL_mem {xs : List Cls} {p : List Lin} {x : Nat} : ∀ k, k ≤ p.length → (x ∈ dlL xs p k ↔ x < k ∧ dQ xs p x)
  | 0, _ => ⟨fun h => (by cases h), fun h => absurd h.1 (by omega)⟩
  | k + 1, hk => by
    have ih := fun x => dlL_mem (xs := xs) (p := p) (x := x) k (by omega)
    have hB : dlB xs p (dlL xs p k) k = true ↔ dQ xs p k := by
      rw [dQ_up (by omega)]
      unfold dlB
      rw [Bool.or_eq_true, Bool.or_eq_true]
      refine or_congr Iff.rfl ?_
      cases he : encl p k with
      | nil => exact ⟨fun h => (by cases h), fun ⟨u, r, h, _⟩ => by cases h⟩
      | cons u r =>
        have hu := encl_lt (p := p) (i := k) u (by rw [he]; exact List.mem_cons_self ..)
        show ((dlL xs p k).contains u || lp0 p u) = true ↔ _
        rw [Bool.or_eq_true, List.contains_iff_mem, ih u]
        constructor
        · rintro (h | h)
          · exact ⟨u, r, rfl, .inl h.2⟩
          · exact ⟨u, r, rfl, .inr h⟩
        · rintro ⟨v, s, e, h⟩
          injection e with e1 e2
          subst e1
          rcases h with h | h
          · exact .inl ⟨hu, h⟩
          · exact .inr h
    rw [dlL_succ, List.mem_append, ih x]
    by_cases c : dlB xs p (dlL xs p k) k = true
    · rw [if_pos c, List.mem_singleton]
      constructor
      · rintro (h | rfl)
        · exact ⟨by omega, h.2⟩
        · exact ⟨by omega, hB.1 c⟩
      · rintro ⟨h1, h2⟩
        by_cases e : x = k
        · exact .inr e
        · exact .inl ⟨by omega, h2⟩
    · rw [if_neg c]
      constructor
      · rintro (h | h)
        · exact ⟨by omega, h.2⟩
        · cases h
      · rintro ⟨h1, h2⟩
        have : x ≠ k := fun e => c (hB.2 (e ▸ h2))
        exact .inl ⟨by omega, h2⟩
/-- the program: marks behind jumps, then of loops of no times, then of what never catches -/
def mLoop (p : List Lin) (k x : Nat) : Bool := (List.range k).any fun i => lp0 p i && decide (i + 1 ≤ x) && decide (x < bEnd p i)
def mDex (p : List Lin) (D : List Nat) (x : Nat) : Bool := D.any fun i => decide (i ≤ x) && decide (x < bEnd p i)
def mAll (xs : List Cls) (p : List Lin) (x : Nat) : Bool := mkJ p p.length x || mLoop p p.length x || mDex p (deD xs p p.length) x
theorem mAll_iff {xs : List Cls} {p : List Lin} (g : GoodP xs p) {x : Nat} (hx : x < p.length) : mAll xs p x = true ↔ dQ xs p x := by
  unfold mAll mLoop mDex dQ
  rw [Bool.or_eq_true, Bool.or_eq_true, mark_iff g hx]
  simp only [List.any_eq_true, List.mem_range, Bool.and_eq_true, decide_eq_true_eq]
  constructor
  · rintro ((⟨a, h1, h2, h3⟩ | ⟨i, h1, ⟨h2, h3⟩, h4⟩) | ⟨i, h1, h2, h3⟩)
    · exact .inl ⟨a, h1, h2, .inl h3⟩
    · exact .inr ⟨i, by omega, h4, h2⟩
    · exact .inl ⟨i, h2, h3, .inr ((dex_iff (by omega)).2 h1)⟩
  · rintro (⟨a, h1, h2, h3 | h3⟩ | ⟨l, h1, h2, h3⟩)
    · exact .inl (.inl ⟨a, h1, h2, h3⟩)
    · exact .inr ⟨a, (dex_iff (by omega)).1 h3, h1, h2⟩
    · exact .inl (.inr ⟨l, by omega, ⟨h3, by omega⟩, h2⟩)
/-- the program's list of what is marked -/
def fmL (M : Nat → Bool) : Nat → List Nat
  | 0 => []
  | k + 1 => fmL M k ++ (if M k = true then [k] else [])
theorem fmL_dl {xs : List Cls} {p : List Lin} (g : GoodP xs p) : ∀ k, k ≤ p.length → fmL (mAll xs p) k = dlL xs p k
  | 0, _ => rfl
  | k + 1, hk => by
    have h1 := fmL_dl g k (by omega)
    have h2 : (k ∈ dlL xs p (k + 1)) ↔ dQ xs p k := by rw [dlL_mem (k + 1) hk]; exact ⟨fun h => h.2, fun h => ⟨by omega, h⟩⟩
    have h3 : (k ∈ dlL xs p (k + 1)) ↔ dlB xs p (dlL xs p k) k = true := by
      rw [dlL_succ, List.mem_append]
      constructor
      · rintro (h | h)
        · have := dlL_lt k k h; omega
        · split at h
          · next c => exact c
          · cases h
      · intro c; exact .inr (by rw [if_pos c]; exact List.mem_singleton.2 rfl)
    show fmL (mAll xs p) k ++ (if mAll xs p k = true then [k] else []) = _
    rw [dlL_succ, h1]
    congr 1
    by_cases c : dlB xs p (dlL xs p k) k = true
    · rw [if_pos c, if_pos ((mAll_iff g (by omega)).2 (h2.1 (h3.2 c)))]
    · rw [if_neg c, if_neg (fun h => c (h3.1 (h2.2 ((mAll_iff g (by omega)).1 h))))]
end

section
theorem sjumps_any (k : Int) (w : World) : Calls Tryz.prog 38 #[.int .i64 k] w fun e w' => e = .returned (.bool (jmpK k)) ∧ w = w' := by
  have HR : Hid (jmpK k = rng 2 6 k) := rfl
  generalize jmpK k = R at *
  go_enter Tryz.func38, Tryz.ntmps38
  go_wp2_with fail
  refine (rng_any k 2 6 w).mono ?_
  rintro e w' ⟨rfl, rfl⟩
  go_wp2
  go_ret
  exact ⟨ret_bool HR.out.symm, rfl⟩
theorem bjGo_succ (p : List Lin) (d : Int) (k : Nat) : bjGo p d (k + 1) = if d ≤ dep p k then (if dep p k = d ∧ jmpK (knd p k) = true then true else bjGo p d k) else false := rfl
def pnX (xs : List Cls) (p : List Lin) : List Lin := cond (vp xs p) (prL p) []
theorem pnX_len (xs : List Cls) (p : List Lin) : (pnX xs p).length ≤ 1048576 := by
  unfold pnX
  cases h : vp xs p
  · simp
  · have h1 := (goodP_of h).len
    have h2 := prF_len p p.length 0
    show (prL p).length ≤ _
    unfold prL; omega
theorem prG_step {p : List Lin} {m i : Nat} (hi : i < p.length) : prG p (m + 1) i = if bj p i = true then prG p m (bEnd p i) else p[i] :: prG p m (i + 1) := by
  show (match p[i]? with | some x => _ | none => _) = _
  rw [List.getElem?_eq_getElem hi]
theorem prG_stop {p : List Lin} {m i : Nat} (hi : ¬ i < p.length) : prG p m i = [] := by
  cases m with
  | zero => rfl
  | succ m =>
    show (match p[i]? with | some x => _ | none => _) = _
    rw [List.getElem?_eq_none (by omega)]
end

section
theorem deS_at (xs : List Cls) (p : List Lin) (i : Nat) {C : List Nat} {k : Nat} (h : k < C.length) : deS xs p i (C.drop k) = if C[k] < i then (if isAL xs (lnA p i) (lnA p C[k]) = true then true else deS xs p i (C.drop (k + 1))) else false := by rw [List.drop_eq_getElem_cons h]; rfl
theorem deS_end (xs : List Cls) (p : List Lin) (i : Nat) {C : List Nat} {k : Nat} (h : ¬ k < C.length) : deS xs p i (C.drop k) = false := by rw [List.drop_eq_nil_of_le (by omega)]; rfl
def dlX (xs : List Cls) (p : List Lin) : List Int := cond (vp xs p) (nI (dlL xs p p.length)) []
theorem dlX_len (xs : List Cls) (p : List Lin) : (dlX xs p).length ≤ 1048576 := by
  unfold dlX
  cases h : vp xs p
  · simp
  · have := dlL_len (xs := xs) (p := p) p.length
    have := (goodP_of h).len
    show (nI (dlL xs p p.length)).length ≤ _
    rw [nI_len]; omega
end

section
end

section
theorem ijumps_any (k : Int) (w : World) : Calls Tryz.prog 15 #[.int .i64 k] w fun e w' => e = .returned (.bool (jmpK k)) ∧ w = w' := by
  by_cases h : 2 ≤ k ∧ k ≤ 6
  · have HR : Hid (jmpK k = true) := jmpK_iff.2 h
    have h5 : k = 2 ∨ k = 3 ∨ k = 4 ∨ k = 5 ∨ k = 6 := by omega
    clear h
    rcases h5 with rfl | rfl | rfl | rfl | rfl
    all_goals
      go_enter Tryz.func15, Tryz.ntmps15
      go_wp2
      go_ret
      exact ⟨ret_bool HR.out.symm, rfl⟩
  · have HR : Hid (jmpK k = false) := by
      show _ = _
      cases e : jmpK k
      · rfl
      · exact absurd (jmpK_iff.1 e) h
    have b2 : (k == 2) = false := bf (by omega)
    have b3 : (k == 3) = false := bf (by omega)
    have b4 : (k == 4) = false := bf (by omega)
    have b5 : (k == 5) = false := bf (by omega)
    have b6 : (k == 6) = false := bf (by omega)
    clear h
    go_enter Tryz.func15, Tryz.ntmps15
    go_wp2
    go_ret
    exact ⟨ret_bool HR.out.symm, rfl⟩
/-- marks from one up to that ahead of another one -/
def mkR (M : List Bool) (f t : Nat) : List Bool := M.mapIdx fun x b => b || (decide (f ≤ x) && decide (x < t))
theorem mkR_len (M : List Bool) (f t : Nat) : (mkR M f t).length = M.length := by simp [mkR]
theorem mkR_at {M : List Bool} {f t x : Nat} (h : x < (mkR M f t).length) : (mkR M f t)[x] = (M[x]'(by rw [mkR_len] at h; exact h) || (decide (f ≤ x) && decide (x < t))) := by simp [mkR]
theorem mkR_0 (M : List Bool) (f t : Nat) (h : t ≤ f) : mkR M f t = M := by
  refine List.ext_getElem (mkR_len M f t) fun x h1 h2 => ?_
  rw [mkR_at h1]
  have : (decide (f ≤ x) && decide (x < t)) = false := by
    rw [Bool.and_eq_false_iff, decide_eq_false_iff_not, decide_eq_false_iff_not]; omega
  rw [this, Bool.or_false]
theorem mkR_succ {M : List Bool} {f t : Nat} (h : f ≤ t) : mkR M f (t + 1) = (mkR M f t).set t true := by
  refine List.ext_getElem (by rw [List.length_set, mkR_len, mkR_len]) fun x h1 h2 => ?_
  rw [List.getElem_set, mkR_at h1]
  by_cases e : t = x
  · rw [if_pos e, Bool.or_eq_true]
    exact .inr (by rw [Bool.and_eq_true, decide_eq_true_eq, decide_eq_true_eq]; omega)
  · rw [if_neg e, mkR_at]
    congr 1
    rw [Bool.eq_iff_iff, Bool.and_eq_true, Bool.and_eq_true, decide_eq_true_eq, decide_eq_true_eq, decide_eq_true_eq]
    omega
theorem jGo_step (p : List Lin) (d : Int) {k : Nat} (h : k < p.length) : jGo p d (p.length - k) k = if d ≤ dep p k then jGo p d (p.length - (k + 1)) (k + 1) else k := by
  obtain ⟨m, hm⟩ : ∃ m, p.length - k = m + 1 := ⟨p.length - k - 1, by omega⟩
  rw [hm, show p.length - (k + 1) = m by omega]
  rfl
theorem jGo_end (p : List Lin) (d : Int) {k : Nat} (h : ¬ k < p.length) : jGo p d (p.length - k) k = k := by
  rw [show p.length - k = 0 by omega]; rfl
def mjL (p : List Lin) (k : Nat) : List Bool := (List.range p.length).map (mkJ p k)
theorem mjL_len (p : List Lin) (k : Nat) : (mjL p k).length = p.length := by simp [mjL]
theorem mjL_at {p : List Lin} {k x : Nat} (h : x < (mjL p k).length) : (mjL p k)[x] = mkJ p k x := by simp [mjL]
theorem mjL_0 (p : List Lin) : mjL p 0 = List.replicate p.length false := by
  refine List.ext_getElem (by simp [mjL]) fun x h1 h2 => ?_
  rw [mjL_at]; simp [mkJ]
theorem mkJ_succ (p : List Lin) (k x : Nat) : mkJ p (k + 1) x = (mkJ p k x || jIn p k x) := by
  unfold mkJ; rw [List.range_succ, List.any_append]; simp
theorem mjL_yes {p : List Lin} {k : Nat} (h : jmpK (knd p k) = true) : mjL p (k + 1) = mkR (mjL p k) (k + 1) (jEnd p k) := by
  refine List.ext_getElem (by rw [mkR_len, mjL_len, mjL_len]) fun x h1 h2 => ?_
  rw [mjL_at, mkR_at, mjL_at, mkJ_succ]
  unfold jIn
  rw [h, Bool.true_and]
  rfl
theorem mjL_no {p : List Lin} {k : Nat} (h : jmpK (knd p k) = false) : mjL p (k + 1) = mjL p k := by
  refine List.ext_getElem (by rw [mjL_len, mjL_len]) fun x h1 h2 => ?_
  rw [mjL_at, mjL_at, mkJ_succ]
  unfold jIn
  rw [h]; simp
end

section
/-- the program's marks -/
def mL1 (p : List Lin) (k : Nat) : List Bool := (List.range p.length).map fun x => mkJ p p.length x || mLoop p k x
def mL2 (p : List Lin) (D : List Nat) (t : Nat) : List Bool := (List.range p.length).map fun x => mkJ p p.length x || mLoop p p.length x || mDex p (D.take t) x
theorem mL1_len (p : List Lin) (k : Nat) : (mL1 p k).length = p.length := by simp [mL1]
theorem mL2_len (p : List Lin) (D : List Nat) (t : Nat) : (mL2 p D t).length = p.length := by simp [mL2]
theorem mL1_at {p : List Lin} {k x : Nat} (h : x < (mL1 p k).length) : (mL1 p k)[x] = (mkJ p p.length x || mLoop p k x) := by simp [mL1]
theorem mL2_at {p : List Lin} {D : List Nat} {t x : Nat} (h : x < (mL2 p D t).length) : (mL2 p D t)[x] = (mkJ p p.length x || mLoop p p.length x || mDex p (D.take t) x) := by simp [mL2]
theorem mL1_0 (p : List Lin) : mL1 p 0 = mjL p p.length := by
  refine List.ext_getElem (by rw [mL1_len, mjL_len]) fun x h1 h2 => ?_
  rw [mL1_at, mjL_at]
  show (mkJ p p.length x || false) = _
  rw [Bool.or_false]
theorem mLoop_succ (p : List Lin) (k x : Nat) : mLoop p (k + 1) x = (mLoop p k x || (lp0 p k && decide (k + 1 ≤ x) && decide (x < bEnd p k))) := by
  unfold mLoop
  rw [List.range_succ, List.any_append, List.any_cons, List.any_nil, Bool.or_false]
theorem mL1_yes {p : List Lin} {k : Nat} (h : lp0 p k = true) : mL1 p (k + 1) = mkR (mL1 p k) (k + 1) (bEnd p k) := by
  refine List.ext_getElem (by rw [mkR_len, mL1_len, mL1_len]) fun x h1 h2 => ?_
  rw [mL1_at, mkR_at, mL1_at, mLoop_succ, h, Bool.true_and, Bool.or_assoc]
theorem mL1_no {p : List Lin} {k : Nat} (h : lp0 p k = false) : mL1 p (k + 1) = mL1 p k := by
  refine List.ext_getElem (by rw [mL1_len, mL1_len]) fun x h1 h2 => ?_
  rw [mL1_at, mL1_at, mLoop_succ, h, Bool.false_and, Bool.false_and, Bool.or_false]
theorem mL2_0 (p : List Lin) (D : List Nat) : mL2 p D 0 = mL1 p p.length := by
  refine List.ext_getElem (by rw [mL2_len, mL1_len]) fun x h1 h2 => ?_
  rw [mL2_at, mL1_at]
  show (_ || false) = _
  rw [Bool.or_false]
theorem mL2_step {p : List Lin} {D : List Nat} {t : Nat} (h : t < D.length) : mL2 p D (t + 1) = mkR (mL2 p D t) D[t] (bEnd p D[t]) := by
  refine List.ext_getElem (by rw [mkR_len, mL2_len, mL2_len]) fun x h1 h2 => ?_
  rw [mL2_at, mkR_at, mL2_at]
  have e : mDex p (D.take (t + 1)) x = (mDex p (D.take t) x || (decide (D[t] ≤ x) && decide (x < bEnd p D[t]))) := by
    unfold mDex
    rw [← List.take_append_getElem h, List.any_append, List.any_cons, List.any_nil, Bool.or_false]
  rw [e]
  simp [Bool.or_assoc]
theorem mL2_all {xs : List Cls} {p : List Lin} {x : Nat} (h : x < (mL2 p (deD xs p p.length) (deD xs p p.length).length).length) : (mL2 p (deD xs p p.length) (deD xs p p.length).length)[x] = mAll xs p x := by
  rw [mL2_at, List.take_length]; rfl
theorem fmL_succ (M : Nat → Bool) (k : Nat) : fmL M (k + 1) = fmL M k ++ (if M k = true then [k] else []) := rfl
theorem fmL_len (M : Nat → Bool) : ∀ k, (fmL M k).length ≤ k
  | 0 => Nat.le_refl _
  | k + 1 => by
    have := fmL_len M k
    rw [fmL_succ, List.length_append]
    split <;> simp <;> omega
theorem fmL_lt {M : Nat → Bool} : ∀ k, ∀ x ∈ fmL M k, x < k
  | 0, x, h => by cases h
  | k + 1, x, h => by
    rw [fmL_succ] at h
    rcases List.mem_append.1 h with h | h
    · have := fmL_lt k x h; omega
    · split at h
      · rw [List.mem_singleton] at h; omega
      · cases h
end
end
end Go.Proofs.YtgjlmfjmjglplaaGreat
