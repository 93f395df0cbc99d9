/- one text of PA, HM -/
import Derived.Test.YtkpnajffeclmdaaCl26
import Derived.Test.YtkpnajffeclmdaaCl25
import Derived.Test.YtkpnajffeclmdaaCl27
import Derived.Test.YtkpnajffeclmdaaCl28
import Derived.Test.YtkpnajffeclmdaaCl15
import Derived.Test.YtkpnajffeclmdaaCl5
namespace Go.Proofs.Ytkpnajffeclmdaa
open Go.RowKit
set_option linter.unusedVariables false
section
theorem isAL_iff {xs : List Cls} {a b : Int} : isAL xs a b = true ↔ b ∈ aboveL xs a := by unfold isAL; exact hasI_iff
theorem isAL_self {xs : List Cls} {a : Int} (h : 0 ≤ a) : isAL xs a a = true := by
  rw [isAL_iff, aboveL, if_pos h]; exact List.mem_cons_self
theorem isAL_le {xs : List Cls} (g : Good xs) {a b : Int} (ha : a < xs.length) (h : isAL xs a b = true) : 0 ≤ b ∧ b ≤ a := aboveL_mem g _ a rfl ha b (isAL_iff.1 h)
theorem isAL_trans {xs : List Cls} (g : Good xs) : ∀ (m : Nat) (a : Int), (a + 1).toNat = m → a < xs.length → ∀ {b c : Int}, isAL xs a b = true → isAL xs b c = true → isAL xs a c = true := by
  intro m
  induction m using Nat.strongRecOn with
  | _ m ih =>
    intro a hm ha b c hb hc
    by_cases h : a < 0
    · rw [isAL_neg h] at hb; cases hb
    · obtain ⟨i, rfl⟩ := Int.eq_ofNat_of_zero_le (by omega : 0 ≤ a)
      have hi : i < xs.length := by omega
      have hp := g.par_le hi
      rw [isAL_at g hi, Bool.or_eq_true] at hb
      rcases hb with hb | hb
      · have : (i : Int) = b := by simpa using hb
        rw [this]; exact hc
      · rw [isAL_at g hi, ih (xs[i].parent + 1).toNat (by omega) _ rfl (by omega) hb hc, Bool.or_true]
theorem isAL_tr {xs : List Cls} (g : Good xs) {a b c : Int} (ha : a < xs.length) (hb : isAL xs a b = true) (hc : isAL xs b c = true) : isAL xs a c = true := isAL_trans g _ a rfl ha hb hc
theorem isAL_anti {xs : List Cls} (g : Good xs) {a b : Int} (ha : a < xs.length) (hb : b < xs.length) (h : isAL xs a b = true) (k : isAL xs b a = true) : a = b := by
  have := isAL_le g ha h; have := isAL_le g hb k; omega

theorem aboveL_head {xs : List Cls} {a : Int} (h : 0 ≤ a) : ∃ r, aboveL xs a = a :: r := by rw [aboveL, if_pos h]; exact ⟨_, rfl⟩
theorem aboveL_chain? {xs : List Cls} (g : Good xs) : ∀ (m : Nat) (a : Int), (a + 1).toNat = m → a < xs.length → ∀ (k : Nat) (x y : Int), (aboveL xs a)[k]? = some x → (aboveL xs a)[k + 1]? = some y → parOf xs x = y := by
  intro m
  induction m using Nat.strongRecOn with
  | _ m ih =>
    intro a hm ha k x y hx hy
    by_cases h : a < 0
    · exfalso; rw [aboveL_neg h] at hx; simp at hx
    · obtain ⟨i, rfl⟩ := Int.eq_ofNat_of_zero_le (by omega : 0 ≤ a)
      have hi : i < xs.length := by omega
      have hp := g.par_le hi
      have ihp := ih (xs[i].parent + 1).toNat (by omega) xs[i].parent rfl (by omega)
      rw [aboveL_at g hi] at hx hy
      rw [List.getElem?_cons_succ] at hy
      cases k with
      | zero =>
        rw [List.getElem?_cons_zero] at hx
        injection hx with hx
        rw [← hx, parOf_at hi]
        by_cases h0 : xs[i].parent < 0
        · exfalso; rw [aboveL_neg h0] at hy; simp at hy
        · obtain ⟨r, hr⟩ := aboveL_head (xs := xs) (a := xs[i].parent) (by omega)
          rw [hr, List.getElem?_cons_zero] at hy
          injection hy
      | succ k =>
        rw [List.getElem?_cons_succ] at hx
        exact ihp k x y hx hy
theorem aboveL_chain {xs : List Cls} (g : Good xs) {a : Int} (ha : a < xs.length) {k : Nat} (h : k + 1 < (aboveL xs a).length) : parOf xs ((aboveL xs a)[k]'(by omega)) = (aboveL xs a)[k + 1] :=
  aboveL_chain? g _ a rfl ha k _ _ (List.getElem?_eq_getElem (by omega)) (List.getElem?_eq_getElem h)
theorem aboveL_last? {xs : List Cls} (g : Good xs) : ∀ (m : Nat) (a : Int), (a + 1).toNat = m → a < xs.length → 0 ≤ a → (aboveL xs a)[(aboveL xs a).length - 1]? = some 0 := by
  intro m
  induction m using Nat.strongRecOn with
  | _ m ih =>
    intro a hm ha h
    obtain ⟨i, rfl⟩ := Int.eq_ofNat_of_zero_le h
    have hi : i < xs.length := by omega
    have hp := g.par_le hi
    rw [aboveL_at g hi]
    by_cases h0 : i = 0
    · subst h0
      have : aboveL xs xs[0].parent = [] := aboveL_neg (by have := g.root hi; omega)
      rw [this]; rfl
    · have hpp := g.par i hi (by omega)
      obtain ⟨r, hr⟩ := aboveL_head (xs := xs) hpp.1
      have := ih (xs[i].parent + 1).toNat (by omega) xs[i].parent rfl (by omega) hpp.1
      rw [hr] at this ⊢
      simpa using this
theorem aboveL_last {xs : List Cls} (g : Good xs) {a : Int} (ha : a < xs.length) (h0 : 0 ≤ a) {k : Nat} (hk : k < (aboveL xs a).length) (hl : k + 1 = (aboveL xs a).length) : (aboveL xs a)[k] = 0 := by
  have h := aboveL_last? g _ a rfl ha h0
  have e : (aboveL xs a).length - 1 = k := by omega
  rw [e, List.getElem?_eq_getElem hk] at h
  injection h

/-- numbers below k that meet P, ascending -/
def filt (P : Int → Bool) : Nat → List Int
  | 0 => []
  | k + 1 => filt P k ++ (if P k then [(k : Int)] else [])
theorem filt_mem {P : Int → Bool} : ∀ {k : Nat} {x : Int}, x ∈ filt P k ↔ 0 ≤ x ∧ x < k ∧ P x = true
  | 0, x => by simp [filt]; omega
  | k + 1, x => by
    unfold filt
    rw [List.mem_append, filt_mem (k := k)]
    cases h : P (k : Int)
    · simp only [Bool.false_eq_true, if_false, List.not_mem_nil, or_false]
      constructor
      · rintro ⟨h0, h1, h2⟩; exact ⟨h0, by omega, h2⟩
      · rintro ⟨h0, h1, h2⟩
        have : x ≠ k := fun e => by subst e; rw [h] at h2; cases h2
        exact ⟨h0, by omega, h2⟩
    · simp
      constructor
      · rintro (⟨h0, h1, h2⟩ | rfl)
        · exact ⟨h0, by omega, h2⟩
        · exact ⟨by omega, by omega, h⟩
      · rintro ⟨h0, h1, h2⟩
        by_cases e : x = k
        · exact .inr e
        · exact .inl ⟨h0, by omega, h2⟩
theorem filt_asc {P : Int → Bool} : ∀ (k : Nat), (filt P k).Pairwise (· < ·)
  | 0 => by simp [filt]
  | k + 1 => by
    unfold filt
    rw [List.pairwise_append]
    refine ⟨filt_asc k, by split <;> simp, fun a ha b hb => ?_⟩
    have h1 := filt_mem.1 ha
    split at hb
    · simp at hb; omega
    · cases hb
theorem filt_congr {P Q : Int → Bool} : ∀ (k : Nat), (∀ x : Int, 0 ≤ x → x < k → P x = Q x) → filt P k = filt Q k
  | 0, _ => rfl
  | k + 1, h => by unfold filt; rw [filt_congr k (fun x h0 h1 => h x h0 (by omega)), h k (by omega) (by omega)]
theorem filt_all {P : Int → Bool} : ∀ (k : Nat), (∀ x : Int, 0 ≤ x → x < k → P x = true) → (filt P k).length = k
  | 0, _ => rfl
  | k + 1, h => by unfold filt; rw [h k (by omega) (by omega), List.length_append, filt_all k (fun x h0 h1 => h x h0 (by omega))]; rfl
theorem filt_le {P Q : Int → Bool} : ∀ (k : Nat), (∀ x : Int, 0 ≤ x → x < k → P x = true → Q x = true) → (filt P k).length ≤ (filt Q k).length
  | 0, _ => Nat.le_refl _
  | k + 1, h => by
    unfold filt
    have := filt_le k (fun x h0 h1 => h x h0 (by omega))
    have hk := h k (by omega) (by omega)
    rw [List.length_append, List.length_append]
    cases hp : P k
    · simp only [Bool.false_eq_true, if_false, List.length_nil]; omega
    · rw [hk hp]; simp; exact this
theorem filt_lt {P Q : Int → Bool} {y : Int} : ∀ (k : Nat), (∀ x : Int, 0 ≤ x → x < k → P x = true → Q x = true) → 0 ≤ y → y < k → P y = false → Q y = true → (filt P k).length < (filt Q k).length
  | 0, _, _, _, _, _ => by omega
  | k + 1, h, h0, h1, h2, h3 => by
    unfold filt
    have hk := h k (by omega) (by omega)
    rw [List.length_append, List.length_append]
    by_cases e : y = k
    · subst e
      have := filt_le k (fun x h0 h1 => h x h0 (by omega))
      rw [h2, h3]; simp; omega
    · have := filt_lt k (fun x h0 h1 => h x h0 (by omega)) h0 (by omega) h2 h3
      cases hp : P k
      · simp only [Bool.false_eq_true, if_false, List.length_nil]; omega
      · rw [hk hp]; simp; exact this
theorem asc_first {L : List Int} {a : Int} (h : L.Pairwise (· < ·)) (ha : a ∈ L) (hm : ∀ x ∈ L, a ≤ x) (h0 : 0 < L.length) : L[0] = a := by
  cases L with
  | nil => cases ha
  | cons x r =>
    show x = a
    rw [List.pairwise_cons] at h
    rcases List.mem_cons.1 ha with rfl | hr
    · rfl
    · have := h.1 a hr; have := hm x List.mem_cons_self; omega

theorem belowK_filt (xs : List Cls) (a : Int) : ∀ k, belowK xs a k = filt (fun x => isAL xs x a) k
  | 0 => rfl
  | k + 1 => by unfold belowK filt; rw [belowK_filt xs a k]
theorem caughtK_filt (xs : List Cls) (L : List Int) : ∀ k, caughtK xs L k = filt (fun x => decide (0 ≤ firstC xs L x 0)) k
  | 0 => rfl
  | k + 1 => by unfold caughtK filt; rw [caughtK_filt xs L k]; simp
theorem deadK_filt (xs : List Cls) (L : List Int) : ∀ k, deadK xs L k = filt (fun x => decide (0 ≤ firstC xs (L.take x.toNat) (L.getD x.toNat 0) 0)) k
  | 0 => rfl
  | k + 1 => by unfold deadK filt; rw [deadK_filt xs L k]; simp
theorem belowK_mem {xs : List Cls} {a : Int} {k : Nat} {x : Int} : x ∈ belowK xs a k ↔ 0 ≤ x ∧ x < k ∧ isAL xs x a = true := by rw [belowK_filt, filt_mem]
theorem belowK_asc (xs : List Cls) (a : Int) (k : Nat) : (belowK xs a k).Pairwise (· < ·) := by rw [belowK_filt]; exact filt_asc k
theorem belowK_first {xs : List Cls} (g : Good xs) {a : Int} (h0 : 0 ≤ a) (ha : a < xs.length) (hp : 0 < (belowK xs a xs.length).length) : (belowK xs a xs.length)[0] = a :=
  asc_first (belowK_asc _ _ _) (belowK_mem.2 ⟨h0, ha, isAL_self h0⟩) (fun x hx => by have h := belowK_mem.1 hx; exact (isAL_le g h.2.1 h.2.2).2) hp
theorem belowK_root {xs : List Cls} (g : Good xs) : (belowK xs 0 xs.length).length = xs.length := by
  rw [belowK_filt]; exact filt_all _ (fun x h0 h1 => isA_root g h0 h1)
theorem belowK_below {xs : List Cls} (g : Good xs) {a c d : Int} (hc : c ∈ belowK xs a xs.length) (hd : d ∈ belowK xs c xs.length) : d ∈ belowK xs a xs.length := by
  have h1 := belowK_mem.1 hc
  have h2 := belowK_mem.1 hd
  exact belowK_mem.2 ⟨h2.1, h2.2.1, isAL_tr g h2.2.1 h2.2.2 h1.2.2⟩

theorem firstC_spec (xs : List Cls) (a : Int) : ∀ (L : List Int) (j : Int), (firstC xs L a j = -1 ∧ ∀ i (h : i < L.length), isAL xs a L[i] = false) ∨ ∃ i, ∃ h : i < L.length, firstC xs L a j = j + i ∧ isAL xs a L[i] = true ∧ ∀ k (hk : k < i), isAL xs a (L[k]'(by omega)) = false
  | [], j => .inl ⟨rfl, fun i h => absurd h (by simp)⟩
  | c :: r, j => by
    unfold firstC
    cases h : isAL xs a c
    · rw [if_neg (by simp)]
      rcases firstC_spec xs a r (j + 1) with ⟨h1, h2⟩ | ⟨i, hi, h1, h2, h3⟩
      · refine .inl ⟨h1, fun i hi => ?_⟩
        cases i with
        | zero => exact h
        | succ i => exact h2 i (by simpa using hi)
      · refine .inr ⟨i + 1, by simpa using hi, by rw [h1]; omega, h2, fun k hk => ?_⟩
        cases k with
        | zero => exact h
        | succ k => exact h3 k (by omega)
    · rw [if_pos rfl]
      exact .inr ⟨0, by simp, by simp, h, fun k hk => absurd hk (by omega)⟩
theorem dead_iff {xs : List Cls} {L : List Int} {k : Nat} (hk : k < L.length) : (k : Int) ∈ deadK xs L L.length ↔ ∃ j, ∃ hj : j < k, isAL xs L[k] (L[j]'(by omega)) = true := by
  rw [deadK_filt, filt_mem]
  simp only [Int.toNat_natCast, decide_eq_true_eq]
  rw [List.getD_eq_getElem?_getD, List.getElem?_eq_getElem hk, Option.getD_some]
  rw [firstC_nonneg (by omega)]
  constructor
  · rintro ⟨_, _, b, hb, h⟩
    obtain ⟨j, hj, rfl⟩ := List.getElem_of_mem hb
    rw [List.length_take] at hj
    rw [List.getElem_take] at h
    exact ⟨j, by omega, h⟩
  · rintro ⟨j, hj, h⟩
    refine ⟨by omega, by omega, L[j], ?_, h⟩
    have : j < (L.take k).length := by rw [List.length_take]; omega
    have e : (L.take k)[j] = L[j] := List.getElem_take
    rw [← e]; exact List.getElem_mem _
theorem dead_first {xs : List Cls} {L : List Int} (gc : GoodC xs L) {a : Int} (ha : a < xs.length) : hasI (deadK xs L L.length) (firstC xs L a 0) = false := by
  cases h : hasI (deadK xs L L.length) (firstC xs L a 0)
  · rfl
  · rw [hasI_iff] at h
    rcases firstC_spec xs a L 0 with ⟨h1, _⟩ | ⟨i, hi, h1, h2, h3⟩
    · rw [h1, deadK_filt, filt_mem] at h; omega
    · rw [h1, Int.zero_add, dead_iff hi] at h
      obtain ⟨j, hj, h⟩ := h
      have := h3 j hj
      rw [isAL_tr gc.tree ha h2 h] at this; cases this
theorem live_first {xs : List Cls} {L : List Int} (gc : GoodC xs L) {k : Nat} (hk : k < L.length) (h : hasI (deadK xs L L.length) (k : Int) = false) : firstC xs L L[k] 0 = k := by
  have hm := gc.mem L[k] (List.getElem_mem hk)
  rcases firstC_spec xs L[k] L 0 with ⟨_, h2⟩ | ⟨i, hi, h1, h2, h3⟩
  · have := h2 k hk; rw [isAL_self hm.1] at this; cases this
  · rcases Nat.lt_trichotomy i k with hlt | heq | hgt
    · exfalso
      have : hasI (deadK xs L L.length) (k : Int) = true := hasI_iff.2 ((dead_iff hk).2 ⟨i, hlt, h2⟩)
      rw [this] at h; cases h
    · omega
    · have := h3 k hgt; rw [isAL_self hm.1] at this; cases this
theorem deadK_asc (xs : List Cls) (L : List Int) (k : Nat) : (deadK xs L k).Pairwise (· < ·) := by rw [deadK_filt]; exact filt_asc k
theorem caughtK_asc (xs : List Cls) (L : List Int) (k : Nat) : (caughtK xs L k).Pairwise (· < ·) := by rw [caughtK_filt]; exact filt_asc k
theorem caughtK_mem {xs : List Cls} {L : List Int} {k : Nat} {x : Int} : x ∈ caughtK xs L k ↔ 0 ≤ x ∧ x < k ∧ ∃ b ∈ L, isAL xs x b = true := by
  rw [caughtK_filt, filt_mem]; simp only [decide_eq_true_eq]; rw [firstC_nonneg (by omega)]
theorem caughtK_congr {xs : List Cls} {L M : List Int} {k : Nat} (h : ∀ x : Int, 0 ≤ x → x < k → ((∃ b ∈ L, isAL xs x b = true) ↔ ∃ b ∈ M, isAL xs x b = true)) : caughtK xs L k = caughtK xs M k := by
  rw [caughtK_filt, caughtK_filt]
  refine filt_congr k (fun x h0 h1 => ?_)
  have := h x h0 h1
  rw [← firstC_nonneg (j := 0) (by omega), ← firstC_nonneg (j := 0) (by omega)] at this
  simp only [decide_eq_decide]; exact this
theorem caught_has {xs : List Cls} {L : List Int} (a : Int) (h0 : 0 ≤ a) (ha : a < xs.length) : hasI (caughtK xs L xs.length) a = decide (0 ≤ firstC xs L a 0) := by
  rw [Bool.eq_iff_iff, hasI_iff, caughtK_filt, filt_mem]; simp; omega
theorem caught_below {xs : List Cls} {L : List Int} (g : Good xs) {c d : Int} (hc : c ∈ caughtK xs L xs.length) (hd : d ∈ belowK xs c xs.length) : d ∈ caughtK xs L xs.length := by
  obtain ⟨_, _, b, hb, h1⟩ := caughtK_mem.1 hc
  have h2 := belowK_mem.1 hd
  exact caughtK_mem.2 ⟨h2.1, h2.2.1, b, hb, isAL_tr g h2.2.1 h2.2.2 h1⟩

def liveK (xs : List Cls) (L : List Int) : Nat → List Int
  | 0 => []
  | k + 1 => liveK xs L k ++ (if hasI (deadK xs L L.length) (k : Int) then [] else [L.getD k 0])
theorem liveK_len (xs : List Cls) (L : List Int) : ∀ k, (liveK xs L k).length ≤ k
  | 0 => Nat.le_refl _
  | k + 1 => by
    have := liveK_len xs L k
    unfold liveK
    split <;> simp <;> omega
theorem liveK_yes {xs : List Cls} {L : List Int} {k : Nat} (h : hasI (deadK xs L L.length) (k : Int) = true) : liveK xs L (k + 1) = liveK xs L k := by rw [liveK, if_pos h, List.append_nil]
theorem liveK_no {xs : List Cls} {L : List Int} {k : Nat} (hk : k < L.length) (h : hasI (deadK xs L L.length) (k : Int) = false) : liveK xs L (k + 1) = liveK xs L k ++ [L[k]] := by
  rw [liveK, h, List.getD_eq_getElem?_getD, List.getElem?_eq_getElem hk]; rfl
theorem liveK_mem {xs : List Cls} {L : List Int} : ∀ {k : Nat}, k ≤ L.length → ∀ {x : Int}, x ∈ liveK xs L k ↔ ∃ i, ∃ _ : i < k, ∃ h2 : i < L.length, hasI (deadK xs L L.length) (i : Int) = false ∧ L[i] = x
  | 0, _, x => by simp [liveK]
  | k + 1, hk, x => by
    cases h : hasI (deadK xs L L.length) (k : Int)
    · rw [liveK_no (by omega) h, List.mem_append, liveK_mem (by omega)]
      simp only [List.mem_singleton]
      constructor
      · rintro (⟨i, h1, h2, h3, h4⟩ | rfl)
        · exact ⟨i, by omega, h2, h3, h4⟩
        · exact ⟨k, by omega, by omega, h, rfl⟩
      · rintro ⟨i, h1, h2, h3, h4⟩
        by_cases e : i = k
        · subst e; exact .inr h4.symm
        · exact .inl ⟨i, by omega, h2, h3, h4⟩
    · rw [liveK_yes h, liveK_mem (by omega)]
      constructor
      · rintro ⟨i, h1, h2, h3, h4⟩; exact ⟨i, by omega, h2, h3, h4⟩
      · rintro ⟨i, h1, h2, h3, h4⟩
        have : i ≠ k := fun e => by subst e; rw [h] at h3; cases h3
        exact ⟨i, by omega, h2, h3, h4⟩
theorem goodC_mk {xs : List Cls} {L : List Int} (ho : okTree xs = true) (hm : ∀ b ∈ L, 0 ≤ b ∧ b < xs.length) (hl : L.length ≤ 6) : goodC xs L = true := by
  unfold goodC
  rw [ho, goodL_mk (fun b hb => hasK_iff.2 (hm b hb))]; simp; exact hl
theorem goodC_ok {xs : List Cls} {L : List Int} (h : goodC xs L = true) : okTree xs = true := by unfold goodC at h; simp at h; exact h.1.1
theorem live_good {xs : List Cls} {L : List Int} (h : goodC xs L = true) : goodC xs (liveK xs L L.length) = true := by
  have gc := goodC_of h
  refine goodC_mk (goodC_ok h) (fun b hb => ?_) (by have := liveK_len xs L L.length; have := gc.few; omega)
  obtain ⟨i, h1, h2, _, rfl⟩ := (liveK_mem (Nat.le_refl _)).1 hb
  exact gc.mem _ (List.getElem_mem h2)
theorem caught_live {xs : List Cls} {L : List Int} (h : goodC xs L = true) : caughtX xs (liveK xs L L.length) = caughtX xs L := by
  have gc := goodC_of h
  rw [caughtX_of h, caughtX_of (live_good h)]
  refine caughtK_congr (fun x h0 h1 => ⟨?_, ?_⟩)
  · rintro ⟨b, hb, hx⟩
    obtain ⟨i, _, h2, _, rfl⟩ := (liveK_mem (Nat.le_refl _)).1 hb
    exact ⟨_, List.getElem_mem h2, hx⟩
  · intro hx
    have hn := (firstC_nonneg (xs := xs) (a := x) (L := L) (j := 0) (by omega)).2 hx
    have hd := dead_first gc (a := x) h1
    rcases firstC_spec xs x L 0 with ⟨h1, _⟩ | ⟨i, hi, h1, h2, _⟩
    · omega
    · rw [h1, Int.zero_add] at hd
      exact ⟨L[i], (liveK_mem (Nat.le_refl _)).2 ⟨i, hi, hi, hd, rfl⟩, h2⟩
end

section
def addOk (xs : List Cls) (s : ByteArray) (p : Int) : Bool := okTree xs && okTree (xs ++ [⟨s, p⟩])
def addX (xs : List Cls) (s : ByteArray) (p : Int) : List Cls := cond (addOk xs s p) (xs ++ [⟨s, p⟩]) []
theorem addX_of {xs : List Cls} {s : ByteArray} {p : Int} {t : Bool} (h : addOk xs s p = t) : addX xs s p = cond t (xs ++ [⟨s, p⟩]) [] := by unfold addX; rw [h]
theorem addX_len (xs : List Cls) (s : ByteArray) (p : Int) : (addX xs s p).length ≤ 1048576 := by
  cases h : addOk xs s p
  · rw [addX_of h]; simp
  · rw [addX_of h]
    have h2 := h
    unfold addOk at h2
    rw [Bool.and_eq_true] at h2
    have := (good_of h2.2).hi
    simp at this ⊢; omega
theorem cls_mk_ok {s : ByteArray} {p : Int} (hs : s.size ≤ 9223372036854775807) (hp : -9223372036854775808 ≤ p ∧ p ≤ 9223372036854775807) : Enc.ok (⟨s, p⟩ : Cls) := ⟨hs, hp.1, hp.2⟩
theorem clsInfoA : (Try.prog.info? 104).map (fun i => (i.zero, i.size, i.bytes)) = some (some (.agg #[.string ByteArray.empty, .int .i64 0]), 2, 24) := by kernel_rfl
theorem add_end {w w' : World} {A2 : Option Addr} {n q2 : Nat} {ys : List Cls} {x : Value} (c1 : w'.cell? ⟨w.heap.size + 1, 0, none⟩ = some x) (L0 : Le w w') (O2 : w'.ownsRow (w.heap.size + 1 + 1) 104 2 (.slice A2 (n + 1) q2) (n + 1) (ys.flatMap Enc.cells))
    (hok : ∀ x ∈ ys, Enc.ok x) (hl : ys.length = n + 1) (u : Value) : Owd 104 w (w'.setCell ⟨w.heap.size + 1, 0, none⟩ u) (.slice A2 (n + 1) q2) ys ∧ Le w (w'.setCell ⟨w.heap.size + 1, 0, none⟩ u) := by
  refine ⟨⟨?_, hok⟩, L0.setCell (by omega) u⟩
  rw [hl]
  exact own_mono (O2.kept (grown_set w' (w.heap.size + 1) 0 u) (.inr (fun e => by have := (O2.lt _ e).1; omega))) (by omega)
end
end Go.Proofs.Ytkpnajffeclmdaa
