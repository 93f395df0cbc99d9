/- one text of PG, RI, RA, RJ -/
import Derived.Test.YthcolcmgfhkbeaaDoorCt13
import Derived.Test.YthcolcmgfhkbeaaDoorCt7
import Derived.Test.YthcolcmgfhkbeaaDoorCt2
import Derived.Test.YthcolcmgfhkbeaaDoorCt5
import Derived.Test.YthcolcmgfhkbeaaDoorCt3
import Derived.Deep.RegionHeld3
import Derived.WalkSmall
import Derived.Deep.LoopGhost
namespace Go.Proofs.YthcolcmgfhkbeaaDoor
open Go.RowKit
set_option linter.unusedVariables false
section
theorem shown_left {hs ks : List Flt} {x : Int} (h0 : 0 ≤ x) (h1 : x < hs.length) : shownAt (joinL hs ks) x = shownAt hs x := by
  obtain ⟨i, rfl⟩ := Int.eq_ofNat_of_zero_le h0
  rw [shownAt_at (by rw [joinL_len]; omega), shownAt_at (by omega), joinL_left _ (by omega)]
theorem shl_nonneg {n : Nat} {x : Int} : (0 ≤ shl n x) ↔ 0 ≤ x := by unfold shl; split <;> omega
theorem shown_shF (n : Nat) (x : Flt) (h1 : -1 ≤ x.cause) (h2 : -1 ≤ x.ctx) : shownOf (shF n x) = shl n (shownOf x) := by
  unfold shownOf shF
  have e : decide (0 ≤ shl n x.cause) = decide (0 ≤ x.cause) := by
    by_cases h : 0 ≤ x.cause
    · rw [decide_eq_true h, decide_eq_true (shl_nonneg.2 h)]
    · rw [decide_eq_false h, decide_eq_false (fun g => h (shl_nonneg.1 g))]
  simp only [e]
  cases decide (0 ≤ x.cause)
  · cases x.hide
    · rfl
    · rfl
  · rfl
theorem shown_right {hs ks : List Flt} (lk : Lnk ks) {x : Int} (h0 : 0 ≤ x) (h1 : x < ks.length) : shownAt (joinL hs ks) (x + hs.length) = shl hs.length (shownAt ks x) := by
  obtain ⟨i, rfl⟩ := Int.eq_ofNat_of_zero_le h0
  have e : ((i : Int) + (hs.length : Int)) = ((i + hs.length : Nat) : Int) := by omega
  rw [e, shownAt_at (by rw [joinL_len]; omega), shownAt_at (by omega), joinL_right _ (by omega) (by omega)]
  have e2 : ks[i + hs.length - hs.length]'(by omega) = ks[i] := by simp
  rw [e2, shown_shF _ _ (lk.cause i (by omega)).1 (lk.ctx i (by omega)).1]
theorem chain_left {hs ks : List Flt} (lk : Lnk hs) (lj : Lnk (joinL hs ks)) {f : Int} (h0 : 0 ≤ f) (h1 : f < hs.length) : chainN (shownAt (joinL hs ks)) (joinL hs ks).length f = chainN (shownAt hs) hs.length f := by
  have hA := chain_is (shownAt_lt lk) h0 h1
  have hJ := chain_is (shownAt_lt lj) h0 (show f < (joinL hs ks).length by rw [joinL_len]; omega)
  refine hJ.uniq ?_
  have := hA.map (jx := shownAt (joinL hs ks)) (φ := id) (hA.rng h1 (shownAt_lt lk)) (fun _ _ e => e) (fun _ h => h) (fun x a b c => by show shownAt (joinL hs ks) x < 0; rw [shown_left a b]; exact c) (fun x a b c => shown_left a b)
  simpa using this
theorem chain_right {hs ks : List Flt} (lk : Lnk ks) (lj : Lnk (joinL hs ks)) {f : Int} (h0 : 0 ≤ f) (h1 : f < ks.length) :
    chainN (shownAt (joinL hs ks)) (joinL hs ks).length (f + hs.length) = (chainN (shownAt ks) ks.length f).map (· + (hs.length : Int)) := by
  have hA := chain_is (shownAt_lt lk) h0 h1
  have hJ := chain_is (shownAt_lt lj) (show 0 ≤ f + (hs.length : Int) by omega) (show f + (hs.length : Int) < (joinL hs ks).length by rw [joinL_len]; omega)
  refine hJ.uniq ?_
  exact hA.map (jx := shownAt (joinL hs ks)) (φ := (· + (hs.length : Int))) (hA.rng h1 (shownAt_lt lk)) (fun _ _ e => by simpa using e) (fun _ h => by show 0 ≤ _ + _; omega)
    (fun x a b c => by show shownAt (joinL hs ks) (x + _) < 0; rw [shown_right lk a b]; unfold shl; rw [if_pos c]; exact c)
    (fun x a b c => by show shownAt (joinL hs ks) (x + _) = _ + _; rw [shown_right lk a b]; unfold shl; rw [if_neg (by omega)])
theorem flt_left {hs ks : List Flt} {x : Int} (h0 : 0 ≤ x) (h1 : x < hs.length) : fltAt (joinL hs ks) x = fltAt hs x := by
  obtain ⟨i, rfl⟩ := Int.eq_ofNat_of_zero_le h0
  rw [fltAt_at (by rw [joinL_len]; omega), fltAt_at (by omega), joinL_left _ (by omega)]
theorem flt_right {hs ks : List Flt} {x : Int} (h0 : 0 ≤ x) (h1 : x < ks.length) : fltAt (joinL hs ks) (x + hs.length) = shF hs.length (fltAt ks x) := by
  obtain ⟨i, rfl⟩ := Int.eq_ofNat_of_zero_le h0
  have e : ((i : Int) + (hs.length : Int)) = ((i + hs.length : Nat) : Int) := by omega
  rw [e, fltAt_at (by rw [joinL_len]; omega), fltAt_at (by omega), joinL_right _ (by omega) (by omega)]
  have e2 : ks[i + hs.length - hs.length]'(by omega) = ks[i] := by simp
  rw [e2]
theorem chT_left {xs : List Cls} {hs ks : List Flt} : ∀ (L : List Int), (∀ x ∈ L, 0 ≤ x ∧ x < hs.length) → chT xs (joinL hs ks) L = chT xs hs L
  | [], _ => rfl
  | [x], h => by
    have hx := h x (by simp)
    show fT xs (joinL hs ks) x = fT xs hs x
    unfold fT; rw [flt_left hx.1 hx.2]
  | x :: y :: r, h => by
    have hx := h x (by simp)
    have ih := chT_left (xs := xs) (ks := ks) (y :: r) (fun z hz => h z (by simp at hz ⊢; right; exact hz))
    rw [chT, chT, ih]
    unfold fT lnkT; rw [flt_left hx.1 hx.2]
theorem chT_right {xs : List Cls} {hs ks : List Flt} : ∀ (L : List Int), (∀ x ∈ L, 0 ≤ x ∧ x < ks.length) → chT xs (joinL hs ks) (L.map (· + (hs.length : Int))) = chT xs ks L
  | [], _ => rfl
  | [x], h => by
    have hx := h x (by simp)
    show fT xs (joinL hs ks) (x + hs.length) = fT xs ks x
    unfold fT; rw [flt_right hx.1 hx.2]; rfl
  | x :: y :: r, h => by
    have hx := h x (by simp)
    have ih := chT_right (xs := xs) (hs := hs) (y :: r) (fun z hz => h z (by simp at hz ⊢; right; exact hz))
    rw [List.map_cons] at ih ⊢
    rw [List.map_cons, chT, chT, ih]
    have e : fT xs (joinL hs ks) (x + hs.length) = fT xs ks x := by unfold fT; rw [flt_right hx.1 hx.2]; rfl
    have e2 : lnkT (joinL hs ks) (x + hs.length) = lnkT ks x := by
      unfold lnkT; rw [flt_right hx.1 hx.2]
      show cond (decide (0 ≤ shl hs.length (fltAt ks x).cause)) sepG sepT = _
      by_cases hc : 0 ≤ (fltAt ks x).cause
      · rw [decide_eq_true hc, decide_eq_true (shl_nonneg.2 hc)]
      · rw [decide_eq_false hc, decide_eq_false (fun g => hc (shl_nonneg.1 g))]
    rw [e, e2]
/-- the texts of a joined heap -/
theorem text_left {xs : List Cls} {hs ks : List Flt} (lk : Lnk hs) (lj : Lnk (joinL hs ks)) {f : Int} (h0 : 0 ≤ f) (h1 : f < hs.length) :
    chT xs (joinL hs ks) (chainN (shownAt (joinL hs ks)) (joinL hs ks).length f) = chT xs hs (chainN (shownAt hs) hs.length f) := by
  rw [chain_left lk lj h0 h1]
  exact chT_left _ ((chain_is (shownAt_lt lk) h0 h1).lt (shownAt_lt lk) h1)
theorem text_right {xs : List Cls} {hs ks : List Flt} (lk : Lnk ks) (lj : Lnk (joinL hs ks)) {f : Int} (h0 : 0 ≤ f) (h1 : f < ks.length) :
    chT xs (joinL hs ks) (chainN (shownAt (joinL hs ks)) (joinL hs ks).length (f + hs.length)) = chT xs ks (chainN (shownAt ks) ks.length f) := by
  rw [chain_right lk lj h0 h1]
  exact chT_right _ ((chain_is (shownAt_lt lk) h0 h1).lt (shownAt_lt lk) h1)
end

section
/-- x is marked -/
def tr (fd : List Bool) (x : Int) : Prop := 0 ≤ x ∧ fd[x.toNat]? = some true
theorem tr_nat {fd : List Bool} {i : Nat} (h : i < fd.length) : tr fd (i : Int) ↔ fd[i] = true := by
  unfold tr; rw [Int.toNat_natCast, List.getElem?_eq_getElem h]; simp
theorem tr_lt {fd : List Bool} {x : Int} (h : tr fd x) : ∃ i : Nat, x = i ∧ i < fd.length := by
  obtain ⟨h0, h1⟩ := h
  obtain ⟨i, rfl⟩ := Int.eq_ofNat_of_zero_le h0
  rw [Int.toNat_natCast] at h1
  exact ⟨i, rfl, (List.getElem?_eq_some_iff.1 h1).1⟩
theorem tr_set {fd : List Bool} {i : Nat} (hi : i < fd.length) {x : Int} : tr (fd.set i true) x ↔ tr fd x ∨ x = i := by
  constructor
  · intro h
    obtain ⟨k, rfl, hk⟩ := tr_lt h
    rw [List.length_set] at hk
    rw [tr_nat (by simpa using hk), List.getElem_set] at h
    split at h
    · right; omega
    · left; exact (tr_nat hk).2 h
  · rintro (h | rfl)
    · obtain ⟨k, rfl, hk⟩ := tr_lt h
      rw [tr_nat (by simpa using hk), List.getElem_set]
      split
      · rfl
      · exact (tr_nat hk).1 h
    · rw [tr_nat (by simpa using hi)]; simp
theorem tr_start (n : Nat) (x : Int) : ¬ tr (List.replicate n false) x := by
  intro h
  obtain ⟨k, rfl, hk⟩ := tr_lt h
  rw [tr_nat hk] at h
  simp at h
/-- how many are not marked -/
def unm : List Bool → Nat
  | [] => 0
  | b :: r => cond b 0 1 + unm r
theorem unm_set : ∀ {fd : List Bool} {i : Nat} (h : i < fd.length), fd[i] = false → unm (fd.set i true) + 1 = unm fd
  | b :: r, 0, _, hb => by simp at hb; subst hb; simp [unm]; omega
  | b :: r, i + 1, h, hb => by
    have := unm_set (fd := r) (i := i) (by simpa using h) (by simpa using hb)
    simp only [List.set_cons_succ, unm]; omega
theorem unm_rep (n : Nat) : unm (List.replicate n false) = n := by
  induction n with
  | zero => rfl
  | succ n ih => rw [List.replicate_succ, unm, ih]; simp; omega
structure RInv (c d : Int → Int) (n : Nat) (f : Int) (td : List Int) (fd : List Bool) : Prop where
  len : fd.length = n
  bnd : ∀ x ∈ td, -1 ≤ x ∧ x < n
  mem : ∀ x ∈ td, 0 ≤ x → Rch c d f x
  fnd : ∀ x, tr fd x → Rch c d f x ∧ (0 ≤ c x → tr fd (c x) ∨ c x ∈ td) ∧ (0 ≤ d x → tr fd (d x) ∨ d x ∈ td)
  has : f ∈ td ∨ tr fd f
theorem RInv.start {c d : Int → Int} {n : Nat} {f : Int} (h0 : 0 ≤ f) (h1 : f < n) : RInv c d n f [f] (List.replicate n false) :=
  ⟨by simp, fun x hx => by simp at hx; subst hx; omega, fun x hx _ => by simp at hx; subst hx; exact .base, fun x hx => absurd hx (tr_start n x), .inl (by simp)⟩
theorem RInv.pop {c d : Int → Int} {n : Nat} {f i : Int} {t0 : List Int} {fd : List Bool} (h : RInv c d n f (t0 ++ [i]) fd) (hf : 0 ≤ f) (hi : i < 0 ∨ tr fd i) : RInv c d n f t0 fd := by
  have key : ∀ x, 0 ≤ x → (tr fd x ∨ x ∈ t0 ++ [i]) → tr fd x ∨ x ∈ t0 := by
    intro x h0 hx
    rcases hx with hx | hx
    · exact .inl hx
    · rcases List.mem_append.1 hx with hx | hx
      · exact .inr hx
      · simp at hx; subst hx
        rcases hi with hi | hi
        · omega
        · exact .inl hi
  refine ⟨h.len, fun x hx => h.bnd x (by simp [hx]), fun x hx => h.mem x (by simp [hx]), fun x hx => ?_, ?_⟩
  · obtain ⟨a, b, e⟩ := h.fnd x hx
    exact ⟨a, fun hp => key _ hp (b hp), fun hp => key _ hp (e hp)⟩
  · rcases h.has with h1 | h1
    · rcases key f hf (.inr h1) with h2 | h2
      · exact .inr h2
      · exact .inl h2
    · exact .inr h1
theorem RInv.push {c d : Int → Int} {n : Nat} {f : Int} {i : Nat} {t0 : List Int} {fd : List Bool} (h : RInv c d n f (t0 ++ [(i : Int)]) fd) (hil : i < n) (hc : -1 ≤ c i ∧ c i < n) (hd : -1 ≤ d i ∧ d i < n) : RInv c d n f (t0 ++ [c i, d i]) (fd.set i true) := by
  have hil' : i < fd.length := by rw [h.len]; exact hil
  have hri := h.mem (i : Int) (by simp) (by omega)
  have key : ∀ x, (tr fd x ∨ x ∈ t0 ++ [(i : Int)]) → tr (fd.set i true) x ∨ x ∈ t0 ++ [c i, d i] := by
    intro x hx
    rcases hx with hx | hx
    · exact .inl ((tr_set hil').2 (.inl hx))
    · rcases List.mem_append.1 hx with hx | hx
      · exact .inr (by simp [hx])
      · simp at hx; exact .inl ((tr_set hil').2 (.inr hx))
  refine ⟨by simpa using h.len, fun x hx => ?_, fun x hx h0 => ?_, fun x hx => ?_, ?_⟩
  · rcases List.mem_append.1 hx with hx | hx
    · exact h.bnd x (by simp [hx])
    · simp at hx; rcases hx with rfl | rfl
      · exact hc
      · exact hd
  · rcases List.mem_append.1 hx with hx | hx
    · exact h.mem x (by simp [hx]) h0
    · simp at hx; rcases hx with rfl | rfl
      · exact .one hri h0
      · exact .two hri h0
  · rcases (tr_set hil').1 hx with hx | rfl
    · obtain ⟨a, b, e⟩ := h.fnd x hx
      exact ⟨a, fun hp => key _ (b hp), fun hp => key _ (e hp)⟩
    · exact ⟨hri, fun _ => .inr (by simp), fun _ => .inr (by simp)⟩
  · rcases key f (h.has.symm) with h1 | h1
    · exact .inr h1
    · exact .inl h1
theorem RInv.done {c d : Int → Int} {n : Nat} {f : Int} {fd : List Bool} (h : RInv c d n f [] fd) (x : Int) : tr fd x ↔ Rch c d f x := by
  constructor
  · exact fun hx => (h.fnd x hx).1
  · intro hx
    refine Rch.least (S := tr fd) ?_ (fun x hx h0 => ?_) (fun x hx h0 => ?_) hx
    · rcases h.has with h1 | h1
      · simp at h1
      · exact h1
    · rcases (h.fnd x hx).2.1 h0 with h1 | h1
      · exact h1
      · simp at h1
    · rcases (h.fnd x hx).2.2 h0 with h1 | h1
      · exact h1
      · simp at h1
/-- the marked ones below k -/
def mkd (fd : List Bool) : Nat → List Int
  | 0 => []
  | k + 1 => mkd fd k ++ cond (fd[k]?.getD false) [(k : Int)] []
theorem mkd_yes {fd : List Bool} {k : Nat} (h : k < fd.length) (e : fd[k] = true) : mkd fd (k + 1) = mkd fd k ++ [(k : Int)] := by
  rw [mkd, List.getElem?_eq_getElem h, e]; rfl
theorem mkd_no {fd : List Bool} {k : Nat} (h : k < fd.length) (e : fd[k] = false) : mkd fd (k + 1) = mkd fd k := by
  rw [mkd, List.getElem?_eq_getElem h, e]; simp
theorem mkd_len {fd : List Bool} : ∀ k, (mkd fd k).length ≤ k
  | 0 => by simp [mkd]
  | k + 1 => by have := mkd_len (fd := fd) k; rw [mkd, List.length_append]; cases fd[k]?.getD false <;> simp <;> omega
theorem mkd_mem {fd : List Bool} : ∀ {k : Nat} {x : Int}, x ∈ mkd fd k ↔ x < k ∧ tr fd x := by
  intro k
  induction k with
  | zero => intro x; simp [mkd]; intro h1 h2; exact absurd h2.1 (by omega)
  | succ k ih =>
    intro x
    rw [mkd, List.mem_append, ih]
    have hk : tr fd (k : Int) ↔ fd[k]?.getD false = true := by
      unfold tr; rw [Int.toNat_natCast]
      cases h : fd[k]? <;> simp
    cases hp : fd[k]?.getD false
    · rw [hp] at hk
      simp only [cond_false, List.not_mem_nil, or_false]
      constructor
      · rintro ⟨a, b⟩; exact ⟨by omega, b⟩
      · rintro ⟨a, b⟩
        have : x ≠ k := by rintro rfl; simpa using hk.1 b
        exact ⟨by omega, b⟩
    · rw [hp] at hk
      simp only [cond_true, List.mem_singleton]
      constructor
      · rintro (⟨a, b⟩ | rfl)
        · exact ⟨by omega, b⟩
        · exact ⟨by omega, hk.2 rfl⟩
      · rintro ⟨a, b⟩
        by_cases e : x = k
        · exact .inr e
        · exact .inl ⟨by omega, b⟩
theorem mkd_asc {fd : List Bool} : ∀ k, (mkd fd k).Pairwise (· < ·) := by
  intro k
  induction k with
  | zero => simp [mkd]
  | succ k ih =>
    rw [mkd, List.pairwise_append]
    refine ⟨ih, by cases fd[k]?.getD false <;> simp, fun a ha b hb => ?_⟩
    have := (mkd_mem.1 ha).1
    cases hp : fd[k]?.getD false
    · rw [hp] at hb; simp at hb
    · rw [hp] at hb; simp at hb; omega
theorem mkd_reach {hs : List Flt} (lk : Lnk hs) {f : Int} (h0 : 0 ≤ f) (h1 : f < hs.length) {fd : List Bool} (h : RInv (cauOf hs) (ctxOf hs) hs.length f [] fd) : mkd fd hs.length = reachL hs f := by
  refine reachL_eq lk h0 h1 (mkd_asc _) (fun x => ?_)
  rw [mkd_mem, h.done]
  constructor
  · exact fun h => h.2
  · intro hx
    obtain ⟨i, rfl, hi⟩ := tr_lt ((h.done x).2 hx)
    rw [h.len] at hi
    exact ⟨by omega, hx⟩
end

section
theorem gx_trans {a b c : World} {r r1 : Option Nat} (h : a.grownBy b r) (k : b.grownBy c r1) (hr : r1 = r ∨ ∃ x, r1 = some x ∧ a.heap.size ≤ x) : a.grownBy c r :=
  ⟨k.os.trans h.os, k.tape.trans h.tape, k.output.trans h.output, Nat.le_trans h.size k.size, fun i hi hne => (k.block i (Nat.lt_of_lt_of_le hi h.size) (fun e => by
    rcases hr with rfl | ⟨x, rfl, hx⟩
    · exact hne e
    · injection e with e; omega)).trans (h.block i hi hne)⟩
theorem gx_new {w w' : World} {r : Option Nat} (h : Le w w') : w.grownBy w' r :=
  ⟨h.os, h.tape, h.output, h.size, fun i hi _ => Below.block h i hi⟩
def RchOut (L : List Int) (b : Nat) (v : Value) (w : World) (e : Ending) (w' : World) : Prop :=
  ∃ v', e = .returned v' ∧ w'.ownsRow b 3 1 v' L.length (L.flatMap Enc.cells) ∧ w.grownBy w' v.ownBlock ∧ (v'.ownBlock = v.ownBlock ∨ ∃ k, v'.ownBlock = some k ∧ w.heap.size ≤ k)

set_option maxHeartbeats 4000000 in
set_option maxRecDepth 100000 in
theorem sReach_any (H : Option Addr) (m c : Nat) (hs : List Flt) (lk : Lnk hs) (hm : m ≤ 2097152) : ∀ (k : Nat) (f : Int) (out : List Int) (b : Nat) (v : Value) (w : World), Sl w H m c hs → f < hs.length → Fnd hs.length out → hs.length + 1 ≤ k + out.length →
    w.ownsRow b 3 1 v out.length (out.flatMap Enc.cells) → b ≤ w.heap.size → (0 < m → ∀ a, H = some a → a.block < b) →
    Calls Tryd.prog 59 #[.agg #[.slice H m c], .int .i64 f, v] w (RchOut (rgo (cauOf hs) (ctxOf hs) k f out) b v w) := by
  obtain ⟨i0, hi, hz0, hz1, hz2⟩ := info_parts intInfoB
  have HLK := Lib.hid lk
  intro k
  induction k with
  | zero => intro f out b v w _ _ hF hk; have := hF.len; omega
  | succ k ih =>
    intro f out b v w hH hf hF hk O hb hoff
    have HIH := Lib.hid ih; clear ih
    have HOFF := Lib.hid hoff; clear hoff
    have HFN := Lib.hid hF
    have hol := hF.len
    have hlen := hH.len
    obtain ⟨A', c', rfl⟩ := own_form O
    have hok : ∀ x ∈ out, Enc.ok x := fun x hx => by have := hF.rng x hx; exact ⟨by omega, by omega⟩
    obtain ⟨c0, z0, L0⟩ := box1 w (.slice H m c) 28
    have hs0 : (w.alloc (.cells #[.slice H m c] 28)).heap.size = w.heap.size + 1 := by simp
    by_cases hneg : f < 0
    · have HX : Hid (RchOut (rgo (cauOf hs) (ctxOf hs) (k + 1) f out) b (.slice A' out.length c') w (.returned (.slice A' out.length c')) (w.alloc (.cells #[.slice H m c] 28))) := by
        show RchOut _ _ _ _ _ _
        rw [rgo_stop (.inl hneg)]
        exact ⟨_, rfl, own_le O L0, gx_new L0, .inl rfl⟩
      go_enter Tryd.func59, Tryd.ntmps59
      go_wp2
      go_ret
      exact HX.out
    · by_cases hin : f ∈ out
      · have HX : Hid (RchOut (rgo (cauOf hs) (ctxOf hs) (k + 1) f out) b (.slice A' out.length c') w (.returned (.slice A' out.length c')) (w.alloc (.cells #[.slice H m c] 28))) := by
          show RchOut _ _ _ _ _ _
          rw [rgo_stop (.inr hin)]
          exact ⟨_, rfl, own_le O L0, gx_new L0, .inl rfl⟩
        have hh := hasI_iff'.2 hin
        have S2 := (Sl.of_own O rfl (by decide) hok).le L0
        clear hin hok
        go_enter Tryd.func59, Tryd.ntmps59
        go_wp2_with fail
        refine (hasInt_any _ _ _ out f _ S2).mono ?_
        rintro e w' ⟨rfl, rfl⟩
        rw [hh]
        go_wp2
        go_ret
        exact HX.out
      · obtain ⟨i, rfl⟩ := Int.eq_ofNat_of_zero_le (by omega : 0 ≤ f)
        have hil : i < hs.length := by omega
        have him : (i : Int) < m := by omega
        have hF1 := hF.snoc (f := (i : Int)) (by omega) hf hin
        have HF1 := Lib.hid hF1
        have p1 := rgo_post lk.caultlt lk.ctxlt k (cauOf hs i) (out ++ [(i : Int)]) hF1 (lk.caultlt i (by omega) (by omega)) (by simp; omega)
        have HP1 := Lib.hid p1; clear p1
        have HRG : Hid (rgo (cauOf hs) (ctxOf hs) (k + 1) (i : Int) out = rgo (cauOf hs) (ctxOf hs) k hs[i].ctx (rgo (cauOf hs) (ctxOf hs) k hs[i].cause (out ++ [(i : Int)]))) := by
          show _ = _; rw [rgo_on (by rintro (h | h); omega; exact hin h), cauOf_at hil, ctxOf_at hil]
        have hca := cauOf_at hil
        have hcl := lk.cause i hil
        have hxl := lk.ctx i hil
        rw [hca] at HP1
        have hh := hasI_not hin
        have S2 := (Sl.of_own O rfl (by decide) hok).le L0
        clear hin hok hF1 hca hF
        have hlt0 := O.lt
        replace O := own_le O L0
        obtain ⟨hbk, off, rfl, hbl, k0, k1, q2, q3, k4, -⟩ := hH.flt_at hil
        replace q2 := (L0.cell hbl).trans q2
        replace q3 := (L0.cell hbl).trans q3
        replace hbl := Nat.lt_of_lt_of_le hbl L0.size
        clear k0 k1 k4
        have S1 := hH.le L0
        have hl1 : (out ++ [(i : Int)]).length = out.length + 1 := by simp
        go_enter Tryd.func59, Tryd.ntmps59
        go_wp2_with fail
        refine (hasInt_any _ _ _ out (i : Int) _ S2).mono ?_
        rintro e w' ⟨rfl, rfl⟩
        rw [hh]
        clear S2 hh
        generalize w.alloc (.cells #[.slice (some ⟨hbk, off, none⟩) m c] 28) = W at *
        have hsL := L0.size
        have HS0 := Lib.hid hs0; clear hs0
        have hc3 : out.length + 1 ≤ maxLen := by unfold maxLen; omega
        have hc4 : (out.length + 1) * 8 ≤ 140737488355328 := by omega
        have LA := Le.new W (.cells #[.int .i64 (i : Int)] 3)
        have HGB : Hid (∀ k : Nat, (Value.slice A' out.length c').ownBlock = some k → b ≤ k ∧ k < w.heap.size) := hlt0
        clear hlt0
        have q2' := (LA.cell hbl).trans q2
        have q3' := (LA.cell hbl).trans q3
        have c0' := (LA.cell z0).trans c0
        have S1' := S1.le LA
        have hbl' := Nat.lt_of_lt_of_le hbl LA.size
        have hoki : Enc.ok (α := Int) (i : Int) := by show _ ∧ _; omega
        have SX := sl_one (w := W) (cs := #[.int .i64 (i : Int)]) (T := 3) (i : Int) rfl hoki (b := W.heap.size) rfl
        go_wp2_with (first | (at_builtin; go_loud (refine wpList_append_sl rfl _ _ 36 rfl b 3 i0 _ 8 Tryd.underlying36 hi hz0 hz1 hz2 rfl (.slice A' out.length c') out.length out rfl (O.alloc _) (some ⟨W.heap.size, 0, none⟩) 1 1 [(i : Int)] rfl SX hc3 hc4 (by simp; omega) ?_; intro v1 w1 O1 hg1 hat; replace c0 := hg1.cell (a := ⟨w.heap.size, 0, none⟩) c0' (fun e => by have h := (HGB.out _ e.symm).2; dsimp only at h; omega); replace q2 := hg1.cell (a := ⟨hbk, off + i * 5 + 2, none⟩) q2' (fun e => by have h := (HGB.out _ e.symm).1; have h2 := HOFF.out (by omega) _ rfl; dsimp only at h h2; omega); replace q3 := hg1.cell (a := ⟨hbk, off + i * 5 + 3, none⟩) q3' (fun e => by have h := (HGB.out _ e.symm).1; have h2 := HOFF.out (by omega) _ rfl; dsimp only at h h2; omega))) | fail)
        have sA : (W.alloc (.cells #[.int .i64 (i : Int)] 3)).heap.size = W.heap.size + 1 := by simp
        have sg1 := hg1.size
        have R1 : v1.ownBlock = (Value.slice A' out.length c').ownBlock ∨ ∃ x, v1.ownBlock = some x ∧ w.heap.size + 1 ≤ x := by
          rcases hat with h | h
          · exact .inl h
          · exact .inr ⟨_, h, by have := HS0.out; omega⟩
        have HV1 : ∀ k, v1.ownBlock = some k → b ≤ k ∧ k ≠ w.heap.size := by
          intro k e
          rcases R1 with h | ⟨x, h, hx⟩
          · rw [h] at e; have := HGB.out k e; omega
          · rw [h] at e; injection e with e; omega
        have O2 : w1.ownsRow b 3 1 v1 (out ++ [(i : Int)]).length ((out ++ [(i : Int)]).flatMap Enc.cells) := by rw [hl1]; exact O1
        have S2 := S1'.grown hg1 (fun hn a ea e => by have h := (HGB.out _ e.symm).1; have h2 := HOFF.out hn _ ea; omega)
        have h2 := gx_trans (gx_new (L0.trans LA)) hg1 (.inl rfl)
        have HH2 := Lib.hid h2
        clear h2 O1 q2' q3' c0' S1' S1 hg1 O
        replace c0 := (show w1.drew.cell? _ = _ from c0)
        replace S2 := S2.le (Le.refl _).drew
        replace q2 := (show w1.drew.cell? _ = _ from q2)
        replace q3 := (show w1.drew.cell? _ = _ from q3)
        replace O2 := O2.drew
        have HH2' : Hid (w.grownBy w1.drew (Value.slice A' out.length c').ownBlock) := gx_trans HH2.out (gx_new (r := (Value.slice A' out.length c').ownBlock) (Le.refl w1).drew) (.inl rfl)
        have sD : w1.drew.heap.size = w1.heap.size := rfl
        go_region_held3 (fun w' => w'.cell? ⟨w.heap.size, 0, none⟩ = some (.slice (some ⟨hbk, off, none⟩) m c) ∧ w'.cell? ⟨hbk, off + i * 5 + 2, none⟩ = some (.int .i64 hs[i].cause))
          (exact ⟨c0, q2⟩)
          (first
          | (go_at_call 59; refine (HIH.out hs[i].cause (out ++ [(i : Int)]) b v1 w1.drew S2 hcl.2 HF1.out (by rw [hl1]; omega) O2 (by omega) HOFF.out).mono ?_; rintro e w2 ⟨v2, rfl, O3, hg2, hat2⟩; replace c0 := hg2.cell (a := ⟨w.heap.size, 0, none⟩) c0 (fun e => (HV1 _ e.symm).2 rfl); replace q2 := hg2.cell (a := ⟨hbk, off + i * 5 + 2, none⟩) q2 (fun e => by have h := (HV1 _ e.symm).1; have h2 := HOFF.out (by omega) _ rfl; dsimp only at h h2; omega)))
        have sg2 := hg2.size
        have R2 : v2.ownBlock = (Value.slice A' out.length c').ownBlock ∨ ∃ x, v2.ownBlock = some x ∧ w.heap.size + 1 ≤ x := by
          rcases hat2 with h | ⟨x, h, hx⟩
          · rw [h]; exact R1
          · exact .inr ⟨x, h, by have := HS0.out; omega⟩
        have HV2 : ∀ k, v2.ownBlock = some k → b ≤ k ∧ k ≠ w.heap.size := by
          intro k e
          rcases R2 with h | ⟨x, h, hx⟩
          · rw [h] at e; have := HGB.out k e; omega
          · rw [h] at e; injection e with e; omega
        replace q3 := hg2.cell (a := ⟨hbk, off + i * 5 + 3, none⟩) q3 (fun e => by have h := (HV1 _ e.symm).1; have h2 := HOFF.out (by omega) _ rfl; dsimp only at h h2; omega)
        have S3 := S2.grown hg2 (fun hn a ea e => by have h := (HV1 _ e.symm).1; have h2 := HOFF.out hn _ ea; omega)
        have h3 := gx_trans HH2'.out hg2 (by rcases R1 with h | ⟨x, h, hx⟩; exact .inl h; exact .inr ⟨x, h, by omega⟩)
        have HH3 := Lib.hid h3
        have HR1 := Lib.hid R1; have HR2 := Lib.hid R2; have HHV2 := Lib.hid HV2; have HAT2 := Lib.hid hat2
        clear h3 S2 O2 q2 hg2 R1 R2 HV1 HV2 hat hat2
        go_wp2_with fail
        replace c0 := (show w2.drew.cell? _ = _ from c0)
        replace S3 := S3.le (Le.refl _).drew
        replace q3 := (show w2.drew.cell? _ = _ from q3)
        replace O3 := O3.drew
        have HH3' : Hid (w.grownBy w2.drew (Value.slice A' out.length c').ownBlock) := gx_trans HH3.out (gx_new (r := (Value.slice A' out.length c').ownBlock) (Le.refl w2).drew) (.inl rfl)
        have sD2 : w2.drew.heap.size = w2.heap.size := rfl
        go_region_held3 (fun w' => w'.cell? ⟨w.heap.size, 0, none⟩ = some (.slice (some ⟨hbk, off, none⟩) m c) ∧ w'.cell? ⟨hbk, off + i * 5 + 3, none⟩ = some (.int .i64 hs[i].ctx))
          (exact ⟨c0, q3⟩)
          (first
          | (go_at_call 59; refine (HIH.out hs[i].ctx _ b v2 w2.drew S3 hxl.2 HP1.out.fnd (by obtain ⟨r, hr⟩ := HP1.out.pre; rw [hr]; simp; omega) O3 (by omega) HOFF.out).mono ?_; rintro e w3 ⟨v3, rfl, O4, hg3, hat3⟩; replace c0 := hg3.cell (a := ⟨w.heap.size, 0, none⟩) c0 (fun e => (HHV2.out _ e.symm).2 rfl); replace q3 := hg3.cell (a := ⟨hbk, off + i * 5 + 3, none⟩) q3 (fun e => by have h := (HHV2.out _ e.symm).1; have h2 := HOFF.out (by omega) _ rfl; dsimp only at h h2; omega)))
        have h4 := gx_trans HH3'.out hg3 (by rcases HR2.out with h | ⟨x, h, hx⟩; exact .inl h; exact .inr ⟨x, h, by omega⟩)
        have HF : Hid (RchOut (rgo (cauOf hs) (ctxOf hs) (k + 1) (i : Int) out) b (.slice A' out.length c') w (.returned v3) w3) := by
          show RchOut _ _ _ _ _ _
          rw [HRG.out]
          refine ⟨v3, rfl, O4, h4, ?_⟩
          rcases hat3 with h | ⟨x, h, hx⟩
          · rcases HR2.out with h5 | ⟨x, h5, hx⟩
            · exact .inl (h.trans h5)
            · exact .inr ⟨x, h.trans h5, by omega⟩
          · exact .inr ⟨x, h, by omega⟩
        clear h4 hat3 O4 hg3 c0 q3 O3 S3
        go_wp2
        go_ret
        exact HF.out
end

section
theorem sl_many {α : Type} [Enc α] {w : World} {cs : Array Value} {T : TypeId} (ys : List α) (n : Nat) (hn : ys.length = n) (hm : n ≤ 1048576) (hc : cs.toList = ys.flatMap Enc.cells) (hok : ∀ y ∈ ys, Enc.ok y) {b : Nat} (hb : b = w.heap.size) : Sl (w.alloc (.cells cs T)) (some ⟨b, 0, none⟩) n n ys := by
  subst hb
  refine ⟨hn, Nat.le_refl _, by omega, hok, fun _ => ⟨_, 0, rfl, by simp, fun j u hu => ?_⟩⟩
  rw [← hc] at hu
  rw [Nat.zero_add, World.cell?_alloc_at _ _ _ _ rfl]
  simpa using hu
theorem snoc_of {α : Type} (l : List α) (h : l ≠ []) : ∃ t x, l = t ++ [x] := ⟨l.dropLast, l.getLast h, (List.dropLast_concat_getLast h).symm⟩

set_option maxHeartbeats 8000000 in
set_option maxRecDepth 100000 in
theorem iReach_any (H : Option Addr) (m c : Nat) (hs : List Flt) (f : Int) (w : World) (hH : Sl w H m c hs) (lk : Lnk hs) (h0 : 0 ≤ f) (h1 : f < hs.length) (hm : m ≤ 2097152) :
    Calls Tryd.prog 42 #[.agg #[.slice H m c], .int .i64 f] w fun e w' => ∃ v, e = .returned v ∧ Owd 3 w w' v (reachL hs f) ∧ Le w w' := by
  obtain rfl := hH.len
  obtain ⟨i0, hi, hz0, hz1, hz2⟩ := info_parts intInfoB
  obtain ⟨j0, hj, hy0, hy1, hy2⟩ := info_parts boolInfo
  have hb2 : j0.bytes * hs.length ≤ 281474976710656 := by rw [hy2]; omega
  have HLC := Lib.hid lk.cause
  have HLX := Lib.hid lk.ctx
  have HCA : Hid (∀ i, i < hs.length → -1 ≤ cauOf hs (i : Int) ∧ cauOf hs (i : Int) < hs.length) := fun i h => by rw [cauOf_at h]; exact lk.cause i h
  have HCX : Hid (∀ i, i < hs.length → -1 ≤ ctxOf hs (i : Int) ∧ ctxOf hs (i : Int) < hs.length) := fun i h => by rw [ctxOf_at h]; exact lk.ctx i h
  have HRE : Hid (∀ fd, RInv (cauOf hs) (ctxOf hs) hs.length f [] fd → mkd fd hs.length = reachL hs f) := fun fd h => mkd_reach lk h0 h1 h
  clear lk
  obtain ⟨c0, z0, L0⟩ := box1 w (.slice H hs.length c) 28
  have hH0 := hH.le L0
  go_enter Tryd.func42, Tryd.ntmps42
  go_wp2_with (refine wpList_make_full _ rfl _ _ 92 rfl w.heap.size 4 j0 _ 1 Tryd.underlying92 hj hy0 hy1 .i64 .i64 _ _ hs.length rfl rfl rfl rfl hb2 (by unfold maxLen; omega) (by simp) ?_; intro w1 OF hg1; rw [made_bools] at OF; have L1 := L0.grown hg1 (by intro k hk; cases hk); have c1 := hg1.cell (a := ⟨w.heap.size, 0, none⟩) c0 (fun e => by cases e); have sg := hg1.size; clear hg1)
  have hgW : (w.alloc (.cells #[.slice H hs.length c] 28)).heap.size = w.heap.size + 1 := by simp
  rw [hgW] at OF
  have hg1 : w.heap.size + 1 < w1.heap.size := (OF.lt _ rfl).2
  clear hgW sg c0 z0 L0 hH0
  have OT0 : (w1.alloc (.cells #[.int .i64 f] 3)).ownsRow w1.heap.size 3 1 (.slice (some ⟨w1.heap.size, 0, none⟩) 1 1) 1 [.int .i64 f] := by
    have := World.ownsRow_lit (base := w1.heap.size) (e := 3) (size := 1) w1 #[.int .i64 f] 1 (Nat.le_refl _) (by unfold maxLen; omega) (by simp)
    simpa using this
  have LA := Le.new w1 (.cells #[.int .i64 f] 3)
  have OF0 := own_le OF LA
  have c0 := (LA.cell (by omega)).trans c1
  have L0 := L1.trans LA
  have hzz := LA.size
  clear LA c1 L1 OF
  go_loopg [6, 7] (3 * hs.length + 1) (fun mm v iv wr => ∃ (td : List Int) (fd : List Bool) (A' : Option Addr) (c' : Nat), v = .slice A' td.length c' ∧ wr.ownsRow w1.heap.size 3 1 (.slice A' td.length c') td.length (td.flatMap Enc.cells) ∧
    wr.ownsRow (w.heap.size + 1) 4 1 (.slice (some ⟨w.heap.size + 1, 0, none⟩) hs.length hs.length) hs.length (fd.flatMap Enc.cells) ∧ RInv (cauOf hs) (ctxOf hs) hs.length f td fd ∧ Le w wr ∧ wr.cell? ⟨w.heap.size, 0, none⟩ = some (.slice H hs.length c) ∧ mm = 3 * unm fd + td.length ∧ w1.heap.size ≤ wr.heap.size ∧ mm ≤ 3 * hs.length + 1)
  case atStart => exact ⟨[f], List.replicate hs.length false, _, _, rfl, by simpa [Enc.cells] using OT0, ⟨OF0.1, OF0.2.imp id (fun ⟨g, cap, cur, hv, hg0, rest⟩ => ⟨g, cap, cur, hv, by injection hv with hv; injection hv with hv; injection hv with hv; omega, rest⟩)⟩, RInv.start h0 h1, L0, c0, by rw [unm_rep]; simp, hzz, Nat.le_refl _⟩
  case round =>
    obtain ⟨td, fd, A', c', rfl, OT, OF, hI, hle, c0, hmm, hsz, hmb⟩ := hrel
    clear OF0 OT0
    have HI := Lib.hid hI
    have hfl := hI.len
    have hHr := hH.le hle
    have z0 : w.heap.size < wr.heap.size := by omega
    have hltT := OT.lt
    have HLT := Lib.hid hltT; clear hltT
    by_cases hne : td = []
    · subst hne
      simp only [List.length_nil]
      simp only [List.length_nil] at OT hmm HLT
      have HR := Lib.hid (HRE.out fd HI.out)
      clear hI
      have HOK : Hid (∀ x ∈ mkd fd hs.length, Enc.ok x) := fun x hx => by
        have h1 := (mkd_mem.1 hx).1
        have h2 := (mkd_mem.1 hx).2.1
        exact ⟨by omega, by omega⟩
      go_wp2
      generalize wr = WO at *
      go_loopw [8, 9, 10, 60] (fun v _ _ q wr => ∃ k : Nat, k ≤ hs.length ∧ q = .int .i64 k ∧ wr.ownsRow WO.heap.size 3 1 v (mkd fd k).length ((mkd fd k).flatMap Enc.cells) ∧ Le WO wr) (fun _ _ _ q _ => hs.length - (intOf q).toNat)
      case atStart => exact ⟨0, Nat.zero_le _, rfl, World.ownsRow_nil _ _ _ _, Le.refl _⟩
      case round =>
        obtain ⟨k, hk, rfl, hown, hle2⟩ := hrel
        have hml := mkd_len (fd := fd) k
        by_cases hkl : k < hs.length
        · have hkf : k < fd.length := by omega
          have OF2 := own_le OF hle2
          have r0 : wr.cell? ⟨w.heap.size + 1, k, none⟩ = some (.bool fd[k]) := by
            rw [OF2.cellAt k (by omega), show (fd.flatMap (Enc.cells (α := Bool)))[k]? = _ from by simpa [Enc.size] using flat_at fd k hkf 0 (by decide)]; rfl
          cases hb : fd[k]
          · rw [hb] at r0
            have HB := Lib.hid (mkd_no hkf hb); clear hb
            go_wp2
            go_roundw
            case rel => exact ⟨k + 1, by omega, by go_num, by rw [HB.out]; exact hown, hle2⟩
            case measure => simp [intOf]; omega
          · rw [hb] at r0
            have HB := Lib.hid (mkd_yes hkf hb); clear hb
            have hc3 : (mkd fd k).length + 1 ≤ maxLen := by unfold maxLen; omega
            have hc4 : ((mkd fd k).length + 1) * 8 ≤ 140737488355328 := by omega
            have hsz3 := hle2.size
            go_wp2_with (at_builtin; refine wpList_append_own _ rfl _ _ 36 rfl WO.heap.size 3 i0 (.int .i64 0) 1 8 Tryd.underlying36 hi hz0 hz1 hz2 rfl (by decide) _ _ _ rfl (hown.alloc _) ⟨wr.heap.size, 0, none⟩ 1 1 [.int .i64 k] rfl rfl ?c1 ?c2 hc3 hc4 ?c5 ?_)
            case c1 => exact one_newB _ _ _
            case c2 => intro u hu; simp at hu; subst hu; rfl
            case c5 => simp; omega
            intro v1 w3 hown1 hg1 _
            have hle1 := (hle2.alloc (.cells #[.int .i64 (k : Int)] 3)).grown hg1 (fun k hk => (hown.lt k hk).1)
            go_wp2
            go_roundw
            case rel => exact ⟨k + 1, by omega, by go_num, by rw [HB.out]; simpa [Enc.cells] using hown1, hle1⟩
            case measure => simp [intOf]; omega
        · have hk' : k = hs.length := by omega
          have HO : Hid (∀ v, wr.ownsRow WO.heap.size 3 1 v (mkd fd k).length ((mkd fd k).flatMap Enc.cells) → Owd 3 w wr v (reachL hs f)) := fun v hv => by
            subst hk'
            rw [HR.out] at hv
            have := HOK.out
            rw [HR.out] at this
            exact ⟨own_mono hv hle.size, this⟩
          clear hk'
          go_wp2
          go_ret
          exact ⟨_, rfl, HO.out _ hown, hle.trans hle2⟩
    · obtain ⟨t0, i, rfl⟩ := snoc_of td hne
      have hl : (t0 ++ [i]).length = t0.length + 1 := by simp
      have hbi := hI.bnd i (by simp)
      have hbt : ∀ x ∈ t0 ++ [i], Enc.ok x := fun x hx => by have := hI.bnd x hx; exact ⟨by omega, by omega⟩
      clear hI hne
      rw [hl] at OT HLT hmm
      rw [hl]
      rcases OT.2 with ⟨hv, h00⟩ | ⟨gt, ct, cur, hv, _, _, _, hcm, _⟩
      · omega
      injection hv with hv1 hv2 hv3
      subst hv1; subst hv3
      have OP : wr.ownsRow w1.heap.size 3 1 (.slice (some ⟨gt, 0, none⟩) t0.length c') t0.length (t0.flatMap Enc.cells) := by
        refine ownsRow_pop (last := [.int .i64 i]) (by rw [flat_len]; rfl) ?_
        simpa [Enc.cells] using OT
      have hlw : IntKind.i64.wrap ((t0.length : Int) + 1 - 1) = (t0.length : Int) := by rw [Int.add_sub_cancel]; exact IntWalk.i64_in _ (by unfold maxLen at hcm; omega)
      have hlw2 : IntKind.i64.wrap (t0.length : Int) = (t0.length : Int) := IntWalk.i64_in _ (by unfold maxLen at hcm; omega)
      have q0 : wr.cell? ⟨gt, t0.length, none⟩ = some (.int .i64 i) := by
        have := OT.cellAt t0.length (by omega)
        rw [this, List.flatMap_append, List.getElem?_append_right (by rw [flat_len]; show t0.length * 1 ≤ _; omega), flat_len]
        show ([i].flatMap (Enc.cells (α := Int)))[t0.length - t0.length * 1]? = _
        simp [Enc.cells]
      by_cases hi0 : i < 0
      · have HP := Lib.hid (HI.out.pop h0 (.inl hi0))
        go_wp2
        go_roundg (3 * unm fd + t0.length)
        case measure => omega
        case rel => exact ⟨t0, fd, some ⟨gt, 0, none⟩, c', rfl, OP, OF, HP.out, hle, c0, rfl, hsz, by omega⟩
      · obtain ⟨j, rfl⟩ := Int.eq_ofNat_of_zero_le (by omega : 0 ≤ i)
        have hjl : j < hs.length := by omega
        have hjf : j < fd.length := by omega
        have r0 : wr.cell? ⟨w.heap.size + 1, j, none⟩ = some (.bool fd[j]) := by
          rw [OF.cellAt j (by omega), show (fd.flatMap (Enc.cells (α := Bool)))[j]? = _ from by simpa [Enc.size] using flat_at fd j hjf 0 (by decide)]; rfl
        cases hb : fd[j]
        · rw [hb] at r0
          have f0 := OF.frozenAt j
          have HP := Lib.hid (HI.out.push hjl (HCA.out j hjl) (HCX.out j hjl))
          have HU := Lib.hid (unm_set hjf hb)
          obtain ⟨b, off, rfl, hbb, k0, k1, q2, q3, k4, -⟩ := hH.flt_at hjl
          clear k0 k1 k4
          have htl : t0.length ≤ 6291457 := by omega
          have e2 := cauOf_at hjl
          have e3 := ctxOf_at hjl
          rw [← e2] at q2
          rw [← e3] at q3
          have hb2' := HCA.out j hjl
          have hx2' := HCX.out j hjl
          clear e2 e3
          generalize cauOf hs (j : Int) = ca at *
          generalize ctxOf hs (j : Int) = cx at *
          have OF2 := (OF.stored j (.bool true)).1
          rw [flat_bool fd j hjf true] at OF2
          have hgne : gt ≠ w.heap.size + 1 := by have := (HLT.out gt rfl).1; omega
          have OP2 := own_set (b := w.heap.size + 1) (o := j) OP hgne (.bool true)
          have L2 := hle.setCell (b := w.heap.size + 1) (o := j) (by omega) (.bool true)
          have c2 : (wr.setCell ⟨w.heap.size + 1, j, none⟩ (.bool true)).cell? ⟨w.heap.size, 0, none⟩ = some (.slice (some ⟨b, off, none⟩) hs.length c) := (cell_set_other (.inl (by omega))).trans c0
          replace q2 := (L2.cell hbb).trans q2
          replace q3 := (L2.cell hbb).trans q3
          have hsW : (wr.setCell ⟨w.heap.size + 1, j, none⟩ (.bool true)).heap.size = wr.heap.size := by simp [World.setCell]
          have hsW2 : wr.heap.size ≤ (wr.setCell ⟨w.heap.size + 1, j, none⟩ (.bool true)).heap.size := Nat.le_of_eq hsW.symm
          clear hsW
          have hok2 : ∀ y ∈ [ca, cx], Enc.ok y := fun y hy => by simp at hy; rcases hy with rfl | rfl <;> exact ⟨by omega, by omega⟩
          have hgt0 := (HLT.out gt rfl)
          have HGG : Hid (gt = w.heap.size + 1 → False) := hgne
          have HBG : Hid (b = gt → False) := fun e => by omega
          have HWG : Hid (w.heap.size = gt → False) := fun e => by omega
          go_wp2_with fail
          generalize wr.setCell ⟨w.heap.size + 1, j, none⟩ (.bool true) = W at *
          replace c2 := (show W.drew.cell? _ = _ from c2)
          replace q2 := (show W.drew.cell? _ = _ from q2)
          replace q3 := (show W.drew.cell? _ = _ from q3)
          replace OF2 := OF2.drew
          replace OP2 := OP2.drew
          replace L2 := L2.drew
          have LA := Le.new W.drew (.cells #[.int .i64 ca, .int .i64 cx] 3)
          have SX := sl_many (w := W.drew) (cs := #[.int .i64 ca, .int .i64 cx]) (T := 3) [ca, cx] 2 rfl (by omega) rfl hok2 (b := W.heap.size) rfl
          have c3 := (LA.cell (b := w.heap.size) (o := 0) (by show w.heap.size < W.heap.size; omega)).trans c2
          have q4 := (LA.cell (b := b) (by show b < W.heap.size; omega)).trans q2
          have q5 := (LA.cell (b := b) (by show b < W.heap.size; omega)).trans q3
          have hsD : W.drew.heap.size = W.heap.size := rfl
          have sA := LA.size
          go_region_held3 (fun w' => w'.cell? ⟨w.heap.size, 0, none⟩ = some (.slice (some ⟨b, off, none⟩) hs.length c) ∧ w'.cell? ⟨b, off + j * 5 + 2, none⟩ = some (.int .i64 ca) ∧ w'.cell? ⟨b, off + j * 5 + 3, none⟩ = some (.int .i64 cx))
            (first | exact ⟨c2, q2, q3⟩ | exact ⟨c3, q4, q5⟩ | exact ⟨c7, q7, q8⟩)
            (first
            | (refine step_append_sl rfl _ _ 36 rfl w1.heap.size 3 i0 _ 8 Tryd.underlying36 hi hz0 hz1 hz2 rfl (.slice (some ⟨gt, 0, none⟩) t0.length c') t0.length t0 rfl (OP2.alloc _) (some ⟨W.heap.size, 0, none⟩) 2 2 [ca, cx] rfl SX (by unfold maxLen; omega) (by omega) (Nat.le_trans (show w1.heap.size ≤ W.drew.heap.size by omega) sA) ?_; intro v1 w7 O1 hgg hat; have c7 := hgg.cell (a := ⟨w.heap.size, 0, none⟩) c3 (fun e => HWG.out (by injection e)); have q7 := hgg.cell (a := ⟨b, off + j * 5 + 2, none⟩) q4 (fun e => HBG.out (by injection e)); have q8 := hgg.cell (a := ⟨b, off + j * 5 + 3, none⟩) q5 (fun e => HBG.out (by injection e))))
          have OF7 := (OF2.alloc (.cells #[.int .i64 ca, .int .i64 cx] 3)).kept hgg (.inr (fun e => HGG.out (by injection e with e; exact e.symm)))
          have L7 := (L2.trans LA).grown hgg (fun k hk => by have e : gt = k := by injection hk
                                                             omega)
          have s7 := hgg.size
          have s8 : w1.heap.size ≤ w7.heap.size := Nat.le_trans (Nat.le_trans (show w1.heap.size ≤ W.drew.heap.size by omega) sA) s7
          obtain ⟨A7, q9, rfl⟩ := own_form O1
          have hl2 : (t0 ++ [ca, cx]).length = t0.length + 2 := by simp
          have HL2 := Lib.hid hl2
          clear hl2 hgg hat c2 c3 q2 q3 q4 q5 q7 q8 SX OF2 OP2 LA L2
          go_wp2
          go_roundg (3 * unm (fd.set j true) + (t0.length + 2))
          case measure => have := HU.out; omega
          case rel => exact ⟨t0 ++ [ca, cx], fd.set j true, A7, q9, by rw [HL2.out], by rw [HL2.out]; exact O1, OF7, HP.out, L7, c7, by rw [HL2.out], s8, by have := HU.out; omega⟩
        · rw [hb] at r0
          have HP := Lib.hid (HI.out.pop h0 (.inr ((tr_nat hjf).2 hb)))
          go_wp2
          go_roundg (3 * unm fd + t0.length)
          case measure => omega
          case rel => exact ⟨t0, fd, some ⟨gt, 0, none⟩, c', rfl, OP, OF, HP.out, hle, c0, rfl, hsz, by omega⟩
end
end Go.Proofs.YthcolcmgfhkbeaaDoor
