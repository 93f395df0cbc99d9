/- Plain: heaps of faults. -/
import Derived.Test.YtpdggodmiliijaaTyFault
import Derived.Test.YtpdggodmiliijaaPC
import Derived.Test.YtpdggodmiliijaaOP
namespace Go.Proofs.Ytpdggodmiliijaa
open Go.RowKit

def ctxOf (hs : List Flt) (x : Int) : Int := match hs[x.toNat]? with | some f => f.ctx | none => -1
theorem ctxOf_at {hs : List Flt} {i : Nat} (h : i < hs.length) : ctxOf hs (i : Int) = hs[i].ctx := by
  unfold ctxOf; rw [Int.toNat_natCast, List.getElem?_eq_getElem h]
def rng (lo hi x : Int) : Bool := decide (lo ≤ x) && decide (x ≤ hi)
theorem rng_iff {lo hi x : Int} : rng lo hi x = true ↔ lo ≤ x ∧ x ≤ hi := by unfold rng; simp
def linksOk (n : Nat) (k : Int) (x : Flt) : Bool := rng (-1) ((n : Int) - 1) x.cause && rng (-1) ((n : Int) - 1) x.ctx && (x.cause != k) && (x.ctx != k)
def fOk (xs : List Cls) (n : Nat) (k : Int) (x : Flt) : Bool := hasK xs x.cls && rng 0 99 x.code && linksOk n k x
def allF (xs : List Cls) (n : Nat) : Nat → List Flt → Bool
  | _, [] => true
  | k, x :: r => fOk xs n (k : Int) x && allF xs n (k + 1) r
theorem allF_at {xs : List Cls} {n : Nat} {hs : List Flt} {k : Nat} (h : k < hs.length) : allF xs n k (hs.drop k) = (fOk xs n (k : Int) hs[k] && allF xs n (k + 1) (hs.drop (k + 1))) := by
  rw [List.drop_eq_getElem_cons h]; rfl
theorem allF_end {xs : List Cls} {n : Nat} {hs : List Flt} {k : Nat} (h : ¬ k < hs.length) : allF xs n k (hs.drop k) = true := by
  rw [List.drop_eq_nil_of_le (by omega)]; rfl
theorem allF_mem {xs : List Cls} {n : Nat} {hs : List Flt} : ∀ (m k : Nat), k + m = hs.length → allF xs n k (hs.drop k) = true → ∀ i (h : i < hs.length), k ≤ i → fOk xs n (i : Int) hs[i] = true := by
  intro m
  induction m with
  | zero => intro k hk h i hi hki; omega
  | succ m ih =>
    intro k hk h i hi hki
    rw [allF_at (by omega), Bool.and_eq_true] at h
    by_cases e : i = k
    · subst e; exact h.1
    · exact ih (k + 1) (by omega) h.2 i hi (by omega)
theorem allF_mk {xs : List Cls} {n : Nat} {hs : List Flt} (H : ∀ i (h : i < hs.length), fOk xs n (i : Int) hs[i] = true) : ∀ (m k : Nat), k + m = hs.length → allF xs n k (hs.drop k) = true := by
  intro m
  induction m with
  | zero => intro k hk; exact allF_end (by omega)
  | succ m ih => intro k hk; rw [allF_at (by omega), H k (by omega), ih (k + 1) (by omega)]; rfl
/-- the chain from f along nx -/
def chainN (nx : Int → Int) (n : Nat) (f : Int) : List Int := Chn.go nx (n + 1) f []
def lastN (nx : Int → Int) (n : Nat) (f : Int) : Int := (chainN nx n f).getLastD (-1)
def endsAt (hs : List Flt) (f : Int) : Bool := decide (ctxOf hs (lastN (ctxOf hs) hs.length f) < 0)
def endsF (hs : List Flt) : Nat → Nat → Bool
  | _, 0 => true
  | k, m + 1 => endsAt hs (k : Int) && endsF hs (k + 1) m
theorem endsF_mem {hs : List Flt} : ∀ (m k : Nat), endsF hs k m = true ↔ ∀ i, k ≤ i → i < k + m → endsAt hs (i : Int) = true := by
  intro m
  induction m with
  | zero => intro k; simp [endsF]; intro i h1 h2; omega
  | succ m ih =>
    intro k
    rw [endsF, Bool.and_eq_true, ih]
    constructor
    · rintro ⟨h1, h2⟩ i hi hk
      by_cases e : i = k
      · subst e; exact h1
      · exact h2 i (by omega) (by omega)
    · intro h
      exact ⟨h k (Nat.le_refl _) (by omega), fun i h1 h2 => h i (by omega) (by omega)⟩
def okHeap (xs : List Cls) (hs : List Flt) : Bool := allF xs hs.length 0 hs && endsF hs 0 hs.length && okTree xs && decide (hs.length ≤ 24)
/-- links lead into the heap -/
structure Lnk (hs : List Flt) : Prop where
  cause : ∀ i (h : i < hs.length), -1 ≤ hs[i].cause ∧ hs[i].cause < hs.length
  ctx : ∀ i (h : i < hs.length), -1 ≤ hs[i].ctx ∧ hs[i].ctx < hs.length
  ne : ∀ i (h : i < hs.length), hs[i].cause ≠ (i : Int) ∧ hs[i].ctx ≠ (i : Int)
theorem lnk_of {xs : List Cls} {hs : List Flt} (h : allF xs hs.length 0 hs = true) : Lnk hs := by
  have hm := allF_mem (hs := hs) hs.length 0 (by omega) (by simpa using h)
  have hx : ∀ i (h : i < hs.length), (-1 ≤ hs[i].cause ∧ hs[i].cause < hs.length) ∧ (-1 ≤ hs[i].ctx ∧ hs[i].ctx < hs.length) ∧ hs[i].cause ≠ (i : Int) ∧ hs[i].ctx ≠ (i : Int) := by
    intro i hi
    have := hm i hi (Nat.zero_le _)
    unfold fOk linksOk at this
    simp only [Bool.and_eq_true, rng_iff, bne_iff_ne] at this
    obtain ⟨_, ⟨⟨h1, h2⟩, h3⟩, h4⟩ := this
    exact ⟨by omega, by omega, h3, h4⟩
  exact ⟨fun i h => (hx i h).1, fun i h => (hx i h).2.1, fun i h => (hx i h).2.2⟩
theorem Lnk.ctxlt {hs : List Flt} (h : Lnk hs) : ∀ x : Int, 0 ≤ x → x < hs.length → ctxOf hs x < hs.length := by
  intro x h0 h1
  obtain ⟨i, rfl⟩ := Int.eq_ofNat_of_zero_le h0
  rw [ctxOf_at (by omega)]
  exact (h.ctx i (by omega)).2
theorem chain_is {nx : Int → Int} {n : Nat} (hb : ∀ x : Int, 0 ≤ x → x < n → nx x < n) {f : Int} (h0 : 0 ≤ f) (h1 : f < n) : Chn.Is nx f (chainN nx n f) :=
  Chn.go_is hb h0 h1 (n + 1) f [] (Chn.Pre.start h1) (by simp)
theorem last_of {nx : Int → Int} {n : Nat} {f x : Int} (h : (chainN nx n f).getLast? = some x) : lastN nx n f = x := by
  unfold lastN; rw [List.getLastD_eq_getLast?, h]; rfl
theorem is_last {nx : Int → Int} {f : Int} {L : List Int} (h : Chn.Is nx f L) : ∃ x, L.getLast? = some x ∧ x ∈ L := by
  cases e : L.getLast? with
  | none => rw [List.getLast?_eq_none_iff] at e; exact absurd e h.ne
  | some x => exact ⟨x, rfl, List.mem_of_getLast? e⟩
theorem ends_iff {hs : List Flt} (h : Lnk hs) : endsF hs 0 hs.length = true ↔ Chn.allEnd (ctxOf hs) hs.length := by
  rw [endsF_mem]
  constructor
  · intro H f h0 h1 L hL x hx
    obtain ⟨i, rfl⟩ := Int.eq_ofNat_of_zero_le h0
    have := H i (Nat.zero_le _) (by omega)
    unfold endsAt at this
    rw [hL.uniq (chain_is h.ctxlt h0 h1)] at hx
    rw [last_of hx] at this
    simpa using this
  · intro H i _ hi
    have hc := chain_is (f := (i : Int)) h.ctxlt (by omega) (by omega)
    obtain ⟨x, hx, _⟩ := is_last hc
    unfold endsAt
    rw [last_of hx]
    simpa using H i (by omega) (by omega) _ hc x hx
def backAt (hs : List Flt) (i : Int) : Bool := decide (0 ≤ ctxOf hs i) && hasI (chainN (ctxOf hs) hs.length (ctxOf hs i)) i
theorem hasI_iff' {x : Int} : ∀ {L : List Int}, hasI L x = true ↔ x ∈ L
  | [] => by simp [hasI]
  | c :: r => by
    rw [hasI, Bool.or_eq_true, hasI_iff' (L := r), List.mem_cons, beq_iff_eq]
    constructor
    · rintro (h | h)
      · exact .inl h.symm
      · exact .inr h
    · rintro (h | h)
      · exact .inl h.symm
      · exact .inr h
theorem noback_iff {hs : List Flt} (h : Lnk hs) : Chn.noBack (ctxOf hs) hs.length ↔ ∀ i, i < hs.length → backAt hs (i : Int) = false := by
  constructor
  · intro H i hi
    unfold backAt
    by_cases h0 : 0 ≤ ctxOf hs (i : Int)
    · have hc := chain_is (f := ctxOf hs (i : Int)) h.ctxlt h0 (h.ctxlt i (by omega) (by omega))
      have := H i (by omega) (by omega) _ hc
      rw [← hasI_iff'] at this
      rw [Bool.and_eq_false_iff]; right; simpa using this
    · rw [decide_eq_false h0]; rfl
  · intro H i h0 h1 L hL hm
    obtain ⟨k, rfl⟩ := Int.eq_ofNat_of_zero_le h0
    have hk := H k (by omega)
    unfold backAt at hk
    have hp : 0 ≤ ctxOf hs (k : Int) := by
      have h2 := hL.hd
      have h3 : ctxOf hs (k : Int) ∈ L := List.mem_of_head? h2
      exact hL.pos _ h3
    have hc := chain_is (f := ctxOf hs (k : Int)) h.ctxlt hp (h.ctxlt k (by omega) (by omega))
    rw [hL.uniq hc] at hm
    rw [decide_eq_true hp, Bool.true_and, hasI_iff'.2 hm] at hk
    cases hk
theorem ends_back {hs : List Flt} (h : Lnk hs) : endsF hs 0 hs.length = true ↔ ∀ i, i < hs.length → backAt hs (i : Int) = false := by
  rw [ends_iff h, ← noback_iff h]
  exact ⟨Chn.noBack_of_end, Chn.end_of_noBack h.ctxlt⟩
/-- what a valid heap keeps to -/
structure GoodH (xs : List Cls) (hs : List Flt) : Prop where
  tree : Good xs
  few : hs.length ≤ 24
  lnk : Lnk hs
  cls : ∀ i (h : i < hs.length), 0 ≤ hs[i].cls ∧ hs[i].cls < xs.length
  code : ∀ i (h : i < hs.length), 0 ≤ hs[i].code ∧ hs[i].code ≤ 99
  fin : Chn.allEnd (ctxOf hs) hs.length
theorem okHeap_tree {xs : List Cls} {hs : List Flt} (h : okHeap xs hs = true) : okTree xs = true := by
  unfold okHeap at h; simp only [Bool.and_eq_true] at h; exact h.1.2
theorem goodH_of {xs : List Cls} {hs : List Flt} (h : okHeap xs hs = true) : GoodH xs hs := by
  have ht := okHeap_tree h
  unfold okHeap at h
  simp only [Bool.and_eq_true, decide_eq_true_eq] at h
  obtain ⟨⟨⟨h1, h2⟩, _⟩, h4⟩ := h
  have hl := lnk_of h1
  have hm := allF_mem (hs := hs) hs.length 0 (by omega) (by simpa using h1)
  refine ⟨good_of ht, h4, hl, fun i hi => ?_, fun i hi => ?_, (ends_iff hl).1 h2⟩
  · have := hm i hi (Nat.zero_le _)
    unfold fOk at this
    simp only [Bool.and_eq_true] at this
    exact hasK_iff.1 this.1.1
  · have := hm i hi (Nat.zero_le _)
    unfold fOk at this
    simp only [Bool.and_eq_true, rng_iff] at this
    exact this.1.2
end Go.Proofs.Ytpdggodmiliijaa
