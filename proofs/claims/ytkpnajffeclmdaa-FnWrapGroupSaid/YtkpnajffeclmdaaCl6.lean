/- one text of HpA, TyPart, GpA, TyLeaf, GpB, GA -/
import Derived.Test.YtkpnajffeclmdaaCl5
import Derived.Test.YtkpnajffeclmdaaCl1
import Derived.Test.YtkpnajffeclmdaaCl2
namespace Go.Proofs.Ytkpnajffeclmdaa
open Go.RowKit
set_option linter.unusedVariables false
section
def ctxOf (hs : List Flt) (x : Int) : Int := match hs[x.toNat]? with | some f => f.ctx | none => -1
theorem ctxOf_at {hs : List Flt} {i : Nat} (h : i < hs.length) : ctxOf hs (i : Int) = hs[i].ctx := by
  unfold ctxOf; rw [Int.toNat_natCast, List.getElem?_eq_getElem h]
def rng (lo hi x : Int) : Bool := decide (lo ≤ x) && decide (x ≤ hi)
theorem rng_iff {lo hi x : Int} : rng lo hi x = true ↔ lo ≤ x ∧ x ≤ hi := by unfold rng; simp
def linksOk (n : Nat) (k : Int) (x : Flt) : Bool := rng (-1) ((n : Int) - 1) x.cause && rng (-1) ((n : Int) - 1) x.ctx && (x.cause != k) && (x.ctx != k)
def fOk (xs : List Cls) (n : Nat) (k : Int) (x : Flt) : Bool := hasK xs x.cls && rng 0 99 x.code && linksOk n k x
def allF (xs : List Cls) (n : Nat) : Nat → List Flt → Bool
  | _, [] => true
  | k, x :: r => fOk xs n (k : Int) x && allF xs n (k + 1) r
theorem allF_at {xs : List Cls} {n : Nat} {hs : List Flt} {k : Nat} (h : k < hs.length) : allF xs n k (hs.drop k) = (fOk xs n (k : Int) hs[k] && allF xs n (k + 1) (hs.drop (k + 1))) := by
  rw [List.drop_eq_getElem_cons h]; rfl
theorem allF_end {xs : List Cls} {n : Nat} {hs : List Flt} {k : Nat} (h : ¬ k < hs.length) : allF xs n k (hs.drop k) = true := by
  rw [List.drop_eq_nil_of_le (by omega)]; rfl
theorem allF_mem {xs : List Cls} {n : Nat} {hs : List Flt} : ∀ (m k : Nat), k + m = hs.length → allF xs n k (hs.drop k) = true → ∀ i (h : i < hs.length), k ≤ i → fOk xs n (i : Int) hs[i] = true := by
  intro m
  induction m with
  | zero => intro k hk h i hi hki; omega
  | succ m ih =>
    intro k hk h i hi hki
    rw [allF_at (by omega), Bool.and_eq_true] at h
    by_cases e : i = k
    · subst e; exact h.1
    · exact ih (k + 1) (by omega) h.2 i hi (by omega)
theorem allF_mk {xs : List Cls} {n : Nat} {hs : List Flt} (H : ∀ i (h : i < hs.length), fOk xs n (i : Int) hs[i] = true) : ∀ (m k : Nat), k + m = hs.length → allF xs n k (hs.drop k) = true := by
  intro m
  induction m with
  | zero => intro k hk; exact allF_end (by omega)
  | succ m ih => intro k hk; rw [allF_at (by omega), H k (by omega), ih (k + 1) (by omega)]; rfl
/-- the chain from f along nx -/
def chainN (nx : Int → Int) (n : Nat) (f : Int) : List Int := Chn.go nx (n + 1) f []
def lastN (nx : Int → Int) (n : Nat) (f : Int) : Int := (chainN nx n f).getLastD (-1)
def endsAt (hs : List Flt) (f : Int) : Bool := decide (ctxOf hs (lastN (ctxOf hs) hs.length f) < 0)
def endsF (hs : List Flt) : Nat → Nat → Bool
  | _, 0 => true
  | k, m + 1 => endsAt hs (k : Int) && endsF hs (k + 1) m
theorem endsF_mem {hs : List Flt} : ∀ (m k : Nat), endsF hs k m = true ↔ ∀ i, k ≤ i → i < k + m → endsAt hs (i : Int) = true := by
  intro m
  induction m with
  | zero => intro k; simp [endsF]; intro i h1 h2; omega
  | succ m ih =>
    intro k
    rw [endsF, Bool.and_eq_true, ih]
    constructor
    · rintro ⟨h1, h2⟩ i hi hk
      by_cases e : i = k
      · subst e; exact h1
      · exact h2 i (by omega) (by omega)
    · intro h
      exact ⟨h k (Nat.le_refl _) (by omega), fun i h1 h2 => h i (by omega) (by omega)⟩
def okHeap (xs : List Cls) (hs : List Flt) : Bool := allF xs hs.length 0 hs && endsF hs 0 hs.length && okTree xs && decide (hs.length ≤ 24)
/-- links lead into the heap -/
structure Lnk (hs : List Flt) : Prop where
  cause : ∀ i (h : i < hs.length), -1 ≤ hs[i].cause ∧ hs[i].cause < hs.length
  ctx : ∀ i (h : i < hs.length), -1 ≤ hs[i].ctx ∧ hs[i].ctx < hs.length
  ne : ∀ i (h : i < hs.length), hs[i].cause ≠ (i : Int) ∧ hs[i].ctx ≠ (i : Int)
theorem lnk_of {xs : List Cls} {hs : List Flt} (h : allF xs hs.length 0 hs = true) : Lnk hs := by
  have hm := allF_mem (hs := hs) hs.length 0 (by omega) (by simpa using h)
  have hx : ∀ i (h : i < hs.length), (-1 ≤ hs[i].cause ∧ hs[i].cause < hs.length) ∧ (-1 ≤ hs[i].ctx ∧ hs[i].ctx < hs.length) ∧ hs[i].cause ≠ (i : Int) ∧ hs[i].ctx ≠ (i : Int) := by
    intro i hi
    have := hm i hi (Nat.zero_le _)
    unfold fOk linksOk at this
    simp only [Bool.and_eq_true, rng_iff, bne_iff_ne] at this
    obtain ⟨_, ⟨⟨h1, h2⟩, h3⟩, h4⟩ := this
    exact ⟨by omega, by omega, h3, h4⟩
  exact ⟨fun i h => (hx i h).1, fun i h => (hx i h).2.1, fun i h => (hx i h).2.2⟩
theorem Lnk.ctxlt {hs : List Flt} (h : Lnk hs) : ∀ x : Int, 0 ≤ x → x < hs.length → ctxOf hs x < hs.length := by
  intro x h0 h1
  obtain ⟨i, rfl⟩ := Int.eq_ofNat_of_zero_le h0
  rw [ctxOf_at (by omega)]
  exact (h.ctx i (by omega)).2
theorem chain_is {nx : Int → Int} {n : Nat} (hb : ∀ x : Int, 0 ≤ x → x < n → nx x < n) {f : Int} (h0 : 0 ≤ f) (h1 : f < n) : Chn.Is nx f (chainN nx n f) :=
  Chn.go_is hb h0 h1 (n + 1) f [] (Chn.Pre.start h1) (by simp)
theorem last_of {nx : Int → Int} {n : Nat} {f x : Int} (h : (chainN nx n f).getLast? = some x) : lastN nx n f = x := by
  unfold lastN; rw [List.getLastD_eq_getLast?, h]; rfl
theorem is_last {nx : Int → Int} {f : Int} {L : List Int} (h : Chn.Is nx f L) : ∃ x, L.getLast? = some x ∧ x ∈ L := by
  cases e : L.getLast? with
  | none => rw [List.getLast?_eq_none_iff] at e; exact absurd e h.ne
  | some x => exact ⟨x, rfl, List.mem_of_getLast? e⟩
theorem ends_iff {hs : List Flt} (h : Lnk hs) : endsF hs 0 hs.length = true ↔ Chn.allEnd (ctxOf hs) hs.length := by
  rw [endsF_mem]
  constructor
  · intro H f h0 h1 L hL x hx
    obtain ⟨i, rfl⟩ := Int.eq_ofNat_of_zero_le h0
    have := H i (Nat.zero_le _) (by omega)
    unfold endsAt at this
    rw [hL.uniq (chain_is h.ctxlt h0 h1)] at hx
    rw [last_of hx] at this
    simpa using this
  · intro H i _ hi
    have hc := chain_is (f := (i : Int)) h.ctxlt (by omega) (by omega)
    obtain ⟨x, hx, _⟩ := is_last hc
    unfold endsAt
    rw [last_of hx]
    simpa using H i (by omega) (by omega) _ hc x hx
def backAt (hs : List Flt) (i : Int) : Bool := decide (0 ≤ ctxOf hs i) && hasI (chainN (ctxOf hs) hs.length (ctxOf hs i)) i
theorem hasI_iff' {x : Int} : ∀ {L : List Int}, hasI L x = true ↔ x ∈ L
  | [] => by simp [hasI]
  | c :: r => by
    rw [hasI, Bool.or_eq_true, hasI_iff' (L := r), List.mem_cons, beq_iff_eq]
    constructor
    · rintro (h | h)
      · exact .inl h.symm
      · exact .inr h
    · rintro (h | h)
      · exact .inl h.symm
      · exact .inr h
theorem noback_iff {hs : List Flt} (h : Lnk hs) : Chn.noBack (ctxOf hs) hs.length ↔ ∀ i, i < hs.length → backAt hs (i : Int) = false := by
  constructor
  · intro H i hi
    unfold backAt
    by_cases h0 : 0 ≤ ctxOf hs (i : Int)
    · have hc := chain_is (f := ctxOf hs (i : Int)) h.ctxlt h0 (h.ctxlt i (by omega) (by omega))
      have := H i (by omega) (by omega) _ hc
      rw [← hasI_iff'] at this
      rw [Bool.and_eq_false_iff]; right; simpa using this
    · rw [decide_eq_false h0]; rfl
  · intro H i h0 h1 L hL hm
    obtain ⟨k, rfl⟩ := Int.eq_ofNat_of_zero_le h0
    have hk := H k (by omega)
    unfold backAt at hk
    have hp : 0 ≤ ctxOf hs (k : Int) := by
      have h2 := hL.hd
      have h3 : ctxOf hs (k : Int) ∈ L := List.mem_of_head? h2
      exact hL.pos _ h3
    have hc := chain_is (f := ctxOf hs (k : Int)) h.ctxlt hp (h.ctxlt k (by omega) (by omega))
    rw [hL.uniq hc] at hm
    rw [decide_eq_true hp, Bool.true_and, hasI_iff'.2 hm] at hk
    cases hk
theorem ends_back {hs : List Flt} (h : Lnk hs) : endsF hs 0 hs.length = true ↔ ∀ i, i < hs.length → backAt hs (i : Int) = false := by
  rw [ends_iff h, ← noback_iff h]
  exact ⟨Chn.noBack_of_end, Chn.end_of_noBack h.ctxlt⟩
/-- what a valid heap keeps to -/
structure GoodH (xs : List Cls) (hs : List Flt) : Prop where
  tree : Good xs
  few : hs.length ≤ 24
  lnk : Lnk hs
  cls : ∀ i (h : i < hs.length), 0 ≤ hs[i].cls ∧ hs[i].cls < xs.length
  code : ∀ i (h : i < hs.length), 0 ≤ hs[i].code ∧ hs[i].code ≤ 99
  fin : Chn.allEnd (ctxOf hs) hs.length
theorem okHeap_tree {xs : List Cls} {hs : List Flt} (h : okHeap xs hs = true) : okTree xs = true := by
  unfold okHeap at h; simp only [Bool.and_eq_true] at h; exact h.1.2
theorem goodH_of {xs : List Cls} {hs : List Flt} (h : okHeap xs hs = true) : GoodH xs hs := by
  have ht := okHeap_tree h
  unfold okHeap at h
  simp only [Bool.and_eq_true, decide_eq_true_eq] at h
  obtain ⟨⟨⟨h1, h2⟩, _⟩, h4⟩ := h
  have hl := lnk_of h1
  have hm := allF_mem (hs := hs) hs.length 0 (by omega) (by simpa using h1)
  refine ⟨good_of ht, h4, hl, fun i hi => ?_, fun i hi => ?_, (ends_iff hl).1 h2⟩
  · have := hm i hi (Nat.zero_le _)
    unfold fOk at this
    simp only [Bool.and_eq_true] at this
    exact hasK_iff.1 this.1.1
  · have := hm i hi (Nat.zero_le _)
    unfold fOk at this
    simp only [Bool.and_eq_true, rng_iff] at this
    exact this.1.2
end

section
structure Prt where
  depth : Int
  group : Bool
  cls : Int
  code : Int
instance instEncPrt : Enc Prt := ⟨4, fun x => [.int .i64 x.depth, .bool x.group, .int .i64 x.cls, .int .i64 x.code], fun x => -9223372036854775808 ≤ x.depth ∧ x.depth ≤ 9223372036854775807 ∧ -9223372036854775808 ≤ x.cls ∧ x.cls ≤ 9223372036854775807 ∧ -9223372036854775808 ≤ x.code ∧ x.code ≤ 9223372036854775807, fun _ => rfl⟩
theorem Sl.prt_at {w : World} {A : Option Addr} {n cap : Nat} {xs : List Prt} (h : Sl w A n cap xs) {k : Nat} (hk : k < xs.length) :
    ∃ b off, A = some ⟨b, off, none⟩ ∧ b < w.heap.size ∧ w.cell? ⟨b, off + k * 4, none⟩ = some (.int .i64 xs[k].depth) ∧ w.cell? ⟨b, off + k * 4 + 1, none⟩ = some (.bool xs[k].group) ∧ w.cell? ⟨b, off + k * 4 + 2, none⟩ = some (.int .i64 xs[k].cls) ∧ w.cell? ⟨b, off + k * 4 + 3, none⟩ = some (.int .i64 xs[k].code) ∧ (-9223372036854775808 ≤ xs[k].depth ∧ xs[k].depth ≤ 9223372036854775807 ∧ -9223372036854775808 ≤ xs[k].cls ∧ xs[k].cls ≤ 9223372036854775807 ∧ -9223372036854775808 ≤ xs[k].code ∧ xs[k].code ≤ 9223372036854775807) := by
  obtain ⟨b, off, e, hb, hc⟩ := h.cells_ hk
  have h0 := hc 0 (by decide) _ rfl
  have h1 := hc 1 (by decide) _ rfl
  have h2 := hc 2 (by decide) _ rfl
  have h3 := hc 3 (by decide) _ rfl
  exact ⟨b, off, e, hb, by simpa [Enc.size] using h0, by simpa [Enc.size, Nat.add_assoc] using h1, by simpa [Enc.size, Nat.add_assoc] using h2, by simpa [Enc.size, Nat.add_assoc] using h3, h.ok xs[k] (List.getElem_mem hk)⟩
theorem flat_prt_depth : ∀ (xs : List Prt) (k : Nat) (h : k < xs.length) (z : Int), (xs.flatMap Enc.cells).set (k * 4) (.int .i64 z) = (xs.set k {xs[k] with depth := z}).flatMap Enc.cells
  | x :: r, 0, _, z => rfl
  | x :: r, k + 1, h, z => by
    have ih := flat_prt_depth r k (by simpa using h) z
    have e : (k + 1) * 4 = k * 4 + 1 + 1 + 1 + 1 := by omega
    rw [e]
    show Value.int .i64 x.depth :: Value.bool x.group :: Value.int .i64 x.cls :: Value.int .i64 x.code :: (r.flatMap Enc.cells).set (k * 4) (.int .i64 z) = _
    rw [ih]; rfl
theorem flat_prt_group : ∀ (xs : List Prt) (k : Nat) (h : k < xs.length) (z : Bool), (xs.flatMap Enc.cells).set (k * 4 + 1) (.bool z) = (xs.set k {xs[k] with group := z}).flatMap Enc.cells
  | x :: r, 0, _, z => rfl
  | x :: r, k + 1, h, z => by
    have ih := flat_prt_group r k (by simpa using h) z
    have e : (k + 1) * 4 + 1 = k * 4 + 1 + 1 + 1 + 1 + 1 := by omega
    rw [e]
    show Value.int .i64 x.depth :: Value.bool x.group :: Value.int .i64 x.cls :: Value.int .i64 x.code :: (r.flatMap Enc.cells).set (k * 4 + 1) (.bool z) = _
    rw [ih]; rfl
theorem flat_prt_cls : ∀ (xs : List Prt) (k : Nat) (h : k < xs.length) (z : Int), (xs.flatMap Enc.cells).set (k * 4 + 2) (.int .i64 z) = (xs.set k {xs[k] with cls := z}).flatMap Enc.cells
  | x :: r, 0, _, z => rfl
  | x :: r, k + 1, h, z => by
    have ih := flat_prt_cls r k (by simpa using h) z
    have e : (k + 1) * 4 + 2 = k * 4 + 2 + 1 + 1 + 1 + 1 := by omega
    rw [e]
    show Value.int .i64 x.depth :: Value.bool x.group :: Value.int .i64 x.cls :: Value.int .i64 x.code :: (r.flatMap Enc.cells).set (k * 4 + 2) (.int .i64 z) = _
    rw [ih]; rfl
theorem flat_prt_code : ∀ (xs : List Prt) (k : Nat) (h : k < xs.length) (z : Int), (xs.flatMap Enc.cells).set (k * 4 + 3) (.int .i64 z) = (xs.set k {xs[k] with code := z}).flatMap Enc.cells
  | x :: r, 0, _, z => rfl
  | x :: r, k + 1, h, z => by
    have ih := flat_prt_code r k (by simpa using h) z
    have e : (k + 1) * 4 + 3 = k * 4 + 3 + 1 + 1 + 1 + 1 := by omega
    rw [e]
    show Value.int .i64 x.depth :: Value.bool x.group :: Value.int .i64 x.cls :: Value.int .i64 x.code :: (r.flatMap Enc.cells).set (k * 4 + 3) (.int .i64 z) = _
    rw [ih]; rfl
end

section
def gAt (g : List Prt) (i : Nat) : Prt := g[i]?.getD ⟨0, false, 0, 0⟩
theorem gAt_at {g : List Prt} {i : Nat} (h : i < g.length) : gAt g i = g[i] := by unfold gAt; rw [List.getElem?_eq_getElem h]; rfl
/-- the index behind the last part below the part i -/
def endFrom (g : List Prt) (i : Nat) : Nat → Nat → Nat
  | 0, k => k
  | m + 1, k => if k < g.length ∧ (gAt g i).depth < (gAt g k).depth then endFrom g i m (k + 1) else k
def endN (g : List Prt) (i : Nat) : Nat := endFrom g i (g.length - (i + 1)) (i + 1)
theorem endFrom_ge (g : List Prt) (i : Nat) : ∀ m k, k ≤ endFrom g i m k
  | 0, k => Nat.le_refl _
  | m + 1, k => by
    unfold endFrom
    split
    · exact Nat.le_trans (Nat.le_succ k) (endFrom_ge g i m (k + 1))
    · exact Nat.le_refl _
def below (g : List Prt) (i : Nat) : Bool := decide (i + 1 < g.length) && decide ((gAt g i).depth < (gAt g (i + 1)).depth)
theorem end_below (g : List Prt) (i : Nat) : decide (endN g i = i + 1) = !below g i := by
  unfold endN below
  by_cases h : i + 1 < g.length
  · obtain ⟨m, hm⟩ : ∃ m, g.length - (i + 1) = m + 1 := ⟨g.length - (i + 1) - 1, by omega⟩
    rw [hm, decide_eq_true h, Bool.true_and]
    unfold endFrom
    by_cases hd : (gAt g i).depth < (gAt g (i + 1)).depth
    · rw [if_pos ⟨h, hd⟩, decide_eq_true hd]
      have := endFrom_ge g i m (i + 1 + 1)
      exact decide_eq_false (by omega)
    · rw [if_neg (fun x => hd x.2), decide_eq_false hd]
      exact decide_eq_true rfl
  · have hm : g.length - (i + 1) = 0 := by omega
    rw [hm, decide_eq_false h]
    exact decide_eq_true rfl
/-- what the model asks of the part i -/
def partS (xs : List Cls) (g : List Prt) (i : Nat) : Bool :=
  let p := gAt g i
  rng 0 99 p.code && rng 0 5 p.depth && !(p.group && (p.cls != 0)) && !(!p.group && !hasK xs p.cls) && (decide (p.depth = 0) == decide (i = 0)) &&
    (decide (i = 0) || !(decide ((gAt g (i - 1)).depth + 1 < p.depth) || (decide ((gAt g (i - 1)).depth < p.depth) && !(gAt g (i - 1)).group))) && !(p.group && decide (endN g i = i + 1))
/-- what the program asks of the part i -/
def depthP (g : List Prt) (i : Nat) : Bool :=
  if i = 0 then decide ((gAt g 0).depth = 0) else rng 1 (min ((gAt g (i - 1)).depth + (if (gAt g (i - 1)).group = true then 1 else 0)) 5) (gAt g i).depth
def partP (xs : List Cls) (g : List Prt) (i : Nat) : Bool :=
  let p := gAt g i
  rng 0 99 p.code && cond p.group (decide (p.cls = 0) && below g i) (rng 0 ((xs.length : Int) - 1) p.cls)
theorem part_same (xs : List Cls) (g : List Prt) (i : Nat) : partS xs g i = (depthP g i && partP xs g i) := by
  have hk : hasK xs (gAt g i).cls = rng 0 ((xs.length : Int) - 1) (gAt g i).cls := rfl
  have he := end_below g i
  unfold partS partP depthP
  simp only [he, hk]
  generalize below g i = bl
  generalize rng 0 99 (gAt g i).code = cd
  generalize rng 0 ((xs.length : Int) - 1) (gAt g i).cls = rk
  generalize (gAt g i).group = gr
  by_cases hi : i = 0
  · subst hi
    rw [if_pos rfl]
    generalize (gAt g 0).depth = dp
    generalize (gAt g 0).cls = cl
    rw [show decide ((0 : Nat) = 0) = true from rfl]
    simp only [Bool.true_or]
    by_cases hd : dp = 0
    · subst hd
      by_cases hc : cl = 0
      · subst hc; revert bl cd rk gr; decide
      · rw [decide_eq_false hc, show (cl != 0) = true from bne_iff_ne.2 hc]; revert bl cd rk gr; decide
    · rw [decide_eq_false hd]
      simp
  · rw [if_neg hi, decide_eq_false hi]
    generalize (gAt g (i - 1)).depth = pd
    generalize (gAt g (i - 1)).group = pg
    generalize (gAt g i).depth = dp
    generalize (gAt g i).cls = cl
    have hdep : (rng 0 5 dp && (decide (dp = 0) == false) && (false || !(decide (pd + 1 < dp) || (decide (pd < dp) && !pg)))) = rng 1 (min (pd + (if pg = true then 1 else 0)) 5) dp := by
      rw [Bool.eq_iff_iff]
      cases pg
      · simp only [Bool.and_eq_true, rng_iff, beq_iff_eq, decide_eq_false_iff_not, Bool.false_or, Bool.not_eq_true', Bool.or_eq_false_iff, Bool.not_false, Bool.and_true]
        simp
        omega
      · simp only [Bool.and_eq_true, rng_iff, beq_iff_eq, decide_eq_false_iff_not, Bool.false_or, Bool.not_eq_true', Bool.or_eq_false_iff, Bool.not_true, Bool.and_false]
        simp
        omega
    rw [← hdep]
    generalize rng 0 5 dp = r5
    generalize (decide (dp = 0) == false) = z
    generalize (false || !(decide (pd + 1 < dp) || (decide (pd < dp) && !pg))) = q
    by_cases hc : cl = 0
    · subst hc; revert bl cd rk gr r5 z q; decide
    · rw [decide_eq_false hc, show (cl != 0) = true from bne_iff_ne.2 hc]; revert bl cd rk gr r5 z q; decide
end

section
structure Lef where
  cls : Int
  code : Int
instance instEncLef : Enc Lef := ⟨2, fun x => [.int .i64 x.cls, .int .i64 x.code], fun x => -9223372036854775808 ≤ x.cls ∧ x.cls ≤ 9223372036854775807 ∧ -9223372036854775808 ≤ x.code ∧ x.code ≤ 9223372036854775807, fun _ => rfl⟩
theorem Sl.lef_at {w : World} {A : Option Addr} {n cap : Nat} {xs : List Lef} (h : Sl w A n cap xs) {k : Nat} (hk : k < xs.length) :
    ∃ b off, A = some ⟨b, off, none⟩ ∧ b < w.heap.size ∧ w.cell? ⟨b, off + k * 2, none⟩ = some (.int .i64 xs[k].cls) ∧ w.cell? ⟨b, off + k * 2 + 1, none⟩ = some (.int .i64 xs[k].code) ∧ (-9223372036854775808 ≤ xs[k].cls ∧ xs[k].cls ≤ 9223372036854775807 ∧ -9223372036854775808 ≤ xs[k].code ∧ xs[k].code ≤ 9223372036854775807) := by
  obtain ⟨b, off, e, hb, hc⟩ := h.cells_ hk
  have h0 := hc 0 (by decide) _ rfl
  have h1 := hc 1 (by decide) _ rfl
  exact ⟨b, off, e, hb, by simpa [Enc.size] using h0, by simpa [Enc.size, Nat.add_assoc] using h1, h.ok xs[k] (List.getElem_mem hk)⟩
theorem flat_lef_cls : ∀ (xs : List Lef) (k : Nat) (h : k < xs.length) (z : Int), (xs.flatMap Enc.cells).set (k * 2) (.int .i64 z) = (xs.set k {xs[k] with cls := z}).flatMap Enc.cells
  | x :: r, 0, _, z => rfl
  | x :: r, k + 1, h, z => by
    have ih := flat_lef_cls r k (by simpa using h) z
    have e : (k + 1) * 2 = k * 2 + 1 + 1 := by omega
    rw [e]
    show Value.int .i64 x.cls :: Value.int .i64 x.code :: (r.flatMap Enc.cells).set (k * 2) (.int .i64 z) = _
    rw [ih]; rfl
theorem flat_lef_code : ∀ (xs : List Lef) (k : Nat) (h : k < xs.length) (z : Int), (xs.flatMap Enc.cells).set (k * 2 + 1) (.int .i64 z) = (xs.set k {xs[k] with code := z}).flatMap Enc.cells
  | x :: r, 0, _, z => rfl
  | x :: r, k + 1, h, z => by
    have ih := flat_lef_code r k (by simpa using h) z
    have e : (k + 1) * 2 + 1 = k * 2 + 1 + 1 + 1 := by omega
    rw [e]
    show Value.int .i64 x.cls :: Value.int .i64 x.code :: (r.flatMap Enc.cells).set (k * 2 + 1) (.int .i64 z) = _
    rw [ih]; rfl
end

section
def allF2 (f : Nat → Bool) : Nat → Nat → Bool
  | _, 0 => true
  | k, m + 1 => f k && allF2 f (k + 1) m
theorem allF2_congr {f h : Nat → Bool} (e : ∀ i, f i = h i) : ∀ m k, allF2 f k m = allF2 h k m
  | 0, _ => rfl
  | m + 1, k => by unfold allF2; rw [e, allF2_congr e m (k + 1)]
theorem allF2_mem {f : Nat → Bool} : ∀ m k, allF2 f k m = true → ∀ i, k ≤ i → i < k + m → f i = true
  | 0, k, _, i, h1, h2 => by omega
  | m + 1, k, h, i, h1, h2 => by
    unfold allF2 at h
    rw [Bool.and_eq_true] at h
    by_cases e : i = k
    · subst e; exact h.1
    · exact allF2_mem m (k + 1) h.2 i (by omega) (by omega)
theorem allF2_at {f : Nat → Bool} {n k : Nat} (h : k < n) : allF2 f k (n - k) = (f k && allF2 f (k + 1) (n - (k + 1))) := by
  obtain ⟨m, hm⟩ : ∃ m, n - k = m + 1 := ⟨n - k - 1, by omega⟩
  rw [hm, show n - (k + 1) = m by omega]; rfl
theorem allF2_end {f : Nat → Bool} {n k : Nat} (h : ¬ k < n) : allF2 f k (n - k) = true := by
  rw [show n - k = 0 by omega]; rfl
/-- the model's validGroup, the program's ValidGroup -/
def gOkS (xs : List Cls) (g : List Prt) : Bool := allF2 (partS xs g) 0 g.length && (okTree xs && rng 1 16 g.length)
def gOkP (xs : List Cls) (g : List Prt) : Bool := okTree xs && rng 1 16 g.length && allF2 (fun i => depthP g i && partP xs g i) 0 g.length
theorem gOk_same (xs : List Cls) (g : List Prt) : gOkS xs g = gOkP xs g := by
  unfold gOkS gOkP
  rw [allF2_congr (part_same xs g) g.length 0, Bool.and_comm]
/-- what a valid group keeps to -/
structure GoodG (xs : List Cls) (g : List Prt) : Prop where
  tree : okTree xs = true
  len : 1 ≤ g.length ∧ g.length ≤ 16
  first : (gAt g 0).depth = 0
  deep : ∀ i, 1 ≤ i → i < g.length → 1 ≤ (gAt g i).depth ∧ (gAt g i).depth ≤ 5
  step : ∀ i, 1 ≤ i → i < g.length → (gAt g i).depth ≤ (gAt g (i - 1)).depth + (if (gAt g (i - 1)).group = true then 1 else 0)
  code : ∀ i, i < g.length → 0 ≤ (gAt g i).code ∧ (gAt g i).code ≤ 99
  grp : ∀ i, i < g.length → (gAt g i).group = true → (gAt g i).cls = 0 ∧ i + 1 < g.length ∧ (gAt g i).depth < (gAt g (i + 1)).depth
  leaf : ∀ i, i < g.length → (gAt g i).group = false → 0 ≤ (gAt g i).cls ∧ (gAt g i).cls < xs.length
theorem goodG_of {xs : List Cls} {g : List Prt} (h : gOkP xs g = true) : GoodG xs g := by
  unfold gOkP at h
  simp only [Bool.and_eq_true, rng_iff] at h
  obtain ⟨⟨h1, h2⟩, h3⟩ := h
  have hm := fun i (hi : i < g.length) => allF2_mem g.length 0 h3 i (Nat.zero_le _) (by omega)
  have hd : ∀ i, i < g.length → depthP g i = true ∧ partP xs g i = true := fun i hi => by
    have := hm i hi
    simpa only [Bool.and_eq_true] using this
  refine ⟨h1, by omega, ?_, ?_, ?_, ?_, ?_, ?_⟩
  · have := (hd 0 (by omega)).1
    unfold depthP at this
    simpa using this
  · intro i h0 hi
    have := (hd i hi).1
    unfold depthP at this
    rw [if_neg (by omega), rng_iff] at this
    omega
  · intro i h0 hi
    have := (hd i hi).1
    unfold depthP at this
    rw [if_neg (by omega), rng_iff] at this
    omega
  · intro i hi
    have := (hd i hi).2
    unfold partP at this
    simp only [Bool.and_eq_true, rng_iff] at this
    exact this.1
  · intro i hi hg
    have := (hd i hi).2
    unfold partP below at this
    simp only [hg, cond_true, Bool.and_eq_true, decide_eq_true_eq] at this
    exact ⟨this.2.1, this.2.2.1, this.2.2.2⟩
  · intro i hi hg
    have := (hd i hi).2
    unfold partP at this
    simp only [hg, cond_false, Bool.and_eq_true, rng_iff] at this
    omega
/-- all of a valid group lies below its first part -/
theorem endFrom_all {g : List Prt} (h : ∀ k, 1 ≤ k → k < g.length → (gAt g 0).depth < (gAt g k).depth) : ∀ m k, 1 ≤ k → k + m = g.length → endFrom g 0 m k = g.length
  | 0, k, _, e => by unfold endFrom; omega
  | m + 1, k, h1, e => by
    unfold endFrom
    rw [if_pos ⟨by omega, h k h1 (by omega)⟩]
    exact endFrom_all h m (k + 1) (by omega) (by omega)
theorem end_zero {xs : List Cls} {g : List Prt} (h : GoodG xs g) : endN g 0 = g.length := by
  unfold endN
  have hl := h.len
  refine endFrom_all (fun k h1 h2 => ?_) _ _ (by omega) (by omega)
  have := h.deep k h1 h2
  rw [h.first]; omega
/-- a valid group has a leaf: its last part -/
theorem last_leaf {xs : List Cls} {g : List Prt} (h : GoodG xs g) : (gAt g (g.length - 1)).group = false := by
  have hl := h.len
  cases e : (gAt g (g.length - 1)).group
  · rfl
  · have := (h.grp (g.length - 1) (by omega) e).2.1
    omega
def leavesL (g : List Prt) : List Lef := (g.filter (fun p => !p.group)).map (fun p => ⟨p.cls, p.code⟩)
def deepL (g : List Prt) : Int := g.foldl (fun n p => max n p.depth) 0
end

section
theorem endF_step (g : List Prt) (i : Nat) {k : Nat} (h : k < g.length) :
    endFrom g i (g.length - k) k = if (gAt g i).depth < (gAt g k).depth then endFrom g i (g.length - (k + 1)) (k + 1) else k := by
  obtain ⟨m, hm⟩ : ∃ m, g.length - k = m + 1 := ⟨g.length - k - 1, by omega⟩
  rw [hm, show g.length - (k + 1) = m by omega]
  show (if k < g.length ∧ (gAt g i).depth < (gAt g k).depth then _ else _) = _
  by_cases hd : (gAt g i).depth < (gAt g k).depth
  · rw [if_pos ⟨h, hd⟩, if_pos hd]
  · rw [if_neg (fun x => hd x.2), if_neg hd]
theorem endF_end (g : List Prt) (i : Nat) {k : Nat} (h : ¬ k < g.length) : endFrom g i (g.length - k) k = k := by
  rw [show g.length - k = 0 by omega]; rfl
set_option maxHeartbeats 1000000 in
theorem endOf_any (A : Option Addr) (n cap : Nat) (g : List Prt) (i : Nat) (hi : i < g.length) (w : World) (hR : Sl w A n cap g) :
    Calls Try.prog 69 #[.slice A n cap, .int .i64 i] w fun e w' => e = .returned (.int .i64 (endN g i)) ∧ Le w w' := by
  obtain rfl := hR.len
  have hm := hR.n_le
  have H0 : Hid (endN g i = endFrom g i (g.length - (i + 1)) (i + 1)) := rfl
  obtain ⟨bi, oi, rfl, hbi, hi0, -⟩ := hR.prt_at hi
  have hwi : IntKind.i64.wrap ((i : Int) + 1) = (i : Int) + 1 := IntWalk.i64_in _ (by omega)
  have hix : (0 : Int) ≤ (i : Int) := by omega
  have hin : (i : Int) < (g.length : Int) := by omega
  go_enter Try.func69, Try.ntmps69
  go_wp2
  go_loopw [5] (fun kk wr => ∃ k : Nat, i < k ∧ k ≤ g.length ∧ kk = .int .i64 k ∧ endN g i = endFrom g i (g.length - k) k ∧ Le w wr) (fun kk _ => g.length - (intOf kk).toNat)
  case atStart => exact ⟨i + 1, by omega, by omega, by go_num, H0.out, Le.refl _⟩
  case round =>
    obtain ⟨k, hik, hk, rfl, he, hle⟩ := hrel
    have HE := Lib.hid he
    clear he H0
    have T := hR.le hle
    clear hR hi0
    obtain ⟨b3, off3, e3, hb3, c0, -⟩ := T.prt_at hi
    cases e3
    have F0 := cell_ext hb3 c0
    have hkx : (0 : Int) ≤ (k : Int) := by omega
    by_cases hlt : k < g.length
    · obtain ⟨b2, off2, e2, hb2, d0, -⟩ := T.prt_at hlt
      cases e2
      have E0 := cell_ext hb2 d0
      by_cases hd : g[i].depth < g[k].depth
      · have HE2 : Hid (endN g i = endFrom g i (g.length - (k + 1)) (k + 1)) := by
          show _ = _
          rw [HE.out, endF_step g i hlt, gAt_at hi, gAt_at hlt, if_pos hd]
        clear HE
        go_wp2_with fail
        refine wp_region_ext (by kernel_rfl) (by kernel_rfl) ?_
        repeat (go_big_quiet_step (fail))
        refine wpQuiet_nil ?_
        intro _ hw'
        obtain ⟨gg, rfl⟩ := hw'
        have hw1 := Le.ext wr gg
        generalize wr.ext gg = W2 at *
        go_wp2
        go_roundw
        case rel => exact ⟨k + 1, by omega, by omega, by go_num, HE2.out, hle.trans hw1⟩
        case measure => simp [intOf]; omega
      · have HE2 : Hid (endN g i = k) := by
          show _ = _
          rw [HE.out, endF_step g i hlt, gAt_at hi, gAt_at hlt, if_neg hd]
        clear HE
        go_wp2_with fail
        refine wp_region_ext (by kernel_rfl) (by kernel_rfl) ?_
        repeat (go_big_quiet_step (fail))
        refine wpQuiet_nil ?_
        intro _ hw'
        obtain ⟨gg, rfl⟩ := hw'
        have hw1 := Le.ext wr gg
        generalize wr.ext gg = W2 at *
        go_wp2
        go_ret
        exact ⟨congrArg (fun z : Nat => Ending.returned (.int .i64 (z : Int))) HE2.out.symm, hle.trans hw1⟩
    · have HE2 : Hid (endN g i = k) := by
        show _ = _
        rw [HE.out, endF_end g i hlt]
      clear HE
      go_wp2_with fail
      refine wp_region_ext (by kernel_rfl) (by kernel_rfl) ?_
      repeat (go_big_quiet_step (fail))
      refine wpQuiet_nil ?_
      intro _ hw'
      obtain ⟨gg, rfl⟩ := hw'
      have hw1 := Le.ext wr gg
      generalize wr.ext gg = W2 at *
      go_wp2
      go_ret
      exact ⟨congrArg (fun z : Nat => Ending.returned (.int .i64 (z : Int))) HE2.out.symm, hle.trans hw1⟩
end
end Go.Proofs.Ytkpnajffeclmdaa
