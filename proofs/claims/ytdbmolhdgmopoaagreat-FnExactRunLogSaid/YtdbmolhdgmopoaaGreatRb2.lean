/- one text of HpA, AP, HpB, HpC, HpE, CcFault, Bo, HpF, HpG, RsA, RnB, PgA, PhA -/
import Derived.Test.YtdbmolhdgmopoaaGreatRb1
import Derived.Test.YtdbmolhdgmopoaaGreatRows
import Derived.Maps.AppendAt
import Derived.Deep.AppendLies
import Derived.RegionTactic
import Derived.OwnWalk
import Derived.Lib.AppendZerosOnto
import Derived.Lib.SliceRun
import Derived.Deep.LoopGhost
import Derived.Defers
import Derived.Recover
import Derived.Stop.IfaceNil
import Derived.WalkSmall
namespace Go.Proofs.YtdbmolhdgmopoaaGreat
open Go.RowKit
section
def ctxOf (hs : List Flt) (x : Int) : Int := match hs[x.toNat]? with | some f => f.ctx | none => -1
theorem ctxOf_at {hs : List Flt} {i : Nat} (h : i < hs.length) : ctxOf hs (i : Int) = hs[i].ctx := by
  unfold ctxOf; rw [Int.toNat_natCast, List.getElem?_eq_getElem h]
def rng (lo hi x : Int) : Bool := decide (lo ≤ x) && decide (x ≤ hi)
theorem rng_iff {lo hi x : Int} : rng lo hi x = true ↔ lo ≤ x ∧ x ≤ hi := by unfold rng; simp
def linksOk (n : Nat) (k : Int) (x : Flt) : Bool := rng (-1) ((n : Int) - 1) x.cause && rng (-1) ((n : Int) - 1) x.ctx && (x.cause != k) && (x.ctx != k)
def fOk (xs : List Cls) (n : Nat) (k : Int) (x : Flt) : Bool := hasK xs x.cls && rng 0 99 x.code && linksOk n k x
def allF (xs : List Cls) (n : Nat) : Nat → List Flt → Bool
  | _, [] => true
  | k, x :: r => fOk xs n (k : Int) x && allF xs n (k + 1) r
theorem allF_at {xs : List Cls} {n : Nat} {hs : List Flt} {k : Nat} (h : k < hs.length) : allF xs n k (hs.drop k) = (fOk xs n (k : Int) hs[k] && allF xs n (k + 1) (hs.drop (k + 1))) := by
  rw [List.drop_eq_getElem_cons h]; rfl
theorem allF_end {xs : List Cls} {n : Nat} {hs : List Flt} {k : Nat} (h : ¬ k < hs.length) : allF xs n k (hs.drop k) = true := by
  rw [List.drop_eq_nil_of_le (by omega)]; rfl
theorem allF_mem {xs : List Cls} {n : Nat} {hs : List Flt} : ∀ (m k : Nat), k + m = hs.length → allF xs n k (hs.drop k) = true → ∀ i (h : i < hs.length), k ≤ i → fOk xs n (i : Int) hs[i] = true := by
  intro m
  induction m with
  | zero => intro k hk h i hi hki; omega
  | succ m ih =>
    intro k hk h i hi hki
    rw [allF_at (by omega), Bool.and_eq_true] at h
    by_cases e : i = k
    · subst e; exact h.1
    · exact ih (k + 1) (by omega) h.2 i hi (by omega)
theorem allF_mk {xs : List Cls} {n : Nat} {hs : List Flt} (H : ∀ i (h : i < hs.length), fOk xs n (i : Int) hs[i] = true) : ∀ (m k : Nat), k + m = hs.length → allF xs n k (hs.drop k) = true := by
  intro m
  induction m with
  | zero => intro k hk; exact allF_end (by omega)
  | succ m ih => intro k hk; rw [allF_at (by omega), H k (by omega), ih (k + 1) (by omega)]; rfl
/-- the chain from f along nx -/
def chainN (nx : Int → Int) (n : Nat) (f : Int) : List Int := Chn.go nx (n + 1) f []
def lastN (nx : Int → Int) (n : Nat) (f : Int) : Int := (chainN nx n f).getLastD (-1)
def endsAt (hs : List Flt) (f : Int) : Bool := decide (ctxOf hs (lastN (ctxOf hs) hs.length f) < 0)
def endsF (hs : List Flt) : Nat → Nat → Bool
  | _, 0 => true
  | k, m + 1 => endsAt hs (k : Int) && endsF hs (k + 1) m
theorem endsF_mem {hs : List Flt} : ∀ (m k : Nat), endsF hs k m = true ↔ ∀ i, k ≤ i → i < k + m → endsAt hs (i : Int) = true := by
  intro m
  induction m with
  | zero => intro k; simp [endsF]; intro i h1 h2; omega
  | succ m ih =>
    intro k
    rw [endsF, Bool.and_eq_true, ih]
    constructor
    · rintro ⟨h1, h2⟩ i hi hk
      by_cases e : i = k
      · subst e; exact h1
      · exact h2 i (by omega) (by omega)
    · intro h
      exact ⟨h k (Nat.le_refl _) (by omega), fun i h1 h2 => h i (by omega) (by omega)⟩
def okHeap (xs : List Cls) (hs : List Flt) : Bool := allF xs hs.length 0 hs && endsF hs 0 hs.length && okTree xs && decide (hs.length ≤ 24)
/-- links lead into the heap -/
structure Lnk (hs : List Flt) : Prop where
  cause : ∀ i (h : i < hs.length), -1 ≤ hs[i].cause ∧ hs[i].cause < hs.length
  ctx : ∀ i (h : i < hs.length), -1 ≤ hs[i].ctx ∧ hs[i].ctx < hs.length
  ne : ∀ i (h : i < hs.length), hs[i].cause ≠ (i : Int) ∧ hs[i].ctx ≠ (i : Int)
theorem lnk_of {xs : List Cls} {hs : List Flt} (h : allF xs hs.length 0 hs = true) : Lnk hs := by
  have hm := allF_mem (hs := hs) hs.length 0 (by omega) (by simpa using h)
  have hx : ∀ i (h : i < hs.length), (-1 ≤ hs[i].cause ∧ hs[i].cause < hs.length) ∧ (-1 ≤ hs[i].ctx ∧ hs[i].ctx < hs.length) ∧ hs[i].cause ≠ (i : Int) ∧ hs[i].ctx ≠ (i : Int) := by
    intro i hi
    have := hm i hi (Nat.zero_le _)
    unfold fOk linksOk at this
    simp only [Bool.and_eq_true, rng_iff, bne_iff_ne] at this
    obtain ⟨_, ⟨⟨h1, h2⟩, h3⟩, h4⟩ := this
    exact ⟨by omega, by omega, h3, h4⟩
  exact ⟨fun i h => (hx i h).1, fun i h => (hx i h).2.1, fun i h => (hx i h).2.2⟩
theorem Lnk.ctxlt {hs : List Flt} (h : Lnk hs) : ∀ x : Int, 0 ≤ x → x < hs.length → ctxOf hs x < hs.length := by
  intro x h0 h1
  obtain ⟨i, rfl⟩ := Int.eq_ofNat_of_zero_le h0
  rw [ctxOf_at (by omega)]
  exact (h.ctx i (by omega)).2
theorem chain_is {nx : Int → Int} {n : Nat} (hb : ∀ x : Int, 0 ≤ x → x < n → nx x < n) {f : Int} (h0 : 0 ≤ f) (h1 : f < n) : Chn.Is nx f (chainN nx n f) :=
  Chn.go_is hb h0 h1 (n + 1) f [] (Chn.Pre.start h1) (by simp)
theorem last_of {nx : Int → Int} {n : Nat} {f x : Int} (h : (chainN nx n f).getLast? = some x) : lastN nx n f = x := by
  unfold lastN; rw [List.getLastD_eq_getLast?, h]; rfl
theorem is_last {nx : Int → Int} {f : Int} {L : List Int} (h : Chn.Is nx f L) : ∃ x, L.getLast? = some x ∧ x ∈ L := by
  cases e : L.getLast? with
  | none => rw [List.getLast?_eq_none_iff] at e; exact absurd e h.ne
  | some x => exact ⟨x, rfl, List.mem_of_getLast? e⟩
theorem ends_iff {hs : List Flt} (h : Lnk hs) : endsF hs 0 hs.length = true ↔ Chn.allEnd (ctxOf hs) hs.length := by
  rw [endsF_mem]
  constructor
  · intro H f h0 h1 L hL x hx
    obtain ⟨i, rfl⟩ := Int.eq_ofNat_of_zero_le h0
    have := H i (Nat.zero_le _) (by omega)
    unfold endsAt at this
    rw [hL.uniq (chain_is h.ctxlt h0 h1)] at hx
    rw [last_of hx] at this
    simpa using this
  · intro H i _ hi
    have hc := chain_is (f := (i : Int)) h.ctxlt (by omega) (by omega)
    obtain ⟨x, hx, _⟩ := is_last hc
    unfold endsAt
    rw [last_of hx]
    simpa using H i (by omega) (by omega) _ hc x hx
def backAt (hs : List Flt) (i : Int) : Bool := decide (0 ≤ ctxOf hs i) && hasI (chainN (ctxOf hs) hs.length (ctxOf hs i)) i
theorem hasI_iff' {x : Int} : ∀ {L : List Int}, hasI L x = true ↔ x ∈ L
  | [] => by simp [hasI]
  | c :: r => by
    rw [hasI, Bool.or_eq_true, hasI_iff' (L := r), List.mem_cons, beq_iff_eq]
    constructor
    · rintro (h | h)
      · exact .inl h.symm
      · exact .inr h
    · rintro (h | h)
      · exact .inl h.symm
      · exact .inr h
theorem noback_iff {hs : List Flt} (h : Lnk hs) : Chn.noBack (ctxOf hs) hs.length ↔ ∀ i, i < hs.length → backAt hs (i : Int) = false := by
  constructor
  · intro H i hi
    unfold backAt
    by_cases h0 : 0 ≤ ctxOf hs (i : Int)
    · have hc := chain_is (f := ctxOf hs (i : Int)) h.ctxlt h0 (h.ctxlt i (by omega) (by omega))
      have := H i (by omega) (by omega) _ hc
      rw [← hasI_iff'] at this
      rw [Bool.and_eq_false_iff]; right; simpa using this
    · rw [decide_eq_false h0]; rfl
  · intro H i h0 h1 L hL hm
    obtain ⟨k, rfl⟩ := Int.eq_ofNat_of_zero_le h0
    have hk := H k (by omega)
    unfold backAt at hk
    have hp : 0 ≤ ctxOf hs (k : Int) := by
      have h2 := hL.hd
      have h3 : ctxOf hs (k : Int) ∈ L := List.mem_of_head? h2
      exact hL.pos _ h3
    have hc := chain_is (f := ctxOf hs (k : Int)) h.ctxlt hp (h.ctxlt k (by omega) (by omega))
    rw [hL.uniq hc] at hm
    rw [decide_eq_true hp, Bool.true_and, hasI_iff'.2 hm] at hk
    cases hk
theorem ends_back {hs : List Flt} (h : Lnk hs) : endsF hs 0 hs.length = true ↔ ∀ i, i < hs.length → backAt hs (i : Int) = false := by
  rw [ends_iff h, ← noback_iff h]
  exact ⟨Chn.noBack_of_end, Chn.end_of_noBack h.ctxlt⟩
/-- what a valid heap keeps to -/
structure GoodH (xs : List Cls) (hs : List Flt) : Prop where
  tree : Good xs
  few : hs.length ≤ 24
  lnk : Lnk hs
  cls : ∀ i (h : i < hs.length), 0 ≤ hs[i].cls ∧ hs[i].cls < xs.length
  code : ∀ i (h : i < hs.length), 0 ≤ hs[i].code ∧ hs[i].code ≤ 99
  fin : Chn.allEnd (ctxOf hs) hs.length
theorem okHeap_tree {xs : List Cls} {hs : List Flt} (h : okHeap xs hs = true) : okTree xs = true := by
  unfold okHeap at h; simp only [Bool.and_eq_true] at h; exact h.1.2
theorem goodH_of {xs : List Cls} {hs : List Flt} (h : okHeap xs hs = true) : GoodH xs hs := by
  have ht := okHeap_tree h
  unfold okHeap at h
  simp only [Bool.and_eq_true, decide_eq_true_eq] at h
  obtain ⟨⟨⟨h1, h2⟩, _⟩, h4⟩ := h
  have hl := lnk_of h1
  have hm := allF_mem (hs := hs) hs.length 0 (by omega) (by simpa using h1)
  refine ⟨good_of ht, h4, hl, fun i hi => ?_, fun i hi => ?_, (ends_iff hl).1 h2⟩
  · have := hm i hi (Nat.zero_le _)
    unfold fOk at this
    simp only [Bool.and_eq_true] at this
    exact hasK_iff.1 this.1.1
  · have := hm i hi (Nat.zero_le _)
    unfold fOk at this
    simp only [Bool.and_eq_true, rng_iff] at this
    exact this.1.2
end

section
class EncOne (α : Type) [Enc α] : Prop where
  pos : 0 < Enc.size α
  one : ∀ (x : α) u, u ∈ Enc.cells x → u.oneCell' = true
theorem EncOne.all {α : Type} [Enc α] [EncOne α] (xs : List α) : ∀ u ∈ xs.flatMap Enc.cells, u.oneCell' = true := by
  intro u hu
  rw [List.mem_flatMap] at hu
  obtain ⟨x, _, hx⟩ := hu
  exact EncOne.one x u hx
instance instOneInt : EncOne Int := ⟨by decide, fun x u hu => by simp [Enc.cells] at hu; subst hu; rfl⟩
instance instOneCls : EncOne Cls := ⟨by decide, fun x u hu => by simp [Enc.cells] at hu; rcases hu with rfl | rfl <;> rfl⟩

section
variable {α : Type} [Enc α] [EncOne α] {P : Program} {w : World}
theorem run_append_sl (base : Nat) (t ty e : TypeId) (i : TypeInfo) (z : Value) (bytes : Nat) (ht : P.underlying t = some (.slice e)) (hi : P.info? e = some i) (hz : i.zero = some z)
    (hsize : i.size = Enc.size α) (hby : i.bytes = bytes) (hzs : z.cells.size = Enc.size α) (v : Value) (n : Nat) (xs : List α) (hown : w.ownsRow base e (Enc.size α) v n (xs.flatMap Enc.cells))
    (A : Option Addr) (m c : Nat) (ys : List α) (hS : Sl w A m c ys) (h63 : n + m ≤ maxLen) (hbytes : (n + m) * bytes ≤ 140737488355328) (hbase : base ≤ w.heap.size) :
    ∃ v' w', (Builtin.append_ #[t, t] ty #[v, .slice A m c]).run P w = .ok v' w' ∧ w'.ownsRow base e (Enc.size α) v' (n + m) ((xs ++ ys).flatMap Enc.cells) ∧ w.grownBy w' v.ownBlock ∧
      (v'.ownBlock = v.ownBlock ∨ v'.ownBlock = some w.heap.size) := by
  have hm : (ys.flatMap (Enc.cells (α := α))).length = m * Enc.size α := by rw [flat_len, hS.len]
  rcases A with _ | ad
  · have h0 : m = 0 := by
      rcases Nat.eq_zero_or_pos m with h0 | h0
      · exact h0
      · obtain ⟨b, off, h, _⟩ := hS.at_ h0; cases h
    subst h0
    have hy : ys = [] := List.eq_nil_of_length_eq_zero hS.len
    subst hy
    refine ⟨v, w, ?_, by simpa using hown, World.grownBy.refl w _, .inl rfl⟩
    rcases hown.2 with ⟨rfl, _⟩ | ⟨g, cap, cur, rfl, _, _, hnc, _⟩
    · simp [Builtin.append_, run_underlying ht, sizeOf, typeInfo, hi, Builtin.lenOf, Builtin.firstCells]
    · simp [Builtin.append_, run_underlying ht, sizeOf, typeInfo, hi, Builtin.lenOf, Builtin.firstCells, hnc, storeCells]
  · have hcells : ∀ j u, (ys.flatMap Enc.cells)[j]? = some u → w.cell? (ad.add j) = some u := by
      intro j u hu
      rcases Nat.eq_zero_or_pos m with h0 | h0
      · have hy : ys = [] := List.eq_nil_of_length_eq_zero (by rw [hS.len, h0])
        subst hy; simp at hu
      · obtain ⟨b, off, h, _, hc⟩ := hS.at_ h0
        injection h with h
        subst h
        have e : (⟨b, off, none⟩ : Addr).add j = ⟨b, off + j, none⟩ := by
          unfold Addr.add; split
          · next h => subst h; rfl
          · rfl
        rw [e]; exact hc j u hu
    obtain ⟨v', w', hrun, h2, h3, _, h5⟩ := run_append_own_at (P := P) w base t ty e i z (Enc.size α) bytes ht hi hz hsize hby hzs EncOne.pos v n _ hown ad m c _ hm hcells (EncOne.all ys) h63 hbytes hbase
    exact ⟨v', w', hrun, by rw [List.flatMap_append]; exact h2, h3, h5⟩

theorem wp_append_sl {o : Oper} {a : Act} {K : Act → World → Prop} {Q : Exit → Act → World → Prop} (s x : Operand) (t : TypeId)
    (ho : o.op = .call { callee := .builtin .append, args := #[s, x], argTypes := #[t, t] })
    (base : Nat) (e : TypeId) (i : TypeInfo) (z : Value) (bytes : Nat) (ht : P.underlying t = some (.slice e)) (hi : P.info? e = some i) (hz : i.zero = some z)
    (hsize : i.size = Enc.size α) (hby : i.bytes = bytes) (hzs : z.cells.size = Enc.size α) (v : Value) (n : Nat) (xs : List α) (hs : a.eval s = v) (hown : w.ownsRow base e (Enc.size α) v n (xs.flatMap Enc.cells))
    (A : Option Addr) (m c : Nat) (ys : List α) (hx : a.eval x = .slice A m c) (hS : Sl w A m c ys) (h63 : n + m ≤ maxLen) (hbytes : (n + m) * bytes ≤ 140737488355328) (hbase : base ≤ w.heap.size)
    (h : ∀ v' w', w'.ownsRow base e (Enc.size α) v' (n + m) ((xs ++ ys).flatMap Enc.cells) → w.grownBy w' v.ownBlock → (v'.ownBlock = v.ownBlock ∨ v'.ownBlock = some w.heap.size) → K (a.put o.dst v') w') : o.wp P a w K Q := by
  obtain ⟨v', w', hrun, h2, h3, h4⟩ := run_append_sl (P := P) (w := w) base t o.type e i z bytes ht hi hz hsize hby hzs v n xs hown A m c ys hS h63 hbytes hbase
  unfold Oper.wp execOp
  simp only [ho, resolve, invoke, builtin, Sem.run_bind, Sem.run_pure, Result.andThen_ok, List.map_toArray, List.map_cons, List.map_nil, hs, hx, hrun]
  exact h v' w' h2 h3 h4
theorem wpList_append_sl {ops : Array Oper} {rest : List Oper} {o : Oper} {a : Act} {Q : Exit → Act → World → Prop} (hgd : o.guard = none) (s x : Operand) (t : TypeId)
    (ho : o.op = .call { callee := .builtin .append, args := #[s, x], argTypes := #[t, t] })
    (base : Nat) (e : TypeId) (i : TypeInfo) (z : Value) (bytes : Nat) (ht : P.underlying t = some (.slice e)) (hi : P.info? e = some i) (hz : i.zero = some z)
    (hsize : i.size = Enc.size α) (hby : i.bytes = bytes) (hzs : z.cells.size = Enc.size α) (v : Value) (n : Nat) (xs : List α) (hs : a.eval s = v) (hown : w.ownsRow base e (Enc.size α) v n (xs.flatMap Enc.cells))
    (A : Option Addr) (m c : Nat) (ys : List α) (hx : a.eval x = .slice A m c) (hS : Sl w A m c ys) (h63 : n + m ≤ maxLen) (hbytes : (n + m) * bytes ≤ 140737488355328) (hbase : base ≤ w.heap.size)
    (h : ∀ v' w', w'.ownsRow base e (Enc.size α) v' (n + m) ((xs ++ ys).flatMap Enc.cells) → w.grownBy w' v.ownBlock → (v'.ownBlock = v.ownBlock ∨ v'.ownBlock = some w.heap.size) → wpList P ops Q rest (a.put o.dst v') w') : wpList P ops Q (o :: rest) a w :=
  wpList_plain hgd fun _ hK => wp_append_sl s x t ho base e i z bytes ht hi hz hsize hby hzs v n xs hs hown A m c ys hx hS h63 hbytes hbase fun v' w' h2 h3 h4 => hK _ _ (h v' w' h2 h3 h4)
theorem step_append_sl {ops : Array Oper} {o : Oper} {a : Act} {K : Act → World → Prop} {Q : Exit → Act → World → Prop} {E : Prop} (hgd : o.guard = none) (s x : Operand) (t : TypeId)
    (ho : o.op = .call { callee := .builtin .append, args := #[s, x], argTypes := #[t, t] })
    (base : Nat) (e : TypeId) (i : TypeInfo) (z : Value) (bytes : Nat) (ht : P.underlying t = some (.slice e)) (hi : P.info? e = some i) (hz : i.zero = some z)
    (hsize : i.size = Enc.size α) (hby : i.bytes = bytes) (hzs : z.cells.size = Enc.size α) (v : Value) (n : Nat) (xs : List α) (hs : a.eval s = v) (hown : w.ownsRow base e (Enc.size α) v n (xs.flatMap Enc.cells))
    (A : Option Addr) (m c : Nat) (ys : List α) (hx : a.eval x = .slice A m c) (hS : Sl w A m c ys) (h63 : n + m ≤ maxLen) (hbytes : (n + m) * bytes ≤ 140737488355328) (hbase : base ≤ w.heap.size)
    (h : ∀ v' w', w'.ownsRow base e (Enc.size α) v' (n + m) ((xs ++ ys).flatMap Enc.cells) → w.grownBy w' v.ownBlock → (v'.ownBlock = v.ownBlock ∨ v'.ownBlock = some w.heap.size) → K (a.put o.dst v') w') :
    if Region.wanted o (yielded ops a.tmps) = true then Oper.wp P o a w K Q else E := by
  have hw : Region.wanted o (yielded ops a.tmps) = true := by simp [Region.wanted, hgd]
  rw [if_pos hw]
  exact wp_append_sl s x t ho base e i z bytes ht hi hz hsize hby hzs v n xs hs hown A m c ys hx hS h63 hbytes hbase h
end
/-- one new box as a list -/
theorem sl_one {α : Type} [Enc α] {w : World} {cs : Array Value} {T : TypeId} (x : α) (hc : cs.toList = Enc.cells x) (hok : Enc.ok x) {b : Nat} (hb : b = w.heap.size) : Sl (w.alloc (.cells cs T)) (some ⟨b, 0, none⟩) 1 1 [x] := by
  subst hb
  refine ⟨rfl, Nat.le_refl _, by omega, fun y hy => by simp at hy; subst hy; exact hok, fun _ => ⟨_, 0, rfl, by simp, fun j u hu => ?_⟩⟩
  rw [List.flatMap_cons, List.flatMap_nil, List.append_nil, ← hc] at hu
  rw [Nat.zero_add, World.cell?_alloc_at _ _ _ _ rfl]
  simpa using hu
end

section
theorem rng_any (a b c : Int) (w : World) : Calls Tryz.prog 57 #[.int .i64 a, .int .i64 b, .int .i64 c] w fun e w' => e = .returned (.bool (rng b c a)) ∧ w = w' := inRange_any a b c w
theorem intInfoB : (Tryz.prog.info? 3).map (fun i => (i.zero, i.size, i.bytes)) = some (some (.int .i64 0), 1, 8) := by kernel_rfl
theorem one_newB (w : World) (a : Value) (t : TypeId) : ∀ j u, [a][j]? = some u → (w.alloc (.cells #[a] t)).cell? ((⟨w.heap.size, 0, none⟩ : Addr).add j) = some u := by
  intro j u hu
  cases j with
  | zero =>
    simp at hu; subst hu
    show (w.alloc (.cells #[a] t)).cell? ⟨w.heap.size, 0, none⟩ = some a
    rw [World.cell?_alloc_at _ _ _ _ rfl]; rfl
  | succ j => simp at hu

theorem go_len {nx : Int → Int} : ∀ (m : Nat) (f : Int) (out : List Int), (Chn.go nx m f out).length ≤ m + out.length
  | 0, _, out => by simp [Chn.go]
  | m + 1, f, out => by
    unfold Chn.go
    split
    · omega
    · have := go_len (nx := nx) m (nx f) (out ++ [f]); simp at this; omega
theorem go_stop {nx : Int → Int} {m : Nat} {f : Int} {out : List Int} (h : f < 0 ∨ f ∈ out) : Chn.go nx m f out = out := by
  cases m with
  | zero => rfl
  | succ m => rw [Chn.go, if_pos h]
theorem go_on {nx : Int → Int} {m : Nat} {f : Int} {out : List Int} (h0 : 0 ≤ f) (h : f ∉ out) : Chn.go nx (m + 1) f out = Chn.go nx m (nx f) (out ++ [f]) := by
  rw [Chn.go, if_neg (by rintro (h1 | h1); omega; exact h h1)]
theorem hasI_not {x : Int} {L : List Int} (h : x ∉ L) : hasI L x = false := by
  cases e : hasI L x
  · rfl
  · exact absurd (hasI_iff'.1 e) h

def slLen : Value → Nat
  | .slice _ n _ => n
  | _ => 0
end

section
end

section
/-- a valid heap that has the fault f -/
def hasF (hs : List Flt) (f : Int) : Bool := rng 0 ((hs.length : Int) - 1) f
theorem hasF_iff {hs : List Flt} {f : Int} : hasF hs f = true ↔ 0 ≤ f ∧ f < hs.length := by unfold hasF; rw [rng_iff]; omega
def goodF (xs : List Cls) (hs : List Flt) (f : Int) : Bool := okHeap xs hs && hasF hs f
end

section
instance instOneFlt : EncOne Flt := ⟨by decide, fun x u hu => by simp [Enc.cells] at hu; rcases hu with rfl | rfl | rfl | rfl | rfl <;> rfl⟩
theorem infoCcFault : (Tryz.prog.info? 103).map (fun i => (i.zero, i.size, i.bytes)) = some (some (.agg #[.int .i64 0, .int .i64 0, .int .i64 0, .int .i64 0, .bool false]), 5, 40) := by kernel_rfl
def GrowOutFault (w : World) (e : Ending) (w' : World) : Prop := ∃ g G, e = .returned (.slice (some ⟨g, 0, none⟩) 0 G) ∧ w'.ownsRow w.heap.size 103 5 (.slice (some ⟨g, 0, none⟩) 0 G) 0 [] ∧ Le w w'
/-- a row of slices -/
structure SlV where
  A : Option Addr
  n : Nat
  c : Nat
end

section
instance instEncBool : Enc Bool := ⟨1, fun x => [.bool x], fun _ => True, fun _ => rfl⟩
theorem flat_set {α : Type} [Enc α] (y : α) (v : Value) (j : Nat) (hj : j < Enc.size α) : ∀ (xs : List α) (k : Nat) (hk : k < xs.length), (Enc.cells xs[k]).set j v = Enc.cells y → (xs.flatMap Enc.cells).set (k * Enc.size α + j) v = (xs.set k y).flatMap Enc.cells := by
  intro xs
  induction xs with
  | nil => intro k hk; simp at hk
  | cons x r ih =>
    intro k hk hy
    rw [List.flatMap_cons]
    cases k with
    | zero =>
      rw [Nat.zero_mul, Nat.zero_add, List.set_append_left _ _ (by rw [Enc.len]; exact hj)]
      simp only [List.getElem_cons_zero] at hy
      rw [hy]; rfl
    | succ k =>
      have hle : (Enc.cells x).length ≤ (k + 1) * Enc.size α + j := by rw [Enc.len, Nat.succ_mul]; omega
      have hsub : (k + 1) * Enc.size α + j - (Enc.cells x).length = k * Enc.size α + j := by rw [Enc.len, Nat.succ_mul]; omega
      rw [List.set_append_right _ _ hle, hsub, ih k (by simpa using hk) (by simpa using hy)]
      rfl
theorem boolInfo : (Tryz.prog.info? 4).map (fun i => (i.zero, i.size, i.bytes)) = some (some (.bool false), 1, 1) := by kernel_rfl
theorem made_bools (n : Nat) : (madeCells (Value.bool false).cells (n * 1)).toList = ((List.replicate n false).flatMap (Enc.cells (α := Bool))) := by
  have : ∀ n, (List.replicate n false).flatMap (Enc.cells (α := Bool)) = List.replicate n (.bool false) := by
    intro n
    induction n with
    | zero => rfl
    | succ n ih => rw [List.replicate_succ, List.flatMap_cons, ih, List.replicate_succ]; rfl
  rw [this]
  refine List.ext_getElem (by simp [madeCells]) (fun i h1 h2 => ?_)
  simp [madeCells, Value.cells, Nat.mod_one]
theorem flat_bool (xs : List Bool) (i : Nat) (hi : i < xs.length) (b : Bool) : (xs.flatMap (Enc.cells (α := Bool))).set i (.bool b) = (xs.set i b).flatMap Enc.cells := by
  have := flat_set b (.bool b) 0 (by decide) xs i hi rfl
  simpa [Enc.size] using this
theorem cell_bool {w : World} {base n g c : Nat} {fd : List Bool} (h : w.ownsRow base 4 1 (.slice (some ⟨g, 0, none⟩) n c) n (fd.flatMap Enc.cells)) {k : Nat} (hk : k < fd.length) (hl : fd.length = n) : w.cell? ⟨g, k, none⟩ = some (.bool fd[k]) := by
  rw [h.cellAt k (by omega), show (fd.flatMap (Enc.cells (α := Bool)))[k]? = _ from by simpa [Enc.size] using flat_at fd k hk 0 (by decide)]; rfl
end

section
/-- a result that lies in a box of the call's own, and a row behind it -/
theorem res_end {α : Type} [Enc α] {T : TypeId} {w w' : World} {r b : Nat} {v : Value} {ys : List α} (L0 : Le w w') (hr : w.heap.size ≤ r) (hb : r < b) (O : w'.ownsRow b T (Enc.size α) v ys.length (ys.flatMap Enc.cells))
    (hok : ∀ x ∈ ys, Enc.ok x) (u : Value) : Owd T w (w'.setCell ⟨r, 0, none⟩ u) v ys ∧ Le w (w'.setCell ⟨r, 0, none⟩ u) :=
  ⟨⟨own_mono (O.kept (grown_set w' r 0 u) (.inr (fun e => by have := (O.lt _ e).1; omega))) (by omega), hok⟩, L0.setCell hr u⟩

set_option maxHeartbeats 1000000 in
set_option maxRecDepth 100000 in
theorem sCopyHeap_any (H : Option Addr) (m c : Nat) (hs : List Flt) (w : World) (hH : Sl w H m c hs) (hm : m ≤ 2097152) :
    Calls Tryz.prog 112 #[.agg #[.slice H m c]] w fun e w' => ∃ v, e = .returned (.agg #[v]) ∧ Owd 103 w w' v hs ∧ Le w w' := by
  obtain ⟨i0, hi, hz0, hz1, hz2⟩ := info_parts infoCcFault
  have hlen := hH.len
  obtain ⟨c0, z0, c1, z1, L0⟩ := box2 w (.slice H m c) (.slice none 0 0) 31 31
  have S0 := hH.le L0
  have hokA := Lib.hid hH.ok
  have f1 : ((w.alloc (.cells #[.slice H m c] 31)).alloc (.cells #[.slice none 0 0] 31)).frozen? ⟨w.heap.size + 1, 0, none⟩ = false := World.frozen?_alloc_at _ _ _ _ (by simp)
  go_enter Tryz.func112, Tryz.ntmps112
  go_wp2_with (at_builtin; refine wpList_append_sl rfl (.tmp 3) (.tmp 5) 29 rfl (w.heap.size + 1 + 1) 103 i0 _ 40 Tryz.underlying29 hi hz0 hz1 hz2 rfl (.slice (some ⟨w.heap.size + 1 + 1, 0, none⟩) 0 0) 0 ([] : List Flt) rfl (own_empty (by simp) (by simp)) H m c hs rfl (S0.alloc _) (by unfold maxLen; omega) (by omega) (by simp) ?_; intro v1 w1 O1 hg1 _; simp only [Nat.zero_add, List.nil_append] at O1; have L1 := ((Le.refl _).alloc _).grown hg1 (fun k hk => by simp [Value.ownBlock] at hk; simp; omega); replace f1 := (L1.frozen z1).trans f1; replace c1 := (L1.cell z1).trans c1; replace L0 := L0.trans L1; clear L1 hg1; obtain ⟨A1, q1, rfl⟩ := own_form O1)
  have HE := Lib.hid (res_end (r := w.heap.size + 1) L0 (by omega) (Nat.lt_succ_self _) (by rw [hlen]; exact O1) hokA.out)
  have hend := fun u => cell_set_same (v := u) c1
  exact bodyPost_ret (v := .agg #[.slice A1 m q1]) (by simp [results, Tryz.results112, go_sem, hend]) rfl ⟨_, rfl, (HE.out _).1, (HE.out _).2⟩

end

section
def mkF (a b : Int) : Flt := ⟨a, b, -1, -1, false⟩
theorem mkF_ok {a b : Int} (ha : -9223372036854775808 ≤ a ∧ a ≤ 9223372036854775807) (hb : -9223372036854775808 ≤ b ∧ b ≤ 9223372036854775807) : Enc.ok (mkF a b) := by
  unfold mkF
  exact ⟨ha.1, ha.2, hb.1, hb.2, by show (-9223372036854775808 : Int) ≤ -1; omega, by show (-1 : Int) ≤ 9223372036854775807; omega, by show (-9223372036854775808 : Int) ≤ -1; omega, by show (-1 : Int) ≤ 9223372036854775807; omega⟩
theorem snocF_ok {hs : List Flt} {a b : Int} (h : ∀ x ∈ hs, Enc.ok x) (ha : -9223372036854775808 ≤ a ∧ a ≤ 9223372036854775807) (hb : -9223372036854775808 ≤ b ∧ b ≤ 9223372036854775807) : ∀ x ∈ hs ++ [mkF a b], Enc.ok x := by
  intro x hx
  rcases List.mem_append.1 hx with hx | hx
  · exact h x hx
  · simp at hx; subst hx; exact mkF_ok ha hb
def nfOk (xs : List Cls) (hs : List Flt) (a b : Int) : Bool := okHeap xs hs && okHeap xs (hs ++ [mkF a b])
def nfX (xs : List Cls) (hs : List Flt) (a b : Int) : List Flt := cond (nfOk xs hs a b) (hs ++ [mkF a b]) []
def nfI (xs : List Cls) (hs : List Flt) (a b : Int) : Int := cond (nfOk xs hs a b) hs.length (-1)
theorem nf_of {xs : List Cls} {hs : List Flt} {a b : Int} {t : Bool} (h : nfOk xs hs a b = t) : nfX xs hs a b = cond t (hs ++ [mkF a b]) [] ∧ nfI xs hs a b = cond t (hs.length : Int) (-1) := by unfold nfX nfI; rw [h]; exact ⟨rfl, rfl⟩
theorem nfX_len (xs : List Cls) (hs : List Flt) (a b : Int) : (nfX xs hs a b).length ≤ 1048576 := by
  cases h : nfOk xs hs a b
  · rw [(nf_of h).1]; simp
  · rw [(nf_of h).1]
    have h2 := h
    unfold nfOk at h2
    rw [Bool.and_eq_true] at h2
    have := (goodH_of h2.2).few
    simp at this ⊢; omega
set_option maxHeartbeats 1000000 in
set_option maxRecDepth 100000 in
theorem added_any (H : Option Addr) (m c : Nat) (hs : List Flt) (a b : Int) (w : World) (hH : Sl w H m c hs) (hm : m ≤ 2097152) (ha : -9223372036854775808 ≤ a ∧ a ≤ 9223372036854775807) (hb : -9223372036854775808 ≤ b ∧ b ≤ 9223372036854775807) :
    Calls Tryz.prog 106 #[.agg #[.slice H m c], .int .i64 a, .int .i64 b] w fun e w' => ∃ v, e = .returned (.agg #[v]) ∧ Owd 103 w w' v (hs ++ [mkF a b]) ∧ Le w w' := by
  obtain ⟨i0, hi, hz0, hz1, hz2⟩ := info_parts infoCcFault
  have hlen := hH.len
  obtain ⟨c0, z0, c1, z1, L0⟩ := box2 w (.slice H m c) (.slice none 0 0) 31 31
  have f1 : ((w.alloc (.cells #[.slice H m c] 31)).alloc (.cells #[.slice none 0 0] 31)).frozen? ⟨w.heap.size + 1, 0, none⟩ = false := World.frozen?_alloc_at _ _ _ _ (by simp)
  have hs0 : ((w.alloc (.cells #[.slice H m c] 31)).alloc (.cells #[.slice none 0 0] 31)).heap.size = w.heap.size + 1 + 1 := by simp
  have S0 := hH.le L0
  have HOK := Lib.hid (snocF_ok hH.ok ha hb)
  have HK := Lib.hid (mkF_ok ha hb)
  have hl : (hs ++ [mkF a b]).length = m + 1 := by simp [hH.len]
  have HL := Lib.hid hl; clear hl
  go_enter Tryz.func106, Tryz.ntmps106
  go_wp2_with fail
  generalize (w.alloc (.cells #[.slice H m c] 31)).alloc (.cells #[.slice none 0 0] 31) = W at *
  refine (sCopyHeap_any H m c hs _ S0 hm).mono ?_
  rintro e w1 ⟨v, rfl, D, hle⟩
  replace c0 := (hle.cell z0).trans c0
  replace c1 := (hle.cell z1).trans c1
  replace f1 := (hle.frozen z1).trans f1
  replace z0 := Nat.lt_of_lt_of_le z0 hle.size
  replace z1 := Nat.lt_of_lt_of_le z1 hle.size
  replace L0 := L0.trans hle
  have s1 := hle.size
  clear hle
  obtain ⟨A1, q1, rfl⟩ := own_form D.row
  have O1 := D.row
  rw [hlen] at O1
  rw [hs0] at O1
  rw [hlen]
  clear D S0
  have hbk := O1.lt
  have c2 : ((w1.alloc (.cells #[.slice A1 m q1] 31)).alloc (.cells #[.int .i64 a, .int .i64 b, .int .i64 (-1), .int .i64 (-1), .bool false] 103)).cell? ⟨w1.heap.size, 0, none⟩ = some (.slice A1 m q1) := by
    rw [World.cell?_alloc_past _ _ _ (by simp), World.cell?_alloc_at _ _ _ _ rfl]; rfl
  have f2 : ((w1.alloc (.cells #[.slice A1 m q1] 31)).alloc (.cells #[.int .i64 a, .int .i64 b, .int .i64 (-1), .int .i64 (-1), .bool false] 103)).frozen? ⟨w1.heap.size, 0, none⟩ = false := by
    rw [((Le.new (w1.alloc (.cells #[.slice A1 m q1] 31)) _).frozen (b := w1.heap.size) (o := 0) (by simp))]; exact World.frozen?_alloc_at _ _ _ _ rfl
  have LL := (Le.new w1 (.cells #[.slice A1 m q1] 31)).alloc (.cells #[.int .i64 a, .int .i64 b, .int .i64 (-1), .int .i64 (-1), .bool false] 103)
  replace c0 := (LL.cell z0).trans c0
  replace c1 := (LL.cell z1).trans c1
  replace f1 := (LL.frozen z1).trans f1
  replace L0 := L0.trans LL
  have s2 := LL.size
  clear LL
  go_wp2_with (at_builtin; refine wpList_append_sl rfl (.tmp 11) (.tmp 15) 29 rfl (w.heap.size + 1 + 1) 103 i0 _ 40 Tryz.underlying29 hi hz0 hz1 hz2 rfl (.slice A1 m q1) m hs rfl ((O1.alloc _).alloc _) (some ⟨w1.heap.size + 1, 0, none⟩) 1 1 [mkF a b] rfl (sl_one (mkF a b) rfl HK.out (by simp)) (by unfold maxLen; omega) (by omega) (by simp; omega) ?_; intro v2 w2 O2 hg2 hat; replace c0 := (hg2.cell (a := ⟨w.heap.size, 0, none⟩) c0 (fun e => by have h : w.heap.size + 1 + 1 ≤ w.heap.size ∧ _ := hbk _ e.symm; omega)); replace c1 := (hg2.cell (a := ⟨w.heap.size + 1, 0, none⟩) c1 (fun e => by have h : w.heap.size + 1 + 1 ≤ w.heap.size + 1 ∧ _ := hbk _ e.symm; omega)); replace c2 := (hg2.cell (a := ⟨w1.heap.size, 0, none⟩) c2 (fun e => by have h : _ ∧ w1.heap.size < w1.heap.size := hbk _ e.symm; omega)); replace f2 := (World.frozen?_of_block (a := ⟨w1.heap.size, 0, none⟩) (hg2.block w1.heap.size (by simp; omega) (fun e => by have h : _ ∧ w1.heap.size < w1.heap.size := hbk _ e.symm; omega))).trans f2; replace f1 := (World.frozen?_of_block (a := ⟨w.heap.size + 1, 0, none⟩) (hg2.block (w.heap.size + 1) (by simp; omega) (fun e => by have h : w.heap.size + 1 + 1 ≤ w.heap.size + 1 ∧ _ := hbk _ e.symm; omega))).trans f1; replace s2 := Nat.le_trans s2 hg2.size; replace L0 := L0.grown hg2 (fun k hk => by have h := (hbk k hk).1; omega); clear hg2; obtain ⟨A2, q2, rfl⟩ := own_form O2)
  have hne : (Value.slice A2 (m + 1) q2).ownBlock ≠ some w1.heap.size := by
    intro e
    rcases hat with h | h
    · rw [h] at e
      have := (hbk _ e).2; omega
    · rw [h] at e; simp at e; omega
  have O3 := O2.kept (grown_set w2 w1.heap.size 0 (.slice A2 (m + 1) q2)) (.inr hne)
  have c3 : (w2.setCell ⟨w1.heap.size, 0, none⟩ (.slice A2 (m + 1) q2)).cell? ⟨w.heap.size + 1, 0, none⟩ = some (.slice none 0 0) := (cell_set_other (.inl (by omega))).trans c1
  have hend := fun u => cell_set_same (v := u) c3
  have HE := Lib.hid (res_end (r := w.heap.size + 1) (L0.setCell (b := w1.heap.size) (o := 0) (by omega) (.slice A2 (m + 1) q2)) (by omega) (Nat.lt_succ_self _) (by rw [HL.out]; exact O3) HOK.out)
  exact bodyPost_ret (v := .agg #[.slice A2 (m + 1) q2]) (by simp [results, Tryz.results106, go_sem, hend]) rfl ⟨_, rfl, (HE.out _).1, (HE.out _).2⟩
end

section
theorem Owd.blkR {T : TypeId} {w0 w : World} {v : Value} {xs : List Flt} (h : Owd T w0 w v xs) (hn : 0 < xs.length) : ∃ g q, v = .slice (some ⟨g, 0, none⟩) xs.length q ∧ w.ownsRow w0.heap.size T 5 (.slice (some ⟨g, 0, none⟩) xs.length q) xs.length (xs.flatMap Enc.cells) ∧ w0.heap.size ≤ g ∧ g < w.heap.size := by
  have hr := h.row
  rcases hr.2 with ⟨_, h0⟩ | ⟨g, q, cur, rfl, _⟩
  · omega
  · exact ⟨g, q, rfl, hr, hr.lt g rfl⟩


/-- the last fault with a context -/
def raisR (hs : List Flt) (f : Nat) (g : Int) : List Flt := if g < 0 then hs else match hs[f]? with | some x => hs.set f ⟨x.cls, x.code, x.cause, g, x.hide⟩ | none => hs
theorem raisR_no {hs : List Flt} {f : Nat} {g : Int} (h : g < 0) : raisR hs f g = hs := if_pos h
theorem raisR_at {hs : List Flt} {f : Nat} {g : Int} (h : ¬ g < 0) (hf : f < hs.length) : raisR hs f g = hs.set f ⟨hs[f].cls, hs[f].code, hs[f].cause, g, hs[f].hide⟩ := by unfold raisR; rw [if_neg h, List.getElem?_eq_getElem hf]
theorem raisR_len (hs : List Flt) (f : Nat) (g : Int) : (raisR hs f g).length = hs.length := by
  unfold raisR
  split
  · rfl
  · split <;> simp
theorem raisR_ok {hs : List Flt} {f : Nat} {g : Int} (h : ∀ x ∈ hs, Enc.ok x) (hg : -9223372036854775808 ≤ g ∧ g ≤ 9223372036854775807) : ∀ x ∈ raisR hs f g, Enc.ok x := by
  unfold raisR
  split
  · exact h
  · split
    · next y e =>
      intro x hx
      rcases List.mem_or_eq_of_mem_set hx with h1 | h1
      · exact h x h1
      · subst h1
        have hy : y ∈ hs := List.mem_of_getElem? e
        have := h y hy
        exact ⟨this.1, this.2.1, this.2.2.1, this.2.2.2.1, this.2.2.2.2.1, this.2.2.2.2.2.1, hg.1, hg.2⟩
    · exact h
def cxR (hs : List Flt) (i : Nat) : Int := match hs[i]? with | some x => x.ctx | none => -1
theorem cxR_at {hs : List Flt} {i : Nat} (h : i < hs.length) : cxR hs i = hs[i].ctx := by unfold cxR; rw [List.getElem?_eq_getElem h]
set_option maxHeartbeats 8000000 in
set_option maxRecDepth 100000 in
theorem raisedR_any (H : Option Addr) (m c : Nat) (hs : List Flt) (fi : Nat) (g : Int) (w : World) (hH : Sl w H m c hs) (hm : m ≤ 2097152) (hfi : fi < hs.length) (hcx : ∀ i (h : i < hs.length), -1 ≤ hs[i].ctx ∧ hs[i].ctx < (i : Int)) (hlast : fi + 1 = hs.length) (hg0 : -1 ≤ g) (hgf : g < (fi : Int)) :
    Calls Tryz.prog 107 #[.agg #[.slice H m c], .int .i64 fi, .int .i64 g] w fun e w' => ∃ v, e = .returned (.agg #[v]) ∧ Owd 103 w w' v (raisR hs fi g) ∧ Le w w' := by
  obtain rfl := hH.len
  obtain ⟨c0, z0, c1, z1, L0⟩ := box2 w (.slice H hs.length c) (.slice none 0 0) 31 31
  have f1 : ((w.alloc (.cells #[.slice H hs.length c] 31)).alloc (.cells #[.slice none 0 0] 31)).frozen? ⟨w.heap.size + 1, 0, none⟩ = false := World.frozen?_alloc_at _ _ _ _ (by simp)
  have S0 := hH.le L0
  have HOKH := Lib.hid hH.ok
  have hgr : -9223372036854775808 ≤ g ∧ g ≤ 9223372036854775807 := by omega
  have hfi3 : (fi : Int) < (hs.length : Int) := by omega
  have HCX := Lib.hid hcx
  clear hcx
  go_enter Tryz.func107, Tryz.ntmps107
  go_wp2_with fail
  generalize (w.alloc (.cells #[.slice H hs.length c] 31)).alloc (.cells #[.slice none 0 0] 31) = w3 at *
  have y1 := z1
  refine (sCopyHeap_any H hs.length c hs w3 S0 (by omega)).mono ?_
  rintro e w4 ⟨v, rfl, D, hle⟩
  obtain ⟨gb, q, rfl, O, hg0b, hg1⟩ := D.blkR (by omega)
  replace c1 := (hle.cell z1).trans c1
  replace f1 := (hle.frozen z1).trans f1
  replace z1 := Nat.lt_of_lt_of_le z1 hle.size
  replace L0 := L0.trans hle
  have hs4 := hle.size
  clear hle D c0 z0
  have cB : (w4.alloc (.cells #[.slice (some ⟨gb, 0, none⟩) hs.length q] 31)).cell? ⟨w4.heap.size, 0, none⟩ = some (.slice (some ⟨gb, 0, none⟩) hs.length q) := by rw [World.cell?_alloc_at _ _ _ _ rfl]; rfl
  have zB : w4.heap.size < (w4.alloc (.cells #[.slice (some ⟨gb, 0, none⟩) hs.length q] 31)).heap.size := by simp
  have LB := Le.new w4 (.cells #[.slice (some ⟨gb, 0, none⟩) hs.length q] 31)
  replace c1 := (LB.cell z1).trans c1
  replace f1 := (LB.frozen z1).trans f1
  replace z1 := Nat.lt_of_lt_of_le z1 LB.size
  replace L0 := L0.trans LB
  replace O := own_le O LB
  clear LB
  have hb1 : ((fi : Int) == g) = false := by simp; omega
  have HG1 := Lib.hid hg1
  clear hg1
  by_cases hgn : g < 0
  · have hb2 : decide (g < 0) = true := decide_eq_true hgn
    have HR : raisR hs fi g = hs := raisR_no hgn
    generalize hW5 : w4.alloc (.cells #[.slice (some ⟨gb, 0, none⟩) hs.length q] 31) = W5 at *
    have OF : W5.ownsRow w3.heap.size 103 5 (.slice (some ⟨gb, 0, none⟩) hs.length q) (raisR hs fi g).length ((raisR hs fi g).flatMap Enc.cells) := by rw [HR]; exact O
    have cX : W5.cell? ⟨w.heap.size + 1, 0, none⟩ = some (.slice none 0 0) := c1
    have bX : W5.cell? ⟨w4.heap.size, 0, none⟩ = some (.slice (some ⟨gb, 0, none⟩) hs.length q) := cB
    have fX : W5.frozen? ⟨w.heap.size + 1, 0, none⟩ = false := by simpa using f1
    have hend := fun u => cell_set_same (v := u) cX
    have HE := Lib.hid (res_end (r := w.heap.size + 1) L0 (by omega) y1 OF (raisR_ok HOKH.out hgr))
    clear OF HR
    subst hW5
    go_wp2
    exact bodyPost_ret (v := .agg #[.slice (some ⟨gb, 0, none⟩) hs.length q]) (by simp [results, Tryz.results107, go_sem, hend]) rfl ⟨_, rfl, by have h := HE.out (.slice (some ⟨gb, 0, none⟩) hs.length q); exact h.1, (HE.out _).2⟩
  · have hb2 : decide (g < 0) = false := decide_eq_false hgn
    obtain ⟨gi, rfl⟩ := Int.eq_ofNat_of_zero_le (show 0 ≤ g by omega)
    have HRA := Lib.hid (raisR_at hgn hfi)
    go_wp2
    generalize hW5 : w4.alloc (.cells #[.slice (some ⟨gb, 0, none⟩) hs.length q] 31) = W5 at *
    clear hW5
    have hg1 := HG1.out
    go_loopw [8] (fun x wr => ∃ k : Nat, x = .int .i64 k ∧ k < fi ∧ W5 = wr) (fun x _ => (intOf x).toNat)
    case atStart => exact ⟨gi, rfl, by omega, rfl⟩
    case round =>
      obtain ⟨i, rfl, hif, rfl⟩ := hrel
      have hil : i < hs.length := by omega
      have hi3 : (i : Int) < (hs.length : Int) := by omega
      have hi0 : (0 : Int) ≤ (i : Int) := by omega
      have hcc := HCX.out i hil
      have q3 := O.cellAt (i * 5 + 3) (by omega)
      rw [show (hs.flatMap (Enc.cells (α := Flt)))[i * 5 + 3]? = _ from (flat_at hs i hil 3 (by decide))] at q3
      simp only [Enc.cells, List.getElem?_cons_succ, List.getElem?_cons_zero] at q3
      generalize hs[i].ctx = cc at *
      by_cases hcn : cc < 0
      · have hd1 : decide (0 ≤ cc) = false := decide_eq_false (by omega)
        have O1 := (O.stored (fi * 5 + 3) (.int .i64 gi)).1
        rw [flat_flt_ctx hs fi hfi gi] at O1
        have OF : (W5.setCell ⟨gb, fi * 5 + 3, none⟩ (.int .i64 gi)).ownsRow w3.heap.size 103 5 (.slice (some ⟨gb, 0, none⟩) hs.length q) (raisR hs fi gi).length ((raisR hs fi gi).flatMap Enc.cells) := by rw [raisR_len, HRA.out]; exact O1
        have LX : Le w (W5.setCell ⟨gb, fi * 5 + 3, none⟩ (.int .i64 gi)) := L0.setCell (by omega) _
        have cX : (W5.setCell ⟨gb, fi * 5 + 3, none⟩ (.int .i64 gi)).cell? ⟨w.heap.size + 1, 0, none⟩ = some (.slice none 0 0) := (cell_set_other (.inl (by omega))).trans (c1)
        have bX : (W5.setCell ⟨gb, fi * 5 + 3, none⟩ (.int .i64 gi)).cell? ⟨w4.heap.size, 0, none⟩ = some (.slice (some ⟨gb, 0, none⟩) hs.length q) := (cell_set_other (.inl (by omega))).trans (cB)
        have fX : (W5.setCell ⟨gb, fi * 5 + 3, none⟩ (.int .i64 gi)).frozen? ⟨w.heap.size + 1, 0, none⟩ = false := by simpa using f1
        have k0 := O.cellAt (fi * 5 + 3) (by omega)
        rw [show (hs.flatMap (Enc.cells (α := Flt)))[fi * 5 + 3]? = _ from (flat_at hs fi hfi 3 (by decide))] at k0
        simp only [Enc.cells, List.getElem?_cons_succ, List.getElem?_cons_zero] at k0
        have e0 := O.frozenAt (fi * 5 + 3)
        have hend := fun u => cell_set_same (v := u) cX
        have HE := Lib.hid (res_end (r := w.heap.size + 1) LX (by omega) y1 OF (raisR_ok HOKH.out hgr))
        clear OF LX
        go_wp2
        exact bodyPost_ret (v := .agg #[.slice (some ⟨gb, 0, none⟩) hs.length q]) (by simp [results, Tryz.results107, go_sem, hend]) rfl ⟨_, rfl, by have h := HE.out (.slice (some ⟨gb, 0, none⟩) hs.length q); exact h.1, (HE.out _).2⟩
      · have hd1 : decide (0 ≤ cc) = true := decide_eq_true (by omega)
        obtain ⟨j, rfl⟩ := Int.eq_ofNat_of_zero_le (show 0 ≤ cc by omega)
        have hb3 : ((j : Int) == (fi : Int)) = false := by simp; omega
        go_wp2
        go_roundw
        case rel => exact ⟨j, rfl, by omega, by trivial⟩
        case measure => simp [intOf]; omega
end

section
instance instOneFltR : EncOne Flt := ⟨by decide, fun x u hu => by simp [Enc.cells] at hu; rcases hu with rfl | rfl | rfl | rfl | rfl <;> rfl⟩
theorem infoFltR : (Tryz.prog.info? 103).map (fun i => (i.zero, i.size, i.bytes)) = some (some (.agg #[.int .i64 0, .int .i64 0, .int .i64 0, .int .i64 0, .bool false]), 5, 40) := by kernel_rfl
theorem infoIntR : (Tryz.prog.info? 3).map (fun i => (i.zero, i.size, i.bytes)) = some (some (.int .i64 0), 1, 8) := by kernel_rfl
/-- the memory of a run: its block, the tree, the program, what it has told, the faults that it has raised -/
structure Rn (w : World) (R : Nat) (B : Option Addr) (m c : Nat) (xs : List Cls) (A : Option Addr) (n cap : Nat) (p : List Lin) (lv hv : Value) (lg : List Int) (hs : List Flt) : Prop where
  z : R < w.heap.size
  c0 : w.cell? ⟨R, 0, none⟩ = some (.slice B m c)
  c1 : w.cell? ⟨R, 1, none⟩ = some (.slice A n cap)
  c2 : w.cell? ⟨R, 2, none⟩ = some lv
  c3 : w.cell? ⟨R, 3, none⟩ = some hv
  f2 : w.frozen? ⟨R, 2, none⟩ = false
  f3 : w.frozen? ⟨R, 3, none⟩ = false
  S : Sl w B m c xs
  T : Sl w A n cap p
  hB : 0 < m → ∀ a, B = some a → a.block < R - 1
  hA : 0 < n → ∀ a, A = some a → a.block < R - 1
  O : w.ownsRow (R - 1) 3 1 lv lg.length (lg.flatMap Enc.cells)
  H : w.ownsRow (R - 1) 103 5 hv hs.length (hs.flatMap Enc.cells)
  ap : ∀ k, lv.ownBlock = some k → hv.ownBlock ≠ some k
  okl : ∀ x ∈ lg, Enc.ok x
  okh : ∀ x ∈ hs, Enc.ok x
  nl : lv.ownBlock ≠ some R
  nh : hv.ownBlock ≠ some R
/-- what a run leaves alone: all but its own block and the rows of what it has told and raised -/
structure Kp (R : Nat) (lv hv lv' hv' : Value) (w w' : World) : Prop where
  os : w'.os = w.os
  tape : w'.tape = w.tape
  output : w'.output = w.output
  size : w.heap.size ≤ w'.heap.size
  blk : ∀ b, b < w.heap.size → b ≠ R → lv.ownBlock ≠ some b → hv.ownBlock ≠ some b → w'.heap[b]? = w.heap[b]?
  lo : lv'.ownBlock = lv.ownBlock ∨ ∀ k, lv'.ownBlock = some k → w.heap.size ≤ k
  ho : hv'.ownBlock = hv.ownBlock ∨ ∀ k, hv'.ownBlock = some k → w.heap.size ≤ k
theorem Kp.refl (R : Nat) (lv hv : Value) (w : World) : Kp R lv hv lv hv w w := ⟨rfl, rfl, rfl, Nat.le_refl _, fun _ _ _ _ _ => rfl, .inl rfl, .inl rfl⟩
theorem Kp.trans {R : Nat} {lv hv lv1 hv1 lv2 hv2 : Value} {w w1 w2 : World} (h : Kp R lv hv lv1 hv1 w w1) (k : Kp R lv1 hv1 lv2 hv2 w1 w2) : Kp R lv hv lv2 hv2 w w2 := by
  refine ⟨k.os.trans h.os, k.tape.trans h.tape, k.output.trans h.output, Nat.le_trans h.size k.size, fun b hb hR hl hh => ?_, ?_, ?_⟩
  · have e1 : lv1.ownBlock ≠ some b := fun e => by
      rcases h.lo with h2 | h2
      · exact hl (h2 ▸ e)
      · have := h2 b e; omega
    have e2 : hv1.ownBlock ≠ some b := fun e => by
      rcases h.ho with h2 | h2
      · exact hh (h2 ▸ e)
      · have := h2 b e; omega
    exact (k.blk b (Nat.lt_of_lt_of_le hb h.size) hR e1 e2).trans (h.blk b hb hR hl hh)
  · rcases k.lo with h1 | h1
    · rw [h1]; exact h.lo
    · exact .inr fun j hj => Nat.le_trans h.size (h1 j hj)
  · rcases k.ho with h1 | h1
    · rw [h1]; exact h.ho
    · exact .inr fun j hj => Nat.le_trans h.size (h1 j hj)
/-- an interface's value: what a block is left with -/
inductive Lft where
  | nil : Lft
  | ret (v : Int) : Lft
  | rai (f : Int) : Lft
  | brk : Lft
  | cnt : Lft
def lfV : Lft → Value
  | .nil => Value.nilIface
  | .ret v => .iface 86 (.agg #[.int .i64 v])
  | .rai f => .iface 88 (.agg #[.int .i64 f])
  | .brk => .iface 114 (.agg #[])
  | .cnt => .iface 115 (.agg #[])
/-- a call that hands nothing back ends so, or with a panic -/
def lfE : Lft → Ending
  | .nil => .returned (.tuple #[])
  | l => .panicked [{ v := lfV l, recovered := false }]
theorem isAny : Tryz.prog.isIface 20 = true := by kernel_rfl
theorem neq_any (u : TypeId) (x : Value) (w : World) : (binOp .neq 20 (.iface u x) .nilIface).run Tryz.prog w = .ok (.bool true) w := run_neq_iface_nil w _ isAny u x
theorem neq_nil (w : World) : (binOp .neq 20 .nilIface .nilIface).run Tryz.prog w = .ok (.bool false) w := run_neq_nil_nil_at w _ isAny
theorem eql_any (u : TypeId) (x : Value) (w : World) : (binOp .eql 20 (.iface u x) .nilIface).run Tryz.prog w = .ok (.bool false) w := run_eql_iface_nil w _ isAny u x
theorem eql_nil (w : World) : (binOp .eql 20 .nilIface .nilIface).run Tryz.prog w = .ok (.bool true) w := run_eql_nil_nil_at w _ isAny
set_option maxRecDepth 100000 in
theorem leave_any (l : Lft) (w : World) : Calls Tryz.prog 104 #[lfV l] w fun e w' => e = lfE l ∧ w' = w := by
  have q1 := neq_any
  have q2 := neq_nil
  cases l
  all_goals
    simp only [lfV, lfE]
    go_enter Tryz.func104, Tryz.ntmps104
    go_wp2
    first
    | (go_end0; exact ⟨rfl, rfl⟩)
    | exact ⟨rfl, rfl, rfl⟩
section
variable {w w' wA w4 : World} {R m c n cap : Nat} {B A : Option Addr} {xs : List Cls} {p : List Lin} {lv hv v1 : Value} {lg : List Int} {hs : List Flt}
theorem fr_set (w : World) (b o k : Nat) (u : Value) : (w.setCell ⟨b, o, none⟩ u).frozen? ⟨b, k, none⟩ = w.frozen? ⟨b, k, none⟩ := by first | exact World.frozen?_setCell .. | simp [World.frozen?, World.setCell]
theorem Rn.lneR (h : Rn w R B m c xs A n cap p lv hv lg hs) : lv.ownBlock ≠ some R := h.nl
theorem Rn.hneR (h : Rn w R B m c xs A n cap p lv hv lg hs) : hv.ownBlock ≠ some R := h.nh
theorem Rn.le (h : Rn w R B m c xs A n cap p lv hv lg hs) (hl : Le w w') : Rn w' R B m c xs A n cap p lv hv lg hs :=
  ⟨Nat.lt_of_lt_of_le h.z hl.size, (hl.cell h.z).trans h.c0, (hl.cell h.z).trans h.c1, (hl.cell h.z).trans h.c2, (hl.cell h.z).trans h.c3, (hl.frozen h.z).trans h.f2, (hl.frozen h.z).trans h.f3, h.S.le hl, h.T.le hl, h.hB, h.hA, own_le h.O hl, own_le h.H hl, h.ap, h.okl, h.okh, h.nl, h.nh⟩
theorem Kp.of_le (R : Nat) (lv hv : Value) (hl : Le w w') : Kp R lv hv lv hv w w' := ⟨hl.os, hl.tape, hl.output, hl.size, fun b hb _ _ _ => hl.block b hb, .inl rfl, .inl rfl⟩
theorem Rn.told (h : Rn w R B m c xs A n cap p lv hv lg hs) (LA : Le w wA) {x : Int} (hx : Enc.ok x) (O4 : w4.ownsRow (R - 1) 3 1 v1 (lg.length + 1) ((lg ++ [x]).flatMap Enc.cells)) (hg : wA.grownBy w4 lv.ownBlock) (hbl : v1.ownBlock = lv.ownBlock ∨ v1.ownBlock = some wA.heap.size) :
    Rn (w4.setCell ⟨R, 2, none⟩ v1) R B m c xs A n cap p v1 hv (lg ++ [x]) hs ∧ Kp R lv hv v1 hv w (w4.setCell ⟨R, 2, none⟩ v1) := by
  have hA := h.le LA
  have hRl : some R ≠ lv.ownBlock := fun e => h.lneR e.symm
  have hsz := hg.size
  have hcell : ∀ o v, wA.cell? ⟨R, o, none⟩ = some v → w4.cell? ⟨R, o, none⟩ = some v := fun o v hc => hg.cell (a := ⟨R, o, none⟩) hc (fun e => hRl e)
  have hfr : ∀ o, w4.frozen? ⟨R, o, none⟩ = wA.frozen? ⟨R, o, none⟩ := fun o => World.frozen?_of_block (a := ⟨R, o, none⟩) (hg.block R hA.z hRl)
  have hzz : (w4.setCell ⟨R, 2, none⟩ v1).heap.size = w4.heap.size := by simp [World.setCell]
  have gs := grown_set w4 R 2 v1
  have hap : hv.ownBlock = none ∨ hv.ownBlock ≠ lv.ownBlock := by
    cases e : hv.ownBlock with
    | none => exact .inl rfl
    | some k => exact .inr fun e2 => h.ap k e2.symm e
  have hlk : ∀ k, lv.ownBlock = some k → R - 1 ≤ k := fun k e => (h.O.lt k e).1
  have hvl : ∀ k, v1.ownBlock = some k → k ≠ R ∧ hv.ownBlock ≠ some k := fun k e => by
    rcases hbl with h1 | h1
    · exact ⟨fun e2 => h.nl (by rw [← h1, e, e2]), h.ap k (h1 ▸ e)⟩
    · rw [h1] at e
      injection e with e
      have := hA.z
      exact ⟨by omega, fun e2 => by have := (hA.H.lt k e2).2; omega⟩
  have S4 := hA.S.grown hg (fun hn a e e2 => by have := h.hB hn a e; have := hlk _ e2.symm; omega)
  have T4 := hA.T.grown hg (fun hn a e e2 => by have := h.hA hn a e; have := hlk _ e2.symm; omega)
  refine ⟨⟨by rw [hzz]; exact Nat.lt_of_lt_of_le hA.z hsz, ?_, ?_, ?_, ?_, ?_, ?_, ?_, ?_, h.hB, h.hA, ?_, ?_, fun k e => (hvl k e).2, ?_, h.okh, fun e => (hvl R e).1 rfl, h.nh⟩, ?_⟩
  · rw [cell_set_other (.inr (by decide))]; exact hcell 0 _ hA.c0
  · rw [cell_set_other (.inr (by decide))]; exact hcell 1 _ hA.c1
  · exact cell_set_same (hcell 2 _ hA.c2)
  · rw [cell_set_other (.inr (by decide))]; exact hcell 3 _ hA.c3
  · rw [fr_set, hfr]; exact hA.f2
  · rw [fr_set, hfr]; exact hA.f3
  · exact S4.grown gs (fun hn a e e2 => by have := h.hB hn a e; have e3 : a.block = R := (by injection e2); omega)
  · exact T4.grown gs (fun hn a e e2 => by have := h.hA hn a e; have e3 : a.block = R := (by injection e2); omega)
  · have := O4.kept gs (by cases e : v1.ownBlock with | none => exact .inl rfl | some k => exact .inr (fun e2 => by injection e2 with e2; have := (hvl k e).1; omega))
    rw [List.length_append]; exact this
  · exact (hA.H.kept hg hap).kept gs (by cases e : hv.ownBlock with | none => exact .inl rfl | some k => exact .inr (fun e2 => by injection e2 with e2; exact h.hneR (by rw [e, e2])))
  · intro y hy
    rcases List.mem_append.1 hy with h1 | h1
    · exact h.okl y h1
    · rw [List.mem_singleton] at h1; subst h1; exact hx
  · refine ⟨?_, ?_, ?_, ?_, fun b hb hR hl hh => ?_, ?_, .inl rfl⟩
    · exact gs.os.trans (hg.os.trans LA.os)
    · exact gs.tape.trans (hg.tape.trans LA.tape)
    · exact gs.output.trans (hg.output.trans LA.output)
    · rw [hzz]; exact Nat.le_trans LA.size hsz
    · have hbA := Nat.lt_of_lt_of_le hb LA.size
      exact (gs.block b (Nat.lt_of_lt_of_le hbA hsz) (fun e => hR (by injection e))).trans ((hg.block b hbA (fun e => hl e.symm)).trans (LA.block b hb))
    · rcases hbl with h1 | h1
      · exact .inl h1
      · exact .inr fun k e => by rw [h1] at e; injection e with e; have := LA.size; omega
end
set_option maxHeartbeats 1000000 in
set_option maxRecDepth 100000 in
theorem tell_any (R m c n cap : Nat) (B A : Option Addr) (xs : List Cls) (p : List Lin) (lv hv : Value) (lg : List Int) (hs : List Flt) (x : Int) (hx : Enc.ok x) (hl : lg.length ≤ 1000000) (w : World) (h : Rn w R B m c xs A n cap p lv hv lg hs) :
    Calls Tryz.prog 80 #[.pointer (some ⟨R, 0, none⟩), .int .i64 x] w fun e w' => e = .returned (.tuple #[]) ∧ ∃ lv', Rn w' R B m c xs A n cap p lv' hv (lg ++ [x]) hs ∧ Kp R lv hv lv' hv w w' := by
  obtain ⟨i0, hq, hz0, hz1, hz2⟩ := info_parts infoIntR
  have c2 := h.c2
  have f2 := h.f2
  have hz := h.z
  obtain ⟨AL, cL, rfl⟩ := own_form h.O
  go_enter Tryz.func80, Tryz.ntmps80
  go_wp2_with (at_builtin; refine wpList_append_sl rfl _ _ 28 rfl (R - 1) 3 i0 _ 8 Tryz.underlying28 hq hz0 hz1 hz2 rfl _ lg.length lg rfl (h.O.alloc _) _ 1 1 [x] rfl (sl_one x rfl hx rfl) (by unfold maxLen; omega) (by omega) (Nat.le_trans (by omega) (Le.new w _).size) ?_; intro v1 w4 O4 hg4 hbl; obtain ⟨A1, c1, rfl⟩ := own_form O4; have HR := Lib.hid (h.told (Le.new w _) hx O4 hg4 hbl); have k2 := hg4.cell (a := ⟨R, 2, none⟩) (((Le.new w _).cell hz).trans c2) (fun e => h.lneR e.symm); have k3 : w4.frozen? ⟨R, 2, none⟩ = false := (World.frozen?_of_block (a := ⟨R, 2, none⟩) (hg4.block R (Nat.lt_of_lt_of_le hz (Le.new w _).size) (fun e => h.lneR e.symm))).trans (((Le.new w _).frozen hz).trans f2); clear O4 hg4 hbl)
  go_end0
  exact ⟨rfl, _, HR.out.1, HR.out.2⟩
end

section
section
def dep (p : List Lin) (i : Nat) : Int := match p[i]? with | some x => x.depth | none => 0
def knd (p : List Lin) (i : Nat) : Int := match p[i]? with | some x => x.kind | none => 0
theorem dep_at {p : List Lin} {i : Nat} (h : i < p.length) : dep p i = p[i].depth := by unfold dep; rw [List.getElem?_eq_getElem h]
theorem knd_at {p : List Lin} {i : Nat} (h : i < p.length) : knd p i = p[i].kind := by unfold knd; rw [List.getElem?_eq_getElem h]
/-- the line behind the block of a line -/
def bGo (p : List Lin) (d : Int) : Nat → Nat → Nat
  | 0, k => k
  | m + 1, k => if d < dep p k then bGo p d m (k + 1) else k
def bEnd (p : List Lin) (i : Nat) : Nat := bGo p (dep p i) (p.length - (i + 1)) (i + 1)
theorem bGo_ge (p : List Lin) (d : Int) : ∀ (m k : Nat), k ≤ bGo p d m k
  | 0, k => Nat.le_refl _
  | m + 1, k => by
    unfold bGo; split
    · exact Nat.le_trans (Nat.le_succ k) (bGo_ge p d m (k + 1))
    · exact Nat.le_refl _
theorem bGo_le (p : List Lin) (d : Int) : ∀ (m k : Nat), bGo p d m k ≤ k + m
  | 0, k => Nat.le_refl _
  | m + 1, k => by
    unfold bGo; split
    · have := bGo_le p d m (k + 1); omega
    · omega
theorem bGo_in (p : List Lin) (d : Int) : ∀ (m k x : Nat), k ≤ x → x < bGo p d m k → d < dep p x
  | 0, k, x, h1, h2 => by unfold bGo at h2; omega
  | m + 1, k, x, h1, h2 => by
    unfold bGo at h2
    split at h2
    · next h =>
      by_cases e : x = k
      · rw [e]; exact h
      · exact bGo_in p d m (k + 1) x (by omega) h2
    · omega
theorem bGo_stop (p : List Lin) (d : Int) : ∀ (m k : Nat), bGo p d m k < k + m → ¬ d < dep p (bGo p d m k)
  | 0, k, h => by unfold bGo at h; omega
  | m + 1, k, h => by
    unfold bGo at h ⊢
    split
    · next h1 => rw [if_pos h1] at h; exact bGo_stop p d m (k + 1) (by omega)
    · next h1 => exact h1
theorem bEnd_gt (p : List Lin) (i : Nat) : i < bEnd p i := bGo_ge p _ _ (i + 1)
theorem bEnd_le {p : List Lin} {i : Nat} (h : i < p.length) : bEnd p i ≤ p.length := by
  have := bGo_le p (dep p i) (p.length - (i + 1)) (i + 1)
  unfold bEnd; omega
theorem bEnd_in {p : List Lin} {i x : Nat} (h1 : i < x) (h2 : x < bEnd p i) : dep p i < dep p x := bGo_in p _ _ _ x h1 h2
theorem bEnd_stop {p : List Lin} {i : Nat} (hi : i < p.length) (h : bEnd p i < p.length) : dep p (bEnd p i) ≤ dep p i := by
  have := bGo_stop p (dep p i) (p.length - (i + 1)) (i + 1) (by unfold bEnd at h; omega)
  unfold bEnd; omega
/-- k is the line ahead of i that is as deep, with only deeper ones between -/
def Sib (p : List Lin) (k i : Nat) : Prop := k < i ∧ i < p.length ∧ dep p k = dep p i ∧ ∀ m, k < m → m < i → dep p i < dep p m
theorem sib_of {p : List Lin} {k : Nat} (h : bEnd p k < p.length) (he : dep p (bEnd p k) = dep p k) : Sib p k (bEnd p k) :=
  ⟨bEnd_gt p k, h, he.symm, fun m h1 h2 => by rw [he]; exact bEnd_in h1 h2⟩
theorem Sib.out {p : List Lin} {k i : Nat} (h : Sib p k i) : bEnd p k = i := by
  obtain ⟨h1, h2, h3, h4⟩ := h
  rcases Nat.lt_trichotomy (bEnd p k) i with h5 | h5 | h5
  · have a := bEnd_stop (by omega) (Nat.lt_trans h5 h2)
    have b := h4 _ (bEnd_gt p k) h5
    omega
  · exact h5
  · have := bEnd_in h1 h5
    omega
theorem Sib.uniq {p : List Lin} {k j i : Nat} (h : Sib p k i) (h2 : Sib p j i) : k = j := by
  rcases Nat.lt_trichotomy k j with h5 | h5 | h5
  · have := h.2.2.2 j h5 h2.1; have := h2.2.2.1; omega
  · exact h5
  · have := h2.2.2.2 k h5 h.1; have := h.2.2.1; omega
/-- the line behind the block of a line if that is as deep; the number of lines if there is none -/
def sNext (p : List Lin) (i : Nat) : Nat := if bEnd p i < p.length ∧ dep p (bEnd p i) = dep p i then bEnd p i else p.length
theorem sNext_gt {p : List Lin} {i : Nat} (h : i < p.length) : i < sNext p i := by
  unfold sNext; split
  · exact bEnd_gt p i
  · exact h
theorem sNext_sib {p : List Lin} {i : Nat} (h : sNext p i < p.length) : Sib p i (sNext p i) := by
  unfold sNext at h ⊢
  split
  · next e => exact sib_of e.1 e.2
  · next e => rw [if_neg e] at h; omega
theorem Sib.next {p : List Lin} {k i : Nat} (h : Sib p k i) : sNext p k = i := by
  have e := h.out
  unfold sNext
  rw [e, if_pos ⟨h.2.1, h.2.2.1.symm⟩]
/-- a kind that goes on with a try -/
def fol (k : Int) : Bool := decide (8 ≤ k) && decide (k ≤ 10)
theorem fol_iff {k : Int} : fol k = true ↔ 8 ≤ k ∧ k ≤ 10 := by unfold fol; simp
def chGo (p : List Lin) : Nat → Nat → List Nat
  | 0, _ => []
  | m + 1, k => if k < p.length ∧ fol (knd p k) = true then k :: chGo p m (sNext p k) else []
/-- the lines of a try as the model reads them -/
def chain (p : List Lin) (i : Nat) : List Nat := i :: chGo p p.length (sNext p i)
/-- what may come behind which line of a try -/
def mayF (a k : Int) : Bool := (decide (k = 8) && (decide (a = 7) || decide (a = 8))) || (decide (k = 9) && decide (a = 8)) || (decide (k = 10) && (decide (a = 7) || decide (a = 8) || decide (a = 9)))
theorem mayF_iff {a k : Int} : mayF a k = true ↔ (k = 8 ∧ (a = 7 ∨ a = 8)) ∨ (k = 9 ∧ a = 8) ∨ (k = 10 ∧ (a = 7 ∨ a = 8 ∨ a = 9)) := by
  unfold mayF; simp [or_assoc]
def ptGo (p : List Lin) (d : Int) : Nat → Nat → List Nat
  | 0, _ => []
  | m + 1, k => if bEnd p k < p.length ∧ dep p (bEnd p k) = d ∧ mayF (knd p k) (knd p (bEnd p k)) = true then bEnd p k :: ptGo p d m (bEnd p k) else []
/-- the lines of a try as the program reads them -/
def parts (p : List Lin) (i : Nat) : List Nat := i :: ptGo p (dep p i) p.length i
/-- how many LnExcept a list has -/
def exs (p : List Lin) (L : List Nat) : Nat := L.countP fun k => knd p k == 8
def vcGo (p : List Lin) : Bool → Int → Nat → List Nat → Option Nat
  | _, _, ex, [] => some ex
  | first, prev, ex, k :: r =>
    if (first = false ∧ (knd p k < prev ∨ (knd p k = prev ∧ knd p k ≠ 8))) ∨ (knd p k = 9 ∧ (if knd p k = 8 then ex + 1 else ex) = 0) then none
    else vcGo p false (knd p k) (if knd p k = 8 then ex + 1 else ex) r
/-- whether the lines of a try come in order, as the model asks -/
def vChain (p : List Lin) (i : Nat) : Bool := match vcGo p true 0 0 (chain p i).tail with | none => false | some ex => decide (1 < (chain p i).length) && decide (ex ≤ 6)
/-- what the walk over a try knows of the line that it has passed last -/
def StV (first : Bool) (prev : Int) (ex : Nat) (k : Int) : Prop := (first = true ∧ k = 7 ∧ ex = 0) ∨ (first = false ∧ prev = k ∧ 8 ≤ k ∧ k ≤ 10 ∧ (k ≤ 9 → 0 < ex))
def exN (n : Int) (ex : Nat) : Nat := if n = 8 then ex + 1 else ex
theorem exN_8 {n : Int} (h : n = 8) (ex : Nat) : exN n ex = ex + 1 := if_pos h
theorem exN_no {n : Int} (h : n ≠ 8) (ex : Nat) : exN n ex = ex := if_neg h
def badV (first : Bool) (prev : Int) (ex : Nat) (n : Int) : Prop := (first = false ∧ (n < prev ∨ (n = prev ∧ n ≠ 8))) ∨ (n = 9 ∧ exN n ex = 0)
theorem StV.step {first : Bool} {prev : Int} {ex : Nat} {k n : Int} (h : StV first prev ex k) (hn : 8 ≤ n ∧ n ≤ 10) (hv : ¬ badV first prev ex n) : mayF k n = true ∧ StV false n (exN n ex) n := by
  have hv1 : first = false → ¬ (n < prev ∨ (n = prev ∧ n ≠ 8)) := fun h1 h2 => hv (.inl ⟨h1, h2⟩)
  have hv2 : n = 9 → exN n ex ≠ 0 := fun h1 h2 => hv (.inr ⟨h1, h2⟩)
  have h8 := exN_8 (n := n)
  have h9 := exN_no (n := n)
  have hex : n = 8 → 0 < exN n ex := fun e => by rw [exN_8 e]; omega
  have hex9 : n = 9 → exN n ex = ex := fun e => exN_no (by omega) ex
  clear h8 h9 hv
  rcases h with ⟨rfl, rfl, rfl⟩ | ⟨rfl, rfl, h1, h2, h3⟩
  · have hn9 : n ≠ 9 := fun e => hv2 e (hex9 e)
    exact ⟨mayF_iff.2 (by omega), .inr ⟨rfl, rfl, hn.1, hn.2, fun _ => hex (by omega)⟩⟩
  · have hv3 := hv1 rfl
    refine ⟨mayF_iff.2 (by omega), .inr ⟨rfl, rfl, hn.1, hn.2, fun h4 => ?_⟩⟩
    by_cases e : n = 8
    · exact hex e
    · have e9 : n = 9 := by omega
      have := hex9 e9
      have := hv2 e9
      omega
theorem StV.back {first : Bool} {prev : Int} {ex : Nat} {k n : Int} (h : StV first prev ex k) (hm : mayF k n = true) : ¬ badV first prev ex n ∧ StV false n (exN n ex) n := by
  have hm' := mayF_iff.1 hm
  have hex : n = 8 → 0 < exN n ex := fun e => by rw [exN_8 e]; omega
  have hex9 : n = 9 → exN n ex = ex := fun e => exN_no (by omega) ex
  rcases h with ⟨rfl, rfl, rfl⟩ | ⟨rfl, rfl, h1, h2, h3⟩
  · refine ⟨?_, .inr ⟨rfl, rfl, by omega, by omega, fun _ => hex (by omega)⟩⟩
    rintro (⟨h, _⟩ | ⟨h, _⟩)
    · cases h
    · omega
  · refine ⟨?_, .inr ⟨rfl, rfl, by omega, by omega, fun h4 => ?_⟩⟩
    · rintro (⟨_, h⟩ | ⟨h, h4⟩)
      · omega
      · have := hex9 h
        have := h3 (by omega)
        omega
    · by_cases e : n = 8
      · exact hex e
      · have e9 : n = 9 := by omega
        have := hex9 e9
        have := h3 (by omega)
        omega
theorem vc_cons (p : List Lin) (first : Bool) (prev : Int) (ex : Nat) (k : Nat) (r : List Nat) [Decidable (badV first prev ex (knd p k))] : vcGo p first prev ex (k :: r) = if badV first prev ex (knd p k) then none else vcGo p false (knd p k) (exN (knd p k) ex) r := by
  show (if _ then none else _) = _
  by_cases h : badV first prev ex (knd p k)
  · rw [if_pos h]; exact if_pos h
  · rw [if_neg h]; exact if_neg h
theorem vc_bad {p : List Lin} {first : Bool} {prev : Int} {ex k : Nat} {r : List Nat} (h : badV first prev ex (knd p k)) : vcGo p first prev ex (k :: r) = none := if_pos h
theorem vc_ok {p : List Lin} {first : Bool} {prev : Int} {ex k : Nat} {r : List Nat} (h : ¬ badV first prev ex (knd p k)) : vcGo p first prev ex (k :: r) = vcGo p false (knd p k) (exN (knd p k) ex) r := if_neg h
theorem exs_cons (p : List Lin) (k : Nat) (r : List Nat) (ex : Nat) : exN (knd p k) ex + exs p r = ex + exs p (k :: r) := by
  unfold exs
  rw [List.countP_cons]
  by_cases h : knd p k = 8
  · rw [exN_8 h, h]; simp; omega
  · rw [exN_no h]
    have : (knd p k == 8) = false := by simpa using h
    rw [this]; simp
theorem pt_of_vc (p : List Lin) : ∀ (m k : Nat) (first : Bool) (prev : Int) (ex : Nat), k < p.length → StV first prev ex (knd p k) → vcGo p first prev ex (chGo p m (sNext p k)) ≠ none → ptGo p (dep p k) m k = chGo p m (sNext p k)
  | 0, _, _, _, _, _, _, _ => rfl
  | m + 1, k, first, prev, ex, hk, hs, hv => by
    by_cases hl : sNext p k < p.length
    · have sb := sNext_sib hl
      by_cases hf : fol (knd p (sNext p k)) = true
      · have hc : sNext p k < p.length ∧ fol (knd p (sNext p k)) = true := ⟨hl, hf⟩
        unfold chGo at hv ⊢
        unfold ptGo
        rw [if_pos hc] at hv
        have hb : ¬ badV first prev ex (knd p (sNext p k)) := fun hb => hv (vc_bad hb)
        rw [vc_ok hb] at hv
        obtain ⟨hm, hst⟩ := hs.step (fol_iff.1 hf) hb
        have hc2 : sNext p k < p.length ∧ dep p (sNext p k) = dep p k ∧ mayF (knd p k) (knd p (sNext p k)) = true := ⟨hl, sb.2.2.1.symm, hm⟩
        rw [sb.out, if_pos hc2, if_pos hc, sb.2.2.1, pt_of_vc p m _ _ _ _ hl hst hv]
      · unfold chGo ptGo
        rw [sb.out, if_neg (fun q => hf (fol_iff.2 (by have := mayF_iff.1 q.2.2; omega))), if_neg (fun q => hf q.2)]
    · unfold chGo ptGo
      rw [if_neg (fun q => by have := (sib_of q.1 q.2.1).next; have := q.1; omega), if_neg (fun q => hl q.1)]
theorem vc_of_pt (p : List Lin) : ∀ (m k : Nat) (first : Bool) (prev : Int) (ex : Nat), k < p.length → StV first prev ex (knd p k) → ptGo p (dep p k) m k = chGo p m (sNext p k) → vcGo p first prev ex (chGo p m (sNext p k)) = some (ex + exs p (chGo p m (sNext p k)))
  | 0, _, _, _, _, _, _, _ => rfl
  | m + 1, k, first, prev, ex, hk, hs, he => by
    unfold chGo at he ⊢
    unfold ptGo at he
    by_cases hl : sNext p k < p.length
    · have sb := sNext_sib hl
      by_cases hf : fol (knd p (sNext p k)) = true
      · rw [if_pos ⟨hl, hf⟩]
        rw [sb.out] at he
        by_cases hm : mayF (knd p k) (knd p (sNext p k)) = true
        · rw [if_pos ⟨hl, sb.2.2.1.symm, hm⟩, if_pos ⟨hl, hf⟩] at he
          injection he with _ he
          obtain ⟨hb, hst⟩ := hs.back hm
          rw [sb.2.2.1] at he
          rw [vc_ok hb, vc_of_pt p m _ _ _ _ hl hst he, exs_cons]
        · rw [if_neg (fun q => hm q.2.2), if_pos ⟨hl, hf⟩] at he; cases he
      · rw [if_neg (fun q => hf q.2)]; rfl
    · rw [if_neg (fun q => hl q.1)]; rfl
theorem vChain_iff {p : List Lin} {i : Nat} (hi : i < p.length) (h7 : knd p i = 7) : vChain p i = true ↔ parts p i = chain p i ∧ (parts p i).length ≠ 1 ∧ exs p (parts p i) ≤ 6 := by
  have hst : StV true 0 0 (knd p i) := .inl ⟨rfl, h7, rfl⟩
  have hex : ∀ r, exs p (i :: r) = exs p r := fun r => by
    have h := exs_cons p i r 0
    rw [exN_no (by omega)] at h; omega
  constructor
  · intro h
    unfold vChain at h
    show parts p i = chain p i ∧ _
    have hne : vcGo p true 0 0 (chGo p p.length (sNext p i)) ≠ none := fun e => by
      rw [show (chain p i).tail = chGo p p.length (sNext p i) from rfl, e] at h; cases h
    have he := pt_of_vc p p.length i true 0 0 hi hst hne
    have hv := vc_of_pt p p.length i true 0 0 hi hst he
    rw [show (chain p i).tail = chGo p p.length (sNext p i) from rfl, hv] at h
    have h' : (decide (1 < (chain p i).length) && decide (0 + exs p (chGo p p.length (sNext p i)) ≤ 6)) = true := h
    rw [Bool.and_eq_true, decide_eq_true_eq, decide_eq_true_eq] at h'
    have hp : parts p i = chain p i := by unfold parts chain; rw [he]
    refine ⟨hp, ?_, ?_⟩
    · rw [hp]; omega
    · rw [hp]; unfold chain; rw [hex]; omega
  · rintro ⟨hp, h1, h2⟩
    have he : ptGo p (dep p i) p.length i = chGo p p.length (sNext p i) := by unfold parts chain at hp; injection hp
    have hv := vc_of_pt p p.length i true 0 0 hi hst he
    rw [hp] at h1 h2
    unfold vChain
    rw [show (chain p i).tail = chGo p p.length (sNext p i) from rfl, hv]
    show (decide (1 < (chain p i).length) && decide (0 + exs p (chGo p p.length (sNext p i)) ≤ 6)) = true
    have h3 : exs p (chain p i) = exs p (chGo p p.length (sNext p i)) := hex _
    have h4 : 0 < (chain p i).length := by unfold chain; simp
    rw [Bool.and_eq_true, decide_eq_true_eq, decide_eq_true_eq]
    omega
theorem pt_pred (p : List Lin) : ∀ (m k x : Nat), k < p.length → x ∈ ptGo p (dep p k) m k → ∃ j, Sib p j x ∧ mayF (knd p j) (knd p x) = true
  | 0, _, _, _, h => by cases h
  | m + 1, k, x, hk, h => by
    unfold ptGo at h
    split at h
    · next c =>
      have sb := sib_of c.1 c.2.1
      rcases List.mem_cons.1 h with rfl | h
      · exact ⟨k, sb, c.2.2⟩
      · rw [sb.2.2.1] at h
        exact pt_pred p m _ x c.1 h
    · cases h
theorem ch_next (p : List Lin) : ∀ (m x k : Nat), p.length ≤ m + x → k ∈ chGo p m x → sNext p k < p.length → fol (knd p (sNext p k)) = true → sNext p k ∈ chGo p m x
  | 0, _, _, _, h, _, _ => by cases h
  | m + 1, x, k, hm, h, hl, hf => by
    unfold chGo at h ⊢
    split at h
    · next c =>
      rw [if_pos c]
      have hg := sNext_gt c.1
      rcases List.mem_cons.1 h with rfl | h
      · cases m with
        | zero => omega
        | succ m =>
          refine List.mem_cons_of_mem _ ?_
          unfold chGo
          rw [if_pos ⟨hl, hf⟩]
          exact List.mem_cons_self ..
      · exact List.mem_cons_of_mem _ (ch_next p m _ k (by omega) h hl hf)
    · cases h
def triesS (p : List Lin) : Prop := ∀ i, i < p.length → (knd p i = 7 → vChain p i = true) ∧ (fol (knd p i) = true → ∃ k, Sib p k i ∧ (knd p k = 7 ∨ fol (knd p k) = true))
def triesI (p : List Lin) : Prop := ∀ i, i < p.length → (knd p i = 7 → (parts p i).length ≠ 1 ∧ exs p (parts p i) ≤ 6) ∧ (fol (knd p i) = true → ∃ j, j < i ∧ knd p j = 7 ∧ i ∈ parts p j)
theorem full_of (p : List Lin) (H : triesI p) : ∀ (m k : Nat), k < p.length → ptGo p (dep p k) m k = chGo p m (sNext p k)
  | 0, _, _ => rfl
  | m + 1, k, hk => by
    unfold ptGo chGo
    by_cases hl : sNext p k < p.length
    · have sb := sNext_sib hl
      by_cases hf : fol (knd p (sNext p k)) = true
      · obtain ⟨j, hj, h7, hm⟩ := (H _ hl).2 hf
        have hne : sNext p k ≠ j := by omega
        have hm2 : sNext p k ∈ ptGo p (dep p j) p.length j := by
          rcases List.mem_cons.1 hm with h | h
          · exact absurd h hne
          · exact h
        obtain ⟨k', sb', hmf⟩ := pt_pred p _ j _ (by omega) hm2
        obtain rfl := sb'.uniq sb
        rw [sb.out, if_pos ⟨hl, sb.2.2.1.symm, hmf⟩, if_pos ⟨hl, hf⟩, sb.2.2.1, full_of p H m _ hl]
      · rw [sb.out, if_neg (fun q => hf (fol_iff.2 (by have := mayF_iff.1 q.2.2; omega))), if_neg (fun q => hf q.2)]
    · rw [if_neg (fun q => by have := (sib_of q.1 q.2.1).next; have := q.1; omega), if_neg (fun q => hl q.1)]
theorem tries_same (p : List Lin) : triesS p ↔ triesI p := by
  constructor
  · intro H
    have key : ∀ n i, i < n → i < p.length → fol (knd p i) = true → ∃ j, j < i ∧ knd p j = 7 ∧ i ∈ parts p j := by
      intro n
      induction n with
      | zero => intro i h; omega
      | succ n ih =>
        intro i hn hi hf
        obtain ⟨k, sb, hk⟩ := (H i hi).2 hf
        have hkl : k < p.length := by have := sb.1; omega
        have hnx := sb.next
        rcases hk with h7 | hfk
        · refine ⟨k, sb.1, h7, ?_⟩
          rw [((vChain_iff hkl h7).1 ((H k hkl).1 h7)).1]
          unfold chain
          refine List.mem_cons_of_mem _ ?_
          rw [hnx]
          obtain ⟨l, hl⟩ : ∃ l, p.length = l + 1 := ⟨p.length - 1, by omega⟩
          have : chGo p p.length i = i :: chGo p l (sNext p i) := by rw [hl]; unfold chGo; rw [if_pos ⟨by omega, hf⟩]; cases l <;> rfl
          rw [this]; exact List.mem_cons_self ..
        · obtain ⟨j, hj, h7, hm⟩ := ih k (by have := sb.1; omega) hkl hfk
          have hjl : j < p.length := by omega
          have hp := ((vChain_iff hjl h7).1 ((H j hjl).1 h7)).1
          refine ⟨j, by have := sb.1; omega, h7, ?_⟩
          rw [hp] at hm ⊢
          unfold chain at hm ⊢
          rcases List.mem_cons.1 hm with h | h
          · omega
          · have := ch_next p p.length (sNext p j) k (by omega) h (by rw [hnx]; exact hi) (by rw [hnx]; exact hf)
            rw [hnx] at this
            exact List.mem_cons_of_mem _ this
    exact fun i hi => ⟨fun h7 => ((vChain_iff hi h7).1 ((H i hi).1 h7)).2, fun hf => key (i + 1) i (by omega) hi hf⟩
  · intro H i hi
    refine ⟨fun h7 => (vChain_iff hi h7).2 ⟨?_, (H i hi).1 h7⟩, fun hf => ?_⟩
    · unfold parts chain; rw [full_of p H p.length i hi]
    · obtain ⟨j, hj, h7, hm⟩ := (H i hi).2 hf
      rcases List.mem_cons.1 hm with h | h
      · omega
      · obtain ⟨k, sb, hmf⟩ := pt_pred p _ j i (by omega) h
        refine ⟨k, sb, ?_⟩
        rcases mayF_iff.1 hmf with h | h | h
        · rcases h.2 with h | h
          · exact .inl h
          · exact .inr (fol_iff.2 (by omega))
        · exact .inr (fol_iff.2 (by omega))
        · rcases h.2 with h | h | h
          · exact .inl h
          · exact .inr (fol_iff.2 (by omega))
          · exact .inr (fol_iff.2 (by omega))
end

section
/-! numbers -/
def numS (xs : List Cls) (k a b : Int) : Bool :=
  if k = 1 ∨ k = 4 then rng 0 99 a && (b == 0)
  else if k = 2 then hasK xs a && rng 0 99 b
  else if k = 8 then hasK xs a && (b == 0)
  else if k = 11 then rng 0 9 a && rng 0 1 b
  else if k = 12 then rng 0 3 a && (b == 0)
  else rng 0 10 k && (a == 0) && (b == 0)
def mostA (n : Nat) (k : Int) : Int :=
  if k = 0 ∨ k = 3 ∨ k = 5 ∨ k = 6 ∨ k = 7 ∨ k = 9 ∨ k = 10 then 0
  else if k = 1 ∨ k = 4 then 99 else if k = 2 ∨ k = 8 then (n : Int) - 1 else if k = 11 then 9 else if k = 12 then 3 else -1
def mostB (k : Int) : Int :=
  if k = 0 ∨ k = 3 ∨ k = 5 ∨ k = 6 ∨ k = 7 ∨ k = 9 ∨ k = 10 then 0
  else if k = 1 ∨ k = 4 then 0 else if k = 2 then 99 else if k = 8 then 0 else if k = 11 then 1 else if k = 12 then 0 else -1
theorem num_same (xs : List Cls) (k a b : Int) : numS xs k a b = (rng 0 (mostA xs.length k) a && rng 0 (mostB k) b) := by
  rw [Bool.eq_iff_iff, Bool.and_eq_true, rng_iff, rng_iff]
  unfold numS mostA mostB
  by_cases h14 : k = 1 ∨ k = 4
  · rw [if_pos h14, if_neg (by omega), if_pos h14, if_neg (by omega), if_pos h14, Bool.and_eq_true, rng_iff, beq_iff_eq]; omega
  rw [if_neg h14]
  by_cases h2 : k = 2
  · rw [if_pos h2, if_neg (by omega), if_neg (by omega), if_pos (by omega), if_neg (by omega), if_neg (by omega), if_pos h2, Bool.and_eq_true, rng_iff, hasK_iff]; omega
  rw [if_neg h2]
  by_cases h8 : k = 8
  · rw [if_pos h8, if_neg (by omega), if_neg (by omega), if_pos (by omega), if_neg (by omega), if_neg (by omega), if_neg (by omega), if_pos h8, Bool.and_eq_true, hasK_iff, beq_iff_eq]; omega
  rw [if_neg h8]
  by_cases h11 : k = 11
  · rw [if_pos h11, if_neg (by omega), if_neg (by omega), if_neg (by omega), if_pos h11, if_neg (by omega), if_neg (by omega), if_neg (by omega), if_neg (by omega), if_pos h11, Bool.and_eq_true, rng_iff, rng_iff]
  rw [if_neg h11]
  by_cases h12 : k = 12
  · rw [if_pos h12, if_neg (by omega), if_neg (by omega), if_neg (by omega), if_neg (by omega), if_pos h12, if_neg (by omega), if_neg (by omega), if_neg (by omega), if_neg (by omega), if_neg (by omega), if_pos h12, Bool.and_eq_true, rng_iff, beq_iff_eq]; omega
  rw [if_neg h12, Bool.and_eq_true, Bool.and_eq_true, rng_iff, beq_iff_eq, beq_iff_eq]
  by_cases h0 : k = 0 ∨ k = 3 ∨ k = 5 ∨ k = 6 ∨ k = 7 ∨ k = 9 ∨ k = 10
  · rw [if_pos h0, if_pos h0]; omega
  · rw [if_neg h0, if_neg h0, if_neg (by omega), if_neg (by omega), if_neg (by omega), if_neg (by omega), if_neg (by omega), if_neg (by omega), if_neg (by omega), if_neg (by omega), if_neg (by omega)]; omega
/-! blocks and depths -/
def opn (k : Int) : Bool := rng 7 12 k
theorem opn_iff {k : Int} : opn k = true ↔ 7 ≤ k ∧ k ≤ 12 := rng_iff
/-- what the model asks of the depth of a line -/
def depS (p : List Lin) (i : Nat) : Prop := (0 ≤ dep p i ∧ dep p i ≤ 5) ∧ (i = 0 → dep p i = 0) ∧ (∀ j, i = j + 1 → dep p i ≤ dep p j + 1 ∧ (opn (knd p j) = true ↔ dep p i = dep p j + 1))
/-- what the program asks of it -/
def depI (p : List Lin) (i : Nat) : Prop := (i = 0 → dep p i = 0) ∧ (∀ j, i = j + 1 → (opn (knd p j) = true → dep p j < 5 ∧ dep p i = dep p j + 1) ∧ (opn (knd p j) = false → 0 ≤ dep p i ∧ dep p i ≤ dep p j))
theorem dep_same (p : List Lin) (n : Nat) : (∀ i, i < n → depS p i) ↔ (∀ i, i < n → depI p i) := by
  constructor
  · intro H i hi
    have a := H i hi
    refine ⟨a.2.1, fun j hj => ?_⟩
    have b := H j (by omega)
    have c := a.2.2 j hj
    refine ⟨fun ho => ?_, fun ho => ?_⟩
    · have := c.2.1 ho; have := a.1; omega
    · have h1 : ¬ dep p i = dep p j + 1 := fun e => by have := c.2.2 e; rw [ho] at this; cases this
      have := a.1; omega
  · intro H
    have key : ∀ m i, i < m → i < n → depS p i := by
      intro m
      induction m with
      | zero => intro i h; omega
      | succ m ih =>
        intro i him hi
        have a := H i hi
        cases i with
        | zero => have := a.1 rfl; exact ⟨by omega, fun _ => this, fun j hj => by omega⟩
        | succ j =>
          have b := ih j (by omega) (by omega)
          have c := a.2 j rfl
          have hb := b.1
          cases ho : opn (knd p j)
          · have d := c.2 ho
            refine ⟨by omega, fun h => by omega, fun j' hj' => ?_⟩
            obtain rfl : j' = j := by omega
            exact ⟨by omega, ⟨fun h => (by rw [ho] at h; cases h), fun h => by omega⟩⟩
          · have d := c.1 ho
            refine ⟨by omega, fun h => by omega, fun j' hj' => ?_⟩
            obtain rfl : j' = j := by omega
            exact ⟨by omega, ⟨fun _ => d.2, fun _ => ho⟩⟩
    exact fun i hi => key (i + 1) i (by omega) hi
/-! loops -/
/-- the model looks for a loop around: from k on down, below a depth -/
def inGo (p : List Lin) : Int → Nat → Bool
  | _, 0 => false
  | d, k + 1 => if dep p k < d then (if knd p k = 12 then true else inGo p (dep p k) k) else inGo p d k
def inL (p : List Lin) (i : Nat) : Bool := inGo p (dep p i) i
/-- the line in whose block a line is -/
def oGo (p : List Lin) (d : Int) : Nat → Option Nat
  | 0 => none
  | k + 1 => if dep p k < d then some k else oGo p d k
def outs (p : List Lin) (i : Nat) : Option Nat := oGo p (dep p i) i
theorem oGo_lt {p : List Lin} {d : Int} : ∀ {k j : Nat}, oGo p d k = some j → j < k
  | 0, _, h => by cases h
  | k + 1, j, h => by
    unfold oGo at h; split at h
    · injection h with h; omega
    · have := oGo_lt h; omega
/-- the program goes from line to line outside -/
def upGo (p : List Lin) : Nat → Option Nat → Bool
  | _, none => false
  | 0, some _ => false
  | m + 1, some j => if knd p j = 12 then true else upGo p m (outs p j)
theorem in_out (p : List Lin) (d : Int) : ∀ k, inGo p d k = match oGo p d k with | none => false | some j => if knd p j = 12 then true else inL p j
  | 0 => rfl
  | k + 1 => by
    unfold inGo oGo
    split
    · rfl
    · exact in_out p d k
theorem up_in (p : List Lin) : ∀ (m : Nat) (o : Option Nat), (∀ j, o = some j → j < m) → upGo p m o = match o with | none => false | some j => if knd p j = 12 then true else inL p j
  | 0, none, _ => rfl
  | 0, some j, h => by have := h j rfl; omega
  | m + 1, none, _ => rfl
  | m + 1, some j, h => by
    show (if knd p j = 12 then true else upGo p m (outs p j)) = if knd p j = 12 then true else inL p j
    by_cases e : knd p j = 12
    · rw [if_pos e, if_pos e]
    · rw [if_neg e, if_neg e, up_in p m (outs p j) (fun x hx => by have := oGo_lt hx; have := h j rfl; omega)]
      unfold inL
      rw [in_out]
      rfl
theorem inL_up (p : List Lin) (i : Nat) : inL p i = upGo p i (outs p i) := by
  rw [up_in p i (outs p i) (fun j hj => oGo_lt hj)]
  unfold inL
  rw [in_out]; rfl
/-! heads -/
/-- the line that a line goes on with -/
def hGo (p : List Lin) (d : Int) : Nat → Int
  | 0 => -1
  | k + 1 => if dep p k < d then -1 else if dep p k = d then (k : Int) else hGo p d k
def headOf (p : List Lin) (i : Nat) : Int := hGo p (dep p i) i
theorem hGo_is (p : List Lin) (d : Int) : ∀ k, (hGo p d k = -1 ∧ ¬ ∃ j, j < k ∧ dep p j = d ∧ ∀ m, j < m → m < k → d < dep p m) ∨ ∃ j : Nat, hGo p d k = (j : Int) ∧ j < k ∧ dep p j = d ∧ ∀ m, j < m → m < k → d < dep p m
  | 0 => .inl ⟨rfl, fun ⟨j, h, _⟩ => by omega⟩
  | k + 1 => by
    unfold hGo
    by_cases h1 : dep p k < d
    · rw [if_pos h1]
      refine .inl ⟨rfl, ?_⟩
      rintro ⟨j, hj, e, hb⟩
      by_cases ek : j = k
      · rw [ek] at e; omega
      · have := hb k (by omega) (by omega); omega
    · rw [if_neg h1]
      by_cases h2 : dep p k = d
      · rw [if_pos h2]
        exact .inr ⟨k, rfl, by omega, h2, fun m h3 h4 => by omega⟩
      · rw [if_neg h2]
        rcases hGo_is p d k with ⟨h, hn⟩ | ⟨j, h, hj, e, hb⟩
        · refine .inl ⟨h, ?_⟩
          rintro ⟨j, hj, e, hb⟩
          by_cases ek : j = k
          · rw [ek] at e; exact h2 e
          · exact hn ⟨j, by omega, e, fun m h3 h4 => hb m h3 (by omega)⟩
        · exact .inr ⟨j, h, by omega, e, fun m h3 h4 => by
            by_cases em : m = k
            · rw [em]; omega
            · exact hb m h3 (by omega)⟩
/-- what the model asks of a line that goes on with a try -/
def headOk (p : List Lin) (i : Nat) : Bool := decide (0 ≤ headOf p i) && (knd p (headOf p i).toNat == 7 || fol (knd p (headOf p i).toNat))
theorem headOk_iff {p : List Lin} {i : Nat} (hi : i < p.length) : headOk p i = true ↔ ∃ k, Sib p k i ∧ (knd p k = 7 ∨ fol (knd p k) = true) := by
  unfold headOk
  rcases hGo_is p (dep p i) i with ⟨h, hn⟩ | ⟨j, h, hj, e, hb⟩
  · have h' : headOf p i = -1 := h
    rw [h']
    constructor
    · intro h2; simp at h2
    · rintro ⟨k, sb, _⟩
      exact absurd ⟨k, sb.1, sb.2.2.1, sb.2.2.2⟩ hn
  · have h' : headOf p i = (j : Int) := h
    rw [h', Int.toNat_natCast, Bool.and_eq_true, Bool.or_eq_true, beq_iff_eq, decide_eq_true_eq]
    have sj : Sib p j i := ⟨hj, hi, e, hb⟩
    constructor
    · rintro ⟨_, h2⟩
      exact ⟨j, sj, h2⟩
    · rintro ⟨k, sb, h2⟩
      obtain rfl := sb.uniq sj
      exact ⟨by omega, h2⟩
/-! whole programs -/
/-- what the model asks of a line -/
def lineS (xs : List Cls) (p : List Lin) (i : Nat) (x : Lin) : Prop :=
  numS xs x.kind x.a x.b = true ∧ depS p i ∧ (i + 1 = p.length → opn x.kind = false) ∧ (x.kind = 7 → vChain p i = true) ∧ (x.kind = 5 ∨ x.kind = 6 → inL p i = true) ∧ (fol x.kind = true → headOk p i = true)
/-- what the program asks of it -/
def lineI (xs : List Cls) (p : List Lin) (i : Nat) (x : Lin) : Prop :=
  rng 0 (mostA xs.length x.kind) x.a = true ∧ rng 0 (mostB x.kind) x.b = true ∧ depI p i ∧ (x.kind = 5 ∨ x.kind = 6 → upGo p i (outs p i) = true)
theorem lines_same (xs : List Cls) (p : List Lin) : (∀ i (h : i < p.length), lineS xs p i p[i]) ↔ ((∀ i (h : i < p.length), lineI xs p i p[i]) ∧ (∀ h : 0 < p.length, opn (p[p.length - 1]'(by omega)).kind = false) ∧ triesI p) := by
  constructor
  · intro H
    refine ⟨fun i hi => ?_, fun h => (H _ (by omega)).2.2.1 (by omega), (tries_same p).1 fun i hi => ?_⟩
    · have a := H i hi
      have b := a.1
      rw [num_same, Bool.and_eq_true] at b
      exact ⟨b.1, b.2, (dep_same p p.length).1 (fun k hk => (H k hk).2.1) i hi, fun h => by rw [← inL_up]; exact a.2.2.2.2.1 h⟩
    · have a := H i hi
      rw [knd_at hi]
      exact ⟨a.2.2.2.1, fun h => (headOk_iff hi).1 (a.2.2.2.2.2 h)⟩
  · rintro ⟨H, hl, ht⟩ i hi
    have a := H i hi
    have t := (tries_same p).2 ht i hi
    rw [knd_at hi] at t
    refine ⟨?_, (dep_same p p.length).2 (fun k hk => (H k hk).2.2.1) i hi, fun e => ?_, t.1, fun h => by rw [inL_up]; exact a.2.2.2 h, fun h => (headOk_iff hi).2 (t.2 h)⟩
    · rw [num_same, Bool.and_eq_true]; exact ⟨a.1, a.2.1⟩
    · have := hl (by omega)
      have e2 : p.length - 1 = i := by omega
      simpa [e2] using this
end

section
def enGo (p : List Lin) : Int → Nat → List Nat
  | _, 0 => []
  | d, k + 1 => if dep p k < d then k :: enGo p (dep p k) k else enGo p d k
/-- the lines in whose blocks a line is, the innermost one first -/
def encl (p : List Lin) (i : Nat) : List Nat := enGo p (dep p i) i
def enO (p : List Lin) : Option Nat → List Nat
  | none => []
  | some j => j :: encl p j
theorem enGo_succ (p : List Lin) (d : Int) (k : Nat) : enGo p d (k + 1) = if dep p k < d then k :: enGo p (dep p k) k else enGo p d k := rfl
theorem en_out (p : List Lin) (d : Int) : ∀ k, enGo p d k = enO p (oGo p d k)
  | 0 => rfl
  | k + 1 => by
    unfold enGo oGo
    split
    · rfl
    · exact en_out p d k
theorem encl_out (p : List Lin) (i : Nat) : encl p i = enO p (outs p i) := en_out p _ i
theorem enGo_lt (p : List Lin) : ∀ k d, ∀ x ∈ enGo p d k, x < k
  | 0, _, x, h => by simp [enGo] at h
  | k + 1, d, x, h => by
    unfold enGo at h
    split at h
    · rcases List.mem_cons.1 h with rfl | h
      · omega
      · have := enGo_lt p k _ x h; omega
    · have := enGo_lt p k _ x h; omega
theorem encl_lt {p : List Lin} {i : Nat} : ∀ x ∈ encl p i, x < i := enGo_lt p i _
theorem enGo_len (p : List Lin) : ∀ k d, (enGo p d k).length ≤ k
  | 0, _ => Nat.le_refl _
  | k + 1, d => by
    unfold enGo
    split
    · have := enGo_len p k (dep p k); simp; omega
    · have := enGo_len p k d; omega
theorem encl_len (p : List Lin) (i : Nat) : (encl p i).length ≤ i := enGo_len p i _

/-! the try of a line -/
theorem head_sib {p : List Lin} {y x : Nat} (h : Sib p y x) : headOf p x = (y : Int) := by
  rcases hGo_is p (dep p x) x with ⟨h1, hn⟩ | ⟨j, h1, hj, e, hb⟩
  · exact absurd ⟨y, h.1, h.2.2.1, h.2.2.2⟩ hn
  · have sj : Sib p j x := ⟨hj, h.2.1, e, hb⟩
    have := h.uniq sj
    rw [this]; exact h1
theorem pt_back (p : List Lin) : ∀ (m k x : Nat), x ∈ ptGo p (dep p k) m k → ∃ y, Sib p y x ∧ mayF (knd p y) (knd p x) = true ∧ (y = k ∨ y ∈ ptGo p (dep p k) m k)
  | 0, _, _, h => by cases h
  | m + 1, k, x, h => by
    unfold ptGo at h ⊢
    split at h
    · next c =>
      rw [if_pos c]
      have sb := sib_of c.1 c.2.1
      rcases List.mem_cons.1 h with rfl | h
      · exact ⟨k, sb, c.2.2, .inl rfl⟩
      · rw [sb.2.2.1] at h ⊢
        obtain ⟨y, h1, h2, h3⟩ := pt_back p m _ x h
        exact ⟨y, h1, h2, .inr (by rcases h3 with rfl | h3; exact List.mem_cons_self ..; exact List.mem_cons_of_mem _ h3)⟩
    · cases h
/-- j is the try of i -/
def IsTry (p : List Lin) (j i : Nat) : Prop := knd p j = 7 ∧ i ∈ parts p j
theorem mayF_fol {a k : Int} (h : mayF a k = true) : fol k = true := fol_iff.2 (by have := mayF_iff.1 h; omega)
theorem try_step {p : List Lin} {j x : Nat} (h : IsTry p j x) : (knd p x = 7 ∧ x = j) ∨ (fol (knd p x) = true ∧ ∃ y : Nat, headOf p x = (y : Int) ∧ y < x ∧ x < p.length ∧ IsTry p j y) := by
  rcases List.mem_cons.1 h.2 with rfl | h2
  · exact .inl ⟨h.1, rfl⟩
  · obtain ⟨y, h3, h4, h5⟩ := pt_back p _ _ _ h2
    refine .inr ⟨mayF_fol h4, y, head_sib h3, h3.1, h3.2.1, h.1, ?_⟩
    rcases h5 with rfl | h5
    · exact List.mem_cons_self ..
    · exact List.mem_cons_of_mem _ h5
theorem try_le {p : List Lin} {j : Nat} : ∀ m x, x ≤ m → IsTry p j x → j ≤ x
  | m, x, hm, h => by
    rcases try_step h with ⟨_, rfl⟩ | ⟨_, y, _, hy, _, ht⟩
    · exact Nat.le_refl _
    · cases m with
      | zero => omega
      | succ m => have := try_le m y (by omega) ht; omega
theorem try_uniq {p : List Lin} {j k : Nat} : ∀ m x, x ≤ m → IsTry p j x → IsTry p k x → j = k
  | m, x, hm, h, h2 => by
    rcases try_step h with ⟨h7, rfl⟩ | ⟨hf, y, hy, hyx, _, ht⟩
    · rcases try_step h2 with ⟨_, rfl⟩ | ⟨hf, _⟩
      · rfl
      · have := fol_iff.1 hf; omega
    · rcases try_step h2 with ⟨h7, rfl⟩ | ⟨_, z, hz, _, _, ht2⟩
      · have := fol_iff.1 hf; omega
      · have e : y = z := by omega
        subst e
        cases m with
        | zero => omega
        | succ m => exact try_uniq m y (by omega) ht ht2
/-- the program looks for the try of a line from that on down -/
def tyGo (p : List Lin) (i : Nat) : Nat → Option Nat
  | 0 => none
  | j + 1 => if knd p j = 7 ∧ i ∈ parts p j then some j else tyGo p i j
def tryAt (p : List Lin) (i : Nat) : Option Nat := tyGo p i (i + 1)
theorem tyGo_is {p : List Lin} {i : Nat} : ∀ {k j : Nat}, tyGo p i k = some j → IsTry p j i ∧ j < k
  | 0, _, h => by cases h
  | k + 1, j, h => by
    unfold tyGo at h
    split at h
    · next c => injection h with h; subst h; exact ⟨c, by omega⟩
    · have := tyGo_is h; exact ⟨this.1, by omega⟩
theorem tyGo_none {p : List Lin} {i : Nat} : ∀ {k : Nat}, tyGo p i k = none → ∀ j, j < k → ¬ IsTry p j i
  | 0, _, j, h => by omega
  | k + 1, h, j, hj => by
    unfold tyGo at h
    split at h
    · cases h
    · next c =>
      by_cases e : j = k
      · rw [e]; exact c
      · exact tyGo_none h j (by omega)
theorem tryAt_is {p : List Lin} {i j : Nat} (h : tryAt p i = some j) : IsTry p j i := (tyGo_is h).1
theorem tryAt_of {p : List Lin} {i j : Nat} (h : IsTry p j i) : tryAt p i = some j := by
  cases e : tryAt p i with
  | none => exact absurd h (tyGo_none e j (by have := try_le i i (Nat.le_refl _) h; omega))
  | some k => rw [try_uniq i i (Nat.le_refl _) (tryAt_is e) h]
theorem tryAt_kind {p : List Lin} {i j : Nat} (h : tryAt p i = some j) : knd p i = 7 ∨ fol (knd p i) = true := by
  rcases try_step (tryAt_is h) with h | h
  · exact .inl h.1
  · exact .inr h.1
theorem tryAt_has {p : List Lin} (H : triesI p) {i : Nat} (hi : i < p.length) (hk : knd p i = 7 ∨ fol (knd p i) = true) : ∃ j, tryAt p i = some j := by
  rcases hk with h | h
  · exact ⟨i, tryAt_of ⟨h, List.mem_cons_self ..⟩⟩
  · obtain ⟨j, _, h7, hm⟩ := (H i hi).2 h
    exact ⟨j, tryAt_of ⟨h7, hm⟩⟩
theorem chain_parts {p : List Lin} (H : triesI p) {i : Nat} (hi : i < p.length) : chain p i = parts p i := by
  unfold chain parts; rw [full_of p H p.length i hi]
end
end

section
theorem bGo_step (p : List Lin) (d : Int) {k : Nat} (h : k < p.length) : bGo p d (p.length - k) k = if d < dep p k then bGo p d (p.length - (k + 1)) (k + 1) else k := by
  obtain ⟨m, hm⟩ : ∃ m, p.length - k = m + 1 := ⟨p.length - k - 1, by omega⟩
  rw [hm, show p.length - (k + 1) = m by omega]
  rfl
theorem bGo_end (p : List Lin) (d : Int) {k : Nat} (h : ¬ k < p.length) : bGo p d (p.length - k) k = k := by
  rw [show p.length - k = 0 by omega]; rfl
set_option maxHeartbeats 1000000 in
theorem sBlockEnd_any (A : Option Addr) (n cap : Nat) (p : List Lin) (i : Nat) (hi : i < p.length) (w : World) (hR : Sl w A n cap p) :
    Calls Tryz.prog 89 #[.slice A n cap, .int .i64 i] w fun e w' => e = .returned (.int .i64 (bEnd p i)) ∧ Le w w' := by
  obtain rfl := hR.len
  have hm := hR.n_le
  have H0 : Hid (bEnd p i = bGo p (dep p i) (p.length - (i + 1)) (i + 1)) := rfl
  obtain ⟨bi, oi, rfl, hbi, hi0, -⟩ := hR.lin_at hi
  have hwi : IntKind.i64.wrap ((i : Int) + 1) = (i : Int) + 1 := IntWalk.i64_in _ (by omega)
  have hix : (0 : Int) ≤ (i : Int) := by omega
  have hin : (i : Int) < (p.length : Int) := by omega
  go_enter Tryz.func89, Tryz.ntmps89
  go_wp2
  go_loopw [5] (fun kk wr => ∃ k : Nat, i < k ∧ k ≤ p.length ∧ kk = .int .i64 k ∧ bEnd p i = bGo p (dep p i) (p.length - k) k ∧ Le w wr) (fun kk _ => p.length - (intOf kk).toNat)
  case atStart => exact ⟨i + 1, by omega, by omega, by go_num, H0.out, Le.refl _⟩
  case round =>
    obtain ⟨k, hik, hk, rfl, he, hle⟩ := hrel
    have HE := Lib.hid he
    clear he H0
    have T := hR.le hle
    clear hR hi0
    obtain ⟨b3, off3, e3, hb3, c0, -⟩ := T.lin_at hi
    cases e3
    have F0 := cell_ext hb3 c0
    have hkx : (0 : Int) ≤ (k : Int) := by omega
    by_cases hlt : k < p.length
    · obtain ⟨b2, off2, e2, hb2, d0, -⟩ := T.lin_at hlt
      cases e2
      have E0 := cell_ext hb2 d0
      by_cases hd : p[i].depth < p[k].depth
      · have HE2 : Hid (bEnd p i = bGo p (dep p i) (p.length - (k + 1)) (k + 1)) := by
          show _ = _
          rw [HE.out, bGo_step p _ hlt, dep_at hi, dep_at hlt, if_pos hd]
        clear HE
        go_wp2_with fail
        refine wp_region_ext (by kernel_rfl) (by kernel_rfl) ?_
        repeat (go_big_quiet_step (fail))
        refine wpQuiet_nil ?_
        intro _ hw'
        obtain ⟨gg, rfl⟩ := hw'
        have hw1 := Le.ext wr gg
        generalize wr.ext gg = W2 at *
        go_wp2
        go_roundw
        case rel => exact ⟨k + 1, by omega, by omega, by go_num, HE2.out, hle.trans hw1⟩
        case measure => simp [intOf]; omega
      · have HE2 : Hid (bEnd p i = k) := by
          show _ = _
          rw [HE.out, bGo_step p _ hlt, dep_at hi, dep_at hlt, if_neg hd]
        clear HE
        go_wp2_with fail
        refine wp_region_ext (by kernel_rfl) (by kernel_rfl) ?_
        repeat (go_big_quiet_step (fail))
        refine wpQuiet_nil ?_
        intro _ hw'
        obtain ⟨gg, rfl⟩ := hw'
        have hw1 := Le.ext wr gg
        generalize wr.ext gg = W2 at *
        go_wp2
        go_ret
        exact ⟨congrArg (fun z : Nat => Ending.returned (.int .i64 (z : Int))) HE2.out.symm, hle.trans hw1⟩
    · have HE2 : Hid (bEnd p i = k) := by
        show _ = _
        rw [HE.out, bGo_end p _ hlt]
      clear HE
      go_wp2_with fail
      refine wp_region_ext (by kernel_rfl) (by kernel_rfl) ?_
      repeat (go_big_quiet_step (fail))
      refine wpQuiet_nil ?_
      intro _ hw'
      obtain ⟨gg, rfl⟩ := hw'
      have hw1 := Le.ext wr gg
      generalize wr.ext gg = W2 at *
      go_wp2
      go_ret
      exact ⟨congrArg (fun z : Nat => Ending.returned (.int .i64 (z : Int))) HE2.out.symm, hle.trans hw1⟩
set_option maxHeartbeats 1000000 in
theorem iBlockEnd_any (A : Option Addr) (n cap : Nat) (p : List Lin) (i : Nat) (hi : i < p.length) (w : World) (hR : Sl w A n cap p) :
    Calls Tryz.prog 49 #[.slice A n cap, .int .i64 i] w fun e w' => e = .returned (.int .i64 (bEnd p i)) ∧ Le w w' := by
  obtain rfl := hR.len
  have hm := hR.n_le
  have H0 : Hid (bEnd p i = bGo p (dep p i) (p.length - (i + 1)) (i + 1)) := rfl
  obtain ⟨bi, oi, rfl, hbi, hi0, -⟩ := hR.lin_at hi
  have hwi : IntKind.i64.wrap ((i : Int) + 1) = (i : Int) + 1 := IntWalk.i64_in _ (by omega)
  have hix : (0 : Int) ≤ (i : Int) := by omega
  have hin : (i : Int) < (p.length : Int) := by omega
  go_enter Tryz.func49, Tryz.ntmps49
  go_wp2
  go_loopw [5] (fun kk wr => ∃ k : Nat, i < k ∧ k ≤ p.length ∧ kk = .int .i64 k ∧ bEnd p i = bGo p (dep p i) (p.length - k) k ∧ Le w wr) (fun kk _ => p.length - (intOf kk).toNat)
  case atStart => exact ⟨i + 1, by omega, by omega, by go_num, H0.out, Le.refl _⟩
  case round =>
    obtain ⟨k, hik, hk, rfl, he, hle⟩ := hrel
    have HE := Lib.hid he
    clear he H0
    have T := hR.le hle
    clear hR hi0
    obtain ⟨b3, off3, e3, hb3, c0, -⟩ := T.lin_at hi
    cases e3
    have F0 := cell_ext hb3 c0
    have hkx : (0 : Int) ≤ (k : Int) := by omega
    by_cases hlt : k < p.length
    · obtain ⟨b2, off2, e2, hb2, d0, -⟩ := T.lin_at hlt
      cases e2
      have E0 := cell_ext hb2 d0
      by_cases hd : p[i].depth < p[k].depth
      · have HE2 : Hid (bEnd p i = bGo p (dep p i) (p.length - (k + 1)) (k + 1)) := by
          show _ = _
          rw [HE.out, bGo_step p _ hlt, dep_at hi, dep_at hlt, if_pos hd]
        clear HE
        go_wp2_with fail
        refine wp_region_ext (by kernel_rfl) (by kernel_rfl) ?_
        repeat (go_big_quiet_step (fail))
        refine wpQuiet_nil ?_
        intro _ hw'
        obtain ⟨gg, rfl⟩ := hw'
        have hw1 := Le.ext wr gg
        generalize wr.ext gg = W2 at *
        go_wp2
        go_roundw
        case rel => exact ⟨k + 1, by omega, by omega, by go_num, HE2.out, hle.trans hw1⟩
        case measure => simp [intOf]; omega
      · have HE2 : Hid (bEnd p i = k) := by
          show _ = _
          rw [HE.out, bGo_step p _ hlt, dep_at hi, dep_at hlt, if_neg hd]
        clear HE
        go_wp2_with fail
        refine wp_region_ext (by kernel_rfl) (by kernel_rfl) ?_
        repeat (go_big_quiet_step (fail))
        refine wpQuiet_nil ?_
        intro _ hw'
        obtain ⟨gg, rfl⟩ := hw'
        have hw1 := Le.ext wr gg
        generalize wr.ext gg = W2 at *
        go_wp2
        go_ret
        exact ⟨congrArg (fun z : Nat => Ending.returned (.int .i64 (z : Int))) HE2.out.symm, hle.trans hw1⟩
    · have HE2 : Hid (bEnd p i = k) := by
        show _ = _
        rw [HE.out, bGo_end p _ hlt]
      clear HE
      go_wp2_with fail
      refine wp_region_ext (by kernel_rfl) (by kernel_rfl) ?_
      repeat (go_big_quiet_step (fail))
      refine wpQuiet_nil ?_
      intro _ hw'
      obtain ⟨gg, rfl⟩ := hw'
      have hw1 := Le.ext wr gg
      generalize wr.ext gg = W2 at *
      go_wp2
      go_ret
      exact ⟨congrArg (fun z : Nat => Ending.returned (.int .i64 (z : Int))) HE2.out.symm, hle.trans hw1⟩
end
end Go.Proofs.YtdbmolhdgmopoaaGreat
