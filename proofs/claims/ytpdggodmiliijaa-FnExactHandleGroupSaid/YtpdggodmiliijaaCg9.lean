/- one text of GpE, GpF, ItA, ItB -/
import Derived.Test.YtpdggodmiliijaaCg7
import Derived.Test.YtpdggodmiliijaaCg8
import Derived.Test.YtpdggodmiliijaaRows
import Derived.Test.YtpdggodmiliijaaCg3
import Derived.Test.YtpdggodmiliijaaCg1
import Derived.Test.YtpdggodmiliijaaCg6
import Derived.RangeFuncNested
import Derived.RangeFuncBound
import Derived.RangeFuncCalls
import Derived.RangeFuncLeaves
import Derived.RangeFuncBox
import Derived.Shelf.Abstract
import Derived.Shelf.RegionOpen
import Derived.WalkKit
import Derived.OwnWalkIn
import Derived.TacticsInMore
import Derived.LoopNIn
import Derived.LoopIn
namespace Go.Proofs.Ytpdggodmiliijaa
open Go.RowKit
set_option linter.unusedVariables false
section
/-- a row of trees: leaves, and groups of trees -/
inductive Fo where
  | nil : Fo
  | leaf (x : Lef) (r : Fo) : Fo
  | grp (c : Int) (k r : Fo) : Fo
/-- the parts of a row of trees at a depth -/
def flat : Int → Fo → List Prt
  | _, .nil => []
  | d, .leaf x r => ⟨d, false, x.cls, x.code⟩ :: flat d r
  | d, .grp c k r => ⟨d, true, 0, c⟩ :: (flat (d + 1) k ++ flat d r)
def bel (d : Int) (L : List Prt) : List Prt := L.takeWhile (fun p => decide (d < p.depth))
theorem flat_ge : ∀ (t : Fo) (d : Int), ∀ p ∈ flat d t, d ≤ p.depth
  | .nil, d, p, h => nomatch h
  | .leaf x r, d, p, h => by
    rcases List.mem_cons.1 h with rfl | h
    · exact Int.le_refl _
    · exact flat_ge r d p h
  | .grp c k r, d, p, h => by
    rcases List.mem_cons.1 h with rfl | h
    · exact Int.le_refl _
    · rcases List.mem_append.1 h with h | h
      · have := flat_ge k (d + 1) p h; omega
      · exact flat_ge r d p h
theorem flat_head {t : Fo} {d : Int} {L : List Prt} {p : Prt} (h : (flat d t ++ L).head? = some p) (hL : ∀ q, L.head? = some q → q.depth ≤ d) : p.depth ≤ d := by
  cases t with
  | nil => exact hL p h
  | leaf x r => simp [flat] at h; subst h; exact Int.le_refl _
  | grp c k r => simp [flat] at h; subst h; exact Int.le_refl _
theorem bel_stop {d : Int} {L : List Prt} (h : ∀ q, L.head? = some q → q.depth ≤ d) : bel d L = [] := by
  cases L with
  | nil => rfl
  | cons q r =>
    have := h q rfl
    unfold bel
    rw [List.takeWhile_cons, if_neg (by simp; omega)]
theorem bel_flat (d : Int) (k : Fo) (L : List Prt) : bel d (flat (d + 1) k ++ L) = flat (d + 1) k ++ bel d L := by
  unfold bel
  exact List.takeWhile_append_of_pos (fun p hp => by have := flat_ge k (d + 1) p hp; simp; omega)
theorem bel_take (d : Int) (L : List Prt) : bel d L = L.take (bel d L).length := List.prefix_iff_eq_take.1 (List.takeWhile_prefix _)
theorem bel_len (d : Int) (L : List Prt) : (bel d L).length ≤ L.length := (List.takeWhile_prefix _).length_le
theorem drop_gAt {g : List Prt} {k : Nat} (h : k < g.length) : g.drop k = gAt g k :: g.drop (k + 1) := by rw [gAt_at h]; exact List.drop_eq_getElem_cons h
theorem endFrom_bel (g : List Prt) (i : Nat) : ∀ m k, k + m = g.length → endFrom g i m k = k + (bel (gAt g i).depth (g.drop k)).length
  | 0, k, e => by
    rw [List.drop_eq_nil_of_le (by omega)]; rfl
  | m + 1, k, e => by
    have hk : k < g.length := by omega
    rw [drop_gAt hk]
    unfold endFrom bel
    rw [List.takeWhile_cons]
    by_cases h : (gAt g i).depth < (gAt g k).depth
    · rw [if_pos ⟨hk, h⟩, if_pos (by simpa using h), endFrom_bel g i m (k + 1) (by omega), List.length_cons]
      unfold bel; omega
    · rw [if_neg (fun x => h x.2), if_neg (by simpa using h)]; rfl
theorem endN_bel {g : List Prt} {i : Nat} (h : i < g.length) : endN g i = i + 1 + (bel (gAt g i).depth (g.drop (i + 1))).length := endFrom_bel g i _ _ (by omega)
def piece (g : List Prt) (i : Nat) : List Prt := (g.drop i).take (endN g i - i)
theorem piece_bel {g : List Prt} {i : Nat} (h : i < g.length) : piece g i = gAt g i :: bel (gAt g i).depth (g.drop (i + 1)) := by
  unfold piece
  rw [endN_bel h, drop_gAt h, show i + 1 + (bel (gAt g i).depth (g.drop (i + 1))).length - i = (bel (gAt g i).depth (g.drop (i + 1))).length + 1 by omega, List.take_succ_cons, ← bel_take]
def passP (t : Prt → Bool) (q : Prt) : Bool := !q.group && t q
theorem anyF_drop (t : Prt → Bool) (g : List Prt) : ∀ m k, k + m ≤ g.length → anyF (passAt t g) k m = ((g.drop k).take m).any (passP t)
  | 0, k, _ => by simp [anyF]
  | m + 1, k, h => by
    have hk : k < g.length := by omega
    rw [drop_gAt hk, List.take_succ_cons, List.any_cons, ← anyF_drop t g m (k + 1) (by omega)]
    rfl
theorem keepsAt_piece (t : Prt → Bool) {g : List Prt} {i : Nat} (h : i < g.length) : keepsAt t g i = (piece g i).any (passP t) := by
  have := endN_le h
  have := endN_gt g i
  unfold keepsAt piece
  exact anyF_drop t g _ _ (by omega)
/-- what is kept, by what lies behind -/
def selS (t : Prt → Bool) : List Prt → List Prt
  | [] => []
  | p :: r => cond ((p :: bel p.depth r).any (passP t)) [p] [] ++ selS t r
theorem selL_selS (t : Prt → Bool) (g : List Prt) : ∀ m k, k + m = g.length → selL (keepsAt t g) g k m = selS t (g.drop k)
  | 0, k, e => by rw [List.drop_eq_nil_of_le (by omega)]; rfl
  | m + 1, k, e => by
    have hk : k < g.length := by omega
    rw [drop_gAt hk, selL, selS, selL_selS t g m (k + 1) (by omega), keepsAt_piece t hk, piece_bel hk]
def tL (p : Lef → Bool) (q : Prt) : Bool := p ⟨q.cls, q.code⟩
def anyFo (p : Lef → Bool) : Fo → Bool
  | .nil => false
  | .leaf x r => p x || anyFo p r
  | .grp _ k r => anyFo p k || anyFo p r
/-- the trees with just the leaves that pass, and the groups that have one of them -/
def keepF (p : Lef → Bool) : Fo → Fo
  | .nil => .nil
  | .leaf x r => cond (p x) (.leaf x (keepF p r)) (keepF p r)
  | .grp c k r => cond (anyFo p k) (.grp c (keepF p k) (keepF p r)) (keepF p r)
theorem any_flat (p : Lef → Bool) : ∀ (t : Fo) (d : Int), (flat d t).any (passP (tL p)) = anyFo p t
  | .nil, d => rfl
  | .leaf x r, d => by
    rw [flat, List.any_cons, any_flat p r d]; rfl
  | .grp c k r, d => by
    rw [flat, List.any_cons, List.any_append, any_flat p k (d + 1), any_flat p r d]; rfl
theorem keepF_none {p : Lef → Bool} : ∀ {t : Fo}, anyFo p t = false → keepF p t = .nil
  | .nil, _ => rfl
  | .leaf x r, h => by
    rw [anyFo, Bool.or_eq_false_iff] at h
    rw [keepF, h.1, keepF_none h.2]; rfl
  | .grp c k r, h => by
    rw [anyFo, Bool.or_eq_false_iff] at h
    rw [keepF, h.1, keepF_none h.2]; rfl
theorem keepF_some {p : Lef → Bool} : ∀ {t : Fo}, anyFo p t = true → keepF p t ≠ .nil
  | .nil, h => nomatch h
  | .leaf x r, h => by
    rw [anyFo] at h
    rw [keepF]
    cases e : p x
    · rw [e, Bool.false_or] at h; exact keepF_some h
    · exact fun e => nomatch e
  | .grp c k r, h => by
    rw [anyFo] at h
    rw [keepF]
    cases e : anyFo p k
    · rw [e, Bool.false_or] at h; exact keepF_some h
    · exact fun e => nomatch e
theorem selS_flat (p : Lef → Bool) : ∀ (t : Fo) (d : Int) (L : List Prt), (∀ q, L.head? = some q → q.depth ≤ d) → selS (tL p) (flat d t ++ L) = flat d (keepF p t) ++ selS (tL p) L
  | .nil, d, L, _ => rfl
  | .leaf x r, d, L, hL => by
    have hb : bel d (flat d r ++ L) = [] := bel_stop (fun q hq => flat_head hq hL)
    rw [flat, List.cons_append, selS]
    show cond ((_ :: bel d _).any _) _ _ ++ _ = _
    rw [hb, selS_flat p r d L hL, keepF]
    simp only [List.any_cons, List.any_nil, Bool.or_false]
    show cond (p x) _ _ ++ _ = _
    cases p x <;> rfl
  | .grp c k r, d, L, hL => by
    have hh : ∀ q, (flat d r ++ L).head? = some q → q.depth ≤ d := fun q hq => flat_head hq hL
    have hb : bel d (flat (d + 1) k ++ (flat d r ++ L)) = flat (d + 1) k := by rw [bel_flat, bel_stop hh, List.append_nil]
    rw [flat, List.cons_append, List.append_assoc, selS]
    show cond ((_ :: bel d _).any _) _ _ ++ _ = _
    rw [hb, selS_flat p k (d + 1) (flat d r ++ L) (fun q hq => by have := hh q hq; omega), selS_flat p r d L hL, keepF, List.any_cons, any_flat p k (d + 1)]
    show cond (anyFo p k) _ _ ++ _ = _
    cases e : anyFo p k
    · rw [keepF_none e]; rfl
    · simp [flat]
/-- consecutive parts of a group -/
def Ch : List Prt → Prop
  | [] => True
  | [p] => p.group = false
  | p :: q :: r => (if p.group = true then q.depth = p.depth + 1 else q.depth ≤ p.depth) ∧ Ch (q :: r)
theorem Ch.tail {p : Prt} : ∀ {r : List Prt}, Ch (p :: r) → Ch r
  | [], _ => trivial
  | _ :: _, h => h.2
theorem Ch.right : ∀ {A B : List Prt}, Ch (A ++ B) → Ch B
  | [], _, h => h
  | _ :: A, _, h => Ch.right (A := A) h.tail
theorem Ch.left : ∀ {A : List Prt} {B : List Prt}, Ch (A ++ B) → (∀ q, B.head? = some q → ∀ a ∈ A, q.depth ≤ a.depth) → Ch A
  | [], _, _, _ => trivial
  | [a], [], h, _ => h
  | [a], q :: B, h, hq => by
    have h1 := h.1
    have h2 := hq q rfl a (List.mem_singleton.2 rfl)
    show a.group = false
    cases e : a.group
    · rfl
    · rw [e, if_pos rfl] at h1; omega
  | a :: b :: A, B, h, hq => ⟨h.1, Ch.left (A := b :: A) h.2 (fun q e x hx => hq q e x (List.mem_cons_of_mem _ hx))⟩
theorem to_forest : ∀ (n : Nat) (L : List Prt) (d : Int), L.length ≤ n → Ch L → (∀ p ∈ L, d ≤ p.depth) → (∀ p, L.head? = some p → p.depth = d) → (∀ p ∈ L, p.group = true → p.cls = 0) → ∃ t, L = flat d t
  | _, [], _, _, _, _, _, _ => ⟨.nil, rfl⟩
  | 0, _ :: _, _, h, _, _, _, _ => by simp at h
  | n + 1, p :: r, d, hn, hc, hd, hh, hg => by
    have hp : p.depth = d := hh p rfl
    have hcr := hc.tail
    have e : r = bel d r ++ r.dropWhile (fun q => decide (d < q.depth)) := (List.takeWhile_append_dropWhile ..).symm
    have hB : ∀ q, (r.dropWhile (fun q => decide (d < q.depth))).head? = some q → q.depth ≤ d := by
      intro q hq
      have := List.head?_dropWhile_not (fun q : Prt => decide (d < q.depth)) r
      rw [hq] at this
      simp at this; omega
    have hl : (bel d r).length + (r.dropWhile (fun q => decide (d < q.depth))).length = r.length := by rw [← List.length_append, ← e]
    have hrl : r.length ≤ n := by simp at hn; omega
    have hAm : ∀ q ∈ bel d r, q ∈ r ∧ d < q.depth := fun q hq => ⟨(List.takeWhile_prefix _).subset hq, by have := List.all_takeWhile (p := fun q : Prt => decide (d < q.depth)) (l := r); rw [List.all_eq_true] at this; simpa using this q hq⟩
    have hBm : ∀ q ∈ r.dropWhile (fun q => decide (d < q.depth)), q ∈ r := fun q hq => (List.dropWhile_suffix _).subset hq
    have hcB : Ch (r.dropWhile (fun q => decide (d < q.depth))) := Ch.right (A := bel d r) (by rw [← e]; exact hcr)
    have hcA : Ch (bel d r) := Ch.left (B := r.dropWhile (fun q => decide (d < q.depth))) (by rw [← e]; exact hcr) (fun q hq a ha => by have := hB q hq; have := (hAm a ha).2; omega)
    obtain ⟨tB, hB2⟩ := to_forest n (r.dropWhile (fun q => decide (d < q.depth))) d (by omega) hcB (fun q hq => hd q (List.mem_cons_of_mem _ (hBm q hq))) (fun q hq => by
      have h1 := hB q hq
      have h2 := hd q (List.mem_cons_of_mem _ (hBm q (List.mem_of_mem_head? hq)))
      omega) (fun q hq => hg q (List.mem_cons_of_mem _ (hBm q hq)))
    obtain ⟨pd, pg, pc, pk⟩ := p
    dsimp only at hp
    subst hp
    cases pg
    · have hA : bel pd r = [] := by
        cases r with
        | nil => rfl
        | cons q r2 =>
          have h1 := hc.1
          refine bel_stop (fun q' hq' => ?_)
          simp at hq'; subst hq'
          simpa using h1
      rw [hA, List.nil_append] at e
      exact ⟨.leaf ⟨pc, pk⟩ tB, by rw [flat, ← hB2, ← e]⟩
    · obtain ⟨tA, hA2⟩ := to_forest n (bel pd r) (pd + 1) (by omega) hcA (fun q hq => by have := (hAm q hq).2; omega) (fun q hq => by
        cases r with
        | nil => cases hq
        | cons q2 r2 =>
          have h1 := hc.1
          rw [if_pos rfl] at h1
          have h1 : q2.depth = pd + 1 := h1
          unfold bel at hq
          rw [List.takeWhile_cons, if_pos (by simp; omega)] at hq
          simp at hq; subst hq; exact h1) (fun q hq => hg q (List.mem_cons_of_mem _ (hAm q hq).1))
      have hz : pc = 0 := hg _ (List.mem_cons_self ..) rfl
      exact ⟨.grp pk tA tB, by rw [flat, ← hA2, ← hB2, ← e, hz]⟩
theorem good_ch {xs : List Cls} {g : List Prt} (G : GoodG xs g) : ∀ m k, k + m = g.length → Ch (g.drop k)
  | 0, k, e => by rw [List.drop_eq_nil_of_le (by omega)]; trivial
  | m + 1, k, e => by
    have hk : k < g.length := by omega
    have ih := good_ch G m (k + 1) (by omega)
    rw [drop_gAt hk]
    by_cases h : k + 1 < g.length
    · rw [drop_gAt h] at ih ⊢
      refine ⟨?_, ih⟩
      have hs := G.step (k + 1) (by omega) h
      rw [Nat.add_sub_cancel] at hs
      cases eg : (gAt g k).group
      · rw [eg] at hs; simpa using hs
      · have := (G.grp k hk eg).2.2
        rw [eg] at hs
        simp at hs ⊢
        omega
    · rw [List.drop_eq_nil_of_le (by omega)]
      have hl := last_leaf G
      have : k = g.length - 1 := by omega
      rw [← this] at hl
      exact hl
/-- what a valid row of trees keeps to -/
def okF (n : Int) : Fo → Prop
  | .nil => True
  | .leaf x r => 0 ≤ x.cls ∧ x.cls < n ∧ 0 ≤ x.code ∧ x.code ≤ 99 ∧ okF n r
  | .grp c k r => 0 ≤ c ∧ c ≤ 99 ∧ k ≠ .nil ∧ okF n k ∧ okF n r
def htF : Fo → Nat
  | .nil => 0
  | .leaf _ r => max 1 (htF r)
  | .grp _ k r => max (1 + htF k) (htF r)
def szF : Fo → Nat
  | .nil => 0
  | .leaf _ r => 1 + szF r
  | .grp _ k r => 1 + szF k + szF r
def rootsF : Fo → List Fo
  | .nil => []
  | .leaf x r => .leaf x .nil :: rootsF r
  | .grp c k r => .grp c k .nil :: rootsF r
theorem flatF_len : ∀ (t : Fo) (d : Int), (flat d t).length = szF t
  | .nil, d => rfl
  | .leaf x r, d => by rw [flat, List.length_cons, flatF_len r d, szF]; omega
  | .grp c k r, d => by rw [flat, List.length_cons, List.length_append, flatF_len k (d + 1), flatF_len r d, szF]; omega
theorem flat_lt : ∀ (t : Fo) (d : Int), ∀ p ∈ flat d t, p.depth < d + htF t
  | .nil, d, p, h => nomatch h
  | .leaf x r, d, p, h => by
    rw [htF]
    rcases List.mem_cons.1 h with rfl | h
    · show d < _; omega
    · have := flat_lt r d p h; omega
  | .grp c k r, d, p, h => by
    rw [htF]
    rcases List.mem_cons.1 h with rfl | h
    · show d < _; omega
    · rcases List.mem_append.1 h with h | h
      · have := flat_lt k (d + 1) p h; omega
      · have := flat_lt r d p h; omega
theorem flat_mem {n : Int} : ∀ (t : Fo) (d : Int), okF n t → ∀ p ∈ flat d t, 0 ≤ p.code ∧ p.code ≤ 99 ∧ (p.group = true → p.cls = 0) ∧ (p.group = false → 0 ≤ p.cls ∧ p.cls < n)
  | .nil, d, _, p, h => nomatch h
  | .leaf x r, d, ok, p, h => by
    obtain ⟨h1, h2, h3, h4, h5⟩ := ok
    rcases List.mem_cons.1 h with rfl | h
    · exact ⟨h3, h4, (fun e => nomatch e), fun _ => ⟨h1, h2⟩⟩
    · exact flat_mem r d h5 p h
  | .grp c k r, d, ok, p, h => by
    obtain ⟨h1, h2, h3, h4, h5⟩ := ok
    rcases List.mem_cons.1 h with rfl | h
    · exact ⟨h1, h2, fun _ => rfl, fun e => nomatch e⟩
    · rcases List.mem_append.1 h with h | h
      · exact flat_mem k (d + 1) h4 p h
      · exact flat_mem r d h5 p h
theorem Ch.cons {p : Prt} {L : List Prt} (h : Ch L) (h1 : L = [] → p.group = false) (h2 : ∀ q, L.head? = some q → if p.group = true then q.depth = p.depth + 1 else q.depth ≤ p.depth) : Ch (p :: L) := by
  cases L with
  | nil => exact h1 rfl
  | cons q r => exact ⟨h2 q rfl, h⟩
theorem flat_headeq {t : Fo} (h : t ≠ .nil) (d : Int) (L : List Prt) : ∃ p, (flat d t ++ L).head? = some p ∧ p.depth = d := by
  cases t with
  | nil => exact absurd rfl h
  | leaf x r => exact ⟨_, rfl, rfl⟩
  | grp c k r => exact ⟨_, rfl, rfl⟩
theorem flat_ch {n : Int} : ∀ (t : Fo) (d : Int) (L : List Prt), okF n t → Ch L → (∀ q, L.head? = some q → q.depth ≤ d) → Ch (flat d t ++ L)
  | .nil, d, L, _, hc, _ => hc
  | .leaf x r, d, L, ok, hc, hL => by
    refine Ch.cons (flat_ch r d L ok.2.2.2.2 hc hL) (fun _ => rfl) (fun q hq => ?_)
    rw [if_neg Bool.false_ne_true]
    exact flat_head hq hL
  | .grp c k r, d, L, ok, hc, hL => by
    rw [flat, List.cons_append, List.append_assoc]
    have hr := flat_ch r d L ok.2.2.2.2 hc hL
    have hk := flat_ch k (d + 1) (flat d r ++ L) ok.2.2.2.1 hr (fun q hq => by have := flat_head hq hL; omega)
    obtain ⟨p, hp, hd⟩ := flat_headeq ok.2.2.1 (d + 1) (flat d r ++ L)
    refine Ch.cons hk (fun e => by rw [e] at hp; cases hp) (fun q hq => ?_)
    rw [hp] at hq; injection hq with hq; subst hq
    rw [if_pos rfl]; exact hd
/-- a tree alone -/
inductive OneF : Fo → Prop
  | leaf (x : Lef) : OneF (.leaf x .nil)
  | grp (c : Int) (k : Fo) : OneF (.grp c k .nil)
/-- a group is a tree -/
structure GT (xs : List Cls) (t : Fo) : Prop where
  tree : okTree xs = true
  one : OneF t
  ok : okF xs.length t
  ht : htF t ≤ 6
  sz : szF t ≤ 16
theorem Ch.at_ : ∀ {L : List Prt} {i : Nat}, Ch L → i + 1 < L.length → if (gAt L i).group = true then (gAt L (i + 1)).depth = (gAt L i).depth + 1 else (gAt L (i + 1)).depth ≤ (gAt L i).depth
  | [], i, _, h => by simp at h
  | [p], i, _, h => by simp at h
  | p :: q :: r, 0, h, _ => h.1
  | p :: q :: r, i + 1, h, hi => Ch.at_ (L := q :: r) (i := i) h.2 (by simpa using hi)
theorem Ch.last : ∀ {L : List Prt} {i : Nat}, Ch L → i + 1 = L.length → (gAt L i).group = false
  | [], i, _, h => by simp at h
  | [p], 0, h, _ => h
  | [p], i + 1, h, e => by simp at e
  | p :: q :: r, 0, _, e => by simp at e
  | p :: q :: r, i + 1, h, hi => Ch.last (L := q :: r) (i := i) h.2 (by simpa using hi)
theorem one_tail {t : Fo} (h : OneF t) : ∀ p ∈ (flat 0 t).drop 1, 1 ≤ p.depth := by
  cases h with
  | leaf x => intro p hp; simp [flat] at hp
  | grp c k => intro p hp; simp [flat] at hp; exact flat_ge k _ p (by simpa using hp)
theorem GT.good {xs : List Cls} {t : Fo} (h : GT xs t) : GoodG xs (flat 0 t) := by
  have hl := flatF_len t 0
  have hc : Ch (flat 0 t) := by have := flat_ch t 0 [] h.ok trivial (fun q hq => by cases hq); rwa [List.append_nil] at this
  have hm := fun i (hi : i < (flat 0 t).length) => flat_mem t 0 h.ok (gAt (flat 0 t) i) (by rw [gAt_at hi]; exact List.getElem_mem hi)
  have h1 : 1 ≤ szF t := by cases h.one <;> simp [szF] <;> omega
  refine ⟨h.tree, ⟨by omega, by rw [hl]; exact h.sz⟩, ?_, ?_, ?_, ?_, ?_, ?_⟩
  · cases h.one <;> rfl
  · intro i hi hil
    have hmem : gAt (flat 0 t) i ∈ (flat 0 t).drop 1 := by
      rw [gAt_at hil]
      have : ((flat 0 t).drop 1)[i - 1]'(by rw [List.length_drop]; omega) = (flat 0 t)[i] := by rw [List.getElem_drop]; congr 1; omega
      rw [← this]; exact List.getElem_mem _
    have h2 := one_tail h.one _ hmem
    have h3 := flat_lt t 0 (gAt (flat 0 t) i) (List.mem_of_mem_drop hmem)
    have := h.ht
    omega
  · intro i hi hil
    have := hc.at_ (i := i - 1) (by omega)
    rw [show i - 1 + 1 = i by omega] at this
    cases e : (gAt (flat 0 t) (i - 1)).group
    · rw [e] at this; simpa using this
    · rw [e, if_pos rfl] at this; rw [if_pos rfl]; omega
  · intro i hi; exact ⟨(hm i hi).1, (hm i hi).2.1⟩
  · intro i hi hg
    by_cases h2 : i + 1 < (flat 0 t).length
    · have := hc.at_ h2
      rw [hg, if_pos rfl] at this
      exact ⟨(hm i hi).2.2.1 hg, h2, by omega⟩
    · have := hc.last (i := i) (by omega)
      rw [hg] at this; cases this
  · intro i hi hg; exact (hm i hi).2.2.2 hg
theorem okF_of {n : Int} : ∀ (t : Fo) (d : Int) (L : List Prt), Ch (flat d t ++ L) → (∀ q, L.head? = some q → q.depth ≤ d) → (∀ p ∈ flat d t, 0 ≤ p.code ∧ p.code ≤ 99 ∧ (p.group = false → 0 ≤ p.cls ∧ p.cls < n)) → okF n t
  | .nil, d, L, _, _, _ => trivial
  | .leaf x r, d, L, hc, hL, hm => by
    have h0 := hm _ (List.mem_cons_self ..)
    exact ⟨(h0.2.2 rfl).1, (h0.2.2 rfl).2, h0.1, h0.2.1, okF_of r d L (Ch.tail hc) hL (fun p hp => hm p (List.mem_cons_of_mem _ hp))⟩
  | .grp c k r, d, L, hc, hL, hm => by
    have h0 := hm _ (List.mem_cons_self ..)
    rw [flat, List.cons_append, List.append_assoc] at hc
    have hh : ∀ q, (flat d r ++ L).head? = some q → q.depth ≤ d := fun q hq => flat_head hq hL
    refine ⟨h0.1, h0.2.1, ?_, okF_of k (d + 1) (flat d r ++ L) (Ch.tail hc) (fun q hq => by have := hh q hq; omega) (fun p hp => hm p (List.mem_cons_of_mem _ (List.mem_append_left _ hp))), okF_of r d L (Ch.right (Ch.tail hc)) hL (fun p hp => hm p (List.mem_cons_of_mem _ (List.mem_append_right _ hp)))⟩
    rintro rfl
    rw [flat, List.nil_append] at hc
    cases e : flat d r ++ L with
    | nil => rw [e] at hc; exact absurd hc (by show ¬ (true = false); decide)
    | cons q B =>
      have h1 := hh q (by rw [e]; rfl)
      rw [e] at hc
      have h2 : q.depth = d + 1 := by have := hc.1; rwa [if_pos rfl] at this
      omega
theorem htF_of : ∀ (t : Fo) (d : Int) (m : Nat), (∀ p ∈ flat d t, p.depth < d + m) → htF t ≤ m
  | .nil, d, m, _ => Nat.zero_le _
  | .leaf x r, d, m, h => by
    have h0 := h _ (List.mem_cons_self ..)
    have h0 : d < d + m := h0
    have := htF_of r d m (fun p hp => h p (List.mem_cons_of_mem _ hp))
    rw [htF]; omega
  | .grp c k r, d, m, h => by
    have h0 := h _ (List.mem_cons_self ..)
    have h0 : d < d + m := h0
    have h1 := htF_of k (d + 1) (m - 1) (fun p hp => by have := h p (List.mem_cons_of_mem _ (List.mem_append_left _ hp)); omega)
    have h2 := htF_of r d m (fun p hp => h p (List.mem_cons_of_mem _ (List.mem_append_right _ hp)))
    rw [htF]; omega
/-- a valid group is a tree -/
theorem good_tree {xs : List Cls} {g : List Prt} (G : GoodG xs g) : ∃ t, g = flat 0 t ∧ GT xs t := by
  have hl := G.len
  have hmem : ∀ p ∈ g, ∃ i, i < g.length ∧ p = gAt g i := fun p hp => by
    obtain ⟨i, hi, e⟩ := List.getElem_of_mem hp
    exact ⟨i, hi, by rw [gAt_at hi, e]⟩
  have hc := good_ch G g.length 0 (by omega)
  rw [List.drop_zero] at hc
  have hd0 : ∀ p ∈ g, 0 ≤ p.depth ∧ p.depth < 0 + (6 : Nat) := fun p hp => by
    obtain ⟨i, hi, rfl⟩ := hmem p hp
    rcases Nat.eq_zero_or_pos i with rfl | h
    · rw [G.first]; omega
    · have := G.deep i h hi; omega
  have hh : g.head? = some (gAt g 0) := by
    have := drop_gAt (g := g) (k := 0) (by omega)
    rw [List.drop_zero] at this
    rw [this]; rfl
  obtain ⟨t, e⟩ := to_forest g.length g 0 (Nat.le_refl _) hc (fun p hp => (hd0 p hp).1) (fun p hp => by rw [hh] at hp; injection hp with hp; subst hp; exact G.first) (fun p hp hg => by
    obtain ⟨i, hi, rfl⟩ := hmem p hp
    exact (G.grp i hi hg).1)
  have hsz := flatF_len t 0
  refine ⟨t, e, G.tree, ?_, ?_, ?_, by rw [← hsz, ← e]; exact hl.2⟩
  · have hdeep : ∀ p ∈ g.drop 1, 1 ≤ p.depth := fun p hp => by
      obtain ⟨i, hi, e⟩ := List.getElem_of_mem hp
      rw [List.length_drop] at hi
      rw [List.getElem_drop] at e
      have := (G.deep (1 + i) (by omega) (by omega)).1
      rw [gAt_at (by omega), e] at this
      exact this
    have hroot : ∀ (r : Fo) (A : List Prt), (∀ p ∈ A ++ flat 0 r, 1 ≤ p.depth) → r = .nil := fun r A h => by
      cases r with
      | nil => rfl
      | leaf x r => have := h ⟨0, false, x.cls, x.code⟩ (List.mem_append_right _ (List.mem_cons_self ..)); exact absurd this (by show ¬ (1 : Int) ≤ 0; omega)
      | grp c k r => have := h ⟨0, true, 0, c⟩ (List.mem_append_right _ (List.mem_cons_self ..)); exact absurd this (by show ¬ (1 : Int) ≤ 0; omega)
    rw [e] at hdeep
    cases t with
    | nil => rw [e] at hl; simp [flat] at hl
    | leaf x r => obtain rfl := hroot r [] (by simpa [flat] using hdeep); exact .leaf x
    | grp c k r => obtain rfl := hroot r (flat (0 + 1) k) (by simpa only [flat, List.drop_one, List.tail_cons] using hdeep); exact .grp c k
  · refine okF_of t 0 [] (by rw [List.append_nil, ← e]; exact hc) (fun q hq => by cases hq) (fun p hp => ?_)
    rw [← e] at hp
    obtain ⟨i, hi, rfl⟩ := hmem p hp
    exact ⟨(G.code i hi).1, (G.code i hi).2, G.leaf i hi⟩
  · refine htF_of t 0 6 (fun p hp => ?_)
    rw [← e] at hp
    exact (hd0 p hp).2
theorem allF2_intro {f : Nat → Bool} : ∀ m k, (∀ i, k ≤ i → i < k + m → f i = true) → allF2 f k m = true
  | 0, _, _ => rfl
  | m + 1, k, h => by
    unfold allF2
    rw [h k (Nat.le_refl _) (by omega), allF2_intro m (k + 1) (fun i a b => h i (by omega) (by omega))]; rfl
theorem good_gOk {xs : List Cls} {g : List Prt} (G : GoodG xs g) : gOkS xs g = true := by
  rw [gOk_same]
  unfold gOkP
  have hl := G.len
  rw [G.tree, (rng_iff).2 ⟨by omega, by omega⟩, Bool.true_and, Bool.true_and]
  refine allF2_intro _ _ (fun i _ hi => ?_)
  rw [Nat.zero_add] at hi
  rw [Bool.and_eq_true]
  constructor
  · unfold depthP
    by_cases h0 : i = 0
    · subst h0; rw [if_pos rfl, G.first]; rfl
    · have h1 := G.deep i (by omega) hi
      have h2 := G.step i (by omega) hi
      rw [if_neg h0, rng_iff]
      omega
  · unfold partP
    have h1 := G.code i hi
    dsimp only
    rw [(rng_iff).2 h1, Bool.true_and]
    cases e : (gAt g i).group
    · have := G.leaf i hi e
      rw [cond_false, rng_iff]; omega
    · obtain ⟨a, b, c⟩ := G.grp i hi e
      unfold below
      rw [cond_true, decide_eq_true a, decide_eq_true b, decide_eq_true c]; rfl
theorem gOk_iff {xs : List Cls} {g : List Prt} : gOkS xs g = true ↔ ∃ t, g = flat 0 t ∧ GT xs t :=
  ⟨fun h => good_tree (goodG_of (by rw [← gOk_same]; exact h)), by rintro ⟨t, rfl, h⟩; exact good_gOk h.good⟩
theorem GT.gOk {xs : List Cls} {t : Fo} (h : GT xs t) : gOkS xs (flat 0 t) = true := good_gOk h.good
end

section
theorem okF_keep {n : Int} (p : Lef → Bool) : ∀ {t : Fo}, okF n t → okF n (keepF p t)
  | .nil, _ => trivial
  | .leaf x r, ⟨h1, h2, h3, h4, h5⟩ => by
    rw [keepF]
    cases p x
    · exact okF_keep p h5
    · exact ⟨h1, h2, h3, h4, okF_keep p h5⟩
  | .grp c k r, ⟨h1, h2, h3, h4, h5⟩ => by
    rw [keepF]
    cases e : anyFo p k
    · exact okF_keep p h5
    · exact ⟨h1, h2, keepF_some e, okF_keep p h4, okF_keep p h5⟩
theorem htF_keep (p : Lef → Bool) : ∀ t : Fo, htF (keepF p t) ≤ htF t
  | .nil => Nat.le_refl _
  | .leaf x r => by
    have := htF_keep p r
    rw [keepF]
    cases p x
    · show htF (keepF p r) ≤ htF (.leaf x r); rw [htF]; omega
    · show htF (.leaf x (keepF p r)) ≤ _; rw [htF, htF]; omega
  | .grp c k r => by
    have := htF_keep p k
    have := htF_keep p r
    rw [keepF]
    cases e : anyFo p k
    · show htF (keepF p r) ≤ htF (.grp c k r); rw [htF]; omega
    · show htF (.grp c (keepF p k) (keepF p r)) ≤ _; rw [htF, htF]; omega
theorem szF_keep (p : Lef → Bool) : ∀ t : Fo, szF (keepF p t) ≤ szF t
  | .nil => Nat.le_refl _
  | .leaf x r => by
    have := szF_keep p r
    rw [keepF]
    cases p x
    · show szF (keepF p r) ≤ szF (.leaf x r); rw [szF]; omega
    · show szF (.leaf x (keepF p r)) ≤ _; rw [szF, szF]; omega
  | .grp c k r => by
    have := szF_keep p k
    have := szF_keep p r
    rw [keepF]
    cases e : anyFo p k
    · show szF (keepF p r) ≤ szF (.grp c k r); rw [szF]; omega
    · show szF (.grp c (keepF p k) (keepF p r)) ≤ _; rw [szF, szF]; omega
theorem GT.keep {xs : List Cls} {t : Fo} (h : GT xs t) {p : Lef → Bool} (ha : anyFo p t = true) : GT xs (keepF p t) := by
  refine ⟨h.tree, ?_, okF_keep p h.ok, Nat.le_trans (htF_keep p t) h.ht, Nat.le_trans (szF_keep p t) h.sz⟩
  cases h.one with
  | leaf x =>
    have : p x = true := by simpa [anyFo] using ha
    rw [keepF, this]; exact .leaf x
  | grp c k =>
    have : anyFo p k = true := by simpa [anyFo] using ha
    rw [keepF, this]; exact .grp c _
/-- what is kept of a list of parts, nothing of nothing -/
def selG (p : Lef → Bool) (g : List Prt) : List Prt := selK (keepsAt (tL p) g) g g.length
theorem selG_flat (p : Lef → Bool) (t : Fo) : selG p (flat 0 t) = flat 0 (keepF p t) := by
  unfold selG selK
  rw [selL_selS _ _ _ 0 (by omega), List.drop_zero]
  have := selS_flat p t 0 [] (fun q hq => by cases hq)
  rw [List.append_nil] at this
  rw [this]
  show _ ++ [] = _
  rw [List.append_nil]
theorem selG_nil (p : Lef → Bool) : selG p [] = [] := rfl
/-- a valid group, or nothing -/
def GoodE (xs : List Cls) (g : List Prt) : Prop := g = [] ∨ GoodG xs g
theorem GoodE.tree {xs : List Cls} {g : List Prt} (h : GoodE xs g) : ∃ t, g = flat 0 t ∧ (t = .nil ∨ GT xs t) := by
  rcases h with rfl | h
  · exact ⟨.nil, rfl, .inl rfl⟩
  · obtain ⟨t, e, h⟩ := good_tree h
    exact ⟨t, e, .inr h⟩
theorem GoodE.of_tree {xs : List Cls} {t : Fo} (h : t = .nil ∨ GT xs t) : GoodE xs (flat 0 t) := by
  rcases h with rfl | h
  · exact .inl rfl
  · exact .inr h.good
theorem GoodE.sel {xs : List Cls} {g : List Prt} (h : GoodE xs g) (p : Lef → Bool) : GoodE xs (selG p g) := by
  obtain ⟨t, rfl, h0⟩ := h.tree
  rw [selG_flat]
  refine GoodE.of_tree ?_
  rcases h0 with rfl | h
  · exact .inl rfl
  · cases e : anyFo p t
    · exact .inl (keepF_none e)
    · exact .inr (h.keep e)
theorem GoodE.len {xs : List Cls} {g : List Prt} (h : GoodE xs g) : g.length ≤ 16 := by
  rcases h with rfl | h
  · exact Nat.zero_le _
  · exact h.len.2
theorem tS_tL (xs : List Cls) (a : Int) (wi : Bool) : tS xs a wi = tL (fun x => isAL xs x.cls a == wi) := rfl
/-- the parts of a group with leaves of a class, or with others -/
def selA (xs : List Cls) (g : List Prt) (a : Int) (wi : Bool) : List Prt := selG (fun x => isAL xs x.cls a == wi) g
theorem GoodE.selA {xs : List Cls} {g : List Prt} (h : GoodE xs g) (a : Int) (wi : Bool) : GoodE xs (selA xs g a wi) := h.sel _
/-- what several classes take of a group, one behind the other, and what is left -/
def hgT (xs : List Cls) : List Prt → List Int → List (List Prt)
  | _, [] => []
  | g, a :: r => selA xs g a true :: hgT xs (selA xs g a false) r
def hgR (xs : List Cls) : List Prt → List Int → List Prt
  | g, [] => g
  | g, a :: r => hgR xs (selA xs g a false) r
theorem hgR_snoc (xs : List Cls) : ∀ (L : List Int) (g : List Prt) (a : Int), hgR xs g (L ++ [a]) = selA xs (hgR xs g L) a false
  | [], _, _ => rfl
  | _ :: L, _, a => hgR_snoc xs L _ a
theorem hgT_snoc (xs : List Cls) : ∀ (L : List Int) (g : List Prt) (a : Int), hgT xs g (L ++ [a]) = hgT xs g L ++ [selA xs (hgR xs g L) a true]
  | [], _, _ => rfl
  | _ :: L, _, a => by
    rw [List.cons_append, hgT, hgT_snoc xs L _ a, hgT, List.cons_append]; rfl
theorem hgT_len (xs : List Cls) : ∀ (L : List Int) (g : List Prt), (hgT xs g L).length = L.length
  | [], _ => rfl
  | _ :: L, g => by rw [hgT, List.length_cons, hgT_len xs L]; rfl
theorem hgR_good {xs : List Cls} : ∀ (L : List Int) {g : List Prt}, GoodE xs g → GoodE xs (hgR xs g L)
  | [], _, h => h
  | _ :: L, _, h => hgR_good L (h.selA _ _)
theorem hgT_mem {xs : List Cls} : ∀ (L : List Int) {g : List Prt}, GoodE xs g → ∀ l ∈ hgT xs g L, GoodE xs l
  | [], _, _, l, hl => nomatch hl
  | _ :: L, _, h, l, hl => by
    rcases List.mem_cons.1 hl with rfl | hl
    · exact h.selA _ _
    · exact hgT_mem L (h.selA _ _) l hl
theorem tot_mem {α : Type} {c : Nat} : ∀ {L : List (List α)}, (∀ l ∈ L, l.length ≤ c) → tot L ≤ c * L.length
  | [], _ => Nat.zero_le _
  | l :: L, h => by
    have h1 := h l (List.mem_cons_self ..)
    have h2 := tot_mem (L := L) (fun y hy => h y (List.mem_cons_of_mem _ hy))
    unfold tot at h2 ⊢
    rw [List.map_cons, List.sum_cons, List.length_cons, Nat.mul_succ]
    omega
end

section
open Go.RowKit Go.Shelf
attribute [local go_sem] Oper.semAt_some
/-- a slice that lies below n₀ -/
structure SlB {α : Type} [Enc α] (n₀ : Nat) (w : World) (A : Option Addr) (n cap : Nat) (xs : List α) : Prop where
  sl : Sl w A n cap xs
  lo : 0 < n → ∀ a, A = some a → a.block < n₀
theorem Sl.belowN {α : Type} [Enc α] {n₀ : Nat} {w w' : World} {A : Option Addr} {n cap : Nat} {xs : List α} (h : Sl w A n cap xs) (hl : 0 < n → ∀ a, A = some a → a.block < n₀) (hB : Below n₀ w w') : Sl w' A n cap xs := by
  refine ⟨h.len, h.cap_, h.max, h.ok, fun hn => ?_⟩
  obtain ⟨b, off, e, hb, hc⟩ := h.at_ hn
  have hlt := hl hn _ e
  exact ⟨b, off, e, Nat.lt_of_lt_of_le hb hB.size, fun j u hu => (hB.cell (p := ⟨b, off + j, none⟩) hlt).trans (hc j u hu)⟩
theorem SlB.below {α : Type} [Enc α] {n₀ : Nat} {w w' : World} {A : Option Addr} {n cap : Nat} {xs : List α} (h : SlB n₀ w A n cap xs) (hB : Below n₀ w w') : SlB n₀ w' A n cap xs := ⟨h.sl.belowN h.lo hB, h.lo⟩
theorem leavesL_take {g : List Prt} {k : Nat} (h : k < g.length) : leavesL (g.take (k + 1)) = leavesL (g.take k) ++ if g[k].group = true then [] else [⟨g[k].cls, g[k].code⟩] := by
  unfold leavesL
  rw [List.take_succ_eq_append_getElem h, List.filter_append, List.map_append]
  cases e : g[k].group
  · rw [List.filter_cons_of_pos (by simp [e])]; rfl
  · rw [List.filter_cons_of_neg (by simp [e])]; rfl
theorem leavesL_len (g : List Prt) : (leavesL g).length ≤ g.length := by
  unfold leavesL
  rw [List.length_map]
  exact List.length_filter_le _ _
theorem leavesL_pre (g : List Prt) (k : Nat) : leavesL (g.take k) <+: leavesL g := by
  refine ⟨leavesL (g.drop k), ?_⟩
  unfold leavesL
  rw [← List.map_append, ← List.filter_append, List.take_append_drop]
abbrev encLef {P : Lef → Prop} (x : { x : Lef // P x }) : Array Value := #[.agg #[.int .i64 x.1.cls, .int .i64 x.1.code]]
set_option maxRecDepth 100000 in
set_option maxHeartbeats 4000000 in
theorem leaves1_in (F : Fence) (n : Nat) (hf : F.fn 86) (hro : F.round = none) (hn : 1 ≤ n) (l Bg n₀ : Nat) (A : Option Addr) (m cap : Nat) (g : List Prt) (P : Lef → Prop) (hP : ∀ x ∈ leavesL g, P x) (J Jx : List { x : Lef // P x } → World → Prop)
    (hY : ∀ pre x W, J pre W → pre.length < g.length → YieldAt F (n - 1) Try.prog l (encLef x) W fun e W' =>
      (e = .returned (.bool true) ∧ J (pre ++ [x]) W' ∧ Below n₀ W W') ∨ (e = .returned (.bool false) ∧ Jx (pre ++ [x]) W'))
    (W : World) (hn₀ : n₀ ≤ W.heap.size) (hJ : AbidesFrom W.heap.size J) (hBg : W.cell? ⟨Bg, 0, none⟩ = some (.slice A m cap)) (S : SlB n₀ W A m cap g) (h0 : J [] W) :
    CallsIn F n Try.prog 86 #[.func (.yield l) #[] #[], .pointer (some ⟨Bg, 0, none⟩)] W fun e W' => (∃ v, e = .returned v) ∧
      ((∃ ys, ys.map (·.1) = leavesL g ∧ J ys W') ∨ (∃ pre, pre.map (·.1) <+: leavesL g ∧ Jx pre W')) := by
  obtain rfl := S.sl.len
  have hmx := S.sl.n_le
  refine callsIn_of_wp Try.func86 rfl hf ?_ hro
  simp only [Try.ntmps86, List.size_toArray, List.length_cons, List.length_nil, Nat.reduceAdd, Nat.reduceSub, Array.replicate_succ, Array.replicate_zero, List.push_toArray, List.append_toArray, List.nil_append, List.cons_append]
  gi_wp2
  gi_loopw [7] (fun i wr => ∃ k : Nat, k ≤ g.length ∧ i = .int .i64 k ∧ (∃ ys : List { x : Lef // P x }, ys.map (·.1) = leavesL (g.take k) ∧ J ys wr) ∧ Below n₀ W wr ∧ W.heap.size ≤ wr.heap.size)
    (fun i _ => g.length - (intOf i).toNat)
  case atStart => exact ⟨0, Nat.zero_le _, rfl, ⟨[], rfl, h0⟩, Below.refl _ _, Nat.le_refl _⟩
  case round =>
    obtain ⟨k, hk, rfl, ⟨ys, hys, hJs⟩, hnx, hsz⟩ := hrel
    have HYS := Lib.hid hys
    clear hys
    by_cases hlt : k < g.length
    · obtain ⟨b, off, rfl, hb, c0, c1, c2, c3, -⟩ := (S.below hnx).sl.prt_at hlt
      have hJ' : J ys (wr.alloc (.cells #[.int .i64 g[k].depth, .bool g[k].group, .int .i64 g[k].cls, .int .i64 g[k].code] 70)) := hJ _ wr _ none hJs (World.grownBy_alloc wr _ none) (fun r e => by cases e)
      have hT := leavesL_take hlt
      have hlen : ys.length < g.length := by
        have h1 := congrArg List.length HYS.out
        rw [List.length_map] at h1
        rw [h1]; exact Nat.lt_of_le_of_lt (leavesL_len _) (by rw [List.length_take]; omega)
      cases e : g[k].group
      · rw [e] at c1 hJ'
        rw [e, if_neg (by decide)] at hT
        have hpre := leavesL_pre g (k + 1)
        rw [hT] at hpre
        have hPx : P ⟨g[k].cls, g[k].code⟩ := hP _ (hpre.subset (by simp))
        obtain ⟨fn, tmps, assign, body, hy, hR⟩ := hY ys ⟨⟨g[k].cls, g[k].code⟩, hPx⟩ _ hJ' hlen
        have HT := Lib.hid hT
        have HPR := Lib.hid hpre
        clear hT hpre
        gi_wp2
        refine hR.mono ?_
        rintro e3 W3 (⟨rfl, hJ3, hk3⟩ | ⟨rfl, hJx3⟩)
        · gi_wp2
          go_roundw
          case rel => exact ⟨k + 1, by omega, by simp, ⟨_, by rw [HT.out, List.map_append, HYS.out]; rfl, hJ3⟩, hnx.trans (((Below.refl n₀ wr).alloc (by omega) _).trans hk3), by have := hk3.size; simp at this; omega⟩
          case measure => simp [intOf]; omega
        · gi_wp2
          refine bodyPost_ret (results_none rfl _ _ _) rfl ?_
          exact ⟨⟨_, rfl⟩, .inr ⟨_, by rw [List.map_append, HYS.out]; exact HPR.out, hJx3⟩⟩
      · rw [e] at c1 hJ'
        rw [e, if_pos rfl, List.append_nil] at hT
        have HT := Lib.hid hT
        clear hT
        gi_wp2
        refine ⟨fun _ h => (by cases h), ?_⟩
        gi_wp2
        go_roundw
        case rel => exact ⟨k + 1, by omega, by simp, ⟨ys, by rw [HT.out]; exact HYS.out, hJ'⟩, hnx.trans ((Below.refl n₀ wr).alloc (by omega) _), by simp; omega⟩
        case measure => simp [intOf]; omega
    · obtain rfl : k = g.length := by omega
      gi_wp2
      go_end0
      exact ⟨⟨_, rfl⟩, .inl ⟨ys, by rw [HYS.out, List.take_length], hJs⟩⟩
end

section
theorem meth_nodeL (a : Addr) (w : World) : (method 253 86 (.pointer (some a)) "loop.example/faultcleanup/impl.catches").run Try.prog w = .ok (122, .pointer (some a)) w := by kernel_rfl
theorem nil_nodeL (a : Addr) (w : World) : (nilAhead 253 86 (.pointer (some a)) "loop.example/faultcleanup/impl.catches").run Try.prog w = .ok (some false) w := by kernel_rfl
set_option maxRecDepth 100000 in
set_option maxHeartbeats 2000000 in
theorem caughtLeaf1_any (By Bn : Nat) (A : Option Addr) (gs : List PB) (xs : List Cls) (g : Good xs) (j : Nat) (hj : j < gs.length) (c code : Int) (c0 : 0 ≤ c) (c1 : c < xs.length) (w : World) (hS : Sl w A xs.length xs.length gs) (hN : Nds w gs xs)
    (h1 : w.cell? ⟨By, 0, none⟩ = some (.iface 86 (.pointer (some ⟨gs[j].g, 0, none⟩)))) (h2 : w.cell? ⟨Bn, 0, none⟩ = some (.slice A xs.length xs.length)) (z1 : By < w.heap.size) (z2 : Bn < w.heap.size) :
    Calls Try.prog 90 #[.agg #[.int .i64 c, .int .i64 code], .pointer (some ⟨By, 0, none⟩), .pointer (some ⟨Bn, 0, none⟩)] w fun e w' => e = .returned (.bool (isAL xs c j)) ∧ Le w w' := by
  have HL := Lib.hid hN.len
  have hhi := g.hi
  obtain ⟨k, rfl⟩ : ∃ k : Nat, c = k := ⟨c.toNat, by omega⟩
  have hkg : k < gs.length := by have := HL.out; omega
  have hle : Le w (w.alloc (.cells #[.int .i64 (k : Int), .int .i64 code] 75)).drew := (Le.new w _).drew
  obtain ⟨b, off, rfl, hb, hcell⟩ := (hS.le hle).pb_at hkg
  have hNr := hN.le hle
  have d1 := (hle.cell z1).trans h1
  have d2 := (hle.cell z2).trans h2
  have d3 : (w.alloc (.cells #[.int .i64 (k : Int), .int .i64 code] 75)).drew.cell? ⟨w.heap.size, 0, none⟩ = some (.int .i64 (k : Int)) := by
    show (w.alloc _).cell? _ = _
    rw [World.cell?_alloc_at _ _ _ _ rfl]; rfl
  have hm := fun W => meth_nodeL ⟨gs[j].g, 0, none⟩ W
  have hna := fun W => nil_nodeL ⟨gs[j].g, 0, none⟩ W
  have hc := catches_any gs xs g j hj (k : Int) (by omega) (by omega) _ hNr
  rw [ptrOf_at hkg] at hc
  have HC := Lib.hid hc; clear hc
  have HLE := Lib.hid hle; clear hle
  go_enter Try.func90, Try.ntmps90
  go_wp2_with fail
  refine wp_region_noPanic ?_
  refine wp_region_Z (fun w' => w'.cell? ⟨By, 0, none⟩ = some (.iface 86 (.pointer (some ⟨gs[j].g, 0, none⟩))) ∧ w'.cell? ⟨Bn, 0, none⟩ = some (.slice (some ⟨b, off, none⟩) xs.length xs.length) ∧ w'.cell? ⟨w.heap.size, 0, none⟩ = some (.int .i64 (k : Int)) ∧ w'.cell? ⟨b, off + k, none⟩ = some (.pointer (some ⟨gs[k].g, 0, none⟩))) [] (by kernel_rfl) ?_
  generalize (w.alloc (.cells #[.int .i64 (k : Int), .int .i64 code] 75)).drew = V at *
  refine wpAnyZ_take (i := 0) (v := ?_) rfl (by kernel_rfl) (fun _ _ _ h => h) (Or.inl ⟨by rfl, ?_⟩) (⟨d1, d2, d3, hcell⟩) ?_
  rotate_left 1
  · (intro w hSw; (try dsimp only at hSw); go_simp; try with_reducible rfl)
  try simp only [Act.put, List.setIfInBounds_toArray, List.set_cons_zero, List.set_cons_succ]
  refine wpAnyZ_take (i := 1) (v := ?_) rfl (by kernel_rfl) (fun _ _ _ h => h) (Or.inl ⟨by rfl, ?_⟩) (⟨d1, d2, d3, hcell⟩) ?_
  rotate_left 1
  · (intro w hSw; (try dsimp only at hSw); go_simp; try with_reducible rfl)
  try simp only [Act.put, List.setIfInBounds_toArray, List.set_cons_zero, List.set_cons_succ]
  refine wpAnyZ_take (i := 2) (v := ?_) rfl (by kernel_rfl) (fun _ _ _ h => h) (Or.inl ⟨by rfl, ?_⟩) (⟨d1, d2, d3, hcell⟩) ?_
  rotate_left 1
  · (intro w hSw; (try dsimp only at hSw); go_simp; try with_reducible rfl)
  try simp only [Act.put, List.setIfInBounds_toArray, List.set_cons_zero, List.set_cons_succ]
  refine wpAnyZ_take (i := 3) (v := ?_) rfl (by kernel_rfl) (fun _ _ _ h => h) (Or.inl ⟨by rfl, ?_⟩) (⟨d1, d2, d3, hcell⟩) ?_
  rotate_left 1
  · (intro w hSw; (try dsimp only at hSw); go_simp; try with_reducible rfl)
  try simp only [Act.put, List.setIfInBounds_toArray, List.set_cons_zero, List.set_cons_succ]
  refine wpAnyZ_take (i := 4) (v := ?_) rfl (by kernel_rfl) (fun _ _ _ h => h) (Or.inl ⟨by rfl, ?_⟩) (⟨d1, d2, d3, hcell⟩) ?_
  rotate_left 1
  · (intro w hSw; (try dsimp only at hSw); go_simp; try with_reducible rfl)
  try simp only [Act.put, List.setIfInBounds_toArray, List.set_cons_zero, List.set_cons_succ]
  refine wpAnyZ_take (i := 5) (v := ?_) rfl (by kernel_rfl) (fun _ _ _ h => h) (Or.inl ⟨by rfl, ?_⟩) (⟨d1, d2, d3, hcell⟩) ?_
  rotate_left 1
  · (intro w hSw; (try dsimp only at hSw); go_simp; try with_reducible rfl)
  try simp only [Act.put, List.setIfInBounds_toArray, List.set_cons_zero, List.set_cons_succ]
  refine wpAnyZ_take (i := 6) (v := ?_) rfl (by kernel_rfl) (fun _ _ _ h => h) (Or.inl ⟨by rfl, ?_⟩) (⟨d1, d2, d3, hcell⟩) ?_
  rotate_left 1
  · (intro w hSw; (try dsimp only at hSw); go_simp; try with_reducible rfl)
  try simp only [Act.put, List.setIfInBounds_toArray, List.set_cons_zero, List.set_cons_succ]
  refine wpAnyZ_take (i := 7) (v := ?_) rfl (by kernel_rfl) (fun _ _ _ h => h) (Or.inl ⟨by rfl, ?_⟩) (⟨d1, d2, d3, hcell⟩) ?_
  rotate_left 1
  · (intro w hSw; (try dsimp only at hSw); go_simp; try with_reducible rfl)
  try simp only [Act.put, List.setIfInBounds_toArray, List.set_cons_zero, List.set_cons_succ]
  refine wpAnyZ_take (i := 8) (v := ?_) rfl (by kernel_rfl) (fun _ _ _ h => h) (Or.inl ⟨by rfl, ?_⟩) (⟨d1, d2, d3, hcell⟩) ?_
  rotate_left 1
  · (intro w hSw; (try dsimp only at hSw); go_simp; try with_reducible rfl)
  try simp only [Act.put, List.setIfInBounds_toArray, List.set_cons_zero, List.set_cons_succ]
  refine wpAnyZ_one (i := 9) (by kernel_rfl) (ReadyZ.mk rfl (fun K hK => ?_))
  go_simp
  refine HC.out.mono ?_
  rintro e w3 ⟨rfl, rfl⟩
  refine hK.out _ _ (fun _ => ⟨d1, d2, d3, hcell⟩) ?_
  clear hK K
  try simp only [Act.put, List.setIfInBounds_toArray, List.set_cons_zero, List.set_cons_succ]
  refine wpAnyZ_take (i := 10) (v := ?_) rfl (by kernel_rfl) (fun _ _ _ h => h) (Or.inl ⟨by rfl, ?_⟩) (⟨d1, d2, d3, hcell⟩) ?_
  rotate_left 1
  · (intro w hSw; (try dsimp only at hSw); go_simp; try with_reducible rfl)
  try simp only [Act.put, List.setIfInBounds_toArray, List.set_cons_zero, List.set_cons_succ]
  refine wpAnyZ_done (by kernel_rfl) ?_ _
  refine NoPanic.normal ?_
  go_wp2
  go_ret
  exact ⟨rfl, HLE.out⟩
end
end Go.Proofs.Ytpdggodmiliijaa
