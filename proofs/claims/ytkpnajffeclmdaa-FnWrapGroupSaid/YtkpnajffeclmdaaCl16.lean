/- one text of GpE -/
import Derived.Test.YtkpnajffeclmdaaCl10
namespace Go.Proofs.Ytkpnajffeclmdaa
open Go.RowKit
set_option linter.unusedVariables false
section
/-- a row of trees: leaves, and groups of trees -/
inductive Fo where
  | nil : Fo
  | leaf (x : Lef) (r : Fo) : Fo
  | grp (c : Int) (k r : Fo) : Fo
/-- the parts of a row of trees at a depth -/
def flat : Int → Fo → List Prt
  | _, .nil => []
  | d, .leaf x r => ⟨d, false, x.cls, x.code⟩ :: flat d r
  | d, .grp c k r => ⟨d, true, 0, c⟩ :: (flat (d + 1) k ++ flat d r)
def bel (d : Int) (L : List Prt) : List Prt := L.takeWhile (fun p => decide (d < p.depth))
theorem flat_ge : ∀ (t : Fo) (d : Int), ∀ p ∈ flat d t, d ≤ p.depth
  | .nil, d, p, h => nomatch h
  | .leaf x r, d, p, h => by
    rcases List.mem_cons.1 h with rfl | h
    · exact Int.le_refl _
    · exact flat_ge r d p h
  | .grp c k r, d, p, h => by
    rcases List.mem_cons.1 h with rfl | h
    · exact Int.le_refl _
    · rcases List.mem_append.1 h with h | h
      · have := flat_ge k (d + 1) p h; omega
      · exact flat_ge r d p h
theorem flat_head {t : Fo} {d : Int} {L : List Prt} {p : Prt} (h : (flat d t ++ L).head? = some p) (hL : ∀ q, L.head? = some q → q.depth ≤ d) : p.depth ≤ d := by
  cases t with
  | nil => exact hL p h
  | leaf x r => simp [flat] at h; subst h; exact Int.le_refl _
  | grp c k r => simp [flat] at h; subst h; exact Int.le_refl _
theorem bel_stop {d : Int} {L : List Prt} (h : ∀ q, L.head? = some q → q.depth ≤ d) : bel d L = [] := by
  cases L with
  | nil => rfl
  | cons q r =>
    have := h q rfl
    unfold bel
    rw [List.takeWhile_cons, if_neg (by simp; omega)]
theorem bel_flat (d : Int) (k : Fo) (L : List Prt) : bel d (flat (d + 1) k ++ L) = flat (d + 1) k ++ bel d L := by
  unfold bel
  exact List.takeWhile_append_of_pos (fun p hp => by have := flat_ge k (d + 1) p hp; simp; omega)
theorem bel_take (d : Int) (L : List Prt) : bel d L = L.take (bel d L).length := List.prefix_iff_eq_take.1 (List.takeWhile_prefix _)
theorem bel_len (d : Int) (L : List Prt) : (bel d L).length ≤ L.length := (List.takeWhile_prefix _).length_le
theorem drop_gAt {g : List Prt} {k : Nat} (h : k < g.length) : g.drop k = gAt g k :: g.drop (k + 1) := by rw [gAt_at h]; exact List.drop_eq_getElem_cons h
theorem endFrom_bel (g : List Prt) (i : Nat) : ∀ m k, k + m = g.length → endFrom g i m k = k + (bel (gAt g i).depth (g.drop k)).length
  | 0, k, e => by
    rw [List.drop_eq_nil_of_le (by omega)]; rfl
  | m + 1, k, e => by
    have hk : k < g.length := by omega
    rw [drop_gAt hk]
    unfold endFrom bel
    rw [List.takeWhile_cons]
    by_cases h : (gAt g i).depth < (gAt g k).depth
    · rw [if_pos ⟨hk, h⟩, if_pos (by simpa using h), endFrom_bel g i m (k + 1) (by omega), List.length_cons]
      unfold bel; omega
    · rw [if_neg (fun x => h x.2), if_neg (by simpa using h)]; rfl
theorem endN_bel {g : List Prt} {i : Nat} (h : i < g.length) : endN g i = i + 1 + (bel (gAt g i).depth (g.drop (i + 1))).length := endFrom_bel g i _ _ (by omega)
def piece (g : List Prt) (i : Nat) : List Prt := (g.drop i).take (endN g i - i)
theorem piece_bel {g : List Prt} {i : Nat} (h : i < g.length) : piece g i = gAt g i :: bel (gAt g i).depth (g.drop (i + 1)) := by
  unfold piece
  rw [endN_bel h, drop_gAt h, show i + 1 + (bel (gAt g i).depth (g.drop (i + 1))).length - i = (bel (gAt g i).depth (g.drop (i + 1))).length + 1 by omega, List.take_succ_cons, ← bel_take]
def passP (t : Prt → Bool) (q : Prt) : Bool := !q.group && t q
theorem anyF_drop (t : Prt → Bool) (g : List Prt) : ∀ m k, k + m ≤ g.length → anyF (passAt t g) k m = ((g.drop k).take m).any (passP t)
  | 0, k, _ => by simp [anyF]
  | m + 1, k, h => by
    have hk : k < g.length := by omega
    rw [drop_gAt hk, List.take_succ_cons, List.any_cons, ← anyF_drop t g m (k + 1) (by omega)]
    rfl
theorem keepsAt_piece (t : Prt → Bool) {g : List Prt} {i : Nat} (h : i < g.length) : keepsAt t g i = (piece g i).any (passP t) := by
  have := endN_le h
  have := endN_gt g i
  unfold keepsAt piece
  exact anyF_drop t g _ _ (by omega)
/-- what is kept, by what lies behind -/
def selS (t : Prt → Bool) : List Prt → List Prt
  | [] => []
  | p :: r => cond ((p :: bel p.depth r).any (passP t)) [p] [] ++ selS t r
theorem selL_selS (t : Prt → Bool) (g : List Prt) : ∀ m k, k + m = g.length → selL (keepsAt t g) g k m = selS t (g.drop k)
  | 0, k, e => by rw [List.drop_eq_nil_of_le (by omega)]; rfl
  | m + 1, k, e => by
    have hk : k < g.length := by omega
    rw [drop_gAt hk, selL, selS, selL_selS t g m (k + 1) (by omega), keepsAt_piece t hk, piece_bel hk]
def tL (p : Lef → Bool) (q : Prt) : Bool := p ⟨q.cls, q.code⟩
def anyFo (p : Lef → Bool) : Fo → Bool
  | .nil => false
  | .leaf x r => p x || anyFo p r
  | .grp _ k r => anyFo p k || anyFo p r
/-- the trees with just the leaves that pass, and the groups that have one of them -/
def keepF (p : Lef → Bool) : Fo → Fo
  | .nil => .nil
  | .leaf x r => cond (p x) (.leaf x (keepF p r)) (keepF p r)
  | .grp c k r => cond (anyFo p k) (.grp c (keepF p k) (keepF p r)) (keepF p r)
theorem any_flat (p : Lef → Bool) : ∀ (t : Fo) (d : Int), (flat d t).any (passP (tL p)) = anyFo p t
  | .nil, d => rfl
  | .leaf x r, d => by
    rw [flat, List.any_cons, any_flat p r d]; rfl
  | .grp c k r, d => by
    rw [flat, List.any_cons, List.any_append, any_flat p k (d + 1), any_flat p r d]; rfl
theorem keepF_none {p : Lef → Bool} : ∀ {t : Fo}, anyFo p t = false → keepF p t = .nil
  | .nil, _ => rfl
  | .leaf x r, h => by
    rw [anyFo, Bool.or_eq_false_iff] at h
    rw [keepF, h.1, keepF_none h.2]; rfl
  | .grp c k r, h => by
    rw [anyFo, Bool.or_eq_false_iff] at h
    rw [keepF, h.1, keepF_none h.2]; rfl
theorem keepF_some {p : Lef → Bool} : ∀ {t : Fo}, anyFo p t = true → keepF p t ≠ .nil
  | .nil, h => nomatch h
  | .leaf x r, h => by
    rw [anyFo] at h
    rw [keepF]
    cases e : p x
    · rw [e, Bool.false_or] at h; exact keepF_some h
    · exact fun e => nomatch e
  | .grp c k r, h => by
    rw [anyFo] at h
    rw [keepF]
    cases e : anyFo p k
    · rw [e, Bool.false_or] at h; exact keepF_some h
    · exact fun e => nomatch e
theorem selS_flat (p : Lef → Bool) : ∀ (t : Fo) (d : Int) (L : List Prt), (∀ q, L.head? = some q → q.depth ≤ d) → selS (tL p) (flat d t ++ L) = flat d (keepF p t) ++ selS (tL p) L
  | .nil, d, L, _ => rfl
  | .leaf x r, d, L, hL => by
    have hb : bel d (flat d r ++ L) = [] := bel_stop (fun q hq => flat_head hq hL)
    rw [flat, List.cons_append, selS]
    show cond ((_ :: bel d _).any _) _ _ ++ _ = _
    rw [hb, selS_flat p r d L hL, keepF]
    simp only [List.any_cons, List.any_nil, Bool.or_false]
    show cond (p x) _ _ ++ _ = _
    cases p x <;> rfl
  | .grp c k r, d, L, hL => by
    have hh : ∀ q, (flat d r ++ L).head? = some q → q.depth ≤ d := fun q hq => flat_head hq hL
    have hb : bel d (flat (d + 1) k ++ (flat d r ++ L)) = flat (d + 1) k := by rw [bel_flat, bel_stop hh, List.append_nil]
    rw [flat, List.cons_append, List.append_assoc, selS]
    show cond ((_ :: bel d _).any _) _ _ ++ _ = _
    rw [hb, selS_flat p k (d + 1) (flat d r ++ L) (fun q hq => by have := hh q hq; omega), selS_flat p r d L hL, keepF, List.any_cons, any_flat p k (d + 1)]
    show cond (anyFo p k) _ _ ++ _ = _
    cases e : anyFo p k
    · rw [keepF_none e]; rfl
    · simp [flat]
/-- consecutive parts of a group -/
def Ch : List Prt → Prop
  | [] => True
  | [p] => p.group = false
  | p :: q :: r => (if p.group = true then q.depth = p.depth + 1 else q.depth ≤ p.depth) ∧ Ch (q :: r)
theorem Ch.tail {p : Prt} : ∀ {r : List Prt}, Ch (p :: r) → Ch r
  | [], _ => trivial
  | _ :: _, h => h.2
theorem Ch.right : ∀ {A B : List Prt}, Ch (A ++ B) → Ch B
  | [], _, h => h
  | _ :: A, _, h => Ch.right (A := A) h.tail
theorem Ch.left : ∀ {A : List Prt} {B : List Prt}, Ch (A ++ B) → (∀ q, B.head? = some q → ∀ a ∈ A, q.depth ≤ a.depth) → Ch A
  | [], _, _, _ => trivial
  | [a], [], h, _ => h
  | [a], q :: B, h, hq => by
    have h1 := h.1
    have h2 := hq q rfl a (List.mem_singleton.2 rfl)
    show a.group = false
    cases e : a.group
    · rfl
    · rw [e, if_pos rfl] at h1; omega
  | a :: b :: A, B, h, hq => ⟨h.1, Ch.left (A := b :: A) h.2 (fun q e x hx => hq q e x (List.mem_cons_of_mem _ hx))⟩
theorem to_forest : ∀ (n : Nat) (L : List Prt) (d : Int), L.length ≤ n → Ch L → (∀ p ∈ L, d ≤ p.depth) → (∀ p, L.head? = some p → p.depth = d) → (∀ p ∈ L, p.group = true → p.cls = 0) → ∃ t, L = flat d t
  | _, [], _, _, _, _, _, _ => ⟨.nil, rfl⟩
  | 0, _ :: _, _, h, _, _, _, _ => by simp at h
  | n + 1, p :: r, d, hn, hc, hd, hh, hg => by
    have hp : p.depth = d := hh p rfl
    have hcr := hc.tail
    have e : r = bel d r ++ r.dropWhile (fun q => decide (d < q.depth)) := (List.takeWhile_append_dropWhile ..).symm
    have hB : ∀ q, (r.dropWhile (fun q => decide (d < q.depth))).head? = some q → q.depth ≤ d := by
      intro q hq
      have := List.head?_dropWhile_not (fun q : Prt => decide (d < q.depth)) r
      rw [hq] at this
      simp at this; omega
    have hl : (bel d r).length + (r.dropWhile (fun q => decide (d < q.depth))).length = r.length := by rw [← List.length_append, ← e]
    have hrl : r.length ≤ n := by simp at hn; omega
    have hAm : ∀ q ∈ bel d r, q ∈ r ∧ d < q.depth := fun q hq => ⟨(List.takeWhile_prefix _).subset hq, by have := List.all_takeWhile (p := fun q : Prt => decide (d < q.depth)) (l := r); rw [List.all_eq_true] at this; simpa using this q hq⟩
    have hBm : ∀ q ∈ r.dropWhile (fun q => decide (d < q.depth)), q ∈ r := fun q hq => (List.dropWhile_suffix _).subset hq
    have hcB : Ch (r.dropWhile (fun q => decide (d < q.depth))) := Ch.right (A := bel d r) (by rw [← e]; exact hcr)
    have hcA : Ch (bel d r) := Ch.left (B := r.dropWhile (fun q => decide (d < q.depth))) (by rw [← e]; exact hcr) (fun q hq a ha => by have := hB q hq; have := (hAm a ha).2; omega)
    obtain ⟨tB, hB2⟩ := to_forest n (r.dropWhile (fun q => decide (d < q.depth))) d (by omega) hcB (fun q hq => hd q (List.mem_cons_of_mem _ (hBm q hq))) (fun q hq => by
      have h1 := hB q hq
      have h2 := hd q (List.mem_cons_of_mem _ (hBm q (List.mem_of_mem_head? hq)))
      omega) (fun q hq => hg q (List.mem_cons_of_mem _ (hBm q hq)))
    obtain ⟨pd, pg, pc, pk⟩ := p
    dsimp only at hp
    subst hp
    cases pg
    · have hA : bel pd r = [] := by
        cases r with
        | nil => rfl
        | cons q r2 =>
          have h1 := hc.1
          refine bel_stop (fun q' hq' => ?_)
          simp at hq'; subst hq'
          simpa using h1
      rw [hA, List.nil_append] at e
      exact ⟨.leaf ⟨pc, pk⟩ tB, by rw [flat, ← hB2, ← e]⟩
    · obtain ⟨tA, hA2⟩ := to_forest n (bel pd r) (pd + 1) (by omega) hcA (fun q hq => by have := (hAm q hq).2; omega) (fun q hq => by
        cases r with
        | nil => cases hq
        | cons q2 r2 =>
          have h1 := hc.1
          rw [if_pos rfl] at h1
          have h1 : q2.depth = pd + 1 := h1
          unfold bel at hq
          rw [List.takeWhile_cons, if_pos (by simp; omega)] at hq
          simp at hq; subst hq; exact h1) (fun q hq => hg q (List.mem_cons_of_mem _ (hAm q hq).1))
      have hz : pc = 0 := hg _ (List.mem_cons_self ..) rfl
      exact ⟨.grp pk tA tB, by rw [flat, ← hA2, ← hB2, ← e, hz]⟩
theorem good_ch {xs : List Cls} {g : List Prt} (G : GoodG xs g) : ∀ m k, k + m = g.length → Ch (g.drop k)
  | 0, k, e => by rw [List.drop_eq_nil_of_le (by omega)]; trivial
  | m + 1, k, e => by
    have hk : k < g.length := by omega
    have ih := good_ch G m (k + 1) (by omega)
    rw [drop_gAt hk]
    by_cases h : k + 1 < g.length
    · rw [drop_gAt h] at ih ⊢
      refine ⟨?_, ih⟩
      have hs := G.step (k + 1) (by omega) h
      rw [Nat.add_sub_cancel] at hs
      cases eg : (gAt g k).group
      · rw [eg] at hs; simpa using hs
      · have := (G.grp k hk eg).2.2
        rw [eg] at hs
        simp at hs ⊢
        omega
    · rw [List.drop_eq_nil_of_le (by omega)]
      have hl := last_leaf G
      have : k = g.length - 1 := by omega
      rw [← this] at hl
      exact hl
/-- what a valid row of trees keeps to -/
def okF (n : Int) : Fo → Prop
  | .nil => True
  | .leaf x r => 0 ≤ x.cls ∧ x.cls < n ∧ 0 ≤ x.code ∧ x.code ≤ 99 ∧ okF n r
  | .grp c k r => 0 ≤ c ∧ c ≤ 99 ∧ k ≠ .nil ∧ okF n k ∧ okF n r
def htF : Fo → Nat
  | .nil => 0
  | .leaf _ r => max 1 (htF r)
  | .grp _ k r => max (1 + htF k) (htF r)
def szF : Fo → Nat
  | .nil => 0
  | .leaf _ r => 1 + szF r
  | .grp _ k r => 1 + szF k + szF r
def rootsF : Fo → List Fo
  | .nil => []
  | .leaf x r => .leaf x .nil :: rootsF r
  | .grp c k r => .grp c k .nil :: rootsF r
theorem flatF_len : ∀ (t : Fo) (d : Int), (flat d t).length = szF t
  | .nil, d => rfl
  | .leaf x r, d => by rw [flat, List.length_cons, flatF_len r d, szF]; omega
  | .grp c k r, d => by rw [flat, List.length_cons, List.length_append, flatF_len k (d + 1), flatF_len r d, szF]; omega
theorem flat_lt : ∀ (t : Fo) (d : Int), ∀ p ∈ flat d t, p.depth < d + htF t
  | .nil, d, p, h => nomatch h
  | .leaf x r, d, p, h => by
    rw [htF]
    rcases List.mem_cons.1 h with rfl | h
    · show d < _; omega
    · have := flat_lt r d p h; omega
  | .grp c k r, d, p, h => by
    rw [htF]
    rcases List.mem_cons.1 h with rfl | h
    · show d < _; omega
    · rcases List.mem_append.1 h with h | h
      · have := flat_lt k (d + 1) p h; omega
      · have := flat_lt r d p h; omega
theorem flat_mem {n : Int} : ∀ (t : Fo) (d : Int), okF n t → ∀ p ∈ flat d t, 0 ≤ p.code ∧ p.code ≤ 99 ∧ (p.group = true → p.cls = 0) ∧ (p.group = false → 0 ≤ p.cls ∧ p.cls < n)
  | .nil, d, _, p, h => nomatch h
  | .leaf x r, d, ok, p, h => by
    obtain ⟨h1, h2, h3, h4, h5⟩ := ok
    rcases List.mem_cons.1 h with rfl | h
    · exact ⟨h3, h4, (fun e => nomatch e), fun _ => ⟨h1, h2⟩⟩
    · exact flat_mem r d h5 p h
  | .grp c k r, d, ok, p, h => by
    obtain ⟨h1, h2, h3, h4, h5⟩ := ok
    rcases List.mem_cons.1 h with rfl | h
    · exact ⟨h1, h2, fun _ => rfl, fun e => nomatch e⟩
    · rcases List.mem_append.1 h with h | h
      · exact flat_mem k (d + 1) h4 p h
      · exact flat_mem r d h5 p h
theorem Ch.cons {p : Prt} {L : List Prt} (h : Ch L) (h1 : L = [] → p.group = false) (h2 : ∀ q, L.head? = some q → if p.group = true then q.depth = p.depth + 1 else q.depth ≤ p.depth) : Ch (p :: L) := by
  cases L with
  | nil => exact h1 rfl
  | cons q r => exact ⟨h2 q rfl, h⟩
theorem flat_headeq {t : Fo} (h : t ≠ .nil) (d : Int) (L : List Prt) : ∃ p, (flat d t ++ L).head? = some p ∧ p.depth = d := by
  cases t with
  | nil => exact absurd rfl h
  | leaf x r => exact ⟨_, rfl, rfl⟩
  | grp c k r => exact ⟨_, rfl, rfl⟩
theorem flat_ch {n : Int} : ∀ (t : Fo) (d : Int) (L : List Prt), okF n t → Ch L → (∀ q, L.head? = some q → q.depth ≤ d) → Ch (flat d t ++ L)
  | .nil, d, L, _, hc, _ => hc
  | .leaf x r, d, L, ok, hc, hL => by
    refine Ch.cons (flat_ch r d L ok.2.2.2.2 hc hL) (fun _ => rfl) (fun q hq => ?_)
    rw [if_neg Bool.false_ne_true]
    exact flat_head hq hL
  | .grp c k r, d, L, ok, hc, hL => by
    rw [flat, List.cons_append, List.append_assoc]
    have hr := flat_ch r d L ok.2.2.2.2 hc hL
    have hk := flat_ch k (d + 1) (flat d r ++ L) ok.2.2.2.1 hr (fun q hq => by have := flat_head hq hL; omega)
    obtain ⟨p, hp, hd⟩ := flat_headeq ok.2.2.1 (d + 1) (flat d r ++ L)
    refine Ch.cons hk (fun e => by rw [e] at hp; cases hp) (fun q hq => ?_)
    rw [hp] at hq; injection hq with hq; subst hq
    rw [if_pos rfl]; exact hd
/-- a tree alone -/
inductive OneF : Fo → Prop
  | leaf (x : Lef) : OneF (.leaf x .nil)
  | grp (c : Int) (k : Fo) : OneF (.grp c k .nil)
/-- a group is a tree -/
structure GTr (xs : List Cls) (t : Fo) : Prop where
  tree : okTree xs = true
  one : OneF t
  ok : okF xs.length t
  ht : htF t ≤ 6
  sz : szF t ≤ 16
theorem Ch.at_ : ∀ {L : List Prt} {i : Nat}, Ch L → i + 1 < L.length → if (gAt L i).group = true then (gAt L (i + 1)).depth = (gAt L i).depth + 1 else (gAt L (i + 1)).depth ≤ (gAt L i).depth
  | [], i, _, h => by simp at h
  | [p], i, _, h => by simp at h
  | p :: q :: r, 0, h, _ => h.1
  | p :: q :: r, i + 1, h, hi => Ch.at_ (L := q :: r) (i := i) h.2 (by simpa using hi)
theorem Ch.last : ∀ {L : List Prt} {i : Nat}, Ch L → i + 1 = L.length → (gAt L i).group = false
  | [], i, _, h => by simp at h
  | [p], 0, h, _ => h
  | [p], i + 1, h, e => by simp at e
  | p :: q :: r, 0, _, e => by simp at e
  | p :: q :: r, i + 1, h, hi => Ch.last (L := q :: r) (i := i) h.2 (by simpa using hi)
theorem one_tail {t : Fo} (h : OneF t) : ∀ p ∈ (flat 0 t).drop 1, 1 ≤ p.depth := by
  cases h with
  | leaf x => intro p hp; simp [flat] at hp
  | grp c k => intro p hp; simp [flat] at hp; exact flat_ge k _ p (by simpa using hp)
theorem GTr.good {xs : List Cls} {t : Fo} (h : GTr xs t) : GoodG xs (flat 0 t) := by
  have hl := flatF_len t 0
  have hc : Ch (flat 0 t) := by have := flat_ch t 0 [] h.ok trivial (fun q hq => by cases hq); rwa [List.append_nil] at this
  have hm := fun i (hi : i < (flat 0 t).length) => flat_mem t 0 h.ok (gAt (flat 0 t) i) (by rw [gAt_at hi]; exact List.getElem_mem hi)
  have h1 : 1 ≤ szF t := by cases h.one <;> simp [szF] <;> omega
  refine ⟨h.tree, ⟨by omega, by rw [hl]; exact h.sz⟩, ?_, ?_, ?_, ?_, ?_, ?_⟩
  · cases h.one <;> rfl
  · intro i hi hil
    have hmem : gAt (flat 0 t) i ∈ (flat 0 t).drop 1 := by
      rw [gAt_at hil]
      have : ((flat 0 t).drop 1)[i - 1]'(by rw [List.length_drop]; omega) = (flat 0 t)[i] := by rw [List.getElem_drop]; congr 1; omega
      rw [← this]; exact List.getElem_mem _
    have h2 := one_tail h.one _ hmem
    have h3 := flat_lt t 0 (gAt (flat 0 t) i) (List.mem_of_mem_drop hmem)
    have := h.ht
    omega
  · intro i hi hil
    have := hc.at_ (i := i - 1) (by omega)
    rw [show i - 1 + 1 = i by omega] at this
    cases e : (gAt (flat 0 t) (i - 1)).group
    · rw [e] at this; simpa using this
    · rw [e, if_pos rfl] at this; rw [if_pos rfl]; omega
  · intro i hi; exact ⟨(hm i hi).1, (hm i hi).2.1⟩
  · intro i hi hg
    by_cases h2 : i + 1 < (flat 0 t).length
    · have := hc.at_ h2
      rw [hg, if_pos rfl] at this
      exact ⟨(hm i hi).2.2.1 hg, h2, by omega⟩
    · have := hc.last (i := i) (by omega)
      rw [hg] at this; cases this
  · intro i hi hg; exact (hm i hi).2.2.2 hg
theorem okF_of {n : Int} : ∀ (t : Fo) (d : Int) (L : List Prt), Ch (flat d t ++ L) → (∀ q, L.head? = some q → q.depth ≤ d) → (∀ p ∈ flat d t, 0 ≤ p.code ∧ p.code ≤ 99 ∧ (p.group = false → 0 ≤ p.cls ∧ p.cls < n)) → okF n t
  | .nil, d, L, _, _, _ => trivial
  | .leaf x r, d, L, hc, hL, hm => by
    have h0 := hm _ (List.mem_cons_self ..)
    exact ⟨(h0.2.2 rfl).1, (h0.2.2 rfl).2, h0.1, h0.2.1, okF_of r d L (Ch.tail hc) hL (fun p hp => hm p (List.mem_cons_of_mem _ hp))⟩
  | .grp c k r, d, L, hc, hL, hm => by
    have h0 := hm _ (List.mem_cons_self ..)
    rw [flat, List.cons_append, List.append_assoc] at hc
    have hh : ∀ q, (flat d r ++ L).head? = some q → q.depth ≤ d := fun q hq => flat_head hq hL
    refine ⟨h0.1, h0.2.1, ?_, okF_of k (d + 1) (flat d r ++ L) (Ch.tail hc) (fun q hq => by have := hh q hq; omega) (fun p hp => hm p (List.mem_cons_of_mem _ (List.mem_append_left _ hp))), okF_of r d L (Ch.right (Ch.tail hc)) hL (fun p hp => hm p (List.mem_cons_of_mem _ (List.mem_append_right _ hp)))⟩
    rintro rfl
    rw [flat, List.nil_append] at hc
    cases e : flat d r ++ L with
    | nil => rw [e] at hc; exact absurd hc (by show ¬ (true = false); decide)
    | cons q B =>
      have h1 := hh q (by rw [e]; rfl)
      rw [e] at hc
      have h2 : q.depth = d + 1 := by have := hc.1; rwa [if_pos rfl] at this
      omega
theorem htF_of : ∀ (t : Fo) (d : Int) (m : Nat), (∀ p ∈ flat d t, p.depth < d + m) → htF t ≤ m
  | .nil, d, m, _ => Nat.zero_le _
  | .leaf x r, d, m, h => by
    have h0 := h _ (List.mem_cons_self ..)
    have h0 : d < d + m := h0
    have := htF_of r d m (fun p hp => h p (List.mem_cons_of_mem _ hp))
    rw [htF]; omega
  | .grp c k r, d, m, h => by
    have h0 := h _ (List.mem_cons_self ..)
    have h0 : d < d + m := h0
    have h1 := htF_of k (d + 1) (m - 1) (fun p hp => by have := h p (List.mem_cons_of_mem _ (List.mem_append_left _ hp)); omega)
    have h2 := htF_of r d m (fun p hp => h p (List.mem_cons_of_mem _ (List.mem_append_right _ hp)))
    rw [htF]; omega
/-- a valid group is a tree -/
theorem good_tree {xs : List Cls} {g : List Prt} (G : GoodG xs g) : ∃ t, g = flat 0 t ∧ GTr xs t := by
  have hl := G.len
  have hmem : ∀ p ∈ g, ∃ i, i < g.length ∧ p = gAt g i := fun p hp => by
    obtain ⟨i, hi, e⟩ := List.getElem_of_mem hp
    exact ⟨i, hi, by rw [gAt_at hi, e]⟩
  have hc := good_ch G g.length 0 (by omega)
  rw [List.drop_zero] at hc
  have hd0 : ∀ p ∈ g, 0 ≤ p.depth ∧ p.depth < 0 + (6 : Nat) := fun p hp => by
    obtain ⟨i, hi, rfl⟩ := hmem p hp
    rcases Nat.eq_zero_or_pos i with rfl | h
    · rw [G.first]; omega
    · have := G.deep i h hi; omega
  have hh : g.head? = some (gAt g 0) := by
    have := drop_gAt (g := g) (k := 0) (by omega)
    rw [List.drop_zero] at this
    rw [this]; rfl
  obtain ⟨t, e⟩ := to_forest g.length g 0 (Nat.le_refl _) hc (fun p hp => (hd0 p hp).1) (fun p hp => by rw [hh] at hp; injection hp with hp; subst hp; exact G.first) (fun p hp hg => by
    obtain ⟨i, hi, rfl⟩ := hmem p hp
    exact (G.grp i hi hg).1)
  have hsz := flatF_len t 0
  refine ⟨t, e, G.tree, ?_, ?_, ?_, by rw [← hsz, ← e]; exact hl.2⟩
  · have hdeep : ∀ p ∈ g.drop 1, 1 ≤ p.depth := fun p hp => by
      obtain ⟨i, hi, e⟩ := List.getElem_of_mem hp
      rw [List.length_drop] at hi
      rw [List.getElem_drop] at e
      have := (G.deep (1 + i) (by omega) (by omega)).1
      rw [gAt_at (by omega), e] at this
      exact this
    have hroot : ∀ (r : Fo) (A : List Prt), (∀ p ∈ A ++ flat 0 r, 1 ≤ p.depth) → r = .nil := fun r A h => by
      cases r with
      | nil => rfl
      | leaf x r => have := h ⟨0, false, x.cls, x.code⟩ (List.mem_append_right _ (List.mem_cons_self ..)); exact absurd this (by show ¬ (1 : Int) ≤ 0; omega)
      | grp c k r => have := h ⟨0, true, 0, c⟩ (List.mem_append_right _ (List.mem_cons_self ..)); exact absurd this (by show ¬ (1 : Int) ≤ 0; omega)
    rw [e] at hdeep
    cases t with
    | nil => rw [e] at hl; simp [flat] at hl
    | leaf x r => obtain rfl := hroot r [] (by simpa [flat] using hdeep); exact .leaf x
    | grp c k r => obtain rfl := hroot r (flat (0 + 1) k) (by simpa only [flat, List.drop_one, List.tail_cons] using hdeep); exact .grp c k
  · refine okF_of t 0 [] (by rw [List.append_nil, ← e]; exact hc) (fun q hq => by cases hq) (fun p hp => ?_)
    rw [← e] at hp
    obtain ⟨i, hi, rfl⟩ := hmem p hp
    exact ⟨(G.code i hi).1, (G.code i hi).2, G.leaf i hi⟩
  · refine htF_of t 0 6 (fun p hp => ?_)
    rw [← e] at hp
    exact (hd0 p hp).2
theorem allF2_intro {f : Nat → Bool} : ∀ m k, (∀ i, k ≤ i → i < k + m → f i = true) → allF2 f k m = true
  | 0, _, _ => rfl
  | m + 1, k, h => by
    unfold allF2
    rw [h k (Nat.le_refl _) (by omega), allF2_intro m (k + 1) (fun i a b => h i (by omega) (by omega))]; rfl
theorem good_gOk {xs : List Cls} {g : List Prt} (G : GoodG xs g) : gOkS xs g = true := by
  rw [gOk_same]
  unfold gOkP
  have hl := G.len
  rw [G.tree, (rng_iff).2 ⟨by omega, by omega⟩, Bool.true_and, Bool.true_and]
  refine allF2_intro _ _ (fun i _ hi => ?_)
  rw [Nat.zero_add] at hi
  rw [Bool.and_eq_true]
  constructor
  · unfold depthP
    by_cases h0 : i = 0
    · subst h0; rw [if_pos rfl, G.first]; rfl
    · have h1 := G.deep i (by omega) hi
      have h2 := G.step i (by omega) hi
      rw [if_neg h0, rng_iff]
      omega
  · unfold partP
    have h1 := G.code i hi
    dsimp only
    rw [(rng_iff).2 h1, Bool.true_and]
    cases e : (gAt g i).group
    · have := G.leaf i hi e
      rw [cond_false, rng_iff]; omega
    · obtain ⟨a, b, c⟩ := G.grp i hi e
      unfold below
      rw [cond_true, decide_eq_true a, decide_eq_true b, decide_eq_true c]; rfl
theorem gOk_iff {xs : List Cls} {g : List Prt} : gOkS xs g = true ↔ ∃ t, g = flat 0 t ∧ GTr xs t :=
  ⟨fun h => good_tree (goodG_of (by rw [← gOk_same]; exact h)), by rintro ⟨t, rfl, h⟩; exact good_gOk h.good⟩
theorem GTr.gOk {xs : List Cls} {t : Fo} (h : GTr xs t) : gOkS xs (flat 0 t) = true := good_gOk h.good
end
end Go.Proofs.Ytkpnajffeclmdaa
