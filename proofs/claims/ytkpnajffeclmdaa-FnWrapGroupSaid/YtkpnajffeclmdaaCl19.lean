/- one text of GpH, ItD, ItG -/
import Derived.Test.YtkpnajffeclmdaaCl18
import Derived.Test.YtkpnajffeclmdaaCl12
import Derived.Test.YtkpnajffeclmdaaCl8
import Derived.Test.YtkpnajffeclmdaaCl10
namespace Go.Proofs.Ytkpnajffeclmdaa
open Go.RowKit
set_option linter.unusedVariables false
section
def leavesF : Fo → List Lef
  | .nil => []
  | .leaf x r => x :: leavesF r
  | .grp _ k r => leavesF k ++ leavesF r
theorem leaves_flat : ∀ (t : Fo) (d : Int), leavesL (flat d t) = leavesF t
  | .nil, _ => rfl
  | .leaf x r, d => by
    have := leaves_flat r d
    unfold leavesL at this ⊢
    rw [flat, List.filter_cons_of_pos (by rfl), List.map_cons, this]; rfl
  | .grp c k r, d => by
    have h1 := leaves_flat k (d + 1)
    have h2 := leaves_flat r d
    unfold leavesL at h1 h2 ⊢
    rw [flat, List.filter_cons_of_neg (by simp), List.filter_append, List.map_append, h1, h2]; rfl
theorem leaves_some {n : Int} : ∀ {t : Fo}, okF n t → t ≠ .nil → leavesF t ≠ []
  | .nil, _, h => absurd rfl h
  | .leaf x r, _, _ => by simp [leavesF]
  | .grp c k r, ok, _ => by
    have := leaves_some ok.2.2.2.1 ok.2.2.1
    simp [leavesF, this]
theorem one_ne {t : Fo} (h : OneF t) : t ≠ .nil := by cases h <;> exact fun e => nomatch e
theorem leaves_roots : ∀ t : Fo, leavesF t = ((rootsF t).map leavesF).flatten
  | .nil => rfl
  | .leaf x r => by rw [leavesF, rootsF, List.map_cons, List.flatten_cons, ← leaves_roots r]; rfl
  | .grp c k r => by rw [leavesF, rootsF, List.map_cons, List.flatten_cons, ← leaves_roots r]; simp [leavesF]
theorem leaves_mem {n : Int} : ∀ {t : Fo}, okF n t → ∀ x ∈ leavesF t, 0 ≤ x.cls ∧ x.cls < n ∧ 0 ≤ x.code ∧ x.code ≤ 99
  | .nil, _, x, h => nomatch h
  | .leaf y r, ok, x, h => by
    rcases List.mem_cons.1 h with rfl | h
    · exact ⟨ok.1, ok.2.1, ok.2.2.1, ok.2.2.2.1⟩
    · exact leaves_mem ok.2.2.2.2 x h
  | .grp c k r, ok, x, h => by
    rcases List.mem_append.1 h with h | h
    · exact leaves_mem ok.2.2.2.1 x h
    · exact leaves_mem ok.2.2.2.2 x h
theorem leaves_len : ∀ t : Fo, (leavesF t).length ≤ szF t
  | .nil => Nat.le_refl _
  | .leaf x r => by have := leaves_len r; rw [leavesF, szF, List.length_cons]; omega
  | .grp c k r => by have := leaves_len k; have := leaves_len r; rw [leavesF, szF, List.length_append]; omega
theorem leaves_keep (p : Lef → Bool) : ∀ t : Fo, leavesF (keepF p t) = (leavesF t).filter p
  | .nil => rfl
  | .leaf x r => by
    rw [keepF, leavesF, List.filter_cons, ← leaves_keep p r]
    cases p x <;> rfl
  | .grp c k r => by
    rw [keepF, leavesF, List.filter_append, ← leaves_keep p r, ← leaves_keep p k]
    cases e : anyFo p k
    · rw [keepF_none e]; rfl
    · rfl
theorem any_leaves (p : Lef → Bool) : ∀ t : Fo, anyFo p t = (leavesF t).any p
  | .nil => rfl
  | .leaf x r => by rw [anyFo, leavesF, List.any_cons, any_leaves p r]
  | .grp c k r => by rw [anyFo, leavesF, List.any_append, any_leaves p k, any_leaves p r]
theorem keep_keep (p q : Lef → Bool) : ∀ t : Fo, keepF q (keepF p t) = keepF (fun x => p x && q x) t
  | .nil => rfl
  | .leaf x r => by
    have ih := keep_keep p q r
    rw [keepF, keepF]
    cases p x
    · exact ih
    · show keepF q (.leaf x (keepF p r)) = cond (true && q x) _ _
      rw [keepF, ih]; rfl
  | .grp c k r => by
    have h1 := keep_keep p q k
    have h2 := keep_keep p q r
    have ha : anyFo (fun x => p x && q x) k = anyFo q (keepF p k) := by
      rw [any_leaves, any_leaves, leaves_keep]
      induction leavesF k with
      | nil => rfl
      | cons x l ih => rw [List.any_cons, List.filter_cons, ih]; cases p x <;> simp
    rw [keepF, keepF, ha]
    cases e : anyFo p k
    · have hq : anyFo q (keepF p k) = false := by rw [keepF_none e]; rfl
      rw [hq]; exact h2
    · show keepF q (.grp c (keepF p k) (keepF p r)) = _
      rw [keepF, h1, h2]
theorem keep_same {p q : Lef → Bool} : ∀ {t : Fo}, (∀ x ∈ leavesF t, p x = q x) → keepF p t = keepF q t
  | .nil, _ => rfl
  | .leaf x r, h => by
    rw [keepF, keepF, h x (List.mem_cons_self ..), keep_same (fun y hy => h y (List.mem_cons_of_mem _ hy))]
  | .grp c k r, h => by
    have h1 := keep_same (t := k) (fun y hy => h y (List.mem_append_left _ hy))
    have h2 := keep_same (t := r) (fun y hy => h y (List.mem_append_right _ hy))
    have ha : anyFo p k = anyFo q k := by
      rw [any_leaves, any_leaves, Bool.eq_iff_iff, List.any_eq_true, List.any_eq_true]
      constructor
      · rintro ⟨x, hx, e⟩; exact ⟨x, hx, by rw [← h x (List.mem_append_left _ hx)]; exact e⟩
      · rintro ⟨x, hx, e⟩; exact ⟨x, hx, by rw [h x (List.mem_append_left _ hx)]; exact e⟩
    rw [keepF, keepF, h1, h2, ha]
theorem keep_all {n : Int} {p : Lef → Bool} : ∀ {t : Fo}, okF n t → (∀ x ∈ leavesF t, p x = true) → keepF p t = t
  | .nil, _, _ => rfl
  | .leaf x r, ok, h => by
    rw [keepF, h x (List.mem_cons_self ..), keep_all ok.2.2.2.2 (fun y hy => h y (List.mem_cons_of_mem _ hy))]; rfl
  | .grp c k r, ok, h => by
    have hk := fun y hy => h y (List.mem_append_left _ hy)
    have ha : anyFo p k = true := by
      rw [any_leaves, List.any_eq_true]
      have := leaves_some ok.2.2.2.1 ok.2.2.1
      cases e : leavesF k with
      | nil => exact absurd e this
      | cons x l => exact ⟨x, List.mem_cons_self .., hk x (by rw [e]; exact List.mem_cons_self ..)⟩
    rw [keepF, ha, keep_all ok.2.2.2.1 hk, keep_all ok.2.2.2.2 (fun y hy => h y (List.mem_append_right _ hy))]; rfl
/-- how deep a row of trees is -/
theorem flat_att : ∀ {t : Fo}, t ≠ .nil → ∀ d : Int, ∃ p ∈ flat d t, p.depth + 1 = d + htF t
  | .nil, h, _ => absurd rfl h
  | .leaf x r, _, d => by
    by_cases hr : htF r ≤ 1
    · exact ⟨_, List.mem_cons_self .., by rw [htF, show max 1 (htF r) = 1 by omega]; rfl⟩
    · have hne : r ≠ .nil := fun e => by rw [e] at hr; exact hr (Nat.zero_le _)
      obtain ⟨p, hp, e⟩ := flat_att hne d
      exact ⟨p, List.mem_cons_of_mem _ hp, by rw [htF, show max 1 (htF r) = htF r by omega]; exact e⟩
  | .grp c k r, _, d => by
    by_cases hr : htF r ≤ 1 + htF k
    · by_cases hk : k = .nil
      · subst hk
        exact ⟨_, List.mem_cons_self .., by rw [htF, show max (1 + htF .nil) (htF r) = 1 by rw [show htF .nil = 0 from rfl] at hr ⊢; omega]; rfl⟩
      · obtain ⟨p, hp, e⟩ := flat_att hk (d + 1)
        exact ⟨p, List.mem_cons_of_mem _ (List.mem_append_left _ hp), by rw [htF, show max (1 + htF k) (htF r) = 1 + htF k by omega, e]; omega⟩
    · have hne : r ≠ .nil := fun e => by rw [e] at hr; exact hr (Nat.zero_le _)
      obtain ⟨p, hp, e⟩ := flat_att hne d
      exact ⟨p, List.mem_cons_of_mem _ (List.mem_append_right _ hp), by rw [htF, show max (1 + htF k) (htF r) = htF r by omega]; exact e⟩
theorem htF_roots : ∀ t : Fo, htF t = ((rootsF t).map htF).foldr max 0
  | .nil => rfl
  | .leaf x r => by rw [htF, rootsF, List.map_cons, List.foldr_cons, ← htF_roots r]; simp [htF]
  | .grp c k r => by rw [htF, rootsF, List.map_cons, List.foldr_cons, ← htF_roots r]; simp [htF]
theorem one_ht {t : Fo} (h : OneF t) : htF t = 1 + htF (kidsF t) := by cases h <;> simp [htF, kidsF]
theorem leaves_app : ∀ a b : Fo, leavesF (appF a b) = leavesF a ++ leavesF b
  | .nil, _ => rfl
  | .leaf x r, b => by rw [appF, leavesF, leaves_app r b]; rfl
  | .grp c k r, b => by rw [appF, leavesF, leaves_app r b, leavesF, List.append_assoc]
theorem leaves_simp : ∀ t : Fo, leavesF (simpF t) = leavesF t
  | .nil => rfl
  | .leaf x r => by rw [simpF, leavesF, leaves_simp r]; rfl
  | .grp c k r => by
    have h1 := leaves_simp k
    have h2 := leaves_simp r
    rw [simpF]
    cases oneB k
    · show leavesF (.grp c (simpF k) (simpF r)) = _; rw [leavesF, h1, h2]; rfl
    · show leavesF (appF (simpF k) (simpF r)) = _; rw [leaves_app, h1, h2]; rfl
/-- no group of one -/
def noOne : Fo → Prop
  | .nil => True
  | .leaf _ r => noOne r
  | .grp _ k r => oneB k = false ∧ noOne k ∧ noOne r
theorem noOne_app : ∀ {a b : Fo}, noOne a → noOne b → noOne (appF a b)
  | .nil, _, _, h => h
  | .leaf _ r, _, h, k => noOne_app (a := r) h k
  | .grp _ _ _, _, ⟨h1, h2, h3⟩, k => ⟨h1, h2, noOne_app h3 k⟩
theorem roots_app : ∀ a b : Fo, rootsF (appF a b) = rootsF a ++ rootsF b
  | .nil, _ => rfl
  | .leaf x r, b => by rw [appF, rootsF, roots_app r b]; rfl
  | .grp c k r, b => by rw [appF, rootsF, roots_app r b]; rfl
theorem simp_count : ∀ t : Fo, (rootsF (simpF t)).length = (rootsF t).length
  | .nil => rfl
  | .leaf x r => by rw [simpF, rootsF, rootsF, List.length_cons, List.length_cons, simp_count r]
  | .grp c k r => by
    have h2 := simp_count r
    rw [simpF, rootsF, List.length_cons]
    cases hk : oneB k
    · show (rootsF (.grp c (simpF k) (simpF r))).length = _; rw [rootsF, List.length_cons, h2]
    · show (rootsF (appF (simpF k) (simpF r))).length = _
      have h1 := simp_count k
      have h3 := of_decide_eq_true ((roots_len k).trans hk)
      rw [roots_app, List.length_append]; omega
theorem simp_oneB (t : Fo) : oneB (simpF t) = oneB t := by rw [← roots_len, ← roots_len, simp_count]
theorem noOne_simp : ∀ t : Fo, noOne (simpF t)
  | .nil => trivial
  | .leaf x r => noOne_simp r
  | .grp c k r => by
    have h1 := noOne_simp k
    have h2 := noOne_simp r
    rw [simpF]
    cases hk : oneB k
    · exact ⟨by rw [simp_oneB]; exact hk, h1, h2⟩
    · exact noOne_app h1 h2
theorem simp_noOne : ∀ {t : Fo}, noOne t → simpF t = t
  | .nil, _ => rfl
  | .leaf x r, h => by rw [simpF, simp_noOne (t := r) h]
  | .grp c k r, ⟨h1, h2, h3⟩ => by rw [simpF, h1, simp_noOne h2, simp_noOne h3]; rfl
theorem simp_simp (t : Fo) : simpF (simpF t) = simpF t := simp_noOne (noOne_simp t)
theorem noOne_root : ∀ {t : Fo}, noOne t → ∀ r ∈ rootsF t, noOne r
  | .nil, _, r, h => nomatch h
  | .leaf x q, ok, r, h => by
    rcases List.mem_cons.1 h with rfl | h2
    · trivial
    · exact noOne_root (t := q) ok r h2
  | .grp c k q, ok, r, h => by
    rcases List.mem_cons.1 h with rfl | h2
    · exact ⟨ok.1, ok.2.1, trivial⟩
    · exact noOne_root (t := q) ok.2.2 r h2
theorem noOne_kids {t : Fo} (h : OneF t) (ok : noOne t) : noOne (kidsF t) ∧ oneB (kidsF t) = false := by
  cases h with
  | leaf x => exact ⟨trivial, rfl⟩
  | grp c k => exact ⟨ok.2.1, ok.1⟩
/-- leaves as trees -/
def mkF : List Lef → Fo
  | [] => .nil
  | x :: r => .leaf x (mkF r)
def flatF : Fo → Fo
  | .nil => .nil
  | .leaf x r => .leaf x r
  | .grp c k _ => .grp c (mkF (leavesF k)) .nil
theorem flat_mk : ∀ (L : List Lef) , flat 1 (mkF L) = L.map (fun x => (⟨1, false, x.cls, x.code⟩ : Prt))
  | [] => rfl
  | x :: r => by rw [mkF, flat, flat_mk r]; rfl
theorem leaves_mk : ∀ L : List Lef, leavesF (mkF L) = L
  | [] => rfl
  | x :: r => by rw [mkF, leavesF, leaves_mk r]
theorem leaves_flatF {t : Fo} (h : OneF t) : leavesF (flatF t) = leavesF t := by
  cases h with
  | leaf x => rfl
  | grp c k => rw [flatF, leavesF, leaves_mk]; rfl
theorem flatF_flatF {t : Fo} (h : OneF t) : flatF (flatF t) = flatF t := by
  cases h with
  | leaf x => rfl
  | grp c k => rw [flatF, flatF, leaves_mk]
theorem okF_mk {n : Int} : ∀ {L : List Lef}, (∀ x ∈ L, 0 ≤ x.cls ∧ x.cls < n ∧ 0 ≤ x.code ∧ x.code ≤ 99) → okF n (mkF L)
  | [], _ => trivial
  | x :: _, h => ⟨(h x (List.mem_cons_self ..)).1, (h x (List.mem_cons_self ..)).2.1, (h x (List.mem_cons_self ..)).2.2.1, (h x (List.mem_cons_self ..)).2.2.2, okF_mk (fun y hy => h y (List.mem_cons_of_mem _ hy))⟩
theorem mk_ht : ∀ L : List Lef, htF (mkF L) ≤ 1
  | [] => Nat.zero_le _
  | x :: r => by have := mk_ht r; rw [mkF, htF]; omega
theorem mk_sz : ∀ L : List Lef, szF (mkF L) = L.length
  | [] => rfl
  | x :: r => by rw [mkF, szF, mk_sz r, List.length_cons]; omega
theorem mk_nil {L : List Lef} (h : L ≠ []) : mkF L ≠ .nil := by
  cases L with
  | nil => exact absurd rfl h
  | cons x r => exact fun e => nomatch e
theorem flatF_ht {t : Fo} (h : OneF t) : htF (flatF t) ≤ 2 := by
  cases h with
  | leaf x => show max 1 0 ≤ 2; omega
  | grp c k => have := mk_ht (leavesF k); rw [flatF, htF]; show max _ (htF .nil) ≤ _; rw [show htF .nil = 0 from rfl]; omega
theorem flatF_sz {t : Fo} (h : OneF t) : szF (flatF t) ≤ szF t := by
  cases h with
  | leaf x => exact Nat.le_refl _
  | grp c k => have := leaves_len k; rw [flatF, szF, mk_sz]; show _ ≤ 1 + szF k + 0; show 1 + _ + 0 ≤ _; omega
theorem GTr.flatF {xs : List Cls} {t : Fo} (h : GTr xs t) : GTr xs (flatF t) := by
  have hs := flatF_sz h.one
  have hh := flatF_ht h.one
  refine ⟨h.tree, ?_, ?_, ?_, Nat.le_trans hs h.sz⟩
  · cases h.one with
    | leaf x => exact .leaf x
    | grp c k => exact .grp c _
  · have ok := h.ok
    cases h.one with
    | leaf x => exact ok
    | grp c k =>
      exact ⟨ok.1, ok.2.1, mk_nil (leaves_some ok.2.2.2.1 ok.2.2.1), okF_mk (leaves_mem ok.2.2.2.1), trivial⟩
  · omega
theorem keep_mk (p : Lef → Bool) : ∀ L : List Lef, keepF p (mkF L) = mkF (L.filter p)
  | [] => rfl
  | x :: r => by rw [mkF, keepF, keep_mk p r, List.filter_cons]; cases p x <;> rfl
theorem keep_flatF (p : Lef → Bool) {t : Fo} (h : OneF t) (ha : anyFo p t = true) : keepF p (flatF t) = flatF (keepF p t) := by
  cases h with
  | leaf x =>
    have : p x = true := by simpa [anyFo] using ha
    rw [flatF, keepF, this]; rfl
  | grp c k =>
    have hk : anyFo p k = true := by simpa [anyFo] using ha
    have hm : anyFo p (mkF (leavesF k)) = true := by rw [any_leaves, leaves_mk, ← any_leaves]; exact hk
    have h2 : keepF p (.grp c k .nil) = .grp c (keepF p k) .nil := by rw [keepF, hk]; rfl
    rw [h2, flatF, keepF, hm]
    show Fo.grp c (keepF p (mkF (leavesF k))) .nil = flatF (.grp c (keepF p k) .nil)
    rw [keep_mk, flatF, leaves_keep]
theorem keep_one {p : Lef → Bool} {t : Fo} (h : OneF t) (ha : anyFo p t = true) : OneF (keepF p t) ∧ gAt (flat 0 (keepF p t)) 0 = gAt (flat 0 t) 0 := by
  cases h with
  | leaf x =>
    have : p x = true := by simpa [anyFo] using ha
    rw [keepF, this]; exact ⟨.leaf x, rfl⟩
  | grp c k =>
    have hk : anyFo p k = true := by simpa [anyFo] using ha
    rw [keepF, hk]; exact ⟨.grp c _, rfl⟩
/-- how often a leaf is in a list -/
def cntL (x : Lef) : List Lef → Nat
  | [] => 0
  | y :: r => cond (decide (y.cls = x.cls) && decide (y.code = x.code)) (1 + cntL x r) (cntL x r)
theorem cnt_split (p : Lef → Bool) (x : Lef) : ∀ L, cntL x (L.filter p) + cntL x (L.filter (fun y => !p y)) = cntL x L
  | [] => rfl
  | y :: r => by
    have ih := cnt_split p x r
    rw [List.filter_cons, List.filter_cons]
    cases p y
    · show cntL x (r.filter p) + cntL x (y :: r.filter (fun y => !p y)) = _
      rw [cntL, cntL]
      cases decide (y.cls = x.cls) && decide (y.code = x.code)
      · exact ih
      · show _ + (1 + _) = 1 + _; omega
    · show cntL x (y :: r.filter p) + cntL x (r.filter (fun y => !p y)) = _
      rw [cntL, cntL]
      cases decide (y.cls = x.cls) && decide (y.code = x.code)
      · exact ih
      · show (1 + _) + _ = 1 + _; omega
theorem cnt_pos (x : Lef) : ∀ {L : List Lef}, 0 < cntL x L ↔ x ∈ L
  | [] => by simp [cntL]
  | y :: r => by
    rw [cntL]
    cases h : decide (y.cls = x.cls) && decide (y.code = x.code)
    · show 0 < cntL x r ↔ _
      rw [cnt_pos x, List.mem_cons]
      constructor
      · exact .inr
      · rintro (rfl | h2)
        · simp at h
        · exact h2
    · simp only [Bool.and_eq_true, decide_eq_true_eq] at h
      obtain ⟨x1, x2⟩ := x
      obtain ⟨y1, y2⟩ := y
      obtain ⟨rfl, rfl⟩ : y1 = x1 ∧ y2 = x2 := h
      show 0 < 1 + _ ↔ _
      simp; omega
theorem cnt_pass (p : Lef → Bool) {x : Lef} {L : List Lef} (h : x ∈ L) : decide (0 < cntL x (L.filter p)) = p x := by
  rw [Bool.eq_iff_iff, decide_eq_true_eq, cnt_pos, List.mem_filter]
  exact ⟨fun e => e.2, fun e => ⟨h, e⟩⟩
/-- what several classes leave: the leaves of none of them -/
theorem hgR_keep {n : Int} (xs : List Cls) : ∀ (L : List Int) {t : Fo}, okF n t → hgR xs (flat 0 t) L = flat 0 (keepF (fun x => !L.any (fun a => isAL xs x.cls a)) t)
  | [], t, ok => by
    have : keepF (fun x : Lef => !([] : List Int).any (fun a => isAL xs x.cls a)) t = t := keep_all ok (fun _ _ => rfl)
    rw [this]; rfl
  | a :: L, t, ok => by
    rw [hgR]
    unfold selA
    rw [selG_flat, hgR_keep xs L (okF_keep _ ok), keep_keep]
    congr 1
    refine keep_same (fun x _ => ?_)
    rw [List.any_cons]
    cases isAL xs x.cls a <;> cases L.any (fun a => isAL xs x.cls a) <;> rfl
end

section
open Go.RowKit Go.Shelf
theorem good_leaf {xs : List Cls} {g : List Prt} (G : GoodG xs g) : ∀ x ∈ leavesL g, 0 ≤ x.cls ∧ x.cls < xs.length := by
  intro x hx
  unfold leavesL at hx
  obtain ⟨q, hq, rfl⟩ := List.mem_map.1 hx
  obtain ⟨hm, hg⟩ := List.mem_filter.1 hq
  obtain ⟨i, hi, e⟩ := List.getElem_of_mem hm
  have := G.leaf i hi (by rw [gAt_at hi, e]; simpa using hg)
  rw [gAt_at hi, e] at this
  exact this
/-- whether a group has a leaf of a class -/
def hcX (xs : List Cls) (g : List Prt) (a : Int) : Bool := gOkS xs g && hasK xs a && (leavesL g).any (fun x => isAL xs x.cls a)
theorem caughtLeaf_any (A : Option Addr) (n : Nat) (p : Option Addr) (w : World) :
    Calls Try.prog 36 #[.slice A n n, .iface 65 (.pointer p)] w fun e w' => e = .returned (.func (.func 67) #[] #[.pointer (some ⟨w.heap.size + 1, 0, none⟩), .pointer (some ⟨w.heap.size, 0, none⟩)]) ∧ w' = (w.alloc (.cells #[.slice A n n] 63)).alloc (.cells #[.iface 65 (.pointer p)] 107) := by
  go_enter Try.func36, Try.ntmps36
  go_wp2
  go_ret
  exact ⟨by simp, rfl⟩
set_option maxRecDepth 100000 in
set_option maxHeartbeats 2000000 in
theorem iHasClass_any (A B : Option Addr) (n cap m c : Nat) (xs : List Cls) (g : List Prt) (a : Int) (w : World) (hT : Sl w A n cap xs) (hG : Sl w B m c g) :
    Calls Try.prog 23 #[.agg #[.slice A n cap], .slice B m c, .int .i64 a] w fun e w' => e = .returned (.bool (hcX xs g a)) ∧ Le w w' := by
  have hl := Le.new w (.cells #[.slice A n cap] 25)
  obtain ⟨c0, z0, hl⟩ := box1 w (.slice A n cap) 25
  have hS := hT.le hl
  have hG1 := hG.le hl
  go_enter Try.func23, Try.ntmps23
  go_wp2_with fail
  generalize w.alloc (.cells #[.slice A n cap] 25) = w1 at *
  refine (nodesOf_any A n cap xs _ hS).mono ?_
  intro e w2 hout
  obtain ⟨hle, A2, n2, gs, rfl, hS2, hcase⟩ := nodes_one hout
  have hS1 := hS.le hle
  have hG2 := hG1.le hle
  have hLL := hl.trans hle
  have d0 := (hle.cell z0).trans c0
  clear hout
  go_wp2_with fail
  refine (nodeAt_any _ _ _ gs a _ hS2).mono ?_
  rintro e w3 ⟨rfl, rfl⟩
  by_cases hno : (okTree xs && hasK xs a) = true
  · have hab : okTree xs = true ∧ hasK xs a = true := by simpa using hno
    have g0 := good_of hab.1
    rcases hcase with ⟨h0, _⟩ | ⟨h1, rfl, hN⟩
    · rw [hab.1] at h0; cases h0
    · rcases ptr_cases hN.len a with ⟨h2, _⟩ | ⟨_, j, hj, rfl, hp⟩
      · rw [hab.2] at h2; cases h2
      · rw [hp]
        have hhi := g0.hi
        have HK := Lib.hid hab.2
        clear hab hno h1 hp
        go_wp2_with fail
        refine (iValidGroupS_any _ _ _ _ _ _ xs g _ hS1 hG2).mono ?_
        rintro e w3 ⟨rfl, hle3⟩
        have hS3 := hS2.le hle3
        have hG3 := hG2.le hle3
        have hN3 := hN.le hle3
        have hL3 := hLL.trans hle3
        have HF : Hid (hcX xs g j = (gOkS xs g && (leavesL g).any (fun x => isAL xs x.cls j))) := by show _ = _; unfold hcX; rw [HK.out, Bool.and_true]
        cases hg : gOkS xs g
        · rw [hg] at HF
          go_wp2
          go_ret
          exact ⟨ret_bool HF.out.symm, hL3⟩
        · rw [hg] at HF
          have G := goodG_of (by rw [← gOk_same]; exact hg)
          have GL := good_leaf G
          clear hg
          go_wp2_with fail
          refine (caughtLeaf_any _ _ _ _).mono ?_
          rintro e w4 ⟨rfl, rfl⟩
          obtain ⟨b0, y0, b1, y1, hl5⟩ := box2 w3 (.slice A2 xs.length xs.length) (.iface 65 (.pointer (some ⟨gs[j].g, 0, none⟩))) 63 107
          have hS5 := hS3.le hl5
          have hG5 := hG3.le hl5
          have hN5 := hN3.le hl5
          have hL5 := hL3.trans hl5
          generalize (w3.alloc (.cells #[.slice A2 xs.length xs.length] 63)).alloc (.cells #[.iface 65 (.pointer (some ⟨gs[j].g, 0, none⟩))] 107) = w5 at *
          go_wp2_with fail
          refine (hasLeaf_in _ _ (fun x => isAL xs x.cls j) B m c g w5 hG5 (fun x W hx hW => caughtLeaf1_any _ _ A2 gs xs g0 j hj x.cls x.code (GL x hx).1 (GL x hx).2 W (hS5.le hW) (hN5.le hW) ((hW.cell y1).trans b1) ((hW.cell y0).trans b0) (Nat.lt_of_lt_of_le y1 hW.size) (Nat.lt_of_lt_of_le y0 hW.size))).mono ?_
          rintro e w6 ⟨rfl, hle6⟩
          have hL6 := hL5.trans hle6
          go_wp2
          go_ret
          exact ⟨ret_bool HF.out.symm, hL6⟩
  · have h1 : (okTree xs && hasK xs a) = false := by simpa using hno
    have HF : Hid (hcX xs g a = false) := by
      show _ = _
      unfold hcX gOkS
      cases e1 : okTree xs
      · simp
      · rw [e1] at h1
        have : hasK xs a = false := by simpa using h1
        rw [this]; simp
    have hp : ptrOf gs a = none := by
      rcases hcase with ⟨h0, _, rfl⟩ | ⟨h0, _, hN⟩
      · exact ptrOf_nil a
      · rcases ptr_cases hN.len a with ⟨_, h⟩ | ⟨h, _⟩
        · exact h
        · rw [h0, h] at h1; cases h1
    rw [hp]
    clear hp hcase h1 hno
    go_wp2
    go_ret
    exact ⟨ret_bool HF.out.symm, hLL⟩
end

section
end
end Go.Proofs.Ytkpnajffeclmdaa
