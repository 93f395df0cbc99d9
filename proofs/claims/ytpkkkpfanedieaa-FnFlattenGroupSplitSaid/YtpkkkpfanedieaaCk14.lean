/- one text of GpG, GpH, ItD, ItG -/
import Derived.Test.YtpkkkpfanedieaaCk13
import Derived.Test.YtpkkkpfanedieaaCk10
import Derived.Test.YtpkkkpfanedieaaCk7
import Derived.Test.YtpkkkpfanedieaaCk9
namespace Go.Proofs.Ytpkkkpfanedieaa
open Go.RowKit
set_option linter.unusedVariables false
section
theorem flat_shift : ∀ (t : Fo) (d e : Int), shiftL (flat d t) e = flat (d + e) t
  | .nil, _, _ => rfl
  | .leaf x r, d, e => by
    have := flat_shift r d e
    unfold shiftL at this ⊢
    rw [flat, List.map_cons, this]; rfl
  | .grp c k r, d, e => by
    have h1 := flat_shift k (d + 1) e
    have h2 := flat_shift r d e
    unfold shiftL at h1 h2 ⊢
    rw [flat, List.map_cons, List.map_append, h1, h2, flat, show d + 1 + e = d + e + 1 by omega]
/-- the pieces of a list of parts -/
def pcs : Nat → List Prt → List (List Prt)
  | 0, _ => []
  | _ + 1, [] => []
  | m + 1, p :: r => (p :: bel p.depth r) :: pcs m (r.drop (bel p.depth r).length)
theorem kd_pcs (g : List Prt) : ∀ m f, (kdS g m f g.length).map (piece g) = pcs m (g.drop f)
  | 0, _ => rfl
  | m + 1, f => by
    have e : kdS g (m + 1) f g.length = if f < g.length then f :: kdS g m (endN g f) g.length else [] := rfl
    rw [e]
    by_cases h : f < g.length
    · rw [if_pos h, List.map_cons, kd_pcs g m, piece_bel h, drop_gAt h, pcs, List.drop_drop, endN_bel h]
    · rw [if_neg h, List.drop_eq_nil_of_le (by omega)]; rfl
theorem pcs_flat : ∀ (t : Fo) (d : Int) (m : Nat), (flat d t).length ≤ m → pcs m (flat d t) = (rootsF t).map (flat d)
  | .nil, d, 0, _ => rfl
  | .nil, d, m + 1, _ => rfl
  | .leaf x r, d, 0, h => by simp [flat] at h
  | .grp c k r, d, 0, h => by simp [flat] at h
  | .leaf x r, d, m + 1, h => by
    have hb : bel d (flat d r) = [] := bel_stop (fun q hq => by have := flat_head (t := r) (d := d) (L := []) (p := q) (by rw [List.append_nil]; exact hq) (fun q hq => by cases hq); exact this)
    rw [flat, pcs, rootsF, List.map_cons]
    show (_ :: bel d (flat d r)) :: pcs m ((flat d r).drop (bel d (flat d r)).length) = _
    rw [hb, List.length_nil, List.drop_zero, pcs_flat r d m (by rw [flat, List.length_cons] at h; omega)]; rfl
  | .grp c k r, d, m + 1, h => by
    have hb0 : bel d (flat d r) = [] := bel_stop (fun q hq => by have := flat_head (t := r) (d := d) (L := []) (p := q) (by rw [List.append_nil]; exact hq) (fun q hq => by cases hq); exact this)
    have hb : bel d (flat (d + 1) k ++ flat d r) = flat (d + 1) k := by rw [bel_flat, hb0, List.append_nil]
    rw [flat, pcs, rootsF, List.map_cons]
    show (_ :: bel d (flat (d + 1) k ++ flat d r)) :: pcs m ((flat (d + 1) k ++ flat d r).drop (bel d (flat (d + 1) k ++ flat d r)).length) = _
    rw [hb, List.drop_left, pcs_flat r d m (by rw [flat, List.length_cons, List.length_append] at h; omega)]
    simp [flat]
/-- what lies right below a tree -/
def kidsF : Fo → Fo
  | .nil => .nil
  | .leaf _ _ => .nil
  | .grp _ k _ => k
theorem one_flat {t : Fo} (h : OneF t) (d : Int) : ∃ p, flat d t = p :: flat (d + 1) (kidsF t) ∧ p.depth = d := by
  cases h with
  | leaf x => exact ⟨_, rfl, rfl⟩
  | grp c k => exact ⟨_, by simp only [flat, kidsF]; rw [List.append_nil], rfl⟩
theorem roots_one : ∀ {t : Fo}, ∀ r ∈ rootsF t, OneF r
  | .nil, r, h => nomatch h
  | .leaf x q, r, h => by
    rcases List.mem_cons.1 h with rfl | h
    · exact .leaf x
    · exact roots_one r h
  | .grp c k q, r, h => by
    rcases List.mem_cons.1 h with rfl | h
    · exact .grp c k
    · exact roots_one r h
theorem one_norm {r : Fo} (h : OneF r) (d : Int) : shiftL (flat d r) (-(gAt (flat d r) 0).depth) = flat 0 r := by
  obtain ⟨p, e, hp⟩ := one_flat h d
  have : (gAt (flat d r) 0).depth = d := by rw [e]; exact hp
  rw [this, flat_shift, show d + -d = 0 by omega]
theorem gAt_piece {g : List Prt} {i : Nat} (h : i < g.length) : gAt (piece g i) 0 = gAt g i := by rw [piece_bel h]; rfl
theorem kdS_lt (g : List Prt) : ∀ (m f : Nat), ∀ i ∈ kdS g m f g.length, i < g.length
  | 0, _, i, h => nomatch h
  | m + 1, f, i, h => by
    have e : kdS g (m + 1) f g.length = if f < g.length then f :: kdS g m (endN g f) g.length else [] := rfl
    rw [e] at h
    by_cases hl : f < g.length
    · rw [if_pos hl] at h
      rcases List.mem_cons.1 h with rfl | h
      · exact hl
      · exact kdS_lt g m _ i h
    · rw [if_neg hl] at h; cases h
/-- the pieces right below a tree at a depth -/
theorem kids_pieces {t : Fo} (h : OneF t) (d : Int) : (kdS (flat d t) (flat d t).length 1 (flat d t).length).map (piece (flat d t)) = (rootsF (kidsF t)).map (flat (d + 1)) := by
  rw [kd_pcs]
  obtain ⟨p, e, -⟩ := one_flat h d
  have hd : (flat d t).drop 1 = flat (d + 1) (kidsF t) := by rw [e]; rfl
  rw [hd, pcs_flat]
  rw [e, List.length_cons]; omega
theorem kidsL_flat {t : Fo} (h : OneF t) : kidsL (flat 0 t) = (rootsF (kidsF t)).map (flat 0) := by
  have h1 := kids_pieces h 0
  have h2 : kidsL (flat 0 t) = ((kdS (flat 0 t) (flat 0 t).length 1 (flat 0 t).length).map (piece (flat 0 t))).map (fun l => shiftL l (-(gAt l 0).depth)) := by
    unfold kidsL
    rw [List.map_map]
    refine List.map_congr_left (fun i hi => ?_)
    show kidAt _ i = shiftL _ (-(gAt (piece _ i) 0).depth)
    rw [gAt_piece (kdS_lt _ _ _ i hi)]; rfl
  rw [h2, h1, List.map_map]
  refine List.map_congr_left (fun r hr => ?_)
  exact one_norm (roots_one r hr) _
def appF : Fo → Fo → Fo
  | .nil, s => s
  | .leaf x r, s => .leaf x (appF r s)
  | .grp c k r, s => .grp c k (appF r s)
theorem flat_app : ∀ (a b : Fo) (d : Int), flat d (appF a b) = flat d a ++ flat d b
  | .nil, _, _ => rfl
  | .leaf x r, b, d => by rw [appF, flat, flat_app r b d, flat]; rfl
  | .grp c k r, b, d => by rw [appF, flat, flat_app r b d, flat, List.cons_append, List.append_assoc]
def oneB : Fo → Bool
  | .leaf _ .nil => true
  | .grp _ _ .nil => true
  | _ => false
theorem oneB_iff {t : Fo} : oneB t = true ↔ OneF t := by
  constructor
  · intro h
    match t, h with
    | .leaf x .nil, _ => exact .leaf x
    | .grp c k .nil, _ => exact .grp c k
  · rintro (x | ⟨c, k⟩) <;> rfl
theorem roots_len : ∀ t : Fo, decide ((rootsF t).length = 1) = oneB t
  | .nil => rfl
  | .leaf _ .nil => rfl
  | .leaf _ (.leaf _ _) => by simp [rootsF, oneB]
  | .leaf _ (.grp _ _ _) => by simp [rootsF, oneB]
  | .grp _ _ .nil => rfl
  | .grp _ _ (.leaf _ _) => by simp [rootsF, oneB]
  | .grp _ _ (.grp _ _ _) => by simp [rootsF, oneB]
theorem one_roots {t : Fo} (h : OneF t) : rootsF t = [t] := by cases h <;> rfl
/-- trees without groups of one -/
def simpF : Fo → Fo
  | .nil => .nil
  | .leaf x r => .leaf x (simpF r)
  | .grp c k r => cond (oneB k) (appF (simpF k) (simpF r)) (.grp c (simpF k) (simpF r))
theorem simp_roots : ∀ (t : Fo) (d : Int), flat d (simpF t) = ((rootsF t).map (fun r => flat d (simpF r))).flatten
  | .nil, _ => rfl
  | .leaf x r, d => by
    rw [simpF, rootsF, List.map_cons, List.flatten_cons, ← simp_roots r d]; rfl
  | .grp c k r, d => by
    rw [simpF, rootsF, List.map_cons, List.flatten_cons, ← simp_roots r d, simpF]
    cases oneB k
    · show flat d (.grp c (simpF k) (simpF r)) = flat d (.grp c (simpF k) .nil) ++ _
      simp [flat]
    · show flat d (appF (simpF k) (simpF r)) = flat d (appF (simpF k) .nil) ++ _
      rw [flat_app, flat_app]; simp [flat]
/-- a tree without groups of one: what lies right below it, if that is one; else all of it -/
theorem simp_one {t : Fo} (h : OneF t) (hk : oneB (kidsF t) = true) (d : Int) : flat d (simpF t) = flat d (simpF (kidsF t)) := by
  cases h with
  | leaf x => cases hk
  | grp c k =>
    have hk : oneB k = true := hk
    rw [simpF, hk]
    show flat d (appF (simpF k) .nil) = _
    rw [flat_app]; simp [flat, kidsF]
theorem simp_more {t : Fo} (h : OneF t) (hk : oneB (kidsF t) = false) (d : Int) : flat d (simpF t) = gAt (flat d t) 0 :: ((rootsF (kidsF t)).map (fun r => flat (d + 1) (simpF r))).flatten := by
  rw [← simp_roots]
  cases h with
  | leaf x => rfl
  | grp c k =>
    have hk : oneB k = false := hk
    rw [simpF, hk]
    show flat d (.grp c (simpF k) .nil) = _
    simp [flat, kidsF, gAt]
theorem szF_root : ∀ {t : Fo}, ∀ r ∈ rootsF t, szF r ≤ szF t
  | .nil, r, h => nomatch h
  | .leaf x q, r, h => by
    rcases List.mem_cons.1 h with rfl | h
    · rw [szF, szF, szF]; omega
    · have := szF_root r h; rw [szF]; omega
  | .grp c k q, r, h => by
    rcases List.mem_cons.1 h with rfl | h
    · rw [szF, szF, szF]; omega
    · have := szF_root r h; rw [szF]; omega
theorem htF_root : ∀ {t : Fo}, ∀ r ∈ rootsF t, htF r ≤ htF t
  | .nil, r, h => nomatch h
  | .leaf x q, r, h => by
    rcases List.mem_cons.1 h with rfl | h
    · rw [htF, htF, htF]; omega
    · have := htF_root r h; rw [htF]; omega
  | .grp c k q, r, h => by
    rcases List.mem_cons.1 h with rfl | h
    · rw [htF, htF, htF]; omega
    · have := htF_root r h; rw [htF]; omega
theorem okF_root {n : Int} : ∀ {t : Fo}, okF n t → ∀ r ∈ rootsF t, okF n r
  | .nil, _, r, h => nomatch h
  | .leaf x q, ⟨h1, h2, h3, h4, h5⟩, r, h => by
    rcases List.mem_cons.1 h with rfl | h
    · exact ⟨h1, h2, h3, h4, trivial⟩
    · exact okF_root h5 r h
  | .grp c k q, ⟨h1, h2, h3, h4, h5⟩, r, h => by
    rcases List.mem_cons.1 h with rfl | h
    · exact ⟨h1, h2, h3, h4, trivial⟩
    · exact okF_root h5 r h
theorem szF_kids {t : Fo} (h : OneF t) : szF t = 1 + szF (kidsF t) := by cases h <;> simp [szF, kidsF]
theorem htF_kids {t : Fo} (h : OneF t) : htF (kidsF t) + 1 ≤ htF t ∨ kidsF t = .nil := by
  cases h with
  | leaf x => exact .inr rfl
  | grp c k => left; simp only [htF, kidsF]; omega
theorem okF_kids {n : Int} {t : Fo} (h : OneF t) (ok : okF n t) : okF n (kidsF t) := by
  cases h with
  | leaf x => trivial
  | grp c k => exact ok.2.2.2.1
theorem GTr.kid {xs : List Cls} {t r : Fo} (h : GTr xs t) (hr : r ∈ rootsF (kidsF t)) : GTr xs r := by
  have h1 := szF_root r hr
  have h2 := htF_root r hr
  have h3 := szF_kids h.one
  have h4 : htF (kidsF t) ≤ htF t := by
    rcases htF_kids h.one with e | e
    · omega
    · rw [e]; exact Nat.zero_le _
  exact ⟨h.tree, roots_one r hr, okF_root (okF_kids h.one h.ok) r hr, by have := h.ht; omega, by have := h.sz; omega⟩
/-- a tree without groups of one is no greater, no deeper, valid -/
theorem szF_app : ∀ (a b : Fo), szF (appF a b) = szF a + szF b
  | .nil, b => by show szF b = 0 + szF b; omega
  | .leaf x r, b => by rw [appF, szF, szF, szF_app r b]; omega
  | .grp c k r, b => by rw [appF, szF, szF, szF_app r b]; omega
theorem htF_app : ∀ (a b : Fo), htF (appF a b) = max (htF a) (htF b)
  | .nil, b => by show htF b = max 0 (htF b); omega
  | .leaf x r, b => by rw [appF, htF, htF, htF_app r b]; omega
  | .grp c k r, b => by rw [appF, htF, htF, htF_app r b]; omega
theorem okF_app {n : Int} : ∀ {a b : Fo}, okF n a → okF n b → okF n (appF a b)
  | .nil, _, _, h => h
  | .leaf _ _, _, ⟨h1, h2, h3, h4, h5⟩, h => ⟨h1, h2, h3, h4, okF_app h5 h⟩
  | .grp _ _ _, _, ⟨h1, h2, h3, h4, h5⟩, h => ⟨h1, h2, h3, h4, okF_app h5 h⟩
theorem app_nil : ∀ a : Fo, appF a .nil = a
  | .nil => rfl
  | .leaf x r => by rw [appF, app_nil r]
  | .grp c k r => by rw [appF, app_nil r]
theorem szF_simp : ∀ t : Fo, szF (simpF t) ≤ szF t
  | .nil => Nat.le_refl _
  | .leaf x r => by have := szF_simp r; rw [simpF, szF, szF]; omega
  | .grp c k r => by
    have h1 := szF_simp k
    have h2 := szF_simp r
    rw [simpF, szF]
    cases oneB k
    · show szF (.grp c (simpF k) (simpF r)) ≤ _; rw [szF]; omega
    · show szF (appF (simpF k) (simpF r)) ≤ _; rw [szF_app]; omega
theorem htF_simp : ∀ t : Fo, htF (simpF t) ≤ htF t
  | .nil => Nat.le_refl _
  | .leaf x r => by have := htF_simp r; rw [simpF, htF, htF]; omega
  | .grp c k r => by
    have h1 := htF_simp k
    have h2 := htF_simp r
    rw [simpF, htF]
    cases oneB k
    · show htF (.grp c (simpF k) (simpF r)) ≤ _; rw [htF]; omega
    · show htF (appF (simpF k) (simpF r)) ≤ _; rw [htF_app]; omega
theorem simp_nil : ∀ {t : Fo}, t ≠ .nil → simpF t ≠ .nil
  | .nil, h => absurd rfl h
  | .leaf x r, _ => fun e => nomatch e
  | .grp c k r, _ => by
    rw [simpF]
    cases hk : oneB k
    · exact fun e => nomatch e
    · have h1 : simpF k ≠ .nil := simp_nil (fun e => by rw [e] at hk; cases hk)
      intro e
      show False
      have e : appF (simpF k) (simpF r) = .nil := e
      cases h2 : simpF k with
      | nil => exact h1 h2
      | leaf x q => rw [h2] at e; cases e
      | grp c k q => rw [h2] at e; cases e
theorem okF_simp {n : Int} : ∀ {t : Fo}, okF n t → okF n (simpF t)
  | .nil, _ => trivial
  | .leaf x r, ⟨h1, h2, h3, h4, h5⟩ => ⟨h1, h2, h3, h4, okF_simp h5⟩
  | .grp c k r, ⟨h1, h2, h3, h4, h5⟩ => by
    rw [simpF]
    cases oneB k
    · exact ⟨h1, h2, simp_nil h3, okF_simp h4, okF_simp h5⟩
    · exact okF_app (okF_simp h4) (okF_simp h5)
theorem one_simp : ∀ {t : Fo}, OneF t → OneF (simpF t)
  | .leaf x .nil, _ => .leaf x
  | .grp c k .nil, _ => by
    rw [simpF]
    cases hk : oneB k
    · exact .grp c _
    · show OneF (appF (simpF k) .nil)
      rw [app_nil]
      exact one_simp (oneB_iff.1 hk)
theorem GTr.simp {xs : List Cls} {t : Fo} (h : GTr xs t) : GTr xs (simpF t) := ⟨h.tree, one_simp h.one, okF_simp h.ok, Nat.le_trans (htF_simp t) h.ht, Nat.le_trans (szF_simp t) h.sz⟩
theorem flat_inj : ∀ (a b : Fo) (d : Int), flat d a = flat d b → a = b
  | .nil, .nil, _, _ => rfl
  | .nil, .leaf _ _, _, h => by simp [flat] at h
  | .nil, .grp _ _ _, _, h => by simp [flat] at h
  | .leaf _ _, .nil, _, h => by simp [flat] at h
  | .grp _ _ _, .nil, _, h => by simp [flat] at h
  | .leaf _ _, .grp _ _ _, _, h => by simp [flat] at h
  | .grp _ _ _, .leaf _ _, _, h => by simp [flat] at h
  | .leaf ⟨x1, x2⟩ r, .leaf ⟨y1, y2⟩ s, d, h => by
    simp only [flat, List.cons.injEq, Prt.mk.injEq, true_and] at h
    obtain ⟨⟨rfl, rfl⟩, h⟩ := h
    rw [flat_inj r s d h]
  | .grp c k r, .grp e q s, d, h => by
    simp only [flat, List.cons.injEq, Prt.mk.injEq, true_and] at h
    obtain ⟨rfl, h⟩ := h
    have hs : ∀ t : Fo, bel d (flat d t) = [] := fun t => bel_stop (fun p hp => flat_head (t := t) (d := d) (L := []) (p := p) (by rw [List.append_nil]; exact hp) (fun q hq => by cases hq))
    have h1 : flat (d + 1) k = flat (d + 1) q := by
      have := congrArg (bel d) h
      rw [bel_flat, bel_flat, hs, hs, List.append_nil, List.append_nil] at this
      exact this
    rw [h1] at h
    rw [flat_inj k q (d + 1) h1, flat_inj r s d (List.append_cancel_left h)]
open Classical in
/-- the tree of a list of parts -/
noncomputable def treeOf (g : List Prt) : Fo := if h : ∃ t, g = flat 0 t then h.choose else .nil
theorem treeOf_flat (t : Fo) : treeOf (flat 0 t) = t := by
  have h : ∃ t', flat 0 t = flat 0 t' := ⟨t, rfl⟩
  unfold treeOf
  rw [dif_pos h]
  exact (flat_inj _ _ 0 h.choose_spec).symm
theorem gOk_tree {xs : List Cls} {g : List Prt} (h : gOkS xs g = true) : g = flat 0 (treeOf g) ∧ GTr xs (treeOf g) := by
  obtain ⟨t, rfl, ht⟩ := gOk_iff.1 h
  rw [treeOf_flat]
  exact ⟨rfl, ht⟩
end

section
def leavesF : Fo → List Lef
  | .nil => []
  | .leaf x r => x :: leavesF r
  | .grp _ k r => leavesF k ++ leavesF r
theorem leaves_flat : ∀ (t : Fo) (d : Int), leavesL (flat d t) = leavesF t
  | .nil, _ => rfl
  | .leaf x r, d => by
    have := leaves_flat r d
    unfold leavesL at this ⊢
    rw [flat, List.filter_cons_of_pos (by rfl), List.map_cons, this]; rfl
  | .grp c k r, d => by
    have h1 := leaves_flat k (d + 1)
    have h2 := leaves_flat r d
    unfold leavesL at h1 h2 ⊢
    rw [flat, List.filter_cons_of_neg (by simp), List.filter_append, List.map_append, h1, h2]; rfl
theorem leaves_some {n : Int} : ∀ {t : Fo}, okF n t → t ≠ .nil → leavesF t ≠ []
  | .nil, _, h => absurd rfl h
  | .leaf x r, _, _ => by simp [leavesF]
  | .grp c k r, ok, _ => by
    have := leaves_some ok.2.2.2.1 ok.2.2.1
    simp [leavesF, this]
theorem one_ne {t : Fo} (h : OneF t) : t ≠ .nil := by cases h <;> exact fun e => nomatch e
theorem leaves_roots : ∀ t : Fo, leavesF t = ((rootsF t).map leavesF).flatten
  | .nil => rfl
  | .leaf x r => by rw [leavesF, rootsF, List.map_cons, List.flatten_cons, ← leaves_roots r]; rfl
  | .grp c k r => by rw [leavesF, rootsF, List.map_cons, List.flatten_cons, ← leaves_roots r]; simp [leavesF]
theorem leaves_mem {n : Int} : ∀ {t : Fo}, okF n t → ∀ x ∈ leavesF t, 0 ≤ x.cls ∧ x.cls < n ∧ 0 ≤ x.code ∧ x.code ≤ 99
  | .nil, _, x, h => nomatch h
  | .leaf y r, ok, x, h => by
    rcases List.mem_cons.1 h with rfl | h
    · exact ⟨ok.1, ok.2.1, ok.2.2.1, ok.2.2.2.1⟩
    · exact leaves_mem ok.2.2.2.2 x h
  | .grp c k r, ok, x, h => by
    rcases List.mem_append.1 h with h | h
    · exact leaves_mem ok.2.2.2.1 x h
    · exact leaves_mem ok.2.2.2.2 x h
theorem leaves_len : ∀ t : Fo, (leavesF t).length ≤ szF t
  | .nil => Nat.le_refl _
  | .leaf x r => by have := leaves_len r; rw [leavesF, szF, List.length_cons]; omega
  | .grp c k r => by have := leaves_len k; have := leaves_len r; rw [leavesF, szF, List.length_append]; omega
theorem leaves_keep (p : Lef → Bool) : ∀ t : Fo, leavesF (keepF p t) = (leavesF t).filter p
  | .nil => rfl
  | .leaf x r => by
    rw [keepF, leavesF, List.filter_cons, ← leaves_keep p r]
    cases p x <;> rfl
  | .grp c k r => by
    rw [keepF, leavesF, List.filter_append, ← leaves_keep p r, ← leaves_keep p k]
    cases e : anyFo p k
    · rw [keepF_none e]; rfl
    · rfl
theorem any_leaves (p : Lef → Bool) : ∀ t : Fo, anyFo p t = (leavesF t).any p
  | .nil => rfl
  | .leaf x r => by rw [anyFo, leavesF, List.any_cons, any_leaves p r]
  | .grp c k r => by rw [anyFo, leavesF, List.any_append, any_leaves p k, any_leaves p r]
theorem keep_keep (p q : Lef → Bool) : ∀ t : Fo, keepF q (keepF p t) = keepF (fun x => p x && q x) t
  | .nil => rfl
  | .leaf x r => by
    have ih := keep_keep p q r
    rw [keepF, keepF]
    cases p x
    · exact ih
    · show keepF q (.leaf x (keepF p r)) = cond (true && q x) _ _
      rw [keepF, ih]; rfl
  | .grp c k r => by
    have h1 := keep_keep p q k
    have h2 := keep_keep p q r
    have ha : anyFo (fun x => p x && q x) k = anyFo q (keepF p k) := by
      rw [any_leaves, any_leaves, leaves_keep]
      induction leavesF k with
      | nil => rfl
      | cons x l ih => rw [List.any_cons, List.filter_cons, ih]; cases p x <;> simp
    rw [keepF, keepF, ha]
    cases e : anyFo p k
    · have hq : anyFo q (keepF p k) = false := by rw [keepF_none e]; rfl
      rw [hq]; exact h2
    · show keepF q (.grp c (keepF p k) (keepF p r)) = _
      rw [keepF, h1, h2]
theorem keep_same {p q : Lef → Bool} : ∀ {t : Fo}, (∀ x ∈ leavesF t, p x = q x) → keepF p t = keepF q t
  | .nil, _ => rfl
  | .leaf x r, h => by
    rw [keepF, keepF, h x (List.mem_cons_self ..), keep_same (fun y hy => h y (List.mem_cons_of_mem _ hy))]
  | .grp c k r, h => by
    have h1 := keep_same (t := k) (fun y hy => h y (List.mem_append_left _ hy))
    have h2 := keep_same (t := r) (fun y hy => h y (List.mem_append_right _ hy))
    have ha : anyFo p k = anyFo q k := by
      rw [any_leaves, any_leaves, Bool.eq_iff_iff, List.any_eq_true, List.any_eq_true]
      constructor
      · rintro ⟨x, hx, e⟩; exact ⟨x, hx, by rw [← h x (List.mem_append_left _ hx)]; exact e⟩
      · rintro ⟨x, hx, e⟩; exact ⟨x, hx, by rw [h x (List.mem_append_left _ hx)]; exact e⟩
    rw [keepF, keepF, h1, h2, ha]
theorem keep_all {n : Int} {p : Lef → Bool} : ∀ {t : Fo}, okF n t → (∀ x ∈ leavesF t, p x = true) → keepF p t = t
  | .nil, _, _ => rfl
  | .leaf x r, ok, h => by
    rw [keepF, h x (List.mem_cons_self ..), keep_all ok.2.2.2.2 (fun y hy => h y (List.mem_cons_of_mem _ hy))]; rfl
  | .grp c k r, ok, h => by
    have hk := fun y hy => h y (List.mem_append_left _ hy)
    have ha : anyFo p k = true := by
      rw [any_leaves, List.any_eq_true]
      have := leaves_some ok.2.2.2.1 ok.2.2.1
      cases e : leavesF k with
      | nil => exact absurd e this
      | cons x l => exact ⟨x, List.mem_cons_self .., hk x (by rw [e]; exact List.mem_cons_self ..)⟩
    rw [keepF, ha, keep_all ok.2.2.2.1 hk, keep_all ok.2.2.2.2 (fun y hy => h y (List.mem_append_right _ hy))]; rfl
/-- how deep a row of trees is -/
theorem flat_att : ∀ {t : Fo}, t ≠ .nil → ∀ d : Int, ∃ p ∈ flat d t, p.depth + 1 = d + htF t
  | .nil, h, _ => absurd rfl h
  | .leaf x r, _, d => by
    by_cases hr : htF r ≤ 1
    · exact ⟨_, List.mem_cons_self .., by rw [htF, show max 1 (htF r) = 1 by omega]; rfl⟩
    · have hne : r ≠ .nil := fun e => by rw [e] at hr; exact hr (Nat.zero_le _)
      obtain ⟨p, hp, e⟩ := flat_att hne d
      exact ⟨p, List.mem_cons_of_mem _ hp, by rw [htF, show max 1 (htF r) = htF r by omega]; exact e⟩
  | .grp c k r, _, d => by
    by_cases hr : htF r ≤ 1 + htF k
    · by_cases hk : k = .nil
      · subst hk
        exact ⟨_, List.mem_cons_self .., by rw [htF, show max (1 + htF .nil) (htF r) = 1 by rw [show htF .nil = 0 from rfl] at hr ⊢; omega]; rfl⟩
      · obtain ⟨p, hp, e⟩ := flat_att hk (d + 1)
        exact ⟨p, List.mem_cons_of_mem _ (List.mem_append_left _ hp), by rw [htF, show max (1 + htF k) (htF r) = 1 + htF k by omega, e]; omega⟩
    · have hne : r ≠ .nil := fun e => by rw [e] at hr; exact hr (Nat.zero_le _)
      obtain ⟨p, hp, e⟩ := flat_att hne d
      exact ⟨p, List.mem_cons_of_mem _ (List.mem_append_right _ hp), by rw [htF, show max (1 + htF k) (htF r) = htF r by omega]; exact e⟩
theorem htF_roots : ∀ t : Fo, htF t = ((rootsF t).map htF).foldr max 0
  | .nil => rfl
  | .leaf x r => by rw [htF, rootsF, List.map_cons, List.foldr_cons, ← htF_roots r]; simp [htF]
  | .grp c k r => by rw [htF, rootsF, List.map_cons, List.foldr_cons, ← htF_roots r]; simp [htF]
theorem one_ht {t : Fo} (h : OneF t) : htF t = 1 + htF (kidsF t) := by cases h <;> simp [htF, kidsF]
theorem leaves_app : ∀ a b : Fo, leavesF (appF a b) = leavesF a ++ leavesF b
  | .nil, _ => rfl
  | .leaf x r, b => by rw [appF, leavesF, leaves_app r b]; rfl
  | .grp c k r, b => by rw [appF, leavesF, leaves_app r b, leavesF, List.append_assoc]
theorem leaves_simp : ∀ t : Fo, leavesF (simpF t) = leavesF t
  | .nil => rfl
  | .leaf x r => by rw [simpF, leavesF, leaves_simp r]; rfl
  | .grp c k r => by
    have h1 := leaves_simp k
    have h2 := leaves_simp r
    rw [simpF]
    cases oneB k
    · show leavesF (.grp c (simpF k) (simpF r)) = _; rw [leavesF, h1, h2]; rfl
    · show leavesF (appF (simpF k) (simpF r)) = _; rw [leaves_app, h1, h2]; rfl
/-- no group of one -/
def noOne : Fo → Prop
  | .nil => True
  | .leaf _ r => noOne r
  | .grp _ k r => oneB k = false ∧ noOne k ∧ noOne r
theorem noOne_app : ∀ {a b : Fo}, noOne a → noOne b → noOne (appF a b)
  | .nil, _, _, h => h
  | .leaf _ r, _, h, k => noOne_app (a := r) h k
  | .grp _ _ _, _, ⟨h1, h2, h3⟩, k => ⟨h1, h2, noOne_app h3 k⟩
theorem roots_app : ∀ a b : Fo, rootsF (appF a b) = rootsF a ++ rootsF b
  | .nil, _ => rfl
  | .leaf x r, b => by rw [appF, rootsF, roots_app r b]; rfl
  | .grp c k r, b => by rw [appF, rootsF, roots_app r b]; rfl
theorem simp_count : ∀ t : Fo, (rootsF (simpF t)).length = (rootsF t).length
  | .nil => rfl
  | .leaf x r => by rw [simpF, rootsF, rootsF, List.length_cons, List.length_cons, simp_count r]
  | .grp c k r => by
    have h2 := simp_count r
    rw [simpF, rootsF, List.length_cons]
    cases hk : oneB k
    · show (rootsF (.grp c (simpF k) (simpF r))).length = _; rw [rootsF, List.length_cons, h2]
    · show (rootsF (appF (simpF k) (simpF r))).length = _
      have h1 := simp_count k
      have h3 := of_decide_eq_true ((roots_len k).trans hk)
      rw [roots_app, List.length_append]; omega
theorem simp_oneB (t : Fo) : oneB (simpF t) = oneB t := by rw [← roots_len, ← roots_len, simp_count]
theorem noOne_simp : ∀ t : Fo, noOne (simpF t)
  | .nil => trivial
  | .leaf x r => noOne_simp r
  | .grp c k r => by
    have h1 := noOne_simp k
    have h2 := noOne_simp r
    rw [simpF]
    cases hk : oneB k
    · exact ⟨by rw [simp_oneB]; exact hk, h1, h2⟩
    · exact noOne_app h1 h2
theorem simp_noOne : ∀ {t : Fo}, noOne t → simpF t = t
  | .nil, _ => rfl
  | .leaf x r, h => by rw [simpF, simp_noOne (t := r) h]
  | .grp c k r, ⟨h1, h2, h3⟩ => by rw [simpF, h1, simp_noOne h2, simp_noOne h3]; rfl
theorem simp_simp (t : Fo) : simpF (simpF t) = simpF t := simp_noOne (noOne_simp t)
theorem noOne_root : ∀ {t : Fo}, noOne t → ∀ r ∈ rootsF t, noOne r
  | .nil, _, r, h => nomatch h
  | .leaf x q, ok, r, h => by
    rcases List.mem_cons.1 h with rfl | h2
    · trivial
    · exact noOne_root (t := q) ok r h2
  | .grp c k q, ok, r, h => by
    rcases List.mem_cons.1 h with rfl | h2
    · exact ⟨ok.1, ok.2.1, trivial⟩
    · exact noOne_root (t := q) ok.2.2 r h2
theorem noOne_kids {t : Fo} (h : OneF t) (ok : noOne t) : noOne (kidsF t) ∧ oneB (kidsF t) = false := by
  cases h with
  | leaf x => exact ⟨trivial, rfl⟩
  | grp c k => exact ⟨ok.2.1, ok.1⟩
/-- leaves as trees -/
def mkF : List Lef → Fo
  | [] => .nil
  | x :: r => .leaf x (mkF r)
def flatF : Fo → Fo
  | .nil => .nil
  | .leaf x r => .leaf x r
  | .grp c k _ => .grp c (mkF (leavesF k)) .nil
theorem flat_mk : ∀ (L : List Lef) , flat 1 (mkF L) = L.map (fun x => (⟨1, false, x.cls, x.code⟩ : Prt))
  | [] => rfl
  | x :: r => by rw [mkF, flat, flat_mk r]; rfl
theorem leaves_mk : ∀ L : List Lef, leavesF (mkF L) = L
  | [] => rfl
  | x :: r => by rw [mkF, leavesF, leaves_mk r]
theorem leaves_flatF {t : Fo} (h : OneF t) : leavesF (flatF t) = leavesF t := by
  cases h with
  | leaf x => rfl
  | grp c k => rw [flatF, leavesF, leaves_mk]; rfl
theorem flatF_flatF {t : Fo} (h : OneF t) : flatF (flatF t) = flatF t := by
  cases h with
  | leaf x => rfl
  | grp c k => rw [flatF, flatF, leaves_mk]
theorem okF_mk {n : Int} : ∀ {L : List Lef}, (∀ x ∈ L, 0 ≤ x.cls ∧ x.cls < n ∧ 0 ≤ x.code ∧ x.code ≤ 99) → okF n (mkF L)
  | [], _ => trivial
  | x :: _, h => ⟨(h x (List.mem_cons_self ..)).1, (h x (List.mem_cons_self ..)).2.1, (h x (List.mem_cons_self ..)).2.2.1, (h x (List.mem_cons_self ..)).2.2.2, okF_mk (fun y hy => h y (List.mem_cons_of_mem _ hy))⟩
theorem mk_ht : ∀ L : List Lef, htF (mkF L) ≤ 1
  | [] => Nat.zero_le _
  | x :: r => by have := mk_ht r; rw [mkF, htF]; omega
theorem mk_sz : ∀ L : List Lef, szF (mkF L) = L.length
  | [] => rfl
  | x :: r => by rw [mkF, szF, mk_sz r, List.length_cons]; omega
theorem mk_nil {L : List Lef} (h : L ≠ []) : mkF L ≠ .nil := by
  cases L with
  | nil => exact absurd rfl h
  | cons x r => exact fun e => nomatch e
theorem flatF_ht {t : Fo} (h : OneF t) : htF (flatF t) ≤ 2 := by
  cases h with
  | leaf x => show max 1 0 ≤ 2; omega
  | grp c k => have := mk_ht (leavesF k); rw [flatF, htF]; show max _ (htF .nil) ≤ _; rw [show htF .nil = 0 from rfl]; omega
theorem flatF_sz {t : Fo} (h : OneF t) : szF (flatF t) ≤ szF t := by
  cases h with
  | leaf x => exact Nat.le_refl _
  | grp c k => have := leaves_len k; rw [flatF, szF, mk_sz]; show _ ≤ 1 + szF k + 0; show 1 + _ + 0 ≤ _; omega
theorem GTr.flatF {xs : List Cls} {t : Fo} (h : GTr xs t) : GTr xs (flatF t) := by
  have hs := flatF_sz h.one
  have hh := flatF_ht h.one
  refine ⟨h.tree, ?_, ?_, ?_, Nat.le_trans hs h.sz⟩
  · cases h.one with
    | leaf x => exact .leaf x
    | grp c k => exact .grp c _
  · have ok := h.ok
    cases h.one with
    | leaf x => exact ok
    | grp c k =>
      exact ⟨ok.1, ok.2.1, mk_nil (leaves_some ok.2.2.2.1 ok.2.2.1), okF_mk (leaves_mem ok.2.2.2.1), trivial⟩
  · omega
theorem keep_mk (p : Lef → Bool) : ∀ L : List Lef, keepF p (mkF L) = mkF (L.filter p)
  | [] => rfl
  | x :: r => by rw [mkF, keepF, keep_mk p r, List.filter_cons]; cases p x <;> rfl
theorem keep_flatF (p : Lef → Bool) {t : Fo} (h : OneF t) (ha : anyFo p t = true) : keepF p (flatF t) = flatF (keepF p t) := by
  cases h with
  | leaf x =>
    have : p x = true := by simpa [anyFo] using ha
    rw [flatF, keepF, this]; rfl
  | grp c k =>
    have hk : anyFo p k = true := by simpa [anyFo] using ha
    have hm : anyFo p (mkF (leavesF k)) = true := by rw [any_leaves, leaves_mk, ← any_leaves]; exact hk
    have h2 : keepF p (.grp c k .nil) = .grp c (keepF p k) .nil := by rw [keepF, hk]; rfl
    rw [h2, flatF, keepF, hm]
    show Fo.grp c (keepF p (mkF (leavesF k))) .nil = flatF (.grp c (keepF p k) .nil)
    rw [keep_mk, flatF, leaves_keep]
theorem keep_one {p : Lef → Bool} {t : Fo} (h : OneF t) (ha : anyFo p t = true) : OneF (keepF p t) ∧ gAt (flat 0 (keepF p t)) 0 = gAt (flat 0 t) 0 := by
  cases h with
  | leaf x =>
    have : p x = true := by simpa [anyFo] using ha
    rw [keepF, this]; exact ⟨.leaf x, rfl⟩
  | grp c k =>
    have hk : anyFo p k = true := by simpa [anyFo] using ha
    rw [keepF, hk]; exact ⟨.grp c _, rfl⟩
/-- how often a leaf is in a list -/
def cntL (x : Lef) : List Lef → Nat
  | [] => 0
  | y :: r => cond (decide (y.cls = x.cls) && decide (y.code = x.code)) (1 + cntL x r) (cntL x r)
theorem cnt_split (p : Lef → Bool) (x : Lef) : ∀ L, cntL x (L.filter p) + cntL x (L.filter (fun y => !p y)) = cntL x L
  | [] => rfl
  | y :: r => by
    have ih := cnt_split p x r
    rw [List.filter_cons, List.filter_cons]
    cases p y
    · show cntL x (r.filter p) + cntL x (y :: r.filter (fun y => !p y)) = _
      rw [cntL, cntL]
      cases decide (y.cls = x.cls) && decide (y.code = x.code)
      · exact ih
      · show _ + (1 + _) = 1 + _; omega
    · show cntL x (y :: r.filter p) + cntL x (r.filter (fun y => !p y)) = _
      rw [cntL, cntL]
      cases decide (y.cls = x.cls) && decide (y.code = x.code)
      · exact ih
      · show (1 + _) + _ = 1 + _; omega
theorem cnt_pos (x : Lef) : ∀ {L : List Lef}, 0 < cntL x L ↔ x ∈ L
  | [] => by simp [cntL]
  | y :: r => by
    rw [cntL]
    cases h : decide (y.cls = x.cls) && decide (y.code = x.code)
    · show 0 < cntL x r ↔ _
      rw [cnt_pos x, List.mem_cons]
      constructor
      · exact .inr
      · rintro (rfl | h2)
        · simp at h
        · exact h2
    · simp only [Bool.and_eq_true, decide_eq_true_eq] at h
      obtain ⟨x1, x2⟩ := x
      obtain ⟨y1, y2⟩ := y
      obtain ⟨rfl, rfl⟩ : y1 = x1 ∧ y2 = x2 := h
      show 0 < 1 + _ ↔ _
      simp; omega
theorem cnt_pass (p : Lef → Bool) {x : Lef} {L : List Lef} (h : x ∈ L) : decide (0 < cntL x (L.filter p)) = p x := by
  rw [Bool.eq_iff_iff, decide_eq_true_eq, cnt_pos, List.mem_filter]
  exact ⟨fun e => e.2, fun e => ⟨h, e⟩⟩
/-- what several classes leave: the leaves of none of them -/
theorem hgR_keep {n : Int} (xs : List Cls) : ∀ (L : List Int) {t : Fo}, okF n t → hgR xs (flat 0 t) L = flat 0 (keepF (fun x => !L.any (fun a => isAL xs x.cls a)) t)
  | [], t, ok => by
    have : keepF (fun x : Lef => !([] : List Int).any (fun a => isAL xs x.cls a)) t = t := keep_all ok (fun _ _ => rfl)
    rw [this]; rfl
  | a :: L, t, ok => by
    rw [hgR]
    unfold selA
    rw [selG_flat, hgR_keep xs L (okF_keep _ ok), keep_keep]
    congr 1
    refine keep_same (fun x _ => ?_)
    rw [List.any_cons]
    cases isAL xs x.cls a <;> cases L.any (fun a => isAL xs x.cls a) <;> rfl
end

section
open Go.RowKit Go.Shelf
theorem good_leaf {xs : List Cls} {g : List Prt} (G : GoodG xs g) : ∀ x ∈ leavesL g, 0 ≤ x.cls ∧ x.cls < xs.length := by
  intro x hx
  unfold leavesL at hx
  obtain ⟨q, hq, rfl⟩ := List.mem_map.1 hx
  obtain ⟨hm, hg⟩ := List.mem_filter.1 hq
  obtain ⟨i, hi, e⟩ := List.getElem_of_mem hm
  have := G.leaf i hi (by rw [gAt_at hi, e]; simpa using hg)
  rw [gAt_at hi, e] at this
  exact this
/-- whether a group has a leaf of a class -/
def hcX (xs : List Cls) (g : List Prt) (a : Int) : Bool := gOkS xs g && hasK xs a && (leavesL g).any (fun x => isAL xs x.cls a)
theorem caughtLeaf_any (A : Option Addr) (n : Nat) (p : Option Addr) (w : World) :
    Calls Try.prog 38 #[.slice A n n, .iface 61 (.pointer p)] w fun e w' => e = .returned (.func (.func 64) #[] #[.pointer (some ⟨w.heap.size + 1, 0, none⟩), .pointer (some ⟨w.heap.size, 0, none⟩)]) ∧ w' = (w.alloc (.cells #[.slice A n n] 59)).alloc (.cells #[.iface 61 (.pointer p)] 95) := by
  go_enter Try.func38, Try.ntmps38
  go_wp2
  go_ret
  exact ⟨by simp, rfl⟩
set_option maxRecDepth 100000 in
set_option maxHeartbeats 2000000 in
theorem iHasClass_any (A B : Option Addr) (n cap m c : Nat) (xs : List Cls) (g : List Prt) (a : Int) (w : World) (hT : Sl w A n cap xs) (hG : Sl w B m c g) :
    Calls Try.prog 20 #[.agg #[.slice A n cap], .slice B m c, .int .i64 a] w fun e w' => e = .returned (.bool (hcX xs g a)) ∧ Le w w' := by
  have hl := Le.new w (.cells #[.slice A n cap] 25)
  obtain ⟨c0, z0, hl⟩ := box1 w (.slice A n cap) 25
  have hS := hT.le hl
  have hG1 := hG.le hl
  go_enter Try.func20, Try.ntmps20
  go_wp2_with fail
  generalize w.alloc (.cells #[.slice A n cap] 25) = w1 at *
  refine (nodesOf_any A n cap xs _ hS).mono ?_
  intro e w2 hout
  obtain ⟨hle, A2, n2, gs, rfl, hS2, hcase⟩ := nodes_one hout
  have hS1 := hS.le hle
  have hG2 := hG1.le hle
  have hLL := hl.trans hle
  have d0 := (hle.cell z0).trans c0
  clear hout
  go_wp2_with fail
  refine (nodeAt_any _ _ _ gs a _ hS2).mono ?_
  rintro e w3 ⟨rfl, rfl⟩
  by_cases hno : (okTree xs && hasK xs a) = true
  · have hab : okTree xs = true ∧ hasK xs a = true := by simpa using hno
    have g0 := good_of hab.1
    rcases hcase with ⟨h0, _⟩ | ⟨h1, rfl, hN⟩
    · rw [hab.1] at h0; cases h0
    · rcases ptr_cases hN.len a with ⟨h2, _⟩ | ⟨_, j, hj, rfl, hp⟩
      · rw [hab.2] at h2; cases h2
      · rw [hp]
        have hhi := g0.hi
        have HK := Lib.hid hab.2
        clear hab hno h1 hp
        go_wp2_with fail
        refine (iValidGroupS_any _ _ _ _ _ _ xs g _ hS1 hG2).mono ?_
        rintro e w3 ⟨rfl, hle3⟩
        have hS3 := hS2.le hle3
        have hG3 := hG2.le hle3
        have hN3 := hN.le hle3
        have hL3 := hLL.trans hle3
        have HF : Hid (hcX xs g j = (gOkS xs g && (leavesL g).any (fun x => isAL xs x.cls j))) := by show _ = _; unfold hcX; rw [HK.out, Bool.and_true]
        cases hg : gOkS xs g
        · rw [hg] at HF
          go_wp2
          go_ret
          exact ⟨ret_bool HF.out.symm, hL3⟩
        · rw [hg] at HF
          have G := goodG_of (by rw [← gOk_same]; exact hg)
          have GL := good_leaf G
          clear hg
          go_wp2_with fail
          refine (caughtLeaf_any _ _ _ _).mono ?_
          rintro e w4 ⟨rfl, rfl⟩
          obtain ⟨b0, y0, b1, y1, hl5⟩ := box2 w3 (.slice A2 xs.length xs.length) (.iface 61 (.pointer (some ⟨gs[j].g, 0, none⟩))) 59 95
          have hS5 := hS3.le hl5
          have hG5 := hG3.le hl5
          have hN5 := hN3.le hl5
          have hL5 := hL3.trans hl5
          generalize (w3.alloc (.cells #[.slice A2 xs.length xs.length] 59)).alloc (.cells #[.iface 61 (.pointer (some ⟨gs[j].g, 0, none⟩))] 95) = w5 at *
          go_wp2_with fail
          refine (hasLeaf_in _ _ (fun x => isAL xs x.cls j) B m c g w5 hG5 (fun x W hx hW => caughtLeaf1_any _ _ A2 gs xs g0 j hj x.cls x.code (GL x hx).1 (GL x hx).2 W (hS5.le hW) (hN5.le hW) ((hW.cell y1).trans b1) ((hW.cell y0).trans b0) (Nat.lt_of_lt_of_le y1 hW.size) (Nat.lt_of_lt_of_le y0 hW.size))).mono ?_
          rintro e w6 ⟨rfl, hle6⟩
          have hL6 := hL5.trans hle6
          go_wp2
          go_ret
          exact ⟨ret_bool HF.out.symm, hL6⟩
  · have h1 : (okTree xs && hasK xs a) = false := by simpa using hno
    have HF : Hid (hcX xs g a = false) := by
      show _ = _
      unfold hcX gOkS
      cases e1 : okTree xs
      · simp
      · rw [e1] at h1
        have : hasK xs a = false := by simpa using h1
        rw [this]; simp
    have hp : ptrOf gs a = none := by
      rcases hcase with ⟨h0, _, rfl⟩ | ⟨h0, _, hN⟩
      · exact ptrOf_nil a
      · rcases ptr_cases hN.len a with ⟨_, h⟩ | ⟨h, _⟩
        · exact h
        · rw [h0, h] at h1; cases h1
    rw [hp]
    clear hp hcase h1 hno
    go_wp2
    go_ret
    exact ⟨ret_bool HF.out.symm, hLL⟩
end

section
end
end Go.Proofs.Ytpkkkpfanedieaa
