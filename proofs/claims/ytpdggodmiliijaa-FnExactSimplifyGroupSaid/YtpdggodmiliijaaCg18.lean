/- one text of GpG, ItV -/
import Derived.Test.YtpdggodmiliijaaCg9
import Derived.Test.YtpdggodmiliijaaCg11
import Derived.Test.YtpdggodmiliijaaCg16
namespace Go.Proofs.Ytpdggodmiliijaa
open Go.RowKit
set_option linter.unusedVariables false
section
theorem flat_shift : ∀ (t : Fo) (d e : Int), shiftL (flat d t) e = flat (d + e) t
  | .nil, _, _ => rfl
  | .leaf x r, d, e => by
    have := flat_shift r d e
    unfold shiftL at this ⊢
    rw [flat, List.map_cons, this]; rfl
  | .grp c k r, d, e => by
    have h1 := flat_shift k (d + 1) e
    have h2 := flat_shift r d e
    unfold shiftL at h1 h2 ⊢
    rw [flat, List.map_cons, List.map_append, h1, h2, flat, show d + 1 + e = d + e + 1 by omega]
/-- the pieces of a list of parts -/
def pcs : Nat → List Prt → List (List Prt)
  | 0, _ => []
  | _ + 1, [] => []
  | m + 1, p :: r => (p :: bel p.depth r) :: pcs m (r.drop (bel p.depth r).length)
theorem kd_pcs (g : List Prt) : ∀ m f, (kdS g m f g.length).map (piece g) = pcs m (g.drop f)
  | 0, _ => rfl
  | m + 1, f => by
    have e : kdS g (m + 1) f g.length = if f < g.length then f :: kdS g m (endN g f) g.length else [] := rfl
    rw [e]
    by_cases h : f < g.length
    · rw [if_pos h, List.map_cons, kd_pcs g m, piece_bel h, drop_gAt h, pcs, List.drop_drop, endN_bel h]
    · rw [if_neg h, List.drop_eq_nil_of_le (by omega)]; rfl
theorem pcs_flat : ∀ (t : Fo) (d : Int) (m : Nat), (flat d t).length ≤ m → pcs m (flat d t) = (rootsF t).map (flat d)
  | .nil, d, 0, _ => rfl
  | .nil, d, m + 1, _ => rfl
  | .leaf x r, d, 0, h => by simp [flat] at h
  | .grp c k r, d, 0, h => by simp [flat] at h
  | .leaf x r, d, m + 1, h => by
    have hb : bel d (flat d r) = [] := bel_stop (fun q hq => by have := flat_head (t := r) (d := d) (L := []) (p := q) (by rw [List.append_nil]; exact hq) (fun q hq => by cases hq); exact this)
    rw [flat, pcs, rootsF, List.map_cons]
    show (_ :: bel d (flat d r)) :: pcs m ((flat d r).drop (bel d (flat d r)).length) = _
    rw [hb, List.length_nil, List.drop_zero, pcs_flat r d m (by rw [flat, List.length_cons] at h; omega)]; rfl
  | .grp c k r, d, m + 1, h => by
    have hb0 : bel d (flat d r) = [] := bel_stop (fun q hq => by have := flat_head (t := r) (d := d) (L := []) (p := q) (by rw [List.append_nil]; exact hq) (fun q hq => by cases hq); exact this)
    have hb : bel d (flat (d + 1) k ++ flat d r) = flat (d + 1) k := by rw [bel_flat, hb0, List.append_nil]
    rw [flat, pcs, rootsF, List.map_cons]
    show (_ :: bel d (flat (d + 1) k ++ flat d r)) :: pcs m ((flat (d + 1) k ++ flat d r).drop (bel d (flat (d + 1) k ++ flat d r)).length) = _
    rw [hb, List.drop_left, pcs_flat r d m (by rw [flat, List.length_cons, List.length_append] at h; omega)]
    simp [flat]
/-- what lies right below a tree -/
def kidsF : Fo → Fo
  | .nil => .nil
  | .leaf _ _ => .nil
  | .grp _ k _ => k
theorem one_flat {t : Fo} (h : OneF t) (d : Int) : ∃ p, flat d t = p :: flat (d + 1) (kidsF t) ∧ p.depth = d := by
  cases h with
  | leaf x => exact ⟨_, rfl, rfl⟩
  | grp c k => exact ⟨_, by simp only [flat, kidsF]; rw [List.append_nil], rfl⟩
theorem roots_one : ∀ {t : Fo}, ∀ r ∈ rootsF t, OneF r
  | .nil, r, h => nomatch h
  | .leaf x q, r, h => by
    rcases List.mem_cons.1 h with rfl | h
    · exact .leaf x
    · exact roots_one r h
  | .grp c k q, r, h => by
    rcases List.mem_cons.1 h with rfl | h
    · exact .grp c k
    · exact roots_one r h
theorem one_norm {r : Fo} (h : OneF r) (d : Int) : shiftL (flat d r) (-(gAt (flat d r) 0).depth) = flat 0 r := by
  obtain ⟨p, e, hp⟩ := one_flat h d
  have : (gAt (flat d r) 0).depth = d := by rw [e]; exact hp
  rw [this, flat_shift, show d + -d = 0 by omega]
theorem gAt_piece {g : List Prt} {i : Nat} (h : i < g.length) : gAt (piece g i) 0 = gAt g i := by rw [piece_bel h]; rfl
theorem kdS_lt (g : List Prt) : ∀ (m f : Nat), ∀ i ∈ kdS g m f g.length, i < g.length
  | 0, _, i, h => nomatch h
  | m + 1, f, i, h => by
    have e : kdS g (m + 1) f g.length = if f < g.length then f :: kdS g m (endN g f) g.length else [] := rfl
    rw [e] at h
    by_cases hl : f < g.length
    · rw [if_pos hl] at h
      rcases List.mem_cons.1 h with rfl | h
      · exact hl
      · exact kdS_lt g m _ i h
    · rw [if_neg hl] at h; cases h
/-- the pieces right below a tree at a depth -/
theorem kids_pieces {t : Fo} (h : OneF t) (d : Int) : (kdS (flat d t) (flat d t).length 1 (flat d t).length).map (piece (flat d t)) = (rootsF (kidsF t)).map (flat (d + 1)) := by
  rw [kd_pcs]
  obtain ⟨p, e, -⟩ := one_flat h d
  have hd : (flat d t).drop 1 = flat (d + 1) (kidsF t) := by rw [e]; rfl
  rw [hd, pcs_flat]
  rw [e, List.length_cons]; omega
theorem kidsL_flat {t : Fo} (h : OneF t) : kidsL (flat 0 t) = (rootsF (kidsF t)).map (flat 0) := by
  have h1 := kids_pieces h 0
  have h2 : kidsL (flat 0 t) = ((kdS (flat 0 t) (flat 0 t).length 1 (flat 0 t).length).map (piece (flat 0 t))).map (fun l => shiftL l (-(gAt l 0).depth)) := by
    unfold kidsL
    rw [List.map_map]
    refine List.map_congr_left (fun i hi => ?_)
    show kidAt _ i = shiftL _ (-(gAt (piece _ i) 0).depth)
    rw [gAt_piece (kdS_lt _ _ _ i hi)]; rfl
  rw [h2, h1, List.map_map]
  refine List.map_congr_left (fun r hr => ?_)
  exact one_norm (roots_one r hr) _
def appF : Fo → Fo → Fo
  | .nil, s => s
  | .leaf x r, s => .leaf x (appF r s)
  | .grp c k r, s => .grp c k (appF r s)
theorem flat_app : ∀ (a b : Fo) (d : Int), flat d (appF a b) = flat d a ++ flat d b
  | .nil, _, _ => rfl
  | .leaf x r, b, d => by rw [appF, flat, flat_app r b d, flat]; rfl
  | .grp c k r, b, d => by rw [appF, flat, flat_app r b d, flat, List.cons_append, List.append_assoc]
def oneB : Fo → Bool
  | .leaf _ .nil => true
  | .grp _ _ .nil => true
  | _ => false
theorem oneB_iff {t : Fo} : oneB t = true ↔ OneF t := by
  constructor
  · intro h
    match t, h with
    | .leaf x .nil, _ => exact .leaf x
    | .grp c k .nil, _ => exact .grp c k
  · rintro (x | ⟨c, k⟩) <;> rfl
theorem roots_len : ∀ t : Fo, decide ((rootsF t).length = 1) = oneB t
  | .nil => rfl
  | .leaf _ .nil => rfl
  | .leaf _ (.leaf _ _) => by simp [rootsF, oneB]
  | .leaf _ (.grp _ _ _) => by simp [rootsF, oneB]
  | .grp _ _ .nil => rfl
  | .grp _ _ (.leaf _ _) => by simp [rootsF, oneB]
  | .grp _ _ (.grp _ _ _) => by simp [rootsF, oneB]
theorem one_roots {t : Fo} (h : OneF t) : rootsF t = [t] := by cases h <;> rfl
/-- trees without groups of one -/
def simpF : Fo → Fo
  | .nil => .nil
  | .leaf x r => .leaf x (simpF r)
  | .grp c k r => cond (oneB k) (appF (simpF k) (simpF r)) (.grp c (simpF k) (simpF r))
theorem simp_roots : ∀ (t : Fo) (d : Int), flat d (simpF t) = ((rootsF t).map (fun r => flat d (simpF r))).flatten
  | .nil, _ => rfl
  | .leaf x r, d => by
    rw [simpF, rootsF, List.map_cons, List.flatten_cons, ← simp_roots r d]; rfl
  | .grp c k r, d => by
    rw [simpF, rootsF, List.map_cons, List.flatten_cons, ← simp_roots r d, simpF]
    cases oneB k
    · show flat d (.grp c (simpF k) (simpF r)) = flat d (.grp c (simpF k) .nil) ++ _
      simp [flat]
    · show flat d (appF (simpF k) (simpF r)) = flat d (appF (simpF k) .nil) ++ _
      rw [flat_app, flat_app]; simp [flat]
/-- a tree without groups of one: what lies right below it, if that is one; else all of it -/
theorem simp_one {t : Fo} (h : OneF t) (hk : oneB (kidsF t) = true) (d : Int) : flat d (simpF t) = flat d (simpF (kidsF t)) := by
  cases h with
  | leaf x => cases hk
  | grp c k =>
    have hk : oneB k = true := hk
    rw [simpF, hk]
    show flat d (appF (simpF k) .nil) = _
    rw [flat_app]; simp [flat, kidsF]
theorem simp_more {t : Fo} (h : OneF t) (hk : oneB (kidsF t) = false) (d : Int) : flat d (simpF t) = gAt (flat d t) 0 :: ((rootsF (kidsF t)).map (fun r => flat (d + 1) (simpF r))).flatten := by
  rw [← simp_roots]
  cases h with
  | leaf x => rfl
  | grp c k =>
    have hk : oneB k = false := hk
    rw [simpF, hk]
    show flat d (.grp c (simpF k) .nil) = _
    simp [flat, kidsF, gAt]
theorem szF_root : ∀ {t : Fo}, ∀ r ∈ rootsF t, szF r ≤ szF t
  | .nil, r, h => nomatch h
  | .leaf x q, r, h => by
    rcases List.mem_cons.1 h with rfl | h
    · rw [szF, szF, szF]; omega
    · have := szF_root r h; rw [szF]; omega
  | .grp c k q, r, h => by
    rcases List.mem_cons.1 h with rfl | h
    · rw [szF, szF, szF]; omega
    · have := szF_root r h; rw [szF]; omega
theorem htF_root : ∀ {t : Fo}, ∀ r ∈ rootsF t, htF r ≤ htF t
  | .nil, r, h => nomatch h
  | .leaf x q, r, h => by
    rcases List.mem_cons.1 h with rfl | h
    · rw [htF, htF, htF]; omega
    · have := htF_root r h; rw [htF]; omega
  | .grp c k q, r, h => by
    rcases List.mem_cons.1 h with rfl | h
    · rw [htF, htF, htF]; omega
    · have := htF_root r h; rw [htF]; omega
theorem okF_root {n : Int} : ∀ {t : Fo}, okF n t → ∀ r ∈ rootsF t, okF n r
  | .nil, _, r, h => nomatch h
  | .leaf x q, ⟨h1, h2, h3, h4, h5⟩, r, h => by
    rcases List.mem_cons.1 h with rfl | h
    · exact ⟨h1, h2, h3, h4, trivial⟩
    · exact okF_root h5 r h
  | .grp c k q, ⟨h1, h2, h3, h4, h5⟩, r, h => by
    rcases List.mem_cons.1 h with rfl | h
    · exact ⟨h1, h2, h3, h4, trivial⟩
    · exact okF_root h5 r h
theorem szF_kids {t : Fo} (h : OneF t) : szF t = 1 + szF (kidsF t) := by cases h <;> simp [szF, kidsF]
theorem htF_kids {t : Fo} (h : OneF t) : htF (kidsF t) + 1 ≤ htF t ∨ kidsF t = .nil := by
  cases h with
  | leaf x => exact .inr rfl
  | grp c k => left; simp only [htF, kidsF]; omega
theorem okF_kids {n : Int} {t : Fo} (h : OneF t) (ok : okF n t) : okF n (kidsF t) := by
  cases h with
  | leaf x => trivial
  | grp c k => exact ok.2.2.2.1
theorem GT.kid {xs : List Cls} {t r : Fo} (h : GT xs t) (hr : r ∈ rootsF (kidsF t)) : GT xs r := by
  have h1 := szF_root r hr
  have h2 := htF_root r hr
  have h3 := szF_kids h.one
  have h4 : htF (kidsF t) ≤ htF t := by
    rcases htF_kids h.one with e | e
    · omega
    · rw [e]; exact Nat.zero_le _
  exact ⟨h.tree, roots_one r hr, okF_root (okF_kids h.one h.ok) r hr, by have := h.ht; omega, by have := h.sz; omega⟩
/-- a tree without groups of one is no greater, no deeper, valid -/
theorem szF_app : ∀ (a b : Fo), szF (appF a b) = szF a + szF b
  | .nil, b => by show szF b = 0 + szF b; omega
  | .leaf x r, b => by rw [appF, szF, szF, szF_app r b]; omega
  | .grp c k r, b => by rw [appF, szF, szF, szF_app r b]; omega
theorem htF_app : ∀ (a b : Fo), htF (appF a b) = max (htF a) (htF b)
  | .nil, b => by show htF b = max 0 (htF b); omega
  | .leaf x r, b => by rw [appF, htF, htF, htF_app r b]; omega
  | .grp c k r, b => by rw [appF, htF, htF, htF_app r b]; omega
theorem okF_app {n : Int} : ∀ {a b : Fo}, okF n a → okF n b → okF n (appF a b)
  | .nil, _, _, h => h
  | .leaf _ _, _, ⟨h1, h2, h3, h4, h5⟩, h => ⟨h1, h2, h3, h4, okF_app h5 h⟩
  | .grp _ _ _, _, ⟨h1, h2, h3, h4, h5⟩, h => ⟨h1, h2, h3, h4, okF_app h5 h⟩
theorem app_nil : ∀ a : Fo, appF a .nil = a
  | .nil => rfl
  | .leaf x r => by rw [appF, app_nil r]
  | .grp c k r => by rw [appF, app_nil r]
theorem szF_simp : ∀ t : Fo, szF (simpF t) ≤ szF t
  | .nil => Nat.le_refl _
  | .leaf x r => by have := szF_simp r; rw [simpF, szF, szF]; omega
  | .grp c k r => by
    have h1 := szF_simp k
    have h2 := szF_simp r
    rw [simpF, szF]
    cases oneB k
    · show szF (.grp c (simpF k) (simpF r)) ≤ _; rw [szF]; omega
    · show szF (appF (simpF k) (simpF r)) ≤ _; rw [szF_app]; omega
theorem htF_simp : ∀ t : Fo, htF (simpF t) ≤ htF t
  | .nil => Nat.le_refl _
  | .leaf x r => by have := htF_simp r; rw [simpF, htF, htF]; omega
  | .grp c k r => by
    have h1 := htF_simp k
    have h2 := htF_simp r
    rw [simpF, htF]
    cases oneB k
    · show htF (.grp c (simpF k) (simpF r)) ≤ _; rw [htF]; omega
    · show htF (appF (simpF k) (simpF r)) ≤ _; rw [htF_app]; omega
theorem simp_nil : ∀ {t : Fo}, t ≠ .nil → simpF t ≠ .nil
  | .nil, h => absurd rfl h
  | .leaf x r, _ => fun e => nomatch e
  | .grp c k r, _ => by
    rw [simpF]
    cases hk : oneB k
    · exact fun e => nomatch e
    · have h1 : simpF k ≠ .nil := simp_nil (fun e => by rw [e] at hk; cases hk)
      intro e
      show False
      have e : appF (simpF k) (simpF r) = .nil := e
      cases h2 : simpF k with
      | nil => exact h1 h2
      | leaf x q => rw [h2] at e; cases e
      | grp c k q => rw [h2] at e; cases e
theorem okF_simp {n : Int} : ∀ {t : Fo}, okF n t → okF n (simpF t)
  | .nil, _ => trivial
  | .leaf x r, ⟨h1, h2, h3, h4, h5⟩ => ⟨h1, h2, h3, h4, okF_simp h5⟩
  | .grp c k r, ⟨h1, h2, h3, h4, h5⟩ => by
    rw [simpF]
    cases oneB k
    · exact ⟨h1, h2, simp_nil h3, okF_simp h4, okF_simp h5⟩
    · exact okF_app (okF_simp h4) (okF_simp h5)
theorem one_simp : ∀ {t : Fo}, OneF t → OneF (simpF t)
  | .leaf x .nil, _ => .leaf x
  | .grp c k .nil, _ => by
    rw [simpF]
    cases hk : oneB k
    · exact .grp c _
    · show OneF (appF (simpF k) .nil)
      rw [app_nil]
      exact one_simp (oneB_iff.1 hk)
theorem GT.simp {xs : List Cls} {t : Fo} (h : GT xs t) : GT xs (simpF t) := ⟨h.tree, one_simp h.one, okF_simp h.ok, Nat.le_trans (htF_simp t) h.ht, Nat.le_trans (szF_simp t) h.sz⟩
theorem flat_inj : ∀ (a b : Fo) (d : Int), flat d a = flat d b → a = b
  | .nil, .nil, _, _ => rfl
  | .nil, .leaf _ _, _, h => by simp [flat] at h
  | .nil, .grp _ _ _, _, h => by simp [flat] at h
  | .leaf _ _, .nil, _, h => by simp [flat] at h
  | .grp _ _ _, .nil, _, h => by simp [flat] at h
  | .leaf _ _, .grp _ _ _, _, h => by simp [flat] at h
  | .grp _ _ _, .leaf _ _, _, h => by simp [flat] at h
  | .leaf ⟨x1, x2⟩ r, .leaf ⟨y1, y2⟩ s, d, h => by
    simp only [flat, List.cons.injEq, Prt.mk.injEq, true_and] at h
    obtain ⟨⟨rfl, rfl⟩, h⟩ := h
    rw [flat_inj r s d h]
  | .grp c k r, .grp e q s, d, h => by
    simp only [flat, List.cons.injEq, Prt.mk.injEq, true_and] at h
    obtain ⟨rfl, h⟩ := h
    have hs : ∀ t : Fo, bel d (flat d t) = [] := fun t => bel_stop (fun p hp => flat_head (t := t) (d := d) (L := []) (p := p) (by rw [List.append_nil]; exact hp) (fun q hq => by cases hq))
    have h1 : flat (d + 1) k = flat (d + 1) q := by
      have := congrArg (bel d) h
      rw [bel_flat, bel_flat, hs, hs, List.append_nil, List.append_nil] at this
      exact this
    rw [h1] at h
    rw [flat_inj k q (d + 1) h1, flat_inj r s d (List.append_cancel_left h)]
open Classical in
/-- the tree of a list of parts -/
noncomputable def treeOf (g : List Prt) : Fo := if h : ∃ t, g = flat 0 t then h.choose else .nil
theorem treeOf_flat (t : Fo) : treeOf (flat 0 t) = t := by
  have h : ∃ t', flat 0 t = flat 0 t' := ⟨t, rfl⟩
  unfold treeOf
  rw [dif_pos h]
  exact (flat_inj _ _ 0 h.choose_spec).symm
theorem gOk_tree {xs : List Cls} {g : List Prt} (h : gOkS xs g = true) : g = flat 0 (treeOf g) ∧ GT xs (treeOf g) := by
  obtain ⟨t, rfl, ht⟩ := gOk_iff.1 h
  rw [treeOf_flat]
  exact ⟨rfl, ht⟩
end

section
open Go.RowKit Go.Shelf
attribute [local go_sem] Oper.semAt_some
theorem cell_one_newL (w : World) (x : Value) (t : TypeId) : ∀ j u, [x][j]? = some u → (w.alloc (.cells #[x] t)).cell? ((⟨w.heap.size, 0, none⟩ : Addr).add j) = some u := by
  intro j u hj
  match j, hj with
  | 0, hj => simp at hj; subst hj; simp [Addr.add]
  | _ + 1, hj => simp at hj
/-- a piece as a slice -/
def hdrK (g : List Prt) (b off C x : Nat) : Hdr := ⟨some ⟨b, off + x * 4, none⟩, endN g x - x, C - x⟩
set_option maxRecDepth 100000 in
set_option maxHeartbeats 4000000 in
theorem appendKids_any (Bg b off C : Nat) (g : List Prt) (h1 : 0 < g.length) (hm : g.length ≤ 16) (w : World) (S : Sl w (some ⟨b, off, none⟩) g.length C g) (hBg : w.cell? ⟨Bg, 0, none⟩ = some (.slice (some ⟨b, off, none⟩) g.length C)) (zBg : Bg < w.heap.size) :
    Calls Try.prog 102 #[.slice none 0 0, .func (.func 94) #[] #[.pointer (some ⟨Bg, 0, none⟩)]] w fun e w' => ∃ v, e = .returned v ∧ Owd 34 w w' v ((kdS g g.length 1 g.length).map (hdrK g b off C)) ∧ Le w w' := by
  obtain ⟨i0, hi, hz0, hz1, hz2⟩ := info_parts infoPartSl'
  have SB : SlB w.heap.size w (some ⟨b, off, none⟩) g.length C g := ⟨S, fun hn a e => by obtain ⟨b, off, e2, hb, -⟩ := S.at_ hn; rw [e2] at e; cases e; exact hb⟩
  refine (callsIn_wide (n := 6)).1 ?_
  refine callsIn_of_wp_marks Try.func102 rfl trivial ?_ rfl
  simp only [Try.ntmps102, List.size_toArray, List.length_cons, List.length_nil, Nat.reduceAdd, Nat.reduceSub, Array.replicate_succ, Array.replicate_zero, List.push_toArray, List.append_toArray, List.nil_append, List.cons_append]
  gi_wp2
  have bO := Boxed.new w 48 (.slice none 0 0)
  have hB0 : Le w (w.alloc (.cells #[.slice none 0 0] 48)) := Le.new w _
  have hsz : (w.alloc (.cells #[.slice none 0 0] 48)).heap.size = w.heap.size + 1 := by simp
  have dBg := (hB0.cell zBg).trans hBg
  generalize w.alloc (.cells #[.slice none 0 0] 48) = W0 at *
  refine wpIn_rangeFunc_ownH rfl (by omega) (gf := 94) (lb := #[.pointer (some ⟨Bg, 0, none⟩)]) rfl trivial (enters_of Try.func94 (by kernel_rfl) rfl)
    (kids_stops (6 - 1) (by omega) Bg w.heap.size b off C g 0 g.length hm h1 (Nat.le_refl _) (fun i _ h2 => endN_le h2) (fun k => 0 < k ∧ k < g.length) (fun i h1 h2 => ⟨h1, h2⟩) W0 (by omega) (by omega) dBg (SB.below hB0)) KpB.trans (kpB_b (by omega) (by omega)) (Below.refl _ _) (fun _ => rfl)
    (fun pre W => (∃ v, Boxed W w.heap.size 48 v ∧ W.ownsRow w.heap.size 34 1 v pre.length (((pre.map (·.1)).map (hdrK g b off C)).flatMap Enc.cells) ∧ True) ∧ Below w.heap.size w W)
    (fun _ _ _ => False)
    (OwnFrom.and (Own.from (holdsRow_own w.heap.size w.heap.size 48 34 1 (fun (pre : List { x : Nat // 0 < x ∧ x < g.length }) => pre.length) (fun pre => ((pre.map (·.1)).map (hdrK g b off C)).flatMap Enc.cells) (fun _ _ => True)) _) (ownFrom_below (Nat.le_refl _) (by omega)))
    (fun _ _ _ _ _ hs _ _ => hs)
    ⟨⟨_, bO, World.ownsRow_nil _ _ _ _, trivial⟩, hB0⟩
    (fun x a' _ => a' = { tmps := #[.slice none 0 0, .func (.func 94) #[] #[.pointer (some ⟨Bg, 0, none⟩)], .pointer (some ⟨w.heap.size, 0, none⟩), undef, .slice none 0 0, .slice (some ⟨b, off + x.1 * 4, none⟩) (endN g x.1 - x.1) (C - x.1), .func (.func 94) #[] #[.pointer (some ⟨Bg, 0, none⟩)], .slice (some ⟨b, off + x.1 * 4, none⟩) (endN g x.1 - x.1) (C - x.1), undef, undef, undef, undef, undef], defers := [] })
    (fun _ _ _ _ _ _ hs _ _ => hs)
    ?assign ?body ?done ?stop
  case assign =>
    rintro l pre x W' K hI' hK
    gi_wp2
    exact hK _ _ (KeepsFrom.refl _ _) (KpB.refl _ _ _) hI' rfl
  case body =>
    rintro l pre x a' W hl ⟨r, hr⟩ ⟨⟨v, hv, hrow, -⟩, hB⟩ rfl hlt
    have hc := hv.cell
    gi_wp2_with (gi_at_builtin; refine wpListIn_append_own _ rfl _ _ 48 rfl w.heap.size 34 i0 _ 1 24 Try.underlying48 hi hz0 hz1 hz2 rfl (by decide) _ _ _ rfl (hrow.alloc _) ⟨W.heap.size, 0, none⟩ 1 1 [.slice (some ⟨b, off + x.1 * 4, none⟩) (endN g x.1 - x.1) (C - x.1)] rfl rfl (cell_one_newL _ _ _) (by intro u hu; simp at hu; subst hu; rfl) (by unfold maxLen; omega) (by omega) (by have := hB.size; simp; omega) ?_; intro v' w1 hown' hgrow _; obtain ⟨g', cap', rfl⟩ := ownsRow_succ hown'; obtain ⟨hv1, hv2, hr2, hk2, hb2⟩ := hv.appended (by decide) hrow hB.size (Nat.le_refl _) hown' hgrow; have hc1 := hv1.cell; have hf1 := hv1.frozen)
    refine ⟨hk2.from _, ⟨hb2.size, fun k hk => ?_⟩, ⟨_, hv2, ?_, trivial⟩, hB.trans hb2⟩
    · rcases hk with hk | hk
      · exact hb2.block k hk
      · exact hb2.block k (by omega)
    · rw [List.map_append, List.map_append, List.flatMap_append, List.length_append]; exact hr2
  case done =>
    rintro D ys W hD hz ⟨⟨v, hv, hrow, -⟩, hB⟩ hK
    have hc := hv.cell
    have hz' : ys.map (·.1) = kdS g g.length 1 g.length := hz
    have hll : ys.length = ((kdS g g.length 1 g.length).map (hdrK g b off C)).length := by rw [← hz', List.length_map, List.length_map]
    rw [hz', hll] at hrow
    have HR := Lib.hid hrow
    clear hrow hll
    gi_wp2
    refine ⟨by simp, .inl ⟨_, _, rfl, run_takeDeferred hK, ?_⟩⟩
    exact ⟨_, results_tmp rfl _ _ _, v, rfl, ⟨ownsRow_putObj HR.out _ hK rfl, fun _ _ => trivial⟩, hB.trans (belowK_b (w := w) (Nat.le_refl _) W D _ _ (by omega) hK rfl rfl)⟩
  case stop =>
    rintro D c pre W _ _ h _
    exact h.elim
end
end Go.Proofs.Ytpdggodmiliijaa
