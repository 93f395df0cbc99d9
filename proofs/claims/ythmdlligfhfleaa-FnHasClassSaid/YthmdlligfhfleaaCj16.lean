/- one text of GpK, GpV, LG, LGs, LGl, LD, SlO, H -/
import Derived.Test.YthmdlligfhfleaaCj14
import Derived.Test.YthmdlligfhfleaaCj15
import Derived.Test.YthmdlligfhfleaaCj10
import Derived.Test.YthmdlligfhfleaaCj12
import Derived.Test.YthmdlligfhfleaaCj5
import Derived.Test.YthmdlligfhfleaaRows
import Derived.Test.YthmdlligfhfleaaCj2
import Derived.Test.YthmdlligfhfleaaCj1
import Derived.RegionTactic
import Derived.ProofKit
import Derived.OpenShut
import Derived.ShutString
import Derived.ChangeOld
import Derived.Deep.Slices
import Derived.Lib.SmallJoins
namespace Go.Proofs.Ythmdlligfhfleaa
open Go.RowKit
set_option linter.unusedVariables false
section
theorem gOk_nil (xs : List Cls) : gOkS xs [] = false := by
  cases h : gOkS xs []
  · rfl
  · have := (goodG_of (by rw [← gOk_same]; exact h)).len.1
    simp at this
theorem lvX_tree {xs : List Cls} {t : Fo} (h : GTr xs t) : lvX xs (flat 0 t) = leavesF t := by
  rw [lvX_of h.gOk]; exact leaves_flat t 0
theorem lvE {xs : List Cls} {t : Fo} (h : t = .nil ∨ GTr xs t) : lvX xs (flat 0 t) = leavesF t := by
  rcases h with rfl | h
  · rw [show flat 0 .nil = [] from rfl, lvX_of (gOk_nil xs)]; rfl
  · exact lvX_tree h
theorem kidsX_tree {xs : List Cls} {t : Fo} (h : GTr xs t) : kidsX xs (flat 0 t) = (rootsF (kidsF t)).map (flat 0) := by
  rw [kidsX_of h.gOk]; exact kidsL_flat h.one
theorem keep_or {xs : List Cls} {t : Fo} (h : GTr xs t) (p : Lef → Bool) : keepF p t = .nil ∨ GTr xs (keepF p t) := by
  cases e : anyFo p t
  · exact .inl (keepF_none e)
  · exact .inr (h.keep e)
theorem keep_orE {xs : List Cls} {t : Fo} (h : t = .nil ∨ GTr xs t) (p : Lef → Bool) : keepF p t = .nil ∨ GTr xs (keepF p t) := by
  rcases h with rfl | h
  · exact .inl rfl
  · exact keep_or h p
theorem depK_max (g : List Prt) : ∀ k, 0 ≤ depK g k ∧ (∀ i, i < k → (gAt g i).depth ≤ depK g k) ∧ (depK g k = 0 ∨ ∃ i, i < k ∧ (gAt g i).depth = depK g k)
  | 0 => ⟨Int.le_refl _, fun i h => by omega, .inl rfl⟩
  | k + 1 => by
    obtain ⟨h1, h2, h3⟩ := depK_max g k
    rw [show depK g (k + 1) = if depK g k < (gAt g k).depth then (gAt g k).depth else depK g k from rfl]
    by_cases h : depK g k < (gAt g k).depth
    · rw [if_pos h]
      refine ⟨by omega, fun i hi => ?_, .inr ⟨k, by omega, rfl⟩⟩
      by_cases e : i = k
      · subst e; omega
      · have := h2 i (by omega); omega
    · rw [if_neg h]
      refine ⟨h1, fun i hi => ?_, ?_⟩
      · by_cases e : i = k
        · subst e; omega
        · exact h2 i (by omega)
      · rcases h3 with h3 | ⟨i, hi, e⟩
        · exact .inl h3
        · exact .inr ⟨i, by omega, e⟩
theorem depX_tree {xs : List Cls} {t : Fo} (h : GTr xs t) : depX xs (flat 0 t) = (htF t : Int) - 1 := by
  have e : depX xs (flat 0 t) = depK (flat 0 t) (flat 0 t).length := by unfold depX; rw [if_pos h.gOk]
  rw [e]
  obtain ⟨h1, h2, h3⟩ := depK_max (flat 0 t) (flat 0 t).length
  obtain ⟨p, hp, hd⟩ := flat_att (one_ne h.one) 0
  obtain ⟨i, hi, rfl⟩ := List.getElem_of_mem hp
  have h4 := h2 i hi
  rw [gAt_at hi] at h4
  have hpos := one_ht h.one
  rcases h3 with h3 | ⟨j, hj, e2⟩
  · omega
  · have := flat_lt t 0 (gAt (flat 0 t) j) (by rw [gAt_at hj]; exact List.getElem_mem hj)
    omega
/-- the greatest depth of some groups -/
def mxD (xs : List Cls) (L : List (List Prt)) : Int := L.foldl (fun n l => if n < depX xs l then depX xs l else n) (-1)
theorem mxD_snoc (xs : List Cls) {L : List (List Prt)} {k : Nat} (h : k < L.length) : mxD xs (L.take (k + 1)) = if mxD xs (L.take k) < depX xs L[k] then depX xs L[k] else mxD xs (L.take k) := by
  unfold mxD
  rw [List.take_succ_eq_append_getElem h, List.foldl_append]; rfl
theorem mxD_roots {xs : List Cls} : ∀ (RS : List Fo) (n : Int), (∀ r ∈ RS, GTr xs r) → -1 ≤ n → (RS.map (flat 0)).foldl (fun n l => if n < depX xs l then depX xs l else n) n = max n (((RS.map htF).foldr max 0 : Nat) - 1)
  | [], n, _, hn => by simp; omega
  | r :: RS, n, h, hn => by
    have hr := depX_tree (h r (List.mem_cons_self ..))
    have hh := one_ht (h r (List.mem_cons_self ..)).one
    rw [List.map_cons, List.foldl_cons, hr, mxD_roots RS _ (fun x hx => h x (List.mem_cons_of_mem _ hx)) (by split <;> omega), List.map_cons, List.foldr_cons]
    split <;> omega
theorem dep_kids {xs : List Cls} {t : Fo} (h : GTr xs t) : depX xs (flat 0 t) = mxD xs (kidsX xs (flat 0 t)) + 1 := by
  rw [depX_tree h, kidsX_tree h]
  unfold mxD
  rw [mxD_roots _ _ (fun r hr => h.kid hr) (Int.le_refl _), ← htF_roots]
  have := one_ht h.one
  omega
theorem hcX_tree {xs : List Cls} {t : Fo} (h : t = .nil ∨ GTr xs t) (a : Int) : hcX xs (flat 0 t) a = (hasK xs a && (leavesF t).any (fun x => isAL xs x.cls a)) := by
  unfold hcX
  rcases h with rfl | h
  · rw [show flat 0 .nil = [] from rfl, gOk_nil]; simp [leavesF]
  · rw [h.gOk, leaves_flat, Bool.true_and]
theorem isAL_top {xs : List Cls} (g : Good xs) : ∀ (m : Nat) (a : Nat), a = m → a < xs.length → isAL xs (a : Int) 0 = true := by
  intro m
  induction m using Nat.strongRecOn with
  | _ m ih =>
    intro a e ha
    rw [isAL_at g ha]
    by_cases h0 : a = 0
    · subst h0; rfl
    · obtain ⟨p, hp, hlt⟩ : ∃ p : Nat, xs[a].parent = p ∧ p < a := by
        have := g.par a ha (by omega)
        exact ⟨xs[a].parent.toNat, by omega, by omega⟩
      rw [hp, ih p (by omega) p rfl (by omega), Bool.or_true]
theorem hc_root {xs : List Cls} {t : Fo} (h : GTr xs t) : hcX xs (flat 0 t) 0 = true := by
  have g := good_of h.tree
  rw [hcX_tree (.inr h), Bool.and_eq_true]
  refine ⟨hasK_iff.2 ⟨Int.le_refl _, by have := g.lo; omega⟩, ?_⟩
  rw [List.any_eq_true]
  have h1 := leaves_some h.ok (one_ne h.one)
  cases e : leavesF t with
  | nil => exact absurd e h1
  | cons x r =>
    have hx := leaves_mem h.ok x (by rw [e]; exact List.mem_cons_self ..)
    refine ⟨x, List.mem_cons_self .., ?_⟩
    obtain ⟨i, hi⟩ : ∃ i : Nat, x.cls = i := ⟨x.cls.toNat, by omega⟩
    rw [hi]
    exact isAL_top g i i rfl (by omega)
theorem flat_roots (t : Fo) (d : Int) : flat d t = ((rootsF t).map (flat d)).flatten := by
  induction t with
  | nil => rfl
  | leaf x r ih => rw [rootsF, List.map_cons, List.flatten_cons, ← ih]; rfl
  | grp c k r ih1 ih2 => rw [rootsF, List.map_cons, List.flatten_cons, ← ih2]; simp [flat]
/-- trees in a row -/
def catF : List Fo → Fo
  | [] => .nil
  | t :: r => appF t (catF r)
theorem roots_cat : ∀ {ts : List Fo}, (∀ t ∈ ts, OneF t) → rootsF (catF ts) = ts
  | [], _ => rfl
  | t :: r, h => by
    rw [catF, roots_app, one_roots (h t (List.mem_cons_self ..)), roots_cat (fun x hx => h x (List.mem_cons_of_mem _ hx))]; rfl
theorem wrap_trees (code : Int) {ts : List Fo} (h : ∀ t ∈ ts, OneF t) : wrapL code (ts.map (flat 0)) = flat 0 (.grp code (catF ts) .nil) := by
  unfold wrapL
  rw [flat, flat_roots (catF ts), roots_cat h, List.map_map]
  show _ = _ :: (_ ++ [])
  rw [List.append_nil]
  congr 3
  funext t
  show shiftL (flat 0 t) 1 = _
  rw [flat_shift]
theorem wrap_kids {xs : List Cls} {t : Fo} (h : GTr xs t) (hne : kidsX xs (flat 0 t) ≠ []) : wrOk xs (kidsX xs (flat 0 t)) (gAt (flat 0 t) 0).code = true ∧ wrX xs (kidsX xs (flat 0 t)) (gAt (flat 0 t) 0).code = flat 0 t := by
  have hk := kidsX_tree h
  have e : wrapL (gAt (flat 0 t) 0).code (kidsX xs (flat 0 t)) = flat 0 t := by
    rw [hk]
    have ho := h.one
    cases ho with
    | leaf x => rw [hk] at hne; exact absurd rfl hne
    | grp c k =>
      show wrapL c ((rootsF k).map (flat 0)) = _
      unfold wrapL
      rw [flat, flat_roots k, List.map_map]
      show _ = _ :: (_ ++ [])
      rw [List.append_nil]
      congr 3
      funext t
      show shiftL (flat 0 t) 1 = _
      rw [flat_shift]
  have hw : wrOk xs (kidsX xs (flat 0 t)) (gAt (flat 0 t) 0).code = true := by
    unfold wrOk
    rw [e, h.gOk, Bool.and_true, List.all_eq_true]
    intro l hl
    rw [hk] at hl
    obtain ⟨r, hr, rfl⟩ := List.mem_map.1 hl
    exact (h.kid hr).gOk
  exact ⟨hw, by rw [(wrX_of hw).1]; exact e⟩
theorem kids_wrap {xs : List Cls} {L : List (List Prt)} {code : Int} (h : wrOk xs L code = true) : kidsX xs (wrX xs L code) = L ∧ (gAt (wrX xs L code) 0).code = code ∧ (gAt (wrX xs L code) 0).group = true ∧ 0 < (wrX xs L code).length := by
  have hx := (wrX_of h).1
  unfold wrOk at h
  rw [Bool.and_eq_true, List.all_eq_true] at h
  obtain ⟨h1, h2⟩ := h
  have hL : L = (L.map treeOf).map (flat 0) := by
    rw [List.map_map]
    conv => lhs; rw [← List.map_id L]
    exact List.map_congr_left (fun l hl => (gOk_tree (h1 l hl)).1)
  have hone : ∀ t ∈ L.map treeOf, OneF t := fun t ht => by
    obtain ⟨l, hl, rfl⟩ := List.mem_map.1 ht
    exact (gOk_tree (h1 l hl)).2.one
  have hw : wrapL code L = flat 0 (.grp code (catF (L.map treeOf)) .nil) := by
    conv => lhs; rw [hL]
    exact wrap_trees code hone
  rw [hw] at h2
  obtain ⟨t, e, ht⟩ := gOk_iff.1 h2
  have := flat_inj _ _ 0 e
  subst this
  rw [hx]
  show kidsX xs (wrapL code L) = L ∧ _
  rw [hw]
  refine ⟨?_, rfl, rfl, ?_⟩
  · rw [kidsX_tree ht]
    show (rootsF (catF (L.map treeOf))).map (flat 0) = L
    rw [roots_cat hone]; exact hL.symm
  · simp [flat]
end

section
theorem kids_facts {xs : List Cls} {L : List Prt} (h : gOkS xs L = true) : (∀ l ∈ kidsX xs L, gOkS xs l = true) ∧ 0 < (lvX xs L).length ∧ 0 < L.length ∧ decide (0 < (kidsX xs L).length) = (gAt L 0).group := by
  obtain ⟨t, rfl, ht⟩ := gOk_iff.1 h
  rw [kidsX_tree ht, lvX_tree ht]
  have h1 := leaves_some ht.ok (one_ne ht.one)
  refine ⟨fun l hl => ?_, ?_, ?_, ?_⟩
  · obtain ⟨r, hr, rfl⟩ := List.mem_map.1 hl
    exact (ht.kid hr).gOk
  · exact List.length_pos_iff.2 h1
  · have := ht.one
    cases this <;> simp [flat]
  · have ho := ht.one
    have ok := ht.ok
    cases ho with
    | leaf x => rfl
    | grp c k =>
      have hk : k ≠ .nil := ok.2.2.1
      show decide (0 < ((rootsF k).map (flat 0)).length) = true
      cases k with
      | nil => exact absurd rfl hk
      | leaf x r => simp [rootsF]
      | grp c k r => simp [rootsF]
theorem kids_bad {xs : List Cls} {L : List Prt} (h : gOkS xs L = false) : lvX xs L = [] ∧ depX xs L = -1 := by
  constructor
  · unfold lvX; rw [h]; rfl
  · unfold depX; rw [h]; rfl
theorem dep_facts {xs : List Cls} {L : List Prt} (h : gOkS xs L = true) : depX xs L = mxD xs (kidsX xs L) + 1 ∧ 0 ≤ depX xs L := by
  obtain ⟨t, rfl, ht⟩ := gOk_iff.1 h
  refine ⟨dep_kids ht, ?_⟩
  rw [depX_tree ht]
  have := one_ht ht.one
  omega
/-- the leaves of some groups -/
def catL (xs : List Cls) (G : List (List Prt)) : List Lef := (G.map (lvX xs)).flatten
theorem catL_snoc (xs : List Cls) {G : List (List Prt)} {k : Nat} (h : k < G.length) : catL xs (G.take (k + 1)) = catL xs (G.take k) ++ lvX xs G[k] := by
  unfold catL
  rw [List.take_succ_eq_append_getElem h, List.map_append, List.flatten_append]; simp
theorem lv_facts {xs : List Cls} {L : List Prt} (h : gOkS xs L = true) : (kidsX xs L = [] → (lvX xs L).length = 1) ∧ (kidsX xs L ≠ [] → catL xs (kidsX xs L) = lvX xs L) := by
  obtain ⟨t, rfl, ht⟩ := gOk_iff.1 h
  have ho := ht.one
  have hk := kidsX_tree ht
  have hl := lvX_tree ht
  refine ⟨fun e => ?_, fun e => ?_⟩
  · rw [hl]
    rw [hk] at e
    cases ho with
    | leaf x => rfl
    | grp c k =>
      have hk' : k ≠ .nil := ht.ok.2.2.1
      cases k with
      | nil => exact absurd rfl hk'
      | leaf x r => simp [kidsF, rootsF] at e
      | grp c k r => simp [kidsF, rootsF] at e
  · have e2 : catL xs (kidsX xs (flat 0 t)) = ((rootsF (kidsF t)).map leavesF).flatten := by
      unfold catL
      rw [hk, List.map_map]
      congr 1
      exact List.map_congr_left (fun r hr => lvX_tree (ht.kid hr))
    rw [e2, ← leaves_roots, hl]
    cases ho with
    | leaf x => rw [hk] at e; exact absurd rfl e
    | grp c k => simp [kidsF, leavesF]
theorem hc_facts {xs : List Cls} {L : List Prt} {a : Int} (h : gOkS xs L = true) (ha : hasK xs a = true) : hcX xs L a = (lvX xs L).any (fun x => isAx xs x.cls a) ∧ hcX xs L 0 = true := by
  obtain ⟨t, rfl, ht⟩ := gOk_iff.1 h
  refine ⟨?_, hc_root ht⟩
  rw [hcX_tree (.inr ht), lvX_tree ht, ha, Bool.true_and]
  have hg := good_of ht.tree
  have key : ∀ x ∈ leavesF t, isAx xs x.cls a = isAL xs x.cls a := fun x hx => by
    have hb := leaves_mem ht.ok x hx
    have e := isAx_of ht.tree (hasK_iff.2 ⟨hb.1, hb.2.1⟩) ha rfl
    rw [e]; simp
  cases hq : (leavesF t).any (fun x => isAL xs x.cls a)
  · symm
    rw [List.any_eq_false] at hq ⊢
    intro x hx
    rw [key x hx]; exact hq x hx
  · rw [List.any_eq_true] at hq
    obtain ⟨x, hx, e⟩ := hq
    symm
    rw [List.any_eq_true]
    exact ⟨x, hx, by rw [key x hx]; exact e⟩
end

section
theorem equalGroup_self (A B : Option Addr) (n c d : Nat) (xs : List Prt) (w : World) (hR : Sl w A n c xs) (hS : Sl w B n d xs) :
    Calls Try.prog 28 #[.slice A n c, .slice B n d] w fun e w' => e = .returned (.bool true) ∧ Le w w' := by
  obtain rfl := hR.len
  have hm := hR.n_le
  have hb : ((xs.length : Int) != (xs.length : Int)) = false := by simp
  go_enter Try.func28, Try.ntmps28
  go_wp2
  go_loopw [5] (fun i wr => ∃ k : Nat, k ≤ xs.length ∧ i = .int .i64 k ∧ Le w wr) (fun i _ => xs.length - (intOf i).toNat)
  case atStart => exact ⟨0, Nat.zero_le _, rfl, Le.refl _⟩
  case round =>
    obtain ⟨k, hk, rfl, hle⟩ := hrel
    have hRr := hR.le hle
    have hSr := hS.le hle
    clear hR hS
    by_cases hlt : k < xs.length
    · obtain ⟨b, off, rfl, hb, hcell0, hcell1, hcell2, hcell3, _⟩ := hRr.prt_at hlt
      obtain ⟨b2, off2, rfl, hb2, hdell0, hdell1, hdell2, hdell3, _⟩ := hSr.prt_at hlt
      have E0 := cell_ext hb hcell0
      have F0 := cell_ext hb2 hdell0
      have E1 := cell_ext hb hcell1
      have F1 := cell_ext hb2 hdell1
      have E2 := cell_ext hb hcell2
      have F2 := cell_ext hb2 hdell2
      have E3 := cell_ext hb hcell3
      have F3 := cell_ext hb2 hdell3
      have q0 : (xs[k].depth == xs[k].depth) = true := by simp
      have q1 : (xs[k].group == xs[k].group) = true := by simp
      have q2 : (xs[k].cls == xs[k].cls) = true := by simp
      have q3 : (xs[k].code == xs[k].code) = true := by simp
      go_wp2_with fail
      refine wp_region_ext (by kernel_rfl) (by kernel_rfl) ?_
      repeat (go_big_quiet_step (fail))
      refine wpQuiet_nil ?_
      intro _ hw'
      obtain ⟨g, rfl⟩ := hw'
      have hw1 := Le.ext wr g
      generalize wr.ext g = W2 at *
      go_wp2
      go_roundw
      case rel => exact ⟨k + 1, by omega, by go_num, hle.trans hw1⟩
      case measure => simp [intOf]; omega
    · go_wp2
      go_ret
      exact ⟨rfl, hle⟩
end

section
theorem equalGroups_self (A B : Option Addr) (n c d : Nat) (hs ks : List Hdr) (L : List (List Prt)) (w : World) (hR : Sl w A n c hs) (hR2 : Rd2 w hs L) (hS : Sl w B n d ks) (hS2 : Rd2 w ks L) :
    Calls Try.prog 25 #[.slice A n c, .slice B n d] w fun e w' => e = .returned (.bool true) ∧ Le w w' := by
  obtain rfl := hR.len
  have hm := hR.n_le
  have hb : ((hs.length : Int) != (hs.length : Int)) = false := by simp
  go_enter Try.func25, Try.ntmps25
  go_wp2
  go_loopw [5] (fun i wr => ∃ k : Nat, k ≤ hs.length ∧ i = .int .i64 k ∧ Le w wr) (fun i _ => hs.length - (intOf i).toNat)
  case atStart => exact ⟨0, Nat.zero_le _, rfl, Le.refl _⟩
  case round =>
    obtain ⟨k, hk, rfl, hle⟩ := hrel
    have hRr := hR.le hle
    have hSr := hS.le hle
    have hRr2 := hR2.le hle
    have hSr2 := hS2.le hle
    clear hR hS hR2 hS2
    by_cases hlt : k < hs.length
    · obtain ⟨b, off, rfl, hb, hcell0⟩ := hRr.hdr_at hlt
      have hltk : k < ks.length := by rw [hSr.len]; exact hlt
      obtain ⟨b2, off2, rfl, hb2, hdell0⟩ := hSr.hdr_at hltk
      have hlL : k < L.length := by rw [← hRr2.len]; exact hlt
      have s1 := hRr2.at_ hlt hlL
      have s2 := hSr2.at_ hltk hlL
      have e1 : hs[k].n = ks[k].n := by rw [← s1.len, ← s2.len]
      rw [← e1] at s2 hdell0
      clear e1
      have E0 := cell_ext hb hcell0
      have F0 := cell_ext hb2 hdell0
      go_wp2_with fail
      refine wp_region_ext (by kernel_rfl) (by kernel_rfl) ?_
      repeat (go_big_quiet_step (first | (go_at_call 28; exact Calls.ext_of (equalGroup_self _ _ _ _ _ L[k] _ (s1.le (Le.ext _ _)) (s2.le (Le.ext _ _))))))
      refine wpQuiet_nil ?_
      intro _ hw'
      obtain ⟨g, rfl⟩ := hw'
      have hw1 := Le.ext wr g
      generalize wr.ext g = W2 at *
      go_wp2
      go_roundw
      case rel => exact ⟨k + 1, by omega, by go_num, hle.trans hw1⟩
      case measure => simp [intOf]; omega
    · go_wp2
      go_ret
      exact ⟨rfl, hle⟩
end

section
theorem equalLeaves_self (A B : Option Addr) (n c d : Nat) (xs : List Lef) (w : World) (hR : Sl w A n c xs) (hS : Sl w B n d xs) :
    Calls Try.prog 14 #[.slice A n c, .slice B n d] w fun e w' => e = .returned (.bool true) ∧ Le w w' := by
  obtain rfl := hR.len
  have hm := hR.n_le
  have hb : ((xs.length : Int) != (xs.length : Int)) = false := by simp
  go_enter Try.func14, Try.ntmps14
  go_wp2
  go_loopw [5] (fun i wr => ∃ k : Nat, k ≤ xs.length ∧ i = .int .i64 k ∧ Le w wr) (fun i _ => xs.length - (intOf i).toNat)
  case atStart => exact ⟨0, Nat.zero_le _, rfl, Le.refl _⟩
  case round =>
    obtain ⟨k, hk, rfl, hle⟩ := hrel
    have hRr := hR.le hle
    have hSr := hS.le hle
    clear hR hS
    by_cases hlt : k < xs.length
    · obtain ⟨b, off, rfl, hb, hcell0, hcell1, _⟩ := hRr.lef_at hlt
      obtain ⟨b2, off2, rfl, hb2, hdell0, hdell1, _⟩ := hSr.lef_at hlt
      have E0 := cell_ext hb hcell0
      have F0 := cell_ext hb2 hdell0
      have E1 := cell_ext hb hcell1
      have F1 := cell_ext hb2 hdell1
      have q0 : (xs[k].cls == xs[k].cls) = true := by simp
      have q1 : (xs[k].code == xs[k].code) = true := by simp
      go_wp2_with fail
      refine wp_region_ext (by kernel_rfl) (by kernel_rfl) ?_
      repeat (go_big_quiet_step (fail))
      refine wpQuiet_nil ?_
      intro _ hw'
      obtain ⟨g, rfl⟩ := hw'
      have hw1 := Le.ext wr g
      generalize wr.ext g = W2 at *
      go_wp2
      go_roundw
      case rel => exact ⟨k + 1, by omega, by go_num, hle.trans hw1⟩
      case measure => simp [intOf]; omega
    · go_wp2
      go_ret
      exact ⟨rfl, hle⟩
end

section
theorem has_any (A : Option Addr) (n cap : Nat) (xs : List Cls) (a : Int) (w : World) (hR : Sl w A n cap xs) :
    Calls Try.prog 22 #[.agg #[.slice A n cap], .int .i64 a] w fun e w' => e = .returned (.bool (hasK xs a)) ∧ Le w w' := by
  obtain rfl := hR.len
  have hm := hR.n_le
  by_cases h0 : 0 ≤ a
  · by_cases h1 : a < xs.length
    · have HF : Hid (hasK xs a = true) := by show _ = _; unfold hasK; simp; omega
      go_enter Try.func22, Try.ntmps22
      go_wp2
      go_ret
      exact ⟨ret_bool HF.out.symm, Le.new w _⟩
    · have HF : Hid (hasK xs a = false) := by show _ = _; unfold hasK; simp; omega
      go_enter Try.func22, Try.ntmps22
      go_wp2
      go_ret
      exact ⟨ret_bool HF.out.symm, Le.new w _⟩
  · have HF : Hid (hasK xs a = false) := by show _ = _; unfold hasK; simp; omega
    go_enter Try.func22, Try.ntmps22
    go_wp2
    go_ret
    exact ⟨ret_bool HF.out.symm, Le.new w _⟩
end

section
section
variable {α : Type} [Enc α] {P : Program} {f : FuncId} {args : Array Value} {w : World} {xs : List α} {T : TypeId}
theorem Calls.sl1o (hp : 0 < Enc.size α) (h : Calls P f args w fun e w' => ∃ v, e = .returned v ∧ Owd T w w' v xs ∧ Le w w') : Calls P f args w fun e w' => ∃ A c, e = .returned (.slice A xs.length c) ∧ Sl w' A xs.length c xs ∧ Le w w' := by
  refine h.mono ?_
  rintro e w' ⟨v, rfl, D, hle⟩
  obtain ⟨A, c, rfl, S, _⟩ := D.form hp
  exact ⟨A, c, rfl, S, hle⟩
end
def KidsOut (L : List (List Prt)) (w : World) (e : Ending) (w' : World) : Prop := ∃ (A : Option Addr) (c : Nat) (hs : List Hdr), e = .returned (.slice A L.length c) ∧ Sl w' A L.length c hs ∧ Rd2 w' hs L ∧ Le w w'
theorem Calls.kidsO {f : FuncId} {args : Array Value} {TT T : TypeId} {L : List (List Prt)} {w : World} (h : Calls Try.prog f args w fun e w' => ∃ v hs, e = .returned v ∧ OwL TT T w w' v hs L ∧ Le w w') : Calls Try.prog f args w (KidsOut L w) :=
  h.mono fun _ _ ⟨v, hs, he, ho, hl⟩ => by obtain ⟨A, c, e2, S⟩ := ho.form; exact ⟨A, c, hs, by rw [he, e2], S, ho.rd (by decide), hl⟩
end

section
open Go.ChangeShapes Go.WideShapes Go.ChangeAt Go.RowKit Go.Deep Go.Joins

theorem list_of {α : Type} (p : Nat → α → Prop) : ∀ n, (∀ i, i < n → ∃ x, p i x) → ∃ xs : List α, xs.length = n ∧ ∀ i x, xs[i]? = some x → p i x
  | 0, _ => ⟨[], rfl, fun i x h => by simp at h⟩
  | n + 1, h => by
    obtain ⟨xs, hl, hx⟩ := list_of p n (fun i hi => h i (by omega))
    obtain ⟨x, hp⟩ := h n (by omega)
    refine ⟨xs ++ [x], by simp [hl], fun i y hy => ?_⟩
    rw [List.getElem?_append] at hy
    split at hy
    · exact hx i y hy
    · rename_i hge
      have hi : i = n := by
        rcases Nat.lt_or_ge (i - xs.length) 1 with h1 | h1
        · omega
        · rw [List.getElem?_eq_none (by simpa using h1)] at hy; cases hy
      subst hi
      rw [hl, Nat.sub_self] at hy
      simp at hy; subst hy; exact hp
theorem add_pl (b o n : Nat) : (⟨b, o, none⟩ : Addr).add n = ⟨b, o + n, none⟩ := by
  unfold Addr.add; split
  · next h => subst h; rfl
  · rfl

section
variable {H : Type} {enc : TypeId × Value → H} {P : Program} {w : World} {base : Nat} {spare : Nat → Bool} {held : Bool}
theorem open_sl {α : Type} [Enc α] {t e : TypeId} {fuel : Nat} {cs : List Value} {x : DataW H × List MemPlace} (ht : P.underlying t = some (.slice e)) (hC : P.cellsOf e = Enc.size α) (hp : 0 < Enc.size α)
    (hel : ∀ n cs' y, DataW.trod enc P w base spare held n e cs' = some y → ∃ x : α, cs' = Enc.cells x ∧ Enc.ok x) (h : DataW.trod enc P w base spare held fuel t cs = some x) :
    ∃ (A : Option Addr) (n cap : Nat) (xs : List α), cs = [.slice A n cap] ∧ Sl w A n cap xs := by
  rcases open_slice ht h with ⟨h0, _⟩ | ⟨a, len, cap, m, n, D, Pl, hcs, hb, hl, hm, hmm, hx, hi⟩
  · exact ⟨none, 0, 0, [], h0, Sl.nil w none 0 (by omega)⟩
  · have hlm : len ≤ m := by rw [hmm]; split <;> omega
    obtain ⟨xs, hlen, hxs⟩ := list_of (fun i (x : α) => Enc.ok x ∧ ∀ j, j < Enc.size α → w.cell? ((a.add (i * Enc.size α)).add j) = (Enc.cells x)[j]?) len (fun i hil => by
      obtain ⟨cs', hc, ht'⟩ := hi i (by omega)
      obtain ⟨x, rfl, hok⟩ := hel _ _ _ ht'
      rw [hC] at hc
      obtain ⟨_, _, hat⟩ := World.cells?_some hc
      exact ⟨x, hok, hat⟩)
    refine ⟨some a, len, cap, xs, hcs, hlen, hl, by simpa [maxLen] using hm, fun x hx => ?_, fun hn => ?_⟩
    · obtain ⟨i, hi⟩ := List.getElem?_of_mem hx
      exact (hxs i x hi).1
    · obtain ⟨b, off, spot⟩ := a
      have h0 := (hxs 0 xs[0] (List.getElem?_eq_getElem (by omega))).2 0 hp
      rw [List.getElem?_eq_getElem (by rw [Enc.len]; exact hp)] at h0
      have hs : spot = none := by simpa [Addr.add] using World.cell?_spot h0
      subst hs
      have hlt : b < w.heap.size := by
        have := World.block_lt_of_cell? _ _ h0
        rw [Nat.zero_mul, add_pl, add_pl] at this; exact this
      refine ⟨b, off, rfl, hlt, fun j u hu => ?_⟩
      have hjl : j < xs.length * Enc.size α := by
        have := (List.getElem?_eq_some_iff.1 hu).1
        rwa [flat_len] at this
      have hk : j / Enc.size α < xs.length := by rw [Nat.div_lt_iff_lt_mul hp]; exact hjl
      have hr : j % Enc.size α < Enc.size α := Nat.mod_lt _ hp
      have hdiv : j / Enc.size α * Enc.size α + j % Enc.size α = j := by rw [Nat.mul_comm]; exact Nat.div_add_mod _ _
      have h1 := (hxs (j / Enc.size α) _ (List.getElem?_eq_getElem hk)).2 _ hr
      rw [add_pl, add_pl, Nat.add_assoc, hdiv] at h1
      rw [h1, ← flat_at xs _ hk _ hr, hdiv, hu]

theorem el_cls {e : TypeId} {f0 f1 : Field} (he : P.underlying e = some (.struct #[f0, f1])) (hone : oneCellFields P #[f0, f1] = true) (hC : P.cellsOf e = 2) (h0 : P.underlying f0.type = some .string) (h1 : P.underlying f1.type = some (.int .i64)) :
    ∀ n cs' y, DataW.trod enc P w base spare held n e cs' = some y → ∃ x : Cls, cs' = Enc.cells x ∧ Enc.ok x := by
  intro n cs' y hy
  obtain ⟨y0, y1, n', _, hl, t0, t1⟩ := trod_struct2 he hy
  obtain ⟨o0, k0⟩ := hone_of hone 0 f0 rfl
  obtain ⟨o1, k1⟩ := hone_of hone 1 f1 rfl
  rw [hC] at hl
  match cs', hl with
  | [c0, c1], _ =>
    rw [o0, k0] at t0
    rw [o1, k1] at t1
    obtain ⟨s, hs, _, hsz⟩ := DataW.trod_string h0 t0
    obtain ⟨z, hz, _, hwf⟩ := DataW.trod_int h1 t1
    simp at hs hz
    subst hs; subst hz
    refine ⟨⟨s, z⟩, rfl, by simpa [maxLen] using hsz, ?_⟩
    simpa [Lit.wf, IntKind.min, IntKind.max, IntKind.signed, IntKind.bits] using hwf

theorem open_agg1 {r : Reach} {b0 : Nat} {t : TypeId} {f0 : Field} {v : Value} {d : DataW H} {p : List MemPlace} (hs : P.underlying t = some (.struct #[f0])) (hone : oneCellFields P #[f0] = true) (hC : P.cellsOf t = 1)
    (hv : Value.okWide P w r b0 t v) (h : DataW.Trod enc P w base spare held t v d p) :
    ∃ (v0 : Value) (y0 : DataW H × List MemPlace) (n : Nat), v = .agg #[v0] ∧ DataW.trod enc P w base spare held n f0.type [v0] = some y0 := by
  obtain ⟨cs, rfl, hsz⟩ := okWide_struct hs hv
  obtain ⟨l⟩ := cs
  match l, hsz.trans hC with
  | [c0], _ =>
    obtain ⟨fuel, hf⟩ := h
    obtain ⟨xs, n, _, hx, _, hlen, hg⟩ := DataW.trod_struct hs hf
    obtain ⟨o0, k0⟩ := hone_of hone 0 f0 rfl
    match xs, hlen with
    | [y0], _ => exact ⟨c0, y0, n, rfl, by simpa [Value.cells, o0, k0] using hg 0 f0 rfl⟩
end
end
end Go.Proofs.Ythmdlligfhfleaa
