/- one text of ItW, GpI, GpX, HA, HB -/
import Derived.Test.YtkpnajffeclmdaaCl24
import Derived.Test.YtkpnajffeclmdaaCl21
import Derived.Test.YtkpnajffeclmdaaCl15
import Derived.Test.YtkpnajffeclmdaaCl2
namespace Go.Proofs.Ytkpnajffeclmdaa
open Go.RowKit
set_option linter.unusedVariables false
section
open Go.RowKit Go.Shelf
theorem flat_bound {t : Fo} {xs : List Cls} (h : GTr xs t) : ∀ p ∈ flat 0 t, 0 ≤ p.depth ∧ p.depth ≤ 5 := fun p hp => by
  have h1 := flat_ge t 0 p hp
  have h2 := flat_lt t 0 p hp
  have := h.ht
  omega
theorem take_flat_len {L : List (List Prt)} (k : Nat) : ((L.take k).flatten).length ≤ L.flatten.length := by
  have : L.flatten = (L.take k).flatten ++ (L.drop k).flatten := by rw [← List.flatten_append, List.take_append_drop]
  rw [this, List.length_append]; omega
theorem ok_app {α : Type} [Enc α] {A B : List α} (h1 : ∀ x ∈ A, Enc.ok x) (h2 : ∀ x ∈ B, Enc.ok x) : ∀ x ∈ A ++ B, Enc.ok x := fun x hx => (List.mem_append.1 hx).elim (h1 x) (h2 x)
theorem rd_kids {w : World} {b off m c : Nat} {g : List Prt} (S : Sl w (some ⟨b, off, none⟩) m c g) : Rd2 w ((kdS g g.length 1 g.length).map (hdrK g b off c)) ((kdS g g.length 1 g.length).map (piece g)) := by
  refine ⟨by rw [List.length_map, List.length_map], fun i h l e f => ?_⟩
  rw [List.getElem?_map] at e f
  cases hx : (kdS g g.length 1 g.length)[i]? with
  | none => rw [hx] at e; cases e
  | some x =>
    rw [hx] at e f
    obtain rfl : hdrK g b off c x = h := by simpa using e
    obtain rfl : piece g x = l := by simpa using f
    exact S.piece (kdS_lt g _ _ x (List.mem_of_getElem? hx))
theorem shift_one (P : Prt) (d e : Int) (h : P.depth = d) : shiftL [P] (e - d) = [{ P with depth := e }] := by
  unfold shiftL
  rw [List.map_singleton, h, show d + (e - d) = e by omega]
theorem head_depth {t : Fo} (h : OneF t) (d e : Int) : gAt (flat e t) 0 = { gAt (flat d t) 0 with depth := e } ∧ (gAt (flat d t) 0).depth = d := by cases h <;> exact ⟨rfl, rfl⟩
/-- a group without groups of one -/
noncomputable def simX (xs : List Cls) (g : List Prt) : List Prt := cond (gOkS xs g) (flat 0 (simpF (treeOf g))) []
theorem simX_of {xs : List Cls} {g : List Prt} {b : Bool} (h : gOkS xs g = b) : simX xs g = cond b (flat 0 (simpF (treeOf g))) [] := by unfold simX; rw [h]
theorem simX_len (xs : List Cls) (g : List Prt) : (simX xs g).length ≤ 1048576 := by
  cases h : gOkS xs g
  · rw [simX_of h]; simp
  · rw [simX_of h]
    show (flat 0 _).length ≤ _
    rw [flatF_len]
    have := (gOk_tree h).2.simp.sz
    omega
end

section
theorem spX_tree {xs : List Cls} {t : Fo} (h : GTr xs t) {a : Int} (hk : hasK xs a = true) (wi : Bool) : spX xs (flat 0 t) a wi = flat 0 (keepF (fun x => isAL xs x.cls a == wi) t) := by
  rw [spX_of (c := true) (by rw [h.gOk, hk]; rfl)]; exact selG_flat (fun x => isAL xs x.cls a == wi) t
theorem flX_tree {xs : List Cls} {t : Fo} (h : GTr xs t) : flX xs (flat 0 t) = flat 0 (flatF t) := by
  rw [flX_of h.gOk]
  show flG _ = _
  cases h.one with
  | leaf x => rfl
  | grp c k =>
    have : leavesL (flat 0 (.grp c k .nil)) = leavesF k := by rw [leaves_flat]; simp [leavesF]
    unfold flG
    have e : flat 0 (.grp c (mkF (leavesF k)) .nil) = ⟨0, true, 0, c⟩ :: (flat 1 (mkF (leavesF k)) ++ []) := rfl
    rw [this, flatF, e, flat_mk, List.append_nil]; rfl
theorem simX_tree {xs : List Cls} {t : Fo} (h : GTr xs t) : simX xs (flat 0 t) = flat 0 (simpF t) := by
  rw [simX_of h.gOk, treeOf_flat]; rfl
end

section
theorem one_sz : ∀ {u : Fo}, OneF u → 0 < szF u
  | _, .leaf x => by simp [szF]
  | _, .grp c k => by simp only [szF]; omega
theorem part_facts {xs : List Cls} {t : Fo} (h : GTr xs t) (p : Lef → Bool) : (0 < (flat 0 (keepF p t)).length → gOkS xs (flat 0 (keepF p t)) = true ∧ gAt (flat 0 (keepF p t)) 0 = gAt (flat 0 t) 0 ∧ depX xs (flat 0 (keepF p t)) ≤ depX xs (flat 0 t)) ∧ decide (0 < (flat 0 (keepF p t)).length) = anyFo p t := by
  cases ha : anyFo p t
  · have e := keepF_none ha
    rw [e]
    exact ⟨fun h => absurd h (by simp [flat]), by simp [flat]⟩
  · have hk := h.keep ha
    have h1 := keep_one h.one ha
    have hl := flatF_len (keepF p t) 0
    refine ⟨fun _ => ⟨hk.gOk, h1.2, ?_⟩, ?_⟩
    · rw [depX_tree hk, depX_tree h]
      have := htF_keep p t
      omega
    · have : 0 < (flat 0 (keepF p t)).length := by
        rw [hl]
        exact one_sz h1.1
      exact decide_eq_true this
theorem split_facts {xs : List Cls} {L : List Prt} {a : Int} (h : gOkS xs L = true) (ha : hasK xs a = true) :
    (0 < (spX xs L a true).length → gOkS xs (spX xs L a true) = true ∧ gAt (spX xs L a true) 0 = gAt L 0 ∧ depX xs (spX xs L a true) ≤ depX xs L) ∧
    (0 < (spX xs L a false).length → gOkS xs (spX xs L a false) = true ∧ gAt (spX xs L a false) 0 = gAt L 0) ∧
    0 < (spX xs L a true).length + (spX xs L a false).length ∧ hcX xs L a = decide (0 < (spX xs L a true).length) := by
  obtain ⟨t, rfl, ht⟩ := gOk_iff.1 h
  rw [spX_tree ht ha, spX_tree ht ha]
  obtain ⟨h1, h2⟩ := part_facts ht (fun x => isAL xs x.cls a == true)
  obtain ⟨k1, k2⟩ := part_facts ht (fun x => isAL xs x.cls a == false)
  refine ⟨h1, fun h => ⟨(k1 h).1, (k1 h).2.1⟩, ?_, ?_⟩
  · have hne := leaves_some ht.ok (one_ne ht.one)
    cases e : leavesF t with
    | nil => exact absurd e hne
    | cons x r =>
      cases hx : isAL xs x.cls a
      · have : anyFo (fun x => isAL xs x.cls a == false) t = true := by rw [any_leaves, e, List.any_cons, hx]; rfl
        rw [this] at k2
        have := of_decide_eq_true k2
        omega
      · have : anyFo (fun x => isAL xs x.cls a == true) t = true := by rw [any_leaves, e, List.any_cons, hx]; rfl
        rw [this] at h2
        have := of_decide_eq_true h2
        omega
  · rw [h2, hcX_tree (.inr ht), ha, Bool.true_and, any_leaves]
    congr 1
    funext x
    cases isAL xs x.cls a <;> rfl
theorem leaves_split {xs : List Cls} {L : List Prt} {a : Int} (h : gOkS xs L = true) (ha : hasK xs a = true) :
    lvX xs (spX xs L a true) = (lvX xs L).filter (fun x => isAL xs x.cls a) ∧ lvX xs (spX xs L a false) = (lvX xs L).filter (fun x => !isAL xs x.cls a) := by
  obtain ⟨t, rfl, ht⟩ := gOk_iff.1 h
  rw [spX_tree ht ha, spX_tree ht ha, lvE (keep_or ht _), lvE (keep_or ht _), leaves_keep, leaves_keep, lvX_tree ht]
  constructor
  · congr 1; funext x; cases isAL xs x.cls a <;> rfl
  · congr 1; funext x; cases isAL xs x.cls a <;> rfl
end

section
def firstC (xs : List Cls) : List Int → Int → Int → Int
  | [], _, _ => -1
  | b :: r, a, k => if isAL xs a b then k else firstC xs r a (k + 1)
theorem firstC_at {xs : List Cls} {L : List Int} {k : Nat} (h : k < L.length) (a j : Int) : firstC xs (L.drop k) a j = if isAL xs a L[k] then j else firstC xs (L.drop (k + 1)) a (j + 1) := by
  rw [List.drop_eq_getElem_cons h]; rfl
theorem firstC_end {xs : List Cls} {L : List Int} {k : Nat} (h : ¬ k < L.length) (a j : Int) : firstC xs (L.drop k) a j = -1 := by
  rw [List.drop_eq_nil_of_le (by omega)]; rfl
theorem firstC_range (xs : List Cls) (a : Int) : ∀ (L : List Int) (j : Int), 0 ≤ j → firstC xs L a j = -1 ∨ (j ≤ firstC xs L a j ∧ firstC xs L a j < j + L.length)
  | [], _, _ => .inl rfl
  | b :: r, j, hj => by
    unfold firstC
    split
    · right; simp; omega
    · rcases firstC_range xs a r (j + 1) (by omega) with h | ⟨h1, h2⟩
      · exact .inl h
      · right; simp; omega
def goodL (xs : List Cls) : List Int → Bool
  | [] => true
  | b :: r => hasK xs b && goodL xs r
def goodC (xs : List Cls) (L : List Int) : Bool := okTree xs && goodL xs L && decide (L.length ≤ 6)
theorem goodL_at {xs : List Cls} {L : List Int} {k : Nat} (h : k < L.length) : goodL xs (L.drop k) = (hasK xs L[k] && goodL xs (L.drop (k + 1))) := by
  rw [List.drop_eq_getElem_cons h]; rfl
theorem goodL_end {xs : List Cls} {L : List Int} {k : Nat} (h : ¬ k < L.length) : goodL xs (L.drop k) = true := by
  rw [List.drop_eq_nil_of_le (by omega)]; rfl
theorem goodL_mem {xs : List Cls} : ∀ {L : List Int}, goodL xs L = true → ∀ b ∈ L, hasK xs b = true
  | [], _, _, h => nomatch h
  | c :: r, h, b, hb => by
    rw [goodL, Bool.and_eq_true] at h
    rcases List.mem_cons.1 hb with rfl | hb
    · exact h.1
    · exact goodL_mem h.2 b hb
theorem goodL_mk {xs : List Cls} : ∀ {L : List Int}, (∀ b ∈ L, hasK xs b = true) → goodL xs L = true
  | [], _ => rfl
  | c :: r, h => by rw [goodL, h c (by simp), goodL_mk (fun b hb => h b (by simp [hb]))]; rfl
theorem goodL_no {xs : List Cls} {L : List Int} {b : Int} (hb : b ∈ L) (h : hasK xs b = false) : goodL xs L = false := by
  cases hg : goodL xs L
  · rfl
  · rw [goodL_mem hg b hb] at h; cases h
structure GoodC (xs : List Cls) (L : List Int) : Prop where
  tree : Good xs
  mem : ∀ b ∈ L, 0 ≤ b ∧ b < xs.length
  few : L.length ≤ 6
theorem goodC_of {xs : List Cls} {L : List Int} (h : goodC xs L = true) : GoodC xs L := by
  unfold goodC at h
  simp only [Bool.and_eq_true, decide_eq_true_eq] at h
  exact ⟨good_of h.1.1, fun b hb => hasK_iff.1 (goodL_mem h.1.2 b hb), h.2⟩
def firstX (xs : List Cls) (L : List Int) (a : Int) : Int := cond (goodC xs L && hasK xs a) (firstC xs L a 0) (-2)
theorem firstX_of {xs : List Cls} {L : List Int} {a : Int} {t : Bool} (h : (goodC xs L && hasK xs a) = t) : firstX xs L a = cond t (firstC xs L a 0) (-2) := by unfold firstX; rw [h]
end

section
set_option maxRecDepth 100000 in
theorem goodCatches_any (A B : Option Addr) (n cap m c : Nat) (xs : List Cls) (L : List Int) (w : World) (hR : Sl w A n cap xs) (hL : Sl w B m c L) :
    Calls Try.prog 51 #[.agg #[.slice A n cap], .slice B m c] w fun e w' => e = .returned (.bool (goodC xs L)) ∧ Le w w' := by
  obtain rfl := hL.len
  have hm := hL.n_le
  go_enter Try.func51, Try.ntmps51
  go_wp2
  obtain ⟨c0, z0, L0⟩ := box1 w (.slice A n cap) 25
  have S1 := hR.le L0
  have S2 := hL.le L0
  generalize w.alloc (.cells #[.slice A n cap] 25) = W at *
  go_loopw [5] (fun i wr => ∃ k : Nat, k ≤ L.length ∧ i = .int .i64 k ∧ goodL xs L = goodL xs (L.drop k) ∧ Le W wr) (fun i _ => L.length - (intOf i).toNat)
  case atStart => exact ⟨0, Nat.zero_le _, rfl, rfl, Le.refl _⟩
  case round =>
    obtain ⟨k, hk, rfl, hr, hle⟩ := hrel
    have HR := Lib.hid hr; clear hr
    replace c0 := (hle.cell z0).trans c0
    replace z0 := Nat.lt_of_lt_of_le z0 hle.size
    replace S1 := S1.le hle
    replace S2 := S2.le hle
    replace L0 := L0.trans hle
    by_cases hlt : k < L.length
    · obtain ⟨b, off, rfl, hb, hcell, _, _⟩ := S2.int_at hlt
      have E0 := cell_ext z0 c0
      have E1 := cell_ext hb hcell
      cases h1 : hasK xs L[k]
      all_goals
        have HF : Hid (goodL xs L = (hasK xs L[k] && goodL xs (L.drop (k + 1)))) := by show _ = _; rw [HR.out, goodL_at hlt]
        go_wp2_with fail
        refine wp_region_ext (by kernel_rfl) (by kernel_rfl) ?_
        repeat (go_big_quiet_step (first | (go_at_call 38; exact Calls.ext_of (Calls.val (hasClass_any _ _ _ xs _ _ (S1.ext _)) (vb h1)))))
        refine wpQuiet_nil ?_
        intro _ hw'
        obtain ⟨g, rfl⟩ := hw'
        have hle2 := hle.trans (Le.ext wr g)
        replace L0 := L0.trans (Le.ext wr g)
        generalize wr.ext g = W2 at *
        go_wp2
      · go_ret
        exact ⟨ret_bool (by unfold goodC; rw [HF.out, h1]; simp), L0⟩
      · go_roundw
        case rel => exact ⟨k + 1, by omega, by go_num, by rw [HF.out, h1]; rfl, hle2⟩
        case measure => simp [intOf]; omega
    · have HF : Hid (goodL xs L = true) := by show _ = _; rw [HR.out, goodL_end hlt]
      cases hok : okTree xs
      all_goals
        go_wp2_with fail
        refine (validTree_any A n cap xs _ S1).mono ?_
        rintro e w2 ⟨rfl, hle2⟩
        rw [hok]
        go_wp2
        go_ret
        exact ⟨ret_bool (by unfold goodC; rw [HF.out, hok]; simp <;> omega), L0.trans hle2⟩
end
end Go.Proofs.Ytkpnajffeclmdaa
