/- one text of ItNa, ItR, GpG -/
import Derived.Test.YtkpnajffeclmdaaCl17
import Derived.Test.YtkpnajffeclmdaaCl10
import Derived.Test.YtkpnajffeclmdaaCl13
import Derived.Test.YtkpnajffeclmdaaCl16
import Derived.Test.YtkpnajffeclmdaaCl3
namespace Go.Proofs.Ytkpnajffeclmdaa
open Go.RowKit
set_option linter.unusedVariables false
section
open Go.RowKit Go.Shelf
theorem Sl.dropK {α : Type} [Enc α] {w : World} {b off n cap : Nat} {xs : List α} (h : Sl w (some ⟨b, off, none⟩) n cap xs) (k : Nat) (hk : k ≤ n) : Sl w (some ⟨b, off + k * Enc.size α, none⟩) (n - k) (cap - k) (xs.drop k) := by
  refine ⟨by rw [List.length_drop, h.len], by have := h.cap_; omega, by have := h.max; omega, fun x hx => h.ok x (List.mem_of_mem_drop hx), fun hn => ?_⟩
  obtain ⟨b', off', e, hb, hc⟩ := h.at_ (by omega)
  simp only [Option.some.injEq, Addr.mk.injEq, and_true] at e
  obtain ⟨rfl, rfl⟩ := e
  refine ⟨b, _, rfl, hb, fun j u hu => ?_⟩
  have e2 : xs.flatMap (Enc.cells (α := α)) = (xs.take k).flatMap Enc.cells ++ (xs.drop k).flatMap Enc.cells := by rw [← List.flatMap_append, List.take_append_drop]
  have e3 : ((xs.take k).flatMap (Enc.cells (α := α))).length = k * Enc.size α := by rw [flat_len, List.length_take, Nat.min_eq_left (by rw [h.len]; exact hk)]
  have := hc (k * Enc.size α + j) u (by rw [e2, List.getElem?_append_right (by omega), e3, Nat.add_sub_cancel_left]; exact hu)
  rw [← Nat.add_assoc] at this; exact this
theorem Sl.cutS {α : Type} [Enc α] {w : World} {ad : Addr} {n cap : Nat} {xs : List α} (h : Sl w (some ad) n cap xs) (k : Nat) (hk : k ≤ n) {s : Nat} (hs : s = k * Enc.size α) : Sl w (some (ad.add s)) (n - k) (cap - k) (xs.drop k) := by
  subst hs
  by_cases hn : n = k
  · subst hn
    have e : xs.drop n = [] := List.drop_eq_nil_of_le (by rw [h.len]; exact Nat.le_refl _)
    rw [e, Nat.sub_self]
    exact Sl.nil _ _ _ (by have := h.max; omega)
  · obtain ⟨b, off, e, _⟩ := h.at_ (by omega)
    simp only [Option.some.injEq] at e
    subst e
    have e : (⟨b, off, none⟩ : Addr).add (k * Enc.size α) = ⟨b, off + k * Enc.size α, none⟩ := by
      unfold Addr.add; split
      · next h => simp_all
      · rfl
    rw [e]; exact h.dropK k hk
/-- an append in a region that draws its order, within a fence -/
theorem stepIn_append_sl {α : Type} [Enc α] [EncOne α] {F : Fence} {nf : Nat} {P : Program} {w : World} {ops : Array Oper} {o : Oper} {a : Act} {K : Act → World → Prop} {Q : Exit → Act → World → Prop} {E : Prop} (hgd : o.guard = none) (s x : Operand) (t : TypeId)
    (ho : o.op = .call { callee := .builtin .append, args := #[s, x], argTypes := #[t, t] })
    (base : Nat) (e : TypeId) (i : TypeInfo) (z : Value) (bytes : Nat) (ht : P.underlying t = some (.slice e)) (hi : P.info? e = some i) (hz : i.zero = some z)
    (hsize : i.size = Enc.size α) (hby : i.bytes = bytes) (hzs : z.cells.size = Enc.size α) (v : Value) (n : Nat) (xs : List α) (hs : a.eval s = v) (hown : w.ownsRow base e (Enc.size α) v n (xs.flatMap Enc.cells))
    (A : Option Addr) (m c : Nat) (ys : List α) (hx : a.eval x = .slice A m c) (hS : Sl w A m c ys) (h63 : n + m ≤ maxLen) (hbytes : (n + m) * bytes ≤ 140737488355328) (hbase : base ≤ w.heap.size)
    (h : ∀ v' w', w'.ownsRow base e (Enc.size α) v' (n + m) ((xs ++ ys).flatMap Enc.cells) → w.grownBy w' v.ownBlock → (v'.ownBlock = v.ownBlock ∨ v'.ownBlock = some w.heap.size) → K (a.put o.dst v') w') :
    if Region.wanted o (yielded ops a.tmps) = true then Oper.wpIn F nf P o a w K Q else E := by
  have hw : Region.wanted o (yielded ops a.tmps) = true := by simp [Region.wanted, hgd]
  rw [if_pos hw]
  obtain ⟨v', w', hrun, h2, h3, h4⟩ := run_append_sl (P := P) (w := w) base t o.type e i z bytes ht hi hz hsize hby hzs v n xs hown A m c ys hS h63 hbytes hbase
  unfold Oper.wpIn
  refine ⟨?_, ?_⟩
  · simp [Oper.about, ho, resolve, Target.leads, Sem.run_pure]
  · rw [Oper.semAt_plain F _ _ (by rw [ho]; intro c hc'; cases hc')]
    simp [execOp, ho, resolve, invoke, builtin, hs, hx, hrun, Result.andThen]
    exact h v' w' h2 h3 h4
theorem Le.trans' {a b c : World} (h : Le a b) (k : Below a.heap.size b c) : Le a c := Below.trans h k
theorem kpB_b {n₀ Bg B : Nat} (h1 : n₀ ≤ B) (h2 : Bg < B) : ∀ (W : World) (l : Nat) (o o' : Obj), B ≤ l → W.heap[l]? = some o → o.isCells = false → o.isWalk = false → KpB n₀ Bg W (W.putObj l o') := fun W l o o' hl ho _ _ => by
  have hlt := (Array.getElem?_eq_some_iff.1 ho).1
  have hg := grownBy_putObj' W l o'
  exact ⟨hg.size, fun k hk => hg.block k (by omega) (fun e => by injection e with e; omega)⟩
end

section
theorem infoPartSl' : (Try.prog.info? 26).map (fun i => (i.zero, i.size, i.bytes)) = some (some (.slice none 0 0), 1, 24) := by kernel_rfl
theorem step_append_slG {α : Type} [Enc α] [EncOne α] {P : Program} {w : World} {ops : Array Oper} {o : Oper} {a : Act} {K : Act → World → Prop} {Q : Exit → Act → World → Prop} {E : Prop} (hw : Region.wanted o (yielded ops a.tmps) = true) (s x : Operand) (t : TypeId)
    (ho : o.op = .call { callee := .builtin .append, args := #[s, x], argTypes := #[t, t] })
    (base : Nat) (e : TypeId) (i : TypeInfo) (z : Value) (bytes : Nat) (ht : P.underlying t = some (.slice e)) (hi : P.info? e = some i) (hz : i.zero = some z)
    (hsize : i.size = Enc.size α) (hby : i.bytes = bytes) (hzs : z.cells.size = Enc.size α) (v : Value) (n : Nat) (xs : List α) (hs : a.eval s = v) (hown : w.ownsRow base e (Enc.size α) v n (xs.flatMap Enc.cells))
    (A : Option Addr) (m c : Nat) (ys : List α) (hx : a.eval x = .slice A m c) (hS : Sl w A m c ys) (h63 : n + m ≤ maxLen) (hbytes : (n + m) * bytes ≤ 140737488355328) (hbase : base ≤ w.heap.size)
    (h : ∀ v' w', w'.ownsRow base e (Enc.size α) v' (n + m) ((xs ++ ys).flatMap Enc.cells) → w.grownBy w' v.ownBlock → (v'.ownBlock = v.ownBlock ∨ v'.ownBlock = some w.heap.size) → K (a.put o.dst v') w') :
    if Region.wanted o (yielded ops a.tmps) = true then Oper.wp P o a w K Q else E := by
  rw [if_pos hw]
  exact wp_append_sl s x t ho base e i z bytes ht hi hz hsize hby hzs v n xs hs hown A m c ys hx hS h63 hbytes hbase h
/-- what lies right below a group, from the part i on -/
def kidAt (g : List Prt) (i : Nat) : List Prt := shiftL (piece g i) (-(gAt g i).depth)
def kidsL (g : List Prt) : List (List Prt) := (kdS g g.length 1 g.length).map (kidAt g)
theorem piece_mem {g : List Prt} {i : Nat} {p : Prt} (h : p ∈ piece g i) : p ∈ g := List.mem_of_mem_drop (List.mem_of_mem_take h)
theorem piece_len {g : List Prt} {i : Nat} (h : i < g.length) : (piece g i).length = endN g i - i := by
  have := endN_le h
  unfold piece
  rw [List.length_take, List.length_drop]; omega
theorem good_deep {xs : List Cls} {g : List Prt} (G : GoodG xs g) : ∀ p ∈ g, 0 ≤ p.depth ∧ p.depth ≤ 5 := fun p hp => by
  obtain ⟨i, hi, e⟩ := List.getElem_of_mem hp
  rcases Nat.eq_zero_or_pos i with rfl | h
  · have := G.first; rw [gAt_at hi, e] at this; omega
  · have := G.deep i h hi; rw [gAt_at hi, e] at this; omega
theorem Sl.piece {w : World} {b off n cap : Nat} {g : List Prt} (h : Sl w (some ⟨b, off, none⟩) n cap g) {k : Nat} (hk : k < g.length) : Sl w (some ⟨b, off + k * 4, none⟩) (endN g k - k) (cap - k) (piece g k) := by
  have := endN_le hk
  have := endN_gt g k
  have hl := h.len
  have S := (h.cutS k (by omega) (s := k * 4) rfl).take_ (endN g k - k) (by omega)
  have hadd : (⟨b, off, none⟩ : Addr).add (k * 4) = ⟨b, off + k * 4, none⟩ := by
    unfold Addr.add; split
    · simp
    · rfl
  rw [hadd] at S
  exact S
end

section
theorem flat_shift : ∀ (t : Fo) (d e : Int), shiftL (flat d t) e = flat (d + e) t
  | .nil, _, _ => rfl
  | .leaf x r, d, e => by
    have := flat_shift r d e
    unfold shiftL at this ⊢
    rw [flat, List.map_cons, this]; rfl
  | .grp c k r, d, e => by
    have h1 := flat_shift k (d + 1) e
    have h2 := flat_shift r d e
    unfold shiftL at h1 h2 ⊢
    rw [flat, List.map_cons, List.map_append, h1, h2, flat, show d + 1 + e = d + e + 1 by omega]
/-- the pieces of a list of parts -/
def pcs : Nat → List Prt → List (List Prt)
  | 0, _ => []
  | _ + 1, [] => []
  | m + 1, p :: r => (p :: bel p.depth r) :: pcs m (r.drop (bel p.depth r).length)
theorem kd_pcs (g : List Prt) : ∀ m f, (kdS g m f g.length).map (piece g) = pcs m (g.drop f)
  | 0, _ => rfl
  | m + 1, f => by
    have e : kdS g (m + 1) f g.length = if f < g.length then f :: kdS g m (endN g f) g.length else [] := rfl
    rw [e]
    by_cases h : f < g.length
    · rw [if_pos h, List.map_cons, kd_pcs g m, piece_bel h, drop_gAt h, pcs, List.drop_drop, endN_bel h]
    · rw [if_neg h, List.drop_eq_nil_of_le (by omega)]; rfl
theorem pcs_flat : ∀ (t : Fo) (d : Int) (m : Nat), (flat d t).length ≤ m → pcs m (flat d t) = (rootsF t).map (flat d)
  | .nil, d, 0, _ => rfl
  | .nil, d, m + 1, _ => rfl
  | .leaf x r, d, 0, h => by simp [flat] at h
  | .grp c k r, d, 0, h => by simp [flat] at h
  | .leaf x r, d, m + 1, h => by
    have hb : bel d (flat d r) = [] := bel_stop (fun q hq => by have := flat_head (t := r) (d := d) (L := []) (p := q) (by rw [List.append_nil]; exact hq) (fun q hq => by cases hq); exact this)
    rw [flat, pcs, rootsF, List.map_cons]
    show (_ :: bel d (flat d r)) :: pcs m ((flat d r).drop (bel d (flat d r)).length) = _
    rw [hb, List.length_nil, List.drop_zero, pcs_flat r d m (by rw [flat, List.length_cons] at h; omega)]; rfl
  | .grp c k r, d, m + 1, h => by
    have hb0 : bel d (flat d r) = [] := bel_stop (fun q hq => by have := flat_head (t := r) (d := d) (L := []) (p := q) (by rw [List.append_nil]; exact hq) (fun q hq => by cases hq); exact this)
    have hb : bel d (flat (d + 1) k ++ flat d r) = flat (d + 1) k := by rw [bel_flat, hb0, List.append_nil]
    rw [flat, pcs, rootsF, List.map_cons]
    show (_ :: bel d (flat (d + 1) k ++ flat d r)) :: pcs m ((flat (d + 1) k ++ flat d r).drop (bel d (flat (d + 1) k ++ flat d r)).length) = _
    rw [hb, List.drop_left, pcs_flat r d m (by rw [flat, List.length_cons, List.length_append] at h; omega)]
    simp [flat]
/-- what lies right below a tree -/
def kidsF : Fo → Fo
  | .nil => .nil
  | .leaf _ _ => .nil
  | .grp _ k _ => k
theorem one_flat {t : Fo} (h : OneF t) (d : Int) : ∃ p, flat d t = p :: flat (d + 1) (kidsF t) ∧ p.depth = d := by
  cases h with
  | leaf x => exact ⟨_, rfl, rfl⟩
  | grp c k => exact ⟨_, by simp only [flat, kidsF]; rw [List.append_nil], rfl⟩
theorem roots_one : ∀ {t : Fo}, ∀ r ∈ rootsF t, OneF r
  | .nil, r, h => nomatch h
  | .leaf x q, r, h => by
    rcases List.mem_cons.1 h with rfl | h
    · exact .leaf x
    · exact roots_one r h
  | .grp c k q, r, h => by
    rcases List.mem_cons.1 h with rfl | h
    · exact .grp c k
    · exact roots_one r h
theorem one_norm {r : Fo} (h : OneF r) (d : Int) : shiftL (flat d r) (-(gAt (flat d r) 0).depth) = flat 0 r := by
  obtain ⟨p, e, hp⟩ := one_flat h d
  have : (gAt (flat d r) 0).depth = d := by rw [e]; exact hp
  rw [this, flat_shift, show d + -d = 0 by omega]
theorem gAt_piece {g : List Prt} {i : Nat} (h : i < g.length) : gAt (piece g i) 0 = gAt g i := by rw [piece_bel h]; rfl
theorem kdS_lt (g : List Prt) : ∀ (m f : Nat), ∀ i ∈ kdS g m f g.length, i < g.length
  | 0, _, i, h => nomatch h
  | m + 1, f, i, h => by
    have e : kdS g (m + 1) f g.length = if f < g.length then f :: kdS g m (endN g f) g.length else [] := rfl
    rw [e] at h
    by_cases hl : f < g.length
    · rw [if_pos hl] at h
      rcases List.mem_cons.1 h with rfl | h
      · exact hl
      · exact kdS_lt g m _ i h
    · rw [if_neg hl] at h; cases h
/-- the pieces right below a tree at a depth -/
theorem kids_pieces {t : Fo} (h : OneF t) (d : Int) : (kdS (flat d t) (flat d t).length 1 (flat d t).length).map (piece (flat d t)) = (rootsF (kidsF t)).map (flat (d + 1)) := by
  rw [kd_pcs]
  obtain ⟨p, e, -⟩ := one_flat h d
  have hd : (flat d t).drop 1 = flat (d + 1) (kidsF t) := by rw [e]; rfl
  rw [hd, pcs_flat]
  rw [e, List.length_cons]; omega
theorem kidsL_flat {t : Fo} (h : OneF t) : kidsL (flat 0 t) = (rootsF (kidsF t)).map (flat 0) := by
  have h1 := kids_pieces h 0
  have h2 : kidsL (flat 0 t) = ((kdS (flat 0 t) (flat 0 t).length 1 (flat 0 t).length).map (piece (flat 0 t))).map (fun l => shiftL l (-(gAt l 0).depth)) := by
    unfold kidsL
    rw [List.map_map]
    refine List.map_congr_left (fun i hi => ?_)
    show kidAt _ i = shiftL _ (-(gAt (piece _ i) 0).depth)
    rw [gAt_piece (kdS_lt _ _ _ i hi)]; rfl
  rw [h2, h1, List.map_map]
  refine List.map_congr_left (fun r hr => ?_)
  exact one_norm (roots_one r hr) _
def appF : Fo → Fo → Fo
  | .nil, s => s
  | .leaf x r, s => .leaf x (appF r s)
  | .grp c k r, s => .grp c k (appF r s)
theorem flat_app : ∀ (a b : Fo) (d : Int), flat d (appF a b) = flat d a ++ flat d b
  | .nil, _, _ => rfl
  | .leaf x r, b, d => by rw [appF, flat, flat_app r b d, flat]; rfl
  | .grp c k r, b, d => by rw [appF, flat, flat_app r b d, flat, List.cons_append, List.append_assoc]
def oneB : Fo → Bool
  | .leaf _ .nil => true
  | .grp _ _ .nil => true
  | _ => false
theorem oneB_iff {t : Fo} : oneB t = true ↔ OneF t := by
  constructor
  · intro h
    match t, h with
    | .leaf x .nil, _ => exact .leaf x
    | .grp c k .nil, _ => exact .grp c k
  · rintro (x | ⟨c, k⟩) <;> rfl
theorem roots_len : ∀ t : Fo, decide ((rootsF t).length = 1) = oneB t
  | .nil => rfl
  | .leaf _ .nil => rfl
  | .leaf _ (.leaf _ _) => by simp [rootsF, oneB]
  | .leaf _ (.grp _ _ _) => by simp [rootsF, oneB]
  | .grp _ _ .nil => rfl
  | .grp _ _ (.leaf _ _) => by simp [rootsF, oneB]
  | .grp _ _ (.grp _ _ _) => by simp [rootsF, oneB]
theorem one_roots {t : Fo} (h : OneF t) : rootsF t = [t] := by cases h <;> rfl
/-- trees without groups of one -/
def simpF : Fo → Fo
  | .nil => .nil
  | .leaf x r => .leaf x (simpF r)
  | .grp c k r => cond (oneB k) (appF (simpF k) (simpF r)) (.grp c (simpF k) (simpF r))
theorem simp_roots : ∀ (t : Fo) (d : Int), flat d (simpF t) = ((rootsF t).map (fun r => flat d (simpF r))).flatten
  | .nil, _ => rfl
  | .leaf x r, d => by
    rw [simpF, rootsF, List.map_cons, List.flatten_cons, ← simp_roots r d]; rfl
  | .grp c k r, d => by
    rw [simpF, rootsF, List.map_cons, List.flatten_cons, ← simp_roots r d, simpF]
    cases oneB k
    · show flat d (.grp c (simpF k) (simpF r)) = flat d (.grp c (simpF k) .nil) ++ _
      simp [flat]
    · show flat d (appF (simpF k) (simpF r)) = flat d (appF (simpF k) .nil) ++ _
      rw [flat_app, flat_app]; simp [flat]
/-- a tree without groups of one: what lies right below it, if that is one; else all of it -/
theorem simp_one {t : Fo} (h : OneF t) (hk : oneB (kidsF t) = true) (d : Int) : flat d (simpF t) = flat d (simpF (kidsF t)) := by
  cases h with
  | leaf x => cases hk
  | grp c k =>
    have hk : oneB k = true := hk
    rw [simpF, hk]
    show flat d (appF (simpF k) .nil) = _
    rw [flat_app]; simp [flat, kidsF]
theorem simp_more {t : Fo} (h : OneF t) (hk : oneB (kidsF t) = false) (d : Int) : flat d (simpF t) = gAt (flat d t) 0 :: ((rootsF (kidsF t)).map (fun r => flat (d + 1) (simpF r))).flatten := by
  rw [← simp_roots]
  cases h with
  | leaf x => rfl
  | grp c k =>
    have hk : oneB k = false := hk
    rw [simpF, hk]
    show flat d (.grp c (simpF k) .nil) = _
    simp [flat, kidsF, gAt]
theorem szF_root : ∀ {t : Fo}, ∀ r ∈ rootsF t, szF r ≤ szF t
  | .nil, r, h => nomatch h
  | .leaf x q, r, h => by
    rcases List.mem_cons.1 h with rfl | h
    · rw [szF, szF, szF]; omega
    · have := szF_root r h; rw [szF]; omega
  | .grp c k q, r, h => by
    rcases List.mem_cons.1 h with rfl | h
    · rw [szF, szF, szF]; omega
    · have := szF_root r h; rw [szF]; omega
theorem htF_root : ∀ {t : Fo}, ∀ r ∈ rootsF t, htF r ≤ htF t
  | .nil, r, h => nomatch h
  | .leaf x q, r, h => by
    rcases List.mem_cons.1 h with rfl | h
    · rw [htF, htF, htF]; omega
    · have := htF_root r h; rw [htF]; omega
  | .grp c k q, r, h => by
    rcases List.mem_cons.1 h with rfl | h
    · rw [htF, htF, htF]; omega
    · have := htF_root r h; rw [htF]; omega
theorem okF_root {n : Int} : ∀ {t : Fo}, okF n t → ∀ r ∈ rootsF t, okF n r
  | .nil, _, r, h => nomatch h
  | .leaf x q, ⟨h1, h2, h3, h4, h5⟩, r, h => by
    rcases List.mem_cons.1 h with rfl | h
    · exact ⟨h1, h2, h3, h4, trivial⟩
    · exact okF_root h5 r h
  | .grp c k q, ⟨h1, h2, h3, h4, h5⟩, r, h => by
    rcases List.mem_cons.1 h with rfl | h
    · exact ⟨h1, h2, h3, h4, trivial⟩
    · exact okF_root h5 r h
theorem szF_kids {t : Fo} (h : OneF t) : szF t = 1 + szF (kidsF t) := by cases h <;> simp [szF, kidsF]
theorem htF_kids {t : Fo} (h : OneF t) : htF (kidsF t) + 1 ≤ htF t ∨ kidsF t = .nil := by
  cases h with
  | leaf x => exact .inr rfl
  | grp c k => left; simp only [htF, kidsF]; omega
theorem okF_kids {n : Int} {t : Fo} (h : OneF t) (ok : okF n t) : okF n (kidsF t) := by
  cases h with
  | leaf x => trivial
  | grp c k => exact ok.2.2.2.1
theorem GTr.kid {xs : List Cls} {t r : Fo} (h : GTr xs t) (hr : r ∈ rootsF (kidsF t)) : GTr xs r := by
  have h1 := szF_root r hr
  have h2 := htF_root r hr
  have h3 := szF_kids h.one
  have h4 : htF (kidsF t) ≤ htF t := by
    rcases htF_kids h.one with e | e
    · omega
    · rw [e]; exact Nat.zero_le _
  exact ⟨h.tree, roots_one r hr, okF_root (okF_kids h.one h.ok) r hr, by have := h.ht; omega, by have := h.sz; omega⟩
/-- a tree without groups of one is no greater, no deeper, valid -/
theorem szF_app : ∀ (a b : Fo), szF (appF a b) = szF a + szF b
  | .nil, b => by show szF b = 0 + szF b; omega
  | .leaf x r, b => by rw [appF, szF, szF, szF_app r b]; omega
  | .grp c k r, b => by rw [appF, szF, szF, szF_app r b]; omega
theorem htF_app : ∀ (a b : Fo), htF (appF a b) = max (htF a) (htF b)
  | .nil, b => by show htF b = max 0 (htF b); omega
  | .leaf x r, b => by rw [appF, htF, htF, htF_app r b]; omega
  | .grp c k r, b => by rw [appF, htF, htF, htF_app r b]; omega
theorem okF_app {n : Int} : ∀ {a b : Fo}, okF n a → okF n b → okF n (appF a b)
  | .nil, _, _, h => h
  | .leaf _ _, _, ⟨h1, h2, h3, h4, h5⟩, h => ⟨h1, h2, h3, h4, okF_app h5 h⟩
  | .grp _ _ _, _, ⟨h1, h2, h3, h4, h5⟩, h => ⟨h1, h2, h3, h4, okF_app h5 h⟩
theorem app_nil : ∀ a : Fo, appF a .nil = a
  | .nil => rfl
  | .leaf x r => by rw [appF, app_nil r]
  | .grp c k r => by rw [appF, app_nil r]
theorem szF_simp : ∀ t : Fo, szF (simpF t) ≤ szF t
  | .nil => Nat.le_refl _
  | .leaf x r => by have := szF_simp r; rw [simpF, szF, szF]; omega
  | .grp c k r => by
    have h1 := szF_simp k
    have h2 := szF_simp r
    rw [simpF, szF]
    cases oneB k
    · show szF (.grp c (simpF k) (simpF r)) ≤ _; rw [szF]; omega
    · show szF (appF (simpF k) (simpF r)) ≤ _; rw [szF_app]; omega
theorem htF_simp : ∀ t : Fo, htF (simpF t) ≤ htF t
  | .nil => Nat.le_refl _
  | .leaf x r => by have := htF_simp r; rw [simpF, htF, htF]; omega
  | .grp c k r => by
    have h1 := htF_simp k
    have h2 := htF_simp r
    rw [simpF, htF]
    cases oneB k
    · show htF (.grp c (simpF k) (simpF r)) ≤ _; rw [htF]; omega
    · show htF (appF (simpF k) (simpF r)) ≤ _; rw [htF_app]; omega
theorem simp_nil : ∀ {t : Fo}, t ≠ .nil → simpF t ≠ .nil
  | .nil, h => absurd rfl h
  | .leaf x r, _ => fun e => nomatch e
  | .grp c k r, _ => by
    rw [simpF]
    cases hk : oneB k
    · exact fun e => nomatch e
    · have h1 : simpF k ≠ .nil := simp_nil (fun e => by rw [e] at hk; cases hk)
      intro e
      show False
      have e : appF (simpF k) (simpF r) = .nil := e
      cases h2 : simpF k with
      | nil => exact h1 h2
      | leaf x q => rw [h2] at e; cases e
      | grp c k q => rw [h2] at e; cases e
theorem okF_simp {n : Int} : ∀ {t : Fo}, okF n t → okF n (simpF t)
  | .nil, _ => trivial
  | .leaf x r, ⟨h1, h2, h3, h4, h5⟩ => ⟨h1, h2, h3, h4, okF_simp h5⟩
  | .grp c k r, ⟨h1, h2, h3, h4, h5⟩ => by
    rw [simpF]
    cases oneB k
    · exact ⟨h1, h2, simp_nil h3, okF_simp h4, okF_simp h5⟩
    · exact okF_app (okF_simp h4) (okF_simp h5)
theorem one_simp : ∀ {t : Fo}, OneF t → OneF (simpF t)
  | .leaf x .nil, _ => .leaf x
  | .grp c k .nil, _ => by
    rw [simpF]
    cases hk : oneB k
    · exact .grp c _
    · show OneF (appF (simpF k) .nil)
      rw [app_nil]
      exact one_simp (oneB_iff.1 hk)
theorem GTr.simp {xs : List Cls} {t : Fo} (h : GTr xs t) : GTr xs (simpF t) := ⟨h.tree, one_simp h.one, okF_simp h.ok, Nat.le_trans (htF_simp t) h.ht, Nat.le_trans (szF_simp t) h.sz⟩
theorem flat_inj : ∀ (a b : Fo) (d : Int), flat d a = flat d b → a = b
  | .nil, .nil, _, _ => rfl
  | .nil, .leaf _ _, _, h => by simp [flat] at h
  | .nil, .grp _ _ _, _, h => by simp [flat] at h
  | .leaf _ _, .nil, _, h => by simp [flat] at h
  | .grp _ _ _, .nil, _, h => by simp [flat] at h
  | .leaf _ _, .grp _ _ _, _, h => by simp [flat] at h
  | .grp _ _ _, .leaf _ _, _, h => by simp [flat] at h
  | .leaf ⟨x1, x2⟩ r, .leaf ⟨y1, y2⟩ s, d, h => by
    simp only [flat, List.cons.injEq, Prt.mk.injEq, true_and] at h
    obtain ⟨⟨rfl, rfl⟩, h⟩ := h
    rw [flat_inj r s d h]
  | .grp c k r, .grp e q s, d, h => by
    simp only [flat, List.cons.injEq, Prt.mk.injEq, true_and] at h
    obtain ⟨rfl, h⟩ := h
    have hs : ∀ t : Fo, bel d (flat d t) = [] := fun t => bel_stop (fun p hp => flat_head (t := t) (d := d) (L := []) (p := p) (by rw [List.append_nil]; exact hp) (fun q hq => by cases hq))
    have h1 : flat (d + 1) k = flat (d + 1) q := by
      have := congrArg (bel d) h
      rw [bel_flat, bel_flat, hs, hs, List.append_nil, List.append_nil] at this
      exact this
    rw [h1] at h
    rw [flat_inj k q (d + 1) h1, flat_inj r s d (List.append_cancel_left h)]
open Classical in
/-- the tree of a list of parts -/
noncomputable def treeOf (g : List Prt) : Fo := if h : ∃ t, g = flat 0 t then h.choose else .nil
theorem treeOf_flat (t : Fo) : treeOf (flat 0 t) = t := by
  have h : ∃ t', flat 0 t = flat 0 t' := ⟨t, rfl⟩
  unfold treeOf
  rw [dif_pos h]
  exact (flat_inj _ _ 0 h.choose_spec).symm
theorem gOk_tree {xs : List Cls} {g : List Prt} (h : gOkS xs g = true) : g = flat 0 (treeOf g) ∧ GTr xs (treeOf g) := by
  obtain ⟨t, rfl, ht⟩ := gOk_iff.1 h
  rw [treeOf_flat]
  exact ⟨rfl, ht⟩
end
end Go.Proofs.Ytkpnajffeclmdaa
