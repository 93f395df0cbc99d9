/- trees of texts: the model's parseTree -/
import Derived.Test.YtjkadmbcnlelhaaTtB
import Derived.Test.YtjkadmbcnlelhaaRZ
import Derived.Test.YtjkadmbcnlelhaaT
namespace Go.Proofs.Ytjkadmbcnlelhaa
open Go.RowKit
theorem pS_step {L : List (List UInt8)} {k : Nat} (h : k + 1 < L.length) (T : List Cls) : pS (L.drop k) T = pS (L.drop (k + 1)) (T ++ [pcS T (L[k]'(by omega))]) := by
  rw [List.drop_eq_getElem_cons (show k < L.length by omega)]
  have h2 := List.drop_eq_getElem_cons h
  rw [h2]
  rfl
theorem pS_end {L : List (List UInt8)} {k : Nat} (h : ¬ k + 1 < L.length) (T : List Cls) : pS (L.drop k) T = T := by
  rcases Nat.lt_or_ge k L.length with h1 | h1
  · rw [List.drop_eq_getElem_cons h1, List.drop_eq_nil_of_le (by omega), pS]
  · rw [List.drop_eq_nil_of_le h1, pS]
theorem splitL_sub (c : UInt8) : ∀ (s : List UInt8), ∀ l ∈ splitL c s, l.length ≤ s.length
  | [], l, h => by simp [splitL] at h; subst h; simp
  | x :: r, l, h => by
    have ih := splitL_sub c r
    rw [splitL] at h
    by_cases hx : x = c
    · rw [if_pos hx] at h
      rcases List.mem_cons.1 h with rfl | h
      · simp
      · have := ih l h; simp; omega
    · rw [if_neg hx] at h
      cases e : splitL c r with
      | nil => exact absurd e (splitL_ne _ _)
      | cons y t =>
        rw [e] at h ih
        rcases List.mem_cons.1 h with rfl | h
        · have := ih y (by simp); simp; omega
        · have := ih l (List.mem_cons_of_mem _ h); simp; omega
theorem findN_bound (s : ByteArray) (L : List Cls) : -1 ≤ findN L s 0 ∧ findN L s 0 ≤ L.length := by
  rcases findN_spec s L 0 with ⟨h, _⟩ | ⟨j, hj, h, _⟩ <;> rw [h] <;> omega
/-- the class of a line, by its words -/
theorem pcS_two {T : List Cls} {l : List UInt8} {W : List ByteArray} (hW : (splitL 32 l).map tb = W) (h : W.length = 2) (h0 : 0 < W.length) (h1 : 1 < W.length) : pcS T l = ⟨W[0], findN T W[1] 0⟩ := by
  cases e : splitL 32 l with
  | nil => rw [e] at hW; subst hW; simp at h
  | cons a r =>
    cases r with
    | nil => rw [e] at hW; subst hW; simp at h
    | cons b r =>
      cases r with
      | nil => rw [e] at hW; subst hW; unfold pcS; rw [e]; rfl
      | cons d r => rw [e] at hW; subst hW; simp at h
theorem pcS_not {T : List Cls} {l : List UInt8} {W : List ByteArray} (hW : (splitL 32 l).map tb = W) (h : W.length ≠ 2) (h0 : 0 < W.length) : pcS T l = ⟨W[0], -1⟩ := by
  cases e : splitL 32 l with
  | nil => exact absurd e (splitL_ne _ _)
  | cons a r =>
    cases r with
    | nil => rw [e] at hW; subst hW; unfold pcS; rw [e]; rfl
    | cons b r =>
      cases r with
      | nil => rw [e] at hW; subst hW; simp at h
      | cons d r => rw [e] at hW; subst hW; unfold pcS; rw [e]; rfl
theorem split_pos (c : UInt8) (l : List UInt8) : 0 < ((splitL c l).map tb).length := by
  rw [List.length_map]; exact List.length_pos_iff.2 (splitL_ne c l)
theorem split_ok {c : UInt8} {l : List UInt8} {m : Nat} (h : l.length ≤ m) : ∀ x ∈ (splitL c l).map tb, x.size ≤ m := by
  intro x hx
  obtain ⟨y, hy, rfl⟩ := List.mem_map.1 hx
  have := splitL_sub c l y hy
  show y.length ≤ m
  omega
def PtOut (T : TypeId) (w : World) (xs : List Cls) (b : Bool) (e : Ending) (w' : World) : Prop := ∃ v, e = .returned (.tuple #[.agg #[v], .bool b]) ∧ Owd T w w' v xs ∧ Le w w'
/-- what parseTree keeps: its result's box and its tree's box, lines that lie below B1, the tree's row from B1 on -/
structure PtI (w : World) (B1 : Nat) (A5 : Option Addr) (q5 : Nat) (LS : List ByteArray) (T : List Cls) (A : Option Addr) (q : Nat) (wr : World) : Prop where
  c2 : wr.cell? ⟨w.heap.size, 0, none⟩ = some (.slice none 0 0)
  c4 : wr.cell? ⟨w.heap.size + 1, 0, none⟩ = some (.slice A T.length q)
  f2 : wr.frozen? ⟨w.heap.size, 0, none⟩ = false
  f4 : wr.frozen? ⟨w.heap.size + 1, 0, none⟩ = false
  O : wr.ownsRow B1 50 2 (.slice A T.length q) T.length (T.flatMap Enc.cells)
  hB : w.heap.size + 1 < B1
  hz : B1 ≤ wr.heap.size
  S : Sl wr A5 LS.length q5 LS
  hL : 0 < LS.length → ∀ a, A5 = some a → w.heap.size + 1 < a.block ∧ a.block < B1
  L : Le w wr
  ok : ∀ x ∈ T, Enc.ok x
section
variable {w : World} {B1 : Nat} {A5 : Option Addr} {q5 : Nat} {LS : List ByteArray} {T T2 : List Cls} {A : Option Addr} {q : Nat} {wr w' w7 : World}
theorem PtI.le (h : PtI w B1 A5 q5 LS T A q wr) (hl : Le wr w') : PtI w B1 A5 q5 LS T A q w' := by
  have := h.hB; have := h.hz
  exact ⟨(hl.cell (by omega)).trans h.c2, (hl.cell (by omega)).trans h.c4, (hl.frozen (by omega)).trans h.f2, (hl.frozen (by omega)).trans h.f4, own_le h.O hl, h.hB, Nat.le_trans h.hz hl.size, h.S.le hl, h.hL, h.L.trans hl, h.ok⟩
/-- a store elsewhere, into a block of the call's own that lies behind B1 but in no row -/
theorem PtI.set (h : PtI w B1 A5 q5 LS T A q wr) {k o : Nat} (hk : B1 ≤ k) (hn : (Value.slice A T.length q).ownBlock ≠ some k) (u : Value) : PtI w B1 A5 q5 LS T A q (wr.setCell ⟨k, o, none⟩ u) := by
  have := h.hB; have := h.hz
  exact ⟨(cell_set_other (.inl (by omega))).trans h.c2, (cell_set_other (.inl (by omega))).trans h.c4, by simpa using h.f2, by simpa using h.f4, h.O.kept (grown_set wr k o u) (.inr hn), h.hB, by simpa [World.setCell] using h.hz,
    h.S.grown (grown_set wr k o u) (fun hn a e e2 => by have := h.hL hn a e; injection e2 with e2; omega), h.hL, h.L.setCell (by omega) u, h.ok⟩
/-- the row has grown -/
theorem PtI.app (h : PtI w B1 A5 q5 LS T A q w') (hg : w'.grownBy w7 (Value.slice A T.length q).ownBlock) {v : Value} (hO : w7.ownsRow B1 50 2 v T2.length (T2.flatMap Enc.cells)) (hT2 : ∀ x ∈ T2, Enc.ok x) :
    ∃ A2 q2, v = .slice A2 T2.length q2 ∧ w7.cell? ⟨w.heap.size + 1, 0, none⟩ = some (.slice A T.length q) ∧ w7.frozen? ⟨w.heap.size + 1, 0, none⟩ = false ∧ PtI w B1 A5 q5 LS T2 A2 q2 (w7.setCell ⟨w.heap.size + 1, 0, none⟩ (.slice A2 T2.length q2)) := by
  have hB := h.hB; have hz := h.hz
  have hlt := h.O.lt
  have hlt7 := hO.lt
  obtain ⟨A2, q2, rfl⟩ := own_form hO
  have hb : ∀ k, (Value.slice A T.length q).ownBlock = some k → w.heap.size + 1 < k := fun k hk => by have := (hlt k hk).1; omega
  have c2 := hg.cell (a := ⟨w.heap.size, 0, none⟩) h.c2 (fun e => by have h : w.heap.size + 1 < w.heap.size := hb _ e.symm; omega)
  have c4 := hg.cell (a := ⟨w.heap.size + 1, 0, none⟩) h.c4 (fun e => by have h : w.heap.size + 1 < w.heap.size + 1 := hb _ e.symm; omega)
  have hfr : ∀ i, i < w'.heap.size → (Value.slice A T.length q).ownBlock ≠ some i → w7.frozen? ⟨i, 0, none⟩ = w'.frozen? ⟨i, 0, none⟩ := fun i hi hn => World.frozen?_of_block (a := ⟨i, 0, none⟩) (hg.block i hi (fun e => hn e.symm))
  have f2 := (hfr w.heap.size (by omega) (fun e => by have := hb _ e; omega)).trans h.f2
  have f4 := (hfr (w.heap.size + 1) (by omega) (fun e => by have := hb _ e; omega)).trans h.f4
  have S7 := h.S.grown hg (fun hn a e e2 => by have := h.hL hn a e; have := hlt _ e2.symm; omega)
  have L7 := h.L.grown hg (fun k hk => by have := hb k hk; omega)
  refine ⟨A2, q2, rfl, c4, f4, (cell_set_other (.inl (by omega))).trans c2, cell_set_same c4, by simpa using f2, by simpa using f4, hO.kept (grown_set w7 (w.heap.size + 1) 0 _) (.inr (fun e => by have := hlt7 _ e; omega)), h.hB, ?_, S7.grown (grown_set w7 (w.heap.size + 1) 0 _) (fun hn a e e2 => by have := h.hL hn a e; injection e2 with e2; omega), h.hL, L7.setCell (Nat.le_succ _) _, hT2⟩
  have := hg.size
  have h2 : B1 ≤ w7.heap.size := by omega
  simpa [World.setCell] using h2
end
set_option maxHeartbeats 4000000 in
set_option maxRecDepth 100000 in
theorem sparseTree_any (s : ByteArray) (w : World) (hs : s.size ≤ 1048576) :
    Calls Try.prog 32 #[.string s] w (PtOut 50 w (ptT s) (ptOk s)) := by
  obtain ⟨i0, hi, hz0, hz1, hz2⟩ := info_parts clsInfo
  go_enter Try.func32, Try.ntmps32
  go_wp2_with fail
  obtain ⟨c2, z2, c4, z4, L0⟩ := box2 w (.slice none 0 0) (.slice none 0 0) 25 25
  have f2 : ((w.alloc (.cells #[.slice none 0 0] 25)).alloc (.cells #[.slice none 0 0] 25)).frozen? ⟨w.heap.size, 0, none⟩ = false := by
    rw [((Le.new _ _).frozen (b := w.heap.size) (o := 0) (by simp))]; exact World.frozen?_alloc_at _ _ _ _ rfl
  have f4 : ((w.alloc (.cells #[.slice none 0 0] 25)).alloc (.cells #[.slice none 0 0] 25)).frozen? ⟨w.heap.size + 1, 0, none⟩ = false := World.frozen?_alloc_at _ _ _ _ (by simp)
  generalize (w.alloc (.cells #[.slice none 0 0] 25)).alloc (.cells #[.slice none 0 0] 25) = W at *
  have zW := z4
  refine (splitAt_any s 10 W hs).mono ?_
  rintro e w1 ⟨v, rfl, D, hle⟩
  obtain ⟨A5, q5, rfl, S, hB⟩ := D.form (by decide)
  have hB2 := hB
  have HB := Lib.hid hB
  replace c2 := (hle.cell z2).trans c2
  replace c4 := (hle.cell z4).trans c4
  replace f2 := (hle.frozen z2).trans f2
  replace f4 := (hle.frozen z4).trans f4
  replace z2 := Nat.lt_of_lt_of_le z2 hle.size
  replace z4 := Nat.lt_of_lt_of_le z4 hle.size
  replace L0 := L0.trans hle
  have s1 := hle.size
  clear hle D hB hB2
  have hLL : ((splitL 10 (bl s)).map tb).length = (splitL 10 (bl s)).length := List.length_map ..
  have hcnt : ((splitL 10 (bl s)).map tb).length ≤ 1048577 := by
    rw [hLL, splitL_len]
    have := List.count_le_length (a := (10 : UInt8)) (l := bl s)
    rw [bl_len] at this; omega
  have HPS : Hid (∀ (k : Nat) (h : k + 1 < ((splitL 10 (bl s)).map tb).length) (T : List Cls), pS ((splitL 10 (bl s)).drop k) T = pS ((splitL 10 (bl s)).drop (k + 1)) (T ++ [pcS T (bl (((splitL 10 (bl s)).map tb)[k]'(Nat.lt_of_succ_lt h)))])) := fun k h T => by
    rw [List.length_map] at h
    rw [pS_step h T, List.getElem_map, bl_tb]
  have HPE : Hid (∀ (k : Nat) (_ : ¬ k + 1 < ((splitL 10 (bl s)).map tb).length) (T : List Cls), pS ((splitL 10 (bl s)).drop k) T = T) := fun k h T => by
    rw [List.length_map] at h; exact pS_end h T
  have HSZ : Hid (∀ x ∈ (splitL 10 (bl s)).map tb, x.size ≤ s.size) := split_ok (by rw [bl_len]; omega)
  have H0 : Hid (pS ((splitL 10 (bl s)).drop 0) [] = ptT s) := rfl
  clear hLL
  generalize hLS : (splitL 10 (bl s)).map tb = LS at *
  clear hLS
  go_wp2
  have HI0 : PtI w w1.heap.size A5 q5 LS [] none 0 w1 := ⟨c2, c4, f2, f4, World.ownsRow_nil _ _ _ _, z4, Nat.le_refl _, S, fun hn a e => by have := HB.out a.block (by rw [e]; rfl); omega, L0, by simp⟩
  clear c2 c4 f2 f4 S L0
  go_loopw [6] (fun i wr => ∃ (T : List Cls) (A : Option Addr) (q k : Nat), i = .int .i64 k ∧ T.length ≤ k ∧ k ≤ LS.length ∧ Hid (pS ((splitL 10 (bl s)).drop k) T = ptT s) ∧ PtI w w1.heap.size A5 q5 LS T A q wr) (fun i _ => LS.length - (intOf i).toNat)
  case atStart => exact ⟨[], none, 0, 0, rfl, Nat.le_refl _, Nat.zero_le _, H0.out, HI0⟩
  case round =>
    clear HI0 H0
    obtain ⟨T, A, q, k, rfl, hTk, hk, HSP, hI⟩ := hrel
    have HI := Lib.hid hI
    have hbk := hI.O.lt
    have hB1 := hI.hB
    have hz := hI.hz
    have S := hI.S
    have hw : IntKind.i64.wrap ((k : Int) + 1) = (k : Int) + 1 := IntWalk.i64_in _ (by omega)
    clear hI
    by_cases hlt : k + 1 < LS.length
    · have hkl : (k : Int) + 1 < (LS.length : Int) := by omega
      have hkl2 : (k : Int) < (LS.length : Int) := by omega
      obtain ⟨b, off, rfl, hbl, q0⟩ := S.str_at (show k < LS.length by omega)
      have HST := Lib.hid (HPS.out k hlt T)
      have hsz := HSZ.out LS[k] (List.getElem_mem (by omega))
      generalize LS[k]'(by omega) = ln at *
      go_wp2_with fail
      refine (splitAt_any ln 32 wr (by omega)).mono ?_
      rintro e w2 ⟨v, rfl, D, hle⟩
      obtain ⟨A7, q7, rfl, S7, hB7⟩ := D.form (by decide)
      have s2 := hle.size
      have HI2 := Lib.hid (HI.out.le hle)
      clear hle D S hB7 q0 hbl
      have hpos := split_pos 32 (bl ln)
      have HW0 := Lib.hid (split_ok (c := 32) (l := bl ln) (m := ln.size) (by rw [bl_len]; omega))
      have HTW : Hid (∀ (h : ((splitL 32 (bl ln)).map tb).length = 2) (h0 : 0 < ((splitL 32 (bl ln)).map tb).length) (h1 : 1 < ((splitL 32 (bl ln)).map tb).length), pcS T (bl ln) = ⟨((splitL 32 (bl ln)).map tb)[0], findN T ((splitL 32 (bl ln)).map tb)[1] 0⟩) := fun h h0 h1 => pcS_two rfl h h0 h1
      have HNW : Hid (∀ (h : ((splitL 32 (bl ln)).map tb).length ≠ 2) (h0 : 0 < ((splitL 32 (bl ln)).map tb).length), pcS T (bl ln) = ⟨((splitL 32 (bl ln)).map tb)[0], -1⟩) := fun h h0 => pcS_not rfl h h0
      have hw1 : ((splitL 32 (bl ln)).map tb).length ≤ 1048577 := by
        rw [List.length_map, splitL_len]
        have := List.count_le_length (a := (32 : UInt8)) (l := bl ln)
        rw [bl_len] at this; omega
      generalize hWS : (splitL 32 (bl ln)).map tb = WS at *
      clear hWS
      obtain ⟨b7, off7, rfl, hbl7, r0⟩ := S7.str_at hpos
      rw [Nat.add_zero] at r0
      have hpl : (0 : Int) < (WS.length : Int) := by omega
      have hok0 := HW0.out WS[0] (List.getElem_mem hpos)
      have hTl : T.length ≤ 1048577 := by omega
      have hfr := findN_bound
      by_cases h2 : WS.length = 2
      · have h2b : ((WS.length : Int) == 2) = true := by rw [h2]; rfl
        have h1l : 1 < WS.length := by omega
        have hEq := HTW.out h2 hpos h1l
        have h1i : (1 : Int) < (WS.length : Int) := by omega
        obtain ⟨b9, off9, e9, hbl9, r1⟩ := S7.str_at h1l
        injection e9 with e9
        injection e9 with e9 e10
        subst e9
        subst e10
        have hfn := hfr WS[1] T
        rw [hEq] at HST
        have HX := HST
        clear HST hEq HNW HTW h2 hfr
        generalize WS[0]'hpos = nm at *
        generalize WS[1]'h1l = pm at *
        go_wp2_with fail
        have LN := Le.new w2 (.cells #[.string nm, .int .i64 (-1)] 50)
        have d0 : (w2.alloc (.cells #[.string nm, .int .i64 (-1)] 50)).cell? ⟨w2.heap.size, 0, none⟩ = some (.string nm) := by rw [World.cell?_alloc_at _ _ _ _ rfl]; rfl
        have d1 : (w2.alloc (.cells #[.string nm, .int .i64 (-1)] 50)).cell? ⟨w2.heap.size, 1, none⟩ = some (.int .i64 (-1)) := by rw [World.cell?_alloc_at _ _ _ _ rfl]; rfl
        have g1 : (w2.alloc (.cells #[.string nm, .int .i64 (-1)] 50)).frozen? ⟨w2.heap.size, 1, none⟩ = false := World.frozen?_alloc_at _ _ _ _ rfl
        have y8 : w2.heap.size < (w2.alloc (.cells #[.string nm, .int .i64 (-1)] 50)).heap.size := by simp
        replace r1 := (LN.cell hbl9).trans r1
        have HI3 := Lib.hid (HI2.out.le LN)
        clear r0 LN
        generalize w2.alloc (.cells #[.string nm, .int .i64 (-1)] 50) = w3 at *
        have c4 : w3.drew.cell? ⟨w.heap.size + 1, 0, none⟩ = some (.slice A T.length q) := HI3.out.c4
        replace r1 : w3.drew.cell? ⟨b7, off7 + 1, none⟩ = some (.string pm) := r1
        replace d0 : w3.drew.cell? ⟨w2.heap.size, 0, none⟩ = some (.string nm) := d0
        replace d1 : w3.drew.cell? ⟨w2.heap.size, 1, none⟩ = some (.int .i64 (-1)) := d1
        replace g1 : w3.drew.frozen? ⟨w2.heap.size, 1, none⟩ = false := g1
        have HI4 := Lib.hid (HI3.out.le (Le.refl _).drew)
        have ST := Sl.of_own HI4.out.O rfl (by decide) HI4.out.ok
        refine wp_region_noPanic ?_
        refine wp_region_Z (fun w' => w'.cell? ⟨w.heap.size + 1, 0, none⟩ = some (.slice A T.length q) ∧ w'.cell? ⟨b7, off7 + 1, none⟩ = some (.string pm)) [] (by kernel_rfl) ?_
        refine wpAnyZ_take (i := 0) (v := ?_) rfl (by kernel_rfl) (fun _ _ _ h => h) (Or.inl ⟨by rfl, ?_⟩) (⟨c4, r1⟩) ?_
        rotate_left 1
        · (intro w hSw; (try dsimp only at hSw); go_simp; try with_reducible rfl)
        try simp only [Act.put, List.setIfInBounds_toArray, List.set_cons_zero, List.set_cons_succ]
        refine wpAnyZ_take (i := 1) (v := ?_) rfl (by kernel_rfl) (fun _ _ _ h => h) (Or.inl ⟨by rfl, ?_⟩) (⟨c4, r1⟩) ?_
        rotate_left 1
        · (intro w hSw; (try dsimp only at hSw); go_simp; try with_reducible rfl)
        try simp only [Act.put, List.setIfInBounds_toArray, List.set_cons_zero, List.set_cons_succ]
        refine wpAnyZ_take (i := 2) (v := ?_) rfl (by kernel_rfl) (fun _ _ _ h => h) (Or.inl ⟨by rfl, ?_⟩) (⟨c4, r1⟩) ?_
        rotate_left 1
        · (intro w hSw; (try dsimp only at hSw); go_simp; try with_reducible rfl)
        try simp only [Act.put, List.setIfInBounds_toArray, List.set_cons_zero, List.set_cons_succ]
        refine wpAnyZ_take (i := 3) (v := ?_) rfl (by kernel_rfl) (fun _ _ _ h => h) (Or.inl ⟨by rfl, ?_⟩) (⟨c4, r1⟩) ?_
        rotate_left 1
        · (intro w hSw; (try dsimp only at hSw); go_simp; try with_reducible rfl)
        try simp only [Act.put, List.setIfInBounds_toArray, List.set_cons_zero, List.set_cons_succ]
        refine wpAnyZ_take (i := 4) (v := ?_) rfl (by kernel_rfl) (fun _ _ _ h => h) (Or.inl ⟨by rfl, ?_⟩) (⟨c4, r1⟩) ?_
        rotate_left 1
        · (intro w hSw; (try dsimp only at hSw); go_simp; try with_reducible rfl)
        try simp only [Act.put, List.setIfInBounds_toArray, List.set_cons_zero, List.set_cons_succ]
        refine wpAnyZ_one (i := 5) (by kernel_rfl) (ReadyZ.mk rfl (fun K hK => ?_))
        go_simp
        go_at_call 44
        refine (classNamed_any A T.length q T pm _ ST).mono ?_
        rintro e w5 ⟨rfl, rfl⟩
        refine hK.out _ _ (fun _ => ⟨c4, r1⟩) ?_
        clear hK K
        try simp only [Act.put, List.setIfInBounds_toArray, List.set_cons_zero, List.set_cons_succ]
        refine wpAnyZ_take (i := 6) (v := ?_) rfl (by kernel_rfl) (fun _ _ _ h => h) (Or.inl ⟨by rfl, ?_⟩) (⟨c4, r1⟩) ?_
        rotate_left 1
        · (intro w hSw; (try dsimp only at hSw); go_simp; try with_reducible rfl)
        try simp only [Act.put, List.setIfInBounds_toArray, List.set_cons_zero, List.set_cons_succ]
        refine wpAnyZ_one (i := 7) (by kernel_rfl) (ReadyZ.mk rfl (fun K hK => ?_))
        go_simp
        have sd : ∀ (W : World) (u x : Value) (b o : Nat), b ≠ w2.heap.size → W.cell? ⟨b, o, none⟩ = some x → (W.setCell ⟨w2.heap.size, 1, none⟩ u).cell? ⟨b, o, none⟩ = some x := fun W u x b o hne h => (cell_set_other (.inl (Ne.symm hne))).trans h
        have hb7 : b7 ≠ w2.heap.size := by omega
        refine hK.out _ _ (fun _ => ⟨sd _ _ _ _ _ (by omega) c4, sd _ _ _ _ _ hb7 r1⟩) ?_
        clear hK K
        try simp only [Act.put, List.setIfInBounds_toArray, List.set_cons_zero, List.set_cons_succ]
        refine wpAnyZ_done (by kernel_rfl) ?_ _
        refine NoPanic.normal ?_
        have HI5 := Lib.hid (HI4.out.set (k := w2.heap.size) (o := 1) (by omega) (fun e => by have := (hbk _ e).2; omega) (.int .i64 (findN T pm 0)))
        have e0 : (w3.drew.setCell ⟨w2.heap.size, 1, none⟩ (.int .i64 (findN T pm 0))).cell? ⟨w2.heap.size, 0, none⟩ = some (.string nm) := (cell_set_other (.inr (by omega))).trans d0
        have e1 : (w3.drew.setCell ⟨w2.heap.size, 1, none⟩ (.int .i64 (findN T pm 0))).cell? ⟨w2.heap.size, 1, none⟩ = some (.int .i64 (findN T pm 0)) := cell_set_same d1
        clear d0 d1 g1 r1 c4 ST HI4 HI3 HI2 sd
        generalize findN T pm 0 = pz at *
        have hww : w3.drew.setCell ⟨w2.heap.size, 1, none⟩ (.int .i64 pz) = (w3.setCell ⟨w2.heap.size, 1, none⟩ (.int .i64 pz)).drew := rfl
        rw [hww] at HI5 e0 e1
        clear hww
        generalize (w3.setCell ⟨w2.heap.size, 1, none⟩ (.int .i64 pz)).drew = w4 at *
        have c4 := HI5.out.c4
        have O4 := HI5.out.O
        have hz4 := HI5.out.hz
        have hok : Enc.ok (⟨nm, pz⟩ : Cls) := ⟨by show nm.size ≤ 9223372036854775807; omega, by show -9223372036854775808 ≤ pz; omega, by show pz ≤ 9223372036854775807; omega⟩
        have HOK := Lib.hid HI5.out.ok
        clear hfn
        go_wp2_with (at_builtin; refine wpList_append_sl rfl _ _ 23 rfl w1.heap.size 50 i0 _ 24 Try.underlying23 hi hz0 hz1 hz2 rfl _ _ T rfl (O4.alloc _) _ 1 1 [(⟨nm, pz⟩ : Cls)] rfl (sl_one (⟨nm, pz⟩ : Cls) rfl hok rfl) (by unfold maxLen; omega) (by omega) (Nat.le_trans hz4 (Le.new w4 _).size) ?_; intro v1 w7 O7 hg7 _; rw [show T.length + 1 = (T ++ [(⟨nm, pz⟩ : Cls)]).length by simp] at O7; obtain ⟨A8, q8, rfl, c8, f8, hI8⟩ := (HI5.out.le (Le.new w4 (.cells #[.string nm, .int .i64 pz] 50))).app hg7 O7 (fun x hx => by rcases List.mem_append.1 hx with h | h; exact HOK.out x h; simp at h; subst h; exact hok); have HI8 := Lib.hid hI8; clear hI8 hg7 O7)
        go_roundw
        case rel => exact ⟨T ++ [(⟨nm, pz⟩ : Cls)], A8, q8, k + 1, by go_num, by simp; omega, by omega, HX.out.symm.trans HSP.out, by have h := HI8.out; rw [List.length_append] at h; exact h⟩
        case measure => (simp [intOf]) <;> omega
      · have h2b : ((WS.length : Int) == 2) = false := by rw [beq_eq_false_iff_ne]; omega
        have hEq := HNW.out h2 hpos
        rw [hEq] at HST
        have HX := HST
        clear HST hEq HNW HTW h2 hfr
        generalize WS[0]'hpos = nm at *
        have hok : Enc.ok (⟨nm, -1⟩ : Cls) := ⟨by show nm.size ≤ 9223372036854775807; omega, by show (-9223372036854775808 : Int) ≤ -1; omega, by show (-1 : Int) ≤ 9223372036854775807; omega⟩
        have LN := Le.new w2 (.cells #[.string nm, .int .i64 (-1)] 50)
        have d0 : (w2.alloc (.cells #[.string nm, .int .i64 (-1)] 50)).cell? ⟨w2.heap.size, 0, none⟩ = some (.string nm) := by rw [World.cell?_alloc_at _ _ _ _ rfl]; rfl
        have d1 : (w2.alloc (.cells #[.string nm, .int .i64 (-1)] 50)).cell? ⟨w2.heap.size, 1, none⟩ = some (.int .i64 (-1)) := by rw [World.cell?_alloc_at _ _ _ _ rfl]; rfl
        have HI5 := Lib.hid (HI2.out.le LN)
        clear LN
        have c4 := HI5.out.c4
        have O4 := HI5.out.O
        have hz4 := HI5.out.hz
        have HOK := Lib.hid HI5.out.ok
        have z4 : w.heap.size + 1 < w2.heap.size := by omega
        have c44 := HI2.out.c4
        go_wp2_with (at_builtin; refine wpList_append_sl rfl _ _ 23 rfl w1.heap.size 50 i0 _ 24 Try.underlying23 hi hz0 hz1 hz2 rfl _ _ T rfl (O4.alloc _) _ 1 1 [(⟨nm, -1⟩ : Cls)] rfl (sl_one (⟨nm, -1⟩ : Cls) rfl hok (by first | rfl | simp)) (by unfold maxLen; omega) (by omega) (Nat.le_trans hz4 (Le.new _ _).size) ?_; intro v1 w7 O7 hg7 _; rw [show T.length + 1 = (T ++ [(⟨nm, -1⟩ : Cls)]).length by simp] at O7; obtain ⟨A8, q8, rfl, c8, f8, hI8⟩ := (HI5.out.le (Le.new _ (.cells #[.string nm, .int .i64 (-1)] 50))).app hg7 O7 (fun x hx => by rcases List.mem_append.1 hx with h | h; exact HOK.out x h; simp at h; subst h; exact hok); have HI8 := Lib.hid hI8; clear hI8 hg7 O7)
        go_roundw
        case rel => exact ⟨T ++ [(⟨nm, -1⟩ : Cls)], A8, q8, k + 1, by go_num, by simp; omega, by omega, HX.out.symm.trans HSP.out, by have h := HI8.out; rw [List.length_append] at h; exact h⟩
        case measure => (simp [intOf]) <;> omega
    · have hkl : ¬ (k : Int) + 1 < (LS.length : Int) := by omega
      have HT : Hid (T = ptT s) := by show _ = _; rw [← HSP.out]; exact (HPE.out k hlt T).symm
      have hTl : T.length ≤ 1048577 := by omega
      have c4 : wr.drew.cell? ⟨w.heap.size + 1, 0, none⟩ = some (.slice A T.length q) := HI.out.c4
      have HI4 := Lib.hid (HI.out.le (Le.refl _).drew)
      have ST := Sl.of_own HI4.out.O rfl (by decide) HI4.out.ok
      have HOK : Hid (ptOk s = (okTree T && decide (treeB T = bl s))) := by show _ = _; rw [HT.out]; rfl
      clear S
      go_wp2_with fail
      refine wp_region_noPanic ?_
      refine wp_region_Z (fun w' => w'.cell? ⟨w.heap.size + 1, 0, none⟩ = some (.slice A T.length q)) [] (by kernel_rfl) ?_
      refine wpAnyZ_take (i := 0) (v := ?_) rfl (by kernel_rfl) (fun _ _ _ h => h) (Or.inl ⟨by rfl, ?_⟩) (c4) ?_
      rotate_left 1
      · (intro w hSw; (try dsimp only at hSw); go_simp; try with_reducible rfl)
      try simp only [Act.put, List.setIfInBounds_toArray, List.set_cons_zero, List.set_cons_succ]
      refine wpAnyZ_take (i := 1) (v := ?_) rfl (by kernel_rfl) (fun _ _ _ h => h) (Or.inl ⟨by rfl, ?_⟩) (c4) ?_
      rotate_left 1
      · (intro w hSw; (try dsimp only at hSw); go_simp; try with_reducible rfl)
      try simp only [Act.put, List.setIfInBounds_toArray, List.set_cons_zero, List.set_cons_succ]
      refine wpAnyZ_one (i := 2) (by kernel_rfl) (ReadyZ.mk rfl (fun K hK => ?_))
      go_simp
      go_at_call 25
      refine (validTree_any A T.length q T _ ST).mono ?_
      rintro e w5 ⟨rfl, hle⟩
      have HI5 := Lib.hid (HI4.out.le hle)
      have c5 := HI5.out.c4
      have f5 := HI5.out.f2
      have d5 := HI5.out.c2
      have ST5 := ST.le hle
      clear hle c4 ST HI4 HI
      refine hK.out _ _ (fun _ => c5) ?_
      clear hK K
      try simp only [Act.put, List.setIfInBounds_toArray, List.set_cons_zero, List.set_cons_succ]
      cases ho : okTree T
      · have HOK2 : Hid (ptOk s = false) := by show _ = _; rw [HOK.out, ho]; rfl
        clear ho
        refine wpAnyZ_take (i := 3) (v := ?_) rfl (by kernel_rfl) (fun _ _ _ h => h) (Or.inl ⟨by rfl, ?_⟩) (c5) ?_
        rotate_left 1
        · (intro w hSw; (try dsimp only at hSw); go_simp; try with_reducible rfl)
        try simp only [Act.put, List.setIfInBounds_toArray, List.set_cons_zero, List.set_cons_succ]
        refine wpAnyZ_take (i := 4) (v := undef) rfl (by kernel_rfl) (fun _ _ _ h => h) (Or.inr ⟨?_, rfl⟩) (c5) ?_
        · rfl
        try simp only [Act.put, List.setIfInBounds_toArray, List.set_cons_zero, List.set_cons_succ]
        refine wpAnyZ_take (i := 5) (v := undef) rfl (by kernel_rfl) (fun _ _ _ h => h) (Or.inr ⟨?_, rfl⟩) (c5) ?_
        · rfl
        try simp only [Act.put, List.setIfInBounds_toArray, List.set_cons_zero, List.set_cons_succ]
        refine wpAnyZ_take (i := 6) (v := undef) rfl (by kernel_rfl) (fun _ _ _ h => h) (Or.inr ⟨?_, rfl⟩) (c5) ?_
        · rfl
        try simp only [Act.put, List.setIfInBounds_toArray, List.set_cons_zero, List.set_cons_succ]
        refine wpAnyZ_take (i := 7) (v := undef) rfl (by kernel_rfl) (fun _ _ _ h => h) (Or.inr ⟨?_, rfl⟩) (c5) ?_
        · rfl
        try simp only [Act.put, List.setIfInBounds_toArray, List.set_cons_zero, List.set_cons_succ]
        refine wpAnyZ_take (i := 8) (v := ?_) rfl (by kernel_rfl) (fun _ _ _ h => h) (Or.inl ⟨by rfl, ?_⟩) (c5) ?_
        rotate_left 1
        · (intro w hSw; (try dsimp only at hSw); go_simp; try with_reducible rfl)
        try simp only [Act.put, List.setIfInBounds_toArray, List.set_cons_zero, List.set_cons_succ]
        refine wpAnyZ_one (i := 9) (by kernel_rfl) (ReadyZ.mk rfl (fun K hK => ?_))
        go_simp
        refine hK.out _ _ (fun _ => (cell_set_other (.inl (by omega))).trans c5) ?_
        clear hK K
        try simp only [Act.put, List.setIfInBounds_toArray, List.set_cons_zero, List.set_cons_succ]
        refine wpAnyZ_take (i := 10) (v := ?_) rfl (by kernel_rfl) (fun _ _ _ h => h) (Or.inl ⟨by rfl, ?_⟩) ((cell_set_other (.inl (by omega))).trans c5) ?_
        rotate_left 1
        · (intro w hSw; (try dsimp only at hSw); go_simp; try with_reducible rfl)
        try simp only [Act.put, List.setIfInBounds_toArray, List.set_cons_zero, List.set_cons_succ]
        refine wpAnyZ_done (by kernel_rfl) ?_ _
        refine NoPanic.normal ?_
        have k2 : (w5.setCell ⟨w.heap.size, 0, none⟩ (.slice A T.length q)).cell? ⟨w.heap.size, 0, none⟩ = some (.slice A T.length q) := cell_set_same d5
        have OF : Owd 50 w (w5.setCell ⟨w.heap.size, 0, none⟩ (.slice A T.length q)) (.slice A T.length q) T := ⟨(own_mono HI5.out.O (by omega)).kept (grown_set w5 w.heap.size 0 _) (.inr (fun e => by have := (HI5.out.O.lt _ e).1; omega)), HI5.out.ok⟩
        have LF := HI5.out.L.setCell (b := w.heap.size) (o := 0) (Nat.le_refl _) (.slice A T.length q)
        have HR : Hid (PtOut 50 w (ptT s) (ptOk s) (.returned (.tuple #[.agg #[.slice A T.length q], .bool false])) (w5.setCell ⟨w.heap.size, 0, none⟩ (.slice A T.length q))) := ⟨_, by rw [HOK2.out], by rw [← HT.out]; exact OF, LF⟩
        clear c5 f5 d5 OF LF HI5
        generalize w5.setCell ⟨w.heap.size, 0, none⟩ (.slice A T.length q) = w6 at *
        go_wp2
        exact bodyPost_ret (v := .tuple #[.agg #[.slice A T.length q], .bool false]) (by simp [results, Try.results32, go_sem, k2]) rfl HR.out
      · have HOK2 : Hid (ptOk s = ((tb (treeB T)).toList == s.toList)) := by
          show _ = _
          rw [HOK.out, ho, Bool.true_and]
          by_cases h : treeB T = bl s
          · rw [decide_eq_true h, str_eq (by rw [h, tb_bl])]
          · rw [decide_eq_false h, str_ne (fun e => h (by rw [← e, bl_tb]))]
        have HC := Lib.hid (streeText_any A T.length q T w5 ST5 (good_of ho))
        clear ho
        refine wpAnyZ_take (i := 3) (v := ?_) rfl (by kernel_rfl) (fun _ _ _ h => h) (Or.inl ⟨by rfl, ?_⟩) (c5) ?_
        rotate_left 1
        · (intro w hSw; (try dsimp only at hSw); go_simp; try with_reducible rfl)
        try simp only [Act.put, List.setIfInBounds_toArray, List.set_cons_zero, List.set_cons_succ]
        refine wpAnyZ_take (i := 4) (v := ?_) rfl (by kernel_rfl) (fun _ _ _ h => h) (Or.inl ⟨by rfl, ?_⟩) (c5) ?_
        rotate_left 1
        · (intro w hSw; (try dsimp only at hSw); go_simp; try with_reducible rfl)
        try simp only [Act.put, List.setIfInBounds_toArray, List.set_cons_zero, List.set_cons_succ]
        refine wpAnyZ_take (i := 6) (v := ?_) rfl (by kernel_rfl) (fun _ _ _ h => h) (Or.inl ⟨by rfl, ?_⟩) (c5) ?_
        rotate_left 1
        · (intro w hSw; (try dsimp only at hSw); go_simp; try with_reducible rfl)
        try simp only [Act.put, List.setIfInBounds_toArray, List.set_cons_zero, List.set_cons_succ]
        refine wpAnyZ_one (i := 5) (by kernel_rfl) (ReadyZ.mk rfl (fun K hK => ?_))
        go_simp
        go_at_call 26
        refine HC.out.mono ?_
        clear HC
        rintro e w8 ⟨rfl, hle⟩
        have HI8 := Lib.hid (HI5.out.le hle)
        have c8 := HI8.out.c4
        have f8 := HI8.out.f2
        have d8 := HI8.out.c2
        clear hle c5 f5 d5 HI5 ST5
        refine hK.out _ _ (fun _ => c8) ?_
        clear hK K
        try simp only [Act.put, List.setIfInBounds_toArray, List.set_cons_zero, List.set_cons_succ]
        refine wpAnyZ_take (i := 7) (v := ?_) rfl (by kernel_rfl) (fun _ _ _ h => h) (Or.inl ⟨by rfl, ?_⟩) (c8) ?_
        rotate_left 1
        · (intro w hSw; (try dsimp only at hSw); go_simp; try with_reducible rfl)
        try simp only [Act.put, List.setIfInBounds_toArray, List.set_cons_zero, List.set_cons_succ]
        refine wpAnyZ_take (i := 8) (v := ?_) rfl (by kernel_rfl) (fun _ _ _ h => h) (Or.inl ⟨by rfl, ?_⟩) (c8) ?_
        rotate_left 1
        · (intro w hSw; (try dsimp only at hSw); go_simp; try with_reducible rfl)
        try simp only [Act.put, List.setIfInBounds_toArray, List.set_cons_zero, List.set_cons_succ]
        refine wpAnyZ_one (i := 9) (by kernel_rfl) (ReadyZ.mk rfl (fun K hK => ?_))
        go_simp
        refine hK.out _ _ (fun _ => (cell_set_other (.inl (by omega))).trans c8) ?_
        clear hK K
        try simp only [Act.put, List.setIfInBounds_toArray, List.set_cons_zero, List.set_cons_succ]
        refine wpAnyZ_take (i := 10) (v := ?_) rfl (by kernel_rfl) (fun _ _ _ h => h) (Or.inl ⟨by rfl, ?_⟩) ((cell_set_other (.inl (by omega))).trans c8) ?_
        rotate_left 1
        · (intro w hSw; (try dsimp only at hSw); go_simp; try with_reducible rfl)
        try simp only [Act.put, List.setIfInBounds_toArray, List.set_cons_zero, List.set_cons_succ]
        refine wpAnyZ_done (by kernel_rfl) ?_ _
        refine NoPanic.normal ?_
        have k2 : (w8.setCell ⟨w.heap.size, 0, none⟩ (.slice A T.length q)).cell? ⟨w.heap.size, 0, none⟩ = some (.slice A T.length q) := cell_set_same d8
        have OF : Owd 50 w (w8.setCell ⟨w.heap.size, 0, none⟩ (.slice A T.length q)) (.slice A T.length q) T := ⟨(own_mono HI8.out.O (by omega)).kept (grown_set w8 w.heap.size 0 _) (.inr (fun e => by have := (HI8.out.O.lt _ e).1; omega)), HI8.out.ok⟩
        have LF := HI8.out.L.setCell (b := w.heap.size) (o := 0) (Nat.le_refl _) (.slice A T.length q)
        have HR : Hid (PtOut 50 w (ptT s) (ptOk s) (.returned (.tuple #[.agg #[.slice A T.length q], .bool ((tb (treeB T)).toList == s.toList)])) (w8.setCell ⟨w.heap.size, 0, none⟩ (.slice A T.length q))) := ⟨_, by rw [HOK2.out], by rw [← HT.out]; exact OF, LF⟩
        clear c8 f8 d8 OF LF HI8
        generalize w8.setCell ⟨w.heap.size, 0, none⟩ (.slice A T.length q) = w6 at *
        go_wp2
        exact bodyPost_ret (v := .tuple #[.agg #[.slice A T.length q], .bool ((tb (treeB T)).toList == s.toList)]) (by simp [results, Try.results32, go_sem, k2]) rfl HR.out
end Go.Proofs.Ytjkadmbcnlelhaa
