/- one text of LvA, LvB, LvC -/
import Derived.Test.YtonpgohigncjeaaRows
import Derived.Test.YtonpgohigncjeaaCx2
import Derived.Test.YtonpgohigncjeaaCx4
import Derived.Test.YtonpgohigncjeaaCx1
import Derived.Test.YtonpgohigncjeaaCx9
import Derived.Defers
import Derived.WalkSmall
namespace Go.Proofs.Ytonpgohigncjeaa
open Go.RowKit
set_option linter.unusedVariables false
section
instance instOneFltR : EncOne Flt := ⟨by decide, fun x u hu => by simp [Enc.cells] at hu; rcases hu with rfl | rfl | rfl | rfl | rfl <;> rfl⟩
theorem infoFltR : (Try.prog.info? 80).map (fun i => (i.zero, i.size, i.bytes)) = some (some (.agg #[.int .i64 0, .int .i64 0, .int .i64 0, .int .i64 0, .bool false]), 5, 40) := by kernel_rfl
theorem infoIntR : (Try.prog.info? 3).map (fun i => (i.zero, i.size, i.bytes)) = some (some (.int .i64 0), 1, 8) := by kernel_rfl
/-- the memory of a leaver: its block, the tree, what it has told, its faults, the fault that there is; all of it newer than the world w0 -/
structure Lv (w0 w : World) (R : Nat) (B : Option Addr) (m c : Nat) (xs : List Cls) (lv hv : Value) (lg : List Int) (hs : List Flt) (fa : Int) : Prop where
  z : R < w.heap.size
  c0 : w.cell? ⟨R, 0, none⟩ = some (.slice B m c)
  c1 : w.cell? ⟨R, 1, none⟩ = some lv
  c2 : w.cell? ⟨R, 2, none⟩ = some hv
  c3 : w.cell? ⟨R, 3, none⟩ = some (.int .i64 fa)
  f1 : w.frozen? ⟨R, 1, none⟩ = false
  f2 : w.frozen? ⟨R, 2, none⟩ = false
  f3 : w.frozen? ⟨R, 3, none⟩ = false
  S : Sl w B m c xs
  hB : 0 < m → ∀ a, B = some a → a.block < R
  O : w.ownsRow R 3 1 lv lg.length (lg.flatMap Enc.cells)
  H : w.ownsRow R 80 5 hv hs.length (hs.flatMap Enc.cells)
  ap : ∀ k, lv.ownBlock = some k → hv.ownBlock ≠ some k
  okl : ∀ x ∈ lg, Enc.ok x
  okh : ∀ x ∈ hs, Enc.ok x
  nl : lv.ownBlock ≠ some R
  nh : hv.ownBlock ≠ some R
  h0 : w0.heap.size ≤ R
  G : Le w0 w
section
variable {w0 w w' wA w4 : World} {R m c : Nat} {B : Option Addr} {xs : List Cls} {lv hv v1 : Value} {lg : List Int} {hs : List Flt} {fa : Int}
theorem fr_set (w : World) (b o k : Nat) (u : Value) : (w.setCell ⟨b, o, none⟩ u).frozen? ⟨b, k, none⟩ = w.frozen? ⟨b, k, none⟩ := by first | exact World.frozen?_setCell .. | simp [World.frozen?, World.setCell]
theorem Lv.le (h : Lv w0 w R B m c xs lv hv lg hs fa) (hl : Le w w') : Lv w0 w' R B m c xs lv hv lg hs fa :=
  ⟨Nat.lt_of_lt_of_le h.z hl.size, (hl.cell h.z).trans h.c0, (hl.cell h.z).trans h.c1, (hl.cell h.z).trans h.c2, (hl.cell h.z).trans h.c3, (hl.frozen h.z).trans h.f1, (hl.frozen h.z).trans h.f2, (hl.frozen h.z).trans h.f3, h.S.le hl, h.hB, own_le h.O hl, own_le h.H hl, h.ap, h.okl, h.okh, h.nl, h.nh, h.h0, h.G.trans hl⟩
/-- a cell of the leaver's block is written: all rows stay -/
theorem Lv.rows (h : Lv w0 w R B m c xs lv hv lg hs fa) (o : Nat) (u : Value) : Sl (w.setCell ⟨R, o, none⟩ u) B m c xs ∧ (w.setCell ⟨R, o, none⟩ u).ownsRow R 3 1 lv lg.length (lg.flatMap Enc.cells) ∧
    (w.setCell ⟨R, o, none⟩ u).ownsRow R 80 5 hv hs.length (hs.flatMap Enc.cells) ∧ Le w0 (w.setCell ⟨R, o, none⟩ u) := by
  have gs := grown_set w R o u
  refine ⟨h.S.grown gs (fun hn a e e2 => by have := h.hB hn a e; have e3 : a.block = R := (by injection e2); omega), ?_, ?_, h.G.setCell h.h0 u⟩
  · exact h.O.kept gs (by cases e : lv.ownBlock with | none => exact .inl rfl | some k => exact .inr (fun e2 => by injection e2 with e2; exact h.nl (by rw [e, e2])))
  · exact h.H.kept gs (by cases e : hv.ownBlock with | none => exact .inl rfl | some k => exact .inr (fun e2 => by injection e2 with e2; exact h.nh (by rw [e, e2])))
theorem Lv.setF (h : Lv w0 w R B m c xs lv hv lg hs fa) (f : Int) : Lv w0 (w.setCell ⟨R, 3, none⟩ (.int .i64 f)) R B m c xs lv hv lg hs f := by
  obtain ⟨q1, q2, q3, q4⟩ := h.rows 3 (.int .i64 f)
  refine ⟨by simpa [World.setCell] using h.z, ?_, ?_, ?_, cell_set_same h.c3, ?_, ?_, ?_, q1, h.hB, q2, q3, h.ap, h.okl, h.okh, h.nl, h.nh, h.h0, q4⟩
  · rw [cell_set_other (.inr (by decide))]; exact h.c0
  · rw [cell_set_other (.inr (by decide))]; exact h.c1
  · rw [cell_set_other (.inr (by decide))]; exact h.c2
  · rw [fr_set]; exact h.f1
  · rw [fr_set]; exact h.f2
  · rw [fr_set]; exact h.f3
theorem Lv.told (h : Lv w0 w R B m c xs lv hv lg hs fa) (LA : Le w wA) {x : Int} (hx : Enc.ok x) (O4 : w4.ownsRow R 3 1 v1 (lg.length + 1) ((lg ++ [x]).flatMap Enc.cells)) (hg : wA.grownBy w4 lv.ownBlock) (hbl : v1.ownBlock = lv.ownBlock ∨ v1.ownBlock = some wA.heap.size) :
    Lv w0 (w4.setCell ⟨R, 1, none⟩ v1) R B m c xs v1 hv (lg ++ [x]) hs fa := by
  have hA := h.le LA
  have hRl : some R ≠ lv.ownBlock := fun e => h.nl e.symm
  have hsz := hg.size
  have hcell : ∀ o v, wA.cell? ⟨R, o, none⟩ = some v → w4.cell? ⟨R, o, none⟩ = some v := fun o v hc => hg.cell (a := ⟨R, o, none⟩) hc (fun e => hRl e)
  have hfr : ∀ o, w4.frozen? ⟨R, o, none⟩ = wA.frozen? ⟨R, o, none⟩ := fun o => World.frozen?_of_block (a := ⟨R, o, none⟩) (hg.block R hA.z hRl)
  have hzz : (w4.setCell ⟨R, 1, none⟩ v1).heap.size = w4.heap.size := by simp [World.setCell]
  have gs := grown_set w4 R 1 v1
  have hap : hv.ownBlock = none ∨ hv.ownBlock ≠ lv.ownBlock := by
    cases e : hv.ownBlock with
    | none => exact .inl rfl
    | some k => exact .inr fun e2 => h.ap k e2.symm e
  have hlk : ∀ k, lv.ownBlock = some k → R ≤ k := fun k e => (h.O.lt k e).1
  have hvl : ∀ k, v1.ownBlock = some k → k ≠ R ∧ hv.ownBlock ≠ some k := fun k e => by
    rcases hbl with h1 | h1
    · exact ⟨fun e2 => h.nl (by rw [← h1, e, e2]), h.ap k (h1 ▸ e)⟩
    · rw [h1] at e
      injection e with e
      have := hA.z
      exact ⟨by omega, fun e2 => by have := (hA.H.lt k e2).2; omega⟩
  have S4 := hA.S.grown hg (fun hn a e e2 => by have := h.hB hn a e; have := hlk _ e2.symm; omega)
  have G4 := hA.G.grown hg (fun k hk => Nat.le_trans h.h0 (hlk k hk))
  refine ⟨by rw [hzz]; exact Nat.lt_of_lt_of_le hA.z hsz, ?_, ?_, ?_, ?_, ?_, ?_, ?_, ?_, h.hB, ?_, ?_, fun k e => (hvl k e).2, ?_, h.okh, fun e => (hvl R e).1 rfl, h.nh, h.h0, G4.setCell h.h0 v1⟩
  · rw [cell_set_other (.inr (by decide))]; exact hcell 0 _ hA.c0
  · exact cell_set_same (hcell 1 _ hA.c1)
  · rw [cell_set_other (.inr (by decide))]; exact hcell 2 _ hA.c2
  · rw [cell_set_other (.inr (by decide))]; exact hcell 3 _ hA.c3
  · rw [fr_set, hfr]; exact hA.f1
  · rw [fr_set, hfr]; exact hA.f2
  · rw [fr_set, hfr]; exact hA.f3
  · exact S4.grown gs (fun hn a e e2 => by have := h.hB hn a e; have e3 : a.block = R := (by injection e2); omega)
  · have := O4.kept gs (by cases e : v1.ownBlock with | none => exact .inl rfl | some k => exact .inr (fun e2 => by injection e2 with e2; have := (hvl k e).1; omega))
    rw [List.length_append]; exact this
  · exact (hA.H.kept hg hap).kept gs (by cases e : hv.ownBlock with | none => exact .inl rfl | some k => exact .inr (fun e2 => by injection e2 with e2; exact h.nh (by rw [e, e2])))
  · intro y hy
    rcases List.mem_append.1 hy with h1 | h1
    · exact h.okl y h1
    · rw [List.mem_singleton] at h1; subst h1; exact hx
theorem Lv.raised (h : Lv w0 w R B m c xs lv hv lg hs fa) (LA : Le w wA) {x : Flt} (hx : Enc.ok x) (O4 : w4.ownsRow R 80 5 v1 (hs.length + 1) ((hs ++ [x]).flatMap Enc.cells)) (hg : wA.grownBy w4 hv.ownBlock) (hbl : v1.ownBlock = hv.ownBlock ∨ v1.ownBlock = some wA.heap.size) :
    Lv w0 (w4.setCell ⟨R, 2, none⟩ v1) R B m c xs lv v1 lg (hs ++ [x]) fa := by
  have hA := h.le LA
  have hRl : some R ≠ hv.ownBlock := fun e => h.nh e.symm
  have hsz := hg.size
  have hcell : ∀ o v, wA.cell? ⟨R, o, none⟩ = some v → w4.cell? ⟨R, o, none⟩ = some v := fun o v hc => hg.cell (a := ⟨R, o, none⟩) hc (fun e => hRl e)
  have hfr : ∀ o, w4.frozen? ⟨R, o, none⟩ = wA.frozen? ⟨R, o, none⟩ := fun o => World.frozen?_of_block (a := ⟨R, o, none⟩) (hg.block R hA.z hRl)
  have hzz : (w4.setCell ⟨R, 2, none⟩ v1).heap.size = w4.heap.size := by simp [World.setCell]
  have gs := grown_set w4 R 2 v1
  have hap : lv.ownBlock = none ∨ lv.ownBlock ≠ hv.ownBlock := by
    cases e : lv.ownBlock with
    | none => exact .inl rfl
    | some k => exact .inr fun e2 => h.ap k e e2.symm
  have hlk : ∀ k, hv.ownBlock = some k → R ≤ k := fun k e => (h.H.lt k e).1
  have hvl : ∀ k, v1.ownBlock = some k → k ≠ R ∧ lv.ownBlock ≠ some k := fun k e => by
    rcases hbl with h1 | h1
    · exact ⟨fun e2 => h.nh (by rw [← h1, e, e2]), fun e2 => h.ap k e2 (h1 ▸ e)⟩
    · rw [h1] at e
      injection e with e
      have := hA.z
      exact ⟨by omega, fun e2 => by have := (hA.O.lt k e2).2; omega⟩
  have S4 := hA.S.grown hg (fun hn a e e2 => by have := h.hB hn a e; have := hlk _ e2.symm; omega)
  have G4 := hA.G.grown hg (fun k hk => Nat.le_trans h.h0 (hlk k hk))
  refine ⟨by rw [hzz]; exact Nat.lt_of_lt_of_le hA.z hsz, ?_, ?_, ?_, ?_, ?_, ?_, ?_, ?_, h.hB, ?_, ?_, fun k e e2 => (hvl k e2).2 e, h.okl, ?_, h.nl, fun e => (hvl R e).1 rfl, h.h0, G4.setCell h.h0 v1⟩
  · rw [cell_set_other (.inr (by decide))]; exact hcell 0 _ hA.c0
  · rw [cell_set_other (.inr (by decide))]; exact hcell 1 _ hA.c1
  · exact cell_set_same (hcell 2 _ hA.c2)
  · rw [cell_set_other (.inr (by decide))]; exact hcell 3 _ hA.c3
  · rw [fr_set, hfr]; exact hA.f1
  · rw [fr_set, hfr]; exact hA.f2
  · rw [fr_set, hfr]; exact hA.f3
  · exact S4.grown gs (fun hn a e e2 => by have := h.hB hn a e; have e3 : a.block = R := (by injection e2); omega)
  · exact (hA.O.kept hg hap).kept gs (by cases e : lv.ownBlock with | none => exact .inl rfl | some k => exact .inr (fun e2 => by injection e2 with e2; exact h.nl (by rw [e, e2])))
  · have := O4.kept gs (by cases e : v1.ownBlock with | none => exact .inl rfl | some k => exact .inr (fun e2 => by injection e2 with e2; have := (hvl k e).1; omega))
    rw [List.length_append]; exact this
  · intro y hy
    rcases List.mem_append.1 hy with h1 | h1
    · exact h.okh y h1
    · rw [List.mem_singleton] at h1; subst h1; exact hx
end
theorem both_of_wp {P : Program} {f : FuncId} {fn : Func} {cd : Code} {args : Array Value} {w : World} {Q : Ending → World → Prop}
    (hf : P.funcs[f]? = some fn) (hb : fn.body = some cd)
    (h : cd.wp P (bodyPost P fn Q) { tmps := args ++ Array.replicate (fn.ntmps - args.size) undef, defers := [] } w) : Calls P f args w Q ∧ ∀ u, CallsD P f args u w fun e u' w' => u' = u ∧ Q e w' :=
  ⟨calls_of_wp hf hb h, fun _ => callsD_of_wp hf hb h⟩
/-- a call that turns the leaver's memory: made, or deferred -/
def LvTo (w0 : World) (R : Nat) (B : Option Addr) (m c : Nat) (xs : List Cls) (f : FuncId) (a b : Int) (w : World) (lg : List Int) (hs : List Flt) (fa : Int) : Prop :=
  Calls Try.prog f #[.pointer (some ⟨R, 0, none⟩), .int .i64 a, .int .i64 b] w (fun e w' => e = .returned (.tuple #[]) ∧ ∃ lv' hv', Lv w0 w' R B m c xs lv' hv' lg hs fa) ∧
  ∀ u, CallsD Try.prog f #[.pointer (some ⟨R, 0, none⟩), .int .i64 a, .int .i64 b] u w (fun e u' w' => u' = u ∧ e = .returned (.tuple #[]) ∧ ∃ lv' hv', Lv w0 w' R B m c xs lv' hv' lg hs fa)
set_option maxHeartbeats 1000000 in
set_option maxRecDepth 100000 in
theorem tellAlways_any (w0 : World) (R m c : Nat) (B : Option Addr) (xs : List Cls) (lv hv : Value) (lg : List Int) (hs : List Flt) (fa x y : Int) (hx : Enc.ok x) (hl : lg.length ≤ 1000000) (w : World) (h : Lv w0 w R B m c xs lv hv lg hs fa) :
    LvTo w0 R B m c xs 95 x y w (lg ++ [x]) hs fa := by
  obtain ⟨i0, hq, hz0, hz1, hz2⟩ := info_parts infoIntR
  have c1 := h.c1
  have f1 := h.f1
  have hz := h.z
  obtain ⟨AL, cL, rfl⟩ := own_form h.O
  unfold LvTo
  refine both_of_wp Try.func95 rfl ?_
  simp only [Try.ntmps95, List.size_toArray, List.length_cons, List.length_nil, Nat.reduceAdd, Nat.reduceSub, Array.replicate_succ, Array.replicate_zero, List.push_toArray, List.append_toArray, List.nil_append, List.cons_append]
  go_wp2_with (at_builtin; refine wpList_append_sl rfl _ _ 31 rfl R 3 i0 _ 8 Try.underlying31 hq hz0 hz1 hz2 rfl _ lg.length lg rfl (h.O.alloc _) _ 1 1 [x] rfl (sl_one x rfl hx rfl) (by unfold maxLen; omega) (by omega) (Nat.le_trans (by omega) (Le.new w _).size) ?_; intro v1 w4 O4 hg4 hbl; obtain ⟨A1, k1, rfl⟩ := own_form O4; have HR := Lib.hid (h.told (Le.new w _) hx O4 hg4 hbl); have k2 := hg4.cell (a := ⟨R, 1, none⟩) (((Le.new w _).cell hz).trans c1) (fun e => h.nl e.symm); have k3 : w4.frozen? ⟨R, 1, none⟩ = false := (World.frozen?_of_block (a := ⟨R, 1, none⟩) (hg4.block R (Nat.lt_of_lt_of_le hz (Le.new w _).size) (fun e => h.nl e.symm))).trans (((Le.new w _).frozen hz).trans f1); clear O4 hg4 hbl)
  go_end0
  exact ⟨rfl, _, _, HR.out⟩
set_option maxHeartbeats 1000000 in
set_option maxRecDepth 100000 in
theorem tellFault_any (w0 : World) (R m c : Nat) (B : Option Addr) (xs : List Cls) (lv hv : Value) (lg : List Int) (hs : List Flt) (fa x y : Int) (hx : Enc.ok x) (hl : lg.length ≤ 1000000) (w : World) (h : Lv w0 w R B m c xs lv hv lg hs fa) :
    LvTo w0 R B m c xs 93 x y w (if 0 ≤ fa then lg ++ [x] else lg) hs fa := by
  obtain ⟨i0, hq, hz0, hz1, hz2⟩ := info_parts infoIntR
  have c1 := h.c1
  have c3 := h.c3
  have f1 := h.f1
  have hz := h.z
  obtain ⟨AL, cL, rfl⟩ := own_form h.O
  unfold LvTo
  by_cases h0 : 0 ≤ fa
  · rw [if_pos h0]
    refine both_of_wp Try.func93 rfl ?_
    simp only [Try.ntmps93, List.size_toArray, List.length_cons, List.length_nil, Nat.reduceAdd, Nat.reduceSub, Array.replicate_succ, Array.replicate_zero, List.push_toArray, List.append_toArray, List.nil_append, List.cons_append]
    go_wp2_with (at_builtin; refine wpList_append_sl rfl _ _ 31 rfl R 3 i0 _ 8 Try.underlying31 hq hz0 hz1 hz2 rfl _ lg.length lg rfl (h.O.alloc _) _ 1 1 [x] rfl (sl_one x rfl hx rfl) (by unfold maxLen; omega) (by omega) (Nat.le_trans (by omega) (Le.new w _).size) ?_; intro v1 w4 O4 hg4 hbl; obtain ⟨A1, k1, rfl⟩ := own_form O4; have HR := Lib.hid (h.told (Le.new w _) hx O4 hg4 hbl); have k2 := hg4.cell (a := ⟨R, 1, none⟩) (((Le.new w _).cell hz).trans c1) (fun e => h.nl e.symm); have k3 : w4.frozen? ⟨R, 1, none⟩ = false := (World.frozen?_of_block (a := ⟨R, 1, none⟩) (hg4.block R (Nat.lt_of_lt_of_le hz (Le.new w _).size) (fun e => h.nl e.symm))).trans (((Le.new w _).frozen hz).trans f1); clear O4 hg4 hbl)
    go_end0
    exact ⟨rfl, _, _, HR.out⟩
  · rw [if_neg h0]
    refine both_of_wp Try.func93 rfl ?_
    simp only [Try.ntmps93, List.size_toArray, List.length_cons, List.length_nil, Nat.reduceAdd, Nat.reduceSub, Array.replicate_succ, Array.replicate_zero, List.push_toArray, List.append_toArray, List.nil_append, List.cons_append]
    go_wp2
    go_end0
    exact ⟨rfl, _, _, h⟩
set_option maxHeartbeats 2000000 in
set_option maxRecDepth 100000 in
theorem putFault_any (w0 : World) (R m c : Nat) (B : Option Addr) (xs : List Cls) (lv hv : Value) (lg : List Int) (hs : List Flt) (fa cl k : Int) (hx : Enc.ok (⟨cl, k, -1, fa, false⟩ : Flt)) (hl : hs.length ≤ 1000000) (w : World) (H : Lv w0 w R B m c xs lv hv lg hs fa) :
    LvTo w0 R B m c xs 59 cl k w lg (hs ++ [⟨cl, k, -1, fa, false⟩]) hs.length := by
  obtain ⟨i0, hq, hz0, hz1, hz2⟩ := info_parts infoFltR
  have c2 := H.c2
  have c3 := H.c3
  have f2 := H.f2
  have f3 := H.f3
  have hz := H.z
  obtain ⟨AL, cL, rfl⟩ := own_form H.H
  unfold LvTo
  refine both_of_wp Try.func59 rfl ?_
  simp only [Try.ntmps59, List.size_toArray, List.length_cons, List.length_nil, Nat.reduceAdd, Nat.reduceSub, Array.replicate_succ, Array.replicate_zero, List.push_toArray, List.append_toArray, List.nil_append, List.cons_append]
  go_wp2_with fail
  have L1 := Le.new w (.cells #[.int .i64 cl, .int .i64 k, .int .i64 (-1), .int .i64 fa, .bool false] 80)
  have b0 : (w.alloc (.cells #[.int .i64 cl, .int .i64 k, .int .i64 (-1), .int .i64 fa, .bool false] 80)).drew.cell? ⟨w.heap.size, 0, none⟩ = some (.int .i64 cl) := by show (w.alloc _).cell? _ = _; rw [World.cell?_alloc_at _ _ _ _ rfl]; rfl
  have b1 : (w.alloc (.cells #[.int .i64 cl, .int .i64 k, .int .i64 (-1), .int .i64 fa, .bool false] 80)).drew.cell? ⟨w.heap.size, 1, none⟩ = some (.int .i64 k) := by show (w.alloc _).cell? _ = _; rw [World.cell?_alloc_at _ _ _ _ rfl]; rfl
  have b2 : (w.alloc (.cells #[.int .i64 cl, .int .i64 k, .int .i64 (-1), .int .i64 fa, .bool false] 80)).drew.cell? ⟨w.heap.size, 2, none⟩ = some (.int .i64 (-1)) := by show (w.alloc _).cell? _ = _; rw [World.cell?_alloc_at _ _ _ _ rfl]; rfl
  have b3 : (w.alloc (.cells #[.int .i64 cl, .int .i64 k, .int .i64 (-1), .int .i64 fa, .bool false] 80)).drew.cell? ⟨w.heap.size, 3, none⟩ = some (.int .i64 fa) := by show (w.alloc _).cell? _ = _; rw [World.cell?_alloc_at _ _ _ _ rfl]; rfl
  have b4 : (w.alloc (.cells #[.int .i64 cl, .int .i64 k, .int .i64 (-1), .int .i64 fa, .bool false] 80)).drew.cell? ⟨w.heap.size, 4, none⟩ = some (.bool false) := by show (w.alloc _).cell? _ = _; rw [World.cell?_alloc_at _ _ _ _ rfl]; rfl
  have zb : w.heap.size < (w.alloc (.cells #[.int .i64 cl, .int .i64 k, .int .i64 (-1), .int .i64 fa, .bool false] 80)).drew.heap.size := by show _ < (w.alloc _).heap.size; simp
  have LD := L1.drew
  refine wp_region_noPanic ?_
  refine wp_region_Z (fun w' => w'.cell? ⟨R, 2, none⟩ = some (.slice AL hs.length cL) ∧ w'.cell? ⟨w.heap.size, 0, none⟩ = some (.int .i64 cl) ∧ w'.cell? ⟨w.heap.size, 1, none⟩ = some (.int .i64 k) ∧ w'.cell? ⟨w.heap.size, 2, none⟩ = some (.int .i64 (-1)) ∧ w'.cell? ⟨w.heap.size, 3, none⟩ = some (.int .i64 fa) ∧ w'.cell? ⟨w.heap.size, 4, none⟩ = some (.bool false)) [12] (by kernel_rfl) ?_
  generalize (w.alloc (.cells #[.int .i64 cl, .int .i64 k, .int .i64 (-1), .int .i64 fa, .bool false] 80)).drew = W at *
  have d3 := (LD.cell hz).trans c2
  have g3 := (LD.frozen hz).trans f2
  have OW := (H.le LD).H
  have hzW := (H.le LD).z
  have LN := Le.new W (.cells #[.int .i64 cl, .int .i64 k, .int .i64 (-1), .int .i64 fa, .bool false] 80)
  have HZ := Lib.hid zb
  refine wpAnyZ_take (i := 0) (v := ?_) rfl (by kernel_rfl) (fun _ _ _ h => h) (Or.inl ⟨by rfl, ?_⟩) (⟨d3, b0, b1, b2, b3, b4⟩) ?_
  rotate_left 1
  · (intro w hSw; (try dsimp only at hSw); go_simp; try with_reducible rfl)
  try simp only [Act.put, List.setIfInBounds_toArray, List.set_cons_zero, List.set_cons_succ]
  refine wpAnyZ_take (i := 1) (v := ?_) rfl (by kernel_rfl) (fun _ _ _ h => h) (Or.inl ⟨by rfl, ?_⟩) (⟨d3, b0, b1, b2, b3, b4⟩) ?_
  rotate_left 1
  · (intro w hSw; (try dsimp only at hSw); go_simp; try with_reducible rfl)
  try simp only [Act.put, List.setIfInBounds_toArray, List.set_cons_zero, List.set_cons_succ]
  refine wpAnyZ_take (i := 2) (v := ?_) rfl (by kernel_rfl) (fun _ _ _ h => h) (Or.inl ⟨by rfl, ?_⟩) (⟨d3, b0, b1, b2, b3, b4⟩) ?_
  rotate_left 1
  · (intro w hSw; (try dsimp only at hSw); go_simp; try with_reducible rfl)
  try simp only [Act.put, List.setIfInBounds_toArray, List.set_cons_zero, List.set_cons_succ]
  refine wpAnyZ_take (i := 3) (v := ?_) rfl (by kernel_rfl) (fun _ _ _ h => h) (Or.inl ⟨by rfl, ?_⟩) (⟨d3, b0, b1, b2, b3, b4⟩) ?_
  rotate_left 1
  · (intro w hSw; (try dsimp only at hSw); go_simp; try with_reducible rfl)
  try simp only [Act.put, List.setIfInBounds_toArray, List.set_cons_zero, List.set_cons_succ]
  refine wpAnyZ_take (i := 4) (v := ?_) rfl (by kernel_rfl) (fun _ _ _ h => h) (Or.inl ⟨by rfl, ?_⟩) (⟨d3, b0, b1, b2, b3, b4⟩) ?_
  rotate_left 1
  · (intro w hSw; (try dsimp only at hSw); go_simp; try with_reducible rfl)
  try simp only [Act.put, List.setIfInBounds_toArray, List.set_cons_zero, List.set_cons_succ]
  refine wpAnyZ_take (i := 5) (v := ?_) rfl (by kernel_rfl) (fun _ _ _ h => h) (Or.inl ⟨by rfl, ?_⟩) (⟨d3, b0, b1, b2, b3, b4⟩) ?_
  rotate_left 1
  · (intro w hSw; (try dsimp only at hSw); go_simp; try with_reducible rfl)
  try simp only [Act.put, List.setIfInBounds_toArray, List.set_cons_zero, List.set_cons_succ]
  refine wpAnyZ_take (i := 6) (v := ?_) rfl (by kernel_rfl) (fun _ _ _ h => h) (Or.inl ⟨by rfl, ?_⟩) (⟨d3, b0, b1, b2, b3, b4⟩) ?_
  rotate_left 1
  · (intro w hSw; (try dsimp only at hSw); go_simp; try with_reducible rfl)
  try simp only [Act.put, List.setIfInBounds_toArray, List.set_cons_zero, List.set_cons_succ]
  refine wpAnyZ_one (i := 7) (by kernel_rfl) (ReadyZ.mk rfl (fun K hK => ?_))
  go_simp
  have e0 := (LN.cell zb).trans b0
  have e1 := (LN.cell zb).trans b1
  have e2 := (LN.cell zb).trans b2
  have e3 := (LN.cell zb).trans b3
  have e4 := (LN.cell zb).trans b4
  refine hK.out _ _ (fun _ => ⟨(LN.cell hzW).trans d3, e0, e1, e2, e3, e4⟩) ?_
  clear hK K
  try simp only [Act.put, List.setIfInBounds_toArray, List.set_cons_zero, List.set_cons_succ]
  refine wpAnyZ_one (i := 8) (by kernel_rfl) (ReadyZ.mk rfl (fun K hK => ?_))
  refine step_append_sl rfl (.tmp 19) (.tmp 21) 32 rfl R 80 i0 _ 40 Try.underlying32 hq hz0 hz1 hz2 rfl (.slice AL hs.length cL) hs.length hs rfl (OW.alloc _) _ 1 1 [(⟨cl, k, -1, fa, false⟩ : Flt)] rfl (sl_one _ rfl hx rfl) (by unfold maxLen; omega) (by omega) (Nat.le_trans (by omega) LN.size) ?_
  intro v1 w4 O4 hg4 hbl
  have HR := Lib.hid (H.raised (LD.trans LN) hx O4 hg4 hbl)
  have hneR : some R ≠ (Value.slice AL hs.length cL).ownBlock := fun e => H.nh e.symm
  have hneb : some w.heap.size ≠ (Value.slice AL hs.length cL).ownBlock := fun e => by have := (H.H.lt _ e.symm).2; omega
  have k2 := hg4.cell (a := ⟨R, 2, none⟩) ((LN.cell hzW).trans d3) hneR
  have k3 : w4.frozen? ⟨R, 2, none⟩ = false := (World.frozen?_of_block (a := ⟨R, 2, none⟩) (hg4.block R (Nat.lt_of_lt_of_le hzW LN.size) hneR)).trans ((LN.frozen hzW).trans g3)
  obtain ⟨A1, q1, rfl⟩ := own_form O4
  refine hK.out _ _ (fun _ => ⟨k2, hg4.cell (a := ⟨w.heap.size, 0, none⟩) e0 hneb, hg4.cell (a := ⟨w.heap.size, 1, none⟩) e1 hneb, hg4.cell (a := ⟨w.heap.size, 2, none⟩) e2 hneb, hg4.cell (a := ⟨w.heap.size, 3, none⟩) e3 hneb, hg4.cell (a := ⟨w.heap.size, 4, none⟩) e4 hneb⟩) ?_
  clear hK K
  try simp only [Act.put, List.setIfInBounds_toArray, List.set_cons_zero, List.set_cons_succ]
  refine wpAnyZ_take (i := 9) (v := ?_) rfl (by kernel_rfl) (fun _ _ _ h => h) (Or.inl ⟨by rfl, ?_⟩) (⟨k2, hg4.cell (a := ⟨w.heap.size, 0, none⟩) e0 hneb, hg4.cell (a := ⟨w.heap.size, 1, none⟩) e1 hneb, hg4.cell (a := ⟨w.heap.size, 2, none⟩) e2 hneb, hg4.cell (a := ⟨w.heap.size, 3, none⟩) e3 hneb, hg4.cell (a := ⟨w.heap.size, 4, none⟩) e4 hneb⟩) ?_
  rotate_left 1
  · (intro w hSw; (try dsimp only at hSw); go_simp; try with_reducible rfl)
  try simp only [Act.put, List.setIfInBounds_toArray, List.set_cons_zero, List.set_cons_succ]
  refine wpAnyZ_take (i := 10) (v := ?_) rfl (by kernel_rfl) (fun _ _ _ h => h) (Or.inl ⟨by rfl, ?_⟩) (⟨k2, hg4.cell (a := ⟨w.heap.size, 0, none⟩) e0 hneb, hg4.cell (a := ⟨w.heap.size, 1, none⟩) e1 hneb, hg4.cell (a := ⟨w.heap.size, 2, none⟩) e2 hneb, hg4.cell (a := ⟨w.heap.size, 3, none⟩) e3 hneb, hg4.cell (a := ⟨w.heap.size, 4, none⟩) e4 hneb⟩) ?_
  rotate_left 1
  · (intro w hSw; (try dsimp only at hSw); go_simp; try with_reducible rfl)
  try simp only [Act.put, List.setIfInBounds_toArray, List.set_cons_zero, List.set_cons_succ]
  refine wpAnyZ_take (i := 11) (v := ?_) rfl (by kernel_rfl) (fun _ _ _ h => h) (Or.inl ⟨by rfl, ?_⟩) (⟨k2, hg4.cell (a := ⟨w.heap.size, 0, none⟩) e0 hneb, hg4.cell (a := ⟨w.heap.size, 1, none⟩) e1 hneb, hg4.cell (a := ⟨w.heap.size, 2, none⟩) e2 hneb, hg4.cell (a := ⟨w.heap.size, 3, none⟩) e3 hneb, hg4.cell (a := ⟨w.heap.size, 4, none⟩) e4 hneb⟩) ?_
  rotate_left 1
  · (intro w hSw; (try dsimp only at hSw); go_simp; try with_reducible rfl)
  try simp only [Act.put, List.setIfInBounds_toArray, List.set_cons_zero, List.set_cons_succ]
  clear O4 hg4 hbl e0 e1 e2 e3 e4 b0 b1 b2 b3 b4 d3 OW LN c3 H
  refine wpAnyZ_one (i := 12) (by kernel_rfl) (ReadyZ.mk rfl (fun K hK => ?_))
  go_simp
  refine hK.out _ _ (fun h => absurd h (by decide)) ?_
  clear hK K
  try simp only [Act.put, List.setIfInBounds_toArray, List.set_cons_zero, List.set_cons_succ]
  refine wpAnyZ_done (by kernel_rfl) ?_ _
  refine NoPanic.normal ?_
  have LZ := HR.out
  clear HR
  have k4 := LZ.c2
  have k5 := LZ.c3
  have k6 := LZ.f3
  have hw : IntKind.i64.wrap (((hs.length + 1 : Nat) : Int) - 1) = (hs.length : Int) := by
    have e : ((hs.length + 1 : Nat) : Int) - 1 = (hs.length : Int) := by omega
    rw [e]
    exact IntWalk.i64_in _ (by omega)
  have LF := Lib.hid (LZ.setF (hs.length : Int))
  clear k2 k3 LZ
  go_wp2
  go_end0
  exact ⟨rfl, _, _, LF.out⟩
end

section
def flC (hs : List Flt) (fa : Int) : Int := match hs[fa.toNat]? with | some x => x.cls | none => 0
theorem flC_at {hs : List Flt} {k : Nat} (h : k < hs.length) : flC hs (k : Int) = hs[k].cls := by
  unfold flC; rw [show ((k : Int)).toNat = k from rfl, List.getElem?_eq_getElem h]
def tkX (xs : List Cls) (hs : List Flt) (fa a : Int) : Int := if 0 ≤ fa then (if isAx xs (flC hs fa) a = true then -1 else fa) else fa
set_option maxHeartbeats 2000000 in
set_option maxRecDepth 100000 in
theorem takeFault_any (w0 : World) (R m c : Nat) (B : Option Addr) (xs : List Cls) (lv hv : Value) (lg : List Int) (hs : List Flt) (fa x y : Int) (hf : fa < hs.length) (w : World) (h : Lv w0 w R B m c xs lv hv lg hs fa) :
    LvTo w0 R B m c xs 94 x y w lg hs (tkX xs hs fa x) := by
  have c0 := h.c0
  have c2 := h.c2
  have c3 := h.c3
  have hz := h.z
  unfold LvTo
  by_cases h0 : 0 ≤ fa
  · obtain ⟨k, rfl⟩ : ∃ k : Nat, fa = (k : Int) := ⟨fa.toNat, by omega⟩
    have hk : k < hs.length := by omega
    obtain ⟨AH, cH, rfl⟩ := own_form h.H
    have SH : Sl w AH hs.length cH hs := Sl.of_own h.H rfl (by decide) h.okh
    obtain ⟨b, off, rfl, hb, d0, -⟩ := SH.flt_at hk
    have hax : tkX xs hs (k : Int) x = if isAx xs hs[k].cls x = true then -1 else (k : Int) := by unfold tkX; rw [if_pos h0, flC_at hk]
    rw [hax]
    clear hax SH
    generalize hs[k].cls = vc at *
    have q0 : decide ((0 : Int) ≤ (k : Int)) = true := decide_eq_true h0
    have hkn : (k : Int) < (hs.length : Int) := by omega
    have S := h.S
    have E0 := cell_ext hz c0
    have E2 := cell_ext hz c2
    have E3 := cell_ext hz c3
    have Ed := cell_ext hb d0
    have hca : ∀ (g : Ext w) (_ : True), Calls Try.prog 99 #[.agg #[.slice B m c], .int .i64 vc, .int .i64 x] (w.ext g) fun e w' => e = .returned (.bool (isAx xs vc x)) ∧ Le (w.ext g) w' := fun g _ => iIsA_any B m c xs vc x _ (S.le (Le.ext w g))
    generalize isAx xs vc x = q1 at *
    cases q1
    · rw [if_neg (by simp)]
      refine both_of_wp Try.func94 rfl ?_
      simp only [Try.ntmps94, List.size_toArray, List.length_cons, List.length_nil, Nat.reduceAdd, Nat.reduceSub, Array.replicate_succ, Array.replicate_zero, List.push_toArray, List.append_toArray, List.nil_append, List.cons_append]
      go_wp2_with fail
      refine wp_region_ext (by kernel_rfl) (by kernel_rfl) ?_
      repeat (go_big_quiet_step (first | (go_at_call 99; with_reducible exact Calls.ext_of (hca _ trivial))))
      refine wpQuiet_nil ?_
      intro _ hw'
      obtain ⟨gg, rfl⟩ := hw'
      have LZ := h.le (Le.ext w gg)
      go_wp2
      go_end0
      exact ⟨rfl, _, _, LZ⟩
    · rw [if_pos rfl]
      refine both_of_wp Try.func94 rfl ?_
      simp only [Try.ntmps94, List.size_toArray, List.length_cons, List.length_nil, Nat.reduceAdd, Nat.reduceSub, Array.replicate_succ, Array.replicate_zero, List.push_toArray, List.append_toArray, List.nil_append, List.cons_append]
      go_wp2_with fail
      refine wp_region_ext (by kernel_rfl) (by kernel_rfl) ?_
      repeat (go_big_quiet_step (first | (go_at_call 99; with_reducible exact Calls.ext_of (hca _ trivial))))
      refine wpQuiet_nil ?_
      intro _ hw'
      obtain ⟨gg, rfl⟩ := hw'
      have LZ := h.le (Le.ext w gg)
      generalize w.ext gg = W2 at *
      have k3 := LZ.c3
      have kf := LZ.f3
      have LF := Lib.hid (LZ.setF (-1))
      clear LZ c0 c2 c3 d0 E0 E2 E3 Ed
      go_wp2
      go_end0
      exact ⟨rfl, _, _, LF.out⟩
  · have hax : tkX xs hs fa x = fa := by unfold tkX; rw [if_neg h0]
    rw [hax]
    have q0 : decide ((0 : Int) ≤ fa) = false := decide_eq_false h0
    have E3 := cell_ext hz c3
    refine both_of_wp Try.func94 rfl ?_
    simp only [Try.ntmps94, List.size_toArray, List.length_cons, List.length_nil, Nat.reduceAdd, Nat.reduceSub, Array.replicate_succ, Array.replicate_zero, List.push_toArray, List.append_toArray, List.nil_append, List.cons_append]
    go_wp2_with fail
    refine wp_region_ext (by kernel_rfl) (by kernel_rfl) ?_
    repeat (go_big_quiet_step (fail))
    refine wpQuiet_nil ?_
    intro _ hw'
    obtain ⟨gg, rfl⟩ := hw'
    have LZ := h.le (Le.ext w gg)
    go_wp2
    go_end0
    exact ⟨rfl, _, _, LZ⟩
end

section
/-- what exits of a kind do, as a function -/
def kF (k : Int) : Nat := if k = 1 then 93 else if k = 2 then 94 else if k = 3 then 59 else 95
/-- an exit as a step -/
structure Stp where
  x : Xit
instance instEncStp : Enc Stp := ⟨3, fun s => [.func (.func (kF s.x.kind)) #[] #[], .int .i64 s.x.a, .int .i64 s.x.b], fun _ => True, fun _ => rfl⟩
theorem infoStp : (Try.prog.info? 116).map (fun i => (i.zero, i.size, i.bytes)) = some (some (.agg #[Value.nilFunc, .int .i64 0, .int .i64 0]), 3, 24) := by kernel_rfl
set_option maxRecDepth 100000 in
theorem actionOf_any (k : Int) (w : World) : Calls Try.prog 75 #[.int .i64 k] w fun e w' => e = .returned (.func (.func (kF k)) #[] #[]) ∧ w = w' := by
  by_cases h1 : k = 1
  · subst h1
    go_enter Try.func75, Try.ntmps75
    go_wp2
    go_ret
    exact ⟨rfl, rfl⟩
  · by_cases h2 : k = 2
    · subst h2
      go_enter Try.func75, Try.ntmps75
      go_wp2
      go_ret
      exact ⟨rfl, rfl⟩
    · by_cases h3 : k = 3
      · subst h3
        go_enter Try.func75, Try.ntmps75
        go_wp2
        go_ret
        exact ⟨rfl, rfl⟩
      · have e : kF k = 95 := by unfold kF; rw [if_neg h1, if_neg h2, if_neg h3]
        have b1 : (k == 1) = false := by simp; omega
        have b2 : (k == 2) = false := by simp; omega
        have b3 : (k == 3) = false := by simp; omega
        rw [e]
        clear e h1 h2 h3
        go_enter Try.func75, Try.ntmps75
        go_wp2
        go_ret
        exact ⟨rfl, rfl⟩
theorem Sl.stp_at {w : World} {A : Option Addr} {n cap : Nat} {L : List Xit} (h : Sl w A n cap (L.map Stp.mk)) {k : Nat} (hk : k < L.length) :
    ∃ b off, A = some ⟨b, off, none⟩ ∧ b < w.heap.size ∧ w.cell? ⟨b, off + k * 3, none⟩ = some (.func (.func (kF L[k].kind)) #[] #[]) ∧ w.cell? ⟨b, off + k * 3 + 1, none⟩ = some (.int .i64 L[k].a) ∧ w.cell? ⟨b, off + k * 3 + 2, none⟩ = some (.int .i64 L[k].b) := by
  obtain ⟨b, off, e, hb, hc⟩ := h.cells_ (k := k) (by simpa using hk)
  rw [List.getElem_map] at hc
  have h0 := hc 0 (by decide) _ rfl
  have h1 := hc 1 (by decide) _ rfl
  have h2 := hc 2 (by decide) _ rfl
  exact ⟨b, off, e, hb, by simpa [Enc.size] using h0, by simpa [Enc.size, Nat.add_assoc] using h1, by simpa [Enc.size, Nat.add_assoc] using h2⟩
theorem stp_row {ys : List Stp} {k : Nat} {x : Stp} (h : ys[k]? = some x) (r0 r1 r2 : Value) (rr : List Value) : (ys.take (k + 1)).flatMap Enc.cells ++ rr =
    (((((ys.take k).flatMap Enc.cells ++ r0 :: r1 :: r2 :: rr).set (k * 3) (.func (.func (kF x.x.kind)) #[] #[])).set (k * 3 + 1) (.int .i64 x.x.a)).set (k * 3 + 2) (.int .i64 x.x.b)) := by
  obtain ⟨hk, hx⟩ := List.getElem?_eq_some_iff.1 h
  have hfl : ((ys.take k).flatMap (Enc.cells (α := Stp))).length = k * 3 := by rw [flat_len, List.length_take]; show _ * 3 = _; rw [Nat.min_eq_left (by omega)]
  rw [List.take_succ_eq_append_getElem hk, List.flatMap_append, List.set_append_right _ _ (by omega), List.set_append_right _ _ (by omega), List.set_append_right _ _ (by omega), hfl, hx]
  simp [Enc.cells]
set_option maxHeartbeats 2000000 in
set_option maxRecDepth 100000 in
theorem stepsOf_any (A : Option Addr) (n cap : Nat) (L : List Xit) (hsm : L.length ≤ 1048576) (w : World) (hR : Sl w A n cap L) :
    Calls Try.prog 61 #[.slice A n cap] w fun e w' => ∃ A', e = .returned (.slice A' n n) ∧ Sl w' A' n n (L.map Stp.mk) ∧ Le w w' := by
  obtain rfl := hR.len
  obtain ⟨j0, hj, hy0, hy1, hy2⟩ := info_parts infoStp
  have hb2 : j0.bytes * L.length ≤ 281474976710656 := by rw [hy2]; omega
  go_enter Try.func61, Try.ntmps61
  go_wp2_with (refine wpList_make_full _ rfl _ _ 98 rfl w.heap.size 116 j0 _ 3 Try.underlying98 hj hy0 hy1 .i64 .i64 _ _ L.length rfl rfl rfl rfl hb2 (by unfold maxLen; omega) (by simp) ?_; intro w1 OF hg1; have L1 := (Le.refl w).grown hg1 (by intro k hk; cases hk); clear hg1)
  go_loopw [11] (fun q wr => ∃ k : Nat, ∃ r : List Value, k ≤ L.length ∧ q = .int .i64 k ∧ r.length = (L.length - k) * 3 ∧ wr.ownsRow w.heap.size 116 3 (.slice (some ⟨w.heap.size, 0, none⟩) L.length L.length) L.length (((L.map Stp.mk).take k).flatMap Enc.cells ++ r) ∧ Le w wr) (fun q _ => L.length - (intOf q).toNat)
  case atStart => exact ⟨0, _, Nat.zero_le _, rfl, by simp [madeCells], OF, L1⟩
  case round =>
    obtain ⟨k, r, hk, rfl, hr, O1, LL⟩ := hrel
    have R1 := hR.le LL
    clear OF L1 hR
    by_cases hlt : k < L.length
    · have hk0 : (0 : Int) ≤ (k : Int) := by omega
      have hkn : (k : Int) < (L.length : Int) := by omega
      obtain ⟨b, off, rfl, hb, d0, d1, d2, -⟩ := R1.xit_at hlt
      match r, hr with
      | [], h => simp at h; omega
      | [_], h => simp at h; omega
      | [_, _], h => simp at h; omega
      | r0 :: r1 :: r2 :: rr, hr =>
      have hml : (L.map Stp.mk).length = L.length := List.length_map ..
      have HE := Lib.hid (stp_row (ys := L.map Stp.mk) (k := k) (x := ⟨L[k]⟩) (by rw [List.getElem?_map, List.getElem?_eq_getElem hlt]; rfl) r0 r1 r2 rr)
      have hfl : (((L.map Stp.mk).take k).flatMap (Enc.cells (α := Stp))).length = k * 3 := by rw [flat_len, List.length_take]; show _ * 3 = _; rw [Nat.min_eq_left (by omega)]
      generalize L.map Stp.mk = ys at *
      dsimp only at HE
      generalize L[k].kind = vk at *
      have HK := Lib.hid (actionOf_any vk)
      generalize kF vk = F at *
      generalize L[k].a = va at *
      generalize L[k].b = vb at *
      go_wp2_with fail
      have LW := (Le.new wr (.cells #[.int .i64 vk, .int .i64 va, .int .i64 vb] 42)).drew
      have zb : wr.heap.size < (wr.alloc (.cells #[.int .i64 vk, .int .i64 va, .int .i64 vb] 42)).drew.heap.size := by show _ < (wr.alloc _).heap.size; simp
      have b0 : (wr.alloc (.cells #[.int .i64 vk, .int .i64 va, .int .i64 vb] 42)).drew.cell? ⟨wr.heap.size, 0, none⟩ = some (.int .i64 vk) := by show (wr.alloc _).cell? _ = _; rw [World.cell?_alloc_at _ _ _ _ rfl]; rfl
      have b1 : (wr.alloc (.cells #[.int .i64 vk, .int .i64 va, .int .i64 vb] 42)).drew.cell? ⟨wr.heap.size, 1, none⟩ = some (.int .i64 va) := by show (wr.alloc _).cell? _ = _; rw [World.cell?_alloc_at _ _ _ _ rfl]; rfl
      have b2 : (wr.alloc (.cells #[.int .i64 vk, .int .i64 va, .int .i64 vb] 42)).drew.cell? ⟨wr.heap.size, 2, none⟩ = some (.int .i64 vb) := by show (wr.alloc _).cell? _ = _; rw [World.cell?_alloc_at _ _ _ _ rfl]; rfl
      refine wp_region_noPanic ?_
      refine wp_region_Z (fun w' => w'.cell? ⟨wr.heap.size, 0, none⟩ = some (.int .i64 vk) ∧ w'.cell? ⟨wr.heap.size, 1, none⟩ = some (.int .i64 va) ∧ w'.cell? ⟨wr.heap.size, 2, none⟩ = some (.int .i64 vb)) [11] (by kernel_rfl) ?_
      generalize (wr.alloc (.cells #[.int .i64 vk, .int .i64 va, .int .i64 vb] 42)).drew = W at *
      have OW := own_le O1 LW
      have hc0 : W.cell? ⟨w.heap.size, k * 3, none⟩ = some r0 := by rw [OW.cellAt _ (by omega), List.getElem?_append_right (by omega), hfl]; simp
      have hc1 : W.cell? ⟨w.heap.size, k * 3 + 1, none⟩ = some r1 := by rw [OW.cellAt _ (by omega), List.getElem?_append_right (by omega), hfl]; simp
      have hc2 : W.cell? ⟨w.heap.size, k * 3 + 2, none⟩ = some r2 := by rw [OW.cellAt _ (by omega), List.getElem?_append_right (by omega), hfl]; simp
      have hf0 := OW.frozenAt (k * 3)
      have hf1 := OW.frozenAt (k * 3 + 1)
      have hf2 := OW.frozenAt (k * 3 + 2)
      have hd1 : (W.setCell ⟨w.heap.size, k * 3, none⟩ (.func (.func F) #[] #[])).cell? ⟨w.heap.size, k * 3 + 1, none⟩ = some r1 := (cell_set_other (.inr (by omega))).trans hc1
      have hg1 : (W.setCell ⟨w.heap.size, k * 3, none⟩ (.func (.func F) #[] #[])).frozen? ⟨w.heap.size, k * 3 + 1, none⟩ = false := (fr_set _ _ _ _ _).trans hf1
      have hd2 : ((W.setCell ⟨w.heap.size, k * 3, none⟩ (.func (.func F) #[] #[])).setCell ⟨w.heap.size, k * 3 + 1, none⟩ (.int .i64 va)).cell? ⟨w.heap.size, k * 3 + 2, none⟩ = some r2 := (cell_set_other (.inr (by omega))).trans ((cell_set_other (.inr (by omega))).trans hc2)
      have hg2 : ((W.setCell ⟨w.heap.size, k * 3, none⟩ (.func (.func F) #[] #[])).setCell ⟨w.heap.size, k * 3 + 1, none⟩ (.int .i64 va)).frozen? ⟨w.heap.size, k * 3 + 2, none⟩ = false := (fr_set _ _ _ _ _).trans ((fr_set _ _ _ _ _).trans hf2)
      have hs0 : (store ⟨w.heap.size, k * 3, none⟩ (.func (.func F) #[] #[])).run Try.prog W = .ok () (W.setCell ⟨w.heap.size, k * 3, none⟩ (.func (.func F) #[] #[])) := by rw [run_store _ _ _ _ _ rfl, hc0]; simp [hf0]
      have H1 := Lib.hid (((OW.stored (k * 3) (.func (.func F) #[] #[])).1.stored (k * 3 + 1) (.int .i64 va)).1.stored (k * 3 + 2) (.int .i64 vb)).1
      have LX := (LL.trans LW)
      have LF := (((LX.setCell (b := w.heap.size) (o := k * 3) (Nat.le_refl _) (.func (.func F) #[] #[])).setCell (b := w.heap.size) (o := k * 3 + 1) (Nat.le_refl _) (.int .i64 va)).setCell (b := w.heap.size) (o := k * 3 + 2) (Nat.le_refl _) (.int .i64 vb))
      rw [← HE.out] at H1
      clear O1 LL OW LW HE
      refine wpAnyZ_take (i := 0) (v := ?_) rfl (by kernel_rfl) (fun _ _ _ h => h) (Or.inl ⟨by rfl, ?_⟩) (⟨b0, b1, b2⟩) ?_
      rotate_left 1
      · (intro w hSw; (try dsimp only at hSw); go_simp; try with_reducible rfl)
      try simp only [Act.put, List.setIfInBounds_toArray, List.set_cons_zero, List.set_cons_succ]
      refine wpAnyZ_take (i := 1) (v := ?_) rfl (by kernel_rfl) (fun _ _ _ h => h) (Or.inl ⟨by rfl, ?_⟩) (⟨b0, b1, b2⟩) ?_
      rotate_left 1
      · (intro w hSw; (try dsimp only at hSw); go_simp; try with_reducible rfl)
      try simp only [Act.put, List.setIfInBounds_toArray, List.set_cons_zero, List.set_cons_succ]
      refine wpAnyZ_take (i := 2) (v := ?_) rfl (by kernel_rfl) (fun _ _ _ h => h) (Or.inl ⟨by rfl, ?_⟩) (⟨b0, b1, b2⟩) ?_
      rotate_left 1
      · (intro w hSw; (try dsimp only at hSw); go_simp; try with_reducible rfl)
      try simp only [Act.put, List.setIfInBounds_toArray, List.set_cons_zero, List.set_cons_succ]
      refine wpAnyZ_take (i := 3) (v := ?_) rfl (by kernel_rfl) (fun _ _ _ h => h) (Or.inl ⟨by rfl, ?_⟩) (⟨b0, b1, b2⟩) ?_
      rotate_left 1
      · (intro w hSw; (try dsimp only at hSw); go_simp; try with_reducible rfl)
      try simp only [Act.put, List.setIfInBounds_toArray, List.set_cons_zero, List.set_cons_succ]
      refine wpAnyZ_take (i := 5) (v := ?_) rfl (by kernel_rfl) (fun _ _ _ h => h) (Or.inl ⟨by rfl, ?_⟩) (⟨b0, b1, b2⟩) ?_
      rotate_left 1
      · (intro w hSw; (try dsimp only at hSw); go_simp; try with_reducible rfl)
      try simp only [Act.put, List.setIfInBounds_toArray, List.set_cons_zero, List.set_cons_succ]
      refine wpAnyZ_take (i := 6) (v := ?_) rfl (by kernel_rfl) (fun _ _ _ h => h) (Or.inl ⟨by rfl, ?_⟩) (⟨b0, b1, b2⟩) ?_
      rotate_left 1
      · (intro w hSw; (try dsimp only at hSw); go_simp; try with_reducible rfl)
      try simp only [Act.put, List.setIfInBounds_toArray, List.set_cons_zero, List.set_cons_succ]
      refine wpAnyZ_take (i := 7) (v := ?_) rfl (by kernel_rfl) (fun _ _ _ h => h) (Or.inl ⟨by rfl, ?_⟩) (⟨b0, b1, b2⟩) ?_
      rotate_left 1
      · (intro w hSw; (try dsimp only at hSw); go_simp; try with_reducible rfl)
      try simp only [Act.put, List.setIfInBounds_toArray, List.set_cons_zero, List.set_cons_succ]
      refine wpAnyZ_take (i := 8) (v := ?_) rfl (by kernel_rfl) (fun _ _ _ h => h) (Or.inl ⟨by rfl, ?_⟩) (⟨b0, b1, b2⟩) ?_
      rotate_left 1
      · (intro w hSw; (try dsimp only at hSw); go_simp; try with_reducible rfl)
      try simp only [Act.put, List.setIfInBounds_toArray, List.set_cons_zero, List.set_cons_succ]
      refine wpAnyZ_one (i := 4) (by kernel_rfl) (ReadyZ.mk rfl (fun K hK => ?_))
      go_simp
      go_at_call 75
      refine (HK.out W).mono ?_
      rintro e w2 ⟨rfl, rfl⟩
      refine hK.out _ _ (fun _ => ⟨b0, b1, b2⟩) ?_
      clear hK K
      try simp only [Act.put, List.setIfInBounds_toArray, List.set_cons_zero, List.set_cons_succ]
      refine wpAnyZ_take (i := 9) (v := ?_) rfl (by kernel_rfl) (fun _ _ _ h => h) (Or.inl ⟨by rfl, ?_⟩) (⟨b0, b1, b2⟩) ?_
      rotate_left 1
      · (intro w hSw; (try dsimp only at hSw); go_simp; try with_reducible rfl)
      try simp only [Act.put, List.setIfInBounds_toArray, List.set_cons_zero, List.set_cons_succ]
      refine wpAnyZ_take (i := 10) (v := ?_) rfl (by kernel_rfl) (fun _ _ _ h => h) (Or.inl ⟨by rfl, ?_⟩) (⟨b0, b1, b2⟩) ?_
      rotate_left 1
      · (intro w hSw; (try dsimp only at hSw); go_simp; try with_reducible rfl)
      try simp only [Act.put, List.setIfInBounds_toArray, List.set_cons_zero, List.set_cons_succ]
      refine wpAnyZ_one (i := 11) (by kernel_rfl) (ReadyZ.mk rfl (fun K hK => ?_))
      go_simp
      refine hK.out _ _ (fun h => absurd h (by decide)) ?_
      clear hK K
      try simp only [Act.put, List.setIfInBounds_toArray, List.set_cons_zero, List.set_cons_succ]
      refine wpAnyZ_done (by kernel_rfl) ?_ _
      refine NoPanic.normal ?_
      go_wp2
      go_roundw
      case rel => exact ⟨k + 1, rr, by omega, by go_num, by simp at hr; omega, H1.out, LF⟩
      case measure => simp [intOf]; omega
    · have hk' : k = L.length := by omega
      have hr0 : r = [] := List.eq_nil_of_length_eq_zero (by rw [hr, hk']; simp)
      have HO : Hid (wr.ownsRow w.heap.size 116 3 (.slice (some ⟨w.heap.size, 0, none⟩) L.length L.length) L.length ((L.map Stp.mk).flatMap Enc.cells)) := by
        show World.ownsRow _ _ _ _ _ _ _
        have e : (L.map Stp.mk).take L.length = L.map Stp.mk := List.take_of_length_le (by simp)
        rw [hk', hr0, List.append_nil, e] at O1; exact O1
      clear O1 hr
      go_wp2
      go_ret
      exact ⟨_, rfl, Sl.of_own HO.out rfl (by decide) (fun _ _ => trivial), LL⟩
end
end Go.Proofs.Ytonpgohigncjeaa
