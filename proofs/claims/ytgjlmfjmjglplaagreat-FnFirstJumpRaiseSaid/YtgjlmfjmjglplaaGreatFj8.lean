/- one text of DPg, TyFault, RnB -/
import Derived.Test.YtgjlmfjmjglplaaGreatFj7
import Derived.Test.YtgjlmfjmjglplaaGreatFj4
import Derived.Test.YtgjlmfjmjglplaaGreatFj2
import Derived.Test.YtgjlmfjmjglplaaGreatFj1
import Derived.Test.YtgjlmfjmjglplaaGreatRows
import Derived.Test.YtgjlmfjmjglplaaGreatFj3
import Derived.Defers
import Derived.Recover
import Derived.Stop.IfaceNil
import Derived.WalkSmall
namespace Go.Proofs.YtgjlmfjmjglplaaGreat
open Go.RowKit
set_option linter.unusedVariables false
section
section
/-- a tree, lines and a number that were drawn -/
def LineOut (k g p : Nat) (A : Option Addr) (n cap : Nat) (bs : List By) (w : World) (e : Ending) (w' : World) : Prop :=
  ∃ (B D : Option Addr) (m c q d : Nat) (xs : List Cls) (L : List Lin) (i : Int) (p' : Nat), e = .returned (.tuple #[.agg #[.slice B m c], .slice D q d, .int .i64 i]) ∧ Sl w' B m c xs ∧ m ≤ 8 ∧ (0 < m → ∀ a, B = some a → w.heap.size < a.block) ∧ Sl w' D q d L ∧ q ≤ 24 ∧ (0 < q → ∀ a, D = some a → w.heap.size < a.block) ∧ (-1 ≤ i ∧ i ≤ 24) ∧ p' ≤ p + k ∧ Rd w' g p' A n cap bs ∧ Gx g w w'
theorem Ps.outL {w wr : World} {g p : Nat} {A : Option Addr} {n cap : Nat} {bs : List By} {B : Option Addr} {m c tb : Nat} {xs : List Cls} (h : Ps w wr g p A n cap bs B m c xs tb) (hA : 0 < n → ∀ a, A = some a → a.block < w.heap.size) (hm : m ≤ 8) {D : Option Addr} {q d : Nat} {L : List Lin} (SD : Sl wr D q d L) (hq : q ≤ 24) (hD : 0 < q → ∀ a, D = some a → w.heap.size < a.block) {i : Int} (hi : -1 ≤ i ∧ i ≤ 24) {k p0 : Nat} (hp : p ≤ p0 + k) (u : Value) :
    LineOut k g p0 A n cap bs w (.returned (.tuple #[.agg #[.slice B m c], .slice D q d, .int .i64 i])) (wr.setCell ⟨w.heap.size, 0, none⟩ u) := by
  obtain ⟨B', D', m', c', q', d', xs', L', p', e, h1, h2, h3, h4, h5, h6, h7, h8, h9⟩ := h.out hA hm SD hq hD hp u
  injection e with e
  injection e with e
  simp only [Array.mk.injEq, List.cons.injEq, Value.agg.injEq, Value.slice.injEq, and_true] at e
  obtain ⟨⟨rfl, rfl, rfl⟩, rfl, rfl, rfl⟩ := e
  exact ⟨_, _, _, _, _, _, xs', L', i, p', rfl, h1, h2, h3, h4, h5, h6, hi, h7, h8, h9⟩
end

section
/-- a program and a line that were drawn for a law -/
def DrawnPL (w : World) (e : Ending) (w' : World) : Prop :=
  ∃ (B D : Option Addr) (m c q d : Nat) (xs : List Cls) (L : List Lin) (i : Int), e = .returned (.tuple #[.agg #[.slice B m c], .slice D q d, .int .i64 i]) ∧ Sl w' B m c xs ∧ m ≤ 8 ∧ Sl w' D q d L ∧ q ≤ 24 ∧ (-1 ≤ i ∧ i ≤ 24) ∧ Le w w'
/-- a program that was drawn for a law -/
def DrawnPr (w : World) (e : Ending) (w' : World) : Prop :=
  ∃ (B D : Option Addr) (m c q d : Nat) (xs : List Cls) (L : List Lin), e = .returned (.tuple #[.agg #[.slice B m c], .slice D q d]) ∧ Sl w' B m c xs ∧ m ≤ 8 ∧ Sl w' D q d L ∧ q ≤ 24 ∧ Le w w'
end
end

section
structure Flt where
  cls : Int
  code : Int
  cause : Int
  ctx : Int
  hide : Bool
instance instEncFlt : Enc Flt := ⟨5, fun x => [.int .i64 x.cls, .int .i64 x.code, .int .i64 x.cause, .int .i64 x.ctx, .bool x.hide], fun x => -9223372036854775808 ≤ x.cls ∧ x.cls ≤ 9223372036854775807 ∧ -9223372036854775808 ≤ x.code ∧ x.code ≤ 9223372036854775807 ∧ -9223372036854775808 ≤ x.cause ∧ x.cause ≤ 9223372036854775807 ∧ -9223372036854775808 ≤ x.ctx ∧ x.ctx ≤ 9223372036854775807, fun _ => rfl⟩
theorem Sl.flt_at {w : World} {A : Option Addr} {n cap : Nat} {xs : List Flt} (h : Sl w A n cap xs) {k : Nat} (hk : k < xs.length) :
    ∃ b off, A = some ⟨b, off, none⟩ ∧ b < w.heap.size ∧ w.cell? ⟨b, off + k * 5, none⟩ = some (.int .i64 xs[k].cls) ∧ w.cell? ⟨b, off + k * 5 + 1, none⟩ = some (.int .i64 xs[k].code) ∧ w.cell? ⟨b, off + k * 5 + 2, none⟩ = some (.int .i64 xs[k].cause) ∧ w.cell? ⟨b, off + k * 5 + 3, none⟩ = some (.int .i64 xs[k].ctx) ∧ w.cell? ⟨b, off + k * 5 + 4, none⟩ = some (.bool xs[k].hide) ∧ (-9223372036854775808 ≤ xs[k].cls ∧ xs[k].cls ≤ 9223372036854775807 ∧ -9223372036854775808 ≤ xs[k].code ∧ xs[k].code ≤ 9223372036854775807 ∧ -9223372036854775808 ≤ xs[k].cause ∧ xs[k].cause ≤ 9223372036854775807 ∧ -9223372036854775808 ≤ xs[k].ctx ∧ xs[k].ctx ≤ 9223372036854775807) := by
  obtain ⟨b, off, e, hb, hc⟩ := h.cells_ hk
  have h0 := hc 0 (by decide) _ rfl
  have h1 := hc 1 (by decide) _ rfl
  have h2 := hc 2 (by decide) _ rfl
  have h3 := hc 3 (by decide) _ rfl
  have h4 := hc 4 (by decide) _ rfl
  exact ⟨b, off, e, hb, by simpa [Enc.size] using h0, by simpa [Enc.size, Nat.add_assoc] using h1, by simpa [Enc.size, Nat.add_assoc] using h2, by simpa [Enc.size, Nat.add_assoc] using h3, by simpa [Enc.size, Nat.add_assoc] using h4, h.ok xs[k] (List.getElem_mem hk)⟩
theorem flat_flt_cls : ∀ (xs : List Flt) (k : Nat) (h : k < xs.length) (z : Int), (xs.flatMap Enc.cells).set (k * 5) (.int .i64 z) = (xs.set k {xs[k] with cls := z}).flatMap Enc.cells
  | x :: r, 0, _, z => rfl
  | x :: r, k + 1, h, z => by
    have ih := flat_flt_cls r k (by simpa using h) z
    have e : (k + 1) * 5 = k * 5 + 1 + 1 + 1 + 1 + 1 := by omega
    rw [e]
    show Value.int .i64 x.cls :: Value.int .i64 x.code :: Value.int .i64 x.cause :: Value.int .i64 x.ctx :: Value.bool x.hide :: (r.flatMap Enc.cells).set (k * 5) (.int .i64 z) = _
    rw [ih]; rfl
theorem flat_flt_code : ∀ (xs : List Flt) (k : Nat) (h : k < xs.length) (z : Int), (xs.flatMap Enc.cells).set (k * 5 + 1) (.int .i64 z) = (xs.set k {xs[k] with code := z}).flatMap Enc.cells
  | x :: r, 0, _, z => rfl
  | x :: r, k + 1, h, z => by
    have ih := flat_flt_code r k (by simpa using h) z
    have e : (k + 1) * 5 + 1 = k * 5 + 1 + 1 + 1 + 1 + 1 + 1 := by omega
    rw [e]
    show Value.int .i64 x.cls :: Value.int .i64 x.code :: Value.int .i64 x.cause :: Value.int .i64 x.ctx :: Value.bool x.hide :: (r.flatMap Enc.cells).set (k * 5 + 1) (.int .i64 z) = _
    rw [ih]; rfl
theorem flat_flt_cause : ∀ (xs : List Flt) (k : Nat) (h : k < xs.length) (z : Int), (xs.flatMap Enc.cells).set (k * 5 + 2) (.int .i64 z) = (xs.set k {xs[k] with cause := z}).flatMap Enc.cells
  | x :: r, 0, _, z => rfl
  | x :: r, k + 1, h, z => by
    have ih := flat_flt_cause r k (by simpa using h) z
    have e : (k + 1) * 5 + 2 = k * 5 + 2 + 1 + 1 + 1 + 1 + 1 := by omega
    rw [e]
    show Value.int .i64 x.cls :: Value.int .i64 x.code :: Value.int .i64 x.cause :: Value.int .i64 x.ctx :: Value.bool x.hide :: (r.flatMap Enc.cells).set (k * 5 + 2) (.int .i64 z) = _
    rw [ih]; rfl
theorem flat_flt_ctx : ∀ (xs : List Flt) (k : Nat) (h : k < xs.length) (z : Int), (xs.flatMap Enc.cells).set (k * 5 + 3) (.int .i64 z) = (xs.set k {xs[k] with ctx := z}).flatMap Enc.cells
  | x :: r, 0, _, z => rfl
  | x :: r, k + 1, h, z => by
    have ih := flat_flt_ctx r k (by simpa using h) z
    have e : (k + 1) * 5 + 3 = k * 5 + 3 + 1 + 1 + 1 + 1 + 1 := by omega
    rw [e]
    show Value.int .i64 x.cls :: Value.int .i64 x.code :: Value.int .i64 x.cause :: Value.int .i64 x.ctx :: Value.bool x.hide :: (r.flatMap Enc.cells).set (k * 5 + 3) (.int .i64 z) = _
    rw [ih]; rfl
theorem flat_flt_hide : ∀ (xs : List Flt) (k : Nat) (h : k < xs.length) (z : Bool), (xs.flatMap Enc.cells).set (k * 5 + 4) (.bool z) = (xs.set k {xs[k] with hide := z}).flatMap Enc.cells
  | x :: r, 0, _, z => rfl
  | x :: r, k + 1, h, z => by
    have ih := flat_flt_hide r k (by simpa using h) z
    have e : (k + 1) * 5 + 4 = k * 5 + 4 + 1 + 1 + 1 + 1 + 1 := by omega
    rw [e]
    show Value.int .i64 x.cls :: Value.int .i64 x.code :: Value.int .i64 x.cause :: Value.int .i64 x.ctx :: Value.bool x.hide :: (r.flatMap Enc.cells).set (k * 5 + 4) (.bool z) = _
    rw [ih]; rfl
end

section
instance instOneFltR : EncOne Flt := ⟨by decide, fun x u hu => by simp [Enc.cells] at hu; rcases hu with rfl | rfl | rfl | rfl | rfl <;> rfl⟩
theorem infoFltR : (Tryz.prog.info? 68).map (fun i => (i.zero, i.size, i.bytes)) = some (some (.agg #[.int .i64 0, .int .i64 0, .int .i64 0, .int .i64 0, .bool false]), 5, 40) := by kernel_rfl
theorem infoIntR : (Tryz.prog.info? 3).map (fun i => (i.zero, i.size, i.bytes)) = some (some (.int .i64 0), 1, 8) := by kernel_rfl
/-- the memory of a run: its block, the tree, the program, what it has told, the faults that it has raised -/
structure Rn (w : World) (R : Nat) (B : Option Addr) (m c : Nat) (xs : List Cls) (A : Option Addr) (n cap : Nat) (p : List Lin) (lv hv : Value) (lg : List Int) (hs : List Flt) : Prop where
  z : R < w.heap.size
  c0 : w.cell? ⟨R, 0, none⟩ = some (.slice B m c)
  c1 : w.cell? ⟨R, 1, none⟩ = some (.slice A n cap)
  c2 : w.cell? ⟨R, 2, none⟩ = some lv
  c3 : w.cell? ⟨R, 3, none⟩ = some hv
  f2 : w.frozen? ⟨R, 2, none⟩ = false
  f3 : w.frozen? ⟨R, 3, none⟩ = false
  S : Sl w B m c xs
  T : Sl w A n cap p
  hB : 0 < m → ∀ a, B = some a → a.block < R - 1
  hA : 0 < n → ∀ a, A = some a → a.block < R - 1
  O : w.ownsRow (R - 1) 3 1 lv lg.length (lg.flatMap Enc.cells)
  H : w.ownsRow (R - 1) 68 5 hv hs.length (hs.flatMap Enc.cells)
  ap : ∀ k, lv.ownBlock = some k → hv.ownBlock ≠ some k
  okl : ∀ x ∈ lg, Enc.ok x
  okh : ∀ x ∈ hs, Enc.ok x
  nl : lv.ownBlock ≠ some R
  nh : hv.ownBlock ≠ some R
/-- what a run leaves alone: all but its own block and the rows of what it has told and raised -/
structure Kp (R : Nat) (lv hv lv' hv' : Value) (w w' : World) : Prop where
  os : w'.os = w.os
  tape : w'.tape = w.tape
  output : w'.output = w.output
  size : w.heap.size ≤ w'.heap.size
  blk : ∀ b, b < w.heap.size → b ≠ R → lv.ownBlock ≠ some b → hv.ownBlock ≠ some b → w'.heap[b]? = w.heap[b]?
  lo : lv'.ownBlock = lv.ownBlock ∨ ∀ k, lv'.ownBlock = some k → w.heap.size ≤ k
  ho : hv'.ownBlock = hv.ownBlock ∨ ∀ k, hv'.ownBlock = some k → w.heap.size ≤ k
theorem Kp.refl (R : Nat) (lv hv : Value) (w : World) : Kp R lv hv lv hv w w := ⟨rfl, rfl, rfl, Nat.le_refl _, fun _ _ _ _ _ => rfl, .inl rfl, .inl rfl⟩
theorem Kp.trans {R : Nat} {lv hv lv1 hv1 lv2 hv2 : Value} {w w1 w2 : World} (h : Kp R lv hv lv1 hv1 w w1) (k : Kp R lv1 hv1 lv2 hv2 w1 w2) : Kp R lv hv lv2 hv2 w w2 := by
  refine ⟨k.os.trans h.os, k.tape.trans h.tape, k.output.trans h.output, Nat.le_trans h.size k.size, fun b hb hR hl hh => ?_, ?_, ?_⟩
  · have e1 : lv1.ownBlock ≠ some b := fun e => by
      rcases h.lo with h2 | h2
      · exact hl (h2 ▸ e)
      · have := h2 b e; omega
    have e2 : hv1.ownBlock ≠ some b := fun e => by
      rcases h.ho with h2 | h2
      · exact hh (h2 ▸ e)
      · have := h2 b e; omega
    exact (k.blk b (Nat.lt_of_lt_of_le hb h.size) hR e1 e2).trans (h.blk b hb hR hl hh)
  · rcases k.lo with h1 | h1
    · rw [h1]; exact h.lo
    · exact .inr fun j hj => Nat.le_trans h.size (h1 j hj)
  · rcases k.ho with h1 | h1
    · rw [h1]; exact h.ho
    · exact .inr fun j hj => Nat.le_trans h.size (h1 j hj)
/-- an interface's value: what a block is left with -/
inductive Lft where
  | nil : Lft
  | ret (v : Int) : Lft
  | rai (f : Int) : Lft
  | brk : Lft
  | cnt : Lft
def lfV : Lft → Value
  | .nil => Value.nilIface
  | .ret v => .iface 84 (.agg #[.int .i64 v])
  | .rai f => .iface 86 (.agg #[.int .i64 f])
  | .brk => .iface 115 (.agg #[])
  | .cnt => .iface 116 (.agg #[])
/-- a call that hands nothing back ends so, or with a panic -/
def lfE : Lft → Ending
  | .nil => .returned (.tuple #[])
  | l => .panicked [{ v := lfV l, recovered := false }]
theorem isAny : Tryz.prog.isIface 20 = true := by kernel_rfl
theorem neq_any (u : TypeId) (x : Value) (w : World) : (binOp .neq 20 (.iface u x) .nilIface).run Tryz.prog w = .ok (.bool true) w := run_neq_iface_nil w _ isAny u x
theorem neq_nil (w : World) : (binOp .neq 20 .nilIface .nilIface).run Tryz.prog w = .ok (.bool false) w := run_neq_nil_nil_at w _ isAny
theorem eql_any (u : TypeId) (x : Value) (w : World) : (binOp .eql 20 (.iface u x) .nilIface).run Tryz.prog w = .ok (.bool false) w := run_eql_iface_nil w _ isAny u x
theorem eql_nil (w : World) : (binOp .eql 20 .nilIface .nilIface).run Tryz.prog w = .ok (.bool true) w := run_eql_nil_nil_at w _ isAny
set_option maxRecDepth 100000 in
theorem leave_any (l : Lft) (w : World) : Calls Tryz.prog 97 #[lfV l] w fun e w' => e = lfE l ∧ w' = w := by
  have q1 := neq_any
  have q2 := neq_nil
  cases l
  all_goals
    simp only [lfV, lfE]
    go_enter Tryz.func97, Tryz.ntmps97
    go_wp2
    first
    | (go_end0; exact ⟨rfl, rfl⟩)
    | exact ⟨rfl, rfl, rfl⟩
section
variable {w w' wA w4 : World} {R m c n cap : Nat} {B A : Option Addr} {xs : List Cls} {p : List Lin} {lv hv v1 : Value} {lg : List Int} {hs : List Flt}
theorem fr_set (w : World) (b o k : Nat) (u : Value) : (w.setCell ⟨b, o, none⟩ u).frozen? ⟨b, k, none⟩ = w.frozen? ⟨b, k, none⟩ := by first | exact World.frozen?_setCell .. | simp [World.frozen?, World.setCell]
theorem Rn.lneR (h : Rn w R B m c xs A n cap p lv hv lg hs) : lv.ownBlock ≠ some R := h.nl
theorem Rn.hneR (h : Rn w R B m c xs A n cap p lv hv lg hs) : hv.ownBlock ≠ some R := h.nh
theorem Rn.le (h : Rn w R B m c xs A n cap p lv hv lg hs) (hl : Le w w') : Rn w' R B m c xs A n cap p lv hv lg hs :=
  ⟨Nat.lt_of_lt_of_le h.z hl.size, (hl.cell h.z).trans h.c0, (hl.cell h.z).trans h.c1, (hl.cell h.z).trans h.c2, (hl.cell h.z).trans h.c3, (hl.frozen h.z).trans h.f2, (hl.frozen h.z).trans h.f3, h.S.le hl, h.T.le hl, h.hB, h.hA, own_le h.O hl, own_le h.H hl, h.ap, h.okl, h.okh, h.nl, h.nh⟩
theorem Kp.of_le (R : Nat) (lv hv : Value) (hl : Le w w') : Kp R lv hv lv hv w w' := ⟨hl.os, hl.tape, hl.output, hl.size, fun b hb _ _ _ => hl.block b hb, .inl rfl, .inl rfl⟩
theorem Rn.told (h : Rn w R B m c xs A n cap p lv hv lg hs) (LA : Le w wA) {x : Int} (hx : Enc.ok x) (O4 : w4.ownsRow (R - 1) 3 1 v1 (lg.length + 1) ((lg ++ [x]).flatMap Enc.cells)) (hg : wA.grownBy w4 lv.ownBlock) (hbl : v1.ownBlock = lv.ownBlock ∨ v1.ownBlock = some wA.heap.size) :
    Rn (w4.setCell ⟨R, 2, none⟩ v1) R B m c xs A n cap p v1 hv (lg ++ [x]) hs ∧ Kp R lv hv v1 hv w (w4.setCell ⟨R, 2, none⟩ v1) := by
  have hA := h.le LA
  have hRl : some R ≠ lv.ownBlock := fun e => h.lneR e.symm
  have hsz := hg.size
  have hcell : ∀ o v, wA.cell? ⟨R, o, none⟩ = some v → w4.cell? ⟨R, o, none⟩ = some v := fun o v hc => hg.cell (a := ⟨R, o, none⟩) hc (fun e => hRl e)
  have hfr : ∀ o, w4.frozen? ⟨R, o, none⟩ = wA.frozen? ⟨R, o, none⟩ := fun o => World.frozen?_of_block (a := ⟨R, o, none⟩) (hg.block R hA.z hRl)
  have hzz : (w4.setCell ⟨R, 2, none⟩ v1).heap.size = w4.heap.size := by simp [World.setCell]
  have gs := grown_set w4 R 2 v1
  have hap : hv.ownBlock = none ∨ hv.ownBlock ≠ lv.ownBlock := by
    cases e : hv.ownBlock with
    | none => exact .inl rfl
    | some k => exact .inr fun e2 => h.ap k e2.symm e
  have hlk : ∀ k, lv.ownBlock = some k → R - 1 ≤ k := fun k e => (h.O.lt k e).1
  have hvl : ∀ k, v1.ownBlock = some k → k ≠ R ∧ hv.ownBlock ≠ some k := fun k e => by
    rcases hbl with h1 | h1
    · exact ⟨fun e2 => h.nl (by rw [← h1, e, e2]), h.ap k (h1 ▸ e)⟩
    · rw [h1] at e
      injection e with e
      have := hA.z
      exact ⟨by omega, fun e2 => by have := (hA.H.lt k e2).2; omega⟩
  have S4 := hA.S.grown hg (fun hn a e e2 => by have := h.hB hn a e; have := hlk _ e2.symm; omega)
  have T4 := hA.T.grown hg (fun hn a e e2 => by have := h.hA hn a e; have := hlk _ e2.symm; omega)
  refine ⟨⟨by rw [hzz]; exact Nat.lt_of_lt_of_le hA.z hsz, ?_, ?_, ?_, ?_, ?_, ?_, ?_, ?_, h.hB, h.hA, ?_, ?_, fun k e => (hvl k e).2, ?_, h.okh, fun e => (hvl R e).1 rfl, h.nh⟩, ?_⟩
  · rw [cell_set_other (.inr (by decide))]; exact hcell 0 _ hA.c0
  · rw [cell_set_other (.inr (by decide))]; exact hcell 1 _ hA.c1
  · exact cell_set_same (hcell 2 _ hA.c2)
  · rw [cell_set_other (.inr (by decide))]; exact hcell 3 _ hA.c3
  · rw [fr_set, hfr]; exact hA.f2
  · rw [fr_set, hfr]; exact hA.f3
  · exact S4.grown gs (fun hn a e e2 => by have := h.hB hn a e; have e3 : a.block = R := (by injection e2); omega)
  · exact T4.grown gs (fun hn a e e2 => by have := h.hA hn a e; have e3 : a.block = R := (by injection e2); omega)
  · have := O4.kept gs (by cases e : v1.ownBlock with | none => exact .inl rfl | some k => exact .inr (fun e2 => by injection e2 with e2; have := (hvl k e).1; omega))
    rw [List.length_append]; exact this
  · exact (hA.H.kept hg hap).kept gs (by cases e : hv.ownBlock with | none => exact .inl rfl | some k => exact .inr (fun e2 => by injection e2 with e2; exact h.hneR (by rw [e, e2])))
  · intro y hy
    rcases List.mem_append.1 hy with h1 | h1
    · exact h.okl y h1
    · rw [List.mem_singleton] at h1; subst h1; exact hx
  · refine ⟨?_, ?_, ?_, ?_, fun b hb hR hl hh => ?_, ?_, .inl rfl⟩
    · exact gs.os.trans (hg.os.trans LA.os)
    · exact gs.tape.trans (hg.tape.trans LA.tape)
    · exact gs.output.trans (hg.output.trans LA.output)
    · rw [hzz]; exact Nat.le_trans LA.size hsz
    · have hbA := Nat.lt_of_lt_of_le hb LA.size
      exact (gs.block b (Nat.lt_of_lt_of_le hbA hsz) (fun e => hR (by injection e))).trans ((hg.block b hbA (fun e => hl e.symm)).trans (LA.block b hb))
    · rcases hbl with h1 | h1
      · exact .inl h1
      · exact .inr fun k e => by rw [h1] at e; injection e with e; have := LA.size; omega
end
set_option maxHeartbeats 1000000 in
set_option maxRecDepth 100000 in
theorem tell_any (R m c n cap : Nat) (B A : Option Addr) (xs : List Cls) (p : List Lin) (lv hv : Value) (lg : List Int) (hs : List Flt) (x : Int) (hx : Enc.ok x) (hl : lg.length ≤ 1000000) (w : World) (h : Rn w R B m c xs A n cap p lv hv lg hs) :
    Calls Tryz.prog 76 #[.pointer (some ⟨R, 0, none⟩), .int .i64 x] w fun e w' => e = .returned (.tuple #[]) ∧ ∃ lv', Rn w' R B m c xs A n cap p lv' hv (lg ++ [x]) hs ∧ Kp R lv hv lv' hv w w' := by
  obtain ⟨i0, hq, hz0, hz1, hz2⟩ := info_parts infoIntR
  have c2 := h.c2
  have f2 := h.f2
  have hz := h.z
  obtain ⟨AL, cL, rfl⟩ := own_form h.O
  go_enter Tryz.func76, Tryz.ntmps76
  go_wp2_with (at_builtin; refine wpList_append_sl rfl _ _ 34 rfl (R - 1) 3 i0 _ 8 Tryz.underlying34 hq hz0 hz1 hz2 rfl _ lg.length lg rfl (h.O.alloc _) _ 1 1 [x] rfl (sl_one x rfl hx rfl) (by unfold maxLen; omega) (by omega) (Nat.le_trans (by omega) (Le.new w _).size) ?_; intro v1 w4 O4 hg4 hbl; obtain ⟨A1, c1, rfl⟩ := own_form O4; have HR := Lib.hid (h.told (Le.new w _) hx O4 hg4 hbl); have k2 := hg4.cell (a := ⟨R, 2, none⟩) (((Le.new w _).cell hz).trans c2) (fun e => h.lneR e.symm); have k3 : w4.frozen? ⟨R, 2, none⟩ = false := (World.frozen?_of_block (a := ⟨R, 2, none⟩) (hg4.block R (Nat.lt_of_lt_of_le hz (Le.new w _).size) (fun e => h.lneR e.symm))).trans (((Le.new w _).frozen hz).trans f2); clear O4 hg4 hbl)
  go_end0
  exact ⟨rfl, _, HR.out.1, HR.out.2⟩
end
end Go.Proofs.YtgjlmfjmjglplaaGreat
