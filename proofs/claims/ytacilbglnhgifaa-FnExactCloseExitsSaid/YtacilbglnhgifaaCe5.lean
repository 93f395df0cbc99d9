/- one text of RZp, LvA, LvB -/
import Derived.Test.YtacilbglnhgifaaCe1
import Derived.Test.YtacilbglnhgifaaRows
import Derived.Test.YtacilbglnhgifaaCe3
import Derived.Test.YtacilbglnhgifaaCe2
import Derived.Test.YtacilbglnhgifaaCe4
import Derived.Deep.RegionHeld3
import Derived.Defers
import Derived.WalkSmall
namespace Go.Proofs.Ytacilbglnhgifaa
open Go.RowKit
set_option linter.unusedVariables false
section
section
section
variable {P : Program} {ops : Array Oper} {Q : Exit → Act → World → Prop} {md : Region.Mode} {S : World → Prop} {Z : List Nat}

/-- Whatever order is picked from here on; S holds behind every operation that is carried out, but for those of Z. -/
def wpAnyZ (P : Program) (md : Region.Mode) (ops : Array Oper) (Q : Exit → Act → World → Prop) (S : World → Prop) (Z : List Nat) : Nat → Array Bool → Act → World → Prop
  | 0, listed, a, w => Region.ready md ops listed = [] ∧ Q .normal a w
  | fuel + 1, listed, a, w =>
    (Region.ready md ops listed = [] → Q .normal a w) ∧
    ∀ i ∈ Region.ready md ops listed, wpOp P ops Q i (fun a' w' => (Z.contains i = false → S w') ∧ wpAnyZ P md ops Q S Z fuel (listed.setIfInBounds i true) a' w') a w

theorem wpAny_of_Z : ∀ (fuel : Nat) (listed : Array Bool) (a : Act) (w : World), wpAnyZ P md ops Q S Z fuel listed a w → wpAny P md ops Q fuel listed a w
  | 0, _, _, _, h => h
  | fuel + 1, _, _, _, h => ⟨h.1, fun i hi => wpOp_mono (fun a' w' h' => wpAny_of_Z fuel _ a' w' h'.2) (h.2 i hi)⟩

/-- the operations of C cannot come up ahead of number i -/
def Waits (md : Region.Mode) (ops : Array Oper) (listed : Array Bool) (i : Nat) (C : List Nat) : Prop :=
  ∀ k ∈ C, listed.getD k true = false ∧ ∃ o, ops[k]? = some o ∧ ∃ e ∈ o.after, Region.binds md e = true ∧ (e.on = i ∨ e.on ∈ C)
theorem Waits.not {listed : Array Bool} {i : Nat} {C : List Nat} (h : Waits md ops listed i C) (hi : listed.getD i true = false) {j : Nat} (hj : j ∈ Region.ready md ops listed) : j ∉ C := by
  intro hc
  obtain ⟨_, o, ho, e, he, hb, hon⟩ := h j hc
  obtain ⟨_, o', ho', hall⟩ := mem_ready.1 hj
  rw [ho] at ho'; injection ho' with ho'; subst ho'
  have h1 := hall e he hb
  have hx : listed.getD e.on true = false := by
    rcases hon with h2 | h2
    · rw [h2]; exact hi
    · exact (h _ h2).1
  rcases Nat.lt_or_ge e.on listed.size with h3 | h3
  · simp [h3] at h1 hx; rw [h1] at hx; cases hx
  · simp [Array.getElem?_eq_none h3] at h1
def waitsB (md : Region.Mode) (ops : Array Oper) (listed : Array Bool) (i : Nat) (C : List Nat) : Bool :=
  C.all fun k => !(listed.getD k true) && match ops[k]? with | some o => o.after.any fun e => Region.binds md e && (e.on == i || C.contains e.on) | none => false
theorem waits_of {listed : Array Bool} {i : Nat} {C : List Nat} (h : waitsB md ops listed i C = true) : Waits md ops listed i C := by
  intro k hk
  have h1 := List.all_eq_true.1 h k hk
  rw [Bool.and_eq_true] at h1
  refine ⟨by simpa using h1.1, ?_⟩
  have h2 := h1.2
  cases ho : ops[k]? with
  | none => rw [ho] at h2; cases h2
  | some o =>
    rw [ho] at h2
    replace h2 : (o.after.any fun e => Region.binds md e && (e.on == i || C.contains e.on)) = true := h2
    obtain ⟨e, he, h3⟩ := Array.any_eq_true'.1 h2
    rw [Bool.and_eq_true, Bool.or_eq_true] at h3
    exact ⟨o, rfl, e, he, h3.1, by simpa using h3.2⟩

theorem wpAnyZ_first {i : Nat} {oi : Oper} {v : Value} {C : List Nat} (hi : ops[i]? = some oi) (hsel : ∀ (j : Nat) (o : Oper) cs b, ops[j]? = some o → o.op ≠ .select cs b)
    (hQ : ∀ c a w, Q (.panic c) (a.put oi.dst v) w → Q (.panic c) a w) (hZ : ∀ z, Z.contains z = true → z ∈ C) :
    ∀ (fuel : Nat) (listed : Array Bool) (a : Act) (w : World),
      (∀ j oj, ops[j]? = some oj → j ≠ i → listed.getD j true = false → (∀ e ∈ oj.after, Region.binds md e = true → e.on ≠ i) → oi.apart ops oj = true) →
      Waits md ops listed i C → i ∈ Region.ready md ops listed → YieldsIf P ops S oi v a → S w →
      wpAnyZ P md ops Q S Z fuel (listed.setIfInBounds i true) (a.put oi.dst v) w → wpAnyZ P md ops Q S Z (fuel + 1) listed a w := by
  intro fuel
  induction fuel with
  | zero =>
    intro listed a w _ _ hr hy hS H
    refine ⟨fun h => (by rw [h] at hr; cases hr), fun j hj => ?_⟩
    by_cases hji : j = i
    · subst hji; exact hy.wpOp hi hS ⟨fun _ => hS, H⟩
    · have := ready_mono hj hji
      rw [H.1] at this
      cases this
  | succ fuel ih =>
    intro listed a w hfree hw hr hy hS H
    refine ⟨fun h => (by rw [h] at hr; cases hr), fun j hj => ?_⟩
    by_cases hji : j = i
    · subst hji; exact hy.wpOp hi hS ⟨fun _ => hS, H⟩
    · have h1 := H.2 j (ready_mono hj hji)
      have hjc := hw.not (mem_ready.1 hr).1 hj
      have hjz : Z.contains j = false := by
        cases e : Z.contains j
        · rfl
        · exact absurd (hZ j e) hjc
      obtain ⟨hjun, oj, hoj, hall⟩ := mem_ready.1 hj
      have hnot : ∀ e ∈ oj.after, Region.binds md e = true → e.on ≠ i := fun e he hb heq => by
        have h1 := hall e he hb
        have h0 := (mem_ready.1 hr).1
        rw [heq] at h1
        rcases Nat.lt_or_ge i listed.size with h' | h'
        · simp [h'] at h0 h1; rw [h0] at h1; cases h1
        · simp [Array.getElem?_eq_none h'] at h1
      have h2 := wpOp_putIf hoj (hfree j oj hoj hji hjun hnot) (fun cs b => hsel i oi cs b hi) (fun cs b => hsel j oj cs b hoj) hQ hy h1
      have hfree' : ∀ k ok, ops[k]? = some ok → k ≠ i → (listed.setIfInBounds j true).getD k true = false →
          (∀ e ∈ ok.after, Region.binds md e = true → e.on ≠ i) → oi.apart ops ok = true := fun k ok hk hki hun hno => by
        refine hfree k ok hk hki ?_ hno
        by_cases hjk : j = k
        · subst hjk; exact hjun
        · rw [getD_set_ne true hjk] at hun; exact hun
      have hw' : Waits md ops (listed.setIfInBounds j true) i C := fun k hk => ⟨by rw [getD_set_ne true (fun e => hjc (by rw [e]; exact hk))]; exact (hw k hk).1, (hw k hk).2⟩
      refine wpOp_mono (fun a' w' h3 => ⟨h3.2.1, ih (listed.setIfInBounds j true) a' w' hfree' hw' (ready_mono hr (Ne.symm hji)) h3.1 (h3.2.1 hjz) ?_⟩) h2
      rw [Array.setIfInBounds_comm _ _ hji]
      exact h3.2.2

theorem wpAnyZ_done {listed : Array Bool} {a : Act} {w : World} (hr : Region.ready md ops listed = []) (h : Q .normal a w) :
    ∀ fuel, wpAnyZ P md ops Q S Z fuel listed a w
  | 0 => ⟨hr, h⟩
  | _ + 1 => ⟨fun _ => h, by rw [hr]; simp⟩
theorem wp_region_Z {id : Nat} {a : Act} {w : World} (S : World → Prop) (Z : List Nat) (hm : P.follows .mixedOrders = true)
    (h : wpAnyZ P .any ops Q S Z ops.size (Array.replicate ops.size false) a w.drew) : (Code.region id ops true).wp P Q a w :=
  wp_region_any hm (wpAny_of_Z _ _ _ _ h)
end
section
variable {P : Program} {l : List Oper} {Q : Exit → Act → World → Prop} {md : Region.Mode} {S : World → Prop} {Z : List Nat}
/-- the operations that wait for number i (edges lead back) -/
def clos (md : Region.Mode) (ops : Array Oper) (i : Nat) : List Nat :=
  (List.range ops.size).foldl (fun C k => if (k != i && match ops[k]? with | some o => o.after.any fun e => Region.binds md e && (e.on == i || C.contains e.on) | none => false) then C ++ [k] else C) []
theorem wpAnyZ_takeC {i : Nat} (C : List Nat) {oi : Oper} {v : Value} {fuel : Nat} {listed : Array Bool} {a : Act} {w : World} (hi : l[i]? = some oi)
    (hs : Region.noSelect l.toArray = true) (hf : Region.free md l.toArray listed i = true) (hr : (Region.ready md l.toArray listed).contains i = true)
    (hz : (Z.all fun z => C.contains z) = true) (hw : waitsB md l.toArray listed i C = true)
    (hQ : ∀ c a w, Q (.panic c) (a.put oi.dst v) w → Q (.panic c) a w) (hy : YieldsIf P l.toArray S oi v a) (hS : S w)
    (h : wpAnyZ P md l.toArray Q S Z fuel (listed.setIfInBounds i true) (a.put oi.dst v) w) : wpAnyZ P md l.toArray Q S Z (fuel + 1) listed a w := by
  have hi' : l.toArray[i]? = some oi := by rw [List.getElem?_toArray]; exact hi
  exact wpAnyZ_first (C := C) hi' (Region.noSelect_spec hs) hQ (fun z hz' => by have := List.all_eq_true.1 hz z (by simpa using hz'); simpa using this) fuel listed a w (Region.free_spec hi' hf) (waits_of hw) (by simpa using hr) hy hS h
theorem wpAnyZ_take {i : Nat} {oi : Oper} {v : Value} {fuel : Nat} {listed : Array Bool} {a : Act} {w : World} (hi : l[i]? = some oi)
    (hs : (Region.noSelect l.toArray && Region.free md l.toArray listed i && (Region.ready md l.toArray listed).contains i && (Z.all fun z => (clos md l.toArray i).contains z) && waitsB md l.toArray listed i (clos md l.toArray i)) = true)
    (hQ : ∀ c a w, Q (.panic c) (a.put oi.dst v) w → Q (.panic c) a w) (hy : YieldsIf P l.toArray S oi v a) (hS : S w)
    (h : wpAnyZ P md l.toArray Q S Z fuel (listed.setIfInBounds i true) (a.put oi.dst v) w) : wpAnyZ P md l.toArray Q S Z (fuel + 1) listed a w := by
  simp only [Bool.and_eq_true] at hs
  exact wpAnyZ_takeC _ hi hs.1.1.1.1 hs.1.1.1.2 hs.1.1.2 hs.1.2 hs.2 hQ hy hS h
/-- number i comes up first -/
def ReadyZ (P : Program) (md : Region.Mode) (l : List Oper) (Q : Exit → Act → World → Prop) (S : World → Prop) (Z : List Nat) (fuel : Nat) (listed : Array Bool) (a : Act) (w : World) (i : Nat) : Prop :=
  wpOp P l.toArray Q i (fun a' w' => (Z.contains i = false → S w') ∧ wpAnyZ P md l.toArray Q S Z fuel (listed.setIfInBounds i true) a' w') a w
theorem wpAnyZ_one {i fuel : Nat} {listed : Array Bool} {a : Act} {w : World} (hr : Region.ready md l.toArray listed = [i]) (h : ReadyZ P md l Q S Z fuel listed a w i) : wpAnyZ P md l.toArray Q S Z (fuel + 1) listed a w :=
  ⟨fun h0 => absurd (hr ▸ h0) (by simp), hr ▸ fun j hj => by simp at hj; subst hj; exact h⟩
theorem wpAnyZ_two {i k fuel : Nat} {listed : Array Bool} {a : Act} {w : World} (hr : Region.ready md l.toArray listed = [i, k]) (h : ReadyZ P md l Q S Z fuel listed a w i) (h2 : ReadyZ P md l Q S Z fuel listed a w k) : wpAnyZ P md l.toArray Q S Z (fuel + 1) listed a w :=
  ⟨fun h0 => absurd (hr ▸ h0) (by simp), hr ▸ fun j hj => by simp at hj; rcases hj with rfl | rfl; exact h; exact h2⟩
theorem wpAnyZ_three {i k m fuel : Nat} {listed : Array Bool} {a : Act} {w : World} (hr : Region.ready md l.toArray listed = [i, k, m]) (h : ReadyZ P md l Q S Z fuel listed a w i) (h2 : ReadyZ P md l Q S Z fuel listed a w k) (h3 : ReadyZ P md l Q S Z fuel listed a w m) : wpAnyZ P md l.toArray Q S Z (fuel + 1) listed a w :=
  ⟨fun h0 => absurd (hr ▸ h0) (by simp), hr ▸ fun j hj => by simp at hj; rcases hj with rfl | rfl | rfl; exact h; exact h2; exact h3⟩
theorem ReadyZ.mk {fuel : Nat} {listed : Array Bool} {a : Act} {w : World} {i : Nat} {o : Oper} (ho : l[i]? = some o)
    (h : ∀ K' : Act → World → Prop, Shut (∀ a w, (Z.contains i = false → S w) → wpAnyZ P md l.toArray Q S Z fuel (listed.setIfInBounds i true) a w → K' a w) → if Region.wanted o (yielded l.toArray a.tmps) = true then Oper.wp P o a w K' Q else K' (a.put o.dst undef) w) :
    ReadyZ P md l Q S Z fuel listed a w i :=
  wpOp_step (by rw [List.getElem?_toArray]; exact ho) (fun K' hK => h K' (fun a w hS hW => hK a w ⟨hS, hW⟩))
end
end
end

section
instance instOneFltR : EncOne Flt := ⟨by decide, fun x u hu => by simp [Enc.cells] at hu; rcases hu with rfl | rfl | rfl | rfl | rfl <;> rfl⟩
theorem infoFltR : (Try.prog.info? 84).map (fun i => (i.zero, i.size, i.bytes)) = some (some (.agg #[.int .i64 0, .int .i64 0, .int .i64 0, .int .i64 0, .bool false]), 5, 40) := by kernel_rfl
theorem infoIntR : (Try.prog.info? 3).map (fun i => (i.zero, i.size, i.bytes)) = some (some (.int .i64 0), 1, 8) := by kernel_rfl
/-- the memory of a leaver: its block, the tree, what it has told, its faults, the fault that there is; all of it newer than the world w0 -/
structure Lv (w0 w : World) (R : Nat) (B : Option Addr) (m c : Nat) (xs : List Cls) (lv hv : Value) (lg : List Int) (hs : List Flt) (fa : Int) : Prop where
  z : R < w.heap.size
  c0 : w.cell? ⟨R, 0, none⟩ = some (.slice B m c)
  c1 : w.cell? ⟨R, 1, none⟩ = some lv
  c2 : w.cell? ⟨R, 2, none⟩ = some hv
  c3 : w.cell? ⟨R, 3, none⟩ = some (.int .i64 fa)
  f1 : w.frozen? ⟨R, 1, none⟩ = false
  f2 : w.frozen? ⟨R, 2, none⟩ = false
  f3 : w.frozen? ⟨R, 3, none⟩ = false
  S : Sl w B m c xs
  hB : 0 < m → ∀ a, B = some a → a.block < R
  O : w.ownsRow R 3 1 lv lg.length (lg.flatMap Enc.cells)
  H : w.ownsRow R 84 5 hv hs.length (hs.flatMap Enc.cells)
  ap : ∀ k, lv.ownBlock = some k → hv.ownBlock ≠ some k
  okl : ∀ x ∈ lg, Enc.ok x
  okh : ∀ x ∈ hs, Enc.ok x
  nl : lv.ownBlock ≠ some R
  nh : hv.ownBlock ≠ some R
  h0 : w0.heap.size ≤ R
  G : Le w0 w
section
variable {w0 w w' wA w4 : World} {R m c : Nat} {B : Option Addr} {xs : List Cls} {lv hv v1 : Value} {lg : List Int} {hs : List Flt} {fa : Int}
theorem fr_set (w : World) (b o k : Nat) (u : Value) : (w.setCell ⟨b, o, none⟩ u).frozen? ⟨b, k, none⟩ = w.frozen? ⟨b, k, none⟩ := by first | exact World.frozen?_setCell .. | simp [World.frozen?, World.setCell]
theorem Lv.le (h : Lv w0 w R B m c xs lv hv lg hs fa) (hl : Le w w') : Lv w0 w' R B m c xs lv hv lg hs fa :=
  ⟨Nat.lt_of_lt_of_le h.z hl.size, (hl.cell h.z).trans h.c0, (hl.cell h.z).trans h.c1, (hl.cell h.z).trans h.c2, (hl.cell h.z).trans h.c3, (hl.frozen h.z).trans h.f1, (hl.frozen h.z).trans h.f2, (hl.frozen h.z).trans h.f3, h.S.le hl, h.hB, own_le h.O hl, own_le h.H hl, h.ap, h.okl, h.okh, h.nl, h.nh, h.h0, h.G.trans hl⟩
/-- a cell of the leaver's block is written: all rows stay -/
theorem Lv.rows (h : Lv w0 w R B m c xs lv hv lg hs fa) (o : Nat) (u : Value) : Sl (w.setCell ⟨R, o, none⟩ u) B m c xs ∧ (w.setCell ⟨R, o, none⟩ u).ownsRow R 3 1 lv lg.length (lg.flatMap Enc.cells) ∧
    (w.setCell ⟨R, o, none⟩ u).ownsRow R 84 5 hv hs.length (hs.flatMap Enc.cells) ∧ Le w0 (w.setCell ⟨R, o, none⟩ u) := by
  have gs := grown_set w R o u
  refine ⟨h.S.grown gs (fun hn a e e2 => by have := h.hB hn a e; have e3 : a.block = R := (by injection e2); omega), ?_, ?_, h.G.setCell h.h0 u⟩
  · exact h.O.kept gs (by cases e : lv.ownBlock with | none => exact .inl rfl | some k => exact .inr (fun e2 => by injection e2 with e2; exact h.nl (by rw [e, e2])))
  · exact h.H.kept gs (by cases e : hv.ownBlock with | none => exact .inl rfl | some k => exact .inr (fun e2 => by injection e2 with e2; exact h.nh (by rw [e, e2])))
theorem Lv.setF (h : Lv w0 w R B m c xs lv hv lg hs fa) (f : Int) : Lv w0 (w.setCell ⟨R, 3, none⟩ (.int .i64 f)) R B m c xs lv hv lg hs f := by
  obtain ⟨q1, q2, q3, q4⟩ := h.rows 3 (.int .i64 f)
  refine ⟨by simpa [World.setCell] using h.z, ?_, ?_, ?_, cell_set_same h.c3, ?_, ?_, ?_, q1, h.hB, q2, q3, h.ap, h.okl, h.okh, h.nl, h.nh, h.h0, q4⟩
  · rw [cell_set_other (.inr (by decide))]; exact h.c0
  · rw [cell_set_other (.inr (by decide))]; exact h.c1
  · rw [cell_set_other (.inr (by decide))]; exact h.c2
  · rw [fr_set]; exact h.f1
  · rw [fr_set]; exact h.f2
  · rw [fr_set]; exact h.f3
theorem Lv.told (h : Lv w0 w R B m c xs lv hv lg hs fa) (LA : Le w wA) {x : Int} (hx : Enc.ok x) (O4 : w4.ownsRow R 3 1 v1 (lg.length + 1) ((lg ++ [x]).flatMap Enc.cells)) (hg : wA.grownBy w4 lv.ownBlock) (hbl : v1.ownBlock = lv.ownBlock ∨ v1.ownBlock = some wA.heap.size) :
    Lv w0 (w4.setCell ⟨R, 1, none⟩ v1) R B m c xs v1 hv (lg ++ [x]) hs fa := by
  have hA := h.le LA
  have hRl : some R ≠ lv.ownBlock := fun e => h.nl e.symm
  have hsz := hg.size
  have hcell : ∀ o v, wA.cell? ⟨R, o, none⟩ = some v → w4.cell? ⟨R, o, none⟩ = some v := fun o v hc => hg.cell (a := ⟨R, o, none⟩) hc (fun e => hRl e)
  have hfr : ∀ o, w4.frozen? ⟨R, o, none⟩ = wA.frozen? ⟨R, o, none⟩ := fun o => World.frozen?_of_block (a := ⟨R, o, none⟩) (hg.block R hA.z hRl)
  have hzz : (w4.setCell ⟨R, 1, none⟩ v1).heap.size = w4.heap.size := by simp [World.setCell]
  have gs := grown_set w4 R 1 v1
  have hap : hv.ownBlock = none ∨ hv.ownBlock ≠ lv.ownBlock := by
    cases e : hv.ownBlock with
    | none => exact .inl rfl
    | some k => exact .inr fun e2 => h.ap k e2.symm e
  have hlk : ∀ k, lv.ownBlock = some k → R ≤ k := fun k e => (h.O.lt k e).1
  have hvl : ∀ k, v1.ownBlock = some k → k ≠ R ∧ hv.ownBlock ≠ some k := fun k e => by
    rcases hbl with h1 | h1
    · exact ⟨fun e2 => h.nl (by rw [← h1, e, e2]), h.ap k (h1 ▸ e)⟩
    · rw [h1] at e
      injection e with e
      have := hA.z
      exact ⟨by omega, fun e2 => by have := (hA.H.lt k e2).2; omega⟩
  have S4 := hA.S.grown hg (fun hn a e e2 => by have := h.hB hn a e; have := hlk _ e2.symm; omega)
  have G4 := hA.G.grown hg (fun k hk => Nat.le_trans h.h0 (hlk k hk))
  refine ⟨by rw [hzz]; exact Nat.lt_of_lt_of_le hA.z hsz, ?_, ?_, ?_, ?_, ?_, ?_, ?_, ?_, h.hB, ?_, ?_, fun k e => (hvl k e).2, ?_, h.okh, fun e => (hvl R e).1 rfl, h.nh, h.h0, G4.setCell h.h0 v1⟩
  · rw [cell_set_other (.inr (by decide))]; exact hcell 0 _ hA.c0
  · exact cell_set_same (hcell 1 _ hA.c1)
  · rw [cell_set_other (.inr (by decide))]; exact hcell 2 _ hA.c2
  · rw [cell_set_other (.inr (by decide))]; exact hcell 3 _ hA.c3
  · rw [fr_set, hfr]; exact hA.f1
  · rw [fr_set, hfr]; exact hA.f2
  · rw [fr_set, hfr]; exact hA.f3
  · exact S4.grown gs (fun hn a e e2 => by have := h.hB hn a e; have e3 : a.block = R := (by injection e2); omega)
  · have := O4.kept gs (by cases e : v1.ownBlock with | none => exact .inl rfl | some k => exact .inr (fun e2 => by injection e2 with e2; have := (hvl k e).1; omega))
    rw [List.length_append]; exact this
  · exact (hA.H.kept hg hap).kept gs (by cases e : hv.ownBlock with | none => exact .inl rfl | some k => exact .inr (fun e2 => by injection e2 with e2; exact h.nh (by rw [e, e2])))
  · intro y hy
    rcases List.mem_append.1 hy with h1 | h1
    · exact h.okl y h1
    · rw [List.mem_singleton] at h1; subst h1; exact hx
theorem Lv.raised (h : Lv w0 w R B m c xs lv hv lg hs fa) (LA : Le w wA) {x : Flt} (hx : Enc.ok x) (O4 : w4.ownsRow R 84 5 v1 (hs.length + 1) ((hs ++ [x]).flatMap Enc.cells)) (hg : wA.grownBy w4 hv.ownBlock) (hbl : v1.ownBlock = hv.ownBlock ∨ v1.ownBlock = some wA.heap.size) :
    Lv w0 (w4.setCell ⟨R, 2, none⟩ v1) R B m c xs lv v1 lg (hs ++ [x]) fa := by
  have hA := h.le LA
  have hRl : some R ≠ hv.ownBlock := fun e => h.nh e.symm
  have hsz := hg.size
  have hcell : ∀ o v, wA.cell? ⟨R, o, none⟩ = some v → w4.cell? ⟨R, o, none⟩ = some v := fun o v hc => hg.cell (a := ⟨R, o, none⟩) hc (fun e => hRl e)
  have hfr : ∀ o, w4.frozen? ⟨R, o, none⟩ = wA.frozen? ⟨R, o, none⟩ := fun o => World.frozen?_of_block (a := ⟨R, o, none⟩) (hg.block R hA.z hRl)
  have hzz : (w4.setCell ⟨R, 2, none⟩ v1).heap.size = w4.heap.size := by simp [World.setCell]
  have gs := grown_set w4 R 2 v1
  have hap : lv.ownBlock = none ∨ lv.ownBlock ≠ hv.ownBlock := by
    cases e : lv.ownBlock with
    | none => exact .inl rfl
    | some k => exact .inr fun e2 => h.ap k e e2.symm
  have hlk : ∀ k, hv.ownBlock = some k → R ≤ k := fun k e => (h.H.lt k e).1
  have hvl : ∀ k, v1.ownBlock = some k → k ≠ R ∧ lv.ownBlock ≠ some k := fun k e => by
    rcases hbl with h1 | h1
    · exact ⟨fun e2 => h.nh (by rw [← h1, e, e2]), fun e2 => h.ap k e2 (h1 ▸ e)⟩
    · rw [h1] at e
      injection e with e
      have := hA.z
      exact ⟨by omega, fun e2 => by have := (hA.O.lt k e2).2; omega⟩
  have S4 := hA.S.grown hg (fun hn a e e2 => by have := h.hB hn a e; have := hlk _ e2.symm; omega)
  have G4 := hA.G.grown hg (fun k hk => Nat.le_trans h.h0 (hlk k hk))
  refine ⟨by rw [hzz]; exact Nat.lt_of_lt_of_le hA.z hsz, ?_, ?_, ?_, ?_, ?_, ?_, ?_, ?_, h.hB, ?_, ?_, fun k e e2 => (hvl k e2).2 e, h.okl, ?_, h.nl, fun e => (hvl R e).1 rfl, h.h0, G4.setCell h.h0 v1⟩
  · rw [cell_set_other (.inr (by decide))]; exact hcell 0 _ hA.c0
  · rw [cell_set_other (.inr (by decide))]; exact hcell 1 _ hA.c1
  · exact cell_set_same (hcell 2 _ hA.c2)
  · rw [cell_set_other (.inr (by decide))]; exact hcell 3 _ hA.c3
  · rw [fr_set, hfr]; exact hA.f1
  · rw [fr_set, hfr]; exact hA.f2
  · rw [fr_set, hfr]; exact hA.f3
  · exact S4.grown gs (fun hn a e e2 => by have := h.hB hn a e; have e3 : a.block = R := (by injection e2); omega)
  · exact (hA.O.kept hg hap).kept gs (by cases e : lv.ownBlock with | none => exact .inl rfl | some k => exact .inr (fun e2 => by injection e2 with e2; exact h.nl (by rw [e, e2])))
  · have := O4.kept gs (by cases e : v1.ownBlock with | none => exact .inl rfl | some k => exact .inr (fun e2 => by injection e2 with e2; have := (hvl k e).1; omega))
    rw [List.length_append]; exact this
  · intro y hy
    rcases List.mem_append.1 hy with h1 | h1
    · exact h.okh y h1
    · rw [List.mem_singleton] at h1; subst h1; exact hx
end
theorem both_of_wp {P : Program} {f : FuncId} {fn : Func} {cd : Code} {args : Array Value} {w : World} {Q : Ending → World → Prop}
    (hf : P.funcs[f]? = some fn) (hb : fn.body = some cd)
    (h : cd.wp P (bodyPost P fn Q) { tmps := args ++ Array.replicate (fn.ntmps - args.size) undef, defers := [] } w) : Calls P f args w Q ∧ ∀ u, CallsD P f args u w fun e u' w' => u' = u ∧ Q e w' :=
  ⟨calls_of_wp hf hb h, fun _ => callsD_of_wp hf hb h⟩
/-- a call that turns the leaver's memory: made, or deferred -/
def LvTo (w0 : World) (R : Nat) (B : Option Addr) (m c : Nat) (xs : List Cls) (f : FuncId) (a b : Int) (w : World) (lg : List Int) (hs : List Flt) (fa : Int) : Prop :=
  Calls Try.prog f #[.pointer (some ⟨R, 0, none⟩), .int .i64 a, .int .i64 b] w (fun e w' => e = .returned (.tuple #[]) ∧ ∃ lv' hv', Lv w0 w' R B m c xs lv' hv' lg hs fa) ∧
  ∀ u, CallsD Try.prog f #[.pointer (some ⟨R, 0, none⟩), .int .i64 a, .int .i64 b] u w (fun e u' w' => u' = u ∧ e = .returned (.tuple #[]) ∧ ∃ lv' hv', Lv w0 w' R B m c xs lv' hv' lg hs fa)
set_option maxHeartbeats 1000000 in
set_option maxRecDepth 100000 in
theorem tellAlways_any (w0 : World) (R m c : Nat) (B : Option Addr) (xs : List Cls) (lv hv : Value) (lg : List Int) (hs : List Flt) (fa x y : Int) (hx : Enc.ok x) (hl : lg.length ≤ 1000000) (w : World) (h : Lv w0 w R B m c xs lv hv lg hs fa) :
    LvTo w0 R B m c xs 87 x y w (lg ++ [x]) hs fa := by
  obtain ⟨i0, hq, hz0, hz1, hz2⟩ := info_parts infoIntR
  have c1 := h.c1
  have f1 := h.f1
  have hz := h.z
  obtain ⟨AL, cL, rfl⟩ := own_form h.O
  unfold LvTo
  refine both_of_wp Try.func87 rfl ?_
  simp only [Try.ntmps87, List.size_toArray, List.length_cons, List.length_nil, Nat.reduceAdd, Nat.reduceSub, Array.replicate_succ, Array.replicate_zero, List.push_toArray, List.append_toArray, List.nil_append, List.cons_append]
  go_wp2_with (at_builtin; refine wpList_append_sl rfl _ _ 30 rfl R 3 i0 _ 8 Try.underlying30 hq hz0 hz1 hz2 rfl _ lg.length lg rfl (h.O.alloc _) _ 1 1 [x] rfl (sl_one x rfl hx rfl) (by unfold maxLen; omega) (by omega) (Nat.le_trans (by omega) (Le.new w _).size) ?_; intro v1 w4 O4 hg4 hbl; obtain ⟨A1, k1, rfl⟩ := own_form O4; have HR := Lib.hid (h.told (Le.new w _) hx O4 hg4 hbl); have k2 := hg4.cell (a := ⟨R, 1, none⟩) (((Le.new w _).cell hz).trans c1) (fun e => h.nl e.symm); have k3 : w4.frozen? ⟨R, 1, none⟩ = false := (World.frozen?_of_block (a := ⟨R, 1, none⟩) (hg4.block R (Nat.lt_of_lt_of_le hz (Le.new w _).size) (fun e => h.nl e.symm))).trans (((Le.new w _).frozen hz).trans f1); clear O4 hg4 hbl)
  go_end0
  exact ⟨rfl, _, _, HR.out⟩
set_option maxHeartbeats 1000000 in
set_option maxRecDepth 100000 in
theorem tellFault_any (w0 : World) (R m c : Nat) (B : Option Addr) (xs : List Cls) (lv hv : Value) (lg : List Int) (hs : List Flt) (fa x y : Int) (hx : Enc.ok x) (hl : lg.length ≤ 1000000) (w : World) (h : Lv w0 w R B m c xs lv hv lg hs fa) :
    LvTo w0 R B m c xs 85 x y w (if 0 ≤ fa then lg ++ [x] else lg) hs fa := by
  obtain ⟨i0, hq, hz0, hz1, hz2⟩ := info_parts infoIntR
  have c1 := h.c1
  have c3 := h.c3
  have f1 := h.f1
  have hz := h.z
  obtain ⟨AL, cL, rfl⟩ := own_form h.O
  unfold LvTo
  by_cases h0 : 0 ≤ fa
  · rw [if_pos h0]
    refine both_of_wp Try.func85 rfl ?_
    simp only [Try.ntmps85, List.size_toArray, List.length_cons, List.length_nil, Nat.reduceAdd, Nat.reduceSub, Array.replicate_succ, Array.replicate_zero, List.push_toArray, List.append_toArray, List.nil_append, List.cons_append]
    go_wp2_with (at_builtin; refine wpList_append_sl rfl _ _ 30 rfl R 3 i0 _ 8 Try.underlying30 hq hz0 hz1 hz2 rfl _ lg.length lg rfl (h.O.alloc _) _ 1 1 [x] rfl (sl_one x rfl hx rfl) (by unfold maxLen; omega) (by omega) (Nat.le_trans (by omega) (Le.new w _).size) ?_; intro v1 w4 O4 hg4 hbl; obtain ⟨A1, k1, rfl⟩ := own_form O4; have HR := Lib.hid (h.told (Le.new w _) hx O4 hg4 hbl); have k2 := hg4.cell (a := ⟨R, 1, none⟩) (((Le.new w _).cell hz).trans c1) (fun e => h.nl e.symm); have k3 : w4.frozen? ⟨R, 1, none⟩ = false := (World.frozen?_of_block (a := ⟨R, 1, none⟩) (hg4.block R (Nat.lt_of_lt_of_le hz (Le.new w _).size) (fun e => h.nl e.symm))).trans (((Le.new w _).frozen hz).trans f1); clear O4 hg4 hbl)
    go_end0
    exact ⟨rfl, _, _, HR.out⟩
  · rw [if_neg h0]
    refine both_of_wp Try.func85 rfl ?_
    simp only [Try.ntmps85, List.size_toArray, List.length_cons, List.length_nil, Nat.reduceAdd, Nat.reduceSub, Array.replicate_succ, Array.replicate_zero, List.push_toArray, List.append_toArray, List.nil_append, List.cons_append]
    go_wp2
    go_end0
    exact ⟨rfl, _, _, h⟩
set_option maxHeartbeats 2000000 in
set_option maxRecDepth 100000 in
theorem putFault_any (w0 : World) (R m c : Nat) (B : Option Addr) (xs : List Cls) (lv hv : Value) (lg : List Int) (hs : List Flt) (fa cl k : Int) (hx : Enc.ok (⟨cl, k, -1, fa, false⟩ : Flt)) (hl : hs.length ≤ 1000000) (w : World) (H : Lv w0 w R B m c xs lv hv lg hs fa) :
    LvTo w0 R B m c xs 54 cl k w lg (hs ++ [⟨cl, k, -1, fa, false⟩]) hs.length := by
  obtain ⟨i0, hq, hz0, hz1, hz2⟩ := info_parts infoFltR
  have c2 := H.c2
  have c3 := H.c3
  have f2 := H.f2
  have f3 := H.f3
  have hz := H.z
  obtain ⟨AL, cL, rfl⟩ := own_form H.H
  unfold LvTo
  refine both_of_wp Try.func54 rfl ?_
  simp only [Try.ntmps54, List.size_toArray, List.length_cons, List.length_nil, Nat.reduceAdd, Nat.reduceSub, Array.replicate_succ, Array.replicate_zero, List.push_toArray, List.append_toArray, List.nil_append, List.cons_append]
  go_wp2_with fail
  have L1 := Le.new w (.cells #[.int .i64 cl, .int .i64 k, .int .i64 (-1), .int .i64 fa, .bool false] 84)
  have b0 : (w.alloc (.cells #[.int .i64 cl, .int .i64 k, .int .i64 (-1), .int .i64 fa, .bool false] 84)).drew.cell? ⟨w.heap.size, 0, none⟩ = some (.int .i64 cl) := by show (w.alloc _).cell? _ = _; rw [World.cell?_alloc_at _ _ _ _ rfl]; rfl
  have b1 : (w.alloc (.cells #[.int .i64 cl, .int .i64 k, .int .i64 (-1), .int .i64 fa, .bool false] 84)).drew.cell? ⟨w.heap.size, 1, none⟩ = some (.int .i64 k) := by show (w.alloc _).cell? _ = _; rw [World.cell?_alloc_at _ _ _ _ rfl]; rfl
  have b2 : (w.alloc (.cells #[.int .i64 cl, .int .i64 k, .int .i64 (-1), .int .i64 fa, .bool false] 84)).drew.cell? ⟨w.heap.size, 2, none⟩ = some (.int .i64 (-1)) := by show (w.alloc _).cell? _ = _; rw [World.cell?_alloc_at _ _ _ _ rfl]; rfl
  have b3 : (w.alloc (.cells #[.int .i64 cl, .int .i64 k, .int .i64 (-1), .int .i64 fa, .bool false] 84)).drew.cell? ⟨w.heap.size, 3, none⟩ = some (.int .i64 fa) := by show (w.alloc _).cell? _ = _; rw [World.cell?_alloc_at _ _ _ _ rfl]; rfl
  have b4 : (w.alloc (.cells #[.int .i64 cl, .int .i64 k, .int .i64 (-1), .int .i64 fa, .bool false] 84)).drew.cell? ⟨w.heap.size, 4, none⟩ = some (.bool false) := by show (w.alloc _).cell? _ = _; rw [World.cell?_alloc_at _ _ _ _ rfl]; rfl
  have zb : w.heap.size < (w.alloc (.cells #[.int .i64 cl, .int .i64 k, .int .i64 (-1), .int .i64 fa, .bool false] 84)).drew.heap.size := by show _ < (w.alloc _).heap.size; simp
  have LD := L1.drew
  refine wp_region_noPanic ?_
  refine wp_region_Z (fun w' => w'.cell? ⟨R, 2, none⟩ = some (.slice AL hs.length cL) ∧ w'.cell? ⟨w.heap.size, 0, none⟩ = some (.int .i64 cl) ∧ w'.cell? ⟨w.heap.size, 1, none⟩ = some (.int .i64 k) ∧ w'.cell? ⟨w.heap.size, 2, none⟩ = some (.int .i64 (-1)) ∧ w'.cell? ⟨w.heap.size, 3, none⟩ = some (.int .i64 fa) ∧ w'.cell? ⟨w.heap.size, 4, none⟩ = some (.bool false)) [12] (by kernel_rfl) ?_
  generalize (w.alloc (.cells #[.int .i64 cl, .int .i64 k, .int .i64 (-1), .int .i64 fa, .bool false] 84)).drew = W at *
  have d3 := (LD.cell hz).trans c2
  have g3 := (LD.frozen hz).trans f2
  have OW := (H.le LD).H
  have hzW := (H.le LD).z
  have LN := Le.new W (.cells #[.int .i64 cl, .int .i64 k, .int .i64 (-1), .int .i64 fa, .bool false] 84)
  have HZ := Lib.hid zb
  refine wpAnyZ_take (i := 0) (v := ?_) rfl (by kernel_rfl) (fun _ _ _ h => h) (Or.inl ⟨by rfl, ?_⟩) (⟨d3, b0, b1, b2, b3, b4⟩) ?_
  rotate_left 1
  · (intro w hSw; (try dsimp only at hSw); go_simp; try with_reducible rfl)
  try simp only [Act.put, List.setIfInBounds_toArray, List.set_cons_zero, List.set_cons_succ]
  refine wpAnyZ_take (i := 1) (v := ?_) rfl (by kernel_rfl) (fun _ _ _ h => h) (Or.inl ⟨by rfl, ?_⟩) (⟨d3, b0, b1, b2, b3, b4⟩) ?_
  rotate_left 1
  · (intro w hSw; (try dsimp only at hSw); go_simp; try with_reducible rfl)
  try simp only [Act.put, List.setIfInBounds_toArray, List.set_cons_zero, List.set_cons_succ]
  refine wpAnyZ_take (i := 2) (v := ?_) rfl (by kernel_rfl) (fun _ _ _ h => h) (Or.inl ⟨by rfl, ?_⟩) (⟨d3, b0, b1, b2, b3, b4⟩) ?_
  rotate_left 1
  · (intro w hSw; (try dsimp only at hSw); go_simp; try with_reducible rfl)
  try simp only [Act.put, List.setIfInBounds_toArray, List.set_cons_zero, List.set_cons_succ]
  refine wpAnyZ_take (i := 3) (v := ?_) rfl (by kernel_rfl) (fun _ _ _ h => h) (Or.inl ⟨by rfl, ?_⟩) (⟨d3, b0, b1, b2, b3, b4⟩) ?_
  rotate_left 1
  · (intro w hSw; (try dsimp only at hSw); go_simp; try with_reducible rfl)
  try simp only [Act.put, List.setIfInBounds_toArray, List.set_cons_zero, List.set_cons_succ]
  refine wpAnyZ_take (i := 4) (v := ?_) rfl (by kernel_rfl) (fun _ _ _ h => h) (Or.inl ⟨by rfl, ?_⟩) (⟨d3, b0, b1, b2, b3, b4⟩) ?_
  rotate_left 1
  · (intro w hSw; (try dsimp only at hSw); go_simp; try with_reducible rfl)
  try simp only [Act.put, List.setIfInBounds_toArray, List.set_cons_zero, List.set_cons_succ]
  refine wpAnyZ_take (i := 5) (v := ?_) rfl (by kernel_rfl) (fun _ _ _ h => h) (Or.inl ⟨by rfl, ?_⟩) (⟨d3, b0, b1, b2, b3, b4⟩) ?_
  rotate_left 1
  · (intro w hSw; (try dsimp only at hSw); go_simp; try with_reducible rfl)
  try simp only [Act.put, List.setIfInBounds_toArray, List.set_cons_zero, List.set_cons_succ]
  refine wpAnyZ_take (i := 6) (v := ?_) rfl (by kernel_rfl) (fun _ _ _ h => h) (Or.inl ⟨by rfl, ?_⟩) (⟨d3, b0, b1, b2, b3, b4⟩) ?_
  rotate_left 1
  · (intro w hSw; (try dsimp only at hSw); go_simp; try with_reducible rfl)
  try simp only [Act.put, List.setIfInBounds_toArray, List.set_cons_zero, List.set_cons_succ]
  refine wpAnyZ_one (i := 7) (by kernel_rfl) (ReadyZ.mk rfl (fun K hK => ?_))
  go_simp
  have e0 := (LN.cell zb).trans b0
  have e1 := (LN.cell zb).trans b1
  have e2 := (LN.cell zb).trans b2
  have e3 := (LN.cell zb).trans b3
  have e4 := (LN.cell zb).trans b4
  refine hK.out _ _ (fun _ => ⟨(LN.cell hzW).trans d3, e0, e1, e2, e3, e4⟩) ?_
  clear hK K
  try simp only [Act.put, List.setIfInBounds_toArray, List.set_cons_zero, List.set_cons_succ]
  refine wpAnyZ_one (i := 8) (by kernel_rfl) (ReadyZ.mk rfl (fun K hK => ?_))
  refine step_append_sl rfl (.tmp 19) (.tmp 21) 31 rfl R 84 i0 _ 40 Try.underlying31 hq hz0 hz1 hz2 rfl (.slice AL hs.length cL) hs.length hs rfl (OW.alloc _) _ 1 1 [(⟨cl, k, -1, fa, false⟩ : Flt)] rfl (sl_one _ rfl hx rfl) (by unfold maxLen; omega) (by omega) (Nat.le_trans (by omega) LN.size) ?_
  intro v1 w4 O4 hg4 hbl
  have HR := Lib.hid (H.raised (LD.trans LN) hx O4 hg4 hbl)
  have hneR : some R ≠ (Value.slice AL hs.length cL).ownBlock := fun e => H.nh e.symm
  have hneb : some w.heap.size ≠ (Value.slice AL hs.length cL).ownBlock := fun e => by have := (H.H.lt _ e.symm).2; omega
  have k2 := hg4.cell (a := ⟨R, 2, none⟩) ((LN.cell hzW).trans d3) hneR
  have k3 : w4.frozen? ⟨R, 2, none⟩ = false := (World.frozen?_of_block (a := ⟨R, 2, none⟩) (hg4.block R (Nat.lt_of_lt_of_le hzW LN.size) hneR)).trans ((LN.frozen hzW).trans g3)
  obtain ⟨A1, q1, rfl⟩ := own_form O4
  refine hK.out _ _ (fun _ => ⟨k2, hg4.cell (a := ⟨w.heap.size, 0, none⟩) e0 hneb, hg4.cell (a := ⟨w.heap.size, 1, none⟩) e1 hneb, hg4.cell (a := ⟨w.heap.size, 2, none⟩) e2 hneb, hg4.cell (a := ⟨w.heap.size, 3, none⟩) e3 hneb, hg4.cell (a := ⟨w.heap.size, 4, none⟩) e4 hneb⟩) ?_
  clear hK K
  try simp only [Act.put, List.setIfInBounds_toArray, List.set_cons_zero, List.set_cons_succ]
  refine wpAnyZ_take (i := 9) (v := ?_) rfl (by kernel_rfl) (fun _ _ _ h => h) (Or.inl ⟨by rfl, ?_⟩) (⟨k2, hg4.cell (a := ⟨w.heap.size, 0, none⟩) e0 hneb, hg4.cell (a := ⟨w.heap.size, 1, none⟩) e1 hneb, hg4.cell (a := ⟨w.heap.size, 2, none⟩) e2 hneb, hg4.cell (a := ⟨w.heap.size, 3, none⟩) e3 hneb, hg4.cell (a := ⟨w.heap.size, 4, none⟩) e4 hneb⟩) ?_
  rotate_left 1
  · (intro w hSw; (try dsimp only at hSw); go_simp; try with_reducible rfl)
  try simp only [Act.put, List.setIfInBounds_toArray, List.set_cons_zero, List.set_cons_succ]
  refine wpAnyZ_take (i := 10) (v := ?_) rfl (by kernel_rfl) (fun _ _ _ h => h) (Or.inl ⟨by rfl, ?_⟩) (⟨k2, hg4.cell (a := ⟨w.heap.size, 0, none⟩) e0 hneb, hg4.cell (a := ⟨w.heap.size, 1, none⟩) e1 hneb, hg4.cell (a := ⟨w.heap.size, 2, none⟩) e2 hneb, hg4.cell (a := ⟨w.heap.size, 3, none⟩) e3 hneb, hg4.cell (a := ⟨w.heap.size, 4, none⟩) e4 hneb⟩) ?_
  rotate_left 1
  · (intro w hSw; (try dsimp only at hSw); go_simp; try with_reducible rfl)
  try simp only [Act.put, List.setIfInBounds_toArray, List.set_cons_zero, List.set_cons_succ]
  refine wpAnyZ_take (i := 11) (v := ?_) rfl (by kernel_rfl) (fun _ _ _ h => h) (Or.inl ⟨by rfl, ?_⟩) (⟨k2, hg4.cell (a := ⟨w.heap.size, 0, none⟩) e0 hneb, hg4.cell (a := ⟨w.heap.size, 1, none⟩) e1 hneb, hg4.cell (a := ⟨w.heap.size, 2, none⟩) e2 hneb, hg4.cell (a := ⟨w.heap.size, 3, none⟩) e3 hneb, hg4.cell (a := ⟨w.heap.size, 4, none⟩) e4 hneb⟩) ?_
  rotate_left 1
  · (intro w hSw; (try dsimp only at hSw); go_simp; try with_reducible rfl)
  try simp only [Act.put, List.setIfInBounds_toArray, List.set_cons_zero, List.set_cons_succ]
  clear O4 hg4 hbl e0 e1 e2 e3 e4 b0 b1 b2 b3 b4 d3 OW LN c3 H
  refine wpAnyZ_one (i := 12) (by kernel_rfl) (ReadyZ.mk rfl (fun K hK => ?_))
  go_simp
  refine hK.out _ _ (fun h => absurd h (by decide)) ?_
  clear hK K
  try simp only [Act.put, List.setIfInBounds_toArray, List.set_cons_zero, List.set_cons_succ]
  refine wpAnyZ_done (by kernel_rfl) ?_ _
  refine NoPanic.normal ?_
  have LZ := HR.out
  clear HR
  have k4 := LZ.c2
  have k5 := LZ.c3
  have k6 := LZ.f3
  have hw : IntKind.i64.wrap (((hs.length + 1 : Nat) : Int) - 1) = (hs.length : Int) := by
    have e : ((hs.length + 1 : Nat) : Int) - 1 = (hs.length : Int) := by omega
    rw [e]
    exact IntWalk.i64_in _ (by omega)
  have LF := Lib.hid (LZ.setF (hs.length : Int))
  clear k2 k3 LZ
  go_wp2
  go_end0
  exact ⟨rfl, _, _, LF.out⟩
end

section
def flC (hs : List Flt) (fa : Int) : Int := match hs[fa.toNat]? with | some x => x.cls | none => 0
theorem flC_at {hs : List Flt} {k : Nat} (h : k < hs.length) : flC hs (k : Int) = hs[k].cls := by
  unfold flC; rw [show ((k : Int)).toNat = k from rfl, List.getElem?_eq_getElem h]
def tkX (xs : List Cls) (hs : List Flt) (fa a : Int) : Int := if 0 ≤ fa then (if isAx xs (flC hs fa) a = true then -1 else fa) else fa
set_option maxHeartbeats 2000000 in
set_option maxRecDepth 100000 in
theorem takeFault_any (w0 : World) (R m c : Nat) (B : Option Addr) (xs : List Cls) (lv hv : Value) (lg : List Int) (hs : List Flt) (fa x y : Int) (hf : fa < hs.length) (w : World) (h : Lv w0 w R B m c xs lv hv lg hs fa) :
    LvTo w0 R B m c xs 86 x y w lg hs (tkX xs hs fa x) := by
  have c0 := h.c0
  have c2 := h.c2
  have c3 := h.c3
  have hz := h.z
  unfold LvTo
  by_cases h0 : 0 ≤ fa
  · obtain ⟨k, rfl⟩ : ∃ k : Nat, fa = (k : Int) := ⟨fa.toNat, by omega⟩
    have hk : k < hs.length := by omega
    obtain ⟨AH, cH, rfl⟩ := own_form h.H
    have SH : Sl w AH hs.length cH hs := Sl.of_own h.H rfl (by decide) h.okh
    obtain ⟨b, off, rfl, hb, d0, -⟩ := SH.flt_at hk
    have hax : tkX xs hs (k : Int) x = if isAx xs hs[k].cls x = true then -1 else (k : Int) := by unfold tkX; rw [if_pos h0, flC_at hk]
    rw [hax]
    clear hax SH
    generalize hs[k].cls = vc at *
    have q0 : decide ((0 : Int) ≤ (k : Int)) = true := decide_eq_true h0
    have hkn : (k : Int) < (hs.length : Int) := by omega
    have S := h.S
    have E0 := cell_ext hz c0
    have E2 := cell_ext hz c2
    have E3 := cell_ext hz c3
    have Ed := cell_ext hb d0
    have hca : ∀ (g : Ext w) (_ : True), Calls Try.prog 88 #[.agg #[.slice B m c], .int .i64 vc, .int .i64 x] (w.ext g) fun e w' => e = .returned (.bool (isAx xs vc x)) ∧ Le (w.ext g) w' := fun g _ => iIsA_any B m c xs vc x _ (S.le (Le.ext w g))
    generalize isAx xs vc x = q1 at *
    cases q1
    · rw [if_neg (by simp)]
      refine both_of_wp Try.func86 rfl ?_
      simp only [Try.ntmps86, List.size_toArray, List.length_cons, List.length_nil, Nat.reduceAdd, Nat.reduceSub, Array.replicate_succ, Array.replicate_zero, List.push_toArray, List.append_toArray, List.nil_append, List.cons_append]
      go_wp2_with fail
      refine wp_region_ext (by kernel_rfl) (by kernel_rfl) ?_
      repeat (go_big_quiet_step (first | (go_at_call 88; with_reducible exact Calls.ext_of (hca _ trivial))))
      refine wpQuiet_nil ?_
      intro _ hw'
      obtain ⟨gg, rfl⟩ := hw'
      have LZ := h.le (Le.ext w gg)
      go_wp2
      go_end0
      exact ⟨rfl, _, _, LZ⟩
    · rw [if_pos rfl]
      refine both_of_wp Try.func86 rfl ?_
      simp only [Try.ntmps86, List.size_toArray, List.length_cons, List.length_nil, Nat.reduceAdd, Nat.reduceSub, Array.replicate_succ, Array.replicate_zero, List.push_toArray, List.append_toArray, List.nil_append, List.cons_append]
      go_wp2_with fail
      refine wp_region_ext (by kernel_rfl) (by kernel_rfl) ?_
      repeat (go_big_quiet_step (first | (go_at_call 88; with_reducible exact Calls.ext_of (hca _ trivial))))
      refine wpQuiet_nil ?_
      intro _ hw'
      obtain ⟨gg, rfl⟩ := hw'
      have LZ := h.le (Le.ext w gg)
      generalize w.ext gg = W2 at *
      have k3 := LZ.c3
      have kf := LZ.f3
      have LF := Lib.hid (LZ.setF (-1))
      clear LZ c0 c2 c3 d0 E0 E2 E3 Ed
      go_wp2
      go_end0
      exact ⟨rfl, _, _, LF.out⟩
  · have hax : tkX xs hs fa x = fa := by unfold tkX; rw [if_neg h0]
    rw [hax]
    have q0 : decide ((0 : Int) ≤ fa) = false := decide_eq_false h0
    have E3 := cell_ext hz c3
    refine both_of_wp Try.func86 rfl ?_
    simp only [Try.ntmps86, List.size_toArray, List.length_cons, List.length_nil, Nat.reduceAdd, Nat.reduceSub, Array.replicate_succ, Array.replicate_zero, List.push_toArray, List.append_toArray, List.nil_append, List.cons_append]
    go_wp2_with fail
    refine wp_region_ext (by kernel_rfl) (by kernel_rfl) ?_
    repeat (go_big_quiet_step (fail))
    refine wpQuiet_nil ?_
    intro _ hw'
    obtain ⟨gg, rfl⟩ := hw'
    have LZ := h.le (Le.ext w gg)
    go_wp2
    go_end0
    exact ⟨rfl, _, _, LZ⟩
end
end Go.Proofs.Ytacilbglnhgifaa
