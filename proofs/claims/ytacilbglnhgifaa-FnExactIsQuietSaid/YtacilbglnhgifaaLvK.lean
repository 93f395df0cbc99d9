/- exits: the memory of the model's closing -/
import Derived.Test.YtacilbglnhgifaaLvD
import Derived.Test.YtacilbglnhgifaaLvJ
import Derived.Test.YtacilbglnhgifaaPxA
namespace Go.Proofs.Ytacilbglnhgifaa
open Go.RowKit
/-- the memory of a closing: its block, what it has told, its faults, the fault that there is; all of it newer than the world w0 -/
structure Cv (w0 w : World) (C : Nat) (lv hv : Value) (lg : List Int) (hs : List Flt) (fa : Int) : Prop where
  b : B3 w C lv hv (.int .i64 fa)
  O : w.ownsRow w0.heap.size 3 1 lv lg.length (lg.flatMap Enc.cells)
  H : w.ownsRow w0.heap.size 84 5 hv hs.length (hs.flatMap Enc.cells)
  ap : ∀ k, lv.ownBlock = some k → hv.ownBlock ≠ some k
  okl : ∀ x ∈ lg, Enc.ok x
  okh : ∀ x ∈ hs, Enc.ok x
  nl : lv.ownBlock ≠ some C
  nh : hv.ownBlock ≠ some C
  h0 : w0.heap.size ≤ C
  G : Le w0 w
section
variable {w0 w w' wA w4 : World} {C : Nat} {lv hv v1 : Value} {lg : List Int} {hs : List Flt} {fa : Int}
theorem Cv.le (h : Cv w0 w C lv hv lg hs fa) (hl : Le w w') : Cv w0 w' C lv hv lg hs fa :=
  ⟨h.b.le hl, own_le h.O hl, own_le h.H hl, h.ap, h.okl, h.okh, h.nl, h.nh, h.h0, h.G.trans hl⟩
theorem kept_set {w : World} {base size n : Nat} {T : TypeId} {v : Value} {xs : List Value} {C : Nat} (h : w.ownsRow base T size v n xs) (hn : v.ownBlock ≠ some C) (o : Nat) (u : Value) : (w.setCell ⟨C, o, none⟩ u).ownsRow base T size v n xs :=
  h.kept (grown_set w C o u) (by cases e : v.ownBlock with | none => exact .inl rfl | some k => exact .inr (fun e2 => by injection e2 with e2; exact hn (by rw [e, e2])))
theorem Cv.setF (h : Cv w0 w C lv hv lg hs fa) (f : Int) : Cv w0 (w.setCell ⟨C, 2, none⟩ (.int .i64 f)) C lv hv lg hs f :=
  ⟨h.b.set2 _, kept_set h.O h.nl _ _, kept_set h.H h.nh _ _, h.ap, h.okl, h.okh, h.nl, h.nh, h.h0, h.G.setCell h.h0 _⟩
theorem Cv.told (h : Cv w0 w C lv hv lg hs fa) (LA : Le w wA) {x : Int} (hx : Enc.ok x) (O4 : w4.ownsRow w0.heap.size 3 1 v1 (lg.length + 1) ((lg ++ [x]).flatMap Enc.cells)) (hg : wA.grownBy w4 lv.ownBlock) (hbl : v1.ownBlock = lv.ownBlock ∨ v1.ownBlock = some wA.heap.size) :
    Cv w0 (w4.setCell ⟨C, 0, none⟩ v1) C v1 hv (lg ++ [x]) hs fa := by
  have hA := h.le LA
  have hz := hA.b.lt
  have hRl : some C ≠ lv.ownBlock := fun e => h.nl e.symm
  have hsz := hg.size
  have hcell : ∀ o v, wA.cell? ⟨C, o, none⟩ = some v → w4.cell? ⟨C, o, none⟩ = some v := fun o v hc => hg.cell (a := ⟨C, o, none⟩) hc (fun e => hRl e)
  have hfr : ∀ o, w4.frozen? ⟨C, o, none⟩ = wA.frozen? ⟨C, o, none⟩ := fun o => World.frozen?_of_block (a := ⟨C, o, none⟩) (hg.block C hz hRl)
  have hap : hv.ownBlock = none ∨ hv.ownBlock ≠ lv.ownBlock := by
    cases e : hv.ownBlock with
    | none => exact .inl rfl
    | some k => exact .inr fun e2 => h.ap k e2.symm e
  have hvl : ∀ k, v1.ownBlock = some k → k ≠ C ∧ hv.ownBlock ≠ some k := fun k e => by
    rcases hbl with h1 | h1
    · exact ⟨fun e2 => h.nl (by rw [← h1, e, e2]), h.ap k (h1 ▸ e)⟩
    · rw [h1] at e
      injection e with e
      exact ⟨by omega, fun e2 => by have := (hA.H.lt k e2).2; omega⟩
  have B4 : B3 w4 C lv hv (.int .i64 fa) := ⟨Nat.lt_of_lt_of_le hz hsz, hcell _ _ hA.b.c0, hcell _ _ hA.b.c1, hcell _ _ hA.b.c2, fun o => (hfr o).trans (hA.b.f o)⟩
  refine ⟨B4.set0 v1, ?_, kept_set (hA.H.kept hg hap) h.nh _ _, fun k e => (hvl k e).2, ?_, h.okh, fun e => (hvl C e).1 rfl, h.nh, h.h0, (hA.G.grown hg (fun k hk => (h.O.lt k hk).1)).setCell h.h0 v1⟩
  · rw [List.length_append]
    exact kept_set O4 (fun e => (hvl C e).1 rfl) _ _
  · intro y hy
    rcases List.mem_append.1 hy with h1 | h1
    · exact h.okl y h1
    · rw [List.mem_singleton] at h1; subst h1; exact hx
theorem Cv.put (h : Cv w0 w C lv hv lg hs fa) (LA : Le w wA) {hs2 : List Flt} (D : Owd 84 w wA v1 hs2) (f : Int) :
    Cv w0 (((wA.setCell ⟨C, 0, none⟩ lv).setCell ⟨C, 1, none⟩ v1).setCell ⟨C, 2, none⟩ (.int .i64 f)) C lv v1 lg hs2 f := by
  have hA := h.le LA
  have hz := h.b.lt
  have hv1 : ∀ k, v1.ownBlock = some k → w.heap.size ≤ k := fun k e => (D.row.lt k e).1
  have n1 : v1.ownBlock ≠ some C := fun e => by have := hv1 _ e; omega
  refine ⟨((hA.b.set0 lv).set1 v1).set2 _, kept_set (kept_set (kept_set hA.O h.nl _ _) h.nl _ _) h.nl _ _, ?_, fun k e e2 => ?_, h.okl, D.ok, h.nl, n1, h.h0, ((hA.G.setCell h.h0 _).setCell h.h0 _).setCell h.h0 _⟩
  · exact own_mono (kept_set (kept_set (kept_set D.row n1 _ _) n1 _ _) n1 _ _) h.G.size
  · have h1 := (h.O.lt k e).2
    have h2 := hv1 k e2
    omega
theorem Cv.fresh (w0 : World) (U : TypeId) : Cv w0 ((w0.alloc (.cells #[] 3)).alloc (.cells #[.slice (some ⟨w0.heap.size, 0, none⟩) 0 0, .slice none 0 0, .int .i64 (-1)] U)) (w0.heap.size + 1) (.slice (some ⟨w0.heap.size, 0, none⟩) 0 0) (.slice none 0 0) [] [] (-1) := by
  have B := B3.new (w0.alloc (.cells #[] 3)) (.slice (some ⟨w0.heap.size, 0, none⟩) 0 0) (.slice none 0 0) (.int .i64 (-1)) U
  have e : (w0.alloc (.cells #[] 3)).heap.size = w0.heap.size + 1 := by simp
  rw [e] at B
  refine ⟨B, ?_, World.ownsRow_nil _ _ _ _, fun k _ e2 => by simp [Value.ownBlock] at e2, (fun _ h => nomatch h), (fun _ h => nomatch h), ?_, by simp [Value.ownBlock], Nat.le_succ _, (Le.new w0 _).trans (Le.new _ _)⟩
  · exact own_le (own_empty (Nat.le_refl _) rfl) (Le.new _ _)
  · simp [Value.ownBlock]
end
/-- a block of four cells -/
structure B4 (W : World) (b : Nat) (x y z v : Value) : Prop where
  lt : b < W.heap.size
  c0 : W.cell? ⟨b, 0, none⟩ = some x
  c1 : W.cell? ⟨b, 1, none⟩ = some y
  c2 : W.cell? ⟨b, 2, none⟩ = some z
  c3 : W.cell? ⟨b, 3, none⟩ = some v
  f : ∀ o, W.frozen? ⟨b, o, none⟩ = false
section
variable {W W' : World} {b g : Nat} {x y z v : Value}
theorem B4.new (w : World) (x y z v : Value) (T : TypeId) : B4 (w.alloc (.cells #[x, y, z, v] T)) w.heap.size x y z v := by
  refine ⟨by simp, ?_, ?_, ?_, ?_, fun o => World.frozen?_alloc_at _ _ _ _ rfl⟩ <;> (rw [World.cell?_alloc_at _ _ _ _ rfl]; rfl)
theorem B4.le (h : B4 W b x y z v) (l : Le W W') : B4 W' b x y z v :=
  ⟨Nat.lt_of_lt_of_le h.lt l.size, (l.cell h.lt).trans h.c0, (l.cell h.lt).trans h.c1, (l.cell h.lt).trans h.c2, (l.cell h.lt).trans h.c3, fun o => (l.frozen h.lt).trans (h.f o)⟩
theorem B4.far (h : B4 W b x y z v) (hn : g ≠ b) (o : Nat) (u : Value) : B4 (W.setCell ⟨g, o, none⟩ u) b x y z v :=
  ⟨by simpa [World.setCell] using h.lt, (cell_set_other (.inl hn)).trans h.c0, (cell_set_other (.inl hn)).trans h.c1, (cell_set_other (.inl hn)).trans h.c2, (cell_set_other (.inl hn)).trans h.c3, fun k => (frz3 _ _ _ _ _ _).trans (h.f k)⟩
theorem B4.set0 (h : B4 W b x y z v) (u : Value) : B4 (W.setCell ⟨b, 0, none⟩ u) b u y z v :=
  ⟨by simpa [World.setCell] using h.lt, cell_set_same h.c0, (cell_set_other (.inr (by decide))).trans h.c1, (cell_set_other (.inr (by decide))).trans h.c2, (cell_set_other (.inr (by decide))).trans h.c3, fun k => (frz3 _ _ _ _ _ _).trans (h.f k)⟩
theorem B4.set1 (h : B4 W b x y z v) (u : Value) : B4 (W.setCell ⟨b, 1, none⟩ u) b x u z v :=
  ⟨by simpa [World.setCell] using h.lt, (cell_set_other (.inr (by decide))).trans h.c0, cell_set_same h.c1, (cell_set_other (.inr (by decide))).trans h.c2, (cell_set_other (.inr (by decide))).trans h.c3, fun k => (frz3 _ _ _ _ _ _).trans (h.f k)⟩
theorem B4.set2 (h : B4 W b x y z v) (u : Value) : B4 (W.setCell ⟨b, 2, none⟩ u) b x y u v :=
  ⟨by simpa [World.setCell] using h.lt, (cell_set_other (.inr (by decide))).trans h.c0, (cell_set_other (.inr (by decide))).trans h.c1, cell_set_same h.c2, (cell_set_other (.inr (by decide))).trans h.c3, fun k => (frz3 _ _ _ _ _ _).trans (h.f k)⟩
theorem B4.set3 (h : B4 W b x y z v) (u : Value) : B4 (W.setCell ⟨b, 3, none⟩ u) b x y z u :=
  ⟨by simpa [World.setCell] using h.lt, (cell_set_other (.inr (by decide))).trans h.c0, (cell_set_other (.inr (by decide))).trans h.c1, (cell_set_other (.inr (by decide))).trans h.c2, cell_set_same h.c3, fun k => (frz3 _ _ _ _ _ _).trans (h.f k)⟩
/-- all four cells of a block are written anew: what is kept, and what is in it -/
theorem B4.all (h : B4 W b x y z v) (x' y' z' v' : Value) : B4 ((((W.setCell ⟨b, 0, none⟩ x').setCell ⟨b, 1, none⟩ y').setCell ⟨b, 2, none⟩ z').setCell ⟨b, 3, none⟩ v') b x' y' z' v' := (((h.set0 x').set1 y').set2 z').set3 v'
theorem row_all {base size n : Nat} {T : TypeId} {u : Value} {xs : List Value} (h : W.ownsRow base T size u n xs) (hn : u.ownBlock ≠ some b) (x' y' z' v' : Value) : ((((W.setCell ⟨b, 0, none⟩ x').setCell ⟨b, 1, none⟩ y').setCell ⟨b, 2, none⟩ z').setCell ⟨b, 3, none⟩ v').ownsRow base T size u n xs :=
  kept_set (kept_set (kept_set (kept_set h hn _ _) hn _ _) hn _ _) hn _ _
end
end Go.Proofs.Ytacilbglnhgifaa
