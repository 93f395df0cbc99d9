/- one text of K, L, KB, AP, TyLine, TyFault, P, RnB, PC, A -/
import Derived.Test.YtlepgfccnfcagaaRows
import Derived.WalkKit
import Derived.Lib.Hide
import Derived.Deep.Draws
import Derived.Deep.QuietTactic
import Derived.BigQuiet
import Derived.Maps.AppendAt
import Derived.Deep.AppendLies
import Derived.RegionTactic
import Derived.OwnWalk
import Derived.Defers
import Derived.Recover
import Derived.Stop.IfaceNil
import Derived.WalkSmall
namespace Go.Proofs.Ytlepgfccnfcagaa
open Go.RowKit
set_option linter.unusedVariables false
section
/-- w' is w and more: nothing that was there has turned. -/
def Le (w w' : World) : Prop := Below w.heap.size w w'
theorem Le.refl (w : World) : Le w w := Below.refl _ _
theorem Le.trans {a b c : World} (h : Le a b) (k : Le b c) : Le a c := Below.trans h (Below.mono k h.size)
theorem Le.alloc {a w : World} (h : Le a w) (o : Obj) : Le a (w.alloc o) := Below.alloc h h.size o
theorem Le.drew {a w : World} (h : Le a w) : Le a w.drew := Below.drew h
theorem Le.drewN {a w : World} (h : Le a w) (n : Nat) : Le a (w.drewN n) := Below.trans h ⟨rfl, rfl, rfl, Nat.le_refl _, fun _ _ => rfl⟩
theorem Le.setCell {a w : World} (h : Le a w) {b o : Nat} (hb : a.heap.size ≤ b) (u : Value) : Le a (w.setCell ⟨b, o, none⟩ u) := Below.setCell h (p := ⟨b, o, none⟩) hb u
theorem Le.cell {w w' : World} (h : Le w w') {b o : Nat} (hb : b < w.heap.size) : w'.cell? ⟨b, o, none⟩ = w.cell? ⟨b, o, none⟩ := Below.cell h (p := ⟨b, o, none⟩) hb
theorem Le.frozen {w w' : World} (h : Le w w') {b o : Nat} (hb : b < w.heap.size) : w'.frozen? ⟨b, o, none⟩ = w.frozen? ⟨b, o, none⟩ := Below.frozen h (p := ⟨b, o, none⟩) hb
theorem Le.new (w : World) (o : Obj) : Le w (w.alloc o) := (Le.refl w).alloc o
theorem Le.grown {a w w' : World} (h : Le a w) {row : Option Nat} (hg : w.grownBy w' row) (hr : ∀ k, row = some k → a.heap.size ≤ k) : Le a w' := Below.grown h hg h.size hr

theorem ret_bool {a b : Bool} (h : a = b) : Ending.returned (.bool a) = .returned (.bool b) := by rw [h]
theorem ret_int {a b : Int} (h : a = b) : Ending.returned (.int .i64 a) = .returned (.int .i64 b) := by rw [h]
theorem ret_str {a b : ByteArray} (h : a = b) : Ending.returned (.string a) = .returned (.string b) := by rw [h]

/-- How a value of the type lies in memory: so many cells; what its numbers and texts keep to. -/
class Enc (α : Type) where
  size : Nat
  cells : α → List Value
  ok : α → Prop
  len : ∀ x, (cells x).length = size

theorem flat_at {α : Type} [Enc α] (xs : List α) : ∀ (k : Nat) (hk : k < xs.length) (j : Nat), j < Enc.size α → (xs.flatMap Enc.cells)[k * Enc.size α + j]? = (Enc.cells xs[k])[j]? := by
  induction xs with
  | nil => intro k hk; simp at hk
  | cons x r ih =>
    intro k hk j hj
    rw [List.flatMap_cons]
    cases k with
    | zero => rw [List.getElem?_append_left (by rw [Enc.len]; omega)]; simp
    | succ k =>
      rw [List.getElem?_append_right (by rw [Enc.len, Nat.succ_mul]; omega), Enc.len]
      have e : (k + 1) * Enc.size α + j - Enc.size α = k * Enc.size α + j := by rw [Nat.succ_mul]; omega
      rw [e, ih k (by simpa using hk) j hj]; rfl
theorem flat_len {α : Type} [Enc α] (xs : List α) : (xs.flatMap Enc.cells).length = xs.length * Enc.size α := by
  induction xs with
  | nil => simp
  | cons x r ih => rw [List.flatMap_cons, List.length_append, ih, Enc.len, List.length_cons, Nat.succ_mul]; omega

/-- The slice .slice A n cap reads as the list xs. -/
structure Sl {α : Type} [Enc α] (w : World) (A : Option Addr) (n cap : Nat) (xs : List α) : Prop where
  len : xs.length = n
  cap_ : n ≤ cap
  max : cap ≤ 9223372036854775807
  ok : ∀ x ∈ xs, Enc.ok x
  at_ : 0 < n → ∃ b off, A = some ⟨b, off, none⟩ ∧ b < w.heap.size ∧ ∀ j u, (xs.flatMap Enc.cells)[j]? = some u → w.cell? ⟨b, off + j, none⟩ = some u

section
variable {α : Type} [Enc α] {w w' : World} {A : Option Addr} {n cap : Nat} {xs : List α}
theorem Sl.nil (w : World) (A : Option Addr) (cap : Nat) (h : cap ≤ 9223372036854775807) : Sl w A 0 cap ([] : List α) := ⟨rfl, Nat.zero_le _, h, (fun _ h => nomatch h), fun h => absurd h (by omega)⟩
theorem Sl.n_le (h : Sl w A n cap xs) : n ≤ 9223372036854775807 := Nat.le_trans h.cap_ h.max
theorem Sl.le (h : Sl w A n cap xs) (hb : Le w w') : Sl w' A n cap xs :=
  ⟨h.len, h.cap_, h.max, h.ok, fun hn => by
    obtain ⟨b, off, e, hlt, hc⟩ := h.at_ hn
    exact ⟨b, off, e, Nat.lt_of_lt_of_le hlt hb.size, fun j u hu => (hb.cell hlt).trans (hc j u hu)⟩⟩
theorem Sl.alloc (h : Sl w A n cap xs) (o : Obj) : Sl (w.alloc o) A n cap xs := h.le (Le.new w o)
theorem Sl.take_ (h : Sl w A n cap xs) (k : Nat) (hk : k ≤ n) : Sl w A k cap (xs.take k) := by
  refine ⟨by rw [List.length_take, h.len]; omega, Nat.le_trans hk h.cap_, h.max, fun x hx => h.ok x (List.mem_of_mem_take hx), fun hn => ?_⟩
  obtain ⟨b, off, e, hb, hc⟩ := h.at_ (by omega)
  refine ⟨b, off, e, hb, fun j u hu => hc j u ?_⟩
  have hsplit : xs.flatMap Enc.cells = (xs.take k).flatMap Enc.cells ++ (xs.drop k).flatMap Enc.cells := by rw [← List.flatMap_append, List.take_append_drop]
  rw [hsplit, List.getElem?_append_left (by
    have := (List.getElem?_eq_some_iff.1 hu).1
    exact this)]
  exact hu
theorem Sl.cells_ (h : Sl w A n cap xs) {k : Nat} (hk : k < xs.length) :
    ∃ b off, A = some ⟨b, off, none⟩ ∧ b < w.heap.size ∧ ∀ j, j < Enc.size α → ∀ u, (Enc.cells xs[k])[j]? = some u → w.cell? ⟨b, off + (k * Enc.size α + j), none⟩ = some u := by
  obtain ⟨b, off, e, hb, hc⟩ := h.at_ (by have := h.len; omega)
  exact ⟨b, off, e, hb, fun j hj u hu => hc _ _ ((flat_at xs k hk j hj).trans hu)⟩
end

instance instEncInt : Enc Int := ⟨1, fun x => [.int .i64 x], fun x => -9223372036854775808 ≤ x ∧ x ≤ 9223372036854775807, fun _ => rfl⟩
theorem Sl.int_at {w : World} {A : Option Addr} {n cap : Nat} {xs : List Int} (h : Sl w A n cap xs) {k : Nat} (hk : k < xs.length) :
    ∃ b off, A = some ⟨b, off, none⟩ ∧ b < w.heap.size ∧ w.cell? ⟨b, off + k, none⟩ = some (.int .i64 xs[k]) ∧ -9223372036854775808 ≤ xs[k] ∧ xs[k] ≤ 9223372036854775807 := by
  obtain ⟨b, off, e, hb, hc⟩ := h.cells_ hk
  have := hc 0 (by decide) _ rfl
  exact ⟨b, off, e, hb, by simpa [Enc.size] using this, (h.ok xs[k] (List.getElem_mem hk)).1, (h.ok xs[k] (List.getElem_mem hk)).2⟩

/-- a class -/
structure Cls where
  name : ByteArray
  parent : Int
instance instEncCls : Enc Cls := ⟨2, fun c => [.string c.name, .int .i64 c.parent], fun c => c.name.size ≤ 9223372036854775807 ∧ -9223372036854775808 ≤ c.parent ∧ c.parent ≤ 9223372036854775807, fun _ => rfl⟩
theorem Sl.cls_at {w : World} {A : Option Addr} {n cap : Nat} {xs : List Cls} (h : Sl w A n cap xs) {k : Nat} (hk : k < xs.length) :
    ∃ b off, A = some ⟨b, off, none⟩ ∧ b < w.heap.size ∧ w.cell? ⟨b, off + k * 2, none⟩ = some (.string xs[k].name) ∧ w.cell? ⟨b, off + k * 2 + 1, none⟩ = some (.int .i64 xs[k].parent) ∧
      xs[k].name.size ≤ 9223372036854775807 ∧ -9223372036854775808 ≤ xs[k].parent ∧ xs[k].parent ≤ 9223372036854775807 := by
  obtain ⟨b, off, e, hb, hc⟩ := h.cells_ hk
  have h0 := hc 0 (by decide) _ rfl
  have h1 := hc 1 (by decide) _ rfl
  have hk' := h.ok xs[k] (List.getElem_mem hk)
  exact ⟨b, off, e, hb, by simpa [Enc.size] using h0, by simpa [Enc.size, Nat.add_assoc] using h1, hk'.1, hk'.2.1, hk'.2.2⟩

theorem str_eq {a b : ByteArray} (h : a = b) : (a.toList == b.toList) = true := by subst h; simp
theorem str_ne {a b : ByteArray} (h : a ≠ b) : (a.toList == b.toList) = false := by
  rw [beq_eq_false_iff_ne]
  intro e
  rw [ByteArray.toList_eq, ByteArray.toList_eq] at e
  apply h
  cases a; cases b; simp at e; rw [e]

/-- The worlds that are w and more, as a class that the walk sees through. -/
def Ext (w : World) : Type := { w' : World // Le w w' }
instance instNonemptyExt (w : World) : Nonempty (Ext w) := ⟨⟨w, Le.refl w⟩⟩
def _root_.Go.World.ext (w : World) (g : Ext w) : World := g.1
theorem Le.ext (w : World) (g : Ext w) : Le w (w.ext g) := g.2
theorem Sl.ext {α : Type} [Enc α] {w : World} {A : Option Addr} {n cap : Nat} {xs : List α} (h : Sl w A n cap xs) (g : Ext w) : Sl (w.ext g) A n cap xs := h.le (Le.ext w g)
theorem cell_ext {w : World} {b o : Nat} {v : Value} (hb : b < w.heap.size) (h : w.cell? ⟨b, o, none⟩ = some v) : ∀ g : Ext w, (w.ext g).cell? ⟨b, o, none⟩ = some v := fun g => ((Le.ext w g).cell hb).trans h
theorem wp_region_ext {P : Program} {id : Nat} {Q : Exit → Act → World → Prop} {a : Act} {w : World} {l : List Oper} (hm : P.follows .mixedOrders = true) (hB : Region.lexB .any l.toArray = true)
    (h : wpQuiet P l.toArray (fun w' => ∃ g : Ext w, w' = w.ext g) (fun a' => ∀ w', (∃ g : Ext w, w' = w.ext g) → Q .normal a' w') l a) : (Code.region id l.toArray true).wp P Q a w :=
  wp_region_quiet (C := fun w' => ∃ g : Ext w, w' = w.ext g) hm hB ⟨⟨w.drew, (Le.refl w).drew⟩, rfl⟩ (by simpa using h)
theorem Calls.val {P : Program} {f : FuncId} {args : Array Value} {w : World} {v v' : Value} {R : World → Prop} (h : Calls P f args w fun e w' => e = .returned v ∧ R w') (hv : v = v') : Calls P f args w fun e w' => e = .returned v' ∧ R w' :=
  h.mono fun _ _ ⟨he, hr⟩ => ⟨by rw [he, hv], hr⟩
theorem vb {a b : Bool} (h : a = b) : Value.bool a = Value.bool b := by rw [h]
theorem vi {a b : Int} (h : a = b) : Value.int .i64 a = Value.int .i64 b := by rw [h]
theorem Calls.ext_of {P : Program} {f : FuncId} {args : Array Value} {w : World} {g : Ext w} {v : Value}
    (h : Calls P f args (w.ext g) fun e w' => e = .returned v ∧ Le (w.ext g) w') : Calls P f args (w.ext g) fun e w'' => e = .returned v ∧ ∃ g' : Ext w, w'' = w.ext g' :=
  h.mono fun _ w' ⟨he, hm⟩ => ⟨he, ⟨w', (Le.ext w g).trans hm⟩, rfl⟩
theorem Calls.ext_same {P : Program} {f : FuncId} {args : Array Value} {w : World} {g : Ext w} {v : Value}
    (h : Calls P f args (w.ext g) fun e w' => e = .returned v ∧ w.ext g = w') : Calls P f args (w.ext g) fun e w'' => e = .returned v ∧ ∃ g' : Ext w, w'' = w.ext g' :=
  h.mono fun _ _ ⟨he, hm⟩ => ⟨he, g, hm.symm⟩

theorem own_le {w w' : World} {base : Nat} {e : TypeId} {size : Nat} {v : Value} {n : Nat} {xs : List Value} (h : w.ownsRow base e size v n xs) (hb : Le w w') : w'.ownsRow base e size v n xs := by
  refine ⟨h.1, ?_⟩
  rcases h.2 with h' | ⟨g, cap, cur, hv, hg0, hg, hnc, hcm, hcs, ht⟩
  · exact .inl h'
  · have hlt : g < w.heap.size := by
      rcases Nat.lt_or_ge g w.heap.size with hlt | hge
      · exact hlt
      · rw [Array.getElem?_eq_none hge] at hg; cases hg
    exact .inr ⟨g, cap, cur, hv, hg0, (Below.block hb g hlt).trans hg, hnc, hcm, hcs, ht⟩
theorem own_lt {w : World} {base : Nat} {e : TypeId} {size : Nat} {g cap n : Nat} {xs : List Value} (h : w.ownsRow base e size (.slice (some ⟨g, 0, none⟩) n cap) n xs) : g < w.heap.size := (h.lt g rfl).2
/-- what the call owns reads as a list -/
theorem Sl.of_own {α : Type} [Enc α] {w : World} {base : Nat} {e : TypeId} {size : Nat} {A : Option Addr} {n cap : Nat} {xs : List α} (h : w.ownsRow base e size (.slice A n cap) n (xs.flatMap Enc.cells)) (hs : size = Enc.size α) (hp : 0 < size) (hok : ∀ x ∈ xs, Enc.ok x) : Sl w A n cap xs := by
  have hl : xs.length = n := by
    have := h.1
    rw [flat_len, hs] at this
    exact Nat.eq_of_mul_eq_mul_right (by omega) this
  rcases h.2 with ⟨h', hn⟩ | ⟨g, cap', cur, hv, hg0, hg, hnc, hcm, hcs, ht⟩
  · simp only [Value.slice.injEq] at h'
    obtain ⟨rfl, rfl, rfl⟩ := h'
    exact ⟨hl, by omega, by omega, hok, fun h => absurd h (by omega)⟩
  · simp only [Value.slice.injEq, true_and] at hv
    obtain ⟨rfl, rfl⟩ := hv
    refine ⟨hl, hnc, by simpa [maxLen] using hcm, hok, fun _ => ⟨g, 0, rfl, own_lt h, fun j u hu => ?_⟩⟩
    have hj : j < n * size := by
      have := (List.getElem?_eq_some_iff.1 hu).1
      rw [h.1] at this; exact this
    rw [Nat.zero_add]
    exact (h.cellAt j hj).trans hu
end

section
theorem grown_set (w : World) (b o : Nat) (u : Value) : w.grownBy (w.setCell ⟨b, o, none⟩ u) (some b) :=
  ⟨rfl, rfl, rfl, by simp [World.setCell], fun k _ hk => heap_setCell_other w ⟨b, o, none⟩ k u (fun e => hk (by simp [e]))⟩
theorem own_set {w : World} {base : Nat} {e : TypeId} {size n cap g b o : Nat} {xs : List Value} (h : w.ownsRow base e size (.slice (some ⟨g, 0, none⟩) n cap) n xs) (hb : g ≠ b) (u : Value) :
    (w.setCell ⟨b, o, none⟩ u).ownsRow base e size (.slice (some ⟨g, 0, none⟩) n cap) n xs := h.kept (grown_set w b o u) (.inr (by simp [Value.ownBlock]; exact hb))
theorem cell_set_same {w : World} {b o : Nat} {u v : Value} (h : w.cell? ⟨b, o, none⟩ = some u) : (w.setCell ⟨b, o, none⟩ v).cell? ⟨b, o, none⟩ = some v := World.cell?_setCell_same _ _ _ h
theorem cell_set_other {w : World} {b o b' o' : Nat} {v : Value} (h : b ≠ b' ∨ o ≠ o') : (w.setCell ⟨b, o, none⟩ v).cell? ⟨b', o', none⟩ = w.cell? ⟨b', o', none⟩ :=
  World.cell?_setCell_other _ _ _ _ (by intro e; injection e with e1 e2; rcases h with h | h <;> contradiction)
theorem own_mono {w : World} {base base' : Nat} {e : TypeId} {size n : Nat} {v : Value} {xs : List Value} (h : w.ownsRow base e size v n xs) (hb : base' ≤ base) : w.ownsRow base' e size v n xs := ⟨h.1, h.2.imp id (fun ⟨g, cap, cur, hv, hg0, rest⟩ => ⟨g, cap, cur, hv, Nat.le_trans hb hg0, rest⟩)⟩
theorem own_empty {w : World} {base g size : Nat} {e : TypeId} (hb : base ≤ w.heap.size) (hg : g = w.heap.size) : (w.alloc (.cells #[] e)).ownsRow base e size (.slice (some ⟨g, 0, none⟩) 0 0) 0 [] := by
  subst hg
  have h := World.ownsRow_lit (base := base) (e := e) (size := size) w #[] 0 hb (Nat.zero_le _) (by simp)
  simpa using h
theorem hp_new (w : World) (o : Obj) {k : Nat} (hk : k = w.heap.size) : (w.alloc o).heap[k]? = some o := by subst hk; exact heap_alloc_new w o
theorem hp_old (w : World) (o : Obj) {k : Nat} (hk : k < w.heap.size) : (w.alloc o).heap[k]? = w.heap[k]? := Below.heap_alloc w o k hk
end

section
/-- to stop a walk at a builtin and look: go_wp2_with (at_builtin; refine of_stop ?_); unfold Stop -/
def Stop (p : Prop) : Prop := p
theorem of_stop {p : Prop} (h : Stop p) : p := h

theorem own_form {w : World} {base size n : Nat} {e : TypeId} {v : Value} {xs : List Value} (h : w.ownsRow base e size v n xs) : ∃ A c, v = .slice A n c := by
  rcases h.2 with ⟨h, h0⟩ | ⟨g, c, _, h, _⟩
  · exact ⟨none, 0, by rw [h0]; exact h⟩
  · exact ⟨_, c, h⟩
theorem gx_le {g : Option Nat} {a b c : World} (h : a.grownBy b g) (k : Le b c) : a.grownBy c g :=
  ⟨k.os.trans h.os, k.tape.trans h.tape, k.output.trans h.output, Nat.le_trans h.size k.size, fun i hi hne => (Below.block k i (Nat.lt_of_lt_of_le hi h.size)).trans (h.block i hi hne)⟩
theorem gx_set {g o : Nat} {a b : World} (h : a.grownBy b (some g)) (u : Value) : a.grownBy (b.setCell ⟨g, o, none⟩ u) (some g) :=
  ⟨h.os, h.tape, h.output, by simpa [World.setCell] using h.size, fun i hi hne => (heap_setCell_other b ⟨g, o, none⟩ i u (fun e => hne (by rw [e]))).trans (h.block i hi hne)⟩
theorem gx_from {g : Option Nat} {a b : World} {o : Obj} (h : (a.alloc o).grownBy b g) : a.grownBy b g :=
  ⟨h.os, h.tape, h.output, by have := h.size; simp at this; omega, fun i hi hne => (h.block i (by simp; omega) hne).trans (Below.heap_alloc _ _ _ hi)⟩

/-- a world with new boxes: what they hold -/
theorem box1 (w : World) (v : Value) (T : TypeId) : (w.alloc (.cells #[v] T)).cell? ⟨w.heap.size, 0, none⟩ = some v ∧ w.heap.size < (w.alloc (.cells #[v] T)).heap.size ∧ Le w (w.alloc (.cells #[v] T)) :=
  ⟨by rw [World.cell?_alloc_at _ _ _ _ rfl]; rfl, by simp, Le.new w _⟩
theorem box2 (w : World) (v u : Value) (T U : TypeId) : ((w.alloc (.cells #[v] T)).alloc (.cells #[u] U)).cell? ⟨w.heap.size, 0, none⟩ = some v ∧ w.heap.size < ((w.alloc (.cells #[v] T)).alloc (.cells #[u] U)).heap.size ∧
    ((w.alloc (.cells #[v] T)).alloc (.cells #[u] U)).cell? ⟨w.heap.size + 1, 0, none⟩ = some u ∧ w.heap.size + 1 < ((w.alloc (.cells #[v] T)).alloc (.cells #[u] U)).heap.size ∧ Le w ((w.alloc (.cells #[v] T)).alloc (.cells #[u] U)) := by
  refine ⟨?_, by simp; omega, ?_, by simp, (Le.new w _).alloc _⟩
  · rw [World.cell?_alloc_past _ _ _ (by simp), World.cell?_alloc_at _ _ _ _ rfl]; rfl
  · rw [World.cell?_alloc_at _ _ _ _ (by simp)]; rfl
/-- what the caller owns of a fresh row -/
structure Owd {α : Type} [Enc α] (T : TypeId) (w0 w : World) (v : Value) (xs : List α) : Prop where
  row : w.ownsRow w0.heap.size T (Enc.size α) v xs.length (xs.flatMap Enc.cells)
  ok : ∀ x ∈ xs, Enc.ok x
theorem Owd.le {α : Type} [Enc α] {T : TypeId} {w0 w w' : World} {v : Value} {xs : List α} (h : Owd T w0 w v xs) (hl : Le w w') : Owd T w0 w' v xs := ⟨own_le h.row hl, h.ok⟩
theorem Owd.mono {α : Type} [Enc α] {T : TypeId} {w0 w00 w : World} {v : Value} {xs : List α} (h : Owd T w0 w v xs) (hl : Le w00 w0) : Owd T w00 w v xs := ⟨own_mono h.row hl.size, h.ok⟩
theorem Owd.nil {α : Type} [Enc α] (T : TypeId) (w0 w : World) : Owd T w0 w (.slice none 0 0) ([] : List α) := ⟨World.ownsRow_nil _ _ _ _, fun _ h => nomatch h⟩
theorem Owd.form {α : Type} [Enc α] {T : TypeId} {w0 w : World} {v : Value} {xs : List α} (h : Owd T w0 w v xs) (hp : 0 < Enc.size α) : ∃ A c, v = .slice A xs.length c ∧ Sl w A xs.length c xs ∧ (∀ k, (Value.slice A xs.length c).ownBlock = some k → w0.heap.size ≤ k ∧ k < w.heap.size) := by
  obtain ⟨A, c, rfl⟩ := own_form h.row
  exact ⟨A, c, rfl, Sl.of_own h.row rfl hp h.ok, fun k hk => h.row.lt k hk⟩
theorem Sl.under {α : Type} [Enc α] {w : World} {A : Option Addr} {n cap : Nat} {xs : List α} (h : Sl w A n cap xs) (hn : 0 < n) : ∀ a, A = some a → a.block < w.heap.size := by
  obtain ⟨b, off, e, hlt, _⟩ := h.at_ hn
  intro a ea; rw [e] at ea; injection ea with ea; rw [← ea]; exact hlt
theorem Sl.grown {α : Type} [Enc α] {w w' : World} {A : Option Addr} {n cap : Nat} {xs : List α} {r : Option Nat} (h : Sl w A n cap xs) (hg : w.grownBy w' r) (hne : 0 < n → ∀ a, A = some a → some a.block ≠ r) : Sl w' A n cap xs :=
  ⟨h.len, h.cap_, h.max, h.ok, fun hn => by
    obtain ⟨b, off, e, hlt, hc⟩ := h.at_ hn
    exact ⟨b, off, e, Nat.lt_of_lt_of_le hlt hg.size, fun j u hu => (World.cell?_of_block (a := ⟨b, off + j, none⟩) (hg.block b hlt (hne hn _ e))).trans (hc j u hu)⟩⟩
theorem box3 (w : World) (v u x : Value) (T U X : TypeId) : (((w.alloc (.cells #[v] T)).alloc (.cells #[u] U)).alloc (.cells #[x] X)).cell? ⟨w.heap.size, 0, none⟩ = some v ∧ w.heap.size < (((w.alloc (.cells #[v] T)).alloc (.cells #[u] U)).alloc (.cells #[x] X)).heap.size ∧
    (((w.alloc (.cells #[v] T)).alloc (.cells #[u] U)).alloc (.cells #[x] X)).cell? ⟨w.heap.size + 1, 0, none⟩ = some u ∧ w.heap.size + 1 < (((w.alloc (.cells #[v] T)).alloc (.cells #[u] U)).alloc (.cells #[x] X)).heap.size ∧
    (((w.alloc (.cells #[v] T)).alloc (.cells #[u] U)).alloc (.cells #[x] X)).cell? ⟨w.heap.size + 1 + 1, 0, none⟩ = some x ∧ w.heap.size + 1 + 1 < (((w.alloc (.cells #[v] T)).alloc (.cells #[u] U)).alloc (.cells #[x] X)).heap.size ∧ Le w (((w.alloc (.cells #[v] T)).alloc (.cells #[u] U)).alloc (.cells #[x] X)) := by
  obtain ⟨a, b, c, d, e⟩ := box2 w v u T U
  refine ⟨?_, by simp <;> omega, ?_, by simp <;> omega, ?_, by simp, e.alloc _⟩
  · rw [World.cell?_alloc_past _ _ _ b]; exact a
  · rw [World.cell?_alloc_past _ _ _ d]; exact c
  · rw [World.cell?_alloc_at _ _ _ _ (by simp)]; rfl
theorem box5 (w : World) (a b c d e : Value) (T : TypeId) : (w.alloc (.cells #[a, b, c, d, e] T)).cell? ⟨w.heap.size, 0, none⟩ = some a ∧ (w.alloc (.cells #[a, b, c, d, e] T)).cell? ⟨w.heap.size, 1, none⟩ = some b ∧ (w.alloc (.cells #[a, b, c, d, e] T)).cell? ⟨w.heap.size, 2, none⟩ = some c ∧
    (w.alloc (.cells #[a, b, c, d, e] T)).cell? ⟨w.heap.size, 3, none⟩ = some d ∧ (w.alloc (.cells #[a, b, c, d, e] T)).cell? ⟨w.heap.size, 4, none⟩ = some e ∧ w.heap.size < (w.alloc (.cells #[a, b, c, d, e] T)).heap.size ∧ Le w (w.alloc (.cells #[a, b, c, d, e] T)) := by
  refine ⟨?_, ?_, ?_, ?_, ?_, by simp, Le.new w _⟩ <;> (rw [World.cell?_alloc_at _ _ _ _ rfl]; rfl)
end

section
class EncOne (α : Type) [Enc α] : Prop where
  pos : 0 < Enc.size α
  one : ∀ (x : α) u, u ∈ Enc.cells x → u.oneCell' = true
theorem EncOne.all {α : Type} [Enc α] [EncOne α] (xs : List α) : ∀ u ∈ xs.flatMap Enc.cells, u.oneCell' = true := by
  intro u hu
  rw [List.mem_flatMap] at hu
  obtain ⟨x, _, hx⟩ := hu
  exact EncOne.one x u hx
instance instOneInt : EncOne Int := ⟨by decide, fun x u hu => by simp [Enc.cells] at hu; subst hu; rfl⟩
instance instOneCls : EncOne Cls := ⟨by decide, fun x u hu => by simp [Enc.cells] at hu; rcases hu with rfl | rfl <;> rfl⟩

section
variable {α : Type} [Enc α] [EncOne α] {P : Program} {w : World}
theorem run_append_sl (base : Nat) (t ty e : TypeId) (i : TypeInfo) (z : Value) (bytes : Nat) (ht : P.underlying t = some (.slice e)) (hi : P.info? e = some i) (hz : i.zero = some z)
    (hsize : i.size = Enc.size α) (hby : i.bytes = bytes) (hzs : z.cells.size = Enc.size α) (v : Value) (n : Nat) (xs : List α) (hown : w.ownsRow base e (Enc.size α) v n (xs.flatMap Enc.cells))
    (A : Option Addr) (m c : Nat) (ys : List α) (hS : Sl w A m c ys) (h63 : n + m ≤ maxLen) (hbytes : (n + m) * bytes ≤ 140737488355328) (hbase : base ≤ w.heap.size) :
    ∃ v' w', (Builtin.append_ #[t, t] ty #[v, .slice A m c]).run P w = .ok v' w' ∧ w'.ownsRow base e (Enc.size α) v' (n + m) ((xs ++ ys).flatMap Enc.cells) ∧ w.grownBy w' v.ownBlock ∧
      (v'.ownBlock = v.ownBlock ∨ v'.ownBlock = some w.heap.size) := by
  have hm : (ys.flatMap (Enc.cells (α := α))).length = m * Enc.size α := by rw [flat_len, hS.len]
  rcases A with _ | ad
  · have h0 : m = 0 := by
      rcases Nat.eq_zero_or_pos m with h0 | h0
      · exact h0
      · obtain ⟨b, off, h, _⟩ := hS.at_ h0; cases h
    subst h0
    have hy : ys = [] := List.eq_nil_of_length_eq_zero hS.len
    subst hy
    refine ⟨v, w, ?_, by simpa using hown, World.grownBy.refl w _, .inl rfl⟩
    rcases hown.2 with ⟨rfl, _⟩ | ⟨g, cap, cur, rfl, _, _, hnc, _⟩
    · simp [Builtin.append_, run_underlying ht, sizeOf, typeInfo, hi, Builtin.lenOf, Builtin.firstCells]
    · simp [Builtin.append_, run_underlying ht, sizeOf, typeInfo, hi, Builtin.lenOf, Builtin.firstCells, hnc, storeCells]
  · have hcells : ∀ j u, (ys.flatMap Enc.cells)[j]? = some u → w.cell? (ad.add j) = some u := by
      intro j u hu
      rcases Nat.eq_zero_or_pos m with h0 | h0
      · have hy : ys = [] := List.eq_nil_of_length_eq_zero (by rw [hS.len, h0])
        subst hy; simp at hu
      · obtain ⟨b, off, h, _, hc⟩ := hS.at_ h0
        injection h with h
        subst h
        have e : (⟨b, off, none⟩ : Addr).add j = ⟨b, off + j, none⟩ := by
          unfold Addr.add; split
          · next h => subst h; rfl
          · rfl
        rw [e]; exact hc j u hu
    obtain ⟨v', w', hrun, h2, h3, _, h5⟩ := run_append_own_at (P := P) w base t ty e i z (Enc.size α) bytes ht hi hz hsize hby hzs EncOne.pos v n _ hown ad m c _ hm hcells (EncOne.all ys) h63 hbytes hbase
    exact ⟨v', w', hrun, by rw [List.flatMap_append]; exact h2, h3, h5⟩

theorem wp_append_sl {o : Oper} {a : Act} {K : Act → World → Prop} {Q : Exit → Act → World → Prop} (s x : Operand) (t : TypeId)
    (ho : o.op = .call { callee := .builtin .append, args := #[s, x], argTypes := #[t, t] })
    (base : Nat) (e : TypeId) (i : TypeInfo) (z : Value) (bytes : Nat) (ht : P.underlying t = some (.slice e)) (hi : P.info? e = some i) (hz : i.zero = some z)
    (hsize : i.size = Enc.size α) (hby : i.bytes = bytes) (hzs : z.cells.size = Enc.size α) (v : Value) (n : Nat) (xs : List α) (hs : a.eval s = v) (hown : w.ownsRow base e (Enc.size α) v n (xs.flatMap Enc.cells))
    (A : Option Addr) (m c : Nat) (ys : List α) (hx : a.eval x = .slice A m c) (hS : Sl w A m c ys) (h63 : n + m ≤ maxLen) (hbytes : (n + m) * bytes ≤ 140737488355328) (hbase : base ≤ w.heap.size)
    (h : ∀ v' w', w'.ownsRow base e (Enc.size α) v' (n + m) ((xs ++ ys).flatMap Enc.cells) → w.grownBy w' v.ownBlock → (v'.ownBlock = v.ownBlock ∨ v'.ownBlock = some w.heap.size) → K (a.put o.dst v') w') : o.wp P a w K Q := by
  obtain ⟨v', w', hrun, h2, h3, h4⟩ := run_append_sl (P := P) (w := w) base t o.type e i z bytes ht hi hz hsize hby hzs v n xs hown A m c ys hS h63 hbytes hbase
  unfold Oper.wp execOp
  simp only [ho, resolve, invoke, builtin, Sem.run_bind, Sem.run_pure, Result.andThen_ok, List.map_toArray, List.map_cons, List.map_nil, hs, hx, hrun]
  exact h v' w' h2 h3 h4
theorem wpList_append_sl {ops : Array Oper} {rest : List Oper} {o : Oper} {a : Act} {Q : Exit → Act → World → Prop} (hgd : o.guard = none) (s x : Operand) (t : TypeId)
    (ho : o.op = .call { callee := .builtin .append, args := #[s, x], argTypes := #[t, t] })
    (base : Nat) (e : TypeId) (i : TypeInfo) (z : Value) (bytes : Nat) (ht : P.underlying t = some (.slice e)) (hi : P.info? e = some i) (hz : i.zero = some z)
    (hsize : i.size = Enc.size α) (hby : i.bytes = bytes) (hzs : z.cells.size = Enc.size α) (v : Value) (n : Nat) (xs : List α) (hs : a.eval s = v) (hown : w.ownsRow base e (Enc.size α) v n (xs.flatMap Enc.cells))
    (A : Option Addr) (m c : Nat) (ys : List α) (hx : a.eval x = .slice A m c) (hS : Sl w A m c ys) (h63 : n + m ≤ maxLen) (hbytes : (n + m) * bytes ≤ 140737488355328) (hbase : base ≤ w.heap.size)
    (h : ∀ v' w', w'.ownsRow base e (Enc.size α) v' (n + m) ((xs ++ ys).flatMap Enc.cells) → w.grownBy w' v.ownBlock → (v'.ownBlock = v.ownBlock ∨ v'.ownBlock = some w.heap.size) → wpList P ops Q rest (a.put o.dst v') w') : wpList P ops Q (o :: rest) a w :=
  wpList_plain hgd fun _ hK => wp_append_sl s x t ho base e i z bytes ht hi hz hsize hby hzs v n xs hs hown A m c ys hx hS h63 hbytes hbase fun v' w' h2 h3 h4 => hK _ _ (h v' w' h2 h3 h4)
theorem step_append_sl {ops : Array Oper} {o : Oper} {a : Act} {K : Act → World → Prop} {Q : Exit → Act → World → Prop} {E : Prop} (hgd : o.guard = none) (s x : Operand) (t : TypeId)
    (ho : o.op = .call { callee := .builtin .append, args := #[s, x], argTypes := #[t, t] })
    (base : Nat) (e : TypeId) (i : TypeInfo) (z : Value) (bytes : Nat) (ht : P.underlying t = some (.slice e)) (hi : P.info? e = some i) (hz : i.zero = some z)
    (hsize : i.size = Enc.size α) (hby : i.bytes = bytes) (hzs : z.cells.size = Enc.size α) (v : Value) (n : Nat) (xs : List α) (hs : a.eval s = v) (hown : w.ownsRow base e (Enc.size α) v n (xs.flatMap Enc.cells))
    (A : Option Addr) (m c : Nat) (ys : List α) (hx : a.eval x = .slice A m c) (hS : Sl w A m c ys) (h63 : n + m ≤ maxLen) (hbytes : (n + m) * bytes ≤ 140737488355328) (hbase : base ≤ w.heap.size)
    (h : ∀ v' w', w'.ownsRow base e (Enc.size α) v' (n + m) ((xs ++ ys).flatMap Enc.cells) → w.grownBy w' v.ownBlock → (v'.ownBlock = v.ownBlock ∨ v'.ownBlock = some w.heap.size) → K (a.put o.dst v') w') :
    if Region.wanted o (yielded ops a.tmps) = true then Oper.wp P o a w K Q else E := by
  have hw : Region.wanted o (yielded ops a.tmps) = true := by simp [Region.wanted, hgd]
  rw [if_pos hw]
  exact wp_append_sl s x t ho base e i z bytes ht hi hz hsize hby hzs v n xs hs hown A m c ys hx hS h63 hbytes hbase h
end
/-- one new box as a list -/
theorem sl_one {α : Type} [Enc α] {w : World} {cs : Array Value} {T : TypeId} (x : α) (hc : cs.toList = Enc.cells x) (hok : Enc.ok x) {b : Nat} (hb : b = w.heap.size) : Sl (w.alloc (.cells cs T)) (some ⟨b, 0, none⟩) 1 1 [x] := by
  subst hb
  refine ⟨rfl, Nat.le_refl _, by omega, fun y hy => by simp at hy; subst hy; exact hok, fun _ => ⟨_, 0, rfl, by simp, fun j u hu => ?_⟩⟩
  rw [List.flatMap_cons, List.flatMap_nil, List.append_nil, ← hc] at hu
  rw [Nat.zero_add, World.cell?_alloc_at _ _ _ _ rfl]
  simpa using hu
end

section
structure Lin where
  depth : Int
  kind : Int
  a : Int
  b : Int
instance instEncLin : Enc Lin := ⟨4, fun x => [.int .i64 x.depth, .int .i64 x.kind, .int .i64 x.a, .int .i64 x.b], fun x => -9223372036854775808 ≤ x.depth ∧ x.depth ≤ 9223372036854775807 ∧ -9223372036854775808 ≤ x.kind ∧ x.kind ≤ 9223372036854775807 ∧ -9223372036854775808 ≤ x.a ∧ x.a ≤ 9223372036854775807 ∧ -9223372036854775808 ≤ x.b ∧ x.b ≤ 9223372036854775807, fun _ => rfl⟩
theorem Sl.lin_at {w : World} {A : Option Addr} {n cap : Nat} {xs : List Lin} (h : Sl w A n cap xs) {k : Nat} (hk : k < xs.length) :
    ∃ b off, A = some ⟨b, off, none⟩ ∧ b < w.heap.size ∧ w.cell? ⟨b, off + k * 4, none⟩ = some (.int .i64 xs[k].depth) ∧ w.cell? ⟨b, off + k * 4 + 1, none⟩ = some (.int .i64 xs[k].kind) ∧ w.cell? ⟨b, off + k * 4 + 2, none⟩ = some (.int .i64 xs[k].a) ∧ w.cell? ⟨b, off + k * 4 + 3, none⟩ = some (.int .i64 xs[k].b) ∧ (-9223372036854775808 ≤ xs[k].depth ∧ xs[k].depth ≤ 9223372036854775807 ∧ -9223372036854775808 ≤ xs[k].kind ∧ xs[k].kind ≤ 9223372036854775807 ∧ -9223372036854775808 ≤ xs[k].a ∧ xs[k].a ≤ 9223372036854775807 ∧ -9223372036854775808 ≤ xs[k].b ∧ xs[k].b ≤ 9223372036854775807) := by
  obtain ⟨b, off, e, hb, hc⟩ := h.cells_ hk
  have h0 := hc 0 (by decide) _ rfl
  have h1 := hc 1 (by decide) _ rfl
  have h2 := hc 2 (by decide) _ rfl
  have h3 := hc 3 (by decide) _ rfl
  exact ⟨b, off, e, hb, by simpa [Enc.size] using h0, by simpa [Enc.size, Nat.add_assoc] using h1, by simpa [Enc.size, Nat.add_assoc] using h2, by simpa [Enc.size, Nat.add_assoc] using h3, h.ok xs[k] (List.getElem_mem hk)⟩
theorem flat_lin_depth : ∀ (xs : List Lin) (k : Nat) (h : k < xs.length) (z : Int), (xs.flatMap Enc.cells).set (k * 4) (.int .i64 z) = (xs.set k {xs[k] with depth := z}).flatMap Enc.cells
  | x :: r, 0, _, z => rfl
  | x :: r, k + 1, h, z => by
    have ih := flat_lin_depth r k (by simpa using h) z
    have e : (k + 1) * 4 = k * 4 + 1 + 1 + 1 + 1 := by omega
    rw [e]
    show Value.int .i64 x.depth :: Value.int .i64 x.kind :: Value.int .i64 x.a :: Value.int .i64 x.b :: (r.flatMap Enc.cells).set (k * 4) (.int .i64 z) = _
    rw [ih]; rfl
theorem flat_lin_kind : ∀ (xs : List Lin) (k : Nat) (h : k < xs.length) (z : Int), (xs.flatMap Enc.cells).set (k * 4 + 1) (.int .i64 z) = (xs.set k {xs[k] with kind := z}).flatMap Enc.cells
  | x :: r, 0, _, z => rfl
  | x :: r, k + 1, h, z => by
    have ih := flat_lin_kind r k (by simpa using h) z
    have e : (k + 1) * 4 + 1 = k * 4 + 1 + 1 + 1 + 1 + 1 := by omega
    rw [e]
    show Value.int .i64 x.depth :: Value.int .i64 x.kind :: Value.int .i64 x.a :: Value.int .i64 x.b :: (r.flatMap Enc.cells).set (k * 4 + 1) (.int .i64 z) = _
    rw [ih]; rfl
theorem flat_lin_a : ∀ (xs : List Lin) (k : Nat) (h : k < xs.length) (z : Int), (xs.flatMap Enc.cells).set (k * 4 + 2) (.int .i64 z) = (xs.set k {xs[k] with a := z}).flatMap Enc.cells
  | x :: r, 0, _, z => rfl
  | x :: r, k + 1, h, z => by
    have ih := flat_lin_a r k (by simpa using h) z
    have e : (k + 1) * 4 + 2 = k * 4 + 2 + 1 + 1 + 1 + 1 := by omega
    rw [e]
    show Value.int .i64 x.depth :: Value.int .i64 x.kind :: Value.int .i64 x.a :: Value.int .i64 x.b :: (r.flatMap Enc.cells).set (k * 4 + 2) (.int .i64 z) = _
    rw [ih]; rfl
theorem flat_lin_b : ∀ (xs : List Lin) (k : Nat) (h : k < xs.length) (z : Int), (xs.flatMap Enc.cells).set (k * 4 + 3) (.int .i64 z) = (xs.set k {xs[k] with b := z}).flatMap Enc.cells
  | x :: r, 0, _, z => rfl
  | x :: r, k + 1, h, z => by
    have ih := flat_lin_b r k (by simpa using h) z
    have e : (k + 1) * 4 + 3 = k * 4 + 3 + 1 + 1 + 1 + 1 := by omega
    rw [e]
    show Value.int .i64 x.depth :: Value.int .i64 x.kind :: Value.int .i64 x.a :: Value.int .i64 x.b :: (r.flatMap Enc.cells).set (k * 4 + 3) (.int .i64 z) = _
    rw [ih]; rfl
end

section
structure Flt where
  cls : Int
  code : Int
  cause : Int
  ctx : Int
  hide : Bool
instance instEncFlt : Enc Flt := ⟨5, fun x => [.int .i64 x.cls, .int .i64 x.code, .int .i64 x.cause, .int .i64 x.ctx, .bool x.hide], fun x => -9223372036854775808 ≤ x.cls ∧ x.cls ≤ 9223372036854775807 ∧ -9223372036854775808 ≤ x.code ∧ x.code ≤ 9223372036854775807 ∧ -9223372036854775808 ≤ x.cause ∧ x.cause ≤ 9223372036854775807 ∧ -9223372036854775808 ≤ x.ctx ∧ x.ctx ≤ 9223372036854775807, fun _ => rfl⟩
theorem Sl.flt_at {w : World} {A : Option Addr} {n cap : Nat} {xs : List Flt} (h : Sl w A n cap xs) {k : Nat} (hk : k < xs.length) :
    ∃ b off, A = some ⟨b, off, none⟩ ∧ b < w.heap.size ∧ w.cell? ⟨b, off + k * 5, none⟩ = some (.int .i64 xs[k].cls) ∧ w.cell? ⟨b, off + k * 5 + 1, none⟩ = some (.int .i64 xs[k].code) ∧ w.cell? ⟨b, off + k * 5 + 2, none⟩ = some (.int .i64 xs[k].cause) ∧ w.cell? ⟨b, off + k * 5 + 3, none⟩ = some (.int .i64 xs[k].ctx) ∧ w.cell? ⟨b, off + k * 5 + 4, none⟩ = some (.bool xs[k].hide) ∧ (-9223372036854775808 ≤ xs[k].cls ∧ xs[k].cls ≤ 9223372036854775807 ∧ -9223372036854775808 ≤ xs[k].code ∧ xs[k].code ≤ 9223372036854775807 ∧ -9223372036854775808 ≤ xs[k].cause ∧ xs[k].cause ≤ 9223372036854775807 ∧ -9223372036854775808 ≤ xs[k].ctx ∧ xs[k].ctx ≤ 9223372036854775807) := by
  obtain ⟨b, off, e, hb, hc⟩ := h.cells_ hk
  have h0 := hc 0 (by decide) _ rfl
  have h1 := hc 1 (by decide) _ rfl
  have h2 := hc 2 (by decide) _ rfl
  have h3 := hc 3 (by decide) _ rfl
  have h4 := hc 4 (by decide) _ rfl
  exact ⟨b, off, e, hb, by simpa [Enc.size] using h0, by simpa [Enc.size, Nat.add_assoc] using h1, by simpa [Enc.size, Nat.add_assoc] using h2, by simpa [Enc.size, Nat.add_assoc] using h3, by simpa [Enc.size, Nat.add_assoc] using h4, h.ok xs[k] (List.getElem_mem hk)⟩
theorem flat_flt_cls : ∀ (xs : List Flt) (k : Nat) (h : k < xs.length) (z : Int), (xs.flatMap Enc.cells).set (k * 5) (.int .i64 z) = (xs.set k {xs[k] with cls := z}).flatMap Enc.cells
  | x :: r, 0, _, z => rfl
  | x :: r, k + 1, h, z => by
    have ih := flat_flt_cls r k (by simpa using h) z
    have e : (k + 1) * 5 = k * 5 + 1 + 1 + 1 + 1 + 1 := by omega
    rw [e]
    show Value.int .i64 x.cls :: Value.int .i64 x.code :: Value.int .i64 x.cause :: Value.int .i64 x.ctx :: Value.bool x.hide :: (r.flatMap Enc.cells).set (k * 5) (.int .i64 z) = _
    rw [ih]; rfl
theorem flat_flt_code : ∀ (xs : List Flt) (k : Nat) (h : k < xs.length) (z : Int), (xs.flatMap Enc.cells).set (k * 5 + 1) (.int .i64 z) = (xs.set k {xs[k] with code := z}).flatMap Enc.cells
  | x :: r, 0, _, z => rfl
  | x :: r, k + 1, h, z => by
    have ih := flat_flt_code r k (by simpa using h) z
    have e : (k + 1) * 5 + 1 = k * 5 + 1 + 1 + 1 + 1 + 1 + 1 := by omega
    rw [e]
    show Value.int .i64 x.cls :: Value.int .i64 x.code :: Value.int .i64 x.cause :: Value.int .i64 x.ctx :: Value.bool x.hide :: (r.flatMap Enc.cells).set (k * 5 + 1) (.int .i64 z) = _
    rw [ih]; rfl
theorem flat_flt_cause : ∀ (xs : List Flt) (k : Nat) (h : k < xs.length) (z : Int), (xs.flatMap Enc.cells).set (k * 5 + 2) (.int .i64 z) = (xs.set k {xs[k] with cause := z}).flatMap Enc.cells
  | x :: r, 0, _, z => rfl
  | x :: r, k + 1, h, z => by
    have ih := flat_flt_cause r k (by simpa using h) z
    have e : (k + 1) * 5 + 2 = k * 5 + 2 + 1 + 1 + 1 + 1 + 1 := by omega
    rw [e]
    show Value.int .i64 x.cls :: Value.int .i64 x.code :: Value.int .i64 x.cause :: Value.int .i64 x.ctx :: Value.bool x.hide :: (r.flatMap Enc.cells).set (k * 5 + 2) (.int .i64 z) = _
    rw [ih]; rfl
theorem flat_flt_ctx : ∀ (xs : List Flt) (k : Nat) (h : k < xs.length) (z : Int), (xs.flatMap Enc.cells).set (k * 5 + 3) (.int .i64 z) = (xs.set k {xs[k] with ctx := z}).flatMap Enc.cells
  | x :: r, 0, _, z => rfl
  | x :: r, k + 1, h, z => by
    have ih := flat_flt_ctx r k (by simpa using h) z
    have e : (k + 1) * 5 + 3 = k * 5 + 3 + 1 + 1 + 1 + 1 + 1 := by omega
    rw [e]
    show Value.int .i64 x.cls :: Value.int .i64 x.code :: Value.int .i64 x.cause :: Value.int .i64 x.ctx :: Value.bool x.hide :: (r.flatMap Enc.cells).set (k * 5 + 3) (.int .i64 z) = _
    rw [ih]; rfl
theorem flat_flt_hide : ∀ (xs : List Flt) (k : Nat) (h : k < xs.length) (z : Bool), (xs.flatMap Enc.cells).set (k * 5 + 4) (.bool z) = (xs.set k {xs[k] with hide := z}).flatMap Enc.cells
  | x :: r, 0, _, z => rfl
  | x :: r, k + 1, h, z => by
    have ih := flat_flt_hide r k (by simpa using h) z
    have e : (k + 1) * 5 + 4 = k * 5 + 4 + 1 + 1 + 1 + 1 + 1 := by omega
    rw [e]
    show Value.int .i64 x.cls :: Value.int .i64 x.code :: Value.int .i64 x.cause :: Value.int .i64 x.ctx :: Value.bool x.hide :: (r.flatMap Enc.cells).set (k * 5 + 4) (.bool z) = _
    rw [ih]; rfl
end

section
def hasI : List Int → Int → Bool
  | [], _ => false
  | z :: r, x => z == x || hasI r x
def lowers : List UInt8 → Bool
  | [] => true
  | c :: r => decide (97 ≤ c.toNat) && decide (c.toNat ≤ 122) && lowers r
def okName (s : ByteArray) : Bool := lowers s.data.toList && decide (1 ≤ s.size) && decide (s.size ≤ 6)
def findN : List Cls → ByteArray → Int → Int
  | [], _, _ => -1
  | c :: r, s, k => if c.name = s then k else findN r s (k + 1)

theorem findN_cons (c : Cls) (r : List Cls) (s : ByteArray) (k : Int) : findN (c :: r) s k = if c.name = s then k else findN r s (k + 1) := rfl
theorem hasI_at {zs : List Int} {k : Nat} (h : k < zs.length) (x : Int) : hasI (zs.drop k) x = (zs[k] == x || hasI (zs.drop (k + 1)) x) := by
  rw [List.drop_eq_getElem_cons h]; rfl
theorem hasI_end {zs : List Int} {k : Nat} (h : ¬ k < zs.length) (x : Int) : hasI (zs.drop k) x = false := by
  rw [List.drop_eq_nil_of_le (by omega)]; rfl
theorem findN_at {zs : List Cls} {k : Nat} (h : k < zs.length) (s : ByteArray) (j : Int) : findN (zs.drop k) s j = if zs[k].name = s then j else findN (zs.drop (k + 1)) s (j + 1) := by
  rw [List.drop_eq_getElem_cons h]; rfl
theorem findN_end {zs : List Cls} {k : Nat} (h : ¬ k < zs.length) (s : ByteArray) (j : Int) : findN (zs.drop k) s j = -1 := by
  rw [List.drop_eq_nil_of_le (by omega)]; rfl
theorem lowers_at {s : ByteArray} {k : Nat} (h : k < s.size) : lowers (s.data.toList.drop k) = (decide (97 ≤ s[k].toNat) && decide (s[k].toNat ≤ 122) && lowers (s.data.toList.drop (k + 1))) := by
  rw [List.drop_eq_getElem_cons (by simpa using h)]; rfl
theorem lowers_end {s : ByteArray} {k : Nat} (h : ¬ k < s.size) : lowers (s.data.toList.drop k) = true := by
  rw [List.drop_eq_nil_of_le (by simpa using h)]; rfl
end

section
instance instOneFltR : EncOne Flt := ⟨by decide, fun x u hu => by simp [Enc.cells] at hu; rcases hu with rfl | rfl | rfl | rfl | rfl <;> rfl⟩
theorem infoFltR : (Try.prog.info? 74).map (fun i => (i.zero, i.size, i.bytes)) = some (some (.agg #[.int .i64 0, .int .i64 0, .int .i64 0, .int .i64 0, .bool false]), 5, 40) := by kernel_rfl
theorem infoIntR : (Try.prog.info? 3).map (fun i => (i.zero, i.size, i.bytes)) = some (some (.int .i64 0), 1, 8) := by kernel_rfl
/-- the memory of a run: its block, the tree, the program, what it has told, the faults that it has raised -/
structure Rn (w : World) (R : Nat) (B : Option Addr) (m c : Nat) (xs : List Cls) (A : Option Addr) (n cap : Nat) (p : List Lin) (lv hv : Value) (lg : List Int) (hs : List Flt) : Prop where
  z : R < w.heap.size
  c0 : w.cell? ⟨R, 0, none⟩ = some (.slice B m c)
  c1 : w.cell? ⟨R, 1, none⟩ = some (.slice A n cap)
  c2 : w.cell? ⟨R, 2, none⟩ = some lv
  c3 : w.cell? ⟨R, 3, none⟩ = some hv
  f2 : w.frozen? ⟨R, 2, none⟩ = false
  f3 : w.frozen? ⟨R, 3, none⟩ = false
  S : Sl w B m c xs
  T : Sl w A n cap p
  hB : 0 < m → ∀ a, B = some a → a.block < R - 1
  hA : 0 < n → ∀ a, A = some a → a.block < R - 1
  O : w.ownsRow (R - 1) 3 1 lv lg.length (lg.flatMap Enc.cells)
  H : w.ownsRow (R - 1) 74 5 hv hs.length (hs.flatMap Enc.cells)
  ap : ∀ k, lv.ownBlock = some k → hv.ownBlock ≠ some k
  okl : ∀ x ∈ lg, Enc.ok x
  okh : ∀ x ∈ hs, Enc.ok x
  nl : lv.ownBlock ≠ some R
  nh : hv.ownBlock ≠ some R
/-- what a run leaves alone: all but its own block and the rows of what it has told and raised -/
structure Kp (R : Nat) (lv hv lv' hv' : Value) (w w' : World) : Prop where
  os : w'.os = w.os
  tape : w'.tape = w.tape
  output : w'.output = w.output
  size : w.heap.size ≤ w'.heap.size
  blk : ∀ b, b < w.heap.size → b ≠ R → lv.ownBlock ≠ some b → hv.ownBlock ≠ some b → w'.heap[b]? = w.heap[b]?
  lo : lv'.ownBlock = lv.ownBlock ∨ ∀ k, lv'.ownBlock = some k → w.heap.size ≤ k
  ho : hv'.ownBlock = hv.ownBlock ∨ ∀ k, hv'.ownBlock = some k → w.heap.size ≤ k
theorem Kp.refl (R : Nat) (lv hv : Value) (w : World) : Kp R lv hv lv hv w w := ⟨rfl, rfl, rfl, Nat.le_refl _, fun _ _ _ _ _ => rfl, .inl rfl, .inl rfl⟩
theorem Kp.trans {R : Nat} {lv hv lv1 hv1 lv2 hv2 : Value} {w w1 w2 : World} (h : Kp R lv hv lv1 hv1 w w1) (k : Kp R lv1 hv1 lv2 hv2 w1 w2) : Kp R lv hv lv2 hv2 w w2 := by
  refine ⟨k.os.trans h.os, k.tape.trans h.tape, k.output.trans h.output, Nat.le_trans h.size k.size, fun b hb hR hl hh => ?_, ?_, ?_⟩
  · have e1 : lv1.ownBlock ≠ some b := fun e => by
      rcases h.lo with h2 | h2
      · exact hl (h2 ▸ e)
      · have := h2 b e; omega
    have e2 : hv1.ownBlock ≠ some b := fun e => by
      rcases h.ho with h2 | h2
      · exact hh (h2 ▸ e)
      · have := h2 b e; omega
    exact (k.blk b (Nat.lt_of_lt_of_le hb h.size) hR e1 e2).trans (h.blk b hb hR hl hh)
  · rcases k.lo with h1 | h1
    · rw [h1]; exact h.lo
    · exact .inr fun j hj => Nat.le_trans h.size (h1 j hj)
  · rcases k.ho with h1 | h1
    · rw [h1]; exact h.ho
    · exact .inr fun j hj => Nat.le_trans h.size (h1 j hj)
/-- an interface's value: what a block is left with -/
inductive Lft where
  | nil : Lft
  | ret (v : Int) : Lft
  | rai (f : Int) : Lft
  | brk : Lft
  | cnt : Lft
def lfV : Lft → Value
  | .nil => Value.nilIface
  | .ret v => .iface 83 (.agg #[.int .i64 v])
  | .rai f => .iface 85 (.agg #[.int .i64 f])
  | .brk => .iface 119 (.agg #[])
  | .cnt => .iface 120 (.agg #[])
/-- a call that hands nothing back ends so, or with a panic -/
def lfE : Lft → Ending
  | .nil => .returned (.tuple #[])
  | l => .panicked [{ v := lfV l, recovered := false }]
theorem isAny : Try.prog.isIface 20 = true := by kernel_rfl
theorem neq_any (u : TypeId) (x : Value) (w : World) : (binOp .neq 20 (.iface u x) .nilIface).run Try.prog w = .ok (.bool true) w := run_neq_iface_nil w _ isAny u x
theorem neq_nil (w : World) : (binOp .neq 20 .nilIface .nilIface).run Try.prog w = .ok (.bool false) w := run_neq_nil_nil_at w _ isAny
theorem eql_any (u : TypeId) (x : Value) (w : World) : (binOp .eql 20 (.iface u x) .nilIface).run Try.prog w = .ok (.bool false) w := run_eql_iface_nil w _ isAny u x
theorem eql_nil (w : World) : (binOp .eql 20 .nilIface .nilIface).run Try.prog w = .ok (.bool true) w := run_eql_nil_nil_at w _ isAny
set_option maxRecDepth 100000 in
theorem leave_any (l : Lft) (w : World) : Calls Try.prog 110 #[lfV l] w fun e w' => e = lfE l ∧ w' = w := by
  have q1 := neq_any
  have q2 := neq_nil
  cases l
  all_goals
    simp only [lfV, lfE]
    go_enter Try.func110, Try.ntmps110
    go_wp2
    first
    | (go_end0; exact ⟨rfl, rfl⟩)
    | exact ⟨rfl, rfl, rfl⟩
section
variable {w w' wA w4 : World} {R m c n cap : Nat} {B A : Option Addr} {xs : List Cls} {p : List Lin} {lv hv v1 : Value} {lg : List Int} {hs : List Flt}
theorem fr_set (w : World) (b o k : Nat) (u : Value) : (w.setCell ⟨b, o, none⟩ u).frozen? ⟨b, k, none⟩ = w.frozen? ⟨b, k, none⟩ := by first | exact World.frozen?_setCell .. | simp [World.frozen?, World.setCell]
theorem Rn.lneR (h : Rn w R B m c xs A n cap p lv hv lg hs) : lv.ownBlock ≠ some R := h.nl
theorem Rn.hneR (h : Rn w R B m c xs A n cap p lv hv lg hs) : hv.ownBlock ≠ some R := h.nh
theorem Rn.le (h : Rn w R B m c xs A n cap p lv hv lg hs) (hl : Le w w') : Rn w' R B m c xs A n cap p lv hv lg hs :=
  ⟨Nat.lt_of_lt_of_le h.z hl.size, (hl.cell h.z).trans h.c0, (hl.cell h.z).trans h.c1, (hl.cell h.z).trans h.c2, (hl.cell h.z).trans h.c3, (hl.frozen h.z).trans h.f2, (hl.frozen h.z).trans h.f3, h.S.le hl, h.T.le hl, h.hB, h.hA, own_le h.O hl, own_le h.H hl, h.ap, h.okl, h.okh, h.nl, h.nh⟩
theorem Kp.of_le (R : Nat) (lv hv : Value) (hl : Le w w') : Kp R lv hv lv hv w w' := ⟨hl.os, hl.tape, hl.output, hl.size, fun b hb _ _ _ => hl.block b hb, .inl rfl, .inl rfl⟩
theorem Rn.told (h : Rn w R B m c xs A n cap p lv hv lg hs) (LA : Le w wA) {x : Int} (hx : Enc.ok x) (O4 : w4.ownsRow (R - 1) 3 1 v1 (lg.length + 1) ((lg ++ [x]).flatMap Enc.cells)) (hg : wA.grownBy w4 lv.ownBlock) (hbl : v1.ownBlock = lv.ownBlock ∨ v1.ownBlock = some wA.heap.size) :
    Rn (w4.setCell ⟨R, 2, none⟩ v1) R B m c xs A n cap p v1 hv (lg ++ [x]) hs ∧ Kp R lv hv v1 hv w (w4.setCell ⟨R, 2, none⟩ v1) := by
  have hA := h.le LA
  have hRl : some R ≠ lv.ownBlock := fun e => h.lneR e.symm
  have hsz := hg.size
  have hcell : ∀ o v, wA.cell? ⟨R, o, none⟩ = some v → w4.cell? ⟨R, o, none⟩ = some v := fun o v hc => hg.cell (a := ⟨R, o, none⟩) hc (fun e => hRl e)
  have hfr : ∀ o, w4.frozen? ⟨R, o, none⟩ = wA.frozen? ⟨R, o, none⟩ := fun o => World.frozen?_of_block (a := ⟨R, o, none⟩) (hg.block R hA.z hRl)
  have hzz : (w4.setCell ⟨R, 2, none⟩ v1).heap.size = w4.heap.size := by simp [World.setCell]
  have gs := grown_set w4 R 2 v1
  have hap : hv.ownBlock = none ∨ hv.ownBlock ≠ lv.ownBlock := by
    cases e : hv.ownBlock with
    | none => exact .inl rfl
    | some k => exact .inr fun e2 => h.ap k e2.symm e
  have hlk : ∀ k, lv.ownBlock = some k → R - 1 ≤ k := fun k e => (h.O.lt k e).1
  have hvl : ∀ k, v1.ownBlock = some k → k ≠ R ∧ hv.ownBlock ≠ some k := fun k e => by
    rcases hbl with h1 | h1
    · exact ⟨fun e2 => h.nl (by rw [← h1, e, e2]), h.ap k (h1 ▸ e)⟩
    · rw [h1] at e
      injection e with e
      have := hA.z
      exact ⟨by omega, fun e2 => by have := (hA.H.lt k e2).2; omega⟩
  have S4 := hA.S.grown hg (fun hn a e e2 => by have := h.hB hn a e; have := hlk _ e2.symm; omega)
  have T4 := hA.T.grown hg (fun hn a e e2 => by have := h.hA hn a e; have := hlk _ e2.symm; omega)
  refine ⟨⟨by rw [hzz]; exact Nat.lt_of_lt_of_le hA.z hsz, ?_, ?_, ?_, ?_, ?_, ?_, ?_, ?_, h.hB, h.hA, ?_, ?_, fun k e => (hvl k e).2, ?_, h.okh, fun e => (hvl R e).1 rfl, h.nh⟩, ?_⟩
  · rw [cell_set_other (.inr (by decide))]; exact hcell 0 _ hA.c0
  · rw [cell_set_other (.inr (by decide))]; exact hcell 1 _ hA.c1
  · exact cell_set_same (hcell 2 _ hA.c2)
  · rw [cell_set_other (.inr (by decide))]; exact hcell 3 _ hA.c3
  · rw [fr_set, hfr]; exact hA.f2
  · rw [fr_set, hfr]; exact hA.f3
  · exact S4.grown gs (fun hn a e e2 => by have := h.hB hn a e; have e3 : a.block = R := (by injection e2); omega)
  · exact T4.grown gs (fun hn a e e2 => by have := h.hA hn a e; have e3 : a.block = R := (by injection e2); omega)
  · have := O4.kept gs (by cases e : v1.ownBlock with | none => exact .inl rfl | some k => exact .inr (fun e2 => by injection e2 with e2; have := (hvl k e).1; omega))
    rw [List.length_append]; exact this
  · exact (hA.H.kept hg hap).kept gs (by cases e : hv.ownBlock with | none => exact .inl rfl | some k => exact .inr (fun e2 => by injection e2 with e2; exact h.hneR (by rw [e, e2])))
  · intro y hy
    rcases List.mem_append.1 hy with h1 | h1
    · exact h.okl y h1
    · rw [List.mem_singleton] at h1; subst h1; exact hx
  · refine ⟨?_, ?_, ?_, ?_, fun b hb hR hl hh => ?_, ?_, .inl rfl⟩
    · exact gs.os.trans (hg.os.trans LA.os)
    · exact gs.tape.trans (hg.tape.trans LA.tape)
    · exact gs.output.trans (hg.output.trans LA.output)
    · rw [hzz]; exact Nat.le_trans LA.size hsz
    · have hbA := Nat.lt_of_lt_of_le hb LA.size
      exact (gs.block b (Nat.lt_of_lt_of_le hbA hsz) (fun e => hR (by injection e))).trans ((hg.block b hbA (fun e => hl e.symm)).trans (LA.block b hb))
    · rcases hbl with h1 | h1
      · exact .inl h1
      · exact .inr fun k e => by rw [h1] at e; injection e with e; have := LA.size; omega
end
set_option maxHeartbeats 1000000 in
set_option maxRecDepth 100000 in
theorem tell_any (R m c n cap : Nat) (B A : Option Addr) (xs : List Cls) (p : List Lin) (lv hv : Value) (lg : List Int) (hs : List Flt) (x : Int) (hx : Enc.ok x) (hl : lg.length ≤ 1000000) (w : World) (h : Rn w R B m c xs A n cap p lv hv lg hs) :
    Calls Try.prog 81 #[.pointer (some ⟨R, 0, none⟩), .int .i64 x] w fun e w' => e = .returned (.tuple #[]) ∧ ∃ lv', Rn w' R B m c xs A n cap p lv' hv (lg ++ [x]) hs ∧ Kp R lv hv lv' hv w w' := by
  obtain ⟨i0, hq, hz0, hz1, hz2⟩ := info_parts infoIntR
  have c2 := h.c2
  have f2 := h.f2
  have hz := h.z
  obtain ⟨AL, cL, rfl⟩ := own_form h.O
  go_enter Try.func81, Try.ntmps81
  go_wp2_with (at_builtin; refine wpList_append_sl rfl _ _ 29 rfl (R - 1) 3 i0 _ 8 Try.underlying29 hq hz0 hz1 hz2 rfl _ lg.length lg rfl (h.O.alloc _) _ 1 1 [x] rfl (sl_one x rfl hx rfl) (by unfold maxLen; omega) (by omega) (Nat.le_trans (by omega) (Le.new w _).size) ?_; intro v1 w4 O4 hg4 hbl; obtain ⟨A1, c1, rfl⟩ := own_form O4; have HR := Lib.hid (h.told (Le.new w _) hx O4 hg4 hbl); have k2 := hg4.cell (a := ⟨R, 2, none⟩) (((Le.new w _).cell hz).trans c2) (fun e => h.lneR e.symm); have k3 : w4.frozen? ⟨R, 2, none⟩ = false := (World.frozen?_of_block (a := ⟨R, 2, none⟩) (hg4.block R (Nat.lt_of_lt_of_le hz (Le.new w _).size) (fun e => h.lneR e.symm))).trans (((Le.new w _).frozen hz).trans f2); clear O4 hg4 hbl)
  go_end0
  exact ⟨rfl, _, HR.out.1, HR.out.2⟩
end

section
namespace Chn
theorem nodup_bound : ∀ (n : Nat) (L : List Int), L.Nodup → (∀ x ∈ L, 0 ≤ x ∧ x < n) → L.length ≤ n := by
  intro n
  induction n with
  | zero =>
    intro L _ h
    cases L with
    | nil => simp
    | cons x r => have := h x (by simp); omega
  | succ n ih =>
    intro L hn h
    by_cases hm : (n : Int) ∈ L
    · have h1 : (L.erase (n : Int)).Nodup := hn.erase _
      have h2 : ∀ x ∈ L.erase (n : Int), 0 ≤ x ∧ x < n := by
        intro x hx
        have hx' := (List.Nodup.mem_erase_iff hn).1 hx
        have := h x hx'.2
        have := hx'.1
        omega
      have := ih _ h1 h2
      rw [List.length_erase_of_mem hm] at this
      omega
    · have := ih L hn (fun x hx => by
        have := h x hx
        have : x ≠ n := fun e => hm (e ▸ hx)
        omega)
      omega

theorem nd_inj {L : List Int} (h : L.Nodup) {i j : Nat} (hi : i < L.length) (hj : j < L.length) (e : L[i] = L[j]) : i = j := by
  have hp := List.pairwise_iff_getElem.1 h
  rcases Nat.lt_trichotomy i j with h1 | h1 | h1
  · exact absurd e (hp i j hi hj h1)
  · exact h1
  · exact absurd e.symm (hp j i hj hi h1)

/-- L goes from f along nx, each once, as far as it can -/
structure Is (nx : Int → Int) (f : Int) (L : List Int) : Prop where
  nd : L.Nodup
  pos : ∀ x ∈ L, 0 ≤ x
  ne : L ≠ []
  hd : L.head? = some f
  st : ∀ k (h : k + 1 < L.length), L[k + 1] = nx L[k]
  en : ∀ x, L.getLast? = some x → nx x < 0 ∨ nx x ∈ L

def go (nx : Int → Int) : Nat → Int → List Int → List Int
  | 0, _, out => out
  | m + 1, f, out => if f < 0 ∨ f ∈ out then out else go nx m (nx f) (out ++ [f])

/-- what the chain's first part keeps to: f is next -/
structure Pre (nx : Int → Int) (n : Nat) (f0 f : Int) (out : List Int) : Prop where
  nd : out.Nodup
  rng : ∀ x ∈ out, 0 ≤ x ∧ x < n
  hd : out = [] ∧ f = f0 ∨ out.head? = some f0
  st : ∀ k (h : k + 1 < out.length), out[k + 1] = nx out[k]
  nxt : ∀ x, out.getLast? = some x → nx x = f
  lt : f < n
theorem Pre.start {nx : Int → Int} {n : Nat} {f : Int} (h : f < n) : Pre nx n f f [] :=
  ⟨by simp, by simp, .inl ⟨rfl, rfl⟩, by simp, by simp, h⟩
theorem Pre.step {nx : Int → Int} {n : Nat} {f0 f : Int} {out : List Int} (h : Pre nx n f0 f out) (hf : 0 ≤ f) (hm : f ∉ out) (hb : nx f < n) : Pre nx n f0 (nx f) (out ++ [f]) := by
  refine ⟨?_, ?_, ?_, ?_, ?_, hb⟩
  · rw [List.nodup_append]
    exact ⟨h.nd, by simp, fun a ha b hb e => by simp at hb; subst hb; subst e; exact hm ha⟩
  · intro x hx
    rcases List.mem_append.1 hx with hx | hx
    · exact h.rng x hx
    · simp at hx; subst hx; exact ⟨hf, h.lt⟩
  · right
    rcases h.hd with ⟨rfl, rfl⟩ | h1
    · rfl
    · cases out with
      | nil => simp at h1
      | cons a r => simpa using h1
  · intro k hk
    simp at hk
    by_cases e : k + 1 < out.length
    · rw [List.getElem_append_left e, List.getElem_append_left (by omega)]; exact h.st k e
    · have ek : k + 1 = out.length := by omega
      rw [List.getElem_append_right (by omega), List.getElem_append_left (by omega)]
      have hl : out.getLast? = some out[k] := by
        rw [List.getLast?_eq_getElem?, List.getElem?_eq_getElem (by omega)]
        simp only [← ek, Nat.add_sub_cancel]
      rw [h.nxt _ hl]
      simp [ek]
  · intro x hx
    simp at hx; rw [← hx]
theorem Pre.len {nx : Int → Int} {n : Nat} {f0 f : Int} {out : List Int} (h : Pre nx n f0 f out) : out.length ≤ n := nodup_bound n out h.nd h.rng
theorem Pre.done {nx : Int → Int} {n : Nat} {f0 f : Int} {out : List Int} (h : Pre nx n f0 f out) (hne : out ≠ []) (he : f < 0 ∨ f ∈ out) : Is nx f0 out := by
  refine ⟨h.nd, fun x hx => (h.rng x hx).1, hne, ?_, h.st, fun x hx => ?_⟩
  · rcases h.hd with ⟨h1, _⟩ | h1
    · exact absurd h1 hne
    · exact h1
  · rw [h.nxt x hx]; exact he

theorem go_is {nx : Int → Int} {n : Nat} {f0 : Int} (hb : ∀ x : Int, 0 ≤ x → x < n → nx x < n) (h0 : 0 ≤ f0) (h1 : f0 < n) :
    ∀ (m : Nat) (f : Int) (out : List Int), Pre nx n f0 f out → n + 1 ≤ m + out.length → Is nx f0 (go nx m f out) := by
  intro m
  induction m with
  | zero => intro f out h hm; have := h.len; omega
  | succ m ih =>
    intro f out h hm
    unfold go
    by_cases he : f < 0 ∨ f ∈ out
    · rw [if_pos he]
      refine h.done ?_ he
      rintro rfl
      rcases h.hd with ⟨_, rfl⟩ | h2
      · rcases he with he | he
        · omega
        · simp at he
      · simp at h2
    · rw [if_neg he]
      simp only [not_or, Int.not_lt] at he
      exact ih _ _ (h.step he.1 he.2 (hb f he.1 h.lt)) (by simp; omega)

theorem Is.at_eq {nx : Int → Int} {f : Int} {L M : List Int} (h : Is nx f L) (k : Is nx f M) : ∀ i (h1 : i < L.length) (h2 : i < M.length), L[i] = M[i] := by
  intro i
  induction i with
  | zero =>
    intro h1 h2
    have a := h.hd; have b := k.hd
    rw [List.head?_eq_getElem?, List.getElem?_eq_getElem h1] at a
    rw [List.head?_eq_getElem?, List.getElem?_eq_getElem h2] at b
    injection a with a; injection b with b
    rw [a, b]
  | succ i ih =>
    intro h1 h2
    rw [h.st i h1, k.st i h2, ih (by omega) (by omega)]
theorem Is.le_len {nx : Int → Int} {f : Int} {L M : List Int} (h : Is nx f L) (k : Is nx f M) : L.length ≤ M.length := by
  rcases Nat.lt_or_ge M.length L.length with hl | hl
  · exfalso
    have hm : 0 < M.length := by cases M with | nil => exact absurd rfl k.ne | cons _ _ => simp
    have e : M.getLast? = some M[M.length - 1] := by rw [List.getLast?_eq_getElem?, List.getElem?_eq_getElem (by omega)]
    have hn : L[M.length] = nx M[M.length - 1] := by
      have := h.st (M.length - 1) (by omega)
      have e2 : M.length - 1 + 1 = M.length := by omega
      simp only [e2] at this
      rw [this, h.at_eq k (M.length - 1) (by omega) (by omega)]
    rcases k.en _ e with hx | hx
    · have := h.pos L[M.length] (List.getElem_mem _); omega
    · rw [← hn] at hx
      obtain ⟨j, hj, hjj⟩ := List.getElem_of_mem hx
      rw [← h.at_eq k j (by omega) hj] at hjj
      have := nd_inj h.nd (by omega) hl hjj
      omega
  · exact hl
theorem Is.uniq {nx : Int → Int} {f : Int} {L M : List Int} (h : Is nx f L) (k : Is nx f M) : L = M :=
  List.ext_getElem (Nat.le_antisymm (h.le_len k) (k.le_len h)) (fun i h1 h2 => h.at_eq k i h1 h2)

theorem Is.lt {nx : Int → Int} {n : Nat} {f : Int} {L : List Int} (h : Is nx f L) (hb : ∀ x : Int, 0 ≤ x → x < n → nx x < n) (hf : f < n) : ∀ x ∈ L, 0 ≤ x ∧ x < n := by
  have hr : ∀ k (hk : k < L.length), 0 ≤ L[k] ∧ L[k] < n := by
    intro k
    induction k with
    | zero =>
      intro hk
      have a := h.hd
      rw [List.head?_eq_getElem?, List.getElem?_eq_getElem hk] at a
      injection a with a
      exact ⟨h.pos _ (List.getElem_mem _), by omega⟩
    | succ k ih =>
      intro hk
      have h2 := ih (by omega)
      have h3 := hb _ h2.1 h2.2
      rw [← h.st k hk] at h3
      exact ⟨h.pos _ (List.getElem_mem _), h3⟩
  intro x hx
  obtain ⟨k, hk, e⟩ := List.getElem_of_mem hx
  rw [← e]; exact hr k hk

/-- the chain from one of a chain is its rest, if the end leads nowhere or there -/
theorem Is.drop {nx : Int → Int} {f : Int} {L : List Int} (h : Is nx f L) {p : Nat} (hp : p < L.length) (he : ∀ x, L.getLast? = some x → nx x < 0 ∨ nx x ∈ L.drop p) : Is nx L[p] (L.drop p) := by
  refine ⟨h.nd.sublist (List.drop_sublist p L), fun x hx => h.pos x (List.mem_of_mem_drop hx), ?_, ?_, ?_, ?_⟩
  · intro e
    have := congrArg List.length e
    simp at this; omega
  · rw [List.head?_drop, List.getElem?_eq_getElem hp]
  · intro k hk
    simp at hk
    rw [List.getElem_drop, List.getElem_drop]
    have := h.st (p + k) (by omega)
    simpa [Nat.add_assoc] using this
  · intro x hx
    refine he x ?_
    rw [List.getLast?_drop] at hx
    split at hx
    · cases hx
    · exact hx

/-- from no one leads the link back to it -/
def noBack (nx : Int → Int) (n : Nat) : Prop := ∀ i : Int, 0 ≤ i → i < n → ∀ L, Is nx (nx i) L → i ∉ L
def allEnd (nx : Int → Int) (n : Nat) : Prop := ∀ f : Int, 0 ≤ f → f < n → ∀ L, Is nx f L → ∀ x, L.getLast? = some x → nx x < 0

theorem end_of_noBack {nx : Int → Int} {n : Nat} (hb : ∀ x : Int, 0 ≤ x → x < n → nx x < n) (h : noBack nx n) : allEnd nx n := by
  intro f h0 h1 L hL x hx
  rcases hL.en x hx with he | he
  · exact he
  · exfalso
    obtain ⟨p, hp, hpp⟩ := List.getElem_of_mem he
    have hr : ∀ k (hk : k < L.length), 0 ≤ L[k] ∧ L[k] < n := by
      intro k
      induction k with
      | zero =>
        intro hk
        have a := hL.hd
        rw [List.head?_eq_getElem?, List.getElem?_eq_getElem hk] at a
        injection a with a; omega
      | succ k ih =>
        intro hk
        have h2 := ih (by omega)
        have h3 := hb _ h2.1 h2.2
        rw [← hL.st k hk] at h3
        exact ⟨hL.pos _ (List.getElem_mem _), h3⟩
    have hxl : x ∈ L := List.mem_of_getLast? hx
    obtain ⟨q, hq, hqq⟩ := List.getElem_of_mem hxl
    have hxr := hr q hq
    rw [hqq] at hxr
    have hd := hL.drop hp (fun y hy => by
      rw [hx] at hy; injection hy with hy; subst hy
      right
      rw [← hpp]
      have e : L.drop p = L[p] :: L.drop (p + 1) := List.drop_eq_getElem_cons hp
      rw [e]; exact List.mem_cons_self)
    rw [hpp] at hd
    refine h x hxr.1 hxr.2 _ hd ?_
    have hlast : q = L.length - 1 := by
      rw [List.getLast?_eq_getElem?, List.getElem?_eq_getElem (by omega)] at hx
      injection hx with hx
      exact nd_inj hL.nd hq (by omega) (hqq.trans hx.symm)
    rw [List.mem_iff_getElem]
    refine ⟨q - p, by simp; omega, ?_⟩
    rw [List.getElem_drop]
    have e2 : p + (q - p) = q := by omega
    simp only [e2]; exact hqq

theorem noBack_of_end {nx : Int → Int} {n : Nat} (h : allEnd nx n) : noBack nx n := by
  intro i h0 h1 L hL hm
  obtain ⟨p, hp, hpp⟩ := List.getElem_of_mem hm
  -- the chain from i: i, then L's first part up to i
  have hl : 0 < L.length := by omega
  have hd0 : L[0] = nx i := by
    have a := hL.hd
    rw [List.head?_eq_getElem?, List.getElem?_eq_getElem hl] at a
    injection a
  have hI : Is nx i (i :: L.take p) := by
    refine ⟨?_, ?_, by simp, rfl, ?_, ?_⟩
    · rw [List.nodup_cons]
      refine ⟨fun hc => ?_, hL.nd.sublist (List.take_sublist p L)⟩
      obtain ⟨j, hj, hjj⟩ := List.getElem_of_mem hc
      rw [List.getElem_take] at hjj
      simp at hj
      have := nd_inj hL.nd (by omega) hp (hjj.trans hpp.symm)
      omega
    · intro x hx
      rcases List.mem_cons.1 hx with rfl | hx
      · exact h0
      · exact hL.pos x (List.mem_of_mem_take hx)
    · intro k hk
      simp at hk
      cases k with
      | zero => simpa using hd0
      | succ k =>
        simp
        exact hL.st k (by omega)
    · intro x hx
      right
      cases p with
      | zero =>
        simp at hx
        subst hx
        rw [← hd0, hpp]; simp
      | succ p =>
        have e : (i :: L.take (p + 1)).getLast? = some L[p] := by
          rw [List.getLast?_cons]
          have : (L.take (p + 1)).getLast? = some L[p] := by
            rw [List.getLast?_eq_getElem?, List.length_take]
            have : min (p + 1) L.length - 1 = p := by omega
            rw [this, List.getElem?_take, if_pos (by omega), List.getElem?_eq_getElem (by omega)]
          rw [this]; rfl
        rw [e] at hx; injection hx with hx; subst hx
        rw [← hL.st p hp, hpp]; simp
  have hne := hI.ne
  obtain ⟨x, hx⟩ : ∃ x, (i :: L.take p).getLast? = some x := by
    cases hg : (i :: L.take p).getLast? with
    | none => simp at hg
    | some x => exact ⟨x, rfl⟩
  have := h i h0 h1 _ hI x hx
  rcases hI.en x hx with he | he
  · -- its last one leads to i
    cases p with
    | zero =>
      simp at hx
      subst hx
      have : nx i = i := by rw [← hd0, hpp]
      omega
    | succ p =>
      have e : (i :: L.take (p + 1)).getLast? = some L[p] := by
        rw [List.getLast?_cons]
        have : (L.take (p + 1)).getLast? = some L[p] := by
          rw [List.getLast?_eq_getElem?, List.length_take]
          have : min (p + 1) L.length - 1 = p := by omega
          rw [this, List.getElem?_take, if_pos (by omega), List.getElem?_eq_getElem (by omega)]
        rw [this]; rfl
      rw [e] at hx; injection hx with hx; rw [← hx] at he
      rw [← hL.st p hp, hpp] at he
      omega
  · have := hI.pos _ he; omega
end Chn
end

section
theorem inRange_any (a b c : Int) (w : World) : Calls Try.prog 88 #[.int .i64 a, .int .i64 b, .int .i64 c] w fun e w' => e = .returned (.bool (decide (b ≤ a) && decide (a ≤ c))) ∧ w = w' := by
  go_enter Try.func88, Try.ntmps88
  go_wp2
  all_goals (go_ret; simp_all)
  all_goals omega

theorem hasInt_any (A : Option Addr) (n cap : Nat) (zs : List Int) (x : Int) (w : World) (hR : Sl w A n cap zs) :
    Calls Try.prog 119 #[.slice A n cap, .int .i64 x] w fun e w' => e = .returned (.bool (hasI zs x)) ∧ w = w' := by
  obtain rfl := hR.len
  have hm := hR.n_le
  go_enter Try.func119, Try.ntmps119
  go_wp2
  go_loop [5] (fun i => ∃ k : Nat, k ≤ zs.length ∧ i = .int .i64 k ∧ hasI zs x = hasI (zs.drop k) x) (fun i => zs.length - (intOf i).toNat)
  case atStart => exact ⟨0, Nat.zero_le _, rfl, rfl⟩
  case round =>
    obtain ⟨k, hk, rfl, hr⟩ := hrel
    have HR := Lib.hid hr; clear hr
    by_cases hlt : k < zs.length
    · obtain ⟨b, off, rfl, _, hcell, _, _⟩ := hR.int_at hlt
      cases he : zs[k] == x
      · have HF : Hid (hasI zs x = hasI (zs.drop (k + 1)) x) := by show _ = _; rw [HR.out, hasI_at hlt, he]; rfl
        go_wp2
        go_round
        case rel => exact ⟨k + 1, by omega, by go_num, HF.out⟩
        case measure => simp [intOf]; omega
      · have HF : Hid (hasI zs x = true) := by show _ = _; rw [HR.out, hasI_at hlt, he]; rfl
        go_wp2
        go_ret
        exact ⟨ret_bool HF.out.symm, rfl⟩
    · have HF : Hid (hasI zs x = false) := by show _ = _; rw [HR.out, hasI_end hlt]
      go_wp2
      go_ret
      exact ⟨ret_bool HF.out.symm, rfl⟩

theorem validName_any (s : ByteArray) (w : World) (hs : s.size ≤ 9223372036854775807) : Calls Try.prog 94 #[.string s] w fun e w' => e = .returned (.bool (okName s)) ∧ w = w' := by
  go_enter Try.func94, Try.ntmps94
  go_wp2
  go_loop [3] (fun i => ∃ k : Nat, k ≤ s.size ∧ i = .int .i64 k ∧ lowers s.data.toList = lowers (s.data.toList.drop k)) (fun i => s.size - (intOf i).toNat)
  case atStart => exact ⟨0, Nat.zero_le _, rfl, rfl⟩
  case round =>
    obtain ⟨k, hk, rfl, hr⟩ := hrel
    have HR := Lib.hid hr; clear hr
    by_cases hlt : k < s.size
    · have hc : 0 ≤ (s[k].toNat : Int) ∧ (s[k].toNat : Int) ≤ 255 := by have := UInt8.toNat_lt s[k]; omega
      by_cases h1 : s[k].toNat < 97
      · have HF : Hid (okName s = false) := by show _ = _; unfold okName; rw [HR.out, lowers_at hlt, decide_eq_false (p := 97 ≤ s[k].toNat) (by omega)]; rfl
        go_wp2
        go_ret
        exact ⟨ret_bool HF.out.symm, rfl⟩
      · by_cases h2 : 122 < s[k].toNat
        · have HF : Hid (okName s = false) := by show _ = _; unfold okName; rw [HR.out, lowers_at hlt, decide_eq_false (p := s[k].toNat ≤ 122) (by omega)]; simp
          go_wp2
          go_ret
          exact ⟨ret_bool HF.out.symm, rfl⟩
        · have HF : Hid (lowers s.data.toList = lowers (s.data.toList.drop (k + 1))) := by show _ = _; rw [HR.out, lowers_at hlt, decide_eq_true (p := 97 ≤ s[k].toNat) (by omega), decide_eq_true (p := s[k].toNat ≤ 122) (by omega)]; rfl
          go_wp2
          go_round
          case rel => exact ⟨k + 1, by omega, by go_num, HF.out⟩
          case measure => simp [intOf]; omega
    · have HF : Hid (okName s = (decide ((1 : Int) ≤ s.size) && decide ((s.size : Int) ≤ 6))) := by
        show _ = _; unfold okName; rw [HR.out, lowers_end hlt, Bool.true_and]; congr 1 <;> exact decide_eq_decide.2 (by omega)
      go_wp2_with (go_at_call 88; refine (inRange_any _ _ _ _).mono ?_; rintro e w' ⟨rfl, rfl⟩)
      go_ret
      exact ⟨ret_bool HF.out.symm, rfl⟩

theorem classNamed_any (A : Option Addr) (n cap : Nat) (xs : List Cls) (s : ByteArray) (w : World) (hR : Sl w A n cap xs) :
    Calls Try.prog 95 #[.slice A n cap, .string s] w fun e w' => e = .returned (.int .i64 (findN xs s 0)) ∧ w = w' := by
  obtain rfl := hR.len
  have hm := hR.n_le
  go_enter Try.func95, Try.ntmps95
  go_wp2
  go_loop [5] (fun i => ∃ k : Nat, k ≤ xs.length ∧ i = .int .i64 k ∧ findN xs s 0 = findN (xs.drop k) s k) (fun i => xs.length - (intOf i).toNat)
  case atStart => exact ⟨0, Nat.zero_le _, rfl, rfl⟩
  case round =>
    obtain ⟨k, hk, rfl, hr⟩ := hrel
    have HR := Lib.hid hr; clear hr
    by_cases hlt : k < xs.length
    · obtain ⟨b, off, rfl, _, hcell, hcell2, _, _, _⟩ := hR.cls_at hlt
      by_cases he : xs[k].name = s
      · have he' := str_eq he
        have HF : Hid (findN xs s 0 = k) := by show _ = _; rw [HR.out, findN_at hlt, if_pos he]
        go_wp2
        go_ret
        exact ⟨ret_int HF.out.symm, rfl⟩
      · have he' := str_ne he
        have HF : Hid (findN xs s 0 = findN (xs.drop (k + 1)) s ((k + 1 : Nat) : Int)) := by show _ = _; rw [HR.out, findN_at hlt, if_neg he]; rfl
        go_wp2
        go_round
        case rel => exact ⟨k + 1, by omega, by go_num, HF.out⟩
        case measure => simp [intOf]; omega
    · have HF : Hid (findN xs s 0 = -1) := by show _ = _; rw [HR.out, findN_end hlt]
      go_wp2
      go_ret
      exact ⟨ret_int HF.out.symm, rfl⟩
end
end Go.Proofs.Ytlepgfccnfcagaa
