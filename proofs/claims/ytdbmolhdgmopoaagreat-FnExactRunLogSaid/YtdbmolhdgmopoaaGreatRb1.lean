/- one text of K, TyClass, L, KB, TL, TlClass, TyLine, TlLine, TyFault, PC, P, A, B, I, OP -/
import Derived.Test.YtdbmolhdgmopoaaGreatRows
import Derived.WalkKit
import Derived.Lib.Hide
import Derived.Deep.Draws
import Derived.Deep.QuietTactic
import Derived.BigQuiet
import Derived.Deep.RegionWith
import Derived.Deep.RegionHeld3
namespace Go.Proofs.YtdbmolhdgmopoaaGreat
open Go.RowKit
section
/-- w' is w and more: nothing that was there has turned. -/
def Le (w w' : World) : Prop := Below w.heap.size w w'
theorem Le.refl (w : World) : Le w w := Below.refl _ _
theorem Le.trans {a b c : World} (h : Le a b) (k : Le b c) : Le a c := Below.trans h (Below.mono k h.size)
theorem Le.alloc {a w : World} (h : Le a w) (o : Obj) : Le a (w.alloc o) := Below.alloc h h.size o
theorem Le.drew {a w : World} (h : Le a w) : Le a w.drew := Below.drew h
theorem Le.drewN {a w : World} (h : Le a w) (n : Nat) : Le a (w.drewN n) := Below.trans h ⟨rfl, rfl, rfl, Nat.le_refl _, fun _ _ => rfl⟩
theorem Le.setCell {a w : World} (h : Le a w) {b o : Nat} (hb : a.heap.size ≤ b) (u : Value) : Le a (w.setCell ⟨b, o, none⟩ u) := Below.setCell h (p := ⟨b, o, none⟩) hb u
theorem Le.cell {w w' : World} (h : Le w w') {b o : Nat} (hb : b < w.heap.size) : w'.cell? ⟨b, o, none⟩ = w.cell? ⟨b, o, none⟩ := Below.cell h (p := ⟨b, o, none⟩) hb
theorem Le.frozen {w w' : World} (h : Le w w') {b o : Nat} (hb : b < w.heap.size) : w'.frozen? ⟨b, o, none⟩ = w.frozen? ⟨b, o, none⟩ := Below.frozen h (p := ⟨b, o, none⟩) hb
theorem Le.new (w : World) (o : Obj) : Le w (w.alloc o) := (Le.refl w).alloc o
theorem Le.grown {a w w' : World} (h : Le a w) {row : Option Nat} (hg : w.grownBy w' row) (hr : ∀ k, row = some k → a.heap.size ≤ k) : Le a w' := Below.grown h hg h.size hr

theorem ret_bool {a b : Bool} (h : a = b) : Ending.returned (.bool a) = .returned (.bool b) := by rw [h]
theorem ret_int {a b : Int} (h : a = b) : Ending.returned (.int .i64 a) = .returned (.int .i64 b) := by rw [h]
theorem ret_str {a b : ByteArray} (h : a = b) : Ending.returned (.string a) = .returned (.string b) := by rw [h]

/-- How a value of the type lies in memory: so many cells; what its numbers and texts keep to. -/
class Enc (α : Type) where
  size : Nat
  cells : α → List Value
  ok : α → Prop
  len : ∀ x, (cells x).length = size

theorem flat_at {α : Type} [Enc α] (xs : List α) : ∀ (k : Nat) (hk : k < xs.length) (j : Nat), j < Enc.size α → (xs.flatMap Enc.cells)[k * Enc.size α + j]? = (Enc.cells xs[k])[j]? := by
  induction xs with
  | nil => intro k hk; simp at hk
  | cons x r ih =>
    intro k hk j hj
    rw [List.flatMap_cons]
    cases k with
    | zero => rw [List.getElem?_append_left (by rw [Enc.len]; omega)]; simp
    | succ k =>
      rw [List.getElem?_append_right (by rw [Enc.len, Nat.succ_mul]; omega), Enc.len]
      have e : (k + 1) * Enc.size α + j - Enc.size α = k * Enc.size α + j := by rw [Nat.succ_mul]; omega
      rw [e, ih k (by simpa using hk) j hj]; rfl
theorem flat_len {α : Type} [Enc α] (xs : List α) : (xs.flatMap Enc.cells).length = xs.length * Enc.size α := by
  induction xs with
  | nil => simp
  | cons x r ih => rw [List.flatMap_cons, List.length_append, ih, Enc.len, List.length_cons, Nat.succ_mul]; omega

/-- The slice .slice A n cap reads as the list xs. -/
structure Sl {α : Type} [Enc α] (w : World) (A : Option Addr) (n cap : Nat) (xs : List α) : Prop where
  len : xs.length = n
  cap_ : n ≤ cap
  max : cap ≤ 9223372036854775807
  ok : ∀ x ∈ xs, Enc.ok x
  at_ : 0 < n → ∃ b off, A = some ⟨b, off, none⟩ ∧ b < w.heap.size ∧ ∀ j u, (xs.flatMap Enc.cells)[j]? = some u → w.cell? ⟨b, off + j, none⟩ = some u

section
variable {α : Type} [Enc α] {w w' : World} {A : Option Addr} {n cap : Nat} {xs : List α}
theorem Sl.nil (w : World) (A : Option Addr) (cap : Nat) (h : cap ≤ 9223372036854775807) : Sl w A 0 cap ([] : List α) := ⟨rfl, Nat.zero_le _, h, (fun _ h => nomatch h), fun h => absurd h (by omega)⟩
theorem Sl.n_le (h : Sl w A n cap xs) : n ≤ 9223372036854775807 := Nat.le_trans h.cap_ h.max
theorem Sl.le (h : Sl w A n cap xs) (hb : Le w w') : Sl w' A n cap xs :=
  ⟨h.len, h.cap_, h.max, h.ok, fun hn => by
    obtain ⟨b, off, e, hlt, hc⟩ := h.at_ hn
    exact ⟨b, off, e, Nat.lt_of_lt_of_le hlt hb.size, fun j u hu => (hb.cell hlt).trans (hc j u hu)⟩⟩
theorem Sl.alloc (h : Sl w A n cap xs) (o : Obj) : Sl (w.alloc o) A n cap xs := h.le (Le.new w o)
theorem Sl.take_ (h : Sl w A n cap xs) (k : Nat) (hk : k ≤ n) : Sl w A k cap (xs.take k) := by
  refine ⟨by rw [List.length_take, h.len]; omega, Nat.le_trans hk h.cap_, h.max, fun x hx => h.ok x (List.mem_of_mem_take hx), fun hn => ?_⟩
  obtain ⟨b, off, e, hb, hc⟩ := h.at_ (by omega)
  refine ⟨b, off, e, hb, fun j u hu => hc j u ?_⟩
  have hsplit : xs.flatMap Enc.cells = (xs.take k).flatMap Enc.cells ++ (xs.drop k).flatMap Enc.cells := by rw [← List.flatMap_append, List.take_append_drop]
  rw [hsplit, List.getElem?_append_left (by
    have := (List.getElem?_eq_some_iff.1 hu).1
    exact this)]
  exact hu
theorem Sl.cells_ (h : Sl w A n cap xs) {k : Nat} (hk : k < xs.length) :
    ∃ b off, A = some ⟨b, off, none⟩ ∧ b < w.heap.size ∧ ∀ j, j < Enc.size α → ∀ u, (Enc.cells xs[k])[j]? = some u → w.cell? ⟨b, off + (k * Enc.size α + j), none⟩ = some u := by
  obtain ⟨b, off, e, hb, hc⟩ := h.at_ (by have := h.len; omega)
  exact ⟨b, off, e, hb, fun j hj u hu => hc _ _ ((flat_at xs k hk j hj).trans hu)⟩
end

instance instEncInt : Enc Int := ⟨1, fun x => [.int .i64 x], fun x => -9223372036854775808 ≤ x ∧ x ≤ 9223372036854775807, fun _ => rfl⟩
theorem Sl.int_at {w : World} {A : Option Addr} {n cap : Nat} {xs : List Int} (h : Sl w A n cap xs) {k : Nat} (hk : k < xs.length) :
    ∃ b off, A = some ⟨b, off, none⟩ ∧ b < w.heap.size ∧ w.cell? ⟨b, off + k, none⟩ = some (.int .i64 xs[k]) ∧ -9223372036854775808 ≤ xs[k] ∧ xs[k] ≤ 9223372036854775807 := by
  obtain ⟨b, off, e, hb, hc⟩ := h.cells_ hk
  have := hc 0 (by decide) _ rfl
  exact ⟨b, off, e, hb, by simpa [Enc.size] using this, (h.ok xs[k] (List.getElem_mem hk)).1, (h.ok xs[k] (List.getElem_mem hk)).2⟩

/-- a class -/
structure Cls where
  name : ByteArray
  parent : Int
instance instEncCls : Enc Cls := ⟨2, fun c => [.string c.name, .int .i64 c.parent], fun c => c.name.size ≤ 9223372036854775807 ∧ -9223372036854775808 ≤ c.parent ∧ c.parent ≤ 9223372036854775807, fun _ => rfl⟩
theorem Sl.cls_at {w : World} {A : Option Addr} {n cap : Nat} {xs : List Cls} (h : Sl w A n cap xs) {k : Nat} (hk : k < xs.length) :
    ∃ b off, A = some ⟨b, off, none⟩ ∧ b < w.heap.size ∧ w.cell? ⟨b, off + k * 2, none⟩ = some (.string xs[k].name) ∧ w.cell? ⟨b, off + k * 2 + 1, none⟩ = some (.int .i64 xs[k].parent) ∧
      xs[k].name.size ≤ 9223372036854775807 ∧ -9223372036854775808 ≤ xs[k].parent ∧ xs[k].parent ≤ 9223372036854775807 := by
  obtain ⟨b, off, e, hb, hc⟩ := h.cells_ hk
  have h0 := hc 0 (by decide) _ rfl
  have h1 := hc 1 (by decide) _ rfl
  have hk' := h.ok xs[k] (List.getElem_mem hk)
  exact ⟨b, off, e, hb, by simpa [Enc.size] using h0, by simpa [Enc.size, Nat.add_assoc] using h1, hk'.1, hk'.2.1, hk'.2.2⟩

theorem str_eq {a b : ByteArray} (h : a = b) : (a.toList == b.toList) = true := by subst h; simp
theorem str_ne {a b : ByteArray} (h : a ≠ b) : (a.toList == b.toList) = false := by
  rw [beq_eq_false_iff_ne]
  intro e
  rw [ByteArray.toList_eq, ByteArray.toList_eq] at e
  apply h
  cases a; cases b; simp at e; rw [e]

/-- The worlds that are w and more, as a class that the walk sees through. -/
def Ext (w : World) : Type := { w' : World // Le w w' }
instance instNonemptyExt (w : World) : Nonempty (Ext w) := ⟨⟨w, Le.refl w⟩⟩
def _root_.Go.World.ext (w : World) (g : Ext w) : World := g.1
theorem Le.ext (w : World) (g : Ext w) : Le w (w.ext g) := g.2
theorem Sl.ext {α : Type} [Enc α] {w : World} {A : Option Addr} {n cap : Nat} {xs : List α} (h : Sl w A n cap xs) (g : Ext w) : Sl (w.ext g) A n cap xs := h.le (Le.ext w g)
theorem cell_ext {w : World} {b o : Nat} {v : Value} (hb : b < w.heap.size) (h : w.cell? ⟨b, o, none⟩ = some v) : ∀ g : Ext w, (w.ext g).cell? ⟨b, o, none⟩ = some v := fun g => ((Le.ext w g).cell hb).trans h
theorem wp_region_ext {P : Program} {id : Nat} {Q : Exit → Act → World → Prop} {a : Act} {w : World} {l : List Oper} (hm : P.follows .mixedOrders = true) (hB : Region.lexB .any l.toArray = true)
    (h : wpQuiet P l.toArray (fun w' => ∃ g : Ext w, w' = w.ext g) (fun a' => ∀ w', (∃ g : Ext w, w' = w.ext g) → Q .normal a' w') l a) : (Code.region id l.toArray true).wp P Q a w :=
  wp_region_quiet (C := fun w' => ∃ g : Ext w, w' = w.ext g) hm hB ⟨⟨w.drew, (Le.refl w).drew⟩, rfl⟩ (by simpa using h)
theorem Calls.val {P : Program} {f : FuncId} {args : Array Value} {w : World} {v v' : Value} {R : World → Prop} (h : Calls P f args w fun e w' => e = .returned v ∧ R w') (hv : v = v') : Calls P f args w fun e w' => e = .returned v' ∧ R w' :=
  h.mono fun _ _ ⟨he, hr⟩ => ⟨by rw [he, hv], hr⟩
theorem vb {a b : Bool} (h : a = b) : Value.bool a = Value.bool b := by rw [h]
theorem vi {a b : Int} (h : a = b) : Value.int .i64 a = Value.int .i64 b := by rw [h]
theorem Calls.ext_of {P : Program} {f : FuncId} {args : Array Value} {w : World} {g : Ext w} {v : Value}
    (h : Calls P f args (w.ext g) fun e w' => e = .returned v ∧ Le (w.ext g) w') : Calls P f args (w.ext g) fun e w'' => e = .returned v ∧ ∃ g' : Ext w, w'' = w.ext g' :=
  h.mono fun _ w' ⟨he, hm⟩ => ⟨he, ⟨w', (Le.ext w g).trans hm⟩, rfl⟩
theorem Calls.ext_same {P : Program} {f : FuncId} {args : Array Value} {w : World} {g : Ext w} {v : Value}
    (h : Calls P f args (w.ext g) fun e w' => e = .returned v ∧ w.ext g = w') : Calls P f args (w.ext g) fun e w'' => e = .returned v ∧ ∃ g' : Ext w, w'' = w.ext g' :=
  h.mono fun _ _ ⟨he, hm⟩ => ⟨he, g, hm.symm⟩

theorem own_le {w w' : World} {base : Nat} {e : TypeId} {size : Nat} {v : Value} {n : Nat} {xs : List Value} (h : w.ownsRow base e size v n xs) (hb : Le w w') : w'.ownsRow base e size v n xs := by
  refine ⟨h.1, ?_⟩
  rcases h.2 with h' | ⟨g, cap, cur, hv, hg0, hg, hnc, hcm, hcs, ht⟩
  · exact .inl h'
  · have hlt : g < w.heap.size := by
      rcases Nat.lt_or_ge g w.heap.size with hlt | hge
      · exact hlt
      · rw [Array.getElem?_eq_none hge] at hg; cases hg
    exact .inr ⟨g, cap, cur, hv, hg0, (Below.block hb g hlt).trans hg, hnc, hcm, hcs, ht⟩
theorem own_lt {w : World} {base : Nat} {e : TypeId} {size : Nat} {g cap n : Nat} {xs : List Value} (h : w.ownsRow base e size (.slice (some ⟨g, 0, none⟩) n cap) n xs) : g < w.heap.size := (h.lt g rfl).2
/-- what the call owns reads as a list -/
theorem Sl.of_own {α : Type} [Enc α] {w : World} {base : Nat} {e : TypeId} {size : Nat} {A : Option Addr} {n cap : Nat} {xs : List α} (h : w.ownsRow base e size (.slice A n cap) n (xs.flatMap Enc.cells)) (hs : size = Enc.size α) (hp : 0 < size) (hok : ∀ x ∈ xs, Enc.ok x) : Sl w A n cap xs := by
  have hl : xs.length = n := by
    have := h.1
    rw [flat_len, hs] at this
    exact Nat.eq_of_mul_eq_mul_right (by omega) this
  rcases h.2 with ⟨h', hn⟩ | ⟨g, cap', cur, hv, hg0, hg, hnc, hcm, hcs, ht⟩
  · simp only [Value.slice.injEq] at h'
    obtain ⟨rfl, rfl, rfl⟩ := h'
    exact ⟨hl, by omega, by omega, hok, fun h => absurd h (by omega)⟩
  · simp only [Value.slice.injEq, true_and] at hv
    obtain ⟨rfl, rfl⟩ := hv
    refine ⟨hl, hnc, by simpa [maxLen] using hcm, hok, fun _ => ⟨g, 0, rfl, own_lt h, fun j u hu => ?_⟩⟩
    have hj : j < n * size := by
      have := (List.getElem?_eq_some_iff.1 hu).1
      rw [h.1] at this; exact this
    rw [Nat.zero_add]
    exact (h.cellAt j hj).trans hu
end

section
theorem flat_cls_name : ∀ (xs : List Cls) (k : Nat) (h : k < xs.length) (z : ByteArray), (xs.flatMap Enc.cells).set (k * 2) (.string z) = (xs.set k {xs[k] with name := z}).flatMap Enc.cells
  | x :: r, 0, _, z => rfl
  | x :: r, k + 1, h, z => by
    have ih := flat_cls_name r k (by simpa using h) z
    have e : (k + 1) * 2 = k * 2 + 1 + 1 := by omega
    rw [e]
    show Value.string x.name :: Value.int .i64 x.parent :: (r.flatMap Enc.cells).set (k * 2) (.string z) = _
    rw [ih]; rfl
theorem flat_cls_parent : ∀ (xs : List Cls) (k : Nat) (h : k < xs.length) (z : Int), (xs.flatMap Enc.cells).set (k * 2 + 1) (.int .i64 z) = (xs.set k {xs[k] with parent := z}).flatMap Enc.cells
  | x :: r, 0, _, z => rfl
  | x :: r, k + 1, h, z => by
    have ih := flat_cls_parent r k (by simpa using h) z
    have e : (k + 1) * 2 + 1 = k * 2 + 1 + 1 + 1 := by omega
    rw [e]
    show Value.string x.name :: Value.int .i64 x.parent :: (r.flatMap Enc.cells).set (k * 2 + 1) (.int .i64 z) = _
    rw [ih]; rfl
end

section
theorem grown_set (w : World) (b o : Nat) (u : Value) : w.grownBy (w.setCell ⟨b, o, none⟩ u) (some b) :=
  ⟨rfl, rfl, rfl, by simp [World.setCell], fun k _ hk => heap_setCell_other w ⟨b, o, none⟩ k u (fun e => hk (by simp [e]))⟩
theorem own_set {w : World} {base : Nat} {e : TypeId} {size n cap g b o : Nat} {xs : List Value} (h : w.ownsRow base e size (.slice (some ⟨g, 0, none⟩) n cap) n xs) (hb : g ≠ b) (u : Value) :
    (w.setCell ⟨b, o, none⟩ u).ownsRow base e size (.slice (some ⟨g, 0, none⟩) n cap) n xs := h.kept (grown_set w b o u) (.inr (by simp [Value.ownBlock]; exact hb))
theorem cell_set_same {w : World} {b o : Nat} {u v : Value} (h : w.cell? ⟨b, o, none⟩ = some u) : (w.setCell ⟨b, o, none⟩ v).cell? ⟨b, o, none⟩ = some v := World.cell?_setCell_same _ _ _ h
theorem cell_set_other {w : World} {b o b' o' : Nat} {v : Value} (h : b ≠ b' ∨ o ≠ o') : (w.setCell ⟨b, o, none⟩ v).cell? ⟨b', o', none⟩ = w.cell? ⟨b', o', none⟩ :=
  World.cell?_setCell_other _ _ _ _ (by intro e; injection e with e1 e2; rcases h with h | h <;> contradiction)
theorem own_mono {w : World} {base base' : Nat} {e : TypeId} {size n : Nat} {v : Value} {xs : List Value} (h : w.ownsRow base e size v n xs) (hb : base' ≤ base) : w.ownsRow base' e size v n xs := ⟨h.1, h.2.imp id (fun ⟨g, cap, cur, hv, hg0, rest⟩ => ⟨g, cap, cur, hv, Nat.le_trans hb hg0, rest⟩)⟩
theorem own_empty {w : World} {base g size : Nat} {e : TypeId} (hb : base ≤ w.heap.size) (hg : g = w.heap.size) : (w.alloc (.cells #[] e)).ownsRow base e size (.slice (some ⟨g, 0, none⟩) 0 0) 0 [] := by
  subst hg
  have h := World.ownsRow_lit (base := base) (e := e) (size := size) w #[] 0 hb (Nat.zero_le _) (by simp)
  simpa using h
theorem hp_new (w : World) (o : Obj) {k : Nat} (hk : k = w.heap.size) : (w.alloc o).heap[k]? = some o := by subst hk; exact heap_alloc_new w o
theorem hp_old (w : World) (o : Obj) {k : Nat} (hk : k < w.heap.size) : (w.alloc o).heap[k]? = w.heap[k]? := Below.heap_alloc w o k hk
end

section
/-- to stop a walk at a builtin and look: go_wp2_with (at_builtin; refine of_stop ?_); unfold Stop -/
def Stop (p : Prop) : Prop := p
theorem of_stop {p : Prop} (h : Stop p) : p := h

theorem own_form {w : World} {base size n : Nat} {e : TypeId} {v : Value} {xs : List Value} (h : w.ownsRow base e size v n xs) : ∃ A c, v = .slice A n c := by
  rcases h.2 with ⟨h, h0⟩ | ⟨g, c, _, h, _⟩
  · exact ⟨none, 0, by rw [h0]; exact h⟩
  · exact ⟨_, c, h⟩
theorem gx_le {g : Option Nat} {a b c : World} (h : a.grownBy b g) (k : Le b c) : a.grownBy c g :=
  ⟨k.os.trans h.os, k.tape.trans h.tape, k.output.trans h.output, Nat.le_trans h.size k.size, fun i hi hne => (Below.block k i (Nat.lt_of_lt_of_le hi h.size)).trans (h.block i hi hne)⟩
theorem gx_set {g o : Nat} {a b : World} (h : a.grownBy b (some g)) (u : Value) : a.grownBy (b.setCell ⟨g, o, none⟩ u) (some g) :=
  ⟨h.os, h.tape, h.output, by simpa [World.setCell] using h.size, fun i hi hne => (heap_setCell_other b ⟨g, o, none⟩ i u (fun e => hne (by rw [e]))).trans (h.block i hi hne)⟩
theorem gx_from {g : Option Nat} {a b : World} {o : Obj} (h : (a.alloc o).grownBy b g) : a.grownBy b g :=
  ⟨h.os, h.tape, h.output, by have := h.size; simp at this; omega, fun i hi hne => (h.block i (by simp; omega) hne).trans (Below.heap_alloc _ _ _ hi)⟩

/-- a world with new boxes: what they hold -/
theorem box1 (w : World) (v : Value) (T : TypeId) : (w.alloc (.cells #[v] T)).cell? ⟨w.heap.size, 0, none⟩ = some v ∧ w.heap.size < (w.alloc (.cells #[v] T)).heap.size ∧ Le w (w.alloc (.cells #[v] T)) :=
  ⟨by rw [World.cell?_alloc_at _ _ _ _ rfl]; rfl, by simp, Le.new w _⟩
theorem box2 (w : World) (v u : Value) (T U : TypeId) : ((w.alloc (.cells #[v] T)).alloc (.cells #[u] U)).cell? ⟨w.heap.size, 0, none⟩ = some v ∧ w.heap.size < ((w.alloc (.cells #[v] T)).alloc (.cells #[u] U)).heap.size ∧
    ((w.alloc (.cells #[v] T)).alloc (.cells #[u] U)).cell? ⟨w.heap.size + 1, 0, none⟩ = some u ∧ w.heap.size + 1 < ((w.alloc (.cells #[v] T)).alloc (.cells #[u] U)).heap.size ∧ Le w ((w.alloc (.cells #[v] T)).alloc (.cells #[u] U)) := by
  refine ⟨?_, by simp; omega, ?_, by simp, (Le.new w _).alloc _⟩
  · rw [World.cell?_alloc_past _ _ _ (by simp), World.cell?_alloc_at _ _ _ _ rfl]; rfl
  · rw [World.cell?_alloc_at _ _ _ _ (by simp)]; rfl
/-- what the caller owns of a fresh row -/
structure Owd {α : Type} [Enc α] (T : TypeId) (w0 w : World) (v : Value) (xs : List α) : Prop where
  row : w.ownsRow w0.heap.size T (Enc.size α) v xs.length (xs.flatMap Enc.cells)
  ok : ∀ x ∈ xs, Enc.ok x
theorem Owd.le {α : Type} [Enc α] {T : TypeId} {w0 w w' : World} {v : Value} {xs : List α} (h : Owd T w0 w v xs) (hl : Le w w') : Owd T w0 w' v xs := ⟨own_le h.row hl, h.ok⟩
theorem Owd.mono {α : Type} [Enc α] {T : TypeId} {w0 w00 w : World} {v : Value} {xs : List α} (h : Owd T w0 w v xs) (hl : Le w00 w0) : Owd T w00 w v xs := ⟨own_mono h.row hl.size, h.ok⟩
theorem Owd.nil {α : Type} [Enc α] (T : TypeId) (w0 w : World) : Owd T w0 w (.slice none 0 0) ([] : List α) := ⟨World.ownsRow_nil _ _ _ _, fun _ h => nomatch h⟩
theorem Owd.form {α : Type} [Enc α] {T : TypeId} {w0 w : World} {v : Value} {xs : List α} (h : Owd T w0 w v xs) (hp : 0 < Enc.size α) : ∃ A c, v = .slice A xs.length c ∧ Sl w A xs.length c xs ∧ (∀ k, (Value.slice A xs.length c).ownBlock = some k → w0.heap.size ≤ k ∧ k < w.heap.size) := by
  obtain ⟨A, c, rfl⟩ := own_form h.row
  exact ⟨A, c, rfl, Sl.of_own h.row rfl hp h.ok, fun k hk => h.row.lt k hk⟩
theorem Sl.under {α : Type} [Enc α] {w : World} {A : Option Addr} {n cap : Nat} {xs : List α} (h : Sl w A n cap xs) (hn : 0 < n) : ∀ a, A = some a → a.block < w.heap.size := by
  obtain ⟨b, off, e, hlt, _⟩ := h.at_ hn
  intro a ea; rw [e] at ea; injection ea with ea; rw [← ea]; exact hlt
theorem Sl.grown {α : Type} [Enc α] {w w' : World} {A : Option Addr} {n cap : Nat} {xs : List α} {r : Option Nat} (h : Sl w A n cap xs) (hg : w.grownBy w' r) (hne : 0 < n → ∀ a, A = some a → some a.block ≠ r) : Sl w' A n cap xs :=
  ⟨h.len, h.cap_, h.max, h.ok, fun hn => by
    obtain ⟨b, off, e, hlt, hc⟩ := h.at_ hn
    exact ⟨b, off, e, Nat.lt_of_lt_of_le hlt hg.size, fun j u hu => (World.cell?_of_block (a := ⟨b, off + j, none⟩) (hg.block b hlt (hne hn _ e))).trans (hc j u hu)⟩⟩
theorem box3 (w : World) (v u x : Value) (T U X : TypeId) : (((w.alloc (.cells #[v] T)).alloc (.cells #[u] U)).alloc (.cells #[x] X)).cell? ⟨w.heap.size, 0, none⟩ = some v ∧ w.heap.size < (((w.alloc (.cells #[v] T)).alloc (.cells #[u] U)).alloc (.cells #[x] X)).heap.size ∧
    (((w.alloc (.cells #[v] T)).alloc (.cells #[u] U)).alloc (.cells #[x] X)).cell? ⟨w.heap.size + 1, 0, none⟩ = some u ∧ w.heap.size + 1 < (((w.alloc (.cells #[v] T)).alloc (.cells #[u] U)).alloc (.cells #[x] X)).heap.size ∧
    (((w.alloc (.cells #[v] T)).alloc (.cells #[u] U)).alloc (.cells #[x] X)).cell? ⟨w.heap.size + 1 + 1, 0, none⟩ = some x ∧ w.heap.size + 1 + 1 < (((w.alloc (.cells #[v] T)).alloc (.cells #[u] U)).alloc (.cells #[x] X)).heap.size ∧ Le w (((w.alloc (.cells #[v] T)).alloc (.cells #[u] U)).alloc (.cells #[x] X)) := by
  obtain ⟨a, b, c, d, e⟩ := box2 w v u T U
  refine ⟨?_, by simp <;> omega, ?_, by simp <;> omega, ?_, by simp, e.alloc _⟩
  · rw [World.cell?_alloc_past _ _ _ b]; exact a
  · rw [World.cell?_alloc_past _ _ _ d]; exact c
  · rw [World.cell?_alloc_at _ _ _ _ (by simp)]; rfl
theorem box5 (w : World) (a b c d e : Value) (T : TypeId) : (w.alloc (.cells #[a, b, c, d, e] T)).cell? ⟨w.heap.size, 0, none⟩ = some a ∧ (w.alloc (.cells #[a, b, c, d, e] T)).cell? ⟨w.heap.size, 1, none⟩ = some b ∧ (w.alloc (.cells #[a, b, c, d, e] T)).cell? ⟨w.heap.size, 2, none⟩ = some c ∧
    (w.alloc (.cells #[a, b, c, d, e] T)).cell? ⟨w.heap.size, 3, none⟩ = some d ∧ (w.alloc (.cells #[a, b, c, d, e] T)).cell? ⟨w.heap.size, 4, none⟩ = some e ∧ w.heap.size < (w.alloc (.cells #[a, b, c, d, e] T)).heap.size ∧ Le w (w.alloc (.cells #[a, b, c, d, e] T)) := by
  refine ⟨?_, ?_, ?_, ?_, ?_, by simp, Le.new w _⟩ <;> (rw [World.cell?_alloc_at _ _ _ _ rfl]; rfl)
end

section
section
def SzOut (left : Int) (n : Nat) (w : World) (e : Ending) (w' : World) : Prop := ∃ r : Int, e = .returned (.int .i64 r) ∧ (r = -1 ∨ (0 ≤ r ∧ r ≤ left ∧ (n : Int) ≤ left)) ∧ Le w w'
end

section
theorem byte_str (w : World) (n : Int) : (convert 117 9 (.slice (some ⟨w.heap.size, 0, none⟩) 1 1)).run Tryz.prog (w.alloc (.cells #[.int .u8 n] 5)) = .ok (.string ⟨#[UInt8.ofNat n.toNat]⟩) (w.alloc (.cells #[.int .u8 n] 5)) := by
  rw [run_convert_bytes_string _ _ _ 5 _ _ _ Tryz.underlying117 Tryz.underlying5 Tryz.underlying9]
  have h := run_bytesToString (P := Tryz.prog) (w.alloc (.cells #[.int .u8 n] 5)) ⟨w.heap.size, 0, none⟩ 1 1 [n] (by simp [go_sem, loadCells])
  exact h
def mTxtF : Nat → Int → ByteArray → ByteArray
  | 0, _, o => o
  | f + 1, k, o => if 0 < k then mTxtF f (k / 10) (⟨#[UInt8.ofNat (48 + k % 10).toNat]⟩ ++ o) else o
def mTxt (k : Int) : ByteArray := ⟨#[109]⟩ ++ mTxtF k.toNat k ⟨#[]⟩
theorem mTxtF_end (f : Nat) {k : Int} (h : ¬ 0 < k) (o : ByteArray) : mTxtF f k o = o := by
  cases f with
  | zero => rfl
  | succ f => unfold mTxtF; rw [if_neg h]
theorem mTxtF_step (f : Nat) {k : Int} (h : 0 < k) (o : ByteArray) : mTxtF (f + 1) k o = mTxtF f (k / 10) (⟨#[UInt8.ofNat (48 + k % 10).toNat]⟩ ++ o) := by
  rw [mTxtF, if_pos h]
theorem mTxtF_size (f : Nat) : ∀ (k : Int) (o : ByteArray), 0 ≤ k → (mTxtF f k o).size ≤ k.toNat + o.size := by
  induction f with
  | zero => intro k o h; show o.size ≤ _; omega
  | succ f ih =>
    intro k o h
    by_cases hk : 0 < k
    · rw [mTxtF_step f hk]
      have := ih (k / 10) (⟨#[UInt8.ofNat (48 + k % 10).toNat]⟩ ++ o) (by omega)
      rw [ByteArray.size_append] at this
      have e : (⟨#[UInt8.ofNat (48 + k % 10).toNat]⟩ : ByteArray).size = 1 := rfl
      omega
    · rw [mTxtF_end _ hk]; omega
theorem mTxt_size {k : Int} (h0 : 0 ≤ k) (h1 : k ≤ 2000000000) : (mTxt k).size ≤ 9223372036854775807 := by
  unfold mTxt
  rw [ByteArray.size_append]
  have := mTxtF_size k.toNat k ⟨#[]⟩ h0
  have e : (⟨#[109]⟩ : ByteArray).size = 1 := rfl
  have e2 : (⟨#[]⟩ : ByteArray).size = 0 := rfl
  omega
def TextOut (k : Int) (w : World) (e : Ending) (w' : World) : Prop := e = .returned (.string (mTxt k)) ∧ (mTxt k).size ≤ 9223372036854775807 ∧ Le w w'
set_option maxRecDepth 100000 in
theorem markText_any (k : Int) (w : World) (h0 : 1 ≤ k) (h1 : k ≤ 2000000000) : Calls Tryz.prog 53 #[.int .i64 k] w (TextOut k w) := by
  go_enter Tryz.func53, Tryz.ntmps53
  go_wp2
  go_loopw [0, 3] (fun q o wr => ∃ k' : Int, ∃ s : ByteArray, ∃ f : Nat, 0 ≤ k' ∧ q = .int .i64 k' ∧ o = .string s ∧ k' + s.size ≤ k ∧ k'.toNat ≤ f ∧ mTxtF k.toNat k ⟨#[]⟩ = mTxtF f k' s ∧ Le w wr) (fun q _ _ => (intOf q).toNat)
  case atStart => exact ⟨k, ⟨#[]⟩, k.toNat, by omega, rfl, rfl, by simp [ByteArray.size], Nat.le_refl _, rfl, Le.refl _⟩
  case round =>
    obtain ⟨k', s, f, hk, rfl, rfl, hs, hf, hr, hle⟩ := hrel
    have HR := Lib.hid hr; clear hr
    by_cases hlt : 0 < k'
    · have hbs := byte_str wr (48 + k' % 10)
      cases f with
      | zero => omega
      | succ f =>
      have HF : Hid (mTxtF k.toNat k ⟨#[]⟩ = mTxtF f (k' / 10) (⟨#[UInt8.ofNat (48 + k' % 10).toNat]⟩ ++ s)) := by show _ = _; rw [HR.out, mTxtF_step f hlt]
      go_wp2
      go_roundw
      case rel => exact ⟨k' / 10, _, f, by omega, rfl, rfl, by rw [ByteArray.size_append]; show k' / 10 + ((1 + s.size : Nat) : Int) ≤ k; omega, by omega, HF.out, hle.alloc _⟩
      case measure => simp [intOf]; omega
    · have HF : Hid (mTxt k = ⟨#[109]⟩ ++ s) := by show _ = _; unfold mTxt; rw [HR.out, mTxtF_end f hlt]
      have HS : Hid ((mTxt k).size ≤ 9223372036854775807) := mTxt_size (by omega) h1
      go_wp2
      go_ret
      exact ⟨ret_str HF.out.symm, HS.out, hle⟩
theorem markText_ret (k : Int) (w : World) (h0 : 1 ≤ k) (h1 : k ≤ 2000000000) : Calls Tryz.prog 53 #[.int .i64 k] w fun e w' => e = .returned (.string (mTxt k)) ∧ Le w w' :=
  (markText_any k w h0 h1).mono fun _ _ h => ⟨h.1, h.2.2⟩
end
end

section
theorem infoClass : (Tryz.prog.info? 81).map (fun i => (i.zero, i.size, i.bytes)) = some (some (.agg #[.string ByteArray.empty, .int .i64 0]), 2, 24) := by kernel_rfl
theorem toClass_any (x : Cls) (w : World) :
    Calls Tryz.prog 42 #[.agg #[.string x.name, .int .i64 x.parent]] w fun e w' => e = .returned (.agg #[.string x.name, .int .i64 x.parent]) ∧ Le w w' := by
  go_enter Tryz.func42, Tryz.ntmps42
  go_wp2
  exact bodyPost_ret (v := .agg #[.string x.name, .int .i64 x.parent]) (by simp [results, Tryz.results42, go_sem]) rfl ⟨rfl, ((Le.new w _).alloc _).alloc _⟩

set_option maxRecDepth 100000 in
theorem toClassS_any (A : Option Addr) (n cap : Nat) (xs : List Cls) (w : World) (hR : Sl w A n cap xs) (hn : n ≤ 1048576) :
    Calls Tryz.prog 26 #[.slice A n cap] w fun e w' => e = .returned (.slice (some ⟨w.heap.size, 0, none⟩) n n) ∧ w'.ownsRow w.heap.size 81 2 (.slice (some ⟨w.heap.size, 0, none⟩) n n) n (xs.flatMap Enc.cells) ∧ Le w w' := by
  obtain rfl := hR.len
  obtain ⟨i0, hi, hz0, hz1, hz2⟩ := info_parts infoClass
  have hb2 : i0.bytes * xs.length ≤ 281474976710656 := by rw [hz2]; omega
  go_enter Tryz.func26, Tryz.ntmps26
  go_wp2_with (refine wpList_make_full _ rfl _ _ 35 rfl w.heap.size 81 i0 _ 2 Tryz.underlying35 hi hz0 hz1 .i64 .i64 _ _ xs.length rfl rfl rfl rfl hb2 (by unfold maxLen; omega) (Nat.le_refl _) ?_; intro w1 hown1 hg1)
  have hl1 := (Le.refl w).grown hg1 (by intro k hk; cases hk)
  go_loopw [4] (fun i wr => ∃ k : Nat, ∃ r : List Value, k ≤ xs.length ∧ i = .int .i64 k ∧ r.length = (xs.length - k) * 2 ∧ wr.ownsRow w.heap.size 81 2 (.slice (some ⟨w.heap.size, 0, none⟩) xs.length xs.length) xs.length ((xs.take k).flatMap Enc.cells ++ r) ∧ Le w wr) (fun i _ => xs.length - (intOf i).toNat)
  case atStart => exact ⟨0, _, Nat.zero_le _, rfl, by simp [madeCells], hown1, hl1⟩
  case round =>
    obtain ⟨k, r, hk, rfl, hr, hown, hle⟩ := hrel
    have hRr := hR.le hle
    clear hR hown1 hg1 hl1
    by_cases hlt : k < xs.length
    · obtain ⟨b, off, rfl, hb, hcell0, hcell1, _⟩ := hRr.cls_at hlt
      match r, hr with
      | [], h => simp at h; omega
      | [_], h => simp at h; omega
      | r0 :: r1 :: rr, hr =>
      have hfl : ((xs.take k).flatMap (Enc.cells (α := Cls))).length = k * 2 := by rw [flat_len, List.length_take]; show _ * 2 = _; rw [Nat.min_eq_left (by omega)]
      go_wp2_with fail
      refine (toClass_any xs[k] _).mono ?_
      rintro e w2 ⟨rfl, hw2⟩
      have hown2 := own_le hown hw2
      have hc0 : w2.cell? ⟨w.heap.size, k * 2, none⟩ = some r0 := by rw [hown2.cellAt _ (by omega), List.getElem?_append_right (by omega), hfl]; simp
      have hc1 : w2.cell? ⟨w.heap.size, k * 2 + 1, none⟩ = some r1 := by rw [hown2.cellAt _ (by omega), List.getElem?_append_right (by omega), hfl]; simp
      have hf0 := hown2.frozenAt (k * 2)
      have hf1 := hown2.frozenAt (k * 2 + 1)
      go_wp2
      go_roundw
      case rel =>
        refine ⟨k + 1, rr, by omega, by go_num, by simp at hr; omega, ?_, (hle.trans hw2).setCell (Nat.le_refl _) _ |>.setCell (Nat.le_refl _) _⟩
        have h1 := ((hown2.stored (k * 2) (.string xs[k].name)).1.stored (k * 2 + 1) (.int .i64 xs[k].parent)).1
        have e : (xs.take (k + 1)).flatMap Enc.cells ++ rr = ((((xs.take k).flatMap Enc.cells ++ r0 :: r1 :: rr).set (k * 2) (.string xs[k].name)).set (k * 2 + 1) (.int .i64 xs[k].parent)) := by
          rw [List.take_succ_eq_append_getElem hlt, List.flatMap_append, List.set_append_right _ _ (by omega), List.set_append_right _ _ (by omega), hfl]
          simp [Enc.cells]
        rw [e]; exact h1
      case measure => simp [intOf]; omega
    · have hk' : k = xs.length := by omega
      have hr0 : r = [] := List.eq_nil_of_length_eq_zero (by rw [hr, hk']; simp)
      have HO : Hid (wr.ownsRow w.heap.size 81 2 (.slice (some ⟨w.heap.size, 0, none⟩) xs.length xs.length) xs.length (xs.flatMap Enc.cells)) := by
        show World.ownsRow _ _ _ _ _ _ _
        rw [hk', hr0] at hown; simpa using hown
      clear hk' hr0 hr hown
      go_wp2
      go_ret
      exact ⟨rfl, HO.out, hle⟩

theorem eqClass_self (x : Cls) (w : World) : Calls Tryz.prog 52 #[.agg #[.string x.name, .int .i64 x.parent], .agg #[.string x.name, .int .i64 x.parent]] w fun e w' => e = .returned (.bool true) ∧ Le w w' := by
  go_enter Tryz.func52, Tryz.ntmps52
  go_wp2
  go_ret
  exact ⟨rfl, (Le.new w _).alloc _⟩

theorem eqClassS_self (A B : Option Addr) (n c d : Nat) (xs : List Cls) (w : World) (hR : Sl w A n c xs) (hS : Sl w B n d xs) :
    Calls Tryz.prog 32 #[.slice A n c, .slice B n d] w fun e w' => e = .returned (.bool true) ∧ Le w w' := by
  obtain rfl := hR.len
  have hm := hR.n_le
  have hb : ((xs.length : Int) != (xs.length : Int)) = false := by simp
  go_enter Tryz.func32, Tryz.ntmps32
  go_wp2
  go_loopw [5] (fun i wr => ∃ k : Nat, k ≤ xs.length ∧ i = .int .i64 k ∧ Le w wr) (fun i _ => xs.length - (intOf i).toNat)
  case atStart => exact ⟨0, Nat.zero_le _, rfl, Le.refl _⟩
  case round =>
    obtain ⟨k, hk, rfl, hle⟩ := hrel
    have hRr := hR.le hle
    have hSr := hS.le hle
    clear hR hS
    by_cases hlt : k < xs.length
    · obtain ⟨b, off, rfl, hb, hcell0, hcell1, _⟩ := hRr.cls_at hlt
      obtain ⟨b2, off2, rfl, hb2, hdell0, hdell1, _⟩ := hSr.cls_at hlt
      have E0 := cell_ext hb hcell0
      have E1 := cell_ext hb hcell1
      have F0 := cell_ext hb2 hdell0
      have F1 := cell_ext hb2 hdell1
      go_wp2_with fail
      refine wp_region_ext (by kernel_rfl) (by kernel_rfl) ?_
      repeat (go_big_quiet_step (first | (go_at_call 52; exact Calls.ext_of (eqClass_self xs[k] _))))
      refine wpQuiet_nil ?_
      intro _ hw'
      obtain ⟨g, rfl⟩ := hw'
      have hw1 := Le.ext wr g
      generalize wr.ext g = W2 at *
      go_wp2
      go_roundw
      case rel => exact ⟨k + 1, by omega, by go_num, hle.trans hw1⟩
      case measure => simp [intOf]; omega
    · go_wp2
      go_ret
      exact ⟨rfl, hle⟩

def mCls (k : Int) (i : Nat) : Cls := ⟨mTxt (k + 2 * i), k + 2 * i + 1⟩

set_option maxHeartbeats 1000000 in
set_option maxRecDepth 100000 in
theorem markClassS_row (g n c : Nat) (xs : List Value) (q : Int) (w : World) (base : Nat) (hR : w.ownsRow base 81 2 (.slice (some ⟨g, 0, none⟩) n c) n xs) (h0 : 1 ≤ q) (h1 : q ≤ 1000000000) (hn : n ≤ 1048576) :
    Calls Tryz.prog 34 #[.slice (some ⟨g, 0, none⟩) n c, .int .i64 q] w fun e w' => e = .returned (.int .i64 (q + 2 * n)) ∧ w'.ownsRow base 81 2 (.slice (some ⟨g, 0, none⟩) n c) n (((List.range n).map (mCls q)).flatMap Enc.cells) ∧ w.grownBy w' (some g) := by
  go_enter Tryz.func34, Tryz.ntmps34
  go_wp2
  have hin := hR.1
  go_loopw [1, 5] (fun z i wr => ∃ k : Nat, ∃ r : List Value, k ≤ n ∧ i = .int .i64 k ∧ z = .int .i64 (q + 2 * k) ∧ r.length = (n - k) * 2 ∧ wr.ownsRow base 81 2 (.slice (some ⟨g, 0, none⟩) n c) n (((List.range k).map (mCls q)).flatMap Enc.cells ++ r) ∧ w.grownBy wr (some g)) (fun _ i _ => n - (intOf i).toNat)
  case atStart => exact ⟨0, xs, Nat.zero_le _, rfl, by simp, by omega, by simpa using hR, World.grownBy.refl w _⟩
  case round =>
    obtain ⟨k, r, hk, rfl, rfl, hr, hown, hgr⟩ := hrel
    clear hR hin
    by_cases hlt : k < n
    · match r, hr with
      | [], h => simp at h; omega
      | [_], h => simp at h; omega
      | r0 :: r1 :: rr, hr =>
      have hfl : ((((List.range k).map (mCls q)).flatMap (Enc.cells (α := Cls)))).length = k * 2 := by rw [flat_len, List.length_map, List.length_range]; rfl
      have hc0 : wr.cell? ⟨g, k * 2, none⟩ = some r0 := by rw [hown.cellAt _ (by omega), List.getElem?_append_right (by omega), hfl]; simp
      have hc1 : wr.cell? ⟨g, k * 2 + 1, none⟩ = some r1 := by rw [hown.cellAt _ (by omega), List.getElem?_append_right (by omega), hfl]; simp
      have hf0 := hown.frozenAt (k * 2)
      have hf1 := hown.frozenAt (k * 2 + 1)
      have HFL := Lib.hid hfl; clear hfl
      go_wp2_with fail
      refine (markText_any (q + 2 * k) _ (by omega) (by omega)).mono ?_
      rintro e w2 ⟨rfl, hsz, hw2⟩
      have hown2 := own_le hown hw2
      have hgl := own_lt hown
      have hd0 := (hw2.cell (b := g) (o := k * 2) hgl).trans hc0
      have hg0 := hown2.frozenAt (k * 2)
      have hd1 := (hw2.cell (b := g) (o := k * 2 + 1) hgl).trans hc1
      have hg1 := hown2.frozenAt (k * 2 + 1)
      clear hc0 hf0 hc1 hf1
      go_wp2
      go_roundw
      case rel =>
        refine ⟨k + 1, rr, by omega, by go_num, by congr 1; omega, by simp at hr; omega, ?_, ?_⟩
        · have h1 := ((hown2.stored (k * 2) (.string (mTxt (q + 2 * k)))).1.stored (k * 2 + 1) (.int .i64 (q + 2 * k + 1))).1
          have e : ((List.range (k + 1)).map (mCls q)).flatMap Enc.cells ++ rr = (((((List.range k).map (mCls q)).flatMap Enc.cells ++ r0 :: r1 :: rr).set (k * 2) (.string (mTxt (q + 2 * k)))).set (k * 2 + 1) (.int .i64 (q + 2 * k + 1))) := by
            rw [List.set_append_right _ _ (by have := HFL.out; omega), List.set_append_right _ _ (by have := HFL.out; omega), HFL.out, List.range_succ, List.map_append, List.flatMap_append]
            simp [Enc.cells, mCls]
          rw [e]; exact h1
        · exact (gx_set (gx_set (gx_le hgr hw2) _) _)
      case measure => simp [intOf]; omega
    · have he : k = n := by omega
      have hr0 : r = [] := List.eq_nil_of_length_eq_zero (by rw [hr, he]; simp)
      subst he
      have HO : Hid (wr.ownsRow base 81 2 (.slice (some ⟨g, 0, none⟩) k c) k (((List.range k).map (mCls q)).flatMap Enc.cells)) := by
        show World.ownsRow _ _ _ _ _ _ _
        rw [hr0] at hown; simpa using hown
      clear hown hr0 hr
      go_wp2
      go_ret
      exact ⟨rfl, HO.out, hgr⟩

theorem markClassS_any (A : Option Addr) (n c : Nat) (xs : List Value) (q : Int) (w : World) (base : Nat) (hR : w.ownsRow base 81 2 (.slice A n c) n xs) (h0 : 1 ≤ q) (h1 : q ≤ 1000000000) (hn : n ≤ 1048576) :
    Calls Tryz.prog 34 #[.slice A n c, .int .i64 q] w fun e w' => e = .returned (.int .i64 (q + 2 * n)) ∧ w'.ownsRow base 81 2 (.slice A n c) n (((List.range n).map (mCls q)).flatMap Enc.cells) ∧ w.grownBy w' (Value.slice A n c).ownBlock := by
  rcases hR.2 with ⟨h, h0'⟩ | ⟨g, c', _, h, _⟩
  · simp only [Value.slice.injEq] at h
    obtain ⟨rfl, rfl, rfl⟩ := h
    go_enter Tryz.func34, Tryz.ntmps34
    go_wp2
    refine wp_loop_rounds 1 ?_
    rw [rounds_succ]
    go_wp2
    go_ret
    exact ⟨by simp, World.ownsRow_nil w base 81 2, World.grownBy.refl w _⟩
  · simp only [Value.slice.injEq, true_and] at h
    obtain ⟨rfl, rfl⟩ := h
    exact markClassS_row g n c xs q w base hR h0 h1 hn

theorem mCls_ok {q : Int} (h0 : 1 ≤ q) (h1 : q ≤ 1000000000) {n : Nat} (hn : n ≤ 1048576) : ∀ x ∈ (List.range n).map (mCls q), Enc.ok x := by
  intro x hx
  simp at hx
  obtain ⟨i, hi, rfl⟩ := hx
  exact ⟨mTxt_size (by omega) (by omega), by show _ ≤ _; simp only [mCls]; omega, by show _ ≤ _; simp only [mCls]; omega⟩

theorem szClass_any (c : Cls) (left : Int) (w : World) (hc : Enc.ok c) (h0 : 0 ≤ left) (h1 : left ≤ 1048576) :
    Calls Tryz.prog 37 #[.agg #[.string c.name, .int .i64 c.parent], .int .i64 left] w (SzOut left c.name.size w) := by
  have hn : (c.name.size : Int) ≤ 9223372036854775807 := by have := hc.1; omega
  by_cases h : left - c.name.size < 0
  · go_enter Tryz.func37, Tryz.ntmps37
    go_wp2
    go_ret
    exact ⟨-1, rfl, .inl rfl, Le.new w _⟩
  · go_enter Tryz.func37, Tryz.ntmps37
    go_wp2
    go_ret
    exact ⟨_, rfl, .inr ⟨by omega, by omega, by omega⟩, Le.new w _⟩

theorem szClassS_any (A : Option Addr) (n cap : Nat) (xs : List Cls) (left : Int) (w : World) (hR : Sl w A n cap xs) (h0 : 0 ≤ left) (h1 : left ≤ 1048576) :
    Calls Tryz.prog 23 #[.slice A n cap, .int .i64 left] w (SzOut left n w) := by
  obtain rfl := hR.len
  have hm := hR.n_le
  by_cases h : left - xs.length < 0
  · go_enter Tryz.func23, Tryz.ntmps23
    go_wp2
    go_ret
    exact ⟨-1, rfl, .inl rfl, Le.refl w⟩
  · go_enter Tryz.func23, Tryz.ntmps23
    go_wp2
    go_loopw [1, 5] (fun lf i wr => ∃ k : Nat, ∃ r : Int, k ≤ xs.length ∧ i = .int .i64 k ∧ lf = .int .i64 r ∧ 0 ≤ r ∧ r ≤ left ∧ Le w wr) (fun _ i _ => xs.length - (intOf i).toNat)
    case atStart => exact ⟨0, left - xs.length, Nat.zero_le _, rfl, rfl, by omega, by omega, Le.refl _⟩
    case round =>
      obtain ⟨k, r, hk, rfl, rfl, hr0, hr1, hle⟩ := hrel
      have hRr := hR.le hle
      clear hR
      by_cases hlt : k < xs.length
      · obtain ⟨b, off, rfl, hb, hcell0, hcell1, _⟩ := hRr.cls_at hlt
        go_wp2_with fail
        refine (szClass_any xs[k] _ _ (hRr.ok _ (List.getElem_mem hlt)) hr0 (by omega)).mono ?_
        rintro e w' ⟨r2, rfl, hr2, hle2⟩
        rcases hr2 with rfl | ⟨h20, h21, _⟩
        · go_wp2
          go_ret
          exact ⟨-1, rfl, .inl rfl, hle.trans hle2⟩
        · have hneg : decide (r2 < 0) = false := decide_eq_false (by omega)
          go_wp2
          go_roundw
          case rel => exact ⟨k + 1, r2, by omega, by go_num, rfl, by omega, by omega, hle.trans hle2⟩
          case measure => simp [intOf]; omega
      · go_wp2
        go_ret
        exact ⟨r, rfl, .inr ⟨hr0, by omega, by omega⟩, hle⟩

theorem szTree_any (A : Option Addr) (n cap : Nat) (xs : List Cls) (left : Int) (w : World) (hR : Sl w A n cap xs) (h0 : 0 ≤ left) (h1 : left ≤ 1048576) :
    Calls Tryz.prog 5 #[.agg #[.slice A n cap], .int .i64 left] w (SzOut left n w) := by
  go_enter Tryz.func5, Tryz.ntmps5
  go_wp2_with fail
  refine (szClassS_any A n cap xs _ _ (hR.alloc _) h0 h1).mono ?_
  rintro e w' ⟨r2, rfl, hr2, hle2⟩
  have hle := (Le.new w _).trans hle2
  rcases hr2 with rfl | ⟨h20, h21, h22⟩
  · go_wp2
    go_ret
    exact ⟨-1, rfl, .inl rfl, hle⟩
  · have hneg : decide (r2 < 0) = false := decide_eq_false (by omega)
    go_wp2
    go_ret
    exact ⟨r2, rfl, .inr ⟨by omega, by omega, h22⟩, hle⟩

theorem eqTree_self (A B : Option Addr) (n c d : Nat) (xs : List Cls) (w : World) (hR : Sl w A n c xs) (hS : Sl w B n d xs) :
    Calls Tryz.prog 12 #[.agg #[.slice A n c], .agg #[.slice B n d]] w fun e w' => e = .returned (.bool true) ∧ Le w w' := by
  go_enter Tryz.func12, Tryz.ntmps12
  go_wp2_with fail
  refine (eqClassS_self A B n c d xs _ ((hR.alloc _).alloc _) ((hS.alloc _).alloc _)).mono ?_
  rintro e w' ⟨rfl, hw1⟩
  go_wp2
  go_ret
  exact ⟨rfl, ((Le.new w _).alloc _).trans hw1⟩

theorem toTree_any (A : Option Addr) (n cap : Nat) (xs : List Cls) (w : World) (hR : Sl w A n cap xs) (hn : n ≤ 1048576) :
    Calls Tryz.prog 8 #[.agg #[.slice A n cap]] w fun e w' => ∃ g, e = .returned (.agg #[.slice (some ⟨g, 0, none⟩) n n]) ∧ w.heap.size ≤ g ∧ w'.ownsRow w.heap.size 81 2 (.slice (some ⟨g, 0, none⟩) n n) n (xs.flatMap Enc.cells) ∧ Le w w' := by
  go_enter Tryz.func8, Tryz.ntmps8
  go_wp2_with fail
  generalize hWd : ((w.alloc (.cells #[.slice A n cap] 24)).alloc _).alloc _ = W
  have hsz : w.heap.size + 2 < W.heap.size := by rw [← hWd]; simp
  have hWle : Le w W := by rw [← hWd]; exact ((Le.new w _).alloc _).alloc _
  have c1 : W.cell? ⟨w.heap.size + 1, 0, none⟩ = some (.slice none 0 0) := by rw [← hWd, World.cell?_alloc_past _ _ _ (by simp), World.cell?_alloc_at _ _ _ _ (by simp)]; rfl
  have c2 : W.cell? ⟨w.heap.size + 1 + 1, 0, none⟩ = some (.slice none 0 0) := by rw [← hWd, World.cell?_alloc_at _ _ _ _ (by simp)]; rfl
  have f1 : W.frozen? ⟨w.heap.size + 1, 0, none⟩ = false := by rw [← hWd, World.frozen?_alloc_past _ _ _ (by simp), World.frozen?_alloc_at _ _ _ _ (by simp)]
  have f2 : W.frozen? ⟨w.heap.size + 1 + 1, 0, none⟩ = false := by rw [← hWd, World.frozen?_alloc_at _ _ _ _ (by simp)]
  clear hWd
  refine (toClassS_any A n cap xs W (hR.le hWle) hn).mono ?_
  rintro e w2 ⟨rfl, hown, hle⟩
  have d1 := (hle.cell (b := w.heap.size + 1) (o := 0) (by omega)).trans c1
  have d2 := (hle.cell (b := w.heap.size + 1 + 1) (o := 0) (by omega)).trans c2
  have g1 := (hle.frozen (b := w.heap.size + 1) (o := 0) (by omega)).trans f1
  have g2 := (hle.frozen (b := w.heap.size + 1 + 1) (o := 0) (by omega)).trans f2
  have hz2 := hle.size
  have hbl := hWle.trans hle
  have hend : ∀ v, ((w2.setCell ⟨w.heap.size + 1 + 1, 0, none⟩ v).setCell ⟨w.heap.size + 1, 0, none⟩ v).cell? ⟨w.heap.size + 1, 0, none⟩ = some v := fun v => cell_set_same ((cell_set_other (.inl (by omega))).trans d1)
  clear c1 c2 f1 f2 hle
  go_wp2
  refine bodyPost_ret (v := .agg #[.slice (some ⟨W.heap.size, 0, none⟩) n n]) (by simp [results, Tryz.results8, go_sem, hend]) rfl ⟨W.heap.size, rfl, by omega, ?_, ?_⟩
  · exact own_set (own_set (own_mono hown (by omega)) (by omega) _) (by omega) _
  · exact (hbl.setCell (by omega) _).setCell (by omega) _

theorem markTree_any (A : Option Addr) (n c : Nat) (xs : List Value) (q : Int) (w : World) (base : Nat) (hR : w.ownsRow base 81 2 (.slice A n c) n xs) (h0 : 1 ≤ q) (h1 : q ≤ 1000000000) (hn : n ≤ 1048576) :
    Calls Tryz.prog 14 #[.agg #[.slice A n c], .int .i64 q] w fun e w' => e = .returned (.int .i64 (q + 2 * n)) ∧ w'.ownsRow base 81 2 (.slice A n c) n (((List.range n).map (mCls q)).flatMap Enc.cells) ∧ w.grownBy w' (Value.slice A n c).ownBlock := by
  go_enter Tryz.func14, Tryz.ntmps14
  go_wp2_with fail
  refine (markClassS_any A n c xs q _ base (hR.alloc _) h0 h1 hn).mono ?_
  rintro e w2 ⟨rfl, hown, hg⟩
  have hgr := gx_from hg
  go_wp2
  go_ret
  exact ⟨rfl, hown, hgr⟩

end

section
structure Lin where
  depth : Int
  kind : Int
  a : Int
  b : Int
instance instEncLin : Enc Lin := ⟨4, fun x => [.int .i64 x.depth, .int .i64 x.kind, .int .i64 x.a, .int .i64 x.b], fun x => -9223372036854775808 ≤ x.depth ∧ x.depth ≤ 9223372036854775807 ∧ -9223372036854775808 ≤ x.kind ∧ x.kind ≤ 9223372036854775807 ∧ -9223372036854775808 ≤ x.a ∧ x.a ≤ 9223372036854775807 ∧ -9223372036854775808 ≤ x.b ∧ x.b ≤ 9223372036854775807, fun _ => rfl⟩
theorem Sl.lin_at {w : World} {A : Option Addr} {n cap : Nat} {xs : List Lin} (h : Sl w A n cap xs) {k : Nat} (hk : k < xs.length) :
    ∃ b off, A = some ⟨b, off, none⟩ ∧ b < w.heap.size ∧ w.cell? ⟨b, off + k * 4, none⟩ = some (.int .i64 xs[k].depth) ∧ w.cell? ⟨b, off + k * 4 + 1, none⟩ = some (.int .i64 xs[k].kind) ∧ w.cell? ⟨b, off + k * 4 + 2, none⟩ = some (.int .i64 xs[k].a) ∧ w.cell? ⟨b, off + k * 4 + 3, none⟩ = some (.int .i64 xs[k].b) ∧ (-9223372036854775808 ≤ xs[k].depth ∧ xs[k].depth ≤ 9223372036854775807 ∧ -9223372036854775808 ≤ xs[k].kind ∧ xs[k].kind ≤ 9223372036854775807 ∧ -9223372036854775808 ≤ xs[k].a ∧ xs[k].a ≤ 9223372036854775807 ∧ -9223372036854775808 ≤ xs[k].b ∧ xs[k].b ≤ 9223372036854775807) := by
  obtain ⟨b, off, e, hb, hc⟩ := h.cells_ hk
  have h0 := hc 0 (by decide) _ rfl
  have h1 := hc 1 (by decide) _ rfl
  have h2 := hc 2 (by decide) _ rfl
  have h3 := hc 3 (by decide) _ rfl
  exact ⟨b, off, e, hb, by simpa [Enc.size] using h0, by simpa [Enc.size, Nat.add_assoc] using h1, by simpa [Enc.size, Nat.add_assoc] using h2, by simpa [Enc.size, Nat.add_assoc] using h3, h.ok xs[k] (List.getElem_mem hk)⟩
theorem flat_lin_depth : ∀ (xs : List Lin) (k : Nat) (h : k < xs.length) (z : Int), (xs.flatMap Enc.cells).set (k * 4) (.int .i64 z) = (xs.set k {xs[k] with depth := z}).flatMap Enc.cells
  | x :: r, 0, _, z => rfl
  | x :: r, k + 1, h, z => by
    have ih := flat_lin_depth r k (by simpa using h) z
    have e : (k + 1) * 4 = k * 4 + 1 + 1 + 1 + 1 := by omega
    rw [e]
    show Value.int .i64 x.depth :: Value.int .i64 x.kind :: Value.int .i64 x.a :: Value.int .i64 x.b :: (r.flatMap Enc.cells).set (k * 4) (.int .i64 z) = _
    rw [ih]; rfl
theorem flat_lin_kind : ∀ (xs : List Lin) (k : Nat) (h : k < xs.length) (z : Int), (xs.flatMap Enc.cells).set (k * 4 + 1) (.int .i64 z) = (xs.set k {xs[k] with kind := z}).flatMap Enc.cells
  | x :: r, 0, _, z => rfl
  | x :: r, k + 1, h, z => by
    have ih := flat_lin_kind r k (by simpa using h) z
    have e : (k + 1) * 4 + 1 = k * 4 + 1 + 1 + 1 + 1 + 1 := by omega
    rw [e]
    show Value.int .i64 x.depth :: Value.int .i64 x.kind :: Value.int .i64 x.a :: Value.int .i64 x.b :: (r.flatMap Enc.cells).set (k * 4 + 1) (.int .i64 z) = _
    rw [ih]; rfl
theorem flat_lin_a : ∀ (xs : List Lin) (k : Nat) (h : k < xs.length) (z : Int), (xs.flatMap Enc.cells).set (k * 4 + 2) (.int .i64 z) = (xs.set k {xs[k] with a := z}).flatMap Enc.cells
  | x :: r, 0, _, z => rfl
  | x :: r, k + 1, h, z => by
    have ih := flat_lin_a r k (by simpa using h) z
    have e : (k + 1) * 4 + 2 = k * 4 + 2 + 1 + 1 + 1 + 1 := by omega
    rw [e]
    show Value.int .i64 x.depth :: Value.int .i64 x.kind :: Value.int .i64 x.a :: Value.int .i64 x.b :: (r.flatMap Enc.cells).set (k * 4 + 2) (.int .i64 z) = _
    rw [ih]; rfl
theorem flat_lin_b : ∀ (xs : List Lin) (k : Nat) (h : k < xs.length) (z : Int), (xs.flatMap Enc.cells).set (k * 4 + 3) (.int .i64 z) = (xs.set k {xs[k] with b := z}).flatMap Enc.cells
  | x :: r, 0, _, z => rfl
  | x :: r, k + 1, h, z => by
    have ih := flat_lin_b r k (by simpa using h) z
    have e : (k + 1) * 4 + 3 = k * 4 + 3 + 1 + 1 + 1 + 1 := by omega
    rw [e]
    show Value.int .i64 x.depth :: Value.int .i64 x.kind :: Value.int .i64 x.a :: Value.int .i64 x.b :: (r.flatMap Enc.cells).set (k * 4 + 3) (.int .i64 z) = _
    rw [ih]; rfl
end

section
theorem infoLine : (Tryz.prog.info? 55).map (fun i => (i.zero, i.size, i.bytes)) = some (some (.agg #[.int .i64 0, .int .i64 0, .int .i64 0, .int .i64 0]), 4, 32) := by kernel_rfl
theorem toLine_any (x : Lin) (w : World) :
    Calls Tryz.prog 27 #[.agg #[.int .i64 x.depth, .int .i64 x.kind, .int .i64 x.a, .int .i64 x.b]] w fun e w' => e = .returned (.agg #[.int .i64 x.depth, .int .i64 x.kind, .int .i64 x.a, .int .i64 x.b]) ∧ Le w w' := by
  go_enter Tryz.func27, Tryz.ntmps27
  go_wp2
  exact bodyPost_ret (v := .agg #[.int .i64 x.depth, .int .i64 x.kind, .int .i64 x.a, .int .i64 x.b]) (by simp [results, Tryz.results27, go_sem]) rfl ⟨rfl, ((Le.new w _).alloc _).alloc _⟩

set_option maxRecDepth 100000 in
theorem toLineS_any (A : Option Addr) (n cap : Nat) (xs : List Lin) (w : World) (hR : Sl w A n cap xs) (hn : n ≤ 1048576) :
    Calls Tryz.prog 9 #[.slice A n cap] w fun e w' => e = .returned (.slice (some ⟨w.heap.size, 0, none⟩) n n) ∧ w'.ownsRow w.heap.size 55 4 (.slice (some ⟨w.heap.size, 0, none⟩) n n) n (xs.flatMap Enc.cells) ∧ Le w w' := by
  obtain rfl := hR.len
  obtain ⟨i0, hi, hz0, hz1, hz2⟩ := info_parts infoLine
  have hb2 : i0.bytes * xs.length ≤ 281474976710656 := by rw [hz2]; omega
  go_enter Tryz.func9, Tryz.ntmps9
  go_wp2_with (refine wpList_make_full _ rfl _ _ 39 rfl w.heap.size 55 i0 _ 4 Tryz.underlying39 hi hz0 hz1 .i64 .i64 _ _ xs.length rfl rfl rfl rfl hb2 (by unfold maxLen; omega) (Nat.le_refl _) ?_; intro w1 hown1 hg1)
  have hl1 := (Le.refl w).grown hg1 (by intro k hk; cases hk)
  go_loopw [4] (fun i wr => ∃ k : Nat, ∃ r : List Value, k ≤ xs.length ∧ i = .int .i64 k ∧ r.length = (xs.length - k) * 4 ∧ wr.ownsRow w.heap.size 55 4 (.slice (some ⟨w.heap.size, 0, none⟩) xs.length xs.length) xs.length ((xs.take k).flatMap Enc.cells ++ r) ∧ Le w wr) (fun i _ => xs.length - (intOf i).toNat)
  case atStart => exact ⟨0, _, Nat.zero_le _, rfl, by simp [madeCells], hown1, hl1⟩
  case round =>
    obtain ⟨k, r, hk, rfl, hr, hown, hle⟩ := hrel
    have hRr := hR.le hle
    clear hR hown1 hg1 hl1
    by_cases hlt : k < xs.length
    · obtain ⟨b, off, rfl, hb, hcell0, hcell1, hcell2, hcell3, _⟩ := hRr.lin_at hlt
      match r, hr with
      | [], h => simp at h; omega
      | [_], h => simp at h; omega
      | [_, _], h => simp at h; omega
      | [_, _, _], h => simp at h; omega
      | r0 :: r1 :: r2 :: r3 :: rr, hr =>
      have hfl : ((xs.take k).flatMap (Enc.cells (α := Lin))).length = k * 4 := by rw [flat_len, List.length_take]; show _ * 4 = _; rw [Nat.min_eq_left (by omega)]
      go_wp2_with fail
      refine (toLine_any xs[k] _).mono ?_
      rintro e w2 ⟨rfl, hw2⟩
      have hown2 := own_le hown hw2
      have hc0 : w2.cell? ⟨w.heap.size, k * 4, none⟩ = some r0 := by rw [hown2.cellAt _ (by omega), List.getElem?_append_right (by omega), hfl]; simp
      have hc1 : w2.cell? ⟨w.heap.size, k * 4 + 1, none⟩ = some r1 := by rw [hown2.cellAt _ (by omega), List.getElem?_append_right (by omega), hfl]; simp
      have hc2 : w2.cell? ⟨w.heap.size, k * 4 + 2, none⟩ = some r2 := by rw [hown2.cellAt _ (by omega), List.getElem?_append_right (by omega), hfl]; simp
      have hc3 : w2.cell? ⟨w.heap.size, k * 4 + 3, none⟩ = some r3 := by rw [hown2.cellAt _ (by omega), List.getElem?_append_right (by omega), hfl]; simp
      have hf0 := hown2.frozenAt (k * 4)
      have hf1 := hown2.frozenAt (k * 4 + 1)
      have hf2 := hown2.frozenAt (k * 4 + 2)
      have hf3 := hown2.frozenAt (k * 4 + 3)
      go_wp2
      go_roundw
      case rel =>
        refine ⟨k + 1, rr, by omega, by go_num, by simp at hr; omega, ?_, (hle.trans hw2).setCell (Nat.le_refl _) _ |>.setCell (Nat.le_refl _) _ |>.setCell (Nat.le_refl _) _ |>.setCell (Nat.le_refl _) _⟩
        have h1 := ((((hown2.stored (k * 4) (.int .i64 xs[k].depth)).1.stored (k * 4 + 1) (.int .i64 xs[k].kind)).1.stored (k * 4 + 2) (.int .i64 xs[k].a)).1.stored (k * 4 + 3) (.int .i64 xs[k].b)).1
        have e : (xs.take (k + 1)).flatMap Enc.cells ++ rr = ((((((xs.take k).flatMap Enc.cells ++ r0 :: r1 :: r2 :: r3 :: rr).set (k * 4) (.int .i64 xs[k].depth)).set (k * 4 + 1) (.int .i64 xs[k].kind)).set (k * 4 + 2) (.int .i64 xs[k].a)).set (k * 4 + 3) (.int .i64 xs[k].b)) := by
          rw [List.take_succ_eq_append_getElem hlt, List.flatMap_append, List.set_append_right _ _ (by omega), List.set_append_right _ _ (by omega), List.set_append_right _ _ (by omega), List.set_append_right _ _ (by omega), hfl]
          simp [Enc.cells]
        rw [e]; exact h1
      case measure => simp [intOf]; omega
    · have hk' : k = xs.length := by omega
      have hr0 : r = [] := List.eq_nil_of_length_eq_zero (by rw [hr, hk']; simp)
      have HO : Hid (wr.ownsRow w.heap.size 55 4 (.slice (some ⟨w.heap.size, 0, none⟩) xs.length xs.length) xs.length (xs.flatMap Enc.cells)) := by
        show World.ownsRow _ _ _ _ _ _ _
        rw [hk', hr0] at hown; simpa using hown
      clear hk' hr0 hr hown
      go_wp2
      go_ret
      exact ⟨rfl, HO.out, hle⟩

theorem eqLine_self (x : Lin) (w : World) : Calls Tryz.prog 33 #[.agg #[.int .i64 x.depth, .int .i64 x.kind, .int .i64 x.a, .int .i64 x.b], .agg #[.int .i64 x.depth, .int .i64 x.kind, .int .i64 x.a, .int .i64 x.b]] w fun e w' => e = .returned (.bool true) ∧ Le w w' := by
  go_enter Tryz.func33, Tryz.ntmps33
  go_wp2
  go_ret
  exact ⟨rfl, (Le.new w _).alloc _⟩

theorem eqLineS_self (A B : Option Addr) (n c d : Nat) (xs : List Lin) (w : World) (hR : Sl w A n c xs) (hS : Sl w B n d xs) :
    Calls Tryz.prog 13 #[.slice A n c, .slice B n d] w fun e w' => e = .returned (.bool true) ∧ Le w w' := by
  obtain rfl := hR.len
  have hm := hR.n_le
  have hb : ((xs.length : Int) != (xs.length : Int)) = false := by simp
  go_enter Tryz.func13, Tryz.ntmps13
  go_wp2
  go_loopw [5] (fun i wr => ∃ k : Nat, k ≤ xs.length ∧ i = .int .i64 k ∧ Le w wr) (fun i _ => xs.length - (intOf i).toNat)
  case atStart => exact ⟨0, Nat.zero_le _, rfl, Le.refl _⟩
  case round =>
    obtain ⟨k, hk, rfl, hle⟩ := hrel
    have hRr := hR.le hle
    have hSr := hS.le hle
    clear hR hS
    by_cases hlt : k < xs.length
    · obtain ⟨b, off, rfl, hb, hcell0, hcell1, hcell2, hcell3, _⟩ := hRr.lin_at hlt
      obtain ⟨b2, off2, rfl, hb2, hdell0, hdell1, hdell2, hdell3, _⟩ := hSr.lin_at hlt
      have E0 := cell_ext hb hcell0
      have E1 := cell_ext hb hcell1
      have E2 := cell_ext hb hcell2
      have E3 := cell_ext hb hcell3
      have F0 := cell_ext hb2 hdell0
      have F1 := cell_ext hb2 hdell1
      have F2 := cell_ext hb2 hdell2
      have F3 := cell_ext hb2 hdell3
      go_wp2_with fail
      refine wp_region_ext (by kernel_rfl) (by kernel_rfl) ?_
      repeat (go_big_quiet_step (first | (go_at_call 33; exact Calls.ext_of (eqLine_self xs[k] _))))
      refine wpQuiet_nil ?_
      intro _ hw'
      obtain ⟨g, rfl⟩ := hw'
      have hw1 := Le.ext wr g
      generalize wr.ext g = W2 at *
      go_wp2
      go_roundw
      case rel => exact ⟨k + 1, by omega, by go_num, hle.trans hw1⟩
      case measure => simp [intOf]; omega
    · go_wp2
      go_ret
      exact ⟨rfl, hle⟩

def mLin (k : Int) (i : Nat) : Lin := ⟨k + 4 * i, k + 4 * i + 1, k + 4 * i + 1 + 1, k + 4 * i + 1 + 1 + 1⟩

set_option maxHeartbeats 1000000 in
set_option maxRecDepth 100000 in
theorem markLineS_row (g n c : Nat) (xs : List Value) (q : Int) (w : World) (base : Nat) (hR : w.ownsRow base 55 4 (.slice (some ⟨g, 0, none⟩) n c) n xs) (h0 : 1 ≤ q) (h1 : q ≤ 1000000000) (hn : n ≤ 1048576) :
    Calls Tryz.prog 15 #[.slice (some ⟨g, 0, none⟩) n c, .int .i64 q] w fun e w' => e = .returned (.int .i64 (q + 4 * n)) ∧ w'.ownsRow base 55 4 (.slice (some ⟨g, 0, none⟩) n c) n (((List.range n).map (mLin q)).flatMap Enc.cells) ∧ w.grownBy w' (some g) := by
  go_enter Tryz.func15, Tryz.ntmps15
  go_wp2
  have hin := hR.1
  go_loopw [1, 5] (fun z i wr => ∃ k : Nat, ∃ r : List Value, k ≤ n ∧ i = .int .i64 k ∧ z = .int .i64 (q + 4 * k) ∧ r.length = (n - k) * 4 ∧ wr.ownsRow base 55 4 (.slice (some ⟨g, 0, none⟩) n c) n (((List.range k).map (mLin q)).flatMap Enc.cells ++ r) ∧ w.grownBy wr (some g)) (fun _ i _ => n - (intOf i).toNat)
  case atStart => exact ⟨0, xs, Nat.zero_le _, rfl, by simp, by omega, by simpa using hR, World.grownBy.refl w _⟩
  case round =>
    obtain ⟨k, r, hk, rfl, rfl, hr, hown, hgr⟩ := hrel
    clear hR hin
    by_cases hlt : k < n
    · match r, hr with
      | [], h => simp at h; omega
      | [_], h => simp at h; omega
      | [_, _], h => simp at h; omega
      | [_, _, _], h => simp at h; omega
      | r0 :: r1 :: r2 :: r3 :: rr, hr =>
      have hfl : ((((List.range k).map (mLin q)).flatMap (Enc.cells (α := Lin)))).length = k * 4 := by rw [flat_len, List.length_map, List.length_range]; rfl
      have hc0 : wr.cell? ⟨g, k * 4, none⟩ = some r0 := by rw [hown.cellAt _ (by omega), List.getElem?_append_right (by omega), hfl]; simp
      have hc1 : wr.cell? ⟨g, k * 4 + 1, none⟩ = some r1 := by rw [hown.cellAt _ (by omega), List.getElem?_append_right (by omega), hfl]; simp
      have hc2 : wr.cell? ⟨g, k * 4 + 2, none⟩ = some r2 := by rw [hown.cellAt _ (by omega), List.getElem?_append_right (by omega), hfl]; simp
      have hc3 : wr.cell? ⟨g, k * 4 + 3, none⟩ = some r3 := by rw [hown.cellAt _ (by omega), List.getElem?_append_right (by omega), hfl]; simp
      have hf0 := hown.frozenAt (k * 4)
      have hf1 := hown.frozenAt (k * 4 + 1)
      have hf2 := hown.frozenAt (k * 4 + 2)
      have hf3 := hown.frozenAt (k * 4 + 3)
      have HFL := Lib.hid hfl; clear hfl
      go_wp2
      go_roundw
      case rel =>
        refine ⟨k + 1, rr, by omega, by go_num, by congr 1; omega, by simp at hr; omega, ?_, ?_⟩
        · have h1 := ((((hown.stored (k * 4) (.int .i64 (q + 4 * k))).1.stored (k * 4 + 1) (.int .i64 (q + 4 * k + 1))).1.stored (k * 4 + 2) (.int .i64 (q + 4 * k + 1 + 1))).1.stored (k * 4 + 3) (.int .i64 (q + 4 * k + 1 + 1 + 1))).1
          have e : ((List.range (k + 1)).map (mLin q)).flatMap Enc.cells ++ rr = (((((((List.range k).map (mLin q)).flatMap Enc.cells ++ r0 :: r1 :: r2 :: r3 :: rr).set (k * 4) (.int .i64 (q + 4 * k))).set (k * 4 + 1) (.int .i64 (q + 4 * k + 1))).set (k * 4 + 2) (.int .i64 (q + 4 * k + 1 + 1))).set (k * 4 + 3) (.int .i64 (q + 4 * k + 1 + 1 + 1))) := by
            rw [List.set_append_right _ _ (by have := HFL.out; omega), List.set_append_right _ _ (by have := HFL.out; omega), List.set_append_right _ _ (by have := HFL.out; omega), List.set_append_right _ _ (by have := HFL.out; omega), HFL.out, List.range_succ, List.map_append, List.flatMap_append]
            simp [Enc.cells, mLin]
          rw [e]; exact h1
        · exact (gx_set (gx_set (gx_set (gx_set hgr _) _) _) _)
      case measure => simp [intOf]; omega
    · have he : k = n := by omega
      have hr0 : r = [] := List.eq_nil_of_length_eq_zero (by rw [hr, he]; simp)
      subst he
      have HO : Hid (wr.ownsRow base 55 4 (.slice (some ⟨g, 0, none⟩) k c) k (((List.range k).map (mLin q)).flatMap Enc.cells)) := by
        show World.ownsRow _ _ _ _ _ _ _
        rw [hr0] at hown; simpa using hown
      clear hown hr0 hr
      go_wp2
      go_ret
      exact ⟨rfl, HO.out, hgr⟩

theorem markLineS_any (A : Option Addr) (n c : Nat) (xs : List Value) (q : Int) (w : World) (base : Nat) (hR : w.ownsRow base 55 4 (.slice A n c) n xs) (h0 : 1 ≤ q) (h1 : q ≤ 1000000000) (hn : n ≤ 1048576) :
    Calls Tryz.prog 15 #[.slice A n c, .int .i64 q] w fun e w' => e = .returned (.int .i64 (q + 4 * n)) ∧ w'.ownsRow base 55 4 (.slice A n c) n (((List.range n).map (mLin q)).flatMap Enc.cells) ∧ w.grownBy w' (Value.slice A n c).ownBlock := by
  rcases hR.2 with ⟨h, h0'⟩ | ⟨g, c', _, h, _⟩
  · simp only [Value.slice.injEq] at h
    obtain ⟨rfl, rfl, rfl⟩ := h
    go_enter Tryz.func15, Tryz.ntmps15
    go_wp2
    refine wp_loop_rounds 1 ?_
    rw [rounds_succ]
    go_wp2
    go_ret
    exact ⟨by simp, World.ownsRow_nil w base 55 4, World.grownBy.refl w _⟩
  · simp only [Value.slice.injEq, true_and] at h
    obtain ⟨rfl, rfl⟩ := h
    exact markLineS_row g n c xs q w base hR h0 h1 hn

theorem mLin_ok {q : Int} (h0 : 1 ≤ q) (h1 : q ≤ 1000000000) {n : Nat} (hn : n ≤ 1048576) : ∀ x ∈ (List.range n).map (mLin q), Enc.ok x := by
  intro x hx
  simp at hx
  obtain ⟨i, hi, rfl⟩ := hx
  exact ⟨by show _ ≤ _; simp only [mLin]; omega, by show _ ≤ _; simp only [mLin]; omega, by show _ ≤ _; simp only [mLin]; omega, by show _ ≤ _; simp only [mLin]; omega, by show _ ≤ _; simp only [mLin]; omega, by show _ ≤ _; simp only [mLin]; omega, by show _ ≤ _; simp only [mLin]; omega, by show _ ≤ _; simp only [mLin]; omega⟩

theorem szLineS_any (A : Option Addr) (n cap : Nat) (xs : List Lin) (left : Int) (w : World) (hR : Sl w A n cap xs) (h0 : 0 ≤ left) (h1 : left ≤ 1048576) :
    Calls Tryz.prog 6 #[.slice A n cap, .int .i64 left] w (SzOut left n w) := by
  have hm := hR.n_le
  by_cases h : left - n < 0
  · go_enter Tryz.func6, Tryz.ntmps6
    go_wp2
    go_ret
    exact ⟨-1, rfl, .inl rfl, Le.refl w⟩
  · go_enter Tryz.func6, Tryz.ntmps6
    go_wp2
    go_ret
    exact ⟨_, rfl, .inr ⟨by omega, by omega, by omega⟩, Le.refl w⟩
end

section
structure Flt where
  cls : Int
  code : Int
  cause : Int
  ctx : Int
  hide : Bool
instance instEncFlt : Enc Flt := ⟨5, fun x => [.int .i64 x.cls, .int .i64 x.code, .int .i64 x.cause, .int .i64 x.ctx, .bool x.hide], fun x => -9223372036854775808 ≤ x.cls ∧ x.cls ≤ 9223372036854775807 ∧ -9223372036854775808 ≤ x.code ∧ x.code ≤ 9223372036854775807 ∧ -9223372036854775808 ≤ x.cause ∧ x.cause ≤ 9223372036854775807 ∧ -9223372036854775808 ≤ x.ctx ∧ x.ctx ≤ 9223372036854775807, fun _ => rfl⟩
theorem Sl.flt_at {w : World} {A : Option Addr} {n cap : Nat} {xs : List Flt} (h : Sl w A n cap xs) {k : Nat} (hk : k < xs.length) :
    ∃ b off, A = some ⟨b, off, none⟩ ∧ b < w.heap.size ∧ w.cell? ⟨b, off + k * 5, none⟩ = some (.int .i64 xs[k].cls) ∧ w.cell? ⟨b, off + k * 5 + 1, none⟩ = some (.int .i64 xs[k].code) ∧ w.cell? ⟨b, off + k * 5 + 2, none⟩ = some (.int .i64 xs[k].cause) ∧ w.cell? ⟨b, off + k * 5 + 3, none⟩ = some (.int .i64 xs[k].ctx) ∧ w.cell? ⟨b, off + k * 5 + 4, none⟩ = some (.bool xs[k].hide) ∧ (-9223372036854775808 ≤ xs[k].cls ∧ xs[k].cls ≤ 9223372036854775807 ∧ -9223372036854775808 ≤ xs[k].code ∧ xs[k].code ≤ 9223372036854775807 ∧ -9223372036854775808 ≤ xs[k].cause ∧ xs[k].cause ≤ 9223372036854775807 ∧ -9223372036854775808 ≤ xs[k].ctx ∧ xs[k].ctx ≤ 9223372036854775807) := by
  obtain ⟨b, off, e, hb, hc⟩ := h.cells_ hk
  have h0 := hc 0 (by decide) _ rfl
  have h1 := hc 1 (by decide) _ rfl
  have h2 := hc 2 (by decide) _ rfl
  have h3 := hc 3 (by decide) _ rfl
  have h4 := hc 4 (by decide) _ rfl
  exact ⟨b, off, e, hb, by simpa [Enc.size] using h0, by simpa [Enc.size, Nat.add_assoc] using h1, by simpa [Enc.size, Nat.add_assoc] using h2, by simpa [Enc.size, Nat.add_assoc] using h3, by simpa [Enc.size, Nat.add_assoc] using h4, h.ok xs[k] (List.getElem_mem hk)⟩
theorem flat_flt_cls : ∀ (xs : List Flt) (k : Nat) (h : k < xs.length) (z : Int), (xs.flatMap Enc.cells).set (k * 5) (.int .i64 z) = (xs.set k {xs[k] with cls := z}).flatMap Enc.cells
  | x :: r, 0, _, z => rfl
  | x :: r, k + 1, h, z => by
    have ih := flat_flt_cls r k (by simpa using h) z
    have e : (k + 1) * 5 = k * 5 + 1 + 1 + 1 + 1 + 1 := by omega
    rw [e]
    show Value.int .i64 x.cls :: Value.int .i64 x.code :: Value.int .i64 x.cause :: Value.int .i64 x.ctx :: Value.bool x.hide :: (r.flatMap Enc.cells).set (k * 5) (.int .i64 z) = _
    rw [ih]; rfl
theorem flat_flt_code : ∀ (xs : List Flt) (k : Nat) (h : k < xs.length) (z : Int), (xs.flatMap Enc.cells).set (k * 5 + 1) (.int .i64 z) = (xs.set k {xs[k] with code := z}).flatMap Enc.cells
  | x :: r, 0, _, z => rfl
  | x :: r, k + 1, h, z => by
    have ih := flat_flt_code r k (by simpa using h) z
    have e : (k + 1) * 5 + 1 = k * 5 + 1 + 1 + 1 + 1 + 1 + 1 := by omega
    rw [e]
    show Value.int .i64 x.cls :: Value.int .i64 x.code :: Value.int .i64 x.cause :: Value.int .i64 x.ctx :: Value.bool x.hide :: (r.flatMap Enc.cells).set (k * 5 + 1) (.int .i64 z) = _
    rw [ih]; rfl
theorem flat_flt_cause : ∀ (xs : List Flt) (k : Nat) (h : k < xs.length) (z : Int), (xs.flatMap Enc.cells).set (k * 5 + 2) (.int .i64 z) = (xs.set k {xs[k] with cause := z}).flatMap Enc.cells
  | x :: r, 0, _, z => rfl
  | x :: r, k + 1, h, z => by
    have ih := flat_flt_cause r k (by simpa using h) z
    have e : (k + 1) * 5 + 2 = k * 5 + 2 + 1 + 1 + 1 + 1 + 1 := by omega
    rw [e]
    show Value.int .i64 x.cls :: Value.int .i64 x.code :: Value.int .i64 x.cause :: Value.int .i64 x.ctx :: Value.bool x.hide :: (r.flatMap Enc.cells).set (k * 5 + 2) (.int .i64 z) = _
    rw [ih]; rfl
theorem flat_flt_ctx : ∀ (xs : List Flt) (k : Nat) (h : k < xs.length) (z : Int), (xs.flatMap Enc.cells).set (k * 5 + 3) (.int .i64 z) = (xs.set k {xs[k] with ctx := z}).flatMap Enc.cells
  | x :: r, 0, _, z => rfl
  | x :: r, k + 1, h, z => by
    have ih := flat_flt_ctx r k (by simpa using h) z
    have e : (k + 1) * 5 + 3 = k * 5 + 3 + 1 + 1 + 1 + 1 + 1 := by omega
    rw [e]
    show Value.int .i64 x.cls :: Value.int .i64 x.code :: Value.int .i64 x.cause :: Value.int .i64 x.ctx :: Value.bool x.hide :: (r.flatMap Enc.cells).set (k * 5 + 3) (.int .i64 z) = _
    rw [ih]; rfl
theorem flat_flt_hide : ∀ (xs : List Flt) (k : Nat) (h : k < xs.length) (z : Bool), (xs.flatMap Enc.cells).set (k * 5 + 4) (.bool z) = (xs.set k {xs[k] with hide := z}).flatMap Enc.cells
  | x :: r, 0, _, z => rfl
  | x :: r, k + 1, h, z => by
    have ih := flat_flt_hide r k (by simpa using h) z
    have e : (k + 1) * 5 + 4 = k * 5 + 4 + 1 + 1 + 1 + 1 + 1 := by omega
    rw [e]
    show Value.int .i64 x.cls :: Value.int .i64 x.code :: Value.int .i64 x.cause :: Value.int .i64 x.ctx :: Value.bool x.hide :: (r.flatMap Enc.cells).set (k * 5 + 4) (.bool z) = _
    rw [ih]; rfl
end

section
namespace Chn
theorem nodup_bound : ∀ (n : Nat) (L : List Int), L.Nodup → (∀ x ∈ L, 0 ≤ x ∧ x < n) → L.length ≤ n := by
  intro n
  induction n with
  | zero =>
    intro L _ h
    cases L with
    | nil => simp
    | cons x r => have := h x (by simp); omega
  | succ n ih =>
    intro L hn h
    by_cases hm : (n : Int) ∈ L
    · have h1 : (L.erase (n : Int)).Nodup := hn.erase _
      have h2 : ∀ x ∈ L.erase (n : Int), 0 ≤ x ∧ x < n := by
        intro x hx
        have hx' := (List.Nodup.mem_erase_iff hn).1 hx
        have := h x hx'.2
        have := hx'.1
        omega
      have := ih _ h1 h2
      rw [List.length_erase_of_mem hm] at this
      omega
    · have := ih L hn (fun x hx => by
        have := h x hx
        have : x ≠ n := fun e => hm (e ▸ hx)
        omega)
      omega

theorem nd_inj {L : List Int} (h : L.Nodup) {i j : Nat} (hi : i < L.length) (hj : j < L.length) (e : L[i] = L[j]) : i = j := by
  have hp := List.pairwise_iff_getElem.1 h
  rcases Nat.lt_trichotomy i j with h1 | h1 | h1
  · exact absurd e (hp i j hi hj h1)
  · exact h1
  · exact absurd e.symm (hp j i hj hi h1)

/-- L goes from f along nx, each once, as far as it can -/
structure Is (nx : Int → Int) (f : Int) (L : List Int) : Prop where
  nd : L.Nodup
  pos : ∀ x ∈ L, 0 ≤ x
  ne : L ≠ []
  hd : L.head? = some f
  st : ∀ k (h : k + 1 < L.length), L[k + 1] = nx L[k]
  en : ∀ x, L.getLast? = some x → nx x < 0 ∨ nx x ∈ L

def go (nx : Int → Int) : Nat → Int → List Int → List Int
  | 0, _, out => out
  | m + 1, f, out => if f < 0 ∨ f ∈ out then out else go nx m (nx f) (out ++ [f])

/-- what the chain's first part keeps to: f is next -/
structure Pre (nx : Int → Int) (n : Nat) (f0 f : Int) (out : List Int) : Prop where
  nd : out.Nodup
  rng : ∀ x ∈ out, 0 ≤ x ∧ x < n
  hd : out = [] ∧ f = f0 ∨ out.head? = some f0
  st : ∀ k (h : k + 1 < out.length), out[k + 1] = nx out[k]
  nxt : ∀ x, out.getLast? = some x → nx x = f
  lt : f < n
theorem Pre.start {nx : Int → Int} {n : Nat} {f : Int} (h : f < n) : Pre nx n f f [] :=
  ⟨by simp, by simp, .inl ⟨rfl, rfl⟩, by simp, by simp, h⟩
theorem Pre.step {nx : Int → Int} {n : Nat} {f0 f : Int} {out : List Int} (h : Pre nx n f0 f out) (hf : 0 ≤ f) (hm : f ∉ out) (hb : nx f < n) : Pre nx n f0 (nx f) (out ++ [f]) := by
  refine ⟨?_, ?_, ?_, ?_, ?_, hb⟩
  · rw [List.nodup_append]
    exact ⟨h.nd, by simp, fun a ha b hb e => by simp at hb; subst hb; subst e; exact hm ha⟩
  · intro x hx
    rcases List.mem_append.1 hx with hx | hx
    · exact h.rng x hx
    · simp at hx; subst hx; exact ⟨hf, h.lt⟩
  · right
    rcases h.hd with ⟨rfl, rfl⟩ | h1
    · rfl
    · cases out with
      | nil => simp at h1
      | cons a r => simpa using h1
  · intro k hk
    simp at hk
    by_cases e : k + 1 < out.length
    · rw [List.getElem_append_left e, List.getElem_append_left (by omega)]; exact h.st k e
    · have ek : k + 1 = out.length := by omega
      rw [List.getElem_append_right (by omega), List.getElem_append_left (by omega)]
      have hl : out.getLast? = some out[k] := by
        rw [List.getLast?_eq_getElem?, List.getElem?_eq_getElem (by omega)]
        simp only [← ek, Nat.add_sub_cancel]
      rw [h.nxt _ hl]
      simp [ek]
  · intro x hx
    simp at hx; rw [← hx]
theorem Pre.len {nx : Int → Int} {n : Nat} {f0 f : Int} {out : List Int} (h : Pre nx n f0 f out) : out.length ≤ n := nodup_bound n out h.nd h.rng
theorem Pre.done {nx : Int → Int} {n : Nat} {f0 f : Int} {out : List Int} (h : Pre nx n f0 f out) (hne : out ≠ []) (he : f < 0 ∨ f ∈ out) : Is nx f0 out := by
  refine ⟨h.nd, fun x hx => (h.rng x hx).1, hne, ?_, h.st, fun x hx => ?_⟩
  · rcases h.hd with ⟨h1, _⟩ | h1
    · exact absurd h1 hne
    · exact h1
  · rw [h.nxt x hx]; exact he

theorem go_is {nx : Int → Int} {n : Nat} {f0 : Int} (hb : ∀ x : Int, 0 ≤ x → x < n → nx x < n) (h0 : 0 ≤ f0) (h1 : f0 < n) :
    ∀ (m : Nat) (f : Int) (out : List Int), Pre nx n f0 f out → n + 1 ≤ m + out.length → Is nx f0 (go nx m f out) := by
  intro m
  induction m with
  | zero => intro f out h hm; have := h.len; omega
  | succ m ih =>
    intro f out h hm
    unfold go
    by_cases he : f < 0 ∨ f ∈ out
    · rw [if_pos he]
      refine h.done ?_ he
      rintro rfl
      rcases h.hd with ⟨_, rfl⟩ | h2
      · rcases he with he | he
        · omega
        · simp at he
      · simp at h2
    · rw [if_neg he]
      simp only [not_or, Int.not_lt] at he
      exact ih _ _ (h.step he.1 he.2 (hb f he.1 h.lt)) (by simp; omega)

theorem Is.at_eq {nx : Int → Int} {f : Int} {L M : List Int} (h : Is nx f L) (k : Is nx f M) : ∀ i (h1 : i < L.length) (h2 : i < M.length), L[i] = M[i] := by
  intro i
  induction i with
  | zero =>
    intro h1 h2
    have a := h.hd; have b := k.hd
    rw [List.head?_eq_getElem?, List.getElem?_eq_getElem h1] at a
    rw [List.head?_eq_getElem?, List.getElem?_eq_getElem h2] at b
    injection a with a; injection b with b
    rw [a, b]
  | succ i ih =>
    intro h1 h2
    rw [h.st i h1, k.st i h2, ih (by omega) (by omega)]
theorem Is.le_len {nx : Int → Int} {f : Int} {L M : List Int} (h : Is nx f L) (k : Is nx f M) : L.length ≤ M.length := by
  rcases Nat.lt_or_ge M.length L.length with hl | hl
  · exfalso
    have hm : 0 < M.length := by cases M with | nil => exact absurd rfl k.ne | cons _ _ => simp
    have e : M.getLast? = some M[M.length - 1] := by rw [List.getLast?_eq_getElem?, List.getElem?_eq_getElem (by omega)]
    have hn : L[M.length] = nx M[M.length - 1] := by
      have := h.st (M.length - 1) (by omega)
      have e2 : M.length - 1 + 1 = M.length := by omega
      simp only [e2] at this
      rw [this, h.at_eq k (M.length - 1) (by omega) (by omega)]
    rcases k.en _ e with hx | hx
    · have := h.pos L[M.length] (List.getElem_mem _); omega
    · rw [← hn] at hx
      obtain ⟨j, hj, hjj⟩ := List.getElem_of_mem hx
      rw [← h.at_eq k j (by omega) hj] at hjj
      have := nd_inj h.nd (by omega) hl hjj
      omega
  · exact hl
theorem Is.uniq {nx : Int → Int} {f : Int} {L M : List Int} (h : Is nx f L) (k : Is nx f M) : L = M :=
  List.ext_getElem (Nat.le_antisymm (h.le_len k) (k.le_len h)) (fun i h1 h2 => h.at_eq k i h1 h2)

theorem Is.lt {nx : Int → Int} {n : Nat} {f : Int} {L : List Int} (h : Is nx f L) (hb : ∀ x : Int, 0 ≤ x → x < n → nx x < n) (hf : f < n) : ∀ x ∈ L, 0 ≤ x ∧ x < n := by
  have hr : ∀ k (hk : k < L.length), 0 ≤ L[k] ∧ L[k] < n := by
    intro k
    induction k with
    | zero =>
      intro hk
      have a := h.hd
      rw [List.head?_eq_getElem?, List.getElem?_eq_getElem hk] at a
      injection a with a
      exact ⟨h.pos _ (List.getElem_mem _), by omega⟩
    | succ k ih =>
      intro hk
      have h2 := ih (by omega)
      have h3 := hb _ h2.1 h2.2
      rw [← h.st k hk] at h3
      exact ⟨h.pos _ (List.getElem_mem _), h3⟩
  intro x hx
  obtain ⟨k, hk, e⟩ := List.getElem_of_mem hx
  rw [← e]; exact hr k hk

/-- the chain from one of a chain is its rest, if the end leads nowhere or there -/
theorem Is.drop {nx : Int → Int} {f : Int} {L : List Int} (h : Is nx f L) {p : Nat} (hp : p < L.length) (he : ∀ x, L.getLast? = some x → nx x < 0 ∨ nx x ∈ L.drop p) : Is nx L[p] (L.drop p) := by
  refine ⟨h.nd.sublist (List.drop_sublist p L), fun x hx => h.pos x (List.mem_of_mem_drop hx), ?_, ?_, ?_, ?_⟩
  · intro e
    have := congrArg List.length e
    simp at this; omega
  · rw [List.head?_drop, List.getElem?_eq_getElem hp]
  · intro k hk
    simp at hk
    rw [List.getElem_drop, List.getElem_drop]
    have := h.st (p + k) (by omega)
    simpa [Nat.add_assoc] using this
  · intro x hx
    refine he x ?_
    rw [List.getLast?_drop] at hx
    split at hx
    · cases hx
    · exact hx

/-- from no one leads the link back to it -/
def noBack (nx : Int → Int) (n : Nat) : Prop := ∀ i : Int, 0 ≤ i → i < n → ∀ L, Is nx (nx i) L → i ∉ L
def allEnd (nx : Int → Int) (n : Nat) : Prop := ∀ f : Int, 0 ≤ f → f < n → ∀ L, Is nx f L → ∀ x, L.getLast? = some x → nx x < 0

theorem end_of_noBack {nx : Int → Int} {n : Nat} (hb : ∀ x : Int, 0 ≤ x → x < n → nx x < n) (h : noBack nx n) : allEnd nx n := by
  intro f h0 h1 L hL x hx
  rcases hL.en x hx with he | he
  · exact he
  · exfalso
    obtain ⟨p, hp, hpp⟩ := List.getElem_of_mem he
    have hr : ∀ k (hk : k < L.length), 0 ≤ L[k] ∧ L[k] < n := by
      intro k
      induction k with
      | zero =>
        intro hk
        have a := hL.hd
        rw [List.head?_eq_getElem?, List.getElem?_eq_getElem hk] at a
        injection a with a; omega
      | succ k ih =>
        intro hk
        have h2 := ih (by omega)
        have h3 := hb _ h2.1 h2.2
        rw [← hL.st k hk] at h3
        exact ⟨hL.pos _ (List.getElem_mem _), h3⟩
    have hxl : x ∈ L := List.mem_of_getLast? hx
    obtain ⟨q, hq, hqq⟩ := List.getElem_of_mem hxl
    have hxr := hr q hq
    rw [hqq] at hxr
    have hd := hL.drop hp (fun y hy => by
      rw [hx] at hy; injection hy with hy; subst hy
      right
      rw [← hpp]
      have e : L.drop p = L[p] :: L.drop (p + 1) := List.drop_eq_getElem_cons hp
      rw [e]; exact List.mem_cons_self)
    rw [hpp] at hd
    refine h x hxr.1 hxr.2 _ hd ?_
    have hlast : q = L.length - 1 := by
      rw [List.getLast?_eq_getElem?, List.getElem?_eq_getElem (by omega)] at hx
      injection hx with hx
      exact nd_inj hL.nd hq (by omega) (hqq.trans hx.symm)
    rw [List.mem_iff_getElem]
    refine ⟨q - p, by simp; omega, ?_⟩
    rw [List.getElem_drop]
    have e2 : p + (q - p) = q := by omega
    simp only [e2]; exact hqq

theorem noBack_of_end {nx : Int → Int} {n : Nat} (h : allEnd nx n) : noBack nx n := by
  intro i h0 h1 L hL hm
  obtain ⟨p, hp, hpp⟩ := List.getElem_of_mem hm
  -- the chain from i: i, then L's first part up to i
  have hl : 0 < L.length := by omega
  have hd0 : L[0] = nx i := by
    have a := hL.hd
    rw [List.head?_eq_getElem?, List.getElem?_eq_getElem hl] at a
    injection a
  have hI : Is nx i (i :: L.take p) := by
    refine ⟨?_, ?_, by simp, rfl, ?_, ?_⟩
    · rw [List.nodup_cons]
      refine ⟨fun hc => ?_, hL.nd.sublist (List.take_sublist p L)⟩
      obtain ⟨j, hj, hjj⟩ := List.getElem_of_mem hc
      rw [List.getElem_take] at hjj
      simp at hj
      have := nd_inj hL.nd (by omega) hp (hjj.trans hpp.symm)
      omega
    · intro x hx
      rcases List.mem_cons.1 hx with rfl | hx
      · exact h0
      · exact hL.pos x (List.mem_of_mem_take hx)
    · intro k hk
      simp at hk
      cases k with
      | zero => simpa using hd0
      | succ k =>
        simp
        exact hL.st k (by omega)
    · intro x hx
      right
      cases p with
      | zero =>
        simp at hx
        subst hx
        rw [← hd0, hpp]; simp
      | succ p =>
        have e : (i :: L.take (p + 1)).getLast? = some L[p] := by
          rw [List.getLast?_cons]
          have : (L.take (p + 1)).getLast? = some L[p] := by
            rw [List.getLast?_eq_getElem?, List.length_take]
            have : min (p + 1) L.length - 1 = p := by omega
            rw [this, List.getElem?_take, if_pos (by omega), List.getElem?_eq_getElem (by omega)]
          rw [this]; rfl
        rw [e] at hx; injection hx with hx; subst hx
        rw [← hL.st p hp, hpp]; simp
  have hne := hI.ne
  obtain ⟨x, hx⟩ : ∃ x, (i :: L.take p).getLast? = some x := by
    cases hg : (i :: L.take p).getLast? with
    | none => simp at hg
    | some x => exact ⟨x, rfl⟩
  have := h i h0 h1 _ hI x hx
  rcases hI.en x hx with he | he
  · -- its last one leads to i
    cases p with
    | zero =>
      simp at hx
      subst hx
      have : nx i = i := by rw [← hd0, hpp]
      omega
    | succ p =>
      have e : (i :: L.take (p + 1)).getLast? = some L[p] := by
        rw [List.getLast?_cons]
        have : (L.take (p + 1)).getLast? = some L[p] := by
          rw [List.getLast?_eq_getElem?, List.length_take]
          have : min (p + 1) L.length - 1 = p := by omega
          rw [this, List.getElem?_take, if_pos (by omega), List.getElem?_eq_getElem (by omega)]
        rw [this]; rfl
      rw [e] at hx; injection hx with hx; rw [← hx] at he
      rw [← hL.st p hp, hpp] at he
      omega
  · have := hI.pos _ he; omega
end Chn
end

section
def hasI : List Int → Int → Bool
  | [], _ => false
  | z :: r, x => z == x || hasI r x
def lowers : List UInt8 → Bool
  | [] => true
  | c :: r => decide (97 ≤ c.toNat) && decide (c.toNat ≤ 122) && lowers r
def okName (s : ByteArray) : Bool := lowers s.data.toList && decide (1 ≤ s.size) && decide (s.size ≤ 6)
def findN : List Cls → ByteArray → Int → Int
  | [], _, _ => -1
  | c :: r, s, k => if c.name = s then k else findN r s (k + 1)

theorem findN_cons (c : Cls) (r : List Cls) (s : ByteArray) (k : Int) : findN (c :: r) s k = if c.name = s then k else findN r s (k + 1) := rfl
theorem hasI_at {zs : List Int} {k : Nat} (h : k < zs.length) (x : Int) : hasI (zs.drop k) x = (zs[k] == x || hasI (zs.drop (k + 1)) x) := by
  rw [List.drop_eq_getElem_cons h]; rfl
theorem hasI_end {zs : List Int} {k : Nat} (h : ¬ k < zs.length) (x : Int) : hasI (zs.drop k) x = false := by
  rw [List.drop_eq_nil_of_le (by omega)]; rfl
theorem findN_at {zs : List Cls} {k : Nat} (h : k < zs.length) (s : ByteArray) (j : Int) : findN (zs.drop k) s j = if zs[k].name = s then j else findN (zs.drop (k + 1)) s (j + 1) := by
  rw [List.drop_eq_getElem_cons h]; rfl
theorem findN_end {zs : List Cls} {k : Nat} (h : ¬ k < zs.length) (s : ByteArray) (j : Int) : findN (zs.drop k) s j = -1 := by
  rw [List.drop_eq_nil_of_le (by omega)]; rfl
theorem lowers_at {s : ByteArray} {k : Nat} (h : k < s.size) : lowers (s.data.toList.drop k) = (decide (97 ≤ s[k].toNat) && decide (s[k].toNat ≤ 122) && lowers (s.data.toList.drop (k + 1))) := by
  rw [List.drop_eq_getElem_cons (by simpa using h)]; rfl
theorem lowers_end {s : ByteArray} {k : Nat} (h : ¬ k < s.size) : lowers (s.data.toList.drop k) = true := by
  rw [List.drop_eq_nil_of_le (by simpa using h)]; rfl
end

section
theorem inRange_any (a b c : Int) (w : World) : Calls Tryz.prog 57 #[.int .i64 a, .int .i64 b, .int .i64 c] w fun e w' => e = .returned (.bool (decide (b ≤ a) && decide (a ≤ c))) ∧ w = w' := by
  go_enter Tryz.func57, Tryz.ntmps57
  go_wp2
  all_goals (go_ret; simp_all)
  all_goals omega

theorem hasInt_any (A : Option Addr) (n cap : Nat) (zs : List Int) (x : Int) (w : World) (hR : Sl w A n cap zs) :
    Calls Tryz.prog 95 #[.slice A n cap, .int .i64 x] w fun e w' => e = .returned (.bool (hasI zs x)) ∧ w = w' := by
  obtain rfl := hR.len
  have hm := hR.n_le
  go_enter Tryz.func95, Tryz.ntmps95
  go_wp2
  go_loop [5] (fun i => ∃ k : Nat, k ≤ zs.length ∧ i = .int .i64 k ∧ hasI zs x = hasI (zs.drop k) x) (fun i => zs.length - (intOf i).toNat)
  case atStart => exact ⟨0, Nat.zero_le _, rfl, rfl⟩
  case round =>
    obtain ⟨k, hk, rfl, hr⟩ := hrel
    have HR := Lib.hid hr; clear hr
    by_cases hlt : k < zs.length
    · obtain ⟨b, off, rfl, _, hcell, _, _⟩ := hR.int_at hlt
      cases he : zs[k] == x
      · have HF : Hid (hasI zs x = hasI (zs.drop (k + 1)) x) := by show _ = _; rw [HR.out, hasI_at hlt, he]; rfl
        go_wp2
        go_round
        case rel => exact ⟨k + 1, by omega, by go_num, HF.out⟩
        case measure => simp [intOf]; omega
      · have HF : Hid (hasI zs x = true) := by show _ = _; rw [HR.out, hasI_at hlt, he]; rfl
        go_wp2
        go_ret
        exact ⟨ret_bool HF.out.symm, rfl⟩
    · have HF : Hid (hasI zs x = false) := by show _ = _; rw [HR.out, hasI_end hlt]
      go_wp2
      go_ret
      exact ⟨ret_bool HF.out.symm, rfl⟩

theorem validName_any (s : ByteArray) (w : World) (hs : s.size ≤ 9223372036854775807) : Calls Tryz.prog 63 #[.string s] w fun e w' => e = .returned (.bool (okName s)) ∧ w = w' := by
  go_enter Tryz.func63, Tryz.ntmps63
  go_wp2
  go_loop [3] (fun i => ∃ k : Nat, k ≤ s.size ∧ i = .int .i64 k ∧ lowers s.data.toList = lowers (s.data.toList.drop k)) (fun i => s.size - (intOf i).toNat)
  case atStart => exact ⟨0, Nat.zero_le _, rfl, rfl⟩
  case round =>
    obtain ⟨k, hk, rfl, hr⟩ := hrel
    have HR := Lib.hid hr; clear hr
    by_cases hlt : k < s.size
    · have hc : 0 ≤ (s[k].toNat : Int) ∧ (s[k].toNat : Int) ≤ 255 := by have := UInt8.toNat_lt s[k]; omega
      by_cases h1 : s[k].toNat < 97
      · have HF : Hid (okName s = false) := by show _ = _; unfold okName; rw [HR.out, lowers_at hlt, decide_eq_false (p := 97 ≤ s[k].toNat) (by omega)]; rfl
        go_wp2
        go_ret
        exact ⟨ret_bool HF.out.symm, rfl⟩
      · by_cases h2 : 122 < s[k].toNat
        · have HF : Hid (okName s = false) := by show _ = _; unfold okName; rw [HR.out, lowers_at hlt, decide_eq_false (p := s[k].toNat ≤ 122) (by omega)]; simp
          go_wp2
          go_ret
          exact ⟨ret_bool HF.out.symm, rfl⟩
        · have HF : Hid (lowers s.data.toList = lowers (s.data.toList.drop (k + 1))) := by show _ = _; rw [HR.out, lowers_at hlt, decide_eq_true (p := 97 ≤ s[k].toNat) (by omega), decide_eq_true (p := s[k].toNat ≤ 122) (by omega)]; rfl
          go_wp2
          go_round
          case rel => exact ⟨k + 1, by omega, by go_num, HF.out⟩
          case measure => simp [intOf]; omega
    · have HF : Hid (okName s = (decide ((1 : Int) ≤ s.size) && decide ((s.size : Int) ≤ 6))) := by
        show _ = _; unfold okName; rw [HR.out, lowers_end hlt, Bool.true_and]; congr 1 <;> exact decide_eq_decide.2 (by omega)
      go_wp2_with (go_at_call 57; refine (inRange_any _ _ _ _).mono ?_; rintro e w' ⟨rfl, rfl⟩)
      go_ret
      exact ⟨ret_bool HF.out.symm, rfl⟩

theorem classNamed_any (A : Option Addr) (n cap : Nat) (xs : List Cls) (s : ByteArray) (w : World) (hR : Sl w A n cap xs) :
    Calls Tryz.prog 64 #[.slice A n cap, .string s] w fun e w' => e = .returned (.int .i64 (findN xs s 0)) ∧ w = w' := by
  obtain rfl := hR.len
  have hm := hR.n_le
  go_enter Tryz.func64, Tryz.ntmps64
  go_wp2
  go_loop [5] (fun i => ∃ k : Nat, k ≤ xs.length ∧ i = .int .i64 k ∧ findN xs s 0 = findN (xs.drop k) s k) (fun i => xs.length - (intOf i).toNat)
  case atStart => exact ⟨0, Nat.zero_le _, rfl, rfl⟩
  case round =>
    obtain ⟨k, hk, rfl, hr⟩ := hrel
    have HR := Lib.hid hr; clear hr
    by_cases hlt : k < xs.length
    · obtain ⟨b, off, rfl, _, hcell, hcell2, _, _, _⟩ := hR.cls_at hlt
      by_cases he : xs[k].name = s
      · have he' := str_eq he
        have HF : Hid (findN xs s 0 = k) := by show _ = _; rw [HR.out, findN_at hlt, if_pos he]
        go_wp2
        go_ret
        exact ⟨ret_int HF.out.symm, rfl⟩
      · have he' := str_ne he
        have HF : Hid (findN xs s 0 = findN (xs.drop (k + 1)) s ((k + 1 : Nat) : Int)) := by show _ = _; rw [HR.out, findN_at hlt, if_neg he]; rfl
        go_wp2
        go_round
        case rel => exact ⟨k + 1, by omega, by go_num, HF.out⟩
        case measure => simp [intOf]; omega
    · have HF : Hid (findN xs s 0 = -1) := by show _ = _; rw [HR.out, findN_end hlt]
      go_wp2
      go_ret
      exact ⟨ret_int HF.out.symm, rfl⟩
end

section
def badCls (all : List Cls) (i : Nat) (c : Cls) : Bool := !okName c.name || decide (0 ≤ findN (all.take i) c.name 0) || ((i : Int) == 0 && c.parent != -1) || (decide (0 < (i : Int)) && !(decide (0 ≤ c.parent) && decide (c.parent ≤ (i : Int) - 1)))
def okFrom (all : List Cls) : Nat → List Cls → Bool
  | _, [] => decide (1 ≤ all.length) && decide (all.length ≤ 8)
  | i, c :: r => !badCls all i c && okFrom all (i + 1) r
def okTree (all : List Cls) : Bool := okFrom all 0 all
theorem okFrom_at {all : List Cls} {k : Nat} (h : k < all.length) : okFrom all k (all.drop k) = (!badCls all k all[k] && okFrom all (k + 1) (all.drop (k + 1))) := by
  rw [List.drop_eq_getElem_cons h]; rfl
theorem okFrom_end {all : List Cls} {k : Nat} (h : ¬ k < all.length) : okFrom all k (all.drop k) = (decide ((1 : Int) ≤ all.length) && decide ((all.length : Int) ≤ 8)) := by
  rw [List.drop_eq_nil_of_le (by omega)]
  show (decide (1 ≤ all.length) && decide (all.length ≤ 8)) = _
  congr 1 <;> simp <;> omega

set_option maxHeartbeats 8000000 in
theorem validTree_any (A : Option Addr) (n cap : Nat) (xs : List Cls) (w : World) (hR : Sl w A n cap xs) :
    Calls Tryz.prog 39 #[.agg #[.slice A n cap]] w fun e w' => e = .returned (.bool (okTree xs)) ∧ Le w w' := by
  obtain rfl := hR.len
  have hm := hR.n_le
  have hcp := hR.cap_
  go_enter Tryz.func39, Tryz.ntmps39
  go_wp2
  go_loopw [3] (fun i wr => ∃ k : Nat, k ≤ xs.length ∧ i = .int .i64 k ∧ okTree xs = okFrom xs k (xs.drop k) ∧ Le (w.alloc (.cells #[.slice A xs.length cap] 37)) wr) (fun i _ => xs.length - (intOf i).toNat)
  case atStart => exact ⟨0, Nat.zero_le _, rfl, rfl, Le.refl _⟩
  case round =>
    obtain ⟨k, hk, rfl, hr, hle⟩ := hrel
    have HR := Lib.hid hr; clear hr
    have hz : w.heap.size < wr.heap.size := by have := hle.size; simp at this; omega
    have hT : wr.cell? ⟨w.heap.size, 0, none⟩ = some (.slice A xs.length cap) := by
      rw [hle.cell (by simp)]; simp
    have hwr : Le w wr := (Le.new w _).trans hle
    have hRr := hR.le hwr
    clear hR
    by_cases hlt : k < xs.length
    · obtain ⟨b, off, rfl, hb, hcell, hcell2, hns, hp1, hp2⟩ := hRr.cls_at hlt
      go_wp2
      generalize hWd : wr.alloc _ = W
      have hWle : Le wr W := by rw [← hWd]; exact Le.new wr _
      have e1 : W.cell? ⟨wr.heap.size, 0, none⟩ = some (.string xs[k].name) := by rw [← hWd]; simp
      have e2 : W.cell? ⟨wr.heap.size, 1, none⟩ = some (.int .i64 xs[k].parent) := by rw [← hWd]; simp
      have hzW : wr.heap.size < W.heap.size := by rw [← hWd]; simp
      have e3 : W.cell? ⟨w.heap.size, 0, none⟩ = some (.slice (some ⟨b, off, none⟩) xs.length cap) := (hWle.cell hz).trans hT
      have hRW := hRr.le hWle
      clear hWd hcell hcell2 hT
      have E1 := cell_ext hzW e1
      have E2 := cell_ext hzW e2
      have E3 := cell_ext (by omega) e3
      have HB : Hid (okTree xs = (!badCls xs k xs[k] && okFrom xs (k + 1) (xs.drop (k + 1)))) := by show _ = _; rw [HR.out, okFrom_at hlt]
      unfold badCls at HB
      by_cases hk0 : k = 0
      all_goals cases h1 : okName xs[k].name
      all_goals cases h2 : decide (0 ≤ findN (xs.take k) xs[k].name 0)
      all_goals cases h4 : xs[k].parent != -1
      all_goals cases h6 : (decide (0 ≤ xs[k].parent) && decide (xs[k].parent ≤ (k : Int) - 1))
      all_goals
        have h3 : ((k : Int) == 0) = decide (k = 0) := by
          by_cases e : k = 0 <;> simp [e]
        have h5 : decide (0 < (k : Int)) = !decide (k = 0) := by
          by_cases e : k = 0 <;> simp [e]
          omega
        have h5n : decide (0 < k) = !decide (k = 0) := by
          by_cases e : k = 0 <;> simp [e]
          omega
      all_goals first | rw [decide_eq_true hk0] at h3 h5 h5n | rw [decide_eq_false hk0] at h3 h5 h5n
      all_goals simp only [Bool.not_true, Bool.not_false] at h5 h5n
      all_goals
        have hout := HB.out
        simp only [h1, h2, h3, h4, h5, h6] at hout
        have HO := Lib.hid hout
        clear hout HB
        clear hk0
      all_goals
        refine wp_region_ext (by kernel_rfl) (by kernel_rfl) ?_
        repeat (go_big_quiet_step (first | (go_at_call 63; exact Calls.ext_same (Calls.val (validName_any _ _ hns) (vb h1))) | (go_at_call 64; exact Calls.ext_same (classNamed_any _ _ _ _ _ _ ((hRW.ext _).take_ _ (by omega)))) | (go_at_call 57; exact Calls.ext_same (Calls.val (inRange_any _ _ _ _) (vb h6)))))
        refine wpQuiet_nil ?_
        intro _ hw'
        obtain ⟨g, rfl⟩ := hw'
        have hg := hWle.trans (Le.ext W g)
        generalize W.ext g = W2 at *
        go_wp2
        first
          | (go_ret; exact ⟨ret_bool (by rw [HO.out]; rfl), hwr.trans hg⟩)
          | (go_roundw
             case rel => exact ⟨k + 1, by omega, by go_num, by rw [HO.out]; rfl, hle.trans hg⟩
             case measure => simp [intOf]; omega)
    · have HF : Hid (okTree xs = (decide ((1 : Int) ≤ xs.length) && decide ((xs.length : Int) ≤ 8))) := by show _ = _; rw [HR.out, okFrom_end hlt]
      go_wp2_with (go_at_call 57; refine (inRange_any _ _ _ _).mono ?_; rintro e w' ⟨rfl, rfl⟩)
      go_ret
      exact ⟨ret_bool HF.out.symm, hwr⟩
end

section
theorem okFrom_mem {all : List Cls} : ∀ (m k : Nat), k + m = all.length → okFrom all k (all.drop k) = true → (1 ≤ all.length ∧ all.length ≤ 8) ∧ ∀ i (h : i < all.length), k ≤ i → badCls all i all[i] = false := by
  intro m
  induction m with
  | zero =>
    intro k hk h
    rw [okFrom_end (by omega)] at h
    simp at h
    exact ⟨by omega, fun i hi hki => by omega⟩
  | succ m ih =>
    intro k hk h
    rw [okFrom_at (by omega), Bool.and_eq_true] at h
    obtain ⟨h1, h2⟩ := h
    obtain ⟨hl, hr⟩ := ih (k + 1) (by omega) h2
    refine ⟨hl, fun i hi hki => ?_⟩
    by_cases e : i = k
    · subst e; simpa using h1
    · exact hr i hi (by omega)
/-- what a valid tree keeps to -/
structure Good (xs : List Cls) : Prop where
  lo : 1 ≤ xs.length
  hi : xs.length ≤ 8
  root : ∀ h : 0 < xs.length, xs[0].parent = -1
  par : ∀ i (h : i < xs.length), 0 < i → 0 ≤ xs[i].parent ∧ xs[i].parent ≤ (i : Int) - 1
  name : ∀ i (h : i < xs.length), okName xs[i].name = true
  diff : ∀ i (h : i < xs.length), findN (xs.take i) xs[i].name 0 < 0
theorem good_of {xs : List Cls} (h : okTree xs = true) : Good xs := by
  obtain ⟨⟨h1, h2⟩, hb⟩ := okFrom_mem (all := xs) xs.length 0 (by omega) (by simpa [okTree] using h)
  have hx : ∀ i (h : i < xs.length), okName xs[i].name = true ∧ findN (xs.take i) xs[i].name 0 < 0 ∧ (i = 0 → xs[i].parent = -1) ∧ (0 < i → 0 ≤ xs[i].parent ∧ xs[i].parent ≤ (i : Int) - 1) := by
    intro i hi
    have := hb i hi (Nat.zero_le _)
    unfold badCls at this
    simp only [Bool.or_eq_false_iff, Bool.not_eq_false', Bool.and_eq_false_iff, decide_eq_false_iff_not] at this
    obtain ⟨⟨⟨a, b⟩, c⟩, d⟩ := this
    refine ⟨a, by omega, fun e => ?_, fun e => ?_⟩
    · subst e
      rcases c with c | c
      · simp at c
      · simpa [bne] using c
    · rcases d with d | d
      · omega
      · simpa using d
  exact ⟨h1, h2, fun h => (hx 0 h).2.2.1 rfl, fun i h => (hx i h).2.2.2, fun i h => (hx i h).1, fun i h => (hx i h).2.1⟩
theorem Good.par_le {xs : List Cls} (g : Good xs) {i : Nat} (h : i < xs.length) : -1 ≤ xs[i].parent ∧ xs[i].parent ≤ (i : Int) - 1 := by
  by_cases e : i = 0
  · subst e; have := g.root h; omega
  · have := g.par i h (by omega); omega

def parOf (xs : List Cls) (a : Int) : Int := match xs[a.toNat]? with | some c => c.parent | none => -1
def aboveL (xs : List Cls) (a : Int) : List Int := if 0 ≤ a then a :: (if parOf xs a < a then aboveL xs (parOf xs a) else []) else []
termination_by (a + 1).toNat
decreasing_by omega
def isAL (xs : List Cls) (a b : Int) : Bool := hasI (aboveL xs a) b
theorem parOf_at {xs : List Cls} {i : Nat} (h : i < xs.length) : parOf xs (i : Int) = xs[i].parent := by
  unfold parOf; rw [Int.toNat_natCast, List.getElem?_eq_getElem h]
theorem aboveL_neg {xs : List Cls} {a : Int} (h : a < 0) : aboveL xs a = [] := by rw [aboveL, if_neg (by omega)]
theorem aboveL_at {xs : List Cls} (g : Good xs) {i : Nat} (h : i < xs.length) : aboveL xs (i : Int) = (i : Int) :: aboveL xs xs[i].parent := by
  have hp := g.par_le h
  rw [aboveL, if_pos (by omega), parOf_at h, if_pos (by omega)]
theorem isAL_at {xs : List Cls} (g : Good xs) {i : Nat} (h : i < xs.length) (b : Int) : isAL xs (i : Int) b = ((i : Int) == b || isAL xs xs[i].parent b) := by
  unfold isAL; rw [aboveL_at g h]; rfl
theorem isAL_neg {xs : List Cls} {a : Int} (h : a < 0) (b : Int) : isAL xs a b = false := by unfold isAL; rw [aboveL_neg h]; rfl
/-- all that is above lies in the tree -/
theorem aboveL_mem {xs : List Cls} (g : Good xs) : ∀ (m : Nat) (a : Int), (a + 1).toNat = m → a < xs.length → ∀ x ∈ aboveL xs a, 0 ≤ x ∧ x ≤ a := by
  intro m
  induction m using Nat.strongRecOn with
  | _ m ih =>
    intro a hm ha x hx
    by_cases h : a < 0
    · rw [aboveL_neg h] at hx; cases hx
    · obtain ⟨i, rfl⟩ := Int.eq_ofNat_of_zero_le (by omega : 0 ≤ a)
      have hi : i < xs.length := by omega
      rw [aboveL_at g hi] at hx
      have hp := g.par_le hi
      rcases List.mem_cons.1 hx with rfl | hx
      · omega
      · have := ih (xs[i].parent + 1).toNat (by omega) _ rfl (by omega) x hx
        omega
theorem aboveL_len {xs : List Cls} (g : Good xs) : ∀ (m : Nat) (a : Int), (a + 1).toNat = m → a < xs.length → (aboveL xs a).length ≤ m := by
  intro m
  induction m using Nat.strongRecOn with
  | _ m ih =>
    intro a hm ha
    by_cases h : a < 0
    · rw [aboveL_neg h]; simp
    · obtain ⟨i, rfl⟩ := Int.eq_ofNat_of_zero_le (by omega : 0 ≤ a)
      have hi : i < xs.length := by omega
      rw [aboveL_at g hi]
      have hp := g.par_le hi
      have := ih (xs[i].parent + 1).toNat (by omega) _ rfl (by omega)
      simp; omega

def hasK (xs : List Cls) (a : Int) : Bool := decide (0 ≤ a) && decide (a ≤ (xs.length : Int) - 1)

theorem hasClass_any (A : Option Addr) (n cap : Nat) (xs : List Cls) (a : Int) (w : World) (hR : Sl w A n cap xs) :
    Calls Tryz.prog 87 #[.agg #[.slice A n cap], .int .i64 a] w fun e w' => e = .returned (.bool (hasK xs a)) ∧ Le w w' := by
  obtain rfl := hR.len
  have hm := hR.n_le
  go_enter Tryz.func87, Tryz.ntmps87
  go_wp2_with (go_at_call 57; refine (inRange_any _ _ _ _).mono ?_; rintro e w' ⟨rfl, rfl⟩)
  go_ret
  exact ⟨rfl, Le.new w _⟩

theorem intInfo : (Tryz.prog.info? 3).map (fun i => (i.zero, i.size, i.bytes)) = some (some (.int .i64 0), 1, 8) := by kernel_rfl

set_option maxRecDepth 100000 in
theorem above_any (A : Option Addr) (n cap : Nat) (xs : List Cls) (a : Int) (w : World) (hR : Sl w A n cap xs) (g : Good xs) (ha : a < xs.length) (ha0 : -1 ≤ a) :
    Calls Tryz.prog 118 #[.agg #[.slice A n cap], .int .i64 a] w fun e w' => ∃ v, e = .returned v ∧ w'.ownsRow w.heap.size 3 1 v (aboveL xs a).length ((aboveL xs a).flatMap Enc.cells) ∧ Le w w' := by
  obtain ⟨i0, hi, hz0, hz1, hz2⟩ := info_parts intInfo
  have hl := Le.new w (.cells #[.slice A n cap] 37)
  have c0 : (w.alloc (.cells #[.slice A n cap] 37)).cell? ⟨w.heap.size, 0, none⟩ = some (.slice A n cap) := by rw [World.cell?_alloc_at _ _ _ _ rfl]; rfl
  have hz : w.heap.size < (w.alloc (.cells #[.slice A n cap] 37)).heap.size := by simp
  go_enter Tryz.func118, Tryz.ntmps118
  go_wp2
  have hlen := aboveL_len g _ a rfl (by omega)
  have hhi := g.hi
  have hnn := hR.len
  go_loopw [1, 5] (fun q v wr => ∃ a' : Int, ∃ out : List Int, -1 ≤ a' ∧ a' < xs.length ∧ q = .int .i64 a' ∧ aboveL xs a = out ++ aboveL xs a' ∧ wr.ownsRow (w.heap.size + 1) 3 1 v out.length (out.flatMap Enc.cells) ∧
      wr.cell? ⟨w.heap.size, 0, none⟩ = some (.slice A n cap) ∧ w.heap.size + 1 < wr.heap.size ∧ Le w wr) (fun q _ _ => (intOf q + 1).toNat)
  case atStart =>
    refine ⟨a, [], ha0, ha, rfl, rfl, ?_, ?_, by simp, hl.alloc _⟩
    · exact own_empty hz (by simp)
    · exact (World.cell?_alloc_past _ _ _ hz).trans c0
  case round =>
    obtain ⟨a', out, h1, h2, rfl, hr, hown, hT, hzr, hle⟩ := hrel
    have HR := Lib.hid hr; clear hr
    clear c0 hz hl
    by_cases h0 : a' < 0
    · have HF : Hid (aboveL xs a = out) := by show _ = _; rw [HR.out, aboveL_neg h0, List.append_nil]
      go_wp2
      go_ret
      exact ⟨_, rfl, by rw [HF.out]; exact own_mono hown (by omega), hle⟩
    · obtain ⟨i, rfl⟩ := Int.eq_ofNat_of_zero_le (by omega : 0 ≤ a')
      have hi' : i < xs.length := by omega
      have hp := g.par_le hi'
      obtain ⟨b, off, rfl, hb, hcell, hcell2, _, _, _⟩ := hR.cls_at hi'
      have HS : Hid (aboveL xs a = (out ++ [(i : Int)]) ++ aboveL xs xs[i].parent) := by show _ = _; rw [HR.out, aboveL_at g hi']; simp
      have hol : out.length + 1 ≤ 8 := by
        have e := congrArg List.length HS.out
        simp at e; omega
      have hc3 : out.length + 1 ≤ maxLen := by unfold maxLen; omega
      have hc4 : (out.length + 1) * 8 ≤ 140737488355328 := by omega
      have hiN : i < n := by omega
      have HN := Lib.hid hnn; clear hnn
      go_wp2_with (at_builtin; refine wpList_append_own _ rfl _ _ 28 rfl (w.heap.size + 1) 3 i0 (.int .i64 0) 1 8 Tryz.underlying28 hi hz0 hz1 hz2 rfl (by decide) _ _ _ rfl (hown.alloc _) ⟨wr.heap.size, 0, none⟩ 1 1 [.int .i64 i] rfl rfl ?c1 ?c2 hc3 hc4 ?c5 ?_)
      case c2 => rfl
      case c5 => omega
      intro v1 w1 hown1 hg1 _
      have hle1 := (hle.alloc (.cells #[.int .i64 (i : Int)] 3)).grown hg1 (fun k hk => by have := (hown.lt k hk).1; omega)
      have hT1 := hg1.cell ((World.cell?_alloc_past (.cells #[.int .i64 (i : Int)] 3) _ _ (by omega)).trans hT) (fun e => by have h' : w.heap.size + 1 ≤ w.heap.size := (hown.lt _ e.symm).1; omega)
      have hcell1 := (hle1.cell hb).trans hcell2
      go_wp2
      go_roundw
      case rel =>
        refine ⟨xs[i].parent, out ++ [(i : Int)], by omega, by omega, rfl, HS.out, ?_, hT1, ?_, hle1⟩
        · simpa [Enc.cells] using hown1
        · have := hg1.size; simp at this; omega
      case measure => simp [intOf]; omega
end

section
def isAx (xs : List Cls) (a b : Int) : Bool := okTree xs && hasK xs a && hasK xs b && isAL xs a b
theorem isAx_of {xs : List Cls} {t p q r : Bool} {a b : Int} (h1 : okTree xs = t) (h2 : hasK xs a = p) (h3 : hasK xs b = q) (h4 : isAL xs a b = r) : isAx xs a b = (t && p && q && r) := by unfold isAx; rw [h1, h2, h3, h4]
theorem hasK_iff {xs : List Cls} {a : Int} : hasK xs a = true ↔ 0 ≤ a ∧ a < xs.length := by unfold hasK; simp; omega
def blk : Value → Nat
  | .pointer (some p) => p.block + 1
  | _ => 0
end
end Go.Proofs.YtdbmolhdgmopoaaGreat
