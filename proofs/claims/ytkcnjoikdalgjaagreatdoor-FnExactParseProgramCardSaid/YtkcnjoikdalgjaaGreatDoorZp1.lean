/- one text of K, L, R, P, A, B, I, TyStr, S, KB -/
import Derived.Test.YtkcnjoikdalgjaaGreatDoorRows
import Derived.WalkKit
import Derived.Lib.Hide
import Derived.Deep.Draws
import Derived.Deep.QuietTactic
import Derived.BigQuiet
import Derived.Deep.RegionWith
namespace Go.Proofs.YtkcnjoikdalgjaaGreatDoor
open Go.RowKit
set_option linter.unusedVariables false
section
/-- w' is w and more: nothing that was there has turned. -/
def Le (w w' : World) : Prop := Below w.heap.size w w'
theorem Le.refl (w : World) : Le w w := Below.refl _ _
theorem Le.trans {a b c : World} (h : Le a b) (k : Le b c) : Le a c := Below.trans h (Below.mono k h.size)
theorem Le.alloc {a w : World} (h : Le a w) (o : Obj) : Le a (w.alloc o) := Below.alloc h h.size o
theorem Le.drew {a w : World} (h : Le a w) : Le a w.drew := Below.drew h
theorem Le.drewN {a w : World} (h : Le a w) (n : Nat) : Le a (w.drewN n) := Below.trans h ⟨rfl, rfl, rfl, Nat.le_refl _, fun _ _ => rfl⟩
theorem Le.setCell {a w : World} (h : Le a w) {b o : Nat} (hb : a.heap.size ≤ b) (u : Value) : Le a (w.setCell ⟨b, o, none⟩ u) := Below.setCell h (p := ⟨b, o, none⟩) hb u
theorem Le.cell {w w' : World} (h : Le w w') {b o : Nat} (hb : b < w.heap.size) : w'.cell? ⟨b, o, none⟩ = w.cell? ⟨b, o, none⟩ := Below.cell h (p := ⟨b, o, none⟩) hb
theorem Le.frozen {w w' : World} (h : Le w w') {b o : Nat} (hb : b < w.heap.size) : w'.frozen? ⟨b, o, none⟩ = w.frozen? ⟨b, o, none⟩ := Below.frozen h (p := ⟨b, o, none⟩) hb
theorem Le.new (w : World) (o : Obj) : Le w (w.alloc o) := (Le.refl w).alloc o
theorem Le.grown {a w w' : World} (h : Le a w) {row : Option Nat} (hg : w.grownBy w' row) (hr : ∀ k, row = some k → a.heap.size ≤ k) : Le a w' := Below.grown h hg h.size hr

theorem ret_bool {a b : Bool} (h : a = b) : Ending.returned (.bool a) = .returned (.bool b) := by rw [h]
theorem ret_int {a b : Int} (h : a = b) : Ending.returned (.int .i64 a) = .returned (.int .i64 b) := by rw [h]
theorem ret_str {a b : ByteArray} (h : a = b) : Ending.returned (.string a) = .returned (.string b) := by rw [h]

/-- How a value of the type lies in memory: so many cells; what its numbers and texts keep to. -/
class Enc (α : Type) where
  size : Nat
  cells : α → List Value
  ok : α → Prop
  len : ∀ x, (cells x).length = size

theorem flat_at {α : Type} [Enc α] (xs : List α) : ∀ (k : Nat) (hk : k < xs.length) (j : Nat), j < Enc.size α → (xs.flatMap Enc.cells)[k * Enc.size α + j]? = (Enc.cells xs[k])[j]? := by
  induction xs with
  | nil => intro k hk; simp at hk
  | cons x r ih =>
    intro k hk j hj
    rw [List.flatMap_cons]
    cases k with
    | zero => rw [List.getElem?_append_left (by rw [Enc.len]; omega)]; simp
    | succ k =>
      rw [List.getElem?_append_right (by rw [Enc.len, Nat.succ_mul]; omega), Enc.len]
      have e : (k + 1) * Enc.size α + j - Enc.size α = k * Enc.size α + j := by rw [Nat.succ_mul]; omega
      rw [e, ih k (by simpa using hk) j hj]; rfl
theorem flat_len {α : Type} [Enc α] (xs : List α) : (xs.flatMap Enc.cells).length = xs.length * Enc.size α := by
  induction xs with
  | nil => simp
  | cons x r ih => rw [List.flatMap_cons, List.length_append, ih, Enc.len, List.length_cons, Nat.succ_mul]; omega

/-- The slice .slice A n cap reads as the list xs. -/
structure Sl {α : Type} [Enc α] (w : World) (A : Option Addr) (n cap : Nat) (xs : List α) : Prop where
  len : xs.length = n
  cap_ : n ≤ cap
  max : cap ≤ 9223372036854775807
  ok : ∀ x ∈ xs, Enc.ok x
  at_ : 0 < n → ∃ b off, A = some ⟨b, off, none⟩ ∧ b < w.heap.size ∧ ∀ j u, (xs.flatMap Enc.cells)[j]? = some u → w.cell? ⟨b, off + j, none⟩ = some u

section
variable {α : Type} [Enc α] {w w' : World} {A : Option Addr} {n cap : Nat} {xs : List α}
theorem Sl.nil (w : World) (A : Option Addr) (cap : Nat) (h : cap ≤ 9223372036854775807) : Sl w A 0 cap ([] : List α) := ⟨rfl, Nat.zero_le _, h, (fun _ h => nomatch h), fun h => absurd h (by omega)⟩
theorem Sl.n_le (h : Sl w A n cap xs) : n ≤ 9223372036854775807 := Nat.le_trans h.cap_ h.max
theorem Sl.le (h : Sl w A n cap xs) (hb : Le w w') : Sl w' A n cap xs :=
  ⟨h.len, h.cap_, h.max, h.ok, fun hn => by
    obtain ⟨b, off, e, hlt, hc⟩ := h.at_ hn
    exact ⟨b, off, e, Nat.lt_of_lt_of_le hlt hb.size, fun j u hu => (hb.cell hlt).trans (hc j u hu)⟩⟩
theorem Sl.alloc (h : Sl w A n cap xs) (o : Obj) : Sl (w.alloc o) A n cap xs := h.le (Le.new w o)
theorem Sl.take_ (h : Sl w A n cap xs) (k : Nat) (hk : k ≤ n) : Sl w A k cap (xs.take k) := by
  refine ⟨by rw [List.length_take, h.len]; omega, Nat.le_trans hk h.cap_, h.max, fun x hx => h.ok x (List.mem_of_mem_take hx), fun hn => ?_⟩
  obtain ⟨b, off, e, hb, hc⟩ := h.at_ (by omega)
  refine ⟨b, off, e, hb, fun j u hu => hc j u ?_⟩
  have hsplit : xs.flatMap Enc.cells = (xs.take k).flatMap Enc.cells ++ (xs.drop k).flatMap Enc.cells := by rw [← List.flatMap_append, List.take_append_drop]
  rw [hsplit, List.getElem?_append_left (by
    have := (List.getElem?_eq_some_iff.1 hu).1
    exact this)]
  exact hu
theorem Sl.cells_ (h : Sl w A n cap xs) {k : Nat} (hk : k < xs.length) :
    ∃ b off, A = some ⟨b, off, none⟩ ∧ b < w.heap.size ∧ ∀ j, j < Enc.size α → ∀ u, (Enc.cells xs[k])[j]? = some u → w.cell? ⟨b, off + (k * Enc.size α + j), none⟩ = some u := by
  obtain ⟨b, off, e, hb, hc⟩ := h.at_ (by have := h.len; omega)
  exact ⟨b, off, e, hb, fun j hj u hu => hc _ _ ((flat_at xs k hk j hj).trans hu)⟩
end

instance instEncInt : Enc Int := ⟨1, fun x => [.int .i64 x], fun x => -9223372036854775808 ≤ x ∧ x ≤ 9223372036854775807, fun _ => rfl⟩
theorem Sl.int_at {w : World} {A : Option Addr} {n cap : Nat} {xs : List Int} (h : Sl w A n cap xs) {k : Nat} (hk : k < xs.length) :
    ∃ b off, A = some ⟨b, off, none⟩ ∧ b < w.heap.size ∧ w.cell? ⟨b, off + k, none⟩ = some (.int .i64 xs[k]) ∧ -9223372036854775808 ≤ xs[k] ∧ xs[k] ≤ 9223372036854775807 := by
  obtain ⟨b, off, e, hb, hc⟩ := h.cells_ hk
  have := hc 0 (by decide) _ rfl
  exact ⟨b, off, e, hb, by simpa [Enc.size] using this, (h.ok xs[k] (List.getElem_mem hk)).1, (h.ok xs[k] (List.getElem_mem hk)).2⟩

/-- a class -/
structure Cls where
  name : ByteArray
  parent : Int
instance instEncCls : Enc Cls := ⟨2, fun c => [.string c.name, .int .i64 c.parent], fun c => c.name.size ≤ 9223372036854775807 ∧ -9223372036854775808 ≤ c.parent ∧ c.parent ≤ 9223372036854775807, fun _ => rfl⟩
theorem Sl.cls_at {w : World} {A : Option Addr} {n cap : Nat} {xs : List Cls} (h : Sl w A n cap xs) {k : Nat} (hk : k < xs.length) :
    ∃ b off, A = some ⟨b, off, none⟩ ∧ b < w.heap.size ∧ w.cell? ⟨b, off + k * 2, none⟩ = some (.string xs[k].name) ∧ w.cell? ⟨b, off + k * 2 + 1, none⟩ = some (.int .i64 xs[k].parent) ∧
      xs[k].name.size ≤ 9223372036854775807 ∧ -9223372036854775808 ≤ xs[k].parent ∧ xs[k].parent ≤ 9223372036854775807 := by
  obtain ⟨b, off, e, hb, hc⟩ := h.cells_ hk
  have h0 := hc 0 (by decide) _ rfl
  have h1 := hc 1 (by decide) _ rfl
  have hk' := h.ok xs[k] (List.getElem_mem hk)
  exact ⟨b, off, e, hb, by simpa [Enc.size] using h0, by simpa [Enc.size, Nat.add_assoc] using h1, hk'.1, hk'.2.1, hk'.2.2⟩

theorem str_eq {a b : ByteArray} (h : a = b) : (a.toList == b.toList) = true := by subst h; simp
theorem str_ne {a b : ByteArray} (h : a ≠ b) : (a.toList == b.toList) = false := by
  rw [beq_eq_false_iff_ne]
  intro e
  rw [ByteArray.toList_eq, ByteArray.toList_eq] at e
  apply h
  cases a; cases b; simp at e; rw [e]

/-- The worlds that are w and more, as a class that the walk sees through. -/
def Ext (w : World) : Type := { w' : World // Le w w' }
instance instNonemptyExt (w : World) : Nonempty (Ext w) := ⟨⟨w, Le.refl w⟩⟩
def _root_.Go.World.ext (w : World) (g : Ext w) : World := g.1
theorem Le.ext (w : World) (g : Ext w) : Le w (w.ext g) := g.2
theorem Sl.ext {α : Type} [Enc α] {w : World} {A : Option Addr} {n cap : Nat} {xs : List α} (h : Sl w A n cap xs) (g : Ext w) : Sl (w.ext g) A n cap xs := h.le (Le.ext w g)
theorem cell_ext {w : World} {b o : Nat} {v : Value} (hb : b < w.heap.size) (h : w.cell? ⟨b, o, none⟩ = some v) : ∀ g : Ext w, (w.ext g).cell? ⟨b, o, none⟩ = some v := fun g => ((Le.ext w g).cell hb).trans h
theorem wp_region_ext {P : Program} {id : Nat} {Q : Exit → Act → World → Prop} {a : Act} {w : World} {l : List Oper} (hm : P.follows .mixedOrders = true) (hB : Region.lexB .any l.toArray = true)
    (h : wpQuiet P l.toArray (fun w' => ∃ g : Ext w, w' = w.ext g) (fun a' => ∀ w', (∃ g : Ext w, w' = w.ext g) → Q .normal a' w') l a) : (Code.region id l.toArray true).wp P Q a w :=
  wp_region_quiet (C := fun w' => ∃ g : Ext w, w' = w.ext g) hm hB ⟨⟨w.drew, (Le.refl w).drew⟩, rfl⟩ (by simpa using h)
theorem Calls.val {P : Program} {f : FuncId} {args : Array Value} {w : World} {v v' : Value} {R : World → Prop} (h : Calls P f args w fun e w' => e = .returned v ∧ R w') (hv : v = v') : Calls P f args w fun e w' => e = .returned v' ∧ R w' :=
  h.mono fun _ _ ⟨he, hr⟩ => ⟨by rw [he, hv], hr⟩
theorem vb {a b : Bool} (h : a = b) : Value.bool a = Value.bool b := by rw [h]
theorem vi {a b : Int} (h : a = b) : Value.int .i64 a = Value.int .i64 b := by rw [h]
theorem Calls.ext_of {P : Program} {f : FuncId} {args : Array Value} {w : World} {g : Ext w} {v : Value}
    (h : Calls P f args (w.ext g) fun e w' => e = .returned v ∧ Le (w.ext g) w') : Calls P f args (w.ext g) fun e w'' => e = .returned v ∧ ∃ g' : Ext w, w'' = w.ext g' :=
  h.mono fun _ w' ⟨he, hm⟩ => ⟨he, ⟨w', (Le.ext w g).trans hm⟩, rfl⟩
theorem Calls.ext_same {P : Program} {f : FuncId} {args : Array Value} {w : World} {g : Ext w} {v : Value}
    (h : Calls P f args (w.ext g) fun e w' => e = .returned v ∧ w.ext g = w') : Calls P f args (w.ext g) fun e w'' => e = .returned v ∧ ∃ g' : Ext w, w'' = w.ext g' :=
  h.mono fun _ _ ⟨he, hm⟩ => ⟨he, g, hm.symm⟩

theorem own_le {w w' : World} {base : Nat} {e : TypeId} {size : Nat} {v : Value} {n : Nat} {xs : List Value} (h : w.ownsRow base e size v n xs) (hb : Le w w') : w'.ownsRow base e size v n xs := by
  refine ⟨h.1, ?_⟩
  rcases h.2 with h' | ⟨g, cap, cur, hv, hg0, hg, hnc, hcm, hcs, ht⟩
  · exact .inl h'
  · have hlt : g < w.heap.size := by
      rcases Nat.lt_or_ge g w.heap.size with hlt | hge
      · exact hlt
      · rw [Array.getElem?_eq_none hge] at hg; cases hg
    exact .inr ⟨g, cap, cur, hv, hg0, (Below.block hb g hlt).trans hg, hnc, hcm, hcs, ht⟩
theorem own_lt {w : World} {base : Nat} {e : TypeId} {size : Nat} {g cap n : Nat} {xs : List Value} (h : w.ownsRow base e size (.slice (some ⟨g, 0, none⟩) n cap) n xs) : g < w.heap.size := (h.lt g rfl).2
/-- what the call owns reads as a list -/
theorem Sl.of_own {α : Type} [Enc α] {w : World} {base : Nat} {e : TypeId} {size : Nat} {A : Option Addr} {n cap : Nat} {xs : List α} (h : w.ownsRow base e size (.slice A n cap) n (xs.flatMap Enc.cells)) (hs : size = Enc.size α) (hp : 0 < size) (hok : ∀ x ∈ xs, Enc.ok x) : Sl w A n cap xs := by
  have hl : xs.length = n := by
    have := h.1
    rw [flat_len, hs] at this
    exact Nat.eq_of_mul_eq_mul_right (by omega) this
  rcases h.2 with ⟨h', hn⟩ | ⟨g, cap', cur, hv, hg0, hg, hnc, hcm, hcs, ht⟩
  · simp only [Value.slice.injEq] at h'
    obtain ⟨rfl, rfl, rfl⟩ := h'
    exact ⟨hl, by omega, by omega, hok, fun h => absurd h (by omega)⟩
  · simp only [Value.slice.injEq, true_and] at hv
    obtain ⟨rfl, rfl⟩ := hv
    refine ⟨hl, hnc, by simpa [maxLen] using hcm, hok, fun _ => ⟨g, 0, rfl, own_lt h, fun j u hu => ?_⟩⟩
    have hj : j < n * size := by
      have := (List.getElem?_eq_some_iff.1 hu).1
      rw [h.1] at this; exact this
    rw [Nat.zero_add]
    exact (h.cellAt j hj).trans hu
end

section
theorem grown_set (w : World) (b o : Nat) (u : Value) : w.grownBy (w.setCell ⟨b, o, none⟩ u) (some b) :=
  ⟨rfl, rfl, rfl, by simp [World.setCell], fun k _ hk => heap_setCell_other w ⟨b, o, none⟩ k u (fun e => hk (by simp [e]))⟩
theorem own_set {w : World} {base : Nat} {e : TypeId} {size n cap g b o : Nat} {xs : List Value} (h : w.ownsRow base e size (.slice (some ⟨g, 0, none⟩) n cap) n xs) (hb : g ≠ b) (u : Value) :
    (w.setCell ⟨b, o, none⟩ u).ownsRow base e size (.slice (some ⟨g, 0, none⟩) n cap) n xs := h.kept (grown_set w b o u) (.inr (by simp [Value.ownBlock]; exact hb))
theorem cell_set_same {w : World} {b o : Nat} {u v : Value} (h : w.cell? ⟨b, o, none⟩ = some u) : (w.setCell ⟨b, o, none⟩ v).cell? ⟨b, o, none⟩ = some v := World.cell?_setCell_same _ _ _ h
theorem cell_set_other {w : World} {b o b' o' : Nat} {v : Value} (h : b ≠ b' ∨ o ≠ o') : (w.setCell ⟨b, o, none⟩ v).cell? ⟨b', o', none⟩ = w.cell? ⟨b', o', none⟩ :=
  World.cell?_setCell_other _ _ _ _ (by intro e; injection e with e1 e2; rcases h with h | h <;> contradiction)
theorem own_mono {w : World} {base base' : Nat} {e : TypeId} {size n : Nat} {v : Value} {xs : List Value} (h : w.ownsRow base e size v n xs) (hb : base' ≤ base) : w.ownsRow base' e size v n xs := ⟨h.1, h.2.imp id (fun ⟨g, cap, cur, hv, hg0, rest⟩ => ⟨g, cap, cur, hv, Nat.le_trans hb hg0, rest⟩)⟩
theorem own_empty {w : World} {base g size : Nat} {e : TypeId} (hb : base ≤ w.heap.size) (hg : g = w.heap.size) : (w.alloc (.cells #[] e)).ownsRow base e size (.slice (some ⟨g, 0, none⟩) 0 0) 0 [] := by
  subst hg
  have h := World.ownsRow_lit (base := base) (e := e) (size := size) w #[] 0 hb (Nat.zero_le _) (by simp)
  simpa using h
theorem hp_new (w : World) (o : Obj) {k : Nat} (hk : k = w.heap.size) : (w.alloc o).heap[k]? = some o := by subst hk; exact heap_alloc_new w o
theorem hp_old (w : World) (o : Obj) {k : Nat} (hk : k < w.heap.size) : (w.alloc o).heap[k]? = w.heap[k]? := Below.heap_alloc w o k hk
end

section
/-- all but block g is as it was; there may be more -/
def Gx (g : Nat) (w w' : World) : Prop := w.grownBy w' (some g)
theorem Gx.refl (g : Nat) (w : World) : Gx g w w := ⟨rfl, rfl, rfl, Nat.le_refl _, fun _ _ _ => rfl⟩
theorem Gx.trans {g : Nat} {a b c : World} (h : Gx g a b) (k : Gx g b c) : Gx g a c :=
  ⟨k.os.trans h.os, k.tape.trans h.tape, k.output.trans h.output, Nat.le_trans h.size k.size, fun i hi hne => (k.block i (Nat.lt_of_lt_of_le hi h.size) hne).trans (h.block i hi hne)⟩
theorem Gx.of_le {g : Nat} {a b : World} (h : Le a b) : Gx g a b := ⟨h.os, h.tape, h.output, h.size, fun i hi _ => Below.block h i hi⟩
theorem Gx.cell {g : Nat} {a b : World} (h : Gx g a b) {k o : Nat} (hk : k < a.heap.size) (hne : k ≠ g) : b.cell? ⟨k, o, none⟩ = a.cell? ⟨k, o, none⟩ :=
  World.cell?_of_block (h.block k hk (fun e => hne (by injection e)))
theorem Gx.frozen {g : Nat} {a b : World} (h : Gx g a b) {k o : Nat} (hk : k < a.heap.size) (hne : k ≠ g) : b.frozen? ⟨k, o, none⟩ = a.frozen? ⟨k, o, none⟩ :=
  World.frozen?_of_block (h.block k hk (fun e => hne (by injection e)))
theorem Gx.set (g o : Nat) (w : World) (u : Value) : Gx g w (w.setCell ⟨g, o, none⟩ u) := grown_set w g o u
/-- a new block's world is above what was before the block came -/
theorem Gx.le {g : Nat} {a b c : World} (h : Le a b) (k : Gx g b c) (hg : a.heap.size ≤ g) : Le a c :=
  ⟨k.os.trans h.os, k.tape.trans h.tape, k.output.trans h.output, Nat.le_trans h.size k.size, fun i hi => (k.block i (Nat.lt_of_lt_of_le hi h.size) (fun e => by injection e with e; omega)).trans (Below.block h i hi)⟩

/-- a byte -/
structure By where
  b : UInt8
instance instEncBy : Enc By := ⟨1, fun x => [.int .u8 x.b.toNat], fun _ => True, fun _ => rfl⟩
theorem Sl.by_at {w : World} {A : Option Addr} {n cap : Nat} {xs : List By} (h : Sl w A n cap xs) {k : Nat} (hk : k < xs.length) :
    ∃ b off, A = some ⟨b, off, none⟩ ∧ b < w.heap.size ∧ w.cell? ⟨b, off + k, none⟩ = some (.int .u8 xs[k].b.toNat) ∧ (0 : Int) ≤ xs[k].b.toNat ∧ (xs[k].b.toNat : Int) ≤ 255 := by
  obtain ⟨b, off, e, hb, hc⟩ := h.cells_ hk
  have := hc 0 (by decide) _ rfl
  have h2 := UInt8.toNat_lt xs[k].b
  exact ⟨b, off, e, hb, by simpa [Enc.size] using this, by omega, by omega⟩

theorem Sl.by_v {w : World} {A : Option Addr} {n cap : Nat} {xs : List By} (h : Sl w A n cap xs) {k : Nat} (hk : k < n) :
    ∃ b off, ∃ v : Int, A = some ⟨b, off, none⟩ ∧ b < w.heap.size ∧ w.cell? ⟨b, off + k, none⟩ = some (.int .u8 v) ∧ 0 ≤ v ∧ v ≤ 255 := by
  obtain ⟨b, off, e, hb, hc, h1, h2⟩ := h.by_at (k := k) (by rw [h.len]; exact hk)
  exact ⟨b, off, _, e, hb, hc, h1, h2⟩
/-- the slice's memory is not block g -/
def Off (g : Nat) (A : Option Addr) : Prop := ∀ a, A = some a → a.block ≠ g
theorem Sl.gx {α : Type} [Enc α] {g : Nat} {w w' : World} {A : Option Addr} {n cap : Nat} {xs : List α} (h : Sl w A n cap xs) (ho : 0 < n → Off g A) (hg : Gx g w w') : Sl w' A n cap xs :=
  ⟨h.len, h.cap_, h.max, h.ok, fun hn => by
    obtain ⟨b, off, e, hlt, hc⟩ := h.at_ hn
    exact ⟨b, off, e, Nat.lt_of_lt_of_le hlt hg.size, fun j u hu => (hg.cell hlt (ho hn _ e)).trans (hc j u hu)⟩⟩

/-- the reader r lies in block g and has given p numbers -/
structure Rd (w : World) (g p : Nat) (A : Option Addr) (n cap : Nat) (bs : List By) : Prop where
  row : w.heap[g]? = some (.cells #[.slice A n cap, .int .i64 p] 82 (0, 0))
  sl : Sl w A n cap bs
  off : 0 < n → Off g A
  few : n ≤ 2000
theorem Rd.lt {w : World} {g p : Nat} {A : Option Addr} {n cap : Nat} {bs : List By} (h : Rd w g p A n cap bs) : g < w.heap.size := by
  rcases Nat.lt_or_ge g w.heap.size with hlt | hge
  · exact hlt
  · have := h.row; rw [Array.getElem?_eq_none hge] at this; cases this
theorem Rd.c0 {w : World} {g p : Nat} {A : Option Addr} {n cap : Nat} {bs : List By} (h : Rd w g p A n cap bs) : w.cell? ⟨g, 0, none⟩ = some (.slice A n cap) := (cell_of_row w _ 0 _ _ _ h.row).trans rfl
theorem Rd.c1 {w : World} {g p : Nat} {A : Option Addr} {n cap : Nat} {bs : List By} (h : Rd w g p A n cap bs) : w.cell? ⟨g, 1, none⟩ = some (.int .i64 p) := (cell_of_row w _ 1 _ _ _ h.row).trans rfl
theorem Rd.fz {w : World} {g p : Nat} {A : Option Addr} {n cap : Nat} {bs : List By} (h : Rd w g p A n cap bs) (o : Nat) : w.frozen? ⟨g, o, none⟩ = false := frozen_of_row w g o _ _ h.row
theorem Rd.le {w w' : World} {g p : Nat} {A : Option Addr} {n cap : Nat} {bs : List By} (h : Rd w g p A n cap bs) (hl : Le w w') : Rd w' g p A n cap bs :=
  ⟨(Below.block hl g h.lt).trans h.row, h.sl.le hl, h.off, h.few⟩
theorem Rd.step {w : World} {g p : Nat} {A : Option Addr} {n cap : Nat} {bs : List By} (h : Rd w g p A n cap bs) (q : Nat) : Rd (w.setCell ⟨g, 1, none⟩ (.int .i64 q)) g q A n cap bs :=
  ⟨heap_setCell_same w g 1 _ _ _ h.row, h.sl.gx h.off (Gx.set g 1 w _), h.off, h.few⟩

theorem w64 {x : Int} (h0 : -9223372036854775808 ≤ x) (h1 : x ≤ 9223372036854775807) : wrap64 x = x := by
  rw [← IntWalk.i64_left]; exact IntWalk.i64_in _ ⟨h0, h1⟩
theorem xor_i64 (a b : Nat) (ha : a < 4611686018427387904) (hb : b < 4611686018427387904) : bits BinOp.xor IntKind.i64 (a : Int) (b : Int) = ((a ^^^ b : Nat) : Int) := by
  have hx : a ^^^ b < 2 ^ 62 := Nat.xor_lt_two_pow (by omega) (by omega)
  have h1 : (BitVec.ofInt 64 (a : Int)).toNat = a := by
    rw [BitVec.ofInt_natCast, BitVec.toNat_ofNat]; exact Nat.mod_eq_of_lt (by omega)
  have h2 : (BitVec.ofInt 64 (b : Int)).toNat = b := by
    rw [BitVec.ofInt_natCast, BitVec.toNat_ofNat]; exact Nat.mod_eq_of_lt (by omega)
  show IntKind.i64.wrap ((BitVec.ofInt 64 (a : Int) ^^^ BitVec.ofInt 64 (b : Int)).toNat : Int) = _
  rw [BitVec.toNat_xor, h1, h2]
  exact IntWalk.i64_in _ ⟨by omega, by omega⟩
theorem xor_mod (X m : Int) (h0 : 0 ≤ X) (h1 : X ≤ 1000000000000) (hm : 1 ≤ m) : 0 ≤ (bits BinOp.xor IntKind.i64 X (wrap64 (X.tdiv 64))).tmod m ∧ (bits BinOp.xor IntKind.i64 X (wrap64 (X.tdiv 64))).tmod m < m := by
  have hd : X.tdiv 64 = X / 64 := Int.tdiv_eq_ediv_of_nonneg h0
  rw [hd, w64 (by omega) (by omega)]
  obtain ⟨a, rfl⟩ := Int.eq_ofNat_of_zero_le h0
  have e : ((a : Int) / 64) = ((a / 64 : Nat) : Int) := by omega
  rw [e, xor_i64 _ _ (by omega) (by omega), Int.tmod_eq_emod_of_nonneg (by omega)]
  exact ⟨Int.emod_nonneg _ (by omega), Int.emod_lt_of_pos _ (by omega)⟩
theorem pick_num (v1 v2 : Int) (p n : Nat) (a1 : 0 ≤ v1) (a2 : v1 ≤ 255) (b1 : 0 ≤ v2) (b2 : v2 ≤ 255) (hp : p ≤ 1000000) (hn : 0 < n) :
    0 ≤ wrap64 (v1 * 131 + v2 * 1117 + (p : Int) * 29 + wrap64 (wrap64 ((p : Int) / (n : Int)) * 53)) ∧ wrap64 (v1 * 131 + v2 * 1117 + (p : Int) * 29 + wrap64 (wrap64 ((p : Int) / (n : Int)) * 53)) ≤ 1000000000000 := by
  have hq0 : 0 ≤ (p : Int) / (n : Int) := Int.ediv_nonneg (by omega) (by omega)
  have hq1 : (p : Int) / (n : Int) ≤ p := Int.ediv_le_self _ (by omega)
  generalize (p : Int) / (n : Int) = q at *
  rw [w64 (x := q) (by omega) (by omega), w64 (x := q * 53) (by omega) (by omega), w64 (by omega) (by omega)]
  omega

def PickOut (m : Int) (g p : Nat) (A : Option Addr) (n cap : Nat) (bs : List By) (w : World) (e : Ending) (w' : World) : Prop :=
  ∃ v : Int, e = .returned (.int .i64 v) ∧ 0 ≤ v ∧ (v < m ∨ v = 0) ∧ Rd w' g (p + 1) A n cap bs ∧ Gx g w w'

theorem pick_any (m : Int) (g p : Nat) (A : Option Addr) (n cap : Nat) (bs : List By) (w : World) (hm : m ≤ 1000000) (hm0 : -1000000 ≤ m) (hp : p ≤ 1000000) (hR : Rd w g p A n cap bs) :
    Calls Tryz.prog 38 #[.pointer (some ⟨g, 0, none⟩), .int .i64 m] w (PickOut m g p A n cap bs w) := by
  have c0 := hR.c0
  have c1 := hR.c1
  have f1 := hR.fz 1
  have hst := hR.step (p + 1)
  have hgx := Gx.set g 1 w (.int .i64 ((p + 1 : Nat) : Int))
  have hfew := hR.few
  have hca : (((p + 1 : Nat) : Int)) = (p : Int) + 1 := by omega
  rw [hca] at hst hgx
  have HST := Lib.hid hst; clear hst
  clear hca
  by_cases h1 : m < 1
  · go_enter Tryz.func38, Tryz.ntmps38
    go_wp2
    go_ret
    exact ⟨0, rfl, by omega, .inr rfl, HST.out, hgx⟩
  · by_cases h2 : n = 0
    · subst h2
      go_enter Tryz.func38, Tryz.ntmps38
      go_wp2
      go_ret
      exact ⟨0, rfl, by omega, .inr rfl, HST.out, hgx⟩
    · have hn0 : ((n : Int) == 0) = false := by simp; omega
      by_cases h3 : p < n
      · obtain ⟨b, off, v, rfl, hb, hcell, hv1, hv2⟩ := hR.sl.by_v h3
        have hbg : b ≠ g := hR.off (by omega) _ rfl
        have hcell' : (w.setCell ⟨g, 1, none⟩ (.int .i64 ((p : Int) + 1))).cell? ⟨b, off + p, none⟩ = some (.int .u8 v) := (cell_set_other (.inl (Ne.symm hbg))).trans hcell
        have hmod := Int.emod_nonneg v (b := m) (by omega)
        have hmod2 := Int.emod_lt_of_pos v (b := m) (by omega)
        have HM := Lib.hid hmod; have HM2 := Lib.hid hmod2; clear hmod hmod2
        clear hcell
        go_enter Tryz.func38, Tryz.ntmps38
        go_wp2
        go_ret
        exact ⟨_, rfl, HM.out, .inl HM2.out, HST.out, hgx⟩
      · have hq0 := Nat.mod_lt p (y := n) (by omega)
        have hq1 := Nat.mod_lt (p * 7 + 3) (y := n) (by omega)
        obtain ⟨b, off, v1, rfl, hb, hcell, hv1, hv2⟩ := hR.sl.by_v hq0
        obtain ⟨b', off', v2, e, _, hcell2, hw1, hw2⟩ := hR.sl.by_v hq1
        injection e with e
        injection e with e1 e2
        subst e1; subst e2
        have hbg : b ≠ g := hR.off (by omega) _ rfl
        have hcell' : (w.setCell ⟨g, 1, none⟩ (.int .i64 ((p : Int) + 1))).cell? ⟨b, off + p % n, none⟩ = some (.int .u8 v1) := (cell_set_other (.inl (Ne.symm hbg))).trans hcell
        have hcell2' : (w.setCell ⟨g, 1, none⟩ (.int .i64 ((p : Int) + 1))).cell? ⟨b, off + (p * 7 + 3) % n, none⟩ = some (.int .u8 v2) := (cell_set_other (.inl (Ne.symm hbg))).trans hcell2
        clear hcell hcell2
        go_enter Tryz.func38, Tryz.ntmps38
        go_wp2
        have d0 : (w.setCell ⟨g, 1, none⟩ (.int .i64 ((p : Int) + 1))).cell? ⟨g, 0, none⟩ = some (.slice (some ⟨b, off, none⟩) n cap) := (cell_set_other (.inr (by decide))).trans c0
        generalize w.setCell ⟨g, 1, none⟩ (.int .i64 ((p : Int) + 1)) = W at *
        clear c0 c1 f1
        have hnn : (0 : Int) < n := by omega
        have hbd1 := Int.emod_nonneg ((p : Int) * 7 + 3) (b := (n : Int)) (by omega)
        have hbd2 := Int.emod_lt_of_pos ((p : Int) * 7 + 3) (b := (n : Int)) hnn
        go_quiet (fail)
        have hst2 := HST.out.le ((Le.refl W).drewN nq)
        have hgx2 := hgx.trans (Gx.of_le (g := g) ((Le.refl W).drewN nq))
        have HST2 := Lib.hid hst2; clear hst2
        have hX := pick_num v1 v2 p n hv1 hv2 hw1 hw2 hp (by omega)
        have hY := xor_mod _ m hX.1 hX.2 (by omega)
        have HY := Lib.hid hY; clear hX hY
        go_wp2
        go_ret
        exact ⟨_, rfl, HY.out.1, .inl HY.out.2, HST2.out, hgx2⟩
end

section
def hasI : List Int → Int → Bool
  | [], _ => false
  | z :: r, x => z == x || hasI r x
def lowers : List UInt8 → Bool
  | [] => true
  | c :: r => decide (97 ≤ c.toNat) && decide (c.toNat ≤ 122) && lowers r
def okName (s : ByteArray) : Bool := lowers s.data.toList && decide (1 ≤ s.size) && decide (s.size ≤ 6)
def findN : List Cls → ByteArray → Int → Int
  | [], _, _ => -1
  | c :: r, s, k => if c.name = s then k else findN r s (k + 1)

theorem findN_cons (c : Cls) (r : List Cls) (s : ByteArray) (k : Int) : findN (c :: r) s k = if c.name = s then k else findN r s (k + 1) := rfl
theorem hasI_at {zs : List Int} {k : Nat} (h : k < zs.length) (x : Int) : hasI (zs.drop k) x = (zs[k] == x || hasI (zs.drop (k + 1)) x) := by
  rw [List.drop_eq_getElem_cons h]; rfl
theorem hasI_end {zs : List Int} {k : Nat} (h : ¬ k < zs.length) (x : Int) : hasI (zs.drop k) x = false := by
  rw [List.drop_eq_nil_of_le (by omega)]; rfl
theorem findN_at {zs : List Cls} {k : Nat} (h : k < zs.length) (s : ByteArray) (j : Int) : findN (zs.drop k) s j = if zs[k].name = s then j else findN (zs.drop (k + 1)) s (j + 1) := by
  rw [List.drop_eq_getElem_cons h]; rfl
theorem findN_end {zs : List Cls} {k : Nat} (h : ¬ k < zs.length) (s : ByteArray) (j : Int) : findN (zs.drop k) s j = -1 := by
  rw [List.drop_eq_nil_of_le (by omega)]; rfl
theorem lowers_at {s : ByteArray} {k : Nat} (h : k < s.size) : lowers (s.data.toList.drop k) = (decide (97 ≤ s[k].toNat) && decide (s[k].toNat ≤ 122) && lowers (s.data.toList.drop (k + 1))) := by
  rw [List.drop_eq_getElem_cons (by simpa using h)]; rfl
theorem lowers_end {s : ByteArray} {k : Nat} (h : ¬ k < s.size) : lowers (s.data.toList.drop k) = true := by
  rw [List.drop_eq_nil_of_le (by simpa using h)]; rfl
end

section
theorem inRange_any (a b c : Int) (w : World) : Calls Tryz.prog 78 #[.int .i64 a, .int .i64 b, .int .i64 c] w fun e w' => e = .returned (.bool (decide (b ≤ a) && decide (a ≤ c))) ∧ w = w' := by
  go_enter Tryz.func78, Tryz.ntmps78
  go_wp2
  all_goals (go_ret; simp_all)
  all_goals omega

theorem validName_any (s : ByteArray) (w : World) (hs : s.size ≤ 9223372036854775807) : Calls Tryz.prog 76 #[.string s] w fun e w' => e = .returned (.bool (okName s)) ∧ w = w' := by
  go_enter Tryz.func76, Tryz.ntmps76
  go_wp2
  go_loop [3] (fun i => ∃ k : Nat, k ≤ s.size ∧ i = .int .i64 k ∧ lowers s.data.toList = lowers (s.data.toList.drop k)) (fun i => s.size - (intOf i).toNat)
  case atStart => exact ⟨0, Nat.zero_le _, rfl, rfl⟩
  case round =>
    obtain ⟨k, hk, rfl, hr⟩ := hrel
    have HR := Lib.hid hr; clear hr
    by_cases hlt : k < s.size
    · have hc : 0 ≤ (s[k].toNat : Int) ∧ (s[k].toNat : Int) ≤ 255 := by have := UInt8.toNat_lt s[k]; omega
      by_cases h1 : s[k].toNat < 97
      · have HF : Hid (okName s = false) := by show _ = _; unfold okName; rw [HR.out, lowers_at hlt, decide_eq_false (p := 97 ≤ s[k].toNat) (by omega)]; rfl
        go_wp2
        go_ret
        exact ⟨ret_bool HF.out.symm, rfl⟩
      · by_cases h2 : 122 < s[k].toNat
        · have HF : Hid (okName s = false) := by show _ = _; unfold okName; rw [HR.out, lowers_at hlt, decide_eq_false (p := s[k].toNat ≤ 122) (by omega)]; simp
          go_wp2
          go_ret
          exact ⟨ret_bool HF.out.symm, rfl⟩
        · have HF : Hid (lowers s.data.toList = lowers (s.data.toList.drop (k + 1))) := by show _ = _; rw [HR.out, lowers_at hlt, decide_eq_true (p := 97 ≤ s[k].toNat) (by omega), decide_eq_true (p := s[k].toNat ≤ 122) (by omega)]; rfl
          go_wp2
          go_round
          case rel => exact ⟨k + 1, by omega, by go_num, HF.out⟩
          case measure => simp [intOf]; omega
    · have HF : Hid (okName s = (decide ((1 : Int) ≤ s.size) && decide ((s.size : Int) ≤ 6))) := by
        show _ = _; unfold okName; rw [HR.out, lowers_end hlt, Bool.true_and]; congr 1 <;> exact decide_eq_decide.2 (by omega)
      go_wp2_with (go_at_call 78; refine (inRange_any _ _ _ _).mono ?_; rintro e w' ⟨rfl, rfl⟩)
      go_ret
      exact ⟨ret_bool HF.out.symm, rfl⟩

theorem classNamed_any (A : Option Addr) (n cap : Nat) (xs : List Cls) (s : ByteArray) (w : World) (hR : Sl w A n cap xs) :
    Calls Tryz.prog 77 #[.slice A n cap, .string s] w fun e w' => e = .returned (.int .i64 (findN xs s 0)) ∧ w = w' := by
  obtain rfl := hR.len
  have hm := hR.n_le
  go_enter Tryz.func77, Tryz.ntmps77
  go_wp2
  go_loop [5] (fun i => ∃ k : Nat, k ≤ xs.length ∧ i = .int .i64 k ∧ findN xs s 0 = findN (xs.drop k) s k) (fun i => xs.length - (intOf i).toNat)
  case atStart => exact ⟨0, Nat.zero_le _, rfl, rfl⟩
  case round =>
    obtain ⟨k, hk, rfl, hr⟩ := hrel
    have HR := Lib.hid hr; clear hr
    by_cases hlt : k < xs.length
    · obtain ⟨b, off, rfl, _, hcell, hcell2, _, _, _⟩ := hR.cls_at hlt
      by_cases he : xs[k].name = s
      · have he' := str_eq he
        have HF : Hid (findN xs s 0 = k) := by show _ = _; rw [HR.out, findN_at hlt, if_pos he]
        go_wp2
        go_ret
        exact ⟨ret_int HF.out.symm, rfl⟩
      · have he' := str_ne he
        have HF : Hid (findN xs s 0 = findN (xs.drop (k + 1)) s ((k + 1 : Nat) : Int)) := by show _ = _; rw [HR.out, findN_at hlt, if_neg he]; rfl
        go_wp2
        go_round
        case rel => exact ⟨k + 1, by omega, by go_num, HF.out⟩
        case measure => simp [intOf]; omega
    · have HF : Hid (findN xs s 0 = -1) := by show _ = _; rw [HR.out, findN_end hlt]
      go_wp2
      go_ret
      exact ⟨ret_int HF.out.symm, rfl⟩
end

section
def badCls (all : List Cls) (i : Nat) (c : Cls) : Bool := !okName c.name || decide (0 ≤ findN (all.take i) c.name 0) || ((i : Int) == 0 && c.parent != -1) || (decide (0 < (i : Int)) && !(decide (0 ≤ c.parent) && decide (c.parent ≤ (i : Int) - 1)))
def okFrom (all : List Cls) : Nat → List Cls → Bool
  | _, [] => decide (1 ≤ all.length) && decide (all.length ≤ 8)
  | i, c :: r => !badCls all i c && okFrom all (i + 1) r
def okTree (all : List Cls) : Bool := okFrom all 0 all
theorem okFrom_at {all : List Cls} {k : Nat} (h : k < all.length) : okFrom all k (all.drop k) = (!badCls all k all[k] && okFrom all (k + 1) (all.drop (k + 1))) := by
  rw [List.drop_eq_getElem_cons h]; rfl
theorem okFrom_end {all : List Cls} {k : Nat} (h : ¬ k < all.length) : okFrom all k (all.drop k) = (decide ((1 : Int) ≤ all.length) && decide ((all.length : Int) ≤ 8)) := by
  rw [List.drop_eq_nil_of_le (by omega)]
  show (decide (1 ≤ all.length) && decide (all.length ≤ 8)) = _
  congr 1 <;> simp <;> omega

set_option maxHeartbeats 8000000 in
theorem validTree_any (A : Option Addr) (n cap : Nat) (xs : List Cls) (w : World) (hR : Sl w A n cap xs) :
    Calls Tryz.prog 40 #[.agg #[.slice A n cap]] w fun e w' => e = .returned (.bool (okTree xs)) ∧ Le w w' := by
  obtain rfl := hR.len
  have hm := hR.n_le
  have hcp := hR.cap_
  go_enter Tryz.func40, Tryz.ntmps40
  go_wp2
  go_loopw [3] (fun i wr => ∃ k : Nat, k ≤ xs.length ∧ i = .int .i64 k ∧ okTree xs = okFrom xs k (xs.drop k) ∧ Le (w.alloc (.cells #[.slice A xs.length cap] 25)) wr) (fun i _ => xs.length - (intOf i).toNat)
  case atStart => exact ⟨0, Nat.zero_le _, rfl, rfl, Le.refl _⟩
  case round =>
    obtain ⟨k, hk, rfl, hr, hle⟩ := hrel
    have HR := Lib.hid hr; clear hr
    have hz : w.heap.size < wr.heap.size := by have := hle.size; simp at this; omega
    have hT : wr.cell? ⟨w.heap.size, 0, none⟩ = some (.slice A xs.length cap) := by
      rw [hle.cell (by simp)]; simp
    have hwr : Le w wr := (Le.new w _).trans hle
    have hRr := hR.le hwr
    clear hR
    by_cases hlt : k < xs.length
    · obtain ⟨b, off, rfl, hb, hcell, hcell2, hns, hp1, hp2⟩ := hRr.cls_at hlt
      go_wp2
      generalize hWd : wr.alloc _ = W
      have hWle : Le wr W := by rw [← hWd]; exact Le.new wr _
      have e1 : W.cell? ⟨wr.heap.size, 0, none⟩ = some (.string xs[k].name) := by rw [← hWd]; simp
      have e2 : W.cell? ⟨wr.heap.size, 1, none⟩ = some (.int .i64 xs[k].parent) := by rw [← hWd]; simp
      have hzW : wr.heap.size < W.heap.size := by rw [← hWd]; simp
      have e3 : W.cell? ⟨w.heap.size, 0, none⟩ = some (.slice (some ⟨b, off, none⟩) xs.length cap) := (hWle.cell hz).trans hT
      have hRW := hRr.le hWle
      clear hWd hcell hcell2 hT
      have E1 := cell_ext hzW e1
      have E2 := cell_ext hzW e2
      have E3 := cell_ext (by omega) e3
      have HB : Hid (okTree xs = (!badCls xs k xs[k] && okFrom xs (k + 1) (xs.drop (k + 1)))) := by show _ = _; rw [HR.out, okFrom_at hlt]
      unfold badCls at HB
      by_cases hk0 : k = 0
      all_goals cases h1 : okName xs[k].name
      all_goals cases h2 : decide (0 ≤ findN (xs.take k) xs[k].name 0)
      all_goals cases h4 : xs[k].parent != -1
      all_goals cases h6 : (decide (0 ≤ xs[k].parent) && decide (xs[k].parent ≤ (k : Int) - 1))
      all_goals
        have h3 : ((k : Int) == 0) = decide (k = 0) := by
          by_cases e : k = 0 <;> simp [e]
        have h5 : decide (0 < (k : Int)) = !decide (k = 0) := by
          by_cases e : k = 0 <;> simp [e]
          omega
        have h5n : decide (0 < k) = !decide (k = 0) := by
          by_cases e : k = 0 <;> simp [e]
          omega
      all_goals first | rw [decide_eq_true hk0] at h3 h5 h5n | rw [decide_eq_false hk0] at h3 h5 h5n
      all_goals simp only [Bool.not_true, Bool.not_false] at h5 h5n
      all_goals
        have hout := HB.out
        simp only [h1, h2, h3, h4, h5, h6] at hout
        have HO := Lib.hid hout
        clear hout HB
        clear hk0
      all_goals
        refine wp_region_ext (by kernel_rfl) (by kernel_rfl) ?_
        repeat (go_big_quiet_step (first | (go_at_call 76; exact Calls.ext_same (Calls.val (validName_any _ _ hns) (vb h1))) | (go_at_call 77; exact Calls.ext_same (classNamed_any _ _ _ _ _ _ ((hRW.ext _).take_ _ (by omega)))) | (go_at_call 78; exact Calls.ext_same (Calls.val (inRange_any _ _ _ _) (vb h6)))))
        refine wpQuiet_nil ?_
        intro _ hw'
        obtain ⟨g, rfl⟩ := hw'
        have hg := hWle.trans (Le.ext W g)
        generalize W.ext g = W2 at *
        go_wp2
        first
          | (go_ret; exact ⟨ret_bool (by rw [HO.out]; rfl), hwr.trans hg⟩)
          | (go_roundw
             case rel => exact ⟨k + 1, by omega, by go_num, by rw [HO.out]; rfl, hle.trans hg⟩
             case measure => simp [intOf]; omega)
    · have HF : Hid (okTree xs = (decide ((1 : Int) ≤ xs.length) && decide ((xs.length : Int) ≤ 8))) := by show _ = _; rw [HR.out, okFrom_end hlt]
      go_wp2_with (go_at_call 78; refine (inRange_any _ _ _ _).mono ?_; rintro e w' ⟨rfl, rfl⟩)
      go_ret
      exact ⟨ret_bool HF.out.symm, hwr⟩
end

section
theorem okFrom_mem {all : List Cls} : ∀ (m k : Nat), k + m = all.length → okFrom all k (all.drop k) = true → (1 ≤ all.length ∧ all.length ≤ 8) ∧ ∀ i (h : i < all.length), k ≤ i → badCls all i all[i] = false := by
  intro m
  induction m with
  | zero =>
    intro k hk h
    rw [okFrom_end (by omega)] at h
    simp at h
    exact ⟨by omega, fun i hi hki => by omega⟩
  | succ m ih =>
    intro k hk h
    rw [okFrom_at (by omega), Bool.and_eq_true] at h
    obtain ⟨h1, h2⟩ := h
    obtain ⟨hl, hr⟩ := ih (k + 1) (by omega) h2
    refine ⟨hl, fun i hi hki => ?_⟩
    by_cases e : i = k
    · subst e; simpa using h1
    · exact hr i hi (by omega)
/-- what a valid tree keeps to -/
structure Good (xs : List Cls) : Prop where
  lo : 1 ≤ xs.length
  hi : xs.length ≤ 8
  root : ∀ h : 0 < xs.length, xs[0].parent = -1
  par : ∀ i (h : i < xs.length), 0 < i → 0 ≤ xs[i].parent ∧ xs[i].parent ≤ (i : Int) - 1
  name : ∀ i (h : i < xs.length), okName xs[i].name = true
  diff : ∀ i (h : i < xs.length), findN (xs.take i) xs[i].name 0 < 0
theorem good_of {xs : List Cls} (h : okTree xs = true) : Good xs := by
  obtain ⟨⟨h1, h2⟩, hb⟩ := okFrom_mem (all := xs) xs.length 0 (by omega) (by simpa [okTree] using h)
  have hx : ∀ i (h : i < xs.length), okName xs[i].name = true ∧ findN (xs.take i) xs[i].name 0 < 0 ∧ (i = 0 → xs[i].parent = -1) ∧ (0 < i → 0 ≤ xs[i].parent ∧ xs[i].parent ≤ (i : Int) - 1) := by
    intro i hi
    have := hb i hi (Nat.zero_le _)
    unfold badCls at this
    simp only [Bool.or_eq_false_iff, Bool.not_eq_false', Bool.and_eq_false_iff, decide_eq_false_iff_not] at this
    obtain ⟨⟨⟨a, b⟩, c⟩, d⟩ := this
    refine ⟨a, by omega, fun e => ?_, fun e => ?_⟩
    · subst e
      rcases c with c | c
      · simp at c
      · simpa [bne] using c
    · rcases d with d | d
      · omega
      · simpa using d
  exact ⟨h1, h2, fun h => (hx 0 h).2.2.1 rfl, fun i h => (hx i h).2.2.2, fun i h => (hx i h).1, fun i h => (hx i h).2.1⟩
theorem Good.par_le {xs : List Cls} (g : Good xs) {i : Nat} (h : i < xs.length) : -1 ≤ xs[i].parent ∧ xs[i].parent ≤ (i : Int) - 1 := by
  by_cases e : i = 0
  · subst e; have := g.root h; omega
  · have := g.par i h (by omega); omega

def parOf (xs : List Cls) (a : Int) : Int := match xs[a.toNat]? with | some c => c.parent | none => -1
def aboveL (xs : List Cls) (a : Int) : List Int := if 0 ≤ a then a :: (if parOf xs a < a then aboveL xs (parOf xs a) else []) else []
termination_by (a + 1).toNat
decreasing_by omega
def isAL (xs : List Cls) (a b : Int) : Bool := hasI (aboveL xs a) b
theorem parOf_at {xs : List Cls} {i : Nat} (h : i < xs.length) : parOf xs (i : Int) = xs[i].parent := by
  unfold parOf; rw [Int.toNat_natCast, List.getElem?_eq_getElem h]
theorem aboveL_neg {xs : List Cls} {a : Int} (h : a < 0) : aboveL xs a = [] := by rw [aboveL, if_neg (by omega)]
theorem aboveL_at {xs : List Cls} (g : Good xs) {i : Nat} (h : i < xs.length) : aboveL xs (i : Int) = (i : Int) :: aboveL xs xs[i].parent := by
  have hp := g.par_le h
  rw [aboveL, if_pos (by omega), parOf_at h, if_pos (by omega)]
theorem isAL_at {xs : List Cls} (g : Good xs) {i : Nat} (h : i < xs.length) (b : Int) : isAL xs (i : Int) b = ((i : Int) == b || isAL xs xs[i].parent b) := by
  unfold isAL; rw [aboveL_at g h]; rfl
theorem isAL_neg {xs : List Cls} {a : Int} (h : a < 0) (b : Int) : isAL xs a b = false := by unfold isAL; rw [aboveL_neg h]; rfl
/-- all that is above lies in the tree -/
theorem aboveL_mem {xs : List Cls} (g : Good xs) : ∀ (m : Nat) (a : Int), (a + 1).toNat = m → a < xs.length → ∀ x ∈ aboveL xs a, 0 ≤ x ∧ x ≤ a := by
  intro m
  induction m using Nat.strongRecOn with
  | _ m ih =>
    intro a hm ha x hx
    by_cases h : a < 0
    · rw [aboveL_neg h] at hx; cases hx
    · obtain ⟨i, rfl⟩ := Int.eq_ofNat_of_zero_le (by omega : 0 ≤ a)
      have hi : i < xs.length := by omega
      rw [aboveL_at g hi] at hx
      have hp := g.par_le hi
      rcases List.mem_cons.1 hx with rfl | hx
      · omega
      · have := ih (xs[i].parent + 1).toNat (by omega) _ rfl (by omega) x hx
        omega
theorem aboveL_len {xs : List Cls} (g : Good xs) : ∀ (m : Nat) (a : Int), (a + 1).toNat = m → a < xs.length → (aboveL xs a).length ≤ m := by
  intro m
  induction m using Nat.strongRecOn with
  | _ m ih =>
    intro a hm ha
    by_cases h : a < 0
    · rw [aboveL_neg h]; simp
    · obtain ⟨i, rfl⟩ := Int.eq_ofNat_of_zero_le (by omega : 0 ≤ a)
      have hi : i < xs.length := by omega
      rw [aboveL_at g hi]
      have hp := g.par_le hi
      have := ih (xs[i].parent + 1).toNat (by omega) _ rfl (by omega)
      simp; omega

def hasK (xs : List Cls) (a : Int) : Bool := decide (0 ≤ a) && decide (a ≤ (xs.length : Int) - 1)

theorem hasClass_any (A : Option Addr) (n cap : Nat) (xs : List Cls) (a : Int) (w : World) (hR : Sl w A n cap xs) :
    Calls Tryz.prog 116 #[.agg #[.slice A n cap], .int .i64 a] w fun e w' => e = .returned (.bool (hasK xs a)) ∧ Le w w' := by
  obtain rfl := hR.len
  have hm := hR.n_le
  go_enter Tryz.func116, Tryz.ntmps116
  go_wp2_with (go_at_call 78; refine (inRange_any _ _ _ _).mono ?_; rintro e w' ⟨rfl, rfl⟩)
  go_ret
  exact ⟨rfl, Le.new w _⟩

theorem intInfo : (Tryz.prog.info? 3).map (fun i => (i.zero, i.size, i.bytes)) = some (some (.int .i64 0), 1, 8) := by kernel_rfl

end

section
instance instEncStr : Enc ByteArray := ⟨1, fun s => [.string s], fun s => s.size ≤ 9223372036854775807, fun _ => rfl⟩
theorem Sl.str_at {w : World} {A : Option Addr} {n cap : Nat} {xs : List ByteArray} (h : Sl w A n cap xs) {k : Nat} (hk : k < xs.length) :
    ∃ b off, A = some ⟨b, off, none⟩ ∧ b < w.heap.size ∧ w.cell? ⟨b, off + k, none⟩ = some (.string xs[k]) := by
  obtain ⟨b, off, e, hb, hc⟩ := h.cells_ hk
  have := hc 0 (by decide) _ rfl
  exact ⟨b, off, e, hb, by simpa [Enc.size] using this⟩
end

section
def ReaderOut (w : World) (e : Ending) (w' : World) : Prop :=
  ∃ g A n cap bs, e = .returned (.pointer (some ⟨g, 0, none⟩)) ∧ w.heap.size ≤ g ∧ Rd w' g 0 A n cap bs ∧ Le w w'
theorem newReader_any (A : Option Addr) (n cap : Nat) (bs : List By) (w : World) (hR : Sl w A n cap bs) :
    Calls Tryz.prog 23 #[.slice A n cap] w (ReaderOut w) := by
  have hm := hR.n_le
  have hcp := hR.cap_
  have hoff : 0 < n → Off w.heap.size A := fun hn => by
    obtain ⟨b, off, e, hb, _⟩ := hR.at_ hn
    exact fun a ea => by rw [e] at ea; injection ea with ea; rw [← ea]; exact Nat.ne_of_lt hb
  have HO := Lib.hid hoff; clear hoff
  by_cases h : 2000 < n
  · have ht := hR.take_ 2000 (by omega)
    go_enter Tryz.func23, Tryz.ntmps23
    go_wp2
    go_ret
    refine ⟨w.heap.size, A, 2000, cap, bs.take 2000, rfl, Nat.le_refl _, ⟨?_, ht.alloc _, fun _ => HO.out (by omega), by omega⟩, Le.new w _⟩
    exact heap_alloc_new w _
  · go_enter Tryz.func23, Tryz.ntmps23
    go_wp2
    go_ret
    refine ⟨w.heap.size, A, n, cap, bs, rfl, Nat.le_refl _, ⟨?_, hR.alloc _, HO.out, by omega⟩, Le.new w _⟩
    exact heap_alloc_new w _

def OneOut (xs : List Int) (g p : Nat) (A : Option Addr) (n cap : Nat) (bs : List By) (w : World) (e : Ending) (w' : World) : Prop :=
  ∃ v : Int, e = .returned (.int .i64 v) ∧ v ∈ xs ∧ Rd w' g (p + 1) A n cap bs ∧ Gx g w w'
theorem one_any (B : Option Addr) (m c : Nat) (xs : List Int) (g p : Nat) (A : Option Addr) (n cap : Nat) (bs : List By) (w : World) (hm : 0 < m) (hm1 : m ≤ 1000) (hp : p ≤ 1000000) (hS : Sl w B m c xs) (ho : 0 < m → Off g B) (hR : Rd w g p A n cap bs) :
    Calls Tryz.prog 48 #[.pointer (some ⟨g, 0, none⟩), .slice B m c] w (OneOut xs g p A n cap bs w) := by
  have hl := hS.len
  have HL := Lib.hid hl; clear hl
  have hc0 := hS.n_le
  go_enter Tryz.func48, Tryz.ntmps48
  go_wp2_with fail
  refine (pick_any m g p A n cap bs w (by omega) (by omega) hp hR).mono ?_
  rintro e w1 ⟨v, rfl, hv0, hv1, hR1, hg1⟩
  have hS1 := hS.gx ho hg1
  obtain ⟨k, rfl⟩ := Int.eq_ofNat_of_zero_le hv0
  have hk : k < m := by rcases hv1 with h | h <;> omega
  obtain ⟨b, off, rfl, hb, hcell, hw1, hw2⟩ := hS1.int_at (k := k) (by have := HL.out; omega)
  have hmem : Hid (xs[k]'(by have := HL.out; omega) ∈ xs) := List.getElem_mem _
  go_wp2
  go_ret
  exact ⟨_, rfl, hmem.out, hR1, hg1⟩

def OfOut (xs : List ByteArray) (g p : Nat) (A : Option Addr) (n cap : Nat) (bs : List By) (w : World) (e : Ending) (w' : World) : Prop :=
  ∃ s : ByteArray, e = .returned (.string s) ∧ s ∈ xs ∧ Rd w' g (p + 1) A n cap bs ∧ Gx g w w'
theorem of_any (B : Option Addr) (m c : Nat) (xs : List ByteArray) (g p : Nat) (A : Option Addr) (n cap : Nat) (bs : List By) (w : World) (hm : 0 < m) (hm1 : m ≤ 1000) (hp : p ≤ 1000000) (hS : Sl w B m c xs) (ho : 0 < m → Off g B) (hR : Rd w g p A n cap bs) :
    Calls Tryz.prog 75 #[.pointer (some ⟨g, 0, none⟩), .slice B m c] w (OfOut xs g p A n cap bs w) := by
  have hl := hS.len
  have HL := Lib.hid hl; clear hl
  have hc0 := hS.n_le
  go_enter Tryz.func75, Tryz.ntmps75
  go_wp2_with fail
  refine (pick_any m g p A n cap bs w (by omega) (by omega) hp hR).mono ?_
  rintro e w1 ⟨v, rfl, hv0, hv1, hR1, hg1⟩
  have hS1 := hS.gx ho hg1
  obtain ⟨k, rfl⟩ := Int.eq_ofNat_of_zero_le hv0
  have hk : k < m := by rcases hv1 with h | h <;> omega
  obtain ⟨b, off, rfl, hb, hcell⟩ := hS1.str_at (k := k) (by have := HL.out; omega)
  have hmem : Hid (xs[k]'(by have := HL.out; omega) ∈ xs) := List.getElem_mem _
  go_wp2
  go_ret
  exact ⟨_, rfl, hmem.out, hR1, hg1⟩
end

section
/-- to stop a walk at a builtin and look: go_wp2_with (at_builtin; refine of_stop ?_); unfold Stop -/
def Stop (p : Prop) : Prop := p
theorem of_stop {p : Prop} (h : Stop p) : p := h

theorem own_form {w : World} {base size n : Nat} {e : TypeId} {v : Value} {xs : List Value} (h : w.ownsRow base e size v n xs) : ∃ A c, v = .slice A n c := by
  rcases h.2 with ⟨h, h0⟩ | ⟨g, c, _, h, _⟩
  · exact ⟨none, 0, by rw [h0]; exact h⟩
  · exact ⟨_, c, h⟩
theorem gx_le {g : Option Nat} {a b c : World} (h : a.grownBy b g) (k : Le b c) : a.grownBy c g :=
  ⟨k.os.trans h.os, k.tape.trans h.tape, k.output.trans h.output, Nat.le_trans h.size k.size, fun i hi hne => (Below.block k i (Nat.lt_of_lt_of_le hi h.size)).trans (h.block i hi hne)⟩
theorem gx_set {g o : Nat} {a b : World} (h : a.grownBy b (some g)) (u : Value) : a.grownBy (b.setCell ⟨g, o, none⟩ u) (some g) :=
  ⟨h.os, h.tape, h.output, by simpa [World.setCell] using h.size, fun i hi hne => (heap_setCell_other b ⟨g, o, none⟩ i u (fun e => hne (by rw [e]))).trans (h.block i hi hne)⟩
theorem gx_from {g : Option Nat} {a b : World} {o : Obj} (h : (a.alloc o).grownBy b g) : a.grownBy b g :=
  ⟨h.os, h.tape, h.output, by have := h.size; simp at this; omega, fun i hi hne => (h.block i (by simp; omega) hne).trans (Below.heap_alloc _ _ _ hi)⟩

/-- a world with new boxes: what they hold -/
theorem box1 (w : World) (v : Value) (T : TypeId) : (w.alloc (.cells #[v] T)).cell? ⟨w.heap.size, 0, none⟩ = some v ∧ w.heap.size < (w.alloc (.cells #[v] T)).heap.size ∧ Le w (w.alloc (.cells #[v] T)) :=
  ⟨by rw [World.cell?_alloc_at _ _ _ _ rfl]; rfl, by simp, Le.new w _⟩
theorem box2 (w : World) (v u : Value) (T U : TypeId) : ((w.alloc (.cells #[v] T)).alloc (.cells #[u] U)).cell? ⟨w.heap.size, 0, none⟩ = some v ∧ w.heap.size < ((w.alloc (.cells #[v] T)).alloc (.cells #[u] U)).heap.size ∧
    ((w.alloc (.cells #[v] T)).alloc (.cells #[u] U)).cell? ⟨w.heap.size + 1, 0, none⟩ = some u ∧ w.heap.size + 1 < ((w.alloc (.cells #[v] T)).alloc (.cells #[u] U)).heap.size ∧ Le w ((w.alloc (.cells #[v] T)).alloc (.cells #[u] U)) := by
  refine ⟨?_, by simp; omega, ?_, by simp, (Le.new w _).alloc _⟩
  · rw [World.cell?_alloc_past _ _ _ (by simp), World.cell?_alloc_at _ _ _ _ rfl]; rfl
  · rw [World.cell?_alloc_at _ _ _ _ (by simp)]; rfl
/-- what the caller owns of a fresh row -/
structure Owd {α : Type} [Enc α] (T : TypeId) (w0 w : World) (v : Value) (xs : List α) : Prop where
  row : w.ownsRow w0.heap.size T (Enc.size α) v xs.length (xs.flatMap Enc.cells)
  ok : ∀ x ∈ xs, Enc.ok x
theorem Owd.le {α : Type} [Enc α] {T : TypeId} {w0 w w' : World} {v : Value} {xs : List α} (h : Owd T w0 w v xs) (hl : Le w w') : Owd T w0 w' v xs := ⟨own_le h.row hl, h.ok⟩
theorem Owd.mono {α : Type} [Enc α] {T : TypeId} {w0 w00 w : World} {v : Value} {xs : List α} (h : Owd T w0 w v xs) (hl : Le w00 w0) : Owd T w00 w v xs := ⟨own_mono h.row hl.size, h.ok⟩
theorem Owd.nil {α : Type} [Enc α] (T : TypeId) (w0 w : World) : Owd T w0 w (.slice none 0 0) ([] : List α) := ⟨World.ownsRow_nil _ _ _ _, fun _ h => nomatch h⟩
theorem Owd.form {α : Type} [Enc α] {T : TypeId} {w0 w : World} {v : Value} {xs : List α} (h : Owd T w0 w v xs) (hp : 0 < Enc.size α) : ∃ A c, v = .slice A xs.length c ∧ Sl w A xs.length c xs ∧ (∀ k, (Value.slice A xs.length c).ownBlock = some k → w0.heap.size ≤ k ∧ k < w.heap.size) := by
  obtain ⟨A, c, rfl⟩ := own_form h.row
  exact ⟨A, c, rfl, Sl.of_own h.row rfl hp h.ok, fun k hk => h.row.lt k hk⟩
theorem Sl.under {α : Type} [Enc α] {w : World} {A : Option Addr} {n cap : Nat} {xs : List α} (h : Sl w A n cap xs) (hn : 0 < n) : ∀ a, A = some a → a.block < w.heap.size := by
  obtain ⟨b, off, e, hlt, _⟩ := h.at_ hn
  intro a ea; rw [e] at ea; injection ea with ea; rw [← ea]; exact hlt
theorem Sl.grown {α : Type} [Enc α] {w w' : World} {A : Option Addr} {n cap : Nat} {xs : List α} {r : Option Nat} (h : Sl w A n cap xs) (hg : w.grownBy w' r) (hne : 0 < n → ∀ a, A = some a → some a.block ≠ r) : Sl w' A n cap xs :=
  ⟨h.len, h.cap_, h.max, h.ok, fun hn => by
    obtain ⟨b, off, e, hlt, hc⟩ := h.at_ hn
    exact ⟨b, off, e, Nat.lt_of_lt_of_le hlt hg.size, fun j u hu => (World.cell?_of_block (a := ⟨b, off + j, none⟩) (hg.block b hlt (hne hn _ e))).trans (hc j u hu)⟩⟩
theorem box3 (w : World) (v u x : Value) (T U X : TypeId) : (((w.alloc (.cells #[v] T)).alloc (.cells #[u] U)).alloc (.cells #[x] X)).cell? ⟨w.heap.size, 0, none⟩ = some v ∧ w.heap.size < (((w.alloc (.cells #[v] T)).alloc (.cells #[u] U)).alloc (.cells #[x] X)).heap.size ∧
    (((w.alloc (.cells #[v] T)).alloc (.cells #[u] U)).alloc (.cells #[x] X)).cell? ⟨w.heap.size + 1, 0, none⟩ = some u ∧ w.heap.size + 1 < (((w.alloc (.cells #[v] T)).alloc (.cells #[u] U)).alloc (.cells #[x] X)).heap.size ∧
    (((w.alloc (.cells #[v] T)).alloc (.cells #[u] U)).alloc (.cells #[x] X)).cell? ⟨w.heap.size + 1 + 1, 0, none⟩ = some x ∧ w.heap.size + 1 + 1 < (((w.alloc (.cells #[v] T)).alloc (.cells #[u] U)).alloc (.cells #[x] X)).heap.size ∧ Le w (((w.alloc (.cells #[v] T)).alloc (.cells #[u] U)).alloc (.cells #[x] X)) := by
  obtain ⟨a, b, c, d, e⟩ := box2 w v u T U
  refine ⟨?_, by simp <;> omega, ?_, by simp <;> omega, ?_, by simp, e.alloc _⟩
  · rw [World.cell?_alloc_past _ _ _ b]; exact a
  · rw [World.cell?_alloc_past _ _ _ d]; exact c
  · rw [World.cell?_alloc_at _ _ _ _ (by simp)]; rfl
theorem box5 (w : World) (a b c d e : Value) (T : TypeId) : (w.alloc (.cells #[a, b, c, d, e] T)).cell? ⟨w.heap.size, 0, none⟩ = some a ∧ (w.alloc (.cells #[a, b, c, d, e] T)).cell? ⟨w.heap.size, 1, none⟩ = some b ∧ (w.alloc (.cells #[a, b, c, d, e] T)).cell? ⟨w.heap.size, 2, none⟩ = some c ∧
    (w.alloc (.cells #[a, b, c, d, e] T)).cell? ⟨w.heap.size, 3, none⟩ = some d ∧ (w.alloc (.cells #[a, b, c, d, e] T)).cell? ⟨w.heap.size, 4, none⟩ = some e ∧ w.heap.size < (w.alloc (.cells #[a, b, c, d, e] T)).heap.size ∧ Le w (w.alloc (.cells #[a, b, c, d, e] T)) := by
  refine ⟨?_, ?_, ?_, ?_, ?_, by simp, Le.new w _⟩ <;> (rw [World.cell?_alloc_at _ _ _ _ rfl]; rfl)
end
end Go.Proofs.YtkcnjoikdalgjaaGreatDoor
