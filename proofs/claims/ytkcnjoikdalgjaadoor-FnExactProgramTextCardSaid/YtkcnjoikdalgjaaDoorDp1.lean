/- one text of K, P, A, B, L, I, PAn, TtP, TkN -/
import Derived.Test.YtkcnjoikdalgjaaDoorRows
import Derived.WalkKit
import Derived.Lib.Hide
import Derived.Deep.Draws
import Derived.Deep.QuietTactic
import Derived.BigQuiet
import Derived.Lib.IndexMore
import Derived.Lib.IndexBytes
import Derived.Lib.AtoiAllCases
namespace Go.Proofs.YtkcnjoikdalgjaaDoor
open Go.RowKit
set_option linter.unusedVariables false
section
/-- w' is w and more: nothing that was there has turned. -/
def Le (w w' : World) : Prop := Below w.heap.size w w'
theorem Le.refl (w : World) : Le w w := Below.refl _ _
theorem Le.trans {a b c : World} (h : Le a b) (k : Le b c) : Le a c := Below.trans h (Below.mono k h.size)
theorem Le.alloc {a w : World} (h : Le a w) (o : Obj) : Le a (w.alloc o) := Below.alloc h h.size o
theorem Le.drew {a w : World} (h : Le a w) : Le a w.drew := Below.drew h
theorem Le.drewN {a w : World} (h : Le a w) (n : Nat) : Le a (w.drewN n) := Below.trans h ⟨rfl, rfl, rfl, Nat.le_refl _, fun _ _ => rfl⟩
theorem Le.setCell {a w : World} (h : Le a w) {b o : Nat} (hb : a.heap.size ≤ b) (u : Value) : Le a (w.setCell ⟨b, o, none⟩ u) := Below.setCell h (p := ⟨b, o, none⟩) hb u
theorem Le.cell {w w' : World} (h : Le w w') {b o : Nat} (hb : b < w.heap.size) : w'.cell? ⟨b, o, none⟩ = w.cell? ⟨b, o, none⟩ := Below.cell h (p := ⟨b, o, none⟩) hb
theorem Le.frozen {w w' : World} (h : Le w w') {b o : Nat} (hb : b < w.heap.size) : w'.frozen? ⟨b, o, none⟩ = w.frozen? ⟨b, o, none⟩ := Below.frozen h (p := ⟨b, o, none⟩) hb
theorem Le.new (w : World) (o : Obj) : Le w (w.alloc o) := (Le.refl w).alloc o
theorem Le.grown {a w w' : World} (h : Le a w) {row : Option Nat} (hg : w.grownBy w' row) (hr : ∀ k, row = some k → a.heap.size ≤ k) : Le a w' := Below.grown h hg h.size hr

theorem ret_bool {a b : Bool} (h : a = b) : Ending.returned (.bool a) = .returned (.bool b) := by rw [h]
theorem ret_int {a b : Int} (h : a = b) : Ending.returned (.int .i64 a) = .returned (.int .i64 b) := by rw [h]
theorem ret_str {a b : ByteArray} (h : a = b) : Ending.returned (.string a) = .returned (.string b) := by rw [h]

/-- How a value of the type lies in memory: so many cells; what its numbers and texts keep to. -/
class Enc (α : Type) where
  size : Nat
  cells : α → List Value
  ok : α → Prop
  len : ∀ x, (cells x).length = size

theorem flat_at {α : Type} [Enc α] (xs : List α) : ∀ (k : Nat) (hk : k < xs.length) (j : Nat), j < Enc.size α → (xs.flatMap Enc.cells)[k * Enc.size α + j]? = (Enc.cells xs[k])[j]? := by
  induction xs with
  | nil => intro k hk; simp at hk
  | cons x r ih =>
    intro k hk j hj
    rw [List.flatMap_cons]
    cases k with
    | zero => rw [List.getElem?_append_left (by rw [Enc.len]; omega)]; simp
    | succ k =>
      rw [List.getElem?_append_right (by rw [Enc.len, Nat.succ_mul]; omega), Enc.len]
      have e : (k + 1) * Enc.size α + j - Enc.size α = k * Enc.size α + j := by rw [Nat.succ_mul]; omega
      rw [e, ih k (by simpa using hk) j hj]; rfl
theorem flat_len {α : Type} [Enc α] (xs : List α) : (xs.flatMap Enc.cells).length = xs.length * Enc.size α := by
  induction xs with
  | nil => simp
  | cons x r ih => rw [List.flatMap_cons, List.length_append, ih, Enc.len, List.length_cons, Nat.succ_mul]; omega

/-- The slice .slice A n cap reads as the list xs. -/
structure Sl {α : Type} [Enc α] (w : World) (A : Option Addr) (n cap : Nat) (xs : List α) : Prop where
  len : xs.length = n
  cap_ : n ≤ cap
  max : cap ≤ 9223372036854775807
  ok : ∀ x ∈ xs, Enc.ok x
  at_ : 0 < n → ∃ b off, A = some ⟨b, off, none⟩ ∧ b < w.heap.size ∧ ∀ j u, (xs.flatMap Enc.cells)[j]? = some u → w.cell? ⟨b, off + j, none⟩ = some u

section
variable {α : Type} [Enc α] {w w' : World} {A : Option Addr} {n cap : Nat} {xs : List α}
theorem Sl.nil (w : World) (A : Option Addr) (cap : Nat) (h : cap ≤ 9223372036854775807) : Sl w A 0 cap ([] : List α) := ⟨rfl, Nat.zero_le _, h, (fun _ h => nomatch h), fun h => absurd h (by omega)⟩
theorem Sl.n_le (h : Sl w A n cap xs) : n ≤ 9223372036854775807 := Nat.le_trans h.cap_ h.max
theorem Sl.le (h : Sl w A n cap xs) (hb : Le w w') : Sl w' A n cap xs :=
  ⟨h.len, h.cap_, h.max, h.ok, fun hn => by
    obtain ⟨b, off, e, hlt, hc⟩ := h.at_ hn
    exact ⟨b, off, e, Nat.lt_of_lt_of_le hlt hb.size, fun j u hu => (hb.cell hlt).trans (hc j u hu)⟩⟩
theorem Sl.alloc (h : Sl w A n cap xs) (o : Obj) : Sl (w.alloc o) A n cap xs := h.le (Le.new w o)
theorem Sl.take_ (h : Sl w A n cap xs) (k : Nat) (hk : k ≤ n) : Sl w A k cap (xs.take k) := by
  refine ⟨by rw [List.length_take, h.len]; omega, Nat.le_trans hk h.cap_, h.max, fun x hx => h.ok x (List.mem_of_mem_take hx), fun hn => ?_⟩
  obtain ⟨b, off, e, hb, hc⟩ := h.at_ (by omega)
  refine ⟨b, off, e, hb, fun j u hu => hc j u ?_⟩
  have hsplit : xs.flatMap Enc.cells = (xs.take k).flatMap Enc.cells ++ (xs.drop k).flatMap Enc.cells := by rw [← List.flatMap_append, List.take_append_drop]
  rw [hsplit, List.getElem?_append_left (by
    have := (List.getElem?_eq_some_iff.1 hu).1
    exact this)]
  exact hu
theorem Sl.cells_ (h : Sl w A n cap xs) {k : Nat} (hk : k < xs.length) :
    ∃ b off, A = some ⟨b, off, none⟩ ∧ b < w.heap.size ∧ ∀ j, j < Enc.size α → ∀ u, (Enc.cells xs[k])[j]? = some u → w.cell? ⟨b, off + (k * Enc.size α + j), none⟩ = some u := by
  obtain ⟨b, off, e, hb, hc⟩ := h.at_ (by have := h.len; omega)
  exact ⟨b, off, e, hb, fun j hj u hu => hc _ _ ((flat_at xs k hk j hj).trans hu)⟩
end

instance instEncInt : Enc Int := ⟨1, fun x => [.int .i64 x], fun x => -9223372036854775808 ≤ x ∧ x ≤ 9223372036854775807, fun _ => rfl⟩
theorem Sl.int_at {w : World} {A : Option Addr} {n cap : Nat} {xs : List Int} (h : Sl w A n cap xs) {k : Nat} (hk : k < xs.length) :
    ∃ b off, A = some ⟨b, off, none⟩ ∧ b < w.heap.size ∧ w.cell? ⟨b, off + k, none⟩ = some (.int .i64 xs[k]) ∧ -9223372036854775808 ≤ xs[k] ∧ xs[k] ≤ 9223372036854775807 := by
  obtain ⟨b, off, e, hb, hc⟩ := h.cells_ hk
  have := hc 0 (by decide) _ rfl
  exact ⟨b, off, e, hb, by simpa [Enc.size] using this, (h.ok xs[k] (List.getElem_mem hk)).1, (h.ok xs[k] (List.getElem_mem hk)).2⟩

/-- a class -/
structure Cls where
  name : ByteArray
  parent : Int
instance instEncCls : Enc Cls := ⟨2, fun c => [.string c.name, .int .i64 c.parent], fun c => c.name.size ≤ 9223372036854775807 ∧ -9223372036854775808 ≤ c.parent ∧ c.parent ≤ 9223372036854775807, fun _ => rfl⟩
theorem Sl.cls_at {w : World} {A : Option Addr} {n cap : Nat} {xs : List Cls} (h : Sl w A n cap xs) {k : Nat} (hk : k < xs.length) :
    ∃ b off, A = some ⟨b, off, none⟩ ∧ b < w.heap.size ∧ w.cell? ⟨b, off + k * 2, none⟩ = some (.string xs[k].name) ∧ w.cell? ⟨b, off + k * 2 + 1, none⟩ = some (.int .i64 xs[k].parent) ∧
      xs[k].name.size ≤ 9223372036854775807 ∧ -9223372036854775808 ≤ xs[k].parent ∧ xs[k].parent ≤ 9223372036854775807 := by
  obtain ⟨b, off, e, hb, hc⟩ := h.cells_ hk
  have h0 := hc 0 (by decide) _ rfl
  have h1 := hc 1 (by decide) _ rfl
  have hk' := h.ok xs[k] (List.getElem_mem hk)
  exact ⟨b, off, e, hb, by simpa [Enc.size] using h0, by simpa [Enc.size, Nat.add_assoc] using h1, hk'.1, hk'.2.1, hk'.2.2⟩

theorem str_eq {a b : ByteArray} (h : a = b) : (a.toList == b.toList) = true := by subst h; simp
theorem str_ne {a b : ByteArray} (h : a ≠ b) : (a.toList == b.toList) = false := by
  rw [beq_eq_false_iff_ne]
  intro e
  rw [ByteArray.toList_eq, ByteArray.toList_eq] at e
  apply h
  cases a; cases b; simp at e; rw [e]

/-- The worlds that are w and more, as a class that the walk sees through. -/
def Ext (w : World) : Type := { w' : World // Le w w' }
instance instNonemptyExt (w : World) : Nonempty (Ext w) := ⟨⟨w, Le.refl w⟩⟩
def _root_.Go.World.ext (w : World) (g : Ext w) : World := g.1
theorem Le.ext (w : World) (g : Ext w) : Le w (w.ext g) := g.2
theorem Sl.ext {α : Type} [Enc α] {w : World} {A : Option Addr} {n cap : Nat} {xs : List α} (h : Sl w A n cap xs) (g : Ext w) : Sl (w.ext g) A n cap xs := h.le (Le.ext w g)
theorem cell_ext {w : World} {b o : Nat} {v : Value} (hb : b < w.heap.size) (h : w.cell? ⟨b, o, none⟩ = some v) : ∀ g : Ext w, (w.ext g).cell? ⟨b, o, none⟩ = some v := fun g => ((Le.ext w g).cell hb).trans h
theorem wp_region_ext {P : Program} {id : Nat} {Q : Exit → Act → World → Prop} {a : Act} {w : World} {l : List Oper} (hm : P.follows .mixedOrders = true) (hB : Region.lexB .any l.toArray = true)
    (h : wpQuiet P l.toArray (fun w' => ∃ g : Ext w, w' = w.ext g) (fun a' => ∀ w', (∃ g : Ext w, w' = w.ext g) → Q .normal a' w') l a) : (Code.region id l.toArray true).wp P Q a w :=
  wp_region_quiet (C := fun w' => ∃ g : Ext w, w' = w.ext g) hm hB ⟨⟨w.drew, (Le.refl w).drew⟩, rfl⟩ (by simpa using h)
theorem Calls.val {P : Program} {f : FuncId} {args : Array Value} {w : World} {v v' : Value} {R : World → Prop} (h : Calls P f args w fun e w' => e = .returned v ∧ R w') (hv : v = v') : Calls P f args w fun e w' => e = .returned v' ∧ R w' :=
  h.mono fun _ _ ⟨he, hr⟩ => ⟨by rw [he, hv], hr⟩
theorem vb {a b : Bool} (h : a = b) : Value.bool a = Value.bool b := by rw [h]
theorem vi {a b : Int} (h : a = b) : Value.int .i64 a = Value.int .i64 b := by rw [h]
theorem Calls.ext_of {P : Program} {f : FuncId} {args : Array Value} {w : World} {g : Ext w} {v : Value}
    (h : Calls P f args (w.ext g) fun e w' => e = .returned v ∧ Le (w.ext g) w') : Calls P f args (w.ext g) fun e w'' => e = .returned v ∧ ∃ g' : Ext w, w'' = w.ext g' :=
  h.mono fun _ w' ⟨he, hm⟩ => ⟨he, ⟨w', (Le.ext w g).trans hm⟩, rfl⟩
theorem Calls.ext_same {P : Program} {f : FuncId} {args : Array Value} {w : World} {g : Ext w} {v : Value}
    (h : Calls P f args (w.ext g) fun e w' => e = .returned v ∧ w.ext g = w') : Calls P f args (w.ext g) fun e w'' => e = .returned v ∧ ∃ g' : Ext w, w'' = w.ext g' :=
  h.mono fun _ _ ⟨he, hm⟩ => ⟨he, g, hm.symm⟩

theorem own_le {w w' : World} {base : Nat} {e : TypeId} {size : Nat} {v : Value} {n : Nat} {xs : List Value} (h : w.ownsRow base e size v n xs) (hb : Le w w') : w'.ownsRow base e size v n xs := by
  refine ⟨h.1, ?_⟩
  rcases h.2 with h' | ⟨g, cap, cur, hv, hg0, hg, hnc, hcm, hcs, ht⟩
  · exact .inl h'
  · have hlt : g < w.heap.size := by
      rcases Nat.lt_or_ge g w.heap.size with hlt | hge
      · exact hlt
      · rw [Array.getElem?_eq_none hge] at hg; cases hg
    exact .inr ⟨g, cap, cur, hv, hg0, (Below.block hb g hlt).trans hg, hnc, hcm, hcs, ht⟩
theorem own_lt {w : World} {base : Nat} {e : TypeId} {size : Nat} {g cap n : Nat} {xs : List Value} (h : w.ownsRow base e size (.slice (some ⟨g, 0, none⟩) n cap) n xs) : g < w.heap.size := (h.lt g rfl).2
/-- what the call owns reads as a list -/
theorem Sl.of_own {α : Type} [Enc α] {w : World} {base : Nat} {e : TypeId} {size : Nat} {A : Option Addr} {n cap : Nat} {xs : List α} (h : w.ownsRow base e size (.slice A n cap) n (xs.flatMap Enc.cells)) (hs : size = Enc.size α) (hp : 0 < size) (hok : ∀ x ∈ xs, Enc.ok x) : Sl w A n cap xs := by
  have hl : xs.length = n := by
    have := h.1
    rw [flat_len, hs] at this
    exact Nat.eq_of_mul_eq_mul_right (by omega) this
  rcases h.2 with ⟨h', hn⟩ | ⟨g, cap', cur, hv, hg0, hg, hnc, hcm, hcs, ht⟩
  · simp only [Value.slice.injEq] at h'
    obtain ⟨rfl, rfl, rfl⟩ := h'
    exact ⟨hl, by omega, by omega, hok, fun h => absurd h (by omega)⟩
  · simp only [Value.slice.injEq, true_and] at hv
    obtain ⟨rfl, rfl⟩ := hv
    refine ⟨hl, hnc, by simpa [maxLen] using hcm, hok, fun _ => ⟨g, 0, rfl, own_lt h, fun j u hu => ?_⟩⟩
    have hj : j < n * size := by
      have := (List.getElem?_eq_some_iff.1 hu).1
      rw [h.1] at this; exact this
    rw [Nat.zero_add]
    exact (h.cellAt j hj).trans hu
end

section
def hasI : List Int → Int → Bool
  | [], _ => false
  | z :: r, x => z == x || hasI r x
def lowers : List UInt8 → Bool
  | [] => true
  | c :: r => decide (97 ≤ c.toNat) && decide (c.toNat ≤ 122) && lowers r
def okName (s : ByteArray) : Bool := lowers s.data.toList && decide (1 ≤ s.size) && decide (s.size ≤ 6)
def findN : List Cls → ByteArray → Int → Int
  | [], _, _ => -1
  | c :: r, s, k => if c.name = s then k else findN r s (k + 1)

theorem findN_cons (c : Cls) (r : List Cls) (s : ByteArray) (k : Int) : findN (c :: r) s k = if c.name = s then k else findN r s (k + 1) := rfl
theorem hasI_at {zs : List Int} {k : Nat} (h : k < zs.length) (x : Int) : hasI (zs.drop k) x = (zs[k] == x || hasI (zs.drop (k + 1)) x) := by
  rw [List.drop_eq_getElem_cons h]; rfl
theorem hasI_end {zs : List Int} {k : Nat} (h : ¬ k < zs.length) (x : Int) : hasI (zs.drop k) x = false := by
  rw [List.drop_eq_nil_of_le (by omega)]; rfl
theorem findN_at {zs : List Cls} {k : Nat} (h : k < zs.length) (s : ByteArray) (j : Int) : findN (zs.drop k) s j = if zs[k].name = s then j else findN (zs.drop (k + 1)) s (j + 1) := by
  rw [List.drop_eq_getElem_cons h]; rfl
theorem findN_end {zs : List Cls} {k : Nat} (h : ¬ k < zs.length) (s : ByteArray) (j : Int) : findN (zs.drop k) s j = -1 := by
  rw [List.drop_eq_nil_of_le (by omega)]; rfl
theorem lowers_at {s : ByteArray} {k : Nat} (h : k < s.size) : lowers (s.data.toList.drop k) = (decide (97 ≤ s[k].toNat) && decide (s[k].toNat ≤ 122) && lowers (s.data.toList.drop (k + 1))) := by
  rw [List.drop_eq_getElem_cons (by simpa using h)]; rfl
theorem lowers_end {s : ByteArray} {k : Nat} (h : ¬ k < s.size) : lowers (s.data.toList.drop k) = true := by
  rw [List.drop_eq_nil_of_le (by simpa using h)]; rfl
end

section
theorem inRange_any (a b c : Int) (w : World) : Calls Tryd.prog 42 #[.int .i64 a, .int .i64 b, .int .i64 c] w fun e w' => e = .returned (.bool (decide (b ≤ a) && decide (a ≤ c))) ∧ w = w' := by
  go_enter Tryd.func42, Tryd.ntmps42
  go_wp2
  all_goals (go_ret; simp_all)
  all_goals omega

theorem validName_any (s : ByteArray) (w : World) (hs : s.size ≤ 9223372036854775807) : Calls Tryd.prog 48 #[.string s] w fun e w' => e = .returned (.bool (okName s)) ∧ w = w' := by
  go_enter Tryd.func48, Tryd.ntmps48
  go_wp2
  go_loop [3] (fun i => ∃ k : Nat, k ≤ s.size ∧ i = .int .i64 k ∧ lowers s.data.toList = lowers (s.data.toList.drop k)) (fun i => s.size - (intOf i).toNat)
  case atStart => exact ⟨0, Nat.zero_le _, rfl, rfl⟩
  case round =>
    obtain ⟨k, hk, rfl, hr⟩ := hrel
    have HR := Lib.hid hr; clear hr
    by_cases hlt : k < s.size
    · have hc : 0 ≤ (s[k].toNat : Int) ∧ (s[k].toNat : Int) ≤ 255 := by have := UInt8.toNat_lt s[k]; omega
      by_cases h1 : s[k].toNat < 97
      · have HF : Hid (okName s = false) := by show _ = _; unfold okName; rw [HR.out, lowers_at hlt, decide_eq_false (p := 97 ≤ s[k].toNat) (by omega)]; rfl
        go_wp2
        go_ret
        exact ⟨ret_bool HF.out.symm, rfl⟩
      · by_cases h2 : 122 < s[k].toNat
        · have HF : Hid (okName s = false) := by show _ = _; unfold okName; rw [HR.out, lowers_at hlt, decide_eq_false (p := s[k].toNat ≤ 122) (by omega)]; simp
          go_wp2
          go_ret
          exact ⟨ret_bool HF.out.symm, rfl⟩
        · have HF : Hid (lowers s.data.toList = lowers (s.data.toList.drop (k + 1))) := by show _ = _; rw [HR.out, lowers_at hlt, decide_eq_true (p := 97 ≤ s[k].toNat) (by omega), decide_eq_true (p := s[k].toNat ≤ 122) (by omega)]; rfl
          go_wp2
          go_round
          case rel => exact ⟨k + 1, by omega, by go_num, HF.out⟩
          case measure => simp [intOf]; omega
    · have HF : Hid (okName s = (decide ((1 : Int) ≤ s.size) && decide ((s.size : Int) ≤ 6))) := by
        show _ = _; unfold okName; rw [HR.out, lowers_end hlt, Bool.true_and]; congr 1 <;> exact decide_eq_decide.2 (by omega)
      go_wp2_with (go_at_call 42; refine (inRange_any _ _ _ _).mono ?_; rintro e w' ⟨rfl, rfl⟩)
      go_ret
      exact ⟨ret_bool HF.out.symm, rfl⟩

theorem classNamed_any (A : Option Addr) (n cap : Nat) (xs : List Cls) (s : ByteArray) (w : World) (hR : Sl w A n cap xs) :
    Calls Tryd.prog 49 #[.slice A n cap, .string s] w fun e w' => e = .returned (.int .i64 (findN xs s 0)) ∧ w = w' := by
  obtain rfl := hR.len
  have hm := hR.n_le
  go_enter Tryd.func49, Tryd.ntmps49
  go_wp2
  go_loop [5] (fun i => ∃ k : Nat, k ≤ xs.length ∧ i = .int .i64 k ∧ findN xs s 0 = findN (xs.drop k) s k) (fun i => xs.length - (intOf i).toNat)
  case atStart => exact ⟨0, Nat.zero_le _, rfl, rfl⟩
  case round =>
    obtain ⟨k, hk, rfl, hr⟩ := hrel
    have HR := Lib.hid hr; clear hr
    by_cases hlt : k < xs.length
    · obtain ⟨b, off, rfl, _, hcell, hcell2, _, _, _⟩ := hR.cls_at hlt
      by_cases he : xs[k].name = s
      · have he' := str_eq he
        have HF : Hid (findN xs s 0 = k) := by show _ = _; rw [HR.out, findN_at hlt, if_pos he]
        go_wp2
        go_ret
        exact ⟨ret_int HF.out.symm, rfl⟩
      · have he' := str_ne he
        have HF : Hid (findN xs s 0 = findN (xs.drop (k + 1)) s ((k + 1 : Nat) : Int)) := by show _ = _; rw [HR.out, findN_at hlt, if_neg he]; rfl
        go_wp2
        go_round
        case rel => exact ⟨k + 1, by omega, by go_num, HF.out⟩
        case measure => simp [intOf]; omega
    · have HF : Hid (findN xs s 0 = -1) := by show _ = _; rw [HR.out, findN_end hlt]
      go_wp2
      go_ret
      exact ⟨ret_int HF.out.symm, rfl⟩
end

section
def badCls (all : List Cls) (i : Nat) (c : Cls) : Bool := !okName c.name || decide (0 ≤ findN (all.take i) c.name 0) || ((i : Int) == 0 && c.parent != -1) || (decide (0 < (i : Int)) && !(decide (0 ≤ c.parent) && decide (c.parent ≤ (i : Int) - 1)))
def okFrom (all : List Cls) : Nat → List Cls → Bool
  | _, [] => decide (1 ≤ all.length) && decide (all.length ≤ 8)
  | i, c :: r => !badCls all i c && okFrom all (i + 1) r
def okTree (all : List Cls) : Bool := okFrom all 0 all
theorem okFrom_at {all : List Cls} {k : Nat} (h : k < all.length) : okFrom all k (all.drop k) = (!badCls all k all[k] && okFrom all (k + 1) (all.drop (k + 1))) := by
  rw [List.drop_eq_getElem_cons h]; rfl
theorem okFrom_end {all : List Cls} {k : Nat} (h : ¬ k < all.length) : okFrom all k (all.drop k) = (decide ((1 : Int) ≤ all.length) && decide ((all.length : Int) ≤ 8)) := by
  rw [List.drop_eq_nil_of_le (by omega)]
  show (decide (1 ≤ all.length) && decide (all.length ≤ 8)) = _
  congr 1 <;> simp <;> omega

set_option maxHeartbeats 8000000 in
theorem validTree_any (A : Option Addr) (n cap : Nat) (xs : List Cls) (w : World) (hR : Sl w A n cap xs) :
    Calls Tryd.prog 26 #[.agg #[.slice A n cap]] w fun e w' => e = .returned (.bool (okTree xs)) ∧ Le w w' := by
  obtain rfl := hR.len
  have hm := hR.n_le
  have hcp := hR.cap_
  go_enter Tryd.func26, Tryd.ntmps26
  go_wp2
  go_loopw [3] (fun i wr => ∃ k : Nat, k ≤ xs.length ∧ i = .int .i64 k ∧ okTree xs = okFrom xs k (xs.drop k) ∧ Le (w.alloc (.cells #[.slice A xs.length cap] 31)) wr) (fun i _ => xs.length - (intOf i).toNat)
  case atStart => exact ⟨0, Nat.zero_le _, rfl, rfl, Le.refl _⟩
  case round =>
    obtain ⟨k, hk, rfl, hr, hle⟩ := hrel
    have HR := Lib.hid hr; clear hr
    have hz : w.heap.size < wr.heap.size := by have := hle.size; simp at this; omega
    have hT : wr.cell? ⟨w.heap.size, 0, none⟩ = some (.slice A xs.length cap) := by
      rw [hle.cell (by simp)]; simp
    have hwr : Le w wr := (Le.new w _).trans hle
    have hRr := hR.le hwr
    clear hR
    by_cases hlt : k < xs.length
    · obtain ⟨b, off, rfl, hb, hcell, hcell2, hns, hp1, hp2⟩ := hRr.cls_at hlt
      go_wp2
      generalize hWd : wr.alloc _ = W
      have hWle : Le wr W := by rw [← hWd]; exact Le.new wr _
      have e1 : W.cell? ⟨wr.heap.size, 0, none⟩ = some (.string xs[k].name) := by rw [← hWd]; simp
      have e2 : W.cell? ⟨wr.heap.size, 1, none⟩ = some (.int .i64 xs[k].parent) := by rw [← hWd]; simp
      have hzW : wr.heap.size < W.heap.size := by rw [← hWd]; simp
      have e3 : W.cell? ⟨w.heap.size, 0, none⟩ = some (.slice (some ⟨b, off, none⟩) xs.length cap) := (hWle.cell hz).trans hT
      have hRW := hRr.le hWle
      clear hWd hcell hcell2 hT
      have E1 := cell_ext hzW e1
      have E2 := cell_ext hzW e2
      have E3 := cell_ext (by omega) e3
      have HB : Hid (okTree xs = (!badCls xs k xs[k] && okFrom xs (k + 1) (xs.drop (k + 1)))) := by show _ = _; rw [HR.out, okFrom_at hlt]
      unfold badCls at HB
      by_cases hk0 : k = 0
      all_goals cases h1 : okName xs[k].name
      all_goals cases h2 : decide (0 ≤ findN (xs.take k) xs[k].name 0)
      all_goals cases h4 : xs[k].parent != -1
      all_goals cases h6 : (decide (0 ≤ xs[k].parent) && decide (xs[k].parent ≤ (k : Int) - 1))
      all_goals
        have h3 : ((k : Int) == 0) = decide (k = 0) := by
          by_cases e : k = 0 <;> simp [e]
        have h5 : decide (0 < (k : Int)) = !decide (k = 0) := by
          by_cases e : k = 0 <;> simp [e]
          omega
        have h5n : decide (0 < k) = !decide (k = 0) := by
          by_cases e : k = 0 <;> simp [e]
          omega
      all_goals first | rw [decide_eq_true hk0] at h3 h5 h5n | rw [decide_eq_false hk0] at h3 h5 h5n
      all_goals simp only [Bool.not_true, Bool.not_false] at h5 h5n
      all_goals
        have hout := HB.out
        simp only [h1, h2, h3, h4, h5, h6] at hout
        have HO := Lib.hid hout
        clear hout HB
        clear hk0
      all_goals
        refine wp_region_ext (by kernel_rfl) (by kernel_rfl) ?_
        repeat (go_big_quiet_step (first | (go_at_call 48; exact Calls.ext_same (Calls.val (validName_any _ _ hns) (vb h1))) | (go_at_call 49; exact Calls.ext_same (classNamed_any _ _ _ _ _ _ ((hRW.ext _).take_ _ (by omega)))) | (go_at_call 42; exact Calls.ext_same (Calls.val (inRange_any _ _ _ _) (vb h6)))))
        refine wpQuiet_nil ?_
        intro _ hw'
        obtain ⟨g, rfl⟩ := hw'
        have hg := hWle.trans (Le.ext W g)
        generalize W.ext g = W2 at *
        go_wp2
        first
          | (go_ret; exact ⟨ret_bool (by rw [HO.out]; rfl), hwr.trans hg⟩)
          | (go_roundw
             case rel => exact ⟨k + 1, by omega, by go_num, by rw [HO.out]; rfl, hle.trans hg⟩
             case measure => simp [intOf]; omega)
    · have HF : Hid (okTree xs = (decide ((1 : Int) ≤ xs.length) && decide ((xs.length : Int) ≤ 8))) := by show _ = _; rw [HR.out, okFrom_end hlt]
      go_wp2_with (go_at_call 42; refine (inRange_any _ _ _ _).mono ?_; rintro e w' ⟨rfl, rfl⟩)
      go_ret
      exact ⟨ret_bool HF.out.symm, hwr⟩
end

section
theorem grown_set (w : World) (b o : Nat) (u : Value) : w.grownBy (w.setCell ⟨b, o, none⟩ u) (some b) :=
  ⟨rfl, rfl, rfl, by simp [World.setCell], fun k _ hk => heap_setCell_other w ⟨b, o, none⟩ k u (fun e => hk (by simp [e]))⟩
theorem own_set {w : World} {base : Nat} {e : TypeId} {size n cap g b o : Nat} {xs : List Value} (h : w.ownsRow base e size (.slice (some ⟨g, 0, none⟩) n cap) n xs) (hb : g ≠ b) (u : Value) :
    (w.setCell ⟨b, o, none⟩ u).ownsRow base e size (.slice (some ⟨g, 0, none⟩) n cap) n xs := h.kept (grown_set w b o u) (.inr (by simp [Value.ownBlock]; exact hb))
theorem cell_set_same {w : World} {b o : Nat} {u v : Value} (h : w.cell? ⟨b, o, none⟩ = some u) : (w.setCell ⟨b, o, none⟩ v).cell? ⟨b, o, none⟩ = some v := World.cell?_setCell_same _ _ _ h
theorem cell_set_other {w : World} {b o b' o' : Nat} {v : Value} (h : b ≠ b' ∨ o ≠ o') : (w.setCell ⟨b, o, none⟩ v).cell? ⟨b', o', none⟩ = w.cell? ⟨b', o', none⟩ :=
  World.cell?_setCell_other _ _ _ _ (by intro e; injection e with e1 e2; rcases h with h | h <;> contradiction)
theorem own_mono {w : World} {base base' : Nat} {e : TypeId} {size n : Nat} {v : Value} {xs : List Value} (h : w.ownsRow base e size v n xs) (hb : base' ≤ base) : w.ownsRow base' e size v n xs := ⟨h.1, h.2.imp id (fun ⟨g, cap, cur, hv, hg0, rest⟩ => ⟨g, cap, cur, hv, Nat.le_trans hb hg0, rest⟩)⟩
theorem own_empty {w : World} {base g size : Nat} {e : TypeId} (hb : base ≤ w.heap.size) (hg : g = w.heap.size) : (w.alloc (.cells #[] e)).ownsRow base e size (.slice (some ⟨g, 0, none⟩) 0 0) 0 [] := by
  subst hg
  have h := World.ownsRow_lit (base := base) (e := e) (size := size) w #[] 0 hb (Nat.zero_le _) (by simp)
  simpa using h
theorem hp_new (w : World) (o : Obj) {k : Nat} (hk : k = w.heap.size) : (w.alloc o).heap[k]? = some o := by subst hk; exact heap_alloc_new w o
theorem hp_old (w : World) (o : Obj) {k : Nat} (hk : k < w.heap.size) : (w.alloc o).heap[k]? = w.heap[k]? := Below.heap_alloc w o k hk
end

section
theorem okFrom_mem {all : List Cls} : ∀ (m k : Nat), k + m = all.length → okFrom all k (all.drop k) = true → (1 ≤ all.length ∧ all.length ≤ 8) ∧ ∀ i (h : i < all.length), k ≤ i → badCls all i all[i] = false := by
  intro m
  induction m with
  | zero =>
    intro k hk h
    rw [okFrom_end (by omega)] at h
    simp at h
    exact ⟨by omega, fun i hi hki => by omega⟩
  | succ m ih =>
    intro k hk h
    rw [okFrom_at (by omega), Bool.and_eq_true] at h
    obtain ⟨h1, h2⟩ := h
    obtain ⟨hl, hr⟩ := ih (k + 1) (by omega) h2
    refine ⟨hl, fun i hi hki => ?_⟩
    by_cases e : i = k
    · subst e; simpa using h1
    · exact hr i hi (by omega)
/-- what a valid tree keeps to -/
structure Good (xs : List Cls) : Prop where
  lo : 1 ≤ xs.length
  hi : xs.length ≤ 8
  root : ∀ h : 0 < xs.length, xs[0].parent = -1
  par : ∀ i (h : i < xs.length), 0 < i → 0 ≤ xs[i].parent ∧ xs[i].parent ≤ (i : Int) - 1
  name : ∀ i (h : i < xs.length), okName xs[i].name = true
  diff : ∀ i (h : i < xs.length), findN (xs.take i) xs[i].name 0 < 0
theorem good_of {xs : List Cls} (h : okTree xs = true) : Good xs := by
  obtain ⟨⟨h1, h2⟩, hb⟩ := okFrom_mem (all := xs) xs.length 0 (by omega) (by simpa [okTree] using h)
  have hx : ∀ i (h : i < xs.length), okName xs[i].name = true ∧ findN (xs.take i) xs[i].name 0 < 0 ∧ (i = 0 → xs[i].parent = -1) ∧ (0 < i → 0 ≤ xs[i].parent ∧ xs[i].parent ≤ (i : Int) - 1) := by
    intro i hi
    have := hb i hi (Nat.zero_le _)
    unfold badCls at this
    simp only [Bool.or_eq_false_iff, Bool.not_eq_false', Bool.and_eq_false_iff, decide_eq_false_iff_not] at this
    obtain ⟨⟨⟨a, b⟩, c⟩, d⟩ := this
    refine ⟨a, by omega, fun e => ?_, fun e => ?_⟩
    · subst e
      rcases c with c | c
      · simp at c
      · simpa [bne] using c
    · rcases d with d | d
      · omega
      · simpa using d
  exact ⟨h1, h2, fun h => (hx 0 h).2.2.1 rfl, fun i h => (hx i h).2.2.2, fun i h => (hx i h).1, fun i h => (hx i h).2.1⟩
theorem Good.par_le {xs : List Cls} (g : Good xs) {i : Nat} (h : i < xs.length) : -1 ≤ xs[i].parent ∧ xs[i].parent ≤ (i : Int) - 1 := by
  by_cases e : i = 0
  · subst e; have := g.root h; omega
  · have := g.par i h (by omega); omega

def parOf (xs : List Cls) (a : Int) : Int := match xs[a.toNat]? with | some c => c.parent | none => -1
def aboveL (xs : List Cls) (a : Int) : List Int := if 0 ≤ a then a :: (if parOf xs a < a then aboveL xs (parOf xs a) else []) else []
termination_by (a + 1).toNat
decreasing_by omega
def isAL (xs : List Cls) (a b : Int) : Bool := hasI (aboveL xs a) b
theorem parOf_at {xs : List Cls} {i : Nat} (h : i < xs.length) : parOf xs (i : Int) = xs[i].parent := by
  unfold parOf; rw [Int.toNat_natCast, List.getElem?_eq_getElem h]
theorem aboveL_neg {xs : List Cls} {a : Int} (h : a < 0) : aboveL xs a = [] := by rw [aboveL, if_neg (by omega)]
theorem aboveL_at {xs : List Cls} (g : Good xs) {i : Nat} (h : i < xs.length) : aboveL xs (i : Int) = (i : Int) :: aboveL xs xs[i].parent := by
  have hp := g.par_le h
  rw [aboveL, if_pos (by omega), parOf_at h, if_pos (by omega)]
theorem isAL_at {xs : List Cls} (g : Good xs) {i : Nat} (h : i < xs.length) (b : Int) : isAL xs (i : Int) b = ((i : Int) == b || isAL xs xs[i].parent b) := by
  unfold isAL; rw [aboveL_at g h]; rfl
theorem isAL_neg {xs : List Cls} {a : Int} (h : a < 0) (b : Int) : isAL xs a b = false := by unfold isAL; rw [aboveL_neg h]; rfl
/-- all that is above lies in the tree -/
theorem aboveL_mem {xs : List Cls} (g : Good xs) : ∀ (m : Nat) (a : Int), (a + 1).toNat = m → a < xs.length → ∀ x ∈ aboveL xs a, 0 ≤ x ∧ x ≤ a := by
  intro m
  induction m using Nat.strongRecOn with
  | _ m ih =>
    intro a hm ha x hx
    by_cases h : a < 0
    · rw [aboveL_neg h] at hx; cases hx
    · obtain ⟨i, rfl⟩ := Int.eq_ofNat_of_zero_le (by omega : 0 ≤ a)
      have hi : i < xs.length := by omega
      rw [aboveL_at g hi] at hx
      have hp := g.par_le hi
      rcases List.mem_cons.1 hx with rfl | hx
      · omega
      · have := ih (xs[i].parent + 1).toNat (by omega) _ rfl (by omega) x hx
        omega
theorem aboveL_len {xs : List Cls} (g : Good xs) : ∀ (m : Nat) (a : Int), (a + 1).toNat = m → a < xs.length → (aboveL xs a).length ≤ m := by
  intro m
  induction m using Nat.strongRecOn with
  | _ m ih =>
    intro a hm ha
    by_cases h : a < 0
    · rw [aboveL_neg h]; simp
    · obtain ⟨i, rfl⟩ := Int.eq_ofNat_of_zero_le (by omega : 0 ≤ a)
      have hi : i < xs.length := by omega
      rw [aboveL_at g hi]
      have hp := g.par_le hi
      have := ih (xs[i].parent + 1).toNat (by omega) _ rfl (by omega)
      simp; omega

def hasK (xs : List Cls) (a : Int) : Bool := decide (0 ≤ a) && decide (a ≤ (xs.length : Int) - 1)

theorem hasClass_any (A : Option Addr) (n cap : Nat) (xs : List Cls) (a : Int) (w : World) (hR : Sl w A n cap xs) :
    Calls Tryd.prog 67 #[.agg #[.slice A n cap], .int .i64 a] w fun e w' => e = .returned (.bool (hasK xs a)) ∧ Le w w' := by
  obtain rfl := hR.len
  have hm := hR.n_le
  go_enter Tryd.func67, Tryd.ntmps67
  go_wp2_with (go_at_call 42; refine (inRange_any _ _ _ _).mono ?_; rintro e w' ⟨rfl, rfl⟩)
  go_ret
  exact ⟨rfl, Le.new w _⟩

theorem intInfo : (Tryd.prog.info? 3).map (fun i => (i.zero, i.size, i.bytes)) = some (some (.int .i64 0), 1, 8) := by kernel_rfl

end

section
theorem findN_spec (s : ByteArray) : ∀ (L : List Cls) (j : Int), (findN L s j = -1 ∧ ∀ i (h : i < L.length), L[i].name ≠ s) ∨ ∃ i, ∃ h : i < L.length, findN L s j = j + i ∧ L[i].name = s ∧ ∀ k (hk : k < i), (L[k]'(by omega)).name ≠ s
  | [], j => .inl ⟨rfl, fun i h => absurd h (by simp)⟩
  | c :: r, j => by
    unfold findN
    by_cases h : c.name = s
    · rw [if_pos h]
      exact .inr ⟨0, by simp, by simp, h, fun k hk => absurd hk (by omega)⟩
    · rw [if_neg h]
      rcases findN_spec s r (j + 1) with ⟨h1, h2⟩ | ⟨i, hi, h1, h2, h3⟩
      · refine .inl ⟨h1, fun i hi => ?_⟩
        cases i with
        | zero => exact h
        | succ i => exact h2 i (by simpa using hi)
      · refine .inr ⟨i + 1, by simpa using hi, by rw [h1]; omega, h2, fun k hk => ?_⟩
        cases k with
        | zero => exact h
        | succ k => exact h3 k (by omega)
theorem names_ne {xs : List Cls} (g : Good xs) {i k : Nat} (hik : i < k) (hk : k < xs.length) : (xs[i]'(by omega)).name ≠ xs[k].name := by
  have h := g.diff k hk
  rcases findN_spec xs[k].name (xs.take k) 0 with ⟨_, h2⟩ | ⟨j, hj, h1, _, _⟩
  · have := h2 i (by rw [List.length_take]; omega)
    rwa [List.getElem_take] at this
  · omega
theorem findN_here {xs : List Cls} (g : Good xs) {k : Nat} (hk : k < xs.length) : findN xs xs[k].name 0 = k := by
  rcases findN_spec xs[k].name xs 0 with ⟨_, h2⟩ | ⟨j, hj, h1, h2, h3⟩
  · exact absurd rfl (h2 k hk)
  · rcases Nat.lt_trichotomy j k with h | h | h
    · exact absurd h2 (names_ne g h hk)
    · omega
    · exact absurd rfl (h3 k h)
theorem findN_hit {xs : List Cls} {s : ByteArray} (h : 0 ≤ findN xs s 0) : ∃ i, ∃ hi : i < xs.length, findN xs s 0 = i ∧ xs[i].name = s := by
  rcases findN_spec s xs 0 with ⟨h1, _⟩ | ⟨j, hj, h1, h2, _⟩
  · omega
  · exact ⟨j, hj, by omega, h2⟩
end

section
/-- the bytes of a text, and the text of bytes -/
def bl (s : ByteArray) : List UInt8 := s.data.toList
def tb (l : List UInt8) : ByteArray := ⟨l.toArray⟩
theorem tb_bl (s : ByteArray) : tb (bl s) = s := rfl
theorem bl_tb (l : List UInt8) : bl (tb l) = l := rfl
theorem bl_app (a b : ByteArray) : bl (a ++ b) = bl a ++ bl b := by
  unfold bl; rw [ByteArray.data_append, Array.toList_append]
theorem bl_len (s : ByteArray) : (bl s).length = s.size := rfl
theorem bl_inj {a b : ByteArray} (h : bl a = bl b) : a = b := by rw [← tb_bl a, ← tb_bl b, h]
theorem bl_nil : bl ByteArray.empty = [] := rfl

/-- cuts at a byte -/
theorem indexByte_skip {c : UInt8} : ∀ {a : List UInt8}, c ∉ a → ∀ r, Lib.indexByte (a ++ c :: r) c = a.length
  | [], _, r => by simp [Lib.indexByte]
  | x :: a, h, r => by
    have hx : (x == c) = false := by
      rw [beq_eq_false_iff_ne]; rintro rfl; exact h (by simp)
    have ih := indexByte_skip (a := a) (fun q => h (List.mem_cons_of_mem _ q)) r
    show Lib.indexByte (x :: (a ++ c :: r)) c = _
    rw [Lib.indexByte, ih, hx]
    have : ((a.length : Int) == -1) = false := by rw [beq_eq_false_iff_ne]; omega
    rw [this]
    simp
theorem indexByte_miss {c : UInt8} : ∀ {a : List UInt8}, c ∉ a → Lib.indexByte a c = -1
  | [], _ => rfl
  | x :: a, h => by
    have hx : (x == c) = false := by
      rw [beq_eq_false_iff_ne]; rintro rfl; exact h (by simp)
    rw [Lib.indexByte, indexByte_miss (a := a) (fun q => h (List.mem_cons_of_mem _ q)), hx]
    rfl
theorem cut_line {c : UInt8} {a : List UInt8} (h : c ∉ a) (r : List UInt8) : Lib.cut (a ++ c :: r) [c] = (a, r, true) := by
  unfold Lib.cut
  rw [Lib.index_one, indexByte_skip h r, if_pos (by omega)]
  simp
theorem cut_one {c : UInt8} {a : List UInt8} (h : c ∉ a) : Lib.cut a [c] = (a, [], false) := by
  unfold Lib.cut
  rw [Lib.index_one, indexByte_miss h, if_neg (by omega)]
/-- a text is one piece, or one ahead of the byte and what is behind it -/
theorem split_or (c : UInt8) : ∀ (s : List UInt8), (c ∉ s) ∨ ∃ a r, s = a ++ c :: r ∧ c ∉ a
  | [] => .inl (by simp)
  | x :: s => by
    by_cases hx : x = c
    · exact .inr ⟨[], s, by rw [hx]; rfl, by simp⟩
    · rcases split_or c s with h | ⟨a, r, e, h⟩
      · left; intro hm
        rcases List.mem_cons.1 hm with e | e
        · exact hx e.symm
        · exact h e
      · right
        refine ⟨x :: a, r, by rw [e]; rfl, fun hm => ?_⟩
        rcases List.mem_cons.1 hm with e2 | e2
        · exact hx e2.symm
        · exact h e2
theorem cut_shorter (c : UInt8) {s : List UInt8} (h : s ≠ []) : (Lib.cut s [c]).2.1.length < s.length := by
  rcases split_or c s with h1 | ⟨a, r, e, h1⟩
  · rw [cut_one h1]
    show 0 < s.length
    exact List.length_pos_iff.2 h
  · rw [e, cut_line h1]
    simp; omega
theorem cut_fst_len (c : UInt8) (s : List UInt8) : (Lib.cut s [c]).1.length ≤ s.length ∧ (Lib.cut s [c]).2.1.length ≤ s.length := by
  rcases split_or c s with h1 | ⟨a, r, e, h1⟩
  · rw [cut_one h1]; exact ⟨Nat.le_refl _, Nat.zero_le _⟩
  · rw [e, cut_line h1]; simp; omega
/-- the pieces between the bytes of a kind -/
def splitL (c : UInt8) : List UInt8 → List (List UInt8)
  | [] => [[]]
  | x :: r => if x = c then [] :: splitL c r else
    match splitL c r with
    | [] => [[x]]
    | h :: t => (x :: h) :: t
theorem splitL_ne (c : UInt8) (s : List UInt8) : splitL c s ≠ [] := by
  cases s with
  | nil => simp [splitL]
  | cons x r =>
    rw [splitL]
    split
    · simp
    · split <;> simp
theorem splitL_skip {c : UInt8} : ∀ {a : List UInt8}, c ∉ a → ∀ s, ∃ h t, splitL c s = h :: t ∧ splitL c (a ++ s) = (a ++ h) :: t
  | [], _, s => by
    cases h : splitL c s with
    | nil => exact absurd h (splitL_ne c s)
    | cons x r => exact ⟨x, r, rfl, by simpa using h⟩
  | x :: r, hn, s => by
    have hx : x ≠ c := fun e => hn (by simp [e])
    obtain ⟨h, t, e1, e2⟩ := splitL_skip (a := r) (fun hq => hn (List.mem_cons_of_mem _ hq)) s
    refine ⟨h, t, e1, ?_⟩
    show splitL c (x :: (r ++ s)) = _
    rw [splitL, if_neg hx, e2]; rfl
theorem splitL_line {c : UInt8} {a : List UInt8} (h : c ∉ a) (s : List UInt8) : splitL c (a ++ c :: s) = a :: splitL c s := by
  obtain ⟨x, t, e1, e2⟩ := splitL_skip h (c :: s)
  rw [splitL, if_pos rfl] at e1
  injection e1 with e1 e3
  rw [e2, ← e1, ← e3]; simp
theorem splitL_one {c : UInt8} {a : List UInt8} (h : c ∉ a) : splitL c a = [a] := by
  obtain ⟨x, t, e1, e2⟩ := splitL_skip h []
  simp [splitL] at e1
  rw [e1.1, e1.2] at e2
  simpa using e2
theorem splitL_len (c : UInt8) (s : List UInt8) : (splitL c s).length = s.count c + 1 := by
  induction s with
  | nil => rfl
  | cons x r ih =>
    rw [splitL]
    by_cases hx : x = c
    · subst hx
      rw [if_pos rfl, List.length_cons, ih, List.count_cons_self]
    · rw [if_neg hx]
      have e : (x :: r).count c = r.count c := by rw [List.count_cons_of_ne hx]
      rw [e, ← ih]
      cases h : splitL c r with
      | nil => exact absurd h (splitL_ne c r)
      | cons y t => rfl

/-- the line of a class, the lines of several, the text of a tree -/
def lnB (xs : List Cls) (c : Cls) : List UInt8 := cond (decide (0 ≤ c.parent)) (bl c.name ++ 32 :: bl (match xs[c.parent.toNat]? with | some d => d.name | none => ByteArray.empty)) (bl c.name)
def txB (xs : List Cls) : List Cls → List UInt8
  | [] => []
  | c :: r => lnB xs c ++ 10 :: txB xs r
def treeB (xs : List Cls) : List UInt8 := txB xs xs
theorem txB_at {xs ys : List Cls} {k : Nat} (h : k < ys.length) : txB xs (ys.drop k) = lnB xs ys[k] ++ 10 :: txB xs (ys.drop (k + 1)) := by
  rw [List.drop_eq_getElem_cons h]; rfl
theorem txB_end {xs ys : List Cls} {k : Nat} (h : ¬ k < ys.length) : txB xs (ys.drop k) = [] := by
  rw [List.drop_eq_nil_of_le (by omega)]; rfl
theorem lowers_rng : ∀ (l : List UInt8), lowers l = true → ∀ x ∈ l, 97 ≤ x.toNat
  | [], _, x, hx => by simp at hx
  | c :: r, h, x, hx => by
    unfold lowers at h
    simp only [Bool.and_eq_true, decide_eq_true_eq] at h
    rcases List.mem_cons.1 hx with rfl | hx
    · exact h.1.1
    · exact lowers_rng r h.2 x hx
theorem name_rng {s : ByteArray} (h : okName s = true) : (∀ x ∈ bl s, 97 ≤ x.toNat) ∧ 1 ≤ (bl s).length ∧ (bl s).length ≤ 6 := by
  unfold okName at h
  simp only [Bool.and_eq_true, decide_eq_true_eq] at h
  refine ⟨lowers_rng _ h.1.1, ?_, ?_⟩
  · rw [bl_len]; have := h.1.2; omega
  · rw [bl_len]; have := h.2; omega
theorem not_mem_name {s : ByteArray} (h : okName s = true) {c : UInt8} (hc : c.toNat < 97) : c ∉ bl s := fun hm => by
  have := (name_rng h).1 c hm; omega
/-- the line of a class of a valid tree -/
theorem lnB_root {xs : List Cls} (g : Good xs) (h : 0 < xs.length) : lnB xs xs[0] = bl xs[0].name := by
  unfold lnB; rw [g.root h]; rfl
theorem lnB_up {xs : List Cls} (g : Good xs) {k : Nat} (h : k < xs.length) (h0 : 0 < k) : ∃ p : Nat, ∃ hp : p < k, xs[k].parent = (p : Int) ∧ lnB xs xs[k] = bl xs[k].name ++ 32 :: bl (xs[p]'(by omega)).name := by
  have a := g.par k h h0
  obtain ⟨p, hp⟩ := Int.eq_ofNat_of_zero_le a.1
  refine ⟨p, by omega, hp, ?_⟩
  unfold lnB
  rw [decide_eq_true a.1, hp, Int.toNat_natCast, List.getElem?_eq_getElem (by omega)]
  rfl
theorem lnB_nl {xs : List Cls} (g : Good xs) {k : Nat} (h : k < xs.length) : (10 : UInt8) ∉ lnB xs xs[k] ∧ (lnB xs xs[k]).length ≤ 13 := by
  have hn := g.name k h
  have hl := (name_rng hn).2.2
  rcases Nat.eq_zero_or_pos k with h0 | h0
  · subst h0
    rw [lnB_root g h]
    exact ⟨not_mem_name hn (by decide), by omega⟩
  · obtain ⟨p, hp, _, e⟩ := lnB_up g h h0
    have hn2 := g.name p (by omega)
    have hl2 := (name_rng hn2).2.2
    rw [e]
    refine ⟨fun hm => ?_, by simp; omega⟩
    rcases List.mem_append.1 hm with hm | hm
    · exact not_mem_name hn (by decide) hm
    · rcases List.mem_cons.1 hm with e2 | hm
      · exact absurd e2 (by decide)
      · exact not_mem_name hn2 (by decide) hm
theorem txB_len {xs : List Cls} (g : Good xs) : ∀ (m k : Nat), k + m = xs.length → (txB xs (xs.drop k)).length ≤ 14 * m := by
  intro m
  induction m with
  | zero => intro k hk; rw [txB_end (by omega)]; simp
  | succ m ih =>
    intro k hk
    have := ih (k + 1) (by omega)
    have h2 := (lnB_nl g (k := k) (by omega)).2
    rw [txB_at (by omega)]
    simp; omega
theorem treeB_len {xs : List Cls} (g : Good xs) : (treeB xs).length ≤ 112 := by
  have := txB_len g xs.length 0 (by omega)
  have := g.hi
  rw [List.drop_zero] at *
  unfold treeB; omega
/-- trees of texts: the program's -/
def pcI (acc : List Cls) (line : List UInt8) : Cls := ⟨tb (Lib.cut line [32]).1, findN acc (tb (Lib.cut line [32]).2.1) 0⟩
def pI : Nat → List UInt8 → List Cls → Option (List Cls)
  | 0, _, acc => some acc
  | m + 1, rest, acc => if rest = [] then some acc else if acc.length = 8 then none else pI m (Lib.cut rest [10]).2.1 (acc ++ [pcI acc (Lib.cut rest [10]).1])
/-- trees of texts: the model's -/
def pcS (acc : List Cls) (line : List UInt8) : Cls :=
  match splitL 32 line with
  | [a, b] => ⟨tb a, findN acc (tb b) 0⟩
  | a :: _ => ⟨tb a, -1⟩
  | [] => ⟨ByteArray.empty, -1⟩
def pS : List (List UInt8) → List Cls → List Cls
  | [], acc => acc
  | [_], acc => acc
  | l :: r, acc => pS r (acc ++ [pcS acc l])
theorem findN_take {xs : List Cls} (g : Good xs) {p k : Nat} (hp : p < k) (hk : k ≤ xs.length) : findN (xs.take k) (xs[p]'(by omega)).name 0 = (p : Int) := by
  rcases findN_spec (xs[p]'(by omega)).name (xs.take k) 0 with ⟨_, h2⟩ | ⟨j, hj, h1, h2, h3⟩
  · exact absurd (by rw [List.getElem_take]) (h2 p (by rw [List.length_take]; omega))
  · rw [List.length_take] at hj
    rw [List.getElem_take] at h2
    have e := findN_here g (k := p) (by omega)
    have e2 := findN_here g (k := j) (by omega)
    rw [h2] at e2
    rw [e] at e2
    rw [h1]; omega
theorem pcI_line {xs : List Cls} (g : Good xs) {k : Nat} (h : k < xs.length) : pcI (xs.take k) (lnB xs xs[k]) = xs[k] ∧ pcS (xs.take k) (lnB xs xs[k]) = xs[k] := by
  have hn := g.name k h
  have h32 := not_mem_name hn (c := 32) (by decide)
  rcases Nat.eq_zero_or_pos k with h0 | h0
  · subst h0
    rw [lnB_root g h]
    unfold pcI pcS
    rw [cut_one h32, splitL_one h32]
    have hr := g.root h
    constructor
    · show (⟨tb (bl xs[0].name), findN (xs.take 0) (tb []) 0⟩ : Cls) = xs[0]
      rw [tb_bl, List.take_zero]
      show (⟨xs[0].name, -1⟩ : Cls) = xs[0]
      rw [← hr]
    · show (⟨tb (bl xs[0].name), -1⟩ : Cls) = xs[0]
      rw [tb_bl, ← hr]
  · obtain ⟨p, hp, e, e2⟩ := lnB_up g h h0
    have hn2 := g.name p (by omega)
    have h32b := not_mem_name hn2 (c := 32) (by decide)
    have hf := findN_take g hp (Nat.le_of_lt h)
    rw [e2]
    unfold pcI pcS
    rw [cut_line h32, splitL_line h32, splitL_one h32b]
    constructor
    · show (⟨tb (bl xs[k].name), findN (xs.take k) (tb (bl _)) 0⟩ : Cls) = xs[k]
      rw [tb_bl, tb_bl, hf, ← e]
    · show (⟨tb (bl xs[k].name), findN (xs.take k) (tb (bl _)) 0⟩ : Cls) = xs[k]
      rw [tb_bl, tb_bl, hf, ← e]
theorem pI_tree {xs : List Cls} (g : Good xs) : ∀ (m k : Nat), k + m = xs.length → ∀ f, m < f → pI f (txB xs (xs.drop k)) (xs.take k) = some xs := by
  intro m
  induction m with
  | zero =>
    intro k hk f hf
    obtain ⟨f, rfl⟩ : ∃ q, f = q + 1 := ⟨f - 1, by omega⟩
    rw [txB_end (by omega), pI, if_pos rfl, List.take_of_length_le (by omega)]
  | succ m ih =>
    intro k hk f hf
    obtain ⟨f, rfl⟩ : ∃ q, f = q + 1 := ⟨f - 1, by omega⟩
    have h : k < xs.length := by omega
    have := g.hi
    rw [txB_at h, pI, if_neg (by simp), if_neg (by rw [List.length_take]; omega), cut_line (lnB_nl g h).1]
    show pI f (txB xs (xs.drop (k + 1))) (xs.take k ++ [pcI (xs.take k) (lnB xs xs[k])]) = _
    rw [(pcI_line g h).1, ← List.take_succ_eq_append_getElem h]
    exact ih (k + 1) (by omega) f (by omega)
theorem pS_tree {xs : List Cls} (g : Good xs) : ∀ (m k : Nat), k + m = xs.length → pS (splitL 10 (txB xs (xs.drop k))) (xs.take k) = xs := by
  intro m
  induction m with
  | zero =>
    intro k hk
    rw [txB_end (by omega)]
    show pS [[]] _ = _
    rw [pS, List.take_of_length_le (by omega)]
  | succ m ih =>
    intro k hk
    have h : k < xs.length := by omega
    rw [txB_at h, splitL_line (lnB_nl g h).1]
    have := ih (k + 1) (by omega)
    cases e : splitL 10 (txB xs (xs.drop (k + 1))) with
    | nil => exact absurd e (splitL_ne _ _)
    | cons a r =>
      rw [e] at this
      rw [pS, (pcI_line g h).2, ← List.take_succ_eq_append_getElem h]
      · exact this
      · simp
/-- the tree of a text, and whether there is one -/
def ptT (s : ByteArray) : List Cls := pS (splitL 10 (bl s)) []
def ptOk (s : ByteArray) : Bool := okTree (ptT s) && decide (treeB (ptT s) = bl s)
def ptX (s : ByteArray) : List Cls := cond (ptOk s) (ptT s) []
def ptI (s : ByteArray) : Option (List Cls) := pI (s.size + 1) (bl s) []
theorem pt_good {s : ByteArray} {xs : List Cls} (h1 : okTree xs = true) (h2 : treeB xs = bl s) : ptT s = xs ∧ ptI s = some xs := by
  have g := good_of h1
  have a := pS_tree g xs.length 0 (by omega)
  have hl : xs.length < s.size + 1 := by
    have hx : ∀ (m k : Nat), k + m = xs.length → m ≤ (txB xs (xs.drop k)).length := by
      intro m
      induction m with
      | zero => intro k _; omega
      | succ m ih => intro k hk; have := ih (k + 1) (by omega); rw [txB_at (by omega)]; simp; omega
    have := hx xs.length 0 (by omega)
    rw [List.drop_zero] at this
    have e : (txB xs xs).length = s.size := by
      show (treeB xs).length = s.size
      rw [h2]; rfl
    omega
  have b := pI_tree g xs.length 0 (by omega) (s.size + 1) hl
  rw [List.drop_zero, List.take_zero] at a b
  unfold ptT ptI
  rw [← h2]
  exact ⟨a, b⟩
/-- the program's way gives the same -/
theorem pt_none {s : ByteArray} (h : ptI s = none) : ptOk s = false := by
  cases e : ptOk s
  · rfl
  · unfold ptOk at e
    simp only [Bool.and_eq_true, decide_eq_true_eq] at e
    have := (pt_good e.1 e.2).2
    rw [h] at this; cases this
theorem pt_some {s : ByteArray} {xs : List Cls} (h : ptI s = some xs) : (okTree xs && decide (treeB xs = bl s)) = ptOk s ∧ (ptOk s = true → xs = ptX s) := by
  cases e : ptOk s
  · refine ⟨?_, fun h => by cases h⟩
    cases e2 : (okTree xs && decide (treeB xs = bl s))
    · rfl
    · simp only [Bool.and_eq_true, decide_eq_true_eq] at e2
      have a := (pt_good e2.1 e2.2).1
      unfold ptOk at e
      rw [a, e2.1, decide_eq_true e2.2] at e
      cases e
  · have e' := e
    unfold ptOk at e
    simp only [Bool.and_eq_true, decide_eq_true_eq] at e
    have b := (pt_good e.1 e.2).2
    rw [h] at b
    injection b with b
    subst b
    refine ⟨by rw [e.1, decide_eq_true e.2]; rfl, fun _ => by unfold ptX; rw [e']; rfl⟩
end

section
def dg (n : Nat) : UInt8 := UInt8.ofNat (48 + n)
def numL (n : Nat) : List UInt8 := if n < 10 then [dg n] else if n < 100 then [dg (n / 10), dg (n % 10)] else [dg (n / 100), dg (n / 10 % 10), dg (n % 10)]
def dv (l : List UInt8) : Nat := l.foldl (fun a b => 10 * a + (b.toNat - 48)) 0
def isDg (b : UInt8) : Bool := decide (48 ≤ b.toNat) && decide (b.toNat ≤ 57)
theorem numL_dg : ∀ n : Fin 1000, (numL n.1).all isDg = true := by decide +kernel
theorem numL_sz : ∀ n : Fin 1000, 1 ≤ (numL n.1).length ∧ (numL n.1).length ≤ 3 := by decide +kernel
theorem numL_sz2 : ∀ n : Fin 100, (numL n.1).length ≤ 2 := by decide +kernel
theorem numL_dv : ∀ n : Fin 1000, dv (numL n.1) = n.1 := by decide +kernel
theorem numL_pre : ∀ n : Fin 1000, dv ((numL n.1).take 1) ≤ 9 ∧ ((numL n.1).length = 3 → dv ((numL n.1).take 2) ≤ 99) := by decide +kernel
theorem numL_atoi : ∀ n : Fin 1000, Lib.atoiAll (numL n.1) = .ok (n.1 : Int) := by decide +kernel
theorem isDg_iff {b : UInt8} : isDg b = true ↔ 48 ≤ b.toNat ∧ b.toNat ≤ 57 := by unfold isDg; simp
theorem numL_not {n : Nat} (h : n < 1000) {c : UInt8} (hc : c.toNat < 48 ∨ 57 < c.toNat) : c ∉ numL n := fun hm => by
  have := List.all_eq_true.1 (numL_dg ⟨n, h⟩) c hm
  have := isDg_iff.1 this
  omega
theorem numL_inj {a b : Nat} (ha : a < 1000) (hb : b < 1000) (h : numL a = numL b) : a = b := by
  have h1 := numL_dv ⟨a, ha⟩
  have h2 := numL_dv ⟨b, hb⟩
  dsimp only at h1 h2
  rw [← h1, ← h2, h]
/-- what strconv.Atoi answers ahead of its error -/
def atI (l : List UInt8) : Int := match Lib.atoiAll l with
  | .ok v => v
  | .range => Lib.atoiSat l
  | _ => 0
theorem atI_num {n : Nat} (h : n < 1000) : atI (numL n) = n := by
  unfold atI; rw [numL_atoi ⟨n, h⟩]
theorem atI_rng (l : List UInt8) : -9223372036854775808 ≤ atI l ∧ atI l ≤ 9223372036854775807 := by
  unfold atI
  cases h : Lib.atoiAll l with
  | ok v => exact Lib.atoiAll_bounds h
  | range => exact Lib.atoiSat_bounds l
  | _ => exact ⟨(by decide : (-9223372036854775808 : Int) ≤ 0), (by decide : (0 : Int) ≤ 9223372036854775807)⟩
/-- what the model reads of at most so many: a number that is written so, or -1 -/
def rdN (m : Nat) (l : List UInt8) : Int := if numL (dv l) = l ∧ dv l < m then dv l else -1
theorem rdN_num {m n : Nat} (h : n < m) (hm : m ≤ 1000) : rdN m (numL n) = n := by
  unfold rdN
  have e : dv (numL n) = n := numL_dv ⟨n, by omega⟩
  rw [e, if_pos ⟨rfl, h⟩]
theorem rdN_rng {m : Nat} (hm : m ≤ 1000) (l : List UInt8) : -1 ≤ rdN m l ∧ rdN m l ≤ 999 := by
  unfold rdN
  split
  · rename_i h; omega
  · omega
theorem rdN_no {m : Nat} {l : List UInt8} (h : ∀ n, n < m → numL n ≠ l) : rdN m l = -1 := by
  unfold rdN
  rw [if_neg]
  rintro ⟨h1, h2⟩
  exact h _ h2 h1
/-- words: what lies between spaces, but for nothing at the end -/
def wd : Nat → List UInt8 → List (List UInt8)
  | 0, _ => []
  | n + 1, s => if s = [] then [] else (Lib.cut s [32]).1 :: wd n (Lib.cut s [32]).2.1
theorem wd_more : ∀ (n : Nat) (s : List UInt8), s.length ≤ n → wd n s = wd s.length s
  | 0, s, h => by
    have : s = [] := List.length_eq_zero_iff.1 (by omega)
    subst this; rfl
  | n + 1, s, h => by
    cases s with
    | nil => rfl
    | cons x r =>
      have hs := cut_shorter 32 (s := x :: r) (by simp)
      rw [List.length_cons] at h hs ⊢
      rw [wd, wd, if_neg (by simp), if_neg (by simp)]
      rw [wd_more n _ (by omega), wd_more r.length _ (by omega)]
def words (s : List UInt8) : List (List UInt8) := wd s.length s
theorem words_nil : words [] = [] := rfl
theorem words_step {s : List UInt8} (h : s ≠ []) : words s = (Lib.cut s [32]).1 :: words (Lib.cut s [32]).2.1 := by
  unfold words
  cases s with
  | nil => exact absurd rfl h
  | cons x r =>
    have hs := cut_shorter 32 (s := x :: r) (by simp)
    rw [List.length_cons] at hs ⊢
    rw [wd, if_neg (by simp), wd_more _ _ (by omega)]
/-- joined with spaces -/
def jn : List (List UInt8) → List UInt8
  | [] => []
  | [a] => a
  | a :: b :: r => a ++ 32 :: jn (b :: r)
theorem jn_cons {a : List UInt8} {L : List (List UInt8)} (h : L ≠ []) : jn (a :: L) = a ++ 32 :: jn L := by
  cases L with
  | nil => exact absurd rfl h
  | cons b r => rfl
theorem jn_snoc {L : List (List UInt8)} (h : L ≠ []) (a : List UInt8) : jn (L ++ [a]) = jn L ++ 32 :: a := by
  induction L with
  | nil => exact absurd rfl h
  | cons x r ih =>
    cases r with
    | nil => rfl
    | cons y q =>
      show jn (x :: (y :: q ++ [a])) = _
      rw [jn_cons (a := x) (L := y :: q ++ [a]) (by simp), ih (by simp), jn_cons (a := x) (L := y :: q) (by simp), List.append_assoc]; rfl
theorem words_jn : ∀ {L : List (List UInt8)}, (∀ a ∈ L, a ≠ [] ∧ (32 : UInt8) ∉ a) → words (jn L) = L
  | [], _ => rfl
  | [a], h => by
    obtain ⟨h1, h2⟩ := h a (by simp)
    show words a = _
    rw [words_step h1, cut_one h2]; rfl
  | a :: b :: r, h => by
    obtain ⟨h1, h2⟩ := h a (by simp)
    have ih := words_jn (L := b :: r) (fun x hx => h x (List.mem_cons_of_mem _ hx))
    rw [jn_cons (by simp), words_step (by simp), cut_line h2, ih]
theorem split_jn : ∀ {L : List (List UInt8)}, L ≠ [] → (∀ a ∈ L, (32 : UInt8) ∉ a) → splitL 32 (jn L) = L
  | [], h, _ => absurd rfl h
  | [a], _, h => splitL_one (h a (by simp))
  | a :: b :: r, _, h => by
    have ih := split_jn (L := b :: r) (by simp) (fun x hx => h x (List.mem_cons_of_mem _ hx))
    rw [jn_cons (by simp), splitL_line (h a (by simp)), ih]
theorem jn_nil {L : List (List UInt8)} (h : ∀ a ∈ L, a ≠ []) : jn L = [] ↔ L = [] := by
  constructor
  · intro e
    cases L with
    | nil => rfl
    | cons a r =>
      have ha := h a (by simp)
      cases r with
      | nil => exact absurd e ha
      | cons b q => rw [jn_cons (by simp)] at e; simp at e
  · rintro rfl; rfl
end
end Go.Proofs.YtkcnjoikdalgjaaDoor
