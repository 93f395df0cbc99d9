/- one text of KB, TkM, TyStr, TkI, StA, XkL, TyLine, TyFault, PC, OP, HpA -/
import Derived.Test.YtkcnjoikdalgjaaDoorDp1
import Derived.Test.YtkcnjoikdalgjaaDoorShelf
import Derived.Lib.ItoaMem
import Derived.Lib.Join
namespace Go.Proofs.YtkcnjoikdalgjaaDoor
open Go.RowKit
set_option linter.unusedVariables false
section
/-- to stop a walk at a builtin and look: go_wp2_with (at_builtin; refine of_stop ?_); unfold Stop -/
def Stop (p : Prop) : Prop := p
theorem of_stop {p : Prop} (h : Stop p) : p := h

theorem own_form {w : World} {base size n : Nat} {e : TypeId} {v : Value} {xs : List Value} (h : w.ownsRow base e size v n xs) : ∃ A c, v = .slice A n c := by
  rcases h.2 with ⟨h, h0⟩ | ⟨g, c, _, h, _⟩
  · exact ⟨none, 0, by rw [h0]; exact h⟩
  · exact ⟨_, c, h⟩
theorem gx_le {g : Option Nat} {a b c : World} (h : a.grownBy b g) (k : Le b c) : a.grownBy c g :=
  ⟨k.os.trans h.os, k.tape.trans h.tape, k.output.trans h.output, Nat.le_trans h.size k.size, fun i hi hne => (Below.block k i (Nat.lt_of_lt_of_le hi h.size)).trans (h.block i hi hne)⟩
theorem gx_set {g o : Nat} {a b : World} (h : a.grownBy b (some g)) (u : Value) : a.grownBy (b.setCell ⟨g, o, none⟩ u) (some g) :=
  ⟨h.os, h.tape, h.output, by simpa [World.setCell] using h.size, fun i hi hne => (heap_setCell_other b ⟨g, o, none⟩ i u (fun e => hne (by rw [e]))).trans (h.block i hi hne)⟩
theorem gx_from {g : Option Nat} {a b : World} {o : Obj} (h : (a.alloc o).grownBy b g) : a.grownBy b g :=
  ⟨h.os, h.tape, h.output, by have := h.size; simp at this; omega, fun i hi hne => (h.block i (by simp; omega) hne).trans (Below.heap_alloc _ _ _ hi)⟩

/-- a world with new boxes: what they hold -/
theorem box1 (w : World) (v : Value) (T : TypeId) : (w.alloc (.cells #[v] T)).cell? ⟨w.heap.size, 0, none⟩ = some v ∧ w.heap.size < (w.alloc (.cells #[v] T)).heap.size ∧ Le w (w.alloc (.cells #[v] T)) :=
  ⟨by rw [World.cell?_alloc_at _ _ _ _ rfl]; rfl, by simp, Le.new w _⟩
theorem box2 (w : World) (v u : Value) (T U : TypeId) : ((w.alloc (.cells #[v] T)).alloc (.cells #[u] U)).cell? ⟨w.heap.size, 0, none⟩ = some v ∧ w.heap.size < ((w.alloc (.cells #[v] T)).alloc (.cells #[u] U)).heap.size ∧
    ((w.alloc (.cells #[v] T)).alloc (.cells #[u] U)).cell? ⟨w.heap.size + 1, 0, none⟩ = some u ∧ w.heap.size + 1 < ((w.alloc (.cells #[v] T)).alloc (.cells #[u] U)).heap.size ∧ Le w ((w.alloc (.cells #[v] T)).alloc (.cells #[u] U)) := by
  refine ⟨?_, by simp; omega, ?_, by simp, (Le.new w _).alloc _⟩
  · rw [World.cell?_alloc_past _ _ _ (by simp), World.cell?_alloc_at _ _ _ _ rfl]; rfl
  · rw [World.cell?_alloc_at _ _ _ _ (by simp)]; rfl
/-- what the caller owns of a fresh row -/
structure Owd {α : Type} [Enc α] (T : TypeId) (w0 w : World) (v : Value) (xs : List α) : Prop where
  row : w.ownsRow w0.heap.size T (Enc.size α) v xs.length (xs.flatMap Enc.cells)
  ok : ∀ x ∈ xs, Enc.ok x
theorem Owd.le {α : Type} [Enc α] {T : TypeId} {w0 w w' : World} {v : Value} {xs : List α} (h : Owd T w0 w v xs) (hl : Le w w') : Owd T w0 w' v xs := ⟨own_le h.row hl, h.ok⟩
theorem Owd.mono {α : Type} [Enc α] {T : TypeId} {w0 w00 w : World} {v : Value} {xs : List α} (h : Owd T w0 w v xs) (hl : Le w00 w0) : Owd T w00 w v xs := ⟨own_mono h.row hl.size, h.ok⟩
theorem Owd.nil {α : Type} [Enc α] (T : TypeId) (w0 w : World) : Owd T w0 w (.slice none 0 0) ([] : List α) := ⟨World.ownsRow_nil _ _ _ _, fun _ h => nomatch h⟩
theorem Owd.form {α : Type} [Enc α] {T : TypeId} {w0 w : World} {v : Value} {xs : List α} (h : Owd T w0 w v xs) (hp : 0 < Enc.size α) : ∃ A c, v = .slice A xs.length c ∧ Sl w A xs.length c xs ∧ (∀ k, (Value.slice A xs.length c).ownBlock = some k → w0.heap.size ≤ k ∧ k < w.heap.size) := by
  obtain ⟨A, c, rfl⟩ := own_form h.row
  exact ⟨A, c, rfl, Sl.of_own h.row rfl hp h.ok, fun k hk => h.row.lt k hk⟩
theorem Sl.under {α : Type} [Enc α] {w : World} {A : Option Addr} {n cap : Nat} {xs : List α} (h : Sl w A n cap xs) (hn : 0 < n) : ∀ a, A = some a → a.block < w.heap.size := by
  obtain ⟨b, off, e, hlt, _⟩ := h.at_ hn
  intro a ea; rw [e] at ea; injection ea with ea; rw [← ea]; exact hlt
theorem Sl.grown {α : Type} [Enc α] {w w' : World} {A : Option Addr} {n cap : Nat} {xs : List α} {r : Option Nat} (h : Sl w A n cap xs) (hg : w.grownBy w' r) (hne : 0 < n → ∀ a, A = some a → some a.block ≠ r) : Sl w' A n cap xs :=
  ⟨h.len, h.cap_, h.max, h.ok, fun hn => by
    obtain ⟨b, off, e, hlt, hc⟩ := h.at_ hn
    exact ⟨b, off, e, Nat.lt_of_lt_of_le hlt hg.size, fun j u hu => (World.cell?_of_block (a := ⟨b, off + j, none⟩) (hg.block b hlt (hne hn _ e))).trans (hc j u hu)⟩⟩
theorem box3 (w : World) (v u x : Value) (T U X : TypeId) : (((w.alloc (.cells #[v] T)).alloc (.cells #[u] U)).alloc (.cells #[x] X)).cell? ⟨w.heap.size, 0, none⟩ = some v ∧ w.heap.size < (((w.alloc (.cells #[v] T)).alloc (.cells #[u] U)).alloc (.cells #[x] X)).heap.size ∧
    (((w.alloc (.cells #[v] T)).alloc (.cells #[u] U)).alloc (.cells #[x] X)).cell? ⟨w.heap.size + 1, 0, none⟩ = some u ∧ w.heap.size + 1 < (((w.alloc (.cells #[v] T)).alloc (.cells #[u] U)).alloc (.cells #[x] X)).heap.size ∧
    (((w.alloc (.cells #[v] T)).alloc (.cells #[u] U)).alloc (.cells #[x] X)).cell? ⟨w.heap.size + 1 + 1, 0, none⟩ = some x ∧ w.heap.size + 1 + 1 < (((w.alloc (.cells #[v] T)).alloc (.cells #[u] U)).alloc (.cells #[x] X)).heap.size ∧ Le w (((w.alloc (.cells #[v] T)).alloc (.cells #[u] U)).alloc (.cells #[x] X)) := by
  obtain ⟨a, b, c, d, e⟩ := box2 w v u T U
  refine ⟨?_, by simp <;> omega, ?_, by simp <;> omega, ?_, by simp, e.alloc _⟩
  · rw [World.cell?_alloc_past _ _ _ b]; exact a
  · rw [World.cell?_alloc_past _ _ _ d]; exact c
  · rw [World.cell?_alloc_at _ _ _ _ (by simp)]; rfl
theorem box5 (w : World) (a b c d e : Value) (T : TypeId) : (w.alloc (.cells #[a, b, c, d, e] T)).cell? ⟨w.heap.size, 0, none⟩ = some a ∧ (w.alloc (.cells #[a, b, c, d, e] T)).cell? ⟨w.heap.size, 1, none⟩ = some b ∧ (w.alloc (.cells #[a, b, c, d, e] T)).cell? ⟨w.heap.size, 2, none⟩ = some c ∧
    (w.alloc (.cells #[a, b, c, d, e] T)).cell? ⟨w.heap.size, 3, none⟩ = some d ∧ (w.alloc (.cells #[a, b, c, d, e] T)).cell? ⟨w.heap.size, 4, none⟩ = some e ∧ w.heap.size < (w.alloc (.cells #[a, b, c, d, e] T)).heap.size ∧ Le w (w.alloc (.cells #[a, b, c, d, e] T)) := by
  refine ⟨?_, ?_, ?_, ?_, ?_, by simp, Le.new w _⟩ <;> (rw [World.cell?_alloc_at _ _ _ _ rfl]; rfl)
end

section
def digs : ByteArray := ⟨#[48, 49, 50, 51, 52, 53, 54, 55, 56, 57]⟩
theorem digs_at : ∀ n : Fin 10, digs.extract n.1 (n.1 + 1) = tb (numL n.1) := by decide +kernel
theorem numL_two : ∀ n : Fin 1000, 10 ≤ n.1 → numL n.1 = numL (n.1 / 10) ++ numL (n.1 % 10) := by decide +kernel
theorem tb_app (a b : List UInt8) : tb (a ++ b) = tb a ++ tb b := bl_inj (by rw [bl_app]; rfl)
theorem tb_size (a : List UInt8) : (tb a).size = a.length := rfl
theorem num_size {n : Nat} (h : n < 1000) : (tb (numL n)).size ≤ 3 := (numL_sz ⟨n, h⟩).2
set_option maxRecDepth 100000 in
theorem number1_any (n : Nat) (w : World) (h : n < 10) : Calls Tryd.prog 51 #[.int .i64 n] w fun e w' => e = .returned (.string (tb (numL n))) ∧ w = w' := by
  have hw : IntKind.i64.wrap ((n : Int) + 1) = (n : Int) + 1 := IntWalk.i64_in _ (by omega)
  have h3 : (n : Int) < 10 := by omega
  have h4 : (0 : Int) ≤ (n : Int) := by omega
  have h5 : (n : Int) + 1 ≤ 10 := by omega
  have h6 : (n : Int) ≤ (n : Int) + 1 := by omega
  have HE := Lib.hid (digs_at ⟨n, h⟩)
  go_enter Tryd.func51, Tryd.ntmps51
  go_wp2
  go_ret
  exact ⟨ret_str HE.out, rfl⟩
set_option maxRecDepth 100000 in
theorem number_step (n : Nat) (w : World) (h10 : 10 ≤ n) (h : n < 1000) (HQ : Hid (Calls Tryd.prog 51 #[.int .i64 ((n / 10 : Nat) : Int)] w fun e w' => e = .returned (.string (tb (numL (n / 10)))) ∧ w = w')) : Calls Tryd.prog 51 #[.int .i64 n] w fun e w' => e = .returned (.string (tb (numL n))) ∧ w = w' := by
  have HE := Lib.hid (numL_two ⟨n, h⟩ h10)
  have h3 : ¬ (n : Int) < 10 := by omega
  have hd : decide ((n : Int) < 10) = false := decide_eq_false h3
  have hq : (n : Int) / 10 = ((n / 10 : Nat) : Int) := by omega
  have hr : (n : Int) % 10 = ((n % 10 : Nat) : Int) := by omega
  have z1 : ((tb (numL (n / 10))).size : Int) ≤ 8388608 := by have := num_size (n := n / 10) (by omega); omega
  have z2 : ((tb (numL (n % 10))).size : Int) ≤ 8388608 := by have := num_size (n := n % 10) (by omega); omega
  have HQE := Lib.hid hq; have HRE := Lib.hid hr
  clear hq hr
  have HR := Lib.hid (number1_any (n % 10) w (by omega))
  obtain ⟨u1, HU1⟩ : ∃ u, Hid (tb (numL (n / 10)) = u) := ⟨_, Lib.hid rfl⟩
  obtain ⟨u2, HU2⟩ : ∃ u, Hid (tb (numL (n % 10)) = u) := ⟨_, Lib.hid rfl⟩
  rw [HU1.out] at HQ z1
  rw [HU2.out] at HR z2
  go_enter Tryd.func51, Tryd.ntmps51
  go_wp2_with fail
  rw [HQE.out]
  refine HQ.out.mono ?_
  rintro e w' ⟨rfl, rfl⟩
  go_wp2_with fail
  rw [HRE.out]
  refine HR.out.mono ?_
  rintro e w' ⟨rfl, rfl⟩
  go_wp2
  go_ret
  exact ⟨ret_str (by rw [← HU1.out, ← HU2.out, ← tb_app]; exact congrArg tb HE.out.symm), rfl⟩
theorem number2_any (n : Nat) (w : World) (h : n < 100) : Calls Tryd.prog 51 #[.int .i64 n] w fun e w' => e = .returned (.string (tb (numL n))) ∧ w = w' := by
  by_cases h10 : n < 10
  · exact number1_any n w h10
  · exact number_step n w (by omega) (by omega) (Lib.hid (number1_any (n / 10) w (by omega)))
theorem number3_any (n : Nat) (w : World) (h : n < 1000) : Calls Tryd.prog 51 #[.int .i64 n] w fun e w' => e = .returned (.string (tb (numL n))) ∧ w = w' := by
  by_cases h10 : n < 10
  · exact number1_any n w h10
  · exact number_step n w (by omega) (by omega) (Lib.hid (number2_any (n / 10) w (by omega)))
end

section
instance instEncStr : Enc ByteArray := ⟨1, fun s => [.string s], fun s => s.size ≤ 9223372036854775807, fun _ => rfl⟩
theorem Sl.str_at {w : World} {A : Option Addr} {n cap : Nat} {xs : List ByteArray} (h : Sl w A n cap xs) {k : Nat} (hk : k < xs.length) :
    ∃ b off, A = some ⟨b, off, none⟩ ∧ b < w.heap.size ∧ w.cell? ⟨b, off + k, none⟩ = some (.string xs[k]) := by
  obtain ⟨b, off, e, hb, hc⟩ := h.cells_ hk
  have := hc 0 (by decide) _ rfl
  exact ⟨b, off, e, hb, by simpa [Enc.size] using this⟩
end

section
open Go.RowKit Go.Sort
theorem lt_of_var {w : World} {P : Program} {nm : String} {cs : Array Value} (h : w.var? P nm = some cs) : ∃ g, P.globalNamed nm = some g ∧ g < w.heap.size := by
  unfold World.var? at h
  obtain ⟨g, hg, h⟩ := Option.bind_eq_some_iff.1 h
  refine ⟨g, hg, ?_⟩
  rcases Nat.lt_or_ge g w.heap.size with h' | h'
  · exact h'
  · rw [Array.getElem?_eq_none h'] at h; cases h
theorem var_le {w w' : World} {P : Program} {nm : String} {cs : Array Value} (h : w.var? P nm = some cs) (hl : Le w w') : w'.var? P nm = some cs := by
  obtain ⟨g, hg, hlt⟩ := lt_of_var h
  unfold World.var? at h ⊢
  rw [hg] at h ⊢
  simp only [Option.bind_some] at h ⊢
  rw [Below.block hl g hlt]
  exact h
/-- the table that strconv reads lies there -/
def TabW (w : World) : Prop := Lib.TabIs Tryd.prog w "internal/strconv.uint64pow10" .u64 Lib.pow10Tab
theorem TabW.le {w w' : World} (h : TabW w) (hl : Le w w') : TabW w' := var_le h hl
theorem le_grow (w : World) (k : Nat) (os : Array Obj) : Le w (grow (w.drewN k) os) := ⟨rfl, rfl, rfl, by show w.heap.size ≤ (w.heap ++ os).size; rw [Array.size_append]; omega, fun j hj => by show (w.heap ++ os)[j]? = _; exact Array.getElem?_append_left hj⟩
theorem dec_lo {n : Nat} (h : n < 10) : Lib.decDigits n = [dg n] := by rw [Lib.decDigits, dif_pos h]; rfl
theorem dec_hi {n : Nat} (h : 10 ≤ n) : Lib.decDigits n = Lib.decDigits (n / 10) ++ [dg (n % 10)] := by rw [Lib.decDigits, dif_neg (by omega)]; rfl
theorem itoa_num {n : Nat} (h : n < 1000) : Lib.itoa (n : Int) = numL n := by
  have one : ∀ m, m < 10 → numL m = [dg m] := fun m hm => by unfold numL; rw [if_pos hm]
  rw [Lib.itoa_nonneg]
  by_cases h1 : n < 10
  · rw [dec_lo h1, one n h1]
  · rw [dec_hi (by omega), numL_two ⟨n, h⟩ (by show 10 ≤ n; omega)]
    dsimp only
    rw [one (n % 10) (by omega)]
    congr 1
    by_cases h2 : n / 10 < 10
    · rw [dec_lo h2, one _ h2]
    · rw [dec_hi (by omega), numL_two ⟨n / 10, by omega⟩ (by show 10 ≤ n / 10; omega)]
      dsimp only
      rw [one (n / 10 % 10) (by omega), dec_lo (n := n / 10 / 10) (by omega), one (n / 10 / 10) (by omega)]
theorem itoa3_any (n : Nat) (w : World) (h : n < 1000) (hT : TabW w) : Calls Tryd.prog 38 #[.int .i64 n] w fun e w' => e = .returned (.string (tb (numL n))) ∧ Le w w' := by
  refine (Tryd.strconv_Itoa (n : Int) (by omega) (by omega) w hT).mono ?_
  rintro e w' ⟨rfl, k, os, rfl⟩
  refine ⟨?_, le_grow w k os⟩
  rw [itoa_num h]; rfl
theorem jn_join : ∀ L : List (List UInt8), Lib.join L [32] = jn L
  | [] => rfl
  | [a] => by rw [Lib.join_one]; rfl
  | a :: b :: r => by
    have ih := jn_join (b :: r)
    unfold Lib.join at ih ⊢
    rw [jn_cons (by simp), ← ih]
    simp [List.intercalate, List.intersperse]
theorem join_any (A : Option Addr) (n c : Nat) (L : List ByteArray) (w : World) (S : Sl w A n c L) (hl : (jn (L.map bl)).length ≤ 1000000) (hn : n ≤ 1000000) :
    Calls Tryd.prog 66 #[.slice A n c, .string ⟨#[32]⟩] w fun e w' => e = .returned (.string (tb (jn (L.map bl)))) ∧ Le w w' := by
  obtain rfl := S.len
  cases L with
  | nil =>
    refine (Tryd.strings_Join_none A c ⟨#[32]⟩ w).mono ?_
    rintro e w' ⟨rfl, rfl⟩
    exact ⟨rfl, Le.refl _⟩
  | cons x r =>
    obtain ⟨b, o, rfl, hb, hc⟩ := S.at_ (by simp)
    have e1 : Lib.join ((x :: r).map (·.data.toList)) (⟨#[32]⟩ : ByteArray).data.toList = jn ((x :: r).map bl) := jn_join _
    refine (Tryd.strings_Join b o c (x :: r) ⟨#[32]⟩ w (fun j y hj => hc j _ (by
      have : ((x :: r).flatMap (Enc.cells (α := ByteArray)))[j]? = ((x :: r).map (fun s => Value.string s))[j]? := by
        congr 1
        induction (x :: r) with
        | nil => rfl
        | cons y q ih => rw [List.flatMap_cons, List.map_cons, ih]; rfl
      rw [this, List.getElem?_map, hj]; rfl)) hb (by omega) S.cap_ (by rw [e1]; omega)).mono ?_
    rintro e w' ⟨rfl, hB⟩
    exact ⟨by rw [e1]; rfl, hB⟩
end

section
open Go.RowKit Go.Sort
theorem cell_in {w : World} {a : Addr} {v : Value} (h : w.cell? a = some v) : a.block < w.heap.size := by
  rcases Nat.lt_or_ge a.block w.heap.size with h' | h'
  · exact h'
  · simp [World.cell?, Array.getElem?_eq_none h'] at h
theorem str_at {w : World} {A : Option Addr} {n cap : Nat} {xs : List ByteArray} (h : Sl w A n cap xs) {k : Nat} (hk : k < xs.length) : ∃ b off, A = some ⟨b, off, none⟩ ∧ b < w.heap.size ∧ w.cell? ⟨b, off + k, none⟩ = some (.string xs[k]) := by
  obtain ⟨b, off, e, hb, hc⟩ := h.cells_ hk
  have := hc 0 (by decide) _ rfl
  exact ⟨b, off, e, hb, by simpa [Enc.size] using this⟩
end

section
/-- the lines of a text, but for nothing at the end -/
def lnF : Nat → List UInt8 → List (List UInt8)
  | 0, _ => []
  | n + 1, s => if s = [] then [] else (Lib.cut s [10]).1 :: lnF n (Lib.cut s [10]).2.1
theorem lnF_more : ∀ (n : Nat) (s : List UInt8), s.length ≤ n → lnF n s = lnF s.length s
  | 0, s, h => by
    have : s = [] := List.length_eq_zero_iff.1 (by omega)
    subst this; rfl
  | n + 1, s, h => by
    cases s with
    | nil => rfl
    | cons x r =>
      have hs := cut_shorter 10 (s := x :: r) (by simp)
      rw [List.length_cons] at h hs ⊢
      rw [lnF, lnF, if_neg (by simp), if_neg (by simp)]
      rw [lnF_more n _ (by omega), lnF_more r.length _ (by omega)]
def linesT (s : List UInt8) : List (List UInt8) := lnF s.length s
theorem linesT_nil : linesT [] = [] := rfl
theorem linesT_step {s : List UInt8} (h : s ≠ []) : linesT s = (Lib.cut s [10]).1 :: linesT (Lib.cut s [10]).2.1 := by
  unfold linesT
  cases s with
  | nil => exact absurd rfl h
  | cons x r =>
    have hs := cut_shorter 10 (s := x :: r) (by simp)
    rw [List.length_cons] at hs ⊢
    rw [lnF, if_neg (by simp), lnF_more _ _ (by omega)]
/-- texts with a newline behind each -/
def catN (L : List (List UInt8)) : List UInt8 := L.flatMap (· ++ [10])
theorem catN_cons (a : List UInt8) (L : List (List UInt8)) : catN (a :: L) = a ++ 10 :: catN L := by
  unfold catN; rw [List.flatMap_cons, List.append_assoc]; rfl
theorem catN_snoc (L : List (List UInt8)) (a : List UInt8) : catN (L ++ [a]) = catN L ++ (a ++ [10]) := by
  unfold catN; rw [List.flatMap_append]; simp
theorem linesT_cat : ∀ {L : List (List UInt8)}, (∀ a ∈ L, (10 : UInt8) ∉ a) → linesT (catN L) = L
  | [], _ => rfl
  | a :: L, h => by
    have ih := linesT_cat (L := L) (fun x hx => h x (List.mem_cons_of_mem _ hx))
    rw [catN_cons, linesT_step (by simp), cut_line (h a (by simp)), ih]
theorem split_cat : ∀ {L : List (List UInt8)}, (∀ a ∈ L, (10 : UInt8) ∉ a) → splitL 10 (catN L) = L ++ [[]]
  | [], _ => rfl
  | a :: L, h => by
    have ih := split_cat (L := L) (fun x hx => h x (List.mem_cons_of_mem _ hx))
    rw [catN_cons, splitL_line (h a (by simp)), ih]; rfl
theorem catN_len {m : Nat} : ∀ {L : List (List UInt8)}, (∀ a ∈ L, a.length ≤ m) → (catN L).length ≤ (m + 1) * L.length
  | [], _ => Nat.zero_le _
  | a :: L, h => by
    have h1 := h a (by simp)
    have ih := catN_len (L := L) (fun x hx => h x (List.mem_cons_of_mem _ hx))
    rw [catN_cons, List.length_append, List.length_cons, List.length_cons, Nat.mul_add]; omega
theorem count_catN : ∀ {L : List (List UInt8)}, (∀ a ∈ L, (10 : UInt8) ∉ a) → (catN L).count 10 = L.length
  | [], _ => rfl
  | a :: L, h => by
    have ih := count_catN (L := L) (fun x hx => h x (List.mem_cons_of_mem _ hx))
    rw [catN_cons, List.count_append, List.count_cons_self, List.count_eq_zero.2 (h a (by simp)), ih, List.length_cons]; omega
/-- one of the texts of a phrase -/
def atW (W : List (List UInt8)) (i : Nat) : List UInt8 := W.getD i []
/-- the name of a class -/
def clN (xs : List Cls) (a : Int) : List UInt8 := match xs[a.toNat]? with | some c => bl c.name | none => []
theorem clN_at {xs : List Cls} {k : Nat} (h : k < xs.length) : clN xs (k : Int) = bl xs[k].name := by
  unfold clN
  rw [show (k : Int).toNat = k by omega, List.getElem?_eq_getElem h]
end

section
structure Lin where
  depth : Int
  kind : Int
  a : Int
  b : Int
instance instEncLin : Enc Lin := ⟨4, fun x => [.int .i64 x.depth, .int .i64 x.kind, .int .i64 x.a, .int .i64 x.b], fun x => -9223372036854775808 ≤ x.depth ∧ x.depth ≤ 9223372036854775807 ∧ -9223372036854775808 ≤ x.kind ∧ x.kind ≤ 9223372036854775807 ∧ -9223372036854775808 ≤ x.a ∧ x.a ≤ 9223372036854775807 ∧ -9223372036854775808 ≤ x.b ∧ x.b ≤ 9223372036854775807, fun _ => rfl⟩
theorem Sl.lin_at {w : World} {A : Option Addr} {n cap : Nat} {xs : List Lin} (h : Sl w A n cap xs) {k : Nat} (hk : k < xs.length) :
    ∃ b off, A = some ⟨b, off, none⟩ ∧ b < w.heap.size ∧ w.cell? ⟨b, off + k * 4, none⟩ = some (.int .i64 xs[k].depth) ∧ w.cell? ⟨b, off + k * 4 + 1, none⟩ = some (.int .i64 xs[k].kind) ∧ w.cell? ⟨b, off + k * 4 + 2, none⟩ = some (.int .i64 xs[k].a) ∧ w.cell? ⟨b, off + k * 4 + 3, none⟩ = some (.int .i64 xs[k].b) ∧ (-9223372036854775808 ≤ xs[k].depth ∧ xs[k].depth ≤ 9223372036854775807 ∧ -9223372036854775808 ≤ xs[k].kind ∧ xs[k].kind ≤ 9223372036854775807 ∧ -9223372036854775808 ≤ xs[k].a ∧ xs[k].a ≤ 9223372036854775807 ∧ -9223372036854775808 ≤ xs[k].b ∧ xs[k].b ≤ 9223372036854775807) := by
  obtain ⟨b, off, e, hb, hc⟩ := h.cells_ hk
  have h0 := hc 0 (by decide) _ rfl
  have h1 := hc 1 (by decide) _ rfl
  have h2 := hc 2 (by decide) _ rfl
  have h3 := hc 3 (by decide) _ rfl
  exact ⟨b, off, e, hb, by simpa [Enc.size] using h0, by simpa [Enc.size, Nat.add_assoc] using h1, by simpa [Enc.size, Nat.add_assoc] using h2, by simpa [Enc.size, Nat.add_assoc] using h3, h.ok xs[k] (List.getElem_mem hk)⟩
theorem flat_lin_depth : ∀ (xs : List Lin) (k : Nat) (h : k < xs.length) (z : Int), (xs.flatMap Enc.cells).set (k * 4) (.int .i64 z) = (xs.set k {xs[k] with depth := z}).flatMap Enc.cells
  | x :: r, 0, _, z => rfl
  | x :: r, k + 1, h, z => by
    have ih := flat_lin_depth r k (by simpa using h) z
    have e : (k + 1) * 4 = k * 4 + 1 + 1 + 1 + 1 := by omega
    rw [e]
    show Value.int .i64 x.depth :: Value.int .i64 x.kind :: Value.int .i64 x.a :: Value.int .i64 x.b :: (r.flatMap Enc.cells).set (k * 4) (.int .i64 z) = _
    rw [ih]; rfl
theorem flat_lin_kind : ∀ (xs : List Lin) (k : Nat) (h : k < xs.length) (z : Int), (xs.flatMap Enc.cells).set (k * 4 + 1) (.int .i64 z) = (xs.set k {xs[k] with kind := z}).flatMap Enc.cells
  | x :: r, 0, _, z => rfl
  | x :: r, k + 1, h, z => by
    have ih := flat_lin_kind r k (by simpa using h) z
    have e : (k + 1) * 4 + 1 = k * 4 + 1 + 1 + 1 + 1 + 1 := by omega
    rw [e]
    show Value.int .i64 x.depth :: Value.int .i64 x.kind :: Value.int .i64 x.a :: Value.int .i64 x.b :: (r.flatMap Enc.cells).set (k * 4 + 1) (.int .i64 z) = _
    rw [ih]; rfl
theorem flat_lin_a : ∀ (xs : List Lin) (k : Nat) (h : k < xs.length) (z : Int), (xs.flatMap Enc.cells).set (k * 4 + 2) (.int .i64 z) = (xs.set k {xs[k] with a := z}).flatMap Enc.cells
  | x :: r, 0, _, z => rfl
  | x :: r, k + 1, h, z => by
    have ih := flat_lin_a r k (by simpa using h) z
    have e : (k + 1) * 4 + 2 = k * 4 + 2 + 1 + 1 + 1 + 1 := by omega
    rw [e]
    show Value.int .i64 x.depth :: Value.int .i64 x.kind :: Value.int .i64 x.a :: Value.int .i64 x.b :: (r.flatMap Enc.cells).set (k * 4 + 2) (.int .i64 z) = _
    rw [ih]; rfl
theorem flat_lin_b : ∀ (xs : List Lin) (k : Nat) (h : k < xs.length) (z : Int), (xs.flatMap Enc.cells).set (k * 4 + 3) (.int .i64 z) = (xs.set k {xs[k] with b := z}).flatMap Enc.cells
  | x :: r, 0, _, z => rfl
  | x :: r, k + 1, h, z => by
    have ih := flat_lin_b r k (by simpa using h) z
    have e : (k + 1) * 4 + 3 = k * 4 + 3 + 1 + 1 + 1 + 1 := by omega
    rw [e]
    show Value.int .i64 x.depth :: Value.int .i64 x.kind :: Value.int .i64 x.a :: Value.int .i64 x.b :: (r.flatMap Enc.cells).set (k * 4 + 3) (.int .i64 z) = _
    rw [ih]; rfl
end

section
structure Flt where
  cls : Int
  code : Int
  cause : Int
  ctx : Int
  hide : Bool
instance instEncFlt : Enc Flt := ⟨5, fun x => [.int .i64 x.cls, .int .i64 x.code, .int .i64 x.cause, .int .i64 x.ctx, .bool x.hide], fun x => -9223372036854775808 ≤ x.cls ∧ x.cls ≤ 9223372036854775807 ∧ -9223372036854775808 ≤ x.code ∧ x.code ≤ 9223372036854775807 ∧ -9223372036854775808 ≤ x.cause ∧ x.cause ≤ 9223372036854775807 ∧ -9223372036854775808 ≤ x.ctx ∧ x.ctx ≤ 9223372036854775807, fun _ => rfl⟩
theorem Sl.flt_at {w : World} {A : Option Addr} {n cap : Nat} {xs : List Flt} (h : Sl w A n cap xs) {k : Nat} (hk : k < xs.length) :
    ∃ b off, A = some ⟨b, off, none⟩ ∧ b < w.heap.size ∧ w.cell? ⟨b, off + k * 5, none⟩ = some (.int .i64 xs[k].cls) ∧ w.cell? ⟨b, off + k * 5 + 1, none⟩ = some (.int .i64 xs[k].code) ∧ w.cell? ⟨b, off + k * 5 + 2, none⟩ = some (.int .i64 xs[k].cause) ∧ w.cell? ⟨b, off + k * 5 + 3, none⟩ = some (.int .i64 xs[k].ctx) ∧ w.cell? ⟨b, off + k * 5 + 4, none⟩ = some (.bool xs[k].hide) ∧ (-9223372036854775808 ≤ xs[k].cls ∧ xs[k].cls ≤ 9223372036854775807 ∧ -9223372036854775808 ≤ xs[k].code ∧ xs[k].code ≤ 9223372036854775807 ∧ -9223372036854775808 ≤ xs[k].cause ∧ xs[k].cause ≤ 9223372036854775807 ∧ -9223372036854775808 ≤ xs[k].ctx ∧ xs[k].ctx ≤ 9223372036854775807) := by
  obtain ⟨b, off, e, hb, hc⟩ := h.cells_ hk
  have h0 := hc 0 (by decide) _ rfl
  have h1 := hc 1 (by decide) _ rfl
  have h2 := hc 2 (by decide) _ rfl
  have h3 := hc 3 (by decide) _ rfl
  have h4 := hc 4 (by decide) _ rfl
  exact ⟨b, off, e, hb, by simpa [Enc.size] using h0, by simpa [Enc.size, Nat.add_assoc] using h1, by simpa [Enc.size, Nat.add_assoc] using h2, by simpa [Enc.size, Nat.add_assoc] using h3, by simpa [Enc.size, Nat.add_assoc] using h4, h.ok xs[k] (List.getElem_mem hk)⟩
theorem flat_flt_cls : ∀ (xs : List Flt) (k : Nat) (h : k < xs.length) (z : Int), (xs.flatMap Enc.cells).set (k * 5) (.int .i64 z) = (xs.set k {xs[k] with cls := z}).flatMap Enc.cells
  | x :: r, 0, _, z => rfl
  | x :: r, k + 1, h, z => by
    have ih := flat_flt_cls r k (by simpa using h) z
    have e : (k + 1) * 5 = k * 5 + 1 + 1 + 1 + 1 + 1 := by omega
    rw [e]
    show Value.int .i64 x.cls :: Value.int .i64 x.code :: Value.int .i64 x.cause :: Value.int .i64 x.ctx :: Value.bool x.hide :: (r.flatMap Enc.cells).set (k * 5) (.int .i64 z) = _
    rw [ih]; rfl
theorem flat_flt_code : ∀ (xs : List Flt) (k : Nat) (h : k < xs.length) (z : Int), (xs.flatMap Enc.cells).set (k * 5 + 1) (.int .i64 z) = (xs.set k {xs[k] with code := z}).flatMap Enc.cells
  | x :: r, 0, _, z => rfl
  | x :: r, k + 1, h, z => by
    have ih := flat_flt_code r k (by simpa using h) z
    have e : (k + 1) * 5 + 1 = k * 5 + 1 + 1 + 1 + 1 + 1 + 1 := by omega
    rw [e]
    show Value.int .i64 x.cls :: Value.int .i64 x.code :: Value.int .i64 x.cause :: Value.int .i64 x.ctx :: Value.bool x.hide :: (r.flatMap Enc.cells).set (k * 5 + 1) (.int .i64 z) = _
    rw [ih]; rfl
theorem flat_flt_cause : ∀ (xs : List Flt) (k : Nat) (h : k < xs.length) (z : Int), (xs.flatMap Enc.cells).set (k * 5 + 2) (.int .i64 z) = (xs.set k {xs[k] with cause := z}).flatMap Enc.cells
  | x :: r, 0, _, z => rfl
  | x :: r, k + 1, h, z => by
    have ih := flat_flt_cause r k (by simpa using h) z
    have e : (k + 1) * 5 + 2 = k * 5 + 2 + 1 + 1 + 1 + 1 + 1 := by omega
    rw [e]
    show Value.int .i64 x.cls :: Value.int .i64 x.code :: Value.int .i64 x.cause :: Value.int .i64 x.ctx :: Value.bool x.hide :: (r.flatMap Enc.cells).set (k * 5 + 2) (.int .i64 z) = _
    rw [ih]; rfl
theorem flat_flt_ctx : ∀ (xs : List Flt) (k : Nat) (h : k < xs.length) (z : Int), (xs.flatMap Enc.cells).set (k * 5 + 3) (.int .i64 z) = (xs.set k {xs[k] with ctx := z}).flatMap Enc.cells
  | x :: r, 0, _, z => rfl
  | x :: r, k + 1, h, z => by
    have ih := flat_flt_ctx r k (by simpa using h) z
    have e : (k + 1) * 5 + 3 = k * 5 + 3 + 1 + 1 + 1 + 1 + 1 := by omega
    rw [e]
    show Value.int .i64 x.cls :: Value.int .i64 x.code :: Value.int .i64 x.cause :: Value.int .i64 x.ctx :: Value.bool x.hide :: (r.flatMap Enc.cells).set (k * 5 + 3) (.int .i64 z) = _
    rw [ih]; rfl
theorem flat_flt_hide : ∀ (xs : List Flt) (k : Nat) (h : k < xs.length) (z : Bool), (xs.flatMap Enc.cells).set (k * 5 + 4) (.bool z) = (xs.set k {xs[k] with hide := z}).flatMap Enc.cells
  | x :: r, 0, _, z => rfl
  | x :: r, k + 1, h, z => by
    have ih := flat_flt_hide r k (by simpa using h) z
    have e : (k + 1) * 5 + 4 = k * 5 + 4 + 1 + 1 + 1 + 1 + 1 := by omega
    rw [e]
    show Value.int .i64 x.cls :: Value.int .i64 x.code :: Value.int .i64 x.cause :: Value.int .i64 x.ctx :: Value.bool x.hide :: (r.flatMap Enc.cells).set (k * 5 + 4) (.bool z) = _
    rw [ih]; rfl
end

section
namespace Chn
theorem nodup_bound : ∀ (n : Nat) (L : List Int), L.Nodup → (∀ x ∈ L, 0 ≤ x ∧ x < n) → L.length ≤ n := by
  intro n
  induction n with
  | zero =>
    intro L _ h
    cases L with
    | nil => simp
    | cons x r => have := h x (by simp); omega
  | succ n ih =>
    intro L hn h
    by_cases hm : (n : Int) ∈ L
    · have h1 : (L.erase (n : Int)).Nodup := hn.erase _
      have h2 : ∀ x ∈ L.erase (n : Int), 0 ≤ x ∧ x < n := by
        intro x hx
        have hx' := (List.Nodup.mem_erase_iff hn).1 hx
        have := h x hx'.2
        have := hx'.1
        omega
      have := ih _ h1 h2
      rw [List.length_erase_of_mem hm] at this
      omega
    · have := ih L hn (fun x hx => by
        have := h x hx
        have : x ≠ n := fun e => hm (e ▸ hx)
        omega)
      omega

theorem nd_inj {L : List Int} (h : L.Nodup) {i j : Nat} (hi : i < L.length) (hj : j < L.length) (e : L[i] = L[j]) : i = j := by
  have hp := List.pairwise_iff_getElem.1 h
  rcases Nat.lt_trichotomy i j with h1 | h1 | h1
  · exact absurd e (hp i j hi hj h1)
  · exact h1
  · exact absurd e.symm (hp j i hj hi h1)

/-- L goes from f along nx, each once, as far as it can -/
structure Is (nx : Int → Int) (f : Int) (L : List Int) : Prop where
  nd : L.Nodup
  pos : ∀ x ∈ L, 0 ≤ x
  ne : L ≠ []
  hd : L.head? = some f
  st : ∀ k (h : k + 1 < L.length), L[k + 1] = nx L[k]
  en : ∀ x, L.getLast? = some x → nx x < 0 ∨ nx x ∈ L

def go (nx : Int → Int) : Nat → Int → List Int → List Int
  | 0, _, out => out
  | m + 1, f, out => if f < 0 ∨ f ∈ out then out else go nx m (nx f) (out ++ [f])

/-- what the chain's first part keeps to: f is next -/
structure Pre (nx : Int → Int) (n : Nat) (f0 f : Int) (out : List Int) : Prop where
  nd : out.Nodup
  rng : ∀ x ∈ out, 0 ≤ x ∧ x < n
  hd : out = [] ∧ f = f0 ∨ out.head? = some f0
  st : ∀ k (h : k + 1 < out.length), out[k + 1] = nx out[k]
  nxt : ∀ x, out.getLast? = some x → nx x = f
  lt : f < n
theorem Pre.start {nx : Int → Int} {n : Nat} {f : Int} (h : f < n) : Pre nx n f f [] :=
  ⟨by simp, by simp, .inl ⟨rfl, rfl⟩, by simp, by simp, h⟩
theorem Pre.step {nx : Int → Int} {n : Nat} {f0 f : Int} {out : List Int} (h : Pre nx n f0 f out) (hf : 0 ≤ f) (hm : f ∉ out) (hb : nx f < n) : Pre nx n f0 (nx f) (out ++ [f]) := by
  refine ⟨?_, ?_, ?_, ?_, ?_, hb⟩
  · rw [List.nodup_append]
    exact ⟨h.nd, by simp, fun a ha b hb e => by simp at hb; subst hb; subst e; exact hm ha⟩
  · intro x hx
    rcases List.mem_append.1 hx with hx | hx
    · exact h.rng x hx
    · simp at hx; subst hx; exact ⟨hf, h.lt⟩
  · right
    rcases h.hd with ⟨rfl, rfl⟩ | h1
    · rfl
    · cases out with
      | nil => simp at h1
      | cons a r => simpa using h1
  · intro k hk
    simp at hk
    by_cases e : k + 1 < out.length
    · rw [List.getElem_append_left e, List.getElem_append_left (by omega)]; exact h.st k e
    · have ek : k + 1 = out.length := by omega
      rw [List.getElem_append_right (by omega), List.getElem_append_left (by omega)]
      have hl : out.getLast? = some out[k] := by
        rw [List.getLast?_eq_getElem?, List.getElem?_eq_getElem (by omega)]
        simp only [← ek, Nat.add_sub_cancel]
      rw [h.nxt _ hl]
      simp [ek]
  · intro x hx
    simp at hx; rw [← hx]
theorem Pre.len {nx : Int → Int} {n : Nat} {f0 f : Int} {out : List Int} (h : Pre nx n f0 f out) : out.length ≤ n := nodup_bound n out h.nd h.rng
theorem Pre.done {nx : Int → Int} {n : Nat} {f0 f : Int} {out : List Int} (h : Pre nx n f0 f out) (hne : out ≠ []) (he : f < 0 ∨ f ∈ out) : Is nx f0 out := by
  refine ⟨h.nd, fun x hx => (h.rng x hx).1, hne, ?_, h.st, fun x hx => ?_⟩
  · rcases h.hd with ⟨h1, _⟩ | h1
    · exact absurd h1 hne
    · exact h1
  · rw [h.nxt x hx]; exact he

theorem go_is {nx : Int → Int} {n : Nat} {f0 : Int} (hb : ∀ x : Int, 0 ≤ x → x < n → nx x < n) (h0 : 0 ≤ f0) (h1 : f0 < n) :
    ∀ (m : Nat) (f : Int) (out : List Int), Pre nx n f0 f out → n + 1 ≤ m + out.length → Is nx f0 (go nx m f out) := by
  intro m
  induction m with
  | zero => intro f out h hm; have := h.len; omega
  | succ m ih =>
    intro f out h hm
    unfold go
    by_cases he : f < 0 ∨ f ∈ out
    · rw [if_pos he]
      refine h.done ?_ he
      rintro rfl
      rcases h.hd with ⟨_, rfl⟩ | h2
      · rcases he with he | he
        · omega
        · simp at he
      · simp at h2
    · rw [if_neg he]
      simp only [not_or, Int.not_lt] at he
      exact ih _ _ (h.step he.1 he.2 (hb f he.1 h.lt)) (by simp; omega)

theorem Is.at_eq {nx : Int → Int} {f : Int} {L M : List Int} (h : Is nx f L) (k : Is nx f M) : ∀ i (h1 : i < L.length) (h2 : i < M.length), L[i] = M[i] := by
  intro i
  induction i with
  | zero =>
    intro h1 h2
    have a := h.hd; have b := k.hd
    rw [List.head?_eq_getElem?, List.getElem?_eq_getElem h1] at a
    rw [List.head?_eq_getElem?, List.getElem?_eq_getElem h2] at b
    injection a with a; injection b with b
    rw [a, b]
  | succ i ih =>
    intro h1 h2
    rw [h.st i h1, k.st i h2, ih (by omega) (by omega)]
theorem Is.le_len {nx : Int → Int} {f : Int} {L M : List Int} (h : Is nx f L) (k : Is nx f M) : L.length ≤ M.length := by
  rcases Nat.lt_or_ge M.length L.length with hl | hl
  · exfalso
    have hm : 0 < M.length := by cases M with | nil => exact absurd rfl k.ne | cons _ _ => simp
    have e : M.getLast? = some M[M.length - 1] := by rw [List.getLast?_eq_getElem?, List.getElem?_eq_getElem (by omega)]
    have hn : L[M.length] = nx M[M.length - 1] := by
      have := h.st (M.length - 1) (by omega)
      have e2 : M.length - 1 + 1 = M.length := by omega
      simp only [e2] at this
      rw [this, h.at_eq k (M.length - 1) (by omega) (by omega)]
    rcases k.en _ e with hx | hx
    · have := h.pos L[M.length] (List.getElem_mem _); omega
    · rw [← hn] at hx
      obtain ⟨j, hj, hjj⟩ := List.getElem_of_mem hx
      rw [← h.at_eq k j (by omega) hj] at hjj
      have := nd_inj h.nd (by omega) hl hjj
      omega
  · exact hl
theorem Is.uniq {nx : Int → Int} {f : Int} {L M : List Int} (h : Is nx f L) (k : Is nx f M) : L = M :=
  List.ext_getElem (Nat.le_antisymm (h.le_len k) (k.le_len h)) (fun i h1 h2 => h.at_eq k i h1 h2)

theorem Is.lt {nx : Int → Int} {n : Nat} {f : Int} {L : List Int} (h : Is nx f L) (hb : ∀ x : Int, 0 ≤ x → x < n → nx x < n) (hf : f < n) : ∀ x ∈ L, 0 ≤ x ∧ x < n := by
  have hr : ∀ k (hk : k < L.length), 0 ≤ L[k] ∧ L[k] < n := by
    intro k
    induction k with
    | zero =>
      intro hk
      have a := h.hd
      rw [List.head?_eq_getElem?, List.getElem?_eq_getElem hk] at a
      injection a with a
      exact ⟨h.pos _ (List.getElem_mem _), by omega⟩
    | succ k ih =>
      intro hk
      have h2 := ih (by omega)
      have h3 := hb _ h2.1 h2.2
      rw [← h.st k hk] at h3
      exact ⟨h.pos _ (List.getElem_mem _), h3⟩
  intro x hx
  obtain ⟨k, hk, e⟩ := List.getElem_of_mem hx
  rw [← e]; exact hr k hk

/-- the chain from one of a chain is its rest, if the end leads nowhere or there -/
theorem Is.drop {nx : Int → Int} {f : Int} {L : List Int} (h : Is nx f L) {p : Nat} (hp : p < L.length) (he : ∀ x, L.getLast? = some x → nx x < 0 ∨ nx x ∈ L.drop p) : Is nx L[p] (L.drop p) := by
  refine ⟨h.nd.sublist (List.drop_sublist p L), fun x hx => h.pos x (List.mem_of_mem_drop hx), ?_, ?_, ?_, ?_⟩
  · intro e
    have := congrArg List.length e
    simp at this; omega
  · rw [List.head?_drop, List.getElem?_eq_getElem hp]
  · intro k hk
    simp at hk
    rw [List.getElem_drop, List.getElem_drop]
    have := h.st (p + k) (by omega)
    simpa [Nat.add_assoc] using this
  · intro x hx
    refine he x ?_
    rw [List.getLast?_drop] at hx
    split at hx
    · cases hx
    · exact hx

/-- from no one leads the link back to it -/
def noBack (nx : Int → Int) (n : Nat) : Prop := ∀ i : Int, 0 ≤ i → i < n → ∀ L, Is nx (nx i) L → i ∉ L
def allEnd (nx : Int → Int) (n : Nat) : Prop := ∀ f : Int, 0 ≤ f → f < n → ∀ L, Is nx f L → ∀ x, L.getLast? = some x → nx x < 0

theorem end_of_noBack {nx : Int → Int} {n : Nat} (hb : ∀ x : Int, 0 ≤ x → x < n → nx x < n) (h : noBack nx n) : allEnd nx n := by
  intro f h0 h1 L hL x hx
  rcases hL.en x hx with he | he
  · exact he
  · exfalso
    obtain ⟨p, hp, hpp⟩ := List.getElem_of_mem he
    have hr : ∀ k (hk : k < L.length), 0 ≤ L[k] ∧ L[k] < n := by
      intro k
      induction k with
      | zero =>
        intro hk
        have a := hL.hd
        rw [List.head?_eq_getElem?, List.getElem?_eq_getElem hk] at a
        injection a with a; omega
      | succ k ih =>
        intro hk
        have h2 := ih (by omega)
        have h3 := hb _ h2.1 h2.2
        rw [← hL.st k hk] at h3
        exact ⟨hL.pos _ (List.getElem_mem _), h3⟩
    have hxl : x ∈ L := List.mem_of_getLast? hx
    obtain ⟨q, hq, hqq⟩ := List.getElem_of_mem hxl
    have hxr := hr q hq
    rw [hqq] at hxr
    have hd := hL.drop hp (fun y hy => by
      rw [hx] at hy; injection hy with hy; subst hy
      right
      rw [← hpp]
      have e : L.drop p = L[p] :: L.drop (p + 1) := List.drop_eq_getElem_cons hp
      rw [e]; exact List.mem_cons_self)
    rw [hpp] at hd
    refine h x hxr.1 hxr.2 _ hd ?_
    have hlast : q = L.length - 1 := by
      rw [List.getLast?_eq_getElem?, List.getElem?_eq_getElem (by omega)] at hx
      injection hx with hx
      exact nd_inj hL.nd hq (by omega) (hqq.trans hx.symm)
    rw [List.mem_iff_getElem]
    refine ⟨q - p, by simp; omega, ?_⟩
    rw [List.getElem_drop]
    have e2 : p + (q - p) = q := by omega
    simp only [e2]; exact hqq

theorem noBack_of_end {nx : Int → Int} {n : Nat} (h : allEnd nx n) : noBack nx n := by
  intro i h0 h1 L hL hm
  obtain ⟨p, hp, hpp⟩ := List.getElem_of_mem hm
  -- the chain from i: i, then L's first part up to i
  have hl : 0 < L.length := by omega
  have hd0 : L[0] = nx i := by
    have a := hL.hd
    rw [List.head?_eq_getElem?, List.getElem?_eq_getElem hl] at a
    injection a
  have hI : Is nx i (i :: L.take p) := by
    refine ⟨?_, ?_, by simp, rfl, ?_, ?_⟩
    · rw [List.nodup_cons]
      refine ⟨fun hc => ?_, hL.nd.sublist (List.take_sublist p L)⟩
      obtain ⟨j, hj, hjj⟩ := List.getElem_of_mem hc
      rw [List.getElem_take] at hjj
      simp at hj
      have := nd_inj hL.nd (by omega) hp (hjj.trans hpp.symm)
      omega
    · intro x hx
      rcases List.mem_cons.1 hx with rfl | hx
      · exact h0
      · exact hL.pos x (List.mem_of_mem_take hx)
    · intro k hk
      simp at hk
      cases k with
      | zero => simpa using hd0
      | succ k =>
        simp
        exact hL.st k (by omega)
    · intro x hx
      right
      cases p with
      | zero =>
        simp at hx
        subst hx
        rw [← hd0, hpp]; simp
      | succ p =>
        have e : (i :: L.take (p + 1)).getLast? = some L[p] := by
          rw [List.getLast?_cons]
          have : (L.take (p + 1)).getLast? = some L[p] := by
            rw [List.getLast?_eq_getElem?, List.length_take]
            have : min (p + 1) L.length - 1 = p := by omega
            rw [this, List.getElem?_take, if_pos (by omega), List.getElem?_eq_getElem (by omega)]
          rw [this]; rfl
        rw [e] at hx; injection hx with hx; subst hx
        rw [← hL.st p hp, hpp]; simp
  have hne := hI.ne
  obtain ⟨x, hx⟩ : ∃ x, (i :: L.take p).getLast? = some x := by
    cases hg : (i :: L.take p).getLast? with
    | none => simp at hg
    | some x => exact ⟨x, rfl⟩
  have := h i h0 h1 _ hI x hx
  rcases hI.en x hx with he | he
  · -- its last one leads to i
    cases p with
    | zero =>
      simp at hx
      subst hx
      have : nx i = i := by rw [← hd0, hpp]
      omega
    | succ p =>
      have e : (i :: L.take (p + 1)).getLast? = some L[p] := by
        rw [List.getLast?_cons]
        have : (L.take (p + 1)).getLast? = some L[p] := by
          rw [List.getLast?_eq_getElem?, List.length_take]
          have : min (p + 1) L.length - 1 = p := by omega
          rw [this, List.getElem?_take, if_pos (by omega), List.getElem?_eq_getElem (by omega)]
        rw [this]; rfl
      rw [e] at hx; injection hx with hx; rw [← hx] at he
      rw [← hL.st p hp, hpp] at he
      omega
  · have := hI.pos _ he; omega
end Chn
end

section
def isAx (xs : List Cls) (a b : Int) : Bool := okTree xs && hasK xs a && hasK xs b && isAL xs a b
theorem isAx_of {xs : List Cls} {t p q r : Bool} {a b : Int} (h1 : okTree xs = t) (h2 : hasK xs a = p) (h3 : hasK xs b = q) (h4 : isAL xs a b = r) : isAx xs a b = (t && p && q && r) := by unfold isAx; rw [h1, h2, h3, h4]
theorem hasK_iff {xs : List Cls} {a : Int} : hasK xs a = true ↔ 0 ≤ a ∧ a < xs.length := by unfold hasK; simp; omega
def blk : Value → Nat
  | .pointer (some p) => p.block + 1
  | _ => 0
end

section
def ctxOf (hs : List Flt) (x : Int) : Int := match hs[x.toNat]? with | some f => f.ctx | none => -1
theorem ctxOf_at {hs : List Flt} {i : Nat} (h : i < hs.length) : ctxOf hs (i : Int) = hs[i].ctx := by
  unfold ctxOf; rw [Int.toNat_natCast, List.getElem?_eq_getElem h]
def rng (lo hi x : Int) : Bool := decide (lo ≤ x) && decide (x ≤ hi)
theorem rng_iff {lo hi x : Int} : rng lo hi x = true ↔ lo ≤ x ∧ x ≤ hi := by unfold rng; simp
def linksOk (n : Nat) (k : Int) (x : Flt) : Bool := rng (-1) ((n : Int) - 1) x.cause && rng (-1) ((n : Int) - 1) x.ctx && (x.cause != k) && (x.ctx != k)
def fOk (xs : List Cls) (n : Nat) (k : Int) (x : Flt) : Bool := hasK xs x.cls && rng 0 99 x.code && linksOk n k x
def allF (xs : List Cls) (n : Nat) : Nat → List Flt → Bool
  | _, [] => true
  | k, x :: r => fOk xs n (k : Int) x && allF xs n (k + 1) r
theorem allF_at {xs : List Cls} {n : Nat} {hs : List Flt} {k : Nat} (h : k < hs.length) : allF xs n k (hs.drop k) = (fOk xs n (k : Int) hs[k] && allF xs n (k + 1) (hs.drop (k + 1))) := by
  rw [List.drop_eq_getElem_cons h]; rfl
theorem allF_end {xs : List Cls} {n : Nat} {hs : List Flt} {k : Nat} (h : ¬ k < hs.length) : allF xs n k (hs.drop k) = true := by
  rw [List.drop_eq_nil_of_le (by omega)]; rfl
theorem allF_mem {xs : List Cls} {n : Nat} {hs : List Flt} : ∀ (m k : Nat), k + m = hs.length → allF xs n k (hs.drop k) = true → ∀ i (h : i < hs.length), k ≤ i → fOk xs n (i : Int) hs[i] = true := by
  intro m
  induction m with
  | zero => intro k hk h i hi hki; omega
  | succ m ih =>
    intro k hk h i hi hki
    rw [allF_at (by omega), Bool.and_eq_true] at h
    by_cases e : i = k
    · subst e; exact h.1
    · exact ih (k + 1) (by omega) h.2 i hi (by omega)
theorem allF_mk {xs : List Cls} {n : Nat} {hs : List Flt} (H : ∀ i (h : i < hs.length), fOk xs n (i : Int) hs[i] = true) : ∀ (m k : Nat), k + m = hs.length → allF xs n k (hs.drop k) = true := by
  intro m
  induction m with
  | zero => intro k hk; exact allF_end (by omega)
  | succ m ih => intro k hk; rw [allF_at (by omega), H k (by omega), ih (k + 1) (by omega)]; rfl
/-- the chain from f along nx -/
def chainN (nx : Int → Int) (n : Nat) (f : Int) : List Int := Chn.go nx (n + 1) f []
def lastN (nx : Int → Int) (n : Nat) (f : Int) : Int := (chainN nx n f).getLastD (-1)
def endsAt (hs : List Flt) (f : Int) : Bool := decide (ctxOf hs (lastN (ctxOf hs) hs.length f) < 0)
def endsF (hs : List Flt) : Nat → Nat → Bool
  | _, 0 => true
  | k, m + 1 => endsAt hs (k : Int) && endsF hs (k + 1) m
theorem endsF_mem {hs : List Flt} : ∀ (m k : Nat), endsF hs k m = true ↔ ∀ i, k ≤ i → i < k + m → endsAt hs (i : Int) = true := by
  intro m
  induction m with
  | zero => intro k; simp [endsF]; intro i h1 h2; omega
  | succ m ih =>
    intro k
    rw [endsF, Bool.and_eq_true, ih]
    constructor
    · rintro ⟨h1, h2⟩ i hi hk
      by_cases e : i = k
      · subst e; exact h1
      · exact h2 i (by omega) (by omega)
    · intro h
      exact ⟨h k (Nat.le_refl _) (by omega), fun i h1 h2 => h i (by omega) (by omega)⟩
def okHeap (xs : List Cls) (hs : List Flt) : Bool := allF xs hs.length 0 hs && endsF hs 0 hs.length && okTree xs && decide (hs.length ≤ 24)
/-- links lead into the heap -/
structure Lnk (hs : List Flt) : Prop where
  cause : ∀ i (h : i < hs.length), -1 ≤ hs[i].cause ∧ hs[i].cause < hs.length
  ctx : ∀ i (h : i < hs.length), -1 ≤ hs[i].ctx ∧ hs[i].ctx < hs.length
  ne : ∀ i (h : i < hs.length), hs[i].cause ≠ (i : Int) ∧ hs[i].ctx ≠ (i : Int)
theorem lnk_of {xs : List Cls} {hs : List Flt} (h : allF xs hs.length 0 hs = true) : Lnk hs := by
  have hm := allF_mem (hs := hs) hs.length 0 (by omega) (by simpa using h)
  have hx : ∀ i (h : i < hs.length), (-1 ≤ hs[i].cause ∧ hs[i].cause < hs.length) ∧ (-1 ≤ hs[i].ctx ∧ hs[i].ctx < hs.length) ∧ hs[i].cause ≠ (i : Int) ∧ hs[i].ctx ≠ (i : Int) := by
    intro i hi
    have := hm i hi (Nat.zero_le _)
    unfold fOk linksOk at this
    simp only [Bool.and_eq_true, rng_iff, bne_iff_ne] at this
    obtain ⟨_, ⟨⟨h1, h2⟩, h3⟩, h4⟩ := this
    exact ⟨by omega, by omega, h3, h4⟩
  exact ⟨fun i h => (hx i h).1, fun i h => (hx i h).2.1, fun i h => (hx i h).2.2⟩
theorem Lnk.ctxlt {hs : List Flt} (h : Lnk hs) : ∀ x : Int, 0 ≤ x → x < hs.length → ctxOf hs x < hs.length := by
  intro x h0 h1
  obtain ⟨i, rfl⟩ := Int.eq_ofNat_of_zero_le h0
  rw [ctxOf_at (by omega)]
  exact (h.ctx i (by omega)).2
theorem chain_is {nx : Int → Int} {n : Nat} (hb : ∀ x : Int, 0 ≤ x → x < n → nx x < n) {f : Int} (h0 : 0 ≤ f) (h1 : f < n) : Chn.Is nx f (chainN nx n f) :=
  Chn.go_is hb h0 h1 (n + 1) f [] (Chn.Pre.start h1) (by simp)
theorem last_of {nx : Int → Int} {n : Nat} {f x : Int} (h : (chainN nx n f).getLast? = some x) : lastN nx n f = x := by
  unfold lastN; rw [List.getLastD_eq_getLast?, h]; rfl
theorem is_last {nx : Int → Int} {f : Int} {L : List Int} (h : Chn.Is nx f L) : ∃ x, L.getLast? = some x ∧ x ∈ L := by
  cases e : L.getLast? with
  | none => rw [List.getLast?_eq_none_iff] at e; exact absurd e h.ne
  | some x => exact ⟨x, rfl, List.mem_of_getLast? e⟩
theorem ends_iff {hs : List Flt} (h : Lnk hs) : endsF hs 0 hs.length = true ↔ Chn.allEnd (ctxOf hs) hs.length := by
  rw [endsF_mem]
  constructor
  · intro H f h0 h1 L hL x hx
    obtain ⟨i, rfl⟩ := Int.eq_ofNat_of_zero_le h0
    have := H i (Nat.zero_le _) (by omega)
    unfold endsAt at this
    rw [hL.uniq (chain_is h.ctxlt h0 h1)] at hx
    rw [last_of hx] at this
    simpa using this
  · intro H i _ hi
    have hc := chain_is (f := (i : Int)) h.ctxlt (by omega) (by omega)
    obtain ⟨x, hx, _⟩ := is_last hc
    unfold endsAt
    rw [last_of hx]
    simpa using H i (by omega) (by omega) _ hc x hx
def backAt (hs : List Flt) (i : Int) : Bool := decide (0 ≤ ctxOf hs i) && hasI (chainN (ctxOf hs) hs.length (ctxOf hs i)) i
theorem hasI_iff' {x : Int} : ∀ {L : List Int}, hasI L x = true ↔ x ∈ L
  | [] => by simp [hasI]
  | c :: r => by
    rw [hasI, Bool.or_eq_true, hasI_iff' (L := r), List.mem_cons, beq_iff_eq]
    constructor
    · rintro (h | h)
      · exact .inl h.symm
      · exact .inr h
    · rintro (h | h)
      · exact .inl h.symm
      · exact .inr h
theorem noback_iff {hs : List Flt} (h : Lnk hs) : Chn.noBack (ctxOf hs) hs.length ↔ ∀ i, i < hs.length → backAt hs (i : Int) = false := by
  constructor
  · intro H i hi
    unfold backAt
    by_cases h0 : 0 ≤ ctxOf hs (i : Int)
    · have hc := chain_is (f := ctxOf hs (i : Int)) h.ctxlt h0 (h.ctxlt i (by omega) (by omega))
      have := H i (by omega) (by omega) _ hc
      rw [← hasI_iff'] at this
      rw [Bool.and_eq_false_iff]; right; simpa using this
    · rw [decide_eq_false h0]; rfl
  · intro H i h0 h1 L hL hm
    obtain ⟨k, rfl⟩ := Int.eq_ofNat_of_zero_le h0
    have hk := H k (by omega)
    unfold backAt at hk
    have hp : 0 ≤ ctxOf hs (k : Int) := by
      have h2 := hL.hd
      have h3 : ctxOf hs (k : Int) ∈ L := List.mem_of_head? h2
      exact hL.pos _ h3
    have hc := chain_is (f := ctxOf hs (k : Int)) h.ctxlt hp (h.ctxlt k (by omega) (by omega))
    rw [hL.uniq hc] at hm
    rw [decide_eq_true hp, Bool.true_and, hasI_iff'.2 hm] at hk
    cases hk
theorem ends_back {hs : List Flt} (h : Lnk hs) : endsF hs 0 hs.length = true ↔ ∀ i, i < hs.length → backAt hs (i : Int) = false := by
  rw [ends_iff h, ← noback_iff h]
  exact ⟨Chn.noBack_of_end, Chn.end_of_noBack h.ctxlt⟩
/-- what a valid heap keeps to -/
structure GoodH (xs : List Cls) (hs : List Flt) : Prop where
  tree : Good xs
  few : hs.length ≤ 24
  lnk : Lnk hs
  cls : ∀ i (h : i < hs.length), 0 ≤ hs[i].cls ∧ hs[i].cls < xs.length
  code : ∀ i (h : i < hs.length), 0 ≤ hs[i].code ∧ hs[i].code ≤ 99
  fin : Chn.allEnd (ctxOf hs) hs.length
theorem okHeap_tree {xs : List Cls} {hs : List Flt} (h : okHeap xs hs = true) : okTree xs = true := by
  unfold okHeap at h; simp only [Bool.and_eq_true] at h; exact h.1.2
theorem goodH_of {xs : List Cls} {hs : List Flt} (h : okHeap xs hs = true) : GoodH xs hs := by
  have ht := okHeap_tree h
  unfold okHeap at h
  simp only [Bool.and_eq_true, decide_eq_true_eq] at h
  obtain ⟨⟨⟨h1, h2⟩, _⟩, h4⟩ := h
  have hl := lnk_of h1
  have hm := allF_mem (hs := hs) hs.length 0 (by omega) (by simpa using h1)
  refine ⟨good_of ht, h4, hl, fun i hi => ?_, fun i hi => ?_, (ends_iff hl).1 h2⟩
  · have := hm i hi (Nat.zero_le _)
    unfold fOk at this
    simp only [Bool.and_eq_true] at this
    exact hasK_iff.1 this.1.1
  · have := hm i hi (Nat.zero_le _)
    unfold fOk at this
    simp only [Bool.and_eq_true, rng_iff] at this
    exact this.1.2
end
end Go.Proofs.YtkcnjoikdalgjaaDoor
