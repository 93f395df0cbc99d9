/- one text of C, KB, TyFrame, TrA, TrB, TL, TlFrame -/
import Derived.Test.YtnjckloodkdbpaaDoorCq1
import Derived.Test.YtnjckloodkdbpaaDoorRows
import Derived.Deep.RegionWith
import Derived.Deep.RegionHeld3
namespace Go.Proofs.YtnjckloodkdbpaaDoor
open Go.RowKit
set_option linter.unusedVariables false
section
theorem findN_range (xs : List Cls) (s : ByteArray) : ∀ j : Int, 0 ≤ j → findN xs s j = -1 ∨ (j ≤ findN xs s j ∧ findN xs s j < j + xs.length) := by
  induction xs with
  | nil => intro j _; exact .inl rfl
  | cons c r ih =>
    intro j hj
    unfold findN
    split
    · right; simp; omega
    · rcases ih (j + 1) (by omega) with h | ⟨h1, h2⟩
      · exact .inl h
      · right; simp; omega
theorem findN_append (xs ys : List Cls) (s : ByteArray) : ∀ j : Int, 0 ≤ j → findN (xs ++ ys) s j = if 0 ≤ findN xs s j then findN xs s j else findN ys s (j + xs.length) := by
  induction xs with
  | nil => intro j _; simp [findN]
  | cons c r ih =>
    intro j hj
    rw [List.cons_append, findN_cons, findN_cons]
    by_cases h : c.name = s
    · rw [if_pos h, if_pos h, if_pos hj]
    · rw [if_neg h, if_neg h, ih (j + 1) (by omega)]
      have e : j + 1 + (r.length : Int) = j + ((c :: r).length : Int) := by simp; omega
      rw [e]
theorem findN_self {xs : List Cls} {k : Nat} (h : k < xs.length) : (findN xs xs[k].name 0 == (k : Int)) = !decide (0 ≤ findN (xs.take k) xs[k].name 0) := by
  have e : xs = xs.take k ++ xs[k] :: xs.drop (k + 1) := by rw [← List.drop_eq_getElem_cons h, List.take_append_drop]
  have e2 : findN xs xs[k].name 0 = findN (xs.take k ++ xs[k] :: xs.drop (k + 1)) xs[k].name 0 := by rw [← e]
  rw [e2, findN_append _ _ _ _ (by omega)]
  have hl : (xs.take k).length = k := by rw [List.length_take]; omega
  rcases findN_range (xs.take k) xs[k].name 0 (by omega) with h1 | ⟨h1, h2⟩
  · rw [h1, if_neg (by omega)]
    unfold findN
    rw [if_pos rfl, hl]
    simp
  · rw [if_pos h1, decide_eq_true h1]
    rw [hl] at h2
    simp; omega
theorem parent_i (p : Int) (k : Nat) : ((k : Int) == 0 && p != -1 || decide (0 < (k : Int)) && !(decide (0 ≤ p) && decide (p ≤ (k : Int) - 1))) = (((p == -1) != ((k : Int) == 0)) || decide (p < -1) || decide ((k : Int) ≤ p)) := by
  rcases Nat.eq_zero_or_pos k with rfl | hk
  · by_cases hp : p = -1
    · subst hp; rfl
    · have h1 : (p == -1) = false := by simpa using hp
      simp [h1, bne]
  · have h0 : ((k : Int) == 0) = false := by simp; omega
    have h2 : decide (0 < (k : Int)) = true := by simp; omega
    rw [h0, h2, Bool.false_and, Bool.true_and, Bool.false_or, Bool.eq_iff_iff]
    by_cases hp : p = -1
    · subst hp; simp
    · have h1 : (p == -1) = false := by simpa using hp
      rw [h1]
      simp only [Bool.not_eq_true', Bool.and_eq_false_iff, decide_eq_false_iff_not, Bool.or_eq_true, decide_eq_true_eq, bne]
      simp
      omega
theorem badCls_i {xs : List Cls} {k : Nat} (h : k < xs.length) : badCls xs k xs[k] = ((!okName xs[k].name || findN xs xs[k].name 0 != (k : Int)) || (((xs[k].parent == -1) != ((k : Int) == 0)) || decide (xs[k].parent < -1) || decide ((k : Int) ≤ xs[k].parent))) := by
  unfold badCls
  have hs := findN_self h
  have hn : (findN xs xs[k].name 0 != (k : Int)) = decide (0 ≤ findN (xs.take k) xs[k].name 0) := by rw [bne, hs, Bool.not_not]
  rw [hn]
  generalize okName xs[k].name = a
  generalize decide (0 ≤ findN (xs.take k) xs[k].name 0) = b
  generalize xs[k].parent = p
  rw [Bool.or_assoc, parent_i]

theorem ivalidName_any (s : ByteArray) (w : World) (hs : s.size ≤ 9223372036854775807) : Calls Tryd.prog 28 #[.string s] w fun e w' => e = .returned (.bool (okName s)) ∧ w = w' := by
  by_cases hlo : s.size < 1
  · have HF : Hid (okName s = false) := by show _ = _; unfold okName; rw [decide_eq_false (p := 1 ≤ s.size) (by omega)]; simp
    go_enter Tryd.func28, Tryd.ntmps28
    go_wp2
    go_ret
    exact ⟨ret_bool HF.out.symm, rfl⟩
  · by_cases hhi : 6 < s.size
    · have HF : Hid (okName s = false) := by show _ = _; unfold okName; rw [decide_eq_false (p := s.size ≤ 6) (by omega)]; simp
      go_enter Tryd.func28, Tryd.ntmps28
      go_wp2
      go_ret
      exact ⟨ret_bool HF.out.symm, rfl⟩
    · have d1 : decide ((s.size : Int) < 1) = false := decide_eq_false (by omega)
      have d2 : decide (6 < (s.size : Int)) = false := decide_eq_false (by omega)
      go_enter Tryd.func28, Tryd.ntmps28
      go_wp2
      go_loop [14] (fun i => ∃ k : Nat, k ≤ s.size ∧ i = .int .i64 k ∧ lowers s.data.toList = lowers (s.data.toList.drop k)) (fun i => s.size - (intOf i).toNat)
      case atStart => exact ⟨0, Nat.zero_le _, rfl, rfl⟩
      case round =>
        obtain ⟨k, hk, rfl, hr⟩ := hrel
        have HR := Lib.hid hr; clear hr
        by_cases hlt : k < s.size
        · have hc : 0 ≤ (s[k].toNat : Int) ∧ (s[k].toNat : Int) ≤ 255 := by have := UInt8.toNat_lt s[k]; omega
          by_cases h1 : s[k].toNat < 97
          · have HF : Hid (okName s = false) := by show _ = _; unfold okName; rw [HR.out, lowers_at hlt, decide_eq_false (p := 97 ≤ s[k].toNat) (by omega)]; rfl
            go_wp2
            go_ret
            exact ⟨ret_bool HF.out.symm, rfl⟩
          · by_cases h2 : 122 < s[k].toNat
            · have HF : Hid (okName s = false) := by show _ = _; unfold okName; rw [HR.out, lowers_at hlt, decide_eq_false (p := s[k].toNat ≤ 122) (by omega)]; simp
              go_wp2
              go_ret
              exact ⟨ret_bool HF.out.symm, rfl⟩
            · have HF : Hid (lowers s.data.toList = lowers (s.data.toList.drop (k + 1))) := by show _ = _; rw [HR.out, lowers_at hlt, decide_eq_true (p := 97 ≤ s[k].toNat) (by omega), decide_eq_true (p := s[k].toNat ≤ 122) (by omega)]; rfl
              go_wp2
              go_round
              case rel => exact ⟨k + 1, by omega, by go_num, HF.out⟩
              case measure => simp [intOf]; omega
        · have HF : Hid (okName s = true) := by
            show _ = _; unfold okName; rw [HR.out, lowers_end hlt, decide_eq_true (p := 1 ≤ s.size) (by omega), decide_eq_true (p := s.size ≤ 6) (by omega)]; rfl
          go_wp2
          go_ret
          exact ⟨ret_bool HF.out.symm, rfl⟩

end

section
/-- to stop a walk at a builtin and look: go_wp2_with (at_builtin; refine of_stop ?_); unfold Stop -/
def Stop (p : Prop) : Prop := p
theorem of_stop {p : Prop} (h : Stop p) : p := h

theorem own_form {w : World} {base size n : Nat} {e : TypeId} {v : Value} {xs : List Value} (h : w.ownsRow base e size v n xs) : ∃ A c, v = .slice A n c := by
  rcases h.2 with ⟨h, h0⟩ | ⟨g, c, _, h, _⟩
  · exact ⟨none, 0, by rw [h0]; exact h⟩
  · exact ⟨_, c, h⟩
theorem gx_le {g : Option Nat} {a b c : World} (h : a.grownBy b g) (k : Le b c) : a.grownBy c g :=
  ⟨k.os.trans h.os, k.tape.trans h.tape, k.output.trans h.output, Nat.le_trans h.size k.size, fun i hi hne => (Below.block k i (Nat.lt_of_lt_of_le hi h.size)).trans (h.block i hi hne)⟩
theorem gx_set {g o : Nat} {a b : World} (h : a.grownBy b (some g)) (u : Value) : a.grownBy (b.setCell ⟨g, o, none⟩ u) (some g) :=
  ⟨h.os, h.tape, h.output, by simpa [World.setCell] using h.size, fun i hi hne => (heap_setCell_other b ⟨g, o, none⟩ i u (fun e => hne (by rw [e]))).trans (h.block i hi hne)⟩
theorem gx_from {g : Option Nat} {a b : World} {o : Obj} (h : (a.alloc o).grownBy b g) : a.grownBy b g :=
  ⟨h.os, h.tape, h.output, by have := h.size; simp at this; omega, fun i hi hne => (h.block i (by simp; omega) hne).trans (Below.heap_alloc _ _ _ hi)⟩

/-- a world with new boxes: what they hold -/
theorem box1 (w : World) (v : Value) (T : TypeId) : (w.alloc (.cells #[v] T)).cell? ⟨w.heap.size, 0, none⟩ = some v ∧ w.heap.size < (w.alloc (.cells #[v] T)).heap.size ∧ Le w (w.alloc (.cells #[v] T)) :=
  ⟨by rw [World.cell?_alloc_at _ _ _ _ rfl]; rfl, by simp, Le.new w _⟩
theorem box2 (w : World) (v u : Value) (T U : TypeId) : ((w.alloc (.cells #[v] T)).alloc (.cells #[u] U)).cell? ⟨w.heap.size, 0, none⟩ = some v ∧ w.heap.size < ((w.alloc (.cells #[v] T)).alloc (.cells #[u] U)).heap.size ∧
    ((w.alloc (.cells #[v] T)).alloc (.cells #[u] U)).cell? ⟨w.heap.size + 1, 0, none⟩ = some u ∧ w.heap.size + 1 < ((w.alloc (.cells #[v] T)).alloc (.cells #[u] U)).heap.size ∧ Le w ((w.alloc (.cells #[v] T)).alloc (.cells #[u] U)) := by
  refine ⟨?_, by simp; omega, ?_, by simp, (Le.new w _).alloc _⟩
  · rw [World.cell?_alloc_past _ _ _ (by simp), World.cell?_alloc_at _ _ _ _ rfl]; rfl
  · rw [World.cell?_alloc_at _ _ _ _ (by simp)]; rfl
/-- what the caller owns of a fresh row -/
structure Owd {α : Type} [Enc α] (T : TypeId) (w0 w : World) (v : Value) (xs : List α) : Prop where
  row : w.ownsRow w0.heap.size T (Enc.size α) v xs.length (xs.flatMap Enc.cells)
  ok : ∀ x ∈ xs, Enc.ok x
theorem Owd.le {α : Type} [Enc α] {T : TypeId} {w0 w w' : World} {v : Value} {xs : List α} (h : Owd T w0 w v xs) (hl : Le w w') : Owd T w0 w' v xs := ⟨own_le h.row hl, h.ok⟩
theorem Owd.mono {α : Type} [Enc α] {T : TypeId} {w0 w00 w : World} {v : Value} {xs : List α} (h : Owd T w0 w v xs) (hl : Le w00 w0) : Owd T w00 w v xs := ⟨own_mono h.row hl.size, h.ok⟩
theorem Owd.nil {α : Type} [Enc α] (T : TypeId) (w0 w : World) : Owd T w0 w (.slice none 0 0) ([] : List α) := ⟨World.ownsRow_nil _ _ _ _, fun _ h => nomatch h⟩
theorem Owd.form {α : Type} [Enc α] {T : TypeId} {w0 w : World} {v : Value} {xs : List α} (h : Owd T w0 w v xs) (hp : 0 < Enc.size α) : ∃ A c, v = .slice A xs.length c ∧ Sl w A xs.length c xs ∧ (∀ k, (Value.slice A xs.length c).ownBlock = some k → w0.heap.size ≤ k ∧ k < w.heap.size) := by
  obtain ⟨A, c, rfl⟩ := own_form h.row
  exact ⟨A, c, rfl, Sl.of_own h.row rfl hp h.ok, fun k hk => h.row.lt k hk⟩
theorem Sl.under {α : Type} [Enc α] {w : World} {A : Option Addr} {n cap : Nat} {xs : List α} (h : Sl w A n cap xs) (hn : 0 < n) : ∀ a, A = some a → a.block < w.heap.size := by
  obtain ⟨b, off, e, hlt, _⟩ := h.at_ hn
  intro a ea; rw [e] at ea; injection ea with ea; rw [← ea]; exact hlt
theorem Sl.grown {α : Type} [Enc α] {w w' : World} {A : Option Addr} {n cap : Nat} {xs : List α} {r : Option Nat} (h : Sl w A n cap xs) (hg : w.grownBy w' r) (hne : 0 < n → ∀ a, A = some a → some a.block ≠ r) : Sl w' A n cap xs :=
  ⟨h.len, h.cap_, h.max, h.ok, fun hn => by
    obtain ⟨b, off, e, hlt, hc⟩ := h.at_ hn
    exact ⟨b, off, e, Nat.lt_of_lt_of_le hlt hg.size, fun j u hu => (World.cell?_of_block (a := ⟨b, off + j, none⟩) (hg.block b hlt (hne hn _ e))).trans (hc j u hu)⟩⟩
theorem box3 (w : World) (v u x : Value) (T U X : TypeId) : (((w.alloc (.cells #[v] T)).alloc (.cells #[u] U)).alloc (.cells #[x] X)).cell? ⟨w.heap.size, 0, none⟩ = some v ∧ w.heap.size < (((w.alloc (.cells #[v] T)).alloc (.cells #[u] U)).alloc (.cells #[x] X)).heap.size ∧
    (((w.alloc (.cells #[v] T)).alloc (.cells #[u] U)).alloc (.cells #[x] X)).cell? ⟨w.heap.size + 1, 0, none⟩ = some u ∧ w.heap.size + 1 < (((w.alloc (.cells #[v] T)).alloc (.cells #[u] U)).alloc (.cells #[x] X)).heap.size ∧
    (((w.alloc (.cells #[v] T)).alloc (.cells #[u] U)).alloc (.cells #[x] X)).cell? ⟨w.heap.size + 1 + 1, 0, none⟩ = some x ∧ w.heap.size + 1 + 1 < (((w.alloc (.cells #[v] T)).alloc (.cells #[u] U)).alloc (.cells #[x] X)).heap.size ∧ Le w (((w.alloc (.cells #[v] T)).alloc (.cells #[u] U)).alloc (.cells #[x] X)) := by
  obtain ⟨a, b, c, d, e⟩ := box2 w v u T U
  refine ⟨?_, by simp <;> omega, ?_, by simp <;> omega, ?_, by simp, e.alloc _⟩
  · rw [World.cell?_alloc_past _ _ _ b]; exact a
  · rw [World.cell?_alloc_past _ _ _ d]; exact c
  · rw [World.cell?_alloc_at _ _ _ _ (by simp)]; rfl
theorem box5 (w : World) (a b c d e : Value) (T : TypeId) : (w.alloc (.cells #[a, b, c, d, e] T)).cell? ⟨w.heap.size, 0, none⟩ = some a ∧ (w.alloc (.cells #[a, b, c, d, e] T)).cell? ⟨w.heap.size, 1, none⟩ = some b ∧ (w.alloc (.cells #[a, b, c, d, e] T)).cell? ⟨w.heap.size, 2, none⟩ = some c ∧
    (w.alloc (.cells #[a, b, c, d, e] T)).cell? ⟨w.heap.size, 3, none⟩ = some d ∧ (w.alloc (.cells #[a, b, c, d, e] T)).cell? ⟨w.heap.size, 4, none⟩ = some e ∧ w.heap.size < (w.alloc (.cells #[a, b, c, d, e] T)).heap.size ∧ Le w (w.alloc (.cells #[a, b, c, d, e] T)) := by
  refine ⟨?_, ?_, ?_, ?_, ?_, by simp, Le.new w _⟩ <;> (rw [World.cell?_alloc_at _ _ _ _ rfl]; rfl)
end

section
structure Frm where
  fn : ByteArray
  line : Int
instance instEncFrm : Enc Frm := ⟨2, fun x => [.string x.fn, .int .i64 x.line], fun x => x.fn.size ≤ 9223372036854775807 ∧ -9223372036854775808 ≤ x.line ∧ x.line ≤ 9223372036854775807, fun _ => rfl⟩
theorem Sl.frm_at {w : World} {A : Option Addr} {n cap : Nat} {xs : List Frm} (h : Sl w A n cap xs) {k : Nat} (hk : k < xs.length) :
    ∃ b off, A = some ⟨b, off, none⟩ ∧ b < w.heap.size ∧ w.cell? ⟨b, off + k * 2, none⟩ = some (.string xs[k].fn) ∧ w.cell? ⟨b, off + k * 2 + 1, none⟩ = some (.int .i64 xs[k].line) ∧ (xs[k].fn.size ≤ 9223372036854775807 ∧ -9223372036854775808 ≤ xs[k].line ∧ xs[k].line ≤ 9223372036854775807) := by
  obtain ⟨b, off, e, hb, hc⟩ := h.cells_ hk
  have h0 := hc 0 (by decide) _ rfl
  have h1 := hc 1 (by decide) _ rfl
  exact ⟨b, off, e, hb, by simpa [Enc.size] using h0, by simpa [Enc.size, Nat.add_assoc] using h1, h.ok xs[k] (List.getElem_mem hk)⟩
theorem flat_frm_fn : ∀ (xs : List Frm) (k : Nat) (h : k < xs.length) (z : ByteArray), (xs.flatMap Enc.cells).set (k * 2) (.string z) = (xs.set k {xs[k] with fn := z}).flatMap Enc.cells
  | x :: r, 0, _, z => rfl
  | x :: r, k + 1, h, z => by
    have ih := flat_frm_fn r k (by simpa using h) z
    have e : (k + 1) * 2 = k * 2 + 1 + 1 := by omega
    rw [e]
    show Value.string x.fn :: Value.int .i64 x.line :: (r.flatMap Enc.cells).set (k * 2) (.string z) = _
    rw [ih]; rfl
theorem flat_frm_line : ∀ (xs : List Frm) (k : Nat) (h : k < xs.length) (z : Int), (xs.flatMap Enc.cells).set (k * 2 + 1) (.int .i64 z) = (xs.set k {xs[k] with line := z}).flatMap Enc.cells
  | x :: r, 0, _, z => rfl
  | x :: r, k + 1, h, z => by
    have ih := flat_frm_line r k (by simpa using h) z
    have e : (k + 1) * 2 + 1 = k * 2 + 1 + 1 + 1 := by omega
    rw [e]
    show Value.string x.fn :: Value.int .i64 x.line :: (r.flatMap Enc.cells).set (k * 2 + 1) (.int .i64 z) = _
    rw [ih]; rfl
end

section
def inL (a : Int) : Bool := decide (1 ≤ a) && decide (a ≤ 999)
def vFr (f : Frm) : Bool := okName f.fn && inL f.line
def vAll (xs : List Frm) : Bool := xs.all vFr
def vTr (xs : List Frm) : Bool := vAll xs && decide (xs.length ≤ 12)
theorem vAll_at {xs : List Frm} {k : Nat} (h : k < xs.length) : vAll (xs.drop k) = (vFr xs[k] && vAll (xs.drop (k + 1))) := by
  unfold vAll; rw [List.drop_eq_getElem_cons h]; rfl
theorem vAll_end {xs : List Frm} {k : Nat} (h : ¬ k < xs.length) : vAll (xs.drop k) = true := by
  rw [List.drop_eq_nil_of_le (by omega)]; rfl
theorem vTr_small {xs : List Frm} (h : vTr xs = true) : xs.length ≤ 12 := by unfold vTr at h; simp at h; exact h.2
theorem vTr_all {xs : List Frm} (h : vTr xs = true) : ∀ f ∈ xs, vFr f = true := by unfold vTr vAll at h; simp at h; exact h.1
theorem vTr_of {xs : List Frm} (h : ∀ f ∈ xs, vFr f = true) (hl : xs.length ≤ 12) : vTr xs = true := by unfold vTr vAll; simp; exact ⟨h, hl⟩

theorem validFrame_any (f : Frm) (w : World) (hf : Enc.ok f) :
    Calls Tryd.prog 50 #[.agg #[.string f.fn, .int .i64 f.line]] w fun e w' => e = .returned (.bool (vFr f)) ∧ Le w w' := by
  have hs : f.fn.size ≤ 9223372036854775807 := hf.1
  have HF : Hid (vFr f = (okName f.fn && inL f.line)) := rfl
  obtain ⟨fn, line⟩ := f
  cases h1 : okName fn
  · rw [h1, Bool.false_and] at HF
    go_enter Tryd.func50, Tryd.ntmps50
    go_wp2_with (go_at_call 62; refine (validName_any _ _ hs).mono ?_; rintro e w' ⟨rfl, rfl⟩)
    go_ret
    exact ⟨ret_bool HF.out.symm, (Le.new w _)⟩
  · rw [h1, Bool.true_and] at HF
    go_enter Tryd.func50, Tryd.ntmps50
    go_wp2_with (first | (go_at_call 62; refine (validName_any _ _ hs).mono ?_; rintro e w' ⟨rfl, rfl⟩) | (go_at_call 63; refine (inRange_any _ _ _ _).mono ?_; rintro e w' ⟨rfl, rfl⟩))
    go_ret
    exact ⟨ret_bool HF.out.symm, (Le.new w _)⟩

theorem validTrace_any (A : Option Addr) (n cap : Nat) (xs : List Frm) (w : World) (hR : Sl w A n cap xs) :
    Calls Tryd.prog 26 #[.slice A n cap] w fun e w' => e = .returned (.bool (vTr xs)) ∧ Le w w' := by
  obtain rfl := hR.len
  have hm := hR.n_le
  go_enter Tryd.func26, Tryd.ntmps26
  go_wp2
  go_loopw [3] (fun i wr => ∃ k : Nat, k ≤ xs.length ∧ i = .int .i64 k ∧ vTr xs = (vAll (xs.drop k) && decide (xs.length ≤ 12)) ∧ Le w wr) (fun i _ => xs.length - (intOf i).toNat)
  case atStart => exact ⟨0, Nat.zero_le _, rfl, rfl, Le.refl _⟩
  case round =>
    obtain ⟨k, hk, rfl, hr, hle⟩ := hrel
    have HR := Lib.hid hr; clear hr
    have hRr := hR.le hle
    clear hR
    by_cases hlt : k < xs.length
    · obtain ⟨b, off, rfl, hb, hcell0, hcell1, hns, hp1, hp2⟩ := hRr.frm_at hlt
      cases he : vFr xs[k]
      · have HF : Hid (vTr xs = false) := by show _ = _; rw [HR.out, vAll_at hlt, he]; rfl
        go_wp2_with fail
        refine (validFrame_any xs[k] _ ⟨hns, hp1, hp2⟩).mono ?_
        rw [he]
        rintro e w2 ⟨rfl, hw2⟩
        go_wp2
        go_ret
        exact ⟨ret_bool HF.out.symm, hle.trans hw2⟩
      · have HF : Hid (vTr xs = (vAll (xs.drop (k + 1)) && decide (xs.length ≤ 12))) := by show _ = _; rw [HR.out, vAll_at hlt, he]; rfl
        go_wp2_with fail
        refine (validFrame_any xs[k] _ ⟨hns, hp1, hp2⟩).mono ?_
        rw [he]
        rintro e w2 ⟨rfl, hw2⟩
        go_wp2
        go_roundw
        case rel => exact ⟨k + 1, by omega, by go_num, HF.out, hle.trans hw2⟩
        case measure => simp [intOf]; omega
    · have HF : Hid (vTr xs = decide ((xs.length : Int) ≤ 12)) := by show _ = _; rw [HR.out, vAll_end hlt, Bool.true_and]; exact decide_eq_decide.2 (by omega)
      go_wp2
      go_ret
      exact ⟨ret_bool HF.out.symm, hle⟩

theorem iinRange_any (a b c : Int) (w : World) : Calls Tryd.prog 29 #[.int .i64 a, .int .i64 b, .int .i64 c] w fun e w' => e = .returned (.bool (decide (b ≤ a) && decide (a ≤ c))) ∧ w = w' := by
  go_enter Tryd.func29, Tryd.ntmps29
  go_wp2
  all_goals (go_ret; simp_all)
  all_goals omega

theorem iValidTrace_any (A : Option Addr) (n cap : Nat) (xs : List Frm) (w : World) (hR : Sl w A n cap xs) :
    Calls Tryd.prog 11 #[.slice A n cap] w fun e w' => e = .returned (.bool (vTr xs)) ∧ Le w w' := by
  obtain rfl := hR.len
  have hm := hR.n_le
  by_cases h12 : 12 < xs.length
  · have HF : Hid (vTr xs = false) := by show _ = _; unfold vTr; rw [decide_eq_false (by omega), Bool.and_false]
    go_enter Tryd.func11, Tryd.ntmps11
    go_wp2
    go_ret
    exact ⟨ret_bool HF.out.symm, Le.refl _⟩
  · have H0 : Hid (vTr xs = vAll (xs.drop 0)) := by show _ = _; unfold vTr; rw [decide_eq_true (by omega), Bool.and_true]; rfl
    go_enter Tryd.func11, Tryd.ntmps11
    go_wp2
    go_loopw [10] (fun i wr => ∃ k : Nat, k ≤ xs.length ∧ i = .int .i64 k ∧ vTr xs = vAll (xs.drop k) ∧ Le w wr) (fun i _ => xs.length - (intOf i).toNat)
    case atStart => exact ⟨0, Nat.zero_le _, rfl, H0.out, Le.refl _⟩
    case round =>
      obtain ⟨k, hk, rfl, hr, hle⟩ := hrel
      have HR := Lib.hid hr; clear hr H0
      have hRr := hR.le hle
      clear hR
      by_cases hlt : k < xs.length
      · obtain ⟨b, off, rfl, hb, hcell0, hcell1, hns, hp1, hp2⟩ := hRr.frm_at hlt
        have HV : Hid (vTr xs = ((okName xs[k].fn && inL xs[k].line) && vAll (xs.drop (k + 1)))) := by show _ = _; rw [HR.out, vAll_at hlt]; rfl
        cases h1 : okName xs[k].fn
        · have HF : Hid (vTr xs = false) := by show _ = _; rw [HV.out, h1]; rfl
          clear HV
          go_wp2_with (go_at_call 28; refine (ivalidName_any _ _ hns).mono ?_; rintro e w' ⟨rfl, rfl⟩; rw [h1])
          go_ret
          exact ⟨ret_bool HF.out.symm, hle.trans (Le.new _ _)⟩
        · cases h2 : inL xs[k].line
          · have HF : Hid (vTr xs = false) := by show _ = _; rw [HV.out, h1, h2]; rfl
            clear HV
            go_wp2_with (first | (go_at_call 28; refine (ivalidName_any _ _ hns).mono ?_; rintro e w' ⟨rfl, rfl⟩; rw [h1]) | (go_at_call 29; refine (iinRange_any _ _ _ _).mono ?_; rintro e w' ⟨rfl, rfl⟩; rw [show (decide ((1 : Int) ≤ xs[k].line) && decide (xs[k].line ≤ 999)) = false from h2]))
            go_ret
            exact ⟨ret_bool HF.out.symm, hle.trans (Le.new _ _)⟩
          · have HF : Hid (vTr xs = vAll (xs.drop (k + 1))) := by show _ = _; rw [HV.out, h1, h2]; rfl
            clear HV
            go_wp2_with (first | (go_at_call 28; refine (ivalidName_any _ _ hns).mono ?_; rintro e w' ⟨rfl, rfl⟩; rw [h1]) | (go_at_call 29; refine (iinRange_any _ _ _ _).mono ?_; rintro e w' ⟨rfl, rfl⟩; rw [show (decide ((1 : Int) ≤ xs[k].line) && decide (xs[k].line ≤ 999)) = true from h2]))
            go_roundw
            case rel => exact ⟨k + 1, by omega, by go_num, HF.out, hle.trans (Le.new _ _)⟩
            case measure => simp [intOf]; omega
      · have HF : Hid (vTr xs = true) := by show _ = _; rw [HR.out, vAll_end hlt]
        go_wp2
        go_ret
        exact ⟨ret_bool HF.out.symm, hle⟩
end

section
def comH : List Frm → List Frm → Nat
  | a :: r, b :: s => if a.fn = b.fn ∧ a.line = b.line then comH r s + 1 else 0
  | _, _ => 0
theorem comH_le : ∀ a b : List Frm, comH a b ≤ a.length ∧ comH a b ≤ b.length
  | [], _ => by simp [comH]
  | a :: r, [] => by simp [comH]
  | a :: r, b :: s => by
    unfold comH
    have := comH_le r s
    split <;> simp <;> omega
theorem comH_yes {a b : List Frm} {k : Nat} (h1 : k < a.length) (h2 : k < b.length) (h : a[k].fn = b[k].fn ∧ a[k].line = b[k].line) : comH (a.drop k) (b.drop k) = comH (a.drop (k + 1)) (b.drop (k + 1)) + 1 := by
  rw [List.drop_eq_getElem_cons h1, List.drop_eq_getElem_cons h2, comH, if_pos h]
theorem comH_no {a b : List Frm} {k : Nat} (h1 : k < a.length) (h2 : k < b.length) (h : ¬ (a[k].fn = b[k].fn ∧ a[k].line = b[k].line)) : comH (a.drop k) (b.drop k) = 0 := by
  rw [List.drop_eq_getElem_cons h1, List.drop_eq_getElem_cons h2, comH, if_neg h]
theorem comH_end {a b : List Frm} {k : Nat} (h : ¬ (k < a.length ∧ k < b.length)) : comH (a.drop k) (b.drop k) = 0 := by
  by_cases h1 : k < a.length
  · have e : b.drop k = [] := List.drop_eq_nil_of_le (by omega)
    rw [e]; cases a.drop k <;> rfl
  · have e : a.drop k = [] := List.drop_eq_nil_of_le (by omega)
    rw [e]; rfl
def comX (a b : List Frm) : Int := if vTr a && vTr b then comH a b else -1

theorem comX_of {a b : List Frm} {p q : Bool} (h1 : vTr a = p) (h2 : vTr b = q) : comX a b = if p && q then (comH a b : Int) else -1 := by unfold comX; rw [h1, h2]
end

section
section
def SzOut (left : Int) (n : Nat) (w : World) (e : Ending) (w' : World) : Prop := ∃ r : Int, e = .returned (.int .i64 r) ∧ (r = -1 ∨ (0 ≤ r ∧ r ≤ left ∧ (n : Int) ≤ left)) ∧ Le w w'
end

section
theorem byte_str (w : World) (n : Int) : (convert 22 9 (.slice (some ⟨w.heap.size, 0, none⟩) 1 1)).run Tryd.prog (w.alloc (.cells #[.int .u8 n] 5)) = .ok (.string ⟨#[UInt8.ofNat n.toNat]⟩) (w.alloc (.cells #[.int .u8 n] 5)) := by
  rw [run_convert_bytes_string _ _ _ 5 _ _ _ Tryd.underlying22 Tryd.underlying5 Tryd.underlying9]
  have h := run_bytesToString (P := Tryd.prog) (w.alloc (.cells #[.int .u8 n] 5)) ⟨w.heap.size, 0, none⟩ 1 1 [n] (by simp [go_sem, loadCells])
  exact h
def mTxtF : Nat → Int → ByteArray → ByteArray
  | 0, _, o => o
  | f + 1, k, o => if 0 < k then mTxtF f (k / 10) (⟨#[UInt8.ofNat (48 + k % 10).toNat]⟩ ++ o) else o
def mTxt (k : Int) : ByteArray := ⟨#[109]⟩ ++ mTxtF k.toNat k ⟨#[]⟩
theorem mTxtF_end (f : Nat) {k : Int} (h : ¬ 0 < k) (o : ByteArray) : mTxtF f k o = o := by
  cases f with
  | zero => rfl
  | succ f => unfold mTxtF; rw [if_neg h]
theorem mTxtF_step (f : Nat) {k : Int} (h : 0 < k) (o : ByteArray) : mTxtF (f + 1) k o = mTxtF f (k / 10) (⟨#[UInt8.ofNat (48 + k % 10).toNat]⟩ ++ o) := by
  rw [mTxtF, if_pos h]
theorem mTxtF_size (f : Nat) : ∀ (k : Int) (o : ByteArray), 0 ≤ k → (mTxtF f k o).size ≤ k.toNat + o.size := by
  induction f with
  | zero => intro k o h; show o.size ≤ _; omega
  | succ f ih =>
    intro k o h
    by_cases hk : 0 < k
    · rw [mTxtF_step f hk]
      have := ih (k / 10) (⟨#[UInt8.ofNat (48 + k % 10).toNat]⟩ ++ o) (by omega)
      rw [ByteArray.size_append] at this
      have e : (⟨#[UInt8.ofNat (48 + k % 10).toNat]⟩ : ByteArray).size = 1 := rfl
      omega
    · rw [mTxtF_end _ hk]; omega
theorem mTxt_size {k : Int} (h0 : 0 ≤ k) (h1 : k ≤ 2000000000) : (mTxt k).size ≤ 9223372036854775807 := by
  unfold mTxt
  rw [ByteArray.size_append]
  have := mTxtF_size k.toNat k ⟨#[]⟩ h0
  have e : (⟨#[109]⟩ : ByteArray).size = 1 := rfl
  have e2 : (⟨#[]⟩ : ByteArray).size = 0 := rfl
  omega
def TextOut (k : Int) (w : World) (e : Ending) (w' : World) : Prop := e = .returned (.string (mTxt k)) ∧ (mTxt k).size ≤ 9223372036854775807 ∧ Le w w'
set_option maxRecDepth 100000 in
theorem markText_any (k : Int) (w : World) (h0 : 1 ≤ k) (h1 : k ≤ 2000000000) : Calls Tryd.prog 43 #[.int .i64 k] w (TextOut k w) := by
  go_enter Tryd.func43, Tryd.ntmps43
  go_wp2
  go_loopw [0, 3] (fun q o wr => ∃ k' : Int, ∃ s : ByteArray, ∃ f : Nat, 0 ≤ k' ∧ q = .int .i64 k' ∧ o = .string s ∧ k' + s.size ≤ k ∧ k'.toNat ≤ f ∧ mTxtF k.toNat k ⟨#[]⟩ = mTxtF f k' s ∧ Le w wr) (fun q _ _ => (intOf q).toNat)
  case atStart => exact ⟨k, ⟨#[]⟩, k.toNat, by omega, rfl, rfl, by simp [ByteArray.size], Nat.le_refl _, rfl, Le.refl _⟩
  case round =>
    obtain ⟨k', s, f, hk, rfl, rfl, hs, hf, hr, hle⟩ := hrel
    have HR := Lib.hid hr; clear hr
    by_cases hlt : 0 < k'
    · have hbs := byte_str wr (48 + k' % 10)
      cases f with
      | zero => omega
      | succ f =>
      have HF : Hid (mTxtF k.toNat k ⟨#[]⟩ = mTxtF f (k' / 10) (⟨#[UInt8.ofNat (48 + k' % 10).toNat]⟩ ++ s)) := by show _ = _; rw [HR.out, mTxtF_step f hlt]
      go_wp2
      go_roundw
      case rel => exact ⟨k' / 10, _, f, by omega, rfl, rfl, by rw [ByteArray.size_append]; show k' / 10 + ((1 + s.size : Nat) : Int) ≤ k; omega, by omega, HF.out, hle.alloc _⟩
      case measure => simp [intOf]; omega
    · have HF : Hid (mTxt k = ⟨#[109]⟩ ++ s) := by show _ = _; unfold mTxt; rw [HR.out, mTxtF_end f hlt]
      have HS : Hid ((mTxt k).size ≤ 9223372036854775807) := mTxt_size (by omega) h1
      go_wp2
      go_ret
      exact ⟨ret_str HF.out.symm, HS.out, hle⟩
theorem markText_ret (k : Int) (w : World) (h0 : 1 ≤ k) (h1 : k ≤ 2000000000) : Calls Tryd.prog 43 #[.int .i64 k] w fun e w' => e = .returned (.string (mTxt k)) ∧ Le w w' :=
  (markText_any k w h0 h1).mono fun _ _ h => ⟨h.1, h.2.2⟩
end
end

section
theorem infoFrame : (Tryd.prog.info? 45).map (fun i => (i.zero, i.size, i.bytes)) = some (some (.agg #[.string ByteArray.empty, .int .i64 0]), 2, 24) := by kernel_rfl
theorem toFrame_any (x : Frm) (w : World) :
    Calls Tryd.prog 41 #[.agg #[.string x.fn, .int .i64 x.line]] w fun e w' => e = .returned (.agg #[.string x.fn, .int .i64 x.line]) ∧ Le w w' := by
  go_enter Tryd.func41, Tryd.ntmps41
  go_wp2
  exact bodyPost_ret (v := .agg #[.string x.fn, .int .i64 x.line]) (by simp [results, Tryd.results41, go_sem]) rfl ⟨rfl, ((Le.new w _).alloc _).alloc _⟩

set_option maxRecDepth 100000 in
theorem toFrameS_any (A : Option Addr) (n cap : Nat) (xs : List Frm) (w : World) (hR : Sl w A n cap xs) (hn : n ≤ 1048576) :
    Calls Tryd.prog 18 #[.slice A n cap] w fun e w' => e = .returned (.slice (some ⟨w.heap.size, 0, none⟩) n n) ∧ w'.ownsRow w.heap.size 45 2 (.slice (some ⟨w.heap.size, 0, none⟩) n n) n (xs.flatMap Enc.cells) ∧ Le w w' := by
  obtain rfl := hR.len
  obtain ⟨i0, hi, hz0, hz1, hz2⟩ := info_parts infoFrame
  have hb2 : i0.bytes * xs.length ≤ 281474976710656 := by rw [hz2]; omega
  go_enter Tryd.func18, Tryd.ntmps18
  go_wp2_with (refine wpList_make_full _ rfl _ _ 23 rfl w.heap.size 45 i0 _ 2 Tryd.underlying23 hi hz0 hz1 .i64 .i64 _ _ xs.length rfl rfl rfl rfl hb2 (by unfold maxLen; omega) (Nat.le_refl _) ?_; intro w1 hown1 hg1)
  have hl1 := (Le.refl w).grown hg1 (by intro k hk; cases hk)
  go_loopw [4] (fun i wr => ∃ k : Nat, ∃ r : List Value, k ≤ xs.length ∧ i = .int .i64 k ∧ r.length = (xs.length - k) * 2 ∧ wr.ownsRow w.heap.size 45 2 (.slice (some ⟨w.heap.size, 0, none⟩) xs.length xs.length) xs.length ((xs.take k).flatMap Enc.cells ++ r) ∧ Le w wr) (fun i _ => xs.length - (intOf i).toNat)
  case atStart => exact ⟨0, _, Nat.zero_le _, rfl, by simp [madeCells], hown1, hl1⟩
  case round =>
    obtain ⟨k, r, hk, rfl, hr, hown, hle⟩ := hrel
    have hRr := hR.le hle
    clear hR hown1 hg1 hl1
    by_cases hlt : k < xs.length
    · obtain ⟨b, off, rfl, hb, hcell0, hcell1, _⟩ := hRr.frm_at hlt
      match r, hr with
      | [], h => simp at h; omega
      | [_], h => simp at h; omega
      | r0 :: r1 :: rr, hr =>
      have hfl : ((xs.take k).flatMap (Enc.cells (α := Frm))).length = k * 2 := by rw [flat_len, List.length_take]; show _ * 2 = _; rw [Nat.min_eq_left (by omega)]
      go_wp2_with fail
      refine (toFrame_any xs[k] _).mono ?_
      rintro e w2 ⟨rfl, hw2⟩
      have hown2 := own_le hown hw2
      have hc0 : w2.cell? ⟨w.heap.size, k * 2, none⟩ = some r0 := by rw [hown2.cellAt _ (by omega), List.getElem?_append_right (by omega), hfl]; simp
      have hc1 : w2.cell? ⟨w.heap.size, k * 2 + 1, none⟩ = some r1 := by rw [hown2.cellAt _ (by omega), List.getElem?_append_right (by omega), hfl]; simp
      have hf0 := hown2.frozenAt (k * 2)
      have hf1 := hown2.frozenAt (k * 2 + 1)
      go_wp2
      go_roundw
      case rel =>
        refine ⟨k + 1, rr, by omega, by go_num, by simp at hr; omega, ?_, (hle.trans hw2).setCell (Nat.le_refl _) _ |>.setCell (Nat.le_refl _) _⟩
        have h1 := ((hown2.stored (k * 2) (.string xs[k].fn)).1.stored (k * 2 + 1) (.int .i64 xs[k].line)).1
        have e : (xs.take (k + 1)).flatMap Enc.cells ++ rr = ((((xs.take k).flatMap Enc.cells ++ r0 :: r1 :: rr).set (k * 2) (.string xs[k].fn)).set (k * 2 + 1) (.int .i64 xs[k].line)) := by
          rw [List.take_succ_eq_append_getElem hlt, List.flatMap_append, List.set_append_right _ _ (by omega), List.set_append_right _ _ (by omega), hfl]
          simp [Enc.cells]
        rw [e]; exact h1
      case measure => simp [intOf]; omega
    · have hk' : k = xs.length := by omega
      have hr0 : r = [] := List.eq_nil_of_length_eq_zero (by rw [hr, hk']; simp)
      have HO : Hid (wr.ownsRow w.heap.size 45 2 (.slice (some ⟨w.heap.size, 0, none⟩) xs.length xs.length) xs.length (xs.flatMap Enc.cells)) := by
        show World.ownsRow _ _ _ _ _ _ _
        rw [hk', hr0] at hown; simpa using hown
      clear hk' hr0 hr hown
      go_wp2
      go_ret
      exact ⟨rfl, HO.out, hle⟩

theorem eqFrame_self (x : Frm) (w : World) : Calls Tryd.prog 42 #[.agg #[.string x.fn, .int .i64 x.line], .agg #[.string x.fn, .int .i64 x.line]] w fun e w' => e = .returned (.bool true) ∧ Le w w' := by
  go_enter Tryd.func42, Tryd.ntmps42
  go_wp2
  go_ret
  exact ⟨rfl, (Le.new w _).alloc _⟩

theorem eqFrameS_self (A B : Option Addr) (n c d : Nat) (xs : List Frm) (w : World) (hR : Sl w A n c xs) (hS : Sl w B n d xs) :
    Calls Tryd.prog 19 #[.slice A n c, .slice B n d] w fun e w' => e = .returned (.bool true) ∧ Le w w' := by
  obtain rfl := hR.len
  have hm := hR.n_le
  have hb : ((xs.length : Int) != (xs.length : Int)) = false := by simp
  go_enter Tryd.func19, Tryd.ntmps19
  go_wp2
  go_loopw [5] (fun i wr => ∃ k : Nat, k ≤ xs.length ∧ i = .int .i64 k ∧ Le w wr) (fun i _ => xs.length - (intOf i).toNat)
  case atStart => exact ⟨0, Nat.zero_le _, rfl, Le.refl _⟩
  case round =>
    obtain ⟨k, hk, rfl, hle⟩ := hrel
    have hRr := hR.le hle
    have hSr := hS.le hle
    clear hR hS
    by_cases hlt : k < xs.length
    · obtain ⟨b, off, rfl, hb, hcell0, hcell1, _⟩ := hRr.frm_at hlt
      obtain ⟨b2, off2, rfl, hb2, hdell0, hdell1, _⟩ := hSr.frm_at hlt
      have E0 := cell_ext hb hcell0
      have E1 := cell_ext hb hcell1
      have F0 := cell_ext hb2 hdell0
      have F1 := cell_ext hb2 hdell1
      go_wp2_with fail
      refine wp_region_ext (by kernel_rfl) (by kernel_rfl) ?_
      repeat (go_big_quiet_step (first | (go_at_call 42; exact Calls.ext_of (eqFrame_self xs[k] _))))
      refine wpQuiet_nil ?_
      intro _ hw'
      obtain ⟨g, rfl⟩ := hw'
      have hw1 := Le.ext wr g
      generalize wr.ext g = W2 at *
      go_wp2
      go_roundw
      case rel => exact ⟨k + 1, by omega, by go_num, hle.trans hw1⟩
      case measure => simp [intOf]; omega
    · go_wp2
      go_ret
      exact ⟨rfl, hle⟩

def mFrm (k : Int) (i : Nat) : Frm := ⟨mTxt (k + 2 * i), k + 2 * i + 1⟩

set_option maxHeartbeats 1000000 in
set_option maxRecDepth 100000 in
theorem markFrameS_row (g n c : Nat) (xs : List Value) (q : Int) (w : World) (base : Nat) (hR : w.ownsRow base 45 2 (.slice (some ⟨g, 0, none⟩) n c) n xs) (h0 : 1 ≤ q) (h1 : q ≤ 1000000000) (hn : n ≤ 1048576) :
    Calls Tryd.prog 20 #[.slice (some ⟨g, 0, none⟩) n c, .int .i64 q] w fun e w' => e = .returned (.int .i64 (q + 2 * n)) ∧ w'.ownsRow base 45 2 (.slice (some ⟨g, 0, none⟩) n c) n (((List.range n).map (mFrm q)).flatMap Enc.cells) ∧ w.grownBy w' (some g) := by
  go_enter Tryd.func20, Tryd.ntmps20
  go_wp2
  have hin := hR.1
  go_loopw [1, 5] (fun z i wr => ∃ k : Nat, ∃ r : List Value, k ≤ n ∧ i = .int .i64 k ∧ z = .int .i64 (q + 2 * k) ∧ r.length = (n - k) * 2 ∧ wr.ownsRow base 45 2 (.slice (some ⟨g, 0, none⟩) n c) n (((List.range k).map (mFrm q)).flatMap Enc.cells ++ r) ∧ w.grownBy wr (some g)) (fun _ i _ => n - (intOf i).toNat)
  case atStart => exact ⟨0, xs, Nat.zero_le _, rfl, by simp, by omega, by simpa using hR, World.grownBy.refl w _⟩
  case round =>
    obtain ⟨k, r, hk, rfl, rfl, hr, hown, hgr⟩ := hrel
    clear hR hin
    by_cases hlt : k < n
    · match r, hr with
      | [], h => simp at h; omega
      | [_], h => simp at h; omega
      | r0 :: r1 :: rr, hr =>
      have hfl : ((((List.range k).map (mFrm q)).flatMap (Enc.cells (α := Frm)))).length = k * 2 := by rw [flat_len, List.length_map, List.length_range]; rfl
      have hc0 : wr.cell? ⟨g, k * 2, none⟩ = some r0 := by rw [hown.cellAt _ (by omega), List.getElem?_append_right (by omega), hfl]; simp
      have hc1 : wr.cell? ⟨g, k * 2 + 1, none⟩ = some r1 := by rw [hown.cellAt _ (by omega), List.getElem?_append_right (by omega), hfl]; simp
      have hf0 := hown.frozenAt (k * 2)
      have hf1 := hown.frozenAt (k * 2 + 1)
      have HFL := Lib.hid hfl; clear hfl
      go_wp2_with fail
      refine (markText_any (q + 2 * k) _ (by omega) (by omega)).mono ?_
      rintro e w2 ⟨rfl, hsz, hw2⟩
      have hown2 := own_le hown hw2
      have hgl := own_lt hown
      have hd0 := (hw2.cell (b := g) (o := k * 2) hgl).trans hc0
      have hg0 := hown2.frozenAt (k * 2)
      have hd1 := (hw2.cell (b := g) (o := k * 2 + 1) hgl).trans hc1
      have hg1 := hown2.frozenAt (k * 2 + 1)
      clear hc0 hf0 hc1 hf1
      go_wp2
      go_roundw
      case rel =>
        refine ⟨k + 1, rr, by omega, by go_num, by congr 1; omega, by simp at hr; omega, ?_, ?_⟩
        · have h1 := ((hown2.stored (k * 2) (.string (mTxt (q + 2 * k)))).1.stored (k * 2 + 1) (.int .i64 (q + 2 * k + 1))).1
          have e : ((List.range (k + 1)).map (mFrm q)).flatMap Enc.cells ++ rr = (((((List.range k).map (mFrm q)).flatMap Enc.cells ++ r0 :: r1 :: rr).set (k * 2) (.string (mTxt (q + 2 * k)))).set (k * 2 + 1) (.int .i64 (q + 2 * k + 1))) := by
            rw [List.set_append_right _ _ (by have := HFL.out; omega), List.set_append_right _ _ (by have := HFL.out; omega), HFL.out, List.range_succ, List.map_append, List.flatMap_append]
            simp [Enc.cells, mFrm]
          rw [e]; exact h1
        · exact (gx_set (gx_set (gx_le hgr hw2) _) _)
      case measure => simp [intOf]; omega
    · have he : k = n := by omega
      have hr0 : r = [] := List.eq_nil_of_length_eq_zero (by rw [hr, he]; simp)
      subst he
      have HO : Hid (wr.ownsRow base 45 2 (.slice (some ⟨g, 0, none⟩) k c) k (((List.range k).map (mFrm q)).flatMap Enc.cells)) := by
        show World.ownsRow _ _ _ _ _ _ _
        rw [hr0] at hown; simpa using hown
      clear hown hr0 hr
      go_wp2
      go_ret
      exact ⟨rfl, HO.out, hgr⟩

theorem markFrameS_any (A : Option Addr) (n c : Nat) (xs : List Value) (q : Int) (w : World) (base : Nat) (hR : w.ownsRow base 45 2 (.slice A n c) n xs) (h0 : 1 ≤ q) (h1 : q ≤ 1000000000) (hn : n ≤ 1048576) :
    Calls Tryd.prog 20 #[.slice A n c, .int .i64 q] w fun e w' => e = .returned (.int .i64 (q + 2 * n)) ∧ w'.ownsRow base 45 2 (.slice A n c) n (((List.range n).map (mFrm q)).flatMap Enc.cells) ∧ w.grownBy w' (Value.slice A n c).ownBlock := by
  rcases hR.2 with ⟨h, h0'⟩ | ⟨g, c', _, h, _⟩
  · simp only [Value.slice.injEq] at h
    obtain ⟨rfl, rfl, rfl⟩ := h
    go_enter Tryd.func20, Tryd.ntmps20
    go_wp2
    refine wp_loop_rounds 1 ?_
    rw [rounds_succ]
    go_wp2
    go_ret
    exact ⟨by simp, World.ownsRow_nil w base 45 2, World.grownBy.refl w _⟩
  · simp only [Value.slice.injEq, true_and] at h
    obtain ⟨rfl, rfl⟩ := h
    exact markFrameS_row g n c xs q w base hR h0 h1 hn

theorem mFrm_ok {q : Int} (h0 : 1 ≤ q) (h1 : q ≤ 1000000000) {n : Nat} (hn : n ≤ 1048576) : ∀ x ∈ (List.range n).map (mFrm q), Enc.ok x := by
  intro x hx
  simp at hx
  obtain ⟨i, hi, rfl⟩ := hx
  exact ⟨mTxt_size (by omega) (by omega), by show _ ≤ _; simp only [mFrm]; omega, by show _ ≤ _; simp only [mFrm]; omega⟩

theorem heldFrameS_any (A : Option Addr) (n c : Nat) (q : Int) (w : World) (hR : Sl w A n c ((List.range n).map (mFrm q))) (h0 : 1 ≤ q) (h1 : q ≤ 1000000000) (hn : n ≤ 1048576) :
    Calls Tryd.prog 21 #[.slice A n c, .int .i64 q] w fun e w' => e = .returned (.int .i64 (q + 2 * n)) ∧ Le w w' := by
  have hl : ((List.range n).map (mFrm q)).length = n := by simp
  have HL := Lib.hid hl; clear hl
  go_enter Tryd.func21, Tryd.ntmps21
  go_wp2
  go_loopw [1, 5] (fun z i wr => ∃ k : Nat, k ≤ n ∧ i = .int .i64 k ∧ z = .int .i64 (q + 2 * k) ∧ Le w wr) (fun _ i _ => n - (intOf i).toNat)
  case atStart => exact ⟨0, Nat.zero_le _, rfl, by simp, Le.refl _⟩
  case round =>
    obtain ⟨k, hk, rfl, rfl, hle⟩ := hrel
    have hRr := hR.le hle
    clear hR
    by_cases hlt : k < n
    · obtain ⟨b, off, rfl, hb, hcell0, hcell1, _⟩ := hRr.frm_at (k := k) (by rw [HL.out]; exact hlt)
      have hx : ((List.range n).map (mFrm q))[k]'(by rw [HL.out]; exact hlt) = mFrm q k := by simp
      rw [hx] at hcell0 hcell1
      simp only [mFrm] at hcell0 hcell1
      clear hx
      have E0 := cell_ext hb hcell0
      have E1 := cell_ext hb hcell1
      go_wp2_with fail
      refine wp_region_ext (by kernel_rfl) (by kernel_rfl) ?_
      repeat (go_big_quiet_step (first | (go_at_call 43; exact Calls.ext_of (markText_ret _ _ (by omega) (by omega)))))
      refine wpQuiet_nil ?_
      intro _ hw'
      obtain ⟨g, rfl⟩ := hw'
      replace hle := hle.trans (Le.ext wr g)
      replace hcell0 := E0 g
      replace hcell1 := E1 g
      clear E0 E1
      generalize wr.ext g = W2 at *
      go_wp2
      go_roundw
      case rel => exact ⟨k + 1, by omega, by go_num, by congr 1; omega, hle⟩
      case measure => simp [intOf]; omega
    · have he : k = n := by omega
      subst he
      go_wp2
      go_ret
      exact ⟨rfl, hle⟩

theorem szFrame_any (c : Frm) (left : Int) (w : World) (hc : Enc.ok c) (h0 : 0 ≤ left) (h1 : left ≤ 1048576) :
    Calls Tryd.prog 40 #[.agg #[.string c.fn, .int .i64 c.line], .int .i64 left] w (SzOut left c.fn.size w) := by
  have hn : (c.fn.size : Int) ≤ 9223372036854775807 := by have := hc.1; omega
  by_cases h : left - c.fn.size < 0
  · go_enter Tryd.func40, Tryd.ntmps40
    go_wp2
    go_ret
    exact ⟨-1, rfl, .inl rfl, Le.new w _⟩
  · go_enter Tryd.func40, Tryd.ntmps40
    go_wp2
    go_ret
    exact ⟨_, rfl, .inr ⟨by omega, by omega, by omega⟩, Le.new w _⟩

theorem szFrameS_any (A : Option Addr) (n cap : Nat) (xs : List Frm) (left : Int) (w : World) (hR : Sl w A n cap xs) (h0 : 0 ≤ left) (h1 : left ≤ 1048576) :
    Calls Tryd.prog 17 #[.slice A n cap, .int .i64 left] w (SzOut left n w) := by
  obtain rfl := hR.len
  have hm := hR.n_le
  by_cases h : left - xs.length < 0
  · go_enter Tryd.func17, Tryd.ntmps17
    go_wp2
    go_ret
    exact ⟨-1, rfl, .inl rfl, Le.refl w⟩
  · go_enter Tryd.func17, Tryd.ntmps17
    go_wp2
    go_loopw [1, 5] (fun lf i wr => ∃ k : Nat, ∃ r : Int, k ≤ xs.length ∧ i = .int .i64 k ∧ lf = .int .i64 r ∧ 0 ≤ r ∧ r ≤ left ∧ Le w wr) (fun _ i _ => xs.length - (intOf i).toNat)
    case atStart => exact ⟨0, left - xs.length, Nat.zero_le _, rfl, rfl, by omega, by omega, Le.refl _⟩
    case round =>
      obtain ⟨k, r, hk, rfl, rfl, hr0, hr1, hle⟩ := hrel
      have hRr := hR.le hle
      clear hR
      by_cases hlt : k < xs.length
      · obtain ⟨b, off, rfl, hb, hcell0, hcell1, _⟩ := hRr.frm_at hlt
        go_wp2_with fail
        refine (szFrame_any xs[k] _ _ (hRr.ok _ (List.getElem_mem hlt)) hr0 (by omega)).mono ?_
        rintro e w' ⟨r2, rfl, hr2, hle2⟩
        rcases hr2 with rfl | ⟨h20, h21, _⟩
        · go_wp2
          go_ret
          exact ⟨-1, rfl, .inl rfl, hle.trans hle2⟩
        · have hneg : decide (r2 < 0) = false := decide_eq_false (by omega)
          go_wp2
          go_roundw
          case rel => exact ⟨k + 1, r2, by omega, by go_num, rfl, by omega, by omega, hle.trans hle2⟩
          case measure => simp [intOf]; omega
      · go_wp2
        go_ret
        exact ⟨r, rfl, .inr ⟨hr0, by omega, by omega⟩, hle⟩
end
end Go.Proofs.YtnjckloodkdbpaaDoor
