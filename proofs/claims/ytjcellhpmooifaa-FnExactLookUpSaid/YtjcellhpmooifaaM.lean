import Derived.Test.YtjcellhpmooifaaI
import Derived.Test.YtjcellhpmooifaaOP
import Derived.LaidEqlPtr
namespace Go.Proofs.Ytjcellhpmooifaa
open Go.RowKit

/-- a pointer to the head of a block -/
structure PB where
  g : Nat
instance instEncPB : Enc PB := ⟨1, fun p => [.pointer (some ⟨p.g, 0, none⟩)], fun _ => True, fun _ => rfl⟩
def ptrOf (gs : List PB) (a : Int) : Option Addr := if a < 0 then none else (gs[a.toNat]?).map fun p => ⟨p.g, 0, none⟩
structure Nds (w : World) (gs : List PB) (xs : List Cls) : Prop where
  len : gs.length = xs.length
  asc : ∀ i j (hi : i < gs.length) (hj : j < gs.length), i < j → gs[i].g < gs[j].g
  lt : ∀ i (hi : i < gs.length), gs[i].g < w.heap.size
  row : ∀ i (hi : i < gs.length) (hx : i < xs.length), w.heap[gs[i].g]? = some (.cells #[.int .i64 i, .pointer (ptrOf gs xs[i].parent)] 132 (0, 0))
theorem Nds.le {w w' : World} {gs : List PB} {xs : List Cls} (h : Nds w gs xs) (hl : Le w w') : Nds w' gs xs :=
  ⟨h.len, h.asc, fun i hi => Nat.lt_of_lt_of_le (h.lt i hi) hl.size, fun i hi hx => (Below.block hl _ (h.lt i hi)).trans (h.row i hi hx)⟩
theorem Nds.idx {w : World} {gs : List PB} {xs : List Cls} (h : Nds w gs xs) (i : Nat) (hi : i < gs.length) : w.cell? ⟨gs[i].g, 0, none⟩ = some (.int .i64 i) := by
  have hx : i < xs.length := by have := h.len; omega
  exact (cell_of_row w _ 0 _ _ _ (h.row i hi hx)).trans rfl
theorem Nds.up {w : World} {gs : List PB} {xs : List Cls} (h : Nds w gs xs) (i : Nat) (hi : i < gs.length) (hx : i < xs.length) : w.cell? ⟨gs[i].g, 1, none⟩ = some (.pointer (ptrOf gs xs[i].parent)) :=
  (cell_of_row w _ 1 _ _ _ (h.row i hi hx)).trans rfl
theorem ptrOf_at {gs : List PB} {i : Nat} (h : i < gs.length) : ptrOf gs (i : Int) = some ⟨gs[i].g, 0, none⟩ := by
  unfold ptrOf; rw [if_neg (by omega), Int.toNat_natCast, List.getElem?_eq_getElem h]; rfl
theorem ptrOf_neg {gs : List PB} {a : Int} (h : a < 0) : ptrOf gs a = none := by unfold ptrOf; rw [if_pos h]
theorem ptrOf_high {gs : List PB} {a : Int} (h : (gs.length : Int) ≤ a) : ptrOf gs a = none := by
  unfold ptrOf; rw [if_neg (by omega), List.getElem?_eq_none (by omega)]; rfl
theorem Sl.pb_at {w : World} {A : Option Addr} {n cap : Nat} {gs : List PB} (h : Sl w A n cap gs) {k : Nat} (hk : k < gs.length) :
    ∃ b off, A = some ⟨b, off, none⟩ ∧ b < w.heap.size ∧ w.cell? ⟨b, off + k, none⟩ = some (.pointer (some ⟨gs[k].g, 0, none⟩)) := by
  obtain ⟨b, off, e, hb, hc⟩ := h.cells_ hk
  have := hc 0 (by decide) _ rfl
  exact ⟨b, off, e, hb, by simpa [Enc.size] using this⟩

theorem nodeAt_any (A : Option Addr) (n cap : Nat) (gs : List PB) (i : Int) (w : World) (hR : Sl w A n cap gs) :
    Calls Try.prog 124 #[.slice A n cap, .int .i64 i] w fun e w' => e = .returned (.pointer (ptrOf gs i)) ∧ w = w' := by
  obtain rfl := hR.len
  have hm := hR.n_le
  by_cases h0 : i < 0
  · have HF := Lib.hid (ptrOf_neg (gs := gs) h0)
    go_enter Try.func124, Try.ntmps124
    go_wp2
    go_ret
    exact ⟨by rw [HF.out]; rfl, rfl⟩
  · by_cases h1 : (gs.length : Int) ≤ i
    · have HF := Lib.hid (ptrOf_high (gs := gs) h1)
      go_enter Try.func124, Try.ntmps124
      go_wp2
      go_ret
      exact ⟨by rw [HF.out]; rfl, rfl⟩
    · obtain ⟨k, rfl⟩ := Int.eq_ofNat_of_zero_le (by omega : 0 ≤ i)
      have hk : k < gs.length := by omega
      obtain ⟨b, off, rfl, hb, hcell⟩ := hR.pb_at hk
      have HF := Lib.hid (ptrOf_at hk)
      go_enter Try.func124, Try.ntmps124
      go_wp2
      go_ret
      exact ⟨by rw [HF.out]; rfl, rfl⟩

theorem pb_ne {w : World} {gs : List PB} {xs : List Cls} (h : Nds w gs xs) {i j : Nat} (hi : i < gs.length) (hj : j < gs.length) : (gs[i].g = gs[j].g) ↔ i = j := by
  constructor
  · intro e
    rcases Nat.lt_trichotomy i j with h1 | h1 | h1
    · have := h.asc i j hi hj h1; omega
    · exact h1
    · have := h.asc j i hj hi h1; omega
  · rintro rfl; rfl

theorem ptrOf_form {gs : List PB} {xs : List Cls} {a : Int} (hl : gs.length = xs.length) (ha : a < xs.length) : ptrOf gs a = none ∧ a < 0 ∨ ∃ i : Nat, ∃ h : i < gs.length, a = i ∧ ptrOf gs a = some ⟨gs[i].g, 0, none⟩ := by
  by_cases h : a < 0
  · exact .inl ⟨ptrOf_neg h, h⟩
  · obtain ⟨i, rfl⟩ := Int.eq_ofNat_of_zero_le (by omega : 0 ≤ a)
    exact .inr ⟨i, by omega, rfl, ptrOf_at (by omega)⟩
theorem blk_up {w : World} {gs : List PB} {xs : List Cls} (hN : Nds w gs xs) (g : Good xs) {i : Nat} (hi : i < gs.length) (hx : i < xs.length) : blk (.pointer (ptrOf gs xs[i].parent)) < blk (.pointer (some ⟨gs[i].g, 0, none⟩)) := by
  have hp := g.par_le hx
  rcases ptrOf_form (gs := gs) (xs := xs) (a := xs[i].parent) hN.len (by omega) with ⟨h, _⟩ | ⟨k, hk, e, h⟩
  · rw [h]; simp [blk]
  · rw [h]
    have := hN.asc k i hk hi (by omega)
    simp [blk]; omega

theorem nodeInfo : (Try.prog.info? 132).map (fun i => (i.zero, i.size, i.bytes)) = some (some (.agg #[.int .i64 0, .pointer none]), 2, 16) := by kernel_rfl
theorem eql_same (w : World) (g : Nat) : (binOp .eql 120 (.pointer (some ⟨g, 0, none⟩)) (.pointer (some ⟨g, 0, none⟩))).run Try.prog w = .ok (.bool true) w := by
  obtain ⟨i0, hi, hz0, hz1, hz2⟩ := info_parts nodeInfo
  exact run_eql_ptr_same w _ Try.underlying120 hi
theorem eql_other {w : World} {gs : List PB} {xs : List Cls} (h : Nds w gs xs) {i j : Nat} (hi : i < gs.length) (hj : j < gs.length) (hx : i < xs.length) (hy : j < xs.length) (hne : i ≠ j) :
    (binOp .eql 120 (.pointer (some ⟨gs[i].g, 0, none⟩)) (.pointer (some ⟨gs[j].g, 0, none⟩))).run Try.prog w = .ok (.bool false) w := by
  obtain ⟨i0, hi0, hz0, hz1, hz2⟩ := info_parts nodeInfo
  have hgne := mt (pb_ne h hi hj).1 hne
  exact run_eql_ptr_other w Try.underlying120 hi0 (by rw [hz1]; decide) (fun e => hgne (congrArg Addr.block e)) (h.row i hi hx) (h.row j hj hy)

set_option maxRecDepth 100000 in
theorem catches_any (gs : List PB) (xs : List Cls) (g : Good xs) (j : Nat) (hj : j < gs.length) (a : Int) (ha : a < xs.length) (ha0 : -1 ≤ a) (w : World) (hN : Nds w gs xs) :
    Calls Try.prog 125 #[.pointer (some ⟨gs[j].g, 0, none⟩), .pointer (ptrOf gs a)] w fun e w' => e = .returned (.bool (isAL xs a j)) ∧ w = w' := by
  have hlen := hN.len
  have HL := Lib.hid hlen; clear hlen
  go_enter Try.func125, Try.ntmps125
  go_wp2
  go_loop [1] (fun c => ∃ a' : Int, a' < xs.length ∧ c = .pointer (ptrOf gs a') ∧ isAL xs a j = isAL xs a' j ∧ -1 ≤ a') (fun c => blk c)
  case atStart => exact ⟨a, ha, rfl, rfl, ha0⟩
  case round =>
    obtain ⟨a', h1, rfl, hr, h2⟩ := hrel
    have HR := Lib.hid hr; clear hr
    rcases ptrOf_form (gs := gs) HL.out h1 with ⟨hp, h0⟩ | ⟨i, hi, rfl, hp⟩
    · have HF : Hid (isAL xs a j = false) := by show _ = _; rw [HR.out, isAL_neg h0]
      rw [hp]
      clear hp
      go_wp2
      go_ret
      exact ⟨ret_bool HF.out.symm, rfl⟩
    · rw [hp]
      clear hp
      by_cases hij : i = j
      · subst hij
        have HF : Hid (isAL xs a i = true) := by show _ = _; rw [HR.out, isAL_at g (by omega)]; simp
        have hq := eql_same w gs[i].g
        go_wp2
        go_ret
        exact ⟨ret_bool HF.out.symm, rfl⟩
      · have hq := eql_other hN hi hj (by have := HL.out; omega) (by have := HL.out; omega) hij
        have hc := hN.up i hi (by omega)
        have HF : Hid (isAL xs a j = isAL xs xs[i].parent j) := by
          show _ = _; rw [HR.out, isAL_at g (by omega)]
          have : ((i : Int) == (j : Int)) = false := by simp; omega
          rw [this]; rfl
        have HB := Lib.hid (blk_up hN g hi (by omega))
        have hpl := g.par_le (i := i) (by omega)
        clear HR
        go_wp2
        go_round
        case rel => exact ⟨xs[i].parent, by omega, rfl, HF.out, by omega⟩
        case measure => exact HB.out
end Go.Proofs.Ytjcellhpmooifaa
