/- one text of WyM, Rg, WyC, RnP -/
import Derived.Test.YtlepgfccnfcagaaWp2
import Derived.Test.YtlepgfccnfcagaaWp5
import Derived.Test.YtlepgfccnfcagaaWp1
import Derived.Test.YtlepgfccnfcagaaWp3
import Derived.LaidEqlPtr
import Derived.Deep.RegionHeld3
import Derived.WalkMore
import Derived.Scope
import Derived.Deep.LoopGhost
namespace Go.Proofs.Ytlepgfccnfcagaa
open Go.RowKit
set_option linter.unusedVariables false
section
section
section
/-- a pointer to the head of a block -/
structure PB where
  g : Nat
instance instEncPB : Enc PB := ⟨1, fun p => [.pointer (some ⟨p.g, 0, none⟩)], fun _ => True, fun _ => rfl⟩
def ptrOf (gs : List PB) (a : Int) : Option Addr := if a < 0 then none else (gs[a.toNat]?).map fun p => ⟨p.g, 0, none⟩
structure Nds (w : World) (gs : List PB) (xs : List Cls) : Prop where
  len : gs.length = xs.length
  asc : ∀ i j (hi : i < gs.length) (hj : j < gs.length), i < j → gs[i].g < gs[j].g
  lt : ∀ i (hi : i < gs.length), gs[i].g < w.heap.size
  row : ∀ i (hi : i < gs.length) (hx : i < xs.length), w.heap[gs[i].g]? = some (.cells #[.int .i64 i, .pointer (ptrOf gs xs[i].parent)] 152 (0, 0))
theorem Nds.le {w w' : World} {gs : List PB} {xs : List Cls} (h : Nds w gs xs) (hl : Le w w') : Nds w' gs xs :=
  ⟨h.len, h.asc, fun i hi => Nat.lt_of_lt_of_le (h.lt i hi) hl.size, fun i hi hx => (Below.block hl _ (h.lt i hi)).trans (h.row i hi hx)⟩
theorem Nds.idx {w : World} {gs : List PB} {xs : List Cls} (h : Nds w gs xs) (i : Nat) (hi : i < gs.length) : w.cell? ⟨gs[i].g, 0, none⟩ = some (.int .i64 i) := by
  have hx : i < xs.length := by have := h.len; omega
  exact (cell_of_row w _ 0 _ _ _ (h.row i hi hx)).trans rfl
theorem Nds.up {w : World} {gs : List PB} {xs : List Cls} (h : Nds w gs xs) (i : Nat) (hi : i < gs.length) (hx : i < xs.length) : w.cell? ⟨gs[i].g, 1, none⟩ = some (.pointer (ptrOf gs xs[i].parent)) :=
  (cell_of_row w _ 1 _ _ _ (h.row i hi hx)).trans rfl
theorem ptrOf_at {gs : List PB} {i : Nat} (h : i < gs.length) : ptrOf gs (i : Int) = some ⟨gs[i].g, 0, none⟩ := by
  unfold ptrOf; rw [if_neg (by omega), Int.toNat_natCast, List.getElem?_eq_getElem h]; rfl
theorem ptrOf_neg {gs : List PB} {a : Int} (h : a < 0) : ptrOf gs a = none := by unfold ptrOf; rw [if_pos h]
theorem ptrOf_high {gs : List PB} {a : Int} (h : (gs.length : Int) ≤ a) : ptrOf gs a = none := by
  unfold ptrOf; rw [if_neg (by omega), List.getElem?_eq_none (by omega)]; rfl
theorem Sl.pb_at {w : World} {A : Option Addr} {n cap : Nat} {gs : List PB} (h : Sl w A n cap gs) {k : Nat} (hk : k < gs.length) :
    ∃ b off, A = some ⟨b, off, none⟩ ∧ b < w.heap.size ∧ w.cell? ⟨b, off + k, none⟩ = some (.pointer (some ⟨gs[k].g, 0, none⟩)) := by
  obtain ⟨b, off, e, hb, hc⟩ := h.cells_ hk
  have := hc 0 (by decide) _ rfl
  exact ⟨b, off, e, hb, by simpa [Enc.size] using this⟩

theorem nodeAt_any (A : Option Addr) (n cap : Nat) (gs : List PB) (i : Int) (w : World) (hR : Sl w A n cap gs) :
    Calls Try.prog 129 #[.slice A n cap, .int .i64 i] w fun e w' => e = .returned (.pointer (ptrOf gs i)) ∧ w = w' := by
  obtain rfl := hR.len
  have hm := hR.n_le
  by_cases h0 : i < 0
  · have HF := Lib.hid (ptrOf_neg (gs := gs) h0)
    go_enter Try.func129, Try.ntmps129
    go_wp2
    go_ret
    exact ⟨by rw [HF.out]; rfl, rfl⟩
  · by_cases h1 : (gs.length : Int) ≤ i
    · have HF := Lib.hid (ptrOf_high (gs := gs) h1)
      go_enter Try.func129, Try.ntmps129
      go_wp2
      go_ret
      exact ⟨by rw [HF.out]; rfl, rfl⟩
    · obtain ⟨k, rfl⟩ := Int.eq_ofNat_of_zero_le (by omega : 0 ≤ i)
      have hk : k < gs.length := by omega
      obtain ⟨b, off, rfl, hb, hcell⟩ := hR.pb_at hk
      have HF := Lib.hid (ptrOf_at hk)
      go_enter Try.func129, Try.ntmps129
      go_wp2
      go_ret
      exact ⟨by rw [HF.out]; rfl, rfl⟩

theorem pb_ne {w : World} {gs : List PB} {xs : List Cls} (h : Nds w gs xs) {i j : Nat} (hi : i < gs.length) (hj : j < gs.length) : (gs[i].g = gs[j].g) ↔ i = j := by
  constructor
  · intro e
    rcases Nat.lt_trichotomy i j with h1 | h1 | h1
    · have := h.asc i j hi hj h1; omega
    · exact h1
    · have := h.asc j i hj hi h1; omega
  · rintro rfl; rfl

theorem ptrOf_form {gs : List PB} {xs : List Cls} {a : Int} (hl : gs.length = xs.length) (ha : a < xs.length) : ptrOf gs a = none ∧ a < 0 ∨ ∃ i : Nat, ∃ h : i < gs.length, a = i ∧ ptrOf gs a = some ⟨gs[i].g, 0, none⟩ := by
  by_cases h : a < 0
  · exact .inl ⟨ptrOf_neg h, h⟩
  · obtain ⟨i, rfl⟩ := Int.eq_ofNat_of_zero_le (by omega : 0 ≤ a)
    exact .inr ⟨i, by omega, rfl, ptrOf_at (by omega)⟩
theorem blk_up {w : World} {gs : List PB} {xs : List Cls} (hN : Nds w gs xs) (g : Good xs) {i : Nat} (hi : i < gs.length) (hx : i < xs.length) : blk (.pointer (ptrOf gs xs[i].parent)) < blk (.pointer (some ⟨gs[i].g, 0, none⟩)) := by
  have hp := g.par_le hx
  rcases ptrOf_form (gs := gs) (xs := xs) (a := xs[i].parent) hN.len (by omega) with ⟨h, _⟩ | ⟨k, hk, e, h⟩
  · rw [h]; simp [blk]
  · rw [h]
    have := hN.asc k i hk hi (by omega)
    simp [blk]; omega

theorem nodeInfo : (Try.prog.info? 152).map (fun i => (i.zero, i.size, i.bytes)) = some (some (.agg #[.int .i64 0, .pointer none]), 2, 16) := by kernel_rfl
theorem eql_same (w : World) (g : Nat) : (binOp .eql 146 (.pointer (some ⟨g, 0, none⟩)) (.pointer (some ⟨g, 0, none⟩))).run Try.prog w = .ok (.bool true) w := by
  obtain ⟨i0, hi, hz0, hz1, hz2⟩ := info_parts nodeInfo
  exact run_eql_ptr_same w _ Try.underlying146 hi
theorem eql_other {w : World} {gs : List PB} {xs : List Cls} (h : Nds w gs xs) {i j : Nat} (hi : i < gs.length) (hj : j < gs.length) (hx : i < xs.length) (hy : j < xs.length) (hne : i ≠ j) :
    (binOp .eql 146 (.pointer (some ⟨gs[i].g, 0, none⟩)) (.pointer (some ⟨gs[j].g, 0, none⟩))).run Try.prog w = .ok (.bool false) w := by
  obtain ⟨i0, hi0, hz0, hz1, hz2⟩ := info_parts nodeInfo
  have hgne := mt (pb_ne h hi hj).1 hne
  exact run_eql_ptr_other w Try.underlying146 hi0 (by rw [hz1]; decide) (fun e => hgne (congrArg Addr.block e)) (h.row i hi hx) (h.row j hj hy)

set_option maxRecDepth 100000 in
theorem catches_any (gs : List PB) (xs : List Cls) (g : Good xs) (j : Nat) (hj : j < gs.length) (a : Int) (ha : a < xs.length) (ha0 : -1 ≤ a) (w : World) (hN : Nds w gs xs) :
    Calls Try.prog 135 #[.pointer (some ⟨gs[j].g, 0, none⟩), .pointer (ptrOf gs a)] w fun e w' => e = .returned (.bool (isAL xs a j)) ∧ w = w' := by
  have hlen := hN.len
  have HL := Lib.hid hlen; clear hlen
  go_enter Try.func135, Try.ntmps135
  go_wp2
  go_loop [1] (fun c => ∃ a' : Int, a' < xs.length ∧ c = .pointer (ptrOf gs a') ∧ isAL xs a j = isAL xs a' j ∧ -1 ≤ a') (fun c => blk c)
  case atStart => exact ⟨a, ha, rfl, rfl, ha0⟩
  case round =>
    obtain ⟨a', h1, rfl, hr, h2⟩ := hrel
    have HR := Lib.hid hr; clear hr
    rcases ptrOf_form (gs := gs) HL.out h1 with ⟨hp, h0⟩ | ⟨i, hi, rfl, hp⟩
    · have HF : Hid (isAL xs a j = false) := by show _ = _; rw [HR.out, isAL_neg h0]
      rw [hp]
      clear hp
      go_wp2
      go_ret
      exact ⟨ret_bool HF.out.symm, rfl⟩
    · rw [hp]
      clear hp
      by_cases hij : i = j
      · subst hij
        have HF : Hid (isAL xs a i = true) := by show _ = _; rw [HR.out, isAL_at g (by omega)]; simp
        have hq := eql_same w gs[i].g
        go_wp2
        go_ret
        exact ⟨ret_bool HF.out.symm, rfl⟩
      · have hq := eql_other hN hi hj (by have := HL.out; omega) (by have := HL.out; omega) hij
        have hc := hN.up i hi (by omega)
        have HF : Hid (isAL xs a j = isAL xs xs[i].parent j) := by
          show _ = _; rw [HR.out, isAL_at g (by omega)]
          have : ((i : Int) == (j : Int)) = false := by simp; omega
          rw [this]; rfl
        have HB := Lib.hid (blk_up hN g hi (by omega))
        have hpl := g.par_le (i := i) (by omega)
        clear HR
        go_wp2
        go_round
        case rel => exact ⟨xs[i].parent, by omega, rfl, HF.out, by omega⟩
        case measure => exact HB.out
end

section
def NodesOut (xs : List Cls) (w : World) (e : Ending) (w' : World) : Prop :=
  Le w w' ∧ ((okTree xs = false ∧ e = .returned (.slice none 0 0)) ∨ (okTree xs = true ∧ ∃ g gs, e = .returned (.slice (some ⟨g, 0, none⟩) xs.length xs.length) ∧ Sl w' (some ⟨g, 0, none⟩) xs.length xs.length gs ∧ Nds w' gs xs))
theorem pnInfo : (Try.prog.info? 146).map (fun i => (i.zero, i.size, i.bytes)) = some (some (.pointer none), 1, 8) := by kernel_rfl

theorem nds_step {wr W' : World} {gs : List PB} {xs : List Cls} {k R B : Nat} (hk : k < xs.length) (hgl : gs.length = k) (hN : Nds wr gs (xs.take k)) (hgs : ∀ j (h : j < gs.length), R < gs[j].g) (hpar : xs[k].parent ≤ (k : Int) - 1)
    (hpars : ∀ i (h : i < xs.length), xs[i].parent ≤ (i : Int) - 1) (hB : wr.heap.size ≤ B) (hB' : B < W'.heap.size)
    (hold : ∀ i, i < wr.heap.size → i ≠ R → W'.heap[i]? = wr.heap[i]?) (hnew : W'.heap[B]? = some (.cells #[.int .i64 k, .pointer (ptrOf gs xs[k].parent)] 152 (0, 0))) :
    Nds W' (gs ++ [⟨B⟩]) (xs.take (k + 1)) := by
  have hp : ∀ p : Int, p < k → ptrOf (gs ++ [⟨B⟩]) p = ptrOf gs p := by
    intro p hp
    unfold ptrOf
    split
    · rfl
    · rw [List.getElem?_append_left (by omega)]
  have hl : (gs ++ [(⟨B⟩ : PB)]).length = k + 1 := by simp [hgl]
  have hget : ∀ i (hi : i < (gs ++ [(⟨B⟩ : PB)]).length), (∃ h : i < gs.length, (gs ++ [(⟨B⟩ : PB)])[i] = gs[i]) ∨ (i = k ∧ (gs ++ [(⟨B⟩ : PB)])[i] = ⟨B⟩) := by
    intro i hi
    rcases Nat.lt_or_ge i gs.length with h | h
    · exact .inl ⟨h, List.getElem_append_left h⟩
    · exact .inr ⟨by omega, by rw [List.getElem_append_right h]; simp⟩
  refine ⟨by rw [hl, List.length_take]; omega, ?_, ?_, ?_⟩
  · intro i j hi hj hij
    rcases hget i hi with ⟨h1, e1⟩ | ⟨h1, e1⟩ <;> rcases hget j hj with ⟨h2, e2⟩ | ⟨h2, e2⟩ <;> rw [e1, e2]
    · exact hN.asc i j h1 h2 hij
    · have := hN.lt i h1; show _ < B; omega
    · omega
    · omega
  · intro i hi
    rcases hget i hi with ⟨h1, e1⟩ | ⟨h1, e1⟩ <;> rw [e1]
    · have := hN.lt i h1; omega
    · exact hB'
  · intro i hi hx
    have hx' : i < xs.length := by rw [List.length_take] at hx; omega
    have e : (xs.take (k + 1))[i] = xs[i] := List.getElem_take
    rw [e, hp _ (by have := hpars i hx'; omega)]
    rcases hget i hi with ⟨h1, e1⟩ | ⟨h1, e1⟩ <;> rw [e1]
    · have hx2 : i < (xs.take k).length := by rw [List.length_take]; omega
      have := hN.row i h1 hx2
      have e3 : (xs.take k)[i] = xs[i] := List.getElem_take
      rw [e3] at this
      rw [hold _ (hN.lt i h1) (by have := hgs i h1; omega)]; exact this
    · subst h1; exact hnew

set_option maxHeartbeats 4000000 in
set_option maxRecDepth 100000 in
theorem nodesOf_any (A : Option Addr) (n cap : Nat) (xs : List Cls) (w : World) (hR : Sl w A n cap xs) :
    Calls Try.prog 127 #[.agg #[.slice A n cap]] w (NodesOut xs w) := by
  have hl := Le.new w (.cells #[.slice A n cap] 25)
  have c0 : (w.alloc (.cells #[.slice A n cap] 25)).cell? ⟨w.heap.size, 0, none⟩ = some (.slice A n cap) := by rw [World.cell?_alloc_at _ _ _ _ rfl]; rfl
  have hz : w.heap.size < (w.alloc (.cells #[.slice A n cap] 25)).heap.size := by simp
  have hS := hR.le hl
  obtain ⟨i0, hi, hz0, hz1, hz2⟩ := info_parts pnInfo
  cases hok : okTree xs
  · go_enter Try.func127, Try.ntmps127
    go_wp2_with fail
    generalize w.alloc (.cells #[.slice A n cap] 25) = W at *
    refine (iValidTree_any A n cap xs _ hS).mono ?_
    rintro e w2 ⟨rfl, hle⟩
    rw [hok]
    have HK := Lib.hid hok; clear hok
    go_wp2
    go_ret
    exact ⟨hl.trans hle, .inl ⟨HK.out, rfl⟩⟩
  · have g := good_of hok
    have hlo := g.lo
    have hhi := g.hi
    obtain rfl := hR.len
    have hb2 : i0.bytes * xs.length ≤ 281474976710656 := by rw [hz2]; omega
    go_enter Try.func127, Try.ntmps127
    go_wp2_with fail
    generalize w.alloc (.cells #[.slice A xs.length cap] 25) = W at *
    refine (iValidTree_any A xs.length cap xs _ hS).mono ?_
    rintro e w2 ⟨rfl, hle⟩
    rw [hok]
    have HK := Lib.hid hok; clear hok
    have c2 := (hle.cell hz).trans c0
    have hl2 := hl.trans hle
    have hz2' := Nat.lt_of_lt_of_le hz hle.size
    clear c0 hz hle hl hS
    go_wp2_with (refine wpList_make_full _ rfl _ _ 141 rfl w2.heap.size 146 i0 _ 1 Try.underlying141 hi hz0 hz1 .i64 .i64 _ _ xs.length rfl rfl rfl rfl hb2 (by unfold maxLen; omega) (Nat.le_refl _) ?_; intro w3 hown3 hg3; have c3 := hg3.cell c2 (by simp))
    have hle3 : Le w2 w3 := (Le.refl w2).grown hg3 (by intro k hk; cases hk)
    have hz3 : w2.heap.size < w3.heap.size := own_lt hown3
    clear c3
    go_loopw [16] (fun i wr => ∃ k : Nat, ∃ gs : List PB, ∃ r : List Value, k ≤ xs.length ∧ i = .int .i64 k ∧ r.length = xs.length - k ∧ wr.ownsRow w2.heap.size 146 1 (.slice (some ⟨w2.heap.size, 0, none⟩) xs.length xs.length) xs.length (gs.flatMap Enc.cells ++ r) ∧
        Nds wr gs (xs.take k) ∧ (∀ j (h : j < gs.length), w2.heap.size < gs[j].g) ∧ Le w2 wr) (fun i _ => xs.length - (intOf i).toNat)
    case atStart => exact ⟨0, [], _, Nat.zero_le _, rfl, by simp [madeCells], hown3, ⟨by simp, by simp, by simp, by simp⟩, by simp, hle3⟩
    case round =>
      obtain ⟨k, gs, r, hk, rfl, hr, hown, hN, hgs, hle⟩ := hrel
      clear hown3 hg3 hle3
      have hwr := hl2.trans hle
      have hRr := hR.le hwr
      have hcT := (hle.cell hz2').trans c2
      have hzr : w2.heap.size < wr.heap.size := own_lt hown
      have hgl : gs.length = k := by have := hN.len; rw [List.length_take] at this; omega
      have HG := Lib.hid hgl
      by_cases hlt : k < xs.length
      · obtain ⟨b, off, rfl, hb, hcell, hcell2, hns, hp1, hp2⟩ := hRr.cls_at hlt
        match r, hr with
        | [], h => simp at h; omega
        | r0 :: r1, hr =>
        have hfl : (gs.flatMap (Enc.cells (α := PB))).length = k := by rw [flat_len, hgl]; show k * 1 = k; omega
        have hc0 : wr.cell? ⟨w2.heap.size, k, none⟩ = some r0 := by rw [hown.cellAt _ (by omega), List.getElem?_append_right (by omega), hfl]; simp
        have hf0 := hown.frozenAt k
        have hpar := g.par_le hlt
        have HFL := Lib.hid hfl
        clear hgl hfl
        have hpars : ∀ i (h : i < xs.length), xs[i].parent ≤ (i : Int) - 1 := fun i h => (g.par_le h).2
        have HP := Lib.hid hpars; clear hpars
        have hflat : Hid ((gs ++ [(⟨wr.heap.size + 1⟩ : PB)]).flatMap Enc.cells ++ r1 = (gs.flatMap Enc.cells ++ r0 :: r1).set k (.pointer (some ⟨wr.heap.size + 1, 0, none⟩))) := by
          show _ = _
          rw [List.set_append_right _ _ (by have := HFL.out; omega), HFL.out]
          simp [Enc.cells]
        have hgsN : Hid (∀ j (h : j < (gs ++ [(⟨wr.heap.size + 1⟩ : PB)]).length), w2.heap.size < (gs ++ [(⟨wr.heap.size + 1⟩ : PB)])[j].g) := by
          intro j hj
          rcases Nat.lt_or_ge j gs.length with h | h
          · rw [List.getElem_append_left h]; exact hgs j h
          · rw [List.getElem_append_right h]; simp; omega
        by_cases hneg : xs[k].parent < 0
        · go_wp2
          go_roundw
          case rel =>
            refine ⟨k + 1, gs ++ [⟨wr.heap.size + 1⟩], r1, by omega, by go_num, by simp at hr; omega, ?_, ?_, hgsN.out, ?_⟩
            · rw [hflat.out]; exact ((hown.stored k _).1.alloc _).alloc _
            · refine nds_step (R := w2.heap.size) hlt HG.out hN hgs hpar.2 HP.out (by omega) (by simp) ?_ ?_
              · intro i hi hne
                rw [Below.heap_alloc _ _ _ (by simp; omega), Below.heap_alloc _ _ _ (by simpa using hi), Below.heap_setCell _ _ _ _ hne]
              · rw [ptrOf_neg hneg]
                have := heap_alloc_new ((wr.setCell ⟨w2.heap.size, k, none⟩ (.pointer (some ⟨wr.heap.size + 1, 0, none⟩))).alloc (.cells #[.string xs[k].name, .int .i64 xs[k].parent] 97)) (.cells #[.int .i64 k, .pointer none] 152)
                simpa using this
            · exact ((hle.setCell (Nat.le_refl _) _).alloc _).alloc _
          case measure => simp [intOf]; omega
        · go_wp2_with fail
          obtain ⟨p, hpe⟩ := Int.eq_ofNat_of_zero_le (by omega : 0 ≤ xs[k].parent)
          have hpk : p < gs.length := by have := HG.out; omega
          have hptr : ptrOf gs xs[k].parent = some ⟨gs[p].g, 0, none⟩ := by rw [hpe]; exact ptrOf_at hpk
          have hrp : wr.cell? ⟨w2.heap.size, p, none⟩ = some (.pointer (some ⟨gs[p].g, 0, none⟩)) := by
            rw [hown.cellAt _ (by omega), List.getElem?_append_left (by have := HFL.out; have := HG.out; omega)]
            have := flat_at gs p hpk 0 (by decide)
            simpa [Enc.size, Enc.cells] using this
          generalize hWd : ((wr.setCell _ _).alloc _).alloc _ = W
          have f1 : W.cell? ⟨w2.heap.size, k, none⟩ = some (.pointer (some ⟨wr.heap.size + 1, 0, none⟩)) := by
            rw [← hWd, World.cell?_alloc_past _ _ _ (by simp; omega), World.cell?_alloc_past _ _ _ (by simpa using hzr)]; exact cell_set_same hc0
          have f2 : W.cell? ⟨wr.heap.size, 1, none⟩ = some (.int .i64 xs[k].parent) := by
            rw [← hWd, World.cell?_alloc_past _ _ _ (by simp), World.cell?_alloc_at _ _ _ _ (by simp)]; rfl
          have f3 : W.cell? ⟨w2.heap.size, p, none⟩ = some (.pointer (some ⟨gs[p].g, 0, none⟩)) := by
            rw [← hWd, World.cell?_alloc_past _ _ _ (by simp; omega), World.cell?_alloc_past _ _ _ (by simpa using hzr), cell_set_other (.inr (by have := HG.out; omega))]; exact hrp
          have f4 : W.cell? ⟨wr.heap.size + 1, 1, none⟩ = some (.pointer none) := by
            rw [← hWd, World.cell?_alloc_at _ _ _ _ (by simp)]; rfl
          have f5 : W.frozen? ⟨wr.heap.size + 1, 1, none⟩ = false := by
            rw [← hWd, World.frozen?_alloc_at _ _ _ _ (by simp)]
          have hWz : W.heap.size = wr.heap.size + 2 := by rw [← hWd]; simp
          have HWZ := Lib.hid hWz; clear hWz
          have hWold : ∀ i, i < wr.heap.size → i ≠ w2.heap.size → W.heap[i]? = wr.heap[i]? := by
            intro i hi hne
            rw [← hWd, Below.heap_alloc _ _ _ (by simp; omega), Below.heap_alloc _ _ _ (by simpa using hi), Below.heap_setCell _ _ _ _ hne]
          have HWO := Lib.hid hWold; clear hWold
          have hWn : W.heap[wr.heap.size + 1]? = some (.cells #[.int .i64 k, .pointer none] 152 (0, 0)) := by
            have := heap_alloc_new ((wr.setCell ⟨w2.heap.size, k, none⟩ (.pointer (some ⟨wr.heap.size + 1, 0, none⟩))).alloc (.cells #[.string xs[k].name, .int .i64 xs[k].parent] 97)) (.cells #[.int .i64 k, .pointer none] 152)
            rw [hWd] at this
            simpa using this
          have HWN := Lib.hid hWn; clear hWn
          have hWown : W.ownsRow w2.heap.size 146 1 (.slice (some ⟨w2.heap.size, 0, none⟩) xs.length xs.length) xs.length ((gs ++ [(⟨wr.heap.size + 1⟩ : PB)]).flatMap Enc.cells ++ r1) := by
            rw [hflat.out, ← hWd]; exact ((hown.stored k _).1.alloc _).alloc _
          have hWle : Le w2 W := by rw [← hWd]; exact ((hle.setCell (Nat.le_refl _) _).alloc _).alloc _
          have HPT := Lib.hid hptr; clear hptr
          have HPE := Lib.hid hpe
          have hidx : 0 ≤ xs[k].parent ∧ xs[k].parent < xs.length := by omega
          have htn : xs[k].parent.toNat = p := by omega
          clear hWd hc0 hf0 hrp hcell hcell2
          clear hpe
          have f3' : W.cell? ⟨w2.heap.size, xs[k].parent.toNat, none⟩ = some (.pointer (some ⟨gs[p].g, 0, none⟩)) := by rw [htn]; exact f3
          have HTN := Lib.hid htn; clear htn
          clear f3
          go_region
          all_goals go_wp2
          all_goals
            go_roundw
            case rel =>
              refine ⟨k + 1, gs ++ [⟨wr.heap.size + 1⟩], r1, by omega, by go_num, by simp at hr; omega, ?_, ?_, hgsN.out, ?_⟩
              · exact (own_set hWown (by omega) _).drew
              · refine nds_step (R := w2.heap.size) hlt HG.out hN hgs hpar.2 HP.out (by omega) (by have := HWZ.out; simp [World.setCell, World.drew]; omega) ?_ ?_
                · intro i hi hne
                  show (World.setCell _ _ _).heap[i]? = _
                  rw [Below.heap_setCell _ _ _ _ (by show i ≠ wr.heap.size + 1; omega)]
                  exact HWO.out i hi hne
                · rw [HPT.out]
                  exact heap_setCell_same W (wr.heap.size + 1) 1 _ _ _ HWN.out
              · exact (hWle.setCell (by omega) _).drew
            case measure => simp [intOf]; omega
      · have hk' : k = xs.length := by omega
        have hr0 : r = [] := List.eq_nil_of_length_eq_zero (by omega)
        have HF : Hid (NodesOut xs w (.returned (.slice (some ⟨w2.heap.size, 0, none⟩) xs.length xs.length)) wr) := by
          refine ⟨hwr, .inr ⟨HK.out, w2.heap.size, gs, rfl, ?_, ?_⟩⟩
          · rw [hr0, List.append_nil] at hown
            exact Sl.of_own hown rfl (by decide) (fun _ _ => trivial)
          · rw [hk', List.take_length] at hN; exact hN
        clear hk' hr0 hr HG
        go_wp2
        go_ret
        exact HF.out
end

section
theorem isA_any (A : Option Addr) (n cap : Nat) (xs : List Cls) (a b : Int) (w : World) (hR : Sl w A n cap xs) (g : Good xs) (ha : a < xs.length) (ha0 : -1 ≤ a) :
    Calls Try.prog 132 #[.agg #[.slice A n cap], .int .i64 a, .int .i64 b] w fun e w' => e = .returned (.bool (isAL xs a b)) ∧ Le w w' := by
  have hl := Le.new w (.cells #[.slice A n cap] 25)
  have hS := hR.le hl
  go_enter Try.func132, Try.ntmps132
  go_wp2_with fail
  refine (above_any A n cap xs a _ hS g ha ha0).mono ?_
  rintro e w2 ⟨v, rfl, hown, hle⟩
  have hok : ∀ x ∈ aboveL xs a, Enc.ok x := by
    intro x hx
    have := aboveL_mem g _ a rfl ha x hx
    have := g.hi
    exact ⟨by omega, by omega⟩
  obtain ⟨A2, c2, rfl⟩ : ∃ A2 c2, v = .slice A2 (aboveL xs a).length c2 := by
    rcases hown.2 with ⟨h, h0⟩ | ⟨g2, c2, _, h, _⟩
    · exact ⟨none, 0, by rw [h0]; exact h⟩
    · exact ⟨_, c2, h⟩
  have hSa : Sl w2 A2 (aboveL xs a).length c2 (aboveL xs a) := Sl.of_own hown rfl (by decide) hok
  clear hown hok
  go_wp2_with fail
  refine (hasInt_any _ _ _ (aboveL xs a) b _ hSa).mono ?_
  rintro e w3 ⟨rfl, rfl⟩
  go_wp2
  go_ret
  exact ⟨ret_bool rfl, hl.trans hle⟩

/-- what nodesOf hands back, as one slice -/
theorem nodes_one {xs : List Cls} {w w' : World} {e : Ending} (h : NodesOut xs w e w') : Le w w' ∧ ∃ A n gs, e = .returned (.slice A n n) ∧ Sl w' A n n gs ∧ ((okTree xs = false ∧ n = 0 ∧ gs = []) ∨ (okTree xs = true ∧ n = xs.length ∧ Nds w' gs xs)) := by
  obtain ⟨hl, ⟨h0, rfl⟩ | ⟨h1, g, gs, rfl, hS, hN⟩⟩ := h
  · exact ⟨hl, none, 0, [], rfl, Sl.nil _ _ _ (by omega), .inl ⟨h0, rfl, rfl⟩⟩
  · exact ⟨hl, _, _, gs, rfl, hS, .inr ⟨h1, rfl, hN⟩⟩

theorem ptr_cases {gs : List PB} {xs : List Cls} (hl : gs.length = xs.length) (a : Int) : (hasK xs a = false ∧ ptrOf gs a = none) ∨ (hasK xs a = true ∧ ∃ i : Nat, ∃ h : i < gs.length, a = i ∧ ptrOf gs a = some ⟨gs[i].g, 0, none⟩) := by
  by_cases h0 : a < 0
  · exact .inl ⟨by unfold hasK; simp; omega, ptrOf_neg h0⟩
  · by_cases h1 : (gs.length : Int) ≤ a
    · exact .inl ⟨by unfold hasK; simp; omega, ptrOf_high h1⟩
    · obtain ⟨i, rfl⟩ := Int.eq_ofNat_of_zero_le (by omega : 0 ≤ a)
      exact .inr ⟨hasK_iff.2 (by omega), i, by omega, rfl, ptrOf_at (by omega)⟩
theorem ptrOf_nil (a : Int) : ptrOf [] a = none := by unfold ptrOf; split <;> simp
end

section
end
end

section
theorem one_new (w : World) (a : Value) (t : TypeId) : ∀ j u, [a][j]? = some u → (w.alloc (.cells #[a] t)).cell? ((⟨w.heap.size, 0, none⟩ : Addr).add j) = some u := by
  intro j u hu
  cases j with
  | zero =>
    simp at hu; subst hu
    show (w.alloc (.cells #[a] t)).cell? ⟨w.heap.size, 0, none⟩ = some a
    rw [World.cell?_alloc_at _ _ _ _ rfl]; rfl
  | succ j => simp at hu
def OwnInts (L : List Int) (w : World) (e : Ending) (w' : World) : Prop := ∃ v, e = .returned v ∧ w'.ownsRow w.heap.size 3 1 v L.length (L.flatMap Enc.cells) ∧ (∀ x ∈ L, Enc.ok x) ∧ Le w w'
def aboveX (xs : List Cls) (a : Int) : List Int := cond (okTree xs && hasK xs a) (aboveL xs a) []
theorem aboveX_of {xs : List Cls} {a : Int} {b : Bool} (h : (okTree xs && hasK xs a) = b) : aboveX xs a = cond b (aboveL xs a) [] := by unfold aboveX; rw [h]
theorem own_nil (w w' : World) (h : Le w w') : OwnInts [] w (.returned (.slice none 0 0)) w' := ⟨_, rfl, World.ownsRow_nil _ _ _ _, (fun _ h => nomatch h), h⟩
theorem above_ok {xs : List Cls} (g : Good xs) {a : Int} (ha : a < xs.length) : ∀ x ∈ aboveL xs a, Enc.ok x := by
  intro x hx
  have := aboveL_mem g _ a rfl ha x hx
  have := g.hi
  exact ⟨by omega, by omega⟩
end

section
def firstC (xs : List Cls) : List Int → Int → Int → Int
  | [], _, _ => -1
  | b :: r, a, k => if isAL xs a b then k else firstC xs r a (k + 1)
theorem firstC_at {xs : List Cls} {L : List Int} {k : Nat} (h : k < L.length) (a j : Int) : firstC xs (L.drop k) a j = if isAL xs a L[k] then j else firstC xs (L.drop (k + 1)) a (j + 1) := by
  rw [List.drop_eq_getElem_cons h]; rfl
theorem firstC_end {xs : List Cls} {L : List Int} {k : Nat} (h : ¬ k < L.length) (a j : Int) : firstC xs (L.drop k) a j = -1 := by
  rw [List.drop_eq_nil_of_le (by omega)]; rfl
theorem firstC_range (xs : List Cls) (a : Int) : ∀ (L : List Int) (j : Int), 0 ≤ j → firstC xs L a j = -1 ∨ (j ≤ firstC xs L a j ∧ firstC xs L a j < j + L.length)
  | [], _, _ => .inl rfl
  | b :: r, j, hj => by
    unfold firstC
    split
    · right; simp; omega
    · rcases firstC_range xs a r (j + 1) (by omega) with h | ⟨h1, h2⟩
      · exact .inl h
      · right; simp; omega
def goodL (xs : List Cls) : List Int → Bool
  | [] => true
  | b :: r => hasK xs b && goodL xs r
def goodC (xs : List Cls) (L : List Int) : Bool := okTree xs && goodL xs L && decide (L.length ≤ 6)
theorem goodL_at {xs : List Cls} {L : List Int} {k : Nat} (h : k < L.length) : goodL xs (L.drop k) = (hasK xs L[k] && goodL xs (L.drop (k + 1))) := by
  rw [List.drop_eq_getElem_cons h]; rfl
theorem goodL_end {xs : List Cls} {L : List Int} {k : Nat} (h : ¬ k < L.length) : goodL xs (L.drop k) = true := by
  rw [List.drop_eq_nil_of_le (by omega)]; rfl
theorem goodL_mem {xs : List Cls} : ∀ {L : List Int}, goodL xs L = true → ∀ b ∈ L, hasK xs b = true
  | [], _, _, h => nomatch h
  | c :: r, h, b, hb => by
    rw [goodL, Bool.and_eq_true] at h
    rcases List.mem_cons.1 hb with rfl | hb
    · exact h.1
    · exact goodL_mem h.2 b hb
theorem goodL_mk {xs : List Cls} : ∀ {L : List Int}, (∀ b ∈ L, hasK xs b = true) → goodL xs L = true
  | [], _ => rfl
  | c :: r, h => by rw [goodL, h c (by simp), goodL_mk (fun b hb => h b (by simp [hb]))]; rfl
theorem goodL_no {xs : List Cls} {L : List Int} {b : Int} (hb : b ∈ L) (h : hasK xs b = false) : goodL xs L = false := by
  cases hg : goodL xs L
  · rfl
  · rw [goodL_mem hg b hb] at h; cases h
structure GoodC (xs : List Cls) (L : List Int) : Prop where
  tree : Good xs
  mem : ∀ b ∈ L, 0 ≤ b ∧ b < xs.length
  few : L.length ≤ 6
theorem goodC_of {xs : List Cls} {L : List Int} (h : goodC xs L = true) : GoodC xs L := by
  unfold goodC at h
  simp only [Bool.and_eq_true, decide_eq_true_eq] at h
  exact ⟨good_of h.1.1, fun b hb => hasK_iff.1 (goodL_mem h.1.2 b hb), h.2⟩
def firstX (xs : List Cls) (L : List Int) (a : Int) : Int := cond (goodC xs L && hasK xs a) (firstC xs L a 0) (-2)
theorem firstX_of {xs : List Cls} {L : List Int} {a : Int} {t : Bool} (h : (goodC xs L && hasK xs a) = t) : firstX xs L a = cond t (firstC xs L a 0) (-2) := by unfold firstX; rw [h]
end

section
section
/-- the node of a class -/
def pbAt (gs : List PB) (b : Int) : PB := gs.getD b.toNat ⟨0⟩
theorem pbAt_at {gs : List PB} {i : Nat} (h : i < gs.length) : pbAt gs (i : Int) = gs[i] := by
  unfold pbAt; rw [Int.toNat_natCast, List.getD_eq_getElem?_getD, List.getElem?_eq_getElem h]; rfl
theorem ptrOf_pb {gs : List PB} {b : Int} (h0 : 0 ≤ b) (h1 : b < gs.length) : ptrOf gs b = some ⟨(pbAt gs b).g, 0, none⟩ := by
  obtain ⟨i, rfl⟩ := Int.eq_ofNat_of_zero_le h0
  rw [ptrOf_at (by omega), pbAt_at (by omega)]

set_option maxRecDepth 100000 in
theorem closureF_any (gs : List PB) (xs : List Cls) (g : Good xs) (b : Int) (h0 : 0 ≤ b) (h1 : b < xs.length) (a : Int) (ha : a < xs.length) (ha0 : -1 ≤ a) (p : Nat) (w : World) (hN : Nds w gs xs)
    (cp : w.cell? ⟨p, 0, none⟩ = some (.pointer (ptrOf gs a))) :
    Calls Try.prog 134 #[.pointer (some ⟨(pbAt gs b).g, 0, none⟩), .pointer (some ⟨p, 0, none⟩)] w fun e w' => e = .returned (.bool (isAL xs a b)) ∧ w = w' := by
  obtain ⟨i, rfl⟩ := Int.eq_ofNat_of_zero_le h0
  have hi : i < gs.length := by have := hN.len; omega
  rw [pbAt_at hi]
  have hc := Lib.hid (catches_any gs xs g i hi a ha ha0 w hN)
  go_enter Try.func134, Try.ntmps134
  go_wp2_with fail
  refine hc.out.mono ?_
  rintro e w' ⟨rfl, rfl⟩
  go_wp2
  go_ret
  exact ⟨rfl, rfl⟩

theorem indexFuncH_any (A : Option Addr) (m cap : Nat) (gs : List PB) (xs : List Cls) (L : List Int) (g : Good xs) (hm : ∀ b ∈ L, 0 ≤ b ∧ b < xs.length) (a : Int) (ha : a < xs.length) (ha0 : -1 ≤ a) (p : Nat) (w : World) (hN : Nds w gs xs)
    (hS : Sl w A m cap (L.map (pbAt gs))) (cp : w.cell? ⟨p, 0, none⟩ = some (.pointer (ptrOf gs a))) :
    Calls Try.prog 133 #[.slice A m cap, .func (.func 134) #[] #[.pointer (some ⟨p, 0, none⟩)]] w fun e w' => e = .returned (.int .i64 (firstC xs L a 0)) ∧ w = w' := by
  have hl := hS.len
  have hlm : L.length = m := by rw [← hl]; simp
  have hmx := hS.n_le
  obtain rfl := hlm
  clear hl
  have HN := Lib.hid hN; clear hN
  go_enter Try.func133, Try.ntmps133
  go_wp2
  go_loop [8] (fun i => ∃ k : Nat, k ≤ L.length ∧ i = .int .i64 k ∧ firstC xs L a 0 = firstC xs (L.drop k) a k) (fun i => L.length - (intOf i).toNat)
  case atStart => exact ⟨0, Nat.zero_le _, rfl, rfl⟩
  case round =>
    obtain ⟨k, hk, rfl, hr⟩ := hrel
    have HR := Lib.hid hr; clear hr
    by_cases hlt : k < L.length
    · have hlt' : k < (L.map (pbAt gs)).length := by simpa using hlt
      obtain ⟨b, off, rfl, _, hcell⟩ := hS.pb_at hlt'
      rw [List.getElem_map] at hcell
      have hmem := hm L[k] (List.getElem_mem hlt)
      have HC := Lib.hid (closureF_any gs xs g L[k] hmem.1 hmem.2 a ha ha0 p w HN.out cp)
      have hat := firstC_at (xs := xs) hlt a k
      cases hi1 : isAL xs a L[k]
      · have HF : Hid (firstC xs L a 0 = firstC xs (L.drop (k + 1)) a ((k + 1 : Nat) : Int)) := by show _ = _; rw [HR.out, hat, hi1]; rfl
        clear hat
        go_wp2_with fail
        refine HC.out.mono ?_
        rintro e w' ⟨rfl, rfl⟩
        rw [hi1]
        go_wp2
        go_round
        case rel => exact ⟨k + 1, by omega, by go_num, HF.out⟩
        case measure => simp [intOf]; omega
      · have HF : Hid (firstC xs L a 0 = k) := by show _ = _; rw [HR.out, hat, hi1]; rfl
        clear hat
        go_wp2_with fail
        refine HC.out.mono ?_
        rintro e w' ⟨rfl, rfl⟩
        rw [hi1]
        go_wp2
        go_ret
        exact ⟨ret_int HF.out.symm, rfl⟩
    · have HF : Hid (firstC xs L a 0 = -1) := by show _ = _; rw [HR.out, firstC_end hlt]
      go_wp2
      go_ret
      exact ⟨ret_int HF.out.symm, rfl⟩

theorem first_any (A : Option Addr) (m cap : Nat) (gs : List PB) (xs : List Cls) (L : List Int) (g : Good xs) (hm : ∀ b ∈ L, 0 ≤ b ∧ b < xs.length) (a : Int) (ha : a < xs.length) (ha0 : -1 ≤ a) (w : World) (hN : Nds w gs xs)
    (hS : Sl w A m cap (L.map (pbAt gs))) :
    Calls Try.prog 130 #[.slice A m cap, .pointer (ptrOf gs a)] w fun e w' => e = .returned (.int .i64 (firstC xs L a 0)) ∧ Le w w' := by
  go_enter Try.func130, Try.ntmps130
  go_wp2_with fail
  refine (indexFuncH_any A m cap gs xs L g hm a ha ha0 _ _ (hN.le (Le.new w _)) (hS.alloc _) (by simp)).mono ?_
  rintro e w' ⟨rfl, rfl⟩
  go_wp2
  go_ret
  exact ⟨rfl, Le.new w _⟩
end

section
def HandOut (xs : List Cls) (L : List Int) (gs : List PB) (w : World) (e : Ending) (w' : World) : Prop :=
  Le w w' ∧ ((goodC xs L = false ∧ e = .returned (.tuple #[.slice none 0 0, .bool false])) ∨ (goodC xs L = true ∧ ∃ H c, e = .returned (.tuple #[.slice H L.length c, .bool true]) ∧ Sl w' H L.length c (L.map (pbAt gs))))
theorem goodC_no {xs : List Cls} {L : List Int} (h : okTree xs = false ∨ 6 < L.length ∨ goodL xs L = false) : goodC xs L = false := by
  unfold goodC
  rcases h with h | h | h
  · rw [h]; rfl
  · rw [decide_eq_false (p := L.length ≤ 6) (by omega), Bool.and_false]
  · rw [h, Bool.and_false]; rfl
theorem goodC_yes {xs : List Cls} {L : List Int} (h : okTree xs = true) (h2 : L.length ≤ 6) (h3 : goodL xs L = true) : goodC xs L = true := by
  unfold goodC; rw [h, h3, decide_eq_true h2]; rfl

set_option maxHeartbeats 1000000 in
set_option maxRecDepth 100000 in
theorem handlersOf_any (A B : Option Addr) (n m c : Nat) (gs : List PB) (xs : List Cls) (L : List Int) (w : World) (hS : Sl w A n n gs)
    (hcase : (okTree xs = false ∧ n = 0 ∧ gs = []) ∨ (okTree xs = true ∧ n = xs.length ∧ Nds w gs xs)) (hL : Sl w B m c L) :
    Calls Try.prog 128 #[.slice A n n, .slice B m c] w (HandOut xs L gs w) := by
  obtain rfl := hL.len
  have hmx := hL.n_le
  have hnx := hS.n_le
  rcases hcase with ⟨h0, rfl, rfl⟩ | ⟨h0, rfl, hN⟩
  · have HF := Lib.hid (goodC_no (L := L) (.inl h0))
    clear h0
    go_enter Try.func128, Try.ntmps128
    go_wp2
    go_ret2
    exact ⟨Le.refl w, .inl ⟨HF.out, rfl⟩⟩
  · have g := good_of h0
    have hlo := g.lo
    have hn0 : ((xs.length : Int) == 0) = false := by rw [beq_eq_false_iff_ne]; omega
    by_cases h6 : 6 < L.length
    · have HF := Lib.hid (goodC_no (xs := xs) (L := L) (.inr (.inl h6)))
      have h6' : 6 < (L.length : Int) := by omega
      go_enter Try.func128, Try.ntmps128
      go_wp2
      go_ret2
      exact ⟨Le.refl w, .inl ⟨HF.out, rfl⟩⟩
    · have h6' : ¬ 6 < (L.length : Int) := by omega
      obtain ⟨i0, hi, hz0, hz1, hz2⟩ := info_parts pnInfo
      have hb2 : i0.bytes * L.length ≤ 281474976710656 := by rw [hz2]; omega
      have H0 := Lib.hid h0; clear h0
      have HL := Lib.hid hN.len
      go_enter Try.func128, Try.ntmps128
      go_wp2_with (refine wpList_make_full _ rfl _ _ 143 rfl w.heap.size 146 i0 _ 1 Try.underlying143 hi hz0 hz1 .i64 .i64 _ _ L.length rfl rfl rfl rfl hb2 (by unfold maxLen; omega) (Nat.le_refl _) ?_; intro w1 hown1 hg1)
      have hle1 : Le w w1 := (Le.refl w).grown hg1 (by intro k hk; cases hk)
      clear hg1
      go_loopw [22] (fun i wr => ∃ k : Nat, ∃ r : List Value, k ≤ L.length ∧ i = .int .i64 k ∧ r.length = L.length - k ∧ wr.ownsRow w.heap.size 146 1 (.slice (some ⟨w.heap.size, 0, none⟩) L.length L.length) L.length (((L.take k).map (pbAt gs)).flatMap Enc.cells ++ r) ∧
        goodL xs L = goodL xs (L.drop k) ∧ Le w wr) (fun i _ => L.length - (intOf i).toNat)
      case atStart => exact ⟨0, _, Nat.zero_le _, rfl, by simp [madeCells], hown1, rfl, hle1⟩
      case round =>
        obtain ⟨k, r, hk, rfl, hr, hown, hgl, hle⟩ := hrel
        have HG := Lib.hid hgl; clear hgl
        have S1 := hS.le hle
        have S2 := hL.le hle
        clear hown1 hle1
        by_cases hlt : k < L.length
        · obtain ⟨b, off, rfl, hb, hcell, _, _⟩ := S2.int_at hlt
          match r, hr with
          | [], h => simp at h; omega
          | r0 :: rr, hr =>
          have hfl : (((L.take k).map (pbAt gs)).flatMap (Enc.cells (α := PB))).length = k := by rw [flat_len, List.length_map, List.length_take]; show _ * 1 = _; omega
          have hc0 : wr.cell? ⟨w.heap.size, k, none⟩ = some r0 := by rw [hown.cellAt _ (by omega), List.getElem?_append_right (by omega), hfl]; simp
          have hf0 := hown.frozenAt k
          have HFL := Lib.hid hfl; clear hfl
          have HF : Hid (goodL xs L = (hasK xs L[k] && goodL xs (L.drop (k + 1)))) := by show _ = _; rw [HG.out, goodL_at hlt]
          go_wp2_with fail
          refine (nodeAt_any _ _ _ gs L[k] _ S1).mono ?_
          rintro e w3 ⟨rfl, rfl⟩
          rcases ptr_cases HL.out L[k] with ⟨h2, h3⟩ | ⟨h2, j, hj, hje, h3⟩
          · rw [h3]
            have HN : Hid (goodC xs L = false) := goodC_no (.inr (.inr (by rw [HF.out, h2]; rfl)))
            clear h3 h2
            go_wp2
            go_ret2
            exact ⟨hle.setCell (Nat.le_refl _) _, .inl ⟨HN.out, rfl⟩⟩
          · rw [h3]
            have hpb : pbAt gs L[k] = gs[j] := by rw [hje, pbAt_at hj]
            have HPB := Lib.hid hpb; clear hpb
            have H2 := Lib.hid h2
            clear h3 hje h2
            go_wp2
            go_roundw
            case rel =>
              refine ⟨k + 1, rr, by omega, by go_num, by simp at hr; omega, ?_, by rw [HF.out, H2.out]; rfl, hle.setCell (Nat.le_refl _) _⟩
              have h1 := (hown.stored k (.pointer (some ⟨gs[j].g, 0, none⟩))).1
              have e : ((L.take (k + 1)).map (pbAt gs)).flatMap Enc.cells ++ rr = ((((L.take k).map (pbAt gs)).flatMap Enc.cells ++ r0 :: rr).set k (.pointer (some ⟨gs[j].g, 0, none⟩))) := by
                rw [List.set_append_right _ _ (by have := HFL.out; omega), HFL.out, List.take_succ_eq_append_getElem hlt, List.map_append, List.flatMap_append]
                simp [Enc.cells, HPB.out]
              rw [e]; exact h1
            case measure => simp [intOf]; omega
        · have hk' : k = L.length := by omega
          have hr0 : r = [] := List.eq_nil_of_length_eq_zero (by omega)
          have HF : Hid (HandOut xs L gs w (.returned (.tuple #[.slice (some ⟨w.heap.size, 0, none⟩) L.length L.length, .bool true])) wr) := by
            refine ⟨hle, .inr ⟨goodC_yes H0.out (by omega) (by rw [HG.out, goodL_end hlt]), _, _, rfl, ?_⟩⟩
            rw [hr0, List.append_nil, hk', List.take_length] at hown
            exact Sl.of_own hown rfl (by decide) (fun _ _ => trivial)
          clear hk' hr0 hr hown
          go_wp2
          go_ret2
          exact HF.out
end

section
theorem iFirstCatch_any (A B : Option Addr) (n cap m c : Nat) (xs : List Cls) (L : List Int) (a : Int) (w : World) (hR : Sl w A n cap xs) (hL : Sl w B m c L) :
    Calls Try.prog 120 #[.agg #[.slice A n cap], .slice B m c, .int .i64 a] w fun e w' => e = .returned (.int .i64 (firstX xs L a)) ∧ Le w w' := by
  have L0 := Le.new w (.cells #[.slice A n cap] 25)
  go_enter Try.func120, Try.ntmps120
  go_wp2_with fail
  refine (nodesOf_any A n cap xs _ (hR.alloc _)).mono ?_
  intro e w2 hout
  obtain ⟨hle, A2, n2, gs, rfl, S2, hcase⟩ := nodes_one hout
  replace L0 := L0.trans hle
  clear hout hle
  have S3 := hL.le L0
  go_wp2_with fail
  refine (handlersOf_any A2 B n2 m c gs xs L _ S2 hcase S3).mono ?_
  rintro e w3 ⟨hle, hcs⟩
  have S4 := S2.le hle
  replace L0 := L0.trans hle
  rcases hcs with ⟨h1, rfl⟩ | ⟨h1, H, ch, rfl, S5⟩
  · have HF := Lib.hid (firstX_of (xs := xs) (L := L) (a := a) (t := false) (by rw [h1]; rfl))
    clear hcase h1
    go_wp2_with fail
    refine (nodeAt_any _ _ _ gs a _ S4).mono ?_
    rintro e w3 ⟨rfl, rfl⟩
    go_wp2
    go_ret
    exact ⟨ret_int HF.out.symm, L0⟩
  · have gc := goodC_of h1
    have ho : okTree xs = true := by unfold goodC at h1; simp at h1; exact h1.1.1
    rcases hcase with ⟨h0, _⟩ | ⟨_, rfl, hN⟩
    · rw [ho] at h0; cases h0
    · replace hN := hN.le hle
      clear ho
      go_wp2_with fail
      refine (nodeAt_any _ _ _ gs a _ S4).mono ?_
      rintro e w3 ⟨rfl, rfl⟩
      rcases ptr_cases hN.len a with ⟨h2, h3⟩ | ⟨h2, j, hj, rfl, h3⟩
      · have HF := Lib.hid (firstX_of (xs := xs) (L := L) (a := a) (t := false) (by rw [h1, h2]; rfl))
        rw [h3]
        clear h1 h2 h3
        go_wp2
        go_ret
        exact ⟨ret_int HF.out.symm, L0⟩
      · have HF := Lib.hid (firstX_of (xs := xs) (L := L) (a := j) (t := true) (by rw [h1, h2]; rfl))
        have hc := Lib.hid (first_any H L.length ch gs xs L gc.tree gc.mem j (by have := hN.len; omega) (by omega) _ hN S5)
        rw [h3] at hc ⊢
        clear h1 h2 h3
        go_wp2_with fail
        refine hc.out.mono ?_
        rintro e w4 ⟨rfl, hle4⟩
        go_wp2
        go_ret
        exact ⟨ret_int HF.out.symm, L0.trans hle4⟩
end
end
end

section
theorem wpAnyH_takeL {P : Program} {l : List Oper} {Q : Exit → Act → World → Prop} {md : Region.Mode} {S : World → Prop} {i : Nat} {oi : Oper} {v : Value} {fuel : Nat} {listed : Array Bool} {a : Act} {w : World} (hi : l[i]? = some oi)
    (hs : Region.noSelect l.toArray = true) (hf : Region.free md l.toArray listed i = true) (hr : (Region.ready md l.toArray listed).contains i = true)
    (hQ : ∀ c a w, Q (.panic c) (a.put oi.dst v) w → Q (.panic c) a w) (hy : YieldsIf P l.toArray S oi v a) (hS : S w)
    (h : wpAnyH P md l.toArray Q S fuel (listed.setIfInBounds i true) (a.put oi.dst v) w) : wpAnyH P md l.toArray Q S (fuel + 1) listed a w :=
  wpAnyH_take (by rw [List.getElem?_toArray]; exact hi) hs hf hr hQ hy hS h
theorem AllReadyH.consL {P : Program} {l : List Oper} {Q : Exit → Act → World → Prop} {md : Region.Mode} {S : World → Prop} {fuel : Nat} {listed : Array Bool} {a : Act} {w : World} {i : Nat} {o : Oper} {rs : List Nat} (ho : l[i]? = some o)
    (h : ∀ K' : Act → World → Prop, Shut (∀ a w, S w → (S w → wpAnyH P md l.toArray Q S fuel (listed.setIfInBounds i true) a w) → K' a w) → if Region.wanted o (yielded l.toArray a.tmps) = true then Oper.wp P o a w K' Q else K' (a.put o.dst undef) w)
    (hs : AllReadyH P md l.toArray Q S fuel listed a w rs) : AllReadyH P md l.toArray Q S fuel listed a w (i :: rs) :=
  AllReadyH.cons (by rw [List.getElem?_toArray]; exact ho) h hs
end

section
section
section
def lnBc (p : List Lin) (i : Nat) : Int := match p[i]? with | some x => x.b | none => 0
theorem lnBc_at {p : List Lin} {i : Nat} (h : i < p.length) : lnBc p i = p[i].b := by unfold lnBc; rw [List.getElem?_eq_getElem h]
/-- the first of some lines whose class a class is -/
def ctE (xs : List Cls) (p : List Lin) (a : Int) : List Nat → Int
  | [] => -1
  | x :: r => if isAL xs a (lnA p x) = true then (x : Int) else ctE xs p a r
/-- what catches in the block of a line -/
def ctAt (xs : List Cls) (p : List Lin) (a : Int) (i : Nat) : Int := if knd p i = 7 then ctE xs p a (exL p i) else if knd p i = 11 ∧ lnBc p i = 1 then (i : Int) else -1
/-- what catches in the blocks of some lines, and how many are left -/
def coF (xs : List Cls) (p : List Lin) (a : Int) : List Nat → Int
  | [] => -1
  | x :: r => if 0 ≤ ctAt xs p a x then ctAt xs p a x else coF xs p a r
def coN (xs : List Cls) (p : List Lin) (a : Int) : List Nat → Nat
  | [] => 0
  | x :: r => if 0 ≤ ctAt xs p a x then 0 else coN xs p a r + 1
theorem coF_at {xs : List Cls} {p : List Lin} {a : Int} {L : List Nat} {k : Nat} (h : k < L.length) : coF xs p a (L.drop k) = if 0 ≤ ctAt xs p a L[k] then ctAt xs p a L[k] else coF xs p a (L.drop (k + 1)) := by rw [List.drop_eq_getElem_cons h]; rfl
theorem coF_end {xs : List Cls} {p : List Lin} {a : Int} {L : List Nat} {k : Nat} (h : ¬ k < L.length) : coF xs p a (L.drop k) = -1 := by rw [List.drop_eq_nil_of_le (by omega)]; rfl
theorem coN_at {xs : List Cls} {p : List Lin} {a : Int} {L : List Nat} {k : Nat} (h : k < L.length) : coN xs p a (L.drop k) = if 0 ≤ ctAt xs p a L[k] then 0 else coN xs p a (L.drop (k + 1)) + 1 := by rw [List.drop_eq_getElem_cons h]; rfl
theorem coN_end {xs : List Cls} {p : List Lin} {a : Int} {L : List Nat} {k : Nat} (h : ¬ k < L.length) : coN xs p a (L.drop k) = 0 := by rw [List.drop_eq_nil_of_le (by omega)]; rfl
theorem coN_le (xs : List Cls) (p : List Lin) (a : Int) : ∀ L, coN xs p a L ≤ L.length
  | [] => Nat.le_refl _
  | x :: r => by
    unfold coN
    have := coN_le xs p a r
    split <;> simp <;> omega
theorem ex_drop {p : List Lin} {C : List Nat} {k : Nat} (h : k < C.length) : exF p (C.drop k) = if knd p C[k] = 8 then C[k] :: exF p (C.drop (k + 1)) else exF p (C.drop (k + 1)) := by
  rw [List.drop_eq_getElem_cons h]
  unfold exF
  rw [List.filter_cons]
  by_cases e : knd p C[k] = 8
  · rw [if_pos e, if_pos (by simpa using e)]
  · rw [if_neg e, if_neg (by simpa using e)]
theorem ct_two (xs : List Cls) (p : List Lin) (a : Int) : ∀ (E : List Nat) (z : Nat), (firstC xs (E.map (lnA p)) a z = -1 ∧ ctE xs p a E = -1) ∨ ∃ j : Nat, ∃ h : j < E.length, firstC xs (E.map (lnA p)) a z = ((z + j : Nat) : Int) ∧ ctE xs p a E = (E[j] : Int)
  | [], z => .inl ⟨rfl, rfl⟩
  | x :: r, z => by
    rw [List.map_cons]
    unfold firstC ctE
    by_cases h : isAL xs a (lnA p x) = true
    · rw [if_pos h, if_pos h]
      exact .inr ⟨0, by simp, by simp, rfl⟩
    · rw [if_neg h, if_neg h]
      rcases ct_two xs p a r (z + 1) with ⟨h1, h2⟩ | ⟨j, hj, h1, h2⟩
      · exact .inl ⟨h1, h2⟩
      · exact .inr ⟨j + 1, by simpa using hj, by rw [show ((z : Int) + 1) = ((z + 1 : Nat) : Int) by omega, h1]; omega, by rw [h2]; rfl⟩
theorem good_exc {xs : List Cls} {p : List Lin} (g : GoodP xs p) {i : Nat} (hi : i < p.length) (h7 : knd p i = 7) : goodC xs (clL p i) = true := by
  have hx : exs p (parts p i) ≤ 6 := ((g.tries i hi).1 h7).2
  rw [exs_len] at hx
  refine goodC_yes g.tree (by unfold clL; rw [clF_len]; exact hx) (goodL_mk fun b hb => ?_)
  obtain ⟨x, hx2, rfl⟩ := List.mem_map.1 hb
  have hm := List.mem_filter.1 hx2
  have hl := parts_lt hi x hm.1
  have hk : knd p x = 8 := by simpa using hm.2
  have hn := (g.line x hl).1
  rw [lnA_at hl]
  rw [knd_at hl] at hk
  unfold numS at hn
  rw [hk] at hn
  simp at hn
  exact hn.1
end

section
def grB (xs : List Cls) (p : List Lin) (i a : Int) : Bool := glB xs p i && hasK xs a
def caX (xs : List Cls) (p : List Lin) (i a : Int) : Int := cond (grB xs p i a) (coF xs p a (encl p i.toNat)) (-1)
theorem tup2 {a b c d : Int} (h : a = c) (h2 : b = d) : Ending.returned (.tuple #[.int .i64 a, .int .i64 b]) = .returned (.tuple #[.int .i64 c, .int .i64 d]) := by rw [h, h2]
end
end
end

section
section
abbrev Bls := Nat → Int → Rst → Lft × Rst
def rsN (c k h : Int) (s : Rst) : Lft × Rst := (.rai s.2.length, (s.1, s.2 ++ [⟨c, k, -1, h, false⟩]))
def againN (h : Int) (s : Rst) : Lft × Rst := if h < 0 then rsN 0 0 h s else (.rai h, s)
/-- what is opened is closed -/
def quiet (q : Bool) : Lft → Lft
  | .rai f => if q = true then .nil else .rai f
  | l => l
def withN (blk : Bls) (p : List Lin) (i : Nat) (h : Int) (s : Rst) : Lft × Rst :=
  (quiet (decide (lnBc p i = 1)) (blk i h (s.1 ++ [100 + lnA p i], s.2)).1, ((blk i h (s.1 ++ [100 + lnA p i], s.2)).2.1 ++ [200 + lnA p i], (blk i h (s.1 ++ [100 + lnA p i], s.2)).2.2))
def loopN (blk : Bls) (i : Nat) (h : Int) : Nat → Rst → Lft × Rst
  | 0, s => (.nil, s)
  | n + 1, s => match blk i h s with
    | (.nil, s2) => loopN blk i h n s2
    | (.cnt, s2) => loopN blk i h n s2
    | (.brk, s2) => (.nil, s2)
    | (.ret v, s2) => (.ret v, s2)
    | (.rai f, s2) => (.rai f, s2)
def clsF (s : Rst) (f : Int) : Int := match s.2[f.toNat]? with | some x => x.cls | none => 0
/-- the first line of a kind in a try -/
def prtG (p : List Lin) (K : Int) : List Nat → Option Nat
  | [] => none
  | x :: r => if knd p x = K then some x else prtG p K r
def prt (p : List Lin) (i : Nat) (K : Int) : Option Nat := prtG p K (parts p i)
def orN (o : Option Nat) (blk : Bls) (h : Int) (r : Lft × Rst) : Lft × Rst := match o with | some x => blk x h r.2 | none => r
def midN (blk : Bls) (xs : List Cls) (p : List Lin) (i : Nat) (h : Int) (r : Lft × Rst) : Lft × Rst := match r.1 with
  | .nil => orN (prt p i 9) blk h r
  | .rai f => if 0 ≤ ctE xs p (clsF r.2 f) (exL p i) then blk (ctE xs p (clsF r.2 f) (exL p i)).toNat f r.2 else r
  | _ => r
def hdN (h : Int) : Lft → Int
  | .rai f => f
  | _ => h
def orElseL (a : Lft) : Lft → Lft
  | .nil => a
  | l => l
def lasN (blk : Bls) (x : Nat) (h : Int) (r : Lft × Rst) : Lft × Rst := (orElseL r.1 (blk x (hdN h r.1) r.2).1, (blk x (hdN h r.1) r.2).2)
def finN (blk : Bls) (p : List Lin) (i : Nat) (h : Int) (r : Lft × Rst) : Lft × Rst := match prt p i 10 with
  | none => r
  | some x => lasN blk x h r
def tryN (blk : Bls) (xs : List Cls) (p : List Lin) (i : Nat) (h : Int) (s : Rst) : Lft × Rst := finN blk p i h (midN blk xs p i h (blk i h s))
def stepN (blk : Bls) (xs : List Cls) (p : List Lin) (h : Int) (i : Nat) (s : Rst) : Lft × Rst :=
  if knd p i = 1 then (.nil, (s.1 ++ [lnA p i], s.2)) else
  if knd p i = 2 then rsN (lnA p i) (lnBc p i) h s else
  if knd p i = 3 then againN h s else
  if knd p i = 4 then (.ret (lnA p i), s) else
  if knd p i = 5 then (.brk, s) else
  if knd p i = 6 then (.cnt, s) else
  if knd p i = 7 then tryN blk xs p i h s else
  if knd p i = 11 then withN blk p i h s else
  if knd p i = 12 then loopN blk i h (lnA p i).toNat s else (.nil, s)
def lnN (xs : List Cls) (p : List Lin) : Nat → Int → Nat → Rst → Lft × Rst
  | 0, _, _, s => (.nil, s)
  | N + 1, h, i, s => stepN (fun x h s => goB (lnN xs p N h) p (bEnd p x) 25 (x + 1) s) xs p h i s
def blN (xs : List Cls) (p : List Lin) (N : Nat) : Bls := fun x h s => goB (lnN xs p N h) p (bEnd p x) 25 (x + 1) s
theorem lnN_succ (xs : List Cls) (p : List Lin) (N : Nat) (h : Int) (i : Nat) (s : Rst) : lnN xs p (N + 1) h i s = stepN (blN xs p N) xs p h i s := rfl
/-- the faults of a run -/
def Gd (xs : List Cls) (hs : List Flt) : Prop := ∀ k (h : k < hs.length), hasK xs hs[k].cls = true ∧ hs[k].cause = -1 ∧ -1 ≤ hs[k].ctx ∧ hs[k].ctx < (k : Int)
/-- what is handled is a fault, or nothing -/
def Hd (h : Int) (s : Rst) : Prop := -1 ≤ h ∧ h < (s.2.length : Int)
/-- it goes on from s to r -/
structure Fw (xs : List Cls) (s : Rst) (r : Lft × Rst) : Prop where
  gd : Gd xs r.2.2
  lg : s.1.length ≤ r.2.1.length
  hs : s.2.length ≤ r.2.2.length
  rai : ∀ f, r.1 = .rai f → 0 ≤ f ∧ f < (r.2.2.length : Int)
theorem Fw.refl {xs : List Cls} {s : Rst} {l : Lft} (g : Gd xs s.2) (hl : ∀ f, l ≠ .rai f) : Fw xs s (l, s) := ⟨g, Nat.le_refl _, Nat.le_refl _, fun f e => absurd e (hl f)⟩
theorem Fw.trans {xs : List Cls} {s s2 : Rst} {l : Lft} {r : Lft × Rst} (a : Fw xs s (l, s2)) (b : Fw xs s2 r) : Fw xs s r := ⟨b.gd, Nat.le_trans a.lg b.lg, Nat.le_trans a.hs b.hs, b.rai⟩
theorem Fw.hd {xs : List Cls} {s : Rst} {r : Lft × Rst} {h : Int} (a : Fw xs s r) (k : Hd h s) : Hd h r.2 := ⟨k.1, by have := k.2; have := a.hs; omega⟩
theorem Fw.hdr {xs : List Cls} {s : Rst} {r : Lft × Rst} {f : Int} (a : Fw xs s r) (e : r.1 = .rai f) : Hd f r.2 := by have := a.rai f e; exact ⟨by omega, this.2⟩
theorem Fw.hdn {xs : List Cls} {s : Rst} {r : Lft × Rst} {h : Int} (a : Fw xs s r) (k : Hd h s) : Hd (hdN h r.1) r.2 := by
  rcases hr : r.1 with _ | v | f | _ | _
  case rai => exact a.hdr hr
  all_goals exact a.hd k
theorem Gd.snoc {xs : List Cls} {hs : List Flt} (g : Gd xs hs) {c k h : Int} (hc : hasK xs c = true) (h0 : -1 ≤ h) (h1 : h < (hs.length : Int)) : Gd xs (hs ++ [⟨c, k, -1, h, false⟩]) := by
  intro j hj
  rw [List.length_append, List.length_singleton] at hj
  rcases Nat.lt_or_ge j hs.length with h2 | h2
  · have := g j h2
    rw [List.getElem_append_left h2]; exact this
  · obtain rfl : j = hs.length := by omega
    rw [List.getElem_append_right (Nat.le_refl _)]
    simp only [Nat.sub_self, List.getElem_cons_zero]
    exact ⟨hc, trivial, h0, h1⟩
theorem Fw.raise {xs : List Cls} {s : Rst} (g : Gd xs s.2) {c k h : Int} (hc : hasK xs c = true) (hh : Hd h s) : Fw xs s (rsN c k h s) := by
  refine ⟨g.snoc hc hh.1 hh.2, Nat.le_refl _, ?_, fun f e => ?_⟩
  · show s.2.length ≤ (s.2 ++ [_]).length
    rw [List.length_append]; omega
  · have e2 : (Lft.rai (s.2.length : Int)) = .rai f := e
    injection e2 with e2
    have e3 : (rsN c k h s).2.2.length = s.2.length + 1 := by show (s.2 ++ [_]).length = _; rw [List.length_append]; rfl
    rw [e3]; omega
theorem Fw.goB {xs : List Cls} {p : List Lin} {ln : Nat → Rst → Lft × Rst} {a b : Nat} {h : Int} {OK : Nat → Prop} (hok : ∀ i, a ≤ i → i < b → OK i → bEnd p i < b → OK (bEnd p i)) (H : ∀ i s, a ≤ i → i < b → OK i → Gd xs s.2 → Hd h s → Fw xs s (ln i s)) :
    ∀ (k i : Nat) (s : Rst), a ≤ i → (i < b → OK i) → Gd xs s.2 → Hd h s → Fw xs s (goB ln p b k i s)
  | 0, i, s, _, _, g, _ => Fw.refl g (fun f e => by cases e)
  | k + 1, i, s, hai, ho, g, hh => by
    by_cases hib : i < b
    · have F := H i s hai hib (ho hib) g hh
      rcases hln : ln i s with ⟨l, s2⟩
      rw [hln] at F
      rcases l with _ | v | f | _ | _
      · rw [goB_nil hib k hln]
        exact F.trans (Fw.goB hok H k (bEnd p i) s2 (by have := bEnd_gt p i; omega) (fun hb => hok i hai hib (ho hib) hb) F.gd (F.hd hh))
      all_goals rw [goB_out hib k (by intro h; cases h) hln]; exact F
    · rw [goB_end hib]; exact Fw.refl g (fun f e => by cases e)
/-- blocks go on -/
def BFw (xs : List Cls) (p : List Lin) (blk : Bls) (C : Nat → Prop) : Prop := ∀ x h s, x < p.length → C x → Gd xs s.2 → Hd h s → Fw xs s (blk x h s)
theorem Fw.quiet {xs : List Cls} {s : Rst} {r : Lft × Rst} (F : Fw xs s r) (q : Bool) : Fw xs s (quiet q r.1, r.2) := by
  refine ⟨F.gd, F.lg, F.hs, fun f e => ?_⟩
  rcases hr : r.1 with _ | v | g | _ | _ <;> rw [hr] at e
  case rai =>
    cases q
    · have e2 : Lft.rai g = .rai f := e
      injection e2 with e2
      subst e2
      exact F.rai g hr
    · cases e
  all_goals cases e
theorem Fw.tell {xs : List Cls} {s : Rst} {l : Lft} {s2 : Rst} (F : Fw xs s (l, s2)) (x : Int) : Fw xs s (l, (s2.1 ++ [x], s2.2)) := ⟨F.gd, by have := F.lg; show s.1.length ≤ (s2.1 ++ [x]).length; rw [List.length_append]; simp at this ⊢; omega, F.hs, F.rai⟩
theorem Fw.tell0 {xs : List Cls} {s : Rst} {x : Int} {r : Lft × Rst} (F : Fw xs (s.1 ++ [x], s.2) r) : Fw xs s r := ⟨F.gd, by have := F.lg; rw [List.length_append] at this; simp at this; omega, F.hs, F.rai⟩
theorem Fw.loop {xs : List Cls} {p : List Lin} {blk : Bls} {C : Nat → Prop} (H : BFw xs p blk C) {i : Nat} (hi : i < p.length) (ho : C i) {h : Int} : ∀ n s, Gd xs s.2 → Hd h s → Fw xs s (loopN blk i h n s)
  | 0, s, g, _ => Fw.refl g (fun f e => by cases e)
  | n + 1, s, g, hh => by
    have F := H i h s hi ho g hh
    unfold loopN
    rcases hb : blk i h s with ⟨l, s2⟩
    rw [hb] at F
    rcases l with _ | v | f | _ | _
    · exact F.trans (Fw.loop H hi ho n s2 F.gd (F.hd hh))
    · exact F
    · exact F
    · exact ⟨F.gd, F.lg, F.hs, fun f e => by cases e⟩
    · exact F.trans (Fw.loop H hi ho n s2 F.gd (F.hd hh))
theorem prtG_mem {p : List Lin} {K : Int} : ∀ {L : List Nat} {x : Nat}, prtG p K L = some x → x ∈ L ∧ knd p x = K
  | [], _, h => by cases h
  | y :: r, x, h => by
    unfold prtG at h
    split at h
    · next c => injection h with h; subst h; exact ⟨List.mem_cons_self .., c⟩
    · have := prtG_mem h; exact ⟨List.mem_cons_of_mem _ this.1, this.2⟩
theorem prt_mem {p : List Lin} {i : Nat} {K : Int} {x : Nat} (h : prt p i K = some x) : x ∈ parts p i ∧ knd p x = K := prtG_mem h
theorem ctE_mem (xs : List Cls) (p : List Lin) (a : Int) : ∀ (E : List Nat), ctE xs p a E = -1 ∨ ∃ x ∈ E, ctE xs p a E = (x : Int)
  | [] => .inl rfl
  | x :: r => by
    unfold ctE
    split
    · exact .inr ⟨x, List.mem_cons_self .., rfl⟩
    · rcases ctE_mem xs p a r with h | ⟨y, hy, e⟩
      · exact .inl h
      · exact .inr ⟨y, List.mem_cons_of_mem _ hy, e⟩
theorem exL_mem {p : List Lin} {i x : Nat} (h : x ∈ exL p i) : x ∈ parts p i ∧ knd p x = 8 := by
  unfold exL exF at h
  have := List.mem_filter.1 h
  exact ⟨this.1, by simpa using this.2⟩
theorem Fw.mid {xs : List Cls} {p : List Lin} {blk : Bls} {C : Nat → Prop} (H : BFw xs p blk C) {i : Nat} (hi : i < p.length) {h : Int} (hC : ∀ x ∈ parts p i, C x) {s : Rst} {r : Lft × Rst} (F : Fw xs s r) (hh : Hd h s) : Fw xs s (midN blk xs p i h r) := by
  rcases r with ⟨l, s2⟩
  unfold midN
  rcases l with _ | v | f | _ | _
  · show Fw xs s (orN (prt p i 9) blk h (.nil, s2))
    unfold orN
    rcases hp : prt p i 9 with _ | x
    · exact F
    · have m := prt_mem hp
      exact F.trans (H x h s2 (parts_lt hi x m.1) (hC x m.1) F.gd (F.hd hh))
  · exact F
  · show Fw xs s (if _ then _ else _)
    split
    · next c =>
      rcases ctE_mem xs p (clsF s2 f) (exL p i) with e | ⟨x, hx, e⟩
      · exact absurd c (by show ¬ 0 ≤ ctE xs p (clsF s2 f) (exL p i); rw [e]; decide)
      · have m := exL_mem hx
        show Fw xs s (blk (ctE xs p (clsF s2 f) (exL p i)).toNat f s2)
        rw [e]
        exact F.trans (H x f s2 (parts_lt hi x m.1) (hC x m.1) F.gd (F.hdr rfl))
    · exact F
  · exact F
  · exact F
theorem Fw.last {xs : List Cls} {p : List Lin} {blk : Bls} {C : Nat → Prop} (H : BFw xs p blk C) {x : Nat} (hx : x < p.length) (ho : C x) {h : Int} {s : Rst} {r : Lft × Rst} (F : Fw xs s r) (hh : Hd h s) : Fw xs s (lasN blk x h r) := by
  have F2 := H x (hdN h r.1) r.2 hx ho F.gd (F.hdn hh)
  refine ⟨F2.gd, Nat.le_trans F.lg F2.lg, Nat.le_trans F.hs F2.hs, fun f e => ?_⟩
  have e2 : orElseL r.1 (blk x (hdN h r.1) r.2).1 = .rai f := e
  rcases hb : (blk x (hdN h r.1) r.2).1 with _ | v | g | _ | _ <;> rw [hb] at e2
  case nil =>
    have := F.rai f e2
    have := F2.hs
    show 0 ≤ f ∧ f < ((blk x (hdN h r.1) r.2).2.2.length : Int)
    omega
  case rai => exact F2.rai f (hb.trans e2)
  all_goals cases e2
theorem Fw.fin {xs : List Cls} {p : List Lin} {blk : Bls} {C : Nat → Prop} (H : BFw xs p blk C) {i : Nat} (hi : i < p.length) {h : Int} (hC : ∀ x ∈ parts p i, C x) {s : Rst} {r : Lft × Rst} (F : Fw xs s r) (hh : Hd h s) : Fw xs s (finN blk p i h r) := by
  unfold finN
  rcases hp : prt p i 10 with _ | x
  · exact F
  · have m := prt_mem hp
    exact F.last H (parts_lt hi x m.1) (hC x m.1) hh
theorem lineA_ok {xs : List Cls} {p : List Lin} (g : GoodP xs p) {i : Nat} (hi : i < p.length) (h2 : knd p i = 2) : hasK xs (lnA p i) = true := by
  have h := (g.line i hi).1
  rw [knd_at hi] at h2
  rw [lnA_at hi]
  unfold numS at h
  rw [h2, if_neg (by decide), if_pos rfl, Bool.and_eq_true] at h
  exact h.1
theorem hasK_root {xs : List Cls} {p : List Lin} (g : GoodP xs p) : hasK xs 0 = true := by
  have := (good_of g.tree).lo
  exact hasK_iff.2 ⟨by omega, by omega⟩
theorem Fw.step {xs : List Cls} {p : List Lin} (g : GoodP xs p) {blk : Bls} {C : Nat → Prop} (H : BFw xs p blk C) {i : Nat} (hi : i < p.length) {h : Int} (hC : ∀ x ∈ parts p i, C x) {s : Rst} (gd : Gd xs s.2) (hh : Hd h s) : Fw xs s (stepN blk xs p h i s) := by
  have hCi : C i := hC i (List.mem_cons_self ..)
  unfold stepN
  by_cases h1 : knd p i = 1
  · rw [if_pos h1]; exact (Fw.refl (l := .nil) gd (fun f e => by cases e)).tell _
  rw [if_neg h1]
  by_cases h2 : knd p i = 2
  · rw [if_pos h2]; exact Fw.raise gd (lineA_ok g hi h2) hh
  rw [if_neg h2]
  by_cases h3 : knd p i = 3
  · rw [if_pos h3]
    unfold againN
    split
    · exact Fw.raise gd (hasK_root g) hh
    · next c => exact ⟨gd, Nat.le_refl _, Nat.le_refl _, fun f e => by have e2 : Lft.rai h = .rai f := e; injection e2 with e2; subst e2; exact ⟨by omega, hh.2⟩⟩
  rw [if_neg h3]
  by_cases h4 : knd p i = 4
  · rw [if_pos h4]; exact Fw.refl gd (fun f e => by cases e)
  rw [if_neg h4]
  by_cases h5 : knd p i = 5
  · rw [if_pos h5]; exact Fw.refl gd (fun f e => by cases e)
  rw [if_neg h5]
  by_cases h6 : knd p i = 6
  · rw [if_pos h6]; exact Fw.refl gd (fun f e => by cases e)
  rw [if_neg h6]
  by_cases h7 : knd p i = 7
  · rw [if_pos h7]
    exact ((H i h s hi hCi gd hh).mid H hi hC hh).fin H hi hC hh
  rw [if_neg h7]
  by_cases h11 : knd p i = 11
  · rw [if_pos h11]
    have F := H i h (s.1 ++ [100 + lnA p i], s.2) hi hCi gd hh
    exact ((F.tell0.quiet _).tell _)
  rw [if_neg h11]
  by_cases h12 : knd p i = 12
  · rw [if_pos h12]; exact Fw.loop H hi hCi _ s gd hh
  rw [if_neg h12]
  exact Fw.refl gd (fun f e => by cases e)
/-- lines at a depth run so -/
def LFw (xs : List Cls) (p : List Lin) (N : Nat) : Prop := ∀ i h s, i < p.length → Gd xs s.2 → Hd h s → Fw xs s (lnN xs p N h i s)
theorem bfw_of {xs : List Cls} {p : List Lin} {N : Nat} (H : LFw xs p N) : BFw xs p (blN xs p N) (fun _ => True) := by
  intro x h s hx _ gd hh
  have hb := bEnd_le hx
  exact Fw.goB (OK := fun _ => True) (a := x + 1) (b := bEnd p x) (fun _ _ _ _ _ => trivial) (fun i s _ hib _ g hh => H i h s (by omega) g hh) 25 (x + 1) s (Nat.le_refl _) (fun _ => trivial) gd hh
theorem lfw_all {xs : List Cls} {p : List Lin} (g : GoodP xs p) : ∀ N, LFw xs p N
  | 0 => fun i h s _ gd _ => Fw.refl gd (fun f e => by cases e)
  | N + 1 => fun i h s hi gd hh => Fw.step g (bfw_of (lfw_all g N)) hi (fun _ _ => trivial) gd hh
end
end
end Go.Proofs.Ytlepgfccnfcagaa
