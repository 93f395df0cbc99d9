/- one text of M, ItE -/
import Derived.Test.YtpkkkpfanedieaaCk2
import Derived.Test.YtpkkkpfanedieaaCk4
import Derived.Test.YtpkkkpfanedieaaCk7
import Derived.LaidEqlPtr
namespace Go.Proofs.Ytpkkkpfanedieaa
open Go.RowKit
set_option linter.unusedVariables false
section
section
/-- a pointer to the head of a block -/
structure PB where
  g : Nat
instance instEncPB : Enc PB := ⟨1, fun p => [.pointer (some ⟨p.g, 0, none⟩)], fun _ => True, fun _ => rfl⟩
def ptrOf (gs : List PB) (a : Int) : Option Addr := if a < 0 then none else (gs[a.toNat]?).map fun p => ⟨p.g, 0, none⟩
structure Nds (w : World) (gs : List PB) (xs : List Cls) : Prop where
  len : gs.length = xs.length
  asc : ∀ i j (hi : i < gs.length) (hj : j < gs.length), i < j → gs[i].g < gs[j].g
  lt : ∀ i (hi : i < gs.length), gs[i].g < w.heap.size
  row : ∀ i (hi : i < gs.length) (hx : i < xs.length), w.heap[gs[i].g]? = some (.cells #[.int .i64 i, .pointer (ptrOf gs xs[i].parent)] 92 (0, 0))
theorem Nds.le {w w' : World} {gs : List PB} {xs : List Cls} (h : Nds w gs xs) (hl : Le w w') : Nds w' gs xs :=
  ⟨h.len, h.asc, fun i hi => Nat.lt_of_lt_of_le (h.lt i hi) hl.size, fun i hi hx => (Below.block hl _ (h.lt i hi)).trans (h.row i hi hx)⟩
theorem Nds.idx {w : World} {gs : List PB} {xs : List Cls} (h : Nds w gs xs) (i : Nat) (hi : i < gs.length) : w.cell? ⟨gs[i].g, 0, none⟩ = some (.int .i64 i) := by
  have hx : i < xs.length := by have := h.len; omega
  exact (cell_of_row w _ 0 _ _ _ (h.row i hi hx)).trans rfl
theorem Nds.up {w : World} {gs : List PB} {xs : List Cls} (h : Nds w gs xs) (i : Nat) (hi : i < gs.length) (hx : i < xs.length) : w.cell? ⟨gs[i].g, 1, none⟩ = some (.pointer (ptrOf gs xs[i].parent)) :=
  (cell_of_row w _ 1 _ _ _ (h.row i hi hx)).trans rfl
theorem ptrOf_at {gs : List PB} {i : Nat} (h : i < gs.length) : ptrOf gs (i : Int) = some ⟨gs[i].g, 0, none⟩ := by
  unfold ptrOf; rw [if_neg (by omega), Int.toNat_natCast, List.getElem?_eq_getElem h]; rfl
theorem ptrOf_neg {gs : List PB} {a : Int} (h : a < 0) : ptrOf gs a = none := by unfold ptrOf; rw [if_pos h]
theorem ptrOf_high {gs : List PB} {a : Int} (h : (gs.length : Int) ≤ a) : ptrOf gs a = none := by
  unfold ptrOf; rw [if_neg (by omega), List.getElem?_eq_none (by omega)]; rfl
theorem Sl.pb_at {w : World} {A : Option Addr} {n cap : Nat} {gs : List PB} (h : Sl w A n cap gs) {k : Nat} (hk : k < gs.length) :
    ∃ b off, A = some ⟨b, off, none⟩ ∧ b < w.heap.size ∧ w.cell? ⟨b, off + k, none⟩ = some (.pointer (some ⟨gs[k].g, 0, none⟩)) := by
  obtain ⟨b, off, e, hb, hc⟩ := h.cells_ hk
  have := hc 0 (by decide) _ rfl
  exact ⟨b, off, e, hb, by simpa [Enc.size] using this⟩

theorem nodeAt_any (A : Option Addr) (n cap : Nat) (gs : List PB) (i : Int) (w : World) (hR : Sl w A n cap gs) :
    Calls Try.prog 36 #[.slice A n cap, .int .i64 i] w fun e w' => e = .returned (.pointer (ptrOf gs i)) ∧ w = w' := by
  obtain rfl := hR.len
  have hm := hR.n_le
  by_cases h0 : i < 0
  · have HF := Lib.hid (ptrOf_neg (gs := gs) h0)
    go_enter Try.func36, Try.ntmps36
    go_wp2
    go_ret
    exact ⟨by rw [HF.out]; rfl, rfl⟩
  · by_cases h1 : (gs.length : Int) ≤ i
    · have HF := Lib.hid (ptrOf_high (gs := gs) h1)
      go_enter Try.func36, Try.ntmps36
      go_wp2
      go_ret
      exact ⟨by rw [HF.out]; rfl, rfl⟩
    · obtain ⟨k, rfl⟩ := Int.eq_ofNat_of_zero_le (by omega : 0 ≤ i)
      have hk : k < gs.length := by omega
      obtain ⟨b, off, rfl, hb, hcell⟩ := hR.pb_at hk
      have HF := Lib.hid (ptrOf_at hk)
      go_enter Try.func36, Try.ntmps36
      go_wp2
      go_ret
      exact ⟨by rw [HF.out]; rfl, rfl⟩

theorem pb_ne {w : World} {gs : List PB} {xs : List Cls} (h : Nds w gs xs) {i j : Nat} (hi : i < gs.length) (hj : j < gs.length) : (gs[i].g = gs[j].g) ↔ i = j := by
  constructor
  · intro e
    rcases Nat.lt_trichotomy i j with h1 | h1 | h1
    · have := h.asc i j hi hj h1; omega
    · exact h1
    · have := h.asc j i hj hi h1; omega
  · rintro rfl; rfl

theorem ptrOf_form {gs : List PB} {xs : List Cls} {a : Int} (hl : gs.length = xs.length) (ha : a < xs.length) : ptrOf gs a = none ∧ a < 0 ∨ ∃ i : Nat, ∃ h : i < gs.length, a = i ∧ ptrOf gs a = some ⟨gs[i].g, 0, none⟩ := by
  by_cases h : a < 0
  · exact .inl ⟨ptrOf_neg h, h⟩
  · obtain ⟨i, rfl⟩ := Int.eq_ofNat_of_zero_le (by omega : 0 ≤ a)
    exact .inr ⟨i, by omega, rfl, ptrOf_at (by omega)⟩
theorem blk_up {w : World} {gs : List PB} {xs : List Cls} (hN : Nds w gs xs) (g : Good xs) {i : Nat} (hi : i < gs.length) (hx : i < xs.length) : blk (.pointer (ptrOf gs xs[i].parent)) < blk (.pointer (some ⟨gs[i].g, 0, none⟩)) := by
  have hp := g.par_le hx
  rcases ptrOf_form (gs := gs) (xs := xs) (a := xs[i].parent) hN.len (by omega) with ⟨h, _⟩ | ⟨k, hk, e, h⟩
  · rw [h]; simp [blk]
  · rw [h]
    have := hN.asc k i hk hi (by omega)
    simp [blk]; omega

theorem nodeInfo : (Try.prog.info? 92).map (fun i => (i.zero, i.size, i.bytes)) = some (some (.agg #[.int .i64 0, .pointer none]), 2, 16) := by kernel_rfl
theorem eql_same (w : World) (g : Nat) : (binOp .eql 61 (.pointer (some ⟨g, 0, none⟩)) (.pointer (some ⟨g, 0, none⟩))).run Try.prog w = .ok (.bool true) w := by
  obtain ⟨i0, hi, hz0, hz1, hz2⟩ := info_parts nodeInfo
  exact run_eql_ptr_same w _ Try.underlying61 hi
theorem eql_other {w : World} {gs : List PB} {xs : List Cls} (h : Nds w gs xs) {i j : Nat} (hi : i < gs.length) (hj : j < gs.length) (hx : i < xs.length) (hy : j < xs.length) (hne : i ≠ j) :
    (binOp .eql 61 (.pointer (some ⟨gs[i].g, 0, none⟩)) (.pointer (some ⟨gs[j].g, 0, none⟩))).run Try.prog w = .ok (.bool false) w := by
  obtain ⟨i0, hi0, hz0, hz1, hz2⟩ := info_parts nodeInfo
  have hgne := mt (pb_ne h hi hj).1 hne
  exact run_eql_ptr_other w Try.underlying61 hi0 (by rw [hz1]; decide) (fun e => hgne (congrArg Addr.block e)) (h.row i hi hx) (h.row j hj hy)

set_option maxRecDepth 100000 in
theorem catches_any (gs : List PB) (xs : List Cls) (g : Good xs) (j : Nat) (hj : j < gs.length) (a : Int) (ha : a < xs.length) (ha0 : -1 ≤ a) (w : World) (hN : Nds w gs xs) :
    Calls Try.prog 48 #[.pointer (some ⟨gs[j].g, 0, none⟩), .pointer (ptrOf gs a)] w fun e w' => e = .returned (.bool (isAL xs a j)) ∧ w = w' := by
  have hlen := hN.len
  have HL := Lib.hid hlen; clear hlen
  go_enter Try.func48, Try.ntmps48
  go_wp2
  go_loop [1] (fun c => ∃ a' : Int, a' < xs.length ∧ c = .pointer (ptrOf gs a') ∧ isAL xs a j = isAL xs a' j ∧ -1 ≤ a') (fun c => blk c)
  case atStart => exact ⟨a, ha, rfl, rfl, ha0⟩
  case round =>
    obtain ⟨a', h1, rfl, hr, h2⟩ := hrel
    have HR := Lib.hid hr; clear hr
    rcases ptrOf_form (gs := gs) HL.out h1 with ⟨hp, h0⟩ | ⟨i, hi, rfl, hp⟩
    · have HF : Hid (isAL xs a j = false) := by show _ = _; rw [HR.out, isAL_neg h0]
      rw [hp]
      clear hp
      go_wp2
      go_ret
      exact ⟨ret_bool HF.out.symm, rfl⟩
    · rw [hp]
      clear hp
      by_cases hij : i = j
      · subst hij
        have HF : Hid (isAL xs a i = true) := by show _ = _; rw [HR.out, isAL_at g (by omega)]; simp
        have hq := eql_same w gs[i].g
        go_wp2
        go_ret
        exact ⟨ret_bool HF.out.symm, rfl⟩
      · have hq := eql_other hN hi hj (by have := HL.out; omega) (by have := HL.out; omega) hij
        have hc := hN.up i hi (by omega)
        have HF : Hid (isAL xs a j = isAL xs xs[i].parent j) := by
          show _ = _; rw [HR.out, isAL_at g (by omega)]
          have : ((i : Int) == (j : Int)) = false := by simp; omega
          rw [this]; rfl
        have HB := Lib.hid (blk_up hN g hi (by omega))
        have hpl := g.par_le (i := i) (by omega)
        clear HR
        go_wp2
        go_round
        case rel => exact ⟨xs[i].parent, by omega, rfl, HF.out, by omega⟩
        case measure => exact HB.out
end

section
def NodesOut (xs : List Cls) (w : World) (e : Ending) (w' : World) : Prop :=
  Le w w' ∧ ((okTree xs = false ∧ e = .returned (.slice none 0 0)) ∨ (okTree xs = true ∧ ∃ g gs, e = .returned (.slice (some ⟨g, 0, none⟩) xs.length xs.length) ∧ Sl w' (some ⟨g, 0, none⟩) xs.length xs.length gs ∧ Nds w' gs xs))
theorem pnInfo : (Try.prog.info? 61).map (fun i => (i.zero, i.size, i.bytes)) = some (some (.pointer none), 1, 8) := by kernel_rfl

theorem nds_step {wr W' : World} {gs : List PB} {xs : List Cls} {k R B : Nat} (hk : k < xs.length) (hgl : gs.length = k) (hN : Nds wr gs (xs.take k)) (hgs : ∀ j (h : j < gs.length), R < gs[j].g) (hpar : xs[k].parent ≤ (k : Int) - 1)
    (hpars : ∀ i (h : i < xs.length), xs[i].parent ≤ (i : Int) - 1) (hB : wr.heap.size ≤ B) (hB' : B < W'.heap.size)
    (hold : ∀ i, i < wr.heap.size → i ≠ R → W'.heap[i]? = wr.heap[i]?) (hnew : W'.heap[B]? = some (.cells #[.int .i64 k, .pointer (ptrOf gs xs[k].parent)] 92 (0, 0))) :
    Nds W' (gs ++ [⟨B⟩]) (xs.take (k + 1)) := by
  have hp : ∀ p : Int, p < k → ptrOf (gs ++ [⟨B⟩]) p = ptrOf gs p := by
    intro p hp
    unfold ptrOf
    split
    · rfl
    · rw [List.getElem?_append_left (by omega)]
  have hl : (gs ++ [(⟨B⟩ : PB)]).length = k + 1 := by simp [hgl]
  have hget : ∀ i (hi : i < (gs ++ [(⟨B⟩ : PB)]).length), (∃ h : i < gs.length, (gs ++ [(⟨B⟩ : PB)])[i] = gs[i]) ∨ (i = k ∧ (gs ++ [(⟨B⟩ : PB)])[i] = ⟨B⟩) := by
    intro i hi
    rcases Nat.lt_or_ge i gs.length with h | h
    · exact .inl ⟨h, List.getElem_append_left h⟩
    · exact .inr ⟨by omega, by rw [List.getElem_append_right h]; simp⟩
  refine ⟨by rw [hl, List.length_take]; omega, ?_, ?_, ?_⟩
  · intro i j hi hj hij
    rcases hget i hi with ⟨h1, e1⟩ | ⟨h1, e1⟩ <;> rcases hget j hj with ⟨h2, e2⟩ | ⟨h2, e2⟩ <;> rw [e1, e2]
    · exact hN.asc i j h1 h2 hij
    · have := hN.lt i h1; show _ < B; omega
    · omega
    · omega
  · intro i hi
    rcases hget i hi with ⟨h1, e1⟩ | ⟨h1, e1⟩ <;> rw [e1]
    · have := hN.lt i h1; omega
    · exact hB'
  · intro i hi hx
    have hx' : i < xs.length := by rw [List.length_take] at hx; omega
    have e : (xs.take (k + 1))[i] = xs[i] := List.getElem_take
    rw [e, hp _ (by have := hpars i hx'; omega)]
    rcases hget i hi with ⟨h1, e1⟩ | ⟨h1, e1⟩ <;> rw [e1]
    · have hx2 : i < (xs.take k).length := by rw [List.length_take]; omega
      have := hN.row i h1 hx2
      have e3 : (xs.take k)[i] = xs[i] := List.getElem_take
      rw [e3] at this
      rw [hold _ (hN.lt i h1) (by have := hgs i h1; omega)]; exact this
    · subst h1; exact hnew

set_option maxHeartbeats 4000000 in
set_option maxRecDepth 100000 in
theorem nodesOf_any (A : Option Addr) (n cap : Nat) (xs : List Cls) (w : World) (hR : Sl w A n cap xs) :
    Calls Try.prog 35 #[.agg #[.slice A n cap]] w (NodesOut xs w) := by
  have hl := Le.new w (.cells #[.slice A n cap] 25)
  have c0 : (w.alloc (.cells #[.slice A n cap] 25)).cell? ⟨w.heap.size, 0, none⟩ = some (.slice A n cap) := by rw [World.cell?_alloc_at _ _ _ _ rfl]; rfl
  have hz : w.heap.size < (w.alloc (.cells #[.slice A n cap] 25)).heap.size := by simp
  have hS := hR.le hl
  obtain ⟨i0, hi, hz0, hz1, hz2⟩ := info_parts pnInfo
  cases hok : okTree xs
  · go_enter Try.func35, Try.ntmps35
    go_wp2_with fail
    generalize w.alloc (.cells #[.slice A n cap] 25) = W at *
    refine (iValidTree_any A n cap xs _ hS).mono ?_
    rintro e w2 ⟨rfl, hle⟩
    rw [hok]
    have HK := Lib.hid hok; clear hok
    go_wp2
    go_ret
    exact ⟨hl.trans hle, .inl ⟨HK.out, rfl⟩⟩
  · have g := good_of hok
    have hlo := g.lo
    have hhi := g.hi
    obtain rfl := hR.len
    have hb2 : i0.bytes * xs.length ≤ 281474976710656 := by rw [hz2]; omega
    go_enter Try.func35, Try.ntmps35
    go_wp2_with fail
    generalize w.alloc (.cells #[.slice A xs.length cap] 25) = W at *
    refine (iValidTree_any A xs.length cap xs _ hS).mono ?_
    rintro e w2 ⟨rfl, hle⟩
    rw [hok]
    have HK := Lib.hid hok; clear hok
    have c2 := (hle.cell hz).trans c0
    have hl2 := hl.trans hle
    have hz2' := Nat.lt_of_lt_of_le hz hle.size
    clear c0 hz hle hl hS
    go_wp2_with (refine wpList_make_full _ rfl _ _ 59 rfl w2.heap.size 61 i0 _ 1 Try.underlying59 hi hz0 hz1 .i64 .i64 _ _ xs.length rfl rfl rfl rfl hb2 (by unfold maxLen; omega) (Nat.le_refl _) ?_; intro w3 hown3 hg3; have c3 := hg3.cell c2 (by simp))
    have hle3 : Le w2 w3 := (Le.refl w2).grown hg3 (by intro k hk; cases hk)
    have hz3 : w2.heap.size < w3.heap.size := own_lt hown3
    clear c3
    go_loopw [16] (fun i wr => ∃ k : Nat, ∃ gs : List PB, ∃ r : List Value, k ≤ xs.length ∧ i = .int .i64 k ∧ r.length = xs.length - k ∧ wr.ownsRow w2.heap.size 61 1 (.slice (some ⟨w2.heap.size, 0, none⟩) xs.length xs.length) xs.length (gs.flatMap Enc.cells ++ r) ∧
        Nds wr gs (xs.take k) ∧ (∀ j (h : j < gs.length), w2.heap.size < gs[j].g) ∧ Le w2 wr) (fun i _ => xs.length - (intOf i).toNat)
    case atStart => exact ⟨0, [], _, Nat.zero_le _, rfl, by simp [madeCells], hown3, ⟨by simp, by simp, by simp, by simp⟩, by simp, hle3⟩
    case round =>
      obtain ⟨k, gs, r, hk, rfl, hr, hown, hN, hgs, hle⟩ := hrel
      clear hown3 hg3 hle3
      have hwr := hl2.trans hle
      have hRr := hR.le hwr
      have hcT := (hle.cell hz2').trans c2
      have hzr : w2.heap.size < wr.heap.size := own_lt hown
      have hgl : gs.length = k := by have := hN.len; rw [List.length_take] at this; omega
      have HG := Lib.hid hgl
      by_cases hlt : k < xs.length
      · obtain ⟨b, off, rfl, hb, hcell, hcell2, hns, hp1, hp2⟩ := hRr.cls_at hlt
        match r, hr with
        | [], h => simp at h; omega
        | r0 :: r1, hr =>
        have hfl : (gs.flatMap (Enc.cells (α := PB))).length = k := by rw [flat_len, hgl]; show k * 1 = k; omega
        have hc0 : wr.cell? ⟨w2.heap.size, k, none⟩ = some r0 := by rw [hown.cellAt _ (by omega), List.getElem?_append_right (by omega), hfl]; simp
        have hf0 := hown.frozenAt k
        have hpar := g.par_le hlt
        have HFL := Lib.hid hfl
        clear hgl hfl
        have hpars : ∀ i (h : i < xs.length), xs[i].parent ≤ (i : Int) - 1 := fun i h => (g.par_le h).2
        have HP := Lib.hid hpars; clear hpars
        have hflat : Hid ((gs ++ [(⟨wr.heap.size + 1⟩ : PB)]).flatMap Enc.cells ++ r1 = (gs.flatMap Enc.cells ++ r0 :: r1).set k (.pointer (some ⟨wr.heap.size + 1, 0, none⟩))) := by
          show _ = _
          rw [List.set_append_right _ _ (by have := HFL.out; omega), HFL.out]
          simp [Enc.cells]
        have hgsN : Hid (∀ j (h : j < (gs ++ [(⟨wr.heap.size + 1⟩ : PB)]).length), w2.heap.size < (gs ++ [(⟨wr.heap.size + 1⟩ : PB)])[j].g) := by
          intro j hj
          rcases Nat.lt_or_ge j gs.length with h | h
          · rw [List.getElem_append_left h]; exact hgs j h
          · rw [List.getElem_append_right h]; simp; omega
        by_cases hneg : xs[k].parent < 0
        · go_wp2
          go_roundw
          case rel =>
            refine ⟨k + 1, gs ++ [⟨wr.heap.size + 1⟩], r1, by omega, by go_num, by simp at hr; omega, ?_, ?_, hgsN.out, ?_⟩
            · rw [hflat.out]; exact ((hown.stored k _).1.alloc _).alloc _
            · refine nds_step (R := w2.heap.size) hlt HG.out hN hgs hpar.2 HP.out (by omega) (by simp) ?_ ?_
              · intro i hi hne
                rw [Below.heap_alloc _ _ _ (by simp; omega), Below.heap_alloc _ _ _ (by simpa using hi), Below.heap_setCell _ _ _ _ hne]
              · rw [ptrOf_neg hneg]
                have := heap_alloc_new ((wr.setCell ⟨w2.heap.size, k, none⟩ (.pointer (some ⟨wr.heap.size + 1, 0, none⟩))).alloc (.cells #[.string xs[k].name, .int .i64 xs[k].parent] 90)) (.cells #[.int .i64 k, .pointer none] 92)
                simpa using this
            · exact ((hle.setCell (Nat.le_refl _) _).alloc _).alloc _
          case measure => simp [intOf]; omega
        · go_wp2_with fail
          obtain ⟨p, hpe⟩ := Int.eq_ofNat_of_zero_le (by omega : 0 ≤ xs[k].parent)
          have hpk : p < gs.length := by have := HG.out; omega
          have hptr : ptrOf gs xs[k].parent = some ⟨gs[p].g, 0, none⟩ := by rw [hpe]; exact ptrOf_at hpk
          have hrp : wr.cell? ⟨w2.heap.size, p, none⟩ = some (.pointer (some ⟨gs[p].g, 0, none⟩)) := by
            rw [hown.cellAt _ (by omega), List.getElem?_append_left (by have := HFL.out; have := HG.out; omega)]
            have := flat_at gs p hpk 0 (by decide)
            simpa [Enc.size, Enc.cells] using this
          generalize hWd : ((wr.setCell _ _).alloc _).alloc _ = W
          have f1 : W.cell? ⟨w2.heap.size, k, none⟩ = some (.pointer (some ⟨wr.heap.size + 1, 0, none⟩)) := by
            rw [← hWd, World.cell?_alloc_past _ _ _ (by simp; omega), World.cell?_alloc_past _ _ _ (by simpa using hzr)]; exact cell_set_same hc0
          have f2 : W.cell? ⟨wr.heap.size, 1, none⟩ = some (.int .i64 xs[k].parent) := by
            rw [← hWd, World.cell?_alloc_past _ _ _ (by simp), World.cell?_alloc_at _ _ _ _ (by simp)]; rfl
          have f3 : W.cell? ⟨w2.heap.size, p, none⟩ = some (.pointer (some ⟨gs[p].g, 0, none⟩)) := by
            rw [← hWd, World.cell?_alloc_past _ _ _ (by simp; omega), World.cell?_alloc_past _ _ _ (by simpa using hzr), cell_set_other (.inr (by have := HG.out; omega))]; exact hrp
          have f4 : W.cell? ⟨wr.heap.size + 1, 1, none⟩ = some (.pointer none) := by
            rw [← hWd, World.cell?_alloc_at _ _ _ _ (by simp)]; rfl
          have f5 : W.frozen? ⟨wr.heap.size + 1, 1, none⟩ = false := by
            rw [← hWd, World.frozen?_alloc_at _ _ _ _ (by simp)]
          have hWz : W.heap.size = wr.heap.size + 2 := by rw [← hWd]; simp
          have HWZ := Lib.hid hWz; clear hWz
          have hWold : ∀ i, i < wr.heap.size → i ≠ w2.heap.size → W.heap[i]? = wr.heap[i]? := by
            intro i hi hne
            rw [← hWd, Below.heap_alloc _ _ _ (by simp; omega), Below.heap_alloc _ _ _ (by simpa using hi), Below.heap_setCell _ _ _ _ hne]
          have HWO := Lib.hid hWold; clear hWold
          have hWn : W.heap[wr.heap.size + 1]? = some (.cells #[.int .i64 k, .pointer none] 92 (0, 0)) := by
            have := heap_alloc_new ((wr.setCell ⟨w2.heap.size, k, none⟩ (.pointer (some ⟨wr.heap.size + 1, 0, none⟩))).alloc (.cells #[.string xs[k].name, .int .i64 xs[k].parent] 90)) (.cells #[.int .i64 k, .pointer none] 92)
            rw [hWd] at this
            simpa using this
          have HWN := Lib.hid hWn; clear hWn
          have hWown : W.ownsRow w2.heap.size 61 1 (.slice (some ⟨w2.heap.size, 0, none⟩) xs.length xs.length) xs.length ((gs ++ [(⟨wr.heap.size + 1⟩ : PB)]).flatMap Enc.cells ++ r1) := by
            rw [hflat.out, ← hWd]; exact ((hown.stored k _).1.alloc _).alloc _
          have hWle : Le w2 W := by rw [← hWd]; exact ((hle.setCell (Nat.le_refl _) _).alloc _).alloc _
          have HPT := Lib.hid hptr; clear hptr
          have HPE := Lib.hid hpe
          have hidx : 0 ≤ xs[k].parent ∧ xs[k].parent < xs.length := by omega
          have htn : xs[k].parent.toNat = p := by omega
          clear hWd hc0 hf0 hrp hcell hcell2
          clear hpe
          have f3' : W.cell? ⟨w2.heap.size, xs[k].parent.toNat, none⟩ = some (.pointer (some ⟨gs[p].g, 0, none⟩)) := by rw [htn]; exact f3
          have HTN := Lib.hid htn; clear htn
          clear f3
          go_region
          all_goals go_wp2
          all_goals
            go_roundw
            case rel =>
              refine ⟨k + 1, gs ++ [⟨wr.heap.size + 1⟩], r1, by omega, by go_num, by simp at hr; omega, ?_, ?_, hgsN.out, ?_⟩
              · exact (own_set hWown (by omega) _).drew
              · refine nds_step (R := w2.heap.size) hlt HG.out hN hgs hpar.2 HP.out (by omega) (by have := HWZ.out; simp [World.setCell, World.drew]; omega) ?_ ?_
                · intro i hi hne
                  show (World.setCell _ _ _).heap[i]? = _
                  rw [Below.heap_setCell _ _ _ _ (by show i ≠ wr.heap.size + 1; omega)]
                  exact HWO.out i hi hne
                · rw [HPT.out]
                  exact heap_setCell_same W (wr.heap.size + 1) 1 _ _ _ HWN.out
              · exact (hWle.setCell (by omega) _).drew
            case measure => simp [intOf]; omega
      · have hk' : k = xs.length := by omega
        have hr0 : r = [] := List.eq_nil_of_length_eq_zero (by omega)
        have HF : Hid (NodesOut xs w (.returned (.slice (some ⟨w2.heap.size, 0, none⟩) xs.length xs.length)) wr) := by
          refine ⟨hwr, .inr ⟨HK.out, w2.heap.size, gs, rfl, ?_, ?_⟩⟩
          · rw [hr0, List.append_nil] at hown
            exact Sl.of_own hown rfl (by decide) (fun _ _ => trivial)
          · rw [hk', List.take_length] at hN; exact hN
        clear hk' hr0 hr HG
        go_wp2
        go_ret
        exact HF.out
end

section
theorem isA_any (A : Option Addr) (n cap : Nat) (xs : List Cls) (a b : Int) (w : World) (hR : Sl w A n cap xs) (g : Good xs) (ha : a < xs.length) (ha0 : -1 ≤ a) :
    Calls Try.prog 80 #[.agg #[.slice A n cap], .int .i64 a, .int .i64 b] w fun e w' => e = .returned (.bool (isAL xs a b)) ∧ Le w w' := by
  have hl := Le.new w (.cells #[.slice A n cap] 25)
  have hS := hR.le hl
  go_enter Try.func80, Try.ntmps80
  go_wp2_with fail
  refine (above_any A n cap xs a _ hS g ha ha0).mono ?_
  rintro e w2 ⟨v, rfl, hown, hle⟩
  have hok : ∀ x ∈ aboveL xs a, Enc.ok x := by
    intro x hx
    have := aboveL_mem g _ a rfl ha x hx
    have := g.hi
    exact ⟨by omega, by omega⟩
  obtain ⟨A2, c2, rfl⟩ : ∃ A2 c2, v = .slice A2 (aboveL xs a).length c2 := by
    rcases hown.2 with ⟨h, h0⟩ | ⟨g2, c2, _, h, _⟩
    · exact ⟨none, 0, by rw [h0]; exact h⟩
    · exact ⟨_, c2, h⟩
  have hSa : Sl w2 A2 (aboveL xs a).length c2 (aboveL xs a) := Sl.of_own hown rfl (by decide) hok
  clear hown hok
  go_wp2_with fail
  refine (hasInt_any _ _ _ (aboveL xs a) b _ hSa).mono ?_
  rintro e w3 ⟨rfl, rfl⟩
  go_wp2
  go_ret
  exact ⟨ret_bool rfl, hl.trans hle⟩

/-- what nodesOf hands back, as one slice -/
theorem nodes_one {xs : List Cls} {w w' : World} {e : Ending} (h : NodesOut xs w e w') : Le w w' ∧ ∃ A n gs, e = .returned (.slice A n n) ∧ Sl w' A n n gs ∧ ((okTree xs = false ∧ n = 0 ∧ gs = []) ∨ (okTree xs = true ∧ n = xs.length ∧ Nds w' gs xs)) := by
  obtain ⟨hl, ⟨h0, rfl⟩ | ⟨h1, g, gs, rfl, hS, hN⟩⟩ := h
  · exact ⟨hl, none, 0, [], rfl, Sl.nil _ _ _ (by omega), .inl ⟨h0, rfl, rfl⟩⟩
  · exact ⟨hl, _, _, gs, rfl, hS, .inr ⟨h1, rfl, hN⟩⟩

theorem ptr_cases {gs : List PB} {xs : List Cls} (hl : gs.length = xs.length) (a : Int) : (hasK xs a = false ∧ ptrOf gs a = none) ∨ (hasK xs a = true ∧ ∃ i : Nat, ∃ h : i < gs.length, a = i ∧ ptrOf gs a = some ⟨gs[i].g, 0, none⟩) := by
  by_cases h0 : a < 0
  · exact .inl ⟨by unfold hasK; simp; omega, ptrOf_neg h0⟩
  · by_cases h1 : (gs.length : Int) ≤ a
    · exact .inl ⟨by unfold hasK; simp; omega, ptrOf_high h1⟩
    · obtain ⟨i, rfl⟩ := Int.eq_ofNat_of_zero_le (by omega : 0 ≤ a)
      exact .inr ⟨hasK_iff.2 (by omega), i, by omega, rfl, ptrOf_at (by omega)⟩
theorem ptrOf_nil (a : Int) : ptrOf [] a = none := by unfold ptrOf; split <;> simp
end

section
set_option maxHeartbeats 1000000 in
theorem iIsA_any (A : Option Addr) (n cap : Nat) (xs : List Cls) (a b : Int) (w : World) (hR : Sl w A n cap xs) :
    Calls Try.prog 18 #[.agg #[.slice A n cap], .int .i64 a, .int .i64 b] w fun e w' => e = .returned (.bool (isAx xs a b)) ∧ Le w w' := by
  have hl := Le.new w (.cells #[.slice A n cap] 25)
  have hS := hR.le hl
  go_enter Try.func18, Try.ntmps18
  go_wp2_with fail
  refine (nodesOf_any A n cap xs _ hS).mono ?_
  intro e w2 hout
  obtain ⟨hle, A2, n2, gs, rfl, hS2, hcase⟩ := nodes_one hout
  go_wp2_with fail
  refine (nodeAt_any _ _ _ gs a _ hS2).mono ?_
  rintro e w3 ⟨rfl, rfl⟩
  go_wp2_with fail
  refine (nodeAt_any _ _ _ gs b _ hS2).mono ?_
  rintro e w3 ⟨rfl, rfl⟩
  rcases hcase with ⟨h0, _, rfl⟩ | ⟨h1, _, hN⟩
  · have HF : Hid (isAx xs a b = false) := by show _ = _; unfold isAx; rw [h0]; rfl
    rw [ptrOf_nil, ptrOf_nil]
    clear h0
    go_wp2
    go_ret
    exact ⟨ret_bool HF.out.symm, hl.trans hle⟩
  · have g := good_of h1
    have HL := Lib.hid hN.len
    rcases ptr_cases HL.out a with ⟨h2, h3⟩ | ⟨h2, i, hi, rfl, h3⟩
    · have HF : Hid (isAx xs a b = false) := by show _ = _; unfold isAx; rw [h1, h2]; rfl
      rw [h3]
      clear h1 h2 h3
      go_wp2
      go_ret
      exact ⟨ret_bool HF.out.symm, hl.trans hle⟩
    · rcases ptr_cases HL.out b with ⟨h4, h5⟩ | ⟨h4, j, hj, rfl, h5⟩
      · have HF : Hid (isAx xs i b = false) := by show _ = _; unfold isAx; rw [h1, h2, h4]; rfl
        rw [h3, h5]
        clear h1 h2 h3 h4 h5
        go_wp2
        go_ret
        exact ⟨ret_bool HF.out.symm, hl.trans hle⟩
      · have HF : Hid (isAx xs i j = isAL xs i j) := by show _ = _; unfold isAx; rw [h1, h2, h4]; rfl
        have HP := Lib.hid h3
        rw [h3, h5]
        clear h1 h2 h3 h4 h5
        go_wp2_with fail
        have hc := catches_any gs xs g j hj (i : Int) (by have := HL.out; omega) (by omega) w2 hN
        rw [HP.out] at hc
        refine hc.mono ?_
        rintro e w3 ⟨rfl, rfl⟩
        go_wp2
        go_ret
        exact ⟨ret_bool HF.out.symm, hl.trans hle⟩
end
end

section
/-- the test of the model's split -/
def tS (xs : List Cls) (a : Int) (wi : Bool) (q : Prt) : Bool := isAL xs q.cls a == wi
theorem anyF_at {f : Nat → Bool} {n k : Nat} (h : k < n) : anyF f k (n - k) = (f k || anyF f (k + 1) (n - (k + 1))) := by
  rw [show n - k = (n - (k + 1)) + 1 by omega]; rfl
theorem anyF_end {f : Nat → Bool} {n k : Nat} (h : ¬ k < n) : anyF f k (n - k) = false := by
  rw [show n - k = 0 by omega]; rfl
set_option maxRecDepth 100000 in
set_option maxHeartbeats 2000000 in
theorem keeps_any (A B : Option Addr) (n cap m c : Nat) (xs : List Cls) (g : List Prt) (G : GoodG xs g) (i : Nat) (hi : i < g.length) (a : Int) (wi : Bool) (w : World) (hT : Sl w A n cap xs) (hG : Sl w B m c g) :
    Calls Try.prog 68 #[.agg #[.slice A n cap], .slice B m c, .int .i64 i, .int .i64 a, .bool wi] w fun e w' => e = .returned (.bool (keepsAt (tS xs a wi) g i)) ∧ Le w w' := by
  obtain rfl := hG.len
  have hmx := hG.n_le
  have g0 := good_of G.tree
  obtain ⟨c0, z0, hl⟩ := box1 w (.slice A n cap) 25
  have hS := hT.le hl
  have hG1 := hG.le hl
  have hend := endN_gt g i
  have hendl := endN_le hi
  go_enter Try.func68, Try.ntmps68
  go_wp2_with fail
  generalize w.alloc (.cells #[.slice A n cap] 25) = w1 at *
  go_loopw [11] (fun q wr => ∃ k : Nat, i ≤ k ∧ k ≤ endN g i ∧ q = .int .i64 k ∧ keepsAt (tS xs a wi) g i = anyF (passAt (tS xs a wi) g) k (endN g i - k) ∧ Le w1 wr) (fun q _ => endN g i - (intOf q).toNat)
  case atStart => exact ⟨i, Nat.le_refl _, by omega, rfl, rfl, Le.refl _⟩
  case round =>
    obtain ⟨k, hk0, hk, rfl, hF, hle⟩ := hrel
    have HF := Lib.hid hF
    clear hF
    have hGr := hG1.le hle
    have hSr := hS.le hle
    have d0 := (hle.cell z0).trans c0
    go_wp2_with fail
    refine (endOf_any _ _ _ g i hi _ hGr).mono ?_
    rintro e w2 ⟨rfl, hle2⟩
    have hL := hle.trans hle2
    have hS2 := hSr.le hle2
    have hG2 := hGr.le hle2
    have d2 := (hle2.cell (Nat.lt_of_lt_of_le z0 hle.size)).trans d0
    have hLL := hl.trans hL
    clear hle hle2 hGr hSr d0
    by_cases hlt : k < endN g i
    · have hkg : k < g.length := by omega
      obtain ⟨b, off, rfl, hb, p0, p1, p2, p3, -⟩ := hG2.prt_at hkg
      have HA : Hid (anyF (passAt (tS xs a wi) g) k (endN g i - k) = (passAt (tS xs a wi) g k || anyF (passAt (tS xs a wi) g) (k + 1) (endN g i - (k + 1)))) := anyF_at hlt
      have HQ : Hid (passAt (tS xs a wi) g k = (!g[k].group && (isAL xs g[k].cls a == wi))) := by show _ = _; unfold passAt tS; rw [gAt_at hkg]
      have HLf := Lib.hid (G.leaf k hkg)
      rw [gAt_at hkg] at HLf
      have d3 : w2.drew.cell? ⟨w.heap.size, 0, none⟩ = some (.slice A n cap) := d2
      have q1 : w2.drew.cell? ⟨b, off + k * 4 + 1, none⟩ = some (.bool g[k].group) := p1
      have q2 : w2.drew.cell? ⟨b, off + k * 4 + 2, none⟩ = some (.int .i64 g[k].cls) := p2
      have hS3 := hS2.le (Le.refl w2).drew
      have HLD := Lib.hid (hL.drew)
      have zb : b < w2.drew.heap.size := hb
      have zw : w.heap.size < w2.drew.heap.size := Nat.lt_of_lt_of_le z0 hL.size
      clear d2 p0 p1 p2 p3
      go_wp2_with fail
      refine wp_region_noPanic ?_
      refine wp_region_Z (fun w' => w'.cell? ⟨w.heap.size, 0, none⟩ = some (.slice A n cap) ∧ w'.cell? ⟨b, off + k * 4 + 1, none⟩ = some (.bool g[k].group) ∧ w'.cell? ⟨b, off + k * 4 + 2, none⟩ = some (.int .i64 g[k].cls)) [] (by kernel_rfl) ?_
      generalize w2.drew = V at *
      cases hgr : g[k].group
      · rw [hgr] at q1
        have hlf := HLf.out hgr
        refine wpAnyZ_take (i := 0) (v := ?_) rfl (by kernel_rfl) (fun _ _ _ h => h) (Or.inl ⟨by rfl, ?_⟩) (⟨d3, q1, q2⟩) ?_
        rotate_left 1
        · (intro w hSw; (try dsimp only at hSw); go_simp; try with_reducible rfl)
        try simp only [Act.put, List.setIfInBounds_toArray, List.set_cons_zero, List.set_cons_succ]
        refine wpAnyZ_take (i := 1) (v := ?_) rfl (by kernel_rfl) (fun _ _ _ h => h) (Or.inl ⟨by rfl, ?_⟩) (⟨d3, q1, q2⟩) ?_
        rotate_left 1
        · (intro w hSw; (try dsimp only at hSw); go_simp; try with_reducible rfl)
        try simp only [Act.put, List.setIfInBounds_toArray, List.set_cons_zero, List.set_cons_succ]
        refine wpAnyZ_take (i := 2) (v := ?_) rfl (by kernel_rfl) (fun _ _ _ h => h) (Or.inl ⟨by rfl, ?_⟩) (⟨d3, q1, q2⟩) ?_
        rotate_left 1
        · (intro w hSw; (try dsimp only at hSw); go_simp; try with_reducible rfl)
        try simp only [Act.put, List.setIfInBounds_toArray, List.set_cons_zero, List.set_cons_succ]
        refine wpAnyZ_take (i := 3) (v := ?_) rfl (by kernel_rfl) (fun _ _ _ h => h) (Or.inl ⟨by rfl, ?_⟩) (⟨d3, q1, q2⟩) ?_
        rotate_left 1
        · (intro w hSw; (try dsimp only at hSw); go_simp; try with_reducible rfl)
        try simp only [Act.put, List.setIfInBounds_toArray, List.set_cons_zero, List.set_cons_succ]
        refine wpAnyZ_take (i := 4) (v := ?_) rfl (by kernel_rfl) (fun _ _ _ h => h) (Or.inl ⟨by rfl, ?_⟩) (⟨d3, q1, q2⟩) ?_
        rotate_left 1
        · (intro w hSw; (try dsimp only at hSw); go_simp; try with_reducible rfl)
        try simp only [Act.put, List.setIfInBounds_toArray, List.set_cons_zero, List.set_cons_succ]
        refine wpAnyZ_take (i := 5) (v := ?_) rfl (by kernel_rfl) (fun _ _ _ h => h) (Or.inl ⟨by rfl, ?_⟩) (⟨d3, q1, q2⟩) ?_
        rotate_left 1
        · (intro w hSw; (try dsimp only at hSw); go_simp; try with_reducible rfl)
        try simp only [Act.put, List.setIfInBounds_toArray, List.set_cons_zero, List.set_cons_succ]
        refine wpAnyZ_take (i := 6) (v := ?_) rfl (by kernel_rfl) (fun _ _ _ h => h) (Or.inl ⟨by rfl, ?_⟩) (⟨d3, q1, q2⟩) ?_
        rotate_left 1
        · (intro w hSw; (try dsimp only at hSw); go_simp; try with_reducible rfl)
        try simp only [Act.put, List.setIfInBounds_toArray, List.set_cons_zero, List.set_cons_succ]
        refine wpAnyZ_take (i := 7) (v := ?_) rfl (by kernel_rfl) (fun _ _ _ h => h) (Or.inl ⟨by rfl, ?_⟩) (⟨d3, q1, q2⟩) ?_
        rotate_left 1
        · (intro w hSw; (try dsimp only at hSw); go_simp; try with_reducible rfl)
        try simp only [Act.put, List.setIfInBounds_toArray, List.set_cons_zero, List.set_cons_succ]
        refine wpAnyZ_take (i := 8) (v := ?_) rfl (by kernel_rfl) (fun _ _ _ h => h) (Or.inl ⟨by rfl, ?_⟩) (⟨d3, q1, q2⟩) ?_
        rotate_left 1
        · (intro w hSw; (try dsimp only at hSw); go_simp; try with_reducible rfl)
        try simp only [Act.put, List.setIfInBounds_toArray, List.set_cons_zero, List.set_cons_succ]
        refine wpAnyZ_take (i := 9) (v := ?_) rfl (by kernel_rfl) (fun _ _ _ h => h) (Or.inl ⟨by rfl, ?_⟩) (⟨d3, q1, q2⟩) ?_
        rotate_left 1
        · (intro w hSw; (try dsimp only at hSw); go_simp; try with_reducible rfl)
        try simp only [Act.put, List.setIfInBounds_toArray, List.set_cons_zero, List.set_cons_succ]
        refine wpAnyZ_take (i := 10) (v := ?_) rfl (by kernel_rfl) (fun _ _ _ h => h) (Or.inl ⟨by rfl, ?_⟩) (⟨d3, q1, q2⟩) ?_
        rotate_left 1
        · (intro w hSw; (try dsimp only at hSw); go_simp; try with_reducible rfl)
        try simp only [Act.put, List.setIfInBounds_toArray, List.set_cons_zero, List.set_cons_succ]
        refine wpAnyZ_take (i := 11) (v := ?_) rfl (by kernel_rfl) (fun _ _ _ h => h) (Or.inl ⟨by rfl, ?_⟩) (⟨d3, q1, q2⟩) ?_
        rotate_left 1
        · (intro w hSw; (try dsimp only at hSw); go_simp; try with_reducible rfl)
        try simp only [Act.put, List.setIfInBounds_toArray, List.set_cons_zero, List.set_cons_succ]
        refine wpAnyZ_take (i := 12) (v := ?_) rfl (by kernel_rfl) (fun _ _ _ h => h) (Or.inl ⟨by rfl, ?_⟩) (⟨d3, q1, q2⟩) ?_
        rotate_left 1
        · (intro w hSw; (try dsimp only at hSw); go_simp; try with_reducible rfl)
        try simp only [Act.put, List.setIfInBounds_toArray, List.set_cons_zero, List.set_cons_succ]
        refine wpAnyZ_take (i := 13) (v := ?_) rfl (by kernel_rfl) (fun _ _ _ h => h) (Or.inl ⟨by rfl, ?_⟩) (⟨d3, q1, q2⟩) ?_
        rotate_left 1
        · (intro w hSw; (try dsimp only at hSw); go_simp; try with_reducible rfl)
        try simp only [Act.put, List.setIfInBounds_toArray, List.set_cons_zero, List.set_cons_succ]
        refine wpAnyZ_take (i := 15) (v := ?_) rfl (by kernel_rfl) (fun _ _ _ h => h) (Or.inl ⟨by rfl, ?_⟩) (⟨d3, q1, q2⟩) ?_
        rotate_left 1
        · (intro w hSw; (try dsimp only at hSw); go_simp; try with_reducible rfl)
        try simp only [Act.put, List.setIfInBounds_toArray, List.set_cons_zero, List.set_cons_succ]
        refine wpAnyZ_one (i := 14) (by kernel_rfl) (ReadyZ.mk rfl (fun K hK => ?_))
        go_simp
        go_at_call 80
        refine (isA_any A n cap xs g[k].cls a _ hS3 g0 (by omega) (by omega)).mono ?_
        rintro e V4 ⟨rfl, hle4⟩
        refine hK.out _ _ (fun _ => ⟨(hle4.cell zw).trans d3, (hle4.cell zb).trans q1, (hle4.cell zb).trans q2⟩) ?_
        clear hK K
        try simp only [Act.put, List.setIfInBounds_toArray, List.set_cons_zero, List.set_cons_succ]
        refine wpAnyZ_take (i := 16) (v := ?_) rfl (by kernel_rfl) (fun _ _ _ h => h) (Or.inl ⟨by rfl, ?_⟩) (⟨(hle4.cell zw).trans d3, (hle4.cell zb).trans q1, (hle4.cell zb).trans q2⟩) ?_
        rotate_left 1
        · (intro w hSw; (try dsimp only at hSw); go_simp; try with_reducible rfl)
        try simp only [Act.put, List.setIfInBounds_toArray, List.set_cons_zero, List.set_cons_succ]
        refine wpAnyZ_take (i := 17) (v := ?_) rfl (by kernel_rfl) (fun _ _ _ h => h) (Or.inl ⟨by rfl, ?_⟩) (⟨(hle4.cell zw).trans d3, (hle4.cell zb).trans q1, (hle4.cell zb).trans q2⟩) ?_
        rotate_left 1
        · (intro w hSw; (try dsimp only at hSw); go_simp; try with_reducible rfl)
        try simp only [Act.put, List.setIfInBounds_toArray, List.set_cons_zero, List.set_cons_succ]
        refine wpAnyZ_done (by kernel_rfl) ?_ _
        refine NoPanic.normal ?_
        rw [hgr] at HQ
        cases h1 : isAL xs g[k].cls a
        · rw [h1] at HQ
          cases wi
          · have HQ' := HQ
            have HY : Hid (keepsAt (tS xs a false) g i = true) := by
              show _ = _
              rw [HF.out, HA.out, HQ.out]; simp
            have HW := Lib.hid (hl.trans (HLD.out.trans hle4))
            go_wp2
            go_ret
            exact ⟨ret_bool HY.out.symm, HW.out⟩
          · have HQ' := HQ
            have HY : Hid (keepsAt (tS xs a true) g i = anyF (passAt (tS xs a true) g) (k + 1) (endN g i - (k + 1))) := by
              show _ = _
              rw [HF.out, HA.out, HQ.out]; simp
            have HW := Lib.hid (HLD.out.trans hle4)
            go_wp2
            go_roundw
            case rel => exact ⟨k + 1, by omega, by omega, by go_num, HY.out, HW.out⟩
            case measure => simp [intOf]; omega
        · rw [h1] at HQ
          cases wi
          · have HQ' := HQ
            have HY : Hid (keepsAt (tS xs a false) g i = anyF (passAt (tS xs a false) g) (k + 1) (endN g i - (k + 1))) := by
              show _ = _
              rw [HF.out, HA.out, HQ.out]; simp
            have HW := Lib.hid (HLD.out.trans hle4)
            go_wp2
            go_roundw
            case rel => exact ⟨k + 1, by omega, by omega, by go_num, HY.out, HW.out⟩
            case measure => simp [intOf]; omega
          · have HQ' := HQ
            have HY : Hid (keepsAt (tS xs a true) g i = true) := by
              show _ = _
              rw [HF.out, HA.out, HQ.out]; simp
            have HW := Lib.hid (hl.trans (HLD.out.trans hle4))
            go_wp2
            go_ret
            exact ⟨ret_bool HY.out.symm, HW.out⟩
      · rw [hgr] at q1
        refine wpAnyZ_take (i := 0) (v := ?_) rfl (by kernel_rfl) (fun _ _ _ h => h) (Or.inl ⟨by rfl, ?_⟩) (⟨d3, q1, q2⟩) ?_
        rotate_left 1
        · (intro w hSw; (try dsimp only at hSw); go_simp; try with_reducible rfl)
        try simp only [Act.put, List.setIfInBounds_toArray, List.set_cons_zero, List.set_cons_succ]
        refine wpAnyZ_take (i := 1) (v := ?_) rfl (by kernel_rfl) (fun _ _ _ h => h) (Or.inl ⟨by rfl, ?_⟩) (⟨d3, q1, q2⟩) ?_
        rotate_left 1
        · (intro w hSw; (try dsimp only at hSw); go_simp; try with_reducible rfl)
        try simp only [Act.put, List.setIfInBounds_toArray, List.set_cons_zero, List.set_cons_succ]
        refine wpAnyZ_take (i := 2) (v := ?_) rfl (by kernel_rfl) (fun _ _ _ h => h) (Or.inl ⟨by rfl, ?_⟩) (⟨d3, q1, q2⟩) ?_
        rotate_left 1
        · (intro w hSw; (try dsimp only at hSw); go_simp; try with_reducible rfl)
        try simp only [Act.put, List.setIfInBounds_toArray, List.set_cons_zero, List.set_cons_succ]
        refine wpAnyZ_take (i := 3) (v := ?_) rfl (by kernel_rfl) (fun _ _ _ h => h) (Or.inl ⟨by rfl, ?_⟩) (⟨d3, q1, q2⟩) ?_
        rotate_left 1
        · (intro w hSw; (try dsimp only at hSw); go_simp; try with_reducible rfl)
        try simp only [Act.put, List.setIfInBounds_toArray, List.set_cons_zero, List.set_cons_succ]
        refine wpAnyZ_take (i := 4) (v := ?_) rfl (by kernel_rfl) (fun _ _ _ h => h) (Or.inl ⟨by rfl, ?_⟩) (⟨d3, q1, q2⟩) ?_
        rotate_left 1
        · (intro w hSw; (try dsimp only at hSw); go_simp; try with_reducible rfl)
        try simp only [Act.put, List.setIfInBounds_toArray, List.set_cons_zero, List.set_cons_succ]
        refine wpAnyZ_take (i := 5) (v := ?_) rfl (by kernel_rfl) (fun _ _ _ h => h) (Or.inl ⟨by rfl, ?_⟩) (⟨d3, q1, q2⟩) ?_
        rotate_left 1
        · (intro w hSw; (try dsimp only at hSw); go_simp; try with_reducible rfl)
        try simp only [Act.put, List.setIfInBounds_toArray, List.set_cons_zero, List.set_cons_succ]
        refine wpAnyZ_take (i := 6) (v := ?_) rfl (by kernel_rfl) (fun _ _ _ h => h) (Or.inl ⟨by rfl, ?_⟩) (⟨d3, q1, q2⟩) ?_
        rotate_left 1
        · (intro w hSw; (try dsimp only at hSw); go_simp; try with_reducible rfl)
        try simp only [Act.put, List.setIfInBounds_toArray, List.set_cons_zero, List.set_cons_succ]
        refine wpAnyZ_take (i := 7) (v := undef) rfl (by kernel_rfl) (fun _ _ _ h => h) (Or.inr ⟨?_, rfl⟩) (⟨d3, q1, q2⟩) ?_
        · rfl
        try simp only [Act.put, List.setIfInBounds_toArray, List.set_cons_zero, List.set_cons_succ]
        refine wpAnyZ_take (i := 8) (v := undef) rfl (by kernel_rfl) (fun _ _ _ h => h) (Or.inr ⟨?_, rfl⟩) (⟨d3, q1, q2⟩) ?_
        · rfl
        try simp only [Act.put, List.setIfInBounds_toArray, List.set_cons_zero, List.set_cons_succ]
        refine wpAnyZ_take (i := 9) (v := undef) rfl (by kernel_rfl) (fun _ _ _ h => h) (Or.inr ⟨?_, rfl⟩) (⟨d3, q1, q2⟩) ?_
        · rfl
        try simp only [Act.put, List.setIfInBounds_toArray, List.set_cons_zero, List.set_cons_succ]
        refine wpAnyZ_take (i := 10) (v := undef) rfl (by kernel_rfl) (fun _ _ _ h => h) (Or.inr ⟨?_, rfl⟩) (⟨d3, q1, q2⟩) ?_
        · rfl
        try simp only [Act.put, List.setIfInBounds_toArray, List.set_cons_zero, List.set_cons_succ]
        refine wpAnyZ_take (i := 11) (v := undef) rfl (by kernel_rfl) (fun _ _ _ h => h) (Or.inr ⟨?_, rfl⟩) (⟨d3, q1, q2⟩) ?_
        · rfl
        try simp only [Act.put, List.setIfInBounds_toArray, List.set_cons_zero, List.set_cons_succ]
        refine wpAnyZ_take (i := 12) (v := undef) rfl (by kernel_rfl) (fun _ _ _ h => h) (Or.inr ⟨?_, rfl⟩) (⟨d3, q1, q2⟩) ?_
        · rfl
        try simp only [Act.put, List.setIfInBounds_toArray, List.set_cons_zero, List.set_cons_succ]
        refine wpAnyZ_take (i := 13) (v := undef) rfl (by kernel_rfl) (fun _ _ _ h => h) (Or.inr ⟨?_, rfl⟩) (⟨d3, q1, q2⟩) ?_
        · rfl
        try simp only [Act.put, List.setIfInBounds_toArray, List.set_cons_zero, List.set_cons_succ]
        refine wpAnyZ_take (i := 14) (v := undef) rfl (by kernel_rfl) (fun _ _ _ h => h) (Or.inr ⟨?_, rfl⟩) (⟨d3, q1, q2⟩) ?_
        · rfl
        try simp only [Act.put, List.setIfInBounds_toArray, List.set_cons_zero, List.set_cons_succ]
        refine wpAnyZ_take (i := 15) (v := undef) rfl (by kernel_rfl) (fun _ _ _ h => h) (Or.inr ⟨?_, rfl⟩) (⟨d3, q1, q2⟩) ?_
        · rfl
        try simp only [Act.put, List.setIfInBounds_toArray, List.set_cons_zero, List.set_cons_succ]
        refine wpAnyZ_take (i := 16) (v := undef) rfl (by kernel_rfl) (fun _ _ _ h => h) (Or.inr ⟨?_, rfl⟩) (⟨d3, q1, q2⟩) ?_
        · rfl
        try simp only [Act.put, List.setIfInBounds_toArray, List.set_cons_zero, List.set_cons_succ]
        refine wpAnyZ_take (i := 17) (v := ?_) rfl (by kernel_rfl) (fun _ _ _ h => h) (Or.inl ⟨by rfl, ?_⟩) (⟨d3, q1, q2⟩) ?_
        rotate_left 1
        · (intro w hSw; (try dsimp only at hSw); go_simp; try with_reducible rfl)
        try simp only [Act.put, List.setIfInBounds_toArray, List.set_cons_zero, List.set_cons_succ]
        refine wpAnyZ_done (by kernel_rfl) ?_ _
        refine NoPanic.normal ?_
        rw [hgr] at HQ
        have HY : Hid (keepsAt (tS xs a wi) g i = anyF (passAt (tS xs a wi) g) (k + 1) (endN g i - (k + 1))) := by
          show _ = _
          rw [HF.out, HA.out, HQ.out]; simp
        have HW := Lib.hid (HLD.out.trans (Le.refl _))
        go_wp2
        go_roundw
        case rel => exact ⟨k + 1, by omega, by omega, by go_num, HY.out, HW.out⟩
        case measure => simp [intOf]; omega
    · obtain rfl : k = endN g i := by omega
      have HE := Lib.hid (HF.out.trans (anyF_end (f := passAt (tS xs a wi) g) (n := endN g i) (k := endN g i) (by omega)))
      go_wp2
      go_ret
      exact ⟨ret_bool HE.out.symm, hLL⟩
end
end Go.Proofs.Ytpkkkpfanedieaa
