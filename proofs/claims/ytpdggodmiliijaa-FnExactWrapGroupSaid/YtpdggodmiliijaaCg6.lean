/- one text of M, AP, RZp -/
import Derived.Test.YtpdggodmiliijaaCg3
import Derived.Test.YtpdggodmiliijaaCg5
import Derived.Test.YtpdggodmiliijaaCg1
import Derived.LaidEqlPtr
import Derived.Maps.AppendAt
import Derived.Deep.AppendLies
import Derived.RegionTactic
import Derived.OwnWalk
import Derived.Deep.RegionHeld3
namespace Go.Proofs.Ytpdggodmiliijaa
open Go.RowKit
set_option linter.unusedVariables false
section
section
/-- a pointer to the head of a block -/
structure PB where
  g : Nat
instance instEncPB : Enc PB := ⟨1, fun p => [.pointer (some ⟨p.g, 0, none⟩)], fun _ => True, fun _ => rfl⟩
def ptrOf (gs : List PB) (a : Int) : Option Addr := if a < 0 then none else (gs[a.toNat]?).map fun p => ⟨p.g, 0, none⟩
structure Nds (w : World) (gs : List PB) (xs : List Cls) : Prop where
  len : gs.length = xs.length
  asc : ∀ i j (hi : i < gs.length) (hj : j < gs.length), i < j → gs[i].g < gs[j].g
  lt : ∀ i (hi : i < gs.length), gs[i].g < w.heap.size
  row : ∀ i (hi : i < gs.length) (hx : i < xs.length), w.heap[gs[i].g]? = some (.cells #[.int .i64 i, .pointer (ptrOf gs xs[i].parent)] 117 (0, 0))
theorem Nds.le {w w' : World} {gs : List PB} {xs : List Cls} (h : Nds w gs xs) (hl : Le w w') : Nds w' gs xs :=
  ⟨h.len, h.asc, fun i hi => Nat.lt_of_lt_of_le (h.lt i hi) hl.size, fun i hi hx => (Below.block hl _ (h.lt i hi)).trans (h.row i hi hx)⟩
theorem Nds.idx {w : World} {gs : List PB} {xs : List Cls} (h : Nds w gs xs) (i : Nat) (hi : i < gs.length) : w.cell? ⟨gs[i].g, 0, none⟩ = some (.int .i64 i) := by
  have hx : i < xs.length := by have := h.len; omega
  exact (cell_of_row w _ 0 _ _ _ (h.row i hi hx)).trans rfl
theorem Nds.up {w : World} {gs : List PB} {xs : List Cls} (h : Nds w gs xs) (i : Nat) (hi : i < gs.length) (hx : i < xs.length) : w.cell? ⟨gs[i].g, 1, none⟩ = some (.pointer (ptrOf gs xs[i].parent)) :=
  (cell_of_row w _ 1 _ _ _ (h.row i hi hx)).trans rfl
theorem ptrOf_at {gs : List PB} {i : Nat} (h : i < gs.length) : ptrOf gs (i : Int) = some ⟨gs[i].g, 0, none⟩ := by
  unfold ptrOf; rw [if_neg (by omega), Int.toNat_natCast, List.getElem?_eq_getElem h]; rfl
theorem ptrOf_neg {gs : List PB} {a : Int} (h : a < 0) : ptrOf gs a = none := by unfold ptrOf; rw [if_pos h]
theorem ptrOf_high {gs : List PB} {a : Int} (h : (gs.length : Int) ≤ a) : ptrOf gs a = none := by
  unfold ptrOf; rw [if_neg (by omega), List.getElem?_eq_none (by omega)]; rfl
theorem Sl.pb_at {w : World} {A : Option Addr} {n cap : Nat} {gs : List PB} (h : Sl w A n cap gs) {k : Nat} (hk : k < gs.length) :
    ∃ b off, A = some ⟨b, off, none⟩ ∧ b < w.heap.size ∧ w.cell? ⟨b, off + k, none⟩ = some (.pointer (some ⟨gs[k].g, 0, none⟩)) := by
  obtain ⟨b, off, e, hb, hc⟩ := h.cells_ hk
  have := hc 0 (by decide) _ rfl
  exact ⟨b, off, e, hb, by simpa [Enc.size] using this⟩

theorem nodeAt_any (A : Option Addr) (n cap : Nat) (gs : List PB) (i : Int) (w : World) (hR : Sl w A n cap gs) :
    Calls Try.prog 62 #[.slice A n cap, .int .i64 i] w fun e w' => e = .returned (.pointer (ptrOf gs i)) ∧ w = w' := by
  obtain rfl := hR.len
  have hm := hR.n_le
  by_cases h0 : i < 0
  · have HF := Lib.hid (ptrOf_neg (gs := gs) h0)
    go_enter Try.func62, Try.ntmps62
    go_wp2
    go_ret
    exact ⟨by rw [HF.out]; rfl, rfl⟩
  · by_cases h1 : (gs.length : Int) ≤ i
    · have HF := Lib.hid (ptrOf_high (gs := gs) h1)
      go_enter Try.func62, Try.ntmps62
      go_wp2
      go_ret
      exact ⟨by rw [HF.out]; rfl, rfl⟩
    · obtain ⟨k, rfl⟩ := Int.eq_ofNat_of_zero_le (by omega : 0 ≤ i)
      have hk : k < gs.length := by omega
      obtain ⟨b, off, rfl, hb, hcell⟩ := hR.pb_at hk
      have HF := Lib.hid (ptrOf_at hk)
      go_enter Try.func62, Try.ntmps62
      go_wp2
      go_ret
      exact ⟨by rw [HF.out]; rfl, rfl⟩

theorem pb_ne {w : World} {gs : List PB} {xs : List Cls} (h : Nds w gs xs) {i j : Nat} (hi : i < gs.length) (hj : j < gs.length) : (gs[i].g = gs[j].g) ↔ i = j := by
  constructor
  · intro e
    rcases Nat.lt_trichotomy i j with h1 | h1 | h1
    · have := h.asc i j hi hj h1; omega
    · exact h1
    · have := h.asc j i hj hi h1; omega
  · rintro rfl; rfl

theorem ptrOf_form {gs : List PB} {xs : List Cls} {a : Int} (hl : gs.length = xs.length) (ha : a < xs.length) : ptrOf gs a = none ∧ a < 0 ∨ ∃ i : Nat, ∃ h : i < gs.length, a = i ∧ ptrOf gs a = some ⟨gs[i].g, 0, none⟩ := by
  by_cases h : a < 0
  · exact .inl ⟨ptrOf_neg h, h⟩
  · obtain ⟨i, rfl⟩ := Int.eq_ofNat_of_zero_le (by omega : 0 ≤ a)
    exact .inr ⟨i, by omega, rfl, ptrOf_at (by omega)⟩
theorem blk_up {w : World} {gs : List PB} {xs : List Cls} (hN : Nds w gs xs) (g : Good xs) {i : Nat} (hi : i < gs.length) (hx : i < xs.length) : blk (.pointer (ptrOf gs xs[i].parent)) < blk (.pointer (some ⟨gs[i].g, 0, none⟩)) := by
  have hp := g.par_le hx
  rcases ptrOf_form (gs := gs) (xs := xs) (a := xs[i].parent) hN.len (by omega) with ⟨h, _⟩ | ⟨k, hk, e, h⟩
  · rw [h]; simp [blk]
  · rw [h]
    have := hN.asc k i hk hi (by omega)
    simp [blk]; omega

theorem nodeInfo : (Try.prog.info? 117).map (fun i => (i.zero, i.size, i.bytes)) = some (some (.agg #[.int .i64 0, .pointer none]), 2, 16) := by kernel_rfl
theorem eql_same (w : World) (g : Nat) : (binOp .eql 86 (.pointer (some ⟨g, 0, none⟩)) (.pointer (some ⟨g, 0, none⟩))).run Try.prog w = .ok (.bool true) w := by
  obtain ⟨i0, hi, hz0, hz1, hz2⟩ := info_parts nodeInfo
  exact run_eql_ptr_same w _ Try.underlying86 hi
theorem eql_other {w : World} {gs : List PB} {xs : List Cls} (h : Nds w gs xs) {i j : Nat} (hi : i < gs.length) (hj : j < gs.length) (hx : i < xs.length) (hy : j < xs.length) (hne : i ≠ j) :
    (binOp .eql 86 (.pointer (some ⟨gs[i].g, 0, none⟩)) (.pointer (some ⟨gs[j].g, 0, none⟩))).run Try.prog w = .ok (.bool false) w := by
  obtain ⟨i0, hi0, hz0, hz1, hz2⟩ := info_parts nodeInfo
  have hgne := mt (pb_ne h hi hj).1 hne
  exact run_eql_ptr_other w Try.underlying86 hi0 (by rw [hz1]; decide) (fun e => hgne (congrArg Addr.block e)) (h.row i hi hx) (h.row j hj hy)

set_option maxRecDepth 100000 in
theorem catches_any (gs : List PB) (xs : List Cls) (g : Good xs) (j : Nat) (hj : j < gs.length) (a : Int) (ha : a < xs.length) (ha0 : -1 ≤ a) (w : World) (hN : Nds w gs xs) :
    Calls Try.prog 122 #[.pointer (some ⟨gs[j].g, 0, none⟩), .pointer (ptrOf gs a)] w fun e w' => e = .returned (.bool (isAL xs a j)) ∧ w = w' := by
  have hlen := hN.len
  have HL := Lib.hid hlen; clear hlen
  go_enter Try.func122, Try.ntmps122
  go_wp2
  go_loop [1] (fun c => ∃ a' : Int, a' < xs.length ∧ c = .pointer (ptrOf gs a') ∧ isAL xs a j = isAL xs a' j ∧ -1 ≤ a') (fun c => blk c)
  case atStart => exact ⟨a, ha, rfl, rfl, ha0⟩
  case round =>
    obtain ⟨a', h1, rfl, hr, h2⟩ := hrel
    have HR := Lib.hid hr; clear hr
    rcases ptrOf_form (gs := gs) HL.out h1 with ⟨hp, h0⟩ | ⟨i, hi, rfl, hp⟩
    · have HF : Hid (isAL xs a j = false) := by show _ = _; rw [HR.out, isAL_neg h0]
      rw [hp]
      clear hp
      go_wp2
      go_ret
      exact ⟨ret_bool HF.out.symm, rfl⟩
    · rw [hp]
      clear hp
      by_cases hij : i = j
      · subst hij
        have HF : Hid (isAL xs a i = true) := by show _ = _; rw [HR.out, isAL_at g (by omega)]; simp
        have hq := eql_same w gs[i].g
        go_wp2
        go_ret
        exact ⟨ret_bool HF.out.symm, rfl⟩
      · have hq := eql_other hN hi hj (by have := HL.out; omega) (by have := HL.out; omega) hij
        have hc := hN.up i hi (by omega)
        have HF : Hid (isAL xs a j = isAL xs xs[i].parent j) := by
          show _ = _; rw [HR.out, isAL_at g (by omega)]
          have : ((i : Int) == (j : Int)) = false := by simp; omega
          rw [this]; rfl
        have HB := Lib.hid (blk_up hN g hi (by omega))
        have hpl := g.par_le (i := i) (by omega)
        clear HR
        go_wp2
        go_round
        case rel => exact ⟨xs[i].parent, by omega, rfl, HF.out, by omega⟩
        case measure => exact HB.out
end

section
def NodesOut (xs : List Cls) (w : World) (e : Ending) (w' : World) : Prop :=
  Le w w' ∧ ((okTree xs = false ∧ e = .returned (.slice none 0 0)) ∨ (okTree xs = true ∧ ∃ g gs, e = .returned (.slice (some ⟨g, 0, none⟩) xs.length xs.length) ∧ Sl w' (some ⟨g, 0, none⟩) xs.length xs.length gs ∧ Nds w' gs xs))
theorem pnInfo : (Try.prog.info? 86).map (fun i => (i.zero, i.size, i.bytes)) = some (some (.pointer none), 1, 8) := by kernel_rfl

theorem nds_step {wr W' : World} {gs : List PB} {xs : List Cls} {k R B : Nat} (hk : k < xs.length) (hgl : gs.length = k) (hN : Nds wr gs (xs.take k)) (hgs : ∀ j (h : j < gs.length), R < gs[j].g) (hpar : xs[k].parent ≤ (k : Int) - 1)
    (hpars : ∀ i (h : i < xs.length), xs[i].parent ≤ (i : Int) - 1) (hB : wr.heap.size ≤ B) (hB' : B < W'.heap.size)
    (hold : ∀ i, i < wr.heap.size → i ≠ R → W'.heap[i]? = wr.heap[i]?) (hnew : W'.heap[B]? = some (.cells #[.int .i64 k, .pointer (ptrOf gs xs[k].parent)] 117 (0, 0))) :
    Nds W' (gs ++ [⟨B⟩]) (xs.take (k + 1)) := by
  have hp : ∀ p : Int, p < k → ptrOf (gs ++ [⟨B⟩]) p = ptrOf gs p := by
    intro p hp
    unfold ptrOf
    split
    · rfl
    · rw [List.getElem?_append_left (by omega)]
  have hl : (gs ++ [(⟨B⟩ : PB)]).length = k + 1 := by simp [hgl]
  have hget : ∀ i (hi : i < (gs ++ [(⟨B⟩ : PB)]).length), (∃ h : i < gs.length, (gs ++ [(⟨B⟩ : PB)])[i] = gs[i]) ∨ (i = k ∧ (gs ++ [(⟨B⟩ : PB)])[i] = ⟨B⟩) := by
    intro i hi
    rcases Nat.lt_or_ge i gs.length with h | h
    · exact .inl ⟨h, List.getElem_append_left h⟩
    · exact .inr ⟨by omega, by rw [List.getElem_append_right h]; simp⟩
  refine ⟨by rw [hl, List.length_take]; omega, ?_, ?_, ?_⟩
  · intro i j hi hj hij
    rcases hget i hi with ⟨h1, e1⟩ | ⟨h1, e1⟩ <;> rcases hget j hj with ⟨h2, e2⟩ | ⟨h2, e2⟩ <;> rw [e1, e2]
    · exact hN.asc i j h1 h2 hij
    · have := hN.lt i h1; show _ < B; omega
    · omega
    · omega
  · intro i hi
    rcases hget i hi with ⟨h1, e1⟩ | ⟨h1, e1⟩ <;> rw [e1]
    · have := hN.lt i h1; omega
    · exact hB'
  · intro i hi hx
    have hx' : i < xs.length := by rw [List.length_take] at hx; omega
    have e : (xs.take (k + 1))[i] = xs[i] := List.getElem_take
    rw [e, hp _ (by have := hpars i hx'; omega)]
    rcases hget i hi with ⟨h1, e1⟩ | ⟨h1, e1⟩ <;> rw [e1]
    · have hx2 : i < (xs.take k).length := by rw [List.length_take]; omega
      have := hN.row i h1 hx2
      have e3 : (xs.take k)[i] = xs[i] := List.getElem_take
      rw [e3] at this
      rw [hold _ (hN.lt i h1) (by have := hgs i h1; omega)]; exact this
    · subst h1; exact hnew

set_option maxHeartbeats 4000000 in
set_option maxRecDepth 100000 in
theorem nodesOf_any (A : Option Addr) (n cap : Nat) (xs : List Cls) (w : World) (hR : Sl w A n cap xs) :
    Calls Try.prog 61 #[.agg #[.slice A n cap]] w (NodesOut xs w) := by
  have hl := Le.new w (.cells #[.slice A n cap] 32)
  have c0 : (w.alloc (.cells #[.slice A n cap] 32)).cell? ⟨w.heap.size, 0, none⟩ = some (.slice A n cap) := by rw [World.cell?_alloc_at _ _ _ _ rfl]; rfl
  have hz : w.heap.size < (w.alloc (.cells #[.slice A n cap] 32)).heap.size := by simp
  have hS := hR.le hl
  obtain ⟨i0, hi, hz0, hz1, hz2⟩ := info_parts pnInfo
  cases hok : okTree xs
  · go_enter Try.func61, Try.ntmps61
    go_wp2_with fail
    generalize w.alloc (.cells #[.slice A n cap] 32) = W at *
    refine (iValidTree_any A n cap xs _ hS).mono ?_
    rintro e w2 ⟨rfl, hle⟩
    rw [hok]
    have HK := Lib.hid hok; clear hok
    go_wp2
    go_ret
    exact ⟨hl.trans hle, .inl ⟨HK.out, rfl⟩⟩
  · have g := good_of hok
    have hlo := g.lo
    have hhi := g.hi
    obtain rfl := hR.len
    have hb2 : i0.bytes * xs.length ≤ 281474976710656 := by rw [hz2]; omega
    go_enter Try.func61, Try.ntmps61
    go_wp2_with fail
    generalize w.alloc (.cells #[.slice A xs.length cap] 32) = W at *
    refine (iValidTree_any A xs.length cap xs _ hS).mono ?_
    rintro e w2 ⟨rfl, hle⟩
    rw [hok]
    have HK := Lib.hid hok; clear hok
    have c2 := (hle.cell hz).trans c0
    have hl2 := hl.trans hle
    have hz2' := Nat.lt_of_lt_of_le hz hle.size
    clear c0 hz hle hl hS
    go_wp2_with (refine wpList_make_full _ rfl _ _ 84 rfl w2.heap.size 86 i0 _ 1 Try.underlying84 hi hz0 hz1 .i64 .i64 _ _ xs.length rfl rfl rfl rfl hb2 (by unfold maxLen; omega) (Nat.le_refl _) ?_; intro w3 hown3 hg3; have c3 := hg3.cell c2 (by simp))
    have hle3 : Le w2 w3 := (Le.refl w2).grown hg3 (by intro k hk; cases hk)
    have hz3 : w2.heap.size < w3.heap.size := own_lt hown3
    clear c3
    go_loopw [16] (fun i wr => ∃ k : Nat, ∃ gs : List PB, ∃ r : List Value, k ≤ xs.length ∧ i = .int .i64 k ∧ r.length = xs.length - k ∧ wr.ownsRow w2.heap.size 86 1 (.slice (some ⟨w2.heap.size, 0, none⟩) xs.length xs.length) xs.length (gs.flatMap Enc.cells ++ r) ∧
        Nds wr gs (xs.take k) ∧ (∀ j (h : j < gs.length), w2.heap.size < gs[j].g) ∧ Le w2 wr) (fun i _ => xs.length - (intOf i).toNat)
    case atStart => exact ⟨0, [], _, Nat.zero_le _, rfl, by simp [madeCells], hown3, ⟨by simp, by simp, by simp, by simp⟩, by simp, hle3⟩
    case round =>
      obtain ⟨k, gs, r, hk, rfl, hr, hown, hN, hgs, hle⟩ := hrel
      clear hown3 hg3 hle3
      have hwr := hl2.trans hle
      have hRr := hR.le hwr
      have hcT := (hle.cell hz2').trans c2
      have hzr : w2.heap.size < wr.heap.size := own_lt hown
      have hgl : gs.length = k := by have := hN.len; rw [List.length_take] at this; omega
      have HG := Lib.hid hgl
      by_cases hlt : k < xs.length
      · obtain ⟨b, off, rfl, hb, hcell, hcell2, hns, hp1, hp2⟩ := hRr.cls_at hlt
        match r, hr with
        | [], h => simp at h; omega
        | r0 :: r1, hr =>
        have hfl : (gs.flatMap (Enc.cells (α := PB))).length = k := by rw [flat_len, hgl]; show k * 1 = k; omega
        have hc0 : wr.cell? ⟨w2.heap.size, k, none⟩ = some r0 := by rw [hown.cellAt _ (by omega), List.getElem?_append_right (by omega), hfl]; simp
        have hf0 := hown.frozenAt k
        have hpar := g.par_le hlt
        have HFL := Lib.hid hfl
        clear hgl hfl
        have hpars : ∀ i (h : i < xs.length), xs[i].parent ≤ (i : Int) - 1 := fun i h => (g.par_le h).2
        have HP := Lib.hid hpars; clear hpars
        have hflat : Hid ((gs ++ [(⟨wr.heap.size + 1⟩ : PB)]).flatMap Enc.cells ++ r1 = (gs.flatMap Enc.cells ++ r0 :: r1).set k (.pointer (some ⟨wr.heap.size + 1, 0, none⟩))) := by
          show _ = _
          rw [List.set_append_right _ _ (by have := HFL.out; omega), HFL.out]
          simp [Enc.cells]
        have hgsN : Hid (∀ j (h : j < (gs ++ [(⟨wr.heap.size + 1⟩ : PB)]).length), w2.heap.size < (gs ++ [(⟨wr.heap.size + 1⟩ : PB)])[j].g) := by
          intro j hj
          rcases Nat.lt_or_ge j gs.length with h | h
          · rw [List.getElem_append_left h]; exact hgs j h
          · rw [List.getElem_append_right h]; simp; omega
        by_cases hneg : xs[k].parent < 0
        · go_wp2
          go_roundw
          case rel =>
            refine ⟨k + 1, gs ++ [⟨wr.heap.size + 1⟩], r1, by omega, by go_num, by simp at hr; omega, ?_, ?_, hgsN.out, ?_⟩
            · rw [hflat.out]; exact ((hown.stored k _).1.alloc _).alloc _
            · refine nds_step (R := w2.heap.size) hlt HG.out hN hgs hpar.2 HP.out (by omega) (by simp) ?_ ?_
              · intro i hi hne
                rw [Below.heap_alloc _ _ _ (by simp; omega), Below.heap_alloc _ _ _ (by simpa using hi), Below.heap_setCell _ _ _ _ hne]
              · rw [ptrOf_neg hneg]
                have := heap_alloc_new ((wr.setCell ⟨w2.heap.size, k, none⟩ (.pointer (some ⟨wr.heap.size + 1, 0, none⟩))).alloc (.cells #[.string xs[k].name, .int .i64 xs[k].parent] 109)) (.cells #[.int .i64 k, .pointer none] 117)
                simpa using this
            · exact ((hle.setCell (Nat.le_refl _) _).alloc _).alloc _
          case measure => simp [intOf]; omega
        · go_wp2_with fail
          obtain ⟨p, hpe⟩ := Int.eq_ofNat_of_zero_le (by omega : 0 ≤ xs[k].parent)
          have hpk : p < gs.length := by have := HG.out; omega
          have hptr : ptrOf gs xs[k].parent = some ⟨gs[p].g, 0, none⟩ := by rw [hpe]; exact ptrOf_at hpk
          have hrp : wr.cell? ⟨w2.heap.size, p, none⟩ = some (.pointer (some ⟨gs[p].g, 0, none⟩)) := by
            rw [hown.cellAt _ (by omega), List.getElem?_append_left (by have := HFL.out; have := HG.out; omega)]
            have := flat_at gs p hpk 0 (by decide)
            simpa [Enc.size, Enc.cells] using this
          generalize hWd : ((wr.setCell _ _).alloc _).alloc _ = W
          have f1 : W.cell? ⟨w2.heap.size, k, none⟩ = some (.pointer (some ⟨wr.heap.size + 1, 0, none⟩)) := by
            rw [← hWd, World.cell?_alloc_past _ _ _ (by simp; omega), World.cell?_alloc_past _ _ _ (by simpa using hzr)]; exact cell_set_same hc0
          have f2 : W.cell? ⟨wr.heap.size, 1, none⟩ = some (.int .i64 xs[k].parent) := by
            rw [← hWd, World.cell?_alloc_past _ _ _ (by simp), World.cell?_alloc_at _ _ _ _ (by simp)]; rfl
          have f3 : W.cell? ⟨w2.heap.size, p, none⟩ = some (.pointer (some ⟨gs[p].g, 0, none⟩)) := by
            rw [← hWd, World.cell?_alloc_past _ _ _ (by simp; omega), World.cell?_alloc_past _ _ _ (by simpa using hzr), cell_set_other (.inr (by have := HG.out; omega))]; exact hrp
          have f4 : W.cell? ⟨wr.heap.size + 1, 1, none⟩ = some (.pointer none) := by
            rw [← hWd, World.cell?_alloc_at _ _ _ _ (by simp)]; rfl
          have f5 : W.frozen? ⟨wr.heap.size + 1, 1, none⟩ = false := by
            rw [← hWd, World.frozen?_alloc_at _ _ _ _ (by simp)]
          have hWz : W.heap.size = wr.heap.size + 2 := by rw [← hWd]; simp
          have HWZ := Lib.hid hWz; clear hWz
          have hWold : ∀ i, i < wr.heap.size → i ≠ w2.heap.size → W.heap[i]? = wr.heap[i]? := by
            intro i hi hne
            rw [← hWd, Below.heap_alloc _ _ _ (by simp; omega), Below.heap_alloc _ _ _ (by simpa using hi), Below.heap_setCell _ _ _ _ hne]
          have HWO := Lib.hid hWold; clear hWold
          have hWn : W.heap[wr.heap.size + 1]? = some (.cells #[.int .i64 k, .pointer none] 117 (0, 0)) := by
            have := heap_alloc_new ((wr.setCell ⟨w2.heap.size, k, none⟩ (.pointer (some ⟨wr.heap.size + 1, 0, none⟩))).alloc (.cells #[.string xs[k].name, .int .i64 xs[k].parent] 109)) (.cells #[.int .i64 k, .pointer none] 117)
            rw [hWd] at this
            simpa using this
          have HWN := Lib.hid hWn; clear hWn
          have hWown : W.ownsRow w2.heap.size 86 1 (.slice (some ⟨w2.heap.size, 0, none⟩) xs.length xs.length) xs.length ((gs ++ [(⟨wr.heap.size + 1⟩ : PB)]).flatMap Enc.cells ++ r1) := by
            rw [hflat.out, ← hWd]; exact ((hown.stored k _).1.alloc _).alloc _
          have hWle : Le w2 W := by rw [← hWd]; exact ((hle.setCell (Nat.le_refl _) _).alloc _).alloc _
          have HPT := Lib.hid hptr; clear hptr
          have HPE := Lib.hid hpe
          have hidx : 0 ≤ xs[k].parent ∧ xs[k].parent < xs.length := by omega
          have htn : xs[k].parent.toNat = p := by omega
          clear hWd hc0 hf0 hrp hcell hcell2
          clear hpe
          have f3' : W.cell? ⟨w2.heap.size, xs[k].parent.toNat, none⟩ = some (.pointer (some ⟨gs[p].g, 0, none⟩)) := by rw [htn]; exact f3
          have HTN := Lib.hid htn; clear htn
          clear f3
          go_region
          all_goals go_wp2
          all_goals
            go_roundw
            case rel =>
              refine ⟨k + 1, gs ++ [⟨wr.heap.size + 1⟩], r1, by omega, by go_num, by simp at hr; omega, ?_, ?_, hgsN.out, ?_⟩
              · exact (own_set hWown (by omega) _).drew
              · refine nds_step (R := w2.heap.size) hlt HG.out hN hgs hpar.2 HP.out (by omega) (by have := HWZ.out; simp [World.setCell, World.drew]; omega) ?_ ?_
                · intro i hi hne
                  show (World.setCell _ _ _).heap[i]? = _
                  rw [Below.heap_setCell _ _ _ _ (by show i ≠ wr.heap.size + 1; omega)]
                  exact HWO.out i hi hne
                · rw [HPT.out]
                  exact heap_setCell_same W (wr.heap.size + 1) 1 _ _ _ HWN.out
              · exact (hWle.setCell (by omega) _).drew
            case measure => simp [intOf]; omega
      · have hk' : k = xs.length := by omega
        have hr0 : r = [] := List.eq_nil_of_length_eq_zero (by omega)
        have HF : Hid (NodesOut xs w (.returned (.slice (some ⟨w2.heap.size, 0, none⟩) xs.length xs.length)) wr) := by
          refine ⟨hwr, .inr ⟨HK.out, w2.heap.size, gs, rfl, ?_, ?_⟩⟩
          · rw [hr0, List.append_nil] at hown
            exact Sl.of_own hown rfl (by decide) (fun _ _ => trivial)
          · rw [hk', List.take_length] at hN; exact hN
        clear hk' hr0 hr HG
        go_wp2
        go_ret
        exact HF.out
end

section
theorem isA_any (A : Option Addr) (n cap : Nat) (xs : List Cls) (a b : Int) (w : World) (hR : Sl w A n cap xs) (g : Good xs) (ha : a < xs.length) (ha0 : -1 ≤ a) :
    Calls Try.prog 100 #[.agg #[.slice A n cap], .int .i64 a, .int .i64 b] w fun e w' => e = .returned (.bool (isAL xs a b)) ∧ Le w w' := by
  have hl := Le.new w (.cells #[.slice A n cap] 32)
  have hS := hR.le hl
  go_enter Try.func100, Try.ntmps100
  go_wp2_with fail
  refine (above_any A n cap xs a _ hS g ha ha0).mono ?_
  rintro e w2 ⟨v, rfl, hown, hle⟩
  have hok : ∀ x ∈ aboveL xs a, Enc.ok x := by
    intro x hx
    have := aboveL_mem g _ a rfl ha x hx
    have := g.hi
    exact ⟨by omega, by omega⟩
  obtain ⟨A2, c2, rfl⟩ : ∃ A2 c2, v = .slice A2 (aboveL xs a).length c2 := by
    rcases hown.2 with ⟨h, h0⟩ | ⟨g2, c2, _, h, _⟩
    · exact ⟨none, 0, by rw [h0]; exact h⟩
    · exact ⟨_, c2, h⟩
  have hSa : Sl w2 A2 (aboveL xs a).length c2 (aboveL xs a) := Sl.of_own hown rfl (by decide) hok
  clear hown hok
  go_wp2_with fail
  refine (hasInt_any _ _ _ (aboveL xs a) b _ hSa).mono ?_
  rintro e w3 ⟨rfl, rfl⟩
  go_wp2
  go_ret
  exact ⟨ret_bool rfl, hl.trans hle⟩

/-- what nodesOf hands back, as one slice -/
theorem nodes_one {xs : List Cls} {w w' : World} {e : Ending} (h : NodesOut xs w e w') : Le w w' ∧ ∃ A n gs, e = .returned (.slice A n n) ∧ Sl w' A n n gs ∧ ((okTree xs = false ∧ n = 0 ∧ gs = []) ∨ (okTree xs = true ∧ n = xs.length ∧ Nds w' gs xs)) := by
  obtain ⟨hl, ⟨h0, rfl⟩ | ⟨h1, g, gs, rfl, hS, hN⟩⟩ := h
  · exact ⟨hl, none, 0, [], rfl, Sl.nil _ _ _ (by omega), .inl ⟨h0, rfl, rfl⟩⟩
  · exact ⟨hl, _, _, gs, rfl, hS, .inr ⟨h1, rfl, hN⟩⟩

theorem ptr_cases {gs : List PB} {xs : List Cls} (hl : gs.length = xs.length) (a : Int) : (hasK xs a = false ∧ ptrOf gs a = none) ∨ (hasK xs a = true ∧ ∃ i : Nat, ∃ h : i < gs.length, a = i ∧ ptrOf gs a = some ⟨gs[i].g, 0, none⟩) := by
  by_cases h0 : a < 0
  · exact .inl ⟨by unfold hasK; simp; omega, ptrOf_neg h0⟩
  · by_cases h1 : (gs.length : Int) ≤ a
    · exact .inl ⟨by unfold hasK; simp; omega, ptrOf_high h1⟩
    · obtain ⟨i, rfl⟩ := Int.eq_ofNat_of_zero_le (by omega : 0 ≤ a)
      exact .inr ⟨hasK_iff.2 (by omega), i, by omega, rfl, ptrOf_at (by omega)⟩
theorem ptrOf_nil (a : Int) : ptrOf [] a = none := by unfold ptrOf; split <;> simp
end

section
end
end

section
class EncOne (α : Type) [Enc α] : Prop where
  pos : 0 < Enc.size α
  one : ∀ (x : α) u, u ∈ Enc.cells x → u.oneCell' = true
theorem EncOne.all {α : Type} [Enc α] [EncOne α] (xs : List α) : ∀ u ∈ xs.flatMap Enc.cells, u.oneCell' = true := by
  intro u hu
  rw [List.mem_flatMap] at hu
  obtain ⟨x, _, hx⟩ := hu
  exact EncOne.one x u hx
instance instOneInt : EncOne Int := ⟨by decide, fun x u hu => by simp [Enc.cells] at hu; subst hu; rfl⟩
instance instOneCls : EncOne Cls := ⟨by decide, fun x u hu => by simp [Enc.cells] at hu; rcases hu with rfl | rfl <;> rfl⟩

section
variable {α : Type} [Enc α] [EncOne α] {P : Program} {w : World}
theorem run_append_sl (base : Nat) (t ty e : TypeId) (i : TypeInfo) (z : Value) (bytes : Nat) (ht : P.underlying t = some (.slice e)) (hi : P.info? e = some i) (hz : i.zero = some z)
    (hsize : i.size = Enc.size α) (hby : i.bytes = bytes) (hzs : z.cells.size = Enc.size α) (v : Value) (n : Nat) (xs : List α) (hown : w.ownsRow base e (Enc.size α) v n (xs.flatMap Enc.cells))
    (A : Option Addr) (m c : Nat) (ys : List α) (hS : Sl w A m c ys) (h63 : n + m ≤ maxLen) (hbytes : (n + m) * bytes ≤ 140737488355328) (hbase : base ≤ w.heap.size) :
    ∃ v' w', (Builtin.append_ #[t, t] ty #[v, .slice A m c]).run P w = .ok v' w' ∧ w'.ownsRow base e (Enc.size α) v' (n + m) ((xs ++ ys).flatMap Enc.cells) ∧ w.grownBy w' v.ownBlock ∧
      (v'.ownBlock = v.ownBlock ∨ v'.ownBlock = some w.heap.size) := by
  have hm : (ys.flatMap (Enc.cells (α := α))).length = m * Enc.size α := by rw [flat_len, hS.len]
  rcases A with _ | ad
  · have h0 : m = 0 := by
      rcases Nat.eq_zero_or_pos m with h0 | h0
      · exact h0
      · obtain ⟨b, off, h, _⟩ := hS.at_ h0; cases h
    subst h0
    have hy : ys = [] := List.eq_nil_of_length_eq_zero hS.len
    subst hy
    refine ⟨v, w, ?_, by simpa using hown, World.grownBy.refl w _, .inl rfl⟩
    rcases hown.2 with ⟨rfl, _⟩ | ⟨g, cap, cur, rfl, _, _, hnc, _⟩
    · simp [Builtin.append_, run_underlying ht, sizeOf, typeInfo, hi, Builtin.lenOf, Builtin.firstCells]
    · simp [Builtin.append_, run_underlying ht, sizeOf, typeInfo, hi, Builtin.lenOf, Builtin.firstCells, hnc, storeCells]
  · have hcells : ∀ j u, (ys.flatMap Enc.cells)[j]? = some u → w.cell? (ad.add j) = some u := by
      intro j u hu
      rcases Nat.eq_zero_or_pos m with h0 | h0
      · have hy : ys = [] := List.eq_nil_of_length_eq_zero (by rw [hS.len, h0])
        subst hy; simp at hu
      · obtain ⟨b, off, h, _, hc⟩ := hS.at_ h0
        injection h with h
        subst h
        have e : (⟨b, off, none⟩ : Addr).add j = ⟨b, off + j, none⟩ := by
          unfold Addr.add; split
          · next h => subst h; rfl
          · rfl
        rw [e]; exact hc j u hu
    obtain ⟨v', w', hrun, h2, h3, _, h5⟩ := run_append_own_at (P := P) w base t ty e i z (Enc.size α) bytes ht hi hz hsize hby hzs EncOne.pos v n _ hown ad m c _ hm hcells (EncOne.all ys) h63 hbytes hbase
    exact ⟨v', w', hrun, by rw [List.flatMap_append]; exact h2, h3, h5⟩

theorem wp_append_sl {o : Oper} {a : Act} {K : Act → World → Prop} {Q : Exit → Act → World → Prop} (s x : Operand) (t : TypeId)
    (ho : o.op = .call { callee := .builtin .append, args := #[s, x], argTypes := #[t, t] })
    (base : Nat) (e : TypeId) (i : TypeInfo) (z : Value) (bytes : Nat) (ht : P.underlying t = some (.slice e)) (hi : P.info? e = some i) (hz : i.zero = some z)
    (hsize : i.size = Enc.size α) (hby : i.bytes = bytes) (hzs : z.cells.size = Enc.size α) (v : Value) (n : Nat) (xs : List α) (hs : a.eval s = v) (hown : w.ownsRow base e (Enc.size α) v n (xs.flatMap Enc.cells))
    (A : Option Addr) (m c : Nat) (ys : List α) (hx : a.eval x = .slice A m c) (hS : Sl w A m c ys) (h63 : n + m ≤ maxLen) (hbytes : (n + m) * bytes ≤ 140737488355328) (hbase : base ≤ w.heap.size)
    (h : ∀ v' w', w'.ownsRow base e (Enc.size α) v' (n + m) ((xs ++ ys).flatMap Enc.cells) → w.grownBy w' v.ownBlock → (v'.ownBlock = v.ownBlock ∨ v'.ownBlock = some w.heap.size) → K (a.put o.dst v') w') : o.wp P a w K Q := by
  obtain ⟨v', w', hrun, h2, h3, h4⟩ := run_append_sl (P := P) (w := w) base t o.type e i z bytes ht hi hz hsize hby hzs v n xs hown A m c ys hS h63 hbytes hbase
  unfold Oper.wp execOp
  simp only [ho, resolve, invoke, builtin, Sem.run_bind, Sem.run_pure, Result.andThen_ok, List.map_toArray, List.map_cons, List.map_nil, hs, hx, hrun]
  exact h v' w' h2 h3 h4
theorem wpList_append_sl {ops : Array Oper} {rest : List Oper} {o : Oper} {a : Act} {Q : Exit → Act → World → Prop} (hgd : o.guard = none) (s x : Operand) (t : TypeId)
    (ho : o.op = .call { callee := .builtin .append, args := #[s, x], argTypes := #[t, t] })
    (base : Nat) (e : TypeId) (i : TypeInfo) (z : Value) (bytes : Nat) (ht : P.underlying t = some (.slice e)) (hi : P.info? e = some i) (hz : i.zero = some z)
    (hsize : i.size = Enc.size α) (hby : i.bytes = bytes) (hzs : z.cells.size = Enc.size α) (v : Value) (n : Nat) (xs : List α) (hs : a.eval s = v) (hown : w.ownsRow base e (Enc.size α) v n (xs.flatMap Enc.cells))
    (A : Option Addr) (m c : Nat) (ys : List α) (hx : a.eval x = .slice A m c) (hS : Sl w A m c ys) (h63 : n + m ≤ maxLen) (hbytes : (n + m) * bytes ≤ 140737488355328) (hbase : base ≤ w.heap.size)
    (h : ∀ v' w', w'.ownsRow base e (Enc.size α) v' (n + m) ((xs ++ ys).flatMap Enc.cells) → w.grownBy w' v.ownBlock → (v'.ownBlock = v.ownBlock ∨ v'.ownBlock = some w.heap.size) → wpList P ops Q rest (a.put o.dst v') w') : wpList P ops Q (o :: rest) a w :=
  wpList_plain hgd fun _ hK => wp_append_sl s x t ho base e i z bytes ht hi hz hsize hby hzs v n xs hs hown A m c ys hx hS h63 hbytes hbase fun v' w' h2 h3 h4 => hK _ _ (h v' w' h2 h3 h4)
theorem step_append_sl {ops : Array Oper} {o : Oper} {a : Act} {K : Act → World → Prop} {Q : Exit → Act → World → Prop} {E : Prop} (hgd : o.guard = none) (s x : Operand) (t : TypeId)
    (ho : o.op = .call { callee := .builtin .append, args := #[s, x], argTypes := #[t, t] })
    (base : Nat) (e : TypeId) (i : TypeInfo) (z : Value) (bytes : Nat) (ht : P.underlying t = some (.slice e)) (hi : P.info? e = some i) (hz : i.zero = some z)
    (hsize : i.size = Enc.size α) (hby : i.bytes = bytes) (hzs : z.cells.size = Enc.size α) (v : Value) (n : Nat) (xs : List α) (hs : a.eval s = v) (hown : w.ownsRow base e (Enc.size α) v n (xs.flatMap Enc.cells))
    (A : Option Addr) (m c : Nat) (ys : List α) (hx : a.eval x = .slice A m c) (hS : Sl w A m c ys) (h63 : n + m ≤ maxLen) (hbytes : (n + m) * bytes ≤ 140737488355328) (hbase : base ≤ w.heap.size)
    (h : ∀ v' w', w'.ownsRow base e (Enc.size α) v' (n + m) ((xs ++ ys).flatMap Enc.cells) → w.grownBy w' v.ownBlock → (v'.ownBlock = v.ownBlock ∨ v'.ownBlock = some w.heap.size) → K (a.put o.dst v') w') :
    if Region.wanted o (yielded ops a.tmps) = true then Oper.wp P o a w K Q else E := by
  have hw : Region.wanted o (yielded ops a.tmps) = true := by simp [Region.wanted, hgd]
  rw [if_pos hw]
  exact wp_append_sl s x t ho base e i z bytes ht hi hz hsize hby hzs v n xs hs hown A m c ys hx hS h63 hbytes hbase h
end
/-- one new box as a list -/
theorem sl_one {α : Type} [Enc α] {w : World} {cs : Array Value} {T : TypeId} (x : α) (hc : cs.toList = Enc.cells x) (hok : Enc.ok x) {b : Nat} (hb : b = w.heap.size) : Sl (w.alloc (.cells cs T)) (some ⟨b, 0, none⟩) 1 1 [x] := by
  subst hb
  refine ⟨rfl, Nat.le_refl _, by omega, fun y hy => by simp at hy; subst hy; exact hok, fun _ => ⟨_, 0, rfl, by simp, fun j u hu => ?_⟩⟩
  rw [List.flatMap_cons, List.flatMap_nil, List.append_nil, ← hc] at hu
  rw [Nat.zero_add, World.cell?_alloc_at _ _ _ _ rfl]
  simpa using hu
end

section
section
section
variable {P : Program} {ops : Array Oper} {Q : Exit → Act → World → Prop} {md : Region.Mode} {S : World → Prop} {Z : List Nat}

/-- Whatever order is picked from here on; S holds behind every operation that is carried out, but for those of Z. -/
def wpAnyZ (P : Program) (md : Region.Mode) (ops : Array Oper) (Q : Exit → Act → World → Prop) (S : World → Prop) (Z : List Nat) : Nat → Array Bool → Act → World → Prop
  | 0, listed, a, w => Region.ready md ops listed = [] ∧ Q .normal a w
  | fuel + 1, listed, a, w =>
    (Region.ready md ops listed = [] → Q .normal a w) ∧
    ∀ i ∈ Region.ready md ops listed, wpOp P ops Q i (fun a' w' => (Z.contains i = false → S w') ∧ wpAnyZ P md ops Q S Z fuel (listed.setIfInBounds i true) a' w') a w

theorem wpAny_of_Z : ∀ (fuel : Nat) (listed : Array Bool) (a : Act) (w : World), wpAnyZ P md ops Q S Z fuel listed a w → wpAny P md ops Q fuel listed a w
  | 0, _, _, _, h => h
  | fuel + 1, _, _, _, h => ⟨h.1, fun i hi => wpOp_mono (fun a' w' h' => wpAny_of_Z fuel _ a' w' h'.2) (h.2 i hi)⟩

/-- the operations of C cannot come up ahead of number i -/
def Waits (md : Region.Mode) (ops : Array Oper) (listed : Array Bool) (i : Nat) (C : List Nat) : Prop :=
  ∀ k ∈ C, listed.getD k true = false ∧ ∃ o, ops[k]? = some o ∧ ∃ e ∈ o.after, Region.binds md e = true ∧ (e.on = i ∨ e.on ∈ C)
theorem Waits.not {listed : Array Bool} {i : Nat} {C : List Nat} (h : Waits md ops listed i C) (hi : listed.getD i true = false) {j : Nat} (hj : j ∈ Region.ready md ops listed) : j ∉ C := by
  intro hc
  obtain ⟨_, o, ho, e, he, hb, hon⟩ := h j hc
  obtain ⟨_, o', ho', hall⟩ := mem_ready.1 hj
  rw [ho] at ho'; injection ho' with ho'; subst ho'
  have h1 := hall e he hb
  have hx : listed.getD e.on true = false := by
    rcases hon with h2 | h2
    · rw [h2]; exact hi
    · exact (h _ h2).1
  rcases Nat.lt_or_ge e.on listed.size with h3 | h3
  · simp [h3] at h1 hx; rw [h1] at hx; cases hx
  · simp [Array.getElem?_eq_none h3] at h1
def waitsB (md : Region.Mode) (ops : Array Oper) (listed : Array Bool) (i : Nat) (C : List Nat) : Bool :=
  C.all fun k => !(listed.getD k true) && match ops[k]? with | some o => o.after.any fun e => Region.binds md e && (e.on == i || C.contains e.on) | none => false
theorem waits_of {listed : Array Bool} {i : Nat} {C : List Nat} (h : waitsB md ops listed i C = true) : Waits md ops listed i C := by
  intro k hk
  have h1 := List.all_eq_true.1 h k hk
  rw [Bool.and_eq_true] at h1
  refine ⟨by simpa using h1.1, ?_⟩
  have h2 := h1.2
  cases ho : ops[k]? with
  | none => rw [ho] at h2; cases h2
  | some o =>
    rw [ho] at h2
    replace h2 : (o.after.any fun e => Region.binds md e && (e.on == i || C.contains e.on)) = true := h2
    obtain ⟨e, he, h3⟩ := Array.any_eq_true'.1 h2
    rw [Bool.and_eq_true, Bool.or_eq_true] at h3
    exact ⟨o, rfl, e, he, h3.1, by simpa using h3.2⟩

theorem wpAnyZ_first {i : Nat} {oi : Oper} {v : Value} {C : List Nat} (hi : ops[i]? = some oi) (hsel : ∀ (j : Nat) (o : Oper) cs b, ops[j]? = some o → o.op ≠ .select cs b)
    (hQ : ∀ c a w, Q (.panic c) (a.put oi.dst v) w → Q (.panic c) a w) (hZ : ∀ z, Z.contains z = true → z ∈ C) :
    ∀ (fuel : Nat) (listed : Array Bool) (a : Act) (w : World),
      (∀ j oj, ops[j]? = some oj → j ≠ i → listed.getD j true = false → (∀ e ∈ oj.after, Region.binds md e = true → e.on ≠ i) → oi.apart ops oj = true) →
      Waits md ops listed i C → i ∈ Region.ready md ops listed → YieldsIf P ops S oi v a → S w →
      wpAnyZ P md ops Q S Z fuel (listed.setIfInBounds i true) (a.put oi.dst v) w → wpAnyZ P md ops Q S Z (fuel + 1) listed a w := by
  intro fuel
  induction fuel with
  | zero =>
    intro listed a w _ _ hr hy hS H
    refine ⟨fun h => (by rw [h] at hr; cases hr), fun j hj => ?_⟩
    by_cases hji : j = i
    · subst hji; exact hy.wpOp hi hS ⟨fun _ => hS, H⟩
    · have := ready_mono hj hji
      rw [H.1] at this
      cases this
  | succ fuel ih =>
    intro listed a w hfree hw hr hy hS H
    refine ⟨fun h => (by rw [h] at hr; cases hr), fun j hj => ?_⟩
    by_cases hji : j = i
    · subst hji; exact hy.wpOp hi hS ⟨fun _ => hS, H⟩
    · have h1 := H.2 j (ready_mono hj hji)
      have hjc := hw.not (mem_ready.1 hr).1 hj
      have hjz : Z.contains j = false := by
        cases e : Z.contains j
        · rfl
        · exact absurd (hZ j e) hjc
      obtain ⟨hjun, oj, hoj, hall⟩ := mem_ready.1 hj
      have hnot : ∀ e ∈ oj.after, Region.binds md e = true → e.on ≠ i := fun e he hb heq => by
        have h1 := hall e he hb
        have h0 := (mem_ready.1 hr).1
        rw [heq] at h1
        rcases Nat.lt_or_ge i listed.size with h' | h'
        · simp [h'] at h0 h1; rw [h0] at h1; cases h1
        · simp [Array.getElem?_eq_none h'] at h1
      have h2 := wpOp_putIf hoj (hfree j oj hoj hji hjun hnot) (fun cs b => hsel i oi cs b hi) (fun cs b => hsel j oj cs b hoj) hQ hy h1
      have hfree' : ∀ k ok, ops[k]? = some ok → k ≠ i → (listed.setIfInBounds j true).getD k true = false →
          (∀ e ∈ ok.after, Region.binds md e = true → e.on ≠ i) → oi.apart ops ok = true := fun k ok hk hki hun hno => by
        refine hfree k ok hk hki ?_ hno
        by_cases hjk : j = k
        · subst hjk; exact hjun
        · rw [getD_set_ne true hjk] at hun; exact hun
      have hw' : Waits md ops (listed.setIfInBounds j true) i C := fun k hk => ⟨by rw [getD_set_ne true (fun e => hjc (by rw [e]; exact hk))]; exact (hw k hk).1, (hw k hk).2⟩
      refine wpOp_mono (fun a' w' h3 => ⟨h3.2.1, ih (listed.setIfInBounds j true) a' w' hfree' hw' (ready_mono hr (Ne.symm hji)) h3.1 (h3.2.1 hjz) ?_⟩) h2
      rw [Array.setIfInBounds_comm _ _ hji]
      exact h3.2.2

theorem wpAnyZ_done {listed : Array Bool} {a : Act} {w : World} (hr : Region.ready md ops listed = []) (h : Q .normal a w) :
    ∀ fuel, wpAnyZ P md ops Q S Z fuel listed a w
  | 0 => ⟨hr, h⟩
  | _ + 1 => ⟨fun _ => h, by rw [hr]; simp⟩
theorem wp_region_Z {id : Nat} {a : Act} {w : World} (S : World → Prop) (Z : List Nat) (hm : P.follows .mixedOrders = true)
    (h : wpAnyZ P .any ops Q S Z ops.size (Array.replicate ops.size false) a w.drew) : (Code.region id ops true).wp P Q a w :=
  wp_region_any hm (wpAny_of_Z _ _ _ _ h)
end
section
variable {P : Program} {l : List Oper} {Q : Exit → Act → World → Prop} {md : Region.Mode} {S : World → Prop} {Z : List Nat}
/-- the operations that wait for number i (edges lead back) -/
def clos (md : Region.Mode) (ops : Array Oper) (i : Nat) : List Nat :=
  (List.range ops.size).foldl (fun C k => if (k != i && match ops[k]? with | some o => o.after.any fun e => Region.binds md e && (e.on == i || C.contains e.on) | none => false) then C ++ [k] else C) []
theorem wpAnyZ_takeC {i : Nat} (C : List Nat) {oi : Oper} {v : Value} {fuel : Nat} {listed : Array Bool} {a : Act} {w : World} (hi : l[i]? = some oi)
    (hs : Region.noSelect l.toArray = true) (hf : Region.free md l.toArray listed i = true) (hr : (Region.ready md l.toArray listed).contains i = true)
    (hz : (Z.all fun z => C.contains z) = true) (hw : waitsB md l.toArray listed i C = true)
    (hQ : ∀ c a w, Q (.panic c) (a.put oi.dst v) w → Q (.panic c) a w) (hy : YieldsIf P l.toArray S oi v a) (hS : S w)
    (h : wpAnyZ P md l.toArray Q S Z fuel (listed.setIfInBounds i true) (a.put oi.dst v) w) : wpAnyZ P md l.toArray Q S Z (fuel + 1) listed a w := by
  have hi' : l.toArray[i]? = some oi := by rw [List.getElem?_toArray]; exact hi
  exact wpAnyZ_first (C := C) hi' (Region.noSelect_spec hs) hQ (fun z hz' => by have := List.all_eq_true.1 hz z (by simpa using hz'); simpa using this) fuel listed a w (Region.free_spec hi' hf) (waits_of hw) (by simpa using hr) hy hS h
theorem wpAnyZ_take {i : Nat} {oi : Oper} {v : Value} {fuel : Nat} {listed : Array Bool} {a : Act} {w : World} (hi : l[i]? = some oi)
    (hs : (Region.noSelect l.toArray && Region.free md l.toArray listed i && (Region.ready md l.toArray listed).contains i && (Z.all fun z => (clos md l.toArray i).contains z) && waitsB md l.toArray listed i (clos md l.toArray i)) = true)
    (hQ : ∀ c a w, Q (.panic c) (a.put oi.dst v) w → Q (.panic c) a w) (hy : YieldsIf P l.toArray S oi v a) (hS : S w)
    (h : wpAnyZ P md l.toArray Q S Z fuel (listed.setIfInBounds i true) (a.put oi.dst v) w) : wpAnyZ P md l.toArray Q S Z (fuel + 1) listed a w := by
  simp only [Bool.and_eq_true] at hs
  exact wpAnyZ_takeC _ hi hs.1.1.1.1 hs.1.1.1.2 hs.1.1.2 hs.1.2 hs.2 hQ hy hS h
/-- number i comes up first -/
def ReadyZ (P : Program) (md : Region.Mode) (l : List Oper) (Q : Exit → Act → World → Prop) (S : World → Prop) (Z : List Nat) (fuel : Nat) (listed : Array Bool) (a : Act) (w : World) (i : Nat) : Prop :=
  wpOp P l.toArray Q i (fun a' w' => (Z.contains i = false → S w') ∧ wpAnyZ P md l.toArray Q S Z fuel (listed.setIfInBounds i true) a' w') a w
theorem wpAnyZ_one {i fuel : Nat} {listed : Array Bool} {a : Act} {w : World} (hr : Region.ready md l.toArray listed = [i]) (h : ReadyZ P md l Q S Z fuel listed a w i) : wpAnyZ P md l.toArray Q S Z (fuel + 1) listed a w :=
  ⟨fun h0 => absurd (hr ▸ h0) (by simp), hr ▸ fun j hj => by simp at hj; subst hj; exact h⟩
theorem wpAnyZ_two {i k fuel : Nat} {listed : Array Bool} {a : Act} {w : World} (hr : Region.ready md l.toArray listed = [i, k]) (h : ReadyZ P md l Q S Z fuel listed a w i) (h2 : ReadyZ P md l Q S Z fuel listed a w k) : wpAnyZ P md l.toArray Q S Z (fuel + 1) listed a w :=
  ⟨fun h0 => absurd (hr ▸ h0) (by simp), hr ▸ fun j hj => by simp at hj; rcases hj with rfl | rfl; exact h; exact h2⟩
theorem wpAnyZ_three {i k m fuel : Nat} {listed : Array Bool} {a : Act} {w : World} (hr : Region.ready md l.toArray listed = [i, k, m]) (h : ReadyZ P md l Q S Z fuel listed a w i) (h2 : ReadyZ P md l Q S Z fuel listed a w k) (h3 : ReadyZ P md l Q S Z fuel listed a w m) : wpAnyZ P md l.toArray Q S Z (fuel + 1) listed a w :=
  ⟨fun h0 => absurd (hr ▸ h0) (by simp), hr ▸ fun j hj => by simp at hj; rcases hj with rfl | rfl | rfl; exact h; exact h2; exact h3⟩
theorem ReadyZ.mk {fuel : Nat} {listed : Array Bool} {a : Act} {w : World} {i : Nat} {o : Oper} (ho : l[i]? = some o)
    (h : ∀ K' : Act → World → Prop, Shut (∀ a w, (Z.contains i = false → S w) → wpAnyZ P md l.toArray Q S Z fuel (listed.setIfInBounds i true) a w → K' a w) → if Region.wanted o (yielded l.toArray a.tmps) = true then Oper.wp P o a w K' Q else K' (a.put o.dst undef) w) :
    ReadyZ P md l Q S Z fuel listed a w i :=
  wpOp_step (by rw [List.getElem?_toArray]; exact ho) (fun K' hK => h K' (fun a w hS hW => hK a w ⟨hS, hW⟩))
end
end
end
end Go.Proofs.Ytpdggodmiliijaa
