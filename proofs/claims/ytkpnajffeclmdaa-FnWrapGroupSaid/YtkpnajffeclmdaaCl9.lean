/- one text of GpC, M -/
import Derived.Test.YtkpnajffeclmdaaCl6
import Derived.Test.YtkpnajffeclmdaaCl2
import Derived.Test.YtkpnajffeclmdaaCl5
import Derived.Test.YtkpnajffeclmdaaCl8
import Derived.LaidEqlPtr
namespace Go.Proofs.Ytkpnajffeclmdaa
open Go.RowKit
set_option linter.unusedVariables false
section
def anyF (f : Nat → Bool) : Nat → Nat → Bool
  | _, 0 => false
  | k, m + 1 => f k || anyF f (k + 1) m
theorem anyF_iff {f : Nat → Bool} : ∀ m k, anyF f k m = true ↔ ∃ i, k ≤ i ∧ i < k + m ∧ f i = true
  | 0, k => by
    simp only [anyF]
    constructor
    · intro h; cases h
    · rintro ⟨i, h1, h2, _⟩; omega
  | m + 1, k => by
    unfold anyF
    rw [Bool.or_eq_true, anyF_iff m (k + 1)]
    constructor
    · rintro (h | ⟨i, h1, h2, h3⟩)
      · exact ⟨k, Nat.le_refl _, by omega, h⟩
      · exact ⟨i, by omega, by omega, h3⟩
    · rintro ⟨i, h1, h2, h3⟩
      by_cases e : i = k
      · subst e; exact .inl h3
      · exact .inr ⟨i, by omega, by omega, h3⟩
theorem endFrom_le (g : List Prt) (i : Nat) : ∀ m k, k + m ≤ g.length → endFrom g i m k ≤ g.length
  | 0, k, h => by unfold endFrom; omega
  | m + 1, k, h => by
    unfold endFrom
    split
    · exact endFrom_le g i m (k + 1) (by omega)
    · omega
theorem endN_le {g : List Prt} {i : Nat} (h : i < g.length) : endN g i ≤ g.length := endFrom_le g i _ _ (by omega)
theorem endN_gt (g : List Prt) (i : Nat) : i < endN g i := endFrom_ge g i _ (i + 1)
/-- the part k is a leaf that passes -/
def passAt (t : Prt → Bool) (g : List Prt) (k : Nat) : Bool := !(gAt g k).group && t (gAt g k)
/-- a leaf passes that is the part i, or lies below it -/
def keepsAt (t : Prt → Bool) (g : List Prt) (i : Nat) : Bool := anyF (passAt t g) i (endN g i - i)
theorem keeps_iff {t : Prt → Bool} {g : List Prt} {i : Nat} : keepsAt t g i = true ↔ ∃ k, i ≤ k ∧ k < endN g i ∧ passAt t g k = true := by
  unfold keepsAt
  rw [anyF_iff]
  have := endN_gt g i
  constructor
  · rintro ⟨k, h1, h2, h3⟩; exact ⟨k, h1, by omega, h3⟩
  · rintro ⟨k, h1, h2, h3⟩; exact ⟨k, h1, by omega, h3⟩
/-- something is kept just where a leaf passes -/
theorem kept_any (t : Prt → Bool) (g : List Prt) : anyF (keepsAt t g) 0 g.length = anyF (passAt t g) 0 g.length := by
  rw [Bool.eq_iff_iff, anyF_iff, anyF_iff]
  constructor
  · rintro ⟨i, _, h2, h3⟩
    obtain ⟨k, a, b, c⟩ := keeps_iff.1 h3
    have := endN_le (g := g) (i := i) (by omega)
    exact ⟨k, by omega, by omega, c⟩
  · rintro ⟨k, h1, h2, h3⟩
    exact ⟨k, h1, h2, keeps_iff.2 ⟨k, Nat.le_refl _, endN_gt g k, h3⟩⟩
/-- what is below a part that is below another one ends with that one, or ahead -/
theorem endFrom_stop {g : List Prt} {i : Nat} : ∀ m k, k + m = g.length → endFrom g i m k < g.length → (gAt g (endFrom g i m k)).depth ≤ (gAt g i).depth
  | 0, k, e, h => by unfold endFrom at h; omega
  | m + 1, k, e, h => by
    unfold endFrom at h ⊢
    by_cases c : k < g.length ∧ (gAt g i).depth < (gAt g k).depth
    · rw [if_pos c] at h ⊢; exact endFrom_stop m (k + 1) (by omega) h
    · rw [if_neg c] at h ⊢
      have : ¬ (gAt g i).depth < (gAt g k).depth := fun x => c ⟨h, x⟩
      omega
theorem endFrom_in {g : List Prt} {i : Nat} : ∀ m k j, k ≤ j → j < endFrom g i m k → (gAt g i).depth < (gAt g j).depth
  | 0, k, j, h1, h2 => by unfold endFrom at h2; omega
  | m + 1, k, j, h1, h2 => by
    unfold endFrom at h2
    by_cases c : k < g.length ∧ (gAt g i).depth < (gAt g k).depth
    · rw [if_pos c] at h2
      by_cases e : j = k
      · subst e; exact c.2
      · exact endFrom_in m (k + 1) j (by omega) h2
    · rw [if_neg c] at h2; omega
theorem endN_stop {g : List Prt} {i : Nat} (hi : i < g.length) (h : endN g i < g.length) : (gAt g (endN g i)).depth ≤ (gAt g i).depth := endFrom_stop _ _ (by omega) h
theorem endN_in {g : List Prt} {i j : Nat} (h1 : i < j) (h2 : j < endN g i) : (gAt g i).depth < (gAt g j).depth := endFrom_in _ _ j (by omega) h2
theorem endN_nest {g : List Prt} {i j : Nat} (hi : i < g.length) (h1 : i < j) (h2 : j < endN g i) : endN g j ≤ endN g i := by
  have hl := endN_le hi
  rcases Nat.lt_or_ge (endN g i) (endN g j) with h | h
  · exfalso
    have hj : j < g.length := by omega
    have hlt : endN g i < g.length := by have := endN_le hj; omega
    have a := endN_stop hi hlt
    have b := endN_in (g := g) (i := j) (j := endN g i) (by omega) h
    have c := endN_in h1 h2
    omega
  · exact h
end

section
section
/-- a pointer to the head of a block -/
structure PB where
  g : Nat
instance instEncPB : Enc PB := ⟨1, fun p => [.pointer (some ⟨p.g, 0, none⟩)], fun _ => True, fun _ => rfl⟩
def ptrOf (gs : List PB) (a : Int) : Option Addr := if a < 0 then none else (gs[a.toNat]?).map fun p => ⟨p.g, 0, none⟩
structure Nds (w : World) (gs : List PB) (xs : List Cls) : Prop where
  len : gs.length = xs.length
  asc : ∀ i j (hi : i < gs.length) (hj : j < gs.length), i < j → gs[i].g < gs[j].g
  lt : ∀ i (hi : i < gs.length), gs[i].g < w.heap.size
  row : ∀ i (hi : i < gs.length) (hx : i < xs.length), w.heap[gs[i].g]? = some (.cells #[.int .i64 i, .pointer (ptrOf gs xs[i].parent)] 96 (0, 0))
theorem Nds.le {w w' : World} {gs : List PB} {xs : List Cls} (h : Nds w gs xs) (hl : Le w w') : Nds w' gs xs :=
  ⟨h.len, h.asc, fun i hi => Nat.lt_of_lt_of_le (h.lt i hi) hl.size, fun i hi hx => (Below.block hl _ (h.lt i hi)).trans (h.row i hi hx)⟩
theorem Nds.idx {w : World} {gs : List PB} {xs : List Cls} (h : Nds w gs xs) (i : Nat) (hi : i < gs.length) : w.cell? ⟨gs[i].g, 0, none⟩ = some (.int .i64 i) := by
  have hx : i < xs.length := by have := h.len; omega
  exact (cell_of_row w _ 0 _ _ _ (h.row i hi hx)).trans rfl
theorem Nds.up {w : World} {gs : List PB} {xs : List Cls} (h : Nds w gs xs) (i : Nat) (hi : i < gs.length) (hx : i < xs.length) : w.cell? ⟨gs[i].g, 1, none⟩ = some (.pointer (ptrOf gs xs[i].parent)) :=
  (cell_of_row w _ 1 _ _ _ (h.row i hi hx)).trans rfl
theorem ptrOf_at {gs : List PB} {i : Nat} (h : i < gs.length) : ptrOf gs (i : Int) = some ⟨gs[i].g, 0, none⟩ := by
  unfold ptrOf; rw [if_neg (by omega), Int.toNat_natCast, List.getElem?_eq_getElem h]; rfl
theorem ptrOf_neg {gs : List PB} {a : Int} (h : a < 0) : ptrOf gs a = none := by unfold ptrOf; rw [if_pos h]
theorem ptrOf_high {gs : List PB} {a : Int} (h : (gs.length : Int) ≤ a) : ptrOf gs a = none := by
  unfold ptrOf; rw [if_neg (by omega), List.getElem?_eq_none (by omega)]; rfl
theorem Sl.pb_at {w : World} {A : Option Addr} {n cap : Nat} {gs : List PB} (h : Sl w A n cap gs) {k : Nat} (hk : k < gs.length) :
    ∃ b off, A = some ⟨b, off, none⟩ ∧ b < w.heap.size ∧ w.cell? ⟨b, off + k, none⟩ = some (.pointer (some ⟨gs[k].g, 0, none⟩)) := by
  obtain ⟨b, off, e, hb, hc⟩ := h.cells_ hk
  have := hc 0 (by decide) _ rfl
  exact ⟨b, off, e, hb, by simpa [Enc.size] using this⟩

theorem nodeAt_any (A : Option Addr) (n cap : Nat) (gs : List PB) (i : Int) (w : World) (hR : Sl w A n cap gs) :
    Calls Try.prog 34 #[.slice A n cap, .int .i64 i] w fun e w' => e = .returned (.pointer (ptrOf gs i)) ∧ w = w' := by
  obtain rfl := hR.len
  have hm := hR.n_le
  by_cases h0 : i < 0
  · have HF := Lib.hid (ptrOf_neg (gs := gs) h0)
    go_enter Try.func34, Try.ntmps34
    go_wp2
    go_ret
    exact ⟨by rw [HF.out]; rfl, rfl⟩
  · by_cases h1 : (gs.length : Int) ≤ i
    · have HF := Lib.hid (ptrOf_high (gs := gs) h1)
      go_enter Try.func34, Try.ntmps34
      go_wp2
      go_ret
      exact ⟨by rw [HF.out]; rfl, rfl⟩
    · obtain ⟨k, rfl⟩ := Int.eq_ofNat_of_zero_le (by omega : 0 ≤ i)
      have hk : k < gs.length := by omega
      obtain ⟨b, off, rfl, hb, hcell⟩ := hR.pb_at hk
      have HF := Lib.hid (ptrOf_at hk)
      go_enter Try.func34, Try.ntmps34
      go_wp2
      go_ret
      exact ⟨by rw [HF.out]; rfl, rfl⟩

theorem pb_ne {w : World} {gs : List PB} {xs : List Cls} (h : Nds w gs xs) {i j : Nat} (hi : i < gs.length) (hj : j < gs.length) : (gs[i].g = gs[j].g) ↔ i = j := by
  constructor
  · intro e
    rcases Nat.lt_trichotomy i j with h1 | h1 | h1
    · have := h.asc i j hi hj h1; omega
    · exact h1
    · have := h.asc j i hj hi h1; omega
  · rintro rfl; rfl

theorem ptrOf_form {gs : List PB} {xs : List Cls} {a : Int} (hl : gs.length = xs.length) (ha : a < xs.length) : ptrOf gs a = none ∧ a < 0 ∨ ∃ i : Nat, ∃ h : i < gs.length, a = i ∧ ptrOf gs a = some ⟨gs[i].g, 0, none⟩ := by
  by_cases h : a < 0
  · exact .inl ⟨ptrOf_neg h, h⟩
  · obtain ⟨i, rfl⟩ := Int.eq_ofNat_of_zero_le (by omega : 0 ≤ a)
    exact .inr ⟨i, by omega, rfl, ptrOf_at (by omega)⟩
theorem blk_up {w : World} {gs : List PB} {xs : List Cls} (hN : Nds w gs xs) (g : Good xs) {i : Nat} (hi : i < gs.length) (hx : i < xs.length) : blk (.pointer (ptrOf gs xs[i].parent)) < blk (.pointer (some ⟨gs[i].g, 0, none⟩)) := by
  have hp := g.par_le hx
  rcases ptrOf_form (gs := gs) (xs := xs) (a := xs[i].parent) hN.len (by omega) with ⟨h, _⟩ | ⟨k, hk, e, h⟩
  · rw [h]; simp [blk]
  · rw [h]
    have := hN.asc k i hk hi (by omega)
    simp [blk]; omega

theorem nodeInfo : (Try.prog.info? 96).map (fun i => (i.zero, i.size, i.bytes)) = some (some (.agg #[.int .i64 0, .pointer none]), 2, 16) := by kernel_rfl
theorem eql_same (w : World) (g : Nat) : (binOp .eql 65 (.pointer (some ⟨g, 0, none⟩)) (.pointer (some ⟨g, 0, none⟩))).run Try.prog w = .ok (.bool true) w := by
  obtain ⟨i0, hi, hz0, hz1, hz2⟩ := info_parts nodeInfo
  exact run_eql_ptr_same w _ Try.underlying65 hi
theorem eql_other {w : World} {gs : List PB} {xs : List Cls} (h : Nds w gs xs) {i j : Nat} (hi : i < gs.length) (hj : j < gs.length) (hx : i < xs.length) (hy : j < xs.length) (hne : i ≠ j) :
    (binOp .eql 65 (.pointer (some ⟨gs[i].g, 0, none⟩)) (.pointer (some ⟨gs[j].g, 0, none⟩))).run Try.prog w = .ok (.bool false) w := by
  obtain ⟨i0, hi0, hz0, hz1, hz2⟩ := info_parts nodeInfo
  have hgne := mt (pb_ne h hi hj).1 hne
  exact run_eql_ptr_other w Try.underlying65 hi0 (by rw [hz1]; decide) (fun e => hgne (congrArg Addr.block e)) (h.row i hi hx) (h.row j hj hy)

set_option maxRecDepth 100000 in
theorem catches_any (gs : List PB) (xs : List Cls) (g : Good xs) (j : Nat) (hj : j < gs.length) (a : Int) (ha : a < xs.length) (ha0 : -1 ≤ a) (w : World) (hN : Nds w gs xs) :
    Calls Try.prog 46 #[.pointer (some ⟨gs[j].g, 0, none⟩), .pointer (ptrOf gs a)] w fun e w' => e = .returned (.bool (isAL xs a j)) ∧ w = w' := by
  have hlen := hN.len
  have HL := Lib.hid hlen; clear hlen
  go_enter Try.func46, Try.ntmps46
  go_wp2
  go_loop [1] (fun c => ∃ a' : Int, a' < xs.length ∧ c = .pointer (ptrOf gs a') ∧ isAL xs a j = isAL xs a' j ∧ -1 ≤ a') (fun c => blk c)
  case atStart => exact ⟨a, ha, rfl, rfl, ha0⟩
  case round =>
    obtain ⟨a', h1, rfl, hr, h2⟩ := hrel
    have HR := Lib.hid hr; clear hr
    rcases ptrOf_form (gs := gs) HL.out h1 with ⟨hp, h0⟩ | ⟨i, hi, rfl, hp⟩
    · have HF : Hid (isAL xs a j = false) := by show _ = _; rw [HR.out, isAL_neg h0]
      rw [hp]
      clear hp
      go_wp2
      go_ret
      exact ⟨ret_bool HF.out.symm, rfl⟩
    · rw [hp]
      clear hp
      by_cases hij : i = j
      · subst hij
        have HF : Hid (isAL xs a i = true) := by show _ = _; rw [HR.out, isAL_at g (by omega)]; simp
        have hq := eql_same w gs[i].g
        go_wp2
        go_ret
        exact ⟨ret_bool HF.out.symm, rfl⟩
      · have hq := eql_other hN hi hj (by have := HL.out; omega) (by have := HL.out; omega) hij
        have hc := hN.up i hi (by omega)
        have HF : Hid (isAL xs a j = isAL xs xs[i].parent j) := by
          show _ = _; rw [HR.out, isAL_at g (by omega)]
          have : ((i : Int) == (j : Int)) = false := by simp; omega
          rw [this]; rfl
        have HB := Lib.hid (blk_up hN g hi (by omega))
        have hpl := g.par_le (i := i) (by omega)
        clear HR
        go_wp2
        go_round
        case rel => exact ⟨xs[i].parent, by omega, rfl, HF.out, by omega⟩
        case measure => exact HB.out
end

section
def NodesOut (xs : List Cls) (w : World) (e : Ending) (w' : World) : Prop :=
  Le w w' ∧ ((okTree xs = false ∧ e = .returned (.slice none 0 0)) ∨ (okTree xs = true ∧ ∃ g gs, e = .returned (.slice (some ⟨g, 0, none⟩) xs.length xs.length) ∧ Sl w' (some ⟨g, 0, none⟩) xs.length xs.length gs ∧ Nds w' gs xs))
theorem pnInfo : (Try.prog.info? 65).map (fun i => (i.zero, i.size, i.bytes)) = some (some (.pointer none), 1, 8) := by kernel_rfl

theorem nds_step {wr W' : World} {gs : List PB} {xs : List Cls} {k R B : Nat} (hk : k < xs.length) (hgl : gs.length = k) (hN : Nds wr gs (xs.take k)) (hgs : ∀ j (h : j < gs.length), R < gs[j].g) (hpar : xs[k].parent ≤ (k : Int) - 1)
    (hpars : ∀ i (h : i < xs.length), xs[i].parent ≤ (i : Int) - 1) (hB : wr.heap.size ≤ B) (hB' : B < W'.heap.size)
    (hold : ∀ i, i < wr.heap.size → i ≠ R → W'.heap[i]? = wr.heap[i]?) (hnew : W'.heap[B]? = some (.cells #[.int .i64 k, .pointer (ptrOf gs xs[k].parent)] 96 (0, 0))) :
    Nds W' (gs ++ [⟨B⟩]) (xs.take (k + 1)) := by
  have hp : ∀ p : Int, p < k → ptrOf (gs ++ [⟨B⟩]) p = ptrOf gs p := by
    intro p hp
    unfold ptrOf
    split
    · rfl
    · rw [List.getElem?_append_left (by omega)]
  have hl : (gs ++ [(⟨B⟩ : PB)]).length = k + 1 := by simp [hgl]
  have hget : ∀ i (hi : i < (gs ++ [(⟨B⟩ : PB)]).length), (∃ h : i < gs.length, (gs ++ [(⟨B⟩ : PB)])[i] = gs[i]) ∨ (i = k ∧ (gs ++ [(⟨B⟩ : PB)])[i] = ⟨B⟩) := by
    intro i hi
    rcases Nat.lt_or_ge i gs.length with h | h
    · exact .inl ⟨h, List.getElem_append_left h⟩
    · exact .inr ⟨by omega, by rw [List.getElem_append_right h]; simp⟩
  refine ⟨by rw [hl, List.length_take]; omega, ?_, ?_, ?_⟩
  · intro i j hi hj hij
    rcases hget i hi with ⟨h1, e1⟩ | ⟨h1, e1⟩ <;> rcases hget j hj with ⟨h2, e2⟩ | ⟨h2, e2⟩ <;> rw [e1, e2]
    · exact hN.asc i j h1 h2 hij
    · have := hN.lt i h1; show _ < B; omega
    · omega
    · omega
  · intro i hi
    rcases hget i hi with ⟨h1, e1⟩ | ⟨h1, e1⟩ <;> rw [e1]
    · have := hN.lt i h1; omega
    · exact hB'
  · intro i hi hx
    have hx' : i < xs.length := by rw [List.length_take] at hx; omega
    have e : (xs.take (k + 1))[i] = xs[i] := List.getElem_take
    rw [e, hp _ (by have := hpars i hx'; omega)]
    rcases hget i hi with ⟨h1, e1⟩ | ⟨h1, e1⟩ <;> rw [e1]
    · have hx2 : i < (xs.take k).length := by rw [List.length_take]; omega
      have := hN.row i h1 hx2
      have e3 : (xs.take k)[i] = xs[i] := List.getElem_take
      rw [e3] at this
      rw [hold _ (hN.lt i h1) (by have := hgs i h1; omega)]; exact this
    · subst h1; exact hnew

set_option maxHeartbeats 4000000 in
set_option maxRecDepth 100000 in
theorem nodesOf_any (A : Option Addr) (n cap : Nat) (xs : List Cls) (w : World) (hR : Sl w A n cap xs) :
    Calls Try.prog 33 #[.agg #[.slice A n cap]] w (NodesOut xs w) := by
  have hl := Le.new w (.cells #[.slice A n cap] 25)
  have c0 : (w.alloc (.cells #[.slice A n cap] 25)).cell? ⟨w.heap.size, 0, none⟩ = some (.slice A n cap) := by rw [World.cell?_alloc_at _ _ _ _ rfl]; rfl
  have hz : w.heap.size < (w.alloc (.cells #[.slice A n cap] 25)).heap.size := by simp
  have hS := hR.le hl
  obtain ⟨i0, hi, hz0, hz1, hz2⟩ := info_parts pnInfo
  cases hok : okTree xs
  · go_enter Try.func33, Try.ntmps33
    go_wp2_with fail
    generalize w.alloc (.cells #[.slice A n cap] 25) = W at *
    refine (iValidTree_any A n cap xs _ hS).mono ?_
    rintro e w2 ⟨rfl, hle⟩
    rw [hok]
    have HK := Lib.hid hok; clear hok
    go_wp2
    go_ret
    exact ⟨hl.trans hle, .inl ⟨HK.out, rfl⟩⟩
  · have g := good_of hok
    have hlo := g.lo
    have hhi := g.hi
    obtain rfl := hR.len
    have hb2 : i0.bytes * xs.length ≤ 281474976710656 := by rw [hz2]; omega
    go_enter Try.func33, Try.ntmps33
    go_wp2_with fail
    generalize w.alloc (.cells #[.slice A xs.length cap] 25) = W at *
    refine (iValidTree_any A xs.length cap xs _ hS).mono ?_
    rintro e w2 ⟨rfl, hle⟩
    rw [hok]
    have HK := Lib.hid hok; clear hok
    have c2 := (hle.cell hz).trans c0
    have hl2 := hl.trans hle
    have hz2' := Nat.lt_of_lt_of_le hz hle.size
    clear c0 hz hle hl hS
    go_wp2_with (refine wpList_make_full _ rfl _ _ 63 rfl w2.heap.size 65 i0 _ 1 Try.underlying63 hi hz0 hz1 .i64 .i64 _ _ xs.length rfl rfl rfl rfl hb2 (by unfold maxLen; omega) (Nat.le_refl _) ?_; intro w3 hown3 hg3; have c3 := hg3.cell c2 (by simp))
    have hle3 : Le w2 w3 := (Le.refl w2).grown hg3 (by intro k hk; cases hk)
    have hz3 : w2.heap.size < w3.heap.size := own_lt hown3
    clear c3
    go_loopw [16] (fun i wr => ∃ k : Nat, ∃ gs : List PB, ∃ r : List Value, k ≤ xs.length ∧ i = .int .i64 k ∧ r.length = xs.length - k ∧ wr.ownsRow w2.heap.size 65 1 (.slice (some ⟨w2.heap.size, 0, none⟩) xs.length xs.length) xs.length (gs.flatMap Enc.cells ++ r) ∧
        Nds wr gs (xs.take k) ∧ (∀ j (h : j < gs.length), w2.heap.size < gs[j].g) ∧ Le w2 wr) (fun i _ => xs.length - (intOf i).toNat)
    case atStart => exact ⟨0, [], _, Nat.zero_le _, rfl, by simp [madeCells], hown3, ⟨by simp, by simp, by simp, by simp⟩, by simp, hle3⟩
    case round =>
      obtain ⟨k, gs, r, hk, rfl, hr, hown, hN, hgs, hle⟩ := hrel
      clear hown3 hg3 hle3
      have hwr := hl2.trans hle
      have hRr := hR.le hwr
      have hcT := (hle.cell hz2').trans c2
      have hzr : w2.heap.size < wr.heap.size := own_lt hown
      have hgl : gs.length = k := by have := hN.len; rw [List.length_take] at this; omega
      have HG := Lib.hid hgl
      by_cases hlt : k < xs.length
      · obtain ⟨b, off, rfl, hb, hcell, hcell2, hns, hp1, hp2⟩ := hRr.cls_at hlt
        match r, hr with
        | [], h => simp at h; omega
        | r0 :: r1, hr =>
        have hfl : (gs.flatMap (Enc.cells (α := PB))).length = k := by rw [flat_len, hgl]; show k * 1 = k; omega
        have hc0 : wr.cell? ⟨w2.heap.size, k, none⟩ = some r0 := by rw [hown.cellAt _ (by omega), List.getElem?_append_right (by omega), hfl]; simp
        have hf0 := hown.frozenAt k
        have hpar := g.par_le hlt
        have HFL := Lib.hid hfl
        clear hgl hfl
        have hpars : ∀ i (h : i < xs.length), xs[i].parent ≤ (i : Int) - 1 := fun i h => (g.par_le h).2
        have HP := Lib.hid hpars; clear hpars
        have hflat : Hid ((gs ++ [(⟨wr.heap.size + 1⟩ : PB)]).flatMap Enc.cells ++ r1 = (gs.flatMap Enc.cells ++ r0 :: r1).set k (.pointer (some ⟨wr.heap.size + 1, 0, none⟩))) := by
          show _ = _
          rw [List.set_append_right _ _ (by have := HFL.out; omega), HFL.out]
          simp [Enc.cells]
        have hgsN : Hid (∀ j (h : j < (gs ++ [(⟨wr.heap.size + 1⟩ : PB)]).length), w2.heap.size < (gs ++ [(⟨wr.heap.size + 1⟩ : PB)])[j].g) := by
          intro j hj
          rcases Nat.lt_or_ge j gs.length with h | h
          · rw [List.getElem_append_left h]; exact hgs j h
          · rw [List.getElem_append_right h]; simp; omega
        by_cases hneg : xs[k].parent < 0
        · go_wp2
          go_roundw
          case rel =>
            refine ⟨k + 1, gs ++ [⟨wr.heap.size + 1⟩], r1, by omega, by go_num, by simp at hr; omega, ?_, ?_, hgsN.out, ?_⟩
            · rw [hflat.out]; exact ((hown.stored k _).1.alloc _).alloc _
            · refine nds_step (R := w2.heap.size) hlt HG.out hN hgs hpar.2 HP.out (by omega) (by simp) ?_ ?_
              · intro i hi hne
                rw [Below.heap_alloc _ _ _ (by simp; omega), Below.heap_alloc _ _ _ (by simpa using hi), Below.heap_setCell _ _ _ _ hne]
              · rw [ptrOf_neg hneg]
                have := heap_alloc_new ((wr.setCell ⟨w2.heap.size, k, none⟩ (.pointer (some ⟨wr.heap.size + 1, 0, none⟩))).alloc (.cells #[.string xs[k].name, .int .i64 xs[k].parent] 104)) (.cells #[.int .i64 k, .pointer none] 96)
                simpa using this
            · exact ((hle.setCell (Nat.le_refl _) _).alloc _).alloc _
          case measure => simp [intOf]; omega
        · go_wp2_with fail
          obtain ⟨p, hpe⟩ := Int.eq_ofNat_of_zero_le (by omega : 0 ≤ xs[k].parent)
          have hpk : p < gs.length := by have := HG.out; omega
          have hptr : ptrOf gs xs[k].parent = some ⟨gs[p].g, 0, none⟩ := by rw [hpe]; exact ptrOf_at hpk
          have hrp : wr.cell? ⟨w2.heap.size, p, none⟩ = some (.pointer (some ⟨gs[p].g, 0, none⟩)) := by
            rw [hown.cellAt _ (by omega), List.getElem?_append_left (by have := HFL.out; have := HG.out; omega)]
            have := flat_at gs p hpk 0 (by decide)
            simpa [Enc.size, Enc.cells] using this
          generalize hWd : ((wr.setCell _ _).alloc _).alloc _ = W
          have f1 : W.cell? ⟨w2.heap.size, k, none⟩ = some (.pointer (some ⟨wr.heap.size + 1, 0, none⟩)) := by
            rw [← hWd, World.cell?_alloc_past _ _ _ (by simp; omega), World.cell?_alloc_past _ _ _ (by simpa using hzr)]; exact cell_set_same hc0
          have f2 : W.cell? ⟨wr.heap.size, 1, none⟩ = some (.int .i64 xs[k].parent) := by
            rw [← hWd, World.cell?_alloc_past _ _ _ (by simp), World.cell?_alloc_at _ _ _ _ (by simp)]; rfl
          have f3 : W.cell? ⟨w2.heap.size, p, none⟩ = some (.pointer (some ⟨gs[p].g, 0, none⟩)) := by
            rw [← hWd, World.cell?_alloc_past _ _ _ (by simp; omega), World.cell?_alloc_past _ _ _ (by simpa using hzr), cell_set_other (.inr (by have := HG.out; omega))]; exact hrp
          have f4 : W.cell? ⟨wr.heap.size + 1, 1, none⟩ = some (.pointer none) := by
            rw [← hWd, World.cell?_alloc_at _ _ _ _ (by simp)]; rfl
          have f5 : W.frozen? ⟨wr.heap.size + 1, 1, none⟩ = false := by
            rw [← hWd, World.frozen?_alloc_at _ _ _ _ (by simp)]
          have hWz : W.heap.size = wr.heap.size + 2 := by rw [← hWd]; simp
          have HWZ := Lib.hid hWz; clear hWz
          have hWold : ∀ i, i < wr.heap.size → i ≠ w2.heap.size → W.heap[i]? = wr.heap[i]? := by
            intro i hi hne
            rw [← hWd, Below.heap_alloc _ _ _ (by simp; omega), Below.heap_alloc _ _ _ (by simpa using hi), Below.heap_setCell _ _ _ _ hne]
          have HWO := Lib.hid hWold; clear hWold
          have hWn : W.heap[wr.heap.size + 1]? = some (.cells #[.int .i64 k, .pointer none] 96 (0, 0)) := by
            have := heap_alloc_new ((wr.setCell ⟨w2.heap.size, k, none⟩ (.pointer (some ⟨wr.heap.size + 1, 0, none⟩))).alloc (.cells #[.string xs[k].name, .int .i64 xs[k].parent] 104)) (.cells #[.int .i64 k, .pointer none] 96)
            rw [hWd] at this
            simpa using this
          have HWN := Lib.hid hWn; clear hWn
          have hWown : W.ownsRow w2.heap.size 65 1 (.slice (some ⟨w2.heap.size, 0, none⟩) xs.length xs.length) xs.length ((gs ++ [(⟨wr.heap.size + 1⟩ : PB)]).flatMap Enc.cells ++ r1) := by
            rw [hflat.out, ← hWd]; exact ((hown.stored k _).1.alloc _).alloc _
          have hWle : Le w2 W := by rw [← hWd]; exact ((hle.setCell (Nat.le_refl _) _).alloc _).alloc _
          have HPT := Lib.hid hptr; clear hptr
          have HPE := Lib.hid hpe
          have hidx : 0 ≤ xs[k].parent ∧ xs[k].parent < xs.length := by omega
          have htn : xs[k].parent.toNat = p := by omega
          clear hWd hc0 hf0 hrp hcell hcell2
          clear hpe
          have f3' : W.cell? ⟨w2.heap.size, xs[k].parent.toNat, none⟩ = some (.pointer (some ⟨gs[p].g, 0, none⟩)) := by rw [htn]; exact f3
          have HTN := Lib.hid htn; clear htn
          clear f3
          go_region
          all_goals go_wp2
          all_goals
            go_roundw
            case rel =>
              refine ⟨k + 1, gs ++ [⟨wr.heap.size + 1⟩], r1, by omega, by go_num, by simp at hr; omega, ?_, ?_, hgsN.out, ?_⟩
              · exact (own_set hWown (by omega) _).drew
              · refine nds_step (R := w2.heap.size) hlt HG.out hN hgs hpar.2 HP.out (by omega) (by have := HWZ.out; simp [World.setCell, World.drew]; omega) ?_ ?_
                · intro i hi hne
                  show (World.setCell _ _ _).heap[i]? = _
                  rw [Below.heap_setCell _ _ _ _ (by show i ≠ wr.heap.size + 1; omega)]
                  exact HWO.out i hi hne
                · rw [HPT.out]
                  exact heap_setCell_same W (wr.heap.size + 1) 1 _ _ _ HWN.out
              · exact (hWle.setCell (by omega) _).drew
            case measure => simp [intOf]; omega
      · have hk' : k = xs.length := by omega
        have hr0 : r = [] := List.eq_nil_of_length_eq_zero (by omega)
        have HF : Hid (NodesOut xs w (.returned (.slice (some ⟨w2.heap.size, 0, none⟩) xs.length xs.length)) wr) := by
          refine ⟨hwr, .inr ⟨HK.out, w2.heap.size, gs, rfl, ?_, ?_⟩⟩
          · rw [hr0, List.append_nil] at hown
            exact Sl.of_own hown rfl (by decide) (fun _ _ => trivial)
          · rw [hk', List.take_length] at hN; exact hN
        clear hk' hr0 hr HG
        go_wp2
        go_ret
        exact HF.out
end

section
theorem isA_any (A : Option Addr) (n cap : Nat) (xs : List Cls) (a b : Int) (w : World) (hR : Sl w A n cap xs) (g : Good xs) (ha : a < xs.length) (ha0 : -1 ≤ a) :
    Calls Try.prog 85 #[.agg #[.slice A n cap], .int .i64 a, .int .i64 b] w fun e w' => e = .returned (.bool (isAL xs a b)) ∧ Le w w' := by
  have hl := Le.new w (.cells #[.slice A n cap] 25)
  have hS := hR.le hl
  go_enter Try.func85, Try.ntmps85
  go_wp2_with fail
  refine (above_any A n cap xs a _ hS g ha ha0).mono ?_
  rintro e w2 ⟨v, rfl, hown, hle⟩
  have hok : ∀ x ∈ aboveL xs a, Enc.ok x := by
    intro x hx
    have := aboveL_mem g _ a rfl ha x hx
    have := g.hi
    exact ⟨by omega, by omega⟩
  obtain ⟨A2, c2, rfl⟩ : ∃ A2 c2, v = .slice A2 (aboveL xs a).length c2 := by
    rcases hown.2 with ⟨h, h0⟩ | ⟨g2, c2, _, h, _⟩
    · exact ⟨none, 0, by rw [h0]; exact h⟩
    · exact ⟨_, c2, h⟩
  have hSa : Sl w2 A2 (aboveL xs a).length c2 (aboveL xs a) := Sl.of_own hown rfl (by decide) hok
  clear hown hok
  go_wp2_with fail
  refine (hasInt_any _ _ _ (aboveL xs a) b _ hSa).mono ?_
  rintro e w3 ⟨rfl, rfl⟩
  go_wp2
  go_ret
  exact ⟨ret_bool rfl, hl.trans hle⟩

/-- what nodesOf hands back, as one slice -/
theorem nodes_one {xs : List Cls} {w w' : World} {e : Ending} (h : NodesOut xs w e w') : Le w w' ∧ ∃ A n gs, e = .returned (.slice A n n) ∧ Sl w' A n n gs ∧ ((okTree xs = false ∧ n = 0 ∧ gs = []) ∨ (okTree xs = true ∧ n = xs.length ∧ Nds w' gs xs)) := by
  obtain ⟨hl, ⟨h0, rfl⟩ | ⟨h1, g, gs, rfl, hS, hN⟩⟩ := h
  · exact ⟨hl, none, 0, [], rfl, Sl.nil _ _ _ (by omega), .inl ⟨h0, rfl, rfl⟩⟩
  · exact ⟨hl, _, _, gs, rfl, hS, .inr ⟨h1, rfl, hN⟩⟩

theorem ptr_cases {gs : List PB} {xs : List Cls} (hl : gs.length = xs.length) (a : Int) : (hasK xs a = false ∧ ptrOf gs a = none) ∨ (hasK xs a = true ∧ ∃ i : Nat, ∃ h : i < gs.length, a = i ∧ ptrOf gs a = some ⟨gs[i].g, 0, none⟩) := by
  by_cases h0 : a < 0
  · exact .inl ⟨by unfold hasK; simp; omega, ptrOf_neg h0⟩
  · by_cases h1 : (gs.length : Int) ≤ a
    · exact .inl ⟨by unfold hasK; simp; omega, ptrOf_high h1⟩
    · obtain ⟨i, rfl⟩ := Int.eq_ofNat_of_zero_le (by omega : 0 ≤ a)
      exact .inr ⟨hasK_iff.2 (by omega), i, by omega, rfl, ptrOf_at (by omega)⟩
theorem ptrOf_nil (a : Int) : ptrOf [] a = none := by unfold ptrOf; split <;> simp
end

section
set_option maxHeartbeats 1000000 in
theorem iIsA_any (A : Option Addr) (n cap : Nat) (xs : List Cls) (a b : Int) (w : World) (hR : Sl w A n cap xs) :
    Calls Try.prog 16 #[.agg #[.slice A n cap], .int .i64 a, .int .i64 b] w fun e w' => e = .returned (.bool (isAx xs a b)) ∧ Le w w' := by
  have hl := Le.new w (.cells #[.slice A n cap] 25)
  have hS := hR.le hl
  go_enter Try.func16, Try.ntmps16
  go_wp2_with fail
  refine (nodesOf_any A n cap xs _ hS).mono ?_
  intro e w2 hout
  obtain ⟨hle, A2, n2, gs, rfl, hS2, hcase⟩ := nodes_one hout
  go_wp2_with fail
  refine (nodeAt_any _ _ _ gs a _ hS2).mono ?_
  rintro e w3 ⟨rfl, rfl⟩
  go_wp2_with fail
  refine (nodeAt_any _ _ _ gs b _ hS2).mono ?_
  rintro e w3 ⟨rfl, rfl⟩
  rcases hcase with ⟨h0, _, rfl⟩ | ⟨h1, _, hN⟩
  · have HF : Hid (isAx xs a b = false) := by show _ = _; unfold isAx; rw [h0]; rfl
    rw [ptrOf_nil, ptrOf_nil]
    clear h0
    go_wp2
    go_ret
    exact ⟨ret_bool HF.out.symm, hl.trans hle⟩
  · have g := good_of h1
    have HL := Lib.hid hN.len
    rcases ptr_cases HL.out a with ⟨h2, h3⟩ | ⟨h2, i, hi, rfl, h3⟩
    · have HF : Hid (isAx xs a b = false) := by show _ = _; unfold isAx; rw [h1, h2]; rfl
      rw [h3]
      clear h1 h2 h3
      go_wp2
      go_ret
      exact ⟨ret_bool HF.out.symm, hl.trans hle⟩
    · rcases ptr_cases HL.out b with ⟨h4, h5⟩ | ⟨h4, j, hj, rfl, h5⟩
      · have HF : Hid (isAx xs i b = false) := by show _ = _; unfold isAx; rw [h1, h2, h4]; rfl
        rw [h3, h5]
        clear h1 h2 h3 h4 h5
        go_wp2
        go_ret
        exact ⟨ret_bool HF.out.symm, hl.trans hle⟩
      · have HF : Hid (isAx xs i j = isAL xs i j) := by show _ = _; unfold isAx; rw [h1, h2, h4]; rfl
        have HP := Lib.hid h3
        rw [h3, h5]
        clear h1 h2 h3 h4 h5
        go_wp2_with fail
        have hc := catches_any gs xs g j hj (i : Int) (by have := HL.out; omega) (by omega) w2 hN
        rw [HP.out] at hc
        refine hc.mono ?_
        rintro e w3 ⟨rfl, rfl⟩
        go_wp2
        go_ret
        exact ⟨ret_bool HF.out.symm, hl.trans hle⟩
end
end
end Go.Proofs.Ytkpnajffeclmdaa
