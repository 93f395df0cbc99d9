/- one text of HpJ, CcFault, Bo, HpF, HpQ, As -/
import Derived.Test.YthcolcmgfhkbeaaDoorCt3
import Derived.Test.YthcolcmgfhkbeaaDoorCt4
import Derived.Test.YthcolcmgfhkbeaaDoorCt2
import Derived.Test.YthcolcmgfhkbeaaDoorRows
import Derived.Test.YthcolcmgfhkbeaaDoorCt1
import Derived.Lib.AppendZerosOnto
import Derived.Lib.SliceRun
import Derived.LaidEql
import Derived.Stop.Asserts
import Derived.RowKitTokens
namespace Go.Proofs.YthcolcmgfhkbeaaDoor
open Go.RowKit
set_option linter.unusedVariables false
section
/-- what is shown ahead of a fault -/
def shownOf (x : Flt) : Int := cond (decide (0 ≤ x.cause)) x.cause (cond x.hide (-1) x.ctx)
def shownAt (hs : List Flt) (f : Int) : Int := match hs[f.toNat]? with | some x => shownOf x | none => -1
theorem shownAt_at {hs : List Flt} {i : Nat} (h : i < hs.length) : shownAt hs (i : Int) = shownOf hs[i] := by
  unfold shownAt; rw [Int.toNat_natCast, List.getElem?_eq_getElem h]
def shownX (xs : List Cls) (hs : List Flt) (f : Int) : Int := cond (goodF xs hs f) (shownAt hs f) (-2)
theorem shownX_of {xs : List Cls} {hs : List Flt} {f : Int} {t : Bool} (h : goodF xs hs f = t) : shownX xs hs f = cond t (shownAt hs f) (-2) := by unfold shownX; rw [h]

theorem shownLink_any (x : Flt) (w : World) : Calls Tryd.prog 65 #[.agg #[.int .i64 x.cls, .int .i64 x.code, .int .i64 x.cause, .int .i64 x.ctx, .bool x.hide]] w fun e w' => e = .returned (.int .i64 (shownOf x)) ∧ Le w w' := by
  have hX : shownOf x = cond (decide (0 ≤ x.cause)) x.cause (cond x.hide (-1) x.ctx) := rfl
  have HX := Lib.hid hX; clear hX
  by_cases h : 0 ≤ x.cause
  · have h2 : ¬ x.cause < 0 := by omega
    have e : shownOf x = x.cause := by rw [HX.out, decide_eq_true h]; rfl
    have HE := Lib.hid e; clear e
    go_enter Tryd.func65, Tryd.ntmps65
    go_wp2
    go_ret
    exact ⟨ret_int HE.out.symm, Le.new _ _⟩
  · have h2 : x.cause < 0 := by omega
    cases hh : x.hide
    · have e : shownOf x = x.ctx := by rw [HX.out, decide_eq_false h, hh]; rfl
      have HE := Lib.hid e; clear e
      go_enter Tryd.func65, Tryd.ntmps65
      go_wp2
      go_ret
      exact ⟨ret_int HE.out.symm, Le.new _ _⟩
    · have e : shownOf x = -1 := by rw [HX.out, decide_eq_false h, hh]; rfl
      have HE := Lib.hid e; clear e
      go_enter Tryd.func65, Tryd.ntmps65
      go_wp2
      go_ret
      exact ⟨ret_int HE.out.symm, Le.new _ _⟩

theorem iHasFault_any (A H : Option Addr) (n cap m c : Nat) (xs : List Cls) (hs : List Flt) (f : Int) (w : World) (hR : Sl w A n cap xs) (hH : Sl w H m c hs) (hm : m ≤ 2097152) :
    Calls Tryd.prog 32 #[.agg #[.slice A n cap], .agg #[.slice H m c], .int .i64 f] w fun e w' => e = .returned (.bool (goodF xs hs f)) ∧ Le w w' := by
  have HG : Hid (goodF xs hs f = (hasF hs f && okHeap xs hs)) := by show _ = _; unfold goodF; rw [Bool.and_comm]
  obtain rfl := hH.len
  have hnn : IntKind.i64.wrap ((hs.length : Int) - 1) = (hs.length : Int) - 1 := IntWalk.i64_in _ (by omega)
  go_enter Tryd.func32, Tryd.ntmps32
  go_wp2_with fail
  obtain ⟨c0, z0, c1, z1, L0⟩ := box2 w (.slice A n cap) (.slice H hs.length c) 25 28
  generalize (w.alloc (.cells #[.slice A n cap] 25)).alloc (.cells #[.slice H hs.length c] 28) = W at *
  refine (iInRange_any _ _ _ _).mono ?_
  rintro e w1 ⟨rfl, hle⟩
  replace c0 := (hle.cell z0).trans c0
  replace c1 := (hle.cell z1).trans c1
  replace z0 := Nat.lt_of_lt_of_le z0 hle.size
  replace z1 := Nat.lt_of_lt_of_le z1 hle.size
  replace L0 := L0.trans hle
  clear hle
  have hq : rng 0 ((hs.length : Int) - 1) f = hasF hs f := rfl
  rw [hq]
  cases ho : hasF hs f
  · rw [ho] at HG
    go_wp2
    go_ret
    exact ⟨ret_bool (by rw [HG.out]; rfl), L0⟩
  · rw [ho] at HG
    go_wp2_with fail
    refine (iValidHeap_any A H n cap hs.length c xs hs w1 (hR.le L0) (hH.le L0) hm).mono ?_
    rintro e w2 ⟨rfl, hle⟩
    go_wp2
    go_ret
    exact ⟨ret_bool (by rw [HG.out]; rfl), L0.trans hle⟩

set_option maxRecDepth 100000 in
theorem shownNext_any (H : Option Addr) (m c : Nat) (hs : List Flt) (i : Nat) (w : World) (hH : Sl w H m c hs) (hi : i < hs.length) :
    Calls Tryd.prog 70 #[.agg #[.slice H m c], .int .i64 i] w fun e w' => e = .returned (.int .i64 (shownAt hs i)) ∧ Le w w' := by
  have HA := Lib.hid (shownAt_at hi)
  have hlen := hH.len
  obtain ⟨b, off, rfl, hb, q0, q1, q2, q3, q4, _⟩ := hH.flt_at hi
  have him : (i : Int) < m := by omega
  have hX : shownOf hs[i] = cond (decide (0 ≤ hs[i].cause)) hs[i].cause (cond hs[i].hide (-1) hs[i].ctx) := rfl
  have HX := Lib.hid hX; clear hX
  have L1 := Le.new w (.cells #[.slice (some ⟨b, off, none⟩) m c] 28)
  replace q0 := (L1.cell hb).trans q0
  replace q1 := (L1.cell hb).trans q1
  replace q2 := (L1.cell hb).trans q2
  replace q3 := (L1.cell hb).trans q3
  replace q4 := (L1.cell hb).trans q4
  clear hlen
  generalize hs[i] = x at *
  by_cases h : 0 ≤ x.cause
  · have e : shownOf x = x.cause := by rw [HX.out, decide_eq_true h]; rfl
    have HE := Lib.hid e; clear e
    go_enter Tryd.func70, Tryd.ntmps70
    go_wp2
    go_ret
    exact ⟨ret_int (by rw [HA.out, HE.out]), (Le.new _ _).alloc _⟩
  · cases hh : x.hide
    · have e : shownOf x = x.ctx := by rw [HX.out, decide_eq_false h, hh]; rfl
      have HE := Lib.hid e; clear e
      go_enter Tryd.func70, Tryd.ntmps70
      go_wp2
      go_ret
      exact ⟨ret_int (by rw [HA.out, HE.out]), (Le.new _ _).alloc _⟩
    · have e : shownOf x = -1 := by rw [HX.out, decide_eq_false h, hh]; rfl
      have HE := Lib.hid e; clear e
      go_enter Tryd.func70, Tryd.ntmps70
      go_wp2
      go_ret
      exact ⟨ret_int (by rw [HA.out, HE.out]), (Le.new _ _).alloc _⟩

end

section
instance instOneFlt : EncOne Flt := ⟨by decide, fun x u hu => by simp [Enc.cells] at hu; rcases hu with rfl | rfl | rfl | rfl | rfl <;> rfl⟩
theorem infoCcFault : (Tryd.prog.info? 49).map (fun i => (i.zero, i.size, i.bytes)) = some (some (.agg #[.int .i64 0, .int .i64 0, .int .i64 0, .int .i64 0, .bool false]), 5, 40) := by kernel_rfl
def GrowOutFault (w : World) (e : Ending) (w' : World) : Prop := ∃ g G, e = .returned (.slice (some ⟨g, 0, none⟩) 0 G) ∧ w'.ownsRow w.heap.size 49 5 (.slice (some ⟨g, 0, none⟩) 0 G) 0 [] ∧ Le w w'
/-- a row of slices -/
structure SlV where
  A : Option Addr
  n : Nat
  c : Nat
end

section
instance instEncBool : Enc Bool := ⟨1, fun x => [.bool x], fun _ => True, fun _ => rfl⟩
theorem flat_set {α : Type} [Enc α] (y : α) (v : Value) (j : Nat) (hj : j < Enc.size α) : ∀ (xs : List α) (k : Nat) (hk : k < xs.length), (Enc.cells xs[k]).set j v = Enc.cells y → (xs.flatMap Enc.cells).set (k * Enc.size α + j) v = (xs.set k y).flatMap Enc.cells := by
  intro xs
  induction xs with
  | nil => intro k hk; simp at hk
  | cons x r ih =>
    intro k hk hy
    rw [List.flatMap_cons]
    cases k with
    | zero =>
      rw [Nat.zero_mul, Nat.zero_add, List.set_append_left _ _ (by rw [Enc.len]; exact hj)]
      simp only [List.getElem_cons_zero] at hy
      rw [hy]; rfl
    | succ k =>
      have hle : (Enc.cells x).length ≤ (k + 1) * Enc.size α + j := by rw [Enc.len, Nat.succ_mul]; omega
      have hsub : (k + 1) * Enc.size α + j - (Enc.cells x).length = k * Enc.size α + j := by rw [Enc.len, Nat.succ_mul]; omega
      rw [List.set_append_right _ _ hle, hsub, ih k (by simpa using hk) (by simpa using hy)]
      rfl
theorem boolInfo : (Tryd.prog.info? 4).map (fun i => (i.zero, i.size, i.bytes)) = some (some (.bool false), 1, 1) := by kernel_rfl
theorem made_bools (n : Nat) : (madeCells (Value.bool false).cells (n * 1)).toList = ((List.replicate n false).flatMap (Enc.cells (α := Bool))) := by
  have : ∀ n, (List.replicate n false).flatMap (Enc.cells (α := Bool)) = List.replicate n (.bool false) := by
    intro n
    induction n with
    | zero => rfl
    | succ n ih => rw [List.replicate_succ, List.flatMap_cons, ih, List.replicate_succ]; rfl
  rw [this]
  refine List.ext_getElem (by simp [madeCells]) (fun i h1 h2 => ?_)
  simp [madeCells, Value.cells, Nat.mod_one]
theorem flat_bool (xs : List Bool) (i : Nat) (hi : i < xs.length) (b : Bool) : (xs.flatMap (Enc.cells (α := Bool))).set i (.bool b) = (xs.set i b).flatMap Enc.cells := by
  have := flat_set b (.bool b) 0 (by decide) xs i hi rfl
  simpa [Enc.size] using this
theorem cell_bool {w : World} {base n g c : Nat} {fd : List Bool} (h : w.ownsRow base 4 1 (.slice (some ⟨g, 0, none⟩) n c) n (fd.flatMap Enc.cells)) {k : Nat} (hk : k < fd.length) (hl : fd.length = n) : w.cell? ⟨g, k, none⟩ = some (.bool fd[k]) := by
  rw [h.cellAt k (by omega), show (fd.flatMap (Enc.cells (α := Bool)))[k]? = _ from by simpa [Enc.size] using flat_at fd k hk 0 (by decide)]; rfl
end

section
/-- a result that lies in a box of the call's own, and a row behind it -/
theorem res_end {α : Type} [Enc α] {T : TypeId} {w w' : World} {r b : Nat} {v : Value} {ys : List α} (L0 : Le w w') (hr : w.heap.size ≤ r) (hb : r < b) (O : w'.ownsRow b T (Enc.size α) v ys.length (ys.flatMap Enc.cells))
    (hok : ∀ x ∈ ys, Enc.ok x) (u : Value) : Owd T w (w'.setCell ⟨r, 0, none⟩ u) v ys ∧ Le w (w'.setCell ⟨r, 0, none⟩ u) :=
  ⟨⟨own_mono (O.kept (grown_set w' r 0 u) (.inr (fun e => by have := (O.lt _ e).1; omega))) (by omega), hok⟩, L0.setCell hr u⟩

set_option maxHeartbeats 1000000 in
set_option maxRecDepth 100000 in
theorem sCopyHeap_any (H : Option Addr) (m c : Nat) (hs : List Flt) (w : World) (hH : Sl w H m c hs) (hm : m ≤ 2097152) :
    Calls Tryd.prog 51 #[.agg #[.slice H m c]] w fun e w' => ∃ v, e = .returned (.agg #[v]) ∧ Owd 49 w w' v hs ∧ Le w w' := by
  obtain ⟨i0, hi, hz0, hz1, hz2⟩ := info_parts infoCcFault
  have hlen := hH.len
  obtain ⟨c0, z0, c1, z1, L0⟩ := box2 w (.slice H m c) (.slice none 0 0) 28 28
  have S0 := hH.le L0
  have hokA := Lib.hid hH.ok
  have f1 : ((w.alloc (.cells #[.slice H m c] 28)).alloc (.cells #[.slice none 0 0] 28)).frozen? ⟨w.heap.size + 1, 0, none⟩ = false := World.frozen?_alloc_at _ _ _ _ (by simp)
  go_enter Tryd.func51, Tryd.ntmps51
  go_wp2_with (at_builtin; refine wpList_append_sl rfl (.tmp 3) (.tmp 5) 26 rfl (w.heap.size + 1 + 1) 49 i0 _ 40 Tryd.underlying26 hi hz0 hz1 hz2 rfl (.slice (some ⟨w.heap.size + 1 + 1, 0, none⟩) 0 0) 0 ([] : List Flt) rfl (own_empty (by simp) (by simp)) H m c hs rfl (S0.alloc _) (by unfold maxLen; omega) (by omega) (by simp) ?_; intro v1 w1 O1 hg1 _; simp only [Nat.zero_add, List.nil_append] at O1; have L1 := ((Le.refl _).alloc _).grown hg1 (fun k hk => by simp [Value.ownBlock] at hk; simp; omega); replace f1 := (L1.frozen z1).trans f1; replace c1 := (L1.cell z1).trans c1; replace L0 := L0.trans L1; clear L1 hg1; obtain ⟨A1, q1, rfl⟩ := own_form O1)
  have HE := Lib.hid (res_end (r := w.heap.size + 1) L0 (by omega) (Nat.lt_succ_self _) (by rw [hlen]; exact O1) hokA.out)
  have hend := fun u => cell_set_same (v := u) c1
  exact bodyPost_ret (v := .agg #[.slice A1 m q1]) (by simp [results, Tryd.results51, go_sem, hend]) rfl ⟨_, rfl, (HE.out _).1, (HE.out _).2⟩

set_option maxHeartbeats 1000000 in
set_option maxRecDepth 100000 in
theorem cloneFault_any (H : Option Addr) (m c : Nat) (hs : List Flt) (w : World) (hH : Sl w H m c hs) (hm : m ≤ 2097152) :
    Calls Tryd.prog 71 #[.slice H m c] w fun e w' => ∃ v, e = .returned v ∧ Owd 49 w w' v hs ∧ Le w w' := by
  obtain ⟨i0, hi, hz0, hz1, hz2⟩ := info_parts infoCcFault
  have hlen := hH.len
  have hokA := Lib.hid hH.ok
  have q22 : ∀ (w : World) (a : Option Addr) (n c n' c' : Nat), (binOp .eql 26 (.slice a n c) (.slice none n' c')).run Tryd.prog w = .ok (.bool a.isNone) w := fun w a n c n' c' => Lib.run_eql_slice_nil w _ _ a n c n' c' Tryd.underlying26
  cases H with
  | none =>
    have h0 : hs = [] := by
      rcases Nat.eq_zero_or_pos m with h0 | h0
      · exact List.eq_nil_of_length_eq_zero (by omega)
      · obtain ⟨b, off, h, _⟩ := hH.at_ h0; cases h
    subst h0
    go_enter Tryd.func71, Tryd.ntmps71
    go_wp2
    go_ret
    exact ⟨_, rfl, Owd.nil _ _ _, Le.refl _⟩
  | some ad =>
    go_enter Tryd.func71, Tryd.ntmps71
    go_wp2_with (at_builtin; refine wpList_append_sl rfl (.tmp 5) (.tmp 6) 26 rfl (w.heap.size) 49 i0 _ 40 Tryd.underlying26 hi hz0 hz1 hz2 rfl (.slice (some ⟨w.heap.size, 0, none⟩) 0 0) 0 ([] : List Flt) rfl (own_empty (by simp) (by simp)) (some ad) m c hs rfl (hH.alloc _) (by unfold maxLen; omega) (by omega) (by simp) ?_; intro v1 w1 O1 hg1 _; simp only [Nat.zero_add, List.nil_append] at O1; have L1 := ((Le.refl _).alloc _).grown hg1 (fun k hk => by simp [Value.ownBlock] at hk; omega); clear hg1)
    go_ret
    have hd : Owd 49 w w1 v1 hs := ⟨by rw [hlen]; exact O1, hokA.out⟩
    exact ⟨_, rfl, hd, L1⟩

set_option maxHeartbeats 1000000 in
set_option maxRecDepth 100000 in
theorem iCopyHeap_any (H : Option Addr) (m c : Nat) (hs : List Flt) (w : World) (hH : Sl w H m c hs) (hm : m ≤ 2097152) :
    Calls Tryd.prog 45 #[.agg #[.slice H m c]] w fun e w' => ∃ v, e = .returned (.agg #[v]) ∧ Owd 49 w w' v hs ∧ Le w w' := by
  obtain ⟨c0, z0, c1, z1, L0⟩ := box2 w (.slice H m c) (.slice none 0 0) 28 28
  have S0 := hH.le L0
  have hs0 : ((w.alloc (.cells #[.slice H m c] 28)).alloc (.cells #[.slice none 0 0] 28)).heap.size = w.heap.size + 1 + 1 := by simp
  have f1 : ((w.alloc (.cells #[.slice H m c] 28)).alloc (.cells #[.slice none 0 0] 28)).frozen? ⟨w.heap.size + 1, 0, none⟩ = false := World.frozen?_alloc_at _ _ _ _ (by simp)
  go_enter Tryd.func45, Tryd.ntmps45
  go_wp2_with fail
  generalize (w.alloc (.cells #[.slice H m c] 28)).alloc (.cells #[.slice none 0 0] 28) = W at *
  refine (cloneFault_any H m c hs _ S0 hm).mono ?_
  rintro e w1 ⟨v, rfl, D, hle⟩
  replace c1 := (hle.cell z1).trans c1
  replace f1 := (hle.frozen z1).trans f1
  replace z1 := Nat.lt_of_lt_of_le z1 hle.size
  replace L0 := L0.trans hle
  clear hle
  have O1 := D.row
  rw [hs0] at O1
  have HE := Lib.hid (res_end (r := w.heap.size + 1) L0 (by omega) (Nat.lt_succ_self _) O1 D.ok)
  obtain ⟨A1, q1, rfl⟩ := own_form D.row
  clear D O1
  have hend := fun u => cell_set_same (v := u) c1
  go_wp2
  exact bodyPost_ret (v := .agg #[.slice A1 hs.length q1]) (by simp [results, Tryd.results45, go_sem, hend]) rfl ⟨_, rfl, (HE.out _).1, (HE.out _).2⟩
end

section
/-- the heap with the fault f turned -/
def setF (hs : List Flt) (f : Int) (g : Flt → Flt) : List Flt := match hs[f.toNat]? with | some x => hs.set f.toNat (g x) | none => hs
theorem setF_at {hs : List Flt} {i : Nat} (h : i < hs.length) (g : Flt → Flt) : setF hs (i : Int) g = hs.set i (g hs[i]) := by
  unfold setF; rw [Int.toNat_natCast, List.getElem?_eq_getElem h]
theorem setF_len (hs : List Flt) (f : Int) (g : Flt → Flt) : (setF hs f g).length = hs.length := by
  unfold setF; split <;> simp
theorem setF_ok {hs : List Flt} {f : Int} {g : Flt → Flt} (h : ∀ x ∈ hs, Enc.ok x) (hg : ∀ x, Enc.ok x → Enc.ok (g x)) : ∀ x ∈ setF hs f g, Enc.ok x := by
  unfold setF
  split
  · next y hy =>
    intro x hx
    rcases List.mem_or_eq_of_mem_set hx with hx | rfl
    · exact h x hx
    · exact hg y (h y (List.mem_of_getElem? hy))
  · exact h
def cauF (c : Int) (x : Flt) : Flt := ⟨x.cls, x.code, c, x.ctx, true⟩
def hidF (b : Bool) (x : Flt) : Flt := ⟨x.cls, x.code, x.cause, x.ctx, b⟩
theorem cauF_ok {c : Int} (hc : -9223372036854775808 ≤ c ∧ c ≤ 9223372036854775807) (x : Flt) (h : Enc.ok x) : Enc.ok (cauF c x) := ⟨h.1, h.2.1, h.2.2.1, h.2.2.2.1, hc.1, hc.2, h.2.2.2.2.2.2.1, h.2.2.2.2.2.2.2⟩
theorem hidF_ok {b : Bool} (x : Flt) (h : Enc.ok x) : Enc.ok (hidF b x) := h
theorem flat_cau (hs : List Flt) (i : Nat) (h : i < hs.length) (c : Int) : ((hs.flatMap Enc.cells).set (i * 5 + 2) (.int .i64 c)).set (i * 5 + 4) (.bool true) = (setF hs (i : Int) (cauF c)).flatMap Enc.cells := by
  rw [setF_at h, flat_flt_cause hs i h c, flat_flt_hide (hs.set i _) i (by simpa using h) true]
  simp [cauF]
theorem flat_hid (hs : List Flt) (i : Nat) (h : i < hs.length) (b : Bool) : (hs.flatMap Enc.cells).set (i * 5 + 4) (.bool b) = (setF hs (i : Int) (hidF b)).flatMap Enc.cells := by
  rw [setF_at h, flat_flt_hide hs i h b]; rfl
def scOk (xs : List Cls) (hs : List Flt) (f c : Int) : Bool := goodF xs hs f && vl hs.length f c
def scX (xs : List Cls) (hs : List Flt) (f c : Int) : List Flt := cond (scOk xs hs f c) (setF hs f (cauF c)) []
theorem scX_of {xs : List Cls} {hs : List Flt} {f c : Int} {t : Bool} (h : scOk xs hs f c = t) : scX xs hs f c = cond t (setF hs f (cauF c)) [] := by unfold scX; rw [h]
def hcX (xs : List Cls) (hs : List Flt) (f : Int) (b : Bool) : List Flt := cond (goodF xs hs f) (setF hs f (hidF b)) []
theorem hcX_of {xs : List Cls} {hs : List Flt} {f : Int} {b t : Bool} (h : goodF xs hs f = t) : hcX xs hs f b = cond t (setF hs f (hidF b)) [] := by unfold hcX; rw [h]
theorem goodF_few {xs : List Cls} {hs : List Flt} {f : Int} (h : goodF xs hs f = true) : hs.length ≤ 24 := by
  unfold goodF at h; rw [Bool.and_eq_true] at h; exact (goodH_of h.1).few
theorem scX_len (xs : List Cls) (hs : List Flt) (f c : Int) : (scX xs hs f c).length ≤ 1048576 := by
  cases h : scOk xs hs f c
  · rw [scX_of h]; simp
  · rw [scX_of h]
    unfold scOk at h; rw [Bool.and_eq_true] at h
    have := goodF_few h.1
    show (setF hs f (cauF c)).length ≤ _
    rw [setF_len]; omega
theorem hcX_len (xs : List Cls) (hs : List Flt) (f : Int) (b : Bool) : (hcX xs hs f b).length ≤ 1048576 := by
  cases h : goodF xs hs f
  · rw [hcX_of h]; simp
  · rw [hcX_of h]
    have := goodF_few h
    show (setF hs f (hidF b)).length ≤ _
    rw [setF_len]; omega
theorem goodF_at {xs : List Cls} {hs : List Flt} {f : Int} (h : goodF xs hs f = true) : ∃ i : Nat, f = i ∧ i < hs.length := by
  have hf : hasF hs f = true := by unfold goodF at h; simp at h; exact h.2
  have hf2 := hasF_iff.1 hf
  obtain ⟨i, rfl⟩ := Int.eq_ofNat_of_zero_le hf2.1
  exact ⟨i, rfl, by omega⟩
/-- the copy is there: a row with faults is a block -/
theorem Owd.blk {T : TypeId} {w0 w : World} {v : Value} {xs : List Flt} (h : Owd T w0 w v xs) (hn : 0 < xs.length) : ∃ g q, v = .slice (some ⟨g, 0, none⟩) xs.length q ∧ w.ownsRow w0.heap.size T 5 (.slice (some ⟨g, 0, none⟩) xs.length q) xs.length (xs.flatMap Enc.cells) ∧ w0.heap.size ≤ g ∧ g < w.heap.size := by
  have hr := h.row
  rcases hr.2 with ⟨_, h0⟩ | ⟨g, q, cur, rfl, _⟩
  · omega
  · exact ⟨g, q, rfl, hr, hr.lt g rfl⟩

set_option maxHeartbeats 4000000 in
set_option maxRecDepth 100000 in
theorem iHideContext_any (A H : Option Addr) (n cap m k : Nat) (xs : List Cls) (hs : List Flt) (f : Int) (b : Bool) (w : World) (hR : Sl w A n cap xs) (hH : Sl w H m k hs) (hm : m ≤ 1048576) :
    Calls Tryd.prog 19 #[.agg #[.slice A n cap], .agg #[.slice H m k], .int .i64 f, .bool b] w fun e w' => ∃ v, e = .returned (.tuple #[.agg #[v], .bool (goodF xs hs f)]) ∧ Owd 49 w w' v (hcX xs hs f b) ∧ Le w w' := by
  obtain rfl := hH.len
  obtain ⟨c0, z0, c1, z1, c2, z2, L0⟩ := box3 w (.slice A n cap) (.slice H hs.length k) (.slice none 0 0) 25 28 28
  have f2 : (((w.alloc (.cells #[.slice A n cap] 25)).alloc (.cells #[.slice H hs.length k] 28)).alloc (.cells #[.slice none 0 0] 28)).frozen? ⟨w.heap.size + 1 + 1, 0, none⟩ = false := World.frozen?_alloc_at _ _ _ _ (by simp)
  have S0 := hR.le L0
  have S1 := hH.le L0
  have HK := Lib.hid hH.ok
  have hs0 : w.heap.size ≤ (((w.alloc (.cells #[.slice A n cap] 25)).alloc (.cells #[.slice H hs.length k] 28)).alloc (.cells #[.slice none 0 0] 28)).heap.size := L0.size
  cases h1 : goodF xs hs f
  · have hX := h1
    have HF := Lib.hid (hcX_of (b := b) hX)
    have HX := Lib.hid hX; clear hX
    go_enter Tryd.func19, Tryd.ntmps19
    go_wp2_with fail
    generalize ((w.alloc (.cells #[.slice A n cap] 25)).alloc (.cells #[.slice H hs.length k] 28)).alloc (.cells #[.slice none 0 0] 28) = W at *
    have zW := z2
    refine (iHasFault_any A H n cap hs.length k xs hs _ W S0 S1 (by omega)).mono ?_
    rintro e w2 ⟨rfl, hle⟩
    rw [h1]
    replace c0 := (hle.cell z0).trans c0
    replace c1 := (hle.cell z1).trans c1
    replace c2 := (hle.cell z2).trans c2
    replace f2 := (hle.frozen z2).trans f2
    replace z0 := Nat.lt_of_lt_of_le z0 hle.size
    replace z1 := Nat.lt_of_lt_of_le z1 hle.size
    replace z2 := Nat.lt_of_lt_of_le z2 hle.size
    replace L0 := L0.trans hle
    replace S0 := S0.le hle
    replace S1 := S1.le hle
    have hs2 := hle.size
    clear hle h1
    have hend := fun u => cell_set_same (v := u) c2
    go_wp2
    exact bodyPost_ret (v := .tuple #[.agg #[.slice none 0 0], .bool false]) (by simp [results, Tryd.results19, go_sem, hend]) rfl ⟨_, by first | rfl | rw [HX.out], by rw [HF.out]; exact Owd.nil _ _ _, L0.setCell (by omega) _⟩
  · obtain ⟨i, rfl, hi⟩ := goodF_at h1
    have hfew := goodF_few h1
    have him : (i : Int) < (hs.length : Int) := by omega
    have hX := h1
    have HF := Lib.hid (hcX_of (b := b) hX)
    have HX := Lib.hid hX; clear hX
    go_enter Tryd.func19, Tryd.ntmps19
    go_wp2_with fail
    generalize ((w.alloc (.cells #[.slice A n cap] 25)).alloc (.cells #[.slice H hs.length k] 28)).alloc (.cells #[.slice none 0 0] 28) = W at *
    have zW := z2
    refine (iHasFault_any A H n cap hs.length k xs hs _ W S0 S1 (by omega)).mono ?_
    rintro e w2 ⟨rfl, hle⟩
    rw [h1]
    replace c0 := (hle.cell z0).trans c0
    replace c1 := (hle.cell z1).trans c1
    replace c2 := (hle.cell z2).trans c2
    replace f2 := (hle.frozen z2).trans f2
    replace z0 := Nat.lt_of_lt_of_le z0 hle.size
    replace z1 := Nat.lt_of_lt_of_le z1 hle.size
    replace z2 := Nat.lt_of_lt_of_le z2 hle.size
    replace L0 := L0.trans hle
    replace S0 := S0.le hle
    replace S1 := S1.le hle
    have hs2 := hle.size
    clear hle h1
    have HE0 : Hid (∀ x ∈ setF hs i (hidF b), Enc.ok x) := setF_ok HK.out hidF_ok
    go_wp2_with fail
    refine (iCopyHeap_any H hs.length k hs _ S1 (by omega)).mono ?_
    rintro e w4 ⟨v, rfl, D, hle⟩
    obtain ⟨g, q, rfl, O, hg0, hg1⟩ := D.blk (by omega)
    have hs4 := hle.size
    replace c0 := (hle.cell z0).trans c0
    replace c1 := (hle.cell z1).trans c1
    replace c2 := (hle.cell z2).trans c2
    replace f2 := (hle.frozen z2).trans f2
    replace z0 := Nat.lt_of_lt_of_le z0 hle.size
    replace z1 := Nat.lt_of_lt_of_le z1 hle.size
    replace z2 := Nat.lt_of_lt_of_le z2 hle.size
    replace L0 := L0.trans hle
    clear hle D S0 S1
    have cB : (w4.alloc (.cells #[.slice (some ⟨g, 0, none⟩) hs.length q] 28)).cell? ⟨w4.heap.size, 0, none⟩ = some (.slice (some ⟨g, 0, none⟩) hs.length q) := by rw [World.cell?_alloc_at _ _ _ _ rfl]; rfl
    have zB : w4.heap.size < (w4.alloc (.cells #[.slice (some ⟨g, 0, none⟩) hs.length q] 28)).heap.size := by simp
    have LB := Le.new w4 (.cells #[.slice (some ⟨g, 0, none⟩) hs.length q] 28)
    replace c0 := (LB.cell z0).trans c0
    replace c1 := (LB.cell z1).trans c1
    replace c2 := (LB.cell z2).trans c2
    replace f2 := (LB.frozen z2).trans f2
    replace z0 := Nat.lt_of_lt_of_le z0 LB.size
    replace z1 := Nat.lt_of_lt_of_le z1 LB.size
    replace z2 := Nat.lt_of_lt_of_le z2 LB.size
    replace L0 := L0.trans LB
    replace O := own_le O LB
    clear LB
    generalize hW5 : w4.alloc (.cells #[.slice (some ⟨g, 0, none⟩) hs.length q] 28) = W5 at *
    have hgW : g < W5.heap.size := by omega
    have q2 := O.cellAt (i * 5 + 2) (by omega)
    have q4 := O.cellAt (i * 5 + 4) (by omega)
    rw [show (hs.flatMap (Enc.cells (α := Flt)))[i * 5 + 2]? = _ from (flat_at hs i hi 2 (by decide))] at q2
    rw [show (hs.flatMap (Enc.cells (α := Flt)))[i * 5 + 4]? = _ from (flat_at hs i hi 4 (by decide))] at q4
    simp only [Enc.cells, List.getElem?_cons_succ, List.getElem?_cons_zero] at q2 q4
    have e2 := O.frozenAt (i * 5 + 2)
    have e4 := O.frozenAt (i * 5 + 4)
    have O5 := (O.stored (i * 5 + 4) (.bool b)).1
    rw [flat_hid hs i hi b] at O5
    have L5 : Le w (W5.setCell ⟨g, i * 5 + 4, none⟩ (.bool b)) := by first | exact (L0.setCell (by omega) _).setCell (by omega) _ | exact L0.setCell (by omega) _
    have c5 : (W5.setCell ⟨g, i * 5 + 4, none⟩ (.bool b)).cell? ⟨w.heap.size + 1 + 1, 0, none⟩ = some (.slice none 0 0) := by first | exact ((cell_set_other (.inl (by omega))).trans (cell_set_other (.inl (by omega)))).trans c2 | exact (cell_set_other (.inl (by omega))).trans c2
    have f5 : (W5.setCell ⟨g, i * 5 + 4, none⟩ (.bool b)).frozen? ⟨w.heap.size + 1 + 1, 0, none⟩ = false := by simpa using f2
    have d5 : (W5.setCell ⟨g, i * 5 + 4, none⟩ (.bool b)).cell? ⟨w4.heap.size, 0, none⟩ = some (.slice (some ⟨g, 0, none⟩) hs.length q) := by first | exact ((cell_set_other (.inl (by omega))).trans (cell_set_other (.inl (by omega)))).trans cB | exact (cell_set_other (.inl (by omega))).trans cB
    have hend := fun u => cell_set_same (v := u) c5
    have HE := Lib.hid (res_end (r := w.heap.size + 1 + 1) L5 (by omega) (show w.heap.size + 1 + 1 < w.heap.size + 1 + 1 + 1 from Nat.lt_succ_self _) (own_mono (base := _) (by rw [setF_len]; exact O5) (by omega)) HE0.out)
    clear HE0
    subst hW5
    clear hg1 hgW O O5
    go_wp2
    exact bodyPost_ret (v := .tuple #[.agg #[.slice (some ⟨g, 0, none⟩) hs.length q], .bool true]) (by simp [results, Tryd.results19, go_sem, hend]) rfl ⟨_, by first | rfl | rw [HX.out], by rw [HF.out]; exact (HE.out _).1, (HE.out _).2⟩
end

section
open Go.RowKit Go.Extern.Stop Go.Stop Go.Extern

/-- the variable that errors.As reads -/
def hndl : Value := .iface 121 (.agg #[.pointer (some ⟨4, 89, none⟩)])
def GotErr (w : World) : Prop := w.cell? ⟨0, 0, none⟩ = some hndl
theorem GotErr.pos {w : World} (h : GotErr w) : 0 < w.heap.size := by
  rcases Nat.eq_zero_or_pos w.heap.size with h0 | h0
  · simp [GotErr, World.cell?, h0] at h
  · exact h0
theorem GotErr.le {w w' : World} (h : GotErr w) (hl : Le w w') : GotErr w' := (hl.cell h.pos).trans h

theorem as_nil (t : Value) (w : World) : Calls Tryd.prog 67 #[.nilIface, t] w fun e w' => e = .returned (.bool false) ∧ w' = w := by
  go_enter Tryd.func67, Tryd.ntmps67
  go_wp2
  go_ret
  exact ⟨rfl, rfl⟩

/- what the entries of internal/reflectlite answer at this program's types -/
theorem rfl_unpackPF (t : Addr) (w : World) : (ReflectliteValue.unpack (.iface 91 (.pointer (some t)))).run Tryd.prog w = .ok (.agg #[.pointer (some ⟨4, 91, none⟩), .pointer (some ⟨w.heap.size, 0, none⟩), .int .u64 150]) (w.alloc (.cells #[.pointer (some t)] 91)) := by kernel_rfl
theorem rfl_typePF (a : Addr) (w : World) : (ReflectliteValue.methodAny (ReflectliteValue.valueError "reflectlite.Value.Type" 0) (fun t _ _ _ => ReflectliteType.toType t) #[.agg #[.pointer (some ⟨4, 91, none⟩), .pointer (some a), .int .u64 150]]).run Tryd.prog w = .ok (.iface 121 (.agg #[.pointer (some ⟨4, 91, none⟩)])) w := by kernel_rfl
theorem rfl_mKind (h : Value) (w : World) : (Go.method 281 121 (.agg #[h]) "Kind").run Tryd.prog w = .ok (126, h) w := by kernel_rfl
theorem rfl_kindPF (w : World) : ((ReflectliteType.abiMethod fun t => (fun a : Nat => Value.int IntKind.u8 (a : Int)) <$> Rtype.kind t) #[.pointer (some ⟨4, 91, none⟩)]).run Tryd.prog w = .ok (.int .u8 22) w := by kernel_rfl
theorem rfl_kindF (w : World) : ((ReflectliteType.abiMethod fun t => (fun a : Nat => Value.int IntKind.u8 (a : Int)) <$> Rtype.kind t) #[.pointer (some ⟨4, 58, none⟩)]).run Tryd.prog w = .ok (.int .u8 22) w := by kernel_rfl
theorem rfl_meth (z : Sem Value) (f : TypeId → Addr → Nat → Nat → Sem Value) (v : Value) : ReflectliteValue.method z f #[v] = (do match ← ReflectliteValue.parts v with | none => z | some (t, a, fl) => f t a fl (fl % 32)) := rfl
theorem rfl_partsPF (a : Addr) (w : World) : (ReflectliteValue.parts (.agg #[.pointer (some ⟨4, 91, none⟩), .pointer (some a), .int .u64 150])).run Tryd.prog w = .ok (some (91, a, 150)) w := by kernel_rfl
theorem rfl_isNil (a p : Addr) (W : World) (ha : W.cell? a = some (.pointer (some p))) :
    (ReflectliteValue.method (ReflectliteValue.valueError "reflectlite.Value.IsNil" 0) ReflectliteValue.isNil #[.agg #[.pointer (some ⟨4, 91, none⟩), .pointer (some a), .int .u64 150]]).run Tryd.prog W = .ok (.bool false) W := by
  rw [rfl_meth]
  simp only [Sem.run_bind, rfl_partsPF, Result.andThen]
  simp [ReflectliteValue.isNil, loadVar, isAgg, underlying, Tryd.underlying91, ha, Result.andThen]
theorem rfl_mElem (h : Value) (w : World) : (Go.method 281 121 (.agg #[h]) "Elem").run Tryd.prog w = .ok (136, .agg #[h]) w := by kernel_rfl
theorem rfl_mImpl (h : Value) (w : World) : (Go.method 281 121 (.agg #[h]) "Implements").run Tryd.prog w = .ok (137, .agg #[h]) w := by kernel_rfl
theorem rfl_mAssign (h : Value) (w : World) : (Go.method 281 121 (.agg #[h]) "AssignableTo").run Tryd.prog w = .ok (134, .agg #[h]) w := by kernel_rfl
theorem rfl_elemPF (w : World) : (ReflectliteType.method ReflectliteType.elem #[.agg #[.pointer (some ⟨4, 91, none⟩)]]).run Tryd.prog w = .ok (.iface 121 (.agg #[.pointer (some ⟨4, 58, none⟩)])) w := by kernel_rfl
theorem rfl_impl (w : World) : (ReflectliteType.relation "Implements" ReflectliteType.implements_ #[.agg #[.pointer (some ⟨4, 58, none⟩)], .iface 121 (.agg #[.pointer (some ⟨4, 89, none⟩)])]).run Tryd.prog w = .ok (.bool true) w := by kernel_rfl
theorem rfl_typeOf (v : Value) (w : World) : (ReflectliteType.typeOf #[.iface 58 v]).run Tryd.prog w = .ok (.iface 121 (.agg #[.pointer (some ⟨4, 58, none⟩)])) w := by kernel_rfl
theorem rfl_assign (w : World) : (ReflectliteType.relation "AssignableTo" ReflectliteType.assignableTo #[.agg #[.pointer (some ⟨4, 58, none⟩)], .iface 121 (.agg #[.pointer (some ⟨4, 58, none⟩)])]).run Tryd.prog w = .ok (.bool true) w := by kernel_rfl
theorem rfl_unpackF (e : Addr) (w : World) : (ReflectliteValue.unpack (.iface 58 (.pointer (some e)))).run Tryd.prog w = .ok (.agg #[.pointer (some ⟨4, 58, none⟩), .pointer (some ⟨w.heap.size, 0, none⟩), .int .u64 150]) (w.alloc (.cells #[.pointer (some e)] 58)) := by kernel_rfl
theorem rfl_elemOf (w : World) : (Rtype.elem? 91).run Tryd.prog w = .ok (some 58) w := by kernel_rfl
theorem rfl_mk (p : Addr) (w : World) : (ReflectliteValue.mk 58 p ReflectliteValue.flagAddr).run Tryd.prog w = .ok (.agg #[.pointer (some ⟨4, 58, none⟩), .pointer (some p), .int .u64 406]) w := by kernel_rfl
theorem rfl_elemV (a p : Addr) (W : World) (ha : W.cell? a = some (.pointer (some p))) :
    (ReflectliteValue.method (ReflectliteValue.valueError "reflectlite.Value.Elem" 0) ReflectliteValue.elem #[.agg #[.pointer (some ⟨4, 91, none⟩), .pointer (some a), .int .u64 150]]).run Tryd.prog W = .ok (.agg #[.pointer (some ⟨4, 58, none⟩), .pointer (some p), .int .u64 406]) W := by
  rw [rfl_meth]
  simp only [Sem.run_bind, rfl_partsPF, Result.andThen]
  simp [ReflectliteValue.elem, loadVar, isAgg, underlying, Tryd.underlying91, ha, Result.andThen, rfl_elemOf, rfl_mk]
theorem rfl_setdef (v x : Value) : ReflectliteValue.set #[v, x] = (do
    let (some (dst, a, fl), some (src, b, _)) := (← ReflectliteValue.parts v, ← ReflectliteValue.parts x)
      | unsupported (.noEntry "extern/(internal/reflectlite.Value).Set.zeroValue")
    if fl / ReflectliteValue.flagAddr % 2 == 0 then unsupported (.noEntry "extern/(internal/reflectlite.Value).Set.unaddressable")
    let val ← loadVar src b
    if ← Rtype.directlyAssignable dst src then storeVar dst a val
    else if ← Rtype.implements dst src then
      if (← Rtype.kind src) == 20 then
        match val with
        | .nilIface => unsupported (.noEntry "extern/reflectlite: a nil value of one interface type handed on as a value of another")
        | _ => storeVar dst a val
      else storeVar dst a (.iface src val)
    else panicString ("reflectlite.Set: value of type " ++ (← Rtype.spelt src) ++ " is not assignable to type " ++ (← Rtype.spelt dst))
    pure (.tuple #[])) := rfl
theorem rfl_partsA (a : Addr) (w : World) : (ReflectliteValue.parts (.agg #[.pointer (some ⟨4, 58, none⟩), .pointer (some a), .int .u64 406])).run Tryd.prog w = .ok (some (58, a, 406)) w := by kernel_rfl
theorem rfl_partsB (a : Addr) (w : World) : (ReflectliteValue.parts (.agg #[.pointer (some ⟨4, 58, none⟩), .pointer (some a), .int .u64 150])).run Tryd.prog w = .ok (some (58, a, 150)) w := by kernel_rfl
theorem rfl_direct (w : World) : (Rtype.directlyAssignable 58 58).run Tryd.prog w = .ok true w := by kernel_rfl
theorem rfl_size (w : World) : (sizeOf 58).run Tryd.prog w = .ok 1 w := by kernel_rfl
theorem rfl_set (ta b e : Addr) (old : Value) (W : World) (hb : W.cell? b = some (.pointer (some e))) (ht : W.cell? ta = some old) (hf : W.frozen? ta = false) :
    (ReflectliteValue.set #[.agg #[.pointer (some ⟨4, 58, none⟩), .pointer (some ta), .int .u64 406], .agg #[.pointer (some ⟨4, 58, none⟩), .pointer (some b), .int .u64 150]]).run Tryd.prog W = .ok (.tuple #[]) (W.setCell ta (.pointer (some e))) := by
  rw [rfl_setdef]
  simp only [Sem.run_bind, rfl_partsA, rfl_partsB, Result.andThen]
  simp [ReflectliteValue.flagAddr, loadVar, isAgg, underlying, Tryd.underlying58, hb, Result.andThen, rfl_direct, storeVar, Value.cells, storeCells, Addr.add]
  rw [run_store Tryd.prog W ta _ _ (by rfl)]
  simp [ht, hf]

def AsOut (t : Nat) (p : Addr) (w : World) (e : Ending) (w' : World) : Prop := e = .returned (.bool true) ∧ ∃ W, Le w W ∧ w' = W.setCell ⟨t, 0, none⟩ (.pointer (some p))
set_option maxHeartbeats 8000000 in
set_option maxRecDepth 100000 in
theorem as_hit (e : Addr) (t : Nat) (old : Value) (w : World) (hg0 : GotErr w) (ht0 : w.cell? ⟨t, 0, none⟩ = some old) (htl : t < w.heap.size) (hf0 : w.frozen? ⟨t, 0, none⟩ = false) :
    Calls Tryd.prog 67 #[.iface 58 (.pointer (some e)), .iface 91 (.pointer (some ⟨t, 0, none⟩))] w (AsOut t e w) := by
  have x1 := @run_callFunc_extern Tryd.prog 89 _ (fun args => ReflectliteValue.unpack (args.getD 0 (.tuple #[]))) Tryd.func89 (by kernel_rfl) (by kernel_rfl) (by kernel_rfl) (by kernel_rfl)
  have x2 := @run_callFunc_extern Tryd.prog 90 _ (ReflectliteValue.methodAny (ReflectliteValue.valueError "reflectlite.Value.Type" 0) (fun t _ _ _ => ReflectliteType.toType t)) Tryd.func90 (by kernel_rfl) (by kernel_rfl) (by kernel_rfl) (by kernel_rfl)
  have x3 := @run_callFunc_extern Tryd.prog 91 _ (ReflectliteValue.method (ReflectliteValue.valueError "reflectlite.Value.IsNil" 0) ReflectliteValue.isNil) Tryd.func91 (by kernel_rfl) (by kernel_rfl) (by kernel_rfl) (by kernel_rfl)
  have x4 := @run_callFunc_extern Tryd.prog 126 _ (ReflectliteType.abiMethod fun t => do pure (.int .u8 (← Rtype.kind t))) Tryd.func126 (by kernel_rfl) (by kernel_rfl) (by kernel_rfl) (by kernel_rfl)
  have x5 := @run_callFunc_extern Tryd.prog 136 _ (ReflectliteType.method ReflectliteType.elem) Tryd.func136 (by kernel_rfl) (by kernel_rfl) (by kernel_rfl) (by kernel_rfl)
  have x6 := @run_callFunc_extern Tryd.prog 137 _ (ReflectliteType.relation "Implements" ReflectliteType.implements_) Tryd.func137 (by kernel_rfl) (by kernel_rfl) (by kernel_rfl) (by kernel_rfl)
  have x7 := @run_callFunc_extern Tryd.prog 85 _ ReflectliteType.typeOf Tryd.func85 (by kernel_rfl) (by kernel_rfl) (by kernel_rfl) (by kernel_rfl)
  have x8 := @run_callFunc_extern Tryd.prog 134 _ (ReflectliteType.relation "AssignableTo" ReflectliteType.assignableTo) Tryd.func134 (by kernel_rfl) (by kernel_rfl) (by kernel_rfl) (by kernel_rfl)
  have x9 := @run_callFunc_extern Tryd.prog 99 _ (ReflectliteValue.method (ReflectliteValue.valueError "reflectlite.Value.Elem" 0) ReflectliteValue.elem) Tryd.func99 (by kernel_rfl) (by kernel_rfl) (by kernel_rfl) (by kernel_rfl)
  have xa := @run_callFunc_extern Tryd.prog 100 _ ReflectliteValue.set Tryd.func100 (by kernel_rfl) (by kernel_rfl) (by kernel_rfl) (by kernel_rfl)
  have y1 := rfl_unpackPF
  have y2 := rfl_typePF
  have y3 := rfl_mKind
  have y4 := rfl_kindPF
  have y5 := rfl_kindF
  have y6 := rfl_mElem
  have y7 := rfl_mImpl
  have y8 := rfl_mAssign
  have y9 := rfl_elemPF
  have ya := rfl_impl
  have yb := rfl_typeOf
  have yc := rfl_assign
  have yd := rfl_unpackF
  have n3 := rfl_isNil ⟨w.heap.size, 0, none⟩ ⟨t, 0, none⟩ ((w.alloc (.cells #[.pointer (some ⟨t, 0, none⟩)] 91)).alloc (.cells #[.pointer (some ⟨4, 91, none⟩), .pointer (some ⟨w.heap.size, 0, none⟩), .int .u64 150] 111)) (by simp)
  have hlt := hg0.pos
  have hg2 : ((w.alloc (.cells #[.pointer (some ⟨t, 0, none⟩)] 91)).alloc (.cells #[.pointer (some ⟨4, 91, none⟩), .pointer (some ⟨w.heap.size, 0, none⟩), .int .u64 150] 111)).cell? ⟨0, 0, none⟩ = some (.iface 121 (.agg #[.pointer (some ⟨4, 89, none⟩)])) := by
    rw [World.cell?_alloc_lt _ _ ⟨0, 0, none⟩ (by simp), World.cell?_alloc_lt _ _ ⟨0, 0, none⟩ hlt]; exact hg0
  have el := rfl_elemV ⟨w.heap.size, 0, none⟩ ⟨t, 0, none⟩ (((w.alloc (.cells #[.pointer (some ⟨t, 0, none⟩)] 91)).alloc (.cells #[.pointer (some ⟨4, 91, none⟩), .pointer (some ⟨w.heap.size, 0, none⟩), .int .u64 150] 111)).alloc (.cells #[.pointer (some ⟨4, 91, none⟩), .pointer (some ⟨w.heap.size, 0, none⟩), .int .u64 150] 111)) (by rw [World.cell?_alloc_lt _ _ ⟨w.heap.size, 0, none⟩ (by simp; omega)]; simp)
  have st := rfl_set ⟨t, 0, none⟩ ⟨w.heap.size + 1 + 1 + 1, 0, none⟩ e old ((((w.alloc (.cells #[.pointer (some ⟨t, 0, none⟩)] 91)).alloc (.cells #[.pointer (some ⟨4, 91, none⟩), .pointer (some ⟨w.heap.size, 0, none⟩), .int .u64 150] 111)).alloc (.cells #[.pointer (some ⟨4, 91, none⟩), .pointer (some ⟨w.heap.size, 0, none⟩), .int .u64 150] 111)).alloc (.cells #[.pointer (some e)] 58))
    (by rw [World.cell?_alloc_at _ _ _ _ (by simp)]; rfl)
    (by rw [World.cell?_alloc_lt _ _ ⟨t, 0, none⟩ (by simp; omega), World.cell?_alloc_lt _ _ ⟨t, 0, none⟩ (by simp; omega), World.cell?_alloc_lt _ _ ⟨t, 0, none⟩ (by simp; omega), World.cell?_alloc_lt _ _ ⟨t, 0, none⟩ htl]; exact ht0)
    (by rw [World.frozen?_alloc_old _ _ ⟨t, 0, none⟩ (by simp; omega), World.frozen?_alloc_old _ _ ⟨t, 0, none⟩ (by simp; omega), World.frozen?_alloc_old _ _ ⟨t, 0, none⟩ (by simp; omega), World.frozen?_alloc_old _ _ ⟨t, 0, none⟩ (Nat.ne_of_lt htl)]; exact hf0)
  have HL : Hid (Le w ((((w.alloc (.cells #[.pointer (some ⟨t, 0, none⟩)] 91)).alloc (.cells #[.pointer (some ⟨4, 91, none⟩), .pointer (some ⟨w.heap.size, 0, none⟩), .int .u64 150] 111)).alloc (.cells #[.pointer (some ⟨4, 91, none⟩), .pointer (some ⟨w.heap.size, 0, none⟩), .int .u64 150] 111)).alloc (.cells #[.pointer (some e)] 58))) := (((Le.new w _).alloc _).alloc _).alloc _
  go_enter Tryd.func67, Tryd.ntmps67
  go_wp2
  refine wp_loop_rounds 1 ?_
  rw [rounds_succ]
  go_wp2
  go_ret
  exact ⟨rfl, _, HL.out, rfl⟩
end
end Go.Proofs.YthcolcmgfhkbeaaDoor
