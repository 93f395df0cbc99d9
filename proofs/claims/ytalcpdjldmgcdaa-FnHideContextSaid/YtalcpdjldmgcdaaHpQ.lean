/- SetCause and HideContext of the model and of the program -/
import Derived.Test.YtalcpdjldmgcdaaHpJ
import Derived.Test.YtalcpdjldmgcdaaHpF
namespace Go.Proofs.Ytalcpdjldmgcdaa
open Go.RowKit

/-- the heap with the fault f turned -/
def setF (hs : List Flt) (f : Int) (g : Flt → Flt) : List Flt := match hs[f.toNat]? with | some x => hs.set f.toNat (g x) | none => hs
theorem setF_at {hs : List Flt} {i : Nat} (h : i < hs.length) (g : Flt → Flt) : setF hs (i : Int) g = hs.set i (g hs[i]) := by
  unfold setF; rw [Int.toNat_natCast, List.getElem?_eq_getElem h]
theorem setF_len (hs : List Flt) (f : Int) (g : Flt → Flt) : (setF hs f g).length = hs.length := by
  unfold setF; split <;> simp
theorem setF_ok {hs : List Flt} {f : Int} {g : Flt → Flt} (h : ∀ x ∈ hs, Enc.ok x) (hg : ∀ x, Enc.ok x → Enc.ok (g x)) : ∀ x ∈ setF hs f g, Enc.ok x := by
  unfold setF
  split
  · next y hy =>
    intro x hx
    rcases List.mem_or_eq_of_mem_set hx with hx | rfl
    · exact h x hx
    · exact hg y (h y (List.mem_of_getElem? hy))
  · exact h
def cauF (c : Int) (x : Flt) : Flt := ⟨x.cls, x.code, c, x.ctx, true⟩
def hidF (b : Bool) (x : Flt) : Flt := ⟨x.cls, x.code, x.cause, x.ctx, b⟩
theorem cauF_ok {c : Int} (hc : -9223372036854775808 ≤ c ∧ c ≤ 9223372036854775807) (x : Flt) (h : Enc.ok x) : Enc.ok (cauF c x) := ⟨h.1, h.2.1, h.2.2.1, h.2.2.2.1, hc.1, hc.2, h.2.2.2.2.2.2.1, h.2.2.2.2.2.2.2⟩
theorem hidF_ok {b : Bool} (x : Flt) (h : Enc.ok x) : Enc.ok (hidF b x) := h
theorem flat_cau (hs : List Flt) (i : Nat) (h : i < hs.length) (c : Int) : ((hs.flatMap Enc.cells).set (i * 5 + 2) (.int .i64 c)).set (i * 5 + 4) (.bool true) = (setF hs (i : Int) (cauF c)).flatMap Enc.cells := by
  rw [setF_at h, flat_flt_cause hs i h c, flat_flt_hide (hs.set i _) i (by simpa using h) true]
  simp [cauF]
theorem flat_hid (hs : List Flt) (i : Nat) (h : i < hs.length) (b : Bool) : (hs.flatMap Enc.cells).set (i * 5 + 4) (.bool b) = (setF hs (i : Int) (hidF b)).flatMap Enc.cells := by
  rw [setF_at h, flat_flt_hide hs i h b]; rfl
def scOk (xs : List Cls) (hs : List Flt) (f c : Int) : Bool := goodF xs hs f && vl hs.length f c
def scX (xs : List Cls) (hs : List Flt) (f c : Int) : List Flt := cond (scOk xs hs f c) (setF hs f (cauF c)) []
theorem scX_of {xs : List Cls} {hs : List Flt} {f c : Int} {t : Bool} (h : scOk xs hs f c = t) : scX xs hs f c = cond t (setF hs f (cauF c)) [] := by unfold scX; rw [h]
def hcX (xs : List Cls) (hs : List Flt) (f : Int) (b : Bool) : List Flt := cond (goodF xs hs f) (setF hs f (hidF b)) []
theorem hcX_of {xs : List Cls} {hs : List Flt} {f : Int} {b t : Bool} (h : goodF xs hs f = t) : hcX xs hs f b = cond t (setF hs f (hidF b)) [] := by unfold hcX; rw [h]
theorem goodF_few {xs : List Cls} {hs : List Flt} {f : Int} (h : goodF xs hs f = true) : hs.length ≤ 24 := by
  unfold goodF at h; rw [Bool.and_eq_true] at h; exact (goodH_of h.1).few
theorem scX_len (xs : List Cls) (hs : List Flt) (f c : Int) : (scX xs hs f c).length ≤ 1048576 := by
  cases h : scOk xs hs f c
  · rw [scX_of h]; simp
  · rw [scX_of h]
    unfold scOk at h; rw [Bool.and_eq_true] at h
    have := goodF_few h.1
    show (setF hs f (cauF c)).length ≤ _
    rw [setF_len]; omega
theorem hcX_len (xs : List Cls) (hs : List Flt) (f : Int) (b : Bool) : (hcX xs hs f b).length ≤ 1048576 := by
  cases h : goodF xs hs f
  · rw [hcX_of h]; simp
  · rw [hcX_of h]
    have := goodF_few h
    show (setF hs f (hidF b)).length ≤ _
    rw [setF_len]; omega
theorem goodF_at {xs : List Cls} {hs : List Flt} {f : Int} (h : goodF xs hs f = true) : ∃ i : Nat, f = i ∧ i < hs.length := by
  have hf : hasF hs f = true := by unfold goodF at h; simp at h; exact h.2
  have hf2 := hasF_iff.1 hf
  obtain ⟨i, rfl⟩ := Int.eq_ofNat_of_zero_le hf2.1
  exact ⟨i, rfl, by omega⟩
/-- the copy is there: a row with faults is a block -/
theorem Owd.blk {T : TypeId} {w0 w : World} {v : Value} {xs : List Flt} (h : Owd T w0 w v xs) (hn : 0 < xs.length) : ∃ g q, v = .slice (some ⟨g, 0, none⟩) xs.length q ∧ w.ownsRow w0.heap.size T 5 (.slice (some ⟨g, 0, none⟩) xs.length q) xs.length (xs.flatMap Enc.cells) ∧ w0.heap.size ≤ g ∧ g < w.heap.size := by
  have hr := h.row
  rcases hr.2 with ⟨_, h0⟩ | ⟨g, q, cur, rfl, _⟩
  · omega
  · exact ⟨g, q, rfl, hr, hr.lt g rfl⟩

set_option maxHeartbeats 4000000 in
set_option maxRecDepth 100000 in
theorem sHideContext_any (A H : Option Addr) (n cap m k : Nat) (xs : List Cls) (hs : List Flt) (f : Int) (b : Bool) (w : World) (hR : Sl w A n cap xs) (hH : Sl w H m k hs) (hm : m ≤ 1048576) :
    Calls Try.prog 9 #[.agg #[.slice A n cap], .agg #[.slice H m k], .int .i64 f, .bool b] w fun e w' => ∃ v, e = .returned (.tuple #[.agg #[v], .bool (goodF xs hs f)]) ∧ Owd 35 w w' v (hcX xs hs f b) ∧ Le w w' := by
  obtain rfl := hH.len
  obtain ⟨c0, z0, c1, z1, c2, z2, L0⟩ := box3 w (.slice A n cap) (.slice H hs.length k) (.slice none 0 0) 25 28 28
  have f2 : (((w.alloc (.cells #[.slice A n cap] 25)).alloc (.cells #[.slice H hs.length k] 28)).alloc (.cells #[.slice none 0 0] 28)).frozen? ⟨w.heap.size + 1 + 1, 0, none⟩ = false := World.frozen?_alloc_at _ _ _ _ (by simp)
  have S0 := hR.le L0
  have S1 := hH.le L0
  have HK := Lib.hid hH.ok
  have hs0 : w.heap.size ≤ (((w.alloc (.cells #[.slice A n cap] 25)).alloc (.cells #[.slice H hs.length k] 28)).alloc (.cells #[.slice none 0 0] 28)).heap.size := L0.size
  cases h1 : goodF xs hs f
  · have hX := h1
    have HF := Lib.hid (hcX_of (b := b) hX)
    have HX := Lib.hid hX; clear hX
    go_enter Try.func9, Try.ntmps9
    go_wp2_with fail
    generalize ((w.alloc (.cells #[.slice A n cap] 25)).alloc (.cells #[.slice H hs.length k] 28)).alloc (.cells #[.slice none 0 0] 28) = W at *
    have zW := z2
    refine (goodFault_any A H n cap hs.length k xs hs _ W S0 S1 (by omega)).mono ?_
    rintro e w2 ⟨rfl, hle⟩
    rw [h1]
    replace c0 := (hle.cell z0).trans c0
    replace c1 := (hle.cell z1).trans c1
    replace c2 := (hle.cell z2).trans c2
    replace f2 := (hle.frozen z2).trans f2
    replace z0 := Nat.lt_of_lt_of_le z0 hle.size
    replace z1 := Nat.lt_of_lt_of_le z1 hle.size
    replace z2 := Nat.lt_of_lt_of_le z2 hle.size
    replace L0 := L0.trans hle
    replace S0 := S0.le hle
    replace S1 := S1.le hle
    have hs2 := hle.size
    clear hle h1
    have hend := fun u => cell_set_same (v := u) c2
    go_wp2
    exact bodyPost_ret (v := .tuple #[.agg #[.slice none 0 0], .bool false]) (by simp [results, Try.results9, go_sem, hend]) rfl ⟨_, by first | rfl | rw [HX.out], by rw [HF.out]; exact Owd.nil _ _ _, L0.setCell (by omega) _⟩
  · obtain ⟨i, rfl, hi⟩ := goodF_at h1
    have hfew := goodF_few h1
    have him : (i : Int) < (hs.length : Int) := by omega
    have hX := h1
    have HF := Lib.hid (hcX_of (b := b) hX)
    have HX := Lib.hid hX; clear hX
    go_enter Try.func9, Try.ntmps9
    go_wp2_with fail
    generalize ((w.alloc (.cells #[.slice A n cap] 25)).alloc (.cells #[.slice H hs.length k] 28)).alloc (.cells #[.slice none 0 0] 28) = W at *
    have zW := z2
    refine (goodFault_any A H n cap hs.length k xs hs _ W S0 S1 (by omega)).mono ?_
    rintro e w2 ⟨rfl, hle⟩
    rw [h1]
    replace c0 := (hle.cell z0).trans c0
    replace c1 := (hle.cell z1).trans c1
    replace c2 := (hle.cell z2).trans c2
    replace f2 := (hle.frozen z2).trans f2
    replace z0 := Nat.lt_of_lt_of_le z0 hle.size
    replace z1 := Nat.lt_of_lt_of_le z1 hle.size
    replace z2 := Nat.lt_of_lt_of_le z2 hle.size
    replace L0 := L0.trans hle
    replace S0 := S0.le hle
    replace S1 := S1.le hle
    have hs2 := hle.size
    clear hle h1
    have HE0 : Hid (∀ x ∈ setF hs i (hidF b), Enc.ok x) := setF_ok HK.out hidF_ok
    go_wp2_with fail
    refine (sCopyHeap_any H hs.length k hs _ S1 (by omega)).mono ?_
    rintro e w4 ⟨v, rfl, D, hle⟩
    obtain ⟨g, q, rfl, O, hg0, hg1⟩ := D.blk (by omega)
    have hs4 := hle.size
    replace c0 := (hle.cell z0).trans c0
    replace c1 := (hle.cell z1).trans c1
    replace c2 := (hle.cell z2).trans c2
    replace f2 := (hle.frozen z2).trans f2
    replace z0 := Nat.lt_of_lt_of_le z0 hle.size
    replace z1 := Nat.lt_of_lt_of_le z1 hle.size
    replace z2 := Nat.lt_of_lt_of_le z2 hle.size
    replace L0 := L0.trans hle
    clear hle D S0 S1
    have cB : (w4.alloc (.cells #[.slice (some ⟨g, 0, none⟩) hs.length q] 28)).cell? ⟨w4.heap.size, 0, none⟩ = some (.slice (some ⟨g, 0, none⟩) hs.length q) := by rw [World.cell?_alloc_at _ _ _ _ rfl]; rfl
    have zB : w4.heap.size < (w4.alloc (.cells #[.slice (some ⟨g, 0, none⟩) hs.length q] 28)).heap.size := by simp
    have LB := Le.new w4 (.cells #[.slice (some ⟨g, 0, none⟩) hs.length q] 28)
    replace c0 := (LB.cell z0).trans c0
    replace c1 := (LB.cell z1).trans c1
    replace c2 := (LB.cell z2).trans c2
    replace f2 := (LB.frozen z2).trans f2
    replace z0 := Nat.lt_of_lt_of_le z0 LB.size
    replace z1 := Nat.lt_of_lt_of_le z1 LB.size
    replace z2 := Nat.lt_of_lt_of_le z2 LB.size
    replace L0 := L0.trans LB
    replace O := own_le O LB
    clear LB
    generalize hW5 : w4.alloc (.cells #[.slice (some ⟨g, 0, none⟩) hs.length q] 28) = W5 at *
    have hgW : g < W5.heap.size := by omega
    have q2 := O.cellAt (i * 5 + 2) (by omega)
    have q4 := O.cellAt (i * 5 + 4) (by omega)
    rw [show (hs.flatMap (Enc.cells (α := Flt)))[i * 5 + 2]? = _ from (flat_at hs i hi 2 (by decide))] at q2
    rw [show (hs.flatMap (Enc.cells (α := Flt)))[i * 5 + 4]? = _ from (flat_at hs i hi 4 (by decide))] at q4
    simp only [Enc.cells, List.getElem?_cons_succ, List.getElem?_cons_zero] at q2 q4
    have e2 := O.frozenAt (i * 5 + 2)
    have e4 := O.frozenAt (i * 5 + 4)
    have O5 := (O.stored (i * 5 + 4) (.bool b)).1
    rw [flat_hid hs i hi b] at O5
    have L5 : Le w (W5.setCell ⟨g, i * 5 + 4, none⟩ (.bool b)) := by first | exact (L0.setCell (by omega) _).setCell (by omega) _ | exact L0.setCell (by omega) _
    have c5 : (W5.setCell ⟨g, i * 5 + 4, none⟩ (.bool b)).cell? ⟨w.heap.size + 1 + 1, 0, none⟩ = some (.slice none 0 0) := by first | exact ((cell_set_other (.inl (by omega))).trans (cell_set_other (.inl (by omega)))).trans c2 | exact (cell_set_other (.inl (by omega))).trans c2
    have f5 : (W5.setCell ⟨g, i * 5 + 4, none⟩ (.bool b)).frozen? ⟨w.heap.size + 1 + 1, 0, none⟩ = false := by simpa using f2
    have d5 : (W5.setCell ⟨g, i * 5 + 4, none⟩ (.bool b)).cell? ⟨w4.heap.size, 0, none⟩ = some (.slice (some ⟨g, 0, none⟩) hs.length q) := by first | exact ((cell_set_other (.inl (by omega))).trans (cell_set_other (.inl (by omega)))).trans cB | exact (cell_set_other (.inl (by omega))).trans cB
    have hend := fun u => cell_set_same (v := u) c5
    have HE := Lib.hid (res_end (r := w.heap.size + 1 + 1) L5 (by omega) (show w.heap.size + 1 + 1 < w.heap.size + 1 + 1 + 1 from Nat.lt_succ_self _) (own_mono (base := _) (by rw [setF_len]; exact O5) (by omega)) HE0.out)
    clear HE0
    subst hW5
    clear hg1 hgW O O5
    go_wp2
    exact bodyPost_ret (v := .tuple #[.agg #[.slice (some ⟨g, 0, none⟩) hs.length q], .bool true]) (by simp [results, Try.results9, go_sem, hend]) rfl ⟨_, by first | rfl | rw [HX.out], by rw [HF.out]; exact (HE.out _).1, (HE.out _).2⟩

set_option maxHeartbeats 4000000 in
set_option maxRecDepth 100000 in
theorem iHideContext_any (A H : Option Addr) (n cap m k : Nat) (xs : List Cls) (hs : List Flt) (f : Int) (b : Bool) (w : World) (hR : Sl w A n cap xs) (hH : Sl w H m k hs) (hm : m ≤ 1048576) :
    Calls Try.prog 8 #[.agg #[.slice A n cap], .agg #[.slice H m k], .int .i64 f, .bool b] w fun e w' => ∃ v, e = .returned (.tuple #[.agg #[v], .bool (goodF xs hs f)]) ∧ Owd 35 w w' v (hcX xs hs f b) ∧ Le w w' := by
  obtain rfl := hH.len
  obtain ⟨c0, z0, c1, z1, c2, z2, L0⟩ := box3 w (.slice A n cap) (.slice H hs.length k) (.slice none 0 0) 25 28 28
  have f2 : (((w.alloc (.cells #[.slice A n cap] 25)).alloc (.cells #[.slice H hs.length k] 28)).alloc (.cells #[.slice none 0 0] 28)).frozen? ⟨w.heap.size + 1 + 1, 0, none⟩ = false := World.frozen?_alloc_at _ _ _ _ (by simp)
  have S0 := hR.le L0
  have S1 := hH.le L0
  have HK := Lib.hid hH.ok
  have hs0 : w.heap.size ≤ (((w.alloc (.cells #[.slice A n cap] 25)).alloc (.cells #[.slice H hs.length k] 28)).alloc (.cells #[.slice none 0 0] 28)).heap.size := L0.size
  cases h1 : goodF xs hs f
  · have hX := h1
    have HF := Lib.hid (hcX_of (b := b) hX)
    have HX := Lib.hid hX; clear hX
    go_enter Try.func8, Try.ntmps8
    go_wp2_with fail
    generalize ((w.alloc (.cells #[.slice A n cap] 25)).alloc (.cells #[.slice H hs.length k] 28)).alloc (.cells #[.slice none 0 0] 28) = W at *
    have zW := z2
    refine (iHasFault_any A H n cap hs.length k xs hs _ W S0 S1 (by omega)).mono ?_
    rintro e w2 ⟨rfl, hle⟩
    rw [h1]
    replace c0 := (hle.cell z0).trans c0
    replace c1 := (hle.cell z1).trans c1
    replace c2 := (hle.cell z2).trans c2
    replace f2 := (hle.frozen z2).trans f2
    replace z0 := Nat.lt_of_lt_of_le z0 hle.size
    replace z1 := Nat.lt_of_lt_of_le z1 hle.size
    replace z2 := Nat.lt_of_lt_of_le z2 hle.size
    replace L0 := L0.trans hle
    replace S0 := S0.le hle
    replace S1 := S1.le hle
    have hs2 := hle.size
    clear hle h1
    have hend := fun u => cell_set_same (v := u) c2
    go_wp2
    exact bodyPost_ret (v := .tuple #[.agg #[.slice none 0 0], .bool false]) (by simp [results, Try.results8, go_sem, hend]) rfl ⟨_, by first | rfl | rw [HX.out], by rw [HF.out]; exact Owd.nil _ _ _, L0.setCell (by omega) _⟩
  · obtain ⟨i, rfl, hi⟩ := goodF_at h1
    have hfew := goodF_few h1
    have him : (i : Int) < (hs.length : Int) := by omega
    have hX := h1
    have HF := Lib.hid (hcX_of (b := b) hX)
    have HX := Lib.hid hX; clear hX
    go_enter Try.func8, Try.ntmps8
    go_wp2_with fail
    generalize ((w.alloc (.cells #[.slice A n cap] 25)).alloc (.cells #[.slice H hs.length k] 28)).alloc (.cells #[.slice none 0 0] 28) = W at *
    have zW := z2
    refine (iHasFault_any A H n cap hs.length k xs hs _ W S0 S1 (by omega)).mono ?_
    rintro e w2 ⟨rfl, hle⟩
    rw [h1]
    replace c0 := (hle.cell z0).trans c0
    replace c1 := (hle.cell z1).trans c1
    replace c2 := (hle.cell z2).trans c2
    replace f2 := (hle.frozen z2).trans f2
    replace z0 := Nat.lt_of_lt_of_le z0 hle.size
    replace z1 := Nat.lt_of_lt_of_le z1 hle.size
    replace z2 := Nat.lt_of_lt_of_le z2 hle.size
    replace L0 := L0.trans hle
    replace S0 := S0.le hle
    replace S1 := S1.le hle
    have hs2 := hle.size
    clear hle h1
    have HE0 : Hid (∀ x ∈ setF hs i (hidF b), Enc.ok x) := setF_ok HK.out hidF_ok
    go_wp2_with fail
    refine (iCopyHeap_any H hs.length k hs _ S1 (by omega)).mono ?_
    rintro e w4 ⟨v, rfl, D, hle⟩
    obtain ⟨g, q, rfl, O, hg0, hg1⟩ := D.blk (by omega)
    have hs4 := hle.size
    replace c0 := (hle.cell z0).trans c0
    replace c1 := (hle.cell z1).trans c1
    replace c2 := (hle.cell z2).trans c2
    replace f2 := (hle.frozen z2).trans f2
    replace z0 := Nat.lt_of_lt_of_le z0 hle.size
    replace z1 := Nat.lt_of_lt_of_le z1 hle.size
    replace z2 := Nat.lt_of_lt_of_le z2 hle.size
    replace L0 := L0.trans hle
    clear hle D S0 S1
    have cB : (w4.alloc (.cells #[.slice (some ⟨g, 0, none⟩) hs.length q] 28)).cell? ⟨w4.heap.size, 0, none⟩ = some (.slice (some ⟨g, 0, none⟩) hs.length q) := by rw [World.cell?_alloc_at _ _ _ _ rfl]; rfl
    have zB : w4.heap.size < (w4.alloc (.cells #[.slice (some ⟨g, 0, none⟩) hs.length q] 28)).heap.size := by simp
    have LB := Le.new w4 (.cells #[.slice (some ⟨g, 0, none⟩) hs.length q] 28)
    replace c0 := (LB.cell z0).trans c0
    replace c1 := (LB.cell z1).trans c1
    replace c2 := (LB.cell z2).trans c2
    replace f2 := (LB.frozen z2).trans f2
    replace z0 := Nat.lt_of_lt_of_le z0 LB.size
    replace z1 := Nat.lt_of_lt_of_le z1 LB.size
    replace z2 := Nat.lt_of_lt_of_le z2 LB.size
    replace L0 := L0.trans LB
    replace O := own_le O LB
    clear LB
    generalize hW5 : w4.alloc (.cells #[.slice (some ⟨g, 0, none⟩) hs.length q] 28) = W5 at *
    have hgW : g < W5.heap.size := by omega
    have q2 := O.cellAt (i * 5 + 2) (by omega)
    have q4 := O.cellAt (i * 5 + 4) (by omega)
    rw [show (hs.flatMap (Enc.cells (α := Flt)))[i * 5 + 2]? = _ from (flat_at hs i hi 2 (by decide))] at q2
    rw [show (hs.flatMap (Enc.cells (α := Flt)))[i * 5 + 4]? = _ from (flat_at hs i hi 4 (by decide))] at q4
    simp only [Enc.cells, List.getElem?_cons_succ, List.getElem?_cons_zero] at q2 q4
    have e2 := O.frozenAt (i * 5 + 2)
    have e4 := O.frozenAt (i * 5 + 4)
    have O5 := (O.stored (i * 5 + 4) (.bool b)).1
    rw [flat_hid hs i hi b] at O5
    have L5 : Le w (W5.setCell ⟨g, i * 5 + 4, none⟩ (.bool b)) := by first | exact (L0.setCell (by omega) _).setCell (by omega) _ | exact L0.setCell (by omega) _
    have c5 : (W5.setCell ⟨g, i * 5 + 4, none⟩ (.bool b)).cell? ⟨w.heap.size + 1 + 1, 0, none⟩ = some (.slice none 0 0) := by first | exact ((cell_set_other (.inl (by omega))).trans (cell_set_other (.inl (by omega)))).trans c2 | exact (cell_set_other (.inl (by omega))).trans c2
    have f5 : (W5.setCell ⟨g, i * 5 + 4, none⟩ (.bool b)).frozen? ⟨w.heap.size + 1 + 1, 0, none⟩ = false := by simpa using f2
    have d5 : (W5.setCell ⟨g, i * 5 + 4, none⟩ (.bool b)).cell? ⟨w4.heap.size, 0, none⟩ = some (.slice (some ⟨g, 0, none⟩) hs.length q) := by first | exact ((cell_set_other (.inl (by omega))).trans (cell_set_other (.inl (by omega)))).trans cB | exact (cell_set_other (.inl (by omega))).trans cB
    have hend := fun u => cell_set_same (v := u) c5
    have HE := Lib.hid (res_end (r := w.heap.size + 1 + 1) L5 (by omega) (show w.heap.size + 1 + 1 < w.heap.size + 1 + 1 + 1 from Nat.lt_succ_self _) (own_mono (base := _) (by rw [setF_len]; exact O5) (by omega)) HE0.out)
    clear HE0
    subst hW5
    clear hg1 hgW O O5
    go_wp2
    exact bodyPost_ret (v := .tuple #[.agg #[.slice (some ⟨g, 0, none⟩) hs.length q], .bool true]) (by simp [results, Try.results8, go_sem, hend]) rfl ⟨_, by first | rfl | rw [HX.out], by rw [HF.out]; exact (HE.out _).1, (HE.out _).2⟩
end Go.Proofs.Ytalcpdjldmgcdaa
