/- one text of HpF, HpG, RsA, LvJ -/
import Derived.Test.YtonpgohigncjeaaCx6
import Derived.Test.YtonpgohigncjeaaCx2
import Derived.Lib.SliceRun
import Derived.Deep.LoopGhost
namespace Go.Proofs.Ytonpgohigncjeaa
open Go.RowKit
set_option linter.unusedVariables false
section
/-- a result that lies in a box of the call's own, and a row behind it -/
theorem res_end {α : Type} [Enc α] {T : TypeId} {w w' : World} {r b : Nat} {v : Value} {ys : List α} (L0 : Le w w') (hr : w.heap.size ≤ r) (hb : r < b) (O : w'.ownsRow b T (Enc.size α) v ys.length (ys.flatMap Enc.cells))
    (hok : ∀ x ∈ ys, Enc.ok x) (u : Value) : Owd T w (w'.setCell ⟨r, 0, none⟩ u) v ys ∧ Le w (w'.setCell ⟨r, 0, none⟩ u) :=
  ⟨⟨own_mono (O.kept (grown_set w' r 0 u) (.inr (fun e => by have := (O.lt _ e).1; omega))) (by omega), hok⟩, L0.setCell hr u⟩

set_option maxHeartbeats 1000000 in
set_option maxRecDepth 100000 in
theorem sCopyHeap_any (H : Option Addr) (m c : Nat) (hs : List Flt) (w : World) (hH : Sl w H m c hs) (hm : m ≤ 2097152) :
    Calls Try.prog 96 #[.agg #[.slice H m c]] w fun e w' => ∃ v, e = .returned (.agg #[v]) ∧ Owd 80 w w' v hs ∧ Le w w' := by
  obtain ⟨i0, hi, hz0, hz1, hz2⟩ := info_parts infoCcFault
  have hlen := hH.len
  obtain ⟨c0, z0, c1, z1, L0⟩ := box2 w (.slice H m c) (.slice none 0 0) 34 34
  have S0 := hH.le L0
  have hokA := Lib.hid hH.ok
  have f1 : ((w.alloc (.cells #[.slice H m c] 34)).alloc (.cells #[.slice none 0 0] 34)).frozen? ⟨w.heap.size + 1, 0, none⟩ = false := World.frozen?_alloc_at _ _ _ _ (by simp)
  go_enter Try.func96, Try.ntmps96
  go_wp2_with (at_builtin; refine wpList_append_sl rfl (.tmp 3) (.tmp 5) 32 rfl (w.heap.size + 1 + 1) 80 i0 _ 40 Try.underlying32 hi hz0 hz1 hz2 rfl (.slice (some ⟨w.heap.size + 1 + 1, 0, none⟩) 0 0) 0 ([] : List Flt) rfl (own_empty (by simp) (by simp)) H m c hs rfl (S0.alloc _) (by unfold maxLen; omega) (by omega) (by simp) ?_; intro v1 w1 O1 hg1 _; simp only [Nat.zero_add, List.nil_append] at O1; have L1 := ((Le.refl _).alloc _).grown hg1 (fun k hk => by simp [Value.ownBlock] at hk; simp; omega); replace f1 := (L1.frozen z1).trans f1; replace c1 := (L1.cell z1).trans c1; replace L0 := L0.trans L1; clear L1 hg1; obtain ⟨A1, q1, rfl⟩ := own_form O1)
  have HE := Lib.hid (res_end (r := w.heap.size + 1) L0 (by omega) (Nat.lt_succ_self _) (by rw [hlen]; exact O1) hokA.out)
  have hend := fun u => cell_set_same (v := u) c1
  exact bodyPost_ret (v := .agg #[.slice A1 m q1]) (by simp [results, Try.results96, go_sem, hend]) rfl ⟨_, rfl, (HE.out _).1, (HE.out _).2⟩

end

section
def mkF (a b : Int) : Flt := ⟨a, b, -1, -1, false⟩
theorem mkF_ok {a b : Int} (ha : -9223372036854775808 ≤ a ∧ a ≤ 9223372036854775807) (hb : -9223372036854775808 ≤ b ∧ b ≤ 9223372036854775807) : Enc.ok (mkF a b) := by
  unfold mkF
  exact ⟨ha.1, ha.2, hb.1, hb.2, by show (-9223372036854775808 : Int) ≤ -1; omega, by show (-1 : Int) ≤ 9223372036854775807; omega, by show (-9223372036854775808 : Int) ≤ -1; omega, by show (-1 : Int) ≤ 9223372036854775807; omega⟩
theorem snocF_ok {hs : List Flt} {a b : Int} (h : ∀ x ∈ hs, Enc.ok x) (ha : -9223372036854775808 ≤ a ∧ a ≤ 9223372036854775807) (hb : -9223372036854775808 ≤ b ∧ b ≤ 9223372036854775807) : ∀ x ∈ hs ++ [mkF a b], Enc.ok x := by
  intro x hx
  rcases List.mem_append.1 hx with hx | hx
  · exact h x hx
  · simp at hx; subst hx; exact mkF_ok ha hb
def nfOk (xs : List Cls) (hs : List Flt) (a b : Int) : Bool := okHeap xs hs && okHeap xs (hs ++ [mkF a b])
def nfX (xs : List Cls) (hs : List Flt) (a b : Int) : List Flt := cond (nfOk xs hs a b) (hs ++ [mkF a b]) []
def nfI (xs : List Cls) (hs : List Flt) (a b : Int) : Int := cond (nfOk xs hs a b) hs.length (-1)
theorem nf_of {xs : List Cls} {hs : List Flt} {a b : Int} {t : Bool} (h : nfOk xs hs a b = t) : nfX xs hs a b = cond t (hs ++ [mkF a b]) [] ∧ nfI xs hs a b = cond t (hs.length : Int) (-1) := by unfold nfX nfI; rw [h]; exact ⟨rfl, rfl⟩
theorem nfX_len (xs : List Cls) (hs : List Flt) (a b : Int) : (nfX xs hs a b).length ≤ 1048576 := by
  cases h : nfOk xs hs a b
  · rw [(nf_of h).1]; simp
  · rw [(nf_of h).1]
    have h2 := h
    unfold nfOk at h2
    rw [Bool.and_eq_true] at h2
    have := (goodH_of h2.2).few
    simp at this ⊢; omega
set_option maxHeartbeats 1000000 in
set_option maxRecDepth 100000 in
theorem added_any (H : Option Addr) (m c : Nat) (hs : List Flt) (a b : Int) (w : World) (hH : Sl w H m c hs) (hm : m ≤ 2097152) (ha : -9223372036854775808 ≤ a ∧ a ≤ 9223372036854775807) (hb : -9223372036854775808 ≤ b ∧ b ≤ 9223372036854775807) :
    Calls Try.prog 80 #[.agg #[.slice H m c], .int .i64 a, .int .i64 b] w fun e w' => ∃ v, e = .returned (.agg #[v]) ∧ Owd 80 w w' v (hs ++ [mkF a b]) ∧ Le w w' := by
  obtain ⟨i0, hi, hz0, hz1, hz2⟩ := info_parts infoCcFault
  have hlen := hH.len
  obtain ⟨c0, z0, c1, z1, L0⟩ := box2 w (.slice H m c) (.slice none 0 0) 34 34
  have f1 : ((w.alloc (.cells #[.slice H m c] 34)).alloc (.cells #[.slice none 0 0] 34)).frozen? ⟨w.heap.size + 1, 0, none⟩ = false := World.frozen?_alloc_at _ _ _ _ (by simp)
  have hs0 : ((w.alloc (.cells #[.slice H m c] 34)).alloc (.cells #[.slice none 0 0] 34)).heap.size = w.heap.size + 1 + 1 := by simp
  have S0 := hH.le L0
  have HOK := Lib.hid (snocF_ok hH.ok ha hb)
  have HK := Lib.hid (mkF_ok ha hb)
  have hl : (hs ++ [mkF a b]).length = m + 1 := by simp [hH.len]
  have HL := Lib.hid hl; clear hl
  go_enter Try.func80, Try.ntmps80
  go_wp2_with fail
  generalize (w.alloc (.cells #[.slice H m c] 34)).alloc (.cells #[.slice none 0 0] 34) = W at *
  refine (sCopyHeap_any H m c hs _ S0 hm).mono ?_
  rintro e w1 ⟨v, rfl, D, hle⟩
  replace c0 := (hle.cell z0).trans c0
  replace c1 := (hle.cell z1).trans c1
  replace f1 := (hle.frozen z1).trans f1
  replace z0 := Nat.lt_of_lt_of_le z0 hle.size
  replace z1 := Nat.lt_of_lt_of_le z1 hle.size
  replace L0 := L0.trans hle
  have s1 := hle.size
  clear hle
  obtain ⟨A1, q1, rfl⟩ := own_form D.row
  have O1 := D.row
  rw [hlen] at O1
  rw [hs0] at O1
  rw [hlen]
  clear D S0
  have hbk := O1.lt
  have c2 : ((w1.alloc (.cells #[.slice A1 m q1] 34)).alloc (.cells #[.int .i64 a, .int .i64 b, .int .i64 (-1), .int .i64 (-1), .bool false] 80)).cell? ⟨w1.heap.size, 0, none⟩ = some (.slice A1 m q1) := by
    rw [World.cell?_alloc_past _ _ _ (by simp), World.cell?_alloc_at _ _ _ _ rfl]; rfl
  have f2 : ((w1.alloc (.cells #[.slice A1 m q1] 34)).alloc (.cells #[.int .i64 a, .int .i64 b, .int .i64 (-1), .int .i64 (-1), .bool false] 80)).frozen? ⟨w1.heap.size, 0, none⟩ = false := by
    rw [((Le.new (w1.alloc (.cells #[.slice A1 m q1] 34)) _).frozen (b := w1.heap.size) (o := 0) (by simp))]; exact World.frozen?_alloc_at _ _ _ _ rfl
  have LL := (Le.new w1 (.cells #[.slice A1 m q1] 34)).alloc (.cells #[.int .i64 a, .int .i64 b, .int .i64 (-1), .int .i64 (-1), .bool false] 80)
  replace c0 := (LL.cell z0).trans c0
  replace c1 := (LL.cell z1).trans c1
  replace f1 := (LL.frozen z1).trans f1
  replace L0 := L0.trans LL
  have s2 := LL.size
  clear LL
  go_wp2_with (at_builtin; refine wpList_append_sl rfl (.tmp 11) (.tmp 15) 32 rfl (w.heap.size + 1 + 1) 80 i0 _ 40 Try.underlying32 hi hz0 hz1 hz2 rfl (.slice A1 m q1) m hs rfl ((O1.alloc _).alloc _) (some ⟨w1.heap.size + 1, 0, none⟩) 1 1 [mkF a b] rfl (sl_one (mkF a b) rfl HK.out (by simp)) (by unfold maxLen; omega) (by omega) (by simp; omega) ?_; intro v2 w2 O2 hg2 hat; replace c0 := (hg2.cell (a := ⟨w.heap.size, 0, none⟩) c0 (fun e => by have h : w.heap.size + 1 + 1 ≤ w.heap.size ∧ _ := hbk _ e.symm; omega)); replace c1 := (hg2.cell (a := ⟨w.heap.size + 1, 0, none⟩) c1 (fun e => by have h : w.heap.size + 1 + 1 ≤ w.heap.size + 1 ∧ _ := hbk _ e.symm; omega)); replace c2 := (hg2.cell (a := ⟨w1.heap.size, 0, none⟩) c2 (fun e => by have h : _ ∧ w1.heap.size < w1.heap.size := hbk _ e.symm; omega)); replace f2 := (World.frozen?_of_block (a := ⟨w1.heap.size, 0, none⟩) (hg2.block w1.heap.size (by simp; omega) (fun e => by have h : _ ∧ w1.heap.size < w1.heap.size := hbk _ e.symm; omega))).trans f2; replace f1 := (World.frozen?_of_block (a := ⟨w.heap.size + 1, 0, none⟩) (hg2.block (w.heap.size + 1) (by simp; omega) (fun e => by have h : w.heap.size + 1 + 1 ≤ w.heap.size + 1 ∧ _ := hbk _ e.symm; omega))).trans f1; replace s2 := Nat.le_trans s2 hg2.size; replace L0 := L0.grown hg2 (fun k hk => by have h := (hbk k hk).1; omega); clear hg2; obtain ⟨A2, q2, rfl⟩ := own_form O2)
  have hne : (Value.slice A2 (m + 1) q2).ownBlock ≠ some w1.heap.size := by
    intro e
    rcases hat with h | h
    · rw [h] at e
      have := (hbk _ e).2; omega
    · rw [h] at e; simp at e; omega
  have O3 := O2.kept (grown_set w2 w1.heap.size 0 (.slice A2 (m + 1) q2)) (.inr hne)
  have c3 : (w2.setCell ⟨w1.heap.size, 0, none⟩ (.slice A2 (m + 1) q2)).cell? ⟨w.heap.size + 1, 0, none⟩ = some (.slice none 0 0) := (cell_set_other (.inl (by omega))).trans c1
  have hend := fun u => cell_set_same (v := u) c3
  have HE := Lib.hid (res_end (r := w.heap.size + 1) (L0.setCell (b := w1.heap.size) (o := 0) (by omega) (.slice A2 (m + 1) q2)) (by omega) (Nat.lt_succ_self _) (by rw [HL.out]; exact O3) HOK.out)
  exact bodyPost_ret (v := .agg #[.slice A2 (m + 1) q2]) (by simp [results, Try.results80, go_sem, hend]) rfl ⟨_, rfl, (HE.out _).1, (HE.out _).2⟩
end

section
theorem Owd.blkR {T : TypeId} {w0 w : World} {v : Value} {xs : List Flt} (h : Owd T w0 w v xs) (hn : 0 < xs.length) : ∃ g q, v = .slice (some ⟨g, 0, none⟩) xs.length q ∧ w.ownsRow w0.heap.size T 5 (.slice (some ⟨g, 0, none⟩) xs.length q) xs.length (xs.flatMap Enc.cells) ∧ w0.heap.size ≤ g ∧ g < w.heap.size := by
  have hr := h.row
  rcases hr.2 with ⟨_, h0⟩ | ⟨g, q, cur, rfl, _⟩
  · omega
  · exact ⟨g, q, rfl, hr, hr.lt g rfl⟩


/-- the last fault with a context -/
def raisR (hs : List Flt) (f : Nat) (g : Int) : List Flt := if g < 0 then hs else match hs[f]? with | some x => hs.set f ⟨x.cls, x.code, x.cause, g, x.hide⟩ | none => hs
theorem raisR_no {hs : List Flt} {f : Nat} {g : Int} (h : g < 0) : raisR hs f g = hs := if_pos h
theorem raisR_at {hs : List Flt} {f : Nat} {g : Int} (h : ¬ g < 0) (hf : f < hs.length) : raisR hs f g = hs.set f ⟨hs[f].cls, hs[f].code, hs[f].cause, g, hs[f].hide⟩ := by unfold raisR; rw [if_neg h, List.getElem?_eq_getElem hf]
theorem raisR_len (hs : List Flt) (f : Nat) (g : Int) : (raisR hs f g).length = hs.length := by
  unfold raisR
  split
  · rfl
  · split <;> simp
theorem raisR_ok {hs : List Flt} {f : Nat} {g : Int} (h : ∀ x ∈ hs, Enc.ok x) (hg : -9223372036854775808 ≤ g ∧ g ≤ 9223372036854775807) : ∀ x ∈ raisR hs f g, Enc.ok x := by
  unfold raisR
  split
  · exact h
  · split
    · next y e =>
      intro x hx
      rcases List.mem_or_eq_of_mem_set hx with h1 | h1
      · exact h x h1
      · subst h1
        have hy : y ∈ hs := List.mem_of_getElem? e
        have := h y hy
        exact ⟨this.1, this.2.1, this.2.2.1, this.2.2.2.1, this.2.2.2.2.1, this.2.2.2.2.2.1, hg.1, hg.2⟩
    · exact h
def cxR (hs : List Flt) (i : Nat) : Int := match hs[i]? with | some x => x.ctx | none => -1
theorem cxR_at {hs : List Flt} {i : Nat} (h : i < hs.length) : cxR hs i = hs[i].ctx := by unfold cxR; rw [List.getElem?_eq_getElem h]
set_option maxHeartbeats 8000000 in
set_option maxRecDepth 100000 in
theorem raisedR_any (H : Option Addr) (m c : Nat) (hs : List Flt) (fi : Nat) (g : Int) (w : World) (hH : Sl w H m c hs) (hm : m ≤ 2097152) (hfi : fi < hs.length) (hcx : ∀ i (h : i < hs.length), -1 ≤ hs[i].ctx ∧ hs[i].ctx < (i : Int)) (hlast : fi + 1 = hs.length) (hg0 : -1 ≤ g) (hgf : g < (fi : Int)) :
    Calls Try.prog 81 #[.agg #[.slice H m c], .int .i64 fi, .int .i64 g] w fun e w' => ∃ v, e = .returned (.agg #[v]) ∧ Owd 80 w w' v (raisR hs fi g) ∧ Le w w' := by
  obtain rfl := hH.len
  obtain ⟨c0, z0, c1, z1, L0⟩ := box2 w (.slice H hs.length c) (.slice none 0 0) 34 34
  have f1 : ((w.alloc (.cells #[.slice H hs.length c] 34)).alloc (.cells #[.slice none 0 0] 34)).frozen? ⟨w.heap.size + 1, 0, none⟩ = false := World.frozen?_alloc_at _ _ _ _ (by simp)
  have S0 := hH.le L0
  have HOKH := Lib.hid hH.ok
  have hgr : -9223372036854775808 ≤ g ∧ g ≤ 9223372036854775807 := by omega
  have hfi3 : (fi : Int) < (hs.length : Int) := by omega
  have HCX := Lib.hid hcx
  clear hcx
  go_enter Try.func81, Try.ntmps81
  go_wp2_with fail
  generalize (w.alloc (.cells #[.slice H hs.length c] 34)).alloc (.cells #[.slice none 0 0] 34) = w3 at *
  have y1 := z1
  refine (sCopyHeap_any H hs.length c hs w3 S0 (by omega)).mono ?_
  rintro e w4 ⟨v, rfl, D, hle⟩
  obtain ⟨gb, q, rfl, O, hg0b, hg1⟩ := D.blkR (by omega)
  replace c1 := (hle.cell z1).trans c1
  replace f1 := (hle.frozen z1).trans f1
  replace z1 := Nat.lt_of_lt_of_le z1 hle.size
  replace L0 := L0.trans hle
  have hs4 := hle.size
  clear hle D c0 z0
  have cB : (w4.alloc (.cells #[.slice (some ⟨gb, 0, none⟩) hs.length q] 34)).cell? ⟨w4.heap.size, 0, none⟩ = some (.slice (some ⟨gb, 0, none⟩) hs.length q) := by rw [World.cell?_alloc_at _ _ _ _ rfl]; rfl
  have zB : w4.heap.size < (w4.alloc (.cells #[.slice (some ⟨gb, 0, none⟩) hs.length q] 34)).heap.size := by simp
  have LB := Le.new w4 (.cells #[.slice (some ⟨gb, 0, none⟩) hs.length q] 34)
  replace c1 := (LB.cell z1).trans c1
  replace f1 := (LB.frozen z1).trans f1
  replace z1 := Nat.lt_of_lt_of_le z1 LB.size
  replace L0 := L0.trans LB
  replace O := own_le O LB
  clear LB
  have hb1 : ((fi : Int) == g) = false := by simp; omega
  have HG1 := Lib.hid hg1
  clear hg1
  by_cases hgn : g < 0
  · have hb2 : decide (g < 0) = true := decide_eq_true hgn
    have HR : raisR hs fi g = hs := raisR_no hgn
    generalize hW5 : w4.alloc (.cells #[.slice (some ⟨gb, 0, none⟩) hs.length q] 34) = W5 at *
    have OF : W5.ownsRow w3.heap.size 80 5 (.slice (some ⟨gb, 0, none⟩) hs.length q) (raisR hs fi g).length ((raisR hs fi g).flatMap Enc.cells) := by rw [HR]; exact O
    have cX : W5.cell? ⟨w.heap.size + 1, 0, none⟩ = some (.slice none 0 0) := c1
    have bX : W5.cell? ⟨w4.heap.size, 0, none⟩ = some (.slice (some ⟨gb, 0, none⟩) hs.length q) := cB
    have fX : W5.frozen? ⟨w.heap.size + 1, 0, none⟩ = false := by simpa using f1
    have hend := fun u => cell_set_same (v := u) cX
    have HE := Lib.hid (res_end (r := w.heap.size + 1) L0 (by omega) y1 OF (raisR_ok HOKH.out hgr))
    clear OF HR
    subst hW5
    go_wp2
    exact bodyPost_ret (v := .agg #[.slice (some ⟨gb, 0, none⟩) hs.length q]) (by simp [results, Try.results81, go_sem, hend]) rfl ⟨_, rfl, by have h := HE.out (.slice (some ⟨gb, 0, none⟩) hs.length q); exact h.1, (HE.out _).2⟩
  · have hb2 : decide (g < 0) = false := decide_eq_false hgn
    obtain ⟨gi, rfl⟩ := Int.eq_ofNat_of_zero_le (show 0 ≤ g by omega)
    have HRA := Lib.hid (raisR_at hgn hfi)
    go_wp2
    generalize hW5 : w4.alloc (.cells #[.slice (some ⟨gb, 0, none⟩) hs.length q] 34) = W5 at *
    clear hW5
    have hg1 := HG1.out
    go_loopw [8] (fun x wr => ∃ k : Nat, x = .int .i64 k ∧ k < fi ∧ W5 = wr) (fun x _ => (intOf x).toNat)
    case atStart => exact ⟨gi, rfl, by omega, rfl⟩
    case round =>
      obtain ⟨i, rfl, hif, rfl⟩ := hrel
      have hil : i < hs.length := by omega
      have hi3 : (i : Int) < (hs.length : Int) := by omega
      have hi0 : (0 : Int) ≤ (i : Int) := by omega
      have hcc := HCX.out i hil
      have q3 := O.cellAt (i * 5 + 3) (by omega)
      rw [show (hs.flatMap (Enc.cells (α := Flt)))[i * 5 + 3]? = _ from (flat_at hs i hil 3 (by decide))] at q3
      simp only [Enc.cells, List.getElem?_cons_succ, List.getElem?_cons_zero] at q3
      generalize hs[i].ctx = cc at *
      by_cases hcn : cc < 0
      · have hd1 : decide (0 ≤ cc) = false := decide_eq_false (by omega)
        have O1 := (O.stored (fi * 5 + 3) (.int .i64 gi)).1
        rw [flat_flt_ctx hs fi hfi gi] at O1
        have OF : (W5.setCell ⟨gb, fi * 5 + 3, none⟩ (.int .i64 gi)).ownsRow w3.heap.size 80 5 (.slice (some ⟨gb, 0, none⟩) hs.length q) (raisR hs fi gi).length ((raisR hs fi gi).flatMap Enc.cells) := by rw [raisR_len, HRA.out]; exact O1
        have LX : Le w (W5.setCell ⟨gb, fi * 5 + 3, none⟩ (.int .i64 gi)) := L0.setCell (by omega) _
        have cX : (W5.setCell ⟨gb, fi * 5 + 3, none⟩ (.int .i64 gi)).cell? ⟨w.heap.size + 1, 0, none⟩ = some (.slice none 0 0) := (cell_set_other (.inl (by omega))).trans (c1)
        have bX : (W5.setCell ⟨gb, fi * 5 + 3, none⟩ (.int .i64 gi)).cell? ⟨w4.heap.size, 0, none⟩ = some (.slice (some ⟨gb, 0, none⟩) hs.length q) := (cell_set_other (.inl (by omega))).trans (cB)
        have fX : (W5.setCell ⟨gb, fi * 5 + 3, none⟩ (.int .i64 gi)).frozen? ⟨w.heap.size + 1, 0, none⟩ = false := by simpa using f1
        have k0 := O.cellAt (fi * 5 + 3) (by omega)
        rw [show (hs.flatMap (Enc.cells (α := Flt)))[fi * 5 + 3]? = _ from (flat_at hs fi hfi 3 (by decide))] at k0
        simp only [Enc.cells, List.getElem?_cons_succ, List.getElem?_cons_zero] at k0
        have e0 := O.frozenAt (fi * 5 + 3)
        have hend := fun u => cell_set_same (v := u) cX
        have HE := Lib.hid (res_end (r := w.heap.size + 1) LX (by omega) y1 OF (raisR_ok HOKH.out hgr))
        clear OF LX
        go_wp2
        exact bodyPost_ret (v := .agg #[.slice (some ⟨gb, 0, none⟩) hs.length q]) (by simp [results, Try.results81, go_sem, hend]) rfl ⟨_, rfl, by have h := HE.out (.slice (some ⟨gb, 0, none⟩) hs.length q); exact h.1, (HE.out _).2⟩
      · have hd1 : decide (0 ≤ cc) = true := decide_eq_true (by omega)
        obtain ⟨j, rfl⟩ := Int.eq_ofNat_of_zero_le (show 0 ≤ cc by omega)
        have hb3 : ((j : Int) == (fi : Int)) = false := by simp; omega
        go_wp2
        go_roundw
        case rel => exact ⟨j, rfl, by omega, by trivial⟩
        case measure => simp [intOf]; omega
end

section
theorem raisR_lst (hs : List Flt) (cl k h : Int) (h0 : -1 ≤ h) : raisR (hs ++ [mkF cl k]) hs.length h = hs ++ [⟨cl, k, -1, h, false⟩] := by
  by_cases hn : h < 0
  · rw [raisR_no hn, show h = -1 by omega]; rfl
  · rw [raisR_at hn (by rw [List.length_append]; simp)]
    simp [mkF]
/-- contexts lie ahead of what they are the contexts of -/
def Cxt (hs : List Flt) : Prop := ∀ i (h : i < hs.length), -1 ≤ hs[i].ctx ∧ hs[i].ctx < (i : Int)
theorem Cxt.mk' {hs : List Flt} (hc : Cxt hs) (cl k : Int) : Cxt (hs ++ [mkF cl k]) := by
  intro i hi
  rcases Nat.lt_or_ge i hs.length with h2 | h2
  · rw [List.getElem_append_left h2]; exact hc i h2
  · rw [List.length_append] at hi
    have e : i = hs.length := by have : i < hs.length + 1 := hi; omega
    subst e
    rw [List.getElem_append_right (Nat.le_refl _)]
    simp [mkF]
    omega
/-- a block of three cells -/
structure B3 (W : World) (b : Nat) (x y z : Value) : Prop where
  lt : b < W.heap.size
  c0 : W.cell? ⟨b, 0, none⟩ = some x
  c1 : W.cell? ⟨b, 1, none⟩ = some y
  c2 : W.cell? ⟨b, 2, none⟩ = some z
  f : ∀ o, W.frozen? ⟨b, o, none⟩ = false
section
variable {W W' : World} {b g : Nat} {x y z : Value}
theorem frz3 (w : World) (b o g k : Nat) (u : Value) : (w.setCell ⟨b, o, none⟩ u).frozen? ⟨g, k, none⟩ = w.frozen? ⟨g, k, none⟩ := by first | exact World.frozen?_setCell .. | simp [World.frozen?, World.setCell]
theorem B3.new (w : World) (x y z : Value) (T : TypeId) : B3 (w.alloc (.cells #[x, y, z] T)) w.heap.size x y z := by
  refine ⟨by simp, ?_, ?_, ?_, fun o => World.frozen?_alloc_at _ _ _ _ rfl⟩ <;> (rw [World.cell?_alloc_at _ _ _ _ rfl]; rfl)
theorem B3.le (h : B3 W b x y z) (l : Le W W') : B3 W' b x y z :=
  ⟨Nat.lt_of_lt_of_le h.lt l.size, (l.cell h.lt).trans h.c0, (l.cell h.lt).trans h.c1, (l.cell h.lt).trans h.c2, fun o => (l.frozen h.lt).trans (h.f o)⟩
theorem B3.far (h : B3 W b x y z) (hn : g ≠ b) (o : Nat) (u : Value) : B3 (W.setCell ⟨g, o, none⟩ u) b x y z :=
  ⟨by simpa [World.setCell] using h.lt, (cell_set_other (.inl hn)).trans h.c0, (cell_set_other (.inl hn)).trans h.c1, (cell_set_other (.inl hn)).trans h.c2, fun k => (frz3 _ _ _ _ _ _).trans (h.f k)⟩
theorem B3.set0 (h : B3 W b x y z) (u : Value) : B3 (W.setCell ⟨b, 0, none⟩ u) b u y z :=
  ⟨by simpa [World.setCell] using h.lt, cell_set_same h.c0, (cell_set_other (.inr (by decide))).trans h.c1, (cell_set_other (.inr (by decide))).trans h.c2, fun k => (frz3 _ _ _ _ _ _).trans (h.f k)⟩
theorem B3.set1 (h : B3 W b x y z) (u : Value) : B3 (W.setCell ⟨b, 1, none⟩ u) b x u z :=
  ⟨by simpa [World.setCell] using h.lt, (cell_set_other (.inr (by decide))).trans h.c0, cell_set_same h.c1, (cell_set_other (.inr (by decide))).trans h.c2, fun k => (frz3 _ _ _ _ _ _).trans (h.f k)⟩
theorem B3.set2 (h : B3 W b x y z) (u : Value) : B3 (W.setCell ⟨b, 2, none⟩ u) b x y u :=
  ⟨by simpa [World.setCell] using h.lt, (cell_set_other (.inr (by decide))).trans h.c0, (cell_set_other (.inr (by decide))).trans h.c1, cell_set_same h.c2, fun k => (frz3 _ _ _ _ _ _).trans (h.f k)⟩
end
set_option maxHeartbeats 2000000 in
set_option maxRecDepth 100000 in
theorem newFault_any (AH : Option Addr) (n cH : Nat) (hs : List Flt) (fa cl k : Int) (hcl : -9223372036854775808 ≤ cl ∧ cl ≤ 9223372036854775807) (hk : -9223372036854775808 ≤ k ∧ k ≤ 9223372036854775807) (hc : Cxt hs) (h0 : -1 ≤ fa) (h1 : fa < hs.length) (hl : hs.length ≤ 1000000) (AL : Option Addr) (nL cL : Nat) (w : World) (SH : Sl w AH n cH hs) :
    Calls Try.prog 64 #[.agg #[.slice AL nL cL, .slice AH n cH, .int .i64 fa], .int .i64 cl, .int .i64 k] w fun e w' => ∃ A' q, e = .returned (.agg #[.slice AL nL cL, .slice A' (hs.length + 1) q, .int .i64 hs.length]) ∧ Owd 80 w w' (.slice A' (hs.length + 1) q) (hs ++ [⟨cl, k, -1, fa, false⟩]) ∧ Le w w' := by
  obtain rfl := SH.len
  have LA := Le.new w (.cells #[.slice AL nL cL, .slice AH hs.length cH, .int .i64 fa] 103)
  have LB := Le.new (w.alloc (.cells #[.slice AL nL cL, .slice AH hs.length cH, .int .i64 fa] 103)) (.cells #[.slice none 0 0, .slice none 0 0, .int .i64 0] 103)
  have R0 := (B3.new w (.slice AL nL cL) (.slice AH hs.length cH) (.int .i64 fa) 103).le LB
  have R1 := B3.new (w.alloc (.cells #[.slice AL nL cL, .slice AH hs.length cH, .int .i64 fa] 103)) (.slice none 0 0) (.slice none 0 0) (.int .i64 0) 103
  have LW := LA.trans LB
  have hzz : ((w.alloc (.cells #[.slice AL nL cL, .slice AH hs.length cH, .int .i64 fa] 103)).alloc (.cells #[.slice none 0 0, .slice none 0 0, .int .i64 0] 103)).heap.size = w.heap.size + 1 + 1 := by simp
  have hz1 : (w.alloc (.cells #[.slice AL nL cL, .slice AH hs.length cH, .int .i64 fa] 103)).heap.size = w.heap.size + 1 := by simp
  rw [hz1] at R1
  clear LA LB hz1
  go_enter Try.func64, Try.ntmps64
  go_wp2_with fail
  generalize (w.alloc (.cells #[.slice AL nL cL, .slice AH hs.length cH, .int .i64 fa] 103)).alloc (.cells #[.slice none 0 0, .slice none 0 0, .int .i64 0] 103) = W at *
  refine (added_any AH hs.length cH hs cl k W (SH.le LW) (by omega) hcl hk).mono ?_
  rintro e w2 ⟨v2, rfl, D2, hl2⟩
  obtain ⟨A2, q2, rfl⟩ := own_form D2.row
  have hlen : (hs ++ [mkF cl k]).length = hs.length + 1 := by rw [List.length_append]; rfl
  rw [hlen] at D2 ⊢
  have hR2 := D2.row
  rw [hlen] at hR2
  have hb2 : w.heap.size < W.heap.size := by omega
  have SD2 := Sl.of_own (ownsRow_setCell_below hR2 (a := ⟨w.heap.size, 1, none⟩) hb2 (.slice A2 (hs.length + 1) q2)) rfl (by decide) D2.ok
  have B0 := R0.le hl2
  have B1 := R1.le hl2
  have B0' := B0.set1 (.slice A2 (hs.length + 1) q2)
  have B1' := B1.far (show w.heap.size ≠ w.heap.size + 1 by omega) 1 (.slice A2 (hs.length + 1) q2)
  have L3 := (LW.trans hl2).setCell (b := w.heap.size) (o := 1) (Nat.le_refl _) (.slice A2 (hs.length + 1) q2)
  have k1 := B0.c1
  have kf := B0.f 1
  clear R0 R1 hR2 SH
  have hw : IntKind.i64.wrap (((hs.length + 1 : Nat) : Int) - 1) = (hs.length : Int) := by
    have e : ((hs.length + 1 : Nat) : Int) - 1 = (hs.length : Int) := by omega
    rw [e]
    exact IntWalk.i64_in _ (by omega)
  have k1' := B0'.c1
  have k2' := B0'.c2
  go_wp2_with fail
  generalize w2.setCell ⟨w.heap.size, 1, none⟩ (.slice A2 (hs.length + 1) q2) = W3 at *
  refine (raisedR_any A2 (hs.length + 1) q2 (hs ++ [mkF cl k]) hs.length fa W3 SD2 (by omega) (by omega) (hc.mk' cl k) (by omega) h0 h1).mono ?_
  rintro e w4 ⟨v4, rfl, D4, hl4⟩
  rw [raisR_lst _ _ _ _ h0] at D4
  obtain ⟨A4, q4, rfl⟩ := own_form D4.row
  have hlen2 : (hs ++ [(⟨cl, k, -1, fa, false⟩ : Flt)]).length = hs.length + 1 := by rw [List.length_append]; rfl
  have hR4 := D4.row
  have hok4 := Lib.hid D4.ok
  rw [hlen2] at hR4 ⊢
  have LF := ((((((L3.trans hl4).setCell (b := w.heap.size) (o := 1) (Nat.le_refl _) (.slice A4 (hs.length + 1) q4)).setCell (b := w.heap.size) (o := 2) (Nat.le_refl _) (.int .i64 hs.length)).setCell (b := w.heap.size + 1) (o := 0) (Nat.le_succ _) (.slice AL nL cL)).setCell (b := w.heap.size + 1) (o := 1) (Nat.le_succ _) (.slice A4 (hs.length + 1) q4)).setCell (b := w.heap.size + 1) (o := 2) (Nat.le_succ _) (.int .i64 hs.length))
  have hs3 : w.heap.size + 1 < W3.heap.size := B1'.lt
  have OF := ownsRow_setCell_below (ownsRow_setCell_below (ownsRow_setCell_below (ownsRow_setCell_below (ownsRow_setCell_below hR4 (a := ⟨w.heap.size, 1, none⟩) (Nat.lt_of_succ_lt hs3) (.slice A4 (hs.length + 1) q4)) (a := ⟨w.heap.size, 2, none⟩) (Nat.lt_of_succ_lt hs3) (.int .i64 hs.length)) (a := ⟨w.heap.size + 1, 0, none⟩) hs3 (.slice AL nL cL)) (a := ⟨w.heap.size + 1, 1, none⟩) hs3 (.slice A4 (hs.length + 1) q4)) (a := ⟨w.heap.size + 1, 2, none⟩) hs3 (.int .i64 hs.length)
  have HO := Lib.hid (own_mono OF L3.size)
  have HL := Lib.hid LF
  have C0 := B0'.le hl4
  have C1 := B1'.le hl4
  have C0a := C0.set1 (.slice A4 (hs.length + 1) q4)
  have C0b := C0a.set2 (.int .i64 hs.length)
  have C1b := (C1.far (show w.heap.size ≠ w.heap.size + 1 by omega) 1 (.slice A4 (hs.length + 1) q4)).far (show w.heap.size ≠ w.heap.size + 1 by omega) 2 (.int .i64 hs.length)
  have C1c := C1b.set0 (.slice AL nL cL)
  have C1d := C1c.set1 (.slice A4 (hs.length + 1) q4)
  have HE := Lib.hid (C1d.set2 (.int .i64 hs.length))
  have a1 := C0.c1
  have af := C0.f 1
  have b2 := C0a.c2
  have bf := C0a.f 2
  have d0 := C0b.c0
  have d1 := C0b.c1
  have d2 := C0b.c2
  have e0 := C1b.c0
  have ef := C1b.f 0
  have e1 := C1c.c1
  have eg := C1c.f 1
  have e2 := C1d.c2
  have eh := C1d.f 2
  clear LF OF C0 C1 C0a C0b C1b C1c C1d hR4 D4 D2 B0' B1' B0 B1 k1 kf k1' k2' hl4 L3 SD2
  go_wp2
  have z0 := HE.out.c0
  have z1 := HE.out.c1
  have z2 := HE.out.c2
  exact bodyPost_ret (v := .agg #[.slice AL nL cL, .slice A4 (hs.length + 1) q4, .int .i64 hs.length]) (by simp [results, Try.results64, go_sem, z0, z1, z2]) rfl ⟨A4, q4, rfl, ⟨by rw [hlen2]; exact HO.out, hok4.out⟩, HL.out⟩
theorem newFault0_any (cl k : Int) (hcl : -9223372036854775808 ≤ cl ∧ cl ≤ 9223372036854775807) (hk : -9223372036854775808 ≤ k ∧ k ≤ 9223372036854775807) (AL : Option Addr) (nL cL : Nat) (w : World) :
    Calls Try.prog 64 #[.agg #[.slice AL nL cL, .slice none 0 0, .int .i64 (-1)], .int .i64 cl, .int .i64 k] w fun e w' => ∃ A' q, e = .returned (.agg #[.slice AL nL cL, .slice A' 1 q, .int .i64 0]) ∧ Owd 80 w w' (.slice A' 1 q) [(⟨cl, k, -1, -1, false⟩ : Flt)] ∧ Le w w' :=
  newFault_any none 0 0 [] (-1) cl k hcl hk (fun i hi => absurd hi (Nat.not_lt_zero i)) (by omega) (by show (-1 : Int) < 0; omega) (Nat.zero_le _) AL nL cL w (Sl.nil _ _ _ (by omega))
end
end Go.Proofs.Ytonpgohigncjeaa
