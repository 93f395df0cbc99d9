/- raised of the model, for the last one of a run's faults -/
import Derived.Test.YtlepgfccnfcagaaHpGP
import Derived.Deep.LoopGhost
namespace Go.Proofs.Ytlepgfccnfcagaa
open Go.RowKit
theorem Owd.blkR {T : TypeId} {w0 w : World} {v : Value} {xs : List Flt} (h : Owd T w0 w v xs) (hn : 0 < xs.length) : ∃ g q, v = .slice (some ⟨g, 0, none⟩) xs.length q ∧ w.ownsRow w0.heap.size T 5 (.slice (some ⟨g, 0, none⟩) xs.length q) xs.length (xs.flatMap Enc.cells) ∧ w0.heap.size ≤ g ∧ g < w.heap.size := by
  have hr := h.row
  rcases hr.2 with ⟨_, h0⟩ | ⟨g, q, cur, rfl, _⟩
  · omega
  · exact ⟨g, q, rfl, hr, hr.lt g rfl⟩


/-- the last fault with a context -/
def raisR (hs : List Flt) (f : Nat) (g : Int) : List Flt := if g < 0 then hs else match hs[f]? with | some x => hs.set f ⟨x.cls, x.code, x.cause, g, x.hide⟩ | none => hs
theorem raisR_no {hs : List Flt} {f : Nat} {g : Int} (h : g < 0) : raisR hs f g = hs := if_pos h
theorem raisR_at {hs : List Flt} {f : Nat} {g : Int} (h : ¬ g < 0) (hf : f < hs.length) : raisR hs f g = hs.set f ⟨hs[f].cls, hs[f].code, hs[f].cause, g, hs[f].hide⟩ := by unfold raisR; rw [if_neg h, List.getElem?_eq_getElem hf]
theorem raisR_len (hs : List Flt) (f : Nat) (g : Int) : (raisR hs f g).length = hs.length := by
  unfold raisR
  split
  · rfl
  · split <;> simp
theorem raisR_ok {hs : List Flt} {f : Nat} {g : Int} (h : ∀ x ∈ hs, Enc.ok x) (hg : -9223372036854775808 ≤ g ∧ g ≤ 9223372036854775807) : ∀ x ∈ raisR hs f g, Enc.ok x := by
  unfold raisR
  split
  · exact h
  · split
    · next y e =>
      intro x hx
      rcases List.mem_or_eq_of_mem_set hx with h1 | h1
      · exact h x h1
      · subst h1
        have hy : y ∈ hs := List.mem_of_getElem? e
        have := h y hy
        exact ⟨this.1, this.2.1, this.2.2.1, this.2.2.2.1, this.2.2.2.2.1, this.2.2.2.2.2.1, hg.1, hg.2⟩
    · exact h
def cxR (hs : List Flt) (i : Nat) : Int := match hs[i]? with | some x => x.ctx | none => -1
theorem cxR_at {hs : List Flt} {i : Nat} (h : i < hs.length) : cxR hs i = hs[i].ctx := by unfold cxR; rw [List.getElem?_eq_getElem h]
set_option maxHeartbeats 8000000 in
set_option maxRecDepth 100000 in
theorem raisedR_any (H : Option Addr) (m c : Nat) (hs : List Flt) (fi : Nat) (g : Int) (w : World) (hH : Sl w H m c hs) (hm : m ≤ 2097152) (hfi : fi < hs.length) (hcx : ∀ i (h : i < hs.length), -1 ≤ hs[i].ctx ∧ hs[i].ctx < (i : Int)) (hlast : fi + 1 = hs.length) (hg0 : -1 ≤ g) (hgf : g < (fi : Int)) :
    Calls Try.prog 123 #[.agg #[.slice H m c], .int .i64 fi, .int .i64 g] w fun e w' => ∃ v, e = .returned (.agg #[v]) ∧ Owd 74 w w' v (raisR hs fi g) ∧ Le w w' := by
  obtain rfl := hH.len
  obtain ⟨c0, z0, c1, z1, L0⟩ := box2 w (.slice H hs.length c) (.slice none 0 0) 32 32
  have f1 : ((w.alloc (.cells #[.slice H hs.length c] 32)).alloc (.cells #[.slice none 0 0] 32)).frozen? ⟨w.heap.size + 1, 0, none⟩ = false := World.frozen?_alloc_at _ _ _ _ (by simp)
  have S0 := hH.le L0
  have HOKH := Lib.hid hH.ok
  have hgr : -9223372036854775808 ≤ g ∧ g ≤ 9223372036854775807 := by omega
  have hfi3 : (fi : Int) < (hs.length : Int) := by omega
  have HCX := Lib.hid hcx
  clear hcx
  go_enter Try.func123, Try.ntmps123
  go_wp2_with fail
  generalize (w.alloc (.cells #[.slice H hs.length c] 32)).alloc (.cells #[.slice none 0 0] 32) = w3 at *
  have y1 := z1
  refine (sCopyHeap_any H hs.length c hs w3 S0 (by omega)).mono ?_
  rintro e w4 ⟨v, rfl, D, hle⟩
  obtain ⟨gb, q, rfl, O, hg0b, hg1⟩ := D.blkR (by omega)
  replace c1 := (hle.cell z1).trans c1
  replace f1 := (hle.frozen z1).trans f1
  replace z1 := Nat.lt_of_lt_of_le z1 hle.size
  replace L0 := L0.trans hle
  have hs4 := hle.size
  clear hle D c0 z0
  have cB : (w4.alloc (.cells #[.slice (some ⟨gb, 0, none⟩) hs.length q] 32)).cell? ⟨w4.heap.size, 0, none⟩ = some (.slice (some ⟨gb, 0, none⟩) hs.length q) := by rw [World.cell?_alloc_at _ _ _ _ rfl]; rfl
  have zB : w4.heap.size < (w4.alloc (.cells #[.slice (some ⟨gb, 0, none⟩) hs.length q] 32)).heap.size := by simp
  have LB := Le.new w4 (.cells #[.slice (some ⟨gb, 0, none⟩) hs.length q] 32)
  replace c1 := (LB.cell z1).trans c1
  replace f1 := (LB.frozen z1).trans f1
  replace z1 := Nat.lt_of_lt_of_le z1 LB.size
  replace L0 := L0.trans LB
  replace O := own_le O LB
  clear LB
  have hb1 : ((fi : Int) == g) = false := by simp; omega
  have HG1 := Lib.hid hg1
  clear hg1
  by_cases hgn : g < 0
  · have hb2 : decide (g < 0) = true := decide_eq_true hgn
    have HR : raisR hs fi g = hs := raisR_no hgn
    generalize hW5 : w4.alloc (.cells #[.slice (some ⟨gb, 0, none⟩) hs.length q] 32) = W5 at *
    have OF : W5.ownsRow w3.heap.size 74 5 (.slice (some ⟨gb, 0, none⟩) hs.length q) (raisR hs fi g).length ((raisR hs fi g).flatMap Enc.cells) := by rw [HR]; exact O
    have cX : W5.cell? ⟨w.heap.size + 1, 0, none⟩ = some (.slice none 0 0) := c1
    have bX : W5.cell? ⟨w4.heap.size, 0, none⟩ = some (.slice (some ⟨gb, 0, none⟩) hs.length q) := cB
    have fX : W5.frozen? ⟨w.heap.size + 1, 0, none⟩ = false := by simpa using f1
    have hend := fun u => cell_set_same (v := u) cX
    have HE := Lib.hid (res_end (r := w.heap.size + 1) L0 (by omega) y1 OF (raisR_ok HOKH.out hgr))
    clear OF HR
    subst hW5
    go_wp2
    exact bodyPost_ret (v := .agg #[.slice (some ⟨gb, 0, none⟩) hs.length q]) (by simp [results, Try.results123, go_sem, hend]) rfl ⟨_, rfl, by have h := HE.out (.slice (some ⟨gb, 0, none⟩) hs.length q); exact h.1, (HE.out _).2⟩
  · have hb2 : decide (g < 0) = false := decide_eq_false hgn
    obtain ⟨gi, rfl⟩ := Int.eq_ofNat_of_zero_le (show 0 ≤ g by omega)
    have HRA := Lib.hid (raisR_at hgn hfi)
    go_wp2
    generalize hW5 : w4.alloc (.cells #[.slice (some ⟨gb, 0, none⟩) hs.length q] 32) = W5 at *
    clear hW5
    have hg1 := HG1.out
    go_loopw [8] (fun x wr => ∃ k : Nat, x = .int .i64 k ∧ k < fi ∧ W5 = wr) (fun x _ => (intOf x).toNat)
    case atStart => exact ⟨gi, rfl, by omega, rfl⟩
    case round =>
      obtain ⟨i, rfl, hif, rfl⟩ := hrel
      have hil : i < hs.length := by omega
      have hi3 : (i : Int) < (hs.length : Int) := by omega
      have hi0 : (0 : Int) ≤ (i : Int) := by omega
      have hcc := HCX.out i hil
      have q3 := O.cellAt (i * 5 + 3) (by omega)
      rw [show (hs.flatMap (Enc.cells (α := Flt)))[i * 5 + 3]? = _ from (flat_at hs i hil 3 (by decide))] at q3
      simp only [Enc.cells, List.getElem?_cons_succ, List.getElem?_cons_zero] at q3
      generalize hs[i].ctx = cc at *
      by_cases hcn : cc < 0
      · have hd1 : decide (0 ≤ cc) = false := decide_eq_false (by omega)
        have O1 := (O.stored (fi * 5 + 3) (.int .i64 gi)).1
        rw [flat_flt_ctx hs fi hfi gi] at O1
        have OF : (W5.setCell ⟨gb, fi * 5 + 3, none⟩ (.int .i64 gi)).ownsRow w3.heap.size 74 5 (.slice (some ⟨gb, 0, none⟩) hs.length q) (raisR hs fi gi).length ((raisR hs fi gi).flatMap Enc.cells) := by rw [raisR_len, HRA.out]; exact O1
        have LX : Le w (W5.setCell ⟨gb, fi * 5 + 3, none⟩ (.int .i64 gi)) := L0.setCell (by omega) _
        have cX : (W5.setCell ⟨gb, fi * 5 + 3, none⟩ (.int .i64 gi)).cell? ⟨w.heap.size + 1, 0, none⟩ = some (.slice none 0 0) := (cell_set_other (.inl (by omega))).trans (c1)
        have bX : (W5.setCell ⟨gb, fi * 5 + 3, none⟩ (.int .i64 gi)).cell? ⟨w4.heap.size, 0, none⟩ = some (.slice (some ⟨gb, 0, none⟩) hs.length q) := (cell_set_other (.inl (by omega))).trans (cB)
        have fX : (W5.setCell ⟨gb, fi * 5 + 3, none⟩ (.int .i64 gi)).frozen? ⟨w.heap.size + 1, 0, none⟩ = false := by simpa using f1
        have k0 := O.cellAt (fi * 5 + 3) (by omega)
        rw [show (hs.flatMap (Enc.cells (α := Flt)))[fi * 5 + 3]? = _ from (flat_at hs fi hfi 3 (by decide))] at k0
        simp only [Enc.cells, List.getElem?_cons_succ, List.getElem?_cons_zero] at k0
        have e0 := O.frozenAt (fi * 5 + 3)
        have hend := fun u => cell_set_same (v := u) cX
        have HE := Lib.hid (res_end (r := w.heap.size + 1) LX (by omega) y1 OF (raisR_ok HOKH.out hgr))
        clear OF LX
        go_wp2
        exact bodyPost_ret (v := .agg #[.slice (some ⟨gb, 0, none⟩) hs.length q]) (by simp [results, Try.results123, go_sem, hend]) rfl ⟨_, rfl, by have h := HE.out (.slice (some ⟨gb, 0, none⟩) hs.length q); exact h.1, (HE.out _).2⟩
      · have hd1 : decide (0 ≤ cc) = true := decide_eq_true (by omega)
        obtain ⟨j, rfl⟩ := Int.eq_ofNat_of_zero_le (show 0 ≤ cc by omega)
        have hb3 : ((j : Int) == (fi : Int)) = false := by simp; omega
        go_wp2
        go_roundw
        case rel => exact ⟨j, rfl, by omega, by trivial⟩
        case measure => simp [intOf]; omega
end Go.Proofs.Ytlepgfccnfcagaa
