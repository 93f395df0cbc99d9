/- copies of heaps; stores in a row that reads as a list; results in a box -/
import Derived.Test.YtacilbglnhgifaaCcFault
import Derived.Test.YtacilbglnhgifaaBo
import Derived.Lib.SliceRun
namespace Go.Proofs.Ytacilbglnhgifaa
open Go.RowKit

/-- a result that lies in a box of the call's own, and a row behind it -/
theorem res_end {α : Type} [Enc α] {T : TypeId} {w w' : World} {r b : Nat} {v : Value} {ys : List α} (L0 : Le w w') (hr : w.heap.size ≤ r) (hb : r < b) (O : w'.ownsRow b T (Enc.size α) v ys.length (ys.flatMap Enc.cells))
    (hok : ∀ x ∈ ys, Enc.ok x) (u : Value) : Owd T w (w'.setCell ⟨r, 0, none⟩ u) v ys ∧ Le w (w'.setCell ⟨r, 0, none⟩ u) :=
  ⟨⟨own_mono (O.kept (grown_set w' r 0 u) (.inr (fun e => by have := (O.lt _ e).1; omega))) (by omega), hok⟩, L0.setCell hr u⟩

set_option maxHeartbeats 1000000 in
set_option maxRecDepth 100000 in
theorem sCopyHeap_any (H : Option Addr) (m c : Nat) (hs : List Flt) (w : World) (hH : Sl w H m c hs) (hm : m ≤ 2097152) :
    Calls Try.prog 82 #[.agg #[.slice H m c]] w fun e w' => ∃ v, e = .returned (.agg #[v]) ∧ Owd 84 w w' v hs ∧ Le w w' := by
  obtain ⟨i0, hi, hz0, hz1, hz2⟩ := info_parts infoCcFault
  have hlen := hH.len
  obtain ⟨c0, z0, c1, z1, L0⟩ := box2 w (.slice H m c) (.slice none 0 0) 33 33
  have S0 := hH.le L0
  have hokA := Lib.hid hH.ok
  have f1 : ((w.alloc (.cells #[.slice H m c] 33)).alloc (.cells #[.slice none 0 0] 33)).frozen? ⟨w.heap.size + 1, 0, none⟩ = false := World.frozen?_alloc_at _ _ _ _ (by simp)
  go_enter Try.func82, Try.ntmps82
  go_wp2_with (at_builtin; refine wpList_append_sl rfl (.tmp 3) (.tmp 5) 31 rfl (w.heap.size + 1 + 1) 84 i0 _ 40 Try.underlying31 hi hz0 hz1 hz2 rfl (.slice (some ⟨w.heap.size + 1 + 1, 0, none⟩) 0 0) 0 ([] : List Flt) rfl (own_empty (by simp) (by simp)) H m c hs rfl (S0.alloc _) (by unfold maxLen; omega) (by omega) (by simp) ?_; intro v1 w1 O1 hg1 _; simp only [Nat.zero_add, List.nil_append] at O1; have L1 := ((Le.refl _).alloc _).grown hg1 (fun k hk => by simp [Value.ownBlock] at hk; simp; omega); replace f1 := (L1.frozen z1).trans f1; replace c1 := (L1.cell z1).trans c1; replace L0 := L0.trans L1; clear L1 hg1; obtain ⟨A1, q1, rfl⟩ := own_form O1)
  have HE := Lib.hid (res_end (r := w.heap.size + 1) L0 (by omega) (Nat.lt_succ_self _) (by rw [hlen]; exact O1) hokA.out)
  have hend := fun u => cell_set_same (v := u) c1
  exact bodyPost_ret (v := .agg #[.slice A1 m q1]) (by simp [results, Try.results82, go_sem, hend]) rfl ⟨_, rfl, (HE.out _).1, (HE.out _).2⟩

end Go.Proofs.Ytacilbglnhgifaa
