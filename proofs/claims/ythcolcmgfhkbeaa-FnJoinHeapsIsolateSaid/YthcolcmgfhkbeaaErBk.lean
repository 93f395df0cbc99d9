/- errors.Is, inContext, leadsBack of the program -/
import Derived.Test.YthcolcmgfhkbeaaErIs
namespace Go.Proofs.Ythcolcmgfhkbeaa
open Go.RowKit Go.Extern.Stop Go.Stop Go.Extern

set_option maxHeartbeats 2000000 in
set_option maxRecDepth 100000 in
theorem errorsIs_any (tv : Value) (H : Option Addr) (m c : Nat) (hs : List Flt) (g1 g2 : Nat) (cx f : Int) (cs2 : Array Value) (w : World) (hH : Sl w H m c hs) (lk : Lnk hs) (hto : TvOk tv) (h0 : 0 ≤ cx) (h1 : cx < hs.length)
    (hF : FCh w tv (.slice H m c) lkCtx [g1] [cx]) (hT : w.heap[g2]? = some (.cells cs2 86 (0, 0))) (hT2 : w.cell? ⟨g2, 2, none⟩ = some (.int .i64 f)) (hne : g1 ≠ g2) :
    Calls Try.prog 41 #[.iface 71 (.pointer (some ⟨g1, 0, none⟩)), .iface 71 (.pointer (some ⟨g2, 0, none⟩))] w fun e w' => e = .returned (.bool (hasI (chainN (ctxOf hs) hs.length cx) f)) ∧ Le w w' := by
  have h8 := @run_callFunc_extern Try.prog 48 _ Extern.ReflectliteType.typeOf Try.func48 (by kernel_rfl) (by kernel_rfl) (by kernel_rfl) (by kernel_rfl)
  obtain ⟨fn, hfn, cT⟩ := fxComparable
  have h32 := @run_callFunc_extern Try.prog 72 _ fn Try.func72 (by kernel_rfl) (by kernel_rfl) (by kernel_rfl) hfn
  have tT := fxTypeOf
  have mR := fxmComparable
  clear hfn
  go_enter Try.func41, Try.ntmps41
  go_wp2_with fail
  refine (isErr_any tv H m c hs g1 g2 cx f cs2 _ hH lk hto h0 h1 hF hT hT2 hne).mono ?_
  rintro e w' ⟨rfl, hle⟩
  go_wp2
  go_ret
  exact ⟨rfl, hle⟩

def InCtxOut (tv hv : Value) (f : Int) (w : World) (e : Ending) (w' : World) : Prop :=
  ∃ g, e = .returned (.pointer (some ⟨g, 0, none⟩)) ∧ w'.heap[g]? = some (.cells #[tv, hv, .int .i64 f, lkCtx, .pointer none] 86 (0, 0)) ∧ w.heap.size ≤ g ∧ Le w w'
set_option maxHeartbeats 2000000 in
set_option maxRecDepth 100000 in
theorem inContext_any (A H : Option Addr) (n cap m c : Nat) (f : Int) (w : World) :
    Calls Try.prog 42 #[.agg #[.slice A n cap], .agg #[.slice H m c], .int .i64 f] w (InCtxOut (.slice A n cap) (.slice H m c) f w) := by
  go_enter Try.func42, Try.ntmps42
  go_wp2
  obtain ⟨c0, z0, c1, z1, L0⟩ := box2 w (.slice A n cap) (.slice H m c) 25 28
  have HZ : Hid (((w.alloc (.cells #[.slice A n cap] 25)).alloc (.cells #[.slice H m c] 28)).heap.size = w.heap.size + 1 + 1) := by show _ = _; simp
  generalize (w.alloc (.cells #[.slice A n cap] 25)).alloc (.cells #[.slice H m c] 28) = W at *
  go_wp2
  go_ret
  exact ⟨w.heap.size + 1 + 1, rfl, by rw [← HZ.out]; exact heap_alloc_new W _, by omega, L0.alloc _⟩

set_option maxHeartbeats 2000000 in
set_option maxRecDepth 100000 in
theorem leadsBack_any (A H : Option Addr) (n cap m c : Nat) (hs : List Flt) (i : Nat) (w : World) (hH : Sl w H m c hs) (lk : Lnk hs) (hi : i < hs.length) :
    Calls Try.prog 28 #[.agg #[.slice A n cap], .agg #[.slice H m c], .int .i64 i] w fun e w' => e = .returned (.bool (backAt hs i)) ∧ Le w w' := by
  obtain rfl := hH.len
  obtain ⟨b, off, rfl, hb, k0, k1, k2, k3, k4, -⟩ := hH.flt_at hi
  have hlt := lk.ctxlt (i : Int) (by omega) (by omega)
  have hx : ctxOf hs (i : Int) = hs[i].ctx := ctxOf_at hi
  have hbk : backAt hs i = (decide (0 ≤ hs[i].ctx) && hasI (chainN (ctxOf hs) hs.length hs[i].ctx) i) := by unfold backAt; rw [hx]
  rw [hx] at hlt
  clear hx
  generalize hs[i].ctx = cx at *
  have HB := Lib.hid hbk; clear hbk
  have hii : (0 : Int) ≤ (i : Int) ∧ (i : Int) < hs.length := by omega
  by_cases h0 : 0 ≤ cx
  · have hd : decide (0 ≤ cx) = true := decide_eq_true h0
    have HL := Lib.hid hlt
    go_enter Try.func28, Try.ntmps28
    go_wp2
    obtain ⟨c0, z0, c1, z1, L0⟩ := box2 w (.slice A n cap) (.slice (some ⟨b, off, none⟩) hs.length c) 25 28
    have k3' := (L0.cell hb).trans k3
    clear k0 k1 k2 k3 k4
    generalize (w.alloc (.cells #[.slice A n cap] 25)).alloc (.cells #[.slice (some ⟨b, off, none⟩) hs.length c] 28) = W at *
    go_wp2_with fail
    go_region_held3 (fun w' => w'.cell? ⟨w.heap.size, 0, none⟩ = some (.slice A n cap) ∧ w'.cell? ⟨w.heap.size + 1, 0, none⟩ = some (.slice (some ⟨b, off, none⟩) hs.length c))
      (first | exact ⟨f0, f1⟩ | exact ⟨e0, e1⟩ | exact ⟨d0, d1⟩ | exact ⟨c0, c1⟩)
      (first
        | (go_at_call 42; have hl1z := hl1.size; refine (inContext_any A (some ⟨b, off, none⟩) n cap hs.length c (i : Int) _).mono ?_; rintro e w2 ⟨g2, rfl, hg2, hs2, hl2⟩; have e0 := (hl2.cell (Nat.lt_of_lt_of_le z0 hl1.size)).trans d0; have e1 := (hl2.cell (Nat.lt_of_lt_of_le z1 hl1.size)).trans d1)
        | (go_at_call 42; refine (inContext_any A (some ⟨b, off, none⟩) n cap hs.length c cx _).mono ?_; rintro e w1 ⟨g1, rfl, hg1, hs1, hl1⟩; have d0 := (hl1.cell z0).trans c0; have d1 := (hl1.cell z1).trans c1)
        | (go_at_call 41
           have hg1l : g1 < w1.heap.size := (Array.getElem?_eq_some_iff.1 hg1).1
           refine (errorsIs_any (.slice A n cap) (some ⟨b, off, none⟩) hs.length c hs g1 g2 cx (i : Int) _ w2 (hH.le ((L0.drew.trans hl1).trans hl2)) lk ⟨_, _, _, rfl⟩ h0 HL.out (FCh.one ((Below.block hl2 _ hg1l).trans hg1)) hg2 ((cell_of_row w2 _ 2 _ _ _ hg2).trans rfl) (by omega)).mono ?_
           rintro e w3 ⟨rfl, hl3⟩
           have f0 := (hl3.cell (Nat.lt_of_lt_of_le z0 (hl1.trans hl2).size)).trans e0; have f1 := (hl3.cell (Nat.lt_of_lt_of_le z1 (hl1.trans hl2).size)).trans e1))
    all_goals go_wp2
    all_goals go_ret
    all_goals exact ⟨ret_bool (by rw [HB.out, decide_eq_true h0, Bool.true_and]), ((L0.drew.trans hl1).trans hl2).trans hl3⟩
  · have hd : decide (0 ≤ cx) = false := decide_eq_false h0
    go_enter Try.func28, Try.ntmps28
    go_wp2
    obtain ⟨c0, z0, c1, z1, L0⟩ := box2 w (.slice A n cap) (.slice (some ⟨b, off, none⟩) hs.length c) 25 28
    have k3' := (L0.cell hb).trans k3
    clear k0 k1 k2 k3 k4
    generalize (w.alloc (.cells #[.slice A n cap] 25)).alloc (.cells #[.slice (some ⟨b, off, none⟩) hs.length c] 28) = W at *
    have E0 := cell_ext z0 c0
    have E1 := cell_ext z1 c1
    go_wp2_with fail
    refine wp_region_ext (by kernel_rfl) (by kernel_rfl) ?_
    repeat (go_big_quiet_step (fail))
    refine wpQuiet_nil ?_
    intro _ hw'
    obtain ⟨gg, rfl⟩ := hw'
    have L1 := Le.ext W gg
    generalize W.ext gg = W2 at *
    go_wp2
    go_ret
    exact ⟨ret_bool (by rw [HB.out, hd]; rfl), L0.trans L1⟩
end Go.Proofs.Ythcolcmgfhkbeaa
