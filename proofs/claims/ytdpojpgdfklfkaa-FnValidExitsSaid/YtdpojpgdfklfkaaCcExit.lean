/- slices.Concat of two slices of Exit -/
import Derived.Test.YtdpojpgdfklfkaaAP
import Derived.Test.YtdpojpgdfklfkaaTyExit
import Derived.Test.YtdpojpgdfklfkaaRows
import Derived.Lib.AppendZerosOnto
namespace Go.Proofs.Ytdpojpgdfklfkaa
open Go.RowKit

instance instOneXit : EncOne Xit := ⟨by decide, fun x u hu => by simp [Enc.cells] at hu; rcases hu with rfl | rfl | rfl <;> rfl⟩
theorem infoCcExit : (Try.prog.info? 32).map (fun i => (i.zero, i.size, i.bytes)) = some (some (.agg #[.int .i64 0, .int .i64 0, .int .i64 0]), 3, 24) := by kernel_rfl
def GrowOutExit (w : World) (e : Ending) (w' : World) : Prop := ∃ g G, e = .returned (.slice (some ⟨g, 0, none⟩) 0 G) ∧ w'.ownsRow w.heap.size 32 3 (.slice (some ⟨g, 0, none⟩) 0 G) 0 [] ∧ Le w w'
set_option maxRecDepth 100000 in
theorem growExit_any (n : Nat) (w : World) (hn : 0 < n) (hb : n ≤ 4194304) : Calls Try.prog 53 #[.slice none 0 0, .int .i64 n] w (GrowOutExit w) := by
  obtain ⟨i0, hi, hz0, hz1, hz2⟩ := info_parts infoCcExit
  have hold : (Builtin.firstCells i0.size 0 (.slice none 0 0)).run Try.prog w.drew = .ok ([] : List Value).toArray w.drew := by simp [Builtin.firstCells]
  have hrz : ∀ ty, (Builtin.append_ #[26, 3] ty #[.slice none 0 0, .int .i64 (n : Int)]).run Try.prog w = .ok (.slice (some ⟨w.heap.size, 0, none⟩) (0 + n) (grownCap w (0 + n) 0 32)) (w.drew.alloc (.cells (([] : List Value).toArray ++ Builtin.zeroCells _ n ++ Builtin.zeroCells _ (grownCap w (0 + n) 0 32 - (0 + n))) 32)) := fun ty =>
    Lib.run_append_grow_zeros w 26 3 ty 32 i0 _ .i64 .i64 Try.underlying26 Try.underlying3 hi hz0 none 0 0 [] hold n hn (by omega) (by omega) (by omega) (by rw [hz2]; omega) (growslice_fits (by omega) (by rw [hz2]; omega))
  have hge := grownCap_ge w (0 + n) 0 32
  have hml := grownCap_le_maxLen w (0 + n) 0 32 (by unfold maxLen; omega)
  have hrow : ∀ G, n ≤ G → G ≤ maxLen → (w.drew.alloc (.cells (([] : List Value).toArray ++ Builtin.zeroCells (Value.agg #[.int .i64 0, .int .i64 0, .int .i64 0]).cells n ++ Builtin.zeroCells (Value.agg #[.int .i64 0, .int .i64 0, .int .i64 0]).cells (G - (0 + n))) 32)).ownsRow w.heap.size 32 3 (.slice (some ⟨w.heap.size, 0, none⟩) 0 G) 0 [] := by
    intro G h1 h2
    refine ⟨rfl, .inr ⟨w.heap.size, G, _, rfl, Nat.le_refl _, heap_alloc_new w.drew _, Nat.zero_le _, h2, ?_, by simp⟩⟩
    simp [size_zeroCells, Value.cells]
    omega
  have HR := Lib.hid hrow; clear hrow
  have hml' : grownCap w (0 + n) 0 32 ≤ 9223372036854775807 := by unfold maxLen at hml; exact hml
  have hge' : n ≤ grownCap w (0 + n) 0 32 := by omega
  have HML := Lib.hid hml
  clear hold hge hml hz0 hi hz1 hz2
  generalize grownCap w (0 + n) 0 32 = G at *
  go_enter Try.func53, Try.ntmps53
  go_wp2_with (at_builtin; refine Lib.wpList_append_run _ rfl _ _ _ _ rfl _ _ rfl rfl _ _ (hrz _) ?_)
  go_ret
  exact ⟨w.heap.size, G, rfl, by have h := HR.out G hge' HML.out; simp [Value.cells] at h; exact h, ((Le.refl w).alloc _).drew⟩

/-- a row of slices -/
structure SlV where
  A : Option Addr
  n : Nat
  c : Nat
set_option maxHeartbeats 1000000 in
set_option maxRecDepth 100000 in
theorem concatExit_any (A B : Option Addr) (n cap m c b : Nat) (xs ys : List Xit) (w : World) (hR : Sl w A n cap xs) (hL : Sl w B m c ys) (h0 : 0 < n + m) (hn : n + m ≤ 4194304)
    (cb0 : w.cell? ⟨b, 0, none⟩ = some (.slice A n cap)) (cb1 : w.cell? ⟨b, 1, none⟩ = some (.slice B m c)) (zb : b < w.heap.size) :
    Calls Try.prog 40 #[.slice (some ⟨b, 0, none⟩) 2 2] w fun e w' => ∃ v, e = .returned v ∧ Owd 32 w w' v (xs ++ ys) ∧ Le w w' := by
  obtain ⟨i0, hi, hz0, hz1, hz2⟩ := info_parts infoCcExit
  have hlen : (xs ++ ys).length = n + m := by simp [hR.len, hL.len]
  have HLen := Lib.hid hlen; clear hlen
  have hokA : ∀ x ∈ xs ++ ys, Enc.ok x := by
    intro x hx
    rcases List.mem_append.1 hx with hx | hx
    · exact hR.ok x hx
    · exact hL.ok x hx
  have HA := Lib.hid hokA; clear hokA
  have e2 : (n : Int) + (m : Int) = ((n + m : Nat) : Int) := by omega
  have E2 := Lib.hid e2; clear e2
  go_enter Try.func40, Try.ntmps40
  go_wp2
  refine wp_loop_rounds 3 ?_
  rw [rounds_succ]
  go_wp2
  rw [rounds_succ]
  go_wp2
  rw [rounds_succ]
  go_wp2_with fail
  rw [E2.out]
  refine (growExit_any (n + m) w h0 hn).mono ?_
  rintro e w1 ⟨g, G, rfl, O1, hle⟩
  have HLT := Lib.hid (fun k => O1.lt k)
  replace cb0 := (hle.cell zb).trans cb0
  replace cb1 := (hle.cell zb).trans cb1
  have S1 := hR.le hle
  have S2 := hL.le hle
  have hs := hle.size
  go_wp2
  refine wp_loop_rounds 3 ?_
  rw [rounds_succ]
  go_wp2_with (at_builtin; refine wpList_append_sl rfl (.tmp 31) (.tmp 32) 26 rfl w.heap.size 32 i0 _ 24 Try.underlying26 hi hz0 hz1 hz2 rfl (.slice (some ⟨g, 0, none⟩) 0 G) 0 ([] : List Xit) rfl O1 A n cap xs rfl S1 (by unfold maxLen; omega) (by omega) hs ?_; intro v1 w2 O2 hg1 _; simp only [Nat.zero_add, List.nil_append] at O2)
  have hle1 := hle.grown hg1 (fun k hk => (HLT.out k hk).1)
  have hs1 := hle1.size
  have hne : ∀ k, (Value.slice (some ⟨g, 0, none⟩) 0 G).ownBlock = some k → w.heap.size ≤ k := fun k hk => (HLT.out k hk).1
  replace cb0 := (hg1.cell (a := ⟨b, 0, none⟩) cb0 (fun e => by have h' : w.heap.size ≤ b := hne _ e.symm; omega))
  replace cb1 := (hg1.cell (a := ⟨b, 1, none⟩) cb1 (fun e => by have h' : w.heap.size ≤ b := hne _ e.symm; omega))
  have S3 := hL.le hle1
  clear hne hle S1 S2 O1 hg1
  rw [rounds_succ]
  go_wp2_with (at_builtin; refine wpList_append_sl rfl (.tmp 31) (.tmp 32) 26 rfl w.heap.size 32 i0 _ 24 Try.underlying26 hi hz0 hz1 hz2 rfl v1 n xs rfl O2 B m c ys rfl S3 (by unfold maxLen; omega) (by omega) hs1 ?_; intro v2 w3 O3 hg2 _)
  have hle2 := hle1.grown hg2 (fun k hk => (O2.lt k hk).1)
  have HO : Hid (Owd 32 w w3 v2 (xs ++ ys)) := by
    refine ⟨?_, HA.out⟩
    rw [HLen.out]; exact O3
  have hz3 : w.heap.size ≤ w2.heap.size := hs1
  replace cb0 := (hg2.cell (a := ⟨b, 0, none⟩) cb0 (fun e => by have := (O2.lt _ e.symm).1; simp at this; omega))
  clear hg2 O2 O3 S3
  rw [rounds_succ]
  go_wp2
  go_ret
  exact ⟨_, rfl, HO.out, hle2⟩
end Go.Proofs.Ytdpojpgdfklfkaa
