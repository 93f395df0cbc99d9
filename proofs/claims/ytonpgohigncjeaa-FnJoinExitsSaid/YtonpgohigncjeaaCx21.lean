/- one text of CcExit, CcE0, Rg, PxB, LvH -/
import Derived.Test.YtonpgohigncjeaaCx4
import Derived.Test.YtonpgohigncjeaaRows
import Derived.Test.YtonpgohigncjeaaCx2
import Derived.Test.YtonpgohigncjeaaCx5
import Derived.Test.YtonpgohigncjeaaCx11
import Derived.Lib.AppendZerosOnto
import Derived.Deep.RegionHeld3
import Derived.Deep.CutRange
namespace Go.Proofs.Ytonpgohigncjeaa
open Go.RowKit
set_option linter.unusedVariables false
section
instance instOneXit : EncOne Xit := ⟨by decide, fun x u hu => by simp [Enc.cells] at hu; rcases hu with rfl | rfl | rfl <;> rfl⟩
theorem infoCcExit : (Try.prog.info? 42).map (fun i => (i.zero, i.size, i.bytes)) = some (some (.agg #[.int .i64 0, .int .i64 0, .int .i64 0]), 3, 24) := by kernel_rfl
def GrowOutExit (w : World) (e : Ending) (w' : World) : Prop := ∃ g G, e = .returned (.slice (some ⟨g, 0, none⟩) 0 G) ∧ w'.ownsRow w.heap.size 42 3 (.slice (some ⟨g, 0, none⟩) 0 G) 0 [] ∧ Le w w'
set_option maxRecDepth 100000 in
theorem growExit_any (n : Nat) (w : World) (hn : 0 < n) (hb : n ≤ 4194304) : Calls Try.prog 71 #[.slice none 0 0, .int .i64 n] w (GrowOutExit w) := by
  obtain ⟨i0, hi, hz0, hz1, hz2⟩ := info_parts infoCcExit
  have hold : (Builtin.firstCells i0.size 0 (.slice none 0 0)).run Try.prog w.drew = .ok ([] : List Value).toArray w.drew := by simp [Builtin.firstCells]
  have hrz : ∀ ty, (Builtin.append_ #[26, 3] ty #[.slice none 0 0, .int .i64 (n : Int)]).run Try.prog w = .ok (.slice (some ⟨w.heap.size, 0, none⟩) (0 + n) (grownCap w (0 + n) 0 42)) (w.drew.alloc (.cells (([] : List Value).toArray ++ Builtin.zeroCells _ n ++ Builtin.zeroCells _ (grownCap w (0 + n) 0 42 - (0 + n))) 42)) := fun ty =>
    Lib.run_append_grow_zeros w 26 3 ty 42 i0 _ .i64 .i64 Try.underlying26 Try.underlying3 hi hz0 none 0 0 [] hold n hn (by omega) (by omega) (by omega) (by rw [hz2]; omega) (growslice_fits (by omega) (by rw [hz2]; omega))
  have hge := grownCap_ge w (0 + n) 0 42
  have hml := grownCap_le_maxLen w (0 + n) 0 42 (by unfold maxLen; omega)
  have hrow : ∀ G, n ≤ G → G ≤ maxLen → (w.drew.alloc (.cells (([] : List Value).toArray ++ Builtin.zeroCells (Value.agg #[.int .i64 0, .int .i64 0, .int .i64 0]).cells n ++ Builtin.zeroCells (Value.agg #[.int .i64 0, .int .i64 0, .int .i64 0]).cells (G - (0 + n))) 42)).ownsRow w.heap.size 42 3 (.slice (some ⟨w.heap.size, 0, none⟩) 0 G) 0 [] := by
    intro G h1 h2
    refine ⟨rfl, .inr ⟨w.heap.size, G, _, rfl, Nat.le_refl _, heap_alloc_new w.drew _, Nat.zero_le _, h2, ?_, by simp⟩⟩
    simp [size_zeroCells, Value.cells]
    omega
  have HR := Lib.hid hrow; clear hrow
  have hml' : grownCap w (0 + n) 0 42 ≤ 9223372036854775807 := by unfold maxLen at hml; exact hml
  have hge' : n ≤ grownCap w (0 + n) 0 42 := by omega
  have HML := Lib.hid hml
  clear hold hge hml hz0 hi hz1 hz2
  generalize grownCap w (0 + n) 0 42 = G at *
  go_enter Try.func71, Try.ntmps71
  go_wp2_with (at_builtin; refine Lib.wpList_append_run _ rfl _ _ _ _ rfl _ _ rfl rfl _ _ (hrz _) ?_)
  go_ret
  exact ⟨w.heap.size, G, rfl, by have h := HR.out G hge' HML.out; simp [Value.cells] at h; exact h, ((Le.refl w).alloc _).drew⟩

set_option maxHeartbeats 1000000 in
set_option maxRecDepth 100000 in
theorem concatExit_any (A B : Option Addr) (n cap m c b : Nat) (xs ys : List Xit) (w : World) (hR : Sl w A n cap xs) (hL : Sl w B m c ys) (h0 : 0 < n + m) (hn : n + m ≤ 4194304)
    (cb0 : w.cell? ⟨b, 0, none⟩ = some (.slice A n cap)) (cb1 : w.cell? ⟨b, 1, none⟩ = some (.slice B m c)) (zb : b < w.heap.size) :
    Calls Try.prog 49 #[.slice (some ⟨b, 0, none⟩) 2 2] w fun e w' => ∃ v, e = .returned v ∧ Owd 42 w w' v (xs ++ ys) ∧ Le w w' := by
  obtain ⟨i0, hi, hz0, hz1, hz2⟩ := info_parts infoCcExit
  have hlen : (xs ++ ys).length = n + m := by simp [hR.len, hL.len]
  have HLen := Lib.hid hlen; clear hlen
  have hokA : ∀ x ∈ xs ++ ys, Enc.ok x := by
    intro x hx
    rcases List.mem_append.1 hx with hx | hx
    · exact hR.ok x hx
    · exact hL.ok x hx
  have HA := Lib.hid hokA; clear hokA
  have e2 : (n : Int) + (m : Int) = ((n + m : Nat) : Int) := by omega
  have E2 := Lib.hid e2; clear e2
  go_enter Try.func49, Try.ntmps49
  go_wp2
  refine wp_loop_rounds 3 ?_
  rw [rounds_succ]
  go_wp2
  rw [rounds_succ]
  go_wp2
  rw [rounds_succ]
  go_wp2_with fail
  rw [E2.out]
  refine (growExit_any (n + m) w h0 hn).mono ?_
  rintro e w1 ⟨g, G, rfl, O1, hle⟩
  have HLT := Lib.hid (fun k => O1.lt k)
  replace cb0 := (hle.cell zb).trans cb0
  replace cb1 := (hle.cell zb).trans cb1
  have S1 := hR.le hle
  have S2 := hL.le hle
  have hs := hle.size
  go_wp2
  refine wp_loop_rounds 3 ?_
  rw [rounds_succ]
  go_wp2_with (at_builtin; refine wpList_append_sl rfl (.tmp 31) (.tmp 32) 26 rfl w.heap.size 42 i0 _ 24 Try.underlying26 hi hz0 hz1 hz2 rfl (.slice (some ⟨g, 0, none⟩) 0 G) 0 ([] : List Xit) rfl O1 A n cap xs rfl S1 (by unfold maxLen; omega) (by omega) hs ?_; intro v1 w2 O2 hg1 _; simp only [Nat.zero_add, List.nil_append] at O2)
  have hle1 := hle.grown hg1 (fun k hk => (HLT.out k hk).1)
  have hs1 := hle1.size
  have hne : ∀ k, (Value.slice (some ⟨g, 0, none⟩) 0 G).ownBlock = some k → w.heap.size ≤ k := fun k hk => (HLT.out k hk).1
  replace cb0 := (hg1.cell (a := ⟨b, 0, none⟩) cb0 (fun e => by have h' : w.heap.size ≤ b := hne _ e.symm; omega))
  replace cb1 := (hg1.cell (a := ⟨b, 1, none⟩) cb1 (fun e => by have h' : w.heap.size ≤ b := hne _ e.symm; omega))
  have S3 := hL.le hle1
  clear hne hle S1 S2 O1 hg1
  rw [rounds_succ]
  go_wp2_with (at_builtin; refine wpList_append_sl rfl (.tmp 31) (.tmp 32) 26 rfl w.heap.size 42 i0 _ 24 Try.underlying26 hi hz0 hz1 hz2 rfl v1 n xs rfl O2 B m c ys rfl S3 (by unfold maxLen; omega) (by omega) hs1 ?_; intro v2 w3 O3 hg2 _)
  have hle2 := hle1.grown hg2 (fun k hk => (O2.lt k hk).1)
  have HO : Hid (Owd 42 w w3 v2 (xs ++ ys)) := by
    refine ⟨?_, HA.out⟩
    rw [HLen.out]; exact O3
  have hz3 : w.heap.size ≤ w2.heap.size := hs1
  replace cb0 := (hg2.cell (a := ⟨b, 0, none⟩) cb0 (fun e => by have := (O2.lt _ e.symm).1; simp at this; omega))
  clear hg2 O2 O3 S3
  rw [rounds_succ]
  go_wp2
  go_ret
  exact ⟨_, rfl, HO.out, hle2⟩
end

section
theorem growExit_zero (w : World) : Calls Try.prog 71 #[.slice none 0 0, .int .i64 0] w fun e w' => e = .returned (.slice none 0 0) ∧ Le w w' := by
  go_enter Try.func71, Try.ntmps71
  go_wp2
  go_ret
  exact ⟨rfl, Le.refl _⟩
set_option maxHeartbeats 1000000 in
set_option maxRecDepth 100000 in
theorem concatExit_zero (A B : Option Addr) (cap c b : Nat) (w : World) (hR : Sl w A 0 cap ([] : List Xit)) (hL : Sl w B 0 c ([] : List Xit))
    (cb0 : w.cell? ⟨b, 0, none⟩ = some (.slice A 0 cap)) (cb1 : w.cell? ⟨b, 1, none⟩ = some (.slice B 0 c)) (zb : b < w.heap.size) :
    Calls Try.prog 49 #[.slice (some ⟨b, 0, none⟩) 2 2] w fun e w' => ∃ v, e = .returned v ∧ Owd 42 w w' v ([] : List Xit) ∧ Le w w' := by
  obtain ⟨i0, hi, hz0, hz1, hz2⟩ := info_parts infoCcExit
  go_enter Try.func49, Try.ntmps49
  go_wp2
  refine wp_loop_rounds 3 ?_
  rw [rounds_succ]
  go_wp2
  rw [rounds_succ]
  go_wp2
  rw [rounds_succ]
  go_wp2_with fail
  refine (growExit_zero w).mono ?_
  rintro e w1 ⟨rfl, hle⟩
  replace cb0 := (hle.cell zb).trans cb0
  replace cb1 := (hle.cell zb).trans cb1
  have S1 := hR.le hle
  have S2 := hL.le hle
  have hs := hle.size
  go_wp2
  refine wp_loop_rounds 3 ?_
  rw [rounds_succ]
  go_wp2_with (at_builtin; refine wpList_append_sl rfl (.tmp 31) (.tmp 32) 26 rfl w.heap.size 42 i0 _ 24 Try.underlying26 hi hz0 hz1 hz2 rfl (.slice none 0 0) 0 ([] : List Xit) rfl (World.ownsRow_nil _ _ _ _) A 0 cap ([] : List Xit) rfl S1 (by unfold maxLen; omega) (by omega) hs ?_; intro v1 w2 O2 hg1 _)
  have hle1 := hle.grown hg1 (fun k hk => by cases hk)
  have hs1 := hle1.size
  replace cb0 := (hg1.cell (a := ⟨b, 0, none⟩) cb0 (fun e => by cases e))
  replace cb1 := (hg1.cell (a := ⟨b, 1, none⟩) cb1 (fun e => by cases e))
  have S3 := hL.le hle1
  clear hle S1 S2 hg1
  rw [rounds_succ]
  go_wp2_with (at_builtin; refine wpList_append_sl rfl (.tmp 31) (.tmp 32) 26 rfl w.heap.size 42 i0 _ 24 Try.underlying26 hi hz0 hz1 hz2 rfl v1 0 ([] : List Xit) rfl O2 B 0 c ([] : List Xit) rfl S3 (by unfold maxLen; omega) (by omega) hs1 ?_; intro v2 w3 O3 hg2 _)
  have hle2 := hle1.grown hg2 (fun k hk => (O2.lt k hk).1)
  have HO : Hid (Owd 42 w w3 v2 ([] : List Xit)) := ⟨O3, fun _ h => nomatch h⟩
  replace cb0 := (hg2.cell (a := ⟨b, 0, none⟩) cb0 (fun e => by have := (O2.lt _ e.symm).1; simp at this; omega))
  clear hg2 O2 O3 S3
  rw [rounds_succ]
  go_wp2
  go_ret
  exact ⟨_, rfl, HO.out, hle2⟩
theorem concatE_any (A B : Option Addr) (n cap m c b : Nat) (xs ys : List Xit) (w : World) (hR : Sl w A n cap xs) (hL : Sl w B m c ys) (hn : n + m ≤ 4194304)
    (cb0 : w.cell? ⟨b, 0, none⟩ = some (.slice A n cap)) (cb1 : w.cell? ⟨b, 1, none⟩ = some (.slice B m c)) (zb : b < w.heap.size) :
    Calls Try.prog 49 #[.slice (some ⟨b, 0, none⟩) 2 2] w fun e w' => ∃ v, e = .returned v ∧ Owd 42 w w' v (xs ++ ys) ∧ Le w w' := by
  rcases Nat.eq_zero_or_pos (n + m) with h | h
  · obtain rfl : n = 0 := by omega
    obtain rfl : m = 0 := by omega
    obtain rfl : xs = [] := List.eq_nil_of_length_eq_zero hR.len
    obtain rfl : ys = [] := List.eq_nil_of_length_eq_zero hL.len
    exact concatExit_zero A B cap c b w hR hL cb0 cb1 zb
  · exact concatExit_any A B n cap m c b xs ys w hR hL h hn cb0 cb1 zb
theorem boxS2x (w : World) (a b : Value) (T : TypeId) : (w.alloc (.cells #[a, b] T)).cell? ⟨w.heap.size, 0, none⟩ = some a ∧ (w.alloc (.cells #[a, b] T)).cell? ⟨w.heap.size, 1, none⟩ = some b ∧ w.heap.size < (w.alloc (.cells #[a, b] T)).heap.size ∧ Le w (w.alloc (.cells #[a, b] T)) := by
  refine ⟨?_, ?_, by simp, Le.new w _⟩ <;> (rw [World.cell?_alloc_at _ _ _ _ rfl]; rfl)
end

section
theorem wpAnyH_takeL {P : Program} {l : List Oper} {Q : Exit → Act → World → Prop} {md : Region.Mode} {S : World → Prop} {i : Nat} {oi : Oper} {v : Value} {fuel : Nat} {listed : Array Bool} {a : Act} {w : World} (hi : l[i]? = some oi)
    (hs : Region.noSelect l.toArray = true) (hf : Region.free md l.toArray listed i = true) (hr : (Region.ready md l.toArray listed).contains i = true)
    (hQ : ∀ c a w, Q (.panic c) (a.put oi.dst v) w → Q (.panic c) a w) (hy : YieldsIf P l.toArray S oi v a) (hS : S w)
    (h : wpAnyH P md l.toArray Q S fuel (listed.setIfInBounds i true) (a.put oi.dst v) w) : wpAnyH P md l.toArray Q S (fuel + 1) listed a w :=
  wpAnyH_take (by rw [List.getElem?_toArray]; exact hi) hs hf hr hQ hy hS h
theorem AllReadyH.consL {P : Program} {l : List Oper} {Q : Exit → Act → World → Prop} {md : Region.Mode} {S : World → Prop} {fuel : Nat} {listed : Array Bool} {a : Act} {w : World} {i : Nat} {o : Oper} {rs : List Nat} (ho : l[i]? = some o)
    (h : ∀ K' : Act → World → Prop, Shut (∀ a w, S w → (S w → wpAnyH P md l.toArray Q S fuel (listed.setIfInBounds i true) a w) → K' a w) → if Region.wanted o (yielded l.toArray a.tmps) = true then Oper.wp P o a w K' Q else K' (a.put o.dst undef) w)
    (hs : AllReadyH P md l.toArray Q S fuel listed a w rs) : AllReadyH P md l.toArray Q S fuel listed a w (i :: rs) :=
  AllReadyH.cons (by rw [List.getElem?_toArray]; exact ho) h hs
end

section
theorem vxs_app {xs : List Cls} {a b : List Xit} (h : vxs xs (a ++ b) = true) : vxs xs a = true ∧ vxs xs b = true := by
  obtain ⟨h1, h2, h3⟩ := vxs_iff.1 h
  rw [List.length_append] at h2
  exact ⟨vxs_iff.2 ⟨h1, by omega, fun x hx => h3 x (List.mem_append.2 (.inl hx))⟩, vxs_iff.2 ⟨h1, by omega, fun x hx => h3 x (List.mem_append.2 (.inr hx))⟩⟩
theorem vxs_join (xs : List Cls) (a b : List Xit) : vxs xs (a ++ b) = (vxs xs a && vxs xs b && decide (a.length + b.length ≤ 8)) := by
  rw [Bool.eq_iff_iff, Bool.and_eq_true, Bool.and_eq_true, decide_eq_true_eq]
  constructor
  · intro h
    have := (vxs_iff.1 h).2.1
    rw [List.length_append] at this
    exact ⟨vxs_app h, this⟩
  · rintro ⟨⟨h1, h2⟩, h3⟩
    have g1 := vxs_iff.1 h1
    have g2 := vxs_iff.1 h2
    refine vxs_iff.2 ⟨g1.1, by rw [List.length_append]; exact h3, fun x hx => ?_⟩
    rcases List.mem_append.1 hx with hx | hx
    · exact g1.2.2 x hx
    · exact g2.2.2 x hx
theorem vxs_and (xs : List Cls) (a b : List Xit) : (vxs xs a && vxs xs b && vxs xs (a ++ b)) = vxs xs (a ++ b) := by
  cases h : vxs xs (a ++ b)
  · simp
  · rw [(vxs_app h).1, (vxs_app h).2]; rfl
def jxX (xs : List Cls) (a b : List Xit) : List Xit := cond (vxs xs (a ++ b)) (a ++ b) []
theorem jxX_len (xs : List Cls) (a b : List Xit) : (jxX xs a b).length ≤ 1048576 := by
  unfold jxX
  cases h : vxs xs (a ++ b)
  · simp
  · have := (vxs_iff.1 h).2.1
    show (a ++ b).length ≤ _
    omega
theorem ret2x {v u : Value} {a b : Bool} (h : a = b) (hv : v = u) : Ending.returned (.tuple #[v, .bool a]) = .returned (.tuple #[u, .bool b]) := by rw [h, hv]
set_option maxRecDepth 100000 in
theorem copyExits_any (A : Option Addr) (n cap : Nat) (L : List Xit) (w : World) (hR : Sl w A n cap L) (hn : n ≤ 2097152) :
    Calls Try.prog 46 #[.slice A n cap] w fun e w' => ∃ v, e = .returned v ∧ Owd 42 w w' v L ∧ Le w w' := by
  obtain ⟨i0, hi, hz0, hz1, hz2⟩ := info_parts infoCcExit
  have hlen := hR.len
  have hokA := Lib.hid hR.ok
  go_enter Try.func46, Try.ntmps46
  go_wp2_with (at_builtin; refine wpList_append_sl rfl (.tmp 3) (.tmp 4) 26 rfl (w.heap.size) 42 i0 _ 24 Try.underlying26 hi hz0 hz1 hz2 rfl (.slice (some ⟨w.heap.size, 0, none⟩) 0 0) 0 ([] : List Xit) rfl (own_empty (by simp) (by simp)) A n cap L rfl (hR.alloc _) (by unfold maxLen; omega) (by omega) (by simp) ?_; intro v1 w1 O1 hg1 _; simp only [Nat.zero_add, List.nil_append] at O1; have L1 := ((Le.refl _).alloc _).grown hg1 (fun k hk => by simp [Value.ownBlock] at hk; omega); clear hg1)
  go_ret
  have hd : Owd 42 w w1 v1 L := ⟨by rw [hlen]; exact O1, hokA.out⟩
  exact ⟨_, rfl, hd, L1⟩
set_option maxHeartbeats 1000000 in
set_option maxRecDepth 100000 in
theorem sJoinExits_any (T A C : Option Addr) (m c n cap k d : Nat) (xs : List Cls) (a b : List Xit) (hsa : n ≤ 1048576) (hsb : k ≤ 1048576) (w : World) (hT : Sl w T m c xs) (hR : Sl w A n cap a) (hQ : Sl w C k d b) :
    Calls Try.prog 22 #[.agg #[.slice T m c], .slice A n cap, .slice C k d] w fun e w' => ∃ v, e = .returned (.tuple #[v, .bool (vxs xs (a ++ b))]) ∧ Owd 42 w w' v (jxX xs a b) ∧ Le w w' := by
  obtain ⟨i0, hi, hz0, hz1, hz2⟩ := info_parts infoCcExit
  have HX : Hid (jxX xs a b = cond (vxs xs (a ++ b)) (a ++ b) []) := rfl
  have HV := Lib.hid (vxs_and xs a b)
  have hla := hR.len
  have hlb := hQ.len
  obtain ⟨AB, HAB⟩ : ∃ AB, Hid (a ++ b = AB) := ⟨_, rfl⟩
  have HLN : Hid (AB.length = n + k) := by show _ = _; rw [← HAB.out, List.length_append, hla, hlb]
  have HOK : Hid (∀ x ∈ AB, Enc.ok x) := by
    rw [← HAB.out]
    intro x hx
    rcases List.mem_append.1 hx with hx | hx
    · exact hR.ok x hx
    · exact hQ.ok x hx
  rw [HAB.out] at HX HV
  rw [HAB.out]
  subst hla
  subst hlb
  go_enter Try.func22, Try.ntmps22
  go_wp2_with fail
  obtain ⟨ct, zt, hleB⟩ := box1 w (.slice T m c) 25
  have L0 := hleB
  clear hleB
  generalize w.alloc (.cells #[.slice T m c] 25) = W at *
  have zt0 := zt
  have HW := Lib.hid L0
  refine (copyExits_any A a.length cap a W (hR.le L0) (by omega)).mono ?_
  rintro e w1 ⟨v, rfl, D, hle⟩
  have SQ := hQ.le (L0.trans hle)
  have O1 := D.row
  have hsW := hle.size
  replace ct := (hle.cell zt).trans ct
  replace zt := Nat.lt_of_lt_of_le zt hle.size
  replace L0 := L0.trans hle
  clear hle D
  go_wp2_with (at_builtin; refine wpList_append_sl rfl (.tmp 10) (.tmp 11) 26 rfl W.heap.size 42 i0 _ 24 Try.underlying26 hi hz0 hz1 hz2 rfl v a.length a rfl O1 C b.length d b rfl SQ (by unfold maxLen; omega) (by omega) hsW ?_; intro v1 w2 O2 hg1 _; have L2 := L0.grown hg1 (fun k hk => by have := (O1.lt k hk).1; omega); replace ct := (hg1.cell (a := ⟨w.heap.size, 0, none⟩) ct (fun e => by have := (O1.lt _ e.symm).1; simp at this; omega)); replace zt := Nat.lt_of_lt_of_le zt hg1.size; clear hg1 O1 L0 SQ)
  rw [HAB.out, ← HLN.out] at O2
  have D2 : Owd 42 W w2 v1 AB := ⟨O2, HOK.out⟩
  obtain ⟨A1, q1, rfl, S2, -⟩ := D2.form (by decide)
  have HD := Lib.hid D2
  have hl2 : AB.length ≤ 2097152 := by have := HLN.out; omega
  clear O2 D2
  refine (svalidExits_any T A m c a.length cap xs a w2 (hT.le L2) (hR.le L2)).mono ?_
  rintro e w3 ⟨rfl, hle⟩
  replace ct := (hle.cell zt).trans ct
  replace zt := Nat.lt_of_lt_of_le zt hle.size
  have L3 := L2.trans hle
  have S3 := S2.le hle
  have HD3 := Lib.hid (HD.out.le hle)
  clear hle HD S2 L2
  have HN : Hid (vxs xs AB = false → Owd 42 w w3 (.slice none 0 0) (jxX xs a b)) := fun h => by rw [HX.out, h]; exact Owd.nil _ _ _
  cases h1 : vxs xs a
  · have hf : vxs xs AB = false := by have := HV.out; rw [h1] at this; simpa using this.symm
    have HO := Lib.hid (HN.out hf)
    have HF := Lib.hid hf
    clear hf
    go_wp2
    exact bodyPost_ret (v := .tuple #[.slice none 0 0, .bool false]) (by simp [results, Try.results22, go_sem]) rfl ⟨_, ret2x HF.out.symm rfl, HO.out, L3⟩
  · go_wp2_with fail
    refine (svalidExits_any T C m c b.length d xs b w3 (hT.le L3) (hQ.le L3)).mono ?_
    rintro e w4 ⟨rfl, hle⟩
    replace ct := (hle.cell zt).trans ct
    replace zt := Nat.lt_of_lt_of_le zt hle.size
    have L4 := L3.trans hle
    have S4 := S3.le hle
    have HD4 := Lib.hid (HD3.out.le hle)
    clear hle S3
    cases h2 : vxs xs b
    · have hf : vxs xs AB = false := by have := HV.out; rw [h1, h2] at this; simpa using this.symm
      have HO : Hid (Owd 42 w w4 (.slice none 0 0) (jxX xs a b)) := by show Owd _ _ _ _ _; rw [HX.out, hf]; exact Owd.nil _ _ _
      have HF := Lib.hid hf
      clear hf
      go_wp2
      exact bodyPost_ret (v := .tuple #[.slice none 0 0, .bool false]) (by simp [results, Try.results22, go_sem]) rfl ⟨_, ret2x HF.out.symm rfl, HO.out, L4⟩
    · go_wp2_with fail
      refine (svalidExits_any T A1 m c AB.length q1 xs AB w4 (hT.le L4) S4).mono ?_
      rintro e w5 ⟨rfl, hle⟩
      have L5 := L4.trans hle
      have HD5 := Lib.hid (HD4.out.le hle)
      clear hle S4
      cases h3 : vxs xs AB
      · have HO : Hid (Owd 42 w w5 (.slice none 0 0) (jxX xs a b)) := by show Owd _ _ _ _ _; rw [HX.out, h3]; exact Owd.nil _ _ _
        go_wp2
        exact bodyPost_ret (v := .tuple #[.slice none 0 0, .bool false]) (by simp [results, Try.results22, go_sem]) rfl ⟨_, ret2x h3.symm rfl, HO.out, L5⟩
      · have HO : Hid (Owd 42 w w5 (.slice A1 AB.length q1) (jxX xs a b)) := by show Owd _ _ _ _ _; rw [HX.out, h3]; exact HD5.out.mono HW.out
        go_wp2
        exact bodyPost_ret (v := .tuple #[.slice A1 AB.length q1, .bool true]) (by simp [results, Try.results22, go_sem]) rfl ⟨_, ret2x h3.symm rfl, HO.out, L5⟩
set_option maxHeartbeats 1000000 in
set_option maxRecDepth 100000 in
theorem iJoinExits_any (T A C : Option Addr) (m c n cap k d : Nat) (xs : List Cls) (a b : List Xit) (hsa : n ≤ 1048576) (hsb : k ≤ 1048576) (w : World) (hT : Sl w T m c xs) (hR : Sl w A n cap a) (hQ : Sl w C k d b) :
    Calls Try.prog 21 #[.agg #[.slice T m c], .slice A n cap, .slice C k d] w fun e w' => ∃ v, e = .returned (.tuple #[v, .bool (vxs xs (a ++ b))]) ∧ Owd 42 w w' v (jxX xs a b) ∧ Le w w' := by
  have HX : Hid (jxX xs a b = cond (vxs xs (a ++ b)) (a ++ b) []) := rfl
  have HV := Lib.hid (vxs_join xs a b)
  have hla := hR.len
  have hlb := hQ.len
  obtain ⟨Z, HZ⟩ : ∃ Z, Hid (vxs xs (a ++ b) = Z) := ⟨_, rfl⟩
  obtain ⟨AB, HAB⟩ : ∃ AB, Hid (a ++ b = AB) := ⟨_, rfl⟩
  rw [HZ.out, HAB.out] at HX
  rw [HZ.out] at HV
  rw [HZ.out]
  clear HZ
  subst hla
  subst hlb
  go_enter Try.func21, Try.ntmps21
  go_wp2_with fail
  obtain ⟨ct, zt, hleB⟩ := box1 w (.slice T m c) 25
  have L0 := hleB
  clear hleB
  generalize w.alloc (.cells #[.slice T m c] 25) = W at *
  refine (iValidExits_any T A m c a.length cap xs a W (hT.le L0) (hR.le L0)).mono ?_
  rintro e w3 ⟨rfl, hle⟩
  replace ct := (hle.cell zt).trans ct
  replace zt := Nat.lt_of_lt_of_le zt hle.size
  replace L0 := L0.trans hle
  clear hle
  have HN : Hid (∀ w', Z = false → Owd 42 w w' (.slice none 0 0) (jxX xs a b)) := fun w' h => by rw [HX.out, h]; exact Owd.nil _ _ _
  cases h1 : vxs xs a
  · have hf : Z = false := by rw [HV.out, h1]; rfl
    have HO := Lib.hid (HN.out w3 hf)
    subst hf
    go_wp2
    exact bodyPost_ret (v := .tuple #[.slice none 0 0, .bool false]) (by simp [results, Try.results21, go_sem]) rfl ⟨_, rfl, HO.out, L0⟩
  · go_wp2_with fail
    refine (iValidExits_any T C m c b.length d xs b w3 (hT.le L0) (hQ.le L0)).mono ?_
    rintro e w4 ⟨rfl, hle⟩
    replace ct := (hle.cell zt).trans ct
    replace zt := Nat.lt_of_lt_of_le zt hle.size
    replace L0 := L0.trans hle
    clear hle
    cases h2 : vxs xs b
    · have hf : Z = false := by rw [HV.out, h2]; simp
      have HO := Lib.hid (HN.out w4 hf)
      subst hf
      go_wp2
      exact bodyPost_ret (v := .tuple #[.slice none 0 0, .bool false]) (by simp [results, Try.results21, go_sem]) rfl ⟨_, rfl, HO.out, L0⟩
    · have hws : IntKind.i64.wrap ((a.length : Int) + (b.length : Int)) = (a.length : Int) + (b.length : Int) := IntWalk.i64_in _ (by omega)
      by_cases h3 : a.length + b.length ≤ 8
      · have hZ : Z = true := by rw [HV.out, h1, h2, decide_eq_true h3]; rfl
        subst hZ
        have hb8 : decide ((8 : Int) < (a.length : Int) + (b.length : Int)) = false := by rw [decide_eq_false_iff_not]; omega
        have SA := hR.le L0
        have SB := hQ.le L0
        clear HV HN
        go_wp2_with fail
        obtain ⟨y0, y1, zy, LB⟩ := boxS2x w4 (.slice A a.length cap) (.slice C b.length d) 26
        have L1 := L0.trans LB
        replace SA := SA.le LB
        replace SB := SB.le LB
        clear LB
        generalize w4.alloc _ = WB at *
        refine (concatE_any A C a.length cap b.length d _ a b _ SA SB (by omega) y0 y1 zy).mono ?_
        rintro e w5 ⟨v, rfl, D, hle⟩
        rw [HAB.out] at D
        have HO : Hid (Owd 42 w w5 v (jxX xs a b)) := by show Owd _ _ _ _ _; rw [HX.out]; exact D.mono L1
        go_wp2
        exact bodyPost_ret (v := .tuple #[v, .bool true]) (by simp [results, Try.results21, go_sem]) rfl ⟨_, rfl, HO.out, L1.trans hle⟩
      · have hf : Z = false := by rw [HV.out, decide_eq_false h3]; simp
        have HO := Lib.hid (HN.out w4 hf)
        subst hf
        have hb8 : decide ((8 : Int) < (a.length : Int) + (b.length : Int)) = true := by rw [decide_eq_true_iff]; omega
        go_wp2
        exact bodyPost_ret (v := .tuple #[.slice none 0 0, .bool false]) (by simp [results, Try.results21, go_sem]) rfl ⟨_, rfl, HO.out, L0⟩
/-! PushExit -/
set_option maxHeartbeats 1000000 in
set_option maxRecDepth 100000 in
theorem iPushExit_any (T A : Option Addr) (m c n cap : Nat) (xs : List Cls) (a : List Xit) (x : Xit) (hx : Enc.ok x) (hsa : n ≤ 1048576) (w : World) (hT : Sl w T m c xs) (hR : Sl w A n cap a) :
    Calls Try.prog 16 #[.agg #[.slice T m c], .slice A n cap, .agg #[.int .i64 x.kind, .int .i64 x.a, .int .i64 x.b]] w fun e w' => ∃ v, e = .returned (.tuple #[v, .bool (vxs xs (a ++ [x]))]) ∧ Owd 42 w w' v (jxX xs a [x]) ∧ Le w w' := by
  obtain ⟨ct, zt, x0, x1, x2, zx, L0⟩ := boxTX w (.slice T m c) (.int .i64 x.kind) (.int .i64 x.a) (.int .i64 x.b) 25 42
  have hsW : Hid (((w.alloc (.cells #[.slice T m c] 25)).alloc (.cells #[.int .i64 x.kind, .int .i64 x.a, .int .i64 x.b] 42)).heap.size = w.heap.size + 1 + 1) := by show _ = _; simp
  go_enter Try.func16, Try.ntmps16
  go_wp2_with fail
  generalize (w.alloc (.cells #[.slice T m c] 25)).alloc _ = W at *
  have SX := sl_one (w := W) (cs := #[.int .i64 x.kind, .int .i64 x.a, .int .i64 x.b]) (T := 42) (b := w.heap.size + 1 + 1) x rfl hx hsW.out.symm
  have L1 := L0.alloc (.cells #[.int .i64 x.kind, .int .i64 x.a, .int .i64 x.b] 42)
  have HJ := iJoinExits_any T A (some ⟨w.heap.size + 1 + 1, 0, none⟩) m c n cap 1 1 xs a [x] hsa (by omega) _ (hT.le L1) (hR.le L1) SX
  have HZ : ∃ Z, Hid (vxs xs (a ++ [x]) = Z) := ⟨_, rfl⟩
  obtain ⟨Z, HZ⟩ := HZ
  rw [HZ.out] at HJ
  generalize W.alloc _ = WX at *
  refine HJ.mono ?_
  rintro e w5 ⟨v, rfl, D, hle⟩
  have HO := Lib.hid (D.mono L1)
  have L2 := L1.trans hle
  clear HJ D hle SX hsW
  go_wp2
  exact bodyPost_ret (v := .tuple #[v, .bool Z]) (by simp [results, Try.results16, go_sem]) rfl ⟨v, ret2x HZ.out.symm rfl, HO.out, L2⟩
set_option maxHeartbeats 2000000 in
set_option maxRecDepth 100000 in
theorem sPushExit_any (T A : Option Addr) (m c n cap : Nat) (xs : List Cls) (a : List Xit) (x : Xit) (hx : Enc.ok x) (hsa : n ≤ 1048576) (w : World) (hT : Sl w T m c xs) (hR : Sl w A n cap a) :
    Calls Try.prog 17 #[.agg #[.slice T m c], .slice A n cap, .agg #[.int .i64 x.kind, .int .i64 x.a, .int .i64 x.b]] w fun e w' => ∃ v, e = .returned (.tuple #[v, .bool (vxs xs (a ++ [x]))]) ∧ Owd 42 w w' v (jxX xs a [x]) ∧ Le w w' := by
  obtain ⟨i0, hi, hz0, hz1, hz2⟩ := info_parts infoCcExit
  have HX : Hid (jxX xs a [x] = cond (vxs xs (a ++ [x])) (a ++ [x]) []) := rfl
  have HV : Hid (vxs xs a = false → vxs xs (a ++ [x]) = false) := fun h => by
    cases h2 : vxs xs (a ++ [x])
    · rfl
    · rw [(vxs_app h2).1] at h; cases h
  obtain ⟨AB, HAB⟩ : ∃ AB, Hid (a ++ [x] = AB) := ⟨_, rfl⟩
  have hla := hR.len
  have HLN : Hid (AB.length = n + 1) := by show _ = _; rw [← HAB.out, List.length_append, hla]; rfl
  have HOK : Hid (∀ x ∈ AB, Enc.ok x) := by
    rw [← HAB.out]
    intro y hy
    rcases List.mem_append.1 hy with hy | hy
    · exact hR.ok y hy
    · simp at hy; subst hy; exact hx
  rw [HAB.out] at HX HV
  rw [HAB.out]
  subst hla
  obtain ⟨ct, zt, x0, x1, x2, zx, L0⟩ := boxTX w (.slice T m c) (.int .i64 x.kind) (.int .i64 x.a) (.int .i64 x.b) 25 42
  have hsW : Hid (((w.alloc (.cells #[.slice T m c] 25)).alloc (.cells #[.int .i64 x.kind, .int .i64 x.a, .int .i64 x.b] 42)).heap.size = w.heap.size + 1 + 1) := by show _ = _; simp
  go_enter Try.func17, Try.ntmps17
  go_wp2_with fail
  generalize (w.alloc (.cells #[.slice T m c] 25)).alloc _ = W at *
  have HCE : Hid (∀ w' : World, Le W w' → w'.cell? ⟨w.heap.size + 1, 0, none⟩ = some (.int .i64 x.kind) ∧ w'.cell? ⟨w.heap.size + 1, 1, none⟩ = some (.int .i64 x.a) ∧ w'.cell? ⟨w.heap.size + 1, 2, none⟩ = some (.int .i64 x.b)) := fun w' h => ⟨(h.cell zx).trans x0, (h.cell zx).trans x1, (h.cell zx).trans x2⟩
  have HCT : Hid (∀ w' : World, Le W w' → w'.cell? ⟨w.heap.size, 0, none⟩ = some (.slice T m c)) := fun w' h => (h.cell zt).trans ct
  have LD : Le W W.drew := (Le.refl W).drew
  have S1 := hR.le (L0.trans LD)
  clear ct x0 x1 x2
  have h63 : a.length + 1 ≤ maxLen := by unfold maxLen; omega
  have hby : (a.length + 1) * 24 ≤ 140737488355328 := by omega
  have HD : Hid (∀ (v : Value) (wx : World), wx.ownsRow W.drew.heap.size 42 3 v (a.length + 1) ((a ++ [x]).flatMap Enc.cells) → Owd 42 W.drew wx v AB) := fun v wx h => by rw [HAB.out] at h; exact ⟨by rw [HLN.out]; exact h, HOK.out⟩
  go_cut [8] from 9 (fun s8 W1 => Owd 42 W.drew W1 s8 AB ∧ Le W W1)
  case first =>
    refine wp_region_noPanic ?_
    refine wp_region_held_drew (S := fun w' => w'.cell? ⟨w.heap.size + 1, 0, none⟩ = some (.int .i64 x.kind) ∧ w'.cell? ⟨w.heap.size + 1, 1, none⟩ = some (.int .i64 x.a) ∧ w'.cell? ⟨w.heap.size + 1, 2, none⟩ = some (.int .i64 x.b)) (by kernel_rfl) (HCE.out _ LD) (fun hHeld => ?_)
    refine wpAnyH_takeL (i := 0) (v := ?_) rfl (by kernel_rfl) (by kernel_rfl) (by kernel_rfl) (fun _ _ _ h => h) (Or.inl ⟨by rfl, ?_⟩) (by assumption) ?_
    rotate_left 1
    · (intro w hSw; (try dsimp only at hSw); go_simp; try with_reducible rfl)
    try simp only [Act.put, List.setIfInBounds_toArray, List.set_cons_zero, List.set_cons_succ]
    refine wpAnyH_takeL (i := 2) (v := ?_) rfl (by kernel_rfl) (by kernel_rfl) (by kernel_rfl) (fun _ _ _ h => h) (Or.inl ⟨by rfl, ?_⟩) (by assumption) ?_
    rotate_left 1
    · (intro w hSw; (try dsimp only at hSw); go_simp; try with_reducible rfl)
    try simp only [Act.put, List.setIfInBounds_toArray, List.set_cons_zero, List.set_cons_succ]
    refine wpAnyH_ready (rs := [1, 3]) (by kernel_rfl) (by simp) (AllReadyH.consL (i := 1) rfl (fun K hK => ?_) (AllReadyH.consL (i := 3) rfl (fun K hK => ?_) AllReadyH.nil))
    · go_simp
      go_at_call 46
      refine (copyExits_any A a.length cap a _ S1 (by omega)).mono ?_
      rintro e w3 ⟨v3, rfl, D3, hle⟩
      have L3 := LD.trans hle
      have O3 := D3.row
      have SX := sl_one (w := w3) (cs := #[.int .i64 x.kind, .int .i64 x.a, .int .i64 x.b]) (T := 42) (b := w3.heap.size) x rfl hx rfl
      have LB := Le.new w3 (.cells #[.int .i64 x.kind, .int .i64 x.a, .int .i64 x.b] 42)
      obtain ⟨WB, hWB⟩ : ∃ WB, w3.alloc (.cells #[.int .i64 x.kind, .int .i64 x.a, .int .i64 x.b] 42) = WB := ⟨_, rfl⟩
      rw [hWB] at SX LB
      have L4 := L3.trans LB
      have O4 := own_le O3 LB
      refine hK.out _ _ ((HCE.out _ L3)) (fun hHeld => ?_)
      clear hK K
      try simp only [Act.put, List.setIfInBounds_toArray, List.set_cons_zero, List.set_cons_succ]
      refine wpAnyH_ready (rs := [3]) (by kernel_rfl) (by simp) (AllReadyH.consL (i := 3) rfl (fun K hK => ?_) AllReadyH.nil)
      go_simp
      refine hK.out _ _ ((HCE.out _ L4)) (fun hHeld => ?_)
      clear hK K
      try simp only [Act.put, List.setIfInBounds_toArray, List.set_cons_zero, List.set_cons_succ]
      refine wpAnyH_ready (rs := [4]) (by kernel_rfl) (by simp) (AllReadyH.consL (i := 4) rfl (fun K hK => ?_) AllReadyH.nil)
      refine step_append_sl rfl (.tmp 10) (.tmp 12) 26 rfl W.drew.heap.size 42 i0 _ 24 Try.underlying26 hi hz0 hz1 hz2 rfl v3 a.length a rfl O4 (some ⟨w3.heap.size, 0, none⟩) 1 1 [x] rfl SX h63 hby L4.size ?_
      intro v5 w5 O5 hg5 _
      have L5 := L4.grown hg5 (fun k hk => (O4.lt k hk).1)
      refine hK.out _ _ ((HCE.out _ L5)) (fun hHeld => ?_)
      clear hK K
      try simp only [Act.put, List.setIfInBounds_toArray, List.set_cons_zero, List.set_cons_succ]
      refine wpAnyH_takeL (i := 5) (v := ?_) rfl (by kernel_rfl) (by kernel_rfl) (by kernel_rfl) (fun _ _ _ h => h) (Or.inl ⟨by rfl, ?_⟩) (by assumption) ?_
      rotate_left 1
      · (intro w hSw; (try dsimp only at hSw); go_simp; try with_reducible rfl)
      try simp only [Act.put, List.setIfInBounds_toArray, List.set_cons_zero, List.set_cons_succ]
      refine wpAnyH_done (by kernel_rfl) ?_ _
      refine NoPanic.normal ?_
      go_wp2_with fail
      go_meet
      exact ⟨HD.out _ _ O5, L5⟩
    · have SX := sl_one (w := W) (cs := #[.int .i64 x.kind, .int .i64 x.a, .int .i64 x.b]) (T := 42) (b := W.heap.size) x rfl hx rfl
      have LB := Le.new W (.cells #[.int .i64 x.kind, .int .i64 x.a, .int .i64 x.b] 42)
      obtain ⟨WB, hWB⟩ : ∃ WB, W.alloc (.cells #[.int .i64 x.kind, .int .i64 x.a, .int .i64 x.b] 42) = WB := ⟨_, rfl⟩
      rw [hWB] at SX LB
      have LB2 : Le W.drew WB.drew := by rw [← hWB]; exact Le.new W.drew _
      have L4 := LD.trans LB2
      go_simp
      refine hK.out _ _ ((HCE.out _ L4)) (fun hHeld => ?_)
      clear hK K
      try simp only [Act.put, List.setIfInBounds_toArray, List.set_cons_zero, List.set_cons_succ]
      refine wpAnyH_ready (rs := [1]) (by kernel_rfl) (by simp) (AllReadyH.consL (i := 1) rfl (fun K hK => ?_) AllReadyH.nil)
      go_simp
      go_at_call 46
      refine (copyExits_any A a.length cap a _ (S1.le LB2) (by omega)).mono ?_
      rintro e w3 ⟨v3, rfl, D3, hle⟩
      have L5 := L4.trans hle
      have O3 := own_mono D3.row LB2.size
      have SX3 := (SX.le (Le.refl WB).drew).le hle
      refine hK.out _ _ ((HCE.out _ L5)) (fun hHeld => ?_)
      clear hK K
      try simp only [Act.put, List.setIfInBounds_toArray, List.set_cons_zero, List.set_cons_succ]
      refine wpAnyH_ready (rs := [4]) (by kernel_rfl) (by simp) (AllReadyH.consL (i := 4) rfl (fun K hK => ?_) AllReadyH.nil)
      refine step_append_sl rfl (.tmp 10) (.tmp 12) 26 rfl W.drew.heap.size 42 i0 _ 24 Try.underlying26 hi hz0 hz1 hz2 rfl v3 a.length a rfl O3 (some ⟨W.heap.size, 0, none⟩) 1 1 [x] rfl SX3 h63 hby L5.size ?_
      intro v5 w5 O5 hg5 _
      have L6 := L5.grown hg5 (fun k hk => (O3.lt k hk).1)
      refine hK.out _ _ ((HCE.out _ L6)) (fun hHeld => ?_)
      clear hK K
      try simp only [Act.put, List.setIfInBounds_toArray, List.set_cons_zero, List.set_cons_succ]
      refine wpAnyH_takeL (i := 5) (v := ?_) rfl (by kernel_rfl) (by kernel_rfl) (by kernel_rfl) (fun _ _ _ h => h) (Or.inl ⟨by rfl, ?_⟩) (by assumption) ?_
      rotate_left 1
      · (intro w hSw; (try dsimp only at hSw); go_simp; try with_reducible rfl)
      try simp only [Act.put, List.setIfInBounds_toArray, List.set_cons_zero, List.set_cons_succ]
      refine wpAnyH_done (by kernel_rfl) ?_ _
      refine NoPanic.normal ?_
      go_wp2_with fail
      go_meet
      exact ⟨HD.out _ _ O5, L6⟩
  case rest =>
    obtain ⟨D, LW⟩ := hcut
    generalize wc = W1 at *
    have ctC := HCT.out _ LW
    have L2 := L0.trans LW
    have LWD := L0.trans LD
    obtain ⟨A1, q1, rfl, S2, -⟩ := D.form (by decide)
    have HD2 := Lib.hid D
    have ztC := Nat.lt_of_lt_of_le zt LW.size
    have hl2 : AB.length ≤ 2097152 := by have := HLN.out; omega
    clear D HD HCE HCT S1 LW zt zx
    go_wp2_with fail
    refine (svalidExits_any T A m c a.length cap xs a W1 (hT.le L2) (hR.le L2)).mono ?_
    rintro e w3 ⟨rfl, hle⟩
    replace ctC := (hle.cell ztC).trans ctC
    replace ztC := Nat.lt_of_lt_of_le ztC hle.size
    have L3 := L2.trans hle
    have S3 := S2.le hle
    have HD3 := Lib.hid (HD2.out.le hle)
    clear hle S2 L2 HD2
    cases h1 : vxs xs a
    · have HF := Lib.hid (HV.out h1)
      have HO : Hid (Owd 42 w w3 (.slice none 0 0) (jxX xs a [x])) := by show Owd _ _ _ _ _; rw [HX.out, HF.out]; exact Owd.nil _ _ _
      go_wp2
      exact bodyPost_ret (v := .tuple #[.slice none 0 0, .bool false]) (by simp [results, Try.results17, go_sem]) rfl ⟨_, ret2x HF.out.symm rfl, HO.out, L3⟩
    · go_wp2_with fail
      refine (svalidExits_any T A1 m c AB.length q1 xs AB w3 (hT.le L3) S3).mono ?_
      rintro e w5 ⟨rfl, hle⟩
      have L5 := L3.trans hle
      have HD5 := Lib.hid (HD3.out.le hle)
      clear hle S3
      cases h3 : vxs xs AB
      · have HO : Hid (Owd 42 w w5 (.slice none 0 0) (jxX xs a [x])) := by show Owd _ _ _ _ _; rw [HX.out, h3]; exact Owd.nil _ _ _
        go_wp2
        exact bodyPost_ret (v := .tuple #[.slice none 0 0, .bool false]) (by simp [results, Try.results17, go_sem]) rfl ⟨_, ret2x h3.symm rfl, HO.out, L5⟩
      · have HO : Hid (Owd 42 w w5 (.slice A1 AB.length q1) (jxX xs a [x])) := by show Owd _ _ _ _ _; rw [HX.out, h3]; exact HD5.out.mono LWD
        go_wp2
        exact bodyPost_ret (v := .tuple #[.slice A1 AB.length q1, .bool true]) (by simp [results, Try.results17, go_sem]) rfl ⟨_, ret2x h3.symm rfl, HO.out, L5⟩
end

section
set_option maxHeartbeats 2000000 in
set_option maxRecDepth 100000 in
theorem sEscapesOf_any (B : Option Addr) (m c : Nat) (xs : List Cls) (A : Option Addr) (n cap : Nat) (L : List Xit) (w : World) (hT : Sl w B m c xs) (hL : Sl w A n cap L) :
    Calls Try.prog 26 #[.agg #[.slice B m c], .slice A n cap] w (OwnInts (escI xs L) w) := by
  obtain ⟨i0, hi, hz0, hz1, hz2⟩ := info_parts intInfo
  have hl := Le.new w (.cells #[.slice B m c] 25)
  have c0 : (w.alloc (.cells #[.slice B m c] 25)).cell? ⟨w.heap.size, 0, none⟩ = some (.slice B m c) := by rw [World.cell?_alloc_at _ _ _ _ rfl]; rfl
  have hz : w.heap.size < (w.alloc (.cells #[.slice B m c] 25)).heap.size := by simp
  have hS := hT.le hl
  have hSL := hL.le hl
  cases h1 : vxs xs L
  · have HF := Lib.hid (escI_of h1)
    go_enter Try.func26, Try.ntmps26
    go_wp2_with fail
    generalize w.alloc (.cells #[.slice B m c] 25) = W at *
    refine (svalidExits_any B A m c n cap xs L _ hS hSL).mono ?_
    rintro e w2 ⟨rfl, hle⟩
    rw [h1]
    clear h1
    have HO : Hid (OwnInts (escI xs L) w (.returned (.slice none 0 0)) w2) := by
      show OwnInts _ _ _ _
      rw [HF.out]; exact own_nil w w2 (hl.trans hle)
    go_wp2
    go_ret
    exact HO.out
  · have HF := Lib.hid (escI_pas h1)
    have hab := vxs_iff.1 h1
    have g := good_of hab.1
    have hLl := hab.2.1
    clear hab
    have hhi := g.hi
    obtain rfl := hT.len
    have hnl := hL.len
    go_enter Try.func26, Try.ntmps26
    go_wp2_with fail
    generalize w.alloc (.cells #[.slice B xs.length c] 25) = W at *
    refine (svalidExits_any B A xs.length c n cap xs L _ hS hSL).mono ?_
    rintro e w2 ⟨rfl, hle⟩
    rw [h1]
    clear h1
    have c2 := (hle.cell hz).trans c0
    have hz2' := Nat.lt_of_lt_of_le hz hle.size
    have hl2 := hl.trans hle
    clear c0 hz hle hl hS hSL
    go_wp2
    generalize HFN : (fun k : Nat => pasL xs L (k : Int)) = F at *
    go_loopw [5, 6] (fun v q wr => ∃ k : Nat, k ≤ xs.length ∧ q = .int .i64 k ∧ wr.ownsRow w2.heap.size 3 1 v (escK F k).length ((escK F k).flatMap Enc.cells) ∧ Le w2 wr) (fun _ q _ => xs.length - (intOf q).toNat)
    case atStart => exact ⟨0, Nat.zero_le _, rfl, own_empty (Nat.le_refl _) rfl, Le.new w2 _⟩
    case round =>
      obtain ⟨k, hk, rfl, hown, hle⟩ := hrel
      have cr := (hle.cell hz2').trans c2
      have hRr := hT.le (hl2.trans hle)
      have hLr := hL.le (hl2.trans hle)
      have hzr := Nat.lt_of_lt_of_le hz2' hle.size
      by_cases hlt : k < xs.length
      · have hbl := escK_len F k
        go_wp2_with fail
        refine (passes_any B xs.length c xs A n cap L (k : Int) g (by omega) (by omega) _ hRr hLr).mono ?_
        rintro e w3 ⟨rfl, hle3⟩
        have hown3 := own_le hown hle3
        have hle' := hle.trans hle3
        have HFK : Hid (F k = pasL xs L (k : Int)) := by show _ = _; rw [← HFN]
        generalize pasL xs L (k : Int) = fa at *
        clear hown hle HFN
        cases fa
        rotate_left 1
        · skip
          have HB : Hid (escK F (k + 1) = escK F k ++ [(k : Int)]) := by show _ = _; rw [escK, HFK.out]; simp
          have hc3 : (escK F k).length + 1 ≤ maxLen := by unfold maxLen; omega
          have hc4 : ((escK F k).length + 1) * 8 ≤ 140737488355328 := by omega
          have hsz3 := hle'.size
          go_wp2_with (at_builtin; refine wpList_append_own _ rfl _ _ 31 rfl w2.heap.size 3 i0 (.int .i64 0) 1 8 Try.underlying31 hi hz0 hz1 hz2 rfl (by decide) _ _ _ rfl (hown3.alloc _) ⟨w3.heap.size, 0, none⟩ 1 1 [.int .i64 k] rfl rfl ?c1 ?c2 hc3 hc4 ?c5 ?_)
          case c1 => exact one_new _ _ _
          case c2 => intro u hu; simp at hu; subst hu; rfl
          case c5 => simp; omega
          intro v1 w1 hown1 hg1 _
          have hle1 := (hle'.alloc (.cells #[.int .i64 (k : Int)] 3)).grown hg1 (fun k hk => (hown3.lt k hk).1)
          go_wp2
          go_roundw
          case rel =>
            refine ⟨k + 1, by omega, by go_num, ?_, hle1⟩
            rw [HB.out, List.length_append, List.flatMap_append]
            exact hown1
          case measure => simp [intOf]; omega
        · have HB : Hid (escK F (k + 1) = escK F k) := by show _ = _; rw [escK, HFK.out]; simp
          go_wp2
          go_roundw
          case rel => exact ⟨k + 1, by omega, by go_num, by rw [HB.out]; exact hown3, hle'⟩
          case measure => simp [intOf]; omega
      · have he : k = xs.length := by omega
        have HO : Hid (OwnInts (escI xs L) w (.returned u5) wr) := by
          show OwnInts _ _ _ _
          rw [HF.out, ← he]
          exact ⟨_, rfl, own_mono hown (by have := hl2.size; omega), escK_ok F k (by omega), hl2.trans hle⟩
        clear hown
        go_wp2
        go_ret
        exact HO.out
theorem escI_len (xs : List Cls) (L : List Xit) : (escI xs L).length ≤ 1048576 := by
  cases h : vxs xs L
  · rw [escI_of h]; simp
  · have g := (good_of (vxs_iff.1 h).1).hi
    have := escK_len (fun k => faX xs L true (k : Int) == 0) xs.length
    rw [escI_of h]; show (escK _ xs.length).length ≤ _; omega
theorem sEscapesOfW_any (B A : Option Addr) (m c n cap : Nat) (xs : List Cls) (L : List Xit) (w : World) (hT : Sl w B m c xs) (hL : Sl w A n cap L) :
    Calls Try.prog 26 #[.agg #[.slice B m c], .slice A n cap] w fun e w' => ∃ v, e = .returned v ∧ Owd 3 w w' v (escI xs L) ∧ Le w w' :=
  (sEscapesOf_any B m c xs A n cap L w hT hL).mono fun _ _ ⟨v, e, h1, h2, h3⟩ => ⟨v, e, ⟨h1, h2⟩, h3⟩
theorem iEscapesOfW_any (B A : Option Addr) (m c n cap : Nat) (xs : List Cls) (L : List Xit) (w : World) (hT : Sl w B m c xs) (hL : Sl w A n cap L) :
    Calls Try.prog 25 #[.agg #[.slice B m c], .slice A n cap] w fun e w' => ∃ v, e = .returned v ∧ Owd 3 w w' v (escI xs L) ∧ Le w w' :=
  (iEscapesOf_any B m c xs A n cap L w hT hL).mono fun _ _ ⟨v, e, h1, h2, h3⟩ => ⟨v, e, ⟨h1, h2⟩, h3⟩
end
end Go.Proofs.Ytonpgohigncjeaa
