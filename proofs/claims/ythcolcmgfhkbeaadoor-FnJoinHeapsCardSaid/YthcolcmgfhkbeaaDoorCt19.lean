/- one text of FIsolateFault, DrJ -/
import Derived.Test.YthcolcmgfhkbeaaDoorCt17
import Derived.Test.YthcolcmgfhkbeaaDoorCt18
import Derived.Test.YthcolcmgfhkbeaaDoorCt9
import Derived.Test.YthcolcmgfhkbeaaDoorCt11
import Derived.Test.YthcolcmgfhkbeaaDoorCt12
namespace Go.Proofs.YthcolcmgfhkbeaaDoor
open Go.RowKit
set_option linter.unusedVariables false
section
theorem Calls.asHI {P : Program} {f : FuncId} {args : Array Value} {w : World} {L M : List Flt} {a b : Int} (e : L = M) (e2 : a = b) (h : Calls P f args w fun e w' => ∃ A c, e = .returned (.tuple #[.agg #[.slice A L.length c], .int .i64 a]) ∧ Sl w' A L.length c L ∧ Le w w') : Calls P f args w fun e w' => ∃ A c, e = .returned (.tuple #[.agg #[.slice A M.length c], .int .i64 b]) ∧ Sl w' A M.length c M ∧ Le w w' := by
  subst e; subst e2; exact h
theorem isolate_facts {xs : List Cls} {hs : List Flt} {f : Int} {K : List Flt} {g : Int} (hK : isoX xs hs f = K) (hg : isoI xs hs f = g) (hl : hs.length ≤ 6) :
    K.length ≤ 6 ∧ (g < 0 ∨ (0 ≤ g ∧ okHeap xs K = true ∧ isoX xs K g = K ∧ isoI xs K g = g ∧ ctX xs K g = ctX xs hs f ∧ (reachX xs K g).length = K.length ∧ (reachX xs hs f).length = K.length)) := by
  cases h : goodF xs hs f
  · rw [(iso_of h).1] at hK
    rw [(iso_of h).2] at hg
    refine ⟨by rw [← hK]; exact Nat.zero_le _, .inl ?_⟩
    rw [← hg]; show (-1 : Int) < 0; omega
  · obtain ⟨h1, h2, h3, h4, h5, h6⟩ := iso_facts h hK hg
    have hr : (reachL hs f).length ≤ hs.length := ascOf_len _
    refine ⟨by omega, .inr ⟨?_, goodF_ok h1, h2, h3, ?_, ?_, ?_⟩⟩
    · exact (goodF_in h1).2.1
    · rw [ctX_of h, ctX_of h1]; exact h4
    · unfold reachX; rw [h1]; exact h5
    · unfold reachX; rw [h]; exact h6.symm
set_option maxHeartbeats 8000000 in
set_option maxRecDepth 100000 in
theorem fnIsolateFault_walk (A : Option Addr) (n cap : Nat) (bs : List By) (w : World) (hR : Sl w A n cap bs) (NG : GotErr w) :
    Calls Tryd.prog 3 #[.slice A n cap] w fun e w' => e = .returned (.bool true) ∧ Le w w' := by
  have hm := hR.n_le
  by_cases hbig : 1048576 < n
  · go_enter Tryd.func3, Tryd.ntmps3
    go_wp2
    go_ret
    exact ⟨rfl, Le.refl w⟩
  go_enter Tryd.func3, Tryd.ntmps3
  go_wp2_with fail
  refine (drawIsolateFault_any A n cap bs w hR).mono ?_
  rintro e w1 ⟨B, m, c, xs, A1, q1, hs, _, rfl, ⟨f, rfl, hf0, hf1⟩, S, hm8, S2, hl6, L0⟩
  replace NG := NG.le L0
  go_wp2_with fail
  obtain ⟨ct, zt, ch, zh, hleB⟩ := box2 w1 (.slice B m c) (.slice A1 hs.length q1) 25 28
  replace S := S.le hleB
  replace S2 := S2.le hleB
  replace L0 := L0.trans hleB
  replace NG := NG.le hleB
  clear hleB
  generalize (w1.alloc (.cells #[.slice B m c] 25)).alloc (.cells #[.slice A1 hs.length q1] 28) = W1 at *
  have hI := iIsolateFault_any B A1 m c hs.length q1 xs hs f W1 S S2 (by omega)
  have HQ : Hid (∀ w, Sl w B m c xs → Sl w A1 hs.length q1 hs → _) := fun w h h2 => sIsolateFault_any B A1 m c hs.length q1 xs hs f w h h2 (by omega)
  obtain ⟨KH, hK⟩ : ∃ KH, isoX xs hs f = KH := ⟨_, rfl⟩
  obtain ⟨g, hg⟩ : ∃ g, isoI xs hs f = g := ⟨_, rfl⟩
  obtain ⟨hKl, hF⟩ := isolate_facts hK hg hl6
  have HF := Lib.hid hF
  have HRL : Hid (∀ hs f, (reachX xs hs f).length ≤ 1048576) := fun hs f => reachX_len xs hs f
  rw [hK, hg] at hI HQ
  clear hF hK hg
  have hgg : (g != g) = false := by simp
  have hgg2 : (g == g) = true := by simp
  refine (Calls.heap2 hI).mono ?_
  rintro e w2 ⟨A2, q2, rfl, S3, hle⟩
  replace ct := (hle.cell zt).trans ct
  replace ch := (hle.cell zh).trans ch
  replace zt := Nat.lt_of_lt_of_le zt hle.size
  replace zh := Nat.lt_of_lt_of_le zh hle.size
  replace S := S.le hle
  replace S2 := S2.le hle
  replace L0 := L0.trans hle
  replace NG := NG.le hle
  clear hle hI
  go_wp2_with fail
  obtain ⟨co, zo, hleB⟩ := box1 w2 (.slice A2 KH.length q2) 28
  replace ct := (hleB.cell zt).trans ct
  replace ch := (hleB.cell zh).trans ch
  replace zt := Nat.lt_of_lt_of_le zt hleB.size
  replace zh := Nat.lt_of_lt_of_le zh hleB.size
  replace S := S.le hleB
  replace L0 := L0.trans hleB
  replace S2 := S2.le hleB
  replace S3 := S3.le hleB
  replace NG := NG.le hleB
  clear hleB
  generalize w2.alloc (.cells #[.slice A2 KH.length q2] 28) = w3 at *
  refine (Calls.heap2 (HQ.out w3 S S2)).mono ?_
  rintro e w4 ⟨A4, q4, rfl, S4, hle⟩
  replace ct := (hle.cell zt).trans ct
  replace ch := (hle.cell zh).trans ch
  replace co := (hle.cell zo).trans co
  replace zt := Nat.lt_of_lt_of_le zt hle.size
  replace zh := Nat.lt_of_lt_of_le zh hle.size
  replace zo := Nat.lt_of_lt_of_le zo hle.size
  replace S := S.le hle
  replace L0 := L0.trans hle
  replace S2 := S2.le hle
  replace S3 := S3.le hle
  replace NG := NG.le hle
  clear hle
  go_wp2_with fail
  obtain ⟨cv, zv, hleB⟩ := box1 w4 (.slice A4 KH.length q4) 28
  replace ct := (hleB.cell zt).trans ct
  replace ch := (hleB.cell zh).trans ch
  replace co := (hleB.cell zo).trans co
  replace zt := Nat.lt_of_lt_of_le zt hleB.size
  replace zh := Nat.lt_of_lt_of_le zh hleB.size
  replace zo := Nat.lt_of_lt_of_le zo hleB.size
  replace S := S.le hleB
  replace L0 := L0.trans hleB
  replace S2 := S2.le hleB
  replace S3 := S3.le hleB
  replace S4 := S4.le hleB
  replace NG := NG.le hleB
  clear hleB
  generalize w4.alloc (.cells #[.slice A4 KH.length q4] 28) = w5 at *
  refine (equalHeap_self A2 A4 _ q2 q4 KH w5 S3 S4).mono ?_
  rintro e w6 ⟨rfl, hle⟩
  replace ct := (hle.cell zt).trans ct
  replace ch := (hle.cell zh).trans ch
  replace co := (hle.cell zo).trans co
  replace cv := (hle.cell zv).trans cv
  replace zt := Nat.lt_of_lt_of_le zt hle.size
  replace zh := Nat.lt_of_lt_of_le zh hle.size
  replace zo := Nat.lt_of_lt_of_le zo hle.size
  replace zv := Nat.lt_of_lt_of_le zv hle.size
  replace S := S.le hle
  replace L0 := L0.trans hle
  replace S2 := S2.le hle
  replace S3 := S3.le hle
  replace S4 := S4.le hle
  replace NG := NG.le hle
  clear hle
  by_cases hneg : g < 0
  · have hd : decide (g < 0) = true := decide_eq_true hneg
    go_wp2_with fail
    refine (equalHeap_self A2 A4 _ q2 q4 KH _ S3 S4).mono ?_
    rintro e w7 ⟨rfl, hle⟩
    replace L0 := L0.trans hle
    clear hle
    go_wp2
    go_ret
    exact ⟨rfl, L0⟩
  have hd : decide (g < 0) = false := decide_eq_false hneg
  obtain ⟨h0, e1, e2, e3, e4, e5, e6⟩ := HF.out.resolve_left hneg
  have E1 := Lib.hid e1
  have E2 := Lib.hid e2
  have E3 := Lib.hid e3
  have E4 := Lib.hid e4
  have E5 := Lib.hid e5
  have E6 := Lib.hid e6
  clear cv zv S4 e1 e2 e3 e4 e5 e6 HF HQ hneg h0
  go_wp2_with fail
  refine (Calls.asHI E2.out E3.out (Calls.heap2 (iIsolateFault_any B A2 m c KH.length q2 xs KH g w6 S S3 (by omega)))).mono ?_
  rintro e w7 ⟨A7, q7, rfl, S7, hle⟩
  replace ct := (hle.cell zt).trans ct
  replace ch := (hle.cell zh).trans ch
  replace co := (hle.cell zo).trans co
  replace zt := Nat.lt_of_lt_of_le zt hle.size
  replace zh := Nat.lt_of_lt_of_le zh hle.size
  replace zo := Nat.lt_of_lt_of_le zo hle.size
  replace S := S.le hle
  replace L0 := L0.trans hle
  replace S2 := S2.le hle
  replace S3 := S3.le hle
  replace NG := NG.le hle
  clear hle
  go_wp2_with fail
  obtain ⟨ca, za, hleB⟩ := box1 w7 (.slice A7 KH.length q7) 28
  replace ct := (hleB.cell zt).trans ct
  replace ch := (hleB.cell zh).trans ch
  replace co := (hleB.cell zo).trans co
  replace zt := Nat.lt_of_lt_of_le zt hleB.size
  replace zh := Nat.lt_of_lt_of_le zh hleB.size
  replace zo := Nat.lt_of_lt_of_le zo hleB.size
  replace S := S.le hleB
  replace L0 := L0.trans hleB
  replace S2 := S2.le hleB
  replace S3 := S3.le hleB
  replace S7 := S7.le hleB
  replace NG := NG.le hleB
  clear hleB
  generalize w7.alloc (.cells #[.slice A7 KH.length q7] 28) = w8 at *
  have hTT : ∀ s : ByteArray, (s.toList == s.toList) = true := fun s => by simp
  have hKK : ((KH.length : Int) == (KH.length : Int)) = true := by simp
  replace NG : GotErr w8.drew := NG.le (Le.refl _).drew
  replace ct := (show w8.drew.cell? _ = _ from ct)
  replace zt := (show _ < w8.drew.heap.size from zt)
  replace ch := (show w8.drew.cell? _ = _ from ch)
  replace zh := (show _ < w8.drew.heap.size from zh)
  replace co := (show w8.drew.cell? _ = _ from co)
  replace zo := (show _ < w8.drew.heap.size from zo)
  replace ca := (show w8.drew.cell? _ = _ from ca)
  replace za := (show _ < w8.drew.heap.size from za)
  replace S := S.le (Le.refl _).drew
  replace S2 := S2.le (Le.refl _).drew
  replace S3 := S3.le (Le.refl _).drew
  replace S7 := S7.le (Le.refl _).drew
  replace L0 := L0.drew
  have HT : Hid (∃ T, ctX xs hs f = T) := ⟨_, rfl⟩
  obtain ⟨T, hT⟩ := HT.out
  have HT1 := Lib.hid hT
  have HT2 : Hid (ctX xs KH g = T) := E4.out.trans hT
  have hTl : (T.toList == T.toList) = true := by simp
  clear hT HT E4
  refine wp_region_noPanic ?_
  refine wp_region_Z (fun w' => w'.cell? ⟨w1.heap.size, 0, none⟩ = some (.slice B m c) ∧ w'.cell? ⟨w1.heap.size + 1, 0, none⟩ = some (.slice A1 hs.length q1) ∧ w'.cell? ⟨w2.heap.size, 0, none⟩ = some (.slice A2 KH.length q2) ∧ w'.cell? ⟨w7.heap.size, 0, none⟩ = some (.slice A7 KH.length q7)) [] (by kernel_rfl) ?_
  refine wpAnyZ_take (i := 0) (v := ?_) rfl (by kernel_rfl) (fun _ _ _ h => h) (Or.inl ⟨by rfl, ?_⟩) (⟨ct, ch, co, ca⟩) ?_
  rotate_left 1
  · (intro w hSw; (try dsimp only at hSw); go_simp; try with_reducible rfl)
  try simp only [Act.put, List.setIfInBounds_toArray, List.set_cons_zero, List.set_cons_succ]
  refine wpAnyZ_take (i := 1) (v := ?_) rfl (by kernel_rfl) (fun _ _ _ h => h) (Or.inl ⟨by rfl, ?_⟩) (⟨ct, ch, co, ca⟩) ?_
  rotate_left 1
  · (intro w hSw; (try dsimp only at hSw); go_simp; try with_reducible rfl)
  try simp only [Act.put, List.setIfInBounds_toArray, List.set_cons_zero, List.set_cons_succ]
  refine wpAnyZ_one (i := 2) (by kernel_rfl) (ReadyZ.mk rfl (fun K hK => ?_))
  go_simp
  go_at_call 12
  refine (Calls.val (iValidHeap_any B A2 m c KH.length q2 xs KH _ S S3 (by omega)) (vb E1.out)).mono ?_
  rintro e w9 ⟨rfl, hle⟩
  replace ct := (hle.cell zt).trans ct
  replace ch := (hle.cell zh).trans ch
  replace co := (hle.cell zo).trans co
  replace ca := (hle.cell za).trans ca
  replace zt := Nat.lt_of_lt_of_le zt hle.size
  replace zh := Nat.lt_of_lt_of_le zh hle.size
  replace zo := Nat.lt_of_lt_of_le zo hle.size
  replace za := Nat.lt_of_lt_of_le za hle.size
  replace S := S.le hle
  replace S2 := S2.le hle
  replace S3 := S3.le hle
  replace S7 := S7.le hle
  replace L0 := L0.trans hle
  replace NG := NG.le hle
  clear hle
  refine hK.out _ _ (fun _ => ⟨ct, ch, co, ca⟩) ?_
  clear hK K
  try simp only [Act.put, List.setIfInBounds_toArray, List.set_cons_zero, List.set_cons_succ]
  refine wpAnyZ_take (i := 3) (v := ?_) rfl (by kernel_rfl) (fun _ _ _ h => h) (Or.inl ⟨by rfl, ?_⟩) (⟨ct, ch, co, ca⟩) ?_
  rotate_left 1
  · (intro w hSw; (try dsimp only at hSw); go_simp; try with_reducible rfl)
  try simp only [Act.put, List.setIfInBounds_toArray, List.set_cons_zero, List.set_cons_succ]
  refine wpAnyZ_take (i := 4) (v := ?_) rfl (by kernel_rfl) (fun _ _ _ h => h) (Or.inl ⟨by rfl, ?_⟩) (⟨ct, ch, co, ca⟩) ?_
  rotate_left 1
  · (intro w hSw; (try dsimp only at hSw); go_simp; try with_reducible rfl)
  try simp only [Act.put, List.setIfInBounds_toArray, List.set_cons_zero, List.set_cons_succ]
  refine wpAnyZ_take (i := 5) (v := ?_) rfl (by kernel_rfl) (fun _ _ _ h => h) (Or.inl ⟨by rfl, ?_⟩) (⟨ct, ch, co, ca⟩) ?_
  rotate_left 1
  · (intro w hSw; (try dsimp only at hSw); go_simp; try with_reducible rfl)
  try simp only [Act.put, List.setIfInBounds_toArray, List.set_cons_zero, List.set_cons_succ]
  refine wpAnyZ_take (i := 6) (v := ?_) rfl (by kernel_rfl) (fun _ _ _ h => h) (Or.inl ⟨by rfl, ?_⟩) (⟨ct, ch, co, ca⟩) ?_
  rotate_left 1
  · (intro w hSw; (try dsimp only at hSw); go_simp; try with_reducible rfl)
  try simp only [Act.put, List.setIfInBounds_toArray, List.set_cons_zero, List.set_cons_succ]
  refine wpAnyZ_take (i := 8) (v := ?_) rfl (by kernel_rfl) (fun _ _ _ h => h) (Or.inl ⟨by rfl, ?_⟩) (⟨ct, ch, co, ca⟩) ?_
  rotate_left 1
  · (intro w hSw; (try dsimp only at hSw); go_simp; try with_reducible rfl)
  try simp only [Act.put, List.setIfInBounds_toArray, List.set_cons_zero, List.set_cons_succ]
  refine wpAnyZ_take (i := 9) (v := ?_) rfl (by kernel_rfl) (fun _ _ _ h => h) (Or.inl ⟨by rfl, ?_⟩) (⟨ct, ch, co, ca⟩) ?_
  rotate_left 1
  · (intro w hSw; (try dsimp only at hSw); go_simp; try with_reducible rfl)
  try simp only [Act.put, List.setIfInBounds_toArray, List.set_cons_zero, List.set_cons_succ]
  refine wpAnyZ_take (i := 10) (v := ?_) rfl (by kernel_rfl) (fun _ _ _ h => h) (Or.inl ⟨by rfl, ?_⟩) (⟨ct, ch, co, ca⟩) ?_
  rotate_left 1
  · (intro w hSw; (try dsimp only at hSw); go_simp; try with_reducible rfl)
  try simp only [Act.put, List.setIfInBounds_toArray, List.set_cons_zero, List.set_cons_succ]
  refine wpAnyZ_one (i := 7) (by kernel_rfl) (ReadyZ.mk rfl (fun K hK => ?_))
  go_simp
  go_at_call 13
  refine (Calls.val (iChainText_any B A2 m c KH.length q2 xs KH g _ S S3 (by omega) NG) (vst HT2.out)).mono ?_
  rintro e w10 ⟨rfl, hle⟩
  replace ct := (hle.cell zt).trans ct
  replace ch := (hle.cell zh).trans ch
  replace co := (hle.cell zo).trans co
  replace ca := (hle.cell za).trans ca
  replace zt := Nat.lt_of_lt_of_le zt hle.size
  replace zh := Nat.lt_of_lt_of_le zh hle.size
  replace zo := Nat.lt_of_lt_of_le zo hle.size
  replace za := Nat.lt_of_lt_of_le za hle.size
  replace S := S.le hle
  replace S2 := S2.le hle
  replace S3 := S3.le hle
  replace S7 := S7.le hle
  replace L0 := L0.trans hle
  replace NG := NG.le hle
  clear hle
  refine hK.out _ _ (fun _ => ⟨ct, ch, co, ca⟩) ?_
  clear hK K
  try simp only [Act.put, List.setIfInBounds_toArray, List.set_cons_zero, List.set_cons_succ]
  refine wpAnyZ_one (i := 11) (by kernel_rfl) (ReadyZ.mk rfl (fun K hK => ?_))
  go_simp
  go_at_call 13
  refine (Calls.val (iChainText_any B A1 m c hs.length q1 xs hs f _ S S2 (by omega) NG) (vst HT1.out)).mono ?_
  rintro e w11 ⟨rfl, hle⟩
  replace ct := (hle.cell zt).trans ct
  replace ch := (hle.cell zh).trans ch
  replace co := (hle.cell zo).trans co
  replace ca := (hle.cell za).trans ca
  replace zt := Nat.lt_of_lt_of_le zt hle.size
  replace zh := Nat.lt_of_lt_of_le zh hle.size
  replace zo := Nat.lt_of_lt_of_le zo hle.size
  replace za := Nat.lt_of_lt_of_le za hle.size
  replace S := S.le hle
  replace S2 := S2.le hle
  replace S3 := S3.le hle
  replace S7 := S7.le hle
  replace L0 := L0.trans hle
  replace NG := NG.le hle
  clear hle
  refine hK.out _ _ (fun _ => ⟨ct, ch, co, ca⟩) ?_
  clear hK K
  try simp only [Act.put, List.setIfInBounds_toArray, List.set_cons_zero, List.set_cons_succ]
  refine wpAnyZ_take (i := 12) (v := ?_) rfl (by kernel_rfl) (fun _ _ _ h => h) (Or.inl ⟨by rfl, ?_⟩) (⟨ct, ch, co, ca⟩) ?_
  rotate_left 1
  · (intro w hSw; (try dsimp only at hSw); go_simp; try with_reducible rfl)
  try simp only [Act.put, List.setIfInBounds_toArray, List.set_cons_zero, List.set_cons_succ]
  refine wpAnyZ_take (i := 13) (v := ?_) rfl (by kernel_rfl) (fun _ _ _ h => h) (Or.inl ⟨by rfl, ?_⟩) (⟨ct, ch, co, ca⟩) ?_
  rotate_left 1
  · (intro w hSw; (try dsimp only at hSw); go_simp; try with_reducible rfl)
  try simp only [Act.put, List.setIfInBounds_toArray, List.set_cons_zero, List.set_cons_succ]
  refine wpAnyZ_take (i := 14) (v := ?_) rfl (by kernel_rfl) (fun _ _ _ h => h) (Or.inl ⟨by rfl, ?_⟩) (⟨ct, ch, co, ca⟩) ?_
  rotate_left 1
  · (intro w hSw; (try dsimp only at hSw); go_simp; try with_reducible rfl)
  try simp only [Act.put, List.setIfInBounds_toArray, List.set_cons_zero, List.set_cons_succ]
  refine wpAnyZ_take (i := 15) (v := ?_) rfl (by kernel_rfl) (fun _ _ _ h => h) (Or.inl ⟨by rfl, ?_⟩) (⟨ct, ch, co, ca⟩) ?_
  rotate_left 1
  · (intro w hSw; (try dsimp only at hSw); go_simp; try with_reducible rfl)
  try simp only [Act.put, List.setIfInBounds_toArray, List.set_cons_zero, List.set_cons_succ]
  refine wpAnyZ_take (i := 16) (v := ?_) rfl (by kernel_rfl) (fun _ _ _ h => h) (Or.inl ⟨by rfl, ?_⟩) (⟨ct, ch, co, ca⟩) ?_
  rotate_left 1
  · (intro w hSw; (try dsimp only at hSw); go_simp; try with_reducible rfl)
  try simp only [Act.put, List.setIfInBounds_toArray, List.set_cons_zero, List.set_cons_succ]
  refine wpAnyZ_take (i := 17) (v := ?_) rfl (by kernel_rfl) (fun _ _ _ h => h) (Or.inl ⟨by rfl, ?_⟩) (⟨ct, ch, co, ca⟩) ?_
  rotate_left 1
  · (intro w hSw; (try dsimp only at hSw); go_simp; try with_reducible rfl)
  try simp only [Act.put, List.setIfInBounds_toArray, List.set_cons_zero, List.set_cons_succ]
  refine wpAnyZ_take (i := 20) (v := ?_) rfl (by kernel_rfl) (fun _ _ _ h => h) (Or.inl ⟨by rfl, ?_⟩) (⟨ct, ch, co, ca⟩) ?_
  rotate_left 1
  · (intro w hSw; (try dsimp only at hSw); go_simp; try with_reducible rfl)
  try simp only [Act.put, List.setIfInBounds_toArray, List.set_cons_zero, List.set_cons_succ]
  refine wpAnyZ_take (i := 21) (v := ?_) rfl (by kernel_rfl) (fun _ _ _ h => h) (Or.inl ⟨by rfl, ?_⟩) (⟨ct, ch, co, ca⟩) ?_
  rotate_left 1
  · (intro w hSw; (try dsimp only at hSw); go_simp; try with_reducible rfl)
  try simp only [Act.put, List.setIfInBounds_toArray, List.set_cons_zero, List.set_cons_succ]
  refine wpAnyZ_take (i := 22) (v := ?_) rfl (by kernel_rfl) (fun _ _ _ h => h) (Or.inl ⟨by rfl, ?_⟩) (⟨ct, ch, co, ca⟩) ?_
  rotate_left 1
  · (intro w hSw; (try dsimp only at hSw); go_simp; try with_reducible rfl)
  try simp only [Act.put, List.setIfInBounds_toArray, List.set_cons_zero, List.set_cons_succ]
  refine wpAnyZ_one (i := 18) (by kernel_rfl) (ReadyZ.mk rfl (fun K hK => ?_))
  go_simp
  go_at_call 14
  refine (Calls.intsH (iReachOf_any B A2 m c KH.length q2 xs KH g _ S S3 (by omega))).mono ?_
  rintro e w12 ⟨A12, q12, rfl, S12, hle⟩
  replace ct := (hle.cell zt).trans ct
  replace ch := (hle.cell zh).trans ch
  replace co := (hle.cell zo).trans co
  replace ca := (hle.cell za).trans ca
  replace zt := Nat.lt_of_lt_of_le zt hle.size
  replace zh := Nat.lt_of_lt_of_le zh hle.size
  replace zo := Nat.lt_of_lt_of_le zo hle.size
  replace za := Nat.lt_of_lt_of_le za hle.size
  replace S := S.le hle
  replace S2 := S2.le hle
  replace S3 := S3.le hle
  replace S7 := S7.le hle
  replace L0 := L0.trans hle
  clear hle S12
  rw [E5.out]
  refine hK.out _ _ (fun _ => ⟨ct, ch, co, ca⟩) ?_
  clear hK K
  try simp only [Act.put, List.setIfInBounds_toArray, List.set_cons_zero, List.set_cons_succ]
  refine wpAnyZ_take (i := 19) (v := ?_) rfl (by kernel_rfl) (fun _ _ _ h => h) (Or.inl ⟨by rfl, ?_⟩) (⟨ct, ch, co, ca⟩) ?_
  rotate_left 1
  · (intro w hSw; (try dsimp only at hSw); go_simp; try with_reducible rfl)
  try simp only [Act.put, List.setIfInBounds_toArray, List.set_cons_zero, List.set_cons_succ]
  refine wpAnyZ_take (i := 23) (v := ?_) rfl (by kernel_rfl) (fun _ _ _ h => h) (Or.inl ⟨by rfl, ?_⟩) (⟨ct, ch, co, ca⟩) ?_
  rotate_left 1
  · (intro w hSw; (try dsimp only at hSw); go_simp; try with_reducible rfl)
  try simp only [Act.put, List.setIfInBounds_toArray, List.set_cons_zero, List.set_cons_succ]
  refine wpAnyZ_take (i := 24) (v := ?_) rfl (by kernel_rfl) (fun _ _ _ h => h) (Or.inl ⟨by rfl, ?_⟩) (⟨ct, ch, co, ca⟩) ?_
  rotate_left 1
  · (intro w hSw; (try dsimp only at hSw); go_simp; try with_reducible rfl)
  try simp only [Act.put, List.setIfInBounds_toArray, List.set_cons_zero, List.set_cons_succ]
  refine wpAnyZ_take (i := 25) (v := ?_) rfl (by kernel_rfl) (fun _ _ _ h => h) (Or.inl ⟨by rfl, ?_⟩) (⟨ct, ch, co, ca⟩) ?_
  rotate_left 1
  · (intro w hSw; (try dsimp only at hSw); go_simp; try with_reducible rfl)
  try simp only [Act.put, List.setIfInBounds_toArray, List.set_cons_zero, List.set_cons_succ]
  refine wpAnyZ_take (i := 26) (v := ?_) rfl (by kernel_rfl) (fun _ _ _ h => h) (Or.inl ⟨by rfl, ?_⟩) (⟨ct, ch, co, ca⟩) ?_
  rotate_left 1
  · (intro w hSw; (try dsimp only at hSw); go_simp; try with_reducible rfl)
  try simp only [Act.put, List.setIfInBounds_toArray, List.set_cons_zero, List.set_cons_succ]
  refine wpAnyZ_take (i := 27) (v := ?_) rfl (by kernel_rfl) (fun _ _ _ h => h) (Or.inl ⟨by rfl, ?_⟩) (⟨ct, ch, co, ca⟩) ?_
  rotate_left 1
  · (intro w hSw; (try dsimp only at hSw); go_simp; try with_reducible rfl)
  try simp only [Act.put, List.setIfInBounds_toArray, List.set_cons_zero, List.set_cons_succ]
  refine wpAnyZ_take (i := 28) (v := ?_) rfl (by kernel_rfl) (fun _ _ _ h => h) (Or.inl ⟨by rfl, ?_⟩) (⟨ct, ch, co, ca⟩) ?_
  rotate_left 1
  · (intro w hSw; (try dsimp only at hSw); go_simp; try with_reducible rfl)
  try simp only [Act.put, List.setIfInBounds_toArray, List.set_cons_zero, List.set_cons_succ]
  refine wpAnyZ_take (i := 29) (v := ?_) rfl (by kernel_rfl) (fun _ _ _ h => h) (Or.inl ⟨by rfl, ?_⟩) (⟨ct, ch, co, ca⟩) ?_
  rotate_left 1
  · (intro w hSw; (try dsimp only at hSw); go_simp; try with_reducible rfl)
  try simp only [Act.put, List.setIfInBounds_toArray, List.set_cons_zero, List.set_cons_succ]
  refine wpAnyZ_take (i := 30) (v := ?_) rfl (by kernel_rfl) (fun _ _ _ h => h) (Or.inl ⟨by rfl, ?_⟩) (⟨ct, ch, co, ca⟩) ?_
  rotate_left 1
  · (intro w hSw; (try dsimp only at hSw); go_simp; try with_reducible rfl)
  try simp only [Act.put, List.setIfInBounds_toArray, List.set_cons_zero, List.set_cons_succ]
  refine wpAnyZ_take (i := 31) (v := ?_) rfl (by kernel_rfl) (fun _ _ _ h => h) (Or.inl ⟨by rfl, ?_⟩) (⟨ct, ch, co, ca⟩) ?_
  rotate_left 1
  · (intro w hSw; (try dsimp only at hSw); go_simp; try with_reducible rfl)
  try simp only [Act.put, List.setIfInBounds_toArray, List.set_cons_zero, List.set_cons_succ]
  refine wpAnyZ_one (i := 32) (by kernel_rfl) (ReadyZ.mk rfl (fun K hK => ?_))
  go_simp
  go_at_call 14
  refine (Calls.intsH (iReachOf_any B A1 m c hs.length q1 xs hs f _ S S2 (by omega))).mono ?_
  rintro e w13 ⟨A13, q13, rfl, S13, hle⟩
  replace ct := (hle.cell zt).trans ct
  replace ch := (hle.cell zh).trans ch
  replace co := (hle.cell zo).trans co
  replace ca := (hle.cell za).trans ca
  replace zt := Nat.lt_of_lt_of_le zt hle.size
  replace zh := Nat.lt_of_lt_of_le zh hle.size
  replace zo := Nat.lt_of_lt_of_le zo hle.size
  replace za := Nat.lt_of_lt_of_le za hle.size
  replace S := S.le hle
  replace S2 := S2.le hle
  replace S3 := S3.le hle
  replace S7 := S7.le hle
  replace L0 := L0.trans hle
  clear hle S13
  rw [E6.out]
  refine hK.out _ _ (fun _ => ⟨ct, ch, co, ca⟩) ?_
  clear hK K
  try simp only [Act.put, List.setIfInBounds_toArray, List.set_cons_zero, List.set_cons_succ]
  refine wpAnyZ_take (i := 33) (v := ?_) rfl (by kernel_rfl) (fun _ _ _ h => h) (Or.inl ⟨by rfl, ?_⟩) (⟨ct, ch, co, ca⟩) ?_
  rotate_left 1
  · (intro w hSw; (try dsimp only at hSw); go_simp; try with_reducible rfl)
  try simp only [Act.put, List.setIfInBounds_toArray, List.set_cons_zero, List.set_cons_succ]
  refine wpAnyZ_take (i := 34) (v := ?_) rfl (by kernel_rfl) (fun _ _ _ h => h) (Or.inl ⟨by rfl, ?_⟩) (⟨ct, ch, co, ca⟩) ?_
  rotate_left 1
  · (intro w hSw; (try dsimp only at hSw); go_simp; try with_reducible rfl)
  try simp only [Act.put, List.setIfInBounds_toArray, List.set_cons_zero, List.set_cons_succ]
  refine wpAnyZ_take (i := 35) (v := ?_) rfl (by kernel_rfl) (fun _ _ _ h => h) (Or.inl ⟨by rfl, ?_⟩) (⟨ct, ch, co, ca⟩) ?_
  rotate_left 1
  · (intro w hSw; (try dsimp only at hSw); go_simp; try with_reducible rfl)
  try simp only [Act.put, List.setIfInBounds_toArray, List.set_cons_zero, List.set_cons_succ]
  refine wpAnyZ_take (i := 36) (v := ?_) rfl (by kernel_rfl) (fun _ _ _ h => h) (Or.inl ⟨by rfl, ?_⟩) (⟨ct, ch, co, ca⟩) ?_
  rotate_left 1
  · (intro w hSw; (try dsimp only at hSw); go_simp; try with_reducible rfl)
  try simp only [Act.put, List.setIfInBounds_toArray, List.set_cons_zero, List.set_cons_succ]
  refine wpAnyZ_take (i := 37) (v := ?_) rfl (by kernel_rfl) (fun _ _ _ h => h) (Or.inl ⟨by rfl, ?_⟩) (⟨ct, ch, co, ca⟩) ?_
  rotate_left 1
  · (intro w hSw; (try dsimp only at hSw); go_simp; try with_reducible rfl)
  try simp only [Act.put, List.setIfInBounds_toArray, List.set_cons_zero, List.set_cons_succ]
  refine wpAnyZ_take (i := 38) (v := ?_) rfl (by kernel_rfl) (fun _ _ _ h => h) (Or.inl ⟨by rfl, ?_⟩) (⟨ct, ch, co, ca⟩) ?_
  rotate_left 1
  · (intro w hSw; (try dsimp only at hSw); go_simp; try with_reducible rfl)
  try simp only [Act.put, List.setIfInBounds_toArray, List.set_cons_zero, List.set_cons_succ]
  refine wpAnyZ_one (i := 39) (by kernel_rfl) (ReadyZ.mk rfl (fun K hK => ?_))
  go_simp
  go_at_call 11
  refine (equalHeap_self A7 A2 _ q7 q2 KH _ S7 S3).mono ?_
  rintro e w14 ⟨rfl, hle⟩
  replace ct := (hle.cell zt).trans ct
  replace ch := (hle.cell zh).trans ch
  replace co := (hle.cell zo).trans co
  replace ca := (hle.cell za).trans ca
  replace zt := Nat.lt_of_lt_of_le zt hle.size
  replace zh := Nat.lt_of_lt_of_le zh hle.size
  replace zo := Nat.lt_of_lt_of_le zo hle.size
  replace za := Nat.lt_of_lt_of_le za hle.size
  replace L0 := L0.trans hle
  clear hle
  refine hK.out _ _ (fun _ => ⟨ct, ch, co, ca⟩) ?_
  clear hK K
  try simp only [Act.put, List.setIfInBounds_toArray, List.set_cons_zero, List.set_cons_succ]
  refine wpAnyZ_take (i := 40) (v := ?_) rfl (by kernel_rfl) (fun _ _ _ h => h) (Or.inl ⟨by rfl, ?_⟩) (⟨ct, ch, co, ca⟩) ?_
  rotate_left 1
  · (intro w hSw; (try dsimp only at hSw); go_simp; try with_reducible rfl)
  try simp only [Act.put, List.setIfInBounds_toArray, List.set_cons_zero, List.set_cons_succ]
  refine wpAnyZ_take (i := 41) (v := ?_) rfl (by kernel_rfl) (fun _ _ _ h => h) (Or.inl ⟨by rfl, ?_⟩) (⟨ct, ch, co, ca⟩) ?_
  rotate_left 1
  · (intro w hSw; (try dsimp only at hSw); go_simp; try with_reducible rfl)
  try simp only [Act.put, List.setIfInBounds_toArray, List.set_cons_zero, List.set_cons_succ]
  refine wpAnyZ_take (i := 42) (v := ?_) rfl (by kernel_rfl) (fun _ _ _ h => h) (Or.inl ⟨by rfl, ?_⟩) (⟨ct, ch, co, ca⟩) ?_
  rotate_left 1
  · (intro w hSw; (try dsimp only at hSw); go_simp; try with_reducible rfl)
  try simp only [Act.put, List.setIfInBounds_toArray, List.set_cons_zero, List.set_cons_succ]
  refine wpAnyZ_take (i := 43) (v := ?_) rfl (by kernel_rfl) (fun _ _ _ h => h) (Or.inl ⟨by rfl, ?_⟩) (⟨ct, ch, co, ca⟩) ?_
  rotate_left 1
  · (intro w hSw; (try dsimp only at hSw); go_simp; try with_reducible rfl)
  try simp only [Act.put, List.setIfInBounds_toArray, List.set_cons_zero, List.set_cons_succ]
  refine wpAnyZ_take (i := 44) (v := ?_) rfl (by kernel_rfl) (fun _ _ _ h => h) (Or.inl ⟨by rfl, ?_⟩) (⟨ct, ch, co, ca⟩) ?_
  rotate_left 1
  · (intro w hSw; (try dsimp only at hSw); go_simp; try with_reducible rfl)
  try simp only [Act.put, List.setIfInBounds_toArray, List.set_cons_zero, List.set_cons_succ]
  refine wpAnyZ_take (i := 45) (v := ?_) rfl (by kernel_rfl) (fun _ _ _ h => h) (Or.inl ⟨by rfl, ?_⟩) (⟨ct, ch, co, ca⟩) ?_
  rotate_left 1
  · (intro w hSw; (try dsimp only at hSw); go_simp; try with_reducible rfl)
  try simp only [Act.put, List.setIfInBounds_toArray, List.set_cons_zero, List.set_cons_succ]
  refine wpAnyZ_take (i := 46) (v := ?_) rfl (by kernel_rfl) (fun _ _ _ h => h) (Or.inl ⟨by rfl, ?_⟩) (⟨ct, ch, co, ca⟩) ?_
  rotate_left 1
  · (intro w hSw; (try dsimp only at hSw); go_simp; try with_reducible rfl)
  try simp only [Act.put, List.setIfInBounds_toArray, List.set_cons_zero, List.set_cons_succ]
  refine wpAnyZ_done (by kernel_rfl) ?_ _
  refine NoPanic.normal ?_
  go_wp2
  go_ret
  exact ⟨rfl, L0⟩
end

section
/-- a tree and two heaps, drawn anew -/
def DrJ (w : World) (e : Ending) (w' : World) : Prop :=
  ∃ (B : Option Addr) (m c : Nat) (xs : List Cls) (A1 : Option Addr) (q1 : Nat) (hs : List Flt) (A2 : Option Addr) (q2 : Nat) (ks : List Flt), e = .returned (.tuple #[.agg #[.slice B m c], .agg #[.slice A1 hs.length q1], .agg #[.slice A2 ks.length q2]]) ∧ Sl w' B m c xs ∧ m ≤ 8 ∧ Sl w' A1 hs.length q1 hs ∧ hs.length ≤ 6 ∧ Sl w' A2 ks.length q2 ks ∧ ks.length ≤ 6 ∧ Le w w'
theorem box3f (w : World) (v u x : Value) (T U X : TypeId) : ∃ W, W = ((w.alloc (.cells #[v] T)).alloc (.cells #[u] U)).alloc (.cells #[x] X) ∧ W.cell? ⟨w.heap.size, 0, none⟩ = some v ∧ W.cell? ⟨w.heap.size + 1, 0, none⟩ = some u ∧ W.cell? ⟨w.heap.size + 1 + 1, 0, none⟩ = some x ∧
    W.frozen? ⟨w.heap.size, 0, none⟩ = false ∧ W.frozen? ⟨w.heap.size + 1, 0, none⟩ = false ∧ W.frozen? ⟨w.heap.size + 1 + 1, 0, none⟩ = false ∧ W.heap.size = w.heap.size + 1 + 1 + 1 ∧ Le w W := by
  obtain ⟨c0, z0, c1, z1, c2, z2, L0⟩ := box3 w v u x T U X
  refine ⟨_, rfl, c0, c1, c2, ?_, ?_, World.frozen?_alloc_at _ _ _ _ (by simp), by simp, L0⟩
  · rw [(((Le.new _ _).alloc _).frozen (b := w.heap.size) (o := 0) (by simp))]; exact World.frozen?_alloc_at _ _ _ _ rfl
  · rw [((Le.new _ _).frozen (b := w.heap.size + 1) (o := 0) (by simp))]; exact World.frozen?_alloc_at _ _ _ _ (by simp)
set_option maxHeartbeats 4000000 in
set_option maxRecDepth 100000 in
theorem drawJoinHeaps_any (A : Option Addr) (n cap : Nat) (bs : List By) (w : World) (hR : Sl w A n cap bs) : Calls Tryd.prog 23 #[.slice A n cap] w (DrJ w) := by
  go_enter Tryd.func23, Tryd.ntmps23
  go_wp2_with fail
  obtain ⟨W, hWW, c0, c1, c2, f0, f1, f2, hw, L0⟩ := box3f w (.slice none 0 0) (.slice none 0 0) (.slice none 0 0) 25 28 28
  have S0 := hR.le L0
  rw [← hWW]
  clear hWW
  refine (newReader_any A n cap bs W S0).mono ?_
  rintro e w1 ⟨g, A1, n1, k1, bs1, rfl, hg, R1, hle⟩
  have s1 := hle.size
  replace c0 := (hle.cell (by omega)).trans c0
  replace c1 := (hle.cell (by omega)).trans c1
  replace c2 := (hle.cell (by omega)).trans c2
  replace f0 := (hle.frozen (by omega)).trans f0
  replace f1 := (hle.frozen (by omega)).trans f1
  replace f2 := (hle.frozen (by omega)).trans f2
  replace L0 := L0.trans hle
  have hgl := R1.lt
  clear S0 hle
  go_wp2_with fail
  refine (someHeap_any g 0 A1 n1 k1 bs1 w1 (by omega) R1).mono ?_
  rintro e w2 ⟨B, m, c, xs, A2, q2, hs, p2, rfl, S, hm, hoff, hab, O, hok, hl6, hp2, R2, hg2⟩
  have s2 := hg2.size
  replace c0 := (hg2.cell (k := w.heap.size) (o := 0) (by omega) (by omega)).trans c0
  replace f0 := (hg2.frozen (k := w.heap.size) (o := 0) (by omega) (by omega)).trans f0
  replace c1 := (hg2.cell (k := w.heap.size + 1) (o := 0) (by omega) (by omega)).trans c1
  replace f1 := (hg2.frozen (k := w.heap.size + 1) (o := 0) (by omega) (by omega)).trans f1
  replace c2 := (hg2.cell (k := w.heap.size + 1 + 1) (o := 0) (by omega) (by omega)).trans c2
  replace f2 := (hg2.frozen (k := w.heap.size + 1 + 1) (o := 0) (by omega) (by omega)).trans f2
  have L2 := Gx.le L0 hg2 (by omega)
  have hlt := O.lt
  obtain ⟨d0, y0, d1, y1, L3⟩ := box2 w2 (.slice B m c) (.slice A2 hs.length q2) 25 28
  replace c0 := (L3.cell (by omega)).trans c0
  replace c1 := (L3.cell (by omega)).trans c1
  replace c2 := (L3.cell (by omega)).trans c2
  replace f0 := (L3.frozen (by omega)).trans f0
  replace f1 := (L3.frozen (by omega)).trans f1
  replace f2 := (L3.frozen (by omega)).trans f2
  have R3 := R2.le L3
  have S3 := S.le L3
  have O3 := own_le O L3
  have LL := L2.trans L3
  have s3 := L3.size
  clear L3 L2 S O R2 hg2 R1 L0
  go_wp2_with fail
  generalize (w2.alloc (.cells #[.slice B m c] 25)).alloc (.cells #[.slice A2 hs.length q2] 28) = W2 at *
  replace d0 : W2.drew.cell? ⟨w2.heap.size, 0, none⟩ = some (.slice B m c) := d0
  replace d1 : W2.drew.cell? ⟨w2.heap.size + 1, 0, none⟩ = some (.slice A2 hs.length q2) := d1
  replace y0 : w2.heap.size < W2.drew.heap.size := y0
  replace y1 : w2.heap.size + 1 < W2.drew.heap.size := y1
  replace s3 : w2.heap.size ≤ W2.drew.heap.size := s3
  replace R3 := R3.le (Le.refl W2).drew
  replace S3 := S3.le (Le.refl W2).drew
  replace O3 := own_le O3 (Le.refl W2).drew
  replace LL := LL.trans (Le.refl W2).drew
  replace c0 : W2.drew.cell? ⟨w.heap.size, 0, none⟩ = some (.slice none 0 0) := c0
  replace c1 : W2.drew.cell? ⟨w.heap.size + 1, 0, none⟩ = some (.slice none 0 0) := c1
  replace c2 : W2.drew.cell? ⟨w.heap.size + 1 + 1, 0, none⟩ = some (.slice none 0 0) := c2
  replace f0 : W2.drew.frozen? ⟨w.heap.size, 0, none⟩ = false := f0
  replace f1 : W2.drew.frozen? ⟨w.heap.size + 1, 0, none⟩ = false := f1
  replace f2 : W2.drew.frozen? ⟨w.heap.size + 1 + 1, 0, none⟩ = false := f2
  refine wp_region_noPanic ?_
  refine wp_region_Z (fun w' => w'.cell? ⟨w2.heap.size, 0, none⟩ = some (.slice B m c) ∧ w'.cell? ⟨w2.heap.size + 1, 0, none⟩ = some (.slice A2 hs.length q2)) [] (by kernel_rfl) ?_
  refine wpAnyZ_take (i := 0) (v := ?_) rfl (by kernel_rfl) (fun _ _ _ h => h) (Or.inl ⟨by rfl, ?_⟩) (⟨d0, d1⟩) ?_
  rotate_left 1
  · (intro w hSw; (try dsimp only at hSw); go_simp; try with_reducible rfl)
  try simp only [Act.put, List.setIfInBounds_toArray, List.set_cons_zero, List.set_cons_succ]
  refine wpAnyZ_take (i := 1) (v := ?_) rfl (by kernel_rfl) (fun _ _ _ h => h) (Or.inl ⟨by rfl, ?_⟩) (⟨d0, d1⟩) ?_
  rotate_left 1
  · (intro w hSw; (try dsimp only at hSw); go_simp; try with_reducible rfl)
  try simp only [Act.put, List.setIfInBounds_toArray, List.set_cons_zero, List.set_cons_succ]
  refine wpAnyZ_take (i := 2) (v := ?_) rfl (by kernel_rfl) (fun _ _ _ h => h) (Or.inl ⟨by rfl, ?_⟩) (⟨d0, d1⟩) ?_
  rotate_left 1
  · (intro w hSw; (try dsimp only at hSw); go_simp; try with_reducible rfl)
  try simp only [Act.put, List.setIfInBounds_toArray, List.set_cons_zero, List.set_cons_succ]
  refine wpAnyZ_take (i := 3) (v := ?_) rfl (by kernel_rfl) (fun _ _ _ h => h) (Or.inl ⟨by rfl, ?_⟩) (⟨d0, d1⟩) ?_
  rotate_left 1
  · (intro w hSw; (try dsimp only at hSw); go_simp; try with_reducible rfl)
  try simp only [Act.put, List.setIfInBounds_toArray, List.set_cons_zero, List.set_cons_succ]
  refine wpAnyZ_one (i := 4) (by kernel_rfl) (ReadyZ.mk rfl (fun K hK => ?_))
  go_simp
  go_at_call 48
  generalize W2.drew = W3 at *
  refine (goodHeap_any B m c g p2 A1 n1 k1 bs1 _ hm (by omega) R3).mono ?_
  rintro e w3 ⟨v, ks, p3, rfl, OK, hokK, hl6k, hp3, R4, hg4⟩
  obtain ⟨A4, q4, rfl⟩ := own_form OK
  have hOK := OK.lt
  have s4 := hg4.size
  replace c0 := (hg4.cell (k := w.heap.size) (o := 0) (by omega) (by omega)).trans c0
  replace f0 := (hg4.frozen (k := w.heap.size) (o := 0) (by omega) (by omega)).trans f0
  replace c1 := (hg4.cell (k := w.heap.size + 1) (o := 0) (by omega) (by omega)).trans c1
  replace f1 := (hg4.frozen (k := w.heap.size + 1) (o := 0) (by omega) (by omega)).trans f1
  replace c2 := (hg4.cell (k := w.heap.size + 1 + 1) (o := 0) (by omega) (by omega)).trans c2
  replace f2 := (hg4.frozen (k := w.heap.size + 1 + 1) (o := 0) (by omega) (by omega)).trans f2
  replace d0 := (hg4.cell (k := w2.heap.size) (o := 0) (by omega) (by omega)).trans d0
  replace d1 := (hg4.cell (k := w2.heap.size + 1) (o := 0) (by omega) (by omega)).trans d1
  have S5 := S3.gx (fun hn a e => hoff hn a e) hg4
  have O5 := O3.kept hg4 (.inr (fun e => by have := hlt _ e; omega))
  have L5 := Gx.le LL hg4 (by omega)
  have HOK := Lib.hid hok
  have HKK := Lib.hid (ok_enc hokK)
  have HAB := Lib.hid hab
  clear S3 O3 R3 R4 hg4 LL hokK hok hab hoff
  have e1 : ∀ u, (w3.setCell ⟨w.heap.size, 0, none⟩ u).cell? ⟨w.heap.size + 1, 0, none⟩ = some (.slice none 0 0) := fun u => (cell_set_other (.inl (by omega))).trans c1
  have g1 : ∀ u, (w3.setCell ⟨w.heap.size, 0, none⟩ u).frozen? ⟨w.heap.size + 1, 0, none⟩ = false := fun u => by simpa using f1
  have e2 : ∀ u v, ((w3.setCell ⟨w.heap.size, 0, none⟩ u).setCell ⟨w.heap.size + 1, 0, none⟩ v).cell? ⟨w.heap.size + 1 + 1, 0, none⟩ = some (.slice none 0 0) := fun u v => (cell_set_other (.inl (by omega))).trans ((cell_set_other (.inl (by omega))).trans c2)
  have g2 : ∀ u v, ((w3.setCell ⟨w.heap.size, 0, none⟩ u).setCell ⟨w.heap.size + 1, 0, none⟩ v).frozen? ⟨w.heap.size + 1 + 1, 0, none⟩ = false := fun u v => by simpa using f2
  have k0 : ∀ u v x, (((w3.setCell ⟨w.heap.size, 0, none⟩ u).setCell ⟨w.heap.size + 1, 0, none⟩ v).setCell ⟨w.heap.size + 1 + 1, 0, none⟩ x).cell? ⟨w.heap.size, 0, none⟩ = some u := fun u v x => (cell_set_other (.inl (by omega))).trans ((cell_set_other (.inl (by omega))).trans (cell_set_same c0))
  have k1 : ∀ u v x, (((w3.setCell ⟨w.heap.size, 0, none⟩ u).setCell ⟨w.heap.size + 1, 0, none⟩ v).setCell ⟨w.heap.size + 1 + 1, 0, none⟩ x).cell? ⟨w.heap.size + 1, 0, none⟩ = some v := fun u v x => (cell_set_other (.inl (by omega))).trans (cell_set_same (e1 u))
  have k2 : ∀ u v x, (((w3.setCell ⟨w.heap.size, 0, none⟩ u).setCell ⟨w.heap.size + 1, 0, none⟩ v).setCell ⟨w.heap.size + 1 + 1, 0, none⟩ x).cell? ⟨w.heap.size + 1 + 1, 0, none⟩ = some x := fun u v x => cell_set_same (e2 u v)
  have sd : ∀ (W : World) (k : Nat) (u x : Value) (b : Nat), b ≠ k → W.cell? ⟨b, 0, none⟩ = some x → (W.setCell ⟨k, 0, none⟩ u).cell? ⟨b, 0, none⟩ = some x := fun W k u x b hne h => (cell_set_other (.inl (Ne.symm hne))).trans h
  refine hK.out _ _ (fun _ => ⟨d0, d1⟩) ?_
  clear hK K
  try simp only [Act.put, List.setIfInBounds_toArray, List.set_cons_zero, List.set_cons_succ]
  refine wpAnyZ_one (i := 5) (by kernel_rfl) (ReadyZ.mk rfl (fun K hK => ?_))
  go_simp
  refine hK.out _ _ (fun _ => ⟨sd _ _ _ _ _ (by omega) d0, sd _ _ _ _ _ (by omega) d1⟩) ?_
  clear hK K
  try simp only [Act.put, List.setIfInBounds_toArray, List.set_cons_zero, List.set_cons_succ]
  refine wpAnyZ_one (i := 6) (by kernel_rfl) (ReadyZ.mk rfl (fun K hK => ?_))
  go_simp
  refine hK.out _ _ (fun _ => ⟨sd _ _ _ _ _ (by omega) (sd _ _ _ _ _ (by omega) d0), sd _ _ _ _ _ (by omega) (sd _ _ _ _ _ (by omega) d1)⟩) ?_
  clear hK K
  try simp only [Act.put, List.setIfInBounds_toArray, List.set_cons_zero, List.set_cons_succ]
  refine wpAnyZ_one (i := 7) (by kernel_rfl) (ReadyZ.mk rfl (fun K hK => ?_))
  go_simp
  refine hK.out _ _ (fun _ => ⟨sd _ _ _ _ _ (by omega) (sd _ _ _ _ _ (by omega) (sd _ _ _ _ _ (by omega) d0)), sd _ _ _ _ _ (by omega) (sd _ _ _ _ _ (by omega) (sd _ _ _ _ _ (by omega) d1))⟩) ?_
  clear hK K
  try simp only [Act.put, List.setIfInBounds_toArray, List.set_cons_zero, List.set_cons_succ]
  refine wpAnyZ_done (by kernel_rfl) ?_ _
  refine NoPanic.normal ?_
  go_wp2
  exact bodyPost_ret (v := .tuple #[.agg #[.slice B m c], .agg #[.slice A2 hs.length q2], .agg #[.slice A4 ks.length q4]]) (by simp [results, Tryd.results23, go_sem, k0, k1, k2]) rfl
    ⟨B, m, c, xs, A2, q2, hs, A4, q4, ks, rfl,
      ((S5.grown (grown_set w3 w.heap.size 0 _) (fun hn a e e2 => by have := HAB.out hn a e; injection e2 with e2; omega)).grown (grown_set _ (w.heap.size + 1) 0 _) (fun hn a e e2 => by have := HAB.out hn a e; injection e2 with e2; omega)).grown (grown_set _ (w.heap.size + 1 + 1) 0 _) (fun hn a e e2 => by have := HAB.out hn a e; injection e2 with e2; omega), hm,
      Sl.of_own (((O5.kept (grown_set w3 w.heap.size 0 _) (.inr (fun e => by have := hlt _ e; omega))).kept (grown_set _ (w.heap.size + 1) 0 _) (.inr (fun e => by have := hlt _ e; omega))).kept (grown_set _ (w.heap.size + 1 + 1) 0 _) (.inr (fun e => by have := hlt _ e; omega))) rfl (by decide) HOK.out, hl6,
      Sl.of_own (((OK.kept (grown_set w3 w.heap.size 0 _) (.inr (fun e => by have := hOK _ e; omega))).kept (grown_set _ (w.heap.size + 1) 0 _) (.inr (fun e => by have := hOK _ e; omega))).kept (grown_set _ (w.heap.size + 1 + 1) 0 _) (.inr (fun e => by have := hOK _ e; omega))) rfl (by decide) HKK.out, hl6k,
      ((L5.setCell (Nat.le_refl _) _).setCell (Nat.le_succ _) _).setCell (by omega) _⟩
end
end Go.Proofs.YthcolcmgfhkbeaaDoor
