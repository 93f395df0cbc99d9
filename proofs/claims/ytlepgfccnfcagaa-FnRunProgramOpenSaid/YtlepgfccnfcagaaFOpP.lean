/- the law FnRunProgramOpen -/
import Derived.Test.YtlepgfccnfcagaaDPdP
import Derived.Test.YtlepgfccnfcagaaWp13
import Derived.Test.YtlepgfccnfcagaaWp5
import Derived.Test.YtlepgfccnfcagaaWp18
import Derived.Test.YtlepgfccnfcagaaRnLP
namespace Go.Proofs.Ytlepgfccnfcagaa
open Go.RowKit
theorem own_cut {w : World} {base size n m : Nat} {e : TypeId} {A : Option Addr} {c : Nat} {xs ys : List Value} (h : w.ownsRow base e size (.slice A n c) n (xs ++ ys)) (hA : A ≠ none) (hx : xs.length = m * size) (hm : m ≤ n) : w.ownsRow base e size (.slice A m c) m xs := by
  refine ⟨hx, .inr ?_⟩
  rcases h.2 with ⟨h', _⟩ | ⟨g, cap, cur, hv, hg0, hg, hnc, hcm, hcs, ht⟩
  · simp only [Value.slice.injEq] at h'
    exact absurd h'.1 hA
  · simp only [Value.slice.injEq, true_and] at hv
    obtain ⟨rfl, rfl⟩ := hv
    refine ⟨g, c, cur, rfl, hg0, hg, by omega, hcm, hcs, ?_⟩
    have : cur.toList.take (m * size) = (cur.toList.take (n * size)).take (m * size) := by
      rw [List.take_take, Nat.min_eq_left (Nat.mul_le_mul_right _ hm)]
    rw [this, ht, ← hx]; simp
/-- one step of what is open -/
theorem stk_step {L S : List Int} {k : Nat} (hk : k < L.length) (h : stk S.reverse (L.drop k) = some []) :
    (200 ≤ L[k] → ∃ r, S = r ++ [L[k] - 200] ∧ stk r.reverse (L.drop (k + 1)) = some []) ∧
    (¬ 200 ≤ L[k] → 100 ≤ L[k] → stk (S ++ [L[k] - 100]).reverse (L.drop (k + 1)) = some []) ∧
    (¬ 200 ≤ L[k] → ¬ 100 ≤ L[k] → stk S.reverse (L.drop (k + 1)) = some []) := by
  rw [List.drop_eq_getElem_cons hk, stk_cons] at h
  refine ⟨fun h1 => ?_, fun h1 h2 => ?_, fun h1 h2 => ?_⟩
  · rw [if_pos h1] at h
    rcases hS : S.reverse with _ | ⟨y, r⟩
    · rw [hS] at h; cases h
    · rw [hS] at h
      dsimp only at h
      split at h
      · next e =>
        refine ⟨r.reverse, ?_, by rw [List.reverse_reverse]; exact h⟩
        have e2 := congrArg List.reverse hS
        rw [List.reverse_reverse, List.reverse_cons] at e2
        rw [e2, e]
      · cases h
  · rw [if_neg h1, if_pos h2] at h
    rw [List.reverse_append]; exact h
  · rw [if_neg h1, if_neg h2] at h
    exact h
theorem stk_end {S : List Int} (h : stk S.reverse [] = some []) : S = [] := by
  have h2 : S.reverse = [] := Option.some.inj h
  exact List.reverse_eq_nil_iff.1 h2
set_option maxHeartbeats 8000000 in
set_option maxRecDepth 100000 in
theorem fnRunProgramOpen_walk (A : Option Addr) (n cap : Nat) (bs : List By) (w : World) (hR : Sl w A n cap bs) :
    Calls Try.prog 3 #[.slice A n cap] w fun e w' => e = .returned (.bool true) ∧ Le w w' := by
  have hm := hR.n_le
  obtain ⟨i0, hi, hz0, hz1, hz2⟩ := info_parts infoInt
  by_cases hbig : 1048576 < n
  · go_enter Try.func3, Try.ntmps3
    go_wp2
    go_ret
    exact ⟨rfl, Le.refl w⟩
  go_enter Try.func3, Try.ntmps3
  go_wp2_with fail
  refine (drawRunProgram_any A n cap bs w hR).mono ?_
  rintro e w1 ⟨B, D, m, c, q, d, xs, p, rfl, S, hm8, S2, hq24, L0⟩
  obtain rfl := S2.len
  have hm1 : m ≤ 1048576 := by omega
  have hsm : p.length ≤ 1048576 := by omega
  clear hbig hm hR
  have HRI : Hid (∀ W, Sl W B m c xs → Sl W D p.length d p → Calls Try.prog 11 #[.agg #[.slice B m c], .slice D p.length d] W fun e w' => ∃ A0 q0 A1 q1, e = .returned (.agg #[.slice A0 (rpL xs p).length q0, .int .i64 (rpE xs p), .int .i64 (rpV xs p), .slice A1 (rpH xs p).length q1]) ∧ Sl w' A0 (rpL xs p).length q0 (rpL xs p) ∧ Sl w' A1 (rpH xs p).length q1 (rpH xs p) ∧ Le W w') := fun W a b => Calls.rs (iRp_any B D m c _ d xs _ hm1 W a b)
  have HRS : Hid (∀ W, Sl W B m c xs → Sl W D p.length d p → Calls Try.prog 13 #[.agg #[.slice B m c], .slice D p.length d] W fun e w' => ∃ A0 q0 A1 q1, e = .returned (.agg #[.slice A0 (rpL xs p).length q0, .int .i64 (rpE xs p), .int .i64 (rpV xs p), .slice A1 (rpH xs p).length q1]) ∧ Sl w' A0 (rpL xs p).length q0 (rpL xs p) ∧ Sl w' A1 (rpH xs p).length q1 (rpH xs p) ∧ Le W w') := fun W a b => Calls.rs (sRp_any B D m c _ d xs _ hsm W a b)
  have HV : Hid (∀ W, Sl W B m c xs → Sl W D p.length d p → Calls Try.prog 14 #[.agg #[.slice B m c], .slice D p.length d] W fun e w' => e = .returned (.bool (vp xs p)) ∧ Le W w') := fun W a b => pValidProgram_any B D m c _ d xs p hm1 W a b
  have HLP := Lib.hid (rpL_len xs p)
  have HBL : Hid (vp xs p = true → stk [] (rpL xs p) = some []) := fun h => run_bal h
  generalize rpL xs p = LP at *
  generalize rpE xs p = EP at *
  generalize rpV xs p = VP at *
  generalize rpH xs p = HP at *
  generalize vp xs p = ok at *
  go_wp2_with fail
  obtain ⟨ct, zt, hleB⟩ := box1 w1 (.slice B m c) 25
  replace S := S.le hleB
  replace L0 := L0.trans hleB
  replace S2 := S2.le hleB
  clear hleB
  generalize w1.alloc (.cells #[.slice B m c] 25) = W1 at *
  refine (HRI.out W1 S S2).mono ?_
  rintro e w5 ⟨Aa, qa, Ha, ha, rfl, SLa, SHa, hle⟩
  replace ct := (hle.cell zt).trans ct
  replace zt := Nat.lt_of_lt_of_le zt hle.size
  replace S := S.le hle
  replace L0 := L0.trans hle
  replace S2 := S2.le hle
  clear hle HRI
  obtain ⟨ca0, ca1, ca2, ca3, za0, LB⟩ := boxRr w5 (.slice Aa LP.length qa) (.int .i64 EP) (.int .i64 VP) (.slice Ha HP.length ha) 34
  have za1 := za0
  have za2 := za0
  have za3 := za0
  replace ct := (LB.cell zt).trans ct
  replace zt := Nat.lt_of_lt_of_le zt LB.size
  replace S := S.le LB
  replace L0 := L0.trans LB
  replace S2 := S2.le LB
  replace SLa := SLa.le LB
  replace SHa := SHa.le LB
  clear LB
  go_wp2_with fail
  generalize w5.alloc (.cells #[.slice Aa LP.length qa, .int .i64 EP, .int .i64 VP, .slice Ha HP.length ha] 34) = W5 at *
  generalize w5.heap.size = ba at *
  replace ct := (show W5.drew.cell? _ = _ from ct)
  replace zt := (show _ < W5.drew.heap.size from zt)
  replace ca0 := (show W5.drew.cell? _ = _ from ca0)
  replace za0 := (show _ < W5.drew.heap.size from za0)
  replace ca1 := (show W5.drew.cell? _ = _ from ca1)
  replace za1 := (show _ < W5.drew.heap.size from za1)
  replace ca2 := (show W5.drew.cell? _ = _ from ca2)
  replace za2 := (show _ < W5.drew.heap.size from za2)
  replace ca3 := (show W5.drew.cell? _ = _ from ca3)
  replace za3 := (show _ < W5.drew.heap.size from za3)
  replace L0 := L0.drew
  replace S := S.le (Le.refl _).drew
  replace S2 := S2.le (Le.refl _).drew
  replace SLa := SLa.le (Le.refl _).drew
  replace SHa := SHa.le (Le.refl _).drew
  refine wp_region_noPanic ?_
  refine wp_region_held_drew (S := fun w' => w'.cell? ⟨w1.heap.size, 0, none⟩ = some (.slice B m c) ∧ w'.cell? ⟨ba, 0, none⟩ = some (.slice Aa LP.length qa) ∧ w'.cell? ⟨ba, 1, none⟩ = some (.int .i64 EP) ∧ w'.cell? ⟨ba, 2, none⟩ = some (.int .i64 VP) ∧ w'.cell? ⟨ba, 3, none⟩ = some (.slice Ha HP.length ha)) (by kernel_rfl) ⟨ct, ca0, ca1, ca2, ca3⟩ (fun hHeld => ?_)
  refine wpAnyH_takeL (i := 0) (v := ?_) rfl (by kernel_rfl) (by kernel_rfl) (by kernel_rfl) (fun _ _ _ h => h) (Or.inl ⟨by rfl, ?_⟩) (by assumption) ?_
  rotate_left 1
  · (intro w hSw; (try dsimp only at hSw); go_simp; try with_reducible rfl)
  try simp only [Act.put, List.setIfInBounds_toArray, List.set_cons_zero, List.set_cons_succ]
  refine wpAnyH_takeL (i := 1) (v := ?_) rfl (by kernel_rfl) (by kernel_rfl) (by kernel_rfl) (fun _ _ _ h => h) (Or.inl ⟨by rfl, ?_⟩) (by assumption) ?_
  rotate_left 1
  · (intro w hSw; (try dsimp only at hSw); go_simp; try with_reducible rfl)
  try simp only [Act.put, List.setIfInBounds_toArray, List.set_cons_zero, List.set_cons_succ]
  refine wpAnyH_takeL (i := 2) (v := ?_) rfl (by kernel_rfl) (by kernel_rfl) (by kernel_rfl) (fun _ _ _ h => h) (Or.inl ⟨by rfl, ?_⟩) (by assumption) ?_
  rotate_left 1
  · (intro w hSw; (try dsimp only at hSw); go_simp; try with_reducible rfl)
  try simp only [Act.put, List.setIfInBounds_toArray, List.set_cons_zero, List.set_cons_succ]
  refine wpAnyH_ready (rs := [3]) (by kernel_rfl) (by simp) (AllReadyH.consL (i := 3) rfl (fun K hK => ?_) AllReadyH.nil)
  go_simp
  go_at_call 13
  refine (HRS.out _ S S2).mono ?_
  rintro e w6 ⟨Ab, qb, Hb, hb, rfl, SLb, SHb, hle⟩
  replace ct := (hle.cell zt).trans ct
  replace ca0 := (hle.cell za0).trans ca0
  replace ca1 := (hle.cell za1).trans ca1
  replace ca2 := (hle.cell za2).trans ca2
  replace ca3 := (hle.cell za3).trans ca3
  replace zt := Nat.lt_of_lt_of_le zt hle.size
  replace za0 := Nat.lt_of_lt_of_le za0 hle.size
  replace za1 := Nat.lt_of_lt_of_le za1 hle.size
  replace za2 := Nat.lt_of_lt_of_le za2 hle.size
  replace za3 := Nat.lt_of_lt_of_le za3 hle.size
  replace L0 := L0.trans hle
  replace S := S.le hle
  replace S2 := S2.le hle
  replace SLa := SLa.le hle
  replace SHa := SHa.le hle
  clear hle
  refine hK.out _ _ (⟨ct, ca0, ca1, ca2, ca3⟩) (fun hHeld => ?_)
  clear hK K
  try simp only [Act.put, List.setIfInBounds_toArray, List.set_cons_zero, List.set_cons_succ]
  refine wpAnyH_ready (rs := [4]) (by kernel_rfl) (by simp) (AllReadyH.consL (i := 4) rfl (fun K hK => ?_) AllReadyH.nil)
  go_simp
  go_at_call 12
  refine (equalResult_self Aa Ab Ha Hb _ qa qb _ ha hb LP HP EP VP _ SLa SLb SHa SHb).mono ?_
  rintro e w7 ⟨rfl, hle⟩
  replace ct := (hle.cell zt).trans ct
  replace ca0 := (hle.cell za0).trans ca0
  replace ca1 := (hle.cell za1).trans ca1
  replace ca2 := (hle.cell za2).trans ca2
  replace ca3 := (hle.cell za3).trans ca3
  replace zt := Nat.lt_of_lt_of_le zt hle.size
  replace za0 := Nat.lt_of_lt_of_le za0 hle.size
  replace za1 := Nat.lt_of_lt_of_le za1 hle.size
  replace za2 := Nat.lt_of_lt_of_le za2 hle.size
  replace za3 := Nat.lt_of_lt_of_le za3 hle.size
  replace L0 := L0.trans hle
  replace S := S.le hle
  replace S2 := S2.le hle
  replace SLa := SLa.le hle
  replace SHa := SHa.le hle
  clear hle SLb SHb
  refine hK.out _ _ (⟨ct, ca0, ca1, ca2, ca3⟩) (fun hHeld => ?_)
  clear hK K
  try simp only [Act.put, List.setIfInBounds_toArray, List.set_cons_zero, List.set_cons_succ]
  refine wpAnyH_takeL (i := 5) (v := ?_) rfl (by kernel_rfl) (by kernel_rfl) (by kernel_rfl) (fun _ _ _ h => h) (Or.inl ⟨by rfl, ?_⟩) (by assumption) ?_
  rotate_left 1
  · (intro w hSw; (try dsimp only at hSw); go_simp; try with_reducible rfl)
  try simp only [Act.put, List.setIfInBounds_toArray, List.set_cons_zero, List.set_cons_succ]
  refine wpAnyH_takeL (i := 6) (v := ?_) rfl (by kernel_rfl) (by kernel_rfl) (by kernel_rfl) (fun _ _ _ h => h) (Or.inl ⟨by rfl, ?_⟩) (by assumption) ?_
  rotate_left 1
  · (intro w hSw; (try dsimp only at hSw); go_simp; try with_reducible rfl)
  try simp only [Act.put, List.setIfInBounds_toArray, List.set_cons_zero, List.set_cons_succ]
  refine wpAnyH_takeL (i := 7) (v := ?_) rfl (by kernel_rfl) (by kernel_rfl) (by kernel_rfl) (fun _ _ _ h => h) (Or.inl ⟨by rfl, ?_⟩) (by assumption) ?_
  rotate_left 1
  · (intro w hSw; (try dsimp only at hSw); go_simp; try with_reducible rfl)
  try simp only [Act.put, List.setIfInBounds_toArray, List.set_cons_zero, List.set_cons_succ]
  refine wpAnyH_takeL (i := 8) (v := ?_) rfl (by kernel_rfl) (by kernel_rfl) (by kernel_rfl) (fun _ _ _ h => h) (Or.inl ⟨by rfl, ?_⟩) (by assumption) ?_
  rotate_left 1
  · (intro w hSw; (try dsimp only at hSw); go_simp; try with_reducible rfl)
  try simp only [Act.put, List.setIfInBounds_toArray, List.set_cons_zero, List.set_cons_succ]
  refine wpAnyH_ready (rs := [9]) (by kernel_rfl) (by simp) (AllReadyH.consL (i := 9) rfl (fun K hK => ?_) AllReadyH.nil)
  go_simp
  go_at_call 14
  refine (HV.out _ S S2).mono ?_
  rintro e w8 ⟨rfl, hle⟩
  replace ct := (hle.cell zt).trans ct
  replace ca0 := (hle.cell za0).trans ca0
  replace ca1 := (hle.cell za1).trans ca1
  replace ca2 := (hle.cell za2).trans ca2
  replace ca3 := (hle.cell za3).trans ca3
  replace zt := Nat.lt_of_lt_of_le zt hle.size
  replace za0 := Nat.lt_of_lt_of_le za0 hle.size
  replace za1 := Nat.lt_of_lt_of_le za1 hle.size
  replace za2 := Nat.lt_of_lt_of_le za2 hle.size
  replace za3 := Nat.lt_of_lt_of_le za3 hle.size
  replace L0 := L0.trans hle
  replace S := S.le hle
  replace S2 := S2.le hle
  replace SLa := SLa.le hle
  replace SHa := SHa.le hle
  clear hle HV
  refine hK.out _ _ (⟨ct, ca0, ca1, ca2, ca3⟩) (fun hHeld => ?_)
  clear hK K
  try simp only [Act.put, List.setIfInBounds_toArray, List.set_cons_zero, List.set_cons_succ]
  refine wpAnyH_takeL (i := 10) (v := ?_) rfl (by kernel_rfl) (by kernel_rfl) (by kernel_rfl) (fun _ _ _ h => h) (Or.inl ⟨by rfl, ?_⟩) (by assumption) ?_
  rotate_left 1
  · (intro w hSw; (try dsimp only at hSw); go_simp; try with_reducible rfl)
  try simp only [Act.put, List.setIfInBounds_toArray, List.set_cons_zero, List.set_cons_succ]
  refine wpAnyH_takeL (i := 11) (v := ?_) rfl (by kernel_rfl) (by kernel_rfl) (by kernel_rfl) (fun _ _ _ h => h) (Or.inl ⟨by rfl, ?_⟩) (by assumption) ?_
  rotate_left 1
  · (intro w hSw; (try dsimp only at hSw); go_simp; try with_reducible rfl)
  try simp only [Act.put, List.setIfInBounds_toArray, List.set_cons_zero, List.set_cons_succ]
  refine wpAnyH_done (by kernel_rfl) ?_ _
  refine NoPanic.normal ?_
  clear hHeld
  cases ok
  · go_wp2_with fail
    replace ct := (show w8.drew.cell? _ = _ from ct)
    replace zt := (show _ < w8.drew.heap.size from zt)
    replace ca0 := (show w8.drew.cell? _ = _ from ca0)
    replace za0 := (show _ < w8.drew.heap.size from za0)
    replace ca1 := (show w8.drew.cell? _ = _ from ca1)
    replace za1 := (show _ < w8.drew.heap.size from za1)
    replace ca2 := (show w8.drew.cell? _ = _ from ca2)
    replace za2 := (show _ < w8.drew.heap.size from za2)
    replace ca3 := (show w8.drew.cell? _ = _ from ca3)
    replace za3 := (show _ < w8.drew.heap.size from za3)
    replace L0 := L0.drew
    replace S := S.le (Le.refl _).drew
    replace S2 := S2.le (Le.refl _).drew
    replace SLa := SLa.le (Le.refl _).drew
    replace SHa := SHa.le (Le.refl _).drew
    refine wp_region_noPanic ?_
    refine wp_region_held_drew (S := fun w' => w'.cell? ⟨w1.heap.size, 0, none⟩ = some (.slice B m c) ∧ w'.cell? ⟨ba, 0, none⟩ = some (.slice Aa LP.length qa) ∧ w'.cell? ⟨ba, 1, none⟩ = some (.int .i64 EP) ∧ w'.cell? ⟨ba, 2, none⟩ = some (.int .i64 VP) ∧ w'.cell? ⟨ba, 3, none⟩ = some (.slice Ha HP.length ha)) (by kernel_rfl) ⟨ct, ca0, ca1, ca2, ca3⟩ (fun hHeld => ?_)
    refine wpAnyH_takeL (i := 0) (v := ?_) rfl (by kernel_rfl) (by kernel_rfl) (by kernel_rfl) (fun _ _ _ h => h) (Or.inl ⟨by rfl, ?_⟩) (by assumption) ?_
    rotate_left 1
    · (intro w hSw; (try dsimp only at hSw); go_simp; try with_reducible rfl)
    try simp only [Act.put, List.setIfInBounds_toArray, List.set_cons_zero, List.set_cons_succ]
    refine wpAnyH_takeL (i := 1) (v := ?_) rfl (by kernel_rfl) (by kernel_rfl) (by kernel_rfl) (fun _ _ _ h => h) (Or.inl ⟨by rfl, ?_⟩) (by assumption) ?_
    rotate_left 1
    · (intro w hSw; (try dsimp only at hSw); go_simp; try with_reducible rfl)
    try simp only [Act.put, List.setIfInBounds_toArray, List.set_cons_zero, List.set_cons_succ]
    refine wpAnyH_takeL (i := 2) (v := ?_) rfl (by kernel_rfl) (by kernel_rfl) (by kernel_rfl) (fun _ _ _ h => h) (Or.inl ⟨by rfl, ?_⟩) (by assumption) ?_
    rotate_left 1
    · (intro w hSw; (try dsimp only at hSw); go_simp; try with_reducible rfl)
    try simp only [Act.put, List.setIfInBounds_toArray, List.set_cons_zero, List.set_cons_succ]
    refine wpAnyH_ready (rs := [3]) (by kernel_rfl) (by simp) (AllReadyH.consL (i := 3) rfl (fun K hK => ?_) AllReadyH.nil)
    go_simp
    go_at_call 13
    refine (HRS.out _ S S2).mono ?_
    rintro e w9 ⟨Ab, qb, Hb, hb, rfl, SLb, SHb, hle⟩
    replace ct := (hle.cell zt).trans ct
    replace ca0 := (hle.cell za0).trans ca0
    replace ca1 := (hle.cell za1).trans ca1
    replace ca2 := (hle.cell za2).trans ca2
    replace ca3 := (hle.cell za3).trans ca3
    replace zt := Nat.lt_of_lt_of_le zt hle.size
    replace za0 := Nat.lt_of_lt_of_le za0 hle.size
    replace za1 := Nat.lt_of_lt_of_le za1 hle.size
    replace za2 := Nat.lt_of_lt_of_le za2 hle.size
    replace za3 := Nat.lt_of_lt_of_le za3 hle.size
    replace L0 := L0.trans hle
    replace S := S.le hle
    replace S2 := S2.le hle
    replace SLa := SLa.le hle
    replace SHa := SHa.le hle
    clear hle HRS
    refine hK.out _ _ (⟨ct, ca0, ca1, ca2, ca3⟩) (fun hHeld => ?_)
    clear hK K
    try simp only [Act.put, List.setIfInBounds_toArray, List.set_cons_zero, List.set_cons_succ]
    refine wpAnyH_ready (rs := [4]) (by kernel_rfl) (by simp) (AllReadyH.consL (i := 4) rfl (fun K hK => ?_) AllReadyH.nil)
    go_simp
    go_at_call 12
    refine (equalResult_self Aa Ab Ha Hb _ qa qb _ ha hb LP HP EP VP _ SLa SLb SHa SHb).mono ?_
    rintro e w10 ⟨rfl, hle⟩
    replace ct := (hle.cell zt).trans ct
    replace ca0 := (hle.cell za0).trans ca0
    replace ca1 := (hle.cell za1).trans ca1
    replace ca2 := (hle.cell za2).trans ca2
    replace ca3 := (hle.cell za3).trans ca3
    replace zt := Nat.lt_of_lt_of_le zt hle.size
    replace za0 := Nat.lt_of_lt_of_le za0 hle.size
    replace za1 := Nat.lt_of_lt_of_le za1 hle.size
    replace za2 := Nat.lt_of_lt_of_le za2 hle.size
    replace za3 := Nat.lt_of_lt_of_le za3 hle.size
    replace L0 := L0.trans hle
    clear hle SLb SHb
    refine hK.out _ _ (⟨ct, ca0, ca1, ca2, ca3⟩) (fun hHeld => ?_)
    clear hK K
    try simp only [Act.put, List.setIfInBounds_toArray, List.set_cons_zero, List.set_cons_succ]
    refine wpAnyH_takeL (i := 5) (v := ?_) rfl (by kernel_rfl) (by kernel_rfl) (by kernel_rfl) (fun _ _ _ h => h) (Or.inl ⟨by rfl, ?_⟩) (by assumption) ?_
    rotate_left 1
    · (intro w hSw; (try dsimp only at hSw); go_simp; try with_reducible rfl)
    try simp only [Act.put, List.setIfInBounds_toArray, List.set_cons_zero, List.set_cons_succ]
    refine wpAnyH_done (by kernel_rfl) ?_ _
    refine NoPanic.normal ?_
    go_wp2
    go_ret
    exact ⟨rfl, L0⟩
  simp only [Bool.not_true]
  have HB2 := Lib.hid (HBL.out rfl)
  clear HBL HRS ca1 ca2 ca3 S S2 SHa ct
  have hl1 := HLP.out
  go_wp2_with fail
  have O1 := own_empty (w := w8) (base := w8.heap.size) (g := w8.heap.size) (e := 3) (size := 1) (Nat.le_refl _) rfl
  have L1 := Le.new w8 (.cells #[] 3)
  have HA := Lib.hid ca0
  have HSa := Lib.hid SLa
  go_loopw [6, 7, 8, 9] (fun v i x y wr => ∃ (k : Nat) (S : List Int) (A : Option Addr) (q : Nat), k ≤ LP.length ∧ S.length ≤ k ∧ i = .int .i64 k ∧ Hid (stk S.reverse (LP.drop k) = some []) ∧ Hid (∀ x ∈ S, Enc.ok x) ∧ Hid (A ≠ none) ∧ v = .slice A S.length q ∧ wr.ownsRow w8.heap.size 3 1 (.slice A S.length q) S.length (S.flatMap Enc.cells) ∧ Le w8 wr) (fun _ i _ _ _ => LP.length - (intOf i).toNat)
  case atStart => exact ⟨0, [], _, _, Nat.zero_le _, Nat.le_refl _, rfl, HB2.out, by simp [Hid], by simp [Hid], rfl, O1, L1⟩
  case round =>
    obtain ⟨k, S, A9, q9, hk, hsk, rfl, hst, hok, hne, rfl, O, LW⟩ := hrel
    have ca0 := (LW.cell za0).trans HA.out
    have SL := HSa.out.le LW
    have zr : ba < wr.heap.size := Nat.lt_of_lt_of_le za0 LW.size
    clear O1 L1
    by_cases hkL : k < LP.length
    · have hki : (k : Int) < (LP.length : Int) := by omega
      have HT := Lib.hid (stk_step hkL hst.out)
      have hxok := SL.ok _ (List.getElem_mem hkL)
      have hx1 : -9223372036854775808 ≤ LP[k] ∧ LP[k] ≤ 9223372036854775807 := hxok
      obtain ⟨b, off, rfl, hb, hcell, _, _⟩ := SL.int_at hkL
      clear hst hxok
      by_cases h2 : 200 ≤ LP[k]
      · obtain ⟨r, rfl, hr⟩ := HT.out.1 h2
        generalize LP[k] = x at *
        have hlen : (r ++ [x - 200]).length = r.length + 1 := by simp
        have hwx : IntKind.i64.wrap (x - 200) = x - 200 := IntWalk.i64_in _ (by omega)
        have hwr : IntKind.i64.wrap (r.length : Int) = (r.length : Int) := IntWalk.i64_in _ (by omega)
        have hxx : ((x - 200) != (x - 200)) = false := by simp
        have hrn : ¬ (r.length : Int) < 0 := by omega
        have hrr : Hid (∀ y ∈ r, Enc.ok y) := fun y hy => hok.out y (List.mem_append_left _ hy)
        have SS := Sl.of_own O rfl (by decide) (xs := r ++ [x - 200]) hok.out
        rw [hlen] at O SS hsk ⊢
        rw [List.flatMap_append] at O
        have OC := own_cut O hne.out (m := r.length) (by rw [flat_len]; rfl) (by omega)
        obtain ⟨b2, off2, rfl, hb2, hcell2, _, _⟩ := SS.int_at (k := r.length) (by simp)
        have hge : (r ++ [x - 200])[r.length]'(by simp) = x - 200 := by simp
        rw [hge] at hcell2
        have hq9 : r.length ≤ q9 := by have := SS.cap_; omega
        have HR := Lib.hid hr
        clear hge O SS HT hr hlen
        go_wp2_with fail
        go_roundw
        case rel => exact ⟨k + 1, r, _, q9, by omega, by omega, by go_num, HR, hrr, Lib.hid hne.out, rfl, OC, LW⟩
        case measure => simp [intOf]; omega
      · by_cases h1 : 100 ≤ LP[k]
        · have hr := Lib.hid (HT.out.2.1 h2 h1)
          generalize LP[k] = x at *
          have hwx : IntKind.i64.wrap (x - 100) = x - 100 := IntWalk.i64_in _ (by omega)
          have hc3 : S.length + 1 ≤ maxLen := by unfold maxLen; omega
          have hc4 : (S.length + 1) * 8 ≤ 140737488355328 := by omega
          have hok2 : Hid (∀ y ∈ S ++ [x - 100], Enc.ok y) := fun y hy => by
            rcases List.mem_append.1 hy with h | h
            · exact hok.out y h
            · rw [List.mem_singleton] at h
              subst h
              exact (show -9223372036854775808 ≤ x - 100 ∧ x - 100 ≤ 9223372036854775807 by omega)
          have hlen : Hid ((S ++ [x - 100]).length = S.length + 1) := by show _ = _; simp
          clear HT
          go_wp2_with (at_builtin; refine wpList_append_own _ rfl _ _ 29 rfl w8.heap.size 3 i0 (.int .i64 0) 1 8 Try.underlying29 hi hz0 hz1 hz2 rfl (by decide) _ _ _ rfl (O.alloc _) ⟨wr.heap.size, 0, none⟩ 1 1 [.int .i64 (x - 100)] rfl rfl ?c1 ?c2 hc3 hc4 ?c5 ?_)
          case c2 => rfl
          case c5 => have := LW.size; simp; omega
          intro v1 w9 O9 hg1 _
          have L9 := (LW.alloc (.cells #[.int .i64 (x - 100)] 3)).grown hg1 (fun k hk => (O.lt k hk).1)
          have O10 : w9.ownsRow w8.heap.size 3 1 v1 (S ++ [x - 100]).length ((S ++ [x - 100]).flatMap Enc.cells) := by rw [hlen.out]; simpa [Enc.cells] using O9
          obtain ⟨A10, q10, rfl⟩ := own_form O10
          have hne2 : Hid (A10 ≠ none) := fun e => by
            have SS := Sl.of_own O10 rfl (by decide) (xs := S ++ [x - 100]) hok2.out
            obtain ⟨b2, off2, e2, _⟩ := SS.at_ (by rw [hlen.out]; omega)
            rw [e] at e2; cases e2
          clear O9 O
          go_wp2_with fail
          go_roundw
          case rel => exact ⟨k + 1, S ++ [x - 100], _, q10, by omega, by rw [hlen.out]; omega, by go_num, hr, hok2, hne2, rfl, O10, L9⟩
          case measure => simp [intOf]; omega
        · have hr := Lib.hid (HT.out.2.2 h2 h1)
          generalize LP[k] = x at *
          clear HT
          go_wp2_with fail
          go_roundw
          case rel => exact ⟨k + 1, S, _, q9, by omega, by omega, by go_num, hr, hok, hne, rfl, O, LW⟩
          case measure => simp [intOf]; omega
    · have hki : ¬ (k : Int) < (LP.length : Int) := by omega
      have hse : S = [] := stk_end (by have h := hst.out; rw [List.drop_eq_nil_of_le (by omega)] at h; exact h)
      subst hse
      have LF := L0.trans LW
      clear O hst
      go_wp2
      go_ret
      exact ⟨rfl, LF⟩
end Go.Proofs.Ytlepgfccnfcagaa
