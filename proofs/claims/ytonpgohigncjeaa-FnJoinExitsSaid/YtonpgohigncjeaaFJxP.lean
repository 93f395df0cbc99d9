/- the law FnJoinExits: what it says, plain; its draw -/
import Derived.Test.YtonpgohigncjeaaCx8
import Derived.Test.YtonpgohigncjeaaCx22
import Derived.Test.YtonpgohigncjeaaCx24
import Derived.Test.YtonpgohigncjeaaCx18
import Derived.Test.YtonpgohigncjeaaLXP
namespace Go.Proofs.Ytonpgohigncjeaa
open Go.RowKit
/-- one stack of exits behind the other -/
theorem join_ce {xs : List Cls} {a b : List Xit} {has : Bool} {cl k : Int} (h : vxs xs (a ++ b) = true) (hc : csv xs has cl k = true) {m0 : Bool} {m1 m2 : Int}
    (e0 : soF xs (ceE xs b has cl k) (ceV xs b has cl k) (ceH xs b has cl k) = m0) (e1 : soC xs (ceE xs b has cl k) (ceV xs b has cl k) (ceH xs b has cl k) = m1) (e2 : soK xs (ceE xs b has cl k) (ceV xs b has cl k) (ceH xs b has cl k) = m2) :
    ceL xs (a ++ b) has cl k = ceL xs b has cl k ++ ceL xs a m0 m1 m2 ∧ soOk xs (ceE xs b has cl k) (ceV xs b has cl k) (ceH xs b has cl k) = true ∧
    soOk xs (ceE xs (a ++ b) has cl k) (ceV xs (a ++ b) has cl k) (ceH xs (a ++ b) has cl k) = true ∧ soOk xs (ceE xs a m0 m1 m2) (ceV xs a m0 m1 m2) (ceH xs a m0 m1 m2) = true ∧
    soF xs (ceE xs (a ++ b) has cl k) (ceV xs (a ++ b) has cl k) (ceH xs (a ++ b) has cl k) = soF xs (ceE xs a m0 m1 m2) (ceV xs a m0 m1 m2) (ceH xs a m0 m1 m2) ∧
    soC xs (ceE xs (a ++ b) has cl k) (ceV xs (a ++ b) has cl k) (ceH xs (a ++ b) has cl k) = soC xs (ceE xs a m0 m1 m2) (ceV xs a m0 m1 m2) (ceH xs a m0 m1 m2) ∧
    soK xs (ceE xs (a ++ b) has cl k) (ceV xs (a ++ b) has cl k) (ceH xs (a ++ b) has cl k) = soK xs (ceE xs a m0 m1 m2) (ceV xs a m0 m1 m2) (ceH xs a m0 m1 m2) ∧ csv xs m0 m1 m2 = true := by
  obtain ⟨ha, hb⟩ := vxs_app h
  have oj : ceOk xs (a ++ b) has cl k = true := ceOk_iff.2 ⟨h, hc⟩
  have ob : ceOk xs b has cl k = true := ceOk_iff.2 ⟨hb, hc⟩
  obtain ⟨s, hs⟩ : ∃ s, clX xs b (stS has cl k) = s := ⟨_, rfl⟩
  have C := ce_ok ob
  have CK := code_all (code_start hc) b (vxs_iff.1 hb).2.2
  rw [hs] at C CK
  obtain ⟨p1, p2, p3, p4⟩ := so_close ob hs
  rw [e0] at p2
  rw [e1] at p3
  rw [e2] at p4
  -- the start between is valid, and has the same fault
  have hm : csv xs m0 m1 m2 = true ∧ Sim s.1 s (stS m0 m1 m2) := by
    by_cases h0 : 0 ≤ s.2.2
    · rw [decide_eq_true h0] at p2
      rw [if_pos h0] at p3 p4
      obtain ⟨f, hf⟩ : ∃ f : Nat, s.2.2 = (f : Int) := ⟨s.2.2.toNat, by omega⟩
      have hfl : f < s.2.1.length := by have := C.ok.hi; omega
      rw [hf, flC_at hfl] at p3
      rw [hf, flK_at hfl] at p4
      subst p2
      refine ⟨?_, by show s.1 = s.1 ++ []; simp, .inr ⟨h0, by show (0 : Int) ≤ 0; omega, ?_, ?_⟩⟩
      · unfold csv
        rw [if_pos rfl, p3, p4, C.cl f hfl, rng_iff.2 (CK f hfl)]; rfl
      · show _ = flC [(⟨m1, m2, -1, -1, false⟩ : Flt)] 0
        rw [hf, flC_at hfl, ← p3]; rfl
      · show _ = flK [(⟨m1, m2, -1, -1, false⟩ : Flt)] 0
        rw [hf, flK_at hfl, ← p4]; rfl
    · rw [decide_eq_false h0] at p2
      rw [if_neg h0] at p3 p4
      subst p2; subst p3; subst p4
      exact ⟨rfl, by show s.1 = s.1 ++ []; simp, .inl ⟨by omega, by show (-1 : Int) < 0; omega⟩⟩
  have oa : ceOk xs a m0 m1 m2 = true := ceOk_iff.2 ⟨ha, hm.1⟩
  obtain ⟨t, ht⟩ : ∃ t, clX xs a (stS m0 m1 m2) = t := ⟨_, rfl⟩
  obtain ⟨u, hu⟩ : ∃ u, clX xs (a ++ b) (stS has cl k) = u := ⟨_, rfl⟩
  have hS := hm.2.all (xs := xs) a (vxs_iff.1 ha).2.2
  rw [ht, ← hs, ← clX_app, hu] at hS
  obtain ⟨q1, q2, q3, q4⟩ := so_close oa ht
  obtain ⟨r1, r2, r3, r4⟩ := so_close oj hu
  obtain ⟨x1, -⟩ := ce_yes oj
  obtain ⟨x2, -⟩ := ce_yes ob
  obtain ⟨x3, -⟩ := ce_yes oa
  rw [hu] at x1
  rw [hs] at x2
  rw [ht] at x3
  refine ⟨by rw [x1, x2, x3, hS.1, hs], p1, r1, q1, ?_, ?_, ?_, hm.1⟩
  · rw [r2, q2]
    rcases hS.2 with ⟨h1, h2⟩ | ⟨h1, h2, _⟩
    · rw [decide_eq_false (by omega), decide_eq_false (by omega)]
    · rw [decide_eq_true h1, decide_eq_true h2]
  · rw [r3, q3]
    rcases hS.2 with ⟨h1, h2⟩ | ⟨h1, h2, h3, _⟩
    · rw [if_neg (by omega), if_neg (by omega)]
    · rw [if_pos h1, if_pos h2, h3]
  · rw [r4, q4]
    rcases hS.2 with ⟨h1, h2⟩ | ⟨h1, h2, _, h4⟩
    · rw [if_neg (by omega), if_neg (by omega)]
    · rw [if_pos h1, if_pos h2, h4]
theorem Calls.soJ {f : FuncId} {args : Array Value} {w : World} {a b : Bool} {x y : Int} {a' b' : Bool} {x' y' : Int} (e1 : a = a') (e2 : b = b') (e3 : x = x') (e4 : y = y') (h : Calls Try.prog f args w fun e w' => e = .returned (.tuple #[.agg #[.bool a, .int .i64 x, .int .i64 y], .bool b]) ∧ Le w w') :
    Calls Try.prog f args w fun e w' => e = .returned (.tuple #[.agg #[.bool a', .int .i64 x', .int .i64 y'], .bool b']) ∧ Le w w' := by subst e1; subst e2; subst e3; subst e4; exact h
theorem csv_ok {xs : List Cls} {has : Bool} {cl k : Int} (h : csv xs has cl k = true) (h8 : xs.length ≤ 8) : Enc.ok cl ∧ Enc.ok k := by
  unfold csv at h
  cases has
  · rw [if_neg (by simp), Bool.and_eq_true, beq_iff_eq, beq_iff_eq] at h
    obtain ⟨rfl, rfl⟩ := h
    exact ⟨⟨by omega, by omega⟩, ⟨by omega, by omega⟩⟩
  · rw [if_pos rfl, Bool.and_eq_true] at h
    have h1 := hasK_iff.1 h.1
    have h2 := rng_iff.1 h.2
    exact ⟨⟨by omega, by omega⟩, ⟨by omega, by omega⟩⟩
def DrawnXsJ (w : World) (e : Ending) (w' : World) : Prop :=
  ∃ (B D F : Option Addr) (m c q d q2 d2 : Nat) (xs : List Cls) (L M : List Xit), e = .returned (.tuple #[.agg #[.slice B m c], .slice D q d, .slice F q2 d2]) ∧ Sl w' B m c xs ∧ m ≤ 8 ∧ Sl w' D q d L ∧ q ≤ 8 ∧ Sl w' F q2 d2 M ∧ q2 ≤ 8 ∧ Le w w'
set_option maxHeartbeats 2000000 in
set_option maxRecDepth 100000 in
theorem drawJoinExits_any (A : Option Addr) (n cap : Nat) (bs : List By) (w : World) (hR : Sl w A n cap bs) : Calls Try.prog 20 #[.slice A n cap] w (DrawnXsJ w) := by
  obtain ⟨c0, zX, L0⟩ := box1 w (.slice none 0 0) 25
  have f0 : (w.alloc (.cells #[.slice none 0 0] 25)).frozen? ⟨w.heap.size, 0, none⟩ = false := World.frozen?_alloc_at _ _ _ _ rfl
  have S0 := hR.le L0
  go_enter Try.func20, Try.ntmps20
  go_wp2_with fail
  generalize w.alloc (.cells #[.slice none 0 0] 25) = W at *
  refine (newReader_any A n cap bs W S0).mono ?_
  rintro e w1 ⟨g, A1, n1, k1, bs1, rfl, hg, R1, hle⟩
  replace c0 := (hle.cell (by omega)).trans c0
  replace f0 := (hle.frozen (by omega)).trans f0
  replace L0 := L0.trans hle
  have hgz : w.heap.size < g := by omega
  have hg1 := R1.lt
  replace zX : w.heap.size < w1.heap.size := by omega
  clear S0 hle
  go_wp2_with fail
  refine (someExits_any g 0 A1 n1 k1 bs1 w1 (by omega) R1).mono ?_
  rintro e w2 ⟨B, D, m, c, q, d, xs, L, p2, rfl, S2, hm, hab, SD, hq, hD, hp2, R2, hg2⟩
  replace c0 := (hg2.cell (by omega) (by omega)).trans c0
  replace f0 := (hg2.frozen (by omega) (by omega)).trans f0
  have L2 := Gx.le L0 hg2 (by omega)
  have hgl := R2.lt
  have zw2 : w.heap.size < w2.heap.size := by omega
  obtain ⟨ct, zt, LB⟩ := box1 w2 (.slice B m c) 25
  replace LB := LB.drew
  replace ct := (show (w2.alloc (.cells #[.slice B m c] 25)).drew.cell? ⟨w2.heap.size, 0, none⟩ = _ from ct)
  replace zt := (show w2.heap.size < (w2.alloc (.cells #[.slice B m c] 25)).drew.heap.size from zt)
  replace c0 := (LB.cell (by omega)).trans c0
  replace f0 := (LB.frozen (by omega)).trans f0
  replace S2 := S2.le LB
  replace SD := SD.le LB
  replace R2 := R2.le LB
  replace L2 := L2.trans LB
  clear R1 L0 hg2 zX
  go_wp2_with fail
  refine wp_region_noPanic ?_
  refine wp_region_Z (fun w' => w'.cell? ⟨w2.heap.size, 0, none⟩ = some (.slice B m c)) [] (by kernel_rfl) ?_
  generalize (w2.alloc (.cells #[.slice B m c] 25)).drew = V at *
  clear LB
  refine wpAnyZ_take (i := 0) (v := ?_) rfl (by kernel_rfl) (fun _ _ _ h => h) (Or.inl ⟨by rfl, ?_⟩) (ct) ?_
  rotate_left 1
  · (intro w hSw; (try dsimp only at hSw); go_simp; try with_reducible rfl)
  try simp only [Act.put, List.setIfInBounds_toArray, List.set_cons_zero, List.set_cons_succ]
  refine wpAnyZ_take (i := 1) (v := ?_) rfl (by kernel_rfl) (fun _ _ _ h => h) (Or.inl ⟨by rfl, ?_⟩) (ct) ?_
  rotate_left 1
  · (intro w hSw; (try dsimp only at hSw); go_simp; try with_reducible rfl)
  try simp only [Act.put, List.setIfInBounds_toArray, List.set_cons_zero, List.set_cons_succ]
  refine wpAnyZ_take (i := 2) (v := ?_) rfl (by kernel_rfl) (fun _ _ _ h => h) (Or.inl ⟨by rfl, ?_⟩) (ct) ?_
  rotate_left 1
  · (intro w hSw; (try dsimp only at hSw); go_simp; try with_reducible rfl)
  try simp only [Act.put, List.setIfInBounds_toArray, List.set_cons_zero, List.set_cons_succ]
  refine wpAnyZ_take (i := 3) (v := ?_) rfl (by kernel_rfl) (fun _ _ _ h => h) (Or.inl ⟨by rfl, ?_⟩) (ct) ?_
  rotate_left 1
  · (intro w hSw; (try dsimp only at hSw); go_simp; try with_reducible rfl)
  try simp only [Act.put, List.setIfInBounds_toArray, List.set_cons_zero, List.set_cons_succ]
  refine wpAnyZ_one (i := 4) (by kernel_rfl) (ReadyZ.mk rfl (fun K hK => ?_))
  go_simp
  go_at_call 48
  refine (goodExits_any B m c g p2 A1 n1 k1 bs1 V hm (by omega) R2).mono ?_
  rintro e V2 ⟨v, M, p3, rfl, O3, hok3, hl3, hp3, R3, hg3⟩
  replace c0 := (hg3.cell (by omega) (by omega)).trans c0
  replace f0 := (hg3.frozen (by omega) (by omega)).trans f0
  replace L2 := Gx.le L2 hg3 (by omega)
  replace S2 := S2.gx (fun hn a e => by have := hab hn a e; omega) hg3
  replace SD := SD.gx (fun hn a e => by have := hD hn a e; omega) hg3
  replace ct := (hg3.cell zt (by omega)).trans ct
  obtain ⟨A3, c3, rfl⟩ := own_form O3
  have SM := Sl.of_own O3 rfl (by decide) hok3
  clear R2 R3 hg3 O3
  refine hK.out _ _ (fun _ => ct) ?_
  clear hK K
  try simp only [Act.put, List.setIfInBounds_toArray, List.set_cons_zero, List.set_cons_succ]
  have k0 : (V2.setCell ⟨w.heap.size, 0, none⟩ (.slice B m c)).cell? ⟨w.heap.size, 0, none⟩ = some (.slice B m c) := cell_set_same c0
  have L5 := Lib.hid (L2.setCell (b := w.heap.size) (o := 0) (Nat.le_refl _) (.slice B m c))
  have S5 := Lib.hid (S2.setNoneX (u := .slice B m c) c0 (fun x h => by simp [Enc.cells] at h))
  have SD5 := Lib.hid (SD.setNoneX (u := .slice B m c) c0 (fun x h => by simp [Enc.cells] at h))
  have SM5 := Lib.hid (SM.setNoneX (u := .slice B m c) c0 (fun x h => by simp [Enc.cells] at h))
  have ct5 := (cell_set_other (v := .slice B m c) (o := 0) (o' := 0) (.inl (by omega : w.heap.size ≠ w2.heap.size))).trans ct
  clear S2 SD SM L2
  refine wpAnyZ_one (i := 5) (by kernel_rfl) (ReadyZ.mk rfl (fun K hK => ?_))
  go_simp
  refine hK.out _ _ (fun _ => ct5) ?_
  clear hK K
  try simp only [Act.put, List.setIfInBounds_toArray, List.set_cons_zero, List.set_cons_succ]
  refine wpAnyZ_take (i := 6) (v := ?_) rfl (by kernel_rfl) (fun _ _ _ h => h) (Or.inl ⟨by rfl, ?_⟩) (ct5) ?_
  rotate_left 1
  · (intro w hSw; (try dsimp only at hSw); go_simp; try with_reducible rfl)
  try simp only [Act.put, List.setIfInBounds_toArray, List.set_cons_zero, List.set_cons_succ]
  refine wpAnyZ_take (i := 7) (v := ?_) rfl (by kernel_rfl) (fun _ _ _ h => h) (Or.inl ⟨by rfl, ?_⟩) (ct5) ?_
  rotate_left 1
  · (intro w hSw; (try dsimp only at hSw); go_simp; try with_reducible rfl)
  try simp only [Act.put, List.setIfInBounds_toArray, List.set_cons_zero, List.set_cons_succ]
  refine wpAnyZ_done (by kernel_rfl) ?_ _
  refine NoPanic.normal ?_
  go_wp2
  exact bodyPost_ret (v := .tuple #[.agg #[.slice B m c], .slice D q d, .slice A3 M.length c3]) (by simp [results, Try.results20, go_sem, k0]) rfl ⟨B, D, A3, m, c, q, d, _, c3, xs, L, M, rfl, S5.out, hm, SD5.out, hq, SM5.out, hl3, L5.out⟩
end Go.Proofs.Ytonpgohigncjeaa
