/- groups: impl.validPart -/
import Derived.Test.YtpdggodmiliijaaGI
namespace Go.Proofs.Ytpdggodmiliijaa
open Go.RowKit
set_option maxHeartbeats 1000000 in
theorem ivalidPart_any (A B : Option Addr) (n cap m c : Nat) (xs : List Cls) (g : List Prt) (k : Nat) (hk : k < g.length) (w : World) (hT : Sl w A n cap xs) (hG : Sl w B m c g) :
    Calls Try.prog 84 #[.agg #[.slice A n cap], .slice B m c, .int .i64 k] w fun e w' => e = .returned (.bool (partP xs g k)) ∧ Le w w' := by
  obtain rfl := hG.len
  obtain rfl := hT.len
  have hm := hG.n_le
  have hn := hT.n_le
  obtain ⟨b, off, rfl, hb, c0, c1, c2, c3, -⟩ := hG.prt_at hk
  have HF : Hid (partP xs g k = (rng 0 99 g[k].code && cond g[k].group (decide (g[k].cls = 0) && below g k) (rng 0 ((xs.length : Int) - 1) g[k].cls))) := by
    show _ = _
    unfold partP; rw [gAt_at hk]
  have hwx : IntKind.i64.wrap ((xs.length : Int) - 1) = (xs.length : Int) - 1 := IntWalk.i64_in _ (by omega)
  have hwk : IntKind.i64.wrap ((k : Int) + 1) = (k : Int) + 1 := IntWalk.i64_in _ (by omega)
  have hkx : (0 : Int) ≤ (k : Int) := by omega
  have hkn : (k : Int) < (g.length : Int) := by omega
  cases h1 : rng 0 99 g[k].code
  · rw [h1, Bool.false_and] at HF
    go_enter Try.func84, Try.ntmps84
    go_wp2_with (go_at_call 82; refine (giRange_any _ _ _ _).mono ?_; rintro e w' ⟨rfl, rfl⟩; rw [h1])
    go_ret
    exact ⟨ret_bool HF.out.symm, (Le.new _ _).trans (Le.new _ _)⟩
  · rw [h1, Bool.true_and] at HF
    cases hg : g[k].group
    · rw [hg, cond_false] at HF
      rw [hg] at c1
      go_enter Try.func84, Try.ntmps84
      go_wp2_with (go_at_call 82; refine (giRange_any _ _ _ _).mono ?_; rintro e w' ⟨rfl, rfl⟩; (try rw [h1]))
      go_ret
      exact ⟨ret_bool HF.out.symm, (Le.new _ _).trans (Le.new _ _)⟩
    · rw [hg, cond_true] at HF
      rw [hg] at c1
      have hbl : below g k = (decide (k + 1 < g.length) && decide (g[k].depth < (gAt g (k + 1)).depth)) := by unfold below; rw [gAt_at hk]
      have hcl : decide (g[k].cls = 0) = (g[k].cls == 0) := rfl
      rw [hbl, hcl] at HF
      cases hc : (g[k].cls == 0)
      · rw [hc, Bool.false_and] at HF
        clear hbl hcl
        go_enter Try.func84, Try.ntmps84
        go_wp2_with (go_at_call 82; refine (giRange_any _ _ _ _).mono ?_; rintro e w' ⟨rfl, rfl⟩; (try rw [h1]))
        have hle := (Le.new w (.cells #[.slice A xs.length cap] 32)).trans (Le.new _ (.cells #[.int .i64 g[k].depth, .bool true, .int .i64 g[k].cls, .int .i64 g[k].code] 70))
        have e1 : w.heap.size + 1 = (w.alloc (.cells #[.slice A xs.length cap] 32)).heap.size := by simp
        have q0 : ((w.alloc (.cells #[.slice A xs.length cap] 32)).alloc (.cells #[.int .i64 g[k].depth, .bool true, .int .i64 g[k].cls, .int .i64 g[k].code] 70)).cell? ⟨w.heap.size + 1, 0, none⟩ = some (.int .i64 g[k].depth) := by rw [e1, World.cell?_alloc_at _ _ _ _ rfl]; rfl
        have q2 : ((w.alloc (.cells #[.slice A xs.length cap] 32)).alloc (.cells #[.int .i64 g[k].depth, .bool true, .int .i64 g[k].cls, .int .i64 g[k].code] 70)).cell? ⟨w.heap.size + 1, 2, none⟩ = some (.int .i64 g[k].cls) := by rw [e1, World.cell?_alloc_at _ _ _ _ rfl]; rfl
        have hz : w.heap.size + 1 < ((w.alloc (.cells #[.slice A xs.length cap] 32)).alloc (.cells #[.int .i64 g[k].depth, .bool true, .int .i64 g[k].cls, .int .i64 g[k].code] 70)).heap.size := by simp
        clear e1
        generalize ((w.alloc (.cells #[.slice A xs.length cap] 32)).alloc (.cells #[.int .i64 g[k].depth, .bool true, .int .i64 g[k].cls, .int .i64 g[k].code] 70)) = W at *
        have Q0 := cell_ext hz q0
        have Q2 := cell_ext hz q2
        generalize w.heap.size + 1 = PB at *
        refine wp_region_ext (by kernel_rfl) (by kernel_rfl) ?_
        repeat (go_big_quiet_step (fail))
        refine wpQuiet_nil ?_
        intro _ hw'
        obtain ⟨gg, rfl⟩ := hw'
        have hw1 := Le.ext W gg
        generalize W.ext gg = W2 at *
        go_wp2
        go_ret
        exact ⟨ret_bool HF.out.symm, hle.trans hw1⟩
      · rw [hc, Bool.true_and] at HF
        clear hbl hcl
        by_cases hl : k + 1 < g.length
        · rw [decide_eq_true hl, Bool.true_and, gAt_at hl] at HF
          have hl2 : (k : Int) + 1 < (g.length : Int) := by omega
          have hl3 : (0 : Int) ≤ (k : Int) + 1 := by omega
          obtain ⟨b2, off2, e2, hb2, d0, -⟩ := hG.prt_at hl
          cases e2
          go_enter Try.func84, Try.ntmps84
          go_wp2_with (go_at_call 82; refine (giRange_any _ _ _ _).mono ?_; rintro e w' ⟨rfl, rfl⟩; (try rw [h1]))
          have hle := (Le.new w (.cells #[.slice A xs.length cap] 32)).trans (Le.new _ (.cells #[.int .i64 g[k].depth, .bool true, .int .i64 g[k].cls, .int .i64 g[k].code] 70))
          have e1 : w.heap.size + 1 = (w.alloc (.cells #[.slice A xs.length cap] 32)).heap.size := by simp
          have q0 : ((w.alloc (.cells #[.slice A xs.length cap] 32)).alloc (.cells #[.int .i64 g[k].depth, .bool true, .int .i64 g[k].cls, .int .i64 g[k].code] 70)).cell? ⟨w.heap.size + 1, 0, none⟩ = some (.int .i64 g[k].depth) := by rw [e1, World.cell?_alloc_at _ _ _ _ rfl]; rfl
          have q2 : ((w.alloc (.cells #[.slice A xs.length cap] 32)).alloc (.cells #[.int .i64 g[k].depth, .bool true, .int .i64 g[k].cls, .int .i64 g[k].code] 70)).cell? ⟨w.heap.size + 1, 2, none⟩ = some (.int .i64 g[k].cls) := by rw [e1, World.cell?_alloc_at _ _ _ _ rfl]; rfl
          have hz : w.heap.size + 1 < ((w.alloc (.cells #[.slice A xs.length cap] 32)).alloc (.cells #[.int .i64 g[k].depth, .bool true, .int .i64 g[k].cls, .int .i64 g[k].code] 70)).heap.size := by simp
          clear e1
          replace d0 := (hle.cell hb2).trans d0; replace hb2 := Nat.lt_of_lt_of_le hb2 hle.size
          generalize ((w.alloc (.cells #[.slice A xs.length cap] 32)).alloc (.cells #[.int .i64 g[k].depth, .bool true, .int .i64 g[k].cls, .int .i64 g[k].code] 70)) = W at *
          have Q0 := cell_ext hz q0
          have Q2 := cell_ext hz q2
          have D0 := cell_ext hb2 d0
          generalize w.heap.size + 1 = PB at *
          refine wp_region_ext (by kernel_rfl) (by kernel_rfl) ?_
          repeat (go_big_quiet_step (fail))
          refine wpQuiet_nil ?_
          intro _ hw'
          obtain ⟨gg, rfl⟩ := hw'
          have hw1 := Le.ext W gg
          generalize W.ext gg = W2 at *
          go_wp2
          go_ret
          exact ⟨ret_bool HF.out.symm, hle.trans hw1⟩
        · rw [decide_eq_false hl, Bool.false_and] at HF
          have hl2 : decide ((k : Int) + 1 < (g.length : Int)) = false := decide_eq_false (by omega)
          have hl4 : (g.length : Int) ≤ (k : Int) + 1 := by omega
          go_enter Try.func84, Try.ntmps84
          go_wp2_with (go_at_call 82; refine (giRange_any _ _ _ _).mono ?_; rintro e w' ⟨rfl, rfl⟩; (try rw [h1]))
          have hle := (Le.new w (.cells #[.slice A xs.length cap] 32)).trans (Le.new _ (.cells #[.int .i64 g[k].depth, .bool true, .int .i64 g[k].cls, .int .i64 g[k].code] 70))
          have e1 : w.heap.size + 1 = (w.alloc (.cells #[.slice A xs.length cap] 32)).heap.size := by simp
          have q0 : ((w.alloc (.cells #[.slice A xs.length cap] 32)).alloc (.cells #[.int .i64 g[k].depth, .bool true, .int .i64 g[k].cls, .int .i64 g[k].code] 70)).cell? ⟨w.heap.size + 1, 0, none⟩ = some (.int .i64 g[k].depth) := by rw [e1, World.cell?_alloc_at _ _ _ _ rfl]; rfl
          have q2 : ((w.alloc (.cells #[.slice A xs.length cap] 32)).alloc (.cells #[.int .i64 g[k].depth, .bool true, .int .i64 g[k].cls, .int .i64 g[k].code] 70)).cell? ⟨w.heap.size + 1, 2, none⟩ = some (.int .i64 g[k].cls) := by rw [e1, World.cell?_alloc_at _ _ _ _ rfl]; rfl
          have hz : w.heap.size + 1 < ((w.alloc (.cells #[.slice A xs.length cap] 32)).alloc (.cells #[.int .i64 g[k].depth, .bool true, .int .i64 g[k].cls, .int .i64 g[k].code] 70)).heap.size := by simp
          clear e1
          generalize ((w.alloc (.cells #[.slice A xs.length cap] 32)).alloc (.cells #[.int .i64 g[k].depth, .bool true, .int .i64 g[k].cls, .int .i64 g[k].code] 70)) = W at *
          have Q0 := cell_ext hz q0
          have Q2 := cell_ext hz q2
          generalize w.heap.size + 1 = PB at *
          refine wp_region_ext (by kernel_rfl) (by kernel_rfl) ?_
          repeat (go_big_quiet_step (fail))
          refine wpQuiet_nil ?_
          intro _ hw'
          obtain ⟨gg, rfl⟩ := hw'
          have hw1 := Le.ext W gg
          generalize W.ext gg = W2 at *
          go_wp2
          go_ret
          exact ⟨ret_bool HF.out.symm, hle.trans hw1⟩
end Go.Proofs.Ytpdggodmiliijaa
