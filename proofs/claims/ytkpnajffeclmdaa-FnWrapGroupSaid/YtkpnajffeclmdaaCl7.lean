/- one text of GB -/
import Derived.Test.YtkpnajffeclmdaaCl6
import Derived.Test.YtkpnajffeclmdaaCl2
namespace Go.Proofs.Ytkpnajffeclmdaa
open Go.RowKit
set_option linter.unusedVariables false
section
theorem grng_any (a b c : Int) (w : World) : Calls Try.prog 68 #[.int .i64 a, .int .i64 b, .int .i64 c] w fun e w' => e = .returned (.bool (rng b c a)) ∧ w = w' := inRange_any a b c w
set_option maxRecDepth 100000 in
set_option maxHeartbeats 4000000 in
theorem validGroup_any (A B : Option Addr) (n cap m c : Nat) (xs : List Cls) (g : List Prt) (w : World) (hT : Sl w A n cap xs) (hG : Sl w B m c g) :
    Calls Try.prog 37 #[.agg #[.slice A n cap], .slice B m c] w fun e w' => e = .returned (.bool (gOkS xs g)) ∧ Le w w' := by
  obtain rfl := hG.len
  have hm := hG.n_le
  have H0 : Hid (gOkS xs g = (allF2 (partS xs g) 0 (g.length - 0) && (okTree xs && rng 1 16 g.length))) := rfl
  go_enter Try.func37, Try.ntmps37
  have q0 : (w.alloc (.cells #[.slice A n cap] 25)).cell? ⟨w.heap.size, 0, none⟩ = some (.slice A n cap) := by rw [World.cell?_alloc_at _ _ _ _ rfl]; rfl
  have hz : w.heap.size < (w.alloc (.cells #[.slice A n cap] 25)).heap.size := by simp
  have hl := Le.new w (.cells #[.slice A n cap] 25)
  go_wp2
  replace hT := hT.le hl
  replace hG := hG.le hl
  generalize w.alloc (.cells #[.slice A n cap] 25) = W1 at *
  generalize w.heap.size = TB at *
  go_loopw [5] (fun i wr => ∃ k : Nat, k ≤ g.length ∧ i = .int .i64 k ∧ gOkS xs g = (allF2 (partS xs g) k (g.length - k) && (okTree xs && rng 1 16 g.length)) ∧ (0 < k → 0 ≤ (gAt g (k - 1)).depth ∧ (gAt g (k - 1)).depth ≤ 5) ∧ Le W1 wr) (fun i _ => g.length - (intOf i).toNat)
  case atStart => exact ⟨0, Nat.zero_le _, rfl, H0.out, fun h => absurd h (Nat.lt_irrefl 0), Le.refl _⟩
  case round =>
    obtain ⟨k, hk, rfl, he, hprev, hle⟩ := hrel
    have HE := Lib.hid he
    clear he H0
    have TT := hT.le hle
    have TG := hG.le hle
    have c0 := (hle.cell hz).trans q0
    have zc := Nat.lt_of_lt_of_le hz hle.size
    have LR := hl.trans hle
    clear hT hG q0 hz
    by_cases hlt : k < g.length
    · obtain ⟨b, off, rfl, hb, g0, g1, g2, g3, -⟩ := TG.prt_at hlt
      have hkx : (0 : Int) ≤ (k : Int) := by omega
      have hkn : (k : Int) < (g.length : Int) := by omega
      have hwk : IntKind.i64.wrap ((k : Int) + 1) = (k : Int) + 1 := IntWalk.i64_in _ (by omega)
      rw [allF2_at hlt] at HE
      have HS := Lib.hid (show partS xs g k = (rng 0 99 g[k].code && rng 0 5 g[k].depth && !(g[k].group && (g[k].cls != 0)) && !(!g[k].group && !hasK xs g[k].cls) && (decide (g[k].depth = 0) == decide (k = 0)) && (decide (k = 0) || !(decide ((gAt g (k - 1)).depth + 1 < g[k].depth) || (decide ((gAt g (k - 1)).depth < g[k].depth) && !(gAt g (k - 1)).group))) && !(g[k].group && decide (endN g k = k + 1))) by unfold partS; rw [gAt_at hlt])
      go_wp2_with fail
      have q0 : (wr.alloc (.cells #[.int .i64 g[k].depth, .bool g[k].group, .int .i64 g[k].cls, .int .i64 g[k].code] 57)).cell? ⟨wr.heap.size, 0, none⟩ = some (.int .i64 g[k].depth) := by rw [World.cell?_alloc_at _ _ _ _ rfl]; rfl
      have q1 : (wr.alloc (.cells #[.int .i64 g[k].depth, .bool g[k].group, .int .i64 g[k].cls, .int .i64 g[k].code] 57)).cell? ⟨wr.heap.size, 1, none⟩ = some (.bool g[k].group) := by rw [World.cell?_alloc_at _ _ _ _ rfl]; rfl
      have q2 : (wr.alloc (.cells #[.int .i64 g[k].depth, .bool g[k].group, .int .i64 g[k].cls, .int .i64 g[k].code] 57)).cell? ⟨wr.heap.size, 2, none⟩ = some (.int .i64 g[k].cls) := by rw [World.cell?_alloc_at _ _ _ _ rfl]; rfl
      have pz : wr.heap.size < (wr.alloc (.cells #[.int .i64 g[k].depth, .bool g[k].group, .int .i64 g[k].cls, .int .i64 g[k].code] 57)).heap.size := by simp
      have ln := Le.new wr (.cells #[.int .i64 g[k].depth, .bool g[k].group, .int .i64 g[k].cls, .int .i64 g[k].code] 57)
      replace c0 := (ln.cell zc).trans c0
      replace TT := TT.le ln
      replace TG := TG.le ln
      replace LR := LR.trans ln
      have LW := hle.trans ln
      clear ln zc hle hb g0 g1 g2 g3
      generalize wr.alloc (.cells #[.int .i64 g[k].depth, .bool g[k].group, .int .i64 g[k].cls, .int .i64 g[k].code] 57) = W at *
      generalize wr.heap.size = PB at *
      refine (grng_any _ _ _ _).mono ?_
      rintro e w' ⟨rfl, rfl⟩
      cases h1 : rng 0 99 g[k].code
      · skip
        have HE2 : Hid (gOkS xs g = false) := by show _ = _; rw [HE.out, HS.out]; simp [h1]
        clear HE HS
        go_wp2_with (first | (go_at_call 68; refine (grng_any _ _ _ _).mono ?_; rintro e w' ⟨rfl, rfl⟩; (first | rw [h1] | rw [h2])) | (go_at_call 38; refine (hasClass_any _ _ _ xs g[k].cls _ TT).mono ?_; rintro e w4 ⟨rfl, hle4⟩; rw [hkk]; replace TT := TT.le hle4; replace TG := TG.le hle4; replace LW := LW.trans hle4; replace LR := LR.trans hle4; replace q0 := (hle4.cell pz).trans q0; replace q1 := (hle4.cell pz).trans q1; replace q2 := (hle4.cell pz).trans q2; replace pz := Nat.lt_of_lt_of_le pz hle4.size; clear hle4))
        go_ret
        exact ⟨ret_bool HE2.out.symm, LR⟩
      · cases h2 : rng 0 5 g[k].depth
        · skip
          have HE2 : Hid (gOkS xs g = false) := by show _ = _; rw [HE.out, HS.out]; simp [h1, h2]
          clear HE HS
          go_wp2_with (first | (go_at_call 68; refine (grng_any _ _ _ _).mono ?_; rintro e w' ⟨rfl, rfl⟩; (first | rw [h1] | rw [h2])) | (go_at_call 38; refine (hasClass_any _ _ _ xs g[k].cls _ TT).mono ?_; rintro e w4 ⟨rfl, hle4⟩; rw [hkk]; replace TT := TT.le hle4; replace TG := TG.le hle4; replace LW := LW.trans hle4; replace LR := LR.trans hle4; replace q0 := (hle4.cell pz).trans q0; replace q1 := (hle4.cell pz).trans q1; replace q2 := (hle4.cell pz).trans q2; replace pz := Nat.lt_of_lt_of_le pz hle4.size; clear hle4))
          go_ret
          exact ⟨ret_bool HE2.out.symm, LR⟩
        · have HN : Hid (0 ≤ (gAt g (k + 1 - 1)).depth ∧ (gAt g (k + 1 - 1)).depth ≤ 5) := by show _ ∧ _; rw [Nat.add_sub_cancel, gAt_at hlt]; exact rng_iff.1 h2
          cases hg : g[k].group
          · rw [hg] at q1
            cases hkk : hasK xs g[k].cls
            · skip
              have HE2 : Hid (gOkS xs g = false) := by show _ = _; rw [HE.out, HS.out]; simp [h1, h2, hg, hkk]
              clear HE HS
              go_wp2_with (first | (go_at_call 68; refine (grng_any _ _ _ _).mono ?_; rintro e w' ⟨rfl, rfl⟩; (first | rw [h1] | rw [h2])) | (go_at_call 38; refine (hasClass_any _ _ _ xs g[k].cls _ TT).mono ?_; rintro e w4 ⟨rfl, hle4⟩; rw [hkk]; replace TT := TT.le hle4; replace TG := TG.le hle4; replace LW := LW.trans hle4; replace LR := LR.trans hle4; replace q0 := (hle4.cell pz).trans q0; replace q1 := (hle4.cell pz).trans q1; replace q2 := (hle4.cell pz).trans q2; replace pz := Nat.lt_of_lt_of_le pz hle4.size; clear hle4))
              go_ret
              exact ⟨ret_bool HE2.out.symm, LR⟩
            · skip
              by_cases hk0 : k = 0
              · by_cases hd0 : g[k].depth = 0
                · have e1 : (g[k].depth == 0) = true := by simpa using hd0
                  have e2 : ((k : Int) == 0) = true := by simp [hk0]
                  have e3 : decide ((0 : Int) < (k : Int)) = false := decide_eq_false (by omega)
                  have e4 : decide (0 < k) = false := decide_eq_false (by omega)
                  have hk00 : decide (k = 0) = true := decide_eq_true hk0
                  have hd00 : decide (g[k].depth = 0) = true := decide_eq_true hd0
                  clear hk0 hd0
                  go_wp2_with (first | (go_at_call 68; refine (grng_any _ _ _ _).mono ?_; rintro e w' ⟨rfl, rfl⟩; (first | rw [h1] | rw [h2])) | (go_at_call 38; refine (hasClass_any _ _ _ xs g[k].cls _ TT).mono ?_; rintro e w4 ⟨rfl, hle4⟩; rw [hkk]; replace TT := TT.le hle4; replace TG := TG.le hle4; replace LW := LW.trans hle4; replace LR := LR.trans hle4; replace q0 := (hle4.cell pz).trans q0; replace q1 := (hle4.cell pz).trans q1; replace q2 := (hle4.cell pz).trans q2; replace pz := Nat.lt_of_lt_of_le pz hle4.size; clear hle4))
                  have HE2 : Hid (gOkS xs g = (allF2 (partS xs g) (k + 1) (g.length - (k + 1)) && (okTree xs && rng 1 16 g.length))) := by show _ = _; rw [HE.out, HS.out]; simp [h1, h2, hg, hkk, hk00, hd00]
                  clear HE HS
                  first | clear hk0 | skip
                  have Q0 := cell_ext pz q0
                  have Q1 := cell_ext pz q1
                  refine wp_region_ext (by kernel_rfl) (by kernel_rfl) ?_
                  repeat (go_big_quiet_step (first | (go_at_call 69; exact Calls.ext_of (endOf_any _ _ _ g k hlt _ (TG.ext _)))))
                  refine wpQuiet_nil ?_
                  intro _ hw'
                  obtain ⟨gg, rfl⟩ := hw'
                  have hw1 := Le.ext _ gg
                  replace LW := LW.trans hw1
                  replace LR := LR.trans hw1
                  generalize World.ext _ gg = W2 at *
                  go_wp2
                  go_roundw
                  case rel => exact ⟨k + 1, by omega, by go_num, HE2.out, fun _ => HN.out, LW⟩
                  case measure => simp [intOf]; omega
                · have e1 : (g[k].depth == 0) = false := by simpa using hd0
                  have e2 : ((k : Int) == 0) = true := by simp [hk0]
                  have hk00 : decide (k = 0) = true := decide_eq_true hk0
                  have hd00 : decide (g[k].depth = 0) = false := decide_eq_false hd0
                  clear hk0 hd0
                  have HE2 : Hid (gOkS xs g = false) := by show _ = _; rw [HE.out, HS.out]; simp [h1, h2, hg, hkk, hk00, hd00]
                  clear HE HS
                  go_wp2_with (first | (go_at_call 68; refine (grng_any _ _ _ _).mono ?_; rintro e w' ⟨rfl, rfl⟩; (first | rw [h1] | rw [h2])) | (go_at_call 38; refine (hasClass_any _ _ _ xs g[k].cls _ TT).mono ?_; rintro e w4 ⟨rfl, hle4⟩; rw [hkk]; replace TT := TT.le hle4; replace TG := TG.le hle4; replace LW := LW.trans hle4; replace LR := LR.trans hle4; replace q0 := (hle4.cell pz).trans q0; replace q1 := (hle4.cell pz).trans q1; replace q2 := (hle4.cell pz).trans q2; replace pz := Nat.lt_of_lt_of_le pz hle4.size; clear hle4))
                  go_ret
                  exact ⟨ret_bool HE2.out.symm, LR⟩
              · by_cases hd0 : g[k].depth = 0
                · have e1 : (g[k].depth == 0) = true := by simpa using hd0
                  have e2 : ((k : Int) == 0) = false := by simp; omega
                  have hk00 : decide (k = 0) = false := decide_eq_false hk0
                  have hd00 : decide (g[k].depth = 0) = true := decide_eq_true hd0
                  clear hk0 hd0
                  have HE2 : Hid (gOkS xs g = false) := by show _ = _; rw [HE.out, HS.out]; simp [h1, h2, hg, hkk, hk00, hd00]
                  clear HE HS
                  go_wp2_with (first | (go_at_call 68; refine (grng_any _ _ _ _).mono ?_; rintro e w' ⟨rfl, rfl⟩; (first | rw [h1] | rw [h2])) | (go_at_call 38; refine (hasClass_any _ _ _ xs g[k].cls _ TT).mono ?_; rintro e w4 ⟨rfl, hle4⟩; rw [hkk]; replace TT := TT.le hle4; replace TG := TG.le hle4; replace LW := LW.trans hle4; replace LR := LR.trans hle4; replace q0 := (hle4.cell pz).trans q0; replace q1 := (hle4.cell pz).trans q1; replace q2 := (hle4.cell pz).trans q2; replace pz := Nat.lt_of_lt_of_le pz hle4.size; clear hle4))
                  go_ret
                  exact ⟨ret_bool HE2.out.symm, LR⟩
                · have e1 : (g[k].depth == 0) = false := by simpa using hd0
                  have e2 : ((k : Int) == 0) = false := by simp; omega
                  have e3 : decide ((0 : Int) < (k : Int)) = true := decide_eq_true (by omega)
                  have e4 : decide (0 < k) = true := decide_eq_true (by omega)
                  have hk00 : decide (k = 0) = false := decide_eq_false hk0
                  have hd00 : decide (g[k].depth = 0) = false := decide_eq_false hd0
                  obtain ⟨j, hjk⟩ : ∃ j, k = j + 1 := ⟨k - 1, by omega⟩
                  have hjl : j < g.length := by omega
                  have hp2 := hprev (by omega)
                  have hj1 : k - 1 = j := by omega
                  rw [hj1, gAt_at hjl] at HS hp2
                  have hwz : IntKind.i64.wrap ((k : Int) - 1) = (j : Int) := by rw [show (k : Int) - 1 = (j : Int) by omega]; exact IntWalk.i64_in _ (by omega)
                  have hwd : IntKind.i64.wrap (g[j].depth + 1) = g[j].depth + 1 := IntWalk.i64_in _ (by omega)
                  have hj0 : (0 : Int) ≤ (j : Int) := by omega
                  have hjn : (j : Int) < (g.length : Int) := by omega
                  clear hk0 hd0 hprev hp2 hjk hj1
                  go_wp2_with (first | (go_at_call 68; refine (grng_any _ _ _ _).mono ?_; rintro e w' ⟨rfl, rfl⟩; (first | rw [h1] | rw [h2])) | (go_at_call 38; refine (hasClass_any _ _ _ xs g[k].cls _ TT).mono ?_; rintro e w4 ⟨rfl, hle4⟩; rw [hkk]; replace TT := TT.le hle4; replace TG := TG.le hle4; replace LW := LW.trans hle4; replace LR := LR.trans hle4; replace q0 := (hle4.cell pz).trans q0; replace q1 := (hle4.cell pz).trans q1; replace q2 := (hle4.cell pz).trans q2; replace pz := Nat.lt_of_lt_of_le pz hle4.size; clear hle4))
                  obtain ⟨b2, off2, ee, hb2, d0, d1, -⟩ := TG.prt_at hjl
                  cases ee
                  have D0 := cell_ext hb2 d0
                  by_cases ha : g[j].depth + 1 < g[k].depth
                  · have ha1 : decide (g[j].depth + 1 < g[k].depth) = true := decide_eq_true ha
                    have D1 := cell_ext hb2 d1
                    have HE2 : Hid (gOkS xs g = false) := by show _ = _; rw [HE.out, HS.out]; simp [h1, h2, hg, hkk, hk00, hd00, ha1]
                    clear HE HS
                    first | clear hk0 | skip
                    have Q0 := cell_ext pz q0
                    have Q1 := cell_ext pz q1
                    refine wp_region_ext (by kernel_rfl) (by kernel_rfl) ?_
                    repeat (go_big_quiet_step (first | (go_at_call 69; exact Calls.ext_of (endOf_any _ _ _ g k hlt _ (TG.ext _)))))
                    refine wpQuiet_nil ?_
                    intro _ hw'
                    obtain ⟨gg, rfl⟩ := hw'
                    have hw1 := Le.ext _ gg
                    replace LW := LW.trans hw1
                    replace LR := LR.trans hw1
                    generalize World.ext _ gg = W2 at *
                    go_wp2
                    go_ret
                    exact ⟨ret_bool HE2.out.symm, LR⟩
                  · have ha1 : decide (g[j].depth + 1 < g[k].depth) = false := decide_eq_false ha
                    by_cases hb5 : g[j].depth < g[k].depth
                    · have hb1 : decide (g[j].depth < g[k].depth) = true := decide_eq_true hb5
                      cases hpg : g[j].group
                      · rw [hpg] at d1
                        have D1 := cell_ext hb2 d1
                        have HE2 : Hid (gOkS xs g = false) := by show _ = _; rw [HE.out, HS.out]; simp [h1, h2, hg, hkk, hk00, hd00, ha1, hb1, hpg]
                        clear HE HS
                        first | clear hk0 | skip
                        have Q0 := cell_ext pz q0
                        have Q1 := cell_ext pz q1
                        refine wp_region_ext (by kernel_rfl) (by kernel_rfl) ?_
                        repeat (go_big_quiet_step (first | (go_at_call 69; exact Calls.ext_of (endOf_any _ _ _ g k hlt _ (TG.ext _)))))
                        refine wpQuiet_nil ?_
                        intro _ hw'
                        obtain ⟨gg, rfl⟩ := hw'
                        have hw1 := Le.ext _ gg
                        replace LW := LW.trans hw1
                        replace LR := LR.trans hw1
                        generalize World.ext _ gg = W2 at *
                        go_wp2
                        go_ret
                        exact ⟨ret_bool HE2.out.symm, LR⟩
                      · rw [hpg] at d1
                        have D1 := cell_ext hb2 d1
                        have HE2 : Hid (gOkS xs g = (allF2 (partS xs g) (k + 1) (g.length - (k + 1)) && (okTree xs && rng 1 16 g.length))) := by show _ = _; rw [HE.out, HS.out]; simp [h1, h2, hg, hkk, hk00, hd00, ha1, hb1, hpg]
                        clear HE HS
                        first | clear hk0 | skip
                        have Q0 := cell_ext pz q0
                        have Q1 := cell_ext pz q1
                        refine wp_region_ext (by kernel_rfl) (by kernel_rfl) ?_
                        repeat (go_big_quiet_step (first | (go_at_call 69; exact Calls.ext_of (endOf_any _ _ _ g k hlt _ (TG.ext _)))))
                        refine wpQuiet_nil ?_
                        intro _ hw'
                        obtain ⟨gg, rfl⟩ := hw'
                        have hw1 := Le.ext _ gg
                        replace LW := LW.trans hw1
                        replace LR := LR.trans hw1
                        generalize World.ext _ gg = W2 at *
                        go_wp2
                        go_roundw
                        case rel => exact ⟨k + 1, by omega, by go_num, HE2.out, fun _ => HN.out, LW⟩
                        case measure => simp [intOf]; omega
                    · have hb1 : decide (g[j].depth < g[k].depth) = false := decide_eq_false hb5
                      have D1 := cell_ext hb2 d1
                      have HE2 : Hid (gOkS xs g = (allF2 (partS xs g) (k + 1) (g.length - (k + 1)) && (okTree xs && rng 1 16 g.length))) := by show _ = _; rw [HE.out, HS.out]; simp [h1, h2, hg, hkk, hk00, hd00, ha1, hb1]
                      clear HE HS
                      first | clear hk0 | skip
                      have Q0 := cell_ext pz q0
                      have Q1 := cell_ext pz q1
                      refine wp_region_ext (by kernel_rfl) (by kernel_rfl) ?_
                      repeat (go_big_quiet_step (first | (go_at_call 69; exact Calls.ext_of (endOf_any _ _ _ g k hlt _ (TG.ext _)))))
                      refine wpQuiet_nil ?_
                      intro _ hw'
                      obtain ⟨gg, rfl⟩ := hw'
                      have hw1 := Le.ext _ gg
                      replace LW := LW.trans hw1
                      replace LR := LR.trans hw1
                      generalize World.ext _ gg = W2 at *
                      go_wp2
                      go_roundw
                      case rel => exact ⟨k + 1, by omega, by go_num, HE2.out, fun _ => HN.out, LW⟩
                      case measure => simp [intOf]; omega
          · rw [hg] at q1
            cases hc : (g[k].cls != 0)
            · skip
              by_cases hk0 : k = 0
              · by_cases hd0 : g[k].depth = 0
                · have e1 : (g[k].depth == 0) = true := by simpa using hd0
                  have e2 : ((k : Int) == 0) = true := by simp [hk0]
                  have e3 : decide ((0 : Int) < (k : Int)) = false := decide_eq_false (by omega)
                  have e4 : decide (0 < k) = false := decide_eq_false (by omega)
                  have hk00 : decide (k = 0) = true := decide_eq_true hk0
                  have hd00 : decide (g[k].depth = 0) = true := decide_eq_true hd0
                  clear hk0 hd0
                  go_wp2_with (first | (go_at_call 68; refine (grng_any _ _ _ _).mono ?_; rintro e w' ⟨rfl, rfl⟩; (first | rw [h1] | rw [h2])) | (go_at_call 38; refine (hasClass_any _ _ _ xs g[k].cls _ TT).mono ?_; rintro e w4 ⟨rfl, hle4⟩; rw [hkk]; replace TT := TT.le hle4; replace TG := TG.le hle4; replace LW := LW.trans hle4; replace LR := LR.trans hle4; replace q0 := (hle4.cell pz).trans q0; replace q1 := (hle4.cell pz).trans q1; replace q2 := (hle4.cell pz).trans q2; replace pz := Nat.lt_of_lt_of_le pz hle4.size; clear hle4))
                  by_cases hend : endN g k = k + 1
                  · have hen : ((endN g k : Int) == (k : Int) + 1) = true := by rw [hend]; simp
                    have HE2 : Hid (gOkS xs g = false) := by show _ = _; rw [HE.out, HS.out]; simp [h1, h2, hg, hc, hk00, hd00, hend]
                    clear HE HS
                    first | clear hk0 | skip
                    have Q0 := cell_ext pz q0
                    have Q1 := cell_ext pz q1
                    refine wp_region_ext (by kernel_rfl) (by kernel_rfl) ?_
                    repeat (go_big_quiet_step (first | (go_at_call 69; exact Calls.ext_of (endOf_any _ _ _ g k hlt _ (TG.ext _)))))
                    refine wpQuiet_nil ?_
                    intro _ hw'
                    obtain ⟨gg, rfl⟩ := hw'
                    have hw1 := Le.ext _ gg
                    replace LW := LW.trans hw1
                    replace LR := LR.trans hw1
                    generalize World.ext _ gg = W2 at *
                    go_wp2
                    go_ret
                    exact ⟨ret_bool HE2.out.symm, LR⟩
                  · have hen : ((endN g k : Int) == (k : Int) + 1) = false := by simp; omega
                    have HE2 : Hid (gOkS xs g = (allF2 (partS xs g) (k + 1) (g.length - (k + 1)) && (okTree xs && rng 1 16 g.length))) := by show _ = _; rw [HE.out, HS.out]; simp [h1, h2, hg, hc, hk00, hd00, hend]
                    clear HE HS
                    first | clear hk0 | skip
                    have Q0 := cell_ext pz q0
                    have Q1 := cell_ext pz q1
                    refine wp_region_ext (by kernel_rfl) (by kernel_rfl) ?_
                    repeat (go_big_quiet_step (first | (go_at_call 69; exact Calls.ext_of (endOf_any _ _ _ g k hlt _ (TG.ext _)))))
                    refine wpQuiet_nil ?_
                    intro _ hw'
                    obtain ⟨gg, rfl⟩ := hw'
                    have hw1 := Le.ext _ gg
                    replace LW := LW.trans hw1
                    replace LR := LR.trans hw1
                    generalize World.ext _ gg = W2 at *
                    go_wp2
                    go_roundw
                    case rel => exact ⟨k + 1, by omega, by go_num, HE2.out, fun _ => HN.out, LW⟩
                    case measure => simp [intOf]; omega
                · have e1 : (g[k].depth == 0) = false := by simpa using hd0
                  have e2 : ((k : Int) == 0) = true := by simp [hk0]
                  have hk00 : decide (k = 0) = true := decide_eq_true hk0
                  have hd00 : decide (g[k].depth = 0) = false := decide_eq_false hd0
                  clear hk0 hd0
                  have HE2 : Hid (gOkS xs g = false) := by show _ = _; rw [HE.out, HS.out]; simp [h1, h2, hg, hc, hk00, hd00]
                  clear HE HS
                  go_wp2_with (first | (go_at_call 68; refine (grng_any _ _ _ _).mono ?_; rintro e w' ⟨rfl, rfl⟩; (first | rw [h1] | rw [h2])) | (go_at_call 38; refine (hasClass_any _ _ _ xs g[k].cls _ TT).mono ?_; rintro e w4 ⟨rfl, hle4⟩; rw [hkk]; replace TT := TT.le hle4; replace TG := TG.le hle4; replace LW := LW.trans hle4; replace LR := LR.trans hle4; replace q0 := (hle4.cell pz).trans q0; replace q1 := (hle4.cell pz).trans q1; replace q2 := (hle4.cell pz).trans q2; replace pz := Nat.lt_of_lt_of_le pz hle4.size; clear hle4))
                  go_ret
                  exact ⟨ret_bool HE2.out.symm, LR⟩
              · by_cases hd0 : g[k].depth = 0
                · have e1 : (g[k].depth == 0) = true := by simpa using hd0
                  have e2 : ((k : Int) == 0) = false := by simp; omega
                  have hk00 : decide (k = 0) = false := decide_eq_false hk0
                  have hd00 : decide (g[k].depth = 0) = true := decide_eq_true hd0
                  clear hk0 hd0
                  have HE2 : Hid (gOkS xs g = false) := by show _ = _; rw [HE.out, HS.out]; simp [h1, h2, hg, hc, hk00, hd00]
                  clear HE HS
                  go_wp2_with (first | (go_at_call 68; refine (grng_any _ _ _ _).mono ?_; rintro e w' ⟨rfl, rfl⟩; (first | rw [h1] | rw [h2])) | (go_at_call 38; refine (hasClass_any _ _ _ xs g[k].cls _ TT).mono ?_; rintro e w4 ⟨rfl, hle4⟩; rw [hkk]; replace TT := TT.le hle4; replace TG := TG.le hle4; replace LW := LW.trans hle4; replace LR := LR.trans hle4; replace q0 := (hle4.cell pz).trans q0; replace q1 := (hle4.cell pz).trans q1; replace q2 := (hle4.cell pz).trans q2; replace pz := Nat.lt_of_lt_of_le pz hle4.size; clear hle4))
                  go_ret
                  exact ⟨ret_bool HE2.out.symm, LR⟩
                · have e1 : (g[k].depth == 0) = false := by simpa using hd0
                  have e2 : ((k : Int) == 0) = false := by simp; omega
                  have e3 : decide ((0 : Int) < (k : Int)) = true := decide_eq_true (by omega)
                  have e4 : decide (0 < k) = true := decide_eq_true (by omega)
                  have hk00 : decide (k = 0) = false := decide_eq_false hk0
                  have hd00 : decide (g[k].depth = 0) = false := decide_eq_false hd0
                  obtain ⟨j, hjk⟩ : ∃ j, k = j + 1 := ⟨k - 1, by omega⟩
                  have hjl : j < g.length := by omega
                  have hp2 := hprev (by omega)
                  have hj1 : k - 1 = j := by omega
                  rw [hj1, gAt_at hjl] at HS hp2
                  have hwz : IntKind.i64.wrap ((k : Int) - 1) = (j : Int) := by rw [show (k : Int) - 1 = (j : Int) by omega]; exact IntWalk.i64_in _ (by omega)
                  have hwd : IntKind.i64.wrap (g[j].depth + 1) = g[j].depth + 1 := IntWalk.i64_in _ (by omega)
                  have hj0 : (0 : Int) ≤ (j : Int) := by omega
                  have hjn : (j : Int) < (g.length : Int) := by omega
                  clear hk0 hd0 hprev hp2 hjk hj1
                  go_wp2_with (first | (go_at_call 68; refine (grng_any _ _ _ _).mono ?_; rintro e w' ⟨rfl, rfl⟩; (first | rw [h1] | rw [h2])) | (go_at_call 38; refine (hasClass_any _ _ _ xs g[k].cls _ TT).mono ?_; rintro e w4 ⟨rfl, hle4⟩; rw [hkk]; replace TT := TT.le hle4; replace TG := TG.le hle4; replace LW := LW.trans hle4; replace LR := LR.trans hle4; replace q0 := (hle4.cell pz).trans q0; replace q1 := (hle4.cell pz).trans q1; replace q2 := (hle4.cell pz).trans q2; replace pz := Nat.lt_of_lt_of_le pz hle4.size; clear hle4))
                  obtain ⟨b2, off2, ee, hb2, d0, d1, -⟩ := TG.prt_at hjl
                  cases ee
                  have D0 := cell_ext hb2 d0
                  by_cases ha : g[j].depth + 1 < g[k].depth
                  · have ha1 : decide (g[j].depth + 1 < g[k].depth) = true := decide_eq_true ha
                    have D1 := cell_ext hb2 d1
                    have HE2 : Hid (gOkS xs g = false) := by show _ = _; rw [HE.out, HS.out]; simp [h1, h2, hg, hc, hk00, hd00, ha1]
                    clear HE HS
                    first | clear hk0 | skip
                    have Q0 := cell_ext pz q0
                    have Q1 := cell_ext pz q1
                    refine wp_region_ext (by kernel_rfl) (by kernel_rfl) ?_
                    repeat (go_big_quiet_step (first | (go_at_call 69; exact Calls.ext_of (endOf_any _ _ _ g k hlt _ (TG.ext _)))))
                    refine wpQuiet_nil ?_
                    intro _ hw'
                    obtain ⟨gg, rfl⟩ := hw'
                    have hw1 := Le.ext _ gg
                    replace LW := LW.trans hw1
                    replace LR := LR.trans hw1
                    generalize World.ext _ gg = W2 at *
                    go_wp2
                    go_ret
                    exact ⟨ret_bool HE2.out.symm, LR⟩
                  · have ha1 : decide (g[j].depth + 1 < g[k].depth) = false := decide_eq_false ha
                    by_cases hb5 : g[j].depth < g[k].depth
                    · have hb1 : decide (g[j].depth < g[k].depth) = true := decide_eq_true hb5
                      cases hpg : g[j].group
                      · rw [hpg] at d1
                        have D1 := cell_ext hb2 d1
                        have HE2 : Hid (gOkS xs g = false) := by show _ = _; rw [HE.out, HS.out]; simp [h1, h2, hg, hc, hk00, hd00, ha1, hb1, hpg]
                        clear HE HS
                        first | clear hk0 | skip
                        have Q0 := cell_ext pz q0
                        have Q1 := cell_ext pz q1
                        refine wp_region_ext (by kernel_rfl) (by kernel_rfl) ?_
                        repeat (go_big_quiet_step (first | (go_at_call 69; exact Calls.ext_of (endOf_any _ _ _ g k hlt _ (TG.ext _)))))
                        refine wpQuiet_nil ?_
                        intro _ hw'
                        obtain ⟨gg, rfl⟩ := hw'
                        have hw1 := Le.ext _ gg
                        replace LW := LW.trans hw1
                        replace LR := LR.trans hw1
                        generalize World.ext _ gg = W2 at *
                        go_wp2
                        go_ret
                        exact ⟨ret_bool HE2.out.symm, LR⟩
                      · rw [hpg] at d1
                        have D1 := cell_ext hb2 d1
                        by_cases hend : endN g k = k + 1
                        · have hen : ((endN g k : Int) == (k : Int) + 1) = true := by rw [hend]; simp
                          have HE2 : Hid (gOkS xs g = false) := by show _ = _; rw [HE.out, HS.out]; simp [h1, h2, hg, hc, hk00, hd00, ha1, hb1, hpg, hend]
                          clear HE HS
                          first | clear hk0 | skip
                          have Q0 := cell_ext pz q0
                          have Q1 := cell_ext pz q1
                          refine wp_region_ext (by kernel_rfl) (by kernel_rfl) ?_
                          repeat (go_big_quiet_step (first | (go_at_call 69; exact Calls.ext_of (endOf_any _ _ _ g k hlt _ (TG.ext _)))))
                          refine wpQuiet_nil ?_
                          intro _ hw'
                          obtain ⟨gg, rfl⟩ := hw'
                          have hw1 := Le.ext _ gg
                          replace LW := LW.trans hw1
                          replace LR := LR.trans hw1
                          generalize World.ext _ gg = W2 at *
                          go_wp2
                          go_ret
                          exact ⟨ret_bool HE2.out.symm, LR⟩
                        · have hen : ((endN g k : Int) == (k : Int) + 1) = false := by simp; omega
                          have HE2 : Hid (gOkS xs g = (allF2 (partS xs g) (k + 1) (g.length - (k + 1)) && (okTree xs && rng 1 16 g.length))) := by show _ = _; rw [HE.out, HS.out]; simp [h1, h2, hg, hc, hk00, hd00, ha1, hb1, hpg, hend]
                          clear HE HS
                          first | clear hk0 | skip
                          have Q0 := cell_ext pz q0
                          have Q1 := cell_ext pz q1
                          refine wp_region_ext (by kernel_rfl) (by kernel_rfl) ?_
                          repeat (go_big_quiet_step (first | (go_at_call 69; exact Calls.ext_of (endOf_any _ _ _ g k hlt _ (TG.ext _)))))
                          refine wpQuiet_nil ?_
                          intro _ hw'
                          obtain ⟨gg, rfl⟩ := hw'
                          have hw1 := Le.ext _ gg
                          replace LW := LW.trans hw1
                          replace LR := LR.trans hw1
                          generalize World.ext _ gg = W2 at *
                          go_wp2
                          go_roundw
                          case rel => exact ⟨k + 1, by omega, by go_num, HE2.out, fun _ => HN.out, LW⟩
                          case measure => simp [intOf]; omega
                    · have hb1 : decide (g[j].depth < g[k].depth) = false := decide_eq_false hb5
                      have D1 := cell_ext hb2 d1
                      by_cases hend : endN g k = k + 1
                      · have hen : ((endN g k : Int) == (k : Int) + 1) = true := by rw [hend]; simp
                        have HE2 : Hid (gOkS xs g = false) := by show _ = _; rw [HE.out, HS.out]; simp [h1, h2, hg, hc, hk00, hd00, ha1, hb1, hend]
                        clear HE HS
                        first | clear hk0 | skip
                        have Q0 := cell_ext pz q0
                        have Q1 := cell_ext pz q1
                        refine wp_region_ext (by kernel_rfl) (by kernel_rfl) ?_
                        repeat (go_big_quiet_step (first | (go_at_call 69; exact Calls.ext_of (endOf_any _ _ _ g k hlt _ (TG.ext _)))))
                        refine wpQuiet_nil ?_
                        intro _ hw'
                        obtain ⟨gg, rfl⟩ := hw'
                        have hw1 := Le.ext _ gg
                        replace LW := LW.trans hw1
                        replace LR := LR.trans hw1
                        generalize World.ext _ gg = W2 at *
                        go_wp2
                        go_ret
                        exact ⟨ret_bool HE2.out.symm, LR⟩
                      · have hen : ((endN g k : Int) == (k : Int) + 1) = false := by simp; omega
                        have HE2 : Hid (gOkS xs g = (allF2 (partS xs g) (k + 1) (g.length - (k + 1)) && (okTree xs && rng 1 16 g.length))) := by show _ = _; rw [HE.out, HS.out]; simp [h1, h2, hg, hc, hk00, hd00, ha1, hb1, hend]
                        clear HE HS
                        first | clear hk0 | skip
                        have Q0 := cell_ext pz q0
                        have Q1 := cell_ext pz q1
                        refine wp_region_ext (by kernel_rfl) (by kernel_rfl) ?_
                        repeat (go_big_quiet_step (first | (go_at_call 69; exact Calls.ext_of (endOf_any _ _ _ g k hlt _ (TG.ext _)))))
                        refine wpQuiet_nil ?_
                        intro _ hw'
                        obtain ⟨gg, rfl⟩ := hw'
                        have hw1 := Le.ext _ gg
                        replace LW := LW.trans hw1
                        replace LR := LR.trans hw1
                        generalize World.ext _ gg = W2 at *
                        go_wp2
                        go_roundw
                        case rel => exact ⟨k + 1, by omega, by go_num, HE2.out, fun _ => HN.out, LW⟩
                        case measure => simp [intOf]; omega
            · skip
              have HE2 : Hid (gOkS xs g = false) := by show _ = _; rw [HE.out, HS.out]; simp [h1, h2, hg, hc]
              clear HE HS
              go_wp2_with (first | (go_at_call 68; refine (grng_any _ _ _ _).mono ?_; rintro e w' ⟨rfl, rfl⟩; (first | rw [h1] | rw [h2])) | (go_at_call 38; refine (hasClass_any _ _ _ xs g[k].cls _ TT).mono ?_; rintro e w4 ⟨rfl, hle4⟩; rw [hkk]; replace TT := TT.le hle4; replace TG := TG.le hle4; replace LW := LW.trans hle4; replace LR := LR.trans hle4; replace q0 := (hle4.cell pz).trans q0; replace q1 := (hle4.cell pz).trans q1; replace q2 := (hle4.cell pz).trans q2; replace pz := Nat.lt_of_lt_of_le pz hle4.size; clear hle4))
              go_ret
              exact ⟨ret_bool HE2.out.symm, LR⟩
    · rw [allF2_end hlt] at HE
      rw [Bool.true_and] at HE
      cases h1 : okTree xs
      · rw [h1, Bool.false_and] at HE
        go_wp2_with fail
        refine (validTree_any _ _ _ xs _ TT).mono ?_
        rintro e w4 ⟨rfl, hle4⟩
        rw [h1]
        go_wp2
        go_ret
        exact ⟨ret_bool HE.out.symm, LR.trans hle4⟩
      · rw [h1, Bool.true_and] at HE
        go_wp2_with fail
        refine (validTree_any _ _ _ xs _ TT).mono ?_
        rintro e w4 ⟨rfl, hle4⟩
        rw [h1]
        go_wp2_with (go_at_call 68; refine (grng_any _ _ _ _).mono ?_; rintro e w' ⟨rfl, rfl⟩)
        go_ret
        exact ⟨ret_bool HE.out.symm, LR.trans hle4⟩
end
end Go.Proofs.Ytkpnajffeclmdaa
