/- one text of GB, C -/
import Derived.Test.YtpkkkpfanedieaaCk5
import Derived.Test.YtpkkkpfanedieaaCk2
import Derived.Test.YtpkkkpfanedieaaCk4
import Derived.Test.YtpkkkpfanedieaaCk1
namespace Go.Proofs.Ytpkkkpfanedieaa
open Go.RowKit
set_option linter.unusedVariables false
section
theorem grng_any (a b c : Int) (w : World) : Calls Try.prog 65 #[.int .i64 a, .int .i64 b, .int .i64 c] w fun e w' => e = .returned (.bool (rng b c a)) ∧ w = w' := inRange_any a b c w
set_option maxRecDepth 100000 in
set_option maxHeartbeats 4000000 in
theorem validGroup_any (A B : Option Addr) (n cap m c : Nat) (xs : List Cls) (g : List Prt) (w : World) (hT : Sl w A n cap xs) (hG : Sl w B m c g) :
    Calls Try.prog 39 #[.agg #[.slice A n cap], .slice B m c] w fun e w' => e = .returned (.bool (gOkS xs g)) ∧ Le w w' := by
  obtain rfl := hG.len
  have hm := hG.n_le
  have H0 : Hid (gOkS xs g = (allF2 (partS xs g) 0 (g.length - 0) && (okTree xs && rng 1 16 g.length))) := rfl
  go_enter Try.func39, Try.ntmps39
  have q0 : (w.alloc (.cells #[.slice A n cap] 25)).cell? ⟨w.heap.size, 0, none⟩ = some (.slice A n cap) := by rw [World.cell?_alloc_at _ _ _ _ rfl]; rfl
  have hz : w.heap.size < (w.alloc (.cells #[.slice A n cap] 25)).heap.size := by simp
  have hl := Le.new w (.cells #[.slice A n cap] 25)
  go_wp2
  replace hT := hT.le hl
  replace hG := hG.le hl
  generalize w.alloc (.cells #[.slice A n cap] 25) = W1 at *
  generalize w.heap.size = TB at *
  go_loopw [5] (fun i wr => ∃ k : Nat, k ≤ g.length ∧ i = .int .i64 k ∧ gOkS xs g = (allF2 (partS xs g) k (g.length - k) && (okTree xs && rng 1 16 g.length)) ∧ (0 < k → 0 ≤ (gAt g (k - 1)).depth ∧ (gAt g (k - 1)).depth ≤ 5) ∧ Le W1 wr) (fun i _ => g.length - (intOf i).toNat)
  case atStart => exact ⟨0, Nat.zero_le _, rfl, H0.out, fun h => absurd h (Nat.lt_irrefl 0), Le.refl _⟩
  case round =>
    obtain ⟨k, hk, rfl, he, hprev, hle⟩ := hrel
    have HE := Lib.hid he
    clear he H0
    have TT := hT.le hle
    have TG := hG.le hle
    have c0 := (hle.cell hz).trans q0
    have zc := Nat.lt_of_lt_of_le hz hle.size
    have LR := hl.trans hle
    clear hT hG q0 hz
    by_cases hlt : k < g.length
    · obtain ⟨b, off, rfl, hb, g0, g1, g2, g3, -⟩ := TG.prt_at hlt
      have hkx : (0 : Int) ≤ (k : Int) := by omega
      have hkn : (k : Int) < (g.length : Int) := by omega
      have hwk : IntKind.i64.wrap ((k : Int) + 1) = (k : Int) + 1 := IntWalk.i64_in _ (by omega)
      rw [allF2_at hlt] at HE
      have HS := Lib.hid (show partS xs g k = (rng 0 99 g[k].code && rng 0 5 g[k].depth && !(g[k].group && (g[k].cls != 0)) && !(!g[k].group && !hasK xs g[k].cls) && (decide (g[k].depth = 0) == decide (k = 0)) && (decide (k = 0) || !(decide ((gAt g (k - 1)).depth + 1 < g[k].depth) || (decide ((gAt g (k - 1)).depth < g[k].depth) && !(gAt g (k - 1)).group))) && !(g[k].group && decide (endN g k = k + 1))) by unfold partS; rw [gAt_at hlt])
      go_wp2_with fail
      have q0 : (wr.alloc (.cells #[.int .i64 g[k].depth, .bool g[k].group, .int .i64 g[k].cls, .int .i64 g[k].code] 42)).cell? ⟨wr.heap.size, 0, none⟩ = some (.int .i64 g[k].depth) := by rw [World.cell?_alloc_at _ _ _ _ rfl]; rfl
      have q1 : (wr.alloc (.cells #[.int .i64 g[k].depth, .bool g[k].group, .int .i64 g[k].cls, .int .i64 g[k].code] 42)).cell? ⟨wr.heap.size, 1, none⟩ = some (.bool g[k].group) := by rw [World.cell?_alloc_at _ _ _ _ rfl]; rfl
      have q2 : (wr.alloc (.cells #[.int .i64 g[k].depth, .bool g[k].group, .int .i64 g[k].cls, .int .i64 g[k].code] 42)).cell? ⟨wr.heap.size, 2, none⟩ = some (.int .i64 g[k].cls) := by rw [World.cell?_alloc_at _ _ _ _ rfl]; rfl
      have pz : wr.heap.size < (wr.alloc (.cells #[.int .i64 g[k].depth, .bool g[k].group, .int .i64 g[k].cls, .int .i64 g[k].code] 42)).heap.size := by simp
      have ln := Le.new wr (.cells #[.int .i64 g[k].depth, .bool g[k].group, .int .i64 g[k].cls, .int .i64 g[k].code] 42)
      replace c0 := (ln.cell zc).trans c0
      replace TT := TT.le ln
      replace TG := TG.le ln
      replace LR := LR.trans ln
      have LW := hle.trans ln
      clear ln zc hle hb g0 g1 g2 g3
      generalize wr.alloc (.cells #[.int .i64 g[k].depth, .bool g[k].group, .int .i64 g[k].cls, .int .i64 g[k].code] 42) = W at *
      generalize wr.heap.size = PB at *
      refine (grng_any _ _ _ _).mono ?_
      rintro e w' ⟨rfl, rfl⟩
      cases h1 : rng 0 99 g[k].code
      · skip
        have HE2 : Hid (gOkS xs g = false) := by show _ = _; rw [HE.out, HS.out]; simp [h1]
        clear HE HS
        go_wp2_with (first | (go_at_call 65; refine (grng_any _ _ _ _).mono ?_; rintro e w' ⟨rfl, rfl⟩; (first | rw [h1] | rw [h2])) | (go_at_call 40; refine (hasClass_any _ _ _ xs g[k].cls _ TT).mono ?_; rintro e w4 ⟨rfl, hle4⟩; rw [hkk]; replace TT := TT.le hle4; replace TG := TG.le hle4; replace LW := LW.trans hle4; replace LR := LR.trans hle4; replace q0 := (hle4.cell pz).trans q0; replace q1 := (hle4.cell pz).trans q1; replace q2 := (hle4.cell pz).trans q2; replace pz := Nat.lt_of_lt_of_le pz hle4.size; clear hle4))
        go_ret
        exact ⟨ret_bool HE2.out.symm, LR⟩
      · cases h2 : rng 0 5 g[k].depth
        · skip
          have HE2 : Hid (gOkS xs g = false) := by show _ = _; rw [HE.out, HS.out]; simp [h1, h2]
          clear HE HS
          go_wp2_with (first | (go_at_call 65; refine (grng_any _ _ _ _).mono ?_; rintro e w' ⟨rfl, rfl⟩; (first | rw [h1] | rw [h2])) | (go_at_call 40; refine (hasClass_any _ _ _ xs g[k].cls _ TT).mono ?_; rintro e w4 ⟨rfl, hle4⟩; rw [hkk]; replace TT := TT.le hle4; replace TG := TG.le hle4; replace LW := LW.trans hle4; replace LR := LR.trans hle4; replace q0 := (hle4.cell pz).trans q0; replace q1 := (hle4.cell pz).trans q1; replace q2 := (hle4.cell pz).trans q2; replace pz := Nat.lt_of_lt_of_le pz hle4.size; clear hle4))
          go_ret
          exact ⟨ret_bool HE2.out.symm, LR⟩
        · have HN : Hid (0 ≤ (gAt g (k + 1 - 1)).depth ∧ (gAt g (k + 1 - 1)).depth ≤ 5) := by show _ ∧ _; rw [Nat.add_sub_cancel, gAt_at hlt]; exact rng_iff.1 h2
          cases hg : g[k].group
          · rw [hg] at q1
            cases hkk : hasK xs g[k].cls
            · skip
              have HE2 : Hid (gOkS xs g = false) := by show _ = _; rw [HE.out, HS.out]; simp [h1, h2, hg, hkk]
              clear HE HS
              go_wp2_with (first | (go_at_call 65; refine (grng_any _ _ _ _).mono ?_; rintro e w' ⟨rfl, rfl⟩; (first | rw [h1] | rw [h2])) | (go_at_call 40; refine (hasClass_any _ _ _ xs g[k].cls _ TT).mono ?_; rintro e w4 ⟨rfl, hle4⟩; rw [hkk]; replace TT := TT.le hle4; replace TG := TG.le hle4; replace LW := LW.trans hle4; replace LR := LR.trans hle4; replace q0 := (hle4.cell pz).trans q0; replace q1 := (hle4.cell pz).trans q1; replace q2 := (hle4.cell pz).trans q2; replace pz := Nat.lt_of_lt_of_le pz hle4.size; clear hle4))
              go_ret
              exact ⟨ret_bool HE2.out.symm, LR⟩
            · skip
              by_cases hk0 : k = 0
              · by_cases hd0 : g[k].depth = 0
                · have e1 : (g[k].depth == 0) = true := by simpa using hd0
                  have e2 : ((k : Int) == 0) = true := by simp [hk0]
                  have e3 : decide ((0 : Int) < (k : Int)) = false := decide_eq_false (by omega)
                  have e4 : decide (0 < k) = false := decide_eq_false (by omega)
                  have hk00 : decide (k = 0) = true := decide_eq_true hk0
                  have hd00 : decide (g[k].depth = 0) = true := decide_eq_true hd0
                  clear hk0 hd0
                  go_wp2_with (first | (go_at_call 65; refine (grng_any _ _ _ _).mono ?_; rintro e w' ⟨rfl, rfl⟩; (first | rw [h1] | rw [h2])) | (go_at_call 40; refine (hasClass_any _ _ _ xs g[k].cls _ TT).mono ?_; rintro e w4 ⟨rfl, hle4⟩; rw [hkk]; replace TT := TT.le hle4; replace TG := TG.le hle4; replace LW := LW.trans hle4; replace LR := LR.trans hle4; replace q0 := (hle4.cell pz).trans q0; replace q1 := (hle4.cell pz).trans q1; replace q2 := (hle4.cell pz).trans q2; replace pz := Nat.lt_of_lt_of_le pz hle4.size; clear hle4))
                  have HE2 : Hid (gOkS xs g = (allF2 (partS xs g) (k + 1) (g.length - (k + 1)) && (okTree xs && rng 1 16 g.length))) := by show _ = _; rw [HE.out, HS.out]; simp [h1, h2, hg, hkk, hk00, hd00]
                  clear HE HS
                  first | clear hk0 | skip
                  have Q0 := cell_ext pz q0
                  have Q1 := cell_ext pz q1
                  refine wp_region_ext (by kernel_rfl) (by kernel_rfl) ?_
                  repeat (go_big_quiet_step (first | (go_at_call 66; exact Calls.ext_of (endOf_any _ _ _ g k hlt _ (TG.ext _)))))
                  refine wpQuiet_nil ?_
                  intro _ hw'
                  obtain ⟨gg, rfl⟩ := hw'
                  have hw1 := Le.ext _ gg
                  replace LW := LW.trans hw1
                  replace LR := LR.trans hw1
                  generalize World.ext _ gg = W2 at *
                  go_wp2
                  go_roundw
                  case rel => exact ⟨k + 1, by omega, by go_num, HE2.out, fun _ => HN.out, LW⟩
                  case measure => simp [intOf]; omega
                · have e1 : (g[k].depth == 0) = false := by simpa using hd0
                  have e2 : ((k : Int) == 0) = true := by simp [hk0]
                  have hk00 : decide (k = 0) = true := decide_eq_true hk0
                  have hd00 : decide (g[k].depth = 0) = false := decide_eq_false hd0
                  clear hk0 hd0
                  have HE2 : Hid (gOkS xs g = false) := by show _ = _; rw [HE.out, HS.out]; simp [h1, h2, hg, hkk, hk00, hd00]
                  clear HE HS
                  go_wp2_with (first | (go_at_call 65; refine (grng_any _ _ _ _).mono ?_; rintro e w' ⟨rfl, rfl⟩; (first | rw [h1] | rw [h2])) | (go_at_call 40; refine (hasClass_any _ _ _ xs g[k].cls _ TT).mono ?_; rintro e w4 ⟨rfl, hle4⟩; rw [hkk]; replace TT := TT.le hle4; replace TG := TG.le hle4; replace LW := LW.trans hle4; replace LR := LR.trans hle4; replace q0 := (hle4.cell pz).trans q0; replace q1 := (hle4.cell pz).trans q1; replace q2 := (hle4.cell pz).trans q2; replace pz := Nat.lt_of_lt_of_le pz hle4.size; clear hle4))
                  go_ret
                  exact ⟨ret_bool HE2.out.symm, LR⟩
              · by_cases hd0 : g[k].depth = 0
                · have e1 : (g[k].depth == 0) = true := by simpa using hd0
                  have e2 : ((k : Int) == 0) = false := by simp; omega
                  have hk00 : decide (k = 0) = false := decide_eq_false hk0
                  have hd00 : decide (g[k].depth = 0) = true := decide_eq_true hd0
                  clear hk0 hd0
                  have HE2 : Hid (gOkS xs g = false) := by show _ = _; rw [HE.out, HS.out]; simp [h1, h2, hg, hkk, hk00, hd00]
                  clear HE HS
                  go_wp2_with (first | (go_at_call 65; refine (grng_any _ _ _ _).mono ?_; rintro e w' ⟨rfl, rfl⟩; (first | rw [h1] | rw [h2])) | (go_at_call 40; refine (hasClass_any _ _ _ xs g[k].cls _ TT).mono ?_; rintro e w4 ⟨rfl, hle4⟩; rw [hkk]; replace TT := TT.le hle4; replace TG := TG.le hle4; replace LW := LW.trans hle4; replace LR := LR.trans hle4; replace q0 := (hle4.cell pz).trans q0; replace q1 := (hle4.cell pz).trans q1; replace q2 := (hle4.cell pz).trans q2; replace pz := Nat.lt_of_lt_of_le pz hle4.size; clear hle4))
                  go_ret
                  exact ⟨ret_bool HE2.out.symm, LR⟩
                · have e1 : (g[k].depth == 0) = false := by simpa using hd0
                  have e2 : ((k : Int) == 0) = false := by simp; omega
                  have e3 : decide ((0 : Int) < (k : Int)) = true := decide_eq_true (by omega)
                  have e4 : decide (0 < k) = true := decide_eq_true (by omega)
                  have hk00 : decide (k = 0) = false := decide_eq_false hk0
                  have hd00 : decide (g[k].depth = 0) = false := decide_eq_false hd0
                  obtain ⟨j, hjk⟩ : ∃ j, k = j + 1 := ⟨k - 1, by omega⟩
                  have hjl : j < g.length := by omega
                  have hp2 := hprev (by omega)
                  have hj1 : k - 1 = j := by omega
                  rw [hj1, gAt_at hjl] at HS hp2
                  have hwz : IntKind.i64.wrap ((k : Int) - 1) = (j : Int) := by rw [show (k : Int) - 1 = (j : Int) by omega]; exact IntWalk.i64_in _ (by omega)
                  have hwd : IntKind.i64.wrap (g[j].depth + 1) = g[j].depth + 1 := IntWalk.i64_in _ (by omega)
                  have hj0 : (0 : Int) ≤ (j : Int) := by omega
                  have hjn : (j : Int) < (g.length : Int) := by omega
                  clear hk0 hd0 hprev hp2 hjk hj1
                  go_wp2_with (first | (go_at_call 65; refine (grng_any _ _ _ _).mono ?_; rintro e w' ⟨rfl, rfl⟩; (first | rw [h1] | rw [h2])) | (go_at_call 40; refine (hasClass_any _ _ _ xs g[k].cls _ TT).mono ?_; rintro e w4 ⟨rfl, hle4⟩; rw [hkk]; replace TT := TT.le hle4; replace TG := TG.le hle4; replace LW := LW.trans hle4; replace LR := LR.trans hle4; replace q0 := (hle4.cell pz).trans q0; replace q1 := (hle4.cell pz).trans q1; replace q2 := (hle4.cell pz).trans q2; replace pz := Nat.lt_of_lt_of_le pz hle4.size; clear hle4))
                  obtain ⟨b2, off2, ee, hb2, d0, d1, -⟩ := TG.prt_at hjl
                  cases ee
                  have D0 := cell_ext hb2 d0
                  by_cases ha : g[j].depth + 1 < g[k].depth
                  · have ha1 : decide (g[j].depth + 1 < g[k].depth) = true := decide_eq_true ha
                    have D1 := cell_ext hb2 d1
                    have HE2 : Hid (gOkS xs g = false) := by show _ = _; rw [HE.out, HS.out]; simp [h1, h2, hg, hkk, hk00, hd00, ha1]
                    clear HE HS
                    first | clear hk0 | skip
                    have Q0 := cell_ext pz q0
                    have Q1 := cell_ext pz q1
                    refine wp_region_ext (by kernel_rfl) (by kernel_rfl) ?_
                    repeat (go_big_quiet_step (first | (go_at_call 66; exact Calls.ext_of (endOf_any _ _ _ g k hlt _ (TG.ext _)))))
                    refine wpQuiet_nil ?_
                    intro _ hw'
                    obtain ⟨gg, rfl⟩ := hw'
                    have hw1 := Le.ext _ gg
                    replace LW := LW.trans hw1
                    replace LR := LR.trans hw1
                    generalize World.ext _ gg = W2 at *
                    go_wp2
                    go_ret
                    exact ⟨ret_bool HE2.out.symm, LR⟩
                  · have ha1 : decide (g[j].depth + 1 < g[k].depth) = false := decide_eq_false ha
                    by_cases hb5 : g[j].depth < g[k].depth
                    · have hb1 : decide (g[j].depth < g[k].depth) = true := decide_eq_true hb5
                      cases hpg : g[j].group
                      · rw [hpg] at d1
                        have D1 := cell_ext hb2 d1
                        have HE2 : Hid (gOkS xs g = false) := by show _ = _; rw [HE.out, HS.out]; simp [h1, h2, hg, hkk, hk00, hd00, ha1, hb1, hpg]
                        clear HE HS
                        first | clear hk0 | skip
                        have Q0 := cell_ext pz q0
                        have Q1 := cell_ext pz q1
                        refine wp_region_ext (by kernel_rfl) (by kernel_rfl) ?_
                        repeat (go_big_quiet_step (first | (go_at_call 66; exact Calls.ext_of (endOf_any _ _ _ g k hlt _ (TG.ext _)))))
                        refine wpQuiet_nil ?_
                        intro _ hw'
                        obtain ⟨gg, rfl⟩ := hw'
                        have hw1 := Le.ext _ gg
                        replace LW := LW.trans hw1
                        replace LR := LR.trans hw1
                        generalize World.ext _ gg = W2 at *
                        go_wp2
                        go_ret
                        exact ⟨ret_bool HE2.out.symm, LR⟩
                      · rw [hpg] at d1
                        have D1 := cell_ext hb2 d1
                        have HE2 : Hid (gOkS xs g = (allF2 (partS xs g) (k + 1) (g.length - (k + 1)) && (okTree xs && rng 1 16 g.length))) := by show _ = _; rw [HE.out, HS.out]; simp [h1, h2, hg, hkk, hk00, hd00, ha1, hb1, hpg]
                        clear HE HS
                        first | clear hk0 | skip
                        have Q0 := cell_ext pz q0
                        have Q1 := cell_ext pz q1
                        refine wp_region_ext (by kernel_rfl) (by kernel_rfl) ?_
                        repeat (go_big_quiet_step (first | (go_at_call 66; exact Calls.ext_of (endOf_any _ _ _ g k hlt _ (TG.ext _)))))
                        refine wpQuiet_nil ?_
                        intro _ hw'
                        obtain ⟨gg, rfl⟩ := hw'
                        have hw1 := Le.ext _ gg
                        replace LW := LW.trans hw1
                        replace LR := LR.trans hw1
                        generalize World.ext _ gg = W2 at *
                        go_wp2
                        go_roundw
                        case rel => exact ⟨k + 1, by omega, by go_num, HE2.out, fun _ => HN.out, LW⟩
                        case measure => simp [intOf]; omega
                    · have hb1 : decide (g[j].depth < g[k].depth) = false := decide_eq_false hb5
                      have D1 := cell_ext hb2 d1
                      have HE2 : Hid (gOkS xs g = (allF2 (partS xs g) (k + 1) (g.length - (k + 1)) && (okTree xs && rng 1 16 g.length))) := by show _ = _; rw [HE.out, HS.out]; simp [h1, h2, hg, hkk, hk00, hd00, ha1, hb1]
                      clear HE HS
                      first | clear hk0 | skip
                      have Q0 := cell_ext pz q0
                      have Q1 := cell_ext pz q1
                      refine wp_region_ext (by kernel_rfl) (by kernel_rfl) ?_
                      repeat (go_big_quiet_step (first | (go_at_call 66; exact Calls.ext_of (endOf_any _ _ _ g k hlt _ (TG.ext _)))))
                      refine wpQuiet_nil ?_
                      intro _ hw'
                      obtain ⟨gg, rfl⟩ := hw'
                      have hw1 := Le.ext _ gg
                      replace LW := LW.trans hw1
                      replace LR := LR.trans hw1
                      generalize World.ext _ gg = W2 at *
                      go_wp2
                      go_roundw
                      case rel => exact ⟨k + 1, by omega, by go_num, HE2.out, fun _ => HN.out, LW⟩
                      case measure => simp [intOf]; omega
          · rw [hg] at q1
            cases hc : (g[k].cls != 0)
            · skip
              by_cases hk0 : k = 0
              · by_cases hd0 : g[k].depth = 0
                · have e1 : (g[k].depth == 0) = true := by simpa using hd0
                  have e2 : ((k : Int) == 0) = true := by simp [hk0]
                  have e3 : decide ((0 : Int) < (k : Int)) = false := decide_eq_false (by omega)
                  have e4 : decide (0 < k) = false := decide_eq_false (by omega)
                  have hk00 : decide (k = 0) = true := decide_eq_true hk0
                  have hd00 : decide (g[k].depth = 0) = true := decide_eq_true hd0
                  clear hk0 hd0
                  go_wp2_with (first | (go_at_call 65; refine (grng_any _ _ _ _).mono ?_; rintro e w' ⟨rfl, rfl⟩; (first | rw [h1] | rw [h2])) | (go_at_call 40; refine (hasClass_any _ _ _ xs g[k].cls _ TT).mono ?_; rintro e w4 ⟨rfl, hle4⟩; rw [hkk]; replace TT := TT.le hle4; replace TG := TG.le hle4; replace LW := LW.trans hle4; replace LR := LR.trans hle4; replace q0 := (hle4.cell pz).trans q0; replace q1 := (hle4.cell pz).trans q1; replace q2 := (hle4.cell pz).trans q2; replace pz := Nat.lt_of_lt_of_le pz hle4.size; clear hle4))
                  by_cases hend : endN g k = k + 1
                  · have hen : ((endN g k : Int) == (k : Int) + 1) = true := by rw [hend]; simp
                    have HE2 : Hid (gOkS xs g = false) := by show _ = _; rw [HE.out, HS.out]; simp [h1, h2, hg, hc, hk00, hd00, hend]
                    clear HE HS
                    first | clear hk0 | skip
                    have Q0 := cell_ext pz q0
                    have Q1 := cell_ext pz q1
                    refine wp_region_ext (by kernel_rfl) (by kernel_rfl) ?_
                    repeat (go_big_quiet_step (first | (go_at_call 66; exact Calls.ext_of (endOf_any _ _ _ g k hlt _ (TG.ext _)))))
                    refine wpQuiet_nil ?_
                    intro _ hw'
                    obtain ⟨gg, rfl⟩ := hw'
                    have hw1 := Le.ext _ gg
                    replace LW := LW.trans hw1
                    replace LR := LR.trans hw1
                    generalize World.ext _ gg = W2 at *
                    go_wp2
                    go_ret
                    exact ⟨ret_bool HE2.out.symm, LR⟩
                  · have hen : ((endN g k : Int) == (k : Int) + 1) = false := by simp; omega
                    have HE2 : Hid (gOkS xs g = (allF2 (partS xs g) (k + 1) (g.length - (k + 1)) && (okTree xs && rng 1 16 g.length))) := by show _ = _; rw [HE.out, HS.out]; simp [h1, h2, hg, hc, hk00, hd00, hend]
                    clear HE HS
                    first | clear hk0 | skip
                    have Q0 := cell_ext pz q0
                    have Q1 := cell_ext pz q1
                    refine wp_region_ext (by kernel_rfl) (by kernel_rfl) ?_
                    repeat (go_big_quiet_step (first | (go_at_call 66; exact Calls.ext_of (endOf_any _ _ _ g k hlt _ (TG.ext _)))))
                    refine wpQuiet_nil ?_
                    intro _ hw'
                    obtain ⟨gg, rfl⟩ := hw'
                    have hw1 := Le.ext _ gg
                    replace LW := LW.trans hw1
                    replace LR := LR.trans hw1
                    generalize World.ext _ gg = W2 at *
                    go_wp2
                    go_roundw
                    case rel => exact ⟨k + 1, by omega, by go_num, HE2.out, fun _ => HN.out, LW⟩
                    case measure => simp [intOf]; omega
                · have e1 : (g[k].depth == 0) = false := by simpa using hd0
                  have e2 : ((k : Int) == 0) = true := by simp [hk0]
                  have hk00 : decide (k = 0) = true := decide_eq_true hk0
                  have hd00 : decide (g[k].depth = 0) = false := decide_eq_false hd0
                  clear hk0 hd0
                  have HE2 : Hid (gOkS xs g = false) := by show _ = _; rw [HE.out, HS.out]; simp [h1, h2, hg, hc, hk00, hd00]
                  clear HE HS
                  go_wp2_with (first | (go_at_call 65; refine (grng_any _ _ _ _).mono ?_; rintro e w' ⟨rfl, rfl⟩; (first | rw [h1] | rw [h2])) | (go_at_call 40; refine (hasClass_any _ _ _ xs g[k].cls _ TT).mono ?_; rintro e w4 ⟨rfl, hle4⟩; rw [hkk]; replace TT := TT.le hle4; replace TG := TG.le hle4; replace LW := LW.trans hle4; replace LR := LR.trans hle4; replace q0 := (hle4.cell pz).trans q0; replace q1 := (hle4.cell pz).trans q1; replace q2 := (hle4.cell pz).trans q2; replace pz := Nat.lt_of_lt_of_le pz hle4.size; clear hle4))
                  go_ret
                  exact ⟨ret_bool HE2.out.symm, LR⟩
              · by_cases hd0 : g[k].depth = 0
                · have e1 : (g[k].depth == 0) = true := by simpa using hd0
                  have e2 : ((k : Int) == 0) = false := by simp; omega
                  have hk00 : decide (k = 0) = false := decide_eq_false hk0
                  have hd00 : decide (g[k].depth = 0) = true := decide_eq_true hd0
                  clear hk0 hd0
                  have HE2 : Hid (gOkS xs g = false) := by show _ = _; rw [HE.out, HS.out]; simp [h1, h2, hg, hc, hk00, hd00]
                  clear HE HS
                  go_wp2_with (first | (go_at_call 65; refine (grng_any _ _ _ _).mono ?_; rintro e w' ⟨rfl, rfl⟩; (first | rw [h1] | rw [h2])) | (go_at_call 40; refine (hasClass_any _ _ _ xs g[k].cls _ TT).mono ?_; rintro e w4 ⟨rfl, hle4⟩; rw [hkk]; replace TT := TT.le hle4; replace TG := TG.le hle4; replace LW := LW.trans hle4; replace LR := LR.trans hle4; replace q0 := (hle4.cell pz).trans q0; replace q1 := (hle4.cell pz).trans q1; replace q2 := (hle4.cell pz).trans q2; replace pz := Nat.lt_of_lt_of_le pz hle4.size; clear hle4))
                  go_ret
                  exact ⟨ret_bool HE2.out.symm, LR⟩
                · have e1 : (g[k].depth == 0) = false := by simpa using hd0
                  have e2 : ((k : Int) == 0) = false := by simp; omega
                  have e3 : decide ((0 : Int) < (k : Int)) = true := decide_eq_true (by omega)
                  have e4 : decide (0 < k) = true := decide_eq_true (by omega)
                  have hk00 : decide (k = 0) = false := decide_eq_false hk0
                  have hd00 : decide (g[k].depth = 0) = false := decide_eq_false hd0
                  obtain ⟨j, hjk⟩ : ∃ j, k = j + 1 := ⟨k - 1, by omega⟩
                  have hjl : j < g.length := by omega
                  have hp2 := hprev (by omega)
                  have hj1 : k - 1 = j := by omega
                  rw [hj1, gAt_at hjl] at HS hp2
                  have hwz : IntKind.i64.wrap ((k : Int) - 1) = (j : Int) := by rw [show (k : Int) - 1 = (j : Int) by omega]; exact IntWalk.i64_in _ (by omega)
                  have hwd : IntKind.i64.wrap (g[j].depth + 1) = g[j].depth + 1 := IntWalk.i64_in _ (by omega)
                  have hj0 : (0 : Int) ≤ (j : Int) := by omega
                  have hjn : (j : Int) < (g.length : Int) := by omega
                  clear hk0 hd0 hprev hp2 hjk hj1
                  go_wp2_with (first | (go_at_call 65; refine (grng_any _ _ _ _).mono ?_; rintro e w' ⟨rfl, rfl⟩; (first | rw [h1] | rw [h2])) | (go_at_call 40; refine (hasClass_any _ _ _ xs g[k].cls _ TT).mono ?_; rintro e w4 ⟨rfl, hle4⟩; rw [hkk]; replace TT := TT.le hle4; replace TG := TG.le hle4; replace LW := LW.trans hle4; replace LR := LR.trans hle4; replace q0 := (hle4.cell pz).trans q0; replace q1 := (hle4.cell pz).trans q1; replace q2 := (hle4.cell pz).trans q2; replace pz := Nat.lt_of_lt_of_le pz hle4.size; clear hle4))
                  obtain ⟨b2, off2, ee, hb2, d0, d1, -⟩ := TG.prt_at hjl
                  cases ee
                  have D0 := cell_ext hb2 d0
                  by_cases ha : g[j].depth + 1 < g[k].depth
                  · have ha1 : decide (g[j].depth + 1 < g[k].depth) = true := decide_eq_true ha
                    have D1 := cell_ext hb2 d1
                    have HE2 : Hid (gOkS xs g = false) := by show _ = _; rw [HE.out, HS.out]; simp [h1, h2, hg, hc, hk00, hd00, ha1]
                    clear HE HS
                    first | clear hk0 | skip
                    have Q0 := cell_ext pz q0
                    have Q1 := cell_ext pz q1
                    refine wp_region_ext (by kernel_rfl) (by kernel_rfl) ?_
                    repeat (go_big_quiet_step (first | (go_at_call 66; exact Calls.ext_of (endOf_any _ _ _ g k hlt _ (TG.ext _)))))
                    refine wpQuiet_nil ?_
                    intro _ hw'
                    obtain ⟨gg, rfl⟩ := hw'
                    have hw1 := Le.ext _ gg
                    replace LW := LW.trans hw1
                    replace LR := LR.trans hw1
                    generalize World.ext _ gg = W2 at *
                    go_wp2
                    go_ret
                    exact ⟨ret_bool HE2.out.symm, LR⟩
                  · have ha1 : decide (g[j].depth + 1 < g[k].depth) = false := decide_eq_false ha
                    by_cases hb5 : g[j].depth < g[k].depth
                    · have hb1 : decide (g[j].depth < g[k].depth) = true := decide_eq_true hb5
                      cases hpg : g[j].group
                      · rw [hpg] at d1
                        have D1 := cell_ext hb2 d1
                        have HE2 : Hid (gOkS xs g = false) := by show _ = _; rw [HE.out, HS.out]; simp [h1, h2, hg, hc, hk00, hd00, ha1, hb1, hpg]
                        clear HE HS
                        first | clear hk0 | skip
                        have Q0 := cell_ext pz q0
                        have Q1 := cell_ext pz q1
                        refine wp_region_ext (by kernel_rfl) (by kernel_rfl) ?_
                        repeat (go_big_quiet_step (first | (go_at_call 66; exact Calls.ext_of (endOf_any _ _ _ g k hlt _ (TG.ext _)))))
                        refine wpQuiet_nil ?_
                        intro _ hw'
                        obtain ⟨gg, rfl⟩ := hw'
                        have hw1 := Le.ext _ gg
                        replace LW := LW.trans hw1
                        replace LR := LR.trans hw1
                        generalize World.ext _ gg = W2 at *
                        go_wp2
                        go_ret
                        exact ⟨ret_bool HE2.out.symm, LR⟩
                      · rw [hpg] at d1
                        have D1 := cell_ext hb2 d1
                        by_cases hend : endN g k = k + 1
                        · have hen : ((endN g k : Int) == (k : Int) + 1) = true := by rw [hend]; simp
                          have HE2 : Hid (gOkS xs g = false) := by show _ = _; rw [HE.out, HS.out]; simp [h1, h2, hg, hc, hk00, hd00, ha1, hb1, hpg, hend]
                          clear HE HS
                          first | clear hk0 | skip
                          have Q0 := cell_ext pz q0
                          have Q1 := cell_ext pz q1
                          refine wp_region_ext (by kernel_rfl) (by kernel_rfl) ?_
                          repeat (go_big_quiet_step (first | (go_at_call 66; exact Calls.ext_of (endOf_any _ _ _ g k hlt _ (TG.ext _)))))
                          refine wpQuiet_nil ?_
                          intro _ hw'
                          obtain ⟨gg, rfl⟩ := hw'
                          have hw1 := Le.ext _ gg
                          replace LW := LW.trans hw1
                          replace LR := LR.trans hw1
                          generalize World.ext _ gg = W2 at *
                          go_wp2
                          go_ret
                          exact ⟨ret_bool HE2.out.symm, LR⟩
                        · have hen : ((endN g k : Int) == (k : Int) + 1) = false := by simp; omega
                          have HE2 : Hid (gOkS xs g = (allF2 (partS xs g) (k + 1) (g.length - (k + 1)) && (okTree xs && rng 1 16 g.length))) := by show _ = _; rw [HE.out, HS.out]; simp [h1, h2, hg, hc, hk00, hd00, ha1, hb1, hpg, hend]
                          clear HE HS
                          first | clear hk0 | skip
                          have Q0 := cell_ext pz q0
                          have Q1 := cell_ext pz q1
                          refine wp_region_ext (by kernel_rfl) (by kernel_rfl) ?_
                          repeat (go_big_quiet_step (first | (go_at_call 66; exact Calls.ext_of (endOf_any _ _ _ g k hlt _ (TG.ext _)))))
                          refine wpQuiet_nil ?_
                          intro _ hw'
                          obtain ⟨gg, rfl⟩ := hw'
                          have hw1 := Le.ext _ gg
                          replace LW := LW.trans hw1
                          replace LR := LR.trans hw1
                          generalize World.ext _ gg = W2 at *
                          go_wp2
                          go_roundw
                          case rel => exact ⟨k + 1, by omega, by go_num, HE2.out, fun _ => HN.out, LW⟩
                          case measure => simp [intOf]; omega
                    · have hb1 : decide (g[j].depth < g[k].depth) = false := decide_eq_false hb5
                      have D1 := cell_ext hb2 d1
                      by_cases hend : endN g k = k + 1
                      · have hen : ((endN g k : Int) == (k : Int) + 1) = true := by rw [hend]; simp
                        have HE2 : Hid (gOkS xs g = false) := by show _ = _; rw [HE.out, HS.out]; simp [h1, h2, hg, hc, hk00, hd00, ha1, hb1, hend]
                        clear HE HS
                        first | clear hk0 | skip
                        have Q0 := cell_ext pz q0
                        have Q1 := cell_ext pz q1
                        refine wp_region_ext (by kernel_rfl) (by kernel_rfl) ?_
                        repeat (go_big_quiet_step (first | (go_at_call 66; exact Calls.ext_of (endOf_any _ _ _ g k hlt _ (TG.ext _)))))
                        refine wpQuiet_nil ?_
                        intro _ hw'
                        obtain ⟨gg, rfl⟩ := hw'
                        have hw1 := Le.ext _ gg
                        replace LW := LW.trans hw1
                        replace LR := LR.trans hw1
                        generalize World.ext _ gg = W2 at *
                        go_wp2
                        go_ret
                        exact ⟨ret_bool HE2.out.symm, LR⟩
                      · have hen : ((endN g k : Int) == (k : Int) + 1) = false := by simp; omega
                        have HE2 : Hid (gOkS xs g = (allF2 (partS xs g) (k + 1) (g.length - (k + 1)) && (okTree xs && rng 1 16 g.length))) := by show _ = _; rw [HE.out, HS.out]; simp [h1, h2, hg, hc, hk00, hd00, ha1, hb1, hend]
                        clear HE HS
                        first | clear hk0 | skip
                        have Q0 := cell_ext pz q0
                        have Q1 := cell_ext pz q1
                        refine wp_region_ext (by kernel_rfl) (by kernel_rfl) ?_
                        repeat (go_big_quiet_step (first | (go_at_call 66; exact Calls.ext_of (endOf_any _ _ _ g k hlt _ (TG.ext _)))))
                        refine wpQuiet_nil ?_
                        intro _ hw'
                        obtain ⟨gg, rfl⟩ := hw'
                        have hw1 := Le.ext _ gg
                        replace LW := LW.trans hw1
                        replace LR := LR.trans hw1
                        generalize World.ext _ gg = W2 at *
                        go_wp2
                        go_roundw
                        case rel => exact ⟨k + 1, by omega, by go_num, HE2.out, fun _ => HN.out, LW⟩
                        case measure => simp [intOf]; omega
            · skip
              have HE2 : Hid (gOkS xs g = false) := by show _ = _; rw [HE.out, HS.out]; simp [h1, h2, hg, hc]
              clear HE HS
              go_wp2_with (first | (go_at_call 65; refine (grng_any _ _ _ _).mono ?_; rintro e w' ⟨rfl, rfl⟩; (first | rw [h1] | rw [h2])) | (go_at_call 40; refine (hasClass_any _ _ _ xs g[k].cls _ TT).mono ?_; rintro e w4 ⟨rfl, hle4⟩; rw [hkk]; replace TT := TT.le hle4; replace TG := TG.le hle4; replace LW := LW.trans hle4; replace LR := LR.trans hle4; replace q0 := (hle4.cell pz).trans q0; replace q1 := (hle4.cell pz).trans q1; replace q2 := (hle4.cell pz).trans q2; replace pz := Nat.lt_of_lt_of_le pz hle4.size; clear hle4))
              go_ret
              exact ⟨ret_bool HE2.out.symm, LR⟩
    · rw [allF2_end hlt] at HE
      rw [Bool.true_and] at HE
      cases h1 : okTree xs
      · rw [h1, Bool.false_and] at HE
        go_wp2_with fail
        refine (validTree_any _ _ _ xs _ TT).mono ?_
        rintro e w4 ⟨rfl, hle4⟩
        rw [h1]
        go_wp2
        go_ret
        exact ⟨ret_bool HE.out.symm, LR.trans hle4⟩
      · rw [h1, Bool.true_and] at HE
        go_wp2_with fail
        refine (validTree_any _ _ _ xs _ TT).mono ?_
        rintro e w4 ⟨rfl, hle4⟩
        rw [h1]
        go_wp2_with (go_at_call 65; refine (grng_any _ _ _ _).mono ?_; rintro e w' ⟨rfl, rfl⟩)
        go_ret
        exact ⟨ret_bool HE.out.symm, LR.trans hle4⟩
end

section
theorem findN_range (xs : List Cls) (s : ByteArray) : ∀ j : Int, 0 ≤ j → findN xs s j = -1 ∨ (j ≤ findN xs s j ∧ findN xs s j < j + xs.length) := by
  induction xs with
  | nil => intro j _; exact .inl rfl
  | cons c r ih =>
    intro j hj
    unfold findN
    split
    · right; simp; omega
    · rcases ih (j + 1) (by omega) with h | ⟨h1, h2⟩
      · exact .inl h
      · right; simp; omega
theorem findN_append (xs ys : List Cls) (s : ByteArray) : ∀ j : Int, 0 ≤ j → findN (xs ++ ys) s j = if 0 ≤ findN xs s j then findN xs s j else findN ys s (j + xs.length) := by
  induction xs with
  | nil => intro j _; simp [findN]
  | cons c r ih =>
    intro j hj
    rw [List.cons_append, findN_cons, findN_cons]
    by_cases h : c.name = s
    · rw [if_pos h, if_pos h, if_pos hj]
    · rw [if_neg h, if_neg h, ih (j + 1) (by omega)]
      have e : j + 1 + (r.length : Int) = j + ((c :: r).length : Int) := by simp; omega
      rw [e]
theorem findN_self {xs : List Cls} {k : Nat} (h : k < xs.length) : (findN xs xs[k].name 0 == (k : Int)) = !decide (0 ≤ findN (xs.take k) xs[k].name 0) := by
  have e : xs = xs.take k ++ xs[k] :: xs.drop (k + 1) := by rw [← List.drop_eq_getElem_cons h, List.take_append_drop]
  have e2 : findN xs xs[k].name 0 = findN (xs.take k ++ xs[k] :: xs.drop (k + 1)) xs[k].name 0 := by rw [← e]
  rw [e2, findN_append _ _ _ _ (by omega)]
  have hl : (xs.take k).length = k := by rw [List.length_take]; omega
  rcases findN_range (xs.take k) xs[k].name 0 (by omega) with h1 | ⟨h1, h2⟩
  · rw [h1, if_neg (by omega)]
    unfold findN
    rw [if_pos rfl, hl]
    simp
  · rw [if_pos h1, decide_eq_true h1]
    rw [hl] at h2
    simp; omega
theorem parent_i (p : Int) (k : Nat) : ((k : Int) == 0 && p != -1 || decide (0 < (k : Int)) && !(decide (0 ≤ p) && decide (p ≤ (k : Int) - 1))) = (((p == -1) != ((k : Int) == 0)) || decide (p < -1) || decide ((k : Int) ≤ p)) := by
  rcases Nat.eq_zero_or_pos k with rfl | hk
  · by_cases hp : p = -1
    · subst hp; rfl
    · have h1 : (p == -1) = false := by simpa using hp
      simp [h1, bne]
  · have h0 : ((k : Int) == 0) = false := by simp; omega
    have h2 : decide (0 < (k : Int)) = true := by simp; omega
    rw [h0, h2, Bool.false_and, Bool.true_and, Bool.false_or, Bool.eq_iff_iff]
    by_cases hp : p = -1
    · subst hp; simp
    · have h1 : (p == -1) = false := by simpa using hp
      rw [h1]
      simp only [Bool.not_eq_true', Bool.and_eq_false_iff, decide_eq_false_iff_not, Bool.or_eq_true, decide_eq_true_eq, bne]
      simp
      omega
theorem badCls_i {xs : List Cls} {k : Nat} (h : k < xs.length) : badCls xs k xs[k] = ((!okName xs[k].name || findN xs xs[k].name 0 != (k : Int)) || (((xs[k].parent == -1) != ((k : Int) == 0)) || decide (xs[k].parent < -1) || decide ((k : Int) ≤ xs[k].parent))) := by
  unfold badCls
  have hs := findN_self h
  have hn : (findN xs xs[k].name 0 != (k : Int)) = decide (0 ≤ findN (xs.take k) xs[k].name 0) := by rw [bne, hs, Bool.not_not]
  rw [hn]
  generalize okName xs[k].name = a
  generalize decide (0 ≤ findN (xs.take k) xs[k].name 0) = b
  generalize xs[k].parent = p
  rw [Bool.or_assoc, parent_i]

theorem ivalidName_any (s : ByteArray) (w : World) (hs : s.size ≤ 9223372036854775807) : Calls Try.prog 69 #[.string s] w fun e w' => e = .returned (.bool (okName s)) ∧ w = w' := by
  by_cases hlo : s.size < 1
  · have HF : Hid (okName s = false) := by show _ = _; unfold okName; rw [decide_eq_false (p := 1 ≤ s.size) (by omega)]; simp
    go_enter Try.func69, Try.ntmps69
    go_wp2
    go_ret
    exact ⟨ret_bool HF.out.symm, rfl⟩
  · by_cases hhi : 6 < s.size
    · have HF : Hid (okName s = false) := by show _ = _; unfold okName; rw [decide_eq_false (p := s.size ≤ 6) (by omega)]; simp
      go_enter Try.func69, Try.ntmps69
      go_wp2
      go_ret
      exact ⟨ret_bool HF.out.symm, rfl⟩
    · have d1 : decide ((s.size : Int) < 1) = false := decide_eq_false (by omega)
      have d2 : decide (6 < (s.size : Int)) = false := decide_eq_false (by omega)
      go_enter Try.func69, Try.ntmps69
      go_wp2
      go_loop [14] (fun i => ∃ k : Nat, k ≤ s.size ∧ i = .int .i64 k ∧ lowers s.data.toList = lowers (s.data.toList.drop k)) (fun i => s.size - (intOf i).toNat)
      case atStart => exact ⟨0, Nat.zero_le _, rfl, rfl⟩
      case round =>
        obtain ⟨k, hk, rfl, hr⟩ := hrel
        have HR := Lib.hid hr; clear hr
        by_cases hlt : k < s.size
        · have hc : 0 ≤ (s[k].toNat : Int) ∧ (s[k].toNat : Int) ≤ 255 := by have := UInt8.toNat_lt s[k]; omega
          by_cases h1 : s[k].toNat < 97
          · have HF : Hid (okName s = false) := by show _ = _; unfold okName; rw [HR.out, lowers_at hlt, decide_eq_false (p := 97 ≤ s[k].toNat) (by omega)]; rfl
            go_wp2
            go_ret
            exact ⟨ret_bool HF.out.symm, rfl⟩
          · by_cases h2 : 122 < s[k].toNat
            · have HF : Hid (okName s = false) := by show _ = _; unfold okName; rw [HR.out, lowers_at hlt, decide_eq_false (p := s[k].toNat ≤ 122) (by omega)]; simp
              go_wp2
              go_ret
              exact ⟨ret_bool HF.out.symm, rfl⟩
            · have HF : Hid (lowers s.data.toList = lowers (s.data.toList.drop (k + 1))) := by show _ = _; rw [HR.out, lowers_at hlt, decide_eq_true (p := 97 ≤ s[k].toNat) (by omega), decide_eq_true (p := s[k].toNat ≤ 122) (by omega)]; rfl
              go_wp2
              go_round
              case rel => exact ⟨k + 1, by omega, by go_num, HF.out⟩
              case measure => simp [intOf]; omega
        · have HF : Hid (okName s = true) := by
            show _ = _; unfold okName; rw [HR.out, lowers_end hlt, decide_eq_true (p := 1 ≤ s.size) (by omega), decide_eq_true (p := s.size ≤ 6) (by omega)]; rfl
          go_wp2
          go_ret
          exact ⟨ret_bool HF.out.symm, rfl⟩

theorem closure_any (c : Cls) (s : ByteArray) (g : Nat) (w : World) (hg : w.cell? ⟨g, 0, none⟩ = some (.string s)) (hlt : g < w.heap.size) :
    Calls Try.prog 82 #[.agg #[.string c.name, .int .i64 c.parent], .pointer (some ⟨g, 0, none⟩)] w fun e w' => e = .returned (.bool (c.name.toList == s.toList)) ∧ Le w w' := by
  have hg' : (w.alloc (.cells #[.string c.name, .int .i64 c.parent] 90)).cell? ⟨g, 0, none⟩ = some (.string s) := ((Le.new w _).cell hlt).trans hg
  go_enter Try.func82, Try.ntmps82
  go_wp2
  go_ret
  exact ⟨rfl, Le.new w _⟩

theorem indexFunc_any (A : Option Addr) (n cap : Nat) (xs : List Cls) (s : ByteArray) (g : Nat) (w : World) (hR : Sl w A n cap xs) (hg : w.cell? ⟨g, 0, none⟩ = some (.string s)) (hgl : g < w.heap.size) :
    Calls Try.prog 81 #[.slice A n cap, .func (.func 82) #[] #[.pointer (some ⟨g, 0, none⟩)]] w fun e w' => e = .returned (.int .i64 (findN xs s 0)) ∧ Le w w' := by
  obtain rfl := hR.len
  have hm := hR.n_le
  go_enter Try.func81, Try.ntmps81
  go_wp2
  go_loopw [8] (fun i wr => ∃ k : Nat, k ≤ xs.length ∧ i = .int .i64 k ∧ findN xs s 0 = findN (xs.drop k) s k ∧ Le w wr) (fun i _ => xs.length - (intOf i).toNat)
  case atStart => exact ⟨0, Nat.zero_le _, rfl, rfl, Le.refl _⟩
  case round =>
    obtain ⟨k, hk, rfl, hr, hle⟩ := hrel
    have HR := Lib.hid hr; clear hr
    have hRr := hR.le hle
    have hgr := (hle.cell hgl).trans hg
    have hgz : g < wr.heap.size := Nat.lt_of_lt_of_le hgl hle.size
    clear hR hg
    by_cases hlt : k < xs.length
    · obtain ⟨b, off, rfl, _, hcell, hcell2, _, _, _⟩ := hRr.cls_at hlt
      by_cases he : xs[k].name = s
      · have he' := str_eq he
        have HF : Hid (findN xs s 0 = k) := by show _ = _; rw [HR.out, findN_at hlt, if_pos he]
        clear he
        go_wp2_with (go_at_call 82; refine (closure_any xs[k] s g _ hgr hgz).mono ?_; rintro e w' ⟨rfl, hw1⟩)
        go_ret
        exact ⟨ret_int HF.out.symm, hle.trans hw1⟩
      · have he' := str_ne he
        have HF : Hid (findN xs s 0 = findN (xs.drop (k + 1)) s ((k + 1 : Nat) : Int)) := by show _ = _; rw [HR.out, findN_at hlt, if_neg he]; rfl
        clear he
        go_wp2_with (go_at_call 82; refine (closure_any xs[k] s g _ hgr hgz).mono ?_; rintro e w' ⟨rfl, hw1⟩)
        go_roundw
        case rel => exact ⟨k + 1, by omega, by go_num, HF.out, hle.trans hw1⟩
        case measure => simp [intOf]; omega
    · have HF : Hid (findN xs s 0 = -1) := by show _ = _; rw [HR.out, findN_end hlt]
      go_wp2
      go_ret
      exact ⟨ret_int HF.out.symm, hle⟩

theorem indexOfName_any (A : Option Addr) (n cap : Nat) (xs : List Cls) (s : ByteArray) (w : World) (hR : Sl w A n cap xs) :
    Calls Try.prog 70 #[.slice A n cap, .string s] w fun e w' => e = .returned (.int .i64 (findN xs s 0)) ∧ Le w w' := by
  go_enter Try.func70, Try.ntmps70
  go_wp2_with fail
  refine (indexFunc_any A n cap xs s _ _ (hR.alloc _) (by simp) (by simp)).mono ?_
  rintro e w' ⟨rfl, hw1⟩
  go_wp2
  go_ret
  exact ⟨rfl, (Le.new w _).trans hw1⟩
end
end Go.Proofs.Ytpkkkpfanedieaa
