/- tables: PruneLines of the model -/
import Derived.Test.YtldnjihakkekkaaPgD
import Derived.Test.YtldnjihakkekkaaOneLin
namespace Go.Proofs.Ytldnjihakkekkaa
open Go.RowKit
theorem sjumps_any (k : Int) (w : World) : Calls Try.prog 42 #[.int .i64 k] w fun e w' => e = .returned (.bool (jmpK k)) ∧ w = w' := by
  have HR : Hid (jmpK k = rng 2 6 k) := rfl
  generalize jmpK k = R at *
  go_enter Try.func42, Try.ntmps42
  go_wp2_with fail
  refine (rng_any k 2 6 w).mono ?_
  rintro e w' ⟨rfl, rfl⟩
  go_wp2
  go_ret
  exact ⟨ret_bool HR.out.symm, rfl⟩
theorem bjGo_succ (p : List Lin) (d : Int) (k : Nat) : bjGo p d (k + 1) = if d ≤ dep p k then (if dep p k = d ∧ jmpK (knd p k) = true then true else bjGo p d k) else false := rfl
set_option maxHeartbeats 1000000 in
theorem behindJump_any (A : Option Addr) (n cap : Nat) (p : List Lin) (i : Nat) (hi : i < p.length) (hsm : p.length ≤ 1048576) (w : World) (hR : Sl w A n cap p) :
    Calls Try.prog 30 #[.slice A n cap, .int .i64 i] w fun e w' => e = .returned (.bool (bj p i)) ∧ Le w w' := by
  obtain rfl := hR.len
  have H0 : Hid (bj p i = bjGo p p[i].depth i) := by show _ = _; unfold bj; rw [dep_at hi]
  have hwi : IntKind.i64.wrap ((i : Int) - 1) = (i : Int) - 1 := IntWalk.i64_in _ (by omega)
  have hix : (0 : Int) ≤ (i : Int) := by omega
  have hin : (i : Int) < (p.length : Int) := by omega
  go_enter Try.func30, Try.ntmps30
  go_wp2
  go_loopw [5] (fun kk wr => ∃ k : Nat, k ≤ i ∧ kk = .int .i64 ((k : Int) - 1) ∧ bj p i = bjGo p p[i].depth k ∧ Le w wr) (fun kk _ => (intOf kk + 1).toNat)
  case atStart => exact ⟨i, Nat.le_refl _, rfl, H0.out, Le.refl _⟩
  case round =>
    obtain ⟨k, hk, rfl, he, hle⟩ := hrel
    have HE := Lib.hid he
    clear he H0
    have T := hR.le hle
    obtain ⟨b, off, rfl, hb, c0, -⟩ := T.lin_at hi
    generalize p[i].depth = di at *
    cases k with
    | zero =>
      have HF : Hid (bj p i = false) := by show _ = _; rw [HE.out]; rfl
      have hneg : ¬ (0 : Int) ≤ ((0 : Nat) : Int) - 1 := by omega
      have hnegb : decide ((0 : Int) ≤ ((0 : Nat) : Int) - 1) = false := decide_eq_false hneg
      go_wp2_with fail
      refine wp_region_ext (by kernel_rfl) (by kernel_rfl) ?_
      repeat (go_big_quiet_step (fail))
      refine wpQuiet_nil ?_
      intro _ hw'
      obtain ⟨gg, rfl⟩ := hw'
      have hw1 := Le.ext wr gg
      generalize wr.ext gg = W2 at *
      go_wp2
      go_ret
      exact ⟨ret_bool HF.out.symm, hle.trans hw1⟩
    | succ k =>
      have hkl : k < p.length := by omega
      obtain ⟨b2, off2, e2, hb2, d0, d1, -⟩ := T.lin_at hkl
      cases e2
      have HK := Lib.hid (knd_at hkl)
      have HD := Lib.hid (dep_at hkl)
      have HS : Hid (bjGo p di (k + 1) = if di ≤ dep p k then (if dep p k = di ∧ jmpK (knd p k) = true then true else bjGo p di k) else false) := rfl
      rw [HK.out, HD.out] at HS
      have hkk : (((k + 1 : Nat) : Int) - 1) = (k : Int) := by omega
      have hk0 : (0 : Int) ≤ (k : Int) := by omega
      have hkn : (k : Int) < (p.length : Int) := by omega
      have hk0b : decide ((0 : Int) ≤ (k : Int)) = true := decide_eq_true hk0
      have hwk : IntKind.i64.wrap ((k : Int) - 1) = (k : Int) - 1 := IntWalk.i64_in _ (by omega)
      rw [hkk]
      generalize p[k].depth = dk at *
      generalize p[k].kind = vk at *
      have F0 := cell_ext hb c0
      have D0 := cell_ext hb2 d0
      have D1 := cell_ext hb2 d1
      clear HK HD c0 d0 d1
      by_cases hd : di ≤ dk
      · have hdb : decide (di ≤ dk) = true := decide_eq_true hd
        by_cases he : dk = di
        · have heb : (dk == di) = true := by simpa using he
          have hc : ∀ U : World, Calls Try.prog 42 #[.int .i64 vk] U fun e w' => e = .returned (.bool (jmpK vk)) ∧ U = w' := fun U => sjumps_any vk U
          cases hj : jmpK vk
          · have HF : Hid (bj p i = bjGo p di k) := by show _ = _; rw [HE.out, HS.out, if_pos hd, if_neg (by rw [hj]; simp)]
            rw [hj] at hc
            clear HS HE he
            go_wp2_with fail
            refine wp_region_ext (by kernel_rfl) (by kernel_rfl) ?_
            repeat (go_big_quiet_step (fail))
            refine wpQuiet_nil ?_
            intro _ hw'
            obtain ⟨gg, rfl⟩ := hw'
            have hw1 := Le.ext wr gg
            generalize wr.ext gg = W2 at *
            have F0 := cell_ext (Nat.lt_of_lt_of_le hb hw1.size) ((hw1.cell hb).trans (F0 ⟨wr, Le.refl _⟩))
            have D0 := cell_ext (Nat.lt_of_lt_of_le hb2 hw1.size) ((hw1.cell hb2).trans (D0 ⟨wr, Le.refl _⟩))
            have D1 := cell_ext (Nat.lt_of_lt_of_le hb2 hw1.size) ((hw1.cell hb2).trans (D1 ⟨wr, Le.refl _⟩))
            go_wp2_with fail
            refine wp_region_ext (by kernel_rfl) (by kernel_rfl) ?_
            repeat (go_big_quiet_step (first | (go_at_call 42; exact Calls.ext_same (hc _))))
            refine wpQuiet_nil ?_
            intro _ hw'
            obtain ⟨gg, rfl⟩ := hw'
            have hw2 := Le.ext W2 gg
            generalize W2.ext gg = W3 at *
            go_wp2
            go_roundw
            case rel => exact ⟨k, by omega, by go_num, HF.out, hle.trans (hw1.trans hw2)⟩
            case measure => simp [intOf]
          · have HF : Hid (bj p i = true) := by show _ = _; rw [HE.out, HS.out, if_pos hd, if_pos ⟨he, hj⟩]
            rw [hj] at hc
            clear HS HE he
            go_wp2_with fail
            refine wp_region_ext (by kernel_rfl) (by kernel_rfl) ?_
            repeat (go_big_quiet_step (fail))
            refine wpQuiet_nil ?_
            intro _ hw'
            obtain ⟨gg, rfl⟩ := hw'
            have hw1 := Le.ext wr gg
            generalize wr.ext gg = W2 at *
            have F0 := cell_ext (Nat.lt_of_lt_of_le hb hw1.size) ((hw1.cell hb).trans (F0 ⟨wr, Le.refl _⟩))
            have D0 := cell_ext (Nat.lt_of_lt_of_le hb2 hw1.size) ((hw1.cell hb2).trans (D0 ⟨wr, Le.refl _⟩))
            have D1 := cell_ext (Nat.lt_of_lt_of_le hb2 hw1.size) ((hw1.cell hb2).trans (D1 ⟨wr, Le.refl _⟩))
            go_wp2_with fail
            refine wp_region_ext (by kernel_rfl) (by kernel_rfl) ?_
            repeat (go_big_quiet_step (first | (go_at_call 42; exact Calls.ext_same (hc _))))
            refine wpQuiet_nil ?_
            intro _ hw'
            obtain ⟨gg, rfl⟩ := hw'
            have hw2 := Le.ext W2 gg
            generalize W2.ext gg = W3 at *
            go_wp2
            go_ret
            exact ⟨ret_bool HF.out.symm, hle.trans (hw1.trans hw2)⟩
        · have heb : (dk == di) = false := bf he
          have HF : Hid (bj p i = bjGo p di k) := by show _ = _; rw [HE.out, HS.out, if_pos hd, if_neg (fun h => he h.1)]
          clear HS HE
          go_wp2_with fail
          refine wp_region_ext (by kernel_rfl) (by kernel_rfl) ?_
          repeat (go_big_quiet_step (fail))
          refine wpQuiet_nil ?_
          intro _ hw'
          obtain ⟨gg, rfl⟩ := hw'
          have hw1 := Le.ext wr gg
          generalize wr.ext gg = W2 at *
          have F0 := cell_ext (Nat.lt_of_lt_of_le hb hw1.size) ((hw1.cell hb).trans (F0 ⟨wr, Le.refl _⟩))
          have D0 := cell_ext (Nat.lt_of_lt_of_le hb2 hw1.size) ((hw1.cell hb2).trans (D0 ⟨wr, Le.refl _⟩))
          have D1 := cell_ext (Nat.lt_of_lt_of_le hb2 hw1.size) ((hw1.cell hb2).trans (D1 ⟨wr, Le.refl _⟩))
          go_wp2_with fail
          refine wp_region_ext (by kernel_rfl) (by kernel_rfl) ?_
          repeat (go_big_quiet_step (fail))
          refine wpQuiet_nil ?_
          intro _ hw'
          obtain ⟨gg, rfl⟩ := hw'
          have hw2 := Le.ext W2 gg
          generalize W2.ext gg = W3 at *
          go_wp2
          go_roundw
          case rel => exact ⟨k, by omega, by go_num, HF.out, hle.trans (hw1.trans hw2)⟩
          case measure => simp [intOf]
      · have hdb : decide (di ≤ dk) = false := decide_eq_false hd
        have HF : Hid (bj p i = false) := by show _ = _; rw [HE.out, HS.out, if_neg hd]
        clear HS HE
        go_wp2_with fail
        refine wp_region_ext (by kernel_rfl) (by kernel_rfl) ?_
        repeat (go_big_quiet_step (fail))
        refine wpQuiet_nil ?_
        intro _ hw'
        obtain ⟨gg, rfl⟩ := hw'
        have hw1 := Le.ext wr gg
        generalize wr.ext gg = W2 at *
        go_wp2
        go_ret
        exact ⟨ret_bool HF.out.symm, hle.trans hw1⟩
def pnX (xs : List Cls) (p : List Lin) : List Lin := cond (vp xs p) (prL p) []
theorem pnX_len (xs : List Cls) (p : List Lin) : (pnX xs p).length ≤ 1048576 := by
  unfold pnX
  cases h : vp xs p
  · simp
  · have h1 := (goodP_of h).len
    have h2 := prF_len p p.length 0
    show (prL p).length ≤ _
    unfold prL; omega
theorem prG_step {p : List Lin} {m i : Nat} (hi : i < p.length) : prG p (m + 1) i = if bj p i = true then prG p m (bEnd p i) else p[i] :: prG p m (i + 1) := by
  show (match p[i]? with | some x => _ | none => _) = _
  rw [List.getElem?_eq_getElem hi]
theorem prG_stop {p : List Lin} {m i : Nat} (hi : ¬ i < p.length) : prG p m i = [] := by
  cases m with
  | zero => rfl
  | succ m =>
    show (match p[i]? with | some x => _ | none => _) = _
    rw [List.getElem?_eq_none (by omega)]
end Go.Proofs.Ytldnjihakkekkaa
