/- tables: PruneLines of the model -/
import Derived.Test.YtjldbpbamankfaaPgD
import Derived.Test.YtjldbpbamankfaaOneLin
namespace Go.Proofs.Ytjldbpbamankfaa
open Go.RowKit
theorem sjumps_any (k : Int) (w : World) : Calls Try.prog 91 #[.int .i64 k] w fun e w' => e = .returned (.bool (jmpK k)) ∧ w = w' := by
  have HR : Hid (jmpK k = rng 2 6 k) := rfl
  generalize jmpK k = R at *
  go_enter Try.func91, Try.ntmps91
  go_wp2_with fail
  refine (rng_any k 2 6 w).mono ?_
  rintro e w' ⟨rfl, rfl⟩
  go_wp2
  go_ret
  exact ⟨ret_bool HR.out.symm, rfl⟩
theorem bjGo_succ (p : List Lin) (d : Int) (k : Nat) : bjGo p d (k + 1) = if d ≤ dep p k then (if dep p k = d ∧ jmpK (knd p k) = true then true else bjGo p d k) else false := rfl
set_option maxHeartbeats 1000000 in
theorem behindJump_any (A : Option Addr) (n cap : Nat) (p : List Lin) (i : Nat) (hi : i < p.length) (hsm : p.length ≤ 1048576) (w : World) (hR : Sl w A n cap p) :
    Calls Try.prog 61 #[.slice A n cap, .int .i64 i] w fun e w' => e = .returned (.bool (bj p i)) ∧ Le w w' := by
  obtain rfl := hR.len
  have H0 : Hid (bj p i = bjGo p p[i].depth i) := by show _ = _; unfold bj; rw [dep_at hi]
  have hwi : IntKind.i64.wrap ((i : Int) - 1) = (i : Int) - 1 := IntWalk.i64_in _ (by omega)
  have hix : (0 : Int) ≤ (i : Int) := by omega
  have hin : (i : Int) < (p.length : Int) := by omega
  go_enter Try.func61, Try.ntmps61
  go_wp2
  go_loopw [5] (fun kk wr => ∃ k : Nat, k ≤ i ∧ kk = .int .i64 ((k : Int) - 1) ∧ bj p i = bjGo p p[i].depth k ∧ Le w wr) (fun kk _ => (intOf kk + 1).toNat)
  case atStart => exact ⟨i, Nat.le_refl _, rfl, H0.out, Le.refl _⟩
  case round =>
    obtain ⟨k, hk, rfl, he, hle⟩ := hrel
    have HE := Lib.hid he
    clear he H0
    have T := hR.le hle
    obtain ⟨b, off, rfl, hb, c0, -⟩ := T.lin_at hi
    generalize p[i].depth = di at *
    cases k with
    | zero =>
      have HF : Hid (bj p i = false) := by show _ = _; rw [HE.out]; rfl
      have hneg : ¬ (0 : Int) ≤ ((0 : Nat) : Int) - 1 := by omega
      have hnegb : decide ((0 : Int) ≤ ((0 : Nat) : Int) - 1) = false := decide_eq_false hneg
      go_wp2_with fail
      refine wp_region_ext (by kernel_rfl) (by kernel_rfl) ?_
      repeat (go_big_quiet_step (fail))
      refine wpQuiet_nil ?_
      intro _ hw'
      obtain ⟨gg, rfl⟩ := hw'
      have hw1 := Le.ext wr gg
      generalize wr.ext gg = W2 at *
      go_wp2
      go_ret
      exact ⟨ret_bool HF.out.symm, hle.trans hw1⟩
    | succ k =>
      have hkl : k < p.length := by omega
      obtain ⟨b2, off2, e2, hb2, d0, d1, -⟩ := T.lin_at hkl
      cases e2
      have HK := Lib.hid (knd_at hkl)
      have HD := Lib.hid (dep_at hkl)
      have HS : Hid (bjGo p di (k + 1) = if di ≤ dep p k then (if dep p k = di ∧ jmpK (knd p k) = true then true else bjGo p di k) else false) := rfl
      rw [HK.out, HD.out] at HS
      have hkk : (((k + 1 : Nat) : Int) - 1) = (k : Int) := by omega
      have hk0 : (0 : Int) ≤ (k : Int) := by omega
      have hkn : (k : Int) < (p.length : Int) := by omega
      have hk0b : decide ((0 : Int) ≤ (k : Int)) = true := decide_eq_true hk0
      have hwk : IntKind.i64.wrap ((k : Int) - 1) = (k : Int) - 1 := IntWalk.i64_in _ (by omega)
      rw [hkk]
      generalize p[k].depth = dk at *
      generalize p[k].kind = vk at *
      have F0 := cell_ext hb c0
      have D0 := cell_ext hb2 d0
      have D1 := cell_ext hb2 d1
      clear HK HD c0 d0 d1
      by_cases hd : di ≤ dk
      · have hdb : decide (di ≤ dk) = true := decide_eq_true hd
        by_cases he : dk = di
        · have heb : (dk == di) = true := by simpa using he
          have hc : ∀ U : World, Calls Try.prog 91 #[.int .i64 vk] U fun e w' => e = .returned (.bool (jmpK vk)) ∧ U = w' := fun U => sjumps_any vk U
          cases hj : jmpK vk
          · have HF : Hid (bj p i = bjGo p di k) := by show _ = _; rw [HE.out, HS.out, if_pos hd, if_neg (by rw [hj]; simp)]
            rw [hj] at hc
            clear HS HE he
            go_wp2_with fail
            refine wp_region_ext (by kernel_rfl) (by kernel_rfl) ?_
            repeat (go_big_quiet_step (fail))
            refine wpQuiet_nil ?_
            intro _ hw'
            obtain ⟨gg, rfl⟩ := hw'
            have hw1 := Le.ext wr gg
            generalize wr.ext gg = W2 at *
            have F0 := cell_ext (Nat.lt_of_lt_of_le hb hw1.size) ((hw1.cell hb).trans (F0 ⟨wr, Le.refl _⟩))
            have D0 := cell_ext (Nat.lt_of_lt_of_le hb2 hw1.size) ((hw1.cell hb2).trans (D0 ⟨wr, Le.refl _⟩))
            have D1 := cell_ext (Nat.lt_of_lt_of_le hb2 hw1.size) ((hw1.cell hb2).trans (D1 ⟨wr, Le.refl _⟩))
            go_wp2_with fail
            refine wp_region_ext (by kernel_rfl) (by kernel_rfl) ?_
            repeat (go_big_quiet_step (first | (go_at_call 91; exact Calls.ext_same (hc _))))
            refine wpQuiet_nil ?_
            intro _ hw'
            obtain ⟨gg, rfl⟩ := hw'
            have hw2 := Le.ext W2 gg
            generalize W2.ext gg = W3 at *
            go_wp2
            go_roundw
            case rel => exact ⟨k, by omega, by go_num, HF.out, hle.trans (hw1.trans hw2)⟩
            case measure => simp [intOf]
          · have HF : Hid (bj p i = true) := by show _ = _; rw [HE.out, HS.out, if_pos hd, if_pos ⟨he, hj⟩]
            rw [hj] at hc
            clear HS HE he
            go_wp2_with fail
            refine wp_region_ext (by kernel_rfl) (by kernel_rfl) ?_
            repeat (go_big_quiet_step (fail))
            refine wpQuiet_nil ?_
            intro _ hw'
            obtain ⟨gg, rfl⟩ := hw'
            have hw1 := Le.ext wr gg
            generalize wr.ext gg = W2 at *
            have F0 := cell_ext (Nat.lt_of_lt_of_le hb hw1.size) ((hw1.cell hb).trans (F0 ⟨wr, Le.refl _⟩))
            have D0 := cell_ext (Nat.lt_of_lt_of_le hb2 hw1.size) ((hw1.cell hb2).trans (D0 ⟨wr, Le.refl _⟩))
            have D1 := cell_ext (Nat.lt_of_lt_of_le hb2 hw1.size) ((hw1.cell hb2).trans (D1 ⟨wr, Le.refl _⟩))
            go_wp2_with fail
            refine wp_region_ext (by kernel_rfl) (by kernel_rfl) ?_
            repeat (go_big_quiet_step (first | (go_at_call 91; exact Calls.ext_same (hc _))))
            refine wpQuiet_nil ?_
            intro _ hw'
            obtain ⟨gg, rfl⟩ := hw'
            have hw2 := Le.ext W2 gg
            generalize W2.ext gg = W3 at *
            go_wp2
            go_ret
            exact ⟨ret_bool HF.out.symm, hle.trans (hw1.trans hw2)⟩
        · have heb : (dk == di) = false := bf he
          have HF : Hid (bj p i = bjGo p di k) := by show _ = _; rw [HE.out, HS.out, if_pos hd, if_neg (fun h => he h.1)]
          clear HS HE
          go_wp2_with fail
          refine wp_region_ext (by kernel_rfl) (by kernel_rfl) ?_
          repeat (go_big_quiet_step (fail))
          refine wpQuiet_nil ?_
          intro _ hw'
          obtain ⟨gg, rfl⟩ := hw'
          have hw1 := Le.ext wr gg
          generalize wr.ext gg = W2 at *
          have F0 := cell_ext (Nat.lt_of_lt_of_le hb hw1.size) ((hw1.cell hb).trans (F0 ⟨wr, Le.refl _⟩))
          have D0 := cell_ext (Nat.lt_of_lt_of_le hb2 hw1.size) ((hw1.cell hb2).trans (D0 ⟨wr, Le.refl _⟩))
          have D1 := cell_ext (Nat.lt_of_lt_of_le hb2 hw1.size) ((hw1.cell hb2).trans (D1 ⟨wr, Le.refl _⟩))
          go_wp2_with fail
          refine wp_region_ext (by kernel_rfl) (by kernel_rfl) ?_
          repeat (go_big_quiet_step (fail))
          refine wpQuiet_nil ?_
          intro _ hw'
          obtain ⟨gg, rfl⟩ := hw'
          have hw2 := Le.ext W2 gg
          generalize W2.ext gg = W3 at *
          go_wp2
          go_roundw
          case rel => exact ⟨k, by omega, by go_num, HF.out, hle.trans (hw1.trans hw2)⟩
          case measure => simp [intOf]
      · have hdb : decide (di ≤ dk) = false := decide_eq_false hd
        have HF : Hid (bj p i = false) := by show _ = _; rw [HE.out, HS.out, if_neg hd]
        clear HS HE
        go_wp2_with fail
        refine wp_region_ext (by kernel_rfl) (by kernel_rfl) ?_
        repeat (go_big_quiet_step (fail))
        refine wpQuiet_nil ?_
        intro _ hw'
        obtain ⟨gg, rfl⟩ := hw'
        have hw1 := Le.ext wr gg
        generalize wr.ext gg = W2 at *
        go_wp2
        go_ret
        exact ⟨ret_bool HF.out.symm, hle.trans hw1⟩
def pnX (xs : List Cls) (p : List Lin) : List Lin := cond (vp xs p) (prL p) []
theorem pnX_len (xs : List Cls) (p : List Lin) : (pnX xs p).length ≤ 1048576 := by
  unfold pnX
  cases h : vp xs p
  · simp
  · have h1 := (goodP_of h).len
    have h2 := prF_len p p.length 0
    show (prL p).length ≤ _
    unfold prL; omega
theorem prG_step {p : List Lin} {m i : Nat} (hi : i < p.length) : prG p (m + 1) i = if bj p i = true then prG p m (bEnd p i) else p[i] :: prG p m (i + 1) := by
  show (match p[i]? with | some x => _ | none => _) = _
  rw [List.getElem?_eq_getElem hi]
theorem prG_stop {p : List Lin} {m i : Nat} (hi : ¬ i < p.length) : prG p m i = [] := by
  cases m with
  | zero => rfl
  | succ m =>
    show (match p[i]? with | some x => _ | none => _) = _
    rw [List.getElem?_eq_none (by omega)]
set_option maxHeartbeats 1000000 in
set_option maxRecDepth 100000 in
theorem sPruneLines_any (B A : Option Addr) (m c n cap : Nat) (xs : List Cls) (p : List Lin) (hsm : p.length ≤ 1048576) (w : World) (hT : Sl w B m c xs) (hR : Sl w A n cap p) :
    Calls Try.prog 33 #[.agg #[.slice B m c], .slice A n cap] w fun e w' => ∃ v, e = .returned v ∧ Owd 52 w w' v (pnX xs p) ∧ Le w w' := by
  obtain ⟨i0, hq, hz0, hz1, hz2⟩ := info_parts infoLn
  have HX : Hid (pnX xs p = cond (vp xs p) (prL p) []) := rfl
  go_enter Try.func33, Try.ntmps33
  go_wp2_with fail
  obtain ⟨ct, zt, hleB⟩ := box1 w (.slice B m c) 32
  have L0 := hleB
  clear hleB
  generalize w.alloc (.cells #[.slice B m c] 32) = W at *
  refine (svalidProgram_any B A m c n cap xs p hsm _ (hT.le L0) (hR.le L0)).mono ?_
  rintro e w1 ⟨rfl, hle⟩
  have L1 := L0.trans hle
  cases h : vp xs p
  · have HO : Hid (Owd 52 w w1 (.slice none 0 0) (pnX xs p)) := by show Owd _ _ _ _ _; rw [HX.out, h]; exact Owd.nil _ _ _
    go_wp2
    go_ret
    exact ⟨_, rfl, HO.out, L1⟩
  · have g := goodP_of h
    have hp := g.len
    have HY : Hid (pnX xs p = prL p) := by show _ = _; rw [HX.out, h]; rfl
    have HM := Lib.hid (prL_model g)
    have HOK : Hid (∀ x ∈ prL p, Enc.ok x) := prF_ok hR.ok p.length 0
    have HLN : Hid ((prL p).length ≤ p.length) := prF_len p p.length 0
    obtain rfl := hR.len
    have HRO := Lib.hid hR.ok
    have S1 := hR.le L1
    have OE : (w1.alloc (.cells #[] 52)).ownsRow w1.heap.size 52 4 (.slice (some ⟨w1.heap.size, 0, none⟩) 0 0) 0 [] := own_empty (Nat.le_refl _) rfl
    have LE := Le.new w1 (.cells #[] 52)
    clear HX h g hT hR hle
    go_wp2
    go_loopw [5, 6] (fun v q wr => ∃ (k m : Nat) (out : List Lin), k ≤ p.length ∧ q = .int .i64 k ∧ p.length ≤ m + k ∧ prL p = out ++ prG p m k ∧ wr.ownsRow w1.heap.size 52 4 v out.length (out.flatMap Enc.cells) ∧ Le w1 wr) (fun _ q _ => p.length - (intOf q).toNat)
    case atStart => exact ⟨0, p.length, [], Nat.zero_le _, rfl, by omega, HM.out.symm, OE, LE⟩
    case round =>
      obtain ⟨k, m, out, hk, rfl, hm, he, O1, L⟩ := hrel
      have HE := Lib.hid he
      have hol : out.length ≤ p.length := by have := HLN.out; rw [he, List.length_append] at this; omega
      have T := S1.le L
      have hLs := L.size
      clear he OE LE HM
      by_cases hlt : k < p.length
      · obtain ⟨m', rfl⟩ : ∃ m', m = m' + 1 := ⟨m - 1, by omega⟩
        have HS := Lib.hid (prG_step (m := m') hlt)
        have hbl := bEnd_le hlt
        have hbg := bEnd_gt p k
        have hokx := HRO.out _ (List.getElem_mem hlt)
        have hk0 : (0 : Int) ≤ (k : Int) := by omega
        have hkn : (k : Int) < (p.length : Int) := by omega
        go_wp2_with fail
        refine (behindJump_any _ p.length cap p k hlt (by omega) wr T).mono ?_
        rintro e w2 ⟨rfl, hle2⟩
        have O2 := own_le O1 hle2
        have L2 := L.trans hle2
        have T2 := T.le hle2
        clear O1 L T
        cases hb : bj p k
        · have HN : Hid (prL p = (out ++ [p[k]]) ++ prG p m' (k + 1)) := by show _ = _; rw [HE.out, HS.out, if_neg (by rw [hb]; simp), List.append_assoc]; rfl
          obtain ⟨b, off, rfl, hbz, d0, d1, d2, d3, -⟩ := T2.lin_at hlt
          have HPK : Hid (p[k] = ⟨p[k].depth, p[k].kind, p[k].a, p[k].b⟩) := rfl
          rw [HPK.out] at hokx HN
          generalize p[k].depth = vd at *
          generalize p[k].kind = vk at *
          generalize p[k].a = va at *
          generalize p[k].b = vb at *
          clear HE HS hb HPK
          go_wp2_with (at_builtin; refine wpList_append_sl rfl _ _ 34 rfl w1.heap.size 52 i0 _ 32 Try.underlying34 hq hz0 hz1 hz2 rfl _ out.length out rfl (O2.alloc _) _ 1 1 [(⟨vd, vk, va, vb⟩ : Lin)] rfl (sl_one (⟨vd, vk, va, vb⟩ : Lin) rfl hokx rfl) (by unfold maxLen; omega) (by omega) (L2.alloc _).size ?_; intro v5 w5 O5 hg5 _; have L5 := (L2.alloc _).grown hg5 (fun k hk => (O2.lt k hk).1); clear hg5)
          go_roundw
          case rel => exact ⟨k + 1, m', out ++ [(⟨vd, vk, va, vb⟩ : Lin)], by omega, by go_num, by omega, HN.out, by rw [List.length_append]; exact O5, L5⟩
          case measure => simp [intOf]; omega
        · have HN : Hid (prL p = out ++ prG p m' (bEnd p k)) := by show _ = _; rw [HE.out, HS.out, if_pos hb]
          clear HE HS hb
          generalize wr = W0 at *
          go_wp2_with fail
          refine (sBlockEnd_any _ p.length cap p k hlt w2 T2).mono ?_
          rintro e w3 ⟨rfl, hle3⟩
          go_wp2
          go_roundw
          case rel => exact ⟨bEnd p k, m', out, hbl, rfl, by omega, HN.out, own_le O2 hle3, L2.trans hle3⟩
          case measure => simp [intOf]; omega
      · have HF : Hid (∀ v, wr.ownsRow w1.heap.size 52 4 v out.length (out.flatMap Enc.cells) → Owd 52 w wr v (pnX xs p)) := fun v hv => by
          have e : prL p = out := by rw [HE.out, prG_stop hlt, List.append_nil]
          have h2 := HOK.out
          rw [HY.out]
          rw [e] at h2 ⊢
          exact ⟨own_mono hv L1.size, h2⟩
        go_wp2
        go_ret
        exact ⟨_, rfl, HF.out _ O1, L1.trans L⟩
end Go.Proofs.Ytjldbpbamankfaa
