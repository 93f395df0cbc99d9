/- tables: behindJumps, PruneLines of the program -/
import Derived.Test.YtldnjihakkekkaaPhPr
import Derived.Test.YtldnjihakkekkaaPhN
namespace Go.Proofs.Ytldnjihakkekkaa
open Go.RowKit
theorem ijumps_any (k : Int) (w : World) : Calls Try.prog 26 #[.int .i64 k] w fun e w' => e = .returned (.bool (jmpK k)) ∧ w = w' := by
  by_cases h : 2 ≤ k ∧ k ≤ 6
  · have HR : Hid (jmpK k = true) := jmpK_iff.2 h
    have h5 : k = 2 ∨ k = 3 ∨ k = 4 ∨ k = 5 ∨ k = 6 := by omega
    clear h
    rcases h5 with rfl | rfl | rfl | rfl | rfl
    all_goals
      go_enter Try.func26, Try.ntmps26
      go_wp2
      go_ret
      exact ⟨ret_bool HR.out.symm, rfl⟩
  · have HR : Hid (jmpK k = false) := by
      show _ = _
      cases e : jmpK k
      · rfl
      · exact absurd (jmpK_iff.1 e) h
    have b2 : (k == 2) = false := bf (by omega)
    have b3 : (k == 3) = false := bf (by omega)
    have b4 : (k == 4) = false := bf (by omega)
    have b5 : (k == 5) = false := bf (by omega)
    have b6 : (k == 6) = false := bf (by omega)
    clear h
    go_enter Try.func26, Try.ntmps26
    go_wp2
    go_ret
    exact ⟨ret_bool HR.out.symm, rfl⟩
/-- marks from one up to that ahead of another one -/
def mkR (M : List Bool) (f t : Nat) : List Bool := M.mapIdx fun x b => b || (decide (f ≤ x) && decide (x < t))
theorem mkR_len (M : List Bool) (f t : Nat) : (mkR M f t).length = M.length := by simp [mkR]
theorem mkR_at {M : List Bool} {f t x : Nat} (h : x < (mkR M f t).length) : (mkR M f t)[x] = (M[x]'(by rw [mkR_len] at h; exact h) || (decide (f ≤ x) && decide (x < t))) := by simp [mkR]
theorem mkR_0 (M : List Bool) (f t : Nat) (h : t ≤ f) : mkR M f t = M := by
  refine List.ext_getElem (mkR_len M f t) fun x h1 h2 => ?_
  rw [mkR_at h1]
  have : (decide (f ≤ x) && decide (x < t)) = false := by
    rw [Bool.and_eq_false_iff, decide_eq_false_iff_not, decide_eq_false_iff_not]; omega
  rw [this, Bool.or_false]
theorem mkR_succ {M : List Bool} {f t : Nat} (h : f ≤ t) : mkR M f (t + 1) = (mkR M f t).set t true := by
  refine List.ext_getElem (by rw [List.length_set, mkR_len, mkR_len]) fun x h1 h2 => ?_
  rw [List.getElem_set, mkR_at h1]
  by_cases e : t = x
  · rw [if_pos e, Bool.or_eq_true]
    exact .inr (by rw [Bool.and_eq_true, decide_eq_true_eq, decide_eq_true_eq]; omega)
  · rw [if_neg e, mkR_at]
    congr 1
    rw [Bool.eq_iff_iff, Bool.and_eq_true, Bool.and_eq_true, decide_eq_true_eq, decide_eq_true_eq, decide_eq_true_eq]
    omega
set_option maxHeartbeats 1000000 in
theorem mark_any (g n c base : Nat) (M : List Bool) (f t : Nat) (hM : M.length = n) (ht : t ≤ n) (hn : n ≤ 1048576) (_hf : f ≤ n) (w : World) (O : w.ownsRow base 4 1 (.slice (some ⟨g, 0, none⟩) n c) n (M.flatMap Enc.cells)) :
    Calls Try.prog 35 #[.slice (some ⟨g, 0, none⟩) n c, .int .i64 f, .int .i64 t] w fun e w' => e = .returned (.tuple #[]) ∧ w'.ownsRow base 4 1 (.slice (some ⟨g, 0, none⟩) n c) n ((mkR M f t).flatMap Enc.cells) ∧ w.grownBy w' (some g) := by
  go_enter Try.func35, Try.ntmps35
  go_wp2
  have HM0 := mkR_0 M f f (Nat.le_refl _)
  have O0 : w.ownsRow base 4 1 (.slice (some ⟨g, 0, none⟩) n c) n ((mkR M f f).flatMap Enc.cells) := by rw [HM0]; exact O
  clear HM0
  go_loopw [6] (fun q wr => ∃ k : Nat, f ≤ k ∧ (k ≤ t ∨ k = f) ∧ q = .int .i64 k ∧ wr.ownsRow base 4 1 (.slice (some ⟨g, 0, none⟩) n c) n ((mkR M f k).flatMap Enc.cells) ∧ w.grownBy wr (some g)) (fun q _ => t - (intOf q).toNat)
  case atStart => exact ⟨f, Nat.le_refl _, .inr rfl, rfl, O0, World.grownBy.refl w _⟩
  case round =>
    obtain ⟨k, hfk, hkt, rfl, O1, hg1⟩ := hrel
    clear O0 O
    by_cases hlt : k < t
    · have HS := Lib.hid (mkR_succ (M := M) hfk)
      have hml := mkR_len M f k
      obtain ⟨bx, r5⟩ : ∃ bx, wr.cell? ⟨g, k, none⟩ = some (.bool bx) := ⟨_, cell_bool O1 (k := k) (by omega) (by omega)⟩
      have f5 := O1.frozenAt k
      have HO := Lib.hid ((O1.stored k (.bool true)).1)
      rw [flat_bool _ _ (by omega)] at HO
      have hk0 : (0 : Int) ≤ (k : Int) := by omega
      have hkn : (k : Int) < (n : Int) := by omega
      go_wp2
      go_roundw
      case rel => exact ⟨k + 1, by omega, .inl (by omega), by go_num, by rw [HS.out]; exact HO.out, gx_set hg1 _⟩
      case measure => simp [intOf]; omega
    · have HE : Hid (mkR M f k = mkR M f t) := by
        show _ = _
        rcases hkt with h | h
        · rw [show k = t by omega]
        · rw [h, mkR_0 M f f (Nat.le_refl _), mkR_0 M f t (by omega)]
      go_wp2
      (first | go_end0 | refine bodyPost_ret (results_none rfl _ _ _) rfl ?_)
      exact ⟨rfl, by rw [← HE.out]; exact O1, hg1⟩
theorem jGo_step (p : List Lin) (d : Int) {k : Nat} (h : k < p.length) : jGo p d (p.length - k) k = if d ≤ dep p k then jGo p d (p.length - (k + 1)) (k + 1) else k := by
  obtain ⟨m, hm⟩ : ∃ m, p.length - k = m + 1 := ⟨p.length - k - 1, by omega⟩
  rw [hm, show p.length - (k + 1) = m by omega]
  rfl
theorem jGo_end (p : List Lin) (d : Int) {k : Nat} (h : ¬ k < p.length) : jGo p d (p.length - k) k = k := by
  rw [show p.length - k = 0 by omega]; rfl
def mjL (p : List Lin) (k : Nat) : List Bool := (List.range p.length).map (mkJ p k)
theorem mjL_len (p : List Lin) (k : Nat) : (mjL p k).length = p.length := by simp [mjL]
theorem mjL_at {p : List Lin} {k x : Nat} (h : x < (mjL p k).length) : (mjL p k)[x] = mkJ p k x := by simp [mjL]
theorem mjL_0 (p : List Lin) : mjL p 0 = List.replicate p.length false := by
  refine List.ext_getElem (by simp [mjL]) fun x h1 h2 => ?_
  rw [mjL_at]; simp [mkJ]
theorem mkJ_succ (p : List Lin) (k x : Nat) : mkJ p (k + 1) x = (mkJ p k x || jIn p k x) := by
  unfold mkJ; rw [List.range_succ, List.any_append]; simp
theorem mjL_yes {p : List Lin} {k : Nat} (h : jmpK (knd p k) = true) : mjL p (k + 1) = mkR (mjL p k) (k + 1) (jEnd p k) := by
  refine List.ext_getElem (by rw [mkR_len, mjL_len, mjL_len]) fun x h1 h2 => ?_
  rw [mjL_at, mkR_at, mjL_at, mkJ_succ]
  unfold jIn
  rw [h, Bool.true_and]
  rfl
theorem mjL_no {p : List Lin} {k : Nat} (h : jmpK (knd p k) = false) : mjL p (k + 1) = mjL p k := by
  refine List.ext_getElem (by rw [mjL_len, mjL_len]) fun x h1 h2 => ?_
  rw [mjL_at, mjL_at, mkJ_succ]
  unfold jIn
  rw [h]; simp
set_option maxHeartbeats 2000000 in
set_option maxRecDepth 100000 in
theorem behindJumps_any (A : Option Addr) (n cap : Nat) (p : List Lin) (hsm : p.length ≤ 1048576) (w : World) (hR : Sl w A n cap p) :
    Calls Try.prog 34 #[.slice A n cap] w fun e w' => e = .returned (.slice (some ⟨w.heap.size, 0, none⟩) n n) ∧ w'.ownsRow w.heap.size 4 1 (.slice (some ⟨w.heap.size, 0, none⟩) n n) n ((mjL p p.length).flatMap Enc.cells) ∧ Le w w' := by
  obtain rfl := hR.len
  obtain ⟨j0, hj, hy0, hy1, hy2⟩ := info_parts boolInfo
  have hb2 : j0.bytes * p.length ≤ 281474976710656 := by rw [hy2]; omega
  go_enter Try.func34, Try.ntmps34
  go_wp2_with (refine wpList_make_full _ rfl _ _ 59 rfl w.heap.size 4 j0 _ 1 Try.underlying59 hj hy0 hy1 .i64 .i64 _ _ p.length rfl rfl rfl rfl hb2 (by unfold maxLen; omega) (by simp) ?_; intro w1 OF hg1; rw [made_bools] at OF; have L1 := (Le.refl w).grown hg1 (by intro k hk; cases hk); clear hg1)
  rw [← mjL_0] at OF
  go_loopw [4, 5, 6, 12] (fun _ _ _ q wr => ∃ k : Nat, k ≤ p.length ∧ q = .int .i64 k ∧ wr.ownsRow w.heap.size 4 1 (.slice (some ⟨w.heap.size, 0, none⟩) p.length p.length) p.length ((mjL p k).flatMap Enc.cells) ∧ Le w wr) (fun _ _ _ q _ => p.length - (intOf q).toNat)
  case atStart => exact ⟨0, Nat.zero_le _, rfl, OF, L1⟩
  case round =>
    obtain ⟨k, hk, rfl, O1, L⟩ := hrel
    clear OF L1
    have T := hR.le L
    by_cases hlt : k < p.length
    · obtain ⟨b, off, rfl, hb, d0, d1, d2, d3, -⟩ := T.lin_at hlt
      have HK := Lib.hid (knd_at hlt)
      have HD := Lib.hid (dep_at hlt)
      have HY := Lib.hid (mjL_yes (p := p) (k := k))
      have HN := Lib.hid (mjL_no (p := p) (k := k))
      have hjl := jEnd_le hlt
      have hjg := jEnd_gt p k
      have HJ : Hid (jEnd p k = jGo p (dep p k) (p.length - (k + 1)) (k + 1)) := rfl
      rw [HD.out] at HJ
      have hk0 : (0 : Int) ≤ (k : Int) := by omega
      have hkn : (k : Int) < (p.length : Int) := by omega
      have hml := mjL_len p k
      have hgz := (O1.lt w.heap.size rfl).2
      generalize p[k].depth = vd at *
      generalize p[k].kind = vk at *
      generalize p[k].a = va at *
      generalize p[k].b = vb at *
      obtain ⟨x0, x1, z0, hle2⟩ := box4 wr (.int .i64 vd) (.int .i64 vk) (.int .i64 va) (.int .i64 vb) 49
      have O2 := own_le O1 hle2
      have L2 := L.trans hle2
      have T2 := T.le hle2
      go_wp2_with fail
      refine (ijumps_any vk _).mono ?_
      rintro e w2 ⟨rfl, rfl⟩
      cases hjk : jmpK vk
      · have HF : Hid (mjL p (k + 1) = mjL p k) := HN.out (by rw [HK.out]; exact hjk)
        clear HY HN
        go_wp2
        go_roundw
        case rel => exact ⟨k + 1, by omega, by go_num, by rw [HF.out]; exact O2, L2⟩
        case measure => simp [intOf]; omega
      · have HF : Hid (mjL p (k + 1) = mkR (mjL p k) (k + 1) (jEnd p k)) := HY.out (by rw [HK.out]; exact hjk)
        clear HY HN hjk
        generalize mjL p k = M at *
        generalize hXx : wr.heap.size = X at *
        generalize wr.alloc (.cells #[.int .i64 vd, .int .i64 vk, .int .i64 va, .int .i64 vb] 49) = W0 at *
        have hwk1 : IntKind.i64.wrap ((k : Int) + 1) = (k : Int) + 1 := IntWalk.i64_in _ (by omega)
        clear hXx O1 T
        go_wp2
        go_loopw [6] (fun q wz => ∃ r : Nat, k < r ∧ r ≤ p.length ∧ q = .int .i64 r ∧ jEnd p k = jGo p vd (p.length - r) r ∧ Le W0 wz) (fun q _ => p.length - (intOf q).toNat)
        case atStart => exact ⟨k + 1, by omega, by omega, by go_num, HJ.out, Le.refl _⟩
        case round =>
          obtain ⟨r, hkr, hr, rfl, he, hle3⟩ := hrel
          have HE := Lib.hid he; clear he HJ
          have T3 := T2.le hle3
          have c0 := (hle3.cell z0).trans x0
          have z3 := Nat.lt_of_lt_of_le z0 hle3.size
          have F0 := cell_ext z3 c0
          have hr0 : (0 : Int) ≤ (r : Int) := by omega
          by_cases hlr : r < p.length
          · obtain ⟨b7, off7, e7, hb7, f0, -⟩ := T3.lin_at hlr
            cases e7
            have HD7 := Lib.hid (dep_at hlr)
            have HST := Lib.hid (jGo_step p vd hlr)
            rw [HD7.out] at HST
            have G0 := cell_ext hb7 f0
            generalize p[r].depth = rd at *
            have hrn : (r : Int) < (p.length : Int) := by omega
            by_cases hd : vd ≤ rd
            · have hdb : decide (vd ≤ rd) = true := decide_eq_true hd
              have HF2 : Hid (jEnd p k = jGo p vd (p.length - (r + 1)) (r + 1)) := by show _ = _; rw [HE.out, HST.out, if_pos hd]
              clear f0 c0 HE HST
              go_wp2_with fail
              refine wp_region_ext (by kernel_rfl) (by kernel_rfl) ?_
              repeat (go_big_quiet_step (fail))
              refine wpQuiet_nil ?_
              intro _ hw'
              obtain ⟨gg, rfl⟩ := hw'
              have hw1 := Le.ext wr gg
              generalize wr.ext gg = W2 at *
              go_wp2
              go_roundw
              case rel => exact ⟨r + 1, by omega, by omega, by go_num, HF2.out, hle3.trans hw1⟩
              case measure => simp [intOf]; omega
            · have hdb : decide (vd ≤ rd) = false := decide_eq_false hd
              have HF2 : Hid (jEnd p k = r) := by show _ = _; rw [HE.out, HST.out, if_neg hd]
              clear f0 c0 HE HST
              go_wp2_with fail
              refine wp_region_ext (by kernel_rfl) (by kernel_rfl) ?_
              repeat (go_big_quiet_step (fail))
              refine wpQuiet_nil ?_
              intro _ hw'
              obtain ⟨gg, rfl⟩ := hw'
              have hw1 := Le.ext wr gg
              generalize wr.ext gg = W2 at *
              have O5 := own_le O2 (hle3.trans hw1)
              have L5 := L2.trans (hle3.trans hw1)
              rw [HF2.out] at HF hjl hjg
              go_wp2_with fail
              refine (mark_any w.heap.size p.length p.length w.heap.size M (k + 1) r hml hjl hsm (by omega) W2 O5).mono ?_
              rintro e w6 ⟨rfl, O6, hg6⟩
              have L6 := L5.grown hg6 (fun i hi => by injection hi with hi; omega)
              go_wp2
              go_roundw
              case rel => exact ⟨k + 1, by omega, by go_num, by rw [HF.out]; exact O6, L6⟩
              case measure => simp [intOf]; omega
          · have hrn : ¬ (r : Int) < (p.length : Int) := by omega
            have HF2 : Hid (jEnd p k = r) := by show _ = _; rw [HE.out, jGo_end p vd hlr]
            clear c0 HE
            go_wp2_with fail
            refine wp_region_ext (by kernel_rfl) (by kernel_rfl) ?_
            repeat (go_big_quiet_step (fail))
            refine wpQuiet_nil ?_
            intro _ hw'
            obtain ⟨gg, rfl⟩ := hw'
            have hw1 := Le.ext wr gg
            generalize wr.ext gg = W2 at *
            have O5 := own_le O2 (hle3.trans hw1)
            have L5 := L2.trans (hle3.trans hw1)
            rw [HF2.out] at HF hjl hjg
            go_wp2_with fail
            refine (mark_any w.heap.size p.length p.length w.heap.size M (k + 1) r hml hjl hsm (by omega) W2 O5).mono ?_
            rintro e w6 ⟨rfl, O6, hg6⟩
            have L6 := L5.grown hg6 (fun i hi => by injection hi with hi; omega)
            go_wp2
            go_roundw
            case rel => exact ⟨k + 1, by omega, by go_num, by rw [HF.out]; exact O6, L6⟩
            case measure => simp [intOf]; omega
    · obtain rfl : k = p.length := by omega
      go_wp2
      go_ret
      exact ⟨rfl, O1, L⟩
end Go.Proofs.Ytldnjihakkekkaa
