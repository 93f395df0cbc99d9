/- the laws' plain: all lines of the blocks behind a way are told or passed -/
import Derived.Test.YtgjlmfjmjglplaaGreatPlWJ
import Derived.Test.YtgjlmfjmjglplaaGreatFj37
namespace Go.Proofs.YtgjlmfjmjglplaaGreat
open Go.RowKit
theorem plX_at {p : List Lin} {W : List Nat} {t : Nat} (h : t < W.length) : plX p (W.drop t) = (plZ p W[t] && plX p (W.drop (t + 1))) := by rw [List.drop_eq_getElem_cons h]; rfl
theorem plX_end {p : List Lin} {W : List Nat} {t : Nat} (h : ¬ t < W.length) : plX p (W.drop t) = true := by rw [List.drop_eq_nil_of_le (by omega)]; rfl
/-- what is left of a block from one line on -/
def blkR (p : List Lin) (d : Int) (k : Nat) : Bool := blkQ p d (p.length - k) k
theorem blkR_at {p : List Lin} {d : Int} {k : Nat} (h : k < p.length) : blkR p d k = if d < dep p k then (if knd p k ≠ 1 ∧ knd p k ≠ 0 then false else blkR p d (k + 1)) else true := by
  unfold blkR
  rw [show p.length - k = (p.length - (k + 1)) + 1 by omega]
  rfl
theorem blkR_end {p : List Lin} {d : Int} {k : Nat} (h : ¬ k < p.length) : blkR p d k = true := by
  unfold blkR
  rw [show p.length - k = 0 by omega]; rfl
theorem plZ_11 {p : List Lin} {z : Nat} (h : knd p z = 11) : plZ p z = true := by unfold plZ; rw [decide_eq_true h]; rfl
theorem plZ_no {p : List Lin} {z : Nat} (h : knd p z ≠ 11) : plZ p z = blkR p (dep p z) (z + 1) := by unfold plZ; rw [decide_eq_false h]; rfl
set_option maxHeartbeats 2000000 in
set_option maxRecDepth 100000 in
theorem plain_any (A C : Option Addr) (n cap m c : Nat) (p : List Lin) (W : List Nat) (hW : ∀ z ∈ W, z < p.length) (hn : p.length ≤ 1048576) (w : World) (SR : Sl w A n cap p) (SL : Sl w C m c (nI W)) :
    Calls Tryz.prog 8 #[.slice A n cap, .slice C m c] w fun e w' => e = .returned (.bool (plX p W)) ∧ Le w w' := by
  obtain rfl := SR.len
  have hmw : m = W.length := by rw [← SL.len, nI_len]
  subst hmw
  have hW24 := SL.n_le
  have HAT : Hid (∀ t (h : t < W.length), (nI W)[t]'(by rw [nI_len]; exact h) = (W[t] : Int)) := fun t h => nI_at h
  have HEL := Lib.hid (nI_len W)
  have HLT : Hid (∀ t (h : t < W.length), W[t] < p.length) := fun t h => hW _ (List.getElem_mem h)
  clear hW
  go_enter Tryz.func8, Tryz.ntmps8
  go_wp2
  go_loopw [5, 6] (fun i _ wr => ∃ t : Nat, t ≤ W.length ∧ i = .int .i64 t ∧ plX p W = plX p (W.drop t) ∧ Le w wr) (fun i _ _ => W.length - (intOf i).toNat)
  case atStart => exact ⟨0, Nat.zero_le _, rfl, rfl, Le.refl _⟩
  case round =>
    obtain ⟨t, ht, rfl, hp, LW⟩ := hrel
    have HP := Lib.hid hp; clear hp
    replace SR := SR.le LW
    replace SL := SL.le LW
    by_cases hlt : t < W.length
    · have hx := HLT.out t hlt
      obtain ⟨b, off, rfl, hb, hcell, _, _⟩ := SL.int_at (k := t) (by rw [HEL.out]; exact hlt)
      rw [HAT.out t hlt] at hcell
      obtain ⟨b2, off2, rfl, hb2, cx, ckd, -⟩ := SR.lin_at hx
      have HX : Hid (plX p (W.drop t) = (plZ p W[t] && plX p (W.drop (t + 1)))) := plX_at hlt
      have HD : Hid (dep p W[t] = p[W[t]].depth) := dep_at hx
      have HK : Hid (knd p W[t] = p[W[t]].kind) := knd_at hx
      generalize W[t] = x at *
      have hx0 : (0 : Int) ≤ (x : Int) := by omega
      have hxn : (x : Int) < (p.length : Int) := by omega
      have ht0 : (t : Int) < (W.length : Int) := by omega
      by_cases h11 : p[x].kind = 11
      · have HZ : Hid (plX p W = plX p (W.drop (t + 1))) := by show _ = _; rw [HP.out, HX.out, plZ_11 (by rw [HK.out]; exact h11)]; rfl
        rw [h11] at ckd
        go_wp2
        go_roundw
        case rel => exact ⟨t + 1, by omega, by go_num, HZ.out, LW⟩
        case measure => simp [intOf]; omega
      · have HZ : Hid (plZ p x = blkR p (dep p x) (x + 1)) := plZ_no (by rw [HK.out]; exact h11)
        have e11 : (p[x].kind == 11) = false := by simpa using h11
        clear h11 HK
        rw [HD.out] at HZ
        clear HD
        generalize p[x].kind = vx at *
        generalize hdx : p[x].depth = dx at *
        go_wp2
        go_loopw [6] (fun k wq => ∃ q : Nat, q ≤ p.length ∧ k = .int .i64 q ∧ plZ p x = blkR p dx q ∧ Le wr wq) (fun k _ => p.length - (intOf k).toNat)
        case atStart => exact ⟨x + 1, by omega, by go_num, HZ.out, Le.refl _⟩
        case round =>
          obtain ⟨q, hq, rfl, hz, LQ⟩ := hrel
          have HQ := Lib.hid hz; clear hz HZ
          replace SR := SR.le LQ
          replace SL := SL.le LQ
          replace LW := LW.trans LQ
          by_cases hqn : q < p.length
          · obtain ⟨b3, off3, e3, hb3, c3, k3, -⟩ := SR.lin_at hqn
            injection e3 with e3
            injection e3 with e3 e4
            subst e3; subst e4
            have F1 := cell_ext (Nat.lt_of_lt_of_le hb LQ.size) ((LQ.cell hb).trans hcell)
            have F2 := cell_ext (Nat.lt_of_lt_of_le hb2 LQ.size) ((LQ.cell hb2).trans cx)
            have F3 := cell_ext hb3 c3
            have F4 := cell_ext hb3 k3
            have hqi : (q : Int) < (p.length : Int) := by omega
            have hq0 : (0 : Int) ≤ (q : Int) := by omega
            have HB : Hid (blkR p dx q = if dx < p[q].depth then (if p[q].kind ≠ 1 ∧ p[q].kind ≠ 0 then false else blkR p dx (q + 1)) else true) := by show _ = _; rw [blkR_at hqn, dep_at hqn, knd_at hqn]
            generalize p[q].depth = dq at *
            generalize p[q].kind = vq at *
            by_cases hd : dx < dq
            · rw [if_pos hd] at HB
              have hdd : decide (dx < dq) = true := decide_eq_true hd
              by_cases h1 : vq = 1
              · subst h1
                rw [if_neg (by decide)] at HB
                go_wp2_with fail
                refine wp_region_ext (by kernel_rfl) (by kernel_rfl) ?_
                repeat (go_big_quiet_step (fail))
                refine wpQuiet_nil ?_
                intro _ hw'
                obtain ⟨gg, rfl⟩ := hw'
                have hw2 := Le.ext wr gg
                have K4 := F4 gg
                generalize wr.ext gg = W2 at *
                go_wp2
                go_roundw
                case rel => exact ⟨q + 1, by omega, by go_num, HQ.out.trans HB.out, LQ.trans hw2⟩
                case measure => simp [intOf]; omega
              · by_cases h0 : vq = 0
                · subst h0
                  rw [if_neg (by decide)] at HB
                  go_wp2_with fail
                  refine wp_region_ext (by kernel_rfl) (by kernel_rfl) ?_
                  repeat (go_big_quiet_step (fail))
                  refine wpQuiet_nil ?_
                  intro _ hw'
                  obtain ⟨gg, rfl⟩ := hw'
                  have hw2 := Le.ext wr gg
                  have K4 := F4 gg
                  generalize wr.ext gg = W2 at *
                  go_wp2
                  go_roundw
                  case rel => exact ⟨q + 1, by omega, by go_num, HQ.out.trans HB.out, LQ.trans hw2⟩
                  case measure => simp [intOf]; omega
                · rw [if_pos ⟨h1, h0⟩] at HB
                  have n1 : (vq != 1) = true := by simpa using h1
                  have n0 : (vq != 0) = true := by simpa using h0
                  go_wp2_with fail
                  refine wp_region_ext (by kernel_rfl) (by kernel_rfl) ?_
                  repeat (go_big_quiet_step (fail))
                  refine wpQuiet_nil ?_
                  intro _ hw'
                  obtain ⟨gg, rfl⟩ := hw'
                  have hw2 := Le.ext wr gg
                  have K4 := F4 gg
                  generalize wr.ext gg = W2 at *
                  go_wp2
                  go_ret
                  exact ⟨ret_bool (by rw [HP.out, HX.out, HQ.out, HB.out]; rfl), LW.trans hw2⟩
            · rw [if_neg hd] at HB
              have hdd : decide (dx < dq) = false := decide_eq_false hd
              go_wp2_with fail
              refine wp_region_ext (by kernel_rfl) (by kernel_rfl) ?_
              repeat (go_big_quiet_step (fail))
              refine wpQuiet_nil ?_
              intro _ hw'
              obtain ⟨gg, rfl⟩ := hw'
              have hw2 := Le.ext wr gg
              generalize wr.ext gg = W2 at *
              go_wp2
              go_roundw
              case rel => exact ⟨t + 1, by omega, by go_num, by rw [HP.out, HX.out, HQ.out, HB.out]; rfl, LW.trans hw2⟩
              case measure => simp [intOf]; omega
          · have HB : Hid (blkR p dx q = true) := blkR_end hqn
            have hqi : ¬ (q : Int) < (p.length : Int) := by omega
            go_wp2_with fail
            refine wp_region_ext (by kernel_rfl) (by kernel_rfl) ?_
            repeat (go_big_quiet_step (fail))
            refine wpQuiet_nil ?_
            intro _ hw'
            obtain ⟨gg, rfl⟩ := hw'
            have hw2 := Le.ext wr gg
            generalize wr.ext gg = W2 at *
            go_wp2
            go_roundw
            case rel => exact ⟨t + 1, by omega, by go_num, by rw [HP.out, HX.out, HQ.out, HB.out]; rfl, LW.trans hw2⟩
            case measure => simp [intOf]; omega
    · go_wp2
      go_ret
      exact ⟨ret_bool (by rw [HP.out, plX_end hlt]), LW⟩
end Go.Proofs.YtgjlmfjmjglplaaGreat
