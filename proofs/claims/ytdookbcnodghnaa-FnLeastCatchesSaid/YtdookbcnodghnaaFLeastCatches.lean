/- the law FnLeastCatches -/
import Derived.Test.YtdookbcnodghnaaFDeadCatches
import Derived.Test.YtdookbcnodghnaaHK
import Derived.Test.YtdookbcnodghnaaHP
import Derived.Test.YtdookbcnodghnaaAP
namespace Go.Proofs.Ytdookbcnodghnaa
open Go.RowKit

theorem Sl.drop_ {w : World} {b off n cap : Nat} {xs : List Int} (h : Sl w (some ⟨b, off, none⟩) n cap xs) (k : Nat) (hk : k ≤ n) : Sl w (some ⟨b, off + k, none⟩) (n - k) (cap - k) (xs.drop k) := by
  refine ⟨by rw [List.length_drop, h.len], by have := h.cap_; omega, by have := h.max; omega, fun x hx => h.ok x (List.mem_of_mem_drop hx), fun hn => ?_⟩
  obtain ⟨b', off', e, hb, hc⟩ := h.at_ (by omega)
  injection e with e
  injection e with e1 e2
  subst e1; subst e2
  refine ⟨b, off + k, rfl, hb, fun j u hu => ?_⟩
  have := hc (k + j) u (by
    rw [← hu]
    have e3 : ∀ (L : List Int), L.flatMap (Enc.cells (α := Int)) = L.map (Value.int .i64) := ints_flat
    rw [e3, e3, List.map_drop, List.getElem?_drop])
  rw [← Nat.add_assoc] at this
  exact this

set_option maxHeartbeats 4000000 in
set_option maxRecDepth 100000 in
theorem fnLeastCatches_walk (A : Option Addr) (n cap : Nat) (bs : List By) (w : World) (hR : Sl w A n cap bs) :
    Calls Try.prog 12 #[.slice A n cap] w fun e w' => e = .returned (.bool true) ∧ Le w w' := by
  have hm := hR.n_le
  by_cases hbig : 1048576 < n
  · go_enter Try.func12, Try.ntmps12
    go_wp2
    go_ret
    exact ⟨rfl, Le.refl w⟩
  go_enter Try.func12, Try.ntmps12
  go_wp2_with fail
  refine (drawLeastCatches_any A n cap bs w hR).mono ?_
  rintro e w1 ⟨B, D, m, c, k, d, xs, L, rfl, S, hm8, S2, _, _, hk8, L0⟩
  go_wp2_with fail
  obtain ⟨ct, zt, hleB⟩ := box1 w1 (.slice B m c) 25
  replace S := S.le hleB
  replace L0 := L0.trans hleB
  replace S2 := S2.le hleB
  clear hleB
  generalize w1.alloc (.cells #[.slice B m c] 25) = W1 at *
  have hcl := leastX_len xs L
  go_wp2_with fail
  refine (Calls.intsO (iLeastCatches_any B D m c k d xs L W1 S S2)).mono ?_
  rintro e w2 ⟨A2, c2, rfl, S3, hle⟩
  replace ct := (hle.cell zt).trans ct
  replace zt := Nat.lt_of_lt_of_le zt hle.size
  replace S := S.le hle
  replace L0 := L0.trans hle
  replace S2 := S2.le hle
  clear hle
  go_wp2_with fail
  refine (Calls.intsO (sLeastCatches_any B D m c k d xs L w2 S S2)).mono ?_
  rintro e w3 ⟨A3, c3, rfl, S4, hle⟩
  replace ct := (hle.cell zt).trans ct
  replace zt := Nat.lt_of_lt_of_le zt hle.size
  replace S := S.le hle
  replace L0 := L0.trans hle
  replace S2 := S2.le hle
  replace S3 := S3.le hle
  clear hle
  go_wp2_with fail
  refine (equalInts_self A2 A3 _ c2 c3 (leastX xs L) w3 S3 S4).mono ?_
  rintro e w4 ⟨rfl, hle⟩
  replace ct := (hle.cell zt).trans ct
  replace zt := Nat.lt_of_lt_of_le zt hle.size
  replace S := S.le hle
  replace L0 := L0.trans hle
  replace S2 := S2.le hle
  replace S3 := S3.le hle
  clear hle
  clear S4
  go_wp2_with fail
  refine (iFirstCatch_any B D m c k d xs L 0 w4 S S2).mono ?_
  rintro e w5 ⟨rfl, hle⟩
  replace ct := (hle.cell zt).trans ct
  replace zt := Nat.lt_of_lt_of_le zt hle.size
  replace S := S.le hle
  replace L0 := L0.trans hle
  replace S2 := S2.le hle
  replace S3 := S3.le hle
  clear hle
  rcases Bool.eq_false_or_eq_true (goodC xs L) with ho | ho
  rotate_left
  · have hb := firstX_bad ho
    clear ho
    go_wp2_with fail
    refine (Calls.intsO (sLeastCatches_any B D m c k d xs L w5 S S2)).mono ?_
    rintro e w6 ⟨A6, c6, rfl, S6, hle⟩
    replace L0 := L0.trans hle
    replace S3 := S3.le hle
    clear hle
    go_wp2_with fail
    refine (equalInts_self A2 A6 _ c2 c6 (leastX xs L) w6 S3 S6).mono ?_
    rintro e w7 ⟨rfl, hle⟩
    replace L0 := L0.trans hle
    clear hle
    go_wp2
    go_ret
    exact ⟨rfl, L0⟩
  have gc := goodC_of ho
  have hf0 := (firstX_good ho).2
  have hX : leastX xs L = leastK xs L xs.length := leastX_of ho
  have hlen := S.len
  have hlen2 := S2.len
  have hll := least_len gc
  have E1 : Hid (caughtX xs (leastX xs L) = caughtX xs L) := by show _ = _; rw [hX]; exact caught_least ho
  have E2 : Hid (deadX xs (leastX xs L) = []) := by show _ = _; rw [hX]; exact dead_least ho
  have E3 : Hid (∀ j (h : j < (leastX xs L).length), (caughtX xs (lessK (leastX xs L) j)).length < (caughtX xs L).length) := by
    show ∀ j, _
    rw [hX]; exact fun j h => less_fewer ho h
  have E4 : Hid ((leastX xs L).Pairwise (· < ·)) := by
    show List.Pairwise _ _
    rw [hX]; exact leastK_asc _ _ _
  rw [← hX] at hll
  have hk6 := gc.few
  clear hX gc ho
  have hca := caughtX_len xs L
  generalize leastX xs L = M at *
  go_wp2_with fail
  refine (Calls.intsO (iCaughtBy_any B D m c k d xs L w5 S S2)).mono ?_
  rintro e w6 ⟨A6, c6, rfl, S6, hle⟩
  replace ct := (hle.cell zt).trans ct
  replace zt := Nat.lt_of_lt_of_le zt hle.size
  replace S := S.le hle
  replace L0 := L0.trans hle
  replace S2 := S2.le hle
  replace S3 := S3.le hle
  clear hle
  obtain ⟨i0, hi0, hz0, hz1, hz2⟩ := info_parts intInfo
  go_wp2
  go_loopw [7] (fun i wr => ∃ j : Nat, i = .int .i64 j ∧ j ≤ M.length ∧ Le w6 wr) (fun i _ => M.length - (intOf i).toNat)
  case atStart => exact ⟨0, rfl, Nat.zero_le _, Le.refl _⟩
  case round =>
    obtain ⟨j, rfl, hjL, LW⟩ := hrel
    replace ct := (LW.cell zt).trans ct
    replace zt := Nat.lt_of_lt_of_le zt LW.size
    replace S := S.le LW
    replace L0 := L0.trans LW
    replace S2 := S2.le LW
    replace S3 := S3.le LW
    replace S6 := S6.le LW
    by_cases hlt : j < M.length
    · have hji : (j : Int) < M.length := by omega
      have h3 := E3.out j hlt
      have hcap := S3.cap_
      have hw1 : IntKind.i64.wrap ((j : Int) + 1) = ((j + 1 : Nat) : Int) := by
        have e : (j : Int) + 1 = ((j + 1 : Nat) : Int) := by omega
        rw [e]; exact IntWalk.i64_in _ (by omega)
      obtain ⟨b, off, rfl, hb, _, _, _⟩ := S3.int_at hlt
      have T1 := (S3.take_ j hjL).le (Le.refl _).drew
      obtain ⟨o2, l2, q2, T2, hcc, hl2⟩ : ∃ (o2 l2 q2 : Nat), Sl wr.drew (some ⟨b, o2, none⟩) l2 q2 (M.drop (j + 1)) ∧ ((j + 1 = c2 ∧ o2 = off ∧ l2 = 0 ∧ q2 = 0) ∨ (¬ c2 = j + 1 ∧ o2 = off + (j + 1) ∧ l2 = M.length - (j + 1) ∧ q2 = c2 - (j + 1))) ∧ l2 = M.length - (j + 1) := by
        by_cases hc : c2 = j + 1
        · have h1 : M.drop (j + 1) = [] := List.drop_eq_nil_of_le (by omega)
          refine ⟨off, 0, 0, ?_, .inl ⟨hc.symm, rfl, rfl, rfl⟩, by omega⟩
          rw [h1]; exact Sl.nil _ _ _ (by omega)
        · exact ⟨_, _, _, (S3.drop_ (j + 1) (by omega)).le (Le.refl _).drew, .inr ⟨hc, rfl, rfl, rfl⟩, rfl⟩
      have HL2 := Lib.hid hl2; clear hl2
      have LD := (Le.refl wr).drew
      have hsd : wr.drew.heap.size = wr.heap.size := rfl
      have hj2 : (j : Int) + 1 ≤ M.length := by omega
      have hj3 : ((j + 1 : Nat) : Int) = (j : Int) + 1 := by omega
      rw [hj3] at hw1
      have k1 : (0 : Int) ≤ (j : Int) := by omega
      have k2 : (j : Int) ≤ (c2 : Int) := by omega
      have k3 : (0 : Int) ≤ (j : Int) + 1 := by omega
      have k4 : (M.length : Int) ≤ (c2 : Int) := by omega
      have k5 : ((j : Int) + 1).toNat = j + 1 := by omega
      have k6 : j ≤ c2 := by omega
      have k7 : j + 1 ≤ M.length := by omega
      rcases hcc with ⟨hcs, ho, hl, hq⟩ | ⟨hcn, ho, hl, hq⟩
      all_goals
        have HO2 := Lib.hid (And.intro ho (And.intro hl hq)); clear ho hl hq
        go_wp2_with fail
        go_region_held3 (fun _ => True) (trivial)
          (first
          | (refine step_append_sl rfl (.tmp 46) (.tmp 49) 38 rfl wr.heap.size 3 i0 _ 8 Try.underlying38 hi0 hz0 hz1 hz2 rfl (.slice (some ⟨wr.heap.size, 0, none⟩) 0 0) 0 ([] : List Int) rfl (own_empty (w := wr.drew) (Nat.le_refl _) rfl) (some ⟨b, off, none⟩) j c2 (M.take j) rfl (T1.alloc _) (by unfold maxLen; omega) (by omega) (by simp) ?_; intro v1 w7 O1 hg1 _; simp only [Nat.zero_add, List.nil_append] at O1; have LA := (LD.alloc (.cells #[] 3)).grown hg1 (fun k hk => by simp [Value.ownBlock] at hk; omega); have T3 := (T2.alloc (.cells #[] 3)).grown hg1 (fun _ a e h => by simp [Value.ownBlock] at h; injection e with e; rw [← e] at h; simp at h; omega))
          | (have hzz := O1; refine step_append_sl rfl (.tmp 50) (.tmp 54) 38 rfl wr.heap.size 3 i0 _ 8 Try.underlying38 hi0 hz0 hz1 hz2 rfl v1 j (M.take j) rfl O1 (some ⟨b, o2, none⟩) l2 q2 (M.drop (j + 1)) (by obtain ⟨h1, h2, h3⟩ := HO2.out; subst h1; subst h2; subst h3; first | rfl | (simp [Act.eval]; done) | (simp [Act.eval, hcn]; done)) T3 (by have := HL2.out; unfold maxLen; omega) (by have := HL2.out; omega) (by have := LA.size; omega) ?_; intro v2 w8 O2 hg2 _; have LB := LA.grown hg2 (fun k hk => (O1.lt k hk).1))
          )
        have hln : (lessK M j).length = j + l2 := by have := lessK_len hlt; have := HL2.out; omega
        have O3 : w8.ownsRow wr.heap.size 3 1 v2 (lessK M j).length ((lessK M j).flatMap Enc.cells) := by rw [hln]; exact O2
        obtain ⟨A8, c8, rfl⟩ := own_form O3
        have hok8 : ∀ x ∈ lessK M j, Enc.ok x := fun x hx => by obtain ⟨i, hi, _, rfl⟩ := lessK_mem hx; exact S3.ok _ (List.getElem_mem hi)
        have S8 := Sl.of_own O3 rfl (by decide) hok8
        have hlc := caughtX_len xs (lessK M j)
        have h3i : ((caughtX xs (lessK M j)).length : Int) < ((caughtX xs L).length : Int) := by omega
        have h3d : decide (((caughtX xs L).length : Int) ≤ ((caughtX xs (lessK M j)).length : Int)) = false := decide_eq_false (by omega)
        clear O1 O2 O3 hg1 hg2 T1 T2 T3 LA hln hok8
        replace ct := (LB.cell zt).trans ct
        replace zt := Nat.lt_of_lt_of_le zt LB.size
        replace S := S.le LB
        replace L0 := L0.trans LB
        replace S2 := S2.le LB
        replace S3 := S3.le LB
        replace S6 := S6.le LB
        replace LW := LW.trans LB
        go_wp2_with fail
        refine (Calls.intsO (iCaughtBy_any B A8 m c (lessK M j).length c8 xs (lessK M j) w8 S S8)).mono ?_
        rintro e w9 ⟨A9, c9, rfl, S9, hle⟩
        replace ct := (hle.cell zt).trans ct
        replace zt := Nat.lt_of_lt_of_le zt hle.size
        replace S := S.le hle
        replace L0 := L0.trans hle
        replace S2 := S2.le hle
        replace S3 := S3.le hle
        replace S6 := S6.le hle
        replace LW := LW.trans hle
        clear hle
        go_wp2
        go_roundw
        case rel => exact ⟨j + 1, by go_num, hlt, LW⟩
        case measure => simp [intOf]; omega
    · have hji : ¬ (j : Int) < M.length := by omega
      have hcm := caughtX_len xs M
      have hdm := deadX_len xs M
      have e2 : (((deadX xs M).length : Int) == 0) = true := by rw [E2.out]; rfl
      have hle2 : (M.length : Int) ≤ (k : Int) := by omega
      have E5 := Lib.hid (iCaughtBy_any B A2 m c M.length c2 xs M)
      have E1' := E1
      rw [E1.out] at E5
      go_wp2_with fail
      refine (ascends_any A2 _ c2 M _ S3 E4.out).mono ?_
      rintro e w9 ⟨rfl, hle⟩
      replace ct := (hle.cell zt).trans ct
      replace zt := Nat.lt_of_lt_of_le zt hle.size
      replace S := S.le hle
      replace L0 := L0.trans hle
      replace S3 := S3.le hle
      replace S6 := S6.le hle
      clear hle
      go_wp2_with fail
      refine (Calls.intsO (E5.out _ S S3)).mono ?_
      rintro e w10 ⟨A10, c10, rfl, S10, hle⟩
      replace ct := (hle.cell zt).trans ct
      replace zt := Nat.lt_of_lt_of_le zt hle.size
      replace S := S.le hle
      replace L0 := L0.trans hle
      replace S3 := S3.le hle
      replace S6 := S6.le hle
      clear hle
      go_wp2_with fail
      refine (equalInts_self A10 A6 _ c10 c6 (caughtX xs L) _ S10 S6).mono ?_
      rintro e w11 ⟨rfl, hle⟩
      replace ct := (hle.cell zt).trans ct
      replace zt := Nat.lt_of_lt_of_le zt hle.size
      replace S := S.le hle
      replace L0 := L0.trans hle
      replace S3 := S3.le hle
      clear hle
      go_wp2_with fail
      refine (Calls.intsO (iDeadCatches_any B A2 m c M.length c2 xs M _ S S3)).mono ?_
      rintro e w12 ⟨A12, c12, rfl, S12, hle⟩
      replace ct := (hle.cell zt).trans ct
      replace zt := Nat.lt_of_lt_of_le zt hle.size
      replace S := S.le hle
      replace L0 := L0.trans hle
      replace S3 := S3.le hle
      clear hle
      go_wp2
      go_ret
      exact ⟨rfl, L0⟩
end Go.Proofs.Ytdookbcnodghnaa
