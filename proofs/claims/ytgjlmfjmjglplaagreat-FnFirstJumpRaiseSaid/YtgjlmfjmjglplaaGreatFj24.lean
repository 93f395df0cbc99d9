/- one text of RnF, RnG -/
import Derived.Test.YtgjlmfjmjglplaaGreatFj23
namespace Go.Proofs.YtgjlmfjmjglplaaGreat
open Go.RowKit
set_option linter.unusedVariables false
section
theorem rng_iff2 {a b x : Int} (h : rng a b x = true) : a ≤ x ∧ x ≤ b := by unfold rng at h; simpa using h
theorem with_ab {xs : List Cls} {p : List Lin} (g : GoodP xs p) {i : Nat} (hi : i < p.length) (h : knd p i = 11) : (0 ≤ p[i].a ∧ p[i].a ≤ 9) ∧ (0 ≤ p[i].b ∧ p[i].b ≤ 1) := by
  have h1 := (g.line i hi).1
  rw [knd_at hi] at h
  unfold numS at h1
  rw [h, if_neg (by decide), if_neg (by decide), if_neg (by decide), if_pos rfl, Bool.and_eq_true] at h1
  exact ⟨rng_iff2 h1.1, rng_iff2 h1.2⟩
theorem loop_a {xs : List Cls} {p : List Lin} (g : GoodP xs p) {i : Nat} (hi : i < p.length) (h : knd p i = 12) : 0 ≤ p[i].a ∧ p[i].a ≤ 3 := by
  have h1 := (g.line i hi).1
  rw [knd_at hi] at h
  unfold numS at h1
  rw [h, if_neg (by decide), if_neg (by decide), if_neg (by decide), if_neg (by decide), if_pos rfl, Bool.and_eq_true] at h1
  exact rng_iff2 h1.1
set_option maxHeartbeats 2000000 in
set_option maxRecDepth 100000 in
theorem runWith_any (R m c n cap : Nat) (B A : Option Addr) (xs : List Cls) (p : List Lin) (blk : Bls) (C : Nat → Prop) (HB : BlOk R m c n cap B A xs p blk C) (HFw : BFw xs p blk C) (g : GoodP xs p) (i : Nat) (hi : i < p.length) (hC : C i) (h11 : knd p i = 11) (h : Int) (s : Rst) (gd : Gd xs s.2) (hh : Hd h s) (hsm : Sm (withN blk p i h s).2) (lv hv : Value) (w : World) (H : Rn w R B m c xs A n cap p lv hv s.1 s.2) :
    RunOk R m c n cap B A xs p 80 #[.pointer (some ⟨R, 0, none⟩), .int .i64 i, .int .i64 h] lv hv w (withN blk p i h s) := by
  have hab := with_ab g hi h11
  have hp := g.len
  have hA : lnA p i = p[i].a := lnA_at hi
  have hBc : lnBc p i = p[i].b := lnBc_at hi
  have F := HFw i h (s.1 ++ [100 + p[i].a], s.2) hi hC gd hh
  have HX : Hid (withN blk p i h s = (quiet (decide (p[i].b = 1)) (blk i h (s.1 ++ [100 + p[i].a], s.2)).1, ((blk i h (s.1 ++ [100 + p[i].a], s.2)).2.1 ++ [200 + p[i].a], (blk i h (s.1 ++ [100 + p[i].a], s.2)).2.2))) := by show _ = _; unfold withN; rw [hA, hBc]
  have hsm1 : Sm (blk i h (s.1 ++ [100 + p[i].a], s.2)).2 := by
    rw [HX.out] at hsm
    have h1 := hsm.1
    have h2 : ((blk i h (s.1 ++ [100 + p[i].a], s.2)).2.1 ++ [200 + p[i].a]).length ≤ 1000000 := h1
    rw [List.length_append] at h2
    exact ⟨by omega, hsm.2⟩
  have hsm0 := F.sm hsm1
  have hlg : s.1.length ≤ 1000000 := by have h1 : (s.1 ++ [100 + p[i].a]).length ≤ 1000000 := hsm0.1; rw [List.length_append] at h1; omega
  have HBx : ∀ lv2 hv2 w2, Rn w2 R B m c xs A n cap p lv2 hv2 (s.1 ++ [100 + p[i].a]) s.2 → AtOk R m c n cap B A xs p 93 #[.pointer (some ⟨R, 0, none⟩), .int .i64 i, .int .i64 h] lv2 hv2 w2 (blk i h (s.1 ++ [100 + p[i].a], s.2)) := fun lv2 hv2 w2 H2 => HB i h (s.1 ++ [100 + p[i].a], s.2) lv2 hv2 w2 hi hC gd hh hsm1 H2
  clear F hsm HB HFw hsm0
  generalize withN blk p i h s = z at *
  obtain rfl := HX.out
  clear HX
  have hlen3 := hsm1.1
  clear hsm1 gd hh hA hBc
  generalize blk i h (s.1 ++ [100 + p[i].a], s.2) = q at *
  rcases q with ⟨l, s3⟩
  have c1 := H.c1
  have hz := H.z
  obtain rfl := H.T.len
  obtain ⟨b5, off5, rfl, hb5, d0, d1, d2, d3, -⟩ := H.T.lin_at hi
  have hi0 : (0 : Int) ≤ (i : Int) := by omega
  have hin : (i : Int) < (p.length : Int) := by omega
  generalize p[i].depth = vd at *
  generalize p[i].kind = vk at *
  generalize p[i].a = va at *
  generalize p[i].b = vb at *
  have LX := Le.new w (.cells #[.int .i64 vd, .int .i64 vk, .int .i64 va, .int .i64 vb] 31)
  have b2 : (w.alloc (.cells #[.int .i64 vd, .int .i64 vk, .int .i64 va, .int .i64 vb] 31)).cell? ⟨w.heap.size, 2, none⟩ = some (.int .i64 va) := by rw [World.cell?_alloc_at _ _ _ _ rfl]; rfl
  have b3 : (w.alloc (.cells #[.int .i64 vd, .int .i64 vk, .int .i64 va, .int .i64 vb] 31)).cell? ⟨w.heap.size, 3, none⟩ = some (.int .i64 vb) := by rw [World.cell?_alloc_at _ _ _ _ rfl]; rfl
  have zx : w.heap.size < (w.alloc (.cells #[.int .i64 vd, .int .i64 vk, .int .i64 va, .int .i64 vb] 31)).heap.size := by simp
  have hneR : w.heap.size ≠ R := by omega
  have hlw : lv.ownBlock ≠ some w.heap.size := fun e => by have := (H.O.lt _ e).2; omega
  have hhw : hv.ownBlock ≠ some w.heap.size := fun e => by have := (H.H.lt _ e).2; omega
  have H0 := H.le LX
  have K0 := Kp.of_le R lv hv LX
  have HQ1 : Hid (isRai l = false → quiet (decide (vb = 1)) l = l) := by show _ → _; cases l <;> first | (intro e; cases e; done) | (intro _; rfl)
  have HQ2 : Hid (isRai l = true → quiet (decide (vb = 1)) l = cond (decide (vb = 1)) .nil l) := by show _ → _; cases l <;> first | (intro e; cases e; done) | (intro _; show (if _ then _ else _) = _; cases decide (vb = 1) <;> rfl)
  generalize quiet (decide (vb = 1)) l = lq at *
  unfold RunOk
  show Calls _ _ _ _ _
  go_enter Tryz.func80, Tryz.ntmps80
  go_wp2_with fail
  refine (tell_any R m c _ cap B _ xs p lv hv s.1 s.2 (100 + va) ⟨by omega, by omega⟩ hlg _ H0).mono ?_
  rintro e w2 ⟨rfl, lv2, RN2, KP2⟩
  replace b2 := KP2.cell zx hneR hlw hhw b2
  replace b3 := KP2.cell zx hneR hlw hhw b3
  have zx2 := Nat.lt_of_lt_of_le zx KP2.size
  replace hlw := KP2.ownL zx hlw
  have KQ := K0.trans KP2
  clear H0 K0 KP2 H d0 d1 d2 d3 c1
  go_wp2_with fail
  refine (show Calls _ _ _ _ _ from HBx lv2 hv w2 RN2).mono ?_
  rintro e w3 ⟨rfl, lv3, hv3, RN3, KP3⟩
  replace b2 := KP3.cell zx2 hneR hlw hhw b2
  replace b3 := KP3.cell zx2 hneR hlw hhw b3
  have zx3 := Nat.lt_of_lt_of_le zx2 KP3.size
  have hlw3 := KP3.ownL zx2 hlw
  have hhw3 := KP3.ownH zx2 hhw
  replace KQ := KQ.trans KP3
  clear KP3 RN2 HBx
  go_wp2_with fail
  refine (tell_any R m c _ cap B _ xs p lv3 hv3 s3.1 s3.2 (200 + va) ⟨by omega, by omega⟩ hlen3 _ RN3).mono ?_
  rintro e w4 ⟨rfl, lv4, RN4, KP4⟩
  replace b3 := KP4.cell zx3 hneR hlw3 hhw3 b3
  replace KQ := KQ.trans KP4
  have zx4 := Nat.lt_of_lt_of_le zx3 KP4.size
  clear KP4 RN3 b2
  have q1 := ta_rai l
  have L5 := Le.new w4 (.cells #[.int .i64 (raiF l)] 86)
  have b5 := (L5.cell zx4).trans b3
  have HR := Lib.hid (And.intro (RN4.le L5) (KQ.trans (Kp.of_le R lv4 hv3 L5)))
  clear RN4 KQ
  generalize isRai l = ri at *
  generalize raiF l = rf at *
  cases ri
  · obtain rfl : lq = l := HQ1.out (by trivial)
    clear HQ1 HQ2
    go_wp2_with fail
    refine (leave_any lq _).mono ?_
    rintro e w6 ⟨rfl, rfl⟩
    cases lq
    case nil => (go_wp2; go_end0; exact ⟨rfl, _, _, HR.out.1, HR.out.2⟩)
    all_goals exact ⟨rfl, rfl, _, _, HR.out.1, HR.out.2⟩
  · have hq2 := HQ2.out (by trivial)
    clear HQ1 HQ2
    by_cases hb : vb = 1
    · have hbb : decide (vb = 1) = true := decide_eq_true hb
      rw [hbb] at hq2
      obtain rfl : lq = .nil := hq2
      go_wp2
      exact bodyPost_ret (v := .tuple #[]) (by simp [results, Tryz.results80, go_sem]) rfl ⟨rfl, _, _, HR.out.1, HR.out.2⟩
    · have hbb : decide (vb = 1) = false := decide_eq_false hb
      rw [hbb] at hq2
      obtain rfl : lq = l := hq2
      go_wp2_with fail
      refine (leave_any lq _).mono ?_
      rintro e w6 ⟨rfl, rfl⟩
      cases lq
      case nil => (go_wp2; go_end0; exact ⟨rfl, _, _, HR.out.1, HR.out.2⟩)
      all_goals exact ⟨rfl, rfl, _, _, HR.out.1, HR.out.2⟩
theorem pan_lf {l : Lft} (h : isNil l = false) (w : World) : (Instr.panic (lfV l)).run Tryz.prog w = .halt (.panic (lfV l)) w := by cases l <;> first | (cases h; done) | rfl
theorem lfE_of {l : Lft} (h : isNil l = false) : lfE l = .panicked [{ v := lfV l, recovered := false }] := by cases l <;> first | (cases h; done) | rfl
theorem loop_sm {xs : List Cls} {p : List Lin} {blk : Bls} {C : Nat → Prop} (H : BFw xs p blk C) {i : Nat} (hi : i < p.length) (ho : C i) {h : Int} {n : Nat} {s : Rst} (gd : Gd xs s.2) (hh : Hd h s) (hs : Sm (loopN blk i h (n + 1) s).2) : Sm (blk i h s).2 := by
  have F := H i h s hi ho gd hh
  unfold loopN at hs
  rcases hb : blk i h s with ⟨l, s2⟩
  rw [hb] at F hs
  rcases l with _ | v | f | _ | _
  · exact (Fw.loop H hi ho n s2 F.gd (F.hd hh)).sm hs
  · exact hs
  · exact hs
  · exact hs
  · exact (Fw.loop H hi ho n s2 F.gd (F.hd hh)).sm hs
theorem loop_go {blk : Bls} {i : Nat} {h : Int} {n : Nat} {s s2 : Rst} {l : Lft} (e : blk i h s = (l, s2)) (hl : l = .nil ∨ l = .cnt) : loopN blk i h (n + 1) s = loopN blk i h n s2 := by
  rw [loopN.eq_def]; simp only [e]
  rcases hl with rfl | rfl <;> rfl
theorem loop_out {blk : Bls} {i : Nat} {h : Int} {n : Nat} {s s2 : Rst} {l : Lft} (e : blk i h s = (l, s2)) (hl : isNil l = false) (hl2 : isCnt l = false) : loopN blk i h (n + 1) s = (cond (isBrk l) .nil l, s2) := by
  rw [loopN.eq_def]; simp only [e]
  cases l <;> first | (cases hl; done) | (cases hl2; done) | rfl
set_option maxHeartbeats 2000000 in
set_option maxRecDepth 100000 in
theorem runLoop_any (R m c n cap : Nat) (B A : Option Addr) (xs : List Cls) (p : List Lin) (blk : Bls) (C : Nat → Prop) (HB : BlOk R m c n cap B A xs p blk C) (HFw : BFw xs p blk C) (g : GoodP xs p) (i : Nat) (hi : i < p.length) (hC : C i) (h12 : knd p i = 12) (h : Int) (s : Rst) (gd : Gd xs s.2) (hh : Hd h s) (hsm : Sm (loopN blk i h (lnA p i).toNat s).2) (lv hv : Value) (w : World) (H : Rn w R B m c xs A n cap p lv hv s.1 s.2) :
    RunOk R m c n cap B A xs p 81 #[.pointer (some ⟨R, 0, none⟩), .int .i64 i, .int .i64 h] lv hv w (loopN blk i h (lnA p i).toNat s) := by
  have ha := loop_a g hi h12
  have hA : lnA p i = p[i].a := lnA_at hi
  have c1 := H.c1
  have hz := H.z
  obtain rfl := H.T.len
  obtain ⟨b5, off5, rfl, hb5, d0, d1, d2, d3, -⟩ := H.T.lin_at hi
  have hi0 : (0 : Int) ≤ (i : Int) := by omega
  have hin : (i : Int) < (p.length : Int) := by omega
  rw [← hA] at ha d2
  clear hA h12
  generalize lnA p i = a at *
  obtain ⟨N, rfl⟩ := Int.eq_ofNat_of_zero_le ha.1
  rw [show ((N : Nat) : Int).toNat = N by omega] at hsm ⊢
  have q2 := eql_lf
  have q4 := eg_eql
  have q5 := ta_cnt
  have q6 := ta_brk
  unfold RunOk
  show Calls _ _ _ _ _
  obtain ⟨T, hT⟩ : ∃ T, loopN blk i h N s = T := ⟨_, rfl⟩
  rw [hT] at hsm ⊢
  have HB0 := Lib.hid HB
  have HF0 := Lib.hid HFw
  clear HB HFw
  go_enter Tryz.func81, Tryz.ntmps81
  go_wp2
  go_loopw [17] (fun q wr => ∃ (k j : Nat) (s2 : Rst) (lv2 hv2 : Value), q = .int .i64 k ∧ k + j = N ∧ loopN blk i h j s2 = T ∧ Gd xs s2.2 ∧ Hd h s2 ∧ Rn wr R B m c xs (some ⟨b5, off5, none⟩) p.length cap p lv2 hv2 s2.1 s2.2 ∧ Kp R lv hv lv2 hv2 w wr) (fun q _ => N - (intOf q).toNat)
  case atStart => exact ⟨0, N, s, lv, hv, rfl, by omega, hT, gd, hh, H, Kp.refl R lv hv w⟩
  case round =>
    obtain ⟨k, j, s2, lv2, hv2, rfl, hkj, ht, gd2, hh2, RN, KP⟩ := hrel
    have HT := Lib.hid ht
    clear ht hT H gd hh
    by_cases hk : k < N
    · obtain ⟨j, rfl⟩ : ∃ j', j = j' + 1 := ⟨j - 1, by omega⟩
      have hkN : (k : Int) < (N : Int) := by omega
      have hs1 := loop_sm HF0.out hi hC gd2 hh2 (by rw [HT.out]; exact hsm)
      have F := HF0.out i h s2 hi hC gd2 hh2
      have HBx : AtOk R m c p.length cap B (some ⟨b5, off5, none⟩) xs p 93 #[.pointer (some ⟨R, 0, none⟩), .int .i64 i, .int .i64 h] lv2 hv2 wr (blk i h s2) := HB0.out i h s2 lv2 hv2 wr hi hC gd2 hh2 hs1 RN
      obtain ⟨r, hr⟩ : ∃ r, blk i h s2 = r := ⟨_, rfl⟩
      rw [hr] at HBx F
      rcases r with ⟨l, s3⟩
      have HG := Lib.hid (fun (hl : l = .nil ∨ l = .cnt) => (loop_go (n := j) hr hl).symm.trans HT.out)
      have HO := Lib.hid (fun (hl : isNil l = false) (hl2 : isCnt l = false) => (loop_out (n := j) hr hl hl2).symm.trans HT.out)
      have HN1 : Hid (isNil l = true → l = .nil) := by show _ → _; cases l <;> first | (intro e; cases e; done) | (intro _; rfl)
      have HN2 : Hid (isCnt l = true → l = .cnt) := by show _ → _; cases l <;> first | (intro e; cases e; done) | (intro _; rfl)
      have HP := Lib.hid (lfE_of (l := l))
      have HP2 := Lib.hid (pan_lf (l := l))
      have q2l := q2 l
      have q4l := q4 l
      have q5l := q5 l
      have q6l := q6 l
      clear q2 q4 q5 q6 HT hr hs1 RN
      go_wp2_with fail
      refine (show Calls _ _ _ _ _ from HBx).mono ?_
      rintro e w3 ⟨rfl, lv3, hv3, RN3, KP3⟩
      have KQ := KP.trans KP3
      have HH := Lib.hid (And.intro F.gd (F.hd hh2))
      clear HBx KP KP3 F gd2 hh2
      generalize isNil l = nl at *
      generalize isCnt l = cl at *
      generalize isBrk l = bl at *
      cases nl
      · cases cl
        · have HO2 := Lib.hid (HO.out (by trivial) (by trivial))
          clear HO HG HN1 HN2
          cases bl
          · have HO3 : Hid ((l, s3) = T) := HO2.out
            clear HO2
            have HR := Lib.hid (And.intro RN3 KQ)
            clear RN3 KQ
            have q7 := HP2.out (by trivial)
            go_wp2
            have hl := HO3.out
            subst hl
            exact ⟨rfl, (HP.out (by trivial)).symm, _, _, HR.out.1, HR.out.2⟩
          · have HO3 : Hid ((.nil, s3) = T) := HO2.out
            clear HO2
            have L5 := Le.new w3 (.cells #[] 115)
            have HR := Lib.hid (And.intro (RN3.le L5) (KQ.trans (Kp.of_le R lv3 hv3 L5)))
            clear L5
            clear RN3 KQ
            go_wp2
            have hl := HO3.out
            subst hl
            exact bodyPost_ret (v := .tuple #[]) (by simp [results, Tryz.results81, go_sem]) rfl ⟨rfl, _, _, HR.out.1, HR.out.2⟩
        · have HG2 := Lib.hid (HG.out (.inr (HN2.out (by trivial))))
          clear HO HG HN1 HN2
          go_wp2
          go_roundw
          case rel => exact ⟨k + 1, j, s3, lv3, hv3, by go_num, by omega, HG2.out, HH.out.1, HH.out.2, RN3, KQ⟩
          case measure => simp [intOf]; omega
      · have HG2 := Lib.hid (HG.out (.inl (HN1.out (by trivial))))
        clear HO HG HN1 HN2
        go_wp2
        go_roundw
        case rel => exact ⟨k + 1, j, s3, lv3, hv3, by go_num, by omega, HG2.out, HH.out.1, HH.out.2, RN3, KQ⟩
        case measure => simp [intOf]; omega
    · have hkN : ¬ (k : Int) < (N : Int) := by omega
      obtain rfl : j = 0 := by omega
      have HT2 : Hid ((.nil, s2) = T) := HT.out
      clear HT
      have HR := Lib.hid (And.intro RN KP)
      clear RN KP
      have hl := HT2.out
      subst hl
      go_wp2
      go_end0
      exact ⟨rfl, _, _, HR.out.1, HR.out.2⟩
end

section
theorem prtI_none {o : Option Nat} (h : o = none) : prtI o = -1 := by rw [h]; rfl
theorem prtI_some {o : Option Nat} {x : Nat} (h : o = some x) : prtI o = (x : Int) := by rw [h]; rfl
/-- the end of a try in the model of the program: the last block, or none -/
theorem fin_none {blk : Bls} {p : List Lin} {i : Nat} {h : Int} {r : Lft × Rst} (e : prt p i 10 = none) : finN blk p i h r = r := by unfold finN; rw [e]
theorem fin_some {blk : Bls} {p : List Lin} {i x : Nat} {h : Int} {r : Lft × Rst} (e : prt p i 10 = some x) : finN blk p i h r = lasN blk x h r := by unfold finN; rw [e]
theorem Fw.self {xs : List Cls} {s : Rst} {r : Lft × Rst} (F : Fw xs s r) : Fw xs r.2 r := ⟨F.gd, Nat.le_refl _, Nat.le_refl _, F.rai⟩
set_option maxHeartbeats 4000000 in
set_option maxRecDepth 100000 in
theorem runTry_any (R m c n cap : Nat) (B A : Option Addr) (xs : List Cls) (p : List Lin) (blk : Bls) (C : Nat → Prop) (HB : BlOk R m c n cap B A xs p blk C) (HFw : BFw xs p blk C) (g : GoodP xs p) (i : Nat) (hi : i < p.length) (hC : ∀ x ∈ parts p i, C x) (h7 : knd p i = 7) (h : Int) (s : Rst) (gd : Gd xs s.2) (hh : Hd h s) (hsm : Sm (tryN blk xs p i h s).2) (lv hv : Value) (w : World) (H : Rn w R B m c xs A n cap p lv hv s.1 s.2) :
    RunOk R m c n cap B A xs p 79 #[.pointer (some ⟨R, 0, none⟩), .int .i64 i, .int .i64 h] lv hv w (tryN blk xs p i h s) := by
  have hCi := hC i (List.mem_cons_self ..)
  have F1 := HFw i h s hi hCi gd hh
  have F2 := F1.mid HFw hi hC hh
  have hp := g.len
  have hX : tryN blk xs p i h s = finN blk p i h (midN blk xs p i h (blk i h s)) := rfl
  rw [hX] at hsm ⊢
  clear hX
  obtain ⟨r1, hr1⟩ : ∃ r, blk i h s = r := ⟨_, rfl⟩
  rw [hr1] at hsm F1 F2 ⊢
  obtain ⟨r3, hr3⟩ : ∃ r, midN blk xs p i h r1 = r := ⟨_, rfl⟩
  have F3 := (F1.self.mid HFw hi hC (F1.hd hh))
  rw [hr3] at hsm F2 F3 ⊢
  have hsm3 : Sm r3.2 := by
    rcases hq : prt p i 10 with _ | x
    · rw [fin_none hq] at hsm; exact hsm
    · rw [fin_some hq] at hsm
      have m := prt_mem hq
      exact (HFw x (hdN h r3.1) r3.2 (parts_lt hi x m.1) (hC x m.1) F2.gd (F2.hdn hh)).sm hsm
  have hsm1 : Sm r1.2 := F3.sm hsm3
  have HLa := Lib.hid (fun (x : Nat) (lv2 hv2 : Value) (w2 : World) (hq : prt p i 10 = some x) (RN : Rn w2 R B m c xs A n cap p lv2 hv2 r3.2.1 r3.2.2) => attemptLast_any R m c n cap B A xs p blk C HB x (parts_lt hi x (prt_mem hq).1) (hC x (prt_mem hq).1) h r3.1 r3.2 F2.gd (F2.hdn hh) (by rw [fin_some hq] at hsm; exact hsm) lv2 hv2 w2 RN)
  obtain ⟨T, hT⟩ : ∃ T, finN blk p i h r3 = T := ⟨_, rfl⟩
  have HTn := Lib.hid (fun (hq : prt p i 10 = none) => (hT.symm.trans (fin_none hq) : T = r3))
  have HTs := Lib.hid (fun (x : Nat) (hq : prt p i 10 = some x) => (hT.symm.trans (fin_some hq) : T = lasN blk x h r3))
  rw [hT] at hsm ⊢
  clear hT hsm
  rcases r1 with ⟨l1, s1⟩
  rcases r3 with ⟨l3, s3⟩
  have hh1 : Hd h s1 := F1.hd hh
  have gd1 : Gd xs s1.2 := F1.gd
  have HB1 := HB i h s lv hv w hi hCi gd hh (by rw [hr1]; exact hsm1) H
  rw [hr1] at HB1
  have HE1 : Hid (isNil l1 = true → prt p i 9 = none → l3 = l1 ∧ s3 = s1) := by
    show _ → _
    intro e hq
    cases l1 <;> first | (cases e; done) | skip
    have e2 : midN blk xs p i h (.nil, s1) = (.nil, s1) := by show orN _ _ _ _ = _; unfold orN; rw [hq]
    rw [e2] at hr3; injection hr3 with a b; exact ⟨a.symm, b.symm⟩
  have HE2 : Hid (isNil l1 = true → ∀ (x : Nat) lv2 hv2 w2, prt p i 9 = some x → Rn w2 R B m c xs A n cap p lv2 hv2 s1.1 s1.2 → AtOk R m c n cap B A xs p 93 #[.pointer (some ⟨R, 0, none⟩), .int .i64 x, .int .i64 h] lv2 hv2 w2 (l3, s3)) := by
    show _ → _
    intro e x lv2 hv2 w2 hq RN
    cases l1 <;> first | (cases e; done) | skip
    have e2 : midN blk xs p i h (.nil, s1) = blk x h s1 := by show orN _ _ _ _ = _; unfold orN; rw [hq]
    rw [e2] at hr3
    have m := prt_mem hq
    have := HB x h s1 lv2 hv2 w2 (parts_lt hi x m.1) (hC x m.1) gd1 hh1 (by rw [hr3]; exact hsm3) RN
    rw [hr3] at this; exact this
  have HR0 : Hid (isRai l1 = true → 0 ≤ raiF l1 ∧ raiF l1 < (s1.2.length : Int)) := by
    show _ → _
    intro e
    cases l1 <;> first | (cases e; done) | skip
    exact F1.rai _ rfl
  have HR1 : Hid (isRai l1 = true → ¬ 0 ≤ ctE xs p (clsF s1 (raiF l1)) (exL p i) → l3 = l1 ∧ s3 = s1) := by
    show _ → _
    intro e hq
    cases l1 <;> first | (cases e; done) | skip
    rename_i f
    have e2 : midN blk xs p i h (.rai f, s1) = (.rai f, s1) := if_neg hq
    rw [e2] at hr3; injection hr3 with a b; exact ⟨a.symm, b.symm⟩
  have HR2 : Hid (isRai l1 = true → 0 ≤ ctE xs p (clsF s1 (raiF l1)) (exL p i) → ∀ lv2 hv2 w2, Rn w2 R B m c xs A n cap p lv2 hv2 s1.1 s1.2 → AtOk R m c n cap B A xs p 93 #[.pointer (some ⟨R, 0, none⟩), .int .i64 (ctE xs p (clsF s1 (raiF l1)) (exL p i)), .int .i64 (raiF l1)] lv2 hv2 w2 (l3, s3)) := by
    show _ → _
    intro e hq lv2 hv2 w2 RN
    cases l1 <;> first | (cases e; done) | skip
    rename_i f
    have hq2 : 0 ≤ ctE xs p (clsF s1 f) (exL p i) := hq
    have e2 : midN blk xs p i h (.rai f, s1) = blk (ctE xs p (clsF s1 f) (exL p i)).toNat f s1 := if_pos hq2
    rw [e2] at hr3
    show AtOk R m c n cap B A xs p _ #[.pointer (some ⟨R, 0, none⟩), .int .i64 (ctE xs p (clsF s1 f) (exL p i)), .int .i64 f] lv2 hv2 w2 (l3, s3)
    rcases ctE_mem xs p (clsF s1 f) (exL p i) with e3 | ⟨x, hx, e3⟩
    · rw [e3] at hq2; exact absurd hq2 (by decide)
    · have m := exL_mem hx
      rw [e3] at hr3 ⊢
      have := HB x f s1 lv2 hv2 w2 (parts_lt hi x m.1) (hC x m.1) gd1 (F1.hdr rfl) (by rw [show x = ((x : Int)).toNat by omega, hr3]; exact hsm3) RN
      rw [show blk x f s1 = (l3, s3) from hr3] at this; exact this
  have HO1 : Hid (isNil l1 = false → isRai l1 = false → l3 = l1 ∧ s3 = s1) := by
    show _ → _
    intro e e1
    cases l1 <;> first | (cases e; done) | (cases e1; done) | (injection hr3 with a b; exact ⟨a.symm, b.symm⟩)
  have HX1 := Lib.hid (fun (e : isRai l1 = true) (lv2 hv2 : Value) (w2 : World) (RN : Rn w2 R B m c xs A n cap p lv2 hv2 s1.1 s1.2) => exceptFor_any R m c n cap B A xs p lv2 hv2 s1 i (raiF l1) g hi h7 gd1 (HR0.out e).1 (HR0.out e).2 w2 RN)
  obtain rfl := H.T.len
  have q2l := eql_lf l1
  have q4l := eg_eql l1
  have q5l := ta_rai l1
  clear HB HFw F1 F2 F3 hsm3 hsm1 hr3 hr1 HR0 hh1 gd1 gd hh hCi hC
  unfold RunOk
  show Calls _ _ _ _ _
  generalize isNil l1 = nl at *
  generalize isRai l1 = ri at *
  generalize raiF l1 = rf at *
  generalize ctE xs p (clsF s1 rf) (exL p i) = ce at *
  go_enter Tryz.func79, Tryz.ntmps79
  go_wp2_with fail
  refine (show Calls _ _ _ _ _ from HB1).mono ?_
  rintro e w1 ⟨rfl, lv1, hv1, RN, KP⟩
  clear HB1 H
  cases nl
  · cases ri
    · obtain ⟨rfl, rfl⟩ := HO1.out (by trivial) (by trivial)
      clear HE1 HE2 HR1 HR2 HO1 HX1
      have t1 := RN.c1
      have zz := RN.z
      go_wp2_with fail
      refine (partOf_any _ p.length cap p i 10 hi hp _ RN.T).mono ?_
      rintro e wp ⟨rfl, hlp⟩
      have RNp := RN.le hlp
      have KPp := KP.trans (Kp.of_le R _ _ hlp)
      clear RN KP t1 zz
      rcases hq : prt p i 10 with _ | x
      · have hT := HTn.out hq
        clear HTn HTs HLa
        rw [prtI_none rfl]
        have HR := Lib.hid (And.intro RNp KPp)
        clear RNp KPp
        go_wp2_with fail
        refine (leave_any _ _).mono ?_
        rintro e w6 ⟨rfl, rfl⟩
        subst hT
        cases l3
        case nil => (simp only [lfE]; go_wp2; go_end0; exact ⟨rfl, _, _, HR.out.1, HR.out.2⟩)
        all_goals exact ⟨rfl, rfl, _, _, HR.out.1, HR.out.2⟩
      · have hT := HTs.out x hq
        have HLx := HLa.out x _ _ _ hq RNp
        clear HTn HTs HLa
        rw [prtI_some rfl]
        have hx0 : (0 : Int) ≤ (x : Int) := by omega
        have hxb : decide ((0 : Int) ≤ (x : Int)) = true := decide_eq_true hx0
        go_wp2_with fail
        refine (show Calls _ _ _ _ _ from HLx).mono ?_
        rintro e w6 ⟨rfl, lv6, hv6, RN6, KP6⟩
        have HR := Lib.hid (And.intro RN6 (KPp.trans KP6))
        clear RN6 KP6 RNp KPp HLx
        rw [← hT] at HR ⊢
        clear hT
        rcases T with ⟨lT, sT⟩
        go_wp2_with fail
        refine (leave_any lT _).mono ?_
        rintro e w7 ⟨rfl, rfl⟩
        cases lT
        case nil => (simp only [lfE]; go_wp2; go_end0; exact ⟨rfl, _, _, HR.out.1, HR.out.2⟩)
        all_goals exact ⟨rfl, rfl, _, _, HR.out.1, HR.out.2⟩
    · have HRa := HR1.out (by trivial)
      have HRb := HR2.out (by trivial)
      have HXa := HX1.out (by trivial)
      clear HE1 HE2 HR1 HR2 HO1 HX1
      have L0 := Le.new w1 (.cells #[.int .i64 rf] 86)
      replace RN := RN.le L0
      replace KP := KP.trans (Kp.of_le R _ _ L0)
      have HXb := HXa _ _ _ RN
      have bx : (w1.alloc (.cells #[.int .i64 rf] 86)).cell? ⟨w1.heap.size, 0, none⟩ = some (.int .i64 rf) := by rw [World.cell?_alloc_at _ _ _ _ rfl]; rfl
      have zbx : w1.heap.size < (w1.alloc (.cells #[.int .i64 rf] 86)).heap.size := by simp
      clear L0 HXa
      go_wp2_with fail
      refine HXb.mono ?_
      rintro e w2 ⟨rfl, hl2⟩
      replace bx := (hl2.cell zbx).trans bx
      replace RN := RN.le hl2
      replace KP := KP.trans (Kp.of_le R _ _ hl2)
      clear HXb zbx hl2
      by_cases hce : 0 ≤ ce
      · have hcb : decide (0 ≤ ce) = true := decide_eq_true hce
        have HRc := HRb hce _ _ _ RN
        clear HRa HRb
        go_wp2_with fail
        refine (show Calls _ _ _ _ _ from HRc).mono ?_
        rintro e w3 ⟨rfl, lv3, hv3, RN3, KP3⟩
        replace KP := KP.trans KP3
        replace RN := RN3
        clear KP3 RN3 HRc bx
        have t1 := RN.c1
        have zz := RN.z
        go_wp2_with fail
        refine (partOf_any _ p.length cap p i 10 hi hp _ RN.T).mono ?_
        rintro e wp ⟨rfl, hlp⟩
        have RNp := RN.le hlp
        have KPp := KP.trans (Kp.of_le R _ _ hlp)
        clear RN KP t1 zz
        rcases hq : prt p i 10 with _ | x
        · have hT := HTn.out hq
          clear HTn HTs HLa
          rw [prtI_none rfl]
          have HR := Lib.hid (And.intro RNp KPp)
          clear RNp KPp
          go_wp2_with fail
          refine (leave_any _ _).mono ?_
          rintro e w6 ⟨rfl, rfl⟩
          subst hT
          cases l3
          case nil => (simp only [lfE]; go_wp2; go_end0; exact ⟨rfl, _, _, HR.out.1, HR.out.2⟩)
          all_goals exact ⟨rfl, rfl, _, _, HR.out.1, HR.out.2⟩
        · have hT := HTs.out x hq
          have HLx := HLa.out x _ _ _ hq RNp
          clear HTn HTs HLa
          rw [prtI_some rfl]
          have hx0 : (0 : Int) ≤ (x : Int) := by omega
          have hxb : decide ((0 : Int) ≤ (x : Int)) = true := decide_eq_true hx0
          go_wp2_with fail
          refine (show Calls _ _ _ _ _ from HLx).mono ?_
          rintro e w6 ⟨rfl, lv6, hv6, RN6, KP6⟩
          have HR := Lib.hid (And.intro RN6 (KPp.trans KP6))
          clear RN6 KP6 RNp KPp HLx
          rw [← hT] at HR ⊢
          clear hT
          rcases T with ⟨lT, sT⟩
          go_wp2_with fail
          refine (leave_any lT _).mono ?_
          rintro e w7 ⟨rfl, rfl⟩
          cases lT
          case nil => (simp only [lfE]; go_wp2; go_end0; exact ⟨rfl, _, _, HR.out.1, HR.out.2⟩)
          all_goals exact ⟨rfl, rfl, _, _, HR.out.1, HR.out.2⟩
      · have hcb : decide (0 ≤ ce) = false := decide_eq_false hce
        obtain ⟨rfl, rfl⟩ := HRa (by omega)
        clear HRa HRb
        have t1 := RN.c1
        have zz := RN.z
        go_wp2_with fail
        refine (partOf_any _ p.length cap p i 10 hi hp _ RN.T).mono ?_
        rintro e wp ⟨rfl, hlp⟩
        have RNp := RN.le hlp
        have KPp := KP.trans (Kp.of_le R _ _ hlp)
        clear RN KP t1 zz
        rcases hq : prt p i 10 with _ | x
        · have hT := HTn.out hq
          clear HTn HTs HLa
          rw [prtI_none rfl]
          have HR := Lib.hid (And.intro RNp KPp)
          clear RNp KPp
          go_wp2_with fail
          refine (leave_any _ _).mono ?_
          rintro e w6 ⟨rfl, rfl⟩
          subst hT
          cases l3
          case nil => (simp only [lfE]; go_wp2; go_end0; exact ⟨rfl, _, _, HR.out.1, HR.out.2⟩)
          all_goals exact ⟨rfl, rfl, _, _, HR.out.1, HR.out.2⟩
        · have hT := HTs.out x hq
          have HLx := HLa.out x _ _ _ hq RNp
          clear HTn HTs HLa
          rw [prtI_some rfl]
          have hx0 : (0 : Int) ≤ (x : Int) := by omega
          have hxb : decide ((0 : Int) ≤ (x : Int)) = true := decide_eq_true hx0
          go_wp2_with fail
          refine (show Calls _ _ _ _ _ from HLx).mono ?_
          rintro e w6 ⟨rfl, lv6, hv6, RN6, KP6⟩
          have HR := Lib.hid (And.intro RN6 (KPp.trans KP6))
          clear RN6 KP6 RNp KPp HLx
          rw [← hT] at HR ⊢
          clear hT
          rcases T with ⟨lT, sT⟩
          go_wp2_with fail
          refine (leave_any lT _).mono ?_
          rintro e w7 ⟨rfl, rfl⟩
          cases lT
          case nil => (simp only [lfE]; go_wp2; go_end0; exact ⟨rfl, _, _, HR.out.1, HR.out.2⟩)
          all_goals exact ⟨rfl, rfl, _, _, HR.out.1, HR.out.2⟩
  · have HEa := HE1.out (by trivial)
    have HEb := HE2.out (by trivial)
    clear HE1 HE2 HR1 HR2 HO1 HX1
    have u1 := RN.c1
    have uz := RN.z
    go_wp2_with fail
    refine (partOf_any _ p.length cap p i 9 hi hp _ RN.T).mono ?_
    rintro e w2 ⟨rfl, hl2⟩
    replace RN := RN.le hl2
    replace KP := KP.trans (Kp.of_le R _ _ hl2)
    clear hl2 u1 uz
    rcases hq9 : prt p i 9 with _ | x9
    · rw [prtI_none rfl]
      obtain ⟨rfl, rfl⟩ := HEa hq9
      clear HEa HEb
      have t1 := RN.c1
      have zz := RN.z
      go_wp2_with fail
      refine (partOf_any _ p.length cap p i 10 hi hp _ RN.T).mono ?_
      rintro e wp ⟨rfl, hlp⟩
      have RNp := RN.le hlp
      have KPp := KP.trans (Kp.of_le R _ _ hlp)
      clear RN KP t1 zz
      rcases hq : prt p i 10 with _ | x
      · have hT := HTn.out hq
        clear HTn HTs HLa
        rw [prtI_none rfl]
        have HR := Lib.hid (And.intro RNp KPp)
        clear RNp KPp
        go_wp2_with fail
        refine (leave_any _ _).mono ?_
        rintro e w6 ⟨rfl, rfl⟩
        subst hT
        cases l3
        case nil => (simp only [lfE]; go_wp2; go_end0; exact ⟨rfl, _, _, HR.out.1, HR.out.2⟩)
        all_goals exact ⟨rfl, rfl, _, _, HR.out.1, HR.out.2⟩
      · have hT := HTs.out x hq
        have HLx := HLa.out x _ _ _ hq RNp
        clear HTn HTs HLa
        rw [prtI_some rfl]
        have hx0 : (0 : Int) ≤ (x : Int) := by omega
        have hxb : decide ((0 : Int) ≤ (x : Int)) = true := decide_eq_true hx0
        go_wp2_with fail
        refine (show Calls _ _ _ _ _ from HLx).mono ?_
        rintro e w6 ⟨rfl, lv6, hv6, RN6, KP6⟩
        have HR := Lib.hid (And.intro RN6 (KPp.trans KP6))
        clear RN6 KP6 RNp KPp HLx
        rw [← hT] at HR ⊢
        clear hT
        rcases T with ⟨lT, sT⟩
        go_wp2_with fail
        refine (leave_any lT _).mono ?_
        rintro e w7 ⟨rfl, rfl⟩
        cases lT
        case nil => (simp only [lfE]; go_wp2; go_end0; exact ⟨rfl, _, _, HR.out.1, HR.out.2⟩)
        all_goals exact ⟨rfl, rfl, _, _, HR.out.1, HR.out.2⟩
    · rw [prtI_some rfl]
      have hx90 : (0 : Int) ≤ (x9 : Int) := by omega
      have hx9b : decide ((0 : Int) ≤ (x9 : Int)) = true := decide_eq_true hx90
      have HEc := HEb x9 _ _ _ hq9 RN
      clear HEa HEb
      go_wp2_with fail
      refine (show Calls _ _ _ _ _ from HEc).mono ?_
      rintro e w3 ⟨rfl, lv3, hv3, RN3, KP3⟩
      replace KP := KP.trans KP3
      replace RN := RN3
      clear KP3 RN3 HEc
      have t1 := RN.c1
      have zz := RN.z
      go_wp2_with fail
      refine (partOf_any _ p.length cap p i 10 hi hp _ RN.T).mono ?_
      rintro e wp ⟨rfl, hlp⟩
      have RNp := RN.le hlp
      have KPp := KP.trans (Kp.of_le R _ _ hlp)
      clear RN KP t1 zz
      rcases hq : prt p i 10 with _ | x
      · have hT := HTn.out hq
        clear HTn HTs HLa
        rw [prtI_none rfl]
        have HR := Lib.hid (And.intro RNp KPp)
        clear RNp KPp
        go_wp2_with fail
        refine (leave_any _ _).mono ?_
        rintro e w6 ⟨rfl, rfl⟩
        subst hT
        cases l3
        case nil => (simp only [lfE]; go_wp2; go_end0; exact ⟨rfl, _, _, HR.out.1, HR.out.2⟩)
        all_goals exact ⟨rfl, rfl, _, _, HR.out.1, HR.out.2⟩
      · have hT := HTs.out x hq
        have HLx := HLa.out x _ _ _ hq RNp
        clear HTn HTs HLa
        rw [prtI_some rfl]
        have hx0 : (0 : Int) ≤ (x : Int) := by omega
        have hxb : decide ((0 : Int) ≤ (x : Int)) = true := decide_eq_true hx0
        go_wp2_with fail
        refine (show Calls _ _ _ _ _ from HLx).mono ?_
        rintro e w6 ⟨rfl, lv6, hv6, RN6, KP6⟩
        have HR := Lib.hid (And.intro RN6 (KPp.trans KP6))
        clear RN6 KP6 RNp KPp HLx
        rw [← hT] at HR ⊢
        clear hT
        rcases T with ⟨lT, sT⟩
        go_wp2_with fail
        refine (leave_any lT _).mono ?_
        rintro e w7 ⟨rfl, rfl⟩
        cases lT
        case nil => (simp only [lfE]; go_wp2; go_end0; exact ⟨rfl, _, _, HR.out.1, HR.out.2⟩)
        all_goals exact ⟨rfl, rfl, _, _, HR.out.1, HR.out.2⟩
end
end Go.Proofs.YtgjlmfjmjglplaaGreat
