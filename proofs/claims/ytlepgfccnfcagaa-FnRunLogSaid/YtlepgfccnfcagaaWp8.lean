/- one text of RnF, RnG, PgD, PfJ, OneLin, PhPr, PfN -/
import Derived.Test.YtlepgfccnfcagaaWp7
import Derived.Test.YtlepgfccnfcagaaWp5
import Derived.Test.YtlepgfccnfcagaaWp1
import Derived.Test.YtlepgfccnfcagaaWp3
import Derived.Test.YtlepgfccnfcagaaWp2
namespace Go.Proofs.Ytlepgfccnfcagaa
open Go.RowKit
set_option linter.unusedVariables false
section
theorem rng_iff2 {a b x : Int} (h : rng a b x = true) : a ≤ x ∧ x ≤ b := by unfold rng at h; simpa using h
theorem with_ab {xs : List Cls} {p : List Lin} (g : GoodP xs p) {i : Nat} (hi : i < p.length) (h : knd p i = 11) : (0 ≤ p[i].a ∧ p[i].a ≤ 9) ∧ (0 ≤ p[i].b ∧ p[i].b ≤ 1) := by
  have h1 := (g.line i hi).1
  rw [knd_at hi] at h
  unfold numS at h1
  rw [h, if_neg (by decide), if_neg (by decide), if_neg (by decide), if_pos rfl, Bool.and_eq_true] at h1
  exact ⟨rng_iff2 h1.1, rng_iff2 h1.2⟩
theorem loop_a {xs : List Cls} {p : List Lin} (g : GoodP xs p) {i : Nat} (hi : i < p.length) (h : knd p i = 12) : 0 ≤ p[i].a ∧ p[i].a ≤ 3 := by
  have h1 := (g.line i hi).1
  rw [knd_at hi] at h
  unfold numS at h1
  rw [h, if_neg (by decide), if_neg (by decide), if_neg (by decide), if_neg (by decide), if_pos rfl, Bool.and_eq_true] at h1
  exact rng_iff2 h1.1
set_option maxHeartbeats 2000000 in
set_option maxRecDepth 100000 in
theorem runWith_any (R m c n cap : Nat) (B A : Option Addr) (xs : List Cls) (p : List Lin) (blk : Bls) (C : Nat → Prop) (HB : BlOk R m c n cap B A xs p blk C) (HFw : BFw xs p blk C) (g : GoodP xs p) (i : Nat) (hi : i < p.length) (hC : C i) (h11 : knd p i = 11) (h : Int) (s : Rst) (gd : Gd xs s.2) (hh : Hd h s) (hsm : Sm (withN blk p i h s).2) (lv hv : Value) (w : World) (H : Rn w R B m c xs A n cap p lv hv s.1 s.2) :
    RunOk R m c n cap B A xs p 85 #[.pointer (some ⟨R, 0, none⟩), .int .i64 i, .int .i64 h] lv hv w (withN blk p i h s) := by
  have hab := with_ab g hi h11
  have hp := g.len
  have hA : lnA p i = p[i].a := lnA_at hi
  have hBc : lnBc p i = p[i].b := lnBc_at hi
  have F := HFw i h (s.1 ++ [100 + p[i].a], s.2) hi hC gd hh
  have HX : Hid (withN blk p i h s = (quiet (decide (p[i].b = 1)) (blk i h (s.1 ++ [100 + p[i].a], s.2)).1, ((blk i h (s.1 ++ [100 + p[i].a], s.2)).2.1 ++ [200 + p[i].a], (blk i h (s.1 ++ [100 + p[i].a], s.2)).2.2))) := by show _ = _; unfold withN; rw [hA, hBc]
  have hsm1 : Sm (blk i h (s.1 ++ [100 + p[i].a], s.2)).2 := by
    rw [HX.out] at hsm
    have h1 := hsm.1
    have h2 : ((blk i h (s.1 ++ [100 + p[i].a], s.2)).2.1 ++ [200 + p[i].a]).length ≤ 1000000 := h1
    rw [List.length_append] at h2
    exact ⟨by omega, hsm.2⟩
  have hsm0 := F.sm hsm1
  have hlg : s.1.length ≤ 1000000 := by have h1 : (s.1 ++ [100 + p[i].a]).length ≤ 1000000 := hsm0.1; rw [List.length_append] at h1; omega
  have HBx : ∀ lv2 hv2 w2, Rn w2 R B m c xs A n cap p lv2 hv2 (s.1 ++ [100 + p[i].a]) s.2 → AtOk R m c n cap B A xs p 106 #[.pointer (some ⟨R, 0, none⟩), .int .i64 i, .int .i64 h] lv2 hv2 w2 (blk i h (s.1 ++ [100 + p[i].a], s.2)) := fun lv2 hv2 w2 H2 => HB i h (s.1 ++ [100 + p[i].a], s.2) lv2 hv2 w2 hi hC gd hh hsm1 H2
  clear F hsm HB HFw hsm0
  generalize withN blk p i h s = z at *
  obtain rfl := HX.out
  clear HX
  have hlen3 := hsm1.1
  clear hsm1 gd hh hA hBc
  generalize blk i h (s.1 ++ [100 + p[i].a], s.2) = q at *
  rcases q with ⟨l, s3⟩
  have c1 := H.c1
  have hz := H.z
  obtain rfl := H.T.len
  obtain ⟨b5, off5, rfl, hb5, d0, d1, d2, d3, -⟩ := H.T.lin_at hi
  have hi0 : (0 : Int) ≤ (i : Int) := by omega
  have hin : (i : Int) < (p.length : Int) := by omega
  generalize p[i].depth = vd at *
  generalize p[i].kind = vk at *
  generalize p[i].a = va at *
  generalize p[i].b = vb at *
  have LX := Le.new w (.cells #[.int .i64 vd, .int .i64 vk, .int .i64 va, .int .i64 vb] 42)
  have b2 : (w.alloc (.cells #[.int .i64 vd, .int .i64 vk, .int .i64 va, .int .i64 vb] 42)).cell? ⟨w.heap.size, 2, none⟩ = some (.int .i64 va) := by rw [World.cell?_alloc_at _ _ _ _ rfl]; rfl
  have b3 : (w.alloc (.cells #[.int .i64 vd, .int .i64 vk, .int .i64 va, .int .i64 vb] 42)).cell? ⟨w.heap.size, 3, none⟩ = some (.int .i64 vb) := by rw [World.cell?_alloc_at _ _ _ _ rfl]; rfl
  have zx : w.heap.size < (w.alloc (.cells #[.int .i64 vd, .int .i64 vk, .int .i64 va, .int .i64 vb] 42)).heap.size := by simp
  have hneR : w.heap.size ≠ R := by omega
  have hlw : lv.ownBlock ≠ some w.heap.size := fun e => by have := (H.O.lt _ e).2; omega
  have hhw : hv.ownBlock ≠ some w.heap.size := fun e => by have := (H.H.lt _ e).2; omega
  have H0 := H.le LX
  have K0 := Kp.of_le R lv hv LX
  have HQ1 : Hid (isRai l = false → quiet (decide (vb = 1)) l = l) := by show _ → _; cases l <;> first | (intro e; cases e; done) | (intro _; rfl)
  have HQ2 : Hid (isRai l = true → quiet (decide (vb = 1)) l = cond (decide (vb = 1)) .nil l) := by show _ → _; cases l <;> first | (intro e; cases e; done) | (intro _; show (if _ then _ else _) = _; cases decide (vb = 1) <;> rfl)
  generalize quiet (decide (vb = 1)) l = lq at *
  unfold RunOk
  show Calls _ _ _ _ _
  go_enter Try.func85, Try.ntmps85
  go_wp2_with fail
  refine (tell_any R m c _ cap B _ xs p lv hv s.1 s.2 (100 + va) ⟨by omega, by omega⟩ hlg _ H0).mono ?_
  rintro e w2 ⟨rfl, lv2, RN2, KP2⟩
  replace b2 := KP2.cell zx hneR hlw hhw b2
  replace b3 := KP2.cell zx hneR hlw hhw b3
  have zx2 := Nat.lt_of_lt_of_le zx KP2.size
  replace hlw := KP2.ownL zx hlw
  have KQ := K0.trans KP2
  clear H0 K0 KP2 H d0 d1 d2 d3 c1
  go_wp2_with fail
  refine (show Calls _ _ _ _ _ from HBx lv2 hv w2 RN2).mono ?_
  rintro e w3 ⟨rfl, lv3, hv3, RN3, KP3⟩
  replace b2 := KP3.cell zx2 hneR hlw hhw b2
  replace b3 := KP3.cell zx2 hneR hlw hhw b3
  have zx3 := Nat.lt_of_lt_of_le zx2 KP3.size
  have hlw3 := KP3.ownL zx2 hlw
  have hhw3 := KP3.ownH zx2 hhw
  replace KQ := KQ.trans KP3
  clear KP3 RN2 HBx
  go_wp2_with fail
  refine (tell_any R m c _ cap B _ xs p lv3 hv3 s3.1 s3.2 (200 + va) ⟨by omega, by omega⟩ hlen3 _ RN3).mono ?_
  rintro e w4 ⟨rfl, lv4, RN4, KP4⟩
  replace b3 := KP4.cell zx3 hneR hlw3 hhw3 b3
  replace KQ := KQ.trans KP4
  have zx4 := Nat.lt_of_lt_of_le zx3 KP4.size
  clear KP4 RN3 b2
  have q1 := ta_rai l
  have L5 := Le.new w4 (.cells #[.int .i64 (raiF l)] 85)
  have b5 := (L5.cell zx4).trans b3
  have HR := Lib.hid (And.intro (RN4.le L5) (KQ.trans (Kp.of_le R lv4 hv3 L5)))
  clear RN4 KQ
  generalize isRai l = ri at *
  generalize raiF l = rf at *
  cases ri
  · obtain rfl : lq = l := HQ1.out (by trivial)
    clear HQ1 HQ2
    go_wp2_with fail
    refine (leave_any lq _).mono ?_
    rintro e w6 ⟨rfl, rfl⟩
    cases lq
    case nil => (go_wp2; go_end0; exact ⟨rfl, _, _, HR.out.1, HR.out.2⟩)
    all_goals exact ⟨rfl, rfl, _, _, HR.out.1, HR.out.2⟩
  · have hq2 := HQ2.out (by trivial)
    clear HQ1 HQ2
    by_cases hb : vb = 1
    · have hbb : decide (vb = 1) = true := decide_eq_true hb
      rw [hbb] at hq2
      obtain rfl : lq = .nil := hq2
      go_wp2
      exact bodyPost_ret (v := .tuple #[]) (by simp [results, Try.results85, go_sem]) rfl ⟨rfl, _, _, HR.out.1, HR.out.2⟩
    · have hbb : decide (vb = 1) = false := decide_eq_false hb
      rw [hbb] at hq2
      obtain rfl : lq = l := hq2
      go_wp2_with fail
      refine (leave_any lq _).mono ?_
      rintro e w6 ⟨rfl, rfl⟩
      cases lq
      case nil => (go_wp2; go_end0; exact ⟨rfl, _, _, HR.out.1, HR.out.2⟩)
      all_goals exact ⟨rfl, rfl, _, _, HR.out.1, HR.out.2⟩
theorem pan_lf {l : Lft} (h : isNil l = false) (w : World) : (Instr.panic (lfV l)).run Try.prog w = .halt (.panic (lfV l)) w := by cases l <;> first | (cases h; done) | rfl
theorem lfE_of {l : Lft} (h : isNil l = false) : lfE l = .panicked [{ v := lfV l, recovered := false }] := by cases l <;> first | (cases h; done) | rfl
theorem loop_sm {xs : List Cls} {p : List Lin} {blk : Bls} {C : Nat → Prop} (H : BFw xs p blk C) {i : Nat} (hi : i < p.length) (ho : C i) {h : Int} {n : Nat} {s : Rst} (gd : Gd xs s.2) (hh : Hd h s) (hs : Sm (loopN blk i h (n + 1) s).2) : Sm (blk i h s).2 := by
  have F := H i h s hi ho gd hh
  unfold loopN at hs
  rcases hb : blk i h s with ⟨l, s2⟩
  rw [hb] at F hs
  rcases l with _ | v | f | _ | _
  · exact (Fw.loop H hi ho n s2 F.gd (F.hd hh)).sm hs
  · exact hs
  · exact hs
  · exact hs
  · exact (Fw.loop H hi ho n s2 F.gd (F.hd hh)).sm hs
theorem loop_go {blk : Bls} {i : Nat} {h : Int} {n : Nat} {s s2 : Rst} {l : Lft} (e : blk i h s = (l, s2)) (hl : l = .nil ∨ l = .cnt) : loopN blk i h (n + 1) s = loopN blk i h n s2 := by
  rw [loopN.eq_def]; simp only [e]
  rcases hl with rfl | rfl <;> rfl
theorem loop_out {blk : Bls} {i : Nat} {h : Int} {n : Nat} {s s2 : Rst} {l : Lft} (e : blk i h s = (l, s2)) (hl : isNil l = false) (hl2 : isCnt l = false) : loopN blk i h (n + 1) s = (cond (isBrk l) .nil l, s2) := by
  rw [loopN.eq_def]; simp only [e]
  cases l <;> first | (cases hl; done) | (cases hl2; done) | rfl
set_option maxHeartbeats 2000000 in
set_option maxRecDepth 100000 in
theorem runLoop_any (R m c n cap : Nat) (B A : Option Addr) (xs : List Cls) (p : List Lin) (blk : Bls) (C : Nat → Prop) (HB : BlOk R m c n cap B A xs p blk C) (HFw : BFw xs p blk C) (g : GoodP xs p) (i : Nat) (hi : i < p.length) (hC : C i) (h12 : knd p i = 12) (h : Int) (s : Rst) (gd : Gd xs s.2) (hh : Hd h s) (hsm : Sm (loopN blk i h (lnA p i).toNat s).2) (lv hv : Value) (w : World) (H : Rn w R B m c xs A n cap p lv hv s.1 s.2) :
    RunOk R m c n cap B A xs p 86 #[.pointer (some ⟨R, 0, none⟩), .int .i64 i, .int .i64 h] lv hv w (loopN blk i h (lnA p i).toNat s) := by
  have ha := loop_a g hi h12
  have hA : lnA p i = p[i].a := lnA_at hi
  have c1 := H.c1
  have hz := H.z
  obtain rfl := H.T.len
  obtain ⟨b5, off5, rfl, hb5, d0, d1, d2, d3, -⟩ := H.T.lin_at hi
  have hi0 : (0 : Int) ≤ (i : Int) := by omega
  have hin : (i : Int) < (p.length : Int) := by omega
  rw [← hA] at ha d2
  clear hA h12
  generalize lnA p i = a at *
  obtain ⟨N, rfl⟩ := Int.eq_ofNat_of_zero_le ha.1
  rw [show ((N : Nat) : Int).toNat = N by omega] at hsm ⊢
  have q2 := eql_lf
  have q4 := eg_eql
  have q5 := ta_cnt
  have q6 := ta_brk
  unfold RunOk
  show Calls _ _ _ _ _
  obtain ⟨T, hT⟩ : ∃ T, loopN blk i h N s = T := ⟨_, rfl⟩
  rw [hT] at hsm ⊢
  have HB0 := Lib.hid HB
  have HF0 := Lib.hid HFw
  clear HB HFw
  go_enter Try.func86, Try.ntmps86
  go_wp2
  go_loopw [17] (fun q wr => ∃ (k j : Nat) (s2 : Rst) (lv2 hv2 : Value), q = .int .i64 k ∧ k + j = N ∧ loopN blk i h j s2 = T ∧ Gd xs s2.2 ∧ Hd h s2 ∧ Rn wr R B m c xs (some ⟨b5, off5, none⟩) p.length cap p lv2 hv2 s2.1 s2.2 ∧ Kp R lv hv lv2 hv2 w wr) (fun q _ => N - (intOf q).toNat)
  case atStart => exact ⟨0, N, s, lv, hv, rfl, by omega, hT, gd, hh, H, Kp.refl R lv hv w⟩
  case round =>
    obtain ⟨k, j, s2, lv2, hv2, rfl, hkj, ht, gd2, hh2, RN, KP⟩ := hrel
    have HT := Lib.hid ht
    clear ht hT H gd hh
    by_cases hk : k < N
    · obtain ⟨j, rfl⟩ : ∃ j', j = j' + 1 := ⟨j - 1, by omega⟩
      have hkN : (k : Int) < (N : Int) := by omega
      have hs1 := loop_sm HF0.out hi hC gd2 hh2 (by rw [HT.out]; exact hsm)
      have F := HF0.out i h s2 hi hC gd2 hh2
      have HBx : AtOk R m c p.length cap B (some ⟨b5, off5, none⟩) xs p 106 #[.pointer (some ⟨R, 0, none⟩), .int .i64 i, .int .i64 h] lv2 hv2 wr (blk i h s2) := HB0.out i h s2 lv2 hv2 wr hi hC gd2 hh2 hs1 RN
      obtain ⟨r, hr⟩ : ∃ r, blk i h s2 = r := ⟨_, rfl⟩
      rw [hr] at HBx F
      rcases r with ⟨l, s3⟩
      have HG := Lib.hid (fun (hl : l = .nil ∨ l = .cnt) => (loop_go (n := j) hr hl).symm.trans HT.out)
      have HO := Lib.hid (fun (hl : isNil l = false) (hl2 : isCnt l = false) => (loop_out (n := j) hr hl hl2).symm.trans HT.out)
      have HN1 : Hid (isNil l = true → l = .nil) := by show _ → _; cases l <;> first | (intro e; cases e; done) | (intro _; rfl)
      have HN2 : Hid (isCnt l = true → l = .cnt) := by show _ → _; cases l <;> first | (intro e; cases e; done) | (intro _; rfl)
      have HP := Lib.hid (lfE_of (l := l))
      have HP2 := Lib.hid (pan_lf (l := l))
      have q2l := q2 l
      have q4l := q4 l
      have q5l := q5 l
      have q6l := q6 l
      clear q2 q4 q5 q6 HT hr hs1 RN
      go_wp2_with fail
      refine (show Calls _ _ _ _ _ from HBx).mono ?_
      rintro e w3 ⟨rfl, lv3, hv3, RN3, KP3⟩
      have KQ := KP.trans KP3
      have HH := Lib.hid (And.intro F.gd (F.hd hh2))
      clear HBx KP KP3 F gd2 hh2
      generalize isNil l = nl at *
      generalize isCnt l = cl at *
      generalize isBrk l = bl at *
      cases nl
      · cases cl
        · have HO2 := Lib.hid (HO.out (by trivial) (by trivial))
          clear HO HG HN1 HN2
          cases bl
          · have HO3 : Hid ((l, s3) = T) := HO2.out
            clear HO2
            have HR := Lib.hid (And.intro RN3 KQ)
            clear RN3 KQ
            have q7 := HP2.out (by trivial)
            go_wp2
            have hl := HO3.out
            subst hl
            exact ⟨rfl, (HP.out (by trivial)).symm, _, _, HR.out.1, HR.out.2⟩
          · have HO3 : Hid ((.nil, s3) = T) := HO2.out
            clear HO2
            have L5 := Le.new w3 (.cells #[] 119)
            have HR := Lib.hid (And.intro (RN3.le L5) (KQ.trans (Kp.of_le R lv3 hv3 L5)))
            clear L5
            clear RN3 KQ
            go_wp2
            have hl := HO3.out
            subst hl
            exact bodyPost_ret (v := .tuple #[]) (by simp [results, Try.results86, go_sem]) rfl ⟨rfl, _, _, HR.out.1, HR.out.2⟩
        · have HG2 := Lib.hid (HG.out (.inr (HN2.out (by trivial))))
          clear HO HG HN1 HN2
          go_wp2
          go_roundw
          case rel => exact ⟨k + 1, j, s3, lv3, hv3, by go_num, by omega, HG2.out, HH.out.1, HH.out.2, RN3, KQ⟩
          case measure => simp [intOf]; omega
      · have HG2 := Lib.hid (HG.out (.inl (HN1.out (by trivial))))
        clear HO HG HN1 HN2
        go_wp2
        go_roundw
        case rel => exact ⟨k + 1, j, s3, lv3, hv3, by go_num, by omega, HG2.out, HH.out.1, HH.out.2, RN3, KQ⟩
        case measure => simp [intOf]; omega
    · have hkN : ¬ (k : Int) < (N : Int) := by omega
      obtain rfl : j = 0 := by omega
      have HT2 : Hid ((.nil, s2) = T) := HT.out
      clear HT
      have HR := Lib.hid (And.intro RN KP)
      clear RN KP
      have hl := HT2.out
      subst hl
      go_wp2
      go_end0
      exact ⟨rfl, _, _, HR.out.1, HR.out.2⟩
end

section
theorem prtI_none {o : Option Nat} (h : o = none) : prtI o = -1 := by rw [h]; rfl
theorem prtI_some {o : Option Nat} {x : Nat} (h : o = some x) : prtI o = (x : Int) := by rw [h]; rfl
/-- the end of a try in the model of the program: the last block, or none -/
theorem fin_none {blk : Bls} {p : List Lin} {i : Nat} {h : Int} {r : Lft × Rst} (e : prt p i 10 = none) : finN blk p i h r = r := by unfold finN; rw [e]
theorem fin_some {blk : Bls} {p : List Lin} {i x : Nat} {h : Int} {r : Lft × Rst} (e : prt p i 10 = some x) : finN blk p i h r = lasN blk x h r := by unfold finN; rw [e]
theorem Fw.self {xs : List Cls} {s : Rst} {r : Lft × Rst} (F : Fw xs s r) : Fw xs r.2 r := ⟨F.gd, Nat.le_refl _, Nat.le_refl _, F.rai⟩
set_option maxHeartbeats 4000000 in
set_option maxRecDepth 100000 in
theorem runTry_any (R m c n cap : Nat) (B A : Option Addr) (xs : List Cls) (p : List Lin) (blk : Bls) (C : Nat → Prop) (HB : BlOk R m c n cap B A xs p blk C) (HFw : BFw xs p blk C) (g : GoodP xs p) (i : Nat) (hi : i < p.length) (hC : ∀ x ∈ parts p i, C x) (h7 : knd p i = 7) (h : Int) (s : Rst) (gd : Gd xs s.2) (hh : Hd h s) (hsm : Sm (tryN blk xs p i h s).2) (lv hv : Value) (w : World) (H : Rn w R B m c xs A n cap p lv hv s.1 s.2) :
    RunOk R m c n cap B A xs p 84 #[.pointer (some ⟨R, 0, none⟩), .int .i64 i, .int .i64 h] lv hv w (tryN blk xs p i h s) := by
  have hCi := hC i (List.mem_cons_self ..)
  have F1 := HFw i h s hi hCi gd hh
  have F2 := F1.mid HFw hi hC hh
  have hp := g.len
  have hX : tryN blk xs p i h s = finN blk p i h (midN blk xs p i h (blk i h s)) := rfl
  rw [hX] at hsm ⊢
  clear hX
  obtain ⟨r1, hr1⟩ : ∃ r, blk i h s = r := ⟨_, rfl⟩
  rw [hr1] at hsm F1 F2 ⊢
  obtain ⟨r3, hr3⟩ : ∃ r, midN blk xs p i h r1 = r := ⟨_, rfl⟩
  have F3 := (F1.self.mid HFw hi hC (F1.hd hh))
  rw [hr3] at hsm F2 F3 ⊢
  have hsm3 : Sm r3.2 := by
    rcases hq : prt p i 10 with _ | x
    · rw [fin_none hq] at hsm; exact hsm
    · rw [fin_some hq] at hsm
      have m := prt_mem hq
      exact (HFw x (hdN h r3.1) r3.2 (parts_lt hi x m.1) (hC x m.1) F2.gd (F2.hdn hh)).sm hsm
  have hsm1 : Sm r1.2 := F3.sm hsm3
  have HLa := Lib.hid (fun (x : Nat) (lv2 hv2 : Value) (w2 : World) (hq : prt p i 10 = some x) (RN : Rn w2 R B m c xs A n cap p lv2 hv2 r3.2.1 r3.2.2) => attemptLast_any R m c n cap B A xs p blk C HB x (parts_lt hi x (prt_mem hq).1) (hC x (prt_mem hq).1) h r3.1 r3.2 F2.gd (F2.hdn hh) (by rw [fin_some hq] at hsm; exact hsm) lv2 hv2 w2 RN)
  obtain ⟨T, hT⟩ : ∃ T, finN blk p i h r3 = T := ⟨_, rfl⟩
  have HTn := Lib.hid (fun (hq : prt p i 10 = none) => (hT.symm.trans (fin_none hq) : T = r3))
  have HTs := Lib.hid (fun (x : Nat) (hq : prt p i 10 = some x) => (hT.symm.trans (fin_some hq) : T = lasN blk x h r3))
  rw [hT] at hsm ⊢
  clear hT hsm
  rcases r1 with ⟨l1, s1⟩
  rcases r3 with ⟨l3, s3⟩
  have hh1 : Hd h s1 := F1.hd hh
  have gd1 : Gd xs s1.2 := F1.gd
  have HB1 := HB i h s lv hv w hi hCi gd hh (by rw [hr1]; exact hsm1) H
  rw [hr1] at HB1
  have HE1 : Hid (isNil l1 = true → prt p i 9 = none → l3 = l1 ∧ s3 = s1) := by
    show _ → _
    intro e hq
    cases l1 <;> first | (cases e; done) | skip
    have e2 : midN blk xs p i h (.nil, s1) = (.nil, s1) := by show orN _ _ _ _ = _; unfold orN; rw [hq]
    rw [e2] at hr3; injection hr3 with a b; exact ⟨a.symm, b.symm⟩
  have HE2 : Hid (isNil l1 = true → ∀ (x : Nat) lv2 hv2 w2, prt p i 9 = some x → Rn w2 R B m c xs A n cap p lv2 hv2 s1.1 s1.2 → AtOk R m c n cap B A xs p 106 #[.pointer (some ⟨R, 0, none⟩), .int .i64 x, .int .i64 h] lv2 hv2 w2 (l3, s3)) := by
    show _ → _
    intro e x lv2 hv2 w2 hq RN
    cases l1 <;> first | (cases e; done) | skip
    have e2 : midN blk xs p i h (.nil, s1) = blk x h s1 := by show orN _ _ _ _ = _; unfold orN; rw [hq]
    rw [e2] at hr3
    have m := prt_mem hq
    have := HB x h s1 lv2 hv2 w2 (parts_lt hi x m.1) (hC x m.1) gd1 hh1 (by rw [hr3]; exact hsm3) RN
    rw [hr3] at this; exact this
  have HR0 : Hid (isRai l1 = true → 0 ≤ raiF l1 ∧ raiF l1 < (s1.2.length : Int)) := by
    show _ → _
    intro e
    cases l1 <;> first | (cases e; done) | skip
    exact F1.rai _ rfl
  have HR1 : Hid (isRai l1 = true → ¬ 0 ≤ ctE xs p (clsF s1 (raiF l1)) (exL p i) → l3 = l1 ∧ s3 = s1) := by
    show _ → _
    intro e hq
    cases l1 <;> first | (cases e; done) | skip
    rename_i f
    have e2 : midN blk xs p i h (.rai f, s1) = (.rai f, s1) := if_neg hq
    rw [e2] at hr3; injection hr3 with a b; exact ⟨a.symm, b.symm⟩
  have HR2 : Hid (isRai l1 = true → 0 ≤ ctE xs p (clsF s1 (raiF l1)) (exL p i) → ∀ lv2 hv2 w2, Rn w2 R B m c xs A n cap p lv2 hv2 s1.1 s1.2 → AtOk R m c n cap B A xs p 106 #[.pointer (some ⟨R, 0, none⟩), .int .i64 (ctE xs p (clsF s1 (raiF l1)) (exL p i)), .int .i64 (raiF l1)] lv2 hv2 w2 (l3, s3)) := by
    show _ → _
    intro e hq lv2 hv2 w2 RN
    cases l1 <;> first | (cases e; done) | skip
    rename_i f
    have hq2 : 0 ≤ ctE xs p (clsF s1 f) (exL p i) := hq
    have e2 : midN blk xs p i h (.rai f, s1) = blk (ctE xs p (clsF s1 f) (exL p i)).toNat f s1 := if_pos hq2
    rw [e2] at hr3
    show AtOk R m c n cap B A xs p _ #[.pointer (some ⟨R, 0, none⟩), .int .i64 (ctE xs p (clsF s1 f) (exL p i)), .int .i64 f] lv2 hv2 w2 (l3, s3)
    rcases ctE_mem xs p (clsF s1 f) (exL p i) with e3 | ⟨x, hx, e3⟩
    · rw [e3] at hq2; exact absurd hq2 (by decide)
    · have m := exL_mem hx
      rw [e3] at hr3 ⊢
      have := HB x f s1 lv2 hv2 w2 (parts_lt hi x m.1) (hC x m.1) gd1 (F1.hdr rfl) (by rw [show x = ((x : Int)).toNat by omega, hr3]; exact hsm3) RN
      rw [show blk x f s1 = (l3, s3) from hr3] at this; exact this
  have HO1 : Hid (isNil l1 = false → isRai l1 = false → l3 = l1 ∧ s3 = s1) := by
    show _ → _
    intro e e1
    cases l1 <;> first | (cases e; done) | (cases e1; done) | (injection hr3 with a b; exact ⟨a.symm, b.symm⟩)
  have HX1 := Lib.hid (fun (e : isRai l1 = true) (lv2 hv2 : Value) (w2 : World) (RN : Rn w2 R B m c xs A n cap p lv2 hv2 s1.1 s1.2) => exceptFor_any R m c n cap B A xs p lv2 hv2 s1 i (raiF l1) g hi h7 gd1 (HR0.out e).1 (HR0.out e).2 w2 RN)
  obtain rfl := H.T.len
  have q2l := eql_lf l1
  have q4l := eg_eql l1
  have q5l := ta_rai l1
  clear HB HFw F1 F2 F3 hsm3 hsm1 hr3 hr1 HR0 hh1 gd1 gd hh hCi hC
  unfold RunOk
  show Calls _ _ _ _ _
  generalize isNil l1 = nl at *
  generalize isRai l1 = ri at *
  generalize raiF l1 = rf at *
  generalize ctE xs p (clsF s1 rf) (exL p i) = ce at *
  go_enter Try.func84, Try.ntmps84
  go_wp2_with fail
  refine (show Calls _ _ _ _ _ from HB1).mono ?_
  rintro e w1 ⟨rfl, lv1, hv1, RN, KP⟩
  clear HB1 H
  cases nl
  · cases ri
    · obtain ⟨rfl, rfl⟩ := HO1.out (by trivial) (by trivial)
      clear HE1 HE2 HR1 HR2 HO1 HX1
      have t1 := RN.c1
      have zz := RN.z
      go_wp2_with fail
      refine (partOf_any _ p.length cap p i 10 hi hp _ RN.T).mono ?_
      rintro e wp ⟨rfl, hlp⟩
      have RNp := RN.le hlp
      have KPp := KP.trans (Kp.of_le R _ _ hlp)
      clear RN KP t1 zz
      rcases hq : prt p i 10 with _ | x
      · have hT := HTn.out hq
        clear HTn HTs HLa
        rw [prtI_none rfl]
        have HR := Lib.hid (And.intro RNp KPp)
        clear RNp KPp
        go_wp2_with fail
        refine (leave_any _ _).mono ?_
        rintro e w6 ⟨rfl, rfl⟩
        subst hT
        cases l3
        case nil => (simp only [lfE]; go_wp2; go_end0; exact ⟨rfl, _, _, HR.out.1, HR.out.2⟩)
        all_goals exact ⟨rfl, rfl, _, _, HR.out.1, HR.out.2⟩
      · have hT := HTs.out x hq
        have HLx := HLa.out x _ _ _ hq RNp
        clear HTn HTs HLa
        rw [prtI_some rfl]
        have hx0 : (0 : Int) ≤ (x : Int) := by omega
        have hxb : decide ((0 : Int) ≤ (x : Int)) = true := decide_eq_true hx0
        go_wp2_with fail
        refine (show Calls _ _ _ _ _ from HLx).mono ?_
        rintro e w6 ⟨rfl, lv6, hv6, RN6, KP6⟩
        have HR := Lib.hid (And.intro RN6 (KPp.trans KP6))
        clear RN6 KP6 RNp KPp HLx
        rw [← hT] at HR ⊢
        clear hT
        rcases T with ⟨lT, sT⟩
        go_wp2_with fail
        refine (leave_any lT _).mono ?_
        rintro e w7 ⟨rfl, rfl⟩
        cases lT
        case nil => (simp only [lfE]; go_wp2; go_end0; exact ⟨rfl, _, _, HR.out.1, HR.out.2⟩)
        all_goals exact ⟨rfl, rfl, _, _, HR.out.1, HR.out.2⟩
    · have HRa := HR1.out (by trivial)
      have HRb := HR2.out (by trivial)
      have HXa := HX1.out (by trivial)
      clear HE1 HE2 HR1 HR2 HO1 HX1
      have L0 := Le.new w1 (.cells #[.int .i64 rf] 85)
      replace RN := RN.le L0
      replace KP := KP.trans (Kp.of_le R _ _ L0)
      have HXb := HXa _ _ _ RN
      have bx : (w1.alloc (.cells #[.int .i64 rf] 85)).cell? ⟨w1.heap.size, 0, none⟩ = some (.int .i64 rf) := by rw [World.cell?_alloc_at _ _ _ _ rfl]; rfl
      have zbx : w1.heap.size < (w1.alloc (.cells #[.int .i64 rf] 85)).heap.size := by simp
      clear L0 HXa
      go_wp2_with fail
      refine HXb.mono ?_
      rintro e w2 ⟨rfl, hl2⟩
      replace bx := (hl2.cell zbx).trans bx
      replace RN := RN.le hl2
      replace KP := KP.trans (Kp.of_le R _ _ hl2)
      clear HXb zbx hl2
      by_cases hce : 0 ≤ ce
      · have hcb : decide (0 ≤ ce) = true := decide_eq_true hce
        have HRc := HRb hce _ _ _ RN
        clear HRa HRb
        go_wp2_with fail
        refine (show Calls _ _ _ _ _ from HRc).mono ?_
        rintro e w3 ⟨rfl, lv3, hv3, RN3, KP3⟩
        replace KP := KP.trans KP3
        replace RN := RN3
        clear KP3 RN3 HRc bx
        have t1 := RN.c1
        have zz := RN.z
        go_wp2_with fail
        refine (partOf_any _ p.length cap p i 10 hi hp _ RN.T).mono ?_
        rintro e wp ⟨rfl, hlp⟩
        have RNp := RN.le hlp
        have KPp := KP.trans (Kp.of_le R _ _ hlp)
        clear RN KP t1 zz
        rcases hq : prt p i 10 with _ | x
        · have hT := HTn.out hq
          clear HTn HTs HLa
          rw [prtI_none rfl]
          have HR := Lib.hid (And.intro RNp KPp)
          clear RNp KPp
          go_wp2_with fail
          refine (leave_any _ _).mono ?_
          rintro e w6 ⟨rfl, rfl⟩
          subst hT
          cases l3
          case nil => (simp only [lfE]; go_wp2; go_end0; exact ⟨rfl, _, _, HR.out.1, HR.out.2⟩)
          all_goals exact ⟨rfl, rfl, _, _, HR.out.1, HR.out.2⟩
        · have hT := HTs.out x hq
          have HLx := HLa.out x _ _ _ hq RNp
          clear HTn HTs HLa
          rw [prtI_some rfl]
          have hx0 : (0 : Int) ≤ (x : Int) := by omega
          have hxb : decide ((0 : Int) ≤ (x : Int)) = true := decide_eq_true hx0
          go_wp2_with fail
          refine (show Calls _ _ _ _ _ from HLx).mono ?_
          rintro e w6 ⟨rfl, lv6, hv6, RN6, KP6⟩
          have HR := Lib.hid (And.intro RN6 (KPp.trans KP6))
          clear RN6 KP6 RNp KPp HLx
          rw [← hT] at HR ⊢
          clear hT
          rcases T with ⟨lT, sT⟩
          go_wp2_with fail
          refine (leave_any lT _).mono ?_
          rintro e w7 ⟨rfl, rfl⟩
          cases lT
          case nil => (simp only [lfE]; go_wp2; go_end0; exact ⟨rfl, _, _, HR.out.1, HR.out.2⟩)
          all_goals exact ⟨rfl, rfl, _, _, HR.out.1, HR.out.2⟩
      · have hcb : decide (0 ≤ ce) = false := decide_eq_false hce
        obtain ⟨rfl, rfl⟩ := HRa (by omega)
        clear HRa HRb
        have t1 := RN.c1
        have zz := RN.z
        go_wp2_with fail
        refine (partOf_any _ p.length cap p i 10 hi hp _ RN.T).mono ?_
        rintro e wp ⟨rfl, hlp⟩
        have RNp := RN.le hlp
        have KPp := KP.trans (Kp.of_le R _ _ hlp)
        clear RN KP t1 zz
        rcases hq : prt p i 10 with _ | x
        · have hT := HTn.out hq
          clear HTn HTs HLa
          rw [prtI_none rfl]
          have HR := Lib.hid (And.intro RNp KPp)
          clear RNp KPp
          go_wp2_with fail
          refine (leave_any _ _).mono ?_
          rintro e w6 ⟨rfl, rfl⟩
          subst hT
          cases l3
          case nil => (simp only [lfE]; go_wp2; go_end0; exact ⟨rfl, _, _, HR.out.1, HR.out.2⟩)
          all_goals exact ⟨rfl, rfl, _, _, HR.out.1, HR.out.2⟩
        · have hT := HTs.out x hq
          have HLx := HLa.out x _ _ _ hq RNp
          clear HTn HTs HLa
          rw [prtI_some rfl]
          have hx0 : (0 : Int) ≤ (x : Int) := by omega
          have hxb : decide ((0 : Int) ≤ (x : Int)) = true := decide_eq_true hx0
          go_wp2_with fail
          refine (show Calls _ _ _ _ _ from HLx).mono ?_
          rintro e w6 ⟨rfl, lv6, hv6, RN6, KP6⟩
          have HR := Lib.hid (And.intro RN6 (KPp.trans KP6))
          clear RN6 KP6 RNp KPp HLx
          rw [← hT] at HR ⊢
          clear hT
          rcases T with ⟨lT, sT⟩
          go_wp2_with fail
          refine (leave_any lT _).mono ?_
          rintro e w7 ⟨rfl, rfl⟩
          cases lT
          case nil => (simp only [lfE]; go_wp2; go_end0; exact ⟨rfl, _, _, HR.out.1, HR.out.2⟩)
          all_goals exact ⟨rfl, rfl, _, _, HR.out.1, HR.out.2⟩
  · have HEa := HE1.out (by trivial)
    have HEb := HE2.out (by trivial)
    clear HE1 HE2 HR1 HR2 HO1 HX1
    have u1 := RN.c1
    have uz := RN.z
    go_wp2_with fail
    refine (partOf_any _ p.length cap p i 9 hi hp _ RN.T).mono ?_
    rintro e w2 ⟨rfl, hl2⟩
    replace RN := RN.le hl2
    replace KP := KP.trans (Kp.of_le R _ _ hl2)
    clear hl2 u1 uz
    rcases hq9 : prt p i 9 with _ | x9
    · rw [prtI_none rfl]
      obtain ⟨rfl, rfl⟩ := HEa hq9
      clear HEa HEb
      have t1 := RN.c1
      have zz := RN.z
      go_wp2_with fail
      refine (partOf_any _ p.length cap p i 10 hi hp _ RN.T).mono ?_
      rintro e wp ⟨rfl, hlp⟩
      have RNp := RN.le hlp
      have KPp := KP.trans (Kp.of_le R _ _ hlp)
      clear RN KP t1 zz
      rcases hq : prt p i 10 with _ | x
      · have hT := HTn.out hq
        clear HTn HTs HLa
        rw [prtI_none rfl]
        have HR := Lib.hid (And.intro RNp KPp)
        clear RNp KPp
        go_wp2_with fail
        refine (leave_any _ _).mono ?_
        rintro e w6 ⟨rfl, rfl⟩
        subst hT
        cases l3
        case nil => (simp only [lfE]; go_wp2; go_end0; exact ⟨rfl, _, _, HR.out.1, HR.out.2⟩)
        all_goals exact ⟨rfl, rfl, _, _, HR.out.1, HR.out.2⟩
      · have hT := HTs.out x hq
        have HLx := HLa.out x _ _ _ hq RNp
        clear HTn HTs HLa
        rw [prtI_some rfl]
        have hx0 : (0 : Int) ≤ (x : Int) := by omega
        have hxb : decide ((0 : Int) ≤ (x : Int)) = true := decide_eq_true hx0
        go_wp2_with fail
        refine (show Calls _ _ _ _ _ from HLx).mono ?_
        rintro e w6 ⟨rfl, lv6, hv6, RN6, KP6⟩
        have HR := Lib.hid (And.intro RN6 (KPp.trans KP6))
        clear RN6 KP6 RNp KPp HLx
        rw [← hT] at HR ⊢
        clear hT
        rcases T with ⟨lT, sT⟩
        go_wp2_with fail
        refine (leave_any lT _).mono ?_
        rintro e w7 ⟨rfl, rfl⟩
        cases lT
        case nil => (simp only [lfE]; go_wp2; go_end0; exact ⟨rfl, _, _, HR.out.1, HR.out.2⟩)
        all_goals exact ⟨rfl, rfl, _, _, HR.out.1, HR.out.2⟩
    · rw [prtI_some rfl]
      have hx90 : (0 : Int) ≤ (x9 : Int) := by omega
      have hx9b : decide ((0 : Int) ≤ (x9 : Int)) = true := decide_eq_true hx90
      have HEc := HEb x9 _ _ _ hq9 RN
      clear HEa HEb
      go_wp2_with fail
      refine (show Calls _ _ _ _ _ from HEc).mono ?_
      rintro e w3 ⟨rfl, lv3, hv3, RN3, KP3⟩
      replace KP := KP.trans KP3
      replace RN := RN3
      clear KP3 RN3 HEc
      have t1 := RN.c1
      have zz := RN.z
      go_wp2_with fail
      refine (partOf_any _ p.length cap p i 10 hi hp _ RN.T).mono ?_
      rintro e wp ⟨rfl, hlp⟩
      have RNp := RN.le hlp
      have KPp := KP.trans (Kp.of_le R _ _ hlp)
      clear RN KP t1 zz
      rcases hq : prt p i 10 with _ | x
      · have hT := HTn.out hq
        clear HTn HTs HLa
        rw [prtI_none rfl]
        have HR := Lib.hid (And.intro RNp KPp)
        clear RNp KPp
        go_wp2_with fail
        refine (leave_any _ _).mono ?_
        rintro e w6 ⟨rfl, rfl⟩
        subst hT
        cases l3
        case nil => (simp only [lfE]; go_wp2; go_end0; exact ⟨rfl, _, _, HR.out.1, HR.out.2⟩)
        all_goals exact ⟨rfl, rfl, _, _, HR.out.1, HR.out.2⟩
      · have hT := HTs.out x hq
        have HLx := HLa.out x _ _ _ hq RNp
        clear HTn HTs HLa
        rw [prtI_some rfl]
        have hx0 : (0 : Int) ≤ (x : Int) := by omega
        have hxb : decide ((0 : Int) ≤ (x : Int)) = true := decide_eq_true hx0
        go_wp2_with fail
        refine (show Calls _ _ _ _ _ from HLx).mono ?_
        rintro e w6 ⟨rfl, lv6, hv6, RN6, KP6⟩
        have HR := Lib.hid (And.intro RN6 (KPp.trans KP6))
        clear RN6 KP6 RNp KPp HLx
        rw [← hT] at HR ⊢
        clear hT
        rcases T with ⟨lT, sT⟩
        go_wp2_with fail
        refine (leave_any lT _).mono ?_
        rintro e w7 ⟨rfl, rfl⟩
        cases lT
        case nil => (simp only [lfE]; go_wp2; go_end0; exact ⟨rfl, _, _, HR.out.1, HR.out.2⟩)
        all_goals exact ⟨rfl, rfl, _, _, HR.out.1, HR.out.2⟩
end

section
/-- a kind that ends its block -/
def jmpK (k : Int) : Bool := rng 2 6 k
theorem jmpK_iff {k : Int} : jmpK k = true ↔ 2 ≤ k ∧ k ≤ 6 := rng_iff
/-- the model looks for a line ahead in the same block that ends it -/
def bjGo (p : List Lin) (d : Int) : Nat → Bool
  | 0 => false
  | k + 1 => if d ≤ dep p k then (if dep p k = d ∧ jmpK (knd p k) = true then true else bjGo p d k) else false
def bj (p : List Lin) (i : Nat) : Bool := bjGo p (dep p i) i
theorem bjGo_iff (p : List Lin) (d : Int) : ∀ k, bjGo p d k = true ↔ ∃ j, j < k ∧ dep p j = d ∧ jmpK (knd p j) = true ∧ ∀ y, j < y → y < k → d ≤ dep p y
  | 0 => by simp [bjGo]
  | k + 1 => by
    unfold bjGo
    by_cases h : d ≤ dep p k
    · rw [if_pos h]
      by_cases h2 : dep p k = d ∧ jmpK (knd p k) = true
      · rw [if_pos h2]
        exact ⟨fun _ => ⟨k, by omega, h2.1, h2.2, fun y h3 h4 => by omega⟩, fun _ => rfl⟩
      · rw [if_neg h2, bjGo_iff p d k]
        constructor
        · rintro ⟨j, hj, h3, h4, h5⟩
          exact ⟨j, by omega, h3, h4, fun y h6 h7 => by
            by_cases e : y = k
            · rw [e]; exact h
            · exact h5 y h6 (by omega)⟩
        · rintro ⟨j, hj, h3, h4, h5⟩
          have hjk : j ≠ k := fun e => h2 (by rw [← e]; exact ⟨h3, h4⟩)
          exact ⟨j, by omega, h3, h4, fun y h6 h7 => h5 y h6 (by omega)⟩
    · rw [if_neg h]
      refine ⟨fun h => (by cases h), ?_⟩
      rintro ⟨j, hj, h3, h4, h5⟩
      by_cases e : j = k
      · rw [e] at h3; omega
      · exact absurd (h5 k (by omega) (by omega)) h
/-- the line behind those that are not less deep -/
def jGo (p : List Lin) (d : Int) : Nat → Nat → Nat
  | 0, k => k
  | m + 1, k => if d ≤ dep p k then jGo p d m (k + 1) else k
def jEnd (p : List Lin) (i : Nat) : Nat := jGo p (dep p i) (p.length - (i + 1)) (i + 1)
theorem jGo_ge (p : List Lin) (d : Int) : ∀ (m k : Nat), k ≤ jGo p d m k
  | 0, k => Nat.le_refl _
  | m + 1, k => by
    unfold jGo; split
    · exact Nat.le_trans (Nat.le_succ k) (jGo_ge p d m (k + 1))
    · exact Nat.le_refl _
theorem jGo_le (p : List Lin) (d : Int) : ∀ (m k : Nat), jGo p d m k ≤ k + m
  | 0, k => Nat.le_refl _
  | m + 1, k => by
    unfold jGo; split
    · have := jGo_le p d m (k + 1); omega
    · omega
theorem jGo_lt (p : List Lin) (d : Int) : ∀ (m k x : Nat), k ≤ x → (x < jGo p d m k ↔ x < k + m ∧ ∀ y, k ≤ y → y ≤ x → d ≤ dep p y)
  | 0, k, x, h => by
    unfold jGo
    exact ⟨fun h2 => by omega, fun h2 => by omega⟩
  | m + 1, k, x, h => by
    unfold jGo
    by_cases hd : d ≤ dep p k
    · rw [if_pos hd]
      by_cases e : x = k
      · have := jGo_ge p d m (k + 1)
        refine ⟨fun _ => ⟨by omega, fun y h1 h2 => ?_⟩, fun _ => by omega⟩
        obtain rfl : y = k := by omega
        exact hd
      · rw [jGo_lt p d m (k + 1) x (by omega)]
        constructor
        · rintro ⟨h1, h2⟩
          refine ⟨by omega, fun y h3 h4 => ?_⟩
          by_cases e2 : y = k
          · rw [e2]; exact hd
          · exact h2 y (by omega) h4
        · rintro ⟨h1, h2⟩
          exact ⟨by omega, fun y h3 h4 => h2 y (by omega) h4⟩
    · rw [if_neg hd]
      exact ⟨fun h2 => by omega, fun h2 => absurd (h2.2 k (Nat.le_refl _) h) hd⟩
theorem jEnd_lt {p : List Lin} {j x : Nat} (hj : j < p.length) (h : j < x) : x < jEnd p j ↔ x < p.length ∧ ∀ y, j < y → y ≤ x → dep p j ≤ dep p y := by
  unfold jEnd
  rw [jGo_lt p _ _ _ _ (by omega)]
  exact and_congr (by omega) ⟨fun h y h1 h2 => h y (by omega) h2, fun h y h1 h2 => h y (by omega) h2⟩
theorem jEnd_le {p : List Lin} {j : Nat} (hj : j < p.length) : jEnd p j ≤ p.length := by
  have := jGo_le p (dep p j) (p.length - (j + 1)) (j + 1)
  unfold jEnd; omega
theorem jEnd_gt (p : List Lin) (j : Nat) : j < jEnd p j := jGo_ge p _ _ (j + 1)
/-- x lies in the block of a, or is a -/
theorem in_block {p : List Lin} {a x : Nat} (ha : a < p.length) (_h : a ≤ x) : x < bEnd p a ↔ x < p.length ∧ ∀ y, a < y → y ≤ x → dep p a < dep p y := by
  constructor
  · intro h2
    exact ⟨by have := bEnd_le ha; omega, fun y h3 h4 => bEnd_in h3 (by omega)⟩
  · rintro ⟨h2, h3⟩
    rcases Nat.lt_or_ge x (bEnd p a) with h4 | h4
    · exact h4
    · have h5 := bEnd_gt p a
      have h6 := bEnd_stop ha (by omega)
      have h7 := h3 (bEnd p a) h5 h4
      omega
/-- the last line at a depth, of some lines that are not less deep -/
theorem last_at {p : List Lin} {d : Int} {j : Nat} : ∀ x, j < x → (∀ y, j < y → y ≤ x → d ≤ dep p y) → dep p (j + 1) = d → ∃ a, j < a ∧ a ≤ x ∧ dep p a = d ∧ ∀ y, a < y → y ≤ x → d < dep p y
  | 0, h, _, _ => by omega
  | x + 1, h, h2, h3 => by
    by_cases e : dep p (x + 1) = d
    · exact ⟨x + 1, h, Nat.le_refl _, e, fun y h4 h5 => by omega⟩
    · have hx : j < x := by
        rcases Nat.lt_or_ge j x with h4 | h4
        · exact h4
        · obtain rfl : j = x := by omega
          exact absurd h3 e
      obtain ⟨a, h4, h5, h6, h7⟩ := last_at x hx (fun y h8 h9 => h2 y h8 (by omega)) h3
      refine ⟨a, h4, by omega, h6, fun y h8 h9 => ?_⟩
      by_cases e2 : y = x + 1
      · rw [e2]; have := h2 (x + 1) h (Nat.le_refl _); omega
      · exact h7 y h8 (by omega)
/-- the program marks x behind the jump j -/
def jIn (p : List Lin) (j x : Nat) : Bool := jmpK (knd p j) && decide (j < x) && decide (x < jEnd p j)
def mkJ (p : List Lin) (k x : Nat) : Bool := (List.range k).any fun j => jIn p j x
/-- a marked line lies in the block of one behind a jump of its block, or is that -/
theorem mark_iff {xs : List Cls} {p : List Lin} (g : GoodP xs p) {x : Nat} (hx : x < p.length) : mkJ p p.length x = true ↔ ∃ a, a ≤ x ∧ x < bEnd p a ∧ bj p a = true := by
  unfold mkJ jIn
  simp only [List.any_eq_true, List.mem_range, Bool.and_eq_true, decide_eq_true_eq]
  constructor
  · rintro ⟨j, hj, ⟨h1, h2⟩, h3⟩
    have h4 := (jEnd_lt hj h2).1 h3
    have hn : dep p (j + 1) = dep p j := by
      have h5 := h4.2 (j + 1) (by omega) (by omega)
      have h6 := (g.line (j + 1) (by omega)).2.1.2.2 j rfl
      have h7 := jmpK_iff.1 h1
      by_cases e : dep p (j + 1) = dep p j + 1
      · have := opn_iff.1 (h6.2.2 e)
        omega
      · have := h6.1; omega
    obtain ⟨a, h5, h6, h7, h8⟩ := last_at x h2 h4.2 hn
    refine ⟨a, h6, (in_block (by omega) h6).2 ⟨hx, fun y h9 h10 => by rw [h7]; exact h8 y h9 h10⟩, ?_⟩
    unfold bj
    rw [bjGo_iff, h7]
    exact ⟨j, h5, rfl, h1, fun y h9 h10 => h4.2 y h9 (by omega)⟩
  · rintro ⟨a, h1, h2, h3⟩
    have ha : a < p.length := by omega
    unfold bj at h3
    rw [bjGo_iff] at h3
    obtain ⟨j, h4, h5, h6, h7⟩ := h3
    have h8 := (in_block ha h1).1 h2
    refine ⟨j, by omega, ⟨h6, by omega⟩, (jEnd_lt (by omega) (by omega)).2 ⟨hx, fun y h9 h10 => ?_⟩⟩
    rcases Nat.lt_trichotomy y a with h11 | h11 | h11
    · rw [h5]; exact h7 y h9 h11
    · rw [h11, h5]; exact Int.le_refl _
    · have := h8.2 y h11 h10; omega
/-- the model goes on behind the block of a line that comes behind a jump -/
def prG (p : List Lin) : Nat → Nat → List Lin
  | 0, _ => []
  | m + 1, i => match p[i]? with
    | some x => if bj p i = true then prG p m (bEnd p i) else x :: prG p m (i + 1)
    | none => []
/-- the program leaves out what is marked -/
def prF (p : List Lin) : Nat → Nat → List Lin
  | 0, _ => []
  | m + 1, i => match p[i]? with
    | some x => if mkJ p p.length i = true then prF p m (i + 1) else x :: prF p m (i + 1)
    | none => []
theorem prF_fuel (p : List Lin) : ∀ (m n i : Nat), p.length ≤ m + i → p.length ≤ n + i → prF p m i = prF p n i
  | 0, n, i, h1, h2 => by
    cases n with
    | zero => rfl
    | succ n => unfold prF; rw [List.getElem?_eq_none (by omega)]
  | m + 1, 0, i, h1, h2 => by unfold prF; rw [List.getElem?_eq_none (by omega)]
  | m + 1, n + 1, i, h1, h2 => by
    unfold prF
    rw [prF_fuel p m n (i + 1) (by omega) (by omega)]
theorem prF_skip (p : List Lin) : ∀ (d m i : Nat), p.length ≤ m + i → i + d ≤ p.length → (∀ x, i ≤ x → x < i + d → mkJ p p.length x = true) → prF p m i = prF p m (i + d)
  | 0, _, _, _, _, _ => rfl
  | d + 1, m, i, h, h1, h2 => by
    obtain ⟨n, rfl⟩ : ∃ n, m = n + 1 := ⟨m - 1, by omega⟩
    have hi : i < p.length := by omega
    have e : prF p (n + 1) i = prF p n (i + 1) := by
      show (match p[i]? with | some x => _ | none => _) = _
      rw [List.getElem?_eq_getElem hi]
      exact if_pos (h2 i (Nat.le_refl _) (by omega))
    rw [e, prF_fuel p n (n + 1) (i + 1) (by omega) (by omega), prF_skip p d (n + 1) (i + 1) (by omega) (by omega) (fun x h3 h4 => h2 x (by omega) (by omega))]
    congr 1; omega
theorem pr_same {xs : List Cls} {p : List Lin} (g : GoodP xs p) : ∀ (m i : Nat), p.length ≤ m + i → (∀ b, b < i → i < bEnd p b → bj p b = false) → prG p m i = prF p m i
  | 0, _, _, _ => rfl
  | m + 1, i, hm, hr => by
    rcases Nat.lt_or_ge i p.length with hi | hi
    · have eG : prG p (m + 1) i = if bj p i = true then prG p m (bEnd p i) else p[i] :: prG p m (i + 1) := by
        show (match p[i]? with | some x => _ | none => _) = _
        rw [List.getElem?_eq_getElem hi]
      have eF : prF p (m + 1) i = if mkJ p p.length i = true then prF p m (i + 1) else p[i] :: prF p m (i + 1) := by
        show (match p[i]? with | some x => _ | none => _) = _
        rw [List.getElem?_eq_getElem hi]
      have hgt := bEnd_gt p i
      have hle := bEnd_le hi
      by_cases hb : bj p i = true
      · have hsk := prF_skip p (bEnd p i - i) (m + 1) i (by omega) (by omega) (fun x h1 h2 => (mark_iff g (by omega)).2 ⟨i, h1, by omega, hb⟩)
        rw [eG, if_pos hb, hsk, show i + (bEnd p i - i) = bEnd p i by omega, prF_fuel p (m + 1) m (bEnd p i) (by omega) (by omega)]
        refine pr_same g m _ (by omega) (fun b h1 h2 => ?_)
        rcases Nat.lt_or_ge b i with h3 | h3
        · exact hr b h3 (by omega)
        · exfalso
          have h4 := (in_block (p := p) (a := b) (x := bEnd p i) (by omega) (by omega)).1 h2
          have h5 := h4.2 (bEnd p i) h1 (Nat.le_refl _)
          have h6 := bEnd_stop hi h4.1
          rcases Nat.lt_or_ge i b with h7 | h7
          · have := bEnd_in h7 h1; omega
          · obtain rfl : b = i := by omega
            omega
      · have hno : ¬ mkJ p p.length i = true := fun h => by
          obtain ⟨a, h1, h2, h3⟩ := (mark_iff g hi).1 h
          rcases Nat.lt_or_ge a i with h4 | h4
          · have := hr a h4 h2; rw [this] at h3; cases h3
          · obtain rfl : a = i := by omega
            exact hb h3
        rw [eG, if_neg hb, eF, if_neg hno, pr_same g m (i + 1) (by omega) (fun b h1 h2 => ?_)]
        rcases Nat.lt_or_ge b i with h3 | h3
        · exact hr b h3 (by omega)
        · obtain rfl : b = i := by omega
          cases e : bj p b
          · rfl
          · exact absurd e hb
    · have e : p[i]? = none := List.getElem?_eq_none hi
      unfold prG prF
      rw [e]
/-- what is left of a program -/
def prL (p : List Lin) : List Lin := prF p p.length 0
theorem prL_model {xs : List Cls} {p : List Lin} (g : GoodP xs p) : prG p p.length 0 = prL p := pr_same g p.length 0 (by omega) (fun b h => by omega)
theorem prF_len (p : List Lin) : ∀ m i, (prF p m i).length ≤ m
  | 0, _ => Nat.le_refl _
  | m + 1, i => by
    unfold prF
    have := prF_len p m (i + 1)
    split
    · split
      · omega
      · simp; omega
    · simp
theorem prF_ok {p : List Lin} (h : ∀ x ∈ p, Enc.ok x) : ∀ m i, ∀ x ∈ prF p m i, Enc.ok x
  | 0, _, x, hx => nomatch hx
  | m + 1, i, x, hx => by
    unfold prF at hx
    split at hx
    · rename_i y hy
      split at hx
      · exact prF_ok h m _ x hx
      · rcases List.mem_cons.1 hx with rfl | hx
        · exact h _ (List.mem_of_getElem? hy)
        · exact prF_ok h m _ x hx
    · cases hx
end

section
theorem ptF_asc (p : List Lin) (d : Int) : ∀ m k, (∀ x ∈ ptGo p d m k, k < x ∧ x < p.length ∧ dep p x = d) ∧ (ptGo p d m k).Pairwise (· < ·)
  | 0, k => ⟨fun x hx => absurd hx (List.not_mem_nil), List.Pairwise.nil⟩
  | m + 1, k => by
    unfold ptGo
    split
    · next c =>
      have ih := ptF_asc p d m (bEnd p k)
      have hb := bEnd_gt p k
      refine ⟨fun x hx => ?_, List.pairwise_cons.2 ⟨fun x hx => (ih.1 x hx).1, ih.2⟩⟩
      rcases List.mem_cons.1 hx with rfl | hx
      · exact ⟨hb, c.1, c.2.1⟩
      · have := ih.1 x hx; exact ⟨by omega, this.2⟩
    · exact ⟨fun x hx => absurd hx (List.not_mem_nil), List.Pairwise.nil⟩
theorem partsF {p : List Lin} {j x : Nat} (hj : j < p.length) (h : x ∈ parts p j) : j ≤ x ∧ x < p.length ∧ dep p x = dep p j := by
  have a := (ptF_asc p (dep p j) p.length j).1
  unfold parts at h
  rcases List.mem_cons.1 h with rfl | h
  · exact ⟨Nat.le_refl _, hj, rfl⟩
  · have := a x h; exact ⟨by omega, this.2⟩
theorem partsF_asc (p : List Lin) (j : Nat) : (parts p j).Pairwise (· < ·) := by
  have h := ptF_asc p (dep p j) p.length j
  unfold parts
  exact List.pairwise_cons.2 ⟨fun x hx => (h.1 x hx).1, h.2⟩
/-- each line of a try is the one behind the block of the one ahead of it -/
theorem ptF_link (p : List Lin) (d : Int) : ∀ m k n (h : n < (ptGo p d m k).length), (ptGo p d m k)[n] = bEnd p ((k :: ptGo p d m k)[n]'(by rw [List.length_cons]; omega))
  | 0, k, n, h => by cases h
  | m + 1, k, n, h => by
    by_cases c : bEnd p k < p.length ∧ dep p (bEnd p k) = d ∧ mayF (knd p k) (knd p (bEnd p k)) = true
    · have e : ptGo p d (m + 1) k = bEnd p k :: ptGo p d m (bEnd p k) := if_pos c
      have key : ∀ (L : List Nat), L = bEnd p k :: ptGo p d m (bEnd p k) → ∀ (h : n < L.length), L[n] = bEnd p ((k :: L)[n]'(by rw [List.length_cons]; omega)) := by
        rintro L rfl h
        cases n with
        | zero => rfl
        | succ n => exact ptF_link p d m (bEnd p k) n (by simpa using h)
      exact key _ e h
    · have e : ptGo p d (m + 1) k = [] := if_neg c
      rw [e] at h; cases h
theorem parts_link {p : List Lin} {j n : Nat} (h : n + 1 < (parts p j).length) : (parts p j)[n + 1] = bEnd p (parts p j)[n] := by
  have h2 : n < (ptGo p (dep p j) p.length j).length := by unfold parts at h; simpa using h
  exact ptF_link p (dep p j) p.length j n h2
/-- the last line of a try -/
def lstP (p : List Lin) (i : Nat) : Nat := (parts p i)[(parts p i).length - 1]'(by unfold parts; simp)
theorem lstP_mem (p : List Lin) (i : Nat) : lstP p i ∈ parts p i := List.getElem_mem _
theorem lstP_ge {p : List Lin} {i x : Nat} (h : x ∈ parts p i) : x ≤ lstP p i := by
  obtain ⟨n, hn, rfl⟩ := List.getElem_of_mem h
  unfold lstP
  rcases Nat.lt_or_ge n ((parts p i).length - 1) with h1 | h1
  · exact Nat.le_of_lt (List.pairwise_iff_getElem.1 (partsF_asc p i) _ _ _ _ h1)
  · have e : n = (parts p i).length - 1 := by omega
    subst e; exact Nat.le_refl _
/-- the line that is run behind a line -/
def nx (p : List Lin) (i : Nat) : Nat := if knd p i = 7 then bEnd p (lstP p i) else bEnd p i
/-- lines from one up to another one are a block, or the whole program -/
structure Blk (p : List Lin) (a b : Nat) (D : Int) : Prop where
  le : b ≤ p.length
  deep : ∀ x, a ≤ x → x < b → D ≤ dep p x
  out : b < p.length → dep p b < D
  first : a < b → dep p a = D ∧ fol (knd p a) = false
theorem Blk.in {p : List Lin} {a b : Nat} {D : Int} (h : Blk p a b D) {x : Nat} (h1 : a ≤ x) (h2 : x < b) : bEnd p x ≤ b := by
  have hl := h.le
  refine Nat.le_of_not_lt fun c => ?_
  have h3 := bEnd_le (show x < p.length by omega)
  have h4 := bEnd_in (p := p) (i := x) (x := b) h2 c
  have h5 := h.out (by omega)
  have h6 := h.deep x h1 h2
  omega
/-- behind the block of a line at the block's depth there is another one, or the end -/
theorem Blk.sib {p : List Lin} {a b : Nat} {D : Int} (h : Blk p a b D) {x : Nat} (h1 : a ≤ x) (h2 : x < b) (hd : dep p x = D) (h3 : bEnd p x < b) : dep p (bEnd p x) = D := by
  have h4 := h.deep (bEnd p x) (by have := bEnd_gt p x; omega) h3
  have h5 := bEnd_stop (show x < p.length by have := h.le; omega) (by have := h.le; omega)
  omega
theorem Blk.part {p : List Lin} {a b : Nat} {D : Int} (h : Blk p a b D) {i : Nat} (h1 : a ≤ i) (h2 : i < b) (hd : dep p i = D) : ∀ n (hn : n < (parts p i).length), i ≤ (parts p i)[n] ∧ (parts p i)[n] < b ∧ dep p (parts p i)[n] = D
  | 0, hn => by
    have e : (parts p i)[0] = i := rfl
    rw [e]; exact ⟨Nat.le_refl _, h2, hd⟩
  | n + 1, hn => by
    have ih := h.part h1 h2 hd n (by omega)
    have hl := h.le
    have f := partsF (show i < p.length by omega) (List.getElem_mem hn)
    rw [parts_link hn] at f ⊢
    have h4 := h.in (x := (parts p i)[n]) (by omega) ih.2.1
    refine ⟨f.1, ?_, by rw [f.2.2, hd]⟩
    rcases Nat.lt_or_ge (bEnd p (parts p i)[n]) b with h5 | h5
    · exact h5
    · have e : bEnd p (parts p i)[n] = b := by omega
      have h6 := f.2
      rw [e] at h6
      have h7 := h.out h6.1
      omega
theorem Blk.nxt {p : List Lin} {xs : List Cls} (g : GoodP xs p) {a b : Nat} {D : Int} (h : Blk p a b D) {i : Nat} (h1 : a ≤ i) (h2 : i < b) (hd : dep p i = D) (hf : fol (knd p i) = false) : i < nx p i ∧ nx p i ≤ b ∧ (nx p i < b → dep p (nx p i) = D ∧ fol (knd p (nx p i)) = false) := by
  have hl := h.le
  have hip : i < p.length := by omega
  -- the last line of the statement
  obtain ⟨z, hz, hz1, hz2, hzd, hzp⟩ : ∃ z, nx p i = bEnd p z ∧ i ≤ z ∧ z < b ∧ dep p z = D ∧ ((knd p i = 7 ∧ z = lstP p i) ∨ (knd p i ≠ 7 ∧ z = i)) := by
    by_cases c : knd p i = 7
    · have f := h.part h1 h2 hd ((parts p i).length - 1) (by unfold parts; simp)
      exact ⟨lstP p i, by unfold nx; rw [if_pos c], f.1, f.2.1, f.2.2, .inl ⟨c, rfl⟩⟩
    · exact ⟨i, by unfold nx; rw [if_neg c], Nat.le_refl _, h2, hd, .inr ⟨c, rfl⟩⟩
  rw [hz]
  have hgt := bEnd_gt p z
  refine ⟨by omega, h.in (by omega) hz2, fun hb => ?_⟩
  have hd2 := h.sib (by omega) hz2 hzd hb
  refine ⟨hd2, ?_⟩
  cases hfo : fol (knd p (bEnd p z))
  · rfl
  · exfalso
    have sz : Sib p z (bEnd p z) := sib_of (by omega) (by rw [hd2, hzd])
    obtain ⟨j, hj, h7, hm⟩ := (g.tries (bEnd p z) (by omega)).2 hfo
    have hm2 : bEnd p z ∈ ptGo p (dep p j) p.length j := by
      unfold parts at hm
      rcases List.mem_cons.1 hm with e | h
      · omega
      · exact h
    obtain ⟨y, sy, hy, hyj⟩ := pt_back p _ _ _ hm2
    have e : y = z := sy.uniq sz
    subst e
    have hyp : y ∈ parts p j := by
      rcases hyj with e | h
      · rw [e]; exact List.mem_cons_self ..
      · exact List.mem_cons_of_mem _ h
    rcases hzp with ⟨c, e⟩ | ⟨c, e⟩
    · have hym : y ∈ parts p i := by rw [e]; exact lstP_mem p i
      have e2 : j = i := try_uniq y y (Nat.le_refl _) ⟨h7, hyp⟩ ⟨c, hym⟩
      subst e2
      have := lstP_ge hm
      omega
    · subst e
      rcases try_step ⟨h7, hyp⟩ with h | h
      · exact c h.1
      · rw [h.1] at hf; cases hf
theorem bEndF_two {xs : List Cls} {p : List Lin} (g : GoodP xs p) {l : Nat} (hl : l < p.length) (ho : opn (knd p l) = true) : l + 1 < bEnd p l ∧ dep p (l + 1) = dep p l + 1 := by
  have h1 := bEnd_gt p l
  have hlen : l + 1 < p.length := by
    refine Nat.lt_of_not_le fun c => ?_
    have := (g.line l hl).2.2.1 (by omega)
    rw [knd_at hl] at ho
    rw [ho] at this; cases this
  have h3 := ((g.line (l + 1) hlen).2.1.2.2 l rfl).2.1 ho
  refine ⟨Nat.lt_of_not_le fun c => ?_, h3⟩
  have e : bEnd p l = l + 1 := by omega
  have h2 := bEnd_stop hl (by omega)
  rw [e] at h2
  omega
theorem bEndF_one {xs : List Cls} {p : List Lin} (g : GoodP xs p) {l : Nat} (hl : l < p.length) (ho : opn (knd p l) = false) : bEnd p l = l + 1 := by
  have h1 := bEnd_gt p l
  refine Nat.le_antisymm (Nat.le_of_not_lt fun c => ?_) h1
  have h2 := bEnd_le hl
  have h3 := bEnd_in (p := p) (i := l) (x := l + 1) (by omega) c
  have h4 := (g.line (l + 1) (by omega)).2.1.2.2 l rfl
  have h5 : ¬ dep p (l + 1) = dep p l + 1 := fun e => by rw [h4.2.2 e] at ho; cases ho
  have := h4.1
  omega
/-- the block of a line -/
theorem Blk.of {xs : List Cls} {p : List Lin} (g : GoodP xs p) {h : Nat} (hh : h < p.length) (ho : opn (knd p h) = true) : Blk p (h + 1) (bEnd p h) (dep p h + 1) := by
  have h2 := bEndF_two g hh ho
  have hl := bEnd_le hh
  refine ⟨hl, fun x h3 h4 => by have := bEnd_in (p := p) (i := h) (x := x) (by omega) h4; omega, fun h3 => by have := bEnd_stop hh h3; omega, fun _ => ⟨h2.2, ?_⟩⟩
  cases hfo : fol (knd p (h + 1))
  · rfl
  · exfalso
    obtain ⟨j, hj, h7, hm⟩ := (g.tries (h + 1) (by omega)).2 hfo
    have hm2 : h + 1 ∈ ptGo p (dep p j) p.length j := by
      unfold parts at hm
      rcases List.mem_cons.1 hm with e | h
      · omega
      · exact h
    obtain ⟨y, sy, _, _⟩ := pt_back p _ _ _ hm2
    by_cases e : y = h
    · subst e; have := sy.2.2.1; omega
    · have h5 := sy.2.2.2 h (by have := sy.1; omega) (by omega)
      omega
theorem Blk.all {xs : List Cls} {p : List Lin} (g : GoodP xs p) : Blk p 0 p.length 0 := by
  refine ⟨Nat.le_refl _, fun x _ h => ((g.line x h).2.1.1).1, fun h => absurd h (by omega), fun h => ⟨(g.line 0 h).2.1.2.1 rfl, ?_⟩⟩
  cases hfo : fol (knd p 0)
  · rfl
  · obtain ⟨j, hj, _⟩ := (g.tries 0 h).2 hfo
    omega
/-! the first line that jumps -/
def lpz (p : List Lin) (i : Nat) : Bool := decide (knd p i = 12) && decide (lnA p i = 0)
def scG (p : List Lin) (b : Nat) : Nat → Nat → Int
  | 0, _ => -1
  | m + 1, i => if i < b then (if jmpK (knd p i) = true then (i : Int) else if knd p i = 8 ∨ lpz p i = true then scG p b m (bEnd p i) else scG p b m (i + 1)) else -1
theorem scG_fuel (p : List Lin) (b : Nat) : ∀ (m n i : Nat), b ≤ m + i → b ≤ n + i → scG p b m i = scG p b n i
  | 0, n, i, h1, h2 => by
    cases n with
    | zero => rfl
    | succ n => show (-1 : Int) = if i < b then _ else -1; rw [if_neg (by omega)]
  | m + 1, 0, i, h1, h2 => by show (if i < b then _ else (-1 : Int)) = -1; rw [if_neg (by omega)]
  | m + 1, n + 1, i, h1, h2 => by
    have hb := bEnd_gt p i
    show (if i < b then (if jmpK (knd p i) = true then (i : Int) else if knd p i = 8 ∨ lpz p i = true then scG p b m (bEnd p i) else scG p b m (i + 1)) else -1) = (if i < b then (if jmpK (knd p i) = true then (i : Int) else if knd p i = 8 ∨ lpz p i = true then scG p b n (bEnd p i) else scG p b n (i + 1)) else -1)
    rw [scG_fuel p b m n (bEnd p i) (by omega) (by omega), scG_fuel p b m n (i + 1) (by omega) (by omega)]
/-- the first line that jumps, of lines that are run as they come, but for what waits for a fault, and loops of no times -/
def scn (p : List Lin) (a b : Nat) : Int := scG p b (b - a) a
theorem scn_end {p : List Lin} {a b : Nat} (h : ¬ a < b) : scn p a b = -1 := by
  unfold scn
  rw [show b - a = 0 by omega]; rfl
theorem scn_at {p : List Lin} {a b : Nat} (h : a < b) : scn p a b = if jmpK (knd p a) = true then (a : Int) else if knd p a = 8 ∨ lpz p a = true then scn p (bEnd p a) b else scn p (a + 1) b := by
  have hb := bEnd_gt p a
  unfold scn
  rw [show b - a = (b - (a + 1)) + 1 by omega]
  show (if a < b then _ else (-1 : Int)) = _
  rw [if_pos h, scG_fuel p b (b - (a + 1)) (b - bEnd p a) (bEnd p a) (by omega) (by omega)]
theorem scn_range {p : List Lin} {b : Nat} : ∀ (m a : Nat), b ≤ m + a → scn p a b = -1 ∨ (a : Int) ≤ scn p a b
  | 0, a, h => .inl (scn_end (by omega))
  | m + 1, a, h => by
    by_cases c : a < b
    · rw [scn_at c]
      have hb := bEnd_gt p a
      split
      · exact .inr (Int.le_refl _)
      · split
        · rcases scn_range (p := p) (b := b) m (bEnd p a) (by omega) with h | h
          · exact .inl h
          · exact .inr (by omega)
        · rcases scn_range (p := p) (b := b) m (a + 1) (by omega) with h | h
          · exact .inl h
          · exact .inr (by omega)
    · exact .inl (scn_end c)
theorem scn_neg {p : List Lin} {a b : Nat} (h : ¬ 0 ≤ scn p a b) : scn p a b = -1 := by
  rcases scn_range (p := p) (b := b) b a (by omega) with h2 | h2
  · exact h2
  · omega
theorem scn_split {p : List Lin} {b c : Nat} (hcb : c ≤ b) : ∀ (m a : Nat), c ≤ m + a → a ≤ c → (∀ x, a ≤ x → x < c → bEnd p x ≤ c) → scn p a b = if 0 ≤ scn p a c then scn p a c else scn p c b
  | 0, a, h, h1, h2 => by
    obtain rfl : a = c := by omega
    rw [scn_end (b := a) (by omega), if_neg (by omega)]
  | m + 1, a, h, h1, h2 => by
    by_cases e : a = c
    · subst e; rw [scn_end (b := a) (by omega), if_neg (by omega)]
    · have hac : a < c := by omega
      have hbg := bEnd_gt p a
      have hbl := h2 a (Nat.le_refl _) hac
      rw [scn_at (show a < b by omega), scn_at hac]
      by_cases hj : jmpK (knd p a) = true
      · rw [if_pos hj, if_pos hj, if_pos (by omega)]
      · rw [if_neg hj, if_neg hj]
        by_cases h8 : knd p a = 8 ∨ lpz p a = true
        · rw [if_pos h8, if_pos h8]
          exact scn_split hcb m (bEnd p a) (by omega) hbl (fun x h3 h4 => h2 x (by omega) h4)
        · rw [if_neg h8, if_neg h8]
          exact scn_split hcb m (a + 1) (by omega) (by omega) (fun x h3 h4 => h2 x (by omega) h4)
end

section
instance instOneLin : EncOne Lin := ⟨by decide, fun x u hu => by simp [Enc.cells] at hu; rcases hu with rfl | rfl | rfl | rfl <;> rfl⟩
theorem infoLn : (Try.prog.info? 42).map (fun i => (i.zero, i.size, i.bytes)) = some (some (.agg #[.int .i64 0, .int .i64 0, .int .i64 0, .int .i64 0]), 4, 32) := by kernel_rfl
end

section
theorem bjGo_succ (p : List Lin) (d : Int) (k : Nat) : bjGo p d (k + 1) = if d ≤ dep p k then (if dep p k = d ∧ jmpK (knd p k) = true then true else bjGo p d k) else false := rfl
def pnX (xs : List Cls) (p : List Lin) : List Lin := cond (vp xs p) (prL p) []
theorem pnX_len (xs : List Cls) (p : List Lin) : (pnX xs p).length ≤ 1048576 := by
  unfold pnX
  cases h : vp xs p
  · simp
  · have h1 := (goodP_of h).len
    have h2 := prF_len p p.length 0
    show (prL p).length ≤ _
    unfold prL; omega
theorem prG_step {p : List Lin} {m i : Nat} (hi : i < p.length) : prG p (m + 1) i = if bj p i = true then prG p m (bEnd p i) else p[i] :: prG p m (i + 1) := by
  show (match p[i]? with | some x => _ | none => _) = _
  rw [List.getElem?_eq_getElem hi]
theorem prG_stop {p : List Lin} {m i : Nat} (hi : ¬ i < p.length) : prG p m i = [] := by
  cases m with
  | zero => rfl
  | succ m =>
    show (match p[i]? with | some x => _ | none => _) = _
    rw [List.getElem?_eq_none (by omega)]
end

section
theorem parts_posF (p : List Lin) (j : Nat) : 0 < (parts p j).length := by unfold parts; simp
set_option maxHeartbeats 1000000 in
theorem nextLine_any (A : Option Addr) (n cap : Nat) (xs : List Cls) (p : List Lin) (i : Nat) (hi : i < p.length) (g : GoodP xs p) (w : World) (hR : Sl w A n cap p) :
    Calls Try.prog 96 #[.slice A n cap, .int .i64 i] w fun e w' => e = .returned (.int .i64 (nx p i)) ∧ Le w w' := by
  obtain rfl := hR.len
  have hp := g.len
  have HX : Hid (nx p i = if knd p i = 7 then bEnd p (lstP p i) else bEnd p i) := rfl
  have HK := Lib.hid (knd_at hi)
  have HCP := Lib.hid (chain_parts g.tries hi)
  have hx0 : (0 : Int) ≤ (i : Int) := by omega
  have hxn : (i : Int) < (p.length : Int) := by omega
  have hz := lstP_mem p i
  have hzl := (partsF hi hz).2.1
  have HLS : Hid (lstP p i = (parts p i)[(parts p i).length - 1]'(by have := parts_posF p i; omega)) := rfl
  have hpos := parts_posF p i
  have hpl := parts_len p i
  obtain ⟨b, off, rfl, hb, d0, d1, -⟩ := hR.lin_at hi
  clear hz g
  go_enter Try.func96, Try.ntmps96
  generalize p[i].kind = vk at *
  by_cases h7 : vk = 7
  · subst h7
    have HF : Hid (nx p i = bEnd p (lstP p i)) := by show _ = _; rw [HX.out, if_pos HK.out]
    go_wp2_with fail
    refine (chainOf_any _ p.length cap p i hi (by omega) w hR).mono ?_
    rintro e w1 ⟨v, rfl, D, hle⟩
    rw [HCP.out] at D
    obtain ⟨A2, q2, rfl, S2, -⟩ := D.form (by decide)
    have R2 := hR.le hle
    obtain ⟨k, hk⟩ : ∃ k, (parts p i).length = k + 1 := ⟨(parts p i).length - 1, by omega⟩
    obtain ⟨b5, off5, rfl, hb5, c5, -⟩ := S2.int_at (k := k) (by rw [nI_len]; omega)
    rw [nI_at (by omega)] at c5
    have e5 : (parts p i)[k]'(by omega) = lstP p i := by rw [HLS.out]; congr 1; omega
    rw [e5] at c5
    rw [nI_len, hk] at S2 ⊢
    have hwk : IntKind.i64.wrap ((k : Int) + 1 - 1) = (k : Int) := by rw [Int.add_sub_cancel]; exact IntWalk.i64_in _ (by omega)
    have hk0 : (0 : Int) ≤ (k : Int) := by omega
    have hkn : (k : Int) < (k : Int) + 1 := by omega
    have hk24 : k ≤ 25 := by omega
    clear e5 HLS hk D hpos hpl HCP HX
    generalize lstP p i = z at *
    go_wp2_with fail
    refine (sBlockEnd_any _ p.length cap p z hzl w1 R2).mono ?_
    rintro e w2 ⟨rfl, hle2⟩
    go_wp2
    go_ret
    exact ⟨ret_int (by rw [HF.out]), hle.trans hle2⟩
  · have h7b : (vk == 7) = false := bf h7
    have HF : Hid (nx p i = bEnd p i) := by show _ = _; rw [HX.out, if_neg (by rw [HK.out]; exact h7)]
    go_wp2_with fail
    refine (sBlockEnd_any _ p.length cap p i hi w hR).mono ?_
    rintro e w2 ⟨rfl, hle2⟩
    go_wp2
    go_ret
    exact ⟨ret_int (by rw [HF.out]), hle2⟩
theorem Blk.inner {p : List Lin} {xs : List Cls} (g : GoodP xs p) {a b : Nat} {D : Int} (h : Blk p a b D) {i : Nat} (h1 : a ≤ i) (h2 : i < b) (hd : dep p i = D) (hf : fol (knd p i) = false) {x : Nat} (h3 : i ≤ x) (h4 : x < nx p i) : bEnd p x ≤ nx p i := by
  obtain ⟨n1, n2, n3⟩ := h.nxt g h1 h2 hd hf
  have hin := h.in (x := x) (by omega) (by omega)
  rcases Nat.lt_or_ge (nx p i) b with h5 | h5
  · refine Nat.le_of_not_lt fun c => ?_
    have h6 := bEnd_in (p := p) (i := x) (x := nx p i) h4 c
    have h7 := (n3 h5).1
    have h8 := h.deep x (by omega) (by omega)
    omega
  · omega
theorem pos_le {p : List Lin} {i : Nat} (h7 : knd p i = 7) {n : Nat} (hn : n < (parts p i).length) : bEnd p (parts p i)[n] ≤ nx p i := by
  unfold nx
  rw [if_pos h7]
  rcases Nat.lt_or_ge (n + 1) (parts p i).length with h | h
  · rw [← parts_link h]
    have := lstP_ge (List.getElem_mem h)
    have := bEnd_gt p (lstP p i)
    omega
  · have e : (parts p i)[n] = lstP p i := by unfold lstP; congr 1; omega
    rw [e]; exact Nat.le_refl _
theorem pos_end {p : List Lin} {i : Nat} (h7 : knd p i = 7) {n : Nat} (hn : n + 1 = (parts p i).length) : bEnd p ((parts p i)[n]'(by omega)) = nx p i := by
  unfold nx
  rw [if_pos h7]
  congr 1
  unfold lstP
  congr 1
  omega
end
end Go.Proofs.Ytlepgfccnfcagaa
