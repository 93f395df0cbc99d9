/- one text of RnG, RsF, RnH, RsG, RnI, RsH -/
import Derived.Test.YtdbmolhdgmopoaaGreatRb6
import Derived.Test.YtdbmolhdgmopoaaGreatRb5
namespace Go.Proofs.YtdbmolhdgmopoaaGreat
open Go.RowKit
section
theorem prtI_none {o : Option Nat} (h : o = none) : prtI o = -1 := by rw [h]; rfl
theorem prtI_some {o : Option Nat} {x : Nat} (h : o = some x) : prtI o = (x : Int) := by rw [h]; rfl
/-- the end of a try in the model of the program: the last block, or none -/
theorem fin_none {blk : Bls} {p : List Lin} {i : Nat} {h : Int} {r : Lft × Rst} (e : prt p i 10 = none) : finN blk p i h r = r := by unfold finN; rw [e]
theorem fin_some {blk : Bls} {p : List Lin} {i x : Nat} {h : Int} {r : Lft × Rst} (e : prt p i 10 = some x) : finN blk p i h r = lasN blk x h r := by unfold finN; rw [e]
theorem Fw.self {xs : List Cls} {s : Rst} {r : Lft × Rst} (F : Fw xs s r) : Fw xs r.2 r := ⟨F.gd, Nat.le_refl _, Nat.le_refl _, F.rai⟩
set_option maxHeartbeats 4000000 in
set_option maxRecDepth 100000 in
theorem runTry_any (R m c n cap : Nat) (B A : Option Addr) (xs : List Cls) (p : List Lin) (blk : Bls) (C : Nat → Prop) (HB : BlOk R m c n cap B A xs p blk C) (HFw : BFw xs p blk C) (g : GoodP xs p) (i : Nat) (hi : i < p.length) (hC : ∀ x ∈ parts p i, C x) (h7 : knd p i = 7) (h : Int) (s : Rst) (gd : Gd xs s.2) (hh : Hd h s) (hsm : Sm (tryN blk xs p i h s).2) (lv hv : Value) (w : World) (H : Rn w R B m c xs A n cap p lv hv s.1 s.2) :
    RunOk R m c n cap B A xs p 83 #[.pointer (some ⟨R, 0, none⟩), .int .i64 i, .int .i64 h] lv hv w (tryN blk xs p i h s) := by
  have hCi := hC i (List.mem_cons_self ..)
  have F1 := HFw i h s hi hCi gd hh
  have F2 := F1.mid HFw hi hC hh
  have hp := g.len
  have hX : tryN blk xs p i h s = finN blk p i h (midN blk xs p i h (blk i h s)) := rfl
  rw [hX] at hsm ⊢
  clear hX
  obtain ⟨r1, hr1⟩ : ∃ r, blk i h s = r := ⟨_, rfl⟩
  rw [hr1] at hsm F1 F2 ⊢
  obtain ⟨r3, hr3⟩ : ∃ r, midN blk xs p i h r1 = r := ⟨_, rfl⟩
  have F3 := (F1.self.mid HFw hi hC (F1.hd hh))
  rw [hr3] at hsm F2 F3 ⊢
  have hsm3 : Sm r3.2 := by
    rcases hq : prt p i 10 with _ | x
    · rw [fin_none hq] at hsm; exact hsm
    · rw [fin_some hq] at hsm
      have m := prt_mem hq
      exact (HFw x (hdN h r3.1) r3.2 (parts_lt hi x m.1) (hC x m.1) F2.gd (F2.hdn hh)).sm hsm
  have hsm1 : Sm r1.2 := F3.sm hsm3
  have HLa := Lib.hid (fun (x : Nat) (lv2 hv2 : Value) (w2 : World) (hq : prt p i 10 = some x) (RN : Rn w2 R B m c xs A n cap p lv2 hv2 r3.2.1 r3.2.2) => attemptLast_any R m c n cap B A xs p blk C HB x (parts_lt hi x (prt_mem hq).1) (hC x (prt_mem hq).1) h r3.1 r3.2 F2.gd (F2.hdn hh) (by rw [fin_some hq] at hsm; exact hsm) lv2 hv2 w2 RN)
  obtain ⟨T, hT⟩ : ∃ T, finN blk p i h r3 = T := ⟨_, rfl⟩
  have HTn := Lib.hid (fun (hq : prt p i 10 = none) => (hT.symm.trans (fin_none hq) : T = r3))
  have HTs := Lib.hid (fun (x : Nat) (hq : prt p i 10 = some x) => (hT.symm.trans (fin_some hq) : T = lasN blk x h r3))
  rw [hT] at hsm ⊢
  clear hT hsm
  rcases r1 with ⟨l1, s1⟩
  rcases r3 with ⟨l3, s3⟩
  have hh1 : Hd h s1 := F1.hd hh
  have gd1 : Gd xs s1.2 := F1.gd
  have HB1 := HB i h s lv hv w hi hCi gd hh (by rw [hr1]; exact hsm1) H
  rw [hr1] at HB1
  have HE1 : Hid (isNil l1 = true → prt p i 9 = none → l3 = l1 ∧ s3 = s1) := by
    show _ → _
    intro e hq
    cases l1 <;> first | (cases e; done) | skip
    have e2 : midN blk xs p i h (.nil, s1) = (.nil, s1) := by show orN _ _ _ _ = _; unfold orN; rw [hq]
    rw [e2] at hr3; injection hr3 with a b; exact ⟨a.symm, b.symm⟩
  have HE2 : Hid (isNil l1 = true → ∀ (x : Nat) lv2 hv2 w2, prt p i 9 = some x → Rn w2 R B m c xs A n cap p lv2 hv2 s1.1 s1.2 → AtOk R m c n cap B A xs p 100 #[.pointer (some ⟨R, 0, none⟩), .int .i64 x, .int .i64 h] lv2 hv2 w2 (l3, s3)) := by
    show _ → _
    intro e x lv2 hv2 w2 hq RN
    cases l1 <;> first | (cases e; done) | skip
    have e2 : midN blk xs p i h (.nil, s1) = blk x h s1 := by show orN _ _ _ _ = _; unfold orN; rw [hq]
    rw [e2] at hr3
    have m := prt_mem hq
    have := HB x h s1 lv2 hv2 w2 (parts_lt hi x m.1) (hC x m.1) gd1 hh1 (by rw [hr3]; exact hsm3) RN
    rw [hr3] at this; exact this
  have HR0 : Hid (isRai l1 = true → 0 ≤ raiF l1 ∧ raiF l1 < (s1.2.length : Int)) := by
    show _ → _
    intro e
    cases l1 <;> first | (cases e; done) | skip
    exact F1.rai _ rfl
  have HR1 : Hid (isRai l1 = true → ¬ 0 ≤ ctE xs p (clsF s1 (raiF l1)) (exL p i) → l3 = l1 ∧ s3 = s1) := by
    show _ → _
    intro e hq
    cases l1 <;> first | (cases e; done) | skip
    rename_i f
    have e2 : midN blk xs p i h (.rai f, s1) = (.rai f, s1) := if_neg hq
    rw [e2] at hr3; injection hr3 with a b; exact ⟨a.symm, b.symm⟩
  have HR2 : Hid (isRai l1 = true → 0 ≤ ctE xs p (clsF s1 (raiF l1)) (exL p i) → ∀ lv2 hv2 w2, Rn w2 R B m c xs A n cap p lv2 hv2 s1.1 s1.2 → AtOk R m c n cap B A xs p 100 #[.pointer (some ⟨R, 0, none⟩), .int .i64 (ctE xs p (clsF s1 (raiF l1)) (exL p i)), .int .i64 (raiF l1)] lv2 hv2 w2 (l3, s3)) := by
    show _ → _
    intro e hq lv2 hv2 w2 RN
    cases l1 <;> first | (cases e; done) | skip
    rename_i f
    have hq2 : 0 ≤ ctE xs p (clsF s1 f) (exL p i) := hq
    have e2 : midN blk xs p i h (.rai f, s1) = blk (ctE xs p (clsF s1 f) (exL p i)).toNat f s1 := if_pos hq2
    rw [e2] at hr3
    show AtOk R m c n cap B A xs p _ #[.pointer (some ⟨R, 0, none⟩), .int .i64 (ctE xs p (clsF s1 f) (exL p i)), .int .i64 f] lv2 hv2 w2 (l3, s3)
    rcases ctE_mem xs p (clsF s1 f) (exL p i) with e3 | ⟨x, hx, e3⟩
    · rw [e3] at hq2; exact absurd hq2 (by decide)
    · have m := exL_mem hx
      rw [e3] at hr3 ⊢
      have := HB x f s1 lv2 hv2 w2 (parts_lt hi x m.1) (hC x m.1) gd1 (F1.hdr rfl) (by rw [show x = ((x : Int)).toNat by omega, hr3]; exact hsm3) RN
      rw [show blk x f s1 = (l3, s3) from hr3] at this; exact this
  have HO1 : Hid (isNil l1 = false → isRai l1 = false → l3 = l1 ∧ s3 = s1) := by
    show _ → _
    intro e e1
    cases l1 <;> first | (cases e; done) | (cases e1; done) | (injection hr3 with a b; exact ⟨a.symm, b.symm⟩)
  have HX1 := Lib.hid (fun (e : isRai l1 = true) (lv2 hv2 : Value) (w2 : World) (RN : Rn w2 R B m c xs A n cap p lv2 hv2 s1.1 s1.2) => exceptFor_any R m c n cap B A xs p lv2 hv2 s1 i (raiF l1) g hi h7 gd1 (HR0.out e).1 (HR0.out e).2 w2 RN)
  obtain rfl := H.T.len
  have q2l := eql_lf l1
  have q4l := eg_eql l1
  have q5l := ta_rai l1
  clear HB HFw F1 F2 F3 hsm3 hsm1 hr3 hr1 HR0 hh1 gd1 gd hh hCi hC
  unfold RunOk
  show Calls _ _ _ _ _
  generalize isNil l1 = nl at *
  generalize isRai l1 = ri at *
  generalize raiF l1 = rf at *
  generalize ctE xs p (clsF s1 rf) (exL p i) = ce at *
  go_enter Tryz.func83, Tryz.ntmps83
  go_wp2_with fail
  refine (show Calls _ _ _ _ _ from HB1).mono ?_
  rintro e w1 ⟨rfl, lv1, hv1, RN, KP⟩
  clear HB1 H
  cases nl
  · cases ri
    · obtain ⟨rfl, rfl⟩ := HO1.out (by trivial) (by trivial)
      clear HE1 HE2 HR1 HR2 HO1 HX1
      have t1 := RN.c1
      have zz := RN.z
      go_wp2_with fail
      refine (partOf_any _ p.length cap p i 10 hi hp _ RN.T).mono ?_
      rintro e wp ⟨rfl, hlp⟩
      have RNp := RN.le hlp
      have KPp := KP.trans (Kp.of_le R _ _ hlp)
      clear RN KP t1 zz
      rcases hq : prt p i 10 with _ | x
      · have hT := HTn.out hq
        clear HTn HTs HLa
        rw [prtI_none rfl]
        have HR := Lib.hid (And.intro RNp KPp)
        clear RNp KPp
        go_wp2_with fail
        refine (leave_any _ _).mono ?_
        rintro e w6 ⟨rfl, rfl⟩
        subst hT
        cases l3
        case nil => (simp only [lfE]; go_wp2; go_end0; exact ⟨rfl, _, _, HR.out.1, HR.out.2⟩)
        all_goals exact ⟨rfl, rfl, _, _, HR.out.1, HR.out.2⟩
      · have hT := HTs.out x hq
        have HLx := HLa.out x _ _ _ hq RNp
        clear HTn HTs HLa
        rw [prtI_some rfl]
        have hx0 : (0 : Int) ≤ (x : Int) := by omega
        have hxb : decide ((0 : Int) ≤ (x : Int)) = true := decide_eq_true hx0
        go_wp2_with fail
        refine (show Calls _ _ _ _ _ from HLx).mono ?_
        rintro e w6 ⟨rfl, lv6, hv6, RN6, KP6⟩
        have HR := Lib.hid (And.intro RN6 (KPp.trans KP6))
        clear RN6 KP6 RNp KPp HLx
        rw [← hT] at HR ⊢
        clear hT
        rcases T with ⟨lT, sT⟩
        go_wp2_with fail
        refine (leave_any lT _).mono ?_
        rintro e w7 ⟨rfl, rfl⟩
        cases lT
        case nil => (simp only [lfE]; go_wp2; go_end0; exact ⟨rfl, _, _, HR.out.1, HR.out.2⟩)
        all_goals exact ⟨rfl, rfl, _, _, HR.out.1, HR.out.2⟩
    · have HRa := HR1.out (by trivial)
      have HRb := HR2.out (by trivial)
      have HXa := HX1.out (by trivial)
      clear HE1 HE2 HR1 HR2 HO1 HX1
      have L0 := Le.new w1 (.cells #[.int .i64 rf] 88)
      replace RN := RN.le L0
      replace KP := KP.trans (Kp.of_le R _ _ L0)
      have HXb := HXa _ _ _ RN
      have bx : (w1.alloc (.cells #[.int .i64 rf] 88)).cell? ⟨w1.heap.size, 0, none⟩ = some (.int .i64 rf) := by rw [World.cell?_alloc_at _ _ _ _ rfl]; rfl
      have zbx : w1.heap.size < (w1.alloc (.cells #[.int .i64 rf] 88)).heap.size := by simp
      clear L0 HXa
      go_wp2_with fail
      refine HXb.mono ?_
      rintro e w2 ⟨rfl, hl2⟩
      replace bx := (hl2.cell zbx).trans bx
      replace RN := RN.le hl2
      replace KP := KP.trans (Kp.of_le R _ _ hl2)
      clear HXb zbx hl2
      by_cases hce : 0 ≤ ce
      · have hcb : decide (0 ≤ ce) = true := decide_eq_true hce
        have HRc := HRb hce _ _ _ RN
        clear HRa HRb
        go_wp2_with fail
        refine (show Calls _ _ _ _ _ from HRc).mono ?_
        rintro e w3 ⟨rfl, lv3, hv3, RN3, KP3⟩
        replace KP := KP.trans KP3
        replace RN := RN3
        clear KP3 RN3 HRc bx
        have t1 := RN.c1
        have zz := RN.z
        go_wp2_with fail
        refine (partOf_any _ p.length cap p i 10 hi hp _ RN.T).mono ?_
        rintro e wp ⟨rfl, hlp⟩
        have RNp := RN.le hlp
        have KPp := KP.trans (Kp.of_le R _ _ hlp)
        clear RN KP t1 zz
        rcases hq : prt p i 10 with _ | x
        · have hT := HTn.out hq
          clear HTn HTs HLa
          rw [prtI_none rfl]
          have HR := Lib.hid (And.intro RNp KPp)
          clear RNp KPp
          go_wp2_with fail
          refine (leave_any _ _).mono ?_
          rintro e w6 ⟨rfl, rfl⟩
          subst hT
          cases l3
          case nil => (simp only [lfE]; go_wp2; go_end0; exact ⟨rfl, _, _, HR.out.1, HR.out.2⟩)
          all_goals exact ⟨rfl, rfl, _, _, HR.out.1, HR.out.2⟩
        · have hT := HTs.out x hq
          have HLx := HLa.out x _ _ _ hq RNp
          clear HTn HTs HLa
          rw [prtI_some rfl]
          have hx0 : (0 : Int) ≤ (x : Int) := by omega
          have hxb : decide ((0 : Int) ≤ (x : Int)) = true := decide_eq_true hx0
          go_wp2_with fail
          refine (show Calls _ _ _ _ _ from HLx).mono ?_
          rintro e w6 ⟨rfl, lv6, hv6, RN6, KP6⟩
          have HR := Lib.hid (And.intro RN6 (KPp.trans KP6))
          clear RN6 KP6 RNp KPp HLx
          rw [← hT] at HR ⊢
          clear hT
          rcases T with ⟨lT, sT⟩
          go_wp2_with fail
          refine (leave_any lT _).mono ?_
          rintro e w7 ⟨rfl, rfl⟩
          cases lT
          case nil => (simp only [lfE]; go_wp2; go_end0; exact ⟨rfl, _, _, HR.out.1, HR.out.2⟩)
          all_goals exact ⟨rfl, rfl, _, _, HR.out.1, HR.out.2⟩
      · have hcb : decide (0 ≤ ce) = false := decide_eq_false hce
        obtain ⟨rfl, rfl⟩ := HRa (by omega)
        clear HRa HRb
        have t1 := RN.c1
        have zz := RN.z
        go_wp2_with fail
        refine (partOf_any _ p.length cap p i 10 hi hp _ RN.T).mono ?_
        rintro e wp ⟨rfl, hlp⟩
        have RNp := RN.le hlp
        have KPp := KP.trans (Kp.of_le R _ _ hlp)
        clear RN KP t1 zz
        rcases hq : prt p i 10 with _ | x
        · have hT := HTn.out hq
          clear HTn HTs HLa
          rw [prtI_none rfl]
          have HR := Lib.hid (And.intro RNp KPp)
          clear RNp KPp
          go_wp2_with fail
          refine (leave_any _ _).mono ?_
          rintro e w6 ⟨rfl, rfl⟩
          subst hT
          cases l3
          case nil => (simp only [lfE]; go_wp2; go_end0; exact ⟨rfl, _, _, HR.out.1, HR.out.2⟩)
          all_goals exact ⟨rfl, rfl, _, _, HR.out.1, HR.out.2⟩
        · have hT := HTs.out x hq
          have HLx := HLa.out x _ _ _ hq RNp
          clear HTn HTs HLa
          rw [prtI_some rfl]
          have hx0 : (0 : Int) ≤ (x : Int) := by omega
          have hxb : decide ((0 : Int) ≤ (x : Int)) = true := decide_eq_true hx0
          go_wp2_with fail
          refine (show Calls _ _ _ _ _ from HLx).mono ?_
          rintro e w6 ⟨rfl, lv6, hv6, RN6, KP6⟩
          have HR := Lib.hid (And.intro RN6 (KPp.trans KP6))
          clear RN6 KP6 RNp KPp HLx
          rw [← hT] at HR ⊢
          clear hT
          rcases T with ⟨lT, sT⟩
          go_wp2_with fail
          refine (leave_any lT _).mono ?_
          rintro e w7 ⟨rfl, rfl⟩
          cases lT
          case nil => (simp only [lfE]; go_wp2; go_end0; exact ⟨rfl, _, _, HR.out.1, HR.out.2⟩)
          all_goals exact ⟨rfl, rfl, _, _, HR.out.1, HR.out.2⟩
  · have HEa := HE1.out (by trivial)
    have HEb := HE2.out (by trivial)
    clear HE1 HE2 HR1 HR2 HO1 HX1
    have u1 := RN.c1
    have uz := RN.z
    go_wp2_with fail
    refine (partOf_any _ p.length cap p i 9 hi hp _ RN.T).mono ?_
    rintro e w2 ⟨rfl, hl2⟩
    replace RN := RN.le hl2
    replace KP := KP.trans (Kp.of_le R _ _ hl2)
    clear hl2 u1 uz
    rcases hq9 : prt p i 9 with _ | x9
    · rw [prtI_none rfl]
      obtain ⟨rfl, rfl⟩ := HEa hq9
      clear HEa HEb
      have t1 := RN.c1
      have zz := RN.z
      go_wp2_with fail
      refine (partOf_any _ p.length cap p i 10 hi hp _ RN.T).mono ?_
      rintro e wp ⟨rfl, hlp⟩
      have RNp := RN.le hlp
      have KPp := KP.trans (Kp.of_le R _ _ hlp)
      clear RN KP t1 zz
      rcases hq : prt p i 10 with _ | x
      · have hT := HTn.out hq
        clear HTn HTs HLa
        rw [prtI_none rfl]
        have HR := Lib.hid (And.intro RNp KPp)
        clear RNp KPp
        go_wp2_with fail
        refine (leave_any _ _).mono ?_
        rintro e w6 ⟨rfl, rfl⟩
        subst hT
        cases l3
        case nil => (simp only [lfE]; go_wp2; go_end0; exact ⟨rfl, _, _, HR.out.1, HR.out.2⟩)
        all_goals exact ⟨rfl, rfl, _, _, HR.out.1, HR.out.2⟩
      · have hT := HTs.out x hq
        have HLx := HLa.out x _ _ _ hq RNp
        clear HTn HTs HLa
        rw [prtI_some rfl]
        have hx0 : (0 : Int) ≤ (x : Int) := by omega
        have hxb : decide ((0 : Int) ≤ (x : Int)) = true := decide_eq_true hx0
        go_wp2_with fail
        refine (show Calls _ _ _ _ _ from HLx).mono ?_
        rintro e w6 ⟨rfl, lv6, hv6, RN6, KP6⟩
        have HR := Lib.hid (And.intro RN6 (KPp.trans KP6))
        clear RN6 KP6 RNp KPp HLx
        rw [← hT] at HR ⊢
        clear hT
        rcases T with ⟨lT, sT⟩
        go_wp2_with fail
        refine (leave_any lT _).mono ?_
        rintro e w7 ⟨rfl, rfl⟩
        cases lT
        case nil => (simp only [lfE]; go_wp2; go_end0; exact ⟨rfl, _, _, HR.out.1, HR.out.2⟩)
        all_goals exact ⟨rfl, rfl, _, _, HR.out.1, HR.out.2⟩
    · rw [prtI_some rfl]
      have hx90 : (0 : Int) ≤ (x9 : Int) := by omega
      have hx9b : decide ((0 : Int) ≤ (x9 : Int)) = true := decide_eq_true hx90
      have HEc := HEb x9 _ _ _ hq9 RN
      clear HEa HEb
      go_wp2_with fail
      refine (show Calls _ _ _ _ _ from HEc).mono ?_
      rintro e w3 ⟨rfl, lv3, hv3, RN3, KP3⟩
      replace KP := KP.trans KP3
      replace RN := RN3
      clear KP3 RN3 HEc
      have t1 := RN.c1
      have zz := RN.z
      go_wp2_with fail
      refine (partOf_any _ p.length cap p i 10 hi hp _ RN.T).mono ?_
      rintro e wp ⟨rfl, hlp⟩
      have RNp := RN.le hlp
      have KPp := KP.trans (Kp.of_le R _ _ hlp)
      clear RN KP t1 zz
      rcases hq : prt p i 10 with _ | x
      · have hT := HTn.out hq
        clear HTn HTs HLa
        rw [prtI_none rfl]
        have HR := Lib.hid (And.intro RNp KPp)
        clear RNp KPp
        go_wp2_with fail
        refine (leave_any _ _).mono ?_
        rintro e w6 ⟨rfl, rfl⟩
        subst hT
        cases l3
        case nil => (simp only [lfE]; go_wp2; go_end0; exact ⟨rfl, _, _, HR.out.1, HR.out.2⟩)
        all_goals exact ⟨rfl, rfl, _, _, HR.out.1, HR.out.2⟩
      · have hT := HTs.out x hq
        have HLx := HLa.out x _ _ _ hq RNp
        clear HTn HTs HLa
        rw [prtI_some rfl]
        have hx0 : (0 : Int) ≤ (x : Int) := by omega
        have hxb : decide ((0 : Int) ≤ (x : Int)) = true := decide_eq_true hx0
        go_wp2_with fail
        refine (show Calls _ _ _ _ _ from HLx).mono ?_
        rintro e w6 ⟨rfl, lv6, hv6, RN6, KP6⟩
        have HR := Lib.hid (And.intro RN6 (KPp.trans KP6))
        clear RN6 KP6 RNp KPp HLx
        rw [← hT] at HR ⊢
        clear hT
        rcases T with ⟨lT, sT⟩
        go_wp2_with fail
        refine (leave_any lT _).mono ?_
        rintro e w7 ⟨rfl, rfl⟩
        cases lT
        case nil => (simp only [lfE]; go_wp2; go_end0; exact ⟨rfl, _, _, HR.out.1, HR.out.2⟩)
        all_goals exact ⟨rfl, rfl, _, _, HR.out.1, HR.out.2⟩
end

section
/-- what comes last in a try is its last line, if at all -/
theorem prtG_last (p : List Lin) (d : Int) : ∀ m k, prtG p 10 (k :: ptGo p d m k) = if knd p ((k :: ptGo p d m k).getLast (by simp)) = 10 then some ((k :: ptGo p d m k).getLast (by simp)) else none
  | 0, k => rfl
  | m + 1, k => by
    by_cases c : bEnd p k < p.length ∧ dep p (bEnd p k) = d ∧ mayF (knd p k) (knd p (bEnd p k)) = true
    · have e : ptGo p d (m + 1) k = bEnd p k :: ptGo p d m (bEnd p k) := if_pos c
      have hk : knd p k ≠ 10 := fun e2 => by
        have := mayF_iff.1 c.2.2
        omega
      have ih := prtG_last p d m (bEnd p k)
      have key : ∀ (L : List Nat) (hL : L = bEnd p k :: ptGo p d m (bEnd p k)), prtG p 10 (k :: L) = if knd p ((k :: L).getLast (by simp)) = 10 then some ((k :: L).getLast (by simp)) else none := by
        rintro L rfl
        rw [List.getLast_cons (by simp)]
        show (if knd p k = 10 then some k else prtG p 10 (bEnd p k :: ptGo p d m (bEnd p k))) = _
        rw [if_neg hk, ih]
      exact key _ e
    · have e : ptGo p d (m + 1) k = [] := if_neg c
      have key : ∀ (L : List Nat) (hL : L = []), prtG p 10 (k :: L) = if knd p ((k :: L).getLast (by simp)) = 10 then some ((k :: L).getLast (by simp)) else none := by
        rintro L rfl; rfl
      exact key _ e
theorem prt_last (p : List Lin) (i : Nat) : prt p i 10 = if knd p (lstP p i) = 10 then some (lstP p i) else none := by
  have h := prtG_last p (dep p i) p.length i
  have e : (i :: ptGo p (dep p i) p.length i).getLast (by simp) = lstP p i := by
    rw [List.getLast_eq_getElem]; rfl
  rw [e] at h
  exact h
theorem fin_last (blk : Bls) (p : List Lin) (i : Nat) (h : Int) (r : Lft × Rst) : finN blk p i h r = if knd p (lstP p i) = 10 then lasN blk (lstP p i) h r else r := by
  by_cases c : knd p (lstP p i) = 10
  · rw [if_pos c]; exact fin_some (by rw [prt_last, if_pos c])
  · rw [if_neg c]; exact fin_none (by rw [prt_last, if_neg c])
/-- a list that a call keeps -/
structure Lk (W : World) (R : Nat) (lv hv : Value) (D : Option Addr) (q d : Nat) (E : List Nat) : Prop where
  sl : Sl W D q d (nI E)
  nb : ∀ a, D = some a → a.block < W.heap.size ∧ a.block ≠ R ∧ lv.ownBlock ≠ some a.block ∧ hv.ownBlock ≠ some a.block
theorem Lk.kp {W W' : World} {R : Nat} {lv hv lv' hv' : Value} {D : Option Addr} {q d : Nat} {E : List Nat} (h : Lk W R lv hv D q d E) (k : Kp R lv hv lv' hv' W W') : Lk W' R lv' hv' D q d E := by
  refine ⟨⟨h.sl.len, h.sl.cap_, h.sl.max, h.sl.ok, fun hn => ?_⟩, fun a e => ?_⟩
  · obtain ⟨b, off, e, hb, hc⟩ := h.sl.at_ hn
    have n := h.nb _ e
    exact ⟨b, off, e, Nat.lt_of_lt_of_le hb k.size, fun j u hu => (World.cell?_of_block (a := ⟨b, off + j, none⟩) (k.blk b hb n.2.1 n.2.2.1 n.2.2.2)).trans (hc j u hu)⟩
  · have n := h.nb a e
    exact ⟨Nat.lt_of_lt_of_le n.1 k.size, n.2.1, k.ownL n.1 n.2.2.1, k.ownH n.1 n.2.2.2⟩
theorem Lk.le {W W' : World} {R : Nat} {lv hv : Value} {D : Option Addr} {q d : Nat} {E : List Nat} (h : Lk W R lv hv D q d E) (L : Le W W') : Lk W' R lv hv D q d E := h.kp (Kp.of_le R lv hv L)
theorem Lk.set {W : World} {R g o : Nat} {lv hv : Value} {D : Option Addr} {q d : Nat} {E : List Nat} (h : Lk W R lv hv D q d E) (hg : ∀ a, D = some a → a.block ≠ g) (u : Value) : Lk (W.setCell ⟨g, o, none⟩ u) R lv hv D q d E := by
  refine ⟨h.sl.grown (grown_set W g o u) (fun hn a e e2 => hg a e (by injection e2)), fun a e => ?_⟩
  have n := h.nb a e
  exact ⟨by simp [World.setCell]; exact n.1, n.2⟩
theorem edK_nil {l : Lft} : (edK l = 0 → isNil l = true) ∧ (edK l ≠ 0 → isNil l = false) := by
  cases l <;> (constructor <;> intro e <;> first | rfl | (cases e; done) | exact absurd rfl e)
theorem edK_rai {l : Lft} : (edK l = 2 → isRai l = true ∧ raiF l = edW l) ∧ (edK l ≠ 2 → isRai l = false) := by
  cases l <;> (constructor <;> intro e <;> first | rfl | exact ⟨rfl, rfl⟩ | (cases e; done) | exact absurd rfl e)
set_option maxHeartbeats 8000000 in
set_option maxRecDepth 100000 in
theorem sRunTry_any (R m c n cap : Nat) (B A : Option Addr) (xs : List Cls) (p : List Lin) (blk : Bls) (C : Nat → Prop) (HB : SbOk R m c n cap B A xs p blk C) (HFw : BFw xs p blk C) (g : GoodP xs p) (i : Nat) (hi : i < p.length) (hC : ∀ x ∈ parts p i, C x) (h7 : knd p i = 7) (h : Int) (s : Rst) (gd : Gd xs s.2) (hh : Hd h s) (hsm : Sm (tryN blk xs p i h s).2) (lv hv : Value) (w : World) (H : Rn w R B m c xs A n cap p lv hv s.1 s.2) :
    SpOk R m c n cap B A xs p 92 #[.pointer (some ⟨R, 0, none⟩), .int .i64 i, .int .i64 h] lv hv w (tryN blk xs p i h s) := by
  have hCi := hC i (List.mem_cons_self ..)
  have F1 := HFw i h s hi hCi gd hh
  have F2 := F1.mid HFw hi hC hh
  have hp := g.len
  have hz := H.z
  have hX : tryN blk xs p i h s = finN blk p i h (midN blk xs p i h (blk i h s)) := rfl
  rw [hX] at hsm ⊢
  clear hX
  obtain ⟨r1, hr1⟩ : ∃ r, blk i h s = r := ⟨_, rfl⟩
  rw [hr1] at hsm F1 F2 ⊢
  obtain ⟨r3, hr3⟩ : ∃ r, midN blk xs p i h r1 = r := ⟨_, rfl⟩
  have F3 := (F1.self.mid HFw hi hC (F1.hd hh))
  rw [hr3] at hsm F2 F3 ⊢
  have hsm3 : Sm r3.2 := by
    rcases hq : prt p i 10 with _ | x
    · rw [fin_none hq] at hsm; exact hsm
    · rw [fin_some hq] at hsm
      have m := prt_mem hq
      exact (HFw x (hdN h r3.1) r3.2 (parts_lt hi x m.1) (hC x m.1) F2.gd (F2.hdn hh)).sm hsm
  have hsm1 : Sm r1.2 := F3.sm hsm3
  obtain ⟨T, hT⟩ : ∃ T, finN blk p i h r3 = T := ⟨_, rfl⟩
  have hT9 := hT
  have hsm9 := hsm
  rw [hT] at hsm ⊢
  clear hT hsm
  rcases r1 with ⟨l1, s1⟩
  rcases r3 with ⟨l3, s3⟩
  have hh1 : Hd h s1 := F1.hd hh
  have gd1 : Gd xs s1.2 := F1.gd
  have HB1 := HB i h s lv hv w hi hCi gd hh (by rw [hr1]; exact hsm1) H
  rw [hr1] at HB1
  have HE1 : Hid (isNil l1 = true → prt p i 9 = none → l3 = l1 ∧ s3 = s1) := by
    show _ → _
    intro e hq
    cases l1 <;> first | (cases e; done) | skip
    have e2 : midN blk xs p i h (.nil, s1) = (.nil, s1) := by show orN _ _ _ _ = _; unfold orN; rw [hq]
    rw [e2] at hr3; injection hr3 with a b; exact ⟨a.symm, b.symm⟩
  have HE2 : Hid (isNil l1 = true → ∀ (x : Nat) lv2 hv2 w2, prt p i 9 = some x → Rn w2 R B m c xs A n cap p lv2 hv2 s1.1 s1.2 → SpOk R m c n cap B A xs p 108 #[.pointer (some ⟨R, 0, none⟩), .int .i64 x, .int .i64 h] lv2 hv2 w2 (l3, s3)) := by
    show _ → _
    intro e x lv2 hv2 w2 hq RN
    cases l1 <;> first | (cases e; done) | skip
    have e2 : midN blk xs p i h (.nil, s1) = blk x h s1 := by show orN _ _ _ _ = _; unfold orN; rw [hq]
    rw [e2] at hr3
    have m := prt_mem hq
    have := HB x h s1 lv2 hv2 w2 (parts_lt hi x m.1) (hC x m.1) gd1 hh1 (by rw [hr3]; exact hsm3) RN
    rw [hr3] at this; exact this
  have HR0 : Hid (isRai l1 = true → 0 ≤ raiF l1 ∧ raiF l1 < (s1.2.length : Int)) := by
    show _ → _
    intro e
    cases l1 <;> first | (cases e; done) | skip
    exact F1.rai _ rfl
  have HR1 : Hid (isRai l1 = true → ¬ 0 ≤ ctE xs p (clsF s1 (raiF l1)) (exL p i) → l3 = l1 ∧ s3 = s1) := by
    show _ → _
    intro e hq
    cases l1 <;> first | (cases e; done) | skip
    rename_i f
    have e2 : midN blk xs p i h (.rai f, s1) = (.rai f, s1) := if_neg hq
    rw [e2] at hr3; injection hr3 with a b; exact ⟨a.symm, b.symm⟩
  have HR2 : Hid (isRai l1 = true → 0 ≤ ctE xs p (clsF s1 (raiF l1)) (exL p i) → ∀ lv2 hv2 w2, Rn w2 R B m c xs A n cap p lv2 hv2 s1.1 s1.2 → SpOk R m c n cap B A xs p 108 #[.pointer (some ⟨R, 0, none⟩), .int .i64 (ctE xs p (clsF s1 (raiF l1)) (exL p i)), .int .i64 (raiF l1)] lv2 hv2 w2 (l3, s3)) := by
    show _ → _
    intro e hq lv2 hv2 w2 RN
    cases l1 <;> first | (cases e; done) | skip
    rename_i f
    have hq2 : 0 ≤ ctE xs p (clsF s1 f) (exL p i) := hq
    have e2 : midN blk xs p i h (.rai f, s1) = blk (ctE xs p (clsF s1 f) (exL p i)).toNat f s1 := if_pos hq2
    rw [e2] at hr3
    show SpOk R m c n cap B A xs p _ #[.pointer (some ⟨R, 0, none⟩), .int .i64 (ctE xs p (clsF s1 f) (exL p i)), .int .i64 f] lv2 hv2 w2 (l3, s3)
    rcases ctE_mem xs p (clsF s1 f) (exL p i) with e3 | ⟨x, hx, e3⟩
    · rw [e3] at hq2; exact absurd hq2 (by decide)
    · have m := exL_mem hx
      rw [e3] at hr3 ⊢
      have := HB x f s1 lv2 hv2 w2 (parts_lt hi x m.1) (hC x m.1) gd1 (F1.hdr rfl) (by rw [show x = ((x : Int)).toNat by omega, hr3]; exact hsm3) RN
      rw [show blk x f s1 = (l3, s3) from hr3] at this; exact this
  have HO1 : Hid (isNil l1 = false → isRai l1 = false → l3 = l1 ∧ s3 = s1) := by
    show _ → _
    intro e e1
    cases l1 <;> first | (cases e; done) | (cases e1; done) | (injection hr3 with a b; exact ⟨a.symm, b.symm⟩)
  have HXc := Lib.hid (fun (e : isRai l1 = true) (lv2 hv2 : Value) (w2 : World) (q d : Nat) (D : Option Addr) (SL : Sl w2 D q d (nI (parts p i))) (RN : Rn w2 R B m c xs A n cap p lv2 hv2 s1.1 s1.2) => caught_any R m c n cap q d B A D xs p lv2 hv2 s1 i (raiF l1) g hi h7 gd1 (HR0.out e).1 (HR0.out e).2 w2 SL RN)
  have hlm := lstP_mem p i
  have HFi := Lib.hid (fun (lv2 hv2 : Value) (w2 : World) (q d : Nat) (D : Option Addr) (SL : Sl w2 D q d (nI (parts p i))) (RN : Rn w2 R B m c xs A n cap p lv2 hv2 s3.1 s3.2) => (show SpOk R m c n cap B A xs p 109 #[.pointer (some ⟨R, 0, none⟩), .slice D q d, .agg #[.int .i64 (edK l3), .int .i64 (edW l3)], .int .i64 h] lv2 hv2 w2 T by
    have := sRunFinally_any R m c n cap q d B A D xs p blk C HB (parts p i) (lstP p i) (parts_lt hi _ hlm) ⟨parts_posF p i, rfl⟩ (by have := parts_len p i; omega) (fun _ => hC _ hlm) h l3 s3 F2.gd (F2.hdn hh) (fun hk => by rw [fin_last, if_pos hk] at hsm9; exact hsm9) lv2 hv2 w2 SL RN
    rw [← fin_last, hT9] at this
    exact this))
  obtain rfl := H.T.len
  have HCP := Lib.hid (chain_parts g.tries hi)
  have L0 := Le.new w (.cells #[.int .i64 0, .int .i64 0] 77)
  have BX := Bx.new H (.int .i64 0) (.int .i64 0) 77
  have RN := H.le L0
  have KQ := Kp.of_le R lv hv L0
  have hE0 := parts_posF p i
  have hpl := parts_len p i
  have HLT := Lib.hid (parts_lt hi)
  have HPE : Hid (prt p i 9 = prtG p 9 ((parts p i).drop 1)) := by
    show prtG p 9 (parts p i) = _
    have := prtG_at (p := p) (K := 9) (L := parts p i) (q := 0) hE0
    rw [List.drop_zero] at this
    rw [this]
    have e0 : (parts p i)[0] = i := rfl
    rw [e0, if_neg (by rw [h7]; decide)]
  have hN := edK_nil (l := l1)
  have hRa := edK_rai (l := l1)
  replace HB1 : ∀ w2, Rn w2 R B m c xs A p.length cap p lv hv s.1 s.2 → SpOk R m c p.length cap B A xs p 108 #[.pointer (some ⟨R, 0, none⟩), .int .i64 i, .int .i64 h] lv hv w2 (l1, s1) := fun w2 H2 => by have := HB i h s lv hv w2 hi hCi gd hh (by rw [hr1]; exact hsm1) H2; rw [hr1] at this; exact this
  clear HB HFw F1 F2 F3 hsm3 hsm1 hr3 hr1 HR0 hh1 gd1 gd hh hCi hC H L0 hlm hsm9 hT9
  unfold SpOk
  show Calls _ _ _ _ _
  have HN := Lib.hid hN
  have HRA := Lib.hid hRa
  clear hN hRa
  generalize isNil l1 = nl at *
  generalize isRai l1 = ri at *
  generalize raiF l1 = rf at *
  generalize ctE xs p (clsF s1 rf) (exL p i) = ce at *
  have HP9 := HPE
  generalize prt p i 9 = o9 at *
  have c1 := RN.c1
  go_enter Tryz.func92, Tryz.ntmps92
  go_wp2_with fail
  generalize hW0 : w.alloc (.cells #[.int .i64 0, .int .i64 0] 77) = W at *
  have hWs : w.heap.size < W.heap.size := BX.z
  clear hW0
  refine (chainOf_any A p.length cap p i hi (by omega) W RN.T).mono ?_
  rintro e w1 ⟨v, rfl, D, hle⟩
  rw [HCP.out] at D
  obtain ⟨A2, q2, rfl, SL, hnb⟩ := D.form (by decide)
  rw [nI_len] at SL ⊢
  have LK : Lk w1 R lv hv A2 (parts p i).length q2 (parts p i) := ⟨SL, fun a e => by
    subst e
    have h1 := hnb a.block rfl
    exact ⟨h1.2, by have := RN.z; omega, fun e2 => by have := (RN.O.lt _ e2).2; omega, fun e2 => by have := (RN.H.lt _ e2).2; omega⟩⟩
  have hLKw : ∀ a, A2 = some a → a.block < w1.heap.size := fun a e => (LK.nb a e).1
  have hWw1 := hle.size
  replace RN := RN.le hle
  replace BX := BX.le hle
  replace KQ := KQ.trans (Kp.of_le R lv hv hle)
  generalize parts p i = E at *
  clear D hle c1 HCP HPE SL hnb
  go_wp2_with fail
  refine (show Calls _ _ _ _ _ from HB1 w1 RN).mono ?_
  rintro e w2 ⟨rfl, lv2, hv2, RN2, KP2⟩
  simp only at RN2 KP2
  obtain ⟨k1, hk1⟩ : ∃ z, edK l1 = z := ⟨_, rfl⟩
  obtain ⟨w1v, hw1v⟩ : ∃ z, edW l1 = z := ⟨_, rfl⟩
  have HK1 := Lib.hid hk1
  have HW1 := Lib.hid hw1v
  rw [hw1v] at HRA
  rw [hk1] at HN HRA
  simp only [hk1, hw1v]
  clear hk1 hw1v
  have hw12 := KP2.size
  have LE := Le.new w2 (.cells #[.int .i64 k1, .int .i64 w1v] 77)
  have B2 := Bx.new RN2 (.int .i64 k1) (.int .i64 w1v) 77
  have hLKg : ∀ a, A2 = some a → a.block ≠ w2.heap.size := fun a e => by have := hLKw a e; omega
  replace LK := (LK.kp KP2).le LE
  replace BX := (BX.kp KP2).le LE
  replace KQ := (KQ.trans KP2).trans (Kp.of_le R lv2 hv2 LE)
  have hw02 : w.heap.size < w2.heap.size := by have := RN.z; have := BX.z; have h3 := hw12; have := hWs; have h5 := hWw1; omega
  replace RN := RN2.le LE
  clear RN2 KP2 LE HB1
  go_wp2
  generalize w2.alloc (.cells #[.int .i64 k1, .int .i64 w1v] 77) = V at *
  by_cases hk10 : k1 = 0
  · subst hk10
    have hnl := HN.out.1 rfl
    have hri := HRA.out.2 (by decide)
    have HEa := HE1.out hnl
    have HEb := HE2.out hnl
    clear HE1 HE2 HR1 HR2 HO1 HXc HN HRA
    go_loopw [9] (fun u wr => ∃ k : Nat, 1 ≤ k ∧ k ≤ E.length ∧ u = .int .i64 k ∧ o9 = prtG p 9 (E.drop k) ∧ Le V wr) (fun u _ => E.length - (intOf u).toNat)
    case atStart => exact ⟨1, Nat.le_refl _, by omega, rfl, HP9.out, Le.refl _⟩
    case round =>
      obtain ⟨k, hk1, hkE, rfl, hr, hle⟩ := hrel
      have HR := Lib.hid hr
      clear hr
      replace RN := RN.le hle
      replace BX := BX.le hle
      replace B2 := B2.le hle
      replace KQ := KQ.trans (Kp.of_le R lv2 hv2 hle)
      replace LK := LK.le hle
      have hLV := hle
      clear hle
      by_cases hlk : k < E.length
      · have SLr := LK.sl
        obtain ⟨b5, off5, rfl, hb5, c5, -⟩ := SLr.int_at (k := k) (by rw [nI_len]; exact hlk)
        rw [nI_at hlk] at c5
        have hx := HLT.out E[k] (List.getElem_mem hlk)
        have HD := Lib.hid (prtG_at (p := p) (K := 9) hlk)
        generalize E[k] = x at *
        have r1 := RN.c1
        have zR := RN.z
        have HT1 := Lib.hid RN.T
        obtain ⟨b4, off4, eA, hb4, d0, d1, d2, d3, -⟩ := HT1.out.lin_at hx
        have HEA := Lib.hid eA
        rw [eA] at r1
        clear eA
        have HK := Lib.hid (knd_at hx)
        have hx0 : (0 : Int) ≤ (x : Int) := by omega
        have hxn : (x : Int) < (p.length : Int) := by omega
        have hk0 : (0 : Int) ≤ (k : Int) := by omega
        have hkn : (k : Int) < (E.length : Int) := by omega
        have y0 := B2.c0
        have zE := B2.z
        have E1 := cell_ext zR r1
        have E5 := cell_ext hb5 c5
        have Ed := cell_ext hb4 d1
        have Ey := cell_ext zE y0
        clear r1 d0 d1 d2 d3 y0
        generalize p[x].kind = vk at *
        have HW := Lib.hid (And.intro RN (And.intro BX (And.intro B2 (And.intro KQ LK))))
        have HC5 := Lib.hid c5
        clear c5 SLr
        by_cases h9 : vk = 9
        · subst h9
          have HO : Hid (o9 = some x) := by show _ = _; rw [HR.out, HD.out, if_pos HK.out]
          clear RN BX B2 KQ LK
          go_wp2_with fail
          refine wp_region_ext (by kernel_rfl) (by kernel_rfl) ?_
          repeat (go_big_quiet_step (fail))
          refine wpQuiet_nil ?_
          intro _ hw'
          obtain ⟨gg, rfl⟩ := hw'
          have hw1 := Le.ext wr gg
          replace HW := Lib.hid (And.intro (HW.out.1.le hw1) (And.intro (HW.out.2.1.le hw1) (And.intro (HW.out.2.2.1.le hw1) (And.intro (HW.out.2.2.2.1.trans (Kp.of_le R lv2 hv2 hw1)) (HW.out.2.2.2.2.le hw1)))))
          have c5 := (hw1.cell hb5).trans HC5.out
          clear E1 E5 Ed Ey
          generalize wr.ext gg = W2 at *
          obtain ⟨RN, BX, B2, KQ, LK⟩ := HW.out
          have HBy := HEb x _ _ _ HO.out RN
          clear HW HC5 HD HR HO
          go_wp2_with fail
          refine (show Calls _ _ _ _ _ from HBy).mono ?_
          rintro e w6 ⟨rfl, lv6, hv6, RN6, KP6⟩
          simp only at RN6
          have B6 := B2.kp KP6
          have y0 := B6.c0
          have y1 := B6.c1
          have v0 := B6.f 0
          have v1 := B6.f 1
          have RN7 := RN6.put2 B6 (by omega) (.int .i64 (edK l3)) (.int .i64 (edW l3))
          have KQ7 := (KQ.trans KP6).put2 (g := w2.heap.size) (by omega) (.int .i64 (edK l3)) (.int .i64 (edW l3))
          have BX7 := ((BX.kp KP6).set (g2 := w2.heap.size) (o := 0) (by omega) (.int .i64 (edK l3))).set (g2 := w2.heap.size) (o := 1) (by omega) (.int .i64 (edW l3))
          have B7 := B6.put (.int .i64 (edK l3)) (.int .i64 (edW l3))
          have LK7 := ((LK.kp KP6).set (o := 0) hLKg (.int .i64 (edK l3))).set (o := 1) hLKg (.int .i64 (edW l3))
          have e0 := B7.c0
          have e1 := B7.c1
          have HFx := HFi.out _ _ _ _ _ _ LK7.sl RN7
          clear RN KQ BX B2 LK RN6 KP6 B6
          have RN := RN7
          have KQ := KQ7
          have BX := BX7
          have LK := LK7
          clear RN7 KQ7 BX7 LK7
          go_wp2_with fail
          refine (show Calls _ _ _ _ _ from HFx).mono ?_
          rintro e w9 ⟨rfl, lv9, hv9, RN9, KP9⟩
          have BX9 := BX.kp KP9
          have KQ9 := KQ.trans KP9
          have b0 := BX9.c0
          have b1 := BX9.c1
          have f0 := BX9.f 0
          have f1 := BX9.f 1
          have HE := Lib.hid (And.intro (RN9.put2 BX9 hz (.int .i64 (edK T.1)) (.int .i64 (edW T.1))) (KQ9.put2 (Nat.le_refl _) (.int .i64 (edK T.1)) (.int .i64 (edW T.1))))
          have HC := Lib.hid (BX9.put (.int .i64 (edK T.1)) (.int .i64 (edW T.1)))
          clear RN9 KP9 BX9 KQ9
          go_wp2
          have z0 := HC.out.c0
          have z1 := HC.out.c1
          exact bodyPost_ret (v := .agg #[.int .i64 (edK T.1), .int .i64 (edW T.1)]) (by simp [results, Tryz.results92, go_sem, z0, z1]) rfl ⟨rfl, _, _, HE.out.1, HE.out.2⟩
        · have h9b : (vk == 9) = false := by simpa using h9
          have h9c : decide (vk = 9) = false := decide_eq_false h9
          have HF : Hid (o9 = prtG p 9 (E.drop (k + 1))) := by show _ = _; rw [HR.out, HD.out, if_neg (by rw [HK.out]; exact h9)]
          clear RN BX B2 KQ LK HW
          go_wp2_with fail
          refine wp_region_ext (by kernel_rfl) (by kernel_rfl) ?_
          repeat (go_big_quiet_step (fail))
          refine wpQuiet_nil ?_
          intro _ hw'
          obtain ⟨gg, rfl⟩ := hw'
          have hw1 := Le.ext wr gg
          generalize wr.ext gg = W2 at *
          go_wp2
          go_roundw
          case rel => exact ⟨k + 1, by omega, by omega, by go_num, HF.out, hLV.trans hw1⟩
          case measure => simp [intOf]; omega
      · have y0 := B2.c0
        have y1 := B2.c1
        have zE := B2.z
        have HS := HEa (HR.out.trans (by rw [List.drop_eq_nil_of_le (by omega)]; rfl))
        obtain ⟨rfl, rfl⟩ := HS
        have HFx := HFi.out _ _ _ _ _ _ LK.sl RN
        rw [HK1.out, HW1.out] at HFx
        go_wp2_with fail
        refine (show Calls _ _ _ _ _ from HFx).mono ?_
        rintro e w9 ⟨rfl, lv9, hv9, RN9, KP9⟩
        have BX9 := BX.kp KP9
        have KQ9 := KQ.trans KP9
        have b0 := BX9.c0
        have b1 := BX9.c1
        have f0 := BX9.f 0
        have f1 := BX9.f 1
        have HE := Lib.hid (And.intro (RN9.put2 BX9 hz (.int .i64 (edK T.1)) (.int .i64 (edW T.1))) (KQ9.put2 (Nat.le_refl _) (.int .i64 (edK T.1)) (.int .i64 (edW T.1))))
        have HC := Lib.hid (BX9.put (.int .i64 (edK T.1)) (.int .i64 (edW T.1)))
        clear RN9 KP9 BX9 KQ9
        go_wp2
        have z0 := HC.out.c0
        have z1 := HC.out.c1
        exact bodyPost_ret (v := .agg #[.int .i64 (edK T.1), .int .i64 (edW T.1)]) (by simp [results, Tryz.results92, go_sem, z0, z1]) rfl ⟨rfl, _, _, HE.out.1, HE.out.2⟩
  · by_cases hk12 : k1 = 2
    · subst hk12
      have hri := (HRA.out.1 rfl).1
      obtain rfl := (HRA.out.1 rfl).2
      have HRa := HR1.out hri
      have HRb := HR2.out hri
      have HXa := HXc.out hri
      clear HE1 HE2 HR1 HR2 HO1 HXc HN HRA
      go_loopw [9] (fun u wr => ∃ k : Nat, 1 ≤ k ∧ k ≤ E.length ∧ u = .int .i64 k ∧ Le V wr) (fun u _ => E.length - (intOf u).toNat)
      case atStart => exact ⟨1, Nat.le_refl _, by omega, rfl, Le.refl _⟩
      case round =>
        obtain ⟨k, hk1, hkE, rfl, hle⟩ := hrel
        replace RN := RN.le hle
        replace BX := BX.le hle
        replace B2 := B2.le hle
        replace KQ := KQ.trans (Kp.of_le R lv2 hv2 hle)
        replace LK := LK.le hle
        have hLV := hle
        clear hle
        by_cases hlk : k < E.length
        · have SLr := LK.sl
          obtain ⟨b5, off5, rfl, hb5, c5, -⟩ := SLr.int_at (k := k) (by rw [nI_len]; exact hlk)
          rw [nI_at hlk] at c5
          have hx := HLT.out E[k] (List.getElem_mem hlk)
          have HD := Lib.hid (prtG_at (p := p) (K := 9) hlk)
          generalize E[k] = x at *
          have r1 := RN.c1
          have zR := RN.z
          have HT1 := Lib.hid RN.T
          obtain ⟨b4, off4, eA, hb4, d0, d1, d2, d3, -⟩ := HT1.out.lin_at hx
          have HEA := Lib.hid eA
          rw [eA] at r1
          clear eA
          have HK := Lib.hid (knd_at hx)
          have hx0 : (0 : Int) ≤ (x : Int) := by omega
          have hxn : (x : Int) < (p.length : Int) := by omega
          have hk0 : (0 : Int) ≤ (k : Int) := by omega
          have hkn : (k : Int) < (E.length : Int) := by omega
          have y0 := B2.c0
          have zE := B2.z
          have E1 := cell_ext zR r1
          have E5 := cell_ext hb5 c5
          have Ed := cell_ext hb4 d1
          have Ey := cell_ext zE y0
          clear r1 d0 d1 d2 d3 y0
          generalize p[x].kind = vk at *
          have HW := Lib.hid (And.intro RN (And.intro BX (And.intro B2 (And.intro KQ LK))))
          have HC5 := Lib.hid c5
          clear c5 SLr
          clear RN BX B2 KQ LK HW
          by_cases h9 : vk = 9
          · subst h9
            go_wp2_with fail
            refine wp_region_ext (by kernel_rfl) (by kernel_rfl) ?_
            repeat (go_big_quiet_step (fail))
            refine wpQuiet_nil ?_
            intro _ hw'
            obtain ⟨gg, rfl⟩ := hw'
            have hw1 := Le.ext wr gg
            generalize wr.ext gg = W2 at *
            go_wp2
            go_roundw
            case rel => exact ⟨k + 1, by omega, by omega, by go_num, hLV.trans hw1⟩
            case measure => simp [intOf]; omega
          · have h9b : (vk == 9) = false := by simpa using h9
            have h9c : decide (vk = 9) = false := decide_eq_false h9
            go_wp2_with fail
            refine wp_region_ext (by kernel_rfl) (by kernel_rfl) ?_
            repeat (go_big_quiet_step (fail))
            refine wpQuiet_nil ?_
            intro _ hw'
            obtain ⟨gg, rfl⟩ := hw'
            have hw1 := Le.ext wr gg
            generalize wr.ext gg = W2 at *
            go_wp2
            go_roundw
            case rel => exact ⟨k + 1, by omega, by omega, by go_num, hLV.trans hw1⟩
            case measure => simp [intOf]; omega
        · have y0 := B2.c0
          have y1 := B2.c1
          have zE := B2.z
          have HXx := HXa _ _ _ _ _ _ LK.sl RN
          go_wp2_with fail
          refine HXx.mono ?_
          rintro e w4 ⟨rfl, hl4⟩
          replace RN := RN.le hl4
          replace BX := BX.le hl4
          replace B2 := B2.le hl4
          replace KQ := KQ.trans (Kp.of_le R lv2 hv2 hl4)
          replace LK := LK.le hl4
          clear hl4 y0 y1 HXx
          have y0 := B2.c0
          have y1 := B2.c1
          by_cases hce : 0 ≤ ce
          · have hcb : decide (0 ≤ ce) = true := decide_eq_true hce
            have HBy := HRb (by omega) _ _ _ RN
            go_wp2_with fail
            refine (show Calls _ _ _ _ _ from HBy).mono ?_
            rintro e w6 ⟨rfl, lv6, hv6, RN6, KP6⟩
            simp only at RN6
            have B6 := B2.kp KP6
            clear y0 y1
            have y0 := B6.c0
            have y1 := B6.c1
            have v0 := B6.f 0
            have v1 := B6.f 1
            have RN7 := RN6.put2 B6 (by omega) (.int .i64 (edK l3)) (.int .i64 (edW l3))
            have KQ7 := (KQ.trans KP6).put2 (g := w2.heap.size) (by omega) (.int .i64 (edK l3)) (.int .i64 (edW l3))
            have BX7 := ((BX.kp KP6).set (g2 := w2.heap.size) (o := 0) (by omega) (.int .i64 (edK l3))).set (g2 := w2.heap.size) (o := 1) (by omega) (.int .i64 (edW l3))
            have B7 := B6.put (.int .i64 (edK l3)) (.int .i64 (edW l3))
            have LK7 := ((LK.kp KP6).set (o := 0) hLKg (.int .i64 (edK l3))).set (o := 1) hLKg (.int .i64 (edW l3))
            have e0 := B7.c0
            have e1 := B7.c1
            have HFx := HFi.out _ _ _ _ _ _ LK7.sl RN7
            clear RN KQ BX B2 LK RN6 KP6 B6
            have RN := RN7
            have KQ := KQ7
            have BX := BX7
            have LK := LK7
            clear RN7 KQ7 BX7 LK7
            go_wp2_with fail
            refine (show Calls _ _ _ _ _ from HFx).mono ?_
            rintro e w9 ⟨rfl, lv9, hv9, RN9, KP9⟩
            have BX9 := BX.kp KP9
            have KQ9 := KQ.trans KP9
            have b0 := BX9.c0
            have b1 := BX9.c1
            have f0 := BX9.f 0
            have f1 := BX9.f 1
            have HE := Lib.hid (And.intro (RN9.put2 BX9 hz (.int .i64 (edK T.1)) (.int .i64 (edW T.1))) (KQ9.put2 (Nat.le_refl _) (.int .i64 (edK T.1)) (.int .i64 (edW T.1))))
            have HC := Lib.hid (BX9.put (.int .i64 (edK T.1)) (.int .i64 (edW T.1)))
            clear RN9 KP9 BX9 KQ9
            go_wp2
            have z0 := HC.out.c0
            have z1 := HC.out.c1
            exact bodyPost_ret (v := .agg #[.int .i64 (edK T.1), .int .i64 (edW T.1)]) (by simp [results, Tryz.results92, go_sem, z0, z1]) rfl ⟨rfl, _, _, HE.out.1, HE.out.2⟩
          · have hcb : decide (0 ≤ ce) = false := decide_eq_false hce
            have HS := HRa (by omega)
            obtain ⟨rfl, rfl⟩ := HS
            have HFx := HFi.out _ _ _ _ _ _ LK.sl RN
            rw [HK1.out, HW1.out] at HFx
            go_wp2_with fail
            refine (show Calls _ _ _ _ _ from HFx).mono ?_
            rintro e w9 ⟨rfl, lv9, hv9, RN9, KP9⟩
            have BX9 := BX.kp KP9
            have KQ9 := KQ.trans KP9
            have b0 := BX9.c0
            have b1 := BX9.c1
            have f0 := BX9.f 0
            have f1 := BX9.f 1
            have HE := Lib.hid (And.intro (RN9.put2 BX9 hz (.int .i64 (edK T.1)) (.int .i64 (edW T.1))) (KQ9.put2 (Nat.le_refl _) (.int .i64 (edK T.1)) (.int .i64 (edW T.1))))
            have HC := Lib.hid (BX9.put (.int .i64 (edK T.1)) (.int .i64 (edW T.1)))
            clear RN9 KP9 BX9 KQ9
            go_wp2
            have z0 := HC.out.c0
            have z1 := HC.out.c1
            exact bodyPost_ret (v := .agg #[.int .i64 (edK T.1), .int .i64 (edW T.1)]) (by simp [results, Tryz.results92, go_sem, z0, z1]) rfl ⟨rfl, _, _, HE.out.1, HE.out.2⟩
    · have hri := HRA.out.2 hk12
      have hnl := HN.out.2 hk10
      have HOa := HO1.out hnl hri
      clear HE1 HE2 HR1 HR2 HO1 HXc HN HRA
      go_loopw [9] (fun u wr => ∃ k : Nat, 1 ≤ k ∧ k ≤ E.length ∧ u = .int .i64 k ∧ Le V wr) (fun u _ => E.length - (intOf u).toNat)
      case atStart => exact ⟨1, Nat.le_refl _, by omega, rfl, Le.refl _⟩
      case round =>
        obtain ⟨k, hk1, hkE, rfl, hle⟩ := hrel
        replace RN := RN.le hle
        replace BX := BX.le hle
        replace B2 := B2.le hle
        replace KQ := KQ.trans (Kp.of_le R lv2 hv2 hle)
        replace LK := LK.le hle
        have hLV := hle
        clear hle
        by_cases hlk : k < E.length
        · have SLr := LK.sl
          obtain ⟨b5, off5, rfl, hb5, c5, -⟩ := SLr.int_at (k := k) (by rw [nI_len]; exact hlk)
          rw [nI_at hlk] at c5
          have hx := HLT.out E[k] (List.getElem_mem hlk)
          have HD := Lib.hid (prtG_at (p := p) (K := 9) hlk)
          generalize E[k] = x at *
          have r1 := RN.c1
          have zR := RN.z
          have HT1 := Lib.hid RN.T
          obtain ⟨b4, off4, eA, hb4, d0, d1, d2, d3, -⟩ := HT1.out.lin_at hx
          have HEA := Lib.hid eA
          rw [eA] at r1
          clear eA
          have HK := Lib.hid (knd_at hx)
          have hx0 : (0 : Int) ≤ (x : Int) := by omega
          have hxn : (x : Int) < (p.length : Int) := by omega
          have hk0 : (0 : Int) ≤ (k : Int) := by omega
          have hkn : (k : Int) < (E.length : Int) := by omega
          have y0 := B2.c0
          have zE := B2.z
          have E1 := cell_ext zR r1
          have E5 := cell_ext hb5 c5
          have Ed := cell_ext hb4 d1
          have Ey := cell_ext zE y0
          clear r1 d0 d1 d2 d3 y0
          generalize p[x].kind = vk at *
          have HW := Lib.hid (And.intro RN (And.intro BX (And.intro B2 (And.intro KQ LK))))
          have HC5 := Lib.hid c5
          clear c5 SLr
          have hn0 : decide (k1 = 0) = false := decide_eq_false hk10
          have hn1 : (k1 == 0) = false := by simpa using hk10
          clear RN BX B2 KQ LK HW
          by_cases h9 : vk = 9
          · subst h9
            go_wp2_with fail
            refine wp_region_ext (by kernel_rfl) (by kernel_rfl) ?_
            repeat (go_big_quiet_step (fail))
            refine wpQuiet_nil ?_
            intro _ hw'
            obtain ⟨gg, rfl⟩ := hw'
            have hw1 := Le.ext wr gg
            generalize wr.ext gg = W2 at *
            go_wp2
            go_roundw
            case rel => exact ⟨k + 1, by omega, by omega, by go_num, hLV.trans hw1⟩
            case measure => simp [intOf]; omega
          · have h9b : (vk == 9) = false := by simpa using h9
            have h9c : decide (vk = 9) = false := decide_eq_false h9
            go_wp2_with fail
            refine wp_region_ext (by kernel_rfl) (by kernel_rfl) ?_
            repeat (go_big_quiet_step (fail))
            refine wpQuiet_nil ?_
            intro _ hw'
            obtain ⟨gg, rfl⟩ := hw'
            have hw1 := Le.ext wr gg
            generalize wr.ext gg = W2 at *
            go_wp2
            go_roundw
            case rel => exact ⟨k + 1, by omega, by omega, by go_num, hLV.trans hw1⟩
            case measure => simp [intOf]; omega
        · have y0 := B2.c0
          have y1 := B2.c1
          have zE := B2.z
          have hn2 : decide (k1 = 2) = false := decide_eq_false hk12
          have hn3 : (k1 == 2) = false := by simpa using hk12
          have HS := HOa
          obtain ⟨rfl, rfl⟩ := HS
          have HFx := HFi.out _ _ _ _ _ _ LK.sl RN
          rw [HK1.out, HW1.out] at HFx
          go_wp2_with fail
          refine (show Calls _ _ _ _ _ from HFx).mono ?_
          rintro e w9 ⟨rfl, lv9, hv9, RN9, KP9⟩
          have BX9 := BX.kp KP9
          have KQ9 := KQ.trans KP9
          have b0 := BX9.c0
          have b1 := BX9.c1
          have f0 := BX9.f 0
          have f1 := BX9.f 1
          have HE := Lib.hid (And.intro (RN9.put2 BX9 hz (.int .i64 (edK T.1)) (.int .i64 (edW T.1))) (KQ9.put2 (Nat.le_refl _) (.int .i64 (edK T.1)) (.int .i64 (edW T.1))))
          have HC := Lib.hid (BX9.put (.int .i64 (edK T.1)) (.int .i64 (edW T.1)))
          clear RN9 KP9 BX9 KQ9
          go_wp2
          have z0 := HC.out.c0
          have z1 := HC.out.c1
          exact bodyPost_ret (v := .agg #[.int .i64 (edK T.1), .int .i64 (edW T.1)]) (by simp [results, Tryz.results92, go_sem, z0, z1]) rfl ⟨rfl, _, _, HE.out.1, HE.out.2⟩
end

section
theorem log_a {xs : List Cls} {p : List Lin} (g : GoodP xs p) {i : Nat} (hi : i < p.length) (h : p[i].kind = 1 ∨ p[i].kind = 4) : 0 ≤ p[i].a ∧ p[i].a ≤ 99 := by
  have h1 := (g.line i hi).1
  unfold numS at h1
  rw [if_pos h, Bool.and_eq_true] at h1
  exact rng_iff2 h1.1
theorem raise_ab {xs : List Cls} {p : List Lin} (g : GoodP xs p) {i : Nat} (hi : i < p.length) (h : p[i].kind = 2) : (0 ≤ p[i].a ∧ p[i].a < xs.length) ∧ (0 ≤ p[i].b ∧ p[i].b ≤ 99) := by
  have h1 := (g.line i hi).1
  unfold numS at h1
  rw [h, if_neg (by decide), if_pos rfl, Bool.and_eq_true] at h1
  exact ⟨hasK_iff.1 h1.1, rng_iff2 h1.2⟩
/-- where lines have a block that is run -/
def Cn (p : List Lin) (N : Nat) (x : Nat) : Prop := opn (knd p x) = true ∧ 5 ≤ dep p x + N
theorem cn_parts {p : List Lin} {N i : Nat} (hi : i < p.length) (h7 : knd p i = 7) (hd : 5 ≤ dep p i + N) : ∀ x ∈ parts p i, Cn p N x := fun x hx => by
  refine ⟨?_, by rw [(partsF hi hx).2.2]; exact hd⟩
  rcases try_step (show IsTry p i x from ⟨h7, hx⟩) with ⟨h, _⟩ | ⟨h, _⟩
  · rw [h]; rfl
  · have := fol_iff.1 h
    unfold opn rng
    simp; omega
set_option maxHeartbeats 4000000 in
set_option maxRecDepth 100000 in
theorem runLine_any (R m c n cap : Nat) (B A : Option Addr) (xs : List Cls) (p : List Lin) (blk : Bls) (N : Nat) (HB : BlOk R m c n cap B A xs p blk (Cn p N)) (HFw : BFw xs p blk (Cn p N)) (g : GoodP xs p) (i : Nat) (hi : i < p.length) (hd : 5 ≤ dep p i + N) (h : Int) (s : Rst) (gd : Gd xs s.2) (hh : Hd h s) (hsm0 : Sm s) (hsm : Sm (stepN blk xs p h i s).2) (lv hv : Value) (w : World) (H : Rn w R B m c xs A n cap p lv hv s.1 s.2) :
    RunOk R m c n cap B A xs p 50 #[.pointer (some ⟨R, 0, none⟩), .int .i64 i, .int .i64 h] lv hv w (stepN blk xs p h i s) := by
  have hA : lnA p i = p[i].a := lnA_at hi
  have hBc : lnBc p i = p[i].b := lnBc_at hi
  have hK : knd p i = p[i].kind := knd_at hi
  have hh0 := hh.1
  have hh1 := hh.2
  have hx8 := (good_of g.tree).hi
  have c1 := H.c1
  have hz := H.z
  have hl1 := hsm0.1
  have hl2 := hsm0.2
  obtain rfl := H.T.len
  obtain ⟨b5, off5, rfl, hb5, d0, d1, d2, d3, -⟩ := H.T.lin_at hi
  have hi0 : (0 : Int) ≤ (i : Int) := by omega
  have hin : (i : Int) < (p.length : Int) := by omega
  have LX := Le.new w (.cells #[.int .i64 p[i].depth, .int .i64 p[i].kind, .int .i64 p[i].a, .int .i64 p[i].b] 55)
  have b1 : (w.alloc (.cells #[.int .i64 p[i].depth, .int .i64 p[i].kind, .int .i64 p[i].a, .int .i64 p[i].b] 55)).cell? ⟨w.heap.size, 1, none⟩ = some (.int .i64 p[i].kind) := by rw [World.cell?_alloc_at _ _ _ _ rfl]; rfl
  have b2 : (w.alloc (.cells #[.int .i64 p[i].depth, .int .i64 p[i].kind, .int .i64 p[i].a, .int .i64 p[i].b] 55)).cell? ⟨w.heap.size, 2, none⟩ = some (.int .i64 p[i].a) := by rw [World.cell?_alloc_at _ _ _ _ rfl]; rfl
  have b3 : (w.alloc (.cells #[.int .i64 p[i].depth, .int .i64 p[i].kind, .int .i64 p[i].a, .int .i64 p[i].b] 55)).cell? ⟨w.heap.size, 3, none⟩ = some (.int .i64 p[i].b) := by rw [World.cell?_alloc_at _ _ _ _ rfl]; rfl
  have H0 := H.le LX
  have K0 := Kp.of_le R lv hv LX
  by_cases k1 : p[i].kind = 1
  · have hk : knd p i = 1 := hK.trans k1
    have ha := log_a g hi (.inl k1)
    have hE : stepN blk xs p h i s = (.nil, (s.1 ++ [lnA p i], s.2)) := by unfold stepN; rw [if_pos hk]
    rw [hE] at hsm ⊢
    rw [k1] at LX H0 K0 b1 b2 b3 d1
    rw [hA] at hsm ⊢
    unfold RunOk
    show Calls _ _ _ _ _
    go_enter Tryz.func50, Tryz.ntmps50
    go_wp2_with fail
    refine (tell_any R m c _ cap B _ xs p lv hv s.1 s.2 p[i].a ⟨by omega, by omega⟩ hl1 _ H0).mono ?_
    rintro e w2 ⟨rfl, lv2, RN, KP⟩
    have HR := Lib.hid (And.intro RN (K0.trans KP))
    clear RN KP
    go_wp2
    go_end0
    exact ⟨rfl, _, _, HR.out.1, HR.out.2⟩
  by_cases k2 : p[i].kind = 2
  · have hk : knd p i = 2 := hK.trans k2
    have ha := raise_ab g hi k2
    have hE : stepN blk xs p h i s = rsN (lnA p i) (lnBc p i) h s := by unfold stepN; rw [if_neg (by rw [hk]; decide), if_pos hk]
    rw [hE] at hsm ⊢
    rw [k2] at LX H0 K0 b1 b2 b3 d1
    rw [hA, hBc] at hsm ⊢
    unfold RunOk
    show Calls _ _ _ _ _
    go_enter Tryz.func50, Tryz.ntmps50
    go_wp2_with fail
    refine (raise_any R m c _ cap B _ xs p lv hv s.1 s.2 p[i].a p[i].b h (fltR_ok (by omega) (by omega) (by omega)) hl2 _ H0).mono ?_
    rintro e w2 ⟨rfl, hv2, RN, KP⟩
    exact ⟨rfl, rfl, _, _, RN, K0.trans KP⟩
  by_cases k3 : p[i].kind = 3
  · have hk : knd p i = 3 := hK.trans k3
    have hE : stepN blk xs p h i s = againN h s := by unfold stepN; rw [if_neg (by rw [hk]; decide), if_neg (by rw [hk]; decide), if_pos hk]
    rw [hE] at hsm ⊢
    rw [k3] at LX H0 K0 b1 b2 b3 d1
    have HC := raiseAgain_any R m c _ cap B _ xs p lv hv s h hh hl2 _ H0
    clear hsm hE
    generalize againN h s = T at *
    rcases T with ⟨lT, sT⟩
    unfold RunOk
    show Calls _ _ _ _ _
    go_enter Tryz.func50, Tryz.ntmps50
    go_wp2_with fail
    refine (show Calls _ _ _ _ _ from HC).mono ?_
    rintro e w2 ⟨rfl, lv2, hv2, RN, KP⟩
    have HR := Lib.hid (And.intro RN (K0.trans KP))
    clear RN KP HC
    cases lT
    case nil => (simp only [lfE]; go_wp2; go_end0; exact ⟨rfl, _, _, HR.out.1, HR.out.2⟩)
    all_goals exact ⟨rfl, rfl, _, _, HR.out.1, HR.out.2⟩
  by_cases k4 : p[i].kind = 4
  · have hk : knd p i = 4 := hK.trans k4
    have hE : stepN blk xs p h i s = (.ret (lnA p i), s) := by unfold stepN; rw [if_neg (by rw [hk]; decide), if_neg (by rw [hk]; decide), if_neg (by rw [hk]; decide), if_pos hk]
    rw [hE] at hsm ⊢
    rw [k4] at LX H0 K0 b1 b2 b3 d1
    rw [hA] at hsm ⊢
    unfold RunOk
    show Calls _ _ _ _ _
    go_enter Tryz.func50, Tryz.ntmps50
    go_wp2
    exact ⟨rfl, rfl, _, _, H0, K0⟩
  by_cases k5 : p[i].kind = 5
  · have hk : knd p i = 5 := hK.trans k5
    have hE : stepN blk xs p h i s = (.brk, s) := by unfold stepN; rw [if_neg (by rw [hk]; decide), if_neg (by rw [hk]; decide), if_neg (by rw [hk]; decide), if_neg (by rw [hk]; decide), if_pos hk]
    rw [hE] at hsm ⊢
    rw [k5] at LX H0 K0 b1 b2 b3 d1
    unfold RunOk
    show Calls _ _ _ _ _
    go_enter Tryz.func50, Tryz.ntmps50
    go_wp2
    exact ⟨rfl, rfl, _, _, H0, K0⟩
  by_cases k6 : p[i].kind = 6
  · have hk : knd p i = 6 := hK.trans k6
    have hE : stepN blk xs p h i s = (.cnt, s) := by unfold stepN; rw [if_neg (by rw [hk]; decide), if_neg (by rw [hk]; decide), if_neg (by rw [hk]; decide), if_neg (by rw [hk]; decide), if_neg (by rw [hk]; decide), if_pos hk]
    rw [hE] at hsm ⊢
    rw [k6] at LX H0 K0 b1 b2 b3 d1
    unfold RunOk
    show Calls _ _ _ _ _
    go_enter Tryz.func50, Tryz.ntmps50
    go_wp2
    exact ⟨rfl, rfl, _, _, H0, K0⟩
  by_cases k7 : p[i].kind = 7
  · have hk : knd p i = 7 := hK.trans k7
    have hE : stepN blk xs p h i s = tryN blk xs p i h s := by unfold stepN; rw [if_neg (by rw [hk]; decide), if_neg (by rw [hk]; decide), if_neg (by rw [hk]; decide), if_neg (by rw [hk]; decide), if_neg (by rw [hk]; decide), if_neg (by rw [hk]; decide), if_pos hk]
    rw [hE] at hsm ⊢
    rw [k7] at LX H0 K0 b1 b2 b3 d1
    have HC := runTry_any R m c _ cap B _ xs p blk (Cn p N) HB HFw g i hi (cn_parts hi hk hd) hk h s gd hh hsm lv hv _ H0
    clear hsm hE
    generalize tryN blk xs p i h s = T at *
    rcases T with ⟨lT, sT⟩
    unfold RunOk
    show Calls _ _ _ _ _
    go_enter Tryz.func50, Tryz.ntmps50
    go_wp2_with fail
    refine (show Calls _ _ _ _ _ from HC).mono ?_
    rintro e w2 ⟨rfl, lv2, hv2, RN, KP⟩
    have HR := Lib.hid (And.intro RN (K0.trans KP))
    clear RN KP HC
    cases lT
    case nil => (simp only [lfE]; go_wp2; go_end0; exact ⟨rfl, _, _, HR.out.1, HR.out.2⟩)
    all_goals exact ⟨rfl, rfl, _, _, HR.out.1, HR.out.2⟩
  by_cases k11 : p[i].kind = 11
  · have hk : knd p i = 11 := hK.trans k11
    have hE : stepN blk xs p h i s = withN blk p i h s := by unfold stepN; rw [if_neg (by rw [hk]; decide), if_neg (by rw [hk]; decide), if_neg (by rw [hk]; decide), if_neg (by rw [hk]; decide), if_neg (by rw [hk]; decide), if_neg (by rw [hk]; decide), if_neg (by rw [hk]; decide), if_pos hk]
    rw [hE] at hsm ⊢
    rw [k11] at LX H0 K0 b1 b2 b3 d1
    have HC := runWith_any R m c _ cap B _ xs p blk (Cn p N) HB HFw g i hi ⟨by rw [hk]; rfl, hd⟩ hk h s gd hh hsm lv hv _ H0
    clear hsm hE
    generalize withN blk p i h s = T at *
    rcases T with ⟨lT, sT⟩
    unfold RunOk
    show Calls _ _ _ _ _
    go_enter Tryz.func50, Tryz.ntmps50
    go_wp2_with fail
    refine (show Calls _ _ _ _ _ from HC).mono ?_
    rintro e w2 ⟨rfl, lv2, hv2, RN, KP⟩
    have HR := Lib.hid (And.intro RN (K0.trans KP))
    clear RN KP HC
    cases lT
    case nil => (simp only [lfE]; go_wp2; go_end0; exact ⟨rfl, _, _, HR.out.1, HR.out.2⟩)
    all_goals exact ⟨rfl, rfl, _, _, HR.out.1, HR.out.2⟩
  by_cases k12 : p[i].kind = 12
  · have hk : knd p i = 12 := hK.trans k12
    have hE : stepN blk xs p h i s = loopN blk i h (lnA p i).toNat s := by unfold stepN; rw [if_neg (by rw [hk]; decide), if_neg (by rw [hk]; decide), if_neg (by rw [hk]; decide), if_neg (by rw [hk]; decide), if_neg (by rw [hk]; decide), if_neg (by rw [hk]; decide), if_neg (by rw [hk]; decide), if_neg (by rw [hk]; decide), if_pos hk]
    rw [hE] at hsm ⊢
    rw [k12] at LX H0 K0 b1 b2 b3 d1
    have HC := runLoop_any R m c _ cap B _ xs p blk (Cn p N) HB HFw g i hi ⟨by rw [hk]; rfl, hd⟩ hk h s gd hh hsm lv hv _ H0
    clear hsm hE
    generalize loopN blk i h (lnA p i).toNat s = T at *
    rcases T with ⟨lT, sT⟩
    unfold RunOk
    show Calls _ _ _ _ _
    go_enter Tryz.func50, Tryz.ntmps50
    go_wp2_with fail
    refine (show Calls _ _ _ _ _ from HC).mono ?_
    rintro e w2 ⟨rfl, lv2, hv2, RN, KP⟩
    have HR := Lib.hid (And.intro RN (K0.trans KP))
    clear RN KP HC
    cases lT
    case nil => (simp only [lfE]; go_wp2; go_end0; exact ⟨rfl, _, _, HR.out.1, HR.out.2⟩)
    all_goals exact ⟨rfl, rfl, _, _, HR.out.1, HR.out.2⟩
  have hE : stepN blk xs p h i s = (.nil, s) := by unfold stepN; rw [hK, if_neg k1, if_neg k2, if_neg k3, if_neg k4, if_neg k5, if_neg k6, if_neg k7, if_neg k11, if_neg k12]
  rw [hE]
  unfold RunOk
  show Calls _ _ _ _ _
  have e1 : decide (p[i].kind = 1) = false := decide_eq_false k1
  have e2 : decide (p[i].kind = 2) = false := decide_eq_false k2
  have e3 : decide (p[i].kind = 3) = false := decide_eq_false k3
  have e4 : decide (p[i].kind = 4) = false := decide_eq_false k4
  have e5 : decide (p[i].kind = 5) = false := decide_eq_false k5
  have e6 : decide (p[i].kind = 6) = false := decide_eq_false k6
  have e7 : decide (p[i].kind = 7) = false := decide_eq_false k7
  have e11 : decide (p[i].kind = 11) = false := decide_eq_false k11
  have e12 : decide (p[i].kind = 12) = false := decide_eq_false k12
  go_enter Tryz.func50, Tryz.ntmps50
  go_wp2
  go_end0
  exact ⟨rfl, _, _, H0, K0⟩
end

section
set_option maxHeartbeats 8000000 in
set_option maxRecDepth 100000 in
theorem sRunLine_any (R m c n cap : Nat) (B A : Option Addr) (xs : List Cls) (p : List Lin) (blk : Bls) (N : Nat) (HB : SbOk R m c n cap B A xs p blk (Cn p N)) (HFw : BFw xs p blk (Cn p N)) (g : GoodP xs p) (i : Nat) (hi : i < p.length) (hd : 5 ≤ dep p i + N) (h : Int) (s : Rst) (gd : Gd xs s.2) (hh : Hd h s) (hsm0 : Sm s) (hsm : Sm (stepN blk xs p h i s).2) (lv hv : Value) (w : World) (H : Rn w R B m c xs A n cap p lv hv s.1 s.2) :
    SpOk R m c n cap B A xs p 66 #[.pointer (some ⟨R, 0, none⟩), .int .i64 i, .int .i64 h] lv hv w (stepN blk xs p h i s) := by
  have hA : lnA p i = p[i].a := lnA_at hi
  have hBc : lnBc p i = p[i].b := lnBc_at hi
  have hK : knd p i = p[i].kind := knd_at hi
  have hh0 := hh.1
  have hh1 := hh.2
  have hx8 := (good_of g.tree).hi
  have hz := H.z
  have hl1 := hsm0.1
  have hl2 := hsm0.2
  obtain rfl := H.T.len
  have L0 := Le.new w (.cells #[.int .i64 0, .int .i64 0] 77)
  have H1 := H.le L0
  have c1 := H1.c1
  obtain ⟨b5, off5, rfl, hb5, d0, d1, d2, d3, -⟩ := H1.T.lin_at hi
  have hi0 : (0 : Int) ≤ (i : Int) := by omega
  have hin : (i : Int) < (p.length : Int) := by omega
  have hg1 : (w.alloc (.cells #[.int .i64 0, .int .i64 0] 77)).heap.size = w.heap.size + 1 := by simp
  by_cases k1 : p[i].kind = 1
  · have hk : knd p i = 1 := hK.trans k1
    rw [k1] at d1
    have ha := log_a g hi (.inl k1)
    have hE : stepN blk xs p h i s = (.nil, (s.1 ++ [lnA p i], s.2)) := by unfold stepN; rw [if_pos hk]
    rw [hE] at hsm ⊢
    clear hE
    rw [hA] at hsm ⊢
    obtain ⟨i0, hq, hz0, hz1, hz2⟩ := info_parts infoIntR
    obtain ⟨AL, cL, rfl⟩ := own_form H.O
    generalize p[i].depth = vd at *
    generalize p[i].a = va at *
    generalize p[i].b = vb at *
    have LX := Le.new (w.alloc (.cells #[.int .i64 0, .int .i64 0] 77)) (.cells #[.int .i64 vd, .int .i64 1, .int .i64 va, .int .i64 vb] 55)
    have LI := Lx.new H1 vd 1 va vb 55
    rw [hg1] at LI
    have b1 : ((w.alloc (.cells #[.int .i64 0, .int .i64 0] 77)).alloc (.cells #[.int .i64 vd, .int .i64 1, .int .i64 va, .int .i64 vb] 55)).cell? ⟨w.heap.size + 1, 1, none⟩ = some (.int .i64 1) := by rw [← hg1, World.cell?_alloc_at _ _ _ _ rfl]; rfl
    have BX := (Bx.new H (.int .i64 0) (.int .i64 0) 77).le LX
    have RN := H1.le LX
    have KQ := Kp.of_le R (.slice AL s.1.length cL) hv (L0.trans LX)
    have x2 := LI.c2
    have x3 := LI.c3
    have DV := (Le.refl ((w.alloc (.cells #[.int .i64 0, .int .i64 0] 77)).alloc (.cells #[.int .i64 vd, .int .i64 1, .int .i64 va, .int .i64 vb] 55))).drew
    unfold SpOk
    show Calls _ _ _ _ _
    go_enter Tryz.func66, Tryz.ntmps66
    go_wp2_with fail
    refine wp_region_noPanic ?_
    refine wp_region_Z (fun w' => w'.cell? ⟨R, 2, none⟩ = some (.slice AL s.1.length cL) ∧ w'.cell? ⟨w.heap.size + 1, 2, none⟩ = some (.int .i64 va)) [11] (by kernel_rfl) ?_
    replace LI := LI.le DV
    replace BX := BX.le DV
    replace RN := RN.le DV
    replace KQ := KQ.trans (Kp.of_le R _ hv DV)
    generalize ((w.alloc (.cells #[.int .i64 0, .int .i64 0] 77)).alloc (.cells #[.int .i64 vd, .int .i64 1, .int .i64 va, .int .i64 vb] 55)).drew = V at *
    clear x2 x3 b1 d0 d1 d2 d3 c1 H1 L0 LX hg1 DV
    have x2 := LI.c2
    have zG := LI.z
    have hlG := LI.l
    have hX : Enc.ok va := ⟨by omega, by omega⟩
    have c2V := RN.c2
    have f2V := RN.f2
    have zV := RN.z
    have OV := RN.O
    refine wpAnyZ_take (i := 0) (v := ?_) rfl (by kernel_rfl) (fun _ _ _ h => h) (Or.inl ⟨by rfl, ?_⟩) (⟨c2V, x2⟩) ?_
    rotate_left 1
    · (intro w hSw; (try dsimp only at hSw); go_simp; try with_reducible rfl)
    try simp only [Act.put, List.setIfInBounds_toArray, List.set_cons_zero, List.set_cons_succ]
    refine wpAnyZ_take (i := 1) (v := ?_) rfl (by kernel_rfl) (fun _ _ _ h => h) (Or.inl ⟨by rfl, ?_⟩) (⟨c2V, x2⟩) ?_
    rotate_left 1
    · (intro w hSw; (try dsimp only at hSw); go_simp; try with_reducible rfl)
    try simp only [Act.put, List.setIfInBounds_toArray, List.set_cons_zero, List.set_cons_succ]
    refine wpAnyZ_take (i := 2) (v := ?_) rfl (by kernel_rfl) (fun _ _ _ h => h) (Or.inl ⟨by rfl, ?_⟩) (⟨c2V, x2⟩) ?_
    rotate_left 1
    · (intro w hSw; (try dsimp only at hSw); go_simp; try with_reducible rfl)
    try simp only [Act.put, List.setIfInBounds_toArray, List.set_cons_zero, List.set_cons_succ]
    refine wpAnyZ_take (i := 3) (v := ?_) rfl (by kernel_rfl) (fun _ _ _ h => h) (Or.inl ⟨by rfl, ?_⟩) (⟨c2V, x2⟩) ?_
    rotate_left 1
    · (intro w hSw; (try dsimp only at hSw); go_simp; try with_reducible rfl)
    try simp only [Act.put, List.setIfInBounds_toArray, List.set_cons_zero, List.set_cons_succ]
    refine wpAnyZ_take (i := 4) (v := ?_) rfl (by kernel_rfl) (fun _ _ _ h => h) (Or.inl ⟨by rfl, ?_⟩) (⟨c2V, x2⟩) ?_
    rotate_left 1
    · (intro w hSw; (try dsimp only at hSw); go_simp; try with_reducible rfl)
    try simp only [Act.put, List.setIfInBounds_toArray, List.set_cons_zero, List.set_cons_succ]
    refine wpAnyZ_take (i := 5) (v := ?_) rfl (by kernel_rfl) (fun _ _ _ h => h) (Or.inl ⟨by rfl, ?_⟩) (⟨c2V, x2⟩) ?_
    rotate_left 1
    · (intro w hSw; (try dsimp only at hSw); go_simp; try with_reducible rfl)
    try simp only [Act.put, List.setIfInBounds_toArray, List.set_cons_zero, List.set_cons_succ]
    refine wpAnyZ_take (i := 6) (v := ?_) rfl (by kernel_rfl) (fun _ _ _ h => h) (Or.inl ⟨by rfl, ?_⟩) (⟨c2V, x2⟩) ?_
    rotate_left 1
    · (intro w hSw; (try dsimp only at hSw); go_simp; try with_reducible rfl)
    try simp only [Act.put, List.setIfInBounds_toArray, List.set_cons_zero, List.set_cons_succ]
    refine wpAnyZ_one (i := 7) (by kernel_rfl) (ReadyZ.mk rfl (fun K hK => ?_))
    go_simp
    have LN := Le.new V (.cells #[.int .i64 (va)] 3)
    have e2 := (LN.cell zV).trans c2V
    have ex := (LN.cell zG).trans x2
    refine hK.out _ _ (fun _ => ⟨e2, ex⟩) ?_
    clear hK K
    try simp only [Act.put, List.setIfInBounds_toArray, List.set_cons_zero, List.set_cons_succ]
    refine wpAnyZ_one (i := 8) (by kernel_rfl) (ReadyZ.mk rfl (fun K hK => ?_))
    refine step_append_sl rfl (.tmp 23) (.tmp 26) 28 rfl (R - 1) 3 i0 _ 8 Tryz.underlying28 hq hz0 hz1 hz2 rfl (.slice AL s.1.length cL) s.1.length s.1 rfl (OV.alloc _) _ 1 1 [va] rfl (sl_one (va) rfl hX rfl) (by unfold maxLen; omega) (by omega) (Nat.le_trans (by omega) LN.size) ?_
    intro v1 w4 O4 hg4 hbl
    have HP := Lib.hid (RN.told LN hX O4 hg4 hbl)
    have hneR : some R ≠ (Value.slice AL s.1.length cL).ownBlock := fun e => RN.lneR e.symm
    have k2 := hg4.cell (a := ⟨R, 2, none⟩) e2 hneR
    have k3 : w4.frozen? ⟨R, 2, none⟩ = false := (World.frozen?_of_block (a := ⟨R, 2, none⟩) (hg4.block R (Nat.lt_of_lt_of_le zV LN.size) hneR)).trans ((LN.frozen zV).trans f2V)
    have kx := hg4.cell (a := ⟨w.heap.size + 1, 2, none⟩) ex (fun e => hlG e.symm)
    obtain ⟨A1, q1, rfl⟩ := own_form O4
    refine hK.out _ _ (fun _ => ⟨k2, kx⟩) ?_
    clear hK K
    try simp only [Act.put, List.setIfInBounds_toArray, List.set_cons_zero, List.set_cons_succ]
    refine wpAnyZ_take (i := 9) (v := ?_) rfl (by kernel_rfl) (fun _ _ _ h => h) (Or.inl ⟨by rfl, ?_⟩) (⟨k2, kx⟩) ?_
    rotate_left 1
    · (intro w hSw; (try dsimp only at hSw); go_simp; try with_reducible rfl)
    try simp only [Act.put, List.setIfInBounds_toArray, List.set_cons_zero, List.set_cons_succ]
    refine wpAnyZ_take (i := 10) (v := ?_) rfl (by kernel_rfl) (fun _ _ _ h => h) (Or.inl ⟨by rfl, ?_⟩) (⟨k2, kx⟩) ?_
    rotate_left 1
    · (intro w hSw; (try dsimp only at hSw); go_simp; try with_reducible rfl)
    try simp only [Act.put, List.setIfInBounds_toArray, List.set_cons_zero, List.set_cons_succ]
    refine wpAnyZ_one (i := 11) (by kernel_rfl) (ReadyZ.mk rfl (fun K hK => ?_))
    go_simp
    refine hK.out _ _ (fun h => absurd h (by decide)) ?_
    clear hK K
    try simp only [Act.put, List.setIfInBounds_toArray, List.set_cons_zero, List.set_cons_succ]
    refine wpAnyZ_done (by kernel_rfl) ?_ _
    refine NoPanic.normal ?_
    clear c2V f2V zV OV LN e2 ex O4 hg4 hbl k2 k3 kx hneR
    have RN2 := HP.out.1
    have BX2 := BX.kp HP.out.2
    have KQ2 := KQ.trans HP.out.2
    clear HP x2 zG hlG hX RN BX KQ LI
    generalize w4.setCell ⟨R, 2, none⟩ (.slice A1 (s.1.length + 1) q1) = W1 at *
    generalize (Value.slice A1 (s.1.length + 1) q1) = lv1 at *
    have b0 := BX2.c0
    have b01 := BX2.c1
    have f0 := BX2.f 0
    have f1 := BX2.f 1
    have HE := Lib.hid (And.intro (RN2.put2 BX2 hz (.int .i64 0) (.int .i64 0)) (KQ2.put2 (Nat.le_refl _) (.int .i64 0) (.int .i64 0)))
    have HZ := Lib.hid (BX2.put (.int .i64 0) (.int .i64 0))
    clear RN2 BX2 KQ2
    go_wp2
    have z0 := HZ.out.c0
    have z1 := HZ.out.c1
    exact bodyPost_ret (v := .agg #[.int .i64 0, .int .i64 0]) (by simp [results, Tryz.results66, go_sem, z0, z1]) rfl ⟨rfl, _, _, HE.out.1, HE.out.2⟩
  by_cases k2 : p[i].kind = 2
  · have hk : knd p i = 2 := hK.trans k2
    rw [k2] at d1
    have ha := raise_ab g hi k2
    have hE : stepN blk xs p h i s = rsN (lnA p i) (lnBc p i) h s := by unfold stepN; rw [if_neg (by rw [hk]; decide), if_pos hk]
    rw [hE] at hsm ⊢
    clear hE
    rw [hA, hBc] at hsm ⊢
    generalize p[i].depth = vd at *
    generalize p[i].a = va at *
    generalize p[i].b = vb at *
    have LX := Le.new (w.alloc (.cells #[.int .i64 0, .int .i64 0] 77)) (.cells #[.int .i64 vd, .int .i64 2, .int .i64 va, .int .i64 vb] 55)
    have LI := Lx.new H1 vd 2 va vb 55
    rw [hg1] at LI
    have b1 : ((w.alloc (.cells #[.int .i64 0, .int .i64 0] 77)).alloc (.cells #[.int .i64 vd, .int .i64 2, .int .i64 va, .int .i64 vb] 55)).cell? ⟨w.heap.size + 1, 1, none⟩ = some (.int .i64 2) := by rw [← hg1, World.cell?_alloc_at _ _ _ _ rfl]; rfl
    have BX := (Bx.new H (.int .i64 0) (.int .i64 0) 77).le LX
    have RN := H1.le LX
    have KQ := Kp.of_le R lv hv (L0.trans LX)
    have x2 := LI.c2
    have x3 := LI.c3
    have HC := sRaise_any R m c p.length cap B _ xs p lv hv s va vb h (by omega) (by omega) gd hh hl2 _ RN
    generalize rsN va vb h s = T at *
    unfold SpOk
    show Calls _ _ _ _ _
    go_enter Tryz.func66, Tryz.ntmps66
    go_wp2_with fail
    refine (show Calls _ _ _ _ _ from HC).mono ?_
    rintro e w2 ⟨rfl, lv2, hv2, RN2, KP2⟩
    have BX2 := BX.kp KP2
    have KQ2 := KQ.trans KP2
    have b0 := BX2.c0
    have b01 := BX2.c1
    have f0 := BX2.f 0
    have f1 := BX2.f 1
    have HE := Lib.hid (And.intro (RN2.put2 BX2 hz (.int .i64 (edK T.1)) (.int .i64 (edW T.1))) (KQ2.put2 (Nat.le_refl _) (.int .i64 (edK T.1)) (.int .i64 (edW T.1))))
    have HZ := Lib.hid (BX2.put (.int .i64 (edK T.1)) (.int .i64 (edW T.1)))
    clear RN2 KP2 BX2 KQ2 RN BX KQ LI
    go_wp2
    have z0 := HZ.out.c0
    have z1 := HZ.out.c1
    exact bodyPost_ret (v := .agg #[.int .i64 (edK T.1), .int .i64 (edW T.1)]) (by simp [results, Tryz.results66, go_sem, z0, z1]) rfl ⟨rfl, _, _, HE.out.1, HE.out.2⟩
  by_cases k3 : p[i].kind = 3
  · have hk : knd p i = 3 := hK.trans k3
    rw [k3] at d1
    have hE : stepN blk xs p h i s = againN h s := by unfold stepN; rw [if_neg (by rw [hk]; decide), if_neg (by rw [hk]; decide), if_pos hk]
    rw [hE] at hsm ⊢
    clear hE
    generalize p[i].depth = vd at *
    generalize p[i].a = va at *
    generalize p[i].b = vb at *
    have LX := Le.new (w.alloc (.cells #[.int .i64 0, .int .i64 0] 77)) (.cells #[.int .i64 vd, .int .i64 3, .int .i64 va, .int .i64 vb] 55)
    have LI := Lx.new H1 vd 3 va vb 55
    rw [hg1] at LI
    have b1 : ((w.alloc (.cells #[.int .i64 0, .int .i64 0] 77)).alloc (.cells #[.int .i64 vd, .int .i64 3, .int .i64 va, .int .i64 vb] 55)).cell? ⟨w.heap.size + 1, 1, none⟩ = some (.int .i64 3) := by rw [← hg1, World.cell?_alloc_at _ _ _ _ rfl]; rfl
    have BX := (Bx.new H (.int .i64 0) (.int .i64 0) 77).le LX
    have RN := H1.le LX
    have KQ := Kp.of_le R lv hv (L0.trans LX)
    have x2 := LI.c2
    have x3 := LI.c3
    have HC := sAgain_any R m c p.length cap B _ xs p lv hv s h gd hh hl2 _ RN
    generalize againN h s = T at *
    unfold SpOk
    show Calls _ _ _ _ _
    go_enter Tryz.func66, Tryz.ntmps66
    go_wp2_with fail
    refine (show Calls _ _ _ _ _ from HC).mono ?_
    rintro e w2 ⟨rfl, lv2, hv2, RN2, KP2⟩
    have BX2 := BX.kp KP2
    have KQ2 := KQ.trans KP2
    have b0 := BX2.c0
    have b01 := BX2.c1
    have f0 := BX2.f 0
    have f1 := BX2.f 1
    have HE := Lib.hid (And.intro (RN2.put2 BX2 hz (.int .i64 (edK T.1)) (.int .i64 (edW T.1))) (KQ2.put2 (Nat.le_refl _) (.int .i64 (edK T.1)) (.int .i64 (edW T.1))))
    have HZ := Lib.hid (BX2.put (.int .i64 (edK T.1)) (.int .i64 (edW T.1)))
    clear RN2 KP2 BX2 KQ2 RN BX KQ LI
    go_wp2
    have z0 := HZ.out.c0
    have z1 := HZ.out.c1
    exact bodyPost_ret (v := .agg #[.int .i64 (edK T.1), .int .i64 (edW T.1)]) (by simp [results, Tryz.results66, go_sem, z0, z1]) rfl ⟨rfl, _, _, HE.out.1, HE.out.2⟩
  by_cases k4 : p[i].kind = 4
  · have hk : knd p i = 4 := hK.trans k4
    rw [k4] at d1
    have hE : stepN blk xs p h i s = (.ret (lnA p i), s) := by unfold stepN; rw [if_neg (by rw [hk]; decide), if_neg (by rw [hk]; decide), if_neg (by rw [hk]; decide), if_pos hk]
    rw [hE] at hsm ⊢
    clear hE
    rw [hA] at hsm ⊢
    generalize p[i].depth = vd at *
    generalize p[i].a = va at *
    generalize p[i].b = vb at *
    have b1 : ((w.alloc (.cells #[.int .i64 0, .int .i64 0] 77)).alloc (.cells #[.int .i64 vd, .int .i64 4, .int .i64 va, .int .i64 vb] 55)).cell? ⟨w.heap.size + 1, 1, none⟩ = some (.int .i64 4) := by rw [← hg1, World.cell?_alloc_at _ _ _ _ rfl]; rfl
    have LI := Lx.new H1 vd 4 va vb 55
    rw [hg1] at LI
    have x2 := LI.c2
    unfold SpOk
    show Calls _ _ _ _ _
    go_enter Tryz.func66, Tryz.ntmps66
    go_wp2
    have LM := (Le.new w (.cells #[.int .i64 1, .int .i64 va] 77)).trans (Le.new (w.alloc (.cells #[.int .i64 1, .int .i64 va] 77)) (.cells #[.int .i64 vd, .int .i64 4, .int .i64 va, .int .i64 vb] 55))
    exact bodyPost_ret (v := .agg #[.int .i64 1, .int .i64 va]) (by simp [results, Tryz.results66, go_sem]) rfl ⟨rfl, _, _, H.le LM, Kp.of_le R lv hv LM⟩
  by_cases k5 : p[i].kind = 5
  · have hk : knd p i = 5 := hK.trans k5
    rw [k5] at d1
    have hE : stepN blk xs p h i s = (.brk, s) := by unfold stepN; rw [if_neg (by rw [hk]; decide), if_neg (by rw [hk]; decide), if_neg (by rw [hk]; decide), if_neg (by rw [hk]; decide), if_pos hk]
    rw [hE] at hsm ⊢
    clear hE
    generalize p[i].depth = vd at *
    generalize p[i].a = va at *
    generalize p[i].b = vb at *
    have b1 : ((w.alloc (.cells #[.int .i64 0, .int .i64 0] 77)).alloc (.cells #[.int .i64 vd, .int .i64 5, .int .i64 va, .int .i64 vb] 55)).cell? ⟨w.heap.size + 1, 1, none⟩ = some (.int .i64 5) := by rw [← hg1, World.cell?_alloc_at _ _ _ _ rfl]; rfl
    have LI := Lx.new H1 vd 5 va vb 55
    rw [hg1] at LI
    have x2 := LI.c2
    unfold SpOk
    show Calls _ _ _ _ _
    go_enter Tryz.func66, Tryz.ntmps66
    go_wp2
    have LM := (Le.new w (.cells #[.int .i64 3, .int .i64 0] 77)).trans (Le.new (w.alloc (.cells #[.int .i64 3, .int .i64 0] 77)) (.cells #[.int .i64 vd, .int .i64 5, .int .i64 va, .int .i64 vb] 55))
    exact bodyPost_ret (v := .agg #[.int .i64 3, .int .i64 0]) (by simp [results, Tryz.results66, go_sem]) rfl ⟨rfl, _, _, H.le LM, Kp.of_le R lv hv LM⟩
  by_cases k6 : p[i].kind = 6
  · have hk : knd p i = 6 := hK.trans k6
    rw [k6] at d1
    have hE : stepN blk xs p h i s = (.cnt, s) := by unfold stepN; rw [if_neg (by rw [hk]; decide), if_neg (by rw [hk]; decide), if_neg (by rw [hk]; decide), if_neg (by rw [hk]; decide), if_neg (by rw [hk]; decide), if_pos hk]
    rw [hE] at hsm ⊢
    clear hE
    generalize p[i].depth = vd at *
    generalize p[i].a = va at *
    generalize p[i].b = vb at *
    have b1 : ((w.alloc (.cells #[.int .i64 0, .int .i64 0] 77)).alloc (.cells #[.int .i64 vd, .int .i64 6, .int .i64 va, .int .i64 vb] 55)).cell? ⟨w.heap.size + 1, 1, none⟩ = some (.int .i64 6) := by rw [← hg1, World.cell?_alloc_at _ _ _ _ rfl]; rfl
    have LI := Lx.new H1 vd 6 va vb 55
    rw [hg1] at LI
    have x2 := LI.c2
    unfold SpOk
    show Calls _ _ _ _ _
    go_enter Tryz.func66, Tryz.ntmps66
    go_wp2
    have LM := (Le.new w (.cells #[.int .i64 4, .int .i64 0] 77)).trans (Le.new (w.alloc (.cells #[.int .i64 4, .int .i64 0] 77)) (.cells #[.int .i64 vd, .int .i64 6, .int .i64 va, .int .i64 vb] 55))
    exact bodyPost_ret (v := .agg #[.int .i64 4, .int .i64 0]) (by simp [results, Tryz.results66, go_sem]) rfl ⟨rfl, _, _, H.le LM, Kp.of_le R lv hv LM⟩
  by_cases k7 : p[i].kind = 7
  · have hk : knd p i = 7 := hK.trans k7
    rw [k7] at d1
    have hE : stepN blk xs p h i s = tryN blk xs p i h s := by unfold stepN; rw [if_neg (by rw [hk]; decide), if_neg (by rw [hk]; decide), if_neg (by rw [hk]; decide), if_neg (by rw [hk]; decide), if_neg (by rw [hk]; decide), if_neg (by rw [hk]; decide), if_pos hk]
    rw [hE] at hsm ⊢
    clear hE
    generalize p[i].depth = vd at *
    generalize p[i].a = va at *
    generalize p[i].b = vb at *
    have LX := Le.new (w.alloc (.cells #[.int .i64 0, .int .i64 0] 77)) (.cells #[.int .i64 vd, .int .i64 7, .int .i64 va, .int .i64 vb] 55)
    have LI := Lx.new H1 vd 7 va vb 55
    rw [hg1] at LI
    have b1 : ((w.alloc (.cells #[.int .i64 0, .int .i64 0] 77)).alloc (.cells #[.int .i64 vd, .int .i64 7, .int .i64 va, .int .i64 vb] 55)).cell? ⟨w.heap.size + 1, 1, none⟩ = some (.int .i64 7) := by rw [← hg1, World.cell?_alloc_at _ _ _ _ rfl]; rfl
    have BX := (Bx.new H (.int .i64 0) (.int .i64 0) 77).le LX
    have RN := H1.le LX
    have KQ := Kp.of_le R lv hv (L0.trans LX)
    have x2 := LI.c2
    have x3 := LI.c3
    have HC := sRunTry_any R m c p.length cap B _ xs p blk (Cn p N) HB HFw g i hi (cn_parts hi hk hd) hk h s gd hh hsm lv hv _ RN
    generalize tryN blk xs p i h s = T at *
    unfold SpOk
    show Calls _ _ _ _ _
    go_enter Tryz.func66, Tryz.ntmps66
    go_wp2_with fail
    refine (show Calls _ _ _ _ _ from HC).mono ?_
    rintro e w2 ⟨rfl, lv2, hv2, RN2, KP2⟩
    have BX2 := BX.kp KP2
    have KQ2 := KQ.trans KP2
    have b0 := BX2.c0
    have b01 := BX2.c1
    have f0 := BX2.f 0
    have f1 := BX2.f 1
    have HE := Lib.hid (And.intro (RN2.put2 BX2 hz (.int .i64 (edK T.1)) (.int .i64 (edW T.1))) (KQ2.put2 (Nat.le_refl _) (.int .i64 (edK T.1)) (.int .i64 (edW T.1))))
    have HZ := Lib.hid (BX2.put (.int .i64 (edK T.1)) (.int .i64 (edW T.1)))
    clear RN2 KP2 BX2 KQ2 RN BX KQ LI
    go_wp2
    have z0 := HZ.out.c0
    have z1 := HZ.out.c1
    exact bodyPost_ret (v := .agg #[.int .i64 (edK T.1), .int .i64 (edW T.1)]) (by simp [results, Tryz.results66, go_sem, z0, z1]) rfl ⟨rfl, _, _, HE.out.1, HE.out.2⟩
  by_cases k11 : p[i].kind = 11
  · have hk : knd p i = 11 := hK.trans k11
    rw [k11] at d1
    have hE : stepN blk xs p h i s = withN blk p i h s := by unfold stepN; rw [if_neg (by rw [hk]; decide), if_neg (by rw [hk]; decide), if_neg (by rw [hk]; decide), if_neg (by rw [hk]; decide), if_neg (by rw [hk]; decide), if_neg (by rw [hk]; decide), if_neg (by rw [hk]; decide), if_pos hk]
    rw [hE] at hsm ⊢
    clear hE
    generalize p[i].depth = vd at *
    generalize p[i].a = va at *
    generalize p[i].b = vb at *
    have LX := Le.new (w.alloc (.cells #[.int .i64 0, .int .i64 0] 77)) (.cells #[.int .i64 vd, .int .i64 11, .int .i64 va, .int .i64 vb] 55)
    have LI := Lx.new H1 vd 11 va vb 55
    rw [hg1] at LI
    have b1 : ((w.alloc (.cells #[.int .i64 0, .int .i64 0] 77)).alloc (.cells #[.int .i64 vd, .int .i64 11, .int .i64 va, .int .i64 vb] 55)).cell? ⟨w.heap.size + 1, 1, none⟩ = some (.int .i64 11) := by rw [← hg1, World.cell?_alloc_at _ _ _ _ rfl]; rfl
    have BX := (Bx.new H (.int .i64 0) (.int .i64 0) 77).le LX
    have RN := H1.le LX
    have KQ := Kp.of_le R lv hv (L0.trans LX)
    have x2 := LI.c2
    have x3 := LI.c3
    have HC := sRunWith_any R m c p.length cap B _ xs p blk (Cn p N) HB HFw g i hi ⟨by rw [hk]; rfl, hd⟩ hk h s gd hh hsm lv hv _ RN
    generalize withN blk p i h s = T at *
    unfold SpOk
    show Calls _ _ _ _ _
    go_enter Tryz.func66, Tryz.ntmps66
    go_wp2_with fail
    refine (show Calls _ _ _ _ _ from HC).mono ?_
    rintro e w2 ⟨rfl, lv2, hv2, RN2, KP2⟩
    have BX2 := BX.kp KP2
    have KQ2 := KQ.trans KP2
    have b0 := BX2.c0
    have b01 := BX2.c1
    have f0 := BX2.f 0
    have f1 := BX2.f 1
    have HE := Lib.hid (And.intro (RN2.put2 BX2 hz (.int .i64 (edK T.1)) (.int .i64 (edW T.1))) (KQ2.put2 (Nat.le_refl _) (.int .i64 (edK T.1)) (.int .i64 (edW T.1))))
    have HZ := Lib.hid (BX2.put (.int .i64 (edK T.1)) (.int .i64 (edW T.1)))
    clear RN2 KP2 BX2 KQ2 RN BX KQ LI
    go_wp2
    have z0 := HZ.out.c0
    have z1 := HZ.out.c1
    exact bodyPost_ret (v := .agg #[.int .i64 (edK T.1), .int .i64 (edW T.1)]) (by simp [results, Tryz.results66, go_sem, z0, z1]) rfl ⟨rfl, _, _, HE.out.1, HE.out.2⟩
  by_cases k12 : p[i].kind = 12
  · have hk : knd p i = 12 := hK.trans k12
    rw [k12] at d1
    have hE : stepN blk xs p h i s = loopN blk i h (lnA p i).toNat s := by unfold stepN; rw [if_neg (by rw [hk]; decide), if_neg (by rw [hk]; decide), if_neg (by rw [hk]; decide), if_neg (by rw [hk]; decide), if_neg (by rw [hk]; decide), if_neg (by rw [hk]; decide), if_neg (by rw [hk]; decide), if_neg (by rw [hk]; decide), if_pos hk]
    rw [hE] at hsm ⊢
    clear hE
    generalize p[i].depth = vd at *
    generalize p[i].a = va at *
    generalize p[i].b = vb at *
    have LX := Le.new (w.alloc (.cells #[.int .i64 0, .int .i64 0] 77)) (.cells #[.int .i64 vd, .int .i64 12, .int .i64 va, .int .i64 vb] 55)
    have LI := Lx.new H1 vd 12 va vb 55
    rw [hg1] at LI
    have b1 : ((w.alloc (.cells #[.int .i64 0, .int .i64 0] 77)).alloc (.cells #[.int .i64 vd, .int .i64 12, .int .i64 va, .int .i64 vb] 55)).cell? ⟨w.heap.size + 1, 1, none⟩ = some (.int .i64 12) := by rw [← hg1, World.cell?_alloc_at _ _ _ _ rfl]; rfl
    have BX := (Bx.new H (.int .i64 0) (.int .i64 0) 77).le LX
    have RN := H1.le LX
    have KQ := Kp.of_le R lv hv (L0.trans LX)
    have x2 := LI.c2
    have x3 := LI.c3
    have HC := sRunLoop_any R m c p.length cap B _ xs p blk (Cn p N) HB HFw g i hi ⟨by rw [hk]; rfl, hd⟩ hk h s gd hh hsm lv hv _ RN
    generalize loopN blk i h (lnA p i).toNat s = T at *
    unfold SpOk
    show Calls _ _ _ _ _
    go_enter Tryz.func66, Tryz.ntmps66
    go_wp2_with fail
    refine (show Calls _ _ _ _ _ from HC).mono ?_
    rintro e w2 ⟨rfl, lv2, hv2, RN2, KP2⟩
    have BX2 := BX.kp KP2
    have KQ2 := KQ.trans KP2
    have b0 := BX2.c0
    have b01 := BX2.c1
    have f0 := BX2.f 0
    have f1 := BX2.f 1
    have HE := Lib.hid (And.intro (RN2.put2 BX2 hz (.int .i64 (edK T.1)) (.int .i64 (edW T.1))) (KQ2.put2 (Nat.le_refl _) (.int .i64 (edK T.1)) (.int .i64 (edW T.1))))
    have HZ := Lib.hid (BX2.put (.int .i64 (edK T.1)) (.int .i64 (edW T.1)))
    clear RN2 KP2 BX2 KQ2 RN BX KQ LI
    go_wp2
    have z0 := HZ.out.c0
    have z1 := HZ.out.c1
    exact bodyPost_ret (v := .agg #[.int .i64 (edK T.1), .int .i64 (edW T.1)]) (by simp [results, Tryz.results66, go_sem, z0, z1]) rfl ⟨rfl, _, _, HE.out.1, HE.out.2⟩
  have hE : stepN blk xs p h i s = (.nil, s) := by unfold stepN; rw [hK, if_neg k1, if_neg k2, if_neg k3, if_neg k4, if_neg k5, if_neg k6, if_neg k7, if_neg k11, if_neg k12]
  rw [hE]
  clear hE hsm
  generalize p[i].depth = vd at *
  generalize p[i].kind = vk at *
  generalize p[i].a = va at *
  generalize p[i].b = vb at *
  have e1 : decide (vk = 1) = false := decide_eq_false k1
  have e2 : decide (vk = 2) = false := decide_eq_false k2
  have e3 : decide (vk = 3) = false := decide_eq_false k3
  have e4 : decide (vk = 4) = false := decide_eq_false k4
  have e5 : decide (vk = 5) = false := decide_eq_false k5
  have e6 : decide (vk = 6) = false := decide_eq_false k6
  have e7 : decide (vk = 7) = false := decide_eq_false k7
  have e11 : decide (vk = 11) = false := decide_eq_false k11
  have e12 : decide (vk = 12) = false := decide_eq_false k12
  have b1 : ((w.alloc (.cells #[.int .i64 0, .int .i64 0] 77)).alloc (.cells #[.int .i64 vd, .int .i64 vk, .int .i64 va, .int .i64 vb] 55)).cell? ⟨w.heap.size + 1, 1, none⟩ = some (.int .i64 vk) := by rw [← hg1, World.cell?_alloc_at _ _ _ _ rfl]; rfl
  have LM := (Le.new w (.cells #[.int .i64 0, .int .i64 0] 77)).trans (Le.new (w.alloc (.cells #[.int .i64 0, .int .i64 0] 77)) (.cells #[.int .i64 vd, .int .i64 vk, .int .i64 va, .int .i64 vb] 55))
  unfold SpOk
  show Calls _ _ _ _ _
  go_enter Tryz.func66, Tryz.ntmps66
  go_wp2
  exact bodyPost_ret (v := .agg #[.int .i64 0, .int .i64 0]) (by simp [results, Tryz.results66, go_sem]) rfl ⟨rfl, _, _, H.le LM, Kp.of_le R lv hv LM⟩
end

section
def LnOk (R m c n cap : Nat) (B A : Option Addr) (xs : List Cls) (p : List Lin) (N : Nat) : Prop :=
  ∀ (i : Nat) (h : Int) (s : Rst) (lv hv : Value) (w : World), i < p.length → 6 ≤ dep p i + N → Gd xs s.2 → Hd h s → Sm (lnN xs p N h i s).2 → Rn w R B m c xs A n cap p lv hv s.1 s.2 → RunOk R m c n cap B A xs p 50 #[.pointer (some ⟨R, 0, none⟩), .int .i64 i, .int .i64 h] lv hv w (lnN xs p N h i s)
theorem go_step {ln : Nat → Rst → Lft × Rst} {p : List Lin} {b i k : Nat} {s s2 : Rst} {T : Lft × Rst} (hi : i < b) (h : goB ln p b (k + 1) i s = T) (e : ln i s = (.nil, s2)) : goB ln p b k (bEnd p i) s2 = T := (goB_nil hi k e).symm.trans h
theorem go_sm {xs : List Cls} {p : List Lin} (g : GoodP xs p) {N : Nat} {h : Int} {b i k : Nat} {s : Rst} {T : Lft × Rst} (hb : b ≤ p.length) (hi : i < b) (gd : Gd xs s.2) (hh : Hd h s) (e : goB (lnN xs p N h) p b (k + 1) i s = T) (hs : Sm T.2) : Sm (lnN xs p N h i s).2 := by
  have F := lfw_all g N i h s (by omega) gd hh
  rcases hl : lnN xs p N h i s with ⟨l, s2⟩
  rw [hl] at F
  rcases l with _ | v | f | _ | _
  · have e2 := go_step hi e hl
    have F2 := Fw.goB (xs := xs) (p := p) (ln := lnN xs p N h) (a := 0) (b := b) (h := h) (OK := fun _ => True) (fun _ _ _ _ _ => trivial) (fun i s _ hib _ g1 hh1 => lfw_all g N i h s (by omega) g1 hh1) k (bEnd p i) s2 (Nat.zero_le _) (fun _ => trivial) F.gd (F.hd hh)
    rw [e2] at F2
    exact F2.sm hs
  all_goals
    rw [goB_out hi k (by intro h; cases h) hl] at e
    rw [← e] at hs
    exact hs
theorem at_of (R m c n cap : Nat) (B A : Option Addr) (xs : List Cls) (p : List Lin) (g : GoodP xs p) (N : Nat) (HL : LnOk R m c n cap B A xs p N) (a b : Nat) (hb : b ≤ p.length) (hab : a ≤ p.length) (hd : ∀ i, a ≤ i → i < b → 6 ≤ dep p i + N) (h : Int) (s : Rst) (gd : Gd xs s.2) (hh : Hd h s) (hsm : Sm (goB (lnN xs p N h) p b 25 a s).2) (lv hv : Value) (w : World) (H : Rn w R B m c xs A n cap p lv hv s.1 s.2) :
    AtOk R m c n cap B A xs p 30 #[.pointer (some ⟨R, 0, none⟩), .int .i64 a, .int .i64 b, .int .i64 h] lv hv w (goB (lnN xs p N h) p b 25 a s) := by
  have hp := g.len
  refine attempt_any R m c n cap B A xs p (lnN xs p N h) (fun i s2 => ∃ k, b ≤ k + i ∧ goB (lnN xs p N h) p b k i s2 = goB (lnN xs p N h) p b 25 a s ∧ Gd xs s2.2 ∧ Hd h s2) a b h hb hp hab ?_ ?_ s ⟨25, by omega, rfl, gd, hh⟩ lv hv w H
  · rintro i s2 lv2 hv2 w2 hai hib ⟨k, hk, e, gd2, hh2⟩ RN
    obtain ⟨k, rfl⟩ : ∃ k', k = k' + 1 := ⟨k - 1, by omega⟩
    exact HL i h s2 lv2 hv2 w2 (by omega) (hd i hai hib) gd2 hh2 (go_sm g hb hib gd2 hh2 e hsm) RN
  · rintro i s2 s3 hai hib ⟨k, hk, e, gd2, hh2⟩ hl
    obtain ⟨k, rfl⟩ : ∃ k', k = k' + 1 := ⟨k - 1, by omega⟩
    have F := lfw_all g N i h s2 (by omega) gd2 hh2
    rw [hl] at F
    exact ⟨k, by have := bEnd_gt p i; omega, go_step hib e hl, F.gd, F.hd hh2⟩
theorem bl_of (R m c n cap : Nat) (B A : Option Addr) (xs : List Cls) (p : List Lin) (g : GoodP xs p) (N : Nat) (HL : LnOk R m c n cap B A xs p N) : BlOk R m c n cap B A xs p (blN xs p N) (Cn p N) := by
  intro x h s lv hv w hx hC gd hh hsm H
  have h2 := hC.2
  refine attemptBlock_any R m c n cap B A xs p x h s _ hx lv hv g.len (fun w2 H2 => ?_) w H
  rw [show ((x : Int) + 1) = ((x + 1 : Nat) : Int) by omega]
  exact at_of R m c n cap B A xs p g N HL (x + 1) (bEnd p x) (bEnd_le hx) (by omega) (fun i h3 h4 => by have := bEnd_in (p := p) (i := x) (x := i) (by omega) h4; omega) h s gd hh hsm lv hv w2 H2
theorem ln_all (R m c n cap : Nat) (B A : Option Addr) (xs : List Cls) (p : List Lin) (g : GoodP xs p) : ∀ N, LnOk R m c n cap B A xs p N
  | 0 => fun i h s lv hv w hi hd _ _ _ _ => by have := (g.line i hi).2.1.1; omega
  | N + 1 => fun i h s lv hv w hi hd gd hh hsm H => by
    rw [lnN_succ] at hsm ⊢
    exact runLine_any R m c n cap B A xs p (blN xs p N) N (bl_of R m c n cap B A xs p g N (ln_all R m c n cap B A xs p g N)) (fun x h s hx _ gd hh => bfw_of (lfw_all g N) x h s hx trivial gd hh) g i hi (by omega) h s gd hh ((lfw_all g (N + 1) i h s hi gd hh).sm (by rw [lnN_succ]; exact hsm)) hsm lv hv w H
/-- what a program does, as the program runs it -/
def runI (xs : List Cls) (p : List Lin) : Lft × Rst := goB (lnN xs p 6 (-1)) p p.length 25 0 ([], [])
end

section
section
variable {ln : Nat → Rst → Lft × Rst} {p : List Lin} {b : Nat}
theorem goB_fuel : ∀ (m n i : Nat) (s : Rst), b ≤ m + i → b ≤ n + i → goB ln p b m i s = goB ln p b n i s
  | 0, n, i, s, h1, h2 => by rw [goB_end (by omega), goB_end (by omega)]
  | m + 1, 0, i, s, h1, h2 => by rw [goB_end (by omega), goB_end (by omega)]
  | m + 1, n + 1, i, s, h1, h2 => by
    by_cases hib : i < b
    · rcases hl : ln i s with ⟨l, s2⟩
      rcases l with _ | v | f | _ | _
      · rw [goB_nil hib m hl, goB_nil hib n hl]
        have := bEnd_gt p i
        exact goB_fuel m n (bEnd p i) s2 (by omega) (by omega)
      all_goals rw [goB_out hib m (by intro h; cases h) hl, goB_out hib n (by intro h; cases h) hl]
    · rw [goB_end hib, goB_end hib]
/-- lines one after another, from one on -/
def gB (ln : Nat → Rst → Lft × Rst) (p : List Lin) (b i : Nat) (s : Rst) : Lft × Rst := goB ln p b b i s
theorem gB_of (i : Nat) (s : Rst) (k : Nat) (h : b ≤ k + i) : goB ln p b k i s = gB ln p b i s := goB_fuel k b i s h (by omega)
theorem gB_end {i : Nat} {s : Rst} (h : ¬ i < b) : gB ln p b i s = (.nil, s) := goB_end h b s
theorem gB_nil {i : Nat} {s s2 : Rst} (h : i < b) (e : ln i s = (.nil, s2)) : gB ln p b i s = gB ln p b (bEnd p i) s2 := by
  have := bEnd_gt p i
  rw [← gB_of i s (b + 1) (by omega), goB_nil h b e]
  exact gB_of _ _ b (by omega)
theorem gB_out {i : Nat} {s s2 : Rst} {l : Lft} (h : i < b) (hl : l ≠ .nil) (e : ln i s = (l, s2)) : gB ln p b i s = (l, s2) := by
  rw [← gB_of i s (b + 1) (by omega), goB_out h b hl e]
/-- the other lines of a try do nothing when they come up -/
theorem gB_parts {a : Nat} {D : Int} (hB : Blk p a b D) {i : Nat} (h1 : a ≤ i) (h2 : i < b) (hd : dep p i = D) (h7 : knd p i = 7) (HF : ∀ x s, fol (knd p x) = true → ln x s = (.nil, s)) :
    ∀ (m n : Nat) (hn : n < (parts p i).length), 1 ≤ n → (parts p i).length ≤ m + n → ∀ s, gB ln p b (parts p i)[n] s = gB ln p b (nx p i) s
  | 0, n, hn, _, h, s => by omega
  | m + 1, n, hn, h1n, h, s => by
    have hP := hB.part h1 h2 hd n hn
    have hmem : (parts p i)[n] ∈ parts p i := List.getElem_mem hn
    have hne : (parts p i)[n] ≠ i := by
      have := (List.pairwise_iff_getElem.1 (partsF_asc p i)) 0 n (by omega) hn (by omega)
      have e0 : (parts p i)[0]'(by omega) = i := rfl
      omega
    have hf : fol (knd p (parts p i)[n]) = true := by
      rcases try_step (show IsTry p i (parts p i)[n] from ⟨h7, hmem⟩) with ⟨_, h3⟩ | ⟨h3, _⟩
      · exact absurd h3 hne
      · exact h3
    rw [gB_nil hP.2.1 (HF _ s hf)]
    by_cases e : n + 1 < (parts p i).length
    · rw [← parts_link e]
      exact gB_parts hB h1 h2 hd h7 HF m (n + 1) e (by omega) (by omega) s
    · rw [pos_end h7 (n := n) (by omega)]
/-- a statement, and on behind it -/
theorem gB_step {a : Nat} {D : Int} (hB : Blk p a b D) {i : Nat} (h1 : a ≤ i) (h2 : i < b) (hd : dep p i = D) (HF : ∀ x s, fol (knd p x) = true → ln x s = (.nil, s)) {s s2 : Rst} (e : ln i s = (.nil, s2)) :
    gB ln p b i s = gB ln p b (nx p i) s2 := by
  rw [gB_nil h2 e]
  by_cases h7 : knd p i = 7
  · by_cases hl : 1 < (parts p i).length
    · have hlk : (parts p i)[1] = bEnd p (parts p i)[0] := parts_link (n := 0) hl
      have e0 : (parts p i)[0]'(by omega) = i := rfl
      rw [e0] at hlk
      rw [← hlk]
      exact gB_parts hB h1 h2 hd h7 HF (parts p i).length 1 hl (Nat.le_refl _) (by omega) s2
    · have := pos_end h7 (n := 0) (by have := parts_posF p i; omega)
      have e0 : (parts p i)[0]'(by have := parts_posF p i; omega) = i := rfl
      rw [e0] at this
      rw [this]
  · have : nx p i = bEnd p i := by unfold nx; rw [if_neg h7]
    rw [this]
end
theorem lnN_fol (xs : List Cls) (p : List Lin) (N : Nat) (h : Int) (x : Nat) (s : Rst) (hf : fol (knd p x) = true) : lnN xs p N h x s = (.nil, s) := by
  have := fol_iff.1 hf
  cases N with
  | zero => rfl
  | succ N =>
    rw [lnN_succ]
    unfold stepN
    rw [if_neg (by omega), if_neg (by omega), if_neg (by omega), if_neg (by omega), if_neg (by omega), if_neg (by omega), if_neg (by omega), if_neg (by omega), if_neg (by omega)]
def SlnOk (R m c n cap : Nat) (B A : Option Addr) (xs : List Cls) (p : List Lin) (N : Nat) : Prop :=
  ∀ (i : Nat) (h : Int) (s : Rst) (lv hv : Value) (w : World), i < p.length → 6 ≤ dep p i + N → Gd xs s.2 → Hd h s → Sm (lnN xs p N h i s).2 → Rn w R B m c xs A n cap p lv hv s.1 s.2 → SpOk R m c n cap B A xs p 66 #[.pointer (some ⟨R, 0, none⟩), .int .i64 i, .int .i64 h] lv hv w (lnN xs p N h i s)
theorem edK_zero {l : Lft} : (edK l = 0 → l = .nil) ∧ (edK l ≠ 0 → l ≠ .nil) := by
  cases l <;> (constructor <;> intro e <;> first | rfl | (cases e; done) | exact absurd rfl e | (intro h; cases h))
set_option maxHeartbeats 4000000 in
set_option maxRecDepth 100000 in
theorem runBlock_any (R m c n cap : Nat) (B A : Option Addr) (xs : List Cls) (p : List Lin) (g : GoodP xs p) (N : Nat) (HL : SlnOk R m c n cap B A xs p N) (a b : Nat) (D : Int) (hB : Blk p a b D) (hab : a ≤ b) (hD : 6 ≤ D + N) (h : Int) (s : Rst) (gd : Gd xs s.2) (hh : Hd h s) (hsm : Sm (gB (lnN xs p N h) p b a s).2) (lv hv : Value) (w : World) (H : Rn w R B m c xs A n cap p lv hv s.1 s.2) :
    SpOk R m c n cap B A xs p 40 #[.pointer (some ⟨R, 0, none⟩), .int .i64 a, .int .i64 b, .int .i64 h] lv hv w (gB (lnN xs p N h) p b a s) := by
  have hz := H.z
  obtain rfl := H.T.len
  have hbl := hB.le
  have hp := g.len
  have L0 := Le.new w (.cells #[.int .i64 0, .int .i64 0] 77)
  have BX := Bx.new H (.int .i64 0) (.int .i64 0) 77
  have H1 := H.le L0
  have K1 := Kp.of_le R lv hv L0
  obtain ⟨T, hT⟩ : ∃ T, gB (lnN xs p N h) p b a s = T := ⟨_, rfl⟩
  rw [hT] at hsm ⊢
  have HL0 := Lib.hid HL
  have HB0 := Lib.hid hB
  have HG0 := Lib.hid g
  have hfst := hB.first
  clear HL hB g
  unfold SpOk
  show Calls _ _ _ _ _
  go_enter Tryz.func40, Tryz.ntmps40
  go_wp2
  generalize w.alloc (.cells #[.int .i64 0, .int .i64 0] 77) = W at *
  go_loopw [9] (fun q wr => ∃ (i : Nat) (s2 : Rst) (lv2 hv2 : Value), q = .int .i64 i ∧ a ≤ i ∧ i ≤ b ∧ (i < b → dep p i = D ∧ fol (knd p i) = false) ∧ gB (lnN xs p N h) p b i s2 = T ∧ Gd xs s2.2 ∧ Hd h s2 ∧ Rn wr R B m c xs A p.length cap p lv2 hv2 s2.1 s2.2 ∧ Kp R lv hv lv2 hv2 w wr ∧ Bx wr R w.heap.size lv2 hv2 (.int .i64 0) (.int .i64 0)) (fun q _ => b - (intOf q).toNat)
  case atStart => exact ⟨a, s, lv, hv, rfl, Nat.le_refl _, hab, hfst, hT, gd, hh, H1, K1, BX⟩
  case round =>
    obtain ⟨i, s2, lv2, hv2, rfl, hai, hib0, hst, ht, gd2, hh2, RN, KP, BX2⟩ := hrel
    have HT := Lib.hid ht
    clear ht hT H H1 gd hh BX K1 hfst
    by_cases hib : i < b
    · have hibi : (i : Int) < (b : Int) := by omega
      have hs := hst hib
      have hnx := HB0.out.nxt HG0.out hai hib hs.1 hs.2
      have F := lfw_all HG0.out N i h s2 (by omega) gd2 hh2
      have hs1 : Sm (lnN xs p N h i s2).2 := go_sm HG0.out hbl hib gd2 hh2 ((gB_of i s2 (b + 1) (by omega)).trans HT.out) hsm
      have HBx := HL0.out i h s2 lv2 hv2 wr (by omega) (by omega) gd2 hh2 hs1 RN
      obtain ⟨r, hr⟩ : ∃ r, lnN xs p N h i s2 = r := ⟨_, rfl⟩
      rw [hr] at HBx F
      rcases r with ⟨l, s3⟩
      have HG := Lib.hid (fun (e : edK l = 0) => ((gB_step HB0.out hai hib hs.1 (fun x s hf => lnN_fol xs p N h x s hf) (by rw [hr, edK_zero.1 e])).symm.trans HT.out : gB (lnN xs p N h) p b (nx p i) s3 = T))
      have HO := Lib.hid (fun (e : edK l ≠ 0) => ((gB_out hib (edK_zero.2 e) hr).symm.trans HT.out : (l, s3) = T))
      clear HT hr hs1 RN hs
      go_wp2_with fail
      refine (show Calls _ _ _ _ _ from HBx).mono ?_
      rintro e w3 ⟨rfl, lv3, hv3, RN3, KP3⟩
      simp only at RN3 KP3
      have LE := Le.new w3 (.cells #[.int .i64 (edK l), .int .i64 (edW l)] 77)
      have KQ := (KP.trans KP3).trans (Kp.of_le R lv3 hv3 LE)
      have BX3 := (BX2.kp KP3).le LE
      have B2 := Bx.new RN3 (.int .i64 (edK l)) (.int .i64 (edW l)) 77
      have RN := RN3.le LE
      have HH := Lib.hid (And.intro F.gd (F.hd hh2))
      clear HBx KP KP3 F gd2 hh2 LE RN3 BX2
      have y0 := B2.c0
      have y1 := B2.c1
      have b0 := BX3.c0
      have b1 := BX3.c1
      have f0 := BX3.f 0
      have f1 := BX3.f 1
      have c1 := RN.c1
      have HE := Lib.hid (fun (k v : Int) => And.intro (RN.put2 BX3 hz (.int .i64 k) (.int .i64 v)) (KQ.put2 (Nat.le_refl _) (.int .i64 k) (.int .i64 v)))
      have HC := Lib.hid (fun (k v : Int) => BX3.put (.int .i64 k) (.int .i64 v))
      have HN := Lib.hid (And.intro RN (And.intro KQ BX3))
      clear RN KQ BX3 B2
      obtain ⟨k1, hk1⟩ : ∃ z, edK l = z := ⟨_, rfl⟩
      obtain ⟨v1, hv1⟩ : ∃ z, edW l = z := ⟨_, rfl⟩
      have HK1 : Hid (edK (id l) = k1) := hk1
      have HV1 : Hid (edW (id l) = v1) := hv1
      simp only [hk1, hv1] at *
      clear hk1 hv1
      by_cases h0 : k1 = 0
      · subst h0
        have HG2 := Lib.hid (HG.out (by trivial))
        clear HO HG
        go_wp2_with fail
        generalize w3.alloc (.cells #[.int .i64 0, .int .i64 v1] 77) = W3 at *
        refine (nextLine_any A p.length cap xs p i (by omega) HG0.out W3 HN.out.1.T).mono ?_
        rintro e w5 ⟨rfl, hle5⟩
        go_wp2
        go_roundw
        case rel => exact ⟨nx p i, s3, lv3, hv3, rfl, by omega, hnx.2.1, hnx.2.2, HG2.out, HH.out.1, HH.out.2, HN.out.1.le hle5, HN.out.2.1.trans (Kp.of_le R lv3 hv3 hle5), HN.out.2.2.le hle5⟩
        case measure => simp [intOf]; omega
      · have hl := HO.out h0
        have h0b : (k1 != 0) = true := by simpa using h0
        have h0c : decide (k1 = 0) = false := decide_eq_false h0
        clear HO HG
        go_wp2
        have z0 := (HC.out k1 v1).c0
        have z1 := (HC.out k1 v1).c1
        subst hl
        exact bodyPost_ret (v := .agg #[.int .i64 k1, .int .i64 v1]) (by simp [results, Tryz.results40, go_sem, z0, z1]) rfl ⟨ret2 HK1.out.symm HV1.out.symm, _, _, (HE.out k1 v1).1, (HE.out k1 v1).2⟩
    · have hibi : ¬ (i : Int) < (b : Int) := by omega
      have HT2 : Hid ((.nil, s2) = T) := by show _ = _; rw [← HT.out, gB_end hib]
      clear HT
      have b0 := BX2.c0
      have b1 := BX2.c1
      have f0 := BX2.f 0
      have f1 := BX2.f 1
      have HE := Lib.hid (fun (k v : Int) => And.intro (RN.put2 BX2 hz (.int .i64 k) (.int .i64 v)) (KP.put2 (Nat.le_refl _) (.int .i64 k) (.int .i64 v)))
      have HC := Lib.hid (fun (k v : Int) => BX2.put (.int .i64 k) (.int .i64 v))
      clear RN KP BX2
      have hl := HT2.out
      subst hl
      go_wp2
      have z0 := (HC.out 0 0).c0
      have z1 := (HC.out 0 0).c1
      exact bodyPost_ret (v := .agg #[.int .i64 0, .int .i64 0]) (by simp [results, Tryz.results40, go_sem, z0, z1]) rfl ⟨rfl, _, _, (HE.out 0 0).1, (HE.out 0 0).2⟩
theorem sbl_of (R m c n cap : Nat) (B A : Option Addr) (xs : List Cls) (p : List Lin) (g : GoodP xs p) (N : Nat) (HL : SlnOk R m c n cap B A xs p N) : SbOk R m c n cap B A xs p (blN xs p N) (Cn p N) := by
  intro x h s lv hv w hx hC gd hh hsm H
  have h2 := hC.2
  have hbl := bEnd_le hx
  have hp := g.len
  have e0 : blN xs p N x h s = gB (lnN xs p N h) p (bEnd p x) (x + 1) s := gB_of _ _ 25 (by omega)
  rw [e0] at hsm ⊢
  refine runBody_any R m c n cap B A xs p x h s _ hx lv hv g.len (fun w2 H2 => ?_) w H
  rw [show ((x : Int) + 1) = ((x + 1 : Nat) : Int) by omega]
  exact runBlock_any R m c n cap B A xs p g N HL (x + 1) (bEnd p x) (dep p x + 1) (Blk.of g hx hC.1) (bEnd_gt p x) (by omega) h s gd hh hsm lv hv w2 H2
theorem sln_all (R m c n cap : Nat) (B A : Option Addr) (xs : List Cls) (p : List Lin) (g : GoodP xs p) : ∀ N, SlnOk R m c n cap B A xs p N
  | 0 => fun i h s lv hv w hi hd _ _ _ _ => by have := (g.line i hi).2.1.1; omega
  | N + 1 => fun i h s lv hv w hi hd gd hh hsm H => by
    rw [lnN_succ] at hsm ⊢
    exact sRunLine_any R m c n cap B A xs p (blN xs p N) N (sbl_of R m c n cap B A xs p g N (sln_all R m c n cap B A xs p g N)) (fun x h s hx _ gd hh => bfw_of (lfw_all g N) x h s hx trivial gd hh) g i hi (by omega) h s gd hh ((lfw_all g (N + 1) i h s hi gd hh).sm (by rw [lnN_succ]; exact hsm)) hsm lv hv w H
end
end Go.Proofs.YtdbmolhdgmopoaaGreat
