/- programs: the model's run: runTry -/
import Derived.Test.YtlepgfccnfcagaaRsEP
import Derived.Test.YtlepgfccnfcagaaWp8
import Derived.Test.YtlepgfccnfcagaaWp12
namespace Go.Proofs.Ytlepgfccnfcagaa
open Go.RowKit
/-- a list that a call keeps -/
structure Lk (W : World) (R : Nat) (lv hv : Value) (D : Option Addr) (q d : Nat) (E : List Nat) : Prop where
  sl : Sl W D q d (nI E)
  nb : ∀ a, D = some a → a.block < W.heap.size ∧ a.block ≠ R ∧ lv.ownBlock ≠ some a.block ∧ hv.ownBlock ≠ some a.block
theorem Lk.kp {W W' : World} {R : Nat} {lv hv lv' hv' : Value} {D : Option Addr} {q d : Nat} {E : List Nat} (h : Lk W R lv hv D q d E) (k : Kp R lv hv lv' hv' W W') : Lk W' R lv' hv' D q d E := by
  refine ⟨⟨h.sl.len, h.sl.cap_, h.sl.max, h.sl.ok, fun hn => ?_⟩, fun a e => ?_⟩
  · obtain ⟨b, off, e, hb, hc⟩ := h.sl.at_ hn
    have n := h.nb _ e
    exact ⟨b, off, e, Nat.lt_of_lt_of_le hb k.size, fun j u hu => (World.cell?_of_block (a := ⟨b, off + j, none⟩) (k.blk b hb n.2.1 n.2.2.1 n.2.2.2)).trans (hc j u hu)⟩
  · have n := h.nb a e
    exact ⟨Nat.lt_of_lt_of_le n.1 k.size, n.2.1, k.ownL n.1 n.2.2.1, k.ownH n.1 n.2.2.2⟩
theorem Lk.le {W W' : World} {R : Nat} {lv hv : Value} {D : Option Addr} {q d : Nat} {E : List Nat} (h : Lk W R lv hv D q d E) (L : Le W W') : Lk W' R lv hv D q d E := h.kp (Kp.of_le R lv hv L)
theorem Lk.set {W : World} {R g o : Nat} {lv hv : Value} {D : Option Addr} {q d : Nat} {E : List Nat} (h : Lk W R lv hv D q d E) (hg : ∀ a, D = some a → a.block ≠ g) (u : Value) : Lk (W.setCell ⟨g, o, none⟩ u) R lv hv D q d E := by
  refine ⟨h.sl.grown (grown_set W g o u) (fun hn a e e2 => hg a e (by injection e2)), fun a e => ?_⟩
  have n := h.nb a e
  exact ⟨by simp [World.setCell]; exact n.1, n.2⟩
theorem edK_nil {l : Lft} : (edK l = 0 → isNil l = true) ∧ (edK l ≠ 0 → isNil l = false) := by
  cases l <;> (constructor <;> intro e <;> first | rfl | (cases e; done) | exact absurd rfl e)
theorem edK_rai {l : Lft} : (edK l = 2 → isRai l = true ∧ raiF l = edW l) ∧ (edK l ≠ 2 → isRai l = false) := by
  cases l <;> (constructor <;> intro e <;> first | rfl | exact ⟨rfl, rfl⟩ | (cases e; done) | exact absurd rfl e)
set_option maxHeartbeats 8000000 in
set_option maxRecDepth 100000 in
theorem sRunTry_any (R m c n cap : Nat) (B A : Option Addr) (xs : List Cls) (p : List Lin) (blk : Bls) (C : Nat → Prop) (HB : SbOk R m c n cap B A xs p blk C) (HFw : BFw xs p blk C) (g : GoodP xs p) (i : Nat) (hi : i < p.length) (hC : ∀ x ∈ parts p i, C x) (h7 : knd p i = 7) (h : Int) (s : Rst) (gd : Gd xs s.2) (hh : Hd h s) (hsm : Sm (tryN blk xs p i h s).2) (lv hv : Value) (w : World) (H : Rn w R B m c xs A n cap p lv hv s.1 s.2) :
    SpOk R m c n cap B A xs p 116 #[.pointer (some ⟨R, 0, none⟩), .int .i64 i, .int .i64 h] lv hv w (tryN blk xs p i h s) := by
  have hCi := hC i (List.mem_cons_self ..)
  have F1 := HFw i h s hi hCi gd hh
  have F2 := F1.mid HFw hi hC hh
  have hp := g.len
  have hz := H.z
  have hX : tryN blk xs p i h s = finN blk p i h (midN blk xs p i h (blk i h s)) := rfl
  rw [hX] at hsm ⊢
  clear hX
  obtain ⟨r1, hr1⟩ : ∃ r, blk i h s = r := ⟨_, rfl⟩
  rw [hr1] at hsm F1 F2 ⊢
  obtain ⟨r3, hr3⟩ : ∃ r, midN blk xs p i h r1 = r := ⟨_, rfl⟩
  have F3 := (F1.self.mid HFw hi hC (F1.hd hh))
  rw [hr3] at hsm F2 F3 ⊢
  have hsm3 : Sm r3.2 := by
    rcases hq : prt p i 10 with _ | x
    · rw [fin_none hq] at hsm; exact hsm
    · rw [fin_some hq] at hsm
      have m := prt_mem hq
      exact (HFw x (hdN h r3.1) r3.2 (parts_lt hi x m.1) (hC x m.1) F2.gd (F2.hdn hh)).sm hsm
  have hsm1 : Sm r1.2 := F3.sm hsm3
  obtain ⟨T, hT⟩ : ∃ T, finN blk p i h r3 = T := ⟨_, rfl⟩
  have hT9 := hT
  have hsm9 := hsm
  rw [hT] at hsm ⊢
  clear hT hsm
  rcases r1 with ⟨l1, s1⟩
  rcases r3 with ⟨l3, s3⟩
  have hh1 : Hd h s1 := F1.hd hh
  have gd1 : Gd xs s1.2 := F1.gd
  have HB1 := HB i h s lv hv w hi hCi gd hh (by rw [hr1]; exact hsm1) H
  rw [hr1] at HB1
  have HE1 : Hid (isNil l1 = true → prt p i 9 = none → l3 = l1 ∧ s3 = s1) := by
    show _ → _
    intro e hq
    cases l1 <;> first | (cases e; done) | skip
    have e2 : midN blk xs p i h (.nil, s1) = (.nil, s1) := by show orN _ _ _ _ = _; unfold orN; rw [hq]
    rw [e2] at hr3; injection hr3 with a b; exact ⟨a.symm, b.symm⟩
  have HE2 : Hid (isNil l1 = true → ∀ (x : Nat) lv2 hv2 w2, prt p i 9 = some x → Rn w2 R B m c xs A n cap p lv2 hv2 s1.1 s1.2 → SpOk R m c n cap B A xs p 124 #[.pointer (some ⟨R, 0, none⟩), .int .i64 x, .int .i64 h] lv2 hv2 w2 (l3, s3)) := by
    show _ → _
    intro e x lv2 hv2 w2 hq RN
    cases l1 <;> first | (cases e; done) | skip
    have e2 : midN blk xs p i h (.nil, s1) = blk x h s1 := by show orN _ _ _ _ = _; unfold orN; rw [hq]
    rw [e2] at hr3
    have m := prt_mem hq
    have := HB x h s1 lv2 hv2 w2 (parts_lt hi x m.1) (hC x m.1) gd1 hh1 (by rw [hr3]; exact hsm3) RN
    rw [hr3] at this; exact this
  have HR0 : Hid (isRai l1 = true → 0 ≤ raiF l1 ∧ raiF l1 < (s1.2.length : Int)) := by
    show _ → _
    intro e
    cases l1 <;> first | (cases e; done) | skip
    exact F1.rai _ rfl
  have HR1 : Hid (isRai l1 = true → ¬ 0 ≤ ctE xs p (clsF s1 (raiF l1)) (exL p i) → l3 = l1 ∧ s3 = s1) := by
    show _ → _
    intro e hq
    cases l1 <;> first | (cases e; done) | skip
    rename_i f
    have e2 : midN blk xs p i h (.rai f, s1) = (.rai f, s1) := if_neg hq
    rw [e2] at hr3; injection hr3 with a b; exact ⟨a.symm, b.symm⟩
  have HR2 : Hid (isRai l1 = true → 0 ≤ ctE xs p (clsF s1 (raiF l1)) (exL p i) → ∀ lv2 hv2 w2, Rn w2 R B m c xs A n cap p lv2 hv2 s1.1 s1.2 → SpOk R m c n cap B A xs p 124 #[.pointer (some ⟨R, 0, none⟩), .int .i64 (ctE xs p (clsF s1 (raiF l1)) (exL p i)), .int .i64 (raiF l1)] lv2 hv2 w2 (l3, s3)) := by
    show _ → _
    intro e hq lv2 hv2 w2 RN
    cases l1 <;> first | (cases e; done) | skip
    rename_i f
    have hq2 : 0 ≤ ctE xs p (clsF s1 f) (exL p i) := hq
    have e2 : midN blk xs p i h (.rai f, s1) = blk (ctE xs p (clsF s1 f) (exL p i)).toNat f s1 := if_pos hq2
    rw [e2] at hr3
    show SpOk R m c n cap B A xs p _ #[.pointer (some ⟨R, 0, none⟩), .int .i64 (ctE xs p (clsF s1 f) (exL p i)), .int .i64 f] lv2 hv2 w2 (l3, s3)
    rcases ctE_mem xs p (clsF s1 f) (exL p i) with e3 | ⟨x, hx, e3⟩
    · rw [e3] at hq2; exact absurd hq2 (by decide)
    · have m := exL_mem hx
      rw [e3] at hr3 ⊢
      have := HB x f s1 lv2 hv2 w2 (parts_lt hi x m.1) (hC x m.1) gd1 (F1.hdr rfl) (by rw [show x = ((x : Int)).toNat by omega, hr3]; exact hsm3) RN
      rw [show blk x f s1 = (l3, s3) from hr3] at this; exact this
  have HO1 : Hid (isNil l1 = false → isRai l1 = false → l3 = l1 ∧ s3 = s1) := by
    show _ → _
    intro e e1
    cases l1 <;> first | (cases e; done) | (cases e1; done) | (injection hr3 with a b; exact ⟨a.symm, b.symm⟩)
  have HXc := Lib.hid (fun (e : isRai l1 = true) (lv2 hv2 : Value) (w2 : World) (q d : Nat) (D : Option Addr) (SL : Sl w2 D q d (nI (parts p i))) (RN : Rn w2 R B m c xs A n cap p lv2 hv2 s1.1 s1.2) => caught_any R m c n cap q d B A D xs p lv2 hv2 s1 i (raiF l1) g hi h7 gd1 (HR0.out e).1 (HR0.out e).2 w2 SL RN)
  have hlm := lstP_mem p i
  have HFi := Lib.hid (fun (lv2 hv2 : Value) (w2 : World) (q d : Nat) (D : Option Addr) (SL : Sl w2 D q d (nI (parts p i))) (RN : Rn w2 R B m c xs A n cap p lv2 hv2 s3.1 s3.2) => (show SpOk R m c n cap B A xs p 125 #[.pointer (some ⟨R, 0, none⟩), .slice D q d, .agg #[.int .i64 (edK l3), .int .i64 (edW l3)], .int .i64 h] lv2 hv2 w2 T by
    have := sRunFinally_any R m c n cap q d B A D xs p blk C HB (parts p i) (lstP p i) (parts_lt hi _ hlm) ⟨parts_posF p i, rfl⟩ (by have := parts_len p i; omega) (fun _ => hC _ hlm) h l3 s3 F2.gd (F2.hdn hh) (fun hk => by rw [fin_last, if_pos hk] at hsm9; exact hsm9) lv2 hv2 w2 SL RN
    rw [← fin_last, hT9] at this
    exact this))
  obtain rfl := H.T.len
  have HCP := Lib.hid (chain_parts g.tries hi)
  have L0 := Le.new w (.cells #[.int .i64 0, .int .i64 0] 94)
  have BX := Bx.new H (.int .i64 0) (.int .i64 0) 94
  have RN := H.le L0
  have KQ := Kp.of_le R lv hv L0
  have hE0 := parts_posF p i
  have hpl := parts_len p i
  have HLT := Lib.hid (parts_lt hi)
  have HPE : Hid (prt p i 9 = prtG p 9 ((parts p i).drop 1)) := by
    show prtG p 9 (parts p i) = _
    have := prtG_at (p := p) (K := 9) (L := parts p i) (q := 0) hE0
    rw [List.drop_zero] at this
    rw [this]
    have e0 : (parts p i)[0] = i := rfl
    rw [e0, if_neg (by rw [h7]; decide)]
  have hN := edK_nil (l := l1)
  have hRa := edK_rai (l := l1)
  replace HB1 : ∀ w2, Rn w2 R B m c xs A p.length cap p lv hv s.1 s.2 → SpOk R m c p.length cap B A xs p 124 #[.pointer (some ⟨R, 0, none⟩), .int .i64 i, .int .i64 h] lv hv w2 (l1, s1) := fun w2 H2 => by have := HB i h s lv hv w2 hi hCi gd hh (by rw [hr1]; exact hsm1) H2; rw [hr1] at this; exact this
  clear HB HFw F1 F2 F3 hsm3 hsm1 hr3 hr1 HR0 hh1 gd1 gd hh hCi hC H L0 hlm hsm9 hT9
  unfold SpOk
  show Calls _ _ _ _ _
  have HN := Lib.hid hN
  have HRA := Lib.hid hRa
  clear hN hRa
  generalize isNil l1 = nl at *
  generalize isRai l1 = ri at *
  generalize raiF l1 = rf at *
  generalize ctE xs p (clsF s1 rf) (exL p i) = ce at *
  have HP9 := HPE
  generalize prt p i 9 = o9 at *
  have c1 := RN.c1
  go_enter Try.func116, Try.ntmps116
  go_wp2_with fail
  generalize hW0 : w.alloc (.cells #[.int .i64 0, .int .i64 0] 94) = W at *
  have hWs : w.heap.size < W.heap.size := BX.z
  clear hW0
  refine (chainOf_any A p.length cap p i hi (by omega) W RN.T).mono ?_
  rintro e w1 ⟨v, rfl, D, hle⟩
  rw [HCP.out] at D
  obtain ⟨A2, q2, rfl, SL, hnb⟩ := D.form (by decide)
  rw [nI_len] at SL ⊢
  have LK : Lk w1 R lv hv A2 (parts p i).length q2 (parts p i) := ⟨SL, fun a e => by
    subst e
    have h1 := hnb a.block rfl
    exact ⟨h1.2, by have := RN.z; omega, fun e2 => by have := (RN.O.lt _ e2).2; omega, fun e2 => by have := (RN.H.lt _ e2).2; omega⟩⟩
  have hLKw : ∀ a, A2 = some a → a.block < w1.heap.size := fun a e => (LK.nb a e).1
  have hWw1 := hle.size
  replace RN := RN.le hle
  replace BX := BX.le hle
  replace KQ := KQ.trans (Kp.of_le R lv hv hle)
  generalize parts p i = E at *
  clear D hle c1 HCP HPE SL hnb
  go_wp2_with fail
  refine (show Calls _ _ _ _ _ from HB1 w1 RN).mono ?_
  rintro e w2 ⟨rfl, lv2, hv2, RN2, KP2⟩
  simp only at RN2 KP2
  obtain ⟨k1, hk1⟩ : ∃ z, edK l1 = z := ⟨_, rfl⟩
  obtain ⟨w1v, hw1v⟩ : ∃ z, edW l1 = z := ⟨_, rfl⟩
  have HK1 := Lib.hid hk1
  have HW1 := Lib.hid hw1v
  rw [hw1v] at HRA
  rw [hk1] at HN HRA
  simp only [hk1, hw1v]
  clear hk1 hw1v
  have hw12 := KP2.size
  have LE := Le.new w2 (.cells #[.int .i64 k1, .int .i64 w1v] 94)
  have B2 := Bx.new RN2 (.int .i64 k1) (.int .i64 w1v) 94
  have hLKg : ∀ a, A2 = some a → a.block ≠ w2.heap.size := fun a e => by have := hLKw a e; omega
  replace LK := (LK.kp KP2).le LE
  replace BX := (BX.kp KP2).le LE
  replace KQ := (KQ.trans KP2).trans (Kp.of_le R lv2 hv2 LE)
  have hw02 : w.heap.size < w2.heap.size := by have := RN.z; have := BX.z; have h3 := hw12; have := hWs; have h5 := hWw1; omega
  replace RN := RN2.le LE
  clear RN2 KP2 LE HB1
  go_wp2
  generalize w2.alloc (.cells #[.int .i64 k1, .int .i64 w1v] 94) = V at *
  by_cases hk10 : k1 = 0
  · subst hk10
    have hnl := HN.out.1 rfl
    have hri := HRA.out.2 (by decide)
    have HEa := HE1.out hnl
    have HEb := HE2.out hnl
    clear HE1 HE2 HR1 HR2 HO1 HXc HN HRA
    go_loopw [9] (fun u wr => ∃ k : Nat, 1 ≤ k ∧ k ≤ E.length ∧ u = .int .i64 k ∧ o9 = prtG p 9 (E.drop k) ∧ Le V wr) (fun u _ => E.length - (intOf u).toNat)
    case atStart => exact ⟨1, Nat.le_refl _, by omega, rfl, HP9.out, Le.refl _⟩
    case round =>
      obtain ⟨k, hk1, hkE, rfl, hr, hle⟩ := hrel
      have HR := Lib.hid hr
      clear hr
      replace RN := RN.le hle
      replace BX := BX.le hle
      replace B2 := B2.le hle
      replace KQ := KQ.trans (Kp.of_le R lv2 hv2 hle)
      replace LK := LK.le hle
      have hLV := hle
      clear hle
      by_cases hlk : k < E.length
      · have SLr := LK.sl
        obtain ⟨b5, off5, rfl, hb5, c5, -⟩ := SLr.int_at (k := k) (by rw [nI_len]; exact hlk)
        rw [nI_at hlk] at c5
        have hx := HLT.out E[k] (List.getElem_mem hlk)
        have HD := Lib.hid (prtG_at (p := p) (K := 9) hlk)
        generalize E[k] = x at *
        have r1 := RN.c1
        have zR := RN.z
        have HT1 := Lib.hid RN.T
        obtain ⟨b4, off4, eA, hb4, d0, d1, d2, d3, -⟩ := HT1.out.lin_at hx
        have HEA := Lib.hid eA
        rw [eA] at r1
        clear eA
        have HK := Lib.hid (knd_at hx)
        have hx0 : (0 : Int) ≤ (x : Int) := by omega
        have hxn : (x : Int) < (p.length : Int) := by omega
        have hk0 : (0 : Int) ≤ (k : Int) := by omega
        have hkn : (k : Int) < (E.length : Int) := by omega
        have y0 := B2.c0
        have zE := B2.z
        have E1 := cell_ext zR r1
        have E5 := cell_ext hb5 c5
        have Ed := cell_ext hb4 d1
        have Ey := cell_ext zE y0
        clear r1 d0 d1 d2 d3 y0
        generalize p[x].kind = vk at *
        have HW := Lib.hid (And.intro RN (And.intro BX (And.intro B2 (And.intro KQ LK))))
        have HC5 := Lib.hid c5
        clear c5 SLr
        by_cases h9 : vk = 9
        · subst h9
          have HO : Hid (o9 = some x) := by show _ = _; rw [HR.out, HD.out, if_pos HK.out]
          clear RN BX B2 KQ LK
          go_wp2_with fail
          refine wp_region_ext (by kernel_rfl) (by kernel_rfl) ?_
          repeat (go_big_quiet_step (fail))
          refine wpQuiet_nil ?_
          intro _ hw'
          obtain ⟨gg, rfl⟩ := hw'
          have hw1 := Le.ext wr gg
          replace HW := Lib.hid (And.intro (HW.out.1.le hw1) (And.intro (HW.out.2.1.le hw1) (And.intro (HW.out.2.2.1.le hw1) (And.intro (HW.out.2.2.2.1.trans (Kp.of_le R lv2 hv2 hw1)) (HW.out.2.2.2.2.le hw1)))))
          have c5 := (hw1.cell hb5).trans HC5.out
          clear E1 E5 Ed Ey
          generalize wr.ext gg = W2 at *
          obtain ⟨RN, BX, B2, KQ, LK⟩ := HW.out
          have HBy := HEb x _ _ _ HO.out RN
          clear HW HC5 HD HR HO
          go_wp2_with fail
          refine (show Calls _ _ _ _ _ from HBy).mono ?_
          rintro e w6 ⟨rfl, lv6, hv6, RN6, KP6⟩
          simp only at RN6
          have B6 := B2.kp KP6
          have y0 := B6.c0
          have y1 := B6.c1
          have v0 := B6.f 0
          have v1 := B6.f 1
          have RN7 := RN6.put2 B6 (by omega) (.int .i64 (edK l3)) (.int .i64 (edW l3))
          have KQ7 := (KQ.trans KP6).put2 (g := w2.heap.size) (by omega) (.int .i64 (edK l3)) (.int .i64 (edW l3))
          have BX7 := ((BX.kp KP6).set (g2 := w2.heap.size) (o := 0) (by omega) (.int .i64 (edK l3))).set (g2 := w2.heap.size) (o := 1) (by omega) (.int .i64 (edW l3))
          have B7 := B6.put (.int .i64 (edK l3)) (.int .i64 (edW l3))
          have LK7 := ((LK.kp KP6).set (o := 0) hLKg (.int .i64 (edK l3))).set (o := 1) hLKg (.int .i64 (edW l3))
          have e0 := B7.c0
          have e1 := B7.c1
          have HFx := HFi.out _ _ _ _ _ _ LK7.sl RN7
          clear RN KQ BX B2 LK RN6 KP6 B6
          have RN := RN7
          have KQ := KQ7
          have BX := BX7
          have LK := LK7
          clear RN7 KQ7 BX7 LK7
          go_wp2_with fail
          refine (show Calls _ _ _ _ _ from HFx).mono ?_
          rintro e w9 ⟨rfl, lv9, hv9, RN9, KP9⟩
          have BX9 := BX.kp KP9
          have KQ9 := KQ.trans KP9
          have b0 := BX9.c0
          have b1 := BX9.c1
          have f0 := BX9.f 0
          have f1 := BX9.f 1
          have HE := Lib.hid (And.intro (RN9.put2 BX9 hz (.int .i64 (edK T.1)) (.int .i64 (edW T.1))) (KQ9.put2 (Nat.le_refl _) (.int .i64 (edK T.1)) (.int .i64 (edW T.1))))
          have HC := Lib.hid (BX9.put (.int .i64 (edK T.1)) (.int .i64 (edW T.1)))
          clear RN9 KP9 BX9 KQ9
          go_wp2
          have z0 := HC.out.c0
          have z1 := HC.out.c1
          exact bodyPost_ret (v := .agg #[.int .i64 (edK T.1), .int .i64 (edW T.1)]) (by simp [results, Try.results116, go_sem, z0, z1]) rfl ⟨rfl, _, _, HE.out.1, HE.out.2⟩
        · have h9b : (vk == 9) = false := by simpa using h9
          have h9c : decide (vk = 9) = false := decide_eq_false h9
          have HF : Hid (o9 = prtG p 9 (E.drop (k + 1))) := by show _ = _; rw [HR.out, HD.out, if_neg (by rw [HK.out]; exact h9)]
          clear RN BX B2 KQ LK HW
          go_wp2_with fail
          refine wp_region_ext (by kernel_rfl) (by kernel_rfl) ?_
          repeat (go_big_quiet_step (fail))
          refine wpQuiet_nil ?_
          intro _ hw'
          obtain ⟨gg, rfl⟩ := hw'
          have hw1 := Le.ext wr gg
          generalize wr.ext gg = W2 at *
          go_wp2
          go_roundw
          case rel => exact ⟨k + 1, by omega, by omega, by go_num, HF.out, hLV.trans hw1⟩
          case measure => simp [intOf]; omega
      · have y0 := B2.c0
        have y1 := B2.c1
        have zE := B2.z
        have HS := HEa (HR.out.trans (by rw [List.drop_eq_nil_of_le (by omega)]; rfl))
        obtain ⟨rfl, rfl⟩ := HS
        have HFx := HFi.out _ _ _ _ _ _ LK.sl RN
        rw [HK1.out, HW1.out] at HFx
        go_wp2_with fail
        refine (show Calls _ _ _ _ _ from HFx).mono ?_
        rintro e w9 ⟨rfl, lv9, hv9, RN9, KP9⟩
        have BX9 := BX.kp KP9
        have KQ9 := KQ.trans KP9
        have b0 := BX9.c0
        have b1 := BX9.c1
        have f0 := BX9.f 0
        have f1 := BX9.f 1
        have HE := Lib.hid (And.intro (RN9.put2 BX9 hz (.int .i64 (edK T.1)) (.int .i64 (edW T.1))) (KQ9.put2 (Nat.le_refl _) (.int .i64 (edK T.1)) (.int .i64 (edW T.1))))
        have HC := Lib.hid (BX9.put (.int .i64 (edK T.1)) (.int .i64 (edW T.1)))
        clear RN9 KP9 BX9 KQ9
        go_wp2
        have z0 := HC.out.c0
        have z1 := HC.out.c1
        exact bodyPost_ret (v := .agg #[.int .i64 (edK T.1), .int .i64 (edW T.1)]) (by simp [results, Try.results116, go_sem, z0, z1]) rfl ⟨rfl, _, _, HE.out.1, HE.out.2⟩
  · by_cases hk12 : k1 = 2
    · subst hk12
      have hri := (HRA.out.1 rfl).1
      obtain rfl := (HRA.out.1 rfl).2
      have HRa := HR1.out hri
      have HRb := HR2.out hri
      have HXa := HXc.out hri
      clear HE1 HE2 HR1 HR2 HO1 HXc HN HRA
      go_loopw [9] (fun u wr => ∃ k : Nat, 1 ≤ k ∧ k ≤ E.length ∧ u = .int .i64 k ∧ Le V wr) (fun u _ => E.length - (intOf u).toNat)
      case atStart => exact ⟨1, Nat.le_refl _, by omega, rfl, Le.refl _⟩
      case round =>
        obtain ⟨k, hk1, hkE, rfl, hle⟩ := hrel
        replace RN := RN.le hle
        replace BX := BX.le hle
        replace B2 := B2.le hle
        replace KQ := KQ.trans (Kp.of_le R lv2 hv2 hle)
        replace LK := LK.le hle
        have hLV := hle
        clear hle
        by_cases hlk : k < E.length
        · have SLr := LK.sl
          obtain ⟨b5, off5, rfl, hb5, c5, -⟩ := SLr.int_at (k := k) (by rw [nI_len]; exact hlk)
          rw [nI_at hlk] at c5
          have hx := HLT.out E[k] (List.getElem_mem hlk)
          have HD := Lib.hid (prtG_at (p := p) (K := 9) hlk)
          generalize E[k] = x at *
          have r1 := RN.c1
          have zR := RN.z
          have HT1 := Lib.hid RN.T
          obtain ⟨b4, off4, eA, hb4, d0, d1, d2, d3, -⟩ := HT1.out.lin_at hx
          have HEA := Lib.hid eA
          rw [eA] at r1
          clear eA
          have HK := Lib.hid (knd_at hx)
          have hx0 : (0 : Int) ≤ (x : Int) := by omega
          have hxn : (x : Int) < (p.length : Int) := by omega
          have hk0 : (0 : Int) ≤ (k : Int) := by omega
          have hkn : (k : Int) < (E.length : Int) := by omega
          have y0 := B2.c0
          have zE := B2.z
          have E1 := cell_ext zR r1
          have E5 := cell_ext hb5 c5
          have Ed := cell_ext hb4 d1
          have Ey := cell_ext zE y0
          clear r1 d0 d1 d2 d3 y0
          generalize p[x].kind = vk at *
          have HW := Lib.hid (And.intro RN (And.intro BX (And.intro B2 (And.intro KQ LK))))
          have HC5 := Lib.hid c5
          clear c5 SLr
          clear RN BX B2 KQ LK HW
          by_cases h9 : vk = 9
          · subst h9
            go_wp2_with fail
            refine wp_region_ext (by kernel_rfl) (by kernel_rfl) ?_
            repeat (go_big_quiet_step (fail))
            refine wpQuiet_nil ?_
            intro _ hw'
            obtain ⟨gg, rfl⟩ := hw'
            have hw1 := Le.ext wr gg
            generalize wr.ext gg = W2 at *
            go_wp2
            go_roundw
            case rel => exact ⟨k + 1, by omega, by omega, by go_num, hLV.trans hw1⟩
            case measure => simp [intOf]; omega
          · have h9b : (vk == 9) = false := by simpa using h9
            have h9c : decide (vk = 9) = false := decide_eq_false h9
            go_wp2_with fail
            refine wp_region_ext (by kernel_rfl) (by kernel_rfl) ?_
            repeat (go_big_quiet_step (fail))
            refine wpQuiet_nil ?_
            intro _ hw'
            obtain ⟨gg, rfl⟩ := hw'
            have hw1 := Le.ext wr gg
            generalize wr.ext gg = W2 at *
            go_wp2
            go_roundw
            case rel => exact ⟨k + 1, by omega, by omega, by go_num, hLV.trans hw1⟩
            case measure => simp [intOf]; omega
        · have y0 := B2.c0
          have y1 := B2.c1
          have zE := B2.z
          have HXx := HXa _ _ _ _ _ _ LK.sl RN
          go_wp2_with fail
          refine HXx.mono ?_
          rintro e w4 ⟨rfl, hl4⟩
          replace RN := RN.le hl4
          replace BX := BX.le hl4
          replace B2 := B2.le hl4
          replace KQ := KQ.trans (Kp.of_le R lv2 hv2 hl4)
          replace LK := LK.le hl4
          clear hl4 y0 y1 HXx
          have y0 := B2.c0
          have y1 := B2.c1
          by_cases hce : 0 ≤ ce
          · have hcb : decide (0 ≤ ce) = true := decide_eq_true hce
            have HBy := HRb (by omega) _ _ _ RN
            go_wp2_with fail
            refine (show Calls _ _ _ _ _ from HBy).mono ?_
            rintro e w6 ⟨rfl, lv6, hv6, RN6, KP6⟩
            simp only at RN6
            have B6 := B2.kp KP6
            clear y0 y1
            have y0 := B6.c0
            have y1 := B6.c1
            have v0 := B6.f 0
            have v1 := B6.f 1
            have RN7 := RN6.put2 B6 (by omega) (.int .i64 (edK l3)) (.int .i64 (edW l3))
            have KQ7 := (KQ.trans KP6).put2 (g := w2.heap.size) (by omega) (.int .i64 (edK l3)) (.int .i64 (edW l3))
            have BX7 := ((BX.kp KP6).set (g2 := w2.heap.size) (o := 0) (by omega) (.int .i64 (edK l3))).set (g2 := w2.heap.size) (o := 1) (by omega) (.int .i64 (edW l3))
            have B7 := B6.put (.int .i64 (edK l3)) (.int .i64 (edW l3))
            have LK7 := ((LK.kp KP6).set (o := 0) hLKg (.int .i64 (edK l3))).set (o := 1) hLKg (.int .i64 (edW l3))
            have e0 := B7.c0
            have e1 := B7.c1
            have HFx := HFi.out _ _ _ _ _ _ LK7.sl RN7
            clear RN KQ BX B2 LK RN6 KP6 B6
            have RN := RN7
            have KQ := KQ7
            have BX := BX7
            have LK := LK7
            clear RN7 KQ7 BX7 LK7
            go_wp2_with fail
            refine (show Calls _ _ _ _ _ from HFx).mono ?_
            rintro e w9 ⟨rfl, lv9, hv9, RN9, KP9⟩
            have BX9 := BX.kp KP9
            have KQ9 := KQ.trans KP9
            have b0 := BX9.c0
            have b1 := BX9.c1
            have f0 := BX9.f 0
            have f1 := BX9.f 1
            have HE := Lib.hid (And.intro (RN9.put2 BX9 hz (.int .i64 (edK T.1)) (.int .i64 (edW T.1))) (KQ9.put2 (Nat.le_refl _) (.int .i64 (edK T.1)) (.int .i64 (edW T.1))))
            have HC := Lib.hid (BX9.put (.int .i64 (edK T.1)) (.int .i64 (edW T.1)))
            clear RN9 KP9 BX9 KQ9
            go_wp2
            have z0 := HC.out.c0
            have z1 := HC.out.c1
            exact bodyPost_ret (v := .agg #[.int .i64 (edK T.1), .int .i64 (edW T.1)]) (by simp [results, Try.results116, go_sem, z0, z1]) rfl ⟨rfl, _, _, HE.out.1, HE.out.2⟩
          · have hcb : decide (0 ≤ ce) = false := decide_eq_false hce
            have HS := HRa (by omega)
            obtain ⟨rfl, rfl⟩ := HS
            have HFx := HFi.out _ _ _ _ _ _ LK.sl RN
            rw [HK1.out, HW1.out] at HFx
            go_wp2_with fail
            refine (show Calls _ _ _ _ _ from HFx).mono ?_
            rintro e w9 ⟨rfl, lv9, hv9, RN9, KP9⟩
            have BX9 := BX.kp KP9
            have KQ9 := KQ.trans KP9
            have b0 := BX9.c0
            have b1 := BX9.c1
            have f0 := BX9.f 0
            have f1 := BX9.f 1
            have HE := Lib.hid (And.intro (RN9.put2 BX9 hz (.int .i64 (edK T.1)) (.int .i64 (edW T.1))) (KQ9.put2 (Nat.le_refl _) (.int .i64 (edK T.1)) (.int .i64 (edW T.1))))
            have HC := Lib.hid (BX9.put (.int .i64 (edK T.1)) (.int .i64 (edW T.1)))
            clear RN9 KP9 BX9 KQ9
            go_wp2
            have z0 := HC.out.c0
            have z1 := HC.out.c1
            exact bodyPost_ret (v := .agg #[.int .i64 (edK T.1), .int .i64 (edW T.1)]) (by simp [results, Try.results116, go_sem, z0, z1]) rfl ⟨rfl, _, _, HE.out.1, HE.out.2⟩
    · have hri := HRA.out.2 hk12
      have hnl := HN.out.2 hk10
      have HOa := HO1.out hnl hri
      clear HE1 HE2 HR1 HR2 HO1 HXc HN HRA
      go_loopw [9] (fun u wr => ∃ k : Nat, 1 ≤ k ∧ k ≤ E.length ∧ u = .int .i64 k ∧ Le V wr) (fun u _ => E.length - (intOf u).toNat)
      case atStart => exact ⟨1, Nat.le_refl _, by omega, rfl, Le.refl _⟩
      case round =>
        obtain ⟨k, hk1, hkE, rfl, hle⟩ := hrel
        replace RN := RN.le hle
        replace BX := BX.le hle
        replace B2 := B2.le hle
        replace KQ := KQ.trans (Kp.of_le R lv2 hv2 hle)
        replace LK := LK.le hle
        have hLV := hle
        clear hle
        by_cases hlk : k < E.length
        · have SLr := LK.sl
          obtain ⟨b5, off5, rfl, hb5, c5, -⟩ := SLr.int_at (k := k) (by rw [nI_len]; exact hlk)
          rw [nI_at hlk] at c5
          have hx := HLT.out E[k] (List.getElem_mem hlk)
          have HD := Lib.hid (prtG_at (p := p) (K := 9) hlk)
          generalize E[k] = x at *
          have r1 := RN.c1
          have zR := RN.z
          have HT1 := Lib.hid RN.T
          obtain ⟨b4, off4, eA, hb4, d0, d1, d2, d3, -⟩ := HT1.out.lin_at hx
          have HEA := Lib.hid eA
          rw [eA] at r1
          clear eA
          have HK := Lib.hid (knd_at hx)
          have hx0 : (0 : Int) ≤ (x : Int) := by omega
          have hxn : (x : Int) < (p.length : Int) := by omega
          have hk0 : (0 : Int) ≤ (k : Int) := by omega
          have hkn : (k : Int) < (E.length : Int) := by omega
          have y0 := B2.c0
          have zE := B2.z
          have E1 := cell_ext zR r1
          have E5 := cell_ext hb5 c5
          have Ed := cell_ext hb4 d1
          have Ey := cell_ext zE y0
          clear r1 d0 d1 d2 d3 y0
          generalize p[x].kind = vk at *
          have HW := Lib.hid (And.intro RN (And.intro BX (And.intro B2 (And.intro KQ LK))))
          have HC5 := Lib.hid c5
          clear c5 SLr
          have hn0 : decide (k1 = 0) = false := decide_eq_false hk10
          have hn1 : (k1 == 0) = false := by simpa using hk10
          clear RN BX B2 KQ LK HW
          by_cases h9 : vk = 9
          · subst h9
            go_wp2_with fail
            refine wp_region_ext (by kernel_rfl) (by kernel_rfl) ?_
            repeat (go_big_quiet_step (fail))
            refine wpQuiet_nil ?_
            intro _ hw'
            obtain ⟨gg, rfl⟩ := hw'
            have hw1 := Le.ext wr gg
            generalize wr.ext gg = W2 at *
            go_wp2
            go_roundw
            case rel => exact ⟨k + 1, by omega, by omega, by go_num, hLV.trans hw1⟩
            case measure => simp [intOf]; omega
          · have h9b : (vk == 9) = false := by simpa using h9
            have h9c : decide (vk = 9) = false := decide_eq_false h9
            go_wp2_with fail
            refine wp_region_ext (by kernel_rfl) (by kernel_rfl) ?_
            repeat (go_big_quiet_step (fail))
            refine wpQuiet_nil ?_
            intro _ hw'
            obtain ⟨gg, rfl⟩ := hw'
            have hw1 := Le.ext wr gg
            generalize wr.ext gg = W2 at *
            go_wp2
            go_roundw
            case rel => exact ⟨k + 1, by omega, by omega, by go_num, hLV.trans hw1⟩
            case measure => simp [intOf]; omega
        · have y0 := B2.c0
          have y1 := B2.c1
          have zE := B2.z
          have hn2 : decide (k1 = 2) = false := decide_eq_false hk12
          have hn3 : (k1 == 2) = false := by simpa using hk12
          have HS := HOa
          obtain ⟨rfl, rfl⟩ := HS
          have HFx := HFi.out _ _ _ _ _ _ LK.sl RN
          rw [HK1.out, HW1.out] at HFx
          go_wp2_with fail
          refine (show Calls _ _ _ _ _ from HFx).mono ?_
          rintro e w9 ⟨rfl, lv9, hv9, RN9, KP9⟩
          have BX9 := BX.kp KP9
          have KQ9 := KQ.trans KP9
          have b0 := BX9.c0
          have b1 := BX9.c1
          have f0 := BX9.f 0
          have f1 := BX9.f 1
          have HE := Lib.hid (And.intro (RN9.put2 BX9 hz (.int .i64 (edK T.1)) (.int .i64 (edW T.1))) (KQ9.put2 (Nat.le_refl _) (.int .i64 (edK T.1)) (.int .i64 (edW T.1))))
          have HC := Lib.hid (BX9.put (.int .i64 (edK T.1)) (.int .i64 (edW T.1)))
          clear RN9 KP9 BX9 KQ9
          go_wp2
          have z0 := HC.out.c0
          have z1 := HC.out.c1
          exact bodyPost_ret (v := .agg #[.int .i64 (edK T.1), .int .i64 (edW T.1)]) (by simp [results, Try.results116, go_sem, z0, z1]) rfl ⟨rfl, _, _, HE.out.1, HE.out.2⟩
end Go.Proofs.Ytlepgfccnfcagaa
