/- programs: the model's run: runLoop, runFinally -/
import Derived.Test.YtlepgfccnfcagaaRsCP
namespace Go.Proofs.Ytlepgfccnfcagaa
open Go.RowKit
def outL : Lft → Lft
  | .brk => .nil
  | x => x
theorem sloop_out {blk : Bls} {i : Nat} {h : Int} {n : Nat} {s s2 : Rst} {l : Lft} (e : blk i h s = (l, s2)) (hl : l ≠ .nil) (hl2 : l ≠ .cnt) : loopN blk i h (n + 1) s = (outL l, s2) := by
  rw [loopN.eq_def]; simp only [e]
  cases l <;> first | exact absurd rfl hl | exact absurd rfl hl2 | rfl
set_option maxHeartbeats 4000000 in
set_option maxRecDepth 100000 in
theorem sRunLoop_any (R m c n cap : Nat) (B A : Option Addr) (xs : List Cls) (p : List Lin) (blk : Bls) (C : Nat → Prop) (HB : SbOk R m c n cap B A xs p blk C) (HFw : BFw xs p blk C) (g : GoodP xs p) (i : Nat) (hi : i < p.length) (hC : C i) (h12 : knd p i = 12) (h : Int) (s : Rst) (gd : Gd xs s.2) (hh : Hd h s) (hsm : Sm (loopN blk i h (lnA p i).toNat s).2) (lv hv : Value) (w : World) (H : Rn w R B m c xs A n cap p lv hv s.1 s.2) :
    SpOk R m c n cap B A xs p 118 #[.pointer (some ⟨R, 0, none⟩), .int .i64 i, .int .i64 h] lv hv w (loopN blk i h (lnA p i).toNat s) := by
  have ha := loop_a g hi h12
  have hA : lnA p i = p[i].a := lnA_at hi
  have hz := H.z
  obtain rfl := H.T.len
  have L0 := Le.new w (.cells #[.int .i64 0, .int .i64 0] 94)
  have BX := Bx.new H (.int .i64 0) (.int .i64 0) 94
  have H1 := H.le L0
  have K1 := Kp.of_le R lv hv L0
  have c1 := H1.c1
  obtain ⟨b5, off5, rfl, hb5, d0, d1, d2, d3, -⟩ := H1.T.lin_at hi
  have hi0 : (0 : Int) ≤ (i : Int) := by omega
  have hin : (i : Int) < (p.length : Int) := by omega
  rw [← hA] at ha d2
  clear hA h12
  generalize lnA p i = a at *
  obtain ⟨N, rfl⟩ := Int.eq_ofNat_of_zero_le ha.1
  rw [show ((N : Nat) : Int).toNat = N by omega] at hsm ⊢
  obtain ⟨T, hT⟩ : ∃ T, loopN blk i h N s = T := ⟨_, rfl⟩
  rw [hT] at hsm ⊢
  have HB0 := Lib.hid HB
  have HF0 := Lib.hid HFw
  clear HB HFw
  unfold SpOk
  show Calls _ _ _ _ _
  go_enter Try.func118, Try.ntmps118
  go_wp2
  generalize w.alloc (.cells #[.int .i64 0, .int .i64 0] 94) = W at *
  go_loopw [7] (fun q wr => ∃ (j : Nat) (s2 : Rst) (lv2 hv2 : Value), q = .int .i64 j ∧ j ≤ N ∧ loopN blk i h j s2 = T ∧ Gd xs s2.2 ∧ Hd h s2 ∧ Rn wr R B m c xs (some ⟨b5, off5, none⟩) p.length cap p lv2 hv2 s2.1 s2.2 ∧ Kp R lv hv lv2 hv2 w wr ∧ Bx wr R w.heap.size lv2 hv2 (.int .i64 0) (.int .i64 0)) (fun q _ => (intOf q).toNat)
  case atStart => exact ⟨N, s, lv, hv, rfl, Nat.le_refl _, hT, gd, hh, H1, K1, BX⟩
  case round =>
    obtain ⟨j, s2, lv2, hv2, rfl, hjN, ht, gd2, hh2, RN, KP, BX2⟩ := hrel
    have HT := Lib.hid ht
    clear ht hT H H1 gd hh BX K1
    by_cases hk : 0 < j
    · obtain ⟨j, rfl⟩ : ∃ j', j = j' + 1 := ⟨j - 1, by omega⟩
      have hkN : (0 : Int) < ((j + 1 : Nat) : Int) := by omega
      have hs1 := loop_sm HF0.out hi hC gd2 hh2 (by rw [HT.out]; exact hsm)
      have F := HF0.out i h s2 hi hC gd2 hh2
      have HBx : SpOk R m c p.length cap B (some ⟨b5, off5, none⟩) xs p 124 #[.pointer (some ⟨R, 0, none⟩), .int .i64 i, .int .i64 h] lv2 hv2 wr (blk i h s2) := HB0.out i h s2 lv2 hv2 wr hi hC gd2 hh2 hs1 RN
      obtain ⟨r, hr⟩ : ∃ r, blk i h s2 = r := ⟨_, rfl⟩
      rw [hr] at HBx F
      rcases r with ⟨l, s3⟩
      have HG := Lib.hid (fun (hl : l = .nil ∨ l = .cnt) => (loop_go (n := j) hr hl).symm.trans HT.out)
      have HO := Lib.hid (fun (hl : l ≠ .nil) (hl2 : l ≠ .cnt) => (sloop_out (n := j) hr hl hl2).symm.trans HT.out)
      clear HT hr hs1 RN
      go_wp2_with fail
      refine (show Calls _ _ _ _ _ from HBx).mono ?_
      rintro e w3 ⟨rfl, lv3, hv3, RN3, KP3⟩
      have LE := Le.new w3 (.cells #[.int .i64 (edK l), .int .i64 (edW l)] 94)
      have KQ := (KP.trans KP3).trans (Kp.of_le R lv3 hv3 LE)
      have BX3 := (BX2.kp KP3).le LE
      have B2 := Bx.new RN3 (.int .i64 (edK l)) (.int .i64 (edW l)) 94
      have RN := RN3.le LE
      have HH := Lib.hid (And.intro F.gd (F.hd hh2))
      have hjw : IntKind.i64.wrap (((j + 1 : Nat) : Int) - 1) = (j : Int) := by rw [show ((j + 1 : Nat) : Int) - 1 = (j : Int) by omega]; exact IntWalk.i64_in _ (by omega)
      clear HBx KP KP3 F gd2 hh2 LE RN3 BX2
      have y0 := B2.c0
      have y1 := B2.c1
      have b0 := BX3.c0
      have b1 := BX3.c1
      have f0 := BX3.f 0
      have f1 := BX3.f 1
      have HE := Lib.hid (fun (k v : Int) => And.intro (RN.put2 BX3 hz (.int .i64 k) (.int .i64 v)) (KQ.put2 (Nat.le_refl _) (.int .i64 k) (.int .i64 v)))
      have HC := Lib.hid (fun (k v : Int) => BX3.put (.int .i64 k) (.int .i64 v))
      have HN := Lib.hid (And.intro RN (And.intro KQ BX3))
      clear RN KQ BX3 B2
      rcases l with _ | v | f | _ | _
      · have HG2 := Lib.hid (HG.out (.inl rfl))
        clear HO HG
        simp only [edK, edW] at *
        go_wp2
        go_roundw
        case rel => exact ⟨j, s3, lv3, hv3, by go_num, by omega, HG2.out, HH.out.1, HH.out.2, HN.out.1, HN.out.2.1, HN.out.2.2⟩
        case measure => simp [intOf]
      · have HO2 : Hid ((.ret v, s3) = T) := HO.out (by intro h; cases h) (by intro h; cases h)
        clear HO HG
        simp only [edK, edW] at *
        go_wp2
        have z0 := (HC.out 1 v).c0
        have z1 := (HC.out 1 v).c1
        have hl := HO2.out
        subst hl
        exact bodyPost_ret (v := .agg #[.int .i64 1, .int .i64 v]) (by simp [results, Try.results118, go_sem, z0, z1]) rfl ⟨rfl, _, _, (HE.out 1 v).1, (HE.out 1 v).2⟩
      · have HO2 : Hid ((.rai f, s3) = T) := HO.out (by intro h; cases h) (by intro h; cases h)
        clear HO HG
        simp only [edK, edW] at *
        go_wp2
        have z0 := (HC.out 2 f).c0
        have z1 := (HC.out 2 f).c1
        have hl := HO2.out
        subst hl
        exact bodyPost_ret (v := .agg #[.int .i64 2, .int .i64 f]) (by simp [results, Try.results118, go_sem, z0, z1]) rfl ⟨rfl, _, _, (HE.out 2 f).1, (HE.out 2 f).2⟩
      · have HO2 : Hid ((.nil, s3) = T) := HO.out (by intro h; cases h) (by intro h; cases h)
        clear HO HG
        simp only [edK, edW] at *
        go_wp2
        have z0 := (HC.out 0 0).c0
        have z1 := (HC.out 0 0).c1
        have hl := HO2.out
        subst hl
        exact bodyPost_ret (v := .agg #[.int .i64 0, .int .i64 0]) (by simp [results, Try.results118, go_sem, z0, z1]) rfl ⟨rfl, _, _, (HE.out 0 0).1, (HE.out 0 0).2⟩
      · have HG2 := Lib.hid (HG.out (.inr rfl))
        clear HO HG
        simp only [edK, edW] at *
        go_wp2
        go_roundw
        case rel => exact ⟨j, s3, lv3, hv3, by go_num, by omega, HG2.out, HH.out.1, HH.out.2, HN.out.1, HN.out.2.1, HN.out.2.2⟩
        case measure => simp [intOf]
    · obtain rfl : j = 0 := by omega
      have HT2 : Hid ((.nil, s2) = T) := HT.out
      clear HT
      have b0 := BX2.c0
      have b1 := BX2.c1
      have f0 := BX2.f 0
      have f1 := BX2.f 1
      have HE := Lib.hid (fun (k v : Int) => And.intro (RN.put2 BX2 hz (.int .i64 k) (.int .i64 v)) (KP.put2 (Nat.le_refl _) (.int .i64 k) (.int .i64 v)))
      have HC := Lib.hid (fun (k v : Int) => BX2.put (.int .i64 k) (.int .i64 v))
      clear RN KP BX2
      have hl := HT2.out
      subst hl
      go_wp2
      have z0 := (HC.out 0 0).c0
      have z1 := (HC.out 0 0).c1
      exact bodyPost_ret (v := .agg #[.int .i64 0, .int .i64 0]) (by simp [results, Try.results118, go_sem, z0, z1]) rfl ⟨rfl, _, _, (HE.out 0 0).1, (HE.out 0 0).2⟩
set_option maxHeartbeats 4000000 in
set_option maxRecDepth 100000 in
theorem sRunFinally_any (R m c n cap q d : Nat) (B A D : Option Addr) (xs : List Cls) (p : List Lin) (blk : Bls) (C : Nat → Prop) (HB : SbOk R m c n cap B A xs p blk C) (E : List Nat) (x : Nat) (hx : x < p.length) (hE : ∃ h : 0 < E.length, E[E.length - 1] = x) (hel : E.length ≤ 25) (hC : knd p x = 10 → C x) (h : Int) (l : Lft) (s : Rst) (gd : Gd xs s.2) (hh : Hd (hdN h l) s) (hsm : knd p x = 10 → Sm (blk x (hdN h l) s).2) (lv hv : Value) (w : World) (hL : Sl w D q d (nI E)) (H : Rn w R B m c xs A n cap p lv hv s.1 s.2) :
    SpOk R m c n cap B A xs p 125 #[.pointer (some ⟨R, 0, none⟩), .slice D q d, .agg #[.int .i64 (edK l), .int .i64 (edW l)], .int .i64 h] lv hv w (if knd p x = 10 then lasN blk x h (l, s) else (l, s)) := by
  have hlen := hL.len
  rw [nI_len] at hlen
  obtain rfl := hlen
  obtain ⟨hE0, hEx⟩ := hE
  have hz := H.z
  obtain rfl := H.T.len
  have L1 := Le.new w (.cells #[.int .i64 (edK l), .int .i64 (edW l)] 94)
  have BE0 := Bx.new H (.int .i64 (edK l)) (.int .i64 (edW l)) 94
  have H1 := H.le L1
  have L2 := Le.new (w.alloc (.cells #[.int .i64 (edK l), .int .i64 (edW l)] 94)) (.cells #[.int .i64 0, .int .i64 0] 94)
  have hsz : (w.alloc (.cells #[.int .i64 (edK l), .int .i64 (edW l)] 94)).heap.size = w.heap.size + 1 := by simp
  have BX := Bx.new H1 (.int .i64 0) (.int .i64 0) 94
  rw [hsz] at BX
  have BE := BE0.le L2
  have RN := H1.le L2
  have KQ := Kp.of_le R lv hv (L1.trans L2)
  have SL := hL.le (L1.trans L2)
  obtain ⟨bE, oE, rfl, hbE, hcE, -⟩ := SL.int_at (k := E.length - 1) (by rw [nI_len]; omega)
  rw [nI_at (show E.length - 1 < E.length by omega), hEx] at hcE
  have c1 := RN.c1
  obtain ⟨b5, off5, rfl, hb5, d0, d1, d2, d3, -⟩ := RN.T.lin_at hx
  have hkx : knd p x = p[x].kind := knd_at hx
  have hx0 : (0 : Int) ≤ (x : Int) := by omega
  have hxn : (x : Int) < (p.length : Int) := by omega
  have hE1 : ((E.length : Int) - 1) = ((E.length - 1 : Nat) : Int) := by omega
  have hEw : IntKind.i64.wrap ((E.length : Int) - 1) = ((E.length - 1 : Nat) : Int) := by rw [hE1]; exact IntWalk.i64_in _ (by omega)
  have hEn : ((E.length - 1 : Nat) : Int) < (E.length : Int) := by omega
  have hEz : (0 : Int) ≤ ((E.length - 1 : Nat) : Int) := by omega
  have e0 := BE.c0
  have e1 := BE.c1
  have b0 := BX.c0
  have b1 := BX.c1
  have f0 := BX.f 0
  have f1 := BX.f 1
  have hg : R < w.heap.size + 1 := by omega
  have HBx : knd p x = 10 → ∀ f w2 lv2 hv2, hdN h l = f → Rn w2 R B m c xs (some ⟨b5, off5, none⟩) p.length cap p lv2 hv2 s.1 s.2 → SpOk R m c p.length cap B (some ⟨b5, off5, none⟩) xs p 124 #[.pointer (some ⟨R, 0, none⟩), .int .i64 x, .int .i64 f] lv2 hv2 w2 (blk x (hdN h l) s) := fun hk f w2 lv2 hv2 e H2 => e ▸ HB x _ s lv2 hv2 w2 hx (hC hk) gd hh (hsm hk) H2
  clear H1 L1 L2 BE0 hsz hL SL hEx
  unfold SpOk
  show Calls _ _ _ _ _
  rw [hkx]
  rw [hkx] at HBx
  generalize p[x].kind = vk at *
  have HF1 : Hid (edK l = 2 → hdN h l = edW l) := by show _ → _; cases l <;> first | (intro e; cases e; done) | (intro _; rfl)
  have HF2 : Hid (edK l ≠ 2 → hdN h l = h) := by show _ → _; cases l <;> first | (intro e; exact absurd rfl e) | (intro _; rfl)
  by_cases hk : vk = 10
  · subst hk
    have HX : Hid ((if (10 : Int) = 10 then lasN blk x h (l, s) else (l, s)) = (orElseL l (blk x (hdN h l) s).1, (blk x (hdN h l) s).2)) := if_pos rfl
    generalize blk x (hdN h l) s = q2 at *
    rcases q2 with ⟨l2, s2⟩
    obtain ⟨Z, hZ⟩ : ∃ Z, (if (10 : Int) = 10 then lasN blk x h (l, s) else (l, s)) = Z := ⟨_, rfl⟩
    have HZ : Z = (orElseL l l2, s2) := hZ.symm.trans HX.out
    rw [hZ, HZ]
    clear hZ HZ HX
    clear hsm hC gd hh HB
    generalize hdN h l = hd at *
    have HK := Lib.hid (show edK (orElseL l l2) = cond (decide (edK l2 = 0)) (edK l) (edK l2) ∧ edW (orElseL l l2) = cond (decide (edK l2 = 0)) (edW l) (edW l2) by cases l2 <;> exact ⟨rfl, rfl⟩)
    generalize orElseL l l2 = lo at *
    generalize edK l = k1 at *
    generalize edW l = w1 at *
    go_enter Try.func125, Try.ntmps125
    by_cases h2 : k1 = 2
    · have hfe := HF1.out h2
      subst h2
      go_wp2_with fail
      refine (show Calls _ _ _ _ _ from HBx (by trivial) _ _ _ _ hfe RN).mono ?_
      rintro e w3 ⟨rfl, lv3, hv3, RN3, KP3⟩
      simp only at RN3 KP3
      generalize edK l2 = k2 at *
      generalize edW l2 = w2 at *
      have LE := Le.new w3 (.cells #[.int .i64 k2, .int .i64 w2] 94)
      have KR := (KQ.trans KP3).trans (Kp.of_le R lv3 hv3 LE)
      have BX3 := (BX.kp KP3).le LE
      have BE3 := (BE.kp KP3).le LE
      have B2 := Bx.new RN3 (.int .i64 k2) (.int .i64 w2) 94
      have RN4 := RN3.le LE
      have y0 := B2.c0
      have y1 := B2.c1
      have x0 := BE3.c0
      have x1 := BE3.c1
      have u0 := BX3.c0
      have u1 := BX3.c1
      have v0 := BX3.f 0
      have v1 := BX3.f 1
      have HE := Lib.hid (fun (k v : Int) => And.intro (RN4.put2 BX3 hg (.int .i64 k) (.int .i64 v)) (KR.put2 (g := w.heap.size + 1) (by omega) (.int .i64 k) (.int .i64 v)))
      have HC := Lib.hid (fun (k v : Int) => BX3.put (.int .i64 k) (.int .i64 v))
      clear KR BX3 BE3 B2 RN4 RN3 KP3 LE KQ BX BE RN HBx e0 e1 b0 b1 f0 f1 c1 d0 d1 d2 d3 hcE
      by_cases h0 : k2 = 0
      · have h0b : decide (k2 = 0) = true := decide_eq_true h0
        rw [h0b] at HK
        have HA := HK.out.1
        have HB := HK.out.2
        clear HK
        subst h0
        go_wp2
        have z0 := (HC.out 2 w1).c0
        have z1 := (HC.out 2 w1).c1
        exact bodyPost_ret (v := .agg #[.int .i64 2, .int .i64 w1]) (by simp [results, Try.results125, go_sem, z0, z1]) rfl ⟨rsRet2 HA.symm HB.symm, _, _, (HE.out 2 w1).1, (HE.out 2 w1).2⟩
      · have h0b : decide (k2 = 0) = false := decide_eq_false h0
        have h0c : (k2 != 0) = true := by simpa using h0
        rw [h0b] at HK
        have HA := HK.out.1
        have HB := HK.out.2
        clear HK
        go_wp2
        have z0 := (HC.out k2 w2).c0
        have z1 := (HC.out k2 w2).c1
        exact bodyPost_ret (v := .agg #[.int .i64 k2, .int .i64 w2]) (by simp [results, Try.results125, go_sem, z0, z1]) rfl ⟨rsRet2 HA.symm HB.symm, _, _, (HE.out k2 w2).1, (HE.out k2 w2).2⟩
    · have hfe := HF2.out h2
      have h2b : decide (k1 = 2) = false := decide_eq_false h2
      go_wp2_with fail
      refine (show Calls _ _ _ _ _ from HBx (by trivial) _ _ _ _ hfe RN).mono ?_
      rintro e w3 ⟨rfl, lv3, hv3, RN3, KP3⟩
      simp only at RN3 KP3
      generalize edK l2 = k2 at *
      generalize edW l2 = w2 at *
      have LE := Le.new w3 (.cells #[.int .i64 k2, .int .i64 w2] 94)
      have KR := (KQ.trans KP3).trans (Kp.of_le R lv3 hv3 LE)
      have BX3 := (BX.kp KP3).le LE
      have BE3 := (BE.kp KP3).le LE
      have B2 := Bx.new RN3 (.int .i64 k2) (.int .i64 w2) 94
      have RN4 := RN3.le LE
      have y0 := B2.c0
      have y1 := B2.c1
      have x0 := BE3.c0
      have x1 := BE3.c1
      have u0 := BX3.c0
      have u1 := BX3.c1
      have v0 := BX3.f 0
      have v1 := BX3.f 1
      have HE := Lib.hid (fun (k v : Int) => And.intro (RN4.put2 BX3 hg (.int .i64 k) (.int .i64 v)) (KR.put2 (g := w.heap.size + 1) (by omega) (.int .i64 k) (.int .i64 v)))
      have HC := Lib.hid (fun (k v : Int) => BX3.put (.int .i64 k) (.int .i64 v))
      clear KR BX3 BE3 B2 RN4 RN3 KP3 LE KQ BX BE RN HBx e0 e1 b0 b1 f0 f1 c1 d0 d1 d2 d3 hcE
      by_cases h0 : k2 = 0
      · have h0b : decide (k2 = 0) = true := decide_eq_true h0
        rw [h0b] at HK
        have HA := HK.out.1
        have HB := HK.out.2
        clear HK
        subst h0
        go_wp2
        have z0 := (HC.out k1 w1).c0
        have z1 := (HC.out k1 w1).c1
        exact bodyPost_ret (v := .agg #[.int .i64 k1, .int .i64 w1]) (by simp [results, Try.results125, go_sem, z0, z1]) rfl ⟨rsRet2 HA.symm HB.symm, _, _, (HE.out k1 w1).1, (HE.out k1 w1).2⟩
      · have h0b : decide (k2 = 0) = false := decide_eq_false h0
        have h0c : (k2 != 0) = true := by simpa using h0
        rw [h0b] at HK
        have HA := HK.out.1
        have HB := HK.out.2
        clear HK
        go_wp2
        have z0 := (HC.out k2 w2).c0
        have z1 := (HC.out k2 w2).c1
        exact bodyPost_ret (v := .agg #[.int .i64 k2, .int .i64 w2]) (by simp [results, Try.results125, go_sem, z0, z1]) rfl ⟨rsRet2 HA.symm HB.symm, _, _, (HE.out k2 w2).1, (HE.out k2 w2).2⟩
  · have HX : (if vk = 10 then lasN blk x h (l, s) else (l, s)) = (l, s) := if_neg hk
    rw [HX]
    clear HX
    have hkb : (vk != 10) = true := by simpa using hk
    have hkc : decide (vk = 10) = false := decide_eq_false hk
    clear HBx HF1 HF2 RN KQ BX BE hsm hC gd hh HB
    generalize edK l = k1 at *
    generalize edW l = w1 at *
    have LL := (Le.new w (.cells #[.int .i64 k1, .int .i64 w1] 94)).trans (Le.new (w.alloc (.cells #[.int .i64 k1, .int .i64 w1] 94)) (.cells #[.int .i64 k1, .int .i64 w1] 94))
    go_enter Try.func125, Try.ntmps125
    go_wp2
    exact bodyPost_ret (v := .agg #[.int .i64 k1, .int .i64 w1]) (by simp [results, Try.results125, go_sem]) rfl ⟨rfl, _, _, H.le LL, Kp.of_le R lv hv LL⟩
end Go.Proofs.Ytlepgfccnfcagaa
