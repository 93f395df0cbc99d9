/- programs: the model's run: runBlock; all lines by induction on their depth -/
import Derived.Test.YtlepgfccnfcagaaRsGP
import Derived.Test.YtlepgfccnfcagaaWp9
namespace Go.Proofs.Ytlepgfccnfcagaa
open Go.RowKit
def SlnOk (R m c n cap : Nat) (B A : Option Addr) (xs : List Cls) (p : List Lin) (N : Nat) : Prop :=
  ∀ (i : Nat) (h : Int) (s : Rst) (lv hv : Value) (w : World), i < p.length → 6 ≤ dep p i + N → Gd xs s.2 → Hd h s → Sm (lnN xs p N h i s).2 → Rn w R B m c xs A n cap p lv hv s.1 s.2 → SpOk R m c n cap B A xs p 97 #[.pointer (some ⟨R, 0, none⟩), .int .i64 i, .int .i64 h] lv hv w (lnN xs p N h i s)
theorem edK_zero {l : Lft} : (edK l = 0 → l = .nil) ∧ (edK l ≠ 0 → l ≠ .nil) := by
  cases l <;> (constructor <;> intro e <;> first | rfl | (cases e; done) | exact absurd rfl e | (intro h; cases h))
set_option maxHeartbeats 4000000 in
set_option maxRecDepth 100000 in
theorem runBlock_any (R m c n cap : Nat) (B A : Option Addr) (xs : List Cls) (p : List Lin) (g : GoodP xs p) (N : Nat) (HL : SlnOk R m c n cap B A xs p N) (a b : Nat) (D : Int) (hB : Blk p a b D) (hab : a ≤ b) (hD : 6 ≤ D + N) (h : Int) (s : Rst) (gd : Gd xs s.2) (hh : Hd h s) (hsm : Sm (gB (lnN xs p N h) p b a s).2) (lv hv : Value) (w : World) (H : Rn w R B m c xs A n cap p lv hv s.1 s.2) :
    SpOk R m c n cap B A xs p 62 #[.pointer (some ⟨R, 0, none⟩), .int .i64 a, .int .i64 b, .int .i64 h] lv hv w (gB (lnN xs p N h) p b a s) := by
  have hz := H.z
  obtain rfl := H.T.len
  have hbl := hB.le
  have hp := g.len
  have L0 := Le.new w (.cells #[.int .i64 0, .int .i64 0] 94)
  have BX := Bx.new H (.int .i64 0) (.int .i64 0) 94
  have H1 := H.le L0
  have K1 := Kp.of_le R lv hv L0
  obtain ⟨T, hT⟩ : ∃ T, gB (lnN xs p N h) p b a s = T := ⟨_, rfl⟩
  rw [hT] at hsm ⊢
  have HL0 := Lib.hid HL
  have HB0 := Lib.hid hB
  have HG0 := Lib.hid g
  have hfst := hB.first
  clear HL hB g
  unfold SpOk
  show Calls _ _ _ _ _
  go_enter Try.func62, Try.ntmps62
  go_wp2
  generalize w.alloc (.cells #[.int .i64 0, .int .i64 0] 94) = W at *
  go_loopw [9] (fun q wr => ∃ (i : Nat) (s2 : Rst) (lv2 hv2 : Value), q = .int .i64 i ∧ a ≤ i ∧ i ≤ b ∧ (i < b → dep p i = D ∧ fol (knd p i) = false) ∧ gB (lnN xs p N h) p b i s2 = T ∧ Gd xs s2.2 ∧ Hd h s2 ∧ Rn wr R B m c xs A p.length cap p lv2 hv2 s2.1 s2.2 ∧ Kp R lv hv lv2 hv2 w wr ∧ Bx wr R w.heap.size lv2 hv2 (.int .i64 0) (.int .i64 0)) (fun q _ => b - (intOf q).toNat)
  case atStart => exact ⟨a, s, lv, hv, rfl, Nat.le_refl _, hab, hfst, hT, gd, hh, H1, K1, BX⟩
  case round =>
    obtain ⟨i, s2, lv2, hv2, rfl, hai, hib0, hst, ht, gd2, hh2, RN, KP, BX2⟩ := hrel
    have HT := Lib.hid ht
    clear ht hT H H1 gd hh BX K1 hfst
    by_cases hib : i < b
    · have hibi : (i : Int) < (b : Int) := by omega
      have hs := hst hib
      have hnx := HB0.out.nxt HG0.out hai hib hs.1 hs.2
      have F := lfw_all HG0.out N i h s2 (by omega) gd2 hh2
      have hs1 : Sm (lnN xs p N h i s2).2 := go_sm HG0.out hbl hib gd2 hh2 ((gB_of i s2 (b + 1) (by omega)).trans HT.out) hsm
      have HBx := HL0.out i h s2 lv2 hv2 wr (by omega) (by omega) gd2 hh2 hs1 RN
      obtain ⟨r, hr⟩ : ∃ r, lnN xs p N h i s2 = r := ⟨_, rfl⟩
      rw [hr] at HBx F
      rcases r with ⟨l, s3⟩
      have HG := Lib.hid (fun (e : edK l = 0) => ((gB_step HB0.out hai hib hs.1 (fun x s hf => lnN_fol xs p N h x s hf) (by rw [hr, edK_zero.1 e])).symm.trans HT.out : gB (lnN xs p N h) p b (nx p i) s3 = T))
      have HO := Lib.hid (fun (e : edK l ≠ 0) => ((gB_out hib (edK_zero.2 e) hr).symm.trans HT.out : (l, s3) = T))
      clear HT hr hs1 RN hs
      go_wp2_with fail
      refine (show Calls _ _ _ _ _ from HBx).mono ?_
      rintro e w3 ⟨rfl, lv3, hv3, RN3, KP3⟩
      simp only at RN3 KP3
      have LE := Le.new w3 (.cells #[.int .i64 (edK l), .int .i64 (edW l)] 94)
      have KQ := (KP.trans KP3).trans (Kp.of_le R lv3 hv3 LE)
      have BX3 := (BX2.kp KP3).le LE
      have B2 := Bx.new RN3 (.int .i64 (edK l)) (.int .i64 (edW l)) 94
      have RN := RN3.le LE
      have HH := Lib.hid (And.intro F.gd (F.hd hh2))
      clear HBx KP KP3 F gd2 hh2 LE RN3 BX2
      have y0 := B2.c0
      have y1 := B2.c1
      have b0 := BX3.c0
      have b1 := BX3.c1
      have f0 := BX3.f 0
      have f1 := BX3.f 1
      have c1 := RN.c1
      have HE := Lib.hid (fun (k v : Int) => And.intro (RN.put2 BX3 hz (.int .i64 k) (.int .i64 v)) (KQ.put2 (Nat.le_refl _) (.int .i64 k) (.int .i64 v)))
      have HC := Lib.hid (fun (k v : Int) => BX3.put (.int .i64 k) (.int .i64 v))
      have HN := Lib.hid (And.intro RN (And.intro KQ BX3))
      clear RN KQ BX3 B2
      obtain ⟨k1, hk1⟩ : ∃ z, edK l = z := ⟨_, rfl⟩
      obtain ⟨v1, hv1⟩ : ∃ z, edW l = z := ⟨_, rfl⟩
      have HK1 : Hid (edK (id l) = k1) := hk1
      have HV1 : Hid (edW (id l) = v1) := hv1
      simp only [hk1, hv1] at *
      clear hk1 hv1
      by_cases h0 : k1 = 0
      · subst h0
        have HG2 := Lib.hid (HG.out (by trivial))
        clear HO HG
        go_wp2_with fail
        generalize w3.alloc (.cells #[.int .i64 0, .int .i64 v1] 94) = W3 at *
        refine (nextLine_any A p.length cap xs p i (by omega) HG0.out W3 HN.out.1.T).mono ?_
        rintro e w5 ⟨rfl, hle5⟩
        go_wp2
        go_roundw
        case rel => exact ⟨nx p i, s3, lv3, hv3, rfl, by omega, hnx.2.1, hnx.2.2, HG2.out, HH.out.1, HH.out.2, HN.out.1.le hle5, HN.out.2.1.trans (Kp.of_le R lv3 hv3 hle5), HN.out.2.2.le hle5⟩
        case measure => simp [intOf]; omega
      · have hl := HO.out h0
        have h0b : (k1 != 0) = true := by simpa using h0
        have h0c : decide (k1 = 0) = false := decide_eq_false h0
        clear HO HG
        go_wp2
        have z0 := (HC.out k1 v1).c0
        have z1 := (HC.out k1 v1).c1
        subst hl
        exact bodyPost_ret (v := .agg #[.int .i64 k1, .int .i64 v1]) (by simp [results, Try.results62, go_sem, z0, z1]) rfl ⟨rsRet2 HK1.out.symm HV1.out.symm, _, _, (HE.out k1 v1).1, (HE.out k1 v1).2⟩
    · have hibi : ¬ (i : Int) < (b : Int) := by omega
      have HT2 : Hid ((.nil, s2) = T) := by show _ = _; rw [← HT.out, gB_end hib]
      clear HT
      have b0 := BX2.c0
      have b1 := BX2.c1
      have f0 := BX2.f 0
      have f1 := BX2.f 1
      have HE := Lib.hid (fun (k v : Int) => And.intro (RN.put2 BX2 hz (.int .i64 k) (.int .i64 v)) (KP.put2 (Nat.le_refl _) (.int .i64 k) (.int .i64 v)))
      have HC := Lib.hid (fun (k v : Int) => BX2.put (.int .i64 k) (.int .i64 v))
      clear RN KP BX2
      have hl := HT2.out
      subst hl
      go_wp2
      have z0 := (HC.out 0 0).c0
      have z1 := (HC.out 0 0).c1
      exact bodyPost_ret (v := .agg #[.int .i64 0, .int .i64 0]) (by simp [results, Try.results62, go_sem, z0, z1]) rfl ⟨rfl, _, _, (HE.out 0 0).1, (HE.out 0 0).2⟩
theorem sbl_of (R m c n cap : Nat) (B A : Option Addr) (xs : List Cls) (p : List Lin) (g : GoodP xs p) (N : Nat) (HL : SlnOk R m c n cap B A xs p N) : SbOk R m c n cap B A xs p (blN xs p N) (Cn p N) := by
  intro x h s lv hv w hx hC gd hh hsm H
  have h2 := hC.2
  have hbl := bEnd_le hx
  have hp := g.len
  have e0 : blN xs p N x h s = gB (lnN xs p N h) p (bEnd p x) (x + 1) s := gB_of _ _ 25 (by omega)
  rw [e0] at hsm ⊢
  refine runBody_any R m c n cap B A xs p x h s _ hx lv hv g.len (fun w2 H2 => ?_) w H
  rw [show ((x : Int) + 1) = ((x + 1 : Nat) : Int) by omega]
  exact runBlock_any R m c n cap B A xs p g N HL (x + 1) (bEnd p x) (dep p x + 1) (Blk.of g hx hC.1) (bEnd_gt p x) (by omega) h s gd hh hsm lv hv w2 H2
theorem sln_all (R m c n cap : Nat) (B A : Option Addr) (xs : List Cls) (p : List Lin) (g : GoodP xs p) : ∀ N, SlnOk R m c n cap B A xs p N
  | 0 => fun i h s lv hv w hi hd _ _ _ _ => by have := (g.line i hi).2.1.1; omega
  | N + 1 => fun i h s lv hv w hi hd gd hh hsm H => by
    rw [lnN_succ] at hsm ⊢
    exact sRunLine_any R m c n cap B A xs p (blN xs p N) N (sbl_of R m c n cap B A xs p g N (sln_all R m c n cap B A xs p g N)) (fun x h s hx _ gd hh => bfw_of (lfw_all g N) x h s hx trivial gd hh) g i hi (by omega) h s gd hh ((lfw_all g (N + 1) i h s hi gd hh).sm (by rw [lnN_succ]; exact hsm)) hsm lv hv w H
end Go.Proofs.Ytlepgfccnfcagaa
