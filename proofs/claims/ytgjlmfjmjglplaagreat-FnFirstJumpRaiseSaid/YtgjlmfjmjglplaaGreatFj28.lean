/- one text of PfN, RnH, RnI, RnO -/
import Derived.Test.YtgjlmfjmjglplaaGreatFj25
import Derived.Test.YtgjlmfjmjglplaaGreatFj27
import Derived.Test.YtgjlmfjmjglplaaGreatFj13
import Derived.Test.YtgjlmfjmjglplaaGreatFj11
import Derived.Test.YtgjlmfjmjglplaaGreatFj17
import Derived.Test.YtgjlmfjmjglplaaGreatFj24
namespace Go.Proofs.YtgjlmfjmjglplaaGreat
open Go.RowKit
set_option linter.unusedVariables false
section
theorem parts_posF (p : List Lin) (j : Nat) : 0 < (parts p j).length := by unfold parts; simp
set_option maxHeartbeats 1000000 in
theorem nextLine_any (A : Option Addr) (n cap : Nat) (xs : List Cls) (p : List Lin) (i : Nat) (hi : i < p.length) (g : GoodP xs p) (w : World) (hR : Sl w A n cap p) :
    Calls Tryz.prog 37 #[.slice A n cap, .int .i64 i] w fun e w' => e = .returned (.int .i64 (nx p i)) ∧ Le w w' := by
  obtain rfl := hR.len
  have hp := g.len
  have HX : Hid (nx p i = if knd p i = 7 then bEnd p (lstP p i) else bEnd p i) := rfl
  have HK := Lib.hid (knd_at hi)
  have HCP := Lib.hid (chain_parts g.tries hi)
  have hx0 : (0 : Int) ≤ (i : Int) := by omega
  have hxn : (i : Int) < (p.length : Int) := by omega
  have hz := lstP_mem p i
  have hzl := (partsF hi hz).2.1
  have HLS : Hid (lstP p i = (parts p i)[(parts p i).length - 1]'(by have := parts_posF p i; omega)) := rfl
  have hpos := parts_posF p i
  have hpl := parts_len p i
  obtain ⟨b, off, rfl, hb, d0, d1, -⟩ := hR.lin_at hi
  clear hz g
  go_enter Tryz.func37, Tryz.ntmps37
  generalize p[i].kind = vk at *
  by_cases h7 : vk = 7
  · subst h7
    have HF : Hid (nx p i = bEnd p (lstP p i)) := by show _ = _; rw [HX.out, if_pos HK.out]
    go_wp2_with fail
    refine (chainOf_any _ p.length cap p i hi (by omega) w hR).mono ?_
    rintro e w1 ⟨v, rfl, D, hle⟩
    rw [HCP.out] at D
    obtain ⟨A2, q2, rfl, S2, -⟩ := D.form (by decide)
    have R2 := hR.le hle
    obtain ⟨k, hk⟩ : ∃ k, (parts p i).length = k + 1 := ⟨(parts p i).length - 1, by omega⟩
    obtain ⟨b5, off5, rfl, hb5, c5, -⟩ := S2.int_at (k := k) (by rw [nI_len]; omega)
    rw [nI_at (by omega)] at c5
    have e5 : (parts p i)[k]'(by omega) = lstP p i := by rw [HLS.out]; congr 1; omega
    rw [e5] at c5
    rw [nI_len, hk] at S2 ⊢
    have hwk : IntKind.i64.wrap ((k : Int) + 1 - 1) = (k : Int) := by rw [Int.add_sub_cancel]; exact IntWalk.i64_in _ (by omega)
    have hk0 : (0 : Int) ≤ (k : Int) := by omega
    have hkn : (k : Int) < (k : Int) + 1 := by omega
    have hk24 : k ≤ 25 := by omega
    clear e5 HLS hk D hpos hpl HCP HX
    generalize lstP p i = z at *
    go_wp2_with fail
    refine (sBlockEnd_any _ p.length cap p z hzl w1 R2).mono ?_
    rintro e w2 ⟨rfl, hle2⟩
    go_wp2
    go_ret
    exact ⟨ret_int (by rw [HF.out]), hle.trans hle2⟩
  · have h7b : (vk == 7) = false := bf h7
    have HF : Hid (nx p i = bEnd p i) := by show _ = _; rw [HX.out, if_neg (by rw [HK.out]; exact h7)]
    go_wp2_with fail
    refine (sBlockEnd_any _ p.length cap p i hi w hR).mono ?_
    rintro e w2 ⟨rfl, hle2⟩
    go_wp2
    go_ret
    exact ⟨ret_int (by rw [HF.out]), hle2⟩
theorem Blk.inner {p : List Lin} {xs : List Cls} (g : GoodP xs p) {a b : Nat} {D : Int} (h : Blk p a b D) {i : Nat} (h1 : a ≤ i) (h2 : i < b) (hd : dep p i = D) (hf : fol (knd p i) = false) {x : Nat} (h3 : i ≤ x) (h4 : x < nx p i) : bEnd p x ≤ nx p i := by
  obtain ⟨n1, n2, n3⟩ := h.nxt g h1 h2 hd hf
  have hin := h.in (x := x) (by omega) (by omega)
  rcases Nat.lt_or_ge (nx p i) b with h5 | h5
  · refine Nat.le_of_not_lt fun c => ?_
    have h6 := bEnd_in (p := p) (i := x) (x := nx p i) h4 c
    have h7 := (n3 h5).1
    have h8 := h.deep x (by omega) (by omega)
    omega
  · omega
theorem pos_le {p : List Lin} {i : Nat} (h7 : knd p i = 7) {n : Nat} (hn : n < (parts p i).length) : bEnd p (parts p i)[n] ≤ nx p i := by
  unfold nx
  rw [if_pos h7]
  rcases Nat.lt_or_ge (n + 1) (parts p i).length with h | h
  · rw [← parts_link h]
    have := lstP_ge (List.getElem_mem h)
    have := bEnd_gt p (lstP p i)
    omega
  · have e : (parts p i)[n] = lstP p i := by unfold lstP; congr 1; omega
    rw [e]; exact Nat.le_refl _
theorem pos_end {p : List Lin} {i : Nat} (h7 : knd p i = 7) {n : Nat} (hn : n + 1 = (parts p i).length) : bEnd p ((parts p i)[n]'(by omega)) = nx p i := by
  unfold nx
  rw [if_pos h7]
  congr 1
  unfold lstP
  congr 1
  omega
end

section
theorem log_a {xs : List Cls} {p : List Lin} (g : GoodP xs p) {i : Nat} (hi : i < p.length) (h : p[i].kind = 1 ∨ p[i].kind = 4) : 0 ≤ p[i].a ∧ p[i].a ≤ 99 := by
  have h1 := (g.line i hi).1
  unfold numS at h1
  rw [if_pos h, Bool.and_eq_true] at h1
  exact rng_iff2 h1.1
theorem raise_ab {xs : List Cls} {p : List Lin} (g : GoodP xs p) {i : Nat} (hi : i < p.length) (h : p[i].kind = 2) : (0 ≤ p[i].a ∧ p[i].a < xs.length) ∧ (0 ≤ p[i].b ∧ p[i].b ≤ 99) := by
  have h1 := (g.line i hi).1
  unfold numS at h1
  rw [h, if_neg (by decide), if_pos rfl, Bool.and_eq_true] at h1
  exact ⟨hasK_iff.1 h1.1, rng_iff2 h1.2⟩
/-- where lines have a block that is run -/
def Cn (p : List Lin) (N : Nat) (x : Nat) : Prop := opn (knd p x) = true ∧ 5 ≤ dep p x + N
theorem cn_parts {p : List Lin} {N i : Nat} (hi : i < p.length) (h7 : knd p i = 7) (hd : 5 ≤ dep p i + N) : ∀ x ∈ parts p i, Cn p N x := fun x hx => by
  refine ⟨?_, by rw [(partsF hi hx).2.2]; exact hd⟩
  rcases try_step (show IsTry p i x from ⟨h7, hx⟩) with ⟨h, _⟩ | ⟨h, _⟩
  · rw [h]; rfl
  · have := fol_iff.1 h
    unfold opn rng
    simp; omega
set_option maxHeartbeats 4000000 in
set_option maxRecDepth 100000 in
theorem runLine_any (R m c n cap : Nat) (B A : Option Addr) (xs : List Cls) (p : List Lin) (blk : Bls) (N : Nat) (HB : BlOk R m c n cap B A xs p blk (Cn p N)) (HFw : BFw xs p blk (Cn p N)) (g : GoodP xs p) (i : Nat) (hi : i < p.length) (hd : 5 ≤ dep p i + N) (h : Int) (s : Rst) (gd : Gd xs s.2) (hh : Hd h s) (hsm0 : Sm s) (hsm : Sm (stepN blk xs p h i s).2) (lv hv : Value) (w : World) (H : Rn w R B m c xs A n cap p lv hv s.1 s.2) :
    RunOk R m c n cap B A xs p 47 #[.pointer (some ⟨R, 0, none⟩), .int .i64 i, .int .i64 h] lv hv w (stepN blk xs p h i s) := by
  have hA : lnA p i = p[i].a := lnA_at hi
  have hBc : lnBc p i = p[i].b := lnBc_at hi
  have hK : knd p i = p[i].kind := knd_at hi
  have hh0 := hh.1
  have hh1 := hh.2
  have hx8 := (good_of g.tree).hi
  have c1 := H.c1
  have hz := H.z
  have hl1 := hsm0.1
  have hl2 := hsm0.2
  obtain rfl := H.T.len
  obtain ⟨b5, off5, rfl, hb5, d0, d1, d2, d3, -⟩ := H.T.lin_at hi
  have hi0 : (0 : Int) ≤ (i : Int) := by omega
  have hin : (i : Int) < (p.length : Int) := by omega
  have LX := Le.new w (.cells #[.int .i64 p[i].depth, .int .i64 p[i].kind, .int .i64 p[i].a, .int .i64 p[i].b] 31)
  have b1 : (w.alloc (.cells #[.int .i64 p[i].depth, .int .i64 p[i].kind, .int .i64 p[i].a, .int .i64 p[i].b] 31)).cell? ⟨w.heap.size, 1, none⟩ = some (.int .i64 p[i].kind) := by rw [World.cell?_alloc_at _ _ _ _ rfl]; rfl
  have b2 : (w.alloc (.cells #[.int .i64 p[i].depth, .int .i64 p[i].kind, .int .i64 p[i].a, .int .i64 p[i].b] 31)).cell? ⟨w.heap.size, 2, none⟩ = some (.int .i64 p[i].a) := by rw [World.cell?_alloc_at _ _ _ _ rfl]; rfl
  have b3 : (w.alloc (.cells #[.int .i64 p[i].depth, .int .i64 p[i].kind, .int .i64 p[i].a, .int .i64 p[i].b] 31)).cell? ⟨w.heap.size, 3, none⟩ = some (.int .i64 p[i].b) := by rw [World.cell?_alloc_at _ _ _ _ rfl]; rfl
  have H0 := H.le LX
  have K0 := Kp.of_le R lv hv LX
  by_cases k1 : p[i].kind = 1
  · have hk : knd p i = 1 := hK.trans k1
    have ha := log_a g hi (.inl k1)
    have hE : stepN blk xs p h i s = (.nil, (s.1 ++ [lnA p i], s.2)) := by unfold stepN; rw [if_pos hk]
    rw [hE] at hsm ⊢
    rw [k1] at LX H0 K0 b1 b2 b3 d1
    rw [hA] at hsm ⊢
    unfold RunOk
    show Calls _ _ _ _ _
    go_enter Tryz.func47, Tryz.ntmps47
    go_wp2_with fail
    refine (tell_any R m c _ cap B _ xs p lv hv s.1 s.2 p[i].a ⟨by omega, by omega⟩ hl1 _ H0).mono ?_
    rintro e w2 ⟨rfl, lv2, RN, KP⟩
    have HR := Lib.hid (And.intro RN (K0.trans KP))
    clear RN KP
    go_wp2
    go_end0
    exact ⟨rfl, _, _, HR.out.1, HR.out.2⟩
  by_cases k2 : p[i].kind = 2
  · have hk : knd p i = 2 := hK.trans k2
    have ha := raise_ab g hi k2
    have hE : stepN blk xs p h i s = rsN (lnA p i) (lnBc p i) h s := by unfold stepN; rw [if_neg (by rw [hk]; decide), if_pos hk]
    rw [hE] at hsm ⊢
    rw [k2] at LX H0 K0 b1 b2 b3 d1
    rw [hA, hBc] at hsm ⊢
    unfold RunOk
    show Calls _ _ _ _ _
    go_enter Tryz.func47, Tryz.ntmps47
    go_wp2_with fail
    refine (raise_any R m c _ cap B _ xs p lv hv s.1 s.2 p[i].a p[i].b h (fltR_ok (by omega) (by omega) (by omega)) hl2 _ H0).mono ?_
    rintro e w2 ⟨rfl, hv2, RN, KP⟩
    exact ⟨rfl, rfl, _, _, RN, K0.trans KP⟩
  by_cases k3 : p[i].kind = 3
  · have hk : knd p i = 3 := hK.trans k3
    have hE : stepN blk xs p h i s = againN h s := by unfold stepN; rw [if_neg (by rw [hk]; decide), if_neg (by rw [hk]; decide), if_pos hk]
    rw [hE] at hsm ⊢
    rw [k3] at LX H0 K0 b1 b2 b3 d1
    have HC := raiseAgain_any R m c _ cap B _ xs p lv hv s h hh hl2 _ H0
    clear hsm hE
    generalize againN h s = T at *
    rcases T with ⟨lT, sT⟩
    unfold RunOk
    show Calls _ _ _ _ _
    go_enter Tryz.func47, Tryz.ntmps47
    go_wp2_with fail
    refine (show Calls _ _ _ _ _ from HC).mono ?_
    rintro e w2 ⟨rfl, lv2, hv2, RN, KP⟩
    have HR := Lib.hid (And.intro RN (K0.trans KP))
    clear RN KP HC
    cases lT
    case nil => (simp only [lfE]; go_wp2; go_end0; exact ⟨rfl, _, _, HR.out.1, HR.out.2⟩)
    all_goals exact ⟨rfl, rfl, _, _, HR.out.1, HR.out.2⟩
  by_cases k4 : p[i].kind = 4
  · have hk : knd p i = 4 := hK.trans k4
    have hE : stepN blk xs p h i s = (.ret (lnA p i), s) := by unfold stepN; rw [if_neg (by rw [hk]; decide), if_neg (by rw [hk]; decide), if_neg (by rw [hk]; decide), if_pos hk]
    rw [hE] at hsm ⊢
    rw [k4] at LX H0 K0 b1 b2 b3 d1
    rw [hA] at hsm ⊢
    unfold RunOk
    show Calls _ _ _ _ _
    go_enter Tryz.func47, Tryz.ntmps47
    go_wp2
    exact ⟨rfl, rfl, _, _, H0, K0⟩
  by_cases k5 : p[i].kind = 5
  · have hk : knd p i = 5 := hK.trans k5
    have hE : stepN blk xs p h i s = (.brk, s) := by unfold stepN; rw [if_neg (by rw [hk]; decide), if_neg (by rw [hk]; decide), if_neg (by rw [hk]; decide), if_neg (by rw [hk]; decide), if_pos hk]
    rw [hE] at hsm ⊢
    rw [k5] at LX H0 K0 b1 b2 b3 d1
    unfold RunOk
    show Calls _ _ _ _ _
    go_enter Tryz.func47, Tryz.ntmps47
    go_wp2
    exact ⟨rfl, rfl, _, _, H0, K0⟩
  by_cases k6 : p[i].kind = 6
  · have hk : knd p i = 6 := hK.trans k6
    have hE : stepN blk xs p h i s = (.cnt, s) := by unfold stepN; rw [if_neg (by rw [hk]; decide), if_neg (by rw [hk]; decide), if_neg (by rw [hk]; decide), if_neg (by rw [hk]; decide), if_neg (by rw [hk]; decide), if_pos hk]
    rw [hE] at hsm ⊢
    rw [k6] at LX H0 K0 b1 b2 b3 d1
    unfold RunOk
    show Calls _ _ _ _ _
    go_enter Tryz.func47, Tryz.ntmps47
    go_wp2
    exact ⟨rfl, rfl, _, _, H0, K0⟩
  by_cases k7 : p[i].kind = 7
  · have hk : knd p i = 7 := hK.trans k7
    have hE : stepN blk xs p h i s = tryN blk xs p i h s := by unfold stepN; rw [if_neg (by rw [hk]; decide), if_neg (by rw [hk]; decide), if_neg (by rw [hk]; decide), if_neg (by rw [hk]; decide), if_neg (by rw [hk]; decide), if_neg (by rw [hk]; decide), if_pos hk]
    rw [hE] at hsm ⊢
    rw [k7] at LX H0 K0 b1 b2 b3 d1
    have HC := runTry_any R m c _ cap B _ xs p blk (Cn p N) HB HFw g i hi (cn_parts hi hk hd) hk h s gd hh hsm lv hv _ H0
    clear hsm hE
    generalize tryN blk xs p i h s = T at *
    rcases T with ⟨lT, sT⟩
    unfold RunOk
    show Calls _ _ _ _ _
    go_enter Tryz.func47, Tryz.ntmps47
    go_wp2_with fail
    refine (show Calls _ _ _ _ _ from HC).mono ?_
    rintro e w2 ⟨rfl, lv2, hv2, RN, KP⟩
    have HR := Lib.hid (And.intro RN (K0.trans KP))
    clear RN KP HC
    cases lT
    case nil => (simp only [lfE]; go_wp2; go_end0; exact ⟨rfl, _, _, HR.out.1, HR.out.2⟩)
    all_goals exact ⟨rfl, rfl, _, _, HR.out.1, HR.out.2⟩
  by_cases k11 : p[i].kind = 11
  · have hk : knd p i = 11 := hK.trans k11
    have hE : stepN blk xs p h i s = withN blk p i h s := by unfold stepN; rw [if_neg (by rw [hk]; decide), if_neg (by rw [hk]; decide), if_neg (by rw [hk]; decide), if_neg (by rw [hk]; decide), if_neg (by rw [hk]; decide), if_neg (by rw [hk]; decide), if_neg (by rw [hk]; decide), if_pos hk]
    rw [hE] at hsm ⊢
    rw [k11] at LX H0 K0 b1 b2 b3 d1
    have HC := runWith_any R m c _ cap B _ xs p blk (Cn p N) HB HFw g i hi ⟨by rw [hk]; rfl, hd⟩ hk h s gd hh hsm lv hv _ H0
    clear hsm hE
    generalize withN blk p i h s = T at *
    rcases T with ⟨lT, sT⟩
    unfold RunOk
    show Calls _ _ _ _ _
    go_enter Tryz.func47, Tryz.ntmps47
    go_wp2_with fail
    refine (show Calls _ _ _ _ _ from HC).mono ?_
    rintro e w2 ⟨rfl, lv2, hv2, RN, KP⟩
    have HR := Lib.hid (And.intro RN (K0.trans KP))
    clear RN KP HC
    cases lT
    case nil => (simp only [lfE]; go_wp2; go_end0; exact ⟨rfl, _, _, HR.out.1, HR.out.2⟩)
    all_goals exact ⟨rfl, rfl, _, _, HR.out.1, HR.out.2⟩
  by_cases k12 : p[i].kind = 12
  · have hk : knd p i = 12 := hK.trans k12
    have hE : stepN blk xs p h i s = loopN blk i h (lnA p i).toNat s := by unfold stepN; rw [if_neg (by rw [hk]; decide), if_neg (by rw [hk]; decide), if_neg (by rw [hk]; decide), if_neg (by rw [hk]; decide), if_neg (by rw [hk]; decide), if_neg (by rw [hk]; decide), if_neg (by rw [hk]; decide), if_neg (by rw [hk]; decide), if_pos hk]
    rw [hE] at hsm ⊢
    rw [k12] at LX H0 K0 b1 b2 b3 d1
    have HC := runLoop_any R m c _ cap B _ xs p blk (Cn p N) HB HFw g i hi ⟨by rw [hk]; rfl, hd⟩ hk h s gd hh hsm lv hv _ H0
    clear hsm hE
    generalize loopN blk i h (lnA p i).toNat s = T at *
    rcases T with ⟨lT, sT⟩
    unfold RunOk
    show Calls _ _ _ _ _
    go_enter Tryz.func47, Tryz.ntmps47
    go_wp2_with fail
    refine (show Calls _ _ _ _ _ from HC).mono ?_
    rintro e w2 ⟨rfl, lv2, hv2, RN, KP⟩
    have HR := Lib.hid (And.intro RN (K0.trans KP))
    clear RN KP HC
    cases lT
    case nil => (simp only [lfE]; go_wp2; go_end0; exact ⟨rfl, _, _, HR.out.1, HR.out.2⟩)
    all_goals exact ⟨rfl, rfl, _, _, HR.out.1, HR.out.2⟩
  have hE : stepN blk xs p h i s = (.nil, s) := by unfold stepN; rw [hK, if_neg k1, if_neg k2, if_neg k3, if_neg k4, if_neg k5, if_neg k6, if_neg k7, if_neg k11, if_neg k12]
  rw [hE]
  unfold RunOk
  show Calls _ _ _ _ _
  have e1 : decide (p[i].kind = 1) = false := decide_eq_false k1
  have e2 : decide (p[i].kind = 2) = false := decide_eq_false k2
  have e3 : decide (p[i].kind = 3) = false := decide_eq_false k3
  have e4 : decide (p[i].kind = 4) = false := decide_eq_false k4
  have e5 : decide (p[i].kind = 5) = false := decide_eq_false k5
  have e6 : decide (p[i].kind = 6) = false := decide_eq_false k6
  have e7 : decide (p[i].kind = 7) = false := decide_eq_false k7
  have e11 : decide (p[i].kind = 11) = false := decide_eq_false k11
  have e12 : decide (p[i].kind = 12) = false := decide_eq_false k12
  go_enter Tryz.func47, Tryz.ntmps47
  go_wp2
  go_end0
  exact ⟨rfl, _, _, H0, K0⟩
end

section
def LnOk (R m c n cap : Nat) (B A : Option Addr) (xs : List Cls) (p : List Lin) (N : Nat) : Prop :=
  ∀ (i : Nat) (h : Int) (s : Rst) (lv hv : Value) (w : World), i < p.length → 6 ≤ dep p i + N → Gd xs s.2 → Hd h s → Sm (lnN xs p N h i s).2 → Rn w R B m c xs A n cap p lv hv s.1 s.2 → RunOk R m c n cap B A xs p 47 #[.pointer (some ⟨R, 0, none⟩), .int .i64 i, .int .i64 h] lv hv w (lnN xs p N h i s)
theorem go_step {ln : Nat → Rst → Lft × Rst} {p : List Lin} {b i k : Nat} {s s2 : Rst} {T : Lft × Rst} (hi : i < b) (h : goB ln p b (k + 1) i s = T) (e : ln i s = (.nil, s2)) : goB ln p b k (bEnd p i) s2 = T := (goB_nil hi k e).symm.trans h
theorem go_sm {xs : List Cls} {p : List Lin} (g : GoodP xs p) {N : Nat} {h : Int} {b i k : Nat} {s : Rst} {T : Lft × Rst} (hb : b ≤ p.length) (hi : i < b) (gd : Gd xs s.2) (hh : Hd h s) (e : goB (lnN xs p N h) p b (k + 1) i s = T) (hs : Sm T.2) : Sm (lnN xs p N h i s).2 := by
  have F := lfw_all g N i h s (by omega) gd hh
  rcases hl : lnN xs p N h i s with ⟨l, s2⟩
  rw [hl] at F
  rcases l with _ | v | f | _ | _
  · have e2 := go_step hi e hl
    have F2 := Fw.goB (xs := xs) (p := p) (ln := lnN xs p N h) (a := 0) (b := b) (h := h) (OK := fun _ => True) (fun _ _ _ _ _ => trivial) (fun i s _ hib _ g1 hh1 => lfw_all g N i h s (by omega) g1 hh1) k (bEnd p i) s2 (Nat.zero_le _) (fun _ => trivial) F.gd (F.hd hh)
    rw [e2] at F2
    exact F2.sm hs
  all_goals
    rw [goB_out hi k (by intro h; cases h) hl] at e
    rw [← e] at hs
    exact hs
theorem at_of (R m c n cap : Nat) (B A : Option Addr) (xs : List Cls) (p : List Lin) (g : GoodP xs p) (N : Nat) (HL : LnOk R m c n cap B A xs p N) (a b : Nat) (hb : b ≤ p.length) (hab : a ≤ p.length) (hd : ∀ i, a ≤ i → i < b → 6 ≤ dep p i + N) (h : Int) (s : Rst) (gd : Gd xs s.2) (hh : Hd h s) (hsm : Sm (goB (lnN xs p N h) p b 25 a s).2) (lv hv : Value) (w : World) (H : Rn w R B m c xs A n cap p lv hv s.1 s.2) :
    AtOk R m c n cap B A xs p 25 #[.pointer (some ⟨R, 0, none⟩), .int .i64 a, .int .i64 b, .int .i64 h] lv hv w (goB (lnN xs p N h) p b 25 a s) := by
  have hp := g.len
  refine attempt_any R m c n cap B A xs p (lnN xs p N h) (fun i s2 => ∃ k, b ≤ k + i ∧ goB (lnN xs p N h) p b k i s2 = goB (lnN xs p N h) p b 25 a s ∧ Gd xs s2.2 ∧ Hd h s2) a b h hb hp hab ?_ ?_ s ⟨25, by omega, rfl, gd, hh⟩ lv hv w H
  · rintro i s2 lv2 hv2 w2 hai hib ⟨k, hk, e, gd2, hh2⟩ RN
    obtain ⟨k, rfl⟩ : ∃ k', k = k' + 1 := ⟨k - 1, by omega⟩
    exact HL i h s2 lv2 hv2 w2 (by omega) (hd i hai hib) gd2 hh2 (go_sm g hb hib gd2 hh2 e hsm) RN
  · rintro i s2 s3 hai hib ⟨k, hk, e, gd2, hh2⟩ hl
    obtain ⟨k, rfl⟩ : ∃ k', k = k' + 1 := ⟨k - 1, by omega⟩
    have F := lfw_all g N i h s2 (by omega) gd2 hh2
    rw [hl] at F
    exact ⟨k, by have := bEnd_gt p i; omega, go_step hib e hl, F.gd, F.hd hh2⟩
theorem bl_of (R m c n cap : Nat) (B A : Option Addr) (xs : List Cls) (p : List Lin) (g : GoodP xs p) (N : Nat) (HL : LnOk R m c n cap B A xs p N) : BlOk R m c n cap B A xs p (blN xs p N) (Cn p N) := by
  intro x h s lv hv w hx hC gd hh hsm H
  have h2 := hC.2
  refine attemptBlock_any R m c n cap B A xs p x h s _ hx lv hv g.len (fun w2 H2 => ?_) w H
  rw [show ((x : Int) + 1) = ((x + 1 : Nat) : Int) by omega]
  exact at_of R m c n cap B A xs p g N HL (x + 1) (bEnd p x) (bEnd_le hx) (by omega) (fun i h3 h4 => by have := bEnd_in (p := p) (i := x) (x := i) (by omega) h4; omega) h s gd hh hsm lv hv w2 H2
theorem ln_all (R m c n cap : Nat) (B A : Option Addr) (xs : List Cls) (p : List Lin) (g : GoodP xs p) : ∀ N, LnOk R m c n cap B A xs p N
  | 0 => fun i h s lv hv w hi hd _ _ _ _ => by have := (g.line i hi).2.1.1; omega
  | N + 1 => fun i h s lv hv w hi hd gd hh hsm H => by
    rw [lnN_succ] at hsm ⊢
    exact runLine_any R m c n cap B A xs p (blN xs p N) N (bl_of R m c n cap B A xs p g N (ln_all R m c n cap B A xs p g N)) (fun x h s hx _ gd hh => bfw_of (lfw_all g N) x h s hx trivial gd hh) g i hi (by omega) h s gd hh ((lfw_all g (N + 1) i h s hi gd hh).sm (by rw [lnN_succ]; exact hsm)) hsm lv hv w H
/-- what a program does, as the program runs it -/
def runI (xs : List Cls) (p : List Lin) : Lft × Rst := goB (lnN xs p 6 (-1)) p p.length 25 0 ([], [])
end

section
/-- what comes last in a try is its last line, if at all -/
theorem prtG_last (p : List Lin) (d : Int) : ∀ m k, prtG p 10 (k :: ptGo p d m k) = if knd p ((k :: ptGo p d m k).getLast (by simp)) = 10 then some ((k :: ptGo p d m k).getLast (by simp)) else none
  | 0, k => rfl
  | m + 1, k => by
    by_cases c : bEnd p k < p.length ∧ dep p (bEnd p k) = d ∧ mayF (knd p k) (knd p (bEnd p k)) = true
    · have e : ptGo p d (m + 1) k = bEnd p k :: ptGo p d m (bEnd p k) := if_pos c
      have hk : knd p k ≠ 10 := fun e2 => by
        have := mayF_iff.1 c.2.2
        omega
      have ih := prtG_last p d m (bEnd p k)
      have key : ∀ (L : List Nat) (hL : L = bEnd p k :: ptGo p d m (bEnd p k)), prtG p 10 (k :: L) = if knd p ((k :: L).getLast (by simp)) = 10 then some ((k :: L).getLast (by simp)) else none := by
        rintro L rfl
        rw [List.getLast_cons (by simp)]
        show (if knd p k = 10 then some k else prtG p 10 (bEnd p k :: ptGo p d m (bEnd p k))) = _
        rw [if_neg hk, ih]
      exact key _ e
    · have e : ptGo p d (m + 1) k = [] := if_neg c
      have key : ∀ (L : List Nat) (hL : L = []), prtG p 10 (k :: L) = if knd p ((k :: L).getLast (by simp)) = 10 then some ((k :: L).getLast (by simp)) else none := by
        rintro L rfl; rfl
      exact key _ e
theorem prt_last (p : List Lin) (i : Nat) : prt p i 10 = if knd p (lstP p i) = 10 then some (lstP p i) else none := by
  have h := prtG_last p (dep p i) p.length i
  have e : (i :: ptGo p (dep p i) p.length i).getLast (by simp) = lstP p i := by
    rw [List.getLast_eq_getElem]; rfl
  rw [e] at h
  exact h
theorem fin_last (blk : Bls) (p : List Lin) (i : Nat) (h : Int) (r : Lft × Rst) : finN blk p i h r = if knd p (lstP p i) = 10 then lasN blk (lstP p i) h r else r := by
  by_cases c : knd p (lstP p i) = 10
  · rw [if_pos c]; exact fin_some (by rw [prt_last, if_pos c])
  · rw [if_neg c]; exact fin_none (by rw [prt_last, if_neg c])
section
variable {ln : Nat → Rst → Lft × Rst} {p : List Lin} {b : Nat}
theorem goB_fuel : ∀ (m n i : Nat) (s : Rst), b ≤ m + i → b ≤ n + i → goB ln p b m i s = goB ln p b n i s
  | 0, n, i, s, h1, h2 => by rw [goB_end (by omega), goB_end (by omega)]
  | m + 1, 0, i, s, h1, h2 => by rw [goB_end (by omega), goB_end (by omega)]
  | m + 1, n + 1, i, s, h1, h2 => by
    by_cases hib : i < b
    · rcases hl : ln i s with ⟨l, s2⟩
      rcases l with _ | v | f | _ | _
      · rw [goB_nil hib m hl, goB_nil hib n hl]
        have := bEnd_gt p i
        exact goB_fuel m n (bEnd p i) s2 (by omega) (by omega)
      all_goals rw [goB_out hib m (by intro h; cases h) hl, goB_out hib n (by intro h; cases h) hl]
    · rw [goB_end hib, goB_end hib]
/-- lines one after another, from one on -/
def gB (ln : Nat → Rst → Lft × Rst) (p : List Lin) (b i : Nat) (s : Rst) : Lft × Rst := goB ln p b b i s
theorem gB_of (i : Nat) (s : Rst) (k : Nat) (h : b ≤ k + i) : goB ln p b k i s = gB ln p b i s := goB_fuel k b i s h (by omega)
theorem gB_end {i : Nat} {s : Rst} (h : ¬ i < b) : gB ln p b i s = (.nil, s) := goB_end h b s
theorem gB_nil {i : Nat} {s s2 : Rst} (h : i < b) (e : ln i s = (.nil, s2)) : gB ln p b i s = gB ln p b (bEnd p i) s2 := by
  have := bEnd_gt p i
  rw [← gB_of i s (b + 1) (by omega), goB_nil h b e]
  exact gB_of _ _ b (by omega)
theorem gB_out {i : Nat} {s s2 : Rst} {l : Lft} (h : i < b) (hl : l ≠ .nil) (e : ln i s = (l, s2)) : gB ln p b i s = (l, s2) := by
  rw [← gB_of i s (b + 1) (by omega), goB_out h b hl e]
/-- the other lines of a try do nothing when they come up -/
theorem gB_parts {a : Nat} {D : Int} (hB : Blk p a b D) {i : Nat} (h1 : a ≤ i) (h2 : i < b) (hd : dep p i = D) (h7 : knd p i = 7) (HF : ∀ x s, fol (knd p x) = true → ln x s = (.nil, s)) :
    ∀ (m n : Nat) (hn : n < (parts p i).length), 1 ≤ n → (parts p i).length ≤ m + n → ∀ s, gB ln p b (parts p i)[n] s = gB ln p b (nx p i) s
  | 0, n, hn, _, h, s => by omega
  | m + 1, n, hn, h1n, h, s => by
    have hP := hB.part h1 h2 hd n hn
    have hmem : (parts p i)[n] ∈ parts p i := List.getElem_mem hn
    have hne : (parts p i)[n] ≠ i := by
      have := (List.pairwise_iff_getElem.1 (partsF_asc p i)) 0 n (by omega) hn (by omega)
      have e0 : (parts p i)[0]'(by omega) = i := rfl
      omega
    have hf : fol (knd p (parts p i)[n]) = true := by
      rcases try_step (show IsTry p i (parts p i)[n] from ⟨h7, hmem⟩) with ⟨_, h3⟩ | ⟨h3, _⟩
      · exact absurd h3 hne
      · exact h3
    rw [gB_nil hP.2.1 (HF _ s hf)]
    by_cases e : n + 1 < (parts p i).length
    · rw [← parts_link e]
      exact gB_parts hB h1 h2 hd h7 HF m (n + 1) e (by omega) (by omega) s
    · rw [pos_end h7 (n := n) (by omega)]
/-- a statement, and on behind it -/
theorem gB_step {a : Nat} {D : Int} (hB : Blk p a b D) {i : Nat} (h1 : a ≤ i) (h2 : i < b) (hd : dep p i = D) (HF : ∀ x s, fol (knd p x) = true → ln x s = (.nil, s)) {s s2 : Rst} (e : ln i s = (.nil, s2)) :
    gB ln p b i s = gB ln p b (nx p i) s2 := by
  rw [gB_nil h2 e]
  by_cases h7 : knd p i = 7
  · by_cases hl : 1 < (parts p i).length
    · have hlk : (parts p i)[1] = bEnd p (parts p i)[0] := parts_link (n := 0) hl
      have e0 : (parts p i)[0]'(by omega) = i := rfl
      rw [e0] at hlk
      rw [← hlk]
      exact gB_parts hB h1 h2 hd h7 HF (parts p i).length 1 hl (Nat.le_refl _) (by omega) s2
    · have := pos_end h7 (n := 0) (by have := parts_posF p i; omega)
      have e0 : (parts p i)[0]'(by have := parts_posF p i; omega) = i := rfl
      rw [e0] at this
      rw [this]
  · have : nx p i = bEnd p i := by unfold nx; rw [if_neg h7]
    rw [this]
end
theorem lnN_fol (xs : List Cls) (p : List Lin) (N : Nat) (h : Int) (x : Nat) (s : Rst) (hf : fol (knd p x) = true) : lnN xs p N h x s = (.nil, s) := by
  have := fol_iff.1 hf
  cases N with
  | zero => rfl
  | succ N =>
    rw [lnN_succ]
    unfold stepN
    rw [if_neg (by omega), if_neg (by omega), if_neg (by omega), if_neg (by omega), if_neg (by omega), if_neg (by omega), if_neg (by omega), if_neg (by omega), if_neg (by omega)]
end
end Go.Proofs.YtgjlmfjmjglplaaGreat
