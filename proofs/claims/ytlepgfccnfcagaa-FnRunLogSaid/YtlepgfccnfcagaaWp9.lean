/- one text of RnH, RnI, AsB, SC, PR, RI, RA, CcFault, HpF -/
import Derived.Test.YtlepgfccnfcagaaWp8
import Derived.Test.YtlepgfccnfcagaaWp7
import Derived.Test.YtlepgfccnfcagaaWp1
import Derived.Test.YtlepgfccnfcagaaWp2
import Derived.Test.YtlepgfccnfcagaaWp5
import Derived.Test.YtlepgfccnfcagaaWp3
import Derived.Test.YtlepgfccnfcagaaRows
import Derived.Lib.SlicesCompact
import Derived.Deep.RegionHeld3
import Derived.Lib.AppendZerosOnto
import Derived.Lib.SliceRun
namespace Go.Proofs.Ytlepgfccnfcagaa
open Go.RowKit
set_option linter.unusedVariables false
section
theorem log_a {xs : List Cls} {p : List Lin} (g : GoodP xs p) {i : Nat} (hi : i < p.length) (h : p[i].kind = 1 ∨ p[i].kind = 4) : 0 ≤ p[i].a ∧ p[i].a ≤ 99 := by
  have h1 := (g.line i hi).1
  unfold numS at h1
  rw [if_pos h, Bool.and_eq_true] at h1
  exact rng_iff2 h1.1
theorem raise_ab {xs : List Cls} {p : List Lin} (g : GoodP xs p) {i : Nat} (hi : i < p.length) (h : p[i].kind = 2) : (0 ≤ p[i].a ∧ p[i].a < xs.length) ∧ (0 ≤ p[i].b ∧ p[i].b ≤ 99) := by
  have h1 := (g.line i hi).1
  unfold numS at h1
  rw [h, if_neg (by decide), if_pos rfl, Bool.and_eq_true] at h1
  exact ⟨hasK_iff.1 h1.1, rng_iff2 h1.2⟩
/-- where lines have a block that is run -/
def Cn (p : List Lin) (N : Nat) (x : Nat) : Prop := opn (knd p x) = true ∧ 5 ≤ dep p x + N
theorem cn_parts {p : List Lin} {N i : Nat} (hi : i < p.length) (h7 : knd p i = 7) (hd : 5 ≤ dep p i + N) : ∀ x ∈ parts p i, Cn p N x := fun x hx => by
  refine ⟨?_, by rw [(partsF hi hx).2.2]; exact hd⟩
  rcases try_step (show IsTry p i x from ⟨h7, hx⟩) with ⟨h, _⟩ | ⟨h, _⟩
  · rw [h]; rfl
  · have := fol_iff.1 h
    unfold opn rng
    simp; omega
set_option maxHeartbeats 4000000 in
set_option maxRecDepth 100000 in
theorem runLine_any (R m c n cap : Nat) (B A : Option Addr) (xs : List Cls) (p : List Lin) (blk : Bls) (N : Nat) (HB : BlOk R m c n cap B A xs p blk (Cn p N)) (HFw : BFw xs p blk (Cn p N)) (g : GoodP xs p) (i : Nat) (hi : i < p.length) (hd : 5 ≤ dep p i + N) (h : Int) (s : Rst) (gd : Gd xs s.2) (hh : Hd h s) (hsm0 : Sm s) (hsm : Sm (stepN blk xs p h i s).2) (lv hv : Value) (w : World) (H : Rn w R B m c xs A n cap p lv hv s.1 s.2) :
    RunOk R m c n cap B A xs p 59 #[.pointer (some ⟨R, 0, none⟩), .int .i64 i, .int .i64 h] lv hv w (stepN blk xs p h i s) := by
  have hA : lnA p i = p[i].a := lnA_at hi
  have hBc : lnBc p i = p[i].b := lnBc_at hi
  have hK : knd p i = p[i].kind := knd_at hi
  have hh0 := hh.1
  have hh1 := hh.2
  have hx8 := (good_of g.tree).hi
  have c1 := H.c1
  have hz := H.z
  have hl1 := hsm0.1
  have hl2 := hsm0.2
  obtain rfl := H.T.len
  obtain ⟨b5, off5, rfl, hb5, d0, d1, d2, d3, -⟩ := H.T.lin_at hi
  have hi0 : (0 : Int) ≤ (i : Int) := by omega
  have hin : (i : Int) < (p.length : Int) := by omega
  have LX := Le.new w (.cells #[.int .i64 p[i].depth, .int .i64 p[i].kind, .int .i64 p[i].a, .int .i64 p[i].b] 42)
  have b1 : (w.alloc (.cells #[.int .i64 p[i].depth, .int .i64 p[i].kind, .int .i64 p[i].a, .int .i64 p[i].b] 42)).cell? ⟨w.heap.size, 1, none⟩ = some (.int .i64 p[i].kind) := by rw [World.cell?_alloc_at _ _ _ _ rfl]; rfl
  have b2 : (w.alloc (.cells #[.int .i64 p[i].depth, .int .i64 p[i].kind, .int .i64 p[i].a, .int .i64 p[i].b] 42)).cell? ⟨w.heap.size, 2, none⟩ = some (.int .i64 p[i].a) := by rw [World.cell?_alloc_at _ _ _ _ rfl]; rfl
  have b3 : (w.alloc (.cells #[.int .i64 p[i].depth, .int .i64 p[i].kind, .int .i64 p[i].a, .int .i64 p[i].b] 42)).cell? ⟨w.heap.size, 3, none⟩ = some (.int .i64 p[i].b) := by rw [World.cell?_alloc_at _ _ _ _ rfl]; rfl
  have H0 := H.le LX
  have K0 := Kp.of_le R lv hv LX
  by_cases k1 : p[i].kind = 1
  · have hk : knd p i = 1 := hK.trans k1
    have ha := log_a g hi (.inl k1)
    have hE : stepN blk xs p h i s = (.nil, (s.1 ++ [lnA p i], s.2)) := by unfold stepN; rw [if_pos hk]
    rw [hE] at hsm ⊢
    rw [k1] at LX H0 K0 b1 b2 b3 d1
    rw [hA] at hsm ⊢
    unfold RunOk
    show Calls _ _ _ _ _
    go_enter Try.func59, Try.ntmps59
    go_wp2_with fail
    refine (tell_any R m c _ cap B _ xs p lv hv s.1 s.2 p[i].a ⟨by omega, by omega⟩ hl1 _ H0).mono ?_
    rintro e w2 ⟨rfl, lv2, RN, KP⟩
    have HR := Lib.hid (And.intro RN (K0.trans KP))
    clear RN KP
    go_wp2
    go_end0
    exact ⟨rfl, _, _, HR.out.1, HR.out.2⟩
  by_cases k2 : p[i].kind = 2
  · have hk : knd p i = 2 := hK.trans k2
    have ha := raise_ab g hi k2
    have hE : stepN blk xs p h i s = rsN (lnA p i) (lnBc p i) h s := by unfold stepN; rw [if_neg (by rw [hk]; decide), if_pos hk]
    rw [hE] at hsm ⊢
    rw [k2] at LX H0 K0 b1 b2 b3 d1
    rw [hA, hBc] at hsm ⊢
    unfold RunOk
    show Calls _ _ _ _ _
    go_enter Try.func59, Try.ntmps59
    go_wp2_with fail
    refine (raise_any R m c _ cap B _ xs p lv hv s.1 s.2 p[i].a p[i].b h (fltR_ok (by omega) (by omega) (by omega)) hl2 _ H0).mono ?_
    rintro e w2 ⟨rfl, hv2, RN, KP⟩
    exact ⟨rfl, rfl, _, _, RN, K0.trans KP⟩
  by_cases k3 : p[i].kind = 3
  · have hk : knd p i = 3 := hK.trans k3
    have hE : stepN blk xs p h i s = againN h s := by unfold stepN; rw [if_neg (by rw [hk]; decide), if_neg (by rw [hk]; decide), if_pos hk]
    rw [hE] at hsm ⊢
    rw [k3] at LX H0 K0 b1 b2 b3 d1
    have HC := raiseAgain_any R m c _ cap B _ xs p lv hv s h hh hl2 _ H0
    clear hsm hE
    generalize againN h s = T at *
    rcases T with ⟨lT, sT⟩
    unfold RunOk
    show Calls _ _ _ _ _
    go_enter Try.func59, Try.ntmps59
    go_wp2_with fail
    refine (show Calls _ _ _ _ _ from HC).mono ?_
    rintro e w2 ⟨rfl, lv2, hv2, RN, KP⟩
    have HR := Lib.hid (And.intro RN (K0.trans KP))
    clear RN KP HC
    cases lT
    case nil => (simp only [lfE]; go_wp2; go_end0; exact ⟨rfl, _, _, HR.out.1, HR.out.2⟩)
    all_goals exact ⟨rfl, rfl, _, _, HR.out.1, HR.out.2⟩
  by_cases k4 : p[i].kind = 4
  · have hk : knd p i = 4 := hK.trans k4
    have hE : stepN blk xs p h i s = (.ret (lnA p i), s) := by unfold stepN; rw [if_neg (by rw [hk]; decide), if_neg (by rw [hk]; decide), if_neg (by rw [hk]; decide), if_pos hk]
    rw [hE] at hsm ⊢
    rw [k4] at LX H0 K0 b1 b2 b3 d1
    rw [hA] at hsm ⊢
    unfold RunOk
    show Calls _ _ _ _ _
    go_enter Try.func59, Try.ntmps59
    go_wp2
    exact ⟨rfl, rfl, _, _, H0, K0⟩
  by_cases k5 : p[i].kind = 5
  · have hk : knd p i = 5 := hK.trans k5
    have hE : stepN blk xs p h i s = (.brk, s) := by unfold stepN; rw [if_neg (by rw [hk]; decide), if_neg (by rw [hk]; decide), if_neg (by rw [hk]; decide), if_neg (by rw [hk]; decide), if_pos hk]
    rw [hE] at hsm ⊢
    rw [k5] at LX H0 K0 b1 b2 b3 d1
    unfold RunOk
    show Calls _ _ _ _ _
    go_enter Try.func59, Try.ntmps59
    go_wp2
    exact ⟨rfl, rfl, _, _, H0, K0⟩
  by_cases k6 : p[i].kind = 6
  · have hk : knd p i = 6 := hK.trans k6
    have hE : stepN blk xs p h i s = (.cnt, s) := by unfold stepN; rw [if_neg (by rw [hk]; decide), if_neg (by rw [hk]; decide), if_neg (by rw [hk]; decide), if_neg (by rw [hk]; decide), if_neg (by rw [hk]; decide), if_pos hk]
    rw [hE] at hsm ⊢
    rw [k6] at LX H0 K0 b1 b2 b3 d1
    unfold RunOk
    show Calls _ _ _ _ _
    go_enter Try.func59, Try.ntmps59
    go_wp2
    exact ⟨rfl, rfl, _, _, H0, K0⟩
  by_cases k7 : p[i].kind = 7
  · have hk : knd p i = 7 := hK.trans k7
    have hE : stepN blk xs p h i s = tryN blk xs p i h s := by unfold stepN; rw [if_neg (by rw [hk]; decide), if_neg (by rw [hk]; decide), if_neg (by rw [hk]; decide), if_neg (by rw [hk]; decide), if_neg (by rw [hk]; decide), if_neg (by rw [hk]; decide), if_pos hk]
    rw [hE] at hsm ⊢
    rw [k7] at LX H0 K0 b1 b2 b3 d1
    have HC := runTry_any R m c _ cap B _ xs p blk (Cn p N) HB HFw g i hi (cn_parts hi hk hd) hk h s gd hh hsm lv hv _ H0
    clear hsm hE
    generalize tryN blk xs p i h s = T at *
    rcases T with ⟨lT, sT⟩
    unfold RunOk
    show Calls _ _ _ _ _
    go_enter Try.func59, Try.ntmps59
    go_wp2_with fail
    refine (show Calls _ _ _ _ _ from HC).mono ?_
    rintro e w2 ⟨rfl, lv2, hv2, RN, KP⟩
    have HR := Lib.hid (And.intro RN (K0.trans KP))
    clear RN KP HC
    cases lT
    case nil => (simp only [lfE]; go_wp2; go_end0; exact ⟨rfl, _, _, HR.out.1, HR.out.2⟩)
    all_goals exact ⟨rfl, rfl, _, _, HR.out.1, HR.out.2⟩
  by_cases k11 : p[i].kind = 11
  · have hk : knd p i = 11 := hK.trans k11
    have hE : stepN blk xs p h i s = withN blk p i h s := by unfold stepN; rw [if_neg (by rw [hk]; decide), if_neg (by rw [hk]; decide), if_neg (by rw [hk]; decide), if_neg (by rw [hk]; decide), if_neg (by rw [hk]; decide), if_neg (by rw [hk]; decide), if_neg (by rw [hk]; decide), if_pos hk]
    rw [hE] at hsm ⊢
    rw [k11] at LX H0 K0 b1 b2 b3 d1
    have HC := runWith_any R m c _ cap B _ xs p blk (Cn p N) HB HFw g i hi ⟨by rw [hk]; rfl, hd⟩ hk h s gd hh hsm lv hv _ H0
    clear hsm hE
    generalize withN blk p i h s = T at *
    rcases T with ⟨lT, sT⟩
    unfold RunOk
    show Calls _ _ _ _ _
    go_enter Try.func59, Try.ntmps59
    go_wp2_with fail
    refine (show Calls _ _ _ _ _ from HC).mono ?_
    rintro e w2 ⟨rfl, lv2, hv2, RN, KP⟩
    have HR := Lib.hid (And.intro RN (K0.trans KP))
    clear RN KP HC
    cases lT
    case nil => (simp only [lfE]; go_wp2; go_end0; exact ⟨rfl, _, _, HR.out.1, HR.out.2⟩)
    all_goals exact ⟨rfl, rfl, _, _, HR.out.1, HR.out.2⟩
  by_cases k12 : p[i].kind = 12
  · have hk : knd p i = 12 := hK.trans k12
    have hE : stepN blk xs p h i s = loopN blk i h (lnA p i).toNat s := by unfold stepN; rw [if_neg (by rw [hk]; decide), if_neg (by rw [hk]; decide), if_neg (by rw [hk]; decide), if_neg (by rw [hk]; decide), if_neg (by rw [hk]; decide), if_neg (by rw [hk]; decide), if_neg (by rw [hk]; decide), if_neg (by rw [hk]; decide), if_pos hk]
    rw [hE] at hsm ⊢
    rw [k12] at LX H0 K0 b1 b2 b3 d1
    have HC := runLoop_any R m c _ cap B _ xs p blk (Cn p N) HB HFw g i hi ⟨by rw [hk]; rfl, hd⟩ hk h s gd hh hsm lv hv _ H0
    clear hsm hE
    generalize loopN blk i h (lnA p i).toNat s = T at *
    rcases T with ⟨lT, sT⟩
    unfold RunOk
    show Calls _ _ _ _ _
    go_enter Try.func59, Try.ntmps59
    go_wp2_with fail
    refine (show Calls _ _ _ _ _ from HC).mono ?_
    rintro e w2 ⟨rfl, lv2, hv2, RN, KP⟩
    have HR := Lib.hid (And.intro RN (K0.trans KP))
    clear RN KP HC
    cases lT
    case nil => (simp only [lfE]; go_wp2; go_end0; exact ⟨rfl, _, _, HR.out.1, HR.out.2⟩)
    all_goals exact ⟨rfl, rfl, _, _, HR.out.1, HR.out.2⟩
  have hE : stepN blk xs p h i s = (.nil, s) := by unfold stepN; rw [hK, if_neg k1, if_neg k2, if_neg k3, if_neg k4, if_neg k5, if_neg k6, if_neg k7, if_neg k11, if_neg k12]
  rw [hE]
  unfold RunOk
  show Calls _ _ _ _ _
  have e1 : decide (p[i].kind = 1) = false := decide_eq_false k1
  have e2 : decide (p[i].kind = 2) = false := decide_eq_false k2
  have e3 : decide (p[i].kind = 3) = false := decide_eq_false k3
  have e4 : decide (p[i].kind = 4) = false := decide_eq_false k4
  have e5 : decide (p[i].kind = 5) = false := decide_eq_false k5
  have e6 : decide (p[i].kind = 6) = false := decide_eq_false k6
  have e7 : decide (p[i].kind = 7) = false := decide_eq_false k7
  have e11 : decide (p[i].kind = 11) = false := decide_eq_false k11
  have e12 : decide (p[i].kind = 12) = false := decide_eq_false k12
  go_enter Try.func59, Try.ntmps59
  go_wp2
  go_end0
  exact ⟨rfl, _, _, H0, K0⟩
end

section
def LnOk (R m c n cap : Nat) (B A : Option Addr) (xs : List Cls) (p : List Lin) (N : Nat) : Prop :=
  ∀ (i : Nat) (h : Int) (s : Rst) (lv hv : Value) (w : World), i < p.length → 6 ≤ dep p i + N → Gd xs s.2 → Hd h s → Sm (lnN xs p N h i s).2 → Rn w R B m c xs A n cap p lv hv s.1 s.2 → RunOk R m c n cap B A xs p 59 #[.pointer (some ⟨R, 0, none⟩), .int .i64 i, .int .i64 h] lv hv w (lnN xs p N h i s)
theorem go_step {ln : Nat → Rst → Lft × Rst} {p : List Lin} {b i k : Nat} {s s2 : Rst} {T : Lft × Rst} (hi : i < b) (h : goB ln p b (k + 1) i s = T) (e : ln i s = (.nil, s2)) : goB ln p b k (bEnd p i) s2 = T := (goB_nil hi k e).symm.trans h
theorem go_sm {xs : List Cls} {p : List Lin} (g : GoodP xs p) {N : Nat} {h : Int} {b i k : Nat} {s : Rst} {T : Lft × Rst} (hb : b ≤ p.length) (hi : i < b) (gd : Gd xs s.2) (hh : Hd h s) (e : goB (lnN xs p N h) p b (k + 1) i s = T) (hs : Sm T.2) : Sm (lnN xs p N h i s).2 := by
  have F := lfw_all g N i h s (by omega) gd hh
  rcases hl : lnN xs p N h i s with ⟨l, s2⟩
  rw [hl] at F
  rcases l with _ | v | f | _ | _
  · have e2 := go_step hi e hl
    have F2 := Fw.goB (xs := xs) (p := p) (ln := lnN xs p N h) (a := 0) (b := b) (h := h) (OK := fun _ => True) (fun _ _ _ _ _ => trivial) (fun i s _ hib _ g1 hh1 => lfw_all g N i h s (by omega) g1 hh1) k (bEnd p i) s2 (Nat.zero_le _) (fun _ => trivial) F.gd (F.hd hh)
    rw [e2] at F2
    exact F2.sm hs
  all_goals
    rw [goB_out hi k (by intro h; cases h) hl] at e
    rw [← e] at hs
    exact hs
theorem at_of (R m c n cap : Nat) (B A : Option Addr) (xs : List Cls) (p : List Lin) (g : GoodP xs p) (N : Nat) (HL : LnOk R m c n cap B A xs p N) (a b : Nat) (hb : b ≤ p.length) (hab : a ≤ p.length) (hd : ∀ i, a ≤ i → i < b → 6 ≤ dep p i + N) (h : Int) (s : Rst) (gd : Gd xs s.2) (hh : Hd h s) (hsm : Sm (goB (lnN xs p N h) p b 25 a s).2) (lv hv : Value) (w : World) (H : Rn w R B m c xs A n cap p lv hv s.1 s.2) :
    AtOk R m c n cap B A xs p 36 #[.pointer (some ⟨R, 0, none⟩), .int .i64 a, .int .i64 b, .int .i64 h] lv hv w (goB (lnN xs p N h) p b 25 a s) := by
  have hp := g.len
  refine attempt_any R m c n cap B A xs p (lnN xs p N h) (fun i s2 => ∃ k, b ≤ k + i ∧ goB (lnN xs p N h) p b k i s2 = goB (lnN xs p N h) p b 25 a s ∧ Gd xs s2.2 ∧ Hd h s2) a b h hb hp hab ?_ ?_ s ⟨25, by omega, rfl, gd, hh⟩ lv hv w H
  · rintro i s2 lv2 hv2 w2 hai hib ⟨k, hk, e, gd2, hh2⟩ RN
    obtain ⟨k, rfl⟩ : ∃ k', k = k' + 1 := ⟨k - 1, by omega⟩
    exact HL i h s2 lv2 hv2 w2 (by omega) (hd i hai hib) gd2 hh2 (go_sm g hb hib gd2 hh2 e hsm) RN
  · rintro i s2 s3 hai hib ⟨k, hk, e, gd2, hh2⟩ hl
    obtain ⟨k, rfl⟩ : ∃ k', k = k' + 1 := ⟨k - 1, by omega⟩
    have F := lfw_all g N i h s2 (by omega) gd2 hh2
    rw [hl] at F
    exact ⟨k, by have := bEnd_gt p i; omega, go_step hib e hl, F.gd, F.hd hh2⟩
theorem bl_of (R m c n cap : Nat) (B A : Option Addr) (xs : List Cls) (p : List Lin) (g : GoodP xs p) (N : Nat) (HL : LnOk R m c n cap B A xs p N) : BlOk R m c n cap B A xs p (blN xs p N) (Cn p N) := by
  intro x h s lv hv w hx hC gd hh hsm H
  have h2 := hC.2
  refine attemptBlock_any R m c n cap B A xs p x h s _ hx lv hv g.len (fun w2 H2 => ?_) w H
  rw [show ((x : Int) + 1) = ((x + 1 : Nat) : Int) by omega]
  exact at_of R m c n cap B A xs p g N HL (x + 1) (bEnd p x) (bEnd_le hx) (by omega) (fun i h3 h4 => by have := bEnd_in (p := p) (i := x) (x := i) (by omega) h4; omega) h s gd hh hsm lv hv w2 H2
theorem ln_all (R m c n cap : Nat) (B A : Option Addr) (xs : List Cls) (p : List Lin) (g : GoodP xs p) : ∀ N, LnOk R m c n cap B A xs p N
  | 0 => fun i h s lv hv w hi hd _ _ _ _ => by have := (g.line i hi).2.1.1; omega
  | N + 1 => fun i h s lv hv w hi hd gd hh hsm H => by
    rw [lnN_succ] at hsm ⊢
    exact runLine_any R m c n cap B A xs p (blN xs p N) N (bl_of R m c n cap B A xs p g N (ln_all R m c n cap B A xs p g N)) (fun x h s hx _ gd hh => bfw_of (lfw_all g N) x h s hx trivial gd hh) g i hi (by omega) h s gd hh ((lfw_all g (N + 1) i h s hi gd hh).sm (by rw [lnN_succ]; exact hsm)) hsm lv hv w H
/-- what a program does, as the program runs it -/
def runI (xs : List Cls) (p : List Lin) : Lft × Rst := goB (lnN xs p 6 (-1)) p p.length 25 0 ([], [])
end

section
theorem tw_mem {d : Int} : ∀ (t : List Lin) (y : Lin), y ∈ t.takeWhile (fun y => decide (d < y.depth)) → d < y.depth
  | [], y, h => by simp at h
  | z :: t, y, h => by
    rw [List.takeWhile_cons] at h
    split at h
    · rename_i hz
      rcases List.mem_cons.1 h with rfl | h
      · exact of_decide_eq_true hz
      · exact tw_mem t y h
    · simp at h
def hgt : Fq → Nat
  | .nil => 0
  | .nd _ _ _ .nil r => hgt r
  | .nd _ _ _ (.nd k a b c s) r => max (hgt (.nd k a b c s) + 1) (hgt r)
/-- where the items of some lines lie -/
theorem dep_mid {pre post : List Lin} {x : Lin} : dep (pre ++ x :: post) pre.length = x.depth := by
  rw [dep_at (by simp)]; simp
theorem knd_mid {pre post : List Lin} {x : Lin} : knd (pre ++ x :: post) pre.length = x.kind := by
  rw [knd_at (by simp)]; simp
theorem lnA_mid {pre post : List Lin} {x : Lin} : lnA (pre ++ x :: post) pre.length = x.a := by
  rw [lnA_at (by simp)]; simp
theorem lnBc_mid {pre post : List Lin} {x : Lin} : lnBc (pre ++ x :: post) pre.length = x.b := by
  unfold lnBc; simp
theorem flat_dep : ∀ (F : Fq) (d : Int), ∀ x ∈ flatP d F, d ≤ x.depth
  | .nil, d, x, h => by simp [flatP] at h
  | .nd k a b c r, d, x, h => by
    rw [flatP] at h
    rcases List.mem_cons.1 h with rfl | h
    · exact Int.le_refl _
    rcases List.mem_append.1 h with h | h
    · have := flat_dep c (d + 1) x h; omega
    · exact flat_dep r d x h
/-- what comes behind is not deeper -/
def Endq (post : List Lin) (d : Int) : Prop := ∀ z t, post = z :: t → z.depth < d
theorem bGo_run (p : List Lin) (d : Int) : ∀ (m k e : Nat), k ≤ e → e ≤ k + m → (∀ x, k ≤ x → x < e → d < dep p x) → (e < k + m → dep p e ≤ d) → bGo p d m k = e
  | 0, k, e, h1, h2, _, _ => by unfold bGo; omega
  | m + 1, k, e, h1, h2, h3, h4 => by
    unfold bGo
    by_cases h : k < e
    · rw [if_pos (h3 k (Nat.le_refl _) h)]
      exact bGo_run p d m (k + 1) e (by omega) (by omega) (fun x a b => h3 x (by omega) b) (fun a => h4 (by omega))
    · obtain rfl : k = e := by omega
      rw [if_neg (by have := h4 (by omega); omega)]
theorem bEnd_flat {pre post : List Lin} {d k a b : Int} {c : Fq} (he : ∀ z t, post = z :: t → z.depth ≤ d) : bEnd (pre ++ ⟨d, k, a, b⟩ :: (flatP (d + 1) c ++ post)) pre.length = pre.length + 1 + (flatP (d + 1) c).length := by
  unfold bEnd
  rw [dep_mid]
  have hl : (pre ++ (⟨d, k, a, b⟩ : Lin) :: (flatP (d + 1) c ++ post)).length = pre.length + 1 + (flatP (d + 1) c).length + post.length := by simp; omega
  refine bGo_run _ _ _ _ _ (by omega) (by rw [hl]; omega) (fun x h1 h2 => ?_) (fun h => ?_)
  · obtain ⟨j, rfl⟩ : ∃ j, x = pre.length + (j + 1) := ⟨x - pre.length - 1, by omega⟩
    have hj : j < (flatP (d + 1) c).length := by omega
    rw [dep_at (by rw [hl]; omega), List.getElem_append_right (by omega)]
    simp only [Nat.add_sub_cancel_left, List.getElem_cons_succ]
    rw [List.getElem_append_left hj]
    have := flat_dep c (d + 1) _ (List.getElem_mem hj)
    omega
  · rw [hl] at h
    cases post with
    | nil => simp at h
    | cons z t =>
      have hz := he z t rfl
      rw [dep_at (by rw [hl]; simp), List.getElem_append_right (by omega)]
      have e : pre.length + 1 + (flatP (d + 1) c).length - pre.length = (flatP (d + 1) c).length + 1 := by omega
      simp only [e, List.getElem_cons_succ]
      rw [List.getElem_append_right (Nat.le_refl _)]
      simp only [Nat.sub_self, List.getElem_cons_zero]; exact hz
theorem dep_end {pre L post : List Lin} {d : Int} (he : Endq post d) (h : pre.length + L.length < (pre ++ (L ++ post)).length) : dep (pre ++ (L ++ post)) (pre.length + L.length) < d := by
  cases post with
  | nil => simp at h
  | cons z t =>
    rw [dep_at h, List.getElem_append_right (by omega)]
    have e : pre.length + L.length - pre.length = L.length := by omega
    simp only [e]
    rw [List.getElem_append_right (Nat.le_refl _)]
    simp only [Nat.sub_self, List.getElem_cons_zero]
    exact he z t rfl
theorem flat_head {F : Fq} {d : Int} {post : List Lin} (he : Endq post d) : ∀ z t, flatP d F ++ post = z :: t → z.depth ≤ d := fun z t h => by
  cases F with
  | nil => rw [flatP, List.nil_append] at h; have := he z t h; omega
  | nd k a b c r =>
    rw [flatP, List.cons_append] at h
    injection h with h1 h2
    rw [← h1]; exact Int.le_refl _
theorem sit_of (xs : List Cls) : ∀ (F : Fq) (N : Nat) (d : Int) (pre post : List Lin), Endq post d → (pre ++ (flatP d F ++ post)).length ≤ 25 → hgt F ≤ N → Sit (pre ++ (flatP d F ++ post)) (blN xs (pre ++ (flatP d F ++ post)) N) d pre.length (sem xs F) (pre.length + (flatP d F).length)
  | .nil, N, d, pre, post, _, _, _ => by show pre.length = pre.length + (flatP d .nil).length; simp [flatP]
  | .nd k a b c r, N, d, pre, post, he, hl, hN => by
    have e0 : pre ++ (flatP d (.nd k a b c r) ++ post) = pre ++ (⟨d, k, a, b⟩ : Lin) :: (flatP (d + 1) c ++ (flatP d r ++ post)) := by rw [flatP, List.cons_append, List.append_assoc]
    have hb := bEnd_flat (pre := pre) (d := d) (k := k) (a := a) (b := b) (c := c) (post := flatP d r ++ post) (flat_head he)
    have e1 : pre ++ (⟨d, k, a, b⟩ : Lin) :: (flatP (d + 1) c ++ (flatP d r ++ post)) = (pre ++ [⟨d, k, a, b⟩]) ++ (flatP (d + 1) c ++ (flatP d r ++ post)) := by simp
    have e2 : pre ++ (⟨d, k, a, b⟩ : Lin) :: (flatP (d + 1) c ++ (flatP d r ++ post)) = (pre ++ (⟨d, k, a, b⟩ : Lin) :: flatP (d + 1) c) ++ (flatP d r ++ post) := by simp
    have lr : (flatP d (.nd k a b c r)).length = 1 + (flatP (d + 1) c).length + (flatP d r).length := by simp [flatP]; omega
    have Hr := sit_of xs r N d (pre ++ (⟨d, k, a, b⟩ : Lin) :: flatP (d + 1) c) post he (by rw [← e2, ← e0]; exact hl) (by
      cases c with
      | nil => exact hN
      | nd _ _ _ _ _ => rw [hgt] at hN; omega)
    rw [← e2] at Hr
    have l2 : (pre ++ (⟨d, k, a, b⟩ : Lin) :: flatP (d + 1) c).length = pre.length + 1 + (flatP (d + 1) c).length := by simp; omega
    rw [l2] at Hr
    rw [e0]
    rw [e0] at hl
    refine ⟨by omega, dep_mid, ⟨knd_mid, lnA_mid, lnBc_mid, fun h s g hh => ?_⟩, ?_⟩
    · show Sim s (blN xs _ N pre.length h s) (blkI xs (sem xs c) (chF s.2 h))
      unfold blN
      rw [hb]
      cases c with
      | nil =>
        rw [goB_end (by simp [flatP])]
        exact Sim.refl g trivial
      | nd k2 a2 b2 c2 r2 =>
        rw [hgt] at hN
        obtain ⟨M, rfl⟩ : ∃ M, N = M + 1 := ⟨N - 1, by omega⟩
        have Hc := sit_of xs (.nd k2 a2 b2 c2 r2) M (d + 1) (pre ++ [⟨d, k, a, b⟩]) (flatP d r ++ post) (fun z t h => by have := flat_head he z t h; omega) (by rw [← e1]; exact hl) (by omega)
        rw [← e1] at Hc
        have l1 : (pre ++ [(⟨d, k, a, b⟩ : Lin)]).length = pre.length + 1 := by simp
        rw [l1] at Hc
        have hle : pre.length + 1 + (flatP (d + 1) (.nd k2 a2 b2 c2 r2)).length ≤ (pre ++ (⟨d, k, a, b⟩ : Lin) :: (flatP (d + 1) (.nd k2 a2 b2 c2 r2) ++ (flatP d r ++ post))).length := by simp; omega
        have hen : pre.length + 1 + (flatP (d + 1) (.nd k2 a2 b2 c2 r2)).length < (pre ++ (⟨d, k, a, b⟩ : Lin) :: (flatP (d + 1) (.nd k2 a2 b2 c2 r2) ++ (flatP d r ++ post))).length → dep (pre ++ (⟨d, k, a, b⟩ : Lin) :: (flatP (d + 1) (.nd k2 a2 b2 c2 r2) ++ (flatP d r ++ post))) (pre.length + 1 + (flatP (d + 1) (.nd k2 a2 b2 c2 r2)).length) < d + 1 := fun h => by
          have := dep_end (pre := pre ++ [(⟨d, k, a, b⟩ : Lin)]) (L := flatP (d + 1) (.nd k2 a2 b2 c2 r2)) (post := flatP d r ++ post) (d := d + 1) (fun z t h => by have := flat_head he z t h; omega) (by rw [← e1, l1]; exact h)
          rw [← e1, l1] at this; exact this
        have hlen := Hc.len
        exact goI_R hle hen _ _ 25 h s (by omega) Hc g hh
    · rw [hb]
      have el : pre.length + (flatP d (.nd k a b c r)).length = pre.length + 1 + (flatP (d + 1) c).length + (flatP d r).length := by rw [lr]; omega
      rw [el]; exact Hr
/-- what a program does, by its tree -/
theorem run_tree (xs : List Cls) {F : Fq} {p : List Lin} (hp : p = flatP 0 F) (hl : p.length ≤ 24) (hh : hgt F ≤ 5) : Sim ([], []) (runI xs p) (blkI xs (sem xs F) []) := by
  have S := sit_of xs F 5 0 [] [] (fun z t h => by cases h) (by simp; rw [← hp]; omega) hh
  simp only [List.nil_append, List.append_nil, List.length_nil, Nat.zero_add] at S
  rw [← hp] at S
  have hlen := S.len
  exact goI_R (Nat.le_refl _) (fun h => absurd h (by omega)) _ 0 25 (-1) ([], []) (by omega) S (fun k h => absurd h (by simp)) ⟨by omega, by simp⟩
/-- every list of lines whose depths go on rightly is a tree -/
theorem tree_of : ∀ (n : Nat) (L : List Lin) (d : Int), L.length ≤ n → (∀ z t, L = z :: t → z.depth = d) → (∀ x ∈ L, d ≤ x.depth) → (∀ i (h : i + 1 < L.length), L[i + 1].depth ≤ L[i].depth + 1) → ∃ F, flatP d F = L
  | _, [], d, _, _, _, _ => ⟨.nil, rfl⟩
  | 0, x :: t, d, h, _, _, _ => by simp at h
  | n + 1, x :: t, d, hn, hh, ha, hs => by
    have hx := hh x t rfl
    obtain ⟨A, B, hAB, hA, hB⟩ : ∃ A B, t = A ++ B ∧ (∀ y ∈ A, d + 1 ≤ y.depth) ∧ (∀ z s, B = z :: s → z.depth = d) := by
      refine ⟨t.takeWhile (fun y => decide (d < y.depth)), t.dropWhile (fun y => decide (d < y.depth)), List.takeWhile_append_dropWhile.symm, fun y hy => ?_, fun z s hz => ?_⟩
      · have := tw_mem t y hy
        omega
      · have h1 : ¬ (decide (d < z.depth) = true) := by
          have := List.head?_dropWhile_not (fun y : Lin => decide (d < y.depth)) t
          rw [hz] at this
          simpa using this
        have h2 := ha z (List.mem_cons_of_mem _ ((List.dropWhile_sublist _).mem (by rw [hz]; simp)))
        simp at h1; omega
    subst hAB
    have hlA : A.length ≤ n := by simp at hn; omega
    have hlB : B.length ≤ n := by simp at hn; omega
    obtain ⟨C, hC⟩ := tree_of n A (d + 1) hlA (fun z s h => by
      have h1 := hA z (by rw [h]; simp)
      have h2 := hs 0 (by subst h; simp)
      subst h
      simp at h2; omega) hA (fun i hi => by
      have := hs (i + 1) (by simp; omega)
      simp only [List.getElem_cons_succ] at this
      rw [List.getElem_append_left hi, List.getElem_append_left (by omega)] at this; exact this)
    obtain ⟨R, hR⟩ := tree_of n B d hlB hB (fun y hy => ha y (List.mem_cons_of_mem _ (List.mem_append_right _ hy))) (fun i hi => by
      have := hs (A.length + (i + 1)) (by simp; omega)
      have e1 : A.length + (i + 1) + 1 = (A.length + (i + 1)) + 1 := rfl
      simp only [List.getElem_cons_succ] at this
      rw [List.getElem_append_right (by omega)] at this
      have e2 : A.length + (i + 1) = (A.length + i) + 1 := by omega
      simp only [e2, List.getElem_cons_succ] at this
      rw [List.getElem_append_right (by omega)] at this
      simp only [show A.length + i + 1 - A.length = i + 1 by omega, show A.length + i - A.length = i by omega] at this
      exact this)
    obtain ⟨xd, xk, xa, xb⟩ := x
    dsimp only at hx
    subst hx
    exact ⟨.nd xk xa xb C R, by rw [flatP, hC, hR]⟩
theorem hgt_le : ∀ (F : Fq) (d : Int), (∀ x ∈ flatP d F, x.depth ≤ 5) → F ≠ .nil → d + (hgt F : Int) ≤ 5
  | .nil, _, _, h => absurd rfl h
  | .nd k a b .nil r, d, h, _ => by
    rw [hgt]
    cases r with
    | nil => have := h ⟨d, k, a, b⟩ (by simp [flatP]); simp [hgt]; exact this
    | nd k2 a2 b2 c2 r2 => exact hgt_le _ d (fun x hx => h x (by rw [flatP]; simp [hx])) (by intro h; cases h)
  | .nd k a b (.nd k3 a3 b3 c3 r3) r, d, h, _ => by
    rw [hgt]
    have h1 := hgt_le (.nd k3 a3 b3 c3 r3) (d + 1) (fun x hx => h x (by rw [flatP]; simp [hx])) (by intro h; cases h)
    have h2 : d + (hgt r : Int) ≤ 5 := by
      cases r with
      | nil => have := h ⟨d, k, a, b⟩ (by simp [flatP]); simp [hgt]; exact this
      | nd k2 a2 b2 c2 r2 => exact hgt_le _ d (fun x hx => h x (by rw [flatP]; simp [hx])) (by intro h; cases h)
    omega
end

section
theorem compactUpTo_asc (d : Array Int) (hs : ∀ i j, i ≤ j → j < d.size → d[i]! ≤ d[j]!) : ∀ m, m ≤ d.size →
    (Go.Lib.compactUpTo d m).Pairwise (· < ·) ∧ ∀ x, x ∈ Go.Lib.compactUpTo d m ↔ ∃ j, j < m ∧ d[j]! = x := by
  intro m
  induction m with
  | zero => intro _; exact ⟨by simp [Go.Lib.compactUpTo], by simp [Go.Lib.compactUpTo]⟩
  | succ m ih =>
    intro hm
    obtain ⟨h1, h2⟩ := ih (by omega)
    rw [Go.Lib.compactUpTo_succ]
    by_cases hk : Go.Lib.keeps d m = true
    · rw [if_pos hk]
      have hlt : ∀ x ∈ Go.Lib.compactUpTo d m, x < d[m]! := by
        intro x hx
        obtain ⟨j, hj, rfl⟩ := (h2 x).1 hx
        have h3 : m ≠ 0 := by omega
        have h4 : d[m]! ≠ d[m - 1]! := by
          have := hk; simp [Go.Lib.keeps] at this
          rcases this with h | h
          · omega
          · simpa using h
        have h5 := hs j (m - 1) (by omega) (by omega)
        have h6 := hs (m - 1) m (by omega) (by omega)
        omega
      refine ⟨?_, fun x => ?_⟩
      · rw [List.pairwise_append]
        exact ⟨h1, by simp, fun a ha b hb => by simp at hb; subst hb; exact hlt a ha⟩
      · rw [List.mem_append, h2]
        constructor
        · rintro (⟨j, hj, e⟩ | hx)
          · exact ⟨j, by omega, e⟩
          · simp at hx; exact ⟨m, by omega, by simp [hx]⟩
        · rintro ⟨j, hj, e⟩
          by_cases hjm : j = m
          · subst hjm; right; simp [e]
          · left; exact ⟨j, by omega, e⟩
    · rw [if_neg hk, List.append_nil]
      refine ⟨h1, fun x => ?_⟩
      rw [h2]
      constructor
      · rintro ⟨j, hj, e⟩; exact ⟨j, by omega, e⟩
      · rintro ⟨j, hj, e⟩
        by_cases hjm : j = m
        · subst hjm
          have h4 : j ≠ 0 ∧ d[j]! = d[j - 1]! := by
            have := hk; simp [Go.Lib.keeps] at this
            exact ⟨this.1, by simpa using this.2⟩
          exact ⟨j - 1, by omega, by rw [← h4.2]; exact e⟩
        · exact ⟨j, by omega, e⟩
theorem compact_sorted (M : List Int) : (Go.Lib.compact (M.mergeSort fun x y => decide (x ≤ y))).Pairwise (· < ·) ∧ ∀ x, x ∈ Go.Lib.compact (M.mergeSort fun x y => decide (x ≤ y)) ↔ x ∈ M := by
  have hp := List.pairwise_mergeSort (le := fun x y : Int => decide (x ≤ y)) (by intro a b c; simp; omega) (by intro a b; simp; omega) M
  generalize hS : M.mergeSort (fun x y => decide (x ≤ y)) = S at *
  have hs : ∀ i j, i ≤ j → j < S.toArray.size → S.toArray[i]! ≤ S.toArray[j]! := by
    intro i j hij hj
    simp at hj
    rw [getElem!_pos S.toArray i (by simp; omega), getElem!_pos S.toArray j (by simpa using hj)]
    rcases Nat.lt_or_ge i j with h | h
    · have := List.pairwise_iff_getElem.1 hp i j (by omega) hj h
      simpa using this
    · have : i = j := by omega
      subst this; exact Int.le_refl _
  obtain ⟨h1, h2⟩ := compactUpTo_asc S.toArray hs S.length (by simp)
  refine ⟨h1, fun x => (h2 x).trans ?_⟩
  have hm : x ∈ S ↔ x ∈ M := by rw [← hS]; exact List.mem_mergeSort
  rw [← hm, List.mem_iff_getElem]
  constructor
  · rintro ⟨j, hj, e⟩
    rw [getElem!_pos S.toArray j (by simpa using hj)] at e
    exact ⟨j, hj, by simpa using e⟩
  · rintro ⟨j, hj, e⟩
    exact ⟨j, hj, by rw [getElem!_pos S.toArray j (by simpa using hj)]; simpa using e⟩
theorem asc_ext : ∀ (l m : List Int), l.Pairwise (· < ·) → m.Pairwise (· < ·) → (∀ x, x ∈ l ↔ x ∈ m) → l = m
  | [], [], _, _, _ => rfl
  | [], b :: m, _, _, h => by have := (h b).2 (by simp); simp at this
  | a :: l, [], _, _, h => by have := (h a).1 (by simp); simp at this
  | a :: l, b :: m, h1, h2, h => by
    rw [List.pairwise_cons] at h1 h2
    have e : a = b := by
      have ha := (h a).1 (by simp)
      have hb := (h b).2 (by simp)
      rcases List.mem_cons.1 ha with e | ha
      · exact e
      · rcases List.mem_cons.1 hb with e | hb
        · exact e.symm
        · have := h1.1 b hb; have := h2.1 a ha; omega
    subst e
    rw [asc_ext l m h1.2 h2.2 (fun x => by
      constructor
      · intro hx
        rcases List.mem_cons.1 ((h x).1 (by simp [hx])) with e | hx'
        · have := h1.1 x hx; omega
        · exact hx'
      · intro hx
        rcases List.mem_cons.1 ((h x).2 (by simp [hx])) with e | hx'
        · have := h2.1 x hx; omega
        · exact hx')]
end

section
def cauOf (hs : List Flt) (x : Int) : Int := match hs[x.toNat]? with | some f => f.cause | none => -1
theorem cauOf_at {hs : List Flt} {i : Nat} (h : i < hs.length) : cauOf hs (i : Int) = hs[i].cause := by
  unfold cauOf; rw [Int.toNat_natCast, List.getElem?_eq_getElem h]
theorem Lnk.caultlt {hs : List Flt} (h : Lnk hs) : ∀ x : Int, 0 ≤ x → x < hs.length → cauOf hs x < hs.length := by
  intro x h0 h1
  obtain ⟨i, rfl⟩ := Int.eq_ofNat_of_zero_le h0
  rw [cauOf_at (by omega)]
  exact (h.cause i (by omega)).2

/-- x is reached from f along c and d -/
inductive Rch (c d : Int → Int) (f : Int) : Int → Prop
  | base : Rch c d f f
  | one {x : Int} : Rch c d f x → 0 ≤ c x → Rch c d f (c x)
  | two {x : Int} : Rch c d f x → 0 ≤ d x → Rch c d f (d x)
theorem Rch.trans {c d : Int → Int} {f y x : Int} (h : Rch c d f y) (k : Rch c d y x) : Rch c d f x := by
  induction k with
  | base => exact h
  | one _ h0 ih => exact .one ih h0
  | two _ h0 ih => exact .two ih h0
theorem Rch.least {c d : Int → Int} {f : Int} {S : Int → Prop} (h0 : S f) (h1 : ∀ x, S x → 0 ≤ c x → S (c x)) (h2 : ∀ x, S x → 0 ≤ d x → S (d x)) {x : Int} (h : Rch c d f x) : S x := by
  induction h with
  | base => exact h0
  | one _ h0 ih => exact h1 _ ih h0
  | two _ h0 ih => exact h2 _ ih h0

def rgo (c d : Int → Int) : Nat → Int → List Int → List Int
  | 0, _, out => out
  | m + 1, f, out => if f < 0 ∨ f ∈ out then out else rgo c d m (d f) (rgo c d m (c f) (out ++ [f]))
theorem rgo_stop {c d : Int → Int} {m : Nat} {f : Int} {out : List Int} (h : f < 0 ∨ f ∈ out) : rgo c d m f out = out := by
  cases m with
  | zero => rfl
  | succ m => rw [rgo, if_pos h]
theorem rgo_on {c d : Int → Int} {m : Nat} {f : Int} {out : List Int} (h : ¬ (f < 0 ∨ f ∈ out)) : rgo c d (m + 1) f out = rgo c d m (d f) (rgo c d m (c f) (out ++ [f])) := by
  rw [rgo, if_neg h]
/-- what is found keeps to -/
structure Fnd (n : Nat) (out : List Int) : Prop where
  nd : out.Nodup
  rng : ∀ x ∈ out, 0 ≤ x ∧ x < n
theorem Fnd.nil (n : Nat) : Fnd n [] := ⟨by simp, by simp⟩
theorem Fnd.snoc {n : Nat} {out : List Int} (h : Fnd n out) {f : Int} (h0 : 0 ≤ f) (h1 : f < n) (hm : f ∉ out) : Fnd n (out ++ [f]) := by
  refine ⟨?_, fun x hx => ?_⟩
  · rw [List.nodup_append]
    exact ⟨h.nd, by simp, fun a ha b hb e => by simp at hb; subst hb; subst e; exact hm ha⟩
  · rcases List.mem_append.1 hx with hx | hx
    · exact h.rng x hx
    · simp at hx; subst hx; exact ⟨h0, h1⟩
theorem Fnd.len {n : Nat} {out : List Int} (h : Fnd n out) : out.length ≤ n := Chn.nodup_bound n out h.nd h.rng
structure RPost (c d : Int → Int) (n : Nat) (f : Int) (out L : List Int) : Prop where
  fnd : Fnd n L
  pre : ∃ r, L = out ++ r
  has : 0 ≤ f → f ∈ L
  new : ∀ x ∈ L, x ∉ out → Rch c d f x ∧ (0 ≤ c x → c x ∈ L) ∧ (0 ≤ d x → d x ∈ L)
  neg : f < 0 → L = out
theorem rgo_post {c d : Int → Int} {n : Nat} (hc : ∀ x : Int, 0 ≤ x → x < n → c x < n) (hd : ∀ x : Int, 0 ≤ x → x < n → d x < n) :
    ∀ (m : Nat) (f : Int) (out : List Int), Fnd n out → f < n → n + 1 ≤ m + out.length → RPost c d n f out (rgo c d m f out) := by
  intro m
  induction m with
  | zero => intro f out h _ hm; have := h.len; omega
  | succ m ih =>
    intro f out h hf hm
    by_cases he : f < 0 ∨ f ∈ out
    · rw [rgo_stop he]
      refine ⟨h, ⟨[], by simp⟩, fun h0 => ?_, fun x hx hn => absurd hx hn, fun _ => rfl⟩
      rcases he with he | he
      · omega
      · exact he
    · rw [rgo_on he]
      simp only [not_or, Int.not_lt] at he
      obtain ⟨h0, hm0⟩ := he
      have p1 := ih (c f) (out ++ [f]) (h.snoc h0 hf hm0) (hc f h0 hf) (by simp; omega)
      obtain ⟨r1, e1⟩ := p1.pre
      have p2 := ih (d f) (rgo c d m (c f) (out ++ [f])) p1.fnd (hd f h0 hf) (by rw [e1]; simp; omega)
      generalize rgo c d m (c f) (out ++ [f]) = L1 at *
      generalize rgo c d m (d f) L1 = L2 at *
      obtain ⟨r2, e2⟩ := p2.pre
      have hsub : ∀ x, x ∈ L1 → x ∈ L2 := fun x hx => by rw [e2]; exact List.mem_append_left _ hx
      have hf1 : f ∈ L1 := by rw [e1]; simp
      refine ⟨p2.fnd, ⟨f :: r1 ++ r2, by rw [e2, e1]; simp⟩, fun _ => hsub f hf1, fun x hx hn => ?_, fun h => by omega⟩
      by_cases hx1 : x ∈ L1
      · by_cases hxf : x = f
        · subst hxf
          refine ⟨.base, fun hp => hsub _ (p1.has hp), fun hp => p2.has hp⟩
        · have hno : x ∉ out ++ [f] := by simp [hn, hxf]
          obtain ⟨a, b, c'⟩ := p1.new x hx1 hno
          have hcf : 0 ≤ c f := by
            rcases Int.lt_or_le (c f) 0 with hl | hl
            · rw [p1.neg hl] at hx1; exact absurd hx1 hno
            · exact hl
          exact ⟨(Rch.one .base hcf).trans a, fun hp => hsub _ (b hp), fun hp => hsub _ (c' hp)⟩
      · obtain ⟨a, b, c'⟩ := p2.new x hx hx1
        have hdf : 0 ≤ d f := by
          rcases Int.lt_or_le (d f) 0 with hl | hl
          · rw [p2.neg hl] at hx; exact absurd hx hx1
          · exact hl
        exact ⟨(Rch.two .base hdf).trans a, b, c'⟩
def rch0 (hs : List Flt) (f : Int) : List Int := rgo (cauOf hs) (ctxOf hs) (hs.length + 1) f []
theorem rch0_fnd {hs : List Flt} (lk : Lnk hs) {f : Int} (h1 : f < hs.length) : Fnd hs.length (rch0 hs f) :=
  (rgo_post lk.caultlt lk.ctxlt (hs.length + 1) f [] (Fnd.nil _) h1 (by simp)).fnd
theorem rch0_iff {hs : List Flt} (lk : Lnk hs) {f : Int} (h0 : 0 ≤ f) (h1 : f < hs.length) (x : Int) : x ∈ rch0 hs f ↔ Rch (cauOf hs) (ctxOf hs) f x := by
  have p := rgo_post lk.caultlt lk.ctxlt (hs.length + 1) f [] (Fnd.nil _) h1 (by simp)
  constructor
  · intro h; exact (p.new x h (by simp)).1
  · intro h
    exact Rch.least (S := fun x => x ∈ rch0 hs f) (p.has h0) (fun x hx => (p.new x hx (by simp)).2.1) (fun x hx => (p.new x hx (by simp)).2.2) h
/-- the numbers below n of a list, ascending -/
def ascOf (L : List Int) : Nat → List Int
  | 0 => []
  | n + 1 => ascOf L n ++ cond (hasI L (n : Int)) [(n : Int)] []
theorem ascOf_mem {L : List Int} : ∀ {k : Nat} {x : Int}, x ∈ ascOf L k ↔ 0 ≤ x ∧ x < k ∧ x ∈ L := by
  intro k
  induction k with
  | zero => intro x; simp [ascOf]; omega
  | succ k ih =>
    intro x
    rw [ascOf, List.mem_append, ih]
    cases hp : hasI L (k : Int)
    · simp only [cond_false, List.not_mem_nil, or_false]
      constructor
      · rintro ⟨a, b, c⟩; exact ⟨a, by omega, c⟩
      · rintro ⟨a, b, c⟩
        refine ⟨a, ?_, c⟩
        have : x ≠ k := by rintro rfl; rw [← hasI_iff', hp] at c; cases c
        omega
    · simp only [cond_true, List.mem_singleton]
      constructor
      · rintro (⟨a, b, c⟩ | rfl)
        · exact ⟨a, by omega, c⟩
        · exact ⟨by omega, by omega, hasI_iff'.1 hp⟩
      · rintro ⟨a, b, c⟩
        by_cases e : x = k
        · exact .inr e
        · exact .inl ⟨a, by omega, c⟩
theorem ascOf_asc {L : List Int} : ∀ (k : Nat), (ascOf L k).Pairwise (· < ·) := by
  intro k
  induction k with
  | zero => simp [ascOf]
  | succ k ih =>
    rw [ascOf, List.pairwise_append]
    refine ⟨ih, ?_, fun a ha b hb => ?_⟩
    · cases hasI L (k : Int) <;> simp
    · have := (ascOf_mem.1 ha).2.1
      cases hp : hasI L (k : Int)
      · rw [hp] at hb; simp at hb
      · rw [hp] at hb; simp at hb; omega
theorem ascOf_len {L : List Int} : ∀ (k : Nat), (ascOf L k).length ≤ k := by
  intro k
  induction k with
  | zero => simp [ascOf]
  | succ k ih => rw [ascOf, List.length_append]; cases hasI L (k : Int) <;> simp <;> omega
theorem ascOf_congr {L M : List Int} : ∀ (k : Nat), (∀ x : Int, 0 ≤ x → x < k → (x ∈ L ↔ x ∈ M)) → ascOf L k = ascOf M k := by
  intro k h
  exact asc_ext _ _ (ascOf_asc k) (ascOf_asc k) (fun x => by rw [ascOf_mem, ascOf_mem]; exact ⟨fun ⟨a, b, c⟩ => ⟨a, b, (h x a b).1 c⟩, fun ⟨a, b, c⟩ => ⟨a, b, (h x a b).2 c⟩⟩)
def reachL (hs : List Flt) (f : Int) : List Int := ascOf (rch0 hs f) hs.length
theorem reachL_mem {hs : List Flt} (lk : Lnk hs) {f : Int} (h0 : 0 ≤ f) (h1 : f < hs.length) (x : Int) : x ∈ reachL hs f ↔ Rch (cauOf hs) (ctxOf hs) f x := by
  unfold reachL
  rw [ascOf_mem, rch0_iff lk h0 h1]
  constructor
  · exact fun h => h.2.2
  · intro h
    have := (rch0_fnd lk h1).rng x ((rch0_iff lk h0 h1 x).2 h)
    exact ⟨this.1, this.2, h⟩
theorem reachL_asc (hs : List Flt) (f : Int) : (reachL hs f).Pairwise (· < ·) := ascOf_asc _
/-- what is ascending and has just what is reached is it -/
theorem reachL_eq {hs : List Flt} (lk : Lnk hs) {f : Int} (h0 : 0 ≤ f) (h1 : f < hs.length) {L : List Int} (ha : L.Pairwise (· < ·)) (hm : ∀ x, x ∈ L ↔ Rch (cauOf hs) (ctxOf hs) f x) : L = reachL hs f :=
  asc_ext _ _ ha (reachL_asc hs f) (fun x => by rw [hm, reachL_mem lk h0 h1])
end

section
/-- x is marked -/
def tr (fd : List Bool) (x : Int) : Prop := 0 ≤ x ∧ fd[x.toNat]? = some true
theorem tr_nat {fd : List Bool} {i : Nat} (h : i < fd.length) : tr fd (i : Int) ↔ fd[i] = true := by
  unfold tr; rw [Int.toNat_natCast, List.getElem?_eq_getElem h]; simp
theorem tr_lt {fd : List Bool} {x : Int} (h : tr fd x) : ∃ i : Nat, x = i ∧ i < fd.length := by
  obtain ⟨h0, h1⟩ := h
  obtain ⟨i, rfl⟩ := Int.eq_ofNat_of_zero_le h0
  rw [Int.toNat_natCast] at h1
  exact ⟨i, rfl, (List.getElem?_eq_some_iff.1 h1).1⟩
theorem tr_set {fd : List Bool} {i : Nat} (hi : i < fd.length) {x : Int} : tr (fd.set i true) x ↔ tr fd x ∨ x = i := by
  constructor
  · intro h
    obtain ⟨k, rfl, hk⟩ := tr_lt h
    rw [List.length_set] at hk
    rw [tr_nat (by simpa using hk), List.getElem_set] at h
    split at h
    · right; omega
    · left; exact (tr_nat hk).2 h
  · rintro (h | rfl)
    · obtain ⟨k, rfl, hk⟩ := tr_lt h
      rw [tr_nat (by simpa using hk), List.getElem_set]
      split
      · rfl
      · exact (tr_nat hk).1 h
    · rw [tr_nat (by simpa using hi)]; simp
theorem tr_start (n : Nat) (x : Int) : ¬ tr (List.replicate n false) x := by
  intro h
  obtain ⟨k, rfl, hk⟩ := tr_lt h
  rw [tr_nat hk] at h
  simp at h
/-- how many are not marked -/
def unm : List Bool → Nat
  | [] => 0
  | b :: r => cond b 0 1 + unm r
theorem unm_set : ∀ {fd : List Bool} {i : Nat} (h : i < fd.length), fd[i] = false → unm (fd.set i true) + 1 = unm fd
  | b :: r, 0, _, hb => by simp at hb; subst hb; simp [unm]; omega
  | b :: r, i + 1, h, hb => by
    have := unm_set (fd := r) (i := i) (by simpa using h) (by simpa using hb)
    simp only [List.set_cons_succ, unm]; omega
theorem unm_rep (n : Nat) : unm (List.replicate n false) = n := by
  induction n with
  | zero => rfl
  | succ n ih => rw [List.replicate_succ, unm, ih]; simp; omega
structure RInv (c d : Int → Int) (n : Nat) (f : Int) (td : List Int) (fd : List Bool) : Prop where
  len : fd.length = n
  bnd : ∀ x ∈ td, -1 ≤ x ∧ x < n
  mem : ∀ x ∈ td, 0 ≤ x → Rch c d f x
  fnd : ∀ x, tr fd x → Rch c d f x ∧ (0 ≤ c x → tr fd (c x) ∨ c x ∈ td) ∧ (0 ≤ d x → tr fd (d x) ∨ d x ∈ td)
  has : f ∈ td ∨ tr fd f
theorem RInv.start {c d : Int → Int} {n : Nat} {f : Int} (h0 : 0 ≤ f) (h1 : f < n) : RInv c d n f [f] (List.replicate n false) :=
  ⟨by simp, fun x hx => by simp at hx; subst hx; omega, fun x hx _ => by simp at hx; subst hx; exact .base, fun x hx => absurd hx (tr_start n x), .inl (by simp)⟩
theorem RInv.pop {c d : Int → Int} {n : Nat} {f i : Int} {t0 : List Int} {fd : List Bool} (h : RInv c d n f (t0 ++ [i]) fd) (hf : 0 ≤ f) (hi : i < 0 ∨ tr fd i) : RInv c d n f t0 fd := by
  have key : ∀ x, 0 ≤ x → (tr fd x ∨ x ∈ t0 ++ [i]) → tr fd x ∨ x ∈ t0 := by
    intro x h0 hx
    rcases hx with hx | hx
    · exact .inl hx
    · rcases List.mem_append.1 hx with hx | hx
      · exact .inr hx
      · simp at hx; subst hx
        rcases hi with hi | hi
        · omega
        · exact .inl hi
  refine ⟨h.len, fun x hx => h.bnd x (by simp [hx]), fun x hx => h.mem x (by simp [hx]), fun x hx => ?_, ?_⟩
  · obtain ⟨a, b, e⟩ := h.fnd x hx
    exact ⟨a, fun hp => key _ hp (b hp), fun hp => key _ hp (e hp)⟩
  · rcases h.has with h1 | h1
    · rcases key f hf (.inr h1) with h2 | h2
      · exact .inr h2
      · exact .inl h2
    · exact .inr h1
theorem RInv.push {c d : Int → Int} {n : Nat} {f : Int} {i : Nat} {t0 : List Int} {fd : List Bool} (h : RInv c d n f (t0 ++ [(i : Int)]) fd) (hil : i < n) (hc : -1 ≤ c i ∧ c i < n) (hd : -1 ≤ d i ∧ d i < n) : RInv c d n f (t0 ++ [c i, d i]) (fd.set i true) := by
  have hil' : i < fd.length := by rw [h.len]; exact hil
  have hri := h.mem (i : Int) (by simp) (by omega)
  have key : ∀ x, (tr fd x ∨ x ∈ t0 ++ [(i : Int)]) → tr (fd.set i true) x ∨ x ∈ t0 ++ [c i, d i] := by
    intro x hx
    rcases hx with hx | hx
    · exact .inl ((tr_set hil').2 (.inl hx))
    · rcases List.mem_append.1 hx with hx | hx
      · exact .inr (by simp [hx])
      · simp at hx; exact .inl ((tr_set hil').2 (.inr hx))
  refine ⟨by simpa using h.len, fun x hx => ?_, fun x hx h0 => ?_, fun x hx => ?_, ?_⟩
  · rcases List.mem_append.1 hx with hx | hx
    · exact h.bnd x (by simp [hx])
    · simp at hx; rcases hx with rfl | rfl
      · exact hc
      · exact hd
  · rcases List.mem_append.1 hx with hx | hx
    · exact h.mem x (by simp [hx]) h0
    · simp at hx; rcases hx with rfl | rfl
      · exact .one hri h0
      · exact .two hri h0
  · rcases (tr_set hil').1 hx with hx | rfl
    · obtain ⟨a, b, e⟩ := h.fnd x hx
      exact ⟨a, fun hp => key _ (b hp), fun hp => key _ (e hp)⟩
    · exact ⟨hri, fun _ => .inr (by simp), fun _ => .inr (by simp)⟩
  · rcases key f (h.has.symm) with h1 | h1
    · exact .inr h1
    · exact .inl h1
theorem RInv.done {c d : Int → Int} {n : Nat} {f : Int} {fd : List Bool} (h : RInv c d n f [] fd) (x : Int) : tr fd x ↔ Rch c d f x := by
  constructor
  · exact fun hx => (h.fnd x hx).1
  · intro hx
    refine Rch.least (S := tr fd) ?_ (fun x hx h0 => ?_) (fun x hx h0 => ?_) hx
    · rcases h.has with h1 | h1
      · simp at h1
      · exact h1
    · rcases (h.fnd x hx).2.1 h0 with h1 | h1
      · exact h1
      · simp at h1
    · rcases (h.fnd x hx).2.2 h0 with h1 | h1
      · exact h1
      · simp at h1
/-- the marked ones below k -/
def mkd (fd : List Bool) : Nat → List Int
  | 0 => []
  | k + 1 => mkd fd k ++ cond (fd[k]?.getD false) [(k : Int)] []
theorem mkd_yes {fd : List Bool} {k : Nat} (h : k < fd.length) (e : fd[k] = true) : mkd fd (k + 1) = mkd fd k ++ [(k : Int)] := by
  rw [mkd, List.getElem?_eq_getElem h, e]; rfl
theorem mkd_no {fd : List Bool} {k : Nat} (h : k < fd.length) (e : fd[k] = false) : mkd fd (k + 1) = mkd fd k := by
  rw [mkd, List.getElem?_eq_getElem h, e]; simp
theorem mkd_len {fd : List Bool} : ∀ k, (mkd fd k).length ≤ k
  | 0 => by simp [mkd]
  | k + 1 => by have := mkd_len (fd := fd) k; rw [mkd, List.length_append]; cases fd[k]?.getD false <;> simp <;> omega
theorem mkd_mem {fd : List Bool} : ∀ {k : Nat} {x : Int}, x ∈ mkd fd k ↔ x < k ∧ tr fd x := by
  intro k
  induction k with
  | zero => intro x; simp [mkd]; intro h1 h2; exact absurd h2.1 (by omega)
  | succ k ih =>
    intro x
    rw [mkd, List.mem_append, ih]
    have hk : tr fd (k : Int) ↔ fd[k]?.getD false = true := by
      unfold tr; rw [Int.toNat_natCast]
      cases h : fd[k]? <;> simp
    cases hp : fd[k]?.getD false
    · rw [hp] at hk
      simp only [cond_false, List.not_mem_nil, or_false]
      constructor
      · rintro ⟨a, b⟩; exact ⟨by omega, b⟩
      · rintro ⟨a, b⟩
        have : x ≠ k := by rintro rfl; simpa using hk.1 b
        exact ⟨by omega, b⟩
    · rw [hp] at hk
      simp only [cond_true, List.mem_singleton]
      constructor
      · rintro (⟨a, b⟩ | rfl)
        · exact ⟨by omega, b⟩
        · exact ⟨by omega, hk.2 rfl⟩
      · rintro ⟨a, b⟩
        by_cases e : x = k
        · exact .inr e
        · exact .inl ⟨by omega, b⟩
theorem mkd_asc {fd : List Bool} : ∀ k, (mkd fd k).Pairwise (· < ·) := by
  intro k
  induction k with
  | zero => simp [mkd]
  | succ k ih =>
    rw [mkd, List.pairwise_append]
    refine ⟨ih, by cases fd[k]?.getD false <;> simp, fun a ha b hb => ?_⟩
    have := (mkd_mem.1 ha).1
    cases hp : fd[k]?.getD false
    · rw [hp] at hb; simp at hb
    · rw [hp] at hb; simp at hb; omega
theorem mkd_reach {hs : List Flt} (lk : Lnk hs) {f : Int} (h0 : 0 ≤ f) (h1 : f < hs.length) {fd : List Bool} (h : RInv (cauOf hs) (ctxOf hs) hs.length f [] fd) : mkd fd hs.length = reachL hs f := by
  refine reachL_eq lk h0 h1 (mkd_asc _) (fun x => ?_)
  rw [mkd_mem, h.done]
  constructor
  · exact fun h => h.2
  · intro hx
    obtain ⟨i, rfl, hi⟩ := tr_lt ((h.done x).2 hx)
    rw [h.len] at hi
    exact ⟨by omega, hx⟩
end

section
theorem gx_trans {a b c : World} {r r1 : Option Nat} (h : a.grownBy b r) (k : b.grownBy c r1) (hr : r1 = r ∨ ∃ x, r1 = some x ∧ a.heap.size ≤ x) : a.grownBy c r :=
  ⟨k.os.trans h.os, k.tape.trans h.tape, k.output.trans h.output, Nat.le_trans h.size k.size, fun i hi hne => (k.block i (Nat.lt_of_lt_of_le hi h.size) (fun e => by
    rcases hr with rfl | ⟨x, rfl, hx⟩
    · exact hne e
    · injection e with e; omega)).trans (h.block i hi hne)⟩
theorem gx_new {w w' : World} {r : Option Nat} (h : Le w w') : w.grownBy w' r :=
  ⟨h.os, h.tape, h.output, h.size, fun i hi _ => Below.block h i hi⟩
def RchOut (L : List Int) (b : Nat) (v : Value) (w : World) (e : Ending) (w' : World) : Prop :=
  ∃ v', e = .returned v' ∧ w'.ownsRow b 3 1 v' L.length (L.flatMap Enc.cells) ∧ w.grownBy w' v.ownBlock ∧ (v'.ownBlock = v.ownBlock ∨ ∃ k, v'.ownBlock = some k ∧ w.heap.size ≤ k)

set_option maxHeartbeats 4000000 in
set_option maxRecDepth 100000 in
theorem sReach_any (H : Option Addr) (m c : Nat) (hs : List Flt) (lk : Lnk hs) (hm : m ≤ 2097152) : ∀ (k : Nat) (f : Int) (out : List Int) (b : Nat) (v : Value) (w : World), Sl w H m c hs → f < hs.length → Fnd hs.length out → hs.length + 1 ≤ k + out.length →
    w.ownsRow b 3 1 v out.length (out.flatMap Enc.cells) → b ≤ w.heap.size → (0 < m → ∀ a, H = some a → a.block < b) →
    Calls Try.prog 99 #[.agg #[.slice H m c], .int .i64 f, v] w (RchOut (rgo (cauOf hs) (ctxOf hs) k f out) b v w) := by
  obtain ⟨i0, hi, hz0, hz1, hz2⟩ := info_parts intInfoB
  have HLK := Lib.hid lk
  intro k
  induction k with
  | zero => intro f out b v w _ _ hF hk; have := hF.len; omega
  | succ k ih =>
    intro f out b v w hH hf hF hk O hb hoff
    have HIH := Lib.hid ih; clear ih
    have HOFF := Lib.hid hoff; clear hoff
    have HFN := Lib.hid hF
    have hol := hF.len
    have hlen := hH.len
    obtain ⟨A', c', rfl⟩ := own_form O
    have hok : ∀ x ∈ out, Enc.ok x := fun x hx => by have := hF.rng x hx; exact ⟨by omega, by omega⟩
    obtain ⟨c0, z0, L0⟩ := box1 w (.slice H m c) 32
    have hs0 : (w.alloc (.cells #[.slice H m c] 32)).heap.size = w.heap.size + 1 := by simp
    by_cases hneg : f < 0
    · have HX : Hid (RchOut (rgo (cauOf hs) (ctxOf hs) (k + 1) f out) b (.slice A' out.length c') w (.returned (.slice A' out.length c')) (w.alloc (.cells #[.slice H m c] 32))) := by
        show RchOut _ _ _ _ _ _
        rw [rgo_stop (.inl hneg)]
        exact ⟨_, rfl, own_le O L0, gx_new L0, .inl rfl⟩
      go_enter Try.func99, Try.ntmps99
      go_wp2
      go_ret
      exact HX.out
    · by_cases hin : f ∈ out
      · have HX : Hid (RchOut (rgo (cauOf hs) (ctxOf hs) (k + 1) f out) b (.slice A' out.length c') w (.returned (.slice A' out.length c')) (w.alloc (.cells #[.slice H m c] 32))) := by
          show RchOut _ _ _ _ _ _
          rw [rgo_stop (.inr hin)]
          exact ⟨_, rfl, own_le O L0, gx_new L0, .inl rfl⟩
        have hh := hasI_iff'.2 hin
        have S2 := (Sl.of_own O rfl (by decide) hok).le L0
        clear hin hok
        go_enter Try.func99, Try.ntmps99
        go_wp2_with fail
        refine (hasInt_any _ _ _ out f _ S2).mono ?_
        rintro e w' ⟨rfl, rfl⟩
        rw [hh]
        go_wp2
        go_ret
        exact HX.out
      · obtain ⟨i, rfl⟩ := Int.eq_ofNat_of_zero_le (by omega : 0 ≤ f)
        have hil : i < hs.length := by omega
        have him : (i : Int) < m := by omega
        have hF1 := hF.snoc (f := (i : Int)) (by omega) hf hin
        have HF1 := Lib.hid hF1
        have p1 := rgo_post lk.caultlt lk.ctxlt k (cauOf hs i) (out ++ [(i : Int)]) hF1 (lk.caultlt i (by omega) (by omega)) (by simp; omega)
        have HP1 := Lib.hid p1; clear p1
        have HRG : Hid (rgo (cauOf hs) (ctxOf hs) (k + 1) (i : Int) out = rgo (cauOf hs) (ctxOf hs) k hs[i].ctx (rgo (cauOf hs) (ctxOf hs) k hs[i].cause (out ++ [(i : Int)]))) := by
          show _ = _; rw [rgo_on (by rintro (h | h); omega; exact hin h), cauOf_at hil, ctxOf_at hil]
        have hca := cauOf_at hil
        have hcl := lk.cause i hil
        have hxl := lk.ctx i hil
        rw [hca] at HP1
        have hh := hasI_not hin
        have S2 := (Sl.of_own O rfl (by decide) hok).le L0
        clear hin hok hF1 hca hF
        have hlt0 := O.lt
        replace O := own_le O L0
        obtain ⟨hbk, off, rfl, hbl, k0, k1, q2, q3, k4, -⟩ := hH.flt_at hil
        replace q2 := (L0.cell hbl).trans q2
        replace q3 := (L0.cell hbl).trans q3
        replace hbl := Nat.lt_of_lt_of_le hbl L0.size
        clear k0 k1 k4
        have S1 := hH.le L0
        have hl1 : (out ++ [(i : Int)]).length = out.length + 1 := by simp
        go_enter Try.func99, Try.ntmps99
        go_wp2_with fail
        refine (hasInt_any _ _ _ out (i : Int) _ S2).mono ?_
        rintro e w' ⟨rfl, rfl⟩
        rw [hh]
        clear S2 hh
        generalize w.alloc (.cells #[.slice (some ⟨hbk, off, none⟩) m c] 32) = W at *
        have hsL := L0.size
        have HS0 := Lib.hid hs0; clear hs0
        have hc3 : out.length + 1 ≤ maxLen := by unfold maxLen; omega
        have hc4 : (out.length + 1) * 8 ≤ 140737488355328 := by omega
        have LA := Le.new W (.cells #[.int .i64 (i : Int)] 3)
        have HGB : Hid (∀ k : Nat, (Value.slice A' out.length c').ownBlock = some k → b ≤ k ∧ k < w.heap.size) := hlt0
        clear hlt0
        have q2' := (LA.cell hbl).trans q2
        have q3' := (LA.cell hbl).trans q3
        have c0' := (LA.cell z0).trans c0
        have S1' := S1.le LA
        have hbl' := Nat.lt_of_lt_of_le hbl LA.size
        have hoki : Enc.ok (α := Int) (i : Int) := by show _ ∧ _; omega
        have SX := sl_one (w := W) (cs := #[.int .i64 (i : Int)]) (T := 3) (i : Int) rfl hoki (b := W.heap.size) rfl
        go_wp2_with (first | (at_builtin; go_loud (refine wpList_append_sl rfl _ _ 29 rfl b 3 i0 _ 8 Try.underlying29 hi hz0 hz1 hz2 rfl (.slice A' out.length c') out.length out rfl (O.alloc _) (some ⟨W.heap.size, 0, none⟩) 1 1 [(i : Int)] rfl SX hc3 hc4 (by simp; omega) ?_; intro v1 w1 O1 hg1 hat; replace c0 := hg1.cell (a := ⟨w.heap.size, 0, none⟩) c0' (fun e => by have h := (HGB.out _ e.symm).2; dsimp only at h; omega); replace q2 := hg1.cell (a := ⟨hbk, off + i * 5 + 2, none⟩) q2' (fun e => by have h := (HGB.out _ e.symm).1; have h2 := HOFF.out (by omega) _ rfl; dsimp only at h h2; omega); replace q3 := hg1.cell (a := ⟨hbk, off + i * 5 + 3, none⟩) q3' (fun e => by have h := (HGB.out _ e.symm).1; have h2 := HOFF.out (by omega) _ rfl; dsimp only at h h2; omega))) | fail)
        have sA : (W.alloc (.cells #[.int .i64 (i : Int)] 3)).heap.size = W.heap.size + 1 := by simp
        have sg1 := hg1.size
        have R1 : v1.ownBlock = (Value.slice A' out.length c').ownBlock ∨ ∃ x, v1.ownBlock = some x ∧ w.heap.size + 1 ≤ x := by
          rcases hat with h | h
          · exact .inl h
          · exact .inr ⟨_, h, by have := HS0.out; omega⟩
        have HV1 : ∀ k, v1.ownBlock = some k → b ≤ k ∧ k ≠ w.heap.size := by
          intro k e
          rcases R1 with h | ⟨x, h, hx⟩
          · rw [h] at e; have := HGB.out k e; omega
          · rw [h] at e; injection e with e; omega
        have O2 : w1.ownsRow b 3 1 v1 (out ++ [(i : Int)]).length ((out ++ [(i : Int)]).flatMap Enc.cells) := by rw [hl1]; exact O1
        have S2 := S1'.grown hg1 (fun hn a ea e => by have h := (HGB.out _ e.symm).1; have h2 := HOFF.out hn _ ea; omega)
        have h2 := gx_trans (gx_new (L0.trans LA)) hg1 (.inl rfl)
        have HH2 := Lib.hid h2
        clear h2 O1 q2' q3' c0' S1' S1 hg1 O
        replace c0 := (show w1.drew.cell? _ = _ from c0)
        replace S2 := S2.le (Le.refl _).drew
        replace q2 := (show w1.drew.cell? _ = _ from q2)
        replace q3 := (show w1.drew.cell? _ = _ from q3)
        replace O2 := O2.drew
        have HH2' : Hid (w.grownBy w1.drew (Value.slice A' out.length c').ownBlock) := gx_trans HH2.out (gx_new (r := (Value.slice A' out.length c').ownBlock) (Le.refl w1).drew) (.inl rfl)
        have sD : w1.drew.heap.size = w1.heap.size := rfl
        go_region_held3 (fun w' => w'.cell? ⟨w.heap.size, 0, none⟩ = some (.slice (some ⟨hbk, off, none⟩) m c) ∧ w'.cell? ⟨hbk, off + i * 5 + 2, none⟩ = some (.int .i64 hs[i].cause))
          (exact ⟨c0, q2⟩)
          (first
          | (go_at_call 99; refine (HIH.out hs[i].cause (out ++ [(i : Int)]) b v1 w1.drew S2 hcl.2 HF1.out (by rw [hl1]; omega) O2 (by omega) HOFF.out).mono ?_; rintro e w2 ⟨v2, rfl, O3, hg2, hat2⟩; replace c0 := hg2.cell (a := ⟨w.heap.size, 0, none⟩) c0 (fun e => (HV1 _ e.symm).2 rfl); replace q2 := hg2.cell (a := ⟨hbk, off + i * 5 + 2, none⟩) q2 (fun e => by have h := (HV1 _ e.symm).1; have h2 := HOFF.out (by omega) _ rfl; dsimp only at h h2; omega)))
        have sg2 := hg2.size
        have R2 : v2.ownBlock = (Value.slice A' out.length c').ownBlock ∨ ∃ x, v2.ownBlock = some x ∧ w.heap.size + 1 ≤ x := by
          rcases hat2 with h | ⟨x, h, hx⟩
          · rw [h]; exact R1
          · exact .inr ⟨x, h, by have := HS0.out; omega⟩
        have HV2 : ∀ k, v2.ownBlock = some k → b ≤ k ∧ k ≠ w.heap.size := by
          intro k e
          rcases R2 with h | ⟨x, h, hx⟩
          · rw [h] at e; have := HGB.out k e; omega
          · rw [h] at e; injection e with e; omega
        replace q3 := hg2.cell (a := ⟨hbk, off + i * 5 + 3, none⟩) q3 (fun e => by have h := (HV1 _ e.symm).1; have h2 := HOFF.out (by omega) _ rfl; dsimp only at h h2; omega)
        have S3 := S2.grown hg2 (fun hn a ea e => by have h := (HV1 _ e.symm).1; have h2 := HOFF.out hn _ ea; omega)
        have h3 := gx_trans HH2'.out hg2 (by rcases R1 with h | ⟨x, h, hx⟩; exact .inl h; exact .inr ⟨x, h, by omega⟩)
        have HH3 := Lib.hid h3
        have HR1 := Lib.hid R1; have HR2 := Lib.hid R2; have HHV2 := Lib.hid HV2; have HAT2 := Lib.hid hat2
        clear h3 S2 O2 q2 hg2 R1 R2 HV1 HV2 hat hat2
        go_wp2_with fail
        replace c0 := (show w2.drew.cell? _ = _ from c0)
        replace S3 := S3.le (Le.refl _).drew
        replace q3 := (show w2.drew.cell? _ = _ from q3)
        replace O3 := O3.drew
        have HH3' : Hid (w.grownBy w2.drew (Value.slice A' out.length c').ownBlock) := gx_trans HH3.out (gx_new (r := (Value.slice A' out.length c').ownBlock) (Le.refl w2).drew) (.inl rfl)
        have sD2 : w2.drew.heap.size = w2.heap.size := rfl
        go_region_held3 (fun w' => w'.cell? ⟨w.heap.size, 0, none⟩ = some (.slice (some ⟨hbk, off, none⟩) m c) ∧ w'.cell? ⟨hbk, off + i * 5 + 3, none⟩ = some (.int .i64 hs[i].ctx))
          (exact ⟨c0, q3⟩)
          (first
          | (go_at_call 99; refine (HIH.out hs[i].ctx _ b v2 w2.drew S3 hxl.2 HP1.out.fnd (by obtain ⟨r, hr⟩ := HP1.out.pre; rw [hr]; simp; omega) O3 (by omega) HOFF.out).mono ?_; rintro e w3 ⟨v3, rfl, O4, hg3, hat3⟩; replace c0 := hg3.cell (a := ⟨w.heap.size, 0, none⟩) c0 (fun e => (HHV2.out _ e.symm).2 rfl); replace q3 := hg3.cell (a := ⟨hbk, off + i * 5 + 3, none⟩) q3 (fun e => by have h := (HHV2.out _ e.symm).1; have h2 := HOFF.out (by omega) _ rfl; dsimp only at h h2; omega)))
        have h4 := gx_trans HH3'.out hg3 (by rcases HR2.out with h | ⟨x, h, hx⟩; exact .inl h; exact .inr ⟨x, h, by omega⟩)
        have HF : Hid (RchOut (rgo (cauOf hs) (ctxOf hs) (k + 1) (i : Int) out) b (.slice A' out.length c') w (.returned v3) w3) := by
          show RchOut _ _ _ _ _ _
          rw [HRG.out]
          refine ⟨v3, rfl, O4, h4, ?_⟩
          rcases hat3 with h | ⟨x, h, hx⟩
          · rcases HR2.out with h5 | ⟨x, h5, hx⟩
            · exact .inl (h.trans h5)
            · exact .inr ⟨x, h.trans h5, by omega⟩
          · exact .inr ⟨x, h, by omega⟩
        clear h4 hat3 O4 hg3 c0 q3 O3 S3
        go_wp2
        go_ret
        exact HF.out
end

section
instance instOneFlt : EncOne Flt := ⟨by decide, fun x u hu => by simp [Enc.cells] at hu; rcases hu with rfl | rfl | rfl | rfl | rfl <;> rfl⟩
theorem infoCcFault : (Try.prog.info? 74).map (fun i => (i.zero, i.size, i.bytes)) = some (some (.agg #[.int .i64 0, .int .i64 0, .int .i64 0, .int .i64 0, .bool false]), 5, 40) := by kernel_rfl
def GrowOutFault (w : World) (e : Ending) (w' : World) : Prop := ∃ g G, e = .returned (.slice (some ⟨g, 0, none⟩) 0 G) ∧ w'.ownsRow w.heap.size 74 5 (.slice (some ⟨g, 0, none⟩) 0 G) 0 [] ∧ Le w w'
/-- a row of slices -/
structure SlV where
  A : Option Addr
  n : Nat
  c : Nat
end

section
/-- a result that lies in a box of the call's own, and a row behind it -/
theorem res_end {α : Type} [Enc α] {T : TypeId} {w w' : World} {r b : Nat} {v : Value} {ys : List α} (L0 : Le w w') (hr : w.heap.size ≤ r) (hb : r < b) (O : w'.ownsRow b T (Enc.size α) v ys.length (ys.flatMap Enc.cells))
    (hok : ∀ x ∈ ys, Enc.ok x) (u : Value) : Owd T w (w'.setCell ⟨r, 0, none⟩ u) v ys ∧ Le w (w'.setCell ⟨r, 0, none⟩ u) :=
  ⟨⟨own_mono (O.kept (grown_set w' r 0 u) (.inr (fun e => by have := (O.lt _ e).1; omega))) (by omega), hok⟩, L0.setCell hr u⟩

set_option maxHeartbeats 1000000 in
set_option maxRecDepth 100000 in
theorem sCopyHeap_any (H : Option Addr) (m c : Nat) (hs : List Flt) (w : World) (hH : Sl w H m c hs) (hm : m ≤ 2097152) :
    Calls Try.prog 131 #[.agg #[.slice H m c]] w fun e w' => ∃ v, e = .returned (.agg #[v]) ∧ Owd 74 w w' v hs ∧ Le w w' := by
  obtain ⟨i0, hi, hz0, hz1, hz2⟩ := info_parts infoCcFault
  have hlen := hH.len
  obtain ⟨c0, z0, c1, z1, L0⟩ := box2 w (.slice H m c) (.slice none 0 0) 32 32
  have S0 := hH.le L0
  have hokA := Lib.hid hH.ok
  have f1 : ((w.alloc (.cells #[.slice H m c] 32)).alloc (.cells #[.slice none 0 0] 32)).frozen? ⟨w.heap.size + 1, 0, none⟩ = false := World.frozen?_alloc_at _ _ _ _ (by simp)
  go_enter Try.func131, Try.ntmps131
  go_wp2_with (at_builtin; refine wpList_append_sl rfl (.tmp 3) (.tmp 5) 30 rfl (w.heap.size + 1 + 1) 74 i0 _ 40 Try.underlying30 hi hz0 hz1 hz2 rfl (.slice (some ⟨w.heap.size + 1 + 1, 0, none⟩) 0 0) 0 ([] : List Flt) rfl (own_empty (by simp) (by simp)) H m c hs rfl (S0.alloc _) (by unfold maxLen; omega) (by omega) (by simp) ?_; intro v1 w1 O1 hg1 _; simp only [Nat.zero_add, List.nil_append] at O1; have L1 := ((Le.refl _).alloc _).grown hg1 (fun k hk => by simp [Value.ownBlock] at hk; simp; omega); replace f1 := (L1.frozen z1).trans f1; replace c1 := (L1.cell z1).trans c1; replace L0 := L0.trans L1; clear L1 hg1; obtain ⟨A1, q1, rfl⟩ := own_form O1)
  have HE := Lib.hid (res_end (r := w.heap.size + 1) L0 (by omega) (Nat.lt_succ_self _) (by rw [hlen]; exact O1) hokA.out)
  have hend := fun u => cell_set_same (v := u) c1
  exact bodyPost_ret (v := .agg #[.slice A1 m q1]) (by simp [results, Try.results131, go_sem, hend]) rfl ⟨_, rfl, (HE.out _).1, (HE.out _).2⟩

end
end Go.Proofs.Ytlepgfccnfcagaa
