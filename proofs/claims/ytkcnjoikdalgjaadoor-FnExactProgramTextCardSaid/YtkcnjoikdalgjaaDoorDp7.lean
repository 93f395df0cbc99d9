/- one text of PhP, PhK, PhM, Bo -/
import Derived.Test.YtkcnjoikdalgjaaDoorDp6
import Derived.Test.YtkcnjoikdalgjaaDoorDp5
import Derived.Test.YtkcnjoikdalgjaaDoorDp4
import Derived.Test.YtkcnjoikdalgjaaDoorDp1
import Derived.Test.YtkcnjoikdalgjaaDoorDp2
import Derived.Deep.Cut
namespace Go.Proofs.YtkcnjoikdalgjaaDoor
open Go.RowKit
set_option linter.unusedVariables false
section
/-- what the model asks of the depth of a line behind lines that are right -/
def dpB (p : List Lin) (i : Nat) : Bool := if i = 0 then dep p 0 == 0 else !(decide (dep p (i - 1) + 1 < dep p i) || (opn (knd p (i - 1)) != (dep p i == dep p (i - 1) + 1)))
def lineT (xs : List Cls) (p : List Lin) (i : Nat) (x : Lin) : Bool :=
  numS xs x.kind x.a x.b && rng 0 5 x.depth && dpB p i && !(decide (i + 1 = p.length) && opn x.kind) && (x.kind != 7 || vChain p i) && (!jmp x.kind || inL p i) && (!fol x.kind || headOk p i)
theorem dpB_iff {p : List Lin} {i : Nat} : dpB p i = true ↔ (i = 0 → dep p i = 0) ∧ (∀ j, i = j + 1 → dep p i ≤ dep p j + 1 ∧ (opn (knd p j) = true ↔ dep p i = dep p j + 1)) := by
  unfold dpB
  by_cases h : i = 0
  · subst h
    rw [if_pos rfl, beq_iff_eq]
    exact ⟨fun h => ⟨fun _ => h, fun j hj => by omega⟩, fun h => h.1 rfl⟩
  · rw [if_neg h, Bool.not_eq_true', Bool.or_eq_false_iff, decide_eq_false_iff_not, bne_eq_false_iff_eq]
    obtain ⟨j, rfl⟩ : ∃ j, i = j + 1 := ⟨i - 1, by omega⟩
    rw [Nat.add_sub_cancel, Bool.eq_iff_iff, beq_iff_eq]
    constructor
    · rintro ⟨h1, h2⟩
      refine ⟨fun h => by omega, fun j' hj' => ?_⟩
      obtain rfl : j' = j := by omega
      exact ⟨by omega, h2⟩
    · rintro ⟨_, h2⟩
      have := h2 j rfl
      exact ⟨by omega, this.2⟩
theorem lineT_iff (xs : List Cls) (p : List Lin) (i : Nat) (h : i < p.length) : lineT xs p i p[i] = true ↔ lineS xs p i p[i] := by
  unfold lineT lineS depS
  simp only [Bool.and_eq_true]
  rw [dpB_iff, rng_iff, dep_at h, Bool.not_eq_true', Bool.and_eq_false_iff, decide_eq_false_iff_not]
  have e1 : ((p[i].kind != 7 || vChain p i) = true) ↔ (p[i].kind = 7 → vChain p i = true) := by
    rw [Bool.or_eq_true, bne_iff_ne]
    refine ⟨fun h e => h.resolve_left fun h => h e, fun h => ?_⟩
    by_cases e : p[i].kind = 7
    · exact .inr (h e)
    · exact .inl e
  have e2 : ((!jmp p[i].kind || inL p i) = true) ↔ (p[i].kind = 5 ∨ p[i].kind = 6 → inL p i = true) := by
    unfold jmp
    rw [Bool.or_eq_true, Bool.not_eq_true', Bool.or_eq_false_iff, beq_eq_false_iff_ne, beq_eq_false_iff_ne]
    constructor
    · intro h e
      exact h.resolve_left (fun h => e.elim h.1 h.2)
    · intro h
      by_cases e : p[i].kind = 5 ∨ p[i].kind = 6
      · exact .inr (h e)
      · exact .inl ⟨fun a => e (.inl a), fun a => e (.inr a)⟩
  have e3 : ((!fol p[i].kind || headOk p i) = true) ↔ (fol p[i].kind = true → headOk p i = true) := by
    rw [Bool.or_eq_true, Bool.not_eq_true']
    refine ⟨fun h e => h.resolve_left (fun h => by rw [e] at h; cases h), fun h => ?_⟩
    cases e : fol p[i].kind
    · exact .inl rfl
    · exact .inr (h e)
  have e4 : (¬ i + 1 = p.length ∨ opn p[i].kind = false) ↔ (i + 1 = p.length → opn p[i].kind = false) := by
    refine ⟨fun h e => h.resolve_left fun h => h e, fun h => ?_⟩
    by_cases e : i + 1 = p.length
    · exact .inr (h e)
    · exact .inl e
  rw [e1, e2, e3, e4]
  simp only [and_assoc]
theorem boxTL0 (w : World) (s a b c d : Value) (T U : TypeId) : ((w.alloc (.cells #[s] T)).alloc (.cells #[a, b, c, d] U)).cell? ⟨w.heap.size + 1, 0, none⟩ = some a := by
  rw [World.cell?_alloc_at _ _ _ _ (by simp)]; rfl
set_option maxHeartbeats 2000000 in
set_option maxRecDepth 100000 in
theorem sValidLine_any (B A : Option Addr) (m c n cap : Nat) (xs : List Cls) (p : List Lin) (i : Nat) (hi : i < p.length) (hsm : p.length ≤ 1048576) (hpr : 0 < i → 0 ≤ dep p (i - 1) ∧ dep p (i - 1) ≤ 5) (w : World) (hT : Sl w B m c xs) (hR : Sl w A n cap p) :
    Calls Tryd.prog 25 #[.agg #[.slice B m c], .slice A n cap, .int .i64 i] w fun e w' => e = .returned (.bool (lineT xs p i p[i])) ∧ Le w w' := by
  obtain rfl := hR.len
  obtain rfl := hT.len
  have HP := Lib.hid hpr
  obtain ⟨b, off, rfl, hb, d0, d1, d2, d3, -⟩ := hR.lin_at hi
  have HF : Hid (lineT xs p i p[i] = (numS xs p[i].kind p[i].a p[i].b && rng 0 5 p[i].depth && dpB p i && !(decide (i + 1 = p.length) && opn p[i].kind) && (p[i].kind != 7 || vChain p i) && (!jmp p[i].kind || inL p i) && (!fol p[i].kind || headOk p i))) := rfl
  have HD : Hid (dep p i = p[i].depth) := dep_at hi
  have hin : (i : Int) < (p.length : Int) := by omega
  have hi0 : (0 : Int) ≤ (i : Int) := by omega
  generalize lineT xs p i p[i] = R at *
  generalize p[i].depth = vd at *
  generalize p[i].kind = vk at *
  generalize p[i].a = va at *
  generalize p[i].b = vb at *
  clear hpr
  go_enter Tryd.func25, Tryd.ntmps25
  go_wp2_with fail
  have x4 := boxTL0 w (.slice B xs.length c) (.int .i64 vd) (.int .i64 vk) (.int .i64 va) (.int .i64 vb) 31 42
  obtain ⟨x0, x1, x2, x3, z0, z1, L0⟩ := boxTL w (.slice B xs.length c) (.int .i64 vd) (.int .i64 vk) (.int .i64 va) (.int .i64 vb) 31 42
  have T0 := hT.le L0
  have S0 := hR.le L0
  clear d0 d1 d2 d3 x0 x2 x3 z0
  generalize w.heap.size + 1 = X at *
  generalize (w.alloc (.cells #[.slice B xs.length c] 31)).alloc _ = W at *
  refine (validNumbers_any B xs.length c xs vd vk va vb W T0).mono ?_
  rintro e w2 ⟨rfl, hl⟩
  have y0 := (hl.cell z1).trans x4
  have y1 := (hl.cell z1).trans x1
  have z2 : X < w2.heap.size := Nat.lt_of_lt_of_le z1 hl.size
  have L2 := L0.trans hl
  have S2 := S0.le hl
  clear x1 x4 z1 L0 hl T0 hT S0
  cases r1 : numS xs vk va vb
  · have HF2 : Hid (R = false) := by show _ = _; rw [HF.out, r1]; rfl
    clear HF
    go_wp2
    go_ret
    exact ⟨ret_bool HF2.out.symm, L2⟩
  · go_wp2_with fail
    refine (rng_any vd 0 5 w2).mono ?_
    rintro e w3 ⟨rfl, rfl⟩
    cases r2 : rng 0 5 vd
    · have HF2 : Hid (R = false) := by show _ = _; rw [HF.out, r1, r2]; rfl
      clear HF
      go_wp2
      go_ret
      exact ⟨ret_bool HF2.out.symm, L2⟩
    · have HG : Hid (R = (dpB p i && !(decide (i + 1 = p.length) && opn vk) && (vk != 7 || vChain p i) && (!jmp vk || inL p i) && (!fol vk || headOk p i))) := by show _ = _; rw [HF.out, r1, r2, Bool.true_and, Bool.true_and]
      have hvd := rng_iff.1 r2
      clear HF
      have E0 := cell_ext z2 y0
      have E1 := cell_ext z2 y1
      go_wp2_with fail
      have hwi : IntKind.i64.wrap ((i : Int) + 1) = (i : Int) + 1 := IntWalk.i64_in _ (by omega)
      have HDP : Hid (dpB p i = if i = 0 then dep p 0 == 0 else !(decide (dep p (i - 1) + 1 < dep p i) || (opn (knd p (i - 1)) != (dep p i == dep p (i - 1) + 1)))) := rfl
      generalize dpB p i = dq at *
      go_cut [77] from 23 (fun z wx => z = .bool (!(dq && !(decide (i + 1 = p.length) && opn vk))) ∧ Le w2 wx)
      case first =>
        by_cases h0 : i = 0
        · have h0b : ((i : Int) == 0) = true := by (rw [beq_iff_eq]; omega)
          have h0c : decide ((0 : Int) < (i : Int)) = false := decide_eq_false (by omega)
          have h0d : decide (0 < i) = false := decide_eq_false (by omega)
          have HDQ : Hid (dq = (vd == 0)) := by show _ = _; rw [HDP.out, if_pos h0, ← HD.out, h0]
          clear HDP
          by_cases hv : vd = 0
          · have hvb : (vd != 0) = false := by simpa using hv
            have HQ : Hid (dq = true) := by show _ = _; rw [HDQ.out, beq_iff_eq]; exact hv
            clear hv h0 HDQ
            by_cases hl : i + 1 = p.length
            · have hlb : ((i : Int) + 1 == (p.length : Int)) = true := by (rw [beq_iff_eq]; omega)
              have hld : decide (i + 1 = p.length) = true := decide_eq_true hl
              cases ho : opn vk
              · have hck : ∀ U : World, Calls Tryd.prog 43 #[.int .i64 vk] U fun e w' => e = .returned (.bool false) ∧ U = w' := fun U => by rw [← ho]; exact opens_any vk U
                have HV : Hid ((!(dq && !(decide (i + 1 = p.length) && opn vk))) = false) := by show _ = _; rw [HQ.out, hld, ho]; rfl
                clear hl ho hld
                refine wp_region_ext (by kernel_rfl) (by kernel_rfl) ?_
                repeat (go_big_quiet_step (first | (go_at_call 43; exact Calls.ext_same (hck _))))
                refine wpQuiet_nil ?_
                intro _ hw
                obtain ⟨gg, rfl⟩ := hw
                have hw1 := Le.ext w2 gg
                generalize w2.ext gg = W2 at *
                go_wp2
                go_meet
                exact ⟨congrArg Value.bool HV.out.symm, hw1⟩
              · have hck : ∀ U : World, Calls Tryd.prog 43 #[.int .i64 vk] U fun e w' => e = .returned (.bool true) ∧ U = w' := fun U => by rw [← ho]; exact opens_any vk U
                have HV : Hid ((!(dq && !(decide (i + 1 = p.length) && opn vk))) = true) := by show _ = _; rw [HQ.out, hld, ho]; rfl
                clear hl ho hld
                refine wp_region_ext (by kernel_rfl) (by kernel_rfl) ?_
                repeat (go_big_quiet_step (first | (go_at_call 43; exact Calls.ext_same (hck _))))
                refine wpQuiet_nil ?_
                intro _ hw
                obtain ⟨gg, rfl⟩ := hw
                have hw1 := Le.ext w2 gg
                generalize w2.ext gg = W2 at *
                go_wp2
                go_meet
                exact ⟨congrArg Value.bool HV.out.symm, hw1⟩
            · have hlb : ((i : Int) + 1 == (p.length : Int)) = false := bf (by omega)
              have HV : Hid ((!(dq && !(decide (i + 1 = p.length) && opn vk))) = false) := by show _ = _; rw [HQ.out, decide_eq_false hl]; rfl
              refine wp_region_ext (by kernel_rfl) (by kernel_rfl) ?_
              repeat (go_big_quiet_step (fail))
              refine wpQuiet_nil ?_
              intro _ hw
              obtain ⟨gg, rfl⟩ := hw
              have hw1 := Le.ext w2 gg
              generalize w2.ext gg = W2 at *
              go_wp2
              go_meet
              exact ⟨congrArg Value.bool HV.out.symm, hw1⟩
          · have hvb : (vd != 0) = true := by simpa using hv
            have HV : Hid ((!(dq && !(decide (i + 1 = p.length) && opn vk))) = true) := by show _ = _; rw [HDQ.out, bf hv]; rfl
            clear hv h0 HDQ
            refine wp_region_ext (by kernel_rfl) (by kernel_rfl) ?_
            repeat (go_big_quiet_step (fail))
            refine wpQuiet_nil ?_
            intro _ hw
            obtain ⟨gg, rfl⟩ := hw
            have hw1 := Le.ext w2 gg
            generalize w2.ext gg = W2 at *
            go_wp2
            go_meet
            exact ⟨congrArg Value.bool HV.out.symm, hw1⟩
        · have h0b : ((i : Int) == 0) = false := bf (by omega)
          have h0c : decide ((0 : Int) < (i : Int)) = true := decide_eq_true (by omega)
          have h0d : decide (0 < i) = true := decide_eq_true (by omega)
          obtain ⟨j, hj⟩ : ∃ j, i = j + 1 := ⟨i - 1, by omega⟩
          have hjl : j < p.length := by omega
          have hp2 := HP.out (by omega)
          have HDQ : Hid (dq = !(decide (p[j].depth + 1 < vd) || (opn p[j].kind != (vd == p[j].depth + 1)))) := by show _ = _; rw [HDP.out, if_neg h0, HD.out, show i - 1 = j by omega, dep_at hjl, knd_at hjl]
          rw [show i - 1 = j by omega, dep_at hjl] at hp2
          obtain ⟨bj, offj, ej, hbj, k0, k1, -⟩ := S2.lin_at hjl
          injection ej with ej
          injection ej with ej1 ej2
          subst ej1
          subst ej2
          have hwj : IntKind.i64.wrap ((i : Int) - 1) = (j : Int) := by rw [show (i : Int) - 1 = (j : Int) by omega]; exact IntWalk.i64_in _ (by omega)
          have hj0 : (0 : Int) ≤ (j : Int) := by omega
          have hjn : (j : Int) < (p.length : Int) := by omega
          have hwd : IntKind.i64.wrap (p[j].depth + 1) = p[j].depth + 1 := IntWalk.i64_in _ (by omega)
          generalize p[j].depth = jd at *
          generalize p[j].kind = jk at *
          have K0 := cell_ext hbj k0
          have K1 := cell_ext hbj k1
          clear HDP k0 k1 hj h0
          by_cases hlt : jd + 1 < vd
          · have hltb : decide (jd + 1 < vd) = true := decide_eq_true hlt
            have HV : Hid ((!(dq && !(decide (i + 1 = p.length) && opn vk))) = true) := by show _ = _; rw [HDQ.out, hltb]; rfl
            clear HDQ
            refine wp_region_ext (by kernel_rfl) (by kernel_rfl) ?_
            repeat (go_big_quiet_step (fail))
            refine wpQuiet_nil ?_
            intro _ hw
            obtain ⟨gg, rfl⟩ := hw
            have hw1 := Le.ext w2 gg
            generalize w2.ext gg = W2 at *
            go_wp2
            go_meet
            exact ⟨congrArg Value.bool HV.out.symm, hw1⟩
          · have hltb : decide (jd + 1 < vd) = false := decide_eq_false hlt
            cases hoj : opn jk
            · have hcj : ∀ U : World, Calls Tryd.prog 43 #[.int .i64 jk] U fun e w' => e = .returned (.bool false) ∧ U = w' := fun U => by rw [← hoj]; exact opens_any jk U
              by_cases hq : vd = jd + 1
              · have hqb : (vd == jd + 1) = true := by (rw [beq_iff_eq]; exact hq)
                have HV : Hid ((!(dq && !(decide (i + 1 = p.length) && opn vk))) = true) := by show _ = _; rw [HDQ.out, hltb, hoj, hqb]; rfl
                clear HDQ hoj hlt hq
                refine wp_region_ext (by kernel_rfl) (by kernel_rfl) ?_
                repeat (go_big_quiet_step (first | (go_at_call 43; exact Calls.ext_same (hcj _))))
                refine wpQuiet_nil ?_
                intro _ hw
                obtain ⟨gg, rfl⟩ := hw
                have hw1 := Le.ext w2 gg
                generalize w2.ext gg = W2 at *
                go_wp2
                go_meet
                exact ⟨congrArg Value.bool HV.out.symm, hw1⟩
              · have hqb : (vd == jd + 1) = false := bf hq
                have HQ : Hid (dq = true) := by show _ = _; rw [HDQ.out, hltb, hoj, hqb]; rfl
                clear HDQ hoj hlt hq
                by_cases hl : i + 1 = p.length
                · have hlb : ((i : Int) + 1 == (p.length : Int)) = true := by (rw [beq_iff_eq]; omega)
                  have hld : decide (i + 1 = p.length) = true := decide_eq_true hl
                  cases ho : opn vk
                  · have hck : ∀ U : World, Calls Tryd.prog 43 #[.int .i64 vk] U fun e w' => e = .returned (.bool false) ∧ U = w' := fun U => by rw [← ho]; exact opens_any vk U
                    have HV : Hid ((!(dq && !(decide (i + 1 = p.length) && opn vk))) = false) := by show _ = _; rw [HQ.out, hld, ho]; rfl
                    clear hl ho hld
                    refine wp_region_ext (by kernel_rfl) (by kernel_rfl) ?_
                    repeat (go_big_quiet_step (first | (go_at_call 43; exact Calls.ext_same (hck _)) | (go_at_call 43; exact Calls.ext_same (hcj _))))
                    refine wpQuiet_nil ?_
                    intro _ hw
                    obtain ⟨gg, rfl⟩ := hw
                    have hw1 := Le.ext w2 gg
                    generalize w2.ext gg = W2 at *
                    go_wp2
                    go_meet
                    exact ⟨congrArg Value.bool HV.out.symm, hw1⟩
                  · have hck : ∀ U : World, Calls Tryd.prog 43 #[.int .i64 vk] U fun e w' => e = .returned (.bool true) ∧ U = w' := fun U => by rw [← ho]; exact opens_any vk U
                    have HV : Hid ((!(dq && !(decide (i + 1 = p.length) && opn vk))) = true) := by show _ = _; rw [HQ.out, hld, ho]; rfl
                    clear hl ho hld
                    refine wp_region_ext (by kernel_rfl) (by kernel_rfl) ?_
                    repeat (go_big_quiet_step (first | (go_at_call 43; exact Calls.ext_same (hck _)) | (go_at_call 43; exact Calls.ext_same (hcj _))))
                    refine wpQuiet_nil ?_
                    intro _ hw
                    obtain ⟨gg, rfl⟩ := hw
                    have hw1 := Le.ext w2 gg
                    generalize w2.ext gg = W2 at *
                    go_wp2
                    go_meet
                    exact ⟨congrArg Value.bool HV.out.symm, hw1⟩
                · have hlb : ((i : Int) + 1 == (p.length : Int)) = false := bf (by omega)
                  have HV : Hid ((!(dq && !(decide (i + 1 = p.length) && opn vk))) = false) := by show _ = _; rw [HQ.out, decide_eq_false hl]; rfl
                  refine wp_region_ext (by kernel_rfl) (by kernel_rfl) ?_
                  repeat (go_big_quiet_step (first | (go_at_call 43; exact Calls.ext_same (hcj _))))
                  refine wpQuiet_nil ?_
                  intro _ hw
                  obtain ⟨gg, rfl⟩ := hw
                  have hw1 := Le.ext w2 gg
                  generalize w2.ext gg = W2 at *
                  go_wp2
                  go_meet
                  exact ⟨congrArg Value.bool HV.out.symm, hw1⟩
            · have hcj : ∀ U : World, Calls Tryd.prog 43 #[.int .i64 jk] U fun e w' => e = .returned (.bool true) ∧ U = w' := fun U => by rw [← hoj]; exact opens_any jk U
              by_cases hq : vd = jd + 1
              · have hqb : (vd == jd + 1) = true := by (rw [beq_iff_eq]; exact hq)
                have HQ : Hid (dq = true) := by show _ = _; rw [HDQ.out, hltb, hoj, hqb]; rfl
                clear HDQ hoj hlt hq
                by_cases hl : i + 1 = p.length
                · have hlb : ((i : Int) + 1 == (p.length : Int)) = true := by (rw [beq_iff_eq]; omega)
                  have hld : decide (i + 1 = p.length) = true := decide_eq_true hl
                  cases ho : opn vk
                  · have hck : ∀ U : World, Calls Tryd.prog 43 #[.int .i64 vk] U fun e w' => e = .returned (.bool false) ∧ U = w' := fun U => by rw [← ho]; exact opens_any vk U
                    have HV : Hid ((!(dq && !(decide (i + 1 = p.length) && opn vk))) = false) := by show _ = _; rw [HQ.out, hld, ho]; rfl
                    clear hl ho hld
                    refine wp_region_ext (by kernel_rfl) (by kernel_rfl) ?_
                    repeat (go_big_quiet_step (first | (go_at_call 43; exact Calls.ext_same (hck _)) | (go_at_call 43; exact Calls.ext_same (hcj _))))
                    refine wpQuiet_nil ?_
                    intro _ hw
                    obtain ⟨gg, rfl⟩ := hw
                    have hw1 := Le.ext w2 gg
                    generalize w2.ext gg = W2 at *
                    go_wp2
                    go_meet
                    exact ⟨congrArg Value.bool HV.out.symm, hw1⟩
                  · have hck : ∀ U : World, Calls Tryd.prog 43 #[.int .i64 vk] U fun e w' => e = .returned (.bool true) ∧ U = w' := fun U => by rw [← ho]; exact opens_any vk U
                    have HV : Hid ((!(dq && !(decide (i + 1 = p.length) && opn vk))) = true) := by show _ = _; rw [HQ.out, hld, ho]; rfl
                    clear hl ho hld
                    refine wp_region_ext (by kernel_rfl) (by kernel_rfl) ?_
                    repeat (go_big_quiet_step (first | (go_at_call 43; exact Calls.ext_same (hck _)) | (go_at_call 43; exact Calls.ext_same (hcj _))))
                    refine wpQuiet_nil ?_
                    intro _ hw
                    obtain ⟨gg, rfl⟩ := hw
                    have hw1 := Le.ext w2 gg
                    generalize w2.ext gg = W2 at *
                    go_wp2
                    go_meet
                    exact ⟨congrArg Value.bool HV.out.symm, hw1⟩
                · have hlb : ((i : Int) + 1 == (p.length : Int)) = false := bf (by omega)
                  have HV : Hid ((!(dq && !(decide (i + 1 = p.length) && opn vk))) = false) := by show _ = _; rw [HQ.out, decide_eq_false hl]; rfl
                  refine wp_region_ext (by kernel_rfl) (by kernel_rfl) ?_
                  repeat (go_big_quiet_step (first | (go_at_call 43; exact Calls.ext_same (hcj _))))
                  refine wpQuiet_nil ?_
                  intro _ hw
                  obtain ⟨gg, rfl⟩ := hw
                  have hw1 := Le.ext w2 gg
                  generalize w2.ext gg = W2 at *
                  go_wp2
                  go_meet
                  exact ⟨congrArg Value.bool HV.out.symm, hw1⟩
              · have hqb : (vd == jd + 1) = false := bf hq
                have HV : Hid ((!(dq && !(decide (i + 1 = p.length) && opn vk))) = true) := by show _ = _; rw [HDQ.out, hltb, hoj, hqb]; rfl
                clear HDQ hoj hlt hq
                refine wp_region_ext (by kernel_rfl) (by kernel_rfl) ?_
                repeat (go_big_quiet_step (first | (go_at_call 43; exact Calls.ext_same (hcj _))))
                refine wpQuiet_nil ?_
                intro _ hw
                obtain ⟨gg, rfl⟩ := hw
                have hw1 := Le.ext w2 gg
                generalize w2.ext gg = W2 at *
                go_wp2
                go_meet
                exact ⟨congrArg Value.bool HV.out.symm, hw1⟩
      case rest =>
        obtain ⟨rfl, hle⟩ := hcut
        generalize wc = w4 at *
        replace y0 := (hle.cell z2).trans y0
        replace y1 := (hle.cell z2).trans y1
        replace z2 := Nat.lt_of_lt_of_le z2 hle.size
        replace L2 := L2.trans hle
        replace S2 := S2.le hle
        clear hle E0 E1 HDP
        cases hz : (dq && !(decide (i + 1 = p.length) && opn vk))
        · have HF2 : Hid (R = false) := by show _ = _; rw [HG.out, hz]; rfl
          clear HG
          go_wp2
          go_ret
          exact ⟨ret_bool HF2.out.symm, L2⟩
        · have HH : Hid (R = ((vk != 7 || vChain p i) && (!jmp vk || inL p i) && (!fol vk || headOk p i))) := by show _ = _; rw [HG.out, hz, Bool.true_and]
          clear HG hz
          by_cases h7 : vk = 7
          · subst h7
            have HI : Hid (R = vChain p i) := by show _ = _; rw [HH.out]; simp [jmp, fol]
            clear HH
            go_wp2_with fail
            refine (validChain_any _ p.length cap p i hi hsm w4 S2).mono ?_
            rintro e w5 ⟨rfl, hle⟩
            replace y1 := (hle.cell z2).trans y1
            replace L2 := L2.trans hle
            cases hv : vChain p i
            · have HF2 : Hid (R = false) := by show _ = _; rw [HI.out, hv]
              clear HI
              go_wp2
              go_ret
              exact ⟨ret_bool HF2.out.symm, L2⟩
            · have HF2 : Hid (R = true) := by show _ = _; rw [HI.out, hv]
              clear HI
              go_wp2_with fail
              refine (follows_any 7 w5).mono ?_
              rintro e w6 ⟨rfl, rfl⟩
              rw [show fol 7 = false from rfl]
              go_wp2
              go_ret
              exact ⟨ret_bool HF2.out.symm, L2⟩
          · have h7b := bf h7
            have h7c : (vk != 7) = true := by simpa using h7
            by_cases hj : vk = 5 ∨ vk = 6
            · have HI : Hid (R = inL p i) := by
                show _ = _
                rw [HH.out, h7c]
                rcases hj with rfl | rfl <;> simp [jmp, fol]
              clear HH
              have hfj : fol vk = false := by rcases hj with rfl | rfl <;> rfl
              rcases hj with rfl | rfl
              all_goals
                go_wp2_with fail
                refine (sInLoop_any _ p.length cap p i hi (by omega) w4 S2).mono ?_
                rintro e w5 ⟨rfl, hle⟩
                replace y1 := (hle.cell z2).trans y1
                replace L2 := L2.trans hle
                cases hv : inL p i
                · have HF2 : Hid (R = false) := by show _ = _; rw [HI.out, hv]
                  clear HI
                  go_wp2
                  go_ret
                  exact ⟨ret_bool HF2.out.symm, L2⟩
                · have HF2 : Hid (R = true) := by show _ = _; rw [HI.out, hv]
                  clear HI
                  go_wp2_with fail
                  refine (follows_any _ w5).mono ?_
                  rintro e w6 ⟨rfl, rfl⟩
                  rw [hfj]
                  go_wp2
                  go_ret
                  exact ⟨ret_bool HF2.out.symm, L2⟩
            · have h5b : (vk == 5) = false := bf (by omega)
              have h6b : (vk == 6) = false := bf (by omega)
              have HI : Hid (R = (!fol vk || headOk p i)) := by show _ = _; rw [HH.out, h7c]; simp [jmp, h5b, h6b]
              clear HH
              go_wp2_with fail
              refine (follows_any vk w4).mono ?_
              rintro e w6 ⟨rfl, rfl⟩
              cases hf : fol vk
              · have HF2 : Hid (R = true) := by show _ = _; rw [HI.out, hf]; rfl
                clear HI
                go_wp2
                go_ret
                exact ⟨ret_bool HF2.out.symm, L2⟩
              · have HJ : Hid (R = (decide (0 ≤ headOf p i) && (knd p (headOf p i).toNat == 7 || fol (knd p (headOf p i).toNat)))) := by show _ = _; rw [HI.out, hf]; rfl
                clear HI
                go_wp2_with fail
                refine (headOf_any _ p.length cap p i hi (by omega) w4 S2).mono ?_
                rintro e w5 ⟨rfl, hle⟩
                replace L2 := L2.trans hle
                replace S2 := S2.le hle
                have hG := hGo_is p (dep p i) i
                have HG2 : Hid (headOf p i = hGo p (dep p i) i) := rfl
                rcases hG with ⟨hg, -⟩ | ⟨j, hg, hj2, -⟩
                · have hh : headOf p i = -1 := by rw [HG2.out, hg]
                  rw [hh] at HJ ⊢
                  have HF2 : Hid (R = false) := HJ.out
                  clear hg hh HG2 HJ
                  go_wp2
                  go_ret
                  exact ⟨ret_bool HF2.out.symm, L2⟩
                · have hh : headOf p i = (j : Int) := by rw [HG2.out, hg]
                  rw [hh] at HJ ⊢
                  have hjl : j < p.length := by omega
                  obtain ⟨bj, offj, ej, hbj, k0, k1, -⟩ := S2.lin_at hjl
                  injection ej with ej
                  injection ej with ej1 ej2
                  subst ej1
                  subst ej2
                  have HF1 : Hid (R = (p[j].kind == 7 || fol p[j].kind)) := by
                    show _ = _
                    rw [HJ.out, Int.toNat_natCast, knd_at hjl, decide_eq_true (by omega), Bool.true_and]
                  have hj0 : (0 : Int) ≤ (j : Int) := by omega
                  have hjn : (j : Int) < (p.length : Int) := by omega
                  have hj0b : decide ((0 : Int) ≤ (j : Int)) = true := decide_eq_true hj0
                  generalize p[j].kind = jk at *
                  clear hg hh HG2 HJ hj2 k0
                  by_cases hq : jk = 7
                  · have hqb : (jk == 7) = true := by simpa using hq
                    have HF2 : Hid (R = true) := by show _ = _; rw [HF1.out, hqb]; rfl
                    clear hq HF1
                    go_wp2
                    go_ret
                    exact ⟨ret_bool HF2.out.symm, L2⟩
                  · have hqb := bf hq
                    have HF2 : Hid (R = fol jk) := by show _ = _; rw [HF1.out, hqb, Bool.false_or]
                    clear HF1
                    go_wp2_with fail
                    refine (follows_any jk w5).mono ?_
                    rintro e w6 ⟨rfl, rfl⟩
                    go_wp2
                    go_ret
                    exact ⟨ret_bool HF2.out.symm, L2⟩
end

section
theorem ptGo_on {p : List Lin} {d : Int} {m k : Nat} (hm : p.length ≤ m + k) (hk : bEnd p k < p.length) (hd : dep p (bEnd p k) = d) (hf : mayF (knd p k) (knd p (bEnd p k)) = true) : ptGo p d m k = bEnd p k :: ptGo p d (m - 1) (bEnd p k) := by
  have := bEnd_gt p k
  obtain ⟨n, rfl⟩ : ∃ n, m = n + 1 := ⟨m - 1, by omega⟩
  show (if _ then _ else _) = _
  rw [if_pos ⟨hk, hd, hf⟩, Nat.add_sub_cancel]
theorem ptGo_off {p : List Lin} {d : Int} {m k : Nat} (h : ¬ (bEnd p k < p.length ∧ dep p (bEnd p k) = d ∧ mayF (knd p k) (knd p (bEnd p k)) = true)) : ptGo p d m k = [] := by
  cases m with
  | zero => rfl
  | succ m => exact if_neg h
set_option maxHeartbeats 2000000 in
set_option maxRecDepth 100000 in
theorem partsOf_any (A : Option Addr) (n cap : Nat) (p : List Lin) (i : Nat) (hi : i < p.length) (hsm : p.length ≤ 1048576) (w : World) (hR : Sl w A n cap p) :
    Calls Tryd.prog 58 #[.slice A n cap, .int .i64 i] w fun e w' => ∃ v, e = .returned v ∧ Owd 3 w w' v (nI (parts p i)) ∧ Le w w' := by
  obtain rfl := hR.len
  obtain ⟨i0, hq, hz0, hz1, hz2⟩ := info_parts intInfoB
  obtain ⟨b, off, rfl, hb, d0, -⟩ := hR.lin_at hi
  have hDi : Hid (dep p i = p[i].depth) := dep_at hi
  generalize p[i].depth = di at *
  go_enter Tryd.func58, Tryd.ntmps58
  go_wp2_with fail
  have O1 : (w.alloc (.cells #[.int .i64 (i : Int)] 3)).ownsRow w.heap.size 3 1 (.slice (some ⟨w.heap.size, 0, none⟩) 1 1) 1 [.int .i64 (i : Int)] := World.ownsRow_lit (base := w.heap.size) (e := 3) (size := 1) w #[.int .i64 (i : Int)] 1 (Nat.le_refl _) (by unfold maxLen; omega) (by simp)
  have L1 := Le.new w (.cells #[.int .i64 (i : Int)] 3)
  generalize w.alloc (.cells #[.int .i64 (i : Int)] 3) = W at *
  go_loopw [5, 6] (fun v kk wr => ∃ (k : Nat) (out : List Nat) (m : Nat) (A' : Option Addr) (c' : Nat), kk = .int .i64 k ∧ k < p.length ∧ v = .slice A' out.length c' ∧ parts p i = out ++ ptGo p (dep p i) m k ∧ p.length ≤ m + k ∧ (∀ x ∈ out, x < p.length) ∧ out.length ≤ k + 1 ∧
      wr.ownsRow w.heap.size 3 1 (.slice A' out.length c') out.length ((nI out).flatMap Enc.cells) ∧ Le w wr) (fun _ kk _ => p.length - (intOf kk).toNat)
  case atStart => exact ⟨i, [i], p.length, _, _, rfl, hi, rfl, rfl, by omega, fun x hx => by (have := List.mem_singleton.1 hx; omega), by simp, O1, L1⟩
  case round =>
    obtain ⟨k, out, m, A', c', rfl, hkp, rfl, he, hm, hin, hol, OW, L⟩ := hrel
    have HE := Lib.hid he
    have HI := Lib.hid hin
    have T := hR.le L
    have hk0 : (0 : Int) ≤ (k : Int) := by omega
    have hkn : (k : Int) < (p.length : Int) := by omega
    have hi0 : (0 : Int) ≤ (i : Int) := by omega
    have hin0 : (i : Int) < (p.length : Int) := by omega
    have hoko : Hid (∀ y ∈ nI out, Enc.ok y) := fun y hy => by
      obtain ⟨x, hx, rfl⟩ := List.mem_map.1 hy
      have := hin x hx
      exact ⟨by omega, by omega⟩
    clear he hin O1 L1
    go_wp2_with fail
    refine (iBlockEnd_any _ p.length cap p k hkp wr T).mono ?_
    rintro e w2 ⟨rfl, hl2⟩
    have L3 := L.trans hl2
    have O3 := own_le OW hl2
    have T3 := hR.le L3
    have hble := bEnd_le hkp
    have hbg := bEnd_gt p k
    have E0 := cell_ext (Nat.lt_of_lt_of_le hb L3.size) ((L3.cell hb).trans d0)
    obtain ⟨b2, off2, e2, hb2, -, k1, -⟩ := T3.lin_at hkp
    cases e2
    have K0 := cell_ext hb2 k1
    have hKk : Hid (knd p k = p[k].kind) := knd_at hkp
    generalize p[k].kind = kk at *
    have hn0 : (0 : Int) ≤ (bEnd p k : Int) := by omega
    clear OW L hl2 T k1
    by_cases hlt : bEnd p k < p.length
    · have hnn : (bEnd p k : Int) < (p.length : Int) := by omega
      have hne : ((bEnd p k : Int) == (p.length : Int)) = false := bf (by omega)
      obtain ⟨b3, off3, e3, hb3, n0, n1, -⟩ := T3.lin_at hlt
      cases e3
      have N0 := cell_ext hb3 n0
      have N1 := cell_ext hb3 n1
      have hDn : Hid (dep p (bEnd p k) = p[bEnd p k].depth) := dep_at hlt
      have hKn : Hid (knd p (bEnd p k) = p[bEnd p k].kind) := knd_at hlt
      generalize p[bEnd p k].depth = dn at *
      generalize p[bEnd p k].kind = kn at *
      clear n0 n1 T3
      by_cases hd : dn = di
      · have hde : (dn == di) = true := by simpa using hd
        have hc := fun U : World => mayFollow_any kk kn U
        cases hf : mayF kk kn
        · rw [hf] at hc
          have HF : Hid (Owd 3 w w2 (.slice A' out.length c') (nI (parts p i))) := by
            show Owd _ _ _ _ _
            rw [HE.out, ptGo_off (by rw [hKk.out, hKn.out, hf]; simp), List.append_nil]
            exact ⟨by rw [nI_len]; exact O3, hoko.out⟩
          clear HE
          go_wp2_with fail
          refine wp_region_ext (by kernel_rfl) (by kernel_rfl) ?_
          repeat (go_big_quiet_step (first | (go_at_call 73; exact Calls.ext_same (hc _))))
          refine wpQuiet_nil ?_
          intro _ hw'
          obtain ⟨gg, rfl⟩ := hw'
          have hw1 := Le.ext w2 gg
          have O4 := own_le O3 hw1
          have L4 := L3.trans hw1
          clear E0 K0 O3 L3
          generalize w2.ext gg = W2 at *
          go_wp2
          go_ret
          exact ⟨_, rfl, ⟨own_le HF.out.row hw1, HF.out.ok⟩, L4⟩
        · rw [hf] at hc
          have HN : Hid (parts p i = (out ++ [bEnd p k]) ++ ptGo p (dep p i) (m - 1) (bEnd p k)) := by
            show _ = _
            rw [HE.out, ptGo_on hm hlt (by rw [hDn.out, hDi.out, hd]) (by rw [hKk.out, hKn.out, hf]), List.append_assoc]; rfl
          clear HE
          go_wp2_with fail
          refine wp_region_ext (by kernel_rfl) (by kernel_rfl) ?_
          repeat (go_big_quiet_step (first | (go_at_call 73; exact Calls.ext_same (hc _))))
          refine wpQuiet_nil ?_
          intro _ hw'
          obtain ⟨gg, rfl⟩ := hw'
          have hw1 := Le.ext w2 gg
          have O4 := own_le O3 hw1
          have L4 := L3.trans hw1
          clear E0 K0 O3 L3
          generalize w2.ext gg = W2 at *
          go_wp2_with (at_builtin; refine wpList_append_own _ rfl _ _ 89 rfl w.heap.size 3 i0 (.int .i64 0) 1 8 Tryd.underlying89 hq hz0 hz1 hz2 rfl (by decide) _ _ _ rfl (O4.alloc _) ⟨W2.heap.size, 0, none⟩ 1 1 [.int .i64 (bEnd p k : Nat)] rfl rfl (one_newB _ _ _) (by intro u hu; simp at hu; subst hu; rfl) (by unfold maxLen; omega) (by omega) (by have := L4.size; simp; omega) ?_; intro v1 w1 hown1 hg1 _; have hle1 := (L4.alloc (.cells #[.int .i64 (bEnd p k : Nat)] 3)).grown hg1 (fun j hj => (O4.lt j hj).1))
          obtain ⟨A5, q5, rfl⟩ := own_form hown1
          clear hg1
          go_wp2
          go_roundw
          case rel =>
            refine ⟨bEnd p k, out ++ [bEnd p k], m - 1, A5, q5, rfl, hlt, by simp, HN.out, by omega, ?_, by simp; omega, ?_, hle1⟩
            · intro x hx
              rcases List.mem_append.1 hx with h | h
              · exact HI.out x h
              · rw [List.mem_singleton.1 h]; exact hlt
            · simpa [nI, Enc.cells] using hown1
          case measure => simp [intOf]; omega
      · have hde : (dn == di) = false := bf hd
        have hdn : (dn != di) = true := by simpa using hd
        have HF : Hid (Owd 3 w w2 (.slice A' out.length c') (nI (parts p i))) := by
          show Owd _ _ _ _ _
          rw [HE.out, ptGo_off (by rw [hDn.out, hDi.out]; exact fun h => hd h.2.1), List.append_nil]
          exact ⟨by rw [nI_len]; exact O3, hoko.out⟩
        clear HE
        go_wp2_with fail
        refine wp_region_ext (by kernel_rfl) (by kernel_rfl) ?_
        repeat (go_big_quiet_step (fail))
        refine wpQuiet_nil ?_
        intro _ hw'
        obtain ⟨gg, rfl⟩ := hw'
        have hw1 := Le.ext w2 gg
        have O4 := own_le O3 hw1
        have L4 := L3.trans hw1
        clear E0 K0 O3 L3
        generalize w2.ext gg = W2 at *
        go_wp2
        go_ret
        exact ⟨_, rfl, ⟨own_le HF.out.row hw1, HF.out.ok⟩, L4⟩
    · have hne : ((bEnd p k : Int) == (p.length : Int)) = true := by (rw [beq_iff_eq]; omega)
      have HF : Hid (Owd 3 w w2 (.slice A' out.length c') (nI (parts p i))) := by
        show Owd _ _ _ _ _
        rw [HE.out, ptGo_off (by exact fun h => hlt h.1), List.append_nil]
        exact ⟨by rw [nI_len]; exact O3, hoko.out⟩
      clear HE
      go_wp2_with fail
      refine wp_region_ext (by kernel_rfl) (by kernel_rfl) ?_
      repeat (go_big_quiet_step (fail))
      refine wpQuiet_nil ?_
      intro _ hw'
      obtain ⟨gg, rfl⟩ := hw'
      have hw1 := Le.ext w2 gg
      have O4 := own_le O3 hw1
      have L4 := L3.trans hw1
      clear E0 K0 O3 L3
      generalize w2.ext gg = W2 at *
      go_wp2
      go_ret
      exact ⟨_, rfl, ⟨own_le HF.out.row hw1, HF.out.ok⟩, L4⟩
end

section
def lnA (p : List Lin) (i : Nat) : Int := match p[i]? with | some x => x.a | none => 0
theorem lnA_at {p : List Lin} {i : Nat} (h : i < p.length) : lnA p i = p[i].a := by unfold lnA; rw [List.getElem?_eq_getElem h]
/-- the lines LnExcept of some lines, and their classes -/
def exF (p : List Lin) (L : List Nat) : List Nat := L.filter fun k => knd p k == 8
def exL (p : List Lin) (i : Nat) : List Nat := exF p (parts p i)
def clF (p : List Lin) (L : List Nat) : List Int := (exF p L).map (lnA p)
def clL (p : List Lin) (i : Nat) : List Int := clF p (parts p i)
theorem exs_len (p : List Lin) (L : List Nat) : exs p L = (exF p L).length := List.countP_eq_length_filter
theorem clF_len (p : List Lin) (L : List Nat) : (clF p L).length = (exF p L).length := by unfold clF; simp
theorem exF_snoc (p : List Lin) (L : List Nat) (k : Nat) : exF p (L ++ [k]) = exF p L ++ (if knd p k = 8 then [k] else []) := by
  unfold exF
  rw [List.filter_append]
  by_cases h : knd p k = 8
  · rw [if_pos h]; simp [h]
  · rw [if_neg h]; simp [h]
theorem exF_yes {p : List Lin} {L : List Nat} {q : Nat} (hq : q < L.length) (h : knd p L[q] = 8) : exF p (L.take (q + 1)) = exF p (L.take q) ++ [L[q]] := by
  rw [List.take_succ_eq_append_getElem hq, exF_snoc, if_pos h]
theorem exF_no {p : List Lin} {L : List Nat} {q : Nat} (hq : q < L.length) (h : knd p L[q] ≠ 8) : exF p (L.take (q + 1)) = exF p (L.take q) := by
  rw [List.take_succ_eq_append_getElem hq, exF_snoc, if_neg h, List.append_nil]
theorem clF_yes {p : List Lin} {L : List Nat} {q : Nat} (hq : q < L.length) (h : knd p L[q] = 8) : clF p (L.take (q + 1)) = clF p (L.take q) ++ [lnA p L[q]] := by
  unfold clF; rw [exF_yes hq h, List.map_append]; rfl
theorem clF_no {p : List Lin} {L : List Nat} {q : Nat} (hq : q < L.length) (h : knd p L[q] ≠ 8) : clF p (L.take (q + 1)) = clF p (L.take q) := by
  unfold clF; rw [exF_no hq h]
theorem exF_len (p : List Lin) (L : List Nat) : (exF p L).length ≤ L.length := List.length_filter_le _ _
theorem exF_take_len (p : List Lin) (L : List Nat) (q : Nat) : (exF p (L.take q)).length ≤ q := Nat.le_trans (exF_len _ _) (by rw [List.length_take]; omega)
theorem ptGo_lt (p : List Lin) (d : Int) : ∀ m k, ∀ x ∈ ptGo p d m k, x < p.length
  | 0, _, x, h => by simp [ptGo] at h
  | m + 1, k, x, h => by
    unfold ptGo at h
    split at h
    · rename_i hc
      rcases List.mem_cons.1 h with rfl | h
      · exact hc.1
      · exact ptGo_lt p d m _ x h
    · cases h
theorem parts_lt {p : List Lin} {i : Nat} (hi : i < p.length) : ∀ x ∈ parts p i, x < p.length := by
  intro x hx
  rcases List.mem_cons.1 hx with rfl | hx
  · exact hi
  · exact ptGo_lt _ _ _ _ x hx
theorem ptGo_len (p : List Lin) (d : Int) : ∀ m k, (ptGo p d m k).length ≤ m
  | 0, _ => Nat.le_refl _
  | m + 1, k => by
    unfold ptGo
    split
    · have := ptGo_len p d m (bEnd p k); simp; omega
    · simp
theorem parts_len (p : List Lin) (i : Nat) : (parts p i).length ≤ p.length + 1 := by
  have := ptGo_len p (dep p i) p.length i
  unfold parts; simp; omega
theorem nI_ok {L : List Nat} {n : Nat} (h : ∀ x ∈ L, x < n) (hn : n ≤ 1048576) : ∀ y ∈ nI L, Enc.ok y := fun y hy => by
  obtain ⟨x, hx, rfl⟩ := List.mem_map.1 hy
  have := h x hx
  exact ⟨by omega, by omega⟩
theorem nI_snoc (L : List Nat) (k : Nat) : nI (L ++ [k]) = nI L ++ [(k : Int)] := by unfold nI; simp
theorem clF_ok {p : List Lin} {L : List Nat} (hok : ∀ x ∈ p, Enc.ok x) (hL : ∀ x ∈ L, x < p.length) : ∀ y ∈ clF p L, Enc.ok y := fun y hy => by
  obtain ⟨x, hx, rfl⟩ := List.mem_map.1 hy
  have hx' := hL x (List.mem_filter.1 hx).1
  rw [lnA_at hx']
  have := hok _ (List.getElem_mem hx')
  exact ⟨this.2.2.2.2.1, this.2.2.2.2.2.1⟩
/-- two rows of the call's own in two blocks -/
def Apart (v u : Value) : Prop := v.ownBlock = none ∨ v.ownBlock ≠ u.ownBlock
theorem Apart.symm {v u : Value} (h : Apart v u) : Apart u v := by
  rcases h with h | h
  · unfold Apart; rw [h]
    cases u.ownBlock
    · exact .inl rfl
    · exact .inr (by simp)
  · exact .inr (Ne.symm h)
theorem Apart.new {w : World} {v u v1 : Value} {base size n m : Nat} {e : TypeId} {xs : List Value} (h : Apart v u) (hu : w.ownsRow base e size u n xs) (hat : v1.ownBlock = v.ownBlock ∨ v1.ownBlock = some m) (hm : w.heap.size ≤ m) : Apart v1 u := by
  rcases hat with h1 | h1
  · unfold Apart; rw [h1]; exact h
  · refine .inr fun e => ?_
    rw [h1] at e
    have := (hu.lt m e.symm).2
    omega
set_option maxHeartbeats 2000000 in
set_option maxRecDepth 100000 in
theorem exceptsOf_any (A : Option Addr) (n cap : Nat) (p : List Lin) (i : Nat) (hi : i < p.length) (hsm : p.length ≤ 1048576) (w : World) (hR : Sl w A n cap p) :
    Calls Tryd.prog 59 #[.slice A n cap, .int .i64 i] w fun e w' => ∃ v u, e = .returned (.tuple #[v, u]) ∧ Owd 3 w w' v (nI (exL p i)) ∧ Owd 3 w w' u (clL p i) ∧ Le w w' := by
  obtain rfl := hR.len
  have HOK := Lib.hid hR.ok
  have HPL := Lib.hid (parts_lt hi)
  have hpl := parts_len p i
  obtain ⟨i0, hq, hz0, hz1, hz2⟩ := info_parts intInfoB
  have HX1 : Hid (exL p i = exF p (parts p i)) := rfl
  have HX2 : Hid (clL p i = clF p (parts p i)) := rfl
  go_enter Tryd.func59, Tryd.ntmps59
  go_wp2_with fail
  refine (partsOf_any _ p.length cap p i hi hsm w hR).mono ?_
  rintro e w1 ⟨v, rfl, D1, hl1⟩
  obtain ⟨A1, q1, rfl, S1, hB1⟩ := D1.form (by decide)
  have T1 := hR.le hl1
  generalize parts p i = P at *
  clear hR D1
  rw [nI_len] at *
  go_wp2
  go_loopw [4, 5, 7, 12] (fun v u _ q wr => ∃ (k : Nat) (A' B' : Option Addr) (c' d' : Nat), k ≤ P.length ∧ q = .int .i64 k ∧ v = .slice A' (exF p (P.take k)).length c' ∧ u = .slice B' (exF p (P.take k)).length d' ∧
      wr.ownsRow w1.heap.size 3 1 v (exF p (P.take k)).length ((nI (exF p (P.take k))).flatMap Enc.cells) ∧ wr.ownsRow w1.heap.size 3 1 u (exF p (P.take k)).length ((clF p (P.take k)).flatMap Enc.cells) ∧
      Apart v u ∧ Le w1 wr) (fun _ _ _ q _ => P.length - (intOf q).toNat)
  case atStart => exact ⟨0, none, none, 0, 0, Nat.zero_le _, rfl, rfl, rfl, World.ownsRow_nil _ _ _ _, World.ownsRow_nil _ _ _ _, .inl rfl, Le.refl _⟩
  case round =>
    obtain ⟨k, A', B', c', d', hk, rfl, rfl, rfl, O1, O2, hne, L⟩ := hrel
    have SP := S1.le L
    have hfl := exF_take_len p P k
    have hLsz := L.size
    by_cases hlt : k < P.length
    · obtain ⟨b, off, rfl, hb, hc, -⟩ := S1.int_at (k := k) (by rw [nI_len]; exact hlt)
      replace hc := (L.cell hb).trans hc
      rw [nI_at hlt] at hc
      have hx := HPL.out P[k] (List.getElem_mem hlt)
      have HY8 : Hid (knd p P[k] = p[P[k]].kind) := knd_at hx
      have HA := Lib.hid (lnA_at hx)
      have HE1 := Lib.hid (exF_yes (p := p) hlt)
      have HE0 := Lib.hid (exF_no (p := p) hlt)
      have HC1 := Lib.hid (clF_yes (p := p) hlt)
      have HC0 := Lib.hid (clF_no (p := p) hlt)
      obtain ⟨b2, off2, rfl, hb2, -, d1, d2, -⟩ := T1.lin_at hx
      replace d1 := (L.cell hb2).trans d1
      replace d2 := (L.cell hb2).trans d2
      clear T1 S1 SP
      have hokA : Enc.ok p[P[k]].a := by
        have := HOK.out _ (List.getElem_mem hx)
        exact ⟨this.2.2.2.2.1, this.2.2.2.2.2.1⟩
      generalize p[P[k]].kind = kd at *
      generalize p[P[k]].a = va at *
      generalize P[k] = x at *
      have hx0 : (0 : Int) ≤ (x : Int) := by omega
      have hxn : (x : Int) < (p.length : Int) := by omega
      have hokx : Enc.ok (x : Int) := ⟨by omega, by omega⟩
      by_cases h8 : kd = 8
      · subst h8
        have N1 : Hid (exF p (P.take (k + 1)) = exF p (P.take k) ++ [x]) := HE1.out HY8.out
        have N2 : Hid (clF p (P.take (k + 1)) = clF p (P.take k) ++ [va]) := (HC1.out HY8.out).trans (by rw [HA.out])
        clear HE1 HE0 HC1 HC0
        generalize exF p (P.take k) = E at *
        generalize clF p (P.take k) = C at *
        have HB := Lib.hid (fun j hj => (O1.lt j hj).1)
        have HB2 := Lib.hid (fun j hj => (O2.lt j hj).1)
        go_wp2_with (first | (at_builtin; refine wpList_append_sl rfl _ _ 89 rfl w1.heap.size 3 i0 _ 8 Tryd.underlying89 hq hz0 hz1 hz2 rfl (.slice A' E.length c') E.length (nI E) rfl (O1.alloc _) _ 1 1 [(x : Int)] rfl (sl_one (x : Int) rfl hokx rfl) (by unfold maxLen; omega) (by omega) (L.alloc _).size ?_; intro v1 w3 OA hgA hatA; have L3 := (L.alloc _).grown hgA HB.out; have d3 := (L3.cell hb2).trans ((L.cell hb2).symm.trans d2); have OB := (O2.alloc _).kept hgA hne.symm; have hn3 := hne.new (O2.alloc _) hatA (Nat.le_refl _); have g3 := L3.size; clear O1 hgA hatA) | (at_builtin; refine wpList_append_sl rfl _ _ 89 rfl w1.heap.size 3 i0 _ 8 Tryd.underlying89 hq hz0 hz1 hz2 rfl (.slice B' E.length d') E.length C rfl (OB.alloc _) _ 1 1 [va] rfl (sl_one va rfl hokA rfl) (by unfold maxLen; omega) (by omega) (L3.alloc _).size ?_; intro u1 w4 OC hgC hatC; have L4 := (L3.alloc _).grown hgC HB2.out; have OD := (OA.alloc _).kept hgC hn3; have hn4 := (hn3.symm.new (OA.alloc _) hatC (Nat.le_refl _)).symm; clear OB hgC hatC))
        obtain ⟨A5, q5, rfl⟩ := own_form OD
        obtain ⟨A6, q6, rfl⟩ := own_form OC
        go_roundw
        case rel =>
          refine ⟨k + 1, A5, A6, q5, q6, by omega, by go_num, by rw [N1.out]; simp, by rw [N1.out]; simp, ?_, ?_, hn4, L4⟩
          · rw [N1.out, nI_snoc, List.length_append]; exact OD
          · rw [N1.out, N2.out, List.length_append]; exact OC
        case measure => simp [intOf]; omega
      · have h8b := bf h8
        have N1 : Hid (exF p (P.take (k + 1)) = exF p (P.take k)) := HE0.out (by rw [HY8.out]; exact h8)
        have N2 : Hid (clF p (P.take (k + 1)) = clF p (P.take k)) := HC0.out (by rw [HY8.out]; exact h8)
        go_wp2
        go_roundw
        case rel => exact ⟨k + 1, A', B', c', d', by omega, by go_num, by rw [N1.out], by rw [N1.out], by rw [N1.out]; exact O1, by rw [N1.out, N2.out]; exact O2, hne, L⟩
        case measure => simp [intOf]; omega
    · obtain rfl : k = P.length := by omega
      have hokE : Hid (∀ y ∈ nI (exF p P), Enc.ok y) := nI_ok (fun x hx => HPL.out x (List.mem_filter.1 hx).1) hsm
      have hokC : Hid (∀ y ∈ clF p P, Enc.ok y) := clF_ok HOK.out HPL.out
      rw [List.take_length] at O1 O2
      have HD1 : Hid (Owd 3 w wr (.slice A' (exF p (P.take P.length)).length c') (nI (exF p P))) := by
        show Owd _ _ _ _ _
        rw [List.take_length]
        exact ⟨own_mono (by rw [nI_len]; exact O1) hl1.size, hokE.out⟩
      have HD2 : Hid (Owd 3 w wr (.slice B' (exF p (P.take P.length)).length d') (clF p P)) := by
        show Owd _ _ _ _ _
        rw [List.take_length]
        exact ⟨own_mono (by rw [clF_len]; exact O2) hl1.size, hokC.out⟩
      clear O1 O2
      go_wp2
      exact bodyPost_ret (v := .tuple #[.slice A' (exF p (P.take P.length)).length c', .slice B' (exF p (P.take P.length)).length d']) (by simp [results, Tryd.results59, go_sem]) rfl ⟨_, _, rfl, by rw [HX1.out]; exact HD1.out, by rw [HX2.out]; exact HD2.out, hl1.trans L⟩
end

section
instance instEncBool : Enc Bool := ⟨1, fun x => [.bool x], fun _ => True, fun _ => rfl⟩
theorem flat_set {α : Type} [Enc α] (y : α) (v : Value) (j : Nat) (hj : j < Enc.size α) : ∀ (xs : List α) (k : Nat) (hk : k < xs.length), (Enc.cells xs[k]).set j v = Enc.cells y → (xs.flatMap Enc.cells).set (k * Enc.size α + j) v = (xs.set k y).flatMap Enc.cells := by
  intro xs
  induction xs with
  | nil => intro k hk; simp at hk
  | cons x r ih =>
    intro k hk hy
    rw [List.flatMap_cons]
    cases k with
    | zero =>
      rw [Nat.zero_mul, Nat.zero_add, List.set_append_left _ _ (by rw [Enc.len]; exact hj)]
      simp only [List.getElem_cons_zero] at hy
      rw [hy]; rfl
    | succ k =>
      have hle : (Enc.cells x).length ≤ (k + 1) * Enc.size α + j := by rw [Enc.len, Nat.succ_mul]; omega
      have hsub : (k + 1) * Enc.size α + j - (Enc.cells x).length = k * Enc.size α + j := by rw [Enc.len, Nat.succ_mul]; omega
      rw [List.set_append_right _ _ hle, hsub, ih k (by simpa using hk) (by simpa using hy)]
      rfl
theorem boolInfo : (Tryd.prog.info? 4).map (fun i => (i.zero, i.size, i.bytes)) = some (some (.bool false), 1, 1) := by kernel_rfl
theorem made_bools (n : Nat) : (madeCells (Value.bool false).cells (n * 1)).toList = ((List.replicate n false).flatMap (Enc.cells (α := Bool))) := by
  have : ∀ n, (List.replicate n false).flatMap (Enc.cells (α := Bool)) = List.replicate n (.bool false) := by
    intro n
    induction n with
    | zero => rfl
    | succ n ih => rw [List.replicate_succ, List.flatMap_cons, ih, List.replicate_succ]; rfl
  rw [this]
  refine List.ext_getElem (by simp [madeCells]) (fun i h1 h2 => ?_)
  simp [madeCells, Value.cells, Nat.mod_one]
theorem flat_bool (xs : List Bool) (i : Nat) (hi : i < xs.length) (b : Bool) : (xs.flatMap (Enc.cells (α := Bool))).set i (.bool b) = (xs.set i b).flatMap Enc.cells := by
  have := flat_set b (.bool b) 0 (by decide) xs i hi rfl
  simpa [Enc.size] using this
theorem cell_bool {w : World} {base n g c : Nat} {fd : List Bool} (h : w.ownsRow base 4 1 (.slice (some ⟨g, 0, none⟩) n c) n (fd.flatMap Enc.cells)) {k : Nat} (hk : k < fd.length) (hl : fd.length = n) : w.cell? ⟨g, k, none⟩ = some (.bool fd[k]) := by
  rw [h.cellAt k (by omega), show (fd.flatMap (Enc.cells (α := Bool)))[k]? = _ from by simpa [Enc.size] using flat_at fd k hk 0 (by decide)]; rfl
end
end Go.Proofs.YtkcnjoikdalgjaaDoor
