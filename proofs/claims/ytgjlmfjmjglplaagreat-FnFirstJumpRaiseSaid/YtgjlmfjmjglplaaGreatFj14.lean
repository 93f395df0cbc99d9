/- one text of PhH, PhP -/
import Derived.Test.YtgjlmfjmjglplaaGreatFj11
import Derived.Test.YtgjlmfjmjglplaaGreatFj12
import Derived.Test.YtgjlmfjmjglplaaGreatFj13
import Derived.Deep.Cut
namespace Go.Proofs.YtgjlmfjmjglplaaGreat
open Go.RowKit
set_option linter.unusedVariables false
section
def jmp (k : Int) : Bool := k == 5 || k == 6
def lineB (n : Nat) (p : List Lin) (i : Nat) (x : Lin) : Bool := rng 0 (mostA n x.kind) x.a && rng 0 (mostB x.kind) x.b && depB p i && (!jmp x.kind || inL p i)
theorem box4b (w : World) (a b c d : Value) (T : TypeId) : (w.alloc (.cells #[a, b, c, d] T)).cell? ⟨w.heap.size, 2, none⟩ = some c ∧ (w.alloc (.cells #[a, b, c, d] T)).cell? ⟨w.heap.size, 3, none⟩ = some d := by
  refine ⟨?_, ?_⟩ <;> (rw [World.cell?_alloc_at _ _ _ _ rfl]; rfl)
set_option maxHeartbeats 1000000 in
theorem validLine_any (B A : Option Addr) (m c n cap : Nat) (p : List Lin) (i : Nat) (hi : i < p.length) (hm : m ≤ 1048576) (hsm : p.length ≤ 1048576) (hpr : 0 < i → 0 ≤ dep p (i - 1) ∧ dep p (i - 1) ≤ 5) (w : World) (hR : Sl w A n cap p) :
    Calls Tryz.prog 32 #[.agg #[.slice B m c], .slice A n cap, .int .i64 i] w fun e w' => e = .returned (.bool (lineB m p i p[i])) ∧ Le w w' := by
  obtain rfl := hR.len
  have HP := Lib.hid hpr
  obtain ⟨b, off, rfl, hb, d0, d1, d2, d3, -⟩ := hR.lin_at hi
  have HF : Hid (lineB m p i p[i] = (rng 0 (mostA m p[i].kind) p[i].a && rng 0 (mostB p[i].kind) p[i].b && depB p i && (!jmp p[i].kind || inL p i))) := rfl
  have hin : (i : Int) < (p.length : Int) := by omega
  have hi0 : (0 : Int) ≤ (i : Int) := by omega
  generalize lineB m p i p[i] = R at *
  generalize p[i].depth = vd at *
  generalize p[i].kind = vk at *
  generalize p[i].a = va at *
  generalize p[i].b = vb at *
  clear hpr
  go_enter Tryz.func32, Tryz.ntmps32
  go_wp2_with fail
  have hsz : (w.alloc (.cells #[.slice B m c] 25)).heap.size = w.heap.size + 1 := by simp
  obtain ⟨x0, x1, x4, L1⟩ := box4 (w.alloc (.cells #[.slice B m c] 25)) (.int .i64 vd) (.int .i64 vk) (.int .i64 va) (.int .i64 vb) 31
  obtain ⟨x2, x3⟩ := box4b (w.alloc (.cells #[.slice B m c] 25)) (.int .i64 vd) (.int .i64 vk) (.int .i64 va) (.int .i64 vb) 31
  rw [hsz] at x0 x1 x2 x3 x4
  have L2 := (Le.new w (.cells #[.slice B m c] 25)).trans L1
  clear L1 hsz d0 d1 d2 d3
  generalize w.heap.size + 1 = X at *
  generalize (w.alloc (.cells #[.slice B m c] 25)).alloc _ = W at *
  refine (mostNumbers_any B m c vk W hm).mono ?_
  rintro e w2 ⟨rfl, hl⟩
  have y1 := (hl.cell x4).trans x1
  have y2 := (hl.cell x4).trans x2
  have y3 := (hl.cell x4).trans x3
  have y4 : X < w2.heap.size := Nat.lt_of_lt_of_le x4 hl.size
  have L3 := L2.trans hl
  have T := hR.le L3
  clear x0 x1 x2 x3 x4 L2 hl hR
  generalize mostA m vk = na at *
  generalize mostB vk = nb at *
  go_wp2_with fail
  refine (iRange_any va 0 na w2).mono ?_
  rintro e w3 ⟨rfl, rfl⟩
  cases r1 : rng 0 na va
  · have HF2 : Hid (R = false) := by show _ = _; rw [HF.out, r1]; rfl
    clear HF
    go_wp2
    go_ret
    exact ⟨ret_bool HF2.out.symm, L3⟩
  · go_wp2_with fail
    refine (iRange_any vb 0 nb w2).mono ?_
    rintro e w3 ⟨rfl, rfl⟩
    cases r2 : rng 0 nb vb
    · have HF2 : Hid (R = false) := by show _ = _; rw [HF.out, r1, r2]; rfl
      clear HF
      go_wp2
      go_ret
      exact ⟨ret_bool HF2.out.symm, L3⟩
    · go_wp2_with fail
      refine (validLineDepth_any _ p.length cap p i hi hsm HP.out w2 T).mono ?_
      rintro e w3 ⟨rfl, hl3⟩
      have z1 := (hl3.cell y4).trans y1
      have T3 := T.le hl3
      have L4 := L3.trans hl3
      have z4 : X < w3.heap.size := Nat.lt_of_lt_of_le y4 hl3.size
      clear y1 y2 y3 y4 T L3 hl3
      cases r3 : depB p i
      · have HF2 : Hid (R = false) := by show _ = _; rw [HF.out, r1, r2, r3]; rfl
        clear HF
        go_wp2
        go_ret
        exact ⟨ret_bool HF2.out.symm, L4⟩
      · have HG : Hid (R = (!jmp vk || inL p i)) := by show _ = _; rw [HF.out, r1, r2, r3]; rfl
        clear HF
        by_cases h5 : vk = 5
        · subst h5
          have HF2 : Hid (R = inL p i) := HG.out
          clear HG
          go_wp2_with fail
          refine (iInLoop_any _ p.length cap p i hi hsm w3 T3).mono ?_
          rintro e w4 ⟨rfl, hl4⟩
          go_wp2
          go_ret
          exact ⟨ret_bool HF2.out.symm, L4.trans hl4⟩
        · by_cases h6 : vk = 6
          · subst h6
            have HF2 : Hid (R = inL p i) := HG.out
            clear HG
            go_wp2_with fail
            refine (iInLoop_any _ p.length cap p i hi hsm w3 T3).mono ?_
            rintro e w4 ⟨rfl, hl4⟩
            go_wp2
            go_ret
            exact ⟨ret_bool HF2.out.symm, L4.trans hl4⟩
          · have b5 := bf h5
            have b6 := bf h6
            have HF2 : Hid (R = true) := by show _ = _; rw [HG.out]; unfold jmp; rw [b5, b6]; rfl
            clear HG
            go_wp2
            go_ret
            exact ⟨ret_bool HF2.out.symm, L4⟩
theorem lineB_iff (xs : List Cls) (p : List Lin) (i : Nat) (h : i < p.length) : lineB xs.length p i p[i] = true ↔ lineI xs p i p[i] := by
  unfold lineB lineI jmp
  rw [Bool.and_eq_true, Bool.and_eq_true, Bool.and_eq_true, depB_iff, inL_up, and_assoc, and_assoc]
  refine and_congr_right fun _ => and_congr_right fun _ => and_congr_right fun _ => ?_
  rw [Bool.or_eq_true, Bool.not_eq_true', Bool.or_eq_false_iff, beq_eq_false_iff_ne, beq_eq_false_iff_ne]
  constructor
  · rintro (⟨a, b⟩ | a) (c | c)
    · exact absurd c a
    · exact absurd c b
    · exact a
    · exact a
  · intro H
    by_cases a : p[i].kind = 5
    · exact Or.inr (H (Or.inl a))
    · by_cases b : p[i].kind = 6
      · exact Or.inr (H (Or.inr b))
      · exact Or.inl ⟨a, b⟩
end

section
/-- what the model asks of the depth of a line behind lines that are right -/
def dpB (p : List Lin) (i : Nat) : Bool := if i = 0 then dep p 0 == 0 else !(decide (dep p (i - 1) + 1 < dep p i) || (opn (knd p (i - 1)) != (dep p i == dep p (i - 1) + 1)))
def lineT (xs : List Cls) (p : List Lin) (i : Nat) (x : Lin) : Bool :=
  numS xs x.kind x.a x.b && rng 0 5 x.depth && dpB p i && !(decide (i + 1 = p.length) && opn x.kind) && (x.kind != 7 || vChain p i) && (!jmp x.kind || inL p i) && (!fol x.kind || headOk p i)
theorem dpB_iff {p : List Lin} {i : Nat} : dpB p i = true ↔ (i = 0 → dep p i = 0) ∧ (∀ j, i = j + 1 → dep p i ≤ dep p j + 1 ∧ (opn (knd p j) = true ↔ dep p i = dep p j + 1)) := by
  unfold dpB
  by_cases h : i = 0
  · subst h
    rw [if_pos rfl, beq_iff_eq]
    exact ⟨fun h => ⟨fun _ => h, fun j hj => by omega⟩, fun h => h.1 rfl⟩
  · rw [if_neg h, Bool.not_eq_true', Bool.or_eq_false_iff, decide_eq_false_iff_not, bne_eq_false_iff_eq]
    obtain ⟨j, rfl⟩ : ∃ j, i = j + 1 := ⟨i - 1, by omega⟩
    rw [Nat.add_sub_cancel, Bool.eq_iff_iff, beq_iff_eq]
    constructor
    · rintro ⟨h1, h2⟩
      refine ⟨fun h => by omega, fun j' hj' => ?_⟩
      obtain rfl : j' = j := by omega
      exact ⟨by omega, h2⟩
    · rintro ⟨_, h2⟩
      have := h2 j rfl
      exact ⟨by omega, this.2⟩
theorem lineT_iff (xs : List Cls) (p : List Lin) (i : Nat) (h : i < p.length) : lineT xs p i p[i] = true ↔ lineS xs p i p[i] := by
  unfold lineT lineS depS
  simp only [Bool.and_eq_true]
  rw [dpB_iff, rng_iff, dep_at h, Bool.not_eq_true', Bool.and_eq_false_iff, decide_eq_false_iff_not]
  have e1 : ((p[i].kind != 7 || vChain p i) = true) ↔ (p[i].kind = 7 → vChain p i = true) := by
    rw [Bool.or_eq_true, bne_iff_ne]
    refine ⟨fun h e => h.resolve_left fun h => h e, fun h => ?_⟩
    by_cases e : p[i].kind = 7
    · exact .inr (h e)
    · exact .inl e
  have e2 : ((!jmp p[i].kind || inL p i) = true) ↔ (p[i].kind = 5 ∨ p[i].kind = 6 → inL p i = true) := by
    unfold jmp
    rw [Bool.or_eq_true, Bool.not_eq_true', Bool.or_eq_false_iff, beq_eq_false_iff_ne, beq_eq_false_iff_ne]
    constructor
    · intro h e
      exact h.resolve_left (fun h => e.elim h.1 h.2)
    · intro h
      by_cases e : p[i].kind = 5 ∨ p[i].kind = 6
      · exact .inr (h e)
      · exact .inl ⟨fun a => e (.inl a), fun a => e (.inr a)⟩
  have e3 : ((!fol p[i].kind || headOk p i) = true) ↔ (fol p[i].kind = true → headOk p i = true) := by
    rw [Bool.or_eq_true, Bool.not_eq_true']
    refine ⟨fun h e => h.resolve_left (fun h => by rw [e] at h; cases h), fun h => ?_⟩
    cases e : fol p[i].kind
    · exact .inl rfl
    · exact .inr (h e)
  have e4 : (¬ i + 1 = p.length ∨ opn p[i].kind = false) ↔ (i + 1 = p.length → opn p[i].kind = false) := by
    refine ⟨fun h e => h.resolve_left fun h => h e, fun h => ?_⟩
    by_cases e : i + 1 = p.length
    · exact .inr (h e)
    · exact .inl e
  rw [e1, e2, e3, e4]
  simp only [and_assoc]
theorem boxTL0 (w : World) (s a b c d : Value) (T U : TypeId) : ((w.alloc (.cells #[s] T)).alloc (.cells #[a, b, c, d] U)).cell? ⟨w.heap.size + 1, 0, none⟩ = some a := by
  rw [World.cell?_alloc_at _ _ _ _ (by simp)]; rfl
set_option maxHeartbeats 2000000 in
set_option maxRecDepth 100000 in
theorem sValidLine_any (B A : Option Addr) (m c n cap : Nat) (xs : List Cls) (p : List Lin) (i : Nat) (hi : i < p.length) (hsm : p.length ≤ 1048576) (hpr : 0 < i → 0 ≤ dep p (i - 1) ∧ dep p (i - 1) ≤ 5) (w : World) (hT : Sl w B m c xs) (hR : Sl w A n cap p) :
    Calls Tryz.prog 35 #[.agg #[.slice B m c], .slice A n cap, .int .i64 i] w fun e w' => e = .returned (.bool (lineT xs p i p[i])) ∧ Le w w' := by
  obtain rfl := hR.len
  obtain rfl := hT.len
  have HP := Lib.hid hpr
  obtain ⟨b, off, rfl, hb, d0, d1, d2, d3, -⟩ := hR.lin_at hi
  have HF : Hid (lineT xs p i p[i] = (numS xs p[i].kind p[i].a p[i].b && rng 0 5 p[i].depth && dpB p i && !(decide (i + 1 = p.length) && opn p[i].kind) && (p[i].kind != 7 || vChain p i) && (!jmp p[i].kind || inL p i) && (!fol p[i].kind || headOk p i))) := rfl
  have HD : Hid (dep p i = p[i].depth) := dep_at hi
  have hin : (i : Int) < (p.length : Int) := by omega
  have hi0 : (0 : Int) ≤ (i : Int) := by omega
  generalize lineT xs p i p[i] = R at *
  generalize p[i].depth = vd at *
  generalize p[i].kind = vk at *
  generalize p[i].a = va at *
  generalize p[i].b = vb at *
  clear hpr
  go_enter Tryz.func35, Tryz.ntmps35
  go_wp2_with fail
  have x4 := boxTL0 w (.slice B xs.length c) (.int .i64 vd) (.int .i64 vk) (.int .i64 va) (.int .i64 vb) 25 31
  obtain ⟨x0, x1, x2, x3, z0, z1, L0⟩ := boxTL w (.slice B xs.length c) (.int .i64 vd) (.int .i64 vk) (.int .i64 va) (.int .i64 vb) 25 31
  have T0 := hT.le L0
  have S0 := hR.le L0
  clear d0 d1 d2 d3 x0 x2 x3 z0
  generalize w.heap.size + 1 = X at *
  generalize (w.alloc (.cells #[.slice B xs.length c] 25)).alloc _ = W at *
  refine (validNumbers_any B xs.length c xs vd vk va vb W T0).mono ?_
  rintro e w2 ⟨rfl, hl⟩
  have y0 := (hl.cell z1).trans x4
  have y1 := (hl.cell z1).trans x1
  have z2 : X < w2.heap.size := Nat.lt_of_lt_of_le z1 hl.size
  have L2 := L0.trans hl
  have S2 := S0.le hl
  clear x1 x4 z1 L0 hl T0 hT S0
  cases r1 : numS xs vk va vb
  · have HF2 : Hid (R = false) := by show _ = _; rw [HF.out, r1]; rfl
    clear HF
    go_wp2
    go_ret
    exact ⟨ret_bool HF2.out.symm, L2⟩
  · go_wp2_with fail
    refine (rng_any vd 0 5 w2).mono ?_
    rintro e w3 ⟨rfl, rfl⟩
    cases r2 : rng 0 5 vd
    · have HF2 : Hid (R = false) := by show _ = _; rw [HF.out, r1, r2]; rfl
      clear HF
      go_wp2
      go_ret
      exact ⟨ret_bool HF2.out.symm, L2⟩
    · have HG : Hid (R = (dpB p i && !(decide (i + 1 = p.length) && opn vk) && (vk != 7 || vChain p i) && (!jmp vk || inL p i) && (!fol vk || headOk p i))) := by show _ = _; rw [HF.out, r1, r2, Bool.true_and, Bool.true_and]
      have hvd := rng_iff.1 r2
      clear HF
      have E0 := cell_ext z2 y0
      have E1 := cell_ext z2 y1
      go_wp2_with fail
      have hwi : IntKind.i64.wrap ((i : Int) + 1) = (i : Int) + 1 := IntWalk.i64_in _ (by omega)
      have HDP : Hid (dpB p i = if i = 0 then dep p 0 == 0 else !(decide (dep p (i - 1) + 1 < dep p i) || (opn (knd p (i - 1)) != (dep p i == dep p (i - 1) + 1)))) := rfl
      generalize dpB p i = dq at *
      go_cut [77] from 23 (fun z wx => z = .bool (!(dq && !(decide (i + 1 = p.length) && opn vk))) ∧ Le w2 wx)
      case first =>
        by_cases h0 : i = 0
        · have h0b : ((i : Int) == 0) = true := by (rw [beq_iff_eq]; omega)
          have h0c : decide ((0 : Int) < (i : Int)) = false := decide_eq_false (by omega)
          have h0d : decide (0 < i) = false := decide_eq_false (by omega)
          have HDQ : Hid (dq = (vd == 0)) := by show _ = _; rw [HDP.out, if_pos h0, ← HD.out, h0]
          clear HDP
          by_cases hv : vd = 0
          · have hvb : (vd != 0) = false := by simpa using hv
            have HQ : Hid (dq = true) := by show _ = _; rw [HDQ.out, beq_iff_eq]; exact hv
            clear hv h0 HDQ
            by_cases hl : i + 1 = p.length
            · have hlb : ((i : Int) + 1 == (p.length : Int)) = true := by (rw [beq_iff_eq]; omega)
              have hld : decide (i + 1 = p.length) = true := decide_eq_true hl
              cases ho : opn vk
              · have hck : ∀ U : World, Calls Tryz.prog 61 #[.int .i64 vk] U fun e w' => e = .returned (.bool false) ∧ U = w' := fun U => by rw [← ho]; exact opens_any vk U
                have HV : Hid ((!(dq && !(decide (i + 1 = p.length) && opn vk))) = false) := by show _ = _; rw [HQ.out, hld, ho]; rfl
                clear hl ho hld
                refine wp_region_ext (by kernel_rfl) (by kernel_rfl) ?_
                repeat (go_big_quiet_step (first | (go_at_call 61; exact Calls.ext_same (hck _))))
                refine wpQuiet_nil ?_
                intro _ hw
                obtain ⟨gg, rfl⟩ := hw
                have hw1 := Le.ext w2 gg
                generalize w2.ext gg = W2 at *
                go_wp2
                go_meet
                exact ⟨congrArg Value.bool HV.out.symm, hw1⟩
              · have hck : ∀ U : World, Calls Tryz.prog 61 #[.int .i64 vk] U fun e w' => e = .returned (.bool true) ∧ U = w' := fun U => by rw [← ho]; exact opens_any vk U
                have HV : Hid ((!(dq && !(decide (i + 1 = p.length) && opn vk))) = true) := by show _ = _; rw [HQ.out, hld, ho]; rfl
                clear hl ho hld
                refine wp_region_ext (by kernel_rfl) (by kernel_rfl) ?_
                repeat (go_big_quiet_step (first | (go_at_call 61; exact Calls.ext_same (hck _))))
                refine wpQuiet_nil ?_
                intro _ hw
                obtain ⟨gg, rfl⟩ := hw
                have hw1 := Le.ext w2 gg
                generalize w2.ext gg = W2 at *
                go_wp2
                go_meet
                exact ⟨congrArg Value.bool HV.out.symm, hw1⟩
            · have hlb : ((i : Int) + 1 == (p.length : Int)) = false := bf (by omega)
              have HV : Hid ((!(dq && !(decide (i + 1 = p.length) && opn vk))) = false) := by show _ = _; rw [HQ.out, decide_eq_false hl]; rfl
              refine wp_region_ext (by kernel_rfl) (by kernel_rfl) ?_
              repeat (go_big_quiet_step (fail))
              refine wpQuiet_nil ?_
              intro _ hw
              obtain ⟨gg, rfl⟩ := hw
              have hw1 := Le.ext w2 gg
              generalize w2.ext gg = W2 at *
              go_wp2
              go_meet
              exact ⟨congrArg Value.bool HV.out.symm, hw1⟩
          · have hvb : (vd != 0) = true := by simpa using hv
            have HV : Hid ((!(dq && !(decide (i + 1 = p.length) && opn vk))) = true) := by show _ = _; rw [HDQ.out, bf hv]; rfl
            clear hv h0 HDQ
            refine wp_region_ext (by kernel_rfl) (by kernel_rfl) ?_
            repeat (go_big_quiet_step (fail))
            refine wpQuiet_nil ?_
            intro _ hw
            obtain ⟨gg, rfl⟩ := hw
            have hw1 := Le.ext w2 gg
            generalize w2.ext gg = W2 at *
            go_wp2
            go_meet
            exact ⟨congrArg Value.bool HV.out.symm, hw1⟩
        · have h0b : ((i : Int) == 0) = false := bf (by omega)
          have h0c : decide ((0 : Int) < (i : Int)) = true := decide_eq_true (by omega)
          have h0d : decide (0 < i) = true := decide_eq_true (by omega)
          obtain ⟨j, hj⟩ : ∃ j, i = j + 1 := ⟨i - 1, by omega⟩
          have hjl : j < p.length := by omega
          have hp2 := HP.out (by omega)
          have HDQ : Hid (dq = !(decide (p[j].depth + 1 < vd) || (opn p[j].kind != (vd == p[j].depth + 1)))) := by show _ = _; rw [HDP.out, if_neg h0, HD.out, show i - 1 = j by omega, dep_at hjl, knd_at hjl]
          rw [show i - 1 = j by omega, dep_at hjl] at hp2
          obtain ⟨bj, offj, ej, hbj, k0, k1, -⟩ := S2.lin_at hjl
          injection ej with ej
          injection ej with ej1 ej2
          subst ej1
          subst ej2
          have hwj : IntKind.i64.wrap ((i : Int) - 1) = (j : Int) := by rw [show (i : Int) - 1 = (j : Int) by omega]; exact IntWalk.i64_in _ (by omega)
          have hj0 : (0 : Int) ≤ (j : Int) := by omega
          have hjn : (j : Int) < (p.length : Int) := by omega
          have hwd : IntKind.i64.wrap (p[j].depth + 1) = p[j].depth + 1 := IntWalk.i64_in _ (by omega)
          generalize p[j].depth = jd at *
          generalize p[j].kind = jk at *
          have K0 := cell_ext hbj k0
          have K1 := cell_ext hbj k1
          clear HDP k0 k1 hj h0
          by_cases hlt : jd + 1 < vd
          · have hltb : decide (jd + 1 < vd) = true := decide_eq_true hlt
            have HV : Hid ((!(dq && !(decide (i + 1 = p.length) && opn vk))) = true) := by show _ = _; rw [HDQ.out, hltb]; rfl
            clear HDQ
            refine wp_region_ext (by kernel_rfl) (by kernel_rfl) ?_
            repeat (go_big_quiet_step (fail))
            refine wpQuiet_nil ?_
            intro _ hw
            obtain ⟨gg, rfl⟩ := hw
            have hw1 := Le.ext w2 gg
            generalize w2.ext gg = W2 at *
            go_wp2
            go_meet
            exact ⟨congrArg Value.bool HV.out.symm, hw1⟩
          · have hltb : decide (jd + 1 < vd) = false := decide_eq_false hlt
            cases hoj : opn jk
            · have hcj : ∀ U : World, Calls Tryz.prog 61 #[.int .i64 jk] U fun e w' => e = .returned (.bool false) ∧ U = w' := fun U => by rw [← hoj]; exact opens_any jk U
              by_cases hq : vd = jd + 1
              · have hqb : (vd == jd + 1) = true := by (rw [beq_iff_eq]; exact hq)
                have HV : Hid ((!(dq && !(decide (i + 1 = p.length) && opn vk))) = true) := by show _ = _; rw [HDQ.out, hltb, hoj, hqb]; rfl
                clear HDQ hoj hlt hq
                refine wp_region_ext (by kernel_rfl) (by kernel_rfl) ?_
                repeat (go_big_quiet_step (first | (go_at_call 61; exact Calls.ext_same (hcj _))))
                refine wpQuiet_nil ?_
                intro _ hw
                obtain ⟨gg, rfl⟩ := hw
                have hw1 := Le.ext w2 gg
                generalize w2.ext gg = W2 at *
                go_wp2
                go_meet
                exact ⟨congrArg Value.bool HV.out.symm, hw1⟩
              · have hqb : (vd == jd + 1) = false := bf hq
                have HQ : Hid (dq = true) := by show _ = _; rw [HDQ.out, hltb, hoj, hqb]; rfl
                clear HDQ hoj hlt hq
                by_cases hl : i + 1 = p.length
                · have hlb : ((i : Int) + 1 == (p.length : Int)) = true := by (rw [beq_iff_eq]; omega)
                  have hld : decide (i + 1 = p.length) = true := decide_eq_true hl
                  cases ho : opn vk
                  · have hck : ∀ U : World, Calls Tryz.prog 61 #[.int .i64 vk] U fun e w' => e = .returned (.bool false) ∧ U = w' := fun U => by rw [← ho]; exact opens_any vk U
                    have HV : Hid ((!(dq && !(decide (i + 1 = p.length) && opn vk))) = false) := by show _ = _; rw [HQ.out, hld, ho]; rfl
                    clear hl ho hld
                    refine wp_region_ext (by kernel_rfl) (by kernel_rfl) ?_
                    repeat (go_big_quiet_step (first | (go_at_call 61; exact Calls.ext_same (hck _)) | (go_at_call 61; exact Calls.ext_same (hcj _))))
                    refine wpQuiet_nil ?_
                    intro _ hw
                    obtain ⟨gg, rfl⟩ := hw
                    have hw1 := Le.ext w2 gg
                    generalize w2.ext gg = W2 at *
                    go_wp2
                    go_meet
                    exact ⟨congrArg Value.bool HV.out.symm, hw1⟩
                  · have hck : ∀ U : World, Calls Tryz.prog 61 #[.int .i64 vk] U fun e w' => e = .returned (.bool true) ∧ U = w' := fun U => by rw [← ho]; exact opens_any vk U
                    have HV : Hid ((!(dq && !(decide (i + 1 = p.length) && opn vk))) = true) := by show _ = _; rw [HQ.out, hld, ho]; rfl
                    clear hl ho hld
                    refine wp_region_ext (by kernel_rfl) (by kernel_rfl) ?_
                    repeat (go_big_quiet_step (first | (go_at_call 61; exact Calls.ext_same (hck _)) | (go_at_call 61; exact Calls.ext_same (hcj _))))
                    refine wpQuiet_nil ?_
                    intro _ hw
                    obtain ⟨gg, rfl⟩ := hw
                    have hw1 := Le.ext w2 gg
                    generalize w2.ext gg = W2 at *
                    go_wp2
                    go_meet
                    exact ⟨congrArg Value.bool HV.out.symm, hw1⟩
                · have hlb : ((i : Int) + 1 == (p.length : Int)) = false := bf (by omega)
                  have HV : Hid ((!(dq && !(decide (i + 1 = p.length) && opn vk))) = false) := by show _ = _; rw [HQ.out, decide_eq_false hl]; rfl
                  refine wp_region_ext (by kernel_rfl) (by kernel_rfl) ?_
                  repeat (go_big_quiet_step (first | (go_at_call 61; exact Calls.ext_same (hcj _))))
                  refine wpQuiet_nil ?_
                  intro _ hw
                  obtain ⟨gg, rfl⟩ := hw
                  have hw1 := Le.ext w2 gg
                  generalize w2.ext gg = W2 at *
                  go_wp2
                  go_meet
                  exact ⟨congrArg Value.bool HV.out.symm, hw1⟩
            · have hcj : ∀ U : World, Calls Tryz.prog 61 #[.int .i64 jk] U fun e w' => e = .returned (.bool true) ∧ U = w' := fun U => by rw [← hoj]; exact opens_any jk U
              by_cases hq : vd = jd + 1
              · have hqb : (vd == jd + 1) = true := by (rw [beq_iff_eq]; exact hq)
                have HQ : Hid (dq = true) := by show _ = _; rw [HDQ.out, hltb, hoj, hqb]; rfl
                clear HDQ hoj hlt hq
                by_cases hl : i + 1 = p.length
                · have hlb : ((i : Int) + 1 == (p.length : Int)) = true := by (rw [beq_iff_eq]; omega)
                  have hld : decide (i + 1 = p.length) = true := decide_eq_true hl
                  cases ho : opn vk
                  · have hck : ∀ U : World, Calls Tryz.prog 61 #[.int .i64 vk] U fun e w' => e = .returned (.bool false) ∧ U = w' := fun U => by rw [← ho]; exact opens_any vk U
                    have HV : Hid ((!(dq && !(decide (i + 1 = p.length) && opn vk))) = false) := by show _ = _; rw [HQ.out, hld, ho]; rfl
                    clear hl ho hld
                    refine wp_region_ext (by kernel_rfl) (by kernel_rfl) ?_
                    repeat (go_big_quiet_step (first | (go_at_call 61; exact Calls.ext_same (hck _)) | (go_at_call 61; exact Calls.ext_same (hcj _))))
                    refine wpQuiet_nil ?_
                    intro _ hw
                    obtain ⟨gg, rfl⟩ := hw
                    have hw1 := Le.ext w2 gg
                    generalize w2.ext gg = W2 at *
                    go_wp2
                    go_meet
                    exact ⟨congrArg Value.bool HV.out.symm, hw1⟩
                  · have hck : ∀ U : World, Calls Tryz.prog 61 #[.int .i64 vk] U fun e w' => e = .returned (.bool true) ∧ U = w' := fun U => by rw [← ho]; exact opens_any vk U
                    have HV : Hid ((!(dq && !(decide (i + 1 = p.length) && opn vk))) = true) := by show _ = _; rw [HQ.out, hld, ho]; rfl
                    clear hl ho hld
                    refine wp_region_ext (by kernel_rfl) (by kernel_rfl) ?_
                    repeat (go_big_quiet_step (first | (go_at_call 61; exact Calls.ext_same (hck _)) | (go_at_call 61; exact Calls.ext_same (hcj _))))
                    refine wpQuiet_nil ?_
                    intro _ hw
                    obtain ⟨gg, rfl⟩ := hw
                    have hw1 := Le.ext w2 gg
                    generalize w2.ext gg = W2 at *
                    go_wp2
                    go_meet
                    exact ⟨congrArg Value.bool HV.out.symm, hw1⟩
                · have hlb : ((i : Int) + 1 == (p.length : Int)) = false := bf (by omega)
                  have HV : Hid ((!(dq && !(decide (i + 1 = p.length) && opn vk))) = false) := by show _ = _; rw [HQ.out, decide_eq_false hl]; rfl
                  refine wp_region_ext (by kernel_rfl) (by kernel_rfl) ?_
                  repeat (go_big_quiet_step (first | (go_at_call 61; exact Calls.ext_same (hcj _))))
                  refine wpQuiet_nil ?_
                  intro _ hw
                  obtain ⟨gg, rfl⟩ := hw
                  have hw1 := Le.ext w2 gg
                  generalize w2.ext gg = W2 at *
                  go_wp2
                  go_meet
                  exact ⟨congrArg Value.bool HV.out.symm, hw1⟩
              · have hqb : (vd == jd + 1) = false := bf hq
                have HV : Hid ((!(dq && !(decide (i + 1 = p.length) && opn vk))) = true) := by show _ = _; rw [HDQ.out, hltb, hoj, hqb]; rfl
                clear HDQ hoj hlt hq
                refine wp_region_ext (by kernel_rfl) (by kernel_rfl) ?_
                repeat (go_big_quiet_step (first | (go_at_call 61; exact Calls.ext_same (hcj _))))
                refine wpQuiet_nil ?_
                intro _ hw
                obtain ⟨gg, rfl⟩ := hw
                have hw1 := Le.ext w2 gg
                generalize w2.ext gg = W2 at *
                go_wp2
                go_meet
                exact ⟨congrArg Value.bool HV.out.symm, hw1⟩
      case rest =>
        obtain ⟨rfl, hle⟩ := hcut
        generalize wc = w4 at *
        replace y0 := (hle.cell z2).trans y0
        replace y1 := (hle.cell z2).trans y1
        replace z2 := Nat.lt_of_lt_of_le z2 hle.size
        replace L2 := L2.trans hle
        replace S2 := S2.le hle
        clear hle E0 E1 HDP
        cases hz : (dq && !(decide (i + 1 = p.length) && opn vk))
        · have HF2 : Hid (R = false) := by show _ = _; rw [HG.out, hz]; rfl
          clear HG
          go_wp2
          go_ret
          exact ⟨ret_bool HF2.out.symm, L2⟩
        · have HH : Hid (R = ((vk != 7 || vChain p i) && (!jmp vk || inL p i) && (!fol vk || headOk p i))) := by show _ = _; rw [HG.out, hz, Bool.true_and]
          clear HG hz
          by_cases h7 : vk = 7
          · subst h7
            have HI : Hid (R = vChain p i) := by show _ = _; rw [HH.out]; simp [jmp, fol]
            clear HH
            go_wp2_with fail
            refine (validChain_any _ p.length cap p i hi hsm w4 S2).mono ?_
            rintro e w5 ⟨rfl, hle⟩
            replace y1 := (hle.cell z2).trans y1
            replace L2 := L2.trans hle
            cases hv : vChain p i
            · have HF2 : Hid (R = false) := by show _ = _; rw [HI.out, hv]
              clear HI
              go_wp2
              go_ret
              exact ⟨ret_bool HF2.out.symm, L2⟩
            · have HF2 : Hid (R = true) := by show _ = _; rw [HI.out, hv]
              clear HI
              go_wp2_with fail
              refine (follows_any 7 w5).mono ?_
              rintro e w6 ⟨rfl, rfl⟩
              rw [show fol 7 = false from rfl]
              go_wp2
              go_ret
              exact ⟨ret_bool HF2.out.symm, L2⟩
          · have h7b := bf h7
            have h7c : (vk != 7) = true := by simpa using h7
            by_cases hj : vk = 5 ∨ vk = 6
            · have HI : Hid (R = inL p i) := by
                show _ = _
                rw [HH.out, h7c]
                rcases hj with rfl | rfl <;> simp [jmp, fol]
              clear HH
              have hfj : fol vk = false := by rcases hj with rfl | rfl <;> rfl
              rcases hj with rfl | rfl
              all_goals
                go_wp2_with fail
                refine (sInLoop_any _ p.length cap p i hi (by omega) w4 S2).mono ?_
                rintro e w5 ⟨rfl, hle⟩
                replace y1 := (hle.cell z2).trans y1
                replace L2 := L2.trans hle
                cases hv : inL p i
                · have HF2 : Hid (R = false) := by show _ = _; rw [HI.out, hv]
                  clear HI
                  go_wp2
                  go_ret
                  exact ⟨ret_bool HF2.out.symm, L2⟩
                · have HF2 : Hid (R = true) := by show _ = _; rw [HI.out, hv]
                  clear HI
                  go_wp2_with fail
                  refine (follows_any _ w5).mono ?_
                  rintro e w6 ⟨rfl, rfl⟩
                  rw [hfj]
                  go_wp2
                  go_ret
                  exact ⟨ret_bool HF2.out.symm, L2⟩
            · have h5b : (vk == 5) = false := bf (by omega)
              have h6b : (vk == 6) = false := bf (by omega)
              have HI : Hid (R = (!fol vk || headOk p i)) := by show _ = _; rw [HH.out, h7c]; simp [jmp, h5b, h6b]
              clear HH
              go_wp2_with fail
              refine (follows_any vk w4).mono ?_
              rintro e w6 ⟨rfl, rfl⟩
              cases hf : fol vk
              · have HF2 : Hid (R = true) := by show _ = _; rw [HI.out, hf]; rfl
                clear HI
                go_wp2
                go_ret
                exact ⟨ret_bool HF2.out.symm, L2⟩
              · have HJ : Hid (R = (decide (0 ≤ headOf p i) && (knd p (headOf p i).toNat == 7 || fol (knd p (headOf p i).toNat)))) := by show _ = _; rw [HI.out, hf]; rfl
                clear HI
                go_wp2_with fail
                refine (headOf_any _ p.length cap p i hi (by omega) w4 S2).mono ?_
                rintro e w5 ⟨rfl, hle⟩
                replace L2 := L2.trans hle
                replace S2 := S2.le hle
                have hG := hGo_is p (dep p i) i
                have HG2 : Hid (headOf p i = hGo p (dep p i) i) := rfl
                rcases hG with ⟨hg, -⟩ | ⟨j, hg, hj2, -⟩
                · have hh : headOf p i = -1 := by rw [HG2.out, hg]
                  rw [hh] at HJ ⊢
                  have HF2 : Hid (R = false) := HJ.out
                  clear hg hh HG2 HJ
                  go_wp2
                  go_ret
                  exact ⟨ret_bool HF2.out.symm, L2⟩
                · have hh : headOf p i = (j : Int) := by rw [HG2.out, hg]
                  rw [hh] at HJ ⊢
                  have hjl : j < p.length := by omega
                  obtain ⟨bj, offj, ej, hbj, k0, k1, -⟩ := S2.lin_at hjl
                  injection ej with ej
                  injection ej with ej1 ej2
                  subst ej1
                  subst ej2
                  have HF1 : Hid (R = (p[j].kind == 7 || fol p[j].kind)) := by
                    show _ = _
                    rw [HJ.out, Int.toNat_natCast, knd_at hjl, decide_eq_true (by omega), Bool.true_and]
                  have hj0 : (0 : Int) ≤ (j : Int) := by omega
                  have hjn : (j : Int) < (p.length : Int) := by omega
                  have hj0b : decide ((0 : Int) ≤ (j : Int)) = true := decide_eq_true hj0
                  generalize p[j].kind = jk at *
                  clear hg hh HG2 HJ hj2 k0
                  by_cases hq : jk = 7
                  · have hqb : (jk == 7) = true := by simpa using hq
                    have HF2 : Hid (R = true) := by show _ = _; rw [HF1.out, hqb]; rfl
                    clear hq HF1
                    go_wp2
                    go_ret
                    exact ⟨ret_bool HF2.out.symm, L2⟩
                  · have hqb := bf hq
                    have HF2 : Hid (R = fol jk) := by show _ = _; rw [HF1.out, hqb, Bool.false_or]
                    clear HF1
                    go_wp2_with fail
                    refine (follows_any jk w5).mono ?_
                    rintro e w6 ⟨rfl, rfl⟩
                    go_wp2
                    go_ret
                    exact ⟨ret_bool HF2.out.symm, L2⟩
end
end Go.Proofs.YtgjlmfjmjglplaaGreat
