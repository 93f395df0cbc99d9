/- programs: validLine of the program -/
import Derived.Test.YtldnjihakkekkaaPhC
import Derived.Test.YtldnjihakkekkaaPhF
namespace Go.Proofs.Ytldnjihakkekkaa
open Go.RowKit
def jmp (k : Int) : Bool := k == 5 || k == 6
def lineB (n : Nat) (p : List Lin) (i : Nat) (x : Lin) : Bool := rng 0 (mostA n x.kind) x.a && rng 0 (mostB x.kind) x.b && depB p i && (!jmp x.kind || inL p i)
theorem box4b (w : World) (a b c d : Value) (T : TypeId) : (w.alloc (.cells #[a, b, c, d] T)).cell? ⟨w.heap.size, 2, none⟩ = some c ∧ (w.alloc (.cells #[a, b, c, d] T)).cell? ⟨w.heap.size, 3, none⟩ = some d := by
  refine ⟨?_, ?_⟩ <;> (rw [World.cell?_alloc_at _ _ _ _ rfl]; rfl)
set_option maxHeartbeats 1000000 in
theorem validLine_any (B A : Option Addr) (m c n cap : Nat) (p : List Lin) (i : Nat) (hi : i < p.length) (hm : m ≤ 1048576) (hsm : p.length ≤ 1048576) (hpr : 0 < i → 0 ≤ dep p (i - 1) ∧ dep p (i - 1) ≤ 5) (w : World) (hR : Sl w A n cap p) :
    Calls Try.prog 46 #[.agg #[.slice B m c], .slice A n cap, .int .i64 i] w fun e w' => e = .returned (.bool (lineB m p i p[i])) ∧ Le w w' := by
  obtain rfl := hR.len
  have HP := Lib.hid hpr
  obtain ⟨b, off, rfl, hb, d0, d1, d2, d3, -⟩ := hR.lin_at hi
  have HF : Hid (lineB m p i p[i] = (rng 0 (mostA m p[i].kind) p[i].a && rng 0 (mostB p[i].kind) p[i].b && depB p i && (!jmp p[i].kind || inL p i))) := rfl
  have hin : (i : Int) < (p.length : Int) := by omega
  have hi0 : (0 : Int) ≤ (i : Int) := by omega
  generalize lineB m p i p[i] = R at *
  generalize p[i].depth = vd at *
  generalize p[i].kind = vk at *
  generalize p[i].a = va at *
  generalize p[i].b = vb at *
  clear hpr
  go_enter Try.func46, Try.ntmps46
  go_wp2_with fail
  have hsz : (w.alloc (.cells #[.slice B m c] 31)).heap.size = w.heap.size + 1 := by simp
  obtain ⟨x0, x1, x4, L1⟩ := box4 (w.alloc (.cells #[.slice B m c] 31)) (.int .i64 vd) (.int .i64 vk) (.int .i64 va) (.int .i64 vb) 49
  obtain ⟨x2, x3⟩ := box4b (w.alloc (.cells #[.slice B m c] 31)) (.int .i64 vd) (.int .i64 vk) (.int .i64 va) (.int .i64 vb) 49
  rw [hsz] at x0 x1 x2 x3 x4
  have L2 := (Le.new w (.cells #[.slice B m c] 31)).trans L1
  clear L1 hsz d0 d1 d2 d3
  generalize w.heap.size + 1 = X at *
  generalize (w.alloc (.cells #[.slice B m c] 31)).alloc _ = W at *
  refine (mostNumbers_any B m c vk W hm).mono ?_
  rintro e w2 ⟨rfl, hl⟩
  have y1 := (hl.cell x4).trans x1
  have y2 := (hl.cell x4).trans x2
  have y3 := (hl.cell x4).trans x3
  have y4 : X < w2.heap.size := Nat.lt_of_lt_of_le x4 hl.size
  have L3 := L2.trans hl
  have T := hR.le L3
  clear x0 x1 x2 x3 x4 L2 hl hR
  generalize mostA m vk = na at *
  generalize mostB vk = nb at *
  go_wp2_with fail
  refine (iRange_any va 0 na w2).mono ?_
  rintro e w3 ⟨rfl, rfl⟩
  cases r1 : rng 0 na va
  · have HF2 : Hid (R = false) := by show _ = _; rw [HF.out, r1]; rfl
    clear HF
    go_wp2
    go_ret
    exact ⟨ret_bool HF2.out.symm, L3⟩
  · go_wp2_with fail
    refine (iRange_any vb 0 nb w2).mono ?_
    rintro e w3 ⟨rfl, rfl⟩
    cases r2 : rng 0 nb vb
    · have HF2 : Hid (R = false) := by show _ = _; rw [HF.out, r1, r2]; rfl
      clear HF
      go_wp2
      go_ret
      exact ⟨ret_bool HF2.out.symm, L3⟩
    · go_wp2_with fail
      refine (validLineDepth_any _ p.length cap p i hi hsm HP.out w2 T).mono ?_
      rintro e w3 ⟨rfl, hl3⟩
      have z1 := (hl3.cell y4).trans y1
      have T3 := T.le hl3
      have L4 := L3.trans hl3
      have z4 : X < w3.heap.size := Nat.lt_of_lt_of_le y4 hl3.size
      clear y1 y2 y3 y4 T L3 hl3
      cases r3 : depB p i
      · have HF2 : Hid (R = false) := by show _ = _; rw [HF.out, r1, r2, r3]; rfl
        clear HF
        go_wp2
        go_ret
        exact ⟨ret_bool HF2.out.symm, L4⟩
      · have HG : Hid (R = (!jmp vk || inL p i)) := by show _ = _; rw [HF.out, r1, r2, r3]; rfl
        clear HF
        by_cases h5 : vk = 5
        · subst h5
          have HF2 : Hid (R = inL p i) := HG.out
          clear HG
          go_wp2_with fail
          refine (iInLoop_any _ p.length cap p i hi hsm w3 T3).mono ?_
          rintro e w4 ⟨rfl, hl4⟩
          go_wp2
          go_ret
          exact ⟨ret_bool HF2.out.symm, L4.trans hl4⟩
        · by_cases h6 : vk = 6
          · subst h6
            have HF2 : Hid (R = inL p i) := HG.out
            clear HG
            go_wp2_with fail
            refine (iInLoop_any _ p.length cap p i hi hsm w3 T3).mono ?_
            rintro e w4 ⟨rfl, hl4⟩
            go_wp2
            go_ret
            exact ⟨ret_bool HF2.out.symm, L4.trans hl4⟩
          · have b5 := bf h5
            have b6 := bf h6
            have HF2 : Hid (R = true) := by show _ = _; rw [HG.out]; unfold jmp; rw [b5, b6]; rfl
            clear HG
            go_wp2
            go_ret
            exact ⟨ret_bool HF2.out.symm, L4⟩
theorem lineB_iff (xs : List Cls) (p : List Lin) (i : Nat) (h : i < p.length) : lineB xs.length p i p[i] = true ↔ lineI xs p i p[i] := by
  unfold lineB lineI jmp
  rw [Bool.and_eq_true, Bool.and_eq_true, Bool.and_eq_true, depB_iff, inL_up, and_assoc, and_assoc]
  refine and_congr_right fun _ => and_congr_right fun _ => and_congr_right fun _ => ?_
  rw [Bool.or_eq_true, Bool.not_eq_true', Bool.or_eq_false_iff, beq_eq_false_iff_ne, beq_eq_false_iff_ne]
  constructor
  · rintro (⟨a, b⟩ | a) (c | c)
    · exact absurd c a
    · exact absurd c b
    · exact a
    · exact a
  · intro H
    by_cases a : p[i].kind = 5
    · exact Or.inr (H (Or.inl a))
    · by_cases b : p[i].kind = 6
      · exact Or.inr (H (Or.inr b))
      · exact Or.inl ⟨a, b⟩
end Go.Proofs.Ytldnjihakkekkaa
