/- one text of DrG, ItA, ItB -/
import Derived.Test.YtkpnajffeclmdaaCl4
import Derived.Test.YtkpnajffeclmdaaCl3
import Derived.Test.YtkpnajffeclmdaaCl5
import Derived.Test.YtkpnajffeclmdaaCl10
import Derived.Test.YtkpnajffeclmdaaRows
import Derived.Test.YtkpnajffeclmdaaCl6
import Derived.Test.YtkpnajffeclmdaaCl2
import Derived.Test.YtkpnajffeclmdaaCl9
import Derived.Deep.CutRange
import Derived.RangeFuncNested
import Derived.RangeFuncBound
import Derived.RangeFuncCalls
import Derived.RangeFuncLeaves
import Derived.RangeFuncBox
import Derived.Shelf.Abstract
import Derived.Shelf.RegionOpen
import Derived.WalkKit
import Derived.OwnWalkIn
import Derived.TacticsInMore
import Derived.LoopNIn
import Derived.LoopIn
namespace Go.Proofs.Ytkpnajffeclmdaa
open Go.RowKit
set_option linter.unusedVariables false
section
/-- what a drawn part keeps to -/
def PtB (q : Prt) : Prop := -9 ≤ q.depth ∧ q.depth ≤ 9 ∧ -9 ≤ q.cls ∧ q.cls ≤ 9 ∧ -9 ≤ q.code ∧ q.code ≤ 100
theorem ptB_ok {L : List Prt} (h : ∀ q ∈ L, PtB q) : ∀ q ∈ L, Enc.ok q := fun q hq => by
  obtain ⟨h1, h2, h3, h4, h5, h6⟩ := h q hq
  exact ⟨by omega, by omega, by omega, by omega, by omega, by omega⟩
/-- how many parts, how many draws, by the height that is left -/
def lenG : Nat → Nat
  | 0 => 1
  | h + 1 => 1 + 3 * lenG h
def pkG : Nat → Nat
  | 0 => 4
  | h + 1 => 6 + 3 * pkG h
theorem lenG_3 : lenG 3 = 40 := rfl
theorem pkG_3 : pkG 3 = 186 := rfl
def remN : Nat → Nat → Nat
  | 0, _ => 0
  | k + 1, a => a + remN k a
theorem remN_zero (a : Nat) : remN 0 a = 0 := rfl
theorem remN_succ (k a : Nat) : remN (k + 1) a = a + remN k a := rfl
theorem remN_le : ∀ {k a : Nat}, k ≤ 3 → remN k a ≤ 3 * a
  | 0, a, _ => Nat.zero_le _
  | 1, a, _ => by rw [remN_succ, remN_zero]; omega
  | 2, a, _ => by rw [remN_succ, remN_succ, remN_zero]; omega
  | 3, a, _ => by rw [remN_succ, remN_succ, remN_succ, remN_zero]; omega
  | k + 4, a, h => by omega
theorem remN_ge : ∀ (k a : Nat), 1 ≤ a → k ≤ remN k a
  | 0, _, _ => Nat.zero_le _
  | k + 1, a, h => by have := remN_ge k a h; rw [remN_succ]; omega
theorem pkG_pos : ∀ h, 1 ≤ pkG h
  | 0 => by show 1 ≤ 4; omega
  | h + 1 => by show 1 ≤ 6 + 3 * pkG h; omega
theorem lenG_le : ∀ h, lenG h ≤ pkG h
  | 0 => by show 1 ≤ 4; omega
  | h + 1 => by have := lenG_le h; show 1 + 3 * lenG h ≤ 6 + 3 * pkG h; omega
/-- parts that were drawn -/
def GrpOut (l k g p : Nat) (A : Option Addr) (n cap : Nat) (bs : List By) (w : World) (e : Ending) (w' : World) : Prop :=
  ∃ (v : Value) (L : List Prt) (p' : Nat), e = .returned v ∧ w'.ownsRow w.heap.size 57 4 v L.length (L.flatMap Enc.cells) ∧ (∀ q ∈ L, PtB q) ∧ 1 ≤ L.length ∧ L.length ≤ l ∧ p' ≤ p + k ∧ Rd w' g p' A n cap bs ∧ Gx g w w'
theorem own_oneD (w : World) (h : Prt) {b : Nat} (hb : b ≤ w.heap.size) : (w.alloc (.cells #[.int .i64 h.depth, .bool h.group, .int .i64 h.cls, .int .i64 h.code] 57)).ownsRow b 57 4 (.slice (some ⟨w.heap.size, 0, none⟩) 1 1) 1 (([h] : List Prt).flatMap Enc.cells) :=
  World.ownsRow_lit (base := b) (e := 57) (size := 4) w #[.int .i64 h.depth, .bool h.group, .int .i64 h.cls, .int .i64 h.code] 1 hb (by decide) (by simp)
theorem pkG_4 : ∀ h, 4 ≤ pkG h
  | 0 => Nat.le_refl _
  | h + 1 => by have := pkG_4 h; show 4 ≤ 6 + 3 * pkG h; omega
theorem lenG_pos : ∀ h, 1 ≤ lenG h
  | 0 => Nat.le_refl _
  | h + 1 => by show 1 ≤ 1 + 3 * lenG h; omega
set_option maxHeartbeats 4000000 in
set_option maxRecDepth 100000 in
theorem goodGroup_step (B : Option Addr) (m c g : Nat) (A : Option Addr) (n cap : Nat) (bs : List By) (hm : m ≤ 8) (hh : Nat) (d : Int) (hd0 : 0 ≤ d) (hd1 : d ≤ 9) (ih : d < 3 → ∃ k, hh = k + 1 ∧ ∀ (p : Nat) (w : World), p + 4 * pkG k ≤ 900000 → Rd w g p A n cap bs → Calls Try.prog 56 #[.pointer (some ⟨g, 0, none⟩), .agg #[.slice B m c], .int .i64 (d + 1)] w (GrpOut (lenG k) (pkG k) g p A n cap bs w)) (p : Nat) (w : World) (hp : p + 4 * pkG hh ≤ 900000) (hR : Rd w g p A n cap bs) :
    Calls Try.prog 56 #[.pointer (some ⟨g, 0, none⟩), .agg #[.slice B m c], .int .i64 d] w (GrpOut (lenG hh) (pkG hh) g p A n cap bs w) := by
  have hgw := hR.lt
  have hk4 : 4 ≤ pkG hh := pkG_4 hh
  have hl1 : 1 ≤ lenG hh := lenG_pos hh
  have IH := Lib.hid ih
  have HA : Hid (0 < n → ∀ a, A = some a → a.block < w.heap.size) := fun hn a e => hR.sl.under hn a e
  clear ih
  obtain ⟨ct, zt, L0⟩ := box1 w (.slice B m c) 25
  have R := hR.le L0
  have G := Gx.of_le (g := g) L0
  clear hR
  go_enter Try.func56, Try.ntmps56
  go_upto_region 1 with fail
  generalize w.alloc (.cells #[.slice B m c] 25) = W at *
  clear L0
  go_cut [24] from 9 (fun z wx => ∃ (b : Bool) (p' : Nat), z = .bool b ∧ (b = false → d < 3) ∧ p' ≤ p + 2 ∧ w.heap.size < wx.heap.size ∧ wx.cell? ⟨w.heap.size, 0, none⟩ = some (.slice B m c) ∧ Rd wx g p' A n cap bs ∧ Gx g w wx)
  case first =>
    by_cases h3 : (3 : Int) ≤ d
    · have hd3' : decide ((3 : Int) ≤ d) = true := decide_eq_true h3
      go_wp2_with fail
      go_meet
      exact ⟨true, _, rfl, nofun, by omega, zt, ct, R, G⟩
    · have hd3' : decide ((3 : Int) ≤ d) = false := decide_eq_false h3
      by_cases h0 : (0 : Int) < d
      · have hd0' : decide ((0 : Int) < d) = true := decide_eq_true h0
        go_wp2_with fail
        refine (pick_any 5 g p A n cap bs W (by omega) (by omega) (by omega) R).mono ?_
        rintro e u5 ⟨v5, rfl, h0_, h1_, R_, hg_⟩
        have ct := (hg_.cell (k := w.heap.size) zt (by omega)).trans ct
        have zt := Nat.lt_of_lt_of_le zt hg_.size
        have G := G.trans hg_
        have v5b : 0 ≤ v5 ∧ v5 < 5 := by rcases h1_ with h | h <;> omega
        have R := R_
        clear h0_ h1_ R_ hg_
        by_cases hv5 : (1 : Int) < v5
        · have hv5b : decide ((1 : Int) < v5) = true := decide_eq_true hv5
          go_wp2_with fail
          go_meet
          exact ⟨true, _, rfl, nofun, by omega, zt, ct, R, G⟩
        · have hv5b : decide ((1 : Int) < v5) = false := decide_eq_false hv5
          go_wp2_with fail
          refine (pick_any 8 g (p + 1) A n cap bs u5 (by omega) (by omega) (by omega) R).mono ?_
          rintro e u8 ⟨v8, rfl, h0_, h1_, R_, hg_⟩
          have ct := (hg_.cell (k := w.heap.size) zt (by omega)).trans ct
          have zt := Nat.lt_of_lt_of_le zt hg_.size
          have G := G.trans hg_
          have v8b : 0 ≤ v8 ∧ v8 < 8 := by rcases h1_ with h | h <;> omega
          have R := R_
          clear h0_ h1_ R_ hg_
          by_cases hv8 : v8 = 0
          · have hvb : (v8 == 0) = true := by rw [hv8]; rfl
            go_wp2_with fail
            go_meet
            exact ⟨true, _, rfl, nofun, by omega, zt, ct, R, G⟩
          · have hvb : (v8 == 0) = false := by rw [beq_eq_false_iff_ne]; exact hv8
            go_wp2_with fail
            go_meet
            exact ⟨false, _, rfl, fun _ => by omega, by omega, zt, ct, R, G⟩
      · have hd0' : decide ((0 : Int) < d) = false := decide_eq_false h0
        go_wp2_with fail
        refine (pick_any 8 g p A n cap bs W (by omega) (by omega) (by omega) R).mono ?_
        rintro e u8 ⟨v8, rfl, h0_, h1_, R_, hg_⟩
        have ct := (hg_.cell (k := w.heap.size) zt (by omega)).trans ct
        have zt := Nat.lt_of_lt_of_le zt hg_.size
        have G := G.trans hg_
        have v8b : 0 ≤ v8 ∧ v8 < 8 := by rcases h1_ with h | h <;> omega
        have R := R_
        clear h0_ h1_ R_ hg_
        by_cases hv8 : v8 = 0
        · have hvb : (v8 == 0) = true := by rw [hv8]; rfl
          go_wp2_with fail
          go_meet
          exact ⟨true, _, rfl, nofun, by omega, zt, ct, R, G⟩
        · have hvb : (v8 == 0) = false := by rw [beq_eq_false_iff_ne]; exact hv8
          go_wp2_with fail
          go_meet
          exact ⟨false, _, rfl, fun _ => by omega, by omega, zt, ct, R, G⟩
  case rest =>
    clear ct zt R G
    obtain ⟨b, p1, rfl, hb, hp1, zt, ct, R, G⟩ := hcut
    cases b
    · replace hb := hb rfl
      obtain ⟨k, rfl, ih⟩ := IH.out hb
      clear IH
      have hpk : pkG (k + 1) = 6 + 3 * pkG k := rfl
      have hlk : lenG (k + 1) = 1 + 3 * lenG k := rfl
      rw [hpk] at hp
      obtain ⟨i1, hi1, hy0, hy1, hy2⟩ := info_parts infoPrtS
      go_wp2_with fail
      refine (one_lit [1, 2, 0, 7] 4 _ _ g p1 A n cap bs wc _ rfl rfl (by decide) (by decide) (by intro x hx; simp at hx; constructor <;> omega) (by omega) rfl R).mono ?_
      rintro e v2 ⟨co, rfl, hco, R2, hg2⟩
      have hcb : 0 ≤ co ∧ co ≤ 7 := by simp at hco; omega
      have G2 := G.trans hg2
      have hs2 := hg2.size
      have hs3 : w.heap.size + 1 ≤ v2.heap.size := by omega
      have ct2 := (hg2.cell (k := w.heap.size) zt (by omega)).trans ct
      have O0 := own_oneD v2 ⟨d, true, 0, co⟩ (b := w.heap.size + 1) hs3
      have LA := Le.new v2 (.cells #[.int .i64 d, .bool true, .int .i64 0, .int .i64 co] 57)
      have R3 := R2.le LA
      have G3 := G2.trans (Gx.of_le LA)
      have ct3 := (LA.cell (b := w.heap.size) (o := 0) (by omega)).trans ct2
      have hzA : Hid ((v2.alloc (.cells #[.int .i64 d, .bool true, .int .i64 0, .int .i64 co] 57)).heap.size = v2.heap.size + 1) := by show _ = _; simp
      clear hco hg2 R R2 G G2 LA ct ct2
      go_wp2_with fail
      generalize v2.alloc (.cells #[.int .i64 d, .bool true, .int .i64 0, .int .i64 co] 57) = v3 at *
      refine (one_lit [2, 3, 1] 3 _ _ g (p1 + 1) A n cap bs v3 _ rfl rfl (by decide) (by decide) (by intro x hx; simp at hx; constructor <;> omega) (by omega) hzA.out.symm R3).mono ?_
      rintro e v4 ⟨nn, rfl, hnn, R4, hg4⟩
      have hnb : 0 ≤ nn ∧ nn ≤ 3 := by simp at hnn; omega
      have zA3 : v2.heap.size < v3.heap.size := by have := hzA.out; omega
      have hs4 := hg4.size
      have O1 := O0.kept hg4 (.inr (fun e => by have e1 : v2.heap.size = g := (by injection e); omega))
      have ct4 := (hg4.cell (k := w.heap.size) (by omega) (by omega)).trans ct3
      have G4 := G3.trans hg4
      have zt4 : w.heap.size + 1 ≤ v4.heap.size := by omega
      clear hnn hg4 R3 G3 O0 ct3 hs2 hs3 hs4
      go_wp2
      go_loopw [7, 8] (fun v i wr => ∃ (L : List Prt) (j p' : Nat), i = .int .i64 j ∧ 1 ≤ L.length ∧ L.length + remN j (lenG k) ≤ 1 + 3 * lenG k ∧ p' + remN j (pkG k) ≤ p + 6 + 3 * pkG k ∧ (∀ q ∈ L, PtB q) ∧ wr.ownsRow (w.heap.size + 1) 57 4 v L.length (L.flatMap Enc.cells) ∧ wr.cell? ⟨w.heap.size, 0, none⟩ = some (.slice B m c) ∧ w.heap.size + 1 ≤ wr.heap.size ∧ Rd wr g p' A n cap bs ∧ Gx g w wr) (fun _ i _ => (intOf i).toNat)
      case atStart =>
        obtain ⟨j, rfl⟩ := Int.eq_ofNat_of_zero_le hnb.1
        have h1 := remN_le (k := j) (a := lenG k) (by omega)
        have h2 := remN_le (k := j) (a := pkG k) (by omega)
        exact ⟨[⟨d, true, 0, co⟩], j, _, rfl, Nat.le_refl _, by show 1 + _ ≤ _; omega, by omega, fun q hq => by rw [List.mem_singleton.1 hq]; exact ⟨by show -9 ≤ d; omega, by show d ≤ 9; omega, by show -9 ≤ (0 : Int); omega, by show (0 : Int) ≤ 9; omega, by show -9 ≤ co; omega, by show co ≤ 100; omega⟩, O1, ct4, zt4, R4, G4⟩
      case round =>
        clear O1 ct4 zt4 R4 G4 hnb
        obtain ⟨L, j, p', rfl, hl2, hl, hp', hP, O, ct, z, R, G⟩ := hrel
        by_cases h0 : 0 < j
        · have hk0 : (0 : Int) < j := by omega
          obtain ⟨j, rfl⟩ : ∃ i, j = i + 1 := ⟨j - 1, by omega⟩
          rw [remN_succ] at hl hp'
          have hj := remN_ge j (pkG k) (pkG_pos k)
          have hwj : IntKind.i64.wrap ((j : Int) + 1 - 1) = (j : Int) := by rw [Int.add_sub_cancel]; exact IntWalk.i64_in _ (by omega)
          have HWJ : Hid (wrap64 (j : Int) = (j : Int)) := Lib.hid (by unfold wrap64; omega)
          have hwd : IntKind.i64.wrap (d + 1) = d + 1 := IntWalk.i64_in _ (by omega)
          have HP := Lib.hid hP
          have HIH := Lib.hid (ih p' wr (by omega) R)
          clear hP
          go_wp2_with fail
          refine HIH.out.mono ?_
          rintro e w2 ⟨v2', L2, p2, rfl, O2, hP2, hl21, hl22, hp2, R2, hg2⟩
          obtain ⟨A2, c2, rfl⟩ := own_form O2
          have S2 := Sl.of_own O2 rfl (by decide) (ptB_ok hP2)
          have HP2 := Lib.hid hP2
          have O3 := O.kept hg2 (.inr (fun e => by have := (O.lt _ e).1; omega))
          have ct2 := (hg2.cell (k := w.heap.size) (o := 0) (by omega) (by omega)).trans ct
          have G2 := G.trans hg2
          have z2 : w.heap.size + 1 ≤ w2.heap.size := Nat.le_trans z hg2.size
          have hbk := O3.lt
          have hla := lenG_le k
          clear O R G hg2 z ct O2 hP2
          obtain ⟨A1, c1, rfl⟩ := own_form O3
          go_wp2_with (at_builtin; refine wpList_append_sl rfl _ _ 26 rfl (w.heap.size + 1) 57 i1 _ 32 Try.underlying26 hi1 hy0 hy1 hy2 rfl _ L.length L rfl O3 A2 L2.length c2 L2 rfl S2 (by unfold maxLen; omega) (by omega) z2 ?_; intro v5 w5 O5 hg5 _; have R5 := R2.grown hg5 (fun e => by have h := (hbk _ e).1; omega) (fun hn a e e2 => by have h := (hbk _ e2).1; have := HA.out hn a e; omega); have G5 := G2.grown hg5 (fun k hk => by have h := (hbk _ hk).1; omega); have ct5 := hg5.cell (a := ⟨w.heap.size, 0, none⟩) ct2 (fun e => by have h := (hbk _ e.symm).1; have h : w.heap.size + 1 ≤ w.heap.size := h; omega); have z5 := Nat.le_trans z2 hg5.size)
          go_roundw
          case rel => exact ⟨L ++ L2, j, p2, (by first | rfl | exact congrArg (Value.int .i64) HWJ.out), by rw [List.length_append]; omega, by rw [List.length_append]; omega, by omega, (fun q hq => (List.mem_append.1 hq).elim (HP.out q) (HP2.out q)), by rw [List.length_append]; exact O5, ct5, z5, R5, G5⟩
          case measure => first | (simp [intOf]; done) | (simp [intOf]; have := HWJ.out; omega)
        · obtain rfl : j = 0 := by omega
          obtain ⟨A1, c1, rfl⟩ := own_form O
          have HO := Lib.hid (own_mono O (Nat.le_succ _))
          have HP := Lib.hid hP
          rw [remN_zero] at hl hp'
          clear O hP
          go_wp2
          go_ret
          exact ⟨_, L, p', rfl, HO.out, HP.out, hl2, hl, by show p' ≤ p + (6 + 3 * pkG k); omega, R, G⟩
    · clear IH hb
      go_wp2_with fail
      refine (pick_any (m : Int) g p1 A n cap bs wc (by omega) (by omega) (by omega) R).mono ?_
      rintro e v1 ⟨cl, rfl, hc0, hc1, R1, hg1⟩
      have hcl : 0 ≤ cl ∧ cl ≤ 8 := by rcases hc1 with h | h <;> omega
      have G1 := G.trans hg1
      clear hc0 hc1 R hg1 ct G
      go_wp2_with fail
      refine (one_lit [1, 2, 3, 0, 99] 5 _ _ g (p1 + 1) A n cap bs v1 _ rfl rfl (by decide) (by decide) (by intro x hx; simp at hx; constructor <;> omega) (by omega) rfl R1).mono ?_
      rintro e v2 ⟨co, rfl, hco, R2, hg2⟩
      have hcb : 0 ≤ co ∧ co ≤ 99 := by simp at hco; omega
      have G2 := G1.trans hg2
      have hs2 := G2.size
      have HO := Lib.hid (own_oneD v2 ⟨d, false, cl, co⟩ (b := w.heap.size) hs2)
      have LA := Le.new v2 (.cells #[.int .i64 d, .bool false, .int .i64 cl, .int .i64 co] 57)
      have HR := Lib.hid (R2.le LA)
      have HG := Lib.hid (G2.trans (Gx.of_le LA))
      clear hco hg2 G1 R1 R2 LA G2
      go_wp2
      go_ret
      exact ⟨_, [⟨d, false, cl, co⟩], _, rfl, HO.out, fun q hq => by rw [List.mem_singleton.1 hq]; exact ⟨by show -9 ≤ d; omega, by show d ≤ 9; omega, by show -9 ≤ cl; omega, by show cl ≤ 9; omega, by show -9 ≤ co; omega, by show co ≤ 100; omega⟩, Nat.le_refl _, hl1, by omega, HR.out, HG.out⟩
theorem goodGroup_any (B : Option Addr) (m c g : Nat) (A : Option Addr) (n cap : Nat) (bs : List By) (hm : m ≤ 8) : ∀ (hh : Nat) (d : Int), 0 ≤ d → d + hh ≤ 9 → 3 ≤ d + hh → ∀ (p : Nat) (w : World), p + 4 * pkG hh ≤ 900000 → Rd w g p A n cap bs → 
    Calls Try.prog 56 #[.pointer (some ⟨g, 0, none⟩), .agg #[.slice B m c], .int .i64 d] w (GrpOut (lenG hh) (pkG hh) g p A n cap bs w)
  | 0, d, h0, h9, h3, p, w, hp, hR => goodGroup_step B m c g A n cap bs hm 0 d h0 (by omega) (fun h => by omega) p w hp hR
  | k + 1, d, h0, h9, h3, p, w, hp, hR => goodGroup_step B m c g A n cap bs hm (k + 1) d h0 (by omega) (fun h => ⟨k, rfl, goodGroup_any B m c g A n cap bs hm k (d + 1) (by omega) (by omega) (by omega)⟩) p w hp hR
end

section
open Go.RowKit Go.Shelf
attribute [local go_sem] Oper.semAt_some
/-- a slice that lies below n₀ -/
structure SlB {α : Type} [Enc α] (n₀ : Nat) (w : World) (A : Option Addr) (n cap : Nat) (xs : List α) : Prop where
  sl : Sl w A n cap xs
  lo : 0 < n → ∀ a, A = some a → a.block < n₀
theorem Sl.belowN {α : Type} [Enc α] {n₀ : Nat} {w w' : World} {A : Option Addr} {n cap : Nat} {xs : List α} (h : Sl w A n cap xs) (hl : 0 < n → ∀ a, A = some a → a.block < n₀) (hB : Below n₀ w w') : Sl w' A n cap xs := by
  refine ⟨h.len, h.cap_, h.max, h.ok, fun hn => ?_⟩
  obtain ⟨b, off, e, hb, hc⟩ := h.at_ hn
  have hlt := hl hn _ e
  exact ⟨b, off, e, Nat.lt_of_lt_of_le hb hB.size, fun j u hu => (hB.cell (p := ⟨b, off + j, none⟩) hlt).trans (hc j u hu)⟩
theorem SlB.below {α : Type} [Enc α] {n₀ : Nat} {w w' : World} {A : Option Addr} {n cap : Nat} {xs : List α} (h : SlB n₀ w A n cap xs) (hB : Below n₀ w w') : SlB n₀ w' A n cap xs := ⟨h.sl.belowN h.lo hB, h.lo⟩
theorem leavesL_take {g : List Prt} {k : Nat} (h : k < g.length) : leavesL (g.take (k + 1)) = leavesL (g.take k) ++ if g[k].group = true then [] else [⟨g[k].cls, g[k].code⟩] := by
  unfold leavesL
  rw [List.take_succ_eq_append_getElem h, List.filter_append, List.map_append]
  cases e : g[k].group
  · rw [List.filter_cons_of_pos (by simp [e])]; rfl
  · rw [List.filter_cons_of_neg (by simp [e])]; rfl
theorem leavesL_len (g : List Prt) : (leavesL g).length ≤ g.length := by
  unfold leavesL
  rw [List.length_map]
  exact List.length_filter_le _ _
theorem leavesL_pre (g : List Prt) (k : Nat) : leavesL (g.take k) <+: leavesL g := by
  refine ⟨leavesL (g.drop k), ?_⟩
  unfold leavesL
  rw [← List.map_append, ← List.filter_append, List.take_append_drop]
abbrev encLef {P : Lef → Prop} (x : { x : Lef // P x }) : Array Value := #[.agg #[.int .i64 x.1.cls, .int .i64 x.1.code]]
set_option maxRecDepth 100000 in
set_option maxHeartbeats 4000000 in
theorem leaves1_in (F : Fence) (n : Nat) (hf : F.fn 75) (hro : F.round = none) (hn : 1 ≤ n) (l Bg n₀ : Nat) (A : Option Addr) (m cap : Nat) (g : List Prt) (P : Lef → Prop) (hP : ∀ x ∈ leavesL g, P x) (J Jx : List { x : Lef // P x } → World → Prop)
    (hY : ∀ pre x W, J pre W → pre.length < g.length → YieldAt F (n - 1) Try.prog l (encLef x) W fun e W' =>
      (e = .returned (.bool true) ∧ J (pre ++ [x]) W' ∧ Below n₀ W W') ∨ (e = .returned (.bool false) ∧ Jx (pre ++ [x]) W'))
    (W : World) (hn₀ : n₀ ≤ W.heap.size) (hJ : AbidesFrom W.heap.size J) (hBg : W.cell? ⟨Bg, 0, none⟩ = some (.slice A m cap)) (S : SlB n₀ W A m cap g) (h0 : J [] W) :
    CallsIn F n Try.prog 75 #[.func (.yield l) #[] #[], .pointer (some ⟨Bg, 0, none⟩)] W fun e W' => (∃ v, e = .returned v) ∧
      ((∃ ys, ys.map (·.1) = leavesL g ∧ J ys W') ∨ (∃ pre, pre.map (·.1) <+: leavesL g ∧ Jx pre W')) := by
  obtain rfl := S.sl.len
  have hmx := S.sl.n_le
  refine callsIn_of_wp Try.func75 rfl hf ?_ hro
  simp only [Try.ntmps75, List.size_toArray, List.length_cons, List.length_nil, Nat.reduceAdd, Nat.reduceSub, Array.replicate_succ, Array.replicate_zero, List.push_toArray, List.append_toArray, List.nil_append, List.cons_append]
  gi_wp2
  gi_loopw [7] (fun i wr => ∃ k : Nat, k ≤ g.length ∧ i = .int .i64 k ∧ (∃ ys : List { x : Lef // P x }, ys.map (·.1) = leavesL (g.take k) ∧ J ys wr) ∧ Below n₀ W wr ∧ W.heap.size ≤ wr.heap.size)
    (fun i _ => g.length - (intOf i).toNat)
  case atStart => exact ⟨0, Nat.zero_le _, rfl, ⟨[], rfl, h0⟩, Below.refl _ _, Nat.le_refl _⟩
  case round =>
    obtain ⟨k, hk, rfl, ⟨ys, hys, hJs⟩, hnx, hsz⟩ := hrel
    have HYS := Lib.hid hys
    clear hys
    by_cases hlt : k < g.length
    · obtain ⟨b, off, rfl, hb, c0, c1, c2, c3, -⟩ := (S.below hnx).sl.prt_at hlt
      have hJ' : J ys (wr.alloc (.cells #[.int .i64 g[k].depth, .bool g[k].group, .int .i64 g[k].cls, .int .i64 g[k].code] 57)) := hJ _ wr _ none hJs (World.grownBy_alloc wr _ none) (fun r e => by cases e)
      have hT := leavesL_take hlt
      have hlen : ys.length < g.length := by
        have h1 := congrArg List.length HYS.out
        rw [List.length_map] at h1
        rw [h1]; exact Nat.lt_of_le_of_lt (leavesL_len _) (by rw [List.length_take]; omega)
      cases e : g[k].group
      · rw [e] at c1 hJ'
        rw [e, if_neg (by decide)] at hT
        have hpre := leavesL_pre g (k + 1)
        rw [hT] at hpre
        have hPx : P ⟨g[k].cls, g[k].code⟩ := hP _ (hpre.subset (by simp))
        obtain ⟨fn, tmps, assign, body, hy, hR⟩ := hY ys ⟨⟨g[k].cls, g[k].code⟩, hPx⟩ _ hJ' hlen
        have HT := Lib.hid hT
        have HPR := Lib.hid hpre
        clear hT hpre
        gi_wp2
        refine hR.mono ?_
        rintro e3 W3 (⟨rfl, hJ3, hk3⟩ | ⟨rfl, hJx3⟩)
        · gi_wp2
          go_roundw
          case rel => exact ⟨k + 1, by omega, by simp, ⟨_, by rw [HT.out, List.map_append, HYS.out]; rfl, hJ3⟩, hnx.trans (((Below.refl n₀ wr).alloc (by omega) _).trans hk3), by have := hk3.size; simp at this; omega⟩
          case measure => simp [intOf]; omega
        · gi_wp2
          refine bodyPost_ret (results_none rfl _ _ _) rfl ?_
          exact ⟨⟨_, rfl⟩, .inr ⟨_, by rw [List.map_append, HYS.out]; exact HPR.out, hJx3⟩⟩
      · rw [e] at c1 hJ'
        rw [e, if_pos rfl, List.append_nil] at hT
        have HT := Lib.hid hT
        clear hT
        gi_wp2
        refine ⟨fun _ h => (by cases h), ?_⟩
        gi_wp2
        go_roundw
        case rel => exact ⟨k + 1, by omega, by simp, ⟨ys, by rw [HT.out]; exact HYS.out, hJ'⟩, hnx.trans ((Below.refl n₀ wr).alloc (by omega) _), by simp; omega⟩
        case measure => simp [intOf]; omega
    · obtain rfl : k = g.length := by omega
      gi_wp2
      go_end0
      exact ⟨⟨_, rfl⟩, .inl ⟨ys, by rw [HYS.out, List.take_length], hJs⟩⟩
end

section
theorem meth_nodeL (a : Addr) (w : World) : (method 264 65 (.pointer (some a)) "loop.example/faultcleanup/impl.catches").run Try.prog w = .ok (46, .pointer (some a)) w := by kernel_rfl
theorem nil_nodeL (a : Addr) (w : World) : (nilAhead 264 65 (.pointer (some a)) "loop.example/faultcleanup/impl.catches").run Try.prog w = .ok (some false) w := by kernel_rfl
set_option maxRecDepth 100000 in
set_option maxHeartbeats 2000000 in
theorem caughtLeaf1_any (By Bn : Nat) (A : Option Addr) (gs : List PB) (xs : List Cls) (g : Good xs) (j : Nat) (hj : j < gs.length) (c code : Int) (c0 : 0 ≤ c) (c1 : c < xs.length) (w : World) (hS : Sl w A xs.length xs.length gs) (hN : Nds w gs xs)
    (h1 : w.cell? ⟨By, 0, none⟩ = some (.iface 65 (.pointer (some ⟨gs[j].g, 0, none⟩)))) (h2 : w.cell? ⟨Bn, 0, none⟩ = some (.slice A xs.length xs.length)) (z1 : By < w.heap.size) (z2 : Bn < w.heap.size) :
    Calls Try.prog 67 #[.agg #[.int .i64 c, .int .i64 code], .pointer (some ⟨By, 0, none⟩), .pointer (some ⟨Bn, 0, none⟩)] w fun e w' => e = .returned (.bool (isAL xs c j)) ∧ Le w w' := by
  have HL := Lib.hid hN.len
  have hhi := g.hi
  obtain ⟨k, rfl⟩ : ∃ k : Nat, c = k := ⟨c.toNat, by omega⟩
  have hkg : k < gs.length := by have := HL.out; omega
  have hle : Le w (w.alloc (.cells #[.int .i64 (k : Int), .int .i64 code] 38)).drew := (Le.new w _).drew
  obtain ⟨b, off, rfl, hb, hcell⟩ := (hS.le hle).pb_at hkg
  have hNr := hN.le hle
  have d1 := (hle.cell z1).trans h1
  have d2 := (hle.cell z2).trans h2
  have d3 : (w.alloc (.cells #[.int .i64 (k : Int), .int .i64 code] 38)).drew.cell? ⟨w.heap.size, 0, none⟩ = some (.int .i64 (k : Int)) := by
    show (w.alloc _).cell? _ = _
    rw [World.cell?_alloc_at _ _ _ _ rfl]; rfl
  have hm := fun W => meth_nodeL ⟨gs[j].g, 0, none⟩ W
  have hna := fun W => nil_nodeL ⟨gs[j].g, 0, none⟩ W
  have hc := catches_any gs xs g j hj (k : Int) (by omega) (by omega) _ hNr
  rw [ptrOf_at hkg] at hc
  have HC := Lib.hid hc; clear hc
  have HLE := Lib.hid hle; clear hle
  go_enter Try.func67, Try.ntmps67
  go_wp2_with fail
  refine wp_region_noPanic ?_
  refine wp_region_Z (fun w' => w'.cell? ⟨By, 0, none⟩ = some (.iface 65 (.pointer (some ⟨gs[j].g, 0, none⟩))) ∧ w'.cell? ⟨Bn, 0, none⟩ = some (.slice (some ⟨b, off, none⟩) xs.length xs.length) ∧ w'.cell? ⟨w.heap.size, 0, none⟩ = some (.int .i64 (k : Int)) ∧ w'.cell? ⟨b, off + k, none⟩ = some (.pointer (some ⟨gs[k].g, 0, none⟩))) [] (by kernel_rfl) ?_
  generalize (w.alloc (.cells #[.int .i64 (k : Int), .int .i64 code] 38)).drew = V at *
  refine wpAnyZ_take (i := 0) (v := ?_) rfl (by kernel_rfl) (fun _ _ _ h => h) (Or.inl ⟨by rfl, ?_⟩) (⟨d1, d2, d3, hcell⟩) ?_
  rotate_left 1
  · (intro w hSw; (try dsimp only at hSw); go_simp; try with_reducible rfl)
  try simp only [Act.put, List.setIfInBounds_toArray, List.set_cons_zero, List.set_cons_succ]
  refine wpAnyZ_take (i := 1) (v := ?_) rfl (by kernel_rfl) (fun _ _ _ h => h) (Or.inl ⟨by rfl, ?_⟩) (⟨d1, d2, d3, hcell⟩) ?_
  rotate_left 1
  · (intro w hSw; (try dsimp only at hSw); go_simp; try with_reducible rfl)
  try simp only [Act.put, List.setIfInBounds_toArray, List.set_cons_zero, List.set_cons_succ]
  refine wpAnyZ_take (i := 2) (v := ?_) rfl (by kernel_rfl) (fun _ _ _ h => h) (Or.inl ⟨by rfl, ?_⟩) (⟨d1, d2, d3, hcell⟩) ?_
  rotate_left 1
  · (intro w hSw; (try dsimp only at hSw); go_simp; try with_reducible rfl)
  try simp only [Act.put, List.setIfInBounds_toArray, List.set_cons_zero, List.set_cons_succ]
  refine wpAnyZ_take (i := 3) (v := ?_) rfl (by kernel_rfl) (fun _ _ _ h => h) (Or.inl ⟨by rfl, ?_⟩) (⟨d1, d2, d3, hcell⟩) ?_
  rotate_left 1
  · (intro w hSw; (try dsimp only at hSw); go_simp; try with_reducible rfl)
  try simp only [Act.put, List.setIfInBounds_toArray, List.set_cons_zero, List.set_cons_succ]
  refine wpAnyZ_take (i := 4) (v := ?_) rfl (by kernel_rfl) (fun _ _ _ h => h) (Or.inl ⟨by rfl, ?_⟩) (⟨d1, d2, d3, hcell⟩) ?_
  rotate_left 1
  · (intro w hSw; (try dsimp only at hSw); go_simp; try with_reducible rfl)
  try simp only [Act.put, List.setIfInBounds_toArray, List.set_cons_zero, List.set_cons_succ]
  refine wpAnyZ_take (i := 5) (v := ?_) rfl (by kernel_rfl) (fun _ _ _ h => h) (Or.inl ⟨by rfl, ?_⟩) (⟨d1, d2, d3, hcell⟩) ?_
  rotate_left 1
  · (intro w hSw; (try dsimp only at hSw); go_simp; try with_reducible rfl)
  try simp only [Act.put, List.setIfInBounds_toArray, List.set_cons_zero, List.set_cons_succ]
  refine wpAnyZ_take (i := 6) (v := ?_) rfl (by kernel_rfl) (fun _ _ _ h => h) (Or.inl ⟨by rfl, ?_⟩) (⟨d1, d2, d3, hcell⟩) ?_
  rotate_left 1
  · (intro w hSw; (try dsimp only at hSw); go_simp; try with_reducible rfl)
  try simp only [Act.put, List.setIfInBounds_toArray, List.set_cons_zero, List.set_cons_succ]
  refine wpAnyZ_take (i := 7) (v := ?_) rfl (by kernel_rfl) (fun _ _ _ h => h) (Or.inl ⟨by rfl, ?_⟩) (⟨d1, d2, d3, hcell⟩) ?_
  rotate_left 1
  · (intro w hSw; (try dsimp only at hSw); go_simp; try with_reducible rfl)
  try simp only [Act.put, List.setIfInBounds_toArray, List.set_cons_zero, List.set_cons_succ]
  refine wpAnyZ_take (i := 8) (v := ?_) rfl (by kernel_rfl) (fun _ _ _ h => h) (Or.inl ⟨by rfl, ?_⟩) (⟨d1, d2, d3, hcell⟩) ?_
  rotate_left 1
  · (intro w hSw; (try dsimp only at hSw); go_simp; try with_reducible rfl)
  try simp only [Act.put, List.setIfInBounds_toArray, List.set_cons_zero, List.set_cons_succ]
  refine wpAnyZ_one (i := 9) (by kernel_rfl) (ReadyZ.mk rfl (fun K hK => ?_))
  go_simp
  refine HC.out.mono ?_
  rintro e w3 ⟨rfl, rfl⟩
  refine hK.out _ _ (fun _ => ⟨d1, d2, d3, hcell⟩) ?_
  clear hK K
  try simp only [Act.put, List.setIfInBounds_toArray, List.set_cons_zero, List.set_cons_succ]
  refine wpAnyZ_take (i := 10) (v := ?_) rfl (by kernel_rfl) (fun _ _ _ h => h) (Or.inl ⟨by rfl, ?_⟩) (⟨d1, d2, d3, hcell⟩) ?_
  rotate_left 1
  · (intro w hSw; (try dsimp only at hSw); go_simp; try with_reducible rfl)
  try simp only [Act.put, List.setIfInBounds_toArray, List.set_cons_zero, List.set_cons_succ]
  refine wpAnyZ_done (by kernel_rfl) ?_ _
  refine NoPanic.normal ?_
  go_wp2
  go_ret
  exact ⟨rfl, HLE.out⟩
end
end Go.Proofs.Ytkpnajffeclmdaa
