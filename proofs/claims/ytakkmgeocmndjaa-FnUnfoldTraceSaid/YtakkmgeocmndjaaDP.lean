/- draws: WithHead, HideFuncs -/
import Derived.Test.YtakkmgeocmndjaaDO
import Derived.Test.YtakkmgeocmndjaaTrB
namespace Go.Proofs.Ytakkmgeocmndjaa
open Go.RowKit
def DrTIT (w : World) (e : Ending) (w' : World) : Prop := ∃ (B D : Option Addr) (m c k d : Nat) (xs ys : List Frm) (a : Int), e = .returned (.tuple #[.slice B m c, .int .i64 a, .slice D k d]) ∧ Sl w' B m c xs ∧ m ≤ 12 ∧ Sl w' D k d ys ∧ k ≤ 12 ∧ (-100 ≤ a ∧ a ≤ 100) ∧ Le w w'
set_option maxRecDepth 100000 in
theorem drawWithHead_any (A : Option Addr) (n cap : Nat) (bs : List By) (w : World) (hR : Sl w A n cap bs) : Calls Try.prog 43 #[.slice A n cap] w (DrTIT w) := by
  go_enter Try.func43, Try.ntmps43
  go_wp2_with fail
  refine (newReader_any A n cap bs w hR).mono ?_
  rintro e w1 ⟨g, A1, n1, k1, bs1, rfl, hg, R1, hle⟩
  go_wp2_with fail
  refine (twoTraces_any g 0 A1 n1 k1 bs1 w1 (by omega) R1).mono ?_
  rintro e w2 ⟨v, u, xs, ys, p1, rfl, O, hok, hl, O2, hok2, hl2, hp1, R, G⟩
  obtain ⟨B, c, rfl⟩ := own_form O
  obtain ⟨D, d, rfl⟩ := own_form O2
  have hgw := R1.lt
  clear R1
  have S1 := own_sl O hok
  have S2 := own_sl O2 hok2
  have HLX := Lib.hid O.lt
  have hq := comH_le xs ys
  go_wp2_with fail
  refine (scommonHead_any _ _ _ _ _ _ xs ys _ S1 S2).mono ?_
  rintro e w3 ⟨rfl, hle3⟩
  have O3 := own_le O2 hle3
  have R3 := R.le hle3
  have G3 := G.trans (Gx.of_le hle3)
  generalize comH xs ys = q at *
  clear S1 S2 O O2 R G hle3 hok HLX
  have hwn : IntKind.i64.wrap ((ys.length : Int) + 1) = (ys.length : Int) + 1 := IntWalk.i64_in _ (by omega)
  go_wp2_with fail
  refine (one_lit [(q : Int), 0, 1, (ys.length : Int), (ys.length : Int) + 1, -1] 6 _ _ g p1 A1 n1 k1 bs1 w3 _ rfl rfl (by decide) (by decide) (by intro x hx; simp at hx; constructor <;> omega) (by omega) rfl R3).mono ?_
  rintro e w4 ⟨a, rfl, ha, R4, hg4⟩
  have ha2 : -100 ≤ a ∧ a ≤ 100 := by simp at ha; omega
  have O4 := O3.kept hg4 (.inr (fun e => by have := (O3.lt _ e).1; omega))
  have G4 := G3.trans hg4
  have s4 := G4.size
  clear O3 R3 G3 hg4 ha
  go_wp2_with fail
  refine (goodTrace_any g (p1 + 1) A1 n1 k1 bs1 w4 (by omega) R4).mono ?_
  rintro e w5 ⟨u, zs, p5, rfl, U, hoku, hlu, hp5, R5, hg5⟩
  obtain ⟨E5, e5, rfl⟩ := own_form U
  have O5 := O4.kept hg5 (.inr (fun e => by have := (O4.lt _ e).1; omega))
  have S5 := Lib.hid (own_sl O5 hok2)
  have S6 := Lib.hid (own_sl U hoku)
  have L5 := Gx.le hle (G4.trans hg5) hg
  clear O4 O5 U R4 R5 G4 hg5 hle hok2 hoku
  go_wp2
  exact bodyPost_ret (v := .tuple #[.slice D ys.length d, .int .i64 a, .slice E5 zs.length e5]) (by simp [results, Try.results43, go_sem]) rfl ⟨_, _, _, _, _, _, ys, zs, a, rfl, S5.out, hl2, S6.out, hlu, ha2, L5⟩
instance instOneStr : EncOne ByteArray := ⟨by decide, fun x u hu => by simp [Enc.cells] at hu; subst hu; rfl⟩
theorem infoStrD : (Try.prog.info? 9).map (fun i => (i.zero, i.size, i.bytes)) = some (some (.string ByteArray.empty), 1, 16) := by kernel_rfl
def DrTN (w : World) (e : Ending) (w' : World) : Prop := ∃ (B D : Option Addr) (m c k d : Nat) (xs : List Frm) (ns : List ByteArray), e = .returned (.tuple #[.slice B m c, .slice D k d]) ∧ Sl w' B m c xs ∧ m ≤ 12 ∧ Sl w' D k d ns ∧ k ≤ 12 ∧ Le w w'
set_option maxRecDepth 100000 in
theorem drawHideFuncs_any (A : Option Addr) (n cap : Nat) (bs : List By) (w : World) (hR : Sl w A n cap bs) : Calls Try.prog 25 #[.slice A n cap] w (DrTN w) := by
  go_enter Try.func25, Try.ntmps25
  go_wp2_with fail
  refine (newReader_any A n cap bs w hR).mono ?_
  rintro e w1 ⟨g, A1, n1, k1, bs1, rfl, hg, R1, hle⟩
  obtain ⟨i0, hi, hz0, hz1, hz2⟩ := info_parts infoStrD
  have HA : Hid (0 < n1 → ∀ a, A1 = some a → a.block < w1.heap.size) := fun hn a e => R1.sl.under hn a e
  have hgw := R1.lt
  go_wp2_with fail
  have L0 := Le.new w1 (.cells #[] 9)
  have O0 := own_empty (w := w1) (base := w1.heap.size) (g := w1.heap.size) (e := 9) (size := 1) (Nat.le_refl _) rfl
  have R0 := R1.le L0
  have zs : (w1.alloc (.cells #[] 9)).heap.size = w1.heap.size + 1 := by simp
  generalize w1.alloc (.cells #[] 9) = W at *
  refine (pick_any 3 g 0 A1 n1 k1 bs1 W (by omega) (by omega) (by omega) R0).mono ?_
  rintro e w2 ⟨y, rfl, hy0, hy1, R2, hg2⟩
  have O2 := O0.kept hg2 (.inr (fun e => by have e1 : w1.heap.size = g := (by injection e); omega))
  have G2 := (Gx.of_le (g := g) L0).trans hg2
  have hy3 : y < 3 := by rcases hy1 with h | h <;> omega
  have s2 := hg2.size
  clear R0 O0 L0 hg2 hy1 R1
  go_wp2
  go_loopw [5, 6] (fun v i wr => ∃ (L : List ByteArray) (q p' : Nat), i = .int .i64 q ∧ q ≤ 2 ∧ p' + q ≤ 10 ∧ L.length + q ≤ 2 ∧ (∀ x ∈ L, Enc.ok x) ∧ wr.ownsRow w1.heap.size 9 1 v L.length (L.flatMap Enc.cells) ∧ w1.heap.size ≤ wr.heap.size ∧ Rd wr g p' A1 n1 k1 bs1 ∧ Gx g w1 wr) (fun _ i _ => (intOf i).toNat)
  case atStart =>
    obtain ⟨q, rfl⟩ := Int.eq_ofNat_of_zero_le hy0
    exact ⟨[], q, 1, rfl, by omega, by omega, by simp; omega, by simp, O2, by omega, R2, G2⟩
  case round =>
    clear O2 R2 G2 hy0 hy3 s2 zs
    obtain ⟨L, q, p', rfl, hq, hp', hLq, hL, O, z, R, G⟩ := hrel
    obtain ⟨A2, c2, rfl⟩ := own_form O
    have HL := Lib.hid hL
    cases q with
    | zero =>
      clear hL
      go_wp2_with fail
      refine (someTrace_any g p' A1 n1 k1 bs1 wr (by omega) R).mono ?_
      rintro e w5 ⟨u, xs, p5, rfl, U, hoku, hlu, hp5, R5, hg5⟩
      obtain ⟨E5, e5, rfl⟩ := own_form U
      have O5 := O.kept hg5 (.inr (fun e => by have := (O.lt _ e).1; omega))
      have S5 := Lib.hid (Sl.of_own (α := ByteArray) O5 rfl (by decide) HL.out)
      have S6 := Lib.hid (own_sl U hoku)
      have L5 := Gx.le hle (G.trans hg5) hg
      clear O O5 U R R5 G hg5 hle hoku
      go_wp2
      exact bodyPost_ret (v := .tuple #[.slice E5 xs.length e5, .slice A2 L.length c2]) (by simp [results, Try.results25, go_sem]) rfl ⟨_, _, _, _, _, _, xs, L, rfl, S6.out, hlu, S5.out, by omega, L5⟩
    | succ t =>
      have hwt : IntKind.i64.wrap ((t : Int) + 1 - 1) = (t : Int) := by rw [Int.add_sub_cancel]; exact IntWalk.i64_in _ (by omega)
      clear hL
      go_wp2_with fail
      refine (of_lit noS 4 _ _ g p' A1 n1 k1 bs1 wr _ rfl rfl (by decide) (by decide) noS_ok (by omega) rfl R).mono ?_
      rintro e w6 ⟨f, rfl, hf, R6, hg6⟩
      have hfo := noS_ok f hf
      have O6 := O.kept hg6 (.inr (fun e => by have := (O.lt _ e).1; omega))
      have G6 := G.trans hg6
      have s6 := hg6.size
      have hbk := O6.lt
      clear O R G hg6 hf
      go_wp2_with (at_builtin; refine wpList_append_sl rfl _ _ 37 rfl w1.heap.size 9 i0 _ 16 Try.underlying37 hi hz0 hz1 hz2 rfl _ _ L rfl (O6.alloc _) _ 1 1 [f] rfl (sl_one f rfl hfo rfl) (by unfold maxLen; omega) (by omega) (Nat.le_trans (by omega) (Le.new w6 _).size) ?_; intro v1 w7 O7 hg7 _; have LA := Le.new w6 (.cells #[.string f] 9); have R7 := (R6.le LA).grown hg7 (fun e => by have h := (hbk _ e).1; omega) (fun hn a e e2 => by have h := (hbk _ e2).1; have := HA.out hn a e; omega); have G7 := (G6.trans (Gx.of_le LA)).grown hg7 (fun k hk => by have h := (hbk _ hk).1; omega); have s7 : w1.heap.size ≤ w7.heap.size := Nat.le_trans (Nat.le_trans z s6) (Nat.le_trans LA.size hg7.size); clear hg7 LA)
      go_roundw
      case rel => exact ⟨L ++ [f], t, p' + 1, by go_num, by omega, by omega, by simp; omega, (fun y hy => by rcases List.mem_append.1 hy with h | h; exact HL.out y h; simp at h; subst h; exact hfo), by rw [List.length_append]; exact O7, s7, R7, G7⟩
      case measure => (simp [intOf]) <;> omega
end Go.Proofs.Ytakkmgeocmndjaa
