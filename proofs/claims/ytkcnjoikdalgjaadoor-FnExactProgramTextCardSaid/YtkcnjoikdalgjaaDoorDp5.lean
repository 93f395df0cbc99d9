/- one text of JwC, YpB, YpS, TtB, PhC, PhD, PhA, HpB -/
import Derived.Test.YtkcnjoikdalgjaaDoorDp2
import Derived.Test.YtkcnjoikdalgjaaDoorDp4
import Derived.Test.YtkcnjoikdalgjaaDoorShelf
import Derived.Test.YtkcnjoikdalgjaaDoorDp3
import Derived.Test.YtkcnjoikdalgjaaDoorDp1
import Derived.Deep.RegionHeld3
namespace Go.Proofs.YtkcnjoikdalgjaaDoor
open Go.RowKit
set_option linter.unusedVariables false
section
theorem joinW_any (A : Option Addr) (n c : Nat) (L : List ByteArray) (w : World) (S : Sl w A n c L) (hl : (jn (L.map bl)).length ≤ 1000000) (hn : n ≤ 1000000) :
    Calls Tryd.prog 39 #[.slice A n c] w fun e w' => e = .returned (.string (tb (jn (L.map bl)))) ∧ Le w w' := by
  have HJ := Lib.hid (join_any A n c L w S hl hn)
  go_enter Tryd.func39, Tryd.ntmps39
  go_wp2_with fail
  refine HJ.out.mono ?_
  rintro e w1 ⟨rfl, hle⟩
  go_wp2
  go_ret
  exact ⟨rfl, hle⟩
/-- a list of texts that is written out -/
theorem sl_new2 (w : World) (a b : ByteArray) (T : TypeId) (ha : a.size ≤ 1000) (hb : b.size ≤ 1000) : Sl (w.alloc (.cells #[.string a, .string b] T)) (some ⟨w.heap.size, 0, none⟩) 2 2 [a, b] :=
  Sl.of_rowF (hp_new _ _ rfl) rfl rfl (by omega) (fun x hx => by simp at hx; rcases hx with rfl | rfl <;> (show _ ≤ 9223372036854775807; omega))
theorem sl_new3 (w : World) (a b d : ByteArray) (T : TypeId) (ha : a.size ≤ 1000) (hb : b.size ≤ 1000) (hd : d.size ≤ 1000) : Sl (w.alloc (.cells #[.string a, .string b, .string d] T)) (some ⟨w.heap.size, 0, none⟩) 3 3 [a, b, d] :=
  Sl.of_rowF (hp_new _ _ rfl) rfl rfl (by omega) (fun x hx => by simp at hx; rcases hx with rfl | rfl | rfl <;> (show _ ≤ 9223372036854775807; omega))
theorem join2 (w : World) (a b : ByteArray) (T : TypeId) (ha : a.size ≤ 1000) (hb : b.size ≤ 1000) (r : List UInt8) (hr : bl a ++ 32 :: bl b = r) :
    Calls Tryd.prog 39 #[.slice (some ⟨w.heap.size, 0, none⟩) 2 2] (w.alloc (.cells #[.string a, .string b] T)) fun e w' => e = .returned (.string (tb r)) ∧ Le w w' := by
  have e : jn ([a, b].map bl) = r := hr
  have hl : r.length ≤ 1000000 := by rw [← hr, List.length_append, List.length_cons, bl_len, bl_len]; omega
  refine (joinW_any _ 2 2 [a, b] _ (sl_new2 w a b T ha hb) (by rw [e]; exact hl) (by omega)).mono ?_
  rintro e' w' ⟨rfl, hle⟩
  exact ⟨by rw [e], (Le.new w _).trans hle⟩
theorem join3 (w : World) (a b d : ByteArray) (T : TypeId) (ha : a.size ≤ 1000) (hb : b.size ≤ 1000) (hd : d.size ≤ 1000) (r : List UInt8) (hr : bl a ++ 32 :: (bl b ++ 32 :: bl d) = r) :
    Calls Tryd.prog 39 #[.slice (some ⟨w.heap.size, 0, none⟩) 3 3] (w.alloc (.cells #[.string a, .string b, .string d] T)) fun e w' => e = .returned (.string (tb r)) ∧ Le w w' := by
  have e : jn ([a, b, d].map bl) = r := hr
  have hl : r.length ≤ 1000000 := by rw [← hr, List.length_append, List.length_cons, List.length_append, List.length_cons, bl_len, bl_len, bl_len]; omega
  refine (joinW_any _ 3 3 [a, b, d] _ (sl_new3 w a b d T ha hb hd) (by rw [e]; exact hl) (by omega)).mono ?_
  rintro e' w' ⟨rfl, hle⟩
  exact ⟨by rw [e], (Le.new w _).trans hle⟩
theorem Bl.below {B b : Nat} {l : List UInt8} {W W' : World} (h : Bl B b l W) (hb : Le W W') : Bl B b l W' := by
  rcases h with h | h
  · refine .inl ?_
    have hlt := h.lt
    obtain ⟨hB, v, hv, hown, hne⟩ := h
    exact ⟨hB, v, (Below.block hb b hlt).trans hv, hown.kept (row := none) ⟨hb.os, hb.tape, hb.output, hb.size, fun k hk _ => Below.block hb k hk⟩ (Classical.em _), hne⟩
  · refine .inr ?_
    have hlt := h.lt
    obtain ⟨hB, v, hv, hown, hne⟩ := h
    exact ⟨hB, v, (Below.block hb b hlt).trans hv, hown.kept (row := none) ⟨hb.os, hb.tape, hb.output, hb.size, fun k hk _ => Below.block hb k hk⟩ (Classical.em _), hne⟩
end

section
theorem boxTLn (w : World) (t d k a b : Value) (T U : TypeId) : ∃ W, (w.alloc (.cells #[t] T)).alloc (.cells #[d, k, a, b] U) = W ∧ W.cell? ⟨w.heap.size, 0, none⟩ = some t ∧ w.heap.size < W.heap.size ∧
    W.cell? ⟨w.heap.size + 1, 0, none⟩ = some d ∧ W.cell? ⟨w.heap.size + 1, 1, none⟩ = some k ∧ W.cell? ⟨w.heap.size + 1, 2, none⟩ = some a ∧ W.cell? ⟨w.heap.size + 1, 3, none⟩ = some b ∧
    w.heap.size + 1 < W.heap.size ∧ Le w W := by
  refine ⟨_, rfl, ?_, by simp; omega, ?_, ?_, ?_, ?_, by simp, (Le.new w _).alloc _⟩
  · rw [World.cell?_alloc_past _ _ _ (by simp), World.cell?_alloc_at _ _ _ _ rfl]; rfl
  all_goals (rw [World.cell?_alloc_at _ _ _ _ (by simp)]; rfl)
theorem lw_szs : ∀ k : Fin 13, (tb (lwAt k.1)).size ≤ 8 := fun k => (lw_no k).2.2.1
theorem numL_szs {n : Nat} (h : n < 100) : (tb (numL n)).size ≤ 3 := num_size (by omega)
set_option maxHeartbeats 4000000 in
set_option maxRecDepth 100000 in
theorem ilineText_any (B : Option Addr) (m c : Nat) (xs : List Cls) (x : Lin) (w : World) (hT : Sl w B m c xs) (g : Good xs) (hx : numS xs x.kind x.a x.b = true) (h0 : 0 ≤ x.depth) (hX : LnW w) (hN : TabW w) :
    Calls Tryd.prog 20 #[.agg #[.slice B m c], .agg #[.int .i64 x.depth, .int .i64 x.kind, .int .i64 x.a, .int .i64 x.b]] w fun e w' => e = .returned (.string (tb (lnT xs x))) ∧ Le w w' := by
  obtain ⟨r, hr⟩ : ∃ r, Hid (lnT xs x = r) := ⟨_, Lib.hid rfl⟩
  obtain ⟨d, kd, a, b⟩ := x
  dsimp only at hx h0 hr ⊢
  obtain ⟨W, hW, ct, zt, -, x1, x2, x3, zx, L0⟩ := boxTLn w (.slice B m c) (.int .i64 d) (.int .i64 kd) (.int .i64 a) (.int .i64 b) 31 42
  have HW := Lib.hid hW
  clear hW
  have T1 := hT.le L0
  have N1 := hN.le L0
  have X1 := hX.le L0
  obtain rfl := hT.len
  obtain ⟨D, rfl, hc⟩ := ln_cases hx h0
  clear hX hN hT hx h0
  rcases hc with ⟨n, hn, hk, rfl, rfl⟩ | ⟨n, hn, rfl, rfl, hb⟩ | ⟨k, n, hk, hn, rfl, rfl, rfl⟩ | ⟨k, hk, rfl, rfl, rfl⟩ | ⟨k0, k10, n1, n2, n3, n4, rfl, rfl⟩
  · rcases hk with rfl | rfl | rfl
    · -- 1
      have hB : Hid (bl (tb lwLog) ++ 32 :: bl (tb (numL n)) = r) := by show _ = _; rw [← hr.out, lnT_num n (by omega)]; rfl
      have zn := numL_szs hn
      have zk : (tb lwLog).size ≤ 8 := lw_szs 1
      have cK : W.cell? ⟨0, 1, none⟩ = some (.string (tb lwLog)) := X1.at 1 (by decide)
      have zg := cell_in cK
      have HI : Hid (∀ gg : Ext W, Calls Tryd.prog 38 #[.int .i64 n] (W.ext gg) fun e w' => e = .returned (.string (tb (numL n))) ∧ Le (W.ext gg) w') := fun gg => itoa3_any n _ (by omega) (N1.le (Le.ext W gg))
      clear X1 g
      generalize tb (numL n) = u at *
      generalize tb lwLog = kw at *
      go_enter Tryd.func20, Tryd.ntmps20
      dsimp only at *
      go_wp2_with fail
      rw [HW.out]
      have E1 := cell_ext zx x1
      have E2 := cell_ext zx x2
      have EK := cell_ext zg cK
      refine wp_region_ext (by kernel_rfl) (by kernel_rfl) ?_
      repeat (go_big_quiet_step (first | (go_at_call 38; exact Calls.ext_of (HI.out _))))
      refine wpQuiet_nil ?_
      intro _ hw'
      obtain ⟨gg, rfl⟩ := hw'
      clear E1 E2 EK HI cK zg
      replace x1 := ((Le.ext W gg).cell zx).trans x1
      replace x2 := ((Le.ext W gg).cell zx).trans x2
      replace x3 := ((Le.ext W gg).cell zx).trans x3
      replace ct := ((Le.ext W gg).cell zt).trans ct
      replace zx := Nat.lt_of_lt_of_le zx (Le.ext W gg).size
      replace zt := Nat.lt_of_lt_of_le zt (Le.ext W gg).size
      replace T1 := T1.le (Le.ext W gg)
      replace N1 := N1.le (Le.ext W gg)
      replace L0 := L0.trans (Le.ext W gg)
      generalize W.ext gg = W1 at *
      go_wp2_with fail
      clear x1 x2 x3 ct T1 N1
      refine (join2 W1 kw u 9 (by omega) (by omega) r hB.out).mono ?_
      rintro e w2 ⟨rfl, hle⟩
      have L2 := L0.trans hle
      go_wp2
      go_ret
      exact ⟨ret_str (by rw [hr.out]), L2⟩
    · -- 4
      have hB : Hid (bl (tb lwReturn) ++ 32 :: bl (tb (numL n)) = r) := by show _ = _; rw [← hr.out, lnT_num n (by omega)]; rfl
      have zn := numL_szs hn
      have zk : (tb lwReturn).size ≤ 8 := lw_szs 4
      have cK : W.cell? ⟨0, 4, none⟩ = some (.string (tb lwReturn)) := X1.at 4 (by decide)
      have zg := cell_in cK
      have HI : Hid (∀ gg : Ext W, Calls Tryd.prog 38 #[.int .i64 n] (W.ext gg) fun e w' => e = .returned (.string (tb (numL n))) ∧ Le (W.ext gg) w') := fun gg => itoa3_any n _ (by omega) (N1.le (Le.ext W gg))
      clear X1 g
      generalize tb (numL n) = u at *
      generalize tb lwReturn = kw at *
      go_enter Tryd.func20, Tryd.ntmps20
      dsimp only at *
      go_wp2_with fail
      rw [HW.out]
      have E1 := cell_ext zx x1
      have E2 := cell_ext zx x2
      have EK := cell_ext zg cK
      refine wp_region_ext (by kernel_rfl) (by kernel_rfl) ?_
      repeat (go_big_quiet_step (first | (go_at_call 38; exact Calls.ext_of (HI.out _))))
      refine wpQuiet_nil ?_
      intro _ hw'
      obtain ⟨gg, rfl⟩ := hw'
      clear E1 E2 EK HI cK zg
      replace x1 := ((Le.ext W gg).cell zx).trans x1
      replace x2 := ((Le.ext W gg).cell zx).trans x2
      replace x3 := ((Le.ext W gg).cell zx).trans x3
      replace ct := ((Le.ext W gg).cell zt).trans ct
      replace zx := Nat.lt_of_lt_of_le zx (Le.ext W gg).size
      replace zt := Nat.lt_of_lt_of_le zt (Le.ext W gg).size
      replace T1 := T1.le (Le.ext W gg)
      replace N1 := N1.le (Le.ext W gg)
      replace L0 := L0.trans (Le.ext W gg)
      generalize W.ext gg = W1 at *
      go_wp2_with fail
      clear x1 x2 x3 ct T1 N1
      refine (join2 W1 kw u 9 (by omega) (by omega) r hB.out).mono ?_
      rintro e w2 ⟨rfl, hle⟩
      have L2 := L0.trans hle
      go_wp2
      go_ret
      exact ⟨ret_str (by rw [hr.out]), L2⟩
    · -- 12
      have hB : Hid (bl (tb lwLoop) ++ 32 :: bl (tb (numL n)) = r) := by show _ = _; rw [← hr.out, lnT_num n (by omega)]; rfl
      have zn := numL_szs hn
      have zk : (tb lwLoop).size ≤ 8 := lw_szs 12
      have cK : W.cell? ⟨0, 12, none⟩ = some (.string (tb lwLoop)) := X1.at 12 (by decide)
      have zg := cell_in cK
      have HI : Hid (∀ gg : Ext W, Calls Tryd.prog 38 #[.int .i64 n] (W.ext gg) fun e w' => e = .returned (.string (tb (numL n))) ∧ Le (W.ext gg) w') := fun gg => itoa3_any n _ (by omega) (N1.le (Le.ext W gg))
      clear X1 g
      generalize tb (numL n) = u at *
      generalize tb lwLoop = kw at *
      go_enter Tryd.func20, Tryd.ntmps20
      dsimp only at *
      go_wp2_with fail
      rw [HW.out]
      have E1 := cell_ext zx x1
      have E2 := cell_ext zx x2
      have EK := cell_ext zg cK
      refine wp_region_ext (by kernel_rfl) (by kernel_rfl) ?_
      repeat (go_big_quiet_step (first | (go_at_call 38; exact Calls.ext_of (HI.out _))))
      refine wpQuiet_nil ?_
      intro _ hw'
      obtain ⟨gg, rfl⟩ := hw'
      clear E1 E2 EK HI cK zg
      replace x1 := ((Le.ext W gg).cell zx).trans x1
      replace x2 := ((Le.ext W gg).cell zx).trans x2
      replace x3 := ((Le.ext W gg).cell zx).trans x3
      replace ct := ((Le.ext W gg).cell zt).trans ct
      replace zx := Nat.lt_of_lt_of_le zx (Le.ext W gg).size
      replace zt := Nat.lt_of_lt_of_le zt (Le.ext W gg).size
      replace T1 := T1.le (Le.ext W gg)
      replace N1 := N1.le (Le.ext W gg)
      replace L0 := L0.trans (Le.ext W gg)
      generalize W.ext gg = W1 at *
      go_wp2_with fail
      clear x1 x2 x3 ct T1 N1
      refine (join2 W1 kw u 9 (by omega) (by omega) r hB.out).mono ?_
      rintro e w2 ⟨rfl, hle⟩
      have L2 := L0.trans hle
      go_wp2
      go_ret
      exact ⟨ret_str (by rw [hr.out]), L2⟩
  · rcases hb with rfl | rfl
    · -- 11, 0
      have hB : Hid (bl (tb lwWith) ++ 32 :: bl (tb (numL n)) = r) := by show _ = _; rw [← hr.out, lnT_with0 n (by omega)]; rfl
      have zn := numL_szs hn
      have zk : (tb lwWith).size ≤ 8 := lw_szs 11
      have cK : W.cell? ⟨0, 11, none⟩ = some (.string (tb lwWith)) := X1.at 11 (by decide)
      have zg := cell_in cK
      have HI : Hid (∀ gg : Ext W, Calls Tryd.prog 38 #[.int .i64 n] (W.ext gg) fun e w' => e = .returned (.string (tb (numL n))) ∧ Le (W.ext gg) w') := fun gg => itoa3_any n _ (by omega) (N1.le (Le.ext W gg))
      clear X1 g
      generalize tb (numL n) = u at *
      generalize tb lwWith = kw at *
      go_enter Tryd.func20, Tryd.ntmps20
      dsimp only at *
      go_wp2_with fail
      rw [HW.out]
      have E1 := cell_ext zx x1
      have E2 := cell_ext zx x2
      have EK := cell_ext zg cK
      refine wp_region_ext (by kernel_rfl) (by kernel_rfl) ?_
      repeat (go_big_quiet_step (first | (go_at_call 38; exact Calls.ext_of (HI.out _))))
      refine wpQuiet_nil ?_
      intro _ hw'
      obtain ⟨gg, rfl⟩ := hw'
      clear E1 E2 EK HI cK zg
      replace x1 := ((Le.ext W gg).cell zx).trans x1
      replace x2 := ((Le.ext W gg).cell zx).trans x2
      replace x3 := ((Le.ext W gg).cell zx).trans x3
      replace ct := ((Le.ext W gg).cell zt).trans ct
      replace zx := Nat.lt_of_lt_of_le zx (Le.ext W gg).size
      replace zt := Nat.lt_of_lt_of_le zt (Le.ext W gg).size
      replace T1 := T1.le (Le.ext W gg)
      replace N1 := N1.le (Le.ext W gg)
      replace L0 := L0.trans (Le.ext W gg)
      generalize W.ext gg = W1 at *
      go_wp2_with fail
      clear x1 x2 x3 ct T1 N1
      refine (join2 W1 kw u 9 (by omega) (by omega) r hB.out).mono ?_
      rintro e w2 ⟨rfl, hle⟩
      have L2 := L0.trans hle
      go_wp2
      go_ret
      exact ⟨ret_str (by rw [hr.out]), L2⟩
    · -- 11, 1
      have hB : Hid (bl (tb lwWith) ++ 32 :: (bl (tb (numL n)) ++ 32 :: bl (tb lwQuiet)) = r) := by show _ = _; rw [← hr.out, lnT_with1 n]; rfl
      have zn := numL_szs hn
      have zq : (tb lwQuiet).size ≤ 8 := by decide
      have hq : Hid (tb lwQuiet = ⟨#[113, 117, 105, 101, 116]⟩) := rfl
      have zk : (tb lwWith).size ≤ 8 := lw_szs 11
      have cK : W.cell? ⟨0, 11, none⟩ = some (.string (tb lwWith)) := X1.at 11 (by decide)
      have zg := cell_in cK
      have HI : Hid (∀ gg : Ext W, Calls Tryd.prog 38 #[.int .i64 n] (W.ext gg) fun e w' => e = .returned (.string (tb (numL n))) ∧ Le (W.ext gg) w') := fun gg => itoa3_any n _ (by omega) (N1.le (Le.ext W gg))
      clear X1 g
      generalize tb (numL n) = u at *
      generalize tb lwWith = kw at *
      go_enter Tryd.func20, Tryd.ntmps20
      dsimp only at *
      go_wp2_with fail
      rw [HW.out]
      have E1 := cell_ext zx x1
      have E2 := cell_ext zx x2
      have EK := cell_ext zg cK
      refine wp_region_ext (by kernel_rfl) (by kernel_rfl) ?_
      repeat (go_big_quiet_step (first | (go_at_call 38; exact Calls.ext_of (HI.out _))))
      refine wpQuiet_nil ?_
      intro _ hw'
      obtain ⟨gg, rfl⟩ := hw'
      clear E1 E2 EK HI cK zg
      replace x1 := ((Le.ext W gg).cell zx).trans x1
      replace x2 := ((Le.ext W gg).cell zx).trans x2
      replace x3 := ((Le.ext W gg).cell zx).trans x3
      replace ct := ((Le.ext W gg).cell zt).trans ct
      replace zx := Nat.lt_of_lt_of_le zx (Le.ext W gg).size
      replace zt := Nat.lt_of_lt_of_le zt (Le.ext W gg).size
      replace T1 := T1.le (Le.ext W gg)
      replace N1 := N1.le (Le.ext W gg)
      replace L0 := L0.trans (Le.ext W gg)
      generalize W.ext gg = W1 at *

      go_wp2_with fail
      rw [← hq.out]
      refine (join3 W1 kw u (tb lwQuiet) 9 (by omega) (by omega) (by omega) r hB.out).mono ?_
      rintro e w2 ⟨rfl, hle⟩
      have L2 := L0.trans hle
      go_wp2
      go_ret
      exact ⟨ret_str (by rw [hr.out]), L2⟩
  · -- 2
    have hB : Hid (bl (tb lwRaise) ++ 32 :: (bl xs[k].name ++ 32 :: bl (tb (numL n))) = r) := by show _ = _; rw [← hr.out, lnT_raise k n, clN_at hk]; rfl
    have zn := numL_szs hn
    have hnn := (name_rng (g.name k hk)).2.2
    rw [bl_len] at hnn
    have hx8 := g.hi
    have hkm : (k : Int) < (xs.length : Int) := by omega
    have zk : (tb lwRaise).size ≤ 8 := lw_szs 2
    have cK : W.cell? ⟨0, 2, none⟩ = some (.string (tb lwRaise)) := X1.at 2 (by decide)
    have zg := cell_in cK
    have HI : Hid (∀ gg : Ext W, Calls Tryd.prog 38 #[.int .i64 k] (W.ext gg) fun e w' => e = .returned (.string (tb (numL k))) ∧ Le (W.ext gg) w') := fun gg => itoa3_any k _ (by omega) (N1.le (Le.ext W gg))
    have hI0 : Hid (∀ W', Le W W' → Calls Tryd.prog 38 #[.int .i64 n] W' fun e w' => e = .returned (.string (tb (numL n))) ∧ Le W' w') := fun W' h => itoa3_any n W' (by omega) (N1.le h)
    clear X1 g
    generalize tb (numL n) = u at *
    generalize tb lwRaise = kw at *
    go_enter Tryd.func20, Tryd.ntmps20
    dsimp only at *
    go_wp2_with fail
    rw [HW.out]
    have E1 := cell_ext zx x1
    have E2 := cell_ext zx x2
    have EK := cell_ext zg cK
    refine wp_region_ext (by kernel_rfl) (by kernel_rfl) ?_
    repeat (go_big_quiet_step (first | (go_at_call 38; exact Calls.ext_of (HI.out _))))
    refine wpQuiet_nil ?_
    intro _ hw'
    obtain ⟨gg, rfl⟩ := hw'
    clear E1 E2 EK HI cK zg
    replace x1 := ((Le.ext W gg).cell zx).trans x1
    replace x2 := ((Le.ext W gg).cell zx).trans x2
    replace x3 := ((Le.ext W gg).cell zx).trans x3
    replace ct := ((Le.ext W gg).cell zt).trans ct
    replace zx := Nat.lt_of_lt_of_le zx (Le.ext W gg).size
    replace zt := Nat.lt_of_lt_of_le zt (Le.ext W gg).size
    replace T1 := T1.le (Le.ext W gg)
    replace N1 := N1.le (Le.ext W gg)
    have hIW := Le.ext W gg
    replace L0 := L0.trans (Le.ext W gg)
    generalize W.ext gg = W1 at *
    obtain ⟨b, off, rfl, hb, q0, -, -⟩ := T1.cls_at hk
    generalize xs[k].name = v at *
    go_wp2_with fail
    have HK : Hid (∀ W', Le W1 W' → W'.cell? ⟨w.heap.size, 0, none⟩ = some (.slice (some ⟨b, off, none⟩) xs.length c) ∧ W'.cell? ⟨w.heap.size + 1, 2, none⟩ = some (.int .i64 k) ∧ W'.cell? ⟨w.heap.size + 1, 3, none⟩ = some (.int .i64 n) ∧ W'.cell? ⟨b, off + k * 2, none⟩ = some (.string v)) := fun W' h => ⟨(h.cell zt).trans ct, (h.cell zx).trans x2, (h.cell zx).trans x3, (h.cell hb).trans q0⟩
    have HI : Hid (∀ W', Le W1 W' → Calls Tryd.prog 38 #[.int .i64 n] W' fun e w' => e = .returned (.string u) ∧ Le W' w') := fun W' h => hI0.out W' (hIW.trans h)
    have HJ : Hid (∀ W' : World, Calls Tryd.prog 39 #[.slice (some ⟨W'.heap.size, 0, none⟩) 3 3] (W'.alloc (.cells #[.string kw, .string v, .string u] 9)) fun e w' => e = .returned (.string (tb r)) ∧ Le W' w') := fun W' => join3 W' kw v u 9 (by omega) (by omega) (by omega) r hB.out
    have LC : Le W1 W1.drew := (Le.refl W1).drew
    clear ct x1 x2 x3 T1 N1 q0 hI0 hB hIW
    go_region_held3 (fun w' => w'.cell? ⟨w.heap.size, 0, none⟩ = some (.slice (some ⟨b, off, none⟩) xs.length c) ∧ w'.cell? ⟨w.heap.size + 1, 2, none⟩ = some (.int .i64 k) ∧ w'.cell? ⟨w.heap.size + 1, 3, none⟩ = some (.int .i64 n) ∧ w'.cell? ⟨b, off + k * 2, none⟩ = some (.string v))
      (first | exact HK.out _ LC | exact HK.out _ (LC.alloc _))
      (first | (go_at_call 38; refine (HI.out _ LC).mono ?_; rintro e w1 ⟨rfl, hle⟩; replace LC := LC.trans hle) | (go_at_call 39; refine (HJ.out _).mono ?_; rintro e w2 ⟨rfl, hle⟩; replace LC := LC.trans hle))
    all_goals
      have L2 := L0.trans LC
      go_wp2
      go_ret
      exact ⟨ret_str (by rw [hr.out]), L2⟩
  · -- 8
    have hB : Hid (bl (tb lwExcept) ++ 32 :: bl xs[k].name = r) := by show _ = _; rw [← hr.out, lnT_except k, clN_at hk]; rfl
    have hnn := (name_rng (g.name k hk)).2.2
    rw [bl_len] at hnn
    have hx8 := g.hi
    have hkm : (k : Int) < (xs.length : Int) := by omega
    have zk : (tb lwExcept).size ≤ 8 := lw_szs 8
    have cK : W.cell? ⟨0, 8, none⟩ = some (.string (tb lwExcept)) := X1.at 8 (by decide)
    have zg := cell_in cK
    have HI : Hid (∀ gg : Ext W, Calls Tryd.prog 38 #[.int .i64 k] (W.ext gg) fun e w' => e = .returned (.string (tb (numL k))) ∧ Le (W.ext gg) w') := fun gg => itoa3_any k _ (by omega) (N1.le (Le.ext W gg))
    clear X1 g
    generalize tb lwExcept = kw at *
    go_enter Tryd.func20, Tryd.ntmps20
    dsimp only at *
    go_wp2_with fail
    rw [HW.out]
    have E1 := cell_ext zx x1
    have E2 := cell_ext zx x2
    have EK := cell_ext zg cK
    refine wp_region_ext (by kernel_rfl) (by kernel_rfl) ?_
    repeat (go_big_quiet_step (first | (go_at_call 38; exact Calls.ext_of (HI.out _))))
    refine wpQuiet_nil ?_
    intro _ hw'
    obtain ⟨gg, rfl⟩ := hw'
    clear E1 E2 EK HI cK zg
    replace x1 := ((Le.ext W gg).cell zx).trans x1
    replace x2 := ((Le.ext W gg).cell zx).trans x2
    replace x3 := ((Le.ext W gg).cell zx).trans x3
    replace ct := ((Le.ext W gg).cell zt).trans ct
    replace zx := Nat.lt_of_lt_of_le zx (Le.ext W gg).size
    replace zt := Nat.lt_of_lt_of_le zt (Le.ext W gg).size
    replace T1 := T1.le (Le.ext W gg)
    replace N1 := N1.le (Le.ext W gg)
    replace L0 := L0.trans (Le.ext W gg)
    generalize W.ext gg = W1 at *
    obtain ⟨b, off, rfl, hb, q0, -, -⟩ := T1.cls_at hk
    generalize xs[k].name = v at *
    go_wp2_with fail
    clear x1 x2 x3 ct T1 N1
    refine (join2 W1 kw v 9 (by omega) (by omega) r hB.out).mono ?_
    rintro e w2 ⟨rfl, hle⟩
    have L2 := L0.trans hle
    go_wp2
    go_ret
    exact ⟨ret_str (by rw [hr.out]), L2⟩
  · have hkk : kd = 0 ∨ kd = 3 ∨ kd = 5 ∨ kd = 6 ∨ kd = 7 ∨ kd = 9 ∨ kd = 10 := by omega
    clear k0 k10 n1 n2 n3 n4
    rcases hkk with rfl | rfl | rfl | rfl | rfl | rfl | rfl
    · -- 0
      have hB : Hid (tb lwPass = tb r) := by show _ = _; rw [← hr.out, lnT_word (by omega) (by omega) (by omega) (by omega)]; rfl
      have zk : (tb lwPass).size ≤ 8 := lw_szs 0
      have cK : W.cell? ⟨0, 0, none⟩ = some (.string (tb lwPass)) := X1.at 0 (by decide)
      have zg := cell_in cK
      have HI : Hid (∀ gg : Ext W, Calls Tryd.prog 38 #[.int .i64 0] (W.ext gg) fun e w' => e = .returned (.string (tb (numL 0))) ∧ Le (W.ext gg) w') := fun gg => itoa3_any 0 _ (by omega) (N1.le (Le.ext W gg))
      clear X1 g
      generalize tb lwPass = kw at *
      go_enter Tryd.func20, Tryd.ntmps20
      dsimp only at *
      go_wp2_with fail
      rw [HW.out]
      have E1 := cell_ext zx x1
      have E2 := cell_ext zx x2
      have EK := cell_ext zg cK
      refine wp_region_ext (by kernel_rfl) (by kernel_rfl) ?_
      repeat (go_big_quiet_step (first | (go_at_call 38; exact Calls.ext_of (HI.out _))))
      refine wpQuiet_nil ?_
      intro _ hw'
      obtain ⟨gg, rfl⟩ := hw'
      clear E1 E2 EK HI cK zg
      replace x1 := ((Le.ext W gg).cell zx).trans x1
      replace x2 := ((Le.ext W gg).cell zx).trans x2
      replace x3 := ((Le.ext W gg).cell zx).trans x3
      replace ct := ((Le.ext W gg).cell zt).trans ct
      replace zx := Nat.lt_of_lt_of_le zx (Le.ext W gg).size
      replace zt := Nat.lt_of_lt_of_le zt (Le.ext W gg).size
      replace T1 := T1.le (Le.ext W gg)
      replace N1 := N1.le (Le.ext W gg)
      replace L0 := L0.trans (Le.ext W gg)
      generalize W.ext gg = W1 at *
      go_wp2
      go_ret
      exact ⟨ret_str (by rw [hr.out]; exact hB.out), L0⟩
    · -- 3
      have hB : Hid (tb lwAgain = tb r) := by show _ = _; rw [← hr.out, lnT_word (by omega) (by omega) (by omega) (by omega)]; rfl
      have zk : (tb lwAgain).size ≤ 8 := lw_szs 3
      have cK : W.cell? ⟨0, 3, none⟩ = some (.string (tb lwAgain)) := X1.at 3 (by decide)
      have zg := cell_in cK
      have HI : Hid (∀ gg : Ext W, Calls Tryd.prog 38 #[.int .i64 0] (W.ext gg) fun e w' => e = .returned (.string (tb (numL 0))) ∧ Le (W.ext gg) w') := fun gg => itoa3_any 0 _ (by omega) (N1.le (Le.ext W gg))
      clear X1 g
      generalize tb lwAgain = kw at *
      go_enter Tryd.func20, Tryd.ntmps20
      dsimp only at *
      go_wp2_with fail
      rw [HW.out]
      have E1 := cell_ext zx x1
      have E2 := cell_ext zx x2
      have EK := cell_ext zg cK
      refine wp_region_ext (by kernel_rfl) (by kernel_rfl) ?_
      repeat (go_big_quiet_step (first | (go_at_call 38; exact Calls.ext_of (HI.out _))))
      refine wpQuiet_nil ?_
      intro _ hw'
      obtain ⟨gg, rfl⟩ := hw'
      clear E1 E2 EK HI cK zg
      replace x1 := ((Le.ext W gg).cell zx).trans x1
      replace x2 := ((Le.ext W gg).cell zx).trans x2
      replace x3 := ((Le.ext W gg).cell zx).trans x3
      replace ct := ((Le.ext W gg).cell zt).trans ct
      replace zx := Nat.lt_of_lt_of_le zx (Le.ext W gg).size
      replace zt := Nat.lt_of_lt_of_le zt (Le.ext W gg).size
      replace T1 := T1.le (Le.ext W gg)
      replace N1 := N1.le (Le.ext W gg)
      replace L0 := L0.trans (Le.ext W gg)
      generalize W.ext gg = W1 at *
      go_wp2
      go_ret
      exact ⟨ret_str (by rw [hr.out]; exact hB.out), L0⟩
    · -- 5
      have hB : Hid (tb lwBreak = tb r) := by show _ = _; rw [← hr.out, lnT_word (by omega) (by omega) (by omega) (by omega)]; rfl
      have zk : (tb lwBreak).size ≤ 8 := lw_szs 5
      have cK : W.cell? ⟨0, 5, none⟩ = some (.string (tb lwBreak)) := X1.at 5 (by decide)
      have zg := cell_in cK
      have HI : Hid (∀ gg : Ext W, Calls Tryd.prog 38 #[.int .i64 0] (W.ext gg) fun e w' => e = .returned (.string (tb (numL 0))) ∧ Le (W.ext gg) w') := fun gg => itoa3_any 0 _ (by omega) (N1.le (Le.ext W gg))
      clear X1 g
      generalize tb lwBreak = kw at *
      go_enter Tryd.func20, Tryd.ntmps20
      dsimp only at *
      go_wp2_with fail
      rw [HW.out]
      have E1 := cell_ext zx x1
      have E2 := cell_ext zx x2
      have EK := cell_ext zg cK
      refine wp_region_ext (by kernel_rfl) (by kernel_rfl) ?_
      repeat (go_big_quiet_step (first | (go_at_call 38; exact Calls.ext_of (HI.out _))))
      refine wpQuiet_nil ?_
      intro _ hw'
      obtain ⟨gg, rfl⟩ := hw'
      clear E1 E2 EK HI cK zg
      replace x1 := ((Le.ext W gg).cell zx).trans x1
      replace x2 := ((Le.ext W gg).cell zx).trans x2
      replace x3 := ((Le.ext W gg).cell zx).trans x3
      replace ct := ((Le.ext W gg).cell zt).trans ct
      replace zx := Nat.lt_of_lt_of_le zx (Le.ext W gg).size
      replace zt := Nat.lt_of_lt_of_le zt (Le.ext W gg).size
      replace T1 := T1.le (Le.ext W gg)
      replace N1 := N1.le (Le.ext W gg)
      replace L0 := L0.trans (Le.ext W gg)
      generalize W.ext gg = W1 at *
      go_wp2
      go_ret
      exact ⟨ret_str (by rw [hr.out]; exact hB.out), L0⟩
    · -- 6
      have hB : Hid (tb lwContinue = tb r) := by show _ = _; rw [← hr.out, lnT_word (by omega) (by omega) (by omega) (by omega)]; rfl
      have zk : (tb lwContinue).size ≤ 8 := lw_szs 6
      have cK : W.cell? ⟨0, 6, none⟩ = some (.string (tb lwContinue)) := X1.at 6 (by decide)
      have zg := cell_in cK
      have HI : Hid (∀ gg : Ext W, Calls Tryd.prog 38 #[.int .i64 0] (W.ext gg) fun e w' => e = .returned (.string (tb (numL 0))) ∧ Le (W.ext gg) w') := fun gg => itoa3_any 0 _ (by omega) (N1.le (Le.ext W gg))
      clear X1 g
      generalize tb lwContinue = kw at *
      go_enter Tryd.func20, Tryd.ntmps20
      dsimp only at *
      go_wp2_with fail
      rw [HW.out]
      have E1 := cell_ext zx x1
      have E2 := cell_ext zx x2
      have EK := cell_ext zg cK
      refine wp_region_ext (by kernel_rfl) (by kernel_rfl) ?_
      repeat (go_big_quiet_step (first | (go_at_call 38; exact Calls.ext_of (HI.out _))))
      refine wpQuiet_nil ?_
      intro _ hw'
      obtain ⟨gg, rfl⟩ := hw'
      clear E1 E2 EK HI cK zg
      replace x1 := ((Le.ext W gg).cell zx).trans x1
      replace x2 := ((Le.ext W gg).cell zx).trans x2
      replace x3 := ((Le.ext W gg).cell zx).trans x3
      replace ct := ((Le.ext W gg).cell zt).trans ct
      replace zx := Nat.lt_of_lt_of_le zx (Le.ext W gg).size
      replace zt := Nat.lt_of_lt_of_le zt (Le.ext W gg).size
      replace T1 := T1.le (Le.ext W gg)
      replace N1 := N1.le (Le.ext W gg)
      replace L0 := L0.trans (Le.ext W gg)
      generalize W.ext gg = W1 at *
      go_wp2
      go_ret
      exact ⟨ret_str (by rw [hr.out]; exact hB.out), L0⟩
    · -- 7
      have hB : Hid (tb lwTry = tb r) := by show _ = _; rw [← hr.out, lnT_word (by omega) (by omega) (by omega) (by omega)]; rfl
      have zk : (tb lwTry).size ≤ 8 := lw_szs 7
      have cK : W.cell? ⟨0, 7, none⟩ = some (.string (tb lwTry)) := X1.at 7 (by decide)
      have zg := cell_in cK
      have HI : Hid (∀ gg : Ext W, Calls Tryd.prog 38 #[.int .i64 0] (W.ext gg) fun e w' => e = .returned (.string (tb (numL 0))) ∧ Le (W.ext gg) w') := fun gg => itoa3_any 0 _ (by omega) (N1.le (Le.ext W gg))
      clear X1 g
      generalize tb lwTry = kw at *
      go_enter Tryd.func20, Tryd.ntmps20
      dsimp only at *
      go_wp2_with fail
      rw [HW.out]
      have E1 := cell_ext zx x1
      have E2 := cell_ext zx x2
      have EK := cell_ext zg cK
      refine wp_region_ext (by kernel_rfl) (by kernel_rfl) ?_
      repeat (go_big_quiet_step (first | (go_at_call 38; exact Calls.ext_of (HI.out _))))
      refine wpQuiet_nil ?_
      intro _ hw'
      obtain ⟨gg, rfl⟩ := hw'
      clear E1 E2 EK HI cK zg
      replace x1 := ((Le.ext W gg).cell zx).trans x1
      replace x2 := ((Le.ext W gg).cell zx).trans x2
      replace x3 := ((Le.ext W gg).cell zx).trans x3
      replace ct := ((Le.ext W gg).cell zt).trans ct
      replace zx := Nat.lt_of_lt_of_le zx (Le.ext W gg).size
      replace zt := Nat.lt_of_lt_of_le zt (Le.ext W gg).size
      replace T1 := T1.le (Le.ext W gg)
      replace N1 := N1.le (Le.ext W gg)
      replace L0 := L0.trans (Le.ext W gg)
      generalize W.ext gg = W1 at *
      go_wp2
      go_ret
      exact ⟨ret_str (by rw [hr.out]; exact hB.out), L0⟩
    · -- 9
      have hB : Hid (tb lwElse = tb r) := by show _ = _; rw [← hr.out, lnT_word (by omega) (by omega) (by omega) (by omega)]; rfl
      have zk : (tb lwElse).size ≤ 8 := lw_szs 9
      have cK : W.cell? ⟨0, 9, none⟩ = some (.string (tb lwElse)) := X1.at 9 (by decide)
      have zg := cell_in cK
      have HI : Hid (∀ gg : Ext W, Calls Tryd.prog 38 #[.int .i64 0] (W.ext gg) fun e w' => e = .returned (.string (tb (numL 0))) ∧ Le (W.ext gg) w') := fun gg => itoa3_any 0 _ (by omega) (N1.le (Le.ext W gg))
      clear X1 g
      generalize tb lwElse = kw at *
      go_enter Tryd.func20, Tryd.ntmps20
      dsimp only at *
      go_wp2_with fail
      rw [HW.out]
      have E1 := cell_ext zx x1
      have E2 := cell_ext zx x2
      have EK := cell_ext zg cK
      refine wp_region_ext (by kernel_rfl) (by kernel_rfl) ?_
      repeat (go_big_quiet_step (first | (go_at_call 38; exact Calls.ext_of (HI.out _))))
      refine wpQuiet_nil ?_
      intro _ hw'
      obtain ⟨gg, rfl⟩ := hw'
      clear E1 E2 EK HI cK zg
      replace x1 := ((Le.ext W gg).cell zx).trans x1
      replace x2 := ((Le.ext W gg).cell zx).trans x2
      replace x3 := ((Le.ext W gg).cell zx).trans x3
      replace ct := ((Le.ext W gg).cell zt).trans ct
      replace zx := Nat.lt_of_lt_of_le zx (Le.ext W gg).size
      replace zt := Nat.lt_of_lt_of_le zt (Le.ext W gg).size
      replace T1 := T1.le (Le.ext W gg)
      replace N1 := N1.le (Le.ext W gg)
      replace L0 := L0.trans (Le.ext W gg)
      generalize W.ext gg = W1 at *
      go_wp2
      go_ret
      exact ⟨ret_str (by rw [hr.out]; exact hB.out), L0⟩
    · -- 10
      have hB : Hid (tb lwFinally = tb r) := by show _ = _; rw [← hr.out, lnT_word (by omega) (by omega) (by omega) (by omega)]; rfl
      have zk : (tb lwFinally).size ≤ 8 := lw_szs 10
      have cK : W.cell? ⟨0, 10, none⟩ = some (.string (tb lwFinally)) := X1.at 10 (by decide)
      have zg := cell_in cK
      have HI : Hid (∀ gg : Ext W, Calls Tryd.prog 38 #[.int .i64 0] (W.ext gg) fun e w' => e = .returned (.string (tb (numL 0))) ∧ Le (W.ext gg) w') := fun gg => itoa3_any 0 _ (by omega) (N1.le (Le.ext W gg))
      clear X1 g
      generalize tb lwFinally = kw at *
      go_enter Tryd.func20, Tryd.ntmps20
      dsimp only at *
      go_wp2_with fail
      rw [HW.out]
      have E1 := cell_ext zx x1
      have E2 := cell_ext zx x2
      have EK := cell_ext zg cK
      refine wp_region_ext (by kernel_rfl) (by kernel_rfl) ?_
      repeat (go_big_quiet_step (first | (go_at_call 38; exact Calls.ext_of (HI.out _))))
      refine wpQuiet_nil ?_
      intro _ hw'
      obtain ⟨gg, rfl⟩ := hw'
      clear E1 E2 EK HI cK zg
      replace x1 := ((Le.ext W gg).cell zx).trans x1
      replace x2 := ((Le.ext W gg).cell zx).trans x2
      replace x3 := ((Le.ext W gg).cell zx).trans x3
      replace ct := ((Le.ext W gg).cell zt).trans ct
      replace zx := Nat.lt_of_lt_of_le zx (Le.ext W gg).size
      replace zt := Nat.lt_of_lt_of_le zt (Le.ext W gg).size
      replace T1 := T1.le (Le.ext W gg)
      replace N1 := N1.le (Le.ext W gg)
      replace L0 := L0.trans (Le.ext W gg)
      generalize W.ext gg = W1 at *
      go_wp2
      go_ret
      exact ⟨ret_str (by rw [hr.out]; exact hB.out), L0⟩
end

section
theorem trimL_sp : ∀ l : List UInt8, Lib.trimLeftB l 32 = l.drop (spN l)
  | [] => rfl
  | c :: r => by
    have ih := trimL_sp r
    by_cases h : c = 32
    · subst h
      have e : Lib.trimLeftB (32 :: r) 32 = Lib.trimLeftB r 32 := by simp [Lib.trimLeftB]
      rw [e, ih, spN, if_pos rfl, Nat.add_comm, List.drop_succ_cons]
    · have e : Lib.trimLeftB (c :: r) 32 = c :: r := by simp [Lib.trimLeftB, h]
      rw [e, spN, if_neg h]; rfl
theorem repeat_sp : ∀ n : Nat, Lib.repeatL [32] n = List.replicate n 32
  | 0 => rfl
  | n + 1 => by rw [List.replicate_succ, ← repeat_sp n]; rfl
theorem repeat_any (n : Nat) (w : World) (hn : n ≤ 1000) : Calls Tryd.prog 19 #[.string ⟨#[32]⟩, .int .i64 n] w fun e w' => e = .returned (.string (tb (List.replicate n 32))) ∧ Le w w' := by
  refine (Tryd.strings_Repeat ⟨#[32]⟩ n w (by omega) (by show 1 * n ≤ _; omega)).mono ?_
  rintro e w' ⟨rfl, hB⟩
  refine ⟨?_, hB⟩
  rw [show (⟨#[32]⟩ : ByteArray).data.toList = [32] from rfl, repeat_sp]; rfl
end

section
def nlT : ByteArray := ⟨#[10]⟩
def spT : ByteArray := ⟨#[32]⟩
theorem bl_nl : bl nlT = [10] := rfl
theorem bl_sp : bl spT = [32] := rfl
theorem acc_len {acc : ByteArray} {r : List UInt8} {l : List UInt8} (h : bl acc ++ r = l) (hl : l.length ≤ 112) : acc.size ≤ 112 := by
  have := congrArg List.length h
  rw [List.length_append, bl_len] at this
  omega
theorem step_root {xs : List Cls} (g : Good xs) (h : 0 < xs.length) {acc : ByteArray} (hs : bl acc ++ txB xs (xs.drop 0) = treeB xs) : bl (acc ++ xs[0].name ++ nlT) ++ txB xs (xs.drop (0 + 1)) = treeB xs := by
  rw [← hs, txB_at h, lnB_root g h, bl_app, bl_app, bl_nl]; simp
theorem step_up {xs : List Cls} (g : Good xs) {k : Nat} (h : k < xs.length) (h0 : 0 < k) {acc : ByteArray} (hs : bl acc ++ txB xs (xs.drop k) = treeB xs) : ∃ p : Nat, ∃ hp : p < xs.length, xs[k].parent = (p : Int) ∧ bl (acc ++ xs[k].name ++ spT ++ xs[p].name ++ nlT) ++ txB xs (xs.drop (k + 1)) = treeB xs := by
  obtain ⟨p, hp, e, e2⟩ := lnB_up g h h0
  refine ⟨p, by omega, e, ?_⟩
  rw [← hs, txB_at h, e2, bl_app, bl_app, bl_app, bl_app, bl_nl, bl_sp]; simp
def ttX (xs : List Cls) : ByteArray := cond (okTree xs) (tb (treeB xs)) ByteArray.empty
theorem ttX_of {xs : List Cls} {t : Bool} (h : okTree xs = t) : ttX xs = cond t (tb (treeB xs)) ByteArray.empty := by unfold ttX; rw [h]
end

section
theorem bf {a b : Int} (h : a ≠ b) : (a == b) = false := beq_eq_false_iff_ne.2 h
theorem hasBlock_any (k : Int) (w : World) : Calls Tryd.prog 31 #[.int .i64 k] w fun e w' => e = .returned (.bool (opn k)) ∧ w = w' := by
  by_cases h : 7 ≤ k ∧ k ≤ 12
  · have h6 : k = 7 ∨ k = 8 ∨ k = 9 ∨ k = 10 ∨ k = 11 ∨ k = 12 := by omega
    rcases h6 with rfl | rfl | rfl | rfl | rfl | rfl
    all_goals
      go_enter Tryd.func31, Tryd.ntmps31
      go_wp2
      go_ret
      exact ⟨rfl, rfl⟩
  · have b7 := bf (show k ≠ 7 by omega)
    have b8 := bf (show k ≠ 8 by omega)
    have b9 := bf (show k ≠ 9 by omega)
    have b10 := bf (show k ≠ 10 by omega)
    have b11 := bf (show k ≠ 11 by omega)
    have b12 := bf (show k ≠ 12 by omega)
    have HF : Hid (opn k = false) := by
      show _ = _
      cases e : opn k
      · rfl
      · exact absurd (opn_iff.1 e) h
    clear h
    go_enter Tryd.func31, Tryd.ntmps31
    go_wp2
    go_ret
    exact ⟨ret_bool HF.out.symm, rfl⟩
theorem mayF_not {a k : Int} (h : ¬ ((k = 8 ∧ (a = 7 ∨ a = 8)) ∨ (k = 9 ∧ a = 8) ∨ (k = 10 ∧ (a = 7 ∨ a = 8 ∨ a = 9)))) : mayF a k = false := by
  cases e : mayF a k
  · rfl
  · exact absurd (mayF_iff.1 e) h
theorem mayFollow_any (a k : Int) (w : World) : Calls Tryd.prog 73 #[.int .i64 a, .int .i64 k] w fun e w' => e = .returned (.bool (mayF a k)) ∧ w = w' := by
  by_cases h8 : k = 8
  · subst h8
    by_cases a7 : a = 7
    · subst a7
      go_enter Tryd.func73, Tryd.ntmps73
      go_wp2
      go_ret
      exact ⟨rfl, rfl⟩
    · by_cases a8 : a = 8
      · subst a8
        go_enter Tryd.func73, Tryd.ntmps73
        go_wp2
        go_ret
        exact ⟨rfl, rfl⟩
      · have HF := Lib.hid (mayF_not (a := a) (k := 8) (by omega))
        have b7 := bf a7
        have b8 := bf a8
        clear a7 a8
        go_enter Tryd.func73, Tryd.ntmps73
        go_wp2
        go_ret
        exact ⟨ret_bool HF.out.symm, rfl⟩
  · by_cases h9 : k = 9
    · subst h9
      by_cases a8 : a = 8
      · subst a8
        go_enter Tryd.func73, Tryd.ntmps73
        go_wp2
        go_ret
        exact ⟨rfl, rfl⟩
      · have HF := Lib.hid (mayF_not (a := a) (k := 9) (by omega))
        have b8 := bf a8
        clear a8
        go_enter Tryd.func73, Tryd.ntmps73
        go_wp2
        go_ret
        exact ⟨ret_bool HF.out.symm, rfl⟩
    · by_cases h10 : k = 10
      · subst h10
        by_cases a789 : a = 7 ∨ a = 8 ∨ a = 9
        · rcases a789 with rfl | rfl | rfl
          all_goals
            go_enter Tryd.func73, Tryd.ntmps73
            go_wp2
            go_ret
            exact ⟨rfl, rfl⟩
        · have HF := Lib.hid (mayF_not (a := a) (k := 10) (by omega))
          have b7 := bf (show a ≠ 7 by omega)
          have b8 := bf (show a ≠ 8 by omega)
          have b9 := bf (show a ≠ 9 by omega)
          clear a789
          go_enter Tryd.func73, Tryd.ntmps73
          go_wp2
          go_ret
          exact ⟨ret_bool HF.out.symm, rfl⟩
      · have HF := Lib.hid (mayF_not (a := a) (k := k) (by omega))
        have b8 := bf h8
        have b9 := bf h9
        have b10 := bf h10
        clear h8 h9 h10
        go_enter Tryd.func73, Tryd.ntmps73
        go_wp2
        go_ret
        exact ⟨ret_bool HF.out.symm, rfl⟩
theorem mostNumbers_any (A : Option Addr) (n c : Nat) (k : Int) (w : World) (hn : n ≤ 1048576) :
    Calls Tryd.prog 54 #[.agg #[.slice A n c], .int .i64 k] w fun e w' => e = .returned (.tuple #[.int .i64 (mostA n k), .int .i64 (mostB k)]) ∧ Le w w' := by
  have hw : IntKind.i64.wrap ((n : Int) - 1) = (n : Int) - 1 := IntWalk.i64_in _ (by omega)
  by_cases h : 0 ≤ k ∧ k ≤ 12
  · have h6 : k = 0 ∨ k = 1 ∨ k = 2 ∨ k = 3 ∨ k = 4 ∨ k = 5 ∨ k = 6 ∨ k = 7 ∨ k = 8 ∨ k = 9 ∨ k = 10 ∨ k = 11 ∨ k = 12 := by omega
    rcases h6 with rfl | rfl | rfl | rfl | rfl | rfl | rfl | rfl | rfl | rfl | rfl | rfl | rfl
    · go_enter Tryd.func54, Tryd.ntmps54
      go_wp2
      exact bodyPost_ret (v := .tuple #[.int .i64 0, .int .i64 0]) (by simp [results, Tryd.results54, go_sem]) rfl ⟨rfl, Le.new w _⟩
    · go_enter Tryd.func54, Tryd.ntmps54
      go_wp2
      exact bodyPost_ret (v := .tuple #[.int .i64 99, .int .i64 0]) (by simp [results, Tryd.results54, go_sem]) rfl ⟨rfl, Le.new w _⟩
    · go_enter Tryd.func54, Tryd.ntmps54
      go_wp2
      exact bodyPost_ret (v := .tuple #[.int .i64 ((n : Int) - 1), .int .i64 99]) (by simp [results, Tryd.results54, go_sem]) rfl ⟨rfl, Le.new w _⟩
    · go_enter Tryd.func54, Tryd.ntmps54
      go_wp2
      exact bodyPost_ret (v := .tuple #[.int .i64 0, .int .i64 0]) (by simp [results, Tryd.results54, go_sem]) rfl ⟨rfl, Le.new w _⟩
    · go_enter Tryd.func54, Tryd.ntmps54
      go_wp2
      exact bodyPost_ret (v := .tuple #[.int .i64 99, .int .i64 0]) (by simp [results, Tryd.results54, go_sem]) rfl ⟨rfl, Le.new w _⟩
    · go_enter Tryd.func54, Tryd.ntmps54
      go_wp2
      exact bodyPost_ret (v := .tuple #[.int .i64 0, .int .i64 0]) (by simp [results, Tryd.results54, go_sem]) rfl ⟨rfl, Le.new w _⟩
    · go_enter Tryd.func54, Tryd.ntmps54
      go_wp2
      exact bodyPost_ret (v := .tuple #[.int .i64 0, .int .i64 0]) (by simp [results, Tryd.results54, go_sem]) rfl ⟨rfl, Le.new w _⟩
    · go_enter Tryd.func54, Tryd.ntmps54
      go_wp2
      exact bodyPost_ret (v := .tuple #[.int .i64 0, .int .i64 0]) (by simp [results, Tryd.results54, go_sem]) rfl ⟨rfl, Le.new w _⟩
    · go_enter Tryd.func54, Tryd.ntmps54
      go_wp2
      exact bodyPost_ret (v := .tuple #[.int .i64 ((n : Int) - 1), .int .i64 0]) (by simp [results, Tryd.results54, go_sem]) rfl ⟨rfl, Le.new w _⟩
    · go_enter Tryd.func54, Tryd.ntmps54
      go_wp2
      exact bodyPost_ret (v := .tuple #[.int .i64 0, .int .i64 0]) (by simp [results, Tryd.results54, go_sem]) rfl ⟨rfl, Le.new w _⟩
    · go_enter Tryd.func54, Tryd.ntmps54
      go_wp2
      exact bodyPost_ret (v := .tuple #[.int .i64 0, .int .i64 0]) (by simp [results, Tryd.results54, go_sem]) rfl ⟨rfl, Le.new w _⟩
    · go_enter Tryd.func54, Tryd.ntmps54
      go_wp2
      exact bodyPost_ret (v := .tuple #[.int .i64 9, .int .i64 1]) (by simp [results, Tryd.results54, go_sem]) rfl ⟨rfl, Le.new w _⟩
    · go_enter Tryd.func54, Tryd.ntmps54
      go_wp2
      exact bodyPost_ret (v := .tuple #[.int .i64 3, .int .i64 0]) (by simp [results, Tryd.results54, go_sem]) rfl ⟨rfl, Le.new w _⟩
  · have HA : Hid (mostA n k = -1) := by
      show _ = _
      unfold mostA; rw [if_neg (by omega), if_neg (by omega), if_neg (by omega), if_neg (by omega), if_neg (by omega)]
    have HB : Hid (mostB k = -1) := by
      show _ = _
      unfold mostB; rw [if_neg (by omega), if_neg (by omega), if_neg (by omega), if_neg (by omega), if_neg (by omega), if_neg (by omega)]
    have b0 := bf (show k ≠ 0 by omega)
    have b1 := bf (show k ≠ 1 by omega)
    have b2 := bf (show k ≠ 2 by omega)
    have b3 := bf (show k ≠ 3 by omega)
    have b4 := bf (show k ≠ 4 by omega)
    have b5 := bf (show k ≠ 5 by omega)
    have b6 := bf (show k ≠ 6 by omega)
    have b7 := bf (show k ≠ 7 by omega)
    have b8 := bf (show k ≠ 8 by omega)
    have b9 := bf (show k ≠ 9 by omega)
    have b10 := bf (show k ≠ 10 by omega)
    have b11 := bf (show k ≠ 11 by omega)
    have b12 := bf (show k ≠ 12 by omega)
    clear h
    go_enter Tryd.func54, Tryd.ntmps54
    go_wp2
    exact bodyPost_ret (v := .tuple #[.int .i64 (-1), .int .i64 (-1)]) (by simp [results, Tryd.results54, go_sem]) rfl ⟨by rw [HA.out, HB.out], Le.new w _⟩
end

section
def oI : Option Nat → Int
  | none => -1
  | some j => (j : Int)
theorem oGo_succ (p : List Lin) (d : Int) (k : Nat) : oGo p d (k + 1) = if dep p k < d then some k else oGo p d k := rfl
set_option maxHeartbeats 1000000 in
theorem outside_any (A : Option Addr) (n cap : Nat) (p : List Lin) (i : Nat) (hi : i < p.length) (hsm : p.length ≤ 1048576) (w : World) (hR : Sl w A n cap p) :
    Calls Tryd.prog 71 #[.slice A n cap, .int .i64 i] w fun e w' => e = .returned (.int .i64 (oI (outs p i))) ∧ Le w w' := by
  obtain rfl := hR.len
  have H0 : Hid (outs p i = oGo p (dep p i) i) := rfl
  have hwi : IntKind.i64.wrap ((i : Int) - 1) = (i : Int) - 1 := IntWalk.i64_in _ (by omega)
  have hix : (0 : Int) ≤ (i : Int) := by omega
  have hin : (i : Int) < (p.length : Int) := by omega
  go_enter Tryd.func71, Tryd.ntmps71
  go_wp2
  go_loopw [5] (fun jj wr => ∃ k : Nat, k ≤ i ∧ jj = .int .i64 ((k : Int) - 1) ∧ outs p i = oGo p (dep p i) k ∧ Le w wr) (fun jj _ => (intOf jj + 1).toNat)
  case atStart => exact ⟨i, Nat.le_refl _, rfl, H0.out, Le.refl _⟩
  case round =>
    obtain ⟨k, hk, rfl, he, hle⟩ := hrel
    have HE := Lib.hid he
    clear he H0
    have T := hR.le hle
    clear hR
    cases k with
    | zero =>
      have HF : Hid (oI (outs p i) = -1) := by show _ = _; rw [HE.out]; rfl
      have hneg : ¬ (0 : Int) ≤ ((0 : Nat) : Int) - 1 := by omega
      go_wp2
      go_ret
      exact ⟨ret_int HF.out.symm, hle⟩
    | succ k =>
      have hkl : k < p.length := by omega
      obtain ⟨b, off, rfl, hb, c0, -⟩ := T.lin_at hi
      obtain ⟨b2, off2, e2, hb2, d0, -⟩ := T.lin_at hkl
      cases e2
      have E0 := cell_ext hb c0
      have D0 := cell_ext hb2 d0
      have hkk : (((k + 1 : Nat) : Int) - 1) = (k : Int) := by omega
      have hk0 : (0 : Int) ≤ (k : Int) := by omega
      have hkn : (k : Int) < (p.length : Int) := by omega
      have hwk : IntKind.i64.wrap ((k : Int) - 1) = (k : Int) - 1 := IntWalk.i64_in _ (by omega)
      rw [hkk]
      by_cases hd : p[k].depth < p[i].depth
      · have HF : Hid (oI (outs p i) = (k : Int)) := by show _ = _; rw [HE.out, oGo_succ, dep_at hi, dep_at hkl, if_pos hd]; rfl
        clear HE
        go_wp2_with fail
        refine wp_region_ext (by kernel_rfl) (by kernel_rfl) ?_
        repeat (go_big_quiet_step (fail))
        refine wpQuiet_nil ?_
        intro _ hw'
        obtain ⟨gg, rfl⟩ := hw'
        have hw1 := Le.ext wr gg
        generalize wr.ext gg = W2 at *
        go_wp2
        go_ret
        exact ⟨ret_int HF.out.symm, hle.trans hw1⟩
      · have HF : Hid (outs p i = oGo p (dep p i) k) := by show _ = _; rw [HE.out, oGo_succ, dep_at hkl, if_neg (by rw [dep_at hi]; exact hd)]
        clear HE
        go_wp2_with fail
        refine wp_region_ext (by kernel_rfl) (by kernel_rfl) ?_
        repeat (go_big_quiet_step (fail))
        refine wpQuiet_nil ?_
        intro _ hw'
        obtain ⟨gg, rfl⟩ := hw'
        have hw1 := Le.ext wr gg
        generalize wr.ext gg = W2 at *
        go_wp2
        go_roundw
        case rel => exact ⟨k, by omega, by go_num, HF.out, hle.trans hw1⟩
        case measure => simp [intOf]
end

section
theorem bGo_step (p : List Lin) (d : Int) {k : Nat} (h : k < p.length) : bGo p d (p.length - k) k = if d < dep p k then bGo p d (p.length - (k + 1)) (k + 1) else k := by
  obtain ⟨m, hm⟩ : ∃ m, p.length - k = m + 1 := ⟨p.length - k - 1, by omega⟩
  rw [hm, show p.length - (k + 1) = m by omega]
  rfl
theorem bGo_end (p : List Lin) (d : Int) {k : Nat} (h : ¬ k < p.length) : bGo p d (p.length - k) k = k := by
  rw [show p.length - k = 0 by omega]; rfl
set_option maxHeartbeats 1000000 in
theorem sBlockEnd_any (A : Option Addr) (n cap : Nat) (p : List Lin) (i : Nat) (hi : i < p.length) (w : World) (hR : Sl w A n cap p) :
    Calls Tryd.prog 81 #[.slice A n cap, .int .i64 i] w fun e w' => e = .returned (.int .i64 (bEnd p i)) ∧ Le w w' := by
  obtain rfl := hR.len
  have hm := hR.n_le
  have H0 : Hid (bEnd p i = bGo p (dep p i) (p.length - (i + 1)) (i + 1)) := rfl
  obtain ⟨bi, oi, rfl, hbi, hi0, -⟩ := hR.lin_at hi
  have hwi : IntKind.i64.wrap ((i : Int) + 1) = (i : Int) + 1 := IntWalk.i64_in _ (by omega)
  have hix : (0 : Int) ≤ (i : Int) := by omega
  have hin : (i : Int) < (p.length : Int) := by omega
  go_enter Tryd.func81, Tryd.ntmps81
  go_wp2
  go_loopw [5] (fun kk wr => ∃ k : Nat, i < k ∧ k ≤ p.length ∧ kk = .int .i64 k ∧ bEnd p i = bGo p (dep p i) (p.length - k) k ∧ Le w wr) (fun kk _ => p.length - (intOf kk).toNat)
  case atStart => exact ⟨i + 1, by omega, by omega, by go_num, H0.out, Le.refl _⟩
  case round =>
    obtain ⟨k, hik, hk, rfl, he, hle⟩ := hrel
    have HE := Lib.hid he
    clear he H0
    have T := hR.le hle
    clear hR hi0
    obtain ⟨b3, off3, e3, hb3, c0, -⟩ := T.lin_at hi
    cases e3
    have F0 := cell_ext hb3 c0
    have hkx : (0 : Int) ≤ (k : Int) := by omega
    by_cases hlt : k < p.length
    · obtain ⟨b2, off2, e2, hb2, d0, -⟩ := T.lin_at hlt
      cases e2
      have E0 := cell_ext hb2 d0
      by_cases hd : p[i].depth < p[k].depth
      · have HE2 : Hid (bEnd p i = bGo p (dep p i) (p.length - (k + 1)) (k + 1)) := by
          show _ = _
          rw [HE.out, bGo_step p _ hlt, dep_at hi, dep_at hlt, if_pos hd]
        clear HE
        go_wp2_with fail
        refine wp_region_ext (by kernel_rfl) (by kernel_rfl) ?_
        repeat (go_big_quiet_step (fail))
        refine wpQuiet_nil ?_
        intro _ hw'
        obtain ⟨gg, rfl⟩ := hw'
        have hw1 := Le.ext wr gg
        generalize wr.ext gg = W2 at *
        go_wp2
        go_roundw
        case rel => exact ⟨k + 1, by omega, by omega, by go_num, HE2.out, hle.trans hw1⟩
        case measure => simp [intOf]; omega
      · have HE2 : Hid (bEnd p i = k) := by
          show _ = _
          rw [HE.out, bGo_step p _ hlt, dep_at hi, dep_at hlt, if_neg hd]
        clear HE
        go_wp2_with fail
        refine wp_region_ext (by kernel_rfl) (by kernel_rfl) ?_
        repeat (go_big_quiet_step (fail))
        refine wpQuiet_nil ?_
        intro _ hw'
        obtain ⟨gg, rfl⟩ := hw'
        have hw1 := Le.ext wr gg
        generalize wr.ext gg = W2 at *
        go_wp2
        go_ret
        exact ⟨congrArg (fun z : Nat => Ending.returned (.int .i64 (z : Int))) HE2.out.symm, hle.trans hw1⟩
    · have HE2 : Hid (bEnd p i = k) := by
        show _ = _
        rw [HE.out, bGo_end p _ hlt]
      clear HE
      go_wp2_with fail
      refine wp_region_ext (by kernel_rfl) (by kernel_rfl) ?_
      repeat (go_big_quiet_step (fail))
      refine wpQuiet_nil ?_
      intro _ hw'
      obtain ⟨gg, rfl⟩ := hw'
      have hw1 := Le.ext wr gg
      generalize wr.ext gg = W2 at *
      go_wp2
      go_ret
      exact ⟨congrArg (fun z : Nat => Ending.returned (.int .i64 (z : Int))) HE2.out.symm, hle.trans hw1⟩
set_option maxHeartbeats 1000000 in
theorem iBlockEnd_any (A : Option Addr) (n cap : Nat) (p : List Lin) (i : Nat) (hi : i < p.length) (w : World) (hR : Sl w A n cap p) :
    Calls Tryd.prog 72 #[.slice A n cap, .int .i64 i] w fun e w' => e = .returned (.int .i64 (bEnd p i)) ∧ Le w w' := by
  obtain rfl := hR.len
  have hm := hR.n_le
  have H0 : Hid (bEnd p i = bGo p (dep p i) (p.length - (i + 1)) (i + 1)) := rfl
  obtain ⟨bi, oi, rfl, hbi, hi0, -⟩ := hR.lin_at hi
  have hwi : IntKind.i64.wrap ((i : Int) + 1) = (i : Int) + 1 := IntWalk.i64_in _ (by omega)
  have hix : (0 : Int) ≤ (i : Int) := by omega
  have hin : (i : Int) < (p.length : Int) := by omega
  go_enter Tryd.func72, Tryd.ntmps72
  go_wp2
  go_loopw [5] (fun kk wr => ∃ k : Nat, i < k ∧ k ≤ p.length ∧ kk = .int .i64 k ∧ bEnd p i = bGo p (dep p i) (p.length - k) k ∧ Le w wr) (fun kk _ => p.length - (intOf kk).toNat)
  case atStart => exact ⟨i + 1, by omega, by omega, by go_num, H0.out, Le.refl _⟩
  case round =>
    obtain ⟨k, hik, hk, rfl, he, hle⟩ := hrel
    have HE := Lib.hid he
    clear he H0
    have T := hR.le hle
    clear hR hi0
    obtain ⟨b3, off3, e3, hb3, c0, -⟩ := T.lin_at hi
    cases e3
    have F0 := cell_ext hb3 c0
    have hkx : (0 : Int) ≤ (k : Int) := by omega
    by_cases hlt : k < p.length
    · obtain ⟨b2, off2, e2, hb2, d0, -⟩ := T.lin_at hlt
      cases e2
      have E0 := cell_ext hb2 d0
      by_cases hd : p[i].depth < p[k].depth
      · have HE2 : Hid (bEnd p i = bGo p (dep p i) (p.length - (k + 1)) (k + 1)) := by
          show _ = _
          rw [HE.out, bGo_step p _ hlt, dep_at hi, dep_at hlt, if_pos hd]
        clear HE
        go_wp2_with fail
        refine wp_region_ext (by kernel_rfl) (by kernel_rfl) ?_
        repeat (go_big_quiet_step (fail))
        refine wpQuiet_nil ?_
        intro _ hw'
        obtain ⟨gg, rfl⟩ := hw'
        have hw1 := Le.ext wr gg
        generalize wr.ext gg = W2 at *
        go_wp2
        go_roundw
        case rel => exact ⟨k + 1, by omega, by omega, by go_num, HE2.out, hle.trans hw1⟩
        case measure => simp [intOf]; omega
      · have HE2 : Hid (bEnd p i = k) := by
          show _ = _
          rw [HE.out, bGo_step p _ hlt, dep_at hi, dep_at hlt, if_neg hd]
        clear HE
        go_wp2_with fail
        refine wp_region_ext (by kernel_rfl) (by kernel_rfl) ?_
        repeat (go_big_quiet_step (fail))
        refine wpQuiet_nil ?_
        intro _ hw'
        obtain ⟨gg, rfl⟩ := hw'
        have hw1 := Le.ext wr gg
        generalize wr.ext gg = W2 at *
        go_wp2
        go_ret
        exact ⟨congrArg (fun z : Nat => Ending.returned (.int .i64 (z : Int))) HE2.out.symm, hle.trans hw1⟩
    · have HE2 : Hid (bEnd p i = k) := by
        show _ = _
        rw [HE.out, bGo_end p _ hlt]
      clear HE
      go_wp2_with fail
      refine wp_region_ext (by kernel_rfl) (by kernel_rfl) ?_
      repeat (go_big_quiet_step (fail))
      refine wpQuiet_nil ?_
      intro _ hw'
      obtain ⟨gg, rfl⟩ := hw'
      have hw1 := Le.ext wr gg
      generalize wr.ext gg = W2 at *
      go_wp2
      go_ret
      exact ⟨congrArg (fun z : Nat => Ending.returned (.int .i64 (z : Int))) HE2.out.symm, hle.trans hw1⟩
end

section
theorem rng_any (a b c : Int) (w : World) : Calls Tryd.prog 42 #[.int .i64 a, .int .i64 b, .int .i64 c] w fun e w' => e = .returned (.bool (rng b c a)) ∧ w = w' := inRange_any a b c w
theorem intInfoB : (Tryd.prog.info? 3).map (fun i => (i.zero, i.size, i.bytes)) = some (some (.int .i64 0), 1, 8) := by kernel_rfl
theorem one_newB (w : World) (a : Value) (t : TypeId) : ∀ j u, [a][j]? = some u → (w.alloc (.cells #[a] t)).cell? ((⟨w.heap.size, 0, none⟩ : Addr).add j) = some u := by
  intro j u hu
  cases j with
  | zero =>
    simp at hu; subst hu
    show (w.alloc (.cells #[a] t)).cell? ⟨w.heap.size, 0, none⟩ = some a
    rw [World.cell?_alloc_at _ _ _ _ rfl]; rfl
  | succ j => simp at hu

theorem go_len {nx : Int → Int} : ∀ (m : Nat) (f : Int) (out : List Int), (Chn.go nx m f out).length ≤ m + out.length
  | 0, _, out => by simp [Chn.go]
  | m + 1, f, out => by
    unfold Chn.go
    split
    · omega
    · have := go_len (nx := nx) m (nx f) (out ++ [f]); simp at this; omega
theorem go_stop {nx : Int → Int} {m : Nat} {f : Int} {out : List Int} (h : f < 0 ∨ f ∈ out) : Chn.go nx m f out = out := by
  cases m with
  | zero => rfl
  | succ m => rw [Chn.go, if_pos h]
theorem go_on {nx : Int → Int} {m : Nat} {f : Int} {out : List Int} (h0 : 0 ≤ f) (h : f ∉ out) : Chn.go nx (m + 1) f out = Chn.go nx m (nx f) (out ++ [f]) := by
  rw [Chn.go, if_neg (by rintro (h1 | h1); omega; exact h h1)]
theorem hasI_not {x : Int} {L : List Int} (h : x ∉ L) : hasI L x = false := by
  cases e : hasI L x
  · rfl
  · exact absurd (hasI_iff'.1 e) h

def slLen : Value → Nat
  | .slice _ n _ => n
  | _ => 0
end
end Go.Proofs.YtkcnjoikdalgjaaDoor
