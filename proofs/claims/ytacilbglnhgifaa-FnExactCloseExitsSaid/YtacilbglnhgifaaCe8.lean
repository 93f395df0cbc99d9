/- one text of PxA, LvK, TlR3, LvE, V, LvF -/
import Derived.Test.YtacilbglnhgifaaCe2
import Derived.Test.YtacilbglnhgifaaCe1
import Derived.Test.YtacilbglnhgifaaCe7
import Derived.Test.YtacilbglnhgifaaCe3
import Derived.Test.YtacilbglnhgifaaCe4
import Derived.Test.YtacilbglnhgifaaCe6
import Derived.Test.YtacilbglnhgifaaCe5
namespace Go.Proofs.Ytacilbglnhgifaa
open Go.RowKit
set_option linter.unusedVariables false
section
def xOk (xs : List Cls) (x : Xit) : Bool :=
  if x.kind = 0 ∨ x.kind = 1 then rng 0 99 x.a && (x.b == 0) else if x.kind = 2 then hasK xs x.a && (x.b == 0) else if x.kind = 3 then hasK xs x.a && rng 0 99 x.b else false
def vxs (xs : List Cls) (L : List Xit) : Bool := okTree xs && decide (L.length ≤ 8) && L.all (xOk xs)
theorem vxs_iff {xs : List Cls} {L : List Xit} : vxs xs L = true ↔ okTree xs = true ∧ L.length ≤ 8 ∧ ∀ x ∈ L, xOk xs x = true := by
  unfold vxs
  rw [Bool.and_eq_true, Bool.and_eq_true, decide_eq_true_eq, List.all_eq_true]
  exact ⟨fun h => ⟨h.1.1, h.1.2, h.2⟩, fun h => ⟨⟨h.1, h.2.1⟩, h.2.2⟩⟩
theorem vxs_at {xs : List Cls} {L : List Xit} {k : Nat} (h : k < L.length) : (L.drop k).all (xOk xs) = (xOk xs L[k] && (L.drop (k + 1)).all (xOk xs)) := by rw [List.drop_eq_getElem_cons h]; rfl
theorem xOk_01 {xs : List Cls} {x : Xit} (h : x.kind = 0 ∨ x.kind = 1) : xOk xs x = (rng 0 99 x.a && (x.b == 0)) := if_pos h
theorem xOk_2 {xs : List Cls} {x : Xit} (h : x.kind = 2) : xOk xs x = (hasK xs x.a && (x.b == 0)) := by unfold xOk; rw [if_neg (by omega), if_pos h]
theorem xOk_3 {xs : List Cls} {x : Xit} (h : x.kind = 3) : xOk xs x = (hasK xs x.a && rng 0 99 x.b) := by unfold xOk; rw [if_neg (by omega), if_neg (by omega), if_pos h]
theorem xOk_no {xs : List Cls} {x : Xit} (h : ¬ x.kind = 0) (h1 : ¬ x.kind = 1) (h2 : ¬ x.kind = 2) (h3 : ¬ x.kind = 3) : xOk xs x = false := by unfold xOk; rw [if_neg (by omega), if_neg h2, if_neg h3]
/-- a box of a tree and a box of an exit -/
theorem boxTX (w : World) (t k a b : Value) (T U : TypeId) : ((w.alloc (.cells #[t] T)).alloc (.cells #[k, a, b] U)).cell? ⟨w.heap.size, 0, none⟩ = some t ∧ w.heap.size < ((w.alloc (.cells #[t] T)).alloc (.cells #[k, a, b] U)).heap.size ∧
    ((w.alloc (.cells #[t] T)).alloc (.cells #[k, a, b] U)).cell? ⟨w.heap.size + 1, 0, none⟩ = some k ∧ ((w.alloc (.cells #[t] T)).alloc (.cells #[k, a, b] U)).cell? ⟨w.heap.size + 1, 1, none⟩ = some a ∧ ((w.alloc (.cells #[t] T)).alloc (.cells #[k, a, b] U)).cell? ⟨w.heap.size + 1, 2, none⟩ = some b ∧
    w.heap.size + 1 < ((w.alloc (.cells #[t] T)).alloc (.cells #[k, a, b] U)).heap.size ∧ Le w ((w.alloc (.cells #[t] T)).alloc (.cells #[k, a, b] U)) := by
  refine ⟨?_, by simp; omega, ?_, ?_, ?_, by simp, (Le.new w _).alloc _⟩
  · rw [World.cell?_alloc_past _ _ _ (by simp), World.cell?_alloc_at _ _ _ _ rfl]; rfl
  all_goals (rw [World.cell?_alloc_at _ _ _ _ (by simp)]; rfl)
theorem boxT (w : World) (k a b : Value) (U : TypeId) : (w.alloc (.cells #[k, a, b] U)).cell? ⟨w.heap.size, 0, none⟩ = some k ∧ (w.alloc (.cells #[k, a, b] U)).cell? ⟨w.heap.size, 1, none⟩ = some a ∧ (w.alloc (.cells #[k, a, b] U)).cell? ⟨w.heap.size, 2, none⟩ = some b ∧
    w.heap.size < (w.alloc (.cells #[k, a, b] U)).heap.size ∧ Le w (w.alloc (.cells #[k, a, b] U)) := by
  refine ⟨?_, ?_, ?_, by simp, Le.new w _⟩ <;> (rw [World.cell?_alloc_at _ _ _ _ rfl]; rfl)
theorem rngI_any (a b c : Int) (w : World) : Calls Try.prog 53 #[.int .i64 a, .int .i64 b, .int .i64 c] w fun e w' => e = .returned (.bool (rng b c a)) ∧ w = w' := by
  unfold rng
  go_enter Try.func53, Try.ntmps53
  go_wp2
  all_goals (go_ret; simp_all)
  all_goals omega
theorem isClassI_any (A : Option Addr) (n cap : Nat) (xs : List Cls) (a : Int) (w : World) (hR : Sl w A n cap xs) :
    Calls Try.prog 52 #[.agg #[.slice A n cap], .int .i64 a] w fun e w' => e = .returned (.bool (hasK xs a)) ∧ Le w w' := by
  obtain rfl := hR.len
  have hm := hR.n_le
  have hw : IntKind.i64.wrap ((xs.length : Int) - 1) = (xs.length : Int) - 1 := IntWalk.i64_in _ (by omega)
  go_enter Try.func52, Try.ntmps52
  go_wp2_with (go_at_call 53; refine (rngI_any _ _ _ _).mono ?_; rintro e w' ⟨rfl, rfl⟩)
  go_ret
  exact ⟨rfl, Le.new w _⟩
set_option maxHeartbeats 1000000 in
set_option maxRecDepth 100000 in
theorem svalidExit_any (B : Option Addr) (m c : Nat) (xs : List Cls) (x : Xit) (w : World) (hT : Sl w B m c xs) :
    Calls Try.prog 63 #[.agg #[.slice B m c], .agg #[.int .i64 x.kind, .int .i64 x.a, .int .i64 x.b]] w fun e w' => e = .returned (.bool (xOk xs x)) ∧ Le w w' := by
  have X01 := Lib.hid (fun h => xOk_01 (xs := xs) (x := x) h)
  have X2 := Lib.hid (fun h => xOk_2 (xs := xs) (x := x) h)
  have X3 := Lib.hid (fun h => xOk_3 (xs := xs) (x := x) h)
  have X4 := Lib.hid (fun a b c d => xOk_no (xs := xs) (x := x) a b c d)
  generalize xOk xs x = Z at *
  generalize x.kind = vk at *
  generalize x.a = va at *
  generalize x.b = vb at *
  obtain ⟨ct, zt, x0, x1, x2, zx, L0⟩ := boxTX w (.slice B m c) (.int .i64 vk) (.int .i64 va) (.int .i64 vb) 39 61
  have T1 := hT.le L0
  clear hT
  by_cases h01 : vk = 0 ∨ vk = 1
  · have HZ := Lib.hid (X01.out h01)
    clear X01 X2 X3 X4
    rcases h01 with rfl | rfl
    all_goals
      go_enter Try.func63, Try.ntmps63
      go_wp2_with fail
      generalize (w.alloc (.cells #[.slice B m c] 39)).alloc _ = W at *
      refine (rng_any va 0 99 W).mono ?_
      rintro e w1 ⟨rfl, rfl⟩
      cases hr : rng 0 99 va
      all_goals
        rw [hr] at HZ
        go_wp2
        go_ret
        exact ⟨ret_bool (by rw [HZ.out]; simp), L0⟩
  · by_cases h2 : vk = 2
    · have HZ := Lib.hid (X2.out h2)
      clear X01 X2 X3 X4
      subst h2
      go_enter Try.func63, Try.ntmps63
      go_wp2_with fail
      generalize (w.alloc (.cells #[.slice B m c] 39)).alloc _ = W at *
      refine (hasClass_any B m c xs va W T1).mono ?_
      rintro e w1 ⟨rfl, hle⟩
      replace x2 := (hle.cell zx).trans x2
      cases hr : hasK xs va
      all_goals
        rw [hr] at HZ
        go_wp2
        go_ret
        exact ⟨ret_bool (by rw [HZ.out]; simp), L0.trans hle⟩
    · by_cases h3 : vk = 3
      · have HZ := Lib.hid (X3.out h3)
        clear X01 X2 X3 X4
        subst h3
        go_enter Try.func63, Try.ntmps63
        go_wp2_with fail
        generalize (w.alloc (.cells #[.slice B m c] 39)).alloc _ = W at *
        refine (hasClass_any B m c xs va W T1).mono ?_
        rintro e w1 ⟨rfl, hle⟩
        replace x2 := (hle.cell zx).trans x2
        cases hr : hasK xs va
        · rw [hr] at HZ
          go_wp2
          go_ret
          exact ⟨ret_bool (by rw [HZ.out]; simp), L0.trans hle⟩
        · rw [hr] at HZ
          go_wp2_with fail
          refine (rng_any vb 0 99 w1).mono ?_
          rintro e w2 ⟨rfl, rfl⟩
          go_wp2
          go_ret
          exact ⟨ret_bool (by rw [HZ.out]; simp), L0.trans hle⟩
      · have e0 : (vk == 0) = false := by simp; omega
        have e1 : (vk == 1) = false := by simp; omega
        have e2 : (vk == 2) = false := by simp; omega
        have e3 : (vk == 3) = false := by simp; omega
        have HZ := Lib.hid (X4.out (by omega) (by omega) h2 h3)
        clear X01 X2 X3 X4 h2 h3 h01
        go_enter Try.func63, Try.ntmps63
        go_wp2
        go_ret
        exact ⟨ret_bool (by rw [HZ.out]), L0⟩
set_option maxHeartbeats 1000000 in
set_option maxRecDepth 100000 in
theorem ivalidExit_any (B : Option Addr) (m c : Nat) (xs : List Cls) (x : Xit) (w : World) (hT : Sl w B m c xs) :
    Calls Try.prog 51 #[.agg #[.slice B m c], .agg #[.int .i64 x.kind, .int .i64 x.a, .int .i64 x.b]] w fun e w' => e = .returned (.bool (xOk xs x)) ∧ Le w w' := by
  have X01 := Lib.hid (fun h => xOk_01 (xs := xs) (x := x) h)
  have X2 := Lib.hid (fun h => xOk_2 (xs := xs) (x := x) h)
  have X3 := Lib.hid (fun h => xOk_3 (xs := xs) (x := x) h)
  have X4 := Lib.hid (fun a b c d => xOk_no (xs := xs) (x := x) a b c d)
  generalize xOk xs x = Z at *
  generalize x.kind = vk at *
  generalize x.a = va at *
  generalize x.b = vb at *
  obtain ⟨ct, zt, x0, x1, x2, zx, L0⟩ := boxTX w (.slice B m c) (.int .i64 vk) (.int .i64 va) (.int .i64 vb) 39 61
  have T1 := hT.le L0
  clear hT
  by_cases h01 : vk = 0 ∨ vk = 1
  · have HZ := Lib.hid (X01.out h01)
    clear X01 X2 X3 X4
    rcases h01 with rfl | rfl
    all_goals
      go_enter Try.func51, Try.ntmps51
      go_wp2_with fail
      generalize (w.alloc (.cells #[.slice B m c] 39)).alloc _ = W at *
      refine (rngI_any va 0 99 W).mono ?_
      rintro e w1 ⟨rfl, rfl⟩
      cases hr : rng 0 99 va
      all_goals
        rw [hr] at HZ
        go_wp2
        go_ret
        exact ⟨ret_bool (by rw [HZ.out]; simp), L0⟩
  · by_cases h2 : vk = 2
    · have HZ := Lib.hid (X2.out h2)
      clear X01 X2 X3 X4
      subst h2
      go_enter Try.func51, Try.ntmps51
      go_wp2_with fail
      generalize (w.alloc (.cells #[.slice B m c] 39)).alloc _ = W at *
      refine (isClassI_any B m c xs va W T1).mono ?_
      rintro e w1 ⟨rfl, hle⟩
      replace x2 := (hle.cell zx).trans x2
      cases hr : hasK xs va
      all_goals
        rw [hr] at HZ
        go_wp2
        go_ret
        exact ⟨ret_bool (by rw [HZ.out]; simp), L0.trans hle⟩
    · by_cases h3 : vk = 3
      · have HZ := Lib.hid (X3.out h3)
        clear X01 X2 X3 X4
        subst h3
        go_enter Try.func51, Try.ntmps51
        go_wp2_with fail
        generalize (w.alloc (.cells #[.slice B m c] 39)).alloc _ = W at *
        refine (isClassI_any B m c xs va W T1).mono ?_
        rintro e w1 ⟨rfl, hle⟩
        replace x2 := (hle.cell zx).trans x2
        cases hr : hasK xs va
        · rw [hr] at HZ
          go_wp2
          go_ret
          exact ⟨ret_bool (by rw [HZ.out]; simp), L0.trans hle⟩
        · rw [hr] at HZ
          go_wp2_with fail
          refine (rngI_any vb 0 99 w1).mono ?_
          rintro e w2 ⟨rfl, rfl⟩
          go_wp2
          go_ret
          exact ⟨ret_bool (by rw [HZ.out]; simp), L0.trans hle⟩
      · have e0 : (vk == 0) = false := by simp; omega
        have e1 : (vk == 1) = false := by simp; omega
        have e2 : (vk == 2) = false := by simp; omega
        have e3 : (vk == 3) = false := by simp; omega
        have HZ := Lib.hid (X4.out (by omega) (by omega) h2 h3)
        clear X01 X2 X3 X4 h2 h3 h01
        go_enter Try.func51, Try.ntmps51
        go_wp2
        go_ret
        exact ⟨ret_bool (by rw [HZ.out]), L0⟩
set_option maxHeartbeats 1000000 in
set_option maxRecDepth 100000 in
theorem iValidExits_any (B A : Option Addr) (m c n cap : Nat) (xs : List Cls) (L : List Xit) (w : World) (hT : Sl w B m c xs) (hR : Sl w A n cap L) :
    Calls Try.prog 32 #[.agg #[.slice B m c], .slice A n cap] w fun e w' => e = .returned (.bool (vxs xs L)) ∧ Le w w' := by
  obtain rfl := hR.len
  have hmx := hR.n_le
  have HX : Hid (vxs xs L = (okTree xs && decide (L.length ≤ 8) && L.all (xOk xs))) := rfl
  go_enter Try.func32, Try.ntmps32
  go_wp2_with fail
  obtain ⟨ct, zt, hleB⟩ := box1 w (.slice B m c) 39
  have L0 := hleB
  clear hleB
  generalize w.alloc (.cells #[.slice B m c] 39) = W at *
  have S1 := hR.le L0
  have ST := hT.le L0
  clear hR hT
  refine (iValidTree_any B m c xs W ST).mono ?_
  rintro e w1 ⟨rfl, hle⟩
  replace ct := (hle.cell zt).trans ct
  replace zt := Nat.lt_of_lt_of_le zt hle.size
  replace L0 := L0.trans hle
  replace S1 := S1.le hle
  replace ST := ST.le hle
  clear hle
  cases h : okTree xs
  · have HF : Hid (vxs xs L = false) := by show _ = _; rw [HX.out, h]; rfl
    go_wp2
    go_ret
    exact ⟨ret_bool HF.out.symm, L0⟩
  · by_cases h8 : L.length ≤ 8
    · have hb8 : decide ((8 : Int) < (L.length : Int)) = false := by simp; omega
      have HY : Hid (vxs xs L = L.all (xOk xs)) := by show _ = _; rw [HX.out, h, decide_eq_true h8]; rfl
      clear HX
      go_wp2
      go_loopw [17] (fun q wr => ∃ k : Nat, k ≤ L.length ∧ q = .int .i64 k ∧ L.all (xOk xs) = (L.drop k).all (xOk xs) ∧ Le w1 wr) (fun q _ => L.length - (intOf q).toNat)
      case atStart => exact ⟨0, Nat.zero_le _, rfl, rfl, Le.refl _⟩
      case round =>
        obtain ⟨k, hk, rfl, he, hle0⟩ := hrel
        have HE := Lib.hid he; clear he
        replace ct := (hle0.cell zt).trans ct
        replace zt := Nat.lt_of_lt_of_le zt hle0.size
        replace L0 := L0.trans hle0
        replace S1 := S1.le hle0
        replace ST := ST.le hle0
        by_cases hlt : k < L.length
        · obtain ⟨b, off, rfl, hb, d0, d1, d2, -⟩ := S1.xit_at hlt
          have HA := Lib.hid (vxs_at (xs := xs) hlt)
          generalize HXK : L[k] = x at *
          clear HXK
          go_wp2_with fail
          obtain ⟨y0, y1, y2, zy, hlb⟩ := boxT wr (.int .i64 x.kind) (.int .i64 x.a) (.int .i64 x.b) 61
          replace ct := (hlb.cell zt).trans ct
          replace zt := Nat.lt_of_lt_of_le zt hlb.size
          replace L0 := L0.trans hlb
          replace S1 := S1.le hlb
          replace ST := ST.le hlb
          have hlb0 := hlb
          clear hlb
          generalize wr.alloc _ = W2 at *
          refine (ivalidExit_any B m c xs x W2 ST).mono ?_
          rintro e w3 ⟨rfl, hle3⟩
          have L3 := L0.trans hle3
          cases hx : xOk xs x
          · have HF : Hid (vxs xs L = false) := by show _ = _; rw [HY.out, HE.out, HA.out, hx]; rfl
            go_wp2
            go_ret
            exact ⟨ret_bool HF.out.symm, L3⟩
          · have HF : Hid (L.all (xOk xs) = (L.drop (k + 1)).all (xOk xs)) := by show _ = _; rw [HE.out, HA.out, hx, Bool.true_and]
            have L4 := (hle0.trans hlb0).trans hle3
            go_wp2
            go_roundw
            case rel => exact ⟨k + 1, by omega, by go_num, HF.out, L4⟩
            case measure => simp [intOf]; omega
        · have HF : Hid (vxs xs L = true) := by show _ = _; rw [HY.out, HE.out, List.drop_eq_nil_of_le (by omega)]; rfl
          go_wp2
          go_ret
          exact ⟨ret_bool HF.out.symm, L0⟩
    · have hb8 : decide ((8 : Int) < (L.length : Int)) = true := by simp; omega
      have HF : Hid (vxs xs L = false) := by show _ = _; rw [HX.out, decide_eq_false h8]; simp
      go_wp2
      go_ret
      exact ⟨ret_bool HF.out.symm, L0⟩
set_option maxHeartbeats 1000000 in
set_option maxRecDepth 100000 in
theorem svalidExits_any (B A : Option Addr) (m c n cap : Nat) (xs : List Cls) (L : List Xit) (w : World) (hT : Sl w B m c xs) (hR : Sl w A n cap L) :
    Calls Try.prog 42 #[.agg #[.slice B m c], .slice A n cap] w fun e w' => e = .returned (.bool (vxs xs L)) ∧ Le w w' := by
  obtain rfl := hR.len
  have hmx := hR.n_le
  have HX : Hid (vxs xs L = (okTree xs && decide (L.length ≤ 8) && L.all (xOk xs))) := rfl
  go_enter Try.func42, Try.ntmps42
  go_wp2_with fail
  obtain ⟨ct, zt, hleB⟩ := box1 w (.slice B m c) 39
  have L0 := hleB
  clear hleB
  generalize w.alloc (.cells #[.slice B m c] 39) = W at *
  have S1 := hR.le L0
  have ST := hT.le L0
  clear hR hT
  go_loopw [5] (fun q wr => ∃ k : Nat, k ≤ L.length ∧ q = .int .i64 k ∧ L.all (xOk xs) = (L.drop k).all (xOk xs) ∧ Le W wr) (fun q _ => L.length - (intOf q).toNat)
  case atStart => exact ⟨0, Nat.zero_le _, rfl, rfl, Le.refl _⟩
  case round =>
    obtain ⟨k, hk, rfl, he, hle0⟩ := hrel
    have HE := Lib.hid he; clear he
    replace ct := (hle0.cell zt).trans ct
    replace zt := Nat.lt_of_lt_of_le zt hle0.size
    replace L0 := L0.trans hle0
    replace S1 := S1.le hle0
    replace ST := ST.le hle0
    by_cases hlt : k < L.length
    · obtain ⟨b, off, rfl, hb, d0, d1, d2, -⟩ := S1.xit_at hlt
      have HA := Lib.hid (vxs_at (xs := xs) hlt)
      generalize HXK : L[k] = x at *
      clear HXK
      have E0 := cell_ext zt ct
      have E1 := cell_ext hb d0
      have E2 := cell_ext hb d1
      have E3 := cell_ext hb d2
      have HNO : Hid (xOk xs x = false → vxs xs L = false) := fun hx => by rw [HX.out, HE.out, HA.out, hx]; simp
      have HYES : Hid (xOk xs x = true → L.all (xOk xs) = (L.drop (k + 1)).all (xOk xs)) := fun hx => by rw [HE.out, HA.out, hx, Bool.true_and]
      go_wp2_with fail
      refine wp_region_ext (by kernel_rfl) (by kernel_rfl) ?_
      repeat (go_big_quiet_step (first | (go_at_call 63; exact Calls.ext_of (svalidExit_any B m c xs x _ (ST.ext _)))))
      refine wpQuiet_nil ?_
      intro _ hw'
      obtain ⟨g, rfl⟩ := hw'
      have hw1 := Le.ext wr g
      have L3 := L0.trans hw1
      have L4 := hle0.trans hw1
      clear E0 E1 E2 E3
      generalize wr.ext g = W2 at *
      cases hx : xOk xs x
      · have HF := Lib.hid (HNO.out hx)
        go_wp2
        go_ret
        exact ⟨ret_bool HF.out.symm, L3⟩
      · have HF := Lib.hid (HYES.out hx)
        go_wp2
        go_roundw
        case rel => exact ⟨k + 1, by omega, by go_num, HF.out, L4⟩
        case measure => simp [intOf]; omega
    · have HY : Hid (L.all (xOk xs) = true) := by show _ = _; rw [HE.out, List.drop_eq_nil_of_le (by omega)]; rfl
      clear HE
      go_wp2_with fail
      refine (validTree_any B m c xs wr ST).mono ?_
      rintro e w2 ⟨rfl, hl2⟩
      cases ht : okTree xs
      · have HF : Hid (vxs xs L = false) := by show _ = _; rw [HX.out, ht]; rfl
        go_wp2
        go_ret
        exact ⟨ret_bool HF.out.symm, L0.trans hl2⟩
      · have HF : Hid (vxs xs L = decide ((L.length : Int) ≤ 8)) := by show _ = _; rw [HX.out, ht, HY.out, Bool.true_and, Bool.and_true]; exact decide_eq_decide.2 (by omega)
        go_wp2
        go_ret
        exact ⟨ret_bool HF.out.symm, L0.trans hl2⟩
end

section
/-- the memory of a closing: its block, what it has told, its faults, the fault that there is; all of it newer than the world w0 -/
structure Cv (w0 w : World) (C : Nat) (lv hv : Value) (lg : List Int) (hs : List Flt) (fa : Int) : Prop where
  b : B3 w C lv hv (.int .i64 fa)
  O : w.ownsRow w0.heap.size 3 1 lv lg.length (lg.flatMap Enc.cells)
  H : w.ownsRow w0.heap.size 84 5 hv hs.length (hs.flatMap Enc.cells)
  ap : ∀ k, lv.ownBlock = some k → hv.ownBlock ≠ some k
  okl : ∀ x ∈ lg, Enc.ok x
  okh : ∀ x ∈ hs, Enc.ok x
  nl : lv.ownBlock ≠ some C
  nh : hv.ownBlock ≠ some C
  h0 : w0.heap.size ≤ C
  G : Le w0 w
section
variable {w0 w w' wA w4 : World} {C : Nat} {lv hv v1 : Value} {lg : List Int} {hs : List Flt} {fa : Int}
theorem Cv.le (h : Cv w0 w C lv hv lg hs fa) (hl : Le w w') : Cv w0 w' C lv hv lg hs fa :=
  ⟨h.b.le hl, own_le h.O hl, own_le h.H hl, h.ap, h.okl, h.okh, h.nl, h.nh, h.h0, h.G.trans hl⟩
theorem kept_set {w : World} {base size n : Nat} {T : TypeId} {v : Value} {xs : List Value} {C : Nat} (h : w.ownsRow base T size v n xs) (hn : v.ownBlock ≠ some C) (o : Nat) (u : Value) : (w.setCell ⟨C, o, none⟩ u).ownsRow base T size v n xs :=
  h.kept (grown_set w C o u) (by cases e : v.ownBlock with | none => exact .inl rfl | some k => exact .inr (fun e2 => by injection e2 with e2; exact hn (by rw [e, e2])))
theorem Cv.setF (h : Cv w0 w C lv hv lg hs fa) (f : Int) : Cv w0 (w.setCell ⟨C, 2, none⟩ (.int .i64 f)) C lv hv lg hs f :=
  ⟨h.b.set2 _, kept_set h.O h.nl _ _, kept_set h.H h.nh _ _, h.ap, h.okl, h.okh, h.nl, h.nh, h.h0, h.G.setCell h.h0 _⟩
theorem Cv.told (h : Cv w0 w C lv hv lg hs fa) (LA : Le w wA) {x : Int} (hx : Enc.ok x) (O4 : w4.ownsRow w0.heap.size 3 1 v1 (lg.length + 1) ((lg ++ [x]).flatMap Enc.cells)) (hg : wA.grownBy w4 lv.ownBlock) (hbl : v1.ownBlock = lv.ownBlock ∨ v1.ownBlock = some wA.heap.size) :
    Cv w0 (w4.setCell ⟨C, 0, none⟩ v1) C v1 hv (lg ++ [x]) hs fa := by
  have hA := h.le LA
  have hz := hA.b.lt
  have hRl : some C ≠ lv.ownBlock := fun e => h.nl e.symm
  have hsz := hg.size
  have hcell : ∀ o v, wA.cell? ⟨C, o, none⟩ = some v → w4.cell? ⟨C, o, none⟩ = some v := fun o v hc => hg.cell (a := ⟨C, o, none⟩) hc (fun e => hRl e)
  have hfr : ∀ o, w4.frozen? ⟨C, o, none⟩ = wA.frozen? ⟨C, o, none⟩ := fun o => World.frozen?_of_block (a := ⟨C, o, none⟩) (hg.block C hz hRl)
  have hap : hv.ownBlock = none ∨ hv.ownBlock ≠ lv.ownBlock := by
    cases e : hv.ownBlock with
    | none => exact .inl rfl
    | some k => exact .inr fun e2 => h.ap k e2.symm e
  have hvl : ∀ k, v1.ownBlock = some k → k ≠ C ∧ hv.ownBlock ≠ some k := fun k e => by
    rcases hbl with h1 | h1
    · exact ⟨fun e2 => h.nl (by rw [← h1, e, e2]), h.ap k (h1 ▸ e)⟩
    · rw [h1] at e
      injection e with e
      exact ⟨by omega, fun e2 => by have := (hA.H.lt k e2).2; omega⟩
  have B4 : B3 w4 C lv hv (.int .i64 fa) := ⟨Nat.lt_of_lt_of_le hz hsz, hcell _ _ hA.b.c0, hcell _ _ hA.b.c1, hcell _ _ hA.b.c2, fun o => (hfr o).trans (hA.b.f o)⟩
  refine ⟨B4.set0 v1, ?_, kept_set (hA.H.kept hg hap) h.nh _ _, fun k e => (hvl k e).2, ?_, h.okh, fun e => (hvl C e).1 rfl, h.nh, h.h0, (hA.G.grown hg (fun k hk => (h.O.lt k hk).1)).setCell h.h0 v1⟩
  · rw [List.length_append]
    exact kept_set O4 (fun e => (hvl C e).1 rfl) _ _
  · intro y hy
    rcases List.mem_append.1 hy with h1 | h1
    · exact h.okl y h1
    · rw [List.mem_singleton] at h1; subst h1; exact hx
theorem Cv.put (h : Cv w0 w C lv hv lg hs fa) (LA : Le w wA) {hs2 : List Flt} (D : Owd 84 w wA v1 hs2) (f : Int) :
    Cv w0 (((wA.setCell ⟨C, 0, none⟩ lv).setCell ⟨C, 1, none⟩ v1).setCell ⟨C, 2, none⟩ (.int .i64 f)) C lv v1 lg hs2 f := by
  have hA := h.le LA
  have hz := h.b.lt
  have hv1 : ∀ k, v1.ownBlock = some k → w.heap.size ≤ k := fun k e => (D.row.lt k e).1
  have n1 : v1.ownBlock ≠ some C := fun e => by have := hv1 _ e; omega
  refine ⟨((hA.b.set0 lv).set1 v1).set2 _, kept_set (kept_set (kept_set hA.O h.nl _ _) h.nl _ _) h.nl _ _, ?_, fun k e e2 => ?_, h.okl, D.ok, h.nl, n1, h.h0, ((hA.G.setCell h.h0 _).setCell h.h0 _).setCell h.h0 _⟩
  · exact own_mono (kept_set (kept_set (kept_set D.row n1 _ _) n1 _ _) n1 _ _) h.G.size
  · have h1 := (h.O.lt k e).2
    have h2 := hv1 k e2
    omega
theorem Cv.fresh (w0 : World) (U : TypeId) : Cv w0 ((w0.alloc (.cells #[] 3)).alloc (.cells #[.slice (some ⟨w0.heap.size, 0, none⟩) 0 0, .slice none 0 0, .int .i64 (-1)] U)) (w0.heap.size + 1) (.slice (some ⟨w0.heap.size, 0, none⟩) 0 0) (.slice none 0 0) [] [] (-1) := by
  have B := B3.new (w0.alloc (.cells #[] 3)) (.slice (some ⟨w0.heap.size, 0, none⟩) 0 0) (.slice none 0 0) (.int .i64 (-1)) U
  have e : (w0.alloc (.cells #[] 3)).heap.size = w0.heap.size + 1 := by simp
  rw [e] at B
  refine ⟨B, ?_, World.ownsRow_nil _ _ _ _, fun k _ e2 => by simp [Value.ownBlock] at e2, (fun _ h => nomatch h), (fun _ h => nomatch h), ?_, by simp [Value.ownBlock], Nat.le_succ _, (Le.new w0 _).trans (Le.new _ _)⟩
  · exact own_le (own_empty (Nat.le_refl _) rfl) (Le.new _ _)
  · simp [Value.ownBlock]
end
/-- a block of four cells -/
structure B4 (W : World) (b : Nat) (x y z v : Value) : Prop where
  lt : b < W.heap.size
  c0 : W.cell? ⟨b, 0, none⟩ = some x
  c1 : W.cell? ⟨b, 1, none⟩ = some y
  c2 : W.cell? ⟨b, 2, none⟩ = some z
  c3 : W.cell? ⟨b, 3, none⟩ = some v
  f : ∀ o, W.frozen? ⟨b, o, none⟩ = false
section
variable {W W' : World} {b g : Nat} {x y z v : Value}
theorem B4.new (w : World) (x y z v : Value) (T : TypeId) : B4 (w.alloc (.cells #[x, y, z, v] T)) w.heap.size x y z v := by
  refine ⟨by simp, ?_, ?_, ?_, ?_, fun o => World.frozen?_alloc_at _ _ _ _ rfl⟩ <;> (rw [World.cell?_alloc_at _ _ _ _ rfl]; rfl)
theorem B4.le (h : B4 W b x y z v) (l : Le W W') : B4 W' b x y z v :=
  ⟨Nat.lt_of_lt_of_le h.lt l.size, (l.cell h.lt).trans h.c0, (l.cell h.lt).trans h.c1, (l.cell h.lt).trans h.c2, (l.cell h.lt).trans h.c3, fun o => (l.frozen h.lt).trans (h.f o)⟩
theorem B4.far (h : B4 W b x y z v) (hn : g ≠ b) (o : Nat) (u : Value) : B4 (W.setCell ⟨g, o, none⟩ u) b x y z v :=
  ⟨by simpa [World.setCell] using h.lt, (cell_set_other (.inl hn)).trans h.c0, (cell_set_other (.inl hn)).trans h.c1, (cell_set_other (.inl hn)).trans h.c2, (cell_set_other (.inl hn)).trans h.c3, fun k => (frz3 _ _ _ _ _ _).trans (h.f k)⟩
theorem B4.set0 (h : B4 W b x y z v) (u : Value) : B4 (W.setCell ⟨b, 0, none⟩ u) b u y z v :=
  ⟨by simpa [World.setCell] using h.lt, cell_set_same h.c0, (cell_set_other (.inr (by decide))).trans h.c1, (cell_set_other (.inr (by decide))).trans h.c2, (cell_set_other (.inr (by decide))).trans h.c3, fun k => (frz3 _ _ _ _ _ _).trans (h.f k)⟩
theorem B4.set1 (h : B4 W b x y z v) (u : Value) : B4 (W.setCell ⟨b, 1, none⟩ u) b x u z v :=
  ⟨by simpa [World.setCell] using h.lt, (cell_set_other (.inr (by decide))).trans h.c0, cell_set_same h.c1, (cell_set_other (.inr (by decide))).trans h.c2, (cell_set_other (.inr (by decide))).trans h.c3, fun k => (frz3 _ _ _ _ _ _).trans (h.f k)⟩
theorem B4.set2 (h : B4 W b x y z v) (u : Value) : B4 (W.setCell ⟨b, 2, none⟩ u) b x y u v :=
  ⟨by simpa [World.setCell] using h.lt, (cell_set_other (.inr (by decide))).trans h.c0, (cell_set_other (.inr (by decide))).trans h.c1, cell_set_same h.c2, (cell_set_other (.inr (by decide))).trans h.c3, fun k => (frz3 _ _ _ _ _ _).trans (h.f k)⟩
theorem B4.set3 (h : B4 W b x y z v) (u : Value) : B4 (W.setCell ⟨b, 3, none⟩ u) b x y z u :=
  ⟨by simpa [World.setCell] using h.lt, (cell_set_other (.inr (by decide))).trans h.c0, (cell_set_other (.inr (by decide))).trans h.c1, (cell_set_other (.inr (by decide))).trans h.c2, cell_set_same h.c3, fun k => (frz3 _ _ _ _ _ _).trans (h.f k)⟩
/-- all four cells of a block are written anew: what is kept, and what is in it -/
theorem B4.all (h : B4 W b x y z v) (x' y' z' v' : Value) : B4 ((((W.setCell ⟨b, 0, none⟩ x').setCell ⟨b, 1, none⟩ y').setCell ⟨b, 2, none⟩ z').setCell ⟨b, 3, none⟩ v') b x' y' z' v' := (((h.set0 x').set1 y').set2 z').set3 v'
theorem row_all {base size n : Nat} {T : TypeId} {u : Value} {xs : List Value} (h : W.ownsRow base T size u n xs) (hn : u.ownBlock ≠ some b) (x' y' z' v' : Value) : ((((W.setCell ⟨b, 0, none⟩ x').setCell ⟨b, 1, none⟩ y').setCell ⟨b, 2, none⟩ z').setCell ⟨b, 3, none⟩ v').ownsRow base T size u n xs :=
  kept_set (kept_set (kept_set (kept_set h hn _ _) hn _ _) hn _ _) hn _ _
end
end

section
structure RB (w0 w : World) (g : Nat) (A0 A1 : Option Addr) (q0 q1 : Nat) (lg : List Int) (hs : List Flt) (en va : Int) : Prop where
  b : B4 w g (.slice A0 lg.length q0) (.int .i64 en) (.int .i64 va) (.slice A1 hs.length q1)
  lo : w0.heap.size ≤ g
  O : w.ownsRow w0.heap.size 3 1 (.slice A0 lg.length q0) lg.length (lg.flatMap Enc.cells)
  H : w.ownsRow w0.heap.size 84 5 (.slice A1 hs.length q1) hs.length (hs.flatMap Enc.cells)
  okl : ∀ x ∈ lg, Enc.ok x
  okh : ∀ x ∈ hs, Enc.ok x
  n0 : (Value.slice A0 lg.length q0).ownBlock ≠ some g
  n1 : (Value.slice A1 hs.length q1).ownBlock ≠ some g
  ap : Apart (.slice A0 lg.length q0) (.slice A1 hs.length q1)
  G : Le w0 w
theorem RB.put {w0 W wq : World} {g : Nat} {A0 A1 : Option Addr} {q0 q1 : Nat} {lg : List Int} {hs : List Flt} {en va : Int} {x y z v : Value} (hb : B4 W g x y z v) (lo : w0.heap.size ≤ g)
    (O : W.ownsRow wq.heap.size 3 1 (.slice A0 lg.length q0) lg.length (lg.flatMap Enc.cells)) (H : W.ownsRow wq.heap.size 84 5 (.slice A1 hs.length q1) hs.length (hs.flatMap Enc.cells)) (okl : ∀ x ∈ lg, Enc.ok x) (okh : ∀ x ∈ hs, Enc.ok x)
    (n0 : (Value.slice A0 lg.length q0).ownBlock ≠ some g) (n1 : (Value.slice A1 hs.length q1).ownBlock ≠ some g) (ap : Apart (.slice A0 lg.length q0) (.slice A1 hs.length q1)) (G : Le w0 W) (hq : w0.heap.size ≤ wq.heap.size) :
    RB w0 ((((W.setCell ⟨g, 0, none⟩ (.slice A0 lg.length q0)).setCell ⟨g, 1, none⟩ (.int .i64 en)).setCell ⟨g, 2, none⟩ (.int .i64 va)).setCell ⟨g, 3, none⟩ (.slice A1 hs.length q1)) g A0 A1 q0 q1 lg hs en va :=
  ⟨hb.all _ _ _ _, lo, own_mono (row_all O n0 _ _ _ _) hq, own_mono (row_all H n1 _ _ _ _) hq, okl, okh, n0, n1, ap, (((G.setCell lo _).setCell lo _).setCell lo _).setCell lo _⟩
theorem RB.bd {w0 w : World} {g : Nat} {A0 A1 : Option Addr} {q0 q1 : Nat} {lg : List Int} {hs : List Flt} {en va : Int} (h : RB w0 w g A0 A1 q0 q1 lg hs en va) :
    (∀ k, (Value.slice A0 lg.length q0).ownBlock = some k → w0.heap.size ≤ k ∧ k < w.heap.size ∧ k ≠ g) ∧ ∀ k, (Value.slice A1 hs.length q1).ownBlock = some k → w0.heap.size ≤ k ∧ k < w.heap.size ∧ k ≠ g :=
  ⟨fun k e => ⟨(h.O.lt k e).1, (h.O.lt k e).2, fun e2 => h.n0 (by rw [e, e2])⟩, fun k e => ⟨(h.H.lt k e).1, (h.H.lt k e).2, fun e2 => h.n1 (by rw [e, e2])⟩⟩
/-- the box, made anew -/
theorem box4f (w : World) (T : TypeId) : B4 (w.alloc (.cells #[.slice none 0 0, .int .i64 0, .int .i64 0, .slice none 0 0] T)) w.heap.size (.slice none 0 0) (.int .i64 0) (.int .i64 0) (.slice none 0 0) ∧ Le w (w.alloc (.cells #[.slice none 0 0, .int .i64 0, .int .i64 0, .slice none 0 0] T)) := ⟨B4.new _ _ _ _ _ _, Le.new _ _⟩
theorem B4.fours {W : World} {b : Nat} {x y z v : Value} (h : B4 W b x y z v) (x' y' z' : Value) : W.cell? ⟨b, 0, none⟩ = some x ∧ W.frozen? ⟨b, 0, none⟩ = false ∧ (W.setCell ⟨b, 0, none⟩ x').cell? ⟨b, 1, none⟩ = some y ∧ (W.setCell ⟨b, 0, none⟩ x').frozen? ⟨b, 1, none⟩ = false ∧
    ((W.setCell ⟨b, 0, none⟩ x').setCell ⟨b, 1, none⟩ y').cell? ⟨b, 2, none⟩ = some z ∧ ((W.setCell ⟨b, 0, none⟩ x').setCell ⟨b, 1, none⟩ y').frozen? ⟨b, 2, none⟩ = false ∧
    (((W.setCell ⟨b, 0, none⟩ x').setCell ⟨b, 1, none⟩ y').setCell ⟨b, 2, none⟩ z').cell? ⟨b, 3, none⟩ = some v ∧ (((W.setCell ⟨b, 0, none⟩ x').setCell ⟨b, 1, none⟩ y').setCell ⟨b, 2, none⟩ z').frozen? ⟨b, 3, none⟩ = false :=
  ⟨h.c0, h.f 0, (h.set0 x').c1, (h.set0 x').f 1, ((h.set0 x').set1 y').c2, ((h.set0 x').set1 y').f 2, (((h.set0 x').set1 y').set2 z').c3, (((h.set0 x').set1 y').set2 z').f 3⟩
end

section
theorem Lv.fresh {w w1 : World} (h : Le w w1) {B : Option Addr} {m c : Nat} {xs : List Cls} (hT : Sl w B m c xs) (T : TypeId) :
    Lv w (w1.alloc (.cells #[.slice B m c, .slice none 0 0, .slice none 0 0, .int .i64 (-1)] T)) w1.heap.size B m c xs (.slice none 0 0) (.slice none 0 0) [] [] (-1) := by
  have LA := Le.new w1 (.cells #[.slice B m c, .slice none 0 0, .slice none 0 0, .int .i64 (-1)] T)
  refine ⟨by simp, ?_, ?_, ?_, ?_, ?_, ?_, ?_, hT.le (h.trans LA), fun hm a e => ?_, World.ownsRow_nil _ _ _ _, World.ownsRow_nil _ _ _ _, (fun k e => by simp [Value.ownBlock] at e), (fun _ h => nomatch h), (fun _ h => nomatch h), by simp [Value.ownBlock], by simp [Value.ownBlock], h.size, h.trans LA⟩
  · rw [World.cell?_alloc_at _ _ _ _ rfl]; rfl
  · rw [World.cell?_alloc_at _ _ _ _ rfl]; rfl
  · rw [World.cell?_alloc_at _ _ _ _ rfl]; rfl
  · rw [World.cell?_alloc_at _ _ _ _ rfl]; rfl
  · simp [go_sem]
  · simp [go_sem]
  · simp [go_sem]
  · obtain ⟨b, off, e2, hb, _⟩ := hT.at_ hm
    rw [e] at e2
    injection e2 with e2
    rw [e2]
    exact Nat.lt_of_lt_of_le hb h.size
/-- what a leaver begins with -/
def stS (has : Bool) (cl k : Int) : LvS := if has = true then ([], [⟨cl, k, -1, -1, false⟩], 0) else ([], [], -1)
theorem stS_ok (has : Bool) (cl k : Int) : LvOk 10 (stS has cl k) := by
  cases has
  · exact ⟨by show 0 ≤ 10; omega, by show 0 ≤ 10; omega, by show (-1 : Int) ≤ -1; omega, by show (-1 : Int) < 0; omega⟩
  · exact ⟨by show 0 ≤ 10; omega, by show 1 ≤ 10; omega, by show (-1 : Int) ≤ 0; omega, by show (0 : Int) < 1; omega⟩
set_option maxHeartbeats 2000000 in
set_option maxRecDepth 100000 in
theorem closeExits_any (B : Option Addr) (m c : Nat) (xs : List Cls) (A : Option Addr) (n cap : Nat) (L : List Xit) (has : Bool) (cl k : Int) (hcl : Enc.ok cl) (hk : Enc.ok k) (hn : n ≤ 100000) (w : World) (hT : Sl w B m c xs) (hL : Sl w A n cap L) :
    Calls Try.prog 34 #[.agg #[.slice B m c], .slice A n cap, .agg #[.bool has, .int .i64 cl, .int .i64 k]] w fun e w' => ∃ R lv hv, e = .returned (.pointer (some ⟨R, 0, none⟩)) ∧
      Lv w w' R B m c xs lv hv (clX xs L (stS has cl k)).1 (clX xs L (stS has cl k)).2.1 (clX xs L (stS has cl k)).2.2 := by
  have hnl := hL.len
  have hokL := Lib.hid hL.ok
  have L1 := (Le.new w (.cells #[.slice B m c] 39)).trans (Le.new _ (.cells #[.bool has, .int .i64 cl, .int .i64 k] 43))
  have LV := Lv.fresh L1 hT 75
  have hR : ((w.alloc (.cells #[.slice B m c] 39)).alloc (.cells #[.bool has, .int .i64 cl, .int .i64 k] 43)).heap.size = w.heap.size + 1 + 1 := by simp
  rw [hR] at LV
  clear hR L1
  have hL3 := hL.le LV.G
  have hSo := Lib.hid (stS_ok has cl k)
  cases has
  · have HS : Hid (stS false cl k = ([], [], -1)) := rfl
    go_enter Try.func34, Try.ntmps34
    go_wp2_with fail
    generalize ((w.alloc (.cells #[.slice B m c] 39)).alloc (.cells #[.bool false, .int .i64 cl, .int .i64 k] 43)).alloc (.cells #[.slice B m c, .slice none 0 0, .slice none 0 0, .int .i64 (-1)] 75) = W at *
    refine (stepsOf_any A n cap L (by omega) _ hL3).mono ?_
    rintro e w4 ⟨A4, rfl, S4, L4⟩
    have LV4 := LV.le L4
    go_wp2_with fail
    refine (do_any w _ m c B xs _ _ (stS false cl k) L hokL.out (by omega) hSo.out w4 (by rw [HS.out]; exact LV4) A4 n n S4).mono ?_
    rintro e w5 ⟨rfl, lv5, hv5, LV5⟩
    go_wp2
    go_ret
    exact ⟨_, lv5, hv5, rfl, LV5⟩
  · have HS : Hid (stS true cl k = ([], [⟨cl, k, -1, -1, false⟩], 0)) := rfl
    go_enter Try.func34, Try.ntmps34
    go_wp2_with fail
    generalize ((w.alloc (.cells #[.slice B m c] 39)).alloc (.cells #[.bool true, .int .i64 cl, .int .i64 k] 43)).alloc (.cells #[.slice B m c, .slice none 0 0, .slice none 0 0, .int .i64 (-1)] 75) = W at *
    refine (putFault_any w _ m c B xs _ _ [] [] (-1) cl k ⟨hcl.1, hcl.2, hk.1, hk.2, by show (-9223372036854775808 : Int) ≤ -1; omega, by show (-1 : Int) ≤ 9223372036854775807; omega, by show (-9223372036854775808 : Int) ≤ -1; omega, by show (-1 : Int) ≤ 9223372036854775807; omega⟩ (Nat.zero_le _) _ LV).1.mono ?_
    rintro e w3 ⟨rfl, lv3, hv3, LV3⟩
    have hL4 := hL.le LV3.G
    go_wp2_with fail
    refine (stepsOf_any A n cap L (by omega) _ hL4).mono ?_
    rintro e w4 ⟨A4, rfl, S4, L4⟩
    have LV4 := LV3.le L4
    go_wp2_with fail
    refine (do_any w _ m c B xs _ _ (stS true cl k) L hokL.out (by omega) hSo.out w4 (by rw [HS.out]; exact LV4) A4 n n S4).mono ?_
    rintro e w5 ⟨rfl, lv5, hv5, LV5⟩
    go_wp2
    go_ret
    exact ⟨_, lv5, hv5, rfl, LV5⟩
end

section
theorem one_new (w : World) (a : Value) (t : TypeId) : ∀ j u, [a][j]? = some u → (w.alloc (.cells #[a] t)).cell? ((⟨w.heap.size, 0, none⟩ : Addr).add j) = some u := by
  intro j u hu
  cases j with
  | zero =>
    simp at hu; subst hu
    show (w.alloc (.cells #[a] t)).cell? ⟨w.heap.size, 0, none⟩ = some a
    rw [World.cell?_alloc_at _ _ _ _ rfl]; rfl
  | succ j => simp at hu
def OwnInts (L : List Int) (w : World) (e : Ending) (w' : World) : Prop := ∃ v, e = .returned v ∧ w'.ownsRow w.heap.size 3 1 v L.length (L.flatMap Enc.cells) ∧ (∀ x ∈ L, Enc.ok x) ∧ Le w w'
def aboveX (xs : List Cls) (a : Int) : List Int := cond (okTree xs && hasK xs a) (aboveL xs a) []
theorem aboveX_of {xs : List Cls} {a : Int} {b : Bool} (h : (okTree xs && hasK xs a) = b) : aboveX xs a = cond b (aboveL xs a) [] := by unfold aboveX; rw [h]
theorem own_nil (w w' : World) (h : Le w w') : OwnInts [] w (.returned (.slice none 0 0)) w' := ⟨_, rfl, World.ownsRow_nil _ _ _ _, (fun _ h => nomatch h), h⟩
theorem above_ok {xs : List Cls} (g : Good xs) {a : Int} (ha : a < xs.length) : ∀ x ∈ aboveL xs a, Enc.ok x := by
  intro x hx
  have := aboveL_mem g _ a rfl ha x hx
  have := g.hi
  exact ⟨by omega, by omega⟩
end

section
/-- the numbers below a bound for which something holds -/
def escK (f : Nat → Bool) : Nat → List Int
  | 0 => []
  | k + 1 => escK f k ++ (if f k = true then [(k : Int)] else [])
theorem escK_len (f : Nat → Bool) : ∀ k, (escK f k).length ≤ k
  | 0 => Nat.le_refl _
  | k + 1 => by
    have := escK_len f k
    unfold escK
    split <;> simp <;> omega
theorem escK_ok (f : Nat → Bool) : ∀ k, k ≤ 8 → ∀ x ∈ escK f k, Enc.ok x
  | 0, _, x, h => nomatch h
  | k + 1, hk, x, h => by
    unfold escK at h
    rcases List.mem_append.1 h with h | h
    · exact escK_ok f k (by omega) x h
    · split at h
      · simp at h; subst h; exact ⟨by omega, by omega⟩
      · cases h
theorem escK_congr {f g : Nat → Bool} : ∀ {k}, (∀ j, j < k → f j = g j) → escK f k = escK g k
  | 0, _ => rfl
  | k + 1, h => by
    unfold escK
    rw [escK_congr (fun j hj => h j (by omega)), h k (Nat.lt_succ_self k)]
/-- the fault that is left of a fault of a class at first -/
def faX (xs : List Cls) (L : List Xit) (has : Bool) (a : Int) : Int := (clX xs L (stS has a 0)).2.2
def escI (xs : List Cls) (L : List Xit) : List Int := cond (vxs xs L) (escK (fun k => faX xs L true (k : Int) == 0) xs.length) []
theorem escI_of {xs : List Cls} {L : List Xit} {b : Bool} (h : vxs xs L = b) : escI xs L = cond b (escK (fun k => faX xs L true (k : Int) == 0) xs.length) [] := by unfold escI; rw [h]
set_option maxHeartbeats 2000000 in
set_option maxRecDepth 100000 in
theorem iEscapesOf_any (B : Option Addr) (m c : Nat) (xs : List Cls) (A : Option Addr) (n cap : Nat) (L : List Xit) (w : World) (hT : Sl w B m c xs) (hL : Sl w A n cap L) :
    Calls Try.prog 21 #[.agg #[.slice B m c], .slice A n cap] w (OwnInts (escI xs L) w) := by
  obtain ⟨i0, hi, hz0, hz1, hz2⟩ := info_parts intInfo
  have hl := Le.new w (.cells #[.slice B m c] 39)
  have c0 : (w.alloc (.cells #[.slice B m c] 39)).cell? ⟨w.heap.size, 0, none⟩ = some (.slice B m c) := by rw [World.cell?_alloc_at _ _ _ _ rfl]; rfl
  have hz : w.heap.size < (w.alloc (.cells #[.slice B m c] 39)).heap.size := by simp
  have hS := hT.le hl
  have hSL := hL.le hl
  cases h1 : vxs xs L
  · have HF := Lib.hid (escI_of h1)
    go_enter Try.func21, Try.ntmps21
    go_wp2_with fail
    generalize w.alloc (.cells #[.slice B m c] 39) = W at *
    refine (iValidExits_any B A m c n cap xs L _ hS hSL).mono ?_
    rintro e w2 ⟨rfl, hle⟩
    rw [h1]
    clear h1
    have HO : Hid (OwnInts (escI xs L) w (.returned (.slice none 0 0)) w2) := by
      show OwnInts _ _ _ _
      rw [HF.out]; exact own_nil w w2 (hl.trans hle)
    go_wp2
    go_ret
    exact HO.out
  · have hab := vxs_iff.1 h1
    have g := good_of hab.1
    have hLl := hab.2.1
    clear hab
    have hhi := g.hi
    obtain rfl := hT.len
    have hnl := hL.len
    have HF := Lib.hid (escI_of h1)
    go_enter Try.func21, Try.ntmps21
    go_wp2_with fail
    generalize w.alloc (.cells #[.slice B xs.length c] 39) = W at *
    refine (iValidExits_any B A xs.length c n cap xs L _ hS hSL).mono ?_
    rintro e w2 ⟨rfl, hle⟩
    rw [h1]
    clear h1
    have c2 := (hle.cell hz).trans c0
    have hz2' := Nat.lt_of_lt_of_le hz hle.size
    have hl2 := hl.trans hle
    clear c0 hz hle hl hS hSL
    go_wp2
    generalize HFN : (fun k : Nat => faX xs L true (k : Int) == 0) = F at *
    go_loopw [5, 14] (fun v q wr => ∃ k : Nat, k ≤ xs.length ∧ q = .int .i64 k ∧ wr.ownsRow w2.heap.size 3 1 v (escK F k).length ((escK F k).flatMap Enc.cells) ∧ Le w2 wr) (fun _ q _ => xs.length - (intOf q).toNat)
    case atStart => exact ⟨0, Nat.zero_le _, rfl, World.ownsRow_nil _ _ _ _, Le.refl w2⟩
    case round =>
      obtain ⟨k, hk, rfl, hown, hle⟩ := hrel
      have cr := (hle.cell hz2').trans c2
      have hRr := hT.le (hl2.trans hle)
      have hLr := hL.le (hl2.trans hle)
      have hzr := Nat.lt_of_lt_of_le hz2' hle.size
      by_cases hlt : k < xs.length
      · have hbl := escK_len F k
        go_wp2_with fail
        refine (closeExits_any B xs.length c xs A n cap L true (k : Int) 0 ⟨by omega, by omega⟩ ⟨by omega, by omega⟩ (by omega) _ hRr hLr).mono ?_
        rintro e w3 ⟨R, lv, hv, rfl, LV⟩
        have k3 := LV.c3
        have hown3 := own_le hown LV.G
        have hle' := hle.trans LV.G
        have HFK : Hid (F k = ((clX xs L (stS true (k : Int) 0)).2.2 == 0)) := by show _ = _; rw [← HFN]; rfl
        generalize (clX xs L (stS true (k : Int) 0)).2.2 = fa at *
        clear hown hle LV HFN
        by_cases hi1 : fa = 0
        · subst hi1
          have HB : Hid (escK F (k + 1) = escK F k ++ [(k : Int)]) := by show _ = _; rw [escK, HFK.out]; simp
          have hc3 : (escK F k).length + 1 ≤ maxLen := by unfold maxLen; omega
          have hc4 : ((escK F k).length + 1) * 8 ≤ 140737488355328 := by omega
          have hsz3 := hle'.size
          go_wp2_with (at_builtin; refine wpList_append_own _ rfl _ _ 30 rfl w2.heap.size 3 i0 (.int .i64 0) 1 8 Try.underlying30 hi hz0 hz1 hz2 rfl (by decide) _ _ _ rfl (hown3.alloc _) ⟨w3.heap.size, 0, none⟩ 1 1 [.int .i64 k] rfl rfl ?c1 ?c2 hc3 hc4 ?c5 ?_)
          case c1 => exact one_new _ _ _
          case c2 => intro u hu; simp at hu; subst hu; rfl
          case c5 => simp; omega
          intro v1 w1 hown1 hg1 _
          have hle1 := (hle'.alloc (.cells #[.int .i64 (k : Int)] 3)).grown hg1 (fun k hk => (hown3.lt k hk).1)
          go_wp2
          go_roundw
          case rel =>
            refine ⟨k + 1, by omega, by go_num, ?_, hle1⟩
            rw [HB.out, List.length_append, List.flatMap_append]
            exact hown1
          case measure => simp [intOf]; omega
        · have hb : (fa == 0) = false := by simp; omega
          have HB : Hid (escK F (k + 1) = escK F k) := by show _ = _; rw [escK, HFK.out, hb]; simp
          go_wp2
          go_roundw
          case rel => exact ⟨k + 1, by omega, by go_num, by rw [HB.out]; exact hown3, hle'⟩
          case measure => simp [intOf]; omega
      · have he : k = xs.length := by omega
        have HO : Hid (OwnInts (escI xs L) w (.returned u5) wr) := by
          show OwnInts _ _ _ _
          rw [HF.out, ← he]
          exact ⟨_, rfl, own_mono hown (by have := hl2.size; omega), escK_ok F k (by omega), hl2.trans hle⟩
        clear hown
        go_wp2
        go_ret
        exact HO.out
end
end Go.Proofs.Ytacilbglnhgifaa
