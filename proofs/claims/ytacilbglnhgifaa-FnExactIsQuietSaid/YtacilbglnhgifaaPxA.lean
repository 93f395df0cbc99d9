/- exits: valid ones: of both -/
import Derived.Test.YtacilbglnhgifaaTyExit
import Derived.Test.YtacilbglnhgifaaKB
import Derived.Test.YtacilbglnhgifaaHpB
import Derived.Test.YtacilbglnhgifaaI
import Derived.Test.YtacilbglnhgifaaB
import Derived.Test.YtacilbglnhgifaaD
namespace Go.Proofs.Ytacilbglnhgifaa
open Go.RowKit
def xOk (xs : List Cls) (x : Xit) : Bool :=
  if x.kind = 0 ∨ x.kind = 1 then rng 0 99 x.a && (x.b == 0) else if x.kind = 2 then hasK xs x.a && (x.b == 0) else if x.kind = 3 then hasK xs x.a && rng 0 99 x.b else false
def vxs (xs : List Cls) (L : List Xit) : Bool := okTree xs && decide (L.length ≤ 8) && L.all (xOk xs)
theorem vxs_iff {xs : List Cls} {L : List Xit} : vxs xs L = true ↔ okTree xs = true ∧ L.length ≤ 8 ∧ ∀ x ∈ L, xOk xs x = true := by
  unfold vxs
  rw [Bool.and_eq_true, Bool.and_eq_true, decide_eq_true_eq, List.all_eq_true]
  exact ⟨fun h => ⟨h.1.1, h.1.2, h.2⟩, fun h => ⟨⟨h.1, h.2.1⟩, h.2.2⟩⟩
theorem vxs_at {xs : List Cls} {L : List Xit} {k : Nat} (h : k < L.length) : (L.drop k).all (xOk xs) = (xOk xs L[k] && (L.drop (k + 1)).all (xOk xs)) := by rw [List.drop_eq_getElem_cons h]; rfl
theorem xOk_01 {xs : List Cls} {x : Xit} (h : x.kind = 0 ∨ x.kind = 1) : xOk xs x = (rng 0 99 x.a && (x.b == 0)) := if_pos h
theorem xOk_2 {xs : List Cls} {x : Xit} (h : x.kind = 2) : xOk xs x = (hasK xs x.a && (x.b == 0)) := by unfold xOk; rw [if_neg (by omega), if_pos h]
theorem xOk_3 {xs : List Cls} {x : Xit} (h : x.kind = 3) : xOk xs x = (hasK xs x.a && rng 0 99 x.b) := by unfold xOk; rw [if_neg (by omega), if_neg (by omega), if_pos h]
theorem xOk_no {xs : List Cls} {x : Xit} (h : ¬ x.kind = 0) (h1 : ¬ x.kind = 1) (h2 : ¬ x.kind = 2) (h3 : ¬ x.kind = 3) : xOk xs x = false := by unfold xOk; rw [if_neg (by omega), if_neg h2, if_neg h3]
/-- a box of a tree and a box of an exit -/
theorem boxTX (w : World) (t k a b : Value) (T U : TypeId) : ((w.alloc (.cells #[t] T)).alloc (.cells #[k, a, b] U)).cell? ⟨w.heap.size, 0, none⟩ = some t ∧ w.heap.size < ((w.alloc (.cells #[t] T)).alloc (.cells #[k, a, b] U)).heap.size ∧
    ((w.alloc (.cells #[t] T)).alloc (.cells #[k, a, b] U)).cell? ⟨w.heap.size + 1, 0, none⟩ = some k ∧ ((w.alloc (.cells #[t] T)).alloc (.cells #[k, a, b] U)).cell? ⟨w.heap.size + 1, 1, none⟩ = some a ∧ ((w.alloc (.cells #[t] T)).alloc (.cells #[k, a, b] U)).cell? ⟨w.heap.size + 1, 2, none⟩ = some b ∧
    w.heap.size + 1 < ((w.alloc (.cells #[t] T)).alloc (.cells #[k, a, b] U)).heap.size ∧ Le w ((w.alloc (.cells #[t] T)).alloc (.cells #[k, a, b] U)) := by
  refine ⟨?_, by simp; omega, ?_, ?_, ?_, by simp, (Le.new w _).alloc _⟩
  · rw [World.cell?_alloc_past _ _ _ (by simp), World.cell?_alloc_at _ _ _ _ rfl]; rfl
  all_goals (rw [World.cell?_alloc_at _ _ _ _ (by simp)]; rfl)
theorem boxT (w : World) (k a b : Value) (U : TypeId) : (w.alloc (.cells #[k, a, b] U)).cell? ⟨w.heap.size, 0, none⟩ = some k ∧ (w.alloc (.cells #[k, a, b] U)).cell? ⟨w.heap.size, 1, none⟩ = some a ∧ (w.alloc (.cells #[k, a, b] U)).cell? ⟨w.heap.size, 2, none⟩ = some b ∧
    w.heap.size < (w.alloc (.cells #[k, a, b] U)).heap.size ∧ Le w (w.alloc (.cells #[k, a, b] U)) := by
  refine ⟨?_, ?_, ?_, by simp, Le.new w _⟩ <;> (rw [World.cell?_alloc_at _ _ _ _ rfl]; rfl)
theorem rngI_any (a b c : Int) (w : World) : Calls Try.prog 53 #[.int .i64 a, .int .i64 b, .int .i64 c] w fun e w' => e = .returned (.bool (rng b c a)) ∧ w = w' := by
  unfold rng
  go_enter Try.func53, Try.ntmps53
  go_wp2
  all_goals (go_ret; simp_all)
  all_goals omega
theorem isClassI_any (A : Option Addr) (n cap : Nat) (xs : List Cls) (a : Int) (w : World) (hR : Sl w A n cap xs) :
    Calls Try.prog 52 #[.agg #[.slice A n cap], .int .i64 a] w fun e w' => e = .returned (.bool (hasK xs a)) ∧ Le w w' := by
  obtain rfl := hR.len
  have hm := hR.n_le
  have hw : IntKind.i64.wrap ((xs.length : Int) - 1) = (xs.length : Int) - 1 := IntWalk.i64_in _ (by omega)
  go_enter Try.func52, Try.ntmps52
  go_wp2_with (go_at_call 53; refine (rngI_any _ _ _ _).mono ?_; rintro e w' ⟨rfl, rfl⟩)
  go_ret
  exact ⟨rfl, Le.new w _⟩
set_option maxHeartbeats 1000000 in
set_option maxRecDepth 100000 in
theorem svalidExit_any (B : Option Addr) (m c : Nat) (xs : List Cls) (x : Xit) (w : World) (hT : Sl w B m c xs) :
    Calls Try.prog 63 #[.agg #[.slice B m c], .agg #[.int .i64 x.kind, .int .i64 x.a, .int .i64 x.b]] w fun e w' => e = .returned (.bool (xOk xs x)) ∧ Le w w' := by
  have X01 := Lib.hid (fun h => xOk_01 (xs := xs) (x := x) h)
  have X2 := Lib.hid (fun h => xOk_2 (xs := xs) (x := x) h)
  have X3 := Lib.hid (fun h => xOk_3 (xs := xs) (x := x) h)
  have X4 := Lib.hid (fun a b c d => xOk_no (xs := xs) (x := x) a b c d)
  generalize xOk xs x = Z at *
  generalize x.kind = vk at *
  generalize x.a = va at *
  generalize x.b = vb at *
  obtain ⟨ct, zt, x0, x1, x2, zx, L0⟩ := boxTX w (.slice B m c) (.int .i64 vk) (.int .i64 va) (.int .i64 vb) 39 61
  have T1 := hT.le L0
  clear hT
  by_cases h01 : vk = 0 ∨ vk = 1
  · have HZ := Lib.hid (X01.out h01)
    clear X01 X2 X3 X4
    rcases h01 with rfl | rfl
    all_goals
      go_enter Try.func63, Try.ntmps63
      go_wp2_with fail
      generalize (w.alloc (.cells #[.slice B m c] 39)).alloc _ = W at *
      refine (rng_any va 0 99 W).mono ?_
      rintro e w1 ⟨rfl, rfl⟩
      cases hr : rng 0 99 va
      all_goals
        rw [hr] at HZ
        go_wp2
        go_ret
        exact ⟨ret_bool (by rw [HZ.out]; simp), L0⟩
  · by_cases h2 : vk = 2
    · have HZ := Lib.hid (X2.out h2)
      clear X01 X2 X3 X4
      subst h2
      go_enter Try.func63, Try.ntmps63
      go_wp2_with fail
      generalize (w.alloc (.cells #[.slice B m c] 39)).alloc _ = W at *
      refine (hasClass_any B m c xs va W T1).mono ?_
      rintro e w1 ⟨rfl, hle⟩
      replace x2 := (hle.cell zx).trans x2
      cases hr : hasK xs va
      all_goals
        rw [hr] at HZ
        go_wp2
        go_ret
        exact ⟨ret_bool (by rw [HZ.out]; simp), L0.trans hle⟩
    · by_cases h3 : vk = 3
      · have HZ := Lib.hid (X3.out h3)
        clear X01 X2 X3 X4
        subst h3
        go_enter Try.func63, Try.ntmps63
        go_wp2_with fail
        generalize (w.alloc (.cells #[.slice B m c] 39)).alloc _ = W at *
        refine (hasClass_any B m c xs va W T1).mono ?_
        rintro e w1 ⟨rfl, hle⟩
        replace x2 := (hle.cell zx).trans x2
        cases hr : hasK xs va
        · rw [hr] at HZ
          go_wp2
          go_ret
          exact ⟨ret_bool (by rw [HZ.out]; simp), L0.trans hle⟩
        · rw [hr] at HZ
          go_wp2_with fail
          refine (rng_any vb 0 99 w1).mono ?_
          rintro e w2 ⟨rfl, rfl⟩
          go_wp2
          go_ret
          exact ⟨ret_bool (by rw [HZ.out]; simp), L0.trans hle⟩
      · have e0 : (vk == 0) = false := by simp; omega
        have e1 : (vk == 1) = false := by simp; omega
        have e2 : (vk == 2) = false := by simp; omega
        have e3 : (vk == 3) = false := by simp; omega
        have HZ := Lib.hid (X4.out (by omega) (by omega) h2 h3)
        clear X01 X2 X3 X4 h2 h3 h01
        go_enter Try.func63, Try.ntmps63
        go_wp2
        go_ret
        exact ⟨ret_bool (by rw [HZ.out]), L0⟩
set_option maxHeartbeats 1000000 in
set_option maxRecDepth 100000 in
theorem ivalidExit_any (B : Option Addr) (m c : Nat) (xs : List Cls) (x : Xit) (w : World) (hT : Sl w B m c xs) :
    Calls Try.prog 51 #[.agg #[.slice B m c], .agg #[.int .i64 x.kind, .int .i64 x.a, .int .i64 x.b]] w fun e w' => e = .returned (.bool (xOk xs x)) ∧ Le w w' := by
  have X01 := Lib.hid (fun h => xOk_01 (xs := xs) (x := x) h)
  have X2 := Lib.hid (fun h => xOk_2 (xs := xs) (x := x) h)
  have X3 := Lib.hid (fun h => xOk_3 (xs := xs) (x := x) h)
  have X4 := Lib.hid (fun a b c d => xOk_no (xs := xs) (x := x) a b c d)
  generalize xOk xs x = Z at *
  generalize x.kind = vk at *
  generalize x.a = va at *
  generalize x.b = vb at *
  obtain ⟨ct, zt, x0, x1, x2, zx, L0⟩ := boxTX w (.slice B m c) (.int .i64 vk) (.int .i64 va) (.int .i64 vb) 39 61
  have T1 := hT.le L0
  clear hT
  by_cases h01 : vk = 0 ∨ vk = 1
  · have HZ := Lib.hid (X01.out h01)
    clear X01 X2 X3 X4
    rcases h01 with rfl | rfl
    all_goals
      go_enter Try.func51, Try.ntmps51
      go_wp2_with fail
      generalize (w.alloc (.cells #[.slice B m c] 39)).alloc _ = W at *
      refine (rngI_any va 0 99 W).mono ?_
      rintro e w1 ⟨rfl, rfl⟩
      cases hr : rng 0 99 va
      all_goals
        rw [hr] at HZ
        go_wp2
        go_ret
        exact ⟨ret_bool (by rw [HZ.out]; simp), L0⟩
  · by_cases h2 : vk = 2
    · have HZ := Lib.hid (X2.out h2)
      clear X01 X2 X3 X4
      subst h2
      go_enter Try.func51, Try.ntmps51
      go_wp2_with fail
      generalize (w.alloc (.cells #[.slice B m c] 39)).alloc _ = W at *
      refine (isClassI_any B m c xs va W T1).mono ?_
      rintro e w1 ⟨rfl, hle⟩
      replace x2 := (hle.cell zx).trans x2
      cases hr : hasK xs va
      all_goals
        rw [hr] at HZ
        go_wp2
        go_ret
        exact ⟨ret_bool (by rw [HZ.out]; simp), L0.trans hle⟩
    · by_cases h3 : vk = 3
      · have HZ := Lib.hid (X3.out h3)
        clear X01 X2 X3 X4
        subst h3
        go_enter Try.func51, Try.ntmps51
        go_wp2_with fail
        generalize (w.alloc (.cells #[.slice B m c] 39)).alloc _ = W at *
        refine (isClassI_any B m c xs va W T1).mono ?_
        rintro e w1 ⟨rfl, hle⟩
        replace x2 := (hle.cell zx).trans x2
        cases hr : hasK xs va
        · rw [hr] at HZ
          go_wp2
          go_ret
          exact ⟨ret_bool (by rw [HZ.out]; simp), L0.trans hle⟩
        · rw [hr] at HZ
          go_wp2_with fail
          refine (rngI_any vb 0 99 w1).mono ?_
          rintro e w2 ⟨rfl, rfl⟩
          go_wp2
          go_ret
          exact ⟨ret_bool (by rw [HZ.out]; simp), L0.trans hle⟩
      · have e0 : (vk == 0) = false := by simp; omega
        have e1 : (vk == 1) = false := by simp; omega
        have e2 : (vk == 2) = false := by simp; omega
        have e3 : (vk == 3) = false := by simp; omega
        have HZ := Lib.hid (X4.out (by omega) (by omega) h2 h3)
        clear X01 X2 X3 X4 h2 h3 h01
        go_enter Try.func51, Try.ntmps51
        go_wp2
        go_ret
        exact ⟨ret_bool (by rw [HZ.out]), L0⟩
set_option maxHeartbeats 1000000 in
set_option maxRecDepth 100000 in
theorem iValidExits_any (B A : Option Addr) (m c n cap : Nat) (xs : List Cls) (L : List Xit) (w : World) (hT : Sl w B m c xs) (hR : Sl w A n cap L) :
    Calls Try.prog 32 #[.agg #[.slice B m c], .slice A n cap] w fun e w' => e = .returned (.bool (vxs xs L)) ∧ Le w w' := by
  obtain rfl := hR.len
  have hmx := hR.n_le
  have HX : Hid (vxs xs L = (okTree xs && decide (L.length ≤ 8) && L.all (xOk xs))) := rfl
  go_enter Try.func32, Try.ntmps32
  go_wp2_with fail
  obtain ⟨ct, zt, hleB⟩ := box1 w (.slice B m c) 39
  have L0 := hleB
  clear hleB
  generalize w.alloc (.cells #[.slice B m c] 39) = W at *
  have S1 := hR.le L0
  have ST := hT.le L0
  clear hR hT
  refine (iValidTree_any B m c xs W ST).mono ?_
  rintro e w1 ⟨rfl, hle⟩
  replace ct := (hle.cell zt).trans ct
  replace zt := Nat.lt_of_lt_of_le zt hle.size
  replace L0 := L0.trans hle
  replace S1 := S1.le hle
  replace ST := ST.le hle
  clear hle
  cases h : okTree xs
  · have HF : Hid (vxs xs L = false) := by show _ = _; rw [HX.out, h]; rfl
    go_wp2
    go_ret
    exact ⟨ret_bool HF.out.symm, L0⟩
  · by_cases h8 : L.length ≤ 8
    · have hb8 : decide ((8 : Int) < (L.length : Int)) = false := by simp; omega
      have HY : Hid (vxs xs L = L.all (xOk xs)) := by show _ = _; rw [HX.out, h, decide_eq_true h8]; rfl
      clear HX
      go_wp2
      go_loopw [17] (fun q wr => ∃ k : Nat, k ≤ L.length ∧ q = .int .i64 k ∧ L.all (xOk xs) = (L.drop k).all (xOk xs) ∧ Le w1 wr) (fun q _ => L.length - (intOf q).toNat)
      case atStart => exact ⟨0, Nat.zero_le _, rfl, rfl, Le.refl _⟩
      case round =>
        obtain ⟨k, hk, rfl, he, hle0⟩ := hrel
        have HE := Lib.hid he; clear he
        replace ct := (hle0.cell zt).trans ct
        replace zt := Nat.lt_of_lt_of_le zt hle0.size
        replace L0 := L0.trans hle0
        replace S1 := S1.le hle0
        replace ST := ST.le hle0
        by_cases hlt : k < L.length
        · obtain ⟨b, off, rfl, hb, d0, d1, d2, -⟩ := S1.xit_at hlt
          have HA := Lib.hid (vxs_at (xs := xs) hlt)
          generalize HXK : L[k] = x at *
          clear HXK
          go_wp2_with fail
          obtain ⟨y0, y1, y2, zy, hlb⟩ := boxT wr (.int .i64 x.kind) (.int .i64 x.a) (.int .i64 x.b) 61
          replace ct := (hlb.cell zt).trans ct
          replace zt := Nat.lt_of_lt_of_le zt hlb.size
          replace L0 := L0.trans hlb
          replace S1 := S1.le hlb
          replace ST := ST.le hlb
          have hlb0 := hlb
          clear hlb
          generalize wr.alloc _ = W2 at *
          refine (ivalidExit_any B m c xs x W2 ST).mono ?_
          rintro e w3 ⟨rfl, hle3⟩
          have L3 := L0.trans hle3
          cases hx : xOk xs x
          · have HF : Hid (vxs xs L = false) := by show _ = _; rw [HY.out, HE.out, HA.out, hx]; rfl
            go_wp2
            go_ret
            exact ⟨ret_bool HF.out.symm, L3⟩
          · have HF : Hid (L.all (xOk xs) = (L.drop (k + 1)).all (xOk xs)) := by show _ = _; rw [HE.out, HA.out, hx, Bool.true_and]
            have L4 := (hle0.trans hlb0).trans hle3
            go_wp2
            go_roundw
            case rel => exact ⟨k + 1, by omega, by go_num, HF.out, L4⟩
            case measure => simp [intOf]; omega
        · have HF : Hid (vxs xs L = true) := by show _ = _; rw [HY.out, HE.out, List.drop_eq_nil_of_le (by omega)]; rfl
          go_wp2
          go_ret
          exact ⟨ret_bool HF.out.symm, L0⟩
    · have hb8 : decide ((8 : Int) < (L.length : Int)) = true := by simp; omega
      have HF : Hid (vxs xs L = false) := by show _ = _; rw [HX.out, decide_eq_false h8]; simp
      go_wp2
      go_ret
      exact ⟨ret_bool HF.out.symm, L0⟩
set_option maxHeartbeats 1000000 in
set_option maxRecDepth 100000 in
theorem svalidExits_any (B A : Option Addr) (m c n cap : Nat) (xs : List Cls) (L : List Xit) (w : World) (hT : Sl w B m c xs) (hR : Sl w A n cap L) :
    Calls Try.prog 42 #[.agg #[.slice B m c], .slice A n cap] w fun e w' => e = .returned (.bool (vxs xs L)) ∧ Le w w' := by
  obtain rfl := hR.len
  have hmx := hR.n_le
  have HX : Hid (vxs xs L = (okTree xs && decide (L.length ≤ 8) && L.all (xOk xs))) := rfl
  go_enter Try.func42, Try.ntmps42
  go_wp2_with fail
  obtain ⟨ct, zt, hleB⟩ := box1 w (.slice B m c) 39
  have L0 := hleB
  clear hleB
  generalize w.alloc (.cells #[.slice B m c] 39) = W at *
  have S1 := hR.le L0
  have ST := hT.le L0
  clear hR hT
  go_loopw [5] (fun q wr => ∃ k : Nat, k ≤ L.length ∧ q = .int .i64 k ∧ L.all (xOk xs) = (L.drop k).all (xOk xs) ∧ Le W wr) (fun q _ => L.length - (intOf q).toNat)
  case atStart => exact ⟨0, Nat.zero_le _, rfl, rfl, Le.refl _⟩
  case round =>
    obtain ⟨k, hk, rfl, he, hle0⟩ := hrel
    have HE := Lib.hid he; clear he
    replace ct := (hle0.cell zt).trans ct
    replace zt := Nat.lt_of_lt_of_le zt hle0.size
    replace L0 := L0.trans hle0
    replace S1 := S1.le hle0
    replace ST := ST.le hle0
    by_cases hlt : k < L.length
    · obtain ⟨b, off, rfl, hb, d0, d1, d2, -⟩ := S1.xit_at hlt
      have HA := Lib.hid (vxs_at (xs := xs) hlt)
      generalize HXK : L[k] = x at *
      clear HXK
      have E0 := cell_ext zt ct
      have E1 := cell_ext hb d0
      have E2 := cell_ext hb d1
      have E3 := cell_ext hb d2
      have HNO : Hid (xOk xs x = false → vxs xs L = false) := fun hx => by rw [HX.out, HE.out, HA.out, hx]; simp
      have HYES : Hid (xOk xs x = true → L.all (xOk xs) = (L.drop (k + 1)).all (xOk xs)) := fun hx => by rw [HE.out, HA.out, hx, Bool.true_and]
      go_wp2_with fail
      refine wp_region_ext (by kernel_rfl) (by kernel_rfl) ?_
      repeat (go_big_quiet_step (first | (go_at_call 63; exact Calls.ext_of (svalidExit_any B m c xs x _ (ST.ext _)))))
      refine wpQuiet_nil ?_
      intro _ hw'
      obtain ⟨g, rfl⟩ := hw'
      have hw1 := Le.ext wr g
      have L3 := L0.trans hw1
      have L4 := hle0.trans hw1
      clear E0 E1 E2 E3
      generalize wr.ext g = W2 at *
      cases hx : xOk xs x
      · have HF := Lib.hid (HNO.out hx)
        go_wp2
        go_ret
        exact ⟨ret_bool HF.out.symm, L3⟩
      · have HF := Lib.hid (HYES.out hx)
        go_wp2
        go_roundw
        case rel => exact ⟨k + 1, by omega, by go_num, HF.out, L4⟩
        case measure => simp [intOf]; omega
    · have HY : Hid (L.all (xOk xs) = true) := by show _ = _; rw [HE.out, List.drop_eq_nil_of_le (by omega)]; rfl
      clear HE
      go_wp2_with fail
      refine (validTree_any B m c xs wr ST).mono ?_
      rintro e w2 ⟨rfl, hl2⟩
      cases ht : okTree xs
      · have HF : Hid (vxs xs L = false) := by show _ = _; rw [HX.out, ht]; rfl
        go_wp2
        go_ret
        exact ⟨ret_bool HF.out.symm, L0.trans hl2⟩
      · have HF : Hid (vxs xs L = decide ((L.length : Int) ≤ 8)) := by show _ = _; rw [HX.out, ht, HY.out, Bool.true_and, Bool.and_true]; exact decide_eq_decide.2 (by omega)
        go_wp2
        go_ret
        exact ⟨ret_bool HF.out.symm, L0.trans hl2⟩
end Go.Proofs.Ytacilbglnhgifaa
