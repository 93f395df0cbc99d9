/- texts of trees of the model: treeText, TreeText -/
import Derived.Test.YtjkadmbcnlelhaaTtA
namespace Go.Proofs.Ytjkadmbcnlelhaa
open Go.RowKit
def nlT : ByteArray := ⟨#[10]⟩
def spT : ByteArray := ⟨#[32]⟩
theorem bl_nl : bl nlT = [10] := rfl
theorem bl_sp : bl spT = [32] := rfl
theorem acc_len {acc : ByteArray} {r : List UInt8} {l : List UInt8} (h : bl acc ++ r = l) (hl : l.length ≤ 112) : acc.size ≤ 112 := by
  have := congrArg List.length h
  rw [List.length_append, bl_len] at this
  omega
theorem step_root {xs : List Cls} (g : Good xs) (h : 0 < xs.length) {acc : ByteArray} (hs : bl acc ++ txB xs (xs.drop 0) = treeB xs) : bl (acc ++ xs[0].name ++ nlT) ++ txB xs (xs.drop (0 + 1)) = treeB xs := by
  rw [← hs, txB_at h, lnB_root g h, bl_app, bl_app, bl_nl]; simp
theorem step_up {xs : List Cls} (g : Good xs) {k : Nat} (h : k < xs.length) (h0 : 0 < k) {acc : ByteArray} (hs : bl acc ++ txB xs (xs.drop k) = treeB xs) : ∃ p : Nat, ∃ hp : p < xs.length, xs[k].parent = (p : Int) ∧ bl (acc ++ xs[k].name ++ spT ++ xs[p].name ++ nlT) ++ txB xs (xs.drop (k + 1)) = treeB xs := by
  obtain ⟨p, hp, e, e2⟩ := lnB_up g h h0
  refine ⟨p, by omega, e, ?_⟩
  rw [← hs, txB_at h, e2, bl_app, bl_app, bl_app, bl_app, bl_nl, bl_sp]; simp
set_option maxHeartbeats 2000000 in
set_option maxRecDepth 100000 in
theorem streeText_any (A : Option Addr) (n cap : Nat) (xs : List Cls) (w : World) (hR : Sl w A n cap xs) (g : Good xs) :
    Calls Try.prog 26 #[.agg #[.slice A n cap]] w fun e w' => e = .returned (.string (tb (treeB xs))) ∧ Le w w' := by
  obtain rfl := hR.len
  have hm := g.hi
  have HTL := Lib.hid (treeB_len g)
  have HG := Lib.hid g
  go_enter Try.func26, Try.ntmps26
  go_wp2_with fail
  obtain ⟨c0, z0, L0⟩ := box1 w (.slice A xs.length cap) 25
  have S := hR.le L0
  generalize w.alloc (.cells #[.slice A xs.length cap] 25) = W at *
  clear g hR
  go_wp2
  go_loopw [3, 4] (fun o i wr => ∃ (acc : ByteArray) (k : Nat), k ≤ xs.length ∧ o = .string acc ∧ i = .int .i64 k ∧ Hid (bl acc ++ txB xs (xs.drop k) = treeB xs) ∧ Le W wr) (fun _ i _ => xs.length - (intOf i).toNat)
  case atStart => exact ⟨_, 0, Nat.zero_le _, rfl, rfl, rfl, Le.refl _⟩
  case round =>
    obtain ⟨acc, k, hk, rfl, rfl, HSP, hle⟩ := hrel
    have HW := Lib.hid hle
    replace c0 := (hle.cell z0).trans c0
    replace z0 := Nat.lt_of_lt_of_le z0 hle.size
    replace L0 := L0.trans hle
    replace S := S.le hle
    clear hle
    by_cases hlt : k < xs.length
    · have hkl : (k : Int) < (xs.length : Int) := by omega
      have hal := acc_len HSP.out HTL.out
      have hn := (name_rng (HG.out.name k hlt)).2.2
      rw [bl_len] at hn
      obtain ⟨b, off, rfl, hbl, q0, q1, _⟩ := S.cls_at hlt
      rcases Nat.eq_zero_or_pos k with h0 | h0
      · subst h0
        have HS := Lib.hid (step_root HG.out hlt HSP.out)
        rw [Nat.zero_mul, Nat.add_zero] at q0
        clear HSP q1
        generalize xs[0].name = nm at *
        have hs1 : (acc.size : Int) ≤ 8388608 := by omega
        have hs2 : (nm.size : Int) ≤ 8388608 := by omega
        have hs3 : ((acc ++ nm).size : Int) ≤ 8388608 := by rw [ByteArray.size_append]; omega
        have hs4 : (acc ++ nm).size ≤ 118 := by rw [ByteArray.size_append]; omega
        go_wp2
        go_roundw
        case rel => exact ⟨_, 0 + 1, by omega, rfl, by go_num, HS.out, HW.out⟩
        case measure => (simp [intOf]) <;> omega
      · obtain ⟨p, hp, hpp, hs⟩ := step_up HG.out hlt h0 HSP.out
        have HS := Lib.hid hs
        have hpl : (p : Int) < (xs.length : Int) := by omega
        have hk0 : decide (0 < (k : Int)) = true := decide_eq_true (by omega)
        have hk1 : (0 : Int) < (k : Int) := by omega
        obtain ⟨b', off', e, _, p0, _⟩ := S.cls_at hp
        injection e with e
        injection e with e1 e2
        subst e1
        subst e2
        rw [hpp] at q1
        have hn2 := (name_rng (HG.out.name p hp)).2.2
        rw [bl_len] at hn2
        clear HSP hs hpp h0
        generalize xs[k].name = nm at *
        generalize xs[p].name = pm at *
        have hs1 : (acc.size : Int) ≤ 8388608 := by omega
        have hs2 : (nm.size : Int) ≤ 8388608 := by omega
        have hs3 : (acc ++ nm).size ≤ 118 := by rw [ByteArray.size_append]; omega
        have hs4 : (acc ++ nm ++ spT).size ≤ 119 := by rw [ByteArray.size_append]; have : spT.size = 1 := rfl; omega
        have hs5 : (acc ++ nm ++ spT ++ pm).size ≤ 125 := by rw [ByteArray.size_append]; omega
        obtain ⟨x1, h1⟩ : ∃ x1, acc ++ nm = x1 := ⟨_, rfl⟩
        rw [h1] at hs3 hs4 hs5 HS
        have hadd1 : ∀ w, (Op.stringOp .add x1 ⟨#[32]⟩).run Try.prog w = .ok (.string (x1 ++ spT)) w := fun w => run_string_add w x1 spT (by omega) (by decide)
        obtain ⟨x2, h2⟩ : ∃ x2, x1 ++ spT = x2 := ⟨_, rfl⟩
        rw [h2] at hs4 hs5 HS hadd1
        have hadd2 : ∀ w, (Op.stringOp .add x2 pm).run Try.prog w = .ok (.string (x2 ++ pm)) w := fun w => run_string_add w x2 pm (by omega) (by omega)
        obtain ⟨x3, h3⟩ : ∃ x3, x2 ++ pm = x3 := ⟨_, rfl⟩
        rw [h3] at hs5 HS hadd2
        have hs6 : (x3.size : Int) ≤ 8388608 := by omega
        have HX := Lib.hid h1
        clear h1 h2 h3
        have E0 := cell_ext z0 c0
        have E1 := cell_ext hbl q1
        have E2 := cell_ext hbl p0
        go_wp2_with fail
        rw [HX.out]
        clear hs1 hs2 hs3 hs4 hs5 hn hn2 hal
        refine wp_region_ext (by kernel_rfl) (by kernel_rfl) ?_
        repeat (go_big_quiet_step (fail))
        refine wpQuiet_nil ?_
        intro _ hw'
        obtain ⟨gg, rfl⟩ := hw'
        have L1 := Le.ext wr gg
        generalize wr.ext gg = W2 at *
        go_wp2
        go_roundw
        case rel => exact ⟨_, k + 1, by omega, rfl, by go_num, HS.out, HW.out.trans L1⟩
        case measure => (simp [intOf]) <;> omega
    · have hkl : ¬ (k : Int) < (xs.length : Int) := by omega
      have HE : Hid (acc = tb (treeB xs)) := by
        have := HSP.out
        rw [txB_end hlt, List.append_nil] at this
        show _ = _
        rw [← this, tb_bl]
      go_wp2
      go_ret
      exact ⟨ret_str HE.out, L0⟩
def ttX (xs : List Cls) : ByteArray := cond (okTree xs) (tb (treeB xs)) ByteArray.empty
theorem ttX_of {xs : List Cls} {t : Bool} (h : okTree xs = t) : ttX xs = cond t (tb (treeB xs)) ByteArray.empty := by unfold ttX; rw [h]
set_option maxRecDepth 100000 in
theorem sTreeText_any (A : Option Addr) (n cap : Nat) (xs : List Cls) (w : World) (hR : Sl w A n cap xs) :
    Calls Try.prog 9 #[.agg #[.slice A n cap]] w fun e w' => e = .returned (.string (ttX xs)) ∧ Le w w' := by
  go_enter Try.func9, Try.ntmps9
  go_wp2_with fail
  obtain ⟨c0, z0, L0⟩ := box1 w (.slice A n cap) 25
  have S := hR.le L0
  generalize w.alloc (.cells #[.slice A n cap] 25) = W at *
  refine (validTree_any A n cap xs W S).mono ?_
  rintro e w1 ⟨rfl, hle⟩
  replace c0 := (hle.cell z0).trans c0
  replace z0 := Nat.lt_of_lt_of_le z0 hle.size
  replace L0 := L0.trans hle
  replace S := S.le hle
  clear hle
  cases ho : okTree xs
  · have HX := Lib.hid (ttX_of ho)
    clear ho
    go_wp2
    go_ret
    exact ⟨ret_str HX.out.symm, L0⟩
  · have HX := Lib.hid (ttX_of ho)
    have HC := Lib.hid (streeText_any A n cap xs w1 S (good_of ho))
    clear ho
    go_wp2_with fail
    refine HC.out.mono ?_
    rintro e w2 ⟨rfl, hle⟩
    have LL := L0.trans hle
    clear HC
    go_wp2
    go_ret
    exact ⟨ret_str HX.out.symm, LL⟩
end Go.Proofs.Ytjkadmbcnlelhaa
