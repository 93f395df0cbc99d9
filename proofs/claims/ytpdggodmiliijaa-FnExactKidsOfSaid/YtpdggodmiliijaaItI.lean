/- groups: LeavesOf of both -/
import Derived.Test.YtpdggodmiliijaaItH
import Derived.Test.YtpdggodmiliijaaAP
namespace Go.Proofs.Ytpdggodmiliijaa
open Go.RowKit
def lvX (xs : List Cls) (g : List Prt) : List Lef := cond (gOkS xs g) (leavesL g) []
instance instOneLef : EncOne Lef := ⟨by decide, fun x u hu => by simp [Enc.cells] at hu; rcases hu with rfl | rfl <;> rfl⟩
theorem lvX_of {xs : List Cls} {g : List Prt} {b : Bool} (h : gOkS xs g = b) : lvX xs g = cond b (leavesL g) [] := by unfold lvX; rw [h]
theorem gOk_len {xs : List Cls} {g : List Prt} (h : gOkS xs g = true) : g.length ≤ 16 := (goodG_of (by rw [← gOk_same]; exact h)).len.2
theorem lvX_len (xs : List Cls) (g : List Prt) : (lvX xs g).length ≤ 1048576 := by
  cases h : gOkS xs g
  · rw [lvX_of h]; simp
  · have := gOk_len h
    have := leavesL_len g
    rw [lvX_of h]; show (leavesL g).length ≤ _; omega
theorem collect_any (Bg : Nat) (A : Option Addr) (m cap : Nat) (g : List Prt) (hm : g.length ≤ 16) (w : World) (S : Sl w A m cap g) (hBg : w.cell? ⟨Bg, 0, none⟩ = some (.slice A m cap)) (zBg : Bg < w.heap.size) :
    Calls Try.prog 53 #[.func (.func 86) #[] #[.pointer (some ⟨Bg, 0, none⟩)]] w fun e w' => ∃ v, e = .returned v ∧ Owd 75 w w' v (leavesL g) ∧ Le w w' := by
  go_enter Try.func53, Try.ntmps53
  go_wp2_with fail
  refine (appendLeaves_any Bg A m cap g hm w S hBg zBg).mono ?_
  rintro e w2 ⟨v, rfl, O, hle⟩
  have HO := Lib.hid O
  clear O
  go_wp2
  go_ret
  exact ⟨_, rfl, HO.out, hle⟩
set_option maxRecDepth 100000 in
theorem iLeavesOf_any (A B : Option Addr) (n cap m c : Nat) (xs : List Cls) (g : List Prt) (w : World) (hT : Sl w A n cap xs) (hG : Sl w B m c g) :
    Calls Try.prog 16 #[.agg #[.slice A n cap], .slice B m c] w fun e w' => ∃ v, e = .returned v ∧ Owd 75 w w' v (lvX xs g) ∧ Le w w' := by
  obtain ⟨-, z0, hl⟩ := box1 w (.slice A n cap) 32
  have hS := hT.le hl
  have hG1 := hG.le hl
  go_enter Try.func16, Try.ntmps16
  go_wp2_with fail
  generalize w.alloc (.cells #[.slice A n cap] 32) = w1 at *
  refine (iValidGroupS_any _ _ _ _ _ _ xs g _ hS hG1).mono ?_
  rintro e w2 ⟨rfl, hle⟩
  have hG2 := hG1.le hle
  have hLL := hl.trans hle
  cases hg : gOkS xs g
  · have HX := Lib.hid (lvX_of hg)
    clear hg
    go_wp2
    go_ret
    exact ⟨_, rfl, by rw [HX.out]; exact Owd.nil _ _ _, hLL⟩
  · have HX := Lib.hid (lvX_of hg)
    have hm := gOk_len hg
    clear hg
    go_wp2_with fail
    refine (callsIn_wide (n := 6)).1 ?_
    refine (leaves_in Fence.wide 6 trivial rfl _ _ _ _).mono ?_
    rintro e w3 ⟨rfl, rfl⟩
    obtain ⟨b0, y0, hl3⟩ := box1 w2 (.slice B m c) 34
    have hG3 := hG2.le hl3
    have hL3 := hLL.trans hl3
    go_wp2_with fail
    generalize w2.alloc (.cells #[.slice B m c] 34) = w3 at *
    refine (collect_any _ _ _ _ g hm w3 hG3 b0 y0).mono ?_
    rintro e w4 ⟨v, rfl, O, hle4⟩
    have HO := Lib.hid (O.mono hL3)
    have HL4 := Lib.hid (hL3.trans hle4)
    clear O
    go_wp2
    go_ret
    exact ⟨_, rfl, by rw [HX.out]; exact HO.out, HL4.out⟩
set_option maxRecDepth 100000 in
theorem leaf_any (d c code : Int) (gr : Bool) (w : World) : Calls Try.prog 79 #[.agg #[.int .i64 d, .bool gr, .int .i64 c, .int .i64 code]] w fun e w' => e = .returned (.agg #[.int .i64 c, .int .i64 code]) ∧ Le w w' := by
  go_enter Try.func79, Try.ntmps79
  go_wp2
  have e0 : ((w.alloc (.cells #[.int .i64 d, .bool gr, .int .i64 c, .int .i64 code] 70)).alloc (.cells #[.int .i64 c, .int .i64 code] 75)).cell? ⟨w.heap.size + 1, 0, none⟩ = some (.int .i64 c) := by rw [World.cell?_alloc_at _ _ _ _ (by simp)]; rfl
  have e1 : ((w.alloc (.cells #[.int .i64 d, .bool gr, .int .i64 c, .int .i64 code] 70)).alloc (.cells #[.int .i64 c, .int .i64 code] 75)).cell? ⟨w.heap.size + 1, 1, none⟩ = some (.int .i64 code) := by rw [World.cell?_alloc_at _ _ _ _ (by simp)]; rfl
  have L : Le w ((w.alloc (.cells #[.int .i64 d, .bool gr, .int .i64 c, .int .i64 code] 70)).alloc (.cells #[.int .i64 c, .int .i64 code] 75)) := (Le.new w _).alloc _
  generalize ((w.alloc (.cells #[.int .i64 d, .bool gr, .int .i64 c, .int .i64 code] 70)).alloc (.cells #[.int .i64 c, .int .i64 code] 75)) = W at *
  exact bodyPost_ret (v := .agg #[.int .i64 c, .int .i64 code]) (by simp [results, Try.f79, go_sem, e0, e1]) rfl ⟨rfl, L⟩
set_option maxRecDepth 100000 in
theorem sLeaves_any (B : Option Addr) (m c : Nat) (g : List Prt) (hm : g.length ≤ 16) (w : World) (hG : Sl w B m c g) :
    Calls Try.prog 49 #[.slice B m c] w fun e w' => ∃ v, e = .returned v ∧ Owd 75 w w' v (leavesL g) ∧ Le w w' := by
  obtain ⟨i0, hi, hz0, hz1, hz2⟩ := info_parts infoLefS
  have HOK := Lib.hid (leaves_ok hG)
  obtain rfl := hG.len
  go_enter Try.func49, Try.ntmps49
  go_wp2
  go_loopw [3, 4] (fun v i wr => ∃ k : Nat, k ≤ g.length ∧ i = .int .i64 k ∧ wr.ownsRow w.heap.size 75 2 v (leavesL (g.take k)).length ((leavesL (g.take k)).flatMap Enc.cells) ∧ Le w wr) (fun _ i _ => g.length - (intOf i).toNat)
  case atStart => exact ⟨0, Nat.zero_le _, rfl, own_empty (Nat.le_refl _) rfl, Le.new _ _⟩
  case round =>
    obtain ⟨k, hk, rfl, O1, L⟩ := hrel
    have R := hG.le L
    by_cases hlt : k < g.length
    · have hT := leavesL_take hlt
      have hll : (leavesL (g.take k)).length ≤ 16 := Nat.le_trans (leavesL_len _) (by rw [List.length_take]; omega)
      obtain ⟨b, off, rfl, hb, p0, p1, p2, p3, p4, p5, p6, p7, p8, p9⟩ := R.prt_at hlt
      cases hgr : g[k].group
      · rw [hgr] at p1
        rw [hgr, if_neg (by decide)] at hT
        have HT := Lib.hid hT
        clear hT
        go_wp2_with fail
        refine (leaf_any _ _ _ _ _).mono ?_
        rintro e w3 ⟨rfl, hle3⟩
        have P1 := own_le O1 hle3
        have L3 := L.trans hle3
        have hok : Enc.ok (⟨g[k].cls, g[k].code⟩ : Lef) := ⟨p6, p7, p8, p9⟩
        clear O1
        go_wp2_with (at_builtin; refine wpList_append_sl rfl _ _ 28 rfl w.heap.size 75 i0 _ 16 Try.underlying28 hi hz0 hz1 hz2 rfl _ _ (leavesL (g.take k)) rfl (P1.alloc _) _ 1 1 [(⟨g[k].cls, g[k].code⟩ : Lef)] rfl (sl_one (⟨g[k].cls, g[k].code⟩ : Lef) rfl hok rfl) (by unfold maxLen; omega) (by omega) (L3.alloc _).size ?_; intro v4 w4 O4 hg4 _; have L4 := (L3.alloc _).grown hg4 (fun k hk => (P1.lt k hk).1); clear hg4)
        go_roundw
        case rel => exact ⟨k + 1, by omega, by go_num, by rw [HT.out, List.length_append]; exact O4, L4⟩
        case measure => simp [intOf]; omega
      · rw [hgr] at p1
        rw [hgr, if_pos rfl, List.append_nil] at hT
        have HT := Lib.hid hT
        clear hT
        go_wp2
        go_roundw
        case rel => exact ⟨k + 1, by omega, by go_num, by rw [HT.out]; exact O1, L⟩
        case measure => simp [intOf]; omega
    · obtain rfl : k = g.length := by omega
      rw [List.take_length] at O1
      have HO := Lib.hid (⟨O1, HOK.out⟩ : Owd 75 w wr _ (leavesL g))
      clear O1
      go_wp2
      go_ret
      exact ⟨_, rfl, HO.out, L⟩
theorem sLeavesOf_any (A B : Option Addr) (n cap m c : Nat) (xs : List Cls) (g : List Prt) (w : World) (hT : Sl w A n cap xs) (hG : Sl w B m c g) :
    Calls Try.prog 13 #[.agg #[.slice A n cap], .slice B m c] w fun e w' => ∃ v, e = .returned v ∧ Owd 75 w w' v (lvX xs g) ∧ Le w w' := by
  obtain ⟨-, z0, hl⟩ := box1 w (.slice A n cap) 32
  have hS := hT.le hl
  have hG1 := hG.le hl
  go_enter Try.func13, Try.ntmps13
  go_wp2_with fail
  generalize w.alloc (.cells #[.slice A n cap] 32) = w1 at *
  refine (validGroup_any _ _ _ _ _ _ xs g _ hS hG1).mono ?_
  rintro e w2 ⟨rfl, hle⟩
  have hG2 := hG1.le hle
  have hLL := hl.trans hle
  cases hg : gOkS xs g
  · have HX := Lib.hid (lvX_of hg)
    clear hg
    go_wp2
    go_ret
    exact ⟨_, rfl, by rw [HX.out]; exact Owd.nil _ _ _, hLL⟩
  · have HX := Lib.hid (lvX_of hg)
    have hm := gOk_len hg
    clear hg
    go_wp2_with fail
    refine (sLeaves_any _ _ _ g hm _ hG2).mono ?_
    rintro e w4 ⟨v, rfl, O, hle4⟩
    have HO := Lib.hid (O.mono hLL)
    have HL4 := Lib.hid (hLL.trans hle4)
    clear O
    go_wp2
    go_ret
    exact ⟨_, rfl, by rw [HX.out]; exact HO.out, HL4.out⟩
end Go.Proofs.Ytpdggodmiliijaa
