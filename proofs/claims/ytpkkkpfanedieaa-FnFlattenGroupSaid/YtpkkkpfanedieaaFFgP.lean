/- the law FnFlattenGroup -/
import Derived.Test.YtpkkkpfanedieaaCk11
import Derived.Test.YtpkkkpfanedieaaCk18
import Derived.Test.YtpkkkpfanedieaaCk10
import Derived.Test.YtpkkkpfanedieaaCk16
namespace Go.Proofs.Ytpkkkpfanedieaa
open Go.RowKit
theorem iValid_S (A B : Option Addr) (n cap m c : Nat) (xs : List Cls) (g : List Prt) (w : World) (hT : Sl w A n cap xs) (hG : Sl w B m c g) :
    Calls Try.prog 14 #[.agg #[.slice A n cap], .slice B m c] w fun e w' => e = .returned (.bool (gOkS xs g)) ∧ Le w w' := by
  rw [gOk_same]; exact iValidGroup_any A B n cap m c xs g w hT hG
set_option maxHeartbeats 4000000 in
set_option maxRecDepth 100000 in
theorem fnFlattenGroup_walk (A : Option Addr) (n cap : Nat) (bs : List By) (w : World) (hR : Sl w A n cap bs) :
    Calls Try.prog 6 #[.slice A n cap] w fun e w' => e = .returned (.bool true) ∧ Le w w' := by
  have hm := hR.n_le
  by_cases hbig : 1048576 < n
  · go_enter Try.func6, Try.ntmps6
    go_wp2
    go_ret
    exact ⟨rfl, Le.refl w⟩
  go_enter Try.func6, Try.ntmps6
  go_wp2_with fail
  refine (drawFlattenGroup_any A n cap bs w hR).mono ?_
  rintro e w1 ⟨B, D, m, c, k, d, xs, L, rfl, S, hm8, S2, hk40, hW, L0⟩
  go_wp2_with fail
  obtain ⟨ct, zt, hleB⟩ := box1 w1 (.slice B m c) 25
  replace S := S.le hleB
  replace L0 := L0.trans hleB
  replace S2 := S2.le hleB
  clear hleB
  generalize w1.alloc (.cells #[.slice B m c] 25) = W1 at *
  have hlen2 := S2.len
  go_wp2_with fail
  refine (Calls.sl1o (by decide) (iFlattenGroup_any B D m c k d xs L W1 S S2)).mono ?_
  rintro e w2 ⟨A2, c2, rfl, S3, hle⟩
  replace ct := (hle.cell zt).trans ct
  replace zt := Nat.lt_of_lt_of_le zt hle.size
  replace S := S.le hle
  replace L0 := L0.trans hle
  replace S2 := S2.le hle
  clear hle
  go_wp2_with fail
  refine (Calls.sl1o (by decide) (sFlattenGroup_any B D m c k d xs L w2 S S2)).mono ?_
  rintro e w3 ⟨A3, c3, rfl, S4, hle⟩
  replace ct := (hle.cell zt).trans ct
  replace zt := Nat.lt_of_lt_of_le zt hle.size
  replace S := S.le hle
  replace L0 := L0.trans hle
  replace S2 := S2.le hle
  replace S3 := S3.le hle
  clear hle
  go_wp2_with fail
  refine (equalGroup_self A2 A3 _ c2 c3 (flX xs L) w3 S3 S4).mono ?_
  rintro e w4 ⟨rfl, hle⟩
  replace ct := (hle.cell zt).trans ct
  replace zt := Nat.lt_of_lt_of_le zt hle.size
  replace S := S.le hle
  replace L0 := L0.trans hle
  replace S2 := S2.le hle
  replace S3 := S3.le hle
  clear hle
  clear S4
  go_wp2_with fail
  refine (iValid_S B D m c k d xs L w4 S S2).mono ?_
  rintro e w5 ⟨rfl, hle⟩
  replace ct := (hle.cell zt).trans ct
  replace zt := Nat.lt_of_lt_of_le zt hle.size
  replace S := S.le hle
  replace L0 := L0.trans hle
  replace S2 := S2.le hle
  replace S3 := S3.le hle
  clear hle
  cases ho : gOkS xs L
  · go_wp2_with fail
    refine (Calls.sl1o (by decide) (sFlattenGroup_any B D m c k d xs L w5 S S2)).mono ?_
    rintro e w6 ⟨A6, c6, rfl, S6, hle⟩
    replace L0 := L0.trans hle
    replace S3 := S3.le hle
    clear hle
    go_wp2_with fail
    refine (equalGroup_self A2 A6 _ c2 c6 (flX xs L) w6 S3 S6).mono ?_
    rintro e w7 ⟨rfl, hle⟩
    replace L0 := L0.trans hle
    clear hle
    go_wp2
    go_ret
    exact ⟨rfl, L0⟩
  obtain ⟨h1, h2, h3, h4⟩ := flat_facts ho
  have hd1 : decide (depX xs (flX xs L) ≤ 1) = true := decide_eq_true h2
  have hk1 : (flX xs L).length ≤ k := by omega
  have HL : Hid (∀ W, Le w5 W → Calls Try.prog 16 #[.agg #[.slice B m c], .slice A2 (flX xs L).length c2] W fun e w' => ∃ A c, e = .returned (.slice A (lvX xs L).length c) ∧ Sl w' A (lvX xs L).length c (lvX xs L) ∧ Le W w') := fun W LW => by
    have := Calls.sl1o (by decide) (iLeavesOf_any B A2 m c _ c2 xs (flX xs L) W (S.le LW) (S3.le LW))
    rw [h1] at this; exact this
  have HG : Hid (∀ W, Le w5 W → Calls Try.prog 16 #[.agg #[.slice B m c], .slice D k d] W fun e w' => ∃ A c, e = .returned (.slice A (lvX xs L).length c) ∧ Sl w' A (lvX xs L).length c (lvX xs L) ∧ Le W w') := fun W LW => Calls.sl1o (by decide) (iLeavesOf_any B D m c k d xs L W (S.le LW) (S2.le LW))
  have HD : Hid (∀ W, Le w5 W → Calls Try.prog 19 #[.agg #[.slice B m c], .slice A2 (flX xs L).length c2] W fun e w' => e = .returned (.int .i64 (depX xs (flX xs L))) ∧ Le W w') := fun W LW => iGroupDepth_any B A2 m c _ c2 xs (flX xs L) W (S.le LW) (S3.le LW)
  have HF : Hid (∀ W, Le w5 W → Calls Try.prog 27 #[.agg #[.slice B m c], .slice A2 (flX xs L).length c2] W fun e w' => ∃ A c, e = .returned (.slice A (flX xs L).length c) ∧ Sl w' A (flX xs L).length c (flX xs L) ∧ Le W w') := fun W LW => by
    have := Calls.sl1o (by decide) (iFlattenGroup_any B A2 m c _ c2 xs (flX xs L) W (S.le LW) (S3.le LW))
    rw [h3] at this; exact this
  have LC : Le w5 w5.drew := (Le.refl w5).drew
  clear h1 h2 h3 h4 S S2
  generalize hdd : depX xs (flX xs L) = dd at *
  clear hdd
  generalize flX xs L = F at *
  generalize lvX xs L = V at *
  go_wp2_with fail
  go_region_held3 (fun w' => w'.cell? ⟨w1.heap.size, 0, none⟩ = some (.slice B m c))
    (exact (LC.cell zt).trans ct)
    (first
    | (go_at_call 13; refine (equalGroup_self A9 A2 _ c9 c2 F _ S9 (S3.le LC)).mono ?_; rintro e w10 ⟨rfl, hle⟩; replace LC := LC.trans hle; clear hle S9)
    | (go_at_call 27; refine (HF.out _ LC).mono ?_; rintro e w9 ⟨A9, c9, rfl, S9, hle⟩; replace LC := LC.trans hle; clear hle)
    | (go_at_call 19; refine (HD.out _ LC).mono ?_; rintro e w8 ⟨rfl, hle⟩; replace LC := LC.trans hle; clear hle)
    | (go_at_call 29; refine (equalLeaves_self A6 A7 _ c6 c7 V _ S6 S7).mono ?_; rintro e w8 ⟨rfl, hle⟩; replace LC := LC.trans hle; clear hle S6 S7)
    | (go_at_call_of 16 (Value.slice A2 F.length c2); refine (HL.out _ LC).mono ?_; rintro e w6 ⟨A6, c6, rfl, S6, hle⟩; replace LC := LC.trans hle; (try replace S7 := S7.le hle); clear hle)
    | (go_at_call_of 16 (Value.slice D k d); refine (HG.out _ LC).mono ?_; rintro e w7 ⟨A7, c7, rfl, S7, hle⟩; replace LC := LC.trans hle; (try replace S6 := S6.le hle); clear hle))
  all_goals
    have LF := L0.trans LC
    go_wp2
    go_ret
    exact ⟨rfl, LF⟩
end Go.Proofs.Ytpkkkpfanedieaa
