/- the law FnProgramText -/
import Derived.Test.YtkcnjoikdalgjaaGreatDoorZp5
import Derived.Test.YtkcnjoikdalgjaaGreatDoorZp16
import Derived.Test.YtkcnjoikdalgjaaGreatDoorGotFP
namespace Go.Proofs.YtkcnjoikdalgjaaGreatDoor
open Go.RowKit
set_option maxHeartbeats 4000000 in
set_option maxRecDepth 100000 in
theorem fnProgramText_walk (A : Option Addr) (n cap : Nat) (bs : List By) (w : World) (hR : Sl w A n cap bs) (hG : GotErr w) :
    Calls Tryz.prog 3 #[.slice A n cap] w fun e w' => e = .returned (.bool true) ∧ Le w w' := by
  have hm := hR.n_le
  by_cases hbig : 1048576 < n
  · go_enter Tryz.func3, Tryz.ntmps3
    go_wp2
    go_ret
    exact ⟨rfl, Le.refl w⟩
  go_enter Tryz.func3, Tryz.ntmps3
  go_wp2_with fail
  refine (drawProgramText_any A n cap bs w hR).mono ?_
  rintro e w1 ⟨B, D, m, c, q, d, xs, L, rfl, S, hm8, S2, hq8, L0⟩
  obtain rfl := S2.len
  clear hbig hm hR
  have H1 : Hid (∀ W, Sl W B m c xs → Sl W D L.length d L → GotErr W → Calls Tryz.prog 7 #[.agg #[.slice B m c], .slice D L.length d] W fun e w' => e = .returned (.string (ptP xs L)) ∧ Le W w') := fun W S S2 h => iProgramText_any B D m c L.length d xs L W (by omega) S S2 h.1 h.2.1
  have H2 : Hid (∀ W, Sl W B m c xs → Sl W D L.length d L → Calls Tryz.prog 8 #[.agg #[.slice B m c], .slice D L.length d] W fun e w' => e = .returned (.string (ptP xs L)) ∧ Le W w') := fun W S S2 => sProgramText_any B D m c L.length d xs L W (by omega) S S2
  have htl := ptP_len xs L
  have HTV : Hid (vp xs L = true → ppO xs (bl (ptP xs L)) = true ∧ ppX xs (bl (ptP xs L)) = L ∧ (bl (ptP xs L)).count 10 = L.length) := fun hv => by
    rw [ptP_of hv]
    show ppO xs (bl (tb _)) = true ∧ ppX xs (bl (tb _)) = L ∧ (bl (tb _)).count 10 = _
    rw [bl_tb]
    have h := pp_some (vP_iff.1 hv) rfl
    exact ⟨h.1, h.2, pg_count (vP_iff.1 hv)⟩
  generalize ptP xs L = tx at *
  have hb2 : (tx.toList == tx.toList) = true := by simp
  have hb3 : (tx.toList != tx.toList) = false := by simp
  go_wp2_with fail
  obtain ⟨ct, zt, hleB⟩ := box1 w1 (.slice B m c) 25
  replace S := S.le hleB
  replace L0 := L0.trans hleB
  replace S2 := S2.le hleB
  clear hleB
  generalize w1.alloc (.cells #[.slice B m c] 25) = W1 at *
  go_wp2_with fail
  refine (H1.out W1 S S2 (hG.le L0)).mono ?_
  rintro e w2 ⟨rfl, hle⟩
  replace ct := (hle.cell zt).trans ct
  replace zt := Nat.lt_of_lt_of_le zt hle.size
  replace S := S.le hle
  replace L0 := L0.trans hle
  replace S2 := S2.le hle
  clear hle
  go_wp2_with fail
  refine (H2.out w2 S S2).mono ?_
  rintro e w3 ⟨rfl, hle⟩
  replace ct := (hle.cell zt).trans ct
  replace zt := Nat.lt_of_lt_of_le zt hle.size
  replace S := S.le hle
  replace L0 := L0.trans hle
  replace S2 := S2.le hle
  clear hle
  go_wp2_with fail
  refine (pValidProgram_any B D m c _ d xs L (by omega) w3 S S2).mono ?_
  rintro e w4 ⟨rfl, hle⟩
  replace ct := (hle.cell zt).trans ct
  replace zt := Nat.lt_of_lt_of_le zt hle.size
  replace S := S.le hle
  replace L0 := L0.trans hle
  replace S2 := S2.le hle
  clear hle
  cases hv : vp xs L
  · go_wp2_with fail
    refine (H2.out w4 S S2).mono ?_
    rintro e w5 ⟨rfl, hle⟩
    replace L0 := L0.trans hle
    clear hle
    go_wp2
    go_ret
    exact ⟨rfl, L0⟩
  · obtain ⟨e1, e2, e3⟩ := HTV.out hv
    have HO := Lib.hid e1
    have HK := Lib.hid e2
    have HN := Lib.hid e3
    clear e1 e2 e3 hv HTV
    go_wp2_with fail
    refine (iParseProgram_any B m c xs tx w4 S (by omega) (by omega) (hG.le L0).1 (hG.le L0).2.2 (hG.le L0).2.1).mono ?_
    rintro e w5 ⟨v, rfl, D5, hle⟩
    rw [HK.out] at D5
    rw [HO.out]
    replace S2 := S2.le hle
    replace L0 := L0.trans hle
    obtain ⟨A5, q5, rfl, S5, -⟩ := D5.form (by decide)
    clear D5 hle
    go_wp2_with fail
    refine (equalLines_self A5 D L.length q5 d L w5 S5 S2).mono ?_
    rintro e w6 ⟨rfl, hle⟩
    replace L0 := L0.trans hle
    clear hle
    go_wp2_with fail
    refine (Calls.val (newlines_any tx w6 (by omega)) (by rw [HN.out])).mono ?_
    rintro e w7 ⟨rfl, hle⟩
    replace L0 := L0.trans hle
    clear hle
    have hll : ((L.length : Int) == (L.length : Int)) = true := by simp
    go_wp2
    go_ret
    exact ⟨rfl, L0⟩
end Go.Proofs.YtkcnjoikdalgjaaGreatDoor
