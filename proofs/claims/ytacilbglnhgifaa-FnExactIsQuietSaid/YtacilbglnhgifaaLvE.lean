/- exits: closeExits of the program -/
import Derived.Test.YtacilbglnhgifaaLvD
import Derived.Test.YtacilbglnhgifaaPxA
namespace Go.Proofs.Ytacilbglnhgifaa
open Go.RowKit
theorem Lv.fresh {w w1 : World} (h : Le w w1) {B : Option Addr} {m c : Nat} {xs : List Cls} (hT : Sl w B m c xs) (T : TypeId) :
    Lv w (w1.alloc (.cells #[.slice B m c, .slice none 0 0, .slice none 0 0, .int .i64 (-1)] T)) w1.heap.size B m c xs (.slice none 0 0) (.slice none 0 0) [] [] (-1) := by
  have LA := Le.new w1 (.cells #[.slice B m c, .slice none 0 0, .slice none 0 0, .int .i64 (-1)] T)
  refine ⟨by simp, ?_, ?_, ?_, ?_, ?_, ?_, ?_, hT.le (h.trans LA), fun hm a e => ?_, World.ownsRow_nil _ _ _ _, World.ownsRow_nil _ _ _ _, (fun k e => by simp [Value.ownBlock] at e), (fun _ h => nomatch h), (fun _ h => nomatch h), by simp [Value.ownBlock], by simp [Value.ownBlock], h.size, h.trans LA⟩
  · rw [World.cell?_alloc_at _ _ _ _ rfl]; rfl
  · rw [World.cell?_alloc_at _ _ _ _ rfl]; rfl
  · rw [World.cell?_alloc_at _ _ _ _ rfl]; rfl
  · rw [World.cell?_alloc_at _ _ _ _ rfl]; rfl
  · simp [go_sem]
  · simp [go_sem]
  · simp [go_sem]
  · obtain ⟨b, off, e2, hb, _⟩ := hT.at_ hm
    rw [e] at e2
    injection e2 with e2
    rw [e2]
    exact Nat.lt_of_lt_of_le hb h.size
/-- what a leaver begins with -/
def stS (has : Bool) (cl k : Int) : LvS := if has = true then ([], [⟨cl, k, -1, -1, false⟩], 0) else ([], [], -1)
theorem stS_ok (has : Bool) (cl k : Int) : LvOk 10 (stS has cl k) := by
  cases has
  · exact ⟨by show 0 ≤ 10; omega, by show 0 ≤ 10; omega, by show (-1 : Int) ≤ -1; omega, by show (-1 : Int) < 0; omega⟩
  · exact ⟨by show 0 ≤ 10; omega, by show 1 ≤ 10; omega, by show (-1 : Int) ≤ 0; omega, by show (0 : Int) < 1; omega⟩
set_option maxHeartbeats 2000000 in
set_option maxRecDepth 100000 in
theorem closeExits_any (B : Option Addr) (m c : Nat) (xs : List Cls) (A : Option Addr) (n cap : Nat) (L : List Xit) (has : Bool) (cl k : Int) (hcl : Enc.ok cl) (hk : Enc.ok k) (hn : n ≤ 100000) (w : World) (hT : Sl w B m c xs) (hL : Sl w A n cap L) :
    Calls Try.prog 34 #[.agg #[.slice B m c], .slice A n cap, .agg #[.bool has, .int .i64 cl, .int .i64 k]] w fun e w' => ∃ R lv hv, e = .returned (.pointer (some ⟨R, 0, none⟩)) ∧
      Lv w w' R B m c xs lv hv (clX xs L (stS has cl k)).1 (clX xs L (stS has cl k)).2.1 (clX xs L (stS has cl k)).2.2 := by
  have hnl := hL.len
  have hokL := Lib.hid hL.ok
  have L1 := (Le.new w (.cells #[.slice B m c] 39)).trans (Le.new _ (.cells #[.bool has, .int .i64 cl, .int .i64 k] 43))
  have LV := Lv.fresh L1 hT 75
  have hR : ((w.alloc (.cells #[.slice B m c] 39)).alloc (.cells #[.bool has, .int .i64 cl, .int .i64 k] 43)).heap.size = w.heap.size + 1 + 1 := by simp
  rw [hR] at LV
  clear hR L1
  have hL3 := hL.le LV.G
  have hSo := Lib.hid (stS_ok has cl k)
  cases has
  · have HS : Hid (stS false cl k = ([], [], -1)) := rfl
    go_enter Try.func34, Try.ntmps34
    go_wp2_with fail
    generalize ((w.alloc (.cells #[.slice B m c] 39)).alloc (.cells #[.bool false, .int .i64 cl, .int .i64 k] 43)).alloc (.cells #[.slice B m c, .slice none 0 0, .slice none 0 0, .int .i64 (-1)] 75) = W at *
    refine (stepsOf_any A n cap L (by omega) _ hL3).mono ?_
    rintro e w4 ⟨A4, rfl, S4, L4⟩
    have LV4 := LV.le L4
    go_wp2_with fail
    refine (do_any w _ m c B xs _ _ (stS false cl k) L hokL.out (by omega) hSo.out w4 (by rw [HS.out]; exact LV4) A4 n n S4).mono ?_
    rintro e w5 ⟨rfl, lv5, hv5, LV5⟩
    go_wp2
    go_ret
    exact ⟨_, lv5, hv5, rfl, LV5⟩
  · have HS : Hid (stS true cl k = ([], [⟨cl, k, -1, -1, false⟩], 0)) := rfl
    go_enter Try.func34, Try.ntmps34
    go_wp2_with fail
    generalize ((w.alloc (.cells #[.slice B m c] 39)).alloc (.cells #[.bool true, .int .i64 cl, .int .i64 k] 43)).alloc (.cells #[.slice B m c, .slice none 0 0, .slice none 0 0, .int .i64 (-1)] 75) = W at *
    refine (putFault_any w _ m c B xs _ _ [] [] (-1) cl k ⟨hcl.1, hcl.2, hk.1, hk.2, by show (-9223372036854775808 : Int) ≤ -1; omega, by show (-1 : Int) ≤ 9223372036854775807; omega, by show (-9223372036854775808 : Int) ≤ -1; omega, by show (-1 : Int) ≤ 9223372036854775807; omega⟩ (Nat.zero_le _) _ LV).1.mono ?_
    rintro e w3 ⟨rfl, lv3, hv3, LV3⟩
    have hL4 := hL.le LV3.G
    go_wp2_with fail
    refine (stepsOf_any A n cap L (by omega) _ hL4).mono ?_
    rintro e w4 ⟨A4, rfl, S4, L4⟩
    have LV4 := LV3.le L4
    go_wp2_with fail
    refine (do_any w _ m c B xs _ _ (stS true cl k) L hokL.out (by omega) hSo.out w4 (by rw [HS.out]; exact LV4) A4 n n S4).mono ?_
    rintro e w5 ⟨rfl, lv5, hv5, LV5⟩
    go_wp2
    go_ret
    exact ⟨_, lv5, hv5, rfl, LV5⟩
end Go.Proofs.Ytacilbglnhgifaa
