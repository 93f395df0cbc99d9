/- faultText, chainText and ChainText of the model -/
import Derived.Test.YtngepnecgoeicaaDoorTx1
import Derived.Deep.RegionHeld3
namespace Go.Proofs.YtngepnecgoeicaaDoor
open Go.RowKit

set_option maxHeartbeats 2000000 in
set_option maxRecDepth 100000 in
theorem sFaultText_any (A : Option Addr) (n cap : Nat) (xs : List Cls) (a b : Nat) (w : World) (hR : Sl w A n cap xs) (ha : a < xs.length) (hb : b < 100) (hn : xs[a].name.size ≤ 6) :
    Calls Tryd.prog 69 #[.agg #[.slice A n cap], .int .i64 a, .int .i64 b] w fun e w' => e = .returned (.string (ccT xs a b)) ∧ Le w w' := by
  obtain rfl := hR.len
  have HT : Hid (ccT xs a b = xs[a].name ++ colT ++ numT b) := by show _ = _; unfold ccT; rw [nameAt_at ha]; rfl
  have hal : (a : Int) < (xs.length : Int) := by omega
  have hm := numT_le hb
  have HN := fun w => number_any b w hb
  have HNN := Lib.hid HN; clear HN
  obtain ⟨b2, off, rfl, hb2, q0, _, _⟩ := hR.cls_at ha
  generalize xs[a].name = s at *
  have hs1 : (s.size : Int) ≤ 8388608 := by omega
  have hs2 : ((s ++ colT).size : Int) ≤ 8388608 := by rw [ByteArray.size_append]; have : colT.size = 1 := rfl; omega
  have hs3 : ((numT b).size : Int) ≤ 8388608 := by omega
  generalize numT b = u at *
  have hadd1 : ∀ w, (Op.stringOp .add s ⟨#[58]⟩).run Tryd.prog w = .ok (.string (s ++ colT)) w := fun w => run_string_add w s colT hs1 (by decide)
  obtain ⟨y, hy⟩ : ∃ y, s ++ colT = y := ⟨_, rfl⟩
  rw [hy] at hadd1 hs2 HT
  have hadd2 : ∀ w, (Op.stringOp .add y u).run Tryd.prog w = .ok (.string (y ++ u)) w := fun w => run_string_add w y u hs2 hs3
  obtain ⟨x, hx⟩ : ∃ x, y ++ u = x := ⟨_, rfl⟩
  rw [hx] at hadd2 HT
  clear hs1 hs2 hs3 hm hy hx
  obtain ⟨c0, z0, L0⟩ := box1 w (.slice (some ⟨b2, off, none⟩) xs.length cap) 37
  replace q0 := (L0.cell hb2).trans q0
  replace hb2 := Nat.lt_of_lt_of_le hb2 L0.size
  go_enter Tryd.func69, Tryd.ntmps69
  go_wp2_with fail
  generalize w.alloc (.cells #[.slice (some ⟨b2, off, none⟩) xs.length cap] 37) = W at *
  have E0 := cell_ext z0 c0
  have E1 := cell_ext hb2 q0
  refine wp_region_ext (by kernel_rfl) (by kernel_rfl) ?_
  repeat (go_big_quiet_step (first | (go_at_call 82; exact Calls.ext_same (HNN.out _))))
  refine wpQuiet_nil ?_
  intro _ hw'
  obtain ⟨gg, rfl⟩ := hw'
  have L1 := L0.trans (Le.ext W gg)
  generalize W.ext gg = W2 at *
  go_wp2
  go_ret
  exact ⟨ret_str HT.out.symm, L1⟩
end Go.Proofs.YtngepnecgoeicaaDoor
