import Derived.Test.YtjkadmbcnlelhaaTlClass
import Derived.Test.YtjkadmbcnlelhaaTtJ
namespace Go.Proofs.Ytjkadmbcnlelhaa
open Go.RowKit

set_option maxHeartbeats 16000000 in
set_option maxRecDepth 100000 in
theorem exParseTree_walk (s : ByteArray) (w : World) (_hs : s.size ≤ 9223372036854775807) :
    Calls Try.prog 6 #[.string s] w fun e w' => e = .returned (.bool true) ∧ Le w w' := by
  have HL0 : (ptX s).length ≤ 1048576 := ptX_len s
  by_cases hbigs : 1048576 < s.size
  · go_enter Try.func6, Try.ntmps6
    go_wp2
    go_ret
    exact ⟨rfl, Le.refl w⟩
  go_enter Try.func6, Try.ntmps6
  have L0 := Le.refl w
  go_wp2_with fail
  refine (sParseTree_any s _ (by omega)).mono ?_
  rintro e w1 ⟨v00, rfl, D00, hle⟩
  have s1 := hle.size
  replace L0 := L0.trans hle
  clear hle
  obtain ⟨A00, q00, rfl, S00, hB00⟩ := D00.form (by decide)
  have HB00 := Lib.hid hB00; clear hB00
  have okL00 := D00.ok
  have HU00 := Lib.hid (S00.under)
  clear D00
  go_wp2_with fail
  obtain ⟨cb00, zb00, hleB⟩ := box1 w1 (.slice A00 (ptX s).length q00) 25
  replace L0 := L0.trans hleB
  replace S00 := S00.le hleB
  clear hleB
  generalize w1.alloc (.cells #[.slice A00 (ptX s).length q00] 25) = w2 at *
  have s2 := zb00
  refine (iParseTree_any s _ (by omega)).mono ?_
  rintro e w3 ⟨v10, rfl, D10, hle⟩
  have s3 := hle.size
  replace cb00 := (hle.cell zb00).trans cb00
  replace L0 := L0.trans hle
  replace S00 := S00.le hle
  replace zb00 := Nat.lt_of_lt_of_le zb00 hle.size
  clear hle
  obtain ⟨A10, q10, rfl, S10, hB10⟩ := D10.form (by decide)
  have HB10 := Lib.hid hB10; clear hB10
  have okL10 := D10.ok
  have O10 := D10.row; clear S10
  clear D10
  go_wp2_with fail
  obtain ⟨cb10, zb10, hleB⟩ := box1 w3 (.slice A10 (ptX s).length q10) 25
  replace cb00 := (hleB.cell zb00).trans cb00
  replace L0 := L0.trans hleB
  replace S00 := S00.le hleB
  replace zb00 := Nat.lt_of_lt_of_le zb00 hleB.size
  replace O10 := own_le O10 hleB
  clear hleB
  generalize w3.alloc (.cells #[.slice A10 (ptX s).length q10] 25) = w4 at *
  have s4 := zb10
  refine (eqTree_self _ _ _ _ _ (ptX s) _ (Sl.of_own O10 rfl (by decide) okL10) S00).mono ?_
  rintro e w5 ⟨rfl, hle⟩
  have s5 := hle.size
  replace cb00 := (hle.cell zb00).trans cb00
  replace cb10 := (hle.cell zb10).trans cb10
  replace L0 := L0.trans hle
  replace S00 := S00.le hle
  replace zb00 := Nat.lt_of_lt_of_le zb00 hle.size
  replace O10 := own_le O10 hle
  replace zb10 := Nat.lt_of_lt_of_le zb10 hle.size
  clear hle
  go_wp2_with fail
  refine (markTree_any _ _ _ _ _ _ _ O10 (by omega) (by omega) HL0).mono ?_
  rintro e w7 ⟨rfl, Om, hg⟩
  have s7 := hg.size
  replace L0 := L0.grown hg (fun k hk => by have e1 : w2.heap.size ≤ k ∧ k < w3.heap.size := HB10.out k hk; omega)
  replace S00 := S00.grown hg (fun hn a e h => by have h1 := HU00.out hn a e; have h2 : w2.heap.size ≤ a.block ∧ a.block < w3.heap.size := HB10.out _ h.symm; omega)
  replace cb00 := hg.cell (a := ⟨w1.heap.size, 0, none⟩) cb00 (fun e => by have e1 : w2.heap.size ≤ w1.heap.size ∧ w1.heap.size < w3.heap.size := HB10.out _ e.symm; omega)
  replace zb00 := Nat.lt_of_lt_of_le zb00 hg.size
  replace cb10 := hg.cell (a := ⟨w3.heap.size, 0, none⟩) cb10 (fun e => by have e1 : w2.heap.size ≤ w3.heap.size ∧ w3.heap.size < w3.heap.size := HB10.out _ e.symm; omega)
  replace zb10 := Nat.lt_of_lt_of_le zb10 hg.size
  clear hg O10
  have O10 := Om; clear Om
  go_wp2_with fail
  refine (heldTree_any _ _ _ _ _ (Sl.of_own O10 rfl (by decide) (mCls_ok (by omega) (by omega) HL0)) (by omega) (by omega) HL0).mono ?_
  rintro e w8 ⟨rfl, hle⟩
  have s8 := hle.size
  replace cb00 := (hle.cell zb00).trans cb00
  replace cb10 := (hle.cell zb10).trans cb10
  replace L0 := L0.trans hle
  replace S00 := S00.le hle
  replace zb00 := Nat.lt_of_lt_of_le zb00 hle.size
  replace O10 := own_le O10 hle
  replace zb10 := Nat.lt_of_lt_of_le zb10 hle.size
  clear hle
  have hqq0 : decide ((1 : Int) + 2 * ((ptX s).length : Int) < 0) = false := decide_eq_false (by omega)
  go_wp2_with fail
  refine (iParseTree_any s _ (by omega)).mono ?_
  rintro e w9 ⟨v20, rfl, D20, hle⟩
  have s9 := hle.size
  replace cb00 := (hle.cell zb00).trans cb00
  replace cb10 := (hle.cell zb10).trans cb10
  replace L0 := L0.trans hle
  replace S00 := S00.le hle
  replace zb00 := Nat.lt_of_lt_of_le zb00 hle.size
  replace O10 := own_le O10 hle
  replace zb10 := Nat.lt_of_lt_of_le zb10 hle.size
  clear hle
  obtain ⟨A20, q20, rfl, S20, hB20⟩ := D20.form (by decide)
  have HB20 := Lib.hid hB20; clear hB20
  have okL20 := D20.ok
  have O20 := D20.row; clear S20
  clear D20
  go_wp2_with fail
  obtain ⟨cb20, zb20, hleB⟩ := box1 w9 (.slice A20 (ptX s).length q20) 25
  replace cb00 := (hleB.cell zb00).trans cb00
  replace cb10 := (hleB.cell zb10).trans cb10
  replace L0 := L0.trans hleB
  replace S00 := S00.le hleB
  replace zb00 := Nat.lt_of_lt_of_le zb00 hleB.size
  replace O10 := own_le O10 hleB
  replace zb10 := Nat.lt_of_lt_of_le zb10 hleB.size
  replace O20 := own_le O20 hleB
  clear hleB
  generalize w9.alloc (.cells #[.slice A20 (ptX s).length q20] 25) = w10 at *
  have s10 := zb20
  refine (eqTree_self _ _ _ _ _ (ptX s) _ (Sl.of_own O20 rfl (by decide) okL20) S00).mono ?_
  rintro e w11 ⟨rfl, hle⟩
  have s11 := hle.size
  replace cb00 := (hle.cell zb00).trans cb00
  replace cb10 := (hle.cell zb10).trans cb10
  replace cb20 := (hle.cell zb20).trans cb20
  replace L0 := L0.trans hle
  replace S00 := S00.le hle
  replace zb00 := Nat.lt_of_lt_of_le zb00 hle.size
  replace O10 := own_le O10 hle
  replace zb10 := Nat.lt_of_lt_of_le zb10 hle.size
  replace O20 := own_le O20 hle
  replace zb20 := Nat.lt_of_lt_of_le zb20 hle.size
  clear hle
  clear O20
  go_wp2_with fail
  refine (heldTree_any _ _ _ _ _ (Sl.of_own O10 rfl (by decide) (mCls_ok (by omega) (by omega) HL0)) (by omega) (by omega) HL0).mono ?_
  rintro e w12 ⟨rfl, hle⟩
  have s12 := hle.size
  replace cb00 := (hle.cell zb00).trans cb00
  replace cb10 := (hle.cell zb10).trans cb10
  replace cb20 := (hle.cell zb20).trans cb20
  replace L0 := L0.trans hle
  replace S00 := S00.le hle
  replace zb00 := Nat.lt_of_lt_of_le zb00 hle.size
  replace O10 := own_le O10 hle
  replace zb10 := Nat.lt_of_lt_of_le zb10 hle.size
  replace zb20 := Nat.lt_of_lt_of_le zb20 hle.size
  clear hle
  go_wp2
  go_ret
  exact ⟨rfl, L0⟩
end Go.Proofs.Ytjkadmbcnlelhaa
