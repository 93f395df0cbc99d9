import Derived.Test.YtnjckloodkdbpaaDoorCq2
import Derived.Test.YtnjckloodkdbpaaDoorCq9
import Derived.Test.YtnjckloodkdbpaaDoorCq10
import Derived.Test.YtnjckloodkdbpaaDoorGotBP
namespace Go.Proofs.YtnjckloodkdbpaaDoor
open Go.RowKit

set_option maxHeartbeats 16000000 in
set_option maxRecDepth 100000 in
theorem exParseTrace_walk (s : ByteArray) (w : World) (_hs : s.size ≤ 9223372036854775807) (hG : GotErr w) :
    Calls Tryd.prog 7 #[.string s] w fun e w' => e = .returned (.bool true) ∧ Le w w' := by
  have HL0 : (tkX (bl s)).length ≤ 1048576 := by have := tk_len (bl s); omega
  by_cases hbigs : 1048576 < s.size
  · go_enter Tryd.func7, Tryd.ntmps7
    go_wp2
    go_ret
    exact ⟨rfl, Le.refl w⟩
  go_enter Tryd.func7, Tryd.ntmps7
  have L0 := Le.refl w
  go_wp2_with fail
  refine (sParseTrace_any s _ (by omega)).mono ?_
  rintro e w1 ⟨v00, rfl, D00, hle⟩
  have s1 := hle.size
  replace L0 := L0.trans hle
  clear hle
  obtain ⟨A00, q00, rfl, S00, hB00⟩ := D00.form (by decide)
  have HB00 := Lib.hid hB00; clear hB00
  have okL00 := D00.ok
  have HU00 := Lib.hid (S00.under)
  clear D00
  go_wp2_with fail
  refine (iParseTrace_any s _ (by omega) (hG.le L0).1 (hG.le L0).2).mono ?_
  rintro e w2 ⟨v10, rfl, D10, hle⟩
  have s2 := hle.size
  replace L0 := L0.trans hle
  replace S00 := S00.le hle
  clear hle
  obtain ⟨A10, q10, rfl, S10, hB10⟩ := D10.form (by decide)
  have HB10 := Lib.hid hB10; clear hB10
  have okL10 := D10.ok
  have O10 := D10.row; clear S10
  clear D10
  go_wp2_with fail
  refine (eqFrameS_self _ _ _ _ _ (tkX (bl s)) _ (Sl.of_own O10 rfl (by decide) okL10) S00).mono ?_
  rintro e w3 ⟨rfl, hle⟩
  have s3 := hle.size
  replace L0 := L0.trans hle
  replace S00 := S00.le hle
  replace O10 := own_le O10 hle
  clear hle
  go_wp2_with fail
  refine (markFrameS_any _ _ _ _ _ _ _ O10 (by omega) (by omega) HL0).mono ?_
  rintro e w5 ⟨rfl, Om, hg⟩
  have s5 := hg.size
  replace L0 := L0.grown hg (fun k hk => by have e1 : w1.heap.size ≤ k ∧ k < w2.heap.size := HB10.out k hk; omega)
  replace S00 := S00.grown hg (fun hn a e h => by have h1 := HU00.out hn a e; have h2 : w1.heap.size ≤ a.block ∧ a.block < w2.heap.size := HB10.out _ h.symm; omega)
  clear hg O10
  have O10 := Om; clear Om
  go_wp2_with fail
  refine (heldFrameS_any _ _ _ _ _ (Sl.of_own O10 rfl (by decide) (mFrm_ok (by omega) (by omega) HL0)) (by omega) (by omega) HL0).mono ?_
  rintro e w6 ⟨rfl, hle⟩
  have s6 := hle.size
  replace L0 := L0.trans hle
  replace S00 := S00.le hle
  replace O10 := own_le O10 hle
  clear hle
  have hqq0 : decide ((1 : Int) + 2 * ((tkX (bl s)).length : Int) < 0) = false := decide_eq_false (by omega)
  go_wp2_with fail
  refine (iParseTrace_any s _ (by omega) (hG.le L0).1 (hG.le L0).2).mono ?_
  rintro e w7 ⟨v20, rfl, D20, hle⟩
  have s7 := hle.size
  replace L0 := L0.trans hle
  replace S00 := S00.le hle
  replace O10 := own_le O10 hle
  clear hle
  obtain ⟨A20, q20, rfl, S20, hB20⟩ := D20.form (by decide)
  have HB20 := Lib.hid hB20; clear hB20
  have okL20 := D20.ok
  have O20 := D20.row; clear S20
  clear D20
  go_wp2_with fail
  refine (eqFrameS_self _ _ _ _ _ (tkX (bl s)) _ (Sl.of_own O20 rfl (by decide) okL20) S00).mono ?_
  rintro e w8 ⟨rfl, hle⟩
  have s8 := hle.size
  replace L0 := L0.trans hle
  replace S00 := S00.le hle
  replace O10 := own_le O10 hle
  replace O20 := own_le O20 hle
  clear hle
  clear O20
  go_wp2_with fail
  refine (heldFrameS_any _ _ _ _ _ (Sl.of_own O10 rfl (by decide) (mFrm_ok (by omega) (by omega) HL0)) (by omega) (by omega) HL0).mono ?_
  rintro e w9 ⟨rfl, hle⟩
  have s9 := hle.size
  replace L0 := L0.trans hle
  replace S00 := S00.le hle
  replace O10 := own_le O10 hle
  clear hle
  go_wp2
  go_ret
  exact ⟨rfl, L0⟩
end Go.Proofs.YtnjckloodkdbpaaDoor
