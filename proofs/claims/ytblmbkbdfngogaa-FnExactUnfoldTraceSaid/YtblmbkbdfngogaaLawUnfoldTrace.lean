import Derived.Test.YtblmbkbdfngogaaTlFrame
import Derived.Test.YtblmbkbdfngogaaTlRow
import Derived.Test.YtblmbkbdfngogaaTrN
namespace Go.Proofs.Ytblmbkbdfngogaa
open Go.RowKit

set_option maxHeartbeats 16000000 in
set_option maxRecDepth 100000 in
theorem exUnfoldTrace_walk (Ar : Option Addr) (nr cr : Nat) (r : List Rwf) (w : World) (hr : Sl w Ar nr cr r) :
    Calls Try.prog 8 #[.slice Ar nr cr] w fun e w' => e = .returned (.bool true) ∧ Le w w' := by
  have hokr := hr.ok
  have hmxr := hr.n_le
  have HL0 : (unfX r).length ≤ 1048576 := unfX_len r
  go_enter Try.func8, Try.ntmps8
  go_wp2_with fail
  have L0 := Le.refl w
  refine (szRowS_any Ar nr cr r _ _ (hr.le L0) (by omega) (by omega)).mono ?_
  rintro e w1 ⟨rr, rfl, hr, hle⟩
  have s1 := hle.size
  replace L0 := L0.trans hle
  clear hle
  rcases hr with rfl | ⟨hr0, hr1, hr2⟩
  · go_wp2
    go_ret
    exact ⟨rfl, L0⟩
  have hnegr : decide (rr < 0) = false := decide_eq_false (by omega)
  go_wp2_with fail
  refine (toRowS_any Ar nr cr r _ (hr.le L0) (by omega)).mono ?_
  rintro e w2 ⟨rfl, Oar, hle⟩
  have s2 := hle.size
  replace L0 := L0.trans hle
  clear hle
  have hbar := own_lt Oar
  go_wp2_with fail
  refine (sUnfoldTrace_any _ _ _ r _ (Sl.of_own Oar rfl (by decide) hokr) (by omega)).mono ?_
  rintro e w3 ⟨v00, rfl, D00, hle⟩
  have s3 := hle.size
  replace L0 := L0.trans hle
  replace Oar := own_le Oar hle
  clear hle
  obtain ⟨A00, q00, rfl, S00, hB00⟩ := D00.form (by decide)
  have HB00 := Lib.hid hB00; clear hB00
  have okL00 := D00.ok
  have HU00 := Lib.hid (S00.under)
  clear D00
  clear Oar
  go_wp2_with fail
  refine (toRowS_any Ar nr cr r _ (hr.le L0) (by omega)).mono ?_
  rintro e w4 ⟨rfl, Oxr, hle⟩
  have s4 := hle.size
  replace L0 := L0.trans hle
  replace S00 := S00.le hle
  clear hle
  have hbxr := own_lt Oxr
  go_wp2_with fail
  refine (iUnfoldTrace_any _ _ _ r _ (Sl.of_own Oxr rfl (by decide) hokr) (by omega)).mono ?_
  rintro e w5 ⟨v10, rfl, D10, hle⟩
  have s5 := hle.size
  replace L0 := L0.trans hle
  replace S00 := S00.le hle
  replace Oxr := own_le Oxr hle
  clear hle
  obtain ⟨A10, q10, rfl, S10, hB10⟩ := D10.form (by decide)
  have HB10 := Lib.hid hB10; clear hB10
  have okL10 := D10.ok
  have O10 := D10.row; clear S10
  clear D10
  go_wp2_with fail
  refine (eqFrameS_self _ _ _ _ _ (unfX r) _ (Sl.of_own O10 rfl (by decide) okL10) S00).mono ?_
  rintro e w6 ⟨rfl, hle⟩
  have s6 := hle.size
  replace L0 := L0.trans hle
  replace S00 := S00.le hle
  replace Oxr := own_le Oxr hle
  replace O10 := own_le O10 hle
  clear hle
  go_wp2_with fail
  refine (toRowS_any Ar nr cr r _ (hr.le L0) (by omega)).mono ?_
  rintro e w7 ⟨rfl, Oy, hle⟩
  have s7 := hle.size
  replace L0 := L0.trans hle
  replace S00 := S00.le hle
  replace Oxr := own_le Oxr hle
  replace O10 := own_le O10 hle
  clear hle
  have hby := own_lt Oy
  have Sy := Sl.of_own Oy rfl (by decide) hokr; clear Oy hby
  go_wp2_with fail
  refine (eqRowS_self _ _ _ _ _ r _ (Sl.of_own Oxr rfl (by decide) hokr) Sy).mono ?_
  rintro e w8 ⟨rfl, hle⟩
  have s8 := hle.size
  replace L0 := L0.trans hle
  replace S00 := S00.le hle
  replace Oxr := own_le Oxr hle
  replace O10 := own_le O10 hle
  clear hle
  clear Sy
  go_wp2_with fail
  refine (markRowS_any _ _ _ _ _ _ _ Oxr (by omega) (by omega) (by omega)).mono ?_
  rintro e w9 ⟨rfl, _, hg⟩
  have s9 := hg.size
  replace L0 := L0.grown hg (fun k hk => by have e1 : w3.heap.size = k := (by injection hk); omega)
  replace S00 := S00.grown hg (fun hn a e h => by have h1 := HU00.out hn a e; have h2 : a.block = w3.heap.size := (by injection h); omega)
  replace O10 := O10.kept hg (.inr (fun e => by have e1 : w4.heap.size ≤ w3.heap.size ∧ w3.heap.size < w5.heap.size := HB10.out _ e; omega))
  clear hg Oxr
  have hkk : decide (1 + 3 * (nr : Int) < 0) = false := decide_eq_false (by omega)
  go_wp2_with fail
  refine (eqFrameS_self _ _ _ _ _ (unfX r) _ (Sl.of_own O10 rfl (by decide) okL10) S00).mono ?_
  rintro e w10 ⟨rfl, hle⟩
  have s10 := hle.size
  replace L0 := L0.trans hle
  replace S00 := S00.le hle
  replace O10 := own_le O10 hle
  clear hle
  go_wp2_with fail
  refine (markFrameS_any _ _ _ _ _ _ _ O10 (by omega) (by omega) HL0).mono ?_
  rintro e w11 ⟨rfl, Om, hg⟩
  have s11 := hg.size
  replace L0 := L0.grown hg (fun k hk => by have e1 : w4.heap.size ≤ k ∧ k < w5.heap.size := HB10.out k hk; omega)
  replace S00 := S00.grown hg (fun hn a e h => by have h1 := HU00.out hn a e; have h2 : w4.heap.size ≤ a.block ∧ a.block < w5.heap.size := HB10.out _ h.symm; omega)
  clear hg O10
  have O10 := Om; clear Om
  go_wp2_with fail
  refine (heldFrameS_any _ _ _ _ _ (Sl.of_own O10 rfl (by decide) (mFrm_ok (by omega) (by omega) HL0)) (by omega) (by omega) HL0).mono ?_
  rintro e w12 ⟨rfl, hle⟩
  have s12 := hle.size
  replace L0 := L0.trans hle
  replace S00 := S00.le hle
  replace O10 := own_le O10 hle
  clear hle
  have hqq0 : decide ((1 : Int) + 2 * ((unfX r).length : Int) < 0) = false := decide_eq_false (by omega)
  go_wp2_with fail
  refine (toRowS_any Ar nr cr r _ (hr.le L0) (by omega)).mono ?_
  rintro e w13 ⟨rfl, Ohr, hle⟩
  have s13 := hle.size
  replace L0 := L0.trans hle
  replace S00 := S00.le hle
  replace O10 := own_le O10 hle
  clear hle
  have hbhr := own_lt Ohr
  go_wp2_with fail
  refine (iUnfoldTrace_any _ _ _ r _ (Sl.of_own Ohr rfl (by decide) hokr) (by omega)).mono ?_
  rintro e w14 ⟨v20, rfl, D20, hle⟩
  have s14 := hle.size
  replace L0 := L0.trans hle
  replace S00 := S00.le hle
  replace O10 := own_le O10 hle
  replace Ohr := own_le Ohr hle
  clear hle
  obtain ⟨A20, q20, rfl, S20, hB20⟩ := D20.form (by decide)
  have HB20 := Lib.hid hB20; clear hB20
  have okL20 := D20.ok
  have O20 := D20.row; clear S20
  clear D20
  clear Ohr
  go_wp2_with fail
  refine (eqFrameS_self _ _ _ _ _ (unfX r) _ (Sl.of_own O20 rfl (by decide) okL20) S00).mono ?_
  rintro e w15 ⟨rfl, hle⟩
  have s15 := hle.size
  replace L0 := L0.trans hle
  replace S00 := S00.le hle
  replace O10 := own_le O10 hle
  replace O20 := own_le O20 hle
  clear hle
  clear O20
  go_wp2_with fail
  refine (heldFrameS_any _ _ _ _ _ (Sl.of_own O10 rfl (by decide) (mFrm_ok (by omega) (by omega) HL0)) (by omega) (by omega) HL0).mono ?_
  rintro e w16 ⟨rfl, hle⟩
  have s16 := hle.size
  replace L0 := L0.trans hle
  replace S00 := S00.le hle
  replace O10 := own_le O10 hle
  clear hle
  go_wp2
  go_ret
  exact ⟨rfl, L0⟩
end Go.Proofs.Ytblmbkbdfngogaa
