/- ValidHeap of the program -/
import Derived.Test.YthcolcmgfhkbeaaErBk
import Derived.Test.YthcolcmgfhkbeaaD
namespace Go.Proofs.Ythcolcmgfhkbeaa
open Go.RowKit

def vl (n k x : Int) : Bool := (x != k) && rng (-1) (n - 1) x
theorem hasK_rng (xs : List Cls) (a : Int) : hasK xs a = rng 0 ((xs.length : Int) - 1) a := rfl
theorem fOk_vl (xs : List Cls) (n : Nat) (k : Int) (x : Flt) : fOk xs n k x = (rng 0 ((xs.length : Int) - 1) x.cls && rng 0 99 x.code && vl n k x.cause && vl n k x.ctx) := by
  unfold fOk linksOk vl
  rw [hasK_rng]
  cases rng 0 ((xs.length : Int) - 1) x.cls <;> cases rng 0 99 x.code <;> cases rng (-1) ((n : Int) - 1) x.cause <;> cases rng (-1) ((n : Int) - 1) x.ctx <;> cases (x.cause != k) <;> cases (x.ctx != k) <;> rfl

theorem iInRange_any (x lo hi : Int) (w : World) :
    Calls Try.prog 26 #[.int .i64 x, .int .i64 lo, .int .i64 hi] w fun e w' => e = .returned (.bool (rng lo hi x)) ∧ Le w w' := by
  unfold rng
  go_enter Try.func26, Try.ntmps26
  go_wp2
  all_goals (go_ret; simp_all [Le.refl])
  all_goals omega
theorem validLink_any (n k x : Int) (w : World) (hn : 0 ≤ n) (hn2 : n ≤ 1048576000) :
    Calls Try.prog 27 #[.int .i64 n, .int .i64 k, .int .i64 x] w fun e w' => e = .returned (.bool (vl n k x)) ∧ Le w w' := by
  have hnn : IntKind.i64.wrap (n - 1) = n - 1 := IntWalk.i64_in _ (by omega)
  have hr : Hid (vl n k x = ((x != k) && rng (-1) (n - 1) x)) := rfl
  cases h1 : (x != k)
  all_goals
    rw [h1] at hr
    go_enter Try.func27, Try.ntmps27
    go_wp2_with fail
    first
      | (go_ret
         exact ⟨ret_bool (by rw [hr.out]; simp), Le.refl _⟩)
      | (refine (iInRange_any _ _ _ _).mono ?_
         rintro e w' ⟨rfl, hle⟩
         go_wp2
         go_ret
         exact ⟨ret_bool (by rw [hr.out]; simp), hle⟩)

theorem okHeap_parts (xs : List Cls) (hs : List Flt) : okHeap xs hs = (okTree xs && decide (hs.length ≤ 24) && (allF xs hs.length 0 (hs.drop 0) && endsF hs 0 hs.length)) := by
  unfold okHeap
  rw [List.drop_zero]
  cases allF xs hs.length 0 hs <;> cases endsF hs 0 hs.length <;> cases okTree xs <;> cases decide (hs.length ≤ 24) <;> rfl

set_option maxHeartbeats 12000000 in
set_option maxRecDepth 100000 in
theorem iValidHeap_any (A H : Option Addr) (n cap m c : Nat) (xs : List Cls) (hs : List Flt) (w : World) (hR : Sl w A n cap xs) (hH : Sl w H m c hs) (hm : m ≤ 2097152) :
    Calls Try.prog 12 #[.agg #[.slice A n cap], .agg #[.slice H m c]] w fun e w' => e = .returned (.bool (okHeap xs hs)) ∧ Le w w' := by
  obtain rfl := hH.len
  have HO := Lib.hid (okHeap_parts xs hs)
  have hnx := hR.n_le
  have hxl := hR.len
  go_enter Try.func12, Try.ntmps12
  go_wp2_with fail
  obtain ⟨c0, z0, c1, z1, L0⟩ := box2 w (.slice A n cap) (.slice H hs.length c) 25 28
  generalize (w.alloc (.cells #[.slice A n cap] 25)).alloc (.cells #[.slice H hs.length c] 28) = W at *
  go_wp2_with fail
  refine (iValidTree_any A n cap xs _ (hR.le L0)).mono ?_
  rintro e w1 ⟨rfl, hle⟩
  replace c0 := (hle.cell z0).trans c0
  replace c1 := (hle.cell z1).trans c1
  replace z0 := Nat.lt_of_lt_of_le z0 hle.size
  replace z1 := Nat.lt_of_lt_of_le z1 hle.size
  replace L0 := L0.trans hle
  clear hle
  cases ht : okTree xs
  · rw [ht] at HO
    go_wp2
    go_ret
    exact ⟨ret_bool (by rw [HO.out]; rfl), L0⟩
  · rw [ht] at HO
    by_cases hsz : hs.length ≤ 24
    · have hd : decide (24 < hs.length) = false := decide_eq_false (by omega)
      have hd' : decide ((24 : Int) < (hs.length : Int)) = false := decide_eq_false (by omega)
      rw [decide_eq_true hsz] at HO
      have hwn : IntKind.i64.wrap ((xs.length : Int) - 1) = (xs.length : Int) - 1 := IntWalk.i64_in _ (by omega)
      subst hxl
      have HD := Lib.hid hd; have HD' := Lib.hid hd'
      go_wp2_with fail
      clear hd hd'
      go_loopw [22] (fun q wr => ∃ k : Nat, k ≤ hs.length ∧ q = .int .i64 k ∧ allF xs hs.length 0 (hs.drop 0) = allF xs hs.length k (hs.drop k) ∧ Le w1 wr) (fun q _ => hs.length - (intOf q).toNat)
      case atStart => exact ⟨0, Nat.zero_le _, rfl, rfl, Le.refl _⟩
      case round =>
        obtain ⟨k, hk, rfl, hr, hle⟩ := hrel
        have HR := Lib.hid hr; clear hr
        replace c0 := (hle.cell z0).trans c0
        replace c1 := (hle.cell z1).trans c1
        replace z0 := Nat.lt_of_lt_of_le z0 hle.size
        replace z1 := Nat.lt_of_lt_of_le z1 hle.size
        replace L0 := L0.trans hle
        by_cases hlt : k < hs.length
        · obtain ⟨b, off, rfl, hb, k0, k1, k2, k3, k4, -⟩ := (hH.le L0).flt_at hlt
          have HX : Hid (allF xs hs.length 0 (hs.drop 0) = (rng 0 ((xs.length : Int) - 1) hs[k].cls && rng 0 99 hs[k].code && vl hs.length k hs[k].cause && vl hs.length k hs[k].ctx && allF xs hs.length (k + 1) (hs.drop (k + 1)))) := by
            show _ = _; rw [HR.out, allF_at hlt, fOk_vl]
          generalize hs[k].cls = xc at *
          generalize hs[k].code = xd at *
          generalize hs[k].cause = xa at *
          generalize hs[k].ctx = xb at *
          cases h1 : rng 0 ((xs.length : Int) - 1) xc
          case' true => cases h2 : rng 0 99 xd
          case' true.true => cases h3 : vl hs.length k xa
          case' true.true.true => cases h4 : vl hs.length k xb
          all_goals
            have hx2 := HX.out
            rw [h1] at hx2
            try rw [h2] at hx2
            try rw [h3] at hx2
            try rw [h4] at hx2
            have HY := Lib.hid hx2
            clear hx2
            go_wp2_with fail
            obtain ⟨d0, d1, d2, d3, d4, zd, hld⟩ := box5 wr (.int .i64 xc) (.int .i64 xd) (.int .i64 xa) (.int .i64 xb) (.bool hs[k].hide) 45
            replace c0 := (hld.cell z0).trans c0
            replace c1 := (hld.cell z1).trans c1
            replace z0 := Nat.lt_of_lt_of_le z0 hld.size
            replace z1 := Nat.lt_of_lt_of_le z1 hld.size
            have L2 := L0.trans hld
            replace hle := hle.trans hld
            clear hld k0 k1 k2 k3 k4
            generalize wr.alloc (.cells #[.int .i64 xc, .int .i64 xd, .int .i64 xa, .int .i64 xb, .bool hs[k].hide] 45) = W3 at *
            refine (iInRange_any _ _ _ _).mono ?_
            rintro e w4 ⟨rfl, hle4⟩
            rw [h1]
            replace c0 := (hle4.cell z0).trans c0
            replace c1 := (hle4.cell z1).trans c1
            replace d1 := (hle4.cell zd).trans d1
            replace d2 := (hle4.cell zd).trans d2
            replace d3 := (hle4.cell zd).trans d3
            replace z0 := Nat.lt_of_lt_of_le z0 hle4.size
            replace z1 := Nat.lt_of_lt_of_le z1 hle4.size
            replace zd := Nat.lt_of_lt_of_le zd hle4.size
            replace L2 := L2.trans hle4
            replace hle := hle.trans hle4
            clear hle4 d0 d4
            go_wp2_with fail
            first
              | (go_ret
                 exact ⟨ret_bool (by rw [HO.out, HY.out]; simp), L2⟩)
              | (refine (iInRange_any _ _ _ _).mono ?_
                 rintro e w5 ⟨rfl, hle5⟩
                 rw [h2]
                 replace c0 := (hle5.cell z0).trans c0
                 replace c1 := (hle5.cell z1).trans c1
                 replace d2 := (hle5.cell zd).trans d2
                 replace d3 := (hle5.cell zd).trans d3
                 replace z0 := Nat.lt_of_lt_of_le z0 hle5.size
                 replace z1 := Nat.lt_of_lt_of_le z1 hle5.size
                 replace zd := Nat.lt_of_lt_of_le zd hle5.size
                 replace L2 := L2.trans hle5
                 replace hle := hle.trans hle5
                 clear hle5 d1
                 go_wp2_with fail
                 first
                   | (go_ret
                      exact ⟨ret_bool (by rw [HO.out, HY.out]; simp), L2⟩)
                   | (refine (validLink_any _ _ _ _ (by omega) (by omega)).mono ?_
                      rintro e w6 ⟨rfl, hle6⟩
                      rw [h3]
                      replace c0 := (hle6.cell z0).trans c0
                      replace c1 := (hle6.cell z1).trans c1
                      replace d3 := (hle6.cell zd).trans d3
                      replace z0 := Nat.lt_of_lt_of_le z0 hle6.size
                      replace z1 := Nat.lt_of_lt_of_le z1 hle6.size
                      replace zd := Nat.lt_of_lt_of_le zd hle6.size
                      replace L2 := L2.trans hle6
                      replace hle := hle.trans hle6
                      clear hle6 d2
                      go_wp2_with fail
                      first
                        | (go_ret
                           exact ⟨ret_bool (by rw [HO.out, HY.out]; simp), L2⟩)
                        | (refine (validLink_any _ _ _ _ (by omega) (by omega)).mono ?_
                           rintro e w7 ⟨rfl, hle7⟩
                           rw [h4]
                           replace L2 := L2.trans hle7
                           replace hle := hle.trans hle7
                           clear hle7 d3
                           go_wp2
                           first
                             | (go_ret
                                exact ⟨ret_bool (by rw [HO.out, HY.out]; simp), L2⟩)
                             | (go_roundw
                                case rel => exact ⟨k + 1, by omega, by go_num, by rw [HY.out]; simp, hle⟩
                                case measure => simp [intOf]; omega))))
        · have HA : Hid (allF xs hs.length 0 (hs.drop 0) = true) := by show _ = _; rw [HR.out, allF_end hlt]
          have lk : Lnk hs := by
            have := HA.out
            rw [List.drop_zero] at this
            exact lnk_of this
          rw [HA.out] at HO
          clear HR HA
          go_wp2
          clear hlt hk
          go_loopw [61] (fun q w2 => ∃ k : Nat, k ≤ hs.length ∧ q = .int .i64 k ∧ (∀ i, i < k → backAt hs (i : Int) = false) ∧ Le wr w2) (fun q _ => hs.length - (intOf q).toNat)
          case atStart => exact ⟨0, Nat.zero_le _, rfl, fun i hi => by omega, Le.refl _⟩
          case round =>
            obtain ⟨k, hk, rfl, hr, hle2⟩ := hrel
            have HR := Lib.hid hr; clear hr
            replace c0 := (hle2.cell z0).trans c0
            replace c1 := (hle2.cell z1).trans c1
            replace z0 := Nat.lt_of_lt_of_le z0 hle2.size
            replace z1 := Nat.lt_of_lt_of_le z1 hle2.size
            replace L0 := L0.trans hle2
            by_cases hlt : k < hs.length
            · go_wp2_with fail
              refine (leadsBack_any A H _ cap hs.length c hs k _ (hH.le L0) lk hlt).mono ?_
              rintro e w3 ⟨rfl, hle3⟩
              replace c0 := (hle3.cell z0).trans c0
              replace c1 := (hle3.cell z1).trans c1
              replace z0 := Nat.lt_of_lt_of_le z0 hle3.size
              replace z1 := Nat.lt_of_lt_of_le z1 hle3.size
              replace L0 := L0.trans hle3
              replace hle2 := hle2.trans hle3
              cases hb : backAt hs k
              · have HB := Lib.hid hb; clear hb
                go_wp2
                go_roundw
                case rel =>
                  refine ⟨k + 1, by omega, by go_num, fun i hi => ?_, hle2⟩
                  rcases Nat.lt_or_ge i k with h1 | h1
                  · exact HR.out i h1
                  · have : i = k := by omega
                    subst this; exact HB.out
                case measure => simp [intOf]; omega
              · have HB := Lib.hid hb; clear hb
                go_wp2
                go_ret
                refine ⟨ret_bool ?_, L0⟩
                have hne : endsF hs 0 hs.length = false := by
                  cases he : endsF hs 0 hs.length
                  · rfl
                  · have := (ends_back lk).1 he k hlt
                    rw [HB.out] at this; cases this
                rw [HO.out, hne]; rfl
            · have he : endsF hs 0 hs.length = true := (ends_back lk).2 fun i hi => HR.out i (by omega)
              rw [he] at HO
              go_wp2
              go_ret
              exact ⟨ret_bool (by rw [HO.out]; rfl), L0⟩
    · rw [decide_eq_false hsz] at HO
      have hd : decide (24 < hs.length) = true := decide_eq_true (by omega)
      have hd' : decide ((24 : Int) < (hs.length : Int)) = true := decide_eq_true (by omega)
      go_wp2
      go_ret
      exact ⟨ret_bool (by rw [HO.out]; rfl), L0⟩
end Go.Proofs.Ythcolcmgfhkbeaa
