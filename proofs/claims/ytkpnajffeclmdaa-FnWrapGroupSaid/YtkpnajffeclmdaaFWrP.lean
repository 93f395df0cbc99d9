/- the law FnWrapGroup -/
import Derived.Test.YtkpnajffeclmdaaDrYP
import Derived.Test.YtkpnajffeclmdaaCl21
import Derived.Test.YtkpnajffeclmdaaCl31
import Derived.Test.YtkpnajffeclmdaaCl20
namespace Go.Proofs.Ytkpnajffeclmdaa
open Go.RowKit
theorem Calls.wrO {f : FuncId} {args : Array Value} {xs : List Cls} {L : List (List Prt)} {code : Int} {w : World} (h : Calls Try.prog f args w (WrOut w xs L code)) : Calls Try.prog f args w fun e w' => ∃ A c, e = .returned (.tuple #[.slice A (wrX xs L code).length c, .bool (wrOk xs L code)]) ∧ Sl w' A (wrX xs L code).length c (wrX xs L code) ∧ Le w w' :=
  h.mono fun _ _ ⟨v, he, hd, hl⟩ => by
    obtain ⟨A, c, rfl, S, _⟩ := hd.form (by decide)
    exact ⟨A, c, he, S, hl⟩
set_option maxHeartbeats 4000000 in
set_option maxRecDepth 100000 in
theorem fnWrapGroup_walk (A : Option Addr) (n cap : Nat) (bs : List By) (w : World) (hR : Sl w A n cap bs) :
    Calls Try.prog 5 #[.slice A n cap] w fun e w' => e = .returned (.bool true) ∧ Le w w' := by
  have hm := hR.n_le
  by_cases hbig : 1048576 < n
  · go_enter Try.func5, Try.ntmps5
    go_wp2
    go_ret
    exact ⟨rfl, Le.refl w⟩
  go_enter Try.func5, Try.ntmps5
  go_wp2_with fail
  refine (drawWrapGroup_any A n cap bs w hR).mono ?_
  rintro e w1 ⟨B, D, m, c, k, d, xs, hs, L, a, rfl, S, hm8, S2, R2, hk8, ha0, ha1, L0⟩
  go_wp2_with fail
  obtain ⟨ct, zt, hleB⟩ := box1 w1 (.slice B m c) 25
  replace S := S.le hleB
  replace L0 := L0.trans hleB
  replace S2 := S2.le hleB
  replace R2 := R2.le hleB
  clear hleB
  generalize w1.alloc (.cells #[.slice B m c] 25) = W1 at *
  go_wp2_with fail
  refine (Calls.wrO (iWrapGroup_any B D m c k d xs hs L a W1 S S2 R2 (by omega) (by omega))).mono ?_
  rintro e w2 ⟨A2, c2, rfl, S3, hle⟩
  replace ct := (hle.cell zt).trans ct
  replace zt := Nat.lt_of_lt_of_le zt hle.size
  replace S := S.le hle
  replace L0 := L0.trans hle
  replace S2 := S2.le hle
  replace R2 := R2.le hle
  clear hle
  go_wp2_with fail
  refine (Calls.wrO (sWrapGroup_any B D m c k d xs hs L a w2 S S2 R2 (by omega) (by omega))).mono ?_
  rintro e w3 ⟨A3, c3, rfl, S4, hle⟩
  replace ct := (hle.cell zt).trans ct
  replace zt := Nat.lt_of_lt_of_le zt hle.size
  replace S := S.le hle
  replace L0 := L0.trans hle
  replace S2 := S2.le hle
  replace R2 := R2.le hle
  replace S3 := S3.le hle
  clear hle
  have hbb : (wrOk xs L a != wrOk xs L a) = false := by simp
  have hee : (wrOk xs L a == wrOk xs L a) = true := by simp
  go_wp2_with fail
  refine (equalGroup_self A2 A3 _ c2 c3 (wrX xs L a) w3 S3 S4).mono ?_
  rintro e w4 ⟨rfl, hle⟩
  replace ct := (hle.cell zt).trans ct
  replace zt := Nat.lt_of_lt_of_le zt hle.size
  replace S := S.le hle
  replace L0 := L0.trans hle
  replace S2 := S2.le hle
  replace R2 := R2.le hle
  replace S3 := S3.le hle
  replace S4 := S4.le hle
  clear hle
  cases ho : wrOk xs L a
  · rw [ho] at hbb hee
    go_wp2_with fail
    refine (equalGroup_self A2 A3 _ c2 c3 (wrX xs L a) w4 S3 S4).mono ?_
    rintro e w5 ⟨rfl, hle⟩
    replace L0 := L0.trans hle
    clear hle
    go_wp2
    go_ret
    exact ⟨rfl, L0⟩
  rw [ho] at hbb hee
  obtain ⟨h1, h2, h3, h4⟩ := kids_wrap ho
  have hg0 : gAt (wrX xs L a) 0 = (wrX xs L a)[0] := gAt_at h4
  rw [hg0] at h2 h3
  have HK := Calls.kidsO (iKidsOf_any B A2 m c _ c2 xs (wrX xs L a) w4 S S3)
  rw [h1] at HK
  generalize wrX xs L a = M at *
  clear h1 hg0
  go_wp2_with fail
  refine (HK).mono ?_
  rintro e w5 ⟨A5, c5, ks, rfl, S5, R5, hle⟩
  replace L0 := L0.trans hle
  replace S2 := S2.le hle
  replace R2 := R2.le hle
  replace S3 := S3.le hle
  clear hle
  have hl2 := S2.len
  have hl3 := R2.len
  obtain rfl : k = L.length := by omega
  clear hl2 hl3
  go_wp2_with fail
  refine (equalGroups_self A5 D _ c5 d ks hs L w5 S5 R5 S2 R2).mono ?_
  rintro e w6 ⟨rfl, hle⟩
  replace L0 := L0.trans hle
  replace S3 := S3.le hle
  clear hle
  obtain ⟨b0, o0, rfl, hb0, -, q1, -, q3, -⟩ := S3.prt_at h4
  rw [Nat.zero_mul, Nat.add_zero] at q1 q3
  rw [h2] at q3
  rw [h3] at q1
  have haa : (a == a) = true := by simp
  have h4i : (0 : Int) < M.length := by omega
  go_wp2
  go_ret
  exact ⟨rfl, L0⟩
end Go.Proofs.Ytkpnajffeclmdaa
