/- the law FnHandleGroup -/
import Derived.Test.YtkpnajffeclmdaaCl15
import Derived.Test.YtkpnajffeclmdaaCl30
import Derived.Test.YtkpnajffeclmdaaSlHP
import Derived.Test.YtkpnajffeclmdaaCl19
import Derived.Test.YtkpnajffeclmdaaCl12
import Derived.Test.YtkpnajffeclmdaaCl8
import Derived.Test.YtkpnajffeclmdaaCl31
import Derived.Test.YtkpnajffeclmdaaCl28
namespace Go.Proofs.Ytkpnajffeclmdaa
open Go.RowKit
theorem iValid_S (A B : Option Addr) (n cap m c : Nat) (xs : List Cls) (g : List Prt) (w : World) (hT : Sl w A n cap xs) (hG : Sl w B m c g) :
    Calls Try.prog 12 #[.agg #[.slice A n cap], .slice B m c] w fun e w' => e = .returned (.bool (gOkS xs g)) ∧ Le w w' := by
  rw [gOk_same]; exact iValidGroup_any A B n cap m c xs g w hT hG
set_option maxHeartbeats 4000000 in
set_option maxRecDepth 100000 in
theorem fnHandleGroup_walk (A : Option Addr) (n cap : Nat) (bs : List By) (w : World) (hR : Sl w A n cap bs) :
    Calls Try.prog 4 #[.slice A n cap] w fun e w' => e = .returned (.bool true) ∧ Le w w' := by
  have hm := hR.n_le
  by_cases hbig : 1048576 < n
  · go_enter Try.func4, Try.ntmps4
    go_wp2
    go_ret
    exact ⟨rfl, Le.refl w⟩
  go_enter Try.func4, Try.ntmps4
  go_wp2_with fail
  refine (drawHandleGroup_any A n cap bs w hR).mono ?_
  rintro e w1 ⟨B, D, C, m, c, k, d, q, z, xs, L, cs, rfl, S, hm8, S2, hk40, hW, S9, hq8, L0⟩
  obtain rfl := S9.len
  go_wp2_with fail
  obtain ⟨ct, zt, hleB⟩ := box1 w1 (.slice B m c) 25
  replace S := S.le hleB
  replace L0 := L0.trans hleB
  replace S2 := S2.le hleB
  replace S9 := S9.le hleB
  clear hleB
  generalize w1.alloc (.cells #[.slice B m c] 25) = W1 at *
  go_wp2_with fail
  refine (Calls.hgL (iHandleGroup_any B D C m c k d _ z xs L cs W1 S S2 S9)).mono ?_
  rintro e w2 ⟨A2, B2, c2, d2, h2, rfl, S3, R3, S5, hle⟩
  replace ct := (hle.cell zt).trans ct
  replace zt := Nat.lt_of_lt_of_le zt hle.size
  replace S := S.le hle
  replace L0 := L0.trans hle
  replace S2 := S2.le hle
  replace S9 := S9.le hle
  clear hle
  go_wp2_with fail
  refine (Calls.hgL (sHandleGroup_any B D C m c k d _ z xs L cs w2 S S2 S9)).mono ?_
  rintro e w3 ⟨A3, B3, c3, d3, h3, rfl, S4, R4, S6, hle⟩
  replace ct := (hle.cell zt).trans ct
  replace zt := Nat.lt_of_lt_of_le zt hle.size
  replace S := S.le hle
  replace L0 := L0.trans hle
  replace S2 := S2.le hle
  replace S9 := S9.le hle
  replace S3 := S3.le hle
  replace R3 := R3.le hle
  replace S5 := S5.le hle
  clear hle
  go_wp2_with fail
  refine (equalGroups_self A2 A3 _ c2 c3 h2 h3 (hgTX xs L cs) w3 S3 R3 S4 R4).mono ?_
  rintro e w4 ⟨rfl, hle⟩
  replace ct := (hle.cell zt).trans ct
  replace zt := Nat.lt_of_lt_of_le zt hle.size
  replace S := S.le hle
  replace L0 := L0.trans hle
  replace S2 := S2.le hle
  replace S9 := S9.le hle
  replace S3 := S3.le hle
  replace R3 := R3.le hle
  replace S5 := S5.le hle
  replace S4 := S4.le hle
  replace R4 := R4.le hle
  replace S6 := S6.le hle
  clear hle
  have hlT : Hid ((hgTX xs L cs).length = cs.length → gOkS xs L = true → goodC xs cs = true) := fun h1 h2 => hg_good h2 h1
  go_wp2_with fail
  refine (equalGroup_self B2 B3 _ d2 d3 (hgRX xs L cs) w4 S5 S6).mono ?_
  rintro e w5 ⟨rfl, hle⟩
  replace ct := (hle.cell zt).trans ct
  replace zt := Nat.lt_of_lt_of_le zt hle.size
  replace S := S.le hle
  replace L0 := L0.trans hle
  replace S2 := S2.le hle
  replace S9 := S9.le hle
  replace S3 := S3.le hle
  replace R3 := R3.le hle
  replace S5 := S5.le hle
  replace S4 := S4.le hle
  replace R4 := R4.le hle
  replace S6 := S6.le hle
  clear hle
  by_cases hl : (hgTX xs L cs).length = cs.length
  rotate_left
  · have hlb : (((hgTX xs L cs).length : Int) != (cs.length : Int)) = true := by rw [bne_iff_ne]; omega
    clear hl
    go_wp2_with fail
    refine (equalGroups_self A2 A3 _ c2 c3 h2 h3 (hgTX xs L cs) w5 S3 R3 S4 R4).mono ?_
    rintro e w6 ⟨rfl, hle⟩
    replace L0 := L0.trans hle
    replace S5 := S5.le hle
    replace S6 := S6.le hle
    clear hle
    go_wp2_with fail
    refine (equalGroup_self B2 B3 _ d2 d3 (hgRX xs L cs) w6 S5 S6).mono ?_
    rintro e w7 ⟨rfl, hle⟩
    replace L0 := L0.trans hle
    clear hle
    go_wp2
    go_ret
    exact ⟨rfl, L0⟩
  have hlb : (((hgTX xs L cs).length : Int) != (cs.length : Int)) = false := by rw [hl]; simp
  have HL := Lib.hid hl
  clear hl
  go_wp2_with fail
  refine (iValid_S B D m c k d xs L w5 S S2).mono ?_
  rintro e w6 ⟨rfl, hle⟩
  replace ct := (hle.cell zt).trans ct
  replace zt := Nat.lt_of_lt_of_le zt hle.size
  replace S := S.le hle
  replace L0 := L0.trans hle
  replace S2 := S2.le hle
  replace S9 := S9.le hle
  replace S3 := S3.le hle
  replace R3 := R3.le hle
  replace S5 := S5.le hle
  replace S4 := S4.le hle
  replace R4 := R4.le hle
  replace S6 := S6.le hle
  clear hle
  cases ho : gOkS xs L
  · go_wp2_with fail
    refine (equalGroups_self A2 A3 _ c2 c3 h2 h3 (hgTX xs L cs) w6 S3 R3 S4 R4).mono ?_
    rintro e w7 ⟨rfl, hle⟩
    replace L0 := L0.trans hle
    replace S5 := S5.le hle
    replace S6 := S6.le hle
    clear hle
    go_wp2_with fail
    refine (equalGroup_self B2 B3 _ d2 d3 (hgRX xs L cs) w7 S5 S6).mono ?_
    rintro e w8 ⟨rfl, hle⟩
    replace L0 := L0.trans hle
    clear hle
    go_wp2
    go_ret
    exact ⟨rfl, L0⟩
  clear S4 R4 S6 hlb
  have hg := hlT.out HL.out ho
  obtain ⟨-, f2, f3, f4, f5, -⟩ := hg_all ho hg
  have F2 := Lib.hid f2
  have F3 := Lib.hid f3
  have F4 := Lib.hid f4
  have F6 := Lib.hid (fun j => tot_take (lvX xs) (hgTX xs L cs) j)
  have F7 := Lib.hid (fun j (h : j < (hgTX xs L cs).length) => tot_snoc (lvX xs) h)
  clear f2 f3 f4 hg hlT
  go_wp2_with fail
  refine (Calls.sl1o (by decide) (iDeadCatches_any B C m c _ z xs cs w6 S S9)).mono ?_
  rintro e w7 ⟨A7, c7, rfl, S7, hle⟩
  replace ct := (hle.cell zt).trans ct
  replace zt := Nat.lt_of_lt_of_le zt hle.size
  replace S := S.le hle
  replace L0 := L0.trans hle
  replace S2 := S2.le hle
  replace S9 := S9.le hle
  replace S3 := S3.le hle
  replace R3 := R3.le hle
  replace S5 := S5.le hle
  clear hle
  go_wp2_with fail
  refine (Calls.sl1o (by decide) (iLeavesOf_any B B2 m c _ d2 xs (hgRX xs L cs) w7 S S5)).mono ?_
  rintro e w8 ⟨A8, c8, rfl, S8, hle⟩
  replace ct := (hle.cell zt).trans ct
  replace zt := Nat.lt_of_lt_of_le zt hle.size
  replace S := S.le hle
  replace L0 := L0.trans hle
  replace S2 := S2.le hle
  replace S9 := S9.le hle
  replace S3 := S3.le hle
  replace R3 := R3.le hle
  replace S5 := S5.le hle
  replace S7 := S7.le hle
  clear hle
  generalize hgTX xs L cs = M at *
  generalize hgRX xs L cs = R at *
  generalize deadX xs cs = dx at *
  obtain ⟨r0, hr0⟩ : ∃ r0, (lvX xs R).length = r0 := ⟨_, rfl⟩
  rw [hr0] at F4 ⊢
  clear hr0 S8
  have hsl : h2.length = M.length := S3.len
  have HSL := Lib.hid hsl
  clear hsl
  obtain ⟨mx, hmx⟩ : ∃ mx, (lvX xs L).length = mx := ⟨_, rfl⟩
  rw [hmx] at F4 f5
  have HMX := Lib.hid hmx
  clear hmx
  have hm4 : M.length ≤ 9223372036854775807 := S3.n_le
  go_wp2
  go_loopw [11, 12] (fun v i wr => ∃ j : Nat, j ≤ M.length ∧ i = .int .i64 j ∧ v = .int .i64 ((r0 + tot ((M.take j).map (lvX xs)) : Nat) : Int) ∧ Le w8 wr) (fun _ i _ => M.length - (intOf i).toNat)
  case atStart => exact ⟨0, Nat.zero_le _, rfl, rfl, Le.refl _⟩
  case round =>
    obtain ⟨j, hj, rfl, rfl, LW⟩ := hrel
    replace ct := (LW.cell zt).trans ct
    replace zt := Nat.lt_of_lt_of_le zt LW.size
    replace S := S.le LW
    replace L0 := L0.trans LW
    replace S2 := S2.le LW
    replace S9 := S9.le LW
    replace S3 := S3.le LW
    replace R3 := R3.le LW
    replace S5 := S5.le LW
    replace S7 := S7.le LW
    by_cases hlt : j < M.length
    · have hai : (j : Int) < M.length := by omega
      have hjh : j < h2.length := by have := HSL.out; omega
      have hjc : j < cs.length := by have := HL.out; omega
      obtain ⟨b, off, rfl, hb, hcell⟩ := S3.hdr_at hjh
      have s1 := R3.at_ hjh hlt
      have hsn := F7.out j hlt
      have hb1 := F6.out (j + 1)
      have hb4 : r0 + tot (M.map (lvX xs)) ≤ 16 := by have := F4.out; omega
      obtain ⟨sj, hsj⟩ : ∃ sj, tot ((M.take j).map (lvX xs)) = sj := ⟨_, rfl⟩
      obtain ⟨lj, hlj⟩ : ∃ lj, (lvX xs M[j]).length = lj := ⟨_, rfl⟩
      have HRES : Hid (r0 + tot ((M.take (j + 1)).map (lvX xs)) = r0 + sj + lj) := by show _ = _; rw [hsn, hsj, hlj]; omega
      have hsum : r0 + sj + lj ≤ 16 := by have := HRES.out; omega
      rw [hsj]
      clear hsn hb1 hb4 hsj
      have HLJ := Lib.hid hlj
      clear hlj
      have hws : Hid (IntKind.i64.wrap ((r0 : Int) + (sj : Int) + (lj : Int)) = ((r0 + sj + lj : Nat) : Int)) := by show _ = _; rw [IntWalk.i64_in _ (by omega)]; omega
      have LD := (Le.refl wr).drew
      have Sd := S.le LD
      have sd := s1.le LD
      have ctd : wr.drew.cell? ⟨w1.heap.size, 0, none⟩ = some (.slice B m c) := ct
      have hcd : wr.drew.cell? ⟨b, off + j, none⟩ = some (.slice h2[j].a h2[j].n h2[j].c) := hcell
      have HV : Hid (Calls Try.prog 14 #[.agg #[.slice B m c], .slice h2[j].a h2[j].n h2[j].c] wr.drew fun e w' => ∃ A c, e = .returned (.slice A lj c) ∧ Le wr.drew w') := (Calls.sl1o (by decide) (iLeavesOf_any B h2[j].a m c h2[j].n h2[j].c xs M[j] _ Sd sd)).mono (fun e w' ⟨A, c, he, _, hl⟩ => ⟨A, c, by rw [he, HLJ.out], hl⟩)
      have hnl := s1.len
      generalize h2[j].n = nj at *
      go_wp2_with fail
      go_region_held3 (fun w' => w'.cell? ⟨w1.heap.size, 0, none⟩ = some (.slice B m c) ∧ w'.cell? ⟨b, off + j, none⟩ = some (.slice h2[j].a nj h2[j].c))
        (first | exact ⟨ctd, hcd⟩ | exact ⟨ct6, hc6⟩)
        (first | (go_at_call 14; refine HV.out.mono ?_; rintro e w6 ⟨A6, c6, rfl, hle⟩; have ct6 := (hle.cell zt).trans ctd; have hc6 := (hle.cell hb).trans hcd; have L6 := LD.trans hle))
      all_goals
        clear HV ctd hcd Sd sd LD s1 hcell
        have LW6 := LW.trans L6
        obtain ⟨b3, off3, rfl, hb3, hk3, -, -⟩ := S9.int_at hjc
        have ha3 := F3.out cs[j] (List.getElem_mem hjc)
        generalize cs[j] = aj at *
        have S_ := S.le L6
        have S5_ := S5.le L6
        have S7_ := S7.le L6
        have z6 := L6.size
        have E1 := cell_ext (Nat.lt_of_lt_of_le zt z6) ct6
        have E2 := cell_ext (Nat.lt_of_lt_of_le hb z6) hc6
        have E3 := cell_ext (Nat.lt_of_lt_of_le hb3 z6) ((L6.cell hb3).trans hk3)
        have hd := F2.out j hlt
        cases hdv : hasI dx (j : Int)
        all_goals
          have hjj : True := trivial
          first
            | (have hnz := hd hdv
               have hn0 : nj = 0 := by rw [← hnl, hnz]; rfl
               clear hnz hnl
               subst hn0)
            | skip
          go_wp2_with fail
          refine wp_region_ext (by kernel_rfl) (by kernel_rfl) ?_
          repeat (go_big_quiet_step (first | (go_at_call 22; exact Calls.ext_same (Calls.val (isIn_any A7 _ c7 dx j _ (S7_.ext _)) (vb hdv))) | (go_at_call 23; exact Calls.ext_of (Calls.val (iHasClass_any B B2 m c _ d2 xs R aj _ (S_.le (Le.ext _ _)) (S5_.le (Le.ext _ _))) (vb ha3)))))
          refine wpQuiet_nil ?_
          intro _ hw'
          obtain ⟨gg, rfl⟩ := hw'
          have hw2 := Le.ext w6 gg
          generalize w6.ext gg = W2 at *
          go_wp2
          go_roundw
          case rel => exact ⟨j + 1, by omega, by go_num, by rw [HRES.out, hws.out], LW6.trans hw2⟩
          case measure => simp [intOf]; omega
    · have hai : ¬ (j : Int) < M.length := by omega
      obtain rfl : j = M.length := by omega
      rw [List.take_length, F4.out]
      have hee : ((mx : Int) == (mx : Int)) = true := by simp
      have HV : Hid (Calls Try.prog 14 #[.agg #[.slice B m c], .slice D k d] wr fun e w' => ∃ A c, e = .returned (.slice A mx c) ∧ Le wr w') := (Calls.sl1o (by decide) (iLeavesOf_any B D m c k d xs L _ S S2)).mono (fun e w' ⟨A, c, he, _, hl⟩ => ⟨A, c, by rw [he, HMX.out], hl⟩)
      go_wp2_with fail
      refine (HV.out).mono ?_
      rintro e w9 ⟨A9, c9, rfl, hle⟩
      replace L0 := L0.trans hle
      clear hle
      go_wp2
      go_ret
      exact ⟨rfl, L0⟩
end Go.Proofs.Ytkpnajffeclmdaa
