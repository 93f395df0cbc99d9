/- the law FnSimplifyGroup -/
import Derived.Test.YtpkkkpfanedieaaCk11
import Derived.Test.YtpkkkpfanedieaaCk18
import Derived.Test.YtpkkkpfanedieaaCk15
import Derived.Test.YtpkkkpfanedieaaCk10
import Derived.Test.YtpkkkpfanedieaaCk7
namespace Go.Proofs.Ytpkkkpfanedieaa
open Go.RowKit
theorem iValid_S (A B : Option Addr) (n cap m c : Nat) (xs : List Cls) (g : List Prt) (w : World) (hT : Sl w A n cap xs) (hG : Sl w B m c g) :
    Calls Try.prog 14 #[.agg #[.slice A n cap], .slice B m c] w fun e w' => e = .returned (.bool (gOkS xs g)) ∧ Le w w' := by
  rw [gOk_same]; exact iValidGroup_any A B n cap m c xs g w hT hG
set_option maxHeartbeats 4000000 in
set_option maxRecDepth 100000 in
theorem fnSimplifyGroup_walk (A : Option Addr) (n cap : Nat) (bs : List By) (w : World) (hR : Sl w A n cap bs) :
    Calls Try.prog 7 #[.slice A n cap] w fun e w' => e = .returned (.bool true) ∧ Le w w' := by
  have hm := hR.n_le
  by_cases hbig : 1048576 < n
  · go_enter Try.func7, Try.ntmps7
    go_wp2
    go_ret
    exact ⟨rfl, Le.refl w⟩
  go_enter Try.func7, Try.ntmps7
  go_wp2_with fail
  refine (drawSimplifyGroup_any A n cap bs w hR).mono ?_
  rintro e w1 ⟨B, D, m, c, k, d, xs, L, rfl, S, hm8, S2, hk40, hW, L0⟩
  go_wp2_with fail
  obtain ⟨ct, zt, hleB⟩ := box1 w1 (.slice B m c) 25
  replace S := S.le hleB
  replace L0 := L0.trans hleB
  replace S2 := S2.le hleB
  clear hleB
  generalize w1.alloc (.cells #[.slice B m c] 25) = W1 at *
  have hlen2 := S2.len
  go_wp2_with fail
  refine (Calls.sl1o (by decide) (iSimplifyGroup_any B D m c k d xs L W1 S S2)).mono ?_
  rintro e w2 ⟨A2, c2, rfl, S3, hle⟩
  replace ct := (hle.cell zt).trans ct
  replace zt := Nat.lt_of_lt_of_le zt hle.size
  replace S := S.le hle
  replace L0 := L0.trans hle
  replace S2 := S2.le hle
  clear hle
  go_wp2_with fail
  refine (Calls.sl1o (by decide) (sSimplifyGroup_any B D m c k d xs L w2 S S2)).mono ?_
  rintro e w3 ⟨A3, c3, rfl, S4, hle⟩
  replace ct := (hle.cell zt).trans ct
  replace zt := Nat.lt_of_lt_of_le zt hle.size
  replace S := S.le hle
  replace L0 := L0.trans hle
  replace S2 := S2.le hle
  replace S3 := S3.le hle
  clear hle
  go_wp2_with fail
  refine (equalGroup_self A2 A3 _ c2 c3 (simX xs L) w3 S3 S4).mono ?_
  rintro e w4 ⟨rfl, hle⟩
  replace ct := (hle.cell zt).trans ct
  replace zt := Nat.lt_of_lt_of_le zt hle.size
  replace S := S.le hle
  replace L0 := L0.trans hle
  replace S2 := S2.le hle
  replace S3 := S3.le hle
  clear hle
  clear S4
  go_wp2_with fail
  refine (iValid_S B D m c k d xs L w4 S S2).mono ?_
  rintro e w5 ⟨rfl, hle⟩
  replace ct := (hle.cell zt).trans ct
  replace zt := Nat.lt_of_lt_of_le zt hle.size
  replace S := S.le hle
  replace L0 := L0.trans hle
  replace S2 := S2.le hle
  replace S3 := S3.le hle
  clear hle
  cases ho : gOkS xs L
  · go_wp2_with fail
    refine (Calls.sl1o (by decide) (sSimplifyGroup_any B D m c k d xs L w5 S S2)).mono ?_
    rintro e w6 ⟨A6, c6, rfl, S6, hle⟩
    replace L0 := L0.trans hle
    replace S3 := S3.le hle
    clear hle
    go_wp2_with fail
    refine (equalGroup_self A2 A6 _ c2 c6 (simX xs L) w6 S3 S6).mono ?_
    rintro e w7 ⟨rfl, hle⟩
    replace L0 := L0.trans hle
    clear hle
    go_wp2
    go_ret
    exact ⟨rfl, L0⟩
  obtain ⟨h1, h2, h3, h4, h5⟩ := simp_facts ho
  have HK := Lib.hid h1
  have hn1 : (((kidsX xs (simX xs L)).length : Int) != 1) = true := by rw [bne_iff_ne]; omega
  have hn2 : ¬ (kidsX xs (simX xs L)).length = 1 := h2
  have H3 := Lib.hid h3
  have H4 := Lib.hid h4
  have H5 := Lib.hid h5
  clear h1 h2 h3 h4 h5
  go_wp2_with fail
  refine (Calls.kidsO (iKidsOf_any B A2 m c _ c2 xs (simX xs L) w5 S S3)).mono ?_
  rintro e w6 ⟨A4, c4, hs, rfl, S4, R4, hle⟩
  replace ct := (hle.cell zt).trans ct
  replace zt := Nat.lt_of_lt_of_le zt hle.size
  replace S := S.le hle
  replace L0 := L0.trans hle
  replace S2 := S2.le hle
  replace S3 := S3.le hle
  clear hle
  have hsl := S4.len
  have hm4 := S4.n_le
  generalize kidsX xs (simX xs L) = M at *
  go_wp2
  go_loopw [7] (fun i wr => ∃ a : Nat, i = .int .i64 a ∧ Le w6 wr) (fun i _ => M.length - (intOf i).toNat)
  case atStart => exact ⟨0, rfl, Le.refl _⟩
  case round =>
    obtain ⟨a, rfl, LW⟩ := hrel
    replace ct := (LW.cell zt).trans ct
    replace zt := Nat.lt_of_lt_of_le zt LW.size
    replace S := S.le LW
    replace L0 := L0.trans LW
    replace S2 := S2.le LW
    replace S3 := S3.le LW
    replace S4 := S4.le LW
    replace R4 := R4.le LW
    by_cases hlt : a < M.length
    · have hai : (a : Int) < M.length := by omega
      have hah : a < hs.length := by omega
      obtain ⟨b, off, rfl, hb, hcell⟩ := S4.hdr_at hah
      have s1 := R4.at_ hah hlt
      have hv := HK.out M[a] (List.getElem_mem hlt)
      have hl1 := s1.len
      have HS : Hid (∀ W, Le wr W → Calls Try.prog 31 #[.agg #[.slice B m c], .slice hs[a].a hs[a].n hs[a].c] W fun e w' => ∃ A c, e = .returned (.slice A hs[a].n c) ∧ Sl w' A hs[a].n c M[a] ∧ Le W w') := fun W LW => by
        have := Calls.sl1o (by decide) (iSimplifyGroup_any B hs[a].a m c hs[a].n hs[a].c xs M[a] W (S.le LW) (s1.le LW))
        rw [hv, hl1] at this; exact this
      have LC : Le wr wr.drew := (Le.refl wr).drew
      go_wp2_with fail
      go_region_held3 (fun w' => w'.cell? ⟨w1.heap.size, 0, none⟩ = some (.slice B m c) ∧ w'.cell? ⟨b, off + a, none⟩ = some (.slice hs[a].a hs[a].n hs[a].c))
        (exact ⟨(LC.cell zt).trans ct, (LC.cell hb).trans hcell⟩)
        (first
        | (go_at_call 13; refine (equalGroup_self A9 hs[a].a _ c9 hs[a].c M[a] _ S9 (s1.le LC)).mono ?_; rintro e w10 ⟨rfl, hle⟩; replace LC := LC.trans hle; clear hle S9)
        | (go_at_call 31; refine (HS.out _ LC).mono ?_; rintro e w9 ⟨A9, c9, rfl, S9, hle⟩; replace LC := LC.trans hle; clear hle))
      all_goals
        have LF := LW.trans LC
        clear LC
        go_wp2
        go_roundw
        case rel => exact ⟨a + 1, by go_num, LF⟩
        case measure => simp [intOf]; omega
    · have hai : ¬ (a : Int) < M.length := by omega
      have HL : Hid (∀ W, Le wr W → Calls Try.prog 16 #[.agg #[.slice B m c], .slice A2 (simX xs L).length c2] W fun e w' => ∃ A c, e = .returned (.slice A (lvX xs L).length c) ∧ Sl w' A (lvX xs L).length c (lvX xs L) ∧ Le W w') := fun W LW => by
        have := Calls.sl1o (by decide) (iLeavesOf_any B A2 m c _ c2 xs (simX xs L) W (S.le LW) (S3.le LW))
        rw [H3.out] at this; exact this
      have HG : Hid (∀ W, Le wr W → Calls Try.prog 16 #[.agg #[.slice B m c], .slice D k d] W fun e w' => ∃ A c, e = .returned (.slice A (lvX xs L).length c) ∧ Sl w' A (lvX xs L).length c (lvX xs L) ∧ Le W w') := fun W LW => Calls.sl1o (by decide) (iLeavesOf_any B D m c k d xs L W (S.le LW) (S2.le LW))
      have HF : Hid (∀ W, Le wr W → Calls Try.prog 31 #[.agg #[.slice B m c], .slice A2 (simX xs L).length c2] W fun e w' => ∃ A c, e = .returned (.slice A (simX xs L).length c) ∧ Sl w' A (simX xs L).length c (simX xs L) ∧ Le W w') := fun W LW => by
        have := Calls.sl1o (by decide) (iSimplifyGroup_any B A2 m c _ c2 xs (simX xs L) W (S.le LW) (S3.le LW))
        rw [H4.out] at this; exact this
      have HV : Hid (∀ W, Le wr W → Calls Try.prog 14 #[.agg #[.slice B m c], .slice A2 (simX xs L).length c2] W fun e w' => e = .returned (.bool true) ∧ Le W w') := fun W LW => by
        have := iValid_S B A2 m c _ c2 xs (simX xs L) W (S.le LW) (S3.le LW)
        rw [H5.out] at this; exact this
      have LC : Le wr wr.drew := (Le.refl wr).drew
      clear S S2 H3 H4 H5 HK
      generalize simX xs L = F at *
      generalize lvX xs L = V at *
      go_wp2_with fail
      go_region_held3 (fun w' => w'.cell? ⟨w1.heap.size, 0, none⟩ = some (.slice B m c))
        (exact (LC.cell zt).trans ct)
        (first
        | (go_at_call 14; refine (HV.out _ LC).mono ?_; rintro e w11 ⟨rfl, hle⟩; replace LC := LC.trans hle; clear hle)
        | (go_at_call 13; refine (equalGroup_self A9 A2 _ c9 c2 F _ S9 (S3.le LC)).mono ?_; rintro e w10 ⟨rfl, hle⟩; replace LC := LC.trans hle; clear hle S9)
        | (go_at_call 31; refine (HF.out _ LC).mono ?_; rintro e w9 ⟨A9, c9, rfl, S9, hle⟩; replace LC := LC.trans hle; clear hle)
        | (go_at_call 29; refine (equalLeaves_self A6 A7 _ c6 c7 V _ S6 S7).mono ?_; rintro e w8 ⟨rfl, hle⟩; replace LC := LC.trans hle; clear hle S6 S7)
        | (go_at_call_of 16 (Value.slice A2 F.length c2); refine (HL.out _ LC).mono ?_; rintro e w6 ⟨A6, c6, rfl, S6, hle⟩; replace LC := LC.trans hle; (try replace S7 := S7.le hle); clear hle)
        | (go_at_call_of 16 (Value.slice D k d); refine (HG.out _ LC).mono ?_; rintro e w7 ⟨A7, c7, rfl, S7, hle⟩; replace LC := LC.trans hle; (try replace S6 := S6.le hle); clear hle))
      all_goals
        have LF := L0.trans LC
        go_wp2
        go_ret
        exact ⟨rfl, LF⟩
end Go.Proofs.Ytpkkkpfanedieaa
