/- the laws FnTraceText, FnParseTrace -/
import Derived.Test.YtnjckloodkdbpaaDoorCq8
import Derived.Test.YtnjckloodkdbpaaDoorCq9
import Derived.Test.YtnjckloodkdbpaaDoorCq10
import Derived.Test.YtnjckloodkdbpaaDoorGotBP
namespace Go.Proofs.YtnjckloodkdbpaaDoor
open Go.RowKit
theorem Calls.tk {f : FuncId} {args : Array Value} {s : ByteArray} {w : World} (h : Calls Tryd.prog f args w (TkOut w s)) : Calls Tryd.prog f args w fun e w' => ∃ A c, e = .returned (.tuple #[.slice A (tkX (bl s)).length c, .bool (tkO (bl s))]) ∧ Sl w' A (tkX (bl s)).length c (tkX (bl s)) ∧ Le w w' :=
  h.mono fun _ _ ⟨v, he, hd, hl⟩ => by
    obtain ⟨A, c, rfl, S, _⟩ := hd.form (by decide)
    exact ⟨A, c, he, S, hl⟩
theorem Calls.tkS {f : FuncId} {args : Array Value} {s : ByteArray} {w : World} (h : Calls Tryd.prog f args w (TkOutS w s)) : Calls Tryd.prog f args w fun e w' => ∃ A c, e = .returned (.tuple #[.slice A (tkX (bl s)).length c, .bool (tkO (bl s))]) ∧ Sl w' A (tkX (bl s)).length c (tkX (bl s)) ∧ Le w w' :=
  h.mono fun _ _ ⟨v, he, hd, hl⟩ => by
    obtain ⟨A, c, rfl, S, _⟩ := hd.form (by decide)
    exact ⟨A, c, he, S, hl⟩
theorem tk_true {s : List UInt8} (h : tkO s = true) : vTr (tkX s) = true ∧ trB (foldL (tkX s)) = s := by
  by_cases hex : ∃ xs, vTr xs = true ∧ trB (foldL xs) = s
  · obtain ⟨xs, h1, h2⟩ := hex
    rw [(tk_some h1 h2).2]; exact ⟨h1, h2⟩
  · rw [(tk_none (fun xs h1 h2 => hex ⟨xs, h1, h2⟩)).1] at h; cases h
set_option maxHeartbeats 2000000 in
set_option maxRecDepth 100000 in
theorem fnTraceText_walk (A : Option Addr) (n cap : Nat) (bs : List By) (w : World) (hR : Sl w A n cap bs) (hG : GotErr w) :
    Calls Tryd.prog 3 #[.slice A n cap] w fun e w' => e = .returned (.bool true) ∧ Le w w' := by
  have hm := hR.n_le
  by_cases hbig : 1048576 < n
  · go_enter Tryd.func3, Tryd.ntmps3
    go_wp2
    go_ret
    exact ⟨rfl, Le.refl w⟩
  go_enter Tryd.func3, Tryd.ntmps3
  go_wp2_with fail
  refine (drawTraceText_any A n cap bs w hR).mono ?_
  rintro e w1 ⟨B, m, c, xs, rfl, S, hm8, L0⟩
  have hT := hG.1
  have hE := hG.2
  have htl := trX_len xs
  have hHT : Hid (vTr xs = true → tkO (bl (trX xs)) = true ∧ tkX (bl (trX xs)) = xs) := fun hv => tk_some hv (by rw [trX_of hv]; exact (bl_tb _).symm)
  have HPT : Hid (∀ W, GotErr W → Calls Tryd.prog 12 #[.string (trX xs)] W fun e w' => ∃ A c, e = .returned (.tuple #[.slice A (tkX (bl (trX xs))).length c, .bool (tkO (bl (trX xs)))]) ∧ Sl w' A (tkX (bl (trX xs))).length c (tkX (bl (trX xs))) ∧ Le W w') := fun W h => Calls.tk (iParseTrace_any (trX xs) W (by omega) h.1 h.2)
  have H1 := Lib.hid (fun W S h => iTraceText_any B m c xs W S h)
  have H2 := Lib.hid (fun W S => sTraceText_any B m c xs W S)
  obtain ⟨ob, hob⟩ : ∃ ob, tkO (bl (trX xs)) = ob := ⟨_, rfl⟩
  obtain ⟨ys, hys⟩ : ∃ ys, tkX (bl (trX xs)) = ys := ⟨_, rfl⟩
  rw [hob, hys] at hHT HPT
  clear hob hys
  generalize trX xs = tx at *
  have hb2 : (tx.toList == tx.toList) = true := by simp
  have hb3 : (tx.toList != tx.toList) = false := by simp
  go_wp2_with fail
  refine (H1.out w1 S (hT.le L0)).mono ?_
  rintro e w2 ⟨rfl, hle⟩
  replace S := S.le hle
  replace L0 := L0.trans hle
  clear hle
  go_wp2_with fail
  refine (H2.out w2 S).mono ?_
  rintro e w3 ⟨rfl, hle⟩
  replace S := S.le hle
  replace L0 := L0.trans hle
  clear hle
  go_wp2_with fail
  refine (iValidTrace_any _ _ _ xs _ S).mono ?_
  rintro e w4 ⟨rfl, hle⟩
  replace S := S.le hle
  replace L0 := L0.trans hle
  clear hle
  cases h1 : vTr xs
  · go_wp2_with fail
    refine (H2.out w4 S).mono ?_
    rintro e w5 ⟨rfl, hle⟩
    replace L0 := L0.trans hle
    clear hle
    go_wp2
    go_ret
    exact ⟨rfl, L0⟩
  obtain ⟨rfl, rfl⟩ := hHT.out h1
  clear h1
  go_wp2_with fail
  refine (HPT.out w4 (hG.le L0)).mono ?_
  rintro e w5 ⟨A5, c5, rfl, S5, hle⟩
  replace S := S.le hle
  replace L0 := L0.trans hle
  clear hle
  have hlx := S.len
  subst hlx
  go_wp2_with fail
  refine (equalTrace_self _ _ _ _ _ _ _ S5 S).mono ?_
  rintro e w6 ⟨rfl, hle⟩
  replace L0 := L0.trans hle
  clear hle
  go_wp2
  go_ret
  exact ⟨rfl, L0⟩
set_option maxHeartbeats 2000000 in
set_option maxRecDepth 100000 in
theorem fnParseTrace_walk (A : Option Addr) (n cap : Nat) (bs : List By) (w : World) (hR : Sl w A n cap bs) (hG : GotErr w) :
    Calls Tryd.prog 4 #[.slice A n cap] w fun e w' => e = .returned (.bool true) ∧ Le w w' := by
  have hm := hR.n_le
  by_cases hbig : 1048576 < n
  · go_enter Tryd.func4, Tryd.ntmps4
    go_wp2
    go_ret
    exact ⟨rfl, Le.refl w⟩
  go_enter Tryd.func4, Tryd.ntmps4
  go_wp2_with fail
  refine (drawParseTrace_any A n cap bs w hR).mono ?_
  rintro e w1 ⟨s, rfl, hs, L0⟩
  have hT := hG.1
  have hE := hG.2
  have HI := Lib.hid (fun W h1 h2 => Calls.tk (iParseTrace_any s W (by omega) h1 h2))
  have HS := Lib.hid (fun W => Calls.tkS (sParseTrace_any s W (by omega)))
  have HTR : Hid (tkO (bl s) = true → vTr (tkX (bl s)) = true ∧ trX (tkX (bl s)) = s) := fun h => by
    obtain ⟨h1, h2⟩ := tk_true h
    refine ⟨h1, ?_⟩
    rw [trX_of h1]
    show tb (trB (foldL (tkX (bl s)))) = s
    rw [h2, tb_bl]
  generalize tkX (bl s) = ys at *
  obtain ⟨ob, hob⟩ : ∃ ob, tkO (bl s) = ob := ⟨_, rfl⟩
  rw [hob] at HI HS HTR
  clear hob
  go_wp2_with fail
  refine (HI.out w1 (hT.le L0) (hE.le L0)).mono ?_
  rintro e w2 ⟨A2, c2, rfl, S2, hle⟩
  replace L0 := L0.trans hle
  clear hle
  go_wp2_with fail
  refine (HS.out w2).mono ?_
  rintro e w3 ⟨A3, c3, rfl, S3, hle⟩
  replace L0 := L0.trans hle
  replace S2 := S2.le hle
  clear hle
  go_wp2_with fail
  refine (equalTrace_self _ _ _ _ _ _ _ S2 S3).mono ?_
  rintro e w4 ⟨rfl, hle⟩
  replace L0 := L0.trans hle
  replace S2 := S2.le hle
  replace S3 := S3.le hle
  clear hle
  cases ob
  · go_wp2_with fail
    refine (equalTrace_self _ _ _ _ _ _ _ S2 S3).mono ?_
    rintro e w5 ⟨rfl, hle⟩
    replace L0 := L0.trans hle
    clear hle
    go_wp2
    go_ret
    exact ⟨rfl, L0⟩
  obtain ⟨hv, ht⟩ := HTR.out rfl
  have H5 := iTraceText_any A2 _ c2 ys w4 S2 (hT.le L0)
  rw [ht] at H5
  have hb2 : (s.toList == s.toList) = true := by simp
  have hb3 : (s.toList != s.toList) = false := by simp
  go_wp2_with fail
  refine (H5).mono ?_
  rintro e w5 ⟨rfl, hle⟩
  replace L0 := L0.trans hle
  replace S2 := S2.le hle
  clear hle
  have H6 := iValidTrace_any A2 _ c2 ys w5 S2
  rw [hv] at H6
  go_wp2_with fail
  refine (H6).mono ?_
  rintro e w6 ⟨rfl, hle⟩
  replace L0 := L0.trans hle
  clear hle
  go_wp2
  go_ret
  exact ⟨rfl, L0⟩
end Go.Proofs.YtnjckloodkdbpaaDoor
