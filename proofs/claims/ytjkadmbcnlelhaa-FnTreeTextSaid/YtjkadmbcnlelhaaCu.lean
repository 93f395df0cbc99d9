/- strings.Cut at a text of one byte -/
import Derived.Test.YtjkadmbcnlelhaaShelf
import Derived.Test.YtjkadmbcnlelhaaTtP
import Derived.Test.YtjkadmbcnlelhaaK
namespace Go.Proofs.Ytjkadmbcnlelhaa
open Go.RowKit
theorem cutA_ext {s : ByteArray} {a r : List UInt8} {c : UInt8} (h : bl s = a ++ c :: r) : s.extract 0 a.length = tb a ∧ s.extract (a.length + 1) s.size = tb r ∧ a.length + 1 ≤ s.size := by
  have hl : s.size = a.length + 1 + r.length := by
    have := congrArg List.length h
    rw [bl_len] at this; simp at this; omega
  have e : s = tb a ++ (tb [c] ++ tb r) := bl_inj (by rw [bl_app, bl_app, bl_tb, bl_tb, bl_tb, h]; rfl)
  refine ⟨?_, ?_, by omega⟩
  · rw [e]; exact ByteArray.extract_append_eq_left rfl
  · have e2 : s = (tb a ++ tb [c]) ++ tb r := by rw [ByteArray.append_assoc]; exact e
    have h1 : a.length + 1 = (tb a ++ tb [c]).size := by rw [ByteArray.size_append]; rfl
    rw [hl, e2]
    refine ByteArray.extract_append_eq_right h1 ?_
    rw [← h1]; rfl
set_option maxRecDepth 100000 in
theorem slCut_any (s : ByteArray) (c : UInt8) (w : World) (hs : s.size ≤ 1048576) :
    Calls Try.prog 46 #[.string s, .string ⟨#[c]⟩] w fun e w' => e = .returned (.tuple #[.string (tb (Lib.cut (bl s) [c]).1), .string (tb (Lib.cut (bl s) [c]).2.1), .bool (Lib.cut (bl s) [c]).2.2]) ∧ Le w w' := by
  go_enter Try.func46, Try.ntmps46
  go_wp2_with fail
  refine (Try.stringslite_Index_one s c w).mono ?_
  rintro e w1 ⟨rfl, rfl⟩
  rcases split_or c (bl s) with h | ⟨a, r, e, h⟩
  · have hi : Lib.indexByte s.data.toList c = -1 := indexByte_miss h
    rw [hi]
    have HX := Lib.hid (cut_one h)
    clear hi h
    go_wp2
    go_ret3
    exact ⟨by rw [HX.out]; rfl, Le.refl _⟩
  · have hi : Lib.indexByte s.data.toList c = (a.length : Int) := by
      show Lib.indexByte (bl s) c = _
      rw [e]; exact indexByte_skip h r
    rw [hi]
    obtain ⟨h1, h2, h3⟩ := cutA_ext e
    have HX : Hid (Lib.cut (bl s) [c] = (a, r, true)) := by show _ = _; rw [e]; exact cut_line h r
    have H1 := Lib.hid h1
    have H2 := Lib.hid h2
    have k0 : (0 : Int) ≤ (a.length : Int) := by omega
    have k1 : (a.length : Int) ≤ (s.size : Int) := by omega
    have k2 : (a.length : Int) + 1 ≤ (s.size : Int) := by omega
    have k3 : IntKind.i64.wrap ((a.length : Int) + 1) = (a.length : Int) + 1 := IntWalk.i64_in _ (by omega)
    have k4 : (0 : Int) ≤ (a.length : Int) + 1 := by omega
    clear hi h h1 h2 e
    generalize a.length = q at *
    go_wp2_with fail
    refine wp_region_ext (by kernel_rfl) (by kernel_rfl) ?_
    repeat (go_big_quiet_step (fail))
    refine wpQuiet_nil ?_
    intro _ hw'
    obtain ⟨gg, rfl⟩ := hw'
    have L1 := Le.ext w1 gg
    generalize w1.ext gg = W2 at *
    go_wp2
    go_ret3
    refine ⟨?_, L1⟩
    rw [HX.out]
    show _ = Ending.returned (.tuple #[.string (tb a), .string (tb r), .bool true])
    rw [← H1.out, ← H2.out]
    rfl
set_option maxRecDepth 100000 in
theorem cut_any (s : ByteArray) (c : UInt8) (w : World) (hs : s.size ≤ 1048576) :
    Calls Try.prog 27 #[.string s, .string ⟨#[c]⟩] w fun e w' => e = .returned (.tuple #[.string (tb (Lib.cut (bl s) [c]).1), .string (tb (Lib.cut (bl s) [c]).2.1), .bool (Lib.cut (bl s) [c]).2.2]) ∧ Le w w' := by
  go_enter Try.func27, Try.ntmps27
  go_wp2_with fail
  refine (slCut_any s c w hs).mono ?_
  rintro e w1 ⟨rfl, hle⟩
  go_wp2
  go_ret3
  exact ⟨rfl, hle⟩
end Go.Proofs.Ytjkadmbcnlelhaa
