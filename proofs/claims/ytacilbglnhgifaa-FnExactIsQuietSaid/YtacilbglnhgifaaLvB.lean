/- exits: takeFault of the program -/
import Derived.Test.YtacilbglnhgifaaLvA
namespace Go.Proofs.Ytacilbglnhgifaa
open Go.RowKit
def flC (hs : List Flt) (fa : Int) : Int := match hs[fa.toNat]? with | some x => x.cls | none => 0
theorem flC_at {hs : List Flt} {k : Nat} (h : k < hs.length) : flC hs (k : Int) = hs[k].cls := by
  unfold flC; rw [show ((k : Int)).toNat = k from rfl, List.getElem?_eq_getElem h]
def tkX (xs : List Cls) (hs : List Flt) (fa a : Int) : Int := if 0 ≤ fa then (if isAx xs (flC hs fa) a = true then -1 else fa) else fa
set_option maxHeartbeats 2000000 in
set_option maxRecDepth 100000 in
theorem takeFault_any (w0 : World) (R m c : Nat) (B : Option Addr) (xs : List Cls) (lv hv : Value) (lg : List Int) (hs : List Flt) (fa x y : Int) (hf : fa < hs.length) (w : World) (h : Lv w0 w R B m c xs lv hv lg hs fa) :
    LvTo w0 R B m c xs 86 x y w lg hs (tkX xs hs fa x) := by
  have c0 := h.c0
  have c2 := h.c2
  have c3 := h.c3
  have hz := h.z
  unfold LvTo
  by_cases h0 : 0 ≤ fa
  · obtain ⟨k, rfl⟩ : ∃ k : Nat, fa = (k : Int) := ⟨fa.toNat, by omega⟩
    have hk : k < hs.length := by omega
    obtain ⟨AH, cH, rfl⟩ := own_form h.H
    have SH : Sl w AH hs.length cH hs := Sl.of_own h.H rfl (by decide) h.okh
    obtain ⟨b, off, rfl, hb, d0, -⟩ := SH.flt_at hk
    have hax : tkX xs hs (k : Int) x = if isAx xs hs[k].cls x = true then -1 else (k : Int) := by unfold tkX; rw [if_pos h0, flC_at hk]
    rw [hax]
    clear hax SH
    generalize hs[k].cls = vc at *
    have q0 : decide ((0 : Int) ≤ (k : Int)) = true := decide_eq_true h0
    have hkn : (k : Int) < (hs.length : Int) := by omega
    have S := h.S
    have E0 := cell_ext hz c0
    have E2 := cell_ext hz c2
    have E3 := cell_ext hz c3
    have Ed := cell_ext hb d0
    have hca : ∀ (g : Ext w) (_ : True), Calls Try.prog 88 #[.agg #[.slice B m c], .int .i64 vc, .int .i64 x] (w.ext g) fun e w' => e = .returned (.bool (isAx xs vc x)) ∧ Le (w.ext g) w' := fun g _ => iIsA_any B m c xs vc x _ (S.le (Le.ext w g))
    generalize isAx xs vc x = q1 at *
    cases q1
    · rw [if_neg (by simp)]
      refine both_of_wp Try.func86 rfl ?_
      simp only [Try.ntmps86, List.size_toArray, List.length_cons, List.length_nil, Nat.reduceAdd, Nat.reduceSub, Array.replicate_succ, Array.replicate_zero, List.push_toArray, List.append_toArray, List.nil_append, List.cons_append]
      go_wp2_with fail
      refine wp_region_ext (by kernel_rfl) (by kernel_rfl) ?_
      repeat (go_big_quiet_step (first | (go_at_call 88; with_reducible exact Calls.ext_of (hca _ trivial))))
      refine wpQuiet_nil ?_
      intro _ hw'
      obtain ⟨gg, rfl⟩ := hw'
      have LZ := h.le (Le.ext w gg)
      go_wp2
      go_end0
      exact ⟨rfl, _, _, LZ⟩
    · rw [if_pos rfl]
      refine both_of_wp Try.func86 rfl ?_
      simp only [Try.ntmps86, List.size_toArray, List.length_cons, List.length_nil, Nat.reduceAdd, Nat.reduceSub, Array.replicate_succ, Array.replicate_zero, List.push_toArray, List.append_toArray, List.nil_append, List.cons_append]
      go_wp2_with fail
      refine wp_region_ext (by kernel_rfl) (by kernel_rfl) ?_
      repeat (go_big_quiet_step (first | (go_at_call 88; with_reducible exact Calls.ext_of (hca _ trivial))))
      refine wpQuiet_nil ?_
      intro _ hw'
      obtain ⟨gg, rfl⟩ := hw'
      have LZ := h.le (Le.ext w gg)
      generalize w.ext gg = W2 at *
      have k3 := LZ.c3
      have kf := LZ.f3
      have LF := Lib.hid (LZ.setF (-1))
      clear LZ c0 c2 c3 d0 E0 E2 E3 Ed
      go_wp2
      go_end0
      exact ⟨rfl, _, _, LF.out⟩
  · have hax : tkX xs hs fa x = fa := by unfold tkX; rw [if_neg h0]
    rw [hax]
    have q0 : decide ((0 : Int) ≤ fa) = false := decide_eq_false h0
    have E3 := cell_ext hz c3
    refine both_of_wp Try.func86 rfl ?_
    simp only [Try.ntmps86, List.size_toArray, List.length_cons, List.length_nil, Nat.reduceAdd, Nat.reduceSub, Array.replicate_succ, Array.replicate_zero, List.push_toArray, List.append_toArray, List.nil_append, List.cons_append]
    go_wp2_with fail
    refine wp_region_ext (by kernel_rfl) (by kernel_rfl) ?_
    repeat (go_big_quiet_step (fail))
    refine wpQuiet_nil ?_
    intro _ hw'
    obtain ⟨gg, rfl⟩ := hw'
    have LZ := h.le (Le.ext w gg)
    go_wp2
    go_end0
    exact ⟨rfl, _, _, LZ⟩
end Go.Proofs.Ytacilbglnhgifaa
