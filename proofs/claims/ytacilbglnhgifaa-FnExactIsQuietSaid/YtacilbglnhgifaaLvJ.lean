/- exits: newFault of the model -/
import Derived.Test.YtacilbglnhgifaaRsA
import Derived.Test.YtacilbglnhgifaaKB
namespace Go.Proofs.Ytacilbglnhgifaa
open Go.RowKit
theorem raisR_lst (hs : List Flt) (cl k h : Int) (h0 : -1 ≤ h) : raisR (hs ++ [mkF cl k]) hs.length h = hs ++ [⟨cl, k, -1, h, false⟩] := by
  by_cases hn : h < 0
  · rw [raisR_no hn, show h = -1 by omega]; rfl
  · rw [raisR_at hn (by rw [List.length_append]; simp)]
    simp [mkF]
/-- contexts lie ahead of what they are the contexts of -/
def Cxt (hs : List Flt) : Prop := ∀ i (h : i < hs.length), -1 ≤ hs[i].ctx ∧ hs[i].ctx < (i : Int)
theorem Cxt.mk' {hs : List Flt} (hc : Cxt hs) (cl k : Int) : Cxt (hs ++ [mkF cl k]) := by
  intro i hi
  rcases Nat.lt_or_ge i hs.length with h2 | h2
  · rw [List.getElem_append_left h2]; exact hc i h2
  · rw [List.length_append] at hi
    have e : i = hs.length := by have : i < hs.length + 1 := hi; omega
    subst e
    rw [List.getElem_append_right (Nat.le_refl _)]
    simp [mkF]
    omega
/-- a block of three cells -/
structure B3 (W : World) (b : Nat) (x y z : Value) : Prop where
  lt : b < W.heap.size
  c0 : W.cell? ⟨b, 0, none⟩ = some x
  c1 : W.cell? ⟨b, 1, none⟩ = some y
  c2 : W.cell? ⟨b, 2, none⟩ = some z
  f : ∀ o, W.frozen? ⟨b, o, none⟩ = false
section
variable {W W' : World} {b g : Nat} {x y z : Value}
theorem frz3 (w : World) (b o g k : Nat) (u : Value) : (w.setCell ⟨b, o, none⟩ u).frozen? ⟨g, k, none⟩ = w.frozen? ⟨g, k, none⟩ := by first | exact World.frozen?_setCell .. | simp [World.frozen?, World.setCell]
theorem B3.new (w : World) (x y z : Value) (T : TypeId) : B3 (w.alloc (.cells #[x, y, z] T)) w.heap.size x y z := by
  refine ⟨by simp, ?_, ?_, ?_, fun o => World.frozen?_alloc_at _ _ _ _ rfl⟩ <;> (rw [World.cell?_alloc_at _ _ _ _ rfl]; rfl)
theorem B3.le (h : B3 W b x y z) (l : Le W W') : B3 W' b x y z :=
  ⟨Nat.lt_of_lt_of_le h.lt l.size, (l.cell h.lt).trans h.c0, (l.cell h.lt).trans h.c1, (l.cell h.lt).trans h.c2, fun o => (l.frozen h.lt).trans (h.f o)⟩
theorem B3.far (h : B3 W b x y z) (hn : g ≠ b) (o : Nat) (u : Value) : B3 (W.setCell ⟨g, o, none⟩ u) b x y z :=
  ⟨by simpa [World.setCell] using h.lt, (cell_set_other (.inl hn)).trans h.c0, (cell_set_other (.inl hn)).trans h.c1, (cell_set_other (.inl hn)).trans h.c2, fun k => (frz3 _ _ _ _ _ _).trans (h.f k)⟩
theorem B3.set0 (h : B3 W b x y z) (u : Value) : B3 (W.setCell ⟨b, 0, none⟩ u) b u y z :=
  ⟨by simpa [World.setCell] using h.lt, cell_set_same h.c0, (cell_set_other (.inr (by decide))).trans h.c1, (cell_set_other (.inr (by decide))).trans h.c2, fun k => (frz3 _ _ _ _ _ _).trans (h.f k)⟩
theorem B3.set1 (h : B3 W b x y z) (u : Value) : B3 (W.setCell ⟨b, 1, none⟩ u) b x u z :=
  ⟨by simpa [World.setCell] using h.lt, (cell_set_other (.inr (by decide))).trans h.c0, cell_set_same h.c1, (cell_set_other (.inr (by decide))).trans h.c2, fun k => (frz3 _ _ _ _ _ _).trans (h.f k)⟩
theorem B3.set2 (h : B3 W b x y z) (u : Value) : B3 (W.setCell ⟨b, 2, none⟩ u) b x y u :=
  ⟨by simpa [World.setCell] using h.lt, (cell_set_other (.inr (by decide))).trans h.c0, (cell_set_other (.inr (by decide))).trans h.c1, cell_set_same h.c2, fun k => (frz3 _ _ _ _ _ _).trans (h.f k)⟩
end
set_option maxHeartbeats 2000000 in
set_option maxRecDepth 100000 in
theorem newFault_any (AH : Option Addr) (n cH : Nat) (hs : List Flt) (fa cl k : Int) (hcl : -9223372036854775808 ≤ cl ∧ cl ≤ 9223372036854775807) (hk : -9223372036854775808 ≤ k ∧ k ≤ 9223372036854775807) (hc : Cxt hs) (h0 : -1 ≤ fa) (h1 : fa < hs.length) (hl : hs.length ≤ 1000000) (AL : Option Addr) (nL cL : Nat) (w : World) (SH : Sl w AH n cH hs) :
    Calls Try.prog 46 #[.agg #[.slice AL nL cL, .slice AH n cH, .int .i64 fa], .int .i64 cl, .int .i64 k] w fun e w' => ∃ A' q, e = .returned (.agg #[.slice AL nL cL, .slice A' (hs.length + 1) q, .int .i64 hs.length]) ∧ Owd 84 w w' (.slice A' (hs.length + 1) q) (hs ++ [⟨cl, k, -1, fa, false⟩]) ∧ Le w w' := by
  obtain rfl := SH.len
  have LA := Le.new w (.cells #[.slice AL nL cL, .slice AH hs.length cH, .int .i64 fa] 80)
  have LB := Le.new (w.alloc (.cells #[.slice AL nL cL, .slice AH hs.length cH, .int .i64 fa] 80)) (.cells #[.slice none 0 0, .slice none 0 0, .int .i64 0] 80)
  have R0 := (B3.new w (.slice AL nL cL) (.slice AH hs.length cH) (.int .i64 fa) 80).le LB
  have R1 := B3.new (w.alloc (.cells #[.slice AL nL cL, .slice AH hs.length cH, .int .i64 fa] 80)) (.slice none 0 0) (.slice none 0 0) (.int .i64 0) 80
  have LW := LA.trans LB
  have hzz : ((w.alloc (.cells #[.slice AL nL cL, .slice AH hs.length cH, .int .i64 fa] 80)).alloc (.cells #[.slice none 0 0, .slice none 0 0, .int .i64 0] 80)).heap.size = w.heap.size + 1 + 1 := by simp
  have hz1 : (w.alloc (.cells #[.slice AL nL cL, .slice AH hs.length cH, .int .i64 fa] 80)).heap.size = w.heap.size + 1 := by simp
  rw [hz1] at R1
  clear LA LB hz1
  go_enter Try.func46, Try.ntmps46
  go_wp2_with fail
  generalize (w.alloc (.cells #[.slice AL nL cL, .slice AH hs.length cH, .int .i64 fa] 80)).alloc (.cells #[.slice none 0 0, .slice none 0 0, .int .i64 0] 80) = W at *
  refine (added_any AH hs.length cH hs cl k W (SH.le LW) (by omega) hcl hk).mono ?_
  rintro e w2 ⟨v2, rfl, D2, hl2⟩
  obtain ⟨A2, q2, rfl⟩ := own_form D2.row
  have hlen : (hs ++ [mkF cl k]).length = hs.length + 1 := by rw [List.length_append]; rfl
  rw [hlen] at D2 ⊢
  have hR2 := D2.row
  rw [hlen] at hR2
  have hb2 : w.heap.size < W.heap.size := by omega
  have SD2 := Sl.of_own (ownsRow_setCell_below hR2 (a := ⟨w.heap.size, 1, none⟩) hb2 (.slice A2 (hs.length + 1) q2)) rfl (by decide) D2.ok
  have B0 := R0.le hl2
  have B1 := R1.le hl2
  have B0' := B0.set1 (.slice A2 (hs.length + 1) q2)
  have B1' := B1.far (show w.heap.size ≠ w.heap.size + 1 by omega) 1 (.slice A2 (hs.length + 1) q2)
  have L3 := (LW.trans hl2).setCell (b := w.heap.size) (o := 1) (Nat.le_refl _) (.slice A2 (hs.length + 1) q2)
  have k1 := B0.c1
  have kf := B0.f 1
  clear R0 R1 hR2 SH
  have hw : IntKind.i64.wrap (((hs.length + 1 : Nat) : Int) - 1) = (hs.length : Int) := by
    have e : ((hs.length + 1 : Nat) : Int) - 1 = (hs.length : Int) := by omega
    rw [e]
    exact IntWalk.i64_in _ (by omega)
  have k1' := B0'.c1
  have k2' := B0'.c2
  go_wp2_with fail
  generalize w2.setCell ⟨w.heap.size, 1, none⟩ (.slice A2 (hs.length + 1) q2) = W3 at *
  refine (raisedR_any A2 (hs.length + 1) q2 (hs ++ [mkF cl k]) hs.length fa W3 SD2 (by omega) (by omega) (hc.mk' cl k) (by omega) h0 h1).mono ?_
  rintro e w4 ⟨v4, rfl, D4, hl4⟩
  rw [raisR_lst _ _ _ _ h0] at D4
  obtain ⟨A4, q4, rfl⟩ := own_form D4.row
  have hlen2 : (hs ++ [(⟨cl, k, -1, fa, false⟩ : Flt)]).length = hs.length + 1 := by rw [List.length_append]; rfl
  have hR4 := D4.row
  have hok4 := Lib.hid D4.ok
  rw [hlen2] at hR4 ⊢
  have LF := ((((((L3.trans hl4).setCell (b := w.heap.size) (o := 1) (Nat.le_refl _) (.slice A4 (hs.length + 1) q4)).setCell (b := w.heap.size) (o := 2) (Nat.le_refl _) (.int .i64 hs.length)).setCell (b := w.heap.size + 1) (o := 0) (Nat.le_succ _) (.slice AL nL cL)).setCell (b := w.heap.size + 1) (o := 1) (Nat.le_succ _) (.slice A4 (hs.length + 1) q4)).setCell (b := w.heap.size + 1) (o := 2) (Nat.le_succ _) (.int .i64 hs.length))
  have hs3 : w.heap.size + 1 < W3.heap.size := B1'.lt
  have OF := ownsRow_setCell_below (ownsRow_setCell_below (ownsRow_setCell_below (ownsRow_setCell_below (ownsRow_setCell_below hR4 (a := ⟨w.heap.size, 1, none⟩) (Nat.lt_of_succ_lt hs3) (.slice A4 (hs.length + 1) q4)) (a := ⟨w.heap.size, 2, none⟩) (Nat.lt_of_succ_lt hs3) (.int .i64 hs.length)) (a := ⟨w.heap.size + 1, 0, none⟩) hs3 (.slice AL nL cL)) (a := ⟨w.heap.size + 1, 1, none⟩) hs3 (.slice A4 (hs.length + 1) q4)) (a := ⟨w.heap.size + 1, 2, none⟩) hs3 (.int .i64 hs.length)
  have HO := Lib.hid (own_mono OF L3.size)
  have HL := Lib.hid LF
  have C0 := B0'.le hl4
  have C1 := B1'.le hl4
  have C0a := C0.set1 (.slice A4 (hs.length + 1) q4)
  have C0b := C0a.set2 (.int .i64 hs.length)
  have C1b := (C1.far (show w.heap.size ≠ w.heap.size + 1 by omega) 1 (.slice A4 (hs.length + 1) q4)).far (show w.heap.size ≠ w.heap.size + 1 by omega) 2 (.int .i64 hs.length)
  have C1c := C1b.set0 (.slice AL nL cL)
  have C1d := C1c.set1 (.slice A4 (hs.length + 1) q4)
  have HE := Lib.hid (C1d.set2 (.int .i64 hs.length))
  have a1 := C0.c1
  have af := C0.f 1
  have b2 := C0a.c2
  have bf := C0a.f 2
  have d0 := C0b.c0
  have d1 := C0b.c1
  have d2 := C0b.c2
  have e0 := C1b.c0
  have ef := C1b.f 0
  have e1 := C1c.c1
  have eg := C1c.f 1
  have e2 := C1d.c2
  have eh := C1d.f 2
  clear LF OF C0 C1 C0a C0b C1b C1c C1d hR4 D4 D2 B0' B1' B0 B1 k1 kf k1' k2' hl4 L3 SD2
  go_wp2
  have z0 := HE.out.c0
  have z1 := HE.out.c1
  have z2 := HE.out.c2
  exact bodyPost_ret (v := .agg #[.slice AL nL cL, .slice A4 (hs.length + 1) q4, .int .i64 hs.length]) (by simp [results, Try.results46, go_sem, z0, z1, z2]) rfl ⟨A4, q4, rfl, ⟨by rw [hlen2]; exact HO.out, hok4.out⟩, HL.out⟩
theorem newFault0_any (cl k : Int) (hcl : -9223372036854775808 ≤ cl ∧ cl ≤ 9223372036854775807) (hk : -9223372036854775808 ≤ k ∧ k ≤ 9223372036854775807) (AL : Option Addr) (nL cL : Nat) (w : World) :
    Calls Try.prog 46 #[.agg #[.slice AL nL cL, .slice none 0 0, .int .i64 (-1)], .int .i64 cl, .int .i64 k] w fun e w' => ∃ A' q, e = .returned (.agg #[.slice AL nL cL, .slice A' 1 q, .int .i64 0]) ∧ Owd 84 w w' (.slice A' 1 q) [(⟨cl, k, -1, -1, false⟩ : Flt)] ∧ Le w w' :=
  newFault_any none 0 0 [] (-1) cl k hcl hk (fun i hi => absurd hi (Nat.not_lt_zero i)) (by omega) (by show (-1 : Int) < 0; omega) (Nat.zero_le _) AL nL cL w (Sl.nil _ _ _ (by omega))
end Go.Proofs.Ytacilbglnhgifaa
