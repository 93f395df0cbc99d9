/- CallFrom of the model and of the program -/
import Derived.Test.YtblmbkbdfngogaaTrC
import Derived.Test.YtblmbkbdfngogaaCcFrame
namespace Go.Proofs.Ytblmbkbdfngogaa
open Go.RowKit
def callOk (xs : List Frm) (f : Frm) : Bool := vTr xs && vTr (f :: xs)
def callX (xs : List Frm) (f : Frm) : List Frm := cond (callOk xs f) (f :: xs) []
theorem callX_of {xs : List Frm} {f : Frm} {p : Bool} (h : callOk xs f = p) : callX xs f = cond p (f :: xs) [] := by unfold callX; rw [h]
theorem callOk_of {xs : List Frm} {f : Frm} {p q : Bool} (h1 : vTr xs = p) (h2 : vTr (f :: xs) = q) : callOk xs f = (p && q) := by unfold callOk; rw [h1, h2]
theorem callX_len (xs : List Frm) (f : Frm) : (callX xs f).length ≤ 1048576 := by
  cases h : callOk xs f
  · rw [callX_of h]; simp
  · have h2 := h
    unfold callOk at h2; simp at h2
    have := vTr_small h2.1
    rw [callX_of h]; show (xs.length + 1) ≤ _; omega
theorem box2lF (w : World) (o : Obj) (v u : Value) (U : TypeId) : ((w.alloc o).alloc (.cells #[v, u] U)).cell? ⟨w.heap.size + 1, 0, none⟩ = some v ∧ ((w.alloc o).alloc (.cells #[v, u] U)).cell? ⟨w.heap.size + 1, 1, none⟩ = some u := by
  constructor <;> (rw [World.cell?_alloc_at _ _ _ _ (by simp)]; rfl)
theorem own_cell {α : Type} [Enc α] {T : TypeId} {w : World} {cs : Array Value} (x : α) (hc : cs.toList = Enc.cells x) {base g : Nat} (hg : g = w.heap.size) (hb : base ≤ w.heap.size) : (w.alloc (.cells cs T)).ownsRow base T (Enc.size α) (.slice (some ⟨g, 0, none⟩) 1 1) 1 ([x].flatMap Enc.cells) := by
  subst hg
  have hs : cs.size = Enc.size α := by rw [← Array.length_toList, hc, Enc.len]
  refine ⟨by simp [Enc.len], .inr ⟨w.heap.size, 1, cs, rfl, hb, heap_alloc_new w _, Nat.le_refl _, by decide, by omega, ?_⟩⟩
  rw [hc, Nat.one_mul, List.flatMap_cons, List.flatMap_nil, List.append_nil, List.take_of_length_le (by rw [Enc.len]; exact Nat.le_refl _)]

set_option maxRecDepth 100000 in
theorem sCallFrom_any (A : Option Addr) (n c : Nat) (xs : List Frm) (f : Frm) (w : World) (hR : Sl w A n c xs) (hf : Enc.ok f) (hn : n ≤ 1048576) :
    Calls Try.prog 20 #[.slice A n c, .agg #[.string f.fn, .int .i64 f.line]] w fun e w' => ∃ v, e = .returned (.tuple #[v, .bool (callOk xs f)]) ∧ Owd 34 w w' v (callX xs f) ∧ Le w w' := by
  obtain ⟨i0, hi, hz0, hz1, hz2⟩ := info_parts infoFrame
  obtain rfl := hR.len
  have hokA : ∀ x ∈ f :: xs, Enc.ok x := fun x hx => by
    rcases List.mem_cons.1 hx with rfl | hx
    · exact hf
    · exact hR.ok x hx
  have HOK := Lib.hid hokA; clear hokA
  go_enter Try.func20, Try.ntmps20
  go_wp2_with (at_builtin; refine of_stop ?_)
  unfold Stop
  refine wpList_append_sl rfl _ _ 25 rfl w.heap.size 34 i0 _ 24 Try.underlying25 hi hz0 hz1 hz2 rfl _ _ [f] rfl (own_cell f rfl (by simp) (Le.new w _).size) A xs.length c xs rfl ((hR.alloc _).alloc _) (by unfold maxLen; omega) (by omega) ((Le.new w _).alloc _).size ?_
  intro v1 w1 O1 hg1 _
  have L1 : Le w w1 := (((Le.new w _).alloc _)).grown hg1 (fun k hk => by have e : w.heap.size + 1 = k := (by injection hk); omega)
  have S1 := hR.le L1
  clear hg1
  simp only [Act.put, List.setIfInBounds_toArray, List.set_cons_zero, List.set_cons_succ]
  clear hi hz0 hz1 hz2 i0 hR
  cases h1 : vTr xs
  · have HF := Lib.hid (callOk_of h1 (rfl : vTr (f :: xs) = _))
    have HX := Lib.hid (callX_of HF.out)
    go_wp2_with fail
    refine (validTrace_any _ _ _ xs _ S1).mono ?_
    rintro e w2 ⟨rfl, hle⟩
    rw [h1]
    go_wp2
    exact bodyPost_ret (v := .tuple #[.slice none 0 0, .bool false]) (by simp [results, Try.results20, go_sem]) rfl ⟨_, by rw [HF.out]; rfl, by rw [HX.out]; exact Owd.nil _ _ _, L1.trans hle⟩
  · go_wp2_with fail
    refine (validTrace_any _ _ _ xs _ S1).mono ?_
    rintro e w2 ⟨rfl, hle⟩
    rw [h1]
    replace O1 := own_le O1 hle
    replace L1 := L1.trans hle
    clear hle S1
    obtain ⟨A1, q1, rfl⟩ := own_form O1
    have S2 : Sl w2 A1 (1 + xs.length) q1 (f :: xs) := Sl.of_own O1 rfl (by decide) HOK.out
    have HD := Lib.hid (⟨by rw [show (f :: xs).length = 1 + xs.length by simp; omega]; exact O1, HOK.out⟩ : Owd 34 w w2 (.slice A1 (1 + xs.length) q1) (f :: xs))
    clear O1
    cases h2 : vTr (f :: xs)
    · have HF := Lib.hid (callOk_of h1 h2)
      have HX := Lib.hid (callX_of HF.out)
      go_wp2_with fail
      refine (validTrace_any _ _ _ (f :: xs) _ S2).mono ?_
      rintro e w3 ⟨rfl, hle⟩
      rw [h2]
      go_wp2
      exact bodyPost_ret (v := .tuple #[.slice none 0 0, .bool false]) (by simp [results, Try.results20, go_sem]) rfl ⟨_, by rw [HF.out]; rfl, by rw [HX.out]; exact Owd.nil _ _ _, L1.trans hle⟩
    · have HF := Lib.hid (callOk_of h1 h2)
      have HX := Lib.hid (callX_of HF.out)
      go_wp2_with fail
      refine (validTrace_any _ _ _ (f :: xs) _ S2).mono ?_
      rintro e w3 ⟨rfl, hle⟩
      rw [h2]
      go_wp2
      exact bodyPost_ret (v := .tuple #[.slice A1 (1 + xs.length) q1, .bool true]) (by simp [results, Try.results20, go_sem]) rfl ⟨_, by rw [HF.out]; rfl, by rw [HX.out]; exact HD.out.le hle, L1.trans hle⟩

set_option maxRecDepth 100000 in
theorem iCallFrom_any (A : Option Addr) (n c : Nat) (xs : List Frm) (f : Frm) (w : World) (hR : Sl w A n c xs) (hf : Enc.ok f) (hn : n ≤ 1048576) :
    Calls Try.prog 22 #[.slice A n c, .agg #[.string f.fn, .int .i64 f.line]] w fun e w' => ∃ v, e = .returned (.tuple #[v, .bool (callOk xs f)]) ∧ Owd 34 w w' v (callX xs f) ∧ Le w w' := by
  obtain rfl := hR.len
  cases h1 : vTr xs
  · have HF := Lib.hid (callOk_of h1 (rfl : vTr (f :: xs) = _))
    have HX := Lib.hid (callX_of HF.out)
    go_enter Try.func22, Try.ntmps22
    go_wp2_with fail
    refine (iValidTrace_any _ _ _ xs _ (hR.alloc _)).mono ?_
    rintro e w2 ⟨rfl, hle⟩
    rw [h1]
    go_wp2
    exact bodyPost_ret (v := .tuple #[.slice none 0 0, .bool false]) (by simp [results, Try.results22, go_sem]) rfl ⟨_, by rw [HF.out]; rfl, by rw [HX.out]; exact Owd.nil _ _ _, (Le.new _ _).trans hle⟩
  · go_enter Try.func22, Try.ntmps22
    go_wp2_with fail
    obtain ⟨c0, c1, zc0, L0⟩ := boxF w f 34
    have zc1 := zc0
    have z0 := zc0
    have z1 := zc0
    have S0 := hR.le L0
    generalize w.alloc (.cells #[.string f.fn, .int .i64 f.line] 34) = W at *
    refine (iValidTrace_any _ _ _ xs _ S0).mono ?_
    rintro e w2 ⟨rfl, hle⟩
    rw [h1]
    replace c0 := (hle.cell z0).trans c0
    replace c1 := (hle.cell z1).trans c1
    replace z0 := Nat.lt_of_lt_of_le z0 hle.size
    replace z1 := Nat.lt_of_lt_of_le z1 hle.size
    replace L0 := L0.trans hle
    replace S0 := S0.le hle
    clear hle hR zc0 zc1
    go_wp2_with fail
    have hl1 := (Le.new w2 (.cells #[.string f.fn, .int .i64 f.line] 34)).alloc (.cells #[.slice (some ⟨w2.heap.size, 0, none⟩) 1 1, .slice A xs.length c] 25)
    obtain ⟨cb0, cb1⟩ := box2lF w2 (.cells #[.string f.fn, .int .i64 f.line] 34) (.slice (some ⟨w2.heap.size, 0, none⟩) 1 1) (.slice A xs.length c) 25
    have S1 := (sl_one (w := w2) (cs := #[.string f.fn, .int .i64 f.line]) (T := 34) f rfl hf rfl).alloc (.cells #[.slice (some ⟨w2.heap.size, 0, none⟩) 1 1, .slice A xs.length c] 25)
    have zb : w2.heap.size + 1 < ((w2.alloc (.cells #[.string f.fn, .int .i64 f.line] 34)).alloc (.cells #[.slice (some ⟨w2.heap.size, 0, none⟩) 1 1, .slice A xs.length c] 25)).heap.size := by simp
    replace L0 := L0.trans hl1
    replace S0 := S0.le hl1
    clear hl1 c0 c1 z0 z1
    generalize (w2.alloc (.cells #[.string f.fn, .int .i64 f.line] 34)).alloc (.cells #[.slice (some ⟨w2.heap.size, 0, none⟩) 1 1, .slice A xs.length c] 25) = W3 at *
    refine (concatFrame_any _ A 1 1 _ c _ [f] xs W3 S1 S0 (by omega) (by omega) cb0 cb1 zb).mono ?_
    rintro e w4 ⟨v, rfl, D, hle⟩
    replace D := D.mono L0
    replace L0 := L0.trans hle
    clear hle cb0 cb1 S1 S0 zb
    have HD := Lib.hid D
    obtain ⟨A2, q2, rfl, S2, _⟩ := D.form (by decide)
    clear D
    cases h2 : vTr (f :: xs)
    all_goals
      have HF := Lib.hid (callOk_of h1 h2)
      have HX := Lib.hid (callX_of HF.out)
      go_wp2_with fail
      refine (iValidTrace_any _ _ _ (f :: xs) _ S2).mono ?_
      rintro e w5 ⟨rfl, hle⟩
      rw [h2]
      go_wp2
    · exact bodyPost_ret (v := .tuple #[.slice none 0 0, .bool false]) (by simp [results, Try.results22, go_sem]) rfl ⟨_, by rw [HF.out]; rfl, by rw [HX.out]; exact Owd.nil _ _ _, L0.trans hle⟩
    · exact bodyPost_ret (v := .tuple #[.slice A2 (xs.length + 1) q2, .bool true]) (by simp [results, Try.results22, go_sem]) rfl ⟨_, by rw [HF.out]; rfl, by rw [HX.out]; exact HD.out.le hle, L0.trans hle⟩
end Go.Proofs.Ytblmbkbdfngogaa
