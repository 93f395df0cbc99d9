/- programs: a line with a program as its block: under of both -/
import Derived.Test.YtjcellhpmooifaaOneLin
import Derived.Test.YtjcellhpmooifaaPhQ
namespace Go.Proofs.Ytjcellhpmooifaa
open Go.RowKit
def deep (x : Lin) : Lin := { x with depth := x.depth + 1 }
def passL : Lin := ⟨1, 0, 0, 0⟩
def undL (h : Lin) (p : List Lin) : List Lin := h :: (if p = [] then [passL] else p.map deep)
theorem undL_nil (h : Lin) : undL h [] = [h, passL] := rfl
theorem undL_some {h : Lin} {p : List Lin} (hp : 0 < p.length) : undL h p = h :: p.map deep := by
  unfold undL
  rw [if_neg (fun e => by rw [e] at hp; simp at hp)]
theorem deep_ok {x : Lin} (h : Enc.ok x) (hd : x.depth ≤ 5) : Enc.ok (deep x) := ⟨by have := h.1; simp only [deep]; omega, by simp only [deep]; omega, h.2.2.1, h.2.2.2.1, h.2.2.2.2.1, h.2.2.2.2.2.1, h.2.2.2.2.2.2.1, h.2.2.2.2.2.2.2⟩
theorem pass_ok : Enc.ok passL := ⟨by decide, by decide, by decide, by decide, by decide, by decide, by decide, by decide⟩
theorem undL_ok {h : Lin} {p : List Lin} (hh : Enc.ok h) (hp : ∀ x ∈ p, Enc.ok x) (hd : ∀ x ∈ p, x.depth ≤ 5) : ∀ x ∈ undL h p, Enc.ok x := by
  intro x hx
  unfold undL at hx
  rcases List.mem_cons.1 hx with rfl | hx
  · exact hh
  · split at hx
    · rw [List.mem_singleton.1 hx]; exact pass_ok
    · obtain ⟨y, hy, rfl⟩ := List.mem_map.1 hx
      exact deep_ok (hp y hy) (hd y hy)
theorem undL_len (h : Lin) (p : List Lin) : (undL h p).length ≤ p.length + 2 := by
  unfold undL
  split
  · simp
  · simp
set_option maxHeartbeats 2000000 in
set_option maxRecDepth 100000 in
theorem iunder_any (h : Lin) (A : Option Addr) (n cap : Nat) (p : List Lin) (hsm : p.length ≤ 1048576) (hh : Enc.ok h) (hd : ∀ x ∈ p, x.depth ≤ 5) (w : World) (hR : Sl w A n cap p) :
    Calls Try.prog 73 #[.agg #[.int .i64 h.depth, .int .i64 h.kind, .int .i64 h.a, .int .i64 h.b], .slice A n cap] w fun e w' => ∃ v, e = .returned v ∧ Owd 67 w w' v (undL h p) ∧ Le w w' := by
  obtain rfl := hR.len
  obtain ⟨i0, hq, hz0, hz1, hz2⟩ := info_parts infoLn
  have HOK := Lib.hid (undL_ok hh hR.ok hd)
  have HH := Lib.hid hh
  have HD := Lib.hid hd
  have HRO := Lib.hid hR.ok
  clear hd
  go_enter Try.func73, Try.ntmps73
  by_cases hp0 : p.length = 0
  · have hp0b : ((p.length : Int) == 0) = true := by (rw [beq_iff_eq]; omega)
    obtain rfl : p = [] := List.eq_nil_of_length_eq_zero hp0
    clear hp0
    have O0 : ((w.alloc (.cells #[.int .i64 h.depth, .int .i64 h.kind, .int .i64 h.a, .int .i64 h.b] 67)).alloc (.cells #[.int .i64 h.depth, .int .i64 h.kind, .int .i64 h.a, .int .i64 h.b] 67)).ownsRow w.heap.size 67 4 (.slice (some ⟨w.heap.size + 1, 0, none⟩) 1 1) 1 ([h].flatMap Enc.cells) := by
      have := World.ownsRow_lit (base := w.heap.size) (e := 67) (size := 4) (w.alloc (.cells #[.int .i64 h.depth, .int .i64 h.kind, .int .i64 h.a, .int .i64 h.b] 67)) #[.int .i64 h.depth, .int .i64 h.kind, .int .i64 h.a, .int .i64 h.b] 1 (by simp) (by unfold maxLen; omega) (by simp)
      simpa [Enc.cells] using this
    have L0 := (Le.new w (.cells #[.int .i64 h.depth, .int .i64 h.kind, .int .i64 h.a, .int .i64 h.b] 67)).alloc (.cells #[.int .i64 h.depth, .int .i64 h.kind, .int .i64 h.a, .int .i64 h.b] 67)
    go_wp2_with (at_builtin; refine wpList_append_sl rfl _ _ 33 rfl w.heap.size 67 i0 _ 32 Try.underlying33 hq hz0 hz1 hz2 rfl (.slice (some ⟨w.heap.size + 1, 0, none⟩) 1 1) 1 [h] rfl (O0.alloc _) _ 1 1 [passL] rfl (sl_one passL rfl pass_ok (by simp)) (by unfold maxLen; omega) (by omega) (L0.alloc _).size ?_; intro v1 w3 OA hgA _; have LA := (L0.alloc _).grown hgA (fun k hk => (O0.lt k hk).1))
    go_ret
    exact ⟨_, rfl, ⟨OA, HOK.out⟩, LA⟩
  · have hp0b : ((p.length : Int) == 0) = false := bf (by omega)
    have HU : Hid (undL h p = h :: p.map deep) := undL_some (by omega)
    have O0 : ((w.alloc (.cells #[.int .i64 h.depth, .int .i64 h.kind, .int .i64 h.a, .int .i64 h.b] 67)).alloc (.cells #[.int .i64 h.depth, .int .i64 h.kind, .int .i64 h.a, .int .i64 h.b] 67)).ownsRow w.heap.size 67 4 (.slice (some ⟨w.heap.size + 1, 0, none⟩) 1 1) 1 ([h].flatMap Enc.cells) := by
      have := World.ownsRow_lit (base := w.heap.size) (e := 67) (size := 4) (w.alloc (.cells #[.int .i64 h.depth, .int .i64 h.kind, .int .i64 h.a, .int .i64 h.b] 67)) #[.int .i64 h.depth, .int .i64 h.kind, .int .i64 h.a, .int .i64 h.b] 1 (by simp) (by unfold maxLen; omega) (by simp)
      simpa [Enc.cells] using this
    have L0 := (Le.new w (.cells #[.int .i64 h.depth, .int .i64 h.kind, .int .i64 h.a, .int .i64 h.b] 67)).alloc (.cells #[.int .i64 h.depth, .int .i64 h.kind, .int .i64 h.a, .int .i64 h.b] 67)
    go_wp2
    go_loopw [5, 7, 19] (fun v _ q wr => ∃ (k : Nat), k ≤ p.length ∧ q = .int .i64 k ∧ wr.ownsRow w.heap.size 67 4 v (k + 1) ((h :: (p.take k).map deep).flatMap Enc.cells) ∧ Le w wr) (fun _ _ q _ => p.length - (intOf q).toNat)
    case atStart => exact ⟨0, Nat.zero_le _, rfl, by simpa using O0, L0⟩
    case round =>
      obtain ⟨k, hk, rfl, O1, L1⟩ := hrel
      have S := hR.le L1
      have hs := L1.size
      clear O0 L0
      by_cases hlt : k < p.length
      · obtain ⟨b, off, rfl, hb, d0, d1, d2, d3, -⟩ := S.lin_at hlt
        have hdk := HD.out _ (List.getElem_mem hlt)
        have hok := Lib.hid (deep_ok (HRO.out _ (List.getElem_mem hlt)) hdk)
        have hlo := (HRO.out _ (List.getElem_mem hlt)).1
        have HT : Hid ((h :: (p.take (k + 1)).map deep) = (h :: (p.take k).map deep) ++ [deep p[k]]) := by
          show _ = _
          rw [List.take_succ_eq_append_getElem hlt, List.map_append]; rfl
        have HDE : Hid (deep p[k] = ⟨p[k].depth + 1, p[k].kind, p[k].a, p[k].b⟩) := rfl
        have hw1 : IntKind.i64.wrap (p[k].depth + 1) = p[k].depth + 1 := IntWalk.i64_in _ (by omega)
        generalize deep p[k] = y at *
        generalize p[k].depth = vd at *
        generalize p[k].kind = vk at *
        generalize p[k].a = va at *
        generalize p[k].b = vb at *
        have ey := HDE.out
        subst ey
        generalize (h :: (p.take k).map deep) = E at *
        clear HDE
        go_wp2_with (at_builtin; refine wpList_append_sl rfl _ _ 33 rfl w.heap.size 67 i0 _ 32 Try.underlying33 hq hz0 hz1 hz2 rfl _ (k + 1) E rfl ((O1.alloc _).alloc _) _ 1 1 [(⟨vd + 1, vk, va, vb⟩ : Lin)] rfl (sl_one (⟨vd + 1, vk, va, vb⟩ : Lin) rfl hok.out (by simp)) (by unfold maxLen; omega) (by omega) ((L1.alloc _).alloc _).size ?_; intro v1 w3 OA hgA _; have LA := ((L1.alloc _).alloc _).grown hgA (fun k hk => (O1.lt k hk).1))
        go_roundw
        case rel => exact ⟨k + 1, by omega, by go_num, by rw [HT.out]; exact OA, LA⟩
        case measure => simp [intOf]; omega
      · obtain rfl : k = p.length := by omega
        have HF : Hid (∀ v, wr.ownsRow w.heap.size 67 4 v (p.length + 1) ((h :: (p.take p.length).map deep).flatMap Enc.cells) → Owd 67 w wr v (undL h p)) := fun v hv => by
          rw [List.take_length, ← HU.out] at hv
          exact ⟨by rw [show (undL h p).length = p.length + 1 by rw [HU.out]; simp]; exact hv, HOK.out⟩
        go_wp2
        go_ret
        exact ⟨_, rfl, HF.out _ O1, L1⟩
/-- a program that has been held against the rules -/
def chkX (xs : List Cls) (p : List Lin) : List Lin := cond (vp xs p) p []
end Go.Proofs.Ytjcellhpmooifaa
