/- law helpers of groups: how often a leaf is in a list -/
import Derived.Test.YtkpnajffeclmdaaCl31
import Derived.Test.YtkpnajffeclmdaaCl19
namespace Go.Proofs.Ytkpnajffeclmdaa
open Go.RowKit
theorem cntL_app (x : Lef) : ∀ A B : List Lef, cntL x (A ++ B) = cntL x A + cntL x B
  | [], B => by show cntL x B = 0 + cntL x B; omega
  | y :: r, B => by
    have ih := cntL_app x r B
    rw [List.cons_append, cntL, cntL, ih]
    cases decide (y.cls = x.cls) && decide (y.code = x.code)
    · rfl
    · show 1 + _ = 1 + _ + _; omega
theorem cntL_snoc {x : Lef} {V : List Lef} {k : Nat} (h : k < V.length) {p q : Bool} (hp : (V[k].cls == x.cls) = p) (hq : (V[k].code == x.code) = q) : cntL x (V.take (k + 1)) = cntL x (V.take k) + cond (p && q) 1 0 := by
  rw [List.take_succ_eq_append_getElem h, cntL_app]
  congr 1
  rw [cntL]
  have e1 : decide (V[k].cls = x.cls) = p := by rw [← hp]; exact Bool.eq_iff_iff.2 (by simp)
  have e2 : decide (V[k].code = x.code) = q := by rw [← hq]; exact Bool.eq_iff_iff.2 (by simp)
  rw [e1, e2]
  cases p <;> cases q <;> rfl
theorem cntL_le (x : Lef) : ∀ V : List Lef, cntL x V ≤ V.length
  | [] => Nat.le_refl _
  | y :: r => by
    have := cntL_le x r
    rw [cntL, List.length_cons]
    cases decide (y.cls = x.cls) && decide (y.code = x.code)
    · show cntL x r ≤ _; omega
    · show 1 + cntL x r ≤ _; omega
theorem boxL (w : World) (x : Lef) (T : TypeId) : (w.alloc (.cells #[.int .i64 x.cls, .int .i64 x.code] T)).cell? ⟨w.heap.size, 0, none⟩ = some (.int .i64 x.cls) ∧ (w.alloc (.cells #[.int .i64 x.cls, .int .i64 x.code] T)).cell? ⟨w.heap.size, 1, none⟩ = some (.int .i64 x.code) ∧ w.heap.size < (w.alloc (.cells #[.int .i64 x.cls, .int .i64 x.code] T)).heap.size ∧ Le w (w.alloc (.cells #[.int .i64 x.cls, .int .i64 x.code] T)) := by
  refine ⟨?_, ?_, by simp, Le.new w _⟩
  · rw [World.cell?_alloc_at _ _ _ _ rfl]; rfl
  · rw [World.cell?_alloc_at _ _ _ _ rfl]; rfl
set_option maxRecDepth 100000 in
theorem count_any (A : Option Addr) (n cap : Nat) (V : List Lef) (x : Lef) (w : World) (hR : Sl w A n cap V) :
    Calls Try.prog 15 #[.slice A n cap, .agg #[.int .i64 x.cls, .int .i64 x.code]] w fun e w' => e = .returned (.int .i64 ((cntL x V : Nat) : Int)) ∧ Le w w' := by
  obtain rfl := hR.len
  have hm := hR.n_le
  obtain ⟨c0, c1, z0, L0⟩ := boxL w x 38
  have S := hR.le L0
  go_enter Try.func15, Try.ntmps15
  go_wp2
  generalize w.alloc (.cells #[.int .i64 x.cls, .int .i64 x.code] 38) = W at *
  go_loopw [5, 6] (fun v i wr => ∃ k : Nat, k ≤ V.length ∧ i = .int .i64 k ∧ v = .int .i64 ((cntL x (V.take k) : Nat) : Int) ∧ Le W wr) (fun _ i _ => V.length - (intOf i).toNat)
  case atStart => exact ⟨0, Nat.zero_le _, rfl, rfl, Le.refl _⟩
  case round =>
    obtain ⟨k, hk, rfl, rfl, LW⟩ := hrel
    have hc1 := (LW.cell z0).trans c1
    replace c0 := (LW.cell z0).trans c0
    replace z0 := Nat.lt_of_lt_of_le z0 LW.size
    replace S := S.le LW
    replace L0 := L0.trans LW
    have hle := cntL_le x (V.take k)
    rw [List.length_take] at hle
    by_cases hlt : k < V.length
    · have hki : (k : Int) < V.length := by omega
      obtain ⟨b, off, rfl, hb, e0, e1, -⟩ := S.lef_at hlt
      have G0 := cell_ext hb e0
      have G1 := cell_ext hb e1
      have F0 := cell_ext z0 c0
      have F1 := cell_ext z0 hc1
      cases q0 : (V[k].cls == x.cls) <;> cases q1 : (V[k].code == x.code)
      all_goals
        have hsn := cntL_snoc hlt q0 q1
        go_wp2_with fail
        refine wp_region_ext (by kernel_rfl) (by kernel_rfl) ?_
        repeat (go_big_quiet_step (fail))
        refine wpQuiet_nil ?_
        intro _ hw'
        obtain ⟨gg, rfl⟩ := hw'
        have hw2 := Le.ext wr gg
        generalize wr.ext gg = W2 at *
        generalize cntL x (V.take k) = z at *
        go_wp2
        go_roundw
        case rel => exact ⟨k + 1, by omega, by go_num, by rw [hsn]; first | rfl | (show _ = Value.int .i64 ((z + 1 : Nat) : Int); go_num), LW.trans hw2⟩
        case measure => simp [intOf]; omega
    · have hki : ¬ (k : Int) < V.length := by omega
      obtain rfl : k = V.length := by omega
      rw [List.take_length]
      go_wp2
      go_ret
      exact ⟨rfl, L0⟩
end Go.Proofs.Ytkpnajffeclmdaa
