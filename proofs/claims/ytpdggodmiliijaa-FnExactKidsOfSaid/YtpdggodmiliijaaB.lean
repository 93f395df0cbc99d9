import Derived.Test.YtpdggodmiliijaaA
namespace Go.Proofs.Ytpdggodmiliijaa
open Go.RowKit

def badCls (all : List Cls) (i : Nat) (c : Cls) : Bool := !okName c.name || decide (0 ≤ findN (all.take i) c.name 0) || ((i : Int) == 0 && c.parent != -1) || (decide (0 < (i : Int)) && !(decide (0 ≤ c.parent) && decide (c.parent ≤ (i : Int) - 1)))
def okFrom (all : List Cls) : Nat → List Cls → Bool
  | _, [] => decide (1 ≤ all.length) && decide (all.length ≤ 8)
  | i, c :: r => !badCls all i c && okFrom all (i + 1) r
def okTree (all : List Cls) : Bool := okFrom all 0 all
theorem okFrom_at {all : List Cls} {k : Nat} (h : k < all.length) : okFrom all k (all.drop k) = (!badCls all k all[k] && okFrom all (k + 1) (all.drop (k + 1))) := by
  rw [List.drop_eq_getElem_cons h]; rfl
theorem okFrom_end {all : List Cls} {k : Nat} (h : ¬ k < all.length) : okFrom all k (all.drop k) = (decide ((1 : Int) ≤ all.length) && decide ((all.length : Int) ≤ 8)) := by
  rw [List.drop_eq_nil_of_le (by omega)]
  show (decide (1 ≤ all.length) && decide (all.length ≤ 8)) = _
  congr 1 <;> simp <;> omega

set_option maxHeartbeats 8000000 in
theorem validTree_any (A : Option Addr) (n cap : Nat) (xs : List Cls) (w : World) (hR : Sl w A n cap xs) :
    Calls Try.prog 78 #[.agg #[.slice A n cap]] w fun e w' => e = .returned (.bool (okTree xs)) ∧ Le w w' := by
  obtain rfl := hR.len
  have hm := hR.n_le
  have hcp := hR.cap_
  go_enter Try.func78, Try.ntmps78
  go_wp2
  go_loopw [3] (fun i wr => ∃ k : Nat, k ≤ xs.length ∧ i = .int .i64 k ∧ okTree xs = okFrom xs k (xs.drop k) ∧ Le (w.alloc (.cells #[.slice A xs.length cap] 32)) wr) (fun i _ => xs.length - (intOf i).toNat)
  case atStart => exact ⟨0, Nat.zero_le _, rfl, rfl, Le.refl _⟩
  case round =>
    obtain ⟨k, hk, rfl, hr, hle⟩ := hrel
    have HR := Lib.hid hr; clear hr
    have hz : w.heap.size < wr.heap.size := by have := hle.size; simp at this; omega
    have hT : wr.cell? ⟨w.heap.size, 0, none⟩ = some (.slice A xs.length cap) := by
      rw [hle.cell (by simp)]; simp
    have hwr : Le w wr := (Le.new w _).trans hle
    have hRr := hR.le hwr
    clear hR
    by_cases hlt : k < xs.length
    · obtain ⟨b, off, rfl, hb, hcell, hcell2, hns, hp1, hp2⟩ := hRr.cls_at hlt
      go_wp2
      generalize hWd : wr.alloc _ = W
      have hWle : Le wr W := by rw [← hWd]; exact Le.new wr _
      have e1 : W.cell? ⟨wr.heap.size, 0, none⟩ = some (.string xs[k].name) := by rw [← hWd]; simp
      have e2 : W.cell? ⟨wr.heap.size, 1, none⟩ = some (.int .i64 xs[k].parent) := by rw [← hWd]; simp
      have hzW : wr.heap.size < W.heap.size := by rw [← hWd]; simp
      have e3 : W.cell? ⟨w.heap.size, 0, none⟩ = some (.slice (some ⟨b, off, none⟩) xs.length cap) := (hWle.cell hz).trans hT
      have hRW := hRr.le hWle
      clear hWd hcell hcell2 hT
      have E1 := cell_ext hzW e1
      have E2 := cell_ext hzW e2
      have E3 := cell_ext (by omega) e3
      have HB : Hid (okTree xs = (!badCls xs k xs[k] && okFrom xs (k + 1) (xs.drop (k + 1)))) := by show _ = _; rw [HR.out, okFrom_at hlt]
      unfold badCls at HB
      by_cases hk0 : k = 0
      all_goals cases h1 : okName xs[k].name
      all_goals cases h2 : decide (0 ≤ findN (xs.take k) xs[k].name 0)
      all_goals cases h4 : xs[k].parent != -1
      all_goals cases h6 : (decide (0 ≤ xs[k].parent) && decide (xs[k].parent ≤ (k : Int) - 1))
      all_goals
        have h3 : ((k : Int) == 0) = decide (k = 0) := by
          by_cases e : k = 0 <;> simp [e]
        have h5 : decide (0 < (k : Int)) = !decide (k = 0) := by
          by_cases e : k = 0 <;> simp [e]
          omega
        have h5n : decide (0 < k) = !decide (k = 0) := by
          by_cases e : k = 0 <;> simp [e]
          omega
      all_goals first | rw [decide_eq_true hk0] at h3 h5 h5n | rw [decide_eq_false hk0] at h3 h5 h5n
      all_goals simp only [Bool.not_true, Bool.not_false] at h5 h5n
      all_goals
        have hout := HB.out
        simp only [h1, h2, h3, h4, h5, h6] at hout
        have HO := Lib.hid hout
        clear hout HB
        clear hk0
      all_goals
        refine wp_region_ext (by kernel_rfl) (by kernel_rfl) ?_
        repeat (go_big_quiet_step (first | (go_at_call 96; exact Calls.ext_same (Calls.val (validName_any _ _ hns) (vb h1))) | (go_at_call 97; exact Calls.ext_same (classNamed_any _ _ _ _ _ _ ((hRW.ext _).take_ _ (by omega)))) | (go_at_call 76; exact Calls.ext_same (Calls.val (inRange_any _ _ _ _) (vb h6)))))
        refine wpQuiet_nil ?_
        intro _ hw'
        obtain ⟨g, rfl⟩ := hw'
        have hg := hWle.trans (Le.ext W g)
        generalize W.ext g = W2 at *
        go_wp2
        first
          | (go_ret; exact ⟨ret_bool (by rw [HO.out]; rfl), hwr.trans hg⟩)
          | (go_roundw
             case rel => exact ⟨k + 1, by omega, by go_num, by rw [HO.out]; rfl, hle.trans hg⟩
             case measure => simp [intOf]; omega)
    · have HF : Hid (okTree xs = (decide ((1 : Int) ≤ xs.length) && decide ((xs.length : Int) ≤ 8))) := by show _ = _; rw [HR.out, okFrom_end hlt]
      go_wp2_with (go_at_call 76; refine (inRange_any _ _ _ _).mono ?_; rintro e w' ⟨rfl, rfl⟩)
      go_ret
      exact ⟨ret_bool HF.out.symm, hwr⟩
end Go.Proofs.Ytpdggodmiliijaa
