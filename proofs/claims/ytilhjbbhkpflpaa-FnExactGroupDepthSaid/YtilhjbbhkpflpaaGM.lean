/- groups: GroupDepth of both -/
import Derived.Test.YtilhjbbhkpflpaaGL
namespace Go.Proofs.Ytilhjbbhkpflpaa
open Go.RowKit
def depK (g : List Prt) : Nat → Int
  | 0 => 0
  | k + 1 => if depK g k < (gAt g k).depth then (gAt g k).depth else depK g k
def depX (xs : List Cls) (g : List Prt) : Int := if gOkS xs g = true then depK g g.length else -1
set_option maxHeartbeats 1000000 in
theorem sGroupDepth_any (A B : Option Addr) (n cap m c : Nat) (xs : List Cls) (g : List Prt) (w : World) (hT : Sl w A n cap xs) (hG : Sl w B m c g) :
    Calls Try.prog 13 #[.agg #[.slice A n cap], .slice B m c] w fun e w' => e = .returned (.int .i64 (depX xs g)) ∧ Le w w' := by
  obtain rfl := hG.len
  have hm := hG.n_le
  cases hv : gOkS xs g
  · have HF : Hid (depX xs g = -1) := by show _ = _; unfold depX; rw [hv]; rfl
    go_enter Try.func13, Try.ntmps13
    go_wp2_with fail
    refine (validGroup_any _ _ _ _ _ _ xs g _ (hT.alloc _) (hG.alloc _)).mono ?_
    rintro e w2 ⟨rfl, hle⟩
    rw [hv]
    go_wp2
    go_ret
    exact ⟨congrArg (fun z => Ending.returned (.int .i64 z)) HF.out.symm, (Le.new w _).trans hle⟩
  · have HF : Hid (depX xs g = depK g g.length) := by show _ = _; unfold depX; rw [hv]; rfl
    go_enter Try.func13, Try.ntmps13
    go_wp2_with fail
    refine (validGroup_any _ _ _ _ _ _ xs g _ (hT.alloc _) (hG.alloc _)).mono ?_
    rintro e w2 ⟨rfl, hle⟩
    rw [hv]
    go_wp2
    replace hG := hG.le ((Le.new w _).trans hle)
    replace hle := (Le.new w _).trans hle
    go_loopw [5, 6] (fun n i wr => ∃ k : Nat, k ≤ g.length ∧ i = .int .i64 k ∧ n = .int .i64 (depK g k) ∧ Le w2 wr) (fun _ i _ => g.length - (intOf i).toNat)
    case atStart => exact ⟨0, Nat.zero_le _, rfl, rfl, Le.refl _⟩
    case round =>
      obtain ⟨k, hk, rfl, rfl, hlr⟩ := hrel
      have TG := hG.le hlr
      have LR := hle.trans hlr
      clear hG
      by_cases hlt : k < g.length
      · obtain ⟨b, off, rfl, hb, d0, d1, d2, d3, -⟩ := TG.prt_at hlt
        have hkx : (0 : Int) ≤ (k : Int) := by omega
        by_cases hd : depK g k < g[k].depth
        · have HD : Hid (g[k].depth = depK g (k + 1)) := by
            show _ = _
            rw [show depK g (k + 1) = if depK g k < (gAt g k).depth then (gAt g k).depth else depK g k from rfl, gAt_at hlt, if_pos hd]
          go_wp2
          go_roundw
          case rel => exact ⟨k + 1, by omega, by go_num, congrArg (Value.int .i64) HD.out, hlr⟩
          case measure => simp [intOf]; omega
        · have HD : Hid (depK g k = depK g (k + 1)) := by
            show _ = _
            rw [show depK g (k + 1) = if depK g k < (gAt g k).depth then (gAt g k).depth else depK g k from rfl, gAt_at hlt, if_neg hd]
          go_wp2
          go_roundw
          case rel => exact ⟨k + 1, by omega, by go_num, congrArg (Value.int .i64) HD.out, hlr⟩
          case measure => simp [intOf]; omega
      · obtain rfl : k = g.length := by omega
        go_wp2
        go_ret
        exact ⟨congrArg (fun z => Ending.returned (.int .i64 z)) HF.out.symm, LR⟩
set_option maxHeartbeats 1000000 in
theorem iGroupDepth_any (A B : Option Addr) (n cap m c : Nat) (xs : List Cls) (g : List Prt) (w : World) (hT : Sl w A n cap xs) (hG : Sl w B m c g) :
    Calls Try.prog 14 #[.agg #[.slice A n cap], .slice B m c] w fun e w' => e = .returned (.int .i64 (depX xs g)) ∧ Le w w' := by
  obtain rfl := hG.len
  have hm := hG.n_le
  cases hv : gOkS xs g
  · have HF : Hid (depX xs g = -1) := by show _ = _; unfold depX; rw [hv]; rfl
    go_enter Try.func14, Try.ntmps14
    go_wp2_with fail
    refine (iValidGroupS_any _ _ _ _ _ _ xs g _ (hT.alloc _) (hG.alloc _)).mono ?_
    rintro e w2 ⟨rfl, hle⟩
    rw [hv]
    go_wp2
    go_ret
    exact ⟨congrArg (fun z => Ending.returned (.int .i64 z)) HF.out.symm, (Le.new w _).trans hle⟩
  · have HF : Hid (depX xs g = depK g g.length) := by show _ = _; unfold depX; rw [hv]; rfl
    go_enter Try.func14, Try.ntmps14
    go_wp2_with fail
    refine (iValidGroupS_any _ _ _ _ _ _ xs g _ (hT.alloc _) (hG.alloc _)).mono ?_
    rintro e w2 ⟨rfl, hle⟩
    rw [hv]
    go_wp2
    replace hG := hG.le ((Le.new w _).trans hle)
    replace hle := (Le.new w _).trans hle
    go_loopw [5, 14] (fun n i wr => ∃ k : Nat, k ≤ g.length ∧ i = .int .i64 k ∧ n = .int .i64 (depK g k) ∧ Le w2 wr) (fun _ i _ => g.length - (intOf i).toNat)
    case atStart => exact ⟨0, Nat.zero_le _, rfl, rfl, Le.refl _⟩
    case round =>
      obtain ⟨k, hk, rfl, rfl, hlr⟩ := hrel
      have TG := hG.le hlr
      have LR := hle.trans hlr
      clear hG
      by_cases hlt : k < g.length
      · obtain ⟨b, off, rfl, hb, d0, d1, d2, d3, -⟩ := TG.prt_at hlt
        have hkx : (0 : Int) ≤ (k : Int) := by omega
        by_cases hd : depK g k < g[k].depth
        · have HD : Hid (g[k].depth = depK g (k + 1)) := by
            show _ = _
            rw [show depK g (k + 1) = if depK g k < (gAt g k).depth then (gAt g k).depth else depK g k from rfl, gAt_at hlt, if_pos hd]
          go_wp2
          go_roundw
          case rel => exact ⟨k + 1, by omega, by go_num, congrArg (Value.int .i64) HD.out, (by first | exact hlr | exact hlr.alloc _)⟩
          case measure => simp [intOf]; omega
        · have HD : Hid (depK g k = depK g (k + 1)) := by
            show _ = _
            rw [show depK g (k + 1) = if depK g k < (gAt g k).depth then (gAt g k).depth else depK g k from rfl, gAt_at hlt, if_neg hd]
          go_wp2
          go_roundw
          case rel => exact ⟨k + 1, by omega, by go_num, congrArg (Value.int .i64) HD.out, (by first | exact hlr | exact hlr.alloc _)⟩
          case measure => simp [intOf]; omega
      · obtain rfl : k = g.length := by omega
        go_wp2
        go_ret
        exact ⟨congrArg (fun z => Ending.returned (.int .i64 z)) HF.out.symm, LR⟩
end Go.Proofs.Ytilhjbbhkpflpaa
