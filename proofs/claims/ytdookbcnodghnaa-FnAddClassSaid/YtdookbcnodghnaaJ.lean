import Derived.Test.YtdookbcnodghnaaC
import Derived.Test.YtdookbcnodghnaaD
namespace Go.Proofs.Ytdookbcnodghnaa
open Go.RowKit

def cNamed (xs : List Cls) (s : ByteArray) : Int := if okTree xs then findN xs s 0 else -1
theorem cNamed_no {xs : List Cls} (h : okTree xs = false) (s : ByteArray) : cNamed xs s = -1 := by unfold cNamed; rw [h]; rfl
theorem cNamed_yes {xs : List Cls} (h : okTree xs = true) (s : ByteArray) : cNamed xs s = findN xs s 0 := by unfold cNamed; rw [h]; rfl
theorem cNamed_of {xs : List Cls} {b : Bool} (h : okTree xs = b) (s : ByteArray) : cNamed xs s = cond b (findN xs s 0) (-1) := by unfold cNamed; rw [h]; cases b <;> rfl
theorem sClassNamed_any (A : Option Addr) (n cap : Nat) (xs : List Cls) (s : ByteArray) (w : World) (hR : Sl w A n cap xs) :
    Calls Try.prog 16 #[.agg #[.slice A n cap], .string s] w fun e w' => e = .returned (.int .i64 (cNamed xs s)) ∧ Le w w' := by
  have hl := Le.new w (.cells #[.slice A n cap] 25)
  have c0 : (w.alloc (.cells #[.slice A n cap] 25)).cell? ⟨w.heap.size, 0, none⟩ = some (.slice A n cap) := by rw [World.cell?_alloc_at _ _ _ _ rfl]; rfl
  have hz : w.heap.size < (w.alloc (.cells #[.slice A n cap] 25)).heap.size := by simp
  have hS := hR.le hl
  cases h1 : okTree xs
  all_goals
    have HF := Lib.hid (cNamed_of h1 s)
    go_enter Try.func16, Try.ntmps16
    go_wp2_with fail
    generalize w.alloc (.cells #[.slice A n cap] 25) = W at *
    refine (validTree_any A n cap xs _ hS).mono ?_
    rintro e w2 ⟨rfl, hle⟩
    rw [h1]
    have c2 := (hle.cell hz).trans c0
    have hS2 := hS.le hle
    go_wp2_with (go_at_call 60; refine (classNamed_any _ _ _ xs _ _ hS2).mono ?_; rintro e w' ⟨rfl, rfl⟩)
    go_ret
    exact ⟨ret_int HF.out.symm, hl.trans hle⟩

theorem iClassNamed_any (A : Option Addr) (n cap : Nat) (xs : List Cls) (s : ByteArray) (w : World) (hR : Sl w A n cap xs) :
    Calls Try.prog 15 #[.agg #[.slice A n cap], .string s] w fun e w' => e = .returned (.int .i64 (cNamed xs s)) ∧ Le w w' := by
  have hl := Le.new w (.cells #[.slice A n cap] 25)
  have c0 : (w.alloc (.cells #[.slice A n cap] 25)).cell? ⟨w.heap.size, 0, none⟩ = some (.slice A n cap) := by rw [World.cell?_alloc_at _ _ _ _ rfl]; rfl
  have hz : w.heap.size < (w.alloc (.cells #[.slice A n cap] 25)).heap.size := by simp
  have hS := hR.le hl
  cases h1 : okTree xs
  · have HF := Lib.hid (cNamed_no h1 s)
    go_enter Try.func15, Try.ntmps15
    go_wp2_with fail
    generalize w.alloc (.cells #[.slice A n cap] 25) = W at *
    refine (iValidTree_any A n cap xs _ hS).mono ?_
    rintro e w2 ⟨rfl, hle⟩
    rw [h1]
    go_wp2
    go_ret
    exact ⟨ret_int HF.out.symm, hl.trans hle⟩
  · have HF := Lib.hid (cNamed_yes h1 s)
    go_enter Try.func15, Try.ntmps15
    go_wp2_with fail
    generalize w.alloc (.cells #[.slice A n cap] 25) = W at *
    refine (iValidTree_any A n cap xs _ hS).mono ?_
    rintro e w2 ⟨rfl, hle⟩
    rw [h1]
    have c2 := (hle.cell hz).trans c0
    have hS2 := hS.le hle
    go_wp2_with fail
    refine (indexOfName_any _ _ _ xs _ _ hS2).mono ?_
    rintro e w3 ⟨rfl, hle3⟩
    go_wp2
    go_ret
    exact ⟨ret_int HF.out.symm, (hl.trans hle).trans hle3⟩
end Go.Proofs.Ytdookbcnodghnaa
