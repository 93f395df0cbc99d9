/- slices.Concat of two lists of exits, of nothing too -/
import Derived.Test.YtdpojpgdfklfkaaCcExit
namespace Go.Proofs.Ytdpojpgdfklfkaa
open Go.RowKit
theorem growExit_zero (w : World) : Calls Try.prog 53 #[.slice none 0 0, .int .i64 0] w fun e w' => e = .returned (.slice none 0 0) ∧ Le w w' := by
  go_enter Try.func53, Try.ntmps53
  go_wp2
  go_ret
  exact ⟨rfl, Le.refl _⟩
set_option maxHeartbeats 1000000 in
set_option maxRecDepth 100000 in
theorem concatExit_zero (A B : Option Addr) (cap c b : Nat) (w : World) (hR : Sl w A 0 cap ([] : List Xit)) (hL : Sl w B 0 c ([] : List Xit))
    (cb0 : w.cell? ⟨b, 0, none⟩ = some (.slice A 0 cap)) (cb1 : w.cell? ⟨b, 1, none⟩ = some (.slice B 0 c)) (zb : b < w.heap.size) :
    Calls Try.prog 40 #[.slice (some ⟨b, 0, none⟩) 2 2] w fun e w' => ∃ v, e = .returned v ∧ Owd 32 w w' v ([] : List Xit) ∧ Le w w' := by
  obtain ⟨i0, hi, hz0, hz1, hz2⟩ := info_parts infoCcExit
  go_enter Try.func40, Try.ntmps40
  go_wp2
  refine wp_loop_rounds 3 ?_
  rw [rounds_succ]
  go_wp2
  rw [rounds_succ]
  go_wp2
  rw [rounds_succ]
  go_wp2_with fail
  refine (growExit_zero w).mono ?_
  rintro e w1 ⟨rfl, hle⟩
  replace cb0 := (hle.cell zb).trans cb0
  replace cb1 := (hle.cell zb).trans cb1
  have S1 := hR.le hle
  have S2 := hL.le hle
  have hs := hle.size
  go_wp2
  refine wp_loop_rounds 3 ?_
  rw [rounds_succ]
  go_wp2_with (at_builtin; refine wpList_append_sl rfl (.tmp 31) (.tmp 32) 26 rfl w.heap.size 32 i0 _ 24 Try.underlying26 hi hz0 hz1 hz2 rfl (.slice none 0 0) 0 ([] : List Xit) rfl (World.ownsRow_nil _ _ _ _) A 0 cap ([] : List Xit) rfl S1 (by unfold maxLen; omega) (by omega) hs ?_; intro v1 w2 O2 hg1 _)
  have hle1 := hle.grown hg1 (fun k hk => by cases hk)
  have hs1 := hle1.size
  replace cb0 := (hg1.cell (a := ⟨b, 0, none⟩) cb0 (fun e => by cases e))
  replace cb1 := (hg1.cell (a := ⟨b, 1, none⟩) cb1 (fun e => by cases e))
  have S3 := hL.le hle1
  clear hle S1 S2 hg1
  rw [rounds_succ]
  go_wp2_with (at_builtin; refine wpList_append_sl rfl (.tmp 31) (.tmp 32) 26 rfl w.heap.size 32 i0 _ 24 Try.underlying26 hi hz0 hz1 hz2 rfl v1 0 ([] : List Xit) rfl O2 B 0 c ([] : List Xit) rfl S3 (by unfold maxLen; omega) (by omega) hs1 ?_; intro v2 w3 O3 hg2 _)
  have hle2 := hle1.grown hg2 (fun k hk => (O2.lt k hk).1)
  have HO : Hid (Owd 32 w w3 v2 ([] : List Xit)) := ⟨O3, fun _ h => nomatch h⟩
  replace cb0 := (hg2.cell (a := ⟨b, 0, none⟩) cb0 (fun e => by have := (O2.lt _ e.symm).1; simp at this; omega))
  clear hg2 O2 O3 S3
  rw [rounds_succ]
  go_wp2
  go_ret
  exact ⟨_, rfl, HO.out, hle2⟩
theorem concatE_any (A B : Option Addr) (n cap m c b : Nat) (xs ys : List Xit) (w : World) (hR : Sl w A n cap xs) (hL : Sl w B m c ys) (hn : n + m ≤ 4194304)
    (cb0 : w.cell? ⟨b, 0, none⟩ = some (.slice A n cap)) (cb1 : w.cell? ⟨b, 1, none⟩ = some (.slice B m c)) (zb : b < w.heap.size) :
    Calls Try.prog 40 #[.slice (some ⟨b, 0, none⟩) 2 2] w fun e w' => ∃ v, e = .returned v ∧ Owd 32 w w' v (xs ++ ys) ∧ Le w w' := by
  rcases Nat.eq_zero_or_pos (n + m) with h | h
  · obtain rfl : n = 0 := by omega
    obtain rfl : m = 0 := by omega
    obtain rfl : xs = [] := List.eq_nil_of_length_eq_zero hR.len
    obtain rfl : ys = [] := List.eq_nil_of_length_eq_zero hL.len
    exact concatExit_zero A B cap c b w hR hL cb0 cb1 zb
  · exact concatExit_any A B n cap m c b xs ys w hR hL h hn cb0 cb1 zb
theorem boxS2x (w : World) (a b : Value) (T : TypeId) : (w.alloc (.cells #[a, b] T)).cell? ⟨w.heap.size, 0, none⟩ = some a ∧ (w.alloc (.cells #[a, b] T)).cell? ⟨w.heap.size, 1, none⟩ = some b ∧ w.heap.size < (w.alloc (.cells #[a, b] T)).heap.size ∧ Le w (w.alloc (.cells #[a, b] T)) := by
  refine ⟨?_, ?_, by simp, Le.new w _⟩ <;> (rw [World.cell?_alloc_at _ _ _ _ rfl]; rfl)
end Go.Proofs.Ytdpojpgdfklfkaa
