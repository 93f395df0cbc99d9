/- copies of frames: spec.copyFrames, impl.cutFrames -/
import Derived.Test.YtakkmgeocmndjaaTrB
import Derived.Test.YtakkmgeocmndjaaTlFrame
import Derived.Test.YtakkmgeocmndjaaAP
import Derived.Test.YtakkmgeocmndjaaWN
import Derived.Test.YtakkmgeocmndjaaOneFrm
namespace Go.Proofs.Ytakkmgeocmndjaa
open Go.RowKit

theorem Sl.dropK {α : Type} [Enc α] {w : World} {b off n cap : Nat} {xs : List α} (h : Sl w (some ⟨b, off, none⟩) n cap xs) (k : Nat) (hk : k ≤ n) : Sl w (some ⟨b, off + k * Enc.size α, none⟩) (n - k) (cap - k) (xs.drop k) := by
  refine ⟨by rw [List.length_drop, h.len], by have := h.cap_; omega, by have := h.max; omega, fun x hx => h.ok x (List.mem_of_mem_drop hx), fun hn => ?_⟩
  obtain ⟨b', off', e, hb, hc⟩ := h.at_ (by omega)
  simp only [Option.some.injEq, Addr.mk.injEq, and_true] at e
  obtain ⟨rfl, rfl⟩ := e
  refine ⟨b, _, rfl, hb, fun j u hu => ?_⟩
  have e2 : xs.flatMap (Enc.cells (α := α)) = (xs.take k).flatMap Enc.cells ++ (xs.drop k).flatMap Enc.cells := by rw [← List.flatMap_append, List.take_append_drop]
  have e3 : ((xs.take k).flatMap (Enc.cells (α := α))).length = k * Enc.size α := by rw [flat_len, List.length_take, Nat.min_eq_left (by rw [h.len]; exact hk)]
  have := hc (k * Enc.size α + j) u (by rw [e2, List.getElem?_append_right (by omega), e3, Nat.add_sub_cancel_left]; exact hu)
  rw [← Nat.add_assoc] at this; exact this
theorem Sl.cutS {α : Type} [Enc α] {w : World} {ad : Addr} {n cap : Nat} {xs : List α} (h : Sl w (some ad) n cap xs) (k : Nat) (hk : k ≤ n) {s : Nat} (hs : s = k * Enc.size α) : Sl w (some (ad.add s)) (n - k) (cap - k) (xs.drop k) := by
  subst hs
  by_cases hn : n = k
  · subst hn
    have e : xs.drop n = [] := List.drop_eq_nil_of_le (by rw [h.len]; exact Nat.le_refl _)
    rw [e, Nat.sub_self]
    exact Sl.nil _ _ _ (by have := h.max; omega)
  · obtain ⟨b, off, e, _⟩ := h.at_ (by omega)
    simp only [Option.some.injEq] at e
    subst e
    have e : (⟨b, off, none⟩ : Addr).add (k * Enc.size α) = ⟨b, off + k * Enc.size α, none⟩ := by
      unfold Addr.add; split
      · next h => simp_all
      · rfl
    rw [e]; exact h.dropK k hk
theorem Sl.none_nil {α : Type} [Enc α] {w : World} {n cap : Nat} {xs : List α} (h : Sl w none n cap xs) : xs = [] := by
  rcases Nat.eq_zero_or_pos n with h0 | h0
  · exact List.eq_nil_of_length_eq_zero (by rw [h.len, h0])
  · obtain ⟨b, off, e, _⟩ := h.at_ h0; cases e
theorem Sl.cutE {α : Type} [Enc α] {w : World} {A : Option Addr} {n cap : Nat} {xs : List α} (h : Sl w A n cap xs) (B : Option Addr) (hk : n ≤ cap) : Sl w B 0 0 (xs.drop cap) := by
  have e : xs.drop cap = [] := List.drop_eq_nil_of_le (by rw [h.len]; exact hk)
  rw [e]
  exact Sl.nil _ _ _ (by omega)

set_option maxRecDepth 100000 in
theorem copyFrames_any (A : Option Addr) (n c : Nat) (xs : List Frm) (w : World) (hR : Sl w A n c xs) (hn : n ≤ 2097152) :
    Calls Try.prog 61 #[.slice A n c] w fun e w' => ∃ v, e = .returned v ∧ Owd 28 w w' v xs ∧ Le w w' := by
  obtain ⟨i0, hi, hz0, hz1, hz2⟩ := info_parts infoFrame
  have hlen := hR.len
  have hokA := Lib.hid hR.ok
  go_enter Try.func61, Try.ntmps61
  go_wp2_with (at_builtin; refine wpList_append_sl rfl (.tmp 3) (.tmp 4) 23 rfl (w.heap.size) 28 i0 _ 24 Try.underlying23 hi hz0 hz1 hz2 rfl (.slice (some ⟨w.heap.size, 0, none⟩) 0 0) 0 ([] : List Frm) rfl (own_empty (by simp) (by simp)) A n c xs rfl (hR.alloc _) (by unfold maxLen; omega) (by omega) (by simp) ?_; intro v1 w1 O1 hg1 _; simp only [Nat.zero_add, List.nil_append] at O1; have L1 := ((Le.refl _).alloc _).grown hg1 (fun k hk => by simp [Value.ownBlock] at hk; omega); clear hg1)
  go_ret
  have hd : Owd 28 w w1 v1 xs := ⟨by rw [hlen]; exact O1, hokA.out⟩
  exact ⟨_, rfl, hd, L1⟩

def cutP (g n k : Nat) : Option Addr := if n = k then some ⟨g, 0, none⟩ else some ⟨g, k * 2, none⟩
set_option maxRecDepth 100000 in
theorem cutFrames_any (A : Option Addr) (n c : Nat) (xs : List Frm) (k : Nat) (w : World) (hR : Sl w A n c xs) (hn : n ≤ 2097152) (hk : k ≤ n) :
    Calls Try.prog 59 #[.slice A n c, .int .i64 k] w fun e w' => e = .returned (.tuple #[.slice (some ⟨w.heap.size, 0, none⟩) k k, .slice (cutP w.heap.size n k) (n - k) (n - k)]) ∧
      w'.ownsRow w.heap.size 28 2 (.slice (some ⟨w.heap.size, 0, none⟩) n n) n (xs.flatMap Enc.cells) ∧ Le w w' := by
  obtain rfl := hR.len
  obtain ⟨i0, hi, hz0, hz1, hz2⟩ := info_parts infoFrame
  have hb2 : i0.bytes * xs.length ≤ 281474976710656 := by rw [hz2]; omega
  go_enter Try.func59, Try.ntmps59
  go_wp2_with (first | (refine wpList_make_full _ rfl _ _ 23 rfl w.heap.size 28 i0 _ 2 Try.underlying23 hi hz0 hz1 .i64 .i64 _ _ xs.length rfl rfl rfl rfl hb2 (by unfold maxLen; omega) (Nat.le_refl _) ?_; intro w1 hown1 hg1; have hl1 := (Le.refl w).grown hg1 (by intro k hk; cases hk); have hR1 := hR.le hl1; clear hR hg1) | (refine wpList_copy_sl rfl (.tmp 10) (.tmp 11) 23 23 rfl w.heap.size 28 i0 Try.underlying23 hi hz1 w.heap.size xs.length xs.length _ rfl hown1 A c xs rfl hR1 ?_; intro w2 hown2 hg2; replace hl1 := hl1.grown hg2 (fun k hk => by injection hk with hk; omega); clear hg2 hown1 hR1))
  clear hz0 hz1 hz2 hi hb2
  simp only [Act.put, goInt, List.setIfInBounds_toArray, List.set_cons_zero, List.set_cons_succ]
  by_cases hnk : xs.length = k
  · subst hnk
    refine wp_region_ext (by kernel_rfl) (by kernel_rfl) ?_
    repeat (go_big_quiet_step (fail))
    refine wpQuiet_nil ?_
    intro _ hw'
    obtain ⟨g, rfl⟩ := hw'
    have hw1 := Le.ext w2 g
    generalize w2.ext g = W2 at *
    have HO := Lib.hid (own_le hown2 hw1)
    replace hl1 := hl1.trans hw1
    clear hown2 hw1
    go_wp2
    exact bodyPost_ret (v := .tuple #[.slice (some ⟨w.heap.size, 0, none⟩) xs.length xs.length, .slice (some ⟨w.heap.size, 0, none⟩) 0 0]) (by simp [results, Try.results59, go_sem]) rfl ⟨by simp [cutP], HO.out, hl1⟩
  · have hP := Lib.hid (show cutP w.heap.size xs.length k = some ⟨w.heap.size, k * 2, none⟩ by rw [cutP, if_neg hnk])
    refine wp_region_ext (by kernel_rfl) (by kernel_rfl) ?_
    repeat (go_big_quiet_step (fail))
    refine wpQuiet_nil ?_
    intro _ hw'
    obtain ⟨g, rfl⟩ := hw'
    have hw1 := Le.ext w2 g
    generalize w2.ext g = W2 at *
    have HO := Lib.hid (own_le hown2 hw1)
    replace hl1 := hl1.trans hw1
    clear hown2 hw1
    go_wp2
    exact bodyPost_ret (v := .tuple #[.slice (some ⟨w.heap.size, 0, none⟩) k k, .slice (some ⟨w.heap.size, k * 2, none⟩) (xs.length - k) (xs.length - k)]) (by simp [results, Try.results59, go_sem]) rfl ⟨by rw [hP.out], HO.out, hl1⟩
end Go.Proofs.Ytakkmgeocmndjaa
