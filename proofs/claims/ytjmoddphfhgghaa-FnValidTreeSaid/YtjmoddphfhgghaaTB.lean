import Derived.Test.YtjmoddphfhgghaaTA
import Derived.Test.YtjmoddphfhgghaaD
import Derived.Test.YtjmoddphfhgghaaSV
namespace Go.Proofs.Ytjmoddphfhgghaa
open Go.RowKit

theorem okFrom_mk {all : List Cls} (hl : 1 ≤ all.length ∧ all.length ≤ 8) (hb : ∀ i (h : i < all.length), badCls all i all[i] = false) : ∀ (m k : Nat), k + m = all.length → okFrom all k (all.drop k) = true := by
  intro m
  induction m with
  | zero => intro k hk; rw [okFrom_end (by omega)]; simp; omega
  | succ m ih => intro k hk; rw [okFrom_at (by omega), hb k (by omega), ih (k + 1) (by omega)]; rfl
theorem okTree_take {xs : List Cls} (h : okTree xs = true) {k : Nat} (h1 : 1 ≤ k) (h2 : k ≤ xs.length) : okTree (xs.take k) = true := by
  obtain ⟨hl, hb⟩ := okFrom_mem (all := xs) xs.length 0 (by omega) (by simpa [okTree] using h)
  have hlen : (xs.take k).length = k := by rw [List.length_take]; omega
  have := okFrom_mk (all := xs.take k) (by omega) (fun i hi => by
    have hi' : i < k := by omega
    have e : (xs.take k)[i] = xs[i]'(by omega) := List.getElem_take
    have e2 : (xs.take k).take i = xs.take i := by rw [List.take_take]; congr 1; omega
    have hbi := hb i (by omega) (Nat.zero_le _)
    unfold badCls at hbi ⊢
    rw [e, e2]; exact hbi) (xs.take k).length 0 (by omega)
  simpa [okTree] using this

def DrawnTree (w : World) (e : Ending) (w' : World) : Prop := ∃ (B : Option Addr) (m c : Nat) (xs : List Cls), e = .returned (.agg #[.slice B m c]) ∧ Sl w' B m c xs ∧ m ≤ 8 ∧ Le w w'
theorem drawValidTree_any (A : Option Addr) (n cap : Nat) (bs : List By) (w : World) (hR : Sl w A n cap bs) : Calls Try.prog 9 #[.slice A n cap] w (DrawnTree w) := by
  go_enter Try.func9, Try.ntmps9
  go_wp2_with fail
  have hl0 := Le.new w (.cells #[.slice none 0 0] 25)
  have r0 := hp_new w (.cells #[.slice none 0 0] 25) rfl
  have hs0 : w.heap.size < (w.alloc (.cells #[.slice none 0 0] 25)).heap.size := by simp
  generalize w.alloc (.cells #[.slice none 0 0] 25) = W0 at *
  refine (newReader_any A n cap bs W0 (hR.le hl0)).mono ?_
  rintro e w1 ⟨g, A1, n1, c1, bs1, rfl, hg, hRd, hle1⟩
  have r1 := (Below.block hle1 _ hs0).trans r0
  go_wp2_with fail
  refine (someTree_any g 0 A1 n1 c1 bs1 w1 (by omega) hRd).mono ?_
  rintro e w2 ⟨B, m, c, p', xs, rfl, hS, hm, hoff, hab, _, _, hgx⟩
  have hs1 := hle1.size
  have r2 := (hgx.block w.heap.size (by omega) (by simp; omega)).trans r1
  have hc2 : w2.cell? ⟨w.heap.size, 0, none⟩ = some (.slice none 0 0) := (cell_of_row w2 _ 0 _ _ _ r2).trans rfl
  have hf2 := frozen_of_row w2 w.heap.size 0 _ _ r2
  have hle2 : Le w w2 := Gx.le (hl0.trans hle1) hgx (by omega)
  have hend : ∀ u, (w2.setCell ⟨w.heap.size, 0, none⟩ u).cell? ⟨w.heap.size, 0, none⟩ = some u := fun u => cell_set_same hc2
  have hSx : ∀ u, Sl (w2.setCell ⟨w.heap.size, 0, none⟩ u) B m c xs := fun u => hS.gx (fun h a e => by have := hab h a e; omega) (Gx.set w.heap.size 0 w2 u)
  go_wp2
  exact bodyPost_ret (v := .agg #[.slice B m c]) (by simp [results, Try.results9, go_sem, hend]) rfl ⟨B, m, c, xs, rfl, hSx _, hm, hle2.setCell (Nat.le_refl _) _⟩

theorem fnValidTree_walk (A : Option Addr) (n cap : Nat) (bs : List By) (w : World) (hR : Sl w A n cap bs) :
    Calls Try.prog 3 #[.slice A n cap] w fun e w' => e = .returned (.bool true) ∧ Le w w' := by
  have hm := hR.n_le
  by_cases hbig : 1048576 < n
  · go_enter Try.func3, Try.ntmps3
    go_wp2
    go_ret
    exact ⟨rfl, Le.refl w⟩
  · go_enter Try.func3, Try.ntmps3
    go_wp2_with fail
    refine (drawValidTree_any A n cap bs w hR).mono ?_
    rintro e w1 ⟨B, m, c, xs, rfl, hS, hm8, hle1⟩
    go_wp2_with fail
    have c1 : (w1.alloc (.cells #[.slice B m c] 25)).cell? ⟨w1.heap.size, 0, none⟩ = some (.slice B m c) := by rw [World.cell?_alloc_at _ _ _ _ rfl]; rfl
    have hz1 : w1.heap.size < (w1.alloc (.cells #[.slice B m c] 25)).heap.size := by simp
    have hl1 := hle1.alloc (.cells #[.slice B m c] 25)
    have hS1 := hS.alloc (.cells #[.slice B m c] 25)
    generalize w1.alloc (.cells #[.slice B m c] 25) = W1 at *
    refine (iValidTree_any B m c xs W1 hS1).mono ?_
    rintro e w2 ⟨rfl, hle2⟩
    have c2 := (hle2.cell hz1).trans c1
    have hz2 := Nat.lt_of_lt_of_le hz1 hle2.size
    have hS2 := hS1.le hle2
    have hl2 := hl1.trans hle2
    clear c1 hz1 hS1 hl1 hle1 hle2
    go_wp2_with fail
    refine (sValidTree_any B m c xs w2 hS2).mono ?_
    rintro e w3 ⟨rfl, hle3⟩
    have c3 := (hle3.cell hz2).trans c2
    have hz3 := Nat.lt_of_lt_of_le hz2 hle3.size
    have hS3 := hS2.le hle3
    have hl3 := hl2.trans hle3
    clear c2 hz2 hS2 hl2 hle3
    cases hok : okTree xs
    · go_wp2_with fail
      refine (sValidTree_any B m c xs w3 hS3).mono ?_
      rintro e w4 ⟨rfl, hle4⟩
      have hl4 := hl3.trans hle4
      go_wp2
      go_ret
      exact ⟨rfl, hl4⟩
    · obtain ⟨hl, hb⟩ := okFrom_mem (all := xs) xs.length 0 (by omega) (by simpa [okTree] using hok)
      have hlen := hS3.len
      have hcap := hS3.cap_
      have hpos : 1 ≤ m := by omega
      clear hb
      by_cases h1 : m = 1
      · subst h1
        go_wp2
        go_ret
        exact ⟨rfl, hl3⟩
      · have hm2 : 2 ≤ m := by omega
        have hzc : 1 ≤ (m : Int) ∧ (m : Int) - 1 ≤ c := by omega
        have hnm : ¬ (m : Int) = 1 := by omega
        go_wp2_with fail
        refine (iValidTree_any B (m - 1) c (xs.take (m - 1)) w3 (hS3.take_ (m - 1) (by omega))).mono ?_
        rintro e w4 ⟨rfl, hle4⟩
        rw [okTree_take hok (by omega) (by omega)]
        have hl4 := hl3.trans hle4
        go_wp2
        go_ret
        exact ⟨rfl, hl4⟩
end Go.Proofs.Ytjmoddphfhgghaa
