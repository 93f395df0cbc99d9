/- the law FnFirstJump -/
import Derived.Test.YtgclmefppeedeaaFj8
import Derived.Test.YtgclmefppeedeaaFj29
import Derived.Test.YtgclmefppeedeaaFj35
import Derived.Test.YtgclmefppeedeaaFj36
import Derived.Test.YtgclmefppeedeaaFj37
namespace Go.Proofs.Ytgclmefppeedeaa
open Go.RowKit
set_option maxHeartbeats 1000000 in
set_option maxRecDepth 100000 in
theorem drawFirstJump_any (A : Option Addr) (n cap : Nat) (bs : List By) (w : World) (hR : Sl w A n cap bs) : Calls Try.prog 4 #[.slice A n cap] w (DrawnPr w) := by
  go_enter Try.func4, Try.ntmps4
  go_wp2_with fail
  obtain ⟨c0, z0, L0⟩ := box1 w (.slice none 0 0) 25
  have f0 : (w.alloc (.cells #[.slice none 0 0] 25)).frozen? ⟨w.heap.size, 0, none⟩ = false := World.frozen?_alloc_at _ _ _ _ rfl
  have S0 := hR.le L0
  generalize w.alloc (.cells #[.slice none 0 0] 25) = W at *
  refine (newReader_any A n cap bs W S0).mono ?_
  rintro e w1 ⟨g, A1, n1, k1, bs1, rfl, hg, R1, hle⟩
  have hz1 : w.heap.size < w1.heap.size := Nat.lt_of_lt_of_le z0 hle.size
  replace c0 := (hle.cell z0).trans c0
  replace f0 := (hle.frozen z0).trans f0
  replace L0 := L0.trans hle
  clear S0
  have hgz : w.heap.size ≠ g := by omega
  go_wp2_with fail
  refine (someProgram_any g 0 A1 n1 k1 bs1 w1 (by omega) R1).mono ?_
  rintro e w2 ⟨B, D, m, c, q, d, xs, L, p2, rfl, S2, hm, hab, SD, hq, hD, hp2, R2, hg2⟩
  replace c0 := (hg2.cell hz1 hgz).trans c0
  replace f0 := (hg2.frozen hz1 hgz).trans f0
  have L2 := Gx.le L0 hg2 (by omega)
  have hend : ∀ u, (w2.setCell ⟨w.heap.size, 0, none⟩ u).cell? ⟨w.heap.size, 0, none⟩ = some u := fun u => cell_set_same c0
  have hSx : ∀ u, Sl (w2.setCell ⟨w.heap.size, 0, none⟩ u) B m c xs := fun u => S2.gx (fun h a e => by have := hab h a e; omega) (Gx.set w.heap.size 0 w2 u)
  have hSy : ∀ u, Sl (w2.setCell ⟨w.heap.size, 0, none⟩ u) D q d L := fun u => SD.gx (fun h a e => by have := hD h a e; omega) (Gx.set w.heap.size 0 w2 u)
  clear hle L0 R1 R2 hg2 S2 SD
  go_wp2
  exact bodyPost_ret (v := .tuple #[.agg #[.slice B m c], .slice D q d]) (by simp [results, Try.results4, go_sem, hend]) rfl ⟨B, D, m, c, q, d, xs, L, rfl, hSx _, hm, hSy _, hq, L2.setCell (Nat.le_refl _) _⟩
theorem hasI_no {L : List Nat} {x : Nat} (h : x ∉ L) : hasI (nI L) (x : Int) = false := by
  induction L with
  | nil => rfl
  | cons y r ih =>
    have h1 : y ≠ x := fun e => h (by rw [e]; exact List.mem_cons_self ..)
    have h2 := ih (fun hm => h (List.mem_cons_of_mem _ hm))
    show ((y : Int) == (x : Int) || hasI (nI r) (x : Int)) = false
    rw [h2]
    simp
    omega
theorem Calls.slFj {α : Type} [Enc α] {P : Program} {f : FuncId} {args : Array Value} {w : World} {xs : List α} {T : TypeId} (hp : 0 < Enc.size α) (h : Calls P f args w fun e w' => ∃ v, e = .returned v ∧ Owd T w w' v xs ∧ Le w w') : Calls P f args w fun e w' => ∃ A c, e = .returned (.slice A xs.length c) ∧ Sl w' A xs.length c xs ∧ Le w w' := by
  refine h.mono ?_
  rintro e w' ⟨v, rfl, D, hle⟩
  obtain ⟨A, c, rfl, S, _⟩ := D.form hp
  exact ⟨A, c, rfl, S, hle⟩
theorem fj_two {xs : List Cls} {p : List Lin} (hv : vp xs p = true) : (fjX xs p = -1 ∧ rpE xs p = 0) ∨ ∃ (x : Nat) (h : x < p.length), fjX xs p = (x : Int) ∧ (2 ≤ p[x].kind ∧ p[x].kind ≤ 6) ∧ hasI (dlX xs p) (x : Int) = false := by
  have g := goodP_of hv
  have e0 : fjX xs p = scn p 0 p.length := by unfold fjX; rw [hv]; rfl
  rw [e0]
  by_cases h : 0 ≤ scn p 0 p.length
  · obtain ⟨x, h1, _, h3, h4, h5⟩ := scn_out (p := p) (Nat.le_refl _) p.length 0 (by omega) h
    refine .inr ⟨x, h3, h1, ?_, ?_⟩
    · rw [← knd_at h3]; exact jmpK_iff.1 h4
    · have hd : dlX xs p = nI (dlL xs p p.length) := by unfold dlX; rw [hv]; rfl
      rw [hd]
      refine hasI_no (fun hm => ?_)
      exact first_live h3 h4 (fun j hj => h5 j (Nat.zero_le _) hj) ((dlL_mem p.length (Nat.le_refl _)).1 hm).2
  · have h2 := scn_neg h
    refine .inl ⟨h2, ?_⟩
    unfold rpE rgE
    rw [hv]
    show resE (runI xs p).1 = 0
    rw [run_nil g h2]; rfl
set_option maxHeartbeats 4000000 in
set_option maxRecDepth 100000 in
theorem fnFirstJump_walk (A : Option Addr) (n cap : Nat) (bs : List By) (w : World) (hR : Sl w A n cap bs) :
    Calls Try.prog 3 #[.slice A n cap] w fun e w' => e = .returned (.bool true) ∧ Le w w' := by
  have hm := hR.n_le
  by_cases hbig : 1048576 < n
  · go_enter Try.func3, Try.ntmps3
    go_wp2
    go_ret
    exact ⟨rfl, Le.refl w⟩
  go_enter Try.func3, Try.ntmps3
  go_wp2_with fail
  refine (drawFirstJump_any A n cap bs w hR).mono ?_
  rintro e w1 ⟨B, D, m, c, q, d, xs, p, rfl, S, hm8, S2, hq24, L0⟩
  obtain rfl := S2.len
  have hm1 : m ≤ 1048576 := by omega
  have hsm : p.length ≤ 1048576 := by omega
  clear hbig hm hR
  go_wp2_with fail
  obtain ⟨ct, zt, hleB⟩ := box1 w1 (.slice B m c) 25
  replace S := S.le hleB
  replace L0 := L0.trans hleB
  replace S2 := S2.le hleB
  clear hleB
  generalize w1.alloc (.cells #[.slice B m c] 25) = W1 at *
  go_wp2_with fail
  refine (iFirstJump_any B D m c _ d xs p hm1 W1 S S2).mono ?_
  rintro e w2 ⟨rfl, hle⟩
  replace ct := (hle.cell zt).trans ct
  replace zt := Nat.lt_of_lt_of_le zt hle.size
  replace S := S.le hle
  replace L0 := L0.trans hle
  replace S2 := S2.le hle
  clear hle
  go_wp2_with fail
  refine (sFirstJump_any B D m c _ d xs p hsm w2 S S2).mono ?_
  rintro e w3 ⟨rfl, hle⟩
  replace ct := (hle.cell zt).trans ct
  replace zt := Nat.lt_of_lt_of_le zt hle.size
  replace S := S.le hle
  replace L0 := L0.trans hle
  replace S2 := S2.le hle
  clear hle
  have hbb : (fjX xs p != fjX xs p) = false := by simp
  have hbb2 : (fjX xs p == fjX xs p) = true := by simp
  go_wp2_with fail
  refine (pValidProgram_any B D m c _ d xs p hm1 w3 S S2).mono ?_
  rintro e w4 ⟨rfl, hle⟩
  replace ct := (hle.cell zt).trans ct
  replace zt := Nat.lt_of_lt_of_le zt hle.size
  replace S := S.le hle
  replace L0 := L0.trans hle
  replace S2 := S2.le hle
  clear hle
  cases hv : vp xs p
  · go_wp2_with fail
    refine (sFirstJump_any B D m c _ d xs p hsm w4 S S2).mono ?_
    rintro e w9 ⟨rfl, hle⟩
    replace L0 := L0.trans hle
    clear hle
    go_wp2
    go_ret
    exact ⟨rfl, L0⟩
  rcases fj_two hv with ⟨h1, h2⟩ | ⟨x, hx, h1, h2, h3⟩
  · rw [h1] at hbb hbb2 ⊢
    have q1 := fld1
    go_wp2_with fail
    refine (iRp_any B D m c _ d xs p hm1 w4 S S2).mono ?_
    rintro e w5 ⟨lv, hvv, rfl, -, -, -, hle⟩
    rw [h2]
    have L5 := L0.trans hle
    clear hle L0
    go_wp2
    go_ret
    exact ⟨rfl, L5⟩
  · rw [h1] at hbb hbb2 ⊢
    obtain ⟨b, off, rfl, hb, c0, c1, -⟩ := S2.lin_at hx
    have hx0 : (0 : Int) ≤ (x : Int) := by omega
    have hxn : (x : Int) < (p.length : Int) := by omega
    have hxb : decide ((x : Int) < 0) = false := decide_eq_false (by omega)
    generalize p[x].kind = vk at *
    have k1 : decide (2 ≤ vk) = true := decide_eq_true h2.1
    have k2 : decide (vk ≤ 6) = true := decide_eq_true h2.2
    go_wp2_with fail
    refine (Calls.slFj (by decide) (iDeadLines_any B _ m c _ d xs p hm1 w4 S S2)).mono ?_
    rintro e w5 ⟨A5, c5, rfl, S5, hle⟩
    replace L0 := L0.trans hle
    clear hle
    go_wp2_with fail
    refine (isIn_any A5 _ c5 (dlX xs p) x w5 S5).mono ?_
    rintro e w6 ⟨rfl, rfl⟩
    rw [h3]
    go_wp2
    go_ret
    exact ⟨rfl, L0⟩
end Go.Proofs.Ytgclmefppeedeaa
