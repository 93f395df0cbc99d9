/- the law FnFirstJumpRaise -/
import Derived.Test.YtgjlmfjmjglplaaGreatFj8
import Derived.Test.YtgjlmfjmjglplaaGreatPlAJ
import Derived.Test.YtgjlmfjmjglplaaGreatPrXP
import Derived.Test.YtgjlmfjmjglplaaGreatHfIP
import Derived.Test.YtgjlmfjmjglplaaGreatFj35
import Derived.Test.YtgjlmfjmjglplaaGreatFj36
import Derived.Test.YtgjlmfjmjglplaaGreatFj37
namespace Go.Proofs.YtgjlmfjmjglplaaGreat
open Go.RowKit
set_option maxHeartbeats 1000000 in
set_option maxRecDepth 100000 in
theorem drawFirstJump_any (A : Option Addr) (n cap : Nat) (bs : List By) (w : World) (hR : Sl w A n cap bs) : Calls Tryz.prog 4 #[.slice A n cap] w (DrawnPr w) := by
  go_enter Tryz.func4, Tryz.ntmps4
  go_wp2_with fail
  obtain ⟨c0, z0, L0⟩ := box1 w (.slice none 0 0) 25
  have f0 : (w.alloc (.cells #[.slice none 0 0] 25)).frozen? ⟨w.heap.size, 0, none⟩ = false := World.frozen?_alloc_at _ _ _ _ rfl
  have S0 := hR.le L0
  generalize w.alloc (.cells #[.slice none 0 0] 25) = W at *
  refine (newReader_any A n cap bs W S0).mono ?_
  rintro e w1 ⟨g, A1, n1, k1, bs1, rfl, hg, R1, hle⟩
  have hz1 : w.heap.size < w1.heap.size := Nat.lt_of_lt_of_le z0 hle.size
  replace c0 := (hle.cell z0).trans c0
  replace f0 := (hle.frozen z0).trans f0
  replace L0 := L0.trans hle
  clear S0
  have hgz : w.heap.size ≠ g := by omega
  go_wp2_with fail
  refine (someProgram_any g 0 A1 n1 k1 bs1 w1 (by omega) R1).mono ?_
  rintro e w2 ⟨B, D, m, c, q, d, xs, L, p2, rfl, S2, hm, hab, SD, hq, hD, hp2, R2, hg2⟩
  replace c0 := (hg2.cell hz1 hgz).trans c0
  replace f0 := (hg2.frozen hz1 hgz).trans f0
  have L2 := Gx.le L0 hg2 (by omega)
  have hend : ∀ u, (w2.setCell ⟨w.heap.size, 0, none⟩ u).cell? ⟨w.heap.size, 0, none⟩ = some u := fun u => cell_set_same c0
  have hSx : ∀ u, Sl (w2.setCell ⟨w.heap.size, 0, none⟩ u) B m c xs := fun u => S2.gx (fun h a e => by have := hab h a e; omega) (Gx.set w.heap.size 0 w2 u)
  have hSy : ∀ u, Sl (w2.setCell ⟨w.heap.size, 0, none⟩ u) D q d L := fun u => SD.gx (fun h a e => by have := hD h a e; omega) (Gx.set w.heap.size 0 w2 u)
  clear hle L0 R1 R2 hg2 S2 SD
  go_wp2
  exact bodyPost_ret (v := .tuple #[.agg #[.slice B m c], .slice D q d]) (by simp [results, Tryz.results4, go_sem, hend]) rfl ⟨B, D, m, c, q, d, xs, L, rfl, hSx _, hm, hSy _, hq, L2.setCell (Nat.le_refl _) _⟩
theorem Calls.slFj {α : Type} [Enc α] {P : Program} {f : FuncId} {args : Array Value} {w : World} {xs : List α} {T : TypeId} (hp : 0 < Enc.size α) (h : Calls P f args w fun e w' => ∃ v, e = .returned v ∧ Owd T w w' v xs ∧ Le w w') : Calls P f args w fun e w' => ∃ A c, e = .returned (.slice A xs.length c) ∧ Sl w' A xs.length c xs ∧ Le w w' := by
  refine h.mono ?_
  rintro e w' ⟨v, rfl, D, hle⟩
  obtain ⟨A, c, rfl, S, _⟩ := D.form hp
  exact ⟨A, c, rfl, S, hle⟩
theorem fj_at {xs : List Cls} {p : List Lin} (h : 0 ≤ fjX xs p) : vp xs p = true ∧ ∃ x : Nat, x < p.length ∧ fjX xs p = (x : Int) := by
  cases hv : vp xs p
  · unfold fjX at h
    rw [hv] at h
    exact absurd (show (0:Int) ≤ -1 from h) (by decide)
  · have e0 : fjX xs p = scn p 0 p.length := by unfold fjX; rw [hv]; rfl
    rw [e0] at h ⊢
    obtain ⟨x, h1, _, h3, _⟩ := scn_out (p := p) (Nat.le_refl _) p.length 0 (by omega) h
    exact ⟨rfl, x, h3, h1⟩
theorem fin_wayR {p : List Lin} {x t z : Nat} (hx : x < p.length) (h4 : opn (knd p x) = false) (ht : t < p.length) (h7 : knd p t = 7) (hz : z ∈ parts p t) (hz10 : knd p z = 10) (htx : t < x) (hxz : x < z) : z ∈ wayL p (encl p x) := by
  have hz2 := hz
  obtain ⟨b, hb, rfl⟩ := List.getElem_of_mem hz2
  -- the line of the try in whose block it is
  have key : ∀ m, ∀ (hm : m < (parts p t).length), x < (parts p t)[m] → ∃ (k : Nat) (hk : k < (parts p t).length), k < m ∧ (parts p t)[k] ≤ x ∧ x < bEnd p (parts p t)[k] := by
    intro m
    induction m with
    | zero => intro hm h; exact absurd h (by show ¬ x < t; omega)
    | succ m ih =>
      intro hm h
      by_cases c : x < (parts p t)[m]'(by omega)
      · obtain ⟨k, hk, a1, a2⟩ := ih (by omega) c
        exact ⟨k, hk, by omega, a2⟩
      · rw [parts_link hm] at h
        exact ⟨m, by omega, by omega, by omega, h⟩
  obtain ⟨k, hk, hkb, k1, k2⟩ := key b hb hxz
  have hm : (parts p t)[k] ∈ parts p t := List.getElem_mem _
  have ho := opn_part ht h7 hm
  have hne : (parts p t)[k] ≠ x := fun e => by rw [e, h4] at ho; cases ho.1
  have hE : (parts p t)[k] ∈ encl p x := (encl_mem hx).2 ⟨by omega, k2⟩
  have h10 : knd p (parts p t)[k] ≠ 10 := fun e => by have := (parts_aft hk (.inr e) b hb hkb).2; omega
  have h11 : knd p (parts p t)[k] ≠ 11 := fun e => by
    rcases try_step (show IsTry p t (parts p t)[k] from ⟨h7, hm⟩) with ⟨h, _⟩ | ⟨h, _⟩
    · omega
    · have := fol_iff.1 h; omega
  have hl : lastE p (parts p t)[k] = finE p t := by
    unfold lastE
    rw [if_neg h11, if_neg (fun h => h.elim ho.2 h10), tryAt_of ⟨h7, hm⟩]
  have hp := prt_one (K := 10) (.inr rfl) hz hz10
  rw [prt_last] at hp
  have hf : finE p t = some (parts p t)[b] := by
    unfold finE
    rw [getLast_idx (parts_pos p t)]
    by_cases c : knd p (lstP p t) = 10
    · rw [if_pos c] at hp
      show (if knd p (lstP p t) = 10 then some (lstP p t) else none) = _
      rw [if_pos c]; exact hp
    · rw [if_neg c] at hp; cases hp
  exact List.mem_filterMap.2 ⟨_, hE, by rw [hl, hf]⟩
/-- what the law says of a raise, plain -/
theorem fq_end {xs : List Cls} {p : List Lin} {x : Nat} (hv : vp xs p = true) (hx : x < p.length) (hf : fjX xs p = (x : Int)) (h2 : p[x].kind = 2) (hc : ¬ 0 ≤ caX xs p x p[x].a) (hW : plX p (wayL p ((encl p x).take (coN xs p p[x].a (encl p x)))) = true) : rpE xs p = 2 ∧ rpV xs p = 0 ∧ rpH xs p = [(⟨p[x].a, p[x].b, -1, -1, false⟩ : Flt)] ∧ okTree xs = true ∧ okHeap xs [(⟨p[x].a, p[x].b, -1, -1, false⟩ : Flt)] = true := by
  have g := goodP_of hv
  have hl := (g.line x hx).1
  unfold numS at hl
  rw [h2] at hl
  rw [if_neg (by decide), if_pos rfl, Bool.and_eq_true] at hl
  have hgr : glB xs p (x : Int) = true := glB_iff.2 ⟨hv, x, rfl, hx⟩
  have hc2 : coF xs p p[x].a (encl p x) < 0 := by
    have e : caX xs p x p[x].a = cond (glB xs p x && hasK xs p[x].a) (coF xs p p[x].a (encl p x)) (-1) := rfl
    rw [e, hgr, hl.1] at hc
    have : ¬ 0 ≤ coF xs p p[x].a (encl p x) := hc
    omega
  rw [coN_all hc2, List.take_length] at hW
  have ea : lnA p x = p[x].a := lnA_at hx
  have eb : lnBc p x = p[x].b := lnBc_at hx
  rw [← ea] at hc2
  obtain ⟨e1, e2, e3⟩ := fj_rai hv hx hf (by rw [knd_at hx]; exact h2) (fun t z ht h7 hz h10 h1 h3 => by
    have hm := plX_mem hW z (fin_wayR hx (by rw [knd_at hx, h2]; decide) ht h7 hz h10 h1 h3)
    have hb : blkQ p (dep p z) (p.length - (z + 1)) (z + 1) = true := by
      unfold plZ at hm
      rw [decide_eq_false (by omega), Bool.false_or] at hm
      exact hm
    exact blkQ_scn _ _ hb) hc2
  rw [ea, eb] at e3
  exact ⟨e1, e2, e3, g.tree, oneF_ok g.tree hl.1 (rng_iff.1 hl.2)⟩
theorem frRow (w : World) (o : Obj) : (w.alloc o).heap[w.heap.size]? = some o := hp_new w o rfl
set_option maxHeartbeats 1000000 in
set_option maxRecDepth 100000 in
theorem iStartOf_one (A LA H : Option Addr) (n cap nl cl c : Nat) (xs : List Cls) (a b : Int) (hx : okTree xs = true) (ho : okHeap xs [(⟨a, b, -1, -1, false⟩ : Flt)] = true) (w : World) (hR : Sl w A n cap xs) (hH : Sl w H 1 c [(⟨a, b, -1, -1, false⟩ : Flt)]) :
    Calls Tryz.prog 11 #[.agg #[.slice A n cap], .agg #[.slice LA nl cl, .int .i64 2, .int .i64 0, .slice H 1 c]] w fun e w' => e = .returned (.tuple #[.agg #[.bool true, .int .i64 a, .int .i64 b], .bool true]) ∧ Le w w' := by
  have hg : goodF xs [(⟨a, b, -1, -1, false⟩ : Flt)] 0 = true := by unfold goodF; rw [ho]; rfl
  obtain ⟨bh, oh, rfl, hb, f0, f1, f2, f3, f4, -⟩ := hH.flt_at (k := 0) (by simp)
  replace f0 : w.cell? ⟨bh, oh, none⟩ = some (.int .i64 a) := by simpa using f0
  replace f1 : w.cell? ⟨bh, oh + 1, none⟩ = some (.int .i64 b) := by simpa using f1
  replace f2 : w.cell? ⟨bh, oh + 2, none⟩ = some (.int .i64 (-1)) := by simpa using f2
  replace f3 : w.cell? ⟨bh, oh + 3, none⟩ = some (.int .i64 (-1)) := by simpa using f3
  replace f4 : w.cell? ⟨bh, oh + 4, none⟩ = some (.bool false) := by simpa using f4
  go_enter Tryz.func11, Tryz.ntmps11
  go_wp2_with fail
  have L0 := ((Le.new w (.cells #[.slice A n cap] 25)).trans (Le.new _ (.cells #[.slice LA nl cl, .int .i64 2, .int .i64 0, .slice (some ⟨bh, oh, none⟩) 1 c] 40))).trans (Le.new _ (.cells #[.bool false, .int .i64 0, .int .i64 0] 43))
  have L2 := (Le.new (w.alloc (.cells #[.slice A n cap] 25)) (.cells #[.slice LA nl cl, .int .i64 2, .int .i64 0, .slice (some ⟨bh, oh, none⟩) 1 c] 40)).trans (Le.new _ (.cells #[.bool false, .int .i64 0, .int .i64 0] 43))
  have L3 := Le.new ((w.alloc (.cells #[.slice A n cap] 25)).alloc (.cells #[.slice LA nl cl, .int .i64 2, .int .i64 0, .slice (some ⟨bh, oh, none⟩) 1 c] 40)) (.cells #[.bool false, .int .i64 0, .int .i64 0] 43)
  have y1 : w.heap.size < (w.alloc (.cells #[.slice A n cap] 25)).heap.size := by simp
  have y2 : w.heap.size + 1 < ((w.alloc (.cells #[.slice A n cap] 25)).alloc (.cells #[.slice LA nl cl, .int .i64 2, .int .i64 0, .slice (some ⟨bh, oh, none⟩) 1 c] 40)).heap.size := by simp
  have c0 : (((w.alloc (.cells #[.slice A n cap] 25)).alloc (.cells #[.slice LA nl cl, .int .i64 2, .int .i64 0, .slice (some ⟨bh, oh, none⟩) 1 c] 40)).alloc (.cells #[.bool false, .int .i64 0, .int .i64 0] 43)).cell? ⟨w.heap.size, 0, none⟩ = some (.slice A n cap) := (L2.cell y1).trans (cell_of_row _ _ 0 _ _ _ (hp_new _ _ rfl))
  have c1 : (((w.alloc (.cells #[.slice A n cap] 25)).alloc (.cells #[.slice LA nl cl, .int .i64 2, .int .i64 0, .slice (some ⟨bh, oh, none⟩) 1 c] 40)).alloc (.cells #[.bool false, .int .i64 0, .int .i64 0] 43)).cell? ⟨w.heap.size + 1, 1, none⟩ = some (.int .i64 2) := (L3.cell y2).trans (cell_of_row _ _ 1 _ _ _ (hp_new _ _ (by simp)))
  have c2 : (((w.alloc (.cells #[.slice A n cap] 25)).alloc (.cells #[.slice LA nl cl, .int .i64 2, .int .i64 0, .slice (some ⟨bh, oh, none⟩) 1 c] 40)).alloc (.cells #[.bool false, .int .i64 0, .int .i64 0] 43)).cell? ⟨w.heap.size + 1, 2, none⟩ = some (.int .i64 0) := (L3.cell y2).trans (cell_of_row _ _ 2 _ _ _ (hp_new _ _ (by simp)))
  have c3 : (((w.alloc (.cells #[.slice A n cap] 25)).alloc (.cells #[.slice LA nl cl, .int .i64 2, .int .i64 0, .slice (some ⟨bh, oh, none⟩) 1 c] 40)).alloc (.cells #[.bool false, .int .i64 0, .int .i64 0] 43)).cell? ⟨w.heap.size + 1, 3, none⟩ = some (.slice (some ⟨bh, oh, none⟩) 1 c) := (L3.cell y2).trans (cell_of_row _ _ 3 _ _ _ (hp_new _ _ (by simp)))
  have z0 : w.heap.size < (((w.alloc (.cells #[.slice A n cap] 25)).alloc (.cells #[.slice LA nl cl, .int .i64 2, .int .i64 0, .slice (some ⟨bh, oh, none⟩) 1 c] 40)).alloc (.cells #[.bool false, .int .i64 0, .int .i64 0] 43)).heap.size := by simp; omega
  have z1 : w.heap.size + 1 < (((w.alloc (.cells #[.slice A n cap] 25)).alloc (.cells #[.slice LA nl cl, .int .i64 2, .int .i64 0, .slice (some ⟨bh, oh, none⟩) 1 c] 40)).alloc (.cells #[.bool false, .int .i64 0, .int .i64 0] 43)).heap.size := by simp
  have z2 := z1
  have z3 := z1
  have c4 := (L0.cell hb).trans f0
  have z4 : bh < (((w.alloc (.cells #[.slice A n cap] 25)).alloc (.cells #[.slice LA nl cl, .int .i64 2, .int .i64 0, .slice (some ⟨bh, oh, none⟩) 1 c] 40)).alloc (.cells #[.bool false, .int .i64 0, .int .i64 0] 43)).heap.size := Nat.lt_of_lt_of_le hb L0.size
  have c5 := (L0.cell hb).trans f1
  have c6 := (L0.cell hb).trans f2
  have c7 := (L0.cell hb).trans f3
  have c8 := (L0.cell hb).trans f4
  have z5 := z4
  have z6 := z4
  have z7 := z4
  have z8 := z4
  have c9 : (((w.alloc (.cells #[.slice A n cap] 25)).alloc (.cells #[.slice LA nl cl, .int .i64 2, .int .i64 0, .slice (some ⟨bh, oh, none⟩) 1 c] 40)).alloc (.cells #[.bool false, .int .i64 0, .int .i64 0] 43)).cell? ⟨w.heap.size + 1 + 1, 0, none⟩ = some (.bool false) := cell_of_row _ _ 0 _ _ _ (hp_new _ _ (by simp))
  have f9 : (((w.alloc (.cells #[.slice A n cap] 25)).alloc (.cells #[.slice LA nl cl, .int .i64 2, .int .i64 0, .slice (some ⟨bh, oh, none⟩) 1 c] 40)).alloc (.cells #[.bool false, .int .i64 0, .int .i64 0] 43)).frozen? ⟨w.heap.size + 1 + 1, 0, none⟩ = false := frz_row (hp_new _ _ (by simp))
  have c10 : (((w.alloc (.cells #[.slice A n cap] 25)).alloc (.cells #[.slice LA nl cl, .int .i64 2, .int .i64 0, .slice (some ⟨bh, oh, none⟩) 1 c] 40)).alloc (.cells #[.bool false, .int .i64 0, .int .i64 0] 43)).cell? ⟨w.heap.size + 1 + 1, 1, none⟩ = some (.int .i64 0) := cell_of_row _ _ 1 _ _ _ (hp_new _ _ (by simp))
  have f10 : (((w.alloc (.cells #[.slice A n cap] 25)).alloc (.cells #[.slice LA nl cl, .int .i64 2, .int .i64 0, .slice (some ⟨bh, oh, none⟩) 1 c] 40)).alloc (.cells #[.bool false, .int .i64 0, .int .i64 0] 43)).frozen? ⟨w.heap.size + 1 + 1, 1, none⟩ = false := frz_row (hp_new _ _ (by simp))
  have c11 : (((w.alloc (.cells #[.slice A n cap] 25)).alloc (.cells #[.slice LA nl cl, .int .i64 2, .int .i64 0, .slice (some ⟨bh, oh, none⟩) 1 c] 40)).alloc (.cells #[.bool false, .int .i64 0, .int .i64 0] 43)).cell? ⟨w.heap.size + 1 + 1, 2, none⟩ = some (.int .i64 0) := cell_of_row _ _ 2 _ _ _ (hp_new _ _ (by simp))
  have f11 : (((w.alloc (.cells #[.slice A n cap] 25)).alloc (.cells #[.slice LA nl cl, .int .i64 2, .int .i64 0, .slice (some ⟨bh, oh, none⟩) 1 c] 40)).alloc (.cells #[.bool false, .int .i64 0, .int .i64 0] 43)).frozen? ⟨w.heap.size + 1 + 1, 2, none⟩ = false := frz_row (hp_new _ _ (by simp))
  have z9 : w.heap.size + 1 + 1 < (((w.alloc (.cells #[.slice A n cap] 25)).alloc (.cells #[.slice LA nl cl, .int .i64 2, .int .i64 0, .slice (some ⟨bh, oh, none⟩) 1 c] 40)).alloc (.cells #[.bool false, .int .i64 0, .int .i64 0] 43)).heap.size := by simp
  have z10 := z9
  have z11 := z9
  have SR := hR.le L0
  have SH := hH.le L0
  clear L2 L3 y1 y2 f0 f1 f2 f3 f4 hb hR hH
  generalize (((w.alloc (.cells #[.slice A n cap] 25)).alloc (.cells #[.slice LA nl cl, .int .i64 2, .int .i64 0, .slice (some ⟨bh, oh, none⟩) 1 c] 40)).alloc (.cells #[.bool false, .int .i64 0, .int .i64 0] 43)) = W at *
  refine (iValidTree_any A n cap xs W SR).mono ?_
  rintro e w1 ⟨rfl, hle⟩
  rw [hx]
  replace c0 := (hle.cell z0).trans c0
  replace c1 := (hle.cell z1).trans c1
  replace c2 := (hle.cell z2).trans c2
  replace c3 := (hle.cell z3).trans c3
  replace c4 := (hle.cell z4).trans c4
  replace c5 := (hle.cell z5).trans c5
  replace c6 := (hle.cell z6).trans c6
  replace c7 := (hle.cell z7).trans c7
  replace c8 := (hle.cell z8).trans c8
  replace c9 := (hle.cell z9).trans c9
  replace c10 := (hle.cell z10).trans c10
  replace c11 := (hle.cell z11).trans c11
  replace f9 := (hle.frozen z9).trans f9
  replace f10 := (hle.frozen z10).trans f10
  replace f11 := (hle.frozen z11).trans f11
  replace z0 := Nat.lt_of_lt_of_le z0 hle.size
  replace z1 := Nat.lt_of_lt_of_le z1 hle.size
  replace z2 := Nat.lt_of_lt_of_le z2 hle.size
  replace z3 := Nat.lt_of_lt_of_le z3 hle.size
  replace z4 := Nat.lt_of_lt_of_le z4 hle.size
  replace z5 := Nat.lt_of_lt_of_le z5 hle.size
  replace z6 := Nat.lt_of_lt_of_le z6 hle.size
  replace z7 := Nat.lt_of_lt_of_le z7 hle.size
  replace z8 := Nat.lt_of_lt_of_le z8 hle.size
  replace z9 := Nat.lt_of_lt_of_le z9 hle.size
  replace z10 := Nat.lt_of_lt_of_le z10 hle.size
  replace z11 := Nat.lt_of_lt_of_le z11 hle.size
  replace L0 := L0.trans hle
  replace SR := SR.le hle
  replace SH := SH.le hle
  clear hle
  go_wp2_with fail
  refine (iHasFault_any A _ n cap 1 c xs _ 0 w1 SR SH (by decide)).mono ?_
  rintro e w2 ⟨rfl, hle⟩
  rw [hg]
  replace c0 := (hle.cell z0).trans c0
  replace c1 := (hle.cell z1).trans c1
  replace c2 := (hle.cell z2).trans c2
  replace c3 := (hle.cell z3).trans c3
  replace c4 := (hle.cell z4).trans c4
  replace c5 := (hle.cell z5).trans c5
  replace c6 := (hle.cell z6).trans c6
  replace c7 := (hle.cell z7).trans c7
  replace c8 := (hle.cell z8).trans c8
  replace c9 := (hle.cell z9).trans c9
  replace c10 := (hle.cell z10).trans c10
  replace c11 := (hle.cell z11).trans c11
  replace f9 := (hle.frozen z9).trans f9
  replace f10 := (hle.frozen z10).trans f10
  replace f11 := (hle.frozen z11).trans f11
  replace z0 := Nat.lt_of_lt_of_le z0 hle.size
  replace z1 := Nat.lt_of_lt_of_le z1 hle.size
  replace z2 := Nat.lt_of_lt_of_le z2 hle.size
  replace z3 := Nat.lt_of_lt_of_le z3 hle.size
  replace z4 := Nat.lt_of_lt_of_le z4 hle.size
  replace z5 := Nat.lt_of_lt_of_le z5 hle.size
  replace z6 := Nat.lt_of_lt_of_le z6 hle.size
  replace z7 := Nat.lt_of_lt_of_le z7 hle.size
  replace z8 := Nat.lt_of_lt_of_le z8 hle.size
  replace z9 := Nat.lt_of_lt_of_le z9 hle.size
  replace z10 := Nat.lt_of_lt_of_le z10 hle.size
  replace z11 := Nat.lt_of_lt_of_le z11 hle.size
  replace L0 := L0.trans hle
  replace SR := SR.le hle
  replace SH := SH.le hle
  clear hle
  have LF := Le.new w2 (.cells #[.int .i64 a, .int .i64 b, .int .i64 (-1), .int .i64 (-1), .bool false] 68)
  replace c9 := (LF.cell z9).trans c9
  replace c10 := (LF.cell z10).trans c10
  replace c11 := (LF.cell z11).trans c11
  replace f9 := (LF.frozen z9).trans f9
  replace f10 := (LF.frozen z10).trans f10
  replace f11 := (LF.frozen z11).trans f11
  replace z9 := Nat.lt_of_lt_of_le z9 LF.size
  replace z10 := Nat.lt_of_lt_of_le z10 LF.size
  replace z11 := Nat.lt_of_lt_of_le z11 LF.size
  replace L0 := L0.trans LF
  clear LF
  have d0 : ((w2.alloc (.cells #[.int .i64 a, .int .i64 b, .int .i64 (-1), .int .i64 (-1), .bool false] 68)).setCell ⟨w.heap.size + 1 + 1, 0, none⟩ (.bool true)).cell? ⟨w.heap.size + 1 + 1, 0, none⟩ = some (.bool true) := cell_set_same c9
  have d1 : ((w2.alloc (.cells #[.int .i64 a, .int .i64 b, .int .i64 (-1), .int .i64 (-1), .bool false] 68)).setCell ⟨w.heap.size + 1 + 1, 0, none⟩ (.bool true)).cell? ⟨w.heap.size + 1 + 1, 1, none⟩ = some (.int .i64 0) := (cell_set_other (.inr (by decide))).trans c10
  have d2 : ((w2.alloc (.cells #[.int .i64 a, .int .i64 b, .int .i64 (-1), .int .i64 (-1), .bool false] 68)).setCell ⟨w.heap.size + 1 + 1, 0, none⟩ (.bool true)).cell? ⟨w.heap.size + 1 + 1, 2, none⟩ = some (.int .i64 0) := (cell_set_other (.inr (by decide))).trans c11
  have k1 : ((w2.alloc (.cells #[.int .i64 a, .int .i64 b, .int .i64 (-1), .int .i64 (-1), .bool false] 68)).setCell ⟨w.heap.size + 1 + 1, 0, none⟩ (.bool true)).frozen? ⟨w.heap.size + 1 + 1, 1, none⟩ = false := (frz_set ..).trans f10
  have k2 : ((w2.alloc (.cells #[.int .i64 a, .int .i64 b, .int .i64 (-1), .int .i64 (-1), .bool false] 68)).setCell ⟨w.heap.size + 1 + 1, 0, none⟩ (.bool true)).frozen? ⟨w.heap.size + 1 + 1, 2, none⟩ = false := (frz_set ..).trans f11
  have e0 : (((w2.alloc (.cells #[.int .i64 a, .int .i64 b, .int .i64 (-1), .int .i64 (-1), .bool false] 68)).setCell ⟨w.heap.size + 1 + 1, 0, none⟩ (.bool true)).setCell ⟨w.heap.size + 1 + 1, 1, none⟩ (.int .i64 a)).cell? ⟨w.heap.size + 1 + 1, 0, none⟩ = some (.bool true) := (cell_set_other (.inr (by decide))).trans d0
  have e1 : (((w2.alloc (.cells #[.int .i64 a, .int .i64 b, .int .i64 (-1), .int .i64 (-1), .bool false] 68)).setCell ⟨w.heap.size + 1 + 1, 0, none⟩ (.bool true)).setCell ⟨w.heap.size + 1 + 1, 1, none⟩ (.int .i64 a)).cell? ⟨w.heap.size + 1 + 1, 1, none⟩ = some (.int .i64 a) := cell_set_same d1
  have e2 : (((w2.alloc (.cells #[.int .i64 a, .int .i64 b, .int .i64 (-1), .int .i64 (-1), .bool false] 68)).setCell ⟨w.heap.size + 1 + 1, 0, none⟩ (.bool true)).setCell ⟨w.heap.size + 1 + 1, 1, none⟩ (.int .i64 a)).cell? ⟨w.heap.size + 1 + 1, 2, none⟩ = some (.int .i64 0) := (cell_set_other (.inr (by decide))).trans d2
  have q2 : (((w2.alloc (.cells #[.int .i64 a, .int .i64 b, .int .i64 (-1), .int .i64 (-1), .bool false] 68)).setCell ⟨w.heap.size + 1 + 1, 0, none⟩ (.bool true)).setCell ⟨w.heap.size + 1 + 1, 1, none⟩ (.int .i64 a)).frozen? ⟨w.heap.size + 1 + 1, 2, none⟩ = false := (frz_set ..).trans k2
  have m0 : ((((w2.alloc (.cells #[.int .i64 a, .int .i64 b, .int .i64 (-1), .int .i64 (-1), .bool false] 68)).setCell ⟨w.heap.size + 1 + 1, 0, none⟩ (.bool true)).setCell ⟨w.heap.size + 1 + 1, 1, none⟩ (.int .i64 a)).setCell ⟨w.heap.size + 1 + 1, 2, none⟩ (.int .i64 b)).cell? ⟨w.heap.size + 1 + 1, 0, none⟩ = some (.bool true) := (cell_set_other (.inr (by decide))).trans e0
  have m1 : ((((w2.alloc (.cells #[.int .i64 a, .int .i64 b, .int .i64 (-1), .int .i64 (-1), .bool false] 68)).setCell ⟨w.heap.size + 1 + 1, 0, none⟩ (.bool true)).setCell ⟨w.heap.size + 1 + 1, 1, none⟩ (.int .i64 a)).setCell ⟨w.heap.size + 1 + 1, 2, none⟩ (.int .i64 b)).cell? ⟨w.heap.size + 1 + 1, 1, none⟩ = some (.int .i64 a) := (cell_set_other (.inr (by decide))).trans e1
  have m2 : ((((w2.alloc (.cells #[.int .i64 a, .int .i64 b, .int .i64 (-1), .int .i64 (-1), .bool false] 68)).setCell ⟨w.heap.size + 1 + 1, 0, none⟩ (.bool true)).setCell ⟨w.heap.size + 1 + 1, 1, none⟩ (.int .i64 a)).setCell ⟨w.heap.size + 1 + 1, 2, none⟩ (.int .i64 b)).cell? ⟨w.heap.size + 1 + 1, 2, none⟩ = some (.int .i64 b) := cell_set_same e2
  have LE : Le w ((((w2.alloc (.cells #[.int .i64 a, .int .i64 b, .int .i64 (-1), .int .i64 (-1), .bool false] 68)).setCell ⟨w.heap.size + 1 + 1, 0, none⟩ (.bool true)).setCell ⟨w.heap.size + 1 + 1, 1, none⟩ (.int .i64 a)).setCell ⟨w.heap.size + 1 + 1, 2, none⟩ (.int .i64 b)) := ((L0.setCell (by omega) _).setCell (by omega) _).setCell (by omega) _
  go_wp2
  exact bodyPost_ret (v := .tuple #[.agg #[.bool true, .int .i64 a, .int .i64 b], .bool true]) (by simp [results, Tryz.results11, go_sem, m0, m1, m2]) rfl ⟨rfl, LE⟩
set_option maxHeartbeats 4000000 in
set_option maxRecDepth 100000 in
theorem fnFirstJumpRaise_walk (A : Option Addr) (n cap : Nat) (bs : List By) (w : World) (hR : Sl w A n cap bs) :
    Calls Tryz.prog 3 #[.slice A n cap] w fun e w' => e = .returned (.bool true) ∧ Le w w' := by
  have hm := hR.n_le
  by_cases hbig : 1048576 < n
  · go_enter Tryz.func3, Tryz.ntmps3
    go_wp2
    go_ret
    exact ⟨rfl, Le.refl w⟩
  go_enter Tryz.func3, Tryz.ntmps3
  go_wp2_with fail
  refine (drawFirstJump_any A n cap bs w hR).mono ?_
  rintro e w1 ⟨B, D, m, c, q, d, xs, p, rfl, S, hm8, S2, hq24, L0⟩
  obtain rfl := S2.len
  have hm1 : m ≤ 1048576 := by omega
  have hsm : p.length ≤ 1048576 := by omega
  clear hbig hm hR
  go_wp2_with fail
  obtain ⟨ct, zt, hleB⟩ := box1 w1 (.slice B m c) 25
  replace S := S.le hleB
  replace L0 := L0.trans hleB
  replace S2 := S2.le hleB
  clear hleB
  generalize w1.alloc (.cells #[.slice B m c] 25) = W1 at *
  go_wp2_with fail
  refine (iFirstJump_any B D m c _ d xs p hm1 W1 S S2).mono ?_
  rintro e w2 ⟨rfl, hle⟩
  replace ct := (hle.cell zt).trans ct
  replace zt := Nat.lt_of_lt_of_le zt hle.size
  replace S := S.le hle
  replace L0 := L0.trans hle
  replace S2 := S2.le hle
  clear hle
  go_wp2_with fail
  refine (sFirstJump_any B D m c _ d xs p hsm w2 S S2).mono ?_
  rintro e w3 ⟨rfl, hle⟩
  replace ct := (hle.cell zt).trans ct
  replace zt := Nat.lt_of_lt_of_le zt hle.size
  replace S := S.le hle
  replace L0 := L0.trans hle
  replace S2 := S2.le hle
  clear hle
  have hbb : (fjX xs p != fjX xs p) = false := by simp
  have hbb2 : (fjX xs p == fjX xs p) = true := by simp
  by_cases hneg : fjX xs p < 0
  · go_wp2_with fail
    refine (sFirstJump_any B D m c _ d xs p hsm w3 S S2).mono ?_
    rintro e w9 ⟨rfl, hle⟩
    replace L0 := L0.trans hle
    clear hle
    go_wp2
    go_ret
    exact ⟨rfl, L0⟩
  obtain ⟨hv, x, hx, hfx⟩ := fj_at (show 0 ≤ fjX xs p by omega)
  have HE := Lib.hid (fq_end hv hx hfx)
  have HWO : Hid (hasK xs p[x].a = true → wfX xs p x p[x].a = nI (wayL p ((encl p x).take (coN xs p p[x].a (encl p x))))) := fun hk => by
    have e : wfX xs p x p[x].a = cond (glB xs p x && hasK xs p[x].a) (nI (wayL p ((encl p x).take (coN xs p p[x].a (encl p x))))) [] := rfl
    rw [e, glB_iff.2 ⟨hv, x, rfl, hx⟩, hk]; rfl
  have HK : Hid (p[x].kind = 2 → hasK xs p[x].a = true) := fun h2 => by
    have hl := ((goodP_of hv).line x hx).1
    unfold numS at hl
    rw [h2] at hl
    rw [if_neg (by decide), if_pos rfl, Bool.and_eq_true] at hl
    exact hl.1
  have HWL : Hid (∀ a, ∀ z ∈ wayL p ((encl p x).take (coN xs p a (encl p x))), z < p.length) := fun a => wayL_lt (fun y hy => by have := encl_lt y (List.mem_of_mem_take hy); omega)
  clear hv hneg
  rw [hfx] at hbb hbb2 ⊢
  clear hfx
  obtain ⟨b, off, rfl, hb, c0, c1, c2, c3, -⟩ := S2.lin_at hx
  have hx0 : (0 : Int) ≤ (x : Int) := by omega
  have hxn : (x : Int) < (p.length : Int) := by omega
  by_cases h4 : p[x].kind = 2
  · have HE2 : Hid (¬ 0 ≤ caX xs p x p[x].a → plX p (wayL p ((encl p x).take (coN xs p p[x].a (encl p x)))) = true → rpE xs p = 2 ∧ rpV xs p = 0 ∧ rpH xs p = [(⟨p[x].a, p[x].b, -1, -1, false⟩ : Flt)] ∧ okTree xs = true ∧ okHeap xs [(⟨p[x].a, p[x].b, -1, -1, false⟩ : Flt)] = true) := HE.out h4
    have HWF := Lib.hid (HWO.out (HK.out h4))
    rw [h4] at c1
    clear HE HWO HK h4
    generalize p[x].depth = v0 at *
    generalize p[x].a = v2 at *
    generalize p[x].b = v3 at *
    have LN := Le.new w3 (.cells #[.int .i64 v0, .int .i64 2, .int .i64 v2, .int .i64 v3] 31)
    have c5 : (w3.alloc (.cells #[.int .i64 v0, .int .i64 2, .int .i64 v2, .int .i64 v3] 31)).cell? ⟨w3.heap.size, 2, none⟩ = some (.int .i64 v2) := cell_of_row _ _ 2 _ _ _ (frRow _ _)
    have z5 : w3.heap.size < (w3.alloc (.cells #[.int .i64 v0, .int .i64 2, .int .i64 v2, .int .i64 v3] 31)).heap.size := by simp
    have c6 : (w3.alloc (.cells #[.int .i64 v0, .int .i64 2, .int .i64 v2, .int .i64 v3] 31)).cell? ⟨w3.heap.size, 3, none⟩ = some (.int .i64 v3) := cell_of_row _ _ 3 _ _ _ (frRow _ _)
    have z6 := z5
    replace ct := (LN.cell zt).trans ct
    replace zt := Nat.lt_of_lt_of_le zt LN.size
    replace S := S.le LN
    replace L0 := L0.trans LN
    replace S2 := S2.le LN
    clear LN
    go_wp2_with fail
    generalize w3.alloc (.cells #[.int .i64 v0, .int .i64 2, .int .i64 v2, .int .i64 v3] 31) = W3 at *
    refine (iCatcherOf_any B _ m c _ d xs p x v2 hm1 W3 S S2).mono ?_
    rintro e w4 ⟨rfl, hle⟩
    replace ct := (hle.cell zt).trans ct
    replace c5 := (hle.cell z5).trans c5
    replace c6 := (hle.cell z6).trans c6
    replace zt := Nat.lt_of_lt_of_le zt hle.size
    replace z5 := Nat.lt_of_lt_of_le z5 hle.size
    replace z6 := Nat.lt_of_lt_of_le z6 hle.size
    replace S := S.le hle
    replace L0 := L0.trans hle
    replace S2 := S2.le hle
    clear hle
    by_cases hc : 0 ≤ caX xs p x v2
    · have hcb : decide (0 ≤ caX xs p x v2) = true := decide_eq_true hc
      go_wp2
      go_ret
      exact ⟨rfl, L0⟩
    have hcb : decide (0 ≤ caX xs p x v2) = false := decide_eq_false hc
    have HE3 := Lib.hid (HE2.out (by omega))
    clear HE2 hc
    go_wp2_with fail
    refine (Calls.slFj (by decide) (iWayOfFault_any B _ m c _ d xs p x v2 hm1 w4 S S2)).mono ?_
    rintro e w5 ⟨A4, k4, rfl, S4, hle⟩
    replace ct := (hle.cell zt).trans ct
    replace c5 := (hle.cell z5).trans c5
    replace c6 := (hle.cell z6).trans c6
    replace zt := Nat.lt_of_lt_of_le zt hle.size
    replace z5 := Nat.lt_of_lt_of_le z5 hle.size
    replace z6 := Nat.lt_of_lt_of_le z6 hle.size
    replace S := S.le hle
    replace L0 := L0.trans hle
    replace S2 := S2.le hle
    clear hle
    rw [HWF.out] at S4 ⊢
    go_wp2_with fail
    refine (plain_any _ A4 _ d _ k4 p _ (HWL.out v2) hsm w5 S2 S4).mono ?_
    rintro e w6 ⟨rfl, hle⟩
    replace ct := (hle.cell zt).trans ct
    replace c5 := (hle.cell z5).trans c5
    replace c6 := (hle.cell z6).trans c6
    replace zt := Nat.lt_of_lt_of_le zt hle.size
    replace z5 := Nat.lt_of_lt_of_le z5 hle.size
    replace z6 := Nat.lt_of_lt_of_le z6 hle.size
    replace S := S.le hle
    replace L0 := L0.trans hle
    replace S2 := S2.le hle
    clear hle
    cases hp : plX p (wayL p ((encl p x).take (coN xs p v2 (encl p x))))
    · go_wp2
      go_ret
      exact ⟨rfl, L0⟩
    · obtain ⟨h1, h2, h3, h4, h5⟩ := HE3.out hp
      have hvv : (v2 == v2) = true := by simp
      have hvv3 : (v3 == v3) = true := by simp
      go_wp2_with fail
      refine (iRp_any B _ m c _ d xs p hm1 w6 S S2).mono ?_
      rintro e w7 ⟨lv, hvv2, rfl, D1, D2, -, hle⟩
      rw [h3] at D2
      rw [h1, h2]
      obtain ⟨A6, k6, rfl, -, -⟩ := D1.form (by decide)
      obtain ⟨A7, k7, rfl, S7, -⟩ := D2.form (by decide)
      clear D1 D2
      generalize (rpL xs p).length = n6 at *
      replace ct := (hle.cell zt).trans ct
      replace c5 := (hle.cell z5).trans c5
      replace c6 := (hle.cell z6).trans c6
      replace zt := Nat.lt_of_lt_of_le zt hle.size
      replace z5 := Nat.lt_of_lt_of_le z5 hle.size
      replace z6 := Nat.lt_of_lt_of_le z6 hle.size
      replace S := S.le hle
      replace L0 := L0.trans hle
      replace S2 := S2.le hle
      clear hle
      have LN := Le.new w7 (.cells #[.slice A6 n6 k6, .int .i64 2, .int .i64 0, .slice A7 1 k7] 40)
      have c7 : (w7.alloc (.cells #[.slice A6 n6 k6, .int .i64 2, .int .i64 0, .slice A7 1 k7] 40)).cell? ⟨w7.heap.size, 1, none⟩ = some (.int .i64 2) := cell_of_row _ _ 1 _ _ _ (frRow _ _)
      have c8 : (w7.alloc (.cells #[.slice A6 n6 k6, .int .i64 2, .int .i64 0, .slice A7 1 k7] 40)).cell? ⟨w7.heap.size, 3, none⟩ = some (.slice A7 1 k7) := cell_of_row _ _ 3 _ _ _ (frRow _ _)
      have z7 : w7.heap.size < (w7.alloc (.cells #[.slice A6 n6 k6, .int .i64 2, .int .i64 0, .slice A7 1 k7] 40)).heap.size := by simp
      have z8 := z7
      replace ct := (LN.cell zt).trans ct
      replace c5 := (LN.cell z5).trans c5
      replace c6 := (LN.cell z6).trans c6
      replace zt := Nat.lt_of_lt_of_le zt LN.size
      replace z5 := Nat.lt_of_lt_of_le z5 LN.size
      replace z6 := Nat.lt_of_lt_of_le z6 LN.size
      replace S := S.le LN
      replace L0 := L0.trans LN
      replace S2 := S2.le LN
      replace S7 := S7.le LN
      clear LN
      go_wp2_with fail
      generalize w7.alloc (.cells #[.slice A6 n6 k6, .int .i64 2, .int .i64 0, .slice A7 1 k7] 40) = W7 at *
      refine (iStartOf_one B A6 A7 m c n6 k6 k7 xs v2 v3 h4 h5 W7 S S7).mono ?_
      rintro e w8 ⟨rfl, hle⟩
      replace c5 := (hle.cell z5).trans c5
      replace c6 := (hle.cell z6).trans c6
      replace c7 := (hle.cell z7).trans c7
      replace c8 := (hle.cell z8).trans c8
      replace z5 := Nat.lt_of_lt_of_le z5 hle.size
      replace z6 := Nat.lt_of_lt_of_le z6 hle.size
      replace z7 := Nat.lt_of_lt_of_le z7 hle.size
      replace z8 := Nat.lt_of_lt_of_le z8 hle.size
      replace L0 := L0.trans hle
      clear hle
      have LN := Le.new w8 (.cells #[.bool true, .int .i64 v2, .int .i64 v3] 43)
      replace c5 := (LN.cell z5).trans c5
      replace c6 := (LN.cell z6).trans c6
      replace c7 := (LN.cell z7).trans c7
      replace c8 := (LN.cell z8).trans c8
      replace z5 := Nat.lt_of_lt_of_le z5 LN.size
      replace z6 := Nat.lt_of_lt_of_le z6 LN.size
      replace z7 := Nat.lt_of_lt_of_le z7 LN.size
      replace z8 := Nat.lt_of_lt_of_le z8 LN.size
      replace L0 := L0.trans LN
      clear LN
      go_wp2
      go_ret
      exact ⟨rfl, L0⟩
  · have n4 : (p[x].kind != 2) = true := by simpa using h4
    clear HE HWO HK h4
    generalize p[x].kind = vk at *
    generalize p[x].depth = v0 at *
    generalize p[x].a = v2 at *
    generalize p[x].b = v3 at *
    go_wp2
    go_ret
    exact ⟨rfl, L0.trans (Le.new _ _)⟩
end Go.Proofs.YtgjlmfjmjglplaaGreat
