/- one text of GpF, ItK, ItNa, ItR -/
import Derived.Test.YtpkkkpfanedieaaCk12
import Derived.Test.YtpkkkpfanedieaaCk9
import Derived.Test.YtpkkkpfanedieaaCk5
import Derived.Test.YtpkkkpfanedieaaCk11
import Derived.Test.YtpkkkpfanedieaaCk2
import Derived.Sort.QuietIn
namespace Go.Proofs.Ytpkkkpfanedieaa
open Go.RowKit
set_option linter.unusedVariables false
section
theorem okF_keep {n : Int} (p : Lef → Bool) : ∀ {t : Fo}, okF n t → okF n (keepF p t)
  | .nil, _ => trivial
  | .leaf x r, ⟨h1, h2, h3, h4, h5⟩ => by
    rw [keepF]
    cases p x
    · exact okF_keep p h5
    · exact ⟨h1, h2, h3, h4, okF_keep p h5⟩
  | .grp c k r, ⟨h1, h2, h3, h4, h5⟩ => by
    rw [keepF]
    cases e : anyFo p k
    · exact okF_keep p h5
    · exact ⟨h1, h2, keepF_some e, okF_keep p h4, okF_keep p h5⟩
theorem htF_keep (p : Lef → Bool) : ∀ t : Fo, htF (keepF p t) ≤ htF t
  | .nil => Nat.le_refl _
  | .leaf x r => by
    have := htF_keep p r
    rw [keepF]
    cases p x
    · show htF (keepF p r) ≤ htF (.leaf x r); rw [htF]; omega
    · show htF (.leaf x (keepF p r)) ≤ _; rw [htF, htF]; omega
  | .grp c k r => by
    have := htF_keep p k
    have := htF_keep p r
    rw [keepF]
    cases e : anyFo p k
    · show htF (keepF p r) ≤ htF (.grp c k r); rw [htF]; omega
    · show htF (.grp c (keepF p k) (keepF p r)) ≤ _; rw [htF, htF]; omega
theorem szF_keep (p : Lef → Bool) : ∀ t : Fo, szF (keepF p t) ≤ szF t
  | .nil => Nat.le_refl _
  | .leaf x r => by
    have := szF_keep p r
    rw [keepF]
    cases p x
    · show szF (keepF p r) ≤ szF (.leaf x r); rw [szF]; omega
    · show szF (.leaf x (keepF p r)) ≤ _; rw [szF, szF]; omega
  | .grp c k r => by
    have := szF_keep p k
    have := szF_keep p r
    rw [keepF]
    cases e : anyFo p k
    · show szF (keepF p r) ≤ szF (.grp c k r); rw [szF]; omega
    · show szF (.grp c (keepF p k) (keepF p r)) ≤ _; rw [szF, szF]; omega
theorem GTr.keep {xs : List Cls} {t : Fo} (h : GTr xs t) {p : Lef → Bool} (ha : anyFo p t = true) : GTr xs (keepF p t) := by
  refine ⟨h.tree, ?_, okF_keep p h.ok, Nat.le_trans (htF_keep p t) h.ht, Nat.le_trans (szF_keep p t) h.sz⟩
  cases h.one with
  | leaf x =>
    have : p x = true := by simpa [anyFo] using ha
    rw [keepF, this]; exact .leaf x
  | grp c k =>
    have : anyFo p k = true := by simpa [anyFo] using ha
    rw [keepF, this]; exact .grp c _
/-- what is kept of a list of parts, nothing of nothing -/
def selG (p : Lef → Bool) (g : List Prt) : List Prt := selK (keepsAt (tL p) g) g g.length
theorem selG_flat (p : Lef → Bool) (t : Fo) : selG p (flat 0 t) = flat 0 (keepF p t) := by
  unfold selG selK
  rw [selL_selS _ _ _ 0 (by omega), List.drop_zero]
  have := selS_flat p t 0 [] (fun q hq => by cases hq)
  rw [List.append_nil] at this
  rw [this]
  show _ ++ [] = _
  rw [List.append_nil]
theorem selG_nil (p : Lef → Bool) : selG p [] = [] := rfl
/-- a valid group, or nothing -/
def GoodE (xs : List Cls) (g : List Prt) : Prop := g = [] ∨ GoodG xs g
theorem GoodE.tree {xs : List Cls} {g : List Prt} (h : GoodE xs g) : ∃ t, g = flat 0 t ∧ (t = .nil ∨ GTr xs t) := by
  rcases h with rfl | h
  · exact ⟨.nil, rfl, .inl rfl⟩
  · obtain ⟨t, e, h⟩ := good_tree h
    exact ⟨t, e, .inr h⟩
theorem GoodE.of_tree {xs : List Cls} {t : Fo} (h : t = .nil ∨ GTr xs t) : GoodE xs (flat 0 t) := by
  rcases h with rfl | h
  · exact .inl rfl
  · exact .inr h.good
theorem GoodE.sel {xs : List Cls} {g : List Prt} (h : GoodE xs g) (p : Lef → Bool) : GoodE xs (selG p g) := by
  obtain ⟨t, rfl, h0⟩ := h.tree
  rw [selG_flat]
  refine GoodE.of_tree ?_
  rcases h0 with rfl | h
  · exact .inl rfl
  · cases e : anyFo p t
    · exact .inl (keepF_none e)
    · exact .inr (h.keep e)
theorem GoodE.len {xs : List Cls} {g : List Prt} (h : GoodE xs g) : g.length ≤ 16 := by
  rcases h with rfl | h
  · exact Nat.zero_le _
  · exact h.len.2
theorem tS_tL (xs : List Cls) (a : Int) (wi : Bool) : tS xs a wi = tL (fun x => isAL xs x.cls a == wi) := rfl
/-- the parts of a group with leaves of a class, or with others -/
def selA (xs : List Cls) (g : List Prt) (a : Int) (wi : Bool) : List Prt := selG (fun x => isAL xs x.cls a == wi) g
theorem GoodE.selA {xs : List Cls} {g : List Prt} (h : GoodE xs g) (a : Int) (wi : Bool) : GoodE xs (selA xs g a wi) := h.sel _
/-- what several classes take of a group, one behind the other, and what is left -/
def hgT (xs : List Cls) : List Prt → List Int → List (List Prt)
  | _, [] => []
  | g, a :: r => selA xs g a true :: hgT xs (selA xs g a false) r
def hgR (xs : List Cls) : List Prt → List Int → List Prt
  | g, [] => g
  | g, a :: r => hgR xs (selA xs g a false) r
theorem hgR_snoc (xs : List Cls) : ∀ (L : List Int) (g : List Prt) (a : Int), hgR xs g (L ++ [a]) = selA xs (hgR xs g L) a false
  | [], _, _ => rfl
  | _ :: L, _, a => hgR_snoc xs L _ a
theorem hgT_snoc (xs : List Cls) : ∀ (L : List Int) (g : List Prt) (a : Int), hgT xs g (L ++ [a]) = hgT xs g L ++ [selA xs (hgR xs g L) a true]
  | [], _, _ => rfl
  | _ :: L, _, a => by
    rw [List.cons_append, hgT, hgT_snoc xs L _ a, hgT, List.cons_append]; rfl
theorem hgT_len (xs : List Cls) : ∀ (L : List Int) (g : List Prt), (hgT xs g L).length = L.length
  | [], _ => rfl
  | _ :: L, g => by rw [hgT, List.length_cons, hgT_len xs L]; rfl
theorem hgR_good {xs : List Cls} : ∀ (L : List Int) {g : List Prt}, GoodE xs g → GoodE xs (hgR xs g L)
  | [], _, h => h
  | _ :: L, _, h => hgR_good L (h.selA _ _)
theorem hgT_mem {xs : List Cls} : ∀ (L : List Int) {g : List Prt}, GoodE xs g → ∀ l ∈ hgT xs g L, GoodE xs l
  | [], _, _, l, hl => nomatch hl
  | _ :: L, _, h, l, hl => by
    rcases List.mem_cons.1 hl with rfl | hl
    · exact h.selA _ _
    · exact hgT_mem L (h.selA _ _) l hl
theorem tot_mem {α : Type} {c : Nat} : ∀ {L : List (List α)}, (∀ l ∈ L, l.length ≤ c) → tot L ≤ c * L.length
  | [], _ => Nat.zero_le _
  | l :: L, h => by
    have h1 := h l (List.mem_cons_self ..)
    have h2 := tot_mem (L := L) (fun y hy => h y (List.mem_cons_of_mem _ hy))
    unfold tot at h2 ⊢
    rw [List.map_cons, List.sum_cons, List.length_cons, Nat.mul_succ]
    omega
end

section
open Go.RowKit Go.Shelf
attribute [local go_sem] Oper.semAt_some
/-- where the pieces from f up to b begin -/
def kdS (g : List Prt) : Nat → Nat → Nat → List Nat
  | 0, _, _ => []
  | m + 1, f, b => if f < b then f :: kdS g m (endN g f) b else []
/-- what the iterator over kids reads between two rounds lies as it lay: the group below n₀, the box of the piece -/
structure KpB (n₀ Bg : Nat) (w w' : World) : Prop where
  size : w.heap.size ≤ w'.heap.size
  block : ∀ k, k < n₀ ∨ k = Bg → w'.heap[k]? = w.heap[k]?
theorem KpB.refl (n₀ Bg : Nat) (w : World) : KpB n₀ Bg w w := ⟨Nat.le_refl _, fun _ _ => rfl⟩
theorem KpB.trans {n₀ Bg : Nat} {a b c : World} (h : KpB n₀ Bg a b) (k : KpB n₀ Bg b c) : KpB n₀ Bg a c := ⟨Nat.le_trans h.size k.size, fun i hi => (k.block i hi).trans (h.block i hi)⟩
theorem KpB.cell {n₀ Bg : Nat} {w w' : World} (h : KpB n₀ Bg w w') {k o : Nat} (hk : k < n₀ ∨ k = Bg) : w'.cell? ⟨k, o, none⟩ = w.cell? ⟨k, o, none⟩ := by
  simp only [World.cell?, h.block k hk]
theorem SlB.keptB {α : Type} [Enc α] {n₀ Bg : Nat} {w w' : World} {A : Option Addr} {n cap : Nat} {xs : List α} (h : SlB n₀ w A n cap xs) (hB : KpB n₀ Bg w w') : SlB n₀ w' A n cap xs := by
  refine ⟨⟨h.sl.len, h.sl.cap_, h.sl.max, h.sl.ok, fun hn => ?_⟩, h.lo⟩
  obtain ⟨b, off, e, hb, hc⟩ := h.sl.at_ hn
  have hlt := h.lo hn _ e
  exact ⟨b, off, e, Nat.lt_of_lt_of_le hb hB.size, fun j u hu => (hB.cell (.inl hlt)).trans (hc j u hu)⟩
/-- a piece of a group as a slice of it -/
abbrev encKid (g : List Prt) (b off C : Nat) {P : Nat → Prop} (x : { x : Nat // P x }) : Array Value := #[.slice (some ⟨b, off + x.1 * 4, none⟩) (endN g x.1 - x.1) (C - x.1)]
set_option maxRecDepth 100000 in
set_option maxHeartbeats 4000000 in
theorem kids1_in (n : Nat) (hn : 1 ≤ n) (l Bg n₀ b off C : Nat) (g : List Prt) (f0 b0 : Nat) (hm16 : g.length ≤ 16) (hf0 : f0 < b0) (hb0 : b0 ≤ g.length) (hend : ∀ i, f0 < i → i < b0 → endN g i ≤ b0)
    (P : Nat → Prop) (hP : ∀ i, f0 < i → i < b0 → P i) (J Jx : List { x : Nat // P x } → World → Prop)
    (hY : ∀ pre x W, J pre W → pre.length < b0 - f0 → YieldAt Fence.wide (n - 1) Try.prog l (encKid g b off C x) W fun e W' =>
      (e = .returned (.bool true) ∧ J (pre ++ [x]) W' ∧ KpB n₀ Bg W W') ∨ (e = .returned (.bool false) ∧ Jx (pre ++ [x]) W'))
    (W : World) (hJ : AbidesFrom W.heap.size J) (hBg : W.cell? ⟨Bg, 0, none⟩ = some (.slice (some ⟨b, off + f0 * 4, none⟩) (b0 - f0) (C - f0))) (S : SlB n₀ W (some ⟨b, off, none⟩) g.length C g) (h0 : J [] W) :
    CallsIn Fence.wide n Try.prog 74 #[.func (.yield l) #[] #[], .pointer (some ⟨Bg, 0, none⟩)] W fun e W' => (∃ v, e = .returned v) ∧
      ((∃ ys, ys.map (·.1) = kdS g g.length (f0 + 1) b0 ∧ J ys W') ∨ (∃ pre, pre.map (·.1) <+: kdS g g.length (f0 + 1) b0 ∧ Jx pre W')) := by
  have hmx := S.sl.n_le
  have hcap := S.sl.cap_
  refine callsIn_of_wp Try.func74 rfl trivial ?_ rfl
  simp only [Try.ntmps74, List.size_toArray, List.length_cons, List.length_nil, Nat.reduceAdd, Nat.reduceSub, Array.replicate_succ, Array.replicate_zero, List.push_toArray, List.append_toArray, List.nil_append, List.cons_append]
  gi_wp2
  gi_loopw [3, 4] (fun v u wr => ∃ (r s m : Nat) (ys : List { x : Nat // P x }), 1 ≤ r ∧ r < s ∧ s ≤ b0 - f0 + 1 ∧ v = .int .i64 r ∧ u = .int .i64 s ∧ b0 - (f0 + r) ≤ m ∧ ys.map (·.1) ++ kdS g m (f0 + r) b0 = kdS g g.length (f0 + 1) b0 ∧ ys.length < r ∧ ((f0 + r < b0 ∧ f0 + s ≤ b0 ∧ endN g (f0 + r) = endFrom g (f0 + r) (g.length - (f0 + s)) (f0 + s)) ∨ (f0 + r = b0 ∧ s = b0 - f0 + 1)) ∧ J ys wr ∧ KpB n₀ Bg W wr)
    (fun _ u _ => b0 - f0 + 1 - (intOf u).toNat)
  case atStart =>
    refine ⟨1, 2, g.length, [], Nat.le_refl _, by omega, by omega, rfl, rfl, by omega, rfl, Nat.zero_lt_one, ?_, h0, KpB.refl _ _ _⟩
    by_cases h1 : f0 + 1 < b0
    · exact .inl ⟨h1, by omega, rfl⟩
    · exact .inr ⟨by omega, by omega⟩
  case round =>
    obtain ⟨r, s, m, ys, hr1, hrs, hs, rfl, rfl, hm, hys, hyl, hst, hJs, hnx⟩ := hrel
    have HYS := Lib.hid hys
    clear hys
    have cB := (hnx.cell (k := Bg) (o := 0) (.inr rfl)).trans hBg
    by_cases hlt : s ≤ b0 - f0
    · obtain ⟨hfr, hfs, he⟩ : f0 + r < b0 ∧ f0 + s ≤ b0 ∧ endN g (f0 + r) = endFrom g (f0 + r) (g.length - (f0 + s)) (f0 + s) := by
        rcases hst with h | h
        · exact h
        · omega
      have HE := Lib.hid he
      clear he hst
      obtain ⟨m', rfl⟩ : ∃ m', m = m' + 1 := ⟨m - 1, by omega⟩
      have hk1 : f0 + r < g.length := by omega
      have HK : Hid (kdS g (m' + 1) (f0 + r) b0 = (f0 + r) :: kdS g m' (endN g (f0 + r)) b0) := by
        show (if f0 + r < b0 then _ else _) = _
        rw [if_pos hfr]
      obtain ⟨b1, off1, e1, hb1, p0, -⟩ := (S.keptB hnx).sl.prt_at hk1
      cases e1
      by_cases hsl : s < b0 - f0
      · have hk2 : f0 + s < g.length := by omega
        obtain ⟨b2, off2, e2, hb2, q0, -⟩ := (S.keptB hnx).sl.prt_at hk2
        cases e2
        simp only [Nat.add_mul, ← Nat.add_assoc] at p0 q0
        by_cases hd : g[f0 + r].depth < g[f0 + s].depth
        · have HS : Hid (endN g (f0 + r) = endFrom g (f0 + r) (g.length - (f0 + (s + 1))) (f0 + (s + 1))) := by
            show _ = _
            rw [HE.out, endF_step g (f0 + r) hk2, gAt_at hk1, gAt_at hk2, if_pos hd]; rfl
          gi_wp2
          gi_big_quiet (fail)
          have hJ' : J ys (wr.drewN nq) := hJ _ wr _ none hJs ⟨rfl, rfl, rfl, Nat.le_refl _, fun _ _ _ => rfl⟩ (fun r e => by cases e)
          have hB' : KpB n₀ Bg W (wr.drewN nq) := hnx.trans ⟨Nat.le_refl _, fun _ _ => rfl⟩
          gi_wp2
          go_roundw
          case rel => exact ⟨r, s + 1, m' + 1, ys, hr1, by omega, by omega, rfl, by simp, hm, HYS.out, hyl, .inl ⟨hfr, by omega, HS.out⟩, hJ', hB'⟩
          case measure => simp [intOf]; omega
        · have HN : Hid (endN g (f0 + r) = f0 + s) := by
            show _ = _
            rw [HE.out, endF_step g (f0 + r) hk2, gAt_at hk1, gAt_at hk2, if_neg hd]
          have hdz : decide (g[f0 + r].depth < g[f0 + s].depth) = false := decide_eq_false hd
          gi_wp2
          gi_big_quiet (fail)
          have hJ' : J ys (wr.drewN nq) := hJ _ wr _ none hJs ⟨rfl, rfl, rfl, Nat.le_refl _, fun _ _ _ => rfl⟩ (fun r e => by cases e)
          have hB' : KpB n₀ Bg W (wr.drewN nq) := hnx.trans ⟨Nat.le_refl _, fun _ _ => rfl⟩
          obtain ⟨fn, tmps, assign, body, hy, hR⟩ := hY ys ⟨f0 + r, hP _ (by omega) hfr⟩ _ hJ' (by omega)
          have hx1 : off + (f0 + r) * 4 = off + f0 * 4 + r * 4 := by omega
          have hx2 : endN g (f0 + r) - (f0 + r) = s - r := by rw [HN.out]; omega
          have hx3 : C - (f0 + r) = C - f0 - r := by omega
          have c' : (wr.drewN nq).cell? ⟨Bg, 0, none⟩ = some (.slice (some ⟨b, off + f0 * 4, none⟩) (b0 - f0) (C - f0)) := cB
          dsimp only [encKid] at hy
          rw [hx1, hx2, hx3] at hy
          have HSTEP : Hid ((ys ++ [(⟨f0 + r, hP _ (by omega) hfr⟩ : { x : Nat // P x })]).map (·.1) ++ kdS g m' (f0 + s) b0 = kdS g g.length (f0 + 1) b0) := by
            show _ = _
            rw [← HYS.out, HK.out, HN.out, List.map_append, List.append_assoc]; rfl
          have HPRE : Hid ((ys ++ [(⟨f0 + r, hP _ (by omega) hfr⟩ : { x : Nat // P x })]).map (·.1) <+: kdS g g.length (f0 + 1) b0) := ⟨_, HSTEP.out⟩
          gi_wp2
          refine hR.mono ?_
          rintro e3 W3 (⟨rfl, hJ3, hk3⟩ | ⟨rfl, hJx3⟩)
          · gi_wp2
            go_roundw
            case rel =>
              refine ⟨s, s + 1, m', _, by omega, by omega, by omega, rfl, by go_num, by omega, HSTEP.out, by simp; omega, ?_, hJ3, hB'.trans hk3⟩
              by_cases h1 : f0 + s < b0
              · exact .inl ⟨h1, by omega, rfl⟩
              · exact .inr ⟨by omega, by omega⟩
            case measure => simp [intOf]; omega
          · gi_wp2
            refine bodyPost_ret (results_none rfl _ _ _) rfl ?_
            exact ⟨⟨_, rfl⟩, .inr ⟨_, HPRE.out, hJx3⟩⟩
      · have HN : Hid (endN g (f0 + r) = f0 + s) := by
          show _ = _
          have h1 := hend (f0 + r) (by omega) hfr
          have h2 := endFrom_ge g (f0 + r) (g.length - (f0 + s)) (f0 + s)
          rw [← HE.out] at h2
          omega
        gi_wp2
        gi_big_quiet (fail)
        have hJ' : J ys (wr.drewN nq) := hJ _ wr _ none hJs ⟨rfl, rfl, rfl, Nat.le_refl _, fun _ _ _ => rfl⟩ (fun r e => by cases e)
        have hB' : KpB n₀ Bg W (wr.drewN nq) := hnx.trans ⟨Nat.le_refl _, fun _ _ => rfl⟩
        obtain ⟨fn, tmps, assign, body, hy, hR⟩ := hY ys ⟨f0 + r, hP _ (by omega) hfr⟩ _ hJ' (by omega)
        have hx1 : off + (f0 + r) * 4 = off + f0 * 4 + r * 4 := by omega
        have hx2 : endN g (f0 + r) - (f0 + r) = s - r := by rw [HN.out]; omega
        have hx3 : C - (f0 + r) = C - f0 - r := by omega
        have c' : (wr.drewN nq).cell? ⟨Bg, 0, none⟩ = some (.slice (some ⟨b, off + f0 * 4, none⟩) (b0 - f0) (C - f0)) := cB
        dsimp only [encKid] at hy
        rw [hx1, hx2, hx3] at hy
        have HSTEP : Hid ((ys ++ [(⟨f0 + r, hP _ (by omega) hfr⟩ : { x : Nat // P x })]).map (·.1) ++ kdS g m' (f0 + s) b0 = kdS g g.length (f0 + 1) b0) := by
          show _ = _
          rw [← HYS.out, HK.out, HN.out, List.map_append, List.append_assoc]; rfl
        have HPRE : Hid ((ys ++ [(⟨f0 + r, hP _ (by omega) hfr⟩ : { x : Nat // P x })]).map (·.1) <+: kdS g g.length (f0 + 1) b0) := ⟨_, HSTEP.out⟩
        gi_wp2
        refine hR.mono ?_
        rintro e3 W3 (⟨rfl, hJ3, hk3⟩ | ⟨rfl, hJx3⟩)
        · gi_wp2
          go_roundw
          case rel =>
            refine ⟨s, s + 1, m', _, by omega, by omega, by omega, rfl, by go_num, by omega, HSTEP.out, by simp; omega, ?_, hJ3, hB'.trans hk3⟩
            by_cases h1 : f0 + s < b0
            · exact .inl ⟨h1, by omega, rfl⟩
            · exact .inr ⟨by omega, by omega⟩
          case measure => simp [intOf]; omega
        · gi_wp2
          refine bodyPost_ret (results_none rfl _ _ _) rfl ?_
          exact ⟨⟨_, rfl⟩, .inr ⟨_, HPRE.out, hJx3⟩⟩
    · have hz : f0 + r = b0 := by omega
      clear hst
      have HN : Hid (ys.map (·.1) = kdS g g.length (f0 + 1) b0) := by
        show _ = _
        rw [← HYS.out]
        cases m with
        | zero => simp [kdS]
        | succ m => unfold kdS; rw [if_neg (by omega)]; simp
      gi_wp2
      go_end0
      exact ⟨⟨_, rfl⟩, .inl ⟨ys, HN.out, hJs⟩⟩
set_option maxHeartbeats 1000000 in
theorem kids_in (F : Fence) (n : Nat) (hf : F.fn 57) (hro : F.round = none) (A : Option Addr) (m cap : Nat) (w : World) :
    CallsIn F n Try.prog 57 #[.slice A m cap] w fun e w' => e = .returned (.func (.func 74) #[] #[.pointer (some ⟨w.heap.size, 0, none⟩)]) ∧ w' = w.alloc (.cells #[.slice A m cap] 26) := by
  refine callsIn_of_wp Try.func57 rfl hf ?_ hro
  simp only [Try.ntmps57, List.size_toArray, List.length_cons, List.length_nil, Nat.reduceAdd, Nat.reduceSub, Array.replicate_succ, Array.replicate_zero, List.push_toArray, List.append_toArray, List.nil_append, List.cons_append]
  gi_wp2
  go_ret
  exact ⟨rfl, rfl⟩
theorem kids_stops (n : Nat) (hn : 1 ≤ n) (Bg n₀ b off C : Nat) (g : List Prt) (f0 b0 : Nat) (hm16 : g.length ≤ 16) (hf0 : f0 < b0) (hb0 : b0 ≤ g.length) (hend : ∀ i, f0 < i → i < b0 → endN g i ≤ b0)
    (P : Nat → Prop) (hP : ∀ i, f0 < i → i < b0 → P i) (w : World) (hBg : Bg < w.heap.size) (hn₀ : n₀ ≤ w.heap.size)
    (hc : w.cell? ⟨Bg, 0, none⟩ = some (.slice (some ⟨b, off + f0 * 4, none⟩) (b0 - f0) (C - f0))) (S : SlB n₀ w (some ⟨b, off, none⟩) g.length C g) :
    SeqStopsK Fence.wide n Try.prog 74 #[.pointer (some ⟨Bg, 0, none⟩)] (encKid (P := P) g b off C) (KpB n₀ Bg) (fun ys => ys.map (·.1) = kdS g g.length (f0 + 1) b0) (fun pre => pre.map (·.1) <+: kdS g g.length (f0 + 1) b0) (b0 - f0) w := fun l J Jx W hW hJ _ hY h0 =>
  kids1_in n hn l Bg n₀ b off C g f0 b0 hm16 hf0 hb0 hend P hP J Jx hY W (fun s X Y row hs hg hr => hJ s X Y row hs hg (fun r e => hr r e)) ((hW.cell (p := ⟨Bg, 0, none⟩) hBg).trans hc) (S.below (hW.mono hn₀)) h0
end

section
open Go.RowKit Go.Shelf
theorem Sl.dropK {α : Type} [Enc α] {w : World} {b off n cap : Nat} {xs : List α} (h : Sl w (some ⟨b, off, none⟩) n cap xs) (k : Nat) (hk : k ≤ n) : Sl w (some ⟨b, off + k * Enc.size α, none⟩) (n - k) (cap - k) (xs.drop k) := by
  refine ⟨by rw [List.length_drop, h.len], by have := h.cap_; omega, by have := h.max; omega, fun x hx => h.ok x (List.mem_of_mem_drop hx), fun hn => ?_⟩
  obtain ⟨b', off', e, hb, hc⟩ := h.at_ (by omega)
  simp only [Option.some.injEq, Addr.mk.injEq, and_true] at e
  obtain ⟨rfl, rfl⟩ := e
  refine ⟨b, _, rfl, hb, fun j u hu => ?_⟩
  have e2 : xs.flatMap (Enc.cells (α := α)) = (xs.take k).flatMap Enc.cells ++ (xs.drop k).flatMap Enc.cells := by rw [← List.flatMap_append, List.take_append_drop]
  have e3 : ((xs.take k).flatMap (Enc.cells (α := α))).length = k * Enc.size α := by rw [flat_len, List.length_take, Nat.min_eq_left (by rw [h.len]; exact hk)]
  have := hc (k * Enc.size α + j) u (by rw [e2, List.getElem?_append_right (by omega), e3, Nat.add_sub_cancel_left]; exact hu)
  rw [← Nat.add_assoc] at this; exact this
theorem Sl.cutS {α : Type} [Enc α] {w : World} {ad : Addr} {n cap : Nat} {xs : List α} (h : Sl w (some ad) n cap xs) (k : Nat) (hk : k ≤ n) {s : Nat} (hs : s = k * Enc.size α) : Sl w (some (ad.add s)) (n - k) (cap - k) (xs.drop k) := by
  subst hs
  by_cases hn : n = k
  · subst hn
    have e : xs.drop n = [] := List.drop_eq_nil_of_le (by rw [h.len]; exact Nat.le_refl _)
    rw [e, Nat.sub_self]
    exact Sl.nil _ _ _ (by have := h.max; omega)
  · obtain ⟨b, off, e, _⟩ := h.at_ (by omega)
    simp only [Option.some.injEq] at e
    subst e
    have e : (⟨b, off, none⟩ : Addr).add (k * Enc.size α) = ⟨b, off + k * Enc.size α, none⟩ := by
      unfold Addr.add; split
      · next h => simp_all
      · rfl
    rw [e]; exact h.dropK k hk
/-- an append in a region that draws its order, within a fence -/
theorem stepIn_append_sl {α : Type} [Enc α] [EncOne α] {F : Fence} {nf : Nat} {P : Program} {w : World} {ops : Array Oper} {o : Oper} {a : Act} {K : Act → World → Prop} {Q : Exit → Act → World → Prop} {E : Prop} (hgd : o.guard = none) (s x : Operand) (t : TypeId)
    (ho : o.op = .call { callee := .builtin .append, args := #[s, x], argTypes := #[t, t] })
    (base : Nat) (e : TypeId) (i : TypeInfo) (z : Value) (bytes : Nat) (ht : P.underlying t = some (.slice e)) (hi : P.info? e = some i) (hz : i.zero = some z)
    (hsize : i.size = Enc.size α) (hby : i.bytes = bytes) (hzs : z.cells.size = Enc.size α) (v : Value) (n : Nat) (xs : List α) (hs : a.eval s = v) (hown : w.ownsRow base e (Enc.size α) v n (xs.flatMap Enc.cells))
    (A : Option Addr) (m c : Nat) (ys : List α) (hx : a.eval x = .slice A m c) (hS : Sl w A m c ys) (h63 : n + m ≤ maxLen) (hbytes : (n + m) * bytes ≤ 140737488355328) (hbase : base ≤ w.heap.size)
    (h : ∀ v' w', w'.ownsRow base e (Enc.size α) v' (n + m) ((xs ++ ys).flatMap Enc.cells) → w.grownBy w' v.ownBlock → (v'.ownBlock = v.ownBlock ∨ v'.ownBlock = some w.heap.size) → K (a.put o.dst v') w') :
    if Region.wanted o (yielded ops a.tmps) = true then Oper.wpIn F nf P o a w K Q else E := by
  have hw : Region.wanted o (yielded ops a.tmps) = true := by simp [Region.wanted, hgd]
  rw [if_pos hw]
  obtain ⟨v', w', hrun, h2, h3, h4⟩ := run_append_sl (P := P) (w := w) base t o.type e i z bytes ht hi hz hsize hby hzs v n xs hown A m c ys hS h63 hbytes hbase
  unfold Oper.wpIn
  refine ⟨?_, ?_⟩
  · simp [Oper.about, ho, resolve, Target.leads, Sem.run_pure]
  · rw [Oper.semAt_plain F _ _ (by rw [ho]; intro c hc'; cases hc')]
    simp [execOp, ho, resolve, invoke, builtin, hs, hx, hrun, Result.andThen]
    exact h v' w' h2 h3 h4
theorem Le.trans' {a b c : World} (h : Le a b) (k : Below a.heap.size b c) : Le a c := Below.trans h k
theorem kpB_b {n₀ Bg B : Nat} (h1 : n₀ ≤ B) (h2 : Bg < B) : ∀ (W : World) (l : Nat) (o o' : Obj), B ≤ l → W.heap[l]? = some o → o.isCells = false → o.isWalk = false → KpB n₀ Bg W (W.putObj l o') := fun W l o o' hl ho _ _ => by
  have hlt := (Array.getElem?_eq_some_iff.1 ho).1
  have hg := grownBy_putObj' W l o'
  exact ⟨hg.size, fun k hk => hg.block k (by omega) (fun e => by injection e with e; omega)⟩
end

section
theorem infoPartSl' : (Try.prog.info? 26).map (fun i => (i.zero, i.size, i.bytes)) = some (some (.slice none 0 0), 1, 24) := by kernel_rfl
theorem step_append_slG {α : Type} [Enc α] [EncOne α] {P : Program} {w : World} {ops : Array Oper} {o : Oper} {a : Act} {K : Act → World → Prop} {Q : Exit → Act → World → Prop} {E : Prop} (hw : Region.wanted o (yielded ops a.tmps) = true) (s x : Operand) (t : TypeId)
    (ho : o.op = .call { callee := .builtin .append, args := #[s, x], argTypes := #[t, t] })
    (base : Nat) (e : TypeId) (i : TypeInfo) (z : Value) (bytes : Nat) (ht : P.underlying t = some (.slice e)) (hi : P.info? e = some i) (hz : i.zero = some z)
    (hsize : i.size = Enc.size α) (hby : i.bytes = bytes) (hzs : z.cells.size = Enc.size α) (v : Value) (n : Nat) (xs : List α) (hs : a.eval s = v) (hown : w.ownsRow base e (Enc.size α) v n (xs.flatMap Enc.cells))
    (A : Option Addr) (m c : Nat) (ys : List α) (hx : a.eval x = .slice A m c) (hS : Sl w A m c ys) (h63 : n + m ≤ maxLen) (hbytes : (n + m) * bytes ≤ 140737488355328) (hbase : base ≤ w.heap.size)
    (h : ∀ v' w', w'.ownsRow base e (Enc.size α) v' (n + m) ((xs ++ ys).flatMap Enc.cells) → w.grownBy w' v.ownBlock → (v'.ownBlock = v.ownBlock ∨ v'.ownBlock = some w.heap.size) → K (a.put o.dst v') w') :
    if Region.wanted o (yielded ops a.tmps) = true then Oper.wp P o a w K Q else E := by
  rw [if_pos hw]
  exact wp_append_sl s x t ho base e i z bytes ht hi hz hsize hby hzs v n xs hs hown A m c ys hx hS h63 hbytes hbase h
/-- what lies right below a group, from the part i on -/
def kidAt (g : List Prt) (i : Nat) : List Prt := shiftL (piece g i) (-(gAt g i).depth)
def kidsL (g : List Prt) : List (List Prt) := (kdS g g.length 1 g.length).map (kidAt g)
theorem piece_mem {g : List Prt} {i : Nat} {p : Prt} (h : p ∈ piece g i) : p ∈ g := List.mem_of_mem_drop (List.mem_of_mem_take h)
theorem piece_len {g : List Prt} {i : Nat} (h : i < g.length) : (piece g i).length = endN g i - i := by
  have := endN_le h
  unfold piece
  rw [List.length_take, List.length_drop]; omega
theorem good_deep {xs : List Cls} {g : List Prt} (G : GoodG xs g) : ∀ p ∈ g, 0 ≤ p.depth ∧ p.depth ≤ 5 := fun p hp => by
  obtain ⟨i, hi, e⟩ := List.getElem_of_mem hp
  rcases Nat.eq_zero_or_pos i with rfl | h
  · have := G.first; rw [gAt_at hi, e] at this; omega
  · have := G.deep i h hi; rw [gAt_at hi, e] at this; omega
theorem Sl.piece {w : World} {b off n cap : Nat} {g : List Prt} (h : Sl w (some ⟨b, off, none⟩) n cap g) {k : Nat} (hk : k < g.length) : Sl w (some ⟨b, off + k * 4, none⟩) (endN g k - k) (cap - k) (piece g k) := by
  have := endN_le hk
  have := endN_gt g k
  have hl := h.len
  have S := (h.cutS k (by omega) (s := k * 4) rfl).take_ (endN g k - k) (by omega)
  have hadd : (⟨b, off, none⟩ : Addr).add (k * 4) = ⟨b, off + k * 4, none⟩ := by
    unfold Addr.add; split
    · simp
    · rfl
  rw [hadd] at S
  exact S
set_option maxRecDepth 100000 in
set_option maxHeartbeats 2000000 in
theorem sKids_any (B : Option Addr) (m c : Nat) (xs : List Cls) (g : List Prt) (G : GoodG xs g) (w : World) (hG : Sl w B m c g) :
    Calls Try.prog 76 #[.slice B m c] w fun e w' => ∃ v hs, e = .returned v ∧ OwL 26 42 w w' v hs (kidsL g) ∧ Le w w' := by
  obtain ⟨i0, hi, hz0, hz1, hz2⟩ := info_parts infoPartSl'
  obtain rfl := hG.len
  have hmx := G.len
  have hdp := good_deep G
  obtain ⟨bz, oz, rfl, hb0, -⟩ := hG.prt_at (k := 0) (by omega)
  go_enter Try.func76, Try.ntmps76
  go_wp2
  have O0 : OwL 26 42 w (w.alloc (.cells #[] 26)) (.slice (some ⟨w.heap.size, 0, none⟩) 0 0) [] ([] : List (List Prt)) := ⟨⟨own_empty (Nat.le_refl _) rfl, fun _ _ => trivial⟩, rfl, fun i h l e => by simp at e, fun i j h k e => by simp at e, fun i h e => by simp at e⟩
  have L0 := Le.new w (.cells #[] 26)
  generalize w.alloc (.cells #[] 26) = w1 at *
  go_loopw [3, 4] (fun v i wr => ∃ (f mm : Nat) (ks : List Nat) (hs : List Hdr), 1 ≤ f ∧ f ≤ g.length ∧ i = .int .i64 f ∧ g.length - f ≤ mm ∧ ks ++ kdS g mm f g.length = kdS g g.length 1 g.length ∧ ks.length < f ∧ OwL 26 42 w wr v hs (ks.map (kidAt g)) ∧ Le w wr) (fun _ i _ => g.length - (intOf i).toNat)
  case atStart => exact ⟨1, g.length, [], [], Nat.le_refl _, hmx.1, rfl, by omega, rfl, Nat.zero_lt_one, O0, L0⟩
  case round =>
    obtain ⟨f, mm, ks, hs, hf0, hf, rfl, hmm, hks, hkl, O1, L1⟩ := hrel
    have HKS := Lib.hid hks
    clear hks O0 L0
    by_cases hlt : f < g.length
    · obtain ⟨m', rfl⟩ : ∃ m', mm = m' + 1 := ⟨mm - 1, by omega⟩
      have HK : Hid (kdS g (m' + 1) f g.length = f :: kdS g m' (endN g f) g.length) := by
        show (if f < g.length then _ else _) = _
        rw [if_pos hlt]
      have HSTEP : Hid ((ks ++ [f]) ++ kdS g m' (endN g f) g.length = kdS g g.length 1 g.length) := by
        show _ = _
        rw [← HKS.out, HK.out, List.append_assoc]; rfl
      have hgt := endN_gt g f
      have hle0 := endN_le hlt
      have SG := hG.le L1
      obtain ⟨b1, off1, e1, hb1, q0, -⟩ := SG.prt_at hlt
      cases e1
      have hdk := hdp g[f] (List.getElem_mem hlt)
      have SP := SG.piece hlt
      have hlt3 : hs.length < 16 := by have h1 := O1.len; rw [List.length_map] at h1; omega
      have HSL := O1.top.row
      obtain ⟨A1, c1, rfl⟩ := own_form HSL
      go_wp2_with fail
      refine wp_region_noPanic ?_
      refine wp_region_Z (fun w' => w'.cell? ⟨bz, oz + f * 4, none⟩ = some (.int .i64 g[f].depth)) [] (by kernel_rfl) ?_
      have q1 : wr.drew.cell? ⟨bz, oz + f * 4, none⟩ = some (.int .i64 g[f].depth) := q0
      have SG1 := SG.le (Le.refl wr).drew
      have O2 := O1.le (Le.refl wr).drew
      have hb2 : bz < wr.drew.heap.size := hb1
      have L2 := L1.drew
      generalize wr.drew = V at *
      have HDN : Hid (shiftL (piece g f) (-g[f].depth) = kidAt g f) := by show _ = _; unfold kidAt; rw [gAt_at hlt]
      have hwn : IntKind.i64.wrap (-g[f].depth) = -g[f].depth := IntWalk.i64_in _ (by omega)
      refine wpAnyZ_take (i := 0) (v := ?_) rfl (by kernel_rfl) (fun _ _ _ h => h) (Or.inl ⟨by rfl, ?_⟩) (q1) ?_
      rotate_left 1
      · (intro w hSw; (try dsimp only at hSw); go_simp; try with_reducible rfl)
      try simp only [Act.put, List.setIfInBounds_toArray, List.set_cons_zero, List.set_cons_succ]
      refine wpAnyZ_take (i := 1) (v := ?_) rfl (by kernel_rfl) (fun _ _ _ h => h) (Or.inl ⟨by rfl, ?_⟩) (q1) ?_
      rotate_left 1
      · (intro w hSw; (try dsimp only at hSw); go_simp; try with_reducible rfl)
      try simp only [Act.put, List.setIfInBounds_toArray, List.set_cons_zero, List.set_cons_succ]
      refine wpAnyZ_take (i := 2) (v := ?_) rfl (by kernel_rfl) (fun _ _ _ h => h) (Or.inl ⟨by rfl, ?_⟩) (q1) ?_
      rotate_left 1
      · (intro w hSw; (try dsimp only at hSw); go_simp; try with_reducible rfl)
      try simp only [Act.put, List.setIfInBounds_toArray, List.set_cons_zero, List.set_cons_succ]
      refine wpAnyZ_take (i := 3) (v := ?_) rfl (by kernel_rfl) (fun _ _ _ h => h) (Or.inl ⟨by rfl, ?_⟩) (q1) ?_
      rotate_left 1
      · (intro w hSw; (try dsimp only at hSw); go_simp; try with_reducible rfl)
      try simp only [Act.put, List.setIfInBounds_toArray, List.set_cons_zero, List.set_cons_succ]
      refine wpAnyZ_take (i := 4) (v := ?_) rfl (by kernel_rfl) (fun _ _ _ h => h) (Or.inl ⟨by rfl, ?_⟩) (q1) ?_
      rotate_left 1
      · (intro w hSw; (try dsimp only at hSw); go_simp; try with_reducible rfl)
      try simp only [Act.put, List.setIfInBounds_toArray, List.set_cons_zero, List.set_cons_succ]
      refine wpAnyZ_take (i := 7) (v := ?_) rfl (by kernel_rfl) (fun _ _ _ h => h) (Or.inl ⟨by rfl, ?_⟩) (q1) ?_
      rotate_left 1
      · (intro w hSw; (try dsimp only at hSw); go_simp; try with_reducible rfl)
      try simp only [Act.put, List.setIfInBounds_toArray, List.set_cons_zero, List.set_cons_succ]
      refine wpAnyZ_take (i := 8) (v := ?_) rfl (by kernel_rfl) (fun _ _ _ h => h) (Or.inl ⟨by rfl, ?_⟩) (q1) ?_
      rotate_left 1
      · (intro w hSw; (try dsimp only at hSw); go_simp; try with_reducible rfl)
      try simp only [Act.put, List.setIfInBounds_toArray, List.set_cons_zero, List.set_cons_succ]
      refine wpAnyZ_take (i := 9) (v := ?_) rfl (by kernel_rfl) (fun _ _ _ h => h) (Or.inl ⟨by rfl, ?_⟩) (q1) ?_
      rotate_left 1
      · (intro w hSw; (try dsimp only at hSw); go_simp; try with_reducible rfl)
      try simp only [Act.put, List.setIfInBounds_toArray, List.set_cons_zero, List.set_cons_succ]
      refine wpAnyZ_take (i := 10) (v := ?_) rfl (by kernel_rfl) (fun _ _ _ h => h) (Or.inl ⟨by rfl, ?_⟩) (q1) ?_
      rotate_left 1
      · (intro w hSw; (try dsimp only at hSw); go_simp; try with_reducible rfl)
      try simp only [Act.put, List.setIfInBounds_toArray, List.set_cons_zero, List.set_cons_succ]
      refine wpAnyZ_take (i := 11) (v := ?_) rfl (by kernel_rfl) (fun _ _ _ h => h) (Or.inl ⟨by rfl, ?_⟩) (q1) ?_
      rotate_left 1
      · (intro w hSw; (try dsimp only at hSw); go_simp; try with_reducible rfl)
      try simp only [Act.put, List.setIfInBounds_toArray, List.set_cons_zero, List.set_cons_succ]
      refine wpAnyZ_take (i := 12) (v := ?_) rfl (by kernel_rfl) (fun _ _ _ h => h) (Or.inl ⟨by rfl, ?_⟩) (q1) ?_
      rotate_left 1
      · (intro w hSw; (try dsimp only at hSw); go_simp; try with_reducible rfl)
      try simp only [Act.put, List.setIfInBounds_toArray, List.set_cons_zero, List.set_cons_succ]
      refine wpAnyZ_one (i := 5) (by kernel_rfl) (ReadyZ.mk rfl (fun K hK => ?_))
      go_simp
      go_at_call 66
      refine (endOf_any _ _ _ g f hlt _ SG1).mono ?_
      rintro e V1 ⟨rfl, hl1⟩
      have q2 := (hl1.cell hb2).trans q1
      refine hK.out _ _ (fun _ => q2) ?_
      clear hK K
      try simp only [Act.put, List.setIfInBounds_toArray, List.set_cons_zero, List.set_cons_succ]
      have hcc := hG.cap_
      have hc1 : endN g f ≤ c := by omega
      have hc2 : f ≤ endN g f := by omega
      have hc3 : ¬ c = f := by omega
      refine wpAnyZ_take (i := 6) (v := ?_) rfl (by kernel_rfl) (fun _ _ _ h => h) (Or.inl ⟨by rfl, ?_⟩) (q2) ?_
      rotate_left 1
      · (intro w hSw; (try dsimp only at hSw); go_simp; try with_reducible rfl)
      try simp only [Act.put, List.setIfInBounds_toArray, List.set_cons_zero, List.set_cons_succ]
      have SP2 := (SG1.le hl1).piece hlt
      have hb3 := Nat.lt_of_lt_of_le hb2 hl1.size
      refine wpAnyZ_one (i := 13) (by kernel_rfl) (ReadyZ.mk rfl (fun K hK => ?_))
      go_simp
      go_at_call 52
      refine (deeper_any _ _ _ _ (-g[f].depth) _ SP2 (by omega) (fun p hp => by have := hdp p (piece_mem hp); omega) (by omega)).mono ?_
      rintro e V2 ⟨u, rfl, O3, hl2⟩
      obtain ⟨Au, cu, rfl, Su, -⟩ := O3.form (by decide)
      have q3 := (hl2.cell hb3).trans q2
      refine hK.out _ _ (fun _ => q3) ?_
      clear hK K
      try simp only [Act.put, List.setIfInBounds_toArray, List.set_cons_zero, List.set_cons_succ]
      refine wpAnyZ_one (i := 14) (by kernel_rfl) (ReadyZ.mk rfl (fun K hK => ?_))
      go_simp
      have hl3 := Le.new V2 (.cells #[.slice Au (shiftL (piece g f) (-g[f].depth)).length cu] 26)
      have SX := sl_one (w := V2) (cs := #[.slice Au (shiftL (piece g f) (-g[f].depth)).length cu]) (T := 26) (⟨Au, (shiftL (piece g f) (-g[f].depth)).length, cu⟩ : Hdr) rfl trivial (b := V2.heap.size) rfl
      generalize V2.alloc (.cells #[.slice Au (shiftL (piece g f) (-g[f].depth)).length cu] 26) = V3 at *
      have q4 := (hl3.cell (Nat.lt_of_lt_of_le hb3 hl2.size)).trans q3
      refine hK.out _ _ (fun _ => q4) ?_
      clear hK K
      try simp only [Act.put, List.setIfInBounds_toArray, List.set_cons_zero, List.set_cons_succ]
      have OL3 := O2.le ((hl1.trans hl2).trans hl3)
      refine wpAnyZ_one (i := 15) (by kernel_rfl) (ReadyZ.mk rfl (fun K hK => ?_))
      refine step_append_slG (by first | rfl | simp [Region.wanted, yielded]) _ _ 45 rfl w.heap.size 26 i0 _ 24 Try.underlying45 hi hz0 hz1 hz2 rfl _ hs.length hs rfl OL3.top.row _ 1 1 [(⟨Au, (shiftL (piece g f) (-g[f].depth)).length, cu⟩ : Hdr)] rfl SX (by unfold maxLen; omega) (by omega) (((L2.trans (hl1.trans hl2)).trans hl3).size) ?_
      intro v4 V4 O4 hg4 hat4
      have OLN := OwL.snoc OL3 (h := ⟨Au, (shiftL (piece g f) (-g[f].depth)).length, cu⟩) (l := shiftL (piece g f) (-g[f].depth)) ((O3.le hl3).mono (L2.trans hl1)) (OwL.later O2 hl1.size O3).1 (OwL.later O2 hl1.size O3).2 O4 hg4 hat4
      have L4 := ((L2.trans (hl1.trans hl2)).trans hl3).grown hg4 (fun k hk => (OL3.top.row.lt k hk).1)
      have q5 : V4.cell? ⟨bz, oz + f * 4, none⟩ = some (.int .i64 g[f].depth) := hg4.cell q4 (fun e => by have := (OL3.top.row.lt bz e.symm).1; omega)
      refine hK.out _ _ (fun _ => q5) ?_
      clear hK K
      try simp only [Act.put, List.setIfInBounds_toArray, List.set_cons_zero, List.set_cons_succ]
      refine wpAnyZ_take (i := 16) (v := ?_) rfl (by kernel_rfl) (fun _ _ _ h => h) (Or.inl ⟨by rfl, ?_⟩) (q5) ?_
      rotate_left 1
      · (intro w hSw; (try dsimp only at hSw); go_simp; try with_reducible rfl)
      try simp only [Act.put, List.setIfInBounds_toArray, List.set_cons_zero, List.set_cons_succ]
      refine wpAnyZ_done (by kernel_rfl) ?_ _
      refine NoPanic.normal ?_
      rw [HDN.out] at OLN
      have HO := Lib.hid OLN
      have SG4 := hG.le L4
      have HL4 := Lib.hid L4
      obtain ⟨A4, c4, rfl⟩ := own_form O4
      clear OLN O4 hg4 hat4 OL3 SX O3 Su O2 q1 q2 q3 q4 q5 q0 HSL O1 SG1 SP2 SP
      go_wp2_with fail
      refine (endOf_any _ _ _ g f hlt _ SG4).mono ?_
      rintro e V5 ⟨rfl, hl5⟩
      go_wp2
      go_roundw
      case rel => exact ⟨endN g f, m', ks ++ [f], _, by omega, by omega, rfl, by omega, HSTEP.out, by simp; omega, by rw [List.map_append]; exact HO.out.le hl5, HL4.out.trans hl5⟩
      case measure => simp [intOf]; omega
    · have HE : Hid (ks.map (kidAt g) = kidsL g) := by
        show _ = _
        unfold kidsL
        rw [← HKS.out]
        cases mm with
        | zero => simp [kdS]
        | succ mm => rw [show kdS g (mm + 1) f g.length = [] from if_neg hlt, List.append_nil]
      rw [HE.out] at O1
      go_wp2
      go_ret
      exact ⟨_, hs, rfl, O1, L1⟩
end
end Go.Proofs.Ytpkkkpfanedieaa
