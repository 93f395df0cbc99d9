/- groups: the iterator over what lies right below a group -/
import Derived.Test.YtpdggodmiliijaaItA
import Derived.Test.YtpdggodmiliijaaGA
import Derived.Sort.QuietIn
namespace Go.Proofs.Ytpdggodmiliijaa
open Go.RowKit Go.Shelf
attribute [local go_sem] Oper.semAt_some
/-- where the pieces from f up to b begin -/
def kdS (g : List Prt) : Nat → Nat → Nat → List Nat
  | 0, _, _ => []
  | m + 1, f, b => if f < b then f :: kdS g m (endN g f) b else []
/-- what the iterator over kids reads between two rounds lies as it lay: the group below n₀, the box of the piece -/
structure KpB (n₀ Bg : Nat) (w w' : World) : Prop where
  size : w.heap.size ≤ w'.heap.size
  block : ∀ k, k < n₀ ∨ k = Bg → w'.heap[k]? = w.heap[k]?
theorem KpB.refl (n₀ Bg : Nat) (w : World) : KpB n₀ Bg w w := ⟨Nat.le_refl _, fun _ _ => rfl⟩
theorem KpB.trans {n₀ Bg : Nat} {a b c : World} (h : KpB n₀ Bg a b) (k : KpB n₀ Bg b c) : KpB n₀ Bg a c := ⟨Nat.le_trans h.size k.size, fun i hi => (k.block i hi).trans (h.block i hi)⟩
theorem KpB.cell {n₀ Bg : Nat} {w w' : World} (h : KpB n₀ Bg w w') {k o : Nat} (hk : k < n₀ ∨ k = Bg) : w'.cell? ⟨k, o, none⟩ = w.cell? ⟨k, o, none⟩ := by
  simp only [World.cell?, h.block k hk]
theorem SlB.keptB {α : Type} [Enc α] {n₀ Bg : Nat} {w w' : World} {A : Option Addr} {n cap : Nat} {xs : List α} (h : SlB n₀ w A n cap xs) (hB : KpB n₀ Bg w w') : SlB n₀ w' A n cap xs := by
  refine ⟨⟨h.sl.len, h.sl.cap_, h.sl.max, h.sl.ok, fun hn => ?_⟩, h.lo⟩
  obtain ⟨b, off, e, hb, hc⟩ := h.sl.at_ hn
  have hlt := h.lo hn _ e
  exact ⟨b, off, e, Nat.lt_of_lt_of_le hb hB.size, fun j u hu => (hB.cell (.inl hlt)).trans (hc j u hu)⟩
/-- a piece of a group as a slice of it -/
abbrev encKid (g : List Prt) (b off C : Nat) {P : Nat → Prop} (x : { x : Nat // P x }) : Array Value := #[.slice (some ⟨b, off + x.1 * 4, none⟩) (endN g x.1 - x.1) (C - x.1)]
set_option maxRecDepth 100000 in
set_option maxHeartbeats 4000000 in
theorem kids1_in (n : Nat) (hn : 1 ≤ n) (l Bg n₀ b off C : Nat) (g : List Prt) (f0 b0 : Nat) (hm16 : g.length ≤ 16) (hf0 : f0 < b0) (hb0 : b0 ≤ g.length) (hend : ∀ i, f0 < i → i < b0 → endN g i ≤ b0)
    (P : Nat → Prop) (hP : ∀ i, f0 < i → i < b0 → P i) (J Jx : List { x : Nat // P x } → World → Prop)
    (hY : ∀ pre x W, J pre W → pre.length < b0 - f0 → YieldAt Fence.wide (n - 1) Try.prog l (encKid g b off C x) W fun e W' =>
      (e = .returned (.bool true) ∧ J (pre ++ [x]) W' ∧ KpB n₀ Bg W W') ∨ (e = .returned (.bool false) ∧ Jx (pre ++ [x]) W'))
    (W : World) (hJ : AbidesFrom W.heap.size J) (hBg : W.cell? ⟨Bg, 0, none⟩ = some (.slice (some ⟨b, off + f0 * 4, none⟩) (b0 - f0) (C - f0))) (S : SlB n₀ W (some ⟨b, off, none⟩) g.length C g) (h0 : J [] W) :
    CallsIn Fence.wide n Try.prog 94 #[.func (.yield l) #[] #[], .pointer (some ⟨Bg, 0, none⟩)] W fun e W' => (∃ v, e = .returned v) ∧
      ((∃ ys, ys.map (·.1) = kdS g g.length (f0 + 1) b0 ∧ J ys W') ∨ (∃ pre, pre.map (·.1) <+: kdS g g.length (f0 + 1) b0 ∧ Jx pre W')) := by
  have hmx := S.sl.n_le
  have hcap := S.sl.cap_
  refine callsIn_of_wp Try.func94 rfl trivial ?_ rfl
  simp only [Try.ntmps94, List.size_toArray, List.length_cons, List.length_nil, Nat.reduceAdd, Nat.reduceSub, Array.replicate_succ, Array.replicate_zero, List.push_toArray, List.append_toArray, List.nil_append, List.cons_append]
  gi_wp2
  gi_loopw [3, 4] (fun v u wr => ∃ (r s m : Nat) (ys : List { x : Nat // P x }), 1 ≤ r ∧ r < s ∧ s ≤ b0 - f0 + 1 ∧ v = .int .i64 r ∧ u = .int .i64 s ∧ b0 - (f0 + r) ≤ m ∧ ys.map (·.1) ++ kdS g m (f0 + r) b0 = kdS g g.length (f0 + 1) b0 ∧ ys.length < r ∧ ((f0 + r < b0 ∧ f0 + s ≤ b0 ∧ endN g (f0 + r) = endFrom g (f0 + r) (g.length - (f0 + s)) (f0 + s)) ∨ (f0 + r = b0 ∧ s = b0 - f0 + 1)) ∧ J ys wr ∧ KpB n₀ Bg W wr)
    (fun _ u _ => b0 - f0 + 1 - (intOf u).toNat)
  case atStart =>
    refine ⟨1, 2, g.length, [], Nat.le_refl _, by omega, by omega, rfl, rfl, by omega, rfl, Nat.zero_lt_one, ?_, h0, KpB.refl _ _ _⟩
    by_cases h1 : f0 + 1 < b0
    · exact .inl ⟨h1, by omega, rfl⟩
    · exact .inr ⟨by omega, by omega⟩
  case round =>
    obtain ⟨r, s, m, ys, hr1, hrs, hs, rfl, rfl, hm, hys, hyl, hst, hJs, hnx⟩ := hrel
    have HYS := Lib.hid hys
    clear hys
    have cB := (hnx.cell (k := Bg) (o := 0) (.inr rfl)).trans hBg
    by_cases hlt : s ≤ b0 - f0
    · obtain ⟨hfr, hfs, he⟩ : f0 + r < b0 ∧ f0 + s ≤ b0 ∧ endN g (f0 + r) = endFrom g (f0 + r) (g.length - (f0 + s)) (f0 + s) := by
        rcases hst with h | h
        · exact h
        · omega
      have HE := Lib.hid he
      clear he hst
      obtain ⟨m', rfl⟩ : ∃ m', m = m' + 1 := ⟨m - 1, by omega⟩
      have hk1 : f0 + r < g.length := by omega
      have HK : Hid (kdS g (m' + 1) (f0 + r) b0 = (f0 + r) :: kdS g m' (endN g (f0 + r)) b0) := by
        show (if f0 + r < b0 then _ else _) = _
        rw [if_pos hfr]
      obtain ⟨b1, off1, e1, hb1, p0, -⟩ := (S.keptB hnx).sl.prt_at hk1
      cases e1
      by_cases hsl : s < b0 - f0
      · have hk2 : f0 + s < g.length := by omega
        obtain ⟨b2, off2, e2, hb2, q0, -⟩ := (S.keptB hnx).sl.prt_at hk2
        cases e2
        simp only [Nat.add_mul, ← Nat.add_assoc] at p0 q0
        by_cases hd : g[f0 + r].depth < g[f0 + s].depth
        · have HS : Hid (endN g (f0 + r) = endFrom g (f0 + r) (g.length - (f0 + (s + 1))) (f0 + (s + 1))) := by
            show _ = _
            rw [HE.out, endF_step g (f0 + r) hk2, gAt_at hk1, gAt_at hk2, if_pos hd]; rfl
          gi_wp2
          gi_big_quiet (fail)
          have hJ' : J ys (wr.drewN nq) := hJ _ wr _ none hJs ⟨rfl, rfl, rfl, Nat.le_refl _, fun _ _ _ => rfl⟩ (fun r e => by cases e)
          have hB' : KpB n₀ Bg W (wr.drewN nq) := hnx.trans ⟨Nat.le_refl _, fun _ _ => rfl⟩
          gi_wp2
          go_roundw
          case rel => exact ⟨r, s + 1, m' + 1, ys, hr1, by omega, by omega, rfl, by simp, hm, HYS.out, hyl, .inl ⟨hfr, by omega, HS.out⟩, hJ', hB'⟩
          case measure => simp [intOf]; omega
        · have HN : Hid (endN g (f0 + r) = f0 + s) := by
            show _ = _
            rw [HE.out, endF_step g (f0 + r) hk2, gAt_at hk1, gAt_at hk2, if_neg hd]
          have hdz : decide (g[f0 + r].depth < g[f0 + s].depth) = false := decide_eq_false hd
          gi_wp2
          gi_big_quiet (fail)
          have hJ' : J ys (wr.drewN nq) := hJ _ wr _ none hJs ⟨rfl, rfl, rfl, Nat.le_refl _, fun _ _ _ => rfl⟩ (fun r e => by cases e)
          have hB' : KpB n₀ Bg W (wr.drewN nq) := hnx.trans ⟨Nat.le_refl _, fun _ _ => rfl⟩
          obtain ⟨fn, tmps, assign, body, hy, hR⟩ := hY ys ⟨f0 + r, hP _ (by omega) hfr⟩ _ hJ' (by omega)
          have hx1 : off + (f0 + r) * 4 = off + f0 * 4 + r * 4 := by omega
          have hx2 : endN g (f0 + r) - (f0 + r) = s - r := by rw [HN.out]; omega
          have hx3 : C - (f0 + r) = C - f0 - r := by omega
          have c' : (wr.drewN nq).cell? ⟨Bg, 0, none⟩ = some (.slice (some ⟨b, off + f0 * 4, none⟩) (b0 - f0) (C - f0)) := cB
          dsimp only [encKid] at hy
          rw [hx1, hx2, hx3] at hy
          have HSTEP : Hid ((ys ++ [(⟨f0 + r, hP _ (by omega) hfr⟩ : { x : Nat // P x })]).map (·.1) ++ kdS g m' (f0 + s) b0 = kdS g g.length (f0 + 1) b0) := by
            show _ = _
            rw [← HYS.out, HK.out, HN.out, List.map_append, List.append_assoc]; rfl
          have HPRE : Hid ((ys ++ [(⟨f0 + r, hP _ (by omega) hfr⟩ : { x : Nat // P x })]).map (·.1) <+: kdS g g.length (f0 + 1) b0) := ⟨_, HSTEP.out⟩
          gi_wp2
          refine hR.mono ?_
          rintro e3 W3 (⟨rfl, hJ3, hk3⟩ | ⟨rfl, hJx3⟩)
          · gi_wp2
            go_roundw
            case rel =>
              refine ⟨s, s + 1, m', _, by omega, by omega, by omega, rfl, by go_num, by omega, HSTEP.out, by simp; omega, ?_, hJ3, hB'.trans hk3⟩
              by_cases h1 : f0 + s < b0
              · exact .inl ⟨h1, by omega, rfl⟩
              · exact .inr ⟨by omega, by omega⟩
            case measure => simp [intOf]; omega
          · gi_wp2
            refine bodyPost_ret (results_none rfl _ _ _) rfl ?_
            exact ⟨⟨_, rfl⟩, .inr ⟨_, HPRE.out, hJx3⟩⟩
      · have HN : Hid (endN g (f0 + r) = f0 + s) := by
          show _ = _
          have h1 := hend (f0 + r) (by omega) hfr
          have h2 := endFrom_ge g (f0 + r) (g.length - (f0 + s)) (f0 + s)
          rw [← HE.out] at h2
          omega
        gi_wp2
        gi_big_quiet (fail)
        have hJ' : J ys (wr.drewN nq) := hJ _ wr _ none hJs ⟨rfl, rfl, rfl, Nat.le_refl _, fun _ _ _ => rfl⟩ (fun r e => by cases e)
        have hB' : KpB n₀ Bg W (wr.drewN nq) := hnx.trans ⟨Nat.le_refl _, fun _ _ => rfl⟩
        obtain ⟨fn, tmps, assign, body, hy, hR⟩ := hY ys ⟨f0 + r, hP _ (by omega) hfr⟩ _ hJ' (by omega)
        have hx1 : off + (f0 + r) * 4 = off + f0 * 4 + r * 4 := by omega
        have hx2 : endN g (f0 + r) - (f0 + r) = s - r := by rw [HN.out]; omega
        have hx3 : C - (f0 + r) = C - f0 - r := by omega
        have c' : (wr.drewN nq).cell? ⟨Bg, 0, none⟩ = some (.slice (some ⟨b, off + f0 * 4, none⟩) (b0 - f0) (C - f0)) := cB
        dsimp only [encKid] at hy
        rw [hx1, hx2, hx3] at hy
        have HSTEP : Hid ((ys ++ [(⟨f0 + r, hP _ (by omega) hfr⟩ : { x : Nat // P x })]).map (·.1) ++ kdS g m' (f0 + s) b0 = kdS g g.length (f0 + 1) b0) := by
          show _ = _
          rw [← HYS.out, HK.out, HN.out, List.map_append, List.append_assoc]; rfl
        have HPRE : Hid ((ys ++ [(⟨f0 + r, hP _ (by omega) hfr⟩ : { x : Nat // P x })]).map (·.1) <+: kdS g g.length (f0 + 1) b0) := ⟨_, HSTEP.out⟩
        gi_wp2
        refine hR.mono ?_
        rintro e3 W3 (⟨rfl, hJ3, hk3⟩ | ⟨rfl, hJx3⟩)
        · gi_wp2
          go_roundw
          case rel =>
            refine ⟨s, s + 1, m', _, by omega, by omega, by omega, rfl, by go_num, by omega, HSTEP.out, by simp; omega, ?_, hJ3, hB'.trans hk3⟩
            by_cases h1 : f0 + s < b0
            · exact .inl ⟨h1, by omega, rfl⟩
            · exact .inr ⟨by omega, by omega⟩
          case measure => simp [intOf]; omega
        · gi_wp2
          refine bodyPost_ret (results_none rfl _ _ _) rfl ?_
          exact ⟨⟨_, rfl⟩, .inr ⟨_, HPRE.out, hJx3⟩⟩
    · have hz : f0 + r = b0 := by omega
      clear hst
      have HN : Hid (ys.map (·.1) = kdS g g.length (f0 + 1) b0) := by
        show _ = _
        rw [← HYS.out]
        cases m with
        | zero => simp [kdS]
        | succ m => unfold kdS; rw [if_neg (by omega)]; simp
      gi_wp2
      go_end0
      exact ⟨⟨_, rfl⟩, .inl ⟨ys, HN.out, hJs⟩⟩
set_option maxHeartbeats 1000000 in
theorem kids_in (F : Fence) (n : Nat) (hf : F.fn 70) (hro : F.round = none) (A : Option Addr) (m cap : Nat) (w : World) :
    CallsIn F n Try.prog 70 #[.slice A m cap] w fun e w' => e = .returned (.func (.func 94) #[] #[.pointer (some ⟨w.heap.size, 0, none⟩)]) ∧ w' = w.alloc (.cells #[.slice A m cap] 34) := by
  refine callsIn_of_wp Try.func70 rfl hf ?_ hro
  simp only [Try.ntmps70, List.size_toArray, List.length_cons, List.length_nil, Nat.reduceAdd, Nat.reduceSub, Array.replicate_succ, Array.replicate_zero, List.push_toArray, List.append_toArray, List.nil_append, List.cons_append]
  gi_wp2
  go_ret
  exact ⟨rfl, rfl⟩
theorem kids_stops (n : Nat) (hn : 1 ≤ n) (Bg n₀ b off C : Nat) (g : List Prt) (f0 b0 : Nat) (hm16 : g.length ≤ 16) (hf0 : f0 < b0) (hb0 : b0 ≤ g.length) (hend : ∀ i, f0 < i → i < b0 → endN g i ≤ b0)
    (P : Nat → Prop) (hP : ∀ i, f0 < i → i < b0 → P i) (w : World) (hBg : Bg < w.heap.size) (hn₀ : n₀ ≤ w.heap.size)
    (hc : w.cell? ⟨Bg, 0, none⟩ = some (.slice (some ⟨b, off + f0 * 4, none⟩) (b0 - f0) (C - f0))) (S : SlB n₀ w (some ⟨b, off, none⟩) g.length C g) :
    SeqStopsK Fence.wide n Try.prog 94 #[.pointer (some ⟨Bg, 0, none⟩)] (encKid (P := P) g b off C) (KpB n₀ Bg) (fun ys => ys.map (·.1) = kdS g g.length (f0 + 1) b0) (fun pre => pre.map (·.1) <+: kdS g g.length (f0 + 1) b0) (b0 - f0) w := fun l J Jx W hW hJ _ hY h0 =>
  kids1_in n hn l Bg n₀ b off C g f0 b0 hm16 hf0 hb0 hend P hP J Jx hY W (fun s X Y row hs hg hr => hJ s X Y row hs hg (fun r e => hr r e)) ((hW.cell (p := ⟨Bg, 0, none⟩) hBg).trans hc) (S.below (hW.mono hn₀)) h0
end Go.Proofs.Ytpdggodmiliijaa
