/- one text of TyLeaf, GpB, GA -/
import Derived.Test.YtpkkkpfanedieaaCk1
import Derived.Test.YtpkkkpfanedieaaCk4
import Derived.Test.YtpkkkpfanedieaaCk2
namespace Go.Proofs.Ytpkkkpfanedieaa
open Go.RowKit
set_option linter.unusedVariables false
section
structure Lef where
  cls : Int
  code : Int
instance instEncLef : Enc Lef := ⟨2, fun x => [.int .i64 x.cls, .int .i64 x.code], fun x => -9223372036854775808 ≤ x.cls ∧ x.cls ≤ 9223372036854775807 ∧ -9223372036854775808 ≤ x.code ∧ x.code ≤ 9223372036854775807, fun _ => rfl⟩
theorem Sl.lef_at {w : World} {A : Option Addr} {n cap : Nat} {xs : List Lef} (h : Sl w A n cap xs) {k : Nat} (hk : k < xs.length) :
    ∃ b off, A = some ⟨b, off, none⟩ ∧ b < w.heap.size ∧ w.cell? ⟨b, off + k * 2, none⟩ = some (.int .i64 xs[k].cls) ∧ w.cell? ⟨b, off + k * 2 + 1, none⟩ = some (.int .i64 xs[k].code) ∧ (-9223372036854775808 ≤ xs[k].cls ∧ xs[k].cls ≤ 9223372036854775807 ∧ -9223372036854775808 ≤ xs[k].code ∧ xs[k].code ≤ 9223372036854775807) := by
  obtain ⟨b, off, e, hb, hc⟩ := h.cells_ hk
  have h0 := hc 0 (by decide) _ rfl
  have h1 := hc 1 (by decide) _ rfl
  exact ⟨b, off, e, hb, by simpa [Enc.size] using h0, by simpa [Enc.size, Nat.add_assoc] using h1, h.ok xs[k] (List.getElem_mem hk)⟩
theorem flat_lef_cls : ∀ (xs : List Lef) (k : Nat) (h : k < xs.length) (z : Int), (xs.flatMap Enc.cells).set (k * 2) (.int .i64 z) = (xs.set k {xs[k] with cls := z}).flatMap Enc.cells
  | x :: r, 0, _, z => rfl
  | x :: r, k + 1, h, z => by
    have ih := flat_lef_cls r k (by simpa using h) z
    have e : (k + 1) * 2 = k * 2 + 1 + 1 := by omega
    rw [e]
    show Value.int .i64 x.cls :: Value.int .i64 x.code :: (r.flatMap Enc.cells).set (k * 2) (.int .i64 z) = _
    rw [ih]; rfl
theorem flat_lef_code : ∀ (xs : List Lef) (k : Nat) (h : k < xs.length) (z : Int), (xs.flatMap Enc.cells).set (k * 2 + 1) (.int .i64 z) = (xs.set k {xs[k] with code := z}).flatMap Enc.cells
  | x :: r, 0, _, z => rfl
  | x :: r, k + 1, h, z => by
    have ih := flat_lef_code r k (by simpa using h) z
    have e : (k + 1) * 2 + 1 = k * 2 + 1 + 1 + 1 := by omega
    rw [e]
    show Value.int .i64 x.cls :: Value.int .i64 x.code :: (r.flatMap Enc.cells).set (k * 2 + 1) (.int .i64 z) = _
    rw [ih]; rfl
end

section
def allF2 (f : Nat → Bool) : Nat → Nat → Bool
  | _, 0 => true
  | k, m + 1 => f k && allF2 f (k + 1) m
theorem allF2_congr {f h : Nat → Bool} (e : ∀ i, f i = h i) : ∀ m k, allF2 f k m = allF2 h k m
  | 0, _ => rfl
  | m + 1, k => by unfold allF2; rw [e, allF2_congr e m (k + 1)]
theorem allF2_mem {f : Nat → Bool} : ∀ m k, allF2 f k m = true → ∀ i, k ≤ i → i < k + m → f i = true
  | 0, k, _, i, h1, h2 => by omega
  | m + 1, k, h, i, h1, h2 => by
    unfold allF2 at h
    rw [Bool.and_eq_true] at h
    by_cases e : i = k
    · subst e; exact h.1
    · exact allF2_mem m (k + 1) h.2 i (by omega) (by omega)
theorem allF2_at {f : Nat → Bool} {n k : Nat} (h : k < n) : allF2 f k (n - k) = (f k && allF2 f (k + 1) (n - (k + 1))) := by
  obtain ⟨m, hm⟩ : ∃ m, n - k = m + 1 := ⟨n - k - 1, by omega⟩
  rw [hm, show n - (k + 1) = m by omega]; rfl
theorem allF2_end {f : Nat → Bool} {n k : Nat} (h : ¬ k < n) : allF2 f k (n - k) = true := by
  rw [show n - k = 0 by omega]; rfl
/-- the model's validGroup, the program's ValidGroup -/
def gOkS (xs : List Cls) (g : List Prt) : Bool := allF2 (partS xs g) 0 g.length && (okTree xs && rng 1 16 g.length)
def gOkP (xs : List Cls) (g : List Prt) : Bool := okTree xs && rng 1 16 g.length && allF2 (fun i => depthP g i && partP xs g i) 0 g.length
theorem gOk_same (xs : List Cls) (g : List Prt) : gOkS xs g = gOkP xs g := by
  unfold gOkS gOkP
  rw [allF2_congr (part_same xs g) g.length 0, Bool.and_comm]
/-- what a valid group keeps to -/
structure GoodG (xs : List Cls) (g : List Prt) : Prop where
  tree : okTree xs = true
  len : 1 ≤ g.length ∧ g.length ≤ 16
  first : (gAt g 0).depth = 0
  deep : ∀ i, 1 ≤ i → i < g.length → 1 ≤ (gAt g i).depth ∧ (gAt g i).depth ≤ 5
  step : ∀ i, 1 ≤ i → i < g.length → (gAt g i).depth ≤ (gAt g (i - 1)).depth + (if (gAt g (i - 1)).group = true then 1 else 0)
  code : ∀ i, i < g.length → 0 ≤ (gAt g i).code ∧ (gAt g i).code ≤ 99
  grp : ∀ i, i < g.length → (gAt g i).group = true → (gAt g i).cls = 0 ∧ i + 1 < g.length ∧ (gAt g i).depth < (gAt g (i + 1)).depth
  leaf : ∀ i, i < g.length → (gAt g i).group = false → 0 ≤ (gAt g i).cls ∧ (gAt g i).cls < xs.length
theorem goodG_of {xs : List Cls} {g : List Prt} (h : gOkP xs g = true) : GoodG xs g := by
  unfold gOkP at h
  simp only [Bool.and_eq_true, rng_iff] at h
  obtain ⟨⟨h1, h2⟩, h3⟩ := h
  have hm := fun i (hi : i < g.length) => allF2_mem g.length 0 h3 i (Nat.zero_le _) (by omega)
  have hd : ∀ i, i < g.length → depthP g i = true ∧ partP xs g i = true := fun i hi => by
    have := hm i hi
    simpa only [Bool.and_eq_true] using this
  refine ⟨h1, by omega, ?_, ?_, ?_, ?_, ?_, ?_⟩
  · have := (hd 0 (by omega)).1
    unfold depthP at this
    simpa using this
  · intro i h0 hi
    have := (hd i hi).1
    unfold depthP at this
    rw [if_neg (by omega), rng_iff] at this
    omega
  · intro i h0 hi
    have := (hd i hi).1
    unfold depthP at this
    rw [if_neg (by omega), rng_iff] at this
    omega
  · intro i hi
    have := (hd i hi).2
    unfold partP at this
    simp only [Bool.and_eq_true, rng_iff] at this
    exact this.1
  · intro i hi hg
    have := (hd i hi).2
    unfold partP below at this
    simp only [hg, cond_true, Bool.and_eq_true, decide_eq_true_eq] at this
    exact ⟨this.2.1, this.2.2.1, this.2.2.2⟩
  · intro i hi hg
    have := (hd i hi).2
    unfold partP at this
    simp only [hg, cond_false, Bool.and_eq_true, rng_iff] at this
    omega
/-- all of a valid group lies below its first part -/
theorem endFrom_all {g : List Prt} (h : ∀ k, 1 ≤ k → k < g.length → (gAt g 0).depth < (gAt g k).depth) : ∀ m k, 1 ≤ k → k + m = g.length → endFrom g 0 m k = g.length
  | 0, k, _, e => by unfold endFrom; omega
  | m + 1, k, h1, e => by
    unfold endFrom
    rw [if_pos ⟨by omega, h k h1 (by omega)⟩]
    exact endFrom_all h m (k + 1) (by omega) (by omega)
theorem end_zero {xs : List Cls} {g : List Prt} (h : GoodG xs g) : endN g 0 = g.length := by
  unfold endN
  have hl := h.len
  refine endFrom_all (fun k h1 h2 => ?_) _ _ (by omega) (by omega)
  have := h.deep k h1 h2
  rw [h.first]; omega
/-- a valid group has a leaf: its last part -/
theorem last_leaf {xs : List Cls} {g : List Prt} (h : GoodG xs g) : (gAt g (g.length - 1)).group = false := by
  have hl := h.len
  cases e : (gAt g (g.length - 1)).group
  · rfl
  · have := (h.grp (g.length - 1) (by omega) e).2.1
    omega
def leavesL (g : List Prt) : List Lef := (g.filter (fun p => !p.group)).map (fun p => ⟨p.cls, p.code⟩)
def deepL (g : List Prt) : Int := g.foldl (fun n p => max n p.depth) 0
end

section
theorem endF_step (g : List Prt) (i : Nat) {k : Nat} (h : k < g.length) :
    endFrom g i (g.length - k) k = if (gAt g i).depth < (gAt g k).depth then endFrom g i (g.length - (k + 1)) (k + 1) else k := by
  obtain ⟨m, hm⟩ : ∃ m, g.length - k = m + 1 := ⟨g.length - k - 1, by omega⟩
  rw [hm, show g.length - (k + 1) = m by omega]
  show (if k < g.length ∧ (gAt g i).depth < (gAt g k).depth then _ else _) = _
  by_cases hd : (gAt g i).depth < (gAt g k).depth
  · rw [if_pos ⟨h, hd⟩, if_pos hd]
  · rw [if_neg (fun x => hd x.2), if_neg hd]
theorem endF_end (g : List Prt) (i : Nat) {k : Nat} (h : ¬ k < g.length) : endFrom g i (g.length - k) k = k := by
  rw [show g.length - k = 0 by omega]; rfl
set_option maxHeartbeats 1000000 in
theorem endOf_any (A : Option Addr) (n cap : Nat) (g : List Prt) (i : Nat) (hi : i < g.length) (w : World) (hR : Sl w A n cap g) :
    Calls Try.prog 66 #[.slice A n cap, .int .i64 i] w fun e w' => e = .returned (.int .i64 (endN g i)) ∧ Le w w' := by
  obtain rfl := hR.len
  have hm := hR.n_le
  have H0 : Hid (endN g i = endFrom g i (g.length - (i + 1)) (i + 1)) := rfl
  obtain ⟨bi, oi, rfl, hbi, hi0, -⟩ := hR.prt_at hi
  have hwi : IntKind.i64.wrap ((i : Int) + 1) = (i : Int) + 1 := IntWalk.i64_in _ (by omega)
  have hix : (0 : Int) ≤ (i : Int) := by omega
  have hin : (i : Int) < (g.length : Int) := by omega
  go_enter Try.func66, Try.ntmps66
  go_wp2
  go_loopw [5] (fun kk wr => ∃ k : Nat, i < k ∧ k ≤ g.length ∧ kk = .int .i64 k ∧ endN g i = endFrom g i (g.length - k) k ∧ Le w wr) (fun kk _ => g.length - (intOf kk).toNat)
  case atStart => exact ⟨i + 1, by omega, by omega, by go_num, H0.out, Le.refl _⟩
  case round =>
    obtain ⟨k, hik, hk, rfl, he, hle⟩ := hrel
    have HE := Lib.hid he
    clear he H0
    have T := hR.le hle
    clear hR hi0
    obtain ⟨b3, off3, e3, hb3, c0, -⟩ := T.prt_at hi
    cases e3
    have F0 := cell_ext hb3 c0
    have hkx : (0 : Int) ≤ (k : Int) := by omega
    by_cases hlt : k < g.length
    · obtain ⟨b2, off2, e2, hb2, d0, -⟩ := T.prt_at hlt
      cases e2
      have E0 := cell_ext hb2 d0
      by_cases hd : g[i].depth < g[k].depth
      · have HE2 : Hid (endN g i = endFrom g i (g.length - (k + 1)) (k + 1)) := by
          show _ = _
          rw [HE.out, endF_step g i hlt, gAt_at hi, gAt_at hlt, if_pos hd]
        clear HE
        go_wp2_with fail
        refine wp_region_ext (by kernel_rfl) (by kernel_rfl) ?_
        repeat (go_big_quiet_step (fail))
        refine wpQuiet_nil ?_
        intro _ hw'
        obtain ⟨gg, rfl⟩ := hw'
        have hw1 := Le.ext wr gg
        generalize wr.ext gg = W2 at *
        go_wp2
        go_roundw
        case rel => exact ⟨k + 1, by omega, by omega, by go_num, HE2.out, hle.trans hw1⟩
        case measure => simp [intOf]; omega
      · have HE2 : Hid (endN g i = k) := by
          show _ = _
          rw [HE.out, endF_step g i hlt, gAt_at hi, gAt_at hlt, if_neg hd]
        clear HE
        go_wp2_with fail
        refine wp_region_ext (by kernel_rfl) (by kernel_rfl) ?_
        repeat (go_big_quiet_step (fail))
        refine wpQuiet_nil ?_
        intro _ hw'
        obtain ⟨gg, rfl⟩ := hw'
        have hw1 := Le.ext wr gg
        generalize wr.ext gg = W2 at *
        go_wp2
        go_ret
        exact ⟨congrArg (fun z : Nat => Ending.returned (.int .i64 (z : Int))) HE2.out.symm, hle.trans hw1⟩
    · have HE2 : Hid (endN g i = k) := by
        show _ = _
        rw [HE.out, endF_end g i hlt]
      clear HE
      go_wp2_with fail
      refine wp_region_ext (by kernel_rfl) (by kernel_rfl) ?_
      repeat (go_big_quiet_step (fail))
      refine wpQuiet_nil ?_
      intro _ hw'
      obtain ⟨gg, rfl⟩ := hw'
      have hw1 := Le.ext wr gg
      generalize wr.ext gg = W2 at *
      go_wp2
      go_ret
      exact ⟨congrArg (fun z : Nat => Ending.returned (.int .i64 (z : Int))) HE2.out.symm, hle.trans hw1⟩
end
end Go.Proofs.Ytpkkkpfanedieaa
