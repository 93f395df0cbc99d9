/- one text of RS, Ix, RDq, RDiq, RnJ, RnK -/
import Derived.Test.YtdbmolhdgmopoaaGreatRb2
import Derived.Test.YtdbmolhdgmopoaaGreatRb8
import Derived.Test.YtdbmolhdgmopoaaGreatRb1
import Derived.Test.YtdbmolhdgmopoaaGreatRb7
import Derived.Test.YtdbmolhdgmopoaaGreatRb4
import Derived.Deep.RegionHeld3
namespace Go.Proofs.YtdbmolhdgmopoaaGreat
open Go.RowKit
section
def SortOut (L : List Int) (w : World) (e : Ending) (w' : World) : Prop := ∃ v M, e = .returned v ∧ Owd 3 w w' v M ∧ Le w w' ∧ M.Pairwise (· < ·) ∧ (∀ x, x ∈ M ↔ x ∈ L) ∧ M.length ≤ L.length
/-- the number comes in at its place -/
theorem ins_asc {out : List Int} {k : Nat} {x : Int} (hk : k ≤ out.length) (ha : out.Pairwise (· < ·)) (hlt : ∀ j (h : j < out.length), j < k → out[j] < x) (hge : ∀ h : k < out.length, x < out[k]) : ((out.take k ++ [x]) ++ out.drop k).Pairwise (· < ·) := by
  have hp := List.pairwise_iff_getElem.1 ha
  rw [List.pairwise_append, List.pairwise_append]
  refine ⟨⟨ha.sublist (List.take_sublist _ _), by simp, fun a h1 b h2 => ?_⟩, ha.sublist (List.drop_sublist _ _), fun a h1 b h2 => ?_⟩
  · simp at h2; subst h2
    obtain ⟨j, hj, rfl⟩ := List.getElem_of_mem h1
    rw [List.length_take] at hj
    rw [List.getElem_take]
    exact hlt j (by omega) (by omega)
  · obtain ⟨j, hj, rfl⟩ := List.getElem_of_mem h2
    rw [List.length_drop] at hj
    rw [List.getElem_drop]
    have hxk : x ≤ out[k + j]'(by omega) ∧ x < out[k + j]'(by omega) := by
      have h3 := hge (by omega)
      rcases Nat.eq_zero_or_pos j with h4 | h4
      · subst h4; simp only [Nat.add_zero]; omega
      · have := hp k (k + j) (by omega) (by omega) (by omega); omega
    rcases List.mem_append.1 h1 with h1 | h1
    · obtain ⟨i, hi, rfl⟩ := List.getElem_of_mem h1
      rw [List.length_take] at hi
      rw [List.getElem_take]
      have := hlt i (by omega) (by omega)
      omega
    · simp at h1; subst h1; exact hxk.2
theorem ins_mem {out : List Int} {k : Nat} {x y : Int} : y ∈ (out.take k ++ [x]) ++ out.drop k ↔ y ∈ out ∨ y = x := by
  rw [List.mem_append, List.mem_append, List.mem_singleton]
  conv => rhs; rw [← List.take_append_drop k out, List.mem_append]
  constructor
  · rintro ((h | h) | h)
    · exact .inl (.inl h)
    · exact .inr h
    · exact .inl (.inr h)
  · rintro ((h | h) | h)
    · exact .inl (.inl h)
    · exact .inr h
    · exact .inl (.inr h)
theorem mem_take_succ {L : List Int} {i : Nat} (h : i < L.length) (x : Int) : x ∈ L.take (i + 1) ↔ x ∈ L.take i ∨ x = L[i] := by
  rw [List.take_succ_eq_append_getElem h, List.mem_append, List.mem_singleton]
/-- the part behind k of a slice -/
theorem Sl.dropK {α : Type} [Enc α] {w : World} {b off n cap : Nat} {xs : List α} (h : Sl w (some ⟨b, off, none⟩) n cap xs) (k : Nat) (hk : k ≤ n) : Sl w (some ⟨b, off + k * Enc.size α, none⟩) (n - k) (cap - k) (xs.drop k) := by
  have hl := h.len
  have hc := h.cap_
  have hm := h.max
  refine ⟨by rw [List.length_drop]; omega, by omega, by omega, fun x hx => h.ok x (List.mem_of_mem_drop hx), fun hn => ?_⟩
  obtain ⟨b', off', e, hb, hcell⟩ := h.at_ (by omega)
  injection e with e
  injection e with e1 e2
  subst e1 e2
  refine ⟨b, off + k * Enc.size α, rfl, hb, fun j u hu => ?_⟩
  have hsplit : xs.flatMap Enc.cells = (xs.take k).flatMap Enc.cells ++ (xs.drop k).flatMap Enc.cells := by rw [← List.flatMap_append, List.take_append_drop]
  have hlt : ((xs.take k).flatMap (Enc.cells (α := α))).length = k * Enc.size α := by rw [flat_len, List.length_take, Nat.min_eq_left (by omega)]
  have := hcell (k * Enc.size α + j) u (by
    rw [hsplit, List.getElem?_append_right (by omega), hlt]
    rw [Nat.add_sub_cancel_left]; exact hu)
  rw [Nat.add_assoc]; exact this

set_option maxHeartbeats 64000000 in
set_option maxRecDepth 100000 in
theorem sorted_any (A : Option Addr) (n c : Nat) (L : List Int) (w : World) (hL : Sl w A n c L) (hn : n ≤ 1048576) :
    Calls Tryz.prog 67 #[.slice A n c] w (SortOut L w) := by
  obtain rfl := hL.len
  obtain ⟨i0, hi, hz0, hz1, hz2⟩ := info_parts intInfoB
  go_enter Tryz.func67, Tryz.ntmps67
  go_wp2
  go_loopw [3, 4, 5] (fun v q kk wr => ∃ (i : Nat) (out : List Int), i ≤ L.length ∧ q = .int .i64 i ∧ wr.ownsRow w.heap.size 3 1 v out.length (out.flatMap Enc.cells) ∧ Le w wr ∧ out.Pairwise (· < ·) ∧ (∀ x, x ∈ out ↔ x ∈ L.take i) ∧ out.length ≤ i ∧ v.ownBlock ≠ none) (fun _ q _ _ => L.length - (intOf q).toNat)
  case atStart => exact ⟨0, [], Nat.zero_le _, rfl, own_empty (Nat.le_refl _) rfl, Le.new w _, by simp, by simp, by simp, by simp [Value.ownBlock]⟩
  case round =>
    obtain ⟨i, out, hil, rfl, O, hle, ha, hmem, hol, hnn⟩ := hrel
    have HA := Lib.hid ha
    have HM := Lib.hid hmem
    have hok : ∀ x ∈ out, Enc.ok x := fun x hx => hL.ok x (List.mem_of_mem_take ((hmem x).1 hx))
    have HOK := Lib.hid hok
    clear ha hmem hok
    obtain ⟨gO, c', rfl⟩ : ∃ gO c', u3 = .slice (some ⟨gO, 0, none⟩) out.length c' := by
      rcases O.2 with ⟨h, _⟩ | ⟨g, c', _, h, _⟩
      · rw [h] at hnn; exact absurd rfl hnn
      · exact ⟨g, c', h⟩
    clear hnn
    have SL := hL.le hle
    by_cases hlt : i < L.length
    · obtain ⟨b, off, rfl, hb, hx, hx1, hx2⟩ := SL.int_at hlt
      have HT := Lib.hid (mem_take_succ hlt)
      generalize L[i] = x at *
      have SO := Sl.of_own O rfl (by decide) HOK.out
      go_wp2
      generalize wr = WO at *
      go_loopw [5] (fun kk wr => ∃ k : Nat, k ≤ out.length ∧ kk = .int .i64 k ∧ (∀ j (h : j < out.length), j < k → out[j] < x) ∧ Le WO wr) (fun kk _ => out.length - (intOf kk).toNat)
      case atStart => exact ⟨0, Nat.zero_le _, rfl, fun j h h2 => by omega, Le.refl _⟩
      case round =>
        obtain ⟨k, hk, rfl, hpre, hle2⟩ := hrel
        have HP := Lib.hid hpre; clear hpre
        have hb2 := Nat.lt_of_lt_of_le hb hle2.size
        have hx2' := (hle2.cell hb).trans hx
        have E1 := cell_ext hb2 hx2'
        have O2 := own_le O hle2
        have SO2 := SO.le hle2
        by_cases hkl : k < out.length
        · obtain ⟨b3, off3, hbo, hb3, hy, hy1, hy2⟩ := SO2.int_at hkl
          injection hbo with hbo
          injection hbo with hbo1 hbo2
          subst hbo1; subst hbo2
          rw [Nat.zero_add] at hy
          have E2 := cell_ext hb3 hy
          have HP2 : Hid (out[k] < x → ∀ j (h : j < out.length), j < k + 1 → out[j] < x) := fun hx j h h2 => by
            rcases Nat.lt_or_ge j k with h3 | h3
            · exact HP.out j h h3
            · have : j = k := by omega
              subst this; exact hx
          generalize hyy : out[k] = y at *
          have HY := Lib.hid hyy; clear hyy
          by_cases hyx : y < x
          · have hd1 : decide (y < x) = true := decide_eq_true hyx
            go_wp2_with fail
            refine wp_region_ext (by kernel_rfl) (by kernel_rfl) ?_
            repeat (go_big_quiet_step (fail))
            refine wpQuiet_nil ?_
            intro _ hw'
            obtain ⟨gg, rfl⟩ := hw'
            have L1 := hle2.trans (Le.ext _ gg)
            generalize wr.ext gg = W2 at *
            go_wp2
            go_roundw
            case rel => exact ⟨k + 1, by omega, by go_num, HP2.out hyx, L1⟩
            case measure => simp [intOf]; omega
          · have hd1 : decide (y < x) = false := decide_eq_false hyx
            go_wp2_with fail
            refine wp_region_ext (by kernel_rfl) (by kernel_rfl) ?_
            repeat (go_big_quiet_step (fail))
            refine wpQuiet_nil ?_
            intro _ hw'
            obtain ⟨gg, rfl⟩ := hw'
            have L1 := hle2.trans (Le.ext _ gg)
            have hx3 := (((Le.ext _ gg).cell hb2).trans hx2')
            have hy3 := (((Le.ext _ gg).cell hb3).trans hy)
            have O3 := own_le O2 (Le.ext _ gg)
            have SO3 := SO2.le (Le.ext _ gg)
            have hb4 := Nat.lt_of_lt_of_le hb2 (Le.ext _ gg).size
            have hb5 := Nat.lt_of_lt_of_le hb3 (Le.ext _ gg).size
            clear E1 E2
            generalize wr.ext gg = W2 at *
            have E1 := cell_ext hb4 hx3
            have E2 := cell_ext hb5 hy3
            have L2 := L1
            have hkn : ((k : Int) == (out.length : Int)) = false := by rw [beq_eq_false_iff_ne]; omega
            by_cases hyx2 : y = x
            · have hn1 : (y == x) = true := by simpa using hyx2
              have hn2 : (y != x) = false := by simpa using hyx2
              go_wp2_with fail
              refine wp_region_ext (by kernel_rfl) (by kernel_rfl) ?_
              repeat (go_big_quiet_step (fail))
              refine wpQuiet_nil ?_
              intro _ hw'
              obtain ⟨gg, rfl⟩ := hw'
              have L3 := L2.trans (Le.ext _ gg)
              have O4 := own_le O3 (Le.ext _ gg)
              clear E1 E2
              generalize W2.ext gg = W3 at *
              have HM2 : Hid (∀ z, z ∈ out ↔ z ∈ L.take (i + 1)) := fun z => by
                rw [HT.out, ← HM.out]
                constructor
                · exact .inl
                · rintro (h | rfl)
                  · exact h
                  · rw [← hyx2, ← HY.out]; exact List.getElem_mem _
              clear hyx2 hn1
              go_wp2
              go_roundw
              case rel => exact ⟨i + 1, out, by omega, by go_num, O4, hle.trans L3, HA.out, HM2.out, by omega, by simp [Value.ownBlock]⟩
              case measure => simp [intOf]; omega
            · have hn1 : (y == x) = false := by simpa using hyx2
              have hn2 : (y != x) = true := by simpa using hyx2
              go_wp2_with fail
              refine wp_region_ext (by kernel_rfl) (by kernel_rfl) ?_
              repeat (go_big_quiet_step (fail))
              refine wpQuiet_nil ?_
              intro _ hw'
              obtain ⟨gg, rfl⟩ := hw'
              have hxW := ((Le.ext _ gg).cell hb4).trans hx3
              have OW := own_le O3 (Le.ext _ gg)
              have SW := SO3.le (Le.ext _ gg)
              have hbW := Nat.lt_of_lt_of_le hb4 (Le.ext _ gg).size
              have LW := hle.trans (L1.trans (Le.ext _ gg))
              clear E1 E2
              generalize W2.ext gg = W at *
              have hlt3 := (OW.lt gO rfl).2
              have hgeX : ∀ h : k < out.length, x < out[k] := fun h => by rw [HY.out]; omega
              have HAS := Lib.hid (ins_asc hk HA.out HP.out hgeX)
              have HM2 : Hid (∀ z, z ∈ (out.take k ++ [x]) ++ out.drop k ↔ z ∈ L.take (i + 1)) := fun z => by rw [ins_mem, HT.out, HM.out]
              have hokx : Enc.ok (α := Int) x := ⟨hx1, hx2⟩
              have T1 := (SW.take_ k hk).le (Le.refl W).drew
              obtain ⟨o2, l2, n2, T2, hcc, hl2⟩ : ∃ (o2 l2 n2 : Nat), Sl W (some ⟨gO, o2, none⟩) l2 n2 (out.drop k) ∧ ((k = c' ∧ o2 = 0 ∧ l2 = 0 ∧ n2 = 0) ∨ (¬ c' = k ∧ o2 = k ∧ l2 = out.length - k ∧ n2 = c' - k)) ∧ l2 = out.length - k := by
                by_cases hc : c' = k
                · have h1 : out.drop k = [] := List.drop_eq_nil_of_le (by have := SW.cap_; omega)
                  refine ⟨0, 0, 0, ?_, .inl ⟨hc.symm, rfl, rfl, rfl⟩, by have := SW.cap_; omega⟩
                  rw [h1]; exact Sl.nil _ _ _ (by omega)
                · have hT := SW.dropK k hk
                  rw [show 0 + k * Enc.size Int = k from by show 0 + k * 1 = k; omega] at hT
                  exact ⟨_, _, _, hT, .inr ⟨hc, rfl, rfl, rfl⟩, rfl⟩
              have HL2 := Lib.hid hl2; clear hl2
              have hcap := SW.cap_
              have LD := (Le.refl W).drew
              have hsd : W.drew.heap.size = W.heap.size := rfl
              have k1 : (0 : Int) ≤ (k : Int) := by omega
              have k2 : (k : Int) ≤ (c' : Int) := by omega
              have k4 : (out.length : Int) ≤ (c' : Int) := by omega
              have k3 : (k : Int) ≤ (out.length : Int) := by omega
              have k6 : k ≤ c' := by omega
              have m1 : 0 + k ≤ maxLen := by unfold maxLen; omega
              have m2 : (0 + k) * 8 ≤ 140737488355328 := by omega
              have m3 : k + 1 ≤ maxLen := by unfold maxLen; omega
              have m4 : (k + 1) * 8 ≤ 140737488355328 := by omega
              have m5 : k + 1 + l2 ≤ maxLen := by have := HL2.out; unfold maxLen; omega
              have m6 : (k + 1 + l2) * 8 ≤ 140737488355328 := by have := HL2.out; omega
              have hx0 := (show W.drew.cell? _ = _ from hxW)
              have HROW : Hid (∀ k, (Value.slice (some ⟨W.heap.size, 0, none⟩) 0 0).ownBlock = some k → W.heap.size ≤ k) := fun k hk => by injection hk with hk; exact Nat.le_of_eq hk
              have HS1 : Hid (W.heap.size + 1 = (W.drew.alloc (.cells #[] 3)).heap.size) := by show _ = _; simp
              have HS2 : Hid (W.heap.size + 1 = (W.drew.alloc (.cells #[.int .i64 x] 3)).heap.size) := by show _ = _; simp
              have HROW2 : Hid (∀ k, (Value.slice (some ⟨W.heap.size + 1, 0, none⟩) 0 0).ownBlock = some k → W.heap.size ≤ k) := fun k hk => by injection hk with hk; have h2 : W.heap.size + 1 = k := hk; omega
              have HNE2 : Hid (∀ a : Addr, some (⟨W.heap.size, 0, none⟩ : Addr) = some a → some a.block = (Value.slice (some ⟨W.heap.size + 1, 0, none⟩) 0 0).ownBlock → False) := fun a e h => by injection e with e; subst e; injection h with h; have h2 : W.heap.size = W.heap.size + 1 := h; omega
              have HNE1 : Hid (∀ a : Addr, some (⟨W.heap.size + 1, 0, none⟩ : Addr) = some a → some a.block = (Value.slice (some ⟨W.heap.size, 0, none⟩) 0 0).ownBlock → False) := fun a e h => by injection e with e; subst e; injection h with h; have h2 : W.heap.size + 1 = W.heap.size := h; omega
              rcases hcc with ⟨hcs, ho, hl, hq⟩ | ⟨hcn, ho, hl, hq⟩
              · exfalso; omega
              all_goals
                have HO2 := Lib.hid (And.intro ho (And.intro hl hq)); clear ho hl hq
                go_wp2_with fail
                go_region_held3 (fun w' => w'.cell? ⟨b, off + i, none⟩ = some (.int .i64 x)) (first | exact hx0 | exact ((Le.new _ _).cell hbW).trans hx0 | exact (((Le.new W.drew (.cells #[] 3)).alloc (.cells #[.int .i64 x] 3)).cell hbW).trans hx0 | exact (((Le.new W.drew (.cells #[.int .i64 x] 3)).alloc (.cells #[] 3)).cell hbW).trans hx0 | exact x7 | exact x7b | exact x8 | exact x9)
                  (first
                  | (have hzz := LB; have q7 : W.heap.size ≤ w8.heap.size := LB.size; refine step_append_sl rfl (.tmp 55) (.tmp 58) 28 rfl W.heap.size 3 i0 _ 8 Tryz.underlying28 hi hz0 hz1 hz2 rfl v2 (k + 1) (out.take k ++ [x]) rfl O2 (some ⟨gO, o2, none⟩) l2 n2 (out.drop k) (by obtain ⟨h1, h2, h3⟩ := HO2.out; subst h1; subst h2; subst h3; first | rfl | (simp [Act.eval]; done) | (simp [Act.eval, hcn]; done)) T8 m5 m6 q7 ?_; intro v3 w9 O3' hg3 _; have LC := LB.grown hg3 (fun k hk => (O2.lt k hk).1); have x9 := (LC.cell hbW).trans hxW)
                  | (have hzz := SXB; refine step_append_sl rfl (.tmp 49) (.tmp 54) 28 rfl W.heap.size 3 i0 _ 8 Tryz.underlying28 hi hz0 hz1 hz2 rfl v1 k (out.take k) rfl O1 (some ⟨W.heap.size + 1, 0, none⟩) 1 1 [x] rfl SXB m3 m4 LA.size ?_; intro v2 w8 O2 hg2 _; have LB : Le W w8 := LA.grown hg2 (fun k hk => (O1.lt k hk).1); have x8 : w8.cell? ⟨b, off + i, none⟩ = some (.int .i64 x) := (LB.cell hbW).trans hxW; have T8 := T2.le LB)
                  | (have hzz := SXC; refine step_append_sl rfl (.tmp 49) (.tmp 54) 28 rfl W.heap.size 3 i0 _ 8 Tryz.underlying28 hi hz0 hz1 hz2 rfl v1 k (out.take k) rfl O1 (some ⟨W.heap.size, 0, none⟩) 1 1 [x] rfl SXC m3 m4 LA.size ?_; intro v2 w8 O2 hg2 _; have LB : Le W w8 := LA.grown hg2 (fun k hk => (O1.lt k hk).1); have x8 : w8.cell? ⟨b, off + i, none⟩ = some (.int .i64 x) := (LB.cell hbW).trans hxW; have T8 := T2.le LB)
                  | (have hzz := O1; have q4 : (w7.alloc (.cells #[.int .i64 x] 3)).ownsRow W.heap.size 3 1 v1 k ((out.take k).flatMap Enc.cells) := O1.alloc _; have q5 := sl_one (w := w7) (cs := #[.int .i64 x]) (T := 3) x rfl hokx (b := w7.heap.size) rfl; have q6 : W.heap.size ≤ (w7.alloc (.cells #[.int .i64 x] 3)).heap.size := Nat.le_trans LA.size (Le.new w7 _).size; refine step_append_sl rfl (.tmp 49) (.tmp 54) 28 rfl W.heap.size 3 i0 _ 8 Tryz.underlying28 hi hz0 hz1 hz2 rfl v1 k (out.take k) rfl q4 (some ⟨w7.heap.size, 0, none⟩) 1 1 [x] rfl q5 m3 m4 q6 ?_; intro v2 w8 O2 hg2 _; have LB : Le W w8 := (LA.alloc (.cells #[.int .i64 x] 3)).grown hg2 (fun k hk => (O1.lt k hk).1); have x8 : w8.cell? ⟨b, off + i, none⟩ = some (.int .i64 x) := (LB.cell hbW).trans hxW; have T8 := T2.le LB)
                  | (have q1 : (W.alloc (.cells #[] 3)).drew.ownsRow W.heap.size 3 1 (.slice (some ⟨W.heap.size, 0, none⟩) 0 0) 0 [] := (own_empty (w := W.drew) (Nat.le_refl _) rfl); have q2 : Sl (W.alloc (.cells #[] 3)).drew (some ⟨gO, 0, none⟩) k c' (out.take k) := (T1.alloc (.cells #[] 3)); have q3 : W.heap.size ≤ (W.alloc (.cells #[] 3)).drew.heap.size := (Le.new W.drew (.cells #[] 3)).size; refine step_append_sl rfl (.tmp 45) (.tmp 48) 28 rfl W.heap.size 3 i0 _ 8 Tryz.underlying28 hi hz0 hz1 hz2 rfl (.slice (some ⟨W.heap.size, 0, none⟩) 0 0) 0 ([] : List Int) rfl q1 (some ⟨gO, 0, none⟩) k c' (out.take k) rfl q2 m1 m2 q3 ?_; intro v1 w7 O1 hg1 _; simp only [Nat.zero_add, List.nil_append] at O1; have LA0 : Le W (W.alloc (.cells #[] 3)).drew := (LD.alloc (.cells #[] 3)); have LA : Le W w7 := LA0.grown hg1 HROW.out; have x7 : w7.cell? ⟨b, off + i, none⟩ = some (.int .i64 x) := (LA.cell hbW).trans hxW; have hb7 : b < w7.heap.size := Nat.lt_of_lt_of_le hbW LA.size; have x7b : (w7.alloc (.cells #[.int .i64 x] 3)).cell? ⟨b, off + i, none⟩ = some (.int .i64 x) := ((Le.new w7 (.cells #[.int .i64 x] 3)).cell hb7).trans x7)
                  | (have q1 : ((W.alloc (.cells #[] 3)).alloc (.cells #[.int .i64 x] 3)).drew.ownsRow W.heap.size 3 1 (.slice (some ⟨W.heap.size, 0, none⟩) 0 0) 0 [] := (own_empty (w := W.drew) (Nat.le_refl _) rfl).alloc (.cells #[.int .i64 x] 3); have q2 : Sl ((W.alloc (.cells #[] 3)).alloc (.cells #[.int .i64 x] 3)).drew (some ⟨gO, 0, none⟩) k c' (out.take k) := (T1.alloc (.cells #[] 3)).alloc (.cells #[.int .i64 x] 3); have q3 : W.heap.size ≤ ((W.alloc (.cells #[] 3)).alloc (.cells #[.int .i64 x] 3)).drew.heap.size := Nat.le_trans (Le.new W.drew (.cells #[] 3)).size (Le.new (W.drew.alloc (.cells #[] 3)) (.cells #[.int .i64 x] 3)).size; refine step_append_sl rfl (.tmp 45) (.tmp 48) 28 rfl W.heap.size 3 i0 _ 8 Tryz.underlying28 hi hz0 hz1 hz2 rfl (.slice (some ⟨W.heap.size, 0, none⟩) 0 0) 0 ([] : List Int) rfl q1 (some ⟨gO, 0, none⟩) k c' (out.take k) rfl q2 m1 m2 q3 ?_; intro v1 w7 O1 hg1 _; simp only [Nat.zero_add, List.nil_append] at O1; have LA0 : Le W ((W.alloc (.cells #[] 3)).alloc (.cells #[.int .i64 x] 3)).drew := (LD.alloc (.cells #[] 3)).alloc (.cells #[.int .i64 x] 3); have LA : Le W w7 := LA0.grown hg1 HROW.out; have x7 : w7.cell? ⟨b, off + i, none⟩ = some (.int .i64 x) := (LA.cell hbW).trans hxW; have hb7 : b < w7.heap.size := Nat.lt_of_lt_of_le hbW LA.size; have SX0 : Sl ((W.alloc (.cells #[] 3)).alloc (.cells #[.int .i64 x] 3)).drew (some ⟨W.heap.size + 1, 0, none⟩) 1 1 [x] := sl_one (w := W.drew.alloc (.cells #[] 3)) (cs := #[.int .i64 x]) (T := 3) x rfl hokx (b := W.heap.size + 1) HS1.out; have SXB : Sl w7 (some ⟨W.heap.size + 1, 0, none⟩) 1 1 [x] := SX0.grown hg1 (fun _ a e h => HNE1.out a e h))
                  | (have q1 : ((W.alloc (.cells #[.int .i64 x] 3)).alloc (.cells #[] 3)).drew.ownsRow W.heap.size 3 1 (.slice (some ⟨W.heap.size + 1, 0, none⟩) 0 0) 0 [] := own_empty (w := W.drew.alloc (.cells #[.int .i64 x] 3)) (Le.new W.drew (.cells #[.int .i64 x] 3)).size HS2.out; have q2 : Sl ((W.alloc (.cells #[.int .i64 x] 3)).alloc (.cells #[] 3)).drew (some ⟨gO, 0, none⟩) k c' (out.take k) := (T1.alloc (.cells #[.int .i64 x] 3)).alloc (.cells #[] 3); have q3 : W.heap.size ≤ ((W.alloc (.cells #[.int .i64 x] 3)).alloc (.cells #[] 3)).drew.heap.size := Nat.le_trans (Le.new W.drew (.cells #[.int .i64 x] 3)).size (Le.new (W.drew.alloc (.cells #[.int .i64 x] 3)) (.cells #[] 3)).size; refine step_append_sl rfl (.tmp 45) (.tmp 48) 28 rfl W.heap.size 3 i0 _ 8 Tryz.underlying28 hi hz0 hz1 hz2 rfl (.slice (some ⟨W.heap.size + 1, 0, none⟩) 0 0) 0 ([] : List Int) rfl q1 (some ⟨gO, 0, none⟩) k c' (out.take k) rfl q2 m1 m2 q3 ?_; intro v1 w7 O1 hg1 _; simp only [Nat.zero_add, List.nil_append] at O1; have LA0 : Le W ((W.alloc (.cells #[.int .i64 x] 3)).alloc (.cells #[] 3)).drew := (LD.alloc (.cells #[.int .i64 x] 3)).alloc (.cells #[] 3); have LA : Le W w7 := LA0.grown hg1 HROW2.out; have x7 : w7.cell? ⟨b, off + i, none⟩ = some (.int .i64 x) := (LA.cell hbW).trans hxW; have hb7 : b < w7.heap.size := Nat.lt_of_lt_of_le hbW LA.size; have SX0 : Sl ((W.alloc (.cells #[.int .i64 x] 3)).alloc (.cells #[] 3)).drew (some ⟨W.heap.size, 0, none⟩) 1 1 [x] := (sl_one (w := W.drew) (cs := #[.int .i64 x]) (T := 3) x rfl hokx (b := W.heap.size) rfl).alloc (.cells #[] 3); have SXC : Sl w7 (some ⟨W.heap.size, 0, none⟩) 1 1 [x] := SX0.grown hg1 (fun _ a e h => HNE2.out a e h)))
                all_goals
                  have hln : ((out.take k ++ [x]) ++ out.drop k).length = k + 1 + l2 := by have := HL2.out; simp [List.length_take, List.length_drop]; omega
                  have O4 : w9.ownsRow w.heap.size 3 1 v3 ((out.take k ++ [x]) ++ out.drop k).length (((out.take k ++ [x]) ++ out.drop k).flatMap Enc.cells) := by rw [hln]; exact own_mono O3' LW.size
                  have hv3 : v3.ownBlock ≠ none := by
                    rcases O4.2 with ⟨_, h⟩ | ⟨g, c3, _, h, _⟩
                    · rw [hln] at h; omega
                    · rw [h]; simp [Value.ownBlock]
                  have hll : ((out.take k ++ [x]) ++ out.drop k).length ≤ i + 1 := by rw [hln]; have := HL2.out; omega
                  have HF := Lib.hid hll; have HO4 := Lib.hid O4; have HV3 := Lib.hid hv3; have HLC := Lib.hid (LW.trans LC)
                  clear hln O4 hv3 hll O3' O1 O2 hg1 hg2 hg3 LB LC LA
                  clear T1 T2 T8 x7 x8 x9 OW SW hx0 hxW
                  go_wp2
                  go_roundw
                  case rel => exact ⟨i + 1, _, by omega, by go_num, HO4.out, HLC.out, HAS.out, HM2.out, HF.out, HV3.out⟩
                  case measure => simp [intOf]; omega
        · have hkk : k = out.length := by omega
          have hkn : ((k : Int) == (out.length : Int)) = true := by rw [beq_iff_eq]; omega
          have HKK := Lib.hid hkk; clear hkk
          go_wp2_with fail
          refine wp_region_ext (by kernel_rfl) (by kernel_rfl) ?_
          repeat (go_big_quiet_step (fail))
          refine wpQuiet_nil ?_
          intro _ hw'
          obtain ⟨gg, rfl⟩ := hw'
          have L1 := hle2.trans (Le.ext _ gg)
          have hx3 := (((Le.ext _ gg).cell hb2).trans hx2')
          have O3 := own_le O2 (Le.ext _ gg)
          have SO3 := SO2.le (Le.ext _ gg)
          have hb4 := Nat.lt_of_lt_of_le hb2 (Le.ext _ gg).size
          clear E1
          generalize wr.ext gg = W2 at *
          have E1 := cell_ext hb4 hx3
          go_wp2_with fail
          refine wp_region_ext (by kernel_rfl) (by kernel_rfl) ?_
          repeat (go_big_quiet_step (fail))
          refine wpQuiet_nil ?_
          intro _ hw'
          obtain ⟨gg, rfl⟩ := hw'
          have hxW := ((Le.ext _ gg).cell hb4).trans hx3
          have OW := own_le O3 (Le.ext _ gg)
          have SW := SO3.le (Le.ext _ gg)
          have hbW := Nat.lt_of_lt_of_le hb4 (Le.ext _ gg).size
          have LW := hle.trans (L1.trans (Le.ext _ gg))
          clear E1
          generalize W2.ext gg = W at *
          have hlt3 := (OW.lt gO rfl).2
          have hgeX : ∀ h : k < out.length, x < out[k] := fun h => by have := HKK.out; omega
          have HAS := Lib.hid (ins_asc hk HA.out HP.out hgeX)
          have HM2 : Hid (∀ z, z ∈ (out.take k ++ [x]) ++ out.drop k ↔ z ∈ L.take (i + 1)) := fun z => by rw [ins_mem, HT.out, HM.out]
          have hokx : Enc.ok (α := Int) x := ⟨hx1, hx2⟩
          have T1 := (SW.take_ k hk).le (Le.refl W).drew
          obtain ⟨o2, l2, n2, T2, hcc, hl2⟩ : ∃ (o2 l2 n2 : Nat), Sl W (some ⟨gO, o2, none⟩) l2 n2 (out.drop k) ∧ ((k = c' ∧ o2 = 0 ∧ l2 = 0 ∧ n2 = 0) ∨ (¬ c' = k ∧ o2 = k ∧ l2 = out.length - k ∧ n2 = c' - k)) ∧ l2 = out.length - k := by
            by_cases hc : c' = k
            · have h1 : out.drop k = [] := List.drop_eq_nil_of_le (by have := SW.cap_; omega)
              refine ⟨0, 0, 0, ?_, .inl ⟨hc.symm, rfl, rfl, rfl⟩, by have := SW.cap_; omega⟩
              rw [h1]; exact Sl.nil _ _ _ (by omega)
            · have hT := SW.dropK k hk
              rw [show 0 + k * Enc.size Int = k from by show 0 + k * 1 = k; omega] at hT
              exact ⟨_, _, _, hT, .inr ⟨hc, rfl, rfl, rfl⟩, rfl⟩
          have HL2 := Lib.hid hl2; clear hl2
          have hcap := SW.cap_
          have LD := (Le.refl W).drew
          have hsd : W.drew.heap.size = W.heap.size := rfl
          have k1 : (0 : Int) ≤ (k : Int) := by omega
          have k2 : (k : Int) ≤ (c' : Int) := by omega
          have k4 : (out.length : Int) ≤ (c' : Int) := by omega
          have k3 : (k : Int) ≤ (out.length : Int) := by omega
          have k6 : k ≤ c' := by omega
          have m1 : 0 + k ≤ maxLen := by unfold maxLen; omega
          have m2 : (0 + k) * 8 ≤ 140737488355328 := by omega
          have m3 : k + 1 ≤ maxLen := by unfold maxLen; omega
          have m4 : (k + 1) * 8 ≤ 140737488355328 := by omega
          have m5 : k + 1 + l2 ≤ maxLen := by have := HL2.out; unfold maxLen; omega
          have m6 : (k + 1 + l2) * 8 ≤ 140737488355328 := by have := HL2.out; omega
          have hx0 := (show W.drew.cell? _ = _ from hxW)
          have HROW : Hid (∀ k, (Value.slice (some ⟨W.heap.size, 0, none⟩) 0 0).ownBlock = some k → W.heap.size ≤ k) := fun k hk => by injection hk with hk; exact Nat.le_of_eq hk
          have HS1 : Hid (W.heap.size + 1 = (W.drew.alloc (.cells #[] 3)).heap.size) := by show _ = _; simp
          have HS2 : Hid (W.heap.size + 1 = (W.drew.alloc (.cells #[.int .i64 x] 3)).heap.size) := by show _ = _; simp
          have HROW2 : Hid (∀ k, (Value.slice (some ⟨W.heap.size + 1, 0, none⟩) 0 0).ownBlock = some k → W.heap.size ≤ k) := fun k hk => by injection hk with hk; have h2 : W.heap.size + 1 = k := hk; omega
          have HNE2 : Hid (∀ a : Addr, some (⟨W.heap.size, 0, none⟩ : Addr) = some a → some a.block = (Value.slice (some ⟨W.heap.size + 1, 0, none⟩) 0 0).ownBlock → False) := fun a e h => by injection e with e; subst e; injection h with h; have h2 : W.heap.size = W.heap.size + 1 := h; omega
          have HNE1 : Hid (∀ a : Addr, some (⟨W.heap.size + 1, 0, none⟩ : Addr) = some a → some a.block = (Value.slice (some ⟨W.heap.size, 0, none⟩) 0 0).ownBlock → False) := fun a e h => by injection e with e; subst e; injection h with h; have h2 : W.heap.size + 1 = W.heap.size := h; omega
          rcases hcc with ⟨hcs, ho, hl, hq⟩ | ⟨hcn, ho, hl, hq⟩
          · subst hcs
            have k8 : k ≤ k := Nat.le_refl k
            have k9 : (k : Int) ≤ (k : Int) := Int.le_refl _
            have HO2 := Lib.hid (And.intro ho (And.intro hl hq)); clear ho hl hq
            go_wp2_with fail
            go_region_held3 (fun w' => w'.cell? ⟨b, off + i, none⟩ = some (.int .i64 x)) (first | exact hx0 | exact ((Le.new _ _).cell hbW).trans hx0 | exact (((Le.new W.drew (.cells #[] 3)).alloc (.cells #[.int .i64 x] 3)).cell hbW).trans hx0 | exact (((Le.new W.drew (.cells #[.int .i64 x] 3)).alloc (.cells #[] 3)).cell hbW).trans hx0 | exact x7 | exact x7b | exact x8 | exact x9)
              (first
              | (have hzz := LB; have q7 : W.heap.size ≤ w8.heap.size := LB.size; refine step_append_sl rfl (.tmp 55) (.tmp 58) 28 rfl W.heap.size 3 i0 _ 8 Tryz.underlying28 hi hz0 hz1 hz2 rfl v2 (k + 1) (out.take k ++ [x]) rfl O2 (some ⟨gO, o2, none⟩) l2 n2 (out.drop k) (by obtain ⟨h1, h2, h3⟩ := HO2.out; subst h1; subst h2; subst h3; first | rfl | (simp [Act.eval]; done) | (simp [Act.eval, k8]; done)) T8 m5 m6 q7 ?_; intro v3 w9 O3' hg3 _; have LC := LB.grown hg3 (fun k hk => (O2.lt k hk).1); have x9 := (LC.cell hbW).trans hxW)
              | (have hzz := SXB; refine step_append_sl rfl (.tmp 49) (.tmp 54) 28 rfl W.heap.size 3 i0 _ 8 Tryz.underlying28 hi hz0 hz1 hz2 rfl v1 k (out.take k) rfl O1 (some ⟨W.heap.size + 1, 0, none⟩) 1 1 [x] rfl SXB m3 m4 LA.size ?_; intro v2 w8 O2 hg2 _; have LB : Le W w8 := LA.grown hg2 (fun k hk => (O1.lt k hk).1); have x8 : w8.cell? ⟨b, off + i, none⟩ = some (.int .i64 x) := (LB.cell hbW).trans hxW; have T8 := T2.le LB)
              | (have hzz := SXC; refine step_append_sl rfl (.tmp 49) (.tmp 54) 28 rfl W.heap.size 3 i0 _ 8 Tryz.underlying28 hi hz0 hz1 hz2 rfl v1 k (out.take k) rfl O1 (some ⟨W.heap.size, 0, none⟩) 1 1 [x] rfl SXC m3 m4 LA.size ?_; intro v2 w8 O2 hg2 _; have LB : Le W w8 := LA.grown hg2 (fun k hk => (O1.lt k hk).1); have x8 : w8.cell? ⟨b, off + i, none⟩ = some (.int .i64 x) := (LB.cell hbW).trans hxW; have T8 := T2.le LB)
              | (have hzz := O1; have q4 : (w7.alloc (.cells #[.int .i64 x] 3)).ownsRow W.heap.size 3 1 v1 k ((out.take k).flatMap Enc.cells) := O1.alloc _; have q5 := sl_one (w := w7) (cs := #[.int .i64 x]) (T := 3) x rfl hokx (b := w7.heap.size) rfl; have q6 : W.heap.size ≤ (w7.alloc (.cells #[.int .i64 x] 3)).heap.size := Nat.le_trans LA.size (Le.new w7 _).size; refine step_append_sl rfl (.tmp 49) (.tmp 54) 28 rfl W.heap.size 3 i0 _ 8 Tryz.underlying28 hi hz0 hz1 hz2 rfl v1 k (out.take k) rfl q4 (some ⟨w7.heap.size, 0, none⟩) 1 1 [x] rfl q5 m3 m4 q6 ?_; intro v2 w8 O2 hg2 _; have LB : Le W w8 := (LA.alloc (.cells #[.int .i64 x] 3)).grown hg2 (fun k hk => (O1.lt k hk).1); have x8 : w8.cell? ⟨b, off + i, none⟩ = some (.int .i64 x) := (LB.cell hbW).trans hxW; have T8 := T2.le LB)
              | (have q1 : (W.alloc (.cells #[] 3)).drew.ownsRow W.heap.size 3 1 (.slice (some ⟨W.heap.size, 0, none⟩) 0 0) 0 [] := (own_empty (w := W.drew) (Nat.le_refl _) rfl); have q2 : Sl (W.alloc (.cells #[] 3)).drew (some ⟨gO, 0, none⟩) k k (out.take k) := (T1.alloc (.cells #[] 3)); have q3 : W.heap.size ≤ (W.alloc (.cells #[] 3)).drew.heap.size := (Le.new W.drew (.cells #[] 3)).size; refine step_append_sl rfl (.tmp 45) (.tmp 48) 28 rfl W.heap.size 3 i0 _ 8 Tryz.underlying28 hi hz0 hz1 hz2 rfl (.slice (some ⟨W.heap.size, 0, none⟩) 0 0) 0 ([] : List Int) rfl q1 (some ⟨gO, 0, none⟩) k k (out.take k) rfl q2 m1 m2 q3 ?_; intro v1 w7 O1 hg1 _; simp only [Nat.zero_add, List.nil_append] at O1; have LA0 : Le W (W.alloc (.cells #[] 3)).drew := (LD.alloc (.cells #[] 3)); have LA : Le W w7 := LA0.grown hg1 HROW.out; have x7 : w7.cell? ⟨b, off + i, none⟩ = some (.int .i64 x) := (LA.cell hbW).trans hxW; have hb7 : b < w7.heap.size := Nat.lt_of_lt_of_le hbW LA.size; have x7b : (w7.alloc (.cells #[.int .i64 x] 3)).cell? ⟨b, off + i, none⟩ = some (.int .i64 x) := ((Le.new w7 (.cells #[.int .i64 x] 3)).cell hb7).trans x7)
              | (have q1 : ((W.alloc (.cells #[] 3)).alloc (.cells #[.int .i64 x] 3)).drew.ownsRow W.heap.size 3 1 (.slice (some ⟨W.heap.size, 0, none⟩) 0 0) 0 [] := (own_empty (w := W.drew) (Nat.le_refl _) rfl).alloc (.cells #[.int .i64 x] 3); have q2 : Sl ((W.alloc (.cells #[] 3)).alloc (.cells #[.int .i64 x] 3)).drew (some ⟨gO, 0, none⟩) k k (out.take k) := (T1.alloc (.cells #[] 3)).alloc (.cells #[.int .i64 x] 3); have q3 : W.heap.size ≤ ((W.alloc (.cells #[] 3)).alloc (.cells #[.int .i64 x] 3)).drew.heap.size := Nat.le_trans (Le.new W.drew (.cells #[] 3)).size (Le.new (W.drew.alloc (.cells #[] 3)) (.cells #[.int .i64 x] 3)).size; refine step_append_sl rfl (.tmp 45) (.tmp 48) 28 rfl W.heap.size 3 i0 _ 8 Tryz.underlying28 hi hz0 hz1 hz2 rfl (.slice (some ⟨W.heap.size, 0, none⟩) 0 0) 0 ([] : List Int) rfl q1 (some ⟨gO, 0, none⟩) k k (out.take k) rfl q2 m1 m2 q3 ?_; intro v1 w7 O1 hg1 _; simp only [Nat.zero_add, List.nil_append] at O1; have LA0 : Le W ((W.alloc (.cells #[] 3)).alloc (.cells #[.int .i64 x] 3)).drew := (LD.alloc (.cells #[] 3)).alloc (.cells #[.int .i64 x] 3); have LA : Le W w7 := LA0.grown hg1 HROW.out; have x7 : w7.cell? ⟨b, off + i, none⟩ = some (.int .i64 x) := (LA.cell hbW).trans hxW; have hb7 : b < w7.heap.size := Nat.lt_of_lt_of_le hbW LA.size; have SX0 : Sl ((W.alloc (.cells #[] 3)).alloc (.cells #[.int .i64 x] 3)).drew (some ⟨W.heap.size + 1, 0, none⟩) 1 1 [x] := sl_one (w := W.drew.alloc (.cells #[] 3)) (cs := #[.int .i64 x]) (T := 3) x rfl hokx (b := W.heap.size + 1) HS1.out; have SXB : Sl w7 (some ⟨W.heap.size + 1, 0, none⟩) 1 1 [x] := SX0.grown hg1 (fun _ a e h => HNE1.out a e h))
              | (have q1 : ((W.alloc (.cells #[.int .i64 x] 3)).alloc (.cells #[] 3)).drew.ownsRow W.heap.size 3 1 (.slice (some ⟨W.heap.size + 1, 0, none⟩) 0 0) 0 [] := own_empty (w := W.drew.alloc (.cells #[.int .i64 x] 3)) (Le.new W.drew (.cells #[.int .i64 x] 3)).size HS2.out; have q2 : Sl ((W.alloc (.cells #[.int .i64 x] 3)).alloc (.cells #[] 3)).drew (some ⟨gO, 0, none⟩) k k (out.take k) := (T1.alloc (.cells #[.int .i64 x] 3)).alloc (.cells #[] 3); have q3 : W.heap.size ≤ ((W.alloc (.cells #[.int .i64 x] 3)).alloc (.cells #[] 3)).drew.heap.size := Nat.le_trans (Le.new W.drew (.cells #[.int .i64 x] 3)).size (Le.new (W.drew.alloc (.cells #[.int .i64 x] 3)) (.cells #[] 3)).size; refine step_append_sl rfl (.tmp 45) (.tmp 48) 28 rfl W.heap.size 3 i0 _ 8 Tryz.underlying28 hi hz0 hz1 hz2 rfl (.slice (some ⟨W.heap.size + 1, 0, none⟩) 0 0) 0 ([] : List Int) rfl q1 (some ⟨gO, 0, none⟩) k k (out.take k) rfl q2 m1 m2 q3 ?_; intro v1 w7 O1 hg1 _; simp only [Nat.zero_add, List.nil_append] at O1; have LA0 : Le W ((W.alloc (.cells #[.int .i64 x] 3)).alloc (.cells #[] 3)).drew := (LD.alloc (.cells #[.int .i64 x] 3)).alloc (.cells #[] 3); have LA : Le W w7 := LA0.grown hg1 HROW2.out; have x7 : w7.cell? ⟨b, off + i, none⟩ = some (.int .i64 x) := (LA.cell hbW).trans hxW; have hb7 : b < w7.heap.size := Nat.lt_of_lt_of_le hbW LA.size; have SX0 : Sl ((W.alloc (.cells #[.int .i64 x] 3)).alloc (.cells #[] 3)).drew (some ⟨W.heap.size, 0, none⟩) 1 1 [x] := (sl_one (w := W.drew) (cs := #[.int .i64 x]) (T := 3) x rfl hokx (b := W.heap.size) rfl).alloc (.cells #[] 3); have SXC : Sl w7 (some ⟨W.heap.size, 0, none⟩) 1 1 [x] := SX0.grown hg1 (fun _ a e h => HNE2.out a e h)))
            all_goals
              have hln : ((out.take k ++ [x]) ++ out.drop k).length = k + 1 + l2 := by have := HL2.out; simp [List.length_take, List.length_drop]; omega
              have O4 : w9.ownsRow w.heap.size 3 1 v3 ((out.take k ++ [x]) ++ out.drop k).length (((out.take k ++ [x]) ++ out.drop k).flatMap Enc.cells) := by rw [hln]; exact own_mono O3' LW.size
              have hv3 : v3.ownBlock ≠ none := by
                rcases O4.2 with ⟨_, h⟩ | ⟨g, c3, _, h, _⟩
                · rw [hln] at h; omega
                · rw [h]; simp [Value.ownBlock]
              have hll : ((out.take k ++ [x]) ++ out.drop k).length ≤ i + 1 := by rw [hln]; have := HL2.out; omega
              have HF := Lib.hid hll; have HO4 := Lib.hid O4; have HV3 := Lib.hid hv3; have HLC := Lib.hid (LW.trans LC)
              clear hln O4 hv3 hll O3' O1 O2 hg1 hg2 hg3 LB LC LA
              clear T1 T2 T8 x7 x8 x9 OW SW hx0 hxW
              go_wp2
              go_roundw
              case rel => exact ⟨i + 1, _, by omega, by go_num, HO4.out, HLC.out, HAS.out, HM2.out, HF.out, HV3.out⟩
              case measure => simp [intOf]; omega
          all_goals
            have HO2 := Lib.hid (And.intro ho (And.intro hl hq)); clear ho hl hq
            go_wp2_with fail
            go_region_held3 (fun w' => w'.cell? ⟨b, off + i, none⟩ = some (.int .i64 x)) (first | exact hx0 | exact ((Le.new _ _).cell hbW).trans hx0 | exact (((Le.new W.drew (.cells #[] 3)).alloc (.cells #[.int .i64 x] 3)).cell hbW).trans hx0 | exact (((Le.new W.drew (.cells #[.int .i64 x] 3)).alloc (.cells #[] 3)).cell hbW).trans hx0 | exact x7 | exact x7b | exact x8 | exact x9)
              (first
              | (have hzz := LB; have q7 : W.heap.size ≤ w8.heap.size := LB.size; refine step_append_sl rfl (.tmp 55) (.tmp 58) 28 rfl W.heap.size 3 i0 _ 8 Tryz.underlying28 hi hz0 hz1 hz2 rfl v2 (k + 1) (out.take k ++ [x]) rfl O2 (some ⟨gO, o2, none⟩) l2 n2 (out.drop k) (by obtain ⟨h1, h2, h3⟩ := HO2.out; subst h1; subst h2; subst h3; first | rfl | (simp [Act.eval]; done) | (simp [Act.eval, hcn]; done)) T8 m5 m6 q7 ?_; intro v3 w9 O3' hg3 _; have LC := LB.grown hg3 (fun k hk => (O2.lt k hk).1); have x9 := (LC.cell hbW).trans hxW)
              | (have hzz := SXB; refine step_append_sl rfl (.tmp 49) (.tmp 54) 28 rfl W.heap.size 3 i0 _ 8 Tryz.underlying28 hi hz0 hz1 hz2 rfl v1 k (out.take k) rfl O1 (some ⟨W.heap.size + 1, 0, none⟩) 1 1 [x] rfl SXB m3 m4 LA.size ?_; intro v2 w8 O2 hg2 _; have LB : Le W w8 := LA.grown hg2 (fun k hk => (O1.lt k hk).1); have x8 : w8.cell? ⟨b, off + i, none⟩ = some (.int .i64 x) := (LB.cell hbW).trans hxW; have T8 := T2.le LB)
              | (have hzz := SXC; refine step_append_sl rfl (.tmp 49) (.tmp 54) 28 rfl W.heap.size 3 i0 _ 8 Tryz.underlying28 hi hz0 hz1 hz2 rfl v1 k (out.take k) rfl O1 (some ⟨W.heap.size, 0, none⟩) 1 1 [x] rfl SXC m3 m4 LA.size ?_; intro v2 w8 O2 hg2 _; have LB : Le W w8 := LA.grown hg2 (fun k hk => (O1.lt k hk).1); have x8 : w8.cell? ⟨b, off + i, none⟩ = some (.int .i64 x) := (LB.cell hbW).trans hxW; have T8 := T2.le LB)
              | (have hzz := O1; have q4 : (w7.alloc (.cells #[.int .i64 x] 3)).ownsRow W.heap.size 3 1 v1 k ((out.take k).flatMap Enc.cells) := O1.alloc _; have q5 := sl_one (w := w7) (cs := #[.int .i64 x]) (T := 3) x rfl hokx (b := w7.heap.size) rfl; have q6 : W.heap.size ≤ (w7.alloc (.cells #[.int .i64 x] 3)).heap.size := Nat.le_trans LA.size (Le.new w7 _).size; refine step_append_sl rfl (.tmp 49) (.tmp 54) 28 rfl W.heap.size 3 i0 _ 8 Tryz.underlying28 hi hz0 hz1 hz2 rfl v1 k (out.take k) rfl q4 (some ⟨w7.heap.size, 0, none⟩) 1 1 [x] rfl q5 m3 m4 q6 ?_; intro v2 w8 O2 hg2 _; have LB : Le W w8 := (LA.alloc (.cells #[.int .i64 x] 3)).grown hg2 (fun k hk => (O1.lt k hk).1); have x8 : w8.cell? ⟨b, off + i, none⟩ = some (.int .i64 x) := (LB.cell hbW).trans hxW; have T8 := T2.le LB)
              | (have q1 : (W.alloc (.cells #[] 3)).drew.ownsRow W.heap.size 3 1 (.slice (some ⟨W.heap.size, 0, none⟩) 0 0) 0 [] := (own_empty (w := W.drew) (Nat.le_refl _) rfl); have q2 : Sl (W.alloc (.cells #[] 3)).drew (some ⟨gO, 0, none⟩) k c' (out.take k) := (T1.alloc (.cells #[] 3)); have q3 : W.heap.size ≤ (W.alloc (.cells #[] 3)).drew.heap.size := (Le.new W.drew (.cells #[] 3)).size; refine step_append_sl rfl (.tmp 45) (.tmp 48) 28 rfl W.heap.size 3 i0 _ 8 Tryz.underlying28 hi hz0 hz1 hz2 rfl (.slice (some ⟨W.heap.size, 0, none⟩) 0 0) 0 ([] : List Int) rfl q1 (some ⟨gO, 0, none⟩) k c' (out.take k) rfl q2 m1 m2 q3 ?_; intro v1 w7 O1 hg1 _; simp only [Nat.zero_add, List.nil_append] at O1; have LA0 : Le W (W.alloc (.cells #[] 3)).drew := (LD.alloc (.cells #[] 3)); have LA : Le W w7 := LA0.grown hg1 HROW.out; have x7 : w7.cell? ⟨b, off + i, none⟩ = some (.int .i64 x) := (LA.cell hbW).trans hxW; have hb7 : b < w7.heap.size := Nat.lt_of_lt_of_le hbW LA.size; have x7b : (w7.alloc (.cells #[.int .i64 x] 3)).cell? ⟨b, off + i, none⟩ = some (.int .i64 x) := ((Le.new w7 (.cells #[.int .i64 x] 3)).cell hb7).trans x7)
              | (have q1 : ((W.alloc (.cells #[] 3)).alloc (.cells #[.int .i64 x] 3)).drew.ownsRow W.heap.size 3 1 (.slice (some ⟨W.heap.size, 0, none⟩) 0 0) 0 [] := (own_empty (w := W.drew) (Nat.le_refl _) rfl).alloc (.cells #[.int .i64 x] 3); have q2 : Sl ((W.alloc (.cells #[] 3)).alloc (.cells #[.int .i64 x] 3)).drew (some ⟨gO, 0, none⟩) k c' (out.take k) := (T1.alloc (.cells #[] 3)).alloc (.cells #[.int .i64 x] 3); have q3 : W.heap.size ≤ ((W.alloc (.cells #[] 3)).alloc (.cells #[.int .i64 x] 3)).drew.heap.size := Nat.le_trans (Le.new W.drew (.cells #[] 3)).size (Le.new (W.drew.alloc (.cells #[] 3)) (.cells #[.int .i64 x] 3)).size; refine step_append_sl rfl (.tmp 45) (.tmp 48) 28 rfl W.heap.size 3 i0 _ 8 Tryz.underlying28 hi hz0 hz1 hz2 rfl (.slice (some ⟨W.heap.size, 0, none⟩) 0 0) 0 ([] : List Int) rfl q1 (some ⟨gO, 0, none⟩) k c' (out.take k) rfl q2 m1 m2 q3 ?_; intro v1 w7 O1 hg1 _; simp only [Nat.zero_add, List.nil_append] at O1; have LA0 : Le W ((W.alloc (.cells #[] 3)).alloc (.cells #[.int .i64 x] 3)).drew := (LD.alloc (.cells #[] 3)).alloc (.cells #[.int .i64 x] 3); have LA : Le W w7 := LA0.grown hg1 HROW.out; have x7 : w7.cell? ⟨b, off + i, none⟩ = some (.int .i64 x) := (LA.cell hbW).trans hxW; have hb7 : b < w7.heap.size := Nat.lt_of_lt_of_le hbW LA.size; have SX0 : Sl ((W.alloc (.cells #[] 3)).alloc (.cells #[.int .i64 x] 3)).drew (some ⟨W.heap.size + 1, 0, none⟩) 1 1 [x] := sl_one (w := W.drew.alloc (.cells #[] 3)) (cs := #[.int .i64 x]) (T := 3) x rfl hokx (b := W.heap.size + 1) HS1.out; have SXB : Sl w7 (some ⟨W.heap.size + 1, 0, none⟩) 1 1 [x] := SX0.grown hg1 (fun _ a e h => HNE1.out a e h))
              | (have q1 : ((W.alloc (.cells #[.int .i64 x] 3)).alloc (.cells #[] 3)).drew.ownsRow W.heap.size 3 1 (.slice (some ⟨W.heap.size + 1, 0, none⟩) 0 0) 0 [] := own_empty (w := W.drew.alloc (.cells #[.int .i64 x] 3)) (Le.new W.drew (.cells #[.int .i64 x] 3)).size HS2.out; have q2 : Sl ((W.alloc (.cells #[.int .i64 x] 3)).alloc (.cells #[] 3)).drew (some ⟨gO, 0, none⟩) k c' (out.take k) := (T1.alloc (.cells #[.int .i64 x] 3)).alloc (.cells #[] 3); have q3 : W.heap.size ≤ ((W.alloc (.cells #[.int .i64 x] 3)).alloc (.cells #[] 3)).drew.heap.size := Nat.le_trans (Le.new W.drew (.cells #[.int .i64 x] 3)).size (Le.new (W.drew.alloc (.cells #[.int .i64 x] 3)) (.cells #[] 3)).size; refine step_append_sl rfl (.tmp 45) (.tmp 48) 28 rfl W.heap.size 3 i0 _ 8 Tryz.underlying28 hi hz0 hz1 hz2 rfl (.slice (some ⟨W.heap.size + 1, 0, none⟩) 0 0) 0 ([] : List Int) rfl q1 (some ⟨gO, 0, none⟩) k c' (out.take k) rfl q2 m1 m2 q3 ?_; intro v1 w7 O1 hg1 _; simp only [Nat.zero_add, List.nil_append] at O1; have LA0 : Le W ((W.alloc (.cells #[.int .i64 x] 3)).alloc (.cells #[] 3)).drew := (LD.alloc (.cells #[.int .i64 x] 3)).alloc (.cells #[] 3); have LA : Le W w7 := LA0.grown hg1 HROW2.out; have x7 : w7.cell? ⟨b, off + i, none⟩ = some (.int .i64 x) := (LA.cell hbW).trans hxW; have hb7 : b < w7.heap.size := Nat.lt_of_lt_of_le hbW LA.size; have SX0 : Sl ((W.alloc (.cells #[.int .i64 x] 3)).alloc (.cells #[] 3)).drew (some ⟨W.heap.size, 0, none⟩) 1 1 [x] := (sl_one (w := W.drew) (cs := #[.int .i64 x]) (T := 3) x rfl hokx (b := W.heap.size) rfl).alloc (.cells #[] 3); have SXC : Sl w7 (some ⟨W.heap.size, 0, none⟩) 1 1 [x] := SX0.grown hg1 (fun _ a e h => HNE2.out a e h)))
            all_goals
              have hln : ((out.take k ++ [x]) ++ out.drop k).length = k + 1 + l2 := by have := HL2.out; simp [List.length_take, List.length_drop]; omega
              have O4 : w9.ownsRow w.heap.size 3 1 v3 ((out.take k ++ [x]) ++ out.drop k).length (((out.take k ++ [x]) ++ out.drop k).flatMap Enc.cells) := by rw [hln]; exact own_mono O3' LW.size
              have hv3 : v3.ownBlock ≠ none := by
                rcases O4.2 with ⟨_, h⟩ | ⟨g, c3, _, h, _⟩
                · rw [hln] at h; omega
                · rw [h]; simp [Value.ownBlock]
              have hll : ((out.take k ++ [x]) ++ out.drop k).length ≤ i + 1 := by rw [hln]; have := HL2.out; omega
              have HF := Lib.hid hll; have HO4 := Lib.hid O4; have HV3 := Lib.hid hv3; have HLC := Lib.hid (LW.trans LC)
              clear hln O4 hv3 hll O3' O1 O2 hg1 hg2 hg3 LB LC LA
              clear T1 T2 T8 x7 x8 x9 OW SW hx0 hxW
              go_wp2
              go_roundw
              case rel => exact ⟨i + 1, _, by omega, by go_num, HO4.out, HLC.out, HAS.out, HM2.out, HF.out, HV3.out⟩
              case measure => simp [intOf]; omega
    · have hk' : i = L.length := by omega
      have HO : Hid (∀ v, wr.ownsRow w.heap.size 3 1 v out.length (out.flatMap Enc.cells) → SortOut L w (.returned v) wr) := fun v hv => by
        refine ⟨v, out, rfl, ⟨hv, HOK.out⟩, hle, HA.out, fun x => ?_, by omega⟩
        rw [HM.out, hk', List.take_length]
      clear hk'
      go_wp2
      go_ret
      exact HO.out _ O
end

section
def idx : List Int → Int → Int → Int
  | [], _, _ => -1
  | y :: r, x, k => if y = x then k else idx r x (k + 1)
theorem idx_at {L : List Int} {k : Nat} (h : k < L.length) (x j : Int) : idx (L.drop k) x j = if L[k] = x then j else idx (L.drop (k + 1)) x (j + 1) := by
  rw [List.drop_eq_getElem_cons h]; rfl
theorem idx_end {L : List Int} {k : Nat} (h : ¬ k < L.length) (x j : Int) : idx (L.drop k) x j = -1 := by
  rw [List.drop_eq_nil_of_le (by omega)]; rfl
set_option maxRecDepth 100000 in
theorem iIndex_any (A : Option Addr) (n c : Nat) (L : List Int) (x : Int) (w : World) (hL : Sl w A n c L) (hn : n ≤ 1048576) :
    Calls Tryz.prog 79 #[.slice A n c, .int .i64 x] w fun e w' => e = .returned (.int .i64 (idx L x 0)) ∧ w = w' := by
  obtain rfl := hL.len
  go_enter Tryz.func79, Tryz.ntmps79
  go_wp2
  go_loop [5, 8] (fun _ q => ∃ k : Nat, k ≤ L.length ∧ q = .int .i64 k ∧ idx L x 0 = idx (L.drop k) x k) (fun _ q => L.length - (intOf q).toNat)
  case atStart => exact ⟨0, Nat.zero_le _, rfl, rfl⟩
  case round =>
    obtain ⟨k, hk, rfl, hr⟩ := hrel
    by_cases hlt : k < L.length
    · obtain ⟨b, off, rfl, hb, hx, _, _⟩ := hL.int_at hlt
      rw [idx_at hlt] at hr
      have hki : (k : Int) < (L.length : Int) := by omega
      by_cases he : L[k] = x
      · have hb1 : (x == L[k]) = true := by simpa using he.symm
        rw [if_pos he] at hr
        have HR := Lib.hid hr; clear hr he
        generalize L[k] = y at *
        go_wp2
        go_ret
        exact ⟨ret_int HR.out.symm, rfl⟩
      · have hb1 : (x == L[k]) = false := by simpa using (fun e => he e.symm)
        rw [if_neg he] at hr
        have HR := Lib.hid hr; clear hr he
        generalize L[k] = y at *
        go_wp2
        go_round
        case rel => exact ⟨k + 1, by omega, by go_num, by rw [HR.out]; rfl⟩
        case measure => simp [intOf]; omega
    · rw [idx_end hlt] at hr
      have HR := Lib.hid hr; clear hr
      go_wp2
      go_ret
      exact ⟨ret_int HR.out.symm, rfl⟩
theorem idx_mem : ∀ (L : List Int) (x k : Int), 0 ≤ k → (idx L x k ≥ 0 ↔ x ∈ L)
  | [], x, k, h => by unfold idx; simp
  | y :: r, x, k, h => by
    unfold idx
    by_cases e : y = x
    · rw [if_pos e]; exact ⟨fun _ => by rw [e]; exact List.mem_cons_self .., fun _ => h⟩
    · rw [if_neg e, idx_mem r x (k + 1) (by omega), List.mem_cons]
      exact ⟨.inr, fun h => h.resolve_left fun h => e h.symm⟩
set_option maxRecDepth 100000 in
theorem sIndexOf_any (A : Option Addr) (n c : Nat) (L : List Int) (x : Int) (w : World) (hL : Sl w A n c L) (hn : n ≤ 1048576) :
    Calls Tryz.prog 69 #[.slice A n c, .int .i64 x] w fun e w' => e = .returned (.int .i64 (idx L x 0)) ∧ w = w' := by
  obtain rfl := hL.len
  go_enter Tryz.func69, Tryz.ntmps69
  go_wp2
  go_loop [5] (fun q => ∃ k : Nat, k ≤ L.length ∧ q = .int .i64 k ∧ idx L x 0 = idx (L.drop k) x k) (fun q => L.length - (intOf q).toNat)
  case atStart => exact ⟨0, Nat.zero_le _, rfl, rfl⟩
  case round =>
    obtain ⟨k, hk, rfl, hr⟩ := hrel
    by_cases hlt : k < L.length
    · obtain ⟨b, off, rfl, hb, hx, _, _⟩ := hL.int_at hlt
      rw [idx_at hlt] at hr
      by_cases he : L[k] = x
      · have hb1 : (L[k] == x) = true := by simpa using he
        rw [if_pos he] at hr
        have HR := Lib.hid hr; clear hr he
        generalize L[k] = y at *
        go_wp2
        go_ret
        exact ⟨ret_int HR.out.symm, rfl⟩
      · have hb1 : (L[k] == x) = false := by simpa using he
        rw [if_neg he] at hr
        have HR := Lib.hid hr; clear hr he
        generalize L[k] = y at *
        go_wp2
        go_round
        case rel => exact ⟨k + 1, by omega, by go_num, by rw [HR.out]; rfl⟩
        case measure => simp [intOf]; omega
    · rw [idx_end hlt] at hr
      have HR := Lib.hid hr; clear hr
      go_wp2
      go_ret
      exact ⟨ret_int HR.out.symm, rfl⟩
end

section
theorem idx_rng : ∀ (L : List Int) (x k : Int), 0 ≤ k → -1 ≤ idx L x k ∧ idx L x k < k + L.length + 1
  | [], x, k, h => by simp [idx]; omega
  | y :: r, x, k, h => by
    have := idx_rng r x (k + 1) (by omega)
    unfold idx
    split
    · simp; omega
    · simp; omega
def isoF (hs : List Flt) (L : List Int) (x : Int) : Flt :=
  match hs[x.toNat]? with
  | some y => ⟨y.cls, y.code, idx L y.cause 0, idx L y.ctx 0, y.hide⟩
  | none => ⟨0, 0, -1, -1, false⟩
theorem isoF_at {hs : List Flt} {L : List Int} {i : Nat} (h : i < hs.length) : isoF hs L (i : Int) = ⟨hs[i].cls, hs[i].code, idx L hs[i].cause 0, idx L hs[i].ctx 0, hs[i].hide⟩ := by
  unfold isoF; rw [Int.toNat_natCast, List.getElem?_eq_getElem h]
def isoL (hs : List Flt) (L : List Int) : List Flt := L.map (isoF hs L)
theorem isoF_ok {hs : List Flt} {L : List Int} (hok : ∀ x ∈ hs, Enc.ok x) (hl : L.length ≤ 1048576) (x : Int) : Enc.ok (isoF hs L x) := by
  unfold isoF
  split
  · next y hy =>
    have h := hok y (List.mem_of_getElem? hy)
    have a := idx_rng L y.cause 0 (by omega)
    have b := idx_rng L y.ctx 0 (by omega)
    exact ⟨h.1, h.2.1, h.2.2.1, h.2.2.2.1, by show (-9223372036854775808 : Int) ≤ idx L y.cause 0; omega, by show idx L y.cause 0 ≤ (9223372036854775807 : Int); omega, by show (-9223372036854775808 : Int) ≤ idx L y.ctx 0; omega, by show idx L y.ctx 0 ≤ (9223372036854775807 : Int); omega⟩
  · exact ⟨by decide, by decide, by decide, by decide, by decide, by decide, by decide, by decide⟩
theorem isoL_take {hs : List Flt} {L : List Int} {k : Nat} (hk : k < L.length) : (L.take k).map (isoF hs L) ++ [isoF hs L L[k]] = (L.take (k + 1)).map (isoF hs L) := by
  rw [List.take_succ_eq_append_getElem hk, List.map_append]; rfl
end

section
set_option maxHeartbeats 8000000 in
set_option maxRecDepth 100000 in
theorem iIsolate_any (H : Option Addr) (m c : Nat) (hs : List Flt) (f : Int) (w : World) (hH : Sl w H m c hs) (lk : Lnk hs) (h0 : 0 ≤ f) (h1 : f < hs.length) (hm : m ≤ 1048576) :
    Calls Tryz.prog 47 #[.agg #[.slice H m c], .int .i64 f] w fun e w' => ∃ v, e = .returned (.tuple #[.agg #[v], .int .i64 (idx (reachL hs f) f 0)]) ∧ Owd 103 w w' v (isoL hs (reachL hs f)) ∧ Le w w' := by
  obtain rfl := hH.len
  obtain ⟨i0, hi, hz0, hz1, hz2⟩ := info_parts infoCcFault
  obtain ⟨c0, z0, c1, z1, L0⟩ := box2 w (.slice H hs.length c) (.slice none 0 0) 31 31
  have f1 : ((w.alloc (.cells #[.slice H hs.length c] 31)).alloc (.cells #[.slice none 0 0] 31)).frozen? ⟨w.heap.size + 1, 0, none⟩ = false := World.frozen?_alloc_at _ _ _ _ (by simp)
  have hs0 : w.heap.size + 1 + 1 = ((w.alloc (.cells #[.slice H hs.length c] 31)).alloc (.cells #[.slice none 0 0] 31)).heap.size := by simp
  have HS0 := Lib.hid hs0; clear hs0
  have S0 := hH.le L0
  have HOKH := Lib.hid hH.ok
  have HUB : Hid (0 < hs.length → ∀ a, H = some a → a.block < w.heap.size + 1 + 1) := fun h a e => by have := hH.under h a e; omega
  have HRI := Lib.hid (fun x => rch0_iff lk h0 h1 x)
  have HRL := Lib.hid (fun x => reachL_mem lk h0 h1 x)
  have HFN := Lib.hid (rch0_fnd lk h1)
  have HLK := Lib.hid lk; clear lk
  have HRR : Hid (∀ x ∈ reachL hs f, 0 ≤ x ∧ x < hs.length) := fun x hx => by have := ascOf_mem.1 (show x ∈ ascOf (rch0 hs f) hs.length from hx); exact ⟨this.1, this.2.1⟩
  have hlr : (reachL hs f).length ≤ hs.length := ascOf_len (L := rch0 hs f) hs.length
  go_enter Tryz.func47, Tryz.ntmps47
  go_wp2_with fail
  generalize (w.alloc (.cells #[.slice H hs.length c] 31)).alloc (.cells #[.slice none 0 0] 31) = W at *
  refine (iReach_any H hs.length c hs f W S0 HLK.out h0 h1 (by omega)).mono ?_
  rintro e w3 ⟨v3, rfl, D, hle⟩
  obtain ⟨AL, cL, rfl, SL, -⟩ := D.form (by decide)
  replace c0 := (hle.cell z0).trans c0
  replace c1 := (hle.cell z1).trans c1
  replace f1 := (hle.frozen z1).trans f1
  replace z0 := Nat.lt_of_lt_of_le z0 hle.size
  replace z1 := Nat.lt_of_lt_of_le z1 hle.size
  replace L0 := L0.trans hle
  replace S0 := S0.le hle
  have s3 := hle.size
  clear D hle
  have HC0 := Lib.hid c0; have HC1 := Lib.hid c1; have HF1 := Lib.hid f1; have HL0 := Lib.hid L0; have HS := Lib.hid S0; have HSL := Lib.hid SL
  have y0 := z0; have y1 := z1
  have HISO : Hid (∀ x : Int, Enc.ok (isoF hs (reachL hs f) x)) := fun x => isoF_ok HOKH.out (by omega) x
  clear HRI HRL HFN HUB HLK
  go_wp2
  generalize hLL : reachL hs f = L at *
  have HLL := Lib.hid hLL; clear hLL
  clear c0 c1 f1 z0 z1 L0 S0 SL
  go_loopw [9, 10, 16] (fun _ _ q wr => ∃ (k : Nat) (A' : Option Addr) (c' : Nat), k ≤ L.length ∧ q = .int .i64 k ∧ Le w3 wr ∧ w3.heap.size < wr.heap.size ∧ wr.cell? ⟨w3.heap.size, 0, none⟩ = some (.slice A' k c') ∧ wr.frozen? ⟨w3.heap.size, 0, none⟩ = false ∧
    wr.ownsRow w3.heap.size 103 5 (.slice A' k c') k (((L.take k).map (isoF hs L)).flatMap Enc.cells) ∧ (Value.slice A' k c').ownBlock ≠ some (w3.heap.size)) (fun _ _ q _ => L.length - (intOf q).toNat)
  case atStart => exact ⟨0, none, 0, Nat.zero_le _, rfl, Le.new w3 _, by simp, by rw [World.cell?_alloc_at _ _ _ _ rfl]; rfl, World.frozen?_alloc_at _ _ _ _ rfl, World.ownsRow_nil _ _ _ _, fun e => by cases e⟩
  case round =>
    obtain ⟨k, A', c', hk, rfl, hle, zB, cB, fB, O, hne⟩ := hrel
    have c0 := (hle.cell y0).trans HC0.out
    have c1 := (hle.cell y1).trans HC1.out
    have f1 := (hle.frozen y1).trans HF1.out
    have z0 := Nat.lt_of_lt_of_le y0 hle.size
    have z1 := Nat.lt_of_lt_of_le y1 hle.size
    have L0 := HL0.out.trans hle
    have S0 := HS.out.le hle
    have SL := HSL.out.le hle
    have hltO := O.lt
    have HLTO := Lib.hid hltO; clear hltO
    have HNE := Lib.hid hne; clear hne
    by_cases hlt : k < L.length
    · have hr := HRR.out _ (List.getElem_mem hlt)
      have HT := Lib.hid (isoL_take (hs := hs) hlt)
      have HOK := Lib.hid (HISO.out L[k])
      obtain ⟨i, hi2⟩ := Int.eq_ofNat_of_zero_le hr.1
      rw [hi2] at hr HT HOK
      obtain ⟨b, off, rfl, hb, hx, _, _⟩ := SL.int_at hlt
      rw [hi2] at hx
      have hil : i < hs.length := by omega
      have hi3 : (i : Int) < (hs.length : Int) := by omega
      have hk3 : (k : Int) < (L.length : Int) := by omega
      obtain ⟨b2, off2, rfl, hb2, q0, q1, q2, q3, q4, -⟩ := S0.flt_at hil
      have hsh := isoF_at (L := L) hil
      have HSH := Lib.hid hsh
      clear hsh hi2
      generalize hs[i] = x at *
      generalize x.cls = xc at *
      generalize x.code = xd at *
      generalize x.cause = xa at *
      generalize x.ctx = xb at *
      generalize x.hide = xh at *
      have HA : Hid (∀ w, Sl w (some ⟨b, off, none⟩) L.length cL L → Calls Tryz.prog 79 #[.slice (some ⟨b, off, none⟩) L.length cL, .int .i64 xa] w fun e w' => e = .returned (.int .i64 (idx L xa 0)) ∧ w = w') := fun w h => iIndex_any _ _ _ L xa w h (by omega)
      have HB : Hid (∀ w, Sl w (some ⟨b, off, none⟩) L.length cL L → Calls Tryz.prog 79 #[.slice (some ⟨b, off, none⟩) L.length cL, .int .i64 xb] w fun e w' => e = .returned (.int .i64 (idx L xb 0)) ∧ w = w') := fun w h => iIndex_any _ _ _ L xb w h (by omega)
      generalize idx L xa 0 = ya at *
      generalize idx L xb 0 = yb at *
      go_wp2_with fail
      refine (HA.out _ (SL.alloc (.cells #[.int .i64 xc, .int .i64 xd, .int .i64 xa, .int .i64 xb, .bool xh] 103))).mono ?_
      rintro e wq ⟨rfl, rfl⟩
      go_wp2_with fail
      refine (HB.out _ (SL.alloc (.cells #[.int .i64 xc, .int .i64 xd, .int .i64 ya, .int .i64 xb, .bool xh] 103))).mono ?_
      rintro e wq ⟨rfl, rfl⟩
      have LX : Le wr (((wr.alloc (.cells #[.int .i64 xc, .int .i64 xd, .int .i64 ya, .int .i64 yb, .bool xh] 103)).alloc (.cells #[.int .i64 xc, .int .i64 xd, .int .i64 ya, .int .i64 yb, .bool xh] 103))) := ((Le.new wr (.cells #[.int .i64 xc, .int .i64 xd, .int .i64 ya, .int .i64 yb, .bool xh] 103)).alloc (.cells #[.int .i64 xc, .int .i64 xd, .int .i64 ya, .int .i64 yb, .bool xh] 103))
      have cBX := (LX.cell zB).trans cB
      have fBX := (LX.frozen zB).trans fB
      have sX := LX.size
      have hX1 : (wr.alloc (.cells #[.int .i64 xc, .int .i64 xd, .int .i64 ya, .int .i64 yb, .bool xh] 103)).heap.size = wr.heap.size + 1 := by simp
      have hX2 : (((wr.alloc (.cells #[.int .i64 xc, .int .i64 xd, .int .i64 ya, .int .i64 yb, .bool xh] 103)).alloc (.cells #[.int .i64 xc, .int .i64 xd, .int .i64 ya, .int .i64 yb, .bool xh] 103))).heap.size = wr.heap.size + 1 + 1 := by show ((wr.alloc _).alloc _).heap.size = _; simp
      rw [HSH.out] at HOK
      have SX := sl_one (w := wr.alloc (.cells #[.int .i64 xc, .int .i64 xd, .int .i64 ya, .int .i64 yb, .bool xh] 103)) (cs := #[.int .i64 xc, .int .i64 xd, .int .i64 ya, .int .i64 yb, .bool xh]) (T := 103) (⟨xc, xd, ya, yb, xh⟩ : Flt) rfl HOK.out (b := wr.heap.size + 1) hX1.symm
      have SX2 : Sl (((wr.alloc (.cells #[.int .i64 xc, .int .i64 xd, .int .i64 ya, .int .i64 yb, .bool xh] 103)).alloc (.cells #[.int .i64 xc, .int .i64 xd, .int .i64 ya, .int .i64 yb, .bool xh] 103))) (some ⟨wr.heap.size + 1, 0, none⟩) 1 1 [(⟨xc, xd, ya, yb, xh⟩ : Flt)] := SX
      have OX : (((wr.alloc (.cells #[.int .i64 xc, .int .i64 xd, .int .i64 ya, .int .i64 yb, .bool xh] 103)).alloc (.cells #[.int .i64 xc, .int .i64 xd, .int .i64 ya, .int .i64 yb, .bool xh] 103))).ownsRow w3.heap.size 103 5 (.slice A' k c') k (((L.take k).map (isoF hs L)).flatMap Enc.cells) := ((O.alloc (.cells #[.int .i64 xc, .int .i64 xd, .int .i64 ya, .int .i64 yb, .bool xh] 103)).alloc (.cells #[.int .i64 xc, .int .i64 xd, .int .i64 ya, .int .i64 yb, .bool xh] 103))
      have HX2 := Lib.hid hX2
      have m1 : k + 1 ≤ maxLen := by unfold maxLen; omega
      have m2 : (k + 1) * 40 ≤ 140737488355328 := by omega
      have m3 : w3.heap.size ≤ (((wr.alloc (.cells #[.int .i64 xc, .int .i64 xd, .int .i64 ya, .int .i64 yb, .bool xh] 103)).alloc (.cells #[.int .i64 xc, .int .i64 xd, .int .i64 ya, .int .i64 yb, .bool xh] 103))).heap.size := Nat.le_trans hle.size sX
      clear hX1 hX2 SX
      go_wp2_with (at_builtin; refine wpList_append_sl rfl _ _ 29 rfl (w3.heap.size) 103 i0 _ 40 Tryz.underlying29 hi hz0 hz1 hz2 rfl (.slice A' k c') k ((L.take k).map (isoF hs L)) rfl OX (some ⟨wr.heap.size + 1, 0, none⟩) 1 1 [(⟨xc, xd, ya, yb, xh⟩ : Flt)] rfl SX2 m1 m2 m3 ?_; intro v1 w1 O1 hg1 hat; have cB1 := hg1.cell (a := ⟨w3.heap.size, 0, none⟩) cBX (fun e => HNE.out e.symm); have fB1 := (World.frozen?_of_block (a := ⟨w3.heap.size, 0, none⟩) (hg1.block (w3.heap.size) (Nat.lt_of_lt_of_le zB sX) (fun e => HNE.out e.symm))).trans fBX; obtain ⟨A2, q2, rfl⟩ := own_form O1)
      have hne2 : (Value.slice A2 (k + 1) q2).ownBlock ≠ some (w3.heap.size) := by
        rcases hat with h | h
        · rw [h]; exact HNE.out
        · rw [h, HX2.out]; intro e; injection e with e; omega
      have L1 := (hle.trans LX).grown hg1 (fun k hk => (HLTO.out k hk).1)
      have s1 := hg1.size
      rw [show (L.take k).map (isoF hs L) ++ [(⟨xc, xd, ya, yb, xh⟩ : Flt)] = (L.take (k + 1)).map (isoF hs L) from by rw [← HT.out, HSH.out]] at O1
      have O2 := O1.kept (grown_set w1 (w3.heap.size) 0 (.slice A2 (k + 1) q2)) (.inr hne2)
      go_roundw
      case rel => exact ⟨k + 1, A2, q2, by omega, by go_num, L1.setCell (by omega) _, by simpa [World.setCell] using Nat.lt_of_lt_of_le (Nat.lt_of_lt_of_le zB sX) s1, cell_set_same cB1, by simpa using fB1, O2, hne2⟩
      case measure => simp [intOf]; omega
    · have hkk : k = L.length := by omega
      subst hkk
      have hT : (L.take L.length).map (isoF hs L) = isoL hs L := by rw [List.take_length]; rfl
      rw [hT] at O
      have hII : isoL hs L = L.map (isoF hs L) := rfl
      have hokL : ∀ x ∈ isoL hs L, Enc.ok x := fun x hx => by obtain ⟨y, _, rfl⟩ := List.mem_map.1 hx; exact HISO.out y
      have hlI : (isoL hs L).length = L.length := by rw [hII, List.length_map]
      have HE := Lib.hid (res_end (r := w.heap.size + 1) L0.drew (by omega) y1 (show wr.drew.ownsRow w3.heap.size 103 (Enc.size Flt) (.slice A' L.length c') (isoL hs L).length ((isoL hs L).flatMap Enc.cells) from by rw [hlI]; exact O.drew) hokL)
      have SD := SL.le (Le.refl wr).drew
      have HC : Hid (∀ w, Sl w AL L.length cL L → Calls Tryz.prog 79 #[.slice AL L.length cL, .int .i64 f] w fun e w' => e = .returned (.int .i64 (idx L f 0)) ∧ w = w') := fun w h => iIndex_any _ _ _ L f w h (by omega)
      have c1w := c1
      have cB2 : ∀ u, (wr.setCell ⟨w.heap.size + 1, 0, none⟩ u).cell? ⟨w3.heap.size, 0, none⟩ = some (.slice A' L.length c') := fun u => (cell_set_other (.inl (by omega))).trans cB
      have HCB2 := Lib.hid cB2; clear cB2
      have hend : ∀ u, (wr.setCell ⟨w.heap.size + 1, 0, none⟩ u).cell? ⟨w.heap.size + 1, 0, none⟩ = some u := fun u => cell_set_same c1w
      replace cB := (show wr.drew.cell? _ = _ from cB)
      replace c1 := (show wr.drew.cell? _ = _ from c1)
      replace f1 := (show wr.drew.frozen? _ = _ from f1)
      clear hT hII hokL hlI O
      generalize hyf : idx L f 0 = yf at *
      have HYF := Lib.hid hyf; clear hyf
      go_wp2_with fail
      go_region_held3 (fun w' => w'.cell? ⟨w3.heap.size, 0, none⟩ = some (.slice A' L.length c'))
        (first | exact cB | exact HCB2.out _)
        (first
        | (go_at_call 79; refine (HC.out _ SD).mono ?_; rintro e wq ⟨rfl, rfl⟩))
      go_wp2
      exact bodyPost_ret (v := .tuple #[.agg #[.slice A' L.length c'], .int .i64 yf]) (by simp [results, Tryz.results47, go_sem, hend]) rfl ⟨_, by rw [HLL.out, HYF.out], by rw [HLL.out]; exact (HE.out (.slice A' L.length c')).1, (HE.out (.slice A' L.length c')).2⟩
end

section
theorem Gd.lnk {xs : List Cls} {hs : List Flt} (g : Gd xs hs) : Lnk hs :=
  ⟨fun i h => by have := g i h; omega, fun i h => by have := g i h; omega, fun i h => by have := g i h; omega⟩
/-- how a run ends: the number of the end, the value, the faults -/
def resE : Lft → Int
  | .ret _ => 1
  | .rai _ => 2
  | _ => 0
def resV (hs : List Flt) : Lft → Int
  | .ret v => v
  | .rai f => idx (reachL hs f) f 0
  | _ => 0
def resH (hs : List Flt) : Lft → List Flt
  | .rai f => isoL hs (reachL hs f)
  | _ => []
/-- a result in new memory of its own -/
def ResOut (w : World) (lg : List Int) (hs : List Flt) (en va : Int) (e : Ending) (w' : World) : Prop :=
  ∃ lv hv, e = .returned (.agg #[lv, .int .i64 en, .int .i64 va, hv]) ∧ Owd 3 w w' lv lg ∧ Owd 103 w w' hv hs ∧ Apart lv hv ∧ Le w w'
theorem hpn {w : World} {o : Obj} {b : Nat} (h : b = w.heap.size) : (w.alloc o).heap[b]? = some o := hp_new w o h
theorem frz_row {w : World} {b k : Nat} {cs : Array Value} {T : TypeId} (h : w.heap[b]? = some (.cells cs T)) : w.frozen? ⟨b, k, none⟩ = false := by simp [World.frozen?, h]
theorem frz_set (w : World) (b o g k : Nat) (u : Value) : (w.setCell ⟨b, o, none⟩ u).frozen? ⟨g, k, none⟩ = w.frozen? ⟨g, k, none⟩ := by first | exact World.frozen?_setCell .. | simp [World.frozen?, World.setCell]
theorem cells4 {w : World} {b : Nat} {a0 a1 a2 a3 : Value} {T : TypeId} (h : w.heap[b]? = some (.cells #[a0, a1, a2, a3] T)) : w.cell? ⟨b, 0, none⟩ = some a0 ∧ w.cell? ⟨b, 1, none⟩ = some a1 ∧ w.cell? ⟨b, 2, none⟩ = some a2 ∧ w.cell? ⟨b, 3, none⟩ = some a3 :=
  ⟨cell_of_row w b 0 _ T _ h, cell_of_row w b 1 _ T _ h, cell_of_row w b 2 _ T _ h, cell_of_row w b 3 _ T _ h⟩
theorem Owd.setO {α : Type} [Enc α] {T : TypeId} {w0 w : World} {v : Value} {xs : List α} {g o : Nat} {u : Value} (h : Owd T w0 w v xs) (hn : v.ownBlock ≠ some g) : Owd T w0 (w.setCell ⟨g, o, none⟩ u) v xs := ⟨h.row.kept (grown_set w g o u) (.inr hn), h.ok⟩
/-- what is stored into the four cells of a result lies there -/
theorem out4 {W : World} {g : Nat} {a b c d o0 o1 o2 o3 : Value} (h0 : W.cell? ⟨g, 0, none⟩ = some o0) (h1 : W.cell? ⟨g, 1, none⟩ = some o1) (h2 : W.cell? ⟨g, 2, none⟩ = some o2) (h3 : W.cell? ⟨g, 3, none⟩ = some o3) :
    ((((W.setCell ⟨g, 0, none⟩ a).setCell ⟨g, 1, none⟩ b).setCell ⟨g, 2, none⟩ c).setCell ⟨g, 3, none⟩ d).cell? ⟨g, 0, none⟩ = some a ∧ ((((W.setCell ⟨g, 0, none⟩ a).setCell ⟨g, 1, none⟩ b).setCell ⟨g, 2, none⟩ c).setCell ⟨g, 3, none⟩ d).cell? ⟨g, 1, none⟩ = some b ∧
    ((((W.setCell ⟨g, 0, none⟩ a).setCell ⟨g, 1, none⟩ b).setCell ⟨g, 2, none⟩ c).setCell ⟨g, 3, none⟩ d).cell? ⟨g, 2, none⟩ = some c ∧ ((((W.setCell ⟨g, 0, none⟩ a).setCell ⟨g, 1, none⟩ b).setCell ⟨g, 2, none⟩ c).setCell ⟨g, 3, none⟩ d).cell? ⟨g, 3, none⟩ = some d := by
  refine ⟨?_, ?_, ?_, ?_⟩
  · rw [cell_set_other (.inr (by decide)), cell_set_other (.inr (by decide)), cell_set_other (.inr (by decide))]; exact cell_set_same h0
  · rw [cell_set_other (.inr (by decide)), cell_set_other (.inr (by decide))]; exact cell_set_same ((cell_set_other (.inr (by decide))).trans h1)
  · rw [cell_set_other (.inr (by decide))]; exact cell_set_same ((cell_set_other (.inr (by decide))).trans ((cell_set_other (.inr (by decide))).trans h2))
  · exact cell_set_same ((cell_set_other (.inr (by decide))).trans ((cell_set_other (.inr (by decide))).trans ((cell_set_other (.inr (by decide))).trans h3)))
set_option maxHeartbeats 2000000 in
set_option maxRecDepth 100000 in
theorem result_any (R m c n cap : Nat) (B A : Option Addr) (xs : List Cls) (p : List Lin) (lv hv : Value) (l : Lft) (s : Rst) (gd : Gd xs s.2) (hf : ∀ f, l = .rai f → 0 ≤ f ∧ f < (s.2.length : Int)) (hsm : Sm s) (w : World) (H : Rn w R B m c xs A n cap p lv hv s.1 s.2) :
    Calls Tryz.prog 29 #[.pointer (some ⟨R, 0, none⟩), lfV l] w fun e w' => ∃ hv', e = .returned (.agg #[lv, .int .i64 (resE l), .int .i64 (resV s.2 l), hv']) ∧ Owd 103 w w' hv' (resH s.2 l) ∧ Le w w' := by
  have c2 := H.c2
  have c3 := H.c3
  have hz := H.z
  have q1 := ta_ret l
  have q2 := ta_rai l
  obtain ⟨AL, cL, rfl⟩ := own_form H.O
  obtain ⟨AH, cH, rfl⟩ := own_form H.H
  rcases l with _ | v | f | _ | _
  · simp only [isRet, retF, isRai, raiF] at q1 q2
    go_enter Tryz.func29, Tryz.ntmps29
    go_wp2
    obtain ⟨z0, z1, z2, z3⟩ := cells4 (((Le.new (w.alloc (.cells #[.slice AL s.1.length cL, .int .i64 0, .int .i64 0, .slice none 0 0] 33)) (.cells #[.slice AL s.1.length cL, .int .i64 0, .int .i64 0, .slice none 0 0] 33)).block w.heap.size (by simp)).trans (hpn (w := w) (o := .cells #[.slice AL s.1.length cL, .int .i64 0, .int .i64 0, .slice none 0 0] 33) rfl))
    exact bodyPost_ret (v := .agg #[.slice AL s.1.length cL, .int .i64 0, .int .i64 0, .slice none 0 0]) (by simp [results, Tryz.results29, go_sem, z0, z1, z2, z3]) rfl ⟨_, rfl, Owd.nil _ _ _, ((Le.refl w).alloc _).alloc _⟩
  · simp only [isRet, retF, isRai, raiF] at q1 q2
    go_enter Tryz.func29, Tryz.ntmps29
    go_wp2
    have L1 := Le.new (w.alloc (.cells #[.slice none 0 0, .int .i64 0, .int .i64 0, .slice none 0 0] 33)) (.cells #[.slice AL s.1.length cL, .int .i64 0, .int .i64 0, .slice none 0 0] 33)
    have L2 := Le.new ((w.alloc (.cells #[.slice none 0 0, .int .i64 0, .int .i64 0, .slice none 0 0] 33)).alloc (.cells #[.slice AL s.1.length cL, .int .i64 0, .int .i64 0, .slice none 0 0] 33)) (.cells #[.int .i64 v] 86)
    have R0 := ((L1.trans L2).drew.block w.heap.size (by simp)).trans (hpn (w := w) rfl)
    have R1 := (L2.drew.block (w.heap.size + 1) (by simp)).trans (hpn (w := w.alloc (.cells #[.slice none 0 0, .int .i64 0, .int .i64 0, .slice none 0 0] 33)) (by simp))
    have R2 : (((w.alloc (.cells #[.slice none 0 0, .int .i64 0, .int .i64 0, .slice none 0 0] 33)).alloc (.cells #[.slice AL s.1.length cL, .int .i64 0, .int .i64 0, .slice none 0 0] 33)).alloc (.cells #[.int .i64 v] 86)).drew.heap[w.heap.size + 1 + 1]? = _ := hpn (w := (w.alloc (.cells #[.slice none 0 0, .int .i64 0, .int .i64 0, .slice none 0 0] 33)).alloc (.cells #[.slice AL s.1.length cL, .int .i64 0, .int .i64 0, .slice none 0 0] 33)) (by simp)
    have LW := ((Le.new w (.cells #[.slice none 0 0, .int .i64 0, .int .i64 0, .slice none 0 0] 33)).trans (L1.trans L2)).drew
    have hzW : w.heap.size + 1 + 1 < (((w.alloc (.cells #[.slice none 0 0, .int .i64 0, .int .i64 0, .slice none 0 0] 33)).alloc (.cells #[.slice AL s.1.length cL, .int .i64 0, .int .i64 0, .slice none 0 0] 33)).alloc (.cells #[.int .i64 v] 86)).drew.heap.size := by show _ < (World.alloc _ _).heap.size; simp
    clear L1 L2
    refine wp_region_Z (fun w' => w'.cell? ⟨w.heap.size + 1 + 1, 0, none⟩ = some (.int .i64 v)) [] (by kernel_rfl) ?_
    generalize (((w.alloc (.cells #[.slice none 0 0, .int .i64 0, .int .i64 0, .slice none 0 0] 33)).alloc (.cells #[.slice AL s.1.length cL, .int .i64 0, .int .i64 0, .slice none 0 0] 33)).alloc (.cells #[.int .i64 v] 86)).drew = W at *
    obtain ⟨r0, r1, r2, r3⟩ := cells4 R0
    have fr := fun k => frz_row (k := k) R0
    obtain ⟨k0, k1, k2, k3⟩ := cells4 R1
    have fk := fun k => frz_row (k := k) R1
    have x6 : W.cell? ⟨w.heap.size + 1 + 1, 0, none⟩ = some (.int .i64 v) := cell_of_row W _ 0 _ _ _ R2
    clear R0 R1 R2
    refine wpAnyZ_take (i := 0) (v := ?_) rfl (by kernel_rfl) (fun _ _ _ h => h) (Or.inl ⟨by rfl, ?_⟩) (x6) ?_
    rotate_left 1
    · (intro w hSw; (try dsimp only at hSw); go_simp; try with_reducible rfl)
    try simp only [Act.put, List.setIfInBounds_toArray, List.set_cons_zero, List.set_cons_succ]
    refine wpAnyZ_take (i := 1) (v := ?_) rfl (by kernel_rfl) (fun _ _ _ h => h) (Or.inl ⟨by rfl, ?_⟩) (x6) ?_
    rotate_left 1
    · (intro w hSw; (try dsimp only at hSw); go_simp; try with_reducible rfl)
    try simp only [Act.put, List.setIfInBounds_toArray, List.set_cons_zero, List.set_cons_succ]
    refine wpAnyZ_take (i := 2) (v := ?_) rfl (by kernel_rfl) (fun _ _ _ h => h) (Or.inl ⟨by rfl, ?_⟩) (x6) ?_
    rotate_left 1
    · (intro w hSw; (try dsimp only at hSw); go_simp; try with_reducible rfl)
    try simp only [Act.put, List.setIfInBounds_toArray, List.set_cons_zero, List.set_cons_succ]
    refine wpAnyZ_one (i := 3) (by kernel_rfl) (ReadyZ.mk rfl (fun K hK => ?_))
    have f1 := fk 1
    go_simp
    have y6 : (W.setCell ⟨w.heap.size + 1, 1, none⟩ (.int .i64 1)).cell? ⟨w.heap.size + 1 + 1, 0, none⟩ = some (.int .i64 v) := (cell_set_other (.inl (by show w.heap.size + 1 ≠ w.heap.size + 1 + 1; omega))).trans x6
    refine hK.out _ _ (fun _ => y6) ?_
    clear hK K
    try simp only [Act.put, List.setIfInBounds_toArray, List.set_cons_zero, List.set_cons_succ]
    refine wpAnyZ_take (i := 4) (v := ?_) rfl (by kernel_rfl) (fun _ _ _ h => h) (Or.inl ⟨by rfl, ?_⟩) (y6) ?_
    rotate_left 1
    · (intro w hSw; (try dsimp only at hSw); go_simp; try with_reducible rfl)
    try simp only [Act.put, List.setIfInBounds_toArray, List.set_cons_zero, List.set_cons_succ]
    refine wpAnyZ_one (i := 5) (by kernel_rfl) (ReadyZ.mk rfl (fun K hK => ?_))
    have f2 : (W.setCell ⟨w.heap.size + 1, 1, none⟩ (.int .i64 1)).frozen? ⟨w.heap.size + 1, 2, none⟩ = false := (fr_set _ _ _ _ _).trans (fk 2)
    have k2b : (W.setCell ⟨w.heap.size + 1, 1, none⟩ (.int .i64 1)).cell? ⟨w.heap.size + 1, 2, none⟩ = some (.int .i64 0) := (cell_set_other (.inr (by decide))).trans k2
    go_simp
    have y7 : ((W.setCell ⟨w.heap.size + 1, 1, none⟩ (.int .i64 1)).setCell ⟨w.heap.size + 1, 2, none⟩ (.int .i64 v)).cell? ⟨w.heap.size + 1 + 1, 0, none⟩ = some (.int .i64 v) := (cell_set_other (.inl (by show w.heap.size + 1 ≠ w.heap.size + 1 + 1; omega))).trans y6
    refine hK.out _ _ (fun _ => y7) ?_
    clear hK K
    try simp only [Act.put, List.setIfInBounds_toArray, List.set_cons_zero, List.set_cons_succ]
    refine wpAnyZ_done (by kernel_rfl) ?_ _
    have k0b : ((W.setCell ⟨w.heap.size + 1, 1, none⟩ (.int .i64 1)).setCell ⟨w.heap.size + 1, 2, none⟩ (.int .i64 v)).cell? ⟨w.heap.size + 1, 0, none⟩ = some (.slice AL s.1.length cL) := (cell_set_other (.inr (by decide))).trans ((cell_set_other (.inr (by decide))).trans k0)
    have k1b : ((W.setCell ⟨w.heap.size + 1, 1, none⟩ (.int .i64 1)).setCell ⟨w.heap.size + 1, 2, none⟩ (.int .i64 v)).cell? ⟨w.heap.size + 1, 1, none⟩ = some (.int .i64 1) := (cell_set_other (.inr (by decide))).trans (cell_set_same k1)
    have k2c : ((W.setCell ⟨w.heap.size + 1, 1, none⟩ (.int .i64 1)).setCell ⟨w.heap.size + 1, 2, none⟩ (.int .i64 v)).cell? ⟨w.heap.size + 1, 2, none⟩ = some (.int .i64 v) := cell_set_same k2b
    have k3b : ((W.setCell ⟨w.heap.size + 1, 1, none⟩ (.int .i64 1)).setCell ⟨w.heap.size + 1, 2, none⟩ (.int .i64 v)).cell? ⟨w.heap.size + 1, 3, none⟩ = some (.slice none 0 0) := (cell_set_other (.inr (by decide))).trans ((cell_set_other (.inr (by decide))).trans k3)
    have hne : w.heap.size + 1 ≠ w.heap.size := by omega
    have s0 : ((W.setCell ⟨w.heap.size + 1, 1, none⟩ (.int .i64 1)).setCell ⟨w.heap.size + 1, 2, none⟩ (.int .i64 v)).cell? ⟨w.heap.size, 0, none⟩ = some (.slice none 0 0) := (cell_set_other (.inl hne)).trans ((cell_set_other (.inl hne)).trans r0)
    have s1 : ((W.setCell ⟨w.heap.size + 1, 1, none⟩ (.int .i64 1)).setCell ⟨w.heap.size + 1, 2, none⟩ (.int .i64 v)).cell? ⟨w.heap.size, 1, none⟩ = some (.int .i64 0) := (cell_set_other (.inl hne)).trans ((cell_set_other (.inl hne)).trans r1)
    have s2 : ((W.setCell ⟨w.heap.size + 1, 1, none⟩ (.int .i64 1)).setCell ⟨w.heap.size + 1, 2, none⟩ (.int .i64 v)).cell? ⟨w.heap.size, 2, none⟩ = some (.int .i64 0) := (cell_set_other (.inl hne)).trans ((cell_set_other (.inl hne)).trans r2)
    have s3 : ((W.setCell ⟨w.heap.size + 1, 1, none⟩ (.int .i64 1)).setCell ⟨w.heap.size + 1, 2, none⟩ (.int .i64 v)).cell? ⟨w.heap.size, 3, none⟩ = some (.slice none 0 0) := (cell_set_other (.inl hne)).trans ((cell_set_other (.inl hne)).trans r3)
    have fs : ∀ k, ((W.setCell ⟨w.heap.size + 1, 1, none⟩ (.int .i64 1)).setCell ⟨w.heap.size + 1, 2, none⟩ (.int .i64 v)).frozen? ⟨w.heap.size, k, none⟩ = false := fun k => (frz_set _ _ _ _ _ _).trans ((frz_set _ _ _ _ _ _).trans (fr k))
    have L5 := (LW.setCell (b := w.heap.size + 1) (o := 1) (by omega) (.int .i64 1)).setCell (b := w.heap.size + 1) (o := 2) (by omega) (.int .i64 v)
    generalize (W.setCell ⟨w.heap.size + 1, 1, none⟩ (.int .i64 1)).setCell ⟨w.heap.size + 1, 2, none⟩ (.int .i64 v) = W5 at *
    have f0 := fs 0
    have f1 := fs 1
    have f2 := fs 2
    have f3 := fs 3
    have ho := out4 (a := .slice AL s.1.length cL) (b := .int .i64 1) (c := .int .i64 v) (d := .slice none 0 0) s0 s1 s2 s3
    clear y6 y7 x6 k0 k1 k2 k3 k2b r0 r1 r2 r3
    go_wp2
    obtain ⟨z0, z1, z2, z3⟩ := ho
    exact bodyPost_ret (v := .agg #[.slice AL s.1.length cL, .int .i64 1, .int .i64 v, .slice none 0 0]) (by simp [results, Tryz.results29, go_sem, z0, z1, z2, z3]) rfl ⟨_, rfl, Owd.nil _ _ _, (((L5.setCell (by omega) _).setCell (by omega) _).setCell (by omega) _).setCell (by omega) _⟩
  · simp only [isRet, retF, isRai, raiF] at q1 q2
    go_enter Tryz.func29, Tryz.ntmps29
    go_wp2
    have L1 := Le.new (w.alloc (.cells #[.slice none 0 0, .int .i64 0, .int .i64 0, .slice none 0 0] 33)) (.cells #[.slice AL s.1.length cL, .int .i64 2, .int .i64 0, .slice none 0 0] 33)
    have L2 := Le.new ((w.alloc (.cells #[.slice none 0 0, .int .i64 0, .int .i64 0, .slice none 0 0] 33)).alloc (.cells #[.slice AL s.1.length cL, .int .i64 2, .int .i64 0, .slice none 0 0] 33)) (.cells #[.int .i64 f] 88)
    have R0 := ((L1.trans L2).drew.block w.heap.size (by simp)).trans (hpn (w := w) rfl)
    have R1 := (L2.drew.block (w.heap.size + 1) (by simp)).trans (hpn (w := w.alloc (.cells #[.slice none 0 0, .int .i64 0, .int .i64 0, .slice none 0 0] 33)) (by simp))
    have R2 : (((w.alloc (.cells #[.slice none 0 0, .int .i64 0, .int .i64 0, .slice none 0 0] 33)).alloc (.cells #[.slice AL s.1.length cL, .int .i64 2, .int .i64 0, .slice none 0 0] 33)).alloc (.cells #[.int .i64 f] 88)).drew.heap[w.heap.size + 1 + 1]? = _ := hpn (w := (w.alloc (.cells #[.slice none 0 0, .int .i64 0, .int .i64 0, .slice none 0 0] 33)).alloc (.cells #[.slice AL s.1.length cL, .int .i64 2, .int .i64 0, .slice none 0 0] 33)) (by simp)
    have LW := ((Le.new w (.cells #[.slice none 0 0, .int .i64 0, .int .i64 0, .slice none 0 0] 33)).trans (L1.trans L2)).drew
    have hzW : w.heap.size + 1 + 1 < (((w.alloc (.cells #[.slice none 0 0, .int .i64 0, .int .i64 0, .slice none 0 0] 33)).alloc (.cells #[.slice AL s.1.length cL, .int .i64 2, .int .i64 0, .slice none 0 0] 33)).alloc (.cells #[.int .i64 f] 88)).drew.heap.size := by show _ < (World.alloc _ _).heap.size; simp
    clear L1 L2
    refine wp_region_noPanic ?_
    refine wp_region_Z (fun w' => w'.cell? ⟨R, 3, none⟩ = some (.slice AH s.2.length cH) ∧ w'.cell? ⟨w.heap.size + 1 + 1, 0, none⟩ = some (.int .i64 f)) [] (by kernel_rfl) ?_
    generalize (((w.alloc (.cells #[.slice none 0 0, .int .i64 0, .int .i64 0, .slice none 0 0] 33)).alloc (.cells #[.slice AL s.1.length cL, .int .i64 2, .int .i64 0, .slice none 0 0] 33)).alloc (.cells #[.int .i64 f] 88)).drew = W at *
    obtain ⟨r0, r1, r2, r3⟩ := cells4 R0
    have fr := fun k => frz_row (k := k) R0
    obtain ⟨k0, k1, k2, k3⟩ := cells4 R1
    have fk := fun k => frz_row (k := k) R1
    have x6 : W.cell? ⟨w.heap.size + 1 + 1, 0, none⟩ = some (.int .i64 f) := cell_of_row W _ 0 _ _ _ R2
    clear R0 R1 R2
    have hf2 := hf f rfl
    have x3 := (LW.cell hz).trans c3
    have SW := (Sl.of_own H.H rfl (by decide) H.okh).le LW
    have GL := Lib.hid gd.lnk
    have hsm2 := hsm.2
    clear H
    refine wpAnyZ_take (i := 0) (v := ?_) rfl (by kernel_rfl) (fun _ _ _ h => h) (Or.inl ⟨by rfl, ?_⟩) (⟨x3, x6⟩) ?_
    rotate_left 1
    · (intro w hSw; (try dsimp only at hSw); go_simp; try with_reducible rfl)
    try simp only [Act.put, List.setIfInBounds_toArray, List.set_cons_zero, List.set_cons_succ]
    refine wpAnyZ_take (i := 1) (v := ?_) rfl (by kernel_rfl) (fun _ _ _ h => h) (Or.inl ⟨by rfl, ?_⟩) (⟨x3, x6⟩) ?_
    rotate_left 1
    · (intro w hSw; (try dsimp only at hSw); go_simp; try with_reducible rfl)
    try simp only [Act.put, List.setIfInBounds_toArray, List.set_cons_zero, List.set_cons_succ]
    refine wpAnyZ_take (i := 2) (v := ?_) rfl (by kernel_rfl) (fun _ _ _ h => h) (Or.inl ⟨by rfl, ?_⟩) (⟨x3, x6⟩) ?_
    rotate_left 1
    · (intro w hSw; (try dsimp only at hSw); go_simp; try with_reducible rfl)
    try simp only [Act.put, List.setIfInBounds_toArray, List.set_cons_zero, List.set_cons_succ]
    refine wpAnyZ_take (i := 3) (v := ?_) rfl (by kernel_rfl) (fun _ _ _ h => h) (Or.inl ⟨by rfl, ?_⟩) (⟨x3, x6⟩) ?_
    rotate_left 1
    · (intro w hSw; (try dsimp only at hSw); go_simp; try with_reducible rfl)
    try simp only [Act.put, List.setIfInBounds_toArray, List.set_cons_zero, List.set_cons_succ]
    refine wpAnyZ_take (i := 4) (v := ?_) rfl (by kernel_rfl) (fun _ _ _ h => h) (Or.inl ⟨by rfl, ?_⟩) (⟨x3, x6⟩) ?_
    rotate_left 1
    · (intro w hSw; (try dsimp only at hSw); go_simp; try with_reducible rfl)
    try simp only [Act.put, List.setIfInBounds_toArray, List.set_cons_zero, List.set_cons_succ]
    refine wpAnyZ_take (i := 5) (v := ?_) rfl (by kernel_rfl) (fun _ _ _ h => h) (Or.inl ⟨by rfl, ?_⟩) (⟨x3, x6⟩) ?_
    rotate_left 1
    · (intro w hSw; (try dsimp only at hSw); go_simp; try with_reducible rfl)
    try simp only [Act.put, List.setIfInBounds_toArray, List.set_cons_zero, List.set_cons_succ]
    refine wpAnyZ_one (i := 6) (by kernel_rfl) (ReadyZ.mk rfl (fun K hK => ?_))
    go_simp
    go_at_call 47
    refine (iIsolate_any AH s.2.length cH s.2 f W SW GL.out hf2.1 hf2.2 (by omega)).mono ?_
    rintro e W2 ⟨v2, rfl, D2, hl2⟩
    replace x3 := (hl2.cell (Nat.lt_of_lt_of_le hz LW.size)).trans x3
    replace x6 := (hl2.cell (by omega)).trans x6
    have hzW2 := Nat.lt_of_lt_of_le hzW hl2.size
    replace r0 := (hl2.cell (by omega)).trans r0
    replace r1 := (hl2.cell (by omega)).trans r1
    replace r2 := (hl2.cell (by omega)).trans r2
    replace r3 := (hl2.cell (by omega)).trans r3
    replace k0 := (hl2.cell (by omega)).trans k0
    replace k1 := (hl2.cell (by omega)).trans k1
    replace k2 := (hl2.cell (by omega)).trans k2
    replace k3 := (hl2.cell (by omega)).trans k3
    replace fr : ∀ k, W2.frozen? ⟨w.heap.size, k, none⟩ = false := fun k => (hl2.frozen (by omega)).trans (fr k)
    replace fk : ∀ k, W2.frozen? ⟨w.heap.size + 1, k, none⟩ = false := fun k => (hl2.frozen (by omega)).trans (fk k)
    have LW2 := LW.trans hl2
    have HD : Hid (∀ b, b < W.heap.size → v2.ownBlock ≠ some b) := fun b hb e => by have := (D2.row.lt _ e).1; omega
    obtain ⟨A2, q2', rfl⟩ := own_form D2.row
    have HD2 := Lib.hid (D2.mono LW)
    generalize (isoL s.2 (reachL s.2 f)).length = ln at *
    clear D2 hl2 SW
    obtain ⟨ix, hix⟩ : ∃ z, idx (reachL s.2 f) f 0 = z := ⟨_, rfl⟩
    have HIX := Lib.hid hix
    rw [hix]
    clear hix
    refine hK.out _ _ (fun _ => ⟨x3, x6⟩) ?_
    clear hK K
    try simp only [Act.put, List.setIfInBounds_toArray, List.set_cons_zero, List.set_cons_succ]
    refine wpAnyZ_take (i := 7) (v := ?_) rfl (by kernel_rfl) (fun _ _ _ h => h) (Or.inl ⟨by rfl, ?_⟩) (⟨x3, x6⟩) ?_
    rotate_left 1
    · (intro w hSw; (try dsimp only at hSw); go_simp; try with_reducible rfl)
    try simp only [Act.put, List.setIfInBounds_toArray, List.set_cons_zero, List.set_cons_succ]
    refine wpAnyZ_take (i := 8) (v := ?_) rfl (by kernel_rfl) (fun _ _ _ h => h) (Or.inl ⟨by rfl, ?_⟩) (⟨x3, x6⟩) ?_
    rotate_left 1
    · (intro w hSw; (try dsimp only at hSw); go_simp; try with_reducible rfl)
    try simp only [Act.put, List.setIfInBounds_toArray, List.set_cons_zero, List.set_cons_succ]
    refine wpAnyZ_take (i := 9) (v := ?_) rfl (by kernel_rfl) (fun _ _ _ h => h) (Or.inl ⟨by rfl, ?_⟩) (⟨x3, x6⟩) ?_
    rotate_left 1
    · (intro w hSw; (try dsimp only at hSw); go_simp; try with_reducible rfl)
    try simp only [Act.put, List.setIfInBounds_toArray, List.set_cons_zero, List.set_cons_succ]
    refine wpAnyZ_take (i := 10) (v := ?_) rfl (by kernel_rfl) (fun _ _ _ h => h) (Or.inl ⟨by rfl, ?_⟩) (⟨x3, x6⟩) ?_
    rotate_left 1
    · (intro w hSw; (try dsimp only at hSw); go_simp; try with_reducible rfl)
    try simp only [Act.put, List.setIfInBounds_toArray, List.set_cons_zero, List.set_cons_succ]
    have hne1 : w.heap.size + 1 ≠ R := by omega
    have hne2 : w.heap.size + 1 ≠ w.heap.size + 1 + 1 := by omega
    have f3 := fk 3
    refine wpAnyZ_one (i := 11) (by kernel_rfl) (ReadyZ.mk rfl (fun K hK => ?_))
    go_simp
    have x3b : (W2.setCell ⟨w.heap.size + 1, 3, none⟩ (.slice A2 ln q2')).cell? ⟨R, 3, none⟩ = some (.slice AH s.2.length cH) := (cell_set_other (.inl hne1)).trans x3
    have x6b : (W2.setCell ⟨w.heap.size + 1, 3, none⟩ (.slice A2 ln q2')).cell? ⟨w.heap.size + 1 + 1, 0, none⟩ = some (.int .i64 f) := (cell_set_other (.inl hne2)).trans x6
    refine hK.out _ _ (fun _ => ⟨x3b, x6b⟩) ?_
    clear hK K
    try simp only [Act.put, List.setIfInBounds_toArray, List.set_cons_zero, List.set_cons_succ]
    refine wpAnyZ_take (i := 12) (v := ?_) rfl (by kernel_rfl) (fun _ _ _ h => h) (Or.inl ⟨by rfl, ?_⟩) (⟨x3b, x6b⟩) ?_
    rotate_left 1
    · (intro w hSw; (try dsimp only at hSw); go_simp; try with_reducible rfl)
    try simp only [Act.put, List.setIfInBounds_toArray, List.set_cons_zero, List.set_cons_succ]
    have f2 : (W2.setCell ⟨w.heap.size + 1, 3, none⟩ (.slice A2 ln q2')).frozen? ⟨w.heap.size + 1, 2, none⟩ = false := (frz_set _ _ _ _ _ _).trans (fk 2)
    have k2b : (W2.setCell ⟨w.heap.size + 1, 3, none⟩ (.slice A2 ln q2')).cell? ⟨w.heap.size + 1, 2, none⟩ = some (.int .i64 0) := (cell_set_other (.inr (by decide))).trans k2
    refine wpAnyZ_one (i := 13) (by kernel_rfl) (ReadyZ.mk rfl (fun K hK => ?_))
    go_simp
    have x3c : ((W2.setCell ⟨w.heap.size + 1, 3, none⟩ (.slice A2 ln q2')).setCell ⟨w.heap.size + 1, 2, none⟩ (.int .i64 ix)).cell? ⟨R, 3, none⟩ = some (.slice AH s.2.length cH) := (cell_set_other (.inl hne1)).trans x3b
    have x6c : ((W2.setCell ⟨w.heap.size + 1, 3, none⟩ (.slice A2 ln q2')).setCell ⟨w.heap.size + 1, 2, none⟩ (.int .i64 ix)).cell? ⟨w.heap.size + 1 + 1, 0, none⟩ = some (.int .i64 f) := (cell_set_other (.inl hne2)).trans x6b
    refine hK.out _ _ (fun _ => ⟨x3c, x6c⟩) ?_
    clear hK K
    try simp only [Act.put, List.setIfInBounds_toArray, List.set_cons_zero, List.set_cons_succ]
    refine wpAnyZ_done (by kernel_rfl) ?_ _
    refine NoPanic.normal ?_
    have k0b : ((W2.setCell ⟨w.heap.size + 1, 3, none⟩ (.slice A2 ln q2')).setCell ⟨w.heap.size + 1, 2, none⟩ (.int .i64 ix)).cell? ⟨w.heap.size + 1, 0, none⟩ = some (.slice AL s.1.length cL) := (cell_set_other (.inr (by decide))).trans ((cell_set_other (.inr (by decide))).trans k0)
    have k1b : ((W2.setCell ⟨w.heap.size + 1, 3, none⟩ (.slice A2 ln q2')).setCell ⟨w.heap.size + 1, 2, none⟩ (.int .i64 ix)).cell? ⟨w.heap.size + 1, 1, none⟩ = some (.int .i64 2) := (cell_set_other (.inr (by decide))).trans ((cell_set_other (.inr (by decide))).trans k1)
    have k2c : ((W2.setCell ⟨w.heap.size + 1, 3, none⟩ (.slice A2 ln q2')).setCell ⟨w.heap.size + 1, 2, none⟩ (.int .i64 ix)).cell? ⟨w.heap.size + 1, 2, none⟩ = some (.int .i64 ix) := cell_set_same k2b
    have k3b : ((W2.setCell ⟨w.heap.size + 1, 3, none⟩ (.slice A2 ln q2')).setCell ⟨w.heap.size + 1, 2, none⟩ (.int .i64 ix)).cell? ⟨w.heap.size + 1, 3, none⟩ = some (.slice A2 ln q2') := (cell_set_other (.inr (by decide))).trans (cell_set_same k3)
    have hne : w.heap.size + 1 ≠ w.heap.size := by omega
    have s0 : ((W2.setCell ⟨w.heap.size + 1, 3, none⟩ (.slice A2 ln q2')).setCell ⟨w.heap.size + 1, 2, none⟩ (.int .i64 ix)).cell? ⟨w.heap.size, 0, none⟩ = some (.slice none 0 0) := (cell_set_other (.inl hne)).trans ((cell_set_other (.inl hne)).trans r0)
    have s1 : ((W2.setCell ⟨w.heap.size + 1, 3, none⟩ (.slice A2 ln q2')).setCell ⟨w.heap.size + 1, 2, none⟩ (.int .i64 ix)).cell? ⟨w.heap.size, 1, none⟩ = some (.int .i64 0) := (cell_set_other (.inl hne)).trans ((cell_set_other (.inl hne)).trans r1)
    have s2 : ((W2.setCell ⟨w.heap.size + 1, 3, none⟩ (.slice A2 ln q2')).setCell ⟨w.heap.size + 1, 2, none⟩ (.int .i64 ix)).cell? ⟨w.heap.size, 2, none⟩ = some (.int .i64 0) := (cell_set_other (.inl hne)).trans ((cell_set_other (.inl hne)).trans r2)
    have s3 : ((W2.setCell ⟨w.heap.size + 1, 3, none⟩ (.slice A2 ln q2')).setCell ⟨w.heap.size + 1, 2, none⟩ (.int .i64 ix)).cell? ⟨w.heap.size, 3, none⟩ = some (.slice none 0 0) := (cell_set_other (.inl hne)).trans ((cell_set_other (.inl hne)).trans r3)
    have fs : ∀ k, ((W2.setCell ⟨w.heap.size + 1, 3, none⟩ (.slice A2 ln q2')).setCell ⟨w.heap.size + 1, 2, none⟩ (.int .i64 ix)).frozen? ⟨w.heap.size, k, none⟩ = false := fun k => (frz_set _ _ _ _ _ _).trans ((frz_set _ _ _ _ _ _).trans (fr k))
    have L5 := (LW2.setCell (b := w.heap.size + 1) (o := 3) (by omega) (.slice A2 ln q2')).setCell (b := w.heap.size + 1) (o := 2) (by omega) (.int .i64 ix)
    have HR9 : Hid (∀ a b c d, Owd 103 w ((((((W2.setCell ⟨w.heap.size + 1, 3, none⟩ (.slice A2 ln q2')).setCell ⟨w.heap.size + 1, 2, none⟩ (.int .i64 ix)).setCell ⟨w.heap.size, 0, none⟩ a).setCell ⟨w.heap.size, 1, none⟩ b).setCell ⟨w.heap.size, 2, none⟩ c).setCell ⟨w.heap.size, 3, none⟩ d) (.slice A2 ln q2') (isoL s.2 (reachL s.2 f))) := fun a b c d => by
      have nb0 := HD.out w.heap.size (by omega)
      have nb1 := HD.out (w.heap.size + 1) (by omega)
      exact (((((HD2.out.setO nb1).setO nb1).setO nb0).setO nb0).setO nb0).setO nb0
    generalize ((W2.setCell ⟨w.heap.size + 1, 3, none⟩ (.slice A2 ln q2')).setCell ⟨w.heap.size + 1, 2, none⟩ (.int .i64 ix)) = W5 at *
    have f0 := fs 0
    have f1 := fs 1
    have f2 := fs 2
    have f3 := fs 3
    have ho := out4 (a := .slice AL s.1.length cL) (b := .int .i64 2) (c := .int .i64 ix) (d := .slice A2 ln q2') s0 s1 s2 s3
    clear x3 x6 x3b x6b x3c x6c k0 k1 k2 k3 k2b r0 r1 r2 r3 HD HD2
    go_wp2
    obtain ⟨z0, z1, z2, z3⟩ := ho
    exact bodyPost_ret (v := .agg #[.slice AL s.1.length cL, .int .i64 2, .int .i64 ix, .slice A2 ln q2']) (by simp [results, Tryz.results29, go_sem, z0, z1, z2, z3]) rfl ⟨_, ret_val (by rw [← HIX.out]; rfl), HR9.out _ _ _ _, (((L5.setCell (by omega) _).setCell (by omega) _).setCell (by omega) _).setCell (by omega) _⟩
  · simp only [isRet, retF, isRai, raiF] at q1 q2
    go_enter Tryz.func29, Tryz.ntmps29
    go_wp2
    obtain ⟨z0, z1, z2, z3⟩ := cells4 (((Le.new (w.alloc (.cells #[.slice AL s.1.length cL, .int .i64 0, .int .i64 0, .slice none 0 0] 33)) (.cells #[.slice AL s.1.length cL, .int .i64 0, .int .i64 0, .slice none 0 0] 33)).block w.heap.size (by simp)).trans (hpn (w := w) (o := .cells #[.slice AL s.1.length cL, .int .i64 0, .int .i64 0, .slice none 0 0] 33) rfl))
    exact bodyPost_ret (v := .agg #[.slice AL s.1.length cL, .int .i64 0, .int .i64 0, .slice none 0 0]) (by simp [results, Tryz.results29, go_sem, z0, z1, z2, z3]) rfl ⟨_, rfl, Owd.nil _ _ _, ((Le.refl w).alloc _).alloc _⟩
  · simp only [isRet, retF, isRai, raiF] at q1 q2
    go_enter Tryz.func29, Tryz.ntmps29
    go_wp2
    obtain ⟨z0, z1, z2, z3⟩ := cells4 (((Le.new (w.alloc (.cells #[.slice AL s.1.length cL, .int .i64 0, .int .i64 0, .slice none 0 0] 33)) (.cells #[.slice AL s.1.length cL, .int .i64 0, .int .i64 0, .slice none 0 0] 33)).block w.heap.size (by simp)).trans (hpn (w := w) (o := .cells #[.slice AL s.1.length cL, .int .i64 0, .int .i64 0, .slice none 0 0] 33) rfl))
    exact bodyPost_ret (v := .agg #[.slice AL s.1.length cL, .int .i64 0, .int .i64 0, .slice none 0 0]) (by simp [results, Tryz.results29, go_sem, z0, z1, z2, z3]) rfl ⟨_, rfl, Owd.nil _ _ _, ((Le.refl w).alloc _).alloc _⟩
end

section
theorem Kp.le_new {R : Nat} {lv hv lv' hv' : Value} {w W w' : World} (hl : Le w W) (h : Kp R lv hv lv' hv' W w') (hR : w.heap.size ≤ R) (h1 : lv.ownBlock = none) (h2 : hv.ownBlock = none) : Le w w' :=
  ⟨h.os.trans hl.os, h.tape.trans hl.tape, h.output.trans hl.output, Nat.le_trans hl.size h.size, fun b hb => (h.blk b (Nat.lt_of_lt_of_le hb hl.size) (by omega) (by rw [h1]; intro e; cases e) (by rw [h2]; intro e; cases e)).trans (hl.block b hb)⟩
theorem ret4 {a b d e : Value} {x y z u : Int} (h1 : a = b) (h2 : x = y) (h3 : z = u) (h4 : d = e) : Ending.returned (.agg #[a, .int .i64 x, .int .i64 z, d]) = .returned (.agg #[b, .int .i64 y, .int .i64 u, e]) := by rw [h1, h2, h3, h4]
/-- what RunProgram says, of a run -/
def rgL (b : Bool) (r : Lft × Rst) : List Int := cond b r.2.1 []
def rgH (b : Bool) (r : Lft × Rst) : List Flt := cond b (resH r.2.2 r.1) []
def rgE (b : Bool) (r : Lft × Rst) : Int := cond b (resE r.1) 0
def rgV (b : Bool) (r : Lft × Rst) : Int := cond b (resV r.2.2 r.1) 0
set_option maxHeartbeats 2000000 in
set_option maxRecDepth 100000 in
theorem iRunProgram_any (B A : Option Addr) (m c n cap : Nat) (xs : List Cls) (p : List Lin) (hm : m ≤ 1048576) (hS : vp xs p = true → Sm (runI xs p).2) (w : World) (hT : Sl w B m c xs) (hR : Sl w A n cap p) :
    Calls Tryz.prog 10 #[.agg #[.slice B m c], .slice A n cap] w (ResOut w (rgL (vp xs p) (runI xs p)) (rgH (vp xs p) (runI xs p)) (rgE (vp xs p) (runI xs p)) (rgV (vp xs p) (runI xs p))) := by
  have HG : Hid (vp xs p = true → GoodP xs p) := goodP_of
  have HS := Lib.hid hS
  clear hS
  obtain rfl := hR.len
  have LB := (Le.new w (.cells #[.slice B m c] 37)).trans (Le.new (w.alloc (.cells #[.slice B m c] 37)) (.cells #[.slice none 0 0, .int .i64 0, .int .i64 0, .slice none 0 0] 33))
  have R0 := ((Le.new (w.alloc (.cells #[.slice B m c] 37)) (.cells #[.slice none 0 0, .int .i64 0, .int .i64 0, .slice none 0 0] 33)).block w.heap.size (by simp)).trans (hpn (w := w) (o := .cells #[.slice B m c] 37) rfl)
  have R1 := hpn (w := w.alloc (.cells #[.slice B m c] 37)) (o := .cells #[.slice none 0 0, .int .i64 0, .int .i64 0, .slice none 0 0] 33) (b := w.heap.size + 1) (by simp)
  have hzW : w.heap.size + 1 < ((w.alloc (.cells #[.slice B m c] 37)).alloc (.cells #[.slice none 0 0, .int .i64 0, .int .i64 0, .slice none 0 0] 33)).heap.size := by simp
  have T1 := hT.le LB
  have S1 := hR.le LB
  have HBT : Hid (0 < m → ∀ a, B = some a → a.block < w.heap.size) := fun hn a e => by obtain ⟨b, off, e2, hb, _⟩ := hT.at_ hn; rw [e2] at e; injection e with e; rw [← e]; exact hb
  have HBA : Hid (0 < p.length → ∀ a, A = some a → a.block < w.heap.size) := fun hn a e => by obtain ⟨b, off, e2, hb, _⟩ := hR.at_ hn; rw [e2] at e; injection e with e; rw [← e]; exact hb
  unfold ResOut
  go_enter Tryz.func10, Tryz.ntmps10
  have t0 : ((w.alloc (.cells #[.slice B m c] 37)).alloc (.cells #[.slice none 0 0, .int .i64 0, .int .i64 0, .slice none 0 0] 33)).cell? ⟨w.heap.size, 0, none⟩ = some (.slice B m c) := cell_of_row _ w.heap.size 0 _ _ _ R0
  go_wp2_with fail
  generalize (w.alloc (.cells #[.slice B m c] 37)).alloc (.cells #[.slice none 0 0, .int .i64 0, .int .i64 0, .slice none 0 0] 33) = W at *
  refine (pValidProgram_any B A m c p.length cap xs p hm W T1 S1).mono ?_
  rintro e w2 ⟨rfl, hle⟩
  have L2 := LB.trans hle
  replace t0 := (hle.cell (by omega)).trans t0
  obtain ⟨r0, r1, r2, r3⟩ := cells4 ((hle.block _ hzW).trans R1)
  have fr := fun k => frz_row (k := k) ((hle.block _ hzW).trans R1)
  have hzW2 := Nat.lt_of_lt_of_le hzW hle.size
  have T2 := T1.le hle
  have S2 := S1.le hle
  clear T1 S1 R0 R1 hT hR hle LB
  cases hvt : vp xs p
  · have HZ : Hid (rgL (vp xs p) (runI xs p) = [] ∧ rgH (vp xs p) (runI xs p) = [] ∧ rgE (vp xs p) (runI xs p) = 0 ∧ rgV (vp xs p) (runI xs p) = 0) := by show _ ∧ _ ∧ _ ∧ _; rw [hvt]; exact ⟨rfl, rfl, rfl, rfl⟩
    clear hvt
    have f0 := fr 0
    have f1 := fr 1
    have f2 := fr 2
    have f3 := fr 3
    have ho := out4 (a := .slice none 0 0) (b := .int .i64 0) (c := .int .i64 0) (d := .slice none 0 0) r0 r1 r2 r3
    go_wp2
    obtain ⟨z0, z1, z2, z3⟩ := ho
    exact bodyPost_ret (v := .agg #[.slice none 0 0, .int .i64 0, .int .i64 0, .slice none 0 0]) (by simp [results, Tryz.results10, go_sem, z0, z1, z2, z3]) rfl ⟨_, _, ret4 rfl HZ.out.2.2.1.symm HZ.out.2.2.2.symm rfl, by rw [HZ.out.1]; exact Owd.nil _ _ _, by rw [HZ.out.2.1]; exact Owd.nil _ _ _, (show Apart (.slice none 0 0) (.slice none 0 0) from .inl rfl), (((L2.setCell (by omega) _).setCell (by omega) _).setCell (by omega) _).setCell (by omega) _⟩
  · have g := HG.out hvt
    have hs := HS.out hvt
    have hp := g.len
    have LR := Le.new w2 (.cells #[.slice B m c, .slice A p.length cap, .slice none 0 0, .slice none 0 0] 60)
    have RR := hpn (w := w2) (o := .cells #[.slice B m c, .slice A p.length cap, .slice none 0 0, .slice none 0 0] 60) (b := w2.heap.size) rfl
    obtain ⟨u0, u1, u2, u3⟩ := cells4 RR
    have hs2 := L2.size
    have RN : Rn (w2.alloc (.cells #[.slice B m c, .slice A p.length cap, .slice none 0 0, .slice none 0 0] 60)) w2.heap.size B m c xs A p.length cap p (.slice none 0 0) (.slice none 0 0) [] [] :=
      ⟨by simp, u0, u1, u2, u3, frz_row RR, frz_row RR, T2.le LR, S2.le LR, fun hn a e => by have := HBT.out hn a e; omega, fun hn a e => by have := HBA.out hn a e; omega, World.ownsRow_nil _ _ _ _, World.ownsRow_nil _ _ _ _, (fun k e => by cases e), (fun _ h => nomatch h), (fun _ h => nomatch h), (fun e => by cases e), (fun e => by cases e)⟩
    have gd0 : Gd xs ([] : List Flt) := fun k h => absurd h (Nat.not_lt_zero _)
    have hd0 : Hd (-1) (([], []) : Rst) := ⟨by omega, by show (-1 : Int) < ((0 : Nat) : Int); omega⟩
    have F : Fw xs ([], []) (runI xs p) := Fw.goB (xs := xs) (p := p) (ln := lnN xs p 6 (-1)) (a := 0) (b := p.length) (h := -1) (OK := fun _ => True) (fun _ _ _ _ _ => trivial) (fun i s _ hib _ g1 hh1 => lfw_all g 6 i (-1) s hib g1 hh1) 25 0 ([], []) (Nat.le_refl _) (fun _ => trivial) gd0 hd0
    have HA : AtOk w2.heap.size m c p.length cap B A xs p 30 #[.pointer (some ⟨w2.heap.size, 0, none⟩), .int .i64 0, .int .i64 p.length, .int .i64 (-1)] (.slice none 0 0) (.slice none 0 0) (w2.alloc (.cells #[.slice B m c, .slice A p.length cap, .slice none 0 0, .slice none 0 0] 60)) (runI xs p) := at_of w2.heap.size m c p.length cap B A xs p g 6 (ln_all w2.heap.size m c p.length cap B A xs p g 6) 0 p.length (Nat.le_refl _) (Nat.zero_le _) (fun i _ h => by have := (g.line i h).2.1.1; omega) (-1) ([], []) gd0 hd0 hs (.slice none 0 0) (.slice none 0 0) _ RN
    have hf := F.rai
    have gd := F.gd
    clear F RR u0 u1 u2 u3 RN HG HS
    obtain ⟨r, hr⟩ : ∃ r, runI xs p = r := ⟨_, rfl⟩
    rw [hr] at HA hs hf gd
    have HZ : Hid (rgL (vp xs p) (runI xs p) = r.2.1 ∧ rgH (vp xs p) (runI xs p) = resH r.2.2 r.1 ∧ rgE (vp xs p) (runI xs p) = resE r.1 ∧ rgV (vp xs p) (runI xs p) = resV r.2.2 r.1) := by show _ ∧ _ ∧ _ ∧ _; rw [hvt, hr]; exact ⟨rfl, rfl, rfl, rfl⟩
    clear hr hvt
    rcases r with ⟨l, s⟩
    go_wp2_with fail
    refine (show Calls _ _ _ _ _ from HA).mono ?_
    rintro e w4 ⟨rfl, lv, hv, RN, KP⟩
    have L4 := Kp.le_new (L2.trans LR) KP hs2 rfl rfl
    have hne : w.heap.size + 1 ≠ w2.heap.size := by omega
    have hzW3 := Nat.lt_of_lt_of_le hzW2 LR.size
    replace r0 := KP.cell hzW3 hne (by intro e; cases e) (by intro e; cases e) ((LR.cell hzW2).trans r0)
    replace r1 := KP.cell hzW3 hne (by intro e; cases e) (by intro e; cases e) ((LR.cell hzW2).trans r1)
    replace r2 := KP.cell hzW3 hne (by intro e; cases e) (by intro e; cases e) ((LR.cell hzW2).trans r2)
    replace r3 := KP.cell hzW3 hne (by intro e; cases e) (by intro e; cases e) ((LR.cell hzW2).trans r3)
    replace fr : ∀ k, w4.frozen? ⟨w.heap.size + 1, k, none⟩ = false := fun k => KP.frozen hzW3 hne (by intro e; cases e) (by intro e; cases e) ((LR.frozen hzW2).trans (fr k))
    have hzW4 := Nat.lt_of_lt_of_le hzW3 KP.size
    have hnl : lv.ownBlock ≠ some (w.heap.size + 1) := KP.ownL hzW3 (by intro e; cases e)
    have RNH := Lib.hid RN
    clear HA KP T2 S2 LR
    go_wp2_with fail
    refine (result_any w2.heap.size m c p.length cap B A xs p lv hv l s gd hf hs w4 RNH.out).mono ?_
    rintro e w5 ⟨hv5, rfl, D5, hl5⟩
    replace r0 := (hl5.cell hzW4).trans r0
    replace r1 := (hl5.cell hzW4).trans r1
    replace r2 := (hl5.cell hzW4).trans r2
    replace r3 := (hl5.cell hzW4).trans r3
    have f0 := (hl5.frozen hzW4).trans (fr 0)
    have f1 := (hl5.frozen hzW4).trans (fr 1)
    have f2 := (hl5.frozen hzW4).trans (fr 2)
    have f3 := (hl5.frozen hzW4).trans (fr 3)
    have L5 := L4.trans hl5
    have O5 : Owd 3 w w5 lv s.1 := Owd.le ⟨own_mono RNH.out.O (by omega), RNH.out.okl⟩ hl5
    have P5 : Apart lv hv5 := by
      cases e : lv.ownBlock with
      | none => exact .inl e
      | some k => exact .inr (fun e2 => by have h1 := (RNH.out.O.lt k e).2; have h2 := (D5.row.lt k (e2 ▸ e)).1; omega)
    have hnh : hv5.ownBlock ≠ some (w.heap.size + 1) := fun e => by have := (D5.row.lt _ e).1; omega
    have D6 := D5.mono L4
    obtain ⟨A7, c7, rfl⟩ := own_form O5.row
    obtain ⟨A8, c8, rfl⟩ := own_form D6.row
    have HF : Hid (∀ a b c d, Owd 3 w ((((w5.setCell ⟨w.heap.size + 1, 0, none⟩ a).setCell ⟨w.heap.size + 1, 1, none⟩ b).setCell ⟨w.heap.size + 1, 2, none⟩ c).setCell ⟨w.heap.size + 1, 3, none⟩ d) (.slice A7 s.1.length c7) s.1 ∧ Owd 103 w ((((w5.setCell ⟨w.heap.size + 1, 0, none⟩ a).setCell ⟨w.heap.size + 1, 1, none⟩ b).setCell ⟨w.heap.size + 1, 2, none⟩ c).setCell ⟨w.heap.size + 1, 3, none⟩ d) (.slice A8 (resH s.2 l).length c8) (resH s.2 l)) := fun a b c d => ⟨(((O5.setO hnl).setO hnl).setO hnl).setO hnl, (((D6.setO hnh).setO hnh).setO hnh).setO hnh⟩
    have ho := out4 (a := .slice A7 s.1.length c7) (b := .int .i64 (resE l)) (c := .int .i64 (resV s.2 l)) (d := .slice A8 (resH s.2 l).length c8) r0 r1 r2 r3
    clear hl5 D5 D6 O5
    go_wp2
    obtain ⟨z0, z1, z2, z3⟩ := ho
    exact bodyPost_ret (v := .agg #[.slice A7 s.1.length c7, .int .i64 (resE l), .int .i64 (resV s.2 l), .slice A8 (resH s.2 l).length c8]) (by simp [results, Tryz.results10, go_sem, z0, z1, z2, z3]) rfl ⟨_, _, ret4 rfl HZ.out.2.2.1.symm HZ.out.2.2.2.symm rfl, by rw [HZ.out.1]; exact (HF.out _ _ _ _).1, by rw [HZ.out.2.1]; exact (HF.out _ _ _ _).2, P5, (((L5.setCell (by omega) _).setCell (by omega) _).setCell (by omega) _).setCell (by omega) _⟩
end
end Go.Proofs.YtdbmolhdgmopoaaGreat
