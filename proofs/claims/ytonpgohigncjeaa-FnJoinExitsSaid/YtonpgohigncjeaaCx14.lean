/- one text of RS -/
import Derived.Test.YtonpgohigncjeaaCx4
import Derived.Test.YtonpgohigncjeaaCx12
import Derived.Deep.RegionHeld3
namespace Go.Proofs.Ytonpgohigncjeaa
open Go.RowKit
set_option linter.unusedVariables false
section
def SortOut (L : List Int) (w : World) (e : Ending) (w' : World) : Prop := ∃ v M, e = .returned v ∧ Owd 3 w w' v M ∧ Le w w' ∧ M.Pairwise (· < ·) ∧ (∀ x, x ∈ M ↔ x ∈ L) ∧ M.length ≤ L.length
/-- the number comes in at its place -/
theorem ins_asc {out : List Int} {k : Nat} {x : Int} (hk : k ≤ out.length) (ha : out.Pairwise (· < ·)) (hlt : ∀ j (h : j < out.length), j < k → out[j] < x) (hge : ∀ h : k < out.length, x < out[k]) : ((out.take k ++ [x]) ++ out.drop k).Pairwise (· < ·) := by
  have hp := List.pairwise_iff_getElem.1 ha
  rw [List.pairwise_append, List.pairwise_append]
  refine ⟨⟨ha.sublist (List.take_sublist _ _), by simp, fun a h1 b h2 => ?_⟩, ha.sublist (List.drop_sublist _ _), fun a h1 b h2 => ?_⟩
  · simp at h2; subst h2
    obtain ⟨j, hj, rfl⟩ := List.getElem_of_mem h1
    rw [List.length_take] at hj
    rw [List.getElem_take]
    exact hlt j (by omega) (by omega)
  · obtain ⟨j, hj, rfl⟩ := List.getElem_of_mem h2
    rw [List.length_drop] at hj
    rw [List.getElem_drop]
    have hxk : x ≤ out[k + j]'(by omega) ∧ x < out[k + j]'(by omega) := by
      have h3 := hge (by omega)
      rcases Nat.eq_zero_or_pos j with h4 | h4
      · subst h4; simp only [Nat.add_zero]; omega
      · have := hp k (k + j) (by omega) (by omega) (by omega); omega
    rcases List.mem_append.1 h1 with h1 | h1
    · obtain ⟨i, hi, rfl⟩ := List.getElem_of_mem h1
      rw [List.length_take] at hi
      rw [List.getElem_take]
      have := hlt i (by omega) (by omega)
      omega
    · simp at h1; subst h1; exact hxk.2
theorem ins_mem {out : List Int} {k : Nat} {x y : Int} : y ∈ (out.take k ++ [x]) ++ out.drop k ↔ y ∈ out ∨ y = x := by
  rw [List.mem_append, List.mem_append, List.mem_singleton]
  conv => rhs; rw [← List.take_append_drop k out, List.mem_append]
  constructor
  · rintro ((h | h) | h)
    · exact .inl (.inl h)
    · exact .inr h
    · exact .inl (.inr h)
  · rintro ((h | h) | h)
    · exact .inl (.inl h)
    · exact .inr h
    · exact .inl (.inr h)
theorem mem_take_succ {L : List Int} {i : Nat} (h : i < L.length) (x : Int) : x ∈ L.take (i + 1) ↔ x ∈ L.take i ∨ x = L[i] := by
  rw [List.take_succ_eq_append_getElem h, List.mem_append, List.mem_singleton]
/-- the part behind k of a slice -/
theorem Sl.dropK {α : Type} [Enc α] {w : World} {b off n cap : Nat} {xs : List α} (h : Sl w (some ⟨b, off, none⟩) n cap xs) (k : Nat) (hk : k ≤ n) : Sl w (some ⟨b, off + k * Enc.size α, none⟩) (n - k) (cap - k) (xs.drop k) := by
  have hl := h.len
  have hc := h.cap_
  have hm := h.max
  refine ⟨by rw [List.length_drop]; omega, by omega, by omega, fun x hx => h.ok x (List.mem_of_mem_drop hx), fun hn => ?_⟩
  obtain ⟨b', off', e, hb, hcell⟩ := h.at_ (by omega)
  injection e with e
  injection e with e1 e2
  subst e1 e2
  refine ⟨b, off + k * Enc.size α, rfl, hb, fun j u hu => ?_⟩
  have hsplit : xs.flatMap Enc.cells = (xs.take k).flatMap Enc.cells ++ (xs.drop k).flatMap Enc.cells := by rw [← List.flatMap_append, List.take_append_drop]
  have hlt : ((xs.take k).flatMap (Enc.cells (α := α))).length = k * Enc.size α := by rw [flat_len, List.length_take, Nat.min_eq_left (by omega)]
  have := hcell (k * Enc.size α + j) u (by
    rw [hsplit, List.getElem?_append_right (by omega), hlt]
    rw [Nat.add_sub_cancel_left]; exact hu)
  rw [Nat.add_assoc]; exact this

set_option maxHeartbeats 64000000 in
set_option maxRecDepth 100000 in
theorem sorted_any (A : Option Addr) (n c : Nat) (L : List Int) (w : World) (hL : Sl w A n c L) (hn : n ≤ 1048576) :
    Calls Try.prog 84 #[.slice A n c] w (SortOut L w) := by
  obtain rfl := hL.len
  obtain ⟨i0, hi, hz0, hz1, hz2⟩ := info_parts intInfoB
  go_enter Try.func84, Try.ntmps84
  go_wp2
  go_loopw [3, 4, 5] (fun v q kk wr => ∃ (i : Nat) (out : List Int), i ≤ L.length ∧ q = .int .i64 i ∧ wr.ownsRow w.heap.size 3 1 v out.length (out.flatMap Enc.cells) ∧ Le w wr ∧ out.Pairwise (· < ·) ∧ (∀ x, x ∈ out ↔ x ∈ L.take i) ∧ out.length ≤ i ∧ v.ownBlock ≠ none) (fun _ q _ _ => L.length - (intOf q).toNat)
  case atStart => exact ⟨0, [], Nat.zero_le _, rfl, own_empty (Nat.le_refl _) rfl, Le.new w _, by simp, by simp, by simp, by simp [Value.ownBlock]⟩
  case round =>
    obtain ⟨i, out, hil, rfl, O, hle, ha, hmem, hol, hnn⟩ := hrel
    have HA := Lib.hid ha
    have HM := Lib.hid hmem
    have hok : ∀ x ∈ out, Enc.ok x := fun x hx => hL.ok x (List.mem_of_mem_take ((hmem x).1 hx))
    have HOK := Lib.hid hok
    clear ha hmem hok
    obtain ⟨gO, c', rfl⟩ : ∃ gO c', u3 = .slice (some ⟨gO, 0, none⟩) out.length c' := by
      rcases O.2 with ⟨h, _⟩ | ⟨g, c', _, h, _⟩
      · rw [h] at hnn; exact absurd rfl hnn
      · exact ⟨g, c', h⟩
    clear hnn
    have SL := hL.le hle
    by_cases hlt : i < L.length
    · obtain ⟨b, off, rfl, hb, hx, hx1, hx2⟩ := SL.int_at hlt
      have HT := Lib.hid (mem_take_succ hlt)
      generalize L[i] = x at *
      have SO := Sl.of_own O rfl (by decide) HOK.out
      go_wp2
      generalize wr = WO at *
      go_loopw [5] (fun kk wr => ∃ k : Nat, k ≤ out.length ∧ kk = .int .i64 k ∧ (∀ j (h : j < out.length), j < k → out[j] < x) ∧ Le WO wr) (fun kk _ => out.length - (intOf kk).toNat)
      case atStart => exact ⟨0, Nat.zero_le _, rfl, fun j h h2 => by omega, Le.refl _⟩
      case round =>
        obtain ⟨k, hk, rfl, hpre, hle2⟩ := hrel
        have HP := Lib.hid hpre; clear hpre
        have hb2 := Nat.lt_of_lt_of_le hb hle2.size
        have hx2' := (hle2.cell hb).trans hx
        have E1 := cell_ext hb2 hx2'
        have O2 := own_le O hle2
        have SO2 := SO.le hle2
        by_cases hkl : k < out.length
        · obtain ⟨b3, off3, hbo, hb3, hy, hy1, hy2⟩ := SO2.int_at hkl
          injection hbo with hbo
          injection hbo with hbo1 hbo2
          subst hbo1; subst hbo2
          rw [Nat.zero_add] at hy
          have E2 := cell_ext hb3 hy
          have HP2 : Hid (out[k] < x → ∀ j (h : j < out.length), j < k + 1 → out[j] < x) := fun hx j h h2 => by
            rcases Nat.lt_or_ge j k with h3 | h3
            · exact HP.out j h h3
            · have : j = k := by omega
              subst this; exact hx
          generalize hyy : out[k] = y at *
          have HY := Lib.hid hyy; clear hyy
          by_cases hyx : y < x
          · have hd1 : decide (y < x) = true := decide_eq_true hyx
            go_wp2_with fail
            refine wp_region_ext (by kernel_rfl) (by kernel_rfl) ?_
            repeat (go_big_quiet_step (fail))
            refine wpQuiet_nil ?_
            intro _ hw'
            obtain ⟨gg, rfl⟩ := hw'
            have L1 := hle2.trans (Le.ext _ gg)
            generalize wr.ext gg = W2 at *
            go_wp2
            go_roundw
            case rel => exact ⟨k + 1, by omega, by go_num, HP2.out hyx, L1⟩
            case measure => simp [intOf]; omega
          · have hd1 : decide (y < x) = false := decide_eq_false hyx
            go_wp2_with fail
            refine wp_region_ext (by kernel_rfl) (by kernel_rfl) ?_
            repeat (go_big_quiet_step (fail))
            refine wpQuiet_nil ?_
            intro _ hw'
            obtain ⟨gg, rfl⟩ := hw'
            have L1 := hle2.trans (Le.ext _ gg)
            have hx3 := (((Le.ext _ gg).cell hb2).trans hx2')
            have hy3 := (((Le.ext _ gg).cell hb3).trans hy)
            have O3 := own_le O2 (Le.ext _ gg)
            have SO3 := SO2.le (Le.ext _ gg)
            have hb4 := Nat.lt_of_lt_of_le hb2 (Le.ext _ gg).size
            have hb5 := Nat.lt_of_lt_of_le hb3 (Le.ext _ gg).size
            clear E1 E2
            generalize wr.ext gg = W2 at *
            have E1 := cell_ext hb4 hx3
            have E2 := cell_ext hb5 hy3
            have L2 := L1
            have hkn : ((k : Int) == (out.length : Int)) = false := by rw [beq_eq_false_iff_ne]; omega
            by_cases hyx2 : y = x
            · have hn1 : (y == x) = true := by simpa using hyx2
              have hn2 : (y != x) = false := by simpa using hyx2
              go_wp2_with fail
              refine wp_region_ext (by kernel_rfl) (by kernel_rfl) ?_
              repeat (go_big_quiet_step (fail))
              refine wpQuiet_nil ?_
              intro _ hw'
              obtain ⟨gg, rfl⟩ := hw'
              have L3 := L2.trans (Le.ext _ gg)
              have O4 := own_le O3 (Le.ext _ gg)
              clear E1 E2
              generalize W2.ext gg = W3 at *
              have HM2 : Hid (∀ z, z ∈ out ↔ z ∈ L.take (i + 1)) := fun z => by
                rw [HT.out, ← HM.out]
                constructor
                · exact .inl
                · rintro (h | rfl)
                  · exact h
                  · rw [← hyx2, ← HY.out]; exact List.getElem_mem _
              clear hyx2 hn1
              go_wp2
              go_roundw
              case rel => exact ⟨i + 1, out, by omega, by go_num, O4, hle.trans L3, HA.out, HM2.out, by omega, by simp [Value.ownBlock]⟩
              case measure => simp [intOf]; omega
            · have hn1 : (y == x) = false := by simpa using hyx2
              have hn2 : (y != x) = true := by simpa using hyx2
              go_wp2_with fail
              refine wp_region_ext (by kernel_rfl) (by kernel_rfl) ?_
              repeat (go_big_quiet_step (fail))
              refine wpQuiet_nil ?_
              intro _ hw'
              obtain ⟨gg, rfl⟩ := hw'
              have hxW := ((Le.ext _ gg).cell hb4).trans hx3
              have OW := own_le O3 (Le.ext _ gg)
              have SW := SO3.le (Le.ext _ gg)
              have hbW := Nat.lt_of_lt_of_le hb4 (Le.ext _ gg).size
              have LW := hle.trans (L1.trans (Le.ext _ gg))
              clear E1 E2
              generalize W2.ext gg = W at *
              have hlt3 := (OW.lt gO rfl).2
              have hgeX : ∀ h : k < out.length, x < out[k] := fun h => by rw [HY.out]; omega
              have HAS := Lib.hid (ins_asc hk HA.out HP.out hgeX)
              have HM2 : Hid (∀ z, z ∈ (out.take k ++ [x]) ++ out.drop k ↔ z ∈ L.take (i + 1)) := fun z => by rw [ins_mem, HT.out, HM.out]
              have hokx : Enc.ok (α := Int) x := ⟨hx1, hx2⟩
              have T1 := (SW.take_ k hk).le (Le.refl W).drew
              obtain ⟨o2, l2, n2, T2, hcc, hl2⟩ : ∃ (o2 l2 n2 : Nat), Sl W (some ⟨gO, o2, none⟩) l2 n2 (out.drop k) ∧ ((k = c' ∧ o2 = 0 ∧ l2 = 0 ∧ n2 = 0) ∨ (¬ c' = k ∧ o2 = k ∧ l2 = out.length - k ∧ n2 = c' - k)) ∧ l2 = out.length - k := by
                by_cases hc : c' = k
                · have h1 : out.drop k = [] := List.drop_eq_nil_of_le (by have := SW.cap_; omega)
                  refine ⟨0, 0, 0, ?_, .inl ⟨hc.symm, rfl, rfl, rfl⟩, by have := SW.cap_; omega⟩
                  rw [h1]; exact Sl.nil _ _ _ (by omega)
                · have hT := SW.dropK k hk
                  rw [show 0 + k * Enc.size Int = k from by show 0 + k * 1 = k; omega] at hT
                  exact ⟨_, _, _, hT, .inr ⟨hc, rfl, rfl, rfl⟩, rfl⟩
              have HL2 := Lib.hid hl2; clear hl2
              have hcap := SW.cap_
              have LD := (Le.refl W).drew
              have hsd : W.drew.heap.size = W.heap.size := rfl
              have k1 : (0 : Int) ≤ (k : Int) := by omega
              have k2 : (k : Int) ≤ (c' : Int) := by omega
              have k4 : (out.length : Int) ≤ (c' : Int) := by omega
              have k3 : (k : Int) ≤ (out.length : Int) := by omega
              have k6 : k ≤ c' := by omega
              have m1 : 0 + k ≤ maxLen := by unfold maxLen; omega
              have m2 : (0 + k) * 8 ≤ 140737488355328 := by omega
              have m3 : k + 1 ≤ maxLen := by unfold maxLen; omega
              have m4 : (k + 1) * 8 ≤ 140737488355328 := by omega
              have m5 : k + 1 + l2 ≤ maxLen := by have := HL2.out; unfold maxLen; omega
              have m6 : (k + 1 + l2) * 8 ≤ 140737488355328 := by have := HL2.out; omega
              have hx0 := (show W.drew.cell? _ = _ from hxW)
              have HROW : Hid (∀ k, (Value.slice (some ⟨W.heap.size, 0, none⟩) 0 0).ownBlock = some k → W.heap.size ≤ k) := fun k hk => by injection hk with hk; exact Nat.le_of_eq hk
              have HS1 : Hid (W.heap.size + 1 = (W.drew.alloc (.cells #[] 3)).heap.size) := by show _ = _; simp
              have HS2 : Hid (W.heap.size + 1 = (W.drew.alloc (.cells #[.int .i64 x] 3)).heap.size) := by show _ = _; simp
              have HROW2 : Hid (∀ k, (Value.slice (some ⟨W.heap.size + 1, 0, none⟩) 0 0).ownBlock = some k → W.heap.size ≤ k) := fun k hk => by injection hk with hk; have h2 : W.heap.size + 1 = k := hk; omega
              have HNE2 : Hid (∀ a : Addr, some (⟨W.heap.size, 0, none⟩ : Addr) = some a → some a.block = (Value.slice (some ⟨W.heap.size + 1, 0, none⟩) 0 0).ownBlock → False) := fun a e h => by injection e with e; subst e; injection h with h; have h2 : W.heap.size = W.heap.size + 1 := h; omega
              have HNE1 : Hid (∀ a : Addr, some (⟨W.heap.size + 1, 0, none⟩ : Addr) = some a → some a.block = (Value.slice (some ⟨W.heap.size, 0, none⟩) 0 0).ownBlock → False) := fun a e h => by injection e with e; subst e; injection h with h; have h2 : W.heap.size + 1 = W.heap.size := h; omega
              rcases hcc with ⟨hcs, ho, hl, hq⟩ | ⟨hcn, ho, hl, hq⟩
              · exfalso; omega
              all_goals
                have HO2 := Lib.hid (And.intro ho (And.intro hl hq)); clear ho hl hq
                go_wp2_with fail
                go_region_held3 (fun w' => w'.cell? ⟨b, off + i, none⟩ = some (.int .i64 x)) (first | exact hx0 | exact ((Le.new _ _).cell hbW).trans hx0 | exact (((Le.new W.drew (.cells #[] 3)).alloc (.cells #[.int .i64 x] 3)).cell hbW).trans hx0 | exact (((Le.new W.drew (.cells #[.int .i64 x] 3)).alloc (.cells #[] 3)).cell hbW).trans hx0 | exact x7 | exact x7b | exact x8 | exact x9)
                  (first
                  | (have hzz := LB; have q7 : W.heap.size ≤ w8.heap.size := LB.size; refine step_append_sl rfl (.tmp 55) (.tmp 58) 31 rfl W.heap.size 3 i0 _ 8 Try.underlying31 hi hz0 hz1 hz2 rfl v2 (k + 1) (out.take k ++ [x]) rfl O2 (some ⟨gO, o2, none⟩) l2 n2 (out.drop k) (by obtain ⟨h1, h2, h3⟩ := HO2.out; subst h1; subst h2; subst h3; first | rfl | (simp [Act.eval]; done) | (simp [Act.eval, hcn]; done)) T8 m5 m6 q7 ?_; intro v3 w9 O3' hg3 _; have LC := LB.grown hg3 (fun k hk => (O2.lt k hk).1); have x9 := (LC.cell hbW).trans hxW)
                  | (have hzz := SXB; refine step_append_sl rfl (.tmp 49) (.tmp 54) 31 rfl W.heap.size 3 i0 _ 8 Try.underlying31 hi hz0 hz1 hz2 rfl v1 k (out.take k) rfl O1 (some ⟨W.heap.size + 1, 0, none⟩) 1 1 [x] rfl SXB m3 m4 LA.size ?_; intro v2 w8 O2 hg2 _; have LB : Le W w8 := LA.grown hg2 (fun k hk => (O1.lt k hk).1); have x8 : w8.cell? ⟨b, off + i, none⟩ = some (.int .i64 x) := (LB.cell hbW).trans hxW; have T8 := T2.le LB)
                  | (have hzz := SXC; refine step_append_sl rfl (.tmp 49) (.tmp 54) 31 rfl W.heap.size 3 i0 _ 8 Try.underlying31 hi hz0 hz1 hz2 rfl v1 k (out.take k) rfl O1 (some ⟨W.heap.size, 0, none⟩) 1 1 [x] rfl SXC m3 m4 LA.size ?_; intro v2 w8 O2 hg2 _; have LB : Le W w8 := LA.grown hg2 (fun k hk => (O1.lt k hk).1); have x8 : w8.cell? ⟨b, off + i, none⟩ = some (.int .i64 x) := (LB.cell hbW).trans hxW; have T8 := T2.le LB)
                  | (have hzz := O1; have q4 : (w7.alloc (.cells #[.int .i64 x] 3)).ownsRow W.heap.size 3 1 v1 k ((out.take k).flatMap Enc.cells) := O1.alloc _; have q5 := sl_one (w := w7) (cs := #[.int .i64 x]) (T := 3) x rfl hokx (b := w7.heap.size) rfl; have q6 : W.heap.size ≤ (w7.alloc (.cells #[.int .i64 x] 3)).heap.size := Nat.le_trans LA.size (Le.new w7 _).size; refine step_append_sl rfl (.tmp 49) (.tmp 54) 31 rfl W.heap.size 3 i0 _ 8 Try.underlying31 hi hz0 hz1 hz2 rfl v1 k (out.take k) rfl q4 (some ⟨w7.heap.size, 0, none⟩) 1 1 [x] rfl q5 m3 m4 q6 ?_; intro v2 w8 O2 hg2 _; have LB : Le W w8 := (LA.alloc (.cells #[.int .i64 x] 3)).grown hg2 (fun k hk => (O1.lt k hk).1); have x8 : w8.cell? ⟨b, off + i, none⟩ = some (.int .i64 x) := (LB.cell hbW).trans hxW; have T8 := T2.le LB)
                  | (have q1 : (W.alloc (.cells #[] 3)).drew.ownsRow W.heap.size 3 1 (.slice (some ⟨W.heap.size, 0, none⟩) 0 0) 0 [] := (own_empty (w := W.drew) (Nat.le_refl _) rfl); have q2 : Sl (W.alloc (.cells #[] 3)).drew (some ⟨gO, 0, none⟩) k c' (out.take k) := (T1.alloc (.cells #[] 3)); have q3 : W.heap.size ≤ (W.alloc (.cells #[] 3)).drew.heap.size := (Le.new W.drew (.cells #[] 3)).size; refine step_append_sl rfl (.tmp 45) (.tmp 48) 31 rfl W.heap.size 3 i0 _ 8 Try.underlying31 hi hz0 hz1 hz2 rfl (.slice (some ⟨W.heap.size, 0, none⟩) 0 0) 0 ([] : List Int) rfl q1 (some ⟨gO, 0, none⟩) k c' (out.take k) rfl q2 m1 m2 q3 ?_; intro v1 w7 O1 hg1 _; simp only [Nat.zero_add, List.nil_append] at O1; have LA0 : Le W (W.alloc (.cells #[] 3)).drew := (LD.alloc (.cells #[] 3)); have LA : Le W w7 := LA0.grown hg1 HROW.out; have x7 : w7.cell? ⟨b, off + i, none⟩ = some (.int .i64 x) := (LA.cell hbW).trans hxW; have hb7 : b < w7.heap.size := Nat.lt_of_lt_of_le hbW LA.size; have x7b : (w7.alloc (.cells #[.int .i64 x] 3)).cell? ⟨b, off + i, none⟩ = some (.int .i64 x) := ((Le.new w7 (.cells #[.int .i64 x] 3)).cell hb7).trans x7)
                  | (have q1 : ((W.alloc (.cells #[] 3)).alloc (.cells #[.int .i64 x] 3)).drew.ownsRow W.heap.size 3 1 (.slice (some ⟨W.heap.size, 0, none⟩) 0 0) 0 [] := (own_empty (w := W.drew) (Nat.le_refl _) rfl).alloc (.cells #[.int .i64 x] 3); have q2 : Sl ((W.alloc (.cells #[] 3)).alloc (.cells #[.int .i64 x] 3)).drew (some ⟨gO, 0, none⟩) k c' (out.take k) := (T1.alloc (.cells #[] 3)).alloc (.cells #[.int .i64 x] 3); have q3 : W.heap.size ≤ ((W.alloc (.cells #[] 3)).alloc (.cells #[.int .i64 x] 3)).drew.heap.size := Nat.le_trans (Le.new W.drew (.cells #[] 3)).size (Le.new (W.drew.alloc (.cells #[] 3)) (.cells #[.int .i64 x] 3)).size; refine step_append_sl rfl (.tmp 45) (.tmp 48) 31 rfl W.heap.size 3 i0 _ 8 Try.underlying31 hi hz0 hz1 hz2 rfl (.slice (some ⟨W.heap.size, 0, none⟩) 0 0) 0 ([] : List Int) rfl q1 (some ⟨gO, 0, none⟩) k c' (out.take k) rfl q2 m1 m2 q3 ?_; intro v1 w7 O1 hg1 _; simp only [Nat.zero_add, List.nil_append] at O1; have LA0 : Le W ((W.alloc (.cells #[] 3)).alloc (.cells #[.int .i64 x] 3)).drew := (LD.alloc (.cells #[] 3)).alloc (.cells #[.int .i64 x] 3); have LA : Le W w7 := LA0.grown hg1 HROW.out; have x7 : w7.cell? ⟨b, off + i, none⟩ = some (.int .i64 x) := (LA.cell hbW).trans hxW; have hb7 : b < w7.heap.size := Nat.lt_of_lt_of_le hbW LA.size; have SX0 : Sl ((W.alloc (.cells #[] 3)).alloc (.cells #[.int .i64 x] 3)).drew (some ⟨W.heap.size + 1, 0, none⟩) 1 1 [x] := sl_one (w := W.drew.alloc (.cells #[] 3)) (cs := #[.int .i64 x]) (T := 3) x rfl hokx (b := W.heap.size + 1) HS1.out; have SXB : Sl w7 (some ⟨W.heap.size + 1, 0, none⟩) 1 1 [x] := SX0.grown hg1 (fun _ a e h => HNE1.out a e h))
                  | (have q1 : ((W.alloc (.cells #[.int .i64 x] 3)).alloc (.cells #[] 3)).drew.ownsRow W.heap.size 3 1 (.slice (some ⟨W.heap.size + 1, 0, none⟩) 0 0) 0 [] := own_empty (w := W.drew.alloc (.cells #[.int .i64 x] 3)) (Le.new W.drew (.cells #[.int .i64 x] 3)).size HS2.out; have q2 : Sl ((W.alloc (.cells #[.int .i64 x] 3)).alloc (.cells #[] 3)).drew (some ⟨gO, 0, none⟩) k c' (out.take k) := (T1.alloc (.cells #[.int .i64 x] 3)).alloc (.cells #[] 3); have q3 : W.heap.size ≤ ((W.alloc (.cells #[.int .i64 x] 3)).alloc (.cells #[] 3)).drew.heap.size := Nat.le_trans (Le.new W.drew (.cells #[.int .i64 x] 3)).size (Le.new (W.drew.alloc (.cells #[.int .i64 x] 3)) (.cells #[] 3)).size; refine step_append_sl rfl (.tmp 45) (.tmp 48) 31 rfl W.heap.size 3 i0 _ 8 Try.underlying31 hi hz0 hz1 hz2 rfl (.slice (some ⟨W.heap.size + 1, 0, none⟩) 0 0) 0 ([] : List Int) rfl q1 (some ⟨gO, 0, none⟩) k c' (out.take k) rfl q2 m1 m2 q3 ?_; intro v1 w7 O1 hg1 _; simp only [Nat.zero_add, List.nil_append] at O1; have LA0 : Le W ((W.alloc (.cells #[.int .i64 x] 3)).alloc (.cells #[] 3)).drew := (LD.alloc (.cells #[.int .i64 x] 3)).alloc (.cells #[] 3); have LA : Le W w7 := LA0.grown hg1 HROW2.out; have x7 : w7.cell? ⟨b, off + i, none⟩ = some (.int .i64 x) := (LA.cell hbW).trans hxW; have hb7 : b < w7.heap.size := Nat.lt_of_lt_of_le hbW LA.size; have SX0 : Sl ((W.alloc (.cells #[.int .i64 x] 3)).alloc (.cells #[] 3)).drew (some ⟨W.heap.size, 0, none⟩) 1 1 [x] := (sl_one (w := W.drew) (cs := #[.int .i64 x]) (T := 3) x rfl hokx (b := W.heap.size) rfl).alloc (.cells #[] 3); have SXC : Sl w7 (some ⟨W.heap.size, 0, none⟩) 1 1 [x] := SX0.grown hg1 (fun _ a e h => HNE2.out a e h)))
                all_goals
                  have hln : ((out.take k ++ [x]) ++ out.drop k).length = k + 1 + l2 := by have := HL2.out; simp [List.length_take, List.length_drop]; omega
                  have O4 : w9.ownsRow w.heap.size 3 1 v3 ((out.take k ++ [x]) ++ out.drop k).length (((out.take k ++ [x]) ++ out.drop k).flatMap Enc.cells) := by rw [hln]; exact own_mono O3' LW.size
                  have hv3 : v3.ownBlock ≠ none := by
                    rcases O4.2 with ⟨_, h⟩ | ⟨g, c3, _, h, _⟩
                    · rw [hln] at h; omega
                    · rw [h]; simp [Value.ownBlock]
                  have hll : ((out.take k ++ [x]) ++ out.drop k).length ≤ i + 1 := by rw [hln]; have := HL2.out; omega
                  have HF := Lib.hid hll; have HO4 := Lib.hid O4; have HV3 := Lib.hid hv3; have HLC := Lib.hid (LW.trans LC)
                  clear hln O4 hv3 hll O3' O1 O2 hg1 hg2 hg3 LB LC LA
                  clear T1 T2 T8 x7 x8 x9 OW SW hx0 hxW
                  go_wp2
                  go_roundw
                  case rel => exact ⟨i + 1, _, by omega, by go_num, HO4.out, HLC.out, HAS.out, HM2.out, HF.out, HV3.out⟩
                  case measure => simp [intOf]; omega
        · have hkk : k = out.length := by omega
          have hkn : ((k : Int) == (out.length : Int)) = true := by rw [beq_iff_eq]; omega
          have HKK := Lib.hid hkk; clear hkk
          go_wp2_with fail
          refine wp_region_ext (by kernel_rfl) (by kernel_rfl) ?_
          repeat (go_big_quiet_step (fail))
          refine wpQuiet_nil ?_
          intro _ hw'
          obtain ⟨gg, rfl⟩ := hw'
          have L1 := hle2.trans (Le.ext _ gg)
          have hx3 := (((Le.ext _ gg).cell hb2).trans hx2')
          have O3 := own_le O2 (Le.ext _ gg)
          have SO3 := SO2.le (Le.ext _ gg)
          have hb4 := Nat.lt_of_lt_of_le hb2 (Le.ext _ gg).size
          clear E1
          generalize wr.ext gg = W2 at *
          have E1 := cell_ext hb4 hx3
          go_wp2_with fail
          refine wp_region_ext (by kernel_rfl) (by kernel_rfl) ?_
          repeat (go_big_quiet_step (fail))
          refine wpQuiet_nil ?_
          intro _ hw'
          obtain ⟨gg, rfl⟩ := hw'
          have hxW := ((Le.ext _ gg).cell hb4).trans hx3
          have OW := own_le O3 (Le.ext _ gg)
          have SW := SO3.le (Le.ext _ gg)
          have hbW := Nat.lt_of_lt_of_le hb4 (Le.ext _ gg).size
          have LW := hle.trans (L1.trans (Le.ext _ gg))
          clear E1
          generalize W2.ext gg = W at *
          have hlt3 := (OW.lt gO rfl).2
          have hgeX : ∀ h : k < out.length, x < out[k] := fun h => by have := HKK.out; omega
          have HAS := Lib.hid (ins_asc hk HA.out HP.out hgeX)
          have HM2 : Hid (∀ z, z ∈ (out.take k ++ [x]) ++ out.drop k ↔ z ∈ L.take (i + 1)) := fun z => by rw [ins_mem, HT.out, HM.out]
          have hokx : Enc.ok (α := Int) x := ⟨hx1, hx2⟩
          have T1 := (SW.take_ k hk).le (Le.refl W).drew
          obtain ⟨o2, l2, n2, T2, hcc, hl2⟩ : ∃ (o2 l2 n2 : Nat), Sl W (some ⟨gO, o2, none⟩) l2 n2 (out.drop k) ∧ ((k = c' ∧ o2 = 0 ∧ l2 = 0 ∧ n2 = 0) ∨ (¬ c' = k ∧ o2 = k ∧ l2 = out.length - k ∧ n2 = c' - k)) ∧ l2 = out.length - k := by
            by_cases hc : c' = k
            · have h1 : out.drop k = [] := List.drop_eq_nil_of_le (by have := SW.cap_; omega)
              refine ⟨0, 0, 0, ?_, .inl ⟨hc.symm, rfl, rfl, rfl⟩, by have := SW.cap_; omega⟩
              rw [h1]; exact Sl.nil _ _ _ (by omega)
            · have hT := SW.dropK k hk
              rw [show 0 + k * Enc.size Int = k from by show 0 + k * 1 = k; omega] at hT
              exact ⟨_, _, _, hT, .inr ⟨hc, rfl, rfl, rfl⟩, rfl⟩
          have HL2 := Lib.hid hl2; clear hl2
          have hcap := SW.cap_
          have LD := (Le.refl W).drew
          have hsd : W.drew.heap.size = W.heap.size := rfl
          have k1 : (0 : Int) ≤ (k : Int) := by omega
          have k2 : (k : Int) ≤ (c' : Int) := by omega
          have k4 : (out.length : Int) ≤ (c' : Int) := by omega
          have k3 : (k : Int) ≤ (out.length : Int) := by omega
          have k6 : k ≤ c' := by omega
          have m1 : 0 + k ≤ maxLen := by unfold maxLen; omega
          have m2 : (0 + k) * 8 ≤ 140737488355328 := by omega
          have m3 : k + 1 ≤ maxLen := by unfold maxLen; omega
          have m4 : (k + 1) * 8 ≤ 140737488355328 := by omega
          have m5 : k + 1 + l2 ≤ maxLen := by have := HL2.out; unfold maxLen; omega
          have m6 : (k + 1 + l2) * 8 ≤ 140737488355328 := by have := HL2.out; omega
          have hx0 := (show W.drew.cell? _ = _ from hxW)
          have HROW : Hid (∀ k, (Value.slice (some ⟨W.heap.size, 0, none⟩) 0 0).ownBlock = some k → W.heap.size ≤ k) := fun k hk => by injection hk with hk; exact Nat.le_of_eq hk
          have HS1 : Hid (W.heap.size + 1 = (W.drew.alloc (.cells #[] 3)).heap.size) := by show _ = _; simp
          have HS2 : Hid (W.heap.size + 1 = (W.drew.alloc (.cells #[.int .i64 x] 3)).heap.size) := by show _ = _; simp
          have HROW2 : Hid (∀ k, (Value.slice (some ⟨W.heap.size + 1, 0, none⟩) 0 0).ownBlock = some k → W.heap.size ≤ k) := fun k hk => by injection hk with hk; have h2 : W.heap.size + 1 = k := hk; omega
          have HNE2 : Hid (∀ a : Addr, some (⟨W.heap.size, 0, none⟩ : Addr) = some a → some a.block = (Value.slice (some ⟨W.heap.size + 1, 0, none⟩) 0 0).ownBlock → False) := fun a e h => by injection e with e; subst e; injection h with h; have h2 : W.heap.size = W.heap.size + 1 := h; omega
          have HNE1 : Hid (∀ a : Addr, some (⟨W.heap.size + 1, 0, none⟩ : Addr) = some a → some a.block = (Value.slice (some ⟨W.heap.size, 0, none⟩) 0 0).ownBlock → False) := fun a e h => by injection e with e; subst e; injection h with h; have h2 : W.heap.size + 1 = W.heap.size := h; omega
          rcases hcc with ⟨hcs, ho, hl, hq⟩ | ⟨hcn, ho, hl, hq⟩
          · subst hcs
            have k8 : k ≤ k := Nat.le_refl k
            have k9 : (k : Int) ≤ (k : Int) := Int.le_refl _
            have HO2 := Lib.hid (And.intro ho (And.intro hl hq)); clear ho hl hq
            go_wp2_with fail
            go_region_held3 (fun w' => w'.cell? ⟨b, off + i, none⟩ = some (.int .i64 x)) (first | exact hx0 | exact ((Le.new _ _).cell hbW).trans hx0 | exact (((Le.new W.drew (.cells #[] 3)).alloc (.cells #[.int .i64 x] 3)).cell hbW).trans hx0 | exact (((Le.new W.drew (.cells #[.int .i64 x] 3)).alloc (.cells #[] 3)).cell hbW).trans hx0 | exact x7 | exact x7b | exact x8 | exact x9)
              (first
              | (have hzz := LB; have q7 : W.heap.size ≤ w8.heap.size := LB.size; refine step_append_sl rfl (.tmp 55) (.tmp 58) 31 rfl W.heap.size 3 i0 _ 8 Try.underlying31 hi hz0 hz1 hz2 rfl v2 (k + 1) (out.take k ++ [x]) rfl O2 (some ⟨gO, o2, none⟩) l2 n2 (out.drop k) (by obtain ⟨h1, h2, h3⟩ := HO2.out; subst h1; subst h2; subst h3; first | rfl | (simp [Act.eval]; done) | (simp [Act.eval, k8]; done)) T8 m5 m6 q7 ?_; intro v3 w9 O3' hg3 _; have LC := LB.grown hg3 (fun k hk => (O2.lt k hk).1); have x9 := (LC.cell hbW).trans hxW)
              | (have hzz := SXB; refine step_append_sl rfl (.tmp 49) (.tmp 54) 31 rfl W.heap.size 3 i0 _ 8 Try.underlying31 hi hz0 hz1 hz2 rfl v1 k (out.take k) rfl O1 (some ⟨W.heap.size + 1, 0, none⟩) 1 1 [x] rfl SXB m3 m4 LA.size ?_; intro v2 w8 O2 hg2 _; have LB : Le W w8 := LA.grown hg2 (fun k hk => (O1.lt k hk).1); have x8 : w8.cell? ⟨b, off + i, none⟩ = some (.int .i64 x) := (LB.cell hbW).trans hxW; have T8 := T2.le LB)
              | (have hzz := SXC; refine step_append_sl rfl (.tmp 49) (.tmp 54) 31 rfl W.heap.size 3 i0 _ 8 Try.underlying31 hi hz0 hz1 hz2 rfl v1 k (out.take k) rfl O1 (some ⟨W.heap.size, 0, none⟩) 1 1 [x] rfl SXC m3 m4 LA.size ?_; intro v2 w8 O2 hg2 _; have LB : Le W w8 := LA.grown hg2 (fun k hk => (O1.lt k hk).1); have x8 : w8.cell? ⟨b, off + i, none⟩ = some (.int .i64 x) := (LB.cell hbW).trans hxW; have T8 := T2.le LB)
              | (have hzz := O1; have q4 : (w7.alloc (.cells #[.int .i64 x] 3)).ownsRow W.heap.size 3 1 v1 k ((out.take k).flatMap Enc.cells) := O1.alloc _; have q5 := sl_one (w := w7) (cs := #[.int .i64 x]) (T := 3) x rfl hokx (b := w7.heap.size) rfl; have q6 : W.heap.size ≤ (w7.alloc (.cells #[.int .i64 x] 3)).heap.size := Nat.le_trans LA.size (Le.new w7 _).size; refine step_append_sl rfl (.tmp 49) (.tmp 54) 31 rfl W.heap.size 3 i0 _ 8 Try.underlying31 hi hz0 hz1 hz2 rfl v1 k (out.take k) rfl q4 (some ⟨w7.heap.size, 0, none⟩) 1 1 [x] rfl q5 m3 m4 q6 ?_; intro v2 w8 O2 hg2 _; have LB : Le W w8 := (LA.alloc (.cells #[.int .i64 x] 3)).grown hg2 (fun k hk => (O1.lt k hk).1); have x8 : w8.cell? ⟨b, off + i, none⟩ = some (.int .i64 x) := (LB.cell hbW).trans hxW; have T8 := T2.le LB)
              | (have q1 : (W.alloc (.cells #[] 3)).drew.ownsRow W.heap.size 3 1 (.slice (some ⟨W.heap.size, 0, none⟩) 0 0) 0 [] := (own_empty (w := W.drew) (Nat.le_refl _) rfl); have q2 : Sl (W.alloc (.cells #[] 3)).drew (some ⟨gO, 0, none⟩) k k (out.take k) := (T1.alloc (.cells #[] 3)); have q3 : W.heap.size ≤ (W.alloc (.cells #[] 3)).drew.heap.size := (Le.new W.drew (.cells #[] 3)).size; refine step_append_sl rfl (.tmp 45) (.tmp 48) 31 rfl W.heap.size 3 i0 _ 8 Try.underlying31 hi hz0 hz1 hz2 rfl (.slice (some ⟨W.heap.size, 0, none⟩) 0 0) 0 ([] : List Int) rfl q1 (some ⟨gO, 0, none⟩) k k (out.take k) rfl q2 m1 m2 q3 ?_; intro v1 w7 O1 hg1 _; simp only [Nat.zero_add, List.nil_append] at O1; have LA0 : Le W (W.alloc (.cells #[] 3)).drew := (LD.alloc (.cells #[] 3)); have LA : Le W w7 := LA0.grown hg1 HROW.out; have x7 : w7.cell? ⟨b, off + i, none⟩ = some (.int .i64 x) := (LA.cell hbW).trans hxW; have hb7 : b < w7.heap.size := Nat.lt_of_lt_of_le hbW LA.size; have x7b : (w7.alloc (.cells #[.int .i64 x] 3)).cell? ⟨b, off + i, none⟩ = some (.int .i64 x) := ((Le.new w7 (.cells #[.int .i64 x] 3)).cell hb7).trans x7)
              | (have q1 : ((W.alloc (.cells #[] 3)).alloc (.cells #[.int .i64 x] 3)).drew.ownsRow W.heap.size 3 1 (.slice (some ⟨W.heap.size, 0, none⟩) 0 0) 0 [] := (own_empty (w := W.drew) (Nat.le_refl _) rfl).alloc (.cells #[.int .i64 x] 3); have q2 : Sl ((W.alloc (.cells #[] 3)).alloc (.cells #[.int .i64 x] 3)).drew (some ⟨gO, 0, none⟩) k k (out.take k) := (T1.alloc (.cells #[] 3)).alloc (.cells #[.int .i64 x] 3); have q3 : W.heap.size ≤ ((W.alloc (.cells #[] 3)).alloc (.cells #[.int .i64 x] 3)).drew.heap.size := Nat.le_trans (Le.new W.drew (.cells #[] 3)).size (Le.new (W.drew.alloc (.cells #[] 3)) (.cells #[.int .i64 x] 3)).size; refine step_append_sl rfl (.tmp 45) (.tmp 48) 31 rfl W.heap.size 3 i0 _ 8 Try.underlying31 hi hz0 hz1 hz2 rfl (.slice (some ⟨W.heap.size, 0, none⟩) 0 0) 0 ([] : List Int) rfl q1 (some ⟨gO, 0, none⟩) k k (out.take k) rfl q2 m1 m2 q3 ?_; intro v1 w7 O1 hg1 _; simp only [Nat.zero_add, List.nil_append] at O1; have LA0 : Le W ((W.alloc (.cells #[] 3)).alloc (.cells #[.int .i64 x] 3)).drew := (LD.alloc (.cells #[] 3)).alloc (.cells #[.int .i64 x] 3); have LA : Le W w7 := LA0.grown hg1 HROW.out; have x7 : w7.cell? ⟨b, off + i, none⟩ = some (.int .i64 x) := (LA.cell hbW).trans hxW; have hb7 : b < w7.heap.size := Nat.lt_of_lt_of_le hbW LA.size; have SX0 : Sl ((W.alloc (.cells #[] 3)).alloc (.cells #[.int .i64 x] 3)).drew (some ⟨W.heap.size + 1, 0, none⟩) 1 1 [x] := sl_one (w := W.drew.alloc (.cells #[] 3)) (cs := #[.int .i64 x]) (T := 3) x rfl hokx (b := W.heap.size + 1) HS1.out; have SXB : Sl w7 (some ⟨W.heap.size + 1, 0, none⟩) 1 1 [x] := SX0.grown hg1 (fun _ a e h => HNE1.out a e h))
              | (have q1 : ((W.alloc (.cells #[.int .i64 x] 3)).alloc (.cells #[] 3)).drew.ownsRow W.heap.size 3 1 (.slice (some ⟨W.heap.size + 1, 0, none⟩) 0 0) 0 [] := own_empty (w := W.drew.alloc (.cells #[.int .i64 x] 3)) (Le.new W.drew (.cells #[.int .i64 x] 3)).size HS2.out; have q2 : Sl ((W.alloc (.cells #[.int .i64 x] 3)).alloc (.cells #[] 3)).drew (some ⟨gO, 0, none⟩) k k (out.take k) := (T1.alloc (.cells #[.int .i64 x] 3)).alloc (.cells #[] 3); have q3 : W.heap.size ≤ ((W.alloc (.cells #[.int .i64 x] 3)).alloc (.cells #[] 3)).drew.heap.size := Nat.le_trans (Le.new W.drew (.cells #[.int .i64 x] 3)).size (Le.new (W.drew.alloc (.cells #[.int .i64 x] 3)) (.cells #[] 3)).size; refine step_append_sl rfl (.tmp 45) (.tmp 48) 31 rfl W.heap.size 3 i0 _ 8 Try.underlying31 hi hz0 hz1 hz2 rfl (.slice (some ⟨W.heap.size + 1, 0, none⟩) 0 0) 0 ([] : List Int) rfl q1 (some ⟨gO, 0, none⟩) k k (out.take k) rfl q2 m1 m2 q3 ?_; intro v1 w7 O1 hg1 _; simp only [Nat.zero_add, List.nil_append] at O1; have LA0 : Le W ((W.alloc (.cells #[.int .i64 x] 3)).alloc (.cells #[] 3)).drew := (LD.alloc (.cells #[.int .i64 x] 3)).alloc (.cells #[] 3); have LA : Le W w7 := LA0.grown hg1 HROW2.out; have x7 : w7.cell? ⟨b, off + i, none⟩ = some (.int .i64 x) := (LA.cell hbW).trans hxW; have hb7 : b < w7.heap.size := Nat.lt_of_lt_of_le hbW LA.size; have SX0 : Sl ((W.alloc (.cells #[.int .i64 x] 3)).alloc (.cells #[] 3)).drew (some ⟨W.heap.size, 0, none⟩) 1 1 [x] := (sl_one (w := W.drew) (cs := #[.int .i64 x]) (T := 3) x rfl hokx (b := W.heap.size) rfl).alloc (.cells #[] 3); have SXC : Sl w7 (some ⟨W.heap.size, 0, none⟩) 1 1 [x] := SX0.grown hg1 (fun _ a e h => HNE2.out a e h)))
            all_goals
              have hln : ((out.take k ++ [x]) ++ out.drop k).length = k + 1 + l2 := by have := HL2.out; simp [List.length_take, List.length_drop]; omega
              have O4 : w9.ownsRow w.heap.size 3 1 v3 ((out.take k ++ [x]) ++ out.drop k).length (((out.take k ++ [x]) ++ out.drop k).flatMap Enc.cells) := by rw [hln]; exact own_mono O3' LW.size
              have hv3 : v3.ownBlock ≠ none := by
                rcases O4.2 with ⟨_, h⟩ | ⟨g, c3, _, h, _⟩
                · rw [hln] at h; omega
                · rw [h]; simp [Value.ownBlock]
              have hll : ((out.take k ++ [x]) ++ out.drop k).length ≤ i + 1 := by rw [hln]; have := HL2.out; omega
              have HF := Lib.hid hll; have HO4 := Lib.hid O4; have HV3 := Lib.hid hv3; have HLC := Lib.hid (LW.trans LC)
              clear hln O4 hv3 hll O3' O1 O2 hg1 hg2 hg3 LB LC LA
              clear T1 T2 T8 x7 x8 x9 OW SW hx0 hxW
              go_wp2
              go_roundw
              case rel => exact ⟨i + 1, _, by omega, by go_num, HO4.out, HLC.out, HAS.out, HM2.out, HF.out, HV3.out⟩
              case measure => simp [intOf]; omega
          all_goals
            have HO2 := Lib.hid (And.intro ho (And.intro hl hq)); clear ho hl hq
            go_wp2_with fail
            go_region_held3 (fun w' => w'.cell? ⟨b, off + i, none⟩ = some (.int .i64 x)) (first | exact hx0 | exact ((Le.new _ _).cell hbW).trans hx0 | exact (((Le.new W.drew (.cells #[] 3)).alloc (.cells #[.int .i64 x] 3)).cell hbW).trans hx0 | exact (((Le.new W.drew (.cells #[.int .i64 x] 3)).alloc (.cells #[] 3)).cell hbW).trans hx0 | exact x7 | exact x7b | exact x8 | exact x9)
              (first
              | (have hzz := LB; have q7 : W.heap.size ≤ w8.heap.size := LB.size; refine step_append_sl rfl (.tmp 55) (.tmp 58) 31 rfl W.heap.size 3 i0 _ 8 Try.underlying31 hi hz0 hz1 hz2 rfl v2 (k + 1) (out.take k ++ [x]) rfl O2 (some ⟨gO, o2, none⟩) l2 n2 (out.drop k) (by obtain ⟨h1, h2, h3⟩ := HO2.out; subst h1; subst h2; subst h3; first | rfl | (simp [Act.eval]; done) | (simp [Act.eval, hcn]; done)) T8 m5 m6 q7 ?_; intro v3 w9 O3' hg3 _; have LC := LB.grown hg3 (fun k hk => (O2.lt k hk).1); have x9 := (LC.cell hbW).trans hxW)
              | (have hzz := SXB; refine step_append_sl rfl (.tmp 49) (.tmp 54) 31 rfl W.heap.size 3 i0 _ 8 Try.underlying31 hi hz0 hz1 hz2 rfl v1 k (out.take k) rfl O1 (some ⟨W.heap.size + 1, 0, none⟩) 1 1 [x] rfl SXB m3 m4 LA.size ?_; intro v2 w8 O2 hg2 _; have LB : Le W w8 := LA.grown hg2 (fun k hk => (O1.lt k hk).1); have x8 : w8.cell? ⟨b, off + i, none⟩ = some (.int .i64 x) := (LB.cell hbW).trans hxW; have T8 := T2.le LB)
              | (have hzz := SXC; refine step_append_sl rfl (.tmp 49) (.tmp 54) 31 rfl W.heap.size 3 i0 _ 8 Try.underlying31 hi hz0 hz1 hz2 rfl v1 k (out.take k) rfl O1 (some ⟨W.heap.size, 0, none⟩) 1 1 [x] rfl SXC m3 m4 LA.size ?_; intro v2 w8 O2 hg2 _; have LB : Le W w8 := LA.grown hg2 (fun k hk => (O1.lt k hk).1); have x8 : w8.cell? ⟨b, off + i, none⟩ = some (.int .i64 x) := (LB.cell hbW).trans hxW; have T8 := T2.le LB)
              | (have hzz := O1; have q4 : (w7.alloc (.cells #[.int .i64 x] 3)).ownsRow W.heap.size 3 1 v1 k ((out.take k).flatMap Enc.cells) := O1.alloc _; have q5 := sl_one (w := w7) (cs := #[.int .i64 x]) (T := 3) x rfl hokx (b := w7.heap.size) rfl; have q6 : W.heap.size ≤ (w7.alloc (.cells #[.int .i64 x] 3)).heap.size := Nat.le_trans LA.size (Le.new w7 _).size; refine step_append_sl rfl (.tmp 49) (.tmp 54) 31 rfl W.heap.size 3 i0 _ 8 Try.underlying31 hi hz0 hz1 hz2 rfl v1 k (out.take k) rfl q4 (some ⟨w7.heap.size, 0, none⟩) 1 1 [x] rfl q5 m3 m4 q6 ?_; intro v2 w8 O2 hg2 _; have LB : Le W w8 := (LA.alloc (.cells #[.int .i64 x] 3)).grown hg2 (fun k hk => (O1.lt k hk).1); have x8 : w8.cell? ⟨b, off + i, none⟩ = some (.int .i64 x) := (LB.cell hbW).trans hxW; have T8 := T2.le LB)
              | (have q1 : (W.alloc (.cells #[] 3)).drew.ownsRow W.heap.size 3 1 (.slice (some ⟨W.heap.size, 0, none⟩) 0 0) 0 [] := (own_empty (w := W.drew) (Nat.le_refl _) rfl); have q2 : Sl (W.alloc (.cells #[] 3)).drew (some ⟨gO, 0, none⟩) k c' (out.take k) := (T1.alloc (.cells #[] 3)); have q3 : W.heap.size ≤ (W.alloc (.cells #[] 3)).drew.heap.size := (Le.new W.drew (.cells #[] 3)).size; refine step_append_sl rfl (.tmp 45) (.tmp 48) 31 rfl W.heap.size 3 i0 _ 8 Try.underlying31 hi hz0 hz1 hz2 rfl (.slice (some ⟨W.heap.size, 0, none⟩) 0 0) 0 ([] : List Int) rfl q1 (some ⟨gO, 0, none⟩) k c' (out.take k) rfl q2 m1 m2 q3 ?_; intro v1 w7 O1 hg1 _; simp only [Nat.zero_add, List.nil_append] at O1; have LA0 : Le W (W.alloc (.cells #[] 3)).drew := (LD.alloc (.cells #[] 3)); have LA : Le W w7 := LA0.grown hg1 HROW.out; have x7 : w7.cell? ⟨b, off + i, none⟩ = some (.int .i64 x) := (LA.cell hbW).trans hxW; have hb7 : b < w7.heap.size := Nat.lt_of_lt_of_le hbW LA.size; have x7b : (w7.alloc (.cells #[.int .i64 x] 3)).cell? ⟨b, off + i, none⟩ = some (.int .i64 x) := ((Le.new w7 (.cells #[.int .i64 x] 3)).cell hb7).trans x7)
              | (have q1 : ((W.alloc (.cells #[] 3)).alloc (.cells #[.int .i64 x] 3)).drew.ownsRow W.heap.size 3 1 (.slice (some ⟨W.heap.size, 0, none⟩) 0 0) 0 [] := (own_empty (w := W.drew) (Nat.le_refl _) rfl).alloc (.cells #[.int .i64 x] 3); have q2 : Sl ((W.alloc (.cells #[] 3)).alloc (.cells #[.int .i64 x] 3)).drew (some ⟨gO, 0, none⟩) k c' (out.take k) := (T1.alloc (.cells #[] 3)).alloc (.cells #[.int .i64 x] 3); have q3 : W.heap.size ≤ ((W.alloc (.cells #[] 3)).alloc (.cells #[.int .i64 x] 3)).drew.heap.size := Nat.le_trans (Le.new W.drew (.cells #[] 3)).size (Le.new (W.drew.alloc (.cells #[] 3)) (.cells #[.int .i64 x] 3)).size; refine step_append_sl rfl (.tmp 45) (.tmp 48) 31 rfl W.heap.size 3 i0 _ 8 Try.underlying31 hi hz0 hz1 hz2 rfl (.slice (some ⟨W.heap.size, 0, none⟩) 0 0) 0 ([] : List Int) rfl q1 (some ⟨gO, 0, none⟩) k c' (out.take k) rfl q2 m1 m2 q3 ?_; intro v1 w7 O1 hg1 _; simp only [Nat.zero_add, List.nil_append] at O1; have LA0 : Le W ((W.alloc (.cells #[] 3)).alloc (.cells #[.int .i64 x] 3)).drew := (LD.alloc (.cells #[] 3)).alloc (.cells #[.int .i64 x] 3); have LA : Le W w7 := LA0.grown hg1 HROW.out; have x7 : w7.cell? ⟨b, off + i, none⟩ = some (.int .i64 x) := (LA.cell hbW).trans hxW; have hb7 : b < w7.heap.size := Nat.lt_of_lt_of_le hbW LA.size; have SX0 : Sl ((W.alloc (.cells #[] 3)).alloc (.cells #[.int .i64 x] 3)).drew (some ⟨W.heap.size + 1, 0, none⟩) 1 1 [x] := sl_one (w := W.drew.alloc (.cells #[] 3)) (cs := #[.int .i64 x]) (T := 3) x rfl hokx (b := W.heap.size + 1) HS1.out; have SXB : Sl w7 (some ⟨W.heap.size + 1, 0, none⟩) 1 1 [x] := SX0.grown hg1 (fun _ a e h => HNE1.out a e h))
              | (have q1 : ((W.alloc (.cells #[.int .i64 x] 3)).alloc (.cells #[] 3)).drew.ownsRow W.heap.size 3 1 (.slice (some ⟨W.heap.size + 1, 0, none⟩) 0 0) 0 [] := own_empty (w := W.drew.alloc (.cells #[.int .i64 x] 3)) (Le.new W.drew (.cells #[.int .i64 x] 3)).size HS2.out; have q2 : Sl ((W.alloc (.cells #[.int .i64 x] 3)).alloc (.cells #[] 3)).drew (some ⟨gO, 0, none⟩) k c' (out.take k) := (T1.alloc (.cells #[.int .i64 x] 3)).alloc (.cells #[] 3); have q3 : W.heap.size ≤ ((W.alloc (.cells #[.int .i64 x] 3)).alloc (.cells #[] 3)).drew.heap.size := Nat.le_trans (Le.new W.drew (.cells #[.int .i64 x] 3)).size (Le.new (W.drew.alloc (.cells #[.int .i64 x] 3)) (.cells #[] 3)).size; refine step_append_sl rfl (.tmp 45) (.tmp 48) 31 rfl W.heap.size 3 i0 _ 8 Try.underlying31 hi hz0 hz1 hz2 rfl (.slice (some ⟨W.heap.size + 1, 0, none⟩) 0 0) 0 ([] : List Int) rfl q1 (some ⟨gO, 0, none⟩) k c' (out.take k) rfl q2 m1 m2 q3 ?_; intro v1 w7 O1 hg1 _; simp only [Nat.zero_add, List.nil_append] at O1; have LA0 : Le W ((W.alloc (.cells #[.int .i64 x] 3)).alloc (.cells #[] 3)).drew := (LD.alloc (.cells #[.int .i64 x] 3)).alloc (.cells #[] 3); have LA : Le W w7 := LA0.grown hg1 HROW2.out; have x7 : w7.cell? ⟨b, off + i, none⟩ = some (.int .i64 x) := (LA.cell hbW).trans hxW; have hb7 : b < w7.heap.size := Nat.lt_of_lt_of_le hbW LA.size; have SX0 : Sl ((W.alloc (.cells #[.int .i64 x] 3)).alloc (.cells #[] 3)).drew (some ⟨W.heap.size, 0, none⟩) 1 1 [x] := (sl_one (w := W.drew) (cs := #[.int .i64 x]) (T := 3) x rfl hokx (b := W.heap.size) rfl).alloc (.cells #[] 3); have SXC : Sl w7 (some ⟨W.heap.size, 0, none⟩) 1 1 [x] := SX0.grown hg1 (fun _ a e h => HNE2.out a e h)))
            all_goals
              have hln : ((out.take k ++ [x]) ++ out.drop k).length = k + 1 + l2 := by have := HL2.out; simp [List.length_take, List.length_drop]; omega
              have O4 : w9.ownsRow w.heap.size 3 1 v3 ((out.take k ++ [x]) ++ out.drop k).length (((out.take k ++ [x]) ++ out.drop k).flatMap Enc.cells) := by rw [hln]; exact own_mono O3' LW.size
              have hv3 : v3.ownBlock ≠ none := by
                rcases O4.2 with ⟨_, h⟩ | ⟨g, c3, _, h, _⟩
                · rw [hln] at h; omega
                · rw [h]; simp [Value.ownBlock]
              have hll : ((out.take k ++ [x]) ++ out.drop k).length ≤ i + 1 := by rw [hln]; have := HL2.out; omega
              have HF := Lib.hid hll; have HO4 := Lib.hid O4; have HV3 := Lib.hid hv3; have HLC := Lib.hid (LW.trans LC)
              clear hln O4 hv3 hll O3' O1 O2 hg1 hg2 hg3 LB LC LA
              clear T1 T2 T8 x7 x8 x9 OW SW hx0 hxW
              go_wp2
              go_roundw
              case rel => exact ⟨i + 1, _, by omega, by go_num, HO4.out, HLC.out, HAS.out, HM2.out, HF.out, HV3.out⟩
              case measure => simp [intOf]; omega
    · have hk' : i = L.length := by omega
      have HO : Hid (∀ v, wr.ownsRow w.heap.size 3 1 v out.length (out.flatMap Enc.cells) → SortOut L w (.returned v) wr) := fun v hv => by
        refine ⟨v, out, rfl, ⟨hv, HOK.out⟩, hle, HA.out, fun x => ?_, by omega⟩
        rw [HM.out, hk', List.take_length]
      clear hk'
      go_wp2
      go_ret
      exact HO.out _ O
end
end Go.Proofs.Ytonpgohigncjeaa
