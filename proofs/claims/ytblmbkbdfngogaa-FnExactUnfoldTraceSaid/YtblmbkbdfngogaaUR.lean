/- slices.Repeat of one frame -/
import Derived.Test.YtblmbkbdfngogaaTrC
import Derived.Test.YtblmbkbdfngogaaAF
import Derived.Deep.RegionLaw
namespace Go.Proofs.Ytblmbkbdfngogaa
open Go.RowKit
set_option maxRecDepth 100000 in
theorem mul64_one (c : Nat) (w : World) (h1 : 1 ≤ c) (h2 : c ≤ 12) : Calls Try.prog 82 #[.int .u64 1, .int .u64 c] w fun e w' => e = .returned (.tuple #[.int .u64 0, .int .u64 c]) ∧ w = w' := by
  obtain rfl | rfl | rfl | rfl | rfl | rfl | rfl | rfl | rfl | rfl | rfl | rfl : c = 1 ∨ c = 2 ∨ c = 3 ∨ c = 4 ∨ c = 5 ∨ c = 6 ∨ c = 7 ∨ c = 8 ∨ c = 9 ∨ c = 10 ∨ c = 11 ∨ c = 12 := by omega
  · go_enter Try.func82, Try.ntmps82
    go_wp2
    refine bodyPost_ret (v := .tuple #[.int .u64 0, .int .u64 1]) ?_ rfl ⟨rfl, rfl⟩
    simp [results, Try.results82, go_sem]
    first | done | decide
  · go_enter Try.func82, Try.ntmps82
    go_wp2
    refine bodyPost_ret (v := .tuple #[.int .u64 0, .int .u64 2]) ?_ rfl ⟨rfl, rfl⟩
    simp [results, Try.results82, go_sem]
    first | done | decide
  · go_enter Try.func82, Try.ntmps82
    go_wp2
    refine bodyPost_ret (v := .tuple #[.int .u64 0, .int .u64 3]) ?_ rfl ⟨rfl, rfl⟩
    simp [results, Try.results82, go_sem]
    first | done | decide
  · go_enter Try.func82, Try.ntmps82
    go_wp2
    refine bodyPost_ret (v := .tuple #[.int .u64 0, .int .u64 4]) ?_ rfl ⟨rfl, rfl⟩
    simp [results, Try.results82, go_sem]
    first | done | decide
  · go_enter Try.func82, Try.ntmps82
    go_wp2
    refine bodyPost_ret (v := .tuple #[.int .u64 0, .int .u64 5]) ?_ rfl ⟨rfl, rfl⟩
    simp [results, Try.results82, go_sem]
    first | done | decide
  · go_enter Try.func82, Try.ntmps82
    go_wp2
    refine bodyPost_ret (v := .tuple #[.int .u64 0, .int .u64 6]) ?_ rfl ⟨rfl, rfl⟩
    simp [results, Try.results82, go_sem]
    first | done | decide
  · go_enter Try.func82, Try.ntmps82
    go_wp2
    refine bodyPost_ret (v := .tuple #[.int .u64 0, .int .u64 7]) ?_ rfl ⟨rfl, rfl⟩
    simp [results, Try.results82, go_sem]
    first | done | decide
  · go_enter Try.func82, Try.ntmps82
    go_wp2
    refine bodyPost_ret (v := .tuple #[.int .u64 0, .int .u64 8]) ?_ rfl ⟨rfl, rfl⟩
    simp [results, Try.results82, go_sem]
    first | done | decide
  · go_enter Try.func82, Try.ntmps82
    go_wp2
    refine bodyPost_ret (v := .tuple #[.int .u64 0, .int .u64 9]) ?_ rfl ⟨rfl, rfl⟩
    simp [results, Try.results82, go_sem]
    first | done | decide
  · go_enter Try.func82, Try.ntmps82
    go_wp2
    refine bodyPost_ret (v := .tuple #[.int .u64 0, .int .u64 10]) ?_ rfl ⟨rfl, rfl⟩
    simp [results, Try.results82, go_sem]
    first | done | decide
  · go_enter Try.func82, Try.ntmps82
    go_wp2
    refine bodyPost_ret (v := .tuple #[.int .u64 0, .int .u64 11]) ?_ rfl ⟨rfl, rfl⟩
    simp [results, Try.results82, go_sem]
    first | done | decide
  · go_enter Try.func82, Try.ntmps82
    go_wp2
    refine bodyPost_ret (v := .tuple #[.int .u64 0, .int .u64 12]) ?_ rfl ⟨rfl, rfl⟩
    simp [results, Try.results82, go_sem]
    first | done | decide
theorem mul_one_c (c : Nat) (w : World) (h1 : 1 ≤ c) (h2 : c ≤ 12) : Calls Try.prog 79 #[.int .u64 1, .int .u64 c] w fun e w' => e = .returned (.tuple #[.int .u64 0, .int .u64 c]) ∧ w = w' := by
  go_enter Try.func79, Try.ntmps79
  go_wp2_with fail
  refine (mul64_one c w h1 h2).mono ?_
  rintro e w' ⟨rfl, rfl⟩
  have hw : IntKind.u64.wrap (c : Int) = (c : Int) := IntWalk.u64_in _ (by omega)
  go_wp2
  exact bodyPost_ret (v := .tuple #[.int .u64 0, .int .u64 c]) (by simp [results, Try.results79, go_sem]) rfl ⟨rfl, rfl⟩
abbrev RPT : FuncId := 71
set_option maxHeartbeats 2000000 in
set_option maxRecDepth 100000 in
theorem repeat_any (A : Option Addr) (f : Frm) (c : Nat) (w : World) (hR : Sl w A 1 1 [f]) (h1 : 1 ≤ c) (h2 : c ≤ 12) :
    Calls Try.prog 71 #[.slice A 1 1, .int .i64 c] w fun e w' => ∃ v, e = .returned v ∧ Owd 34 w w' v (List.replicate c f) ∧ Le w w' := by
  obtain ⟨i0', hi, hz0, hz1, hz2⟩ := info_parts infoFrame
  have hb2 : i0'.bytes * c ≤ 281474976710656 := by rw [hz2]; omega
  have hneg : decide ((c : Int) < 0) = false := decide_eq_false (by omega)
  go_enter Try.func71, Try.ntmps71
  obtain ⟨b, off, rfl, hb, hcell0, hcell1, -⟩ := hR.frm_at (k := 0) (by simp)
  simp only [Nat.zero_mul, Nat.add_zero, List.getElem_cons_zero] at hcell0 hcell1
  have hokf : Enc.ok f := hR.ok f (by simp)
  have hw1 : IntKind.i64.wrap (c : Int) = (c : Int) := IntWalk.i64_in _ (by omega)
  have hc0 : decide (9223372036854775807 < (c : Int)) = false := decide_eq_false (by omega)
  go_wp2_with fail
  refine (mul_one_c c w h1 h2).mono ?_
  rintro e w' ⟨rfl, rfl⟩
  have hmin : Nat.min 1 c = 1 := by show min 1 c = 1; omega
  go_wp2_with (first
    | (refine wpList_make_full _ rfl _ _ 25 rfl w.heap.size 34 i0' _ 2 Try.underlying25 hi hz0 hz1 .i64 .i64 _ _ c rfl rfl rfl rfl hb2 (by unfold maxLen; omega) (Nat.le_refl _) ?_; intro w1 hown1 hg1; have hl1 := (Le.refl w).grown hg1 (by intro k hk; cases hk); have e0 := (hl1.cell hb).trans hcell0; have e1 := (hl1.cell hb).trans hcell1; clear hg1)
    | (refine wpList_copy_win rfl _ _ 25 25 rfl w.heap.size 34 i0' Try.underlying25 hi hz1 w.heap.size c c _ hown1 0 c c rfl ⟨b, off, none⟩ 1 1 1 rfl hmin ([f].flatMap Enc.cells) rfl (sl_cells_some (hR.le hl1)) (EncOne.all [f]) (by omega) ?_; intro w2 hown2 hg2; replace hl1 := hl1.grown hg2 (fun k hk => by injection hk with hk; omega); clear hg2 hown1 e0 e1))
  have H0 : Hid (∃ r : List Value, r.length = (c - 1) * 2 ∧ w2.ownsRow w.heap.size 34 2 (.slice (some ⟨w.heap.size, 0, none⟩) c c) c ((List.replicate 1 f).flatMap Enc.cells ++ r)) := by
    refine ⟨_, ?_, hown2⟩
    have := hown2.1
    simp [Enc.cells] at this ⊢
    omega
  clear hown2 hR hcell0 hcell1 hb hmin
  go_loopw [8] (fun i wr => ∃ (n : Nat) (r : List Value), i = .int .i64 n ∧ 1 ≤ n ∧ n ≤ c ∧ r.length = (c - n) * 2 ∧ wr.ownsRow w.heap.size 34 2 (.slice (some ⟨w.heap.size, 0, none⟩) c c) c ((List.replicate n f).flatMap Enc.cells ++ r) ∧ Le w wr) (fun i _ => c - (intOf i).toNat)
  case atStart =>
    obtain ⟨r, hr, h⟩ := H0.out
    exact ⟨1, r, rfl, by omega, h1, hr, h, hl1⟩
  case round =>
    clear H0 hl1
    obtain ⟨n, r, rfl, hn1, hnc, hr, O, hle⟩ := hrel
    by_cases hlt : n < c
    · obtain ⟨q, hq⟩ : ∃ q, Nat.min n (c - n) = q := ⟨_, rfl⟩
      have hq2 : q ≤ n ∧ q ≤ c - n ∧ 1 ≤ q := by rw [← hq]; show min n (c - n) ≤ n ∧ min n (c - n) ≤ c - n ∧ 1 ≤ min n (c - n); omega
      have hne : ¬ c = n := by omega
      have i0 : (0 : Int) ≤ (n : Int) := by omega
      have i1 : (n : Int) ≤ (c : Int) := by omega
      have hwq : IntKind.i64.wrap ((n : Int) + (q : Int)) = (n : Int) + (q : Int) := IntWalk.i64_in _ (by omega)
      have hsrc : ∀ j u, ((List.replicate q f).flatMap Enc.cells)[j]? = some u → wr.drew.cell? ((⟨w.heap.size, 0, none⟩ : Addr).add j) = some u := by
        intro j u hu
        have hj : j < ((List.replicate q f).flatMap (Enc.cells (α := Frm))).length := (List.getElem?_eq_some_iff.1 hu).1
        have e : List.replicate n f = List.replicate q f ++ List.replicate (n - q) f := by rw [List.replicate_append_replicate]; congr 1; omega
        rw [Addr.add_lit, Nat.zero_add]
        show wr.cell? _ = _
        have hjl : ((List.replicate q f).flatMap (Enc.cells (α := Frm))).length = q * 2 := by rw [flat_len, List.length_replicate]; rfl
        rw [O.cellAt _ (by omega), e, List.flatMap_append, List.append_assoc, List.getElem?_append_left hj]
        exact hu
      have HSRC := Lib.hid hsrc; clear hsrc
      have hcs : Hid (((List.replicate q f).flatMap (Enc.cells (α := Frm))).length = q * 2) := by show _ = _; rw [flat_len, List.length_replicate]; rfl
      have hone := Lib.hid (EncOne.all (List.replicate q f))
      generalize hCS : (List.replicate q f).flatMap (Enc.cells (α := Frm)) = CS at *
      have HCS := Lib.hid hCS; clear hCS
      go_wp2
      go_region_law (refine step_copy_win rfl (.tmp 41) (.tmp 44) 25 25 rfl w.heap.size 34 i0' Try.underlying25 hi hz1 w.heap.size c c _ O.drew (n * 2) (c - n) (c - n) (by go_simp) ⟨w.heap.size, 0, none⟩ n c q (by go_simp) hq CS hcs.out HSRC.out hone.out (by omega) ?_; intro w3 O3 hg3)
      have L3 := (hle.drew).grown hg3 (fun k hk => by injection hk with hk; omega)
      have hfl : ((List.replicate n f).flatMap (Enc.cells (α := Frm))).length = n * 2 := by rw [flat_len, List.length_replicate]; rfl
      have hd : ((List.replicate n f).flatMap (Enc.cells (α := Frm)) ++ r).drop (n * 2 + q * 2) = r.drop (q * 2) := by
        rw [List.drop_append, hfl, List.drop_eq_nil_of_le (by omega), List.nil_append]; congr 1; omega
      rw [List.take_left' hfl, hd, ← HCS.out, ← List.flatMap_append, List.replicate_append_replicate] at O3
      have HO3 := Lib.hid O3
      have hrl : (r.drop (q * 2)).length = (c - (n + q)) * 2 := by rw [List.length_drop, hr]; omega
      have HRL := Lib.hid hrl
      clear O3 O hg3 hrl hfl HSRC hcs hone HCS hq hd
      go_simp
      go_wp2
      refine ⟨⟨n + q, r.drop (q * 2), by congr 1, by omega, by omega, HRL.out, HO3.out, L3⟩, ?_⟩
      simp [intOf]
      try omega
    · obtain rfl : n = c := by omega
      have hr0 : r = [] := List.eq_nil_of_length_eq_zero (by rw [hr]; simp)
      subst hr0
      rw [List.append_nil] at O
      have HO := Lib.hid (⟨by rw [List.length_replicate]; exact O, fun x hx => by rw [List.eq_of_mem_replicate hx]; exact hokf⟩ : Owd 34 w wr (.slice (some ⟨w.heap.size, 0, none⟩) n n) (List.replicate n f))
      clear O
      go_wp2
      go_ret
      exact ⟨_, rfl, HO.out, hle⟩
end Go.Proofs.Ytblmbkbdfngogaa
