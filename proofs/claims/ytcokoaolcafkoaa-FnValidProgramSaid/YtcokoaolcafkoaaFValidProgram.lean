/- the law FnValidProgram -/
import Derived.Test.YtcokoaolcafkoaaDPg
import Derived.Test.YtcokoaolcafkoaaPdV
import Derived.Test.YtcokoaolcafkoaaPhW
namespace Go.Proofs.Ytcokoaolcafkoaa
open Go.RowKit
set_option maxHeartbeats 4000000 in
set_option maxRecDepth 100000 in
theorem fnValidProgram_walk (A : Option Addr) (n cap : Nat) (bs : List By) (w : World) (hR : Sl w A n cap bs) :
    Calls Try.prog 3 #[.slice A n cap] w fun e w' => e = .returned (.bool true) ∧ Le w w' := by
  have hm := hR.n_le
  by_cases hbig : 1048576 < n
  · go_enter Try.func3, Try.ntmps3
    go_wp2
    go_ret
    exact ⟨rfl, Le.refl w⟩
  obtain ⟨i0, hi, hz0, hz1, hz2⟩ := info_parts infoLn
  go_enter Try.func3, Try.ntmps3
  go_wp2_with fail
  refine (drawValidProgram_any A n cap bs w hR).mono ?_
  rintro e w1 ⟨B, D, m, c, q, d, xs, p, rfl, S, hm8, S2, hq24, L0⟩
  obtain rfl := S2.len
  have hm1 : m ≤ 1048576 := by omega
  have hsm : p.length ≤ 1048576 := by omega
  clear hbig hm hR
  go_wp2_with fail
  obtain ⟨ct, zt, hleB⟩ := box1 w1 (.slice B m c) 25
  replace S := S.le hleB
  replace L0 := L0.trans hleB
  replace S2 := S2.le hleB
  clear hleB
  generalize w1.alloc (.cells #[.slice B m c] 25) = W1 at *
  go_wp2_with fail
  refine (pValidProgram_any B D m c _ d xs p hm1 W1 S S2).mono ?_
  rintro e w2 ⟨rfl, hle⟩
  replace ct := (hle.cell zt).trans ct
  replace zt := Nat.lt_of_lt_of_le zt hle.size
  replace S := S.le hle
  replace L0 := L0.trans hle
  replace S2 := S2.le hle
  clear hle
  go_wp2_with fail
  refine (sValidProgram_any B D m c _ d xs p hsm w2 S S2).mono ?_
  rintro e w3 ⟨rfl, hle⟩
  replace ct := (hle.cell zt).trans ct
  replace zt := Nat.lt_of_lt_of_le zt hle.size
  replace S := S.le hle
  replace L0 := L0.trans hle
  replace S2 := S2.le hle
  clear hle
  cases hv : vp xs p
  · go_wp2_with fail
    refine (sValidProgram_any B D m c _ d xs p hsm w3 S S2).mono ?_
    rintro e w4 ⟨rfl, hle⟩
    replace L0 := L0.trans hle
    clear hle
    rw [hv]
    go_wp2
    go_ret
    exact ⟨rfl, L0⟩
  have hvq := vp_qz hv
  have hvn := vp_nil hv
  have O0 := own_empty (w := w3) (base := w3.heap.size) (g := w3.heap.size) (e := 31) (size := 4) (by simp) (by simp)
  have LE := Le.new w3 (.cells #[] 31)
  have SX := S2.le LE
  have HS := Lib.hid (S.le LE)
  have HC := Lib.hid ((LE.cell zt).trans ct)
  have HL0 := Lib.hid (L0.trans LE)
  have HZ := zt
  have HS2 := S2
  have hsw := L0.size
  clear S2 ct L0 LE
  go_wp2_with (at_builtin; refine wpList_append_sl rfl (.tmp 33) (.tmp 34) 26 rfl w3.heap.size 31 i0 _ 32 Try.underlying26 hi hz0 hz1 hz2 rfl (.slice (some ⟨w3.heap.size, 0, none⟩) 0 0) 0 ([] : List Lin) rfl O0 D p.length d p rfl SX (by unfold maxLen; omega) (by omega) (by simp) ?_; intro v4 w4 O4 hg4 hbl; simp only [Nat.zero_add, List.nil_append] at O4; have HS4 : Hid (Sl w4 B m c xs) := HS.out.grown hg4 (fun hn a e e2 => by simp [Value.ownBlock] at e2; have := S.under hn a e; omega); have HC4 : Hid (w4.cell? ⟨w1.heap.size, 0, none⟩ = some (.slice B m c)) := hg4.cell (a := ⟨w1.heap.size, 0, none⟩) HC.out (fun e => by simp [Value.ownBlock] at e; omega); have HL4 : Hid (Le w w4) := HL0.out.grown hg4 (fun k hk => by simp [Value.ownBlock] at hk; omega); have HZ4 : Hid (w3.heap.size < w4.heap.size) := (by show _ < _; have := hg4.size; simp at this; omega); clear hg4 hbl O0 SX)
  obtain ⟨G, gq, rfl⟩ := own_form O4
  have HG : Hid (0 < p.length → ∃ b, G = some ⟨b, 0, none⟩ ∧ w3.heap.size ≤ b) := by
    intro h0
    obtain ⟨j, hj⟩ : ∃ j, p.length = j + 1 := ⟨p.length - 1, by omega⟩
    have O := O4
    rw [hj] at O
    obtain ⟨b, cp, e⟩ := own_some O
    have hb := (O.lt b (by rw [e]; rfl)).1
    injection e with e
    exact ⟨b, e, hb⟩
  have HSU : Hid (0 < m → ∀ a, B = some a → a.block < w3.heap.size) := fun hn a e => S.under hn a e
  have hok := HS2.ok
  have HVQ := Lib.hid hvq
  have HVN := Lib.hid hvn
  clear S HS HC HL0 HS2 hvq hvn
  go_loopw [7] (fun i wr => ∃ (j : Nat) (L : List Lin), i = .int .i64 j ∧ Mid p L j ∧ (∀ x ∈ L, Enc.ok x) ∧ wr.ownsRow w3.heap.size 31 (Enc.size Lin) (.slice G p.length gq) p.length (L.flatMap Enc.cells) ∧ Sl wr B m c xs ∧ wr.cell? ⟨w1.heap.size, 0, none⟩ = some (.slice B m c) ∧ Le w wr ∧ w3.heap.size < wr.heap.size) (fun i _ => p.length - (intOf i).toNat)
  case atStart => exact ⟨0, p, rfl, Mid.start p, hok, O4, HS4.out, HC4.out, HL4.out, HZ4.out⟩
  case round =>
    clear O4 HS4 HC4 HL4 HZ4 hok
    obtain ⟨j, L, rfl, hM, hok, O, S, ct, L0, zw⟩ := hrel
    have hLl := hM.1
    have HM := Lib.hid hM
    have HOK := Lib.hid hok
    clear hM hok
    by_cases hlt : j < p.length
    · obtain ⟨b, rfl, hb⟩ := HG.out (by omega)
      have hjl : j < L.length := by omega
      have hat := HM.out.at_ hlt
      have c0 : wr.cell? ⟨b, j * 4, none⟩ = some (.int .i64 p[j].depth) := by rw [O.cellAt _ (by show _ < _ * 4; omega), ← hat]; exact flat_at L j hjl 0 (by decide)
      have c1 : wr.cell? ⟨b, j * 4 + 1, none⟩ = some (.int .i64 p[j].kind) := by rw [O.cellAt _ (by show _ < _ * 4; omega), ← hat]; exact flat_at L j hjl 1 (by decide)
      have hji : (j : Int) < (p.length : Int) := by omega
      by_cases hk : p[j].kind = 1
      · have c2 : wr.cell? ⟨b, j * 4 + 2, none⟩ = some (.int .i64 p[j].a) := by rw [O.cellAt _ (by show _ < _ * 4; omega), ← hat]; exact flat_at L j hjl 2 (by decide)
        have c3 : wr.cell? ⟨b, j * 4 + 3, none⟩ = some (.int .i64 p[j].b) := by rw [O.cellAt _ (by show _ < _ * 4; omega), ← hat]; exact flat_at L j hjl 3 (by decide)
        have f0 := O.frozenAt (j * 4)
        have f1 := O.frozenAt (j * 4 + 1)
        have f2 := O.frozenAt (j * 4 + 2)
        have f3 := O.frozenAt (j * 4 + 3)
        have HDK : Hid (-9223372036854775808 ≤ p[j].depth ∧ p[j].depth ≤ 9223372036854775807) := by
          have h := HOK.out _ (List.getElem_mem hjl)
          rw [hat] at h
          exact ⟨h.1, h.2.1⟩
        have HP := Lib.hid (HM.out.put hlt hk)
        rw [hk] at c1
        generalize p[j].depth = dk at *
        have h4 := ((((O.stored (j * 4) (.int .i64 dk)).1.stored (j * 4 + 1) (.int .i64 0)).1.stored (j * 4 + 2) (.int .i64 0)).1.stored (j * 4 + 3) (.int .i64 0)).1
        rw [flat_lin4 L j hjl dk 0 0 0] at h4
        have HO4 := Lib.hid h4
        have HOK4 : Hid (∀ x ∈ L.set j ⟨dk, 0, 0, 0⟩, Enc.ok x) := fun x hx => by
          rcases List.mem_or_eq_of_mem_set hx with h | rfl
          · exact HOK.out x h
          · exact ⟨HDK.out.1, HDK.out.2, by show (-9223372036854775808 : Int) ≤ 0; decide, by show (0 : Int) ≤ 9223372036854775807; decide, by show (-9223372036854775808 : Int) ≤ 0; decide, by show (0 : Int) ≤ 9223372036854775807; decide, by show (-9223372036854775808 : Int) ≤ 0; decide, by show (0 : Int) ≤ 9223372036854775807; decide⟩
        have hne : b ≠ w1.heap.size := by omega
        have HS4 := Lib.hid ((((S.grown (grown_set wr b (j * 4) (.int .i64 dk)) (fun hn a e e2 => by have e3 : a.block = b := (by injection e2); have := HSU.out hn a e; omega)).grown (grown_set _ b (j * 4 + 1) (.int .i64 0)) (fun hn a e e2 => by have e3 : a.block = b := (by injection e2); have := HSU.out hn a e; omega)).grown (grown_set _ b (j * 4 + 2) (.int .i64 0)) (fun hn a e e2 => by have e3 : a.block = b := (by injection e2); have := HSU.out hn a e; omega)).grown (grown_set _ b (j * 4 + 3) (.int .i64 0)) (fun hn a e e2 => by have e3 : a.block = b := (by injection e2); have := HSU.out hn a e; omega))
        have HC4 : Hid (((((wr.setCell ⟨b, j * 4, none⟩ (.int .i64 dk)).setCell ⟨b, j * 4 + 1, none⟩ (.int .i64 0)).setCell ⟨b, j * 4 + 2, none⟩ (.int .i64 0)).setCell ⟨b, j * 4 + 3, none⟩ (.int .i64 0)).cell? ⟨w1.heap.size, 0, none⟩ = some (.slice B m c)) := by show _ = _; rw [cell_set_other (.inl hne), cell_set_other (.inl hne), cell_set_other (.inl hne), cell_set_other (.inl hne)]; exact ct
        have hsw2 : w.heap.size ≤ b := by omega
        have HL4 := Lib.hid ((((L0.setCell (b := b) (o := j * 4) hsw2 (.int .i64 dk)).setCell (b := b) (o := j * 4 + 1) hsw2 (.int .i64 0)).setCell (b := b) (o := j * 4 + 2) hsw2 (.int .i64 0)).setCell (b := b) (o := j * 4 + 3) hsw2 (.int .i64 0))
        have HZ4 : Hid (w3.heap.size < ((((wr.setCell ⟨b, j * 4, none⟩ (.int .i64 dk)).setCell ⟨b, j * 4 + 1, none⟩ (.int .i64 0)).setCell ⟨b, j * 4 + 2, none⟩ (.int .i64 0)).setCell ⟨b, j * 4 + 3, none⟩ (.int .i64 0)).heap.size) := Nat.lt_of_lt_of_le zw (Nat.le_trans (grown_set wr b (j * 4) _).size (Nat.le_trans (grown_set _ b (j * 4 + 1) _).size (Nat.le_trans (grown_set _ b (j * 4 + 2) _).size (grown_set _ b (j * 4 + 3) _).size)))
        clear h4 O S ct L0 zw hat hk
        go_wp2
        go_roundw
        case rel => exact ⟨j + 1, L.set j ⟨dk, 0, 0, 0⟩, by go_num, HP.out, HOK4.out, HO4.out, HS4.out, HC4.out, HL4.out, HZ4.out⟩
        case measure => simp [intOf]; omega
      · have hkb : (p[j].kind == 1) = false := beq_eq_false_iff_ne.2 hk
        have HP := Lib.hid (HM.out.keep hlt hk)
        go_wp2
        go_roundw
        case rel => exact ⟨j + 1, L, by go_num, HP.out, HOK.out, O, S, ct, L0, zw⟩
        case measure => simp [intOf]; omega
    · have hL := HM.out.done (by omega)
      have SL := Sl.of_own O rfl (by decide) HOK.out
      have hz1 : w1.heap.size < wr.heap.size := by omega
      subst hL
      clear O
      go_wp2_with fail
      refine (pValidProgram_any B G m c p.length gq xs _ hm1 wr S SL).mono ?_
      rintro e w5 ⟨rfl, hle⟩
      rw [HVQ.out]
      replace ct := (hle.cell hz1).trans ct
      replace S := S.le hle
      replace L0 := L0.trans hle
      clear SL hle
      go_wp2_with fail
      refine (pValidProgram_any B none m c 0 0 xs [] hm1 w5 S (Sl.nil _ _ _ (by omega))).mono ?_
      rintro e w6 ⟨rfl, hle⟩
      rw [HVN.out]
      replace L0 := L0.trans hle
      go_wp2
      go_ret
      exact ⟨rfl, L0⟩
end Go.Proofs.Ytcokoaolcafkoaa
