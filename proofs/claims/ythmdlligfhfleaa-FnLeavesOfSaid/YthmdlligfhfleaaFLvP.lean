/- the law FnLeavesOf -/
import Derived.Test.YthmdlligfhfleaaCj11
import Derived.Test.YthmdlligfhfleaaCj16
import Derived.Test.YthmdlligfhfleaaCj15
import Derived.Test.YthmdlligfhfleaaCj10
namespace Go.Proofs.Ythmdlligfhfleaa
open Go.RowKit
theorem cat_le {xs : List Cls} {G : List (List Prt)} (a : Nat) : (catL xs (G.take a)).length ≤ (catL xs G).length := by
  have e : catL xs G = catL xs (G.take a) ++ catL xs (G.drop a) := by
    unfold catL
    rw [← List.flatten_append, ← List.map_append, List.take_append_drop]
  rw [e, List.length_append]; omega
theorem lv_small {xs : List Cls} {L : List Prt} (h : gOkS xs L = true) : (lvX xs L).length ≤ 16 := by
  obtain ⟨t, rfl, ht⟩ := gOk_iff.1 h
  rw [lvX_tree ht]
  have := leaves_len t
  have := ht.sz
  omega
theorem lv_none {xs : List Cls} {L : List Prt} (h : gOkS xs L = false) : (lvX xs L).length = 0 := by rw [(kids_bad h).1]; rfl
theorem OwL.grB {α : Type} [Enc α] {TT T : TypeId} {w0 w w' : World} {v : Value} {hs : List Hdr} {L : List (List α)} {S : Nat → Prop} (h : OwL TT T w0 w v hs L) (hg : GrB S w w') (hS : ∀ k, w0.heap.size ≤ k → k < w.heap.size → ¬ S k) : OwL TT T w0 w' v hs L :=
  ⟨⟨own_grB h.top.row hg (fun k e => hS k (h.top.row.lt k e).1 (h.top.row.lt k e).2), h.top.ok⟩, h.len, fun i x l e f => ⟨own_grB (h.each i x l e f).row hg (fun k e2 => hS k ((h.each i x l e f).row.lt k e2).1 ((h.each i x l e f).row.lt k e2).2), (h.each i x l e f).ok⟩, h.apart, h.off⟩
set_option maxHeartbeats 4000000 in
set_option maxRecDepth 100000 in
theorem fnLeavesOf_walk (A : Option Addr) (n cap : Nat) (bs : List By) (w : World) (hR : Sl w A n cap bs) :
    Calls Try.prog 4 #[.slice A n cap] w fun e w' => e = .returned (.bool true) ∧ Le w w' := by
  have hm := hR.n_le
  by_cases hbig : 1048576 < n
  · go_enter Try.func4, Try.ntmps4
    go_wp2
    go_ret
    exact ⟨rfl, Le.refl w⟩
  go_enter Try.func4, Try.ntmps4
  go_wp2_with fail
  refine (drawLeavesOf_any A n cap bs w hR).mono ?_
  rintro e w1 ⟨B, D, m, c, k, d, xs, L, rfl, S, hm8, S2, hk40, hW, L0⟩
  go_wp2_with fail
  obtain ⟨ct, zt, hleB⟩ := box1 w1 (.slice B m c) 25
  replace S := S.le hleB
  replace L0 := L0.trans hleB
  replace S2 := S2.le hleB
  clear hleB
  generalize w1.alloc (.cells #[.slice B m c] 25) = W1 at *
  have hlen2 := S2.len
  go_wp2_with fail
  refine (Calls.sl1o (by decide) (iLeavesOf_any B D m c k d xs L W1 S S2)).mono ?_
  rintro e w2 ⟨A2, c2, rfl, S3, hle⟩
  replace ct := (hle.cell zt).trans ct
  replace zt := Nat.lt_of_lt_of_le zt hle.size
  replace S := S.le hle
  replace L0 := L0.trans hle
  replace S2 := S2.le hle
  clear hle
  go_wp2_with fail
  refine (Calls.sl1o (by decide) (sLeavesOf_any B D m c k d xs L w2 S S2)).mono ?_
  rintro e w3 ⟨A3, c3, rfl, S4, hle⟩
  replace ct := (hle.cell zt).trans ct
  replace zt := Nat.lt_of_lt_of_le zt hle.size
  replace S := S.le hle
  replace L0 := L0.trans hle
  replace S2 := S2.le hle
  replace S3 := S3.le hle
  clear hle
  go_wp2_with fail
  refine (equalLeaves_self A2 A3 _ c2 c3 (lvX xs L) w3 S3 S4).mono ?_
  rintro e w4 ⟨rfl, hle⟩
  replace ct := (hle.cell zt).trans ct
  replace zt := Nat.lt_of_lt_of_le zt hle.size
  replace S := S.le hle
  replace L0 := L0.trans hle
  replace S2 := S2.le hle
  replace S3 := S3.le hle
  clear hle
  clear S4
  cases ho : gOkS xs L
  · have hz := lv_none ho
    have hz1 : (((lvX xs L).length : Int) == 0) = true := by rw [hz]; rfl
    clear hz
    go_wp2_with fail
    refine (Calls.sl1o (by decide) (sLeavesOf_any B D m c k d xs L w4 S S2)).mono ?_
    rintro e w5 ⟨A5, c5, rfl, S5, hle⟩
    replace L0 := L0.trans hle
    replace S3 := S3.le hle
    clear hle
    go_wp2_with fail
    refine (equalLeaves_self A2 A5 _ c2 c5 (lvX xs L) w5 S3 S5).mono ?_
    rintro e w6 ⟨rfl, hle⟩
    replace L0 := L0.trans hle
    clear hle
    go_wp2
    go_ret
    exact ⟨rfl, L0⟩
  obtain ⟨hv, hlv, hpos, hgk⟩ := kids_facts ho
  obtain ⟨hone, hcat⟩ := lv_facts ho
  have hsm := lv_small ho
  have hz1 : (((lvX xs L).length : Int) == 0) = false := by rw [beq_eq_false_iff_ne]; omega
  have hz2 : ¬ (lvX xs L).length = 0 := by omega
  have HB : Hid (∀ a, (catL xs ((kidsX xs L).take a)).length ≤ 16) := fun a => by
    by_cases he : kidsX xs L = []
    · rw [he, List.take_nil]; exact Nat.zero_le _
    · have := cat_le (xs := xs) (G := kidsX xs L) a; rw [hcat he] at this; omega
  have HONE := Lib.hid hone
  have HCAT := Lib.hid hcat
  clear hv hgk hone hcat hpos
  go_wp2_with fail
  have O0 := own_empty (w := w4) (base := w4.heap.size) (g := w4.heap.size) (e := 45) (size := 2) (Nat.le_refl _) rfl
  have LA := Le.new w4 (.cells #[] 45)
  have hs4 : Hid ((w4.alloc (.cells #[] 45)).heap.size = w4.heap.size + 1) := by show _ = _; simp
  have Sa := S.le LA
  have Sb := S2.le LA
  generalize w4.alloc (.cells #[] 45) = W4 at *
  refine (iKidsOf_any B D m c k d xs L W4 Sa Sb).mono ?_
  rintro e w5 ⟨vv, hs, rfl, OW, hle⟩
  obtain ⟨A4, c4, rfl, -⟩ := OW.form
  have O1 := own_le O0 hle
  have L5 := LA.trans hle
  have hzt : Hid (w1.heap.size < w4.heap.size) := zt
  have zb5 : w4.heap.size < w5.heap.size := by have := hs4.out; have := hle.size; omega
  clear hle O0 LA Sa Sb
  have hsl := OW.len
  have hm4 : (kidsX xs L).length ≤ 9223372036854775807 := by obtain ⟨_, _, _, SS⟩ := OW.form; exact SS.n_le
  generalize kidsX xs L = M at *
  obtain ⟨i0, hi0, hz0, hzz1, hzz2⟩ := info_parts infoLefS
  go_wp2
  go_loopw [6, 8] (fun v i wr => ∃ a : Nat, a ≤ M.length ∧ i = .int .i64 a ∧ wr.ownsRow w4.heap.size 45 2 v (catL xs (M.take a)).length ((catL xs (M.take a)).flatMap Enc.cells) ∧ (∀ q, v.ownBlock = some q → q = w4.heap.size ∨ w5.heap.size ≤ q) ∧ GrB (fun k => k = w4.heap.size ∨ w5.heap.size ≤ k) w5 wr) (fun _ i _ => M.length - (intOf i).toNat)
  case atStart =>
    have e0 : catL xs (M.take 0) = [] := rfl
    exact ⟨0, Nat.zero_le _, rfl, by rw [e0]; exact O1, fun q e => .inl (by simp [Value.ownBlock] at e; omega), GrB.refl _ _⟩
  case round =>
    obtain ⟨a, ha, rfl, O, hob, GB⟩ := hrel
    clear O1
    have hbb : Hid (∀ k, (Value.slice A4 M.length c4).ownBlock = some k → W4.heap.size ≤ k ∧ k < w5.heap.size) := fun k e => OW.top.row.lt k e
    have LW : Le w4 wr := L5.grB GB (fun k h => by omega)
    have zr := GB.size
    replace ct := (LW.cell zt).trans ct
    replace zt := Nat.lt_of_lt_of_le zt LW.size
    replace S := S.le LW
    replace L0 := L0.trans LW
    replace S2 := S2.le LW
    replace S3 := S3.le LW
    replace OW := OW.grB GB (fun k h1 h2 h3 => by have := hs4.out; omega)
    obtain ⟨A', c', e', S4⟩ := OW.form
    injection e' with e1 e2 e3
    subst e1
    subst e3
    clear e2
    by_cases hlt : a < M.length
    · have hai : (a : Int) < M.length := by omega
      have hah : a < hs.length := by omega
      obtain ⟨b, off, rfl, hb, hcell⟩ := S4.hdr_at hah
      have hb3 := hbb.out b (by simp [Value.ownBlock])
      have hz4 := hzt.out
      have s1 := (OW.rd (by decide)).at_ hah hlt
      have hb1 := HB.out a
      have hb2 := HB.out (a + 1)
      have hcs := catL_snoc xs hlt
      rw [hcs, List.length_append] at hb2
      have LD := (Le.refl wr).drew
      have Sd := S.le LD
      have sd := s1.le LD
      have Od := own_le O LD
      have ctd : wr.drew.cell? ⟨w1.heap.size, 0, none⟩ = some (.slice B m c) := ct
      have hcd : wr.drew.cell? ⟨b, off + a, none⟩ = some (.slice hs[a].a hs[a].n hs[a].c) := hcell
      go_wp2_with fail
      go_region_held3 (fun w' => w'.cell? ⟨w1.heap.size, 0, none⟩ = some (.slice B m c) ∧ w'.cell? ⟨b, off + a, none⟩ = some (.slice hs[a].a hs[a].n hs[a].c))
        (first | exact ⟨ctd, hcd⟩ | exact ⟨ct7, hc7⟩ | exact ⟨ct6, hc6⟩)
        (first
        | (go_at_call 12; refine (Calls.sl1o (by decide) (iLeavesOf_any B hs[a].a m c hs[a].n hs[a].c xs M[a] _ Sd sd)).mono ?_; rintro e w6 ⟨A6, c6, rfl, S6, hle⟩; have ct6 := (hle.cell zt).trans ctd; have hc6 := (hle.cell hb).trans hcd; have O6 := own_le Od hle; have L6 := LD.trans hle; have z6 := L6.size)
        | (refine step_append_sl rfl (.tmp 46) (.tmp 52) 32 rfl w4.heap.size 45 i0 _ 16 Try.underlying32 hi0 hz0 hzz1 hzz2 rfl _ _ (catL xs (M.take a)) rfl O6 A6 _ c6 (lvX xs M[a]) rfl S6 (by unfold maxLen; omega) (by omega) (by omega) ?_; intro v7 w7 O7 hg7 hat; have ct7 := hg7.cell (a := ⟨w1.heap.size, 0, none⟩) ct6 (fun e => by have h := hob _ e.symm; dsimp only at h; omega); have hc7 := hg7.cell (a := ⟨b, off + a, none⟩) hc6 (fun e => by have h := hob _ e.symm; have h2 := hs4.out; dsimp only at h; omega)))
      all_goals
        have GB2 := (GB.trans (GrB.of_le L6)).trans (GrB.of_grown hg7 (fun k e => hob k e))
        have hob2 : ∀ q, v7.ownBlock = some q → q = w4.heap.size ∨ w5.heap.size ≤ q := fun q e => by
          rcases hat with h | h
          · rw [h] at e; exact hob q e
          · rw [h] at e; injection e with e; omega
        clear hg7 ct7 hc7 ct6 hc6 O6 Od ctd hcd Sd sd OW S4 s1 S6 hat
        go_wp2
        go_roundw
        case rel => exact ⟨a + 1, by omega, by go_num, by rw [hcs, List.length_append]; exact O7, hob2, GB2⟩
        case measure => simp [intOf]; omega
    · have hai : ¬ (a : Int) < M.length := by omega
      obtain rfl : a = M.length := by omega
      rw [List.take_length] at O
      clear OW S4 GB
      by_cases hM : M = []
      · have h1 := HONE.out hM
        have hm0 : ((M.length : Int) == 0) = true := by rw [hM]; rfl
        have h11 : (((lvX xs L).length : Int) == 1) = true := by rw [h1]; rfl
        clear h1 hM
        go_wp2
        go_ret
        exact ⟨rfl, L0⟩
      · have hm0 : ((M.length : Int) == 0) = false := by
          rw [beq_eq_false_iff_ne]
          have := List.length_pos_iff.2 hM
          omega
        have hm1 : ¬ M.length = 0 := by have := List.length_pos_iff.2 hM; omega
        rw [HCAT.out hM] at O
        obtain ⟨A8, c8, rfl⟩ := own_form O
        have S8 := Sl.of_own O rfl (by decide) S3.ok
        clear O
        go_wp2_with fail
        refine (equalLeaves_self A8 A2 _ c8 c2 (lvX xs L) wr S8 S3).mono ?_
        rintro e w9 ⟨rfl, hle⟩
        replace L0 := L0.trans hle
        clear hle
        go_wp2
        go_ret
        exact ⟨rfl, L0⟩
end Go.Proofs.Ythmdlligfhfleaa
