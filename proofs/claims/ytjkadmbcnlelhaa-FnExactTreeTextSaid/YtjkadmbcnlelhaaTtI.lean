/- texts of trees of the program: TreeText -/
import Derived.Test.YtjkadmbcnlelhaaBu
import Derived.Test.YtjkadmbcnlelhaaTtB
import Derived.Test.YtjkadmbcnlelhaaD
namespace Go.Proofs.Ytjkadmbcnlelhaa
open Go.RowKit
theorem step_rootB {xs : List Cls} (g : Good xs) (h : 0 < xs.length) {acc : List UInt8} (hs : acc ++ txB xs (xs.drop 0) = treeB xs) : (acc ++ bl xs[0].name ++ bl nlT) ++ txB xs (xs.drop (0 + 1)) = treeB xs := by
  rw [← hs, txB_at h, lnB_root g h, bl_nl]; simp
theorem step_upB {xs : List Cls} (g : Good xs) {k : Nat} (h : k < xs.length) (h0 : 0 < k) {acc : List UInt8} (hs : acc ++ txB xs (xs.drop k) = treeB xs) : ∃ p : Nat, ∃ hp : p < xs.length, xs[k].parent = (p : Int) ∧ (acc ++ bl xs[k].name ++ bl (spT ++ xs[p].name) ++ bl nlT) ++ txB xs (xs.drop (k + 1)) = treeB xs := by
  obtain ⟨p, hp, e, e2⟩ := lnB_up g h h0
  refine ⟨p, by omega, e, ?_⟩
  rw [← hs, txB_at h, e2, bl_app, bl_nl, bl_sp]; simp
set_option maxHeartbeats 4000000 in
set_option maxRecDepth 100000 in
theorem iTreeText_any (A : Option Addr) (n cap : Nat) (xs : List Cls) (w : World) (hR : Sl w A n cap xs) :
    Calls Try.prog 8 #[.agg #[.slice A n cap]] w fun e w' => e = .returned (.string (ttX xs)) ∧ Le w w' := by
  obtain rfl := hR.len
  go_enter Try.func8, Try.ntmps8
  go_wp2_with fail
  obtain ⟨c0, z0, L0⟩ := box1 w (.slice A xs.length cap) 25
  have S := hR.le L0
  generalize w.alloc (.cells #[.slice A xs.length cap] 25) = W at *
  refine (iValidTree_any A xs.length cap xs W S).mono ?_
  rintro e w1 ⟨rfl, hle⟩
  replace c0 := (hle.cell z0).trans c0
  replace z0 := Nat.lt_of_lt_of_le z0 hle.size
  replace L0 := L0.trans hle
  replace S := S.le hle
  clear hle
  cases ho : okTree xs
  · have HX := Lib.hid (ttX_of ho)
    clear ho
    go_wp2
    go_ret
    exact ⟨ret_str HX.out.symm, L0⟩
  have HX := Lib.hid (ttX_of ho)
  have g := good_of ho
  have hm := g.hi
  have HTL := Lib.hid (treeB_len g)
  have HG := Lib.hid g
  have hB0 := bl_fresh w1
  have HC := Lib.hid c0
  have HS := Lib.hid S
  have HL := Lib.hid L0
  clear ho g
  go_wp2_with fail
  have LB := Le.new w1 (.cells #[.pointer none, .slice none 0 0] 48)
  have hsz : w1.heap.size + 1 ≤ (w1.alloc (.cells #[.pointer none, .slice none 0 0] 48)).heap.size := by simp
  generalize w1.alloc (.cells #[.pointer none, .slice none 0 0] 48) = W2 at *
  go_wp2
  clear c0 S L0
  go_loopw [12] (fun i wr => ∃ (acc : List UInt8) (k : Nat), k ≤ xs.length ∧ i = .int .i64 k ∧ Hid (acc ++ txB xs (xs.drop k) = treeB xs) ∧ Bl w1.heap.size w1.heap.size acc wr ∧ w1.heap.size < wr.heap.size ∧ Le w1 wr) (fun i _ => xs.length - (intOf i).toNat)
  case atStart => exact ⟨[], 0, Nat.zero_le _, rfl, rfl, hB0, by omega, LB⟩
  case round =>
    clear hB0 LB hsz
    obtain ⟨acc, k, hk, rfl, HSP, hB, hz, LR⟩ := hrel
    have c0 := (LR.cell z0).trans HC.out
    have S := HS.out.le LR
    have hal : acc.length ≤ 112 := by
      have h1 := congrArg List.length HSP.out
      rw [List.length_append] at h1
      have := HTL.out; omega
    by_cases hlt : k < xs.length
    · have hkl : (k : Int) < (xs.length : Int) := by omega
      have hn := (name_rng (HG.out.name k hlt)).2.2
      rw [bl_len] at hn
      obtain ⟨b, off, rfl, hbl, q0, q1, _⟩ := S.cls_at hlt
      have zp := z0
      have zw : w.heap.size < wr.heap.size := by omega
      rcases Nat.eq_zero_or_pos k with h0 | h0
      · subst h0
        have HN := Lib.hid (step_rootB HG.out hlt HSP.out)
        have hpar := HG.out.root hlt
        rw [hpar] at q1
        rw [Nat.zero_mul, Nat.add_zero] at q0 q1
        clear HSP hpar
        generalize xs[0].name = nm at *
        go_wp2_with fail
        have LA := Le.new wr (.cells #[.string nm, .int .i64 (-1)] 50)
        have hA := hp_new wr (.cells #[.string nm, .int .i64 (-1)] 50) rfl
        have hBA := Lib.IsBuilderF.alloc hB (.cells #[.string nm, .int .i64 (-1)] 50)
        have e0 : (wr.alloc (.cells #[.string nm, .int .i64 (-1)] 50)).cell? ⟨wr.heap.size, 0, none⟩ = some (.string nm) := by rw [World.cell?_alloc_at _ _ _ _ rfl]; rfl
        have LRA := LR.trans LA
        have szA : wr.heap.size < (wr.alloc (.cells #[.string nm, .int .i64 (-1)] 50)).heap.size := by simp
        clear q0 q1 hB LA S c0
        generalize wr.alloc (.cells #[.string nm, .int .i64 (-1)] 50) = wa at *
        go_wp2_with fail
        refine (writeString_any w1.heap.size w1.heap.size acc nm wa hBA (by omega) (by omega)).mono ?_
        rintro e wb ⟨rfl, hB2, hb2, hk2⟩
        have hA2 := kept_cell hk2 hA (by omega) (by decide)
        have e1 : wb.cell? ⟨wr.heap.size, 1, none⟩ = some (.int .i64 (-1)) := by rw [Lib.cell_of_heap hA2]; rfl
        have LRB : Le w1 wb := Below.trans LRA hb2
        have szB := hb2.size
        have hl2 : (acc ++ bl nm).length ≤ 118 := by rw [List.length_append, bl_len]; omega
        clear hBA hb2 hk2 LRA hA hA2 e0
        go_wp2_with fail
        refine (writeString_any w1.heap.size w1.heap.size (acc ++ bl nm) nlT wb hB2 (by have : nlT.size = 1 := rfl; omega) (by omega)).mono ?_
        rintro e wc ⟨rfl, hB3, hb3, hk3⟩
        have LRC : Le w1 wc := Below.trans LRB hb3
        have szC := hb3.size
        clear hB2 hb3 hk3 LRB e1
        go_wp2
        go_roundw
        case rel => exact ⟨_, 0 + 1, by omega, by go_num, HN.out, hB3, by omega, LRC⟩
        case measure => (simp [intOf]) <;> omega
      · obtain ⟨p, hp, hpp, hs⟩ := step_upB HG.out hlt h0 HSP.out
        have HN := Lib.hid hs
        have hpl : (p : Int) < (xs.length : Int) := by omega
        obtain ⟨b', off', e, hbp, p0, _⟩ := HS.out.cls_at hp
        injection e with e
        injection e with e1 e2
        subst e1
        subst e2
        rw [hpp] at q1
        have hn2 := (name_rng (HG.out.name p hp)).2.2
        rw [bl_len] at hn2
        have hp0 : (0 : Int) ≤ (p : Int) := by omega
        have hpd : decide ((0 : Int) ≤ (p : Int)) = true := decide_eq_true hp0
        clear HSP hs hpp h0
        generalize xs[k].name = nm at *
        generalize xs[p].name = pm at *
        go_wp2_with fail
        have LA := Le.new wr (.cells #[.string nm, .int .i64 (p : Int)] 50)
        have hA := hp_new wr (.cells #[.string nm, .int .i64 (p : Int)] 50) rfl
        have hBA := Lib.IsBuilderF.alloc hB (.cells #[.string nm, .int .i64 (p : Int)] 50)
        have e0 : (wr.alloc (.cells #[.string nm, .int .i64 (p : Int)] 50)).cell? ⟨wr.heap.size, 0, none⟩ = some (.string nm) := by rw [World.cell?_alloc_at _ _ _ _ rfl]; rfl
        have LRA := LR.trans LA
        have szA : wr.heap.size < (wr.alloc (.cells #[.string nm, .int .i64 (p : Int)] 50)).heap.size := by simp
        clear q0 q1 hB LA S c0
        generalize wr.alloc (.cells #[.string nm, .int .i64 (p : Int)] 50) = wa at *
        go_wp2_with fail
        refine (writeString_any w1.heap.size w1.heap.size acc nm wa hBA (by omega) (by omega)).mono ?_
        rintro e wb ⟨rfl, hB2, hb2, hk2⟩
        have hA2 := kept_cell hk2 hA (by omega) (by decide)
        have e1 : wb.cell? ⟨wr.heap.size, 1, none⟩ = some (.int .i64 (p : Int)) := by rw [Lib.cell_of_heap hA2]; rfl
        have LRB : Le w1 wb := Below.trans LRA hb2
        have szB := hb2.size
        have hl2 : (acc ++ bl nm).length ≤ 118 := by rw [List.length_append, bl_len]; omega
        have c0 := (LRB.cell z0).trans HC.out
        have p1 := (LRB.cell hbp).trans p0
        have hs1 : spT.size = 1 := rfl
        have hs2 : (spT ++ pm).size ≤ 7 := by rw [ByteArray.size_append]; omega
        have hs3 : (pm.size : Int) ≤ 8388608 := by omega
        have hl3 : (acc ++ bl nm ++ bl (spT ++ pm)).length ≤ 125 := by rw [List.length_append, bl_len (spT ++ pm)]; omega
        clear hBA hb2 hk2 LRA hA e0
        go_wp2_with fail
        refine (writeString_any w1.heap.size w1.heap.size (acc ++ bl nm) (spT ++ pm) wb hB2 (by omega) (by omega)).mono ?_
        rintro e wc ⟨rfl, hB3, hb3, hk3⟩
        have LRC : Le w1 wc := Below.trans LRB hb3
        have szC := hb3.size
        clear hB2 hb3 hk3 LRB e1 c0 p1 hA2
        go_wp2_with fail
        refine (writeString_any w1.heap.size w1.heap.size (acc ++ bl nm ++ bl (spT ++ pm)) nlT wc hB3 (by have : nlT.size = 1 := rfl; omega) (by omega)).mono ?_
        rintro e wd ⟨rfl, hB4, hb4, hk4⟩
        have LRD : Le w1 wd := Below.trans LRC hb4
        have szD := hb4.size
        clear hB3 hb4 hk4 LRC
        go_wp2
        go_roundw
        case rel => exact ⟨_, k + 1, by omega, by go_num, HN.out, hB4, by omega, LRD⟩
        case measure => (simp [intOf]) <;> omega
    · have hkl : ¬ (k : Int) < (xs.length : Int) := by omega
      have HE : Hid (acc = treeB xs) := by
        have := HSP.out
        rw [txB_end hlt, List.append_nil] at this
        exact this
      go_wp2_with fail
      refine (builderText_any w1.heap.size w1.heap.size acc wr hB (by omega)).mono ?_
      rintro e wb ⟨rfl, hb2⟩
      have LF : Le w wb := HL.out.trans (Below.trans LR hb2)
      go_wp2
      go_ret
      exact ⟨ret_str (by rw [HX.out, HE.out]; rfl), LF⟩
end Go.Proofs.Ytjkadmbcnlelhaa
