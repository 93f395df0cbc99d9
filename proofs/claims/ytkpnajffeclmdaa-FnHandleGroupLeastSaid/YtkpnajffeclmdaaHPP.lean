/- impl.LeastCatches: the walk -/
import Derived.Test.YtkpnajffeclmdaaCl28
import Derived.Test.YtkpnajffeclmdaaShelf
import Derived.Sort.OwnSortedInts
import Derived.Test.YtkpnajffeclmdaaCl2
namespace Go.Proofs.Ytkpnajffeclmdaa
open Go.RowKit Go.Sort

theorem up_snoc {xs : List Cls} {L : List Int} {k : Nat} (h : k < L.length) : (L.take (k + 1)).filter (upP xs L) = (L.take k).filter (upP xs L) ++ (if upP xs L L[k] then [L[k]] else []) := by
  rw [List.take_succ_eq_append_getElem h, List.filter_append]
  cases hp : upP xs L L[k] <;> simp [hp]
theorem up_yes {xs : List Cls} {L : List Int} {k : Nat} (h : k < L.length) (hp : upP xs L L[k] = true) : (L.take (k + 1)).filter (upP xs L) = (L.take k).filter (upP xs L) ++ [L[k]] := by rw [up_snoc h, hp]; rfl
theorem up_no {xs : List Cls} {L : List Int} {k : Nat} (h : k < L.length) (hp : upP xs L L[k] = false) : (L.take (k + 1)).filter (upP xs L) = (L.take k).filter (upP xs L) := by rw [up_snoc h, hp]; simp
theorem up_len {xs : List Cls} {L : List Int} (k : Nat) : ((L.take k).filter (upP xs L)).length ≤ k := by
  have h1 := List.length_filter_le (upP xs L) (L.take k)
  rw [List.length_take] at h1; omega

/-- a sorted row without equal ones -/
theorem sorted_end {w w2 w3 : World} {base g c n q : Nat} {os : Array Obj} {M : List Int} {cur : Array Value} {S C : List Int} (hS : S = M.mergeSort fun x y => decide (x ≤ y)) (hC : C = Lib.compact S)
    (hbase : base ≤ g) (hb : w.heap[g]? = some (.cells cur 3 (0, 0))) (h1 : M.length ≤ c) (h2 : c ≤ maxLen) (h3 : cur.size = c * 1)
    (e2 : w2 = grow (putRow (Value.int .i64) (Sort.ahead w n) g 0 S.toArray) os) (e3 : w3 = putRow (Value.int .i64) (Sort.ahead w2 q) g 0 (C ++ List.replicate (S.length - C.length) 0).toArray) :
    w3.ownsRow base 3 1 (.slice (some ⟨g, 0, none⟩) C.length c) C.length (C.flatMap Enc.cells) ∧ w.grownBy w3 (some g) := by
  have hl : S.length = M.length := by rw [hS]; exact List.length_mergeSort M
  have hCl : C.length ≤ S.length := by
    rw [hC]; unfold Lib.compact Lib.compactUpTo
    rw [List.length_map]
    have := List.length_filter_le (Lib.keeps S.toArray) (List.range S.length)
    simpa using this
  have b2 : w2.heap[g]? = some (.cells (putCells (Value.int .i64) 0 S.toArray cur) 3 (0, 0)) := by rw [e2]; exact heap_sortedI _ hb
  have g2 : w.grownBy w2 (some g) := by rw [e2]; exact grownBy_sortedI _
  have g3 : w2.grownBy w3 (some g) := by
    have := grownBy_sortedI (w := w2) (g := g) (n := q) (os := #[]) (C ++ List.replicate (S.length - C.length) 0).toArray
    rw [grow_empty] at this
    rw [e3]; exact this
  have o3 := ownsRow_sortedI (w := w2) (base := base) (g := g) (cap := c) (n := q) (e := 3) (os := #[]) (cur := putCells (Value.int .i64) 0 S.toArray cur) (ss := S) (ts := C ++ List.replicate (S.length - C.length) 0) (by simp; omega) hbase b2 (by omega) h2 (by simp [putCells, h3])
  rw [grow_empty, ← e3, List.map_append] at o3
  refine ⟨?_, ⟨g3.os.trans g2.os, g3.tape.trans g2.tape, g3.output.trans g2.output, Nat.le_trans g2.size g3.size, fun i hi hne => (g3.block i (Nat.lt_of_lt_of_le hi g2.size) hne).trans (g2.block i hi hne)⟩⟩
  rw [ints_flat]
  exact own_cut o3 (by simp) (by simp) hCl

set_option maxHeartbeats 1000000 in
set_option maxRecDepth 100000 in
theorem iLeastCatches_any (A B : Option Addr) (n cap m c : Nat) (xs : List Cls) (L : List Int) (w : World) (hR : Sl w A n cap xs) (hL : Sl w B m c L) :
    Calls Try.prog 29 #[.agg #[.slice A n cap], .slice B m c] w fun e w' => ∃ v, e = .returned v ∧ Owd 3 w w' v (leastX xs L) ∧ Le w w' := by
  have L0 := Le.new w (.cells #[.slice A n cap] 25)
  go_enter Try.func29, Try.ntmps29
  go_wp2_with fail
  refine (nodesOf_any A n cap xs _ (hR.alloc _)).mono ?_
  intro e w2 hout
  obtain ⟨hle, A2, n2, gs, rfl, S2, hcase⟩ := nodes_one hout
  replace L0 := L0.trans hle
  clear hout hle
  have S3 := hL.le L0
  go_wp2_with fail
  refine (handlersOf_any A2 B n2 m c gs xs L _ S2 hcase S3).mono ?_
  rintro e w3 ⟨hle, hcs⟩
  replace L0 := L0.trans hle
  rcases hcs with ⟨h1, rfl⟩ | ⟨h1, H, ch, rfl, S5⟩
  · have HF := Lib.hid (leastX_of h1)
    clear hcase h1
    go_wp2
    go_ret
    exact ⟨_, rfl, by rw [HF.out]; exact Owd.nil _ _ _, L0⟩
  · have gc := goodC_of h1
    rcases hcase with ⟨h0, _⟩ | ⟨_, rfl, hN⟩
    · rw [hand_tree h1] at h0; cases h0
    · replace hN := hN.le hle
      have HF := Lib.hid (leastX_of h1)
      have h6 := gc.few
      have hcp := S5.cap_
      have HOK := Lib.hid (leastK_ok xs L xs.length gc.tree.hi)
      have HM := Lib.hid gc.mem
      have HE := Lib.hid (least_eq gc)
      obtain ⟨i0, hi, hz0, hz1, hz2⟩ := info_parts intInfo
      clear S2 S3 h1 hle
      go_wp2
      go_loopw [7, 21] (fun v i wr => ∃ k : Nat, k ≤ L.length ∧ i = .int .i64 k ∧ wr.ownsRow w3.heap.size 3 1 v ((L.take k).filter (upP xs L)).length (((L.take k).filter (upP xs L)).flatMap Enc.cells) ∧ Le w3 wr) (fun _ i _ => L.length - (intOf i).toNat)
      case atStart => exact ⟨0, Nat.zero_le _, rfl, World.ownsRow_nil _ _ _ _, Le.refl _⟩
      case round =>
        obtain ⟨k, hk, rfl, O1, hle⟩ := hrel
        by_cases hlt : k < L.length
        · have hmem := HM.out L[k] (List.getElem_mem hlt)
          have S6 := S5.le hle
          have hlt' : k < (L.map (pbAt gs)).length := by simpa using hlt
          obtain ⟨b, off, rfl, hb, hcell⟩ := S6.pb_at hlt'
          rw [List.getElem_map] at hcell
          obtain ⟨i, hie⟩ := Int.eq_ofNat_of_zero_le hmem.1
          have hix : i < xs.length := by omega
          have hig : i < gs.length := by have := hN.len; omega
          rw [hie, pbAt_at hig] at hcell
          have hNr := hN.le hle
          have hidx := hNr.idx i hig
          have hup := hNr.up i hig hix
          have hpl := gc.tree.par_le hix
          have hul := up_len (xs := xs) (L := L) k
          have HC := Lib.hid (hcatches_any _ L.length ch gs xs L gc.tree gc.mem xs[i].parent (by omega) (by omega) wr hNr S6)
          have hupe : upP xs L L[k] = !decide (0 ≤ firstC xs L xs[i].parent 0) := by unfold upP; rw [hie, parOf_at hix]
          have HIE := Lib.hid hie
          clear S6 hie
          cases hd1 : decide (0 ≤ firstC xs L xs[i].parent 0)
          all_goals rw [hd1] at hupe
          · have HB := Lib.hid (up_yes hlt hupe)
            clear hupe
            go_wp2_with fail
            refine HC.out.mono ?_
            rintro e w4 ⟨rfl, hle4⟩
            rw [hd1]
            replace O1 := own_le O1 hle4
            replace hle := hle.trans hle4
            have hidx4 := (hN.le hle).idx i hig
            have hsz := hle.size
            clear hd1 hidx hup hcell
            go_wp2_with (at_builtin; refine wpList_append_own _ rfl _ _ 41 rfl w3.heap.size 3 i0 (.int .i64 0) 1 8 Try.underlying41 hi hz0 hz1 hz2 rfl (by decide) _ _ _ rfl (O1.alloc _) ⟨w4.heap.size, 0, none⟩ 1 1 [.int .i64 i] rfl rfl (one_new _ _ _) (by intro u hu; simp at hu; subst hu; rfl) (by unfold maxLen; omega) (by omega) (by simp; omega) ?_)
            intro v1 w1 hown1 hg1 _
            have hle1 := (hle.alloc (.cells #[.int .i64 (i : Int)] 3)).grown hg1 (fun k hk => (O1.lt k hk).1)
            go_wp2
            go_roundw
            case rel => exact ⟨k + 1, by omega, by go_num, by rw [HB.out, HIE.out]; simpa [Enc.cells] using hown1, hle1⟩
            case measure => simp [intOf]; omega
          · have HB := Lib.hid (up_no hlt hupe)
            clear hupe
            go_wp2_with fail
            refine HC.out.mono ?_
            rintro e w4 ⟨rfl, hle4⟩
            rw [hd1]
            replace O1 := own_le O1 hle4
            replace hle := hle.trans hle4
            clear hd1
            go_wp2
            go_roundw
            case rel => exact ⟨k + 1, by omega, by go_num, by rw [HB.out]; exact O1, hle⟩
            case measure => simp [intOf]; omega
        · have hk' : k = L.length := by omega
          subst hk'
          rw [List.take_length] at O1
          have hul := List.length_filter_le (upP xs L) L
          have hsz3 := hle.size
          have hLW : w.heap.size ≤ w3.heap.size := L0.size
          replace L0 := L0.trans hle
          generalize hM : L.filter (upP xs L) = M at *
          by_cases hn0 : M.length = 0
          · have hMn : M = [] := List.eq_nil_of_length_eq_zero hn0
            have hX : leastX xs L = [] := by rw [HF.out]; show leastK xs L xs.length = []; rw [← HE.out, hMn]; simp [Lib.compact, Lib.compactUpTo]
            have HX := Lib.hid hX; clear hX
            rw [hMn] at O1
            obtain ⟨A5, q5, rfl⟩ := own_form O1
            have HO : Hid (Owd 3 w wr (.slice A5 0 q5) (leastX xs L)) := by
              show Owd _ _ _ _ _
              rw [HX.out]; exact ⟨own_mono O1 hLW, fun _ h => nomatch h⟩
            clear hM hMn O1
            go_wp2_with fail
            refine (Try.slices_Sort_int_none A5 q5 _).mono ?_
            rintro e w5 ⟨rfl, rfl⟩
            go_wp2_with fail
            refine (Try.slices_Compact_int_empty A5 q5 _).mono ?_
            rintro e w5 ⟨rfl, rfl⟩
            go_wp2
            go_ret
            exact ⟨_, rfl, HO.out, L0⟩
          · obtain ⟨g, q, cur, rfl, hg0, hg, hnc, hcm, hcs, ht⟩ : ∃ g cap cur, u7 = .slice (some ⟨g, 0, none⟩) M.length cap ∧ w3.heap.size ≤ g ∧ wr.heap[g]? = some (.cells cur 3 (0, 0)) ∧ M.length ≤ cap ∧ cap ≤ maxLen ∧ cur.size = cap * 1 ∧ cur.toList.take (M.length * 1) = M.flatMap Enc.cells := by
              rcases O1.2 with ⟨_, h⟩ | h
              · exact absurd h hn0
              · exact h
            rw [ints_flat, Nat.mul_one] at ht
            have hM6 : M.length ≤ 6 := by omega
            have hH := holds_of_blockI hg ht
            have hlt : g < wr.heap.size := (Array.getElem?_eq_some_iff.1 hg).1
            obtain ⟨S, hS⟩ : ∃ S, S = M.mergeSort fun x y => decide (x ≤ y) := ⟨_, rfl⟩
            have hSl : S.length = M.length := by rw [hS]; exact List.length_mergeSort M
            have hc1 := Try.slices_Sort_int g 0 q M wr hH hlt (by omega)
            rw [← hS] at hc1
            have HC1 := Lib.hid hc1
            have HX : Hid (leastX xs L = Lib.compact S) := by show _ = _; rw [HF.out, hS, HE.out]; rfl
            have HSL := Lib.hid hSl
            have HS := Lib.hid hS
            have HT := Lib.hid ht
            have HCS := Lib.hid hcs
            have HG := Lib.hid hg
            have HOKS : Hid (∀ x ∈ Lib.compact S, Enc.ok x) := by
              show ∀ x ∈ _, _
              have := HOK.out
              rw [← HE.out, ← hS] at this
              exact this
            clear hc1 hS hSl hM hH ht hg O1 HE HOK hcs
            go_wp2_with fail
            refine HC1.out.mono ?_
            rintro e w5 ⟨rfl, nn, os, he2⟩
            have b5 : w5.heap[g]? = some (.cells (putCells (Value.int .i64) 0 S.toArray cur) 3 (0, 0)) := by rw [he2]; exact heap_sortedI _ HG.out
            have hcs : M.length ≤ cur.size := by
              have := congrArg List.length HT.out
              simp at this; omega
            have hc2 := Try.slices_Compact_int g 0 q S w5 (holds_of_blockI b5 (take_putCellsI cur S (by rw [HSL.out]; exact hcs))) (by have := HSL.out; omega) (by have := HSL.out; omega)
            rw [HSL.out] at hc2
            have HC2 := Lib.hid hc2
            have HE2 := Lib.hid he2
            clear hc2 he2 b5 hcs
            go_wp2_with fail
            refine HC2.out.mono ?_
            rintro e w6 ⟨rfl, qq, he3⟩
            rw [← HSL.out] at he3
            have hcs2 := HCS.out
            obtain ⟨o6, g6⟩ := sorted_end (base := w.heap.size) HS.out rfl (by omega) HG.out hnc hcm hcs2 HE2.out he3
            have HO : Hid (Owd 3 w w6 (.slice (some ⟨g, 0, none⟩) (Lib.compact S).length q) (leastX xs L)) := by
              show Owd _ _ _ _ _
              rw [HX.out]; exact ⟨o6, HOKS.out⟩
            have L6 := L0.grown g6 (fun k hk => by injection hk with hk; omega)
            clear o6 g6 he3
            go_wp2
            go_ret
            exact ⟨_, rfl, HO.out, L6⟩
end Go.Proofs.Ytkpnajffeclmdaa
