/- one text of ItU, LG, LGs, LGl, LD, SlO -/
import Derived.Test.YtkpnajffeclmdaaCl26
import Derived.Test.YtkpnajffeclmdaaCl24
import Derived.Test.YtkpnajffeclmdaaCl28
import Derived.Test.YtkpnajffeclmdaaCl17
import Derived.Test.YtkpnajffeclmdaaCl6
import Derived.Test.YtkpnajffeclmdaaRows
import Derived.Test.YtkpnajffeclmdaaCl2
import Derived.Test.YtkpnajffeclmdaaCl1
import Derived.RegionTactic
namespace Go.Proofs.Ytkpnajffeclmdaa
open Go.RowKit
set_option linter.unusedVariables false
section
open Go.RowKit Go.Shelf
set_option maxRecDepth 100000 in
set_option maxHeartbeats 2000000 in
theorem visit0_any (tf : Nat) (lb : Array Value) (eT : ∀ args w, (callFunc tf args).run Try.prog w = .ok (.enter tf args) w) (p : Lef → Bool) (A : Option Addr) (C Bf Bo Bv : Nat) (W : World) (S : Sl W A 0 C ([] : List Prt)) (cF : W.cell? ⟨Bf, 0, none⟩ = some (.func (.func tf) #[] lb)) :
    Calls Try.prog 82 #[.slice A 0 C, .pointer (some ⟨Bf, 0, none⟩), .pointer (some ⟨Bo, 0, none⟩), .pointer (some ⟨Bv, 0, none⟩)] W fun e W' => (∃ r, e = .returned r) ∧ Le W W' := by
  have HL := hasLeaf_gen tf lb eT p A 0 C [] W S (fun x W' hx _ => nomatch hx)
  have hno : (leavesL []).any p = false := rfl
  rw [hno] at HL
  refine (callsIn_wide (n := 6)).1 ?_
  refine callsIn_of_wp_marks Try.func82 rfl trivial ?_ rfl
  simp only [Try.ntmps82, List.size_toArray, List.length_cons, List.length_nil, Nat.reduceAdd, Nat.reduceSub, Array.replicate_succ, Array.replicate_zero, List.push_toArray, List.append_toArray, List.nil_append, List.cons_append]
  gi_wp2_with (refine ⟨trivial, ?_⟩; gi_at_call 53; refine (callsIn_wide.2 HL).mono ?_; rintro e W1 ⟨rfl, hle1⟩)
  exact ⟨_, results_none rfl _ _ _, ⟨_, rfl⟩, hle1⟩
set_option maxRecDepth 100000 in
set_option maxHeartbeats 2000000 in
theorem keep0_prog (tf : Nat) (lb : Array Value) (eT : ∀ args w, (callFunc tf args).run Try.prog w = .ok (.enter tf args) w) (p : Lef → Bool) (A : Option Addr) (C : Nat) (w : World) (hG : Sl w A 0 C ([] : List Prt)) :
    Calls Try.prog 65 #[.slice A 0 C, .func (.func tf) #[] lb] w fun e w' => ∃ v, e = .returned v ∧ Owd 57 w w' v ([] : List Prt) ∧ Le w w' := by
  have bV := Boxed.new ((w.alloc (.cells #[.func (.func tf) #[] lb] 68)).alloc (.cells #[.slice none 0 0] 26)) 119 .nilFunc
  simp only [World.size_alloc] at bV
  have cV := bV.cell
  have fV := bV.frozen
  have h1 := ((Boxed.new w 68 (.func (.func tf) #[] lb)).alloc (.cells #[.slice none 0 0] 26)).alloc (.cells #[.func (.func 82) #[] #[.pointer (some ⟨w.heap.size, 0, none⟩), .pointer (some ⟨w.heap.size + 1, 0, none⟩), .pointer (some ⟨w.heap.size + 1 + 1, 0, none⟩)]] 119)
  have h2 := (Boxed.new (w.alloc (.cells #[.func (.func tf) #[] lb] 68)) 26 (.slice none 0 0)).alloc (.cells #[.func (.func 82) #[] #[.pointer (some ⟨w.heap.size, 0, none⟩), .pointer (some ⟨w.heap.size + 1, 0, none⟩), .pointer (some ⟨w.heap.size + 1 + 1, 0, none⟩)]] 119)
  have h3 := Boxed.new ((w.alloc (.cells #[.func (.func tf) #[] lb] 68)).alloc (.cells #[.slice none 0 0] 26)) 119 (.func (.func 82) #[] #[.pointer (some ⟨w.heap.size, 0, none⟩), .pointer (some ⟨w.heap.size + 1, 0, none⟩), .pointer (some ⟨w.heap.size + 1 + 1, 0, none⟩)])
  simp only [World.size_alloc] at h2 h3
  have L4 : Le w (((w.alloc (.cells #[.func (.func tf) #[] lb] 68)).alloc (.cells #[.slice none 0 0] 26)).alloc (.cells #[.func (.func 82) #[] #[.pointer (some ⟨w.heap.size, 0, none⟩), .pointer (some ⟨w.heap.size + 1, 0, none⟩), .pointer (some ⟨w.heap.size + 1 + 1, 0, none⟩)]] 119)) := ((Le.new w _).alloc _).alloc _
  have cT := h3.cell
  have hst : ∀ (W : World) (a : Addr) (f : Fn) (x y : Array Value) (m : Mode), (store a (.func f x y) m).run Try.prog W = stored Try.prog W a (.func f x y) m := fun W a f x y m => run_store Try.prog W a _ m rfl
  go_enter Try.func65, Try.ntmps65
  go_wp2_with fail
  generalize ((w.alloc (.cells #[.func (.func tf) #[] lb] 68)).alloc (.cells #[.slice none 0 0] 26)).alloc (.cells #[.func (.func 82) #[] #[.pointer (some ⟨w.heap.size, 0, none⟩), .pointer (some ⟨w.heap.size + 1, 0, none⟩), .pointer (some ⟨w.heap.size + 1 + 1, 0, none⟩)]] 119) = W4 at *
  refine (visit0_any tf lb eT p A C _ _ _ W4 (hG.le L4) h1.cell).mono ?_
  rintro e W5 ⟨⟨r, rfl⟩, hle⟩
  have HE := Lib.hid (L4.trans hle)
  have cO := (boxed_le h2 hle).cell
  go_wp2
  go_ret
  exact ⟨_, rfl, Owd.nil _ _ _, HE.out⟩
set_option maxRecDepth 100000 in
set_option maxHeartbeats 2000000 in
theorem splitE_prog (tf : Nat) (lb : Array Value) (eT : ∀ args w, (callFunc tf args).run Try.prog w = .ok (.enter tf args) w) (p : Lef → Bool) (xs : List Cls) (A : Option Addr) (m C : Nat) (g : List Prt) (G : GoodE xs g) (w : World) (hG : Sl w A m C g)
    (hT : ∀ (x : Lef) (W : World), x ∈ leavesL g → Le w W → Calls Try.prog tf (#[.agg #[.int .i64 x.cls, .int .i64 x.code]] ++ lb) W fun e W' => e = .returned (.bool (p x)) ∧ Le W W') :
    Calls Try.prog 35 #[.slice A m C, .func (.func tf) #[] lb] w (SpOut w (selG p g) (selG (fun x => !p x) g)) := by
  obtain rfl := hG.len
  rcases G with rfl | G
  · have bT := Boxed.new w 68 (.func (.func tf) #[] lb)
    have cT := bT.cell
    have hl := Le.new w (.cells #[.func (.func tf) #[] lb] 68)
    go_enter Try.func35, Try.ntmps35
    go_wp2_with fail
    generalize w.alloc (.cells #[.func (.func tf) #[] lb] 68) = w1 at *
    refine (keep0_prog tf lb eT p A C w1 (hG.le hl)).mono ?_
    rintro e w4 ⟨v, rfl, O1, hle⟩
    have HO1 := Lib.hid O1
    have bT4 := boxed_le bT hle
    have hl4 := hl.trans hle
    clear O1
    go_wp2_with fail
    refine (keep0_prog 66 #[.pointer (some ⟨w.heap.size, 0, none⟩)] (enters_of Try.func66 (by kernel_rfl) rfl) (fun x => !p x) A C w4 (hG.le hl4)).mono ?_
    rintro e w6 ⟨u, rfl, O2, hle6⟩
    have HS : Hid (SpOut w (selG p []) (selG (fun x => !p x) []) (.returned (.tuple #[v, u])) w6) := ⟨v, u, rfl, (HO1.out.mono hl).le hle6, O2.mono hl4, apart_base HO1.out O2, hl4.trans hle6⟩
    clear O2
    go_wp2
    go_ret2
    exact HS.out
  · have hm := G.len
    obtain ⟨b, off, rfl, -, -⟩ := hG.prt_at (k := 0) (by omega)
    exact split_prog tf lb eT p xs b off C g G w hG hT
theorem selA_no (xs : List Cls) (g : List Prt) (a : Int) : selG (fun x => !isAL xs x.cls a) g = selA xs g a false := by
  unfold selA
  congr 1
  funext x; cases isAL xs x.cls a <;> rfl
theorem selA_yes (xs : List Cls) (g : List Prt) (a : Int) : selG (fun x => isAL xs x.cls a) g = selA xs g a true := by
  unfold selA
  congr 1
  funext x; cases isAL xs x.cls a <;> rfl
theorem GoodE.leaf {xs : List Cls} {g : List Prt} (h : GoodE xs g) : ∀ x ∈ leavesL g, 0 ≤ x.cls ∧ x.cls < xs.length := by
  rcases h with rfl | h
  · exact fun x hx => nomatch hx
  · exact good_leaf h
theorem OwL.made {TT T : TypeId} {w0 w : World} {v : Value} {n : Nat} (h : w.ownsRow w0.heap.size TT 1 v n (List.replicate n (.slice none 0 0))) : OwL TT T w0 w v (List.replicate n (⟨none, 0, 0⟩ : Hdr)) (List.replicate n ([] : List Prt)) := by
  have e : ∀ n, (List.replicate n (⟨none, 0, 0⟩ : Hdr)).flatMap Enc.cells = List.replicate n (.slice none 0 0) := by
    intro n
    induction n with
    | zero => rfl
    | succ n ih => rw [List.replicate_succ, List.flatMap_cons, ih, List.replicate_succ]; rfl
  refine ⟨⟨by rw [List.length_replicate, e]; exact h, fun _ _ => trivial⟩, by rw [List.length_replicate, List.length_replicate], fun i x l f k => ?_, fun i j x y f _ _ => ?_, fun i x f => ?_⟩
  · have h1 := (List.mem_replicate.1 (List.mem_of_getElem? f)).2
    have h2 := (List.mem_replicate.1 (List.mem_of_getElem? k)).2
    subst h1; subst h2
    exact Owd.nil _ _ _
  · have h1 := (List.mem_replicate.1 (List.mem_of_getElem? f)).2
    subst h1; exact .inl rfl
  · have h1 := (List.mem_replicate.1 (List.mem_of_getElem? f)).2
    subst h1; exact .inl rfl
theorem flat_hdr_set : ∀ (hs : List Hdr) (k : Nat) (h : Hdr), (hs.flatMap Enc.cells).set k h.v = (hs.set k h).flatMap Enc.cells
  | [], _, _ => rfl
  | _ :: r, 0, h => rfl
  | x :: r, k + 1, h => by
    show x.v :: (r.flatMap Enc.cells).set k h.v = _
    rw [flat_hdr_set r k h]; rfl
theorem set_rep {α : Type} (A : List α) (x l : α) {n k : Nat} (hA : A.length = k) (hk : k < n) : (A ++ List.replicate (n - k) x).set k l = (A ++ [l]) ++ List.replicate (n - (k + 1)) x := by
  rw [List.set_append_right _ _ (by omega), hA, Nat.sub_self, show n - k = (n - (k + 1)) + 1 by omega, List.replicate_succ, List.set_cons_zero, List.append_assoc]
  rfl
set_option maxRecDepth 100000 in
set_option maxHeartbeats 4000000 in
theorem iHandleGroup_any (A B D : Option Addr) (n cap m c q d : Nat) (xs : List Cls) (g : List Prt) (L : List Int) (w : World) (hT : Sl w A n cap xs) (hG : Sl w B m c g) (hL : Sl w D q d L) :
    Calls Try.prog 18 #[.agg #[.slice A n cap], .slice B m c, .slice D q d] w (HgOut w (hgTX xs g L) (hgRX xs g L)) := by
  obtain ⟨i0, hi, hz0, hz1, hz2⟩ := info_parts infoPartSl'
  obtain ⟨c0, z0, hl⟩ := box1 w (.slice A n cap) 25
  have hS := hT.le hl
  have hG1 := hG.le hl
  have hL1 := hL.le hl
  obtain rfl := hG.len
  obtain rfl := hL.len
  have hLn := hL.n_le
  go_enter Try.func18, Try.ntmps18
  go_wp2_with fail
  generalize w.alloc (.cells #[.slice A n cap] 25) = w1 at *
  refine (nodesOf_any A n cap xs _ hS).mono ?_
  intro e w2 hout
  obtain ⟨hle, A2, n2, gs, rfl, hS2, hcase⟩ := nodes_one hout
  have hS1 := hS.le hle
  have hG2 := hG1.le hle
  have hL2 := hL1.le hle
  have hLL := hl.trans hle
  have d0 := (hle.cell z0).trans c0
  have zz := Nat.lt_of_lt_of_le z0 hle.size
  clear hout
  go_wp2_with fail
  refine (handlersOf_any A2 _ n2 _ _ gs xs L _ hS2 hcase hL2).mono ?_
  rintro e w3 ⟨hle3, hcs⟩
  have d3 := (hle3.cell zz).trans d0
  have hL3 := hLL.trans hle3
  rcases hcs with ⟨hk, rfl⟩ | ⟨hk, H, ch, rfl, S5⟩
  · have HX := Lib.hid (hgX_of (xs := xs) (g := g) (L := L) (b := false) (by rw [hk, Bool.and_false]))
    clear hcase hk
    go_wp2
    go_ret2
    exact ⟨_, _, _, rfl, by rw [HX.out.1]; exact OwL.nil _ _ _ _, by rw [HX.out.2]; exact Owd.nil _ _ _, ⟨fun i h e => by simp at e, .inl rfl⟩, hL3⟩
  · cases hg : gOkS xs g
    · have HX := Lib.hid (hgX_of (xs := xs) (g := g) (L := L) (b := false) (by rw [hg]; rfl))
      clear hcase hk
      go_wp2_with (go_at_call 12; refine (iValidGroupS_any _ _ _ _ _ _ xs g _ (hS1.le hle3) (hG2.le hle3)).mono ?_; rintro e w4 ⟨rfl, hle4⟩; rw [hg])
      go_ret2
      exact ⟨_, _, _, rfl, by rw [HX.out.1]; exact OwL.nil _ _ _ _, by rw [HX.out.2]; exact Owd.nil _ _ _, ⟨fun i h e => by simp at e, .inl rfl⟩, hL3.trans hle4⟩
    · have HX := Lib.hid (hgX_of (xs := xs) (g := g) (L := L) (b := true) (by rw [hg, hk]; rfl))
      have gc := goodC_of hk
      have hf := gc.few
      have G := goodG_of (by rw [← gOk_same]; exact hg)
      have hm := G.len
      have GE : GoodE xs g := .inr G
      rcases hcase with ⟨h0, _⟩ | ⟨_, rfl, hN⟩
      · have := G.tree; rw [h0] at this; cases this
      · replace hN := hN.le hle3
        have hS3 := hS2.le hle3
        have HM := Lib.hid gc.mem
        have hcp := S5.cap_
        clear hk hS2
        go_wp2_with (first | (go_at_call 12; refine (iValidGroupS_any _ _ _ _ _ _ xs g _ (hS1.le hle3) (hG2.le hle3)).mono ?_; rintro e w4 ⟨rfl, hle4⟩; rw [hg]) | (refine wpList_make_full _ rfl _ _ 44 rfl w4.heap.size 26 i0 _ 1 Try.underlying44 hi hz0 hz1 .i64 .i64 _ _ L.length rfl rfl rfl rfl (by rw [hz2]; omega) (by unfold maxLen; omega) (Nat.le_refl _) ?_; intro w5 hown5 hg5) | (go_at_call 50; refine of_stop ?_))
        unfold Stop
        have hl5 := (Le.refl w4).grown hg5 (fun k hk => by cases hk)
        refine (clonePart_any _ _ _ g _ (((hG2.le hle3).le hle4).le hl5) (by omega)).mono ?_
        rintro e w6 ⟨u0, rfl, R0, hl6⟩
        have O0 : OwL 26 57 w4 w6 (.slice (some ⟨w4.heap.size, 0, none⟩) L.length L.length) _ (List.replicate L.length ([] : List Prt)) := (OwL.made (by
          have h := hown5
          rw [Nat.mul_one] at h
          have e : (madeCells (Value.slice none 0 0).cells L.length).toList = List.replicate L.length (.slice none 0 0) := toList_madeCells_one _ _
          rw [e] at h; exact h)).le hl6
        have AP0 : (∀ (i : Nat) (h : Hdr), (List.replicate L.length (⟨none, 0, 0⟩ : Hdr))[i]? = some h → Apart h.v u0) ∧ Apart (.slice (some ⟨w4.heap.size, 0, none⟩) L.length L.length) u0 := by
          refine ⟨fun i h e => by rw [(List.mem_replicate.1 (List.mem_of_getElem? e)).2]; exact .inl rfl, ?_⟩
          refine apart_lt (m := w5.heap.size) (fun k hk => by have := (hown5.lt k hk).2; exact this) (fun k hk => (R0.row.lt k hk).1)
        have R1 := R0.mono hl5
        have L6 := hl5.trans hl6
        have hL4 := hL3.trans hle4
        have S6 := S5.le hle4
        have N6 := hN.le hle4
        have Sn6 := hS3.le hle4
        have HAP0 := Lib.hid AP0
        have HO0 := Lib.hid O0
        have HR1 := Lib.hid R1
        clear hown5 hg5 R0 AP0 O0 R1 hN hS3 S5
        go_wp2
        go_loopw [12, 38] (fun u i wr => ∃ (k : Nat) (hs : List Hdr), k ≤ L.length ∧ i = .int .i64 k ∧ OwL 26 57 w4 wr (.slice (some ⟨w4.heap.size, 0, none⟩) L.length L.length) hs (hgT xs g (L.take k) ++ List.replicate (L.length - k) []) ∧ Owd 57 w4 wr u (hgR xs g (L.take k)) ∧ ((∀ (i : Nat) (h : Hdr), hs[i]? = some h → Apart h.v u) ∧ Apart (.slice (some ⟨w4.heap.size, 0, none⟩) L.length L.length) u) ∧ Le w4 wr) (fun _ i _ => L.length - (intOf i).toNat)
        case atStart => exact ⟨0, _, Nat.zero_le _, rfl, HO0.out, HR1.out, HAP0.out, L6⟩
        case round =>
          obtain ⟨k, hs, hk1, rfl, O1, R1, AP1, L1⟩ := hrel
          clear HO0 HR1 HAP0
          by_cases hlt : k < L.length
          · have hmem := HM.out L[k] (List.getElem_mem hlt)
            have hlt' : k < (L.map (pbAt gs)).length := by simpa using hlt
            obtain ⟨b, off, rfl, hb, hcell⟩ := (S6.le L1).pb_at hlt'
            rw [List.getElem_map] at hcell
            have GR := hgR_good (L.take k) GE
            have hlen := GR.len
            obtain ⟨Ar, cr, rfl, SR, -⟩ := R1.form (by decide)
            have g0 := good_of G.tree
            obtain ⟨j, hj⟩ : ∃ j : Nat, L[k] = j := ⟨L[k].toNat, by omega⟩
            have hjg : j < gs.length := by have := N6.len; omega
            have hpb : pbAt gs L[k] = gs[j] := by rw [hj]; exact pbAt_at hjg
            rw [hpb] at hcell
            have HST : Hid ((hgT xs g (L.take k) ++ List.replicate (L.length - k) []).set k (selA xs (hgR xs g (L.take k)) j true) = hgT xs g (L.take (k + 1)) ++ List.replicate (L.length - (k + 1)) []) := by
              show _ = _
              rw [set_rep _ _ _ (by rw [hgT_len, List.length_take]; omega) hlt, List.take_succ_eq_append_getElem hlt, hgT_snoc, hj]
            have HSR : Hid (hgR xs g (L.take (k + 1)) = selA xs (hgR xs g (L.take k)) j false) := by
              show _ = _
              rw [List.take_succ_eq_append_getElem hlt, hgR_snoc, hj]
            have hhl : hs.length = L.length := by have h1 := O1.len; rw [List.length_append, hgT_len, List.length_take, List.length_replicate] at h1; omega
            have HHL := Lib.hid hhl
            have hjx : j < xs.length := by have := N6.len; omega
            have Sn := Sn6.le L1
            have Nn := N6.le L1
            have HO1 := Lib.hid O1
            have HAP1 := Lib.hid AP1
            clear hj hpb hmem hhl AP1 O1
            go_wp2_with fail
            refine (caughtLeaf_any _ _ _ _).mono ?_
            rintro e w7 ⟨rfl, rfl⟩
            obtain ⟨b0, y0, b1, y1, hl8⟩ := box2 wr (.slice A2 xs.length xs.length) (.iface 65 (.pointer (some ⟨gs[j].g, 0, none⟩))) 63 107
            have Sn8 := Sn.le hl8
            have Nn8 := Nn.le hl8
            have SR8 := SR.le hl8
            generalize (wr.alloc (.cells #[.slice A2 xs.length xs.length] 63)).alloc (.cells #[.iface 65 (.pointer (some ⟨gs[j].g, 0, none⟩))] 107) = w8 at *
            have HSP := splitE_prog 67 #[.pointer (some ⟨wr.heap.size + 1, 0, none⟩), .pointer (some ⟨wr.heap.size, 0, none⟩)] (enters_of Try.func67 (by kernel_rfl) rfl) (fun x => isAL xs x.cls j) xs _ _ _ (hgR xs g (L.take k)) GR w8 SR8 (fun x W hx hW => caughtLeaf1_any _ _ A2 gs xs g0 j hjg x.cls x.code (GR.leaf x hx).1 (GR.leaf x hx).2 W (Sn8.le hW) (Nn8.le hW) ((hW.cell y1).trans b1) ((hW.cell y0).trans b0) (Nat.lt_of_lt_of_le y1 hW.size) (Nat.lt_of_lt_of_le y0 hW.size))
            rw [selA_yes, selA_no] at HSP
            have HHSP := Lib.hid HSP
            clear HSP
            go_wp2_with fail
            refine HHSP.out.mono ?_
            rintro e w9 ⟨vm, um, rfl, Om, Ou, APm, hl9⟩
            obtain ⟨Am, cm, rfl, -, -⟩ := Om.form (by decide)
            have O8 := HO1.out.le hl8
            have O9 := O8.le hl9
            have row9 : w9.ownsRow w4.heap.size 26 1 (.slice (some ⟨w4.heap.size, 0, none⟩) L.length L.length) L.length (hs.flatMap Enc.cells) := by
              have := O9.top.row; rw [HHL.out] at this; exact this
            have hcx : ∃ z, w9.cell? ⟨w4.heap.size, k, none⟩ = some z := by
              have hfl : (hs.flatMap (Enc.cells (α := Hdr))).length = hs.length * 1 := flat_len hs
              rw [row9.cellAt k (by omega)]
              exact ⟨_, List.getElem?_eq_getElem (by rw [hfl, HHL.out]; omega)⟩
            obtain ⟨z, hcx⟩ := hcx
            have hfx := row9.frozenAt k
            obtain ⟨lat1, lat2⟩ := OwL.later O8 (Nat.le_refl _) Om
            obtain ⟨lau1, lau2⟩ := OwL.later O8 (Nat.le_refl _) Ou
            have L8 := L1.trans hl8
            have hst := row9.stored k (.slice Am (selA xs (hgR xs g (L.take k)) j true).length cm)
            have hset := flat_hdr_set hs k ⟨Am, (selA xs (hgR xs g (L.take k)) j true).length, cm⟩
            have HP : Hid (OwL 26 57 w4 (w9.setCell ⟨w4.heap.size, k, none⟩ (.slice Am (selA xs (hgR xs g (L.take k)) j true).length cm)) (.slice (some ⟨w4.heap.size, 0, none⟩) L.length L.length) (hs.set k ⟨Am, (selA xs (hgR xs g (L.take k)) j true).length, cm⟩) (hgT xs g (L.take (k + 1)) ++ List.replicate (L.length - (k + 1)) [])) := by
              show OwL _ _ _ _ _ _ _
              rw [← HST.out]
              refine OwL.put O9 (by rw [HHL.out]; exact hlt) ⟨((Om.mono L8).row).kept hst.2 lat1, Om.ok⟩ lat1 lat2 ?_ hst.2
              have h1 := hst.1
              rw [show (hs.flatMap (Enc.cells (α := Hdr))).set k (.slice Am (selA xs (hgR xs g (L.take k)) j true).length cm) = _ from hset] at h1
              rw [HHL.out]; exact h1
            have HR : Hid (Owd 57 w4 (w9.setCell ⟨w4.heap.size, k, none⟩ (.slice Am (selA xs (hgR xs g (L.take k)) j true).length cm)) um (hgR xs g (L.take (k + 1)))) := by
              show Owd _ _ _ _ _
              rw [HSR.out]
              exact ⟨((Ou.mono L8).row).kept hst.2 lau1, Ou.ok⟩
            have HQ : Hid ((∀ (i : Nat) (h : Hdr), (hs.set k (⟨Am, (selA xs (hgR xs g (L.take k)) j true).length, cm⟩ : Hdr))[i]? = some h → Apart h.v um) ∧ Apart (.slice (some ⟨w4.heap.size, 0, none⟩) L.length L.length) um) := by
              refine ⟨fun i h e => ?_, lau1.symm⟩
              by_cases hik : i = k
              · subst hik
                rw [List.getElem?_set_self (by rw [HHL.out]; exact hlt)] at e
                injection e with e; subst e
                exact APm
              · rw [List.getElem?_set_ne (fun e => hik e.symm)] at e
                exact lau2 i h e
            have HL : Hid (Le w4 (w9.setCell ⟨w4.heap.size, k, none⟩ (.slice Am (selA xs (hgR xs g (L.take k)) j true).length cm))) := (L8.trans hl9).setCell (Nat.le_refl _) _
            clear hset hst row9 O9 O8 Om Ou APm lat1 lat2 lau1 lau2
            go_wp2
            go_roundw
            case rel => exact ⟨k + 1, _, by omega, by go_num, HP.out, HR.out, HQ.out, HL.out⟩
            case measure => simp [intOf]; omega
          · obtain rfl : k = L.length := by omega
            rw [List.take_length, Nat.sub_self, List.replicate_zero, List.append_nil] at O1
            rw [List.take_length] at R1
            have H5 := Lib.hid (O1.mono hL4)
            have H6 := Lib.hid (R1.mono hL4)
            have H7 := Lib.hid AP1
            have H8 := Lib.hid (hL4.trans L1)
            clear O1 R1 AP1
            go_wp2
            go_ret2
            exact ⟨_, hs, _, rfl, by rw [HX.out.1]; exact H5.out, by rw [HX.out.2]; exact H6.out, H7.out, H8.out⟩
end

section
theorem equalGroup_self (A B : Option Addr) (n c d : Nat) (xs : List Prt) (w : World) (hR : Sl w A n c xs) (hS : Sl w B n d xs) :
    Calls Try.prog 11 #[.slice A n c, .slice B n d] w fun e w' => e = .returned (.bool true) ∧ Le w w' := by
  obtain rfl := hR.len
  have hm := hR.n_le
  have hb : ((xs.length : Int) != (xs.length : Int)) = false := by simp
  go_enter Try.func11, Try.ntmps11
  go_wp2
  go_loopw [5] (fun i wr => ∃ k : Nat, k ≤ xs.length ∧ i = .int .i64 k ∧ Le w wr) (fun i _ => xs.length - (intOf i).toNat)
  case atStart => exact ⟨0, Nat.zero_le _, rfl, Le.refl _⟩
  case round =>
    obtain ⟨k, hk, rfl, hle⟩ := hrel
    have hRr := hR.le hle
    have hSr := hS.le hle
    clear hR hS
    by_cases hlt : k < xs.length
    · obtain ⟨b, off, rfl, hb, hcell0, hcell1, hcell2, hcell3, _⟩ := hRr.prt_at hlt
      obtain ⟨b2, off2, rfl, hb2, hdell0, hdell1, hdell2, hdell3, _⟩ := hSr.prt_at hlt
      have E0 := cell_ext hb hcell0
      have F0 := cell_ext hb2 hdell0
      have E1 := cell_ext hb hcell1
      have F1 := cell_ext hb2 hdell1
      have E2 := cell_ext hb hcell2
      have F2 := cell_ext hb2 hdell2
      have E3 := cell_ext hb hcell3
      have F3 := cell_ext hb2 hdell3
      have q0 : (xs[k].depth == xs[k].depth) = true := by simp
      have q1 : (xs[k].group == xs[k].group) = true := by simp
      have q2 : (xs[k].cls == xs[k].cls) = true := by simp
      have q3 : (xs[k].code == xs[k].code) = true := by simp
      go_wp2_with fail
      refine wp_region_ext (by kernel_rfl) (by kernel_rfl) ?_
      repeat (go_big_quiet_step (fail))
      refine wpQuiet_nil ?_
      intro _ hw'
      obtain ⟨g, rfl⟩ := hw'
      have hw1 := Le.ext wr g
      generalize wr.ext g = W2 at *
      go_wp2
      go_roundw
      case rel => exact ⟨k + 1, by omega, by go_num, hle.trans hw1⟩
      case measure => simp [intOf]; omega
    · go_wp2
      go_ret
      exact ⟨rfl, hle⟩
end

section
theorem equalGroups_self (A B : Option Addr) (n c d : Nat) (hs ks : List Hdr) (L : List (List Prt)) (w : World) (hR : Sl w A n c hs) (hR2 : Rd2 w hs L) (hS : Sl w B n d ks) (hS2 : Rd2 w ks L) :
    Calls Try.prog 20 #[.slice A n c, .slice B n d] w fun e w' => e = .returned (.bool true) ∧ Le w w' := by
  obtain rfl := hR.len
  have hm := hR.n_le
  have hb : ((hs.length : Int) != (hs.length : Int)) = false := by simp
  go_enter Try.func20, Try.ntmps20
  go_wp2
  go_loopw [5] (fun i wr => ∃ k : Nat, k ≤ hs.length ∧ i = .int .i64 k ∧ Le w wr) (fun i _ => hs.length - (intOf i).toNat)
  case atStart => exact ⟨0, Nat.zero_le _, rfl, Le.refl _⟩
  case round =>
    obtain ⟨k, hk, rfl, hle⟩ := hrel
    have hRr := hR.le hle
    have hSr := hS.le hle
    have hRr2 := hR2.le hle
    have hSr2 := hS2.le hle
    clear hR hS hR2 hS2
    by_cases hlt : k < hs.length
    · obtain ⟨b, off, rfl, hb, hcell0⟩ := hRr.hdr_at hlt
      have hltk : k < ks.length := by rw [hSr.len]; exact hlt
      obtain ⟨b2, off2, rfl, hb2, hdell0⟩ := hSr.hdr_at hltk
      have hlL : k < L.length := by rw [← hRr2.len]; exact hlt
      have s1 := hRr2.at_ hlt hlL
      have s2 := hSr2.at_ hltk hlL
      have e1 : hs[k].n = ks[k].n := by rw [← s1.len, ← s2.len]
      rw [← e1] at s2 hdell0
      clear e1
      have E0 := cell_ext hb hcell0
      have F0 := cell_ext hb2 hdell0
      go_wp2_with fail
      refine wp_region_ext (by kernel_rfl) (by kernel_rfl) ?_
      repeat (go_big_quiet_step (first | (go_at_call 11; exact Calls.ext_of (equalGroup_self _ _ _ _ _ L[k] _ (s1.le (Le.ext _ _)) (s2.le (Le.ext _ _))))))
      refine wpQuiet_nil ?_
      intro _ hw'
      obtain ⟨g, rfl⟩ := hw'
      have hw1 := Le.ext wr g
      generalize wr.ext g = W2 at *
      go_wp2
      go_roundw
      case rel => exact ⟨k + 1, by omega, by go_num, hle.trans hw1⟩
      case measure => simp [intOf]; omega
    · go_wp2
      go_ret
      exact ⟨rfl, hle⟩
end

section
theorem equalLeaves_self (A B : Option Addr) (n c d : Nat) (xs : List Lef) (w : World) (hR : Sl w A n c xs) (hS : Sl w B n d xs) :
    Calls Try.prog 28 #[.slice A n c, .slice B n d] w fun e w' => e = .returned (.bool true) ∧ Le w w' := by
  obtain rfl := hR.len
  have hm := hR.n_le
  have hb : ((xs.length : Int) != (xs.length : Int)) = false := by simp
  go_enter Try.func28, Try.ntmps28
  go_wp2
  go_loopw [5] (fun i wr => ∃ k : Nat, k ≤ xs.length ∧ i = .int .i64 k ∧ Le w wr) (fun i _ => xs.length - (intOf i).toNat)
  case atStart => exact ⟨0, Nat.zero_le _, rfl, Le.refl _⟩
  case round =>
    obtain ⟨k, hk, rfl, hle⟩ := hrel
    have hRr := hR.le hle
    have hSr := hS.le hle
    clear hR hS
    by_cases hlt : k < xs.length
    · obtain ⟨b, off, rfl, hb, hcell0, hcell1, _⟩ := hRr.lef_at hlt
      obtain ⟨b2, off2, rfl, hb2, hdell0, hdell1, _⟩ := hSr.lef_at hlt
      have E0 := cell_ext hb hcell0
      have F0 := cell_ext hb2 hdell0
      have E1 := cell_ext hb hcell1
      have F1 := cell_ext hb2 hdell1
      have q0 : (xs[k].cls == xs[k].cls) = true := by simp
      have q1 : (xs[k].code == xs[k].code) = true := by simp
      go_wp2_with fail
      refine wp_region_ext (by kernel_rfl) (by kernel_rfl) ?_
      repeat (go_big_quiet_step (fail))
      refine wpQuiet_nil ?_
      intro _ hw'
      obtain ⟨g, rfl⟩ := hw'
      have hw1 := Le.ext wr g
      generalize wr.ext g = W2 at *
      go_wp2
      go_roundw
      case rel => exact ⟨k + 1, by omega, by go_num, hle.trans hw1⟩
      case measure => simp [intOf]; omega
    · go_wp2
      go_ret
      exact ⟨rfl, hle⟩
end

section
theorem isIn_any (A : Option Addr) (n cap : Nat) (zs : List Int) (x : Int) (w : World) (hR : Sl w A n cap zs) :
    Calls Try.prog 22 #[.slice A n cap, .int .i64 x] w fun e w' => e = .returned (.bool (hasI zs x)) ∧ w = w' := by
  obtain rfl := hR.len
  have hm := hR.n_le
  go_enter Try.func22, Try.ntmps22
  go_wp2
  go_loop [5] (fun i => ∃ k : Nat, k ≤ zs.length ∧ i = .int .i64 k ∧ hasI zs x = hasI (zs.drop k) x) (fun i => zs.length - (intOf i).toNat)
  case atStart => exact ⟨0, Nat.zero_le _, rfl, rfl⟩
  case round =>
    obtain ⟨k, hk, rfl, hr⟩ := hrel
    have HR := Lib.hid hr; clear hr
    by_cases hlt : k < zs.length
    · obtain ⟨b, off, rfl, _, hcell, _, _⟩ := hR.int_at hlt
      cases he : zs[k] == x
      · have HF : Hid (hasI zs x = hasI (zs.drop (k + 1)) x) := by show _ = _; rw [HR.out, hasI_at hlt, he]; rfl
        go_wp2
        go_round
        case rel => exact ⟨k + 1, by omega, by go_num, HF.out⟩
        case measure => simp [intOf]; omega
      · have HF : Hid (hasI zs x = true) := by show _ = _; rw [HR.out, hasI_at hlt, he]; rfl
        go_wp2
        go_ret
        exact ⟨ret_bool HF.out.symm, rfl⟩
    · have HF : Hid (hasI zs x = false) := by show _ = _; rw [HR.out, hasI_end hlt]
      go_wp2
      go_ret
      exact ⟨ret_bool HF.out.symm, rfl⟩


theorem has_any (A : Option Addr) (n cap : Nat) (xs : List Cls) (a : Int) (w : World) (hR : Sl w A n cap xs) :
    Calls Try.prog 13 #[.agg #[.slice A n cap], .int .i64 a] w fun e w' => e = .returned (.bool (hasK xs a)) ∧ Le w w' := by
  obtain rfl := hR.len
  have hm := hR.n_le
  by_cases h0 : 0 ≤ a
  · by_cases h1 : a < xs.length
    · have HF : Hid (hasK xs a = true) := by show _ = _; unfold hasK; simp; omega
      go_enter Try.func13, Try.ntmps13
      go_wp2
      go_ret
      exact ⟨ret_bool HF.out.symm, Le.new w _⟩
    · have HF : Hid (hasK xs a = false) := by show _ = _; unfold hasK; simp; omega
      go_enter Try.func13, Try.ntmps13
      go_wp2
      go_ret
      exact ⟨ret_bool HF.out.symm, Le.new w _⟩
  · have HF : Hid (hasK xs a = false) := by show _ = _; unfold hasK; simp; omega
    go_enter Try.func13, Try.ntmps13
    go_wp2
    go_ret
    exact ⟨ret_bool HF.out.symm, Le.new w _⟩
end

section
section
variable {α : Type} [Enc α] {P : Program} {f : FuncId} {args : Array Value} {w : World} {xs : List α} {T : TypeId}
theorem Calls.sl1o (hp : 0 < Enc.size α) (h : Calls P f args w fun e w' => ∃ v, e = .returned v ∧ Owd T w w' v xs ∧ Le w w') : Calls P f args w fun e w' => ∃ A c, e = .returned (.slice A xs.length c) ∧ Sl w' A xs.length c xs ∧ Le w w' := by
  refine h.mono ?_
  rintro e w' ⟨v, rfl, D, hle⟩
  obtain ⟨A, c, rfl, S, _⟩ := D.form hp
  exact ⟨A, c, rfl, S, hle⟩
end
def KidsOut (L : List (List Prt)) (w : World) (e : Ending) (w' : World) : Prop := ∃ (A : Option Addr) (c : Nat) (hs : List Hdr), e = .returned (.slice A L.length c) ∧ Sl w' A L.length c hs ∧ Rd2 w' hs L ∧ Le w w'
theorem Calls.kidsO {f : FuncId} {args : Array Value} {TT T : TypeId} {L : List (List Prt)} {w : World} (h : Calls Try.prog f args w fun e w' => ∃ v hs, e = .returned v ∧ OwL TT T w w' v hs L ∧ Le w w') : Calls Try.prog f args w (KidsOut L w) :=
  h.mono fun _ _ ⟨v, hs, he, ho, hl⟩ => by obtain ⟨A, c, e2, S⟩ := ho.form; exact ⟨A, c, hs, by rw [he, e2], S, ho.rd (by decide), hl⟩
end
end Go.Proofs.Ytkpnajffeclmdaa
