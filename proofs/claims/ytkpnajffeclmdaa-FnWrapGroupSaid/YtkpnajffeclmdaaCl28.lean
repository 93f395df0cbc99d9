/- one text of HC, HI, SC, HO -/
import Derived.Test.YtkpnajffeclmdaaCl25
import Derived.Test.YtkpnajffeclmdaaCl27
import Derived.Test.YtkpnajffeclmdaaCl1
import Derived.Lib.SlicesCompact
namespace Go.Proofs.Ytkpnajffeclmdaa
open Go.RowKit
set_option linter.unusedVariables false
section
section
/-- the node of a class -/
def pbAt (gs : List PB) (b : Int) : PB := gs.getD b.toNat ⟨0⟩
theorem pbAt_at {gs : List PB} {i : Nat} (h : i < gs.length) : pbAt gs (i : Int) = gs[i] := by
  unfold pbAt; rw [Int.toNat_natCast, List.getD_eq_getElem?_getD, List.getElem?_eq_getElem h]; rfl
theorem ptrOf_pb {gs : List PB} {b : Int} (h0 : 0 ≤ b) (h1 : b < gs.length) : ptrOf gs b = some ⟨(pbAt gs b).g, 0, none⟩ := by
  obtain ⟨i, rfl⟩ := Int.eq_ofNat_of_zero_le h0
  rw [ptrOf_at (by omega), pbAt_at (by omega)]

set_option maxRecDepth 100000 in
theorem closureF_any (gs : List PB) (xs : List Cls) (g : Good xs) (b : Int) (h0 : 0 ≤ b) (h1 : b < xs.length) (a : Int) (ha : a < xs.length) (ha0 : -1 ≤ a) (p : Nat) (w : World) (hN : Nds w gs xs)
    (cp : w.cell? ⟨p, 0, none⟩ = some (.pointer (ptrOf gs a))) :
    Calls Try.prog 81 #[.pointer (some ⟨(pbAt gs b).g, 0, none⟩), .pointer (some ⟨p, 0, none⟩)] w fun e w' => e = .returned (.bool (isAL xs a b)) ∧ w = w' := by
  obtain ⟨i, rfl⟩ := Int.eq_ofNat_of_zero_le h0
  have hi : i < gs.length := by have := hN.len; omega
  rw [pbAt_at hi]
  have hc := Lib.hid (catches_any gs xs g i hi a ha ha0 w hN)
  go_enter Try.func81, Try.ntmps81
  go_wp2_with fail
  refine hc.out.mono ?_
  rintro e w' ⟨rfl, rfl⟩
  go_wp2
  go_ret
  exact ⟨rfl, rfl⟩

theorem indexFuncH_any (A : Option Addr) (m cap : Nat) (gs : List PB) (xs : List Cls) (L : List Int) (g : Good xs) (hm : ∀ b ∈ L, 0 ≤ b ∧ b < xs.length) (a : Int) (ha : a < xs.length) (ha0 : -1 ≤ a) (p : Nat) (w : World) (hN : Nds w gs xs)
    (hS : Sl w A m cap (L.map (pbAt gs))) (cp : w.cell? ⟨p, 0, none⟩ = some (.pointer (ptrOf gs a))) :
    Calls Try.prog 80 #[.slice A m cap, .func (.func 81) #[] #[.pointer (some ⟨p, 0, none⟩)]] w fun e w' => e = .returned (.int .i64 (firstC xs L a 0)) ∧ w = w' := by
  have hl := hS.len
  have hlm : L.length = m := by rw [← hl]; simp
  have hmx := hS.n_le
  obtain rfl := hlm
  clear hl
  have HN := Lib.hid hN; clear hN
  go_enter Try.func80, Try.ntmps80
  go_wp2
  go_loop [8] (fun i => ∃ k : Nat, k ≤ L.length ∧ i = .int .i64 k ∧ firstC xs L a 0 = firstC xs (L.drop k) a k) (fun i => L.length - (intOf i).toNat)
  case atStart => exact ⟨0, Nat.zero_le _, rfl, rfl⟩
  case round =>
    obtain ⟨k, hk, rfl, hr⟩ := hrel
    have HR := Lib.hid hr; clear hr
    by_cases hlt : k < L.length
    · have hlt' : k < (L.map (pbAt gs)).length := by simpa using hlt
      obtain ⟨b, off, rfl, _, hcell⟩ := hS.pb_at hlt'
      rw [List.getElem_map] at hcell
      have hmem := hm L[k] (List.getElem_mem hlt)
      have HC := Lib.hid (closureF_any gs xs g L[k] hmem.1 hmem.2 a ha ha0 p w HN.out cp)
      have hat := firstC_at (xs := xs) hlt a k
      cases hi1 : isAL xs a L[k]
      · have HF : Hid (firstC xs L a 0 = firstC xs (L.drop (k + 1)) a ((k + 1 : Nat) : Int)) := by show _ = _; rw [HR.out, hat, hi1]; rfl
        clear hat
        go_wp2_with fail
        refine HC.out.mono ?_
        rintro e w' ⟨rfl, rfl⟩
        rw [hi1]
        go_wp2
        go_round
        case rel => exact ⟨k + 1, by omega, by go_num, HF.out⟩
        case measure => simp [intOf]; omega
      · have HF : Hid (firstC xs L a 0 = k) := by show _ = _; rw [HR.out, hat, hi1]; rfl
        clear hat
        go_wp2_with fail
        refine HC.out.mono ?_
        rintro e w' ⟨rfl, rfl⟩
        rw [hi1]
        go_wp2
        go_ret
        exact ⟨ret_int HF.out.symm, rfl⟩
    · have HF : Hid (firstC xs L a 0 = -1) := by show _ = _; rw [HR.out, firstC_end hlt]
      go_wp2
      go_ret
      exact ⟨ret_int HF.out.symm, rfl⟩

theorem first_any (A : Option Addr) (m cap : Nat) (gs : List PB) (xs : List Cls) (L : List Int) (g : Good xs) (hm : ∀ b ∈ L, 0 ≤ b ∧ b < xs.length) (a : Int) (ha : a < xs.length) (ha0 : -1 ≤ a) (w : World) (hN : Nds w gs xs)
    (hS : Sl w A m cap (L.map (pbAt gs))) :
    Calls Try.prog 63 #[.slice A m cap, .pointer (ptrOf gs a)] w fun e w' => e = .returned (.int .i64 (firstC xs L a 0)) ∧ Le w w' := by
  go_enter Try.func63, Try.ntmps63
  go_wp2_with fail
  refine (indexFuncH_any A m cap gs xs L g hm a ha ha0 _ _ (hN.le (Le.new w _)) (hS.alloc _) (by simp)).mono ?_
  rintro e w' ⟨rfl, rfl⟩
  go_wp2
  go_ret
  exact ⟨rfl, Le.new w _⟩
theorem hcatches_any (A : Option Addr) (m cap : Nat) (gs : List PB) (xs : List Cls) (L : List Int) (g : Good xs) (hm : ∀ b ∈ L, 0 ≤ b ∧ b < xs.length) (a : Int) (ha : a < xs.length) (ha0 : -1 ≤ a) (w : World) (hN : Nds w gs xs)
    (hS : Sl w A m cap (L.map (pbAt gs))) :
    Calls Try.prog 52 #[.slice A m cap, .pointer (ptrOf gs a)] w fun e w' => e = .returned (.bool (decide (0 ≤ firstC xs L a 0))) ∧ Le w w' := by
  go_enter Try.func52, Try.ntmps52
  go_wp2_with fail
  refine (first_any A m cap gs xs L g hm a ha ha0 _ hN hS).mono ?_
  rintro e w' ⟨rfl, hle⟩
  go_wp2
  go_ret
  exact ⟨rfl, hle⟩
end

section
def HandOut (xs : List Cls) (L : List Int) (gs : List PB) (w : World) (e : Ending) (w' : World) : Prop :=
  Le w w' ∧ ((goodC xs L = false ∧ e = .returned (.tuple #[.slice none 0 0, .bool false])) ∨ (goodC xs L = true ∧ ∃ H c, e = .returned (.tuple #[.slice H L.length c, .bool true]) ∧ Sl w' H L.length c (L.map (pbAt gs))))
theorem goodC_no {xs : List Cls} {L : List Int} (h : okTree xs = false ∨ 6 < L.length ∨ goodL xs L = false) : goodC xs L = false := by
  unfold goodC
  rcases h with h | h | h
  · rw [h]; rfl
  · rw [decide_eq_false (p := L.length ≤ 6) (by omega), Bool.and_false]
  · rw [h, Bool.and_false]; rfl
theorem goodC_yes {xs : List Cls} {L : List Int} (h : okTree xs = true) (h2 : L.length ≤ 6) (h3 : goodL xs L = true) : goodC xs L = true := by
  unfold goodC; rw [h, h3, decide_eq_true h2]; rfl

set_option maxHeartbeats 1000000 in
set_option maxRecDepth 100000 in
theorem handlersOf_any (A B : Option Addr) (n m c : Nat) (gs : List PB) (xs : List Cls) (L : List Int) (w : World) (hS : Sl w A n n gs)
    (hcase : (okTree xs = false ∧ n = 0 ∧ gs = []) ∨ (okTree xs = true ∧ n = xs.length ∧ Nds w gs xs)) (hL : Sl w B m c L) :
    Calls Try.prog 49 #[.slice A n n, .slice B m c] w (HandOut xs L gs w) := by
  obtain rfl := hL.len
  have hmx := hL.n_le
  have hnx := hS.n_le
  rcases hcase with ⟨h0, rfl, rfl⟩ | ⟨h0, rfl, hN⟩
  · have HF := Lib.hid (goodC_no (L := L) (.inl h0))
    clear h0
    go_enter Try.func49, Try.ntmps49
    go_wp2
    go_ret2
    exact ⟨Le.refl w, .inl ⟨HF.out, rfl⟩⟩
  · have g := good_of h0
    have hlo := g.lo
    have hn0 : ((xs.length : Int) == 0) = false := by rw [beq_eq_false_iff_ne]; omega
    by_cases h6 : 6 < L.length
    · have HF := Lib.hid (goodC_no (xs := xs) (L := L) (.inr (.inl h6)))
      have h6' : 6 < (L.length : Int) := by omega
      go_enter Try.func49, Try.ntmps49
      go_wp2
      go_ret2
      exact ⟨Le.refl w, .inl ⟨HF.out, rfl⟩⟩
    · have h6' : ¬ 6 < (L.length : Int) := by omega
      obtain ⟨i0, hi, hz0, hz1, hz2⟩ := info_parts pnInfo
      have hb2 : i0.bytes * L.length ≤ 281474976710656 := by rw [hz2]; omega
      have H0 := Lib.hid h0; clear h0
      have HL := Lib.hid hN.len
      go_enter Try.func49, Try.ntmps49
      go_wp2_with (refine wpList_make_full _ rfl _ _ 81 rfl w.heap.size 65 i0 _ 1 Try.underlying81 hi hz0 hz1 .i64 .i64 _ _ L.length rfl rfl rfl rfl hb2 (by unfold maxLen; omega) (Nat.le_refl _) ?_; intro w1 hown1 hg1)
      have hle1 : Le w w1 := (Le.refl w).grown hg1 (by intro k hk; cases hk)
      clear hg1
      go_loopw [22] (fun i wr => ∃ k : Nat, ∃ r : List Value, k ≤ L.length ∧ i = .int .i64 k ∧ r.length = L.length - k ∧ wr.ownsRow w.heap.size 65 1 (.slice (some ⟨w.heap.size, 0, none⟩) L.length L.length) L.length (((L.take k).map (pbAt gs)).flatMap Enc.cells ++ r) ∧
        goodL xs L = goodL xs (L.drop k) ∧ Le w wr) (fun i _ => L.length - (intOf i).toNat)
      case atStart => exact ⟨0, _, Nat.zero_le _, rfl, by simp [madeCells], hown1, rfl, hle1⟩
      case round =>
        obtain ⟨k, r, hk, rfl, hr, hown, hgl, hle⟩ := hrel
        have HG := Lib.hid hgl; clear hgl
        have S1 := hS.le hle
        have S2 := hL.le hle
        clear hown1 hle1
        by_cases hlt : k < L.length
        · obtain ⟨b, off, rfl, hb, hcell, _, _⟩ := S2.int_at hlt
          match r, hr with
          | [], h => simp at h; omega
          | r0 :: rr, hr =>
          have hfl : (((L.take k).map (pbAt gs)).flatMap (Enc.cells (α := PB))).length = k := by rw [flat_len, List.length_map, List.length_take]; show _ * 1 = _; omega
          have hc0 : wr.cell? ⟨w.heap.size, k, none⟩ = some r0 := by rw [hown.cellAt _ (by omega), List.getElem?_append_right (by omega), hfl]; simp
          have hf0 := hown.frozenAt k
          have HFL := Lib.hid hfl; clear hfl
          have HF : Hid (goodL xs L = (hasK xs L[k] && goodL xs (L.drop (k + 1)))) := by show _ = _; rw [HG.out, goodL_at hlt]
          go_wp2_with fail
          refine (nodeAt_any _ _ _ gs L[k] _ S1).mono ?_
          rintro e w3 ⟨rfl, rfl⟩
          rcases ptr_cases HL.out L[k] with ⟨h2, h3⟩ | ⟨h2, j, hj, hje, h3⟩
          · rw [h3]
            have HN : Hid (goodC xs L = false) := goodC_no (.inr (.inr (by rw [HF.out, h2]; rfl)))
            clear h3 h2
            go_wp2
            go_ret2
            exact ⟨hle.setCell (Nat.le_refl _) _, .inl ⟨HN.out, rfl⟩⟩
          · rw [h3]
            have hpb : pbAt gs L[k] = gs[j] := by rw [hje, pbAt_at hj]
            have HPB := Lib.hid hpb; clear hpb
            have H2 := Lib.hid h2
            clear h3 hje h2
            go_wp2
            go_roundw
            case rel =>
              refine ⟨k + 1, rr, by omega, by go_num, by simp at hr; omega, ?_, by rw [HF.out, H2.out]; rfl, hle.setCell (Nat.le_refl _) _⟩
              have h1 := (hown.stored k (.pointer (some ⟨gs[j].g, 0, none⟩))).1
              have e : ((L.take (k + 1)).map (pbAt gs)).flatMap Enc.cells ++ rr = ((((L.take k).map (pbAt gs)).flatMap Enc.cells ++ r0 :: rr).set k (.pointer (some ⟨gs[j].g, 0, none⟩))) := by
                rw [List.set_append_right _ _ (by have := HFL.out; omega), HFL.out, List.take_succ_eq_append_getElem hlt, List.map_append, List.flatMap_append]
                simp [Enc.cells, HPB.out]
              rw [e]; exact h1
            case measure => simp [intOf]; omega
        · have hk' : k = L.length := by omega
          have hr0 : r = [] := List.eq_nil_of_length_eq_zero (by omega)
          have HF : Hid (HandOut xs L gs w (.returned (.tuple #[.slice (some ⟨w.heap.size, 0, none⟩) L.length L.length, .bool true])) wr) := by
            refine ⟨hle, .inr ⟨goodC_yes H0.out (by omega) (by rw [HG.out, goodL_end hlt]), _, _, rfl, ?_⟩⟩
            rw [hr0, List.append_nil, hk', List.take_length] at hown
            exact Sl.of_own hown rfl (by decide) (fun _ _ => trivial)
          clear hk' hr0 hr hown
          go_wp2
          go_ret2
          exact HF.out
end

section
theorem iFirstCatch_any (A B : Option Addr) (n cap m c : Nat) (xs : List Cls) (L : List Int) (a : Int) (w : World) (hR : Sl w A n cap xs) (hL : Sl w B m c L) :
    Calls Try.prog 30 #[.agg #[.slice A n cap], .slice B m c, .int .i64 a] w fun e w' => e = .returned (.int .i64 (firstX xs L a)) ∧ Le w w' := by
  have L0 := Le.new w (.cells #[.slice A n cap] 25)
  go_enter Try.func30, Try.ntmps30
  go_wp2_with fail
  refine (nodesOf_any A n cap xs _ (hR.alloc _)).mono ?_
  intro e w2 hout
  obtain ⟨hle, A2, n2, gs, rfl, S2, hcase⟩ := nodes_one hout
  replace L0 := L0.trans hle
  clear hout hle
  have S3 := hL.le L0
  go_wp2_with fail
  refine (handlersOf_any A2 B n2 m c gs xs L _ S2 hcase S3).mono ?_
  rintro e w3 ⟨hle, hcs⟩
  have S4 := S2.le hle
  replace L0 := L0.trans hle
  rcases hcs with ⟨h1, rfl⟩ | ⟨h1, H, ch, rfl, S5⟩
  · have HF := Lib.hid (firstX_of (xs := xs) (L := L) (a := a) (t := false) (by rw [h1]; rfl))
    clear hcase h1
    go_wp2_with fail
    refine (nodeAt_any _ _ _ gs a _ S4).mono ?_
    rintro e w3 ⟨rfl, rfl⟩
    go_wp2
    go_ret
    exact ⟨ret_int HF.out.symm, L0⟩
  · have gc := goodC_of h1
    have ho : okTree xs = true := by unfold goodC at h1; simp at h1; exact h1.1.1
    rcases hcase with ⟨h0, _⟩ | ⟨_, rfl, hN⟩
    · rw [ho] at h0; cases h0
    · replace hN := hN.le hle
      clear ho
      go_wp2_with fail
      refine (nodeAt_any _ _ _ gs a _ S4).mono ?_
      rintro e w3 ⟨rfl, rfl⟩
      rcases ptr_cases hN.len a with ⟨h2, h3⟩ | ⟨h2, j, hj, rfl, h3⟩
      · have HF := Lib.hid (firstX_of (xs := xs) (L := L) (a := a) (t := false) (by rw [h1, h2]; rfl))
        rw [h3]
        clear h1 h2 h3
        go_wp2
        go_ret
        exact ⟨ret_int HF.out.symm, L0⟩
      · have HF := Lib.hid (firstX_of (xs := xs) (L := L) (a := j) (t := true) (by rw [h1, h2]; rfl))
        have hc := Lib.hid (first_any H L.length ch gs xs L gc.tree gc.mem j (by have := hN.len; omega) (by omega) _ hN S5)
        rw [h3] at hc ⊢
        clear h1 h2 h3
        go_wp2_with fail
        refine hc.out.mono ?_
        rintro e w4 ⟨rfl, hle4⟩
        go_wp2
        go_ret
        exact ⟨ret_int HF.out.symm, L0.trans hle4⟩
end
end

section
theorem hand_tree {xs : List Cls} {L : List Int} (h : goodC xs L = true) : okTree xs = true := by unfold goodC at h; simp at h; exact h.1.1
set_option maxRecDepth 100000 in
theorem iDeadCatches_any (A B : Option Addr) (n cap m c : Nat) (xs : List Cls) (L : List Int) (w : World) (hR : Sl w A n cap xs) (hL : Sl w B m c L) :
    Calls Try.prog 21 #[.agg #[.slice A n cap], .slice B m c] w fun e w' => ∃ v, e = .returned v ∧ Owd 3 w w' v (deadX xs L) ∧ Le w w' := by
  have L0 := Le.new w (.cells #[.slice A n cap] 25)
  go_enter Try.func21, Try.ntmps21
  go_wp2_with fail
  refine (nodesOf_any A n cap xs _ (hR.alloc _)).mono ?_
  intro e w2 hout
  obtain ⟨hle, A2, n2, gs, rfl, S2, hcase⟩ := nodes_one hout
  replace L0 := L0.trans hle
  clear hout hle
  have S3 := hL.le L0
  go_wp2_with fail
  refine (handlersOf_any A2 B n2 m c gs xs L _ S2 hcase S3).mono ?_
  rintro e w3 ⟨hle, hcs⟩
  replace L0 := L0.trans hle
  rcases hcs with ⟨h1, rfl⟩ | ⟨h1, H, ch, rfl, S5⟩
  · have HF := Lib.hid (deadX_of h1)
    clear hcase h1
    go_wp2
    go_ret
    exact ⟨_, rfl, by rw [HF.out]; exact Owd.nil _ _ _, L0⟩
  · have gc := goodC_of h1
    rcases hcase with ⟨h0, _⟩ | ⟨_, rfl, hN⟩
    · rw [hand_tree h1] at h0; cases h0
    · replace hN := hN.le hle
      have HF := Lib.hid (deadX_of h1)
      have h6 := gc.few
      have hcp := S5.cap_
      have HOK := Lib.hid (deadK_ok xs L L.length (by omega))
      have HM := Lib.hid gc.mem
      obtain ⟨i0, hi, hz0, hz1, hz2⟩ := info_parts intInfo
      clear S2 S3 h1 hle
      go_wp2
      go_loopw [7, 21] (fun v i wr => ∃ k : Nat, k ≤ L.length ∧ i = .int .i64 k ∧ wr.ownsRow w3.heap.size 3 1 v (deadK xs L k).length ((deadK xs L k).flatMap Enc.cells) ∧ Le w3 wr) (fun _ i _ => L.length - (intOf i).toNat)
      case atStart => exact ⟨0, Nat.zero_le _, rfl, World.ownsRow_nil _ _ _ _, Le.refl _⟩
      case round =>
        obtain ⟨k, hk, rfl, O1, hle⟩ := hrel
        by_cases hlt : k < L.length
        · have hmem := HM.out L[k] (List.getElem_mem hlt)
          have S6 := S5.le hle
          have hlt' : k < (L.map (pbAt gs)).length := by simpa using hlt
          obtain ⟨b, off, rfl, hb, hcell⟩ := S6.pb_at hlt'
          rw [List.getElem_map] at hcell
          have S7 := S6.take_ k (by omega)
          rw [← List.map_take] at S7
          have hkc : (0 : Int) ≤ k ∧ (k : Int) ≤ ch := by omega
          have hbl := deadK_len xs L k
          have HC := Lib.hid (hcatches_any _ k ch gs xs (L.take k) gc.tree (fun b hb => HM.out b (List.mem_of_mem_take hb)) L[k] hmem.2 (by omega) wr (hN.le hle) S7)
          rw [ptrOf_pb hmem.1 (by have := hN.len; omega)] at HC
          clear S6 S7
          by_cases h1 : 0 ≤ firstC xs (L.take k) L[k] 0
          · have HB := Lib.hid (deadK_yes hlt h1)
            have hd1 : decide (0 ≤ firstC xs (L.take k) L[k] 0) = true := decide_eq_true h1
            clear h1
            go_wp2_with fail
            refine HC.out.mono ?_
            rintro e w4 ⟨rfl, hle4⟩
            rw [hd1]
            replace O1 := own_le O1 hle4
            replace hle := hle.trans hle4
            have hsz := hle.size
            clear hd1
            go_wp2_with (at_builtin; refine wpList_append_own _ rfl _ _ 41 rfl w3.heap.size 3 i0 (.int .i64 0) 1 8 Try.underlying41 hi hz0 hz1 hz2 rfl (by decide) _ _ _ rfl (O1.alloc _) ⟨w4.heap.size, 0, none⟩ 1 1 [.int .i64 k] rfl rfl ?c1 ?c2 (by unfold maxLen; omega) (by omega) ?c5 ?_)
            case c1 => exact one_new _ _ _
            case c2 => intro u hu; simp at hu; subst hu; rfl
            case c5 => simp; omega
            intro v1 w1 hown1 hg1 _
            have hle1 := (hle.alloc (.cells #[.int .i64 (k : Int)] 3)).grown hg1 (fun k hk => (O1.lt k hk).1)
            go_wp2
            go_roundw
            case rel => exact ⟨k + 1, by omega, by go_num, by rw [HB.out]; simpa [Enc.cells] using hown1, hle1⟩
            case measure => simp [intOf]; omega
          · have HB := Lib.hid (deadK_no hlt h1)
            have hd1 : decide (0 ≤ firstC xs (L.take k) L[k] 0) = false := decide_eq_false h1
            clear h1
            go_wp2_with fail
            refine HC.out.mono ?_
            rintro e w4 ⟨rfl, hle4⟩
            rw [hd1]
            replace O1 := own_le O1 hle4
            replace hle := hle.trans hle4
            clear hd1
            go_wp2
            go_roundw
            case rel => exact ⟨k + 1, by omega, by go_num, by rw [HB.out]; exact O1, hle⟩
            case measure => simp [intOf]; omega
        · have hk' : k = L.length := by omega
          subst hk'
          have HO : ∀ v, wr.ownsRow w3.heap.size 3 1 v (deadK xs L L.length).length ((deadK xs L L.length).flatMap Enc.cells) → Owd 3 w wr v (deadX xs L) := by
            intro v hv
            rw [HF.out]; exact ⟨own_mono hv L0.size, HOK.out⟩
          have HO2 := Lib.hid (HO _ O1)
          clear HO O1
          go_wp2
          go_ret
          exact ⟨_, rfl, HO2.out, L0.trans hle⟩
end

section
theorem compactUpTo_asc (d : Array Int) (hs : ∀ i j, i ≤ j → j < d.size → d[i]! ≤ d[j]!) : ∀ m, m ≤ d.size →
    (Go.Lib.compactUpTo d m).Pairwise (· < ·) ∧ ∀ x, x ∈ Go.Lib.compactUpTo d m ↔ ∃ j, j < m ∧ d[j]! = x := by
  intro m
  induction m with
  | zero => intro _; exact ⟨by simp [Go.Lib.compactUpTo], by simp [Go.Lib.compactUpTo]⟩
  | succ m ih =>
    intro hm
    obtain ⟨h1, h2⟩ := ih (by omega)
    rw [Go.Lib.compactUpTo_succ]
    by_cases hk : Go.Lib.keeps d m = true
    · rw [if_pos hk]
      have hlt : ∀ x ∈ Go.Lib.compactUpTo d m, x < d[m]! := by
        intro x hx
        obtain ⟨j, hj, rfl⟩ := (h2 x).1 hx
        have h3 : m ≠ 0 := by omega
        have h4 : d[m]! ≠ d[m - 1]! := by
          have := hk; simp [Go.Lib.keeps] at this
          rcases this with h | h
          · omega
          · simpa using h
        have h5 := hs j (m - 1) (by omega) (by omega)
        have h6 := hs (m - 1) m (by omega) (by omega)
        omega
      refine ⟨?_, fun x => ?_⟩
      · rw [List.pairwise_append]
        exact ⟨h1, by simp, fun a ha b hb => by simp at hb; subst hb; exact hlt a ha⟩
      · rw [List.mem_append, h2]
        constructor
        · rintro (⟨j, hj, e⟩ | hx)
          · exact ⟨j, by omega, e⟩
          · simp at hx; exact ⟨m, by omega, by simp [hx]⟩
        · rintro ⟨j, hj, e⟩
          by_cases hjm : j = m
          · subst hjm; right; simp [e]
          · left; exact ⟨j, by omega, e⟩
    · rw [if_neg hk, List.append_nil]
      refine ⟨h1, fun x => ?_⟩
      rw [h2]
      constructor
      · rintro ⟨j, hj, e⟩; exact ⟨j, by omega, e⟩
      · rintro ⟨j, hj, e⟩
        by_cases hjm : j = m
        · subst hjm
          have h4 : j ≠ 0 ∧ d[j]! = d[j - 1]! := by
            have := hk; simp [Go.Lib.keeps] at this
            exact ⟨this.1, by simpa using this.2⟩
          exact ⟨j - 1, by omega, by rw [← h4.2]; exact e⟩
        · exact ⟨j, by omega, e⟩
theorem compact_sorted (M : List Int) : (Go.Lib.compact (M.mergeSort fun x y => decide (x ≤ y))).Pairwise (· < ·) ∧ ∀ x, x ∈ Go.Lib.compact (M.mergeSort fun x y => decide (x ≤ y)) ↔ x ∈ M := by
  have hp := List.pairwise_mergeSort (le := fun x y : Int => decide (x ≤ y)) (by intro a b c; simp; omega) (by intro a b; simp; omega) M
  generalize hS : M.mergeSort (fun x y => decide (x ≤ y)) = S at *
  have hs : ∀ i j, i ≤ j → j < S.toArray.size → S.toArray[i]! ≤ S.toArray[j]! := by
    intro i j hij hj
    simp at hj
    rw [getElem!_pos S.toArray i (by simp; omega), getElem!_pos S.toArray j (by simpa using hj)]
    rcases Nat.lt_or_ge i j with h | h
    · have := List.pairwise_iff_getElem.1 hp i j (by omega) hj h
      simpa using this
    · have : i = j := by omega
      subst this; exact Int.le_refl _
  obtain ⟨h1, h2⟩ := compactUpTo_asc S.toArray hs S.length (by simp)
  refine ⟨h1, fun x => (h2 x).trans ?_⟩
  have hm : x ∈ S ↔ x ∈ M := by rw [← hS]; exact List.mem_mergeSort
  rw [← hm, List.mem_iff_getElem]
  constructor
  · rintro ⟨j, hj, e⟩
    rw [getElem!_pos S.toArray j (by simpa using hj)] at e
    exact ⟨j, hj, by simpa using e⟩
  · rintro ⟨j, hj, e⟩
    exact ⟨j, hj, by rw [getElem!_pos S.toArray j (by simpa using hj)]; simpa using e⟩
theorem asc_ext : ∀ (l m : List Int), l.Pairwise (· < ·) → m.Pairwise (· < ·) → (∀ x, x ∈ l ↔ x ∈ m) → l = m
  | [], [], _, _, _ => rfl
  | [], b :: m, _, _, h => by have := (h b).2 (by simp); simp at this
  | a :: l, [], _, _, h => by have := (h a).1 (by simp); simp at this
  | a :: l, b :: m, h1, h2, h => by
    rw [List.pairwise_cons] at h1 h2
    have e : a = b := by
      have ha := (h a).1 (by simp)
      have hb := (h b).2 (by simp)
      rcases List.mem_cons.1 ha with e | ha
      · exact e
      · rcases List.mem_cons.1 hb with e | hb
        · exact e.symm
        · have := h1.1 b hb; have := h2.1 a ha; omega
    subst e
    rw [asc_ext l m h1.2 h2.2 (fun x => by
      constructor
      · intro hx
        rcases List.mem_cons.1 ((h x).1 (by simp [hx])) with e | hx'
        · have := h1.1 x hx; omega
        · exact hx'
      · intro hx
        rcases List.mem_cons.1 ((h x).2 (by simp [hx])) with e | hx'
        · have := h2.1 x hx; omega
        · exact hx')]
end

section
def upP (xs : List Cls) (L : List Int) (b : Int) : Bool := !decide (0 ≤ firstC xs L (parOf xs b) 0)
theorem firstC_nonneg {xs : List Cls} {a : Int} : ∀ {L : List Int} {j : Int}, 0 ≤ j → (0 ≤ firstC xs L a j ↔ ∃ b ∈ L, isAL xs a b = true)
  | [], j, _ => by simp [firstC]
  | c :: r, j, hj => by
    unfold firstC
    cases h : isAL xs a c
    · rw [if_neg (by simp)]
      rw [firstC_nonneg (L := r) (j := j + 1) (by omega)]
      simp [h]
    · rw [if_pos rfl]
      simp [h]; exact hj
theorem allN_iff {xs : List Cls} {a : Int} : ∀ {L : List Int}, allN xs a L = true ↔ ∀ b ∈ L, b = a ∨ isAL xs a b = false
  | [] => by simp [allN]
  | c :: r => by
    rw [allN, Bool.and_eq_true, allN_iff (L := r)]
    simp
theorem hasI_iff {x : Int} : ∀ {L : List Int}, hasI L x = true ↔ x ∈ L
  | [] => by simp [hasI]
  | c :: r => by
    rw [hasI, Bool.or_eq_true, hasI_iff (L := r)]
    simp
    constructor
    · rintro (h | h)
      · exact .inl h.symm
      · exact .inr h
    · rintro (h | h)
      · exact .inl h.symm
      · exact .inr h
theorem isAL_up_no {xs : List Cls} (g : Good xs) {i : Nat} (hi : i < xs.length) : isAL xs xs[i].parent (i : Int) = false := by
  cases h : isAL xs xs[i].parent (i : Int)
  · rfl
  · unfold isAL at h
    rw [hasI_iff] at h
    have hp := g.par_le hi
    have := aboveL_mem g _ xs[i].parent rfl (by omega) _ h
    omega
theorem need_iff {xs : List Cls} {L : List Int} (gc : GoodC xs L) {a : Int} : needC xs L a = true ↔ a ∈ L ∧ upP xs L a = true := by
  unfold needC upP
  rw [Bool.and_eq_true, hasI_iff, allN_iff]
  constructor
  · rintro ⟨ha, hb⟩
    refine ⟨ha, ?_⟩
    obtain ⟨h0, h1⟩ := gc.mem a ha
    obtain ⟨i, rfl⟩ := Int.eq_ofNat_of_zero_le h0
    have hi : i < xs.length := by omega
    rw [parOf_at hi]
    simp only [Bool.not_eq_true', decide_eq_false_iff_not]
    rw [firstC_nonneg (by omega)]
    rintro ⟨b, hbL, hbt⟩
    rcases hb b hbL with rfl | h
    · rw [isAL_up_no gc.tree hi] at hbt; cases hbt
    · rw [isAL_at gc.tree hi, hbt] at h; simp at h
  · rintro ⟨ha, hp⟩
    refine ⟨ha, fun b hbL => ?_⟩
    obtain ⟨h0, h1⟩ := gc.mem a ha
    obtain ⟨i, rfl⟩ := Int.eq_ofNat_of_zero_le h0
    have hi : i < xs.length := by omega
    rw [parOf_at hi] at hp
    simp only [Bool.not_eq_true', decide_eq_false_iff_not] at hp
    rw [firstC_nonneg (by omega)] at hp
    by_cases e : b = i
    · exact .inl e
    · right
      rw [isAL_at gc.tree hi]
      have e1 : ((i : Int) == b) = false := by simp; omega
      rw [e1, Bool.false_or]
      cases h : isAL xs xs[i].parent b
      · rfl
      · exact absurd ⟨b, hbL, h⟩ hp
theorem least_eq {xs : List Cls} {L : List Int} (gc : GoodC xs L) : Lib.compact ((L.filter (upP xs L)).mergeSort fun x y => decide (x ≤ y)) = leastK xs L xs.length := by
  obtain ⟨h1, h2⟩ := compact_sorted (L.filter (upP xs L))
  refine asc_ext _ _ h1 (leastK_asc xs L _) (fun x => ?_)
  rw [h2, leastK_mem, List.mem_filter, need_iff gc]
  constructor
  · rintro ⟨ha, hb⟩
    have := gc.mem x ha
    exact ⟨this.1, this.2, ha, hb⟩
  · rintro ⟨_, _, ha, hb⟩; exact ⟨ha, hb⟩

theorem own_cut {w : World} {base size n m : Nat} {e : TypeId} {A : Option Addr} {c : Nat} {xs ys : List Value} (h : w.ownsRow base e size (.slice A n c) n (xs ++ ys)) (hA : A ≠ none) (hx : xs.length = m * size) (hm : m ≤ n) : w.ownsRow base e size (.slice A m c) m xs := by
  refine ⟨hx, .inr ?_⟩
  rcases h.2 with ⟨h', _⟩ | ⟨g, cap, cur, hv, hg0, hg, hnc, hcm, hcs, ht⟩
  · simp only [Value.slice.injEq] at h'
    exact absurd h'.1 hA
  · simp only [Value.slice.injEq, true_and] at hv
    obtain ⟨rfl, rfl⟩ := hv
    refine ⟨g, c, cur, rfl, hg0, hg, by omega, hcm, hcs, ?_⟩
    have : cur.toList.take (m * size) = (cur.toList.take (n * size)).take (m * size) := by
      rw [List.take_take, Nat.min_eq_left (Nat.mul_le_mul_right _ hm)]
    rw [this, ht, ← hx]; simp
theorem ints_flat (L : List Int) : L.flatMap Enc.cells = L.map (Value.int .i64) := by
  induction L with
  | nil => rfl
  | cons x r ih => rw [List.flatMap_cons, ih]; rfl
end
end Go.Proofs.Ytkpnajffeclmdaa
