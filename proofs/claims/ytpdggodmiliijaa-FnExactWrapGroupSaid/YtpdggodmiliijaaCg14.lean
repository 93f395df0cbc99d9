/- one text of HC, ItU -/
import Derived.Test.YtpdggodmiliijaaCg11
import Derived.Test.YtpdggodmiliijaaCg12
import Derived.Test.YtpdggodmiliijaaCg13
namespace Go.Proofs.Ytpdggodmiliijaa
open Go.RowKit
set_option linter.unusedVariables false
section
section
/-- the node of a class -/
def pbAt (gs : List PB) (b : Int) : PB := gs.getD b.toNat ⟨0⟩
theorem pbAt_at {gs : List PB} {i : Nat} (h : i < gs.length) : pbAt gs (i : Int) = gs[i] := by
  unfold pbAt; rw [Int.toNat_natCast, List.getD_eq_getElem?_getD, List.getElem?_eq_getElem h]; rfl
theorem ptrOf_pb {gs : List PB} {b : Int} (h0 : 0 ≤ b) (h1 : b < gs.length) : ptrOf gs b = some ⟨(pbAt gs b).g, 0, none⟩ := by
  obtain ⟨i, rfl⟩ := Int.eq_ofNat_of_zero_le h0
  rw [ptrOf_at (by omega), pbAt_at (by omega)]

set_option maxRecDepth 100000 in
theorem closureF_any (gs : List PB) (xs : List Cls) (g : Good xs) (b : Int) (h0 : 0 ≤ b) (h1 : b < xs.length) (a : Int) (ha : a < xs.length) (ha0 : -1 ≤ a) (p : Nat) (w : World) (hN : Nds w gs xs)
    (cp : w.cell? ⟨p, 0, none⟩ = some (.pointer (ptrOf gs a))) :
    Calls Try.prog 126 #[.pointer (some ⟨(pbAt gs b).g, 0, none⟩), .pointer (some ⟨p, 0, none⟩)] w fun e w' => e = .returned (.bool (isAL xs a b)) ∧ w = w' := by
  obtain ⟨i, rfl⟩ := Int.eq_ofNat_of_zero_le h0
  have hi : i < gs.length := by have := hN.len; omega
  rw [pbAt_at hi]
  have hc := Lib.hid (catches_any gs xs g i hi a ha ha0 w hN)
  go_enter Try.func126, Try.ntmps126
  go_wp2_with fail
  refine hc.out.mono ?_
  rintro e w' ⟨rfl, rfl⟩
  go_wp2
  go_ret
  exact ⟨rfl, rfl⟩

theorem indexFuncH_any (A : Option Addr) (m cap : Nat) (gs : List PB) (xs : List Cls) (L : List Int) (g : Good xs) (hm : ∀ b ∈ L, 0 ≤ b ∧ b < xs.length) (a : Int) (ha : a < xs.length) (ha0 : -1 ≤ a) (p : Nat) (w : World) (hN : Nds w gs xs)
    (hS : Sl w A m cap (L.map (pbAt gs))) (cp : w.cell? ⟨p, 0, none⟩ = some (.pointer (ptrOf gs a))) :
    Calls Try.prog 125 #[.slice A m cap, .func (.func 126) #[] #[.pointer (some ⟨p, 0, none⟩)]] w fun e w' => e = .returned (.int .i64 (firstC xs L a 0)) ∧ w = w' := by
  have hl := hS.len
  have hlm : L.length = m := by rw [← hl]; simp
  have hmx := hS.n_le
  obtain rfl := hlm
  clear hl
  have HN := Lib.hid hN; clear hN
  go_enter Try.func125, Try.ntmps125
  go_wp2
  go_loop [8] (fun i => ∃ k : Nat, k ≤ L.length ∧ i = .int .i64 k ∧ firstC xs L a 0 = firstC xs (L.drop k) a k) (fun i => L.length - (intOf i).toNat)
  case atStart => exact ⟨0, Nat.zero_le _, rfl, rfl⟩
  case round =>
    obtain ⟨k, hk, rfl, hr⟩ := hrel
    have HR := Lib.hid hr; clear hr
    by_cases hlt : k < L.length
    · have hlt' : k < (L.map (pbAt gs)).length := by simpa using hlt
      obtain ⟨b, off, rfl, _, hcell⟩ := hS.pb_at hlt'
      rw [List.getElem_map] at hcell
      have hmem := hm L[k] (List.getElem_mem hlt)
      have HC := Lib.hid (closureF_any gs xs g L[k] hmem.1 hmem.2 a ha ha0 p w HN.out cp)
      have hat := firstC_at (xs := xs) hlt a k
      cases hi1 : isAL xs a L[k]
      · have HF : Hid (firstC xs L a 0 = firstC xs (L.drop (k + 1)) a ((k + 1 : Nat) : Int)) := by show _ = _; rw [HR.out, hat, hi1]; rfl
        clear hat
        go_wp2_with fail
        refine HC.out.mono ?_
        rintro e w' ⟨rfl, rfl⟩
        rw [hi1]
        go_wp2
        go_round
        case rel => exact ⟨k + 1, by omega, by go_num, HF.out⟩
        case measure => simp [intOf]; omega
      · have HF : Hid (firstC xs L a 0 = k) := by show _ = _; rw [HR.out, hat, hi1]; rfl
        clear hat
        go_wp2_with fail
        refine HC.out.mono ?_
        rintro e w' ⟨rfl, rfl⟩
        rw [hi1]
        go_wp2
        go_ret
        exact ⟨ret_int HF.out.symm, rfl⟩
    · have HF : Hid (firstC xs L a 0 = -1) := by show _ = _; rw [HR.out, firstC_end hlt]
      go_wp2
      go_ret
      exact ⟨ret_int HF.out.symm, rfl⟩

theorem first_any (A : Option Addr) (m cap : Nat) (gs : List PB) (xs : List Cls) (L : List Int) (g : Good xs) (hm : ∀ b ∈ L, 0 ≤ b ∧ b < xs.length) (a : Int) (ha : a < xs.length) (ha0 : -1 ≤ a) (w : World) (hN : Nds w gs xs)
    (hS : Sl w A m cap (L.map (pbAt gs))) :
    Calls Try.prog 124 #[.slice A m cap, .pointer (ptrOf gs a)] w fun e w' => e = .returned (.int .i64 (firstC xs L a 0)) ∧ Le w w' := by
  go_enter Try.func124, Try.ntmps124
  go_wp2_with fail
  refine (indexFuncH_any A m cap gs xs L g hm a ha ha0 _ _ (hN.le (Le.new w _)) (hS.alloc _) (by simp)).mono ?_
  rintro e w' ⟨rfl, rfl⟩
  go_wp2
  go_ret
  exact ⟨rfl, Le.new w _⟩
theorem hcatches_any (A : Option Addr) (m cap : Nat) (gs : List PB) (xs : List Cls) (L : List Int) (g : Good xs) (hm : ∀ b ∈ L, 0 ≤ b ∧ b < xs.length) (a : Int) (ha : a < xs.length) (ha0 : -1 ≤ a) (w : World) (hN : Nds w gs xs)
    (hS : Sl w A m cap (L.map (pbAt gs))) :
    Calls Try.prog 123 #[.slice A m cap, .pointer (ptrOf gs a)] w fun e w' => e = .returned (.bool (decide (0 ≤ firstC xs L a 0))) ∧ Le w w' := by
  go_enter Try.func123, Try.ntmps123
  go_wp2_with fail
  refine (first_any A m cap gs xs L g hm a ha ha0 _ hN hS).mono ?_
  rintro e w' ⟨rfl, hle⟩
  go_wp2
  go_ret
  exact ⟨rfl, hle⟩
end

section
def HandOut (xs : List Cls) (L : List Int) (gs : List PB) (w : World) (e : Ending) (w' : World) : Prop :=
  Le w w' ∧ ((goodC xs L = false ∧ e = .returned (.tuple #[.slice none 0 0, .bool false])) ∨ (goodC xs L = true ∧ ∃ H c, e = .returned (.tuple #[.slice H L.length c, .bool true]) ∧ Sl w' H L.length c (L.map (pbAt gs))))
theorem goodC_no {xs : List Cls} {L : List Int} (h : okTree xs = false ∨ 6 < L.length ∨ goodL xs L = false) : goodC xs L = false := by
  unfold goodC
  rcases h with h | h | h
  · rw [h]; rfl
  · rw [decide_eq_false (p := L.length ≤ 6) (by omega), Bool.and_false]
  · rw [h, Bool.and_false]; rfl
theorem goodC_yes {xs : List Cls} {L : List Int} (h : okTree xs = true) (h2 : L.length ≤ 6) (h3 : goodL xs L = true) : goodC xs L = true := by
  unfold goodC; rw [h, h3, decide_eq_true h2]; rfl

set_option maxHeartbeats 1000000 in
set_option maxRecDepth 100000 in
theorem handlersOf_any (A B : Option Addr) (n m c : Nat) (gs : List PB) (xs : List Cls) (L : List Int) (w : World) (hS : Sl w A n n gs)
    (hcase : (okTree xs = false ∧ n = 0 ∧ gs = []) ∨ (okTree xs = true ∧ n = xs.length ∧ Nds w gs xs)) (hL : Sl w B m c L) :
    Calls Try.prog 67 #[.slice A n n, .slice B m c] w (HandOut xs L gs w) := by
  obtain rfl := hL.len
  have hmx := hL.n_le
  have hnx := hS.n_le
  rcases hcase with ⟨h0, rfl, rfl⟩ | ⟨h0, rfl, hN⟩
  · have HF := Lib.hid (goodC_no (L := L) (.inl h0))
    clear h0
    go_enter Try.func67, Try.ntmps67
    go_wp2
    go_ret2
    exact ⟨Le.refl w, .inl ⟨HF.out, rfl⟩⟩
  · have g := good_of h0
    have hlo := g.lo
    have hn0 : ((xs.length : Int) == 0) = false := by rw [beq_eq_false_iff_ne]; omega
    by_cases h6 : 6 < L.length
    · have HF := Lib.hid (goodC_no (xs := xs) (L := L) (.inr (.inl h6)))
      have h6' : 6 < (L.length : Int) := by omega
      go_enter Try.func67, Try.ntmps67
      go_wp2
      go_ret2
      exact ⟨Le.refl w, .inl ⟨HF.out, rfl⟩⟩
    · have h6' : ¬ 6 < (L.length : Int) := by omega
      obtain ⟨i0, hi, hz0, hz1, hz2⟩ := info_parts pnInfo
      have hb2 : i0.bytes * L.length ≤ 281474976710656 := by rw [hz2]; omega
      have H0 := Lib.hid h0; clear h0
      have HL := Lib.hid hN.len
      go_enter Try.func67, Try.ntmps67
      go_wp2_with (refine wpList_make_full _ rfl _ _ 93 rfl w.heap.size 86 i0 _ 1 Try.underlying93 hi hz0 hz1 .i64 .i64 _ _ L.length rfl rfl rfl rfl hb2 (by unfold maxLen; omega) (Nat.le_refl _) ?_; intro w1 hown1 hg1)
      have hle1 : Le w w1 := (Le.refl w).grown hg1 (by intro k hk; cases hk)
      clear hg1
      go_loopw [22] (fun i wr => ∃ k : Nat, ∃ r : List Value, k ≤ L.length ∧ i = .int .i64 k ∧ r.length = L.length - k ∧ wr.ownsRow w.heap.size 86 1 (.slice (some ⟨w.heap.size, 0, none⟩) L.length L.length) L.length (((L.take k).map (pbAt gs)).flatMap Enc.cells ++ r) ∧
        goodL xs L = goodL xs (L.drop k) ∧ Le w wr) (fun i _ => L.length - (intOf i).toNat)
      case atStart => exact ⟨0, _, Nat.zero_le _, rfl, by simp [madeCells], hown1, rfl, hle1⟩
      case round =>
        obtain ⟨k, r, hk, rfl, hr, hown, hgl, hle⟩ := hrel
        have HG := Lib.hid hgl; clear hgl
        have S1 := hS.le hle
        have S2 := hL.le hle
        clear hown1 hle1
        by_cases hlt : k < L.length
        · obtain ⟨b, off, rfl, hb, hcell, _, _⟩ := S2.int_at hlt
          match r, hr with
          | [], h => simp at h; omega
          | r0 :: rr, hr =>
          have hfl : (((L.take k).map (pbAt gs)).flatMap (Enc.cells (α := PB))).length = k := by rw [flat_len, List.length_map, List.length_take]; show _ * 1 = _; omega
          have hc0 : wr.cell? ⟨w.heap.size, k, none⟩ = some r0 := by rw [hown.cellAt _ (by omega), List.getElem?_append_right (by omega), hfl]; simp
          have hf0 := hown.frozenAt k
          have HFL := Lib.hid hfl; clear hfl
          have HF : Hid (goodL xs L = (hasK xs L[k] && goodL xs (L.drop (k + 1)))) := by show _ = _; rw [HG.out, goodL_at hlt]
          go_wp2_with fail
          refine (nodeAt_any _ _ _ gs L[k] _ S1).mono ?_
          rintro e w3 ⟨rfl, rfl⟩
          rcases ptr_cases HL.out L[k] with ⟨h2, h3⟩ | ⟨h2, j, hj, hje, h3⟩
          · rw [h3]
            have HN : Hid (goodC xs L = false) := goodC_no (.inr (.inr (by rw [HF.out, h2]; rfl)))
            clear h3 h2
            go_wp2
            go_ret2
            exact ⟨hle.setCell (Nat.le_refl _) _, .inl ⟨HN.out, rfl⟩⟩
          · rw [h3]
            have hpb : pbAt gs L[k] = gs[j] := by rw [hje, pbAt_at hj]
            have HPB := Lib.hid hpb; clear hpb
            have H2 := Lib.hid h2
            clear h3 hje h2
            go_wp2
            go_roundw
            case rel =>
              refine ⟨k + 1, rr, by omega, by go_num, by simp at hr; omega, ?_, by rw [HF.out, H2.out]; rfl, hle.setCell (Nat.le_refl _) _⟩
              have h1 := (hown.stored k (.pointer (some ⟨gs[j].g, 0, none⟩))).1
              have e : ((L.take (k + 1)).map (pbAt gs)).flatMap Enc.cells ++ rr = ((((L.take k).map (pbAt gs)).flatMap Enc.cells ++ r0 :: rr).set k (.pointer (some ⟨gs[j].g, 0, none⟩))) := by
                rw [List.set_append_right _ _ (by have := HFL.out; omega), HFL.out, List.take_succ_eq_append_getElem hlt, List.map_append, List.flatMap_append]
                simp [Enc.cells, HPB.out]
              rw [e]; exact h1
            case measure => simp [intOf]; omega
        · have hk' : k = L.length := by omega
          have hr0 : r = [] := List.eq_nil_of_length_eq_zero (by omega)
          have HF : Hid (HandOut xs L gs w (.returned (.tuple #[.slice (some ⟨w.heap.size, 0, none⟩) L.length L.length, .bool true])) wr) := by
            refine ⟨hle, .inr ⟨goodC_yes H0.out (by omega) (by rw [HG.out, goodL_end hlt]), _, _, rfl, ?_⟩⟩
            rw [hr0, List.append_nil, hk', List.take_length] at hown
            exact Sl.of_own hown rfl (by decide) (fun _ _ => trivial)
          clear hk' hr0 hr hown
          go_wp2
          go_ret2
          exact HF.out
end

section
end
end

section
open Go.RowKit Go.Shelf
set_option maxRecDepth 100000 in
set_option maxHeartbeats 2000000 in
theorem visit0_any (tf : Nat) (lb : Array Value) (eT : ∀ args w, (callFunc tf args).run Try.prog w = .ok (.enter tf args) w) (p : Lef → Bool) (A : Option Addr) (C Bf Bo Bv : Nat) (W : World) (S : Sl W A 0 C ([] : List Prt)) (cF : W.cell? ⟨Bf, 0, none⟩ = some (.func (.func tf) #[] lb)) :
    Calls Try.prog 101 #[.slice A 0 C, .pointer (some ⟨Bf, 0, none⟩), .pointer (some ⟨Bo, 0, none⟩), .pointer (some ⟨Bv, 0, none⟩)] W fun e W' => (∃ r, e = .returned r) ∧ Le W W' := by
  have HL := hasLeaf_gen tf lb eT p A 0 C [] W S (fun x W' hx _ => nomatch hx)
  have hno : (leavesL []).any p = false := rfl
  rw [hno] at HL
  refine (callsIn_wide (n := 6)).1 ?_
  refine callsIn_of_wp_marks Try.func101 rfl trivial ?_ rfl
  simp only [Try.ntmps101, List.size_toArray, List.length_cons, List.length_nil, Nat.reduceAdd, Nat.reduceSub, Array.replicate_succ, Array.replicate_zero, List.push_toArray, List.append_toArray, List.nil_append, List.cons_append]
  gi_wp2_with (refine ⟨trivial, ?_⟩; gi_at_call 63; refine (callsIn_wide.2 HL).mono ?_; rintro e W1 ⟨rfl, hle1⟩)
  exact ⟨_, results_none rfl _ _ _, ⟨_, rfl⟩, hle1⟩
set_option maxRecDepth 100000 in
set_option maxHeartbeats 2000000 in
theorem keep0_prog (tf : Nat) (lb : Array Value) (eT : ∀ args w, (callFunc tf args).run Try.prog w = .ok (.enter tf args) w) (p : Lef → Bool) (A : Option Addr) (C : Nat) (w : World) (hG : Sl w A 0 C ([] : List Prt)) :
    Calls Try.prog 91 #[.slice A 0 C, .func (.func tf) #[] lb] w fun e w' => ∃ v, e = .returned v ∧ Owd 70 w w' v ([] : List Prt) ∧ Le w w' := by
  have bV := Boxed.new ((w.alloc (.cells #[.func (.func tf) #[] lb] 89)).alloc (.cells #[.slice none 0 0] 34)) 128 .nilFunc
  simp only [World.size_alloc] at bV
  have cV := bV.cell
  have fV := bV.frozen
  have h1 := ((Boxed.new w 89 (.func (.func tf) #[] lb)).alloc (.cells #[.slice none 0 0] 34)).alloc (.cells #[.func (.func 101) #[] #[.pointer (some ⟨w.heap.size, 0, none⟩), .pointer (some ⟨w.heap.size + 1, 0, none⟩), .pointer (some ⟨w.heap.size + 1 + 1, 0, none⟩)]] 128)
  have h2 := (Boxed.new (w.alloc (.cells #[.func (.func tf) #[] lb] 89)) 34 (.slice none 0 0)).alloc (.cells #[.func (.func 101) #[] #[.pointer (some ⟨w.heap.size, 0, none⟩), .pointer (some ⟨w.heap.size + 1, 0, none⟩), .pointer (some ⟨w.heap.size + 1 + 1, 0, none⟩)]] 128)
  have h3 := Boxed.new ((w.alloc (.cells #[.func (.func tf) #[] lb] 89)).alloc (.cells #[.slice none 0 0] 34)) 128 (.func (.func 101) #[] #[.pointer (some ⟨w.heap.size, 0, none⟩), .pointer (some ⟨w.heap.size + 1, 0, none⟩), .pointer (some ⟨w.heap.size + 1 + 1, 0, none⟩)])
  simp only [World.size_alloc] at h2 h3
  have L4 : Le w (((w.alloc (.cells #[.func (.func tf) #[] lb] 89)).alloc (.cells #[.slice none 0 0] 34)).alloc (.cells #[.func (.func 101) #[] #[.pointer (some ⟨w.heap.size, 0, none⟩), .pointer (some ⟨w.heap.size + 1, 0, none⟩), .pointer (some ⟨w.heap.size + 1 + 1, 0, none⟩)]] 128)) := ((Le.new w _).alloc _).alloc _
  have cT := h3.cell
  have hst : ∀ (W : World) (a : Addr) (f : Fn) (x y : Array Value) (m : Mode), (store a (.func f x y) m).run Try.prog W = stored Try.prog W a (.func f x y) m := fun W a f x y m => run_store Try.prog W a _ m rfl
  go_enter Try.func91, Try.ntmps91
  go_wp2_with fail
  generalize ((w.alloc (.cells #[.func (.func tf) #[] lb] 89)).alloc (.cells #[.slice none 0 0] 34)).alloc (.cells #[.func (.func 101) #[] #[.pointer (some ⟨w.heap.size, 0, none⟩), .pointer (some ⟨w.heap.size + 1, 0, none⟩), .pointer (some ⟨w.heap.size + 1 + 1, 0, none⟩)]] 128) = W4 at *
  refine (visit0_any tf lb eT p A C _ _ _ W4 (hG.le L4) h1.cell).mono ?_
  rintro e W5 ⟨⟨r, rfl⟩, hle⟩
  have HE := Lib.hid (L4.trans hle)
  have cO := (boxed_le h2 hle).cell
  go_wp2
  go_ret
  exact ⟨_, rfl, Owd.nil _ _ _, HE.out⟩
set_option maxRecDepth 100000 in
set_option maxHeartbeats 2000000 in
theorem splitE_prog (tf : Nat) (lb : Array Value) (eT : ∀ args w, (callFunc tf args).run Try.prog w = .ok (.enter tf args) w) (p : Lef → Bool) (xs : List Cls) (A : Option Addr) (m C : Nat) (g : List Prt) (G : GoodE xs g) (w : World) (hG : Sl w A m C g)
    (hT : ∀ (x : Lef) (W : World), x ∈ leavesL g → Le w W → Calls Try.prog tf (#[.agg #[.int .i64 x.cls, .int .i64 x.code]] ++ lb) W fun e W' => e = .returned (.bool (p x)) ∧ Le W W') :
    Calls Try.prog 65 #[.slice A m C, .func (.func tf) #[] lb] w (SpOut w (selG p g) (selG (fun x => !p x) g)) := by
  obtain rfl := hG.len
  rcases G with rfl | G
  · have bT := Boxed.new w 89 (.func (.func tf) #[] lb)
    have cT := bT.cell
    have hl := Le.new w (.cells #[.func (.func tf) #[] lb] 89)
    go_enter Try.func65, Try.ntmps65
    go_wp2_with fail
    generalize w.alloc (.cells #[.func (.func tf) #[] lb] 89) = w1 at *
    refine (keep0_prog tf lb eT p A C w1 (hG.le hl)).mono ?_
    rintro e w4 ⟨v, rfl, O1, hle⟩
    have HO1 := Lib.hid O1
    have bT4 := boxed_le bT hle
    have hl4 := hl.trans hle
    clear O1
    go_wp2_with fail
    refine (keep0_prog 92 #[.pointer (some ⟨w.heap.size, 0, none⟩)] (enters_of Try.func92 (by kernel_rfl) rfl) (fun x => !p x) A C w4 (hG.le hl4)).mono ?_
    rintro e w6 ⟨u, rfl, O2, hle6⟩
    have HS : Hid (SpOut w (selG p []) (selG (fun x => !p x) []) (.returned (.tuple #[v, u])) w6) := ⟨v, u, rfl, (HO1.out.mono hl).le hle6, O2.mono hl4, apart_base HO1.out O2, hl4.trans hle6⟩
    clear O2
    go_wp2
    go_ret2
    exact HS.out
  · have hm := G.len
    obtain ⟨b, off, rfl, -, -⟩ := hG.prt_at (k := 0) (by omega)
    exact split_prog tf lb eT p xs b off C g G w hG hT
theorem selA_no (xs : List Cls) (g : List Prt) (a : Int) : selG (fun x => !isAL xs x.cls a) g = selA xs g a false := by
  unfold selA
  congr 1
  funext x; cases isAL xs x.cls a <;> rfl
theorem selA_yes (xs : List Cls) (g : List Prt) (a : Int) : selG (fun x => isAL xs x.cls a) g = selA xs g a true := by
  unfold selA
  congr 1
  funext x; cases isAL xs x.cls a <;> rfl
theorem GoodE.leaf {xs : List Cls} {g : List Prt} (h : GoodE xs g) : ∀ x ∈ leavesL g, 0 ≤ x.cls ∧ x.cls < xs.length := by
  rcases h with rfl | h
  · exact fun x hx => nomatch hx
  · exact good_leaf h
theorem OwL.made {TT T : TypeId} {w0 w : World} {v : Value} {n : Nat} (h : w.ownsRow w0.heap.size TT 1 v n (List.replicate n (.slice none 0 0))) : OwL TT T w0 w v (List.replicate n (⟨none, 0, 0⟩ : Hdr)) (List.replicate n ([] : List Prt)) := by
  have e : ∀ n, (List.replicate n (⟨none, 0, 0⟩ : Hdr)).flatMap Enc.cells = List.replicate n (.slice none 0 0) := by
    intro n
    induction n with
    | zero => rfl
    | succ n ih => rw [List.replicate_succ, List.flatMap_cons, ih, List.replicate_succ]; rfl
  refine ⟨⟨by rw [List.length_replicate, e]; exact h, fun _ _ => trivial⟩, by rw [List.length_replicate, List.length_replicate], fun i x l f k => ?_, fun i j x y f _ _ => ?_, fun i x f => ?_⟩
  · have h1 := (List.mem_replicate.1 (List.mem_of_getElem? f)).2
    have h2 := (List.mem_replicate.1 (List.mem_of_getElem? k)).2
    subst h1; subst h2
    exact Owd.nil _ _ _
  · have h1 := (List.mem_replicate.1 (List.mem_of_getElem? f)).2
    subst h1; exact .inl rfl
  · have h1 := (List.mem_replicate.1 (List.mem_of_getElem? f)).2
    subst h1; exact .inl rfl
theorem flat_hdr_set : ∀ (hs : List Hdr) (k : Nat) (h : Hdr), (hs.flatMap Enc.cells).set k h.v = (hs.set k h).flatMap Enc.cells
  | [], _, _ => rfl
  | _ :: r, 0, h => rfl
  | x :: r, k + 1, h => by
    show x.v :: (r.flatMap Enc.cells).set k h.v = _
    rw [flat_hdr_set r k h]; rfl
theorem set_rep {α : Type} (A : List α) (x l : α) {n k : Nat} (hA : A.length = k) (hk : k < n) : (A ++ List.replicate (n - k) x).set k l = (A ++ [l]) ++ List.replicate (n - (k + 1)) x := by
  rw [List.set_append_right _ _ (by omega), hA, Nat.sub_self, show n - k = (n - (k + 1)) + 1 by omega, List.replicate_succ, List.set_cons_zero, List.append_assoc]
  rfl
set_option maxRecDepth 100000 in
set_option maxHeartbeats 4000000 in
theorem iHandleGroup_any (A B D : Option Addr) (n cap m c q d : Nat) (xs : List Cls) (g : List Prt) (L : List Int) (w : World) (hT : Sl w A n cap xs) (hG : Sl w B m c g) (hL : Sl w D q d L) :
    Calls Try.prog 31 #[.agg #[.slice A n cap], .slice B m c, .slice D q d] w (HgOut w (hgTX xs g L) (hgRX xs g L)) := by
  obtain ⟨i0, hi, hz0, hz1, hz2⟩ := info_parts infoPartSl'
  obtain ⟨c0, z0, hl⟩ := box1 w (.slice A n cap) 32
  have hS := hT.le hl
  have hG1 := hG.le hl
  have hL1 := hL.le hl
  obtain rfl := hG.len
  obtain rfl := hL.len
  have hLn := hL.n_le
  go_enter Try.func31, Try.ntmps31
  go_wp2_with fail
  generalize w.alloc (.cells #[.slice A n cap] 32) = w1 at *
  refine (nodesOf_any A n cap xs _ hS).mono ?_
  intro e w2 hout
  obtain ⟨hle, A2, n2, gs, rfl, hS2, hcase⟩ := nodes_one hout
  have hS1 := hS.le hle
  have hG2 := hG1.le hle
  have hL2 := hL1.le hle
  have hLL := hl.trans hle
  have d0 := (hle.cell z0).trans c0
  have zz := Nat.lt_of_lt_of_le z0 hle.size
  clear hout
  go_wp2_with fail
  refine (handlersOf_any A2 _ n2 _ _ gs xs L _ hS2 hcase hL2).mono ?_
  rintro e w3 ⟨hle3, hcs⟩
  have d3 := (hle3.cell zz).trans d0
  have hL3 := hLL.trans hle3
  rcases hcs with ⟨hk, rfl⟩ | ⟨hk, H, ch, rfl, S5⟩
  · have HX := Lib.hid (hgX_of (xs := xs) (g := g) (L := L) (b := false) (by rw [hk, Bool.and_false]))
    clear hcase hk
    go_wp2
    go_ret2
    exact ⟨_, _, _, rfl, by rw [HX.out.1]; exact OwL.nil _ _ _ _, by rw [HX.out.2]; exact Owd.nil _ _ _, ⟨fun i h e => by simp at e, .inl rfl⟩, hL3⟩
  · cases hg : gOkS xs g
    · have HX := Lib.hid (hgX_of (xs := xs) (g := g) (L := L) (b := false) (by rw [hg]; rfl))
      clear hcase hk
      go_wp2_with (go_at_call 52; refine (iValidGroupS_any _ _ _ _ _ _ xs g _ (hS1.le hle3) (hG2.le hle3)).mono ?_; rintro e w4 ⟨rfl, hle4⟩; rw [hg])
      go_ret2
      exact ⟨_, _, _, rfl, by rw [HX.out.1]; exact OwL.nil _ _ _ _, by rw [HX.out.2]; exact Owd.nil _ _ _, ⟨fun i h e => by simp at e, .inl rfl⟩, hL3.trans hle4⟩
    · have HX := Lib.hid (hgX_of (xs := xs) (g := g) (L := L) (b := true) (by rw [hg, hk]; rfl))
      have gc := goodC_of hk
      have hf := gc.few
      have G := goodG_of (by rw [← gOk_same]; exact hg)
      have hm := G.len
      have GE : GoodE xs g := .inr G
      rcases hcase with ⟨h0, _⟩ | ⟨_, rfl, hN⟩
      · have := G.tree; rw [h0] at this; cases this
      · replace hN := hN.le hle3
        have hS3 := hS2.le hle3
        have HM := Lib.hid gc.mem
        have hcp := S5.cap_
        clear hk hS2
        go_wp2_with (first | (go_at_call 52; refine (iValidGroupS_any _ _ _ _ _ _ xs g _ (hS1.le hle3) (hG2.le hle3)).mono ?_; rintro e w4 ⟨rfl, hle4⟩; rw [hg]) | (refine wpList_make_full _ rfl _ _ 48 rfl w4.heap.size 34 i0 _ 1 Try.underlying48 hi hz0 hz1 .i64 .i64 _ _ L.length rfl rfl rfl rfl (by rw [hz2]; omega) (by unfold maxLen; omega) (Nat.le_refl _) ?_; intro w5 hown5 hg5) | (go_at_call 68; refine of_stop ?_))
        unfold Stop
        have hl5 := (Le.refl w4).grown hg5 (fun k hk => by cases hk)
        refine (clonePart_any _ _ _ g _ (((hG2.le hle3).le hle4).le hl5) (by omega)).mono ?_
        rintro e w6 ⟨u0, rfl, R0, hl6⟩
        have O0 : OwL 34 70 w4 w6 (.slice (some ⟨w4.heap.size, 0, none⟩) L.length L.length) _ (List.replicate L.length ([] : List Prt)) := (OwL.made (by
          have h := hown5
          rw [Nat.mul_one] at h
          have e : (madeCells (Value.slice none 0 0).cells L.length).toList = List.replicate L.length (.slice none 0 0) := toList_madeCells_one _ _
          rw [e] at h; exact h)).le hl6
        have AP0 : (∀ (i : Nat) (h : Hdr), (List.replicate L.length (⟨none, 0, 0⟩ : Hdr))[i]? = some h → Apart h.v u0) ∧ Apart (.slice (some ⟨w4.heap.size, 0, none⟩) L.length L.length) u0 := by
          refine ⟨fun i h e => by rw [(List.mem_replicate.1 (List.mem_of_getElem? e)).2]; exact .inl rfl, ?_⟩
          refine apart_lt (m := w5.heap.size) (fun k hk => by have := (hown5.lt k hk).2; exact this) (fun k hk => (R0.row.lt k hk).1)
        have R1 := R0.mono hl5
        have L6 := hl5.trans hl6
        have hL4 := hL3.trans hle4
        have S6 := S5.le hle4
        have N6 := hN.le hle4
        have Sn6 := hS3.le hle4
        have HAP0 := Lib.hid AP0
        have HO0 := Lib.hid O0
        have HR1 := Lib.hid R1
        clear hown5 hg5 R0 AP0 O0 R1 hN hS3 S5
        go_wp2
        go_loopw [12, 38] (fun u i wr => ∃ (k : Nat) (hs : List Hdr), k ≤ L.length ∧ i = .int .i64 k ∧ OwL 34 70 w4 wr (.slice (some ⟨w4.heap.size, 0, none⟩) L.length L.length) hs (hgT xs g (L.take k) ++ List.replicate (L.length - k) []) ∧ Owd 70 w4 wr u (hgR xs g (L.take k)) ∧ ((∀ (i : Nat) (h : Hdr), hs[i]? = some h → Apart h.v u) ∧ Apart (.slice (some ⟨w4.heap.size, 0, none⟩) L.length L.length) u) ∧ Le w4 wr) (fun _ i _ => L.length - (intOf i).toNat)
        case atStart => exact ⟨0, _, Nat.zero_le _, rfl, HO0.out, HR1.out, HAP0.out, L6⟩
        case round =>
          obtain ⟨k, hs, hk1, rfl, O1, R1, AP1, L1⟩ := hrel
          clear HO0 HR1 HAP0
          by_cases hlt : k < L.length
          · have hmem := HM.out L[k] (List.getElem_mem hlt)
            have hlt' : k < (L.map (pbAt gs)).length := by simpa using hlt
            obtain ⟨b, off, rfl, hb, hcell⟩ := (S6.le L1).pb_at hlt'
            rw [List.getElem_map] at hcell
            have GR := hgR_good (L.take k) GE
            have hlen := GR.len
            obtain ⟨Ar, cr, rfl, SR, -⟩ := R1.form (by decide)
            have g0 := good_of G.tree
            obtain ⟨j, hj⟩ : ∃ j : Nat, L[k] = j := ⟨L[k].toNat, by omega⟩
            have hjg : j < gs.length := by have := N6.len; omega
            have hpb : pbAt gs L[k] = gs[j] := by rw [hj]; exact pbAt_at hjg
            rw [hpb] at hcell
            have HST : Hid ((hgT xs g (L.take k) ++ List.replicate (L.length - k) []).set k (selA xs (hgR xs g (L.take k)) j true) = hgT xs g (L.take (k + 1)) ++ List.replicate (L.length - (k + 1)) []) := by
              show _ = _
              rw [set_rep _ _ _ (by rw [hgT_len, List.length_take]; omega) hlt, List.take_succ_eq_append_getElem hlt, hgT_snoc, hj]
            have HSR : Hid (hgR xs g (L.take (k + 1)) = selA xs (hgR xs g (L.take k)) j false) := by
              show _ = _
              rw [List.take_succ_eq_append_getElem hlt, hgR_snoc, hj]
            have hhl : hs.length = L.length := by have h1 := O1.len; rw [List.length_append, hgT_len, List.length_take, List.length_replicate] at h1; omega
            have HHL := Lib.hid hhl
            have hjx : j < xs.length := by have := N6.len; omega
            have Sn := Sn6.le L1
            have Nn := N6.le L1
            have HO1 := Lib.hid O1
            have HAP1 := Lib.hid AP1
            clear hj hpb hmem hhl AP1 O1
            go_wp2_with fail
            refine (caughtLeaf_any _ _ _ _).mono ?_
            rintro e w7 ⟨rfl, rfl⟩
            obtain ⟨b0, y0, b1, y1, hl8⟩ := box2 wr (.slice A2 xs.length xs.length) (.iface 86 (.pointer (some ⟨gs[j].g, 0, none⟩))) 84 119
            have Sn8 := Sn.le hl8
            have Nn8 := Nn.le hl8
            have SR8 := SR.le hl8
            generalize (wr.alloc (.cells #[.slice A2 xs.length xs.length] 84)).alloc (.cells #[.iface 86 (.pointer (some ⟨gs[j].g, 0, none⟩))] 119) = w8 at *
            have HSP := splitE_prog 90 #[.pointer (some ⟨wr.heap.size + 1, 0, none⟩), .pointer (some ⟨wr.heap.size, 0, none⟩)] (enters_of Try.func90 (by kernel_rfl) rfl) (fun x => isAL xs x.cls j) xs _ _ _ (hgR xs g (L.take k)) GR w8 SR8 (fun x W hx hW => caughtLeaf1_any _ _ A2 gs xs g0 j hjg x.cls x.code (GR.leaf x hx).1 (GR.leaf x hx).2 W (Sn8.le hW) (Nn8.le hW) ((hW.cell y1).trans b1) ((hW.cell y0).trans b0) (Nat.lt_of_lt_of_le y1 hW.size) (Nat.lt_of_lt_of_le y0 hW.size))
            rw [selA_yes, selA_no] at HSP
            have HHSP := Lib.hid HSP
            clear HSP
            go_wp2_with fail
            refine HHSP.out.mono ?_
            rintro e w9 ⟨vm, um, rfl, Om, Ou, APm, hl9⟩
            obtain ⟨Am, cm, rfl, -, -⟩ := Om.form (by decide)
            have O8 := HO1.out.le hl8
            have O9 := O8.le hl9
            have row9 : w9.ownsRow w4.heap.size 34 1 (.slice (some ⟨w4.heap.size, 0, none⟩) L.length L.length) L.length (hs.flatMap Enc.cells) := by
              have := O9.top.row; rw [HHL.out] at this; exact this
            have hcx : ∃ z, w9.cell? ⟨w4.heap.size, k, none⟩ = some z := by
              have hfl : (hs.flatMap (Enc.cells (α := Hdr))).length = hs.length * 1 := flat_len hs
              rw [row9.cellAt k (by omega)]
              exact ⟨_, List.getElem?_eq_getElem (by rw [hfl, HHL.out]; omega)⟩
            obtain ⟨z, hcx⟩ := hcx
            have hfx := row9.frozenAt k
            obtain ⟨lat1, lat2⟩ := OwL.later O8 (Nat.le_refl _) Om
            obtain ⟨lau1, lau2⟩ := OwL.later O8 (Nat.le_refl _) Ou
            have L8 := L1.trans hl8
            have hst := row9.stored k (.slice Am (selA xs (hgR xs g (L.take k)) j true).length cm)
            have hset := flat_hdr_set hs k ⟨Am, (selA xs (hgR xs g (L.take k)) j true).length, cm⟩
            have HP : Hid (OwL 34 70 w4 (w9.setCell ⟨w4.heap.size, k, none⟩ (.slice Am (selA xs (hgR xs g (L.take k)) j true).length cm)) (.slice (some ⟨w4.heap.size, 0, none⟩) L.length L.length) (hs.set k ⟨Am, (selA xs (hgR xs g (L.take k)) j true).length, cm⟩) (hgT xs g (L.take (k + 1)) ++ List.replicate (L.length - (k + 1)) [])) := by
              show OwL _ _ _ _ _ _ _
              rw [← HST.out]
              refine OwL.put O9 (by rw [HHL.out]; exact hlt) ⟨((Om.mono L8).row).kept hst.2 lat1, Om.ok⟩ lat1 lat2 ?_ hst.2
              have h1 := hst.1
              rw [show (hs.flatMap (Enc.cells (α := Hdr))).set k (.slice Am (selA xs (hgR xs g (L.take k)) j true).length cm) = _ from hset] at h1
              rw [HHL.out]; exact h1
            have HR : Hid (Owd 70 w4 (w9.setCell ⟨w4.heap.size, k, none⟩ (.slice Am (selA xs (hgR xs g (L.take k)) j true).length cm)) um (hgR xs g (L.take (k + 1)))) := by
              show Owd _ _ _ _ _
              rw [HSR.out]
              exact ⟨((Ou.mono L8).row).kept hst.2 lau1, Ou.ok⟩
            have HQ : Hid ((∀ (i : Nat) (h : Hdr), (hs.set k (⟨Am, (selA xs (hgR xs g (L.take k)) j true).length, cm⟩ : Hdr))[i]? = some h → Apart h.v um) ∧ Apart (.slice (some ⟨w4.heap.size, 0, none⟩) L.length L.length) um) := by
              refine ⟨fun i h e => ?_, lau1.symm⟩
              by_cases hik : i = k
              · subst hik
                rw [List.getElem?_set_self (by rw [HHL.out]; exact hlt)] at e
                injection e with e; subst e
                exact APm
              · rw [List.getElem?_set_ne (fun e => hik e.symm)] at e
                exact lau2 i h e
            have HL : Hid (Le w4 (w9.setCell ⟨w4.heap.size, k, none⟩ (.slice Am (selA xs (hgR xs g (L.take k)) j true).length cm))) := (L8.trans hl9).setCell (Nat.le_refl _) _
            clear hset hst row9 O9 O8 Om Ou APm lat1 lat2 lau1 lau2
            go_wp2
            go_roundw
            case rel => exact ⟨k + 1, _, by omega, by go_num, HP.out, HR.out, HQ.out, HL.out⟩
            case measure => simp [intOf]; omega
          · obtain rfl : k = L.length := by omega
            rw [List.take_length, Nat.sub_self, List.replicate_zero, List.append_nil] at O1
            rw [List.take_length] at R1
            have H5 := Lib.hid (O1.mono hL4)
            have H6 := Lib.hid (R1.mono hL4)
            have H7 := Lib.hid AP1
            have H8 := Lib.hid (hL4.trans L1)
            clear O1 R1 AP1
            go_wp2
            go_ret2
            exact ⟨_, hs, _, rfl, by rw [HX.out.1]; exact H5.out, by rw [HX.out.2]; exact H6.out, H7.out, H8.out⟩
end
end Go.Proofs.Ytpdggodmiliijaa
