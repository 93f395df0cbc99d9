/- impl: handlersOf, handlers.first, handlers.catches -/
/- impl.handlersOf -/
/- impl.FirstCatch -/
import Derived.Test.YtomdhpfelchjeaaHA
namespace Go.Proofs.Ytomdhpfelchjeaa
open Go.RowKit
section
/-- the node of a class -/
def pbAt (gs : List PB) (b : Int) : PB := gs.getD b.toNat ⟨0⟩
theorem pbAt_at {gs : List PB} {i : Nat} (h : i < gs.length) : pbAt gs (i : Int) = gs[i] := by
  unfold pbAt; rw [Int.toNat_natCast, List.getD_eq_getElem?_getD, List.getElem?_eq_getElem h]; rfl
theorem ptrOf_pb {gs : List PB} {b : Int} (h0 : 0 ≤ b) (h1 : b < gs.length) : ptrOf gs b = some ⟨(pbAt gs b).g, 0, none⟩ := by
  obtain ⟨i, rfl⟩ := Int.eq_ofNat_of_zero_le h0
  rw [ptrOf_at (by omega), pbAt_at (by omega)]

set_option maxRecDepth 100000 in
theorem closureF_any (gs : List PB) (xs : List Cls) (g : Good xs) (b : Int) (h0 : 0 ≤ b) (h1 : b < xs.length) (a : Int) (ha : a < xs.length) (ha0 : -1 ≤ a) (p : Nat) (w : World) (hN : Nds w gs xs)
    (cp : w.cell? ⟨p, 0, none⟩ = some (.pointer (ptrOf gs a))) :
    Calls Try.prog 109 #[.pointer (some ⟨(pbAt gs b).g, 0, none⟩), .pointer (some ⟨p, 0, none⟩)] w fun e w' => e = .returned (.bool (isAL xs a b)) ∧ w = w' := by
  obtain ⟨i, rfl⟩ := Int.eq_ofNat_of_zero_le h0
  have hi : i < gs.length := by have := hN.len; omega
  rw [pbAt_at hi]
  have hc := Lib.hid (catches_any gs xs g i hi a ha ha0 w hN)
  go_enter Try.func109, Try.ntmps109
  go_wp2_with fail
  refine hc.out.mono ?_
  rintro e w' ⟨rfl, rfl⟩
  go_wp2
  go_ret
  exact ⟨rfl, rfl⟩

theorem indexFuncH_any (A : Option Addr) (m cap : Nat) (gs : List PB) (xs : List Cls) (L : List Int) (g : Good xs) (hm : ∀ b ∈ L, 0 ≤ b ∧ b < xs.length) (a : Int) (ha : a < xs.length) (ha0 : -1 ≤ a) (p : Nat) (w : World) (hN : Nds w gs xs)
    (hS : Sl w A m cap (L.map (pbAt gs))) (cp : w.cell? ⟨p, 0, none⟩ = some (.pointer (ptrOf gs a))) :
    Calls Try.prog 108 #[.slice A m cap, .func (.func 109) #[] #[.pointer (some ⟨p, 0, none⟩)]] w fun e w' => e = .returned (.int .i64 (firstC xs L a 0)) ∧ w = w' := by
  have hl := hS.len
  have hlm : L.length = m := by rw [← hl]; simp
  have hmx := hS.n_le
  obtain rfl := hlm
  clear hl
  have HN := Lib.hid hN; clear hN
  go_enter Try.func108, Try.ntmps108
  go_wp2
  go_loop [8] (fun i => ∃ k : Nat, k ≤ L.length ∧ i = .int .i64 k ∧ firstC xs L a 0 = firstC xs (L.drop k) a k) (fun i => L.length - (intOf i).toNat)
  case atStart => exact ⟨0, Nat.zero_le _, rfl, rfl⟩
  case round =>
    obtain ⟨k, hk, rfl, hr⟩ := hrel
    have HR := Lib.hid hr; clear hr
    by_cases hlt : k < L.length
    · have hlt' : k < (L.map (pbAt gs)).length := by simpa using hlt
      obtain ⟨b, off, rfl, _, hcell⟩ := hS.pb_at hlt'
      rw [List.getElem_map] at hcell
      have hmem := hm L[k] (List.getElem_mem hlt)
      have HC := Lib.hid (closureF_any gs xs g L[k] hmem.1 hmem.2 a ha ha0 p w HN.out cp)
      have hat := firstC_at (xs := xs) hlt a k
      cases hi1 : isAL xs a L[k]
      · have HF : Hid (firstC xs L a 0 = firstC xs (L.drop (k + 1)) a ((k + 1 : Nat) : Int)) := by show _ = _; rw [HR.out, hat, hi1]; rfl
        clear hat
        go_wp2_with fail
        refine HC.out.mono ?_
        rintro e w' ⟨rfl, rfl⟩
        rw [hi1]
        go_wp2
        go_round
        case rel => exact ⟨k + 1, by omega, by go_num, HF.out⟩
        case measure => simp [intOf]; omega
      · have HF : Hid (firstC xs L a 0 = k) := by show _ = _; rw [HR.out, hat, hi1]; rfl
        clear hat
        go_wp2_with fail
        refine HC.out.mono ?_
        rintro e w' ⟨rfl, rfl⟩
        rw [hi1]
        go_wp2
        go_ret
        exact ⟨ret_int HF.out.symm, rfl⟩
    · have HF : Hid (firstC xs L a 0 = -1) := by show _ = _; rw [HR.out, firstC_end hlt]
      go_wp2
      go_ret
      exact ⟨ret_int HF.out.symm, rfl⟩

theorem first_any (A : Option Addr) (m cap : Nat) (gs : List PB) (xs : List Cls) (L : List Int) (g : Good xs) (hm : ∀ b ∈ L, 0 ≤ b ∧ b < xs.length) (a : Int) (ha : a < xs.length) (ha0 : -1 ≤ a) (w : World) (hN : Nds w gs xs)
    (hS : Sl w A m cap (L.map (pbAt gs))) :
    Calls Try.prog 92 #[.slice A m cap, .pointer (ptrOf gs a)] w fun e w' => e = .returned (.int .i64 (firstC xs L a 0)) ∧ Le w w' := by
  go_enter Try.func92, Try.ntmps92
  go_wp2_with fail
  refine (indexFuncH_any A m cap gs xs L g hm a ha ha0 _ _ (hN.le (Le.new w _)) (hS.alloc _) (by simp)).mono ?_
  rintro e w' ⟨rfl, rfl⟩
  go_wp2
  go_ret
  exact ⟨rfl, Le.new w _⟩
end

section
def HandOut (xs : List Cls) (L : List Int) (gs : List PB) (w : World) (e : Ending) (w' : World) : Prop :=
  Le w w' ∧ ((goodC xs L = false ∧ e = .returned (.tuple #[.slice none 0 0, .bool false])) ∨ (goodC xs L = true ∧ ∃ H c, e = .returned (.tuple #[.slice H L.length c, .bool true]) ∧ Sl w' H L.length c (L.map (pbAt gs))))
theorem goodC_no {xs : List Cls} {L : List Int} (h : okTree xs = false ∨ 6 < L.length ∨ goodL xs L = false) : goodC xs L = false := by
  unfold goodC
  rcases h with h | h | h
  · rw [h]; rfl
  · rw [decide_eq_false (p := L.length ≤ 6) (by omega), Bool.and_false]
  · rw [h, Bool.and_false]; rfl
theorem goodC_yes {xs : List Cls} {L : List Int} (h : okTree xs = true) (h2 : L.length ≤ 6) (h3 : goodL xs L = true) : goodC xs L = true := by
  unfold goodC; rw [h, h3, decide_eq_true h2]; rfl

set_option maxHeartbeats 1000000 in
set_option maxRecDepth 100000 in
theorem handlersOf_any (A B : Option Addr) (n m c : Nat) (gs : List PB) (xs : List Cls) (L : List Int) (w : World) (hS : Sl w A n n gs)
    (hcase : (okTree xs = false ∧ n = 0 ∧ gs = []) ∨ (okTree xs = true ∧ n = xs.length ∧ Nds w gs xs)) (hL : Sl w B m c L) :
    Calls Try.prog 91 #[.slice A n n, .slice B m c] w (HandOut xs L gs w) := by
  obtain rfl := hL.len
  have hmx := hL.n_le
  have hnx := hS.n_le
  rcases hcase with ⟨h0, rfl, rfl⟩ | ⟨h0, rfl, hN⟩
  · have HF := Lib.hid (goodC_no (L := L) (.inl h0))
    clear h0
    go_enter Try.func91, Try.ntmps91
    go_wp2
    go_ret2
    exact ⟨Le.refl w, .inl ⟨HF.out, rfl⟩⟩
  · have g := good_of h0
    have hlo := g.lo
    have hn0 : ((xs.length : Int) == 0) = false := by rw [beq_eq_false_iff_ne]; omega
    by_cases h6 : 6 < L.length
    · have HF := Lib.hid (goodC_no (xs := xs) (L := L) (.inr (.inl h6)))
      have h6' : 6 < (L.length : Int) := by omega
      go_enter Try.func91, Try.ntmps91
      go_wp2
      go_ret2
      exact ⟨Le.refl w, .inl ⟨HF.out, rfl⟩⟩
    · have h6' : ¬ 6 < (L.length : Int) := by omega
      obtain ⟨i0, hi, hz0, hz1, hz2⟩ := info_parts pnInfo
      have hb2 : i0.bytes * L.length ≤ 281474976710656 := by rw [hz2]; omega
      have H0 := Lib.hid h0; clear h0
      have HL := Lib.hid hN.len
      go_enter Try.func91, Try.ntmps91
      go_wp2_with (refine wpList_make_full _ rfl _ _ 106 rfl w.heap.size 73 i0 _ 1 Try.underlying106 hi hz0 hz1 .i64 .i64 _ _ L.length rfl rfl rfl rfl hb2 (by unfold maxLen; omega) (Nat.le_refl _) ?_; intro w1 hown1 hg1)
      have hle1 : Le w w1 := (Le.refl w).grown hg1 (by intro k hk; cases hk)
      clear hg1
      go_loopw [22] (fun i wr => ∃ k : Nat, ∃ r : List Value, k ≤ L.length ∧ i = .int .i64 k ∧ r.length = L.length - k ∧ wr.ownsRow w.heap.size 73 1 (.slice (some ⟨w.heap.size, 0, none⟩) L.length L.length) L.length (((L.take k).map (pbAt gs)).flatMap Enc.cells ++ r) ∧
        goodL xs L = goodL xs (L.drop k) ∧ Le w wr) (fun i _ => L.length - (intOf i).toNat)
      case atStart => exact ⟨0, _, Nat.zero_le _, rfl, by simp [madeCells], hown1, rfl, hle1⟩
      case round =>
        obtain ⟨k, r, hk, rfl, hr, hown, hgl, hle⟩ := hrel
        have HG := Lib.hid hgl; clear hgl
        have S1 := hS.le hle
        have S2 := hL.le hle
        clear hown1 hle1
        by_cases hlt : k < L.length
        · obtain ⟨b, off, rfl, hb, hcell, _, _⟩ := S2.int_at hlt
          match r, hr with
          | [], h => simp at h; omega
          | r0 :: rr, hr =>
          have hfl : (((L.take k).map (pbAt gs)).flatMap (Enc.cells (α := PB))).length = k := by rw [flat_len, List.length_map, List.length_take]; show _ * 1 = _; omega
          have hc0 : wr.cell? ⟨w.heap.size, k, none⟩ = some r0 := by rw [hown.cellAt _ (by omega), List.getElem?_append_right (by omega), hfl]; simp
          have hf0 := hown.frozenAt k
          have HFL := Lib.hid hfl; clear hfl
          have HF : Hid (goodL xs L = (hasK xs L[k] && goodL xs (L.drop (k + 1)))) := by show _ = _; rw [HG.out, goodL_at hlt]
          go_wp2_with fail
          refine (nodeAt_any _ _ _ gs L[k] _ S1).mono ?_
          rintro e w3 ⟨rfl, rfl⟩
          rcases ptr_cases HL.out L[k] with ⟨h2, h3⟩ | ⟨h2, j, hj, hje, h3⟩
          · rw [h3]
            have HN : Hid (goodC xs L = false) := goodC_no (.inr (.inr (by rw [HF.out, h2]; rfl)))
            clear h3 h2
            go_wp2
            go_ret2
            exact ⟨hle.setCell (Nat.le_refl _) _, .inl ⟨HN.out, rfl⟩⟩
          · rw [h3]
            have hpb : pbAt gs L[k] = gs[j] := by rw [hje, pbAt_at hj]
            have HPB := Lib.hid hpb; clear hpb
            have H2 := Lib.hid h2
            clear h3 hje h2
            go_wp2
            go_roundw
            case rel =>
              refine ⟨k + 1, rr, by omega, by go_num, by simp at hr; omega, ?_, by rw [HF.out, H2.out]; rfl, hle.setCell (Nat.le_refl _) _⟩
              have h1 := (hown.stored k (.pointer (some ⟨gs[j].g, 0, none⟩))).1
              have e : ((L.take (k + 1)).map (pbAt gs)).flatMap Enc.cells ++ rr = ((((L.take k).map (pbAt gs)).flatMap Enc.cells ++ r0 :: rr).set k (.pointer (some ⟨gs[j].g, 0, none⟩))) := by
                rw [List.set_append_right _ _ (by have := HFL.out; omega), HFL.out, List.take_succ_eq_append_getElem hlt, List.map_append, List.flatMap_append]
                simp [Enc.cells, HPB.out]
              rw [e]; exact h1
            case measure => simp [intOf]; omega
        · have hk' : k = L.length := by omega
          have hr0 : r = [] := List.eq_nil_of_length_eq_zero (by omega)
          have HF : Hid (HandOut xs L gs w (.returned (.tuple #[.slice (some ⟨w.heap.size, 0, none⟩) L.length L.length, .bool true])) wr) := by
            refine ⟨hle, .inr ⟨goodC_yes H0.out (by omega) (by rw [HG.out, goodL_end hlt]), _, _, rfl, ?_⟩⟩
            rw [hr0, List.append_nil, hk', List.take_length] at hown
            exact Sl.of_own hown rfl (by decide) (fun _ _ => trivial)
          clear hk' hr0 hr hown
          go_wp2
          go_ret2
          exact HF.out
end

section
theorem iFirstCatch_any (A B : Option Addr) (n cap m c : Nat) (xs : List Cls) (L : List Int) (a : Int) (w : World) (hR : Sl w A n cap xs) (hL : Sl w B m c L) :
    Calls Try.prog 75 #[.agg #[.slice A n cap], .slice B m c, .int .i64 a] w fun e w' => e = .returned (.int .i64 (firstX xs L a)) ∧ Le w w' := by
  have L0 := Le.new w (.cells #[.slice A n cap] 25)
  go_enter Try.func75, Try.ntmps75
  go_wp2_with fail
  refine (nodesOf_any A n cap xs _ (hR.alloc _)).mono ?_
  intro e w2 hout
  obtain ⟨hle, A2, n2, gs, rfl, S2, hcase⟩ := nodes_one hout
  replace L0 := L0.trans hle
  clear hout hle
  have S3 := hL.le L0
  go_wp2_with fail
  refine (handlersOf_any A2 B n2 m c gs xs L _ S2 hcase S3).mono ?_
  rintro e w3 ⟨hle, hcs⟩
  have S4 := S2.le hle
  replace L0 := L0.trans hle
  rcases hcs with ⟨h1, rfl⟩ | ⟨h1, H, ch, rfl, S5⟩
  · have HF := Lib.hid (firstX_of (xs := xs) (L := L) (a := a) (t := false) (by rw [h1]; rfl))
    clear hcase h1
    go_wp2_with fail
    refine (nodeAt_any _ _ _ gs a _ S4).mono ?_
    rintro e w3 ⟨rfl, rfl⟩
    go_wp2
    go_ret
    exact ⟨ret_int HF.out.symm, L0⟩
  · have gc := goodC_of h1
    have ho : okTree xs = true := by unfold goodC at h1; simp at h1; exact h1.1.1
    rcases hcase with ⟨h0, _⟩ | ⟨_, rfl, hN⟩
    · rw [ho] at h0; cases h0
    · replace hN := hN.le hle
      clear ho
      go_wp2_with fail
      refine (nodeAt_any _ _ _ gs a _ S4).mono ?_
      rintro e w3 ⟨rfl, rfl⟩
      rcases ptr_cases hN.len a with ⟨h2, h3⟩ | ⟨h2, j, hj, rfl, h3⟩
      · have HF := Lib.hid (firstX_of (xs := xs) (L := L) (a := a) (t := false) (by rw [h1, h2]; rfl))
        rw [h3]
        clear h1 h2 h3
        go_wp2
        go_ret
        exact ⟨ret_int HF.out.symm, L0⟩
      · have HF := Lib.hid (firstX_of (xs := xs) (L := L) (a := j) (t := true) (by rw [h1, h2]; rfl))
        have hc := Lib.hid (first_any H L.length ch gs xs L gc.tree gc.mem j (by have := hN.len; omega) (by omega) _ hN S5)
        rw [h3] at hc ⊢
        clear h1 h2 h3
        go_wp2_with fail
        refine hc.out.mono ?_
        rintro e w4 ⟨rfl, hle4⟩
        go_wp2
        go_ret
        exact ⟨ret_int HF.out.symm, L0.trans hle4⟩
end
end Go.Proofs.Ytomdhpfelchjeaa
