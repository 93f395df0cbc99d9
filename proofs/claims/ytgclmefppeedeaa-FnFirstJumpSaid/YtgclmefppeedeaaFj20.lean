/- one text of DdA -/
import Derived.Test.YtgclmefppeedeaaFj18
import Derived.Test.YtgclmefppeedeaaFj2
import Derived.Test.YtgclmefppeedeaaFj17
import Derived.Test.YtgclmefppeedeaaFj3
import Derived.Test.YtgclmefppeedeaaFj19
import Derived.Test.YtgclmefppeedeaaFj13
namespace Go.Proofs.Ytgclmefppeedeaa
open Go.RowKit
set_option linter.unusedVariables false
section
section
def firstC (xs : List Cls) : List Int → Int → Int → Int
  | [], _, _ => -1
  | b :: r, a, k => if isAL xs a b then k else firstC xs r a (k + 1)
theorem firstC_at {xs : List Cls} {L : List Int} {k : Nat} (h : k < L.length) (a j : Int) : firstC xs (L.drop k) a j = if isAL xs a L[k] then j else firstC xs (L.drop (k + 1)) a (j + 1) := by
  rw [List.drop_eq_getElem_cons h]; rfl
theorem firstC_end {xs : List Cls} {L : List Int} {k : Nat} (h : ¬ k < L.length) (a j : Int) : firstC xs (L.drop k) a j = -1 := by
  rw [List.drop_eq_nil_of_le (by omega)]; rfl
theorem firstC_range (xs : List Cls) (a : Int) : ∀ (L : List Int) (j : Int), 0 ≤ j → firstC xs L a j = -1 ∨ (j ≤ firstC xs L a j ∧ firstC xs L a j < j + L.length)
  | [], _, _ => .inl rfl
  | b :: r, j, hj => by
    unfold firstC
    split
    · right; simp; omega
    · rcases firstC_range xs a r (j + 1) (by omega) with h | ⟨h1, h2⟩
      · exact .inl h
      · right; simp; omega
def goodL (xs : List Cls) : List Int → Bool
  | [] => true
  | b :: r => hasK xs b && goodL xs r
def goodC (xs : List Cls) (L : List Int) : Bool := okTree xs && goodL xs L && decide (L.length ≤ 6)
theorem goodL_at {xs : List Cls} {L : List Int} {k : Nat} (h : k < L.length) : goodL xs (L.drop k) = (hasK xs L[k] && goodL xs (L.drop (k + 1))) := by
  rw [List.drop_eq_getElem_cons h]; rfl
theorem goodL_end {xs : List Cls} {L : List Int} {k : Nat} (h : ¬ k < L.length) : goodL xs (L.drop k) = true := by
  rw [List.drop_eq_nil_of_le (by omega)]; rfl
theorem goodL_mem {xs : List Cls} : ∀ {L : List Int}, goodL xs L = true → ∀ b ∈ L, hasK xs b = true
  | [], _, _, h => nomatch h
  | c :: r, h, b, hb => by
    rw [goodL, Bool.and_eq_true] at h
    rcases List.mem_cons.1 hb with rfl | hb
    · exact h.1
    · exact goodL_mem h.2 b hb
theorem goodL_mk {xs : List Cls} : ∀ {L : List Int}, (∀ b ∈ L, hasK xs b = true) → goodL xs L = true
  | [], _ => rfl
  | c :: r, h => by rw [goodL, h c (by simp), goodL_mk (fun b hb => h b (by simp [hb]))]; rfl
theorem goodL_no {xs : List Cls} {L : List Int} {b : Int} (hb : b ∈ L) (h : hasK xs b = false) : goodL xs L = false := by
  cases hg : goodL xs L
  · rfl
  · rw [goodL_mem hg b hb] at h; cases h
structure GoodC (xs : List Cls) (L : List Int) : Prop where
  tree : Good xs
  mem : ∀ b ∈ L, 0 ≤ b ∧ b < xs.length
  few : L.length ≤ 6
theorem goodC_of {xs : List Cls} {L : List Int} (h : goodC xs L = true) : GoodC xs L := by
  unfold goodC at h
  simp only [Bool.and_eq_true, decide_eq_true_eq] at h
  exact ⟨good_of h.1.1, fun b hb => hasK_iff.1 (goodL_mem h.1.2 b hb), h.2⟩
def firstX (xs : List Cls) (L : List Int) (a : Int) : Int := cond (goodC xs L && hasK xs a) (firstC xs L a 0) (-2)
theorem firstX_of {xs : List Cls} {L : List Int} {a : Int} {t : Bool} (h : (goodC xs L && hasK xs a) = t) : firstX xs L a = cond t (firstC xs L a 0) (-2) := by unfold firstX; rw [h]
end

section
end

section
end

section
def deadK (xs : List Cls) (L : List Int) : Nat → List Int
  | 0 => []
  | k + 1 => deadK xs L k ++ (if 0 ≤ firstC xs (L.take k) (L.getD k 0) 0 then [(k : Int)] else [])
theorem deadK_len (xs : List Cls) (L : List Int) : ∀ k, (deadK xs L k).length ≤ k
  | 0 => Nat.le_refl _
  | k + 1 => by
    have := deadK_len xs L k
    unfold deadK
    split <;> simp <;> omega
theorem deadK_ok (xs : List Cls) (L : List Int) : ∀ k, k ≤ 8 → ∀ x ∈ deadK xs L k, Enc.ok x
  | 0, _, x, h => nomatch h
  | k + 1, hk, x, h => by
    unfold deadK at h
    rcases List.mem_append.1 h with h | h
    · exact deadK_ok xs L k (by omega) x h
    · split at h
      · simp at h; subst h; exact ⟨by omega, by omega⟩
      · cases h
theorem deadK_yes {xs : List Cls} {L : List Int} {k : Nat} (hk : k < L.length) (h : 0 ≤ firstC xs (L.take k) L[k] 0) : deadK xs L (k + 1) = deadK xs L k ++ [(k : Int)] := by
  rw [deadK, List.getD_eq_getElem?_getD, List.getElem?_eq_getElem hk, Option.getD_some, if_pos h]
theorem deadK_no {xs : List Cls} {L : List Int} {k : Nat} (hk : k < L.length) (h : ¬ 0 ≤ firstC xs (L.take k) L[k] 0) : deadK xs L (k + 1) = deadK xs L k := by
  rw [deadK, List.getD_eq_getElem?_getD, List.getElem?_eq_getElem hk, Option.getD_some, if_neg h, List.append_nil]
def deadX (xs : List Cls) (L : List Int) : List Int := cond (goodC xs L) (deadK xs L L.length) []
theorem deadX_of {xs : List Cls} {L : List Int} {t : Bool} (h : goodC xs L = t) : deadX xs L = cond t (deadK xs L L.length) [] := by unfold deadX; rw [h]
theorem deadX_len (xs : List Cls) (L : List Int) : (deadX xs L).length ≤ 1048576 := by
  cases h : goodC xs L
  · rw [deadX_of h]; simp
  · have := (goodC_of h).few
    have h2 := deadK_len xs L L.length
    rw [deadX_of h]; show (deadK xs L L.length).length ≤ _; omega

end

section
section
/-- the node of a class -/
def pbAt (gs : List PB) (b : Int) : PB := gs.getD b.toNat ⟨0⟩
theorem pbAt_at {gs : List PB} {i : Nat} (h : i < gs.length) : pbAt gs (i : Int) = gs[i] := by
  unfold pbAt; rw [Int.toNat_natCast, List.getD_eq_getElem?_getD, List.getElem?_eq_getElem h]; rfl
theorem ptrOf_pb {gs : List PB} {b : Int} (h0 : 0 ≤ b) (h1 : b < gs.length) : ptrOf gs b = some ⟨(pbAt gs b).g, 0, none⟩ := by
  obtain ⟨i, rfl⟩ := Int.eq_ofNat_of_zero_le h0
  rw [ptrOf_at (by omega), pbAt_at (by omega)]

set_option maxRecDepth 100000 in
theorem closureF_any (gs : List PB) (xs : List Cls) (g : Good xs) (b : Int) (h0 : 0 ≤ b) (h1 : b < xs.length) (a : Int) (ha : a < xs.length) (ha0 : -1 ≤ a) (p : Nat) (w : World) (hN : Nds w gs xs)
    (cp : w.cell? ⟨p, 0, none⟩ = some (.pointer (ptrOf gs a))) :
    Calls Try.prog 89 #[.pointer (some ⟨(pbAt gs b).g, 0, none⟩), .pointer (some ⟨p, 0, none⟩)] w fun e w' => e = .returned (.bool (isAL xs a b)) ∧ w = w' := by
  obtain ⟨i, rfl⟩ := Int.eq_ofNat_of_zero_le h0
  have hi : i < gs.length := by have := hN.len; omega
  rw [pbAt_at hi]
  have hc := Lib.hid (catches_any gs xs g i hi a ha ha0 w hN)
  go_enter Try.func89, Try.ntmps89
  go_wp2_with fail
  refine hc.out.mono ?_
  rintro e w' ⟨rfl, rfl⟩
  go_wp2
  go_ret
  exact ⟨rfl, rfl⟩

theorem indexFuncH_any (A : Option Addr) (m cap : Nat) (gs : List PB) (xs : List Cls) (L : List Int) (g : Good xs) (hm : ∀ b ∈ L, 0 ≤ b ∧ b < xs.length) (a : Int) (ha : a < xs.length) (ha0 : -1 ≤ a) (p : Nat) (w : World) (hN : Nds w gs xs)
    (hS : Sl w A m cap (L.map (pbAt gs))) (cp : w.cell? ⟨p, 0, none⟩ = some (.pointer (ptrOf gs a))) :
    Calls Try.prog 88 #[.slice A m cap, .func (.func 89) #[] #[.pointer (some ⟨p, 0, none⟩)]] w fun e w' => e = .returned (.int .i64 (firstC xs L a 0)) ∧ w = w' := by
  have hl := hS.len
  have hlm : L.length = m := by rw [← hl]; simp
  have hmx := hS.n_le
  obtain rfl := hlm
  clear hl
  have HN := Lib.hid hN; clear hN
  go_enter Try.func88, Try.ntmps88
  go_wp2
  go_loop [8] (fun i => ∃ k : Nat, k ≤ L.length ∧ i = .int .i64 k ∧ firstC xs L a 0 = firstC xs (L.drop k) a k) (fun i => L.length - (intOf i).toNat)
  case atStart => exact ⟨0, Nat.zero_le _, rfl, rfl⟩
  case round =>
    obtain ⟨k, hk, rfl, hr⟩ := hrel
    have HR := Lib.hid hr; clear hr
    by_cases hlt : k < L.length
    · have hlt' : k < (L.map (pbAt gs)).length := by simpa using hlt
      obtain ⟨b, off, rfl, _, hcell⟩ := hS.pb_at hlt'
      rw [List.getElem_map] at hcell
      have hmem := hm L[k] (List.getElem_mem hlt)
      have HC := Lib.hid (closureF_any gs xs g L[k] hmem.1 hmem.2 a ha ha0 p w HN.out cp)
      have hat := firstC_at (xs := xs) hlt a k
      cases hi1 : isAL xs a L[k]
      · have HF : Hid (firstC xs L a 0 = firstC xs (L.drop (k + 1)) a ((k + 1 : Nat) : Int)) := by show _ = _; rw [HR.out, hat, hi1]; rfl
        clear hat
        go_wp2_with fail
        refine HC.out.mono ?_
        rintro e w' ⟨rfl, rfl⟩
        rw [hi1]
        go_wp2
        go_round
        case rel => exact ⟨k + 1, by omega, by go_num, HF.out⟩
        case measure => simp [intOf]; omega
      · have HF : Hid (firstC xs L a 0 = k) := by show _ = _; rw [HR.out, hat, hi1]; rfl
        clear hat
        go_wp2_with fail
        refine HC.out.mono ?_
        rintro e w' ⟨rfl, rfl⟩
        rw [hi1]
        go_wp2
        go_ret
        exact ⟨ret_int HF.out.symm, rfl⟩
    · have HF : Hid (firstC xs L a 0 = -1) := by show _ = _; rw [HR.out, firstC_end hlt]
      go_wp2
      go_ret
      exact ⟨ret_int HF.out.symm, rfl⟩

theorem first_any (A : Option Addr) (m cap : Nat) (gs : List PB) (xs : List Cls) (L : List Int) (g : Good xs) (hm : ∀ b ∈ L, 0 ≤ b ∧ b < xs.length) (a : Int) (ha : a < xs.length) (ha0 : -1 ≤ a) (w : World) (hN : Nds w gs xs)
    (hS : Sl w A m cap (L.map (pbAt gs))) :
    Calls Try.prog 86 #[.slice A m cap, .pointer (ptrOf gs a)] w fun e w' => e = .returned (.int .i64 (firstC xs L a 0)) ∧ Le w w' := by
  go_enter Try.func86, Try.ntmps86
  go_wp2_with fail
  refine (indexFuncH_any A m cap gs xs L g hm a ha ha0 _ _ (hN.le (Le.new w _)) (hS.alloc _) (by simp)).mono ?_
  rintro e w' ⟨rfl, rfl⟩
  go_wp2
  go_ret
  exact ⟨rfl, Le.new w _⟩
theorem hcatches_any (A : Option Addr) (m cap : Nat) (gs : List PB) (xs : List Cls) (L : List Int) (g : Good xs) (hm : ∀ b ∈ L, 0 ≤ b ∧ b < xs.length) (a : Int) (ha : a < xs.length) (ha0 : -1 ≤ a) (w : World) (hN : Nds w gs xs)
    (hS : Sl w A m cap (L.map (pbAt gs))) :
    Calls Try.prog 76 #[.slice A m cap, .pointer (ptrOf gs a)] w fun e w' => e = .returned (.bool (decide (0 ≤ firstC xs L a 0))) ∧ Le w w' := by
  go_enter Try.func76, Try.ntmps76
  go_wp2_with fail
  refine (first_any A m cap gs xs L g hm a ha ha0 _ hN hS).mono ?_
  rintro e w' ⟨rfl, hle⟩
  go_wp2
  go_ret
  exact ⟨rfl, hle⟩
end

section
def HandOut (xs : List Cls) (L : List Int) (gs : List PB) (w : World) (e : Ending) (w' : World) : Prop :=
  Le w w' ∧ ((goodC xs L = false ∧ e = .returned (.tuple #[.slice none 0 0, .bool false])) ∨ (goodC xs L = true ∧ ∃ H c, e = .returned (.tuple #[.slice H L.length c, .bool true]) ∧ Sl w' H L.length c (L.map (pbAt gs))))
theorem goodC_no {xs : List Cls} {L : List Int} (h : okTree xs = false ∨ 6 < L.length ∨ goodL xs L = false) : goodC xs L = false := by
  unfold goodC
  rcases h with h | h | h
  · rw [h]; rfl
  · rw [decide_eq_false (p := L.length ≤ 6) (by omega), Bool.and_false]
  · rw [h, Bool.and_false]; rfl
theorem goodC_yes {xs : List Cls} {L : List Int} (h : okTree xs = true) (h2 : L.length ≤ 6) (h3 : goodL xs L = true) : goodC xs L = true := by
  unfold goodC; rw [h, h3, decide_eq_true h2]; rfl

set_option maxHeartbeats 1000000 in
set_option maxRecDepth 100000 in
theorem handlersOf_any (A B : Option Addr) (n m c : Nat) (gs : List PB) (xs : List Cls) (L : List Int) (w : World) (hS : Sl w A n n gs)
    (hcase : (okTree xs = false ∧ n = 0 ∧ gs = []) ∨ (okTree xs = true ∧ n = xs.length ∧ Nds w gs xs)) (hL : Sl w B m c L) :
    Calls Try.prog 74 #[.slice A n n, .slice B m c] w (HandOut xs L gs w) := by
  obtain rfl := hL.len
  have hmx := hL.n_le
  have hnx := hS.n_le
  rcases hcase with ⟨h0, rfl, rfl⟩ | ⟨h0, rfl, hN⟩
  · have HF := Lib.hid (goodC_no (L := L) (.inl h0))
    clear h0
    go_enter Try.func74, Try.ntmps74
    go_wp2
    go_ret2
    exact ⟨Le.refl w, .inl ⟨HF.out, rfl⟩⟩
  · have g := good_of h0
    have hlo := g.lo
    have hn0 : ((xs.length : Int) == 0) = false := by rw [beq_eq_false_iff_ne]; omega
    by_cases h6 : 6 < L.length
    · have HF := Lib.hid (goodC_no (xs := xs) (L := L) (.inr (.inl h6)))
      have h6' : 6 < (L.length : Int) := by omega
      go_enter Try.func74, Try.ntmps74
      go_wp2
      go_ret2
      exact ⟨Le.refl w, .inl ⟨HF.out, rfl⟩⟩
    · have h6' : ¬ 6 < (L.length : Int) := by omega
      obtain ⟨i0, hi, hz0, hz1, hz2⟩ := info_parts pnInfo
      have hb2 : i0.bytes * L.length ≤ 281474976710656 := by rw [hz2]; omega
      have H0 := Lib.hid h0; clear h0
      have HL := Lib.hid hN.len
      go_enter Try.func74, Try.ntmps74
      go_wp2_with (refine wpList_make_full _ rfl _ _ 102 rfl w.heap.size 106 i0 _ 1 Try.underlying102 hi hz0 hz1 .i64 .i64 _ _ L.length rfl rfl rfl rfl hb2 (by unfold maxLen; omega) (Nat.le_refl _) ?_; intro w1 hown1 hg1)
      have hle1 : Le w w1 := (Le.refl w).grown hg1 (by intro k hk; cases hk)
      clear hg1
      go_loopw [22] (fun i wr => ∃ k : Nat, ∃ r : List Value, k ≤ L.length ∧ i = .int .i64 k ∧ r.length = L.length - k ∧ wr.ownsRow w.heap.size 106 1 (.slice (some ⟨w.heap.size, 0, none⟩) L.length L.length) L.length (((L.take k).map (pbAt gs)).flatMap Enc.cells ++ r) ∧
        goodL xs L = goodL xs (L.drop k) ∧ Le w wr) (fun i _ => L.length - (intOf i).toNat)
      case atStart => exact ⟨0, _, Nat.zero_le _, rfl, by simp [madeCells], hown1, rfl, hle1⟩
      case round =>
        obtain ⟨k, r, hk, rfl, hr, hown, hgl, hle⟩ := hrel
        have HG := Lib.hid hgl; clear hgl
        have S1 := hS.le hle
        have S2 := hL.le hle
        clear hown1 hle1
        by_cases hlt : k < L.length
        · obtain ⟨b, off, rfl, hb, hcell, _, _⟩ := S2.int_at hlt
          match r, hr with
          | [], h => simp at h; omega
          | r0 :: rr, hr =>
          have hfl : (((L.take k).map (pbAt gs)).flatMap (Enc.cells (α := PB))).length = k := by rw [flat_len, List.length_map, List.length_take]; show _ * 1 = _; omega
          have hc0 : wr.cell? ⟨w.heap.size, k, none⟩ = some r0 := by rw [hown.cellAt _ (by omega), List.getElem?_append_right (by omega), hfl]; simp
          have hf0 := hown.frozenAt k
          have HFL := Lib.hid hfl; clear hfl
          have HF : Hid (goodL xs L = (hasK xs L[k] && goodL xs (L.drop (k + 1)))) := by show _ = _; rw [HG.out, goodL_at hlt]
          go_wp2_with fail
          refine (nodeAt_any _ _ _ gs L[k] _ S1).mono ?_
          rintro e w3 ⟨rfl, rfl⟩
          rcases ptr_cases HL.out L[k] with ⟨h2, h3⟩ | ⟨h2, j, hj, hje, h3⟩
          · rw [h3]
            have HN : Hid (goodC xs L = false) := goodC_no (.inr (.inr (by rw [HF.out, h2]; rfl)))
            clear h3 h2
            go_wp2
            go_ret2
            exact ⟨hle.setCell (Nat.le_refl _) _, .inl ⟨HN.out, rfl⟩⟩
          · rw [h3]
            have hpb : pbAt gs L[k] = gs[j] := by rw [hje, pbAt_at hj]
            have HPB := Lib.hid hpb; clear hpb
            have H2 := Lib.hid h2
            clear h3 hje h2
            go_wp2
            go_roundw
            case rel =>
              refine ⟨k + 1, rr, by omega, by go_num, by simp at hr; omega, ?_, by rw [HF.out, H2.out]; rfl, hle.setCell (Nat.le_refl _) _⟩
              have h1 := (hown.stored k (.pointer (some ⟨gs[j].g, 0, none⟩))).1
              have e : ((L.take (k + 1)).map (pbAt gs)).flatMap Enc.cells ++ rr = ((((L.take k).map (pbAt gs)).flatMap Enc.cells ++ r0 :: rr).set k (.pointer (some ⟨gs[j].g, 0, none⟩))) := by
                rw [List.set_append_right _ _ (by have := HFL.out; omega), HFL.out, List.take_succ_eq_append_getElem hlt, List.map_append, List.flatMap_append]
                simp [Enc.cells, HPB.out]
              rw [e]; exact h1
            case measure => simp [intOf]; omega
        · have hk' : k = L.length := by omega
          have hr0 : r = [] := List.eq_nil_of_length_eq_zero (by omega)
          have HF : Hid (HandOut xs L gs w (.returned (.tuple #[.slice (some ⟨w.heap.size, 0, none⟩) L.length L.length, .bool true])) wr) := by
            refine ⟨hle, .inr ⟨goodC_yes H0.out (by omega) (by rw [HG.out, goodL_end hlt]), _, _, rfl, ?_⟩⟩
            rw [hr0, List.append_nil, hk', List.take_length] at hown
            exact Sl.of_own hown rfl (by decide) (fun _ _ => trivial)
          clear hk' hr0 hr hown
          go_wp2
          go_ret2
          exact HF.out
end

section
theorem iFirstCatch_any (A B : Option Addr) (n cap m c : Nat) (xs : List Cls) (L : List Int) (a : Int) (w : World) (hR : Sl w A n cap xs) (hL : Sl w B m c L) :
    Calls Try.prog 87 #[.agg #[.slice A n cap], .slice B m c, .int .i64 a] w fun e w' => e = .returned (.int .i64 (firstX xs L a)) ∧ Le w w' := by
  have L0 := Le.new w (.cells #[.slice A n cap] 25)
  go_enter Try.func87, Try.ntmps87
  go_wp2_with fail
  refine (nodesOf_any A n cap xs _ (hR.alloc _)).mono ?_
  intro e w2 hout
  obtain ⟨hle, A2, n2, gs, rfl, S2, hcase⟩ := nodes_one hout
  replace L0 := L0.trans hle
  clear hout hle
  have S3 := hL.le L0
  go_wp2_with fail
  refine (handlersOf_any A2 B n2 m c gs xs L _ S2 hcase S3).mono ?_
  rintro e w3 ⟨hle, hcs⟩
  have S4 := S2.le hle
  replace L0 := L0.trans hle
  rcases hcs with ⟨h1, rfl⟩ | ⟨h1, H, ch, rfl, S5⟩
  · have HF := Lib.hid (firstX_of (xs := xs) (L := L) (a := a) (t := false) (by rw [h1]; rfl))
    clear hcase h1
    go_wp2_with fail
    refine (nodeAt_any _ _ _ gs a _ S4).mono ?_
    rintro e w3 ⟨rfl, rfl⟩
    go_wp2
    go_ret
    exact ⟨ret_int HF.out.symm, L0⟩
  · have gc := goodC_of h1
    have ho : okTree xs = true := by unfold goodC at h1; simp at h1; exact h1.1.1
    rcases hcase with ⟨h0, _⟩ | ⟨_, rfl, hN⟩
    · rw [ho] at h0; cases h0
    · replace hN := hN.le hle
      clear ho
      go_wp2_with fail
      refine (nodeAt_any _ _ _ gs a _ S4).mono ?_
      rintro e w3 ⟨rfl, rfl⟩
      rcases ptr_cases hN.len a with ⟨h2, h3⟩ | ⟨h2, j, hj, rfl, h3⟩
      · have HF := Lib.hid (firstX_of (xs := xs) (L := L) (a := a) (t := false) (by rw [h1, h2]; rfl))
        rw [h3]
        clear h1 h2 h3
        go_wp2
        go_ret
        exact ⟨ret_int HF.out.symm, L0⟩
      · have HF := Lib.hid (firstX_of (xs := xs) (L := L) (a := j) (t := true) (by rw [h1, h2]; rfl))
        have hc := Lib.hid (first_any H L.length ch gs xs L gc.tree gc.mem j (by have := hN.len; omega) (by omega) _ hN S5)
        rw [h3] at hc ⊢
        clear h1 h2 h3
        go_wp2_with fail
        refine hc.out.mono ?_
        rintro e w4 ⟨rfl, hle4⟩
        go_wp2
        go_ret
        exact ⟨ret_int HF.out.symm, L0.trans hle4⟩
end
end

section
theorem hand_tree {xs : List Cls} {L : List Int} (h : goodC xs L = true) : okTree xs = true := by unfold goodC at h; simp at h; exact h.1.1
set_option maxRecDepth 100000 in
theorem iDeadCatches_any (A B : Option Addr) (n cap m c : Nat) (xs : List Cls) (L : List Int) (w : World) (hR : Sl w A n cap xs) (hL : Sl w B m c L) :
    Calls Try.prog 46 #[.agg #[.slice A n cap], .slice B m c] w fun e w' => ∃ v, e = .returned v ∧ Owd 3 w w' v (deadX xs L) ∧ Le w w' := by
  have L0 := Le.new w (.cells #[.slice A n cap] 25)
  go_enter Try.func46, Try.ntmps46
  go_wp2_with fail
  refine (nodesOf_any A n cap xs _ (hR.alloc _)).mono ?_
  intro e w2 hout
  obtain ⟨hle, A2, n2, gs, rfl, S2, hcase⟩ := nodes_one hout
  replace L0 := L0.trans hle
  clear hout hle
  have S3 := hL.le L0
  go_wp2_with fail
  refine (handlersOf_any A2 B n2 m c gs xs L _ S2 hcase S3).mono ?_
  rintro e w3 ⟨hle, hcs⟩
  replace L0 := L0.trans hle
  rcases hcs with ⟨h1, rfl⟩ | ⟨h1, H, ch, rfl, S5⟩
  · have HF := Lib.hid (deadX_of h1)
    clear hcase h1
    go_wp2
    go_ret
    exact ⟨_, rfl, by rw [HF.out]; exact Owd.nil _ _ _, L0⟩
  · have gc := goodC_of h1
    rcases hcase with ⟨h0, _⟩ | ⟨_, rfl, hN⟩
    · rw [hand_tree h1] at h0; cases h0
    · replace hN := hN.le hle
      have HF := Lib.hid (deadX_of h1)
      have h6 := gc.few
      have hcp := S5.cap_
      have HOK := Lib.hid (deadK_ok xs L L.length (by omega))
      have HM := Lib.hid gc.mem
      obtain ⟨i0, hi, hz0, hz1, hz2⟩ := info_parts intInfo
      clear S2 S3 h1 hle
      go_wp2
      go_loopw [7, 21] (fun v i wr => ∃ k : Nat, k ≤ L.length ∧ i = .int .i64 k ∧ wr.ownsRow w3.heap.size 3 1 v (deadK xs L k).length ((deadK xs L k).flatMap Enc.cells) ∧ Le w3 wr) (fun _ i _ => L.length - (intOf i).toNat)
      case atStart => exact ⟨0, Nat.zero_le _, rfl, World.ownsRow_nil _ _ _ _, Le.refl _⟩
      case round =>
        obtain ⟨k, hk, rfl, O1, hle⟩ := hrel
        by_cases hlt : k < L.length
        · have hmem := HM.out L[k] (List.getElem_mem hlt)
          have S6 := S5.le hle
          have hlt' : k < (L.map (pbAt gs)).length := by simpa using hlt
          obtain ⟨b, off, rfl, hb, hcell⟩ := S6.pb_at hlt'
          rw [List.getElem_map] at hcell
          have S7 := S6.take_ k (by omega)
          rw [← List.map_take] at S7
          have hkc : (0 : Int) ≤ k ∧ (k : Int) ≤ ch := by omega
          have hbl := deadK_len xs L k
          have HC := Lib.hid (hcatches_any _ k ch gs xs (L.take k) gc.tree (fun b hb => HM.out b (List.mem_of_mem_take hb)) L[k] hmem.2 (by omega) wr (hN.le hle) S7)
          rw [ptrOf_pb hmem.1 (by have := hN.len; omega)] at HC
          clear S6 S7
          by_cases h1 : 0 ≤ firstC xs (L.take k) L[k] 0
          · have HB := Lib.hid (deadK_yes hlt h1)
            have hd1 : decide (0 ≤ firstC xs (L.take k) L[k] 0) = true := decide_eq_true h1
            clear h1
            go_wp2_with fail
            refine HC.out.mono ?_
            rintro e w4 ⟨rfl, hle4⟩
            rw [hd1]
            replace O1 := own_le O1 hle4
            replace hle := hle.trans hle4
            have hsz := hle.size
            clear hd1
            go_wp2_with (at_builtin; refine wpList_append_own _ rfl _ _ 31 rfl w3.heap.size 3 i0 (.int .i64 0) 1 8 Try.underlying31 hi hz0 hz1 hz2 rfl (by decide) _ _ _ rfl (O1.alloc _) ⟨w4.heap.size, 0, none⟩ 1 1 [.int .i64 k] rfl rfl ?c1 ?c2 (by unfold maxLen; omega) (by omega) ?c5 ?_)
            case c1 => exact one_new _ _ _
            case c2 => intro u hu; simp at hu; subst hu; rfl
            case c5 => simp; omega
            intro v1 w1 hown1 hg1 _
            have hle1 := (hle.alloc (.cells #[.int .i64 (k : Int)] 3)).grown hg1 (fun k hk => (O1.lt k hk).1)
            go_wp2
            go_roundw
            case rel => exact ⟨k + 1, by omega, by go_num, by rw [HB.out]; simpa [Enc.cells] using hown1, hle1⟩
            case measure => simp [intOf]; omega
          · have HB := Lib.hid (deadK_no hlt h1)
            have hd1 : decide (0 ≤ firstC xs (L.take k) L[k] 0) = false := decide_eq_false h1
            clear h1
            go_wp2_with fail
            refine HC.out.mono ?_
            rintro e w4 ⟨rfl, hle4⟩
            rw [hd1]
            replace O1 := own_le O1 hle4
            replace hle := hle.trans hle4
            clear hd1
            go_wp2
            go_roundw
            case rel => exact ⟨k + 1, by omega, by go_num, by rw [HB.out]; exact O1, hle⟩
            case measure => simp [intOf]; omega
        · have hk' : k = L.length := by omega
          subst hk'
          have HO : ∀ v, wr.ownsRow w3.heap.size 3 1 v (deadK xs L L.length).length ((deadK xs L L.length).flatMap Enc.cells) → Owd 3 w wr v (deadX xs L) := by
            intro v hv
            rw [HF.out]; exact ⟨own_mono hv L0.size, HOK.out⟩
          have HO2 := Lib.hid (HO _ O1)
          clear HO O1
          go_wp2
          go_ret
          exact ⟨_, rfl, HO2.out, L0.trans hle⟩
end

section
section
/-- of some lines those whose class is caught ahead -/
def deA (xs : List Cls) (p : List Lin) : List Int → List Nat → List Nat
  | _, [] => []
  | acc, x :: r => (if 0 ≤ firstC xs acc (lnA p x) 0 then [x] else []) ++ deA xs p (acc ++ [lnA p x]) r
/-- the lines of a try that never catch -/
def deAt (xs : List Cls) (p : List Lin) (i : Nat) : List Nat := if knd p i = 7 then deA xs p [] (exL p i) else []
def deD (xs : List Cls) (p : List Lin) : Nat → List Nat
  | 0 => []
  | k + 1 => deD xs p k ++ deAt xs p k
theorem deA_len (xs : List Cls) (p : List Lin) : ∀ (E : List Nat) acc, (deA xs p acc E).length ≤ E.length
  | [], _ => Nat.le_refl _
  | x :: r, acc => by
    unfold deA
    have := deA_len xs p r (acc ++ [lnA p x])
    rw [List.length_append]
    split <;> simp <;> omega
theorem deA_mem (xs : List Cls) (p : List Lin) : ∀ (E : List Nat) acc, ∀ x ∈ deA xs p acc E, x ∈ E
  | [], _, x, h => nomatch h
  | y :: r, acc, x, h => by
    unfold deA at h
    rcases List.mem_append.1 h with h | h
    · split at h
      · rw [List.mem_singleton.1 h]; exact List.mem_cons_self ..
      · cases h
    · exact List.mem_cons_of_mem _ (deA_mem xs p r _ x h)
theorem deAt_len (xs : List Cls) (p : List Lin) (i : Nat) : (deAt xs p i).length ≤ p.length + 1 := by
  unfold deAt
  split
  · exact Nat.le_trans (deA_len _ _ _ _) (Nat.le_trans (exF_len _ _) (parts_len p i))
  · simp
theorem deD_len (xs : List Cls) (p : List Lin) : ∀ k, (deD xs p k).length ≤ k * (p.length + 1)
  | 0 => by simp [deD]
  | k + 1 => by
    unfold deD
    rw [List.length_append, Nat.succ_mul]
    have := deD_len xs p k
    have := deAt_len xs p k
    omega
theorem deD_bound {xs : List Cls} {p : List Lin} (hp : p.length ≤ 24) (k : Nat) (hk : k ≤ 24) : (deD xs p k).length ≤ 600 := by
  have h2 := deD_len xs p k
  have h3 : k * (p.length + 1) ≤ 24 * 25 := Nat.mul_le_mul hk (by omega)
  omega
theorem deD_lt {xs : List Cls} {p : List Lin} : ∀ k, k ≤ p.length → ∀ x ∈ deD xs p k, x < p.length
  | 0, _, x, h => nomatch h
  | k + 1, hk, x, h => by
    unfold deD at h
    rcases List.mem_append.1 h with h | h
    · exact deD_lt k (by omega) x h
    · unfold deAt at h
      split at h
      · exact parts_lt (by omega) x (List.mem_filter.1 (deA_mem _ _ _ _ x h)).1
      · cases h
/-- the places of dead catches give the dead lines -/
theorem dead_places (xs : List Cls) (p : List Lin) (E : List Nat) : ∀ k, k ≤ E.length → (deadK xs (E.map (lnA p)) k).map (fun n => E.getD n.toNat 0) ++ deA xs p ((E.map (lnA p)).take k) (E.drop k) = deA xs p [] E
  | 0, _ => by simp [deadK]
  | k + 1, hk => by
    have ih := dead_places xs p E k (by omega)
    have hkl : k < (E.map (lnA p)).length := by simp; omega
    rw [List.drop_eq_getElem_cons (show k < E.length by omega)] at ih
    rw [← ih, List.take_succ_eq_append_getElem hkl]
    have e1 : (E.map (lnA p))[k] = lnA p E[k] := by simp
    show _ = _ ++ ((if 0 ≤ firstC xs ((E.map (lnA p)).take k) (lnA p E[k]) 0 then [E[k]] else []) ++ deA xs p ((E.map (lnA p)).take k ++ [lnA p E[k]]) (E.drop (k + 1)))
    rw [e1]
    by_cases h : 0 ≤ firstC xs ((E.map (lnA p)).take k) (lnA p E[k]) 0
    · rw [deadK_yes hkl (by rw [e1]; exact h), if_pos h, List.map_append, List.append_assoc]
      congr 2
      simp [List.getD_eq_getElem?_getD, show k < E.length by omega]
    · rw [deadK_no hkl (by rw [e1]; exact h), if_neg h]; rfl
theorem dead_all (xs : List Cls) (p : List Lin) (E : List Nat) : (deadK xs (E.map (lnA p)) (E.map (lnA p)).length).map (fun n => E.getD n.toNat 0) = deA xs p [] E := by
  have h := dead_places xs p E E.length (Nat.le_refl _)
  rw [List.drop_length] at h
  rw [List.length_map, ← h]
  unfold deA
  rw [List.append_nil]
theorem deadK_lt (xs : List Cls) (L : List Int) : ∀ k, ∀ x ∈ deadK xs L k, ∃ n : Nat, x = n ∧ n < k
  | 0, x, h => nomatch h
  | k + 1, x, h => by
    unfold deadK at h
    rcases List.mem_append.1 h with h | h
    · obtain ⟨n, h3, h4⟩ := deadK_lt xs L k x h
      exact ⟨n, h3, by omega⟩
    · split at h
      · exact ⟨k, List.mem_singleton.1 h, by omega⟩
      · cases h
/-- a program without some lines and their blocks -/
def drG (p : List Lin) (D : List Nat) : Nat → Nat → List Lin
  | 0, _ => []
  | m + 1, i => match p[i]? with
    | some x => if D.contains i = true then drG p D m (bEnd p i) else x :: drG p D m (i + 1)
    | none => []
theorem drG_step {p : List Lin} {D : List Nat} {m i : Nat} (hi : i < p.length) : drG p D (m + 1) i = if D.contains i = true then drG p D m (bEnd p i) else p[i] :: drG p D m (i + 1) := by
  show (match p[i]? with | some x => _ | none => _) = _
  rw [List.getElem?_eq_getElem hi]
theorem drG_stop {p : List Lin} {D : List Nat} {m i : Nat} (hi : ¬ i < p.length) : drG p D m i = [] := by
  cases m with
  | zero => rfl
  | succ m =>
    show (match p[i]? with | some x => _ | none => _) = _
    rw [List.getElem?_eq_none (by omega)]
theorem drG_len (p : List Lin) (D : List Nat) : ∀ m i, (drG p D m i).length ≤ m
  | 0, _ => Nat.le_refl _
  | m + 1, i => by
    unfold drG
    split
    · split
      · have := drG_len p D m (bEnd p i); omega
      · have := drG_len p D m (i + 1); simp; omega
    · simp
theorem drG_ok {p : List Lin} {D : List Nat} (h : ∀ x ∈ p, Enc.ok x) : ∀ m i, ∀ x ∈ drG p D m i, Enc.ok x
  | 0, _, x, hx => nomatch hx
  | m + 1, i, x, hx => by
    unfold drG at hx
    split at hx
    · rename_i y hy
      split at hx
      · exact drG_ok h m _ x hx
      · rcases List.mem_cons.1 hx with rfl | hx
        · exact h _ (List.mem_of_getElem? hy)
        · exact drG_ok h m _ x hx
    · cases hx
def drL (xs : List Cls) (p : List Lin) : List Lin := drG p (deD xs p p.length) p.length 0
def ddX (xs : List Cls) (p : List Lin) : List Lin := cond (vp xs p) (drL xs p) []
theorem ddX_len (xs : List Cls) (p : List Lin) : (ddX xs p).length ≤ 1048576 := by
  unfold ddX
  cases h : vp xs p
  · simp
  · have h1 := (goodP_of h).len
    have h2 := drG_len p (deD xs p p.length) p.length 0
    show (drL xs p).length ≤ _
    unfold drL; omega
theorem good_exc2 {xs : List Cls} {p : List Lin} (g : GoodP xs p) {i : Nat} (hi : i < p.length) (h7 : knd p i = 7) : goodC xs (clL p i) = true := by
  have hx : exs p (parts p i) ≤ 6 := ((g.tries i hi).1 h7).2
  rw [exs_len] at hx
  refine goodC_yes g.tree (by unfold clL; rw [clF_len]; exact hx) (goodL_mk fun b hb => ?_)
  obtain ⟨x, hx2, rfl⟩ := List.mem_map.1 hb
  have hm := List.mem_filter.1 hx2
  have hl := parts_lt hi x hm.1
  have hk : knd p x = 8 := by simpa using hm.2
  have hn := (g.line x hl).1
  rw [lnA_at hl]
  rw [knd_at hl] at hk
  unfold numS at hn
  rw [hk] at hn
  simp at hn
  exact hn.1
theorem size_al1 (w : World) (o : Obj) : (w.alloc o).heap.size = w.heap.size + 1 := by simp
theorem apart_nw {v u : Value} {b m : Nat} (h : v.ownBlock ≠ some b ∧ b < m) (hat : u.ownBlock = v.ownBlock ∨ u.ownBlock = some (m + 1)) : u.ownBlock ≠ some b := by
  rcases hat with e | e
  · rw [e]; exact h.1
  · rw [e]; intro e2; injection e2 with e2; omega
set_option maxHeartbeats 2000000 in
set_option maxRecDepth 100000 in
theorem deadExcepts_any (B A : Option Addr) (m c n cap : Nat) (xs : List Cls) (p : List Lin) (g : GoodP xs p) (w : World) (hT : Sl w B m c xs) (hR : Sl w A n cap p) :
    Calls Try.prog 25 #[.agg #[.slice B m c], .slice A n cap] w fun e w' => ∃ v, e = .returned v ∧ Owd 3 w w' v (nI (deD xs p p.length)) ∧ Le w w' := by
  obtain ⟨i0, hq, hz0, hz1, hz2⟩ := info_parts intInfoB
  have hp := g.len
  have HGC : Hid (∀ i, i < p.length → knd p i = 7 → goodC xs (clL p i) = true) := fun i hi => good_exc2 g hi
  obtain rfl := hR.len
  have HBD := Lib.hid (deD_bound (xs := xs) hp)
  have HLT := Lib.hid (deD_lt (xs := xs) (p := p) p.length (Nat.le_refl _))
  clear g
  go_enter Try.func25, Try.ntmps25
  go_wp2
  obtain ⟨ct, zt, hleB⟩ := box1 w (.slice B m c) 25
  have L0 := hleB
  clear hleB
  generalize w.alloc (.cells #[.slice B m c] 25) = W at *
  have T1 := hT.le L0
  have R1 := hR.le L0
  clear hT hR
  have O0 : W.ownsRow W.heap.size 3 1 (.slice none 0 0) (deD xs p 0).length ((nI (deD xs p 0)).flatMap Enc.cells) := World.ownsRow_nil _ _ _ _
  go_loopw [5, 6, 7, 8, 9, 11, 14] (fun v _ _ _ _ _ q wr => ∃ k : Nat, k ≤ p.length ∧ q = .int .i64 k ∧ wr.ownsRow W.heap.size 3 1 v (deD xs p k).length ((nI (deD xs p k)).flatMap Enc.cells) ∧ Le W wr) (fun _ _ _ _ _ _ q _ => p.length - (intOf q).toNat)
  case atStart => exact ⟨0, Nat.zero_le _, rfl, O0, Le.refl _⟩
  case round =>
    obtain ⟨k, hk, rfl, O1, L⟩ := hrel
    have T := T1.le L
    have R := R1.le L
    have hLs := L.size
    replace ct := (L.cell zt).trans ct
    clear O0 T1 R1
    by_cases hlt : k < p.length
    · obtain ⟨b, off, rfl, hb, d0, d1, d2, d3, -⟩ := R.lin_at hlt
      have HK := Lib.hid (knd_at hlt)
      have hTl := HBD.out k (by omega)
      have HGK := Lib.hid (HGC.out k hlt)
      have HST : Hid (deD xs p (k + 1) = deD xs p k ++ deAt xs p k) := rfl
      have HAT : Hid (deAt xs p k = if knd p k = 7 then deA xs p [] (exL p k) else []) := rfl
      have HCL : Hid (clL p k = (exL p k).map (lnA p)) := rfl
      have HDA := Lib.hid (dead_all xs p (exL p k))
      have hell : (exL p k).length ≤ p.length + 1 := Nat.le_trans (exF_len _ _) (parts_len p k)
      have HEL : Hid (∀ x ∈ exL p k, x < p.length) := fun x hx => parts_lt hlt x (List.mem_filter.1 hx).1
      have hk0 : (0 : Int) ≤ (k : Int) := by omega
      have hkn : (k : Int) < (p.length : Int) := by omega
      generalize deD xs p k = TB at *
      generalize p[k].depth = vd at *
      generalize p[k].kind = vk at *
      generalize p[k].a = va at *
      generalize p[k].b = vb at *
      by_cases h7 : vk = 7
      · subst h7
        have HN : Hid (deD xs p (k + 1) = TB ++ deA xs p [] (exL p k)) := by show _ = _; rw [HST.out, HAT.out, if_pos HK.out]
        have HGG := HGK.out HK.out
        have HDX := Lib.hid (deadX_of HGG)
        have H6 := goodC_of HGG
        have HFEW := H6.few
        obtain ⟨x0, x1, z0, hle2⟩ := box4 wr (.int .i64 vd) (.int .i64 7) (.int .i64 va) (.int .i64 vb) 39
        have O2 := own_le O1 hle2
        have L2 := L.trans hle2
        have T2 := T.le hle2
        have R2 := R.le hle2
        have ct2 := (hle2.cell (Nat.lt_of_lt_of_le zt hLs)).trans ct
        clear HST HAT HGK HGG H6
        go_wp2_with fail
        refine (exceptsOf_any _ p.length cap p k hlt (by omega) _ R2).mono ?_
        rintro e w3 ⟨v3, u3, rfl, D3, D4, hle3⟩
        obtain ⟨A3, q3, rfl, S3, hB3⟩ := D3.form (by decide)
        obtain ⟨A4, q4, rfl, S4, -⟩ := D4.form (by decide)
        have HOL := Lib.hid (fun j hj => (O2.lt j hj).2)
        have O3 := own_le O2 hle3
        have L3 := L2.trans hle3
        have T3 := T2.le hle3
        have ct3 := (hle3.cell (Nat.lt_of_lt_of_le zt L2.size)).trans ct2
        rw [nI_len] at S3 hB3 ⊢
        clear D3 D4 O2 x0 x1 z0 ct
        go_wp2_with fail
        refine (iDeadCatches_any B A4 m c _ q4 xs (clL p k) w3 T3 S4).mono ?_
        rintro e w4 ⟨v5, rfl, D5, hle4⟩
        have e5 : deadX xs (clL p k) = deadK xs (clL p k) (clL p k).length := HDX.out
        rw [e5] at D5
        have hkl := deadK_len xs (clL p k) (clL p k).length
        have HKL := Lib.hid (deadK_lt xs (clL p k) (clL p k).length)
        have hcl : (clL p k).length = (exL p k).length := by rw [HCL.out, List.length_map]
        rw [← HCL.out] at HDA
        obtain ⟨A5, q5, rfl, S5, hB5⟩ := D5.form (by decide)
        generalize deadK xs (clL p k) (clL p k).length = DK at *
        generalize (clL p k).length = lc at *
        generalize exL p k = E at *
        have hA3 : ∀ a, A3 = some a → (wr.alloc (.cells #[.int .i64 vd, .int .i64 7, .int .i64 va, .int .i64 vb] 39)).heap.size ≤ a.block ∧ a.block < w3.heap.size := fun a ha => hB3 a.block (by rw [ha]; rfl)
        have hA5 : ∀ a, A5 = some a → w3.heap.size ≤ a.block ∧ a.block < w4.heap.size := fun a ha => hB5 a.block (by rw [ha]; rfl)
        have O4i := own_le O3 hle4
        have L4i := L3.trans hle4
        have S34i := S3.le hle4
        have hs34 := hle4.size
        have hs23 := hle3.size
        have HAP3 : Hid (∀ a, A3 = some a → Value.ownBlock u5 ≠ some a.block ∧ a.block < w4.heap.size) := fun a ha => ⟨fun e => by have := HOL.out _ e; have := (hA3 a ha).1; omega, by have := (hA3 a ha).2; omega⟩
        have HAP5 : Hid (∀ a, A5 = some a → Value.ownBlock u5 ≠ some a.block ∧ a.block < w4.heap.size) := fun a ha => ⟨fun e => by have := HOL.out _ e; have := (hA5 a ha).1; omega, by have := (hA5 a ha).2; omega⟩
        have O4b : w4.ownsRow W.heap.size 3 1 u5 (TB ++ (DK.take 0).map (fun n => E.getD n.toNat 0)).length ((nI (TB ++ (DK.take 0).map (fun n => E.getD n.toNat 0))).flatMap Enc.cells) := by simpa using O4i
        clear hB3 hB5 hA3 hA5 HOL D5 O3 O4i O1 S3 S4 hle3 hle4 e5 L L2 L3 hle2 ct2 ct3 R2 R T T2 T3
        go_wp2
        generalize wr = W0 at *
        go_loopw [5, 11, 32] (fun v _ q wr => ∃ r : Nat, r ≤ DK.length ∧ q = .int .i64 r ∧ wr.ownsRow W.heap.size 3 1 v (TB ++ (DK.take r).map (fun n => E.getD n.toNat 0)).length ((nI (TB ++ (DK.take r).map (fun n => E.getD n.toNat 0))).flatMap Enc.cells) ∧ Le W wr ∧ Sl wr A3 E.length q3 (nI E) ∧ Sl wr A5 DK.length q5 DK ∧ (∀ a, A3 = some a → v.ownBlock ≠ some a.block ∧ a.block < wr.heap.size) ∧ (∀ a, A5 = some a → v.ownBlock ≠ some a.block ∧ a.block < wr.heap.size)) (fun _ _ q _ => DK.length - (intOf q).toNat)
        case atStart => exact ⟨0, Nat.zero_le _, rfl, O4b, L4i, S34i, S5, HAP3.out, HAP5.out⟩
        case round =>
          obtain ⟨r, hr, rfl, O4, L4, S34, S54, hp3, hp5⟩ := hrel
          have HP3 := Lib.hid hp3
          have HP5 := Lib.hid hp5
          have hl4 := L4.size
          have htl : (TB ++ (DK.take r).map (fun n => E.getD n.toNat 0)).length ≤ 600 + r := by rw [List.length_append, List.length_map, List.length_take]; omega
          clear O4b hp3 hp5 S34i S5 HAP3 HAP5
          by_cases hlr : r < DK.length
          · obtain ⟨y, hy, hyl⟩ := HKL.out DK[r] (List.getElem_mem hlr)
            have hyE : y < E.length := by omega
            obtain ⟨b5, off5, rfl, hb5, c5, -⟩ := S54.int_at hlr
            obtain ⟨b6, off6, rfl, hb6, c6, -⟩ := S34.int_at (k := y) (by rw [nI_len]; exact hyE)
            rw [nI_at hyE] at c6
            have HT : Hid (TB ++ (DK.take (r + 1)).map (fun n => E.getD n.toNat 0) = (TB ++ (DK.take r).map (fun n => E.getD n.toNat 0)) ++ [E[y]]) := by
              show _ = _
              rw [List.take_succ_eq_append_getElem hlr, List.map_append, List.append_assoc, List.map_singleton, hy, Int.toNat_natCast, List.getD_eq_getElem?_getD, List.getElem?_eq_getElem hyE, Option.getD_some]
            rw [hy] at c5
            have hz := HEL.out E[y] (List.getElem_mem hyE)
            clear hy
            generalize E[y] = z at *
            generalize TB ++ (DK.take r).map (fun n => E.getD n.toNat 0) = G at *
            have hokz : Enc.ok (z : Int) := ⟨by omega, by omega⟩
            have hr0 : (0 : Int) ≤ (r : Int) := by omega
            have hrn : (r : Int) < (DK.length : Int) := by omega
            have hy0 : (0 : Int) ≤ (y : Int) := by omega
            have hyn : (y : Int) < (E.length : Int) := by omega
            go_wp2_with (at_builtin; refine wpList_append_sl rfl _ _ 31 rfl W.heap.size 3 i0 _ 8 Try.underlying31 hq hz0 hz1 hz2 rfl _ G.length (nI G) rfl (O4.alloc _) _ 1 1 [(z : Int)] rfl (sl_one (z : Int) rfl hokz rfl) (by unfold maxLen; omega) (by omega) (L4.alloc _).size ?_; intro v5 w5 O5 hg5 hat5; have L5 := (L4.alloc _).grown hg5 (fun k hk => (O4.lt k hk).1); have S35 := (S34.alloc (.cells #[.int .i64 (z : Int)] 3)).grown hg5 (fun _ a e h => (HP3.out a e).1 h.symm); have S55 := (S54.alloc (.cells #[.int .i64 (z : Int)] 3)).grown hg5 (fun _ a e h => (HP5.out a e).1 h.symm); have hsz5 := hg5.size; rw [size_al1] at hsz5 hat5; clear hg5)
            go_roundw
            case rel => exact ⟨r + 1, by omega, by go_num, by rw [HT.out, nI_snoc, List.length_append]; exact O5, L5, S35, S55, fun a e => ⟨apart_nw (HP3.out a e) hat5, by have := (HP3.out a e).2; omega⟩, fun a e => ⟨apart_nw (HP5.out a e) hat5, by have := (HP5.out a e).2; omega⟩⟩
            case measure => simp [intOf]; omega
          · obtain rfl : r = DK.length := by omega
            have HO : Hid (∀ v, wr.ownsRow W.heap.size 3 1 v (TB ++ (DK.take DK.length).map (fun n => E.getD n.toNat 0)).length ((nI (TB ++ (DK.take DK.length).map (fun n => E.getD n.toNat 0))).flatMap Enc.cells) → wr.ownsRow W.heap.size 3 1 v (deD xs p (k + 1)).length ((nI (deD xs p (k + 1))).flatMap Enc.cells)) := fun v hv => by
              rw [HN.out, ← HDA.out]
              rwa [List.take_length] at hv
            go_wp2
            go_roundw
            case rel => exact ⟨k + 1, by omega, by go_num, HO.out _ O4, L4⟩
            case measure => simp [intOf]; omega
      · have h7b : (vk != 7) = true := by simpa using h7
        have HN : Hid (deD xs p (k + 1) = TB) := by show _ = _; rw [HST.out, HAT.out, if_neg (by rw [HK.out]; exact h7), List.append_nil]
        clear HST HAT
        go_wp2
        go_roundw
        case rel => exact ⟨k + 1, by omega, by go_num, by rw [HN.out]; exact O1.alloc _, L.alloc _⟩
        case measure => simp [intOf]; omega
    · obtain rfl : k = p.length := by omega
      have HF : Hid (∀ v, wr.ownsRow W.heap.size 3 1 v (deD xs p p.length).length ((nI (deD xs p p.length)).flatMap Enc.cells) → Owd 3 w wr v (nI (deD xs p p.length))) := fun v hv => ⟨by rw [nI_len]; exact own_mono hv L0.size, nI_ok HLT.out (by omega)⟩
      go_wp2
      go_ret
      exact ⟨_, rfl, HF.out _ O1, L0.trans L⟩
end

section
theorem nI_contains2 (L : List Nat) (x : Nat) : (nI L).contains (x : Int) = L.contains x := by
  rw [Bool.eq_iff_iff, List.contains_iff_mem, List.contains_iff_mem]
  unfold nI
  rw [List.mem_map]
  exact ⟨fun ⟨y, hy, e⟩ => by rw [← Int.ofNat.inj e]; exact hy, fun h => ⟨x, h, rfl⟩⟩
end

section
theorem ex_drop2 {p : List Lin} {C : List Nat} {k : Nat} (h : k < C.length) : exF p (C.drop k) = if knd p C[k] = 8 then C[k] :: exF p (C.drop (k + 1)) else exF p (C.drop (k + 1)) := by
  rw [List.drop_eq_getElem_cons h]
  unfold exF
  rw [List.filter_cons]
  by_cases e : knd p C[k] = 8
  · rw [if_pos e, if_pos (by simpa using e)]
  · rw [if_neg e, if_neg (by simpa using e)]
theorem exc_class {xs : List Cls} {p : List Lin} (g : GoodP xs p) {x : Nat} (hl : x < p.length) (h8 : knd p x = 8) : hasK xs (lnA p x) = true := by
  have hn := (g.line x hl).1
  rw [lnA_at hl]
  rw [knd_at hl] at h8
  unfold numS at hn
  rw [h8] at hn
  simp at hn
  exact hn.1
theorem deA_cons (xs : List Cls) (p : List Lin) (acc : List Int) (x : Nat) (r : List Nat) : deA xs p acc (x :: r) = (if 0 ≤ firstC xs acc (lnA p x) 0 then [x] else []) ++ deA xs p (acc ++ [lnA p x]) r := rfl
theorem hasI_nI : ∀ (L : List Nat) (x : Nat), hasI (nI L) (x : Int) = L.contains x
  | [], x => rfl
  | y :: r, x => by
    show (((y : Int) == (x : Int)) || hasI (nI r) (x : Int)) = (y :: r).contains x
    rw [hasI_nI r x, List.contains_cons]
    congr 1
    rw [Bool.eq_iff_iff, beq_iff_eq, beq_iff_eq]
    omega
end
end
end
end Go.Proofs.Ytgclmefppeedeaa
