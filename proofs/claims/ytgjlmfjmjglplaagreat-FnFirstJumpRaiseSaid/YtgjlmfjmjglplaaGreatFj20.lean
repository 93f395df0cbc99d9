/- one text of DdA -/
import Derived.Test.YtgjlmfjmjglplaaGreatFj18
import Derived.Test.YtgjlmfjmjglplaaGreatFj2
import Derived.Test.YtgjlmfjmjglplaaGreatFj17
import Derived.Test.YtgjlmfjmjglplaaGreatFj3
import Derived.Test.YtgjlmfjmjglplaaGreatFj19
import Derived.Test.YtgjlmfjmjglplaaGreatFj13
namespace Go.Proofs.YtgjlmfjmjglplaaGreat
open Go.RowKit
set_option linter.unusedVariables false
section
section
def firstC (xs : List Cls) : List Int → Int → Int → Int
  | [], _, _ => -1
  | b :: r, a, k => if isAL xs a b then k else firstC xs r a (k + 1)
theorem firstC_at {xs : List Cls} {L : List Int} {k : Nat} (h : k < L.length) (a j : Int) : firstC xs (L.drop k) a j = if isAL xs a L[k] then j else firstC xs (L.drop (k + 1)) a (j + 1) := by
  rw [List.drop_eq_getElem_cons h]; rfl
theorem firstC_end {xs : List Cls} {L : List Int} {k : Nat} (h : ¬ k < L.length) (a j : Int) : firstC xs (L.drop k) a j = -1 := by
  rw [List.drop_eq_nil_of_le (by omega)]; rfl
theorem firstC_range (xs : List Cls) (a : Int) : ∀ (L : List Int) (j : Int), 0 ≤ j → firstC xs L a j = -1 ∨ (j ≤ firstC xs L a j ∧ firstC xs L a j < j + L.length)
  | [], _, _ => .inl rfl
  | b :: r, j, hj => by
    unfold firstC
    split
    · right; simp; omega
    · rcases firstC_range xs a r (j + 1) (by omega) with h | ⟨h1, h2⟩
      · exact .inl h
      · right; simp; omega
def goodL (xs : List Cls) : List Int → Bool
  | [] => true
  | b :: r => hasK xs b && goodL xs r
def goodC (xs : List Cls) (L : List Int) : Bool := okTree xs && goodL xs L && decide (L.length ≤ 6)
theorem goodL_at {xs : List Cls} {L : List Int} {k : Nat} (h : k < L.length) : goodL xs (L.drop k) = (hasK xs L[k] && goodL xs (L.drop (k + 1))) := by
  rw [List.drop_eq_getElem_cons h]; rfl
theorem goodL_end {xs : List Cls} {L : List Int} {k : Nat} (h : ¬ k < L.length) : goodL xs (L.drop k) = true := by
  rw [List.drop_eq_nil_of_le (by omega)]; rfl
theorem goodL_mem {xs : List Cls} : ∀ {L : List Int}, goodL xs L = true → ∀ b ∈ L, hasK xs b = true
  | [], _, _, h => nomatch h
  | c :: r, h, b, hb => by
    rw [goodL, Bool.and_eq_true] at h
    rcases List.mem_cons.1 hb with rfl | hb
    · exact h.1
    · exact goodL_mem h.2 b hb
theorem goodL_mk {xs : List Cls} : ∀ {L : List Int}, (∀ b ∈ L, hasK xs b = true) → goodL xs L = true
  | [], _ => rfl
  | c :: r, h => by rw [goodL, h c (by simp), goodL_mk (fun b hb => h b (by simp [hb]))]; rfl
theorem goodL_no {xs : List Cls} {L : List Int} {b : Int} (hb : b ∈ L) (h : hasK xs b = false) : goodL xs L = false := by
  cases hg : goodL xs L
  · rfl
  · rw [goodL_mem hg b hb] at h; cases h
structure GoodC (xs : List Cls) (L : List Int) : Prop where
  tree : Good xs
  mem : ∀ b ∈ L, 0 ≤ b ∧ b < xs.length
  few : L.length ≤ 6
theorem goodC_of {xs : List Cls} {L : List Int} (h : goodC xs L = true) : GoodC xs L := by
  unfold goodC at h
  simp only [Bool.and_eq_true, decide_eq_true_eq] at h
  exact ⟨good_of h.1.1, fun b hb => hasK_iff.1 (goodL_mem h.1.2 b hb), h.2⟩
def firstX (xs : List Cls) (L : List Int) (a : Int) : Int := cond (goodC xs L && hasK xs a) (firstC xs L a 0) (-2)
theorem firstX_of {xs : List Cls} {L : List Int} {a : Int} {t : Bool} (h : (goodC xs L && hasK xs a) = t) : firstX xs L a = cond t (firstC xs L a 0) (-2) := by unfold firstX; rw [h]
end

section
end

section
end

section
def deadK (xs : List Cls) (L : List Int) : Nat → List Int
  | 0 => []
  | k + 1 => deadK xs L k ++ (if 0 ≤ firstC xs (L.take k) (L.getD k 0) 0 then [(k : Int)] else [])
theorem deadK_len (xs : List Cls) (L : List Int) : ∀ k, (deadK xs L k).length ≤ k
  | 0 => Nat.le_refl _
  | k + 1 => by
    have := deadK_len xs L k
    unfold deadK
    split <;> simp <;> omega
theorem deadK_ok (xs : List Cls) (L : List Int) : ∀ k, k ≤ 8 → ∀ x ∈ deadK xs L k, Enc.ok x
  | 0, _, x, h => nomatch h
  | k + 1, hk, x, h => by
    unfold deadK at h
    rcases List.mem_append.1 h with h | h
    · exact deadK_ok xs L k (by omega) x h
    · split at h
      · simp at h; subst h; exact ⟨by omega, by omega⟩
      · cases h
theorem deadK_yes {xs : List Cls} {L : List Int} {k : Nat} (hk : k < L.length) (h : 0 ≤ firstC xs (L.take k) L[k] 0) : deadK xs L (k + 1) = deadK xs L k ++ [(k : Int)] := by
  rw [deadK, List.getD_eq_getElem?_getD, List.getElem?_eq_getElem hk, Option.getD_some, if_pos h]
theorem deadK_no {xs : List Cls} {L : List Int} {k : Nat} (hk : k < L.length) (h : ¬ 0 ≤ firstC xs (L.take k) L[k] 0) : deadK xs L (k + 1) = deadK xs L k := by
  rw [deadK, List.getD_eq_getElem?_getD, List.getElem?_eq_getElem hk, Option.getD_some, if_neg h, List.append_nil]
def deadX (xs : List Cls) (L : List Int) : List Int := cond (goodC xs L) (deadK xs L L.length) []
theorem deadX_of {xs : List Cls} {L : List Int} {t : Bool} (h : goodC xs L = t) : deadX xs L = cond t (deadK xs L L.length) [] := by unfold deadX; rw [h]
theorem deadX_len (xs : List Cls) (L : List Int) : (deadX xs L).length ≤ 1048576 := by
  cases h : goodC xs L
  · rw [deadX_of h]; simp
  · have := (goodC_of h).few
    have h2 := deadK_len xs L L.length
    rw [deadX_of h]; show (deadK xs L L.length).length ≤ _; omega

end

section
section
/-- the node of a class -/
def pbAt (gs : List PB) (b : Int) : PB := gs.getD b.toNat ⟨0⟩
theorem pbAt_at {gs : List PB} {i : Nat} (h : i < gs.length) : pbAt gs (i : Int) = gs[i] := by
  unfold pbAt; rw [Int.toNat_natCast, List.getD_eq_getElem?_getD, List.getElem?_eq_getElem h]; rfl
theorem ptrOf_pb {gs : List PB} {b : Int} (h0 : 0 ≤ b) (h1 : b < gs.length) : ptrOf gs b = some ⟨(pbAt gs b).g, 0, none⟩ := by
  obtain ⟨i, rfl⟩ := Int.eq_ofNat_of_zero_le h0
  rw [ptrOf_at (by omega), pbAt_at (by omega)]

set_option maxRecDepth 100000 in
theorem closureF_any (gs : List PB) (xs : List Cls) (g : Good xs) (b : Int) (h0 : 0 ≤ b) (h1 : b < xs.length) (a : Int) (ha : a < xs.length) (ha0 : -1 ≤ a) (p : Nat) (w : World) (hN : Nds w gs xs)
    (cp : w.cell? ⟨p, 0, none⟩ = some (.pointer (ptrOf gs a))) :
    Calls Tryz.prog 91 #[.pointer (some ⟨(pbAt gs b).g, 0, none⟩), .pointer (some ⟨p, 0, none⟩)] w fun e w' => e = .returned (.bool (isAL xs a b)) ∧ w = w' := by
  obtain ⟨i, rfl⟩ := Int.eq_ofNat_of_zero_le h0
  have hi : i < gs.length := by have := hN.len; omega
  rw [pbAt_at hi]
  have hc := Lib.hid (catches_any gs xs g i hi a ha ha0 w hN)
  go_enter Tryz.func91, Tryz.ntmps91
  go_wp2_with fail
  refine hc.out.mono ?_
  rintro e w' ⟨rfl, rfl⟩
  go_wp2
  go_ret
  exact ⟨rfl, rfl⟩

theorem indexFuncH_any (A : Option Addr) (m cap : Nat) (gs : List PB) (xs : List Cls) (L : List Int) (g : Good xs) (hm : ∀ b ∈ L, 0 ≤ b ∧ b < xs.length) (a : Int) (ha : a < xs.length) (ha0 : -1 ≤ a) (p : Nat) (w : World) (hN : Nds w gs xs)
    (hS : Sl w A m cap (L.map (pbAt gs))) (cp : w.cell? ⟨p, 0, none⟩ = some (.pointer (ptrOf gs a))) :
    Calls Tryz.prog 90 #[.slice A m cap, .func (.func 91) #[] #[.pointer (some ⟨p, 0, none⟩)]] w fun e w' => e = .returned (.int .i64 (firstC xs L a 0)) ∧ w = w' := by
  have hl := hS.len
  have hlm : L.length = m := by rw [← hl]; simp
  have hmx := hS.n_le
  obtain rfl := hlm
  clear hl
  have HN := Lib.hid hN; clear hN
  go_enter Tryz.func90, Tryz.ntmps90
  go_wp2
  go_loop [8] (fun i => ∃ k : Nat, k ≤ L.length ∧ i = .int .i64 k ∧ firstC xs L a 0 = firstC xs (L.drop k) a k) (fun i => L.length - (intOf i).toNat)
  case atStart => exact ⟨0, Nat.zero_le _, rfl, rfl⟩
  case round =>
    obtain ⟨k, hk, rfl, hr⟩ := hrel
    have HR := Lib.hid hr; clear hr
    by_cases hlt : k < L.length
    · have hlt' : k < (L.map (pbAt gs)).length := by simpa using hlt
      obtain ⟨b, off, rfl, _, hcell⟩ := hS.pb_at hlt'
      rw [List.getElem_map] at hcell
      have hmem := hm L[k] (List.getElem_mem hlt)
      have HC := Lib.hid (closureF_any gs xs g L[k] hmem.1 hmem.2 a ha ha0 p w HN.out cp)
      have hat := firstC_at (xs := xs) hlt a k
      cases hi1 : isAL xs a L[k]
      · have HF : Hid (firstC xs L a 0 = firstC xs (L.drop (k + 1)) a ((k + 1 : Nat) : Int)) := by show _ = _; rw [HR.out, hat, hi1]; rfl
        clear hat
        go_wp2_with fail
        refine HC.out.mono ?_
        rintro e w' ⟨rfl, rfl⟩
        rw [hi1]
        go_wp2
        go_round
        case rel => exact ⟨k + 1, by omega, by go_num, HF.out⟩
        case measure => simp [intOf]; omega
      · have HF : Hid (firstC xs L a 0 = k) := by show _ = _; rw [HR.out, hat, hi1]; rfl
        clear hat
        go_wp2_with fail
        refine HC.out.mono ?_
        rintro e w' ⟨rfl, rfl⟩
        rw [hi1]
        go_wp2
        go_ret
        exact ⟨ret_int HF.out.symm, rfl⟩
    · have HF : Hid (firstC xs L a 0 = -1) := by show _ = _; rw [HR.out, firstC_end hlt]
      go_wp2
      go_ret
      exact ⟨ret_int HF.out.symm, rfl⟩

theorem first_any (A : Option Addr) (m cap : Nat) (gs : List PB) (xs : List Cls) (L : List Int) (g : Good xs) (hm : ∀ b ∈ L, 0 ≤ b ∧ b < xs.length) (a : Int) (ha : a < xs.length) (ha0 : -1 ≤ a) (w : World) (hN : Nds w gs xs)
    (hS : Sl w A m cap (L.map (pbAt gs))) :
    Calls Tryz.prog 73 #[.slice A m cap, .pointer (ptrOf gs a)] w fun e w' => e = .returned (.int .i64 (firstC xs L a 0)) ∧ Le w w' := by
  go_enter Tryz.func73, Tryz.ntmps73
  go_wp2_with fail
  refine (indexFuncH_any A m cap gs xs L g hm a ha ha0 _ _ (hN.le (Le.new w _)) (hS.alloc _) (by simp)).mono ?_
  rintro e w' ⟨rfl, rfl⟩
  go_wp2
  go_ret
  exact ⟨rfl, Le.new w _⟩
end

section
def HandOut (xs : List Cls) (L : List Int) (gs : List PB) (w : World) (e : Ending) (w' : World) : Prop :=
  Le w w' ∧ ((goodC xs L = false ∧ e = .returned (.tuple #[.slice none 0 0, .bool false])) ∨ (goodC xs L = true ∧ ∃ H c, e = .returned (.tuple #[.slice H L.length c, .bool true]) ∧ Sl w' H L.length c (L.map (pbAt gs))))
theorem goodC_no {xs : List Cls} {L : List Int} (h : okTree xs = false ∨ 6 < L.length ∨ goodL xs L = false) : goodC xs L = false := by
  unfold goodC
  rcases h with h | h | h
  · rw [h]; rfl
  · rw [decide_eq_false (p := L.length ≤ 6) (by omega), Bool.and_false]
  · rw [h, Bool.and_false]; rfl
theorem goodC_yes {xs : List Cls} {L : List Int} (h : okTree xs = true) (h2 : L.length ≤ 6) (h3 : goodL xs L = true) : goodC xs L = true := by
  unfold goodC; rw [h, h3, decide_eq_true h2]; rfl

set_option maxHeartbeats 1000000 in
set_option maxRecDepth 100000 in
theorem handlersOf_any (A B : Option Addr) (n m c : Nat) (gs : List PB) (xs : List Cls) (L : List Int) (w : World) (hS : Sl w A n n gs)
    (hcase : (okTree xs = false ∧ n = 0 ∧ gs = []) ∨ (okTree xs = true ∧ n = xs.length ∧ Nds w gs xs)) (hL : Sl w B m c L) :
    Calls Tryz.prog 71 #[.slice A n n, .slice B m c] w (HandOut xs L gs w) := by
  obtain rfl := hL.len
  have hmx := hL.n_le
  have hnx := hS.n_le
  rcases hcase with ⟨h0, rfl, rfl⟩ | ⟨h0, rfl, hN⟩
  · have HF := Lib.hid (goodC_no (L := L) (.inl h0))
    clear h0
    go_enter Tryz.func71, Tryz.ntmps71
    go_wp2
    go_ret2
    exact ⟨Le.refl w, .inl ⟨HF.out, rfl⟩⟩
  · have g := good_of h0
    have hlo := g.lo
    have hn0 : ((xs.length : Int) == 0) = false := by rw [beq_eq_false_iff_ne]; omega
    by_cases h6 : 6 < L.length
    · have HF := Lib.hid (goodC_no (xs := xs) (L := L) (.inr (.inl h6)))
      have h6' : 6 < (L.length : Int) := by omega
      go_enter Tryz.func71, Tryz.ntmps71
      go_wp2
      go_ret2
      exact ⟨Le.refl w, .inl ⟨HF.out, rfl⟩⟩
    · have h6' : ¬ 6 < (L.length : Int) := by omega
      obtain ⟨i0, hi, hz0, hz1, hz2⟩ := info_parts pnInfo
      have hb2 : i0.bytes * L.length ≤ 281474976710656 := by rw [hz2]; omega
      have H0 := Lib.hid h0; clear h0
      have HL := Lib.hid hN.len
      go_enter Tryz.func71, Tryz.ntmps71
      go_wp2_with (refine wpList_make_full _ rfl _ _ 104 rfl w.heap.size 107 i0 _ 1 Tryz.underlying104 hi hz0 hz1 .i64 .i64 _ _ L.length rfl rfl rfl rfl hb2 (by unfold maxLen; omega) (Nat.le_refl _) ?_; intro w1 hown1 hg1)
      have hle1 : Le w w1 := (Le.refl w).grown hg1 (by intro k hk; cases hk)
      clear hg1
      go_loopw [22] (fun i wr => ∃ k : Nat, ∃ r : List Value, k ≤ L.length ∧ i = .int .i64 k ∧ r.length = L.length - k ∧ wr.ownsRow w.heap.size 107 1 (.slice (some ⟨w.heap.size, 0, none⟩) L.length L.length) L.length (((L.take k).map (pbAt gs)).flatMap Enc.cells ++ r) ∧
        goodL xs L = goodL xs (L.drop k) ∧ Le w wr) (fun i _ => L.length - (intOf i).toNat)
      case atStart => exact ⟨0, _, Nat.zero_le _, rfl, by simp [madeCells], hown1, rfl, hle1⟩
      case round =>
        obtain ⟨k, r, hk, rfl, hr, hown, hgl, hle⟩ := hrel
        have HG := Lib.hid hgl; clear hgl
        have S1 := hS.le hle
        have S2 := hL.le hle
        clear hown1 hle1
        by_cases hlt : k < L.length
        · obtain ⟨b, off, rfl, hb, hcell, _, _⟩ := S2.int_at hlt
          match r, hr with
          | [], h => simp at h; omega
          | r0 :: rr, hr =>
          have hfl : (((L.take k).map (pbAt gs)).flatMap (Enc.cells (α := PB))).length = k := by rw [flat_len, List.length_map, List.length_take]; show _ * 1 = _; omega
          have hc0 : wr.cell? ⟨w.heap.size, k, none⟩ = some r0 := by rw [hown.cellAt _ (by omega), List.getElem?_append_right (by omega), hfl]; simp
          have hf0 := hown.frozenAt k
          have HFL := Lib.hid hfl; clear hfl
          have HF : Hid (goodL xs L = (hasK xs L[k] && goodL xs (L.drop (k + 1)))) := by show _ = _; rw [HG.out, goodL_at hlt]
          go_wp2_with fail
          refine (nodeAt_any _ _ _ gs L[k] _ S1).mono ?_
          rintro e w3 ⟨rfl, rfl⟩
          rcases ptr_cases HL.out L[k] with ⟨h2, h3⟩ | ⟨h2, j, hj, hje, h3⟩
          · rw [h3]
            have HN : Hid (goodC xs L = false) := goodC_no (.inr (.inr (by rw [HF.out, h2]; rfl)))
            clear h3 h2
            go_wp2
            go_ret2
            exact ⟨hle.setCell (Nat.le_refl _) _, .inl ⟨HN.out, rfl⟩⟩
          · rw [h3]
            have hpb : pbAt gs L[k] = gs[j] := by rw [hje, pbAt_at hj]
            have HPB := Lib.hid hpb; clear hpb
            have H2 := Lib.hid h2
            clear h3 hje h2
            go_wp2
            go_roundw
            case rel =>
              refine ⟨k + 1, rr, by omega, by go_num, by simp at hr; omega, ?_, by rw [HF.out, H2.out]; rfl, hle.setCell (Nat.le_refl _) _⟩
              have h1 := (hown.stored k (.pointer (some ⟨gs[j].g, 0, none⟩))).1
              have e : ((L.take (k + 1)).map (pbAt gs)).flatMap Enc.cells ++ rr = ((((L.take k).map (pbAt gs)).flatMap Enc.cells ++ r0 :: rr).set k (.pointer (some ⟨gs[j].g, 0, none⟩))) := by
                rw [List.set_append_right _ _ (by have := HFL.out; omega), HFL.out, List.take_succ_eq_append_getElem hlt, List.map_append, List.flatMap_append]
                simp [Enc.cells, HPB.out]
              rw [e]; exact h1
            case measure => simp [intOf]; omega
        · have hk' : k = L.length := by omega
          have hr0 : r = [] := List.eq_nil_of_length_eq_zero (by omega)
          have HF : Hid (HandOut xs L gs w (.returned (.tuple #[.slice (some ⟨w.heap.size, 0, none⟩) L.length L.length, .bool true])) wr) := by
            refine ⟨hle, .inr ⟨goodC_yes H0.out (by omega) (by rw [HG.out, goodL_end hlt]), _, _, rfl, ?_⟩⟩
            rw [hr0, List.append_nil, hk', List.take_length] at hown
            exact Sl.of_own hown rfl (by decide) (fun _ _ => trivial)
          clear hk' hr0 hr hown
          go_wp2
          go_ret2
          exact HF.out
end

section
theorem iFirstCatch_any (A B : Option Addr) (n cap m c : Nat) (xs : List Cls) (L : List Int) (a : Int) (w : World) (hR : Sl w A n cap xs) (hL : Sl w B m c L) :
    Calls Tryz.prog 42 #[.agg #[.slice A n cap], .slice B m c, .int .i64 a] w fun e w' => e = .returned (.int .i64 (firstX xs L a)) ∧ Le w w' := by
  have L0 := Le.new w (.cells #[.slice A n cap] 25)
  go_enter Tryz.func42, Tryz.ntmps42
  go_wp2_with fail
  refine (nodesOf_any A n cap xs _ (hR.alloc _)).mono ?_
  intro e w2 hout
  obtain ⟨hle, A2, n2, gs, rfl, S2, hcase⟩ := nodes_one hout
  replace L0 := L0.trans hle
  clear hout hle
  have S3 := hL.le L0
  go_wp2_with fail
  refine (handlersOf_any A2 B n2 m c gs xs L _ S2 hcase S3).mono ?_
  rintro e w3 ⟨hle, hcs⟩
  have S4 := S2.le hle
  replace L0 := L0.trans hle
  rcases hcs with ⟨h1, rfl⟩ | ⟨h1, H, ch, rfl, S5⟩
  · have HF := Lib.hid (firstX_of (xs := xs) (L := L) (a := a) (t := false) (by rw [h1]; rfl))
    clear hcase h1
    go_wp2_with fail
    refine (nodeAt_any _ _ _ gs a _ S4).mono ?_
    rintro e w3 ⟨rfl, rfl⟩
    go_wp2
    go_ret
    exact ⟨ret_int HF.out.symm, L0⟩
  · have gc := goodC_of h1
    have ho : okTree xs = true := by unfold goodC at h1; simp at h1; exact h1.1.1
    rcases hcase with ⟨h0, _⟩ | ⟨_, rfl, hN⟩
    · rw [ho] at h0; cases h0
    · replace hN := hN.le hle
      clear ho
      go_wp2_with fail
      refine (nodeAt_any _ _ _ gs a _ S4).mono ?_
      rintro e w3 ⟨rfl, rfl⟩
      rcases ptr_cases hN.len a with ⟨h2, h3⟩ | ⟨h2, j, hj, rfl, h3⟩
      · have HF := Lib.hid (firstX_of (xs := xs) (L := L) (a := a) (t := false) (by rw [h1, h2]; rfl))
        rw [h3]
        clear h1 h2 h3
        go_wp2
        go_ret
        exact ⟨ret_int HF.out.symm, L0⟩
      · have HF := Lib.hid (firstX_of (xs := xs) (L := L) (a := j) (t := true) (by rw [h1, h2]; rfl))
        have hc := Lib.hid (first_any H L.length ch gs xs L gc.tree gc.mem j (by have := hN.len; omega) (by omega) _ hN S5)
        rw [h3] at hc ⊢
        clear h1 h2 h3
        go_wp2_with fail
        refine hc.out.mono ?_
        rintro e w4 ⟨rfl, hle4⟩
        go_wp2
        go_ret
        exact ⟨ret_int HF.out.symm, L0.trans hle4⟩
end
end

section
theorem hand_tree {xs : List Cls} {L : List Int} (h : goodC xs L = true) : okTree xs = true := by unfold goodC at h; simp at h; exact h.1.1
end

section
section
/-- of some lines those whose class is caught ahead -/
def deA (xs : List Cls) (p : List Lin) : List Int → List Nat → List Nat
  | _, [] => []
  | acc, x :: r => (if 0 ≤ firstC xs acc (lnA p x) 0 then [x] else []) ++ deA xs p (acc ++ [lnA p x]) r
/-- the lines of a try that never catch -/
def deAt (xs : List Cls) (p : List Lin) (i : Nat) : List Nat := if knd p i = 7 then deA xs p [] (exL p i) else []
def deD (xs : List Cls) (p : List Lin) : Nat → List Nat
  | 0 => []
  | k + 1 => deD xs p k ++ deAt xs p k
theorem deA_len (xs : List Cls) (p : List Lin) : ∀ (E : List Nat) acc, (deA xs p acc E).length ≤ E.length
  | [], _ => Nat.le_refl _
  | x :: r, acc => by
    unfold deA
    have := deA_len xs p r (acc ++ [lnA p x])
    rw [List.length_append]
    split <;> simp <;> omega
theorem deA_mem (xs : List Cls) (p : List Lin) : ∀ (E : List Nat) acc, ∀ x ∈ deA xs p acc E, x ∈ E
  | [], _, x, h => nomatch h
  | y :: r, acc, x, h => by
    unfold deA at h
    rcases List.mem_append.1 h with h | h
    · split at h
      · rw [List.mem_singleton.1 h]; exact List.mem_cons_self ..
      · cases h
    · exact List.mem_cons_of_mem _ (deA_mem xs p r _ x h)
theorem deAt_len (xs : List Cls) (p : List Lin) (i : Nat) : (deAt xs p i).length ≤ p.length + 1 := by
  unfold deAt
  split
  · exact Nat.le_trans (deA_len _ _ _ _) (Nat.le_trans (exF_len _ _) (parts_len p i))
  · simp
theorem deD_len (xs : List Cls) (p : List Lin) : ∀ k, (deD xs p k).length ≤ k * (p.length + 1)
  | 0 => by simp [deD]
  | k + 1 => by
    unfold deD
    rw [List.length_append, Nat.succ_mul]
    have := deD_len xs p k
    have := deAt_len xs p k
    omega
theorem deD_bound {xs : List Cls} {p : List Lin} (hp : p.length ≤ 24) (k : Nat) (hk : k ≤ 24) : (deD xs p k).length ≤ 600 := by
  have h2 := deD_len xs p k
  have h3 : k * (p.length + 1) ≤ 24 * 25 := Nat.mul_le_mul hk (by omega)
  omega
theorem deD_lt {xs : List Cls} {p : List Lin} : ∀ k, k ≤ p.length → ∀ x ∈ deD xs p k, x < p.length
  | 0, _, x, h => nomatch h
  | k + 1, hk, x, h => by
    unfold deD at h
    rcases List.mem_append.1 h with h | h
    · exact deD_lt k (by omega) x h
    · unfold deAt at h
      split at h
      · exact parts_lt (by omega) x (List.mem_filter.1 (deA_mem _ _ _ _ x h)).1
      · cases h
/-- the places of dead catches give the dead lines -/
theorem dead_places (xs : List Cls) (p : List Lin) (E : List Nat) : ∀ k, k ≤ E.length → (deadK xs (E.map (lnA p)) k).map (fun n => E.getD n.toNat 0) ++ deA xs p ((E.map (lnA p)).take k) (E.drop k) = deA xs p [] E
  | 0, _ => by simp [deadK]
  | k + 1, hk => by
    have ih := dead_places xs p E k (by omega)
    have hkl : k < (E.map (lnA p)).length := by simp; omega
    rw [List.drop_eq_getElem_cons (show k < E.length by omega)] at ih
    rw [← ih, List.take_succ_eq_append_getElem hkl]
    have e1 : (E.map (lnA p))[k] = lnA p E[k] := by simp
    show _ = _ ++ ((if 0 ≤ firstC xs ((E.map (lnA p)).take k) (lnA p E[k]) 0 then [E[k]] else []) ++ deA xs p ((E.map (lnA p)).take k ++ [lnA p E[k]]) (E.drop (k + 1)))
    rw [e1]
    by_cases h : 0 ≤ firstC xs ((E.map (lnA p)).take k) (lnA p E[k]) 0
    · rw [deadK_yes hkl (by rw [e1]; exact h), if_pos h, List.map_append, List.append_assoc]
      congr 2
      simp [List.getD_eq_getElem?_getD, show k < E.length by omega]
    · rw [deadK_no hkl (by rw [e1]; exact h), if_neg h]; rfl
theorem dead_all (xs : List Cls) (p : List Lin) (E : List Nat) : (deadK xs (E.map (lnA p)) (E.map (lnA p)).length).map (fun n => E.getD n.toNat 0) = deA xs p [] E := by
  have h := dead_places xs p E E.length (Nat.le_refl _)
  rw [List.drop_length] at h
  rw [List.length_map, ← h]
  unfold deA
  rw [List.append_nil]
theorem deadK_lt (xs : List Cls) (L : List Int) : ∀ k, ∀ x ∈ deadK xs L k, ∃ n : Nat, x = n ∧ n < k
  | 0, x, h => nomatch h
  | k + 1, x, h => by
    unfold deadK at h
    rcases List.mem_append.1 h with h | h
    · obtain ⟨n, h3, h4⟩ := deadK_lt xs L k x h
      exact ⟨n, h3, by omega⟩
    · split at h
      · exact ⟨k, List.mem_singleton.1 h, by omega⟩
      · cases h
/-- a program without some lines and their blocks -/
def drG (p : List Lin) (D : List Nat) : Nat → Nat → List Lin
  | 0, _ => []
  | m + 1, i => match p[i]? with
    | some x => if D.contains i = true then drG p D m (bEnd p i) else x :: drG p D m (i + 1)
    | none => []
theorem drG_step {p : List Lin} {D : List Nat} {m i : Nat} (hi : i < p.length) : drG p D (m + 1) i = if D.contains i = true then drG p D m (bEnd p i) else p[i] :: drG p D m (i + 1) := by
  show (match p[i]? with | some x => _ | none => _) = _
  rw [List.getElem?_eq_getElem hi]
theorem drG_stop {p : List Lin} {D : List Nat} {m i : Nat} (hi : ¬ i < p.length) : drG p D m i = [] := by
  cases m with
  | zero => rfl
  | succ m =>
    show (match p[i]? with | some x => _ | none => _) = _
    rw [List.getElem?_eq_none (by omega)]
theorem drG_len (p : List Lin) (D : List Nat) : ∀ m i, (drG p D m i).length ≤ m
  | 0, _ => Nat.le_refl _
  | m + 1, i => by
    unfold drG
    split
    · split
      · have := drG_len p D m (bEnd p i); omega
      · have := drG_len p D m (i + 1); simp; omega
    · simp
theorem drG_ok {p : List Lin} {D : List Nat} (h : ∀ x ∈ p, Enc.ok x) : ∀ m i, ∀ x ∈ drG p D m i, Enc.ok x
  | 0, _, x, hx => nomatch hx
  | m + 1, i, x, hx => by
    unfold drG at hx
    split at hx
    · rename_i y hy
      split at hx
      · exact drG_ok h m _ x hx
      · rcases List.mem_cons.1 hx with rfl | hx
        · exact h _ (List.mem_of_getElem? hy)
        · exact drG_ok h m _ x hx
    · cases hx
def drL (xs : List Cls) (p : List Lin) : List Lin := drG p (deD xs p p.length) p.length 0
def ddX (xs : List Cls) (p : List Lin) : List Lin := cond (vp xs p) (drL xs p) []
theorem ddX_len (xs : List Cls) (p : List Lin) : (ddX xs p).length ≤ 1048576 := by
  unfold ddX
  cases h : vp xs p
  · simp
  · have h1 := (goodP_of h).len
    have h2 := drG_len p (deD xs p p.length) p.length 0
    show (drL xs p).length ≤ _
    unfold drL; omega
theorem good_exc2 {xs : List Cls} {p : List Lin} (g : GoodP xs p) {i : Nat} (hi : i < p.length) (h7 : knd p i = 7) : goodC xs (clL p i) = true := by
  have hx : exs p (parts p i) ≤ 6 := ((g.tries i hi).1 h7).2
  rw [exs_len] at hx
  refine goodC_yes g.tree (by unfold clL; rw [clF_len]; exact hx) (goodL_mk fun b hb => ?_)
  obtain ⟨x, hx2, rfl⟩ := List.mem_map.1 hb
  have hm := List.mem_filter.1 hx2
  have hl := parts_lt hi x hm.1
  have hk : knd p x = 8 := by simpa using hm.2
  have hn := (g.line x hl).1
  rw [lnA_at hl]
  rw [knd_at hl] at hk
  unfold numS at hn
  rw [hk] at hn
  simp at hn
  exact hn.1
theorem size_al1 (w : World) (o : Obj) : (w.alloc o).heap.size = w.heap.size + 1 := by simp
theorem apart_nw {v u : Value} {b m : Nat} (h : v.ownBlock ≠ some b ∧ b < m) (hat : u.ownBlock = v.ownBlock ∨ u.ownBlock = some (m + 1)) : u.ownBlock ≠ some b := by
  rcases hat with e | e
  · rw [e]; exact h.1
  · rw [e]; intro e2; injection e2 with e2; omega
end

section
theorem nI_contains2 (L : List Nat) (x : Nat) : (nI L).contains (x : Int) = L.contains x := by
  rw [Bool.eq_iff_iff, List.contains_iff_mem, List.contains_iff_mem]
  unfold nI
  rw [List.mem_map]
  exact ⟨fun ⟨y, hy, e⟩ => by rw [← Int.ofNat.inj e]; exact hy, fun h => ⟨x, h, rfl⟩⟩
end

section
theorem ex_drop2 {p : List Lin} {C : List Nat} {k : Nat} (h : k < C.length) : exF p (C.drop k) = if knd p C[k] = 8 then C[k] :: exF p (C.drop (k + 1)) else exF p (C.drop (k + 1)) := by
  rw [List.drop_eq_getElem_cons h]
  unfold exF
  rw [List.filter_cons]
  by_cases e : knd p C[k] = 8
  · rw [if_pos e, if_pos (by simpa using e)]
  · rw [if_neg e, if_neg (by simpa using e)]
theorem exc_class {xs : List Cls} {p : List Lin} (g : GoodP xs p) {x : Nat} (hl : x < p.length) (h8 : knd p x = 8) : hasK xs (lnA p x) = true := by
  have hn := (g.line x hl).1
  rw [lnA_at hl]
  rw [knd_at hl] at h8
  unfold numS at hn
  rw [h8] at hn
  simp at hn
  exact hn.1
theorem deA_cons (xs : List Cls) (p : List Lin) (acc : List Int) (x : Nat) (r : List Nat) : deA xs p acc (x :: r) = (if 0 ≤ firstC xs acc (lnA p x) 0 then [x] else []) ++ deA xs p (acc ++ [lnA p x]) r := rfl
theorem hasI_nI : ∀ (L : List Nat) (x : Nat), hasI (nI L) (x : Int) = L.contains x
  | [], x => rfl
  | y :: r, x => by
    show (((y : Int) == (x : Int)) || hasI (nI r) (x : Int)) = (y :: r).contains x
    rw [hasI_nI r x, List.contains_cons]
    congr 1
    rw [Bool.eq_iff_iff, beq_iff_eq, beq_iff_eq]
    omega
end
end
end
end Go.Proofs.YtgjlmfjmjglplaaGreat
