/- one text of PhN, C, D -/
import Derived.Test.YtgjlmfjmjglplaaGreatFj15
import Derived.Test.YtgjlmfjmjglplaaGreatFj2
namespace Go.Proofs.YtgjlmfjmjglplaaGreat
open Go.RowKit
set_option linter.unusedVariables false
section
/-- x is marked as a part of a try that begins ahead of k -/
def mkT (p : List Lin) (k x : Nat) : Bool := (List.range k).any fun j => knd p j == 7 && (parts p j).contains x
def mkL (p : List Lin) (k : Nat) : List Bool := (List.range p.length).map (mkT p k)
/-- marks and those of the first parts of a list -/
def mkP (M : List Bool) (P : List Nat) (q : Nat) : List Bool := M.mapIdx fun x b => b || (P.take q).contains x
theorem mkL_len (p : List Lin) (k : Nat) : (mkL p k).length = p.length := by unfold mkL; simp
theorem mkL_0 (p : List Lin) : mkL p 0 = List.replicate p.length false := by
  refine List.ext_getElem (by simp [mkL]) fun x h1 h2 => ?_
  simp [mkL, mkT]
theorem mkL_at {p : List Lin} {k x : Nat} (h : x < (mkL p k).length) : (mkL p k)[x] = mkT p k x := by simp [mkL]
theorem mkP_len (M : List Bool) (P : List Nat) (q : Nat) : (mkP M P q).length = M.length := by simp [mkP]
theorem mkP_at {M : List Bool} {P : List Nat} {q x : Nat} (h : x < (mkP M P q).length) : (mkP M P q)[x] = (M[x]'(by rw [mkP_len] at h; exact h) || (P.take q).contains x) := by simp [mkP]
theorem mkP_0 (M : List Bool) (P : List Nat) : mkP M P 0 = M := by
  refine List.ext_getElem (mkP_len M P 0) fun x h1 h2 => ?_
  rw [mkP_at h1, List.take_zero]; simp
theorem mkP_succ {M : List Bool} {P : List Nat} {q : Nat} (hq : q < P.length) : mkP M P (q + 1) = (mkP M P q).set P[q] true := by
  refine List.ext_getElem (by rw [List.length_set, mkP_len, mkP_len]) fun x h1 h2 => ?_
  rw [List.getElem_set, mkP_at h1, List.take_succ_eq_append_getElem hq]
  by_cases e : P[q] = x
  · rw [if_pos e, Bool.or_eq_true]
    exact .inr (by rw [List.contains_iff_mem, List.mem_append]; exact .inr (by rw [e]; exact List.mem_singleton.2 rfl))
  · rw [if_neg e, mkP_at]
    congr 1
    rw [Bool.eq_iff_iff, List.contains_iff_mem, List.contains_iff_mem, List.mem_append, List.mem_singleton]
    exact ⟨fun h => h.resolve_right fun h => e h.symm, .inl⟩
theorem mkT_succ (p : List Lin) (k x : Nat) : mkT p (k + 1) x = (mkT p k x || (knd p k == 7 && (parts p k).contains x)) := by
  unfold mkT; rw [List.range_succ, List.any_append]; simp
theorem mkL_yes {p : List Lin} {k : Nat} (h : knd p k = 7) : mkL p (k + 1) = mkP (mkL p k) (parts p k) (parts p k).length := by
  refine List.ext_getElem (by rw [mkP_len, mkL_len, mkL_len]) fun x h1 h2 => ?_
  rw [mkL_at, mkP_at, mkL_at, List.take_length, mkT_succ, h]; simp
theorem mkL_no {p : List Lin} {k : Nat} (h : knd p k ≠ 7) : mkL p (k + 1) = mkL p k := by
  refine List.ext_getElem (by rw [mkL_len, mkL_len]) fun x h1 h2 => ?_
  rw [mkL_at, mkL_at, mkT_succ]
  have : (knd p k == 7) = false := by simpa using h
  rw [this]; simp
/-- what the program asks of the tries at a line -/
def trL (p : List Lin) (i : Nat) : Bool := (knd p i != 7 || ((parts p i).length != 1 && decide ((exL p i).length ≤ 6))) && (!fol (knd p i) || mkT p i i)
def trB (p : List Lin) : Bool := (List.range p.length).all (trL p)
theorem trB_iff (p : List Lin) : trB p = true ↔ triesI p := by
  unfold trB triesI
  rw [List.all_eq_true]
  constructor
  · intro H i hi
    have h := H i (List.mem_range.2 hi)
    unfold trL mkT at h
    rw [Bool.and_eq_true] at h
    refine ⟨fun h7 => ?_, fun hf => ?_⟩
    · have := h.1
      rw [h7] at this
      simp at this
      rw [exs_len]
      exact this
    · have := h.2
      rw [hf] at this
      simp at this
      obtain ⟨j, hj, h7, hm⟩ := this
      exact ⟨j, hj, h7, hm⟩
  · intro H i hi
    have h := H i (List.mem_range.1 hi)
    unfold trL mkT
    rw [Bool.and_eq_true]
    constructor
    · by_cases h7 : knd p i = 7
      · have := h.1 h7
        rw [exs_len] at this
        simp [h7]
        exact this
      · simp [h7]
    · cases hf : fol (knd p i)
      · rfl
      · obtain ⟨j, hj, h7, hm⟩ := h.2 hf
        simp
        exact ⟨j, hj, h7, hm⟩
theorem trB_no {p : List Lin} {i : Nat} (hi : i < p.length) (h : trL p i = false) : trB p = false := by
  cases e : trB p
  · rfl
  · unfold trB at e
    rw [List.all_eq_true] at e
    rw [e i (List.mem_range.2 hi)] at h; cases h
theorem trB_yes {p : List Lin} (h : ∀ i, i < p.length → trL p i = true) : trB p = true := by
  unfold trB
  rw [List.all_eq_true]
  exact fun i hi => h i (List.mem_range.1 hi)
theorem fol_no {k : Int} (h8 : k ≠ 8) (h9 : k ≠ 9) (h10 : k ≠ 10) : fol k = false := by
  cases e : fol k
  · rfl
  · have := fol_iff.1 e; omega
set_option maxHeartbeats 2000000 in
set_option maxRecDepth 100000 in
theorem validTries_any (A : Option Addr) (n cap : Nat) (p : List Lin) (hsm : p.length ≤ 1048576) (w : World) (hR : Sl w A n cap p) :
    Calls Tryz.prog 34 #[.slice A n cap] w fun e w' => e = .returned (.bool (trB p)) ∧ Le w w' := by
  obtain rfl := hR.len
  obtain ⟨j0, hj, hy0, hy1, hy2⟩ := info_parts boolInfo
  have hb2 : j0.bytes * p.length ≤ 281474976710656 := by rw [hy2]; omega
  have HR : Hid (trB p = trB p) := rfl
  go_enter Tryz.func34, Tryz.ntmps34
  go_wp2_with (refine wpList_make_full _ rfl _ _ 100 rfl w.heap.size 4 j0 _ 1 Tryz.underlying100 hj hy0 hy1 .i64 .i64 _ _ p.length rfl rfl rfl rfl hb2 (by unfold maxLen; omega) (by simp) ?_; intro w1 OF hg1; rw [made_bools] at OF; have L1 := (Le.refl w).grown hg1 (by intro k hk; cases hk); clear hg1)
  rw [← mkL_0] at OF
  go_loopw [4, 5, 6, 7, 8, 10, 16] (fun _ _ _ _ _ _ q wr => ∃ k : Nat, k ≤ p.length ∧ q = .int .i64 k ∧ (∀ j, j < k → trL p j = true) ∧
      wr.ownsRow w.heap.size 4 1 (.slice (some ⟨w.heap.size, 0, none⟩) p.length p.length) p.length ((mkL p k).flatMap Enc.cells) ∧ Le w wr) (fun _ _ _ _ _ _ q _ => p.length - (intOf q).toNat)
  case atStart => exact ⟨0, Nat.zero_le _, rfl, fun j h => absurd h (by omega), OF, L1⟩
  case round =>
    obtain ⟨k, hk, rfl, hall, O1, L⟩ := hrel
    have HALL := Lib.hid hall
    clear hall OF L1
    have T := hR.le L
    by_cases hlt : k < p.length
    · obtain ⟨b, off, rfl, hb, d0, d1, d2, d3, -⟩ := T.lin_at hlt
      have HK : Hid (knd p k = p[k].kind) := knd_at hlt
      have HNO : Hid (trL p k = false → trB p = false) := trB_no hlt
      have HYES : Hid (trL p k = true → ∀ j, j < k + 1 → trL p j = true) := fun h j hj => by
        by_cases e : j = k
        · rw [e]; exact h
        · exact HALL.out j (by omega)
      have HT : Hid (trL p k = ((knd p k != 7 || ((parts p k).length != 1 && decide ((exL p k).length ≤ 6))) && (!fol (knd p k) || mkT p k k))) := rfl
      have HMY := Lib.hid (mkL_yes (p := p) (k := k))
      have HMN := Lib.hid (mkL_no (p := p) (k := k))
      have hk0 : (0 : Int) ≤ (k : Int) := by omega
      have hkn : (k : Int) < (p.length : Int) := by omega
      have hml := mkL_len p k
      have r0 := cell_bool O1 (k := k) (by omega) hml
      rw [mkL_at] at r0
      have g0 := (O1.lt w.heap.size rfl).2
      generalize p[k].depth = vd at *
      generalize p[k].kind = vk at *
      generalize p[k].a = va at *
      generalize p[k].b = vb at *
      by_cases h7 : vk = 7
      · subst h7
        have HT2 : Hid (trL p k = ((parts p k).length != 1 && decide ((exL p k).length ≤ 6))) := by
          show _ = _
          rw [HT.out, HK.out]; simp [fol]
        have HM : Hid (mkL p (k + 1) = mkP (mkL p k) (parts p k) (parts p k).length) := HMY.out HK.out
        have HPL := Lib.hid (parts_lt hlt)
        have hpl := parts_len p k
        clear HT HMY HMN
        go_wp2_with fail
        refine (partsOf_any _ p.length cap p k hlt hsm _ (T.alloc _)).mono ?_
        rintro e w2 ⟨v2, rfl, D1, hl2⟩
        obtain ⟨A1, q1, rfl, S1, hB1⟩ := D1.form (by decide)
        have L2 := (L.alloc _).trans hl2
        have O2 := own_le (O1.alloc _) hl2
        have T2 := hR.le L2
        have hB2 : ∀ a, A1 = some a → w.heap.size < a.block := fun a ha => by
          have := (hB1 a.block (by rw [ha]; simp [Value.ownBlock])).1
          simp at this; omega
        clear D1 hB1 hl2 r0 d0 d1 d2 d3
        rw [nI_len] at S1 ⊢
        go_wp2_with fail
        refine (exceptsOf_any _ p.length cap p k hlt hsm _ T2).mono ?_
        rintro e w3 ⟨v3, u3, rfl, D2, D3, hl3⟩
        obtain ⟨A2, q2, rfl, -, -⟩ := D2.form (by decide)
        obtain ⟨A3, q3, rfl, -, -⟩ := D3.form (by decide)
        have S3 := S1.le hl3
        have L3 := L2.trans hl3
        have O3 := own_le O2 hl3
        clear D2 D3 hl3 S1 O1 O2 L2 T2 T L
        rw [nI_len]
        generalize parts p k = P at *
        generalize (exL p k).length = m at *
        have HM0 := mkP_0 (mkL p k) P
        generalize mkL p k = M at *
        have HB2 := Lib.hid hB2; clear hB2
        by_cases h1 : P.length = 1
        · have h1b : ((P.length : Int) == 1) = true := by rw [beq_iff_eq]; omega
          have HF : Hid (trB p = false) := HNO.out (by rw [HT2.out, h1]; rfl)
          clear h1 HM0
          go_wp2
          go_ret
          exact ⟨ret_bool HF.out.symm, L3⟩
        · have h1b : ((P.length : Int) == 1) = false := bf (by omega)
          have hn1 : (P.length != 1) = true := by simpa using h1
          by_cases h6 : 6 < m
          · have h6b : decide ((6 : Int) < (m : Int)) = true := decide_eq_true (by omega)
            have HF : Hid (trB p = false) := HNO.out (by rw [HT2.out, hn1, decide_eq_false (by omega)]; rfl)
            clear h1 hn1 HM0
            go_wp2
            go_ret
            exact ⟨ret_bool HF.out.symm, L3⟩
          · have h6b : decide ((6 : Int) < (m : Int)) = false := decide_eq_false (by omega)
            have HF : Hid (∀ j, j < k + 1 → trL p j = true) := HYES.out (by rw [HT2.out, hn1, decide_eq_true (by omega)]; rfl)
            clear h1 hn1
            go_wp2
            have O3b : w3.ownsRow w.heap.size 4 1 (.slice (some ⟨w.heap.size, 0, none⟩) p.length p.length) p.length ((mkP M P 0).flatMap Enc.cells) := by rw [HM0]; exact O3
            clear HM0 O3
            generalize wr = W0 at *
            go_loopw [10, 44] (fun _ q wq => ∃ j : Nat, j ≤ P.length ∧ q = .int .i64 j ∧ wq.ownsRow w.heap.size 4 1 (.slice (some ⟨w.heap.size, 0, none⟩) p.length p.length) p.length ((mkP M P j).flatMap Enc.cells) ∧ w3.grownBy wq (some w.heap.size)) (fun _ q _ => P.length - (intOf q).toNat)
            case atStart => exact ⟨0, Nat.zero_le _, rfl, O3b, World.grownBy.refl w3 _⟩
            case round =>
              obtain ⟨j, hj, rfl, O4, hg4⟩ := hrel
              clear O3b
              have S4 := S3.grown hg4 (fun _ a ha e => by have := HB2.out a ha; injection e with e; omega)
              by_cases hlj : j < P.length
              · obtain ⟨b5, off5, rfl, hb5, hc5, -⟩ := S4.int_at (k := j) (by rw [nI_len]; exact hlj)
                rw [nI_at hlj] at hc5
                have hx := HPL.out P[j] (List.getElem_mem hlj)
                have HN := Lib.hid (mkP_succ (M := M) hlj)
                have hmp := mkP_len M P j
                obtain ⟨bx, r5⟩ : ∃ bx, wr.cell? ⟨w.heap.size, P[j], none⟩ = some (.bool bx) := ⟨_, cell_bool O4 (k := P[j]) (by omega) (by omega)⟩
                have f5 := O4.frozenAt P[j]
                have HO := Lib.hid ((O4.stored P[j] (.bool true)).1)
                rw [flat_bool _ _ (by omega)] at HO
                generalize P[j] = x at *
                have hx0 : (0 : Int) ≤ (x : Int) := by omega
                have hxn : (x : Int) < (p.length : Int) := by omega
                clear S4
                go_wp2
                go_roundw
                case rel => exact ⟨j + 1, by omega, by go_num, by rw [HN.out]; exact HO.out, gx_set hg4 _⟩
                case measure => simp [intOf]; omega
              · obtain rfl : j = P.length := by omega
                have hL4 : Le w wr := L3.grown hg4 (fun i hi => by injection hi with hi; omega)
                go_wp2
                go_roundw
                case rel => exact ⟨k + 1, by omega, by go_num, HF.out, by rw [HM.out]; exact O4, hL4⟩
                case measure => simp [intOf]; omega
      · have h7b := bf h7
        have HM : Hid (mkL p (k + 1) = mkL p k) := HMN.out (by rw [HK.out]; exact h7)
        by_cases hf : vk = 8 ∨ vk = 9 ∨ vk = 10
        · have hff : fol vk = true := fol_iff.2 (by omega)
          have HT2 : Hid (trL p k = mkT p k k) := by
            show _ = _
            rw [HT.out, HK.out, hff]
            have : (vk != 7) = true := by simpa using h7
            rw [this]; rfl
          rcases hf with rfl | rfl | rfl
          all_goals
            cases hm : mkT p k k
            · rw [hm] at r0
              have HF : Hid (trB p = false) := HNO.out (by rw [HT2.out, hm])
              go_wp2
              go_ret
              exact ⟨ret_bool HF.out.symm, L.alloc _⟩
            · rw [hm] at r0
              have HF : Hid (∀ j, j < k + 1 → trL p j = true) := HYES.out (by rw [HT2.out, hm])
              go_wp2
              go_roundw
              case rel => exact ⟨k + 1, by omega, by go_num, HF.out, by rw [HM.out]; exact O1.alloc _, L.alloc _⟩
              case measure => simp [intOf]; omega
        · have h8b : (vk == 8) = false := bf (by omega)
          have h9b : (vk == 9) = false := bf (by omega)
          have h10b : (vk == 10) = false := bf (by omega)
          have HF : Hid (∀ j, j < k + 1 → trL p j = true) := HYES.out (by
            rw [HT.out, HK.out, fol_no (by omega) (by omega) (by omega)]
            have : (vk != 7) = true := by simpa using h7
            rw [this]; rfl)
          go_wp2
          go_roundw
          case rel => exact ⟨k + 1, by omega, by go_num, HF.out, by rw [HM.out]; exact O1.alloc _, L.alloc _⟩
          case measure => simp [intOf]; omega
    · obtain rfl : k = p.length := by omega
      have HF : Hid (trB p = true) := trB_yes HALL.out
      go_wp2
      go_ret
      exact ⟨ret_bool HF.out.symm, L⟩
end

section
theorem findN_range (xs : List Cls) (s : ByteArray) : ∀ j : Int, 0 ≤ j → findN xs s j = -1 ∨ (j ≤ findN xs s j ∧ findN xs s j < j + xs.length) := by
  induction xs with
  | nil => intro j _; exact .inl rfl
  | cons c r ih =>
    intro j hj
    unfold findN
    split
    · right; simp; omega
    · rcases ih (j + 1) (by omega) with h | ⟨h1, h2⟩
      · exact .inl h
      · right; simp; omega
theorem findN_append (xs ys : List Cls) (s : ByteArray) : ∀ j : Int, 0 ≤ j → findN (xs ++ ys) s j = if 0 ≤ findN xs s j then findN xs s j else findN ys s (j + xs.length) := by
  induction xs with
  | nil => intro j _; simp [findN]
  | cons c r ih =>
    intro j hj
    rw [List.cons_append, findN_cons, findN_cons]
    by_cases h : c.name = s
    · rw [if_pos h, if_pos h, if_pos hj]
    · rw [if_neg h, if_neg h, ih (j + 1) (by omega)]
      have e : j + 1 + (r.length : Int) = j + ((c :: r).length : Int) := by simp; omega
      rw [e]
theorem findN_self {xs : List Cls} {k : Nat} (h : k < xs.length) : (findN xs xs[k].name 0 == (k : Int)) = !decide (0 ≤ findN (xs.take k) xs[k].name 0) := by
  have e : xs = xs.take k ++ xs[k] :: xs.drop (k + 1) := by rw [← List.drop_eq_getElem_cons h, List.take_append_drop]
  have e2 : findN xs xs[k].name 0 = findN (xs.take k ++ xs[k] :: xs.drop (k + 1)) xs[k].name 0 := by rw [← e]
  rw [e2, findN_append _ _ _ _ (by omega)]
  have hl : (xs.take k).length = k := by rw [List.length_take]; omega
  rcases findN_range (xs.take k) xs[k].name 0 (by omega) with h1 | ⟨h1, h2⟩
  · rw [h1, if_neg (by omega)]
    unfold findN
    rw [if_pos rfl, hl]
    simp
  · rw [if_pos h1, decide_eq_true h1]
    rw [hl] at h2
    simp; omega
theorem parent_i (p : Int) (k : Nat) : ((k : Int) == 0 && p != -1 || decide (0 < (k : Int)) && !(decide (0 ≤ p) && decide (p ≤ (k : Int) - 1))) = (((p == -1) != ((k : Int) == 0)) || decide (p < -1) || decide ((k : Int) ≤ p)) := by
  rcases Nat.eq_zero_or_pos k with rfl | hk
  · by_cases hp : p = -1
    · subst hp; rfl
    · have h1 : (p == -1) = false := by simpa using hp
      simp [h1, bne]
  · have h0 : ((k : Int) == 0) = false := by simp; omega
    have h2 : decide (0 < (k : Int)) = true := by simp; omega
    rw [h0, h2, Bool.false_and, Bool.true_and, Bool.false_or, Bool.eq_iff_iff]
    by_cases hp : p = -1
    · subst hp; simp
    · have h1 : (p == -1) = false := by simpa using hp
      rw [h1]
      simp only [Bool.not_eq_true', Bool.and_eq_false_iff, decide_eq_false_iff_not, Bool.or_eq_true, decide_eq_true_eq, bne]
      simp
      omega
theorem badCls_i {xs : List Cls} {k : Nat} (h : k < xs.length) : badCls xs k xs[k] = ((!okName xs[k].name || findN xs xs[k].name 0 != (k : Int)) || (((xs[k].parent == -1) != ((k : Int) == 0)) || decide (xs[k].parent < -1) || decide ((k : Int) ≤ xs[k].parent))) := by
  unfold badCls
  have hs := findN_self h
  have hn : (findN xs xs[k].name 0 != (k : Int)) = decide (0 ≤ findN (xs.take k) xs[k].name 0) := by rw [bne, hs, Bool.not_not]
  rw [hn]
  generalize okName xs[k].name = a
  generalize decide (0 ≤ findN (xs.take k) xs[k].name 0) = b
  generalize xs[k].parent = p
  rw [Bool.or_assoc, parent_i]

theorem ivalidName_any (s : ByteArray) (w : World) (hs : s.size ≤ 9223372036854775807) : Calls Tryz.prog 48 #[.string s] w fun e w' => e = .returned (.bool (okName s)) ∧ w = w' := by
  by_cases hlo : s.size < 1
  · have HF : Hid (okName s = false) := by show _ = _; unfold okName; rw [decide_eq_false (p := 1 ≤ s.size) (by omega)]; simp
    go_enter Tryz.func48, Tryz.ntmps48
    go_wp2
    go_ret
    exact ⟨ret_bool HF.out.symm, rfl⟩
  · by_cases hhi : 6 < s.size
    · have HF : Hid (okName s = false) := by show _ = _; unfold okName; rw [decide_eq_false (p := s.size ≤ 6) (by omega)]; simp
      go_enter Tryz.func48, Tryz.ntmps48
      go_wp2
      go_ret
      exact ⟨ret_bool HF.out.symm, rfl⟩
    · have d1 : decide ((s.size : Int) < 1) = false := decide_eq_false (by omega)
      have d2 : decide (6 < (s.size : Int)) = false := decide_eq_false (by omega)
      go_enter Tryz.func48, Tryz.ntmps48
      go_wp2
      go_loop [14] (fun i => ∃ k : Nat, k ≤ s.size ∧ i = .int .i64 k ∧ lowers s.data.toList = lowers (s.data.toList.drop k)) (fun i => s.size - (intOf i).toNat)
      case atStart => exact ⟨0, Nat.zero_le _, rfl, rfl⟩
      case round =>
        obtain ⟨k, hk, rfl, hr⟩ := hrel
        have HR := Lib.hid hr; clear hr
        by_cases hlt : k < s.size
        · have hc : 0 ≤ (s[k].toNat : Int) ∧ (s[k].toNat : Int) ≤ 255 := by have := UInt8.toNat_lt s[k]; omega
          by_cases h1 : s[k].toNat < 97
          · have HF : Hid (okName s = false) := by show _ = _; unfold okName; rw [HR.out, lowers_at hlt, decide_eq_false (p := 97 ≤ s[k].toNat) (by omega)]; rfl
            go_wp2
            go_ret
            exact ⟨ret_bool HF.out.symm, rfl⟩
          · by_cases h2 : 122 < s[k].toNat
            · have HF : Hid (okName s = false) := by show _ = _; unfold okName; rw [HR.out, lowers_at hlt, decide_eq_false (p := s[k].toNat ≤ 122) (by omega)]; simp
              go_wp2
              go_ret
              exact ⟨ret_bool HF.out.symm, rfl⟩
            · have HF : Hid (lowers s.data.toList = lowers (s.data.toList.drop (k + 1))) := by show _ = _; rw [HR.out, lowers_at hlt, decide_eq_true (p := 97 ≤ s[k].toNat) (by omega), decide_eq_true (p := s[k].toNat ≤ 122) (by omega)]; rfl
              go_wp2
              go_round
              case rel => exact ⟨k + 1, by omega, by go_num, HF.out⟩
              case measure => simp [intOf]; omega
        · have HF : Hid (okName s = true) := by
            show _ = _; unfold okName; rw [HR.out, lowers_end hlt, decide_eq_true (p := 1 ≤ s.size) (by omega), decide_eq_true (p := s.size ≤ 6) (by omega)]; rfl
          go_wp2
          go_ret
          exact ⟨ret_bool HF.out.symm, rfl⟩

theorem closure_any (c : Cls) (s : ByteArray) (g : Nat) (w : World) (hg : w.cell? ⟨g, 0, none⟩ = some (.string s)) (hlt : g < w.heap.size) :
    Calls Tryz.prog 83 #[.agg #[.string c.name, .int .i64 c.parent], .pointer (some ⟨g, 0, none⟩)] w fun e w' => e = .returned (.bool (c.name.toList == s.toList)) ∧ Le w w' := by
  have hg' : (w.alloc (.cells #[.string c.name, .int .i64 c.parent] 91)).cell? ⟨g, 0, none⟩ = some (.string s) := ((Le.new w _).cell hlt).trans hg
  go_enter Tryz.func83, Tryz.ntmps83
  go_wp2
  go_ret
  exact ⟨rfl, Le.new w _⟩

theorem indexFunc_any (A : Option Addr) (n cap : Nat) (xs : List Cls) (s : ByteArray) (g : Nat) (w : World) (hR : Sl w A n cap xs) (hg : w.cell? ⟨g, 0, none⟩ = some (.string s)) (hgl : g < w.heap.size) :
    Calls Tryz.prog 82 #[.slice A n cap, .func (.func 83) #[] #[.pointer (some ⟨g, 0, none⟩)]] w fun e w' => e = .returned (.int .i64 (findN xs s 0)) ∧ Le w w' := by
  obtain rfl := hR.len
  have hm := hR.n_le
  go_enter Tryz.func82, Tryz.ntmps82
  go_wp2
  go_loopw [8] (fun i wr => ∃ k : Nat, k ≤ xs.length ∧ i = .int .i64 k ∧ findN xs s 0 = findN (xs.drop k) s k ∧ Le w wr) (fun i _ => xs.length - (intOf i).toNat)
  case atStart => exact ⟨0, Nat.zero_le _, rfl, rfl, Le.refl _⟩
  case round =>
    obtain ⟨k, hk, rfl, hr, hle⟩ := hrel
    have HR := Lib.hid hr; clear hr
    have hRr := hR.le hle
    have hgr := (hle.cell hgl).trans hg
    have hgz : g < wr.heap.size := Nat.lt_of_lt_of_le hgl hle.size
    clear hR hg
    by_cases hlt : k < xs.length
    · obtain ⟨b, off, rfl, _, hcell, hcell2, _, _, _⟩ := hRr.cls_at hlt
      by_cases he : xs[k].name = s
      · have he' := str_eq he
        have HF : Hid (findN xs s 0 = k) := by show _ = _; rw [HR.out, findN_at hlt, if_pos he]
        clear he
        go_wp2_with (go_at_call 83; refine (closure_any xs[k] s g _ hgr hgz).mono ?_; rintro e w' ⟨rfl, hw1⟩)
        go_ret
        exact ⟨ret_int HF.out.symm, hle.trans hw1⟩
      · have he' := str_ne he
        have HF : Hid (findN xs s 0 = findN (xs.drop (k + 1)) s ((k + 1 : Nat) : Int)) := by show _ = _; rw [HR.out, findN_at hlt, if_neg he]; rfl
        clear he
        go_wp2_with (go_at_call 83; refine (closure_any xs[k] s g _ hgr hgz).mono ?_; rintro e w' ⟨rfl, hw1⟩)
        go_roundw
        case rel => exact ⟨k + 1, by omega, by go_num, HF.out, hle.trans hw1⟩
        case measure => simp [intOf]; omega
    · have HF : Hid (findN xs s 0 = -1) := by show _ = _; rw [HR.out, findN_end hlt]
      go_wp2
      go_ret
      exact ⟨ret_int HF.out.symm, hle⟩

theorem indexOfName_any (A : Option Addr) (n cap : Nat) (xs : List Cls) (s : ByteArray) (w : World) (hR : Sl w A n cap xs) :
    Calls Tryz.prog 49 #[.slice A n cap, .string s] w fun e w' => e = .returned (.int .i64 (findN xs s 0)) ∧ Le w w' := by
  go_enter Tryz.func49, Tryz.ntmps49
  go_wp2_with fail
  refine (indexFunc_any A n cap xs s _ _ (hR.alloc _) (by simp) (by simp)).mono ?_
  rintro e w' ⟨rfl, hw1⟩
  go_wp2
  go_ret
  exact ⟨rfl, (Le.new w _).trans hw1⟩
end

section
set_option maxHeartbeats 8000000 in
theorem iValidTree_any (A : Option Addr) (n cap : Nat) (xs : List Cls) (w : World) (hR : Sl w A n cap xs) :
    Calls Tryz.prog 26 #[.agg #[.slice A n cap]] w fun e w' => e = .returned (.bool (okTree xs)) ∧ Le w w' := by
  obtain rfl := hR.len
  have hm := hR.n_le
  have hcp := hR.cap_
  have HL : xs.length < 1 ∨ 8 < xs.length → ∀ k, k ≤ xs.length → okFrom xs k (xs.drop k) = false := by
    intro h k hk
    obtain ⟨m, hm⟩ : ∃ m, xs.length - k = m := ⟨_, rfl⟩
    induction m generalizing k with
    | zero => rw [okFrom_end (by omega)]; simp; omega
    | succ m ih => rw [okFrom_at (by omega), ih (k + 1) (by omega) (by omega), Bool.and_false]
  by_cases h1 : xs.length < 1
  · have HF : Hid (okTree xs = false) := HL (.inl h1) 0 (Nat.zero_le _)
    clear HL
    go_enter Tryz.func26, Tryz.ntmps26
    go_wp2
    go_ret
    exact ⟨ret_bool HF.out.symm, Le.new w _⟩
  · by_cases h8 : 8 < xs.length
    · have HF : Hid (okTree xs = false) := HL (.inr h8) 0 (Nat.zero_le _)
      clear HL
      go_enter Tryz.func26, Tryz.ntmps26
      go_wp2
      go_ret
      exact ⟨ret_bool HF.out.symm, Le.new w _⟩
    · clear HL
      have d1 : decide ((xs.length : Int) < 1) = false := decide_eq_false (by omega)
      have d2 : decide (8 < (xs.length : Int)) = false := decide_eq_false (by omega)
      go_enter Tryz.func26, Tryz.ntmps26
      go_wp2
      go_loopw [19] (fun i wr => ∃ k : Nat, k ≤ xs.length ∧ i = .int .i64 k ∧ okTree xs = okFrom xs k (xs.drop k) ∧ Le (w.alloc (.cells #[.slice A xs.length cap] 25)) wr) (fun i _ => xs.length - (intOf i).toNat)
      case atStart => exact ⟨0, Nat.zero_le _, rfl, rfl, Le.refl _⟩
      case round =>
        obtain ⟨k, hk, rfl, hr, hle⟩ := hrel
        have HR := Lib.hid hr; clear hr
        have hz : w.heap.size < wr.heap.size := by have := hle.size; simp at this; omega
        have hT : wr.cell? ⟨w.heap.size, 0, none⟩ = some (.slice A xs.length cap) := by
          rw [hle.cell (by simp)]; simp
        have hwr : Le w wr := (Le.new w _).trans hle
        have hRr := hR.le hwr
        clear hR
        by_cases hlt : k < xs.length
        · obtain ⟨b, off, rfl, hb, hcell, hcell2, hns, hp1, hp2⟩ := hRr.cls_at hlt
          have HB : Hid (okTree xs = (!badCls xs k xs[k] && okFrom xs (k + 1) (xs.drop (k + 1)))) := by show _ = _; rw [HR.out, okFrom_at hlt]
          cases h1 : okName xs[k].name
          · have HF : Hid (okTree xs = false) := by show _ = _; rw [HB.out, badCls_i hlt, h1]; rfl
            clear HB
            go_wp2_with (go_at_call 48; refine (ivalidName_any _ _ hns).mono ?_; rintro e w' ⟨rfl, rfl⟩; rw [h1])
            go_ret
            exact ⟨ret_bool HF.out.symm, hwr.trans (Le.new _ _)⟩
          · have HB1 : Hid (okTree xs = (!(findN xs xs[k].name 0 != (k : Int) || (((xs[k].parent == -1) != ((k : Int) == 0)) || decide (xs[k].parent < -1) || decide ((k : Int) ≤ xs[k].parent))) && okFrom xs (k + 1) (xs.drop (k + 1)))) := by
              show _ = _; rw [HB.out, badCls_i hlt, h1]; rfl
            clear HB
            go_wp2_with (go_at_call 48; refine (ivalidName_any _ _ hns).mono ?_; rintro e w' ⟨rfl, rfl⟩; rw [h1])
            refine (indexOfName_any _ _ _ _ _ _ (hRr.alloc _)).mono ?_
            rintro e w3 ⟨rfl, h3⟩
            have e2 : w3.cell? ⟨wr.heap.size, 1, none⟩ = some (.int .i64 xs[k].parent) := (h3.cell (by simp)).trans (by simp)
            have hw3 : Le wr w3 := (Le.new _ _).trans h3
            clear hcell hcell2 hT h3
            cases h2 : findN xs xs[k].name 0 != (k : Int)
            · cases h4 : xs[k].parent == -1
              all_goals cases h5 : (k : Int) == 0
              all_goals cases h6 : decide (xs[k].parent < -1)
              all_goals cases h7 : decide ((k : Int) ≤ xs[k].parent)
              all_goals
                have hout := HB1.out
                simp only [h2, h4, h5, h6, h7] at hout
                have HO := Lib.hid hout
                clear hout HB1
                go_wp2
                first
                  | (go_ret; exact ⟨ret_bool (by rw [HO.out]; rfl), hwr.trans hw3⟩)
                  | (go_roundw
                     case rel => exact ⟨k + 1, by omega, by go_num, by rw [HO.out]; rfl, hle.trans hw3⟩
                     case measure => simp [intOf]; omega)
            · have HF : Hid (okTree xs = false) := by show _ = _; rw [HB1.out, h2]; rfl
              clear HB1
              go_wp2
              go_ret
              exact ⟨ret_bool HF.out.symm, hwr.trans hw3⟩
        · have HF : Hid (okTree xs = true) := by
            show _ = _; rw [HR.out, okFrom_end hlt]; simp; omega
          go_wp2
          go_ret
          exact ⟨ret_bool HF.out.symm, hwr⟩
end
end Go.Proofs.YtgjlmfjmjglplaaGreat
