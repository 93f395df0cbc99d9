/- one text of PhN, C, D, PhO, PhQ, YpD -/
import Derived.Test.YtkcnjoikdalgjaaDoorDp7
import Derived.Test.YtkcnjoikdalgjaaDoorDp1
import Derived.Test.YtkcnjoikdalgjaaDoorDp6
import Derived.Test.YtkcnjoikdalgjaaDoorDp5
import Derived.Deep.RegionHeld3
namespace Go.Proofs.YtkcnjoikdalgjaaDoor
open Go.RowKit
set_option linter.unusedVariables false
section
/-- x is marked as a part of a try that begins ahead of k -/
def mkT (p : List Lin) (k x : Nat) : Bool := (List.range k).any fun j => knd p j == 7 && (parts p j).contains x
def mkL (p : List Lin) (k : Nat) : List Bool := (List.range p.length).map (mkT p k)
/-- marks and those of the first parts of a list -/
def mkP (M : List Bool) (P : List Nat) (q : Nat) : List Bool := M.mapIdx fun x b => b || (P.take q).contains x
theorem mkL_len (p : List Lin) (k : Nat) : (mkL p k).length = p.length := by unfold mkL; simp
theorem mkL_0 (p : List Lin) : mkL p 0 = List.replicate p.length false := by
  refine List.ext_getElem (by simp [mkL]) fun x h1 h2 => ?_
  simp [mkL, mkT]
theorem mkL_at {p : List Lin} {k x : Nat} (h : x < (mkL p k).length) : (mkL p k)[x] = mkT p k x := by simp [mkL]
theorem mkP_len (M : List Bool) (P : List Nat) (q : Nat) : (mkP M P q).length = M.length := by simp [mkP]
theorem mkP_at {M : List Bool} {P : List Nat} {q x : Nat} (h : x < (mkP M P q).length) : (mkP M P q)[x] = (M[x]'(by rw [mkP_len] at h; exact h) || (P.take q).contains x) := by simp [mkP]
theorem mkP_0 (M : List Bool) (P : List Nat) : mkP M P 0 = M := by
  refine List.ext_getElem (mkP_len M P 0) fun x h1 h2 => ?_
  rw [mkP_at h1, List.take_zero]; simp
theorem mkP_succ {M : List Bool} {P : List Nat} {q : Nat} (hq : q < P.length) : mkP M P (q + 1) = (mkP M P q).set P[q] true := by
  refine List.ext_getElem (by rw [List.length_set, mkP_len, mkP_len]) fun x h1 h2 => ?_
  rw [List.getElem_set, mkP_at h1, List.take_succ_eq_append_getElem hq]
  by_cases e : P[q] = x
  · rw [if_pos e, Bool.or_eq_true]
    exact .inr (by rw [List.contains_iff_mem, List.mem_append]; exact .inr (by rw [e]; exact List.mem_singleton.2 rfl))
  · rw [if_neg e, mkP_at]
    congr 1
    rw [Bool.eq_iff_iff, List.contains_iff_mem, List.contains_iff_mem, List.mem_append, List.mem_singleton]
    exact ⟨fun h => h.resolve_right fun h => e h.symm, .inl⟩
theorem mkT_succ (p : List Lin) (k x : Nat) : mkT p (k + 1) x = (mkT p k x || (knd p k == 7 && (parts p k).contains x)) := by
  unfold mkT; rw [List.range_succ, List.any_append]; simp
theorem mkL_yes {p : List Lin} {k : Nat} (h : knd p k = 7) : mkL p (k + 1) = mkP (mkL p k) (parts p k) (parts p k).length := by
  refine List.ext_getElem (by rw [mkP_len, mkL_len, mkL_len]) fun x h1 h2 => ?_
  rw [mkL_at, mkP_at, mkL_at, List.take_length, mkT_succ, h]; simp
theorem mkL_no {p : List Lin} {k : Nat} (h : knd p k ≠ 7) : mkL p (k + 1) = mkL p k := by
  refine List.ext_getElem (by rw [mkL_len, mkL_len]) fun x h1 h2 => ?_
  rw [mkL_at, mkL_at, mkT_succ]
  have : (knd p k == 7) = false := by simpa using h
  rw [this]; simp
/-- what the program asks of the tries at a line -/
def trL (p : List Lin) (i : Nat) : Bool := (knd p i != 7 || ((parts p i).length != 1 && decide ((exL p i).length ≤ 6))) && (!fol (knd p i) || mkT p i i)
def trB (p : List Lin) : Bool := (List.range p.length).all (trL p)
theorem trB_iff (p : List Lin) : trB p = true ↔ triesI p := by
  unfold trB triesI
  rw [List.all_eq_true]
  constructor
  · intro H i hi
    have h := H i (List.mem_range.2 hi)
    unfold trL mkT at h
    rw [Bool.and_eq_true] at h
    refine ⟨fun h7 => ?_, fun hf => ?_⟩
    · have := h.1
      rw [h7] at this
      simp at this
      rw [exs_len]
      exact this
    · have := h.2
      rw [hf] at this
      simp at this
      obtain ⟨j, hj, h7, hm⟩ := this
      exact ⟨j, hj, h7, hm⟩
  · intro H i hi
    have h := H i (List.mem_range.1 hi)
    unfold trL mkT
    rw [Bool.and_eq_true]
    constructor
    · by_cases h7 : knd p i = 7
      · have := h.1 h7
        rw [exs_len] at this
        simp [h7]
        exact this
      · simp [h7]
    · cases hf : fol (knd p i)
      · rfl
      · obtain ⟨j, hj, h7, hm⟩ := h.2 hf
        simp
        exact ⟨j, hj, h7, hm⟩
theorem trB_no {p : List Lin} {i : Nat} (hi : i < p.length) (h : trL p i = false) : trB p = false := by
  cases e : trB p
  · rfl
  · unfold trB at e
    rw [List.all_eq_true] at e
    rw [e i (List.mem_range.2 hi)] at h; cases h
theorem trB_yes {p : List Lin} (h : ∀ i, i < p.length → trL p i = true) : trB p = true := by
  unfold trB
  rw [List.all_eq_true]
  exact fun i hi => h i (List.mem_range.1 hi)
theorem fol_no {k : Int} (h8 : k ≠ 8) (h9 : k ≠ 9) (h10 : k ≠ 10) : fol k = false := by
  cases e : fol k
  · rfl
  · have := fol_iff.1 e; omega
set_option maxHeartbeats 2000000 in
set_option maxRecDepth 100000 in
theorem validTries_any (A : Option Addr) (n cap : Nat) (p : List Lin) (hsm : p.length ≤ 1048576) (w : World) (hR : Sl w A n cap p) :
    Calls Tryd.prog 32 #[.slice A n cap] w fun e w' => e = .returned (.bool (trB p)) ∧ Le w w' := by
  obtain rfl := hR.len
  obtain ⟨j0, hj, hy0, hy1, hy2⟩ := info_parts boolInfo
  have hb2 : j0.bytes * p.length ≤ 281474976710656 := by rw [hy2]; omega
  have HR : Hid (trB p = trB p) := rfl
  go_enter Tryd.func32, Tryd.ntmps32
  go_wp2_with (refine wpList_make_full _ rfl _ _ 88 rfl w.heap.size 4 j0 _ 1 Tryd.underlying88 hj hy0 hy1 .i64 .i64 _ _ p.length rfl rfl rfl rfl hb2 (by unfold maxLen; omega) (by simp) ?_; intro w1 OF hg1; rw [made_bools] at OF; have L1 := (Le.refl w).grown hg1 (by intro k hk; cases hk); clear hg1)
  rw [← mkL_0] at OF
  go_loopw [4, 5, 6, 7, 8, 10, 16] (fun _ _ _ _ _ _ q wr => ∃ k : Nat, k ≤ p.length ∧ q = .int .i64 k ∧ (∀ j, j < k → trL p j = true) ∧
      wr.ownsRow w.heap.size 4 1 (.slice (some ⟨w.heap.size, 0, none⟩) p.length p.length) p.length ((mkL p k).flatMap Enc.cells) ∧ Le w wr) (fun _ _ _ _ _ _ q _ => p.length - (intOf q).toNat)
  case atStart => exact ⟨0, Nat.zero_le _, rfl, fun j h => absurd h (by omega), OF, L1⟩
  case round =>
    obtain ⟨k, hk, rfl, hall, O1, L⟩ := hrel
    have HALL := Lib.hid hall
    clear hall OF L1
    have T := hR.le L
    by_cases hlt : k < p.length
    · obtain ⟨b, off, rfl, hb, d0, d1, d2, d3, -⟩ := T.lin_at hlt
      have HK : Hid (knd p k = p[k].kind) := knd_at hlt
      have HNO : Hid (trL p k = false → trB p = false) := trB_no hlt
      have HYES : Hid (trL p k = true → ∀ j, j < k + 1 → trL p j = true) := fun h j hj => by
        by_cases e : j = k
        · rw [e]; exact h
        · exact HALL.out j (by omega)
      have HT : Hid (trL p k = ((knd p k != 7 || ((parts p k).length != 1 && decide ((exL p k).length ≤ 6))) && (!fol (knd p k) || mkT p k k))) := rfl
      have HMY := Lib.hid (mkL_yes (p := p) (k := k))
      have HMN := Lib.hid (mkL_no (p := p) (k := k))
      have hk0 : (0 : Int) ≤ (k : Int) := by omega
      have hkn : (k : Int) < (p.length : Int) := by omega
      have hml := mkL_len p k
      have r0 := cell_bool O1 (k := k) (by omega) hml
      rw [mkL_at] at r0
      have g0 := (O1.lt w.heap.size rfl).2
      generalize p[k].depth = vd at *
      generalize p[k].kind = vk at *
      generalize p[k].a = va at *
      generalize p[k].b = vb at *
      by_cases h7 : vk = 7
      · subst h7
        have HT2 : Hid (trL p k = ((parts p k).length != 1 && decide ((exL p k).length ≤ 6))) := by
          show _ = _
          rw [HT.out, HK.out]; simp [fol]
        have HM : Hid (mkL p (k + 1) = mkP (mkL p k) (parts p k) (parts p k).length) := HMY.out HK.out
        have HPL := Lib.hid (parts_lt hlt)
        have hpl := parts_len p k
        clear HT HMY HMN
        go_wp2_with fail
        refine (partsOf_any _ p.length cap p k hlt hsm _ (T.alloc _)).mono ?_
        rintro e w2 ⟨v2, rfl, D1, hl2⟩
        obtain ⟨A1, q1, rfl, S1, hB1⟩ := D1.form (by decide)
        have L2 := (L.alloc _).trans hl2
        have O2 := own_le (O1.alloc _) hl2
        have T2 := hR.le L2
        have hB2 : ∀ a, A1 = some a → w.heap.size < a.block := fun a ha => by
          have := (hB1 a.block (by rw [ha]; simp [Value.ownBlock])).1
          simp at this; omega
        clear D1 hB1 hl2 r0 d0 d1 d2 d3
        rw [nI_len] at S1 ⊢
        go_wp2_with fail
        refine (exceptsOf_any _ p.length cap p k hlt hsm _ T2).mono ?_
        rintro e w3 ⟨v3, u3, rfl, D2, D3, hl3⟩
        obtain ⟨A2, q2, rfl, -, -⟩ := D2.form (by decide)
        obtain ⟨A3, q3, rfl, -, -⟩ := D3.form (by decide)
        have S3 := S1.le hl3
        have L3 := L2.trans hl3
        have O3 := own_le O2 hl3
        clear D2 D3 hl3 S1 O1 O2 L2 T2 T L
        rw [nI_len]
        generalize parts p k = P at *
        generalize (exL p k).length = m at *
        have HM0 := mkP_0 (mkL p k) P
        generalize mkL p k = M at *
        have HB2 := Lib.hid hB2; clear hB2
        by_cases h1 : P.length = 1
        · have h1b : ((P.length : Int) == 1) = true := by rw [beq_iff_eq]; omega
          have HF : Hid (trB p = false) := HNO.out (by rw [HT2.out, h1]; rfl)
          clear h1 HM0
          go_wp2
          go_ret
          exact ⟨ret_bool HF.out.symm, L3⟩
        · have h1b : ((P.length : Int) == 1) = false := bf (by omega)
          have hn1 : (P.length != 1) = true := by simpa using h1
          by_cases h6 : 6 < m
          · have h6b : decide ((6 : Int) < (m : Int)) = true := decide_eq_true (by omega)
            have HF : Hid (trB p = false) := HNO.out (by rw [HT2.out, hn1, decide_eq_false (by omega)]; rfl)
            clear h1 hn1 HM0
            go_wp2
            go_ret
            exact ⟨ret_bool HF.out.symm, L3⟩
          · have h6b : decide ((6 : Int) < (m : Int)) = false := decide_eq_false (by omega)
            have HF : Hid (∀ j, j < k + 1 → trL p j = true) := HYES.out (by rw [HT2.out, hn1, decide_eq_true (by omega)]; rfl)
            clear h1 hn1
            go_wp2
            have O3b : w3.ownsRow w.heap.size 4 1 (.slice (some ⟨w.heap.size, 0, none⟩) p.length p.length) p.length ((mkP M P 0).flatMap Enc.cells) := by rw [HM0]; exact O3
            clear HM0 O3
            generalize wr = W0 at *
            go_loopw [10, 44] (fun _ q wq => ∃ j : Nat, j ≤ P.length ∧ q = .int .i64 j ∧ wq.ownsRow w.heap.size 4 1 (.slice (some ⟨w.heap.size, 0, none⟩) p.length p.length) p.length ((mkP M P j).flatMap Enc.cells) ∧ w3.grownBy wq (some w.heap.size)) (fun _ q _ => P.length - (intOf q).toNat)
            case atStart => exact ⟨0, Nat.zero_le _, rfl, O3b, World.grownBy.refl w3 _⟩
            case round =>
              obtain ⟨j, hj, rfl, O4, hg4⟩ := hrel
              clear O3b
              have S4 := S3.grown hg4 (fun _ a ha e => by have := HB2.out a ha; injection e with e; omega)
              by_cases hlj : j < P.length
              · obtain ⟨b5, off5, rfl, hb5, hc5, -⟩ := S4.int_at (k := j) (by rw [nI_len]; exact hlj)
                rw [nI_at hlj] at hc5
                have hx := HPL.out P[j] (List.getElem_mem hlj)
                have HN := Lib.hid (mkP_succ (M := M) hlj)
                have hmp := mkP_len M P j
                obtain ⟨bx, r5⟩ : ∃ bx, wr.cell? ⟨w.heap.size, P[j], none⟩ = some (.bool bx) := ⟨_, cell_bool O4 (k := P[j]) (by omega) (by omega)⟩
                have f5 := O4.frozenAt P[j]
                have HO := Lib.hid ((O4.stored P[j] (.bool true)).1)
                rw [flat_bool _ _ (by omega)] at HO
                generalize P[j] = x at *
                have hx0 : (0 : Int) ≤ (x : Int) := by omega
                have hxn : (x : Int) < (p.length : Int) := by omega
                clear S4
                go_wp2
                go_roundw
                case rel => exact ⟨j + 1, by omega, by go_num, by rw [HN.out]; exact HO.out, gx_set hg4 _⟩
                case measure => simp [intOf]; omega
              · obtain rfl : j = P.length := by omega
                have hL4 : Le w wr := L3.grown hg4 (fun i hi => by injection hi with hi; omega)
                go_wp2
                go_roundw
                case rel => exact ⟨k + 1, by omega, by go_num, HF.out, by rw [HM.out]; exact O4, hL4⟩
                case measure => simp [intOf]; omega
      · have h7b := bf h7
        have HM : Hid (mkL p (k + 1) = mkL p k) := HMN.out (by rw [HK.out]; exact h7)
        by_cases hf : vk = 8 ∨ vk = 9 ∨ vk = 10
        · have hff : fol vk = true := fol_iff.2 (by omega)
          have HT2 : Hid (trL p k = mkT p k k) := by
            show _ = _
            rw [HT.out, HK.out, hff]
            have : (vk != 7) = true := by simpa using h7
            rw [this]; rfl
          rcases hf with rfl | rfl | rfl
          all_goals
            cases hm : mkT p k k
            · rw [hm] at r0
              have HF : Hid (trB p = false) := HNO.out (by rw [HT2.out, hm])
              go_wp2
              go_ret
              exact ⟨ret_bool HF.out.symm, L.alloc _⟩
            · rw [hm] at r0
              have HF : Hid (∀ j, j < k + 1 → trL p j = true) := HYES.out (by rw [HT2.out, hm])
              go_wp2
              go_roundw
              case rel => exact ⟨k + 1, by omega, by go_num, HF.out, by rw [HM.out]; exact O1.alloc _, L.alloc _⟩
              case measure => simp [intOf]; omega
        · have h8b : (vk == 8) = false := bf (by omega)
          have h9b : (vk == 9) = false := bf (by omega)
          have h10b : (vk == 10) = false := bf (by omega)
          have HF : Hid (∀ j, j < k + 1 → trL p j = true) := HYES.out (by
            rw [HT.out, HK.out, fol_no (by omega) (by omega) (by omega)]
            have : (vk != 7) = true := by simpa using h7
            rw [this]; rfl)
          go_wp2
          go_roundw
          case rel => exact ⟨k + 1, by omega, by go_num, HF.out, by rw [HM.out]; exact O1.alloc _, L.alloc _⟩
          case measure => simp [intOf]; omega
    · obtain rfl : k = p.length := by omega
      have HF : Hid (trB p = true) := trB_yes HALL.out
      go_wp2
      go_ret
      exact ⟨ret_bool HF.out.symm, L⟩
end

section
theorem findN_range (xs : List Cls) (s : ByteArray) : ∀ j : Int, 0 ≤ j → findN xs s j = -1 ∨ (j ≤ findN xs s j ∧ findN xs s j < j + xs.length) := by
  induction xs with
  | nil => intro j _; exact .inl rfl
  | cons c r ih =>
    intro j hj
    unfold findN
    split
    · right; simp; omega
    · rcases ih (j + 1) (by omega) with h | ⟨h1, h2⟩
      · exact .inl h
      · right; simp; omega
theorem findN_append (xs ys : List Cls) (s : ByteArray) : ∀ j : Int, 0 ≤ j → findN (xs ++ ys) s j = if 0 ≤ findN xs s j then findN xs s j else findN ys s (j + xs.length) := by
  induction xs with
  | nil => intro j _; simp [findN]
  | cons c r ih =>
    intro j hj
    rw [List.cons_append, findN_cons, findN_cons]
    by_cases h : c.name = s
    · rw [if_pos h, if_pos h, if_pos hj]
    · rw [if_neg h, if_neg h, ih (j + 1) (by omega)]
      have e : j + 1 + (r.length : Int) = j + ((c :: r).length : Int) := by simp; omega
      rw [e]
theorem findN_self {xs : List Cls} {k : Nat} (h : k < xs.length) : (findN xs xs[k].name 0 == (k : Int)) = !decide (0 ≤ findN (xs.take k) xs[k].name 0) := by
  have e : xs = xs.take k ++ xs[k] :: xs.drop (k + 1) := by rw [← List.drop_eq_getElem_cons h, List.take_append_drop]
  have e2 : findN xs xs[k].name 0 = findN (xs.take k ++ xs[k] :: xs.drop (k + 1)) xs[k].name 0 := by rw [← e]
  rw [e2, findN_append _ _ _ _ (by omega)]
  have hl : (xs.take k).length = k := by rw [List.length_take]; omega
  rcases findN_range (xs.take k) xs[k].name 0 (by omega) with h1 | ⟨h1, h2⟩
  · rw [h1, if_neg (by omega)]
    unfold findN
    rw [if_pos rfl, hl]
    simp
  · rw [if_pos h1, decide_eq_true h1]
    rw [hl] at h2
    simp; omega
theorem parent_i (p : Int) (k : Nat) : ((k : Int) == 0 && p != -1 || decide (0 < (k : Int)) && !(decide (0 ≤ p) && decide (p ≤ (k : Int) - 1))) = (((p == -1) != ((k : Int) == 0)) || decide (p < -1) || decide ((k : Int) ≤ p)) := by
  rcases Nat.eq_zero_or_pos k with rfl | hk
  · by_cases hp : p = -1
    · subst hp; rfl
    · have h1 : (p == -1) = false := by simpa using hp
      simp [h1, bne]
  · have h0 : ((k : Int) == 0) = false := by simp; omega
    have h2 : decide (0 < (k : Int)) = true := by simp; omega
    rw [h0, h2, Bool.false_and, Bool.true_and, Bool.false_or, Bool.eq_iff_iff]
    by_cases hp : p = -1
    · subst hp; simp
    · have h1 : (p == -1) = false := by simpa using hp
      rw [h1]
      simp only [Bool.not_eq_true', Bool.and_eq_false_iff, decide_eq_false_iff_not, Bool.or_eq_true, decide_eq_true_eq, bne]
      simp
      omega
theorem badCls_i {xs : List Cls} {k : Nat} (h : k < xs.length) : badCls xs k xs[k] = ((!okName xs[k].name || findN xs xs[k].name 0 != (k : Int)) || (((xs[k].parent == -1) != ((k : Int) == 0)) || decide (xs[k].parent < -1) || decide ((k : Int) ≤ xs[k].parent))) := by
  unfold badCls
  have hs := findN_self h
  have hn : (findN xs xs[k].name 0 != (k : Int)) = decide (0 ≤ findN (xs.take k) xs[k].name 0) := by rw [bne, hs, Bool.not_not]
  rw [hn]
  generalize okName xs[k].name = a
  generalize decide (0 ≤ findN (xs.take k) xs[k].name 0) = b
  generalize xs[k].parent = p
  rw [Bool.or_assoc, parent_i]

theorem ivalidName_any (s : ByteArray) (w : World) (hs : s.size ≤ 9223372036854775807) : Calls Tryd.prog 52 #[.string s] w fun e w' => e = .returned (.bool (okName s)) ∧ w = w' := by
  by_cases hlo : s.size < 1
  · have HF : Hid (okName s = false) := by show _ = _; unfold okName; rw [decide_eq_false (p := 1 ≤ s.size) (by omega)]; simp
    go_enter Tryd.func52, Tryd.ntmps52
    go_wp2
    go_ret
    exact ⟨ret_bool HF.out.symm, rfl⟩
  · by_cases hhi : 6 < s.size
    · have HF : Hid (okName s = false) := by show _ = _; unfold okName; rw [decide_eq_false (p := s.size ≤ 6) (by omega)]; simp
      go_enter Tryd.func52, Tryd.ntmps52
      go_wp2
      go_ret
      exact ⟨ret_bool HF.out.symm, rfl⟩
    · have d1 : decide ((s.size : Int) < 1) = false := decide_eq_false (by omega)
      have d2 : decide (6 < (s.size : Int)) = false := decide_eq_false (by omega)
      go_enter Tryd.func52, Tryd.ntmps52
      go_wp2
      go_loop [14] (fun i => ∃ k : Nat, k ≤ s.size ∧ i = .int .i64 k ∧ lowers s.data.toList = lowers (s.data.toList.drop k)) (fun i => s.size - (intOf i).toNat)
      case atStart => exact ⟨0, Nat.zero_le _, rfl, rfl⟩
      case round =>
        obtain ⟨k, hk, rfl, hr⟩ := hrel
        have HR := Lib.hid hr; clear hr
        by_cases hlt : k < s.size
        · have hc : 0 ≤ (s[k].toNat : Int) ∧ (s[k].toNat : Int) ≤ 255 := by have := UInt8.toNat_lt s[k]; omega
          by_cases h1 : s[k].toNat < 97
          · have HF : Hid (okName s = false) := by show _ = _; unfold okName; rw [HR.out, lowers_at hlt, decide_eq_false (p := 97 ≤ s[k].toNat) (by omega)]; rfl
            go_wp2
            go_ret
            exact ⟨ret_bool HF.out.symm, rfl⟩
          · by_cases h2 : 122 < s[k].toNat
            · have HF : Hid (okName s = false) := by show _ = _; unfold okName; rw [HR.out, lowers_at hlt, decide_eq_false (p := s[k].toNat ≤ 122) (by omega)]; simp
              go_wp2
              go_ret
              exact ⟨ret_bool HF.out.symm, rfl⟩
            · have HF : Hid (lowers s.data.toList = lowers (s.data.toList.drop (k + 1))) := by show _ = _; rw [HR.out, lowers_at hlt, decide_eq_true (p := 97 ≤ s[k].toNat) (by omega), decide_eq_true (p := s[k].toNat ≤ 122) (by omega)]; rfl
              go_wp2
              go_round
              case rel => exact ⟨k + 1, by omega, by go_num, HF.out⟩
              case measure => simp [intOf]; omega
        · have HF : Hid (okName s = true) := by
            show _ = _; unfold okName; rw [HR.out, lowers_end hlt, decide_eq_true (p := 1 ≤ s.size) (by omega), decide_eq_true (p := s.size ≤ 6) (by omega)]; rfl
          go_wp2
          go_ret
          exact ⟨ret_bool HF.out.symm, rfl⟩

theorem closure_any (c : Cls) (s : ByteArray) (g : Nat) (w : World) (hg : w.cell? ⟨g, 0, none⟩ = some (.string s)) (hlt : g < w.heap.size) :
    Calls Tryd.prog 70 #[.agg #[.string c.name, .int .i64 c.parent], .pointer (some ⟨g, 0, none⟩)] w fun e w' => e = .returned (.bool (c.name.toList == s.toList)) ∧ Le w w' := by
  have hg' : (w.alloc (.cells #[.string c.name, .int .i64 c.parent] 63)).cell? ⟨g, 0, none⟩ = some (.string s) := ((Le.new w _).cell hlt).trans hg
  go_enter Tryd.func70, Tryd.ntmps70
  go_wp2
  go_ret
  exact ⟨rfl, Le.new w _⟩

theorem indexFunc_any (A : Option Addr) (n cap : Nat) (xs : List Cls) (s : ByteArray) (g : Nat) (w : World) (hR : Sl w A n cap xs) (hg : w.cell? ⟨g, 0, none⟩ = some (.string s)) (hgl : g < w.heap.size) :
    Calls Tryd.prog 69 #[.slice A n cap, .func (.func 70) #[] #[.pointer (some ⟨g, 0, none⟩)]] w fun e w' => e = .returned (.int .i64 (findN xs s 0)) ∧ Le w w' := by
  obtain rfl := hR.len
  have hm := hR.n_le
  go_enter Tryd.func69, Tryd.ntmps69
  go_wp2
  go_loopw [8] (fun i wr => ∃ k : Nat, k ≤ xs.length ∧ i = .int .i64 k ∧ findN xs s 0 = findN (xs.drop k) s k ∧ Le w wr) (fun i _ => xs.length - (intOf i).toNat)
  case atStart => exact ⟨0, Nat.zero_le _, rfl, rfl, Le.refl _⟩
  case round =>
    obtain ⟨k, hk, rfl, hr, hle⟩ := hrel
    have HR := Lib.hid hr; clear hr
    have hRr := hR.le hle
    have hgr := (hle.cell hgl).trans hg
    have hgz : g < wr.heap.size := Nat.lt_of_lt_of_le hgl hle.size
    clear hR hg
    by_cases hlt : k < xs.length
    · obtain ⟨b, off, rfl, _, hcell, hcell2, _, _, _⟩ := hRr.cls_at hlt
      by_cases he : xs[k].name = s
      · have he' := str_eq he
        have HF : Hid (findN xs s 0 = k) := by show _ = _; rw [HR.out, findN_at hlt, if_pos he]
        clear he
        go_wp2_with (go_at_call 70; refine (closure_any xs[k] s g _ hgr hgz).mono ?_; rintro e w' ⟨rfl, hw1⟩)
        go_ret
        exact ⟨ret_int HF.out.symm, hle.trans hw1⟩
      · have he' := str_ne he
        have HF : Hid (findN xs s 0 = findN (xs.drop (k + 1)) s ((k + 1 : Nat) : Int)) := by show _ = _; rw [HR.out, findN_at hlt, if_neg he]; rfl
        clear he
        go_wp2_with (go_at_call 70; refine (closure_any xs[k] s g _ hgr hgz).mono ?_; rintro e w' ⟨rfl, hw1⟩)
        go_roundw
        case rel => exact ⟨k + 1, by omega, by go_num, HF.out, hle.trans hw1⟩
        case measure => simp [intOf]; omega
    · have HF : Hid (findN xs s 0 = -1) := by show _ = _; rw [HR.out, findN_end hlt]
      go_wp2
      go_ret
      exact ⟨ret_int HF.out.symm, hle⟩

theorem indexOfName_any (A : Option Addr) (n cap : Nat) (xs : List Cls) (s : ByteArray) (w : World) (hR : Sl w A n cap xs) :
    Calls Tryd.prog 53 #[.slice A n cap, .string s] w fun e w' => e = .returned (.int .i64 (findN xs s 0)) ∧ Le w w' := by
  go_enter Tryd.func53, Tryd.ntmps53
  go_wp2_with fail
  refine (indexFunc_any A n cap xs s _ _ (hR.alloc _) (by simp) (by simp)).mono ?_
  rintro e w' ⟨rfl, hw1⟩
  go_wp2
  go_ret
  exact ⟨rfl, (Le.new w _).trans hw1⟩
end

section
set_option maxHeartbeats 8000000 in
theorem iValidTree_any (A : Option Addr) (n cap : Nat) (xs : List Cls) (w : World) (hR : Sl w A n cap xs) :
    Calls Tryd.prog 29 #[.agg #[.slice A n cap]] w fun e w' => e = .returned (.bool (okTree xs)) ∧ Le w w' := by
  obtain rfl := hR.len
  have hm := hR.n_le
  have hcp := hR.cap_
  have HL : xs.length < 1 ∨ 8 < xs.length → ∀ k, k ≤ xs.length → okFrom xs k (xs.drop k) = false := by
    intro h k hk
    obtain ⟨m, hm⟩ : ∃ m, xs.length - k = m := ⟨_, rfl⟩
    induction m generalizing k with
    | zero => rw [okFrom_end (by omega)]; simp; omega
    | succ m ih => rw [okFrom_at (by omega), ih (k + 1) (by omega) (by omega), Bool.and_false]
  by_cases h1 : xs.length < 1
  · have HF : Hid (okTree xs = false) := HL (.inl h1) 0 (Nat.zero_le _)
    clear HL
    go_enter Tryd.func29, Tryd.ntmps29
    go_wp2
    go_ret
    exact ⟨ret_bool HF.out.symm, Le.new w _⟩
  · by_cases h8 : 8 < xs.length
    · have HF : Hid (okTree xs = false) := HL (.inr h8) 0 (Nat.zero_le _)
      clear HL
      go_enter Tryd.func29, Tryd.ntmps29
      go_wp2
      go_ret
      exact ⟨ret_bool HF.out.symm, Le.new w _⟩
    · clear HL
      have d1 : decide ((xs.length : Int) < 1) = false := decide_eq_false (by omega)
      have d2 : decide (8 < (xs.length : Int)) = false := decide_eq_false (by omega)
      go_enter Tryd.func29, Tryd.ntmps29
      go_wp2
      go_loopw [19] (fun i wr => ∃ k : Nat, k ≤ xs.length ∧ i = .int .i64 k ∧ okTree xs = okFrom xs k (xs.drop k) ∧ Le (w.alloc (.cells #[.slice A xs.length cap] 31)) wr) (fun i _ => xs.length - (intOf i).toNat)
      case atStart => exact ⟨0, Nat.zero_le _, rfl, rfl, Le.refl _⟩
      case round =>
        obtain ⟨k, hk, rfl, hr, hle⟩ := hrel
        have HR := Lib.hid hr; clear hr
        have hz : w.heap.size < wr.heap.size := by have := hle.size; simp at this; omega
        have hT : wr.cell? ⟨w.heap.size, 0, none⟩ = some (.slice A xs.length cap) := by
          rw [hle.cell (by simp)]; simp
        have hwr : Le w wr := (Le.new w _).trans hle
        have hRr := hR.le hwr
        clear hR
        by_cases hlt : k < xs.length
        · obtain ⟨b, off, rfl, hb, hcell, hcell2, hns, hp1, hp2⟩ := hRr.cls_at hlt
          have HB : Hid (okTree xs = (!badCls xs k xs[k] && okFrom xs (k + 1) (xs.drop (k + 1)))) := by show _ = _; rw [HR.out, okFrom_at hlt]
          cases h1 : okName xs[k].name
          · have HF : Hid (okTree xs = false) := by show _ = _; rw [HB.out, badCls_i hlt, h1]; rfl
            clear HB
            go_wp2_with (go_at_call 52; refine (ivalidName_any _ _ hns).mono ?_; rintro e w' ⟨rfl, rfl⟩; rw [h1])
            go_ret
            exact ⟨ret_bool HF.out.symm, hwr.trans (Le.new _ _)⟩
          · have HB1 : Hid (okTree xs = (!(findN xs xs[k].name 0 != (k : Int) || (((xs[k].parent == -1) != ((k : Int) == 0)) || decide (xs[k].parent < -1) || decide ((k : Int) ≤ xs[k].parent))) && okFrom xs (k + 1) (xs.drop (k + 1)))) := by
              show _ = _; rw [HB.out, badCls_i hlt, h1]; rfl
            clear HB
            go_wp2_with (go_at_call 52; refine (ivalidName_any _ _ hns).mono ?_; rintro e w' ⟨rfl, rfl⟩; rw [h1])
            refine (indexOfName_any _ _ _ _ _ _ (hRr.alloc _)).mono ?_
            rintro e w3 ⟨rfl, h3⟩
            have e2 : w3.cell? ⟨wr.heap.size, 1, none⟩ = some (.int .i64 xs[k].parent) := (h3.cell (by simp)).trans (by simp)
            have hw3 : Le wr w3 := (Le.new _ _).trans h3
            clear hcell hcell2 hT h3
            cases h2 : findN xs xs[k].name 0 != (k : Int)
            · cases h4 : xs[k].parent == -1
              all_goals cases h5 : (k : Int) == 0
              all_goals cases h6 : decide (xs[k].parent < -1)
              all_goals cases h7 : decide ((k : Int) ≤ xs[k].parent)
              all_goals
                have hout := HB1.out
                simp only [h2, h4, h5, h6, h7] at hout
                have HO := Lib.hid hout
                clear hout HB1
                go_wp2
                first
                  | (go_ret; exact ⟨ret_bool (by rw [HO.out]; rfl), hwr.trans hw3⟩)
                  | (go_roundw
                     case rel => exact ⟨k + 1, by omega, by go_num, by rw [HO.out]; rfl, hle.trans hw3⟩
                     case measure => simp [intOf]; omega)
            · have HF : Hid (okTree xs = false) := by show _ = _; rw [HB1.out, h2]; rfl
              clear HB1
              go_wp2
              go_ret
              exact ⟨ret_bool HF.out.symm, hwr.trans hw3⟩
        · have HF : Hid (okTree xs = true) := by
            show _ = _; rw [HR.out, okFrom_end hlt]; simp; omega
          go_wp2
          go_ret
          exact ⟨ret_bool HF.out.symm, hwr⟩
end

section
/-- what the program asks of a program -/
def liB (xs : List Cls) (p : List Lin) (i : Nat) : Bool := match p[i]? with | some x => lineB xs.length p i x | none => true
theorem liB_at {xs : List Cls} {p : List Lin} {i : Nat} (h : i < p.length) : liB xs p i = lineB xs.length p i p[i] := by unfold liB; rw [List.getElem?_eq_getElem h]
def lastB (p : List Lin) : Bool := decide (0 < p.length) && opn (knd p (p.length - 1))
def vpI (xs : List Cls) (p : List Lin) : Bool := okTree xs && decide (p.length ≤ 24) && (List.range p.length).all (liB xs p) && !lastB p && trB p
theorem all_no {n i : Nat} {f : Nat → Bool} (hi : i < n) (h : f i = false) : (List.range n).all f = false := by
  cases e : (List.range n).all f
  · rfl
  · rw [List.all_eq_true] at e
    rw [e i (List.mem_range.2 hi)] at h; cases h
theorem all_yes {n : Nat} {f : Nat → Bool} (h : ∀ i, i < n → f i = true) : (List.range n).all f = true := by
  rw [List.all_eq_true]; exact fun i hi => h i (List.mem_range.1 hi)
/-- the depths ahead of a line are right when the lines ahead are -/
theorem dep_ahead {xs : List Cls} {p : List Lin} {k : Nat} (hk : k < p.length) (H : ∀ j, j < k → liB xs p j = true) : 0 < k → 0 ≤ dep p (k - 1) ∧ dep p (k - 1) ≤ 5 := fun h0 =>
  ((dep_same p k).2 (fun j hj => ((lineB_iff xs p j (by omega)).1 (by have := H j hj; rw [liB_at (by omega)] at this; exact this)).2.2.1) (k - 1) (by omega)).1
set_option maxHeartbeats 2000000 in
set_option maxRecDepth 100000 in
theorem iValidProgram_any (B A : Option Addr) (m c n cap : Nat) (xs : List Cls) (p : List Lin) (hm : m ≤ 1048576) (w : World) (hT : Sl w B m c xs) (hR : Sl w A n cap p) :
    Calls Tryd.prog 17 #[.agg #[.slice B m c], .slice A n cap] w fun e w' => e = .returned (.bool (vpI xs p)) ∧ Le w w' := by
  obtain rfl := hR.len
  obtain rfl := hT.len
  have HX : Hid (vpI xs p = (okTree xs && decide (p.length ≤ 24) && (List.range p.length).all (liB xs p) && !lastB p && trB p)) := rfl
  go_enter Tryd.func17, Tryd.ntmps17
  go_wp2_with fail
  obtain ⟨ct, zt, hleB⟩ := box1 w (.slice B xs.length c) 31
  have L0 := hleB
  clear hleB
  generalize w.alloc (.cells #[.slice B xs.length c] 31) = W at *
  refine (iValidTree_any B xs.length c xs _ (hT.le L0)).mono ?_
  rintro e w1 ⟨rfl, hle⟩
  replace ct := (hle.cell zt).trans ct
  replace zt := Nat.lt_of_lt_of_le zt hle.size
  replace L0 := L0.trans hle
  clear hle
  cases ht : okTree xs
  · have HF : Hid (vpI xs p = false) := by show _ = _; rw [HX.out, ht]; rfl
    clear HX
    go_wp2
    go_ret
    exact ⟨ret_bool HF.out.symm, L0⟩
  · by_cases h24 : 24 < p.length
    · have h24b : decide ((24 : Int) < (p.length : Int)) = true := decide_eq_true (by omega)
      have HF : Hid (vpI xs p = false) := by show _ = _; rw [HX.out, ht, decide_eq_false (by omega)]; rfl
      clear HX
      go_wp2
      go_ret
      exact ⟨ret_bool HF.out.symm, L0⟩
    · have h24b : decide ((24 : Int) < (p.length : Int)) = false := decide_eq_false (by omega)
      have HY : Hid (vpI xs p = ((List.range p.length).all (liB xs p) && !lastB p && trB p)) := by show _ = _; rw [HX.out, ht, decide_eq_true (by omega), Bool.true_and, Bool.true_and]
      clear HX
      go_wp2
      have S1 := hR.le L0
      clear hR hT
      go_loopw [5, 16] (fun _ q wr => ∃ k : Nat, k ≤ p.length ∧ q = .int .i64 k ∧ (∀ j, j < k → liB xs p j = true) ∧ Le w1 wr) (fun _ q _ => p.length - (intOf q).toNat)
      case atStart => exact ⟨0, Nat.zero_le _, rfl, fun j h => absurd h (by omega), Le.refl _⟩
      case round =>
        obtain ⟨k, hk, rfl, hall, L⟩ := hrel
        have HALL := Lib.hid hall
        clear hall
        have T := S1.le L
        replace ct := (L.cell zt).trans ct
        clear S1
        by_cases hlt : k < p.length
        · have HPR := Lib.hid (dep_ahead hlt HALL.out)
          have HLI := Lib.hid (liB_at (xs := xs) hlt)
          have HNO : Hid (liB xs p k = false → (List.range p.length).all (liB xs p) = false) := all_no hlt
          have HYES : Hid (liB xs p k = true → ∀ j, j < k + 1 → liB xs p j = true) := fun h j hj => by
            by_cases e : j = k
            · rw [e]; exact h
            · exact HALL.out j (by omega)
          go_wp2_with fail
          refine (validLine_any B A xs.length c p.length cap p k hlt hm (by omega) HPR.out wr T).mono ?_
          rintro e w2 ⟨rfl, hl2⟩
          rw [← HLI.out]
          cases hb : liB xs p k
          · have HF : Hid (vpI xs p = false) := by show _ = _; rw [HY.out, HNO.out hb]; rfl
            go_wp2
            go_ret
            exact ⟨ret_bool HF.out.symm, L0.trans (L.trans hl2)⟩
          · have HF := Lib.hid (HYES.out hb)
            go_wp2
            go_roundw
            case rel => exact ⟨k + 1, by omega, by go_num, HF.out, L.trans hl2⟩
            case measure => simp [intOf]; omega
        · obtain rfl : k = p.length := by omega
          have HZ : Hid (vpI xs p = (!lastB p && trB p)) := by show _ = _; rw [HY.out, all_yes HALL.out, Bool.true_and]
          have HLB : Hid (lastB p = (decide (0 < p.length) && opn (knd p (p.length - 1)))) := rfl
          clear HY
          by_cases h0 : 0 < p.length
          · have h0b : decide ((0 : Int) < (p.length : Int)) = true := decide_eq_true (by omega)
            obtain ⟨j, hj⟩ : ∃ j, p.length = j + 1 := ⟨p.length - 1, by omega⟩
            have hjl : j < p.length := by omega
            obtain ⟨b, off, rfl, hb, d0, d1, -⟩ := T.lin_at hjl
            have HK : Hid (lastB p = opn p[j].kind) := by show _ = _; rw [HLB.out, decide_eq_true h0, Bool.true_and, show p.length - 1 = j by omega, knd_at hjl]
            have hwj : IntKind.i64.wrap ((p.length : Int) - 1) = (j : Int) := by rw [show (p.length : Int) - 1 = (j : Int) by omega]; exact IntWalk.i64_in _ (by omega)
            have hj0 : (0 : Int) ≤ (j : Int) := by omega
            have hjn : (j : Int) < (p.length : Int) := by omega
            generalize p[j].kind = vk at *
            clear hj HLB d0
            cases ho : opn vk
            · rw [ho] at HK
              have HF : Hid (vpI xs p = trB p) := by show _ = _; rw [HZ.out, HK.out]; rfl
              clear HZ HK
              go_wp2_with fail
              refine (hasBlock_any vk wr).mono ?_
              rintro e w2 ⟨rfl, rfl⟩
              rw [ho]
              go_wp2_with fail
              refine (validTries_any _ p.length cap p (by omega) wr T).mono ?_
              rintro e w2 ⟨rfl, hl2⟩
              go_wp2
              go_ret
              exact ⟨ret_bool HF.out.symm, L0.trans (L.trans hl2)⟩
            · rw [ho] at HK
              have HF : Hid (vpI xs p = false) := by show _ = _; rw [HZ.out, HK.out]; rfl
              clear HZ HK
              go_wp2_with fail
              refine (hasBlock_any vk wr).mono ?_
              rintro e w2 ⟨rfl, rfl⟩
              rw [ho]
              go_wp2
              go_ret
              exact ⟨ret_bool HF.out.symm, L0.trans L⟩
          · have h0b : decide ((0 : Int) < (p.length : Int)) = false := decide_eq_false (by omega)
            have HK : Hid (lastB p = false) := by show _ = _; rw [HLB.out, decide_eq_false h0]; rfl
            have HF : Hid (vpI xs p = trB p) := by show _ = _; rw [HZ.out, HK.out]; rfl
            clear HZ HK HLB
            go_wp2_with fail
            refine (validTries_any _ p.length cap p (by omega) wr T).mono ?_
            rintro e w2 ⟨rfl, hl2⟩
            go_wp2
            go_ret
            exact ⟨ret_bool HF.out.symm, L0.trans (L.trans hl2)⟩
end

section
def lsB (xs : List Cls) (p : List Lin) (i : Nat) : Bool := match p[i]? with | some x => lineT xs p i x | none => true
theorem lsB_at {xs : List Cls} {p : List Lin} {i : Nat} (h : i < p.length) : lsB xs p i = lineT xs p i p[i] := by unfold lsB; rw [List.getElem?_eq_getElem h]
/-- what the model asks of a program -/
def vp (xs : List Cls) (p : List Lin) : Bool := (List.range p.length).all (lsB xs p) && okTree xs && decide (p.length ≤ 24)
theorem vp_iff {xs : List Cls} {p : List Lin} : vp xs p = true ↔ okTree xs = true ∧ p.length ≤ 24 ∧ ∀ i (h : i < p.length), lineS xs p i p[i] := by
  unfold vp
  rw [Bool.and_eq_true, Bool.and_eq_true, List.all_eq_true, decide_eq_true_eq]
  constructor
  · rintro ⟨⟨h1, h2⟩, h3⟩
    refine ⟨h2, h3, fun i hi => (lineT_iff xs p i hi).1 ?_⟩
    have := h1 i (List.mem_range.2 hi)
    rwa [lsB_at hi] at this
  · rintro ⟨h2, h3, h1⟩
    refine ⟨⟨fun i hi => ?_, h2⟩, h3⟩
    have hi := List.mem_range.1 hi
    rw [lsB_at hi]
    exact (lineT_iff xs p i hi).2 (h1 i hi)
theorem vpI_iff {xs : List Cls} {p : List Lin} : vpI xs p = true ↔ okTree xs = true ∧ p.length ≤ 24 ∧ (∀ i (h : i < p.length), lineI xs p i p[i]) ∧ (∀ h : 0 < p.length, opn (p[p.length - 1]'(by omega)).kind = false) ∧ triesI p := by
  unfold vpI
  rw [Bool.and_eq_true, Bool.and_eq_true, Bool.and_eq_true, Bool.and_eq_true, List.all_eq_true, decide_eq_true_eq, trB_iff]
  have hlast : ((!lastB p) = true) ↔ (∀ h : 0 < p.length, opn (p[p.length - 1]'(by omega)).kind = false) := by
    unfold lastB
    rw [Bool.not_eq_true', Bool.and_eq_false_iff, decide_eq_false_iff_not]
    constructor
    · intro h h0
      have h1 := h.resolve_left (fun e => e h0)
      rwa [knd_at (by omega)] at h1
    · intro h
      by_cases h0 : 0 < p.length
      · refine .inr ?_
        rw [knd_at (by omega)]
        exact h h0
      · exact .inl h0
  rw [hlast]
  constructor
  · rintro ⟨⟨⟨⟨h1, h2⟩, h3⟩, h4⟩, h5⟩
    refine ⟨h1, h2, fun i hi => (lineB_iff xs p i hi).1 ?_, h4, h5⟩
    have := h3 i (List.mem_range.2 hi)
    rwa [liB_at hi] at this
  · rintro ⟨h1, h2, h3, h4, h5⟩
    refine ⟨⟨⟨⟨h1, h2⟩, fun i hi => ?_⟩, h4⟩, h5⟩
    have hi := List.mem_range.1 hi
    rw [liB_at hi]
    exact (lineB_iff xs p i hi).2 (h3 i hi)
theorem vp_same (xs : List Cls) (p : List Lin) : vpI xs p = vp xs p := by
  rw [Bool.eq_iff_iff, vpI_iff, vp_iff]
  refine and_congr_right fun _ => and_congr_right fun _ => ?_
  exact (lines_same xs p).symm
/-- what a valid program is -/
structure GoodP (xs : List Cls) (p : List Lin) : Prop where
  tree : okTree xs = true
  len : p.length ≤ 24
  line : ∀ i (h : i < p.length), lineS xs p i p[i]
  tries : triesI p
theorem goodP_of {xs : List Cls} {p : List Lin} (h : vp xs p = true) : GoodP xs p := by
  have a := vp_iff.1 h
  exact ⟨a.1, a.2.1, a.2.2, ((lines_same xs p).1 a.2.2).2.2⟩
theorem dep_aheadS {xs : List Cls} {p : List Lin} {k : Nat} (hk : k < p.length) (H : ∀ j, j < k → lsB xs p j = true) : 0 < k → 0 ≤ dep p (k - 1) ∧ dep p (k - 1) ≤ 5 := fun h0 => by
  have h := H (k - 1) (by omega)
  rw [lsB_at (by omega)] at h
  exact ((lineT_iff xs p (k - 1) (by omega)).1 h).2.1.1
set_option maxHeartbeats 2000000 in
set_option maxRecDepth 100000 in
theorem svalidProgram_any (B A : Option Addr) (m c n cap : Nat) (xs : List Cls) (p : List Lin) (hsm : p.length ≤ 1048576) (w : World) (hT : Sl w B m c xs) (hR : Sl w A n cap p) :
    Calls Tryd.prog 13 #[.agg #[.slice B m c], .slice A n cap] w fun e w' => e = .returned (.bool (vp xs p)) ∧ Le w w' := by
  obtain rfl := hR.len
  obtain rfl := hT.len
  have HX : Hid (vp xs p = ((List.range p.length).all (lsB xs p) && okTree xs && decide (p.length ≤ 24))) := rfl
  go_enter Tryd.func13, Tryd.ntmps13
  go_wp2_with fail
  obtain ⟨ct, zt, hleB⟩ := box1 w (.slice B xs.length c) 31
  have L0 := hleB
  clear hleB
  generalize w.alloc (.cells #[.slice B xs.length c] 31) = W at *
  have S1 := hR.le L0
  have T1 := hT.le L0
  clear hR hT
  go_loopw [5] (fun q wr => ∃ k : Nat, k ≤ p.length ∧ q = .int .i64 k ∧ (∀ j, j < k → lsB xs p j = true) ∧ Le W wr) (fun q _ => p.length - (intOf q).toNat)
  case atStart => exact ⟨0, Nat.zero_le _, rfl, fun j h => absurd h (by omega), Le.refl _⟩
  case round =>
    obtain ⟨k, hk, rfl, hall, L⟩ := hrel
    have HALL := Lib.hid hall
    clear hall
    have S := S1.le L
    have T := T1.le L
    replace ct := (L.cell zt).trans ct
    clear S1 T1
    by_cases hlt : k < p.length
    · have HPR := Lib.hid (dep_aheadS hlt HALL.out)
      have HLI := Lib.hid (lsB_at (xs := xs) hlt)
      have HNO : Hid (lsB xs p k = false → (List.range p.length).all (lsB xs p) = false) := all_no hlt
      have HYES : Hid (lsB xs p k = true → ∀ j, j < k + 1 → lsB xs p j = true) := fun h j hj => by
        by_cases e : j = k
        · rw [e]; exact h
        · exact HALL.out j (by omega)
      go_wp2_with fail
      refine (sValidLine_any B A xs.length c p.length cap xs p k hlt hsm HPR.out wr T S).mono ?_
      rintro e w2 ⟨rfl, hl2⟩
      rw [← HLI.out]
      cases hb : lsB xs p k
      · have HF : Hid (vp xs p = false) := by show _ = _; rw [HX.out, HNO.out hb]; rfl
        go_wp2
        go_ret
        exact ⟨ret_bool HF.out.symm, L0.trans (L.trans hl2)⟩
      · have HF := Lib.hid (HYES.out hb)
        go_wp2
        go_roundw
        case rel => exact ⟨k + 1, by omega, by go_num, HF.out, L.trans hl2⟩
        case measure => simp [intOf]; omega
    · obtain rfl : k = p.length := by omega
      have HZ : Hid (vp xs p = (okTree xs && decide (p.length ≤ 24))) := by show _ = _; rw [HX.out, all_yes HALL.out, Bool.true_and]
      clear HX
      go_wp2_with fail
      refine (validTree_any B xs.length c xs wr T).mono ?_
      rintro e w2 ⟨rfl, hl2⟩
      cases ht : okTree xs
      · have HF : Hid (vp xs p = false) := by show _ = _; rw [HZ.out, ht]; rfl
        go_wp2
        go_ret
        exact ⟨ret_bool HF.out.symm, L0.trans (L.trans hl2)⟩
      · have HF : Hid (vp xs p = decide ((p.length : Int) ≤ 24)) := by show _ = _; rw [HZ.out, ht, Bool.true_and]; exact decide_eq_decide.2 (by omega)
        go_wp2
        go_ret
        exact ⟨ret_bool HF.out.symm, L0.trans (L.trans hl2)⟩
/-- the program's answer in the model's word -/
theorem pValidProgram_any (B A : Option Addr) (m c n cap : Nat) (xs : List Cls) (p : List Lin) (hm : m ≤ 1048576) (w : World) (hT : Sl w B m c xs) (hR : Sl w A n cap p) :
    Calls Tryd.prog 17 #[.agg #[.slice B m c], .slice A n cap] w fun e w' => e = .returned (.bool (vp xs p)) ∧ Le w w' := by
  rw [← vp_same]
  exact iValidProgram_any B A m c n cap xs p hm w hT hR
end

section
theorem vP_iff {xs : List Cls} {p : List Lin} : vp xs p = true ↔ VP xs p := vp_iff
theorem vP_no {xs : List Cls} {p : List Lin} (h : vp xs p = false) : ¬ VP xs p := fun h2 => by
  rw [vP_iff.2 h2] at h; cases h
/-- the text of any lines -/
def ptP (xs : List Cls) (p : List Lin) : ByteArray := cond (vp xs p) (tb (pgB xs p)) ByteArray.empty
theorem ptP_of {xs : List Cls} {p : List Lin} {b : Bool} (h : vp xs p = b) : ptP xs p = cond b (tb (pgB xs p)) ByteArray.empty := by unfold ptP; rw [h]
theorem ptP_len (xs : List Cls) (p : List Lin) : (ptP xs p).size ≤ 744 := by
  cases h : vp xs p
  · rw [ptP_of h]; exact Nat.zero_le _
  · rw [ptP_of h]; exact pg_len (vP_iff.1 h)
set_option maxHeartbeats 4000000 in
set_option maxRecDepth 100000 in
theorem iProgramText_any (B A : Option Addr) (m c n cap : Nat) (xs : List Cls) (L : List Lin) (w : World) (hm : m ≤ 1048576) (hT : Sl w B m c xs) (hR : Sl w A n cap L) (hX : LnW w) (hN : TabW w) :
    Calls Tryd.prog 9 #[.agg #[.slice B m c], .slice A n cap] w fun e w' => e = .returned (.string (ptP xs L)) ∧ Le w w' := by
  obtain rfl := hR.len
  go_enter Tryd.func9, Tryd.ntmps9
  go_wp2_with fail
  obtain ⟨c0, z0, L0⟩ := box1 w (.slice B m c) 31
  have ST := hT.le L0
  have S := hR.le L0
  generalize w.alloc (.cells #[.slice B m c] 31) = W at *
  refine (pValidProgram_any B A m c L.length cap xs L hm W ST S).mono ?_
  rintro e w1 ⟨rfl, hle⟩
  replace c0 := (hle.cell z0).trans c0
  replace z0 := Nat.lt_of_lt_of_le z0 hle.size
  replace L0 := L0.trans hle
  replace ST := ST.le hle
  replace S := S.le hle
  clear hle
  cases ho : vp xs L
  · have HX := Lib.hid (ptP_of ho)
    clear ho
    go_wp2
    go_ret
    exact ⟨ret_str HX.out.symm, L0⟩
  have HX := Lib.hid (ptP_of ho)
  have hva := vP_iff.1 ho
  have HG := Lib.hid (good_of hva.1)
  have HOK : Hid (∀ x ∈ L, numS xs x.kind x.a x.b = true ∧ 0 ≤ x.depth ∧ x.depth ≤ 5) := fun x hx => hva.line hx
  have HPL := Lib.hid (pg_pre hva)
  have hl24 := hva.2.1
  have hB0 := bl_fresh w1
  have HC := Lib.hid c0
  have HT := Lib.hid ST
  have HS := Lib.hid S
  have HL := Lib.hid L0
  have HXW := Lib.hid (hX.le L0)
  have HTW := Lib.hid (hN.le L0)
  clear ho hva hX hN hT hR
  go_wp2_with fail
  have LB := Le.new w1 (.cells #[.pointer none, .slice none 0 0] 48)
  generalize w1.alloc (.cells #[.pointer none, .slice none 0 0] 48) = W2 at *
  have hsz : w1.heap.size < W2.heap.size := hB0.elim (fun h => h.lt) (fun h => h.lt)
  go_wp2
  clear c0 ST S L0
  go_loopw [14] (fun i wr => ∃ k : Nat, k ≤ L.length ∧ i = .int .i64 k ∧ Bl w1.heap.size w1.heap.size (pgB xs (L.take k)) wr ∧ w1.heap.size < wr.heap.size ∧ Le w1 wr) (fun i _ => L.length - (intOf i).toNat)
  case atStart => exact ⟨0, Nat.zero_le _, rfl, hB0, hsz, LB⟩
  case round =>
    clear hB0 LB hsz
    obtain ⟨k, hk, rfl, hB, hz, LR⟩ := hrel
    have hal := HPL.out k
    by_cases hlt : k < L.length
    · have hkl : (k : Int) < (L.length : Int) := by omega
      have c0 := (LR.cell z0).trans HC.out
      have zp : w.heap.size < wr.heap.size := by omega
      have S := HS.out.le LR
      have hxk := HOK.out _ (List.getElem_mem hlt)
      obtain ⟨b, off, rfl, hbl, q0, q1, q2, q3, -⟩ := S.lin_at hlt
      have HNX := Lib.hid (pg_takeL (xs := xs) hlt)
      have HXT := Lib.hid (fun W T X N => ilineText_any B m c xs L[k] W T HG.out hxk.1 hxk.2.1 X N)
      have hxl : (tb (lnT xs L[k])).size ≤ 30 := lnT_len HG.out hxk.1 hxk.2.1 hxk.2.2
      obtain ⟨D, hD⟩ : ∃ D : Nat, L[k].depth = D := ⟨L[k].depth.toNat, by omega⟩
      have hD5 : D ≤ 5 := by omega
      have hrs : (tb (List.replicate D (32 : UInt8))).size ≤ 5 := by rw [tb_size, List.length_replicate]; exact hD5
      rw [hD] at HNX HXT q0
      rw [Int.toNat_natCast] at HNX
      have HRP := Lib.hid (fun W => repeat_any D W (by omega))
      have HNY : Hid (pgB xs (L.take (k + 1)) = pgB xs (L.take k) ++ bl (tb (List.replicate D 32) ++ tb (lnT xs L[k]) ++ nlT)) := by
        show _ = _; rw [HNX.out, bl_app, bl_app, bl_tb, bl_tb, bl_nl]
      clear HNX hD
      generalize tb (List.replicate D (32 : UInt8)) = rp at *
      generalize tb (lnT xs L[k]) = tx at *
      generalize L[k].kind = vk at *
      generalize L[k].a = va at *
      generalize L[k].b = vb at *
      clear hxk S
      go_wp2_with fail
      have LA := Le.new wr (.cells #[.int .i64 D, .int .i64 vk, .int .i64 va, .int .i64 vb] 42)
      have X4 := linAt_new wr D vk va vb 42
      have LRA := LR.trans LA
      have hBA := hB.below LA
      have c0' := (LA.cell zp).trans c0
      generalize wr.alloc (.cells #[.int .i64 D, .int .i64 vk, .int .i64 va, .int .i64 vb] 42) = wa at *
      clear q0 q1 q2 q3 hB LA c0
      have s1 : ∀ W, (Op.stringOp .add rp tx).run Tryd.prog W = .ok (.string (rp ++ tx)) W := fun W => run_string_add W rp tx (by omega) (by omega)
      have y1 : (rp ++ tx).size ≤ 35 := by rw [ByteArray.size_append]; omega
      obtain ⟨t1, ht1⟩ : ∃ t, rp ++ tx = t := ⟨_, rfl⟩
      rw [ht1] at s1 y1 HNY
      have s2 : ∀ W, (Op.stringOp .add t1 ⟨#[10]⟩).run Tryd.prog W = .ok (.string (t1 ++ nlT)) W := fun W => run_string_add W t1 nlT (by omega) (by decide)
      have y2 : (t1 ++ nlT).size ≤ 36 := by rw [ByteArray.size_append]; have : nlT.size = 1 := rfl; omega
      obtain ⟨t2, ht2⟩ : ∃ t, t1 ++ nlT = t := ⟨_, rfl⟩
      rw [ht2] at s2 y2 HNY
      clear ht1 ht2 hxl hrs
      obtain ⟨d0, d1, d2, d3, zx, -⟩ := X4
      dsimp only at d0 d1 d2 d3
      have zp2 : w.heap.size < wa.drew.heap.size := by show _ < wa.heap.size; omega
      have zx2 : wr.heap.size < wa.drew.heap.size := zx
      have f0 : wa.drew.cell? ⟨w.heap.size, 0, none⟩ = some (.slice B m c) := c0'
      have e0 : wa.drew.cell? ⟨wr.heap.size, 0, none⟩ = some (.int .i64 D) := d0
      have e1 : wa.drew.cell? ⟨wr.heap.size, 1, none⟩ = some (.int .i64 vk) := d1
      have e2 : wa.drew.cell? ⟨wr.heap.size, 2, none⟩ = some (.int .i64 va) := d2
      have e3 : wa.drew.cell? ⟨wr.heap.size, 3, none⟩ = some (.int .i64 vb) := d3
      have LRd := LRA.trans (Le.refl wa).drew
      have hBd := hBA.below (Le.refl wa).drew
      clear c0' d0 d1 d2 d3 zx LRA hBA
      refine wp_region_Z (fun w' => w'.cell? ⟨w.heap.size, 0, none⟩ = some (.slice B m c) ∧ w'.cell? ⟨wr.heap.size, 0, none⟩ = some (.int .i64 D) ∧ w'.cell? ⟨wr.heap.size, 1, none⟩ = some (.int .i64 vk) ∧ w'.cell? ⟨wr.heap.size, 2, none⟩ = some (.int .i64 va) ∧ w'.cell? ⟨wr.heap.size, 3, none⟩ = some (.int .i64 vb)) [8] (by kernel_rfl) ?_
      generalize wa.drew = WD at *
      refine wpAnyZ_take (i := 0) (v := ?_) rfl (by kernel_rfl) (fun _ _ _ h => h) (Or.inl ⟨by rfl, ?_⟩) (⟨f0, e0, e1, e2, e3⟩) ?_
      rotate_left 1
      · (intro w hSw; (try dsimp only at hSw); go_simp; try with_reducible rfl)
      try simp only [Act.put, List.setIfInBounds_toArray, List.set_cons_zero, List.set_cons_succ]
      refine wpAnyZ_take (i := 1) (v := ?_) rfl (by kernel_rfl) (fun _ _ _ h => h) (Or.inl ⟨by rfl, ?_⟩) (⟨f0, e0, e1, e2, e3⟩) ?_
      rotate_left 1
      · (intro w hSw; (try dsimp only at hSw); go_simp; try with_reducible rfl)
      try simp only [Act.put, List.setIfInBounds_toArray, List.set_cons_zero, List.set_cons_succ]
      refine wpAnyZ_take (i := 3) (v := ?_) rfl (by kernel_rfl) (fun _ _ _ h => h) (Or.inl ⟨by rfl, ?_⟩) (⟨f0, e0, e1, e2, e3⟩) ?_
      rotate_left 1
      · (intro w hSw; (try dsimp only at hSw); go_simp; try with_reducible rfl)
      try simp only [Act.put, List.setIfInBounds_toArray, List.set_cons_zero, List.set_cons_succ]
      refine wpAnyZ_take (i := 4) (v := ?_) rfl (by kernel_rfl) (fun _ _ _ h => h) (Or.inl ⟨by rfl, ?_⟩) (⟨f0, e0, e1, e2, e3⟩) ?_
      rotate_left 1
      · (intro w hSw; (try dsimp only at hSw); go_simp; try with_reducible rfl)
      try simp only [Act.put, List.setIfInBounds_toArray, List.set_cons_zero, List.set_cons_succ]
      refine wpAnyZ_one (i := 2) (by kernel_rfl) (ReadyZ.mk rfl (fun K hK => ?_))
      go_simp
      go_at_call 19
      refine (HRP.out WD).mono ?_
      rintro e wb ⟨rfl, hle⟩
      have LRb := LRd.trans hle
      have hBb := hBd.below hle
      replace f0 := (hle.cell zp2).trans f0
      replace e0 := (hle.cell zx2).trans e0
      replace e1 := (hle.cell zx2).trans e1
      replace e2 := (hle.cell zx2).trans e2
      replace e3 := (hle.cell zx2).trans e3
      replace zp2 := Nat.lt_of_lt_of_le zp2 hle.size
      replace zx2 := Nat.lt_of_lt_of_le zx2 hle.size
      clear hle LRd hBd
      dsimp only
      refine hK.out _ _ (fun _ => ⟨f0, e0, e1, e2, e3⟩) ?_
      clear hK K
      try simp only [Act.put, List.setIfInBounds_toArray, List.set_cons_zero, List.set_cons_succ]
      refine wpAnyZ_one (i := 5) (by kernel_rfl) (ReadyZ.mk rfl (fun K hK => ?_))
      go_simp
      go_at_call 20
      refine (HXT.out wb (HT.out.le LRb) (HXW.out.le LRb) (HTW.out.le LRb)).mono ?_
      rintro e wc ⟨rfl, hle⟩
      have LRc := LRb.trans hle
      have hBc := hBb.below hle
      replace f0 := (hle.cell zp2).trans f0
      replace e0 := (hle.cell zx2).trans e0
      replace e1 := (hle.cell zx2).trans e1
      replace e2 := (hle.cell zx2).trans e2
      replace e3 := (hle.cell zx2).trans e3
      have szc := hle.size
      have szc2 := LRc.size
      clear hle LRb hBb zp2
      dsimp only
      refine hK.out _ _ (fun _ => ⟨f0, e0, e1, e2, e3⟩) ?_
      clear hK K
      try simp only [Act.put, List.setIfInBounds_toArray, List.set_cons_zero, List.set_cons_succ]
      refine wpAnyZ_take (i := 6) (v := ?_) rfl (by kernel_rfl) (fun _ _ _ h => h) (Or.inl ⟨by rfl, ?_⟩) (⟨f0, e0, e1, e2, e3⟩) ?_
      rotate_left 1
      · (intro w hSw; (try dsimp only at hSw); go_simp; try with_reducible rfl)
      try simp only [Act.put, List.setIfInBounds_toArray, List.set_cons_zero, List.set_cons_succ]
      refine wpAnyZ_take (i := 7) (v := ?_) rfl (by kernel_rfl) (fun _ _ _ h => h) (Or.inl ⟨by rfl, ?_⟩) (⟨f0, e0, e1, e2, e3⟩) ?_
      rotate_left 1
      · (intro w hSw; (try dsimp only at hSw); go_simp; try with_reducible rfl)
      try simp only [Act.put, List.setIfInBounds_toArray, List.set_cons_zero, List.set_cons_succ]
      refine wpAnyZ_one (i := 8) (by kernel_rfl) (ReadyZ.mk rfl (fun K hK => ?_))
      go_simp
      go_at_call 18
      refine (writeString_any w1.heap.size w1.heap.size (pgB xs (L.take k)) t2 wc hBc (by omega) (by omega)).mono ?_
      rintro e wd ⟨rfl, hB3, hb3, hk3⟩
      have LRD : Le w1 wd := Below.trans LRc hb3
      have szd := hb3.size
      rw [← HNY.out] at hB3
      clear hBc hb3 hk3 LRc f0 e0 e1 e2 e3
      dsimp only
      refine hK.out _ _ (fun h => absurd h (by decide)) ?_
      clear hK K
      try simp only [Act.put, List.setIfInBounds_toArray, List.set_cons_zero, List.set_cons_succ]
      refine wpAnyZ_done (by kernel_rfl) ?_ _
      go_wp2
      go_roundw
      case rel => exact ⟨k + 1, by omega, by go_num, hB3, by omega, LRD⟩
      case measure => (simp [intOf]) <;> omega
    · have hkl : ¬ (k : Int) < (L.length : Int) := by omega
      have hkk : k = L.length := by omega
      have HE : Hid (pgB xs (L.take k) = pgB xs L) := by show _ = _; rw [hkk, List.take_length]
      rw [HE.out] at hB hal
      clear hkk
      go_wp2_with fail
      refine (builderText_any w1.heap.size w1.heap.size (pgB xs L) wr hB (by omega)).mono ?_
      rintro e wb ⟨rfl, hb2⟩
      have LF : Le w wb := HL.out.trans (Below.trans LR hb2)
      go_wp2
      go_ret
      exact ⟨ret_str (by rw [HX.out]; rfl), LF⟩
end
end Go.Proofs.YtkcnjoikdalgjaaDoor
