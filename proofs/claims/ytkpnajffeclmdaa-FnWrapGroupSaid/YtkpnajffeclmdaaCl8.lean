/- one text of C, D, GI, GJ, GK, GL -/
import Derived.Test.YtkpnajffeclmdaaCl2
import Derived.Test.YtkpnajffeclmdaaCl6
import Derived.Test.YtkpnajffeclmdaaCl7
namespace Go.Proofs.Ytkpnajffeclmdaa
open Go.RowKit
set_option linter.unusedVariables false
section
theorem findN_range (xs : List Cls) (s : ByteArray) : ∀ j : Int, 0 ≤ j → findN xs s j = -1 ∨ (j ≤ findN xs s j ∧ findN xs s j < j + xs.length) := by
  induction xs with
  | nil => intro j _; exact .inl rfl
  | cons c r ih =>
    intro j hj
    unfold findN
    split
    · right; simp; omega
    · rcases ih (j + 1) (by omega) with h | ⟨h1, h2⟩
      · exact .inl h
      · right; simp; omega
theorem findN_append (xs ys : List Cls) (s : ByteArray) : ∀ j : Int, 0 ≤ j → findN (xs ++ ys) s j = if 0 ≤ findN xs s j then findN xs s j else findN ys s (j + xs.length) := by
  induction xs with
  | nil => intro j _; simp [findN]
  | cons c r ih =>
    intro j hj
    rw [List.cons_append, findN_cons, findN_cons]
    by_cases h : c.name = s
    · rw [if_pos h, if_pos h, if_pos hj]
    · rw [if_neg h, if_neg h, ih (j + 1) (by omega)]
      have e : j + 1 + (r.length : Int) = j + ((c :: r).length : Int) := by simp; omega
      rw [e]
theorem findN_self {xs : List Cls} {k : Nat} (h : k < xs.length) : (findN xs xs[k].name 0 == (k : Int)) = !decide (0 ≤ findN (xs.take k) xs[k].name 0) := by
  have e : xs = xs.take k ++ xs[k] :: xs.drop (k + 1) := by rw [← List.drop_eq_getElem_cons h, List.take_append_drop]
  have e2 : findN xs xs[k].name 0 = findN (xs.take k ++ xs[k] :: xs.drop (k + 1)) xs[k].name 0 := by rw [← e]
  rw [e2, findN_append _ _ _ _ (by omega)]
  have hl : (xs.take k).length = k := by rw [List.length_take]; omega
  rcases findN_range (xs.take k) xs[k].name 0 (by omega) with h1 | ⟨h1, h2⟩
  · rw [h1, if_neg (by omega)]
    unfold findN
    rw [if_pos rfl, hl]
    simp
  · rw [if_pos h1, decide_eq_true h1]
    rw [hl] at h2
    simp; omega
theorem parent_i (p : Int) (k : Nat) : ((k : Int) == 0 && p != -1 || decide (0 < (k : Int)) && !(decide (0 ≤ p) && decide (p ≤ (k : Int) - 1))) = (((p == -1) != ((k : Int) == 0)) || decide (p < -1) || decide ((k : Int) ≤ p)) := by
  rcases Nat.eq_zero_or_pos k with rfl | hk
  · by_cases hp : p = -1
    · subst hp; rfl
    · have h1 : (p == -1) = false := by simpa using hp
      simp [h1, bne]
  · have h0 : ((k : Int) == 0) = false := by simp; omega
    have h2 : decide (0 < (k : Int)) = true := by simp; omega
    rw [h0, h2, Bool.false_and, Bool.true_and, Bool.false_or, Bool.eq_iff_iff]
    by_cases hp : p = -1
    · subst hp; simp
    · have h1 : (p == -1) = false := by simpa using hp
      rw [h1]
      simp only [Bool.not_eq_true', Bool.and_eq_false_iff, decide_eq_false_iff_not, Bool.or_eq_true, decide_eq_true_eq, bne]
      simp
      omega
theorem badCls_i {xs : List Cls} {k : Nat} (h : k < xs.length) : badCls xs k xs[k] = ((!okName xs[k].name || findN xs xs[k].name 0 != (k : Int)) || (((xs[k].parent == -1) != ((k : Int) == 0)) || decide (xs[k].parent < -1) || decide ((k : Int) ≤ xs[k].parent))) := by
  unfold badCls
  have hs := findN_self h
  have hn : (findN xs xs[k].name 0 != (k : Int)) = decide (0 ≤ findN (xs.take k) xs[k].name 0) := by rw [bne, hs, Bool.not_not]
  rw [hn]
  generalize okName xs[k].name = a
  generalize decide (0 ≤ findN (xs.take k) xs[k].name 0) = b
  generalize xs[k].parent = p
  rw [Bool.or_assoc, parent_i]

theorem ivalidName_any (s : ByteArray) (w : World) (hs : s.size ≤ 9223372036854775807) : Calls Try.prog 72 #[.string s] w fun e w' => e = .returned (.bool (okName s)) ∧ w = w' := by
  by_cases hlo : s.size < 1
  · have HF : Hid (okName s = false) := by show _ = _; unfold okName; rw [decide_eq_false (p := 1 ≤ s.size) (by omega)]; simp
    go_enter Try.func72, Try.ntmps72
    go_wp2
    go_ret
    exact ⟨ret_bool HF.out.symm, rfl⟩
  · by_cases hhi : 6 < s.size
    · have HF : Hid (okName s = false) := by show _ = _; unfold okName; rw [decide_eq_false (p := s.size ≤ 6) (by omega)]; simp
      go_enter Try.func72, Try.ntmps72
      go_wp2
      go_ret
      exact ⟨ret_bool HF.out.symm, rfl⟩
    · have d1 : decide ((s.size : Int) < 1) = false := decide_eq_false (by omega)
      have d2 : decide (6 < (s.size : Int)) = false := decide_eq_false (by omega)
      go_enter Try.func72, Try.ntmps72
      go_wp2
      go_loop [14] (fun i => ∃ k : Nat, k ≤ s.size ∧ i = .int .i64 k ∧ lowers s.data.toList = lowers (s.data.toList.drop k)) (fun i => s.size - (intOf i).toNat)
      case atStart => exact ⟨0, Nat.zero_le _, rfl, rfl⟩
      case round =>
        obtain ⟨k, hk, rfl, hr⟩ := hrel
        have HR := Lib.hid hr; clear hr
        by_cases hlt : k < s.size
        · have hc : 0 ≤ (s[k].toNat : Int) ∧ (s[k].toNat : Int) ≤ 255 := by have := UInt8.toNat_lt s[k]; omega
          by_cases h1 : s[k].toNat < 97
          · have HF : Hid (okName s = false) := by show _ = _; unfold okName; rw [HR.out, lowers_at hlt, decide_eq_false (p := 97 ≤ s[k].toNat) (by omega)]; rfl
            go_wp2
            go_ret
            exact ⟨ret_bool HF.out.symm, rfl⟩
          · by_cases h2 : 122 < s[k].toNat
            · have HF : Hid (okName s = false) := by show _ = _; unfold okName; rw [HR.out, lowers_at hlt, decide_eq_false (p := s[k].toNat ≤ 122) (by omega)]; simp
              go_wp2
              go_ret
              exact ⟨ret_bool HF.out.symm, rfl⟩
            · have HF : Hid (lowers s.data.toList = lowers (s.data.toList.drop (k + 1))) := by show _ = _; rw [HR.out, lowers_at hlt, decide_eq_true (p := 97 ≤ s[k].toNat) (by omega), decide_eq_true (p := s[k].toNat ≤ 122) (by omega)]; rfl
              go_wp2
              go_round
              case rel => exact ⟨k + 1, by omega, by go_num, HF.out⟩
              case measure => simp [intOf]; omega
        · have HF : Hid (okName s = true) := by
            show _ = _; unfold okName; rw [HR.out, lowers_end hlt, decide_eq_true (p := 1 ≤ s.size) (by omega), decide_eq_true (p := s.size ≤ 6) (by omega)]; rfl
          go_wp2
          go_ret
          exact ⟨ret_bool HF.out.symm, rfl⟩

theorem closure_any (c : Cls) (s : ByteArray) (g : Nat) (w : World) (hg : w.cell? ⟨g, 0, none⟩ = some (.string s)) (hlt : g < w.heap.size) :
    Calls Try.prog 87 #[.agg #[.string c.name, .int .i64 c.parent], .pointer (some ⟨g, 0, none⟩)] w fun e w' => e = .returned (.bool (c.name.toList == s.toList)) ∧ Le w w' := by
  have hg' : (w.alloc (.cells #[.string c.name, .int .i64 c.parent] 104)).cell? ⟨g, 0, none⟩ = some (.string s) := ((Le.new w _).cell hlt).trans hg
  go_enter Try.func87, Try.ntmps87
  go_wp2
  go_ret
  exact ⟨rfl, Le.new w _⟩

theorem indexFunc_any (A : Option Addr) (n cap : Nat) (xs : List Cls) (s : ByteArray) (g : Nat) (w : World) (hR : Sl w A n cap xs) (hg : w.cell? ⟨g, 0, none⟩ = some (.string s)) (hgl : g < w.heap.size) :
    Calls Try.prog 86 #[.slice A n cap, .func (.func 87) #[] #[.pointer (some ⟨g, 0, none⟩)]] w fun e w' => e = .returned (.int .i64 (findN xs s 0)) ∧ Le w w' := by
  obtain rfl := hR.len
  have hm := hR.n_le
  go_enter Try.func86, Try.ntmps86
  go_wp2
  go_loopw [8] (fun i wr => ∃ k : Nat, k ≤ xs.length ∧ i = .int .i64 k ∧ findN xs s 0 = findN (xs.drop k) s k ∧ Le w wr) (fun i _ => xs.length - (intOf i).toNat)
  case atStart => exact ⟨0, Nat.zero_le _, rfl, rfl, Le.refl _⟩
  case round =>
    obtain ⟨k, hk, rfl, hr, hle⟩ := hrel
    have HR := Lib.hid hr; clear hr
    have hRr := hR.le hle
    have hgr := (hle.cell hgl).trans hg
    have hgz : g < wr.heap.size := Nat.lt_of_lt_of_le hgl hle.size
    clear hR hg
    by_cases hlt : k < xs.length
    · obtain ⟨b, off, rfl, _, hcell, hcell2, _, _, _⟩ := hRr.cls_at hlt
      by_cases he : xs[k].name = s
      · have he' := str_eq he
        have HF : Hid (findN xs s 0 = k) := by show _ = _; rw [HR.out, findN_at hlt, if_pos he]
        clear he
        go_wp2_with (go_at_call 87; refine (closure_any xs[k] s g _ hgr hgz).mono ?_; rintro e w' ⟨rfl, hw1⟩)
        go_ret
        exact ⟨ret_int HF.out.symm, hle.trans hw1⟩
      · have he' := str_ne he
        have HF : Hid (findN xs s 0 = findN (xs.drop (k + 1)) s ((k + 1 : Nat) : Int)) := by show _ = _; rw [HR.out, findN_at hlt, if_neg he]; rfl
        clear he
        go_wp2_with (go_at_call 87; refine (closure_any xs[k] s g _ hgr hgz).mono ?_; rintro e w' ⟨rfl, hw1⟩)
        go_roundw
        case rel => exact ⟨k + 1, by omega, by go_num, HF.out, hle.trans hw1⟩
        case measure => simp [intOf]; omega
    · have HF : Hid (findN xs s 0 = -1) := by show _ = _; rw [HR.out, findN_end hlt]
      go_wp2
      go_ret
      exact ⟨ret_int HF.out.symm, hle⟩

theorem indexOfName_any (A : Option Addr) (n cap : Nat) (xs : List Cls) (s : ByteArray) (w : World) (hR : Sl w A n cap xs) :
    Calls Try.prog 73 #[.slice A n cap, .string s] w fun e w' => e = .returned (.int .i64 (findN xs s 0)) ∧ Le w w' := by
  go_enter Try.func73, Try.ntmps73
  go_wp2_with fail
  refine (indexFunc_any A n cap xs s _ _ (hR.alloc _) (by simp) (by simp)).mono ?_
  rintro e w' ⟨rfl, hw1⟩
  go_wp2
  go_ret
  exact ⟨rfl, (Le.new w _).trans hw1⟩
end

section
set_option maxHeartbeats 8000000 in
theorem iValidTree_any (A : Option Addr) (n cap : Nat) (xs : List Cls) (w : World) (hR : Sl w A n cap xs) :
    Calls Try.prog 40 #[.agg #[.slice A n cap]] w fun e w' => e = .returned (.bool (okTree xs)) ∧ Le w w' := by
  obtain rfl := hR.len
  have hm := hR.n_le
  have hcp := hR.cap_
  have HL : xs.length < 1 ∨ 8 < xs.length → ∀ k, k ≤ xs.length → okFrom xs k (xs.drop k) = false := by
    intro h k hk
    obtain ⟨m, hm⟩ : ∃ m, xs.length - k = m := ⟨_, rfl⟩
    induction m generalizing k with
    | zero => rw [okFrom_end (by omega)]; simp; omega
    | succ m ih => rw [okFrom_at (by omega), ih (k + 1) (by omega) (by omega), Bool.and_false]
  by_cases h1 : xs.length < 1
  · have HF : Hid (okTree xs = false) := HL (.inl h1) 0 (Nat.zero_le _)
    clear HL
    go_enter Try.func40, Try.ntmps40
    go_wp2
    go_ret
    exact ⟨ret_bool HF.out.symm, Le.new w _⟩
  · by_cases h8 : 8 < xs.length
    · have HF : Hid (okTree xs = false) := HL (.inr h8) 0 (Nat.zero_le _)
      clear HL
      go_enter Try.func40, Try.ntmps40
      go_wp2
      go_ret
      exact ⟨ret_bool HF.out.symm, Le.new w _⟩
    · clear HL
      have d1 : decide ((xs.length : Int) < 1) = false := decide_eq_false (by omega)
      have d2 : decide (8 < (xs.length : Int)) = false := decide_eq_false (by omega)
      go_enter Try.func40, Try.ntmps40
      go_wp2
      go_loopw [19] (fun i wr => ∃ k : Nat, k ≤ xs.length ∧ i = .int .i64 k ∧ okTree xs = okFrom xs k (xs.drop k) ∧ Le (w.alloc (.cells #[.slice A xs.length cap] 25)) wr) (fun i _ => xs.length - (intOf i).toNat)
      case atStart => exact ⟨0, Nat.zero_le _, rfl, rfl, Le.refl _⟩
      case round =>
        obtain ⟨k, hk, rfl, hr, hle⟩ := hrel
        have HR := Lib.hid hr; clear hr
        have hz : w.heap.size < wr.heap.size := by have := hle.size; simp at this; omega
        have hT : wr.cell? ⟨w.heap.size, 0, none⟩ = some (.slice A xs.length cap) := by
          rw [hle.cell (by simp)]; simp
        have hwr : Le w wr := (Le.new w _).trans hle
        have hRr := hR.le hwr
        clear hR
        by_cases hlt : k < xs.length
        · obtain ⟨b, off, rfl, hb, hcell, hcell2, hns, hp1, hp2⟩ := hRr.cls_at hlt
          have HB : Hid (okTree xs = (!badCls xs k xs[k] && okFrom xs (k + 1) (xs.drop (k + 1)))) := by show _ = _; rw [HR.out, okFrom_at hlt]
          cases h1 : okName xs[k].name
          · have HF : Hid (okTree xs = false) := by show _ = _; rw [HB.out, badCls_i hlt, h1]; rfl
            clear HB
            go_wp2_with (go_at_call 72; refine (ivalidName_any _ _ hns).mono ?_; rintro e w' ⟨rfl, rfl⟩; rw [h1])
            go_ret
            exact ⟨ret_bool HF.out.symm, hwr.trans (Le.new _ _)⟩
          · have HB1 : Hid (okTree xs = (!(findN xs xs[k].name 0 != (k : Int) || (((xs[k].parent == -1) != ((k : Int) == 0)) || decide (xs[k].parent < -1) || decide ((k : Int) ≤ xs[k].parent))) && okFrom xs (k + 1) (xs.drop (k + 1)))) := by
              show _ = _; rw [HB.out, badCls_i hlt, h1]; rfl
            clear HB
            go_wp2_with (go_at_call 72; refine (ivalidName_any _ _ hns).mono ?_; rintro e w' ⟨rfl, rfl⟩; rw [h1])
            refine (indexOfName_any _ _ _ _ _ _ (hRr.alloc _)).mono ?_
            rintro e w3 ⟨rfl, h3⟩
            have e2 : w3.cell? ⟨wr.heap.size, 1, none⟩ = some (.int .i64 xs[k].parent) := (h3.cell (by simp)).trans (by simp)
            have hw3 : Le wr w3 := (Le.new _ _).trans h3
            clear hcell hcell2 hT h3
            cases h2 : findN xs xs[k].name 0 != (k : Int)
            · cases h4 : xs[k].parent == -1
              all_goals cases h5 : (k : Int) == 0
              all_goals cases h6 : decide (xs[k].parent < -1)
              all_goals cases h7 : decide ((k : Int) ≤ xs[k].parent)
              all_goals
                have hout := HB1.out
                simp only [h2, h4, h5, h6, h7] at hout
                have HO := Lib.hid hout
                clear hout HB1
                go_wp2
                first
                  | (go_ret; exact ⟨ret_bool (by rw [HO.out]; rfl), hwr.trans hw3⟩)
                  | (go_roundw
                     case rel => exact ⟨k + 1, by omega, by go_num, by rw [HO.out]; rfl, hle.trans hw3⟩
                     case measure => simp [intOf]; omega)
            · have HF : Hid (okTree xs = false) := by show _ = _; rw [HB1.out, h2]; rfl
              clear HB1
              go_wp2
              go_ret
              exact ⟨ret_bool HF.out.symm, hwr.trans hw3⟩
        · have HF : Hid (okTree xs = true) := by
            show _ = _; rw [HR.out, okFrom_end hlt]; simp; omega
          go_wp2
          go_ret
          exact ⟨ret_bool HF.out.symm, hwr⟩
end

section
theorem giRange_any (a b c : Int) (w : World) : Calls Try.prog 41 #[.int .i64 a, .int .i64 b, .int .i64 c] w fun e w' => e = .returned (.bool (rng b c a)) ∧ w = w' := by
  go_enter Try.func41, Try.ntmps41
  go_wp2
  all_goals (go_ret; simp_all [rng])
  all_goals omega
set_option maxHeartbeats 1000000 in
theorem ivalidDepth_any (A : Option Addr) (n cap : Nat) (g : List Prt) (k : Nat) (hk : k < g.length) (w : World) (hR : Sl w A n cap g)
    (hp : 0 < k → 0 ≤ (gAt g (k - 1)).depth ∧ (gAt g (k - 1)).depth ≤ 5) :
    Calls Try.prog 42 #[.slice A n cap, .int .i64 k] w fun e w' => e = .returned (.bool (depthP g k)) ∧ Le w w' := by
  obtain rfl := hR.len
  have hm := hR.n_le
  obtain ⟨b, off, rfl, hb, c0, c1, -⟩ := hR.prt_at hk
  by_cases h0 : k = 0
  · subst h0
    have HF : Hid (depthP g 0 = (g[0].depth == 0)) := by
      show _ = _
      unfold depthP; rw [if_pos rfl, gAt_at hk]; rfl
    simp only [Nat.zero_mul, Nat.add_zero] at c0
    go_enter Try.func42, Try.ntmps42
    go_wp2
    go_ret
    exact ⟨ret_bool HF.out.symm, Le.refl _⟩
  · obtain ⟨j, hjk⟩ : ∃ j, k = j + 1 := ⟨k - 1, by omega⟩
    have hjl : j < g.length := by omega
    have hp2 := hp (by omega)
    rw [show k - 1 = j by omega, gAt_at hjl] at hp2
    obtain ⟨b2, off2, e2, hb2, d0, d1, -⟩ := hR.prt_at hjl
    cases e2
    have HF : Hid (depthP g k = rng 1 (min (g[j].depth + (if g[j].group = true then 1 else 0)) 5) g[k].depth) := by
      show _ = _
      unfold depthP; rw [if_neg h0, show k - 1 = j by omega, gAt_at hjl, gAt_at hk]
    have hwz : IntKind.i64.wrap ((k : Int) - 1) = (j : Int) := by rw [show (k : Int) - 1 = (j : Int) by omega]; exact IntWalk.i64_in _ (by omega)
    have hwd : IntKind.i64.wrap (g[j].depth + 1) = g[j].depth + 1 := IntWalk.i64_in _ (by omega)
    have hj0 : (0 : Int) ≤ (j : Int) := by omega
    have hjn : (j : Int) < (g.length : Int) := by omega
    have hk0 : ((k : Int) == 0) = false := by simp; omega
    clear hjk hp
    cases hg : g[j].group
    · have HF2 : Hid (depthP g k = rng 1 g[j].depth g[k].depth) := by
        show _ = _
        rw [HF.out, hg, if_neg (by decide), Int.add_zero, Int.min_eq_left (by omega)]
      clear HF
      rw [hg] at d1
      have h5 : g[j].depth ≤ 5 := hp2.2
      go_enter Try.func42, Try.ntmps42
      go_wp2_with (go_at_call 41; refine (giRange_any _ _ _ _).mono ?_; rintro e w' ⟨rfl, rfl⟩)
      go_ret
      exact ⟨ret_bool HF2.out.symm, Le.refl _⟩
    · rw [hg] at d1
      by_cases h5 : g[j].depth + 1 ≤ 5
      all_goals
        first
          | have HF2 : Hid (depthP g k = rng 1 (g[j].depth + 1) g[k].depth) := by
              show _ = _
              rw [HF.out, hg, if_pos rfl, Int.min_eq_left h5]
          | have HF2 : Hid (depthP g k = rng 1 5 g[k].depth) := by
              show _ = _
              rw [HF.out, hg, if_pos rfl, Int.min_eq_right (by omega)]
        clear HF
        go_enter Try.func42, Try.ntmps42
        go_wp2_with (go_at_call 41; refine (giRange_any _ _ _ _).mono ?_; rintro e w' ⟨rfl, rfl⟩)
        go_ret
        exact ⟨ret_bool HF2.out.symm, Le.refl _⟩
end

section
set_option maxHeartbeats 1000000 in
theorem ivalidPart_any (A B : Option Addr) (n cap m c : Nat) (xs : List Cls) (g : List Prt) (k : Nat) (hk : k < g.length) (w : World) (hT : Sl w A n cap xs) (hG : Sl w B m c g) :
    Calls Try.prog 43 #[.agg #[.slice A n cap], .slice B m c, .int .i64 k] w fun e w' => e = .returned (.bool (partP xs g k)) ∧ Le w w' := by
  obtain rfl := hG.len
  obtain rfl := hT.len
  have hm := hG.n_le
  have hn := hT.n_le
  obtain ⟨b, off, rfl, hb, c0, c1, c2, c3, -⟩ := hG.prt_at hk
  have HF : Hid (partP xs g k = (rng 0 99 g[k].code && cond g[k].group (decide (g[k].cls = 0) && below g k) (rng 0 ((xs.length : Int) - 1) g[k].cls))) := by
    show _ = _
    unfold partP; rw [gAt_at hk]
  have hwx : IntKind.i64.wrap ((xs.length : Int) - 1) = (xs.length : Int) - 1 := IntWalk.i64_in _ (by omega)
  have hwk : IntKind.i64.wrap ((k : Int) + 1) = (k : Int) + 1 := IntWalk.i64_in _ (by omega)
  have hkx : (0 : Int) ≤ (k : Int) := by omega
  have hkn : (k : Int) < (g.length : Int) := by omega
  cases h1 : rng 0 99 g[k].code
  · rw [h1, Bool.false_and] at HF
    go_enter Try.func43, Try.ntmps43
    go_wp2_with (go_at_call 41; refine (giRange_any _ _ _ _).mono ?_; rintro e w' ⟨rfl, rfl⟩; rw [h1])
    go_ret
    exact ⟨ret_bool HF.out.symm, (Le.new _ _).trans (Le.new _ _)⟩
  · rw [h1, Bool.true_and] at HF
    cases hg : g[k].group
    · rw [hg, cond_false] at HF
      rw [hg] at c1
      go_enter Try.func43, Try.ntmps43
      go_wp2_with (go_at_call 41; refine (giRange_any _ _ _ _).mono ?_; rintro e w' ⟨rfl, rfl⟩; (try rw [h1]))
      go_ret
      exact ⟨ret_bool HF.out.symm, (Le.new _ _).trans (Le.new _ _)⟩
    · rw [hg, cond_true] at HF
      rw [hg] at c1
      have hbl : below g k = (decide (k + 1 < g.length) && decide (g[k].depth < (gAt g (k + 1)).depth)) := by unfold below; rw [gAt_at hk]
      have hcl : decide (g[k].cls = 0) = (g[k].cls == 0) := rfl
      rw [hbl, hcl] at HF
      cases hc : (g[k].cls == 0)
      · rw [hc, Bool.false_and] at HF
        clear hbl hcl
        go_enter Try.func43, Try.ntmps43
        go_wp2_with (go_at_call 41; refine (giRange_any _ _ _ _).mono ?_; rintro e w' ⟨rfl, rfl⟩; (try rw [h1]))
        have hle := (Le.new w (.cells #[.slice A xs.length cap] 25)).trans (Le.new _ (.cells #[.int .i64 g[k].depth, .bool true, .int .i64 g[k].cls, .int .i64 g[k].code] 57))
        have e1 : w.heap.size + 1 = (w.alloc (.cells #[.slice A xs.length cap] 25)).heap.size := by simp
        have q0 : ((w.alloc (.cells #[.slice A xs.length cap] 25)).alloc (.cells #[.int .i64 g[k].depth, .bool true, .int .i64 g[k].cls, .int .i64 g[k].code] 57)).cell? ⟨w.heap.size + 1, 0, none⟩ = some (.int .i64 g[k].depth) := by rw [e1, World.cell?_alloc_at _ _ _ _ rfl]; rfl
        have q2 : ((w.alloc (.cells #[.slice A xs.length cap] 25)).alloc (.cells #[.int .i64 g[k].depth, .bool true, .int .i64 g[k].cls, .int .i64 g[k].code] 57)).cell? ⟨w.heap.size + 1, 2, none⟩ = some (.int .i64 g[k].cls) := by rw [e1, World.cell?_alloc_at _ _ _ _ rfl]; rfl
        have hz : w.heap.size + 1 < ((w.alloc (.cells #[.slice A xs.length cap] 25)).alloc (.cells #[.int .i64 g[k].depth, .bool true, .int .i64 g[k].cls, .int .i64 g[k].code] 57)).heap.size := by simp
        clear e1
        generalize ((w.alloc (.cells #[.slice A xs.length cap] 25)).alloc (.cells #[.int .i64 g[k].depth, .bool true, .int .i64 g[k].cls, .int .i64 g[k].code] 57)) = W at *
        have Q0 := cell_ext hz q0
        have Q2 := cell_ext hz q2
        generalize w.heap.size + 1 = PB at *
        refine wp_region_ext (by kernel_rfl) (by kernel_rfl) ?_
        repeat (go_big_quiet_step (fail))
        refine wpQuiet_nil ?_
        intro _ hw'
        obtain ⟨gg, rfl⟩ := hw'
        have hw1 := Le.ext W gg
        generalize W.ext gg = W2 at *
        go_wp2
        go_ret
        exact ⟨ret_bool HF.out.symm, hle.trans hw1⟩
      · rw [hc, Bool.true_and] at HF
        clear hbl hcl
        by_cases hl : k + 1 < g.length
        · rw [decide_eq_true hl, Bool.true_and, gAt_at hl] at HF
          have hl2 : (k : Int) + 1 < (g.length : Int) := by omega
          have hl3 : (0 : Int) ≤ (k : Int) + 1 := by omega
          obtain ⟨b2, off2, e2, hb2, d0, -⟩ := hG.prt_at hl
          cases e2
          go_enter Try.func43, Try.ntmps43
          go_wp2_with (go_at_call 41; refine (giRange_any _ _ _ _).mono ?_; rintro e w' ⟨rfl, rfl⟩; (try rw [h1]))
          have hle := (Le.new w (.cells #[.slice A xs.length cap] 25)).trans (Le.new _ (.cells #[.int .i64 g[k].depth, .bool true, .int .i64 g[k].cls, .int .i64 g[k].code] 57))
          have e1 : w.heap.size + 1 = (w.alloc (.cells #[.slice A xs.length cap] 25)).heap.size := by simp
          have q0 : ((w.alloc (.cells #[.slice A xs.length cap] 25)).alloc (.cells #[.int .i64 g[k].depth, .bool true, .int .i64 g[k].cls, .int .i64 g[k].code] 57)).cell? ⟨w.heap.size + 1, 0, none⟩ = some (.int .i64 g[k].depth) := by rw [e1, World.cell?_alloc_at _ _ _ _ rfl]; rfl
          have q2 : ((w.alloc (.cells #[.slice A xs.length cap] 25)).alloc (.cells #[.int .i64 g[k].depth, .bool true, .int .i64 g[k].cls, .int .i64 g[k].code] 57)).cell? ⟨w.heap.size + 1, 2, none⟩ = some (.int .i64 g[k].cls) := by rw [e1, World.cell?_alloc_at _ _ _ _ rfl]; rfl
          have hz : w.heap.size + 1 < ((w.alloc (.cells #[.slice A xs.length cap] 25)).alloc (.cells #[.int .i64 g[k].depth, .bool true, .int .i64 g[k].cls, .int .i64 g[k].code] 57)).heap.size := by simp
          clear e1
          replace d0 := (hle.cell hb2).trans d0; replace hb2 := Nat.lt_of_lt_of_le hb2 hle.size
          generalize ((w.alloc (.cells #[.slice A xs.length cap] 25)).alloc (.cells #[.int .i64 g[k].depth, .bool true, .int .i64 g[k].cls, .int .i64 g[k].code] 57)) = W at *
          have Q0 := cell_ext hz q0
          have Q2 := cell_ext hz q2
          have D0 := cell_ext hb2 d0
          generalize w.heap.size + 1 = PB at *
          refine wp_region_ext (by kernel_rfl) (by kernel_rfl) ?_
          repeat (go_big_quiet_step (fail))
          refine wpQuiet_nil ?_
          intro _ hw'
          obtain ⟨gg, rfl⟩ := hw'
          have hw1 := Le.ext W gg
          generalize W.ext gg = W2 at *
          go_wp2
          go_ret
          exact ⟨ret_bool HF.out.symm, hle.trans hw1⟩
        · rw [decide_eq_false hl, Bool.false_and] at HF
          have hl2 : decide ((k : Int) + 1 < (g.length : Int)) = false := decide_eq_false (by omega)
          have hl4 : (g.length : Int) ≤ (k : Int) + 1 := by omega
          go_enter Try.func43, Try.ntmps43
          go_wp2_with (go_at_call 41; refine (giRange_any _ _ _ _).mono ?_; rintro e w' ⟨rfl, rfl⟩; (try rw [h1]))
          have hle := (Le.new w (.cells #[.slice A xs.length cap] 25)).trans (Le.new _ (.cells #[.int .i64 g[k].depth, .bool true, .int .i64 g[k].cls, .int .i64 g[k].code] 57))
          have e1 : w.heap.size + 1 = (w.alloc (.cells #[.slice A xs.length cap] 25)).heap.size := by simp
          have q0 : ((w.alloc (.cells #[.slice A xs.length cap] 25)).alloc (.cells #[.int .i64 g[k].depth, .bool true, .int .i64 g[k].cls, .int .i64 g[k].code] 57)).cell? ⟨w.heap.size + 1, 0, none⟩ = some (.int .i64 g[k].depth) := by rw [e1, World.cell?_alloc_at _ _ _ _ rfl]; rfl
          have q2 : ((w.alloc (.cells #[.slice A xs.length cap] 25)).alloc (.cells #[.int .i64 g[k].depth, .bool true, .int .i64 g[k].cls, .int .i64 g[k].code] 57)).cell? ⟨w.heap.size + 1, 2, none⟩ = some (.int .i64 g[k].cls) := by rw [e1, World.cell?_alloc_at _ _ _ _ rfl]; rfl
          have hz : w.heap.size + 1 < ((w.alloc (.cells #[.slice A xs.length cap] 25)).alloc (.cells #[.int .i64 g[k].depth, .bool true, .int .i64 g[k].cls, .int .i64 g[k].code] 57)).heap.size := by simp
          clear e1
          generalize ((w.alloc (.cells #[.slice A xs.length cap] 25)).alloc (.cells #[.int .i64 g[k].depth, .bool true, .int .i64 g[k].cls, .int .i64 g[k].code] 57)) = W at *
          have Q0 := cell_ext hz q0
          have Q2 := cell_ext hz q2
          generalize w.heap.size + 1 = PB at *
          refine wp_region_ext (by kernel_rfl) (by kernel_rfl) ?_
          repeat (go_big_quiet_step (fail))
          refine wpQuiet_nil ?_
          intro _ hw'
          obtain ⟨gg, rfl⟩ := hw'
          have hw1 := Le.ext W gg
          generalize W.ext gg = W2 at *
          go_wp2
          go_ret
          exact ⟨ret_bool HF.out.symm, hle.trans hw1⟩
end

section
theorem rng_small {g : List Prt} {k : Nat} (h : depthP g k = true) : 0 ≤ (gAt g k).depth ∧ (gAt g k).depth ≤ 5 := by
  unfold depthP at h
  by_cases h0 : k = 0
  · subst h0; rw [if_pos rfl] at h; simp at h; omega
  · rw [if_neg h0, rng_iff] at h; omega
set_option maxHeartbeats 1000000 in
theorem iValidGroup_any (A B : Option Addr) (n cap m c : Nat) (xs : List Cls) (g : List Prt) (w : World) (hT : Sl w A n cap xs) (hG : Sl w B m c g) :
    Calls Try.prog 12 #[.agg #[.slice A n cap], .slice B m c] w fun e w' => e = .returned (.bool (gOkP xs g)) ∧ Le w w' := by
  obtain rfl := hG.len
  have hm := hG.n_le
  have HF : Hid (gOkP xs g = (okTree xs && rng 1 16 g.length && allF2 (fun i => depthP g i && partP xs g i) 0 (g.length - 0))) := rfl
  cases h1 : okTree xs
  · rw [h1, Bool.false_and, Bool.false_and] at HF
    go_enter Try.func12, Try.ntmps12
    go_wp2_with fail
    refine (iValidTree_any _ _ _ xs _ (hT.alloc _)).mono ?_
    rintro e w2 ⟨rfl, hle⟩
    rw [h1]
    go_wp2
    go_ret
    exact ⟨ret_bool HF.out.symm, (Le.new _ _).trans hle⟩
  · rw [h1, Bool.true_and] at HF
    cases h2 : rng 1 16 g.length
    · rw [h2, Bool.false_and] at HF
      go_enter Try.func12, Try.ntmps12
      go_wp2_with fail
      refine (iValidTree_any _ _ _ xs _ (hT.alloc _)).mono ?_
      rintro e w2 ⟨rfl, hle⟩
      rw [h1]
      go_wp2_with (go_at_call 41; refine (giRange_any _ _ _ _).mono ?_; rintro e w' ⟨rfl, rfl⟩; rw [h2])
      go_ret
      exact ⟨ret_bool HF.out.symm, (Le.new _ _).trans hle⟩
    · rw [h2, Bool.true_and] at HF
      go_enter Try.func12, Try.ntmps12
      go_wp2_with fail
      refine (iValidTree_any _ _ _ xs _ (hT.alloc _)).mono ?_
      rintro e w2 ⟨rfl, hle⟩
      rw [h1]
      go_wp2_with (go_at_call 41; refine (giRange_any _ _ _ _).mono ?_; rintro e w' ⟨rfl, rfl⟩; rw [h2])
      have q0 : (w.alloc (.cells #[.slice A n cap] 25)).cell? ⟨w.heap.size, 0, none⟩ = some (.slice A n cap) := by rw [World.cell?_alloc_at _ _ _ _ rfl]; rfl
      have hz : w.heap.size < (w.alloc (.cells #[.slice A n cap] 25)).heap.size := by simp
      have hl := (Le.new w (.cells #[.slice A n cap] 25)).trans hle
      replace q0 := (hle.cell hz).trans q0
      replace hz := Nat.lt_of_lt_of_le hz hle.size
      replace hT := hT.le hl
      replace hG := hG.le hl
      clear hle
      generalize w.heap.size = TB at *
      go_loopw [17] (fun i wr => ∃ k : Nat, k ≤ g.length ∧ i = .int .i64 k ∧ gOkP xs g = allF2 (fun i => depthP g i && partP xs g i) k (g.length - k) ∧ (0 < k → 0 ≤ (gAt g (k - 1)).depth ∧ (gAt g (k - 1)).depth ≤ 5) ∧ Le w2 wr) (fun i _ => g.length - (intOf i).toNat)
      case atStart => exact ⟨0, Nat.zero_le _, rfl, HF.out, fun h => absurd h (Nat.lt_irrefl 0), Le.refl _⟩
      case round =>
        obtain ⟨k, hk, rfl, he, hprev, hle⟩ := hrel
        have HE := Lib.hid he
        clear he HF
        have TT := hT.le hle
        have TG := hG.le hle
        have c0 := (hle.cell hz).trans q0
        have zc := Nat.lt_of_lt_of_le hz hle.size
        have LR := hl.trans hle
        clear hT hG q0 hz
        by_cases hlt : k < g.length
        · rw [allF2_at hlt] at HE
          cases hd : depthP g k
          · have HE2 : Hid (gOkP xs g = false) := by show _ = _; rw [HE.out, hd]; rfl
            go_wp2_with fail
            refine (ivalidDepth_any _ _ _ g k hlt _ TG hprev).mono ?_
            rintro e w3 ⟨rfl, hle3⟩
            rw [hd]
            go_wp2
            go_ret
            exact ⟨ret_bool HE2.out.symm, LR.trans hle3⟩
          · cases hp : partP xs g k
            · have HE2 : Hid (gOkP xs g = false) := by show _ = _; rw [HE.out, hd, hp]; rfl
              go_wp2_with fail
              refine (ivalidDepth_any _ _ _ g k hlt _ TG hprev).mono ?_
              rintro e w3 ⟨rfl, hle3⟩
              rw [hd]
              replace c0 := (hle3.cell zc).trans c0
              go_wp2_with fail
              refine (ivalidPart_any _ _ _ _ _ _ xs g k hlt _ (TT.le hle3) (TG.le hle3)).mono ?_
              rintro e w4 ⟨rfl, hle4⟩
              rw [hp]
              go_wp2
              go_ret
              exact ⟨ret_bool HE2.out.symm, (LR.trans hle3).trans hle4⟩
            · have HE2 : Hid (gOkP xs g = allF2 (fun i => depthP g i && partP xs g i) (k + 1) (g.length - (k + 1))) := by show _ = _; rw [HE.out, hd, hp]; rfl
              have HN := Lib.hid (rng_small hd)
              clear HE
              go_wp2_with fail
              refine (ivalidDepth_any _ _ _ g k hlt _ TG hprev).mono ?_
              rintro e w3 ⟨rfl, hle3⟩
              rw [hd]
              replace c0 := (hle3.cell zc).trans c0
              go_wp2_with fail
              refine (ivalidPart_any _ _ _ _ _ _ xs g k hlt _ (TT.le hle3) (TG.le hle3)).mono ?_
              rintro e w4 ⟨rfl, hle4⟩
              rw [hp]
              go_wp2
              go_roundw
              case rel => exact ⟨k + 1, by omega, by go_num, HE2.out, fun _ => HN.out, (hle.trans hle3).trans hle4⟩
              case measure => simp [intOf]; omega
        · rw [allF2_end hlt] at HE
          go_wp2
          go_ret
          exact ⟨ret_bool HE.out.symm, LR⟩
end

section
theorem iValidGroupS_any (A B : Option Addr) (n cap m c : Nat) (xs : List Cls) (g : List Prt) (w : World) (hT : Sl w A n cap xs) (hG : Sl w B m c g) :
    Calls Try.prog 12 #[.agg #[.slice A n cap], .slice B m c] w fun e w' => e = .returned (.bool (gOkS xs g)) ∧ Le w w' := by
  rw [gOk_same]; exact iValidGroup_any _ _ _ _ _ _ xs g w hT hG
end
end Go.Proofs.Ytkpnajffeclmdaa
