import Derived.Test.YtpdggodmiliijaaB
namespace Go.Proofs.Ytpdggodmiliijaa
open Go.RowKit

theorem findN_range (xs : List Cls) (s : ByteArray) : ∀ j : Int, 0 ≤ j → findN xs s j = -1 ∨ (j ≤ findN xs s j ∧ findN xs s j < j + xs.length) := by
  induction xs with
  | nil => intro j _; exact .inl rfl
  | cons c r ih =>
    intro j hj
    unfold findN
    split
    · right; simp; omega
    · rcases ih (j + 1) (by omega) with h | ⟨h1, h2⟩
      · exact .inl h
      · right; simp; omega
theorem findN_append (xs ys : List Cls) (s : ByteArray) : ∀ j : Int, 0 ≤ j → findN (xs ++ ys) s j = if 0 ≤ findN xs s j then findN xs s j else findN ys s (j + xs.length) := by
  induction xs with
  | nil => intro j _; simp [findN]
  | cons c r ih =>
    intro j hj
    rw [List.cons_append, findN_cons, findN_cons]
    by_cases h : c.name = s
    · rw [if_pos h, if_pos h, if_pos hj]
    · rw [if_neg h, if_neg h, ih (j + 1) (by omega)]
      have e : j + 1 + (r.length : Int) = j + ((c :: r).length : Int) := by simp; omega
      rw [e]
theorem findN_self {xs : List Cls} {k : Nat} (h : k < xs.length) : (findN xs xs[k].name 0 == (k : Int)) = !decide (0 ≤ findN (xs.take k) xs[k].name 0) := by
  have e : xs = xs.take k ++ xs[k] :: xs.drop (k + 1) := by rw [← List.drop_eq_getElem_cons h, List.take_append_drop]
  have e2 : findN xs xs[k].name 0 = findN (xs.take k ++ xs[k] :: xs.drop (k + 1)) xs[k].name 0 := by rw [← e]
  rw [e2, findN_append _ _ _ _ (by omega)]
  have hl : (xs.take k).length = k := by rw [List.length_take]; omega
  rcases findN_range (xs.take k) xs[k].name 0 (by omega) with h1 | ⟨h1, h2⟩
  · rw [h1, if_neg (by omega)]
    unfold findN
    rw [if_pos rfl, hl]
    simp
  · rw [if_pos h1, decide_eq_true h1]
    rw [hl] at h2
    simp; omega
theorem parent_i (p : Int) (k : Nat) : ((k : Int) == 0 && p != -1 || decide (0 < (k : Int)) && !(decide (0 ≤ p) && decide (p ≤ (k : Int) - 1))) = (((p == -1) != ((k : Int) == 0)) || decide (p < -1) || decide ((k : Int) ≤ p)) := by
  rcases Nat.eq_zero_or_pos k with rfl | hk
  · by_cases hp : p = -1
    · subst hp; rfl
    · have h1 : (p == -1) = false := by simpa using hp
      simp [h1, bne]
  · have h0 : ((k : Int) == 0) = false := by simp; omega
    have h2 : decide (0 < (k : Int)) = true := by simp; omega
    rw [h0, h2, Bool.false_and, Bool.true_and, Bool.false_or, Bool.eq_iff_iff]
    by_cases hp : p = -1
    · subst hp; simp
    · have h1 : (p == -1) = false := by simpa using hp
      rw [h1]
      simp only [Bool.not_eq_true', Bool.and_eq_false_iff, decide_eq_false_iff_not, Bool.or_eq_true, decide_eq_true_eq, bne]
      simp
      omega
theorem badCls_i {xs : List Cls} {k : Nat} (h : k < xs.length) : badCls xs k xs[k] = ((!okName xs[k].name || findN xs xs[k].name 0 != (k : Int)) || (((xs[k].parent == -1) != ((k : Int) == 0)) || decide (xs[k].parent < -1) || decide ((k : Int) ≤ xs[k].parent))) := by
  unfold badCls
  have hs := findN_self h
  have hn : (findN xs xs[k].name 0 != (k : Int)) = decide (0 ≤ findN (xs.take k) xs[k].name 0) := by rw [bne, hs, Bool.not_not]
  rw [hn]
  generalize okName xs[k].name = a
  generalize decide (0 ≤ findN (xs.take k) xs[k].name 0) = b
  generalize xs[k].parent = p
  rw [Bool.or_assoc, parent_i]

theorem ivalidName_any (s : ByteArray) (w : World) (hs : s.size ≤ 9223372036854775807) : Calls Try.prog 98 #[.string s] w fun e w' => e = .returned (.bool (okName s)) ∧ w = w' := by
  by_cases hlo : s.size < 1
  · have HF : Hid (okName s = false) := by show _ = _; unfold okName; rw [decide_eq_false (p := 1 ≤ s.size) (by omega)]; simp
    go_enter Try.func98, Try.ntmps98
    go_wp2
    go_ret
    exact ⟨ret_bool HF.out.symm, rfl⟩
  · by_cases hhi : 6 < s.size
    · have HF : Hid (okName s = false) := by show _ = _; unfold okName; rw [decide_eq_false (p := s.size ≤ 6) (by omega)]; simp
      go_enter Try.func98, Try.ntmps98
      go_wp2
      go_ret
      exact ⟨ret_bool HF.out.symm, rfl⟩
    · have d1 : decide ((s.size : Int) < 1) = false := decide_eq_false (by omega)
      have d2 : decide (6 < (s.size : Int)) = false := decide_eq_false (by omega)
      go_enter Try.func98, Try.ntmps98
      go_wp2
      go_loop [14] (fun i => ∃ k : Nat, k ≤ s.size ∧ i = .int .i64 k ∧ lowers s.data.toList = lowers (s.data.toList.drop k)) (fun i => s.size - (intOf i).toNat)
      case atStart => exact ⟨0, Nat.zero_le _, rfl, rfl⟩
      case round =>
        obtain ⟨k, hk, rfl, hr⟩ := hrel
        have HR := Lib.hid hr; clear hr
        by_cases hlt : k < s.size
        · have hc : 0 ≤ (s[k].toNat : Int) ∧ (s[k].toNat : Int) ≤ 255 := by have := UInt8.toNat_lt s[k]; omega
          by_cases h1 : s[k].toNat < 97
          · have HF : Hid (okName s = false) := by show _ = _; unfold okName; rw [HR.out, lowers_at hlt, decide_eq_false (p := 97 ≤ s[k].toNat) (by omega)]; rfl
            go_wp2
            go_ret
            exact ⟨ret_bool HF.out.symm, rfl⟩
          · by_cases h2 : 122 < s[k].toNat
            · have HF : Hid (okName s = false) := by show _ = _; unfold okName; rw [HR.out, lowers_at hlt, decide_eq_false (p := s[k].toNat ≤ 122) (by omega)]; simp
              go_wp2
              go_ret
              exact ⟨ret_bool HF.out.symm, rfl⟩
            · have HF : Hid (lowers s.data.toList = lowers (s.data.toList.drop (k + 1))) := by show _ = _; rw [HR.out, lowers_at hlt, decide_eq_true (p := 97 ≤ s[k].toNat) (by omega), decide_eq_true (p := s[k].toNat ≤ 122) (by omega)]; rfl
              go_wp2
              go_round
              case rel => exact ⟨k + 1, by omega, by go_num, HF.out⟩
              case measure => simp [intOf]; omega
        · have HF : Hid (okName s = true) := by
            show _ = _; unfold okName; rw [HR.out, lowers_end hlt, decide_eq_true (p := 1 ≤ s.size) (by omega), decide_eq_true (p := s.size ≤ 6) (by omega)]; rfl
          go_wp2
          go_ret
          exact ⟨ret_bool HF.out.symm, rfl⟩

theorem closure_any (c : Cls) (s : ByteArray) (g : Nat) (w : World) (hg : w.cell? ⟨g, 0, none⟩ = some (.string s)) (hlt : g < w.heap.size) :
    Calls Try.prog 104 #[.agg #[.string c.name, .int .i64 c.parent], .pointer (some ⟨g, 0, none⟩)] w fun e w' => e = .returned (.bool (c.name.toList == s.toList)) ∧ Le w w' := by
  have hg' : (w.alloc (.cells #[.string c.name, .int .i64 c.parent] 109)).cell? ⟨g, 0, none⟩ = some (.string s) := ((Le.new w _).cell hlt).trans hg
  go_enter Try.func104, Try.ntmps104
  go_wp2
  go_ret
  exact ⟨rfl, Le.new w _⟩

theorem indexFunc_any (A : Option Addr) (n cap : Nat) (xs : List Cls) (s : ByteArray) (g : Nat) (w : World) (hR : Sl w A n cap xs) (hg : w.cell? ⟨g, 0, none⟩ = some (.string s)) (hgl : g < w.heap.size) :
    Calls Try.prog 103 #[.slice A n cap, .func (.func 104) #[] #[.pointer (some ⟨g, 0, none⟩)]] w fun e w' => e = .returned (.int .i64 (findN xs s 0)) ∧ Le w w' := by
  obtain rfl := hR.len
  have hm := hR.n_le
  go_enter Try.func103, Try.ntmps103
  go_wp2
  go_loopw [8] (fun i wr => ∃ k : Nat, k ≤ xs.length ∧ i = .int .i64 k ∧ findN xs s 0 = findN (xs.drop k) s k ∧ Le w wr) (fun i _ => xs.length - (intOf i).toNat)
  case atStart => exact ⟨0, Nat.zero_le _, rfl, rfl, Le.refl _⟩
  case round =>
    obtain ⟨k, hk, rfl, hr, hle⟩ := hrel
    have HR := Lib.hid hr; clear hr
    have hRr := hR.le hle
    have hgr := (hle.cell hgl).trans hg
    have hgz : g < wr.heap.size := Nat.lt_of_lt_of_le hgl hle.size
    clear hR hg
    by_cases hlt : k < xs.length
    · obtain ⟨b, off, rfl, _, hcell, hcell2, _, _, _⟩ := hRr.cls_at hlt
      by_cases he : xs[k].name = s
      · have he' := str_eq he
        have HF : Hid (findN xs s 0 = k) := by show _ = _; rw [HR.out, findN_at hlt, if_pos he]
        clear he
        go_wp2_with (go_at_call 104; refine (closure_any xs[k] s g _ hgr hgz).mono ?_; rintro e w' ⟨rfl, hw1⟩)
        go_ret
        exact ⟨ret_int HF.out.symm, hle.trans hw1⟩
      · have he' := str_ne he
        have HF : Hid (findN xs s 0 = findN (xs.drop (k + 1)) s ((k + 1 : Nat) : Int)) := by show _ = _; rw [HR.out, findN_at hlt, if_neg he]; rfl
        clear he
        go_wp2_with (go_at_call 104; refine (closure_any xs[k] s g _ hgr hgz).mono ?_; rintro e w' ⟨rfl, hw1⟩)
        go_roundw
        case rel => exact ⟨k + 1, by omega, by go_num, HF.out, hle.trans hw1⟩
        case measure => simp [intOf]; omega
    · have HF : Hid (findN xs s 0 = -1) := by show _ = _; rw [HR.out, findN_end hlt]
      go_wp2
      go_ret
      exact ⟨ret_int HF.out.symm, hle⟩

theorem indexOfName_any (A : Option Addr) (n cap : Nat) (xs : List Cls) (s : ByteArray) (w : World) (hR : Sl w A n cap xs) :
    Calls Try.prog 99 #[.slice A n cap, .string s] w fun e w' => e = .returned (.int .i64 (findN xs s 0)) ∧ Le w w' := by
  go_enter Try.func99, Try.ntmps99
  go_wp2_with fail
  refine (indexFunc_any A n cap xs s _ _ (hR.alloc _) (by simp) (by simp)).mono ?_
  rintro e w' ⟨rfl, hw1⟩
  go_wp2
  go_ret
  exact ⟨rfl, (Le.new w _).trans hw1⟩
end Go.Proofs.Ytpdggodmiliijaa
