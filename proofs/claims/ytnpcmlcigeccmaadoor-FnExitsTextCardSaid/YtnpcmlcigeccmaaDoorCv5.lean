/- one text of C, D, PxA -/
import Derived.Test.YtnpcmlcigeccmaaDoorCv1
import Derived.Test.YtnpcmlcigeccmaaDoorCv4
import Derived.Test.YtnpcmlcigeccmaaDoorCv2
namespace Go.Proofs.YtnpcmlcigeccmaaDoor
open Go.RowKit
set_option linter.unusedVariables false
section
theorem findN_range (xs : List Cls) (s : ByteArray) : ∀ j : Int, 0 ≤ j → findN xs s j = -1 ∨ (j ≤ findN xs s j ∧ findN xs s j < j + xs.length) := by
  induction xs with
  | nil => intro j _; exact .inl rfl
  | cons c r ih =>
    intro j hj
    unfold findN
    split
    · right; simp; omega
    · rcases ih (j + 1) (by omega) with h | ⟨h1, h2⟩
      · exact .inl h
      · right; simp; omega
theorem findN_append (xs ys : List Cls) (s : ByteArray) : ∀ j : Int, 0 ≤ j → findN (xs ++ ys) s j = if 0 ≤ findN xs s j then findN xs s j else findN ys s (j + xs.length) := by
  induction xs with
  | nil => intro j _; simp [findN]
  | cons c r ih =>
    intro j hj
    rw [List.cons_append, findN_cons, findN_cons]
    by_cases h : c.name = s
    · rw [if_pos h, if_pos h, if_pos hj]
    · rw [if_neg h, if_neg h, ih (j + 1) (by omega)]
      have e : j + 1 + (r.length : Int) = j + ((c :: r).length : Int) := by simp; omega
      rw [e]
theorem findN_self {xs : List Cls} {k : Nat} (h : k < xs.length) : (findN xs xs[k].name 0 == (k : Int)) = !decide (0 ≤ findN (xs.take k) xs[k].name 0) := by
  have e : xs = xs.take k ++ xs[k] :: xs.drop (k + 1) := by rw [← List.drop_eq_getElem_cons h, List.take_append_drop]
  have e2 : findN xs xs[k].name 0 = findN (xs.take k ++ xs[k] :: xs.drop (k + 1)) xs[k].name 0 := by rw [← e]
  rw [e2, findN_append _ _ _ _ (by omega)]
  have hl : (xs.take k).length = k := by rw [List.length_take]; omega
  rcases findN_range (xs.take k) xs[k].name 0 (by omega) with h1 | ⟨h1, h2⟩
  · rw [h1, if_neg (by omega)]
    unfold findN
    rw [if_pos rfl, hl]
    simp
  · rw [if_pos h1, decide_eq_true h1]
    rw [hl] at h2
    simp; omega
theorem parent_i (p : Int) (k : Nat) : ((k : Int) == 0 && p != -1 || decide (0 < (k : Int)) && !(decide (0 ≤ p) && decide (p ≤ (k : Int) - 1))) = (((p == -1) != ((k : Int) == 0)) || decide (p < -1) || decide ((k : Int) ≤ p)) := by
  rcases Nat.eq_zero_or_pos k with rfl | hk
  · by_cases hp : p = -1
    · subst hp; rfl
    · have h1 : (p == -1) = false := by simpa using hp
      simp [h1, bne]
  · have h0 : ((k : Int) == 0) = false := by simp; omega
    have h2 : decide (0 < (k : Int)) = true := by simp; omega
    rw [h0, h2, Bool.false_and, Bool.true_and, Bool.false_or, Bool.eq_iff_iff]
    by_cases hp : p = -1
    · subst hp; simp
    · have h1 : (p == -1) = false := by simpa using hp
      rw [h1]
      simp only [Bool.not_eq_true', Bool.and_eq_false_iff, decide_eq_false_iff_not, Bool.or_eq_true, decide_eq_true_eq, bne]
      simp
      omega
theorem badCls_i {xs : List Cls} {k : Nat} (h : k < xs.length) : badCls xs k xs[k] = ((!okName xs[k].name || findN xs xs[k].name 0 != (k : Int)) || (((xs[k].parent == -1) != ((k : Int) == 0)) || decide (xs[k].parent < -1) || decide ((k : Int) ≤ xs[k].parent))) := by
  unfold badCls
  have hs := findN_self h
  have hn : (findN xs xs[k].name 0 != (k : Int)) = decide (0 ≤ findN (xs.take k) xs[k].name 0) := by rw [bne, hs, Bool.not_not]
  rw [hn]
  generalize okName xs[k].name = a
  generalize decide (0 ≤ findN (xs.take k) xs[k].name 0) = b
  generalize xs[k].parent = p
  rw [Bool.or_assoc, parent_i]

theorem ivalidName_any (s : ByteArray) (w : World) (hs : s.size ≤ 9223372036854775807) : Calls Tryd.prog 56 #[.string s] w fun e w' => e = .returned (.bool (okName s)) ∧ w = w' := by
  by_cases hlo : s.size < 1
  · have HF : Hid (okName s = false) := by show _ = _; unfold okName; rw [decide_eq_false (p := 1 ≤ s.size) (by omega)]; simp
    go_enter Tryd.func56, Tryd.ntmps56
    go_wp2
    go_ret
    exact ⟨ret_bool HF.out.symm, rfl⟩
  · by_cases hhi : 6 < s.size
    · have HF : Hid (okName s = false) := by show _ = _; unfold okName; rw [decide_eq_false (p := s.size ≤ 6) (by omega)]; simp
      go_enter Tryd.func56, Tryd.ntmps56
      go_wp2
      go_ret
      exact ⟨ret_bool HF.out.symm, rfl⟩
    · have d1 : decide ((s.size : Int) < 1) = false := decide_eq_false (by omega)
      have d2 : decide (6 < (s.size : Int)) = false := decide_eq_false (by omega)
      go_enter Tryd.func56, Tryd.ntmps56
      go_wp2
      go_loop [14] (fun i => ∃ k : Nat, k ≤ s.size ∧ i = .int .i64 k ∧ lowers s.data.toList = lowers (s.data.toList.drop k)) (fun i => s.size - (intOf i).toNat)
      case atStart => exact ⟨0, Nat.zero_le _, rfl, rfl⟩
      case round =>
        obtain ⟨k, hk, rfl, hr⟩ := hrel
        have HR := Lib.hid hr; clear hr
        by_cases hlt : k < s.size
        · have hc : 0 ≤ (s[k].toNat : Int) ∧ (s[k].toNat : Int) ≤ 255 := by have := UInt8.toNat_lt s[k]; omega
          by_cases h1 : s[k].toNat < 97
          · have HF : Hid (okName s = false) := by show _ = _; unfold okName; rw [HR.out, lowers_at hlt, decide_eq_false (p := 97 ≤ s[k].toNat) (by omega)]; rfl
            go_wp2
            go_ret
            exact ⟨ret_bool HF.out.symm, rfl⟩
          · by_cases h2 : 122 < s[k].toNat
            · have HF : Hid (okName s = false) := by show _ = _; unfold okName; rw [HR.out, lowers_at hlt, decide_eq_false (p := s[k].toNat ≤ 122) (by omega)]; simp
              go_wp2
              go_ret
              exact ⟨ret_bool HF.out.symm, rfl⟩
            · have HF : Hid (lowers s.data.toList = lowers (s.data.toList.drop (k + 1))) := by show _ = _; rw [HR.out, lowers_at hlt, decide_eq_true (p := 97 ≤ s[k].toNat) (by omega), decide_eq_true (p := s[k].toNat ≤ 122) (by omega)]; rfl
              go_wp2
              go_round
              case rel => exact ⟨k + 1, by omega, by go_num, HF.out⟩
              case measure => simp [intOf]; omega
        · have HF : Hid (okName s = true) := by
            show _ = _; unfold okName; rw [HR.out, lowers_end hlt, decide_eq_true (p := 1 ≤ s.size) (by omega), decide_eq_true (p := s.size ≤ 6) (by omega)]; rfl
          go_wp2
          go_ret
          exact ⟨ret_bool HF.out.symm, rfl⟩

theorem closure_any (c : Cls) (s : ByteArray) (g : Nat) (w : World) (hg : w.cell? ⟨g, 0, none⟩ = some (.string s)) (hlt : g < w.heap.size) :
    Calls Tryd.prog 83 #[.agg #[.string c.name, .int .i64 c.parent], .pointer (some ⟨g, 0, none⟩)] w fun e w' => e = .returned (.bool (c.name.toList == s.toList)) ∧ Le w w' := by
  have hg' : (w.alloc (.cells #[.string c.name, .int .i64 c.parent] 90)).cell? ⟨g, 0, none⟩ = some (.string s) := ((Le.new w _).cell hlt).trans hg
  go_enter Tryd.func83, Tryd.ntmps83
  go_wp2
  go_ret
  exact ⟨rfl, Le.new w _⟩

theorem indexFunc_any (A : Option Addr) (n cap : Nat) (xs : List Cls) (s : ByteArray) (g : Nat) (w : World) (hR : Sl w A n cap xs) (hg : w.cell? ⟨g, 0, none⟩ = some (.string s)) (hgl : g < w.heap.size) :
    Calls Tryd.prog 82 #[.slice A n cap, .func (.func 83) #[] #[.pointer (some ⟨g, 0, none⟩)]] w fun e w' => e = .returned (.int .i64 (findN xs s 0)) ∧ Le w w' := by
  obtain rfl := hR.len
  have hm := hR.n_le
  go_enter Tryd.func82, Tryd.ntmps82
  go_wp2
  go_loopw [8] (fun i wr => ∃ k : Nat, k ≤ xs.length ∧ i = .int .i64 k ∧ findN xs s 0 = findN (xs.drop k) s k ∧ Le w wr) (fun i _ => xs.length - (intOf i).toNat)
  case atStart => exact ⟨0, Nat.zero_le _, rfl, rfl, Le.refl _⟩
  case round =>
    obtain ⟨k, hk, rfl, hr, hle⟩ := hrel
    have HR := Lib.hid hr; clear hr
    have hRr := hR.le hle
    have hgr := (hle.cell hgl).trans hg
    have hgz : g < wr.heap.size := Nat.lt_of_lt_of_le hgl hle.size
    clear hR hg
    by_cases hlt : k < xs.length
    · obtain ⟨b, off, rfl, _, hcell, hcell2, _, _, _⟩ := hRr.cls_at hlt
      by_cases he : xs[k].name = s
      · have he' := str_eq he
        have HF : Hid (findN xs s 0 = k) := by show _ = _; rw [HR.out, findN_at hlt, if_pos he]
        clear he
        go_wp2_with (go_at_call 83; refine (closure_any xs[k] s g _ hgr hgz).mono ?_; rintro e w' ⟨rfl, hw1⟩)
        go_ret
        exact ⟨ret_int HF.out.symm, hle.trans hw1⟩
      · have he' := str_ne he
        have HF : Hid (findN xs s 0 = findN (xs.drop (k + 1)) s ((k + 1 : Nat) : Int)) := by show _ = _; rw [HR.out, findN_at hlt, if_neg he]; rfl
        clear he
        go_wp2_with (go_at_call 83; refine (closure_any xs[k] s g _ hgr hgz).mono ?_; rintro e w' ⟨rfl, hw1⟩)
        go_roundw
        case rel => exact ⟨k + 1, by omega, by go_num, HF.out, hle.trans hw1⟩
        case measure => simp [intOf]; omega
    · have HF : Hid (findN xs s 0 = -1) := by show _ = _; rw [HR.out, findN_end hlt]
      go_wp2
      go_ret
      exact ⟨ret_int HF.out.symm, hle⟩

theorem indexOfName_any (A : Option Addr) (n cap : Nat) (xs : List Cls) (s : ByteArray) (w : World) (hR : Sl w A n cap xs) :
    Calls Tryd.prog 57 #[.slice A n cap, .string s] w fun e w' => e = .returned (.int .i64 (findN xs s 0)) ∧ Le w w' := by
  go_enter Tryd.func57, Tryd.ntmps57
  go_wp2_with fail
  refine (indexFunc_any A n cap xs s _ _ (hR.alloc _) (by simp) (by simp)).mono ?_
  rintro e w' ⟨rfl, hw1⟩
  go_wp2
  go_ret
  exact ⟨rfl, (Le.new w _).trans hw1⟩
end

section
set_option maxHeartbeats 8000000 in
theorem iValidTree_any (A : Option Addr) (n cap : Nat) (xs : List Cls) (w : World) (hR : Sl w A n cap xs) :
    Calls Tryd.prog 32 #[.agg #[.slice A n cap]] w fun e w' => e = .returned (.bool (okTree xs)) ∧ Le w w' := by
  obtain rfl := hR.len
  have hm := hR.n_le
  have hcp := hR.cap_
  have HL : xs.length < 1 ∨ 8 < xs.length → ∀ k, k ≤ xs.length → okFrom xs k (xs.drop k) = false := by
    intro h k hk
    obtain ⟨m, hm⟩ : ∃ m, xs.length - k = m := ⟨_, rfl⟩
    induction m generalizing k with
    | zero => rw [okFrom_end (by omega)]; simp; omega
    | succ m ih => rw [okFrom_at (by omega), ih (k + 1) (by omega) (by omega), Bool.and_false]
  by_cases h1 : xs.length < 1
  · have HF : Hid (okTree xs = false) := HL (.inl h1) 0 (Nat.zero_le _)
    clear HL
    go_enter Tryd.func32, Tryd.ntmps32
    go_wp2
    go_ret
    exact ⟨ret_bool HF.out.symm, Le.new w _⟩
  · by_cases h8 : 8 < xs.length
    · have HF : Hid (okTree xs = false) := HL (.inr h8) 0 (Nat.zero_le _)
      clear HL
      go_enter Tryd.func32, Tryd.ntmps32
      go_wp2
      go_ret
      exact ⟨ret_bool HF.out.symm, Le.new w _⟩
    · clear HL
      have d1 : decide ((xs.length : Int) < 1) = false := decide_eq_false (by omega)
      have d2 : decide (8 < (xs.length : Int)) = false := decide_eq_false (by omega)
      go_enter Tryd.func32, Tryd.ntmps32
      go_wp2
      go_loopw [19] (fun i wr => ∃ k : Nat, k ≤ xs.length ∧ i = .int .i64 k ∧ okTree xs = okFrom xs k (xs.drop k) ∧ Le (w.alloc (.cells #[.slice A xs.length cap] 25)) wr) (fun i _ => xs.length - (intOf i).toNat)
      case atStart => exact ⟨0, Nat.zero_le _, rfl, rfl, Le.refl _⟩
      case round =>
        obtain ⟨k, hk, rfl, hr, hle⟩ := hrel
        have HR := Lib.hid hr; clear hr
        have hz : w.heap.size < wr.heap.size := by have := hle.size; simp at this; omega
        have hT : wr.cell? ⟨w.heap.size, 0, none⟩ = some (.slice A xs.length cap) := by
          rw [hle.cell (by simp)]; simp
        have hwr : Le w wr := (Le.new w _).trans hle
        have hRr := hR.le hwr
        clear hR
        by_cases hlt : k < xs.length
        · obtain ⟨b, off, rfl, hb, hcell, hcell2, hns, hp1, hp2⟩ := hRr.cls_at hlt
          have HB : Hid (okTree xs = (!badCls xs k xs[k] && okFrom xs (k + 1) (xs.drop (k + 1)))) := by show _ = _; rw [HR.out, okFrom_at hlt]
          cases h1 : okName xs[k].name
          · have HF : Hid (okTree xs = false) := by show _ = _; rw [HB.out, badCls_i hlt, h1]; rfl
            clear HB
            go_wp2_with (go_at_call 56; refine (ivalidName_any _ _ hns).mono ?_; rintro e w' ⟨rfl, rfl⟩; rw [h1])
            go_ret
            exact ⟨ret_bool HF.out.symm, hwr.trans (Le.new _ _)⟩
          · have HB1 : Hid (okTree xs = (!(findN xs xs[k].name 0 != (k : Int) || (((xs[k].parent == -1) != ((k : Int) == 0)) || decide (xs[k].parent < -1) || decide ((k : Int) ≤ xs[k].parent))) && okFrom xs (k + 1) (xs.drop (k + 1)))) := by
              show _ = _; rw [HB.out, badCls_i hlt, h1]; rfl
            clear HB
            go_wp2_with (go_at_call 56; refine (ivalidName_any _ _ hns).mono ?_; rintro e w' ⟨rfl, rfl⟩; rw [h1])
            refine (indexOfName_any _ _ _ _ _ _ (hRr.alloc _)).mono ?_
            rintro e w3 ⟨rfl, h3⟩
            have e2 : w3.cell? ⟨wr.heap.size, 1, none⟩ = some (.int .i64 xs[k].parent) := (h3.cell (by simp)).trans (by simp)
            have hw3 : Le wr w3 := (Le.new _ _).trans h3
            clear hcell hcell2 hT h3
            cases h2 : findN xs xs[k].name 0 != (k : Int)
            · cases h4 : xs[k].parent == -1
              all_goals cases h5 : (k : Int) == 0
              all_goals cases h6 : decide (xs[k].parent < -1)
              all_goals cases h7 : decide ((k : Int) ≤ xs[k].parent)
              all_goals
                have hout := HB1.out
                simp only [h2, h4, h5, h6, h7] at hout
                have HO := Lib.hid hout
                clear hout HB1
                go_wp2
                first
                  | (go_ret; exact ⟨ret_bool (by rw [HO.out]; rfl), hwr.trans hw3⟩)
                  | (go_roundw
                     case rel => exact ⟨k + 1, by omega, by go_num, by rw [HO.out]; rfl, hle.trans hw3⟩
                     case measure => simp [intOf]; omega)
            · have HF : Hid (okTree xs = false) := by show _ = _; rw [HB1.out, h2]; rfl
              clear HB1
              go_wp2
              go_ret
              exact ⟨ret_bool HF.out.symm, hwr.trans hw3⟩
        · have HF : Hid (okTree xs = true) := by
            show _ = _; rw [HR.out, okFrom_end hlt]; simp; omega
          go_wp2
          go_ret
          exact ⟨ret_bool HF.out.symm, hwr⟩
end

section
def xOk (xs : List Cls) (x : Xit) : Bool :=
  if x.kind = 0 ∨ x.kind = 1 then rng 0 99 x.a && (x.b == 0) else if x.kind = 2 then hasK xs x.a && (x.b == 0) else if x.kind = 3 then hasK xs x.a && rng 0 99 x.b else false
def vxs (xs : List Cls) (L : List Xit) : Bool := okTree xs && decide (L.length ≤ 8) && L.all (xOk xs)
theorem vxs_iff {xs : List Cls} {L : List Xit} : vxs xs L = true ↔ okTree xs = true ∧ L.length ≤ 8 ∧ ∀ x ∈ L, xOk xs x = true := by
  unfold vxs
  rw [Bool.and_eq_true, Bool.and_eq_true, decide_eq_true_eq, List.all_eq_true]
  exact ⟨fun h => ⟨h.1.1, h.1.2, h.2⟩, fun h => ⟨⟨h.1, h.2.1⟩, h.2.2⟩⟩
theorem vxs_at {xs : List Cls} {L : List Xit} {k : Nat} (h : k < L.length) : (L.drop k).all (xOk xs) = (xOk xs L[k] && (L.drop (k + 1)).all (xOk xs)) := by rw [List.drop_eq_getElem_cons h]; rfl
theorem xOk_01 {xs : List Cls} {x : Xit} (h : x.kind = 0 ∨ x.kind = 1) : xOk xs x = (rng 0 99 x.a && (x.b == 0)) := if_pos h
theorem xOk_2 {xs : List Cls} {x : Xit} (h : x.kind = 2) : xOk xs x = (hasK xs x.a && (x.b == 0)) := by unfold xOk; rw [if_neg (by omega), if_pos h]
theorem xOk_3 {xs : List Cls} {x : Xit} (h : x.kind = 3) : xOk xs x = (hasK xs x.a && rng 0 99 x.b) := by unfold xOk; rw [if_neg (by omega), if_neg (by omega), if_pos h]
theorem xOk_no {xs : List Cls} {x : Xit} (h : ¬ x.kind = 0) (h1 : ¬ x.kind = 1) (h2 : ¬ x.kind = 2) (h3 : ¬ x.kind = 3) : xOk xs x = false := by unfold xOk; rw [if_neg (by omega), if_neg h2, if_neg h3]
/-- a box of a tree and a box of an exit -/
theorem boxTX (w : World) (t k a b : Value) (T U : TypeId) : ((w.alloc (.cells #[t] T)).alloc (.cells #[k, a, b] U)).cell? ⟨w.heap.size, 0, none⟩ = some t ∧ w.heap.size < ((w.alloc (.cells #[t] T)).alloc (.cells #[k, a, b] U)).heap.size ∧
    ((w.alloc (.cells #[t] T)).alloc (.cells #[k, a, b] U)).cell? ⟨w.heap.size + 1, 0, none⟩ = some k ∧ ((w.alloc (.cells #[t] T)).alloc (.cells #[k, a, b] U)).cell? ⟨w.heap.size + 1, 1, none⟩ = some a ∧ ((w.alloc (.cells #[t] T)).alloc (.cells #[k, a, b] U)).cell? ⟨w.heap.size + 1, 2, none⟩ = some b ∧
    w.heap.size + 1 < ((w.alloc (.cells #[t] T)).alloc (.cells #[k, a, b] U)).heap.size ∧ Le w ((w.alloc (.cells #[t] T)).alloc (.cells #[k, a, b] U)) := by
  refine ⟨?_, by simp; omega, ?_, ?_, ?_, by simp, (Le.new w _).alloc _⟩
  · rw [World.cell?_alloc_past _ _ _ (by simp), World.cell?_alloc_at _ _ _ _ rfl]; rfl
  all_goals (rw [World.cell?_alloc_at _ _ _ _ (by simp)]; rfl)
theorem boxT (w : World) (k a b : Value) (U : TypeId) : (w.alloc (.cells #[k, a, b] U)).cell? ⟨w.heap.size, 0, none⟩ = some k ∧ (w.alloc (.cells #[k, a, b] U)).cell? ⟨w.heap.size, 1, none⟩ = some a ∧ (w.alloc (.cells #[k, a, b] U)).cell? ⟨w.heap.size, 2, none⟩ = some b ∧
    w.heap.size < (w.alloc (.cells #[k, a, b] U)).heap.size ∧ Le w (w.alloc (.cells #[k, a, b] U)) := by
  refine ⟨?_, ?_, ?_, by simp, Le.new w _⟩ <;> (rw [World.cell?_alloc_at _ _ _ _ rfl]; rfl)
theorem rngI_any (a b c : Int) (w : World) : Calls Tryd.prog 58 #[.int .i64 a, .int .i64 b, .int .i64 c] w fun e w' => e = .returned (.bool (rng b c a)) ∧ w = w' := by
  unfold rng
  go_enter Tryd.func58, Tryd.ntmps58
  go_wp2
  all_goals (go_ret; simp_all)
  all_goals omega
theorem isClassI_any (A : Option Addr) (n cap : Nat) (xs : List Cls) (a : Int) (w : World) (hR : Sl w A n cap xs) :
    Calls Tryd.prog 59 #[.agg #[.slice A n cap], .int .i64 a] w fun e w' => e = .returned (.bool (hasK xs a)) ∧ Le w w' := by
  obtain rfl := hR.len
  have hm := hR.n_le
  have hw : IntKind.i64.wrap ((xs.length : Int) - 1) = (xs.length : Int) - 1 := IntWalk.i64_in _ (by omega)
  go_enter Tryd.func59, Tryd.ntmps59
  go_wp2_with (go_at_call 58; refine (rngI_any _ _ _ _).mono ?_; rintro e w' ⟨rfl, rfl⟩)
  go_ret
  exact ⟨rfl, Le.new w _⟩
set_option maxHeartbeats 1000000 in
set_option maxRecDepth 100000 in
theorem svalidExit_any (B : Option Addr) (m c : Nat) (xs : List Cls) (x : Xit) (w : World) (hT : Sl w B m c xs) :
    Calls Tryd.prog 54 #[.agg #[.slice B m c], .agg #[.int .i64 x.kind, .int .i64 x.a, .int .i64 x.b]] w fun e w' => e = .returned (.bool (xOk xs x)) ∧ Le w w' := by
  have X01 := Lib.hid (fun h => xOk_01 (xs := xs) (x := x) h)
  have X2 := Lib.hid (fun h => xOk_2 (xs := xs) (x := x) h)
  have X3 := Lib.hid (fun h => xOk_3 (xs := xs) (x := x) h)
  have X4 := Lib.hid (fun a b c d => xOk_no (xs := xs) (x := x) a b c d)
  generalize xOk xs x = Z at *
  generalize x.kind = vk at *
  generalize x.a = va at *
  generalize x.b = vb at *
  obtain ⟨ct, zt, x0, x1, x2, zx, L0⟩ := boxTX w (.slice B m c) (.int .i64 vk) (.int .i64 va) (.int .i64 vb) 25 58
  have T1 := hT.le L0
  clear hT
  by_cases h01 : vk = 0 ∨ vk = 1
  · have HZ := Lib.hid (X01.out h01)
    clear X01 X2 X3 X4
    rcases h01 with rfl | rfl
    all_goals
      go_enter Tryd.func54, Tryd.ntmps54
      go_wp2_with fail
      generalize (w.alloc (.cells #[.slice B m c] 25)).alloc _ = W at *
      refine (rng_any va 0 99 W).mono ?_
      rintro e w1 ⟨rfl, rfl⟩
      cases hr : rng 0 99 va
      all_goals
        rw [hr] at HZ
        go_wp2
        go_ret
        exact ⟨ret_bool (by rw [HZ.out]; simp), L0⟩
  · by_cases h2 : vk = 2
    · have HZ := Lib.hid (X2.out h2)
      clear X01 X2 X3 X4
      subst h2
      go_enter Tryd.func54, Tryd.ntmps54
      go_wp2_with fail
      generalize (w.alloc (.cells #[.slice B m c] 25)).alloc _ = W at *
      refine (hasClass_any B m c xs va W T1).mono ?_
      rintro e w1 ⟨rfl, hle⟩
      replace x2 := (hle.cell zx).trans x2
      cases hr : hasK xs va
      all_goals
        rw [hr] at HZ
        go_wp2
        go_ret
        exact ⟨ret_bool (by rw [HZ.out]; simp), L0.trans hle⟩
    · by_cases h3 : vk = 3
      · have HZ := Lib.hid (X3.out h3)
        clear X01 X2 X3 X4
        subst h3
        go_enter Tryd.func54, Tryd.ntmps54
        go_wp2_with fail
        generalize (w.alloc (.cells #[.slice B m c] 25)).alloc _ = W at *
        refine (hasClass_any B m c xs va W T1).mono ?_
        rintro e w1 ⟨rfl, hle⟩
        replace x2 := (hle.cell zx).trans x2
        cases hr : hasK xs va
        · rw [hr] at HZ
          go_wp2
          go_ret
          exact ⟨ret_bool (by rw [HZ.out]; simp), L0.trans hle⟩
        · rw [hr] at HZ
          go_wp2_with fail
          refine (rng_any vb 0 99 w1).mono ?_
          rintro e w2 ⟨rfl, rfl⟩
          go_wp2
          go_ret
          exact ⟨ret_bool (by rw [HZ.out]; simp), L0.trans hle⟩
      · have e0 : (vk == 0) = false := by simp; omega
        have e1 : (vk == 1) = false := by simp; omega
        have e2 : (vk == 2) = false := by simp; omega
        have e3 : (vk == 3) = false := by simp; omega
        have HZ := Lib.hid (X4.out (by omega) (by omega) h2 h3)
        clear X01 X2 X3 X4 h2 h3 h01
        go_enter Tryd.func54, Tryd.ntmps54
        go_wp2
        go_ret
        exact ⟨ret_bool (by rw [HZ.out]), L0⟩
set_option maxHeartbeats 1000000 in
set_option maxRecDepth 100000 in
theorem ivalidExit_any (B : Option Addr) (m c : Nat) (xs : List Cls) (x : Xit) (w : World) (hT : Sl w B m c xs) :
    Calls Tryd.prog 33 #[.agg #[.slice B m c], .agg #[.int .i64 x.kind, .int .i64 x.a, .int .i64 x.b]] w fun e w' => e = .returned (.bool (xOk xs x)) ∧ Le w w' := by
  have X01 := Lib.hid (fun h => xOk_01 (xs := xs) (x := x) h)
  have X2 := Lib.hid (fun h => xOk_2 (xs := xs) (x := x) h)
  have X3 := Lib.hid (fun h => xOk_3 (xs := xs) (x := x) h)
  have X4 := Lib.hid (fun a b c d => xOk_no (xs := xs) (x := x) a b c d)
  generalize xOk xs x = Z at *
  generalize x.kind = vk at *
  generalize x.a = va at *
  generalize x.b = vb at *
  obtain ⟨ct, zt, x0, x1, x2, zx, L0⟩ := boxTX w (.slice B m c) (.int .i64 vk) (.int .i64 va) (.int .i64 vb) 25 58
  have T1 := hT.le L0
  clear hT
  by_cases h01 : vk = 0 ∨ vk = 1
  · have HZ := Lib.hid (X01.out h01)
    clear X01 X2 X3 X4
    rcases h01 with rfl | rfl
    all_goals
      go_enter Tryd.func33, Tryd.ntmps33
      go_wp2_with fail
      generalize (w.alloc (.cells #[.slice B m c] 25)).alloc _ = W at *
      refine (rngI_any va 0 99 W).mono ?_
      rintro e w1 ⟨rfl, rfl⟩
      cases hr : rng 0 99 va
      all_goals
        rw [hr] at HZ
        go_wp2
        go_ret
        exact ⟨ret_bool (by rw [HZ.out]; simp), L0⟩
  · by_cases h2 : vk = 2
    · have HZ := Lib.hid (X2.out h2)
      clear X01 X2 X3 X4
      subst h2
      go_enter Tryd.func33, Tryd.ntmps33
      go_wp2_with fail
      generalize (w.alloc (.cells #[.slice B m c] 25)).alloc _ = W at *
      refine (isClassI_any B m c xs va W T1).mono ?_
      rintro e w1 ⟨rfl, hle⟩
      replace x2 := (hle.cell zx).trans x2
      cases hr : hasK xs va
      all_goals
        rw [hr] at HZ
        go_wp2
        go_ret
        exact ⟨ret_bool (by rw [HZ.out]; simp), L0.trans hle⟩
    · by_cases h3 : vk = 3
      · have HZ := Lib.hid (X3.out h3)
        clear X01 X2 X3 X4
        subst h3
        go_enter Tryd.func33, Tryd.ntmps33
        go_wp2_with fail
        generalize (w.alloc (.cells #[.slice B m c] 25)).alloc _ = W at *
        refine (isClassI_any B m c xs va W T1).mono ?_
        rintro e w1 ⟨rfl, hle⟩
        replace x2 := (hle.cell zx).trans x2
        cases hr : hasK xs va
        · rw [hr] at HZ
          go_wp2
          go_ret
          exact ⟨ret_bool (by rw [HZ.out]; simp), L0.trans hle⟩
        · rw [hr] at HZ
          go_wp2_with fail
          refine (rngI_any vb 0 99 w1).mono ?_
          rintro e w2 ⟨rfl, rfl⟩
          go_wp2
          go_ret
          exact ⟨ret_bool (by rw [HZ.out]; simp), L0.trans hle⟩
      · have e0 : (vk == 0) = false := by simp; omega
        have e1 : (vk == 1) = false := by simp; omega
        have e2 : (vk == 2) = false := by simp; omega
        have e3 : (vk == 3) = false := by simp; omega
        have HZ := Lib.hid (X4.out (by omega) (by omega) h2 h3)
        clear X01 X2 X3 X4 h2 h3 h01
        go_enter Tryd.func33, Tryd.ntmps33
        go_wp2
        go_ret
        exact ⟨ret_bool (by rw [HZ.out]), L0⟩
set_option maxHeartbeats 1000000 in
set_option maxRecDepth 100000 in
theorem iValidExits_any (B A : Option Addr) (m c n cap : Nat) (xs : List Cls) (L : List Xit) (w : World) (hT : Sl w B m c xs) (hR : Sl w A n cap L) :
    Calls Tryd.prog 10 #[.agg #[.slice B m c], .slice A n cap] w fun e w' => e = .returned (.bool (vxs xs L)) ∧ Le w w' := by
  obtain rfl := hR.len
  have hmx := hR.n_le
  have HX : Hid (vxs xs L = (okTree xs && decide (L.length ≤ 8) && L.all (xOk xs))) := rfl
  go_enter Tryd.func10, Tryd.ntmps10
  go_wp2_with fail
  obtain ⟨ct, zt, hleB⟩ := box1 w (.slice B m c) 25
  have L0 := hleB
  clear hleB
  generalize w.alloc (.cells #[.slice B m c] 25) = W at *
  have S1 := hR.le L0
  have ST := hT.le L0
  clear hR hT
  refine (iValidTree_any B m c xs W ST).mono ?_
  rintro e w1 ⟨rfl, hle⟩
  replace ct := (hle.cell zt).trans ct
  replace zt := Nat.lt_of_lt_of_le zt hle.size
  replace L0 := L0.trans hle
  replace S1 := S1.le hle
  replace ST := ST.le hle
  clear hle
  cases h : okTree xs
  · have HF : Hid (vxs xs L = false) := by show _ = _; rw [HX.out, h]; rfl
    go_wp2
    go_ret
    exact ⟨ret_bool HF.out.symm, L0⟩
  · by_cases h8 : L.length ≤ 8
    · have hb8 : decide ((8 : Int) < (L.length : Int)) = false := by simp; omega
      have HY : Hid (vxs xs L = L.all (xOk xs)) := by show _ = _; rw [HX.out, h, decide_eq_true h8]; rfl
      clear HX
      go_wp2
      go_loopw [17] (fun q wr => ∃ k : Nat, k ≤ L.length ∧ q = .int .i64 k ∧ L.all (xOk xs) = (L.drop k).all (xOk xs) ∧ Le w1 wr) (fun q _ => L.length - (intOf q).toNat)
      case atStart => exact ⟨0, Nat.zero_le _, rfl, rfl, Le.refl _⟩
      case round =>
        obtain ⟨k, hk, rfl, he, hle0⟩ := hrel
        have HE := Lib.hid he; clear he
        replace ct := (hle0.cell zt).trans ct
        replace zt := Nat.lt_of_lt_of_le zt hle0.size
        replace L0 := L0.trans hle0
        replace S1 := S1.le hle0
        replace ST := ST.le hle0
        by_cases hlt : k < L.length
        · obtain ⟨b, off, rfl, hb, d0, d1, d2, -⟩ := S1.xit_at hlt
          have HA := Lib.hid (vxs_at (xs := xs) hlt)
          generalize HXK : L[k] = x at *
          clear HXK
          go_wp2_with fail
          obtain ⟨y0, y1, y2, zy, hlb⟩ := boxT wr (.int .i64 x.kind) (.int .i64 x.a) (.int .i64 x.b) 58
          replace ct := (hlb.cell zt).trans ct
          replace zt := Nat.lt_of_lt_of_le zt hlb.size
          replace L0 := L0.trans hlb
          replace S1 := S1.le hlb
          replace ST := ST.le hlb
          have hlb0 := hlb
          clear hlb
          generalize wr.alloc _ = W2 at *
          refine (ivalidExit_any B m c xs x W2 ST).mono ?_
          rintro e w3 ⟨rfl, hle3⟩
          have L3 := L0.trans hle3
          cases hx : xOk xs x
          · have HF : Hid (vxs xs L = false) := by show _ = _; rw [HY.out, HE.out, HA.out, hx]; rfl
            go_wp2
            go_ret
            exact ⟨ret_bool HF.out.symm, L3⟩
          · have HF : Hid (L.all (xOk xs) = (L.drop (k + 1)).all (xOk xs)) := by show _ = _; rw [HE.out, HA.out, hx, Bool.true_and]
            have L4 := (hle0.trans hlb0).trans hle3
            go_wp2
            go_roundw
            case rel => exact ⟨k + 1, by omega, by go_num, HF.out, L4⟩
            case measure => simp [intOf]; omega
        · have HF : Hid (vxs xs L = true) := by show _ = _; rw [HY.out, HE.out, List.drop_eq_nil_of_le (by omega)]; rfl
          go_wp2
          go_ret
          exact ⟨ret_bool HF.out.symm, L0⟩
    · have hb8 : decide ((8 : Int) < (L.length : Int)) = true := by simp; omega
      have HF : Hid (vxs xs L = false) := by show _ = _; rw [HX.out, decide_eq_false h8]; simp
      go_wp2
      go_ret
      exact ⟨ret_bool HF.out.symm, L0⟩
set_option maxHeartbeats 1000000 in
set_option maxRecDepth 100000 in
theorem svalidExits_any (B A : Option Addr) (m c n cap : Nat) (xs : List Cls) (L : List Xit) (w : World) (hT : Sl w B m c xs) (hR : Sl w A n cap L) :
    Calls Tryd.prog 30 #[.agg #[.slice B m c], .slice A n cap] w fun e w' => e = .returned (.bool (vxs xs L)) ∧ Le w w' := by
  obtain rfl := hR.len
  have hmx := hR.n_le
  have HX : Hid (vxs xs L = (okTree xs && decide (L.length ≤ 8) && L.all (xOk xs))) := rfl
  go_enter Tryd.func30, Tryd.ntmps30
  go_wp2_with fail
  obtain ⟨ct, zt, hleB⟩ := box1 w (.slice B m c) 25
  have L0 := hleB
  clear hleB
  generalize w.alloc (.cells #[.slice B m c] 25) = W at *
  have S1 := hR.le L0
  have ST := hT.le L0
  clear hR hT
  go_loopw [5] (fun q wr => ∃ k : Nat, k ≤ L.length ∧ q = .int .i64 k ∧ L.all (xOk xs) = (L.drop k).all (xOk xs) ∧ Le W wr) (fun q _ => L.length - (intOf q).toNat)
  case atStart => exact ⟨0, Nat.zero_le _, rfl, rfl, Le.refl _⟩
  case round =>
    obtain ⟨k, hk, rfl, he, hle0⟩ := hrel
    have HE := Lib.hid he; clear he
    replace ct := (hle0.cell zt).trans ct
    replace zt := Nat.lt_of_lt_of_le zt hle0.size
    replace L0 := L0.trans hle0
    replace S1 := S1.le hle0
    replace ST := ST.le hle0
    by_cases hlt : k < L.length
    · obtain ⟨b, off, rfl, hb, d0, d1, d2, -⟩ := S1.xit_at hlt
      have HA := Lib.hid (vxs_at (xs := xs) hlt)
      generalize HXK : L[k] = x at *
      clear HXK
      have E0 := cell_ext zt ct
      have E1 := cell_ext hb d0
      have E2 := cell_ext hb d1
      have E3 := cell_ext hb d2
      have HNO : Hid (xOk xs x = false → vxs xs L = false) := fun hx => by rw [HX.out, HE.out, HA.out, hx]; simp
      have HYES : Hid (xOk xs x = true → L.all (xOk xs) = (L.drop (k + 1)).all (xOk xs)) := fun hx => by rw [HE.out, HA.out, hx, Bool.true_and]
      go_wp2_with fail
      refine wp_region_ext (by kernel_rfl) (by kernel_rfl) ?_
      repeat (go_big_quiet_step (first | (go_at_call 54; exact Calls.ext_of (svalidExit_any B m c xs x _ (ST.ext _)))))
      refine wpQuiet_nil ?_
      intro _ hw'
      obtain ⟨g, rfl⟩ := hw'
      have hw1 := Le.ext wr g
      have L3 := L0.trans hw1
      have L4 := hle0.trans hw1
      clear E0 E1 E2 E3
      generalize wr.ext g = W2 at *
      cases hx : xOk xs x
      · have HF := Lib.hid (HNO.out hx)
        go_wp2
        go_ret
        exact ⟨ret_bool HF.out.symm, L3⟩
      · have HF := Lib.hid (HYES.out hx)
        go_wp2
        go_roundw
        case rel => exact ⟨k + 1, by omega, by go_num, HF.out, L4⟩
        case measure => simp [intOf]; omega
    · have HY : Hid (L.all (xOk xs) = true) := by show _ = _; rw [HE.out, List.drop_eq_nil_of_le (by omega)]; rfl
      clear HE
      go_wp2_with fail
      refine (validTree_any B m c xs wr ST).mono ?_
      rintro e w2 ⟨rfl, hl2⟩
      cases ht : okTree xs
      · have HF : Hid (vxs xs L = false) := by show _ = _; rw [HX.out, ht]; rfl
        go_wp2
        go_ret
        exact ⟨ret_bool HF.out.symm, L0.trans hl2⟩
      · have HF : Hid (vxs xs L = decide ((L.length : Int) ≤ 8)) := by show _ = _; rw [HX.out, ht, HY.out, Bool.true_and, Bool.and_true]; exact decide_eq_decide.2 (by omega)
        go_wp2
        go_ret
        exact ⟨ret_bool HF.out.symm, L0.trans hl2⟩
end
end Go.Proofs.YtnpcmlcigeccmaaDoor
