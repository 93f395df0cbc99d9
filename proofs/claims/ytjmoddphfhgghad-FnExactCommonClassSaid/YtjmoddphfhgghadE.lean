import Derived.Test.YtjmoddphfhgghadA
import Derived.Test.YtjmoddphfhgghadL
namespace Go.Proofs.Ytjmoddphfhgghad
open Go.RowKit

def SzOut (left : Int) (n : Nat) (w : World) (e : Ending) (w' : World) : Prop := ∃ r : Int, e = .returned (.int .i64 r) ∧ (r = -1 ∨ (0 ≤ r ∧ r ≤ left ∧ (n : Int) ≤ left)) ∧ Le w w'
def eqC (a b : Cls) : Bool := (a.name.toList == b.name.toList) && (a.parent == b.parent)
def eqCs : List Cls → List Cls → Bool
  | [], [] => true
  | a :: r, b :: s => eqC a b && eqCs r s
  | _, _ => false

theorem clsInfo : (Try.prog.info? 62).map (fun i => (i.zero, i.size, i.bytes)) = some (some (.agg #[.string ByteArray.empty, .int .i64 0]), 2, 24) := by kernel_rfl
theorem szClass_any (c : Cls) (left : Int) (w : World) (hc : Enc.ok c) (h0 : 0 ≤ left) (h1 : left ≤ 1048576) :
    Calls Try.prog 52 #[.agg #[.string c.name, .int .i64 c.parent], .int .i64 left] w (SzOut left c.name.size w) := by
  have hn : (c.name.size : Int) ≤ 9223372036854775807 := by have := hc.1; omega
  by_cases h : left - c.name.size < 0
  · go_enter Try.func52, Try.ntmps52
    go_wp2
    go_ret
    exact ⟨-1, rfl, .inl rfl, Le.new w _⟩
  · go_enter Try.func52, Try.ntmps52
    go_wp2
    go_ret
    exact ⟨_, rfl, .inr ⟨by omega, by omega, by omega⟩, Le.new w _⟩

theorem szClassS_any (A : Option Addr) (n cap : Nat) (xs : List Cls) (left : Int) (w : World) (hR : Sl w A n cap xs) (h0 : 0 ≤ left) (h1 : left ≤ 1048576) :
    Calls Try.prog 30 #[.slice A n cap, .int .i64 left] w (SzOut left n w) := by
  obtain rfl := hR.len
  have hm := hR.n_le
  by_cases h : left - xs.length < 0
  · go_enter Try.func30, Try.ntmps30
    go_wp2
    go_ret
    exact ⟨-1, rfl, .inl rfl, Le.refl w⟩
  · go_enter Try.func30, Try.ntmps30
    go_wp2
    go_loopw [1, 5] (fun lf i wr => ∃ k : Nat, ∃ r : Int, k ≤ xs.length ∧ i = .int .i64 k ∧ lf = .int .i64 r ∧ 0 ≤ r ∧ r ≤ left ∧ Le w wr) (fun _ i _ => xs.length - (intOf i).toNat)
    case atStart => exact ⟨0, left - xs.length, Nat.zero_le _, rfl, rfl, by omega, by omega, Le.refl _⟩
    case round =>
      obtain ⟨k, r, hk, rfl, rfl, hr0, hr1, hle⟩ := hrel
      have hRr := hR.le hle
      clear hR
      by_cases hlt : k < xs.length
      · obtain ⟨b, off, rfl, hb, hcell, hcell2, hns, hp1, hp2⟩ := hRr.cls_at hlt
        go_wp2_with fail
        refine (szClass_any xs[k] _ _ (hRr.ok _ (List.getElem_mem hlt)) hr0 (by omega)).mono ?_
        rintro e w' ⟨r2, rfl, hr2, hle2⟩
        rcases hr2 with rfl | ⟨h20, h21, _⟩
        · go_wp2
          go_ret
          exact ⟨-1, rfl, .inl rfl, hle.trans hle2⟩
        · have hneg : decide (r2 < 0) = false := decide_eq_false (by omega)
          go_wp2
          go_roundw
          case rel => exact ⟨k + 1, r2, by omega, by go_num, rfl, by omega, by omega, hle.trans hle2⟩
          case measure => simp [intOf]; omega
      · go_wp2
        go_ret
        exact ⟨r, rfl, .inr ⟨hr0, by omega, by omega⟩, hle⟩

theorem szTree_any (A : Option Addr) (n cap : Nat) (xs : List Cls) (left : Int) (w : World) (hR : Sl w A n cap xs) (h0 : 0 ≤ left) (h1 : left ≤ 1048576) :
    Calls Try.prog 9 #[.agg #[.slice A n cap], .int .i64 left] w (SzOut left n w) := by
  go_enter Try.func9, Try.ntmps9
  go_wp2_with fail
  refine (szClassS_any A n cap xs _ _ (hR.alloc _) h0 h1).mono ?_
  rintro e w' ⟨r2, rfl, hr2, hle2⟩
  have hle := (Le.new w _).trans hle2
  rcases hr2 with rfl | ⟨h20, h21, h22⟩
  · go_wp2
    go_ret
    exact ⟨-1, rfl, .inl rfl, hle⟩
  · have hneg : decide (r2 < 0) = false := decide_eq_false (by omega)
    go_wp2
    go_ret
    exact ⟨r2, rfl, .inr ⟨by omega, by omega, h22⟩, hle⟩

theorem toClass_any (c : Cls) (w : World) :
    Calls Try.prog 54 #[.agg #[.string c.name, .int .i64 c.parent]] w fun e w' => e = .returned (.agg #[.string c.name, .int .i64 c.parent]) ∧ Le w w' := by
  go_enter Try.func54, Try.ntmps54
  go_wp2
  exact bodyPost_ret (v := .agg #[.string c.name, .int .i64 c.parent]) (by simp [results, Try.results54, go_sem]) rfl ⟨rfl, ((Le.new w _).alloc _).alloc _⟩

theorem eqClass_any (a b : Cls) (w : World) :
    Calls Try.prog 55 #[.agg #[.string a.name, .int .i64 a.parent], .agg #[.string b.name, .int .i64 b.parent]] w fun e w' => e = .returned (.bool (eqC a b)) ∧ Le w w' := by
  cases h1 : (a.name.toList == b.name.toList) <;> cases h2 : (a.parent == b.parent)
  all_goals
    have HF : Hid (eqC a b = ((a.name.toList == b.name.toList) && (a.parent == b.parent))) := by show _ = _; rfl
    rw [h1, h2] at HF
    go_enter Try.func55, Try.ntmps55
    go_wp2
    go_ret
    exact ⟨ret_bool HF.out.symm, (Le.new w _).alloc _⟩

theorem eqCs_at {xs ys : List Cls} (hl : xs.length = ys.length) {k : Nat} (h : k < xs.length) : eqCs (xs.drop k) (ys.drop k) = (eqC xs[k] (ys[k]'(by omega)) && eqCs (xs.drop (k + 1)) (ys.drop (k + 1))) := by
  rw [List.drop_eq_getElem_cons h, List.drop_eq_getElem_cons (l := ys) (i := k) (by omega)]; rfl
theorem eqCs_end {xs ys : List Cls} (hl : xs.length = ys.length) {k : Nat} (h : ¬ k < xs.length) : eqCs (xs.drop k) (ys.drop k) = true := by
  rw [List.drop_eq_nil_of_le (by omega), List.drop_eq_nil_of_le (by omega)]; rfl
theorem eqCs_len {xs ys : List Cls} (hl : xs.length ≠ ys.length) : eqCs xs ys = false := by
  induction xs generalizing ys with
  | nil => cases ys with | nil => exact absurd rfl hl | cons _ _ => rfl
  | cons a r ih =>
    cases ys with
    | nil => rfl
    | cons b s => show (eqC a b && eqCs r s) = false; rw [ih (by simpa using hl), Bool.and_false]
theorem eqC_self (a : Cls) : eqC a a = true := by simp [eqC]
theorem eqCs_self (xs : List Cls) : eqCs xs xs = true := by
  induction xs with
  | nil => rfl
  | cons a r ih => show (eqC a a && eqCs r r) = true; rw [eqC_self, ih]; rfl

theorem eqClassS_any (A B : Option Addr) (n m c d : Nat) (xs ys : List Cls) (w : World) (hR : Sl w A n c xs) (hS : Sl w B m d ys) :
    Calls Try.prog 37 #[.slice A n c, .slice B m d] w fun e w' => e = .returned (.bool (eqCs xs ys)) ∧ Le w w' := by
  obtain rfl := hR.len
  obtain rfl := hS.len
  have hm := hR.n_le
  have hm2 := hS.n_le
  by_cases hl : xs.length = ys.length
  · have hb : ((xs.length : Int) != (ys.length : Int)) = false := by rw [hl]; simp
    have HL := Lib.hid hl; clear hl
    go_enter Try.func37, Try.ntmps37
    go_wp2
    go_loopw [5] (fun i wr => ∃ k : Nat, k ≤ xs.length ∧ i = .int .i64 k ∧ eqCs xs ys = eqCs (xs.drop k) (ys.drop k) ∧ Le w wr) (fun i _ => xs.length - (intOf i).toNat)
    case atStart => exact ⟨0, Nat.zero_le _, rfl, rfl, Le.refl _⟩
    case round =>
      obtain ⟨k, hk, rfl, hr, hle⟩ := hrel
      have HR := Lib.hid hr; clear hr
      have hRr := hR.le hle
      have hSr := hS.le hle
      clear hR hS
      by_cases hlt : k < xs.length
      · have hlt2 : k < ys.length := by have := HL.out; omega
        have hd := eqCs_at HL.out hlt
        have HF : Hid (eqCs xs ys = (eqC xs[k] ys[k] && eqCs (xs.drop (k + 1)) (ys.drop (k + 1)))) := HR.out.trans hd
        clear hd
        obtain ⟨b, off, rfl, hb, hcell, hcell2, _, _, _⟩ := hRr.cls_at hlt
        obtain ⟨b2, off2, rfl, hb2, hcell3, hcell4, _, _, _⟩ := hSr.cls_at hlt2
        have E1 := cell_ext hb hcell
        have E2 := cell_ext hb hcell2
        have E3 := cell_ext hb2 hcell3
        have E4 := cell_ext hb2 hcell4
        cases he : eqC xs[k] ys[k]
        all_goals
          go_wp2_with fail
          refine wp_region_ext (by kernel_rfl) (by kernel_rfl) ?_
          repeat (go_big_quiet_step (first | (go_at_call 55; exact Calls.ext_of (Calls.val (eqClass_any xs[k] ys[k] _) (vb he)))))
          refine wpQuiet_nil ?_
          intro _ hw'
          obtain ⟨g, rfl⟩ := hw'
          have hw1 := Le.ext wr g
          generalize wr.ext g = W2 at *
          go_wp2
        · go_ret
          exact ⟨ret_bool (by rw [HF.out, he]; rfl), hle.trans hw1⟩
        · go_roundw
          case rel => exact ⟨k + 1, by omega, by go_num, by rw [HF.out, he]; rfl, hle.trans hw1⟩
          case measure => simp [intOf]; omega
      · have HF : Hid (eqCs xs ys = true) := HR.out.trans (eqCs_end HL.out hlt)
        go_wp2
        go_ret
        exact ⟨ret_bool HF.out.symm, hle⟩
  · have hb : ((xs.length : Int) != (ys.length : Int)) = true := by simp; omega
    have HF : Hid (eqCs xs ys = false) := eqCs_len hl
    clear hl
    go_enter Try.func37, Try.ntmps37
    go_wp2
    go_ret
    exact ⟨ret_bool HF.out.symm, Le.refl w⟩

theorem eqTree_any (A B : Option Addr) (n m c d : Nat) (xs ys : List Cls) (w : World) (hR : Sl w A n c xs) (hS : Sl w B m d ys) :
    Calls Try.prog 14 #[.agg #[.slice A n c], .agg #[.slice B m d]] w fun e w' => e = .returned (.bool (eqCs xs ys)) ∧ Le w w' := by
  cases he : eqCs xs ys
  all_goals
    go_enter Try.func14, Try.ntmps14
    go_wp2_with fail
    refine (eqClassS_any A B n m c d xs ys _ ((hR.alloc _).alloc _) ((hS.alloc _).alloc _)).mono ?_
    rintro e w' ⟨rfl, hw1⟩
    rw [he]
    go_wp2
    go_ret
    exact ⟨rfl, ((Le.new w _).alloc _).trans hw1⟩

end Go.Proofs.Ytjmoddphfhgghad
