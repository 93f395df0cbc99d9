/- draws of chapter 4, as the laws call them -/
import Derived.Test.YtakkmgeocmndjaaDM
namespace Go.Proofs.Ytakkmgeocmndjaa
open Go.RowKit
theorem own_sl {w : World} {base : Nat} {A : Option Addr} {n c : Nat} {xs : List Frm} (h : w.ownsRow base 28 2 (.slice A n c) n (xs.flatMap Enc.cells)) (hok : ∀ x ∈ xs, Enc.ok x) : Sl w A n c xs := Sl.of_own h rfl (by decide) hok
def DrT (w : World) (e : Ending) (w' : World) : Prop := ∃ (B : Option Addr) (m c : Nat) (xs : List Frm), e = .returned (.slice B m c) ∧ Sl w' B m c xs ∧ m ≤ 12 ∧ Le w w'
def DrTT (w : World) (e : Ending) (w' : World) : Prop := ∃ (B D : Option Addr) (m c k d : Nat) (xs ys : List Frm), e = .returned (.tuple #[.slice B m c, .slice D k d]) ∧ Sl w' B m c xs ∧ m ≤ 12 ∧ Sl w' D k d ys ∧ k ≤ 12 ∧ Le w w'
def DrTI (w : World) (e : Ending) (w' : World) : Prop := ∃ (B : Option Addr) (m c : Nat) (xs : List Frm) (a : Int), e = .returned (.tuple #[.slice B m c, .int .i64 a]) ∧ Sl w' B m c xs ∧ m ≤ 12 ∧ (-100 ≤ a ∧ a ≤ 100) ∧ Le w w'
def DrTS (w : World) (e : Ending) (w' : World) : Prop := ∃ (B : Option Addr) (m c : Nat) (xs : List Frm) (s : ByteArray), e = .returned (.tuple #[.slice B m c, .string s]) ∧ Sl w' B m c xs ∧ m ≤ 12 ∧ s.size ≤ 100 ∧ Le w w'
def DrTF (w : World) (e : Ending) (w' : World) : Prop := ∃ (B : Option Addr) (m c : Nat) (xs : List Frm) (f : Frm), e = .returned (.tuple #[.slice B m c, .agg #[.string f.fn, .int .i64 f.line]]) ∧ Sl w' B m c xs ∧ m ≤ 12 ∧ Enc.ok f ∧ Le w w'
theorem drawValidTrace_any (A : Option Addr) (n cap : Nat) (bs : List By) (w : World) (hR : Sl w A n cap bs) : Calls Try.prog 15 #[.slice A n cap] w (DrT w) := by
  go_enter Try.func15, Try.ntmps15
  go_wp2_with fail
  refine (newReader_any A n cap bs w hR).mono ?_
  rintro e w1 ⟨g, A1, n1, k1, bs1, rfl, hg, R1, hle⟩
  go_wp2_with fail
  refine (someTrace_any g 0 A1 n1 k1 bs1 w1 (by omega) R1).mono ?_
  rintro e w2 ⟨v, xs, p1, rfl, O, hok, hl, hp1, R, G⟩
  obtain ⟨B, c, rfl⟩ := own_form O
  have S := Lib.hid (own_sl O hok)
  have L2 := Gx.le hle G hg
  clear O hok R G R1 hle
  go_wp2
  go_ret
  exact ⟨_, _, _, xs, rfl, S.out, hl, L2⟩
theorem drawFoldTrace_any (A : Option Addr) (n cap : Nat) (bs : List By) (w : World) (hR : Sl w A n cap bs) : Calls Try.prog 29 #[.slice A n cap] w (DrT w) := by
  go_enter Try.func29, Try.ntmps29
  go_wp2_with fail
  refine (newReader_any A n cap bs w hR).mono ?_
  rintro e w1 ⟨g, A1, n1, k1, bs1, rfl, hg, R1, hle⟩
  go_wp2_with fail
  refine (someTrace_any g 0 A1 n1 k1 bs1 w1 (by omega) R1).mono ?_
  rintro e w2 ⟨v, xs, p1, rfl, O, hok, hl, hp1, R, G⟩
  obtain ⟨B, c, rfl⟩ := own_form O
  have S := Lib.hid (own_sl O hok)
  have L2 := Gx.le hle G hg
  clear O hok R G R1 hle
  go_wp2
  go_ret
  exact ⟨_, _, _, xs, rfl, S.out, hl, L2⟩
theorem drawCommonHead_any (A : Option Addr) (n cap : Nat) (bs : List By) (w : World) (hR : Sl w A n cap bs) : Calls Try.prog 36 #[.slice A n cap] w (DrTT w) := by
  go_enter Try.func36, Try.ntmps36
  go_wp2_with fail
  refine (newReader_any A n cap bs w hR).mono ?_
  rintro e w1 ⟨g, A1, n1, k1, bs1, rfl, hg, R1, hle⟩
  go_wp2_with fail
  refine (twoTraces_any g 0 A1 n1 k1 bs1 w1 (by omega) R1).mono ?_
  rintro e w2 ⟨v, u, xs, ys, p1, rfl, O, hok, hl, O2, hok2, hl2, hp1, R, G⟩
  obtain ⟨B, c, rfl⟩ := own_form O
  obtain ⟨D, d, rfl⟩ := own_form O2
  have S := Lib.hid (own_sl O hok)
  have S2 := Lib.hid (own_sl O2 hok2)
  have L2 := Gx.le hle G hg
  clear O hok R G R1 hle O2 hok2
  go_wp2
  exact bodyPost_ret (v := .tuple #[.slice B xs.length c, .slice D ys.length d]) (by simp [results, Try.results36, go_sem]) rfl ⟨_, _, _, _, _, _, xs, ys, rfl, S.out, hl, S2.out, hl2, L2⟩
theorem drawLessHead_any (A : Option Addr) (n cap : Nat) (bs : List By) (w : World) (hR : Sl w A n cap bs) : Calls Try.prog 39 #[.slice A n cap] w (DrTT w) := by
  go_enter Try.func39, Try.ntmps39
  go_wp2_with fail
  refine (newReader_any A n cap bs w hR).mono ?_
  rintro e w1 ⟨g, A1, n1, k1, bs1, rfl, hg, R1, hle⟩
  go_wp2_with fail
  refine (twoTraces_any g 0 A1 n1 k1 bs1 w1 (by omega) R1).mono ?_
  rintro e w2 ⟨v, u, xs, ys, p1, rfl, O, hok, hl, O2, hok2, hl2, hp1, R, G⟩
  obtain ⟨B, c, rfl⟩ := own_form O
  obtain ⟨D, d, rfl⟩ := own_form O2
  have S := Lib.hid (own_sl O hok)
  have S2 := Lib.hid (own_sl O2 hok2)
  have L2 := Gx.le hle G hg
  clear O hok R G R1 hle O2 hok2
  go_wp2
  exact bodyPost_ret (v := .tuple #[.slice B xs.length c, .slice D ys.length d]) (by simp [results, Try.results39, go_sem]) rfl ⟨_, _, _, _, _, _, xs, ys, rfl, S.out, hl, S2.out, hl2, L2⟩
end Go.Proofs.Ytakkmgeocmndjaa
