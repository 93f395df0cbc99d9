/- one text of TkN, TrM, AF, UR, AG, TrN -/
import Derived.Test.YtnjckloodkdbpaaDoorCq5
import Derived.Test.YtnjckloodkdbpaaDoorCq4
import Derived.Test.YtnjckloodkdbpaaDoorCq3
import Derived.Lib.AtoiAllCases
import Derived.ArgAppend
import Derived.Deep.RegionLaw
namespace Go.Proofs.YtnjckloodkdbpaaDoor
open Go.RowKit
set_option linter.unusedVariables false
section
def dg (n : Nat) : UInt8 := UInt8.ofNat (48 + n)
def numL (n : Nat) : List UInt8 := if n < 10 then [dg n] else if n < 100 then [dg (n / 10), dg (n % 10)] else [dg (n / 100), dg (n / 10 % 10), dg (n % 10)]
def dv (l : List UInt8) : Nat := l.foldl (fun a b => 10 * a + (b.toNat - 48)) 0
def isDg (b : UInt8) : Bool := decide (48 ≤ b.toNat) && decide (b.toNat ≤ 57)
theorem numL_dg : ∀ n : Fin 1000, (numL n.1).all isDg = true := by decide +kernel
theorem numL_sz : ∀ n : Fin 1000, 1 ≤ (numL n.1).length ∧ (numL n.1).length ≤ 3 := by decide +kernel
theorem numL_sz2 : ∀ n : Fin 100, (numL n.1).length ≤ 2 := by decide +kernel
theorem numL_dv : ∀ n : Fin 1000, dv (numL n.1) = n.1 := by decide +kernel
theorem numL_pre : ∀ n : Fin 1000, dv ((numL n.1).take 1) ≤ 9 ∧ ((numL n.1).length = 3 → dv ((numL n.1).take 2) ≤ 99) := by decide +kernel
theorem numL_atoi : ∀ n : Fin 1000, Lib.atoiAll (numL n.1) = .ok (n.1 : Int) := by decide +kernel
theorem isDg_iff {b : UInt8} : isDg b = true ↔ 48 ≤ b.toNat ∧ b.toNat ≤ 57 := by unfold isDg; simp
theorem numL_not {n : Nat} (h : n < 1000) {c : UInt8} (hc : c.toNat < 48 ∨ 57 < c.toNat) : c ∉ numL n := fun hm => by
  have := List.all_eq_true.1 (numL_dg ⟨n, h⟩) c hm
  have := isDg_iff.1 this
  omega
theorem numL_inj {a b : Nat} (ha : a < 1000) (hb : b < 1000) (h : numL a = numL b) : a = b := by
  have h1 := numL_dv ⟨a, ha⟩
  have h2 := numL_dv ⟨b, hb⟩
  dsimp only at h1 h2
  rw [← h1, ← h2, h]
/-- what strconv.Atoi answers ahead of its error -/
def atI (l : List UInt8) : Int := match Lib.atoiAll l with
  | .ok v => v
  | .range => Lib.atoiSat l
  | _ => 0
theorem atI_num {n : Nat} (h : n < 1000) : atI (numL n) = n := by
  unfold atI; rw [numL_atoi ⟨n, h⟩]
theorem atI_rng (l : List UInt8) : -9223372036854775808 ≤ atI l ∧ atI l ≤ 9223372036854775807 := by
  unfold atI
  cases h : Lib.atoiAll l with
  | ok v => exact Lib.atoiAll_bounds h
  | range => exact Lib.atoiSat_bounds l
  | _ => exact ⟨(by decide : (-9223372036854775808 : Int) ≤ 0), (by decide : (0 : Int) ≤ 9223372036854775807)⟩
/-- what the model reads of at most so many: a number that is written so, or -1 -/
def rdN (m : Nat) (l : List UInt8) : Int := if numL (dv l) = l ∧ dv l < m then dv l else -1
theorem rdN_num {m n : Nat} (h : n < m) (hm : m ≤ 1000) : rdN m (numL n) = n := by
  unfold rdN
  have e : dv (numL n) = n := numL_dv ⟨n, by omega⟩
  rw [e, if_pos ⟨rfl, h⟩]
theorem rdN_rng {m : Nat} (hm : m ≤ 1000) (l : List UInt8) : -1 ≤ rdN m l ∧ rdN m l ≤ 999 := by
  unfold rdN
  split
  · rename_i h; omega
  · omega
theorem rdN_no {m : Nat} {l : List UInt8} (h : ∀ n, n < m → numL n ≠ l) : rdN m l = -1 := by
  unfold rdN
  rw [if_neg]
  rintro ⟨h1, h2⟩
  exact h _ h2 h1
/-- words: what lies between spaces, but for nothing at the end -/
def wd : Nat → List UInt8 → List (List UInt8)
  | 0, _ => []
  | n + 1, s => if s = [] then [] else (Lib.cut s [32]).1 :: wd n (Lib.cut s [32]).2.1
theorem wd_more : ∀ (n : Nat) (s : List UInt8), s.length ≤ n → wd n s = wd s.length s
  | 0, s, h => by
    have : s = [] := List.length_eq_zero_iff.1 (by omega)
    subst this; rfl
  | n + 1, s, h => by
    cases s with
    | nil => rfl
    | cons x r =>
      have hs := cut_shorter 32 (s := x :: r) (by simp)
      rw [List.length_cons] at h hs ⊢
      rw [wd, wd, if_neg (by simp), if_neg (by simp)]
      rw [wd_more n _ (by omega), wd_more r.length _ (by omega)]
def words (s : List UInt8) : List (List UInt8) := wd s.length s
theorem words_nil : words [] = [] := rfl
theorem words_step {s : List UInt8} (h : s ≠ []) : words s = (Lib.cut s [32]).1 :: words (Lib.cut s [32]).2.1 := by
  unfold words
  cases s with
  | nil => exact absurd rfl h
  | cons x r =>
    have hs := cut_shorter 32 (s := x :: r) (by simp)
    rw [List.length_cons] at hs ⊢
    rw [wd, if_neg (by simp), wd_more _ _ (by omega)]
/-- joined with spaces -/
def jn : List (List UInt8) → List UInt8
  | [] => []
  | [a] => a
  | a :: b :: r => a ++ 32 :: jn (b :: r)
theorem jn_cons {a : List UInt8} {L : List (List UInt8)} (h : L ≠ []) : jn (a :: L) = a ++ 32 :: jn L := by
  cases L with
  | nil => exact absurd rfl h
  | cons b r => rfl
theorem jn_snoc {L : List (List UInt8)} (h : L ≠ []) (a : List UInt8) : jn (L ++ [a]) = jn L ++ 32 :: a := by
  induction L with
  | nil => exact absurd rfl h
  | cons x r ih =>
    cases r with
    | nil => rfl
    | cons y q =>
      show jn (x :: (y :: q ++ [a])) = _
      rw [jn_cons (a := x) (L := y :: q ++ [a]) (by simp), ih (by simp), jn_cons (a := x) (L := y :: q) (by simp), List.append_assoc]; rfl
theorem words_jn : ∀ {L : List (List UInt8)}, (∀ a ∈ L, a ≠ [] ∧ (32 : UInt8) ∉ a) → words (jn L) = L
  | [], _ => rfl
  | [a], h => by
    obtain ⟨h1, h2⟩ := h a (by simp)
    show words a = _
    rw [words_step h1, cut_one h2]; rfl
  | a :: b :: r, h => by
    obtain ⟨h1, h2⟩ := h a (by simp)
    have ih := words_jn (L := b :: r) (fun x hx => h x (List.mem_cons_of_mem _ hx))
    rw [jn_cons (by simp), words_step (by simp), cut_line h2, ih]
theorem split_jn : ∀ {L : List (List UInt8)}, L ≠ [] → (∀ a ∈ L, (32 : UInt8) ∉ a) → splitL 32 (jn L) = L
  | [], h, _ => absurd rfl h
  | [a], _, h => splitL_one (h a (by simp))
  | a :: b :: r, _, h => by
    have ih := split_jn (L := b :: r) (by simp) (fun x hx => h x (List.mem_cons_of_mem _ hx))
    rw [jn_cons (by simp), splitL_line (h a (by simp)), ih]
theorem jn_nil {L : List (List UInt8)} (h : ∀ a ∈ L, a ≠ []) : jn L = [] ↔ L = [] := by
  constructor
  · intro e
    cases L with
    | nil => rfl
    | cons a r =>
      have ha := h a (by simp)
      cases r with
      | nil => exact absurd e ha
      | cons b q => rw [jn_cons (by simp)] at e; simp at e
  · rintro rfl; rfl
end

section
instance instDecRwf : DecidableEq Rwf := fun a b => decidable_of_iff (a.fn = b.fn ∧ a.line = b.line ∧ a.times = b.times) ⟨fun h => by cases a; cases b; simp_all, fun h => by subst h; exact ⟨rfl, rfl, rfl⟩⟩
def frmOf (r : Rwf) : Frm := ⟨r.fn, r.line⟩
def unfN (r : Rwf) : Nat := (min r.times 13).toNat
def unfR (r : Rwf) : List Frm := List.replicate (unfN r) (frmOf r)
def unfK (rs : List Rwf) : Nat → List Frm
  | 0 => []
  | k + 1 => unfK rs k ++ unfR (rs.getD k rwf0)
theorem unfK_at {rs : List Rwf} {k : Nat} (hk : k < rs.length) : unfK rs (k + 1) = unfK rs k ++ unfR rs[k] := by
  rw [unfK, List.getD_eq_getElem?_getD, List.getElem?_eq_getElem hk, Option.getD_some]
theorem unfN_le (r : Rwf) : unfN r ≤ 13 := by unfold unfN; omega
theorem unfK_len (rs : List Rwf) : ∀ k, (unfK rs k).length ≤ 13 * k
  | 0 => Nat.le_refl _
  | k + 1 => by
    have := unfK_len rs k
    have h2 := unfN_le (rs.getD k rwf0)
    show (unfK rs k ++ unfR _).length ≤ _
    rw [List.length_append]
    unfold unfR
    rw [List.length_replicate]; omega
theorem frmOf_ok {r : Rwf} (h : Enc.ok r) : Enc.ok (frmOf r) := ⟨h.1, h.2.1, h.2.2.1⟩
theorem unfK_ok (rs : List Rwf) (hok : ∀ r ∈ rs, Enc.ok r) : ∀ k, k ≤ rs.length → ∀ f ∈ unfK rs k, Enc.ok f
  | 0, _, f, h => nomatch h
  | k + 1, hk, f, h => by
    have hk' : k < rs.length := hk
    rw [unfK_at hk'] at h
    rcases List.mem_append.1 h with h | h
    · exact unfK_ok rs hok k (by omega) f h
    · rw [List.eq_of_mem_replicate h]; exact frmOf_ok (hok _ (List.getElem_mem hk'))
def unfL (rs : List Rwf) : List Frm := unfK rs rs.length
def unfOk (rs : List Rwf) : Bool := vTr (unfL rs) && decide (foldL (unfL rs) = rs)
def unfX (rs : List Rwf) : List Frm := cond (unfOk rs) (unfL rs) []
theorem unfX_of {rs : List Rwf} {p : Bool} (h : unfOk rs = p) : unfX rs = cond p (unfL rs) [] := by unfold unfX; rw [h]
theorem unfX_len (rs : List Rwf) : (unfX rs).length ≤ 1048576 := by
  cases h : unfOk rs
  · rw [unfX_of h]; simp
  · have h2 := h
    unfold unfOk at h2; simp at h2
    have := vTr_small h2.1
    rw [unfX_of h]; show (unfL rs).length ≤ _; omega
theorem unfK_mono (rs : List Rwf) (k : Nat) : ∀ j, k ≤ j → (unfK rs k).length ≤ (unfK rs j).length := by
  intro j h
  induction j with
  | zero => cases Nat.le_zero.1 h; exact Nat.le_refl _
  | succ j ih =>
    by_cases e : k = j + 1
    · subst e; exact Nat.le_refl _
    · have := ih (by omega)
      show _ ≤ (unfK rs j ++ unfR _).length
      rw [List.length_append]; omega
/-- a row that comes no times or too often is in no trace's rows -/
theorem unf_bad {rs : List Rwf} {k : Nat} (hk : k < rs.length) (h : rs[k].times < 1 ∨ 12 < ((unfK rs k).length : Int) + rs[k].times) : unfOk rs = false := by
  cases hu : unfOk rs
  · rfl
  · exfalso
    unfold unfOk at hu
    simp at hu
    have h12 := vTr_small hu.1
    rcases h with h | h
    · have := foldK_times (unfL rs) (unfL rs).length rs[k] (by
        have e : foldK (unfL rs) (unfL rs).length = rs := hu.2
        rw [e]; exact List.getElem_mem hk)
      omega
    · have h1 := unfK_mono rs (k + 1) rs.length hk
      have h2 : (unfK rs rs.length).length ≤ 12 := h12
      rw [unfK_at hk, List.length_append] at h1
      unfold unfR unfN at h1
      rw [List.length_replicate] at h1
      omega

theorem row_cases (a b : Rwf) : a = b ∨ a.fn ≠ b.fn ∨ (a.fn = b.fn ∧ a.line ≠ b.line) ∨ (a.fn = b.fn ∧ a.line = b.line ∧ a.times ≠ b.times) := by
  by_cases h1 : a.fn = b.fn
  · by_cases h2 : a.line = b.line
    · by_cases h3 : a.times = b.times
      · left; cases a; cases b; simp_all
      · exact .inr (.inr (.inr ⟨h1, h2, h3⟩))
    · exact .inr (.inr (.inl ⟨h1, h2⟩))
  · exact .inr (.inl h1)
theorem take_grow {α : Type} {xs ys : List α} {k : Nat} (h1 : k < xs.length) (h2 : k < ys.length) (h : xs.take k = ys.take k) (he : xs[k] = ys[k]) : xs.take (k + 1) = ys.take (k + 1) := by
  rw [List.take_succ_eq_append_getElem h1, List.take_succ_eq_append_getElem h2, h, he]

set_option maxHeartbeats 1000000 in
set_option maxRecDepth 100000 in
theorem iEqualRows_any (A B : Option Addr) (n c m d : Nat) (xs ys : List Rwf) (w : World) (hR : Sl w A n c xs) (hS : Sl w B m d ys) :
    Calls Tryd.prog 56 #[.slice A n c, .slice B m d] w fun e w' => e = .returned (.bool (decide (xs = ys))) ∧ Le w w' := by
  obtain rfl := hR.len
  obtain rfl := hS.len
  have hm := hR.n_le
  have hm2 := hS.n_le
  by_cases hl : xs.length = ys.length
  · have hb : ((xs.length : Int) != (ys.length : Int)) = false := by simp [hl]
    go_enter Tryd.func56, Tryd.ntmps56
    go_wp2
    go_loopw [5, 13] (fun _ i wr => ∃ k : Nat, k ≤ ys.length ∧ i = .int .i64 k ∧ xs.take k = ys.take k ∧ Le w wr) (fun _ i _ => ys.length - (intOf i).toNat)
    case atStart => exact ⟨0, Nat.zero_le _, rfl, rfl, Le.refl _⟩
    case round =>
      obtain ⟨k, hk, rfl, htk, hle⟩ := hrel
      have HTK := Lib.hid htk; clear htk
      have T := hR.le hle
      have T2 := hS.le hle
      clear hR hS
      by_cases hlt : k < ys.length
      · have hltx : k < xs.length := by omega
        have hki : (k : Int) < (xs.length : Int) := by omega
        have hk0 : (0 : Int) ≤ (k : Int) := by omega
        obtain ⟨b, off, rfl, hb, hcell0, hcell1, hcell2, -⟩ := T.rwf_at hltx
        obtain ⟨b2, off2, rfl, hb2, hdell0, hdell1, hdell2, -⟩ := T2.rwf_at hlt
        have E0 := cell_ext hb hcell0
        have E1 := cell_ext hb hcell1
        have E2 := cell_ext hb hcell2
        have F0 := cell_ext hb2 hdell0
        have F1 := cell_ext hb2 hdell1
        have F2 := cell_ext hb2 hdell2
        have HNE : Hid (xs[k] ≠ ys[k] → decide (xs = ys) = false) := fun h => decide_eq_false (fun e => h (by subst e; rfl))
        rcases row_cases xs[k] ys[k] with h | h | ⟨h, h2⟩ | ⟨h, h2, h3⟩
        · have HT := Lib.hid (take_grow hltx hlt HTK.out h)
          have e0 := str_eq (congrArg Rwf.fn h)
          have e1 : (xs[k].line == ys[k].line) = true := by simp [h]
          have e2 : (xs[k].times == ys[k].times) = true := by simp [h]
          clear h HNE HTK T T2
          go_wp2_with fail
          refine wp_region_ext (by kernel_rfl) (by kernel_rfl) ?_
          repeat (go_big_quiet_step (fail))
          refine wpQuiet_nil ?_
          intro _ hw'
          obtain ⟨g, rfl⟩ := hw'
          have hw1 := Le.ext wr g
          generalize wr.ext g = W2 at *
          go_wp2
          go_roundw
          case rel => exact ⟨k + 1, by omega, by go_num, HT.out, hle.trans hw1⟩
          case measure => simp [intOf]; omega
        · have HF := Lib.hid (HNE.out (fun e => h (by rw [e])))
          have e0 := str_ne h
          clear h HNE HTK T T2
          go_wp2_with fail
          refine wp_region_ext (by kernel_rfl) (by kernel_rfl) ?_
          repeat (go_big_quiet_step (fail))
          refine wpQuiet_nil ?_
          intro _ hw'
          obtain ⟨g, rfl⟩ := hw'
          have hw1 := Le.ext wr g
          generalize wr.ext g = W2 at *
          go_wp2
          go_ret
          exact ⟨ret_bool HF.out.symm, hle.trans hw1⟩
        · have HF := Lib.hid (HNE.out (fun e => h2 (by rw [e])))
          have e0 := str_eq h
          have e1 : (xs[k].line == ys[k].line) = false := by simpa using h2
          clear h h2 HNE HTK T T2
          go_wp2_with fail
          refine wp_region_ext (by kernel_rfl) (by kernel_rfl) ?_
          repeat (go_big_quiet_step (fail))
          refine wpQuiet_nil ?_
          intro _ hw'
          obtain ⟨g, rfl⟩ := hw'
          have hw1 := Le.ext wr g
          generalize wr.ext g = W2 at *
          go_wp2
          go_ret
          exact ⟨ret_bool HF.out.symm, hle.trans hw1⟩
        · have HF := Lib.hid (HNE.out (fun e => h3 (by rw [e])))
          have e0 := str_eq h
          have e1 : (xs[k].line == ys[k].line) = true := by simpa using h2
          have e2 : (xs[k].times == ys[k].times) = false := by simpa using h3
          clear h h2 h3 HNE HTK T T2
          go_wp2_with fail
          refine wp_region_ext (by kernel_rfl) (by kernel_rfl) ?_
          repeat (go_big_quiet_step (fail))
          refine wpQuiet_nil ?_
          intro _ hw'
          obtain ⟨g, rfl⟩ := hw'
          have hw1 := Le.ext wr g
          generalize wr.ext g = W2 at *
          go_wp2
          go_ret
          exact ⟨ret_bool HF.out.symm, hle.trans hw1⟩
      · have HF := Lib.hid (decide_eq_true (p := xs = ys) (by
          have h := HTK.out
          rw [List.take_of_length_le (by omega), List.take_of_length_le (by omega)] at h; exact h))
        clear HTK
        go_wp2
        go_ret
        exact ⟨ret_bool HF.out.symm, hle⟩
  · have hb : ((xs.length : Int) != (ys.length : Int)) = true := by simp; omega
    have HF := Lib.hid (decide_eq_false (p := xs = ys) (fun h => hl (by rw [h])))
    go_enter Tryd.func56, Tryd.ntmps56
    go_wp2
    go_ret
    exact ⟨ret_bool HF.out.symm, Le.refl _⟩

set_option maxHeartbeats 1000000 in
set_option maxRecDepth 100000 in
theorem sunfold_big (A : Option Addr) (n c : Nat) (rs : List Rwf) (w : World) (hR : Sl w A n c rs) (hn : n ≤ 2097152) :
    Calls Tryd.prog 38 #[.slice A n c] w fun e w' => ∃ v, e = .returned v ∧ Owd 45 w w' v (unfL rs) ∧ Le w w' := by
  obtain ⟨i0, hi, hz0, hz1', hz2⟩ := info_parts infoFrame
  obtain rfl := hR.len
  have HOK := Lib.hid (unfK_ok rs hR.ok rs.length (Nat.le_refl _))
  go_enter Tryd.func38, Tryd.ntmps38
  go_wp2
  go_loopw [3, 4] (fun v i wr => ∃ k : Nat, k ≤ rs.length ∧ i = .int .i64 k ∧ wr.ownsRow w.heap.size 45 2 v (unfK rs k).length ((unfK rs k).flatMap Enc.cells) ∧ Le w wr) (fun _ i _ => rs.length - (intOf i).toNat)
  case atStart => exact ⟨0, Nat.zero_le _, rfl, own_empty (Nat.le_refl _) rfl, Le.new _ _⟩
  case round =>
    obtain ⟨k, hk, rfl, O1, hle⟩ := hrel
    have S1 := hR.le hle
    by_cases hlt : k < rs.length
    · obtain ⟨b, off, rfl, hb, hcell0, hcell1, hcell2, hns, hp1, hp2, hp3, hp4⟩ := S1.rwf_at hlt
      have hll := unfK_len rs k
      have HB := Lib.hid (unfK_at hlt)
      have hmin : (if (13 : Int) < rs[k].times then (13 : Int) else rs[k].times) = min rs[k].times 13 := by split <;> omega
      have hfo : Enc.ok (frmOf rs[k]) := ⟨hns, hp1, hp2⟩
      have HN : Hid (unfN rs[k] = (min rs[k].times 13).toNat) := rfl
      have hbk := O1.lt
      have hsz := hle.size
      generalize wr = WR at *
      go_wp2
      go_loopw [3, 5] (fun v i wr => ∃ (z : Int) (q : Nat), i = .int .i64 z ∧ q ≤ unfN rs[k] ∧ z = min rs[k].times 13 - q ∧ wr.ownsRow w.heap.size 45 2 v (unfK rs k ++ List.replicate q (frmOf rs[k])).length ((unfK rs k ++ List.replicate q (frmOf rs[k])).flatMap Enc.cells) ∧ Le w wr) (fun _ i _ => (intOf i).toNat)
      case atStart => exact ⟨_, 0, rfl, Nat.zero_le _, by omega, by simpa using O1, hle⟩
      case round =>
        obtain ⟨z, q, rfl, hq, hz, O2, hle2⟩ := hrel
        have S2 := hR.le hle2
        clear O1 S1 hcell0 hcell1 hcell2
        obtain ⟨b', off', hbe, hb2, hcell0, hcell1, hcell2, -⟩ := S2.rwf_at hlt
        simp only [Option.some.injEq, Addr.mk.injEq, and_true] at hbe
        obtain ⟨rfl, rfl⟩ := hbe
        have hqn := unfN_le rs[k]
        have hsz2 := hle2.size
        by_cases h0 : 0 < z
        · have hqlt : q < unfN rs[k] := by have := HN.out; omega
          have hz1 : IntKind.i64.wrap (z - 1) = z - 1 := IntWalk.i64_in _ (by omega)
          have hlen : (unfK rs k ++ List.replicate q (frmOf rs[k])).length ≤ 13 * k + 13 := by rw [List.length_append, List.length_replicate]; omega
          have HZ := Lib.hid hz
          have hO2 := O2.lt
          have HE : Hid ((unfK rs k ++ List.replicate q (frmOf rs[k])) ++ [frmOf rs[k]] = unfK rs k ++ List.replicate (q + 1) (frmOf rs[k])) := by
            show _ = _
            rw [List.append_assoc, List.replicate_succ']
          generalize unfK rs k ++ List.replicate q (frmOf rs[k]) = LL at *
          clear hz hmin
          go_wp2_with (at_builtin; refine wpList_append_sl rfl _ _ 23 rfl w.heap.size 45 i0 _ 24 Tryd.underlying23 hi hz0 hz1' hz2 rfl _ _ LL rfl (O2.alloc _) _ 1 1 [frmOf rs[k]] rfl (sl_one (frmOf rs[k]) rfl hfo rfl) (by unfold maxLen; omega) (by omega) (hle2.alloc _).size ?_; intro v1 w3 O3 hg3 _; have L3 := (hle2.alloc _).grown hg3 (fun k hk => (hO2 k hk).1); clear hg3)
          go_roundw
          case rel => exact ⟨z - 1, q + 1, by go_num, by omega, by have := HZ.out; omega, by rw [← HE.out, List.length_append]; exact O3, L3⟩
          case measure => simp [intOf]; omega
        · have e : q = unfN rs[k] := by have := HN.out; omega
          subst e
          rw [show unfK rs k ++ List.replicate (unfN rs[k]) (frmOf rs[k]) = unfK rs (k + 1) from HB.out.symm] at O2
          have HO := Lib.hid O2
          clear O2 hz hmin
          go_wp2
          go_roundw
          case rel => exact ⟨k + 1, by omega, by go_num, HO.out, hle2⟩
          case measure => simp [intOf]; omega
    · obtain rfl : k = rs.length := by omega
      have HO := Lib.hid (⟨O1, HOK.out⟩ : Owd 45 w wr _ (unfL rs))
      clear O1
      go_wp2
      go_ret
      exact ⟨_, rfl, HO.out, hle⟩
theorem sunfold_any (A : Option Addr) (n c : Nat) (rs : List Rwf) (w : World) (hR : Sl w A n c rs) (hn : n ≤ 1048576) :
    Calls Tryd.prog 38 #[.slice A n c] w fun e w' => ∃ v, e = .returned v ∧ Owd 45 w w' v (unfL rs) ∧ Le w w' := sunfold_big A n c rs w hR (by omega)
end

section
section
variable {α : Type} [Enc α] [EncOne α] {P : Program} {w : World}
omit [EncOne α] in
theorem sl_cells_some {ad : Addr} {m c : Nat} {ys : List α} (hS : Sl w (some ad) m c ys) : ∀ j u, (ys.flatMap Enc.cells)[j]? = some u → w.cell? (ad.add j) = some u := by
  intro j u hu
  rcases Nat.eq_zero_or_pos m with h0 | h0
  · have hy : ys = [] := List.eq_nil_of_length_eq_zero (by rw [hS.len, h0])
    subst hy; simp at hu
  · obtain ⟨b, off, h, _, hc⟩ := hS.at_ h0
    injection h with h
    subst h
    rw [Addr.add_lit]; exact hc j u hu
theorem run_append_full (t ty e : TypeId) (i : TypeInfo) (z : Value) (bytes : Nat) (ht : P.underlying t = some (.slice e)) (hi : P.info? e = some i) (hz : i.zero = some z)
    (hsize : i.size = Enc.size α) (hby : i.bytes = bytes) (hzs : z.cells.size = Enc.size α) (ad : Addr) (n : Nat) (xs : List α) (hX : Sl w (some ad) n n xs)
    (A : Option Addr) (m c : Nat) (ys : List α) (hS : Sl w A m c ys) (h63 : n + m ≤ maxLen) (hbytes : (n + m) * bytes ≤ 140737488355328) :
    ∃ v' w', (Builtin.append_ #[t, t] ty #[.slice (some ad) n n, .slice A m c]).run P w = .ok v' w' ∧ Le w w' ∧
      ((m = 0 ∧ v' = .slice (some ad) n n ∧ w' = w) ∨ (w'.ownsRow w.heap.size e (Enc.size α) v' (n + m) ((xs ++ ys).flatMap Enc.cells))) := by
  have hm : (ys.flatMap (Enc.cells (α := α))).length = m * Enc.size α := by rw [flat_len, hS.len]
  have hx : (xs.flatMap (Enc.cells (α := α))).length = n * Enc.size α := by rw [flat_len, hX.len]
  rcases Nat.eq_zero_or_pos m with h0 | h0
  · subst h0
    refine ⟨.slice (some ad) n n, w, ?_, Le.refl w, .inl ⟨rfl, rfl, rfl⟩⟩
    cases A with
    | none => simp [Builtin.append_, run_underlying ht, sizeOf, typeInfo, hi, Builtin.lenOf, Builtin.firstCells, storeCells]
    | some a2 =>
      have hl : (loadCells a2 0).run P w = .ok #[] w := by simpa using run_loadCells_list (P := P) w a2 [] (by simp)
      simp [Builtin.append_, run_underlying ht, sizeOf, typeInfo, hi, Builtin.lenOf, Builtin.firstCells, storeCells, hl]
  · obtain ⟨b, off, rfl, _, _⟩ := hS.at_ h0
    obtain ⟨v', w', hrun, r1, r2⟩ := run_append_arg_grows (P := P) w t ty e i z (Enc.size α) bytes ht hi hz hsize hby hzs EncOne.pos ad n n _ hx (sl_cells_some hX) ⟨b, off, none⟩ m c _ hm (sl_cells_some hS) (by omega) h63 hbytes
    exact ⟨v', w', hrun, (Le.refl w).grown r2 (fun k hk => by cases hk), .inr (by rw [List.flatMap_append]; exact r1)⟩
theorem wpList_append_full {ops : Array Oper} {rest : List Oper} {o : Oper} {a : Act} {Q : Exit → Act → World → Prop} (hgd : o.guard = none) (s x : Operand) (t : TypeId)
    (ho : o.op = .call { callee := .builtin .append, args := #[s, x], argTypes := #[t, t] })
    (e : TypeId) (i : TypeInfo) (z : Value) (bytes : Nat) (ht : P.underlying t = some (.slice e)) (hi : P.info? e = some i) (hz : i.zero = some z)
    (hsize : i.size = Enc.size α) (hby : i.bytes = bytes) (hzs : z.cells.size = Enc.size α) (ad : Addr) (n : Nat) (xs : List α) (hs : a.eval s = .slice (some ad) n n) (hX : Sl w (some ad) n n xs)
    (A : Option Addr) (m c : Nat) (ys : List α) (hx : a.eval x = .slice A m c) (hS : Sl w A m c ys) (h63 : n + m ≤ maxLen) (hbytes : (n + m) * bytes ≤ 140737488355328)
    (h : ∀ v' w', Le w w' → ((m = 0 ∧ v' = .slice (some ad) n n ∧ w' = w) ∨ (w'.ownsRow w.heap.size e (Enc.size α) v' (n + m) ((xs ++ ys).flatMap Enc.cells))) → wpList P ops Q rest (a.put o.dst v') w') : wpList P ops Q (o :: rest) a w := by
  refine wpList_plain hgd fun K hK => ?_
  obtain ⟨v', w', hrun, h2, h3⟩ := run_append_full (P := P) (w := w) t o.type e i z bytes ht hi hz hsize hby hzs ad n xs hX A m c ys hS h63 hbytes
  unfold Oper.wp execOp
  simp only [ho, resolve, invoke, builtin, Sem.run_bind, Sem.run_pure, Result.andThen_ok, List.map_toArray, List.map_cons, List.map_nil, hs, hx, hrun]
  exact hK _ _ (h v' w' h2 h3)
end
end

section
set_option maxRecDepth 100000 in
theorem mul64_one (c : Nat) (w : World) (h1 : 1 ≤ c) (h2 : c ≤ 12) : Calls Tryd.prog 81 #[.int .u64 1, .int .u64 c] w fun e w' => e = .returned (.tuple #[.int .u64 0, .int .u64 c]) ∧ w = w' := by
  obtain rfl | rfl | rfl | rfl | rfl | rfl | rfl | rfl | rfl | rfl | rfl | rfl : c = 1 ∨ c = 2 ∨ c = 3 ∨ c = 4 ∨ c = 5 ∨ c = 6 ∨ c = 7 ∨ c = 8 ∨ c = 9 ∨ c = 10 ∨ c = 11 ∨ c = 12 := by omega
  · go_enter Tryd.func81, Tryd.ntmps81
    go_wp2
    refine bodyPost_ret (v := .tuple #[.int .u64 0, .int .u64 1]) ?_ rfl ⟨rfl, rfl⟩
    simp [results, Tryd.results81, go_sem]
    first | done | decide
  · go_enter Tryd.func81, Tryd.ntmps81
    go_wp2
    refine bodyPost_ret (v := .tuple #[.int .u64 0, .int .u64 2]) ?_ rfl ⟨rfl, rfl⟩
    simp [results, Tryd.results81, go_sem]
    first | done | decide
  · go_enter Tryd.func81, Tryd.ntmps81
    go_wp2
    refine bodyPost_ret (v := .tuple #[.int .u64 0, .int .u64 3]) ?_ rfl ⟨rfl, rfl⟩
    simp [results, Tryd.results81, go_sem]
    first | done | decide
  · go_enter Tryd.func81, Tryd.ntmps81
    go_wp2
    refine bodyPost_ret (v := .tuple #[.int .u64 0, .int .u64 4]) ?_ rfl ⟨rfl, rfl⟩
    simp [results, Tryd.results81, go_sem]
    first | done | decide
  · go_enter Tryd.func81, Tryd.ntmps81
    go_wp2
    refine bodyPost_ret (v := .tuple #[.int .u64 0, .int .u64 5]) ?_ rfl ⟨rfl, rfl⟩
    simp [results, Tryd.results81, go_sem]
    first | done | decide
  · go_enter Tryd.func81, Tryd.ntmps81
    go_wp2
    refine bodyPost_ret (v := .tuple #[.int .u64 0, .int .u64 6]) ?_ rfl ⟨rfl, rfl⟩
    simp [results, Tryd.results81, go_sem]
    first | done | decide
  · go_enter Tryd.func81, Tryd.ntmps81
    go_wp2
    refine bodyPost_ret (v := .tuple #[.int .u64 0, .int .u64 7]) ?_ rfl ⟨rfl, rfl⟩
    simp [results, Tryd.results81, go_sem]
    first | done | decide
  · go_enter Tryd.func81, Tryd.ntmps81
    go_wp2
    refine bodyPost_ret (v := .tuple #[.int .u64 0, .int .u64 8]) ?_ rfl ⟨rfl, rfl⟩
    simp [results, Tryd.results81, go_sem]
    first | done | decide
  · go_enter Tryd.func81, Tryd.ntmps81
    go_wp2
    refine bodyPost_ret (v := .tuple #[.int .u64 0, .int .u64 9]) ?_ rfl ⟨rfl, rfl⟩
    simp [results, Tryd.results81, go_sem]
    first | done | decide
  · go_enter Tryd.func81, Tryd.ntmps81
    go_wp2
    refine bodyPost_ret (v := .tuple #[.int .u64 0, .int .u64 10]) ?_ rfl ⟨rfl, rfl⟩
    simp [results, Tryd.results81, go_sem]
    first | done | decide
  · go_enter Tryd.func81, Tryd.ntmps81
    go_wp2
    refine bodyPost_ret (v := .tuple #[.int .u64 0, .int .u64 11]) ?_ rfl ⟨rfl, rfl⟩
    simp [results, Tryd.results81, go_sem]
    first | done | decide
  · go_enter Tryd.func81, Tryd.ntmps81
    go_wp2
    refine bodyPost_ret (v := .tuple #[.int .u64 0, .int .u64 12]) ?_ rfl ⟨rfl, rfl⟩
    simp [results, Tryd.results81, go_sem]
    first | done | decide
theorem mul_one_c (c : Nat) (w : World) (h1 : 1 ≤ c) (h2 : c ≤ 12) : Calls Tryd.prog 67 #[.int .u64 1, .int .u64 c] w fun e w' => e = .returned (.tuple #[.int .u64 0, .int .u64 c]) ∧ w = w' := by
  go_enter Tryd.func67, Tryd.ntmps67
  go_wp2_with fail
  refine (mul64_one c w h1 h2).mono ?_
  rintro e w' ⟨rfl, rfl⟩
  have hw : IntKind.u64.wrap (c : Int) = (c : Int) := IntWalk.u64_in _ (by omega)
  go_wp2
  exact bodyPost_ret (v := .tuple #[.int .u64 0, .int .u64 c]) (by simp [results, Tryd.results67, go_sem]) rfl ⟨rfl, rfl⟩
abbrev RPT : FuncId := 55
set_option maxHeartbeats 2000000 in
set_option maxRecDepth 100000 in
theorem repeat_any (A : Option Addr) (f : Frm) (c : Nat) (w : World) (hR : Sl w A 1 1 [f]) (h1 : 1 ≤ c) (h2 : c ≤ 12) :
    Calls Tryd.prog 55 #[.slice A 1 1, .int .i64 c] w fun e w' => ∃ v, e = .returned v ∧ Owd 45 w w' v (List.replicate c f) ∧ Le w w' := by
  obtain ⟨i0', hi, hz0, hz1, hz2⟩ := info_parts infoFrame
  have hb2 : i0'.bytes * c ≤ 281474976710656 := by rw [hz2]; omega
  have hneg : decide ((c : Int) < 0) = false := decide_eq_false (by omega)
  go_enter Tryd.func55, Tryd.ntmps55
  obtain ⟨b, off, rfl, hb, hcell0, hcell1, -⟩ := hR.frm_at (k := 0) (by simp)
  simp only [Nat.zero_mul, Nat.add_zero, List.getElem_cons_zero] at hcell0 hcell1
  have hokf : Enc.ok f := hR.ok f (by simp)
  have hw1 : IntKind.i64.wrap (c : Int) = (c : Int) := IntWalk.i64_in _ (by omega)
  have hc0 : decide (9223372036854775807 < (c : Int)) = false := decide_eq_false (by omega)
  go_wp2_with fail
  refine (mul_one_c c w h1 h2).mono ?_
  rintro e w' ⟨rfl, rfl⟩
  have hmin : Nat.min 1 c = 1 := by show min 1 c = 1; omega
  go_wp2_with (first
    | (refine wpList_make_full _ rfl _ _ 23 rfl w.heap.size 45 i0' _ 2 Tryd.underlying23 hi hz0 hz1 .i64 .i64 _ _ c rfl rfl rfl rfl hb2 (by unfold maxLen; omega) (Nat.le_refl _) ?_; intro w1 hown1 hg1; have hl1 := (Le.refl w).grown hg1 (by intro k hk; cases hk); have e0 := (hl1.cell hb).trans hcell0; have e1 := (hl1.cell hb).trans hcell1; clear hg1)
    | (refine wpList_copy_win rfl _ _ 23 23 rfl w.heap.size 45 i0' Tryd.underlying23 hi hz1 w.heap.size c c _ hown1 0 c c rfl ⟨b, off, none⟩ 1 1 1 rfl hmin ([f].flatMap Enc.cells) rfl (sl_cells_some (hR.le hl1)) (EncOne.all [f]) (by omega) ?_; intro w2 hown2 hg2; replace hl1 := hl1.grown hg2 (fun k hk => by injection hk with hk; omega); clear hg2 hown1 e0 e1))
  have H0 : Hid (∃ r : List Value, r.length = (c - 1) * 2 ∧ w2.ownsRow w.heap.size 45 2 (.slice (some ⟨w.heap.size, 0, none⟩) c c) c ((List.replicate 1 f).flatMap Enc.cells ++ r)) := by
    refine ⟨_, ?_, hown2⟩
    have := hown2.1
    simp [Enc.cells] at this ⊢
    omega
  clear hown2 hR hcell0 hcell1 hb hmin
  go_loopw [8] (fun i wr => ∃ (n : Nat) (r : List Value), i = .int .i64 n ∧ 1 ≤ n ∧ n ≤ c ∧ r.length = (c - n) * 2 ∧ wr.ownsRow w.heap.size 45 2 (.slice (some ⟨w.heap.size, 0, none⟩) c c) c ((List.replicate n f).flatMap Enc.cells ++ r) ∧ Le w wr) (fun i _ => c - (intOf i).toNat)
  case atStart =>
    obtain ⟨r, hr, h⟩ := H0.out
    exact ⟨1, r, rfl, by omega, h1, hr, h, hl1⟩
  case round =>
    clear H0 hl1
    obtain ⟨n, r, rfl, hn1, hnc, hr, O, hle⟩ := hrel
    by_cases hlt : n < c
    · obtain ⟨q, hq⟩ : ∃ q, Nat.min n (c - n) = q := ⟨_, rfl⟩
      have hq2 : q ≤ n ∧ q ≤ c - n ∧ 1 ≤ q := by rw [← hq]; show min n (c - n) ≤ n ∧ min n (c - n) ≤ c - n ∧ 1 ≤ min n (c - n); omega
      have hne : ¬ c = n := by omega
      have i0 : (0 : Int) ≤ (n : Int) := by omega
      have i1 : (n : Int) ≤ (c : Int) := by omega
      have hwq : IntKind.i64.wrap ((n : Int) + (q : Int)) = (n : Int) + (q : Int) := IntWalk.i64_in _ (by omega)
      have hsrc : ∀ j u, ((List.replicate q f).flatMap Enc.cells)[j]? = some u → wr.drew.cell? ((⟨w.heap.size, 0, none⟩ : Addr).add j) = some u := by
        intro j u hu
        have hj : j < ((List.replicate q f).flatMap (Enc.cells (α := Frm))).length := (List.getElem?_eq_some_iff.1 hu).1
        have e : List.replicate n f = List.replicate q f ++ List.replicate (n - q) f := by rw [List.replicate_append_replicate]; congr 1; omega
        rw [Addr.add_lit, Nat.zero_add]
        show wr.cell? _ = _
        have hjl : ((List.replicate q f).flatMap (Enc.cells (α := Frm))).length = q * 2 := by rw [flat_len, List.length_replicate]; rfl
        rw [O.cellAt _ (by omega), e, List.flatMap_append, List.append_assoc, List.getElem?_append_left hj]
        exact hu
      have HSRC := Lib.hid hsrc; clear hsrc
      have hcs : Hid (((List.replicate q f).flatMap (Enc.cells (α := Frm))).length = q * 2) := by show _ = _; rw [flat_len, List.length_replicate]; rfl
      have hone := Lib.hid (EncOne.all (List.replicate q f))
      generalize hCS : (List.replicate q f).flatMap (Enc.cells (α := Frm)) = CS at *
      have HCS := Lib.hid hCS; clear hCS
      go_wp2
      go_region_law (refine step_copy_win rfl (.tmp 41) (.tmp 44) 23 23 rfl w.heap.size 45 i0' Tryd.underlying23 hi hz1 w.heap.size c c _ O.drew (n * 2) (c - n) (c - n) (by go_simp) ⟨w.heap.size, 0, none⟩ n c q (by go_simp) hq CS hcs.out HSRC.out hone.out (by omega) ?_; intro w3 O3 hg3)
      have L3 := (hle.drew).grown hg3 (fun k hk => by injection hk with hk; omega)
      have hfl : ((List.replicate n f).flatMap (Enc.cells (α := Frm))).length = n * 2 := by rw [flat_len, List.length_replicate]; rfl
      have hd : ((List.replicate n f).flatMap (Enc.cells (α := Frm)) ++ r).drop (n * 2 + q * 2) = r.drop (q * 2) := by
        rw [List.drop_append, hfl, List.drop_eq_nil_of_le (by omega), List.nil_append]; congr 1; omega
      rw [List.take_left' hfl, hd, ← HCS.out, ← List.flatMap_append, List.replicate_append_replicate] at O3
      have HO3 := Lib.hid O3
      have hrl : (r.drop (q * 2)).length = (c - (n + q)) * 2 := by rw [List.length_drop, hr]; omega
      have HRL := Lib.hid hrl
      clear O3 O hg3 hrl hfl HSRC hcs hone HCS hq hd
      go_simp
      go_wp2
      refine ⟨⟨n + q, r.drop (q * 2), by congr 1, by omega, by omega, HRL.out, HO3.out, L3⟩, ?_⟩
      simp [intOf]
      try omega
    · obtain rfl : n = c := by omega
      have hr0 : r = [] := List.eq_nil_of_length_eq_zero (by rw [hr]; simp)
      subst hr0
      rw [List.append_nil] at O
      have HO := Lib.hid (⟨by rw [List.length_replicate]; exact O, fun x hx => by rw [List.eq_of_mem_replicate hx]; exact hokf⟩ : Owd 45 w wr (.slice (some ⟨w.heap.size, 0, none⟩) n n) (List.replicate n f))
      clear O
      go_wp2
      go_ret
      exact ⟨_, rfl, HO.out, hle⟩
end

section
theorem wpList_appendG {α : Type} [Enc α] [EncOne α] {P : Program} {w : World} {ops : Array Oper} {rest : List Oper} {o : Oper} {a : Act} {Q : Exit → Act → World → Prop} (hw : Region.wanted o (yielded ops a.tmps) = true) (s x : Operand) (t : TypeId)
    (ho : o.op = .call { callee := .builtin .append, args := #[s, x], argTypes := #[t, t] })
    (base : Nat) (e : TypeId) (i : TypeInfo) (z : Value) (bytes : Nat) (ht : P.underlying t = some (.slice e)) (hi : P.info? e = some i) (hz : i.zero = some z)
    (hsize : i.size = Enc.size α) (hby : i.bytes = bytes) (hzs : z.cells.size = Enc.size α) (v : Value) (n : Nat) (xs : List α) (hs : a.eval s = v) (hown : w.ownsRow base e (Enc.size α) v n (xs.flatMap Enc.cells))
    (A : Option Addr) (m c : Nat) (ys : List α) (hx : a.eval x = .slice A m c) (hS : Sl w A m c ys) (h63 : n + m ≤ maxLen) (hbytes : (n + m) * bytes ≤ 140737488355328) (hbase : base ≤ w.heap.size)
    (h : ∀ v' w', w'.ownsRow base e (Enc.size α) v' (n + m) ((xs ++ ys).flatMap Enc.cells) → w.grownBy w' v.ownBlock → (v'.ownBlock = v.ownBlock ∨ v'.ownBlock = some w.heap.size) → wpList P ops Q rest (a.put o.dst v') w') : wpList P ops Q (o :: rest) a w :=
  wpList_step fun _ hK => by rw [if_pos hw]; exact wp_append_sl s x t ho base e i z bytes ht hi hz hsize hby hzs v n xs hs hown A m c ys hx hS h63 hbytes hbase fun v' w' h2 h3 h4 => hK _ _ (h v' w' h2 h3 h4)
end

section
theorem unfOk_v {rs : List Rwf} (h : vTr (unfL rs) = false) : unfOk rs = false := by unfold unfOk; rw [h]; rfl
theorem unfOk_ne {rs : List Rwf} (h : foldL (unfL rs) ≠ rs) : unfOk rs = false := by unfold unfOk; rw [decide_eq_false h, Bool.and_false]
theorem unfOk_eq {rs : List Rwf} (hv : vTr (unfL rs) = true) (h : foldL (unfL rs) = rs) : unfOk rs = true := by unfold unfOk; rw [decide_eq_true h, hv]; rfl
set_option maxHeartbeats 1000000 in
set_option maxRecDepth 100000 in
theorem iUnfoldTrace_any (A : Option Addr) (n c : Nat) (rs : List Rwf) (w : World) (hR : Sl w A n c rs) (hn : n ≤ 1048576) :
    Calls Tryd.prog 32 #[.slice A n c] w fun e w' => ∃ v, e = .returned (.tuple #[v, .bool (unfOk rs)]) ∧ Owd 45 w w' v (unfX rs) ∧ Le w w' := by
  obtain rfl := hR.len
  obtain ⟨i0, hi, hz0, hz1, hz2⟩ := info_parts infoFrame
  go_enter Tryd.func32, Tryd.ntmps32
  have HOK := Lib.hid (fun k (hk : k ≤ rs.length) => unfK_ok rs hR.ok k hk)
  go_wp2
  go_loopw [4, 9] (fun v i wr => ∃ k : Nat, k ≤ rs.length ∧ i = .int .i64 k ∧ (unfK rs k).length ≤ 12 ∧ wr.ownsRow w.heap.size 45 2 v (unfK rs k).length ((unfK rs k).flatMap Enc.cells) ∧ Le w wr) (fun _ i _ => rs.length - (intOf i).toNat)
  case atStart => exact ⟨0, Nat.zero_le _, rfl, Nat.zero_le _, World.ownsRow_nil _ _ _ _, Le.refl _⟩
  case round =>
    obtain ⟨k, hk, rfl, h12, O1, hle⟩ := hrel
    have S1 := hR.le hle
    clear hR
    by_cases hlt : k < rs.length
    · obtain ⟨b, off, rfl, hb, hcell0, hcell1, hcell2, hns, hp1, hp2, hp3, hp4⟩ := S1.rwf_at hlt
      have hfo : Enc.ok (frmOf rs[k]) := ⟨hns, hp1, hp2⟩
      have HBAD := Lib.hid (unf_bad hlt)
      have HB := Lib.hid (unfK_at hlt)
      have hN : unfN rs[k] = (min rs[k].times 13).toNat := rfl
      have HR := Lib.hid (show unfR rs[k] = List.replicate (unfN rs[k]) (frmOf rs[k]) from rfl)
      have hsz := hle.size
      generalize unfK rs k = LL at *
      obtain ⟨A1, c1, rfl⟩ := own_form O1
      have hwl : IntKind.i64.wrap (12 - (LL.length : Int)) = 12 - (LL.length : Int) := IntWalk.i64_in _ (by omega)
      by_cases hg : 1 ≤ rs[k].times ∧ rs[k].times ≤ 12 - (LL.length : Int)
      · have hrg : (decide ((1 : Int) ≤ rs[k].times) && decide (rs[k].times ≤ 12 - (LL.length : Int))) = true := by rw [decide_eq_true hg.1, decide_eq_true hg.2]; rfl
        obtain ⟨t, ht⟩ : ∃ t : Nat, rs[k].times = t := ⟨rs[k].times.toNat, by omega⟩
        have hNt : unfN rs[k] = t := by omega
        rw [hNt] at HR
        have ht1 : 1 ≤ t := by omega
        have ht2 : t ≤ 12 - LL.length := by omega
        rw [ht] at hrg
        have hO1 := O1.lt
        clear hNt hN HBAD hg
        go_wp2_with (first
          | (go_at_call 29; refine (iinRange_any _ _ _ _).mono ?_; rintro e w' ⟨rfl, rfl⟩; rw [hrg])
          | (go_at_call 55; refine (repeat_any _ (frmOf rs[k]) t _ (sl_one (frmOf rs[k]) rfl hfo (by simp)) ht1 (by omega)).mono ?_; rintro e w5 ⟨v5, rfl, D5, hle5⟩; have L5 : Le wr w5 := ((Le.new wr _).alloc _).trans hle5; obtain ⟨A5, c5, rfl, S5, _⟩ := D5.form (by decide); rw [List.length_replicate] at S5 ⊢; replace O1 := own_le O1 L5; replace hle := hle.trans L5; have hs5 := hle.size; clear D5 hle5)
          | (at_builtin; refine wpList_append_sl rfl _ _ 23 rfl w.heap.size 45 i0 _ 24 Tryd.underlying23 hi hz0 hz1 hz2 rfl _ _ LL rfl O1 A5 t c5 (List.replicate t (frmOf rs[k])) rfl S5 (by unfold maxLen; omega) (by omega) hs5 ?_; intro v6 w6 O6 hg6 _; have L6 := hle.grown hg6 (fun k hk => (hO1 k hk).1); clear hg6))
        go_roundw
        case rel => exact ⟨k + 1, by omega, by go_num, by rw [HB.out, HR.out, List.length_append, List.length_replicate]; omega, by rw [HB.out, HR.out, List.length_append, List.length_replicate]; exact O6, L6⟩
        case measure => simp [intOf]; omega
      · have hrg : (decide ((1 : Int) ≤ rs[k].times) && decide (rs[k].times ≤ 12 - (LL.length : Int))) = false := by
          by_cases h1 : 1 ≤ rs[k].times
          · rw [decide_eq_false (p := rs[k].times ≤ _) (by omega), Bool.and_false]
          · rw [decide_eq_false h1, Bool.false_and]
        have HF := Lib.hid (HBAD.out (by omega))
        have HX := Lib.hid (unfX_of HF.out)
        clear hg
        go_wp2_with (go_at_call 29; refine (iinRange_any _ _ _ _).mono ?_; rintro e w' ⟨rfl, rfl⟩; rw [hrg])
        exact bodyPost_ret (v := .tuple #[.slice none 0 0, .bool false]) (by simp [results, Tryd.results32, go_sem]) rfl ⟨_, by rw [HF.out], by rw [HX.out]; exact Owd.nil _ _ _, hle.alloc _⟩
    · obtain rfl : k = rs.length := by omega
      have HO := Lib.hid (⟨O1, HOK.out _ (Nat.le_refl _)⟩ : Owd 45 w wr _ (unfL rs))
      obtain ⟨A1, c1, rfl⟩ := own_form O1
      have SL : Sl wr A1 (unfK rs rs.length).length c1 (unfL rs) := Sl.of_own O1 rfl (by decide) (HOK.out _ (Nat.le_refl _))
      clear O1
      go_wp2_with fail
      refine (iValidTrace_any _ _ _ (unfL rs) _ SL).mono ?_
      rintro e w2 ⟨rfl, hle2⟩
      have HO2 := Lib.hid (HO.out.le hle2)
      have SL2 := SL.le hle2
      have S2 := S1.le hle2
      replace hle := hle.trans hle2
      clear HO hle2 SL S1
      cases h1 : vTr (unfL rs)
      · have HF := Lib.hid (unfOk_v h1)
        have HX := Lib.hid (unfX_of HF.out)
        go_wp2
        exact bodyPost_ret (v := .tuple #[.slice none 0 0, .bool false]) (by simp [results, Tryd.results32, go_sem]) rfl ⟨_, by rw [HF.out], by rw [HX.out]; exact Owd.nil _ _ _, hle⟩
      · go_wp2_with fail
        refine (ifold_any _ _ _ (unfL rs) _ SL2 (by omega)).mono ?_
        rintro e w3 ⟨v3, rfl, D3, hle3⟩
        obtain ⟨A3, c3, rfl, S3, _⟩ := D3.form (by decide)
        have HO3 := Lib.hid (HO2.out.le hle3)
        replace S2 := S2.le hle3
        replace hle := hle.trans hle3
        clear D3 hle3 HO2 SL2
        go_wp2_with fail
        refine (iEqualRows_any _ _ _ _ _ _ (foldL (unfL rs)) rs _ S3 S2).mono ?_
        rintro e w4 ⟨rfl, hle4⟩
        have HO4 := Lib.hid (HO3.out.le hle4)
        replace hle := hle.trans hle4
        clear hle4 HO3 S3 S2
        have hU : unfOk rs = decide (foldL (unfL rs) = rs) := by unfold unfOk; rw [h1, Bool.true_and]
        cases h2 : decide (foldL (unfL rs) = rs)
        · rw [h2] at hU
          have HF := Lib.hid hU
          have HX := Lib.hid (unfX_of hU)
          go_wp2
          exact bodyPost_ret (v := .tuple #[.slice none 0 0, .bool false]) (by simp [results, Tryd.results32, go_sem]) rfl ⟨_, by rw [HF.out], by rw [HX.out]; exact Owd.nil _ _ _, hle⟩
        · rw [h2] at hU
          have HF := Lib.hid hU
          have HX := Lib.hid (unfX_of hU)
          go_wp2
          exact bodyPost_ret (v := .tuple #[.slice A1 (unfK rs rs.length).length c1, .bool true]) (by simp [results, Tryd.results32, go_sem]) rfl ⟨_, by rw [HF.out], by rw [HX.out]; exact HO4.out, hle⟩
end
end Go.Proofs.YtnjckloodkdbpaaDoor
