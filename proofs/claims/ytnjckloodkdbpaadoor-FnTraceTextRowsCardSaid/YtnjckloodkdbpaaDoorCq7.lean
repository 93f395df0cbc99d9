/- one text of TkP, TkM, TkT, TkA, RZp -/
import Derived.Test.YtnjckloodkdbpaaDoorCq6
import Derived.Test.YtnjckloodkdbpaaDoorCq2
import Derived.Test.YtnjckloodkdbpaaDoorCq1
import Derived.Deep.RegionHeld3
namespace Go.Proofs.YtnjckloodkdbpaaDoor
open Go.RowKit
set_option linter.unusedVariables false
section
/-- the text of a row, of rows, of a trace -/
def rowB (r : Rwf) : List UInt8 := bl r.fn ++ 58 :: numL r.line.toNat ++ (if r.times = 1 then [] else 42 :: numL r.times.toNat)
def trB (rs : List Rwf) : List UInt8 := jn (rs.map rowB)
def okRw (r : Rwf) : Prop := okName r.fn = true ∧ 1 ≤ r.line ∧ r.line ≤ 999 ∧ 1 ≤ r.times ∧ r.times ≤ 12
/-- the row of a word: the program's, the model's -/
def pRowI (l : List UInt8) : Rwf :=
  ⟨tb (Lib.cut l [58]).1, atI (Lib.cut (Lib.cut l [58]).2.1 [42]).1, if (Lib.cut (Lib.cut l [58]).2.1 [42]).2.2 then atI (Lib.cut (Lib.cut l [58]).2.1 [42]).2.1 else 1⟩
def pRowS (l : List UInt8) : Rwf :=
  match splitL 42 l with
  | [p] => (match splitL 58 p with | [a, b] => ⟨tb a, rdN 1000 b, 1⟩ | _ => rwf0)
  | [p, q] => (match splitL 58 p with | [a, b] => ⟨tb a, rdN 1000 b, rdN 1000 q⟩ | _ => rwf0)
  | _ => rwf0
theorem rowB_facts {r : Rwf} (h : okRw r) : rowB r ≠ [] ∧ (32 : UInt8) ∉ rowB r := by
  obtain ⟨h1, h2, h3, h4, h5⟩ := h
  unfold rowB
  refine ⟨by simp, fun hm => ?_⟩
  rw [List.append_assoc] at hm
  rcases List.mem_append.1 hm with hm | hm
  · exact not_mem_name h1 (by decide) hm
  · rcases List.mem_cons.1 hm with hm | hm
    · exact absurd hm (by decide)
    · rcases List.mem_append.1 hm with hm | hm
      · exact numL_not (by omega) (by decide) hm
      · split at hm
        · simp at hm
        · rcases List.mem_cons.1 hm with hm | hm
          · exact absurd hm (by decide)
          · exact numL_not (by omega) (by decide) hm
theorem pRowI_row {r : Rwf} (h : okRw r) : pRowI (rowB r) = r := by
  obtain ⟨h1, h2, h3, h4, h5⟩ := h
  obtain ⟨fn, line, times⟩ := r
  dsimp only at h1 h2 h3 h4 h5
  have c1 : Lib.cut (rowB ⟨fn, line, times⟩) [58] = (bl fn, numL line.toNat ++ (if times = 1 then [] else 42 :: numL times.toNat), true) := by
    unfold rowB
    rw [List.append_assoc, List.cons_append]
    exact cut_line (not_mem_name h1 (by decide)) _
  unfold pRowI
  rw [c1]
  by_cases ht : times = 1
  · rw [if_pos ht, List.append_nil, cut_one (numL_not (by omega) (by decide)), ht]
    dsimp only
    rw [atI_num (by omega), tb_bl]
    simp only [Rwf.mk.injEq, true_and]
    exact ⟨by omega, rfl⟩
  · rw [if_neg ht, cut_line (numL_not (by omega) (by decide))]
    dsimp only
    rw [atI_num (by omega), atI_num (by omega), tb_bl]
    simp only [Rwf.mk.injEq, true_and, if_true]
    exact ⟨by omega, by omega⟩
theorem pRowS_row {r : Rwf} (h : okRw r) : pRowS (rowB r) = r := by
  obtain ⟨h1, h2, h3, h4, h5⟩ := h
  obtain ⟨fn, line, times⟩ := r
  dsimp only at h1 h2 h3 h4 h5
  have n1 : (42 : UInt8) ∉ bl fn ++ 58 :: numL line.toNat := fun hm => by
    rcases List.mem_append.1 hm with hm | hm
    · exact not_mem_name h1 (by decide) hm
    · rcases List.mem_cons.1 hm with hm | hm
      · exact absurd hm (by decide)
      · exact numL_not (by omega) (by decide) hm
  have s1 : splitL 58 (bl fn ++ 58 :: numL line.toNat) = [bl fn, numL line.toNat] := by
    rw [splitL_line (not_mem_name h1 (by decide)), splitL_one (numL_not (by omega) (by decide))]
  unfold pRowS rowB
  by_cases ht : times = 1
  · dsimp only
    rw [if_pos ht, List.append_nil, splitL_one n1]
    dsimp only
    rw [s1]
    dsimp only
    rw [rdN_num (by omega) (by omega), tb_bl, ht]
    simp only [Rwf.mk.injEq, true_and, and_true]
    omega
  · dsimp only
    rw [if_neg ht, splitL_line n1, splitL_one (numL_not (by omega) (by decide))]
    dsimp only
    rw [s1]
    dsimp only
    rw [rdN_num (by omega) (by omega), rdN_num (by omega) (by omega), tb_bl]
    simp only [Rwf.mk.injEq, true_and]
    exact ⟨by omega, by omega⟩
theorem frm_eq {a b : Frm} (h1 : a.fn = b.fn) (h2 : a.line = b.line) : a = b := by cases a; cases b; simp_all
theorem unfK_flat (rs : List Rwf) : ∀ k, k ≤ rs.length → unfK rs k = (rs.take k).flatMap unfR
  | 0, _ => rfl
  | k + 1, hk => by
    have hk' : k < rs.length := hk
    rw [unfK_at hk', unfK_flat rs k (by omega), List.take_succ_eq_append_getElem hk', List.flatMap_append]; simp
theorem unfL_flat (rs : List Rwf) : unfL rs = rs.flatMap unfR := by
  have h := unfK_flat rs rs.length (Nat.le_refl _)
  rw [List.take_length] at h; exact h
theorem last_split {rs : List Rwf} (h : 0 < rs.length) (x : Rwf) : rs = rs.take (rs.length - 1) ++ [lastR rs] ∧ rs.set (rs.length - 1) x = rs.take (rs.length - 1) ++ [x] := by
  have hk : rs.length - 1 < rs.length := by omega
  constructor
  · have e := List.take_succ_eq_append_getElem hk
    rw [Nat.sub_add_cancel h, List.take_length, ← lastR_at hk] at e
    exact e
  · rw [List.set_eq_take_append_cons_drop, if_pos hk, Nat.sub_add_cancel h, List.drop_length]
theorem unf_push {rs : List Rwf} {f : Frm} (ht : ∀ r ∈ rs, 1 ≤ r.times ∧ r.times ≤ 12) : unfL (pushR rs f) = unfL rs ++ [f] := by
  rw [unfL_flat, unfL_flat]
  by_cases hs : sameR rs f
  · have h0 := hs.1
    obtain ⟨e1, e2⟩ := last_split h0 (bump (lastR rs))
    have hl := ht _ (lastR_mem h0)
    rw [push_yes hs, e2]
    conv => rhs; rw [e1]
    rw [List.flatMap_append, List.flatMap_append, List.append_assoc]
    congr 1
    have hf : f = frmOf (lastR rs) := frm_eq hs.2.1.symm hs.2.2.symm
    have hn : unfN (bump (lastR rs)) = unfN (lastR rs) + 1 := by
      unfold unfN
      show (min ((lastR rs).times + 1) 13).toNat = _
      omega
    simp only [List.flatMap_cons, List.flatMap_nil, List.append_nil]
    unfold unfR
    rw [hn, show frmOf (bump (lastR rs)) = frmOf (lastR rs) from rfl, List.replicate_succ', ← hf]
  · rw [push_no hs, List.flatMap_append]
    congr 1
theorem unf_foldK (xs : List Frm) (h12 : xs.length ≤ 12) : ∀ k, k ≤ xs.length → unfL (foldK xs k) = xs.take k
  | 0, _ => rfl
  | k + 1, hk => by
    have hk' : k < xs.length := hk
    rw [foldK_at hk', unf_push (fun r hr => by have := foldK_times xs k r hr; omega), unf_foldK xs h12 k (by omega), List.take_succ_eq_append_getElem hk']
theorem unf_foldL {xs : List Frm} (h12 : xs.length ≤ 12) : unfL (foldL xs) = xs := by
  have h := unf_foldK xs h12 xs.length (Nat.le_refl _)
  rw [List.take_length] at h; exact h
theorem foldK_okRw {xs : List Frm} (h : vTr xs = true) : ∀ k, k ≤ xs.length → ∀ r ∈ foldK xs k, okName r.fn = true ∧ 1 ≤ r.line ∧ r.line ≤ 999
  | 0, _, r, hr => by simp [foldK] at hr
  | k + 1, hk, r, hr => by
    have hk' : k < xs.length := hk
    have ih := foldK_okRw h k (by omega)
    rw [foldK_at hk'] at hr
    have hx := vTr_all h xs[k] (List.getElem_mem hk')
    unfold vFr inL at hx
    simp only [Bool.and_eq_true, decide_eq_true_eq] at hx
    rcases push_mem hr with hr | ⟨hs, rfl⟩ | rfl
    · exact ih r hr
    · have h9 := ih _ (lastR_mem hs.1)
      exact h9
    · exact hx
theorem foldL_okRw {xs : List Frm} (h : vTr xs = true) : ∀ r ∈ foldL xs, okRw r := fun r hr => by
  have h1 := foldK_okRw h xs.length (Nat.le_refl _) r hr
  have h2 := foldK_times xs xs.length r hr
  have h3 := vTr_small h
  exact ⟨h1.1, h1.2.1, h1.2.2, h2.1, by omega⟩
theorem map_id_of {α : Type} {f : α → α} : ∀ {L : List α}, (∀ x ∈ L, f x = x) → L.map f = L
  | [], _ => rfl
  | x :: r, h => by rw [List.map_cons, h x (by simp), map_id_of (fun y hy => h y (List.mem_cons_of_mem _ hy))]
/-- what a valid trace's text is read as -/
theorem words_tr {xs : List Frm} (h : vTr xs = true) : (words (trB (foldL xs))).map pRowI = foldL xs ∧ (words (trB (foldL xs))).length ≤ 12 := by
  have ho := foldL_okRw h
  unfold trB
  rw [words_jn (fun a ha => by obtain ⟨r, hr, rfl⟩ := List.mem_map.1 ha; exact rowB_facts (ho r hr)), List.map_map, List.length_map]
  refine ⟨map_id_of (fun r hr => pRowI_row (ho r hr)), ?_⟩
  have := (foldK_len xs xs.length).1
  have := vTr_small h
  show (foldK xs xs.length).length ≤ 12
  omega
theorem split_tr {xs : List Frm} (h : vTr xs = true) : trB (foldL xs) ≠ [] → (splitL 32 (trB (foldL xs))).map pRowS = foldL xs := by
  intro hne
  have ho := foldL_okRw h
  unfold trB at hne ⊢
  have hn : (foldL xs).map rowB ≠ [] := fun e => by rw [e] at hne; exact hne rfl
  rw [split_jn hn (fun a ha => by obtain ⟨r, hr, rfl⟩ := List.mem_map.1 ha; exact (rowB_facts (ho r hr)).2), List.map_map]
  exact map_id_of (fun r hr => pRowS_row (ho r hr))
theorem tr_nil {xs : List Frm} (h : vTr xs = true) : trB (foldL xs) = [] ↔ foldL xs = [] := by
  have ho := foldL_okRw h
  unfold trB
  rw [jn_nil (fun a ha => by obtain ⟨r, hr, rfl⟩ := List.mem_map.1 ha; exact (rowB_facts (ho r hr)).1), List.map_eq_nil_iff]
/-- the rows that each reads -/
def rowsI (s : List UInt8) : List Rwf := (words s).map pRowI
def rowsS (s : List UInt8) : List Rwf := if s = [] then [] else (splitL 32 s).map pRowS
theorem rowsS_tr {xs : List Frm} (h : vTr xs = true) : rowsS (trB (foldL xs)) = foldL xs := by
  unfold rowsS
  split
  · rename_i e; exact ((tr_nil h).1 e).symm
  · rename_i e; exact split_tr h e
/-- the trace of a text -/
noncomputable def tkX (s : List UInt8) : List Frm := open Classical in if h : ∃ xs, vTr xs = true ∧ trB (foldL xs) = s then h.choose else []
noncomputable def tkO (s : List UInt8) : Bool := open Classical in if ∃ xs, vTr xs = true ∧ trB (foldL xs) = s then true else false
theorem tr_inj {xs ys : List Frm} (h : vTr xs = true) (k : vTr ys = true) (e : trB (foldL xs) = trB (foldL ys)) : xs = ys := by
  have h1 := rowsS_tr h
  have h2 := rowsS_tr k
  rw [e, h2] at h1
  rw [← unf_foldL (vTr_small h), ← unf_foldL (vTr_small k), h1]
theorem tk_some {xs : List Frm} {s : List UInt8} (h : vTr xs = true) (e : trB (foldL xs) = s) : tkO s = true ∧ tkX s = xs := by
  have hex : ∃ xs, vTr xs = true ∧ trB (foldL xs) = s := ⟨xs, h, e⟩
  refine ⟨by unfold tkO; rw [if_pos hex], ?_⟩
  unfold tkX
  rw [dif_pos hex]
  exact tr_inj hex.choose_spec.1 h (hex.choose_spec.2.trans e.symm)
theorem tk_none {s : List UInt8} (h : ∀ xs, vTr xs = true → trB (foldL xs) ≠ s) : tkO s = false ∧ tkX s = [] := by
  have hex : ¬ ∃ xs, vTr xs = true ∧ trB (foldL xs) = s := fun ⟨xs, h1, h2⟩ => h xs h1 h2
  exact ⟨by unfold tkO; rw [if_neg hex], by unfold tkX; rw [dif_neg hex]⟩
/-- the program: too many words, rows that are no trace's, another text -/
theorem tk_many {s : List UInt8} (h : 12 < (words s).length) : tkO s = false ∧ tkX s = [] := tk_none fun xs h1 e => by
  have := (words_tr h1).2
  rw [e] at this; omega
theorem tk_unf {s : List UInt8} (h : unfOk (rowsI s) = false) : tkO s = false ∧ tkX s = [] := tk_none fun xs h1 e => by
  have h2 := (words_tr h1).1
  rw [e] at h2
  have h3 : rowsI s = foldL xs := h2
  rw [h3, unfOk_eq (by rw [unf_foldL (vTr_small h1)]; exact h1) (by rw [unf_foldL (vTr_small h1)])] at h
  cases h
theorem unfOk_facts {rs : List Rwf} (h : unfOk rs = true) : vTr (unfX rs) = true ∧ foldL (unfX rs) = rs := by
  rw [unfX_of h]
  unfold unfOk at h
  simp only [Bool.and_eq_true, decide_eq_true_eq] at h
  exact h
theorem tk_text {s : List UInt8} (h : unfOk (rowsI s) = true) (e : trB (foldL (unfX (rowsI s))) ≠ s) : tkO s = false ∧ tkX s = [] := tk_none fun xs h1 e2 => by
  have h2 := (words_tr h1).1
  rw [e2] at h2
  have h3 : rowsI s = foldL xs := h2
  have h4 := (unfOk_facts h).2
  rw [h3] at h4
  rw [h3, h4] at e
  exact e e2
theorem tk_good {s : List UInt8} (h : unfOk (rowsI s) = true) (e : trB (foldL (unfX (rowsI s))) = s) : tkO s = true ∧ tkX s = unfX (rowsI s) := tk_some (unfOk_facts h).1 e
/-- the model: no trace, another text -/
theorem tks_v {s : List UInt8} (h : vTr (unfL (rowsS s)) = false) : tkO s = false ∧ tkX s = [] := tk_none fun xs h1 e => by
  have h2 := rowsS_tr h1
  rw [e] at h2
  rw [h2, unf_foldL (vTr_small h1), h1] at h
  cases h
theorem tks_text {s : List UInt8} (e : trB (foldL (unfL (rowsS s))) ≠ s) : tkO s = false ∧ tkX s = [] := tk_none fun xs h1 e2 => by
  have h2 := rowsS_tr h1
  rw [e2] at h2
  rw [h2, unf_foldL (vTr_small h1)] at e
  exact e e2
theorem tks_good {s : List UInt8} (h : vTr (unfL (rowsS s)) = true) (e : trB (foldL (unfL (rowsS s))) = s) : tkO s = true ∧ tkX s = unfL (rowsS s) := tk_some h e
theorem tk_len (s : List UInt8) : (tkX s).length ≤ 12 := by
  by_cases hex : ∃ xs, vTr xs = true ∧ trB (foldL xs) = s
  · obtain ⟨xs, h1, h2⟩ := hex
    rw [(tk_some h1 h2).2]; exact vTr_small h1
  · rw [(tk_none (fun xs h1 h2 => hex ⟨xs, h1, h2⟩)).2]; exact Nat.zero_le _
end

section
def digs : ByteArray := ⟨#[48, 49, 50, 51, 52, 53, 54, 55, 56, 57]⟩
theorem digs_at : ∀ n : Fin 10, digs.extract n.1 (n.1 + 1) = tb (numL n.1) := by decide +kernel
theorem numL_two : ∀ n : Fin 1000, 10 ≤ n.1 → numL n.1 = numL (n.1 / 10) ++ numL (n.1 % 10) := by decide +kernel
theorem tb_app (a b : List UInt8) : tb (a ++ b) = tb a ++ tb b := bl_inj (by rw [bl_app]; rfl)
theorem tb_size (a : List UInt8) : (tb a).size = a.length := rfl
theorem num_size {n : Nat} (h : n < 1000) : (tb (numL n)).size ≤ 3 := (numL_sz ⟨n, h⟩).2
set_option maxRecDepth 100000 in
theorem number1_any (n : Nat) (w : World) (h : n < 10) : Calls Tryd.prog 52 #[.int .i64 n] w fun e w' => e = .returned (.string (tb (numL n))) ∧ w = w' := by
  have hw : IntKind.i64.wrap ((n : Int) + 1) = (n : Int) + 1 := IntWalk.i64_in _ (by omega)
  have h3 : (n : Int) < 10 := by omega
  have h4 : (0 : Int) ≤ (n : Int) := by omega
  have h5 : (n : Int) + 1 ≤ 10 := by omega
  have h6 : (n : Int) ≤ (n : Int) + 1 := by omega
  have HE := Lib.hid (digs_at ⟨n, h⟩)
  go_enter Tryd.func52, Tryd.ntmps52
  go_wp2
  go_ret
  exact ⟨ret_str HE.out, rfl⟩
set_option maxRecDepth 100000 in
theorem number_step (n : Nat) (w : World) (h10 : 10 ≤ n) (h : n < 1000) (HQ : Hid (Calls Tryd.prog 52 #[.int .i64 ((n / 10 : Nat) : Int)] w fun e w' => e = .returned (.string (tb (numL (n / 10)))) ∧ w = w')) : Calls Tryd.prog 52 #[.int .i64 n] w fun e w' => e = .returned (.string (tb (numL n))) ∧ w = w' := by
  have HE := Lib.hid (numL_two ⟨n, h⟩ h10)
  have h3 : ¬ (n : Int) < 10 := by omega
  have hd : decide ((n : Int) < 10) = false := decide_eq_false h3
  have hq : (n : Int) / 10 = ((n / 10 : Nat) : Int) := by omega
  have hr : (n : Int) % 10 = ((n % 10 : Nat) : Int) := by omega
  have z1 : ((tb (numL (n / 10))).size : Int) ≤ 8388608 := by have := num_size (n := n / 10) (by omega); omega
  have z2 : ((tb (numL (n % 10))).size : Int) ≤ 8388608 := by have := num_size (n := n % 10) (by omega); omega
  have HQE := Lib.hid hq; have HRE := Lib.hid hr
  clear hq hr
  have HR := Lib.hid (number1_any (n % 10) w (by omega))
  obtain ⟨u1, HU1⟩ : ∃ u, Hid (tb (numL (n / 10)) = u) := ⟨_, Lib.hid rfl⟩
  obtain ⟨u2, HU2⟩ : ∃ u, Hid (tb (numL (n % 10)) = u) := ⟨_, Lib.hid rfl⟩
  rw [HU1.out] at HQ z1
  rw [HU2.out] at HR z2
  go_enter Tryd.func52, Tryd.ntmps52
  go_wp2_with fail
  rw [HQE.out]
  refine HQ.out.mono ?_
  rintro e w' ⟨rfl, rfl⟩
  go_wp2_with fail
  rw [HRE.out]
  refine HR.out.mono ?_
  rintro e w' ⟨rfl, rfl⟩
  go_wp2
  go_ret
  exact ⟨ret_str (by rw [← HU1.out, ← HU2.out, ← tb_app]; exact congrArg tb HE.out.symm), rfl⟩
theorem number2_any (n : Nat) (w : World) (h : n < 100) : Calls Tryd.prog 52 #[.int .i64 n] w fun e w' => e = .returned (.string (tb (numL n))) ∧ w = w' := by
  by_cases h10 : n < 10
  · exact number1_any n w h10
  · exact number_step n w (by omega) (by omega) (Lib.hid (number1_any (n / 10) w (by omega)))
theorem number3_any (n : Nat) (w : World) (h : n < 1000) : Calls Tryd.prog 52 #[.int .i64 n] w fun e w' => e = .returned (.string (tb (numL n))) ∧ w = w' := by
  by_cases h10 : n < 10
  · exact number1_any n w h10
  · exact number_step n w (by omega) (by omega) (Lib.hid (number2_any (n / 10) w (by omega)))
end

section
def spT1 : ByteArray := ⟨#[32]⟩
def colT1 : ByteArray := ⟨#[58]⟩
def starT1 : ByteArray := ⟨#[42]⟩
theorem str_sum {P : Program} (a b : ByteArray) (ha : a.size ≤ 1000000) (hb : b.size ≤ 1000000) : ∀ w, (Op.stringOp .add a b).run P w = .ok (.string (a ++ b)) w := fun w => run_string_add w a b (by omega) (by omega)
theorem jn_len {m : Nat} : ∀ {L : List (List UInt8)}, (∀ a ∈ L, a.length ≤ m) → (jn L).length ≤ (m + 1) * L.length
  | [], _ => Nat.zero_le _
  | [a], h => by have := h a (by simp); show a.length ≤ _; simp; omega
  | a :: b :: r, h => by
    have h1 := h a (by simp)
    have ih := jn_len (L := b :: r) (fun x hx => h x (List.mem_cons_of_mem _ hx))
    rw [jn_cons (by simp), List.length_append, List.length_cons, List.length_cons, Nat.mul_add]
    omega
theorem rowB_len {r : Rwf} (h : okRw r) : (rowB r).length ≤ 14 := by
  obtain ⟨h1, h2, h3, h4, h5⟩ := h
  have a1 := (name_rng h1).2.2
  have a2 := (numL_sz ⟨r.line.toNat, by omega⟩).2
  have a3 := (numL_sz ⟨r.times.toNat, by omega⟩).2
  dsimp only at a2 a3
  unfold rowB
  rw [List.length_append, List.length_append, List.length_cons]
  split
  · simp; omega
  · rw [List.length_cons]; omega
/-- the text so far, ahead of a row -/
def preT (R : List Rwf) (i : Nat) : ByteArray := if i = 0 then ByteArray.empty else tb (jn ((R.take i).map rowB)) ++ spT1
theorem pre_step {R : List Rwf} {i : Nat} (h : i < R.length) : tb (jn ((R.take (i + 1)).map rowB)) = preT R i ++ tb (rowB R[i]) := by
  rw [List.take_succ_eq_append_getElem h, List.map_append, List.map_cons, List.map_nil]
  unfold preT
  by_cases h0 : i = 0
  · subst h0
    rw [if_pos rfl]
    refine bl_inj ?_
    rw [bl_app]; rfl
  · rw [if_neg h0, jn_snoc (by
      intro e
      have := congrArg List.length e
      rw [List.length_map, List.length_take, List.length_nil] at this
      omega)]
    refine bl_inj ?_
    rw [bl_app, bl_app, bl_tb, bl_tb, bl_tb, List.append_assoc]; rfl
theorem row_one {r : Rwf} (h : r.times = 1) : tb (rowB r) = r.fn ++ colT1 ++ tb (numL r.line.toNat) := by
  unfold rowB
  rw [if_pos h]
  refine bl_inj ?_
  rw [bl_app, bl_app, bl_tb, bl_tb, List.append_nil, List.append_assoc]; rfl
theorem row_more {r : Rwf} (h : r.times ≠ 1) : tb (rowB r) = r.fn ++ colT1 ++ tb (numL r.line.toNat) ++ starT1 ++ tb (numL r.times.toNat) := by
  unfold rowB
  rw [if_neg h]
  refine bl_inj ?_
  rw [bl_app, bl_app, bl_app, bl_app, bl_tb, bl_tb, bl_tb]
  simp only [List.append_assoc]; rfl
theorem tr_len {R : List Rwf} (h : ∀ r ∈ R, okRw r) (h12 : R.length ≤ 12) (i : Nat) : (tb (jn ((R.take i).map rowB))).size ≤ 180 := by
  rw [tb_size]
  have h1 := jn_len (m := 14) (L := (R.take i).map rowB) (fun a ha => by
    obtain ⟨r, hr, rfl⟩ := List.mem_map.1 ha
    exact rowB_len (h r (List.mem_of_mem_take hr)))
  rw [List.length_map, List.length_take] at h1
  have : min i R.length ≤ 12 := by omega
  omega
theorem pre_len {R : List Rwf} (h : ∀ r ∈ R, okRw r) (h12 : R.length ≤ 12) (i : Nat) : (preT R i).size ≤ 181 := by
  unfold preT
  split
  · show 0 ≤ _; omega
  · have := tr_len h h12 i
    rw [ByteArray.size_append]
    show _ + 1 ≤ _; omega
/-- the answer of TraceText -/
def trX (xs : List Frm) : ByteArray := cond (vTr xs) (tb (trB (foldL xs))) ByteArray.empty
theorem trX_of {xs : List Frm} {b : Bool} (h : vTr xs = b) : trX xs = cond b (tb (trB (foldL xs))) ByteArray.empty := by unfold trX; rw [h]
theorem foldL_12 {xs : List Frm} (h : vTr xs = true) : (foldL xs).length ≤ 12 := by
  have := (foldK_len xs xs.length).1
  have := vTr_small h
  show (foldK xs xs.length).length ≤ 12
  omega
theorem trX_len (xs : List Frm) : (trX xs).size ≤ 180 := by
  cases h : vTr xs
  · rw [trX_of h]; exact Nat.zero_le _
  · rw [trX_of h]
    have := tr_len (foldL_okRw h) (foldL_12 h) (foldL xs).length
    rw [List.take_length] at this
    exact this
end

section
set_option maxHeartbeats 2000000 in
set_option maxRecDepth 100000 in
theorem straceText_any (A : Option Addr) (n c : Nat) (xs : List Frm) (w : World) (hR : Sl w A n c xs) (hv : vTr xs = true) :
    Calls Tryd.prog 27 #[.slice A n c] w fun e w' => e = .returned (.string (tb (trB (foldL xs)))) ∧ Le w w' := by
  have hok := Lib.hid (foldL_okRw hv)
  have h12 := foldL_12 hv
  have hn : n ≤ 16777216 := by have := hR.len; have := vTr_small hv; omega
  have HP := Lib.hid (pre_len hok.out h12)
  have HT := Lib.hid (tr_len hok.out h12)
  go_enter Tryd.func27, Tryd.ntmps27
  go_wp2_with fail
  refine (sfold_any A n c xs w hR hn).mono ?_
  rintro e w1 ⟨v, rfl, D, hle⟩
  obtain ⟨A1, c1, rfl, S, -⟩ := D.form (by decide)
  clear D hv hR
  obtain ⟨R, hR0⟩ : ∃ R, foldL xs = R := ⟨_, rfl⟩
  have HE : Hid (trB (foldL xs) = jn (R.map rowB)) := by show _ = _; rw [← hR0]; rfl
  rw [hR0] at hok h12 HP HT S ⊢
  clear hR0
  go_wp2
  go_loopw [3, 5] (fun v i wr => ∃ k : Nat, k ≤ R.length ∧ i = .int .i64 k ∧ v = .string (tb (jn ((R.take k).map rowB))) ∧ Le w1 wr) (fun _ i _ => R.length - (intOf i).toNat)
  case atStart => exact ⟨0, Nat.zero_le _, rfl, rfl, Le.refl _⟩
  case round =>
    obtain ⟨k, hk, rfl, rfl, LW⟩ := hrel
    have St := S.le LW
    have hto := HT.out k
    by_cases hlt : k < R.length
    · have hki : (k : Int) < R.length := by omega
      have HS := Lib.hid (pre_step hlt)
      have hpl := HP.out k
      have hr := hok.out R[k] (List.getElem_mem hlt)
      have H1 := Lib.hid (row_one (r := R[k]))
      have HM := Lib.hid (row_more (r := R[k]))
      obtain ⟨b, off, rfl, hb, q0, q1, q2, -⟩ := St.rwf_at hlt
      obtain ⟨r1, r2, r3, r4, r5⟩ := hr
      have hfn := (name_rng r1).2.2
      rw [bl_len] at hfn
      obtain ⟨ln, hln⟩ : ∃ ln : Nat, R[k].line = ln := ⟨R[k].line.toNat, by omega⟩
      obtain ⟨tm, htm⟩ : ∃ tm : Nat, R[k].times = tm := ⟨R[k].times.toNat, by omega⟩
      have e1 : R[k].line.toNat = ln := by omega
      have e2 : R[k].times.toNat = tm := by omega
      have l1 : ln < 1000 := by omega
      have t0 : 1 ≤ tm := by omega
      have t1 : tm < 1000 := by omega
      rw [e1, htm] at H1
      rw [e1, e2, htm] at HM
      rw [hln] at q1
      rw [htm] at q2
      have zn1 := num_size l1
      have zn2 := num_size t1
      clear e1 e2 hln htm r1 r2 r3 r4 r5 St
      generalize R[k].fn = fn at *
      have HN1 := Lib.hid (fun W => number3_any ln W l1)
      have HN2 := Lib.hid (fun W => number3_any tm W t1)
      obtain ⟨u1, hu1⟩ : ∃ u, tb (numL ln) = u := ⟨_, rfl⟩
      obtain ⟨u2, hu2⟩ : ∃ u, tb (numL tm) = u := ⟨_, rfl⟩
      rw [hu1] at HN1 zn1 H1 HM
      rw [hu2] at HN2 zn2 HM
      clear hu1 hu2
      have go : ∀ (o : ByteArray), o = preT R k → o.size ≤ 181 ∧ Hid (tm = 1 → tb (jn ((R.take (k + 1)).map rowB)) = o ++ fn ++ colT1 ++ u1) ∧ Hid (tm ≠ 1 → tb (jn ((R.take (k + 1)).map rowB)) = o ++ fn ++ colT1 ++ u1 ++ starT1 ++ u2) := fun o ho => by
        subst ho
        refine ⟨hpl, fun h => ?_, fun h => ?_⟩
        · rw [HS.out, H1.out (by omega)]; simp only [ByteArray.append_assoc]
        · rw [HS.out, HM.out (by omega)]; simp only [ByteArray.append_assoc]
      have GO := Lib.hid go
      clear go HS hpl H1 HM
      have hE0 : Hid (∀ W', Le wr W' → W'.cell? ⟨b, off + k * 3, none⟩ = some (.string fn) ∧ W'.cell? ⟨b, off + k * 3 + 1, none⟩ = some (.int .i64 ln) ∧ W'.cell? ⟨b, off + k * 3 + 2, none⟩ = some (.int .i64 tm)) := fun W' L => ⟨(L.cell hb).trans q0, (L.cell hb).trans q1, (L.cell hb).trans q2⟩
      have E0 := cell_ext hb q0
      have E1 := cell_ext hb q1
      have hc1 : colT1.size ≤ 1000000 := by decide
      rcases Nat.eq_zero_or_pos k with h0 | h0
      · subst h0
        have hkd : decide ((0 : Int) < ((0 : Nat) : Int)) = false := by decide
        obtain ⟨g1, g2, g3⟩ := GO.out ByteArray.empty rfl
        clear GO hto
        have hem : tb (jn ((R.take 0).map rowB)) = ByteArray.empty := rfl
        rw [hem]
        generalize ByteArray.empty = o at *
        clear hem
        rw [Nat.zero_mul, Nat.add_zero] at E0 E1 q0 q1 q2
        have hE0 : Hid (∀ W', Le wr W' → W'.cell? ⟨b, off, none⟩ = some (.string fn) ∧ W'.cell? ⟨b, off + 1, none⟩ = some (.int .i64 ln) ∧ W'.cell? ⟨b, off + 2, none⟩ = some (.int .i64 tm)) := fun W' L => ⟨(L.cell hb).trans q0, (L.cell hb).trans q1, (L.cell hb).trans q2⟩
        have s1 : ∀ W, (Op.stringOp .add o fn).run Tryd.prog W = .ok (.string (o ++ fn)) W := str_sum o fn (by omega) (by omega)
        have z1 : (o ++ fn).size ≤ 187 := by rw [ByteArray.size_append]; omega
        obtain ⟨y1, hy1⟩ : ∃ y, o ++ fn = y := ⟨_, rfl⟩
        rw [hy1] at s1 z1 g2 g3
        have s2 : ∀ W, (Op.stringOp .add y1 ⟨#[58]⟩).run Tryd.prog W = .ok (.string (y1 ++ colT1)) W := str_sum y1 colT1 (by omega) hc1
        have z2 : (y1 ++ colT1).size ≤ 188 := by rw [ByteArray.size_append]; have : colT1.size = 1 := rfl; omega
        obtain ⟨y2, hy2⟩ : ∃ y, y1 ++ colT1 = y := ⟨_, rfl⟩
        rw [hy2] at s2 z2 g2 g3
        have s3 : ∀ W, (Op.stringOp .add y2 u1).run Tryd.prog W = .ok (.string (y2 ++ u1)) W := str_sum y2 u1 (by omega) (by omega)
        have z3 : (y2 ++ u1).size ≤ 191 := by rw [ByteArray.size_append]; omega
        obtain ⟨y3, hy3⟩ : ∃ y, y2 ++ u1 = y := ⟨_, rfl⟩
        rw [hy3] at s3 z3 g2 g3
        have s4 : ∀ W, (Op.stringOp .add y3 ⟨#[42]⟩).run Tryd.prog W = .ok (.string (y3 ++ starT1)) W := str_sum y3 starT1 (by omega) (by decide)
        have z4 : (y3 ++ starT1).size ≤ 192 := by rw [ByteArray.size_append]; have : starT1.size = 1 := rfl; omega
        obtain ⟨y4, hy4⟩ : ∃ y, y3 ++ starT1 = y := ⟨_, rfl⟩
        rw [hy4] at s4 z4 g3
        have s5 : ∀ W, (Op.stringOp .add y4 u2).run Tryd.prog W = .ok (.string (y4 ++ u2)) W := str_sum y4 u2 (by omega) (by omega)
        clear hy1 hy2 hy3 hy4 z1 z2 z3 z4 zn1 zn2 g1 hfn
        go_wp2_with fail
        refine wp_region_ext (by kernel_rfl) (by kernel_rfl) ?_
        repeat (go_big_quiet_step (first | (go_at_call 52; exact Calls.ext_same (HN1.out _))))
        refine wpQuiet_nil ?_
        intro _ hw'
        obtain ⟨gg, rfl⟩ := hw'
        have L2 := Le.ext wr gg
        generalize wr.ext gg = W2 at *
        obtain ⟨-, -, k2⟩ := hE0.out W2 L2
        have LW2 := LW.trans L2
        clear E0 E1 q0 q1 q2 L2 hE0 s1 s2 s3
        by_cases ht : tm = 1
        · have htd : decide ((1 : Int) < (tm : Int)) = false := decide_eq_false (by omega)
          have hn1 := g2.out ht
          clear ht
          go_wp2
          go_roundw
          case rel => exact ⟨0 + 1, by omega, by go_num, by rw [hn1], LW2⟩
          case measure => (simp [intOf]) <;> omega
        · have htd : decide ((1 : Int) < (tm : Int)) = true := decide_eq_true (by omega)
          have hn1 := g3.out ht
          clear ht
          go_wp2_with fail
          refine (HN2.out _).mono ?_
          rintro e w' ⟨rfl, rfl⟩
          go_wp2
          go_roundw
          case rel => exact ⟨0 + 1, by omega, by go_num, by rw [hn1], LW2⟩
          case measure => (simp [intOf]) <;> omega
      · have hkd : decide ((0 : Int) < (k : Int)) = true := decide_eq_true (by omega)
        obtain ⟨g1, g2, g3⟩ := GO.out (tb (jn ((R.take k).map rowB)) ++ spT1) (by unfold preT; rw [if_neg (by omega)])
        clear GO
        have hsp : ∀ W, (Op.stringOp .add (tb (jn ((R.take k).map rowB))) ⟨#[32]⟩).run Tryd.prog W = .ok (.string (tb (jn ((R.take k).map rowB)) ++ spT1)) W := str_sum _ spT1 (by omega) (by decide)
        generalize tb (jn ((R.take k).map rowB)) = o0 at *
        obtain ⟨o, ho⟩ : ∃ o, o0 ++ spT1 = o := ⟨_, rfl⟩
        rw [ho] at g1 g2 g3 hsp
        clear ho hto
        have s1 : ∀ W, (Op.stringOp .add o fn).run Tryd.prog W = .ok (.string (o ++ fn)) W := str_sum o fn (by omega) (by omega)
        have z1 : (o ++ fn).size ≤ 187 := by rw [ByteArray.size_append]; omega
        obtain ⟨y1, hy1⟩ : ∃ y, o ++ fn = y := ⟨_, rfl⟩
        rw [hy1] at s1 z1 g2 g3
        have s2 : ∀ W, (Op.stringOp .add y1 ⟨#[58]⟩).run Tryd.prog W = .ok (.string (y1 ++ colT1)) W := str_sum y1 colT1 (by omega) hc1
        have z2 : (y1 ++ colT1).size ≤ 188 := by rw [ByteArray.size_append]; have : colT1.size = 1 := rfl; omega
        obtain ⟨y2, hy2⟩ : ∃ y, y1 ++ colT1 = y := ⟨_, rfl⟩
        rw [hy2] at s2 z2 g2 g3
        have s3 : ∀ W, (Op.stringOp .add y2 u1).run Tryd.prog W = .ok (.string (y2 ++ u1)) W := str_sum y2 u1 (by omega) (by omega)
        have z3 : (y2 ++ u1).size ≤ 191 := by rw [ByteArray.size_append]; omega
        obtain ⟨y3, hy3⟩ : ∃ y, y2 ++ u1 = y := ⟨_, rfl⟩
        rw [hy3] at s3 z3 g2 g3
        have s4 : ∀ W, (Op.stringOp .add y3 ⟨#[42]⟩).run Tryd.prog W = .ok (.string (y3 ++ starT1)) W := str_sum y3 starT1 (by omega) (by decide)
        have z4 : (y3 ++ starT1).size ≤ 192 := by rw [ByteArray.size_append]; have : starT1.size = 1 := rfl; omega
        obtain ⟨y4, hy4⟩ : ∃ y, y3 ++ starT1 = y := ⟨_, rfl⟩
        rw [hy4] at s4 z4 g3
        have s5 : ∀ W, (Op.stringOp .add y4 u2).run Tryd.prog W = .ok (.string (y4 ++ u2)) W := str_sum y4 u2 (by omega) (by omega)
        clear hy1 hy2 hy3 hy4 z1 z2 z3 z4 zn1 zn2 g1 hfn
        go_wp2_with fail
        refine wp_region_ext (by kernel_rfl) (by kernel_rfl) ?_
        repeat (go_big_quiet_step (first | (go_at_call 52; exact Calls.ext_same (HN1.out _))))
        refine wpQuiet_nil ?_
        intro _ hw'
        obtain ⟨gg, rfl⟩ := hw'
        have L2 := Le.ext wr gg
        generalize wr.ext gg = W2 at *
        obtain ⟨-, -, k2⟩ := hE0.out W2 L2
        have LW2 := LW.trans L2
        clear E0 E1 q0 q1 q2 L2 hE0 s1 s2 s3
        by_cases ht : tm = 1
        · have htd : decide ((1 : Int) < (tm : Int)) = false := decide_eq_false (by omega)
          have hn1 := g2.out ht
          clear ht
          go_wp2
          go_roundw
          case rel => exact ⟨k + 1, by omega, by go_num, by rw [hn1], LW2⟩
          case measure => (simp [intOf]) <;> omega
        · have htd : decide ((1 : Int) < (tm : Int)) = true := decide_eq_true (by omega)
          have hn1 := g3.out ht
          clear ht
          go_wp2_with fail
          refine (HN2.out _).mono ?_
          rintro e w' ⟨rfl, rfl⟩
          go_wp2
          go_roundw
          case rel => exact ⟨k + 1, by omega, by go_num, by rw [hn1], LW2⟩
          case measure => (simp [intOf]) <;> omega
    · have hki : ¬ (k : Int) < R.length := by omega
      obtain rfl : k = R.length := by omega
      rw [List.take_length]
      go_wp2
      go_ret
      exact ⟨ret_str (by rw [HE.out]), hle.trans LW⟩
end

section
section
section
variable {P : Program} {ops : Array Oper} {Q : Exit → Act → World → Prop} {md : Region.Mode} {S : World → Prop} {Z : List Nat}

/-- Whatever order is picked from here on; S holds behind every operation that is carried out, but for those of Z. -/
def wpAnyZ (P : Program) (md : Region.Mode) (ops : Array Oper) (Q : Exit → Act → World → Prop) (S : World → Prop) (Z : List Nat) : Nat → Array Bool → Act → World → Prop
  | 0, listed, a, w => Region.ready md ops listed = [] ∧ Q .normal a w
  | fuel + 1, listed, a, w =>
    (Region.ready md ops listed = [] → Q .normal a w) ∧
    ∀ i ∈ Region.ready md ops listed, wpOp P ops Q i (fun a' w' => (Z.contains i = false → S w') ∧ wpAnyZ P md ops Q S Z fuel (listed.setIfInBounds i true) a' w') a w

theorem wpAny_of_Z : ∀ (fuel : Nat) (listed : Array Bool) (a : Act) (w : World), wpAnyZ P md ops Q S Z fuel listed a w → wpAny P md ops Q fuel listed a w
  | 0, _, _, _, h => h
  | fuel + 1, _, _, _, h => ⟨h.1, fun i hi => wpOp_mono (fun a' w' h' => wpAny_of_Z fuel _ a' w' h'.2) (h.2 i hi)⟩

/-- the operations of C cannot come up ahead of number i -/
def Waits (md : Region.Mode) (ops : Array Oper) (listed : Array Bool) (i : Nat) (C : List Nat) : Prop :=
  ∀ k ∈ C, listed.getD k true = false ∧ ∃ o, ops[k]? = some o ∧ ∃ e ∈ o.after, Region.binds md e = true ∧ (e.on = i ∨ e.on ∈ C)
theorem Waits.not {listed : Array Bool} {i : Nat} {C : List Nat} (h : Waits md ops listed i C) (hi : listed.getD i true = false) {j : Nat} (hj : j ∈ Region.ready md ops listed) : j ∉ C := by
  intro hc
  obtain ⟨_, o, ho, e, he, hb, hon⟩ := h j hc
  obtain ⟨_, o', ho', hall⟩ := mem_ready.1 hj
  rw [ho] at ho'; injection ho' with ho'; subst ho'
  have h1 := hall e he hb
  have hx : listed.getD e.on true = false := by
    rcases hon with h2 | h2
    · rw [h2]; exact hi
    · exact (h _ h2).1
  rcases Nat.lt_or_ge e.on listed.size with h3 | h3
  · simp [h3] at h1 hx; rw [h1] at hx; cases hx
  · simp [Array.getElem?_eq_none h3] at h1
def waitsB (md : Region.Mode) (ops : Array Oper) (listed : Array Bool) (i : Nat) (C : List Nat) : Bool :=
  C.all fun k => !(listed.getD k true) && match ops[k]? with | some o => o.after.any fun e => Region.binds md e && (e.on == i || C.contains e.on) | none => false
theorem waits_of {listed : Array Bool} {i : Nat} {C : List Nat} (h : waitsB md ops listed i C = true) : Waits md ops listed i C := by
  intro k hk
  have h1 := List.all_eq_true.1 h k hk
  rw [Bool.and_eq_true] at h1
  refine ⟨by simpa using h1.1, ?_⟩
  have h2 := h1.2
  cases ho : ops[k]? with
  | none => rw [ho] at h2; cases h2
  | some o =>
    rw [ho] at h2
    replace h2 : (o.after.any fun e => Region.binds md e && (e.on == i || C.contains e.on)) = true := h2
    obtain ⟨e, he, h3⟩ := Array.any_eq_true'.1 h2
    rw [Bool.and_eq_true, Bool.or_eq_true] at h3
    exact ⟨o, rfl, e, he, h3.1, by simpa using h3.2⟩

theorem wpAnyZ_first {i : Nat} {oi : Oper} {v : Value} {C : List Nat} (hi : ops[i]? = some oi) (hsel : ∀ (j : Nat) (o : Oper) cs b, ops[j]? = some o → o.op ≠ .select cs b)
    (hQ : ∀ c a w, Q (.panic c) (a.put oi.dst v) w → Q (.panic c) a w) (hZ : ∀ z, Z.contains z = true → z ∈ C) :
    ∀ (fuel : Nat) (listed : Array Bool) (a : Act) (w : World),
      (∀ j oj, ops[j]? = some oj → j ≠ i → listed.getD j true = false → (∀ e ∈ oj.after, Region.binds md e = true → e.on ≠ i) → oi.apart ops oj = true) →
      Waits md ops listed i C → i ∈ Region.ready md ops listed → YieldsIf P ops S oi v a → S w →
      wpAnyZ P md ops Q S Z fuel (listed.setIfInBounds i true) (a.put oi.dst v) w → wpAnyZ P md ops Q S Z (fuel + 1) listed a w := by
  intro fuel
  induction fuel with
  | zero =>
    intro listed a w _ _ hr hy hS H
    refine ⟨fun h => (by rw [h] at hr; cases hr), fun j hj => ?_⟩
    by_cases hji : j = i
    · subst hji; exact hy.wpOp hi hS ⟨fun _ => hS, H⟩
    · have := ready_mono hj hji
      rw [H.1] at this
      cases this
  | succ fuel ih =>
    intro listed a w hfree hw hr hy hS H
    refine ⟨fun h => (by rw [h] at hr; cases hr), fun j hj => ?_⟩
    by_cases hji : j = i
    · subst hji; exact hy.wpOp hi hS ⟨fun _ => hS, H⟩
    · have h1 := H.2 j (ready_mono hj hji)
      have hjc := hw.not (mem_ready.1 hr).1 hj
      have hjz : Z.contains j = false := by
        cases e : Z.contains j
        · rfl
        · exact absurd (hZ j e) hjc
      obtain ⟨hjun, oj, hoj, hall⟩ := mem_ready.1 hj
      have hnot : ∀ e ∈ oj.after, Region.binds md e = true → e.on ≠ i := fun e he hb heq => by
        have h1 := hall e he hb
        have h0 := (mem_ready.1 hr).1
        rw [heq] at h1
        rcases Nat.lt_or_ge i listed.size with h' | h'
        · simp [h'] at h0 h1; rw [h0] at h1; cases h1
        · simp [Array.getElem?_eq_none h'] at h1
      have h2 := wpOp_putIf hoj (hfree j oj hoj hji hjun hnot) (fun cs b => hsel i oi cs b hi) (fun cs b => hsel j oj cs b hoj) hQ hy h1
      have hfree' : ∀ k ok, ops[k]? = some ok → k ≠ i → (listed.setIfInBounds j true).getD k true = false →
          (∀ e ∈ ok.after, Region.binds md e = true → e.on ≠ i) → oi.apart ops ok = true := fun k ok hk hki hun hno => by
        refine hfree k ok hk hki ?_ hno
        by_cases hjk : j = k
        · subst hjk; exact hjun
        · rw [getD_set_ne true hjk] at hun; exact hun
      have hw' : Waits md ops (listed.setIfInBounds j true) i C := fun k hk => ⟨by rw [getD_set_ne true (fun e => hjc (by rw [e]; exact hk))]; exact (hw k hk).1, (hw k hk).2⟩
      refine wpOp_mono (fun a' w' h3 => ⟨h3.2.1, ih (listed.setIfInBounds j true) a' w' hfree' hw' (ready_mono hr (Ne.symm hji)) h3.1 (h3.2.1 hjz) ?_⟩) h2
      rw [Array.setIfInBounds_comm _ _ hji]
      exact h3.2.2

theorem wpAnyZ_done {listed : Array Bool} {a : Act} {w : World} (hr : Region.ready md ops listed = []) (h : Q .normal a w) :
    ∀ fuel, wpAnyZ P md ops Q S Z fuel listed a w
  | 0 => ⟨hr, h⟩
  | _ + 1 => ⟨fun _ => h, by rw [hr]; simp⟩
theorem wp_region_Z {id : Nat} {a : Act} {w : World} (S : World → Prop) (Z : List Nat) (hm : P.follows .mixedOrders = true)
    (h : wpAnyZ P .any ops Q S Z ops.size (Array.replicate ops.size false) a w.drew) : (Code.region id ops true).wp P Q a w :=
  wp_region_any hm (wpAny_of_Z _ _ _ _ h)
end
section
variable {P : Program} {l : List Oper} {Q : Exit → Act → World → Prop} {md : Region.Mode} {S : World → Prop} {Z : List Nat}
/-- the operations that wait for number i (edges lead back) -/
def clos (md : Region.Mode) (ops : Array Oper) (i : Nat) : List Nat :=
  (List.range ops.size).foldl (fun C k => if (k != i && match ops[k]? with | some o => o.after.any fun e => Region.binds md e && (e.on == i || C.contains e.on) | none => false) then C ++ [k] else C) []
theorem wpAnyZ_takeC {i : Nat} (C : List Nat) {oi : Oper} {v : Value} {fuel : Nat} {listed : Array Bool} {a : Act} {w : World} (hi : l[i]? = some oi)
    (hs : Region.noSelect l.toArray = true) (hf : Region.free md l.toArray listed i = true) (hr : (Region.ready md l.toArray listed).contains i = true)
    (hz : (Z.all fun z => C.contains z) = true) (hw : waitsB md l.toArray listed i C = true)
    (hQ : ∀ c a w, Q (.panic c) (a.put oi.dst v) w → Q (.panic c) a w) (hy : YieldsIf P l.toArray S oi v a) (hS : S w)
    (h : wpAnyZ P md l.toArray Q S Z fuel (listed.setIfInBounds i true) (a.put oi.dst v) w) : wpAnyZ P md l.toArray Q S Z (fuel + 1) listed a w := by
  have hi' : l.toArray[i]? = some oi := by rw [List.getElem?_toArray]; exact hi
  exact wpAnyZ_first (C := C) hi' (Region.noSelect_spec hs) hQ (fun z hz' => by have := List.all_eq_true.1 hz z (by simpa using hz'); simpa using this) fuel listed a w (Region.free_spec hi' hf) (waits_of hw) (by simpa using hr) hy hS h
theorem wpAnyZ_take {i : Nat} {oi : Oper} {v : Value} {fuel : Nat} {listed : Array Bool} {a : Act} {w : World} (hi : l[i]? = some oi)
    (hs : (Region.noSelect l.toArray && Region.free md l.toArray listed i && (Region.ready md l.toArray listed).contains i && (Z.all fun z => (clos md l.toArray i).contains z) && waitsB md l.toArray listed i (clos md l.toArray i)) = true)
    (hQ : ∀ c a w, Q (.panic c) (a.put oi.dst v) w → Q (.panic c) a w) (hy : YieldsIf P l.toArray S oi v a) (hS : S w)
    (h : wpAnyZ P md l.toArray Q S Z fuel (listed.setIfInBounds i true) (a.put oi.dst v) w) : wpAnyZ P md l.toArray Q S Z (fuel + 1) listed a w := by
  simp only [Bool.and_eq_true] at hs
  exact wpAnyZ_takeC _ hi hs.1.1.1.1 hs.1.1.1.2 hs.1.1.2 hs.1.2 hs.2 hQ hy hS h
/-- number i comes up first -/
def ReadyZ (P : Program) (md : Region.Mode) (l : List Oper) (Q : Exit → Act → World → Prop) (S : World → Prop) (Z : List Nat) (fuel : Nat) (listed : Array Bool) (a : Act) (w : World) (i : Nat) : Prop :=
  wpOp P l.toArray Q i (fun a' w' => (Z.contains i = false → S w') ∧ wpAnyZ P md l.toArray Q S Z fuel (listed.setIfInBounds i true) a' w') a w
theorem wpAnyZ_one {i fuel : Nat} {listed : Array Bool} {a : Act} {w : World} (hr : Region.ready md l.toArray listed = [i]) (h : ReadyZ P md l Q S Z fuel listed a w i) : wpAnyZ P md l.toArray Q S Z (fuel + 1) listed a w :=
  ⟨fun h0 => absurd (hr ▸ h0) (by simp), hr ▸ fun j hj => by simp at hj; subst hj; exact h⟩
theorem wpAnyZ_two {i k fuel : Nat} {listed : Array Bool} {a : Act} {w : World} (hr : Region.ready md l.toArray listed = [i, k]) (h : ReadyZ P md l Q S Z fuel listed a w i) (h2 : ReadyZ P md l Q S Z fuel listed a w k) : wpAnyZ P md l.toArray Q S Z (fuel + 1) listed a w :=
  ⟨fun h0 => absurd (hr ▸ h0) (by simp), hr ▸ fun j hj => by simp at hj; rcases hj with rfl | rfl; exact h; exact h2⟩
theorem wpAnyZ_three {i k m fuel : Nat} {listed : Array Bool} {a : Act} {w : World} (hr : Region.ready md l.toArray listed = [i, k, m]) (h : ReadyZ P md l Q S Z fuel listed a w i) (h2 : ReadyZ P md l Q S Z fuel listed a w k) (h3 : ReadyZ P md l Q S Z fuel listed a w m) : wpAnyZ P md l.toArray Q S Z (fuel + 1) listed a w :=
  ⟨fun h0 => absurd (hr ▸ h0) (by simp), hr ▸ fun j hj => by simp at hj; rcases hj with rfl | rfl | rfl; exact h; exact h2; exact h3⟩
theorem ReadyZ.mk {fuel : Nat} {listed : Array Bool} {a : Act} {w : World} {i : Nat} {o : Oper} (ho : l[i]? = some o)
    (h : ∀ K' : Act → World → Prop, Shut (∀ a w, (Z.contains i = false → S w) → wpAnyZ P md l.toArray Q S Z fuel (listed.setIfInBounds i true) a w → K' a w) → if Region.wanted o (yielded l.toArray a.tmps) = true then Oper.wp P o a w K' Q else K' (a.put o.dst undef) w) :
    ReadyZ P md l Q S Z fuel listed a w i :=
  wpOp_step (by rw [List.getElem?_toArray]; exact ho) (fun K' hK => h K' (fun a w hS hW => hK a w ⟨hS, hW⟩))
end
end
end
end Go.Proofs.YtnjckloodkdbpaaDoor
