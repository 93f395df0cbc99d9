/- one text of YpR, TtA, YpA, YpT, TkR, SpL, YpX, Bu, JwC -/
import Derived.Test.YtkcnjoikdalgjaaGreatDoorZp7
import Derived.Test.YtkcnjoikdalgjaaGreatDoorZp5
import Derived.Test.YtkcnjoikdalgjaaGreatDoorZp1
import Derived.Test.YtkcnjoikdalgjaaGreatDoorZp2
import Derived.Test.YtkcnjoikdalgjaaGreatDoorZp6
import Derived.Test.YtkcnjoikdalgjaaGreatDoorShelf
import Derived.Deep.RegionHeld3
namespace Go.Proofs.YtkcnjoikdalgjaaGreatDoor
open Go.RowKit
set_option linter.unusedVariables false
section
/-- what a valid program is, in plain words (PhQ's vp_iff) -/
def VP (xs : List Cls) (p : List Lin) : Prop := okTree xs = true ∧ p.length ≤ 24 ∧ ∀ i (h : i < p.length), lineS xs p i p[i]
def pgB (xs : List Cls) (p : List Lin) : List UInt8 := catN (p.map (liT xs))
def plI (xs : List Cls) (s : List UInt8) : List Lin := (linesT s).map (pLI xs)
def plS (xs : List Cls) (s : List UInt8) : List Lin := ((splitL 10 s).take ((splitL 10 s).length - 1)).map (pLS xs)
theorem VP.line {xs : List Cls} {p : List Lin} (h : VP xs p) {x : Lin} (hx : x ∈ p) : numS xs x.kind x.a x.b = true ∧ 0 ≤ x.depth ∧ x.depth ≤ 5 := by
  obtain ⟨i, hi, rfl⟩ := List.getElem_of_mem hx
  have a := h.2.2 i hi
  have d := a.2.1.1
  rw [dep_at hi] at d
  exact ⟨a.1, d.1, d.2⟩
theorem VP.read {xs : List Cls} {p : List Lin} (h : VP xs p) {x : Lin} (hx : x ∈ p) : pLI xs (liT xs x) = x ∧ pLS xs (liT xs x) = x ∧ (10 : UInt8) ∉ liT xs x ∧ (liT xs x).length ≤ 30 :=
  line_read (good_of h.1) (h.line hx).1 (h.line hx).2.1 (h.line hx).2.2
theorem map_sameL {α : Type} {f : α → α} : ∀ {L : List α}, (∀ x ∈ L, f x = x) → L.map f = L
  | [], _ => rfl
  | x :: r, h => by rw [List.map_cons, h x (by simp), map_sameL (fun y hy => h y (List.mem_cons_of_mem _ hy))]
theorem pg_no {xs : List Cls} {p : List Lin} (h : VP xs p) : ∀ a ∈ p.map (liT xs), (10 : UInt8) ∉ a := fun a ha => by
  obtain ⟨x, hx, rfl⟩ := List.mem_map.1 ha
  exact (h.read hx).2.2.1
theorem pg_read {xs : List Cls} {p : List Lin} (h : VP xs p) : plI xs (pgB xs p) = p ∧ plS xs (pgB xs p) = p ∧ (linesT (pgB xs p)).length ≤ 24 := by
  have hn := pg_no h
  unfold plI plS pgB
  rw [linesT_cat hn, split_cat hn]
  refine ⟨?_, ?_, ?_⟩
  · rw [List.map_map]; exact map_sameL (fun x hx => (h.read hx).1)
  · rw [List.length_append, List.length_singleton, Nat.add_sub_cancel, List.take_left', List.map_map]
    · exact map_sameL (fun x hx => (h.read hx).2.1)
    · rfl
  · rw [List.length_map]; exact h.2.1
theorem pg_len {xs : List Cls} {p : List Lin} (h : VP xs p) : (pgB xs p).length ≤ 744 := by
  have := catN_len (m := 30) (L := p.map (liT xs)) (fun a ha => by
    obtain ⟨x, hx, rfl⟩ := List.mem_map.1 ha
    exact (h.read hx).2.2.2)
  rw [List.length_map] at this
  have := h.2.1
  show (catN _).length ≤ _; omega
theorem pg_count {xs : List Cls} {p : List Lin} (h : VP xs p) : (pgB xs p).count 10 = p.length := by
  unfold pgB
  rw [count_catN (pg_no h), List.length_map]
/-- the text of the first lines -/
theorem pg_pre {xs : List Cls} {p : List Lin} (h : VP xs p) (k : Nat) : (pgB xs (p.take k)).length ≤ 744 := by
  have := catN_len (m := 30) (L := (p.take k).map (liT xs)) (fun a ha => by
    obtain ⟨x, hx, rfl⟩ := List.mem_map.1 ha
    exact (h.read (List.mem_of_mem_take hx)).2.2.2)
  rw [List.length_map, List.length_take] at this
  have := h.2.1
  show (catN _).length ≤ _; omega
/-- the program of a text -/
noncomputable def ppX (xs : List Cls) (s : List UInt8) : List Lin := open Classical in if h : ∃ p, VP xs p ∧ pgB xs p = s then h.choose else []
noncomputable def ppO (xs : List Cls) (s : List UInt8) : Bool := open Classical in if ∃ p, VP xs p ∧ pgB xs p = s then true else false
theorem pp_some {xs : List Cls} {p : List Lin} {s : List UInt8} (h : VP xs p) (e : pgB xs p = s) : ppO xs s = true ∧ ppX xs s = p := by
  have hex : ∃ p, VP xs p ∧ pgB xs p = s := ⟨p, h, e⟩
  refine ⟨by unfold ppO; rw [if_pos hex], ?_⟩
  unfold ppX
  rw [dif_pos hex]
  have h1 := (pg_read hex.choose_spec.1).1
  rw [hex.choose_spec.2] at h1
  have h2 := (pg_read h).1
  rw [e] at h2
  exact h1.symm.trans h2
theorem pp_none {xs : List Cls} {s : List UInt8} (h : ∀ p, VP xs p → pgB xs p ≠ s) : ppO xs s = false ∧ ppX xs s = [] := by
  have hex : ¬ ∃ p, VP xs p ∧ pgB xs p = s := fun ⟨p, h1, h2⟩ => h p h1 h2
  exact ⟨by unfold ppO; rw [if_neg hex], by unfold ppX; rw [dif_neg hex]⟩
theorem pp_many {xs : List Cls} {s : List UInt8} (h : 24 < (linesT s).length) : ppO xs s = false ∧ ppX xs s = [] := pp_none fun p h1 e => by
  have := (pg_read h1).2.2
  rw [e] at this; omega
theorem pp_v {xs : List Cls} {s : List UInt8} (h : ¬ VP xs (plI xs s)) : ppO xs s = false ∧ ppX xs s = [] := pp_none fun p h1 e => by
  have h2 := (pg_read h1).1
  rw [e] at h2
  rw [h2] at h; exact h h1
theorem pp_text {xs : List Cls} {s : List UInt8} (e : pgB xs (plI xs s) ≠ s) : ppO xs s = false ∧ ppX xs s = [] := pp_none fun p h1 e2 => by
  have h2 := (pg_read h1).1
  rw [e2] at h2
  rw [h2] at e; exact e e2
theorem pps_v {xs : List Cls} {s : List UInt8} (h : ¬ VP xs (plS xs s)) : ppO xs s = false ∧ ppX xs s = [] := pp_none fun p h1 e => by
  have h2 := (pg_read h1).2.1
  rw [e] at h2
  rw [h2] at h; exact h h1
theorem pps_text {xs : List Cls} {s : List UInt8} (e : pgB xs (plS xs s) ≠ s) : ppO xs s = false ∧ ppX xs s = [] := pp_none fun p h1 e2 => by
  have h2 := (pg_read h1).2.1
  rw [e2] at h2
  rw [h2] at e; exact e e2
theorem pps_tree {xs : List Cls} {s : List UInt8} (h : okTree xs = false) : ppO xs s = false ∧ ppX xs s = [] := pp_none fun p h1 e => by
  rw [h1.1] at h; cases h
theorem pp_true {xs : List Cls} {s : List UInt8} (h : ppO xs s = true) : VP xs (ppX xs s) ∧ pgB xs (ppX xs s) = s := by
  by_cases hex : ∃ p, VP xs p ∧ pgB xs p = s
  · obtain ⟨p, h1, h2⟩ := hex
    rw [(pp_some h1 h2).2]; exact ⟨h1, h2⟩
  · rw [(pp_none (fun p h1 h2 => hex ⟨p, h1, h2⟩)).1] at h; cases h
theorem pp_len (xs : List Cls) (s : List UInt8) : (ppX xs s).length ≤ 24 := by
  by_cases hex : ∃ p, VP xs p ∧ pgB xs p = s
  · obtain ⟨p, h1, h2⟩ := hex
    rw [(pp_some h1 h2).2]; exact h1.2.1
  · rw [(pp_none (fun p h1 h2 => hex ⟨p, h1, h2⟩)).2]; exact Nat.zero_le _
end

section
instance instOneStrT : EncOne ByteArray := ⟨by decide, fun x u hu => by simp [Enc.cells] at hu; subst hu; rfl⟩
theorem infoStrT : (Tryz.prog.info? 9).map (fun i => (i.zero, i.size, i.bytes)) = some (some (.string ByteArray.empty), 1, 16) := by kernel_rfl
theorem bl_extract (s : ByteArray) (a i : Nat) : bl (s.extract a i) = ((bl s).drop a).take (i - a) := by
  unfold bl
  rw [ByteArray.data_extract, Array.toList_extract, List.extract_eq_take_drop]
theorem bl_at {s : ByteArray} {j : Nat} (h : j < s.size) : (bl s)[j]'(by rw [bl_len]; exact h) = s[j] := rfl
theorem seg_no {s : ByteArray} {c : UInt8} {a i : Nat} (h2 : i ≤ s.size) (hno : ∀ j (hj : j < s.size), a ≤ j → j < i → s[j] ≠ c) : c ∉ bl (s.extract a i) := by
  intro hm
  rw [bl_extract] at hm
  obtain ⟨j, hj, e⟩ := List.getElem_of_mem hm
  rw [List.length_take, List.length_drop, bl_len] at hj
  rw [List.getElem_take, List.getElem_drop] at e
  exact hno (a + j) (by omega) (by omega) (by omega) e
theorem seg_split {s : ByteArray} {c : UInt8} {a i : Nat} (h1 : a ≤ i) (h2 : i < s.size) (hno : ∀ j (hj : j < s.size), a ≤ j → j < i → s[j] ≠ c) (hc : s[i] = c) : splitL c ((bl s).drop a) = bl (s.extract a i) :: splitL c ((bl s).drop (i + 1)) := by
  have e : (bl s).drop a = bl (s.extract a i) ++ c :: (bl s).drop (i + 1) := by
    rw [bl_extract]
    have h3 : i < (bl s).length := by rw [bl_len]; exact h2
    have h7 : (bl s)[i] = c := hc
    have h6 : c :: (bl s).drop (i + 1) = (bl s).drop i := by rw [List.drop_eq_getElem_cons h3, h7]
    rw [h6]
    have h5 : (bl s).drop i = ((bl s).drop a).drop (i - a) := by rw [List.drop_drop]; congr 1; omega
    rw [h5, List.take_append_drop]
  rw [e, splitL_line (seg_no (by omega) hno)]
theorem seg_last {s : ByteArray} {c : UInt8} {a : Nat} (hno : ∀ j (hj : j < s.size), a ≤ j → s[j] ≠ c) : splitL c ((bl s).drop a) = [bl (s.extract a s.size)] := by
  have e : (bl s).drop a = bl (s.extract a s.size) := by
    rw [bl_extract, List.take_of_length_le (by rw [List.length_drop, bl_len]; omega)]
  rw [e, splitL_one (seg_no (Nat.le_refl _) (fun j hj h _ => hno j hj h))]
set_option maxHeartbeats 2000000 in
set_option maxRecDepth 100000 in
theorem splitAt_any (s : ByteArray) (c : UInt8) (w : World) (hs : s.size ≤ 1048576) :
    Calls Tryz.prog 79 #[.string s, .int .u8 c.toNat] w fun e w' => ∃ v, e = .returned v ∧ Owd 9 w w' v ((splitL c (bl s)).map tb) ∧ Le w w' := by
  obtain ⟨i0, hi, hz0, hz1, hz2⟩ := info_parts infoStrT
  go_enter Tryz.func79, Tryz.ntmps79
  go_wp2_with fail
  have L0 := Le.new w (.cells #[] 9)
  have O0 := own_empty (w := w) (base := w.heap.size) (g := w.heap.size) (e := 9) (size := 1) (Nat.le_refl _) rfl
  generalize w.alloc (.cells #[] 9) = W at *
  go_wp2
  go_loopw [5, 6, 7] (fun v f i wr => ∃ (L : List ByteArray) (a k : Nat), f = .int .i64 a ∧ i = .int .i64 k ∧ a ≤ k ∧ k ≤ s.size ∧ L.length ≤ a ∧ Hid (∀ j (hj : j < s.size), a ≤ j → j < k → s[j] ≠ c) ∧ Hid (L ++ (splitL c ((bl s).drop a)).map tb = (splitL c (bl s)).map tb) ∧ (∀ x ∈ L, Enc.ok x) ∧ wr.ownsRow w.heap.size 9 1 v L.length (L.flatMap Enc.cells) ∧ Le w wr) (fun _ _ i _ => s.size - (intOf i).toNat)
  case atStart => exact ⟨[], 0, 0, rfl, rfl, Nat.le_refl _, Nat.zero_le _, Nat.le_refl _, fun j _ _ h => absurd h (by omega), rfl, by simp, O0, L0⟩
  case round =>
    clear O0 L0
    obtain ⟨L, a, k, rfl, rfl, hak, hk, hLa, HNO, HSP, hL, O, LW⟩ := hrel
    obtain ⟨A2, c2, rfl⟩ := own_form O
    have HL := Lib.hid hL
    have s1 := LW.size
    clear hL
    by_cases hlt : k < s.size
    · have hc : 0 ≤ (s[k].toNat : Int) ∧ (s[k].toNat : Int) ≤ 255 := by have := UInt8.toNat_lt s[k]; omega
      have hkl : (k : Int) < (s.size : Int) := by omega
      by_cases h58 : s[k] = c
      · have hb : ((s[k].toNat : Int) == (c.toNat : Int)) = true := by rw [h58]; simp
        have HE := Lib.hid (seg_split hak hlt HNO.out h58)
        have hx1 : (a : Int) ≤ (k : Int) := by omega
        have hx2 : (k : Int) ≤ (s.size : Int) := by omega
        have hw : IntKind.i64.wrap ((k : Int) + 1) = (k : Int) + 1 := IntWalk.i64_in _ (by omega)
        have hsz : (s.extract a k).size ≤ 1048576 := by rw [ByteArray.size_extract]; omega
        clear h58 HNO
        have hfo : Enc.ok (s.extract a k) := by show (s.extract a k).size ≤ 9223372036854775807; omega
        have hbk := O.lt
        go_wp2_with (at_builtin; refine wpList_append_sl rfl _ _ 66 rfl w.heap.size 9 i0 _ 16 Tryz.underlying66 hi hz0 hz1 hz2 rfl _ _ L rfl (O.alloc _) _ 1 1 [s.extract a k] rfl (sl_one (s.extract a k) rfl hfo rfl) (by unfold maxLen; omega) (by omega) (Nat.le_trans (by omega) (Le.new wr _).size) ?_; intro v1 w7 O7 hg7 _; have LA := Le.new wr (.cells #[.string (s.extract a k)] 9); have L7 := (LW.trans LA).grown hg7 (fun k hk => by have h := (hbk _ hk).1; omega); clear hg7 LA)
        go_roundw
        case rel =>
          refine ⟨L ++ [s.extract a k], k + 1, k + 1, by go_num, by go_num, Nat.le_refl _, by omega, by simp; omega, fun j _ h1 h2 => absurd h1 (by omega), ?_, (fun y hy => by rcases List.mem_append.1 hy with h | h; exact HL.out y h; simp at h; subst h; exact hfo), by rw [List.length_append]; exact O7, L7⟩
          have := HSP.out
          rw [HE.out, List.map_cons, tb_bl] at this
          rw [List.append_assoc]; exact this
        case measure => (simp [intOf]) <;> omega
      · have hb : ((s[k].toNat : Int) == (c.toNat : Int)) = false := by
          rw [beq_eq_false_iff_ne]; intro e; exact h58 (UInt8.toNat_inj.1 (by omega))
        have HNO2 : Hid (∀ j (hj : j < s.size), a ≤ j → j < k + 1 → s[j] ≠ c) := fun j hj h1 h2 => by
          rcases Nat.lt_or_ge j k with h | h
          · exact HNO.out j hj h1 h
          · have e : j = k := by omega
            subst e; exact h58
        clear h58 HNO
        go_wp2
        go_roundw
        case rel => exact ⟨L, a, k + 1, by go_num, by go_num, by omega, by omega, hLa, HNO2.out, HSP.out, HL.out, O, LW⟩
        case measure => (simp [intOf]) <;> omega
    · have hkl : ¬ (k : Int) < (s.size : Int) := by omega
      have HE := Lib.hid (seg_last (fun j hj h => HNO.out j hj h (by omega)))
      have hx2 : (a : Int) ≤ (s.size : Int) := by omega
      have hsz : (s.extract a s.size).size ≤ 1048576 := by rw [ByteArray.size_extract]; omega
      have hfo : Enc.ok (s.extract a s.size) := by show (s.extract a s.size).size ≤ 9223372036854775807; omega
      have hbk := O.lt
      clear HNO
      go_wp2_with (at_builtin; refine wpList_append_sl rfl _ _ 66 rfl w.heap.size 9 i0 _ 16 Tryz.underlying66 hi hz0 hz1 hz2 rfl _ _ L rfl (O.alloc _) _ 1 1 [s.extract a s.size] rfl (sl_one (s.extract a s.size) rfl hfo rfl) (by unfold maxLen; omega) (by omega) (Nat.le_trans (by omega) (Le.new wr _).size) ?_; intro v1 w7 O7 hg7 _; have LA := Le.new wr (.cells #[.string (s.extract a s.size)] 9); have L7 := (LW.trans LA).grown hg7 (fun k hk => by have h := (hbk _ hk).1; omega); clear hg7 LA)
      go_ret
      refine ⟨_, rfl, ⟨?_, ?_⟩, L7⟩
      · have := HSP.out
        rw [HE.out, List.map_cons, tb_bl] at this
        rw [← this, List.length_append]; exact O7
      · have := HSP.out
        rw [HE.out, List.map_cons, tb_bl] at this
        rw [← this]
        intro y hy
        rcases List.mem_append.1 hy with h | h
        · exact HL.out y h
        · simp at h; subst h; exact hfo
end

section
def lwCells : Array Value := #[.string (tb lwPass), .string (tb lwLog), .string (tb lwRaise), .string (tb lwAgain), .string (tb lwReturn), .string (tb lwBreak), .string (tb lwContinue), .string (tb lwTry), .string (tb lwExcept), .string (tb lwElse), .string (tb lwFinally), .string (tb lwWith), .string (tb lwLoop)]
/-- the words of lines lie there -/
def LnW (w : World) : Prop := w.var? Tryz.prog "loop.example/faultcleanup/impl.lineWords" = some lwCells
theorem LnW.le {w w' : World} (h : LnW w) (hl : Le w w') : LnW w' := var_le h hl
theorem lnw_named : Tryz.prog.globalNamed "loop.example/faultcleanup/impl.lineWords" = some 0 := by kernel_rfl
theorem lwCells_at : ∀ k : Fin 13, lwCells[k.1]? = some (.string (tb (lwAt k.1)))
  | ⟨0, _⟩ => rfl
  | ⟨1, _⟩ => rfl
  | ⟨2, _⟩ => rfl
  | ⟨3, _⟩ => rfl
  | ⟨4, _⟩ => rfl
  | ⟨5, _⟩ => rfl
  | ⟨6, _⟩ => rfl
  | ⟨7, _⟩ => rfl
  | ⟨8, _⟩ => rfl
  | ⟨9, _⟩ => rfl
  | ⟨10, _⟩ => rfl
  | ⟨11, _⟩ => rfl
  | ⟨12, _⟩ => rfl
theorem LnW.at {w : World} (h : LnW w) (k : Nat) (hk : k < 13) : w.cell? ⟨0, k, none⟩ = some (.string (tb (lwAt k))) := (World.var?_cell lnw_named h k).trans (lwCells_at ⟨k, hk⟩)
theorem lix0 (w : World) : (Instr.index 89 (.agg #[.string (tb lwPass), .string (tb lwLog), .string (tb lwRaise), .string (tb lwAgain), .string (tb lwReturn), .string (tb lwBreak), .string (tb lwContinue), .string (tb lwTry), .string (tb lwExcept), .string (tb lwElse), .string (tb lwFinally), .string (tb lwWith), .string (tb lwLoop)]) (.int .i64 0)).run Tryz.prog w = .ok (.string (tb lwPass)) w := by
  simp [Instr.index, run_underlying Tryz.underlying89, asIntOf, go_sem]
theorem lix1 (w : World) : (Instr.index 89 (.agg #[.string (tb lwPass), .string (tb lwLog), .string (tb lwRaise), .string (tb lwAgain), .string (tb lwReturn), .string (tb lwBreak), .string (tb lwContinue), .string (tb lwTry), .string (tb lwExcept), .string (tb lwElse), .string (tb lwFinally), .string (tb lwWith), .string (tb lwLoop)]) (.int .i64 1)).run Tryz.prog w = .ok (.string (tb lwLog)) w := by
  simp [Instr.index, run_underlying Tryz.underlying89, asIntOf, go_sem]
theorem lix2 (w : World) : (Instr.index 89 (.agg #[.string (tb lwPass), .string (tb lwLog), .string (tb lwRaise), .string (tb lwAgain), .string (tb lwReturn), .string (tb lwBreak), .string (tb lwContinue), .string (tb lwTry), .string (tb lwExcept), .string (tb lwElse), .string (tb lwFinally), .string (tb lwWith), .string (tb lwLoop)]) (.int .i64 2)).run Tryz.prog w = .ok (.string (tb lwRaise)) w := by
  simp [Instr.index, run_underlying Tryz.underlying89, asIntOf, go_sem]
theorem lix3 (w : World) : (Instr.index 89 (.agg #[.string (tb lwPass), .string (tb lwLog), .string (tb lwRaise), .string (tb lwAgain), .string (tb lwReturn), .string (tb lwBreak), .string (tb lwContinue), .string (tb lwTry), .string (tb lwExcept), .string (tb lwElse), .string (tb lwFinally), .string (tb lwWith), .string (tb lwLoop)]) (.int .i64 3)).run Tryz.prog w = .ok (.string (tb lwAgain)) w := by
  simp [Instr.index, run_underlying Tryz.underlying89, asIntOf, go_sem]
theorem lix4 (w : World) : (Instr.index 89 (.agg #[.string (tb lwPass), .string (tb lwLog), .string (tb lwRaise), .string (tb lwAgain), .string (tb lwReturn), .string (tb lwBreak), .string (tb lwContinue), .string (tb lwTry), .string (tb lwExcept), .string (tb lwElse), .string (tb lwFinally), .string (tb lwWith), .string (tb lwLoop)]) (.int .i64 4)).run Tryz.prog w = .ok (.string (tb lwReturn)) w := by
  simp [Instr.index, run_underlying Tryz.underlying89, asIntOf, go_sem]
theorem lix5 (w : World) : (Instr.index 89 (.agg #[.string (tb lwPass), .string (tb lwLog), .string (tb lwRaise), .string (tb lwAgain), .string (tb lwReturn), .string (tb lwBreak), .string (tb lwContinue), .string (tb lwTry), .string (tb lwExcept), .string (tb lwElse), .string (tb lwFinally), .string (tb lwWith), .string (tb lwLoop)]) (.int .i64 5)).run Tryz.prog w = .ok (.string (tb lwBreak)) w := by
  simp [Instr.index, run_underlying Tryz.underlying89, asIntOf, go_sem]
theorem lix6 (w : World) : (Instr.index 89 (.agg #[.string (tb lwPass), .string (tb lwLog), .string (tb lwRaise), .string (tb lwAgain), .string (tb lwReturn), .string (tb lwBreak), .string (tb lwContinue), .string (tb lwTry), .string (tb lwExcept), .string (tb lwElse), .string (tb lwFinally), .string (tb lwWith), .string (tb lwLoop)]) (.int .i64 6)).run Tryz.prog w = .ok (.string (tb lwContinue)) w := by
  simp [Instr.index, run_underlying Tryz.underlying89, asIntOf, go_sem]
theorem lix7 (w : World) : (Instr.index 89 (.agg #[.string (tb lwPass), .string (tb lwLog), .string (tb lwRaise), .string (tb lwAgain), .string (tb lwReturn), .string (tb lwBreak), .string (tb lwContinue), .string (tb lwTry), .string (tb lwExcept), .string (tb lwElse), .string (tb lwFinally), .string (tb lwWith), .string (tb lwLoop)]) (.int .i64 7)).run Tryz.prog w = .ok (.string (tb lwTry)) w := by
  simp [Instr.index, run_underlying Tryz.underlying89, asIntOf, go_sem]
theorem lix8 (w : World) : (Instr.index 89 (.agg #[.string (tb lwPass), .string (tb lwLog), .string (tb lwRaise), .string (tb lwAgain), .string (tb lwReturn), .string (tb lwBreak), .string (tb lwContinue), .string (tb lwTry), .string (tb lwExcept), .string (tb lwElse), .string (tb lwFinally), .string (tb lwWith), .string (tb lwLoop)]) (.int .i64 8)).run Tryz.prog w = .ok (.string (tb lwExcept)) w := by
  simp [Instr.index, run_underlying Tryz.underlying89, asIntOf, go_sem]
theorem lix9 (w : World) : (Instr.index 89 (.agg #[.string (tb lwPass), .string (tb lwLog), .string (tb lwRaise), .string (tb lwAgain), .string (tb lwReturn), .string (tb lwBreak), .string (tb lwContinue), .string (tb lwTry), .string (tb lwExcept), .string (tb lwElse), .string (tb lwFinally), .string (tb lwWith), .string (tb lwLoop)]) (.int .i64 9)).run Tryz.prog w = .ok (.string (tb lwElse)) w := by
  simp [Instr.index, run_underlying Tryz.underlying89, asIntOf, go_sem]
theorem lix10 (w : World) : (Instr.index 89 (.agg #[.string (tb lwPass), .string (tb lwLog), .string (tb lwRaise), .string (tb lwAgain), .string (tb lwReturn), .string (tb lwBreak), .string (tb lwContinue), .string (tb lwTry), .string (tb lwExcept), .string (tb lwElse), .string (tb lwFinally), .string (tb lwWith), .string (tb lwLoop)]) (.int .i64 10)).run Tryz.prog w = .ok (.string (tb lwFinally)) w := by
  simp [Instr.index, run_underlying Tryz.underlying89, asIntOf, go_sem]
theorem lix11 (w : World) : (Instr.index 89 (.agg #[.string (tb lwPass), .string (tb lwLog), .string (tb lwRaise), .string (tb lwAgain), .string (tb lwReturn), .string (tb lwBreak), .string (tb lwContinue), .string (tb lwTry), .string (tb lwExcept), .string (tb lwElse), .string (tb lwFinally), .string (tb lwWith), .string (tb lwLoop)]) (.int .i64 11)).run Tryz.prog w = .ok (.string (tb lwWith)) w := by
  simp [Instr.index, run_underlying Tryz.underlying89, asIntOf, go_sem]
theorem lix12 (w : World) : (Instr.index 89 (.agg #[.string (tb lwPass), .string (tb lwLog), .string (tb lwRaise), .string (tb lwAgain), .string (tb lwReturn), .string (tb lwBreak), .string (tb lwContinue), .string (tb lwTry), .string (tb lwExcept), .string (tb lwElse), .string (tb lwFinally), .string (tb lwWith), .string (tb lwLoop)]) (.int .i64 12)).run Tryz.prog w = .ok (.string (tb lwLoop)) w := by
  simp [Instr.index, run_underlying Tryz.underlying89, asIntOf, go_sem]
theorem lix (w : World) : ∀ k : Fin 13, (Instr.index 89 (.agg #[.string (tb lwPass), .string (tb lwLog), .string (tb lwRaise), .string (tb lwAgain), .string (tb lwReturn), .string (tb lwBreak), .string (tb lwContinue), .string (tb lwTry), .string (tb lwExcept), .string (tb lwElse), .string (tb lwFinally), .string (tb lwWith), .string (tb lwLoop)]) (.int .i64 (k.1 : Nat))).run Tryz.prog w = .ok (.string (tb (lwAt k.1))) w
  | ⟨0, _⟩ => lix0 w
  | ⟨1, _⟩ => lix1 w
  | ⟨2, _⟩ => lix2 w
  | ⟨3, _⟩ => lix3 w
  | ⟨4, _⟩ => lix4 w
  | ⟨5, _⟩ => lix5 w
  | ⟨6, _⟩ => lix6 w
  | ⟨7, _⟩ => lix7 w
  | ⟨8, _⟩ => lix8 w
  | ⟨9, _⟩ => lix9 w
  | ⟨10, _⟩ => lix10 w
  | ⟨11, _⟩ => lix11 w
  | ⟨12, _⟩ => lix12 w
theorem tb_eqL {a : List UInt8} {s : ByteArray} : tb a = s ↔ bl s = a := ⟨fun h => by rw [← h, bl_tb], fun h => by rw [← h, tb_bl]⟩
theorem str_yesL (s : ByteArray) : (s.toList == s.toList) = true := by simp
theorem lwL_drop : ∀ k : Fin 13, lwL.drop k.1 = lwAt k.1 :: lwL.drop (k.1 + 1)
  | ⟨0, _⟩ => rfl
  | ⟨1, _⟩ => rfl
  | ⟨2, _⟩ => rfl
  | ⟨3, _⟩ => rfl
  | ⟨4, _⟩ => rfl
  | ⟨5, _⟩ => rfl
  | ⟨6, _⟩ => rfl
  | ⟨7, _⟩ => rfl
  | ⟨8, _⟩ => rfl
  | ⟨9, _⟩ => rfl
  | ⟨10, _⟩ => rfl
  | ⟨11, _⟩ => rfl
  | ⟨12, _⟩ => rfl
set_option maxHeartbeats 1000000 in
set_option maxRecDepth 100000 in
theorem lineKind_any (s : ByteArray) (w : World) (hX : LnW w) :
    Calls Tryz.prog 69 #[.string s] w fun e w' => e = .returned (.int .i64 (lkW (bl s))) ∧ w = w' := by
  have c0 := hX.at 0 (by omega)
  have c1 := hX.at 1 (by omega)
  have c2 := hX.at 2 (by omega)
  have c3 := hX.at 3 (by omega)
  have c4 := hX.at 4 (by omega)
  have c5 := hX.at 5 (by omega)
  have c6 := hX.at 6 (by omega)
  have c7 := hX.at 7 (by omega)
  have c8 := hX.at 8 (by omega)
  have c9 := hX.at 9 (by omega)
  have c10 := hX.at 10 (by omega)
  have c11 := hX.at 11 (by omega)
  have c12 := hX.at 12 (by omega)
  simp only [show lwAt ((0 : Nat) : Int) = lwPass from rfl, show lwAt ((1 : Nat) : Int) = lwLog from rfl, show lwAt ((2 : Nat) : Int) = lwRaise from rfl, show lwAt ((3 : Nat) : Int) = lwAgain from rfl, show lwAt ((4 : Nat) : Int) = lwReturn from rfl, show lwAt ((5 : Nat) : Int) = lwBreak from rfl, show lwAt ((6 : Nat) : Int) = lwContinue from rfl, show lwAt ((7 : Nat) : Int) = lwTry from rfl, show lwAt ((8 : Nat) : Int) = lwExcept from rfl, show lwAt ((9 : Nat) : Int) = lwElse from rfl, show lwAt ((10 : Nat) : Int) = lwFinally from rfl, show lwAt ((11 : Nat) : Int) = lwWith from rfl, show lwAt ((12 : Nat) : Int) = lwLoop from rfl] at c0 c1 c2 c3 c4 c5 c6 c7 c8 c9 c10 c11 c12
  obtain ⟨z, hz⟩ : ∃ z, Hid (lkW (bl s) = z) := ⟨_, Lib.hid rfl⟩
  clear hX
  go_enter Tryz.func69, Tryz.ntmps69
  go_wp2
  go_loopw [6] (fun i wr => ∃ k : Nat, k ≤ 13 ∧ i = .int .i64 k ∧ Hid (lkF (bl s) (lwL.drop k) k = z) ∧ w = wr) (fun i _ => 13 - (intOf i).toNat)
  case atStart => exact ⟨0, by omega, rfl, hz, rfl⟩
  case round =>
    obtain ⟨k, hk, rfl, HZ, rfl⟩ := hrel
    by_cases hlt : k < 13
    · have hki : (k : Int) < 13 := by omega
      have hix : ∀ w, _ := fun w => lix w ⟨k, hlt⟩
      dsimp only at hix
      have hst : Hid ((if bl s = lwAt k then (k : Int) else lkF (bl s) (lwL.drop (k + 1)) ((k : Int) + 1)) = z) := by
        have := HZ.out
        rw [lwL_drop ⟨k, hlt⟩, lkF] at this; exact this
      have hwk : IntKind.i64.wrap ((k : Int) + 1) = (k : Int) + 1 := IntWalk.i64_in _ (by omega)
      by_cases h : tb (lwAt k) = s
      · have hr : Hid (z = k) := by show _ = _; rw [← hst.out, if_pos (tb_eqL.1 h)]
        have hb : ((tb (lwAt k)).toList == s.toList) = true := by rw [h]; exact str_yesL s
        clear hst HZ h
        go_wp2
        go_ret
        exact ⟨by rw [hz.out, hr.out]; rfl, rfl⟩
      · have hb := str_ne h
        have hr : Hid (lkF (bl s) (lwL.drop (k + 1)) ((k + 1 : Nat) : Int) = z) := by show _ = _; rw [← hst.out, if_neg (fun e => h (tb_eqL.2 e))]; rfl
        clear hst HZ h
        go_wp2
        go_roundw
        case rel => exact ⟨k + 1, by omega, by go_num, hr, by first | trivial | rfl⟩
        case measure => (simp [intOf]) <;> omega
    · have hki : ¬ (k : Int) < 13 := by omega
      obtain rfl : k = 13 := by omega
      have hr : Hid (z = -1) := by show _ = _; rw [← HZ.out]; rfl
      clear HZ
      go_wp2
      go_ret
      exact ⟨by rw [hz.out, hr.out]; rfl, rfl⟩
end

section
section
variable {xs : List Cls} {d kd a b : Int}
theorem lnT_num (n : Nat) (h : kd = 1 ∨ kd = 4 ∨ kd = 12) : lnT xs ⟨d, kd, n, b⟩ = lwAt kd ++ 32 :: numL n := by
  unfold lnT; dsimp only; rw [if_pos h]; congr 3
theorem lnT_with0 (n : Nat) (hb : b ≠ 1) : lnT xs ⟨d, 11, n, b⟩ = lwWith ++ 32 :: numL n := by
  unfold lnT; dsimp only; rw [if_neg (by omega), if_pos rfl, if_neg hb]; rfl
theorem lnT_with1 (n : Nat) : lnT xs ⟨d, 11, n, 1⟩ = lwWith ++ 32 :: (numL n ++ 32 :: lwQuiet) := by
  unfold lnT; dsimp only; rw [if_neg (by omega), if_pos rfl, if_pos rfl]; rfl
theorem lnT_raise (k n : Nat) : lnT xs ⟨d, 2, k, n⟩ = lwRaise ++ 32 :: (clN xs k ++ 32 :: numL n) := by
  unfold lnT; dsimp only; rw [if_neg (by omega), if_neg (by omega), if_pos rfl]; rfl
theorem lnT_except (k : Nat) : lnT xs ⟨d, 8, k, b⟩ = lwExcept ++ 32 :: clN xs k := by
  unfold lnT; dsimp only; rw [if_neg (by omega), if_neg (by omega), if_neg (by omega), if_pos rfl]; rfl
theorem lnT_word (h1 : ¬ (kd = 1 ∨ kd = 4 ∨ kd = 12)) (h2 : kd ≠ 11) (h3 : kd ≠ 2) (h4 : kd ≠ 8) : lnT xs ⟨d, kd, a, b⟩ = lwAt kd := by
  unfold lnT; dsimp only; rw [if_neg h1, if_neg h2, if_neg h3, if_neg h4]
end
theorem lnT_len {xs : List Cls} (g : Good xs) {x : Lin} (h : numS xs x.kind x.a x.b = true) (h0 : 0 ≤ x.depth) (h5 : x.depth ≤ 5) : (lnT xs x).length ≤ 30 := by
  have := (line_read g h h0 h5).2.2.2
  unfold liT at this
  rw [List.length_append] at this; omega
/-- the next line of a text of a program -/
theorem pg_takeL {xs : List Cls} {p : List Lin} {k : Nat} (h : k < p.length) : pgB xs (p.take (k + 1)) = pgB xs (p.take k) ++ (List.replicate p[k].depth.toNat 32 ++ lnT xs p[k] ++ [10]) := by
  unfold pgB
  rw [List.take_succ_eq_append_getElem h, List.map_append, List.map_cons, List.map_nil, catN_snoc]; rfl
end

section
theorem pre_small {m k : Nat} (hm : m < 1000) (hk : k < (numL m).length) : dv ((numL m).take k) ≤ 99 := by
  have h1 := numL_sz ⟨m, hm⟩
  have h2 := numL_pre ⟨m, hm⟩
  dsimp only at h1 h2
  rcases Nat.lt_or_ge k 3 with h3 | h3
  · match k, h3 with
    | 0, _ => rw [List.take_zero]; show 0 ≤ 99; omega
    | 1, _ => have := h2.1; omega
    | 2, _ => exact h2.2 (by omega)
  · omega
theorem dv_snoc (l : List UInt8) (c : UInt8) : dv (l ++ [c]) = 10 * dv l + (c.toNat - 48) := by unfold dv; rw [List.foldl_append]; rfl
theorem rdN_digit {m : Nat} (hm : m ≤ 1000) {l : List UInt8} {c : UInt8} (hc : c ∈ l) (h : c.toNat < 48 ∨ 57 < c.toNat) : rdN m l = -1 := rdN_no fun n hn e => by
  rw [← e] at hc; exact numL_not (by omega) h hc
theorem rdN_long {l : List UInt8} {k : Nat} (hk : k < l.length) (h : 99 < dv (l.take k)) : rdN 1000 l = -1 := rdN_no fun n hn e => by
  subst e
  have := pre_small hn hk
  omega
theorem rdN_nil (m : Nat) : rdN m [] = -1 := by
  unfold rdN
  rw [if_neg]
  rintro ⟨h, -⟩
  exact absurd h (by decide)
theorem rdN_eq {m : Nat} {l : List UInt8} (h : numL (dv l) = l) (hd : dv l < m) : rdN m l = dv l := by unfold rdN; rw [if_pos ⟨h, hd⟩]
theorem rdN_ne {m : Nat} {l : List UInt8} (h : numL (dv l) ≠ l) : rdN m l = -1 := by unfold rdN; rw [if_neg (fun e => h e.1)]
theorem empT {s : ByteArray} : (s.toList.isEmpty = true ↔ bl s = []) := by
  constructor
  · intro h
    have h2 : s.toList = [] := List.isEmpty_iff.1 h
    by_cases hb : bl s = []
    · exact hb
    · have := str_ne (a := s) (b := ByteArray.empty) (fun e => hb (by rw [e]; rfl))
      rw [h2] at this
      exact absurd this (by decide +kernel)
  · intro h
    have : s = ByteArray.empty := bl_inj (by rw [h]; rfl)
    rw [this]; decide +kernel
theorem empF {s : ByteArray} (h : bl s ≠ []) : s.toList.isEmpty = false := by
  cases e : s.toList.isEmpty
  · rfl
  · exact absurd (empT.1 e) h
theorem take_snoc {s : ByteArray} {k : Nat} (h : k < s.size) : (bl s).take (k + 1) = (bl s).take k ++ [s[k]] := by
  rw [List.take_succ_eq_append_getElem (by rw [bl_len]; exact h)]; rfl
end

section
theorem splitL_len2 (c : UInt8) : ∀ l : List UInt8, ∀ x ∈ splitL c l, x.length ≤ l.length
  | [], x, h => by simp [splitL] at h; subst h; exact Nat.le_refl _
  | y :: l, x, h => by
    have ih := splitL_len2 c l
    rw [splitL] at h
    split at h
    · rcases List.mem_cons.1 h with rfl | h
      · exact Nat.zero_le _
      · have := ih x h; simp; omega
    · split at h
      · simp at h; subst h; simp
      · rename_i a t e
        rw [e] at ih
        rcases List.mem_cons.1 h with rfl | h
        · have := ih a (by simp); simp; omega
        · have := ih x (List.mem_cons_of_mem _ h); simp; omega
theorem linI_piece {s : List UInt8} {l : List UInt8} (h : l ∈ linesT s) : l.length ≤ s.length := by
  have key : ∀ (n : Nat) (s : List UInt8), s.length ≤ n → ∀ l ∈ linesT s, l.length ≤ s.length := by
    intro n
    induction n with
    | zero =>
      intro s hs l hl
      have : s = [] := List.length_eq_zero_iff.1 (by omega)
      subst this
      rw [linesT_nil] at hl; simp at hl
    | succ n ih =>
      intro s hs l hl
      by_cases h0 : s = []
      · subst h0; rw [linesT_nil] at hl; simp at hl
      · rw [linesT_step h0] at hl
        have h1 := (cut_fst_len 10 s).1
        have h2 := cut_shorter 10 h0
        rcases List.mem_cons.1 hl with rfl | hl
        · exact h1
        · have := ih _ (by omega) l hl; omega
  exact key _ s (Nat.le_refl _) l h
end

section
structure LinAt (w : World) (b : Nat) (x : Lin) : Prop where
  c0 : w.cell? ⟨b, 0, none⟩ = some (.int .i64 x.depth)
  c1 : w.cell? ⟨b, 1, none⟩ = some (.int .i64 x.kind)
  c2 : w.cell? ⟨b, 2, none⟩ = some (.int .i64 x.a)
  c3 : w.cell? ⟨b, 3, none⟩ = some (.int .i64 x.b)
  z : b < w.heap.size
  f : ∀ o, w.frozen? ⟨b, o, none⟩ = false
theorem LinAt.le {w w' : World} {b : Nat} {x : Lin} (h : LinAt w b x) (hl : Le w w') : LinAt w' b x := ⟨(hl.cell h.z).trans h.c0, (hl.cell h.z).trans h.c1, (hl.cell h.z).trans h.c2, (hl.cell h.z).trans h.c3, Nat.lt_of_lt_of_le h.z hl.size, fun o => (hl.frozen h.z).trans (h.f o)⟩
theorem LinAt.set0 {w : World} {b : Nat} {x : Lin} (h : LinAt w b x) (t : Int) : LinAt (w.setCell ⟨b, 0, none⟩ (.int .i64 t)) b ⟨t, x.kind, x.a, x.b⟩ :=
  ⟨cell_set_same h.c0, (cell_set_other (.inr (by decide))).trans h.c1, (cell_set_other (.inr (by decide))).trans h.c2, (cell_set_other (.inr (by decide))).trans h.c3, by simpa [World.setCell] using h.z, fun o => (World.frozen?_setCell ..).trans (h.f o)⟩
theorem LinAt.set1 {w : World} {b : Nat} {x : Lin} (h : LinAt w b x) (t : Int) : LinAt (w.setCell ⟨b, 1, none⟩ (.int .i64 t)) b ⟨x.depth, t, x.a, x.b⟩ :=
  ⟨(cell_set_other (.inr (by decide))).trans h.c0, cell_set_same h.c1, (cell_set_other (.inr (by decide))).trans h.c2, (cell_set_other (.inr (by decide))).trans h.c3, by simpa [World.setCell] using h.z, fun o => (World.frozen?_setCell ..).trans (h.f o)⟩
theorem LinAt.set2 {w : World} {b : Nat} {x : Lin} (h : LinAt w b x) (t : Int) : LinAt (w.setCell ⟨b, 2, none⟩ (.int .i64 t)) b ⟨x.depth, x.kind, t, x.b⟩ :=
  ⟨(cell_set_other (.inr (by decide))).trans h.c0, (cell_set_other (.inr (by decide))).trans h.c1, cell_set_same h.c2, (cell_set_other (.inr (by decide))).trans h.c3, by simpa [World.setCell] using h.z, fun o => (World.frozen?_setCell ..).trans (h.f o)⟩
theorem LinAt.set3 {w : World} {b : Nat} {x : Lin} (h : LinAt w b x) (t : Int) : LinAt (w.setCell ⟨b, 3, none⟩ (.int .i64 t)) b ⟨x.depth, x.kind, x.a, t⟩ :=
  ⟨(cell_set_other (.inr (by decide))).trans h.c0, (cell_set_other (.inr (by decide))).trans h.c1, (cell_set_other (.inr (by decide))).trans h.c2, cell_set_same h.c3, by simpa [World.setCell] using h.z, fun o => (World.frozen?_setCell ..).trans (h.f o)⟩
theorem LinAt.other {w : World} {b q o : Nat} {x : Lin} {u : Value} (h : LinAt w b x) (hq : q ≠ b) : LinAt (w.setCell ⟨q, o, none⟩ u) b x :=
  ⟨(cell_set_other (.inl (by omega))).trans h.c0, (cell_set_other (.inl (by omega))).trans h.c1, (cell_set_other (.inl (by omega))).trans h.c2, (cell_set_other (.inl (by omega))).trans h.c3, by simpa [World.setCell] using h.z, fun o => (World.frozen?_setCell ..).trans (h.f o)⟩
theorem linAt_new (w : World) (d k a b : Int) (T : TypeId) : LinAt (w.alloc (.cells #[.int .i64 d, .int .i64 k, .int .i64 a, .int .i64 b] T)) w.heap.size ⟨d, k, a, b⟩ := by
  refine ⟨?_, ?_, ?_, ?_, by simp, fun o => World.frozen?_alloc_at _ _ _ _ rfl⟩ <;> (rw [World.cell?_alloc_at _ _ _ _ rfl]; rfl)
def LinO (x : Lin) (w : World) (e : Ending) (w' : World) : Prop := e = .returned (.agg #[.int .i64 x.depth, .int .i64 x.kind, .int .i64 x.a, .int .i64 x.b]) ∧ Le w w'
theorem find_boundL (s : ByteArray) (L : List Cls) : -1 ≤ findN L s 0 ∧ findN L s 0 ≤ L.length := by
  rcases findN_spec s L 0 with ⟨h, _⟩ | ⟨j, hj, h, _⟩ <;> rw [h] <;> omega
theorem lin_okL {d k a b : Int} (h0 : 0 ≤ d ∧ d ≤ 1048576) (h1 : -1 ≤ k ∧ k ≤ 12) (h2 : -9223372036854775808 ≤ a ∧ a ≤ 9223372036854775807) (h3 : -9223372036854775808 ≤ b ∧ b ≤ 9223372036854775807) : Enc.ok (⟨d, k, a, b⟩ : Lin) :=
  ⟨by show _ ≤ d; omega, by show d ≤ _; omega, by show _ ≤ k; omega, by show k ≤ _; omega, h2.1, h2.2, h3.1, h3.2⟩
section
variable {xs : List Cls} {l : List UInt8}
theorem pLI_1 (h : lkW (atW (splitL 32 (l.drop (spN l))) 0) = 1 ∨ lkW (atW (splitL 32 (l.drop (spN l))) 0) = 4 ∨ lkW (atW (splitL 32 (l.drop (spN l))) 0) = 12) : pLI xs l = ⟨spN l, lkW (atW (splitL 32 (l.drop (spN l))) 0), atI (atW (splitL 32 (l.drop (spN l))) 1), 0⟩ := by unfold pLI; dsimp only; rw [if_pos h]
theorem pLI_11 (h : lkW (atW (splitL 32 (l.drop (spN l))) 0) = 11) : pLI xs l = ⟨spN l, lkW (atW (splitL 32 (l.drop (spN l))) 0), atI (atW (splitL 32 (l.drop (spN l))) 1), if atW (splitL 32 (l.drop (spN l))) 2 = lwQuiet then 1 else 0⟩ := by unfold pLI; dsimp only; rw [if_neg (by omega), if_pos h]
theorem pLI_2 (h : lkW (atW (splitL 32 (l.drop (spN l))) 0) = 2) : pLI xs l = ⟨spN l, lkW (atW (splitL 32 (l.drop (spN l))) 0), findN xs (tb (atW (splitL 32 (l.drop (spN l))) 1)) 0, atI (atW (splitL 32 (l.drop (spN l))) 2)⟩ := by unfold pLI; dsimp only; rw [if_neg (by omega), if_neg (by omega), if_pos h]
theorem pLI_8 (h : lkW (atW (splitL 32 (l.drop (spN l))) 0) = 8) : pLI xs l = ⟨spN l, lkW (atW (splitL 32 (l.drop (spN l))) 0), findN xs (tb (atW (splitL 32 (l.drop (spN l))) 1)) 0, 0⟩ := by unfold pLI; dsimp only; rw [if_neg (by omega), if_neg (by omega), if_neg (by omega), if_pos h]
theorem pLI_no (h1 : ¬ (lkW (atW (splitL 32 (l.drop (spN l))) 0) = 1 ∨ lkW (atW (splitL 32 (l.drop (spN l))) 0) = 4 ∨ lkW (atW (splitL 32 (l.drop (spN l))) 0) = 12)) (h2 : lkW (atW (splitL 32 (l.drop (spN l))) 0) ≠ 11) (h3 : lkW (atW (splitL 32 (l.drop (spN l))) 0) ≠ 2) (h4 : lkW (atW (splitL 32 (l.drop (spN l))) 0) ≠ 8) : pLI xs l = ⟨spN l, lkW (atW (splitL 32 (l.drop (spN l))) 0), 0, 0⟩ := by unfold pLI; dsimp only; rw [if_neg h1, if_neg h2, if_neg h3, if_neg h4]
end
theorem pLI_ok {xs : List Cls} {l : List UInt8} (hl : l.length ≤ 1048576) (h : xs.length ≤ 9223372036854775807) : Enc.ok (pLI xs l) := by
  have f := fun s => find_boundL s xs
  have hd := spN_le l
  have hk := lkW_rng (atW (splitL 32 (l.drop (spN l))) 0)
  unfold pLI
  dsimp only
  split
  · exact lin_okL (by omega) hk (atI_rng _) (by omega)
  split
  · refine lin_okL (by omega) hk (atI_rng _) ?_
    split <;> omega
  split
  · exact lin_okL (by omega) hk (by have := f (tb (atW (splitL 32 (l.drop (spN l))) 1)); omega) (atI_rng _)
  split
  · exact lin_okL (by omega) hk (by have := f (tb (atW (splitL 32 (l.drop (spN l))) 1)); omega) (by omega)
  · exact lin_okL (by omega) hk (by omega) (by omega)
theorem pLS_ok {xs : List Cls} {l : List UInt8} (hl : l.length ≤ 1048576) (h : xs.length ≤ 9223372036854775807) : Enc.ok (pLS xs l) := by
  have f := fun s => find_boundL s xs
  have r1 := fun x => rdN_rng (m := 100) (by omega) x
  have hd := spN_le l
  have hk := lkW_rng (atW (splitL 32 (l.drop (spN l))) 0)
  unfold pLS lnsA lnsB
  dsimp only
  refine lin_okL (by omega) hk ?_ ?_
  · split
    · have := f (tb (atW (splitL 32 (l.drop (spN l))) 1)); omega
    · split
      · have := r1 (atW (splitL 32 (l.drop (spN l))) 1); omega
      · omega
  · split
    · have := r1 (atW (splitL 32 (l.drop (spN l))) 2); omega
    · split <;> omega
end

section
theorem bldSize : (Tryz.prog.info? 52).map (·.size) = some 2 := by kernel_rfl
theorem bldLies : liesAt Tryz.prog Tryz.prog.depth 52 (2 / Tryz.prog.cellsOf 52) 0 52 1 = true := by kernel_rfl
theorem bldByte : (Tryz.prog.info? 5).map (fun i => (i.zero, i.size, i.bytes)) = some (some (.int .u8 0), 1, 1) := by kernel_rfl
/-- the builder at block b holds these bytes; its rows lie from B on -/
def Bl (B b : Nat) (l : List UInt8) (w : World) : Prop := Lib.IsBuilderF 52 5 B b (Lib.byteCells l) w
set_option maxRecDepth 100000 in
theorem copyCheck_any (B b : Nat) (bs : List Value) (w : World) (h : Lib.IsBuilderF 52 5 B b bs w) :
    Calls Tryz.prog 49 #[.pointer (some ⟨b, 0, none⟩)] w fun e w' => e = .returned (.tuple #[]) ∧ Lib.BuilderAtF 52 5 B b (.pointer (some ⟨b, 0, none⟩)) bs w' ∧ Below B w w' ∧ Lib.OthersKept 5 (some b) w w' := by
  obtain ⟨j, hj, hjs⟩ := Option.map_eq_some_iff.1 bldSize
  rcases h with h | h
  · have h0 := h.cell0
    have hsh := h.shape
    have hfz := h.frozen0
    refine Calls.mono (R := fun e w' => e = .returned (.tuple #[]) ∧ w' = w.setCell ⟨b, 0, none⟩ (.pointer (some ⟨b, 0, none⟩))) ?_ ?_
    · go_enter Tryz.func49, Tryz.ntmps49
      go_wp2
      rw [Lib.run_to_unsafe w ⟨b, 0, none⟩ Tryz.underlying50 Tryz.underlying117 hj (by rw [hjs]; decide) hsh (Nat.zero_lt_succ 1)]
      simp only [Result.andThen]
      rw [Oper.upon_value]
      go_wp2
      rw [run_callFunc_extern Tryz.func85 (by kernel_rfl) (by kernel_rfl) (by kernel_rfl) (e := Extern.AbiNoEscape.same) (by kernel_rfl)]
      rw [Lib.run_noEscape]
      simp only [Result.andThen]
      rw [Oper.upon_value]
      go_wp2
      rw [Lib.run_from_unsafe w ⟨b, 0, none⟩ Tryz.underlying117 Tryz.underlying50 hj hsh bldLies]
      simp only [Result.andThen]
      rw [Oper.upon_value]
      go_wp2
      go_end0
      exact ⟨rfl, rfl⟩
    · rintro e w' ⟨rfl, rfl⟩
      exact ⟨rfl, h.used _, (Below.refl B w).setCell (p := ⟨b, 0, none⟩) h.1 _, (Lib.OthersKept.refl _ _ w).setCell ⟨b, 0, none⟩ rfl _⟩
  · have h0 := h.cell0
    refine Calls.mono (R := fun e w' => e = .returned (.tuple #[]) ∧ w' = w) ?_ ?_
    · go_enter Tryz.func49, Tryz.ntmps49
      go_wp2
      rw [Lib.run_neq_ptr_same w _ Tryz.underlying50 hj]
      go_wp2
      go_end0
      exact ⟨rfl, rfl⟩
    · rintro e w' ⟨rfl, rfl⟩
      exact ⟨rfl, h, Below.refl B _, Lib.OthersKept.refl _ _ _⟩
set_option maxRecDepth 100000 in
theorem writeString_any (B b : Nat) (l : List UInt8) (s : ByteArray) (w : World) (h : Bl B b l w) (hl : l.length + s.size ≤ 1000000) (hBw : B ≤ w.heap.size) :
    Calls Tryz.prog 24 #[.pointer (some ⟨b, 0, none⟩), .string s] w fun e w' => e = .returned (.tuple #[.int .i64 s.size, .nilIface]) ∧ Bl B b (l ++ bl s) w' ∧ Below B w w' ∧ Lib.OthersKept 5 (some b) w w' := by
  obtain ⟨i0, hi, hz0, hz1, hz2⟩ := info_parts bldByte
  have hlen : (Lib.byteCells l).length = l.length := Lib.byteCells_length l
  go_enter Tryz.func24, Tryz.ntmps24
  go_wp2_with (go_at_call 49; refine (copyCheck_any B b _ _ h).mono ?_)
  rintro e w1 ⟨rfl, h1, hb1, hk1⟩
  obtain ⟨hB, v, hbk, hown, hne⟩ := h1
  have c0 : w1.cell? ⟨b, 0, none⟩ = some (.pointer (some ⟨b, 0, none⟩)) := by rw [Lib.cell_of_heap hbk]; rfl
  have c1 : w1.cell? ⟨b, 1, none⟩ = some v := by rw [Lib.cell_of_heap hbk]; rfl
  go_wp2_with (at_builtin; refine Lib.wpList_append_own_stringF _ rfl _ _ 22 9 rfl B 5 i0 Tryz.underlying22 Tryz.underlying9 hi hz0 hz1 hz2 _ _ _ rfl hown s rfl ?c3 ?c4 ?c5 ?_)
  case c3 => unfold maxLen; omega
  case c4 => omega
  case c5 => have := hb1.size; omega
  intro v' w2 hown' hgrow _
  have hlt : b < w1.heap.size := by
    rcases Nat.lt_or_ge b w1.heap.size with h' | h'
    · exact h'
    · simp [Array.getElem?_eq_none h'] at hbk
  have hb2 : w2.heap[b]? = some (.cells #[.pointer (some ⟨b, 0, none⟩), v] 52 (0, 0)) := by
    rw [hgrow.block b hlt (fun e => hne e.symm)]
    exact hbk
  have d0 : w2.cell? ⟨b, 0, none⟩ = some (.pointer (some ⟨b, 0, none⟩)) := by rw [Lib.cell_of_heap hb2]; rfl
  have d1 : w2.cell? ⟨b, 1, none⟩ = some v := by rw [Lib.cell_of_heap hb2]; rfl
  have f1 : w2.frozen? ⟨b, 1, none⟩ = false := Lib.frozen_of_heap hb2 1
  obtain ⟨ao, n', cap, rfl⟩ : ∃ ao n' cap, v' = .slice ao n' cap := by
    rcases hown'.2 with ⟨hv, _⟩ | ⟨g, cap, cur, fz, hv, _⟩
    · exact ⟨_, _, _, hv⟩
    · exact ⟨_, _, _, hv⟩
  go_wp2
  go_ret2
  refine ⟨rfl, ?_, ?_, (hk1.grown hgrow (Lib.ownsRowF_kind hown)).setCell ⟨b, 1, none⟩ rfl _⟩
  · refine Or.inr (Lib.BuilderAtF.put (T := 52) (e := 5) hB hb2 (bs' := Lib.byteCells (l ++ bl s)) ?_ (by decide))
    have e1 : Lib.byteCells (l ++ bl s) = Lib.byteCells l ++ Lib.strCells s := Lib.byteCells_append l (bl s)
    rw [e1, List.length_append, Lib.strCells_length, hlen]; exact hown'
  · exact (hb1.grown hgrow (by have := hb1.size; omega) (fun k hk => (hown.lt k hk).1)).setCell (p := ⟨b, 1, none⟩) hB _
theorem builderText_any (B b : Nat) (l : List UInt8) (w : World) (h : Bl B b l w) (hBw : B ≤ w.heap.size) :
    Calls Tryz.prog 27 #[.pointer (some ⟨b, 0, none⟩)] w fun e w' => e = .returned (.string (tb l)) ∧ Below B w w' :=
  (Tryz.Builder_String_any_k B b l w h hBw).mono fun _ _ ⟨he, _, hb, _⟩ => ⟨he, hb⟩
/-- a cell of a block that is no row of bytes and not the builder's -/
theorem kept_cell {b k : Nat} {w w' : World} (h : Lib.OthersKept 5 (some b) w w') {cs : Array Value} {T : TypeId} {fz : Nat × Nat} (hk : w.heap[k]? = some (.cells cs T fz)) (hb : k ≠ b) (hT : T ≠ 5) : w'.heap[k]? = some (.cells cs T fz) :=
  h k _ hk (fun e => hb (by injection e)) (fun c f e => hT (by injection e))
theorem bl_fresh (w : World) : Bl w.heap.size w.heap.size [] (w.alloc (.cells #[.pointer none, .slice none 0 0] 52)) := Lib.IsBuilderF.of (Lib.fresh_isBuilder 52 5 w)
end

section
theorem joinW_any (A : Option Addr) (n c : Nat) (L : List ByteArray) (w : World) (S : Sl w A n c L) (hl : (jn (L.map bl)).length ≤ 1000000) (hn : n ≤ 1000000) :
    Calls Tryz.prog 55 #[.slice A n c] w fun e w' => e = .returned (.string (tb (jn (L.map bl)))) ∧ Le w w' := by
  have HJ := Lib.hid (join_any A n c L w S hl hn)
  go_enter Tryz.func55, Tryz.ntmps55
  go_wp2_with fail
  refine HJ.out.mono ?_
  rintro e w1 ⟨rfl, hle⟩
  go_wp2
  go_ret
  exact ⟨rfl, hle⟩
/-- a list of texts that is written out -/
theorem sl_new2 (w : World) (a b : ByteArray) (T : TypeId) (ha : a.size ≤ 1000) (hb : b.size ≤ 1000) : Sl (w.alloc (.cells #[.string a, .string b] T)) (some ⟨w.heap.size, 0, none⟩) 2 2 [a, b] :=
  Sl.of_rowF (hp_new _ _ rfl) rfl rfl (by omega) (fun x hx => by simp at hx; rcases hx with rfl | rfl <;> (show _ ≤ 9223372036854775807; omega))
theorem sl_new3 (w : World) (a b d : ByteArray) (T : TypeId) (ha : a.size ≤ 1000) (hb : b.size ≤ 1000) (hd : d.size ≤ 1000) : Sl (w.alloc (.cells #[.string a, .string b, .string d] T)) (some ⟨w.heap.size, 0, none⟩) 3 3 [a, b, d] :=
  Sl.of_rowF (hp_new _ _ rfl) rfl rfl (by omega) (fun x hx => by simp at hx; rcases hx with rfl | rfl | rfl <;> (show _ ≤ 9223372036854775807; omega))
theorem join2 (w : World) (a b : ByteArray) (T : TypeId) (ha : a.size ≤ 1000) (hb : b.size ≤ 1000) (r : List UInt8) (hr : bl a ++ 32 :: bl b = r) :
    Calls Tryz.prog 55 #[.slice (some ⟨w.heap.size, 0, none⟩) 2 2] (w.alloc (.cells #[.string a, .string b] T)) fun e w' => e = .returned (.string (tb r)) ∧ Le w w' := by
  have e : jn ([a, b].map bl) = r := hr
  have hl : r.length ≤ 1000000 := by rw [← hr, List.length_append, List.length_cons, bl_len, bl_len]; omega
  refine (joinW_any _ 2 2 [a, b] _ (sl_new2 w a b T ha hb) (by rw [e]; exact hl) (by omega)).mono ?_
  rintro e' w' ⟨rfl, hle⟩
  exact ⟨by rw [e], (Le.new w _).trans hle⟩
theorem join3 (w : World) (a b d : ByteArray) (T : TypeId) (ha : a.size ≤ 1000) (hb : b.size ≤ 1000) (hd : d.size ≤ 1000) (r : List UInt8) (hr : bl a ++ 32 :: (bl b ++ 32 :: bl d) = r) :
    Calls Tryz.prog 55 #[.slice (some ⟨w.heap.size, 0, none⟩) 3 3] (w.alloc (.cells #[.string a, .string b, .string d] T)) fun e w' => e = .returned (.string (tb r)) ∧ Le w w' := by
  have e : jn ([a, b, d].map bl) = r := hr
  have hl : r.length ≤ 1000000 := by rw [← hr, List.length_append, List.length_cons, List.length_append, List.length_cons, bl_len, bl_len, bl_len]; omega
  refine (joinW_any _ 3 3 [a, b, d] _ (sl_new3 w a b d T ha hb hd) (by rw [e]; exact hl) (by omega)).mono ?_
  rintro e' w' ⟨rfl, hle⟩
  exact ⟨by rw [e], (Le.new w _).trans hle⟩
theorem Bl.below {B b : Nat} {l : List UInt8} {W W' : World} (h : Bl B b l W) (hb : Le W W') : Bl B b l W' := by
  rcases h with h | h
  · refine .inl ?_
    have hlt := h.lt
    obtain ⟨hB, v, hv, hown, hne⟩ := h
    exact ⟨hB, v, (Below.block hb b hlt).trans hv, hown.kept (row := none) ⟨hb.os, hb.tape, hb.output, hb.size, fun k hk _ => Below.block hb k hk⟩ (Classical.em _), hne⟩
  · refine .inr ?_
    have hlt := h.lt
    obtain ⟨hB, v, hv, hown, hne⟩ := h
    exact ⟨hB, v, (Below.block hb b hlt).trans hv, hown.kept (row := none) ⟨hb.os, hb.tape, hb.output, hb.size, fun k hk _ => Below.block hb k hk⟩ (Classical.em _), hne⟩
end
end Go.Proofs.YtkcnjoikdalgjaaGreatDoor
