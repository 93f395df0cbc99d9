/- one text of ItJ, ItQ -/
import Derived.Test.YtkpnajffeclmdaaCl12
import Derived.Test.YtkpnajffeclmdaaCl10
import Derived.Lib.SliceRun
import Derived.Maps.AppendAt
namespace Go.Proofs.Ytkpnajffeclmdaa
open Go.RowKit
set_option linter.unusedVariables false
section
open Go.RowKit Go.Shelf
/-- a leaf as a part right below a group -/
def tpL (x : Lef) : Prt := ⟨1, false, x.cls, x.code⟩
def flG (g : List Prt) : List Prt := cond (gAt g 0).group (gAt g 0 :: (leavesL g).map tpL) [gAt g 0]
def flX (xs : List Cls) (g : List Prt) : List Prt := cond (gOkS xs g) (flG g) []
theorem flX_of {xs : List Cls} {g : List Prt} {b : Bool} (h : gOkS xs g = b) : flX xs g = cond b (flG g) [] := by unfold flX; rw [h]
theorem flG_len (g : List Prt) : (flG g).length ≤ g.length + 1 := by
  have := leavesL_len g
  unfold flG
  cases (gAt g 0).group
  · simp
  · simp; omega
theorem flX_len (xs : List Cls) (g : List Prt) : (flX xs g).length ≤ 1048576 := by
  cases h : gOkS xs g
  · rw [flX_of h]; simp
  · have := gOk_len h
    have := flG_len g
    rw [flX_of h]; show (flG g).length ≤ _; omega
/-- a group whose first part is a leaf is that leaf -/
theorem leaf_alone {xs : List Cls} {g : List Prt} (G : GoodG xs g) (h : (gAt g 0).group = false) : g = [gAt g 0] := by
  have hl := G.len
  by_cases h1 : g.length = 1
  · obtain ⟨x, rfl⟩ := List.length_eq_one_iff.1 h1
    rfl
  · have hs := G.step 1 (Nat.le_refl _) (by omega)
    have hd := G.deep 1 (Nat.le_refl _) (by omega)
    rw [show 1 - 1 = 0 from rfl, h, G.first] at hs
    simp at hs
    omega
set_option maxRecDepth 100000 in
theorem clonePart_any (A : Option Addr) (m c : Nat) (g : List Prt) (w : World) (hG : Sl w A m c g) (hm : m ≤ 2097152) :
    Calls Try.prog 50 #[.slice A m c] w fun e w' => ∃ v, e = .returned v ∧ Owd 57 w w' v g ∧ Le w w' := by
  obtain ⟨i0, hi, hz0, hz1, hz2⟩ := info_parts infoPrtS
  have hlen := hG.len
  have hokA := Lib.hid hG.ok
  have q22 : ∀ (w : World) (a : Option Addr) (n c n' c' : Nat), (binOp .eql 26 (.slice a n c) (.slice none n' c')).run Try.prog w = .ok (.bool a.isNone) w := fun w a n c n' c' => Lib.run_eql_slice_nil w _ _ a n c n' c' Try.underlying26
  cases A with
  | none =>
    have h0 : g = [] := by
      rcases Nat.eq_zero_or_pos m with h0 | h0
      · exact List.eq_nil_of_length_eq_zero (by omega)
      · obtain ⟨b, off, h, _⟩ := hG.at_ h0; cases h
    subst h0
    go_enter Try.func50, Try.ntmps50
    go_wp2
    go_ret
    exact ⟨_, rfl, Owd.nil _ _ _, Le.refl _⟩
  | some ad =>
    go_enter Try.func50, Try.ntmps50
    go_wp2_with (at_builtin; refine wpList_append_sl rfl (.tmp 5) (.tmp 6) 26 rfl (w.heap.size) 57 i0 _ 32 Try.underlying26 hi hz0 hz1 hz2 rfl (.slice (some ⟨w.heap.size, 0, none⟩) 0 0) 0 ([] : List Prt) rfl (own_empty (by simp) (by simp)) (some ad) m c g rfl (hG.alloc _) (by unfold maxLen; omega) (by omega) (by simp) ?_; intro v1 w1 O1 hg1 _; simp only [Nat.zero_add, List.nil_append] at O1; have L1 := ((Le.refl _).alloc _).grown hg1 (fun k hk => by simp [Value.ownBlock] at hk; omega); clear hg1)
    go_ret
    have hd : Owd 57 w w1 v1 g := ⟨by rw [hlen]; exact O1, hokA.out⟩
    exact ⟨_, rfl, hd, L1⟩
theorem cell_four_newL (w : World) (x y z u : Value) (t : TypeId) : ∀ j v, [x, y, z, u][j]? = some v → (w.alloc (.cells #[x, y, z, u] t)).cell? ((⟨w.heap.size, 0, none⟩ : Addr).add j) = some v := by
  intro j v hj
  match j, hj with
  | 0, hj => simp at hj; subst hj; simp [Addr.add]
  | 1, hj => simp at hj; subst hj; simp [Addr.add]
  | 2, hj => simp at hj; subst hj; simp [Addr.add]
  | 3, hj => simp at hj; subst hj; simp [Addr.add]
  | _ + 4, hj => simp at hj
abbrev flC (p : Prt) (pre : List LfT) : List Value := (p :: (pre.map (·.1)).map tpL).flatMap Enc.cells
theorem flC_snoc (p : Prt) (pre : List LfT) (x : LfT) : flC p (pre ++ [x]) = flC p pre ++ [.int .i64 1, .bool false, .int .i64 x.1.cls, .int .i64 x.1.code] := by
  unfold flC
  rw [List.map_append, List.map_append, ← List.cons_append, List.flatMap_append]; rfl
theorem flG_ok {w : World} {A : Option Addr} {m c : Nat} {g : List Prt} (S : Sl w A m c g) (h0 : 0 < g.length) : ∀ x ∈ gAt g 0 :: (leavesL g).map tpL, Enc.ok x := by
  intro x hx
  rcases List.mem_cons.1 hx with rfl | hx
  · rw [gAt_at h0]; exact S.ok _ (List.getElem_mem h0)
  · obtain ⟨y, hy, rfl⟩ := List.mem_map.1 hx
    have h := leaves_ok S y hy
    exact ⟨by show (-9223372036854775808 : Int) ≤ 1; omega, by show (1 : Int) ≤ 9223372036854775807; omega, h.1, h.2.1, h.2.2.1, h.2.2.2⟩
attribute [local go_sem] Oper.semAt_some in
theorem own_oneP (w : World) (h : Prt) {b : Nat} (hb : b ≤ w.heap.size) : (w.alloc (.cells #[.int .i64 h.depth, .bool h.group, .int .i64 h.cls, .int .i64 h.code] 57)).ownsRow b 57 4 (.slice (some ⟨w.heap.size, 0, none⟩) 1 1) 1 (([h] : List Prt).flatMap Enc.cells) :=
  World.ownsRow_lit (base := b) (e := 57) (size := 4) w #[.int .i64 h.depth, .bool h.group, .int .i64 h.cls, .int .i64 h.code] 1 hb (by decide) (by simp)
theorem leavesL_one {g : List Prt} (h0 : 0 < g.length) (hg : (gAt g 0).group = true) : leavesL (g.take 1) = [] := by
  rw [gAt_at h0] at hg
  have := leavesL_take h0
  rw [hg, if_pos rfl] at this
  simpa [leavesL] using this
end

section
/-- parts that are deeper by a number -/
def shiftL (g : List Prt) (d : Int) : List Prt := g.map (fun p => { p with depth := p.depth + d })
theorem shiftL_len (g : List Prt) (d : Int) : (shiftL g d).length = g.length := List.length_map ..
theorem shift_set {g : List Prt} {k : Nat} (h : k < g.length) (d : Int) : (shiftL (g.take k) d ++ g.drop k).set k { g[k] with depth := g[k].depth + d } = shiftL (g.take (k + 1)) d ++ g.drop (k + 1) := by
  have hl : (shiftL (g.take k) d).length = k := by rw [shiftL_len, List.length_take]; omega
  rw [List.set_append_right _ _ (by omega), hl, Nat.sub_self, List.drop_eq_getElem_cons h, List.set_cons_zero, List.take_succ_eq_append_getElem h]
  unfold shiftL
  rw [List.map_append, List.append_assoc]; rfl
theorem shift_ok {g : List Prt} {d : Int} (hd : ∀ p ∈ g, -1000 ≤ p.depth ∧ p.depth ≤ 1000) (hb : -1000 ≤ d ∧ d ≤ 1000) (ok : ∀ x ∈ g, Enc.ok x) : ∀ x ∈ shiftL g d, Enc.ok x := by
  intro x hx
  obtain ⟨p, hp, rfl⟩ := List.mem_map.1 hx
  have h1 := hd p hp
  obtain ⟨a, b, c⟩ := ok p hp
  exact ⟨by show _ ≤ p.depth + d; omega, by show p.depth + d ≤ _; omega, c⟩
theorem own_set4 {w : World} {base gb n cap k : Nat} {T : TypeId} {g : List Prt} {d : Int} (h : w.ownsRow base T 4 (.slice (some ⟨gb, 0, none⟩) n cap) n ((shiftL (g.take k) d ++ g.drop k).flatMap Enc.cells)) (hk : k < g.length) :
    (w.setCell ⟨gb, k * 4, none⟩ (.int .i64 (g[k].depth + d))).ownsRow base T 4 (.slice (some ⟨gb, 0, none⟩) n cap) n ((shiftL (g.take (k + 1)) d ++ g.drop (k + 1)).flatMap Enc.cells) := by
  have h1 := (h.stored (k * 4) (.int .i64 (g[k].depth + d))).1
  have hl : (shiftL (g.take k) d).length = k := by rw [shiftL_len, List.length_take]; omega
  have hk2 : k < (shiftL (g.take k) d ++ g.drop k).length := by rw [List.length_append, hl, List.length_drop]; omega
  have e : (shiftL (g.take k) d ++ g.drop k)[k] = g[k] := by
    rw [List.getElem_append_right (by omega)]
    simp only [hl, Nat.sub_self]
    rw [List.getElem_drop]; rfl
  rw [flat_prt_depth _ k hk2, e, shift_set hk] at h1
  exact h1
set_option maxRecDepth 100000 in
theorem shiftParts_any (A : Option Addr) (m c : Nat) (g : List Prt) (d : Int) (w : World) (hG : Sl w A m c g) (hm : m ≤ 2097152) (hd : ∀ p ∈ g, -1000 ≤ p.depth ∧ p.depth ≤ 1000) (hb : -1000 ≤ d ∧ d ≤ 1000) :
    Calls Try.prog 58 #[.slice A m c, .int .i64 d] w fun e w' => ∃ v, e = .returned v ∧ Owd 57 w w' v (shiftL g d) ∧ Le w w' := by
  have HOK := Lib.hid (shift_ok hd hb hG.ok)
  have hlen := hG.len
  have hmx : g.length ≤ 2097152 := by omega
  clear hlen
  go_enter Try.func58, Try.ntmps58
  go_wp2_with fail
  refine (clonePart_any A m c g _ hG hm).mono ?_
  rintro e w1 ⟨v, rfl, O, hle⟩
  obtain ⟨A1, c1, rfl, -, -⟩ := O.form (by decide)
  have R := O.row
  clear O hG
  go_wp2
  go_loopw [11] (fun i wr => ∃ k : Nat, k ≤ g.length ∧ i = .int .i64 k ∧ wr.ownsRow w.heap.size 57 4 (.slice A1 g.length c1) g.length ((shiftL (g.take k) d ++ g.drop k).flatMap Enc.cells) ∧ Le w wr) (fun i _ => g.length - (intOf i).toNat)
  case atStart => exact ⟨0, Nat.zero_le _, rfl, R, hle⟩
  case round =>
    obtain ⟨k, hk, rfl, hown, L1⟩ := hrel
    clear R
    by_cases hlt : k < g.length
    · have hfl : ((shiftL (g.take k) d).flatMap (Enc.cells (α := Prt))).length = k * 4 := by rw [flat_len, shiftL_len, List.length_take]; show _ * 4 = _; rw [Nat.min_eq_left (by omega)]
      have hdk := hd g[k] (List.getElem_mem hlt)
      have hw1 : IntKind.i64.wrap (g[k].depth + d) = g[k].depth + d := IntWalk.i64_in _ (by omega)
      rcases hown.2 with ⟨h, h0'⟩ | ⟨gb, c', _, h, hgb, _⟩
      · omega
      · simp only [Value.slice.injEq, true_and] at h
        obtain ⟨rfl, rfl⟩ := h
        have hc0 : wr.cell? ⟨gb, k * 4, none⟩ = some (.int .i64 g[k].depth) := by
          rw [hown.cellAt _ (by omega), List.flatMap_append, List.getElem?_append_right (by omega), hfl, List.drop_eq_getElem_cons hlt, Nat.sub_self]; rfl
        have hf0 := hown.frozenAt (k * 4)
        have HN := Lib.hid (own_set4 hown hlt)
        have HL := Lib.hid (L1.setCell (b := gb) (o := k * 4) hgb (.int .i64 (g[k].depth + d)))
        clear hfl hown
        go_wp2
        go_roundw
        case rel => exact ⟨k + 1, by omega, by go_num, HN.out, HL.out⟩
        case measure => simp [intOf]; omega
    · obtain rfl : k = g.length := by omega
      have HO : Hid (Owd 57 w wr (.slice A1 g.length c1) (shiftL g d)) := by
        refine ⟨?_, HOK.out⟩
        rw [List.take_length, List.drop_length, List.append_nil] at hown
        rw [shiftL_len]; exact hown
      clear hown
      go_wp2
      go_ret
      exact ⟨_, rfl, HO.out, L1⟩
set_option maxRecDepth 100000 in
theorem deeper_any (A : Option Addr) (m c : Nat) (g : List Prt) (d : Int) (w : World) (hG : Sl w A m c g) (hm : m ≤ 2097152) (hd : ∀ p ∈ g, -1000 ≤ p.depth ∧ p.depth ≤ 1000) (hb : -1000 ≤ d ∧ d ≤ 1000) :
    Calls Try.prog 55 #[.slice A m c, .int .i64 d] w fun e w' => ∃ v, e = .returned v ∧ Owd 57 w w' v (shiftL g d) ∧ Le w w' := by
  obtain ⟨i0, hi, hz0, hz1, hz2⟩ := info_parts infoPrtS
  have HOK := Lib.hid (shift_ok hd hb hG.ok)
  obtain rfl := hG.len
  go_enter Try.func55, Try.ntmps55
  go_wp2_with (at_builtin; refine wpList_append_sl rfl _ _ 26 rfl w.heap.size 57 i0 _ 32 Try.underlying26 hi hz0 hz1 hz2 rfl (.slice (some ⟨w.heap.size, 0, none⟩) 0 0) 0 ([] : List Prt) rfl (own_empty (by simp) (by simp)) A g.length c g rfl (hG.alloc _) (by unfold maxLen; omega) (by omega) (by simp) ?_; intro v1 w1 O1 hg1 _; simp only [Nat.zero_add, List.nil_append] at O1; have L1 := ((Le.refl w).alloc _).grown hg1 (fun k hk => by simp [Value.ownBlock] at hk; omega); clear hg1)
  obtain ⟨A1, c1, rfl⟩ := own_form O1
  clear hG
  go_loopw [6] (fun i wr => ∃ k : Nat, k ≤ g.length ∧ i = .int .i64 k ∧ wr.ownsRow w.heap.size 57 4 (.slice A1 g.length c1) g.length ((shiftL (g.take k) d ++ g.drop k).flatMap Enc.cells) ∧ Le w wr) (fun i _ => g.length - (intOf i).toNat)
  case atStart => exact ⟨0, Nat.zero_le _, rfl, O1, L1⟩
  case round =>
    obtain ⟨k, hk, rfl, hown, L2⟩ := hrel
    clear O1 L1
    by_cases hlt : k < g.length
    · have hfl : ((shiftL (g.take k) d).flatMap (Enc.cells (α := Prt))).length = k * 4 := by rw [flat_len, shiftL_len, List.length_take]; show _ * 4 = _; rw [Nat.min_eq_left (by omega)]
      have hdk := hd g[k] (List.getElem_mem hlt)
      have hw1 : IntKind.i64.wrap (g[k].depth + d) = g[k].depth + d := IntWalk.i64_in _ (by omega)
      rcases hown.2 with ⟨h, h0'⟩ | ⟨gb, c', _, h, hgb, _⟩
      · omega
      · simp only [Value.slice.injEq, true_and] at h
        obtain ⟨rfl, rfl⟩ := h
        have hc0 : wr.cell? ⟨gb, k * 4, none⟩ = some (.int .i64 g[k].depth) := by
          rw [hown.cellAt _ (by omega), List.flatMap_append, List.getElem?_append_right (by omega), hfl, List.drop_eq_getElem_cons hlt, Nat.sub_self]; rfl
        have hf0 := hown.frozenAt (k * 4)
        have HN := Lib.hid (own_set4 hown hlt)
        have HL := Lib.hid (L2.setCell (b := gb) (o := k * 4) hgb (.int .i64 (g[k].depth + d)))
        clear hfl hown
        go_wp2
        go_roundw
        case rel => exact ⟨k + 1, by omega, by go_num, HN.out, HL.out⟩
        case measure => simp [intOf]; omega
    · obtain rfl : k = g.length := by omega
      have HO : Hid (Owd 57 w wr (.slice A1 g.length c1) (shiftL g d)) := by
        refine ⟨?_, HOK.out⟩
        rw [List.take_length, List.drop_length, List.append_nil] at hown
        rw [shiftL_len]; exact hown
      clear hown
      go_wp2
      go_ret
      exact ⟨_, rfl, HO.out, L2⟩
end
end Go.Proofs.Ytkpnajffeclmdaa
