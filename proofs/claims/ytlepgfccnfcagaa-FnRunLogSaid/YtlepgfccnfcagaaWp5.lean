/- one text of PhM, Bo, PhN, C, D, PhO, PhQ, PhW -/
import Derived.Test.YtlepgfccnfcagaaWp4
import Derived.Test.YtlepgfccnfcagaaWp1
import Derived.Test.YtlepgfccnfcagaaWp2
namespace Go.Proofs.Ytlepgfccnfcagaa
open Go.RowKit
set_option linter.unusedVariables false
section
def lnA (p : List Lin) (i : Nat) : Int := match p[i]? with | some x => x.a | none => 0
theorem lnA_at {p : List Lin} {i : Nat} (h : i < p.length) : lnA p i = p[i].a := by unfold lnA; rw [List.getElem?_eq_getElem h]
/-- the lines LnExcept of some lines, and their classes -/
def exF (p : List Lin) (L : List Nat) : List Nat := L.filter fun k => knd p k == 8
def exL (p : List Lin) (i : Nat) : List Nat := exF p (parts p i)
def clF (p : List Lin) (L : List Nat) : List Int := (exF p L).map (lnA p)
def clL (p : List Lin) (i : Nat) : List Int := clF p (parts p i)
theorem exs_len (p : List Lin) (L : List Nat) : exs p L = (exF p L).length := List.countP_eq_length_filter
theorem clF_len (p : List Lin) (L : List Nat) : (clF p L).length = (exF p L).length := by unfold clF; simp
theorem exF_snoc (p : List Lin) (L : List Nat) (k : Nat) : exF p (L ++ [k]) = exF p L ++ (if knd p k = 8 then [k] else []) := by
  unfold exF
  rw [List.filter_append]
  by_cases h : knd p k = 8
  · rw [if_pos h]; simp [h]
  · rw [if_neg h]; simp [h]
theorem exF_yes {p : List Lin} {L : List Nat} {q : Nat} (hq : q < L.length) (h : knd p L[q] = 8) : exF p (L.take (q + 1)) = exF p (L.take q) ++ [L[q]] := by
  rw [List.take_succ_eq_append_getElem hq, exF_snoc, if_pos h]
theorem exF_no {p : List Lin} {L : List Nat} {q : Nat} (hq : q < L.length) (h : knd p L[q] ≠ 8) : exF p (L.take (q + 1)) = exF p (L.take q) := by
  rw [List.take_succ_eq_append_getElem hq, exF_snoc, if_neg h, List.append_nil]
theorem clF_yes {p : List Lin} {L : List Nat} {q : Nat} (hq : q < L.length) (h : knd p L[q] = 8) : clF p (L.take (q + 1)) = clF p (L.take q) ++ [lnA p L[q]] := by
  unfold clF; rw [exF_yes hq h, List.map_append]; rfl
theorem clF_no {p : List Lin} {L : List Nat} {q : Nat} (hq : q < L.length) (h : knd p L[q] ≠ 8) : clF p (L.take (q + 1)) = clF p (L.take q) := by
  unfold clF; rw [exF_no hq h]
theorem exF_len (p : List Lin) (L : List Nat) : (exF p L).length ≤ L.length := List.length_filter_le _ _
theorem exF_take_len (p : List Lin) (L : List Nat) (q : Nat) : (exF p (L.take q)).length ≤ q := Nat.le_trans (exF_len _ _) (by rw [List.length_take]; omega)
theorem ptGo_lt (p : List Lin) (d : Int) : ∀ m k, ∀ x ∈ ptGo p d m k, x < p.length
  | 0, _, x, h => by simp [ptGo] at h
  | m + 1, k, x, h => by
    unfold ptGo at h
    split at h
    · rename_i hc
      rcases List.mem_cons.1 h with rfl | h
      · exact hc.1
      · exact ptGo_lt p d m _ x h
    · cases h
theorem parts_lt {p : List Lin} {i : Nat} (hi : i < p.length) : ∀ x ∈ parts p i, x < p.length := by
  intro x hx
  rcases List.mem_cons.1 hx with rfl | hx
  · exact hi
  · exact ptGo_lt _ _ _ _ x hx
theorem ptGo_len (p : List Lin) (d : Int) : ∀ m k, (ptGo p d m k).length ≤ m
  | 0, _ => Nat.le_refl _
  | m + 1, k => by
    unfold ptGo
    split
    · have := ptGo_len p d m (bEnd p k); simp; omega
    · simp
theorem parts_len (p : List Lin) (i : Nat) : (parts p i).length ≤ p.length + 1 := by
  have := ptGo_len p (dep p i) p.length i
  unfold parts; simp; omega
theorem nI_ok {L : List Nat} {n : Nat} (h : ∀ x ∈ L, x < n) (hn : n ≤ 1048576) : ∀ y ∈ nI L, Enc.ok y := fun y hy => by
  obtain ⟨x, hx, rfl⟩ := List.mem_map.1 hy
  have := h x hx
  exact ⟨by omega, by omega⟩
theorem nI_snoc (L : List Nat) (k : Nat) : nI (L ++ [k]) = nI L ++ [(k : Int)] := by unfold nI; simp
theorem clF_ok {p : List Lin} {L : List Nat} (hok : ∀ x ∈ p, Enc.ok x) (hL : ∀ x ∈ L, x < p.length) : ∀ y ∈ clF p L, Enc.ok y := fun y hy => by
  obtain ⟨x, hx, rfl⟩ := List.mem_map.1 hy
  have hx' := hL x (List.mem_filter.1 hx).1
  rw [lnA_at hx']
  have := hok _ (List.getElem_mem hx')
  exact ⟨this.2.2.2.2.1, this.2.2.2.2.2.1⟩
/-- two rows of the call's own in two blocks -/
def Apart (v u : Value) : Prop := v.ownBlock = none ∨ v.ownBlock ≠ u.ownBlock
theorem Apart.symm {v u : Value} (h : Apart v u) : Apart u v := by
  rcases h with h | h
  · unfold Apart; rw [h]
    cases u.ownBlock
    · exact .inl rfl
    · exact .inr (by simp)
  · exact .inr (Ne.symm h)
theorem Apart.new {w : World} {v u v1 : Value} {base size n m : Nat} {e : TypeId} {xs : List Value} (h : Apart v u) (hu : w.ownsRow base e size u n xs) (hat : v1.ownBlock = v.ownBlock ∨ v1.ownBlock = some m) (hm : w.heap.size ≤ m) : Apart v1 u := by
  rcases hat with h1 | h1
  · unfold Apart; rw [h1]; exact h
  · refine .inr fun e => ?_
    rw [h1] at e
    have := (hu.lt m e.symm).2
    omega
set_option maxHeartbeats 2000000 in
set_option maxRecDepth 100000 in
theorem exceptsOf_any (A : Option Addr) (n cap : Nat) (p : List Lin) (i : Nat) (hi : i < p.length) (hsm : p.length ≤ 1048576) (w : World) (hR : Sl w A n cap p) :
    Calls Try.prog 71 #[.slice A n cap, .int .i64 i] w fun e w' => ∃ v u, e = .returned (.tuple #[v, u]) ∧ Owd 3 w w' v (nI (exL p i)) ∧ Owd 3 w w' u (clL p i) ∧ Le w w' := by
  obtain rfl := hR.len
  have HOK := Lib.hid hR.ok
  have HPL := Lib.hid (parts_lt hi)
  have hpl := parts_len p i
  obtain ⟨i0, hq, hz0, hz1, hz2⟩ := info_parts intInfoB
  have HX1 : Hid (exL p i = exF p (parts p i)) := rfl
  have HX2 : Hid (clL p i = clF p (parts p i)) := rfl
  go_enter Try.func71, Try.ntmps71
  go_wp2_with fail
  refine (partsOf_any _ p.length cap p i hi hsm w hR).mono ?_
  rintro e w1 ⟨v, rfl, D1, hl1⟩
  obtain ⟨A1, q1, rfl, S1, hB1⟩ := D1.form (by decide)
  have T1 := hR.le hl1
  generalize parts p i = P at *
  clear hR D1
  rw [nI_len] at *
  go_wp2
  go_loopw [4, 5, 7, 12] (fun v u _ q wr => ∃ (k : Nat) (A' B' : Option Addr) (c' d' : Nat), k ≤ P.length ∧ q = .int .i64 k ∧ v = .slice A' (exF p (P.take k)).length c' ∧ u = .slice B' (exF p (P.take k)).length d' ∧
      wr.ownsRow w1.heap.size 3 1 v (exF p (P.take k)).length ((nI (exF p (P.take k))).flatMap Enc.cells) ∧ wr.ownsRow w1.heap.size 3 1 u (exF p (P.take k)).length ((clF p (P.take k)).flatMap Enc.cells) ∧
      Apart v u ∧ Le w1 wr) (fun _ _ _ q _ => P.length - (intOf q).toNat)
  case atStart => exact ⟨0, none, none, 0, 0, Nat.zero_le _, rfl, rfl, rfl, World.ownsRow_nil _ _ _ _, World.ownsRow_nil _ _ _ _, .inl rfl, Le.refl _⟩
  case round =>
    obtain ⟨k, A', B', c', d', hk, rfl, rfl, rfl, O1, O2, hne, L⟩ := hrel
    have SP := S1.le L
    have hfl := exF_take_len p P k
    have hLsz := L.size
    by_cases hlt : k < P.length
    · obtain ⟨b, off, rfl, hb, hc, -⟩ := S1.int_at (k := k) (by rw [nI_len]; exact hlt)
      replace hc := (L.cell hb).trans hc
      rw [nI_at hlt] at hc
      have hx := HPL.out P[k] (List.getElem_mem hlt)
      have HY8 : Hid (knd p P[k] = p[P[k]].kind) := knd_at hx
      have HA := Lib.hid (lnA_at hx)
      have HE1 := Lib.hid (exF_yes (p := p) hlt)
      have HE0 := Lib.hid (exF_no (p := p) hlt)
      have HC1 := Lib.hid (clF_yes (p := p) hlt)
      have HC0 := Lib.hid (clF_no (p := p) hlt)
      obtain ⟨b2, off2, rfl, hb2, -, d1, d2, -⟩ := T1.lin_at hx
      replace d1 := (L.cell hb2).trans d1
      replace d2 := (L.cell hb2).trans d2
      clear T1 S1 SP
      have hokA : Enc.ok p[P[k]].a := by
        have := HOK.out _ (List.getElem_mem hx)
        exact ⟨this.2.2.2.2.1, this.2.2.2.2.2.1⟩
      generalize p[P[k]].kind = kd at *
      generalize p[P[k]].a = va at *
      generalize P[k] = x at *
      have hx0 : (0 : Int) ≤ (x : Int) := by omega
      have hxn : (x : Int) < (p.length : Int) := by omega
      have hokx : Enc.ok (x : Int) := ⟨by omega, by omega⟩
      by_cases h8 : kd = 8
      · subst h8
        have N1 : Hid (exF p (P.take (k + 1)) = exF p (P.take k) ++ [x]) := HE1.out HY8.out
        have N2 : Hid (clF p (P.take (k + 1)) = clF p (P.take k) ++ [va]) := (HC1.out HY8.out).trans (by rw [HA.out])
        clear HE1 HE0 HC1 HC0
        generalize exF p (P.take k) = E at *
        generalize clF p (P.take k) = C at *
        have HB := Lib.hid (fun j hj => (O1.lt j hj).1)
        have HB2 := Lib.hid (fun j hj => (O2.lt j hj).1)
        go_wp2_with (first | (at_builtin; refine wpList_append_sl rfl _ _ 29 rfl w1.heap.size 3 i0 _ 8 Try.underlying29 hq hz0 hz1 hz2 rfl (.slice A' E.length c') E.length (nI E) rfl (O1.alloc _) _ 1 1 [(x : Int)] rfl (sl_one (x : Int) rfl hokx rfl) (by unfold maxLen; omega) (by omega) (L.alloc _).size ?_; intro v1 w3 OA hgA hatA; have L3 := (L.alloc _).grown hgA HB.out; have d3 := (L3.cell hb2).trans ((L.cell hb2).symm.trans d2); have OB := (O2.alloc _).kept hgA hne.symm; have hn3 := hne.new (O2.alloc _) hatA (Nat.le_refl _); have g3 := L3.size; clear O1 hgA hatA) | (at_builtin; refine wpList_append_sl rfl _ _ 29 rfl w1.heap.size 3 i0 _ 8 Try.underlying29 hq hz0 hz1 hz2 rfl (.slice B' E.length d') E.length C rfl (OB.alloc _) _ 1 1 [va] rfl (sl_one va rfl hokA rfl) (by unfold maxLen; omega) (by omega) (L3.alloc _).size ?_; intro u1 w4 OC hgC hatC; have L4 := (L3.alloc _).grown hgC HB2.out; have OD := (OA.alloc _).kept hgC hn3; have hn4 := (hn3.symm.new (OA.alloc _) hatC (Nat.le_refl _)).symm; clear OB hgC hatC))
        obtain ⟨A5, q5, rfl⟩ := own_form OD
        obtain ⟨A6, q6, rfl⟩ := own_form OC
        go_roundw
        case rel =>
          refine ⟨k + 1, A5, A6, q5, q6, by omega, by go_num, by rw [N1.out]; simp, by rw [N1.out]; simp, ?_, ?_, hn4, L4⟩
          · rw [N1.out, nI_snoc, List.length_append]; exact OD
          · rw [N1.out, N2.out, List.length_append]; exact OC
        case measure => simp [intOf]; omega
      · have h8b := bf h8
        have N1 : Hid (exF p (P.take (k + 1)) = exF p (P.take k)) := HE0.out (by rw [HY8.out]; exact h8)
        have N2 : Hid (clF p (P.take (k + 1)) = clF p (P.take k)) := HC0.out (by rw [HY8.out]; exact h8)
        go_wp2
        go_roundw
        case rel => exact ⟨k + 1, A', B', c', d', by omega, by go_num, by rw [N1.out], by rw [N1.out], by rw [N1.out]; exact O1, by rw [N1.out, N2.out]; exact O2, hne, L⟩
        case measure => simp [intOf]; omega
    · obtain rfl : k = P.length := by omega
      have hokE : Hid (∀ y ∈ nI (exF p P), Enc.ok y) := nI_ok (fun x hx => HPL.out x (List.mem_filter.1 hx).1) hsm
      have hokC : Hid (∀ y ∈ clF p P, Enc.ok y) := clF_ok HOK.out HPL.out
      rw [List.take_length] at O1 O2
      have HD1 : Hid (Owd 3 w wr (.slice A' (exF p (P.take P.length)).length c') (nI (exF p P))) := by
        show Owd _ _ _ _ _
        rw [List.take_length]
        exact ⟨own_mono (by rw [nI_len]; exact O1) hl1.size, hokE.out⟩
      have HD2 : Hid (Owd 3 w wr (.slice B' (exF p (P.take P.length)).length d') (clF p P)) := by
        show Owd _ _ _ _ _
        rw [List.take_length]
        exact ⟨own_mono (by rw [clF_len]; exact O2) hl1.size, hokC.out⟩
      clear O1 O2
      go_wp2
      exact bodyPost_ret (v := .tuple #[.slice A' (exF p (P.take P.length)).length c', .slice B' (exF p (P.take P.length)).length d']) (by simp [results, Try.results71, go_sem]) rfl ⟨_, _, rfl, by rw [HX1.out]; exact HD1.out, by rw [HX2.out]; exact HD2.out, hl1.trans L⟩
end

section
instance instEncBool : Enc Bool := ⟨1, fun x => [.bool x], fun _ => True, fun _ => rfl⟩
theorem flat_set {α : Type} [Enc α] (y : α) (v : Value) (j : Nat) (hj : j < Enc.size α) : ∀ (xs : List α) (k : Nat) (hk : k < xs.length), (Enc.cells xs[k]).set j v = Enc.cells y → (xs.flatMap Enc.cells).set (k * Enc.size α + j) v = (xs.set k y).flatMap Enc.cells := by
  intro xs
  induction xs with
  | nil => intro k hk; simp at hk
  | cons x r ih =>
    intro k hk hy
    rw [List.flatMap_cons]
    cases k with
    | zero =>
      rw [Nat.zero_mul, Nat.zero_add, List.set_append_left _ _ (by rw [Enc.len]; exact hj)]
      simp only [List.getElem_cons_zero] at hy
      rw [hy]; rfl
    | succ k =>
      have hle : (Enc.cells x).length ≤ (k + 1) * Enc.size α + j := by rw [Enc.len, Nat.succ_mul]; omega
      have hsub : (k + 1) * Enc.size α + j - (Enc.cells x).length = k * Enc.size α + j := by rw [Enc.len, Nat.succ_mul]; omega
      rw [List.set_append_right _ _ hle, hsub, ih k (by simpa using hk) (by simpa using hy)]
      rfl
theorem boolInfo : (Try.prog.info? 4).map (fun i => (i.zero, i.size, i.bytes)) = some (some (.bool false), 1, 1) := by kernel_rfl
theorem made_bools (n : Nat) : (madeCells (Value.bool false).cells (n * 1)).toList = ((List.replicate n false).flatMap (Enc.cells (α := Bool))) := by
  have : ∀ n, (List.replicate n false).flatMap (Enc.cells (α := Bool)) = List.replicate n (.bool false) := by
    intro n
    induction n with
    | zero => rfl
    | succ n ih => rw [List.replicate_succ, List.flatMap_cons, ih, List.replicate_succ]; rfl
  rw [this]
  refine List.ext_getElem (by simp [madeCells]) (fun i h1 h2 => ?_)
  simp [madeCells, Value.cells, Nat.mod_one]
theorem flat_bool (xs : List Bool) (i : Nat) (hi : i < xs.length) (b : Bool) : (xs.flatMap (Enc.cells (α := Bool))).set i (.bool b) = (xs.set i b).flatMap Enc.cells := by
  have := flat_set b (.bool b) 0 (by decide) xs i hi rfl
  simpa [Enc.size] using this
theorem cell_bool {w : World} {base n g c : Nat} {fd : List Bool} (h : w.ownsRow base 4 1 (.slice (some ⟨g, 0, none⟩) n c) n (fd.flatMap Enc.cells)) {k : Nat} (hk : k < fd.length) (hl : fd.length = n) : w.cell? ⟨g, k, none⟩ = some (.bool fd[k]) := by
  rw [h.cellAt k (by omega), show (fd.flatMap (Enc.cells (α := Bool)))[k]? = _ from by simpa [Enc.size] using flat_at fd k hk 0 (by decide)]; rfl
end

section
/-- x is marked as a part of a try that begins ahead of k -/
def mkT (p : List Lin) (k x : Nat) : Bool := (List.range k).any fun j => knd p j == 7 && (parts p j).contains x
def mkL (p : List Lin) (k : Nat) : List Bool := (List.range p.length).map (mkT p k)
/-- marks and those of the first parts of a list -/
def mkP (M : List Bool) (P : List Nat) (q : Nat) : List Bool := M.mapIdx fun x b => b || (P.take q).contains x
theorem mkL_len (p : List Lin) (k : Nat) : (mkL p k).length = p.length := by unfold mkL; simp
theorem mkL_0 (p : List Lin) : mkL p 0 = List.replicate p.length false := by
  refine List.ext_getElem (by simp [mkL]) fun x h1 h2 => ?_
  simp [mkL, mkT]
theorem mkL_at {p : List Lin} {k x : Nat} (h : x < (mkL p k).length) : (mkL p k)[x] = mkT p k x := by simp [mkL]
theorem mkP_len (M : List Bool) (P : List Nat) (q : Nat) : (mkP M P q).length = M.length := by simp [mkP]
theorem mkP_at {M : List Bool} {P : List Nat} {q x : Nat} (h : x < (mkP M P q).length) : (mkP M P q)[x] = (M[x]'(by rw [mkP_len] at h; exact h) || (P.take q).contains x) := by simp [mkP]
theorem mkP_0 (M : List Bool) (P : List Nat) : mkP M P 0 = M := by
  refine List.ext_getElem (mkP_len M P 0) fun x h1 h2 => ?_
  rw [mkP_at h1, List.take_zero]; simp
theorem mkP_succ {M : List Bool} {P : List Nat} {q : Nat} (hq : q < P.length) : mkP M P (q + 1) = (mkP M P q).set P[q] true := by
  refine List.ext_getElem (by rw [List.length_set, mkP_len, mkP_len]) fun x h1 h2 => ?_
  rw [List.getElem_set, mkP_at h1, List.take_succ_eq_append_getElem hq]
  by_cases e : P[q] = x
  · rw [if_pos e, Bool.or_eq_true]
    exact .inr (by rw [List.contains_iff_mem, List.mem_append]; exact .inr (by rw [e]; exact List.mem_singleton.2 rfl))
  · rw [if_neg e, mkP_at]
    congr 1
    rw [Bool.eq_iff_iff, List.contains_iff_mem, List.contains_iff_mem, List.mem_append, List.mem_singleton]
    exact ⟨fun h => h.resolve_right fun h => e h.symm, .inl⟩
theorem mkT_succ (p : List Lin) (k x : Nat) : mkT p (k + 1) x = (mkT p k x || (knd p k == 7 && (parts p k).contains x)) := by
  unfold mkT; rw [List.range_succ, List.any_append]; simp
theorem mkL_yes {p : List Lin} {k : Nat} (h : knd p k = 7) : mkL p (k + 1) = mkP (mkL p k) (parts p k) (parts p k).length := by
  refine List.ext_getElem (by rw [mkP_len, mkL_len, mkL_len]) fun x h1 h2 => ?_
  rw [mkL_at, mkP_at, mkL_at, List.take_length, mkT_succ, h]; simp
theorem mkL_no {p : List Lin} {k : Nat} (h : knd p k ≠ 7) : mkL p (k + 1) = mkL p k := by
  refine List.ext_getElem (by rw [mkL_len, mkL_len]) fun x h1 h2 => ?_
  rw [mkL_at, mkL_at, mkT_succ]
  have : (knd p k == 7) = false := by simpa using h
  rw [this]; simp
/-- what the program asks of the tries at a line -/
def trL (p : List Lin) (i : Nat) : Bool := (knd p i != 7 || ((parts p i).length != 1 && decide ((exL p i).length ≤ 6))) && (!fol (knd p i) || mkT p i i)
def trB (p : List Lin) : Bool := (List.range p.length).all (trL p)
theorem trB_iff (p : List Lin) : trB p = true ↔ triesI p := by
  unfold trB triesI
  rw [List.all_eq_true]
  constructor
  · intro H i hi
    have h := H i (List.mem_range.2 hi)
    unfold trL mkT at h
    rw [Bool.and_eq_true] at h
    refine ⟨fun h7 => ?_, fun hf => ?_⟩
    · have := h.1
      rw [h7] at this
      simp at this
      rw [exs_len]
      exact this
    · have := h.2
      rw [hf] at this
      simp at this
      obtain ⟨j, hj, h7, hm⟩ := this
      exact ⟨j, hj, h7, hm⟩
  · intro H i hi
    have h := H i (List.mem_range.1 hi)
    unfold trL mkT
    rw [Bool.and_eq_true]
    constructor
    · by_cases h7 : knd p i = 7
      · have := h.1 h7
        rw [exs_len] at this
        simp [h7]
        exact this
      · simp [h7]
    · cases hf : fol (knd p i)
      · rfl
      · obtain ⟨j, hj, h7, hm⟩ := h.2 hf
        simp
        exact ⟨j, hj, h7, hm⟩
theorem trB_no {p : List Lin} {i : Nat} (hi : i < p.length) (h : trL p i = false) : trB p = false := by
  cases e : trB p
  · rfl
  · unfold trB at e
    rw [List.all_eq_true] at e
    rw [e i (List.mem_range.2 hi)] at h; cases h
theorem trB_yes {p : List Lin} (h : ∀ i, i < p.length → trL p i = true) : trB p = true := by
  unfold trB
  rw [List.all_eq_true]
  exact fun i hi => h i (List.mem_range.1 hi)
theorem fol_no {k : Int} (h8 : k ≠ 8) (h9 : k ≠ 9) (h10 : k ≠ 10) : fol k = false := by
  cases e : fol k
  · rfl
  · have := fol_iff.1 e; omega
set_option maxHeartbeats 2000000 in
set_option maxRecDepth 100000 in
theorem validTries_any (A : Option Addr) (n cap : Nat) (p : List Lin) (hsm : p.length ≤ 1048576) (w : World) (hR : Sl w A n cap p) :
    Calls Try.prog 42 #[.slice A n cap] w fun e w' => e = .returned (.bool (trB p)) ∧ Le w w' := by
  obtain rfl := hR.len
  obtain ⟨j0, hj, hy0, hy1, hy2⟩ := info_parts boolInfo
  have hb2 : j0.bytes * p.length ≤ 281474976710656 := by rw [hy2]; omega
  have HR : Hid (trB p = trB p) := rfl
  go_enter Try.func42, Try.ntmps42
  go_wp2_with (refine wpList_make_full _ rfl _ _ 104 rfl w.heap.size 4 j0 _ 1 Try.underlying104 hj hy0 hy1 .i64 .i64 _ _ p.length rfl rfl rfl rfl hb2 (by unfold maxLen; omega) (by simp) ?_; intro w1 OF hg1; rw [made_bools] at OF; have L1 := (Le.refl w).grown hg1 (by intro k hk; cases hk); clear hg1)
  rw [← mkL_0] at OF
  go_loopw [4, 5, 6, 7, 8, 10, 16] (fun _ _ _ _ _ _ q wr => ∃ k : Nat, k ≤ p.length ∧ q = .int .i64 k ∧ (∀ j, j < k → trL p j = true) ∧
      wr.ownsRow w.heap.size 4 1 (.slice (some ⟨w.heap.size, 0, none⟩) p.length p.length) p.length ((mkL p k).flatMap Enc.cells) ∧ Le w wr) (fun _ _ _ _ _ _ q _ => p.length - (intOf q).toNat)
  case atStart => exact ⟨0, Nat.zero_le _, rfl, fun j h => absurd h (by omega), OF, L1⟩
  case round =>
    obtain ⟨k, hk, rfl, hall, O1, L⟩ := hrel
    have HALL := Lib.hid hall
    clear hall OF L1
    have T := hR.le L
    by_cases hlt : k < p.length
    · obtain ⟨b, off, rfl, hb, d0, d1, d2, d3, -⟩ := T.lin_at hlt
      have HK : Hid (knd p k = p[k].kind) := knd_at hlt
      have HNO : Hid (trL p k = false → trB p = false) := trB_no hlt
      have HYES : Hid (trL p k = true → ∀ j, j < k + 1 → trL p j = true) := fun h j hj => by
        by_cases e : j = k
        · rw [e]; exact h
        · exact HALL.out j (by omega)
      have HT : Hid (trL p k = ((knd p k != 7 || ((parts p k).length != 1 && decide ((exL p k).length ≤ 6))) && (!fol (knd p k) || mkT p k k))) := rfl
      have HMY := Lib.hid (mkL_yes (p := p) (k := k))
      have HMN := Lib.hid (mkL_no (p := p) (k := k))
      have hk0 : (0 : Int) ≤ (k : Int) := by omega
      have hkn : (k : Int) < (p.length : Int) := by omega
      have hml := mkL_len p k
      have r0 := cell_bool O1 (k := k) (by omega) hml
      rw [mkL_at] at r0
      have g0 := (O1.lt w.heap.size rfl).2
      generalize p[k].depth = vd at *
      generalize p[k].kind = vk at *
      generalize p[k].a = va at *
      generalize p[k].b = vb at *
      by_cases h7 : vk = 7
      · subst h7
        have HT2 : Hid (trL p k = ((parts p k).length != 1 && decide ((exL p k).length ≤ 6))) := by
          show _ = _
          rw [HT.out, HK.out]; simp [fol]
        have HM : Hid (mkL p (k + 1) = mkP (mkL p k) (parts p k) (parts p k).length) := HMY.out HK.out
        have HPL := Lib.hid (parts_lt hlt)
        have hpl := parts_len p k
        clear HT HMY HMN
        go_wp2_with fail
        refine (partsOf_any _ p.length cap p k hlt hsm _ (T.alloc _)).mono ?_
        rintro e w2 ⟨v2, rfl, D1, hl2⟩
        obtain ⟨A1, q1, rfl, S1, hB1⟩ := D1.form (by decide)
        have L2 := (L.alloc _).trans hl2
        have O2 := own_le (O1.alloc _) hl2
        have T2 := hR.le L2
        have hB2 : ∀ a, A1 = some a → w.heap.size < a.block := fun a ha => by
          have := (hB1 a.block (by rw [ha]; simp [Value.ownBlock])).1
          simp at this; omega
        clear D1 hB1 hl2 r0 d0 d1 d2 d3
        rw [nI_len] at S1 ⊢
        go_wp2_with fail
        refine (exceptsOf_any _ p.length cap p k hlt hsm _ T2).mono ?_
        rintro e w3 ⟨v3, u3, rfl, D2, D3, hl3⟩
        obtain ⟨A2, q2, rfl, -, -⟩ := D2.form (by decide)
        obtain ⟨A3, q3, rfl, -, -⟩ := D3.form (by decide)
        have S3 := S1.le hl3
        have L3 := L2.trans hl3
        have O3 := own_le O2 hl3
        clear D2 D3 hl3 S1 O1 O2 L2 T2 T L
        rw [nI_len]
        generalize parts p k = P at *
        generalize (exL p k).length = m at *
        have HM0 := mkP_0 (mkL p k) P
        generalize mkL p k = M at *
        have HB2 := Lib.hid hB2; clear hB2
        by_cases h1 : P.length = 1
        · have h1b : ((P.length : Int) == 1) = true := by rw [beq_iff_eq]; omega
          have HF : Hid (trB p = false) := HNO.out (by rw [HT2.out, h1]; rfl)
          clear h1 HM0
          go_wp2
          go_ret
          exact ⟨ret_bool HF.out.symm, L3⟩
        · have h1b : ((P.length : Int) == 1) = false := bf (by omega)
          have hn1 : (P.length != 1) = true := by simpa using h1
          by_cases h6 : 6 < m
          · have h6b : decide ((6 : Int) < (m : Int)) = true := decide_eq_true (by omega)
            have HF : Hid (trB p = false) := HNO.out (by rw [HT2.out, hn1, decide_eq_false (by omega)]; rfl)
            clear h1 hn1 HM0
            go_wp2
            go_ret
            exact ⟨ret_bool HF.out.symm, L3⟩
          · have h6b : decide ((6 : Int) < (m : Int)) = false := decide_eq_false (by omega)
            have HF : Hid (∀ j, j < k + 1 → trL p j = true) := HYES.out (by rw [HT2.out, hn1, decide_eq_true (by omega)]; rfl)
            clear h1 hn1
            go_wp2
            have O3b : w3.ownsRow w.heap.size 4 1 (.slice (some ⟨w.heap.size, 0, none⟩) p.length p.length) p.length ((mkP M P 0).flatMap Enc.cells) := by rw [HM0]; exact O3
            clear HM0 O3
            generalize wr = W0 at *
            go_loopw [10, 44] (fun _ q wq => ∃ j : Nat, j ≤ P.length ∧ q = .int .i64 j ∧ wq.ownsRow w.heap.size 4 1 (.slice (some ⟨w.heap.size, 0, none⟩) p.length p.length) p.length ((mkP M P j).flatMap Enc.cells) ∧ w3.grownBy wq (some w.heap.size)) (fun _ q _ => P.length - (intOf q).toNat)
            case atStart => exact ⟨0, Nat.zero_le _, rfl, O3b, World.grownBy.refl w3 _⟩
            case round =>
              obtain ⟨j, hj, rfl, O4, hg4⟩ := hrel
              clear O3b
              have S4 := S3.grown hg4 (fun _ a ha e => by have := HB2.out a ha; injection e with e; omega)
              by_cases hlj : j < P.length
              · obtain ⟨b5, off5, rfl, hb5, hc5, -⟩ := S4.int_at (k := j) (by rw [nI_len]; exact hlj)
                rw [nI_at hlj] at hc5
                have hx := HPL.out P[j] (List.getElem_mem hlj)
                have HN := Lib.hid (mkP_succ (M := M) hlj)
                have hmp := mkP_len M P j
                obtain ⟨bx, r5⟩ : ∃ bx, wr.cell? ⟨w.heap.size, P[j], none⟩ = some (.bool bx) := ⟨_, cell_bool O4 (k := P[j]) (by omega) (by omega)⟩
                have f5 := O4.frozenAt P[j]
                have HO := Lib.hid ((O4.stored P[j] (.bool true)).1)
                rw [flat_bool _ _ (by omega)] at HO
                generalize P[j] = x at *
                have hx0 : (0 : Int) ≤ (x : Int) := by omega
                have hxn : (x : Int) < (p.length : Int) := by omega
                clear S4
                go_wp2
                go_roundw
                case rel => exact ⟨j + 1, by omega, by go_num, by rw [HN.out]; exact HO.out, gx_set hg4 _⟩
                case measure => simp [intOf]; omega
              · obtain rfl : j = P.length := by omega
                have hL4 : Le w wr := L3.grown hg4 (fun i hi => by injection hi with hi; omega)
                go_wp2
                go_roundw
                case rel => exact ⟨k + 1, by omega, by go_num, HF.out, by rw [HM.out]; exact O4, hL4⟩
                case measure => simp [intOf]; omega
      · have h7b := bf h7
        have HM : Hid (mkL p (k + 1) = mkL p k) := HMN.out (by rw [HK.out]; exact h7)
        by_cases hf : vk = 8 ∨ vk = 9 ∨ vk = 10
        · have hff : fol vk = true := fol_iff.2 (by omega)
          have HT2 : Hid (trL p k = mkT p k k) := by
            show _ = _
            rw [HT.out, HK.out, hff]
            have : (vk != 7) = true := by simpa using h7
            rw [this]; rfl
          rcases hf with rfl | rfl | rfl
          all_goals
            cases hm : mkT p k k
            · rw [hm] at r0
              have HF : Hid (trB p = false) := HNO.out (by rw [HT2.out, hm])
              go_wp2
              go_ret
              exact ⟨ret_bool HF.out.symm, L.alloc _⟩
            · rw [hm] at r0
              have HF : Hid (∀ j, j < k + 1 → trL p j = true) := HYES.out (by rw [HT2.out, hm])
              go_wp2
              go_roundw
              case rel => exact ⟨k + 1, by omega, by go_num, HF.out, by rw [HM.out]; exact O1.alloc _, L.alloc _⟩
              case measure => simp [intOf]; omega
        · have h8b : (vk == 8) = false := bf (by omega)
          have h9b : (vk == 9) = false := bf (by omega)
          have h10b : (vk == 10) = false := bf (by omega)
          have HF : Hid (∀ j, j < k + 1 → trL p j = true) := HYES.out (by
            rw [HT.out, HK.out, fol_no (by omega) (by omega) (by omega)]
            have : (vk != 7) = true := by simpa using h7
            rw [this]; rfl)
          go_wp2
          go_roundw
          case rel => exact ⟨k + 1, by omega, by go_num, HF.out, by rw [HM.out]; exact O1.alloc _, L.alloc _⟩
          case measure => simp [intOf]; omega
    · obtain rfl : k = p.length := by omega
      have HF : Hid (trB p = true) := trB_yes HALL.out
      go_wp2
      go_ret
      exact ⟨ret_bool HF.out.symm, L⟩
end

section
theorem findN_range (xs : List Cls) (s : ByteArray) : ∀ j : Int, 0 ≤ j → findN xs s j = -1 ∨ (j ≤ findN xs s j ∧ findN xs s j < j + xs.length) := by
  induction xs with
  | nil => intro j _; exact .inl rfl
  | cons c r ih =>
    intro j hj
    unfold findN
    split
    · right; simp; omega
    · rcases ih (j + 1) (by omega) with h | ⟨h1, h2⟩
      · exact .inl h
      · right; simp; omega
theorem findN_append (xs ys : List Cls) (s : ByteArray) : ∀ j : Int, 0 ≤ j → findN (xs ++ ys) s j = if 0 ≤ findN xs s j then findN xs s j else findN ys s (j + xs.length) := by
  induction xs with
  | nil => intro j _; simp [findN]
  | cons c r ih =>
    intro j hj
    rw [List.cons_append, findN_cons, findN_cons]
    by_cases h : c.name = s
    · rw [if_pos h, if_pos h, if_pos hj]
    · rw [if_neg h, if_neg h, ih (j + 1) (by omega)]
      have e : j + 1 + (r.length : Int) = j + ((c :: r).length : Int) := by simp; omega
      rw [e]
theorem findN_self {xs : List Cls} {k : Nat} (h : k < xs.length) : (findN xs xs[k].name 0 == (k : Int)) = !decide (0 ≤ findN (xs.take k) xs[k].name 0) := by
  have e : xs = xs.take k ++ xs[k] :: xs.drop (k + 1) := by rw [← List.drop_eq_getElem_cons h, List.take_append_drop]
  have e2 : findN xs xs[k].name 0 = findN (xs.take k ++ xs[k] :: xs.drop (k + 1)) xs[k].name 0 := by rw [← e]
  rw [e2, findN_append _ _ _ _ (by omega)]
  have hl : (xs.take k).length = k := by rw [List.length_take]; omega
  rcases findN_range (xs.take k) xs[k].name 0 (by omega) with h1 | ⟨h1, h2⟩
  · rw [h1, if_neg (by omega)]
    unfold findN
    rw [if_pos rfl, hl]
    simp
  · rw [if_pos h1, decide_eq_true h1]
    rw [hl] at h2
    simp; omega
theorem parent_i (p : Int) (k : Nat) : ((k : Int) == 0 && p != -1 || decide (0 < (k : Int)) && !(decide (0 ≤ p) && decide (p ≤ (k : Int) - 1))) = (((p == -1) != ((k : Int) == 0)) || decide (p < -1) || decide ((k : Int) ≤ p)) := by
  rcases Nat.eq_zero_or_pos k with rfl | hk
  · by_cases hp : p = -1
    · subst hp; rfl
    · have h1 : (p == -1) = false := by simpa using hp
      simp [h1, bne]
  · have h0 : ((k : Int) == 0) = false := by simp; omega
    have h2 : decide (0 < (k : Int)) = true := by simp; omega
    rw [h0, h2, Bool.false_and, Bool.true_and, Bool.false_or, Bool.eq_iff_iff]
    by_cases hp : p = -1
    · subst hp; simp
    · have h1 : (p == -1) = false := by simpa using hp
      rw [h1]
      simp only [Bool.not_eq_true', Bool.and_eq_false_iff, decide_eq_false_iff_not, Bool.or_eq_true, decide_eq_true_eq, bne]
      simp
      omega
theorem badCls_i {xs : List Cls} {k : Nat} (h : k < xs.length) : badCls xs k xs[k] = ((!okName xs[k].name || findN xs xs[k].name 0 != (k : Int)) || (((xs[k].parent == -1) != ((k : Int) == 0)) || decide (xs[k].parent < -1) || decide ((k : Int) ≤ xs[k].parent))) := by
  unfold badCls
  have hs := findN_self h
  have hn : (findN xs xs[k].name 0 != (k : Int)) = decide (0 ≤ findN (xs.take k) xs[k].name 0) := by rw [bne, hs, Bool.not_not]
  rw [hn]
  generalize okName xs[k].name = a
  generalize decide (0 ≤ findN (xs.take k) xs[k].name 0) = b
  generalize xs[k].parent = p
  rw [Bool.or_assoc, parent_i]

theorem ivalidName_any (s : ByteArray) (w : World) (hs : s.size ≤ 9223372036854775807) : Calls Try.prog 64 #[.string s] w fun e w' => e = .returned (.bool (okName s)) ∧ w = w' := by
  by_cases hlo : s.size < 1
  · have HF : Hid (okName s = false) := by show _ = _; unfold okName; rw [decide_eq_false (p := 1 ≤ s.size) (by omega)]; simp
    go_enter Try.func64, Try.ntmps64
    go_wp2
    go_ret
    exact ⟨ret_bool HF.out.symm, rfl⟩
  · by_cases hhi : 6 < s.size
    · have HF : Hid (okName s = false) := by show _ = _; unfold okName; rw [decide_eq_false (p := s.size ≤ 6) (by omega)]; simp
      go_enter Try.func64, Try.ntmps64
      go_wp2
      go_ret
      exact ⟨ret_bool HF.out.symm, rfl⟩
    · have d1 : decide ((s.size : Int) < 1) = false := decide_eq_false (by omega)
      have d2 : decide (6 < (s.size : Int)) = false := decide_eq_false (by omega)
      go_enter Try.func64, Try.ntmps64
      go_wp2
      go_loop [14] (fun i => ∃ k : Nat, k ≤ s.size ∧ i = .int .i64 k ∧ lowers s.data.toList = lowers (s.data.toList.drop k)) (fun i => s.size - (intOf i).toNat)
      case atStart => exact ⟨0, Nat.zero_le _, rfl, rfl⟩
      case round =>
        obtain ⟨k, hk, rfl, hr⟩ := hrel
        have HR := Lib.hid hr; clear hr
        by_cases hlt : k < s.size
        · have hc : 0 ≤ (s[k].toNat : Int) ∧ (s[k].toNat : Int) ≤ 255 := by have := UInt8.toNat_lt s[k]; omega
          by_cases h1 : s[k].toNat < 97
          · have HF : Hid (okName s = false) := by show _ = _; unfold okName; rw [HR.out, lowers_at hlt, decide_eq_false (p := 97 ≤ s[k].toNat) (by omega)]; rfl
            go_wp2
            go_ret
            exact ⟨ret_bool HF.out.symm, rfl⟩
          · by_cases h2 : 122 < s[k].toNat
            · have HF : Hid (okName s = false) := by show _ = _; unfold okName; rw [HR.out, lowers_at hlt, decide_eq_false (p := s[k].toNat ≤ 122) (by omega)]; simp
              go_wp2
              go_ret
              exact ⟨ret_bool HF.out.symm, rfl⟩
            · have HF : Hid (lowers s.data.toList = lowers (s.data.toList.drop (k + 1))) := by show _ = _; rw [HR.out, lowers_at hlt, decide_eq_true (p := 97 ≤ s[k].toNat) (by omega), decide_eq_true (p := s[k].toNat ≤ 122) (by omega)]; rfl
              go_wp2
              go_round
              case rel => exact ⟨k + 1, by omega, by go_num, HF.out⟩
              case measure => simp [intOf]; omega
        · have HF : Hid (okName s = true) := by
            show _ = _; unfold okName; rw [HR.out, lowers_end hlt, decide_eq_true (p := 1 ≤ s.size) (by omega), decide_eq_true (p := s.size ≤ 6) (by omega)]; rfl
          go_wp2
          go_ret
          exact ⟨ret_bool HF.out.symm, rfl⟩

theorem closure_any (c : Cls) (s : ByteArray) (g : Nat) (w : World) (hg : w.cell? ⟨g, 0, none⟩ = some (.string s)) (hlt : g < w.heap.size) :
    Calls Try.prog 102 #[.agg #[.string c.name, .int .i64 c.parent], .pointer (some ⟨g, 0, none⟩)] w fun e w' => e = .returned (.bool (c.name.toList == s.toList)) ∧ Le w w' := by
  have hg' : (w.alloc (.cells #[.string c.name, .int .i64 c.parent] 97)).cell? ⟨g, 0, none⟩ = some (.string s) := ((Le.new w _).cell hlt).trans hg
  go_enter Try.func102, Try.ntmps102
  go_wp2
  go_ret
  exact ⟨rfl, Le.new w _⟩

theorem indexFunc_any (A : Option Addr) (n cap : Nat) (xs : List Cls) (s : ByteArray) (g : Nat) (w : World) (hR : Sl w A n cap xs) (hg : w.cell? ⟨g, 0, none⟩ = some (.string s)) (hgl : g < w.heap.size) :
    Calls Try.prog 101 #[.slice A n cap, .func (.func 102) #[] #[.pointer (some ⟨g, 0, none⟩)]] w fun e w' => e = .returned (.int .i64 (findN xs s 0)) ∧ Le w w' := by
  obtain rfl := hR.len
  have hm := hR.n_le
  go_enter Try.func101, Try.ntmps101
  go_wp2
  go_loopw [8] (fun i wr => ∃ k : Nat, k ≤ xs.length ∧ i = .int .i64 k ∧ findN xs s 0 = findN (xs.drop k) s k ∧ Le w wr) (fun i _ => xs.length - (intOf i).toNat)
  case atStart => exact ⟨0, Nat.zero_le _, rfl, rfl, Le.refl _⟩
  case round =>
    obtain ⟨k, hk, rfl, hr, hle⟩ := hrel
    have HR := Lib.hid hr; clear hr
    have hRr := hR.le hle
    have hgr := (hle.cell hgl).trans hg
    have hgz : g < wr.heap.size := Nat.lt_of_lt_of_le hgl hle.size
    clear hR hg
    by_cases hlt : k < xs.length
    · obtain ⟨b, off, rfl, _, hcell, hcell2, _, _, _⟩ := hRr.cls_at hlt
      by_cases he : xs[k].name = s
      · have he' := str_eq he
        have HF : Hid (findN xs s 0 = k) := by show _ = _; rw [HR.out, findN_at hlt, if_pos he]
        clear he
        go_wp2_with (go_at_call 102; refine (closure_any xs[k] s g _ hgr hgz).mono ?_; rintro e w' ⟨rfl, hw1⟩)
        go_ret
        exact ⟨ret_int HF.out.symm, hle.trans hw1⟩
      · have he' := str_ne he
        have HF : Hid (findN xs s 0 = findN (xs.drop (k + 1)) s ((k + 1 : Nat) : Int)) := by show _ = _; rw [HR.out, findN_at hlt, if_neg he]; rfl
        clear he
        go_wp2_with (go_at_call 102; refine (closure_any xs[k] s g _ hgr hgz).mono ?_; rintro e w' ⟨rfl, hw1⟩)
        go_roundw
        case rel => exact ⟨k + 1, by omega, by go_num, HF.out, hle.trans hw1⟩
        case measure => simp [intOf]; omega
    · have HF : Hid (findN xs s 0 = -1) := by show _ = _; rw [HR.out, findN_end hlt]
      go_wp2
      go_ret
      exact ⟨ret_int HF.out.symm, hle⟩

theorem indexOfName_any (A : Option Addr) (n cap : Nat) (xs : List Cls) (s : ByteArray) (w : World) (hR : Sl w A n cap xs) :
    Calls Try.prog 65 #[.slice A n cap, .string s] w fun e w' => e = .returned (.int .i64 (findN xs s 0)) ∧ Le w w' := by
  go_enter Try.func65, Try.ntmps65
  go_wp2_with fail
  refine (indexFunc_any A n cap xs s _ _ (hR.alloc _) (by simp) (by simp)).mono ?_
  rintro e w' ⟨rfl, hw1⟩
  go_wp2
  go_ret
  exact ⟨rfl, (Le.new w _).trans hw1⟩
end

section
set_option maxHeartbeats 8000000 in
theorem iValidTree_any (A : Option Addr) (n cap : Nat) (xs : List Cls) (w : World) (hR : Sl w A n cap xs) :
    Calls Try.prog 39 #[.agg #[.slice A n cap]] w fun e w' => e = .returned (.bool (okTree xs)) ∧ Le w w' := by
  obtain rfl := hR.len
  have hm := hR.n_le
  have hcp := hR.cap_
  have HL : xs.length < 1 ∨ 8 < xs.length → ∀ k, k ≤ xs.length → okFrom xs k (xs.drop k) = false := by
    intro h k hk
    obtain ⟨m, hm⟩ : ∃ m, xs.length - k = m := ⟨_, rfl⟩
    induction m generalizing k with
    | zero => rw [okFrom_end (by omega)]; simp; omega
    | succ m ih => rw [okFrom_at (by omega), ih (k + 1) (by omega) (by omega), Bool.and_false]
  by_cases h1 : xs.length < 1
  · have HF : Hid (okTree xs = false) := HL (.inl h1) 0 (Nat.zero_le _)
    clear HL
    go_enter Try.func39, Try.ntmps39
    go_wp2
    go_ret
    exact ⟨ret_bool HF.out.symm, Le.new w _⟩
  · by_cases h8 : 8 < xs.length
    · have HF : Hid (okTree xs = false) := HL (.inr h8) 0 (Nat.zero_le _)
      clear HL
      go_enter Try.func39, Try.ntmps39
      go_wp2
      go_ret
      exact ⟨ret_bool HF.out.symm, Le.new w _⟩
    · clear HL
      have d1 : decide ((xs.length : Int) < 1) = false := decide_eq_false (by omega)
      have d2 : decide (8 < (xs.length : Int)) = false := decide_eq_false (by omega)
      go_enter Try.func39, Try.ntmps39
      go_wp2
      go_loopw [19] (fun i wr => ∃ k : Nat, k ≤ xs.length ∧ i = .int .i64 k ∧ okTree xs = okFrom xs k (xs.drop k) ∧ Le (w.alloc (.cells #[.slice A xs.length cap] 25)) wr) (fun i _ => xs.length - (intOf i).toNat)
      case atStart => exact ⟨0, Nat.zero_le _, rfl, rfl, Le.refl _⟩
      case round =>
        obtain ⟨k, hk, rfl, hr, hle⟩ := hrel
        have HR := Lib.hid hr; clear hr
        have hz : w.heap.size < wr.heap.size := by have := hle.size; simp at this; omega
        have hT : wr.cell? ⟨w.heap.size, 0, none⟩ = some (.slice A xs.length cap) := by
          rw [hle.cell (by simp)]; simp
        have hwr : Le w wr := (Le.new w _).trans hle
        have hRr := hR.le hwr
        clear hR
        by_cases hlt : k < xs.length
        · obtain ⟨b, off, rfl, hb, hcell, hcell2, hns, hp1, hp2⟩ := hRr.cls_at hlt
          have HB : Hid (okTree xs = (!badCls xs k xs[k] && okFrom xs (k + 1) (xs.drop (k + 1)))) := by show _ = _; rw [HR.out, okFrom_at hlt]
          cases h1 : okName xs[k].name
          · have HF : Hid (okTree xs = false) := by show _ = _; rw [HB.out, badCls_i hlt, h1]; rfl
            clear HB
            go_wp2_with (go_at_call 64; refine (ivalidName_any _ _ hns).mono ?_; rintro e w' ⟨rfl, rfl⟩; rw [h1])
            go_ret
            exact ⟨ret_bool HF.out.symm, hwr.trans (Le.new _ _)⟩
          · have HB1 : Hid (okTree xs = (!(findN xs xs[k].name 0 != (k : Int) || (((xs[k].parent == -1) != ((k : Int) == 0)) || decide (xs[k].parent < -1) || decide ((k : Int) ≤ xs[k].parent))) && okFrom xs (k + 1) (xs.drop (k + 1)))) := by
              show _ = _; rw [HB.out, badCls_i hlt, h1]; rfl
            clear HB
            go_wp2_with (go_at_call 64; refine (ivalidName_any _ _ hns).mono ?_; rintro e w' ⟨rfl, rfl⟩; rw [h1])
            refine (indexOfName_any _ _ _ _ _ _ (hRr.alloc _)).mono ?_
            rintro e w3 ⟨rfl, h3⟩
            have e2 : w3.cell? ⟨wr.heap.size, 1, none⟩ = some (.int .i64 xs[k].parent) := (h3.cell (by simp)).trans (by simp)
            have hw3 : Le wr w3 := (Le.new _ _).trans h3
            clear hcell hcell2 hT h3
            cases h2 : findN xs xs[k].name 0 != (k : Int)
            · cases h4 : xs[k].parent == -1
              all_goals cases h5 : (k : Int) == 0
              all_goals cases h6 : decide (xs[k].parent < -1)
              all_goals cases h7 : decide ((k : Int) ≤ xs[k].parent)
              all_goals
                have hout := HB1.out
                simp only [h2, h4, h5, h6, h7] at hout
                have HO := Lib.hid hout
                clear hout HB1
                go_wp2
                first
                  | (go_ret; exact ⟨ret_bool (by rw [HO.out]; rfl), hwr.trans hw3⟩)
                  | (go_roundw
                     case rel => exact ⟨k + 1, by omega, by go_num, by rw [HO.out]; rfl, hle.trans hw3⟩
                     case measure => simp [intOf]; omega)
            · have HF : Hid (okTree xs = false) := by show _ = _; rw [HB1.out, h2]; rfl
              clear HB1
              go_wp2
              go_ret
              exact ⟨ret_bool HF.out.symm, hwr.trans hw3⟩
        · have HF : Hid (okTree xs = true) := by
            show _ = _; rw [HR.out, okFrom_end hlt]; simp; omega
          go_wp2
          go_ret
          exact ⟨ret_bool HF.out.symm, hwr⟩
end

section
/-- what the program asks of a program -/
def liB (xs : List Cls) (p : List Lin) (i : Nat) : Bool := match p[i]? with | some x => lineB xs.length p i x | none => true
theorem liB_at {xs : List Cls} {p : List Lin} {i : Nat} (h : i < p.length) : liB xs p i = lineB xs.length p i p[i] := by unfold liB; rw [List.getElem?_eq_getElem h]
def lastB (p : List Lin) : Bool := decide (0 < p.length) && opn (knd p (p.length - 1))
def vpI (xs : List Cls) (p : List Lin) : Bool := okTree xs && decide (p.length ≤ 24) && (List.range p.length).all (liB xs p) && !lastB p && trB p
theorem all_no {n i : Nat} {f : Nat → Bool} (hi : i < n) (h : f i = false) : (List.range n).all f = false := by
  cases e : (List.range n).all f
  · rfl
  · rw [List.all_eq_true] at e
    rw [e i (List.mem_range.2 hi)] at h; cases h
theorem all_yes {n : Nat} {f : Nat → Bool} (h : ∀ i, i < n → f i = true) : (List.range n).all f = true := by
  rw [List.all_eq_true]; exact fun i hi => h i (List.mem_range.1 hi)
/-- the depths ahead of a line are right when the lines ahead are -/
theorem dep_ahead {xs : List Cls} {p : List Lin} {k : Nat} (hk : k < p.length) (H : ∀ j, j < k → liB xs p j = true) : 0 < k → 0 ≤ dep p (k - 1) ∧ dep p (k - 1) ≤ 5 := fun h0 =>
  ((dep_same p k).2 (fun j hj => ((lineB_iff xs p j (by omega)).1 (by have := H j hj; rw [liB_at (by omega)] at this; exact this)).2.2.1) (k - 1) (by omega)).1
set_option maxHeartbeats 2000000 in
set_option maxRecDepth 100000 in
theorem iValidProgram_any (B A : Option Addr) (m c n cap : Nat) (xs : List Cls) (p : List Lin) (hm : m ≤ 1048576) (w : World) (hT : Sl w B m c xs) (hR : Sl w A n cap p) :
    Calls Try.prog 14 #[.agg #[.slice B m c], .slice A n cap] w fun e w' => e = .returned (.bool (vpI xs p)) ∧ Le w w' := by
  obtain rfl := hR.len
  obtain rfl := hT.len
  have HX : Hid (vpI xs p = (okTree xs && decide (p.length ≤ 24) && (List.range p.length).all (liB xs p) && !lastB p && trB p)) := rfl
  go_enter Try.func14, Try.ntmps14
  go_wp2_with fail
  obtain ⟨ct, zt, hleB⟩ := box1 w (.slice B xs.length c) 25
  have L0 := hleB
  clear hleB
  generalize w.alloc (.cells #[.slice B xs.length c] 25) = W at *
  refine (iValidTree_any B xs.length c xs _ (hT.le L0)).mono ?_
  rintro e w1 ⟨rfl, hle⟩
  replace ct := (hle.cell zt).trans ct
  replace zt := Nat.lt_of_lt_of_le zt hle.size
  replace L0 := L0.trans hle
  clear hle
  cases ht : okTree xs
  · have HF : Hid (vpI xs p = false) := by show _ = _; rw [HX.out, ht]; rfl
    clear HX
    go_wp2
    go_ret
    exact ⟨ret_bool HF.out.symm, L0⟩
  · by_cases h24 : 24 < p.length
    · have h24b : decide ((24 : Int) < (p.length : Int)) = true := decide_eq_true (by omega)
      have HF : Hid (vpI xs p = false) := by show _ = _; rw [HX.out, ht, decide_eq_false (by omega)]; rfl
      clear HX
      go_wp2
      go_ret
      exact ⟨ret_bool HF.out.symm, L0⟩
    · have h24b : decide ((24 : Int) < (p.length : Int)) = false := decide_eq_false (by omega)
      have HY : Hid (vpI xs p = ((List.range p.length).all (liB xs p) && !lastB p && trB p)) := by show _ = _; rw [HX.out, ht, decide_eq_true (by omega), Bool.true_and, Bool.true_and]
      clear HX
      go_wp2
      have S1 := hR.le L0
      clear hR hT
      go_loopw [5, 16] (fun _ q wr => ∃ k : Nat, k ≤ p.length ∧ q = .int .i64 k ∧ (∀ j, j < k → liB xs p j = true) ∧ Le w1 wr) (fun _ q _ => p.length - (intOf q).toNat)
      case atStart => exact ⟨0, Nat.zero_le _, rfl, fun j h => absurd h (by omega), Le.refl _⟩
      case round =>
        obtain ⟨k, hk, rfl, hall, L⟩ := hrel
        have HALL := Lib.hid hall
        clear hall
        have T := S1.le L
        replace ct := (L.cell zt).trans ct
        clear S1
        by_cases hlt : k < p.length
        · have HPR := Lib.hid (dep_ahead hlt HALL.out)
          have HLI := Lib.hid (liB_at (xs := xs) hlt)
          have HNO : Hid (liB xs p k = false → (List.range p.length).all (liB xs p) = false) := all_no hlt
          have HYES : Hid (liB xs p k = true → ∀ j, j < k + 1 → liB xs p j = true) := fun h j hj => by
            by_cases e : j = k
            · rw [e]; exact h
            · exact HALL.out j (by omega)
          go_wp2_with fail
          refine (validLine_any B A xs.length c p.length cap p k hlt hm (by omega) HPR.out wr T).mono ?_
          rintro e w2 ⟨rfl, hl2⟩
          rw [← HLI.out]
          cases hb : liB xs p k
          · have HF : Hid (vpI xs p = false) := by show _ = _; rw [HY.out, HNO.out hb]; rfl
            go_wp2
            go_ret
            exact ⟨ret_bool HF.out.symm, L0.trans (L.trans hl2)⟩
          · have HF := Lib.hid (HYES.out hb)
            go_wp2
            go_roundw
            case rel => exact ⟨k + 1, by omega, by go_num, HF.out, L.trans hl2⟩
            case measure => simp [intOf]; omega
        · obtain rfl : k = p.length := by omega
          have HZ : Hid (vpI xs p = (!lastB p && trB p)) := by show _ = _; rw [HY.out, all_yes HALL.out, Bool.true_and]
          have HLB : Hid (lastB p = (decide (0 < p.length) && opn (knd p (p.length - 1)))) := rfl
          clear HY
          by_cases h0 : 0 < p.length
          · have h0b : decide ((0 : Int) < (p.length : Int)) = true := decide_eq_true (by omega)
            obtain ⟨j, hj⟩ : ∃ j, p.length = j + 1 := ⟨p.length - 1, by omega⟩
            have hjl : j < p.length := by omega
            obtain ⟨b, off, rfl, hb, d0, d1, -⟩ := T.lin_at hjl
            have HK : Hid (lastB p = opn p[j].kind) := by show _ = _; rw [HLB.out, decide_eq_true h0, Bool.true_and, show p.length - 1 = j by omega, knd_at hjl]
            have hwj : IntKind.i64.wrap ((p.length : Int) - 1) = (j : Int) := by rw [show (p.length : Int) - 1 = (j : Int) by omega]; exact IntWalk.i64_in _ (by omega)
            have hj0 : (0 : Int) ≤ (j : Int) := by omega
            have hjn : (j : Int) < (p.length : Int) := by omega
            generalize p[j].kind = vk at *
            clear hj HLB d0
            cases ho : opn vk
            · rw [ho] at HK
              have HF : Hid (vpI xs p = trB p) := by show _ = _; rw [HZ.out, HK.out]; rfl
              clear HZ HK
              go_wp2_with fail
              refine (hasBlock_any vk wr).mono ?_
              rintro e w2 ⟨rfl, rfl⟩
              rw [ho]
              go_wp2_with fail
              refine (validTries_any _ p.length cap p (by omega) wr T).mono ?_
              rintro e w2 ⟨rfl, hl2⟩
              go_wp2
              go_ret
              exact ⟨ret_bool HF.out.symm, L0.trans (L.trans hl2)⟩
            · rw [ho] at HK
              have HF : Hid (vpI xs p = false) := by show _ = _; rw [HZ.out, HK.out]; rfl
              clear HZ HK
              go_wp2_with fail
              refine (hasBlock_any vk wr).mono ?_
              rintro e w2 ⟨rfl, rfl⟩
              rw [ho]
              go_wp2
              go_ret
              exact ⟨ret_bool HF.out.symm, L0.trans L⟩
          · have h0b : decide ((0 : Int) < (p.length : Int)) = false := decide_eq_false (by omega)
            have HK : Hid (lastB p = false) := by show _ = _; rw [HLB.out, decide_eq_false h0]; rfl
            have HF : Hid (vpI xs p = trB p) := by show _ = _; rw [HZ.out, HK.out]; rfl
            clear HZ HK HLB
            go_wp2_with fail
            refine (validTries_any _ p.length cap p (by omega) wr T).mono ?_
            rintro e w2 ⟨rfl, hl2⟩
            go_wp2
            go_ret
            exact ⟨ret_bool HF.out.symm, L0.trans (L.trans hl2)⟩
end

section
def lsB (xs : List Cls) (p : List Lin) (i : Nat) : Bool := match p[i]? with | some x => lineT xs p i x | none => true
theorem lsB_at {xs : List Cls} {p : List Lin} {i : Nat} (h : i < p.length) : lsB xs p i = lineT xs p i p[i] := by unfold lsB; rw [List.getElem?_eq_getElem h]
/-- what the model asks of a program -/
def vp (xs : List Cls) (p : List Lin) : Bool := (List.range p.length).all (lsB xs p) && okTree xs && decide (p.length ≤ 24)
theorem vp_iff {xs : List Cls} {p : List Lin} : vp xs p = true ↔ okTree xs = true ∧ p.length ≤ 24 ∧ ∀ i (h : i < p.length), lineS xs p i p[i] := by
  unfold vp
  rw [Bool.and_eq_true, Bool.and_eq_true, List.all_eq_true, decide_eq_true_eq]
  constructor
  · rintro ⟨⟨h1, h2⟩, h3⟩
    refine ⟨h2, h3, fun i hi => (lineT_iff xs p i hi).1 ?_⟩
    have := h1 i (List.mem_range.2 hi)
    rwa [lsB_at hi] at this
  · rintro ⟨h2, h3, h1⟩
    refine ⟨⟨fun i hi => ?_, h2⟩, h3⟩
    have hi := List.mem_range.1 hi
    rw [lsB_at hi]
    exact (lineT_iff xs p i hi).2 (h1 i hi)
theorem vpI_iff {xs : List Cls} {p : List Lin} : vpI xs p = true ↔ okTree xs = true ∧ p.length ≤ 24 ∧ (∀ i (h : i < p.length), lineI xs p i p[i]) ∧ (∀ h : 0 < p.length, opn (p[p.length - 1]'(by omega)).kind = false) ∧ triesI p := by
  unfold vpI
  rw [Bool.and_eq_true, Bool.and_eq_true, Bool.and_eq_true, Bool.and_eq_true, List.all_eq_true, decide_eq_true_eq, trB_iff]
  have hlast : ((!lastB p) = true) ↔ (∀ h : 0 < p.length, opn (p[p.length - 1]'(by omega)).kind = false) := by
    unfold lastB
    rw [Bool.not_eq_true', Bool.and_eq_false_iff, decide_eq_false_iff_not]
    constructor
    · intro h h0
      have h1 := h.resolve_left (fun e => e h0)
      rwa [knd_at (by omega)] at h1
    · intro h
      by_cases h0 : 0 < p.length
      · refine .inr ?_
        rw [knd_at (by omega)]
        exact h h0
      · exact .inl h0
  rw [hlast]
  constructor
  · rintro ⟨⟨⟨⟨h1, h2⟩, h3⟩, h4⟩, h5⟩
    refine ⟨h1, h2, fun i hi => (lineB_iff xs p i hi).1 ?_, h4, h5⟩
    have := h3 i (List.mem_range.2 hi)
    rwa [liB_at hi] at this
  · rintro ⟨h1, h2, h3, h4, h5⟩
    refine ⟨⟨⟨⟨h1, h2⟩, fun i hi => ?_⟩, h4⟩, h5⟩
    have hi := List.mem_range.1 hi
    rw [liB_at hi]
    exact (lineB_iff xs p i hi).2 (h3 i hi)
theorem vp_same (xs : List Cls) (p : List Lin) : vpI xs p = vp xs p := by
  rw [Bool.eq_iff_iff, vpI_iff, vp_iff]
  refine and_congr_right fun _ => and_congr_right fun _ => ?_
  exact (lines_same xs p).symm
/-- what a valid program is -/
structure GoodP (xs : List Cls) (p : List Lin) : Prop where
  tree : okTree xs = true
  len : p.length ≤ 24
  line : ∀ i (h : i < p.length), lineS xs p i p[i]
  tries : triesI p
theorem goodP_of {xs : List Cls} {p : List Lin} (h : vp xs p = true) : GoodP xs p := by
  have a := vp_iff.1 h
  exact ⟨a.1, a.2.1, a.2.2, ((lines_same xs p).1 a.2.2).2.2⟩
theorem dep_aheadS {xs : List Cls} {p : List Lin} {k : Nat} (hk : k < p.length) (H : ∀ j, j < k → lsB xs p j = true) : 0 < k → 0 ≤ dep p (k - 1) ∧ dep p (k - 1) ≤ 5 := fun h0 => by
  have h := H (k - 1) (by omega)
  rw [lsB_at (by omega)] at h
  exact ((lineT_iff xs p (k - 1) (by omega)).1 h).2.1.1
set_option maxHeartbeats 2000000 in
set_option maxRecDepth 100000 in
theorem svalidProgram_any (B A : Option Addr) (m c n cap : Nat) (xs : List Cls) (p : List Lin) (hsm : p.length ≤ 1048576) (w : World) (hT : Sl w B m c xs) (hR : Sl w A n cap p) :
    Calls Try.prog 37 #[.agg #[.slice B m c], .slice A n cap] w fun e w' => e = .returned (.bool (vp xs p)) ∧ Le w w' := by
  obtain rfl := hR.len
  obtain rfl := hT.len
  have HX : Hid (vp xs p = ((List.range p.length).all (lsB xs p) && okTree xs && decide (p.length ≤ 24))) := rfl
  go_enter Try.func37, Try.ntmps37
  go_wp2_with fail
  obtain ⟨ct, zt, hleB⟩ := box1 w (.slice B xs.length c) 25
  have L0 := hleB
  clear hleB
  generalize w.alloc (.cells #[.slice B xs.length c] 25) = W at *
  have S1 := hR.le L0
  have T1 := hT.le L0
  clear hR hT
  go_loopw [5] (fun q wr => ∃ k : Nat, k ≤ p.length ∧ q = .int .i64 k ∧ (∀ j, j < k → lsB xs p j = true) ∧ Le W wr) (fun q _ => p.length - (intOf q).toNat)
  case atStart => exact ⟨0, Nat.zero_le _, rfl, fun j h => absurd h (by omega), Le.refl _⟩
  case round =>
    obtain ⟨k, hk, rfl, hall, L⟩ := hrel
    have HALL := Lib.hid hall
    clear hall
    have S := S1.le L
    have T := T1.le L
    replace ct := (L.cell zt).trans ct
    clear S1 T1
    by_cases hlt : k < p.length
    · have HPR := Lib.hid (dep_aheadS hlt HALL.out)
      have HLI := Lib.hid (lsB_at (xs := xs) hlt)
      have HNO : Hid (lsB xs p k = false → (List.range p.length).all (lsB xs p) = false) := all_no hlt
      have HYES : Hid (lsB xs p k = true → ∀ j, j < k + 1 → lsB xs p j = true) := fun h j hj => by
        by_cases e : j = k
        · rw [e]; exact h
        · exact HALL.out j (by omega)
      go_wp2_with fail
      refine (sValidLine_any B A xs.length c p.length cap xs p k hlt hsm HPR.out wr T S).mono ?_
      rintro e w2 ⟨rfl, hl2⟩
      rw [← HLI.out]
      cases hb : lsB xs p k
      · have HF : Hid (vp xs p = false) := by show _ = _; rw [HX.out, HNO.out hb]; rfl
        go_wp2
        go_ret
        exact ⟨ret_bool HF.out.symm, L0.trans (L.trans hl2)⟩
      · have HF := Lib.hid (HYES.out hb)
        go_wp2
        go_roundw
        case rel => exact ⟨k + 1, by omega, by go_num, HF.out, L.trans hl2⟩
        case measure => simp [intOf]; omega
    · obtain rfl : k = p.length := by omega
      have HZ : Hid (vp xs p = (okTree xs && decide (p.length ≤ 24))) := by show _ = _; rw [HX.out, all_yes HALL.out, Bool.true_and]
      clear HX
      go_wp2_with fail
      refine (validTree_any B xs.length c xs wr T).mono ?_
      rintro e w2 ⟨rfl, hl2⟩
      cases ht : okTree xs
      · have HF : Hid (vp xs p = false) := by show _ = _; rw [HZ.out, ht]; rfl
        go_wp2
        go_ret
        exact ⟨ret_bool HF.out.symm, L0.trans (L.trans hl2)⟩
      · have HF : Hid (vp xs p = decide ((p.length : Int) ≤ 24)) := by show _ = _; rw [HZ.out, ht, Bool.true_and]; exact decide_eq_decide.2 (by omega)
        go_wp2
        go_ret
        exact ⟨ret_bool HF.out.symm, L0.trans (L.trans hl2)⟩
/-- the program's answer in the model's word -/
theorem pValidProgram_any (B A : Option Addr) (m c n cap : Nat) (xs : List Cls) (p : List Lin) (hm : m ≤ 1048576) (w : World) (hT : Sl w B m c xs) (hR : Sl w A n cap p) :
    Calls Try.prog 14 #[.agg #[.slice B m c], .slice A n cap] w fun e w' => e = .returned (.bool (vp xs p)) ∧ Le w w' := by
  rw [← vp_same]
  exact iValidProgram_any B A m c n cap xs p hm w hT hR
end

section
def glB (xs : List Cls) (p : List Lin) (i : Int) : Bool := vp xs p && rng 0 ((p.length : Int) - 1) i
theorem glB_iff {xs : List Cls} {p : List Lin} {i : Int} : glB xs p i = true ↔ vp xs p = true ∧ ∃ k : Nat, i = k ∧ k < p.length := by
  unfold glB
  rw [Bool.and_eq_true, rng_iff]
  refine and_congr_right fun _ => ?_
  constructor
  · rintro ⟨h1, h2⟩
    exact ⟨i.toNat, by omega, by omega⟩
  · rintro ⟨k, rfl, h⟩
    omega
theorem encl_ok {p : List Lin} {i : Nat} (hi : i < p.length) (hsm : p.length ≤ 1048576) : ∀ y ∈ nI (encl p i), Enc.ok y := nI_ok (fun x hx => by have := encl_lt x hx; exact this) (by omega)
def enX (xs : List Cls) (p : List Lin) (i : Int) : List Int := cond (glB xs p i) (nI (encl p i.toNat)) []
theorem enX_len (xs : List Cls) (p : List Lin) (i : Int) : (enX xs p i).length ≤ 1048576 := by
  unfold enX
  cases h : glB xs p i
  · simp
  · obtain ⟨h1, k, rfl, hk⟩ := glB_iff.1 h
    have := (goodP_of h1).len
    have := encl_len p k
    show (nI _).length ≤ _
    rw [nI_len, Int.toNat_natCast]; omega
end
end Go.Proofs.Ytlepgfccnfcagaa
