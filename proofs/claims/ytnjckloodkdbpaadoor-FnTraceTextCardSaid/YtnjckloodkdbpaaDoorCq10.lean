/- one text of TkI, TkB, Cu, TkD, TkE, H, ElFrame -/
import Derived.Test.YtnjckloodkdbpaaDoorShelf
import Derived.Test.YtnjckloodkdbpaaDoorCq7
import Derived.Test.YtnjckloodkdbpaaDoorCq1
import Derived.Test.YtnjckloodkdbpaaDoorCq8
import Derived.Test.YtnjckloodkdbpaaDoorCq5
import Derived.Test.YtnjckloodkdbpaaDoorCq9
import Derived.Test.YtnjckloodkdbpaaDoorCq2
import Derived.Lib.ItoaMem
import Derived.Lib.Join
import Derived.Deep.RegionHeld3
import Derived.ProofKit
import Derived.OpenShut
import Derived.ShutString
import Derived.ChangeOld
import Derived.Deep.Slices
import Derived.Lib.SmallJoins
namespace Go.Proofs.YtnjckloodkdbpaaDoor
open Go.RowKit
set_option linter.unusedVariables false
section
open Go.RowKit Go.Sort
theorem lt_of_var {w : World} {P : Program} {nm : String} {cs : Array Value} (h : w.var? P nm = some cs) : ∃ g, P.globalNamed nm = some g ∧ g < w.heap.size := by
  unfold World.var? at h
  obtain ⟨g, hg, h⟩ := Option.bind_eq_some_iff.1 h
  refine ⟨g, hg, ?_⟩
  rcases Nat.lt_or_ge g w.heap.size with h' | h'
  · exact h'
  · rw [Array.getElem?_eq_none h'] at h; cases h
theorem var_le {w w' : World} {P : Program} {nm : String} {cs : Array Value} (h : w.var? P nm = some cs) (hl : Le w w') : w'.var? P nm = some cs := by
  obtain ⟨g, hg, hlt⟩ := lt_of_var h
  unfold World.var? at h ⊢
  rw [hg] at h ⊢
  simp only [Option.bind_some] at h ⊢
  rw [Below.block hl g hlt]
  exact h
/-- the table that strconv reads lies there -/
def TabW (w : World) : Prop := Lib.TabIs Tryd.prog w "internal/strconv.uint64pow10" .u64 Lib.pow10Tab
theorem TabW.le {w w' : World} (h : TabW w) (hl : Le w w') : TabW w' := var_le h hl
theorem le_grow (w : World) (k : Nat) (os : Array Obj) : Le w (grow (w.drewN k) os) := ⟨rfl, rfl, rfl, by show w.heap.size ≤ (w.heap ++ os).size; rw [Array.size_append]; omega, fun j hj => by show (w.heap ++ os)[j]? = _; exact Array.getElem?_append_left hj⟩
theorem dec_lo {n : Nat} (h : n < 10) : Lib.decDigits n = [dg n] := by rw [Lib.decDigits, dif_pos h]; rfl
theorem dec_hi {n : Nat} (h : 10 ≤ n) : Lib.decDigits n = Lib.decDigits (n / 10) ++ [dg (n % 10)] := by rw [Lib.decDigits, dif_neg (by omega)]; rfl
theorem itoa_num {n : Nat} (h : n < 1000) : Lib.itoa (n : Int) = numL n := by
  have one : ∀ m, m < 10 → numL m = [dg m] := fun m hm => by unfold numL; rw [if_pos hm]
  rw [Lib.itoa_nonneg]
  by_cases h1 : n < 10
  · rw [dec_lo h1, one n h1]
  · rw [dec_hi (by omega), numL_two ⟨n, h⟩ (by show 10 ≤ n; omega)]
    dsimp only
    rw [one (n % 10) (by omega)]
    congr 1
    by_cases h2 : n / 10 < 10
    · rw [dec_lo h2, one _ h2]
    · rw [dec_hi (by omega), numL_two ⟨n / 10, by omega⟩ (by show 10 ≤ n / 10; omega)]
      dsimp only
      rw [one (n / 10 % 10) (by omega), dec_lo (n := n / 10 / 10) (by omega), one (n / 10 / 10) (by omega)]
theorem itoa3_any (n : Nat) (w : World) (h : n < 1000) (hT : TabW w) : Calls Tryd.prog 46 #[.int .i64 n] w fun e w' => e = .returned (.string (tb (numL n))) ∧ Le w w' := by
  refine (Tryd.strconv_Itoa (n : Int) (by omega) (by omega) w hT).mono ?_
  rintro e w' ⟨rfl, k, os, rfl⟩
  refine ⟨?_, le_grow w k os⟩
  rw [itoa_num h]; rfl
theorem jn_join : ∀ L : List (List UInt8), Lib.join L [32] = jn L
  | [] => rfl
  | [a] => by rw [Lib.join_one]; rfl
  | a :: b :: r => by
    have ih := jn_join (b :: r)
    unfold Lib.join at ih ⊢
    rw [jn_cons (by simp), ← ih]
    simp [List.intercalate, List.intersperse]
theorem join_any (A : Option Addr) (n c : Nat) (L : List ByteArray) (w : World) (S : Sl w A n c L) (hl : (jn (L.map bl)).length ≤ 1000000) (hn : n ≤ 1000000) :
    Calls Tryd.prog 25 #[.slice A n c, .string ⟨#[32]⟩] w fun e w' => e = .returned (.string (tb (jn (L.map bl)))) ∧ Le w w' := by
  obtain rfl := S.len
  cases L with
  | nil =>
    refine (Tryd.strings_Join_none A c ⟨#[32]⟩ w).mono ?_
    rintro e w' ⟨rfl, rfl⟩
    exact ⟨rfl, Le.refl _⟩
  | cons x r =>
    obtain ⟨b, o, rfl, hb, hc⟩ := S.at_ (by simp)
    have e1 : Lib.join ((x :: r).map (·.data.toList)) (⟨#[32]⟩ : ByteArray).data.toList = jn ((x :: r).map bl) := jn_join _
    refine (Tryd.strings_Join b o c (x :: r) ⟨#[32]⟩ w (fun j y hj => hc j _ (by
      have : ((x :: r).flatMap (Enc.cells (α := ByteArray)))[j]? = ((x :: r).map (fun s => Value.string s))[j]? := by
        congr 1
        induction (x :: r) with
        | nil => rfl
        | cons y q ih => rw [List.flatMap_cons, List.map_cons, ih]; rfl
      rw [this, List.getElem?_map, hj]; rfl)) hb (by omega) S.cap_ (by rw [e1]; omega)).mono ?_
    rintro e w' ⟨rfl, hB⟩
    exact ⟨by rw [e1]; rfl, hB⟩
end

section
theorem box3R (w : World) (a : ByteArray) (b c : Int) (T : TypeId) : (w.alloc (.cells #[.string a, .int .i64 b, .int .i64 c] T)).cell? ⟨w.heap.size, 0, none⟩ = some (.string a) ∧ (w.alloc (.cells #[.string a, .int .i64 b, .int .i64 c] T)).cell? ⟨w.heap.size, 1, none⟩ = some (.int .i64 b) ∧ (w.alloc (.cells #[.string a, .int .i64 b, .int .i64 c] T)).cell? ⟨w.heap.size, 2, none⟩ = some (.int .i64 c) ∧ w.heap.size < (w.alloc (.cells #[.string a, .int .i64 b, .int .i64 c] T)).heap.size ∧ Le w (w.alloc (.cells #[.string a, .int .i64 b, .int .i64 c] T)) := by
  refine ⟨?_, ?_, ?_, by simp, Le.new w _⟩ <;> (rw [World.cell?_alloc_at _ _ _ _ rfl]; rfl)
set_option maxHeartbeats 2000000 in
set_option maxRecDepth 100000 in
theorem rowText_any (r : Rwf) (w : World) (hr : okRw r) (hT : TabW w) :
    Calls Tryd.prog 24 #[.agg #[.string r.fn, .int .i64 r.line, .int .i64 r.times]] w fun e w' => e = .returned (.string (tb (rowB r))) ∧ Le w w' := by
  have H1 := Lib.hid (row_one (r := r))
  have HM := Lib.hid (row_more (r := r))
  obtain ⟨r1, r2, r3, r4, r5⟩ := hr
  have hfn := (name_rng r1).2.2
  rw [bl_len] at hfn
  obtain ⟨fn, line, times⟩ := r
  obtain ⟨ln, rfl⟩ : ∃ ln : Nat, line = ln := ⟨line.toNat, by dsimp only at *; omega⟩
  obtain ⟨tm, rfl⟩ : ∃ tm : Nat, times = tm := ⟨times.toNat, by dsimp only at *; omega⟩
  dsimp only at *
  have l1 : ln < 1000 := by omega
  have t1 : tm < 1000 := by omega
  have e1 : (ln : Int).toNat = ln := by omega
  have e2 : (tm : Int).toNat = tm := by omega
  rw [e1] at H1 HM
  rw [e2] at HM
  have zn1 := num_size l1
  have zn2 := num_size t1
  have HN1 := Lib.hid (fun W (h : TabW W) => itoa3_any ln W l1 h)
  have HN2 := Lib.hid (fun W (h : TabW W) => itoa3_any tm W t1 h)
  obtain ⟨rb, hrb⟩ : ∃ rb, Hid (tb (rowB ⟨fn, ln, tm⟩) = rb) := ⟨_, Lib.hid rfl⟩
  rw [hrb.out] at H1 HM
  obtain ⟨u1, hu1⟩ : ∃ u, tb (numL ln) = u := ⟨_, rfl⟩
  obtain ⟨u2, hu2⟩ : ∃ u, tb (numL tm) = u := ⟨_, rfl⟩
  rw [hu1] at HN1 zn1 H1 HM
  rw [hu2] at HN2 zn2 HM
  clear hu1 hu2 e1 e2 r1 r2 r3 r4 r5
  have s2 : ∀ W, (Op.stringOp .add fn ⟨#[58]⟩).run Tryd.prog W = .ok (.string (fn ++ colT1)) W := str_sum fn colT1 (by omega) (by decide)
  have z2 : (fn ++ colT1).size ≤ 7 := by rw [ByteArray.size_append]; have : colT1.size = 1 := rfl; omega
  obtain ⟨y2, hy2⟩ : ∃ y, fn ++ colT1 = y := ⟨_, rfl⟩
  rw [hy2] at s2 z2 H1 HM
  have s3 : ∀ W, (Op.stringOp .add y2 u1).run Tryd.prog W = .ok (.string (y2 ++ u1)) W := str_sum y2 u1 (by omega) (by omega)
  have z3 : (y2 ++ u1).size ≤ 10 := by rw [ByteArray.size_append]; omega
  obtain ⟨y3, hy3⟩ : ∃ y, y2 ++ u1 = y := ⟨_, rfl⟩
  rw [hy3] at s3 z3 H1 HM
  have s4 : ∀ W, (Op.stringOp .add y3 ⟨#[42]⟩).run Tryd.prog W = .ok (.string (y3 ++ starT1)) W := str_sum y3 starT1 (by omega) (by decide)
  have z4 : (y3 ++ starT1).size ≤ 11 := by rw [ByteArray.size_append]; have : starT1.size = 1 := rfl; omega
  obtain ⟨y4, hy4⟩ : ∃ y, y3 ++ starT1 = y := ⟨_, rfl⟩
  rw [hy4] at s4 z4 HM
  have s5 : ∀ W, (Op.stringOp .add y4 u2).run Tryd.prog W = .ok (.string (y4 ++ u2)) W := str_sum y4 u2 (by omega) (by omega)
  clear hy2 hy3 hy4 z2 z3 z4 zn1 zn2 hfn
  obtain ⟨c0, c1, c2, z0, L0⟩ := box3R w fn ln tm 47
  have T0 := hT.le L0
  go_enter Tryd.func24, Tryd.ntmps24
  go_wp2_with fail
  generalize w.alloc (.cells #[.string fn, .int .i64 (ln : Int), .int .i64 (tm : Int)] 47) = W at *
  have E0 := cell_ext z0 c0
  have E1 := cell_ext z0 c1
  refine wp_region_ext (by kernel_rfl) (by kernel_rfl) ?_
  repeat (go_big_quiet_step (first | (go_at_call 46; exact Calls.ext_of (HN1.out _ (T0.le (Le.ext _ _))))))
  refine wpQuiet_nil ?_
  intro _ hw'
  obtain ⟨gg, rfl⟩ := hw'
  have L2 := Le.ext W gg
  generalize W.ext gg = W2 at *
  replace c2 := (L2.cell z0).trans c2
  replace T0 := T0.le L2
  replace L0 := L0.trans L2
  clear E0 E1 L2 s2 s3 c0 c1
  by_cases ht : tm = 1
  · have htd : ((tm : Int) == 1) = true := by rw [beq_iff_eq]; omega
    have hn1 := H1.out (by omega)
    clear ht
    go_wp2
    go_ret
    exact ⟨ret_str (by rw [hrb.out, hn1]), L0⟩
  · have htd : ((tm : Int) == 1) = false := by rw [beq_eq_false_iff_ne]; omega
    have hn1 := HM.out (by omega)
    clear ht
    go_wp2_with fail
    refine (HN2.out _ T0).mono ?_
    rintro e w' ⟨rfl, hle⟩
    replace L0 := L0.trans hle
    go_wp2
    go_ret
    exact ⟨ret_str (by rw [hrb.out, hn1]), L0⟩
def rowS (r : Rwf) : ByteArray := tb (rowB r)
theorem rowS_bl (R : List Rwf) : (R.map rowS).map bl = R.map rowB := by rw [List.map_map]; rfl
set_option maxHeartbeats 2000000 in
set_option maxRecDepth 100000 in
theorem iTraceText_any (A : Option Addr) (n c : Nat) (xs : List Frm) (w : World) (hR : Sl w A n c xs) (hT : TabW w) :
    Calls Tryd.prog 9 #[.slice A n c] w fun e w' => e = .returned (.string (trX xs)) ∧ Le w w' := by
  obtain ⟨i0, hi, hz0, hz1, hz2⟩ := info_parts infoStrT
  go_enter Tryd.func9, Tryd.ntmps9
  go_wp2_with fail
  refine (iFoldTrace_any A n c xs w hR).mono ?_
  rintro e w1 ⟨v, rfl, D, hle⟩
  obtain ⟨A1, c1, rfl, S, -⟩ := D.form (by decide)
  have T1 := hT.le hle
  clear D hR hT
  have hF : Hid ((∀ r ∈ foldX xs, okRw r) ∧ (foldX xs).length ≤ 12 ∧ trX xs = tb (jn ((foldX xs).map rowB))) := by
    cases hv : vTr xs
    · have e : foldX xs = [] := by unfold foldX; rw [hv]; rfl
      rw [e, trX_of hv]
      exact ⟨fun r h => by simp at h, by simp, rfl⟩
    · have e : foldX xs = foldL xs := by unfold foldX; rw [hv]; rfl
      rw [e, trX_of hv]
      exact ⟨foldL_okRw hv, foldL_12 hv, rfl⟩
  obtain ⟨R, hR0⟩ : ∃ R, foldX xs = R := ⟨_, rfl⟩
  obtain ⟨tx, htx⟩ : ∃ tx, Hid (trX xs = tx) := ⟨_, Lib.hid rfl⟩
  rw [hR0] at hF S ⊢
  clear hR0
  obtain ⟨hok, h12, hX⟩ := hF.out
  rw [htx.out] at hX
  have HX := Lib.hid hX
  have HOK := Lib.hid hok
  have HTL := Lib.hid (tr_len hok h12 R.length)
  clear hok hX hF
  have hlE : (R.map rowS).length = R.length := List.length_map ..
  have HLE := Lib.hid hlE
  clear hlE
  go_wp2
  go_loopw [3, 9] (fun v i wr => ∃ (k : Nat) (A' : Option Addr) (c' : Nat), k ≤ R.length ∧ i = .int .i64 k ∧ v = .slice A' k c' ∧ wr.ownsRow w1.heap.size 9 1 v k (((R.take k).map rowS).flatMap Enc.cells) ∧ Le w1 wr) (fun _ i _ => R.length - (intOf i).toNat)
  case atStart => exact ⟨0, none, 0, Nat.zero_le _, rfl, rfl, World.ownsRow_nil _ _ _ _, Le.refl _⟩
  case round =>
    obtain ⟨k, A', c', hk, rfl, rfl, O, LW⟩ := hrel
    have St := S.le LW
    by_cases hlt : k < R.length
    · have hki : (k : Int) < R.length := by omega
      have hr := HOK.out R[k] (List.getElem_mem hlt)
      have hsn : (R.take (k + 1)).map rowS = (R.take k).map rowS ++ [rowS R[k]] := by rw [List.take_succ_eq_append_getElem hlt, List.map_append]; rfl
      have HSN := Lib.hid hsn
      have htl : ((R.take k).map rowS).length = k := by rw [List.length_map, List.length_take]; omega
      have HTK := Lib.hid htl
      clear hsn htl
      have hsz : (rowS R[k]).size ≤ 14 := rowB_len hr
      obtain ⟨b, off, rfl, hb, q0, q1, q2, -⟩ := St.rwf_at hlt
      have HRT := Lib.hid (fun W h => rowText_any R[k] W hr h)
      clear hr St
      go_wp2_with fail
      have LN := Le.new wr (.cells #[.string R[k].fn, .int .i64 R[k].line, .int .i64 R[k].times] 47)
      replace O := own_le O LN
      replace LW := LW.trans LN
      clear LN q0 q1 q2
      generalize wr.alloc (.cells #[.string R[k].fn, .int .i64 R[k].line, .int .i64 R[k].times] 47) = W2 at *
      refine (HRT.out W2 (T1.le LW)).mono ?_
      rintro e w3 ⟨rfl, hle3⟩
      replace O := own_le O hle3
      replace LW := LW.trans hle3
      clear hle3
      have e9 : Hid (tb (rowB R[k]) = rowS R[k]) := rfl
      rw [e9.out]
      have hok : Enc.ok (rowS R[k]) := by show (rowS R[k]).size ≤ 9223372036854775807; omega
      obtain ⟨E, hE⟩ : ∃ E, (R.take k).map rowS = E := ⟨_, rfl⟩
      rw [hE] at O HSN HTK
      generalize rowS R[k] = x at *
      clear hE e9
      go_wp2_with (first | (at_builtin; refine wpList_append_sl rfl _ _ 43 rfl w1.heap.size 9 i0 _ 16 Tryd.underlying43 hi hz0 hz1 hz2 rfl (.slice A' k c') k E rfl (O.alloc _) _ 1 1 [x] rfl (sl_one x rfl hok rfl) (by unfold maxLen; omega) (by omega) (LW.alloc _).size ?_; intro v1 w4 O4 hg4 hat4; have L4 := (LW.alloc _).grown hg4 (fun j hj => (O.lt j hj).1); clear hg4 hat4))
      obtain ⟨A5, q5, rfl⟩ := own_form O4
      go_roundw
      case rel => exact ⟨k + 1, A5, q5, by omega, by go_num, rfl, by rw [HSN.out]; exact O4, L4⟩
      case measure => simp [intOf]; omega
    · have hki : ¬ (k : Int) < R.length := by omega
      obtain rfl : k = R.length := by omega
      rw [List.take_length] at O
      have O' : wr.ownsRow w1.heap.size 9 1 (.slice A' (R.map rowS).length c') (R.map rowS).length ((R.map rowS).flatMap Enc.cells) := by rw [HLE.out]; exact O
      have S2 : Sl wr A' (R.map rowS).length c' (R.map rowS) := Sl.of_own O' rfl (by decide) (fun x hx => by
        obtain ⟨r, hr, rfl⟩ := List.mem_map.1 hx
        have := rowB_len (HOK.out r hr)
        show (rowB r).length ≤ 9223372036854775807
        omega)
      rw [HLE.out] at S2
      clear O'
      have hj : (jn ((R.map rowS).map bl)).length ≤ 1000000 := by
        rw [rowS_bl]
        have := HTL.out
        rw [List.take_length] at this
        have h2 : (jn (R.map rowB)).length ≤ 180 := this
        omega
      clear O
      go_wp2_with fail
      refine (join_any A' R.length c' (R.map rowS) wr S2 hj (by omega)).mono ?_
      rintro e w5 ⟨rfl, hle5⟩
      have e7 : Hid (tb (jn ((R.map rowS).map bl)) = tx) := by show _ = _; rw [rowS_bl, HX.out]
      rw [e7.out]
      go_wp2
      go_ret
      exact ⟨ret_str htx.out.symm, (hle.trans LW).trans hle5⟩
end

section
theorem cutA_ext {s : ByteArray} {a r : List UInt8} {c : UInt8} (h : bl s = a ++ c :: r) : s.extract 0 a.length = tb a ∧ s.extract (a.length + 1) s.size = tb r ∧ a.length + 1 ≤ s.size := by
  have hl : s.size = a.length + 1 + r.length := by
    have := congrArg List.length h
    rw [bl_len] at this; simp at this; omega
  have e : s = tb a ++ (tb [c] ++ tb r) := bl_inj (by rw [bl_app, bl_app, bl_tb, bl_tb, bl_tb, h]; rfl)
  refine ⟨?_, ?_, by omega⟩
  · rw [e]; exact ByteArray.extract_append_eq_left rfl
  · have e2 : s = (tb a ++ tb [c]) ++ tb r := by rw [ByteArray.append_assoc]; exact e
    have h1 : a.length + 1 = (tb a ++ tb [c]).size := by rw [ByteArray.size_append]; rfl
    rw [hl, e2]
    refine ByteArray.extract_append_eq_right h1 ?_
    rw [← h1]; rfl
set_option maxRecDepth 100000 in
theorem slCut_any (s : ByteArray) (c : UInt8) (w : World) (hs : s.size ≤ 1048576) :
    Calls Tryd.prog 53 #[.string s, .string ⟨#[c]⟩] w fun e w' => e = .returned (.tuple #[.string (tb (Lib.cut (bl s) [c]).1), .string (tb (Lib.cut (bl s) [c]).2.1), .bool (Lib.cut (bl s) [c]).2.2]) ∧ Le w w' := by
  go_enter Tryd.func53, Tryd.ntmps53
  go_wp2_with fail
  refine (Tryd.stringslite_Index_one s c w).mono ?_
  rintro e w1 ⟨rfl, rfl⟩
  rcases split_or c (bl s) with h | ⟨a, r, e, h⟩
  · have hi : Lib.indexByte s.data.toList c = -1 := indexByte_miss h
    rw [hi]
    have HX := Lib.hid (cut_one h)
    clear hi h
    go_wp2
    go_ret3
    exact ⟨by rw [HX.out]; rfl, Le.refl _⟩
  · have hi : Lib.indexByte s.data.toList c = (a.length : Int) := by
      show Lib.indexByte (bl s) c = _
      rw [e]; exact indexByte_skip h r
    rw [hi]
    obtain ⟨h1, h2, h3⟩ := cutA_ext e
    have HX : Hid (Lib.cut (bl s) [c] = (a, r, true)) := by show _ = _; rw [e]; exact cut_line h r
    have H1 := Lib.hid h1
    have H2 := Lib.hid h2
    have k0 : (0 : Int) ≤ (a.length : Int) := by omega
    have k1 : (a.length : Int) ≤ (s.size : Int) := by omega
    have k2 : (a.length : Int) + 1 ≤ (s.size : Int) := by omega
    have k3 : IntKind.i64.wrap ((a.length : Int) + 1) = (a.length : Int) + 1 := IntWalk.i64_in _ (by omega)
    have k4 : (0 : Int) ≤ (a.length : Int) + 1 := by omega
    clear hi h h1 h2 e
    generalize a.length = q at *
    go_wp2_with fail
    refine wp_region_ext (by kernel_rfl) (by kernel_rfl) ?_
    repeat (go_big_quiet_step (fail))
    refine wpQuiet_nil ?_
    intro _ hw'
    obtain ⟨gg, rfl⟩ := hw'
    have L1 := Le.ext w1 gg
    generalize w1.ext gg = W2 at *
    go_wp2
    go_ret3
    refine ⟨?_, L1⟩
    rw [HX.out]
    show _ = Ending.returned (.tuple #[.string (tb a), .string (tb r), .bool true])
    rw [← H1.out, ← H2.out]
    rfl
set_option maxRecDepth 100000 in
theorem cut_any (s : ByteArray) (c : UInt8) (w : World) (hs : s.size ≤ 1048576) :
    Calls Tryd.prog 30 #[.string s, .string ⟨#[c]⟩] w fun e w' => e = .returned (.tuple #[.string (tb (Lib.cut (bl s) [c]).1), .string (tb (Lib.cut (bl s) [c]).2.1), .bool (Lib.cut (bl s) [c]).2.2]) ∧ Le w w' := by
  go_enter Tryd.func30, Tryd.ntmps30
  go_wp2_with fail
  refine (slCut_any s c w hs).mono ?_
  rintro e w1 ⟨rfl, hle⟩
  go_wp2
  go_ret3
  exact ⟨rfl, hle⟩
end

section
/-- the errors that strconv names lie there -/
def ErrW (w : World) : Prop := (∃ t p, w.cell? ⟨1, 0, none⟩ = some (.iface t p)) ∧ (∃ t p, w.cell? ⟨2, 0, none⟩ = some (.iface t p))
theorem cell_in {w : World} {a : Addr} {v : Value} (h : w.cell? a = some v) : a.block < w.heap.size := by
  rcases Nat.lt_or_ge a.block w.heap.size with h' | h'
  · exact h'
  · simp [World.cell?, Array.getElem?_eq_none h'] at h
theorem ErrW.le {w w' : World} (h : ErrW w) (hl : Le w w') : ErrW w' := by
  obtain ⟨⟨t, p, h1⟩, ⟨u, q, h2⟩⟩ := h
  exact ⟨⟨t, p, (hl.cell (cell_in h1)).trans h1⟩, ⟨u, q, (hl.cell (cell_in h2)).trans h2⟩⟩
theorem atoi_bad (s : ByteArray) (hlim : s.size ≤ 281474976710656) (h1 : ∀ v, Lib.atoiAll s.data.toList ≠ .ok v) (h2 : Lib.atoiAll s.data.toList ≠ .range) (ev : Value) (w : World) (hv : w.cell? ⟨1, 0, none⟩ = some ev) (hev : ev = .nilIface ∨ ∃ te pe, ev = .iface te pe) :
    Calls Tryd.prog 54 #[.string s] w fun e w' => ∃ u, e = .returned (.tuple #[.int .i64 0, u]) ∧ Le w w' := by
  have h := Any.strconv_Atoi_syntax Tryd.laysC172 s hlim (by
    cases h : Lib.atoiAll s.data.toList with
    | ok v => exact absurd h (h1 v)
    | range => exact absurd h h2
    | _ => rfl) ev w hv hev
  exact h.mono fun e w' ⟨N, he, _, _, hB⟩ => ⟨_, he, hB⟩
theorem atoi_any (s : ByteArray) (w : World) (hs : s.size ≤ 1048576) (hE : ErrW w) :
    Calls Tryd.prog 54 #[.string s] w fun e w' => ∃ u, e = .returned (.tuple #[.int .i64 (atI (bl s)), u]) ∧ Le w w' := by
  obtain ⟨⟨t, p, h1⟩, ⟨u, q, h2⟩⟩ := hE
  cases h : Lib.atoiAll s.data.toList with
  | ok v =>
    refine (Tryd.strconv_Atoi_ok s (by omega) v h w).mono ?_
    rintro e w' ⟨rfl, hw⟩
    refine ⟨_, by unfold atI; rw [show Lib.atoiAll (bl s) = .ok v from h], ?_⟩
    rcases hw with rfl | ⟨t, rfl⟩
    · exact Le.refl _
    · exact Lib.bytesWorld_below _ _ _
  | range =>
    refine (Tryd.strconv_Atoi_range s (by omega) h _ w h2 (.inr ⟨_, _, rfl⟩)).mono ?_
    rintro e w' ⟨N, rfl, -, -, hB⟩
    exact ⟨_, by unfold atI; rw [show Lib.atoiAll (bl s) = .range from h]; rfl, hB⟩
  | _ =>
    refine (atoi_bad s (by omega) (fun v => by rw [h]; exact fun e => nomatch e) (by rw [h]; exact fun e => nomatch e) _ w h1 (.inr ⟨_, _, rfl⟩)).mono ?_
    rintro e w' ⟨u, rfl, hB⟩
    exact ⟨u, by unfold atI; rw [show Lib.atoiAll (bl s) = _ from h], hB⟩
set_option maxHeartbeats 2000000 in
set_option maxRecDepth 100000 in
theorem iparseRow_any (s : ByteArray) (w : World) (hs : s.size ≤ 1048576) (hE : ErrW w) :
    Calls Tryd.prog 31 #[.string s] w (RowOut (pRowI (bl s)) w) := by
  obtain ⟨z, hz⟩ : ∃ z, Hid (pRowI (bl s) = z) := ⟨_, Lib.hid rfl⟩
  have l1 := (cut_fst_len 58 (bl s)).2
  rw [bl_len] at l1
  obtain ⟨nm, hnm⟩ : ∃ nm, tb (Lib.cut (bl s) [58]).1 = nm := ⟨_, rfl⟩
  obtain ⟨ns, hns⟩ : ∃ ns, (Lib.cut (bl s) [58]).2.1 = ns := ⟨_, rfl⟩
  rw [hns] at l1
  have l2 := (cut_fst_len 42 ns).1
  have l3 := (cut_fst_len 42 ns).2
  have hz1 : z = ⟨nm, atI (Lib.cut ns [42]).1, if (Lib.cut ns [42]).2.2 then atI (Lib.cut ns [42]).2.1 else 1⟩ := by
    rw [← hz.out]; unfold pRowI; rw [hnm, hns]
  obtain ⟨cl, hcl⟩ : ∃ cl, (Lib.cut ns [42]).1 = cl := ⟨_, rfl⟩
  obtain ⟨ct, hct⟩ : ∃ ct, (Lib.cut ns [42]).2.1 = ct := ⟨_, rfl⟩
  obtain ⟨sv, hsv⟩ : ∃ sv, (Lib.cut ns [42]).2.2 = sv := ⟨_, rfl⟩
  rw [hcl] at hz1 l2
  rw [hct] at hz1 l3
  rw [hsv] at hz1
  have HC1 : Hid (∀ W, Calls Tryd.prog 30 #[.string s, .string ⟨#[58]⟩] W fun e w' => ∃ b, e = .returned (.tuple #[.string nm, .string (tb ns), .bool b]) ∧ Le W w') := fun W => (cut_any s 58 W hs).mono fun e w' ⟨he, hl⟩ => ⟨(Lib.cut (bl s) [58]).2.2, by rw [he, hnm, hns], hl⟩
  have HC2 : Hid (∀ W, Calls Tryd.prog 30 #[.string (tb ns), .string ⟨#[42]⟩] W fun e w' => e = .returned (.tuple #[.string (tb cl), .string (tb ct), .bool sv]) ∧ Le W w') := fun W => (cut_any (tb ns) 42 W (by rw [tb_size]; omega)).mono fun e w' ⟨he, hl⟩ => ⟨by rw [he, bl_tb, hcl, hct, hsv], hl⟩
  have HA1 : Hid (∀ W, ErrW W → Calls Tryd.prog 54 #[.string (tb cl)] W fun e w' => ∃ u, e = .returned (.tuple #[.int .i64 (atI cl), u]) ∧ Le W w') := fun W h => atoi_any (tb cl) W (by rw [tb_size]; omega) h
  have HA2 : Hid (∀ W, ErrW W → Calls Tryd.prog 54 #[.string (tb ct)] W fun e w' => ∃ u, e = .returned (.tuple #[.int .i64 (atI ct), u]) ∧ Le W w') := fun W h => atoi_any (tb ct) W (by rw [tb_size]; omega) h
  have HZ := Lib.hid hz1
  clear hnm hns hcl hct hsv hz1 l1 l2 l3
  generalize atI cl = vl at *
  generalize atI ct = vt at *
  generalize tb cl = tcl at *
  generalize tb ct = tct at *
  generalize tb ns = tns at *
  go_enter Tryd.func31, Tryd.ntmps31
  go_wp2_with fail
  obtain ⟨a0, a1, a2, ya, fa, LA⟩ := box3Z w 47 0
  have RA : RowAt (w.alloc (.cells #[.string ⟨#[]⟩, .int .i64 0, .int .i64 0] 47)) w.heap.size rwf0 := ⟨a0, a1, a2, ya, fa⟩
  have ha1 : (w.alloc (.cells #[.string ⟨#[]⟩, .int .i64 0, .int .i64 0] 47)).heap.size = w.heap.size + 1 := by simp
  clear a0 a1 a2 ya fa
  generalize w.alloc (.cells #[.string ⟨#[]⟩, .int .i64 0, .int .i64 0] 47) = WA at *
  obtain ⟨b0, b1, b2, yb, fb, LB⟩ := box3Z WA 47 1
  have RB : RowAt (WA.alloc (.cells #[.string ⟨#[]⟩, .int .i64 0, .int .i64 1] 47)) (w.heap.size + 1) ⟨⟨#[]⟩, 0, 1⟩ := by rw [← ha1]; exact ⟨b0, b1, b2, yb, fb⟩
  have RA2 := RA.le LB
  have L0 := LA.trans LB
  clear b0 b1 b2 yb fb LA LB ha1 RA
  generalize WA.alloc (.cells #[.string ⟨#[]⟩, .int .i64 0, .int .i64 1] 47) = WB at *
  refine (HC1.out WB).mono ?_
  rintro e w1 ⟨bb, rfl, hle⟩
  have RA3 := RA2.le hle
  have RB3 := RB.le hle
  have L3 := L0.trans hle
  clear RA2 RB L0 hle
  go_wp2_with fail
  refine (HC2.out w1).mono ?_
  rintro e w2 ⟨rfl, hle⟩
  have RA4 := RA3.le hle
  have RB4 := RB3.le hle
  have L4 := L3.trans hle
  clear RA3 RB3 L3 hle
  have c0 := RB4.c0
  have f0 := RB4.f 0
  have RB5 := RB4.set0 nm
  have RA5 := RA4.other (q := w.heap.size + 1) (o := 0) (u := .string nm) (by omega)
  have L5 := L4.setCell (b := w.heap.size + 1) (o := 0) (by omega) (.string nm)
  clear RA4 RB4 L4
  go_wp2_with fail
  generalize w2.setCell ⟨w.heap.size + 1, 0, none⟩ (.string nm) = W5 at *
  clear c0 f0
  refine (HA1.out W5 (hE.le L5)).mono ?_
  rintro e w6 ⟨u6, rfl, hle⟩
  have RA6 := RA5.le hle
  have RB6 := RB5.le hle
  have L6 := L5.trans hle
  clear RA5 RB5 L5 hle
  have c1 := RB6.c1
  have f1 := RB6.f 1
  have RB7 := RB6.set1 vl
  have RA7 := RA6.other (q := w.heap.size + 1) (o := 1) (u := .int .i64 vl) (by omega)
  have L7 := L6.setCell (b := w.heap.size + 1) (o := 1) (by omega) (.int .i64 vl)
  clear RA6 RB6 L6
  cases sv
  · have hzz : Hid (z = ⟨nm, vl, 1⟩) := HZ.out
    clear HZ
    have n0 := RB7.c0
    have n1 := RB7.c1
    have n2 := RB7.c2
    have S1 := RA7.set0 nm
    have S2 := S1.set1 vl
    have S3 := S2.set2 1
    have a0 := RA7.c0
    have g0 := RA7.f 0
    have a1 := S1.c1
    have g1 := S1.f 1
    have a2 := S2.c2
    have g2 := S2.f 2
    have m0 := S3.c0
    have m1 := S3.c1
    have m2 := S3.c2
    have LF := ((L7.setCell (b := w.heap.size) (o := 0) (Nat.le_refl _) (.string nm)).setCell (b := w.heap.size) (o := 1) (Nat.le_refl _) (.int .i64 vl)).setCell (b := w.heap.size) (o := 2) (Nat.le_refl _) (.int .i64 1)
    clear RA7 RB7 S1 S2 S3 L7
    go_wp2
    exact bodyPost_ret (v := .agg #[.string nm, .int .i64 vl, .int .i64 1]) (by simp [results, Tryd.results31, go_sem, m0, m1, m2]) rfl ⟨by rw [hz.out, hzz.out], LF⟩
  · have hzz : Hid (z = ⟨nm, vl, vt⟩) := HZ.out
    clear HZ
    go_wp2_with fail
    generalize w6.setCell ⟨w.heap.size + 1, 1, none⟩ (.int .i64 vl) = W7 at *
    clear c1 f1
    refine (HA2.out W7 (hE.le L7)).mono ?_
    rintro e w8 ⟨u8, rfl, hle⟩
    have RA8 := RA7.le hle
    have RB8 := RB7.le hle
    have L8 := L7.trans hle
    clear RA7 RB7 L7 hle
    have c2 := RB8.c2
    have f2 := RB8.f 2
    have RB9 := RB8.set2 vt
    have RA9 := RA8.other (q := w.heap.size + 1) (o := 2) (u := .int .i64 vt) (by omega)
    have L9 := L8.setCell (b := w.heap.size + 1) (o := 2) (by omega) (.int .i64 vt)
    clear RA8 RB8 L8
    have n0 := RB9.c0
    have n1 := RB9.c1
    have n2 := RB9.c2
    have S1 := RA9.set0 nm
    have S2 := S1.set1 vl
    have S3 := S2.set2 vt
    have a0 := RA9.c0
    have g0 := RA9.f 0
    have a1 := S1.c1
    have g1 := S1.f 1
    have a2 := S2.c2
    have g2 := S2.f 2
    have m0 := S3.c0
    have m1 := S3.c1
    have m2 := S3.c2
    have LF := ((L9.setCell (b := w.heap.size) (o := 0) (Nat.le_refl _) (.string nm)).setCell (b := w.heap.size) (o := 1) (Nat.le_refl _) (.int .i64 vl)).setCell (b := w.heap.size) (o := 2) (Nat.le_refl _) (.int .i64 vt)
    clear RA9 RB9 S1 S2 S3 L9
    go_wp2
    exact bodyPost_ret (v := .agg #[.string nm, .int .i64 vl, .int .i64 vt]) (by simp [results, Tryd.results31, go_sem, m0, m1, m2]) rfl ⟨by rw [hz.out, hzz.out], LF⟩
end

section
def TkOut (w : World) (s : ByteArray) (e : Ending) (w' : World) : Prop := ∃ v, e = .returned (.tuple #[v, .bool (tkO (bl s))]) ∧ Owd 45 w w' v (tkX (bl s)) ∧ Le w w'
def szOf : Value → Nat
  | .string s => s.size
  | _ => 0
theorem pRowI_ok {l : List UInt8} (h : l.length ≤ 1048576) : Enc.ok (pRowI l) := by
  have h1 := (cut_fst_len 58 l).1
  refine ⟨?_, (atI_rng _).1, (atI_rng _).2, ?_, ?_⟩
  · show (Lib.cut l [58]).1.length ≤ 9223372036854775807; omega
  · show _ ≤ (if _ then atI _ else (1 : Int))
    split
    · exact (atI_rng _).1
    · decide
  · show (if _ then atI _ else (1 : Int)) ≤ _
    split
    · exact (atI_rng _).2
    · decide
set_option maxHeartbeats 2000000 in
set_option maxRecDepth 100000 in
theorem iParseTrace_any (s : ByteArray) (w : World) (hs : s.size ≤ 1048576) (hT : TabW w) (hE : ErrW w) :
    Calls Tryd.prog 12 #[.string s] w (TkOut w s) := by
  obtain ⟨i0, hi, hz0, hz1, hz2⟩ := info_parts infoRow
  obtain ⟨ob, hob⟩ : ∃ ob, Hid (tkO (bl s) = ob) := ⟨_, Lib.hid rfl⟩
  obtain ⟨xb, hxb⟩ : ∃ xb, Hid (tkX (bl s) = xb) := ⟨_, Lib.hid rfl⟩
  go_enter Tryd.func12, Tryd.ntmps12
  go_wp2
  go_loopw [4, 5] (fun v r wr => ∃ (W : List (List UInt8)) (t : ByteArray) (A' : Option Addr) (c' : Nat), W.length ≤ 12 ∧ v = .slice A' W.length c' ∧ r = .string t ∧ Hid (words (bl s) = W ++ words (bl t)) ∧ t.size ≤ s.size ∧ Hid (∀ x ∈ W, x.length ≤ 1048576) ∧
      wr.ownsRow w.heap.size 47 3 v W.length ((W.map pRowI).flatMap Enc.cells) ∧ Le w wr) (fun _ r _ => szOf r)
  case atStart => exact ⟨[], s, none, 0, Nat.zero_le _, rfl, rfl, rfl, Nat.le_refl _, Lib.hid (fun x h => by simp at h), World.ownsRow_nil _ _ _ _, Le.refl _⟩
  case round =>
    obtain ⟨W, t, A', c', hW, rfl, rfl, HWD, hts, HWL, O, LW⟩ := hrel
    by_cases ht0 : bl t = []
    · have he := empT.2 ht0
      have hws : Hid ((W.map pRowI) = rowsI (bl s)) := by
        show _ = _
        unfold rowsI
        rw [HWD.out, ht0, words_nil, List.append_nil]
      have hlm : (W.map pRowI).length = W.length := List.length_map ..
      have O' : wr.ownsRow w.heap.size 47 3 (.slice A' (W.map pRowI).length c') (W.map pRowI).length ((W.map pRowI).flatMap Enc.cells) := by rw [hlm]; exact O
      have S := Sl.of_own O' rfl (by decide) (fun x hx => by
        obtain ⟨l, hl, rfl⟩ := List.mem_map.1 hx
        exact pRowI_ok (HWL.out l hl))
      rw [hlm] at S
      clear O O' hlm ht0 HWD
      generalize W.map pRowI = R at *
      go_wp2_with fail
      refine (iUnfoldTrace_any A' W.length c' R wr S (by omega)).mono ?_
      rintro e w2 ⟨v2, rfl, D, hle⟩
      have L2 := LW.trans hle
      cases hu : unfOk R
      · have hbad := tk_unf (s := bl s) (by rw [← hws.out]; exact hu)
        rw [hob.out, hxb.out] at hbad
        have HB := Lib.hid hbad
        clear hbad hu D hle S
        go_wp2
        go_ret2
        exact ⟨_, by rw [hob.out, HB.out.1]; rfl, by rw [hxb.out, HB.out.2]; exact Owd.nil _ _ _, L2⟩
      · have hu2 : Hid (unfOk (rowsI (bl s)) = true) := by show _ = _; rw [← hws.out]; exact hu
        have hX : Hid (unfX R = unfX (rowsI (bl s))) := by show _ = _; rw [hws.out]
        have hv := (unfOk_facts hu).1
        have hTX : trX (unfX R) = tb (trB (foldL (unfX R))) := trX_of (b := true) hv
        obtain ⟨A2, c2, rfl, S2, -⟩ := D.form (by decide)
        have D2 : Owd 45 w w2 (.slice A2 (unfX R).length c2) (unfX R) := ⟨own_mono D.row LW.size, D.ok⟩
        obtain ⟨Y, hY⟩ : ∃ Y, unfX R = Y := ⟨_, rfl⟩
        rw [hY] at hX hTX S2 D2 ⊢
        clear D hle S hu hv hY hws HWL
        go_wp2_with fail
        refine (iTraceText_any A2 Y.length c2 Y w2 S2 (hT.le L2)).mono ?_
        rintro e w3 ⟨rfl, hle⟩
        have D3 : Owd 45 w w3 (.slice A2 Y.length c2) Y := ⟨own_le D2.row hle, D2.ok⟩
        have L3 := L2.trans hle
        clear D2 hle S2
        by_cases hq : trB (foldL Y) = bl s
        · have hgood := tk_good (s := bl s) hu2.out (by rw [← hX.out]; exact hq)
          rw [← hX.out, hob.out, hxb.out] at hgood
          have HG := Lib.hid hgood
          have hts : trX Y = s := by rw [hTX, hq, tb_bl]
          rw [hts]
          have hb2 : (s.toList == s.toList) = true := by simp
          have hb3 : (s.toList != s.toList) = false := by simp
          have HD3 := Lib.hid D3
          clear hgood hq hTX hts D3 hX
          go_wp2
          go_ret2
          exact ⟨_, by rw [hob.out, HG.out.1]; rfl, by rw [hxb.out, HG.out.2]; exact HD3.out, L3⟩
        · have hbad := tk_text (s := bl s) hu2.out (by rw [← hX.out]; exact hq)
          rw [hob.out, hxb.out] at hbad
          have HB := Lib.hid hbad
          have hne : trX Y ≠ s := fun e => hq (by rw [← e, hTX, bl_tb])
          have hb2 : ((trX Y).toList == s.toList) = false := str_ne hne
          have hb3 : ((trX Y).toList != s.toList) = true := by simp only [bne, hb2]; rfl
          clear hbad hq hTX hne D3 hX
          generalize trX Y = ty at *
          go_wp2
          go_ret2
          exact ⟨_, by rw [hob.out, HB.out.1]; rfl, by rw [hxb.out, HB.out.2]; exact Owd.nil _ _ _, L3⟩
    · have he := empF ht0
      have htp : 0 < t.size := by rw [← bl_len]; exact List.length_pos_iff.2 ht0
      by_cases h12 : W.length = 12
      · have h12b : ((W.length : Int) == 12) = true := by rw [h12]; rfl
        have hbad := tk_many (s := bl s) (by
          rw [HWD.out, words_step ht0, List.length_append, List.length_cons]; omega)
        rw [hob.out, hxb.out] at hbad
        have HB := Lib.hid hbad
        clear hbad O
        go_wp2
        go_ret2
        exact ⟨_, by rw [hob.out, HB.out.1]; rfl, by rw [hxb.out, HB.out.2]; exact Owd.nil _ _ _, LW⟩
      · have h12b : ((W.length : Int) == 12) = false := by rw [beq_eq_false_iff_ne]; omega
        have hsh := cut_shorter 32 ht0
        have hl1 := (cut_fst_len 32 (bl t)).1
        rw [bl_len] at hsh hl1
        have HWN : Hid (words (bl s) = (W ++ [(Lib.cut (bl t) [32]).1]) ++ words (Lib.cut (bl t) [32]).2.1) := by
          show _ = _
          rw [HWD.out, words_step ht0, List.append_assoc]; rfl
        have HC := Lib.hid (cut_any t 32 wr (by omega))
        obtain ⟨a, ha⟩ : ∃ a, (Lib.cut (bl t) [32]).1 = a := ⟨_, rfl⟩
        obtain ⟨q, hq⟩ : ∃ q, (Lib.cut (bl t) [32]).2.1 = q := ⟨_, rfl⟩
        obtain ⟨f, hf⟩ : ∃ f, (Lib.cut (bl t) [32]).2.2 = f := ⟨_, rfl⟩
        rw [ha, hq] at HWN
        rw [ha, hq, hf] at HC
        rw [ha] at hl1
        rw [hq] at hsh
        have hal : a.length ≤ 1048576 := by omega
        have hpok := pRowI_ok hal
        have HPI := Lib.hid (fun W' h => iparseRow_any (tb a) W' (by rw [tb_size]; omega) h)
        have hWl2 : Hid (∀ x ∈ W ++ [a], x.length ≤ 1048576) := fun x hx => by
          rcases List.mem_append.1 hx with h | h
          · exact HWL.out x h
          · rw [List.mem_singleton.1 h]; exact hal
        have hnl : W.length + 1 ≤ 12 := by omega
        clear ha hq hf ht0 HWD h12 HWL
        go_wp2_with fail
        refine HC.out.mono ?_
        rintro e w2 ⟨rfl, hle⟩
        replace O := own_le O hle
        replace LW := LW.trans hle
        clear hle HC
        go_wp2_with fail
        refine (HPI.out w2 (hE.le LW)).mono ?_
        rintro e w3 ⟨rfl, hle⟩
        replace O := own_le O hle
        replace LW := LW.trans hle
        have e9 : Hid (pRowI (bl (tb a)) = pRowI a) := rfl
        rw [e9.out]
        have hml : Hid ((W ++ [a]).map pRowI = W.map pRowI ++ [pRowI a]) := by show _ = _; simp
        have hwl : (W.map pRowI).length = W.length := List.length_map ..
        obtain ⟨E, hEE⟩ : ∃ E, W.map pRowI = E := ⟨_, rfl⟩
        rw [hEE] at O hml hwl
        have HEL := Lib.hid hwl
        have htbq : (tb q).size = q.length := rfl
        clear hle hEE hwl HPI e9
        generalize pRowI a = x at *
        go_wp2_with (first | (at_builtin; refine wpList_append_sl rfl _ _ 32 rfl w.heap.size 47 i0 _ 32 Tryd.underlying32 hi hz0 hz1 hz2 rfl (.slice A' W.length c') W.length E rfl (O.alloc _) _ 1 1 [x] rfl (sl_one x rfl hpok rfl) (by unfold maxLen; omega) (by omega) (LW.alloc _).size ?_; intro v1 w4 O4 hg4 hat4; have L4 := (LW.alloc _).grown hg4 (fun j hj => (O.lt j hj).1); clear hg4 hat4))
        obtain ⟨A5, q5, rfl⟩ := own_form O4
        go_roundw
        case rel => exact ⟨W ++ [a], tb q, A5, q5, by simp; omega, by simp, rfl, HWN.out, by omega, hWl2.out, by rw [hml.out, List.length_append]; exact O4, L4⟩
        case measure => simp [szOf]; omega
end

section
open Go.ChangeShapes Go.WideShapes Go.ChangeAt Go.RowKit Go.Deep Go.Joins

theorem list_of {α : Type} (p : Nat → α → Prop) : ∀ n, (∀ i, i < n → ∃ x, p i x) → ∃ xs : List α, xs.length = n ∧ ∀ i x, xs[i]? = some x → p i x
  | 0, _ => ⟨[], rfl, fun i x h => by simp at h⟩
  | n + 1, h => by
    obtain ⟨xs, hl, hx⟩ := list_of p n (fun i hi => h i (by omega))
    obtain ⟨x, hp⟩ := h n (by omega)
    refine ⟨xs ++ [x], by simp [hl], fun i y hy => ?_⟩
    rw [List.getElem?_append] at hy
    split at hy
    · exact hx i y hy
    · rename_i hge
      have hi : i = n := by
        rcases Nat.lt_or_ge (i - xs.length) 1 with h1 | h1
        · omega
        · rw [List.getElem?_eq_none (by simpa using h1)] at hy; cases hy
      subst hi
      rw [hl, Nat.sub_self] at hy
      simp at hy; subst hy; exact hp
theorem add_pl (b o n : Nat) : (⟨b, o, none⟩ : Addr).add n = ⟨b, o + n, none⟩ := by
  unfold Addr.add; split
  · next h => subst h; rfl
  · rfl

section
variable {H : Type} {enc : TypeId × Value → H} {P : Program} {w : World} {base : Nat} {spare : Nat → Bool} {held : Bool}
theorem open_sl {α : Type} [Enc α] {t e : TypeId} {fuel : Nat} {cs : List Value} {x : DataW H × List MemPlace} (ht : P.underlying t = some (.slice e)) (hC : P.cellsOf e = Enc.size α) (hp : 0 < Enc.size α)
    (hel : ∀ n cs' y, DataW.trod enc P w base spare held n e cs' = some y → ∃ x : α, cs' = Enc.cells x ∧ Enc.ok x) (h : DataW.trod enc P w base spare held fuel t cs = some x) :
    ∃ (A : Option Addr) (n cap : Nat) (xs : List α), cs = [.slice A n cap] ∧ Sl w A n cap xs := by
  rcases open_slice ht h with ⟨h0, _⟩ | ⟨a, len, cap, m, n, D, Pl, hcs, hb, hl, hm, hmm, hx, hi⟩
  · exact ⟨none, 0, 0, [], h0, Sl.nil w none 0 (by omega)⟩
  · have hlm : len ≤ m := by rw [hmm]; split <;> omega
    obtain ⟨xs, hlen, hxs⟩ := list_of (fun i (x : α) => Enc.ok x ∧ ∀ j, j < Enc.size α → w.cell? ((a.add (i * Enc.size α)).add j) = (Enc.cells x)[j]?) len (fun i hil => by
      obtain ⟨cs', hc, ht'⟩ := hi i (by omega)
      obtain ⟨x, rfl, hok⟩ := hel _ _ _ ht'
      rw [hC] at hc
      obtain ⟨_, _, hat⟩ := World.cells?_some hc
      exact ⟨x, hok, hat⟩)
    refine ⟨some a, len, cap, xs, hcs, hlen, hl, by simpa [maxLen] using hm, fun x hx => ?_, fun hn => ?_⟩
    · obtain ⟨i, hi⟩ := List.getElem?_of_mem hx
      exact (hxs i x hi).1
    · obtain ⟨b, off, spot⟩ := a
      have h0 := (hxs 0 xs[0] (List.getElem?_eq_getElem (by omega))).2 0 hp
      rw [List.getElem?_eq_getElem (by rw [Enc.len]; exact hp)] at h0
      have hs : spot = none := by simpa [Addr.add] using World.cell?_spot h0
      subst hs
      have hlt : b < w.heap.size := by
        have := World.block_lt_of_cell? _ _ h0
        rw [Nat.zero_mul, add_pl, add_pl] at this; exact this
      refine ⟨b, off, rfl, hlt, fun j u hu => ?_⟩
      have hjl : j < xs.length * Enc.size α := by
        have := (List.getElem?_eq_some_iff.1 hu).1
        rwa [flat_len] at this
      have hk : j / Enc.size α < xs.length := by rw [Nat.div_lt_iff_lt_mul hp]; exact hjl
      have hr : j % Enc.size α < Enc.size α := Nat.mod_lt _ hp
      have hdiv : j / Enc.size α * Enc.size α + j % Enc.size α = j := by rw [Nat.mul_comm]; exact Nat.div_add_mod _ _
      have h1 := (hxs (j / Enc.size α) _ (List.getElem?_eq_getElem hk)).2 _ hr
      rw [add_pl, add_pl, Nat.add_assoc, hdiv] at h1
      rw [h1, ← flat_at xs _ hk _ hr, hdiv, hu]

theorem el_cls {e : TypeId} {f0 f1 : Field} (he : P.underlying e = some (.struct #[f0, f1])) (hone : oneCellFields P #[f0, f1] = true) (hC : P.cellsOf e = 2) (h0 : P.underlying f0.type = some .string) (h1 : P.underlying f1.type = some (.int .i64)) :
    ∀ n cs' y, DataW.trod enc P w base spare held n e cs' = some y → ∃ x : Cls, cs' = Enc.cells x ∧ Enc.ok x := by
  intro n cs' y hy
  obtain ⟨y0, y1, n', _, hl, t0, t1⟩ := trod_struct2 he hy
  obtain ⟨o0, k0⟩ := hone_of hone 0 f0 rfl
  obtain ⟨o1, k1⟩ := hone_of hone 1 f1 rfl
  rw [hC] at hl
  match cs', hl with
  | [c0, c1], _ =>
    rw [o0, k0] at t0
    rw [o1, k1] at t1
    obtain ⟨s, hs, _, hsz⟩ := DataW.trod_string h0 t0
    obtain ⟨z, hz, _, hwf⟩ := DataW.trod_int h1 t1
    simp at hs hz
    subst hs; subst hz
    refine ⟨⟨s, z⟩, rfl, by simpa [maxLen] using hsz, ?_⟩
    simpa [Lit.wf, IntKind.min, IntKind.max, IntKind.signed, IntKind.bits] using hwf

theorem open_agg1 {r : Reach} {b0 : Nat} {t : TypeId} {f0 : Field} {v : Value} {d : DataW H} {p : List MemPlace} (hs : P.underlying t = some (.struct #[f0])) (hone : oneCellFields P #[f0] = true) (hC : P.cellsOf t = 1)
    (hv : Value.okWide P w r b0 t v) (h : DataW.Trod enc P w base spare held t v d p) :
    ∃ (v0 : Value) (y0 : DataW H × List MemPlace) (n : Nat), v = .agg #[v0] ∧ DataW.trod enc P w base spare held n f0.type [v0] = some y0 := by
  obtain ⟨cs, rfl, hsz⟩ := okWide_struct hs hv
  obtain ⟨l⟩ := cs
  match l, hsz.trans hC with
  | [c0], _ =>
    obtain ⟨fuel, hf⟩ := h
    obtain ⟨xs, n, _, hx, _, hlen, hg⟩ := DataW.trod_struct hs hf
    obtain ⟨o0, k0⟩ := hone_of hone 0 f0 rfl
    match xs, hlen with
    | [y0], _ => exact ⟨c0, y0, n, rfl, by simpa [Value.cells, o0, k0] using hg 0 f0 rfl⟩
end
end

section
open Go.ChangeShapes Go.WideShapes Go.ChangeAt Go.RowKit Go.Deep Go.Joins
section
variable {H : Type} {enc : TypeId × Value → H} {P : Program} {w : World} {base : Nat} {spare : Nat → Bool} {held : Bool}
theorem elt_frm {e : TypeId} {f0 f1 : Field} (he : P.underlying e = some (.struct #[f0, f1])) (hone : oneCellFields P #[f0, f1] = true) (hC : P.cellsOf e = 2) (h0 : P.underlying f0.type = some (.string)) (h1 : P.underlying f1.type = some (.int .i64)) :
    ∀ n cs' y, DataW.trod enc P w base spare held n e cs' = some y → ∃ x : Frm, cs' = Enc.cells x ∧ Enc.ok x := by
  intro n cs' y hy
  obtain ⟨ys, n', _, _, hl, hyl, hf⟩ := DataW.trod_struct he hy
  obtain ⟨o0, k0⟩ := hone_of hone 0 f0 rfl
  obtain ⟨o1, k1⟩ := hone_of hone 1 f1 rfl
  rw [hC] at hl
  match cs', hl, ys, hyl with
  | [c0, c1], _, [y0, y1], _ =>
    have t0 : DataW.trod enc P w base spare held n' f0.type [c0] = some y0 := by simpa [o0, k0] using hf 0 f0 rfl
    have t1 : DataW.trod enc P w base spare held n' f1.type [c1] = some y1 := by simpa [o1, k1] using hf 1 f1 rfl
    obtain ⟨z0, hz0, _, hr0⟩ := DataW.trod_string h0 t0
    simp at hz0; subst hz0
    obtain ⟨z1, hz1, _, hw1⟩ := DataW.trod_int h1 t1
    have hr1 : -9223372036854775808 ≤ z1 ∧ z1 ≤ 9223372036854775807 := by simpa [Lit.wf, IntKind.min, IntKind.max, IntKind.signed, IntKind.bits] using hw1
    simp at hz1; subst hz1
    exact ⟨⟨z0, z1⟩, rfl, by simpa [maxLen] using hr0, hr1.1, hr1.2⟩
theorem open_frm {r : Reach} {b0 : Nat} {t : TypeId} {f0 f1 : Field} {v : Value} {d : DataW H} {p : List MemPlace} (hs : P.underlying t = some (.struct #[f0, f1])) (hone : oneCellFields P #[f0, f1] = true) (hC : P.cellsOf t = 2) (h0 : P.underlying f0.type = some (.string)) (h1 : P.underlying f1.type = some (.int .i64))
    (hv : Value.okWide P w r b0 t v) (h : DataW.Trod enc P w base spare held t v d p) : ∃ x : Frm, v = .agg #[.string x.fn, .int .i64 x.line] ∧ Enc.ok x := by
  obtain ⟨cs, rfl, hsz⟩ := okWide_struct hs hv
  obtain ⟨l⟩ := cs
  match l, hsz.trans hC with
  | [c0, c1], _ =>
    obtain ⟨fuel, hf⟩ := h
    obtain ⟨xs, n, _, hx, _, hlen, hg⟩ := DataW.trod_struct hs hf
    obtain ⟨o0, k0⟩ := hone_of hone 0 f0 rfl
    obtain ⟨o1, k1⟩ := hone_of hone 1 f1 rfl
    match xs, hlen with
    | [y0, y1], _ =>
      have t0 : DataW.trod enc P w base spare held n f0.type [c0] = some y0 := by simpa [Value.cells, o0, k0] using hg 0 f0 rfl
      have t1 : DataW.trod enc P w base spare held n f1.type [c1] = some y1 := by simpa [Value.cells, o1, k1] using hg 1 f1 rfl
      obtain ⟨z0, hz0, _, hr0⟩ := DataW.trod_string h0 t0
      simp at hz0; subst hz0
      obtain ⟨z1, hz1, _, hw1⟩ := DataW.trod_int h1 t1
      have hr1 : -9223372036854775808 ≤ z1 ∧ z1 ≤ 9223372036854775807 := by simpa [Lit.wf, IntKind.min, IntKind.max, IntKind.signed, IntKind.bits] using hw1
      simp at hz1; subst hz1
      exact ⟨⟨z0, z1⟩, rfl, by simpa [maxLen] using hr0, hr1.1, hr1.2⟩
end
end
end Go.Proofs.YtnjckloodkdbpaaDoor
