/- one text of RDiq, LvO, LvP -/
import Derived.Test.YtonpgohigncjeaaCx15
import Derived.Test.YtonpgohigncjeaaCx11
import Derived.Test.YtonpgohigncjeaaCx16
import Derived.Test.YtonpgohigncjeaaCx2
import Derived.Deep.RegionHeld3
namespace Go.Proofs.Ytonpgohigncjeaa
open Go.RowKit
set_option linter.unusedVariables false
section
set_option maxHeartbeats 8000000 in
set_option maxRecDepth 100000 in
theorem iIsolate_any (H : Option Addr) (m c : Nat) (hs : List Flt) (f : Int) (w : World) (hH : Sl w H m c hs) (lk : Lnk hs) (h0 : 0 ≤ f) (h1 : f < hs.length) (hm : m ≤ 1048576) :
    Calls Try.prog 62 #[.agg #[.slice H m c], .int .i64 f] w fun e w' => ∃ v, e = .returned (.tuple #[.agg #[v], .int .i64 (idx (reachL hs f) f 0)]) ∧ Owd 80 w w' v (isoL hs (reachL hs f)) ∧ Le w w' := by
  obtain rfl := hH.len
  obtain ⟨i0, hi, hz0, hz1, hz2⟩ := info_parts infoCcFault
  obtain ⟨c0, z0, c1, z1, L0⟩ := box2 w (.slice H hs.length c) (.slice none 0 0) 34 34
  have f1 : ((w.alloc (.cells #[.slice H hs.length c] 34)).alloc (.cells #[.slice none 0 0] 34)).frozen? ⟨w.heap.size + 1, 0, none⟩ = false := World.frozen?_alloc_at _ _ _ _ (by simp)
  have hs0 : w.heap.size + 1 + 1 = ((w.alloc (.cells #[.slice H hs.length c] 34)).alloc (.cells #[.slice none 0 0] 34)).heap.size := by simp
  have HS0 := Lib.hid hs0; clear hs0
  have S0 := hH.le L0
  have HOKH := Lib.hid hH.ok
  have HUB : Hid (0 < hs.length → ∀ a, H = some a → a.block < w.heap.size + 1 + 1) := fun h a e => by have := hH.under h a e; omega
  have HRI := Lib.hid (fun x => rch0_iff lk h0 h1 x)
  have HRL := Lib.hid (fun x => reachL_mem lk h0 h1 x)
  have HFN := Lib.hid (rch0_fnd lk h1)
  have HLK := Lib.hid lk; clear lk
  have HRR : Hid (∀ x ∈ reachL hs f, 0 ≤ x ∧ x < hs.length) := fun x hx => by have := ascOf_mem.1 (show x ∈ ascOf (rch0 hs f) hs.length from hx); exact ⟨this.1, this.2.1⟩
  have hlr : (reachL hs f).length ≤ hs.length := ascOf_len (L := rch0 hs f) hs.length
  go_enter Try.func62, Try.ntmps62
  go_wp2_with fail
  generalize (w.alloc (.cells #[.slice H hs.length c] 34)).alloc (.cells #[.slice none 0 0] 34) = W at *
  refine (iReach_any H hs.length c hs f W S0 HLK.out h0 h1 (by omega)).mono ?_
  rintro e w3 ⟨v3, rfl, D, hle⟩
  obtain ⟨AL, cL, rfl, SL, -⟩ := D.form (by decide)
  replace c0 := (hle.cell z0).trans c0
  replace c1 := (hle.cell z1).trans c1
  replace f1 := (hle.frozen z1).trans f1
  replace z0 := Nat.lt_of_lt_of_le z0 hle.size
  replace z1 := Nat.lt_of_lt_of_le z1 hle.size
  replace L0 := L0.trans hle
  replace S0 := S0.le hle
  have s3 := hle.size
  clear D hle
  have HC0 := Lib.hid c0; have HC1 := Lib.hid c1; have HF1 := Lib.hid f1; have HL0 := Lib.hid L0; have HS := Lib.hid S0; have HSL := Lib.hid SL
  have y0 := z0; have y1 := z1
  have HISO : Hid (∀ x : Int, Enc.ok (isoF hs (reachL hs f) x)) := fun x => isoF_ok HOKH.out (by omega) x
  clear HRI HRL HFN HUB HLK
  go_wp2
  generalize hLL : reachL hs f = L at *
  have HLL := Lib.hid hLL; clear hLL
  clear c0 c1 f1 z0 z1 L0 S0 SL
  go_loopw [9, 10, 16] (fun _ _ q wr => ∃ (k : Nat) (A' : Option Addr) (c' : Nat), k ≤ L.length ∧ q = .int .i64 k ∧ Le w3 wr ∧ w3.heap.size < wr.heap.size ∧ wr.cell? ⟨w3.heap.size, 0, none⟩ = some (.slice A' k c') ∧ wr.frozen? ⟨w3.heap.size, 0, none⟩ = false ∧
    wr.ownsRow w3.heap.size 80 5 (.slice A' k c') k (((L.take k).map (isoF hs L)).flatMap Enc.cells) ∧ (Value.slice A' k c').ownBlock ≠ some (w3.heap.size)) (fun _ _ q _ => L.length - (intOf q).toNat)
  case atStart => exact ⟨0, none, 0, Nat.zero_le _, rfl, Le.new w3 _, by simp, by rw [World.cell?_alloc_at _ _ _ _ rfl]; rfl, World.frozen?_alloc_at _ _ _ _ rfl, World.ownsRow_nil _ _ _ _, fun e => by cases e⟩
  case round =>
    obtain ⟨k, A', c', hk, rfl, hle, zB, cB, fB, O, hne⟩ := hrel
    have c0 := (hle.cell y0).trans HC0.out
    have c1 := (hle.cell y1).trans HC1.out
    have f1 := (hle.frozen y1).trans HF1.out
    have z0 := Nat.lt_of_lt_of_le y0 hle.size
    have z1 := Nat.lt_of_lt_of_le y1 hle.size
    have L0 := HL0.out.trans hle
    have S0 := HS.out.le hle
    have SL := HSL.out.le hle
    have hltO := O.lt
    have HLTO := Lib.hid hltO; clear hltO
    have HNE := Lib.hid hne; clear hne
    by_cases hlt : k < L.length
    · have hr := HRR.out _ (List.getElem_mem hlt)
      have HT := Lib.hid (isoL_take (hs := hs) hlt)
      have HOK := Lib.hid (HISO.out L[k])
      obtain ⟨i, hi2⟩ := Int.eq_ofNat_of_zero_le hr.1
      rw [hi2] at hr HT HOK
      obtain ⟨b, off, rfl, hb, hx, _, _⟩ := SL.int_at hlt
      rw [hi2] at hx
      have hil : i < hs.length := by omega
      have hi3 : (i : Int) < (hs.length : Int) := by omega
      have hk3 : (k : Int) < (L.length : Int) := by omega
      obtain ⟨b2, off2, rfl, hb2, q0, q1, q2, q3, q4, -⟩ := S0.flt_at hil
      have hsh := isoF_at (L := L) hil
      have HSH := Lib.hid hsh
      clear hsh hi2
      generalize hs[i] = x at *
      generalize x.cls = xc at *
      generalize x.code = xd at *
      generalize x.cause = xa at *
      generalize x.ctx = xb at *
      generalize x.hide = xh at *
      have HA : Hid (∀ w, Sl w (some ⟨b, off, none⟩) L.length cL L → Calls Try.prog 77 #[.slice (some ⟨b, off, none⟩) L.length cL, .int .i64 xa] w fun e w' => e = .returned (.int .i64 (idx L xa 0)) ∧ w = w') := fun w h => iIndex_any _ _ _ L xa w h (by omega)
      have HB : Hid (∀ w, Sl w (some ⟨b, off, none⟩) L.length cL L → Calls Try.prog 77 #[.slice (some ⟨b, off, none⟩) L.length cL, .int .i64 xb] w fun e w' => e = .returned (.int .i64 (idx L xb 0)) ∧ w = w') := fun w h => iIndex_any _ _ _ L xb w h (by omega)
      generalize idx L xa 0 = ya at *
      generalize idx L xb 0 = yb at *
      go_wp2_with fail
      refine (HA.out _ (SL.alloc (.cells #[.int .i64 xc, .int .i64 xd, .int .i64 xa, .int .i64 xb, .bool xh] 80))).mono ?_
      rintro e wq ⟨rfl, rfl⟩
      go_wp2_with fail
      refine (HB.out _ (SL.alloc (.cells #[.int .i64 xc, .int .i64 xd, .int .i64 ya, .int .i64 xb, .bool xh] 80))).mono ?_
      rintro e wq ⟨rfl, rfl⟩
      have LX : Le wr (((wr.alloc (.cells #[.int .i64 xc, .int .i64 xd, .int .i64 ya, .int .i64 yb, .bool xh] 80)).alloc (.cells #[.int .i64 xc, .int .i64 xd, .int .i64 ya, .int .i64 yb, .bool xh] 80))) := ((Le.new wr (.cells #[.int .i64 xc, .int .i64 xd, .int .i64 ya, .int .i64 yb, .bool xh] 80)).alloc (.cells #[.int .i64 xc, .int .i64 xd, .int .i64 ya, .int .i64 yb, .bool xh] 80))
      have cBX := (LX.cell zB).trans cB
      have fBX := (LX.frozen zB).trans fB
      have sX := LX.size
      have hX1 : (wr.alloc (.cells #[.int .i64 xc, .int .i64 xd, .int .i64 ya, .int .i64 yb, .bool xh] 80)).heap.size = wr.heap.size + 1 := by simp
      have hX2 : (((wr.alloc (.cells #[.int .i64 xc, .int .i64 xd, .int .i64 ya, .int .i64 yb, .bool xh] 80)).alloc (.cells #[.int .i64 xc, .int .i64 xd, .int .i64 ya, .int .i64 yb, .bool xh] 80))).heap.size = wr.heap.size + 1 + 1 := by show ((wr.alloc _).alloc _).heap.size = _; simp
      rw [HSH.out] at HOK
      have SX := sl_one (w := wr.alloc (.cells #[.int .i64 xc, .int .i64 xd, .int .i64 ya, .int .i64 yb, .bool xh] 80)) (cs := #[.int .i64 xc, .int .i64 xd, .int .i64 ya, .int .i64 yb, .bool xh]) (T := 80) (⟨xc, xd, ya, yb, xh⟩ : Flt) rfl HOK.out (b := wr.heap.size + 1) hX1.symm
      have SX2 : Sl (((wr.alloc (.cells #[.int .i64 xc, .int .i64 xd, .int .i64 ya, .int .i64 yb, .bool xh] 80)).alloc (.cells #[.int .i64 xc, .int .i64 xd, .int .i64 ya, .int .i64 yb, .bool xh] 80))) (some ⟨wr.heap.size + 1, 0, none⟩) 1 1 [(⟨xc, xd, ya, yb, xh⟩ : Flt)] := SX
      have OX : (((wr.alloc (.cells #[.int .i64 xc, .int .i64 xd, .int .i64 ya, .int .i64 yb, .bool xh] 80)).alloc (.cells #[.int .i64 xc, .int .i64 xd, .int .i64 ya, .int .i64 yb, .bool xh] 80))).ownsRow w3.heap.size 80 5 (.slice A' k c') k (((L.take k).map (isoF hs L)).flatMap Enc.cells) := ((O.alloc (.cells #[.int .i64 xc, .int .i64 xd, .int .i64 ya, .int .i64 yb, .bool xh] 80)).alloc (.cells #[.int .i64 xc, .int .i64 xd, .int .i64 ya, .int .i64 yb, .bool xh] 80))
      have HX2 := Lib.hid hX2
      have m1 : k + 1 ≤ maxLen := by unfold maxLen; omega
      have m2 : (k + 1) * 40 ≤ 140737488355328 := by omega
      have m3 : w3.heap.size ≤ (((wr.alloc (.cells #[.int .i64 xc, .int .i64 xd, .int .i64 ya, .int .i64 yb, .bool xh] 80)).alloc (.cells #[.int .i64 xc, .int .i64 xd, .int .i64 ya, .int .i64 yb, .bool xh] 80))).heap.size := Nat.le_trans hle.size sX
      clear hX1 hX2 SX
      go_wp2_with (at_builtin; refine wpList_append_sl rfl _ _ 32 rfl (w3.heap.size) 80 i0 _ 40 Try.underlying32 hi hz0 hz1 hz2 rfl (.slice A' k c') k ((L.take k).map (isoF hs L)) rfl OX (some ⟨wr.heap.size + 1, 0, none⟩) 1 1 [(⟨xc, xd, ya, yb, xh⟩ : Flt)] rfl SX2 m1 m2 m3 ?_; intro v1 w1 O1 hg1 hat; have cB1 := hg1.cell (a := ⟨w3.heap.size, 0, none⟩) cBX (fun e => HNE.out e.symm); have fB1 := (World.frozen?_of_block (a := ⟨w3.heap.size, 0, none⟩) (hg1.block (w3.heap.size) (Nat.lt_of_lt_of_le zB sX) (fun e => HNE.out e.symm))).trans fBX; obtain ⟨A2, q2, rfl⟩ := own_form O1)
      have hne2 : (Value.slice A2 (k + 1) q2).ownBlock ≠ some (w3.heap.size) := by
        rcases hat with h | h
        · rw [h]; exact HNE.out
        · rw [h, HX2.out]; intro e; injection e with e; omega
      have L1 := (hle.trans LX).grown hg1 (fun k hk => (HLTO.out k hk).1)
      have s1 := hg1.size
      rw [show (L.take k).map (isoF hs L) ++ [(⟨xc, xd, ya, yb, xh⟩ : Flt)] = (L.take (k + 1)).map (isoF hs L) from by rw [← HT.out, HSH.out]] at O1
      have O2 := O1.kept (grown_set w1 (w3.heap.size) 0 (.slice A2 (k + 1) q2)) (.inr hne2)
      go_roundw
      case rel => exact ⟨k + 1, A2, q2, by omega, by go_num, L1.setCell (by omega) _, by simpa [World.setCell] using Nat.lt_of_lt_of_le (Nat.lt_of_lt_of_le zB sX) s1, cell_set_same cB1, by simpa using fB1, O2, hne2⟩
      case measure => simp [intOf]; omega
    · have hkk : k = L.length := by omega
      subst hkk
      have hT : (L.take L.length).map (isoF hs L) = isoL hs L := by rw [List.take_length]; rfl
      rw [hT] at O
      have hII : isoL hs L = L.map (isoF hs L) := rfl
      have hokL : ∀ x ∈ isoL hs L, Enc.ok x := fun x hx => by obtain ⟨y, _, rfl⟩ := List.mem_map.1 hx; exact HISO.out y
      have hlI : (isoL hs L).length = L.length := by rw [hII, List.length_map]
      have HE := Lib.hid (res_end (r := w.heap.size + 1) L0.drew (by omega) y1 (show wr.drew.ownsRow w3.heap.size 80 (Enc.size Flt) (.slice A' L.length c') (isoL hs L).length ((isoL hs L).flatMap Enc.cells) from by rw [hlI]; exact O.drew) hokL)
      have SD := SL.le (Le.refl wr).drew
      have HC : Hid (∀ w, Sl w AL L.length cL L → Calls Try.prog 77 #[.slice AL L.length cL, .int .i64 f] w fun e w' => e = .returned (.int .i64 (idx L f 0)) ∧ w = w') := fun w h => iIndex_any _ _ _ L f w h (by omega)
      have c1w := c1
      have cB2 : ∀ u, (wr.setCell ⟨w.heap.size + 1, 0, none⟩ u).cell? ⟨w3.heap.size, 0, none⟩ = some (.slice A' L.length c') := fun u => (cell_set_other (.inl (by omega))).trans cB
      have HCB2 := Lib.hid cB2; clear cB2
      have hend : ∀ u, (wr.setCell ⟨w.heap.size + 1, 0, none⟩ u).cell? ⟨w.heap.size + 1, 0, none⟩ = some u := fun u => cell_set_same c1w
      replace cB := (show wr.drew.cell? _ = _ from cB)
      replace c1 := (show wr.drew.cell? _ = _ from c1)
      replace f1 := (show wr.drew.frozen? _ = _ from f1)
      clear hT hII hokL hlI O
      generalize hyf : idx L f 0 = yf at *
      have HYF := Lib.hid hyf; clear hyf
      go_wp2_with fail
      go_region_held3 (fun w' => w'.cell? ⟨w3.heap.size, 0, none⟩ = some (.slice A' L.length c'))
        (first | exact cB | exact HCB2.out _)
        (first
        | (go_at_call 77; refine (HC.out _ SD).mono ?_; rintro e wq ⟨rfl, rfl⟩))
      go_wp2
      exact bodyPost_ret (v := .tuple #[.agg #[.slice A' L.length c'], .int .i64 yf]) (by simp [results, Try.results62, go_sem, hend]) rfl ⟨_, by rw [HLL.out, HYF.out], by rw [HLL.out]; exact (HE.out (.slice A' L.length c')).1, (HE.out (.slice A' L.length c')).2⟩
end

section
theorem clH_len {s : LvS} (h : s.2.1.length ≤ 1000) : (clH s).length ≤ 1048576 := by
  unfold clH
  split
  · unfold isoL
    rw [List.length_map]
    have := ascOf_len (L := rch0 s.2.1 s.2.2) s.2.1.length
    show (ascOf (rch0 s.2.1 s.2.2) s.2.1.length).length ≤ _
    omega
  · exact Nat.zero_le _
set_option maxHeartbeats 2000000 in
set_option maxRecDepth 100000 in
theorem lresult_any (w0 : World) (R m c : Nat) (B : Option Addr) (xs : List Cls) (lv hv : Value) (lg : List Int) (hs : List Flt) (fa : Int) (lk : Lnk hs) (lo : -1 ≤ fa) (hi : fa < hs.length) (hn : hs.length ≤ 1000) (w : World) (H : Lv w0 w R B m c xs lv hv lg hs fa) :
    Calls Try.prog 38 #[.pointer (some ⟨R, 0, none⟩)] w fun e w' => ∃ hv', e = .returned (.agg #[lv, .int .i64 (clE (lg, hs, fa)), .int .i64 (clV (lg, hs, fa)), hv']) ∧ Owd 80 w w' hv' (clH (lg, hs, fa)) ∧ Le w w' := by
  have c1 := H.c1
  have c2 := H.c2
  have c3 := H.c3
  have hz := H.z
  obtain ⟨AL, cL, rfl⟩ := own_form H.O
  obtain ⟨AH, cH, rfl⟩ := own_form H.H
  have SH := Sl.of_own H.H rfl (by decide) H.okh
  clear H
  by_cases h0 : 0 ≤ fa
  · have h0b : decide ((0 : Int) ≤ fa) = true := decide_eq_true h0
    have HE : Hid (clE (lg, hs, fa) = 2 ∧ clV (lg, hs, fa) = idx (reachL hs fa) fa 0 ∧ clH (lg, hs, fa) = isoL hs (reachL hs fa)) := by show _ ∧ _ ∧ _; unfold clE clV clH; rw [if_pos h0, if_pos h0, if_pos h0]; exact ⟨rfl, rfl, rfl⟩
    have e1 : (w.alloc (.cells #[.slice none 0 0, .int .i64 0, .int .i64 0, .slice none 0 0] 36)).heap.size = w.heap.size + 1 := by simp
    have LN := Le.new (w.alloc (.cells #[.slice none 0 0, .int .i64 0, .int .i64 0, .slice none 0 0] 36)) (.cells #[.slice AL lg.length cL, .int .i64 2, .int .i64 0, .slice none 0 0] 36)
    have Z := ((B4.new w (.slice none 0 0) (.int .i64 0) (.int .i64 0) (.slice none 0 0) 36).le LN).le (Le.refl _).drew
    have T := (B4.new (w.alloc (.cells #[.slice none 0 0, .int .i64 0, .int .i64 0, .slice none 0 0] 36)) (.slice AL lg.length cL) (.int .i64 2) (.int .i64 0) (.slice none 0 0) 36).le (Le.refl _).drew
    rw [e1] at T
    have LW := ((Le.new w (.cells #[.slice none 0 0, .int .i64 0, .int .i64 0, .slice none 0 0] 36)).trans LN).drew
    clear LN e1
    go_enter Try.func38, Try.ntmps38
    go_wp2
    refine wp_region_noPanic ?_
    refine wp_region_Z (fun w' => w'.cell? ⟨R, 2, none⟩ = some (.slice AH hs.length cH) ∧ w'.cell? ⟨R, 3, none⟩ = some (.int .i64 fa)) [] (by kernel_rfl) ?_
    generalize ((w.alloc (.cells #[.slice none 0 0, .int .i64 0, .int .i64 0, .slice none 0 0] 36)).alloc (.cells #[.slice AL lg.length cL, .int .i64 2, .int .i64 0, .slice none 0 0] 36)).drew = W at *
    have x2 := (LW.cell hz).trans c2
    have x3 := (LW.cell hz).trans c3
    have SW := SH.le LW
    have GL := Lib.hid lk
    clear SH c1 c2 c3
    refine wpAnyZ_take (i := 0) (v := ?_) rfl (by kernel_rfl) (fun _ _ _ h => h) (Or.inl ⟨by rfl, ?_⟩) (⟨x2, x3⟩) ?_
    rotate_left 1
    · (intro w hSw; (try dsimp only at hSw); go_simp; try with_reducible rfl)
    try simp only [Act.put, List.setIfInBounds_toArray, List.set_cons_zero, List.set_cons_succ]
    refine wpAnyZ_take (i := 1) (v := ?_) rfl (by kernel_rfl) (fun _ _ _ h => h) (Or.inl ⟨by rfl, ?_⟩) (⟨x2, x3⟩) ?_
    rotate_left 1
    · (intro w hSw; (try dsimp only at hSw); go_simp; try with_reducible rfl)
    try simp only [Act.put, List.setIfInBounds_toArray, List.set_cons_zero, List.set_cons_succ]
    refine wpAnyZ_take (i := 2) (v := ?_) rfl (by kernel_rfl) (fun _ _ _ h => h) (Or.inl ⟨by rfl, ?_⟩) (⟨x2, x3⟩) ?_
    rotate_left 1
    · (intro w hSw; (try dsimp only at hSw); go_simp; try with_reducible rfl)
    try simp only [Act.put, List.setIfInBounds_toArray, List.set_cons_zero, List.set_cons_succ]
    refine wpAnyZ_take (i := 3) (v := ?_) rfl (by kernel_rfl) (fun _ _ _ h => h) (Or.inl ⟨by rfl, ?_⟩) (⟨x2, x3⟩) ?_
    rotate_left 1
    · (intro w hSw; (try dsimp only at hSw); go_simp; try with_reducible rfl)
    try simp only [Act.put, List.setIfInBounds_toArray, List.set_cons_zero, List.set_cons_succ]
    refine wpAnyZ_take (i := 4) (v := ?_) rfl (by kernel_rfl) (fun _ _ _ h => h) (Or.inl ⟨by rfl, ?_⟩) (⟨x2, x3⟩) ?_
    rotate_left 1
    · (intro w hSw; (try dsimp only at hSw); go_simp; try with_reducible rfl)
    try simp only [Act.put, List.setIfInBounds_toArray, List.set_cons_zero, List.set_cons_succ]
    refine wpAnyZ_take (i := 5) (v := ?_) rfl (by kernel_rfl) (fun _ _ _ h => h) (Or.inl ⟨by rfl, ?_⟩) (⟨x2, x3⟩) ?_
    rotate_left 1
    · (intro w hSw; (try dsimp only at hSw); go_simp; try with_reducible rfl)
    try simp only [Act.put, List.setIfInBounds_toArray, List.set_cons_zero, List.set_cons_succ]
    refine wpAnyZ_take (i := 6) (v := ?_) rfl (by kernel_rfl) (fun _ _ _ h => h) (Or.inl ⟨by rfl, ?_⟩) (⟨x2, x3⟩) ?_
    rotate_left 1
    · (intro w hSw; (try dsimp only at hSw); go_simp; try with_reducible rfl)
    try simp only [Act.put, List.setIfInBounds_toArray, List.set_cons_zero, List.set_cons_succ]
    refine wpAnyZ_take (i := 7) (v := ?_) rfl (by kernel_rfl) (fun _ _ _ h => h) (Or.inl ⟨by rfl, ?_⟩) (⟨x2, x3⟩) ?_
    rotate_left 1
    · (intro w hSw; (try dsimp only at hSw); go_simp; try with_reducible rfl)
    try simp only [Act.put, List.setIfInBounds_toArray, List.set_cons_zero, List.set_cons_succ]
    refine wpAnyZ_one (i := 8) (by kernel_rfl) (ReadyZ.mk rfl (fun K hK => ?_))
    go_simp
    go_at_call 62
    refine (iIsolate_any AH hs.length cH hs fa W SW GL.out h0 hi (by omega)).mono ?_
    rintro e W2 ⟨v2, rfl, D2, hl2⟩
    have hzW := Nat.lt_of_lt_of_le hz LW.size
    have HZT : Hid (B4 W (w.heap.size + 1) (.slice AL lg.length cL) (.int .i64 2) (.int .i64 0) (.slice none 0 0)) := T
    replace x2 := (hl2.cell hzW).trans x2
    replace x3 := (hl2.cell hzW).trans x3
    have T2 := T.le hl2
    have Z2 := Z.le hl2
    have LW2 := LW.trans hl2
    have HD : Hid (∀ b, b < W.heap.size → v2.ownBlock ≠ some b) := fun b hb e => by have := (D2.row.lt _ e).1; omega
    obtain ⟨A2, q2', rfl⟩ := own_form D2.row
    have HD2 := Lib.hid (Owd.mk (own_mono D2.row LW.size) D2.ok)
    obtain ⟨K2, hK2⟩ : ∃ K2, isoL hs (reachL hs fa) = K2 := ⟨_, rfl⟩
    rw [hK2] at HE HD2 HD
    rw [hK2]
    clear hK2 D2 hl2 SW
    obtain ⟨ix, hix⟩ : ∃ z, idx (reachL hs fa) fa 0 = z := ⟨_, rfl⟩
    rw [hix] at HE
    rw [hix]
    clear hix
    refine hK.out _ _ (fun _ => ⟨x2, x3⟩) ?_
    clear hK K
    try simp only [Act.put, List.setIfInBounds_toArray, List.set_cons_zero, List.set_cons_succ]
    refine wpAnyZ_take (i := 9) (v := ?_) rfl (by kernel_rfl) (fun _ _ _ h => h) (Or.inl ⟨by rfl, ?_⟩) (⟨x2, x3⟩) ?_
    rotate_left 1
    · (intro w hSw; (try dsimp only at hSw); go_simp; try with_reducible rfl)
    try simp only [Act.put, List.setIfInBounds_toArray, List.set_cons_zero, List.set_cons_succ]
    refine wpAnyZ_take (i := 10) (v := ?_) rfl (by kernel_rfl) (fun _ _ _ h => h) (Or.inl ⟨by rfl, ?_⟩) (⟨x2, x3⟩) ?_
    rotate_left 1
    · (intro w hSw; (try dsimp only at hSw); go_simp; try with_reducible rfl)
    try simp only [Act.put, List.setIfInBounds_toArray, List.set_cons_zero, List.set_cons_succ]
    refine wpAnyZ_take (i := 11) (v := ?_) rfl (by kernel_rfl) (fun _ _ _ h => h) (Or.inl ⟨by rfl, ?_⟩) (⟨x2, x3⟩) ?_
    rotate_left 1
    · (intro w hSw; (try dsimp only at hSw); go_simp; try with_reducible rfl)
    try simp only [Act.put, List.setIfInBounds_toArray, List.set_cons_zero, List.set_cons_succ]
    refine wpAnyZ_take (i := 12) (v := ?_) rfl (by kernel_rfl) (fun _ _ _ h => h) (Or.inl ⟨by rfl, ?_⟩) (⟨x2, x3⟩) ?_
    rotate_left 1
    · (intro w hSw; (try dsimp only at hSw); go_simp; try with_reducible rfl)
    try simp only [Act.put, List.setIfInBounds_toArray, List.set_cons_zero, List.set_cons_succ]
    have hne1 : w.heap.size + 1 ≠ R := by omega
    have f3 := T2.f 3
    have t3 := T2.c3
    refine wpAnyZ_one (i := 13) (by kernel_rfl) (ReadyZ.mk rfl (fun K hK => ?_))
    go_simp
    have T3 := T2.set3 (.slice A2 K2.length q2')
    have Z3 := Z2.far (by omega : w.heap.size + 1 ≠ w.heap.size) 3 (.slice A2 K2.length q2')
    have x2b := (cell_set_other (v := .slice A2 K2.length q2') (o := 3) (o' := 2) (.inl hne1)).trans x2
    have x3b := (cell_set_other (v := .slice A2 K2.length q2') (o := 3) (o' := 3) (.inl hne1)).trans x3
    refine hK.out _ _ (fun _ => ⟨x2b, x3b⟩) ?_
    clear hK K
    try simp only [Act.put, List.setIfInBounds_toArray, List.set_cons_zero, List.set_cons_succ]
    refine wpAnyZ_take (i := 14) (v := ?_) rfl (by kernel_rfl) (fun _ _ _ h => h) (Or.inl ⟨by rfl, ?_⟩) (⟨x2b, x3b⟩) ?_
    rotate_left 1
    · (intro w hSw; (try dsimp only at hSw); go_simp; try with_reducible rfl)
    try simp only [Act.put, List.setIfInBounds_toArray, List.set_cons_zero, List.set_cons_succ]
    have f2 := T3.f 2
    have t2 := T3.c2
    refine wpAnyZ_one (i := 15) (by kernel_rfl) (ReadyZ.mk rfl (fun K hK => ?_))
    go_simp
    have T4 := T3.set2 (.int .i64 ix)
    have Z4 := Z3.far (by omega : w.heap.size + 1 ≠ w.heap.size) 2 (.int .i64 ix)
    have x2c := (cell_set_other (v := .int .i64 ix) (o := 2) (o' := 2) (.inl hne1)).trans x2b
    have x3c := (cell_set_other (v := .int .i64 ix) (o := 2) (o' := 3) (.inl hne1)).trans x3b
    refine hK.out _ _ (fun _ => ⟨x2c, x3c⟩) ?_
    clear hK K
    try simp only [Act.put, List.setIfInBounds_toArray, List.set_cons_zero, List.set_cons_succ]
    refine wpAnyZ_done (by kernel_rfl) ?_ _
    refine NoPanic.normal ?_
    have L5 := (LW2.setCell (b := w.heap.size + 1) (o := 3) (by omega) (.slice A2 K2.length q2')).setCell (b := w.heap.size + 1) (o := 2) (by omega) (.int .i64 ix)
    have nb0 := HD.out w.heap.size (by have := HZT.out.lt; omega)
    have nb1 := HD.out (w.heap.size + 1) (by have := HZT.out.lt; omega)
    have HR9 : Hid (∀ a b c d, Owd 80 w ((((((W2.setCell ⟨w.heap.size + 1, 3, none⟩ (.slice A2 K2.length q2')).setCell ⟨w.heap.size + 1, 2, none⟩ (.int .i64 ix)).setCell ⟨w.heap.size, 0, none⟩ a).setCell ⟨w.heap.size, 1, none⟩ b).setCell ⟨w.heap.size, 2, none⟩ c).setCell ⟨w.heap.size, 3, none⟩ d) (.slice A2 K2.length q2') K2) := fun a b c d =>
      ⟨kept_set (kept_set (kept_set (kept_set (kept_set (kept_set HD2.out.row nb1 _ _) nb1 _ _) nb0 _ _) nb0 _ _) nb0 _ _) nb0 _ _, HD2.out.ok⟩
    generalize ((W2.setCell ⟨w.heap.size + 1, 3, none⟩ (.slice A2 K2.length q2')).setCell ⟨w.heap.size + 1, 2, none⟩ (.int .i64 ix)) = W5 at *
    have g0 := T4.c0
    have g1 := T4.c1
    have g2 := T4.c2
    have g3 := T4.c3
    have z0 := Z4.c0
    have z0f := Z4.f 0
    have Z62 := Z4.set0 (.slice AL lg.length cL)
    have z1 := Z62.c1
    have z1f := Z62.f 1
    have Z63 := Z62.set1 (.int .i64 2)
    have z2 := Z63.c2
    have z2f := Z63.f 2
    have Z64 := Z63.set2 (.int .i64 ix)
    have z3 := Z64.c3
    have z3f := Z64.f 3
    have ZA := Lib.hid (Z4.all (.slice AL lg.length cL) (.int .i64 2) (.int .i64 ix) (.slice A2 K2.length q2'))
    clear x2 x3 x2b x3b x2c x3c T T2 T3 T4 Z Z2 Z3 Z4 Z62 Z63 Z64 HD HD2 HZT t2 t3 f2 f3
    go_wp2
    have e0 := ZA.out.c0
    have e1 := ZA.out.c1
    have e2 := ZA.out.c2
    have e3 := ZA.out.c3
    refine bodyPost_ret (v := .agg #[.slice AL lg.length cL, .int .i64 2, .int .i64 ix, .slice A2 K2.length q2']) (by simp [results, Try.results38, go_sem, e0, e1, e2, e3]) rfl ?_
    rw [HE.out.1, HE.out.2.1, HE.out.2.2]
    exact ⟨_, rfl, HR9.out _ _ _ _, (((L5.setCell (by omega) _).setCell (by omega) _).setCell (by omega) _).setCell (by omega) _⟩
  · have h0b : decide ((0 : Int) ≤ fa) = false := decide_eq_false h0
    have HE : Hid (clE (lg, hs, fa) = 0 ∧ clV (lg, hs, fa) = 0 ∧ clH (lg, hs, fa) = []) := by show _ ∧ _ ∧ _; unfold clE clV clH; rw [if_neg h0, if_neg h0, if_neg h0]; exact ⟨rfl, rfl, rfl⟩
    go_enter Try.func38, Try.ntmps38
    go_wp2
    have Z := (B4.new w (.slice AL lg.length cL) (.int .i64 0) (.int .i64 0) (.slice none 0 0) 36).le (Le.new _ (.cells #[.slice AL lg.length cL, .int .i64 0, .int .i64 0, .slice none 0 0] 36))
    have e0 := Z.c0
    have e1 := Z.c1
    have e2 := Z.c2
    have e3 := Z.c3
    refine bodyPost_ret (v := .agg #[.slice AL lg.length cL, .int .i64 0, .int .i64 0, .slice none 0 0]) (by simp [results, Try.results38, go_sem, e0, e1, e2, e3]) rfl ?_
    rw [HE.out.1, HE.out.2.1, HE.out.2.2]
    exact ⟨_, rfl, Owd.nil _ _ _, ((Le.refl w).alloc _).alloc _⟩
end

section
/-- a valid start -/
def csv (xs : List Cls) (has : Bool) (cl k : Int) : Bool := if has = true then hasK xs cl && rng 0 99 k else (cl == 0) && (k == 0)
def ceOk (xs : List Cls) (L : List Xit) (has : Bool) (cl k : Int) : Bool := vxs xs L && csv xs has cl k
def ceL (xs : List Cls) (L : List Xit) (has : Bool) (cl k : Int) : List Int := if ceOk xs L has cl k = true then (clX xs L (stS has cl k)).1 else []
def ceE (xs : List Cls) (L : List Xit) (has : Bool) (cl k : Int) : Int := if ceOk xs L has cl k = true then clE (clX xs L (stS has cl k)) else 0
def ceV (xs : List Cls) (L : List Xit) (has : Bool) (cl k : Int) : Int := if ceOk xs L has cl k = true then clV (clX xs L (stS has cl k)) else 0
def ceH (xs : List Cls) (L : List Xit) (has : Bool) (cl k : Int) : List Flt := if ceOk xs L has cl k = true then clH (clX xs L (stS has cl k)) else []
theorem csv_cl {xs : List Cls} {has : Bool} {cl k : Int} (h : csv xs has cl k = true) (h2 : has = true) : hasK xs cl = true := by
  unfold csv at h
  rw [if_pos h2, Bool.and_eq_true] at h
  exact h.1
theorem ceOk_iff {xs : List Cls} {L : List Xit} {has : Bool} {cl k : Int} : ceOk xs L has cl k = true ↔ vxs xs L = true ∧ csv xs has cl k = true := by unfold ceOk; rw [Bool.and_eq_true]
theorem ce_ok {xs : List Cls} {L : List Xit} {has : Bool} {cl k : Int} (h : ceOk xs L has cl k = true) : CvOk xs 18 (clX xs L (stS has cl k)) := by
  obtain ⟨hv, hc⟩ := ceOk_iff.1 h
  obtain ⟨_, hl, hx⟩ := vxs_iff.1 hv
  have h1 := (CvOk.start (k := k) (csv_cl hc)).all L hx
  exact ⟨⟨Nat.le_trans h1.ok.l (by omega), Nat.le_trans h1.ok.h (by omega), h1.ok.lo, h1.ok.hi⟩, h1.cx, h1.cl, h1.ca⟩
theorem ceL_len (xs : List Cls) (L : List Xit) (has : Bool) (cl k : Int) : (ceL xs L has cl k).length ≤ 1048576 := by
  unfold ceL
  split
  · next h => exact Nat.le_trans (ce_ok h).ok.l (by omega)
  · exact Nat.zero_le _
theorem ceH_len (xs : List Cls) (L : List Xit) (has : Bool) (cl k : Int) : (ceH xs L has cl k).length ≤ 1048576 := by
  unfold ceH
  split
  · next h => exact clH_len (Nat.le_trans (ce_ok h).ok.h (by omega))
  · exact Nat.zero_le _
theorem ce_no {xs : List Cls} {L : List Xit} {has : Bool} {cl k : Int} (h : ceOk xs L has cl k = false) : ceL xs L has cl k = [] ∧ ceE xs L has cl k = 0 ∧ ceV xs L has cl k = 0 ∧ ceH xs L has cl k = [] := by
  unfold ceL ceE ceV ceH
  rw [h]
  exact ⟨rfl, rfl, rfl, rfl⟩
theorem ce_yes {xs : List Cls} {L : List Xit} {has : Bool} {cl k : Int} (h : ceOk xs L has cl k = true) : ceL xs L has cl k = (clX xs L (stS has cl k)).1 ∧ ceE xs L has cl k = clE (clX xs L (stS has cl k)) ∧ ceV xs L has cl k = clV (clX xs L (stS has cl k)) ∧ ceH xs L has cl k = clH (clX xs L (stS has cl k)) := by
  unfold ceL ceE ceV ceH
  rw [h]
  exact ⟨rfl, rfl, rfl, rfl⟩
/-- the facts that four stores into a block ask for -/
theorem B4.four {W : World} {b : Nat} {x y z v : Value} (h : B4 W b x y z v) (x' y' z' : Value) : W.cell? ⟨b, 0, none⟩ = some x ∧ W.frozen? ⟨b, 0, none⟩ = false ∧ (W.setCell ⟨b, 0, none⟩ x').cell? ⟨b, 1, none⟩ = some y ∧ (W.setCell ⟨b, 0, none⟩ x').frozen? ⟨b, 1, none⟩ = false ∧
    ((W.setCell ⟨b, 0, none⟩ x').setCell ⟨b, 1, none⟩ y').cell? ⟨b, 2, none⟩ = some z ∧ ((W.setCell ⟨b, 0, none⟩ x').setCell ⟨b, 1, none⟩ y').frozen? ⟨b, 2, none⟩ = false ∧
    (((W.setCell ⟨b, 0, none⟩ x').setCell ⟨b, 1, none⟩ y').setCell ⟨b, 2, none⟩ z').cell? ⟨b, 3, none⟩ = some v ∧ (((W.setCell ⟨b, 0, none⟩ x').setCell ⟨b, 1, none⟩ y').setCell ⟨b, 2, none⟩ z').frozen? ⟨b, 3, none⟩ = false :=
  ⟨h.c0, h.f 0, (h.set0 x').c1, (h.set0 x').f 1, ((h.set0 x').set1 y').c2, ((h.set0 x').set1 y').f 2, (((h.set0 x').set1 y').set2 z').c3, (((h.set0 x').set1 y').set2 z').f 3⟩
/-- a box of a tree, a box of a start, a result -/
theorem box_tsr (w : World) (t a b d : Value) (T U V : TypeId) : (((w.alloc (.cells #[t] T)).alloc (.cells #[a, b, d] U)).alloc (.cells #[.slice none 0 0, .int .i64 0, .int .i64 0, .slice none 0 0] V)).cell? ⟨w.heap.size, 0, none⟩ = some t ∧
    (((w.alloc (.cells #[t] T)).alloc (.cells #[a, b, d] U)).alloc (.cells #[.slice none 0 0, .int .i64 0, .int .i64 0, .slice none 0 0] V)).cell? ⟨w.heap.size + 1, 0, none⟩ = some a ∧
    (((w.alloc (.cells #[t] T)).alloc (.cells #[a, b, d] U)).alloc (.cells #[.slice none 0 0, .int .i64 0, .int .i64 0, .slice none 0 0] V)).cell? ⟨w.heap.size + 1, 1, none⟩ = some b ∧
    (((w.alloc (.cells #[t] T)).alloc (.cells #[a, b, d] U)).alloc (.cells #[.slice none 0 0, .int .i64 0, .int .i64 0, .slice none 0 0] V)).cell? ⟨w.heap.size + 1, 2, none⟩ = some d ∧
    B4 (((w.alloc (.cells #[t] T)).alloc (.cells #[a, b, d] U)).alloc (.cells #[.slice none 0 0, .int .i64 0, .int .i64 0, .slice none 0 0] V)) (w.heap.size + 1 + 1) (.slice none 0 0) (.int .i64 0) (.int .i64 0) (.slice none 0 0) ∧
    Le w (((w.alloc (.cells #[t] T)).alloc (.cells #[a, b, d] U)).alloc (.cells #[.slice none 0 0, .int .i64 0, .int .i64 0, .slice none 0 0] V)) := by
  have L3 := Le.new ((w.alloc (.cells #[t] T)).alloc (.cells #[a, b, d] U)) (.cells #[.slice none 0 0, .int .i64 0, .int .i64 0, .slice none 0 0] V)
  obtain ⟨k0, z0, k1, k2, k3, z1, L2⟩ := boxTX w t a b d T U
  have B := B4.new ((w.alloc (.cells #[t] T)).alloc (.cells #[a, b, d] U)) (.slice none 0 0) (.int .i64 0) (.int .i64 0) (.slice none 0 0) V
  have e : ((w.alloc (.cells #[t] T)).alloc (.cells #[a, b, d] U)).heap.size = w.heap.size + 1 + 1 := by simp
  rw [e] at B
  exact ⟨(L3.cell z0).trans k0, (L3.cell z1).trans k1, (L3.cell z1).trans k2, (L3.cell z1).trans k3, B, L2.trans L3⟩
set_option maxHeartbeats 2000000 in
set_option maxRecDepth 100000 in
theorem ivalidStart_any (B : Option Addr) (m c : Nat) (xs : List Cls) (has : Bool) (cl k : Int) (w : World) (hT : Sl w B m c xs) :
    Calls Try.prog 36 #[.agg #[.slice B m c], .agg #[.bool has, .int .i64 cl, .int .i64 k]] w fun e w' => e = .returned (.bool (csv xs has cl k)) ∧ Le w w' := by
  obtain ⟨ct, zt, x0, x1, x2, zx, L0⟩ := boxTX w (.slice B m c) (.bool has) (.int .i64 cl) (.int .i64 k) 25 28
  have T1 := hT.le L0
  clear hT
  cases has
  · have HZ : Hid (csv xs false cl k = ((cl == 0) && (k == 0))) := rfl
    generalize csv xs false cl k = Z at *
    go_enter Try.func36, Try.ntmps36
    go_wp2
    all_goals go_ret
    all_goals exact ⟨ret_bool (by rw [HZ.out]; simp_all), ((Le.refl w).alloc _).alloc _⟩
  · have HZ : Hid (csv xs true cl k = (hasK xs cl && rng 0 99 k)) := rfl
    generalize csv xs true cl k = Z at *
    go_enter Try.func36, Try.ntmps36
    go_wp2_with fail
    generalize (w.alloc (.cells #[.slice B m c] 25)).alloc _ = W at *
    refine (isClassI_any B m c xs cl W T1).mono ?_
    rintro e w2 ⟨rfl, hle⟩
    replace x2 := (hle.cell zx).trans x2
    have L2 := L0.trans hle
    cases h1 : hasK xs cl
    · go_wp2
      go_ret
      exact ⟨ret_bool (by rw [HZ.out, h1]; rfl), L2⟩
    · go_wp2_with fail
      refine (rngI_any k 0 99 w2).mono ?_
      rintro e w3 ⟨rfl, rfl⟩
      go_wp2
      go_ret
      exact ⟨ret_bool (by rw [HZ.out, h1]; rfl), L2⟩
set_option maxHeartbeats 2000000 in
set_option maxRecDepth 100000 in
theorem svalidStart_any (B : Option Addr) (m c : Nat) (xs : List Cls) (has : Bool) (cl k : Int) (w : World) (hT : Sl w B m c xs) :
    Calls Try.prog 63 #[.agg #[.slice B m c], .agg #[.bool has, .int .i64 cl, .int .i64 k]] w fun e w' => e = .returned (.bool (csv xs has cl k)) ∧ Le w w' := by
  obtain ⟨ct, zt, x0, x1, x2, zx, L0⟩ := boxTX w (.slice B m c) (.bool has) (.int .i64 cl) (.int .i64 k) 25 28
  have T1 := hT.le L0
  clear hT
  cases has
  · have HZ : Hid (csv xs false cl k = ((cl == 0) && (k == 0))) := rfl
    generalize csv xs false cl k = Z at *
    go_enter Try.func63, Try.ntmps63
    go_wp2
    all_goals go_ret
    all_goals exact ⟨ret_bool (by rw [HZ.out]; simp_all), ((Le.refl w).alloc _).alloc _⟩
  · have HZ : Hid (csv xs true cl k = (hasK xs cl && rng 0 99 k)) := rfl
    generalize csv xs true cl k = Z at *
    go_enter Try.func63, Try.ntmps63
    go_wp2_with fail
    generalize (w.alloc (.cells #[.slice B m c] 25)).alloc _ = W at *
    refine (hasClass_any B m c xs cl W T1).mono ?_
    rintro e w2 ⟨rfl, hle⟩
    replace x2 := (hle.cell zx).trans x2
    have L2 := L0.trans hle
    cases h1 : hasK xs cl
    · go_wp2
      go_ret
      exact ⟨ret_bool (by rw [HZ.out, h1]; rfl), L2⟩
    · go_wp2_with fail
      refine (rng_any k 0 99 w2).mono ?_
      rintro e w3 ⟨rfl, rfl⟩
      go_wp2
      go_ret
      exact ⟨ret_bool (by rw [HZ.out, h1]; rfl), L2⟩
set_option maxHeartbeats 2000000 in
set_option maxRecDepth 100000 in
theorem goodClose_any (B A : Option Addr) (m c n cap : Nat) (xs : List Cls) (L : List Xit) (has : Bool) (cl k : Int) (w : World) (hT : Sl w B m c xs) (hL : Sl w A n cap L) :
    Calls Try.prog 40 #[.agg #[.slice B m c], .slice A n cap, .agg #[.bool has, .int .i64 cl, .int .i64 k]] w fun e w' => e = .returned (.bool (ceOk xs L has cl k)) ∧ Le w w' := by
  obtain ⟨ct, zt, x0, x1, x2, zx, L0⟩ := boxTX w (.slice B m c) (.bool has) (.int .i64 cl) (.int .i64 k) 25 28
  have T1 := hT.le L0
  have SL1 := hL.le L0
  have HZ : Hid (ceOk xs L has cl k = (vxs xs L && csv xs has cl k)) := rfl
  generalize ceOk xs L has cl k = Z at *
  go_enter Try.func40, Try.ntmps40
  go_wp2_with fail
  generalize (w.alloc (.cells #[.slice B m c] 25)).alloc _ = W at *
  refine (svalidExits_any B A m c n cap xs L W T1 SL1).mono ?_
  rintro e w2 ⟨rfl, hle⟩
  have L2 := L0.trans hle
  replace ct := (hle.cell zt).trans ct
  replace x0 := (hle.cell zx).trans x0
  replace x1 := (hle.cell zx).trans x1
  replace x2 := (hle.cell zx).trans x2
  have T2 := hT.le L2
  cases h1 : vxs xs L
  · go_wp2
    go_ret
    exact ⟨ret_bool (by rw [HZ.out, h1]; rfl), L2⟩
  · go_wp2_with fail
    refine (svalidStart_any B m c xs has cl k w2 T2).mono ?_
    rintro e w3 ⟨rfl, hle3⟩
    go_wp2
    go_ret
    exact ⟨ret_bool (by rw [HZ.out, h1]; rfl), L2.trans hle3⟩
end
end Go.Proofs.Ytonpgohigncjeaa
