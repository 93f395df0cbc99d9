/- one text of HB, ItT, ItL, ItM -/
import Derived.Test.YtpdggodmiliijaaCg11
import Derived.Test.YtpdggodmiliijaaCg9
import Derived.Test.YtpdggodmiliijaaCg10
import Derived.Test.YtpdggodmiliijaaCg7
namespace Go.Proofs.Ytpdggodmiliijaa
open Go.RowKit
set_option linter.unusedVariables false
section
set_option maxRecDepth 100000 in
theorem goodCatches_any (A B : Option Addr) (n cap m c : Nat) (xs : List Cls) (L : List Int) (w : World) (hR : Sl w A n cap xs) (hL : Sl w B m c L) :
    Calls Try.prog 66 #[.agg #[.slice A n cap], .slice B m c] w fun e w' => e = .returned (.bool (goodC xs L)) ∧ Le w w' := by
  obtain rfl := hL.len
  have hm := hL.n_le
  go_enter Try.func66, Try.ntmps66
  go_wp2
  obtain ⟨c0, z0, L0⟩ := box1 w (.slice A n cap) 32
  have S1 := hR.le L0
  have S2 := hL.le L0
  generalize w.alloc (.cells #[.slice A n cap] 32) = W at *
  go_loopw [5] (fun i wr => ∃ k : Nat, k ≤ L.length ∧ i = .int .i64 k ∧ goodL xs L = goodL xs (L.drop k) ∧ Le W wr) (fun i _ => L.length - (intOf i).toNat)
  case atStart => exact ⟨0, Nat.zero_le _, rfl, rfl, Le.refl _⟩
  case round =>
    obtain ⟨k, hk, rfl, hr, hle⟩ := hrel
    have HR := Lib.hid hr; clear hr
    replace c0 := (hle.cell z0).trans c0
    replace z0 := Nat.lt_of_lt_of_le z0 hle.size
    replace S1 := S1.le hle
    replace S2 := S2.le hle
    replace L0 := L0.trans hle
    by_cases hlt : k < L.length
    · obtain ⟨b, off, rfl, hb, hcell, _, _⟩ := S2.int_at hlt
      have E0 := cell_ext z0 c0
      have E1 := cell_ext hb hcell
      cases h1 : hasK xs L[k]
      all_goals
        have HF : Hid (goodL xs L = (hasK xs L[k] && goodL xs (L.drop (k + 1)))) := by show _ = _; rw [HR.out, goodL_at hlt]
        go_wp2_with fail
        refine wp_region_ext (by kernel_rfl) (by kernel_rfl) ?_
        repeat (go_big_quiet_step (first | (go_at_call 59; exact Calls.ext_of (Calls.val (hasClass_any _ _ _ xs _ _ (S1.ext _)) (vb h1)))))
        refine wpQuiet_nil ?_
        intro _ hw'
        obtain ⟨g, rfl⟩ := hw'
        have hle2 := hle.trans (Le.ext wr g)
        replace L0 := L0.trans (Le.ext wr g)
        generalize wr.ext g = W2 at *
        go_wp2
      · go_ret
        exact ⟨ret_bool (by unfold goodC; rw [HF.out, h1]; simp), L0⟩
      · go_roundw
        case rel => exact ⟨k + 1, by omega, by go_num, by rw [HF.out, h1]; rfl, hle2⟩
        case measure => simp [intOf]; omega
    · have HF : Hid (goodL xs L = true) := by show _ = _; rw [HR.out, goodL_end hlt]
      cases hok : okTree xs
      all_goals
        go_wp2_with fail
        refine (validTree_any A n cap xs _ S1).mono ?_
        rintro e w2 ⟨rfl, hle2⟩
        rw [hok]
        go_wp2
        go_ret
        exact ⟨ret_bool (by unfold goodC; rw [HF.out, hok]; simp <;> omega), L0.trans hle2⟩
end

section
set_option maxRecDepth 100000 in
theorem split0_any (A B : Option Addr) (n cap c : Nat) (a : Int) (w : World) (hG : Sl w B 0 c ([] : List Prt)) :
    Calls Try.prog 60 #[.agg #[.slice A n cap], .slice B 0 c, .int .i64 a] w (SpOut w [] []) := by
  have hc := hG.cap_
  have h1 := own_empty (w := w.alloc (.cells #[.slice A n cap] 32)) (base := w.heap.size) (g := w.heap.size + 1) (e := 70) (size := 4) (by simp) (by simp)
  have h2 := own_empty (w := (w.alloc (.cells #[.slice A n cap] 32)).alloc (.cells #[] 70)) (base := w.heap.size) (g := w.heap.size + 1 + 1) (e := 70) (size := 4) (by simp; omega) (by simp)
  go_enter Try.func60, Try.ntmps60
  go_wp2
  refine wp_loop_rounds 1 ?_
  rw [rounds_succ]
  go_wp2
  go_ret2
  exact ⟨_, _, rfl, ⟨h1.alloc _, fun _ h => nomatch h⟩, ⟨h2, fun _ h => nomatch h⟩, .inr (by simp [Value.ownBlock]), ((Le.new w _).alloc _).alloc _⟩
theorem splitE_any (A B : Option Addr) (n cap m c : Nat) (xs : List Cls) (g : List Prt) (G : GoodE xs g) (a : Int) (w : World) (hT : Sl w A n cap xs) (hG : Sl w B m c g) :
    Calls Try.prog 60 #[.agg #[.slice A n cap], .slice B m c, .int .i64 a] w (SpOut w (selA xs g a true) (selA xs g a false)) := by
  rcases G with rfl | G
  · obtain rfl := hG.len
    exact split0_any A B n cap c a w hG
  · exact split_any A B n cap m c xs g G a w hT hG
def hgTX (xs : List Cls) (g : List Prt) (L : List Int) : List (List Prt) := cond (gOkS xs g && goodC xs L) (hgT xs g L) []
def hgRX (xs : List Cls) (g : List Prt) (L : List Int) : List Prt := cond (gOkS xs g && goodC xs L) (hgR xs g L) []
theorem hgX_of {xs : List Cls} {g : List Prt} {L : List Int} {b : Bool} (h : (gOkS xs g && goodC xs L) = b) : hgTX xs g L = cond b (hgT xs g L) [] ∧ hgRX xs g L = cond b (hgR xs g L) [] := by unfold hgTX hgRX; rw [h]; exact ⟨rfl, rfl⟩
theorem hgTX_tot (xs : List Cls) (g : List Prt) (L : List Int) : tot (hgTX xs g L) ≤ 1048576 ∧ (hgTX xs g L).length ≤ 1048576 := by
  cases h : gOkS xs g && goodC xs L
  · rw [(hgX_of h).1]; exact ⟨Nat.zero_le _, Nat.zero_le _⟩
  · have h2 : gOkS xs g = true ∧ goodC xs L = true := by simpa using h
    have G : GoodE xs g := .inr (goodG_of (by rw [← gOk_same]; exact h2.1))
    have hf := (goodC_of h2.2).few
    have h3 := tot_mem (c := 16) (L := hgT xs g L) (fun l hl => (hgT_mem L G l hl).len)
    rw [hgT_len] at h3
    rw [(hgX_of h).1]
    show tot (hgT xs g L) ≤ _ ∧ (hgT xs g L).length ≤ _
    rw [hgT_len]
    omega
theorem hgRX_len (xs : List Cls) (g : List Prt) (L : List Int) : (hgRX xs g L).length ≤ 1048576 := by
  cases h : gOkS xs g && goodC xs L
  · rw [(hgX_of h).2]; exact Nat.zero_le _
  · have h2 : gOkS xs g = true ∧ goodC xs L = true := by simpa using h
    have G : GoodE xs g := .inr (goodG_of (by rw [← gOk_same]; exact h2.1))
    have := (hgR_good L G).len
    rw [(hgX_of h).2]
    show (hgR xs g L).length ≤ _
    omega
/-- lists of parts, and one more apart of them -/
def HgOut (w : World) (L : List (List Prt)) (M : List Prt) (e : Ending) (w' : World) : Prop :=
  ∃ v hs u, e = .returned (.tuple #[v, u]) ∧ OwL 34 70 w w' v hs L ∧ Owd 70 w w' u M ∧ ((∀ (i : Nat) (h : Hdr), hs[i]? = some h → Apart h.v u) ∧ Apart v u) ∧ Le w w'
set_option maxRecDepth 100000 in
set_option maxHeartbeats 4000000 in
theorem sHandleGroup_any (A B D : Option Addr) (n cap m c q d : Nat) (xs : List Cls) (g : List Prt) (L : List Int) (w : World) (hT : Sl w A n cap xs) (hG : Sl w B m c g) (hL : Sl w D q d L) :
    Calls Try.prog 29 #[.agg #[.slice A n cap], .slice B m c, .slice D q d] w (HgOut w (hgTX xs g L) (hgRX xs g L)) := by
  obtain ⟨i0, hi, hz0, hz1, hz2⟩ := info_parts infoPartSl'
  obtain ⟨i1, hi1, hy0, hy1, hy2⟩ := info_parts infoPrtS
  obtain ⟨c0, z0, hl⟩ := box1 w (.slice A n cap) 32
  have hS := hT.le hl
  have hG1 := hG.le hl
  have hL1 := hL.le hl
  obtain rfl := hG.len
  obtain rfl := hL.len
  have hLn := hL.n_le
  cases hg : gOkS xs g
  · have HX := Lib.hid (hgX_of (xs := xs) (g := g) (L := L) (b := false) (by rw [hg]; rfl))
    go_enter Try.func29, Try.ntmps29
    go_wp2_with fail
    generalize w.alloc (.cells #[.slice A n cap] 32) = w1 at *
    refine (validGroup_any _ _ _ _ _ _ xs g _ hS hG1).mono ?_
    rintro e w2 ⟨rfl, hle⟩
    rw [hg]
    have hLL := hl.trans hle
    go_wp2
    go_ret2
    exact ⟨_, _, _, rfl, by rw [HX.out.1]; exact OwL.nil _ _ _ _, by rw [HX.out.2]; exact Owd.nil _ _ _, ⟨fun i h e => by simp at e, .inl rfl⟩, hLL⟩
  · have G := goodG_of (by rw [← gOk_same]; exact hg)
    have hm := G.len
    have GE : GoodE xs g := .inr G
    cases hk : goodC xs L
    · have HX := Lib.hid (hgX_of (xs := xs) (g := g) (L := L) (b := false) (by rw [hg, hk]; rfl))
      go_enter Try.func29, Try.ntmps29
      go_wp2_with fail
      generalize w.alloc (.cells #[.slice A n cap] 32) = w1 at *
      refine (validGroup_any _ _ _ _ _ _ xs g _ hS hG1).mono ?_
      rintro e w2 ⟨rfl, hle⟩
      rw [hg]
      have hLL := hl.trans hle
      have d0 := (hle.cell z0).trans c0
      go_wp2_with (go_at_call 66; refine (goodCatches_any _ _ _ _ _ _ xs L _ (hS.le hle) (hL1.le hle)).mono ?_; rintro e w3 ⟨rfl, hle3⟩; rw [hk])
      go_ret2
      exact ⟨_, _, _, rfl, by rw [HX.out.1]; exact OwL.nil _ _ _ _, by rw [HX.out.2]; exact Owd.nil _ _ _, ⟨fun i h e => by simp at e, .inl rfl⟩, hLL.trans hle3⟩
    · have HX := Lib.hid (hgX_of (xs := xs) (g := g) (L := L) (b := true) (by rw [hg, hk]; rfl))
      have hf := (goodC_of hk).few
      have hokA := Lib.hid hG.ok
      go_enter Try.func29, Try.ntmps29
      go_wp2_with fail
      generalize w.alloc (.cells #[.slice A n cap] 32) = w1 at *
      refine (validGroup_any _ _ _ _ _ _ xs g _ hS hG1).mono ?_
      rintro e w2 ⟨rfl, hle⟩
      rw [hg]
      have hLL := hl.trans hle
      have d0 := (hle.cell z0).trans c0
      go_wp2_with (first | (go_at_call 66; refine (goodCatches_any _ _ _ _ _ _ xs L _ (hS.le hle) (hL1.le hle)).mono ?_; rintro e w3 ⟨rfl, hle3⟩; rw [hk]; have d3 := (hle3.cell (Nat.lt_of_lt_of_le z0 hle.size)).trans d0; have hL3 := hLL.trans hle3; have hs3 := hL3.size) | (at_builtin; refine wpList_append_sl rfl _ _ 34 rfl w3.heap.size 70 i1 _ 32 Try.underlying34 hi1 hy0 hy1 hy2 rfl (.slice (some ⟨w3.heap.size + 1, 0, none⟩) 0 0) 0 ([] : List Prt) rfl (own_empty (by simp) (by simp)) B g.length c g rfl ((((hG1.le hle).le hle3).alloc _).alloc _) (by unfold maxLen; omega) (by omega) (by simp; omega) ?_; intro v1 w5 O1 hg1 hat1; simp only [Nat.zero_add, List.nil_append] at O1))
      have Oe : OwL 34 70 w3 (w3.alloc (.cells #[] 34)) (.slice (some ⟨w3.heap.size, 0, none⟩) 0 0) [] ([] : List (List Prt)) := ⟨⟨own_empty (Nat.le_refl _) rfl, fun _ _ => trivial⟩, rfl, fun i h l e => by simp at e, fun i j h k e => by simp at e, fun i h e => by simp at e⟩
      have O0 : OwL 34 70 w3 w5 (.slice (some ⟨w3.heap.size, 0, none⟩) 0 0) [] ([] : List (List Prt)) := ⟨⟨(Oe.top.row.alloc _).kept hg1 (.inr (by simp [Value.ownBlock])), fun _ _ => trivial⟩, rfl, fun i h l e => by simp at e, fun i j h k e => by simp at e, fun i h e => by simp at e⟩
      have AP0 : Apart (.slice (some ⟨w3.heap.size, 0, none⟩) 0 0) v1 := .inr (by rcases hat1 with e | e <;> (rw [e]; simp [Value.ownBlock] <;> omega))
      have L5 := (((Le.refl w3).alloc (.cells #[] 34)).alloc (.cells #[] 70)).grown hg1 (fun k hk => by simp [Value.ownBlock] at hk; omega)
      have R0 : Owd 70 w3 w5 v1 g := ⟨O1, hokA.out⟩
      have G3 := hL1.le (hle.trans hle3)
      have S3 := hS.le (hle.trans hle3)
      have z3 := Nat.lt_of_lt_of_le z0 (hle.trans hle3).size
      have HM := Lib.hid (goodC_of hk).mem
      clear hg1 hat1 O1 Oe d0 hG1 hL1 hL
      go_loopw [8, 9, 10] (fun v u i wr => ∃ (k : Nat) (hs : List Hdr), k ≤ L.length ∧ i = .int .i64 k ∧ OwL 34 70 w3 wr v hs (hgT xs g (L.take k)) ∧ Owd 70 w3 wr u (hgR xs g (L.take k)) ∧ ((∀ (i : Nat) (h : Hdr), hs[i]? = some h → Apart h.v u) ∧ Apart v u) ∧ Le w3 wr) (fun _ _ i _ => L.length - (intOf i).toNat)
      case atStart => exact ⟨0, [], Nat.zero_le _, rfl, O0, R0, ⟨fun i h e => by simp at e, AP0⟩, L5⟩
      case round =>
        obtain ⟨k, hs, hk1, rfl, O1, R1, AP1, L1⟩ := hrel
        clear O0 R0 AP0 L5
        by_cases hlt : k < L.length
        · have GR := hgR_good (L.take k) GE
          have hlen := GR.len
          obtain ⟨b, off, rfl, hb, hcell, -, -⟩ := (G3.le L1).int_at hlt
          obtain ⟨Ar, cr, rfl, SR, -⟩ := R1.form (by decide)
          have hsl : hs.length < 6 := by have h1 := O1.len; rw [hgT_len, List.length_take] at h1; omega
          obtain ⟨A1, c1, rfl⟩ := own_form O1.top.row
          have HST : Hid (hgT xs g (L.take (k + 1)) = hgT xs g (L.take k) ++ [selA xs (hgR xs g (L.take k)) L[k] true]) := by
            show _ = _
            rw [List.take_succ_eq_append_getElem hlt, hgT_snoc]
          have HSR : Hid (hgR xs g (L.take (k + 1)) = selA xs (hgR xs g (L.take k)) L[k] false) := by
            show _ = _
            rw [List.take_succ_eq_append_getElem hlt, hgR_snoc]
          have dw := (L1.cell z3).trans d3
          have z4 := Nat.lt_of_lt_of_le z3 L1.size
          have q1 : wr.drew.cell? ⟨w.heap.size, 0, none⟩ = some (.slice A n cap) ∧ wr.drew.cell? ⟨b, off + k, none⟩ = some (.int .i64 L[k]) := ⟨dw, hcell⟩
          have O2 := O1.le (Le.refl wr).drew
          have SR2 := SR.le (Le.refl wr).drew
          have S4 := (S3.le L1).le (Le.refl wr).drew
          have L2 := L1.drew
          have zw : w.heap.size < wr.drew.heap.size := z4
          have zb : b < wr.drew.heap.size := hb
          have hlk : (hgR xs g (L.take k)).length ≤ 16 := hlen
          go_wp2_with fail
          refine wp_region_noPanic ?_
          refine wp_region_Z (fun w' => w'.cell? ⟨w.heap.size, 0, none⟩ = some (.slice A n cap) ∧ w'.cell? ⟨b, off + k, none⟩ = some (.int .i64 L[k])) [] (by kernel_rfl) ?_
          generalize wr.drew = V at *
          refine wpAnyZ_take (i := 0) (v := ?_) rfl (by kernel_rfl) (fun _ _ _ h => h) (Or.inl ⟨by rfl, ?_⟩) (q1) ?_
          rotate_left 1
          · (intro w hSw; (try dsimp only at hSw); go_simp; try with_reducible rfl)
          try simp only [Act.put, List.setIfInBounds_toArray, List.set_cons_zero, List.set_cons_succ]
          refine wpAnyZ_take (i := 1) (v := ?_) rfl (by kernel_rfl) (fun _ _ _ h => h) (Or.inl ⟨by rfl, ?_⟩) (q1) ?_
          rotate_left 1
          · (intro w hSw; (try dsimp only at hSw); go_simp; try with_reducible rfl)
          try simp only [Act.put, List.setIfInBounds_toArray, List.set_cons_zero, List.set_cons_succ]
          refine wpAnyZ_take (i := 2) (v := ?_) rfl (by kernel_rfl) (fun _ _ _ h => h) (Or.inl ⟨by rfl, ?_⟩) (q1) ?_
          rotate_left 1
          · (intro w hSw; (try dsimp only at hSw); go_simp; try with_reducible rfl)
          try simp only [Act.put, List.setIfInBounds_toArray, List.set_cons_zero, List.set_cons_succ]
          refine wpAnyZ_take (i := 3) (v := ?_) rfl (by kernel_rfl) (fun _ _ _ h => h) (Or.inl ⟨by rfl, ?_⟩) (q1) ?_
          rotate_left 1
          · (intro w hSw; (try dsimp only at hSw); go_simp; try with_reducible rfl)
          try simp only [Act.put, List.setIfInBounds_toArray, List.set_cons_zero, List.set_cons_succ]
          refine wpAnyZ_take (i := 4) (v := ?_) rfl (by kernel_rfl) (fun _ _ _ h => h) (Or.inl ⟨by rfl, ?_⟩) (q1) ?_
          rotate_left 1
          · (intro w hSw; (try dsimp only at hSw); go_simp; try with_reducible rfl)
          try simp only [Act.put, List.setIfInBounds_toArray, List.set_cons_zero, List.set_cons_succ]
          refine wpAnyZ_take (i := 5) (v := ?_) rfl (by kernel_rfl) (fun _ _ _ h => h) (Or.inl ⟨by rfl, ?_⟩) (q1) ?_
          rotate_left 1
          · (intro w hSw; (try dsimp only at hSw); go_simp; try with_reducible rfl)
          try simp only [Act.put, List.setIfInBounds_toArray, List.set_cons_zero, List.set_cons_succ]
          refine wpAnyZ_one (i := 6) (by kernel_rfl) (ReadyZ.mk rfl (fun K hK => ?_))
          go_simp
          go_at_call 60
          refine (splitE_any _ _ _ _ _ _ xs (hgR xs g (L.take k)) GR L[k] _ S4 SR2).mono ?_
          rintro e V2 ⟨vm, um, rfl, Om, Ou, APm, hl2⟩
          obtain ⟨Am, cm, rfl, -, -⟩ := Om.form (by decide)
          have q2 : V2.cell? ⟨w.heap.size, 0, none⟩ = some (.slice A n cap) ∧ V2.cell? ⟨b, off + k, none⟩ = some (.int .i64 L[k]) := ⟨(hl2.cell zw).trans q1.1, (hl2.cell zb).trans q1.2⟩
          refine hK.out _ _ (fun _ => q2) ?_
          clear hK K
          try simp only [Act.put, List.setIfInBounds_toArray, List.set_cons_zero, List.set_cons_succ]
          refine wpAnyZ_take (i := 7) (v := ?_) rfl (by kernel_rfl) (fun _ _ _ h => h) (Or.inl ⟨by rfl, ?_⟩) (q2) ?_
          rotate_left 1
          · (intro w hSw; (try dsimp only at hSw); go_simp; try with_reducible rfl)
          try simp only [Act.put, List.setIfInBounds_toArray, List.set_cons_zero, List.set_cons_succ]
          refine wpAnyZ_take (i := 8) (v := ?_) rfl (by kernel_rfl) (fun _ _ _ h => h) (Or.inl ⟨by rfl, ?_⟩) (q2) ?_
          rotate_left 1
          · (intro w hSw; (try dsimp only at hSw); go_simp; try with_reducible rfl)
          try simp only [Act.put, List.setIfInBounds_toArray, List.set_cons_zero, List.set_cons_succ]
          refine wpAnyZ_take (i := 9) (v := ?_) rfl (by kernel_rfl) (fun _ _ _ h => h) (Or.inl ⟨by rfl, ?_⟩) (q2) ?_
          rotate_left 1
          · (intro w hSw; (try dsimp only at hSw); go_simp; try with_reducible rfl)
          try simp only [Act.put, List.setIfInBounds_toArray, List.set_cons_zero, List.set_cons_succ]
          refine wpAnyZ_take (i := 10) (v := ?_) rfl (by kernel_rfl) (fun _ _ _ h => h) (Or.inl ⟨by rfl, ?_⟩) (q2) ?_
          rotate_left 1
          · (intro w hSw; (try dsimp only at hSw); go_simp; try with_reducible rfl)
          try simp only [Act.put, List.setIfInBounds_toArray, List.set_cons_zero, List.set_cons_succ]
          refine wpAnyZ_take (i := 11) (v := ?_) rfl (by kernel_rfl) (fun _ _ _ h => h) (Or.inl ⟨by rfl, ?_⟩) (q2) ?_
          rotate_left 1
          · (intro w hSw; (try dsimp only at hSw); go_simp; try with_reducible rfl)
          try simp only [Act.put, List.setIfInBounds_toArray, List.set_cons_zero, List.set_cons_succ]
          refine wpAnyZ_done (by kernel_rfl) ?_ _
          refine NoPanic.normal ?_
          obtain ⟨lat1, lat2⟩ := OwL.later O2 (Nat.le_refl _) Om
          obtain ⟨lau1, lau2⟩ := OwL.later O2 (Nat.le_refl _) Ou
          have O3 := O2.le hl2
          have L3 := L2.trans hl2
          have L0w := hL3.trans L3
          have hs6 := L3.size
          have HOm := Lib.hid (Om.mono L2)
          have HOu := Lib.hid (Ou.mono L2)
          clear Om Ou O2 q1 q2 SR2 SR R1 AP1 O1 dw hcell
          have HLAT := Lib.hid lat2
          have HLAU2 := Lib.hid lau2
          have HAP := Lib.hid APm
          have HL1 := Lib.hid lat1
          have HL2 := Lib.hid lau1
          clear lat1 lat2 lau1 lau2 APm
          go_wp2_with (at_builtin; refine wpList_append_sl rfl _ _ 48 rfl w3.heap.size 34 i0 _ 24 Try.underlying48 hi hz0 hz1 hz2 rfl (.slice A1 hs.length c1) hs.length hs rfl (O3.top.row.alloc _) (some ⟨V2.heap.size, 0, none⟩) 1 1 [(⟨Am, (selA xs (hgR xs g (L.take k)) L[k] true).length, cm⟩ : Hdr)] rfl (sl_one (w := V2) (cs := #[.slice Am (selA xs (hgR xs g (L.take k)) L[k] true).length cm]) (T := 34) (⟨Am, (selA xs (hgR xs g (L.take k)) L[k] true).length, cm⟩ : Hdr) rfl trivial (b := V2.heap.size) rfl) (by unfold maxLen; omega) (by omega) (by simp; omega) ?_; intro v4 w4 O4 hg4 hat4)
          have hla := Le.new V2 (.cells #[.slice Am (selA xs (hgR xs g (L.take k)) L[k] true).length cm] 34)
          have O5 := OwL.snoc (O3.le hla) (h := ⟨Am, (selA xs (hgR xs g (L.take k)) L[k] true).length, cm⟩) (l := selA xs (hgR xs g (L.take k)) L[k] true) (HOm.out.le hla) HL1.out HLAT.out O4 hg4 hat4
          have L6 := (L3.trans hla).grown hg4 (fun q hq => (O3.top.row.lt q hq).1)
          have R5 : Owd 70 w3 w4 um (selA xs (hgR xs g (L.take k)) L[k] false) := ⟨((HOu.out.le hla).row).kept hg4 HL2.out, HOu.out.ok⟩
          have AP5 : (∀ (i : Nat) (h : Hdr), (hs ++ [(⟨Am, (selA xs (hgR xs g (L.take k)) L[k] true).length, cm⟩ : Hdr)])[i]? = some h → Apart h.v um) ∧ Apart v4 um := by
            refine ⟨fun i h e => ?_, ?_⟩
            · rcases Nat.lt_or_ge i hs.length with h1 | h1
              · rw [List.getElem?_append_left h1] at e
                exact HLAU2.out i h e
              · rw [List.getElem?_append_right h1] at e
                have h2 := (List.getElem?_eq_some_iff.1 e).1
                simp at h2
                rw [show i - hs.length = 0 by omega] at e
                obtain rfl : (⟨Am, (selA xs (hgR xs g (L.take k)) L[k] true).length, cm⟩ : Hdr) = h := by simpa using e
                exact HAP.out
            · refine (Apart.new HL2.out.symm (HOu.out.le hla).row hat4 (Nat.le_refl _))
          have H5 := Lib.hid O5
          have H6 := Lib.hid R5
          have H7 := Lib.hid AP5
          clear O5 R5 AP5 hg4 hat4 O4 O3
          go_roundw
          case rel => exact ⟨k + 1, _, by omega, by go_num, by rw [HST.out]; exact H5.out, by rw [HSR.out]; exact H6.out, H7.out, L6⟩
          case measure => simp [intOf]; omega
        · obtain rfl : k = L.length := by omega
          rw [List.take_length] at O1 R1
          have H5 := Lib.hid (O1.mono hL3)
          have H6 := Lib.hid (R1.mono hL3)
          have H7 := Lib.hid AP1
          clear O1 R1 AP1
          go_wp2
          go_ret2
          exact ⟨_, hs, _, rfl, by rw [HX.out.1]; exact H5.out, by rw [HX.out.2]; exact H6.out, H7.out, hL3.trans L1⟩
end

section
open Go.RowKit Go.Shelf
attribute [local go_sem] Oper.semAt_some
set_option maxRecDepth 100000 in
set_option maxHeartbeats 4000000 in
theorem hasLeaf_gen (tf : Nat) (lb : Array Value) (eT : ∀ args w, (callFunc tf args).run Try.prog w = .ok (.enter tf args) w) (p : Lef → Bool) (A : Option Addr) (m cap : Nat) (g : List Prt) (w : World) (S : Sl w A m cap g)
    (hT : ∀ (x : Lef) (W : World), x ∈ leavesL g → Le w W → Calls Try.prog tf (#[.agg #[.int .i64 x.cls, .int .i64 x.code]] ++ lb) W fun e W' => e = .returned (.bool (p x)) ∧ Le W W') :
    Calls Try.prog 63 #[.slice A m cap, .func (.func tf) #[] lb] w fun e w' => e = .returned (.bool ((leavesL g).any p)) ∧ Le w w' := by
  have SB : SlB w.heap.size w A m cap g := ⟨S, fun hn a e => by obtain ⟨b, off, e2, hb, -⟩ := S.at_ hn; rw [e2] at e; cases e; exact hb⟩
  refine (callsIn_wide (n := 6)).1 ?_
  refine callsIn_of_wp_marks Try.func63 rfl trivial ?_ rfl
  simp only [Try.ntmps63, List.size_toArray, List.length_cons, List.length_nil, Nat.reduceAdd, Nat.reduceSub, Array.replicate_succ, Array.replicate_zero, List.push_toArray, List.append_toArray, List.nil_append, List.cons_append]
  gi_wp2_with (refine ⟨trivial, ?_⟩; gi_at_call 54; refine (leaves_in Fence.wide 5 trivial rfl _ _ _ _).mono ?_; rintro e w' ⟨rfl, rfl⟩)
  have bF := ((Boxed.new w 89 (.func (.func tf) #[] lb)).alloc (.cells #[.bool false] 4)).alloc (.cells #[.slice A m cap] 34)
  have bR := (Boxed.new (w.alloc (.cells #[.func (.func tf) #[] lb] 89)) 4 (.bool false)).alloc (.cells #[.slice A m cap] 34)
  have bG := Boxed.new ((w.alloc (.cells #[.func (.func tf) #[] lb] 89)).alloc (.cells #[.bool false] 4)) 34 (.slice A m cap)
  simp only [World.size_alloc] at bR bG
  have hB0 : Le w (((w.alloc (.cells #[.func (.func tf) #[] lb] 89)).alloc (.cells #[.bool false] 4)).alloc (.cells #[.slice A m cap] 34)) := ((Le.new w _).alloc _).alloc _
  have hsz : (((w.alloc (.cells #[.func (.func tf) #[] lb] 89)).alloc (.cells #[.bool false] 4)).alloc (.cells #[.slice A m cap] 34)).heap.size = w.heap.size + 3 := by simp
  generalize (((w.alloc (.cells #[.func (.func tf) #[] lb] 89)).alloc (.cells #[.bool false] 4)).alloc (.cells #[.slice A m cap] 34)) = W0 at *
  refine wpIn_rangeFunc_ownH rfl (by omega) (gf := 86) (lb := #[.pointer (some ⟨w.heap.size + 1 + 1, 0, none⟩)]) rfl trivial (enters_of Try.func86 (by kernel_rfl) rfl)
    (leaves_stops Fence.wide (6 - 1) trivial rfl (by omega) (w.heap.size + 1 + 1) w.heap.size A m cap g (fun x => x ∈ leavesL g) (fun _ h => h) W0 (by omega) (by omega) bG.cell (SB.below hB0)) belowK_t (belowK_b (by omega)) (Below.refl _ _) (fun _ => rfl)
    (fun pre W => ((∀ y ∈ pre, p y.1 = false) ∧ Boxed W w.heap.size 89 (.func (.func tf) #[] lb) ∧ Boxed W (w.heap.size + 1) 4 (.bool false)) ∧ Below w.heap.size w W)
    (fun c pre W => (c = .ret ∧ (∃ y ∈ pre, p y.1 = true) ∧ Boxed W (w.heap.size + 1) 4 (.bool true)) ∧ Below w.heap.size w W)
    (OwnFrom.and (Own.from (fun s X Y row hs hg hr => ⟨hs.1, boxed_own (β := Unit) _ _ (fun _ => _) () X Y row hs.2.1 hg hr, boxed_own (β := Unit) _ _ (fun _ => _) () X Y row hs.2.2 hg hr⟩) _) (ownFrom_below (Nat.le_refl _) (by omega)))
    (fun c => OwnFrom.and (Own.from (fun s X Y row hs hg hr => ⟨hs.1, hs.2.1, boxed_own (β := Unit) _ _ (fun _ => _) () X Y row hs.2.2 hg hr⟩) _) (ownFrom_below (Nat.le_refl _) (by omega)))
    ⟨⟨by simp, bF, bR⟩, hB0⟩
    (fun x a' W => ∃ Bx, w.heap.size + 1 < Bx ∧ Boxed2 W Bx 75 (.int .i64 x.1.cls) (.int .i64 x.1.code) ∧ a' = { tmps := #[.slice A m cap, .func (.func tf) #[] lb, undef, .pointer (some ⟨w.heap.size, 0, none⟩), .pointer (some ⟨w.heap.size + 1, 0, none⟩), .pointer (some ⟨Bx, 0, none⟩), .slice A m cap, .func (.func 86) #[] #[.pointer (some ⟨w.heap.size + 1 + 1, 0, none⟩)], .agg #[.int .i64 x.1.cls, .int .i64 x.1.code], undef, undef, undef], defers := [] })
    (fun x a' _ X Y row hs hg hr => by obtain ⟨Bx, h1, h2, h3⟩ := hs; exact ⟨Bx, h1, boxed2_own h2 hg (fun r e => (hr r e).2), h3⟩)
    ?assign ?body ?done ?stop
  case assign =>
    rintro l pre x W K ⟨⟨hp, bF1, bR1⟩, hB1⟩ hK
    gi_wp2
    exact hK _ _ ((KeepsOthers.alloc _ _).from _) ((Below.refl _ W).alloc hB1.size _) ⟨⟨hp, bF1.alloc _, bR1.alloc _⟩, hB1.alloc hB1.size _⟩ ⟨W.heap.size, bR1.lt, World.alloc_heap_new W _, rfl⟩
  case body =>
    rintro l pre x a' W hl ⟨r, hr⟩ ⟨⟨hp, bF1, bR1⟩, hB1⟩ ⟨Bx, hBx, bX, rfl⟩ hlt
    have cF := bF1.cell
    have cX0 := bX.c0
    have cX1 := bX.c1
    gi_wp2_with (refine ⟨trivial, ?_⟩; refine (CallsIn.inRound l (callsIn_wide.2 (hT x.1 W x.2 hB1))).mono ?_; rintro e w' ⟨rfl, hle⟩; have bR2 := boxed_le bR1 hle; have bF2 := boxed_le bF1 hle; have cR2 := bR2.cell; have fR2 := bR2.frozen)
    · rename_i hx
      exact ⟨(keepsFrom_le hle).trans ((KeepsOthers.setCell _ _ _).from _), ⟨rfl, ⟨x, by simp, hx⟩, bR2.set _⟩, (hB1.trans (hle.mono hB1.size)).setCell (p := ⟨w.heap.size + 1, 0, none⟩) (by simp) _⟩
    · rename_i hx
      have hx' : p x.1 = false := by simpa using hx
      exact ⟨keepsFrom_le hle, hle.mono hB1.size, ⟨fun y hy => (List.mem_append.1 hy).elim (hp y) (fun e => by simp at e; rw [e]; exact hx'), bF2, bR2⟩, hB1.trans (hle.mono hB1.size)⟩
  case done =>
    rintro D zs W hD hz ⟨⟨hp, bF1, bR1⟩, hB1⟩ hK
    have cR := bR1.cell
    have fR := bR1.frozen
    have hno : (leavesL g).any p = false := by
      rw [← hz, List.any_map, List.any_eq_false]
      intro y hy
      simp [hp y hy]
    have HNO := Lib.hid hno
    clear hno
    gi_wp2
    have hK' := (KeepsOthers.setCell W ⟨w.heap.size + 1, 0, none⟩ (.bool false)).same D _ hK rfl
    refine ⟨by simp, .inl ⟨_, _, rfl, run_takeDeferred hK', ?_⟩⟩
    have hc5 := cell_kept (World.cell?_setCell_same' W ⟨w.heap.size + 1, 0, none⟩ (.bool false) (by rw [cR]; rfl)) (grownBy_putObj' _ D (.deferred none)) (fun r e => by cases e; exact ⟨_, hK', rfl⟩)
    refine ⟨.bool false, ?_, by rw [HNO.out], (hB1.setCell (p := ⟨w.heap.size + 1, 0, none⟩) (by simp) _).trans (belowK_b (w := w) (Nat.le_refl _) _ D _ _ (by omega) hK' rfl rfl)⟩
    simp [results, Try.f63, go_sem, hc5]
  case stop =>
    rintro D c pre W hD hpre ⟨⟨rfl, hin, bR1⟩, hB⟩ hK
    gi_wp2
    refine ⟨by simp, .inl ⟨_, _, rfl, run_takeDeferred hK, ?_⟩⟩
    have hc5 := cell_kept bR1.cell (grownBy_putObj' _ D (.deferred none)) (fun r e => by cases e; exact ⟨_, hK, rfl⟩)
    have hyes : (leavesL g).any p = true := by
      obtain ⟨y, hy, hpy⟩ := hin
      exact List.any_eq_true.2 ⟨y.1, y.2, hpy⟩
    refine ⟨.bool true, ?_, by rw [hyes], hB.trans (belowK_b (w := w) (Nat.le_refl _) W D _ _ (by omega) hK rfl rfl)⟩
    simp [results, Try.f63, go_sem, hc5]
end

section
open Go.RowKit Go.Shelf
attribute [local go_sem] Oper.semAt_some
/-- what visit finds: the boxes of the test, of what is kept, of itself; what is kept so far -/
structure VSt (n₀ : Nat) (tf : Nat) (lb : Array Value) (b off C : Nat) (g : List Prt) (W : World) (v : Value) (L : List Prt) : Prop where
  bf : Boxed W n₀ 89 (.func (.func tf) #[] lb)
  bo : Boxed W (n₀ + 1) 34 v
  bv : Boxed W (n₀ + 1 + 1) 128 (.func (.func 101) #[] #[.pointer (some ⟨n₀, 0, none⟩), .pointer (some ⟨n₀ + 1, 0, none⟩), .pointer (some ⟨n₀ + 1 + 1, 0, none⟩)])
  row : W.ownsRow n₀ 70 4 v L.length (L.flatMap Enc.cells)
  sl : SlB n₀ W (some ⟨b, off, none⟩) g.length C g
/-- what visit leaves alone -/
structure VEf (n₀ : Nat) (W W' : World) (v v' : Value) : Prop where
  le : Below n₀ W W'
  block : ∀ k, k < W.heap.size → k ≠ n₀ + 1 → v.ownBlock ≠ some k → W'.heap[k]? = W.heap[k]?
  own : v'.ownBlock = v.ownBlock ∨ ∀ k, v'.ownBlock = some k → W.heap.size ≤ k
theorem VEf.refl (n₀ : Nat) (W : World) (v : Value) : VEf n₀ W W v v := ⟨Below.refl _ _, fun _ _ _ _ => rfl, .inl rfl⟩
theorem VEf.trans {n₀ : Nat} {A B D : World} {u v x : Value} (h : VEf n₀ A B u v) (k : VEf n₀ B D v x) : VEf n₀ A D u x := by
  refine ⟨h.le.trans k.le, fun i hi h1 h2 => ?_, ?_⟩
  · have hn : v.ownBlock ≠ some i := by
      rcases h.own with e | e
      · rw [e]; exact h2
      · intro e2; have := e i e2; omega
    exact (k.block i (Nat.lt_of_lt_of_le hi h.le.size) h1 hn).trans (h.block i hi h1 h2)
  · rcases k.own with e | e
    · rw [e]; exact h.own
    · exact .inr fun i hi => Nat.le_trans h.le.size (e i hi)
/-- what the visits of some pieces keep -/
def flK (t : Prt → Bool) (g : List Prt) (ks : List Nat) : List Prt := (ks.map fun k => selL (keepsAt t g) g k (endN g k - k)).flatten
theorem flK_snoc (t : Prt → Bool) (g : List Prt) (ks : List Nat) (k : Nat) : flK t g (ks ++ [k]) = flK t g ks ++ selL (keepsAt t g) g k (endN g k - k) := by
  unfold flK; simp
theorem selL_len (f : Nat → Bool) (g : List Prt) : ∀ m k, (selL f g k m).length ≤ m
  | 0, _ => Nat.le_refl _
  | m + 1, k => by
    have := selL_len f g m (k + 1)
    unfold selL
    cases f k <;> simp <;> omega
theorem flK_len (t : Prt → Bool) (g : List Prt) (h : g.length ≤ 16) (ks : List Nat) (hk : ∀ k ∈ ks, k < g.length) : (flK t g ks).length ≤ 16 * ks.length := by
  induction ks with
  | nil => simp [flK]
  | cons k ks ih =>
    have h1 := ih (fun x hx => hk x (List.mem_cons_of_mem _ hx))
    have h2 := selL_len (keepsAt t g) g (endN g k - k) k
    have h3 := endN_le (g := g) (i := k) (hk k (List.mem_cons_self ..))
    unfold flK at h1 ⊢
    simp at h1 ⊢
    omega
/-- the visits of all pieces from f up to e keep what is kept there -/
theorem flK_all (t : Prt → Bool) (g : List Prt) : ∀ (m f e : Nat), e ≤ g.length → (∀ i, f ≤ i → i < e → endN g i ≤ e) → e - f ≤ m → flK t g (kdS g m f e) = selL (keepsAt t g) g f (e - f)
  | 0, f, e, _, _, hm => by rw [show e - f = 0 by omega]; rfl
  | m + 1, f, e, he, hn, hm => by
    by_cases h : f < e
    · have hgt := endN_gt g f
      have hle := hn f (Nat.le_refl _) h
      have ih := flK_all t g m (endN g f) e he (fun i a b => hn i (by omega) b) (by omega)
      have e1 : kdS g (m + 1) f e = f :: kdS g m (endN g f) e := by
        show (if f < e then _ else _) = _
        rw [if_pos h]
      have e2 : e - f = (endN g f - f) + (e - endN g f) := by omega
      rw [e1, e2, selL_append, show f + (endN g f - f) = endN g f by omega, ← ih]
      unfold flK; simp
    · have e1 : kdS g (m + 1) f e = [] := by
        show (if f < e then _ else _) = _
        rw [if_neg h]
      rw [e1, show e - f = 0 by omega]; rfl
/-- the leaves of a piece that pass -/
theorem any_piece (p : Lef → Bool) (g : List Prt) (f : Nat) : ∀ e, e ≤ g.length → f ≤ e → (leavesL ((g.drop f).take (e - f))).any p = anyF (passAt (fun q => p ⟨q.cls, q.code⟩) g) f (e - f)
  | e, he, hfe => by
    rw [Bool.eq_iff_iff, anyF_iff, List.any_eq_true]
    unfold leavesL
    constructor
    · rintro ⟨x, hx, hp⟩
      obtain ⟨q, hq, rfl⟩ := List.mem_map.1 hx
      obtain ⟨hm, hg⟩ := List.mem_filter.1 hq
      obtain ⟨i, hi, e1⟩ := List.getElem_of_mem hm
      rw [List.length_take, List.length_drop] at hi
      rw [List.getElem_take, List.getElem_drop] at e1
      refine ⟨f + i, by omega, by omega, ?_⟩
      unfold passAt
      rw [gAt_at (by omega), e1]
      simp only [Bool.and_eq_true]
      exact ⟨by simpa using hg, hp⟩
    · rintro ⟨i, h1, h2, hp⟩
      have hi : i < g.length := by omega
      unfold passAt at hp
      rw [gAt_at hi] at hp
      simp only [Bool.and_eq_true] at hp
      refine ⟨⟨g[i].cls, g[i].code⟩, List.mem_map.2 ⟨g[i], List.mem_filter.2 ⟨?_, by simpa using hp.1⟩, rfl⟩, hp.2⟩
      have : (List.take (e - f) (List.drop f g))[i - f]'(by rw [List.length_take, List.length_drop]; omega) = g[i] := by
        rw [List.getElem_take, List.getElem_drop]
        congr 1; omega
      rw [← this]
      exact List.getElem_mem _
end
end Go.Proofs.Ytpdggodmiliijaa
