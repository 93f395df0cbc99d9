/- one text of ItT, PAn, Y, CC -/
import Derived.Test.YtkpnajffeclmdaaCl17
import Derived.Test.YtkpnajffeclmdaaCl18
import Derived.Test.YtkpnajffeclmdaaCl25
import Derived.Test.YtkpnajffeclmdaaCl2
import Derived.Test.YtkpnajffeclmdaaCl15
namespace Go.Proofs.Ytkpnajffeclmdaa
open Go.RowKit
set_option linter.unusedVariables false
section
set_option maxRecDepth 100000 in
theorem split0_any (A B : Option Addr) (n cap c : Nat) (a : Int) (w : World) (hG : Sl w B 0 c ([] : List Prt)) :
    Calls Try.prog 39 #[.agg #[.slice A n cap], .slice B 0 c, .int .i64 a] w (SpOut w [] []) := by
  have hc := hG.cap_
  have h1 := own_empty (w := w.alloc (.cells #[.slice A n cap] 25)) (base := w.heap.size) (g := w.heap.size + 1) (e := 57) (size := 4) (by simp) (by simp)
  have h2 := own_empty (w := (w.alloc (.cells #[.slice A n cap] 25)).alloc (.cells #[] 57)) (base := w.heap.size) (g := w.heap.size + 1 + 1) (e := 57) (size := 4) (by simp; omega) (by simp)
  go_enter Try.func39, Try.ntmps39
  go_wp2
  refine wp_loop_rounds 1 ?_
  rw [rounds_succ]
  go_wp2
  go_ret2
  exact ⟨_, _, rfl, ⟨h1.alloc _, fun _ h => nomatch h⟩, ⟨h2, fun _ h => nomatch h⟩, .inr (by simp [Value.ownBlock]), ((Le.new w _).alloc _).alloc _⟩
theorem splitE_any (A B : Option Addr) (n cap m c : Nat) (xs : List Cls) (g : List Prt) (G : GoodE xs g) (a : Int) (w : World) (hT : Sl w A n cap xs) (hG : Sl w B m c g) :
    Calls Try.prog 39 #[.agg #[.slice A n cap], .slice B m c, .int .i64 a] w (SpOut w (selA xs g a true) (selA xs g a false)) := by
  rcases G with rfl | G
  · obtain rfl := hG.len
    exact split0_any A B n cap c a w hG
  · exact split_any A B n cap m c xs g G a w hT hG
def hgTX (xs : List Cls) (g : List Prt) (L : List Int) : List (List Prt) := cond (gOkS xs g && goodC xs L) (hgT xs g L) []
def hgRX (xs : List Cls) (g : List Prt) (L : List Int) : List Prt := cond (gOkS xs g && goodC xs L) (hgR xs g L) []
theorem hgX_of {xs : List Cls} {g : List Prt} {L : List Int} {b : Bool} (h : (gOkS xs g && goodC xs L) = b) : hgTX xs g L = cond b (hgT xs g L) [] ∧ hgRX xs g L = cond b (hgR xs g L) [] := by unfold hgTX hgRX; rw [h]; exact ⟨rfl, rfl⟩
theorem hgTX_tot (xs : List Cls) (g : List Prt) (L : List Int) : tot (hgTX xs g L) ≤ 1048576 ∧ (hgTX xs g L).length ≤ 1048576 := by
  cases h : gOkS xs g && goodC xs L
  · rw [(hgX_of h).1]; exact ⟨Nat.zero_le _, Nat.zero_le _⟩
  · have h2 : gOkS xs g = true ∧ goodC xs L = true := by simpa using h
    have G : GoodE xs g := .inr (goodG_of (by rw [← gOk_same]; exact h2.1))
    have hf := (goodC_of h2.2).few
    have h3 := tot_mem (c := 16) (L := hgT xs g L) (fun l hl => (hgT_mem L G l hl).len)
    rw [hgT_len] at h3
    rw [(hgX_of h).1]
    show tot (hgT xs g L) ≤ _ ∧ (hgT xs g L).length ≤ _
    rw [hgT_len]
    omega
theorem hgRX_len (xs : List Cls) (g : List Prt) (L : List Int) : (hgRX xs g L).length ≤ 1048576 := by
  cases h : gOkS xs g && goodC xs L
  · rw [(hgX_of h).2]; exact Nat.zero_le _
  · have h2 : gOkS xs g = true ∧ goodC xs L = true := by simpa using h
    have G : GoodE xs g := .inr (goodG_of (by rw [← gOk_same]; exact h2.1))
    have := (hgR_good L G).len
    rw [(hgX_of h).2]
    show (hgR xs g L).length ≤ _
    omega
/-- lists of parts, and one more apart of them -/
def HgOut (w : World) (L : List (List Prt)) (M : List Prt) (e : Ending) (w' : World) : Prop :=
  ∃ v hs u, e = .returned (.tuple #[v, u]) ∧ OwL 26 57 w w' v hs L ∧ Owd 57 w w' u M ∧ ((∀ (i : Nat) (h : Hdr), hs[i]? = some h → Apart h.v u) ∧ Apart v u) ∧ Le w w'
set_option maxRecDepth 100000 in
set_option maxHeartbeats 4000000 in
theorem sHandleGroup_any (A B D : Option Addr) (n cap m c q d : Nat) (xs : List Cls) (g : List Prt) (L : List Int) (w : World) (hT : Sl w A n cap xs) (hG : Sl w B m c g) (hL : Sl w D q d L) :
    Calls Try.prog 19 #[.agg #[.slice A n cap], .slice B m c, .slice D q d] w (HgOut w (hgTX xs g L) (hgRX xs g L)) := by
  obtain ⟨i0, hi, hz0, hz1, hz2⟩ := info_parts infoPartSl'
  obtain ⟨i1, hi1, hy0, hy1, hy2⟩ := info_parts infoPrtS
  obtain ⟨c0, z0, hl⟩ := box1 w (.slice A n cap) 25
  have hS := hT.le hl
  have hG1 := hG.le hl
  have hL1 := hL.le hl
  obtain rfl := hG.len
  obtain rfl := hL.len
  have hLn := hL.n_le
  cases hg : gOkS xs g
  · have HX := Lib.hid (hgX_of (xs := xs) (g := g) (L := L) (b := false) (by rw [hg]; rfl))
    go_enter Try.func19, Try.ntmps19
    go_wp2_with fail
    generalize w.alloc (.cells #[.slice A n cap] 25) = w1 at *
    refine (validGroup_any _ _ _ _ _ _ xs g _ hS hG1).mono ?_
    rintro e w2 ⟨rfl, hle⟩
    rw [hg]
    have hLL := hl.trans hle
    go_wp2
    go_ret2
    exact ⟨_, _, _, rfl, by rw [HX.out.1]; exact OwL.nil _ _ _ _, by rw [HX.out.2]; exact Owd.nil _ _ _, ⟨fun i h e => by simp at e, .inl rfl⟩, hLL⟩
  · have G := goodG_of (by rw [← gOk_same]; exact hg)
    have hm := G.len
    have GE : GoodE xs g := .inr G
    cases hk : goodC xs L
    · have HX := Lib.hid (hgX_of (xs := xs) (g := g) (L := L) (b := false) (by rw [hg, hk]; rfl))
      go_enter Try.func19, Try.ntmps19
      go_wp2_with fail
      generalize w.alloc (.cells #[.slice A n cap] 25) = w1 at *
      refine (validGroup_any _ _ _ _ _ _ xs g _ hS hG1).mono ?_
      rintro e w2 ⟨rfl, hle⟩
      rw [hg]
      have hLL := hl.trans hle
      have d0 := (hle.cell z0).trans c0
      go_wp2_with (go_at_call 51; refine (goodCatches_any _ _ _ _ _ _ xs L _ (hS.le hle) (hL1.le hle)).mono ?_; rintro e w3 ⟨rfl, hle3⟩; rw [hk])
      go_ret2
      exact ⟨_, _, _, rfl, by rw [HX.out.1]; exact OwL.nil _ _ _ _, by rw [HX.out.2]; exact Owd.nil _ _ _, ⟨fun i h e => by simp at e, .inl rfl⟩, hLL.trans hle3⟩
    · have HX := Lib.hid (hgX_of (xs := xs) (g := g) (L := L) (b := true) (by rw [hg, hk]; rfl))
      have hf := (goodC_of hk).few
      have hokA := Lib.hid hG.ok
      go_enter Try.func19, Try.ntmps19
      go_wp2_with fail
      generalize w.alloc (.cells #[.slice A n cap] 25) = w1 at *
      refine (validGroup_any _ _ _ _ _ _ xs g _ hS hG1).mono ?_
      rintro e w2 ⟨rfl, hle⟩
      rw [hg]
      have hLL := hl.trans hle
      have d0 := (hle.cell z0).trans c0
      go_wp2_with (first | (go_at_call 51; refine (goodCatches_any _ _ _ _ _ _ xs L _ (hS.le hle) (hL1.le hle)).mono ?_; rintro e w3 ⟨rfl, hle3⟩; rw [hk]; have d3 := (hle3.cell (Nat.lt_of_lt_of_le z0 hle.size)).trans d0; have hL3 := hLL.trans hle3; have hs3 := hL3.size) | (at_builtin; refine wpList_append_sl rfl _ _ 26 rfl w3.heap.size 57 i1 _ 32 Try.underlying26 hi1 hy0 hy1 hy2 rfl (.slice (some ⟨w3.heap.size + 1, 0, none⟩) 0 0) 0 ([] : List Prt) rfl (own_empty (by simp) (by simp)) B g.length c g rfl ((((hG1.le hle).le hle3).alloc _).alloc _) (by unfold maxLen; omega) (by omega) (by simp; omega) ?_; intro v1 w5 O1 hg1 hat1; simp only [Nat.zero_add, List.nil_append] at O1))
      have Oe : OwL 26 57 w3 (w3.alloc (.cells #[] 26)) (.slice (some ⟨w3.heap.size, 0, none⟩) 0 0) [] ([] : List (List Prt)) := ⟨⟨own_empty (Nat.le_refl _) rfl, fun _ _ => trivial⟩, rfl, fun i h l e => by simp at e, fun i j h k e => by simp at e, fun i h e => by simp at e⟩
      have O0 : OwL 26 57 w3 w5 (.slice (some ⟨w3.heap.size, 0, none⟩) 0 0) [] ([] : List (List Prt)) := ⟨⟨(Oe.top.row.alloc _).kept hg1 (.inr (by simp [Value.ownBlock])), fun _ _ => trivial⟩, rfl, fun i h l e => by simp at e, fun i j h k e => by simp at e, fun i h e => by simp at e⟩
      have AP0 : Apart (.slice (some ⟨w3.heap.size, 0, none⟩) 0 0) v1 := .inr (by rcases hat1 with e | e <;> (rw [e]; simp [Value.ownBlock] <;> omega))
      have L5 := (((Le.refl w3).alloc (.cells #[] 26)).alloc (.cells #[] 57)).grown hg1 (fun k hk => by simp [Value.ownBlock] at hk; omega)
      have R0 : Owd 57 w3 w5 v1 g := ⟨O1, hokA.out⟩
      have G3 := hL1.le (hle.trans hle3)
      have S3 := hS.le (hle.trans hle3)
      have z3 := Nat.lt_of_lt_of_le z0 (hle.trans hle3).size
      have HM := Lib.hid (goodC_of hk).mem
      clear hg1 hat1 O1 Oe d0 hG1 hL1 hL
      go_loopw [8, 9, 10] (fun v u i wr => ∃ (k : Nat) (hs : List Hdr), k ≤ L.length ∧ i = .int .i64 k ∧ OwL 26 57 w3 wr v hs (hgT xs g (L.take k)) ∧ Owd 57 w3 wr u (hgR xs g (L.take k)) ∧ ((∀ (i : Nat) (h : Hdr), hs[i]? = some h → Apart h.v u) ∧ Apart v u) ∧ Le w3 wr) (fun _ _ i _ => L.length - (intOf i).toNat)
      case atStart => exact ⟨0, [], Nat.zero_le _, rfl, O0, R0, ⟨fun i h e => by simp at e, AP0⟩, L5⟩
      case round =>
        obtain ⟨k, hs, hk1, rfl, O1, R1, AP1, L1⟩ := hrel
        clear O0 R0 AP0 L5
        by_cases hlt : k < L.length
        · have GR := hgR_good (L.take k) GE
          have hlen := GR.len
          obtain ⟨b, off, rfl, hb, hcell, -, -⟩ := (G3.le L1).int_at hlt
          obtain ⟨Ar, cr, rfl, SR, -⟩ := R1.form (by decide)
          have hsl : hs.length < 6 := by have h1 := O1.len; rw [hgT_len, List.length_take] at h1; omega
          obtain ⟨A1, c1, rfl⟩ := own_form O1.top.row
          have HST : Hid (hgT xs g (L.take (k + 1)) = hgT xs g (L.take k) ++ [selA xs (hgR xs g (L.take k)) L[k] true]) := by
            show _ = _
            rw [List.take_succ_eq_append_getElem hlt, hgT_snoc]
          have HSR : Hid (hgR xs g (L.take (k + 1)) = selA xs (hgR xs g (L.take k)) L[k] false) := by
            show _ = _
            rw [List.take_succ_eq_append_getElem hlt, hgR_snoc]
          have dw := (L1.cell z3).trans d3
          have z4 := Nat.lt_of_lt_of_le z3 L1.size
          have q1 : wr.drew.cell? ⟨w.heap.size, 0, none⟩ = some (.slice A n cap) ∧ wr.drew.cell? ⟨b, off + k, none⟩ = some (.int .i64 L[k]) := ⟨dw, hcell⟩
          have O2 := O1.le (Le.refl wr).drew
          have SR2 := SR.le (Le.refl wr).drew
          have S4 := (S3.le L1).le (Le.refl wr).drew
          have L2 := L1.drew
          have zw : w.heap.size < wr.drew.heap.size := z4
          have zb : b < wr.drew.heap.size := hb
          have hlk : (hgR xs g (L.take k)).length ≤ 16 := hlen
          go_wp2_with fail
          refine wp_region_noPanic ?_
          refine wp_region_Z (fun w' => w'.cell? ⟨w.heap.size, 0, none⟩ = some (.slice A n cap) ∧ w'.cell? ⟨b, off + k, none⟩ = some (.int .i64 L[k])) [] (by kernel_rfl) ?_
          generalize wr.drew = V at *
          refine wpAnyZ_take (i := 0) (v := ?_) rfl (by kernel_rfl) (fun _ _ _ h => h) (Or.inl ⟨by rfl, ?_⟩) (q1) ?_
          rotate_left 1
          · (intro w hSw; (try dsimp only at hSw); go_simp; try with_reducible rfl)
          try simp only [Act.put, List.setIfInBounds_toArray, List.set_cons_zero, List.set_cons_succ]
          refine wpAnyZ_take (i := 1) (v := ?_) rfl (by kernel_rfl) (fun _ _ _ h => h) (Or.inl ⟨by rfl, ?_⟩) (q1) ?_
          rotate_left 1
          · (intro w hSw; (try dsimp only at hSw); go_simp; try with_reducible rfl)
          try simp only [Act.put, List.setIfInBounds_toArray, List.set_cons_zero, List.set_cons_succ]
          refine wpAnyZ_take (i := 2) (v := ?_) rfl (by kernel_rfl) (fun _ _ _ h => h) (Or.inl ⟨by rfl, ?_⟩) (q1) ?_
          rotate_left 1
          · (intro w hSw; (try dsimp only at hSw); go_simp; try with_reducible rfl)
          try simp only [Act.put, List.setIfInBounds_toArray, List.set_cons_zero, List.set_cons_succ]
          refine wpAnyZ_take (i := 3) (v := ?_) rfl (by kernel_rfl) (fun _ _ _ h => h) (Or.inl ⟨by rfl, ?_⟩) (q1) ?_
          rotate_left 1
          · (intro w hSw; (try dsimp only at hSw); go_simp; try with_reducible rfl)
          try simp only [Act.put, List.setIfInBounds_toArray, List.set_cons_zero, List.set_cons_succ]
          refine wpAnyZ_take (i := 4) (v := ?_) rfl (by kernel_rfl) (fun _ _ _ h => h) (Or.inl ⟨by rfl, ?_⟩) (q1) ?_
          rotate_left 1
          · (intro w hSw; (try dsimp only at hSw); go_simp; try with_reducible rfl)
          try simp only [Act.put, List.setIfInBounds_toArray, List.set_cons_zero, List.set_cons_succ]
          refine wpAnyZ_take (i := 5) (v := ?_) rfl (by kernel_rfl) (fun _ _ _ h => h) (Or.inl ⟨by rfl, ?_⟩) (q1) ?_
          rotate_left 1
          · (intro w hSw; (try dsimp only at hSw); go_simp; try with_reducible rfl)
          try simp only [Act.put, List.setIfInBounds_toArray, List.set_cons_zero, List.set_cons_succ]
          refine wpAnyZ_one (i := 6) (by kernel_rfl) (ReadyZ.mk rfl (fun K hK => ?_))
          go_simp
          go_at_call 39
          refine (splitE_any _ _ _ _ _ _ xs (hgR xs g (L.take k)) GR L[k] _ S4 SR2).mono ?_
          rintro e V2 ⟨vm, um, rfl, Om, Ou, APm, hl2⟩
          obtain ⟨Am, cm, rfl, -, -⟩ := Om.form (by decide)
          have q2 : V2.cell? ⟨w.heap.size, 0, none⟩ = some (.slice A n cap) ∧ V2.cell? ⟨b, off + k, none⟩ = some (.int .i64 L[k]) := ⟨(hl2.cell zw).trans q1.1, (hl2.cell zb).trans q1.2⟩
          refine hK.out _ _ (fun _ => q2) ?_
          clear hK K
          try simp only [Act.put, List.setIfInBounds_toArray, List.set_cons_zero, List.set_cons_succ]
          refine wpAnyZ_take (i := 7) (v := ?_) rfl (by kernel_rfl) (fun _ _ _ h => h) (Or.inl ⟨by rfl, ?_⟩) (q2) ?_
          rotate_left 1
          · (intro w hSw; (try dsimp only at hSw); go_simp; try with_reducible rfl)
          try simp only [Act.put, List.setIfInBounds_toArray, List.set_cons_zero, List.set_cons_succ]
          refine wpAnyZ_take (i := 8) (v := ?_) rfl (by kernel_rfl) (fun _ _ _ h => h) (Or.inl ⟨by rfl, ?_⟩) (q2) ?_
          rotate_left 1
          · (intro w hSw; (try dsimp only at hSw); go_simp; try with_reducible rfl)
          try simp only [Act.put, List.setIfInBounds_toArray, List.set_cons_zero, List.set_cons_succ]
          refine wpAnyZ_take (i := 9) (v := ?_) rfl (by kernel_rfl) (fun _ _ _ h => h) (Or.inl ⟨by rfl, ?_⟩) (q2) ?_
          rotate_left 1
          · (intro w hSw; (try dsimp only at hSw); go_simp; try with_reducible rfl)
          try simp only [Act.put, List.setIfInBounds_toArray, List.set_cons_zero, List.set_cons_succ]
          refine wpAnyZ_take (i := 10) (v := ?_) rfl (by kernel_rfl) (fun _ _ _ h => h) (Or.inl ⟨by rfl, ?_⟩) (q2) ?_
          rotate_left 1
          · (intro w hSw; (try dsimp only at hSw); go_simp; try with_reducible rfl)
          try simp only [Act.put, List.setIfInBounds_toArray, List.set_cons_zero, List.set_cons_succ]
          refine wpAnyZ_take (i := 11) (v := ?_) rfl (by kernel_rfl) (fun _ _ _ h => h) (Or.inl ⟨by rfl, ?_⟩) (q2) ?_
          rotate_left 1
          · (intro w hSw; (try dsimp only at hSw); go_simp; try with_reducible rfl)
          try simp only [Act.put, List.setIfInBounds_toArray, List.set_cons_zero, List.set_cons_succ]
          refine wpAnyZ_done (by kernel_rfl) ?_ _
          refine NoPanic.normal ?_
          obtain ⟨lat1, lat2⟩ := OwL.later O2 (Nat.le_refl _) Om
          obtain ⟨lau1, lau2⟩ := OwL.later O2 (Nat.le_refl _) Ou
          have O3 := O2.le hl2
          have L3 := L2.trans hl2
          have L0w := hL3.trans L3
          have hs6 := L3.size
          have HOm := Lib.hid (Om.mono L2)
          have HOu := Lib.hid (Ou.mono L2)
          clear Om Ou O2 q1 q2 SR2 SR R1 AP1 O1 dw hcell
          have HLAT := Lib.hid lat2
          have HLAU2 := Lib.hid lau2
          have HAP := Lib.hid APm
          have HL1 := Lib.hid lat1
          have HL2 := Lib.hid lau1
          clear lat1 lat2 lau1 lau2 APm
          go_wp2_with (at_builtin; refine wpList_append_sl rfl _ _ 44 rfl w3.heap.size 26 i0 _ 24 Try.underlying44 hi hz0 hz1 hz2 rfl (.slice A1 hs.length c1) hs.length hs rfl (O3.top.row.alloc _) (some ⟨V2.heap.size, 0, none⟩) 1 1 [(⟨Am, (selA xs (hgR xs g (L.take k)) L[k] true).length, cm⟩ : Hdr)] rfl (sl_one (w := V2) (cs := #[.slice Am (selA xs (hgR xs g (L.take k)) L[k] true).length cm]) (T := 26) (⟨Am, (selA xs (hgR xs g (L.take k)) L[k] true).length, cm⟩ : Hdr) rfl trivial (b := V2.heap.size) rfl) (by unfold maxLen; omega) (by omega) (by simp; omega) ?_; intro v4 w4 O4 hg4 hat4)
          have hla := Le.new V2 (.cells #[.slice Am (selA xs (hgR xs g (L.take k)) L[k] true).length cm] 26)
          have O5 := OwL.snoc (O3.le hla) (h := ⟨Am, (selA xs (hgR xs g (L.take k)) L[k] true).length, cm⟩) (l := selA xs (hgR xs g (L.take k)) L[k] true) (HOm.out.le hla) HL1.out HLAT.out O4 hg4 hat4
          have L6 := (L3.trans hla).grown hg4 (fun q hq => (O3.top.row.lt q hq).1)
          have R5 : Owd 57 w3 w4 um (selA xs (hgR xs g (L.take k)) L[k] false) := ⟨((HOu.out.le hla).row).kept hg4 HL2.out, HOu.out.ok⟩
          have AP5 : (∀ (i : Nat) (h : Hdr), (hs ++ [(⟨Am, (selA xs (hgR xs g (L.take k)) L[k] true).length, cm⟩ : Hdr)])[i]? = some h → Apart h.v um) ∧ Apart v4 um := by
            refine ⟨fun i h e => ?_, ?_⟩
            · rcases Nat.lt_or_ge i hs.length with h1 | h1
              · rw [List.getElem?_append_left h1] at e
                exact HLAU2.out i h e
              · rw [List.getElem?_append_right h1] at e
                have h2 := (List.getElem?_eq_some_iff.1 e).1
                simp at h2
                rw [show i - hs.length = 0 by omega] at e
                obtain rfl : (⟨Am, (selA xs (hgR xs g (L.take k)) L[k] true).length, cm⟩ : Hdr) = h := by simpa using e
                exact HAP.out
            · refine (Apart.new HL2.out.symm (HOu.out.le hla).row hat4 (Nat.le_refl _))
          have H5 := Lib.hid O5
          have H6 := Lib.hid R5
          have H7 := Lib.hid AP5
          clear O5 R5 AP5 hg4 hat4 O4 O3
          go_roundw
          case rel => exact ⟨k + 1, _, by omega, by go_num, by rw [HST.out]; exact H5.out, by rw [HSR.out]; exact H6.out, H7.out, L6⟩
          case measure => simp [intOf]; omega
        · obtain rfl : k = L.length := by omega
          rw [List.take_length] at O1 R1
          have H5 := Lib.hid (O1.mono hL3)
          have H6 := Lib.hid (R1.mono hL3)
          have H7 := Lib.hid AP1
          clear O1 R1 AP1
          go_wp2
          go_ret2
          exact ⟨_, hs, _, rfl, by rw [HX.out.1]; exact H5.out, by rw [HX.out.2]; exact H6.out, H7.out, hL3.trans L1⟩
end

section
theorem findN_spec (s : ByteArray) : ∀ (L : List Cls) (j : Int), (findN L s j = -1 ∧ ∀ i (h : i < L.length), L[i].name ≠ s) ∨ ∃ i, ∃ h : i < L.length, findN L s j = j + i ∧ L[i].name = s ∧ ∀ k (hk : k < i), (L[k]'(by omega)).name ≠ s
  | [], j => .inl ⟨rfl, fun i h => absurd h (by simp)⟩
  | c :: r, j => by
    unfold findN
    by_cases h : c.name = s
    · rw [if_pos h]
      exact .inr ⟨0, by simp, by simp, h, fun k hk => absurd hk (by omega)⟩
    · rw [if_neg h]
      rcases findN_spec s r (j + 1) with ⟨h1, h2⟩ | ⟨i, hi, h1, h2, h3⟩
      · refine .inl ⟨h1, fun i hi => ?_⟩
        cases i with
        | zero => exact h
        | succ i => exact h2 i (by simpa using hi)
      · refine .inr ⟨i + 1, by simpa using hi, by rw [h1]; omega, h2, fun k hk => ?_⟩
        cases k with
        | zero => exact h
        | succ k => exact h3 k (by omega)
theorem names_ne {xs : List Cls} (g : Good xs) {i k : Nat} (hik : i < k) (hk : k < xs.length) : (xs[i]'(by omega)).name ≠ xs[k].name := by
  have h := g.diff k hk
  rcases findN_spec xs[k].name (xs.take k) 0 with ⟨_, h2⟩ | ⟨j, hj, h1, _, _⟩
  · have := h2 i (by rw [List.length_take]; omega)
    rwa [List.getElem_take] at this
  · omega
theorem findN_here {xs : List Cls} (g : Good xs) {k : Nat} (hk : k < xs.length) : findN xs xs[k].name 0 = k := by
  rcases findN_spec xs[k].name xs 0 with ⟨_, h2⟩ | ⟨j, hj, h1, h2, h3⟩
  · exact absurd rfl (h2 k hk)
  · rcases Nat.lt_trichotomy j k with h | h | h
    · exact absurd h2 (names_ne g h hk)
    · omega
    · exact absurd rfl (h3 k h)
theorem findN_hit {xs : List Cls} {s : ByteArray} (h : 0 ≤ findN xs s 0) : ∃ i, ∃ hi : i < xs.length, findN xs s 0 = i ∧ xs[i].name = s := by
  rcases findN_spec s xs 0 with ⟨h1, _⟩ | ⟨j, hj, h1, h2, _⟩
  · omega
  · exact ⟨j, hj, by omega, h2⟩
end

section
def belowK (xs : List Cls) (a : Int) : Nat → List Int
  | 0 => []
  | k + 1 => belowK xs a k ++ (if isAL xs (k : Int) a then [(k : Int)] else [])
theorem belowK_len (xs : List Cls) (a : Int) : ∀ k, (belowK xs a k).length ≤ k
  | 0 => Nat.le_refl _
  | k + 1 => by
    have := belowK_len xs a k
    unfold belowK
    split <;> simp <;> omega
theorem belowK_ok (xs : List Cls) (a : Int) : ∀ k, k ≤ 8 → ∀ x ∈ belowK xs a k, Enc.ok x
  | 0, _, x, h => nomatch h
  | k + 1, hk, x, h => by
    unfold belowK at h
    rcases List.mem_append.1 h with h | h
    · exact belowK_ok xs a k (by omega) x h
    · split at h
      · simp at h; subst h; exact ⟨by omega, by omega⟩
      · cases h
def belowX (xs : List Cls) (a : Int) : List Int := cond (okTree xs && hasK xs a) (belowK xs a xs.length) []
theorem belowX_of {xs : List Cls} {a : Int} {b : Bool} (h : (okTree xs && hasK xs a) = b) : belowX xs a = cond b (belowK xs a xs.length) [] := by unfold belowX; rw [h]
theorem belowX_len (xs : List Cls) (a : Int) : (belowX xs a).length ≤ 1048576 := by
  cases h : okTree xs && hasK xs a
  · rw [belowX_of h]; simp
  · have hab : okTree xs = true ∧ hasK xs a = true := by simpa using h
    have g := good_of hab.1
    have := belowK_len xs a xs.length
    have := g.hi
    rw [belowX_of h]; show (belowK xs a xs.length).length ≤ _; omega

end

section
def firstIs (xs : List Cls) (b : Int) : List Int → Int
  | [] => -1
  | x :: r => if isAL xs b x then x else firstIs xs b r
def commonX (xs : List Cls) (a b : Int) : Int := cond (okTree xs && hasK xs a && hasK xs b) (firstIs xs b (aboveL xs a)) (-1)
theorem commonX_of {xs : List Cls} {a b : Int} {t : Bool} (h : (okTree xs && hasK xs a && hasK xs b) = t) : commonX xs a b = cond t (firstIs xs b (aboveL xs a)) (-1) := by unfold commonX; rw [h]
theorem firstIs_at {xs : List Cls} {L : List Int} {k : Nat} (h : k < L.length) (b : Int) : firstIs xs b (L.drop k) = if isAL xs b L[k] then L[k] else firstIs xs b (L.drop (k + 1)) := by
  rw [List.drop_eq_getElem_cons h]; rfl
/-- the root is above all, and all is the root -/
theorem root_mem {xs : List Cls} (g : Good xs) : ∀ (m : Nat) (i : Nat), i = m → i < xs.length → (0 : Int) ∈ aboveL xs (i : Int) := by
  intro m
  induction m using Nat.strongRecOn with
  | _ m ih =>
    intro i hm hi
    rw [aboveL_at g hi]
    by_cases h0 : i = 0
    · subst h0; exact List.mem_cons_self
    · have hp := g.par i hi (by omega)
      obtain ⟨p, hpe⟩ := Int.eq_ofNat_of_zero_le hp.1
      rw [hpe]
      exact List.mem_cons_of_mem _ (ih p (by omega) p rfl (by omega))
theorem hasI_mem {L : List Int} {x : Int} (h : x ∈ L) : hasI L x = true := by
  induction L with
  | nil => cases h
  | cons z r ih =>
    rcases List.mem_cons.1 h with rfl | h
    · simp [hasI]
    · simp [hasI, ih h]
theorem isA_root {xs : List Cls} (g : Good xs) {b : Int} (h0 : 0 ≤ b) (hb : b < xs.length) : isAL xs b 0 = true := by
  obtain ⟨i, rfl⟩ := Int.eq_ofNat_of_zero_le h0
  exact hasI_mem (root_mem g i i rfl (by omega))

end
end Go.Proofs.Ytkpnajffeclmdaa
