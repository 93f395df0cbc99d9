/- chainText and ChainText of the model -/
import Derived.Test.YtngepnecgoeicaaDoorTx2
import Derived.Test.YtngepnecgoeicaaDoorDo
namespace Go.Proofs.YtngepnecgoeicaaDoor
open Go.RowKit

def outT (xs : List Cls) (hs : List Flt) (L : List Int) : Nat → ByteArray
  | 0 => chT xs hs L
  | k + 1 => preT xs hs L k
theorem outT_len {xs : List Cls} {hs : List Flt} {L : List Int} (h : L ≠ []) : outT xs hs L L.length = ByteArray.empty := by
  cases L with
  | nil => exact absurd rfl h
  | cons a r => exact preT_last rfl
/-- a string and how long it may be, under a name of its own -/
def Txt (s : ByteArray) (T : ByteArray) : Prop := s = T ∧ s.size ≤ 4000

theorem drew_cell {w : World} {a : Addr} {v : Value} (h : w.cell? a = some v) : w.drew.cell? a = some v := h
set_option maxHeartbeats 4000000 in
set_option maxRecDepth 100000 in
theorem schainText_any (A H : Option Addr) (n cap m c : Nat) (xs : List Cls) (hs : List Flt) (f : Int) (w : World) (hR : Sl w A n cap xs) (hH : Sl w H m c hs) (hok : okHeap xs hs = true) (h0 : 0 ≤ f) (h1 : f < hs.length) :
    Calls Tryd.prog 49 #[.agg #[.slice A n cap], .agg #[.slice H m c], .int .i64 f] w fun e w' => e = .returned (.string (chT xs hs (chainN (shownAt hs) hs.length f))) ∧ Le w w' := by
  obtain rfl := hH.len
  have g := goodH_of hok
  have hsh := short_of hok
  have hfew := g.few
  have hb := shownAt_lt g.lnk
  have hch := chain_is hb h0 h1
  have hrng := hch.rngD h1 hb
  have hll := Chn.go_len2 hb h0 h1
  have hsz : ∀ k, (chT xs hs ((chainN (shownAt hs) hs.length f).drop k)).size ≤ 400 := by
    intro k
    have := chT_size hsh ((chainN (shownAt hs) hs.length f).drop k) (fun x hx => hrng x (List.mem_of_mem_drop hx))
    rw [List.length_drop] at this
    omega
  have hne := hch.ne
  have HS := Lib.hid hsz
  have HG := Lib.hid g
  have HRG := Lib.hid hrng
  have HCH := Lib.hid hch
  have HSH := Lib.hid hsh
  clear hsz g hrng hb hch hsh
  go_enter Tryd.func49, Tryd.ntmps49
  go_wp2_with fail
  obtain ⟨c0, z0, c1, z1, L0⟩ := box2 w (.slice A n cap) (.slice H hs.length c) 37 32
  generalize (w.alloc (.cells #[.slice A n cap] 37)).alloc (.cells #[.slice H hs.length c] 32) = W at *
  refine (sShown_any H hs.length c hs f W (hH.le L0) HG.out.lnk h0 h1 (by omega)).mono ?_
  rintro e w2 ⟨v, rfl, D, hle⟩
  replace c0 := (hle.cell z0).trans c0
  replace c1 := (hle.cell z1).trans c1
  replace z0 := Nat.lt_of_lt_of_le z0 hle.size
  replace z1 := Nat.lt_of_lt_of_le z1 hle.size
  replace L0 := L0.trans hle
  clear hle
  obtain ⟨A2, c2, rfl, SV, -⟩ := D.form (by decide)
  generalize hLe : chainN (shownAt hs) hs.length f = L at *
  have HLE := Lib.hid hLe
  have HN := Lib.hid hne
  have HD := Lib.hid SV
  have hwl : IntKind.i64.wrap ((L.length : Int) - 1) = (L.length : Int) - 1 := IntWalk.i64_in _ (by omega)
  clear D SV hne hLe
  go_wp2
  go_loopw [8, 9] (fun q v wr => ∃ (k : Nat) (o : ByteArray), q = .string o ∧ v = .int .i64 ((k : Int) - 1) ∧ k ≤ L.length ∧ Txt o (outT xs hs L k) ∧ Le w2 wr) (fun q v _ => (intOf v + 1).toNat)
  case atStart => exact ⟨L.length, _, rfl, rfl, Nat.le_refl _, ⟨(outT_len HN.out).symm, by decide⟩, Le.refl _⟩
  case round =>
    obtain ⟨k, o, rfl, rfl, hk, ⟨ho, hos⟩, hle⟩ := hrel
    have LW := L0
    replace c0 := (hle.cell z0).trans c0
    replace c1 := (hle.cell z1).trans c1
    replace z0 := Nat.lt_of_lt_of_le z0 hle.size
    replace z1 := Nat.lt_of_lt_of_le z1 hle.size
    replace L0 := L0.trans hle
    have HO := Lib.hid ho
    clear ho
    cases k with
    | zero =>
      have hw0 : ((0 : Nat) : Int) - 1 = -1 := rfl
      rw [hw0]
      go_wp2
      go_ret
      exact ⟨ret_str (HO.out.trans (by rw [HLE.out]; rfl)), L0⟩
    | succ k =>
      have hkl : k < L.length := by omega
      have hwk : ((k + 1 : Nat) : Int) - 1 = (k : Int) := by omega
      rw [hwk]
      obtain ⟨j, hj⟩ := Int.eq_ofNat_of_zero_le (HRG.out L[k] (List.getElem_mem _)).1
      have hjl : j < hs.length := by have := (HRG.out L[k] (List.getElem_mem _)).2; omega
      have S1 := hH.le L0
      have T1 := hR.le L0
      have SL := HD.out.le hle
      obtain ⟨b1, o1, hA2, hb1, q1, _, _⟩ := SL.int_at hkl
      rw [hj] at q1
      subst hA2
      obtain ⟨b, off, rfl, hb, k0, k1, k2, k3, k4, _⟩ := S1.flt_at hjl
      obtain ⟨a, ha⟩ := Int.eq_ofNat_of_zero_le (HG.out.cls j hjl).1
      obtain ⟨d, hd⟩ := Int.eq_ofNat_of_zero_le (HG.out.code j hjl).1
      have hal : a < xs.length := by have := (HG.out.cls j hjl).2; omega
      have hdl : d < 100 := by have := (HG.out.code j hjl).2; omega
      rw [ha] at k0
      rw [hd] at k1
      have hft : fT xs hs L[k] = ccT xs a d := by rw [hj]; unfold fT; rw [fltAt_at hjl, ha, hd]
      have HF := Lib.hid hft
      have hn6 : xs[a].name.size ≤ 6 := okName_size (HG.out.tree.name a hal)
      have hT9 : (ccT xs a d).size ≤ 9 := by rw [← hft]; exact HSH.out _ (HRG.out L[k] (List.getElem_mem _)).1 (HRG.out L[k] (List.getElem_mem _)).2
      have hkI : (0 : Int) ≤ (k : Int) ∧ (k : Int) < L.length := by omega
      have hjI : (0 : Int) ≤ (j : Int) ∧ (j : Int) < hs.length := by omega
      have HJ := Lib.hid hj
      have hcl : (0 : Int) ≤ (a : Int) := by omega
      clear hft ha hd hj
      go_wp2_with fail
      replace c1 := drew_cell c1
      replace q1 := drew_cell q1
      replace k0 := drew_cell k0
      replace k1 := drew_cell k1
      replace k2 := drew_cell k2
      replace k3 := drew_cell k3
      replace k4 := drew_cell k4
      have zz : w.heap.size + 1 < wr.drew.heap.size := z1
      have zb1 : b1 < wr.drew.heap.size := hb1
      have zb : b < wr.drew.heap.size := hb
      go_region_held3 (fun w' => w'.cell? ⟨w.heap.size + 1, 0, none⟩ = some (.slice (some ⟨b, off, none⟩) hs.length c) ∧ w'.cell? ⟨b1, o1 + k, none⟩ = some (.int .i64 j) ∧ w'.cell? ⟨b, off + j * 5, none⟩ = some (.int .i64 a) ∧ w'.cell? ⟨b, off + j * 5 + 1, none⟩ = some (.int .i64 d) ∧ w'.cell? ⟨b, off + j * 5 + 2, none⟩ = some (.int .i64 hs[j].cause) ∧ w'.cell? ⟨b, off + j * 5 + 3, none⟩ = some (.int .i64 hs[j].ctx) ∧ w'.cell? ⟨b, off + j * 5 + 4, none⟩ = some (.bool hs[j].hide))
        (first | exact ⟨c1, q1, k0, k1, k2, k3, k4⟩ | exact ⟨(World.cell?_alloc_past _ _ _ zz).trans c1, (World.cell?_alloc_past _ _ _ zb1).trans q1, (World.cell?_alloc_past _ _ _ zb).trans k0, (World.cell?_alloc_past _ _ _ zb).trans k1, (World.cell?_alloc_past _ _ _ zb).trans k2, (World.cell?_alloc_past _ _ _ zb).trans k3, (World.cell?_alloc_past _ _ _ zb).trans k4⟩)
        (fail)
      have LX := (Le.new wr (.cells #[.int .i64 (a : Int), .int .i64 (d : Int), .int .i64 hs[j].cause, .int .i64 hs[j].ctx, .bool hs[j].hide] 76)).drew
      have x0 : (wr.alloc (.cells #[.int .i64 (a : Int), .int .i64 (d : Int), .int .i64 hs[j].cause, .int .i64 hs[j].ctx, .bool hs[j].hide] 76)).drew.cell? ⟨wr.heap.size, 0, none⟩ = some (.int .i64 a) := by refine drew_cell ?_; rw [World.cell?_alloc_at _ _ _ _ rfl]; rfl
      have x1 : (wr.alloc (.cells #[.int .i64 (a : Int), .int .i64 (d : Int), .int .i64 hs[j].cause, .int .i64 hs[j].ctx, .bool hs[j].hide] 76)).drew.cell? ⟨wr.heap.size, 1, none⟩ = some (.int .i64 d) := by refine drew_cell ?_; rw [World.cell?_alloc_at _ _ _ _ rfl]; rfl
      have zx : wr.heap.size < (wr.alloc (.cells #[.int .i64 (a : Int), .int .i64 (d : Int), .int .i64 hs[j].cause, .int .i64 hs[j].ctx, .bool hs[j].hide] 76)).drew.heap.size := by show _ < (wr.alloc _).heap.size; simp
      rename_i hHH
      clear hHH
      replace c1 : wr.cell? ⟨w.heap.size + 1, 0, none⟩ = some (.slice (some ⟨b, off, none⟩) hs.length c) := c1
      clear k0 k1 k2 k3 k4 q1 zz zb1 zb
      replace c0 := (LX.cell z0).trans c0
      replace c1 := (LX.cell z1).trans c1
      replace z0 := Nat.lt_of_lt_of_le z0 LX.size
      replace z1 := Nat.lt_of_lt_of_le z1 LX.size
      replace L0 := L0.trans LX
      have T2 := T1.le LX
      have S2 := S1.le LX
      have hl2 := hle.trans LX
      have SL2 := SL.le LX
      have HC := sFaultText_any _ n cap xs a d _ T2 hal hdl hn6
      generalize (wr.alloc (.cells #[.int .i64 (a : Int), .int .i64 (d : Int), .int .i64 hs[j].cause, .int .i64 hs[j].ctx, .bool hs[j].hide] 76)).drew = X at *
      clear LX S1 T1 SL hle
      have hT : Hid (chT xs hs (L.drop k) = o ++ ccT xs a d) := by show _ = _; rw [chT_drop hkl, HO.out, HF.out]; rfl
      have hyz := HS.out k
      rw [hT.out] at hyz
      generalize ccT xs a d = T at *
      have hadd1 : ∀ w, (Op.stringOp .add o T).run Tryd.prog w = .ok (.string (o ++ T)) w := fun w => run_string_add w o T (by omega) (by omega)
      obtain ⟨y, hy⟩ : ∃ y, o ++ T = y := ⟨_, rfl⟩
      rw [hy] at hadd1 hyz
      have HY : Hid (chT xs hs (L.drop k) = y) := by show _ = _; rw [hT.out, hy]
      have hg1 : ∀ w, (Op.stringOp .add y ⟨#[32, 62, 32]⟩).run Tryd.prog w = .ok (.string (y ++ sepG)) w := fun w => run_string_add w y sepG (by omega) (by decide)
      have hg2 : ∀ w, (Op.stringOp .add y ⟨#[32, 126, 32]⟩).run Tryd.prog w = .ok (.string (y ++ sepT)) w := fun w => run_string_add w y sepT (by omega) (by decide)
      have hzg : (y ++ sepG).size ≤ 4000 := by rw [ByteArray.size_append]; have : sepG.size = 3 := rfl; omega
      have hzt : (y ++ sepT).size ≤ 4000 := by rw [ByteArray.size_append]; have : sepT.size = 3 := rfl; omega
      have HZG := Lib.hid hzg
      have HZT := Lib.hid hzt
      obtain ⟨yg, hyg⟩ : ∃ yg, y ++ sepG = yg := ⟨_, rfl⟩
      obtain ⟨yt, hyt⟩ : ∃ yt, y ++ sepT = yt := ⟨_, rfl⟩
      rw [hyg] at hg1 HZG
      rw [hyt] at hg2 HZT
      have HYG := Lib.hid hyg
      have HYT := Lib.hid hyt
      have HYZ := Lib.hid hyz
      have HCC := Lib.hid HC
      clear hT hy hyz hzg hzt hyg hyt hos hT9 HF HC
      go_wp2_with fail
      refine HCC.out.mono ?_
      rintro e X7 ⟨rfl, LX⟩
      clear x0 x1 HCC
      replace c0 := (LX.cell z0).trans c0
      replace c1 := (LX.cell z1).trans c1
      replace z0 := Nat.lt_of_lt_of_le z0 LX.size
      replace z1 := Nat.lt_of_lt_of_le z1 LX.size
      replace L0 := L0.trans LX
      replace S2 := S2.le LX
      replace SL2 := SL2.le LX
      replace hl2 := hl2.trans LX
      clear LX T2
      have hwk1 : IntKind.i64.wrap ((k : Int) - 1) = (k : Int) - 1 := IntWalk.i64_in _ (by omega)
      cases k with
      | zero =>
        have hz : ((0 : Nat) : Int) = 0 := rfl
        rw [hz] at hwk1 hkI hwk
        simp only [hz]
        go_wp2_with fail
        refine wp_region_ext (by kernel_rfl) (by kernel_rfl) ?_
        repeat (go_big_quiet_step (fail))
        refine wpQuiet_nil ?_
        intro _ hw'
        obtain ⟨g8, rfl⟩ := hw'
        replace hl2 := hl2.trans (Le.ext X7 g8)
        generalize X7.ext g8 = X8 at *
        go_wp2
        go_roundw
        case rel => exact ⟨0, y, rfl, rfl, by omega, ⟨HY.out.symm.trans rfl, by have := HYZ.out; omega⟩, hl2⟩
        case measure => simp [intOf]
      | succ k' =>
        have hkl' : k' < L.length := by omega
        obtain ⟨j2, hj2⟩ := Int.eq_ofNat_of_zero_le (HRG.out L[k'] (List.getElem_mem _)).1
        have hjl2 : j2 < hs.length := by have := (HRG.out L[k'] (List.getElem_mem _)).2; omega
        obtain ⟨b3, o3, hA3, hb3, q3, _, _⟩ := SL2.int_at hkl'
        injection hA3 with hA3; injection hA3 with hA3 hA4; subst hA3 hA4
        rw [hj2] at q3
        obtain ⟨b4, o4, hA3, hb4, _, _, p2, _, _, _⟩ := S2.flt_at hjl2
        injection hA3 with hA3; injection hA3 with hA3 hA4; subst hA3 hA4
        have hlk : lnkT hs L[k'] = cond (decide (0 ≤ hs[j2].cause)) sepG sepT := by unfold lnkT; rw [hj2, fltAt_at hjl2]
        have HLK := Lib.hid hlk
        have hjI2 : (0 : Int) ≤ (j2 : Int) ∧ (j2 : Int) < hs.length := by omega
        have hkI2 : (0 : Int) ≤ (k' : Int) ∧ (k' : Int) < L.length := by omega
        have hwk2 : ((k' + 1 : Nat) : Int) - 1 = (k' : Int) := by omega
        rw [hwk2] at hwk1
        have hKp : (0 : Int) < ((k' + 1 : Nat) : Int) := by omega
        have HK := Lib.hid hwk2
        generalize hK : ((k' + 1 : Nat) : Int) = K at *
        rw [← HK.out] at hwk1
        have hwk3 : IntKind.i64.wrap (K - 1) = (k' : Int) := by rw [hwk1, HK.out]
        have HKE := Lib.hid hK
        have E0 := cell_ext z1 c1
        have E1 := cell_ext hb3 q3
        have E2 := cell_ext hb4 p2
        clear hwk1 hwk2 hK hlk hj2 hwk
        cases hd : decide (0 ≤ hs[j2].cause)
        all_goals
          rw [hd] at HLK
          go_wp2_with fail
          refine wp_region_ext (by kernel_rfl) (by kernel_rfl) ?_
          repeat (go_big_quiet_step (fail))
          refine wpQuiet_nil ?_
          intro _ hw'
          obtain ⟨g8, rfl⟩ := hw'
          replace hl2 := hl2.trans (Le.ext X7 g8)
          clear E0 E1 E2
          generalize X7.ext g8 = X8 at *
          go_wp2
          go_roundw
          case measure => simp [intOf]; have := HK.out; have := HKE.out; omega
        case rel => exact ⟨k' + 1, yt, rfl, by congr 1; omega, by omega, ⟨by show _ = preT xs hs L k'; rw [preT_succ (by omega), HY.out, HLK.out]; exact HYT.out.symm, HZT.out⟩, hl2⟩
        case rel => exact ⟨k' + 1, yg, rfl, by congr 1; omega, by omega, ⟨by show _ = preT xs hs L k'; rw [preT_succ (by omega), HY.out, HLK.out]; exact HYG.out.symm, HZG.out⟩, hl2⟩

def ctX (xs : List Cls) (hs : List Flt) (f : Int) : ByteArray := cond (goodF xs hs f) (chT xs hs (chainN (shownAt hs) hs.length f)) ByteArray.empty
theorem ctX_of {xs : List Cls} {hs : List Flt} {f : Int} {t : Bool} (h : goodF xs hs f = t) : ctX xs hs f = cond t (chT xs hs (chainN (shownAt hs) hs.length f)) ByteArray.empty := by unfold ctX; rw [h]
theorem goodF_ok {xs : List Cls} {hs : List Flt} {f : Int} (h : goodF xs hs f = true) : okHeap xs hs = true := by
  unfold goodF at h; rw [Bool.and_eq_true] at h; exact h.1

set_option maxRecDepth 100000 in
theorem sChainText_any (A H : Option Addr) (n cap m c : Nat) (xs : List Cls) (hs : List Flt) (f : Int) (w : World) (hR : Sl w A n cap xs) (hH : Sl w H m c hs) (hm : m ≤ 1048576) :
    Calls Tryd.prog 28 #[.agg #[.slice A n cap], .agg #[.slice H m c], .int .i64 f] w fun e w' => e = .returned (.string (ctX xs hs f)) ∧ Le w w' := by
  go_enter Tryd.func28, Tryd.ntmps28
  go_wp2_with fail
  obtain ⟨c0, z0, c1, z1, L0⟩ := box2 w (.slice A n cap) (.slice H m c) 37 32
  have S0 := hH.le L0
  generalize (w.alloc (.cells #[.slice A n cap] 37)).alloc (.cells #[.slice H m c] 32) = W at *
  refine (goodFault_any A H n cap m c xs hs f W (hR.le L0) S0 (by omega)).mono ?_
  rintro e w1 ⟨rfl, hle⟩
  replace c0 := (hle.cell z0).trans c0
  replace c1 := (hle.cell z1).trans c1
  replace z0 := Nat.lt_of_lt_of_le z0 hle.size
  replace z1 := Nat.lt_of_lt_of_le z1 hle.size
  replace L0 := L0.trans hle
  replace S0 := S0.le hle
  clear hle
  cases ho : goodF xs hs f
  · have HX := Lib.hid (ctX_of ho)
    clear ho
    go_wp2
    go_ret
    exact ⟨ret_str HX.out.symm, L0⟩
  · have HX := Lib.hid (ctX_of ho)
    have hf := goodF_in ho
    have HC := Lib.hid (schainText_any A H n cap m c xs hs f w1 (hR.le L0) S0 (goodF_ok ho) hf.2.1 hf.2.2)
    clear ho hf
    go_wp2_with fail
    refine HC.out.mono ?_
    rintro e w2 ⟨rfl, hle⟩
    have LL := L0.trans hle
    clear HC
    go_wp2
    go_ret
    exact ⟨ret_str HX.out.symm, LL⟩
end Go.Proofs.YtngepnecgoeicaaDoor
