/- one text of RDsq, RsI, RsJ, RnL, TlInt, TlFault, TlRes, H, ElClass, ElLine -/
import Derived.Test.YtdbmolhdgmopoaaGreatRb9
import Derived.Test.YtdbmolhdgmopoaaGreatRb7
import Derived.Test.YtdbmolhdgmopoaaGreatRb8
import Derived.Test.YtdbmolhdgmopoaaGreatRb1
import Derived.Deep.RegionHeld3
import Derived.ProofKit
import Derived.OpenShut
import Derived.ShutString
import Derived.ChangeOld
import Derived.Deep.Slices
import Derived.Lib.SmallJoins
namespace Go.Proofs.YtdbmolhdgmopoaaGreat
open Go.RowKit
section
set_option maxHeartbeats 8000000 in
set_option maxRecDepth 100000 in
theorem sIsolated_any (H : Option Addr) (m c : Nat) (hs : List Flt) (f : Int) (w : World) (hH : Sl w H m c hs) (lk : Lnk hs) (h0 : 0 ≤ f) (h1 : f < hs.length) (hm : m ≤ 1048576) :
    Calls Tryz.prog 41 #[.agg #[.slice H m c], .int .i64 f] w fun e w' => ∃ v, e = .returned (.tuple #[.agg #[v], .int .i64 (idx (reachL hs f) f 0)]) ∧ Owd 103 w w' v (isoL hs (reachL hs f)) ∧ Le w w' := by
  obtain rfl := hH.len
  obtain ⟨i0, hi, hz0, hz1, hz2⟩ := info_parts infoCcFault
  obtain ⟨c0, z0, c1, z1, L0⟩ := box2 w (.slice H hs.length c) (.slice none 0 0) 31 31
  have f1 : ((w.alloc (.cells #[.slice H hs.length c] 31)).alloc (.cells #[.slice none 0 0] 31)).frozen? ⟨w.heap.size + 1, 0, none⟩ = false := World.frozen?_alloc_at _ _ _ _ (by simp)
  have hs0 : w.heap.size + 1 + 1 = ((w.alloc (.cells #[.slice H hs.length c] 31)).alloc (.cells #[.slice none 0 0] 31)).heap.size := by simp
  have HS0 := Lib.hid hs0; clear hs0
  have S0 := hH.le L0
  have HOKH := Lib.hid hH.ok
  have HUB : Hid (0 < hs.length → ∀ a, H = some a → a.block < w.heap.size + 1 + 1) := fun h a e => by have := hH.under h a e; omega
  have HRI := Lib.hid (fun x => rch0_iff lk h0 h1 x)
  have HRL := Lib.hid (fun x => reachL_mem lk h0 h1 x)
  have HFN := Lib.hid (rch0_fnd lk h1)
  have HLK := Lib.hid lk; clear lk
  have HRR : Hid (∀ x ∈ reachL hs f, 0 ≤ x ∧ x < hs.length) := fun x hx => by have := ascOf_mem.1 (show x ∈ ascOf (rch0 hs f) hs.length from hx); exact ⟨this.1, this.2.1⟩
  have hlr : (reachL hs f).length ≤ hs.length := ascOf_len (L := rch0 hs f) hs.length
  go_enter Tryz.func41, Tryz.ntmps41
  go_wp2_with fail
  generalize (w.alloc (.cells #[.slice H hs.length c] 31)).alloc (.cells #[.slice none 0 0] 31) = W at *
  refine (sReach_any H hs.length c hs HLK.out (by omega) (hs.length + 1) f [] (w.heap.size + 1 + 1) _ _ (S0.alloc _) h1 (Fnd.nil _) (by simp) (own_empty (by rw [HS0.out]; exact Nat.le_refl _) HS0.out) (by rw [HS0.out]; exact (Le.new W _).size) HUB.out).mono ?_
  rintro e w2 ⟨v, rfl, O, hg, -⟩
  have L1 : Le W w2 := (Le.new W _).grown hg (fun k hk => by injection hk with hk; rw [← HS0.out]; exact Nat.le_of_eq hk)
  have hl9 : (rch0 hs f).length ≤ hs.length := HFN.out.len
  have hok : ∀ x ∈ rch0 hs f, Enc.ok x := fun x hx => by have := HFN.out.rng x hx; exact ⟨by omega, by omega⟩
  have O' : w2.ownsRow (w.heap.size + 1 + 1) 3 1 v (rch0 hs f).length ((rch0 hs f).flatMap Enc.cells) := O
  obtain ⟨A2, q2, rfl⟩ := own_form O'
  have SV := Sl.of_own O' rfl (by decide) hok
  clear O O' hg hok
  go_wp2_with fail
  refine (sorted_any A2 _ q2 (rch0 hs f) _ SV (by omega)).mono ?_
  rintro e w3 ⟨v3, M, rfl, D, hle, ha, hmem, -⟩
  have hM : M = reachL hs f := reachL_eq HLK.out h0 h1 ha (fun x => (hmem x).trans (HRI.out x))
  subst hM
  clear ha hmem SV
  replace hle := L1.trans hle
  clear L1
  obtain ⟨AL, cL, rfl, SL, -⟩ := D.form (by decide)
  replace c0 := (hle.cell z0).trans c0
  replace c1 := (hle.cell z1).trans c1
  replace f1 := (hle.frozen z1).trans f1
  replace z0 := Nat.lt_of_lt_of_le z0 hle.size
  replace z1 := Nat.lt_of_lt_of_le z1 hle.size
  replace L0 := L0.trans hle
  replace S0 := S0.le hle
  have s3 := hle.size
  clear D hle
  have HC0 := Lib.hid c0; have HC1 := Lib.hid c1; have HF1 := Lib.hid f1; have HL0 := Lib.hid L0; have HS := Lib.hid S0; have HSL := Lib.hid SL
  have y0 := z0; have y1 := z1
  have HISO : Hid (∀ x : Int, Enc.ok (isoF hs (reachL hs f) x)) := fun x => isoF_ok HOKH.out (by omega) x
  clear HRI HRL HFN HUB HLK
  go_wp2
  generalize hLL : reachL hs f = L at *
  have HLL := Lib.hid hLL; clear hLL
  clear c0 c1 f1 z0 z1 L0 S0 SL
  go_loopw [8, 9] (fun q _ wr => ∃ (k : Nat) (A' : Option Addr) (c' : Nat), k ≤ L.length ∧ q = .int .i64 k ∧ Le w3 wr ∧ w3.heap.size + 1 < wr.heap.size ∧ wr.cell? ⟨w3.heap.size + 1, 0, none⟩ = some (.slice A' k c') ∧ wr.frozen? ⟨w3.heap.size + 1, 0, none⟩ = false ∧
    wr.ownsRow w3.heap.size 103 5 (.slice A' k c') k (((L.take k).map (isoF hs L)).flatMap Enc.cells) ∧ (Value.slice A' k c').ownBlock ≠ some (w3.heap.size + 1)) (fun q _ _ => L.length - (intOf q).toNat)
  case atStart => exact ⟨0, some ⟨w3.heap.size, 0, none⟩, 0, Nat.zero_le _, rfl, (Le.new w3 _).alloc _, by simp, by rw [World.cell?_alloc_at _ _ _ _ (by simp)]; rfl, World.frozen?_alloc_at _ _ _ _ (by simp), (own_empty (Nat.le_refl _) rfl).alloc _, fun e => by injection e with e; have e2 : w3.heap.size = w3.heap.size + 1 := e; omega⟩
  case round =>
    obtain ⟨k, A', c', hk, rfl, hle, zB, cB, fB, O, hne⟩ := hrel
    have c0 := (hle.cell y0).trans HC0.out
    have c1 := (hle.cell y1).trans HC1.out
    have f1 := (hle.frozen y1).trans HF1.out
    have z0 := Nat.lt_of_lt_of_le y0 hle.size
    have z1 := Nat.lt_of_lt_of_le y1 hle.size
    have L0 := HL0.out.trans hle
    have S0 := HS.out.le hle
    have SL := HSL.out.le hle
    have hltO := O.lt
    have HLTO := Lib.hid hltO; clear hltO
    have HNE := Lib.hid hne; clear hne
    by_cases hlt : k < L.length
    · have hr := HRR.out _ (List.getElem_mem hlt)
      have HT := Lib.hid (isoL_take (hs := hs) hlt)
      have HOK := Lib.hid (HISO.out L[k])
      obtain ⟨i, hi2⟩ := Int.eq_ofNat_of_zero_le hr.1
      rw [hi2] at hr HT HOK
      obtain ⟨b, off, rfl, hb, hx, _, _⟩ := SL.int_at hlt
      rw [hi2] at hx
      have hil : i < hs.length := by omega
      have hi3 : (i : Int) < (hs.length : Int) := by omega
      have hk3 : (k : Int) < (L.length : Int) := by omega
      obtain ⟨b2, off2, rfl, hb2, q0, q1, q2, q3, q4, -⟩ := S0.flt_at hil
      have hsh := isoF_at (L := L) hil
      have HSH := Lib.hid hsh
      clear hsh hi2
      generalize hs[i] = x at *
      generalize x.cls = xc at *
      generalize x.code = xd at *
      generalize x.cause = xa at *
      generalize x.ctx = xb at *
      generalize x.hide = xh at *
      have HA : Hid (∀ w, Sl w (some ⟨b, off, none⟩) L.length cL L → Calls Tryz.prog 69 #[.slice (some ⟨b, off, none⟩) L.length cL, .int .i64 xa] w fun e w' => e = .returned (.int .i64 (idx L xa 0)) ∧ w = w') := fun w h => sIndexOf_any _ _ _ L xa w h (by omega)
      have HB : Hid (∀ w, Sl w (some ⟨b, off, none⟩) L.length cL L → Calls Tryz.prog 69 #[.slice (some ⟨b, off, none⟩) L.length cL, .int .i64 xb] w fun e w' => e = .returned (.int .i64 (idx L xb 0)) ∧ w = w') := fun w h => sIndexOf_any _ _ _ L xb w h (by omega)
      generalize idx L xa 0 = ya at *
      generalize idx L xb 0 = yb at *
      replace c0 := (show wr.drew.cell? _ = _ from c0)
      replace hx := (show wr.drew.cell? _ = _ from hx)
      replace q0 := (show wr.drew.cell? _ = _ from q0)
      replace q1 := (show wr.drew.cell? _ = _ from q1)
      replace q2 := (show wr.drew.cell? _ = _ from q2)
      replace q3 := (show wr.drew.cell? _ = _ from q3)
      replace q4 := (show wr.drew.cell? _ = _ from q4)
      have zD : w.heap.size < wr.drew.heap.size := z0
      have zD1 : b < wr.drew.heap.size := hb
      have zD2 : b2 < wr.drew.heap.size := hb2
      have HKZ : Hid ((wr.drew.alloc (.cells #[.int .i64 0, .int .i64 0, .int .i64 0, .int .i64 0, .bool false] 103)).cell? ⟨w.heap.size, 0, none⟩ = some (.slice (some ⟨b2, off2, none⟩) hs.length c) ∧ (wr.drew.alloc (.cells #[.int .i64 0, .int .i64 0, .int .i64 0, .int .i64 0, .bool false] 103)).cell? ⟨b, off + k, none⟩ = some (.int .i64 i) ∧ (wr.drew.alloc (.cells #[.int .i64 0, .int .i64 0, .int .i64 0, .int .i64 0, .bool false] 103)).cell? ⟨b2, off2 + i * 5, none⟩ = some (.int .i64 xc) ∧ (wr.drew.alloc (.cells #[.int .i64 0, .int .i64 0, .int .i64 0, .int .i64 0, .bool false] 103)).cell? ⟨b2, off2 + i * 5 + 1, none⟩ = some (.int .i64 xd) ∧ (wr.drew.alloc (.cells #[.int .i64 0, .int .i64 0, .int .i64 0, .int .i64 0, .bool false] 103)).cell? ⟨b2, off2 + i * 5 + 2, none⟩ = some (.int .i64 xa) ∧ (wr.drew.alloc (.cells #[.int .i64 0, .int .i64 0, .int .i64 0, .int .i64 0, .bool false] 103)).cell? ⟨b2, off2 + i * 5 + 3, none⟩ = some (.int .i64 xb) ∧ (wr.drew.alloc (.cells #[.int .i64 0, .int .i64 0, .int .i64 0, .int .i64 0, .bool false] 103)).cell? ⟨b2, off2 + i * 5 + 4, none⟩ = some (.bool xh)) := ⟨((Le.new _ _).cell zD).trans c0, ((Le.new _ _).cell zD1).trans hx, ((Le.new _ _).cell zD2).trans q0, ((Le.new _ _).cell zD2).trans q1, ((Le.new _ _).cell zD2).trans q2, ((Le.new _ _).cell zD2).trans q3, ((Le.new _ _).cell zD2).trans q4⟩
      have HKC : Hid ((wr.drew.alloc (.cells #[.int .i64 xc, .int .i64 xd, .int .i64 xa, .int .i64 xb, .bool xh] 103)).cell? ⟨w.heap.size, 0, none⟩ = some (.slice (some ⟨b2, off2, none⟩) hs.length c) ∧ (wr.drew.alloc (.cells #[.int .i64 xc, .int .i64 xd, .int .i64 xa, .int .i64 xb, .bool xh] 103)).cell? ⟨b, off + k, none⟩ = some (.int .i64 i) ∧ (wr.drew.alloc (.cells #[.int .i64 xc, .int .i64 xd, .int .i64 xa, .int .i64 xb, .bool xh] 103)).cell? ⟨b2, off2 + i * 5, none⟩ = some (.int .i64 xc) ∧ (wr.drew.alloc (.cells #[.int .i64 xc, .int .i64 xd, .int .i64 xa, .int .i64 xb, .bool xh] 103)).cell? ⟨b2, off2 + i * 5 + 1, none⟩ = some (.int .i64 xd) ∧ (wr.drew.alloc (.cells #[.int .i64 xc, .int .i64 xd, .int .i64 xa, .int .i64 xb, .bool xh] 103)).cell? ⟨b2, off2 + i * 5 + 2, none⟩ = some (.int .i64 xa) ∧ (wr.drew.alloc (.cells #[.int .i64 xc, .int .i64 xd, .int .i64 xa, .int .i64 xb, .bool xh] 103)).cell? ⟨b2, off2 + i * 5 + 3, none⟩ = some (.int .i64 xb) ∧ (wr.drew.alloc (.cells #[.int .i64 xc, .int .i64 xd, .int .i64 xa, .int .i64 xb, .bool xh] 103)).cell? ⟨b2, off2 + i * 5 + 4, none⟩ = some (.bool xh)) := ⟨((Le.new _ _).cell zD).trans c0, ((Le.new _ _).cell zD1).trans hx, ((Le.new _ _).cell zD2).trans q0, ((Le.new _ _).cell zD2).trans q1, ((Le.new _ _).cell zD2).trans q2, ((Le.new _ _).cell zD2).trans q3, ((Le.new _ _).cell zD2).trans q4⟩
      go_wp2_with fail
      go_region_held3 (fun w' => w'.cell? ⟨w.heap.size, 0, none⟩ = some (.slice (some ⟨b2, off2, none⟩) hs.length c) ∧ w'.cell? ⟨b, off + k, none⟩ = some (.int .i64 i) ∧ w'.cell? ⟨b2, off2 + i * 5, none⟩ = some (.int .i64 xc) ∧ w'.cell? ⟨b2, off2 + i * 5 + 1, none⟩ = some (.int .i64 xd) ∧ w'.cell? ⟨b2, off2 + i * 5 + 2, none⟩ = some (.int .i64 xa) ∧ w'.cell? ⟨b2, off2 + i * 5 + 3, none⟩ = some (.int .i64 xb) ∧ w'.cell? ⟨b2, off2 + i * 5 + 4, none⟩ = some (.bool xh))
        (first | exact ⟨c0, hx, q0, q1, q2, q3, q4⟩ | exact HKZ.out | exact HKC.out) (fail)
      go_wp2_with fail
      refine (HA.out _ ((SL.alloc (.cells #[.int .i64 xc, .int .i64 xd, .int .i64 xa, .int .i64 xb, .bool xh] 103)).le (Le.refl _).drew)).mono ?_
      rintro e wq ⟨rfl, rfl⟩
      go_wp2_with fail
      refine (HB.out _ ((SL.alloc (.cells #[.int .i64 xc, .int .i64 xd, .int .i64 ya, .int .i64 xb, .bool xh] 103)).le (Le.refl _).drew)).mono ?_
      rintro e wq ⟨rfl, rfl⟩
      have LX : Le wr (((wr.alloc (.cells #[.int .i64 xc, .int .i64 xd, .int .i64 ya, .int .i64 yb, .bool xh] 103)).alloc (.cells #[.int .i64 xc, .int .i64 xd, .int .i64 ya, .int .i64 yb, .bool xh] 103)).drew) := ((Le.new wr (.cells #[.int .i64 xc, .int .i64 xd, .int .i64 ya, .int .i64 yb, .bool xh] 103)).alloc (.cells #[.int .i64 xc, .int .i64 xd, .int .i64 ya, .int .i64 yb, .bool xh] 103)).drew
      have cBX := (LX.cell zB).trans cB
      have fBX := (LX.frozen zB).trans fB
      have sX := LX.size
      have hX1 : (wr.alloc (.cells #[.int .i64 xc, .int .i64 xd, .int .i64 ya, .int .i64 yb, .bool xh] 103)).heap.size = wr.heap.size + 1 := by simp
      have hX2 : (((wr.alloc (.cells #[.int .i64 xc, .int .i64 xd, .int .i64 ya, .int .i64 yb, .bool xh] 103)).alloc (.cells #[.int .i64 xc, .int .i64 xd, .int .i64 ya, .int .i64 yb, .bool xh] 103)).drew).heap.size = wr.heap.size + 1 + 1 := by show ((wr.alloc _).alloc _).heap.size = _; simp
      rw [HSH.out] at HOK
      have SX := sl_one (w := wr.alloc (.cells #[.int .i64 xc, .int .i64 xd, .int .i64 ya, .int .i64 yb, .bool xh] 103)) (cs := #[.int .i64 xc, .int .i64 xd, .int .i64 ya, .int .i64 yb, .bool xh]) (T := 103) (⟨xc, xd, ya, yb, xh⟩ : Flt) rfl HOK.out (b := wr.heap.size + 1) hX1.symm
      have SX2 : Sl (((wr.alloc (.cells #[.int .i64 xc, .int .i64 xd, .int .i64 ya, .int .i64 yb, .bool xh] 103)).alloc (.cells #[.int .i64 xc, .int .i64 xd, .int .i64 ya, .int .i64 yb, .bool xh] 103)).drew) (some ⟨wr.heap.size + 1, 0, none⟩) 1 1 [(⟨xc, xd, ya, yb, xh⟩ : Flt)] := SX.le (Le.refl _).drew
      have OX : (((wr.alloc (.cells #[.int .i64 xc, .int .i64 xd, .int .i64 ya, .int .i64 yb, .bool xh] 103)).alloc (.cells #[.int .i64 xc, .int .i64 xd, .int .i64 ya, .int .i64 yb, .bool xh] 103)).drew).ownsRow w3.heap.size 103 5 (.slice A' k c') k (((L.take k).map (isoF hs L)).flatMap Enc.cells) := ((O.alloc (.cells #[.int .i64 xc, .int .i64 xd, .int .i64 ya, .int .i64 yb, .bool xh] 103)).alloc (.cells #[.int .i64 xc, .int .i64 xd, .int .i64 ya, .int .i64 yb, .bool xh] 103)).drew
      have HX2 := Lib.hid hX2
      have m1 : k + 1 ≤ maxLen := by unfold maxLen; omega
      have m2 : (k + 1) * 40 ≤ 140737488355328 := by omega
      have m3 : w3.heap.size ≤ (((wr.alloc (.cells #[.int .i64 xc, .int .i64 xd, .int .i64 ya, .int .i64 yb, .bool xh] 103)).alloc (.cells #[.int .i64 xc, .int .i64 xd, .int .i64 ya, .int .i64 yb, .bool xh] 103)).drew).heap.size := Nat.le_trans hle.size sX
      clear hX1 hX2 SX
      go_wp2_with (at_builtin; refine wpList_append_sl rfl _ _ 29 rfl (w3.heap.size) 103 i0 _ 40 Tryz.underlying29 hi hz0 hz1 hz2 rfl (.slice A' k c') k ((L.take k).map (isoF hs L)) rfl OX (some ⟨wr.heap.size + 1, 0, none⟩) 1 1 [(⟨xc, xd, ya, yb, xh⟩ : Flt)] rfl SX2 m1 m2 m3 ?_; intro v1 w1 O1 hg1 hat; have cB1 := hg1.cell (a := ⟨w3.heap.size + 1, 0, none⟩) cBX (fun e => HNE.out e.symm); have fB1 := (World.frozen?_of_block (a := ⟨w3.heap.size + 1, 0, none⟩) (hg1.block (w3.heap.size + 1) (Nat.lt_of_lt_of_le zB sX) (fun e => HNE.out e.symm))).trans fBX; obtain ⟨A2, q2, rfl⟩ := own_form O1)
      have hne2 : (Value.slice A2 (k + 1) q2).ownBlock ≠ some (w3.heap.size + 1) := by
        rcases hat with h | h
        · rw [h]; exact HNE.out
        · rw [h, HX2.out]; intro e; injection e with e; omega
      have L1 := (hle.trans LX).grown hg1 (fun k hk => (HLTO.out k hk).1)
      have s1 := hg1.size
      rw [show (L.take k).map (isoF hs L) ++ [(⟨xc, xd, ya, yb, xh⟩ : Flt)] = (L.take (k + 1)).map (isoF hs L) from by rw [← HT.out, HSH.out]] at O1
      have O2 := O1.kept (grown_set w1 (w3.heap.size + 1) 0 (.slice A2 (k + 1) q2)) (.inr hne2)
      go_roundw
      case rel => exact ⟨k + 1, A2, q2, by omega, by go_num, L1.setCell (by omega) _, by simpa [World.setCell] using Nat.lt_of_lt_of_le (Nat.lt_of_lt_of_le zB sX) s1, cell_set_same cB1, by simpa using fB1, O2, hne2⟩
      case measure => simp [intOf]; omega
    · have hkk : k = L.length := by omega
      subst hkk
      have hT : (L.take L.length).map (isoF hs L) = isoL hs L := by rw [List.take_length]; rfl
      rw [hT] at O
      have hII : isoL hs L = L.map (isoF hs L) := rfl
      have hokL : ∀ x ∈ isoL hs L, Enc.ok x := fun x hx => by obtain ⟨y, _, rfl⟩ := List.mem_map.1 hx; exact HISO.out y
      have hlI : (isoL hs L).length = L.length := by rw [hII, List.length_map]
      have HE := Lib.hid (res_end (r := w.heap.size + 1) L0.drew (by omega) y1 (show wr.drew.ownsRow w3.heap.size 103 (Enc.size Flt) (.slice A' L.length c') (isoL hs L).length ((isoL hs L).flatMap Enc.cells) from by rw [hlI]; exact O.drew) hokL)
      have SD := SL.le (Le.refl wr).drew
      have HC : Hid (∀ w, Sl w AL L.length cL L → Calls Tryz.prog 69 #[.slice AL L.length cL, .int .i64 f] w fun e w' => e = .returned (.int .i64 (idx L f 0)) ∧ w = w') := fun w h => sIndexOf_any _ _ _ L f w h (by omega)
      have c1w := c1
      have cB2 : ∀ u, (wr.setCell ⟨w.heap.size + 1, 0, none⟩ u).cell? ⟨w3.heap.size + 1, 0, none⟩ = some (.slice A' L.length c') := fun u => (cell_set_other (.inl (by omega))).trans cB
      have HCB2 := Lib.hid cB2; clear cB2
      have hend : ∀ u, (wr.setCell ⟨w.heap.size + 1, 0, none⟩ u).cell? ⟨w.heap.size + 1, 0, none⟩ = some u := fun u => cell_set_same c1w
      replace cB := (show wr.drew.cell? _ = _ from cB)
      replace c1 := (show wr.drew.cell? _ = _ from c1)
      replace f1 := (show wr.drew.frozen? _ = _ from f1)
      clear hT hII hokL hlI O
      generalize hyf : idx L f 0 = yf at *
      have HYF := Lib.hid hyf; clear hyf
      go_wp2_with fail
      go_region_held3 (fun w' => w'.cell? ⟨w3.heap.size + 1, 0, none⟩ = some (.slice A' L.length c'))
        (first | exact cB | exact HCB2.out _)
        (first
        | (go_at_call 69; refine (HC.out _ SD).mono ?_; rintro e wq ⟨rfl, rfl⟩))
      go_wp2
      exact bodyPost_ret (v := .tuple #[.agg #[.slice A' L.length c'], .int .i64 yf]) (by simp [results, Tryz.results41, go_sem, hend]) rfl ⟨_, by rw [HLL.out, HYF.out], by rw [HLL.out]; exact (HE.out (.slice A' L.length c')).1, (HE.out (.slice A' L.length c')).2⟩
end

section
/-- the box of a result that a call keeps -/
structure Rx (W : World) (R g : Nat) (lv hv a b c d : Value) : Prop where
  z : g < W.heap.size
  ne : g ≠ R
  l : lv.ownBlock ≠ some g
  h : hv.ownBlock ≠ some g
  c0 : W.cell? ⟨g, 0, none⟩ = some a
  c1 : W.cell? ⟨g, 1, none⟩ = some b
  c2 : W.cell? ⟨g, 2, none⟩ = some c
  c3 : W.cell? ⟨g, 3, none⟩ = some d
  f : ∀ k, W.frozen? ⟨g, k, none⟩ = false
section
variable {w w' W W' : World} {R g m c n cap : Nat} {B A : Option Addr} {xs : List Cls} {p : List Lin} {lv hv lv' hv' a b e d : Value} {lg : List Int} {hs : List Flt}
theorem Rx.kp (h : Rx W R g lv hv a b e d) (k : Kp R lv hv lv' hv' W W') : Rx W' R g lv' hv' a b e d :=
  ⟨Nat.lt_of_lt_of_le h.z k.size, h.ne, k.ownL h.z h.l, k.ownH h.z h.h, k.cell h.z h.ne h.l h.h h.c0, k.cell h.z h.ne h.l h.h h.c1, k.cell h.z h.ne h.l h.h h.c2, k.cell h.z h.ne h.l h.h h.c3, fun j => k.frozen h.z h.ne h.l h.h (h.f j)⟩
theorem Rx.le (h : Rx W R g lv hv a b e d) (L : Le W W') : Rx W' R g lv hv a b e d := h.kp (Kp.of_le R lv hv L)
theorem Rx.new (RN : Rn W R B m c xs A n cap p lv hv lg hs) (a b e d : Value) (T : TypeId) : Rx (W.alloc (.cells #[a, b, e, d] T)) R W.heap.size lv hv a b e d := by
  have z := RN.z
  obtain ⟨z0, z1, z2, z3⟩ := cells4 (hpn (w := W) (o := .cells #[a, b, e, d] T) rfl)
  exact ⟨by simp, by omega, fun e => by have := (RN.O.lt _ e).2; omega, fun e => by have := (RN.H.lt _ e).2; omega, z0, z1, z2, z3, fun k => World.frozen?_alloc_at _ _ _ _ rfl⟩
theorem Kp.le_newS (hl : Le w W) (h : Kp R lv hv lv' hv' W w') (hR : w.heap.size ≤ R) (h1 : ∀ k, lv.ownBlock = some k → w.heap.size ≤ k) (h2 : ∀ k, hv.ownBlock = some k → w.heap.size ≤ k) : Le w w' :=
  ⟨h.os.trans hl.os, h.tape.trans hl.tape, h.output.trans hl.output, Nat.le_trans hl.size h.size, fun b hb => (h.blk b (Nat.lt_of_lt_of_le hb hl.size) (by omega) (fun e => by have := h1 b e; omega) (fun e => by have := h2 b e; omega)).trans (hl.block b hb)⟩
end
set_option maxHeartbeats 8000000 in
set_option maxRecDepth 100000 in
theorem run_any (B A : Option Addr) (m c n cap : Nat) (xs : List Cls) (p : List Lin) (g : GoodP xs p) (hS : Sm (runI xs p).2) (hnb : (runI xs p).1 ≠ .brk ∧ (runI xs p).1 ≠ .cnt) (w : World) (hT : Sl w B m c xs) (hR : Sl w A n cap p) :
    Calls Tryz.prog 25 #[.agg #[.slice B m c], .slice A n cap] w (ResOut w (runI xs p).2.1 (resH (runI xs p).2.2 (runI xs p).1) (resE (runI xs p).1) (resV (runI xs p).2.2 (runI xs p).1)) := by
  obtain rfl := hR.len
  have hp := g.len
  have HBT : Hid (0 < m → ∀ a, B = some a → a.block < w.heap.size) := fun hn a e => by obtain ⟨b, off, e2, hb, _⟩ := hT.at_ hn; rw [e2] at e; injection e with e; rw [← e]; exact hb
  have HBA : Hid (0 < p.length → ∀ a, A = some a → a.block < w.heap.size) := fun hn a e => by obtain ⟨b, off, e2, hb, _⟩ := hR.at_ hn; rw [e2] at e; injection e with e; rw [← e]; exact hb
  have L1 := Le.new w (.cells #[.slice B m c] 37)
  have R1 := hpn (w := w.alloc (.cells #[.slice B m c] 37)) (o := .cells #[.slice none 0 0, .int .i64 0, .int .i64 0, .slice none 0 0] 33) (b := w.heap.size + 1) (by simp)
  have L2 := Le.new (w.alloc (.cells #[.slice B m c] 37)) (.cells #[.slice none 0 0, .int .i64 0, .int .i64 0, .slice none 0 0] 33)
  have hz2 : ((w.alloc (.cells #[.slice B m c] 37)).alloc (.cells #[.slice none 0 0, .int .i64 0, .int .i64 0, .slice none 0 0] 33)).heap.size = w.heap.size + 1 + 1 := by simp
  have LL := L1.trans L2
  clear L1 L2
  generalize hW2 : (w.alloc (.cells #[.slice B m c] 37)).alloc (.cells #[.slice none 0 0, .int .i64 0, .int .i64 0, .slice none 0 0] 33) = W2 at *
  have L3 := Le.new W2 (.cells #[] 3)
  have E3 := own_empty (w := W2) (base := w.heap.size + 1 + 1) (g := w.heap.size + 1 + 1) (size := 1) (e := 3) (by omega) hz2.symm
  have hz3 : (W2.alloc (.cells #[] 3)).heap.size = w.heap.size + 1 + 1 + 1 := by simp [hz2]
  generalize hW3 : W2.alloc (.cells #[] 3) = W3 at *
  have L4 := Le.new W3 (.cells #[.slice B m c, .slice A p.length cap, .slice (some ⟨w.heap.size + 1 + 1, 0, none⟩) 0 0, .slice none 0 0] 75)
  have R4 := hpn (w := W3) (o := .cells #[.slice B m c, .slice A p.length cap, .slice (some ⟨w.heap.size + 1 + 1, 0, none⟩) 0 0, .slice none 0 0] 75) (b := w.heap.size + 1 + 1 + 1) hz3.symm
  have hz4 : (W3.alloc (.cells #[.slice B m c, .slice A p.length cap, .slice (some ⟨w.heap.size + 1 + 1, 0, none⟩) 0 0, .slice none 0 0] 75)).heap.size = w.heap.size + 1 + 1 + 1 + 1 := by simp [hz3]
  have LW := (LL.trans L3).trans L4
  obtain ⟨u0, u1, u2, u3⟩ := cells4 R4
  have RN : Rn (W3.alloc (.cells #[.slice B m c, .slice A p.length cap, .slice (some ⟨w.heap.size + 1 + 1, 0, none⟩) 0 0, .slice none 0 0] 75)) (w.heap.size + 1 + 1 + 1) B m c xs A p.length cap p (.slice (some ⟨w.heap.size + 1 + 1, 0, none⟩) 0 0) (.slice none 0 0) [] [] :=
    ⟨by omega, u0, u1, u2, u3, frz_row R4, frz_row R4, hT.le LW, hR.le LW, fun hn a e => by have := HBT.out hn a e; omega, fun hn a e => by have := HBA.out hn a e; omega, own_mono (own_le E3 L4) (by omega), World.ownsRow_nil _ _ _ _, (fun k e e2 => by cases e2), (fun _ h => nomatch h), (fun _ h => nomatch h), (fun e => by have e2 : w.heap.size + 1 + 1 = w.heap.size + 1 + 1 + 1 := (by injection e); omega), (fun e => by cases e)⟩
  obtain ⟨r0, r1, r2, r3⟩ := cells4 (((L3.trans L4).block (w.heap.size + 1) (by omega)).trans R1)
  have RX : Rx (W3.alloc (.cells #[.slice B m c, .slice A p.length cap, .slice (some ⟨w.heap.size + 1 + 1, 0, none⟩) 0 0, .slice none 0 0] 75)) (w.heap.size + 1 + 1 + 1) (w.heap.size + 1) (.slice (some ⟨w.heap.size + 1 + 1, 0, none⟩) 0 0) (.slice none 0 0) (.slice none 0 0) (.int .i64 0) (.int .i64 0) (.slice none 0 0) :=
    ⟨by omega, by omega, (fun e => by have e2 : w.heap.size + 1 + 1 = w.heap.size + 1 := (by injection e); omega), (fun e => by cases e), r0, r1, r2, r3, fun k => frz_row (((L3.trans L4).block (w.heap.size + 1) (by omega)).trans R1)⟩
  have gd0 : Gd xs ([] : List Flt) := fun k h => absurd h (Nat.not_lt_zero _)
  have hd0 : Hd (-1) (([], []) : Rst) := ⟨by omega, by show (-1 : Int) < ((0 : Nat) : Int); omega⟩
  have F : Fw xs ([], []) (runI xs p) := Fw.goB (xs := xs) (p := p) (ln := lnN xs p 6 (-1)) (a := 0) (b := p.length) (h := -1) (OK := fun _ => True) (fun _ _ _ _ _ => trivial) (fun i s _ hib _ g1 hh1 => lfw_all g 6 i (-1) s hib g1 hh1) 25 0 ([], []) (Nat.le_refl _) (fun _ => trivial) gd0 hd0
  have hrg : runI xs p = gB (lnN xs p 6 (-1)) p p.length 0 ([], []) := gB_of 0 ([], []) 25 (by omega)
  have HA := runBlock_any (w.heap.size + 1 + 1 + 1) m c p.length cap B A xs p g 6 (sln_all (w.heap.size + 1 + 1 + 1) m c p.length cap B A xs p g 6) 0 p.length 0 (Blk.all g) (Nat.zero_le _) (by omega) (-1) ([], []) gd0 hd0 (by rw [← hrg]; exact hS) _ _ _ RN
  rw [← hrg] at HA
  have hf := F.rai
  have gd := F.gd
  clear F hrg R4 R1 u0 u1 u2 u3 r0 r1 r2 r3 E3 L3 L4 LL gd0 hd0 hT hR
  have HX : Hid (∀ r, runI xs p = r → (runI xs p).2.1 = r.2.1 ∧ resH (runI xs p).2.2 (runI xs p).1 = resH r.2.2 r.1 ∧ resE (runI xs p).1 = resE r.1 ∧ resV (runI xs p).2.2 (runI xs p).1 = resV r.2.2 r.1) := fun r e => by rw [e]; exact ⟨rfl, rfl, rfl, rfl⟩
  obtain ⟨r, hr⟩ : ∃ r, runI xs p = r := ⟨_, rfl⟩
  have HR := Lib.hid (HX.out r hr)
  rw [hr] at HA hf gd hS hnb ⊢
  clear HX hr
  rcases r with ⟨l, s⟩
  clear HR
  unfold ResOut
  subst hW3
  subst hW2
  go_enter Tryz.func25, Tryz.ntmps25
  go_wp2_with fail
  generalize (((w.alloc (.cells #[.slice B m c] 37)).alloc (.cells #[.slice none 0 0, .int .i64 0, .int .i64 0, .slice none 0 0] 33)).alloc (.cells #[] 3)).alloc (.cells #[.slice B m c, .slice A p.length cap, .slice (some ⟨w.heap.size + 1 + 1, 0, none⟩) 0 0, .slice none 0 0] 75) = W at *
  refine (show Calls _ _ _ _ _ from HA).mono ?_
  rintro e w5 ⟨rfl, lv, hv, RN5, KP5⟩
  simp only at RN5 KP5
  have L5 := Kp.le_newS LW KP5 (by omega) (fun k e => by have e2 : w.heap.size + 1 + 1 = k := (by injection e); omega) (fun k e => by cases e)
  replace RX := RX.kp KP5
  have LE := Le.new w5 (.cells #[.int .i64 (edK l), .int .i64 (edW l)] 77)
  have BE := (Bx.new RN5 (.int .i64 (edK l)) (.int .i64 (edW l)) 77).le (Le.refl _).drew
  replace RX := RX.le LE.drew
  replace RN := RN5.le LE.drew
  have L6 := L5.trans LE.drew
  clear HA KP5 RN5 LE LW hz2 hz3 hz4 L5
  obtain ⟨AL, cL, rfl⟩ := own_form RN.O
  obtain ⟨AH, cH, rfl⟩ := own_form RN.H
  have c2 := RN.c2
  have zR := RN.z
  have zE := BE.z
  have y0 := BE.c0
  have y1 := BE.c1
  go_wp2_with fail
  refine wp_region_noPanic ?_
  refine wp_region_Z (fun w' => w'.cell? ⟨w.heap.size + 1 + 1 + 1, 2, none⟩ = some (.slice AL s.1.length cL) ∧ w'.cell? ⟨w5.heap.size, 0, none⟩ = some (.int .i64 (edK l)) ∧ w'.cell? ⟨w5.heap.size, 1, none⟩ = some (.int .i64 (edW l))) [] (by kernel_rfl) ?_
  generalize (w5.alloc (.cells #[.int .i64 (edK l), .int .i64 (edW l)] 77)).drew = V at *
  refine wpAnyZ_take (i := 0) (v := ?_) rfl (by kernel_rfl) (fun _ _ _ h => h) (Or.inl ⟨by rfl, ?_⟩) (⟨c2, y0, y1⟩) ?_
  rotate_left 1
  · (intro w hSw; (try dsimp only at hSw); go_simp; try with_reducible rfl)
  try simp only [Act.put, List.setIfInBounds_toArray, List.set_cons_zero, List.set_cons_succ]
  refine wpAnyZ_take (i := 1) (v := ?_) rfl (by kernel_rfl) (fun _ _ _ h => h) (Or.inl ⟨by rfl, ?_⟩) (⟨c2, y0, y1⟩) ?_
  rotate_left 1
  · (intro w hSw; (try dsimp only at hSw); go_simp; try with_reducible rfl)
  try simp only [Act.put, List.setIfInBounds_toArray, List.set_cons_zero, List.set_cons_succ]
  refine wpAnyZ_take (i := 2) (v := ?_) rfl (by kernel_rfl) (fun _ _ _ h => h) (Or.inl ⟨by rfl, ?_⟩) (⟨c2, y0, y1⟩) ?_
  rotate_left 1
  · (intro w hSw; (try dsimp only at hSw); go_simp; try with_reducible rfl)
  try simp only [Act.put, List.setIfInBounds_toArray, List.set_cons_zero, List.set_cons_succ]
  refine wpAnyZ_take (i := 3) (v := ?_) rfl (by kernel_rfl) (fun _ _ _ h => h) (Or.inl ⟨by rfl, ?_⟩) (⟨c2, y0, y1⟩) ?_
  rotate_left 1
  · (intro w hSw; (try dsimp only at hSw); go_simp; try with_reducible rfl)
  try simp only [Act.put, List.setIfInBounds_toArray, List.set_cons_zero, List.set_cons_succ]
  refine wpAnyZ_take (i := 4) (v := ?_) rfl (by kernel_rfl) (fun _ _ _ h => h) (Or.inl ⟨by rfl, ?_⟩) (⟨c2, y0, y1⟩) ?_
  rotate_left 1
  · (intro w hSw; (try dsimp only at hSw); go_simp; try with_reducible rfl)
  try simp only [Act.put, List.setIfInBounds_toArray, List.set_cons_zero, List.set_cons_succ]
  refine wpAnyZ_take (i := 5) (v := ?_) rfl (by kernel_rfl) (fun _ _ _ h => h) (Or.inl ⟨by rfl, ?_⟩) (⟨c2, y0, y1⟩) ?_
  rotate_left 1
  · (intro w hSw; (try dsimp only at hSw); go_simp; try with_reducible rfl)
  try simp only [Act.put, List.setIfInBounds_toArray, List.set_cons_zero, List.set_cons_succ]
  refine wpAnyZ_take (i := 6) (v := ?_) rfl (by kernel_rfl) (fun _ _ _ h => h) (Or.inl ⟨by rfl, ?_⟩) (⟨c2, y0, y1⟩) ?_
  rotate_left 1
  · (intro w hSw; (try dsimp only at hSw); go_simp; try with_reducible rfl)
  try simp only [Act.put, List.setIfInBounds_toArray, List.set_cons_zero, List.set_cons_succ]
  refine wpAnyZ_take (i := 7) (v := ?_) rfl (by kernel_rfl) (fun _ _ _ h => h) (Or.inl ⟨by rfl, ?_⟩) (⟨c2, y0, y1⟩) ?_
  rotate_left 1
  · (intro w hSw; (try dsimp only at hSw); go_simp; try with_reducible rfl)
  try simp only [Act.put, List.setIfInBounds_toArray, List.set_cons_zero, List.set_cons_succ]
  refine wpAnyZ_take (i := 8) (v := ?_) rfl (by kernel_rfl) (fun _ _ _ h => h) (Or.inl ⟨by rfl, ?_⟩) (⟨c2, y0, y1⟩) ?_
  rotate_left 1
  · (intro w hSw; (try dsimp only at hSw); go_simp; try with_reducible rfl)
  try simp only [Act.put, List.setIfInBounds_toArray, List.set_cons_zero, List.set_cons_succ]
  refine wpAnyZ_one (i := 9) (by kernel_rfl) (ReadyZ.mk rfl (fun K hK => ?_))
  go_simp
  have LZ := Le.new V (.cells #[.slice none 0 0, .int .i64 0, .int .i64 0, .slice none 0 0] 33)
  refine hK.out _ _ (fun _ => ⟨(LZ.cell zR).trans c2, (LZ.cell zE).trans y0, (LZ.cell zE).trans y1⟩) ?_
  clear hK K
  try simp only [Act.put, List.setIfInBounds_toArray, List.set_cons_zero, List.set_cons_succ]
  clear LZ
  refine wpAnyZ_one (i := 10) (by kernel_rfl) (ReadyZ.mk rfl (fun K hK => ?_))
  go_simp
  have LY := Le.new V (.cells #[.slice AL s.1.length cL, .int .i64 (edK l), .int .i64 (edW l), .slice none 0 0] 33)
  refine hK.out _ _ (fun _ => ⟨(LY.cell zR).trans c2, (LY.cell zE).trans y0, (LY.cell zE).trans y1⟩) ?_
  clear hK K
  try simp only [Act.put, List.setIfInBounds_toArray, List.set_cons_zero, List.set_cons_succ]
  refine wpAnyZ_done (by kernel_rfl) ?_ _
  refine NoPanic.normal ?_
  have R7 := Rx.new RN (.slice AL s.1.length cL) (.int .i64 (edK l)) (.int .i64 (edW l)) (.slice none 0 0) 33
  have hVw := RX.z
  replace RX := RX.le LY
  replace RN := RN.le LY
  replace BE := BE.le LY
  replace L6 := L6.trans LY
  have hVs := LY.size
  clear LY c2 y0 y1 zR zE
  generalize hV7 : V.alloc (.cells #[.slice AL s.1.length cL, .int .i64 (edK l), .int .i64 (edW l), .slice none 0 0] 33) = V7 at *
  clear hV7
  have y0 := BE.c0
  have y1 := BE.c1
  have O7 : Owd 3 w V7 (.slice AL s.1.length cL) s.1 := ⟨own_mono RN.O (by omega), RN.okl⟩
  have hnl := RX.l
  rcases l with _ | v | f | _ | _
  · simp only [edK, edW] at *
    have b0 := RX.c0
    have b1 := RX.c1
    have b2 := RX.c2
    have b3 := RX.c3
    have f0 := RX.f 0
    have f1 := RX.f 1
    have f2 := RX.f 2
    have f3 := RX.f 3
    have k0 := R7.c0
    have k1 := R7.c1
    have k2 := R7.c2
    have k3 := R7.c3
    have HO : Hid (∀ a b c d, Owd 3 w ((((V7.setCell ⟨w.heap.size + 1, 0, none⟩ a).setCell ⟨w.heap.size + 1, 1, none⟩ b).setCell ⟨w.heap.size + 1, 2, none⟩ c).setCell ⟨w.heap.size + 1, 3, none⟩ d) (.slice AL s.1.length cL) s.1) := fun a b c d => (((O7.setO hnl).setO hnl).setO hnl).setO hnl
    have ho := out4 (a := .slice AL s.1.length cL) (b := .int .i64 0) (c := .int .i64 0) (d := .slice none 0 0) b0 b1 b2 b3
    have HL := Lib.hid L6
    clear RX R7 RN BE O7 L6
    go_wp2
    obtain ⟨z0, z1, z2, z3⟩ := ho
    exact bodyPost_ret (v := .agg #[.slice AL s.1.length cL, .int .i64 0, .int .i64 0, .slice none 0 0]) (by simp [results, Tryz.results25, go_sem, z0, z1, z2, z3]) rfl ⟨_, _, rfl, HO.out _ _ _ _, Owd.nil _ _ _, (by cases e : (Value.slice AL s.1.length cL).ownBlock with | none => exact .inl e | some k => exact .inr (fun e2 => by rw [e] at e2; cases e2)), (((HL.out.setCell (by omega) _).setCell (by omega) _).setCell (by omega) _).setCell (by omega) _⟩
  · simp only [edK, edW] at *
    have b0 := RX.c0
    have b1 := RX.c1
    have b2 := RX.c2
    have b3 := RX.c3
    have f0 := RX.f 0
    have f1 := RX.f 1
    have f2 := RX.f 2
    have f3 := RX.f 3
    have k0 := R7.c0
    have k1 := R7.c1
    have k2 := R7.c2
    have k3 := R7.c3
    have HO : Hid (∀ a b c d, Owd 3 w ((((V7.setCell ⟨w.heap.size + 1, 0, none⟩ a).setCell ⟨w.heap.size + 1, 1, none⟩ b).setCell ⟨w.heap.size + 1, 2, none⟩ c).setCell ⟨w.heap.size + 1, 3, none⟩ d) (.slice AL s.1.length cL) s.1) := fun a b c d => (((O7.setO hnl).setO hnl).setO hnl).setO hnl
    have ho := out4 (a := .slice AL s.1.length cL) (b := .int .i64 1) (c := .int .i64 v) (d := .slice none 0 0) b0 b1 b2 b3
    have HL := Lib.hid L6
    clear RX R7 RN BE O7 L6
    go_wp2
    obtain ⟨z0, z1, z2, z3⟩ := ho
    exact bodyPost_ret (v := .agg #[.slice AL s.1.length cL, .int .i64 1, .int .i64 v, .slice none 0 0]) (by simp [results, Tryz.results25, go_sem, z0, z1, z2, z3]) rfl ⟨_, _, rfl, HO.out _ _ _ _, Owd.nil _ _ _, (by cases e : (Value.slice AL s.1.length cL).ownBlock with | none => exact .inl e | some k => exact .inr (fun e2 => by rw [e] at e2; cases e2)), (((HL.out.setCell (by omega) _).setCell (by omega) _).setCell (by omega) _).setCell (by omega) _⟩
  · have hfr := hf f rfl
    simp only [edK, edW] at *
    have c3 := RN.c3
    have zR := RN.z
    have zE := BE.z
    have zX := RX.z
    have z7 := R7.z
    have SH := Sl.of_own RN.H rfl (by decide) RN.okh
    have hs2 := hS.2
    have GL := Lib.hid gd.lnk
    have HRX := Lib.hid RX
    have HR7 := Lib.hid R7
    have DV := (Le.refl V7).drew
    have Lall := Lib.hid (L6.trans DV)
    have HO7 := Lib.hid (O7.le DV)
    replace SH := SH.le DV
    clear O7
    go_wp2_with fail
    refine wp_region_noPanic ?_
    refine wp_region_Z (fun w' => w'.cell? ⟨w.heap.size + 1 + 1 + 1, 3, none⟩ = some (.slice AH s.2.length cH) ∧ w'.cell? ⟨w5.heap.size, 1, none⟩ = some (.int .i64 f)) [] (by kernel_rfl) ?_
    replace c3 := (DV.cell zR).trans c3
    replace y1 := (DV.cell zE).trans y1
    have RX2 := HRX.out.le DV
    have R72 := HR7.out.le DV
    replace zR := Nat.lt_of_lt_of_le zR DV.size
    replace zE := Nat.lt_of_lt_of_le zE DV.size
    clear DV RX R7 RN BE y0 HRX HR7
    generalize V7.drew = V8 at *
    refine wpAnyZ_take (i := 0) (v := ?_) rfl (by kernel_rfl) (fun _ _ _ h => h) (Or.inl ⟨by rfl, ?_⟩) (⟨c3, y1⟩) ?_
    rotate_left 1
    · (intro w hSw; (try dsimp only at hSw); go_simp; try with_reducible rfl)
    try simp only [Act.put, List.setIfInBounds_toArray, List.set_cons_zero, List.set_cons_succ]
    refine wpAnyZ_take (i := 1) (v := ?_) rfl (by kernel_rfl) (fun _ _ _ h => h) (Or.inl ⟨by rfl, ?_⟩) (⟨c3, y1⟩) ?_
    rotate_left 1
    · (intro w hSw; (try dsimp only at hSw); go_simp; try with_reducible rfl)
    try simp only [Act.put, List.setIfInBounds_toArray, List.set_cons_zero, List.set_cons_succ]
    refine wpAnyZ_take (i := 2) (v := ?_) rfl (by kernel_rfl) (fun _ _ _ h => h) (Or.inl ⟨by rfl, ?_⟩) (⟨c3, y1⟩) ?_
    rotate_left 1
    · (intro w hSw; (try dsimp only at hSw); go_simp; try with_reducible rfl)
    try simp only [Act.put, List.setIfInBounds_toArray, List.set_cons_zero, List.set_cons_succ]
    refine wpAnyZ_take (i := 3) (v := ?_) rfl (by kernel_rfl) (fun _ _ _ h => h) (Or.inl ⟨by rfl, ?_⟩) (⟨c3, y1⟩) ?_
    rotate_left 1
    · (intro w hSw; (try dsimp only at hSw); go_simp; try with_reducible rfl)
    try simp only [Act.put, List.setIfInBounds_toArray, List.set_cons_zero, List.set_cons_succ]
    refine wpAnyZ_take (i := 4) (v := ?_) rfl (by kernel_rfl) (fun _ _ _ h => h) (Or.inl ⟨by rfl, ?_⟩) (⟨c3, y1⟩) ?_
    rotate_left 1
    · (intro w hSw; (try dsimp only at hSw); go_simp; try with_reducible rfl)
    try simp only [Act.put, List.setIfInBounds_toArray, List.set_cons_zero, List.set_cons_succ]
    refine wpAnyZ_take (i := 5) (v := ?_) rfl (by kernel_rfl) (fun _ _ _ h => h) (Or.inl ⟨by rfl, ?_⟩) (⟨c3, y1⟩) ?_
    rotate_left 1
    · (intro w hSw; (try dsimp only at hSw); go_simp; try with_reducible rfl)
    try simp only [Act.put, List.setIfInBounds_toArray, List.set_cons_zero, List.set_cons_succ]
    have RX0 := RX2
    have Lall2 := Lall.out
    have HO72 := HO7.out
    clear Lall HO7
    have Lall := Lall2
    have HO7 := HO72
    clear Lall2 HO72
    refine wpAnyZ_two (i := 6) (k := 10) (by kernel_rfl) (ReadyZ.mk rfl (fun K hK => ?_)) (ReadyZ.mk rfl (fun K hK => ?_))
    · obtain ⟨g8, hg8⟩ : ∃ z, z = w.heap.size + 1 := ⟨_, rfl⟩
      go_simp
      go_at_call 41
      refine (sIsolated_any AH s.2.length cH s.2 f V8 SH GL.out hfr.1 hfr.2 (by omega)).mono ?_
      rintro e V9 ⟨v2, rfl, D2, hl2⟩
      have c3b := (hl2.cell zR).trans c3
      have y1b := (hl2.cell zE).trans y1
      have HD2 := Lib.hid (D2.mono Lall)
      have P2 : Hid (Apart (.slice AL s.1.length cL) v2) := by
        show Apart _ _
        cases e : (Value.slice AL s.1.length cL).ownBlock with
        | none => exact .inl e
        | some k => exact .inr (fun e2 => by have h1 := (HO7.row.lt k e).2; have h2 := (D2.row.lt k (e2 ▸ e)).1; omega)
      have hnh : Hid (v2.ownBlock ≠ some (w.heap.size + 1) ∧ v2.ownBlock ≠ some V.heap.size ∧ v2.ownBlock ≠ some g8) := by
        have h1 := RX2.z
        have h2 := R72.z
        exact ⟨fun e => by have := (D2.row.lt _ e).1; omega, fun e => by have := (D2.row.lt _ e).1; omega, fun e => by have := (D2.row.lt _ e).1; omega⟩
      obtain ⟨A2, q2, rfl⟩ := own_form D2.row
      obtain ⟨ix, hix⟩ : ∃ z, idx (reachL s.2 f) f 0 = z := ⟨_, rfl⟩
      have HIX : Hid (idx (reachL s.2 f) (id f) 0 = ix) := hix
      rw [hix]
      clear hix
      generalize (isoL s.2 (reachL s.2 f)).length = ln at *
      have LV9 := Lall.trans hl2
      have RX3 := RX2.le hl2
      have R73 := R72.le hl2
      have O9 := HO7.le hl2
      have hV9 := hl2.size
      have zR9 := Nat.lt_of_lt_of_le zR hl2.size
      have zE9 := Nat.lt_of_lt_of_le zE hl2.size
      clear D2 hl2 SH c3 y1 RX2 R72 zR zE hg8
      refine hK.out _ _ (fun _ => ⟨c3b, y1b⟩) ?_
      clear hK K
      try simp only [Act.put, List.setIfInBounds_toArray, List.set_cons_zero, List.set_cons_succ]
      refine wpAnyZ_take (i := 7) (v := ?_) rfl (by kernel_rfl) (fun _ _ _ h => h) (Or.inl ⟨by rfl, ?_⟩) (⟨c3b, y1b⟩) ?_
      rotate_left 1
      · (intro w hSw; (try dsimp only at hSw); go_simp; try with_reducible rfl)
      try simp only [Act.put, List.setIfInBounds_toArray, List.set_cons_zero, List.set_cons_succ]
      refine wpAnyZ_take (i := 8) (v := ?_) rfl (by kernel_rfl) (fun _ _ _ h => h) (Or.inl ⟨by rfl, ?_⟩) (⟨c3b, y1b⟩) ?_
      rotate_left 1
      · (intro w hSw; (try dsimp only at hSw); go_simp; try with_reducible rfl)
      try simp only [Act.put, List.setIfInBounds_toArray, List.set_cons_zero, List.set_cons_succ]
      refine wpAnyZ_take (i := 9) (v := ?_) rfl (by kernel_rfl) (fun _ _ _ h => h) (Or.inl ⟨by rfl, ?_⟩) (⟨c3b, y1b⟩) ?_
      rotate_left 1
      · (intro w hSw; (try dsimp only at hSw); go_simp; try with_reducible rfl)
      try simp only [Act.put, List.setIfInBounds_toArray, List.set_cons_zero, List.set_cons_succ]
      refine wpAnyZ_one (i := 10) (by kernel_rfl) (ReadyZ.mk rfl (fun K hK => ?_))
      go_simp
      have LZ := Le.new V9 (.cells #[.slice none 0 0] 31)
      refine hK.out _ _ (fun _ => ⟨(LZ.cell zR9).trans c3b, (LZ.cell zE9).trans y1b⟩) ?_
      clear hK K
      try simp only [Act.put, List.setIfInBounds_toArray, List.set_cons_zero, List.set_cons_succ]
      clear LZ
      refine wpAnyZ_one (i := 11) (by kernel_rfl) (ReadyZ.mk rfl (fun K hK => ?_))
      go_simp
      have LY := Le.new V9 (.cells #[.slice A2 ln q2] 31)
      refine hK.out _ _ (fun _ => ⟨(LY.cell zR9).trans c3b, (LY.cell zE9).trans y1b⟩) ?_
      clear hK K
      try simp only [Act.put, List.setIfInBounds_toArray, List.set_cons_zero, List.set_cons_succ]
      refine wpAnyZ_one (i := 12) (by kernel_rfl) (ReadyZ.mk rfl (fun K hK => ?_))
      go_simp
      refine hK.out _ _ (fun _ => ⟨(LY.cell zR9).trans c3b, (LY.cell zE9).trans y1b⟩) ?_
      clear hK K
      try simp only [Act.put, List.setIfInBounds_toArray, List.set_cons_zero, List.set_cons_succ]
      have x8 : (V9.alloc (.cells #[.slice A2 ln q2] 31)).cell? ⟨V9.heap.size, 0, none⟩ = some (.slice A2 ln q2) := by rw [World.cell?_alloc_at _ _ _ _ rfl]; rfl
      have RXf := RX3.le LY
      have R7f := R73.le LY
      have Of := O9.le LY
      have Df := HD2.out.le LY
      have Lf := LV9.trans LY
      have hg8n : V9.heap.size ≠ V.heap.size := by have := R73.z; omega
      clear RX3 R73 O9 HD2 LV9 LY c3b y1b zR9 zE9
      have x8b : ((V9.alloc (.cells #[.slice A2 ln q2] 31)).setCell ⟨V.heap.size, 3, none⟩ (.slice A2 ln q2)).cell? ⟨V9.heap.size, 0, none⟩ = some (.slice A2 ln q2) := (cell_set_other (.inl hg8n.symm)).trans x8
      generalize V9.alloc (.cells #[.slice A2 ln q2] 31) = Wf at *
      refine wpAnyZ_done (by kernel_rfl) ?_ _
      refine NoPanic.normal ?_
      have hne7 : V.heap.size ≠ w.heap.size + 1 := by have := RX0.z; omega
      have k0 := R7f.c0
      have k1 := R7f.c1
      have k2 := R7f.c2
      have k3 := R7f.c3
      have fk3 := R7f.f 3
      have fk2 : (Wf.setCell ⟨V.heap.size, 3, none⟩ (.slice A2 ln q2)).frozen? ⟨V.heap.size, 2, none⟩ = false := (frz_set _ _ _ _ _ _).trans (R7f.f 2)
      have k2b : (Wf.setCell ⟨V.heap.size, 3, none⟩ (.slice A2 ln q2)).cell? ⟨V.heap.size, 2, none⟩ = some (.int .i64 f) := (cell_set_other (.inr (by decide))).trans k2
      have m0 : ((Wf.setCell ⟨V.heap.size, 3, none⟩ (.slice A2 ln q2)).setCell ⟨V.heap.size, 2, none⟩ (.int .i64 ix)).cell? ⟨V.heap.size, 0, none⟩ = some (.slice AL s.1.length cL) := (cell_set_other (.inr (by decide))).trans ((cell_set_other (.inr (by decide))).trans k0)
      have m1 : ((Wf.setCell ⟨V.heap.size, 3, none⟩ (.slice A2 ln q2)).setCell ⟨V.heap.size, 2, none⟩ (.int .i64 ix)).cell? ⟨V.heap.size, 1, none⟩ = some (.int .i64 2) := (cell_set_other (.inr (by decide))).trans ((cell_set_other (.inr (by decide))).trans k1)
      have m2 : ((Wf.setCell ⟨V.heap.size, 3, none⟩ (.slice A2 ln q2)).setCell ⟨V.heap.size, 2, none⟩ (.int .i64 ix)).cell? ⟨V.heap.size, 2, none⟩ = some (.int .i64 ix) := cell_set_same k2b
      have m3 : ((Wf.setCell ⟨V.heap.size, 3, none⟩ (.slice A2 ln q2)).setCell ⟨V.heap.size, 2, none⟩ (.int .i64 ix)).cell? ⟨V.heap.size, 3, none⟩ = some (.slice A2 ln q2) := (cell_set_other (.inr (by decide))).trans (cell_set_same k3)
      have s0 : ((Wf.setCell ⟨V.heap.size, 3, none⟩ (.slice A2 ln q2)).setCell ⟨V.heap.size, 2, none⟩ (.int .i64 ix)).cell? ⟨w.heap.size + 1, 0, none⟩ = some (.slice none 0 0) := (cell_set_other (.inl hne7)).trans ((cell_set_other (.inl hne7)).trans RXf.c0)
      have s1 : ((Wf.setCell ⟨V.heap.size, 3, none⟩ (.slice A2 ln q2)).setCell ⟨V.heap.size, 2, none⟩ (.int .i64 ix)).cell? ⟨w.heap.size + 1, 1, none⟩ = some (.int .i64 0) := (cell_set_other (.inl hne7)).trans ((cell_set_other (.inl hne7)).trans RXf.c1)
      have s2 : ((Wf.setCell ⟨V.heap.size, 3, none⟩ (.slice A2 ln q2)).setCell ⟨V.heap.size, 2, none⟩ (.int .i64 ix)).cell? ⟨w.heap.size + 1, 2, none⟩ = some (.int .i64 0) := (cell_set_other (.inl hne7)).trans ((cell_set_other (.inl hne7)).trans RXf.c2)
      have s3 : ((Wf.setCell ⟨V.heap.size, 3, none⟩ (.slice A2 ln q2)).setCell ⟨V.heap.size, 2, none⟩ (.int .i64 ix)).cell? ⟨w.heap.size + 1, 3, none⟩ = some (.slice none 0 0) := (cell_set_other (.inl hne7)).trans ((cell_set_other (.inl hne7)).trans RXf.c3)
      have fs : ∀ k, ((Wf.setCell ⟨V.heap.size, 3, none⟩ (.slice A2 ln q2)).setCell ⟨V.heap.size, 2, none⟩ (.int .i64 ix)).frozen? ⟨w.heap.size + 1, k, none⟩ = false := fun k => (frz_set _ _ _ _ _ _).trans ((frz_set _ _ _ _ _ _).trans (RXf.f k))
      have f0 := fs 0
      have f1 := fs 1
      have f2 := fs 2
      have f3 := fs 3
      have ho := out4 (a := .slice AL s.1.length cL) (b := .int .i64 2) (c := .int .i64 ix) (d := .slice A2 ln q2) s0 s1 s2 s3
      have HO : Hid (∀ a b c d, Owd 3 w ((((((Wf.setCell ⟨V.heap.size, 3, none⟩ (.slice A2 ln q2)).setCell ⟨V.heap.size, 2, none⟩ (.int .i64 ix)).setCell ⟨w.heap.size + 1, 0, none⟩ a).setCell ⟨w.heap.size + 1, 1, none⟩ b).setCell ⟨w.heap.size + 1, 2, none⟩ c).setCell ⟨w.heap.size + 1, 3, none⟩ d) (.slice AL s.1.length cL) s.1 ∧ Owd 103 w ((((((Wf.setCell ⟨V.heap.size, 3, none⟩ (.slice A2 ln q2)).setCell ⟨V.heap.size, 2, none⟩ (.int .i64 ix)).setCell ⟨w.heap.size + 1, 0, none⟩ a).setCell ⟨w.heap.size + 1, 1, none⟩ b).setCell ⟨w.heap.size + 1, 2, none⟩ c).setCell ⟨w.heap.size + 1, 3, none⟩ d) (.slice A2 ln q2) (isoL s.2 (reachL s.2 f))) := fun a b c d => ⟨(((((Of.setO R7f.l).setO R7f.l).setO RXf.l).setO RXf.l).setO RXf.l).setO RXf.l, (((((Df.setO hnh.out.2.1).setO hnh.out.2.1).setO hnh.out.1).setO hnh.out.1).setO hnh.out.1).setO hnh.out.1⟩
      have HL := Lib.hid (((((((Lf.setCell (b := V.heap.size) (o := 3) (by omega) (.slice A2 ln q2)).setCell (b := V.heap.size) (o := 2) (by omega) (.int .i64 ix)).setCell (b := w.heap.size + 1) (o := 0) (by omega) (.slice AL s.1.length cL)).setCell (b := w.heap.size + 1) (o := 1) (by omega) (.int .i64 2)).setCell (b := w.heap.size + 1) (o := 2) (by omega) (.int .i64 ix)).setCell (b := w.heap.size + 1) (o := 3) (by omega) (.slice A2 ln q2)))
      clear Of Df Lf fs RXf R7f
      go_wp2
      obtain ⟨z0, z1, z2, z3⟩ := ho
      exact bodyPost_ret (v := .agg #[.slice AL s.1.length cL, .int .i64 2, .int .i64 ix, .slice A2 ln q2]) (by simp [results, Tryz.results25, go_sem, z0, z1, z2, z3]) rfl ⟨_, _, ret4 rfl rfl HIX.out.symm rfl, (HO.out _ _ _ _).1, (HO.out _ _ _ _).2, P2.out, HL.out⟩
    · go_simp
      have LZ := Le.new V8 (.cells #[.slice none 0 0] 31)
      have x8 : (V8.alloc (.cells #[.slice none 0 0] 31)).cell? ⟨V8.heap.size, 0, none⟩ = some (.slice none 0 0) := by rw [World.cell?_alloc_at _ _ _ _ rfl]; rfl
      have fx8 : (V8.alloc (.cells #[.slice none 0 0] 31)).frozen? ⟨V8.heap.size, 0, none⟩ = false := World.frozen?_alloc_at _ _ _ _ rfl
      have zx8 : V8.heap.size < (V8.alloc (.cells #[.slice none 0 0] 31)).heap.size := by simp
      replace c3 := (LZ.cell zR).trans c3
      replace y1 := (LZ.cell zE).trans y1
      have hgR : V8.heap.size ≠ w.heap.size + 1 + 1 + 1 := by omega
      have hgE : V8.heap.size ≠ w5.heap.size := by omega
      have hbb := RX2.z
      have hbc := R72.z
      have hO8 := HO7.row.lt
      refine hK.out _ _ (fun _ => ⟨c3, y1⟩) ?_
      clear hK K
      try simp only [Act.put, List.setIfInBounds_toArray, List.set_cons_zero, List.set_cons_succ]
      replace zR := Nat.lt_of_lt_of_le zR LZ.size
      replace zE := Nat.lt_of_lt_of_le zE LZ.size
      replace SH := SH.le LZ
      replace RX2 := RX2.le LZ
      replace R72 := R72.le LZ
      replace HO7 := HO7.le LZ
      replace Lall := Lall.trans LZ
      clear LZ
      have hO9 : (Value.slice AL s.1.length cL).ownBlock ≠ some V8.heap.size := fun e => by have := (hO8 _ e).2; omega
      generalize V8.alloc (.cells #[.slice none 0 0] 31) = V8b at *
      refine wpAnyZ_one (i := 6) (by kernel_rfl) (ReadyZ.mk rfl (fun K hK => ?_))
      go_simp
      go_at_call 41
      refine (sIsolated_any AH s.2.length cH s.2 f V8b SH GL.out hfr.1 hfr.2 (by omega)).mono ?_
      rintro e V9 ⟨v2, rfl, D2, hl2⟩
      have c3b := (hl2.cell zR).trans c3
      have y1b := (hl2.cell zE).trans y1
      have HD2 := Lib.hid (D2.mono Lall)
      have P2 : Hid (Apart (.slice AL s.1.length cL) v2) := by
        show Apart _ _
        cases e : (Value.slice AL s.1.length cL).ownBlock with
        | none => exact .inl e
        | some k => exact .inr (fun e2 => by have h1 := (HO7.row.lt k e).2; have h2 := (D2.row.lt k (e2 ▸ e)).1; omega)
      have hnh : Hid (v2.ownBlock ≠ some (w.heap.size + 1) ∧ v2.ownBlock ≠ some V.heap.size ∧ v2.ownBlock ≠ some V8.heap.size) := by
        have h1 := RX2.z
        have h2 := R72.z
        exact ⟨fun e => by have := (D2.row.lt _ e).1; omega, fun e => by have := (D2.row.lt _ e).1; omega, fun e => by have := (D2.row.lt _ e).1; omega⟩
      obtain ⟨A2, q2, rfl⟩ := own_form D2.row
      obtain ⟨ix, hix⟩ : ∃ z, idx (reachL s.2 f) f 0 = z := ⟨_, rfl⟩
      have HIX : Hid (idx (reachL s.2 f) (id f) 0 = ix) := hix
      rw [hix]
      clear hix
      generalize (isoL s.2 (reachL s.2 f)).length = ln at *
      have LV9 := Lall.trans hl2
      have RX3 := RX2.le hl2
      have R73 := R72.le hl2
      have O9 := HO7.le hl2
      have hV9 := hl2.size
      have zR9 := Nat.lt_of_lt_of_le zR hl2.size
      have zE9 := Nat.lt_of_lt_of_le zE hl2.size
      replace x8 := (hl2.cell zx8).trans x8
      replace fx8 := (hl2.frozen zx8).trans fx8
      clear D2 hl2 SH c3 y1 RX2 R72 zR zE
      refine hK.out _ _ (fun _ => ⟨c3b, y1b⟩) ?_
      clear hK K
      try simp only [Act.put, List.setIfInBounds_toArray, List.set_cons_zero, List.set_cons_succ]
      refine wpAnyZ_take (i := 7) (v := ?_) rfl (by kernel_rfl) (fun _ _ _ h => h) (Or.inl ⟨by rfl, ?_⟩) (⟨c3b, y1b⟩) ?_
      rotate_left 1
      · (intro w hSw; (try dsimp only at hSw); go_simp; try with_reducible rfl)
      try simp only [Act.put, List.setIfInBounds_toArray, List.set_cons_zero, List.set_cons_succ]
      refine wpAnyZ_take (i := 8) (v := ?_) rfl (by kernel_rfl) (fun _ _ _ h => h) (Or.inl ⟨by rfl, ?_⟩) (⟨c3b, y1b⟩) ?_
      rotate_left 1
      · (intro w hSw; (try dsimp only at hSw); go_simp; try with_reducible rfl)
      try simp only [Act.put, List.setIfInBounds_toArray, List.set_cons_zero, List.set_cons_succ]
      refine wpAnyZ_take (i := 9) (v := ?_) rfl (by kernel_rfl) (fun _ _ _ h => h) (Or.inl ⟨by rfl, ?_⟩) (⟨c3b, y1b⟩) ?_
      rotate_left 1
      · (intro w hSw; (try dsimp only at hSw); go_simp; try with_reducible rfl)
      try simp only [Act.put, List.setIfInBounds_toArray, List.set_cons_zero, List.set_cons_succ]
      refine wpAnyZ_one (i := 11) (by kernel_rfl) (ReadyZ.mk rfl (fun K hK => ?_))
      go_simp
      have c3c : (V9.setCell ⟨V8.heap.size, 0, none⟩ (.slice A2 ln q2)).cell? ⟨w.heap.size + 1 + 1 + 1, 3, none⟩ = some (.slice AH s.2.length cH) := (cell_set_other (.inl hgR)).trans c3b
      have y1c : (V9.setCell ⟨V8.heap.size, 0, none⟩ (.slice A2 ln q2)).cell? ⟨w5.heap.size, 1, none⟩ = some (.int .i64 f) := (cell_set_other (.inl hgE)).trans y1b
      refine hK.out _ _ (fun _ => ⟨c3c, y1c⟩) ?_
      clear hK K
      try simp only [Act.put, List.setIfInBounds_toArray, List.set_cons_zero, List.set_cons_succ]
      refine wpAnyZ_one (i := 12) (by kernel_rfl) (ReadyZ.mk rfl (fun K hK => ?_))
      go_simp
      refine hK.out _ _ (fun _ => ⟨c3c, y1c⟩) ?_
      clear hK K
      try simp only [Act.put, List.setIfInBounds_toArray, List.set_cons_zero, List.set_cons_succ]
      have zV := R73.z
      have hne8 : V8.heap.size ≠ V.heap.size := by omega
      have hne9 : V8.heap.size ≠ w.heap.size + 1 := by omega
      have x8n : (V9.setCell ⟨V8.heap.size, 0, none⟩ (.slice A2 ln q2)).cell? ⟨V8.heap.size, 0, none⟩ = some (.slice A2 ln q2) := cell_set_same x8
      have gsz := grown_set V9 V8.heap.size 0 (.slice A2 ln q2)
      have RXf : Rx (V9.setCell ⟨V8.heap.size, 0, none⟩ (.slice A2 ln q2)) (w.heap.size + 1 + 1 + 1) (w.heap.size + 1) (.slice AL s.1.length cL) (.slice AH s.2.length cH) (.slice none 0 0) (.int .i64 0) (.int .i64 0) (.slice none 0 0) := ⟨by have := RX3.z; simp [World.setCell]; exact this, RX3.ne, RX3.l, RX3.h, (cell_set_other (.inl hne9)).trans RX3.c0, (cell_set_other (.inl hne9)).trans RX3.c1, (cell_set_other (.inl hne9)).trans RX3.c2, (cell_set_other (.inl hne9)).trans RX3.c3, fun k => (frz_set _ _ _ _ _ _).trans (RX3.f k)⟩
      have R7f : Rx (V9.setCell ⟨V8.heap.size, 0, none⟩ (.slice A2 ln q2)) (w.heap.size + 1 + 1 + 1) V.heap.size (.slice AL s.1.length cL) (.slice AH s.2.length cH) (.slice AL s.1.length cL) (.int .i64 2) (.int .i64 f) (.slice none 0 0) := ⟨by have := R73.z; simp [World.setCell]; exact this, R73.ne, R73.l, R73.h, (cell_set_other (.inl hne8)).trans R73.c0, (cell_set_other (.inl hne8)).trans R73.c1, (cell_set_other (.inl hne8)).trans R73.c2, (cell_set_other (.inl hne8)).trans R73.c3, fun k => (frz_set _ _ _ _ _ _).trans (R73.f k)⟩
      have Of := O9.setO (o := 0) (u := .slice A2 ln q2) hO9
      have Df := HD2.out.setO (o := 0) (u := .slice A2 ln q2) hnh.out.2.2
      have Lf := LV9.setCell (b := V8.heap.size) (o := 0) (by omega) (.slice A2 ln q2)
      clear RX3 R73 O9 HD2 LV9 c3b y1b c3c y1c zR9 zE9 gsz x8 fx8
      have x8b : ((V9.setCell ⟨V8.heap.size, 0, none⟩ (.slice A2 ln q2)).setCell ⟨V.heap.size, 3, none⟩ (.slice A2 ln q2)).cell? ⟨V8.heap.size, 0, none⟩ = some (.slice A2 ln q2) := (cell_set_other (.inl hne8.symm)).trans x8n
      generalize V9.setCell ⟨V8.heap.size, 0, none⟩ (.slice A2 ln q2) = Wf at *
      refine wpAnyZ_done (by kernel_rfl) ?_ _
      refine NoPanic.normal ?_
      have hne7 : V.heap.size ≠ w.heap.size + 1 := by have := RX0.z; omega
      have k0 := R7f.c0
      have k1 := R7f.c1
      have k2 := R7f.c2
      have k3 := R7f.c3
      have fk3 := R7f.f 3
      have fk2 : (Wf.setCell ⟨V.heap.size, 3, none⟩ (.slice A2 ln q2)).frozen? ⟨V.heap.size, 2, none⟩ = false := (frz_set _ _ _ _ _ _).trans (R7f.f 2)
      have k2b : (Wf.setCell ⟨V.heap.size, 3, none⟩ (.slice A2 ln q2)).cell? ⟨V.heap.size, 2, none⟩ = some (.int .i64 f) := (cell_set_other (.inr (by decide))).trans k2
      have m0 : ((Wf.setCell ⟨V.heap.size, 3, none⟩ (.slice A2 ln q2)).setCell ⟨V.heap.size, 2, none⟩ (.int .i64 ix)).cell? ⟨V.heap.size, 0, none⟩ = some (.slice AL s.1.length cL) := (cell_set_other (.inr (by decide))).trans ((cell_set_other (.inr (by decide))).trans k0)
      have m1 : ((Wf.setCell ⟨V.heap.size, 3, none⟩ (.slice A2 ln q2)).setCell ⟨V.heap.size, 2, none⟩ (.int .i64 ix)).cell? ⟨V.heap.size, 1, none⟩ = some (.int .i64 2) := (cell_set_other (.inr (by decide))).trans ((cell_set_other (.inr (by decide))).trans k1)
      have m2 : ((Wf.setCell ⟨V.heap.size, 3, none⟩ (.slice A2 ln q2)).setCell ⟨V.heap.size, 2, none⟩ (.int .i64 ix)).cell? ⟨V.heap.size, 2, none⟩ = some (.int .i64 ix) := cell_set_same k2b
      have m3 : ((Wf.setCell ⟨V.heap.size, 3, none⟩ (.slice A2 ln q2)).setCell ⟨V.heap.size, 2, none⟩ (.int .i64 ix)).cell? ⟨V.heap.size, 3, none⟩ = some (.slice A2 ln q2) := (cell_set_other (.inr (by decide))).trans (cell_set_same k3)
      have s0 : ((Wf.setCell ⟨V.heap.size, 3, none⟩ (.slice A2 ln q2)).setCell ⟨V.heap.size, 2, none⟩ (.int .i64 ix)).cell? ⟨w.heap.size + 1, 0, none⟩ = some (.slice none 0 0) := (cell_set_other (.inl hne7)).trans ((cell_set_other (.inl hne7)).trans RXf.c0)
      have s1 : ((Wf.setCell ⟨V.heap.size, 3, none⟩ (.slice A2 ln q2)).setCell ⟨V.heap.size, 2, none⟩ (.int .i64 ix)).cell? ⟨w.heap.size + 1, 1, none⟩ = some (.int .i64 0) := (cell_set_other (.inl hne7)).trans ((cell_set_other (.inl hne7)).trans RXf.c1)
      have s2 : ((Wf.setCell ⟨V.heap.size, 3, none⟩ (.slice A2 ln q2)).setCell ⟨V.heap.size, 2, none⟩ (.int .i64 ix)).cell? ⟨w.heap.size + 1, 2, none⟩ = some (.int .i64 0) := (cell_set_other (.inl hne7)).trans ((cell_set_other (.inl hne7)).trans RXf.c2)
      have s3 : ((Wf.setCell ⟨V.heap.size, 3, none⟩ (.slice A2 ln q2)).setCell ⟨V.heap.size, 2, none⟩ (.int .i64 ix)).cell? ⟨w.heap.size + 1, 3, none⟩ = some (.slice none 0 0) := (cell_set_other (.inl hne7)).trans ((cell_set_other (.inl hne7)).trans RXf.c3)
      have fs : ∀ k, ((Wf.setCell ⟨V.heap.size, 3, none⟩ (.slice A2 ln q2)).setCell ⟨V.heap.size, 2, none⟩ (.int .i64 ix)).frozen? ⟨w.heap.size + 1, k, none⟩ = false := fun k => (frz_set _ _ _ _ _ _).trans ((frz_set _ _ _ _ _ _).trans (RXf.f k))
      have f0 := fs 0
      have f1 := fs 1
      have f2 := fs 2
      have f3 := fs 3
      have ho := out4 (a := .slice AL s.1.length cL) (b := .int .i64 2) (c := .int .i64 ix) (d := .slice A2 ln q2) s0 s1 s2 s3
      have HO : Hid (∀ a b c d, Owd 3 w ((((((Wf.setCell ⟨V.heap.size, 3, none⟩ (.slice A2 ln q2)).setCell ⟨V.heap.size, 2, none⟩ (.int .i64 ix)).setCell ⟨w.heap.size + 1, 0, none⟩ a).setCell ⟨w.heap.size + 1, 1, none⟩ b).setCell ⟨w.heap.size + 1, 2, none⟩ c).setCell ⟨w.heap.size + 1, 3, none⟩ d) (.slice AL s.1.length cL) s.1 ∧ Owd 103 w ((((((Wf.setCell ⟨V.heap.size, 3, none⟩ (.slice A2 ln q2)).setCell ⟨V.heap.size, 2, none⟩ (.int .i64 ix)).setCell ⟨w.heap.size + 1, 0, none⟩ a).setCell ⟨w.heap.size + 1, 1, none⟩ b).setCell ⟨w.heap.size + 1, 2, none⟩ c).setCell ⟨w.heap.size + 1, 3, none⟩ d) (.slice A2 ln q2) (isoL s.2 (reachL s.2 f))) := fun a b c d => ⟨(((((Of.setO R7f.l).setO R7f.l).setO RXf.l).setO RXf.l).setO RXf.l).setO RXf.l, (((((Df.setO hnh.out.2.1).setO hnh.out.2.1).setO hnh.out.1).setO hnh.out.1).setO hnh.out.1).setO hnh.out.1⟩
      have HL := Lib.hid (((((((Lf.setCell (b := V.heap.size) (o := 3) (by omega) (.slice A2 ln q2)).setCell (b := V.heap.size) (o := 2) (by omega) (.int .i64 ix)).setCell (b := w.heap.size + 1) (o := 0) (by omega) (.slice AL s.1.length cL)).setCell (b := w.heap.size + 1) (o := 1) (by omega) (.int .i64 2)).setCell (b := w.heap.size + 1) (o := 2) (by omega) (.int .i64 ix)).setCell (b := w.heap.size + 1) (o := 3) (by omega) (.slice A2 ln q2)))
      clear Of Df Lf fs RXf R7f
      go_wp2
      obtain ⟨z0, z1, z2, z3⟩ := ho
      exact bodyPost_ret (v := .agg #[.slice AL s.1.length cL, .int .i64 2, .int .i64 ix, .slice A2 ln q2]) (by simp [results, Tryz.results25, go_sem, z0, z1, z2, z3]) rfl ⟨_, _, ret4 rfl rfl HIX.out.symm rfl, (HO.out _ _ _ _).1, (HO.out _ _ _ _).2, P2.out, HL.out⟩
  · exact absurd rfl hnb.1
  · exact absurd rfl hnb.2
end

section
set_option maxHeartbeats 2000000 in
set_option maxRecDepth 100000 in
theorem sRunProgram_any (B A : Option Addr) (m c n cap : Nat) (xs : List Cls) (p : List Lin) (hsm : p.length ≤ 1048576) (hnb : vp xs p = true → (runI xs p).1 ≠ .brk ∧ (runI xs p).1 ≠ .cnt) (hS : vp xs p = true → Sm (runI xs p).2) (w : World) (hT : Sl w B m c xs) (hR : Sl w A n cap p) :
    Calls Tryz.prog 7 #[.agg #[.slice B m c], .slice A n cap] w (ResOut w (rgL (vp xs p) (runI xs p)) (rgH (vp xs p) (runI xs p)) (rgE (vp xs p) (runI xs p)) (rgV (vp xs p) (runI xs p))) := by
  have HG : Hid (vp xs p = true → GoodP xs p) := goodP_of
  have HS := Lib.hid hS
  have HNB := Lib.hid hnb
  clear hS hnb
  obtain rfl := hR.len
  have LB := (Le.new w (.cells #[.slice B m c] 37)).trans (Le.new (w.alloc (.cells #[.slice B m c] 37)) (.cells #[.slice none 0 0, .int .i64 0, .int .i64 0, .slice none 0 0] 33))
  have R0 := ((Le.new (w.alloc (.cells #[.slice B m c] 37)) (.cells #[.slice none 0 0, .int .i64 0, .int .i64 0, .slice none 0 0] 33)).block w.heap.size (by simp)).trans (hpn (w := w) (o := .cells #[.slice B m c] 37) rfl)
  have R1 := hpn (w := w.alloc (.cells #[.slice B m c] 37)) (o := .cells #[.slice none 0 0, .int .i64 0, .int .i64 0, .slice none 0 0] 33) (b := w.heap.size + 1) (by simp)
  have hzW : w.heap.size + 1 < ((w.alloc (.cells #[.slice B m c] 37)).alloc (.cells #[.slice none 0 0, .int .i64 0, .int .i64 0, .slice none 0 0] 33)).heap.size := by simp
  have T1 := hT.le LB
  have S1 := hR.le LB
  have HBT : Hid (0 < m → ∀ a, B = some a → a.block < w.heap.size) := fun hn a e => by obtain ⟨b, off, e2, hb, _⟩ := hT.at_ hn; rw [e2] at e; injection e with e; rw [← e]; exact hb
  have HBA : Hid (0 < p.length → ∀ a, A = some a → a.block < w.heap.size) := fun hn a e => by obtain ⟨b, off, e2, hb, _⟩ := hR.at_ hn; rw [e2] at e; injection e with e; rw [← e]; exact hb
  unfold ResOut
  go_enter Tryz.func7, Tryz.ntmps7
  have t0 : ((w.alloc (.cells #[.slice B m c] 37)).alloc (.cells #[.slice none 0 0, .int .i64 0, .int .i64 0, .slice none 0 0] 33)).cell? ⟨w.heap.size, 0, none⟩ = some (.slice B m c) := cell_of_row _ w.heap.size 0 _ _ _ R0
  go_wp2_with fail
  generalize (w.alloc (.cells #[.slice B m c] 37)).alloc (.cells #[.slice none 0 0, .int .i64 0, .int .i64 0, .slice none 0 0] 33) = W at *
  refine (svalidProgram_any B A m c p.length cap xs p hsm W T1 S1).mono ?_
  rintro e w2 ⟨rfl, hle⟩
  have L2 := LB.trans hle
  replace t0 := (hle.cell (by omega)).trans t0
  obtain ⟨r0, r1, r2, r3⟩ := cells4 ((hle.block _ hzW).trans R1)
  have fr := fun k => frz_row (k := k) ((hle.block _ hzW).trans R1)
  have hzW2 := Nat.lt_of_lt_of_le hzW hle.size
  have T2 := T1.le hle
  have S2 := S1.le hle
  clear T1 S1 R0 R1 hT hR hle LB
  cases hvt : vp xs p
  · have HZ : Hid (rgL (vp xs p) (runI xs p) = [] ∧ rgH (vp xs p) (runI xs p) = [] ∧ rgE (vp xs p) (runI xs p) = 0 ∧ rgV (vp xs p) (runI xs p) = 0) := by show _ ∧ _ ∧ _ ∧ _; rw [hvt]; exact ⟨rfl, rfl, rfl, rfl⟩
    clear hvt
    have f0 := fr 0
    have f1 := fr 1
    have f2 := fr 2
    have f3 := fr 3
    have ho := out4 (a := .slice none 0 0) (b := .int .i64 0) (c := .int .i64 0) (d := .slice none 0 0) r0 r1 r2 r3
    go_wp2
    obtain ⟨z0, z1, z2, z3⟩ := ho
    exact bodyPost_ret (v := .agg #[.slice none 0 0, .int .i64 0, .int .i64 0, .slice none 0 0]) (by simp [results, Tryz.results7, go_sem, z0, z1, z2, z3]) rfl ⟨_, _, ret4 rfl HZ.out.2.2.1.symm HZ.out.2.2.2.symm rfl, by rw [HZ.out.1]; exact Owd.nil _ _ _, by rw [HZ.out.2.1]; exact Owd.nil _ _ _, (show Apart (.slice none 0 0) (.slice none 0 0) from .inl rfl), (((L2.setCell (by omega) _).setCell (by omega) _).setCell (by omega) _).setCell (by omega) _⟩
  · have g := HG.out hvt
    have hs := HS.out hvt
    have hnb := HNB.out hvt
    have HZ : Hid (rgL (vp xs p) (runI xs p) = (runI xs p).2.1 ∧ rgH (vp xs p) (runI xs p) = resH (runI xs p).2.2 (runI xs p).1 ∧ rgE (vp xs p) (runI xs p) = resE (runI xs p).1 ∧ rgV (vp xs p) (runI xs p) = resV (runI xs p).2.2 (runI xs p).1) := by show _ ∧ _ ∧ _ ∧ _; rw [hvt]; exact ⟨rfl, rfl, rfl, rfl⟩
    clear hvt
    go_wp2_with fail
    refine (run_any B A m c p.length cap xs p g hs hnb w2 T2 S2).mono ?_
    rintro e w5 ⟨lv5, hv5, rfl, D4, D5, P5, hl5⟩
    clear HS HNB HG
    replace r0 := (hl5.cell hzW2).trans r0
    replace r1 := (hl5.cell hzW2).trans r1
    replace r2 := (hl5.cell hzW2).trans r2
    replace r3 := (hl5.cell hzW2).trans r3
    have f0 := (hl5.frozen hzW2).trans (fr 0)
    have f1 := (hl5.frozen hzW2).trans (fr 1)
    have f2 := (hl5.frozen hzW2).trans (fr 2)
    have f3 := (hl5.frozen hzW2).trans (fr 3)
    have L5 := L2.trans hl5
    have hnl : lv5.ownBlock ≠ some (w.heap.size + 1) := fun e => by have := (D4.row.lt _ e).1; omega
    have hnh : hv5.ownBlock ≠ some (w.heap.size + 1) := fun e => by have := (D5.row.lt _ e).1; omega
    have D6 := D4.mono L2
    have D7 := D5.mono L2
    obtain ⟨A7, c7, rfl⟩ := own_form D6.row
    obtain ⟨A8, c8, rfl⟩ := own_form D7.row
    generalize resE (runI xs p).1 = re at *
    generalize resV (runI xs p).2.2 (runI xs p).1 = rv at *
    generalize resH (runI xs p).2.2 (runI xs p).1 = rh at *
    generalize (runI xs p).2.1 = rl at *
    have HF : Hid (∀ a b c d, Owd 3 w ((((w5.setCell ⟨w.heap.size + 1, 0, none⟩ a).setCell ⟨w.heap.size + 1, 1, none⟩ b).setCell ⟨w.heap.size + 1, 2, none⟩ c).setCell ⟨w.heap.size + 1, 3, none⟩ d) (.slice A7 rl.length c7) rl ∧ Owd 103 w ((((w5.setCell ⟨w.heap.size + 1, 0, none⟩ a).setCell ⟨w.heap.size + 1, 1, none⟩ b).setCell ⟨w.heap.size + 1, 2, none⟩ c).setCell ⟨w.heap.size + 1, 3, none⟩ d) (.slice A8 rh.length c8) rh) := fun a b c d => ⟨(((D6.setO hnl).setO hnl).setO hnl).setO hnl, (((D7.setO hnh).setO hnh).setO hnh).setO hnh⟩
    have ho := out4 (a := .slice A7 rl.length c7) (b := .int .i64 re) (c := .int .i64 rv) (d := .slice A8 rh.length c8) r0 r1 r2 r3
    clear hl5 D4 D5 D6 D7
    go_wp2
    obtain ⟨z0, z1, z2, z3⟩ := ho
    exact bodyPost_ret (v := .agg #[.slice A7 rl.length c7, .int .i64 re, .int .i64 rv, .slice A8 rh.length c8]) (by simp [results, Tryz.results7, go_sem, z0, z1, z2, z3]) rfl ⟨_, _, ret4 rfl HZ.out.2.2.1.symm HZ.out.2.2.2.symm rfl, by rw [HZ.out.1]; exact (HF.out _ _ _ _).1, by rw [HZ.out.2.1]; exact (HF.out _ _ _ _).2, P5, (((L5.setCell (by omega) _).setCell (by omega) _).setCell (by omega) _).setCell (by omega) _⟩
end

section
def rpL (xs : List Cls) (p : List Lin) : List Int := rgL (vp xs p) (runI xs p)
def rpH (xs : List Cls) (p : List Lin) : List Flt := rgH (vp xs p) (runI xs p)
def rpE (xs : List Cls) (p : List Lin) : Int := rgE (vp xs p) (runI xs p)
def rpV (xs : List Cls) (p : List Lin) : Int := rgV (vp xs p) (runI xs p)
theorem rpL_len (xs : List Cls) (p : List Lin) : (rpL xs p).length ≤ 1048576 := by
  unfold rpL rgL
  cases h : vp xs p
  · exact Nat.zero_le _
  · have := (run_sm (goodP_of h)).1
    show (runI xs p).2.1.length ≤ _
    omega
theorem sRp_any (B A : Option Addr) (m c n cap : Nat) (xs : List Cls) (p : List Lin) (hsm : p.length ≤ 1048576) (w : World) (hT : Sl w B m c xs) (hR : Sl w A n cap p) :
    Calls Tryz.prog 7 #[.agg #[.slice B m c], .slice A n cap] w (ResOut w (rpL xs p) (rpH xs p) (rpE xs p) (rpV xs p)) :=
  sRunProgram_any B A m c n cap xs p hsm (fun h => run_jl (goodP_of h)) (fun h => run_sm (goodP_of h)) w hT hR
theorem iRp_any (B A : Option Addr) (m c n cap : Nat) (xs : List Cls) (p : List Lin) (hm : m ≤ 1048576) (w : World) (hT : Sl w B m c xs) (hR : Sl w A n cap p) :
    Calls Tryz.prog 10 #[.agg #[.slice B m c], .slice A n cap] w (ResOut w (rpL xs p) (rpH xs p) (rpE xs p) (rpV xs p)) :=
  iRunProgram_any B A m c n cap xs p hm (fun h => run_sm (goodP_of h)) w hT hR
theorem fld0 (a b c d : Value) (w : World) : (Instr.field 33 (.agg #[a, b, c, d]) 0).run Tryz.prog w = .ok a w := by kernel_rfl
set_option maxHeartbeats 1000000 in
set_option maxRecDepth 100000 in
theorem iRunLog_any (B A : Option Addr) (m c n cap : Nat) (xs : List Cls) (p : List Lin) (hm : m ≤ 1048576) (w : World) (hT : Sl w B m c xs) (hR : Sl w A n cap p) :
    Calls Tryz.prog 19 #[.agg #[.slice B m c], .slice A n cap] w fun e w' => ∃ v, e = .returned v ∧ Owd 3 w w' v (rpL xs p) ∧ Le w w' := by
  have L1 := Le.new w (.cells #[.slice B m c] 37)
  go_enter Tryz.func19, Tryz.ntmps19
  go_wp2_with fail
  refine (iRp_any B A m c n cap xs p hm _ (hT.le L1) (hR.le L1)).mono ?_
  rintro e w2 ⟨lv, hv, rfl, D, -, -, hle⟩
  have HD := Lib.hid (And.intro (D.mono L1) (L1.trans hle))
  have q0 := fld0
  clear D hle
  go_wp2
  go_ret
  exact ⟨_, rfl, HD.out.1, HD.out.2⟩
set_option maxHeartbeats 1000000 in
set_option maxRecDepth 100000 in
theorem sRunLog_any (B A : Option Addr) (m c n cap : Nat) (xs : List Cls) (p : List Lin) (hsm : p.length ≤ 1048576) (w : World) (hT : Sl w B m c xs) (hR : Sl w A n cap p) :
    Calls Tryz.prog 18 #[.agg #[.slice B m c], .slice A n cap] w fun e w' => ∃ v, e = .returned v ∧ Owd 3 w w' v (rpL xs p) ∧ Le w w' := by
  have L1 := Le.new w (.cells #[.slice B m c] 37)
  have t0 : (w.alloc (.cells #[.slice B m c] 37)).cell? ⟨w.heap.size, 0, none⟩ = some (.slice B m c) := by rw [World.cell?_alloc_at _ _ _ _ rfl]; rfl
  have zt : w.heap.size < (w.alloc (.cells #[.slice B m c] 37)).heap.size := by simp
  have T1 := hT.le L1
  have R1 := hR.le L1
  go_enter Tryz.func18, Tryz.ntmps18
  go_wp2_with fail
  generalize w.alloc (.cells #[.slice B m c] 37) = W at *
  refine (svalidProgram_any B A m c n cap xs p hsm W T1 R1).mono ?_
  rintro e w2 ⟨rfl, hle⟩
  replace t0 := (hle.cell zt).trans t0
  have L2 := L1.trans hle
  replace T1 := T1.le hle
  replace R1 := R1.le hle
  clear hle zt L1 hT hR
  cases hvt : vp xs p
  · have HX : Hid (rpL xs p = []) := by show _ = _; unfold rpL; rw [hvt]; rfl
    clear hvt
    go_wp2
    go_ret
    exact ⟨_, rfl, by rw [HX.out]; exact Owd.nil _ _ _, L2⟩
  · have g := goodP_of hvt
    have HX : Hid (rpL xs p = (runI xs p).2.1) := by show _ = _; unfold rpL; rw [hvt]; rfl
    clear hvt
    go_wp2_with fail
    refine (run_any B A m c n cap xs p g (run_sm g) (run_jl g) w2 T1 R1).mono ?_
    rintro e w5 ⟨lv5, hv5, rfl, D4, -, -, hl5⟩
    have HD := Lib.hid (And.intro (D4.mono L2) (L2.trans hl5))
    have q0 := fld0
    clear D4 hl5 t0
    go_wp2
    go_ret
    exact ⟨_, rfl, by rw [HX.out]; exact HD.out.1, HD.out.2⟩
end

section
theorem infoInt : (Tryz.prog.info? 3).map (fun i => (i.zero, i.size, i.bytes)) = some (some (.int .i64 0), 1, 8) := by kernel_rfl
theorem eqIntS_self (A B : Option Addr) (n c d : Nat) (xs : List Int) (w : World) (hR : Sl w A n c xs) (hS : Sl w B n d xs) :
    Calls Tryz.prog 20 #[.slice A n c, .slice B n d] w fun e w' => e = .returned (.bool true) ∧ Le w w' := by
  obtain rfl := hR.len
  have hm := hR.n_le
  have hb : ((xs.length : Int) != (xs.length : Int)) = false := by simp
  go_enter Tryz.func20, Tryz.ntmps20
  go_wp2
  go_loopw [5] (fun i wr => ∃ k : Nat, k ≤ xs.length ∧ i = .int .i64 k ∧ Le w wr) (fun i _ => xs.length - (intOf i).toNat)
  case atStart => exact ⟨0, Nat.zero_le _, rfl, Le.refl _⟩
  case round =>
    obtain ⟨k, hk, rfl, hle⟩ := hrel
    have hRr := hR.le hle
    have hSr := hS.le hle
    clear hR hS
    by_cases hlt : k < xs.length
    · obtain ⟨b, off, rfl, hb, hcell, _, _⟩ := hRr.int_at hlt
      obtain ⟨b2, off2, rfl, hb2, hcell3, _, _⟩ := hSr.int_at hlt
      have E1 := cell_ext hb hcell
      have E2 := cell_ext hb2 hcell3
      have he2 : (xs[k] != xs[k]) = false := by simp
      go_wp2_with fail
      refine wp_region_ext (by kernel_rfl) (by kernel_rfl) ?_
      repeat (go_big_quiet_step (fail))
      refine wpQuiet_nil ?_
      intro _ hw'
      obtain ⟨g, rfl⟩ := hw'
      have hw1 := Le.ext wr g
      generalize wr.ext g = W2 at *
      go_wp2
      go_roundw
      case rel => exact ⟨k + 1, by omega, by go_num, hle.trans hw1⟩
      case measure => simp [intOf]; omega
    · go_wp2
      go_ret
      exact ⟨rfl, hle⟩

def mInt (q : Int) (i : Nat) : Int := q + i
theorem mInt_at (q : Int) (n : Nat) : ∀ i (h : i < ((List.range n).map (mInt q)).length), ((List.range n).map (mInt q))[i] = q + i := by intro i h; simp [mInt]
theorem mInt_ok {q : Int} (h0 : 1 ≤ q) (h1 : q ≤ 1000000000) {n : Nat} (hn : n ≤ 1048576) : ∀ x ∈ (List.range n).map (mInt q), Enc.ok x := by
  intro x hx
  simp at hx
  obtain ⟨i, hi, rfl⟩ := hx
  exact ⟨by show _ ≤ _; simp only [mInt]; omega, by show _ ≤ _; simp only [mInt]; omega⟩
theorem heldIntS_any (A : Option Addr) (n c : Nat) (q : Int) (w : World) (hR : Sl w A n c ((List.range n).map (mInt q))) (h0 : 1 ≤ q) (h1 : q ≤ 1000000000) (hn : n ≤ 1048576) :
    Calls Tryz.prog 22 #[.slice A n c, .int .i64 q] w fun e w' => e = .returned (.int .i64 (q + n)) ∧ Le w w' := by
  have hl : ((List.range n).map (mInt q)).length = n := by simp
  have HL := Lib.hid hl; clear hl
  go_enter Tryz.func22, Tryz.ntmps22
  go_wp2
  go_loopw [1, 5] (fun z i wr => ∃ k : Nat, k ≤ n ∧ i = .int .i64 k ∧ z = .int .i64 (q + k) ∧ Le w wr) (fun _ i _ => n - (intOf i).toNat)
  case atStart => exact ⟨0, Nat.zero_le _, rfl, by simp, Le.refl _⟩
  case round =>
    obtain ⟨k, hk, rfl, rfl, hle⟩ := hrel
    have hRr := hR.le hle
    clear hR
    by_cases hlt : k < n
    · obtain ⟨b, off, rfl, hb, hcell, _, _⟩ := hRr.int_at (k := k) (by rw [HL.out]; exact hlt)
      rw [mInt_at] at hcell
      have hq : (q + (k : Int) != q + (k : Int)) = false := by simp
      go_wp2
      go_roundw
      case rel => exact ⟨k + 1, by omega, by go_num, by go_num, hle⟩
      case measure => simp [intOf]; omega
    · have he : k = n := by omega
      subst he
      go_wp2
      go_ret
      exact ⟨rfl, hle⟩

theorem markIntS_row (g n c : Nat) (xs : List Value) (q : Int) (w : World) (base : Nat) (hR : w.ownsRow base 3 1 (.slice (some ⟨g, 0, none⟩) n c) n xs) (h0 : 1 ≤ q) (h1 : q ≤ 1000000000) (hn : n ≤ 1048576) :
    Calls Tryz.prog 21 #[.slice (some ⟨g, 0, none⟩) n c, .int .i64 q] w fun e w' => e = .returned (.int .i64 (q + n)) ∧ w'.ownsRow base 3 1 (.slice (some ⟨g, 0, none⟩) n c) n (((List.range n).map (mInt q)).flatMap Enc.cells) ∧ w.grownBy w' (some g) := by
  go_enter Tryz.func21, Tryz.ntmps21
  go_wp2
  have hin := hR.1
  go_loopw [1, 5] (fun z i wr => ∃ k : Nat, ∃ r : List Value, k ≤ n ∧ i = .int .i64 k ∧ z = .int .i64 (q + k) ∧ r.length = n - k ∧ wr.ownsRow base 3 1 (.slice (some ⟨g, 0, none⟩) n c) n (((List.range k).map (mInt q)).flatMap Enc.cells ++ r) ∧ w.grownBy wr (some g)) (fun _ i _ => n - (intOf i).toNat)
  case atStart => exact ⟨0, xs, Nat.zero_le _, rfl, by simp, by omega, by simpa using hR, World.grownBy.refl w _⟩
  case round =>
    obtain ⟨k, r, hk, rfl, rfl, hr, hown, hgr⟩ := hrel
    clear hR hin
    by_cases hlt : k < n
    · match r, hr with
      | [], h => simp at h; omega
      | r0 :: rr, hr =>
      have hfl : ((((List.range k).map (mInt q)).flatMap (Enc.cells (α := Int)))).length = k := by rw [flat_len, List.length_map, List.length_range]; show k * 1 = k; omega
      have hc0 : wr.cell? ⟨g, k, none⟩ = some r0 := by rw [hown.cellAt _ (by omega), List.getElem?_append_right (by omega), hfl]; simp
      have hf0 := hown.frozenAt k
      have HFL := Lib.hid hfl; clear hfl
      go_wp2
      go_roundw
      case rel =>
        refine ⟨k + 1, rr, by omega, by go_num, by go_num, by simp at hr; omega, ?_, gx_set hgr _⟩
        have h1 := (hown.stored k (.int .i64 (q + k))).1
        have e : ((List.range (k + 1)).map (mInt q)).flatMap Enc.cells ++ rr = (((List.range k).map (mInt q)).flatMap Enc.cells ++ r0 :: rr).set k (.int .i64 (q + k)) := by
          rw [List.set_append_right _ _ (by have := HFL.out; omega), HFL.out, List.range_succ, List.map_append, List.flatMap_append]
          simp [Enc.cells, mInt]
        rw [e]; exact h1
      case measure => simp [intOf]; omega
    · have he : k = n := by omega
      have hr0 : r = [] := List.eq_nil_of_length_eq_zero (by omega)
      subst he
      have HO : Hid (wr.ownsRow base 3 1 (.slice (some ⟨g, 0, none⟩) k c) k (((List.range k).map (mInt q)).flatMap Enc.cells)) := by
        show World.ownsRow _ _ _ _ _ _ _
        rw [hr0] at hown; simpa using hown
      clear hown hr0
      go_wp2
      go_ret
      exact ⟨rfl, HO.out, hgr⟩
theorem markIntS_any (A : Option Addr) (n c : Nat) (xs : List Value) (q : Int) (w : World) (base : Nat) (hR : w.ownsRow base 3 1 (.slice A n c) n xs) (h0 : 1 ≤ q) (h1 : q ≤ 1000000000) (hn : n ≤ 1048576) :
    Calls Tryz.prog 21 #[.slice A n c, .int .i64 q] w fun e w' => e = .returned (.int .i64 (q + n)) ∧ w'.ownsRow base 3 1 (.slice A n c) n (((List.range n).map (mInt q)).flatMap Enc.cells) ∧ w.grownBy w' (Value.slice A n c).ownBlock := by
  rcases hR.2 with ⟨h, h0'⟩ | ⟨g, c', _, h, _⟩
  · simp only [Value.slice.injEq] at h
    obtain ⟨rfl, rfl, rfl⟩ := h
    go_enter Tryz.func21, Tryz.ntmps21
    go_wp2
    refine wp_loop_rounds 1 ?_
    rw [rounds_succ]
    go_wp2
    go_ret
    exact ⟨by simp, World.ownsRow_nil w base 3 1, World.grownBy.refl w _⟩
  · simp only [Value.slice.injEq, true_and] at h
    obtain ⟨rfl, rfl⟩ := h
    exact markIntS_row g n c xs q w base hR h0 h1 hn
end

section
theorem infoFault : (Tryz.prog.info? 103).map (fun i => (i.zero, i.size, i.bytes)) = some (some (.agg #[.int .i64 0, .int .i64 0, .int .i64 0, .int .i64 0, .bool false]), 5, 40) := by kernel_rfl
theorem eqFault_self (x : Flt) (w : World) : Calls Tryz.prog 86 #[.agg #[.int .i64 x.cls, .int .i64 x.code, .int .i64 x.cause, .int .i64 x.ctx, .bool x.hide], .agg #[.int .i64 x.cls, .int .i64 x.code, .int .i64 x.cause, .int .i64 x.ctx, .bool x.hide]] w fun e w' => e = .returned (.bool true) ∧ Le w w' := by
  go_enter Tryz.func86, Tryz.ntmps86
  go_wp2
  go_ret
  exact ⟨rfl, (Le.new w _).alloc _⟩

theorem eqFaultS_self (A B : Option Addr) (n c d : Nat) (xs : List Flt) (w : World) (hR : Sl w A n c xs) (hS : Sl w B n d xs) :
    Calls Tryz.prog 51 #[.slice A n c, .slice B n d] w fun e w' => e = .returned (.bool true) ∧ Le w w' := by
  obtain rfl := hR.len
  have hm := hR.n_le
  have hb : ((xs.length : Int) != (xs.length : Int)) = false := by simp
  go_enter Tryz.func51, Tryz.ntmps51
  go_wp2
  go_loopw [5] (fun i wr => ∃ k : Nat, k ≤ xs.length ∧ i = .int .i64 k ∧ Le w wr) (fun i _ => xs.length - (intOf i).toNat)
  case atStart => exact ⟨0, Nat.zero_le _, rfl, Le.refl _⟩
  case round =>
    obtain ⟨k, hk, rfl, hle⟩ := hrel
    have hRr := hR.le hle
    have hSr := hS.le hle
    clear hR hS
    by_cases hlt : k < xs.length
    · obtain ⟨b, off, rfl, hb, hcell0, hcell1, hcell2, hcell3, hcell4, _⟩ := hRr.flt_at hlt
      obtain ⟨b2, off2, rfl, hb2, hdell0, hdell1, hdell2, hdell3, hdell4, _⟩ := hSr.flt_at hlt
      have E0 := cell_ext hb hcell0
      have E1 := cell_ext hb hcell1
      have E2 := cell_ext hb hcell2
      have E3 := cell_ext hb hcell3
      have E4 := cell_ext hb hcell4
      have F0 := cell_ext hb2 hdell0
      have F1 := cell_ext hb2 hdell1
      have F2 := cell_ext hb2 hdell2
      have F3 := cell_ext hb2 hdell3
      have F4 := cell_ext hb2 hdell4
      go_wp2_with fail
      refine wp_region_ext (by kernel_rfl) (by kernel_rfl) ?_
      repeat (go_big_quiet_step (first | (go_at_call 86; exact Calls.ext_of (eqFault_self xs[k] _))))
      refine wpQuiet_nil ?_
      intro _ hw'
      obtain ⟨g, rfl⟩ := hw'
      have hw1 := Le.ext wr g
      generalize wr.ext g = W2 at *
      go_wp2
      go_roundw
      case rel => exact ⟨k + 1, by omega, by go_num, hle.trans hw1⟩
      case measure => simp [intOf]; omega
    · go_wp2
      go_ret
      exact ⟨rfl, hle⟩

def mFlt (k : Int) (i : Nat) : Flt := ⟨k + 5 * i, k + 5 * i + 1, k + 5 * i + 1 + 1, k + 5 * i + 1 + 1 + 1, ((k + 5 * i + 1 + 1 + 1 + 1) % 3 == 0)⟩

set_option maxHeartbeats 1000000 in
set_option maxRecDepth 100000 in
theorem markFaultS_row (g n c : Nat) (xs : List Value) (q : Int) (w : World) (base : Nat) (hR : w.ownsRow base 103 5 (.slice (some ⟨g, 0, none⟩) n c) n xs) (h0 : 1 ≤ q) (h1 : q ≤ 1000000000) (hn : n ≤ 1048576) :
    Calls Tryz.prog 54 #[.slice (some ⟨g, 0, none⟩) n c, .int .i64 q] w fun e w' => e = .returned (.int .i64 (q + 5 * n)) ∧ w'.ownsRow base 103 5 (.slice (some ⟨g, 0, none⟩) n c) n (((List.range n).map (mFlt q)).flatMap Enc.cells) ∧ w.grownBy w' (some g) := by
  go_enter Tryz.func54, Tryz.ntmps54
  go_wp2
  have hin := hR.1
  go_loopw [1, 5] (fun z i wr => ∃ k : Nat, ∃ r : List Value, k ≤ n ∧ i = .int .i64 k ∧ z = .int .i64 (q + 5 * k) ∧ r.length = (n - k) * 5 ∧ wr.ownsRow base 103 5 (.slice (some ⟨g, 0, none⟩) n c) n (((List.range k).map (mFlt q)).flatMap Enc.cells ++ r) ∧ w.grownBy wr (some g)) (fun _ i _ => n - (intOf i).toNat)
  case atStart => exact ⟨0, xs, Nat.zero_le _, rfl, by simp, by omega, by simpa using hR, World.grownBy.refl w _⟩
  case round =>
    obtain ⟨k, r, hk, rfl, rfl, hr, hown, hgr⟩ := hrel
    clear hR hin
    by_cases hlt : k < n
    · match r, hr with
      | [], h => simp at h; omega
      | [_], h => simp at h; omega
      | [_, _], h => simp at h; omega
      | [_, _, _], h => simp at h; omega
      | [_, _, _, _], h => simp at h; omega
      | r0 :: r1 :: r2 :: r3 :: r4 :: rr, hr =>
      have hfl : ((((List.range k).map (mFlt q)).flatMap (Enc.cells (α := Flt)))).length = k * 5 := by rw [flat_len, List.length_map, List.length_range]; rfl
      have hc0 : wr.cell? ⟨g, k * 5, none⟩ = some r0 := by rw [hown.cellAt _ (by omega), List.getElem?_append_right (by omega), hfl]; simp
      have hc1 : wr.cell? ⟨g, k * 5 + 1, none⟩ = some r1 := by rw [hown.cellAt _ (by omega), List.getElem?_append_right (by omega), hfl]; simp
      have hc2 : wr.cell? ⟨g, k * 5 + 2, none⟩ = some r2 := by rw [hown.cellAt _ (by omega), List.getElem?_append_right (by omega), hfl]; simp
      have hc3 : wr.cell? ⟨g, k * 5 + 3, none⟩ = some r3 := by rw [hown.cellAt _ (by omega), List.getElem?_append_right (by omega), hfl]; simp
      have hc4 : wr.cell? ⟨g, k * 5 + 4, none⟩ = some r4 := by rw [hown.cellAt _ (by omega), List.getElem?_append_right (by omega), hfl]; simp
      have hf0 := hown.frozenAt (k * 5)
      have hf1 := hown.frozenAt (k * 5 + 1)
      have hf2 := hown.frozenAt (k * 5 + 2)
      have hf3 := hown.frozenAt (k * 5 + 3)
      have hf4 := hown.frozenAt (k * 5 + 4)
      have HFL := Lib.hid hfl; clear hfl
      go_wp2
      go_roundw
      case rel =>
        refine ⟨k + 1, rr, by omega, by go_num, by congr 1; omega, by simp at hr; omega, ?_, ?_⟩
        · have h1 := (((((hown.stored (k * 5) (.int .i64 (q + 5 * k))).1.stored (k * 5 + 1) (.int .i64 (q + 5 * k + 1))).1.stored (k * 5 + 2) (.int .i64 (q + 5 * k + 1 + 1))).1.stored (k * 5 + 3) (.int .i64 (q + 5 * k + 1 + 1 + 1))).1.stored (k * 5 + 4) (.bool ((q + 5 * k + 1 + 1 + 1 + 1) % 3 == 0))).1
          have e : ((List.range (k + 1)).map (mFlt q)).flatMap Enc.cells ++ rr = ((((((((List.range k).map (mFlt q)).flatMap Enc.cells ++ r0 :: r1 :: r2 :: r3 :: r4 :: rr).set (k * 5) (.int .i64 (q + 5 * k))).set (k * 5 + 1) (.int .i64 (q + 5 * k + 1))).set (k * 5 + 2) (.int .i64 (q + 5 * k + 1 + 1))).set (k * 5 + 3) (.int .i64 (q + 5 * k + 1 + 1 + 1))).set (k * 5 + 4) (.bool ((q + 5 * k + 1 + 1 + 1 + 1) % 3 == 0))) := by
            rw [List.set_append_right _ _ (by have := HFL.out; omega), List.set_append_right _ _ (by have := HFL.out; omega), List.set_append_right _ _ (by have := HFL.out; omega), List.set_append_right _ _ (by have := HFL.out; omega), List.set_append_right _ _ (by have := HFL.out; omega), HFL.out, List.range_succ, List.map_append, List.flatMap_append]
            simp [Enc.cells, mFlt]
          rw [e]; exact h1
        · exact (gx_set (gx_set (gx_set (gx_set (gx_set hgr _) _) _) _) _)
      case measure => simp [intOf]; omega
    · have he : k = n := by omega
      have hr0 : r = [] := List.eq_nil_of_length_eq_zero (by rw [hr, he]; simp)
      subst he
      have HO : Hid (wr.ownsRow base 103 5 (.slice (some ⟨g, 0, none⟩) k c) k (((List.range k).map (mFlt q)).flatMap Enc.cells)) := by
        show World.ownsRow _ _ _ _ _ _ _
        rw [hr0] at hown; simpa using hown
      clear hown hr0 hr
      go_wp2
      go_ret
      exact ⟨rfl, HO.out, hgr⟩

theorem markFaultS_any (A : Option Addr) (n c : Nat) (xs : List Value) (q : Int) (w : World) (base : Nat) (hR : w.ownsRow base 103 5 (.slice A n c) n xs) (h0 : 1 ≤ q) (h1 : q ≤ 1000000000) (hn : n ≤ 1048576) :
    Calls Tryz.prog 54 #[.slice A n c, .int .i64 q] w fun e w' => e = .returned (.int .i64 (q + 5 * n)) ∧ w'.ownsRow base 103 5 (.slice A n c) n (((List.range n).map (mFlt q)).flatMap Enc.cells) ∧ w.grownBy w' (Value.slice A n c).ownBlock := by
  rcases hR.2 with ⟨h, h0'⟩ | ⟨g, c', _, h, _⟩
  · simp only [Value.slice.injEq] at h
    obtain ⟨rfl, rfl, rfl⟩ := h
    go_enter Tryz.func54, Tryz.ntmps54
    go_wp2
    refine wp_loop_rounds 1 ?_
    rw [rounds_succ]
    go_wp2
    go_ret
    exact ⟨by simp, World.ownsRow_nil w base 103 5, World.grownBy.refl w _⟩
  · simp only [Value.slice.injEq, true_and] at h
    obtain ⟨rfl, rfl⟩ := h
    exact markFaultS_row g n c xs q w base hR h0 h1 hn

theorem mFlt_ok {q : Int} (h0 : 1 ≤ q) (h1 : q ≤ 1000000000) {n : Nat} (hn : n ≤ 1048576) : ∀ x ∈ (List.range n).map (mFlt q), Enc.ok x := by
  intro x hx
  simp at hx
  obtain ⟨i, hi, rfl⟩ := hx
  exact ⟨by show _ ≤ _; simp only [mFlt]; omega, by show _ ≤ _; simp only [mFlt]; omega, by show _ ≤ _; simp only [mFlt]; omega, by show _ ≤ _; simp only [mFlt]; omega, by show _ ≤ _; simp only [mFlt]; omega, by show _ ≤ _; simp only [mFlt]; omega, by show _ ≤ _; simp only [mFlt]; omega, by show _ ≤ _; simp only [mFlt]; omega⟩

theorem heldFaultS_any (A : Option Addr) (n c : Nat) (q : Int) (w : World) (hR : Sl w A n c ((List.range n).map (mFlt q))) (h0 : 1 ≤ q) (h1 : q ≤ 1000000000) (hn : n ≤ 1048576) :
    Calls Tryz.prog 55 #[.slice A n c, .int .i64 q] w fun e w' => e = .returned (.int .i64 (q + 5 * n)) ∧ Le w w' := by
  have hl : ((List.range n).map (mFlt q)).length = n := by simp
  have HL := Lib.hid hl; clear hl
  go_enter Tryz.func55, Tryz.ntmps55
  go_wp2
  go_loopw [1, 5] (fun z i wr => ∃ k : Nat, k ≤ n ∧ i = .int .i64 k ∧ z = .int .i64 (q + 5 * k) ∧ Le w wr) (fun _ i _ => n - (intOf i).toNat)
  case atStart => exact ⟨0, Nat.zero_le _, rfl, by simp, Le.refl _⟩
  case round =>
    obtain ⟨k, hk, rfl, rfl, hle⟩ := hrel
    have hRr := hR.le hle
    clear hR
    by_cases hlt : k < n
    · obtain ⟨b, off, rfl, hb, hcell0, hcell1, hcell2, hcell3, hcell4, _⟩ := hRr.flt_at (k := k) (by rw [HL.out]; exact hlt)
      have hx : ((List.range n).map (mFlt q))[k]'(by rw [HL.out]; exact hlt) = mFlt q k := by simp
      rw [hx] at hcell0 hcell1 hcell2 hcell3 hcell4
      simp only [mFlt] at hcell0 hcell1 hcell2 hcell3 hcell4
      clear hx
      go_wp2
      go_roundw
      case rel => exact ⟨k + 1, by omega, by go_num, by congr 1; omega, hle⟩
      case measure => simp [intOf]; omega
    · have he : k = n := by omega
      subst he
      go_wp2
      go_ret
      exact ⟨rfl, hle⟩

theorem eqHeap_self (A B : Option Addr) (n c d : Nat) (xs : List Flt) (w : World) (hR : Sl w A n c xs) (hS : Sl w B n d xs) :
    Calls Tryz.prog 31 #[.agg #[.slice A n c], .agg #[.slice B n d]] w fun e w' => e = .returned (.bool true) ∧ Le w w' := by
  go_enter Tryz.func31, Tryz.ntmps31
  go_wp2_with fail
  refine (eqFaultS_self A B n c d xs _ ((hR.alloc _).alloc _) ((hS.alloc _).alloc _)).mono ?_
  rintro e w' ⟨rfl, hw1⟩
  go_wp2
  go_ret
  exact ⟨rfl, ((Le.new w _).alloc _).trans hw1⟩

theorem markHeap_any (A : Option Addr) (n c : Nat) (xs : List Value) (q : Int) (w : World) (base : Nat) (hR : w.ownsRow base 103 5 (.slice A n c) n xs) (h0 : 1 ≤ q) (h1 : q ≤ 1000000000) (hn : n ≤ 1048576) :
    Calls Tryz.prog 35 #[.agg #[.slice A n c], .int .i64 q] w fun e w' => e = .returned (.int .i64 (q + 5 * n)) ∧ w'.ownsRow base 103 5 (.slice A n c) n (((List.range n).map (mFlt q)).flatMap Enc.cells) ∧ w.grownBy w' (Value.slice A n c).ownBlock := by
  go_enter Tryz.func35, Tryz.ntmps35
  go_wp2_with fail
  refine (markFaultS_any A n c xs q _ base (hR.alloc _) h0 h1 hn).mono ?_
  rintro e w2 ⟨rfl, hown, hg⟩
  have hgr := gx_from hg
  go_wp2
  go_ret
  exact ⟨rfl, hown, hgr⟩

theorem heldHeap_any (A : Option Addr) (n c : Nat) (q : Int) (w : World) (hR : Sl w A n c ((List.range n).map (mFlt q))) (h0 : 1 ≤ q) (h1 : q ≤ 1000000000) (hn : n ≤ 1048576) :
    Calls Tryz.prog 36 #[.agg #[.slice A n c], .int .i64 q] w fun e w' => e = .returned (.int .i64 (q + 5 * n)) ∧ Le w w' := by
  go_enter Tryz.func36, Tryz.ntmps36
  go_wp2_with fail
  refine (heldFaultS_any A n c q _ (hR.alloc _) h0 h1 hn).mono ?_
  rintro e w' ⟨rfl, hw1⟩
  have hneg : decide (q + 5 * (n : Int) < 0) = false := decide_eq_false (by omega)
  go_wp2
  go_ret
  exact ⟨rfl, (Le.new w _).trans hw1⟩
end

section
theorem rpH_len (xs : List Cls) (p : List Lin) : (rpH xs p).length ≤ 1048576 := by
  unfold rpH rgH
  cases h : vp xs p
  · exact Nat.zero_le _
  · have h2 := (run_sm (goodP_of h)).2
    show (resH (runI xs p).2.2 (runI xs p).1).length ≤ _
    rcases (runI xs p).1 with _ | v | f | _ | _
    case rai =>
      show (isoL (runI xs p).2.2 (reachL (runI xs p).2.2 f)).length ≤ _
      unfold isoL
      rw [List.length_map]
      have := ascOf_len (L := rch0 (runI xs p).2.2 f) (runI xs p).2.2.length
      show (ascOf (rch0 (runI xs p).2.2 f) (runI xs p).2.2.length).length ≤ _
      omega
    all_goals exact Nat.zero_le _
theorem boxR (w : World) (a b c d : Value) (T : TypeId) : (w.alloc (.cells #[a, b, c, d] T)).cell? ⟨w.heap.size, 0, none⟩ = some a ∧ (w.alloc (.cells #[a, b, c, d] T)).cell? ⟨w.heap.size, 1, none⟩ = some b ∧ (w.alloc (.cells #[a, b, c, d] T)).cell? ⟨w.heap.size, 2, none⟩ = some c ∧ (w.alloc (.cells #[a, b, c, d] T)).cell? ⟨w.heap.size, 3, none⟩ = some d ∧ w.heap.size < (w.alloc (.cells #[a, b, c, d] T)).heap.size ∧ Le w (w.alloc (.cells #[a, b, c, d] T)) := by
  obtain ⟨z0, z1, z2, z3⟩ := cells4 (hpn (w := w) (o := .cells #[a, b, c, d] T) rfl)
  exact ⟨z0, z1, z2, z3, by simp, Le.new w _⟩
set_option maxHeartbeats 1000000 in
set_option maxRecDepth 100000 in
theorem eqResult_self (A B E F : Option Addr) (n c d m e f : Nat) (xs : List Int) (hs : List Flt) (x y : Int) (w : World) (hA : Sl w A n c xs) (hB : Sl w B n d xs) (hE : Sl w E m e hs) (hF : Sl w F m f hs) :
    Calls Tryz.prog 11 #[.agg #[.slice A n c, .int .i64 x, .int .i64 y, .slice E m e], .agg #[.slice B n d, .int .i64 x, .int .i64 y, .slice F m f]] w fun e w' => e = .returned (.bool true) ∧ Le w w' := by
  have R1 := boxR w (.slice A n c) (.int .i64 x) (.int .i64 y) (.slice E m e) 33
  have R2 := boxR (w.alloc (.cells #[.slice A n c, .int .i64 x, .int .i64 y, .slice E m e] 33)) (.slice B n d) (.int .i64 x) (.int .i64 y) (.slice F m f) 33
  obtain ⟨a0, a1, a2, a3, za, L1⟩ := R1
  obtain ⟨b0, b1, b2, b3, zb, L2⟩ := R2
  have hz : (w.alloc (.cells #[.slice A n c, .int .i64 x, .int .i64 y, .slice E m e] 33)).heap.size = w.heap.size + 1 := by simp
  replace a0 := (L2.cell za).trans a0
  replace a1 := (L2.cell za).trans a1
  replace a2 := (L2.cell za).trans a2
  replace a3 := (L2.cell za).trans a3
  rw [hz] at b0 b1 b2 b3 zb
  have za2 := Nat.lt_of_lt_of_le za L2.size
  have LL := L1.trans L2
  go_enter Tryz.func11, Tryz.ntmps11
  go_wp2_with fail
  generalize (w.alloc (.cells #[.slice A n c, .int .i64 x, .int .i64 y, .slice E m e] 33)).alloc (.cells #[.slice B n d, .int .i64 x, .int .i64 y, .slice F m f] 33) = W at *
  refine (eqIntS_self A B n c d xs W (hA.le LL) (hB.le LL)).mono ?_
  rintro e2 w2 ⟨rfl, hle⟩
  replace a1 := (hle.cell za2).trans a1
  replace a2 := (hle.cell za2).trans a2
  replace a3 := (hle.cell za2).trans a3
  replace b1 := (hle.cell zb).trans b1
  replace b2 := (hle.cell zb).trans b2
  replace b3 := (hle.cell zb).trans b3
  have L3 := LL.trans hle
  clear L1 L2 LL hle a0 b0
  have hxb : (x != x) = false := by simp
  have hyb : (y != y) = false := by simp
  go_wp2_with fail
  refine (eqHeap_self E F m e f hs w2 (hE.le L3) (hF.le L3)).mono ?_
  rintro e3 w3 ⟨rfl, hle⟩
  go_wp2
  go_ret
  exact ⟨rfl, L3.trans hle⟩
set_option maxHeartbeats 1000000 in
set_option maxRecDepth 100000 in
theorem markResult_any (A B : Option Addr) (n c m d : Nat) (xs ys : List Value) (x y q : Int) (w : World) (b1 b2 : Nat) (hR : w.ownsRow b1 3 1 (.slice A n c) n xs) (hH : w.ownsRow b2 103 5 (.slice B m d) m ys) (hap : Apart (.slice A n c) (.slice B m d)) (h0 : 1 ≤ q) (h1 : q ≤ 1000000) (hn : n ≤ 1048576) (hm : m ≤ 1048576) :
    Calls Tryz.prog 16 #[.agg #[.slice A n c, .int .i64 x, .int .i64 y, .slice B m d], .int .i64 q] w fun e w' => e = .returned (.int .i64 (q + n + 5 * m)) ∧ w'.ownsRow b1 3 1 (.slice A n c) n (((List.range n).map (mInt q)).flatMap Enc.cells) ∧ w'.ownsRow b2 103 5 (.slice B m d) m (((List.range m).map (mFlt (q + n))).flatMap Enc.cells) ∧ ∃ w1, w.grownBy w1 (Value.slice A n c).ownBlock ∧ w1.grownBy w' (Value.slice B m d).ownBlock := by
  obtain ⟨a0, a1, a2, a3, za, L1⟩ := boxR w (.slice A n c) (.int .i64 x) (.int .i64 y) (.slice B m d) 33
  have hlt := hR.lt
  have hlt2 := hH.lt
  go_enter Tryz.func16, Tryz.ntmps16
  go_wp2_with fail
  refine (markIntS_any A n c xs q _ b1 (hR.alloc _) h0 (by omega) hn).mono ?_
  rintro e2 w2 ⟨rfl, O2, hg2⟩
  have c3 := hg2.cell (a := ⟨w.heap.size, 3, none⟩) a3 (fun e => by have := (hlt w.heap.size e.symm).2; omega)
  have H2 := (hH.alloc (.cells #[.slice A n c, .int .i64 x, .int .i64 y, .slice B m d] 33)).kept hg2 (by
    cases e : (Value.slice B m d).ownBlock with
    | none => exact .inl rfl
    | some k => exact .inr (fun e2 => by
        rcases hap with h | h
        · rw [h] at e2; cases e2
        · exact h (by rw [e, e2])))
  have g2 := gx_from hg2
  clear hg2 a0 a1 a2 a3 L1
  go_wp2_with fail
  refine (markHeap_any B m d ys (q + n) w2 b2 H2 (by omega) (by omega) hm).mono ?_
  rintro e3 w3 ⟨rfl, O3, hg3⟩
  have O4 := O2.kept hg3 (by
    cases e : (Value.slice A n c).ownBlock with
    | none => exact .inl rfl
    | some k => exact .inr (fun e2 => by
        rcases hap with h | h
        · rw [h] at e; cases e
        · exact h (by rw [e, e2])))
  go_wp2
  go_ret
  exact ⟨rfl, O4, O3, w2, g2, hg3⟩
set_option maxHeartbeats 1000000 in
set_option maxRecDepth 100000 in
theorem heldResult_any (A B : Option Addr) (n c m d : Nat) (x y q : Int) (w : World) (hR : Sl w A n c ((List.range n).map (mInt q))) (hH : Sl w B m d ((List.range m).map (mFlt (q + n)))) (h0 : 1 ≤ q) (h1 : q ≤ 1000000) (hn : n ≤ 1048576) (hm : m ≤ 1048576) :
    Calls Tryz.prog 17 #[.agg #[.slice A n c, .int .i64 x, .int .i64 y, .slice B m d], .int .i64 q] w fun e w' => e = .returned (.int .i64 (q + n + 5 * m)) ∧ Le w w' := by
  obtain ⟨a0, a1, a2, a3, za, L1⟩ := boxR w (.slice A n c) (.int .i64 x) (.int .i64 y) (.slice B m d) 33
  go_enter Tryz.func17, Tryz.ntmps17
  go_wp2_with fail
  generalize w.alloc (.cells #[.slice A n c, .int .i64 x, .int .i64 y, .slice B m d] 33) = W at *
  refine (heldIntS_any A n c q W (hR.le L1) h0 (by omega) hn).mono ?_
  rintro e2 w2 ⟨rfl, hle⟩
  replace a3 := (hle.cell za).trans a3
  have L2 := L1.trans hle
  have hneg : decide (q + (n : Int) < 0) = false := decide_eq_false (by omega)
  clear hle L1 a0 a1 a2
  go_wp2_with fail
  refine (heldHeap_any B m d (q + n) w2 (hH.le L2) (by omega) (by omega) hm).mono ?_
  rintro e3 w3 ⟨rfl, hle⟩
  have hneg2 : decide (q + (n : Int) + 5 * (m : Int) < 0) = false := decide_eq_false (by omega)
  go_wp2
  go_ret
  exact ⟨rfl, L2.trans hle⟩
end

section
open Go.ChangeShapes Go.WideShapes Go.ChangeAt Go.RowKit Go.Deep Go.Joins

theorem list_of {α : Type} (p : Nat → α → Prop) : ∀ n, (∀ i, i < n → ∃ x, p i x) → ∃ xs : List α, xs.length = n ∧ ∀ i x, xs[i]? = some x → p i x
  | 0, _ => ⟨[], rfl, fun i x h => by simp at h⟩
  | n + 1, h => by
    obtain ⟨xs, hl, hx⟩ := list_of p n (fun i hi => h i (by omega))
    obtain ⟨x, hp⟩ := h n (by omega)
    refine ⟨xs ++ [x], by simp [hl], fun i y hy => ?_⟩
    rw [List.getElem?_append] at hy
    split at hy
    · exact hx i y hy
    · rename_i hge
      have hi : i = n := by
        rcases Nat.lt_or_ge (i - xs.length) 1 with h1 | h1
        · omega
        · rw [List.getElem?_eq_none (by simpa using h1)] at hy; cases hy
      subst hi
      rw [hl, Nat.sub_self] at hy
      simp at hy; subst hy; exact hp
theorem add_pl (b o n : Nat) : (⟨b, o, none⟩ : Addr).add n = ⟨b, o + n, none⟩ := by
  unfold Addr.add; split
  · next h => subst h; rfl
  · rfl

section
variable {H : Type} {enc : TypeId × Value → H} {P : Program} {w : World} {base : Nat} {spare : Nat → Bool} {held : Bool}
theorem open_sl {α : Type} [Enc α] {t e : TypeId} {fuel : Nat} {cs : List Value} {x : DataW H × List MemPlace} (ht : P.underlying t = some (.slice e)) (hC : P.cellsOf e = Enc.size α) (hp : 0 < Enc.size α)
    (hel : ∀ n cs' y, DataW.trod enc P w base spare held n e cs' = some y → ∃ x : α, cs' = Enc.cells x ∧ Enc.ok x) (h : DataW.trod enc P w base spare held fuel t cs = some x) :
    ∃ (A : Option Addr) (n cap : Nat) (xs : List α), cs = [.slice A n cap] ∧ Sl w A n cap xs := by
  rcases open_slice ht h with ⟨h0, _⟩ | ⟨a, len, cap, m, n, D, Pl, hcs, hb, hl, hm, hmm, hx, hi⟩
  · exact ⟨none, 0, 0, [], h0, Sl.nil w none 0 (by omega)⟩
  · have hlm : len ≤ m := by rw [hmm]; split <;> omega
    obtain ⟨xs, hlen, hxs⟩ := list_of (fun i (x : α) => Enc.ok x ∧ ∀ j, j < Enc.size α → w.cell? ((a.add (i * Enc.size α)).add j) = (Enc.cells x)[j]?) len (fun i hil => by
      obtain ⟨cs', hc, ht'⟩ := hi i (by omega)
      obtain ⟨x, rfl, hok⟩ := hel _ _ _ ht'
      rw [hC] at hc
      obtain ⟨_, _, hat⟩ := World.cells?_some hc
      exact ⟨x, hok, hat⟩)
    refine ⟨some a, len, cap, xs, hcs, hlen, hl, by simpa [maxLen] using hm, fun x hx => ?_, fun hn => ?_⟩
    · obtain ⟨i, hi⟩ := List.getElem?_of_mem hx
      exact (hxs i x hi).1
    · obtain ⟨b, off, spot⟩ := a
      have h0 := (hxs 0 xs[0] (List.getElem?_eq_getElem (by omega))).2 0 hp
      rw [List.getElem?_eq_getElem (by rw [Enc.len]; exact hp)] at h0
      have hs : spot = none := by simpa [Addr.add] using World.cell?_spot h0
      subst hs
      have hlt : b < w.heap.size := by
        have := World.block_lt_of_cell? _ _ h0
        rw [Nat.zero_mul, add_pl, add_pl] at this; exact this
      refine ⟨b, off, rfl, hlt, fun j u hu => ?_⟩
      have hjl : j < xs.length * Enc.size α := by
        have := (List.getElem?_eq_some_iff.1 hu).1
        rwa [flat_len] at this
      have hk : j / Enc.size α < xs.length := by rw [Nat.div_lt_iff_lt_mul hp]; exact hjl
      have hr : j % Enc.size α < Enc.size α := Nat.mod_lt _ hp
      have hdiv : j / Enc.size α * Enc.size α + j % Enc.size α = j := by rw [Nat.mul_comm]; exact Nat.div_add_mod _ _
      have h1 := (hxs (j / Enc.size α) _ (List.getElem?_eq_getElem hk)).2 _ hr
      rw [add_pl, add_pl, Nat.add_assoc, hdiv] at h1
      rw [h1, ← flat_at xs _ hk _ hr, hdiv, hu]

theorem el_cls {e : TypeId} {f0 f1 : Field} (he : P.underlying e = some (.struct #[f0, f1])) (hone : oneCellFields P #[f0, f1] = true) (hC : P.cellsOf e = 2) (h0 : P.underlying f0.type = some .string) (h1 : P.underlying f1.type = some (.int .i64)) :
    ∀ n cs' y, DataW.trod enc P w base spare held n e cs' = some y → ∃ x : Cls, cs' = Enc.cells x ∧ Enc.ok x := by
  intro n cs' y hy
  obtain ⟨y0, y1, n', _, hl, t0, t1⟩ := trod_struct2 he hy
  obtain ⟨o0, k0⟩ := hone_of hone 0 f0 rfl
  obtain ⟨o1, k1⟩ := hone_of hone 1 f1 rfl
  rw [hC] at hl
  match cs', hl with
  | [c0, c1], _ =>
    rw [o0, k0] at t0
    rw [o1, k1] at t1
    obtain ⟨s, hs, _, hsz⟩ := DataW.trod_string h0 t0
    obtain ⟨z, hz, _, hwf⟩ := DataW.trod_int h1 t1
    simp at hs hz
    subst hs; subst hz
    refine ⟨⟨s, z⟩, rfl, by simpa [maxLen] using hsz, ?_⟩
    simpa [Lit.wf, IntKind.min, IntKind.max, IntKind.signed, IntKind.bits] using hwf

theorem open_agg1 {r : Reach} {b0 : Nat} {t : TypeId} {f0 : Field} {v : Value} {d : DataW H} {p : List MemPlace} (hs : P.underlying t = some (.struct #[f0])) (hone : oneCellFields P #[f0] = true) (hC : P.cellsOf t = 1)
    (hv : Value.okWide P w r b0 t v) (h : DataW.Trod enc P w base spare held t v d p) :
    ∃ (v0 : Value) (y0 : DataW H × List MemPlace) (n : Nat), v = .agg #[v0] ∧ DataW.trod enc P w base spare held n f0.type [v0] = some y0 := by
  obtain ⟨cs, rfl, hsz⟩ := okWide_struct hs hv
  obtain ⟨l⟩ := cs
  match l, hsz.trans hC with
  | [c0], _ =>
    obtain ⟨fuel, hf⟩ := h
    obtain ⟨xs, n, _, hx, _, hlen, hg⟩ := DataW.trod_struct hs hf
    obtain ⟨o0, k0⟩ := hone_of hone 0 f0 rfl
    match xs, hlen with
    | [y0], _ => exact ⟨c0, y0, n, rfl, by simpa [Value.cells, o0, k0] using hg 0 f0 rfl⟩
end
end

section
open Go.ChangeShapes Go.WideShapes Go.ChangeAt Go.RowKit Go.Deep Go.Joins
section
variable {H : Type} {enc : TypeId × Value → H} {P : Program} {w : World} {base : Nat} {spare : Nat → Bool} {held : Bool}
theorem elt_cls {e : TypeId} {f0 f1 : Field} (he : P.underlying e = some (.struct #[f0, f1])) (hone : oneCellFields P #[f0, f1] = true) (hC : P.cellsOf e = 2) (h0 : P.underlying f0.type = some (.string)) (h1 : P.underlying f1.type = some (.int .i64)) :
    ∀ n cs' y, DataW.trod enc P w base spare held n e cs' = some y → ∃ x : Cls, cs' = Enc.cells x ∧ Enc.ok x := by
  intro n cs' y hy
  obtain ⟨ys, n', _, _, hl, hyl, hf⟩ := DataW.trod_struct he hy
  obtain ⟨o0, k0⟩ := hone_of hone 0 f0 rfl
  obtain ⟨o1, k1⟩ := hone_of hone 1 f1 rfl
  rw [hC] at hl
  match cs', hl, ys, hyl with
  | [c0, c1], _, [y0, y1], _ =>
    have t0 : DataW.trod enc P w base spare held n' f0.type [c0] = some y0 := by simpa [o0, k0] using hf 0 f0 rfl
    have t1 : DataW.trod enc P w base spare held n' f1.type [c1] = some y1 := by simpa [o1, k1] using hf 1 f1 rfl
    obtain ⟨z0, hz0, _, hr0⟩ := DataW.trod_string h0 t0
    simp at hz0; subst hz0
    obtain ⟨z1, hz1, _, hw1⟩ := DataW.trod_int h1 t1
    have hr1 : -9223372036854775808 ≤ z1 ∧ z1 ≤ 9223372036854775807 := by simpa [Lit.wf, IntKind.min, IntKind.max, IntKind.signed, IntKind.bits] using hw1
    simp at hz1; subst hz1
    exact ⟨⟨z0, z1⟩, rfl, by simpa [maxLen] using hr0, hr1.1, hr1.2⟩
end
end

section
open Go.ChangeShapes Go.WideShapes Go.ChangeAt Go.RowKit Go.Deep Go.Joins
section
variable {H : Type} {enc : TypeId × Value → H} {P : Program} {w : World} {base : Nat} {spare : Nat → Bool} {held : Bool}
theorem elt_lin {e : TypeId} {f0 f1 f2 f3 : Field} (he : P.underlying e = some (.struct #[f0, f1, f2, f3])) (hone : oneCellFields P #[f0, f1, f2, f3] = true) (hC : P.cellsOf e = 4) (h0 : P.underlying f0.type = some (.int .i64)) (h1 : P.underlying f1.type = some (.int .i64)) (h2 : P.underlying f2.type = some (.int .i64)) (h3 : P.underlying f3.type = some (.int .i64)) :
    ∀ n cs' y, DataW.trod enc P w base spare held n e cs' = some y → ∃ x : Lin, cs' = Enc.cells x ∧ Enc.ok x := by
  intro n cs' y hy
  obtain ⟨ys, n', _, _, hl, hyl, hf⟩ := DataW.trod_struct he hy
  obtain ⟨o0, k0⟩ := hone_of hone 0 f0 rfl
  obtain ⟨o1, k1⟩ := hone_of hone 1 f1 rfl
  obtain ⟨o2, k2⟩ := hone_of hone 2 f2 rfl
  obtain ⟨o3, k3⟩ := hone_of hone 3 f3 rfl
  rw [hC] at hl
  match cs', hl, ys, hyl with
  | [c0, c1, c2, c3], _, [y0, y1, y2, y3], _ =>
    have t0 : DataW.trod enc P w base spare held n' f0.type [c0] = some y0 := by simpa [o0, k0] using hf 0 f0 rfl
    have t1 : DataW.trod enc P w base spare held n' f1.type [c1] = some y1 := by simpa [o1, k1] using hf 1 f1 rfl
    have t2 : DataW.trod enc P w base spare held n' f2.type [c2] = some y2 := by simpa [o2, k2] using hf 2 f2 rfl
    have t3 : DataW.trod enc P w base spare held n' f3.type [c3] = some y3 := by simpa [o3, k3] using hf 3 f3 rfl
    obtain ⟨z0, hz0, _, hw0⟩ := DataW.trod_int h0 t0
    have hr0 : -9223372036854775808 ≤ z0 ∧ z0 ≤ 9223372036854775807 := by simpa [Lit.wf, IntKind.min, IntKind.max, IntKind.signed, IntKind.bits] using hw0
    simp at hz0; subst hz0
    obtain ⟨z1, hz1, _, hw1⟩ := DataW.trod_int h1 t1
    have hr1 : -9223372036854775808 ≤ z1 ∧ z1 ≤ 9223372036854775807 := by simpa [Lit.wf, IntKind.min, IntKind.max, IntKind.signed, IntKind.bits] using hw1
    simp at hz1; subst hz1
    obtain ⟨z2, hz2, _, hw2⟩ := DataW.trod_int h2 t2
    have hr2 : -9223372036854775808 ≤ z2 ∧ z2 ≤ 9223372036854775807 := by simpa [Lit.wf, IntKind.min, IntKind.max, IntKind.signed, IntKind.bits] using hw2
    simp at hz2; subst hz2
    obtain ⟨z3, hz3, _, hw3⟩ := DataW.trod_int h3 t3
    have hr3 : -9223372036854775808 ≤ z3 ∧ z3 ≤ 9223372036854775807 := by simpa [Lit.wf, IntKind.min, IntKind.max, IntKind.signed, IntKind.bits] using hw3
    simp at hz3; subst hz3
    exact ⟨⟨z0, z1, z2, z3⟩, rfl, hr0.1, hr0.2, hr1.1, hr1.2, hr2.1, hr2.2, hr3.1, hr3.2⟩
end
end
end Go.Proofs.YtdbmolhdgmopoaaGreat
