/- isolated of the model -/
import Derived.Test.YtlepgfccnfcagaaWp10
import Derived.Deep.RegionHeld3
namespace Go.Proofs.Ytlepgfccnfcagaa
open Go.RowKit

set_option maxHeartbeats 8000000 in
set_option maxRecDepth 100000 in
theorem sIsolated_any (H : Option Addr) (m c : Nat) (hs : List Flt) (f : Int) (w : World) (hH : Sl w H m c hs) (lk : Lnk hs) (h0 : 0 ≤ f) (h1 : f < hs.length) (hm : m ≤ 1048576) :
    Calls Try.prog 63 #[.agg #[.slice H m c], .int .i64 f] w fun e w' => ∃ v, e = .returned (.tuple #[.agg #[v], .int .i64 (idx (reachL hs f) f 0)]) ∧ Owd 74 w w' v (isoL hs (reachL hs f)) ∧ Le w w' := by
  obtain rfl := hH.len
  obtain ⟨i0, hi, hz0, hz1, hz2⟩ := info_parts infoCcFault
  obtain ⟨c0, z0, c1, z1, L0⟩ := box2 w (.slice H hs.length c) (.slice none 0 0) 32 32
  have f1 : ((w.alloc (.cells #[.slice H hs.length c] 32)).alloc (.cells #[.slice none 0 0] 32)).frozen? ⟨w.heap.size + 1, 0, none⟩ = false := World.frozen?_alloc_at _ _ _ _ (by simp)
  have hs0 : w.heap.size + 1 + 1 = ((w.alloc (.cells #[.slice H hs.length c] 32)).alloc (.cells #[.slice none 0 0] 32)).heap.size := by simp
  have HS0 := Lib.hid hs0; clear hs0
  have S0 := hH.le L0
  have HOKH := Lib.hid hH.ok
  have HUB : Hid (0 < hs.length → ∀ a, H = some a → a.block < w.heap.size + 1 + 1) := fun h a e => by have := hH.under h a e; omega
  have HRI := Lib.hid (fun x => rch0_iff lk h0 h1 x)
  have HRL := Lib.hid (fun x => reachL_mem lk h0 h1 x)
  have HFN := Lib.hid (rch0_fnd lk h1)
  have HLK := Lib.hid lk; clear lk
  have HRR : Hid (∀ x ∈ reachL hs f, 0 ≤ x ∧ x < hs.length) := fun x hx => by have := ascOf_mem.1 (show x ∈ ascOf (rch0 hs f) hs.length from hx); exact ⟨this.1, this.2.1⟩
  have hlr : (reachL hs f).length ≤ hs.length := ascOf_len (L := rch0 hs f) hs.length
  go_enter Try.func63, Try.ntmps63
  go_wp2_with fail
  generalize (w.alloc (.cells #[.slice H hs.length c] 32)).alloc (.cells #[.slice none 0 0] 32) = W at *
  refine (sReach_any H hs.length c hs HLK.out (by omega) (hs.length + 1) f [] (w.heap.size + 1 + 1) _ _ (S0.alloc _) h1 (Fnd.nil _) (by simp) (own_empty (by rw [HS0.out]; exact Nat.le_refl _) HS0.out) (by rw [HS0.out]; exact (Le.new W _).size) HUB.out).mono ?_
  rintro e w2 ⟨v, rfl, O, hg, -⟩
  have L1 : Le W w2 := (Le.new W _).grown hg (fun k hk => by injection hk with hk; rw [← HS0.out]; exact Nat.le_of_eq hk)
  have hl9 : (rch0 hs f).length ≤ hs.length := HFN.out.len
  have hok : ∀ x ∈ rch0 hs f, Enc.ok x := fun x hx => by have := HFN.out.rng x hx; exact ⟨by omega, by omega⟩
  have O' : w2.ownsRow (w.heap.size + 1 + 1) 3 1 v (rch0 hs f).length ((rch0 hs f).flatMap Enc.cells) := O
  obtain ⟨A2, q2, rfl⟩ := own_form O'
  have SV := Sl.of_own O' rfl (by decide) hok
  clear O O' hg hok
  go_wp2_with fail
  refine (sorted_any A2 _ q2 (rch0 hs f) _ SV (by omega)).mono ?_
  rintro e w3 ⟨v3, M, rfl, D, hle, ha, hmem, -⟩
  have hM : M = reachL hs f := reachL_eq HLK.out h0 h1 ha (fun x => (hmem x).trans (HRI.out x))
  subst hM
  clear ha hmem SV
  replace hle := L1.trans hle
  clear L1
  obtain ⟨AL, cL, rfl, SL, -⟩ := D.form (by decide)
  replace c0 := (hle.cell z0).trans c0
  replace c1 := (hle.cell z1).trans c1
  replace f1 := (hle.frozen z1).trans f1
  replace z0 := Nat.lt_of_lt_of_le z0 hle.size
  replace z1 := Nat.lt_of_lt_of_le z1 hle.size
  replace L0 := L0.trans hle
  replace S0 := S0.le hle
  have s3 := hle.size
  clear D hle
  have HC0 := Lib.hid c0; have HC1 := Lib.hid c1; have HF1 := Lib.hid f1; have HL0 := Lib.hid L0; have HS := Lib.hid S0; have HSL := Lib.hid SL
  have y0 := z0; have y1 := z1
  have HISO : Hid (∀ x : Int, Enc.ok (isoF hs (reachL hs f) x)) := fun x => isoF_ok HOKH.out (by omega) x
  clear HRI HRL HFN HUB HLK
  go_wp2
  generalize hLL : reachL hs f = L at *
  have HLL := Lib.hid hLL; clear hLL
  clear c0 c1 f1 z0 z1 L0 S0 SL
  go_loopw [8, 9] (fun q _ wr => ∃ (k : Nat) (A' : Option Addr) (c' : Nat), k ≤ L.length ∧ q = .int .i64 k ∧ Le w3 wr ∧ w3.heap.size + 1 < wr.heap.size ∧ wr.cell? ⟨w3.heap.size + 1, 0, none⟩ = some (.slice A' k c') ∧ wr.frozen? ⟨w3.heap.size + 1, 0, none⟩ = false ∧
    wr.ownsRow w3.heap.size 74 5 (.slice A' k c') k (((L.take k).map (isoF hs L)).flatMap Enc.cells) ∧ (Value.slice A' k c').ownBlock ≠ some (w3.heap.size + 1)) (fun q _ _ => L.length - (intOf q).toNat)
  case atStart => exact ⟨0, some ⟨w3.heap.size, 0, none⟩, 0, Nat.zero_le _, rfl, (Le.new w3 _).alloc _, by simp, by rw [World.cell?_alloc_at _ _ _ _ (by simp)]; rfl, World.frozen?_alloc_at _ _ _ _ (by simp), (own_empty (Nat.le_refl _) rfl).alloc _, fun e => by injection e with e; have e2 : w3.heap.size = w3.heap.size + 1 := e; omega⟩
  case round =>
    obtain ⟨k, A', c', hk, rfl, hle, zB, cB, fB, O, hne⟩ := hrel
    have c0 := (hle.cell y0).trans HC0.out
    have c1 := (hle.cell y1).trans HC1.out
    have f1 := (hle.frozen y1).trans HF1.out
    have z0 := Nat.lt_of_lt_of_le y0 hle.size
    have z1 := Nat.lt_of_lt_of_le y1 hle.size
    have L0 := HL0.out.trans hle
    have S0 := HS.out.le hle
    have SL := HSL.out.le hle
    have hltO := O.lt
    have HLTO := Lib.hid hltO; clear hltO
    have HNE := Lib.hid hne; clear hne
    by_cases hlt : k < L.length
    · have hr := HRR.out _ (List.getElem_mem hlt)
      have HT := Lib.hid (isoL_take (hs := hs) hlt)
      have HOK := Lib.hid (HISO.out L[k])
      obtain ⟨i, hi2⟩ := Int.eq_ofNat_of_zero_le hr.1
      rw [hi2] at hr HT HOK
      obtain ⟨b, off, rfl, hb, hx, _, _⟩ := SL.int_at hlt
      rw [hi2] at hx
      have hil : i < hs.length := by omega
      have hi3 : (i : Int) < (hs.length : Int) := by omega
      have hk3 : (k : Int) < (L.length : Int) := by omega
      obtain ⟨b2, off2, rfl, hb2, q0, q1, q2, q3, q4, -⟩ := S0.flt_at hil
      have hsh := isoF_at (L := L) hil
      have HSH := Lib.hid hsh
      clear hsh hi2
      generalize hs[i] = x at *
      generalize x.cls = xc at *
      generalize x.code = xd at *
      generalize x.cause = xa at *
      generalize x.ctx = xb at *
      generalize x.hide = xh at *
      have HA : Hid (∀ w, Sl w (some ⟨b, off, none⟩) L.length cL L → Calls Try.prog 100 #[.slice (some ⟨b, off, none⟩) L.length cL, .int .i64 xa] w fun e w' => e = .returned (.int .i64 (idx L xa 0)) ∧ w = w') := fun w h => sIndexOf_any _ _ _ L xa w h (by omega)
      have HB : Hid (∀ w, Sl w (some ⟨b, off, none⟩) L.length cL L → Calls Try.prog 100 #[.slice (some ⟨b, off, none⟩) L.length cL, .int .i64 xb] w fun e w' => e = .returned (.int .i64 (idx L xb 0)) ∧ w = w') := fun w h => sIndexOf_any _ _ _ L xb w h (by omega)
      generalize idx L xa 0 = ya at *
      generalize idx L xb 0 = yb at *
      replace c0 := (show wr.drew.cell? _ = _ from c0)
      replace hx := (show wr.drew.cell? _ = _ from hx)
      replace q0 := (show wr.drew.cell? _ = _ from q0)
      replace q1 := (show wr.drew.cell? _ = _ from q1)
      replace q2 := (show wr.drew.cell? _ = _ from q2)
      replace q3 := (show wr.drew.cell? _ = _ from q3)
      replace q4 := (show wr.drew.cell? _ = _ from q4)
      have zD : w.heap.size < wr.drew.heap.size := z0
      have zD1 : b < wr.drew.heap.size := hb
      have zD2 : b2 < wr.drew.heap.size := hb2
      have HKZ : Hid ((wr.drew.alloc (.cells #[.int .i64 0, .int .i64 0, .int .i64 0, .int .i64 0, .bool false] 74)).cell? ⟨w.heap.size, 0, none⟩ = some (.slice (some ⟨b2, off2, none⟩) hs.length c) ∧ (wr.drew.alloc (.cells #[.int .i64 0, .int .i64 0, .int .i64 0, .int .i64 0, .bool false] 74)).cell? ⟨b, off + k, none⟩ = some (.int .i64 i) ∧ (wr.drew.alloc (.cells #[.int .i64 0, .int .i64 0, .int .i64 0, .int .i64 0, .bool false] 74)).cell? ⟨b2, off2 + i * 5, none⟩ = some (.int .i64 xc) ∧ (wr.drew.alloc (.cells #[.int .i64 0, .int .i64 0, .int .i64 0, .int .i64 0, .bool false] 74)).cell? ⟨b2, off2 + i * 5 + 1, none⟩ = some (.int .i64 xd) ∧ (wr.drew.alloc (.cells #[.int .i64 0, .int .i64 0, .int .i64 0, .int .i64 0, .bool false] 74)).cell? ⟨b2, off2 + i * 5 + 2, none⟩ = some (.int .i64 xa) ∧ (wr.drew.alloc (.cells #[.int .i64 0, .int .i64 0, .int .i64 0, .int .i64 0, .bool false] 74)).cell? ⟨b2, off2 + i * 5 + 3, none⟩ = some (.int .i64 xb) ∧ (wr.drew.alloc (.cells #[.int .i64 0, .int .i64 0, .int .i64 0, .int .i64 0, .bool false] 74)).cell? ⟨b2, off2 + i * 5 + 4, none⟩ = some (.bool xh)) := ⟨((Le.new _ _).cell zD).trans c0, ((Le.new _ _).cell zD1).trans hx, ((Le.new _ _).cell zD2).trans q0, ((Le.new _ _).cell zD2).trans q1, ((Le.new _ _).cell zD2).trans q2, ((Le.new _ _).cell zD2).trans q3, ((Le.new _ _).cell zD2).trans q4⟩
      have HKC : Hid ((wr.drew.alloc (.cells #[.int .i64 xc, .int .i64 xd, .int .i64 xa, .int .i64 xb, .bool xh] 74)).cell? ⟨w.heap.size, 0, none⟩ = some (.slice (some ⟨b2, off2, none⟩) hs.length c) ∧ (wr.drew.alloc (.cells #[.int .i64 xc, .int .i64 xd, .int .i64 xa, .int .i64 xb, .bool xh] 74)).cell? ⟨b, off + k, none⟩ = some (.int .i64 i) ∧ (wr.drew.alloc (.cells #[.int .i64 xc, .int .i64 xd, .int .i64 xa, .int .i64 xb, .bool xh] 74)).cell? ⟨b2, off2 + i * 5, none⟩ = some (.int .i64 xc) ∧ (wr.drew.alloc (.cells #[.int .i64 xc, .int .i64 xd, .int .i64 xa, .int .i64 xb, .bool xh] 74)).cell? ⟨b2, off2 + i * 5 + 1, none⟩ = some (.int .i64 xd) ∧ (wr.drew.alloc (.cells #[.int .i64 xc, .int .i64 xd, .int .i64 xa, .int .i64 xb, .bool xh] 74)).cell? ⟨b2, off2 + i * 5 + 2, none⟩ = some (.int .i64 xa) ∧ (wr.drew.alloc (.cells #[.int .i64 xc, .int .i64 xd, .int .i64 xa, .int .i64 xb, .bool xh] 74)).cell? ⟨b2, off2 + i * 5 + 3, none⟩ = some (.int .i64 xb) ∧ (wr.drew.alloc (.cells #[.int .i64 xc, .int .i64 xd, .int .i64 xa, .int .i64 xb, .bool xh] 74)).cell? ⟨b2, off2 + i * 5 + 4, none⟩ = some (.bool xh)) := ⟨((Le.new _ _).cell zD).trans c0, ((Le.new _ _).cell zD1).trans hx, ((Le.new _ _).cell zD2).trans q0, ((Le.new _ _).cell zD2).trans q1, ((Le.new _ _).cell zD2).trans q2, ((Le.new _ _).cell zD2).trans q3, ((Le.new _ _).cell zD2).trans q4⟩
      go_wp2_with fail
      go_region_held3 (fun w' => w'.cell? ⟨w.heap.size, 0, none⟩ = some (.slice (some ⟨b2, off2, none⟩) hs.length c) ∧ w'.cell? ⟨b, off + k, none⟩ = some (.int .i64 i) ∧ w'.cell? ⟨b2, off2 + i * 5, none⟩ = some (.int .i64 xc) ∧ w'.cell? ⟨b2, off2 + i * 5 + 1, none⟩ = some (.int .i64 xd) ∧ w'.cell? ⟨b2, off2 + i * 5 + 2, none⟩ = some (.int .i64 xa) ∧ w'.cell? ⟨b2, off2 + i * 5 + 3, none⟩ = some (.int .i64 xb) ∧ w'.cell? ⟨b2, off2 + i * 5 + 4, none⟩ = some (.bool xh))
        (first | exact ⟨c0, hx, q0, q1, q2, q3, q4⟩ | exact HKZ.out | exact HKC.out) (fail)
      go_wp2_with fail
      refine (HA.out _ ((SL.alloc (.cells #[.int .i64 xc, .int .i64 xd, .int .i64 xa, .int .i64 xb, .bool xh] 74)).le (Le.refl _).drew)).mono ?_
      rintro e wq ⟨rfl, rfl⟩
      go_wp2_with fail
      refine (HB.out _ ((SL.alloc (.cells #[.int .i64 xc, .int .i64 xd, .int .i64 ya, .int .i64 xb, .bool xh] 74)).le (Le.refl _).drew)).mono ?_
      rintro e wq ⟨rfl, rfl⟩
      have LX : Le wr (((wr.alloc (.cells #[.int .i64 xc, .int .i64 xd, .int .i64 ya, .int .i64 yb, .bool xh] 74)).alloc (.cells #[.int .i64 xc, .int .i64 xd, .int .i64 ya, .int .i64 yb, .bool xh] 74)).drew) := ((Le.new wr (.cells #[.int .i64 xc, .int .i64 xd, .int .i64 ya, .int .i64 yb, .bool xh] 74)).alloc (.cells #[.int .i64 xc, .int .i64 xd, .int .i64 ya, .int .i64 yb, .bool xh] 74)).drew
      have cBX := (LX.cell zB).trans cB
      have fBX := (LX.frozen zB).trans fB
      have sX := LX.size
      have hX1 : (wr.alloc (.cells #[.int .i64 xc, .int .i64 xd, .int .i64 ya, .int .i64 yb, .bool xh] 74)).heap.size = wr.heap.size + 1 := by simp
      have hX2 : (((wr.alloc (.cells #[.int .i64 xc, .int .i64 xd, .int .i64 ya, .int .i64 yb, .bool xh] 74)).alloc (.cells #[.int .i64 xc, .int .i64 xd, .int .i64 ya, .int .i64 yb, .bool xh] 74)).drew).heap.size = wr.heap.size + 1 + 1 := by show ((wr.alloc _).alloc _).heap.size = _; simp
      rw [HSH.out] at HOK
      have SX := sl_one (w := wr.alloc (.cells #[.int .i64 xc, .int .i64 xd, .int .i64 ya, .int .i64 yb, .bool xh] 74)) (cs := #[.int .i64 xc, .int .i64 xd, .int .i64 ya, .int .i64 yb, .bool xh]) (T := 74) (⟨xc, xd, ya, yb, xh⟩ : Flt) rfl HOK.out (b := wr.heap.size + 1) hX1.symm
      have SX2 : Sl (((wr.alloc (.cells #[.int .i64 xc, .int .i64 xd, .int .i64 ya, .int .i64 yb, .bool xh] 74)).alloc (.cells #[.int .i64 xc, .int .i64 xd, .int .i64 ya, .int .i64 yb, .bool xh] 74)).drew) (some ⟨wr.heap.size + 1, 0, none⟩) 1 1 [(⟨xc, xd, ya, yb, xh⟩ : Flt)] := SX.le (Le.refl _).drew
      have OX : (((wr.alloc (.cells #[.int .i64 xc, .int .i64 xd, .int .i64 ya, .int .i64 yb, .bool xh] 74)).alloc (.cells #[.int .i64 xc, .int .i64 xd, .int .i64 ya, .int .i64 yb, .bool xh] 74)).drew).ownsRow w3.heap.size 74 5 (.slice A' k c') k (((L.take k).map (isoF hs L)).flatMap Enc.cells) := ((O.alloc (.cells #[.int .i64 xc, .int .i64 xd, .int .i64 ya, .int .i64 yb, .bool xh] 74)).alloc (.cells #[.int .i64 xc, .int .i64 xd, .int .i64 ya, .int .i64 yb, .bool xh] 74)).drew
      have HX2 := Lib.hid hX2
      have m1 : k + 1 ≤ maxLen := by unfold maxLen; omega
      have m2 : (k + 1) * 40 ≤ 140737488355328 := by omega
      have m3 : w3.heap.size ≤ (((wr.alloc (.cells #[.int .i64 xc, .int .i64 xd, .int .i64 ya, .int .i64 yb, .bool xh] 74)).alloc (.cells #[.int .i64 xc, .int .i64 xd, .int .i64 ya, .int .i64 yb, .bool xh] 74)).drew).heap.size := Nat.le_trans hle.size sX
      clear hX1 hX2 SX
      go_wp2_with (at_builtin; refine wpList_append_sl rfl _ _ 30 rfl (w3.heap.size) 74 i0 _ 40 Try.underlying30 hi hz0 hz1 hz2 rfl (.slice A' k c') k ((L.take k).map (isoF hs L)) rfl OX (some ⟨wr.heap.size + 1, 0, none⟩) 1 1 [(⟨xc, xd, ya, yb, xh⟩ : Flt)] rfl SX2 m1 m2 m3 ?_; intro v1 w1 O1 hg1 hat; have cB1 := hg1.cell (a := ⟨w3.heap.size + 1, 0, none⟩) cBX (fun e => HNE.out e.symm); have fB1 := (World.frozen?_of_block (a := ⟨w3.heap.size + 1, 0, none⟩) (hg1.block (w3.heap.size + 1) (Nat.lt_of_lt_of_le zB sX) (fun e => HNE.out e.symm))).trans fBX; obtain ⟨A2, q2, rfl⟩ := own_form O1)
      have hne2 : (Value.slice A2 (k + 1) q2).ownBlock ≠ some (w3.heap.size + 1) := by
        rcases hat with h | h
        · rw [h]; exact HNE.out
        · rw [h, HX2.out]; intro e; injection e with e; omega
      have L1 := (hle.trans LX).grown hg1 (fun k hk => (HLTO.out k hk).1)
      have s1 := hg1.size
      rw [show (L.take k).map (isoF hs L) ++ [(⟨xc, xd, ya, yb, xh⟩ : Flt)] = (L.take (k + 1)).map (isoF hs L) from by rw [← HT.out, HSH.out]] at O1
      have O2 := O1.kept (grown_set w1 (w3.heap.size + 1) 0 (.slice A2 (k + 1) q2)) (.inr hne2)
      go_roundw
      case rel => exact ⟨k + 1, A2, q2, by omega, by go_num, L1.setCell (by omega) _, by simpa [World.setCell] using Nat.lt_of_lt_of_le (Nat.lt_of_lt_of_le zB sX) s1, cell_set_same cB1, by simpa using fB1, O2, hne2⟩
      case measure => simp [intOf]; omega
    · have hkk : k = L.length := by omega
      subst hkk
      have hT : (L.take L.length).map (isoF hs L) = isoL hs L := by rw [List.take_length]; rfl
      rw [hT] at O
      have hII : isoL hs L = L.map (isoF hs L) := rfl
      have hokL : ∀ x ∈ isoL hs L, Enc.ok x := fun x hx => by obtain ⟨y, _, rfl⟩ := List.mem_map.1 hx; exact HISO.out y
      have hlI : (isoL hs L).length = L.length := by rw [hII, List.length_map]
      have HE := Lib.hid (res_end (r := w.heap.size + 1) L0.drew (by omega) y1 (show wr.drew.ownsRow w3.heap.size 74 (Enc.size Flt) (.slice A' L.length c') (isoL hs L).length ((isoL hs L).flatMap Enc.cells) from by rw [hlI]; exact O.drew) hokL)
      have SD := SL.le (Le.refl wr).drew
      have HC : Hid (∀ w, Sl w AL L.length cL L → Calls Try.prog 100 #[.slice AL L.length cL, .int .i64 f] w fun e w' => e = .returned (.int .i64 (idx L f 0)) ∧ w = w') := fun w h => sIndexOf_any _ _ _ L f w h (by omega)
      have c1w := c1
      have cB2 : ∀ u, (wr.setCell ⟨w.heap.size + 1, 0, none⟩ u).cell? ⟨w3.heap.size + 1, 0, none⟩ = some (.slice A' L.length c') := fun u => (cell_set_other (.inl (by omega))).trans cB
      have HCB2 := Lib.hid cB2; clear cB2
      have hend : ∀ u, (wr.setCell ⟨w.heap.size + 1, 0, none⟩ u).cell? ⟨w.heap.size + 1, 0, none⟩ = some u := fun u => cell_set_same c1w
      replace cB := (show wr.drew.cell? _ = _ from cB)
      replace c1 := (show wr.drew.cell? _ = _ from c1)
      replace f1 := (show wr.drew.frozen? _ = _ from f1)
      clear hT hII hokL hlI O
      generalize hyf : idx L f 0 = yf at *
      have HYF := Lib.hid hyf; clear hyf
      go_wp2_with fail
      go_region_held3 (fun w' => w'.cell? ⟨w3.heap.size + 1, 0, none⟩ = some (.slice A' L.length c'))
        (first | exact cB | exact HCB2.out _)
        (first
        | (go_at_call 100; refine (HC.out _ SD).mono ?_; rintro e wq ⟨rfl, rfl⟩))
      go_wp2
      exact bodyPost_ret (v := .tuple #[.agg #[.slice A' L.length c'], .int .i64 yf]) (by simp [results, Try.results63, go_sem, hend]) rfl ⟨_, by rw [HLL.out, HYF.out], by rw [HLL.out]; exact (HE.out (.slice A' L.length c')).1, (HE.out (.slice A' L.length c')).2⟩
end Go.Proofs.Ytlepgfccnfcagaa
