/- one text of RDiq, RnJ, PJ, PIo, AsC -/
import Derived.Test.YtlepgfccnfcagaaWp10
import Derived.Test.YtlepgfccnfcagaaWp9
import Derived.Test.YtlepgfccnfcagaaWp2
import Derived.Deep.RegionHeld3
namespace Go.Proofs.Ytlepgfccnfcagaa
open Go.RowKit
set_option linter.unusedVariables false
section
set_option maxHeartbeats 8000000 in
set_option maxRecDepth 100000 in
theorem iIsolate_any (H : Option Addr) (m c : Nat) (hs : List Flt) (f : Int) (w : World) (hH : Sl w H m c hs) (lk : Lnk hs) (h0 : 0 ≤ f) (h1 : f < hs.length) (hm : m ≤ 1048576) :
    Calls Try.prog 56 #[.agg #[.slice H m c], .int .i64 f] w fun e w' => ∃ v, e = .returned (.tuple #[.agg #[v], .int .i64 (idx (reachL hs f) f 0)]) ∧ Owd 74 w w' v (isoL hs (reachL hs f)) ∧ Le w w' := by
  obtain rfl := hH.len
  obtain ⟨i0, hi, hz0, hz1, hz2⟩ := info_parts infoCcFault
  obtain ⟨c0, z0, c1, z1, L0⟩ := box2 w (.slice H hs.length c) (.slice none 0 0) 32 32
  have f1 : ((w.alloc (.cells #[.slice H hs.length c] 32)).alloc (.cells #[.slice none 0 0] 32)).frozen? ⟨w.heap.size + 1, 0, none⟩ = false := World.frozen?_alloc_at _ _ _ _ (by simp)
  have hs0 : w.heap.size + 1 + 1 = ((w.alloc (.cells #[.slice H hs.length c] 32)).alloc (.cells #[.slice none 0 0] 32)).heap.size := by simp
  have HS0 := Lib.hid hs0; clear hs0
  have S0 := hH.le L0
  have HOKH := Lib.hid hH.ok
  have HUB : Hid (0 < hs.length → ∀ a, H = some a → a.block < w.heap.size + 1 + 1) := fun h a e => by have := hH.under h a e; omega
  have HRI := Lib.hid (fun x => rch0_iff lk h0 h1 x)
  have HRL := Lib.hid (fun x => reachL_mem lk h0 h1 x)
  have HFN := Lib.hid (rch0_fnd lk h1)
  have HLK := Lib.hid lk; clear lk
  have HRR : Hid (∀ x ∈ reachL hs f, 0 ≤ x ∧ x < hs.length) := fun x hx => by have := ascOf_mem.1 (show x ∈ ascOf (rch0 hs f) hs.length from hx); exact ⟨this.1, this.2.1⟩
  have hlr : (reachL hs f).length ≤ hs.length := ascOf_len (L := rch0 hs f) hs.length
  go_enter Try.func56, Try.ntmps56
  go_wp2_with fail
  generalize (w.alloc (.cells #[.slice H hs.length c] 32)).alloc (.cells #[.slice none 0 0] 32) = W at *
  refine (iReach_any H hs.length c hs f W S0 HLK.out h0 h1 (by omega)).mono ?_
  rintro e w3 ⟨v3, rfl, D, hle⟩
  obtain ⟨AL, cL, rfl, SL, -⟩ := D.form (by decide)
  replace c0 := (hle.cell z0).trans c0
  replace c1 := (hle.cell z1).trans c1
  replace f1 := (hle.frozen z1).trans f1
  replace z0 := Nat.lt_of_lt_of_le z0 hle.size
  replace z1 := Nat.lt_of_lt_of_le z1 hle.size
  replace L0 := L0.trans hle
  replace S0 := S0.le hle
  have s3 := hle.size
  clear D hle
  have HC0 := Lib.hid c0; have HC1 := Lib.hid c1; have HF1 := Lib.hid f1; have HL0 := Lib.hid L0; have HS := Lib.hid S0; have HSL := Lib.hid SL
  have y0 := z0; have y1 := z1
  have HISO : Hid (∀ x : Int, Enc.ok (isoF hs (reachL hs f) x)) := fun x => isoF_ok HOKH.out (by omega) x
  clear HRI HRL HFN HUB HLK
  go_wp2
  generalize hLL : reachL hs f = L at *
  have HLL := Lib.hid hLL; clear hLL
  clear c0 c1 f1 z0 z1 L0 S0 SL
  go_loopw [9, 10, 16] (fun _ _ q wr => ∃ (k : Nat) (A' : Option Addr) (c' : Nat), k ≤ L.length ∧ q = .int .i64 k ∧ Le w3 wr ∧ w3.heap.size < wr.heap.size ∧ wr.cell? ⟨w3.heap.size, 0, none⟩ = some (.slice A' k c') ∧ wr.frozen? ⟨w3.heap.size, 0, none⟩ = false ∧
    wr.ownsRow w3.heap.size 74 5 (.slice A' k c') k (((L.take k).map (isoF hs L)).flatMap Enc.cells) ∧ (Value.slice A' k c').ownBlock ≠ some (w3.heap.size)) (fun _ _ q _ => L.length - (intOf q).toNat)
  case atStart => exact ⟨0, none, 0, Nat.zero_le _, rfl, Le.new w3 _, by simp, by rw [World.cell?_alloc_at _ _ _ _ rfl]; rfl, World.frozen?_alloc_at _ _ _ _ rfl, World.ownsRow_nil _ _ _ _, fun e => by cases e⟩
  case round =>
    obtain ⟨k, A', c', hk, rfl, hle, zB, cB, fB, O, hne⟩ := hrel
    have c0 := (hle.cell y0).trans HC0.out
    have c1 := (hle.cell y1).trans HC1.out
    have f1 := (hle.frozen y1).trans HF1.out
    have z0 := Nat.lt_of_lt_of_le y0 hle.size
    have z1 := Nat.lt_of_lt_of_le y1 hle.size
    have L0 := HL0.out.trans hle
    have S0 := HS.out.le hle
    have SL := HSL.out.le hle
    have hltO := O.lt
    have HLTO := Lib.hid hltO; clear hltO
    have HNE := Lib.hid hne; clear hne
    by_cases hlt : k < L.length
    · have hr := HRR.out _ (List.getElem_mem hlt)
      have HT := Lib.hid (isoL_take (hs := hs) hlt)
      have HOK := Lib.hid (HISO.out L[k])
      obtain ⟨i, hi2⟩ := Int.eq_ofNat_of_zero_le hr.1
      rw [hi2] at hr HT HOK
      obtain ⟨b, off, rfl, hb, hx, _, _⟩ := SL.int_at hlt
      rw [hi2] at hx
      have hil : i < hs.length := by omega
      have hi3 : (i : Int) < (hs.length : Int) := by omega
      have hk3 : (k : Int) < (L.length : Int) := by omega
      obtain ⟨b2, off2, rfl, hb2, q0, q1, q2, q3, q4, -⟩ := S0.flt_at hil
      have hsh := isoF_at (L := L) hil
      have HSH := Lib.hid hsh
      clear hsh hi2
      generalize hs[i] = x at *
      generalize x.cls = xc at *
      generalize x.code = xd at *
      generalize x.cause = xa at *
      generalize x.ctx = xb at *
      generalize x.hide = xh at *
      have HA : Hid (∀ w, Sl w (some ⟨b, off, none⟩) L.length cL L → Calls Try.prog 80 #[.slice (some ⟨b, off, none⟩) L.length cL, .int .i64 xa] w fun e w' => e = .returned (.int .i64 (idx L xa 0)) ∧ w = w') := fun w h => iIndex_any _ _ _ L xa w h (by omega)
      have HB : Hid (∀ w, Sl w (some ⟨b, off, none⟩) L.length cL L → Calls Try.prog 80 #[.slice (some ⟨b, off, none⟩) L.length cL, .int .i64 xb] w fun e w' => e = .returned (.int .i64 (idx L xb 0)) ∧ w = w') := fun w h => iIndex_any _ _ _ L xb w h (by omega)
      generalize idx L xa 0 = ya at *
      generalize idx L xb 0 = yb at *
      go_wp2_with fail
      refine (HA.out _ (SL.alloc (.cells #[.int .i64 xc, .int .i64 xd, .int .i64 xa, .int .i64 xb, .bool xh] 74))).mono ?_
      rintro e wq ⟨rfl, rfl⟩
      go_wp2_with fail
      refine (HB.out _ (SL.alloc (.cells #[.int .i64 xc, .int .i64 xd, .int .i64 ya, .int .i64 xb, .bool xh] 74))).mono ?_
      rintro e wq ⟨rfl, rfl⟩
      have LX : Le wr (((wr.alloc (.cells #[.int .i64 xc, .int .i64 xd, .int .i64 ya, .int .i64 yb, .bool xh] 74)).alloc (.cells #[.int .i64 xc, .int .i64 xd, .int .i64 ya, .int .i64 yb, .bool xh] 74))) := ((Le.new wr (.cells #[.int .i64 xc, .int .i64 xd, .int .i64 ya, .int .i64 yb, .bool xh] 74)).alloc (.cells #[.int .i64 xc, .int .i64 xd, .int .i64 ya, .int .i64 yb, .bool xh] 74))
      have cBX := (LX.cell zB).trans cB
      have fBX := (LX.frozen zB).trans fB
      have sX := LX.size
      have hX1 : (wr.alloc (.cells #[.int .i64 xc, .int .i64 xd, .int .i64 ya, .int .i64 yb, .bool xh] 74)).heap.size = wr.heap.size + 1 := by simp
      have hX2 : (((wr.alloc (.cells #[.int .i64 xc, .int .i64 xd, .int .i64 ya, .int .i64 yb, .bool xh] 74)).alloc (.cells #[.int .i64 xc, .int .i64 xd, .int .i64 ya, .int .i64 yb, .bool xh] 74))).heap.size = wr.heap.size + 1 + 1 := by show ((wr.alloc _).alloc _).heap.size = _; simp
      rw [HSH.out] at HOK
      have SX := sl_one (w := wr.alloc (.cells #[.int .i64 xc, .int .i64 xd, .int .i64 ya, .int .i64 yb, .bool xh] 74)) (cs := #[.int .i64 xc, .int .i64 xd, .int .i64 ya, .int .i64 yb, .bool xh]) (T := 74) (⟨xc, xd, ya, yb, xh⟩ : Flt) rfl HOK.out (b := wr.heap.size + 1) hX1.symm
      have SX2 : Sl (((wr.alloc (.cells #[.int .i64 xc, .int .i64 xd, .int .i64 ya, .int .i64 yb, .bool xh] 74)).alloc (.cells #[.int .i64 xc, .int .i64 xd, .int .i64 ya, .int .i64 yb, .bool xh] 74))) (some ⟨wr.heap.size + 1, 0, none⟩) 1 1 [(⟨xc, xd, ya, yb, xh⟩ : Flt)] := SX
      have OX : (((wr.alloc (.cells #[.int .i64 xc, .int .i64 xd, .int .i64 ya, .int .i64 yb, .bool xh] 74)).alloc (.cells #[.int .i64 xc, .int .i64 xd, .int .i64 ya, .int .i64 yb, .bool xh] 74))).ownsRow w3.heap.size 74 5 (.slice A' k c') k (((L.take k).map (isoF hs L)).flatMap Enc.cells) := ((O.alloc (.cells #[.int .i64 xc, .int .i64 xd, .int .i64 ya, .int .i64 yb, .bool xh] 74)).alloc (.cells #[.int .i64 xc, .int .i64 xd, .int .i64 ya, .int .i64 yb, .bool xh] 74))
      have HX2 := Lib.hid hX2
      have m1 : k + 1 ≤ maxLen := by unfold maxLen; omega
      have m2 : (k + 1) * 40 ≤ 140737488355328 := by omega
      have m3 : w3.heap.size ≤ (((wr.alloc (.cells #[.int .i64 xc, .int .i64 xd, .int .i64 ya, .int .i64 yb, .bool xh] 74)).alloc (.cells #[.int .i64 xc, .int .i64 xd, .int .i64 ya, .int .i64 yb, .bool xh] 74))).heap.size := Nat.le_trans hle.size sX
      clear hX1 hX2 SX
      go_wp2_with (at_builtin; refine wpList_append_sl rfl _ _ 30 rfl (w3.heap.size) 74 i0 _ 40 Try.underlying30 hi hz0 hz1 hz2 rfl (.slice A' k c') k ((L.take k).map (isoF hs L)) rfl OX (some ⟨wr.heap.size + 1, 0, none⟩) 1 1 [(⟨xc, xd, ya, yb, xh⟩ : Flt)] rfl SX2 m1 m2 m3 ?_; intro v1 w1 O1 hg1 hat; have cB1 := hg1.cell (a := ⟨w3.heap.size, 0, none⟩) cBX (fun e => HNE.out e.symm); have fB1 := (World.frozen?_of_block (a := ⟨w3.heap.size, 0, none⟩) (hg1.block (w3.heap.size) (Nat.lt_of_lt_of_le zB sX) (fun e => HNE.out e.symm))).trans fBX; obtain ⟨A2, q2, rfl⟩ := own_form O1)
      have hne2 : (Value.slice A2 (k + 1) q2).ownBlock ≠ some (w3.heap.size) := by
        rcases hat with h | h
        · rw [h]; exact HNE.out
        · rw [h, HX2.out]; intro e; injection e with e; omega
      have L1 := (hle.trans LX).grown hg1 (fun k hk => (HLTO.out k hk).1)
      have s1 := hg1.size
      rw [show (L.take k).map (isoF hs L) ++ [(⟨xc, xd, ya, yb, xh⟩ : Flt)] = (L.take (k + 1)).map (isoF hs L) from by rw [← HT.out, HSH.out]] at O1
      have O2 := O1.kept (grown_set w1 (w3.heap.size) 0 (.slice A2 (k + 1) q2)) (.inr hne2)
      go_roundw
      case rel => exact ⟨k + 1, A2, q2, by omega, by go_num, L1.setCell (by omega) _, by simpa [World.setCell] using Nat.lt_of_lt_of_le (Nat.lt_of_lt_of_le zB sX) s1, cell_set_same cB1, by simpa using fB1, O2, hne2⟩
      case measure => simp [intOf]; omega
    · have hkk : k = L.length := by omega
      subst hkk
      have hT : (L.take L.length).map (isoF hs L) = isoL hs L := by rw [List.take_length]; rfl
      rw [hT] at O
      have hII : isoL hs L = L.map (isoF hs L) := rfl
      have hokL : ∀ x ∈ isoL hs L, Enc.ok x := fun x hx => by obtain ⟨y, _, rfl⟩ := List.mem_map.1 hx; exact HISO.out y
      have hlI : (isoL hs L).length = L.length := by rw [hII, List.length_map]
      have HE := Lib.hid (res_end (r := w.heap.size + 1) L0.drew (by omega) y1 (show wr.drew.ownsRow w3.heap.size 74 (Enc.size Flt) (.slice A' L.length c') (isoL hs L).length ((isoL hs L).flatMap Enc.cells) from by rw [hlI]; exact O.drew) hokL)
      have SD := SL.le (Le.refl wr).drew
      have HC : Hid (∀ w, Sl w AL L.length cL L → Calls Try.prog 80 #[.slice AL L.length cL, .int .i64 f] w fun e w' => e = .returned (.int .i64 (idx L f 0)) ∧ w = w') := fun w h => iIndex_any _ _ _ L f w h (by omega)
      have c1w := c1
      have cB2 : ∀ u, (wr.setCell ⟨w.heap.size + 1, 0, none⟩ u).cell? ⟨w3.heap.size, 0, none⟩ = some (.slice A' L.length c') := fun u => (cell_set_other (.inl (by omega))).trans cB
      have HCB2 := Lib.hid cB2; clear cB2
      have hend : ∀ u, (wr.setCell ⟨w.heap.size + 1, 0, none⟩ u).cell? ⟨w.heap.size + 1, 0, none⟩ = some u := fun u => cell_set_same c1w
      replace cB := (show wr.drew.cell? _ = _ from cB)
      replace c1 := (show wr.drew.cell? _ = _ from c1)
      replace f1 := (show wr.drew.frozen? _ = _ from f1)
      clear hT hII hokL hlI O
      generalize hyf : idx L f 0 = yf at *
      have HYF := Lib.hid hyf; clear hyf
      go_wp2_with fail
      go_region_held3 (fun w' => w'.cell? ⟨w3.heap.size, 0, none⟩ = some (.slice A' L.length c'))
        (first | exact cB | exact HCB2.out _)
        (first
        | (go_at_call 80; refine (HC.out _ SD).mono ?_; rintro e wq ⟨rfl, rfl⟩))
      go_wp2
      exact bodyPost_ret (v := .tuple #[.agg #[.slice A' L.length c'], .int .i64 yf]) (by simp [results, Try.results56, go_sem, hend]) rfl ⟨_, by rw [HLL.out, HYF.out], by rw [HLL.out]; exact (HE.out (.slice A' L.length c')).1, (HE.out (.slice A' L.length c')).2⟩
end

section
theorem Gd.lnk {xs : List Cls} {hs : List Flt} (g : Gd xs hs) : Lnk hs :=
  ⟨fun i h => by have := g i h; omega, fun i h => by have := g i h; omega, fun i h => by have := g i h; omega⟩
/-- how a run ends: the number of the end, the value, the faults -/
def resE : Lft → Int
  | .ret _ => 1
  | .rai _ => 2
  | _ => 0
def resV (hs : List Flt) : Lft → Int
  | .ret v => v
  | .rai f => idx (reachL hs f) f 0
  | _ => 0
def resH (hs : List Flt) : Lft → List Flt
  | .rai f => isoL hs (reachL hs f)
  | _ => []
/-- a result in new memory of its own -/
def ResOut (w : World) (lg : List Int) (hs : List Flt) (en va : Int) (e : Ending) (w' : World) : Prop :=
  ∃ lv hv, e = .returned (.agg #[lv, .int .i64 en, .int .i64 va, hv]) ∧ Owd 3 w w' lv lg ∧ Owd 74 w w' hv hs ∧ Apart lv hv ∧ Le w w'
theorem hpn {w : World} {o : Obj} {b : Nat} (h : b = w.heap.size) : (w.alloc o).heap[b]? = some o := hp_new w o h
theorem frz_row {w : World} {b k : Nat} {cs : Array Value} {T : TypeId} (h : w.heap[b]? = some (.cells cs T)) : w.frozen? ⟨b, k, none⟩ = false := by simp [World.frozen?, h]
theorem frz_set (w : World) (b o g k : Nat) (u : Value) : (w.setCell ⟨b, o, none⟩ u).frozen? ⟨g, k, none⟩ = w.frozen? ⟨g, k, none⟩ := by first | exact World.frozen?_setCell .. | simp [World.frozen?, World.setCell]
theorem cells4 {w : World} {b : Nat} {a0 a1 a2 a3 : Value} {T : TypeId} (h : w.heap[b]? = some (.cells #[a0, a1, a2, a3] T)) : w.cell? ⟨b, 0, none⟩ = some a0 ∧ w.cell? ⟨b, 1, none⟩ = some a1 ∧ w.cell? ⟨b, 2, none⟩ = some a2 ∧ w.cell? ⟨b, 3, none⟩ = some a3 :=
  ⟨cell_of_row w b 0 _ T _ h, cell_of_row w b 1 _ T _ h, cell_of_row w b 2 _ T _ h, cell_of_row w b 3 _ T _ h⟩
theorem Owd.setO {α : Type} [Enc α] {T : TypeId} {w0 w : World} {v : Value} {xs : List α} {g o : Nat} {u : Value} (h : Owd T w0 w v xs) (hn : v.ownBlock ≠ some g) : Owd T w0 (w.setCell ⟨g, o, none⟩ u) v xs := ⟨h.row.kept (grown_set w g o u) (.inr hn), h.ok⟩
/-- what is stored into the four cells of a result lies there -/
theorem out4 {W : World} {g : Nat} {a b c d o0 o1 o2 o3 : Value} (h0 : W.cell? ⟨g, 0, none⟩ = some o0) (h1 : W.cell? ⟨g, 1, none⟩ = some o1) (h2 : W.cell? ⟨g, 2, none⟩ = some o2) (h3 : W.cell? ⟨g, 3, none⟩ = some o3) :
    ((((W.setCell ⟨g, 0, none⟩ a).setCell ⟨g, 1, none⟩ b).setCell ⟨g, 2, none⟩ c).setCell ⟨g, 3, none⟩ d).cell? ⟨g, 0, none⟩ = some a ∧ ((((W.setCell ⟨g, 0, none⟩ a).setCell ⟨g, 1, none⟩ b).setCell ⟨g, 2, none⟩ c).setCell ⟨g, 3, none⟩ d).cell? ⟨g, 1, none⟩ = some b ∧
    ((((W.setCell ⟨g, 0, none⟩ a).setCell ⟨g, 1, none⟩ b).setCell ⟨g, 2, none⟩ c).setCell ⟨g, 3, none⟩ d).cell? ⟨g, 2, none⟩ = some c ∧ ((((W.setCell ⟨g, 0, none⟩ a).setCell ⟨g, 1, none⟩ b).setCell ⟨g, 2, none⟩ c).setCell ⟨g, 3, none⟩ d).cell? ⟨g, 3, none⟩ = some d := by
  refine ⟨?_, ?_, ?_, ?_⟩
  · rw [cell_set_other (.inr (by decide)), cell_set_other (.inr (by decide)), cell_set_other (.inr (by decide))]; exact cell_set_same h0
  · rw [cell_set_other (.inr (by decide)), cell_set_other (.inr (by decide))]; exact cell_set_same ((cell_set_other (.inr (by decide))).trans h1)
  · rw [cell_set_other (.inr (by decide))]; exact cell_set_same ((cell_set_other (.inr (by decide))).trans ((cell_set_other (.inr (by decide))).trans h2))
  · exact cell_set_same ((cell_set_other (.inr (by decide))).trans ((cell_set_other (.inr (by decide))).trans ((cell_set_other (.inr (by decide))).trans h3)))
set_option maxHeartbeats 2000000 in
set_option maxRecDepth 100000 in
theorem result_any (R m c n cap : Nat) (B A : Option Addr) (xs : List Cls) (p : List Lin) (lv hv : Value) (l : Lft) (s : Rst) (gd : Gd xs s.2) (hf : ∀ f, l = .rai f → 0 ≤ f ∧ f < (s.2.length : Int)) (hsm : Sm s) (w : World) (H : Rn w R B m c xs A n cap p lv hv s.1 s.2) :
    Calls Try.prog 35 #[.pointer (some ⟨R, 0, none⟩), lfV l] w fun e w' => ∃ hv', e = .returned (.agg #[lv, .int .i64 (resE l), .int .i64 (resV s.2 l), hv']) ∧ Owd 74 w w' hv' (resH s.2 l) ∧ Le w w' := by
  have c2 := H.c2
  have c3 := H.c3
  have hz := H.z
  have q1 := ta_ret l
  have q2 := ta_rai l
  obtain ⟨AL, cL, rfl⟩ := own_form H.O
  obtain ⟨AH, cH, rfl⟩ := own_form H.H
  rcases l with _ | v | f | _ | _
  · simp only [isRet, retF, isRai, raiF] at q1 q2
    go_enter Try.func35, Try.ntmps35
    go_wp2
    obtain ⟨z0, z1, z2, z3⟩ := cells4 (((Le.new (w.alloc (.cells #[.slice AL s.1.length cL, .int .i64 0, .int .i64 0, .slice none 0 0] 34)) (.cells #[.slice AL s.1.length cL, .int .i64 0, .int .i64 0, .slice none 0 0] 34)).block w.heap.size (by simp)).trans (hpn (w := w) (o := .cells #[.slice AL s.1.length cL, .int .i64 0, .int .i64 0, .slice none 0 0] 34) rfl))
    exact bodyPost_ret (v := .agg #[.slice AL s.1.length cL, .int .i64 0, .int .i64 0, .slice none 0 0]) (by simp [results, Try.results35, go_sem, z0, z1, z2, z3]) rfl ⟨_, rfl, Owd.nil _ _ _, ((Le.refl w).alloc _).alloc _⟩
  · simp only [isRet, retF, isRai, raiF] at q1 q2
    go_enter Try.func35, Try.ntmps35
    go_wp2
    have L1 := Le.new (w.alloc (.cells #[.slice none 0 0, .int .i64 0, .int .i64 0, .slice none 0 0] 34)) (.cells #[.slice AL s.1.length cL, .int .i64 0, .int .i64 0, .slice none 0 0] 34)
    have L2 := Le.new ((w.alloc (.cells #[.slice none 0 0, .int .i64 0, .int .i64 0, .slice none 0 0] 34)).alloc (.cells #[.slice AL s.1.length cL, .int .i64 0, .int .i64 0, .slice none 0 0] 34)) (.cells #[.int .i64 v] 83)
    have R0 := ((L1.trans L2).drew.block w.heap.size (by simp)).trans (hpn (w := w) rfl)
    have R1 := (L2.drew.block (w.heap.size + 1) (by simp)).trans (hpn (w := w.alloc (.cells #[.slice none 0 0, .int .i64 0, .int .i64 0, .slice none 0 0] 34)) (by simp))
    have R2 : (((w.alloc (.cells #[.slice none 0 0, .int .i64 0, .int .i64 0, .slice none 0 0] 34)).alloc (.cells #[.slice AL s.1.length cL, .int .i64 0, .int .i64 0, .slice none 0 0] 34)).alloc (.cells #[.int .i64 v] 83)).drew.heap[w.heap.size + 1 + 1]? = _ := hpn (w := (w.alloc (.cells #[.slice none 0 0, .int .i64 0, .int .i64 0, .slice none 0 0] 34)).alloc (.cells #[.slice AL s.1.length cL, .int .i64 0, .int .i64 0, .slice none 0 0] 34)) (by simp)
    have LW := ((Le.new w (.cells #[.slice none 0 0, .int .i64 0, .int .i64 0, .slice none 0 0] 34)).trans (L1.trans L2)).drew
    have hzW : w.heap.size + 1 + 1 < (((w.alloc (.cells #[.slice none 0 0, .int .i64 0, .int .i64 0, .slice none 0 0] 34)).alloc (.cells #[.slice AL s.1.length cL, .int .i64 0, .int .i64 0, .slice none 0 0] 34)).alloc (.cells #[.int .i64 v] 83)).drew.heap.size := by show _ < (World.alloc _ _).heap.size; simp
    clear L1 L2
    refine wp_region_Z (fun w' => w'.cell? ⟨w.heap.size + 1 + 1, 0, none⟩ = some (.int .i64 v)) [] (by kernel_rfl) ?_
    generalize (((w.alloc (.cells #[.slice none 0 0, .int .i64 0, .int .i64 0, .slice none 0 0] 34)).alloc (.cells #[.slice AL s.1.length cL, .int .i64 0, .int .i64 0, .slice none 0 0] 34)).alloc (.cells #[.int .i64 v] 83)).drew = W at *
    obtain ⟨r0, r1, r2, r3⟩ := cells4 R0
    have fr := fun k => frz_row (k := k) R0
    obtain ⟨k0, k1, k2, k3⟩ := cells4 R1
    have fk := fun k => frz_row (k := k) R1
    have x6 : W.cell? ⟨w.heap.size + 1 + 1, 0, none⟩ = some (.int .i64 v) := cell_of_row W _ 0 _ _ _ R2
    clear R0 R1 R2
    refine wpAnyZ_take (i := 0) (v := ?_) rfl (by kernel_rfl) (fun _ _ _ h => h) (Or.inl ⟨by rfl, ?_⟩) (x6) ?_
    rotate_left 1
    · (intro w hSw; (try dsimp only at hSw); go_simp; try with_reducible rfl)
    try simp only [Act.put, List.setIfInBounds_toArray, List.set_cons_zero, List.set_cons_succ]
    refine wpAnyZ_take (i := 1) (v := ?_) rfl (by kernel_rfl) (fun _ _ _ h => h) (Or.inl ⟨by rfl, ?_⟩) (x6) ?_
    rotate_left 1
    · (intro w hSw; (try dsimp only at hSw); go_simp; try with_reducible rfl)
    try simp only [Act.put, List.setIfInBounds_toArray, List.set_cons_zero, List.set_cons_succ]
    refine wpAnyZ_take (i := 2) (v := ?_) rfl (by kernel_rfl) (fun _ _ _ h => h) (Or.inl ⟨by rfl, ?_⟩) (x6) ?_
    rotate_left 1
    · (intro w hSw; (try dsimp only at hSw); go_simp; try with_reducible rfl)
    try simp only [Act.put, List.setIfInBounds_toArray, List.set_cons_zero, List.set_cons_succ]
    refine wpAnyZ_one (i := 3) (by kernel_rfl) (ReadyZ.mk rfl (fun K hK => ?_))
    have f1 := fk 1
    go_simp
    have y6 : (W.setCell ⟨w.heap.size + 1, 1, none⟩ (.int .i64 1)).cell? ⟨w.heap.size + 1 + 1, 0, none⟩ = some (.int .i64 v) := (cell_set_other (.inl (by show w.heap.size + 1 ≠ w.heap.size + 1 + 1; omega))).trans x6
    refine hK.out _ _ (fun _ => y6) ?_
    clear hK K
    try simp only [Act.put, List.setIfInBounds_toArray, List.set_cons_zero, List.set_cons_succ]
    refine wpAnyZ_take (i := 4) (v := ?_) rfl (by kernel_rfl) (fun _ _ _ h => h) (Or.inl ⟨by rfl, ?_⟩) (y6) ?_
    rotate_left 1
    · (intro w hSw; (try dsimp only at hSw); go_simp; try with_reducible rfl)
    try simp only [Act.put, List.setIfInBounds_toArray, List.set_cons_zero, List.set_cons_succ]
    refine wpAnyZ_one (i := 5) (by kernel_rfl) (ReadyZ.mk rfl (fun K hK => ?_))
    have f2 : (W.setCell ⟨w.heap.size + 1, 1, none⟩ (.int .i64 1)).frozen? ⟨w.heap.size + 1, 2, none⟩ = false := (fr_set _ _ _ _ _).trans (fk 2)
    have k2b : (W.setCell ⟨w.heap.size + 1, 1, none⟩ (.int .i64 1)).cell? ⟨w.heap.size + 1, 2, none⟩ = some (.int .i64 0) := (cell_set_other (.inr (by decide))).trans k2
    go_simp
    have y7 : ((W.setCell ⟨w.heap.size + 1, 1, none⟩ (.int .i64 1)).setCell ⟨w.heap.size + 1, 2, none⟩ (.int .i64 v)).cell? ⟨w.heap.size + 1 + 1, 0, none⟩ = some (.int .i64 v) := (cell_set_other (.inl (by show w.heap.size + 1 ≠ w.heap.size + 1 + 1; omega))).trans y6
    refine hK.out _ _ (fun _ => y7) ?_
    clear hK K
    try simp only [Act.put, List.setIfInBounds_toArray, List.set_cons_zero, List.set_cons_succ]
    refine wpAnyZ_done (by kernel_rfl) ?_ _
    have k0b : ((W.setCell ⟨w.heap.size + 1, 1, none⟩ (.int .i64 1)).setCell ⟨w.heap.size + 1, 2, none⟩ (.int .i64 v)).cell? ⟨w.heap.size + 1, 0, none⟩ = some (.slice AL s.1.length cL) := (cell_set_other (.inr (by decide))).trans ((cell_set_other (.inr (by decide))).trans k0)
    have k1b : ((W.setCell ⟨w.heap.size + 1, 1, none⟩ (.int .i64 1)).setCell ⟨w.heap.size + 1, 2, none⟩ (.int .i64 v)).cell? ⟨w.heap.size + 1, 1, none⟩ = some (.int .i64 1) := (cell_set_other (.inr (by decide))).trans (cell_set_same k1)
    have k2c : ((W.setCell ⟨w.heap.size + 1, 1, none⟩ (.int .i64 1)).setCell ⟨w.heap.size + 1, 2, none⟩ (.int .i64 v)).cell? ⟨w.heap.size + 1, 2, none⟩ = some (.int .i64 v) := cell_set_same k2b
    have k3b : ((W.setCell ⟨w.heap.size + 1, 1, none⟩ (.int .i64 1)).setCell ⟨w.heap.size + 1, 2, none⟩ (.int .i64 v)).cell? ⟨w.heap.size + 1, 3, none⟩ = some (.slice none 0 0) := (cell_set_other (.inr (by decide))).trans ((cell_set_other (.inr (by decide))).trans k3)
    have hne : w.heap.size + 1 ≠ w.heap.size := by omega
    have s0 : ((W.setCell ⟨w.heap.size + 1, 1, none⟩ (.int .i64 1)).setCell ⟨w.heap.size + 1, 2, none⟩ (.int .i64 v)).cell? ⟨w.heap.size, 0, none⟩ = some (.slice none 0 0) := (cell_set_other (.inl hne)).trans ((cell_set_other (.inl hne)).trans r0)
    have s1 : ((W.setCell ⟨w.heap.size + 1, 1, none⟩ (.int .i64 1)).setCell ⟨w.heap.size + 1, 2, none⟩ (.int .i64 v)).cell? ⟨w.heap.size, 1, none⟩ = some (.int .i64 0) := (cell_set_other (.inl hne)).trans ((cell_set_other (.inl hne)).trans r1)
    have s2 : ((W.setCell ⟨w.heap.size + 1, 1, none⟩ (.int .i64 1)).setCell ⟨w.heap.size + 1, 2, none⟩ (.int .i64 v)).cell? ⟨w.heap.size, 2, none⟩ = some (.int .i64 0) := (cell_set_other (.inl hne)).trans ((cell_set_other (.inl hne)).trans r2)
    have s3 : ((W.setCell ⟨w.heap.size + 1, 1, none⟩ (.int .i64 1)).setCell ⟨w.heap.size + 1, 2, none⟩ (.int .i64 v)).cell? ⟨w.heap.size, 3, none⟩ = some (.slice none 0 0) := (cell_set_other (.inl hne)).trans ((cell_set_other (.inl hne)).trans r3)
    have fs : ∀ k, ((W.setCell ⟨w.heap.size + 1, 1, none⟩ (.int .i64 1)).setCell ⟨w.heap.size + 1, 2, none⟩ (.int .i64 v)).frozen? ⟨w.heap.size, k, none⟩ = false := fun k => (frz_set _ _ _ _ _ _).trans ((frz_set _ _ _ _ _ _).trans (fr k))
    have L5 := (LW.setCell (b := w.heap.size + 1) (o := 1) (by omega) (.int .i64 1)).setCell (b := w.heap.size + 1) (o := 2) (by omega) (.int .i64 v)
    generalize (W.setCell ⟨w.heap.size + 1, 1, none⟩ (.int .i64 1)).setCell ⟨w.heap.size + 1, 2, none⟩ (.int .i64 v) = W5 at *
    have f0 := fs 0
    have f1 := fs 1
    have f2 := fs 2
    have f3 := fs 3
    have ho := out4 (a := .slice AL s.1.length cL) (b := .int .i64 1) (c := .int .i64 v) (d := .slice none 0 0) s0 s1 s2 s3
    clear y6 y7 x6 k0 k1 k2 k3 k2b r0 r1 r2 r3
    go_wp2
    obtain ⟨z0, z1, z2, z3⟩ := ho
    exact bodyPost_ret (v := .agg #[.slice AL s.1.length cL, .int .i64 1, .int .i64 v, .slice none 0 0]) (by simp [results, Try.results35, go_sem, z0, z1, z2, z3]) rfl ⟨_, rfl, Owd.nil _ _ _, (((L5.setCell (by omega) _).setCell (by omega) _).setCell (by omega) _).setCell (by omega) _⟩
  · simp only [isRet, retF, isRai, raiF] at q1 q2
    go_enter Try.func35, Try.ntmps35
    go_wp2
    have L1 := Le.new (w.alloc (.cells #[.slice none 0 0, .int .i64 0, .int .i64 0, .slice none 0 0] 34)) (.cells #[.slice AL s.1.length cL, .int .i64 2, .int .i64 0, .slice none 0 0] 34)
    have L2 := Le.new ((w.alloc (.cells #[.slice none 0 0, .int .i64 0, .int .i64 0, .slice none 0 0] 34)).alloc (.cells #[.slice AL s.1.length cL, .int .i64 2, .int .i64 0, .slice none 0 0] 34)) (.cells #[.int .i64 f] 85)
    have R0 := ((L1.trans L2).drew.block w.heap.size (by simp)).trans (hpn (w := w) rfl)
    have R1 := (L2.drew.block (w.heap.size + 1) (by simp)).trans (hpn (w := w.alloc (.cells #[.slice none 0 0, .int .i64 0, .int .i64 0, .slice none 0 0] 34)) (by simp))
    have R2 : (((w.alloc (.cells #[.slice none 0 0, .int .i64 0, .int .i64 0, .slice none 0 0] 34)).alloc (.cells #[.slice AL s.1.length cL, .int .i64 2, .int .i64 0, .slice none 0 0] 34)).alloc (.cells #[.int .i64 f] 85)).drew.heap[w.heap.size + 1 + 1]? = _ := hpn (w := (w.alloc (.cells #[.slice none 0 0, .int .i64 0, .int .i64 0, .slice none 0 0] 34)).alloc (.cells #[.slice AL s.1.length cL, .int .i64 2, .int .i64 0, .slice none 0 0] 34)) (by simp)
    have LW := ((Le.new w (.cells #[.slice none 0 0, .int .i64 0, .int .i64 0, .slice none 0 0] 34)).trans (L1.trans L2)).drew
    have hzW : w.heap.size + 1 + 1 < (((w.alloc (.cells #[.slice none 0 0, .int .i64 0, .int .i64 0, .slice none 0 0] 34)).alloc (.cells #[.slice AL s.1.length cL, .int .i64 2, .int .i64 0, .slice none 0 0] 34)).alloc (.cells #[.int .i64 f] 85)).drew.heap.size := by show _ < (World.alloc _ _).heap.size; simp
    clear L1 L2
    refine wp_region_noPanic ?_
    refine wp_region_Z (fun w' => w'.cell? ⟨R, 3, none⟩ = some (.slice AH s.2.length cH) ∧ w'.cell? ⟨w.heap.size + 1 + 1, 0, none⟩ = some (.int .i64 f)) [] (by kernel_rfl) ?_
    generalize (((w.alloc (.cells #[.slice none 0 0, .int .i64 0, .int .i64 0, .slice none 0 0] 34)).alloc (.cells #[.slice AL s.1.length cL, .int .i64 2, .int .i64 0, .slice none 0 0] 34)).alloc (.cells #[.int .i64 f] 85)).drew = W at *
    obtain ⟨r0, r1, r2, r3⟩ := cells4 R0
    have fr := fun k => frz_row (k := k) R0
    obtain ⟨k0, k1, k2, k3⟩ := cells4 R1
    have fk := fun k => frz_row (k := k) R1
    have x6 : W.cell? ⟨w.heap.size + 1 + 1, 0, none⟩ = some (.int .i64 f) := cell_of_row W _ 0 _ _ _ R2
    clear R0 R1 R2
    have hf2 := hf f rfl
    have x3 := (LW.cell hz).trans c3
    have SW := (Sl.of_own H.H rfl (by decide) H.okh).le LW
    have GL := Lib.hid gd.lnk
    have hsm2 := hsm.2
    clear H
    refine wpAnyZ_take (i := 0) (v := ?_) rfl (by kernel_rfl) (fun _ _ _ h => h) (Or.inl ⟨by rfl, ?_⟩) (⟨x3, x6⟩) ?_
    rotate_left 1
    · (intro w hSw; (try dsimp only at hSw); go_simp; try with_reducible rfl)
    try simp only [Act.put, List.setIfInBounds_toArray, List.set_cons_zero, List.set_cons_succ]
    refine wpAnyZ_take (i := 1) (v := ?_) rfl (by kernel_rfl) (fun _ _ _ h => h) (Or.inl ⟨by rfl, ?_⟩) (⟨x3, x6⟩) ?_
    rotate_left 1
    · (intro w hSw; (try dsimp only at hSw); go_simp; try with_reducible rfl)
    try simp only [Act.put, List.setIfInBounds_toArray, List.set_cons_zero, List.set_cons_succ]
    refine wpAnyZ_take (i := 2) (v := ?_) rfl (by kernel_rfl) (fun _ _ _ h => h) (Or.inl ⟨by rfl, ?_⟩) (⟨x3, x6⟩) ?_
    rotate_left 1
    · (intro w hSw; (try dsimp only at hSw); go_simp; try with_reducible rfl)
    try simp only [Act.put, List.setIfInBounds_toArray, List.set_cons_zero, List.set_cons_succ]
    refine wpAnyZ_take (i := 3) (v := ?_) rfl (by kernel_rfl) (fun _ _ _ h => h) (Or.inl ⟨by rfl, ?_⟩) (⟨x3, x6⟩) ?_
    rotate_left 1
    · (intro w hSw; (try dsimp only at hSw); go_simp; try with_reducible rfl)
    try simp only [Act.put, List.setIfInBounds_toArray, List.set_cons_zero, List.set_cons_succ]
    refine wpAnyZ_take (i := 4) (v := ?_) rfl (by kernel_rfl) (fun _ _ _ h => h) (Or.inl ⟨by rfl, ?_⟩) (⟨x3, x6⟩) ?_
    rotate_left 1
    · (intro w hSw; (try dsimp only at hSw); go_simp; try with_reducible rfl)
    try simp only [Act.put, List.setIfInBounds_toArray, List.set_cons_zero, List.set_cons_succ]
    refine wpAnyZ_take (i := 5) (v := ?_) rfl (by kernel_rfl) (fun _ _ _ h => h) (Or.inl ⟨by rfl, ?_⟩) (⟨x3, x6⟩) ?_
    rotate_left 1
    · (intro w hSw; (try dsimp only at hSw); go_simp; try with_reducible rfl)
    try simp only [Act.put, List.setIfInBounds_toArray, List.set_cons_zero, List.set_cons_succ]
    refine wpAnyZ_one (i := 6) (by kernel_rfl) (ReadyZ.mk rfl (fun K hK => ?_))
    go_simp
    go_at_call 56
    refine (iIsolate_any AH s.2.length cH s.2 f W SW GL.out hf2.1 hf2.2 (by omega)).mono ?_
    rintro e W2 ⟨v2, rfl, D2, hl2⟩
    replace x3 := (hl2.cell (Nat.lt_of_lt_of_le hz LW.size)).trans x3
    replace x6 := (hl2.cell (by omega)).trans x6
    have hzW2 := Nat.lt_of_lt_of_le hzW hl2.size
    replace r0 := (hl2.cell (by omega)).trans r0
    replace r1 := (hl2.cell (by omega)).trans r1
    replace r2 := (hl2.cell (by omega)).trans r2
    replace r3 := (hl2.cell (by omega)).trans r3
    replace k0 := (hl2.cell (by omega)).trans k0
    replace k1 := (hl2.cell (by omega)).trans k1
    replace k2 := (hl2.cell (by omega)).trans k2
    replace k3 := (hl2.cell (by omega)).trans k3
    replace fr : ∀ k, W2.frozen? ⟨w.heap.size, k, none⟩ = false := fun k => (hl2.frozen (by omega)).trans (fr k)
    replace fk : ∀ k, W2.frozen? ⟨w.heap.size + 1, k, none⟩ = false := fun k => (hl2.frozen (by omega)).trans (fk k)
    have LW2 := LW.trans hl2
    have HD : Hid (∀ b, b < W.heap.size → v2.ownBlock ≠ some b) := fun b hb e => by have := (D2.row.lt _ e).1; omega
    obtain ⟨A2, q2', rfl⟩ := own_form D2.row
    have HD2 := Lib.hid (D2.mono LW)
    generalize (isoL s.2 (reachL s.2 f)).length = ln at *
    clear D2 hl2 SW
    obtain ⟨ix, hix⟩ : ∃ z, idx (reachL s.2 f) f 0 = z := ⟨_, rfl⟩
    have HIX := Lib.hid hix
    rw [hix]
    clear hix
    refine hK.out _ _ (fun _ => ⟨x3, x6⟩) ?_
    clear hK K
    try simp only [Act.put, List.setIfInBounds_toArray, List.set_cons_zero, List.set_cons_succ]
    refine wpAnyZ_take (i := 7) (v := ?_) rfl (by kernel_rfl) (fun _ _ _ h => h) (Or.inl ⟨by rfl, ?_⟩) (⟨x3, x6⟩) ?_
    rotate_left 1
    · (intro w hSw; (try dsimp only at hSw); go_simp; try with_reducible rfl)
    try simp only [Act.put, List.setIfInBounds_toArray, List.set_cons_zero, List.set_cons_succ]
    refine wpAnyZ_take (i := 8) (v := ?_) rfl (by kernel_rfl) (fun _ _ _ h => h) (Or.inl ⟨by rfl, ?_⟩) (⟨x3, x6⟩) ?_
    rotate_left 1
    · (intro w hSw; (try dsimp only at hSw); go_simp; try with_reducible rfl)
    try simp only [Act.put, List.setIfInBounds_toArray, List.set_cons_zero, List.set_cons_succ]
    refine wpAnyZ_take (i := 9) (v := ?_) rfl (by kernel_rfl) (fun _ _ _ h => h) (Or.inl ⟨by rfl, ?_⟩) (⟨x3, x6⟩) ?_
    rotate_left 1
    · (intro w hSw; (try dsimp only at hSw); go_simp; try with_reducible rfl)
    try simp only [Act.put, List.setIfInBounds_toArray, List.set_cons_zero, List.set_cons_succ]
    refine wpAnyZ_take (i := 10) (v := ?_) rfl (by kernel_rfl) (fun _ _ _ h => h) (Or.inl ⟨by rfl, ?_⟩) (⟨x3, x6⟩) ?_
    rotate_left 1
    · (intro w hSw; (try dsimp only at hSw); go_simp; try with_reducible rfl)
    try simp only [Act.put, List.setIfInBounds_toArray, List.set_cons_zero, List.set_cons_succ]
    have hne1 : w.heap.size + 1 ≠ R := by omega
    have hne2 : w.heap.size + 1 ≠ w.heap.size + 1 + 1 := by omega
    have f3 := fk 3
    refine wpAnyZ_one (i := 11) (by kernel_rfl) (ReadyZ.mk rfl (fun K hK => ?_))
    go_simp
    have x3b : (W2.setCell ⟨w.heap.size + 1, 3, none⟩ (.slice A2 ln q2')).cell? ⟨R, 3, none⟩ = some (.slice AH s.2.length cH) := (cell_set_other (.inl hne1)).trans x3
    have x6b : (W2.setCell ⟨w.heap.size + 1, 3, none⟩ (.slice A2 ln q2')).cell? ⟨w.heap.size + 1 + 1, 0, none⟩ = some (.int .i64 f) := (cell_set_other (.inl hne2)).trans x6
    refine hK.out _ _ (fun _ => ⟨x3b, x6b⟩) ?_
    clear hK K
    try simp only [Act.put, List.setIfInBounds_toArray, List.set_cons_zero, List.set_cons_succ]
    refine wpAnyZ_take (i := 12) (v := ?_) rfl (by kernel_rfl) (fun _ _ _ h => h) (Or.inl ⟨by rfl, ?_⟩) (⟨x3b, x6b⟩) ?_
    rotate_left 1
    · (intro w hSw; (try dsimp only at hSw); go_simp; try with_reducible rfl)
    try simp only [Act.put, List.setIfInBounds_toArray, List.set_cons_zero, List.set_cons_succ]
    have f2 : (W2.setCell ⟨w.heap.size + 1, 3, none⟩ (.slice A2 ln q2')).frozen? ⟨w.heap.size + 1, 2, none⟩ = false := (frz_set _ _ _ _ _ _).trans (fk 2)
    have k2b : (W2.setCell ⟨w.heap.size + 1, 3, none⟩ (.slice A2 ln q2')).cell? ⟨w.heap.size + 1, 2, none⟩ = some (.int .i64 0) := (cell_set_other (.inr (by decide))).trans k2
    refine wpAnyZ_one (i := 13) (by kernel_rfl) (ReadyZ.mk rfl (fun K hK => ?_))
    go_simp
    have x3c : ((W2.setCell ⟨w.heap.size + 1, 3, none⟩ (.slice A2 ln q2')).setCell ⟨w.heap.size + 1, 2, none⟩ (.int .i64 ix)).cell? ⟨R, 3, none⟩ = some (.slice AH s.2.length cH) := (cell_set_other (.inl hne1)).trans x3b
    have x6c : ((W2.setCell ⟨w.heap.size + 1, 3, none⟩ (.slice A2 ln q2')).setCell ⟨w.heap.size + 1, 2, none⟩ (.int .i64 ix)).cell? ⟨w.heap.size + 1 + 1, 0, none⟩ = some (.int .i64 f) := (cell_set_other (.inl hne2)).trans x6b
    refine hK.out _ _ (fun _ => ⟨x3c, x6c⟩) ?_
    clear hK K
    try simp only [Act.put, List.setIfInBounds_toArray, List.set_cons_zero, List.set_cons_succ]
    refine wpAnyZ_done (by kernel_rfl) ?_ _
    refine NoPanic.normal ?_
    have k0b : ((W2.setCell ⟨w.heap.size + 1, 3, none⟩ (.slice A2 ln q2')).setCell ⟨w.heap.size + 1, 2, none⟩ (.int .i64 ix)).cell? ⟨w.heap.size + 1, 0, none⟩ = some (.slice AL s.1.length cL) := (cell_set_other (.inr (by decide))).trans ((cell_set_other (.inr (by decide))).trans k0)
    have k1b : ((W2.setCell ⟨w.heap.size + 1, 3, none⟩ (.slice A2 ln q2')).setCell ⟨w.heap.size + 1, 2, none⟩ (.int .i64 ix)).cell? ⟨w.heap.size + 1, 1, none⟩ = some (.int .i64 2) := (cell_set_other (.inr (by decide))).trans ((cell_set_other (.inr (by decide))).trans k1)
    have k2c : ((W2.setCell ⟨w.heap.size + 1, 3, none⟩ (.slice A2 ln q2')).setCell ⟨w.heap.size + 1, 2, none⟩ (.int .i64 ix)).cell? ⟨w.heap.size + 1, 2, none⟩ = some (.int .i64 ix) := cell_set_same k2b
    have k3b : ((W2.setCell ⟨w.heap.size + 1, 3, none⟩ (.slice A2 ln q2')).setCell ⟨w.heap.size + 1, 2, none⟩ (.int .i64 ix)).cell? ⟨w.heap.size + 1, 3, none⟩ = some (.slice A2 ln q2') := (cell_set_other (.inr (by decide))).trans (cell_set_same k3)
    have hne : w.heap.size + 1 ≠ w.heap.size := by omega
    have s0 : ((W2.setCell ⟨w.heap.size + 1, 3, none⟩ (.slice A2 ln q2')).setCell ⟨w.heap.size + 1, 2, none⟩ (.int .i64 ix)).cell? ⟨w.heap.size, 0, none⟩ = some (.slice none 0 0) := (cell_set_other (.inl hne)).trans ((cell_set_other (.inl hne)).trans r0)
    have s1 : ((W2.setCell ⟨w.heap.size + 1, 3, none⟩ (.slice A2 ln q2')).setCell ⟨w.heap.size + 1, 2, none⟩ (.int .i64 ix)).cell? ⟨w.heap.size, 1, none⟩ = some (.int .i64 0) := (cell_set_other (.inl hne)).trans ((cell_set_other (.inl hne)).trans r1)
    have s2 : ((W2.setCell ⟨w.heap.size + 1, 3, none⟩ (.slice A2 ln q2')).setCell ⟨w.heap.size + 1, 2, none⟩ (.int .i64 ix)).cell? ⟨w.heap.size, 2, none⟩ = some (.int .i64 0) := (cell_set_other (.inl hne)).trans ((cell_set_other (.inl hne)).trans r2)
    have s3 : ((W2.setCell ⟨w.heap.size + 1, 3, none⟩ (.slice A2 ln q2')).setCell ⟨w.heap.size + 1, 2, none⟩ (.int .i64 ix)).cell? ⟨w.heap.size, 3, none⟩ = some (.slice none 0 0) := (cell_set_other (.inl hne)).trans ((cell_set_other (.inl hne)).trans r3)
    have fs : ∀ k, ((W2.setCell ⟨w.heap.size + 1, 3, none⟩ (.slice A2 ln q2')).setCell ⟨w.heap.size + 1, 2, none⟩ (.int .i64 ix)).frozen? ⟨w.heap.size, k, none⟩ = false := fun k => (frz_set _ _ _ _ _ _).trans ((frz_set _ _ _ _ _ _).trans (fr k))
    have L5 := (LW2.setCell (b := w.heap.size + 1) (o := 3) (by omega) (.slice A2 ln q2')).setCell (b := w.heap.size + 1) (o := 2) (by omega) (.int .i64 ix)
    have HR9 : Hid (∀ a b c d, Owd 74 w ((((((W2.setCell ⟨w.heap.size + 1, 3, none⟩ (.slice A2 ln q2')).setCell ⟨w.heap.size + 1, 2, none⟩ (.int .i64 ix)).setCell ⟨w.heap.size, 0, none⟩ a).setCell ⟨w.heap.size, 1, none⟩ b).setCell ⟨w.heap.size, 2, none⟩ c).setCell ⟨w.heap.size, 3, none⟩ d) (.slice A2 ln q2') (isoL s.2 (reachL s.2 f))) := fun a b c d => by
      have nb0 := HD.out w.heap.size (by omega)
      have nb1 := HD.out (w.heap.size + 1) (by omega)
      exact (((((HD2.out.setO nb1).setO nb1).setO nb0).setO nb0).setO nb0).setO nb0
    generalize ((W2.setCell ⟨w.heap.size + 1, 3, none⟩ (.slice A2 ln q2')).setCell ⟨w.heap.size + 1, 2, none⟩ (.int .i64 ix)) = W5 at *
    have f0 := fs 0
    have f1 := fs 1
    have f2 := fs 2
    have f3 := fs 3
    have ho := out4 (a := .slice AL s.1.length cL) (b := .int .i64 2) (c := .int .i64 ix) (d := .slice A2 ln q2') s0 s1 s2 s3
    clear x3 x6 x3b x6b x3c x6c k0 k1 k2 k3 k2b r0 r1 r2 r3 HD HD2
    go_wp2
    obtain ⟨z0, z1, z2, z3⟩ := ho
    exact bodyPost_ret (v := .agg #[.slice AL s.1.length cL, .int .i64 2, .int .i64 ix, .slice A2 ln q2']) (by simp [results, Try.results35, go_sem, z0, z1, z2, z3]) rfl ⟨_, ret_val (by rw [← HIX.out]; rfl), HR9.out _ _ _ _, (((L5.setCell (by omega) _).setCell (by omega) _).setCell (by omega) _).setCell (by omega) _⟩
  · simp only [isRet, retF, isRai, raiF] at q1 q2
    go_enter Try.func35, Try.ntmps35
    go_wp2
    obtain ⟨z0, z1, z2, z3⟩ := cells4 (((Le.new (w.alloc (.cells #[.slice AL s.1.length cL, .int .i64 0, .int .i64 0, .slice none 0 0] 34)) (.cells #[.slice AL s.1.length cL, .int .i64 0, .int .i64 0, .slice none 0 0] 34)).block w.heap.size (by simp)).trans (hpn (w := w) (o := .cells #[.slice AL s.1.length cL, .int .i64 0, .int .i64 0, .slice none 0 0] 34) rfl))
    exact bodyPost_ret (v := .agg #[.slice AL s.1.length cL, .int .i64 0, .int .i64 0, .slice none 0 0]) (by simp [results, Try.results35, go_sem, z0, z1, z2, z3]) rfl ⟨_, rfl, Owd.nil _ _ _, ((Le.refl w).alloc _).alloc _⟩
  · simp only [isRet, retF, isRai, raiF] at q1 q2
    go_enter Try.func35, Try.ntmps35
    go_wp2
    obtain ⟨z0, z1, z2, z3⟩ := cells4 (((Le.new (w.alloc (.cells #[.slice AL s.1.length cL, .int .i64 0, .int .i64 0, .slice none 0 0] 34)) (.cells #[.slice AL s.1.length cL, .int .i64 0, .int .i64 0, .slice none 0 0] 34)).block w.heap.size (by simp)).trans (hpn (w := w) (o := .cells #[.slice AL s.1.length cL, .int .i64 0, .int .i64 0, .slice none 0 0] 34) rfl))
    exact bodyPost_ret (v := .agg #[.slice AL s.1.length cL, .int .i64 0, .int .i64 0, .slice none 0 0]) (by simp [results, Try.results35, go_sem, z0, z1, z2, z3]) rfl ⟨_, rfl, Owd.nil _ _ _, ((Le.refl w).alloc _).alloc _⟩
end

section
namespace Chn
theorem Is.map {nx jx φ : Int → Int} {n : Nat} {f : Int} {L : List Int} (h : Is nx f L) (hr : ∀ x ∈ L, x < n) (hi : ∀ x y : Int, φ x = φ y → x = y) (hp : ∀ x : Int, 0 ≤ x → 0 ≤ φ x)
    (hn : ∀ x : Int, 0 ≤ x → x < n → nx x < 0 → jx (φ x) < 0) (hs : ∀ x : Int, 0 ≤ x → x < n → 0 ≤ nx x → jx (φ x) = φ (nx x)) : Is jx (φ f) (L.map φ) := by
  refine ⟨?_, ?_, ?_, ?_, ?_, ?_⟩
  · rw [List.Nodup, List.pairwise_map]
    exact h.nd.imp (fun hab e => hab (hi _ _ e))
  · intro x hx
    obtain ⟨y, hy, rfl⟩ := List.mem_map.1 hx
    exact hp y (h.pos y hy)
  · intro e; exact h.ne (List.map_eq_nil_iff.1 e)
  · rw [List.head?_map, h.hd]; rfl
  · intro k hk
    rw [List.length_map] at hk
    rw [List.getElem_map, List.getElem_map]
    have h1 := h.st k hk
    have h2 := h.pos _ (List.getElem_mem hk)
    rw [h1] at h2 ⊢
    exact (hs _ (h.pos _ (List.getElem_mem _)) (hr _ (List.getElem_mem _)) h2).symm
  · intro x hx
    rw [List.getLast?_map] at hx
    cases hl : L.getLast? with
    | none => rw [hl] at hx; cases hx
    | some y =>
      rw [hl] at hx
      injection hx with hx
      subst hx
      have hm := List.mem_of_getLast? hl
      rcases h.en y hl with h1 | h1
      · exact .inl (hn y (h.pos y hm) (hr y hm) h1)
      · right
        rw [hs y (h.pos y hm) (hr y hm) (h.pos _ h1)]
        exact List.mem_map_of_mem h1
theorem Is.rng {nx : Int → Int} {n : Nat} {f : Int} {L : List Int} (h : Is nx f L) (h1 : f < n) (hb : ∀ x : Int, 0 ≤ x → x < n → nx x < n) : ∀ x ∈ L, x < n := by
  intro x hx
  obtain ⟨k, hk, rfl⟩ := List.getElem_of_mem hx
  have : ∀ k (hk : k < L.length), L[k] < n := by
    intro k
    induction k with
    | zero =>
      intro hk
      have a := h.hd
      rw [List.head?_eq_getElem?, List.getElem?_eq_getElem hk] at a
      injection a with a; omega
    | succ k ih =>
      intro hk
      rw [h.st k hk]
      exact hb _ (h.pos _ (List.getElem_mem _)) (ih (by omega))
  exact this k hk
/-- where chains end, what is carried along ends, too -/
theorem end_map {nx jx φ : Int → Int} {n : Nat} {f : Int} (hE : allEnd nx n) (h0 : 0 ≤ f) (h1 : f < n) (hb : ∀ x : Int, 0 ≤ x → x < n → nx x < n) (hi : ∀ x y : Int, φ x = φ y → x = y) (hp : ∀ x : Int, 0 ≤ x → 0 ≤ φ x)
    (hn : ∀ x : Int, 0 ≤ x → x < n → nx x < 0 → jx (φ x) < 0) (hs : ∀ x : Int, 0 ≤ x → x < n → 0 ≤ nx x → jx (φ x) = φ (nx x)) {M : List Int} (hM : Is jx (φ f) M) {x : Int} (hx : M.getLast? = some x) : jx x < 0 := by
  have hc := chain_is (nx := nx) (n := n) hb h0 h1
  have hr := hc.rng h1 hb
  have hm := hc.map (jx := jx) (φ := φ) hr hi hp hn hs
  rw [hM.uniq hm, List.getLast?_map] at hx
  cases hl : (chainN nx n f).getLast? with
  | none => rw [hl] at hx; cases hx
  | some y =>
    rw [hl] at hx
    injection hx with hx
    subst hx
    have hy := List.mem_of_getLast? hl
    exact hn y (hc.pos y hy) (hr y hy) (hE f h0 h1 _ hc y hl)
end Chn

/-- a fault that comes behind n others -/
def shl (n : Nat) (x : Int) : Int := if x < 0 then x else x + n
def shF (n : Nat) (x : Flt) : Flt := ⟨x.cls, x.code, shl n x.cause, shl n x.ctx, x.hide⟩
def joinL (hs ks : List Flt) : List Flt := hs ++ ks.map (shF hs.length)
theorem joinL_len (hs ks : List Flt) : (joinL hs ks).length = hs.length + ks.length := by unfold joinL; simp
theorem joinL_left {hs ks : List Flt} {i : Nat} (hi : i < (joinL hs ks).length) (hc : i < hs.length) : (joinL hs ks)[i] = hs[i] := List.getElem_append_left hc
theorem joinL_right {hs ks : List Flt} {i : Nat} (hi : i < (joinL hs ks).length) (hc : ¬ i < hs.length) (hk : i - hs.length < ks.length) : (joinL hs ks)[i] = shF hs.length ks[i - hs.length] := by
  have h : (joinL hs ks)[i] = (ks.map (shF hs.length))[i - hs.length]'(by simpa using hk) := List.getElem_append_right (by omega)
  rw [h, List.getElem_map]
theorem ctx_left {hs ks : List Flt} {x : Int} (h0 : 0 ≤ x) (h1 : x < hs.length) : ctxOf (joinL hs ks) x = ctxOf hs x := by
  obtain ⟨i, rfl⟩ := Int.eq_ofNat_of_zero_le h0
  rw [ctxOf_at (by rw [joinL_len]; omega), ctxOf_at (by omega), joinL_left _ (by omega)]
theorem ctx_right {hs ks : List Flt} {x : Int} (h0 : 0 ≤ x) (h1 : x < ks.length) : ctxOf (joinL hs ks) (x + hs.length) = shl hs.length (ctxOf ks x) := by
  obtain ⟨i, rfl⟩ := Int.eq_ofNat_of_zero_le h0
  have e : ((i : Int) + (hs.length : Int)) = ((i + hs.length : Nat) : Int) := by omega
  rw [e, ctxOf_at (by rw [joinL_len]; omega), ctxOf_at (by omega), joinL_right _ (by omega) (by omega)]
  simp [shF]
theorem fOk_parts {xs : List Cls} {n : Nat} {k : Int} {x : Flt} : fOk xs n k x = true ↔ hasK xs x.cls = true ∧ (0 ≤ x.code ∧ x.code ≤ 99) ∧ (-1 ≤ x.cause ∧ x.cause ≤ (n : Int) - 1) ∧ (-1 ≤ x.ctx ∧ x.ctx ≤ (n : Int) - 1) ∧ x.cause ≠ k ∧ x.ctx ≠ k := by
  unfold fOk linksOk
  simp only [Bool.and_eq_true, rng_iff, bne_iff_ne]
  constructor
  · rintro ⟨⟨h1, h2⟩, ⟨⟨h3, h4⟩, h5⟩, h6⟩; exact ⟨h1, h2, h3, h4, h5, h6⟩
  · rintro ⟨h1, h2, h3, h4, h5, h6⟩; exact ⟨⟨h1, h2⟩, ⟨⟨h3, h4⟩, h5⟩, h6⟩
theorem okHeap_fall {xs : List Cls} {hs : List Flt} (h : okHeap xs hs = true) : allF xs hs.length 0 hs = true ∧ endsF hs 0 hs.length = true ∧ okTree xs = true ∧ hs.length ≤ 24 := by
  unfold okHeap at h
  simp only [Bool.and_eq_true, decide_eq_true_eq] at h
  exact ⟨h.1.1.1, h.1.1.2, h.1.2, h.2⟩
theorem okHeap_mk {xs : List Cls} {hs : List Flt} (h1 : ∀ i (h : i < hs.length), fOk xs hs.length (i : Int) hs[i] = true) (h2 : Lnk hs → Chn.allEnd (ctxOf hs) hs.length) (h3 : okTree xs = true) (h4 : hs.length ≤ 24) : okHeap xs hs = true := by
  have ha := allF_mk (xs := xs) (n := hs.length) h1 hs.length 0 (by omega)
  rw [List.drop_zero] at ha
  have hl := lnk_of ha
  unfold okHeap
  rw [ha, (ends_iff hl).2 (h2 hl), h3, decide_eq_true h4]; rfl
theorem okHeap_at {xs : List Cls} {hs : List Flt} (h : okHeap xs hs = true) (i : Nat) (hi : i < hs.length) : fOk xs hs.length (i : Int) hs[i] = true :=
  allF_mem (hs := hs) hs.length 0 (by omega) (by simpa using (okHeap_fall h).1) i hi (Nat.zero_le _)
theorem join_ok {xs : List Cls} {hs ks : List Flt} (h : okHeap xs hs = true) (k : okHeap xs ks = true) : okHeap xs (joinL hs ks) = decide (hs.length + ks.length ≤ 24) := by
  by_cases hl : hs.length + ks.length ≤ 24
  · rw [decide_eq_true hl]
    have gh := goodH_of h
    have gk := goodH_of k
    refine okHeap_mk (fun i hi => ?_) (fun _ => ?_) (okHeap_fall h).2.2.1 (by rw [joinL_len]; exact hl)
    · have hi2 := hi
      rw [joinL_len] at hi2
      rw [fOk_parts, joinL_len]
      by_cases hc : i < hs.length
      · have := fOk_parts.1 (okHeap_at h i hc)
        rw [joinL_left _ hc]
        exact ⟨this.1, this.2.1, by omega, by omega, this.2.2.2.2.1, this.2.2.2.2.2⟩
      · have := fOk_parts.1 (okHeap_at k (i - hs.length) (by omega))
        rw [joinL_right _ hc (by omega)]
        generalize ks[i - hs.length]'(by omega) = x at *
        obtain ⟨a1, a2, a3, a4, a5, a6⟩ := this
        refine ⟨a1, a2, ?_, ?_, ?_, ?_⟩
        all_goals (simp only [shF, shl]; split <;> omega)
    · rw [joinL_len]
      intro f h0 h1 M hM x hx
      by_cases hc : f < hs.length
      · refine Chn.end_map (nx := ctxOf hs) (φ := id) gh.fin h0 hc gh.lnk.ctxlt (fun _ _ e => e) (fun _ e => e) (fun x h0 h1 hn => ?_) (fun x h0 h1 _ => ?_) hM hx
        · show ctxOf _ x < 0; rw [ctx_left h0 h1]; exact hn
        · exact ctx_left h0 h1
      · have e : f = (f - hs.length) + hs.length := by omega
        rw [e] at hM
        refine Chn.end_map (nx := ctxOf ks) (φ := fun x => x + hs.length) (f := f - hs.length) gk.fin (by omega) (by omega) gk.lnk.ctxlt (fun x y e => by simp at e; omega) (fun x e => by show 0 ≤ x + (hs.length : Int); omega) (fun x h0 h1 hn => ?_) (fun x h0 h1 hn => ?_) hM hx
        · show ctxOf _ (x + hs.length) < 0; rw [ctx_right h0 h1]; unfold shl; rw [if_pos hn]; exact hn
        · show ctxOf _ (x + hs.length) = _; rw [ctx_right h0 h1]; unfold shl; rw [if_neg (by omega)]
  · rw [decide_eq_false hl]
    cases hj : okHeap xs (joinL hs ks)
    · rfl
    · have := (okHeap_fall hj).2.2.2; rw [joinL_len] at this; omega
end

section
theorem reach_rng {hs : List Flt} {f x : Int} (h : x ∈ reachL hs f) : 0 ≤ x ∧ x < hs.length := by
  unfold reachL at h
  have := ascOf_mem.1 h
  exact ⟨this.1, this.2.1⟩
theorem idx_none : ∀ (L : List Int) (x k : Int), x ∉ L → idx L x k = -1
  | [], _, _, _ => rfl
  | y :: r, x, k, h => by
    rw [idx, if_neg (fun e => h (by rw [e]; simp)), idx_none r x (k + 1) (fun m => h (List.mem_cons_of_mem _ m))]
theorem idx_get : ∀ (L : List Int), L.Nodup → ∀ (i : Nat) (h : i < L.length) (k : Int), idx L L[i] k = k + i
  | y :: r, nd, 0, h, k => by simp [idx]
  | y :: r, nd, i + 1, h, k => by
    have h' : i < r.length := by simpa using h
    have e : (y :: r)[i + 1] = r[i] := rfl
    have ne : ¬ y = r[i] := fun e2 => (List.nodup_cons.1 nd).1 (by rw [e2]; exact List.getElem_mem _)
    rw [e, idx, if_neg ne, idx_get r (List.nodup_cons.1 nd).2 i h' (k + 1)]
    omega
/-- faults from which no link leads away -/
structure Clo (hs : List Flt) (R : List Int) : Prop where
  nd : R.Nodup
  rng : ∀ x ∈ R, 0 ≤ x ∧ x < hs.length
  cau : ∀ x ∈ R, 0 ≤ cauOf hs x → cauOf hs x ∈ R
  ctx : ∀ x ∈ R, 0 ≤ ctxOf hs x → ctxOf hs x ∈ R
theorem clo_reach {hs : List Flt} (lk : Lnk hs) {f : Int} (h0 : 0 ≤ f) (h1 : f < hs.length) : Clo hs (reachL hs f) := by
  refine ⟨(reachL_asc hs f).imp (fun h e => by omega), fun x hx => reach_rng hx, fun x hx hc => ?_, fun x hx hc => ?_⟩
  · exact (reachL_mem lk h0 h1 _).2 (.one ((reachL_mem lk h0 h1 _).1 hx) hc)
  · exact (reachL_mem lk h0 h1 _).2 (.two ((reachL_mem lk h0 h1 _).1 hx) hc)
theorem iso_len (hs : List Flt) (R : List Int) : (isoL hs R).length = R.length := by unfold isoL; simp
theorem iso_at {hs : List Flt} {R : List Int} (c : Clo hs R) {k : Nat} (hk : k < R.length) (h : k < (isoL hs R).length) :
    ∃ i : Nat, ∃ hi : i < hs.length, R[k] = (i : Int) ∧ (isoL hs R)[k] = ⟨hs[i].cls, hs[i].code, idx R hs[i].cause 0, idx R hs[i].ctx 0, hs[i].hide⟩ := by
  have hr := c.rng _ (List.getElem_mem hk)
  obtain ⟨i, e⟩ := Int.eq_ofNat_of_zero_le hr.1
  have hi : i < hs.length := by omega
  refine ⟨i, hi, e, ?_⟩
  have : (isoL hs R)[k] = isoF hs R R[k] := List.getElem_map (f := isoF hs R) (l := R)
  rw [this, e, isoF_at hi]
/-- from the place in what is isolated to the fault that lies there -/
def upR (R : List Int) (n : Nat) (x : Int) : Int := if x < 0 then x else R[x.toNat]?.getD (n + x)
theorem upR_at {R : List Int} {k : Nat} (h : k < R.length) (n : Nat) : upR R n (k : Int) = R[k] := by
  unfold upR
  rw [if_neg (by omega), Int.toNat_natCast, List.getElem?_eq_getElem h]; rfl
theorem upR_out {R : List Int} {k : Nat} (h : ¬ k < R.length) (n : Nat) : upR R n (k : Int) = n + k := by
  unfold upR
  rw [if_neg (by omega), Int.toNat_natCast, List.getElem?_eq_none (by omega)]; rfl
theorem upR_inj {hs : List Flt} {R : List Int} (c : Clo hs R) (x y : Int) (e : upR R hs.length x = upR R hs.length y) : x = y := by
  have key : ∀ x : Int, (x < 0 ∧ upR R hs.length x = x) ∨ (∃ k : Nat, ∃ h : k < R.length, x = k ∧ upR R hs.length x = R[k] ∧ 0 ≤ R[k] ∧ R[k] < hs.length) ∨ (∃ k : Nat, x = k ∧ upR R hs.length x = hs.length + k) := by
    intro x
    rcases Int.lt_or_le x 0 with h | h
    · left; exact ⟨h, by unfold upR; rw [if_pos h]⟩
    · right
      obtain ⟨k, rfl⟩ := Int.eq_ofNat_of_zero_le h
      by_cases hk : k < R.length
      · left; have := c.rng _ (List.getElem_mem hk); exact ⟨k, hk, rfl, upR_at hk _, this.1, this.2⟩
      · right; exact ⟨k, rfl, upR_out hk _⟩
  rcases key x with ⟨hx, ex⟩ | ⟨k, hk, rfl, ex, ek, el⟩ | ⟨k, rfl, ex⟩ <;> rcases key y with ⟨hy, ey⟩ | ⟨l, hl, rfl, ey, ek2, el2⟩ | ⟨l, rfl, ey⟩ <;> rw [ex, ey] at e
  any_goals omega
  have := Chn.nd_inj c.nd hk hl e
  omega
theorem upR_pos {hs : List Flt} {R : List Int} (c : Clo hs R) (x : Int) (h : 0 ≤ x) : 0 ≤ upR R hs.length x := by
  obtain ⟨k, rfl⟩ := Int.eq_ofNat_of_zero_le h
  by_cases hk : k < R.length
  · rw [upR_at hk]; exact (c.rng _ (List.getElem_mem hk)).1
  · rw [upR_out hk]; omega
/-- a link, as the place of what it leads to -/
theorem idx_lnk {hs : List Flt} {R : List Int} (c : Clo hs R) {x : Int} (h : 0 ≤ x → x ∈ R) : (x < 0 → idx R x 0 = -1) ∧ (0 ≤ x → ∃ k : Nat, ∃ hk : k < R.length, R[k] = x ∧ idx R x 0 = k ∧ upR R hs.length (idx R x 0) = x) := by
  refine ⟨fun hn => idx_none _ _ _ (fun hm => by have := (c.rng x hm).1; omega), fun h0 => ?_⟩
  obtain ⟨k, hk, rfl⟩ := List.getElem_of_mem (h h0)
  have e : idx R R[k] 0 = (k : Int) := by rw [idx_get R c.nd k hk 0]; omega
  exact ⟨k, hk, rfl, e, by rw [e, upR_at hk]⟩
theorem lnk_mem {hs : List Flt} {R : List Int} (c : Clo hs R) {i : Nat} (hi : i < hs.length) (h : (i : Int) ∈ R) : (0 ≤ hs[i].cause → hs[i].cause ∈ R) ∧ (0 ≤ hs[i].ctx → hs[i].ctx ∈ R) := by
  have a := c.cau _ h
  have b := c.ctx _ h
  rw [cauOf_at hi] at a
  rw [ctxOf_at hi] at b
  exact ⟨a, b⟩
theorem iso_ctx {hs : List Flt} {R : List Int} (c : Clo hs R) {k : Nat} (hk : k < R.length) : ctxOf (isoL hs R) (k : Int) = idx R (ctxOf hs R[k]) 0 := by
  have h : k < (isoL hs R).length := by rw [iso_len]; exact hk
  obtain ⟨i, hi, e, e2⟩ := iso_at c hk h
  rw [ctxOf_at h, e2, e, ctxOf_at hi]
/-- a step in what is isolated is a step in the heap -/
structure StepUp (hs : List Flt) (R : List Int) (nx jx : Int → Int) : Prop where
  at_ : ∀ k (hk : k < R.length), nx (k : Int) = idx R (jx R[k]) 0
  in_ : ∀ x ∈ R, 0 ≤ jx x → jx x ∈ R
theorem StepUp.neg {hs : List Flt} {R : List Int} {nx jx : Int → Int} (c : Clo hs R) (s : StepUp hs R nx jx) (x : Int) (h0 : 0 ≤ x) (h1 : x < R.length) (hn : nx x < 0) : jx (upR R hs.length x) < 0 := by
  obtain ⟨k, rfl⟩ := Int.eq_ofNat_of_zero_le h0
  have hk : k < R.length := by omega
  rw [s.at_ k hk] at hn
  rw [upR_at hk]
  rcases Int.lt_or_le (jx R[k]) 0 with h | h
  · exact h
  · obtain ⟨l, _, _, e, _⟩ := (idx_lnk c (s.in_ _ (List.getElem_mem hk))).2 h
    omega
theorem StepUp.pos {hs : List Flt} {R : List Int} {nx jx : Int → Int} (c : Clo hs R) (s : StepUp hs R nx jx) (x : Int) (h0 : 0 ≤ x) (h1 : x < R.length) (hn : 0 ≤ nx x) : jx (upR R hs.length x) = upR R hs.length (nx x) := by
  obtain ⟨k, rfl⟩ := Int.eq_ofNat_of_zero_le h0
  have hk : k < R.length := by omega
  rw [s.at_ k hk] at hn ⊢
  rw [upR_at hk]
  have a := idx_lnk c (s.in_ _ (List.getElem_mem hk))
  rcases Int.lt_or_le (jx R[k]) 0 with h | h
  · have := a.1 h; omega
  · obtain ⟨l, _, _, _, e⟩ := a.2 h
    exact e.symm
theorem StepUp.lt {hs : List Flt} {R : List Int} {nx jx : Int → Int} (c : Clo hs R) (s : StepUp hs R nx jx) (x : Int) (h0 : 0 ≤ x) (h1 : x < R.length) : nx x < R.length := by
  obtain ⟨k, rfl⟩ := Int.eq_ofNat_of_zero_le h0
  have hk : k < R.length := by omega
  rw [s.at_ k hk]
  have a := idx_lnk c (s.in_ _ (List.getElem_mem hk))
  rcases Int.lt_or_le (jx R[k]) 0 with h | h
  · have := a.1 h; omega
  · obtain ⟨l, hl, _, e, _⟩ := a.2 h
    omega
theorem StepUp.is {hs : List Flt} {R : List Int} {nx jx : Int → Int} (c : Clo hs R) (s : StepUp hs R nx jx) {g : Int} {L : List Int} (h1 : g < R.length) (h : Chn.Is nx g L) : Chn.Is jx (upR R hs.length g) (L.map (upR R hs.length)) :=
  h.map (h.rng h1 (s.lt c)) (upR_inj c) (upR_pos c) (fun x a b d => s.neg c x a b d) (fun x a b d => s.pos c x a b d)
theorem su_ctx {hs : List Flt} {R : List Int} (c : Clo hs R) : StepUp hs R (ctxOf (isoL hs R)) (ctxOf hs) := ⟨fun _ hk => iso_ctx c hk, c.ctx⟩
/-- what is isolated is valid -/
theorem ok_iso {xs : List Cls} {hs : List Flt} {R : List Int} (h : okHeap xs hs = true) (c : Clo hs R) : okHeap xs (isoL hs R) = true := by
  have gh := goodH_of h
  have hlen : R.length ≤ hs.length := Chn.nodup_bound hs.length R c.nd c.rng
  refine okHeap_mk (fun k hk => ?_) (fun _ => ?_) (okHeap_fall h).2.2.1 (by rw [iso_len]; have := gh.few; omega)
  · have hk2 : k < R.length := by rw [iso_len] at hk; exact hk
    obtain ⟨i, hi, e, e2⟩ := iso_at c hk2 hk
    have hm : (i : Int) ∈ R := by rw [← e]; exact List.getElem_mem hk2
    have hl := lnk_mem c hi hm
    have a := fOk_parts.1 (okHeap_at h i hi)
    rw [e2, fOk_parts, iso_len]
    have b1 := idx_lnk c hl.1
    have b2 := idx_lnk c hl.2
    have key : ∀ x : Int, (x < 0 → idx R x 0 = -1) ∧ (0 ≤ x → ∃ k : Nat, ∃ hk : k < R.length, R[k] = x ∧ idx R x 0 = k ∧ upR R hs.length (idx R x 0) = x) → x ≠ (i : Int) → (-1 ≤ idx R x 0 ∧ idx R x 0 ≤ (R.length : Int) - 1) ∧ idx R x 0 ≠ (k : Int) := by
      intro x hx hne
      rcases Int.lt_or_le x 0 with h | h
      · rw [hx.1 h]; omega
      · obtain ⟨l, hl, el, e3, _⟩ := hx.2 h
        rw [e3]
        refine ⟨by omega, fun e4 => hne ?_⟩
        have : l = k := by omega
        subst this
        rw [← el, e]
    have k1 := key _ b1 a.2.2.2.2.1
    have k2 := key _ b2 a.2.2.2.2.2
    exact ⟨a.1, a.2.1, k1.1, k2.1, k1.2, k2.2⟩
  · rw [iso_len]
    intro g h0 h1 L hL x hx
    have s := su_ctx c
    have hM := s.is c h1 hL
    have hxm := List.mem_of_getLast? hx
    have hx0 := hL.pos x hxm
    have hx1 := hL.rng h1 (s.lt c) x hxm
    have hlast : (L.map (upR R hs.length)).getLast? = some (upR R hs.length x) := by rw [List.getLast?_map, hx]; rfl
    have hg : 0 ≤ upR R hs.length g ∧ upR R hs.length g < hs.length := by
      obtain ⟨k, rfl⟩ := Int.eq_ofNat_of_zero_le h0
      rw [upR_at (by omega)]; exact c.rng _ (List.getElem_mem _)
    have := gh.fin _ hg.1 hg.2 _ hM _ hlast
    rcases Int.lt_or_le (ctxOf (isoL hs R) x) 0 with h | h
    · exact h
    · rw [s.pos c x hx0 hx1 h] at this
      have := upR_pos c _ h
      omega
end

section
theorem asc_same : ∀ (L M : List Int), L.Pairwise (· < ·) → M.Pairwise (· < ·) → (∀ x, x ∈ L ↔ x ∈ M) → L = M
  | [], [], _, _, _ => rfl
  | [], y :: M, _, _, h => absurd ((h y).2 (by simp)) (by simp)
  | x :: L, [], _, _, h => absurd ((h x).1 (by simp)) (by simp)
  | x :: L, y :: M, hL, hM, h => by
    obtain ⟨h1, h2⟩ := List.pairwise_cons.1 hL
    obtain ⟨h3, h4⟩ := List.pairwise_cons.1 hM
    have e : x = y := by
      have a := (h x).1 (by simp)
      have b := (h y).2 (by simp)
      rcases List.mem_cons.1 a with a | a
      · exact a
      rcases List.mem_cons.1 b with b | b
      · exact b.symm
      · have := h1 y b; have := h3 x a; omega
    subst e
    rw [asc_same L M h2 h4 (fun z => by
      constructor
      · intro hz
        rcases List.mem_cons.1 ((h z).1 (List.mem_cons_of_mem _ hz)) with r | r
        · have := h1 z hz; omega
        · exact r
      · intro hz
        rcases List.mem_cons.1 ((h z).2 (List.mem_cons_of_mem _ hz)) with r | r
        · have := h3 z hz; omega
        · exact r)]
/-- the faults that are told of, the oldest one first -/
def upN (hs : List Flt) : Nat → Int → List Int
  | 0, _ => []
  | n + 1, f => if f < 0 then [] else match hs[f.toNat]? with
    | some x => upN hs n x.ctx ++ [f]
    | none => []
def upC (hs : List Flt) (f : Int) : List Int := upN hs (f + 1).toNat f
theorem upN_neg (hs : List Flt) (n : Nat) {f : Int} (h : f < 0) : upN hs n f = [] := by
  cases n with
  | zero => rfl
  | succ n => unfold upN; rw [if_pos h]
theorem upN_at {hs : List Flt} (n i : Nat) (h : i < hs.length) : upN hs (n + 1) (i : Int) = upN hs n hs[i].ctx ++ [(i : Int)] := by
  rw [upN, if_neg (by omega), Int.toNat_natCast, List.getElem?_eq_getElem h]
theorem upN_fuel {hs : List Flt} (g : Gc hs) : ∀ (n m : Nat) (f : Int), (f + 1).toNat ≤ n → (f + 1).toNat ≤ m → f < (hs.length : Int) → upN hs n f = upN hs m f
  | 0, m, f, h1, _, _ => by rw [upN_neg hs 0 (by omega), upN_neg hs m (by omega)]
  | n + 1, 0, f, _, h2, _ => by rw [upN_neg hs _ (by omega), upN_neg hs 0 (by omega)]
  | n + 1, m + 1, f, h1, h2, h3 => by
    rcases Int.lt_or_le f 0 with h | h
    · rw [upN_neg hs _ h, upN_neg hs _ h]
    · obtain ⟨i, rfl⟩ := Int.eq_ofNat_of_zero_le h
      have hi : i < hs.length := by omega
      have := g i hi
      rw [upN_at n i hi, upN_at m i hi, upN_fuel g n m hs[i].ctx (by omega) (by omega) (by omega)]
theorem upF_neg (hs : List Flt) {f : Int} (h : f < 0) : upC hs f = [] := upN_neg hs _ h
theorem upF_at {hs : List Flt} (g : Gc hs) {i : Nat} (h : i < hs.length) : upC hs (i : Int) = upC hs hs[i].ctx ++ [(i : Int)] := by
  have := g i h
  unfold upC
  rw [show ((i : Int) + 1).toNat = i + 1 by omega, upN_at i i h, upN_fuel g i (hs[i].ctx + 1).toNat _ (by omega) (Nat.le_refl _) (by omega)]
theorem gc_lnk {hs : List Flt} (g : Gc hs) : Lnk hs :=
  ⟨fun i h => by have := g i h; omega, fun i h => by have := g i h; omega, fun i h => by have := g i h; omega⟩
/-- what is told of, as faults that stand alone -/
def hpC : List (Int × Int) → List Flt
  | [] => []
  | x :: r => hpC r ++ [⟨x.1, x.2, -1, (r.length : Int) - 1, false⟩]
theorem hpC_len : ∀ c, (hpC c).length = c.length
  | [] => rfl
  | x :: r => by rw [hpC, List.length_append, hpC_len r]; rfl
structure UpI (hs : List Flt) (f : Int) : Prop where
  len : (upC hs f).length = (chF hs f).length
  rng : ∀ x ∈ upC hs f, 0 ≤ x ∧ x ≤ f
  asc : (upC hs f).Pairwise (· < ·)
  last : 0 ≤ f → ∃ L, upC hs f = L ++ [f]
  mem : ∀ x, x ∈ upC hs f → Rch (cauOf hs) (ctxOf hs) f x
  clo : ∀ x ∈ upC hs f, 0 ≤ ctxOf hs x → ctxOf hs x ∈ upC hs f
theorem upI {hs : List Flt} (g : Gc hs) : ∀ (n : Nat) (f : Int), (f + 1).toNat ≤ n → f < (hs.length : Int) → UpI hs f := by
  intro n
  induction n with
  | zero =>
    intro f h1 _
    have hf : f < 0 := by omega
    rw [show (0 : Nat) = 0 from rfl] at h1
    refine ⟨by rw [upF_neg hs hf, chF_neg hs hf]; rfl, ?_, ?_, fun h => by omega, ?_, ?_⟩ <;> rw [upF_neg hs hf] <;> simp
  | succ n ih =>
    intro f h1 h2
    rcases Int.lt_or_le f 0 with hf | hf
    · refine ⟨by rw [upF_neg hs hf, chF_neg hs hf]; rfl, ?_, ?_, fun h => by omega, ?_, ?_⟩ <;> rw [upF_neg hs hf] <;> simp
    obtain ⟨i, rfl⟩ := Int.eq_ofNat_of_zero_le hf
    have hi : i < hs.length := by omega
    have gi := g i hi
    have I := ih hs[i].ctx (by omega) (by omega)
    have e := upF_at g hi
    have ex := ctxOf_at hi
    refine ⟨?_, ?_, ?_, fun _ => ⟨_, e⟩, ?_, ?_⟩
    · rw [e, chF_at g hi, List.length_append, I.len]; rfl
    · intro x hx
      rw [e] at hx
      rcases List.mem_append.1 hx with h | h
      · have := I.rng x h; omega
      · rw [List.mem_singleton.1 h]; omega
    · rw [e, List.pairwise_append]
      refine ⟨I.asc, by simp, fun x hx y hy => ?_⟩
      rw [List.mem_singleton.1 hy]
      have := I.rng x hx; omega
    · intro x hx
      rw [e] at hx
      rcases List.mem_append.1 hx with h | h
      · have h0 : 0 ≤ hs[i].ctx := by have := I.rng x h; omega
        have : Rch (cauOf hs) (ctxOf hs) (i : Int) (ctxOf hs (i : Int)) := .two .base (by rw [ex]; exact h0)
        rw [ex] at this
        exact this.trans (I.mem x h)
      · rw [List.mem_singleton.1 h]; exact .base
    · intro x hx h0
      rw [e] at hx ⊢
      rcases List.mem_append.1 hx with h | h
      · exact List.mem_append_left _ (I.clo x h h0)
      · rw [List.mem_singleton.1 h, ex] at h0 ⊢
        obtain ⟨L, hL⟩ := I.last h0
        rw [hL]; simp
theorem cau_neg {hs : List Flt} (g : Gc hs) (x : Int) (h0 : 0 ≤ x) (h1 : x < (hs.length : Int)) : cauOf hs x = -1 := by
  obtain ⟨i, rfl⟩ := Int.eq_ofNat_of_zero_le h0
  have hi : i < hs.length := by omega
  rw [cauOf_at hi]; exact (g i hi).1
theorem reach_up {hs : List Flt} (g : Gc hs) {f : Int} (h0 : 0 ≤ f) (h1 : f < (hs.length : Int)) : reachL hs f = upC hs f := by
  have I := upI g _ f (Nat.le_refl _) h1
  refine asc_same _ _ (reachL_asc hs f) I.asc (fun x => ?_)
  rw [reachL_mem (gc_lnk g) h0 h1]
  constructor
  · intro h
    refine Rch.least (S := fun x => x ∈ upC hs f) ?_ ?_ ?_ h
    · obtain ⟨L, hL⟩ := I.last h0
      show f ∈ upC hs f
      rw [hL]; simp
    · intro x hx hc
      have := I.rng x hx
      have := cau_neg g x (by omega) (by omega)
      omega
    · intro x hx hc; exact I.clo x hx hc
  · exact I.mem x
theorem iso_up {hs : List Flt} (g : Gc hs) : ∀ (n : Nat) (f : Int) (R : List Int), (f + 1).toNat ≤ n → f < (hs.length : Int) → (upC hs f ++ R).Nodup → (∀ x ∈ R, 0 ≤ x) → (upC hs f).map (isoF hs (upC hs f ++ R)) = hpC (chF hs f) := by
  intro n
  induction n with
  | zero =>
    intro f R h1 _ _ _
    rw [upF_neg hs (by omega), chF_neg hs (by omega)]; rfl
  | succ n ih =>
    intro f R h1 h2 hn hR
    rcases Int.lt_or_le f 0 with hf | hf
    · rw [upF_neg hs hf, chF_neg hs hf]; rfl
    obtain ⟨i, rfl⟩ := Int.eq_ofNat_of_zero_le hf
    have hi : i < hs.length := by omega
    have gi := g i hi
    have I := upI g _ hs[i].ctx (Nat.le_refl _) (by omega)
    have I0 := upI g _ (i : Int) (Nat.le_refl _) h2
    have e := upF_at g hi
    rw [chF_at g hi, hpC]
    have e2 : upC hs (i : Int) ++ R = upC hs hs[i].ctx ++ ((i : Int) :: R) := by rw [e]; simp
    have hM := ih hs[i].ctx ((i : Int) :: R) (by omega) (by omega) (by rw [← e2]; exact hn) (fun x hx => by
      rcases List.mem_cons.1 hx with h | h
      · omega
      · exact hR x h)
    have hpos : ∀ x ∈ upC hs (i : Int) ++ R, 0 ≤ x := fun x hx => by
      rcases List.mem_append.1 hx with h | h
      · exact (I0.rng x h).1
      · exact hR x h
    have hone : isoF hs (upC hs (i : Int) ++ R) (i : Int) = ⟨hs[i].cls, hs[i].code, -1, ((chF hs hs[i].ctx).length : Int) - 1, false⟩ := by
      rw [isoF_at hi, gi.1, gi.2.1, idx_none _ _ _ (fun h => by have := hpos _ h; omega)]
      congr 1
      rcases Int.lt_or_le hs[i].ctx 0 with hc | hc
      · rw [idx_none _ _ _ (fun h => by have := hpos _ h; omega), chF_neg hs hc]; rfl
      · obtain ⟨L, hL⟩ := I.last hc
        have hlen : L.length + 1 = (chF hs hs[i].ctx).length := by
          rw [← I.len, hL, List.length_append]; rfl
        have e3 : upC hs (i : Int) ++ R = L ++ (hs[i].ctx :: ((i : Int) :: R)) := by rw [e2, hL]; simp
        rw [e3] at hn ⊢
        have hk : L.length < (L ++ (hs[i].ctx :: ((i : Int) :: R))).length := by simp
        have := idx_get (L ++ (hs[i].ctx :: ((i : Int) :: R))) hn L.length hk 0
        rw [List.getElem_append_right (Nat.le_refl _)] at this
        simp only [Nat.sub_self, List.getElem_cons_zero] at this
        rw [this]; omega
    rw [e2] at hone ⊢
    rw [e, List.map_append, hM, List.map_cons, List.map_nil, hone]
theorem iso_ch {hs : List Flt} (g : Gc hs) {f : Int} (h0 : 0 ≤ f) (h1 : f < (hs.length : Int)) : isoL hs (reachL hs f) = hpC (chF hs f) ∧ idx (reachL hs f) f 0 = ((chF hs f).length : Int) - 1 ∧ chF hs f ≠ [] := by
  have I := upI g _ f (Nat.le_refl _) h1
  rw [reach_up g h0 h1]
  have hn : (upC hs f).Nodup := I.asc.imp (fun h => by omega)
  obtain ⟨L, hL⟩ := I.last h0
  have hlen : L.length + 1 = (chF hs f).length := by rw [← I.len, hL, List.length_append]; rfl
  refine ⟨?_, ?_, fun h => by rw [h] at hlen; simp at hlen⟩
  · have := iso_up g _ f [] (Nat.le_refl _) h1 (by rw [List.append_nil]; exact hn) (fun x h => by simp at h)
    rw [List.append_nil] at this; exact this
  · rw [hL] at hn ⊢
    have hk : L.length < (L ++ [f]).length := by simp
    have := idx_get (L ++ [f]) hn L.length hk 0
    rw [List.getElem_append_right (Nat.le_refl _)] at this
    simp only [Nat.sub_self, List.getElem_cons_zero] at this
    rw [this]; omega
end
end Go.Proofs.Ytlepgfccnfcagaa
