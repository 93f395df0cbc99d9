/- one text of RA, RJ -/
import Derived.Test.YtacilbglnhgifaaCe9
import Derived.Test.YtacilbglnhgifaaCe7
import Derived.Test.YtacilbglnhgifaaCe3
import Derived.Deep.RegionHeld3
import Derived.WalkSmall
import Derived.Deep.LoopGhost
namespace Go.Proofs.Ytacilbglnhgifaa
open Go.RowKit
set_option linter.unusedVariables false
section
theorem gx_trans {a b c : World} {r r1 : Option Nat} (h : a.grownBy b r) (k : b.grownBy c r1) (hr : r1 = r ∨ ∃ x, r1 = some x ∧ a.heap.size ≤ x) : a.grownBy c r :=
  ⟨k.os.trans h.os, k.tape.trans h.tape, k.output.trans h.output, Nat.le_trans h.size k.size, fun i hi hne => (k.block i (Nat.lt_of_lt_of_le hi h.size) (fun e => by
    rcases hr with rfl | ⟨x, rfl, hx⟩
    · exact hne e
    · injection e with e; omega)).trans (h.block i hi hne)⟩
theorem gx_new {w w' : World} {r : Option Nat} (h : Le w w') : w.grownBy w' r :=
  ⟨h.os, h.tape, h.output, h.size, fun i hi _ => Below.block h i hi⟩
def RchOut (L : List Int) (b : Nat) (v : Value) (w : World) (e : Ending) (w' : World) : Prop :=
  ∃ v', e = .returned v' ∧ w'.ownsRow b 3 1 v' L.length (L.flatMap Enc.cells) ∧ w.grownBy w' v.ownBlock ∧ (v'.ownBlock = v.ownBlock ∨ ∃ k, v'.ownBlock = some k ∧ w.heap.size ≤ k)

set_option maxHeartbeats 4000000 in
set_option maxRecDepth 100000 in
theorem sReach_any (H : Option Addr) (m c : Nat) (hs : List Flt) (lk : Lnk hs) (hm : m ≤ 2097152) : ∀ (k : Nat) (f : Int) (out : List Int) (b : Nat) (v : Value) (w : World), Sl w H m c hs → f < hs.length → Fnd hs.length out → hs.length + 1 ≤ k + out.length →
    w.ownsRow b 3 1 v out.length (out.flatMap Enc.cells) → b ≤ w.heap.size → (0 < m → ∀ a, H = some a → a.block < b) →
    Calls Try.prog 72 #[.agg #[.slice H m c], .int .i64 f, v] w (RchOut (rgo (cauOf hs) (ctxOf hs) k f out) b v w) := by
  obtain ⟨i0, hi, hz0, hz1, hz2⟩ := info_parts intInfoB
  have HLK := Lib.hid lk
  intro k
  induction k with
  | zero => intro f out b v w _ _ hF hk; have := hF.len; omega
  | succ k ih =>
    intro f out b v w hH hf hF hk O hb hoff
    have HIH := Lib.hid ih; clear ih
    have HOFF := Lib.hid hoff; clear hoff
    have HFN := Lib.hid hF
    have hol := hF.len
    have hlen := hH.len
    obtain ⟨A', c', rfl⟩ := own_form O
    have hok : ∀ x ∈ out, Enc.ok x := fun x hx => by have := hF.rng x hx; exact ⟨by omega, by omega⟩
    obtain ⟨c0, z0, L0⟩ := box1 w (.slice H m c) 33
    have hs0 : (w.alloc (.cells #[.slice H m c] 33)).heap.size = w.heap.size + 1 := by simp
    by_cases hneg : f < 0
    · have HX : Hid (RchOut (rgo (cauOf hs) (ctxOf hs) (k + 1) f out) b (.slice A' out.length c') w (.returned (.slice A' out.length c')) (w.alloc (.cells #[.slice H m c] 33))) := by
        show RchOut _ _ _ _ _ _
        rw [rgo_stop (.inl hneg)]
        exact ⟨_, rfl, own_le O L0, gx_new L0, .inl rfl⟩
      go_enter Try.func72, Try.ntmps72
      go_wp2
      go_ret
      exact HX.out
    · by_cases hin : f ∈ out
      · have HX : Hid (RchOut (rgo (cauOf hs) (ctxOf hs) (k + 1) f out) b (.slice A' out.length c') w (.returned (.slice A' out.length c')) (w.alloc (.cells #[.slice H m c] 33))) := by
          show RchOut _ _ _ _ _ _
          rw [rgo_stop (.inr hin)]
          exact ⟨_, rfl, own_le O L0, gx_new L0, .inl rfl⟩
        have hh := hasI_iff'.2 hin
        have S2 := (Sl.of_own O rfl (by decide) hok).le L0
        clear hin hok
        go_enter Try.func72, Try.ntmps72
        go_wp2_with fail
        refine (hasInt_any _ _ _ out f _ S2).mono ?_
        rintro e w' ⟨rfl, rfl⟩
        rw [hh]
        go_wp2
        go_ret
        exact HX.out
      · obtain ⟨i, rfl⟩ := Int.eq_ofNat_of_zero_le (by omega : 0 ≤ f)
        have hil : i < hs.length := by omega
        have him : (i : Int) < m := by omega
        have hF1 := hF.snoc (f := (i : Int)) (by omega) hf hin
        have HF1 := Lib.hid hF1
        have p1 := rgo_post lk.caultlt lk.ctxlt k (cauOf hs i) (out ++ [(i : Int)]) hF1 (lk.caultlt i (by omega) (by omega)) (by simp; omega)
        have HP1 := Lib.hid p1; clear p1
        have HRG : Hid (rgo (cauOf hs) (ctxOf hs) (k + 1) (i : Int) out = rgo (cauOf hs) (ctxOf hs) k hs[i].ctx (rgo (cauOf hs) (ctxOf hs) k hs[i].cause (out ++ [(i : Int)]))) := by
          show _ = _; rw [rgo_on (by rintro (h | h); omega; exact hin h), cauOf_at hil, ctxOf_at hil]
        have hca := cauOf_at hil
        have hcl := lk.cause i hil
        have hxl := lk.ctx i hil
        rw [hca] at HP1
        have hh := hasI_not hin
        have S2 := (Sl.of_own O rfl (by decide) hok).le L0
        clear hin hok hF1 hca hF
        have hlt0 := O.lt
        replace O := own_le O L0
        obtain ⟨hbk, off, rfl, hbl, k0, k1, q2, q3, k4, -⟩ := hH.flt_at hil
        replace q2 := (L0.cell hbl).trans q2
        replace q3 := (L0.cell hbl).trans q3
        replace hbl := Nat.lt_of_lt_of_le hbl L0.size
        clear k0 k1 k4
        have S1 := hH.le L0
        have hl1 : (out ++ [(i : Int)]).length = out.length + 1 := by simp
        go_enter Try.func72, Try.ntmps72
        go_wp2_with fail
        refine (hasInt_any _ _ _ out (i : Int) _ S2).mono ?_
        rintro e w' ⟨rfl, rfl⟩
        rw [hh]
        clear S2 hh
        generalize w.alloc (.cells #[.slice (some ⟨hbk, off, none⟩) m c] 33) = W at *
        have hsL := L0.size
        have HS0 := Lib.hid hs0; clear hs0
        have hc3 : out.length + 1 ≤ maxLen := by unfold maxLen; omega
        have hc4 : (out.length + 1) * 8 ≤ 140737488355328 := by omega
        have LA := Le.new W (.cells #[.int .i64 (i : Int)] 3)
        have HGB : Hid (∀ k : Nat, (Value.slice A' out.length c').ownBlock = some k → b ≤ k ∧ k < w.heap.size) := hlt0
        clear hlt0
        have q2' := (LA.cell hbl).trans q2
        have q3' := (LA.cell hbl).trans q3
        have c0' := (LA.cell z0).trans c0
        have S1' := S1.le LA
        have hbl' := Nat.lt_of_lt_of_le hbl LA.size
        have hoki : Enc.ok (α := Int) (i : Int) := by show _ ∧ _; omega
        have SX := sl_one (w := W) (cs := #[.int .i64 (i : Int)]) (T := 3) (i : Int) rfl hoki (b := W.heap.size) rfl
        go_wp2_with (first | (at_builtin; go_loud (refine wpList_append_sl rfl _ _ 30 rfl b 3 i0 _ 8 Try.underlying30 hi hz0 hz1 hz2 rfl (.slice A' out.length c') out.length out rfl (O.alloc _) (some ⟨W.heap.size, 0, none⟩) 1 1 [(i : Int)] rfl SX hc3 hc4 (by simp; omega) ?_; intro v1 w1 O1 hg1 hat; replace c0 := hg1.cell (a := ⟨w.heap.size, 0, none⟩) c0' (fun e => by have h := (HGB.out _ e.symm).2; dsimp only at h; omega); replace q2 := hg1.cell (a := ⟨hbk, off + i * 5 + 2, none⟩) q2' (fun e => by have h := (HGB.out _ e.symm).1; have h2 := HOFF.out (by omega) _ rfl; dsimp only at h h2; omega); replace q3 := hg1.cell (a := ⟨hbk, off + i * 5 + 3, none⟩) q3' (fun e => by have h := (HGB.out _ e.symm).1; have h2 := HOFF.out (by omega) _ rfl; dsimp only at h h2; omega))) | fail)
        have sA : (W.alloc (.cells #[.int .i64 (i : Int)] 3)).heap.size = W.heap.size + 1 := by simp
        have sg1 := hg1.size
        have R1 : v1.ownBlock = (Value.slice A' out.length c').ownBlock ∨ ∃ x, v1.ownBlock = some x ∧ w.heap.size + 1 ≤ x := by
          rcases hat with h | h
          · exact .inl h
          · exact .inr ⟨_, h, by have := HS0.out; omega⟩
        have HV1 : ∀ k, v1.ownBlock = some k → b ≤ k ∧ k ≠ w.heap.size := by
          intro k e
          rcases R1 with h | ⟨x, h, hx⟩
          · rw [h] at e; have := HGB.out k e; omega
          · rw [h] at e; injection e with e; omega
        have O2 : w1.ownsRow b 3 1 v1 (out ++ [(i : Int)]).length ((out ++ [(i : Int)]).flatMap Enc.cells) := by rw [hl1]; exact O1
        have S2 := S1'.grown hg1 (fun hn a ea e => by have h := (HGB.out _ e.symm).1; have h2 := HOFF.out hn _ ea; omega)
        have h2 := gx_trans (gx_new (L0.trans LA)) hg1 (.inl rfl)
        have HH2 := Lib.hid h2
        clear h2 O1 q2' q3' c0' S1' S1 hg1 O
        replace c0 := (show w1.drew.cell? _ = _ from c0)
        replace S2 := S2.le (Le.refl _).drew
        replace q2 := (show w1.drew.cell? _ = _ from q2)
        replace q3 := (show w1.drew.cell? _ = _ from q3)
        replace O2 := O2.drew
        have HH2' : Hid (w.grownBy w1.drew (Value.slice A' out.length c').ownBlock) := gx_trans HH2.out (gx_new (r := (Value.slice A' out.length c').ownBlock) (Le.refl w1).drew) (.inl rfl)
        have sD : w1.drew.heap.size = w1.heap.size := rfl
        go_region_held3 (fun w' => w'.cell? ⟨w.heap.size, 0, none⟩ = some (.slice (some ⟨hbk, off, none⟩) m c) ∧ w'.cell? ⟨hbk, off + i * 5 + 2, none⟩ = some (.int .i64 hs[i].cause))
          (exact ⟨c0, q2⟩)
          (first
          | (go_at_call 72; refine (HIH.out hs[i].cause (out ++ [(i : Int)]) b v1 w1.drew S2 hcl.2 HF1.out (by rw [hl1]; omega) O2 (by omega) HOFF.out).mono ?_; rintro e w2 ⟨v2, rfl, O3, hg2, hat2⟩; replace c0 := hg2.cell (a := ⟨w.heap.size, 0, none⟩) c0 (fun e => (HV1 _ e.symm).2 rfl); replace q2 := hg2.cell (a := ⟨hbk, off + i * 5 + 2, none⟩) q2 (fun e => by have h := (HV1 _ e.symm).1; have h2 := HOFF.out (by omega) _ rfl; dsimp only at h h2; omega)))
        have sg2 := hg2.size
        have R2 : v2.ownBlock = (Value.slice A' out.length c').ownBlock ∨ ∃ x, v2.ownBlock = some x ∧ w.heap.size + 1 ≤ x := by
          rcases hat2 with h | ⟨x, h, hx⟩
          · rw [h]; exact R1
          · exact .inr ⟨x, h, by have := HS0.out; omega⟩
        have HV2 : ∀ k, v2.ownBlock = some k → b ≤ k ∧ k ≠ w.heap.size := by
          intro k e
          rcases R2 with h | ⟨x, h, hx⟩
          · rw [h] at e; have := HGB.out k e; omega
          · rw [h] at e; injection e with e; omega
        replace q3 := hg2.cell (a := ⟨hbk, off + i * 5 + 3, none⟩) q3 (fun e => by have h := (HV1 _ e.symm).1; have h2 := HOFF.out (by omega) _ rfl; dsimp only at h h2; omega)
        have S3 := S2.grown hg2 (fun hn a ea e => by have h := (HV1 _ e.symm).1; have h2 := HOFF.out hn _ ea; omega)
        have h3 := gx_trans HH2'.out hg2 (by rcases R1 with h | ⟨x, h, hx⟩; exact .inl h; exact .inr ⟨x, h, by omega⟩)
        have HH3 := Lib.hid h3
        have HR1 := Lib.hid R1; have HR2 := Lib.hid R2; have HHV2 := Lib.hid HV2; have HAT2 := Lib.hid hat2
        clear h3 S2 O2 q2 hg2 R1 R2 HV1 HV2 hat hat2
        go_wp2_with fail
        replace c0 := (show w2.drew.cell? _ = _ from c0)
        replace S3 := S3.le (Le.refl _).drew
        replace q3 := (show w2.drew.cell? _ = _ from q3)
        replace O3 := O3.drew
        have HH3' : Hid (w.grownBy w2.drew (Value.slice A' out.length c').ownBlock) := gx_trans HH3.out (gx_new (r := (Value.slice A' out.length c').ownBlock) (Le.refl w2).drew) (.inl rfl)
        have sD2 : w2.drew.heap.size = w2.heap.size := rfl
        go_region_held3 (fun w' => w'.cell? ⟨w.heap.size, 0, none⟩ = some (.slice (some ⟨hbk, off, none⟩) m c) ∧ w'.cell? ⟨hbk, off + i * 5 + 3, none⟩ = some (.int .i64 hs[i].ctx))
          (exact ⟨c0, q3⟩)
          (first
          | (go_at_call 72; refine (HIH.out hs[i].ctx _ b v2 w2.drew S3 hxl.2 HP1.out.fnd (by obtain ⟨r, hr⟩ := HP1.out.pre; rw [hr]; simp; omega) O3 (by omega) HOFF.out).mono ?_; rintro e w3 ⟨v3, rfl, O4, hg3, hat3⟩; replace c0 := hg3.cell (a := ⟨w.heap.size, 0, none⟩) c0 (fun e => (HHV2.out _ e.symm).2 rfl); replace q3 := hg3.cell (a := ⟨hbk, off + i * 5 + 3, none⟩) q3 (fun e => by have h := (HHV2.out _ e.symm).1; have h2 := HOFF.out (by omega) _ rfl; dsimp only at h h2; omega)))
        have h4 := gx_trans HH3'.out hg3 (by rcases HR2.out with h | ⟨x, h, hx⟩; exact .inl h; exact .inr ⟨x, h, by omega⟩)
        have HF : Hid (RchOut (rgo (cauOf hs) (ctxOf hs) (k + 1) (i : Int) out) b (.slice A' out.length c') w (.returned v3) w3) := by
          show RchOut _ _ _ _ _ _
          rw [HRG.out]
          refine ⟨v3, rfl, O4, h4, ?_⟩
          rcases hat3 with h | ⟨x, h, hx⟩
          · rcases HR2.out with h5 | ⟨x, h5, hx⟩
            · exact .inl (h.trans h5)
            · exact .inr ⟨x, h.trans h5, by omega⟩
          · exact .inr ⟨x, h, by omega⟩
        clear h4 hat3 O4 hg3 c0 q3 O3 S3
        go_wp2
        go_ret
        exact HF.out
end

section
theorem sl_many {α : Type} [Enc α] {w : World} {cs : Array Value} {T : TypeId} (ys : List α) (n : Nat) (hn : ys.length = n) (hm : n ≤ 1048576) (hc : cs.toList = ys.flatMap Enc.cells) (hok : ∀ y ∈ ys, Enc.ok y) {b : Nat} (hb : b = w.heap.size) : Sl (w.alloc (.cells cs T)) (some ⟨b, 0, none⟩) n n ys := by
  subst hb
  refine ⟨hn, Nat.le_refl _, by omega, hok, fun _ => ⟨_, 0, rfl, by simp, fun j u hu => ?_⟩⟩
  rw [← hc] at hu
  rw [Nat.zero_add, World.cell?_alloc_at _ _ _ _ rfl]
  simpa using hu
theorem snoc_of {α : Type} (l : List α) (h : l ≠ []) : ∃ t x, l = t ++ [x] := ⟨l.dropLast, l.getLast h, (List.dropLast_concat_getLast h).symm⟩

set_option maxHeartbeats 8000000 in
set_option maxRecDepth 100000 in
theorem iReach_any (H : Option Addr) (m c : Nat) (hs : List Flt) (f : Int) (w : World) (hH : Sl w H m c hs) (lk : Lnk hs) (h0 : 0 ≤ f) (h1 : f < hs.length) (hm : m ≤ 2097152) :
    Calls Try.prog 77 #[.agg #[.slice H m c], .int .i64 f] w fun e w' => ∃ v, e = .returned v ∧ Owd 3 w w' v (reachL hs f) ∧ Le w w' := by
  obtain rfl := hH.len
  obtain ⟨i0, hi, hz0, hz1, hz2⟩ := info_parts intInfoB
  obtain ⟨j0, hj, hy0, hy1, hy2⟩ := info_parts boolInfo
  have hb2 : j0.bytes * hs.length ≤ 281474976710656 := by rw [hy2]; omega
  have HLC := Lib.hid lk.cause
  have HLX := Lib.hid lk.ctx
  have HCA : Hid (∀ i, i < hs.length → -1 ≤ cauOf hs (i : Int) ∧ cauOf hs (i : Int) < hs.length) := fun i h => by rw [cauOf_at h]; exact lk.cause i h
  have HCX : Hid (∀ i, i < hs.length → -1 ≤ ctxOf hs (i : Int) ∧ ctxOf hs (i : Int) < hs.length) := fun i h => by rw [ctxOf_at h]; exact lk.ctx i h
  have HRE : Hid (∀ fd, RInv (cauOf hs) (ctxOf hs) hs.length f [] fd → mkd fd hs.length = reachL hs f) := fun fd h => mkd_reach lk h0 h1 h
  clear lk
  obtain ⟨c0, z0, L0⟩ := box1 w (.slice H hs.length c) 33
  have hH0 := hH.le L0
  go_enter Try.func77, Try.ntmps77
  go_wp2_with (refine wpList_make_full _ rfl _ _ 117 rfl w.heap.size 4 j0 _ 1 Try.underlying117 hj hy0 hy1 .i64 .i64 _ _ hs.length rfl rfl rfl rfl hb2 (by unfold maxLen; omega) (by simp) ?_; intro w1 OF hg1; rw [made_bools] at OF; have L1 := L0.grown hg1 (by intro k hk; cases hk); have c1 := hg1.cell (a := ⟨w.heap.size, 0, none⟩) c0 (fun e => by cases e); have sg := hg1.size; clear hg1)
  have hgW : (w.alloc (.cells #[.slice H hs.length c] 33)).heap.size = w.heap.size + 1 := by simp
  rw [hgW] at OF
  have hg1 : w.heap.size + 1 < w1.heap.size := (OF.lt _ rfl).2
  clear hgW sg c0 z0 L0 hH0
  have OT0 : (w1.alloc (.cells #[.int .i64 f] 3)).ownsRow w1.heap.size 3 1 (.slice (some ⟨w1.heap.size, 0, none⟩) 1 1) 1 [.int .i64 f] := by
    have := World.ownsRow_lit (base := w1.heap.size) (e := 3) (size := 1) w1 #[.int .i64 f] 1 (Nat.le_refl _) (by unfold maxLen; omega) (by simp)
    simpa using this
  have LA := Le.new w1 (.cells #[.int .i64 f] 3)
  have OF0 := own_le OF LA
  have c0 := (LA.cell (by omega)).trans c1
  have L0 := L1.trans LA
  have hzz := LA.size
  clear LA c1 L1 OF
  go_loopg [6, 7] (3 * hs.length + 1) (fun mm v iv wr => ∃ (td : List Int) (fd : List Bool) (A' : Option Addr) (c' : Nat), v = .slice A' td.length c' ∧ wr.ownsRow w1.heap.size 3 1 (.slice A' td.length c') td.length (td.flatMap Enc.cells) ∧
    wr.ownsRow (w.heap.size + 1) 4 1 (.slice (some ⟨w.heap.size + 1, 0, none⟩) hs.length hs.length) hs.length (fd.flatMap Enc.cells) ∧ RInv (cauOf hs) (ctxOf hs) hs.length f td fd ∧ Le w wr ∧ wr.cell? ⟨w.heap.size, 0, none⟩ = some (.slice H hs.length c) ∧ mm = 3 * unm fd + td.length ∧ w1.heap.size ≤ wr.heap.size ∧ mm ≤ 3 * hs.length + 1)
  case atStart => exact ⟨[f], List.replicate hs.length false, _, _, rfl, by simpa [Enc.cells] using OT0, ⟨OF0.1, OF0.2.imp id (fun ⟨g, cap, cur, hv, hg0, rest⟩ => ⟨g, cap, cur, hv, by injection hv with hv; injection hv with hv; injection hv with hv; omega, rest⟩)⟩, RInv.start h0 h1, L0, c0, by rw [unm_rep]; simp, hzz, Nat.le_refl _⟩
  case round =>
    obtain ⟨td, fd, A', c', rfl, OT, OF, hI, hle, c0, hmm, hsz, hmb⟩ := hrel
    clear OF0 OT0
    have HI := Lib.hid hI
    have hfl := hI.len
    have hHr := hH.le hle
    have z0 : w.heap.size < wr.heap.size := by omega
    have hltT := OT.lt
    have HLT := Lib.hid hltT; clear hltT
    by_cases hne : td = []
    · subst hne
      simp only [List.length_nil]
      simp only [List.length_nil] at OT hmm HLT
      have HR := Lib.hid (HRE.out fd HI.out)
      clear hI
      have HOK : Hid (∀ x ∈ mkd fd hs.length, Enc.ok x) := fun x hx => by
        have h1 := (mkd_mem.1 hx).1
        have h2 := (mkd_mem.1 hx).2.1
        exact ⟨by omega, by omega⟩
      go_wp2
      generalize wr = WO at *
      go_loopw [8, 9, 10, 60] (fun v _ _ q wr => ∃ k : Nat, k ≤ hs.length ∧ q = .int .i64 k ∧ wr.ownsRow WO.heap.size 3 1 v (mkd fd k).length ((mkd fd k).flatMap Enc.cells) ∧ Le WO wr) (fun _ _ _ q _ => hs.length - (intOf q).toNat)
      case atStart => exact ⟨0, Nat.zero_le _, rfl, World.ownsRow_nil _ _ _ _, Le.refl _⟩
      case round =>
        obtain ⟨k, hk, rfl, hown, hle2⟩ := hrel
        have hml := mkd_len (fd := fd) k
        by_cases hkl : k < hs.length
        · have hkf : k < fd.length := by omega
          have OF2 := own_le OF hle2
          have r0 : wr.cell? ⟨w.heap.size + 1, k, none⟩ = some (.bool fd[k]) := by
            rw [OF2.cellAt k (by omega), show (fd.flatMap (Enc.cells (α := Bool)))[k]? = _ from by simpa [Enc.size] using flat_at fd k hkf 0 (by decide)]; rfl
          cases hb : fd[k]
          · rw [hb] at r0
            have HB := Lib.hid (mkd_no hkf hb); clear hb
            go_wp2
            go_roundw
            case rel => exact ⟨k + 1, by omega, by go_num, by rw [HB.out]; exact hown, hle2⟩
            case measure => simp [intOf]; omega
          · rw [hb] at r0
            have HB := Lib.hid (mkd_yes hkf hb); clear hb
            have hc3 : (mkd fd k).length + 1 ≤ maxLen := by unfold maxLen; omega
            have hc4 : ((mkd fd k).length + 1) * 8 ≤ 140737488355328 := by omega
            have hsz3 := hle2.size
            go_wp2_with (at_builtin; refine wpList_append_own _ rfl _ _ 30 rfl WO.heap.size 3 i0 (.int .i64 0) 1 8 Try.underlying30 hi hz0 hz1 hz2 rfl (by decide) _ _ _ rfl (hown.alloc _) ⟨wr.heap.size, 0, none⟩ 1 1 [.int .i64 k] rfl rfl ?c1 ?c2 hc3 hc4 ?c5 ?_)
            case c1 => exact one_newB _ _ _
            case c2 => intro u hu; simp at hu; subst hu; rfl
            case c5 => simp; omega
            intro v1 w3 hown1 hg1 _
            have hle1 := (hle2.alloc (.cells #[.int .i64 (k : Int)] 3)).grown hg1 (fun k hk => (hown.lt k hk).1)
            go_wp2
            go_roundw
            case rel => exact ⟨k + 1, by omega, by go_num, by rw [HB.out]; simpa [Enc.cells] using hown1, hle1⟩
            case measure => simp [intOf]; omega
        · have hk' : k = hs.length := by omega
          have HO : Hid (∀ v, wr.ownsRow WO.heap.size 3 1 v (mkd fd k).length ((mkd fd k).flatMap Enc.cells) → Owd 3 w wr v (reachL hs f)) := fun v hv => by
            subst hk'
            rw [HR.out] at hv
            have := HOK.out
            rw [HR.out] at this
            exact ⟨own_mono hv hle.size, this⟩
          clear hk'
          go_wp2
          go_ret
          exact ⟨_, rfl, HO.out _ hown, hle.trans hle2⟩
    · obtain ⟨t0, i, rfl⟩ := snoc_of td hne
      have hl : (t0 ++ [i]).length = t0.length + 1 := by simp
      have hbi := hI.bnd i (by simp)
      have hbt : ∀ x ∈ t0 ++ [i], Enc.ok x := fun x hx => by have := hI.bnd x hx; exact ⟨by omega, by omega⟩
      clear hI hne
      rw [hl] at OT HLT hmm
      rw [hl]
      rcases OT.2 with ⟨hv, h00⟩ | ⟨gt, ct, cur, hv, _, _, _, hcm, _⟩
      · omega
      injection hv with hv1 hv2 hv3
      subst hv1; subst hv3
      have OP : wr.ownsRow w1.heap.size 3 1 (.slice (some ⟨gt, 0, none⟩) t0.length c') t0.length (t0.flatMap Enc.cells) := by
        refine ownsRow_pop (last := [.int .i64 i]) (by rw [flat_len]; rfl) ?_
        simpa [Enc.cells] using OT
      have hlw : IntKind.i64.wrap ((t0.length : Int) + 1 - 1) = (t0.length : Int) := by rw [Int.add_sub_cancel]; exact IntWalk.i64_in _ (by unfold maxLen at hcm; omega)
      have hlw2 : IntKind.i64.wrap (t0.length : Int) = (t0.length : Int) := IntWalk.i64_in _ (by unfold maxLen at hcm; omega)
      have q0 : wr.cell? ⟨gt, t0.length, none⟩ = some (.int .i64 i) := by
        have := OT.cellAt t0.length (by omega)
        rw [this, List.flatMap_append, List.getElem?_append_right (by rw [flat_len]; show t0.length * 1 ≤ _; omega), flat_len]
        show ([i].flatMap (Enc.cells (α := Int)))[t0.length - t0.length * 1]? = _
        simp [Enc.cells]
      by_cases hi0 : i < 0
      · have HP := Lib.hid (HI.out.pop h0 (.inl hi0))
        go_wp2
        go_roundg (3 * unm fd + t0.length)
        case measure => omega
        case rel => exact ⟨t0, fd, some ⟨gt, 0, none⟩, c', rfl, OP, OF, HP.out, hle, c0, rfl, hsz, by omega⟩
      · obtain ⟨j, rfl⟩ := Int.eq_ofNat_of_zero_le (by omega : 0 ≤ i)
        have hjl : j < hs.length := by omega
        have hjf : j < fd.length := by omega
        have r0 : wr.cell? ⟨w.heap.size + 1, j, none⟩ = some (.bool fd[j]) := by
          rw [OF.cellAt j (by omega), show (fd.flatMap (Enc.cells (α := Bool)))[j]? = _ from by simpa [Enc.size] using flat_at fd j hjf 0 (by decide)]; rfl
        cases hb : fd[j]
        · rw [hb] at r0
          have f0 := OF.frozenAt j
          have HP := Lib.hid (HI.out.push hjl (HCA.out j hjl) (HCX.out j hjl))
          have HU := Lib.hid (unm_set hjf hb)
          obtain ⟨b, off, rfl, hbb, k0, k1, q2, q3, k4, -⟩ := hH.flt_at hjl
          clear k0 k1 k4
          have htl : t0.length ≤ 6291457 := by omega
          have e2 := cauOf_at hjl
          have e3 := ctxOf_at hjl
          rw [← e2] at q2
          rw [← e3] at q3
          have hb2' := HCA.out j hjl
          have hx2' := HCX.out j hjl
          clear e2 e3
          generalize cauOf hs (j : Int) = ca at *
          generalize ctxOf hs (j : Int) = cx at *
          have OF2 := (OF.stored j (.bool true)).1
          rw [flat_bool fd j hjf true] at OF2
          have hgne : gt ≠ w.heap.size + 1 := by have := (HLT.out gt rfl).1; omega
          have OP2 := own_set (b := w.heap.size + 1) (o := j) OP hgne (.bool true)
          have L2 := hle.setCell (b := w.heap.size + 1) (o := j) (by omega) (.bool true)
          have c2 : (wr.setCell ⟨w.heap.size + 1, j, none⟩ (.bool true)).cell? ⟨w.heap.size, 0, none⟩ = some (.slice (some ⟨b, off, none⟩) hs.length c) := (cell_set_other (.inl (by omega))).trans c0
          replace q2 := (L2.cell hbb).trans q2
          replace q3 := (L2.cell hbb).trans q3
          have hsW : (wr.setCell ⟨w.heap.size + 1, j, none⟩ (.bool true)).heap.size = wr.heap.size := by simp [World.setCell]
          have hsW2 : wr.heap.size ≤ (wr.setCell ⟨w.heap.size + 1, j, none⟩ (.bool true)).heap.size := Nat.le_of_eq hsW.symm
          clear hsW
          have hok2 : ∀ y ∈ [ca, cx], Enc.ok y := fun y hy => by simp at hy; rcases hy with rfl | rfl <;> exact ⟨by omega, by omega⟩
          have hgt0 := (HLT.out gt rfl)
          have HGG : Hid (gt = w.heap.size + 1 → False) := hgne
          have HBG : Hid (b = gt → False) := fun e => by omega
          have HWG : Hid (w.heap.size = gt → False) := fun e => by omega
          go_wp2_with fail
          generalize wr.setCell ⟨w.heap.size + 1, j, none⟩ (.bool true) = W at *
          replace c2 := (show W.drew.cell? _ = _ from c2)
          replace q2 := (show W.drew.cell? _ = _ from q2)
          replace q3 := (show W.drew.cell? _ = _ from q3)
          replace OF2 := OF2.drew
          replace OP2 := OP2.drew
          replace L2 := L2.drew
          have LA := Le.new W.drew (.cells #[.int .i64 ca, .int .i64 cx] 3)
          have SX := sl_many (w := W.drew) (cs := #[.int .i64 ca, .int .i64 cx]) (T := 3) [ca, cx] 2 rfl (by omega) rfl hok2 (b := W.heap.size) rfl
          have c3 := (LA.cell (b := w.heap.size) (o := 0) (by show w.heap.size < W.heap.size; omega)).trans c2
          have q4 := (LA.cell (b := b) (by show b < W.heap.size; omega)).trans q2
          have q5 := (LA.cell (b := b) (by show b < W.heap.size; omega)).trans q3
          have hsD : W.drew.heap.size = W.heap.size := rfl
          have sA := LA.size
          go_region_held3 (fun w' => w'.cell? ⟨w.heap.size, 0, none⟩ = some (.slice (some ⟨b, off, none⟩) hs.length c) ∧ w'.cell? ⟨b, off + j * 5 + 2, none⟩ = some (.int .i64 ca) ∧ w'.cell? ⟨b, off + j * 5 + 3, none⟩ = some (.int .i64 cx))
            (first | exact ⟨c2, q2, q3⟩ | exact ⟨c3, q4, q5⟩ | exact ⟨c7, q7, q8⟩)
            (first
            | (refine step_append_sl rfl _ _ 30 rfl w1.heap.size 3 i0 _ 8 Try.underlying30 hi hz0 hz1 hz2 rfl (.slice (some ⟨gt, 0, none⟩) t0.length c') t0.length t0 rfl (OP2.alloc _) (some ⟨W.heap.size, 0, none⟩) 2 2 [ca, cx] rfl SX (by unfold maxLen; omega) (by omega) (Nat.le_trans (show w1.heap.size ≤ W.drew.heap.size by omega) sA) ?_; intro v1 w7 O1 hgg hat; have c7 := hgg.cell (a := ⟨w.heap.size, 0, none⟩) c3 (fun e => HWG.out (by injection e)); have q7 := hgg.cell (a := ⟨b, off + j * 5 + 2, none⟩) q4 (fun e => HBG.out (by injection e)); have q8 := hgg.cell (a := ⟨b, off + j * 5 + 3, none⟩) q5 (fun e => HBG.out (by injection e))))
          have OF7 := (OF2.alloc (.cells #[.int .i64 ca, .int .i64 cx] 3)).kept hgg (.inr (fun e => HGG.out (by injection e with e; exact e.symm)))
          have L7 := (L2.trans LA).grown hgg (fun k hk => by have e : gt = k := by injection hk
                                                             omega)
          have s7 := hgg.size
          have s8 : w1.heap.size ≤ w7.heap.size := Nat.le_trans (Nat.le_trans (show w1.heap.size ≤ W.drew.heap.size by omega) sA) s7
          obtain ⟨A7, q9, rfl⟩ := own_form O1
          have hl2 : (t0 ++ [ca, cx]).length = t0.length + 2 := by simp
          have HL2 := Lib.hid hl2
          clear hl2 hgg hat c2 c3 q2 q3 q4 q5 q7 q8 SX OF2 OP2 LA L2
          go_wp2
          go_roundg (3 * unm (fd.set j true) + (t0.length + 2))
          case measure => have := HU.out; omega
          case rel => exact ⟨t0 ++ [ca, cx], fd.set j true, A7, q9, by rw [HL2.out], by rw [HL2.out]; exact O1, OF7, HP.out, L7, c7, by rw [HL2.out], s8, by have := HU.out; omega⟩
        · rw [hb] at r0
          have HP := Lib.hid (HI.out.pop h0 (.inr ((tr_nat hjf).2 hb)))
          go_wp2
          go_roundg (3 * unm fd + t0.length)
          case measure => omega
          case rel => exact ⟨t0, fd, some ⟨gt, 0, none⟩, c', rfl, OP, OF, HP.out, hle, c0, rfl, hsz, by omega⟩
end
end Go.Proofs.Ytacilbglnhgifaa
