/- spec.reach: what links reach, in a row of the call's own -/
import Derived.Test.YtacilbglnhgifaaPR
import Derived.Test.YtacilbglnhgifaaHpB
import Derived.Test.YtacilbglnhgifaaAP
import Derived.Deep.RegionHeld3
namespace Go.Proofs.Ytacilbglnhgifaa
open Go.RowKit

theorem gx_trans {a b c : World} {r r1 : Option Nat} (h : a.grownBy b r) (k : b.grownBy c r1) (hr : r1 = r ∨ ∃ x, r1 = some x ∧ a.heap.size ≤ x) : a.grownBy c r :=
  ⟨k.os.trans h.os, k.tape.trans h.tape, k.output.trans h.output, Nat.le_trans h.size k.size, fun i hi hne => (k.block i (Nat.lt_of_lt_of_le hi h.size) (fun e => by
    rcases hr with rfl | ⟨x, rfl, hx⟩
    · exact hne e
    · injection e with e; omega)).trans (h.block i hi hne)⟩
theorem gx_new {w w' : World} {r : Option Nat} (h : Le w w') : w.grownBy w' r :=
  ⟨h.os, h.tape, h.output, h.size, fun i hi _ => Below.block h i hi⟩
def RchOut (L : List Int) (b : Nat) (v : Value) (w : World) (e : Ending) (w' : World) : Prop :=
  ∃ v', e = .returned v' ∧ w'.ownsRow b 3 1 v' L.length (L.flatMap Enc.cells) ∧ w.grownBy w' v.ownBlock ∧ (v'.ownBlock = v.ownBlock ∨ ∃ k, v'.ownBlock = some k ∧ w.heap.size ≤ k)

set_option maxHeartbeats 4000000 in
set_option maxRecDepth 100000 in
theorem sReach_any (H : Option Addr) (m c : Nat) (hs : List Flt) (lk : Lnk hs) (hm : m ≤ 2097152) : ∀ (k : Nat) (f : Int) (out : List Int) (b : Nat) (v : Value) (w : World), Sl w H m c hs → f < hs.length → Fnd hs.length out → hs.length + 1 ≤ k + out.length →
    w.ownsRow b 3 1 v out.length (out.flatMap Enc.cells) → b ≤ w.heap.size → (0 < m → ∀ a, H = some a → a.block < b) →
    Calls Try.prog 72 #[.agg #[.slice H m c], .int .i64 f, v] w (RchOut (rgo (cauOf hs) (ctxOf hs) k f out) b v w) := by
  obtain ⟨i0, hi, hz0, hz1, hz2⟩ := info_parts intInfoB
  have HLK := Lib.hid lk
  intro k
  induction k with
  | zero => intro f out b v w _ _ hF hk; have := hF.len; omega
  | succ k ih =>
    intro f out b v w hH hf hF hk O hb hoff
    have HIH := Lib.hid ih; clear ih
    have HOFF := Lib.hid hoff; clear hoff
    have HFN := Lib.hid hF
    have hol := hF.len
    have hlen := hH.len
    obtain ⟨A', c', rfl⟩ := own_form O
    have hok : ∀ x ∈ out, Enc.ok x := fun x hx => by have := hF.rng x hx; exact ⟨by omega, by omega⟩
    obtain ⟨c0, z0, L0⟩ := box1 w (.slice H m c) 33
    have hs0 : (w.alloc (.cells #[.slice H m c] 33)).heap.size = w.heap.size + 1 := by simp
    by_cases hneg : f < 0
    · have HX : Hid (RchOut (rgo (cauOf hs) (ctxOf hs) (k + 1) f out) b (.slice A' out.length c') w (.returned (.slice A' out.length c')) (w.alloc (.cells #[.slice H m c] 33))) := by
        show RchOut _ _ _ _ _ _
        rw [rgo_stop (.inl hneg)]
        exact ⟨_, rfl, own_le O L0, gx_new L0, .inl rfl⟩
      go_enter Try.func72, Try.ntmps72
      go_wp2
      go_ret
      exact HX.out
    · by_cases hin : f ∈ out
      · have HX : Hid (RchOut (rgo (cauOf hs) (ctxOf hs) (k + 1) f out) b (.slice A' out.length c') w (.returned (.slice A' out.length c')) (w.alloc (.cells #[.slice H m c] 33))) := by
          show RchOut _ _ _ _ _ _
          rw [rgo_stop (.inr hin)]
          exact ⟨_, rfl, own_le O L0, gx_new L0, .inl rfl⟩
        have hh := hasI_iff'.2 hin
        have S2 := (Sl.of_own O rfl (by decide) hok).le L0
        clear hin hok
        go_enter Try.func72, Try.ntmps72
        go_wp2_with fail
        refine (hasInt_any _ _ _ out f _ S2).mono ?_
        rintro e w' ⟨rfl, rfl⟩
        rw [hh]
        go_wp2
        go_ret
        exact HX.out
      · obtain ⟨i, rfl⟩ := Int.eq_ofNat_of_zero_le (by omega : 0 ≤ f)
        have hil : i < hs.length := by omega
        have him : (i : Int) < m := by omega
        have hF1 := hF.snoc (f := (i : Int)) (by omega) hf hin
        have HF1 := Lib.hid hF1
        have p1 := rgo_post lk.caultlt lk.ctxlt k (cauOf hs i) (out ++ [(i : Int)]) hF1 (lk.caultlt i (by omega) (by omega)) (by simp; omega)
        have HP1 := Lib.hid p1; clear p1
        have HRG : Hid (rgo (cauOf hs) (ctxOf hs) (k + 1) (i : Int) out = rgo (cauOf hs) (ctxOf hs) k hs[i].ctx (rgo (cauOf hs) (ctxOf hs) k hs[i].cause (out ++ [(i : Int)]))) := by
          show _ = _; rw [rgo_on (by rintro (h | h); omega; exact hin h), cauOf_at hil, ctxOf_at hil]
        have hca := cauOf_at hil
        have hcl := lk.cause i hil
        have hxl := lk.ctx i hil
        rw [hca] at HP1
        have hh := hasI_not hin
        have S2 := (Sl.of_own O rfl (by decide) hok).le L0
        clear hin hok hF1 hca hF
        have hlt0 := O.lt
        replace O := own_le O L0
        obtain ⟨hbk, off, rfl, hbl, k0, k1, q2, q3, k4, -⟩ := hH.flt_at hil
        replace q2 := (L0.cell hbl).trans q2
        replace q3 := (L0.cell hbl).trans q3
        replace hbl := Nat.lt_of_lt_of_le hbl L0.size
        clear k0 k1 k4
        have S1 := hH.le L0
        have hl1 : (out ++ [(i : Int)]).length = out.length + 1 := by simp
        go_enter Try.func72, Try.ntmps72
        go_wp2_with fail
        refine (hasInt_any _ _ _ out (i : Int) _ S2).mono ?_
        rintro e w' ⟨rfl, rfl⟩
        rw [hh]
        clear S2 hh
        generalize w.alloc (.cells #[.slice (some ⟨hbk, off, none⟩) m c] 33) = W at *
        have hsL := L0.size
        have HS0 := Lib.hid hs0; clear hs0
        have hc3 : out.length + 1 ≤ maxLen := by unfold maxLen; omega
        have hc4 : (out.length + 1) * 8 ≤ 140737488355328 := by omega
        have LA := Le.new W (.cells #[.int .i64 (i : Int)] 3)
        have HGB : Hid (∀ k : Nat, (Value.slice A' out.length c').ownBlock = some k → b ≤ k ∧ k < w.heap.size) := hlt0
        clear hlt0
        have q2' := (LA.cell hbl).trans q2
        have q3' := (LA.cell hbl).trans q3
        have c0' := (LA.cell z0).trans c0
        have S1' := S1.le LA
        have hbl' := Nat.lt_of_lt_of_le hbl LA.size
        have hoki : Enc.ok (α := Int) (i : Int) := by show _ ∧ _; omega
        have SX := sl_one (w := W) (cs := #[.int .i64 (i : Int)]) (T := 3) (i : Int) rfl hoki (b := W.heap.size) rfl
        go_wp2_with (first | (at_builtin; go_loud (refine wpList_append_sl rfl _ _ 30 rfl b 3 i0 _ 8 Try.underlying30 hi hz0 hz1 hz2 rfl (.slice A' out.length c') out.length out rfl (O.alloc _) (some ⟨W.heap.size, 0, none⟩) 1 1 [(i : Int)] rfl SX hc3 hc4 (by simp; omega) ?_; intro v1 w1 O1 hg1 hat; replace c0 := hg1.cell (a := ⟨w.heap.size, 0, none⟩) c0' (fun e => by have h := (HGB.out _ e.symm).2; dsimp only at h; omega); replace q2 := hg1.cell (a := ⟨hbk, off + i * 5 + 2, none⟩) q2' (fun e => by have h := (HGB.out _ e.symm).1; have h2 := HOFF.out (by omega) _ rfl; dsimp only at h h2; omega); replace q3 := hg1.cell (a := ⟨hbk, off + i * 5 + 3, none⟩) q3' (fun e => by have h := (HGB.out _ e.symm).1; have h2 := HOFF.out (by omega) _ rfl; dsimp only at h h2; omega))) | fail)
        have sA : (W.alloc (.cells #[.int .i64 (i : Int)] 3)).heap.size = W.heap.size + 1 := by simp
        have sg1 := hg1.size
        have R1 : v1.ownBlock = (Value.slice A' out.length c').ownBlock ∨ ∃ x, v1.ownBlock = some x ∧ w.heap.size + 1 ≤ x := by
          rcases hat with h | h
          · exact .inl h
          · exact .inr ⟨_, h, by have := HS0.out; omega⟩
        have HV1 : ∀ k, v1.ownBlock = some k → b ≤ k ∧ k ≠ w.heap.size := by
          intro k e
          rcases R1 with h | ⟨x, h, hx⟩
          · rw [h] at e; have := HGB.out k e; omega
          · rw [h] at e; injection e with e; omega
        have O2 : w1.ownsRow b 3 1 v1 (out ++ [(i : Int)]).length ((out ++ [(i : Int)]).flatMap Enc.cells) := by rw [hl1]; exact O1
        have S2 := S1'.grown hg1 (fun hn a ea e => by have h := (HGB.out _ e.symm).1; have h2 := HOFF.out hn _ ea; omega)
        have h2 := gx_trans (gx_new (L0.trans LA)) hg1 (.inl rfl)
        have HH2 := Lib.hid h2
        clear h2 O1 q2' q3' c0' S1' S1 hg1 O
        replace c0 := (show w1.drew.cell? _ = _ from c0)
        replace S2 := S2.le (Le.refl _).drew
        replace q2 := (show w1.drew.cell? _ = _ from q2)
        replace q3 := (show w1.drew.cell? _ = _ from q3)
        replace O2 := O2.drew
        have HH2' : Hid (w.grownBy w1.drew (Value.slice A' out.length c').ownBlock) := gx_trans HH2.out (gx_new (r := (Value.slice A' out.length c').ownBlock) (Le.refl w1).drew) (.inl rfl)
        have sD : w1.drew.heap.size = w1.heap.size := rfl
        go_region_held3 (fun w' => w'.cell? ⟨w.heap.size, 0, none⟩ = some (.slice (some ⟨hbk, off, none⟩) m c) ∧ w'.cell? ⟨hbk, off + i * 5 + 2, none⟩ = some (.int .i64 hs[i].cause))
          (exact ⟨c0, q2⟩)
          (first
          | (go_at_call 72; refine (HIH.out hs[i].cause (out ++ [(i : Int)]) b v1 w1.drew S2 hcl.2 HF1.out (by rw [hl1]; omega) O2 (by omega) HOFF.out).mono ?_; rintro e w2 ⟨v2, rfl, O3, hg2, hat2⟩; replace c0 := hg2.cell (a := ⟨w.heap.size, 0, none⟩) c0 (fun e => (HV1 _ e.symm).2 rfl); replace q2 := hg2.cell (a := ⟨hbk, off + i * 5 + 2, none⟩) q2 (fun e => by have h := (HV1 _ e.symm).1; have h2 := HOFF.out (by omega) _ rfl; dsimp only at h h2; omega)))
        have sg2 := hg2.size
        have R2 : v2.ownBlock = (Value.slice A' out.length c').ownBlock ∨ ∃ x, v2.ownBlock = some x ∧ w.heap.size + 1 ≤ x := by
          rcases hat2 with h | ⟨x, h, hx⟩
          · rw [h]; exact R1
          · exact .inr ⟨x, h, by have := HS0.out; omega⟩
        have HV2 : ∀ k, v2.ownBlock = some k → b ≤ k ∧ k ≠ w.heap.size := by
          intro k e
          rcases R2 with h | ⟨x, h, hx⟩
          · rw [h] at e; have := HGB.out k e; omega
          · rw [h] at e; injection e with e; omega
        replace q3 := hg2.cell (a := ⟨hbk, off + i * 5 + 3, none⟩) q3 (fun e => by have h := (HV1 _ e.symm).1; have h2 := HOFF.out (by omega) _ rfl; dsimp only at h h2; omega)
        have S3 := S2.grown hg2 (fun hn a ea e => by have h := (HV1 _ e.symm).1; have h2 := HOFF.out hn _ ea; omega)
        have h3 := gx_trans HH2'.out hg2 (by rcases R1 with h | ⟨x, h, hx⟩; exact .inl h; exact .inr ⟨x, h, by omega⟩)
        have HH3 := Lib.hid h3
        have HR1 := Lib.hid R1; have HR2 := Lib.hid R2; have HHV2 := Lib.hid HV2; have HAT2 := Lib.hid hat2
        clear h3 S2 O2 q2 hg2 R1 R2 HV1 HV2 hat hat2
        go_wp2_with fail
        replace c0 := (show w2.drew.cell? _ = _ from c0)
        replace S3 := S3.le (Le.refl _).drew
        replace q3 := (show w2.drew.cell? _ = _ from q3)
        replace O3 := O3.drew
        have HH3' : Hid (w.grownBy w2.drew (Value.slice A' out.length c').ownBlock) := gx_trans HH3.out (gx_new (r := (Value.slice A' out.length c').ownBlock) (Le.refl w2).drew) (.inl rfl)
        have sD2 : w2.drew.heap.size = w2.heap.size := rfl
        go_region_held3 (fun w' => w'.cell? ⟨w.heap.size, 0, none⟩ = some (.slice (some ⟨hbk, off, none⟩) m c) ∧ w'.cell? ⟨hbk, off + i * 5 + 3, none⟩ = some (.int .i64 hs[i].ctx))
          (exact ⟨c0, q3⟩)
          (first
          | (go_at_call 72; refine (HIH.out hs[i].ctx _ b v2 w2.drew S3 hxl.2 HP1.out.fnd (by obtain ⟨r, hr⟩ := HP1.out.pre; rw [hr]; simp; omega) O3 (by omega) HOFF.out).mono ?_; rintro e w3 ⟨v3, rfl, O4, hg3, hat3⟩; replace c0 := hg3.cell (a := ⟨w.heap.size, 0, none⟩) c0 (fun e => (HHV2.out _ e.symm).2 rfl); replace q3 := hg3.cell (a := ⟨hbk, off + i * 5 + 3, none⟩) q3 (fun e => by have h := (HHV2.out _ e.symm).1; have h2 := HOFF.out (by omega) _ rfl; dsimp only at h h2; omega)))
        have h4 := gx_trans HH3'.out hg3 (by rcases HR2.out with h | ⟨x, h, hx⟩; exact .inl h; exact .inr ⟨x, h, by omega⟩)
        have HF : Hid (RchOut (rgo (cauOf hs) (ctxOf hs) (k + 1) (i : Int) out) b (.slice A' out.length c') w (.returned v3) w3) := by
          show RchOut _ _ _ _ _ _
          rw [HRG.out]
          refine ⟨v3, rfl, O4, h4, ?_⟩
          rcases hat3 with h | ⟨x, h, hx⟩
          · rcases HR2.out with h5 | ⟨x, h5, hx⟩
            · exact .inl (h.trans h5)
            · exact .inr ⟨x, h.trans h5, by omega⟩
          · exact .inr ⟨x, h, by omega⟩
        clear h4 hat3 O4 hg3 c0 q3 O3 S3
        go_wp2
        go_ret
        exact HF.out
end Go.Proofs.Ytacilbglnhgifaa
