/- spec.validLinks, spec.contexts -/
import Derived.Test.YthcolcmgfhkbeaaHpA
import Derived.Test.YthcolcmgfhkbeaaKB
import Derived.Test.YthcolcmgfhkbeaaAP
namespace Go.Proofs.Ythcolcmgfhkbeaa
open Go.RowKit

theorem rng_any (a b c : Int) (w : World) : Calls Try.prog 31 #[.int .i64 a, .int .i64 b, .int .i64 c] w fun e w' => e = .returned (.bool (rng b c a)) ∧ w = w' := inRange_any a b c w
theorem intInfoB : (Try.prog.info? 3).map (fun i => (i.zero, i.size, i.bytes)) = some (some (.int .i64 0), 1, 8) := by kernel_rfl
theorem one_newB (w : World) (a : Value) (t : TypeId) : ∀ j u, [a][j]? = some u → (w.alloc (.cells #[a] t)).cell? ((⟨w.heap.size, 0, none⟩ : Addr).add j) = some u := by
  intro j u hu
  cases j with
  | zero =>
    simp at hu; subst hu
    show (w.alloc (.cells #[a] t)).cell? ⟨w.heap.size, 0, none⟩ = some a
    rw [World.cell?_alloc_at _ _ _ _ rfl]; rfl
  | succ j => simp at hu

set_option maxHeartbeats 2000000 in
set_option maxRecDepth 100000 in
theorem validLinks_any (H : Option Addr) (n c : Nat) (hs : List Flt) (k : Nat) (hk : k < hs.length) (w : World) (hH : Sl w H n c hs) :
    Calls Try.prog 32 #[.agg #[.slice H n c], .int .i64 k] w fun e w' => e = .returned (.bool (linksOk hs.length k hs[k])) ∧ Le w w' := by
  obtain rfl := hH.len
  have hm := hH.n_le
  obtain ⟨b, off, rfl, hb, k0, k1, k2, k3, k4, _⟩ := hH.flt_at hk
  have hnn : IntKind.i64.wrap ((hs.length : Int) - 1) = (hs.length : Int) - 1 := IntWalk.i64_in _ (by omega)
  have hl : Le w (w.alloc (.cells #[.slice (some ⟨b, off, none⟩) hs.length c] 28)) := Le.new w _
  have HF : Hid (linksOk hs.length k hs[k] = (rng (-1) ((hs.length : Int) - 1) hs[k].cause && rng (-1) ((hs.length : Int) - 1) hs[k].ctx && (hs[k].cause != (k : Int)) && (hs[k].ctx != (k : Int)))) := by show _ = _; rfl
  cases h1 : rng (-1) ((hs.length : Int) - 1) hs[k].cause
  · rw [h1] at HF
    go_enter Try.func32, Try.ntmps32
    go_wp2_with fail
    refine (rng_any _ _ _ _).mono ?_
    rintro e w' ⟨rfl, rfl⟩
    rw [h1]
    go_wp2
    go_ret
    exact ⟨ret_bool (by rw [HF.out]; rfl), hl.alloc _⟩
  · cases h2 : rng (-1) ((hs.length : Int) - 1) hs[k].ctx
    case' true => cases h3 : (hs[k].cause != (k : Int))
    case' true.true => cases h4 : (hs[k].ctx != (k : Int))
    all_goals
      rw [h1, h2] at HF
      try rw [h3] at HF
      try rw [h4] at HF
      go_enter Try.func32, Try.ntmps32
      go_wp2_with fail
      refine (rng_any _ _ _ _).mono ?_
      rintro e w' ⟨rfl, rfl⟩
      rw [h1]
      go_wp2_with fail
      refine (rng_any _ _ _ _).mono ?_
      rintro e w' ⟨rfl, rfl⟩
      rw [h2]
      go_wp2
      go_ret
      exact ⟨ret_bool (by rw [HF.out]; simp), hl.alloc _⟩

theorem go_len {nx : Int → Int} : ∀ (m : Nat) (f : Int) (out : List Int), (Chn.go nx m f out).length ≤ m + out.length
  | 0, _, out => by simp [Chn.go]
  | m + 1, f, out => by
    unfold Chn.go
    split
    · omega
    · have := go_len (nx := nx) m (nx f) (out ++ [f]); simp at this; omega
theorem go_stop {nx : Int → Int} {m : Nat} {f : Int} {out : List Int} (h : f < 0 ∨ f ∈ out) : Chn.go nx m f out = out := by
  cases m with
  | zero => rfl
  | succ m => rw [Chn.go, if_pos h]
theorem go_on {nx : Int → Int} {m : Nat} {f : Int} {out : List Int} (h0 : 0 ≤ f) (h : f ∉ out) : Chn.go nx (m + 1) f out = Chn.go nx m (nx f) (out ++ [f]) := by
  rw [Chn.go, if_neg (by rintro (h1 | h1); omega; exact h h1)]
theorem hasI_not {x : Int} {L : List Int} (h : x ∉ L) : hasI L x = false := by
  cases e : hasI L x
  · rfl
  · exact absurd (hasI_iff'.1 e) h

def slLen : Value → Nat
  | .slice _ n _ => n
  | _ => 0
set_option maxHeartbeats 2000000 in
set_option maxRecDepth 100000 in
theorem contexts_any (H : Option Addr) (n c : Nat) (hs : List Flt) (f : Int) (w : World) (hH : Sl w H n c hs) (lk : Lnk hs) (h0 : 0 ≤ f) (h1 : f < hs.length) (hn : n ≤ 2097152) :
    Calls Try.prog 33 #[.agg #[.slice H n c], .int .i64 f] w fun e w' => ∃ v, e = .returned v ∧ Owd 3 w w' v (chainN (ctxOf hs) hs.length f) ∧ Le w w' := by
  obtain rfl := hH.len
  obtain ⟨i0, hi, hz0, hz1, hz2⟩ := info_parts intInfoB
  have HLT := Lib.hid lk.ctxlt
  have HLK := Lib.hid lk.ctx
  go_enter Try.func33, Try.ntmps33
  go_wp2
  obtain ⟨c0, z0, L0⟩ := box1 w (.slice H hs.length c) 28
  have HZW : Hid (w.heap.size + 1 = (w.alloc (.cells #[.slice H hs.length c] 28)).heap.size) := by show _ = _; simp
  generalize w.alloc (.cells #[.slice H hs.length c] 28) = W at *
  go_loopw [1, 5] (fun q v wr => ∃ (x : Int) (out : List Int) (m : Nat) (A' : Option Addr) (c' : Nat), q = .int .i64 x ∧ -1 ≤ x ∧ v = .slice A' out.length c' ∧ Chn.Pre (ctxOf hs) hs.length f x out ∧ hs.length + 1 ≤ m + out.length ∧ chainN (ctxOf hs) hs.length f = Chn.go (ctxOf hs) m x out ∧
      wr.ownsRow W.heap.size 3 1 (.slice A' out.length c') out.length (out.flatMap Enc.cells) ∧ Le W wr) (fun q v _ => hs.length + 1 - slLen v)
  case atStart => exact ⟨f, [], hs.length + 1, _, _, rfl, by omega, rfl, Chn.Pre.start h1, by simp, rfl, own_empty (Nat.le_refl _) HZW.out, Le.new _ _⟩
  case round =>
    obtain ⟨x, out, m, A', c', rfl, hx0, rfl, hp, hm, hr, O1, hle⟩ := hrel
    have HP := Lib.hid hp
    have hol := hp.len
    have hxl := hp.lt
    have HR := Lib.hid hr
    have LW := L0
    replace c0 := (hle.cell z0).trans c0
    replace z0 := Nat.lt_of_lt_of_le z0 hle.size
    replace L0 := L0.trans hle
    have S1 := hH.le L0
    have hoko : ∀ y ∈ out, Enc.ok y := fun y hy => by
      have := hp.rng y hy
      exact ⟨by omega, by omega⟩
    have HK := Lib.hid hoko
    have S2 : Sl wr A' out.length c' out := Sl.of_own O1 rfl (by decide) hoko
    clear hp hr hoko
    by_cases hneg : x < 0
    · have HF : Hid (Owd 3 w wr (.slice A' out.length c') (chainN (ctxOf hs) hs.length f)) := by
        show Owd _ _ _ _ _
        rw [HR.out, go_stop (.inl hneg)]
        exact ⟨own_mono O1 LW.size, HK.out⟩
      have hd : decide (0 ≤ x) = false := decide_eq_false (by omega)
      go_wp2
      go_ret
      exact ⟨_, rfl, HF.out, L0⟩
    · have hd : decide (0 ≤ x) = true := decide_eq_true (by omega)
      obtain ⟨i, rfl⟩ := Int.eq_ofNat_of_zero_le (by omega : 0 ≤ x)
      have hil : i < hs.length := by omega
      by_cases hin : (i : Int) ∈ out
      · have hh := hasI_iff'.2 hin
        have HF : Hid (Owd 3 w wr (.slice A' out.length c') (chainN (ctxOf hs) hs.length f)) := by
          show Owd _ _ _ _ _
          rw [HR.out, go_stop (.inr hin)]
          exact ⟨own_mono O1 LW.size, HK.out⟩
        clear hin
        go_wp2_with fail
        refine (hasInt_any _ _ _ out _ _ S2).mono ?_
        rintro e w' ⟨rfl, rfl⟩
        rw [hh]
        go_wp2
        go_ret
        exact ⟨_, rfl, HF.out, L0⟩
      · have hh := hasI_not hin
        obtain ⟨m', rfl⟩ : ∃ m', m = m' + 1 := ⟨m - 1, by omega⟩
        have hcx := ctxOf_at hil
        have HN : Hid (chainN (ctxOf hs) hs.length f = Chn.go (ctxOf hs) m' hs[i].ctx (out ++ [(i : Int)])) := by show _ = _; rw [HR.out, go_on (by omega) hin, hcx]
        have hpn := HP.out.step (by omega) hin (HLT.out _ (by omega) hxl)
        rw [hcx] at hpn
        have HPN := Lib.hid hpn
        have hci := HLK.out i hil
        obtain ⟨b, off, rfl, hb, _, _, _, k3, _⟩ := hH.flt_at hil
        have hsz := hle.size
        clear hin hpn hcx HR
        go_wp2_with fail
        refine (hasInt_any _ _ _ out _ _ S2).mono ?_
        rintro e w' ⟨rfl, rfl⟩
        rw [hh]
        clear hh S2
        go_wp2_with (at_builtin; refine wpList_append_own _ rfl _ _ 54 rfl W.heap.size 3 i0 (.int .i64 0) 1 8 Try.underlying54 hi hz0 hz1 hz2 rfl (by decide) _ _ _ rfl (O1.alloc _) ⟨wr.heap.size, 0, none⟩ 1 1 [.int .i64 i] rfl rfl (one_newB _ _ _) (by intro u hu; simp at hu; subst hu; rfl) (by unfold maxLen; omega) (by omega) (by simp; omega) ?_; intro v1 w1 hown1 hg1 _; have hle1 := (hle.alloc (.cells #[.int .i64 (i : Int)] 3)).grown hg1 (fun k hk => (O1.lt k hk).1); have hz1' : w.heap.size ≠ W.heap.size := (by have := HZW.out; omega); have L1 := LW.trans hle1; have c1 := hg1.cell ((World.cell?_alloc_past (.cells #[.int .i64 (i : Int)] 3) _ _ z0).trans c0) (fun e => by have h' : W.heap.size ≤ w.heap.size := (O1.lt _ e.symm).1; have := HZW.out; omega); have k3' := (L1.cell hb).trans k3)
        obtain ⟨A5, q5, rfl⟩ := own_form hown1
        go_roundw
        case rel =>
          refine ⟨hs[i].ctx, out ++ [(i : Int)], m', A5, q5, rfl, hci.1, by simp, HPN.out, by simp; omega, HN.out, ?_, hle1⟩
          simpa [Enc.cells] using hown1
        case measure => simp [slLen]; omega
end Go.Proofs.Ythcolcmgfhkbeaa
