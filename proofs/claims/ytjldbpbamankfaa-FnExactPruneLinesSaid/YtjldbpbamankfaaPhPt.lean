/- tables: PruneLines of the program -/
import Derived.Test.YtjldbpbamankfaaPhPs
namespace Go.Proofs.Ytjldbpbamankfaa
open Go.RowKit
theorem prF_step {p : List Lin} {m i : Nat} (hi : i < p.length) : prF p (m + 1) i = if mkJ p p.length i = true then prF p m (i + 1) else p[i] :: prF p m (i + 1) := by
  show (match p[i]? with | some x => _ | none => _) = _
  rw [List.getElem?_eq_getElem hi]
theorem prF_stop {p : List Lin} {m i : Nat} (hi : ¬ i < p.length) : prF p m i = [] := by
  cases m with
  | zero => rfl
  | succ m =>
    show (match p[i]? with | some x => _ | none => _) = _
    rw [List.getElem?_eq_none (by omega)]
set_option maxHeartbeats 1000000 in
set_option maxRecDepth 100000 in
theorem iPruneLines_any (B A : Option Addr) (m c n cap : Nat) (xs : List Cls) (p : List Lin) (hm : m ≤ 1048576) (w : World) (hT : Sl w B m c xs) (hR : Sl w A n cap p) :
    Calls Try.prog 34 #[.agg #[.slice B m c], .slice A n cap] w fun e w' => ∃ v, e = .returned v ∧ Owd 52 w w' v (pnX xs p) ∧ Le w w' := by
  obtain ⟨i0, hq, hz0, hz1, hz2⟩ := info_parts infoLn
  have HX : Hid (pnX xs p = cond (vp xs p) (prL p) []) := rfl
  go_enter Try.func34, Try.ntmps34
  go_wp2_with fail
  obtain ⟨ct, zt, hleB⟩ := box1 w (.slice B m c) 32
  have L0 := hleB
  clear hleB
  generalize w.alloc (.cells #[.slice B m c] 32) = W at *
  refine (pValidProgram_any B A m c n cap xs p hm _ (hT.le L0) (hR.le L0)).mono ?_
  rintro e w1 ⟨rfl, hle⟩
  have L1 := L0.trans hle
  cases h : vp xs p
  · have HO : Hid (Owd 52 w w1 (.slice none 0 0) (pnX xs p)) := by show Owd _ _ _ _ _; rw [HX.out, h]; exact Owd.nil _ _ _
    go_wp2
    go_ret
    exact ⟨_, rfl, HO.out, L1⟩
  · have g := goodP_of h
    have hp := g.len
    have HY : Hid (pnX xs p = prL p) := by show _ = _; rw [HX.out, h]; rfl
    have HOK : Hid (∀ x ∈ prL p, Enc.ok x) := prF_ok hR.ok p.length 0
    have HLN : Hid ((prL p).length ≤ p.length) := prF_len p p.length 0
    have HP0 : Hid (prL p = prF p p.length 0) := rfl
    obtain rfl := hR.len
    have HRO := Lib.hid hR.ok
    have S1 := hR.le L1
    clear HX h g hT hR hle
    go_wp2_with fail
    refine (behindJumps_any _ p.length cap p (by omega) w1 S1).mono ?_
    rintro e w2 ⟨rfl, OM, hle2⟩
    have L2 := L1.trans hle2
    have S2 := S1.le hle2
    have hml := mjL_len p p.length
    have HMA : Hid (∀ x (h : x < (mjL p p.length).length), (mjL p p.length)[x] = mkJ p p.length x) := fun x h => mjL_at h
    go_wp2
    have OE : w2.ownsRow w2.heap.size 52 4 (.slice none 0 0) ([] : List Lin).length (([] : List Lin).flatMap Enc.cells) := World.ownsRow_nil _ _ _ _
    go_loopw [5, 6, 7, 15] (fun v _ _ q wr => ∃ (k m : Nat) (out : List Lin), k ≤ p.length ∧ q = .int .i64 k ∧ p.length ≤ m + k ∧ prL p = out ++ prF p m k ∧ wr.ownsRow w2.heap.size 52 4 v out.length (out.flatMap Enc.cells) ∧ Le w2 wr) (fun _ _ _ q _ => p.length - (intOf q).toNat)
    case atStart => exact ⟨0, p.length, [], Nat.zero_le _, rfl, by omega, HP0.out, OE, Le.refl _⟩
    case round =>
      obtain ⟨k, m, out, hk, rfl, hm, he, O1, L⟩ := hrel
      have HE := Lib.hid he
      have hol : out.length ≤ p.length := by have := HLN.out; rw [he, List.length_append] at this; omega
      have T := S2.le L
      have OM2 := own_le OM L
      have hLs := L.size
      clear he OE HP0
      by_cases hlt : k < p.length
      · obtain ⟨m', rfl⟩ : ∃ m', m = m' + 1 := ⟨m - 1, by omega⟩
        have HS := Lib.hid (prF_step (m := m') hlt)
        have hokx := HRO.out _ (List.getElem_mem hlt)
        have r0 := cell_bool OM2 (k := k) (by omega) hml
        rw [HMA.out] at r0
        have hk0 : (0 : Int) ≤ (k : Int) := by omega
        have hkn : (k : Int) < (p.length : Int) := by omega
        cases hb : mkJ p p.length k
        · rw [hb] at r0
          have HN : Hid (prL p = (out ++ [p[k]]) ++ prF p m' (k + 1)) := by show _ = _; rw [HE.out, HS.out, if_neg (by rw [hb]; simp), List.append_assoc]; rfl
          obtain ⟨b, off, rfl, hbz, d0, d1, d2, d3, -⟩ := T.lin_at hlt
          have HPK : Hid (p[k] = ⟨p[k].depth, p[k].kind, p[k].a, p[k].b⟩) := rfl
          rw [HPK.out] at hokx HN
          generalize p[k].depth = vd at *
          generalize p[k].kind = vk at *
          generalize p[k].a = va at *
          generalize p[k].b = vb at *
          clear HE HS hb HPK
          go_wp2_with (at_builtin; refine wpList_append_sl rfl _ _ 34 rfl w2.heap.size 52 i0 _ 32 Try.underlying34 hq hz0 hz1 hz2 rfl _ out.length out rfl (O1.alloc _) _ 1 1 [(⟨vd, vk, va, vb⟩ : Lin)] rfl (sl_one (⟨vd, vk, va, vb⟩ : Lin) rfl hokx rfl) (by unfold maxLen; omega) (by omega) (L.alloc _).size ?_; intro v5 w5 O5 hg5 _; have L5 := (L.alloc _).grown hg5 (fun k hk => (O1.lt k hk).1); clear hg5)
          go_roundw
          case rel => exact ⟨k + 1, m', out ++ [(⟨vd, vk, va, vb⟩ : Lin)], by omega, by go_num, by omega, HN.out, by rw [List.length_append]; exact O5, L5⟩
          case measure => simp [intOf]; omega
        · rw [hb] at r0
          have HN : Hid (prL p = out ++ prF p m' (k + 1)) := by show _ = _; rw [HE.out, HS.out, if_pos hb]
          clear HE HS hb
          go_wp2
          go_roundw
          case rel => exact ⟨k + 1, m', out, by omega, by go_num, by omega, HN.out, O1, L⟩
          case measure => simp [intOf]; omega
      · have HF : Hid (∀ v, wr.ownsRow w2.heap.size 52 4 v out.length (out.flatMap Enc.cells) → Owd 52 w wr v (pnX xs p)) := fun v hv => by
          have e : prL p = out := by rw [HE.out, prF_stop hlt, List.append_nil]
          have h2 := HOK.out
          rw [HY.out]
          rw [e] at h2 ⊢
          exact ⟨own_mono hv L2.size, h2⟩
        go_wp2
        go_ret
        exact ⟨_, rfl, HF.out _ O1, L2.trans L⟩
end Go.Proofs.Ytjldbpbamankfaa
