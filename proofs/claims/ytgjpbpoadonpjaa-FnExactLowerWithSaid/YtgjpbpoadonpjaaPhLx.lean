/- programs: what is opened, closed by a try: lower of the program -/
import Derived.Test.YtgjpbpoadonpjaaPhLw
import Derived.Test.YtgjpbpoadonpjaaPhS
namespace Go.Proofs.Ytgjpbpoadonpjaa
open Go.RowKit
theorem sl_x {w : World} {X : Nat} {vd vk va vb : Int} (h : Sl w (some ⟨X, 0, none⟩) 1 1 [(⟨vd, vk, va, vb⟩ : Lin)]) : w.cell? ⟨X, 0, none⟩ = some (.int .i64 vd) ∧ w.cell? ⟨X, 1, none⟩ = some (.int .i64 vk) ∧ w.cell? ⟨X, 2, none⟩ = some (.int .i64 va) ∧ w.cell? ⟨X, 3, none⟩ = some (.int .i64 vb) ∧ X < w.heap.size := by
  obtain ⟨b, off, e, hb, c⟩ := h.at_ (by omega)
  injection e with e
  injection e with e1 e2
  subst e1
  subst e2
  have c0 := c 0 _ rfl
  have c1 := c 1 _ rfl
  have c2 := c 2 _ rfl
  have c3 := c 3 _ rfl
  exact ⟨c0, c1, c2, c3, hb⟩
theorem apart_n2 {v u : Value} {b m : Nat} (h : v.ownBlock ≠ some b) (hm : b < m) (hat : u.ownBlock = v.ownBlock ∨ u.ownBlock = some m) : u.ownBlock ≠ some b := by
  rcases hat with e | e
  · rw [e]; exact h
  · rw [e]; intro e2; injection e2 with e2; omega
theorem sl_cut {w : World} {b off n cap lo hi : Nat} {p : List Lin} (h : Sl w (some ⟨b, off, none⟩) n cap p) (h1 : lo ≤ hi) (h2 : hi ≤ n) (hc : cap = lo) : Sl w (some ⟨b, off, none⟩) (hi - lo) 0 ((p.take hi).drop lo) := by
  have h3 := h.cap_
  obtain rfl : hi = lo := by omega
  have e : (p.take hi).drop hi = [] := List.drop_eq_nil_of_le (by rw [List.length_take]; omega)
  rw [e, Nat.sub_self]
  exact Sl.nil _ _ _ (by omega)
set_option maxHeartbeats 2000000 in
set_option maxRecDepth 100000 in
theorem ilower_any : ∀ (N : Nat) (A : Option Addr) (n cap : Nat) (p : List Lin) (_ : p.length < N) (_ : p.length ≤ 1000) (_ : ∀ x ∈ p, LwOk x) (w : World) (_ : Sl w A n cap p),
    Calls Try.prog 41 #[.slice A n cap] w fun e w' => ∃ v, e = .returned v ∧ Owd 55 w w' v (lwN N p) ∧ Le w w'
  | 0, _, _, _, p, hN, _, _, _, _ => absurd hN (by omega)
  | N + 1, A, n, cap, p, hN, hsm, hp, w, hR => by
    have HREC : Hid (∀ (A : Option Addr) (n cap : Nat) (q : List Lin), q.length < N → q.length ≤ 1000 → (∀ x ∈ q, LwOk x) → ∀ (w : World), Sl w A n cap q → Calls Try.prog 41 #[.slice A n cap] w fun e w' => ∃ v, e = .returned v ∧ Owd 55 w w' v (lwN N q) ∧ Le w w') := ilower_any N
    obtain ⟨i0, hq, hz0, hz1, hz2⟩ := info_parts infoLn
    obtain rfl := hR.len
    have HOK := Lib.hid (lwN_ok (N + 1) p hp)
    have HLN := Lib.hid (lwN_len (N + 1) p)
    have HLR := Lib.hid (lwN_len N)
    have HP := Lib.hid hp
    have HM : Hid (lwN (N + 1) p = lwStep (lwN N) p p.length 0) := rfl
    clear hp
    go_enter Try.func41, Try.ntmps41
    go_wp2
    have O0 : w.ownsRow w.heap.size 55 4 (.slice none 0 0) ([] : List Lin).length (([] : List Lin).flatMap Enc.cells) := World.ownsRow_nil _ _ _ _
    go_loopw [3, 4, 5, 6] (fun v q _ _ wr => ∃ (k m : Nat) (out : List Lin), k ≤ p.length ∧ q = .int .i64 k ∧ p.length ≤ m + k ∧ lwN (N + 1) p = out ++ lwStep (lwN N) p m k ∧ wr.ownsRow w.heap.size 55 4 v out.length (out.flatMap Enc.cells) ∧ Le w wr) (fun _ q _ _ _ => p.length - (intOf q).toNat)
    case atStart => exact ⟨0, p.length, [], Nat.zero_le _, rfl, by omega, HM.out, O0, Le.refl _⟩
    case round =>
      obtain ⟨k, m, out, hk, rfl, hm, he, O1, L⟩ := hrel
      have HE := Lib.hid he
      have hol : out.length ≤ 4000 := by have := HLN.out; rw [he, List.length_append] at this; omega
      have R := hR.le L
      have hLs := L.size
      clear he O0 HM
      by_cases hlt : k < p.length
      · obtain ⟨m', rfl⟩ : ∃ m', m = m' + 1 := ⟨m - 1, by omega⟩
        have HS := Lib.hid (lwStep_at (rec := lwN N) (m := m') hlt)
        have hbl := bEnd_le hlt
        have hbg := bEnd_gt p k
        have hpx := HP.out _ (List.getElem_mem hlt)
        obtain ⟨b, off, rfl, hb, d0, d1, d2, d3, -⟩ := R.lin_at hlt
        have HPK : Hid (p[k] = ⟨p[k].depth, p[k].kind, p[k].a, p[k].b⟩) := rfl
        rw [HPK.out] at HS hpx
        generalize p[k].depth = vd at *
        generalize p[k].kind = vk at *
        generalize p[k].a = va at *
        generalize p[k].b = vb at *
        clear HPK
        have hokx := hpx.1
        have hd5 : vd ≤ 5 := hpx.2
        have hdn : -9223372036854775808 ≤ vd := hpx.1.1
        have hl4 := lw_lines hpx
        obtain ⟨x0, x1, z0, hle2⟩ := box4 wr (.int .i64 vd) (.int .i64 vk) (.int .i64 va) (.int .i64 vb) 55
        obtain ⟨x2, x3⟩ := box4b wr (.int .i64 vd) (.int .i64 vk) (.int .i64 va) (.int .i64 vb) 55
        have SX : Sl (wr.alloc (.cells #[.int .i64 vd, .int .i64 vk, .int .i64 va, .int .i64 vb] 55)) (some ⟨wr.heap.size, 0, none⟩) 1 1 [(⟨vd, vk, va, vb⟩ : Lin)] := sl_one (⟨vd, vk, va, vb⟩ : Lin) rfl hokx rfl
        have F1 := cell_ext z0 x1
        have F3 := cell_ext z0 x3
        have hk0 : (0 : Int) ≤ (k : Int) := by omega
        have hkn : (k : Int) < (p.length : Int) := by omega
        have HOX := Lib.hid (fun j hj => (O1.lt j hj).2)
        have O2 := own_le O1 hle2
        have L2 := L.trans hle2
        have R2 := R.le hle2
        have hwk1 : IntKind.i64.wrap ((k : Int) + 1) = (k : Int) + 1 := IntWalk.i64_in _ (by omega)
        by_cases hw : vk = 11 ∧ vb ≠ 1
        · obtain ⟨rfl, hb1⟩ := hw
          have hb1b : (vb == 1) = false := bf hb1
          have HN : Hid (lwN (N + 1) p = (((out ++ [⟨vd, 1, va, 0⟩, ⟨vd, 7, 0, 0⟩]) ++ lwN N ((p.take (bEnd p k)).drop (k + 1))) ++ [⟨vd, 10, 0, 0⟩, ⟨vd + 1, 1, va, 0⟩]) ++ lwStep (lwN N) p m' (bEnd p k)) := by
            show _ = _
            rw [HE.out, HS.out, if_pos ⟨rfl, hb1⟩]
            simp only [List.append_assoc]
          have hln := HLR.out ((p.take (bEnd p k)).drop (k + 1))
          rw [sub_len hlt] at hln
          have hql : ((p.take (bEnd p k)).drop (k + 1)).length < N := by rw [sub_len hlt]; omega
          have hqs : ((p.take (bEnd p k)).drop (k + 1)).length ≤ 1000 := by rw [sub_len hlt]; omega
          have HQP : Hid (∀ x ∈ (p.take (bEnd p k)).drop (k + 1), LwOk x) := fun x hx => HP.out x (List.mem_of_mem_take (List.mem_of_mem_drop hx))
          clear HE HS hpx x0 x1 x2 x3
          generalize hXx : wr.heap.size = X at *
          go_wp2_with fail
          refine (iBlockEnd_any _ p.length cap p k hlt _ R2).mono ?_
          rintro e w3 ⟨rfl, hle3⟩
          have SX3 := SX.le hle3
          have O4 := own_le O2 hle3
          have L4 := L2.trans hle3
          have R4 := R2.le hle3
          obtain ⟨c0, c1, c2, c3, z3⟩ := sl_x SX3
          generalize hEe : bEnd p k = E at *
          clear F1 F3 SX O1 O2 R R2 L L2 z0 hle2 d0 d1 d2 d3 hle3
          have hXw : X < w3.heap.size := z3
          have hv4 : Value.ownBlock u3 ≠ some X := fun e => by have := HOX.out _ e; omega
          have hEc : E ≤ cap := Nat.le_trans hbl R4.cap_
          have hwd : IntKind.i64.wrap (vd + 1) = vd + 1 := IntWalk.i64_in _ (by omega)
          go_wp2_with (at_builtin; refine wpList_append_sl rfl _ _ 28 rfl w.heap.size 55 i0 _ 32 Try.underlying28 hq hz0 hz1 hz2 rfl u3 out.length out rfl (O4.alloc _) _ 2 2 [(⟨vd, 1, va, 0⟩ : Lin), ⟨vd, 7, 0, 0⟩] rfl (sl_two (⟨vd, 1, va, 0⟩ : Lin) ⟨vd, 7, 0, 0⟩ hl4.1 hl4.2.1 rfl) (by unfold maxLen; omega) (by omega) (L4.alloc _).size ?_; intro v5 w5 O5 hg5 hat5; have L5 := (L4.alloc _).grown hg5 (fun k hk => (O4.lt k hk).1); have SX5 := (SX3.alloc _).grown hg5 (fun _ a e h => by cases e; exact hv4 h.symm); have hv5 := apart_n2 hv4 (Nat.lt_succ_of_lt hXw) (by simpa using hat5); clear hg5 hat5)
          all_goals
            first | have SQ := sl_cut (hR.le L5) hbg hbl (by assumption) | have SQ := sl_win (hR.le L5) hbg hbl
            refine (HREC.out _ _ _ ((p.take E).drop (k + 1)) hql hqs HQP.out _ SQ).mono ?_
            rintro e w6 ⟨v6, rfl, D6, hle6⟩
            obtain ⟨A6, q6, rfl, S6, -⟩ := D6.form (by decide)
            generalize lwN N ((p.take E).drop (k + 1)) = RQ at *
            try rw [← h]
            clear h
            have O6 := own_le O5 hle6
            have L6 := L5.trans hle6
            have SX6 := SX5.le hle6
            clear D6 O5 L5 SX5 hle6 c0 c1 c2 c3
            go_wp2_with (first | (at_builtin; refine wpList_append_sl rfl _ _ 28 rfl w.heap.size 55 i0 _ 32 Try.underlying28 hq hz0 hz1 hz2 rfl v5 (out.length + 2) (out ++ [(⟨vd, 1, va, 0⟩ : Lin), ⟨vd, 7, 0, 0⟩]) rfl O6 _ RQ.length q6 RQ rfl S6 (by unfold maxLen; omega) (by omega) L6.size ?_; intro v7 w7 O7 hg7 hat7; have L7 := L6.grown hg7 (fun k hk => (O6.lt k hk).1); have SX7 := SX6.grown hg7 (fun _ a e h => by cases e; exact hv5 h.symm); obtain ⟨c70, c71, c72, c73, z7⟩ := sl_x SX7; clear hg7 hat7) | (at_builtin; refine wpList_append_sl rfl _ _ 28 rfl w.heap.size 55 i0 _ 32 Try.underlying28 hq hz0 hz1 hz2 rfl v7 (out.length + 2 + RQ.length) ((out ++ [(⟨vd, 1, va, 0⟩ : Lin), ⟨vd, 7, 0, 0⟩]) ++ RQ) rfl (O7.alloc _) _ 2 2 [(⟨vd, 10, 0, 0⟩ : Lin), ⟨vd + 1, 1, va, 0⟩] rfl (sl_two (⟨vd, 10, 0, 0⟩ : Lin) ⟨vd + 1, 1, va, 0⟩ hl4.2.2.1 hl4.2.2.2 rfl) (by unfold maxLen; omega) (by omega) (L7.alloc _).size ?_; intro v8 w8 O8 hg8 _; have L8 := (L7.alloc _).grown hg8 (fun k hk => (O7.lt k hk).1); clear hg8))
            go_roundw
            case rel => exact ⟨E, m', _, hbl, rfl, by omega, HN.out, by rw [List.length_append, List.length_append, List.length_append]; exact O8, L8⟩
            case measure => simp [intOf]; omega
        · have HN : Hid (lwN (N + 1) p = (out ++ [(⟨vd, vk, va, vb⟩ : Lin)]) ++ lwStep (lwN N) p m' (k + 1)) := by
            show _ = _
            rw [HE.out, HS.out, if_neg hw, List.append_assoc]; rfl
          clear HE HS hpx F1 F3
          by_cases h11 : vk = 11
          · subst h11
            obtain rfl : vb = 1 := Decidable.byContradiction fun h => hw ⟨rfl, h⟩
            clear hw
            go_wp2_with (at_builtin; refine wpList_append_sl rfl _ _ 28 rfl w.heap.size 55 i0 _ 32 Try.underlying28 hq hz0 hz1 hz2 rfl u3 out.length out rfl (O2.alloc _) _ 1 1 [(⟨vd, 11, va, 1⟩ : Lin)] rfl (sl_one (⟨vd, 11, va, 1⟩ : Lin) rfl hokx (by first | rfl | simp)) (by unfold maxLen; omega) (by omega) (L2.alloc _).size ?_; intro v5 w5 O5 hg5 _; have L5 := (L2.alloc _).grown hg5 (fun k hk => (O2.lt k hk).1); clear hg5)
            go_roundw
            case rel => exact ⟨k + 1, m', out ++ [(⟨vd, 11, va, 1⟩ : Lin)], by omega, by go_num, by omega, HN.out, by rw [List.length_append]; exact O5, L5⟩
            case measure => simp [intOf]; omega
          · have h11b : (vk != 11) = true := by simpa using h11
            clear hw
            go_wp2_with (at_builtin; refine wpList_append_sl rfl _ _ 28 rfl w.heap.size 55 i0 _ 32 Try.underlying28 hq hz0 hz1 hz2 rfl u3 out.length out rfl (O2.alloc _) _ 1 1 [(⟨vd, vk, va, vb⟩ : Lin)] rfl (sl_one (⟨vd, vk, va, vb⟩ : Lin) rfl hokx (by first | rfl | simp)) (by unfold maxLen; omega) (by omega) (L2.alloc _).size ?_; intro v5 w5 O5 hg5 _; have L5 := (L2.alloc _).grown hg5 (fun k hk => (O2.lt k hk).1); clear hg5)
            go_roundw
            case rel => exact ⟨k + 1, m', out ++ [(⟨vd, vk, va, vb⟩ : Lin)], by omega, by go_num, by omega, HN.out, by rw [List.length_append]; exact O5, L5⟩
            case measure => simp [intOf]; omega
      · have HF : Hid (∀ v, wr.ownsRow w.heap.size 55 4 v out.length (out.flatMap Enc.cells) → Owd 55 w wr v (lwN (N + 1) p)) := fun v hv => by
          have e : lwN (N + 1) p = out := by rw [HE.out, lwStep_end hlt, List.append_nil]
          have h2 := HOK.out
          rw [e] at h2 ⊢
          exact ⟨hv, h2⟩
        go_wp2
        go_ret
        exact ⟨_, rfl, HF.out _ O1, L⟩
end Go.Proofs.Ytgjpbpoadonpjaa
