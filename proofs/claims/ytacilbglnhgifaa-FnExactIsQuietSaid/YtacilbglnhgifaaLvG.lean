/- exits: passes, EscapesOf of the model; both say the same -/
import Derived.Test.YtacilbglnhgifaaLvF
namespace Go.Proofs.Ytacilbglnhgifaa
open Go.RowKit
def pasX (xs : List Cls) (a : Int) (e : Xit) : Bool := !((e.kind == 3) || ((e.kind == 2) && isAL xs a e.a))
def pasL (xs : List Cls) (L : List Xit) (a : Int) : Bool := L.all (pasX xs a)
theorem pas_at {xs : List Cls} {a : Int} {L : List Xit} {k : Nat} (h : k < L.length) : (L.drop k).all (pasX xs a) = (pasX xs a L[k] && (L.drop (k + 1)).all (pasX xs a)) := by rw [List.drop_eq_getElem_cons h]; rfl
theorem escaped {xs : List Cls} {L : List Xit} (ht : okTree xs = true) {a : Int} (ha : hasK xs a = true) (hL : ∀ x ∈ L, xOk xs x = true) :
    (clX xs L (stS true a 0)).2.1[0]? = some ⟨a, 0, -1, -1, false⟩ ∧ ((clX xs L (stS true a 0)).2.2 = 0 ↔ pasL xs L a = true) ∧ -1 ≤ (clX xs L (stS true a 0)).2.2 := by
  induction L with
  | nil => exact ⟨rfl, ⟨fun _ => rfl, fun _ => rfl⟩, by show (-1 : Int) ≤ 0; omega⟩
  | cons x L ih =>
    obtain ⟨i1, i2, i3⟩ := ih (fun y hy => hL y (List.mem_cons_of_mem _ hy))
    have hx := hL x (List.mem_cons_self ..)
    have e : clX xs (x :: L) (stS true a 0) = stX xs x (clX xs L (stS true a 0)) := rfl
    have e2 : pasL xs (x :: L) a = (pasX xs a x && pasL xs L a) := rfl
    rw [e, e2]
    generalize clX xs L (stS true a 0) = s at *
    have hlen : 0 < s.2.1.length := by
      rcases Nat.eq_zero_or_pos s.2.1.length with h | h
      · rw [List.getElem?_eq_none (by omega)] at i1; cases i1
      · exact h
    unfold stX
    by_cases k1 : x.kind = 1
    · rw [if_pos k1]
      have hp : pasX xs a x = true := by unfold pasX; rw [k1]; rfl
      rw [hp, Bool.true_and]
      exact ⟨i1, i2, i3⟩
    · rw [if_neg k1]
      by_cases k2 : x.kind = 2
      · rw [if_pos k2]
        rw [xOk_2 k2, Bool.and_eq_true] at hx
        have hp : pasX xs a x = !isAL xs a x.a := by unfold pasX; rw [k2]; simp
        refine ⟨i1, ?_, ?_⟩
        · rw [hp]
          show tkX xs s.2.1 s.2.2 x.a = 0 ↔ _
          by_cases h0 : s.2.2 = 0
          · have hc : flC s.2.1 s.2.2 = a := by rw [h0]; unfold flC; rw [show ((0 : Int)).toNat = 0 from rfl, i1]
            have hp2 := i2.1 h0
            unfold tkX isAx
            rw [if_pos (by omega), hc, ht, ha, hx.1, Bool.true_and, Bool.true_and, Bool.true_and, hp2]
            cases isAL xs a x.a
            · simp [h0]
            · simp
          · have hp2 : pasL xs L a = false := by
              cases h : pasL xs L a
              · rfl
              · exact absurd (i2.2 h) h0
            rw [hp2, Bool.and_false]
            constructor
            · intro h
              rcases tkX_cases xs s.2.1 s.2.2 x.a with e3 | e3
              · rw [e3] at h; omega
              · rw [e3] at h; exact absurd h h0
            · intro h; cases h
        · show -1 ≤ tkX xs s.2.1 s.2.2 x.a
          rcases tkX_cases xs s.2.1 s.2.2 x.a with e3 | e3 <;> omega
      · rw [if_neg k2]
        by_cases k3 : x.kind = 3
        · rw [if_pos k3]
          have hp : pasX xs a x = false := by unfold pasX; rw [k3]; rfl
          rw [hp, Bool.false_and]
          refine ⟨by dsimp only; rw [List.getElem?_append_left hlen]; exact i1, ⟨fun h => ?_, fun h => nomatch h⟩, by show (-1 : Int) ≤ (s.2.1.length : Int); omega⟩
          have : (s.2.1.length : Int) = 0 := h
          omega
        · rw [if_neg k3]
          have hp : pasX xs a x = true := by
            unfold pasX
            rw [show (x.kind == 3) = false by simp; omega, show (x.kind == 2) = false by simp; omega]; rfl
          rw [hp, Bool.true_and]
          exact ⟨i1, i2, i3⟩
theorem esc_same {xs : List Cls} {L : List Xit} (h : vxs xs L = true) {k : Nat} (hk : k < xs.length) : (faX xs L true (k : Int) == 0) = pasL xs L (k : Int) := by
  obtain ⟨h1, -, h3⟩ := vxs_iff.1 h
  have hk2 : hasK xs (k : Int) = true := hasK_iff.2 ⟨by omega, by omega⟩
  have := (escaped h1 hk2 h3).2.1
  unfold faX
  rw [Bool.eq_iff_iff, beq_iff_eq]
  exact this
theorem escI_pas {xs : List Cls} {L : List Xit} (h : vxs xs L = true) : escI xs L = escK (fun k => pasL xs L (k : Int)) xs.length := by
  rw [escI_of h]
  exact escK_congr fun j hj => esc_same h hj
set_option maxHeartbeats 2000000 in
set_option maxRecDepth 100000 in
theorem passes_any (B : Option Addr) (m c : Nat) (xs : List Cls) (A : Option Addr) (n cap : Nat) (L : List Xit) (a : Int) (g : Good xs) (ha0 : 0 ≤ a) (ha1 : a < xs.length) (w : World) (hT : Sl w B m c xs) (hL : Sl w A n cap L) :
    Calls Try.prog 43 #[.agg #[.slice B m c], .slice A n cap, .int .i64 a] w fun e w' => e = .returned (.bool (pasL xs L a)) ∧ Le w w' := by
  obtain rfl := hL.len
  have hmx := hL.n_le
  have hl := Le.new w (.cells #[.slice B m c] 39)
  have c0 : (w.alloc (.cells #[.slice B m c] 39)).cell? ⟨w.heap.size, 0, none⟩ = some (.slice B m c) := by rw [World.cell?_alloc_at _ _ _ _ rfl]; rfl
  have hz : w.heap.size < (w.alloc (.cells #[.slice B m c] 39)).heap.size := by simp
  have hS := hT.le hl
  have hR := hL.le hl
  clear hT hL
  have HX : Hid (pasL xs L a = L.all (pasX xs a)) := rfl
  go_enter Try.func43, Try.ntmps43
  go_wp2
  generalize w.alloc (.cells #[.slice B m c] 39) = W at *
  go_loopw [7] (fun q wr => ∃ k : Nat, k ≤ L.length ∧ q = .int .i64 k ∧ L.all (pasX xs a) = (L.drop k).all (pasX xs a) ∧ Le W wr) (fun q _ => L.length - (intOf q).toNat)
  case atStart => exact ⟨0, Nat.zero_le _, rfl, rfl, Le.refl _⟩
  case round =>
    obtain ⟨k, hk, rfl, he, hle⟩ := hrel
    have HE := Lib.hid he
    clear he
    have ct := (hle.cell hz).trans c0
    have zt := Nat.lt_of_lt_of_le hz hle.size
    have ST := hS.le hle
    have R1 := hR.le hle
    by_cases hlt : k < L.length
    · obtain ⟨b, off, rfl, hb, d0, d1, -, -⟩ := R1.xit_at hlt
      have HA := Lib.hid (pas_at (xs := xs) (a := a) hlt)
      have hk0 : (0 : Int) ≤ (k : Int) := by omega
      have hkn : (k : Int) < (L.length : Int) := by omega
      have HP : Hid (pasX xs a L[k] = !((L[k].kind == 3) || ((L[k].kind == 2) && isAL xs a L[k].a))) := rfl
      generalize pasX xs a L[k] = P at *
      generalize L[k].kind = vk at *
      generalize L[k].a = va at *
      have Et := cell_ext zt ct
      have E0 := cell_ext hb d0
      have E1 := cell_ext hb d1
      cases q0 : (vk == 3)
      · cases q1 : (vk == 2)
        · have HF : Hid (L.all (pasX xs a) = (L.drop (k + 1)).all (pasX xs a)) := by show _ = _; rw [HE.out, HA.out, HP.out, q0, q1]; rfl
          clear HE HA HP
          go_wp2_with fail
          refine wp_region_ext (by kernel_rfl) (by kernel_rfl) ?_
          repeat (go_big_quiet_step (fail))
          refine wpQuiet_nil ?_
          intro _ hw'
          obtain ⟨gg, rfl⟩ := hw'
          have hw1 := Le.ext wr gg
          generalize wr.ext gg = W2 at *
          go_wp2
          go_roundw
          case rel => exact ⟨k + 1, by omega, by go_num, HF.out, hle.trans hw1⟩
          case measure => simp [intOf]; omega
        · have hca : ∀ (g1 : Ext wr) (_ : True), Calls Try.prog 47 #[.agg #[.slice B m c], .int .i64 a, .int .i64 va] (wr.ext g1) fun e w' => e = .returned (.bool (isAL xs a va)) ∧ Le (wr.ext g1) w' := fun g1 _ => isA_any B m c xs a va _ (ST.le (Le.ext wr g1)) g (by omega) (by omega)
          generalize isAL xs a va = q2 at *
          cases q2
          · have HF : Hid (L.all (pasX xs a) = (L.drop (k + 1)).all (pasX xs a)) := by show _ = _; rw [HE.out, HA.out, HP.out, q0, q1]; rfl
            clear HE HA HP
            go_wp2_with fail
            refine wp_region_ext (by kernel_rfl) (by kernel_rfl) ?_
            repeat (go_big_quiet_step (first | (go_at_call 47; with_reducible exact Calls.ext_of (hca _ trivial))))
            refine wpQuiet_nil ?_
            intro _ hw'
            obtain ⟨gg, rfl⟩ := hw'
            have hw1 := Le.ext wr gg
            generalize wr.ext gg = W2 at *
            go_wp2
            go_roundw
            case rel => exact ⟨k + 1, by omega, by go_num, HF.out, hle.trans hw1⟩
            case measure => simp [intOf]; omega
          · have HF : Hid (pasL xs L a = false) := by show _ = _; rw [HX.out, HE.out, HA.out, HP.out, q0, q1]; rfl
            clear HE HA HP
            go_wp2_with fail
            refine wp_region_ext (by kernel_rfl) (by kernel_rfl) ?_
            repeat (go_big_quiet_step (first | (go_at_call 47; with_reducible exact Calls.ext_of (hca _ trivial))))
            refine wpQuiet_nil ?_
            intro _ hw'
            obtain ⟨gg, rfl⟩ := hw'
            have hw1 := Le.ext wr gg
            generalize wr.ext gg = W2 at *
            go_wp2
            go_ret
            exact ⟨ret_bool HF.out.symm, hl.trans (hle.trans hw1)⟩
      · have HF : Hid (pasL xs L a = false) := by show _ = _; rw [HX.out, HE.out, HA.out, HP.out, q0]; rfl
        clear HE HA HP
        go_wp2_with fail
        refine wp_region_ext (by kernel_rfl) (by kernel_rfl) ?_
        repeat (go_big_quiet_step (fail))
        refine wpQuiet_nil ?_
        intro _ hw'
        obtain ⟨gg, rfl⟩ := hw'
        have hw1 := Le.ext wr gg
        generalize wr.ext gg = W2 at *
        go_wp2
        go_ret
        exact ⟨ret_bool HF.out.symm, hl.trans (hle.trans hw1)⟩
    · have HF : Hid (pasL xs L a = true) := by show _ = _; rw [HX.out, HE.out, List.drop_eq_nil_of_le (by omega)]; rfl
      clear HE
      go_wp2
      go_ret
      exact ⟨ret_bool HF.out.symm, hl.trans hle⟩
end Go.Proofs.Ytacilbglnhgifaa
