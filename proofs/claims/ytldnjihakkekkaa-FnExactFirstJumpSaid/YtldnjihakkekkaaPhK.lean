/- programs: partsOf of the program -/
import Derived.Test.YtldnjihakkekkaaPhA
import Derived.Test.YtldnjihakkekkaaPhC
import Derived.Test.YtldnjihakkekkaaPhJ
namespace Go.Proofs.Ytldnjihakkekkaa
open Go.RowKit
theorem ptGo_on {p : List Lin} {d : Int} {m k : Nat} (hm : p.length ≤ m + k) (hk : bEnd p k < p.length) (hd : dep p (bEnd p k) = d) (hf : mayF (knd p k) (knd p (bEnd p k)) = true) : ptGo p d m k = bEnd p k :: ptGo p d (m - 1) (bEnd p k) := by
  have := bEnd_gt p k
  obtain ⟨n, rfl⟩ : ∃ n, m = n + 1 := ⟨m - 1, by omega⟩
  show (if _ then _ else _) = _
  rw [if_pos ⟨hk, hd, hf⟩, Nat.add_sub_cancel]
theorem ptGo_off {p : List Lin} {d : Int} {m k : Nat} (h : ¬ (bEnd p k < p.length ∧ dep p (bEnd p k) = d ∧ mayF (knd p k) (knd p (bEnd p k)) = true)) : ptGo p d m k = [] := by
  cases m with
  | zero => rfl
  | succ m => exact if_neg h
set_option maxHeartbeats 2000000 in
set_option maxRecDepth 100000 in
theorem partsOf_any (A : Option Addr) (n cap : Nat) (p : List Lin) (i : Nat) (hi : i < p.length) (hsm : p.length ≤ 1048576) (w : World) (hR : Sl w A n cap p) :
    Calls Try.prog 72 #[.slice A n cap, .int .i64 i] w fun e w' => ∃ v, e = .returned v ∧ Owd 3 w w' v (nI (parts p i)) ∧ Le w w' := by
  obtain rfl := hR.len
  obtain ⟨i0, hq, hz0, hz1, hz2⟩ := info_parts intInfoB
  obtain ⟨b, off, rfl, hb, d0, -⟩ := hR.lin_at hi
  have hDi : Hid (dep p i = p[i].depth) := dep_at hi
  generalize p[i].depth = di at *
  go_enter Try.func72, Try.ntmps72
  go_wp2_with fail
  have O1 : (w.alloc (.cells #[.int .i64 (i : Int)] 3)).ownsRow w.heap.size 3 1 (.slice (some ⟨w.heap.size, 0, none⟩) 1 1) 1 [.int .i64 (i : Int)] := World.ownsRow_lit (base := w.heap.size) (e := 3) (size := 1) w #[.int .i64 (i : Int)] 1 (Nat.le_refl _) (by unfold maxLen; omega) (by simp)
  have L1 := Le.new w (.cells #[.int .i64 (i : Int)] 3)
  generalize w.alloc (.cells #[.int .i64 (i : Int)] 3) = W at *
  go_loopw [5, 6] (fun v kk wr => ∃ (k : Nat) (out : List Nat) (m : Nat) (A' : Option Addr) (c' : Nat), kk = .int .i64 k ∧ k < p.length ∧ v = .slice A' out.length c' ∧ parts p i = out ++ ptGo p (dep p i) m k ∧ p.length ≤ m + k ∧ (∀ x ∈ out, x < p.length) ∧ out.length ≤ k + 1 ∧
      wr.ownsRow w.heap.size 3 1 (.slice A' out.length c') out.length ((nI out).flatMap Enc.cells) ∧ Le w wr) (fun _ kk _ => p.length - (intOf kk).toNat)
  case atStart => exact ⟨i, [i], p.length, _, _, rfl, hi, rfl, rfl, by omega, fun x hx => by (have := List.mem_singleton.1 hx; omega), by simp, O1, L1⟩
  case round =>
    obtain ⟨k, out, m, A', c', rfl, hkp, rfl, he, hm, hin, hol, OW, L⟩ := hrel
    have HE := Lib.hid he
    have HI := Lib.hid hin
    have T := hR.le L
    have hk0 : (0 : Int) ≤ (k : Int) := by omega
    have hkn : (k : Int) < (p.length : Int) := by omega
    have hi0 : (0 : Int) ≤ (i : Int) := by omega
    have hin0 : (i : Int) < (p.length : Int) := by omega
    have hoko : Hid (∀ y ∈ nI out, Enc.ok y) := fun y hy => by
      obtain ⟨x, hx, rfl⟩ := List.mem_map.1 hy
      have := hin x hx
      exact ⟨by omega, by omega⟩
    clear he hin O1 L1
    go_wp2_with fail
    refine (iBlockEnd_any _ p.length cap p k hkp wr T).mono ?_
    rintro e w2 ⟨rfl, hl2⟩
    have L3 := L.trans hl2
    have O3 := own_le OW hl2
    have T3 := hR.le L3
    have hble := bEnd_le hkp
    have hbg := bEnd_gt p k
    have E0 := cell_ext (Nat.lt_of_lt_of_le hb L3.size) ((L3.cell hb).trans d0)
    obtain ⟨b2, off2, e2, hb2, -, k1, -⟩ := T3.lin_at hkp
    cases e2
    have K0 := cell_ext hb2 k1
    have hKk : Hid (knd p k = p[k].kind) := knd_at hkp
    generalize p[k].kind = kk at *
    have hn0 : (0 : Int) ≤ (bEnd p k : Int) := by omega
    clear OW L hl2 T k1
    by_cases hlt : bEnd p k < p.length
    · have hnn : (bEnd p k : Int) < (p.length : Int) := by omega
      have hne : ((bEnd p k : Int) == (p.length : Int)) = false := bf (by omega)
      obtain ⟨b3, off3, e3, hb3, n0, n1, -⟩ := T3.lin_at hlt
      cases e3
      have N0 := cell_ext hb3 n0
      have N1 := cell_ext hb3 n1
      have hDn : Hid (dep p (bEnd p k) = p[bEnd p k].depth) := dep_at hlt
      have hKn : Hid (knd p (bEnd p k) = p[bEnd p k].kind) := knd_at hlt
      generalize p[bEnd p k].depth = dn at *
      generalize p[bEnd p k].kind = kn at *
      clear n0 n1 T3
      by_cases hd : dn = di
      · have hde : (dn == di) = true := by simpa using hd
        have hc := fun U : World => mayFollow_any kk kn U
        cases hf : mayF kk kn
        · rw [hf] at hc
          have HF : Hid (Owd 3 w w2 (.slice A' out.length c') (nI (parts p i))) := by
            show Owd _ _ _ _ _
            rw [HE.out, ptGo_off (by rw [hKk.out, hKn.out, hf]; simp), List.append_nil]
            exact ⟨by rw [nI_len]; exact O3, hoko.out⟩
          clear HE
          go_wp2_with fail
          refine wp_region_ext (by kernel_rfl) (by kernel_rfl) ?_
          repeat (go_big_quiet_step (first | (go_at_call 82; exact Calls.ext_same (hc _))))
          refine wpQuiet_nil ?_
          intro _ hw'
          obtain ⟨gg, rfl⟩ := hw'
          have hw1 := Le.ext w2 gg
          have O4 := own_le O3 hw1
          have L4 := L3.trans hw1
          clear E0 K0 O3 L3
          generalize w2.ext gg = W2 at *
          go_wp2
          go_ret
          exact ⟨_, rfl, ⟨own_le HF.out.row hw1, HF.out.ok⟩, L4⟩
        · rw [hf] at hc
          have HN : Hid (parts p i = (out ++ [bEnd p k]) ++ ptGo p (dep p i) (m - 1) (bEnd p k)) := by
            show _ = _
            rw [HE.out, ptGo_on hm hlt (by rw [hDn.out, hDi.out, hd]) (by rw [hKk.out, hKn.out, hf]), List.append_assoc]; rfl
          clear HE
          go_wp2_with fail
          refine wp_region_ext (by kernel_rfl) (by kernel_rfl) ?_
          repeat (go_big_quiet_step (first | (go_at_call 82; exact Calls.ext_same (hc _))))
          refine wpQuiet_nil ?_
          intro _ hw'
          obtain ⟨gg, rfl⟩ := hw'
          have hw1 := Le.ext w2 gg
          have O4 := own_le O3 hw1
          have L4 := L3.trans hw1
          clear E0 K0 O3 L3
          generalize w2.ext gg = W2 at *
          go_wp2_with (at_builtin; refine wpList_append_own _ rfl _ _ 38 rfl w.heap.size 3 i0 (.int .i64 0) 1 8 Try.underlying38 hq hz0 hz1 hz2 rfl (by decide) _ _ _ rfl (O4.alloc _) ⟨W2.heap.size, 0, none⟩ 1 1 [.int .i64 (bEnd p k : Nat)] rfl rfl (one_newB _ _ _) (by intro u hu; simp at hu; subst hu; rfl) (by unfold maxLen; omega) (by omega) (by have := L4.size; simp; omega) ?_; intro v1 w1 hown1 hg1 _; have hle1 := (L4.alloc (.cells #[.int .i64 (bEnd p k : Nat)] 3)).grown hg1 (fun j hj => (O4.lt j hj).1))
          obtain ⟨A5, q5, rfl⟩ := own_form hown1
          clear hg1
          go_wp2
          go_roundw
          case rel =>
            refine ⟨bEnd p k, out ++ [bEnd p k], m - 1, A5, q5, rfl, hlt, by simp, HN.out, by omega, ?_, by simp; omega, ?_, hle1⟩
            · intro x hx
              rcases List.mem_append.1 hx with h | h
              · exact HI.out x h
              · rw [List.mem_singleton.1 h]; exact hlt
            · simpa [nI, Enc.cells] using hown1
          case measure => simp [intOf]; omega
      · have hde : (dn == di) = false := bf hd
        have hdn : (dn != di) = true := by simpa using hd
        have HF : Hid (Owd 3 w w2 (.slice A' out.length c') (nI (parts p i))) := by
          show Owd _ _ _ _ _
          rw [HE.out, ptGo_off (by rw [hDn.out, hDi.out]; exact fun h => hd h.2.1), List.append_nil]
          exact ⟨by rw [nI_len]; exact O3, hoko.out⟩
        clear HE
        go_wp2_with fail
        refine wp_region_ext (by kernel_rfl) (by kernel_rfl) ?_
        repeat (go_big_quiet_step (fail))
        refine wpQuiet_nil ?_
        intro _ hw'
        obtain ⟨gg, rfl⟩ := hw'
        have hw1 := Le.ext w2 gg
        have O4 := own_le O3 hw1
        have L4 := L3.trans hw1
        clear E0 K0 O3 L3
        generalize w2.ext gg = W2 at *
        go_wp2
        go_ret
        exact ⟨_, rfl, ⟨own_le HF.out.row hw1, HF.out.ok⟩, L4⟩
    · have hne : ((bEnd p k : Int) == (p.length : Int)) = true := by (rw [beq_iff_eq]; omega)
      have HF : Hid (Owd 3 w w2 (.slice A' out.length c') (nI (parts p i))) := by
        show Owd _ _ _ _ _
        rw [HE.out, ptGo_off (by exact fun h => hlt h.1), List.append_nil]
        exact ⟨by rw [nI_len]; exact O3, hoko.out⟩
      clear HE
      go_wp2_with fail
      refine wp_region_ext (by kernel_rfl) (by kernel_rfl) ?_
      repeat (go_big_quiet_step (fail))
      refine wpQuiet_nil ?_
      intro _ hw'
      obtain ⟨gg, rfl⟩ := hw'
      have hw1 := Le.ext w2 gg
      have O4 := own_le O3 hw1
      have L4 := L3.trans hw1
      clear E0 K0 O3 L3
      generalize w2.ext gg = W2 at *
      go_wp2
      go_ret
      exact ⟨_, rfl, ⟨own_le HF.out.row hw1, HF.out.ok⟩, L4⟩
end Go.Proofs.Ytldnjihakkekkaa
