/- programs: chainOf of the model -/
import Derived.Test.YtldnjihakkekkaaPhB
import Derived.Test.YtldnjihakkekkaaHpB
import Derived.Test.YtldnjihakkekkaaKB
namespace Go.Proofs.Ytldnjihakkekkaa
open Go.RowKit
def nI (L : List Nat) : List Int := L.map fun k : Nat => (k : Int)
theorem nI_flat (L : List Nat) : ((nI L).flatMap Enc.cells).length = L.length := by
  induction L with
  | nil => rfl
  | cons k L ih =>
    show ([Value.int .i64 (k : Int)] ++ (nI L).flatMap Enc.cells).length = _
    rw [List.length_append, ih]; simp; omega
theorem nI_len (L : List Nat) : (nI L).length = L.length := by unfold nI; simp
theorem sNext_le {p : List Lin} {i : Nat} : sNext p i ≤ p.length := by
  unfold sNext; split <;> omega
theorem chGo_on {p : List Lin} {m k : Nat} (hm : p.length ≤ m + k) (hk : k < p.length) (hf : fol (knd p k) = true) : chGo p m k = k :: chGo p (m - 1) (sNext p k) := by
  obtain ⟨n, rfl⟩ : ∃ n, m = n + 1 := ⟨m - 1, by omega⟩
  show (if _ then _ else _) = _
  rw [if_pos ⟨hk, hf⟩, Nat.add_sub_cancel]
theorem chGo_off {p : List Lin} {m k : Nat} (h : ¬ (k < p.length ∧ fol (knd p k) = true)) : chGo p m k = [] := by
  cases m with
  | zero => rfl
  | succ m => exact if_neg h
set_option maxHeartbeats 2000000 in
set_option maxRecDepth 100000 in
theorem chainOf_any (A : Option Addr) (n cap : Nat) (p : List Lin) (i : Nat) (hi : i < p.length) (hsm : p.length ≤ 1048576) (w : World) (hR : Sl w A n cap p) :
    Calls Try.prog 50 #[.slice A n cap, .int .i64 i] w fun e w' => ∃ v, e = .returned v ∧ Owd 3 w w' v (nI (chain p i)) ∧ Le w w' := by
  obtain rfl := hR.len
  obtain ⟨i0, hq, hz0, hz1, hz2⟩ := info_parts intInfoB
  go_enter Try.func50, Try.ntmps50
  go_wp2_with fail
  have O0 : (w.alloc (.cells #[.int .i64 (i : Int)] 3)).ownsRow w.heap.size 3 1 (.slice (some ⟨w.heap.size, 0, none⟩) 1 1) 1 [.int .i64 (i : Int)] := World.ownsRow_lit (base := w.heap.size) (e := 3) (size := 1) w #[.int .i64 (i : Int)] 1 (Nat.le_refl _) (by unfold maxLen; omega) (by simp)
  have L0 := Le.new w (.cells #[.int .i64 (i : Int)] 3)
  generalize w.alloc (.cells #[.int .i64 (i : Int)] 3) = W at *
  refine (sNext_any A p.length cap p i hi W (hR.le L0)).mono ?_
  rintro e w2 ⟨rfl, hl2⟩
  have O1 := own_le O0 hl2
  have L1 := L0.trans hl2
  clear O0 L0 hl2
  go_wp2_with fail
  go_loopw [5, 6] (fun v kk wr => ∃ (k : Nat) (out : List Nat) (m : Nat) (A' : Option Addr) (c' : Nat), kk = .int .i64 k ∧ i < k ∧ k ≤ p.length ∧ v = .slice A' out.length c' ∧ chain p i = out ++ chGo p m k ∧ p.length ≤ m + k ∧ (∀ x ∈ out, x < p.length) ∧ out.length ≤ k ∧
      wr.ownsRow w.heap.size 3 1 (.slice A' out.length c') out.length ((nI out).flatMap Enc.cells) ∧ Le w wr) (fun _ kk _ => p.length - (intOf kk).toNat)
  case atStart => exact ⟨sNext p i, [i], p.length, _, _, rfl, sNext_gt hi, sNext_le, rfl, rfl, by omega, fun x hx => by (have := List.mem_singleton.1 hx; omega), by (have := sNext_gt hi; simp; omega), O1, L1⟩
  case round =>
    obtain ⟨k, out, m, A', c', rfl, hik, hkp, rfl, he, hm, hin, hol, OW, L⟩ := hrel
    have HE := Lib.hid he
    have HI := Lib.hid hin
    have T := hR.le L
    have hk0 : (0 : Int) ≤ (k : Int) := by omega
    have hoko : Hid (∀ y ∈ nI out, Enc.ok y) := fun y hy => by
      obtain ⟨x, hx, rfl⟩ := List.mem_map.1 hy
      have := hin x hx
      exact ⟨by omega, by omega⟩
    clear he hin O1 L1
    by_cases hlt : k < p.length
    · obtain ⟨b, off, rfl, hb, d0, d1, -⟩ := T.lin_at hlt
      have hkn : (k : Int) < (p.length : Int) := by omega
      have hK : Hid (knd p k = p[k].kind) := knd_at hlt
      generalize p[k].kind = kd at *
      go_wp2_with fail
      refine (follows_any kd wr).mono ?_
      rintro e w3 ⟨rfl, rfl⟩
      cases hf : fol kd
      · have HF : Hid (Owd 3 w wr (.slice A' out.length c') (nI (chain p i))) := by
          show Owd _ _ _ _ _
          rw [HE.out, chGo_off (by rw [hK.out, hf]; simp), List.append_nil]
          exact ⟨by rw [nI_len]; exact OW, hoko.out⟩
        clear HE OW
        go_wp2
        go_ret
        exact ⟨_, rfl, HF.out, L⟩
      · have HN : Hid (chain p i = (out ++ [k]) ++ chGo p (m - 1) (sNext p k)) := by
          show _ = _
          rw [HE.out, chGo_on hm hlt (by rw [hK.out, hf]), List.append_assoc]; rfl
        have hg := sNext_gt hlt
        have hle : sNext p k ≤ p.length := sNext_le
        clear HE
        go_wp2_with (at_builtin; refine wpList_append_own _ rfl _ _ 38 rfl w.heap.size 3 i0 (.int .i64 0) 1 8 Try.underlying38 hq hz0 hz1 hz2 rfl (by decide) _ _ _ rfl (OW.alloc _) ⟨wr.heap.size, 0, none⟩ 1 1 [.int .i64 k] rfl rfl (one_newB _ _ _) (by intro u hu; simp at hu; subst hu; rfl) (by unfold maxLen; omega) (by omega) (by have := L.size; simp; omega) ?_; intro v1 w1 hown1 hg1 _; have hle1 := (L.alloc (.cells #[.int .i64 (k : Int)] 3)).grown hg1 (fun j hj => (OW.lt j hj).1))
        have T1 := hR.le hle1
        obtain ⟨A5, q5, rfl⟩ := own_form hown1
        refine (sNext_any _ p.length cap p k hlt _ T1).mono ?_
        rintro e w5 ⟨rfl, hle5⟩
        have O6 := own_le hown1 hle5
        have L6 := hle1.trans hle5
        clear hg1 hown1 hle1 T T1
        go_wp2
        go_roundw
        case rel =>
          refine ⟨sNext p k, out ++ [k], m - 1, A5, q5, rfl, by omega, hle, by simp, HN.out, by omega, ?_, by simp; omega, ?_, L6⟩
          · intro x hx
            rcases List.mem_append.1 hx with h | h
            · exact HI.out x h
            · rw [List.mem_singleton.1 h]; exact hlt
          · simpa [nI, Enc.cells] using O6
        case measure => simp [intOf]; omega
    · have HF : Hid (Owd 3 w wr (.slice A' out.length c') (nI (chain p i))) := by
        show Owd _ _ _ _ _
        rw [HE.out, chGo_off (by omega), List.append_nil]
        exact ⟨by rw [nI_len]; exact OW, hoko.out⟩
      have hkn : ¬ (k : Int) < (p.length : Int) := by omega
      clear HE OW
      go_wp2
      go_ret
      exact ⟨_, rfl, HF.out, L⟩
end Go.Proofs.Ytldnjihakkekkaa
