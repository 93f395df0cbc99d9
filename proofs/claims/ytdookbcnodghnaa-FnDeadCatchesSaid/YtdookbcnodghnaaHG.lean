/- spec.deadCatches, spec.DeadCatches -/
import Derived.Test.YtdookbcnodghnaaHE
namespace Go.Proofs.Ytdookbcnodghnaa
open Go.RowKit

def deadK (xs : List Cls) (L : List Int) : Nat → List Int
  | 0 => []
  | k + 1 => deadK xs L k ++ (if 0 ≤ firstC xs (L.take k) (L.getD k 0) 0 then [(k : Int)] else [])
theorem deadK_len (xs : List Cls) (L : List Int) : ∀ k, (deadK xs L k).length ≤ k
  | 0 => Nat.le_refl _
  | k + 1 => by
    have := deadK_len xs L k
    unfold deadK
    split <;> simp <;> omega
theorem deadK_ok (xs : List Cls) (L : List Int) : ∀ k, k ≤ 8 → ∀ x ∈ deadK xs L k, Enc.ok x
  | 0, _, x, h => nomatch h
  | k + 1, hk, x, h => by
    unfold deadK at h
    rcases List.mem_append.1 h with h | h
    · exact deadK_ok xs L k (by omega) x h
    · split at h
      · simp at h; subst h; exact ⟨by omega, by omega⟩
      · cases h
theorem deadK_yes {xs : List Cls} {L : List Int} {k : Nat} (hk : k < L.length) (h : 0 ≤ firstC xs (L.take k) L[k] 0) : deadK xs L (k + 1) = deadK xs L k ++ [(k : Int)] := by
  rw [deadK, List.getD_eq_getElem?_getD, List.getElem?_eq_getElem hk, Option.getD_some, if_pos h]
theorem deadK_no {xs : List Cls} {L : List Int} {k : Nat} (hk : k < L.length) (h : ¬ 0 ≤ firstC xs (L.take k) L[k] 0) : deadK xs L (k + 1) = deadK xs L k := by
  rw [deadK, List.getD_eq_getElem?_getD, List.getElem?_eq_getElem hk, Option.getD_some, if_neg h, List.append_nil]
def deadX (xs : List Cls) (L : List Int) : List Int := cond (goodC xs L) (deadK xs L L.length) []
theorem deadX_of {xs : List Cls} {L : List Int} {t : Bool} (h : goodC xs L = t) : deadX xs L = cond t (deadK xs L L.length) [] := by unfold deadX; rw [h]
theorem deadX_len (xs : List Cls) (L : List Int) : (deadX xs L).length ≤ 1048576 := by
  cases h : goodC xs L
  · rw [deadX_of h]; simp
  · have := (goodC_of h).few
    have h2 := deadK_len xs L L.length
    rw [deadX_of h]; show (deadK xs L L.length).length ≤ _; omega

set_option maxRecDepth 100000 in
theorem sdeadCatches_any (A B : Option Addr) (n cap m c : Nat) (xs : List Cls) (L : List Int) (w : World) (hR : Sl w A n cap xs) (hL : Sl w B m c L) (g : GoodC xs L) :
    Calls Try.prog 79 #[.agg #[.slice A n cap], .slice B m c] w fun e w' => ∃ v, e = .returned v ∧ Owd 3 w w' v (deadK xs L L.length) ∧ Le w w' := by
  obtain rfl := hL.len
  have hm := hL.n_le
  have h6 := g.few
  obtain ⟨i0, hi, hz0, hz1, hz2⟩ := info_parts intInfo
  have hokD := deadK_ok xs L L.length (by omega)
  have HOK := Lib.hid hokD; clear hokD
  go_enter Try.func79, Try.ntmps79
  go_wp2
  obtain ⟨c0, z0, L0⟩ := box1 w (.slice A n cap) 25
  have S1 := hR.le L0
  have S2 := hL.le L0
  have HZW : Hid (w.heap.size + 1 = (w.alloc (.cells #[.slice A n cap] 25)).heap.size) := by show _ = _; simp
  generalize w.alloc (.cells #[.slice A n cap] 25) = W at *
  go_loopw [5, 6] (fun v i wr => ∃ k : Nat, k ≤ L.length ∧ i = .int .i64 k ∧ wr.ownsRow W.heap.size 3 1 v (deadK xs L k).length ((deadK xs L k).flatMap Enc.cells) ∧ Le W wr) (fun _ i _ => L.length - (intOf i).toNat)
  case atStart => exact ⟨0, Nat.zero_le _, rfl, own_empty (Nat.le_refl _) HZW.out, Le.new _ _⟩
  case round =>
    obtain ⟨k, hk, rfl, O1, hle⟩ := hrel
    have LW := L0
    replace c0 := (hle.cell z0).trans c0
    replace z0 := Nat.lt_of_lt_of_le z0 hle.size
    replace S1 := S1.le hle
    replace S2 := S2.le hle
    replace L0 := L0.trans hle
    by_cases hlt : k < L.length
    · obtain ⟨b, off, rfl, hb, hcell, _, _⟩ := S2.int_at hlt
      have E0 := cell_ext z0 c0
      have E1 := cell_ext hb hcell
      have hmem := g.mem L[k] (List.getElem_mem hlt)
      have hbl := deadK_len xs L k
      have hkc : (0 : Int) ≤ k ∧ (k : Int) ≤ c := by have := S2.cap_; omega
      have S3 := S2.take_ k (by omega)
      by_cases h1 : 0 ≤ firstC xs (L.take k) L[k] 0
      all_goals
        first | have HB := Lib.hid (deadK_yes hlt h1) | have HB := Lib.hid (deadK_no hlt h1)
        first | have hd1 : decide (0 ≤ firstC xs (L.take k) L[k] 0) = true := decide_eq_true h1 | have hd1 : decide (0 ≤ firstC xs (L.take k) L[k] 0) = false := decide_eq_false h1
        clear h1
        go_wp2_with fail
        refine wp_region_ext (by kernel_rfl) (by kernel_rfl) ?_
        repeat (go_big_quiet_step (first | (go_at_call 76; exact Calls.ext_of (firstCatch_any _ _ _ _ _ _ xs (L.take k) _ _ (S1.ext _) (S3.ext _) g.tree hmem.2 (by omega)))))
        refine wpQuiet_nil ?_
        intro _ hw'
        obtain ⟨gg, rfl⟩ := hw'
        have hle2 := Le.ext wr gg
        replace O1 := own_le O1 hle2
        replace hle := hle.trans hle2
        have hsz := hle.size
        have hs0 := L0.size
        have hs1 := hle2.size
        clear E0 E1 c0 hcell S1 S2 S3 L0 hle2
        generalize wr.ext gg = W2 at *
      · go_wp2_with (at_builtin; refine wpList_append_own _ rfl _ _ 38 rfl W.heap.size 3 i0 (.int .i64 0) 1 8 Try.underlying38 hi hz0 hz1 hz2 rfl (by decide) _ _ _ rfl (O1.alloc _) ⟨W2.heap.size, 0, none⟩ 1 1 [.int .i64 k] rfl rfl ?c1 ?c2 (by unfold maxLen; omega) (by omega) ?c5 ?_)
        case c1 => exact one_new _ _ _
        case c2 => intro u hu; simp at hu; subst hu; rfl
        case c5 => simp; omega
        intro v1 w1 hown1 hg1 _
        have hle1 := (hle.alloc (.cells #[.int .i64 (k : Int)] 3)).grown hg1 (fun k hk => (O1.lt k hk).1)
        go_wp2
        go_roundw
        case rel => exact ⟨k + 1, by omega, by go_num, by rw [HB.out]; simpa [Enc.cells] using hown1, hle1⟩
        case measure => simp [intOf]; omega
      · go_wp2
        go_roundw
        case rel => exact ⟨k + 1, by omega, by go_num, by rw [HB.out]; exact O1, hle⟩
        case measure => simp [intOf]; omega
    · have hk' : k = L.length := by omega
      subst hk'
      have HO := Lib.hid O1
      go_wp2
      go_ret
      exact ⟨_, rfl, ⟨own_mono HO.out LW.size, HOK.out⟩, L0⟩
end Go.Proofs.Ytdookbcnodghnaa
