/- spec.DeadCatches, impl.DeadCatches -/
import Derived.Test.YtjcellhpmooifaaHG
import Derived.Test.YtjcellhpmooifaaHC
namespace Go.Proofs.Ytjcellhpmooifaa
open Go.RowKit

theorem hand_tree {xs : List Cls} {L : List Int} (h : goodC xs L = true) : okTree xs = true := by unfold goodC at h; simp at h; exact h.1.1
set_option maxRecDepth 100000 in
theorem iDeadCatches_any (A B : Option Addr) (n cap m c : Nat) (xs : List Cls) (L : List Int) (w : World) (hR : Sl w A n cap xs) (hL : Sl w B m c L) :
    Calls Try.prog 116 #[.agg #[.slice A n cap], .slice B m c] w fun e w' => ∃ v, e = .returned v ∧ Owd 3 w w' v (deadX xs L) ∧ Le w w' := by
  have L0 := Le.new w (.cells #[.slice A n cap] 31)
  go_enter Try.func116, Try.ntmps116
  go_wp2_with fail
  refine (nodesOf_any A n cap xs _ (hR.alloc _)).mono ?_
  intro e w2 hout
  obtain ⟨hle, A2, n2, gs, rfl, S2, hcase⟩ := nodes_one hout
  replace L0 := L0.trans hle
  clear hout hle
  have S3 := hL.le L0
  go_wp2_with fail
  refine (handlersOf_any A2 B n2 m c gs xs L _ S2 hcase S3).mono ?_
  rintro e w3 ⟨hle, hcs⟩
  replace L0 := L0.trans hle
  rcases hcs with ⟨h1, rfl⟩ | ⟨h1, H, ch, rfl, S5⟩
  · have HF := Lib.hid (deadX_of h1)
    clear hcase h1
    go_wp2
    go_ret
    exact ⟨_, rfl, by rw [HF.out]; exact Owd.nil _ _ _, L0⟩
  · have gc := goodC_of h1
    rcases hcase with ⟨h0, _⟩ | ⟨_, rfl, hN⟩
    · rw [hand_tree h1] at h0; cases h0
    · replace hN := hN.le hle
      have HF := Lib.hid (deadX_of h1)
      have h6 := gc.few
      have hcp := S5.cap_
      have HOK := Lib.hid (deadK_ok xs L L.length (by omega))
      have HM := Lib.hid gc.mem
      obtain ⟨i0, hi, hz0, hz1, hz2⟩ := info_parts intInfo
      clear S2 S3 h1 hle
      go_wp2
      go_loopw [7, 21] (fun v i wr => ∃ k : Nat, k ≤ L.length ∧ i = .int .i64 k ∧ wr.ownsRow w3.heap.size 3 1 v (deadK xs L k).length ((deadK xs L k).flatMap Enc.cells) ∧ Le w3 wr) (fun _ i _ => L.length - (intOf i).toNat)
      case atStart => exact ⟨0, Nat.zero_le _, rfl, World.ownsRow_nil _ _ _ _, Le.refl _⟩
      case round =>
        obtain ⟨k, hk, rfl, O1, hle⟩ := hrel
        by_cases hlt : k < L.length
        · have hmem := HM.out L[k] (List.getElem_mem hlt)
          have S6 := S5.le hle
          have hlt' : k < (L.map (pbAt gs)).length := by simpa using hlt
          obtain ⟨b, off, rfl, hb, hcell⟩ := S6.pb_at hlt'
          rw [List.getElem_map] at hcell
          have S7 := S6.take_ k (by omega)
          rw [← List.map_take] at S7
          have hkc : (0 : Int) ≤ k ∧ (k : Int) ≤ ch := by omega
          have hbl := deadK_len xs L k
          have HC := Lib.hid (hcatches_any _ k ch gs xs (L.take k) gc.tree (fun b hb => HM.out b (List.mem_of_mem_take hb)) L[k] hmem.2 (by omega) wr (hN.le hle) S7)
          rw [ptrOf_pb hmem.1 (by have := hN.len; omega)] at HC
          clear S6 S7
          by_cases h1 : 0 ≤ firstC xs (L.take k) L[k] 0
          · have HB := Lib.hid (deadK_yes hlt h1)
            have hd1 : decide (0 ≤ firstC xs (L.take k) L[k] 0) = true := decide_eq_true h1
            clear h1
            go_wp2_with fail
            refine HC.out.mono ?_
            rintro e w4 ⟨rfl, hle4⟩
            rw [hd1]
            replace O1 := own_le O1 hle4
            replace hle := hle.trans hle4
            have hsz := hle.size
            clear hd1
            go_wp2_with (at_builtin; refine wpList_append_own _ rfl _ _ 49 rfl w3.heap.size 3 i0 (.int .i64 0) 1 8 Try.underlying49 hi hz0 hz1 hz2 rfl (by decide) _ _ _ rfl (O1.alloc _) ⟨w4.heap.size, 0, none⟩ 1 1 [.int .i64 k] rfl rfl ?c1 ?c2 (by unfold maxLen; omega) (by omega) ?c5 ?_)
            case c1 => exact one_new _ _ _
            case c2 => intro u hu; simp at hu; subst hu; rfl
            case c5 => simp; omega
            intro v1 w1 hown1 hg1 _
            have hle1 := (hle.alloc (.cells #[.int .i64 (k : Int)] 3)).grown hg1 (fun k hk => (O1.lt k hk).1)
            go_wp2
            go_roundw
            case rel => exact ⟨k + 1, by omega, by go_num, by rw [HB.out]; simpa [Enc.cells] using hown1, hle1⟩
            case measure => simp [intOf]; omega
          · have HB := Lib.hid (deadK_no hlt h1)
            have hd1 : decide (0 ≤ firstC xs (L.take k) L[k] 0) = false := decide_eq_false h1
            clear h1
            go_wp2_with fail
            refine HC.out.mono ?_
            rintro e w4 ⟨rfl, hle4⟩
            rw [hd1]
            replace O1 := own_le O1 hle4
            replace hle := hle.trans hle4
            clear hd1
            go_wp2
            go_roundw
            case rel => exact ⟨k + 1, by omega, by go_num, by rw [HB.out]; exact O1, hle⟩
            case measure => simp [intOf]; omega
        · have hk' : k = L.length := by omega
          subst hk'
          have HO : ∀ v, wr.ownsRow w3.heap.size 3 1 v (deadK xs L L.length).length ((deadK xs L L.length).flatMap Enc.cells) → Owd 3 w wr v (deadX xs L) := by
            intro v hv
            rw [HF.out]; exact ⟨own_mono hv L0.size, HOK.out⟩
          have HO2 := Lib.hid (HO _ O1)
          clear HO O1
          go_wp2
          go_ret
          exact ⟨_, rfl, HO2.out, L0.trans hle⟩
end Go.Proofs.Ytjcellhpmooifaa
