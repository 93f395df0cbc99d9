/- impl.caughtAt at any catcher, impl.CaughtBy -/
import Derived.Test.YtembnjanopajgaaHJ
import Derived.Test.YtembnjanopajgaaHI
namespace Go.Proofs.Ytembnjanopajgaa
open Go.RowKit

theorem meth_hand (v : Value) (w : World) (A : Option Addr) (n c : Nat) (hv : v = .slice A n c) : (method 287 74 v "loop.example/faultcleanup/impl.catches").run Try.prog w = .ok (112, v) w := by subst hv; kernel_rfl
set_option maxRecDepth 100000 in
theorem caughtAtH_any (A H : Option Addr) (ch : Nat) (gs : List PB) (xs : List Cls) (L : List Int) (g : GoodC xs L) (w : World) (hS : Sl w A xs.length xs.length gs) (hN : Nds w gs xs) (hH : Sl w H L.length ch (L.map (pbAt gs))) :
    Calls Try.prog 43 #[.slice A xs.length xs.length, .iface 74 (.slice H L.length ch)] w fun e w' => ∃ v, e = .returned v ∧ w'.ownsRow w.heap.size 3 1 v (caughtK xs L xs.length).length ((caughtK xs L xs.length).flatMap Enc.cells) ∧ Le w w' := by
  obtain ⟨i0, hi, hz0, hz1, hz2⟩ := info_parts intInfo
  have HL := Lib.hid hN.len
  have hhi := g.tree.hi
  go_enter Try.func43, Try.ntmps43
  go_wp2
  go_loopw [5, 10] (fun v q wr => ∃ k : Nat, k ≤ xs.length ∧ q = .int .i64 k ∧ wr.ownsRow w.heap.size 3 1 v (caughtK xs L k).length ((caughtK xs L k).flatMap Enc.cells) ∧ Le w wr) (fun _ q _ => xs.length - (intOf q).toNat)
  case atStart => exact ⟨0, Nat.zero_le _, rfl, World.ownsRow_nil _ _ _ _, Le.refl _⟩
  case round =>
    obtain ⟨k, hk, rfl, O1, hle⟩ := hrel
    by_cases hlt : k < xs.length
    · have hkg : k < gs.length := by have := HL.out; omega
      obtain ⟨b, off, rfl, hb, hcell⟩ := (hS.le hle).pb_at hkg
      have hNr := hN.le hle
      have hm := meth_hand (.slice H L.length ch) wr H L.length ch rfl
      have hc := hcatches_any H L.length ch gs xs L g.tree g.mem (k : Int) (by omega) (by omega) wr hNr (hH.le hle)
      rw [ptrOf_at hkg] at hc
      have HC := Lib.hid hc; clear hc
      have hbl := caughtK_len xs L k
      by_cases h1 : 0 ≤ firstC xs L (k : Int) 0
      all_goals
        first | have hd1 : decide (0 ≤ firstC xs L (k : Int) 0) = true := decide_eq_true h1 | have hd1 : decide (0 ≤ firstC xs L (k : Int) 0) = false := decide_eq_false h1
        first | have HB := Lib.hid (caughtK_yes h1) | have HB := Lib.hid (caughtK_no h1)
        clear h1
        go_wp2_with fail
        refine HC.out.mono ?_
        rintro e w4 ⟨rfl, hle4⟩
        have hid := (hNr.le hle4).idx k hkg
        rw [hd1]
        clear hd1
        replace O1 := own_le O1 hle4
        replace hle := hle.trans hle4
        have hsz := hle.size
      · go_wp2_with (at_builtin; refine wpList_append_own _ rfl _ _ 31 rfl w.heap.size 3 i0 (.int .i64 0) 1 8 Try.underlying31 hi hz0 hz1 hz2 rfl (by decide) _ _ _ rfl (O1.alloc _) ⟨w4.heap.size, 0, none⟩ 1 1 [.int .i64 k] rfl rfl ?c1 ?c2 (by unfold maxLen; omega) (by omega) ?c5 ?_)
        case c1 => exact one_new _ _ _
        case c2 => intro u hu; simp at hu; subst hu; rfl
        case c5 => simp; omega
        intro v1 w1 hown1 hg1 _
        have hle1 := (hle.alloc (.cells #[.int .i64 (k : Int)] 3)).grown hg1 (fun k hk => (O1.lt k hk).1)
        go_wp2
        go_roundw
        case rel => exact ⟨k + 1, by omega, by go_num, by rw [HB.out]; simpa [Enc.cells] using hown1, hle1⟩
        case measure => simp [intOf]; omega
      · go_wp2
        go_roundw
        case rel => exact ⟨k + 1, by omega, by go_num, by rw [HB.out]; exact O1, hle⟩
        case measure => simp [intOf]; omega
    · have hk' : k = xs.length := by omega
      subst hk'
      have HO := Lib.hid O1
      clear O1
      go_wp2
      go_ret
      exact ⟨_, rfl, HO.out, hle⟩

theorem iCaughtBy_any (A B : Option Addr) (n cap m c : Nat) (xs : List Cls) (L : List Int) (w : World) (hR : Sl w A n cap xs) (hL : Sl w B m c L) :
    Calls Try.prog 14 #[.agg #[.slice A n cap], .slice B m c] w fun e w' => ∃ v, e = .returned v ∧ Owd 3 w w' v (caughtX xs L) ∧ Le w w' := by
  have L0 := Le.new w (.cells #[.slice A n cap] 25)
  go_enter Try.func14, Try.ntmps14
  go_wp2_with fail
  refine (nodesOf_any A n cap xs _ (hR.alloc _)).mono ?_
  intro e w2 hout
  obtain ⟨hle, A2, n2, gs, rfl, S2, hcase⟩ := nodes_one hout
  replace L0 := L0.trans hle
  clear hout hle
  have S3 := hL.le L0
  go_wp2_with fail
  refine (handlersOf_any A2 B n2 m c gs xs L _ S2 hcase S3).mono ?_
  rintro e w3 ⟨hle, hcs⟩
  replace L0 := L0.trans hle
  replace S2 := S2.le hle
  rcases hcs with ⟨h1, rfl⟩ | ⟨h1, H, ch, rfl, S5⟩
  · have HF := Lib.hid (caughtX_of h1)
    clear hcase h1
    go_wp2
    go_ret
    exact ⟨_, rfl, by rw [HF.out]; exact Owd.nil _ _ _, L0⟩
  · have gc := goodC_of h1
    rcases hcase with ⟨h0, _⟩ | ⟨_, rfl, hN⟩
    · rw [hand_tree h1] at h0; cases h0
    · replace hN := hN.le hle
      have HF := Lib.hid (caughtX_of h1)
      have hhi := gc.tree.hi
      clear h1 hle
      go_wp2_with fail
      refine (caughtAtH_any A2 H ch gs xs L gc _ S2 hN S5).mono ?_
      rintro e w4 ⟨v, rfl, O1, hle4⟩
      have HO : Hid (Owd 3 w w4 v (caughtX xs L)) := by
        show Owd _ _ _ _ _
        rw [HF.out]; exact ⟨own_mono O1 L0.size, caughtK_ok xs L _ hhi⟩
      clear O1
      go_wp2
      go_ret
      exact ⟨_, rfl, HO.out, L0.trans hle4⟩
end Go.Proofs.Ytembnjanopajgaa
