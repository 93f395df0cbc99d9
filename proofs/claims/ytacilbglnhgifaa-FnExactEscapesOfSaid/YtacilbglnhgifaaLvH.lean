/- exits: EscapesOf of the model -/
import Derived.Test.YtacilbglnhgifaaLvG
namespace Go.Proofs.Ytacilbglnhgifaa
open Go.RowKit
set_option maxHeartbeats 2000000 in
set_option maxRecDepth 100000 in
theorem sEscapesOf_any (B : Option Addr) (m c : Nat) (xs : List Cls) (A : Option Addr) (n cap : Nat) (L : List Xit) (w : World) (hT : Sl w B m c xs) (hL : Sl w A n cap L) :
    Calls Try.prog 20 #[.agg #[.slice B m c], .slice A n cap] w (OwnInts (escI xs L) w) := by
  obtain ⟨i0, hi, hz0, hz1, hz2⟩ := info_parts intInfo
  have hl := Le.new w (.cells #[.slice B m c] 39)
  have c0 : (w.alloc (.cells #[.slice B m c] 39)).cell? ⟨w.heap.size, 0, none⟩ = some (.slice B m c) := by rw [World.cell?_alloc_at _ _ _ _ rfl]; rfl
  have hz : w.heap.size < (w.alloc (.cells #[.slice B m c] 39)).heap.size := by simp
  have hS := hT.le hl
  have hSL := hL.le hl
  cases h1 : vxs xs L
  · have HF := Lib.hid (escI_of h1)
    go_enter Try.func20, Try.ntmps20
    go_wp2_with fail
    generalize w.alloc (.cells #[.slice B m c] 39) = W at *
    refine (svalidExits_any B A m c n cap xs L _ hS hSL).mono ?_
    rintro e w2 ⟨rfl, hle⟩
    rw [h1]
    clear h1
    have HO : Hid (OwnInts (escI xs L) w (.returned (.slice none 0 0)) w2) := by
      show OwnInts _ _ _ _
      rw [HF.out]; exact own_nil w w2 (hl.trans hle)
    go_wp2
    go_ret
    exact HO.out
  · have HF := Lib.hid (escI_pas h1)
    have hab := vxs_iff.1 h1
    have g := good_of hab.1
    have hLl := hab.2.1
    clear hab
    have hhi := g.hi
    obtain rfl := hT.len
    have hnl := hL.len
    go_enter Try.func20, Try.ntmps20
    go_wp2_with fail
    generalize w.alloc (.cells #[.slice B xs.length c] 39) = W at *
    refine (svalidExits_any B A xs.length c n cap xs L _ hS hSL).mono ?_
    rintro e w2 ⟨rfl, hle⟩
    rw [h1]
    clear h1
    have c2 := (hle.cell hz).trans c0
    have hz2' := Nat.lt_of_lt_of_le hz hle.size
    have hl2 := hl.trans hle
    clear c0 hz hle hl hS hSL
    go_wp2
    generalize HFN : (fun k : Nat => pasL xs L (k : Int)) = F at *
    go_loopw [5, 6] (fun v q wr => ∃ k : Nat, k ≤ xs.length ∧ q = .int .i64 k ∧ wr.ownsRow w2.heap.size 3 1 v (escK F k).length ((escK F k).flatMap Enc.cells) ∧ Le w2 wr) (fun _ q _ => xs.length - (intOf q).toNat)
    case atStart => exact ⟨0, Nat.zero_le _, rfl, own_empty (Nat.le_refl _) rfl, Le.new w2 _⟩
    case round =>
      obtain ⟨k, hk, rfl, hown, hle⟩ := hrel
      have cr := (hle.cell hz2').trans c2
      have hRr := hT.le (hl2.trans hle)
      have hLr := hL.le (hl2.trans hle)
      have hzr := Nat.lt_of_lt_of_le hz2' hle.size
      by_cases hlt : k < xs.length
      · have hbl := escK_len F k
        go_wp2_with fail
        refine (passes_any B xs.length c xs A n cap L (k : Int) g (by omega) (by omega) _ hRr hLr).mono ?_
        rintro e w3 ⟨rfl, hle3⟩
        have hown3 := own_le hown hle3
        have hle' := hle.trans hle3
        have HFK : Hid (F k = pasL xs L (k : Int)) := by show _ = _; rw [← HFN]
        generalize pasL xs L (k : Int) = fa at *
        clear hown hle HFN
        cases fa
        rotate_left 1
        · skip
          have HB : Hid (escK F (k + 1) = escK F k ++ [(k : Int)]) := by show _ = _; rw [escK, HFK.out]; simp
          have hc3 : (escK F k).length + 1 ≤ maxLen := by unfold maxLen; omega
          have hc4 : ((escK F k).length + 1) * 8 ≤ 140737488355328 := by omega
          have hsz3 := hle'.size
          go_wp2_with (at_builtin; refine wpList_append_own _ rfl _ _ 30 rfl w2.heap.size 3 i0 (.int .i64 0) 1 8 Try.underlying30 hi hz0 hz1 hz2 rfl (by decide) _ _ _ rfl (hown3.alloc _) ⟨w3.heap.size, 0, none⟩ 1 1 [.int .i64 k] rfl rfl ?c1 ?c2 hc3 hc4 ?c5 ?_)
          case c1 => exact one_new _ _ _
          case c2 => intro u hu; simp at hu; subst hu; rfl
          case c5 => simp; omega
          intro v1 w1 hown1 hg1 _
          have hle1 := (hle'.alloc (.cells #[.int .i64 (k : Int)] 3)).grown hg1 (fun k hk => (hown3.lt k hk).1)
          go_wp2
          go_roundw
          case rel =>
            refine ⟨k + 1, by omega, by go_num, ?_, hle1⟩
            rw [HB.out, List.length_append, List.flatMap_append]
            exact hown1
          case measure => simp [intOf]; omega
        · have HB : Hid (escK F (k + 1) = escK F k) := by show _ = _; rw [escK, HFK.out]; simp
          go_wp2
          go_roundw
          case rel => exact ⟨k + 1, by omega, by go_num, by rw [HB.out]; exact hown3, hle'⟩
          case measure => simp [intOf]; omega
      · have he : k = xs.length := by omega
        have HO : Hid (OwnInts (escI xs L) w (.returned u5) wr) := by
          show OwnInts _ _ _ _
          rw [HF.out, ← he]
          exact ⟨_, rfl, own_mono hown (by have := hl2.size; omega), escK_ok F k (by omega), hl2.trans hle⟩
        clear hown
        go_wp2
        go_ret
        exact HO.out
theorem escI_len (xs : List Cls) (L : List Xit) : (escI xs L).length ≤ 1048576 := by
  cases h : vxs xs L
  · rw [escI_of h]; simp
  · have g := (good_of (vxs_iff.1 h).1).hi
    have := escK_len (fun k => faX xs L true (k : Int) == 0) xs.length
    rw [escI_of h]; show (escK _ xs.length).length ≤ _; omega
theorem sEscapesOfW_any (B A : Option Addr) (m c n cap : Nat) (xs : List Cls) (L : List Xit) (w : World) (hT : Sl w B m c xs) (hL : Sl w A n cap L) :
    Calls Try.prog 20 #[.agg #[.slice B m c], .slice A n cap] w fun e w' => ∃ v, e = .returned v ∧ Owd 3 w w' v (escI xs L) ∧ Le w w' :=
  (sEscapesOf_any B m c xs A n cap L w hT hL).mono fun _ _ ⟨v, e, h1, h2, h3⟩ => ⟨v, e, ⟨h1, h2⟩, h3⟩
theorem iEscapesOfW_any (B A : Option Addr) (m c n cap : Nat) (xs : List Cls) (L : List Xit) (w : World) (hT : Sl w B m c xs) (hL : Sl w A n cap L) :
    Calls Try.prog 21 #[.agg #[.slice B m c], .slice A n cap] w fun e w' => ∃ v, e = .returned v ∧ Owd 3 w w' v (escI xs L) ∧ Le w w' :=
  (iEscapesOf_any B m c xs A n cap L w hT hL).mono fun _ _ ⟨v, e, h1, h2, h3⟩ => ⟨v, e, ⟨h1, h2⟩, h3⟩
end Go.Proofs.Ytacilbglnhgifaa
