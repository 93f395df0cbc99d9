import Derived.Test.YtdookbcnodghnaaV
namespace Go.Proofs.Ytdookbcnodghnaa
open Go.RowKit

theorem aboveX_len (xs : List Cls) (a : Int) : (aboveX xs a).length ≤ 1048576 := by
  cases h : okTree xs && hasK xs a
  · rw [aboveX_of h]; simp
  · have hab : okTree xs = true ∧ hasK xs a = true := by simpa using h
    have g := good_of hab.1
    have hka := hasK_iff.1 hab.2
    have := aboveL_len g _ a rfl hka.2
    have := g.hi
    rw [aboveX_of h]; show (aboveL xs a).length ≤ _; omega
theorem sAboveOf_any (A : Option Addr) (n cap : Nat) (xs : List Cls) (a : Int) (w : World) (hR : Sl w A n cap xs) :
    Calls Try.prog 27 #[.agg #[.slice A n cap], .int .i64 a] w (OwnInts (aboveX xs a) w) := by
  have hl := Le.new w (.cells #[.slice A n cap] 25)
  have c0 : (w.alloc (.cells #[.slice A n cap] 25)).cell? ⟨w.heap.size, 0, none⟩ = some (.slice A n cap) := by rw [World.cell?_alloc_at _ _ _ _ rfl]; rfl
  have hz : w.heap.size < (w.alloc (.cells #[.slice A n cap] 25)).heap.size := by simp
  have hS := hR.le hl
  cases h1 : okTree xs && hasK xs a
  · have HF := Lib.hid (aboveX_of h1)
    go_enter Try.func27, Try.ntmps27
    go_wp2_with fail
    generalize w.alloc (.cells #[.slice A n cap] 25) = W at *
    refine (goodClass_any A n cap xs a _ hS).mono ?_
    rintro e w2 ⟨rfl, hle⟩
    rw [h1]
    clear h1
    have HO : Hid (OwnInts (aboveX xs a) w (.returned (.slice none 0 0)) w2) := by
      show OwnInts _ _ _ _
      rw [HF.out]; exact own_nil w w2 (hl.trans hle)
    go_wp2
    go_ret
    exact HO.out
  · have hab : okTree xs = true ∧ hasK xs a = true := by simpa using h1
    have g := good_of hab.1
    have hka := hasK_iff.1 hab.2
    clear hab
    have HF := Lib.hid (aboveX_of h1)
    go_enter Try.func27, Try.ntmps27
    go_wp2_with fail
    generalize w.alloc (.cells #[.slice A n cap] 25) = W at *
    refine (goodClass_any A n cap xs a _ hS).mono ?_
    rintro e w2 ⟨rfl, hle⟩
    rw [h1]
    clear h1
    have c2 := (hle.cell hz).trans c0
    go_wp2_with fail
    refine (above_any A n cap xs a _ (hS.le hle) g hka.2 (by omega)).mono ?_
    rintro e w3 ⟨v, rfl, hown, hle3⟩
    have hll := (hl.trans hle)
    have HO : Hid (OwnInts (aboveX xs a) w (.returned v) w3) := by
      show OwnInts _ _ _ _
      rw [HF.out]; exact ⟨v, rfl, own_mono hown hll.size, above_ok g hka.2, hll.trans hle3⟩
    go_wp2
    go_ret
    exact HO.out

set_option maxRecDepth 100000 in
theorem iAboveOf_any (A : Option Addr) (n cap : Nat) (xs : List Cls) (a : Int) (w : World) (hR : Sl w A n cap xs) :
    Calls Try.prog 24 #[.agg #[.slice A n cap], .int .i64 a] w (OwnInts (aboveX xs a) w) := by
  obtain ⟨i0, hi, hz0, hz1, hz2⟩ := info_parts intInfo
  have hl := Le.new w (.cells #[.slice A n cap] 25)
  go_enter Try.func24, Try.ntmps24
  go_wp2_with fail
  refine (nodesOf_any A n cap xs _ (hR.alloc _)).mono ?_
  intro e w2 hout
  obtain ⟨hle, A2, n2, gs, rfl, hS2, hcase⟩ := nodes_one hout
  have hl2 := hl.trans hle
  clear hout hle hl
  go_wp2_with fail
  refine (nodeAt_any _ _ _ gs a _ hS2).mono ?_
  rintro e w3 ⟨rfl, rfl⟩
  by_cases hno : (okTree xs && hasK xs a) = true
  · have hab : okTree xs = true ∧ hasK xs a = true := by simpa using hno
    have g := good_of hab.1
    have hka := hasK_iff.1 hab.2
    rcases hcase with ⟨h0, _⟩ | ⟨h1, _, hN⟩
    · rw [hab.1] at h0; cases h0
    · have HF := Lib.hid (aboveX_of hno)
      have HL := Lib.hid hN.len
      have hlen := aboveL_len g _ a rfl hka.2
      have hhi := g.hi
      clear hab hno h1
      go_wp2
      go_loopw [5, 6] (fun v q wr => ∃ a' : Int, ∃ out : List Int, -1 ≤ a' ∧ a' < xs.length ∧ q = .pointer (ptrOf gs a') ∧ aboveL xs a = out ++ aboveL xs a' ∧ wr.ownsRow w2.heap.size 3 1 v out.length (out.flatMap Enc.cells) ∧ Le w2 wr) (fun _ q _ => blk q)
      case atStart => exact ⟨a, [], by omega, hka.2, rfl, rfl, World.ownsRow_nil _ _ _ _, Le.refl _⟩
      case round =>
        obtain ⟨a', out, h1, h2, rfl, hr, hown, hle⟩ := hrel
        have HR := Lib.hid hr; clear hr
        have hNr := hN.le hle
        rcases ptrOf_form (gs := gs) HL.out h2 with ⟨hp, h0⟩ | ⟨i, hi', rfl, hp⟩
        · have HO : Hid (OwnInts (aboveX xs a) w (.returned u5) wr) := by
            have e : aboveL xs a = out := by rw [HR.out, aboveL_neg h0, List.append_nil]
            show OwnInts _ _ _ _
            rw [HF.out]
            refine ⟨u5, rfl, ?_, above_ok g hka.2, hl2.trans hle⟩
            show World.ownsRow _ _ _ _ _ (aboveL xs a).length ((aboveL xs a).flatMap Enc.cells)
            rw [e]; exact own_mono hown hl2.size
          rw [hp]
          clear hp
          go_wp2
          go_ret
          exact HO.out
        · have hx : i < xs.length := by omega
          have hpl := g.par_le hx
          have HS : Hid (aboveL xs a = (out ++ [(i : Int)]) ++ aboveL xs xs[i].parent) := by show _ = _; rw [HR.out, aboveL_at g hx]; simp
          have hol : out.length + 1 ≤ 8 := by
            have e := congrArg List.length HS.out
            simp at e; omega
          have hc3 : out.length + 1 ≤ maxLen := by unfold maxLen; omega
          have hc4 : (out.length + 1) * 8 ≤ 140737488355328 := by omega
          have hid := hNr.idx i hi'
          have hup := hNr.up i hi' hx
          have hgl := hN.lt i hi'
          have hbe := hle.size
          have HB := Lib.hid (blk_up hN g hi' hx)
          rw [hp]
          clear hp
          go_wp2_with (at_builtin; refine wpList_append_own _ rfl _ _ 38 rfl w2.heap.size 3 i0 (.int .i64 0) 1 8 Try.underlying38 hi hz0 hz1 hz2 rfl (by decide) _ _ _ rfl (hown.alloc _) ⟨wr.heap.size, 0, none⟩ 1 1 [.int .i64 i] rfl rfl ?c1 ?c2 hc3 hc4 ?c5 ?_)
          case c1 => exact one_new _ _ _
          case c2 => intro u hu; simp at hu; subst hu; rfl
          case c5 => simp; omega
          intro v1 w1 hown1 hg1 _
          have hle1 := (hle.alloc (.cells #[.int .i64 (i : Int)] 3)).grown hg1 (fun k hk => (hown.lt k hk).1)
          have hup1 := (hN.le hle1).up i hi' hx
          clear hid hup
          go_wp2
          go_roundw
          case rel =>
            refine ⟨xs[i].parent, out ++ [(i : Int)], by omega, by omega, rfl, HS.out, ?_, hle1⟩
            simpa [Enc.cells] using hown1
          case measure => exact HB.out
  · have h1 : (okTree xs && hasK xs a) = false := by simpa using hno
    have HF := Lib.hid (aboveX_of h1)
    have hp : ptrOf gs a = none := by
      rcases hcase with ⟨h0, _, rfl⟩ | ⟨h0, _, hN⟩
      · exact ptrOf_nil a
      · rcases ptr_cases hN.len a with ⟨_, h⟩ | ⟨h, _⟩
        · exact h
        · rw [h0, h] at h1; cases h1
    rw [hp]
    clear hp hcase h1 hno
    have HO : Hid (OwnInts (aboveX xs a) w (.returned (.slice none 0 0)) w2) := by
      show OwnInts _ _ _ _
      rw [HF.out]; exact own_nil w w2 hl2
    go_wp2
    refine wp_loop_rounds 1 ?_
    rw [rounds_succ]
    go_wp2
    go_ret
    exact HO.out
end Go.Proofs.Ytdookbcnodghnaa
