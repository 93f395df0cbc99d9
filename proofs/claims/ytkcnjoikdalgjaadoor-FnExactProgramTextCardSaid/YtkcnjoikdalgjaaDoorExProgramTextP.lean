/- For all arguments the exact law of ProgramText returns true, and its arguments read behind the call as they did: the variables that the row lists read as the text of the program lays them (the card ties it). -/
import Derived.Test.YtkcnjoikdalgjaaDoorDp10
import Derived.Test.YtkcnjoikdalgjaaDoorLawProgramTextP
import Derived.Test.YtkcnjoikdalgjaaDoorTie
import Derived.Test.YtkcnjoikdalgjaaDoorCards
import Derived.ChangeVars
import Derived.LaidLaws
import Derived.LaidHandle
import Derived.SevenTiedAt
import Derived.LaidSub
import Derived.MakeChecks
import Derived.Lib.LaidTab
namespace Go.Proofs.YtkcnjoikdalgjaaDoor.exProgramText
open Go.ChangeShapes Go.WideShapes Go.ChangeAt Go.RowKit Go.Deep Go.Joins
open Go.ChangeMaps (open_string shut_string)
set_option linter.unusedVariables false

theorem own : ownKnob Tryd.prog.godebug = none := by kernel_rfl
theorem laidOut : laidOutB Tryd.prog = true := by kernel_rfl

def lay : List (String × DataW Unit) := [("math/bits.deBruijn32tab", Rows.laid_math_bits_deBruijn32tab), ("math/bits.deBruijn64tab", Rows.laid_math_bits_deBruijn64tab), ("internal/strconv.uint64pow10", Rows.laid_internal_strconv_uint64pow10), ("loop.example/faultcleanup/impl.lineWords", Rows.laid_loop_example_faultcleanup_impl_lineWords)]
noncomputable def cellsL : DataW Unit → List Value
  | .lit l => [l.value]
  | _ => []
noncomputable def cellsM : DataW Unit → List Value
  | .agg ps => ps.flatMap cellsL
  | .lit l => [l.value]
  | _ => []
noncomputable def cellsOf : DataW Unit → Array Value
  | .agg ps => (ps.flatMap cellsM).toArray
  | _ => #[]
noncomputable def setV (h : Array Obj) (n : String) (cs : Array Value) : Array Obj :=
  match Tryd.prog.globalNamed n with
  | some g => h.modify g fun
      | .cells _ t frozen => .cells cs t frozen
      | o => o
  | none => h
theorem lay_one {W : World} {n : String} {d : DataW Unit} (hn : (lay.filter fun x => x.1 == n) = [(n, d)]) (hd : d.handleName?.isNone = true) (h : laidMetH Tryd.prog lay W) : laidMet Tryd.prog [(n, d)] W := by
  have h1 := h.filter fun x => x.1 == n
  rw [hn, Go.MakeChecks.laidMetH_plain _ _ _ (by simp [hd])] at h1
  exact h1
theorem gotT {W : World} (h : laidMetH Tryd.prog lay W) : TabW W :=
  Lib.tabIs_of_head (g := 2) (by kernel_rfl) (by kernel_rfl) Tryd.underlying115 Tryd.underlying98 (by kernel_rfl) (by kernel_rfl) (lay_one (n := "internal/strconv.uint64pow10") (d := Lib.tabData .u64 Lib.pow10Tab) (by kernel_rfl) (by kernel_rfl) h)
theorem gotX {W : World} (h : laidMetH Tryd.prog lay W) : LnW W :=
  lw_of_laid (lay_one (n := "loop.example/faultcleanup/impl.lineWords") (d := Rows.laid_loop_example_faultcleanup_impl_lineWords) (by kernel_rfl) (by kernel_rfl) h)
theorem got {W : World} (h : laidMetH Tryd.prog lay W) : GotErr W := ⟨gotX h, gotT h⟩
/-- a world in which the listed variables read so -/
noncomputable def layWorld (os : Os) : World :=
  let w0 := World.holding Tryd.prog os ⟨#[], #[], []⟩
  let h0 := w0.heap
  { w0 with heap := setV (setV (setV (setV h0 "loop.example/faultcleanup/impl.lineWords" (cellsOf Rows.laid_loop_example_faultcleanup_impl_lineWords)) "math/bits.deBruijn32tab" (cellsOf Rows.laid_math_bits_deBruijn32tab)) "math/bits.deBruijn64tab" (cellsOf Rows.laid_math_bits_deBruijn64tab)) "internal/strconv.uint64pow10" (cellsOf Rows.laid_internal_strconv_uint64pow10) }
theorem layWorld_met (os : Os) (args : Array Value) : laidMetH Tryd.prog lay ((layWorld os).forCall (fun _ _ => 0) ⟨#[], args, []⟩).memory := by
  rw [Go.MakeChecks.laidMetH_plain _ _ _ (by kernel_rfl)]
  exact laidMet_of_run' 8 (by kernel_rfl) (by kernel_rfl)

set_option maxRecDepth 100000 in
theorem lifted (os : Os) (started : os.Started) (H : Type) (enc : TypeId × Value → H) :
    ReturnsInHanded {} Tryd.checked os 3 .any (fun w args => (Rows.fnExactProgramTextSpec.pre enc Tryd.prog Tryd.f3 [] false w args ∧ laidMetH Tryd.prog lay w) ∧ sizedMet enc Tryd.prog Tryd.f3 (OpenSpec.ofChange Rows.fnExactProgramTextSpec) false w args) (Rows.fnExactProgramTextSpec.post enc Tryd.prog Tryd.f3 false true false false) := by
  refine returnsInHanded_of_change_and (C := Tryd.checked) (X := fun w _ => laidMetH Tryd.prog lay w) (fun _ _ _ hh h => h.of_heap hh) own started (by kernel_rfl) Tryd.func3
    (ChangeSpec.witness_at (enc := enc) (C := Tryd.checked) (os := os) (X := fun w _ => laidMetH Tryd.prog lay w) false (layWorld os) #[.agg #[.slice none 0 0], .slice none 0 0] 8 rfl (by kernel_rfl) (by kernel_rfl) (by kernel_rfl) (by kernel_rfl) (by kernel_rfl) (layWorld_met os _)) ?_
  intro W base args ds gs before hval0 hW _ _ hL _
  have hval : ∀ (j : Nat) t v, Tryd.f3.params[j]? = some t → args[j]? = some v → Value.okWide Tryd.prog W .any base t v := hval0
  have hW' := hW
  obtain ⟨p, q, hA0, hV, rfl, hfz, hnd⟩ := hW
  have hA : DataW.TrodAll enc Tryd.prog W 0 (fun _ => true) true Tryd.f3.params.toList args.toList ds p := hA0
  rw [Tryd.params3] at hA hval
  obtain ⟨v0, vs0, d0, ds0, p0, q0, hargs, rfl, rfl, h0, r0⟩ := trodAll_cons hA
  obtain ⟨v1, vs1, d1, ds1, p1, q1, rfl, rfl, rfl, h1, r1⟩ := trodAll_cons r0
  obtain ⟨rfl, rfl, rfl⟩ := trodAll_nil r1
  obtain rfl : args = #[v0, v1] := by cases args; simp_all
  have hV1 : DataW.TrodVars enc Tryd.prog W (fun _ => true) ["loop.example/faultcleanup/impl.lineWords"] gs q := hV
  obtain ⟨gv, tv, csv, fuelv, ddv, pv, rfl, hgv, htv, hvarv, hdv, rfl⟩ := trodVars_one hV1
  obtain rfl := Option.some.inj (lnw_named.symm.trans hgv)
  obtain rfl := Option.some.inj (lnw_type.symm.trans htv)
  have hLW : LnW W := (got hL).1
  obtain rfl : csv = lwCells := Option.some.inj (hvarv.symm.trans hLW)
  obtain ⟨rfl, rfl⟩ := DataW.Trod.unique (v := .agg lwCells) ⟨fuelv, hdv⟩ ⟨4, reads_lw enc W _⟩
  clear hV1
  have k0 := h0
  have lt0 : ∀ x ∈ p0, x.block < W.heap.size := by obtain ⟨m, hm⟩ := k0; exact DataW.trod_lt m _ _ _ hm
  obtain ⟨u0, y0, n0, rfl, h0x⟩ := open_agg1 Tryd.underlying24 (by kernel_rfl) (by kernel_rfl) (hval 0 24 v0 rfl rfl) h0
  obtain ⟨A0, m0, cap0, xs0, hcs0, hSl0⟩ := open_sl (α := Cls) Tryd.underlying22 (by kernel_rfl) (by decide) (elt_cls Tryd.underlying60 (by kernel_rfl) (by kernel_rfl) Tryd.underlying9 Tryd.underlying3) h0x
  simp only [List.cons.injEq, and_true] at hcs0
  subst hcs0
  have k1 := h1
  have lt1 : ∀ x ∈ p1, x.block < W.heap.size := by obtain ⟨m, hm⟩ := k1; exact DataW.trod_lt m _ _ _ hm
  obtain ⟨B1, l1, c1, rfl⟩ := okWide_slice Tryd.underlying25 (hval 1 25 v1 rfl rfl)
  obtain ⟨fu1, hf1⟩ := h1
  obtain ⟨A1, m1, cap1, xs1, hcs1, hSl1⟩ := open_sl (α := Lin) Tryd.underlying25 (by kernel_rfl) (by decide) (elt_lin Tryd.underlying44 (by kernel_rfl) (by kernel_rfl) Tryd.underlying3 Tryd.underlying3 Tryd.underlying3 Tryd.underlying3) hf1
  simp only [Value.cells, List.cons.injEq, and_true, Value.slice.injEq] at hcs1
  obtain ⟨rfl, rfl, rfl⟩ := hcs1
  clear hA0 hval0
  refine (exProgramText_walk A0 m0 cap0 xs0 B1 l1 c1 xs1 W hSl0 hSl1 (got hL)).mono fun e W' ⟨he, bel⟩ => ?_
  subst he
  exact ⟨_, rfl, _, _, _, [], _, _, hW', trodAll_mk1 (shut_bool Tryd.underlying4 _), (trodAll_cons_mk (Below.trod laidOut (by kernel_rfl) (of_decide_eq_true (by kernel_rfl)) k0 bel lt0) (trodAll_cons_mk (Below.trod laidOut (by kernel_rfl) (of_decide_eq_true (by kernel_rfl)) k1 bel lt1) trodAll_mk0)), trodVars_mk1 (fuel := 4) lnw_named lnw_type (hLW.le bel) (reads_lw enc _ _), bel.frame _, fun h => by cases h⟩

theorem over : Rows.fnExactProgramTextRow.holds Tryd.pinned (OpenSpec.ofChange Rows.fnExactProgramTextSpec) :=
  OpenClaim.holds_of_wide 3 Tryd.f3 rfl rfl rfl rfl rfl rfl rfl ⟨rfl, rfl, rfl, rfl, rfl⟩ rfl rfl rfl rfl rfl (by kernel_rfl) Tryd.func3 (by kernel_rfl)
    (of_decide_eq_true (by kernel_rfl)) (by unfold Func.isWrapper; first | (rw [if_pos (by decide +kernel)]; kernel_rfl) | (rw [if_neg (by decide +kernel)]; exact ⟨rfl, rfl⟩))
    (fun os started H enc _ => lifted os started H enc)

theorem proved : Rows.FnExactProgramTextCardSaid :=
  Claim7.holds_tied_plain_at .later [] [.data, .data, .data, .data] true _ false
    over (fun _ h => by cases h) (by kernel_rfl) (fun _ h => by cases h) fnExactProgramText_row_tie rfl ⟨rfl, rfl⟩ (by kernel_rfl) rfl
    (fun f fn hf hfn => by
      obtain rfl : f = 3 := Option.some.inj ((show Tryd.prog.funcNamed "loop.example/faultcleanup/laws.FnExactProgramText" = some 3 by kernel_rfl).symm.trans hf) |>.symm
      obtain rfl : fn = Tryd.f3 := (Option.some.inj (Tryd.func3.symm.trans hfn)).symm
      exact ⟨by kernel_rfl, fun j t ht => by
        rw [Tryd.params3] at ht
        rcases j with _ | _ | j
        · obtain rfl : t = 24 := by simpa using ht.symm
          exact (show Tryd.prog.wantsStandIn 24 = false by kernel_rfl)
        · obtain rfl : t = 25 := by simpa using ht.symm
          exact (show Tryd.prog.wantsStandIn 25 = false by kernel_rfl)
        · simp at ht⟩)
    (by kernel_rfl)
end Go.Proofs.YtkcnjoikdalgjaaDoor.exProgramText
