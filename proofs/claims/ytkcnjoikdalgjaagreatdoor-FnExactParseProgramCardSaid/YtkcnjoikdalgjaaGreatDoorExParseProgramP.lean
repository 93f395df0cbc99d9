/- For all arguments the exact law of ParseProgram returns true, and its arguments read behind the call as they did: the variables that the row lists read as the text of the program lays them (the card ties it). -/
import Derived.Test.YtkcnjoikdalgjaaGreatDoorZp17
import Derived.Test.YtkcnjoikdalgjaaGreatDoorLawParseProgramP
import Derived.Test.YtkcnjoikdalgjaaGreatDoorTie
import Derived.Test.YtkcnjoikdalgjaaGreatDoorCards
import Derived.ChangeVars
import Derived.LaidLaws
import Derived.LaidHandle
import Derived.SevenTiedAt
import Derived.LaidSub
import Derived.MakeChecks
import Derived.Lib.LaidTab
import Derived.Stop.LaidErr
namespace Go.Proofs.YtkcnjoikdalgjaaGreatDoor.exParseProgram
open Go.ChangeShapes Go.WideShapes Go.ChangeAt Go.RowKit Go.Deep Go.Joins
open Go.ChangeMaps (open_string shut_string)
set_option linter.unusedVariables false

theorem own : ownKnob Tryz.prog.godebug = none := by kernel_rfl
theorem laidOut : laidOutB Tryz.prog = true := by kernel_rfl

def lay : List (String × DataW Unit) := [("math/bits.deBruijn32tab", Rows.laid_math_bits_deBruijn32tab), ("math/bits.deBruijn64tab", Rows.laid_math_bits_deBruijn64tab), ("internal/strconv.uint64pow10", Rows.laid_internal_strconv_uint64pow10), ("unicode/utf8.acceptRanges", Rows.laid_unicode_utf8_acceptRanges), ("strconv.ErrRange", Rows.laid_strconv_ErrRange), ("strconv.ErrSyntax", Rows.laid_strconv_ErrSyntax), ("loop.example/faultcleanup/impl.lineWords", Rows.laid_loop_example_faultcleanup_impl_lineWords), ("unicode/utf8.first", Rows.laid_unicode_utf8_first)]
noncomputable def cellsL : DataW Unit → List Value
  | .lit l => [l.value]
  | _ => []
noncomputable def cellsM : DataW Unit → List Value
  | .agg ps => ps.flatMap cellsL
  | .lit l => [l.value]
  | _ => []
noncomputable def cellsOf : DataW Unit → Array Value
  | .agg ps => (ps.flatMap cellsM).toArray
  | _ => #[]
noncomputable def setV (h : Array Obj) (n : String) (cs : Array Value) : Array Obj :=
  match Tryz.prog.globalNamed n with
  | some g => h.modify g fun
      | .cells _ t frozen => .cells cs t frozen
      | o => o
  | none => h
theorem lay_one {W : World} {n : String} {d : DataW Unit} (hn : (lay.filter fun x => x.1 == n) = [(n, d)]) (hd : d.handleName?.isNone = true) (h : laidMetH Tryz.prog lay W) : laidMet Tryz.prog [(n, d)] W := by
  have h1 := h.filter fun x => x.1 == n
  rw [hn, Go.MakeChecks.laidMetH_plain _ _ _ (by simp [hd])] at h1
  exact h1
theorem gotT {W : World} (h : laidMetH Tryz.prog lay W) : TabW W :=
  Lib.tabIs_of_head (g := 2) (by kernel_rfl) (by kernel_rfl) Tryz.underlying162 Tryz.underlying122 (by kernel_rfl) (by kernel_rfl) (lay_one (n := "internal/strconv.uint64pow10") (d := Lib.tabData .u64 Lib.pow10Tab) (by kernel_rfl) (by kernel_rfl) h)
theorem gotX {W : World} (h : laidMetH Tryz.prog lay W) : LnW W :=
  lw_of_laid (lay_one (n := "loop.example/faultcleanup/impl.lineWords") (d := Rows.laid_loop_example_faultcleanup_impl_lineWords) (by kernel_rfl) (by kernel_rfl) h)
theorem errPtr (u : TypeId) (h : Tryz.prog.typeName? 3 u = some "*errors.errorString") : u = 179 := by
  have star : "*" ++ "errors.errorString" = "*errors.errorString" := by decide +kernel
  exact typeName_ptr_named (nm := "errors.errorString") (by rw [star]; kernel_rfl) (by kernel_rfl) (by decide +kernel) u (by rw [star]; exact h)
theorem gotR {W : World} (h : laidMetH Tryz.prog lay W) : ∃ t p, W.cell? ⟨6, 0, none⟩ = some (.iface t p) := by
  obtain ⟨a, s, hv, -⟩ := laid_sentinel (lay_one (n := "strconv.ErrRange") (d := Rows.laid_strconv_ErrRange) (by kernel_rfl) (by kernel_rfl) h) (g := 6) (by kernel_rfl) (by kernel_rfl) Tryz.underlying56 errPtr Tryz.underlying179 Tryz.underlying181 rfl rfl Tryz.underlying9 (by kernel_rfl) (by kernel_rfl)
  exact ⟨_, _, by simpa using World.var?_cell (show Tryz.prog.globalNamed "strconv.ErrRange" = some 6 by kernel_rfl) hv 0⟩
theorem gotS {W : World} (h : laidMetH Tryz.prog lay W) : ∃ t p, W.cell? ⟨5, 0, none⟩ = some (.iface t p) := by
  obtain ⟨a, s, hv, -⟩ := laid_sentinel (lay_one (n := "strconv.ErrSyntax") (d := Rows.laid_strconv_ErrSyntax) (by kernel_rfl) (by kernel_rfl) h) (g := 5) (by kernel_rfl) (by kernel_rfl) Tryz.underlying56 errPtr Tryz.underlying179 Tryz.underlying181 rfl rfl Tryz.underlying9 (by kernel_rfl) (by kernel_rfl)
  exact ⟨_, _, by simpa using World.var?_cell (show Tryz.prog.globalNamed "strconv.ErrSyntax" = some 5 by kernel_rfl) hv 0⟩
theorem got {W : World} (h : laidMetH Tryz.prog lay W) : GotErr W := ⟨gotX h, gotT h, gotS h, gotR h⟩
/-- a world in which the listed variables read so -/
noncomputable def layWorld (os : Os) : World :=
  let w0 := World.holding Tryz.prog os ⟨#[], #[], []⟩
  let k := w0.heap.size
  let h1 := (w0.heap.push (.cells #[.string ⟨#[118, 97, 108, 117, 101, 32, 111, 117, 116, 32, 111, 102, 32, 114, 97, 110, 103, 101]⟩] 181 (0, 0))).push (.cells #[.string ⟨#[105, 110, 118, 97, 108, 105, 100, 32, 115, 121, 110, 116, 97, 120]⟩] 181 (0, 0))
  let h0 := setV (setV h1 "strconv.ErrRange" #[.iface 179 (.pointer (some ⟨k, 0, none⟩))]) "strconv.ErrSyntax" #[.iface 179 (.pointer (some ⟨k + 1, 0, none⟩))]
  let h0 := setV (setV h0 "unicode/utf8.first" (cellsOf Rows.laid_unicode_utf8_first)) "unicode/utf8.acceptRanges" (cellsOf Rows.laid_unicode_utf8_acceptRanges)
  { w0 with heap := setV (setV (setV (setV h0 "loop.example/faultcleanup/impl.lineWords" (cellsOf Rows.laid_loop_example_faultcleanup_impl_lineWords)) "math/bits.deBruijn32tab" (cellsOf Rows.laid_math_bits_deBruijn32tab)) "math/bits.deBruijn64tab" (cellsOf Rows.laid_math_bits_deBruijn64tab)) "internal/strconv.uint64pow10" (cellsOf Rows.laid_internal_strconv_uint64pow10) }
theorem layWorld_met (os : Os) (args : Array Value) : laidMetH Tryz.prog lay ((layWorld os).forCall (fun _ _ => 0) ⟨#[], args, []⟩).memory := by
  rw [Go.MakeChecks.laidMetH_plain _ _ _ (by kernel_rfl)]
  exact laidMet_of_run' 8 (by kernel_rfl) (by kernel_rfl)

set_option maxRecDepth 100000 in
theorem lifted (os : Os) (started : os.Started) (H : Type) (enc : TypeId × Value → H) :
    ReturnsInHanded {} Tryz.checked os 5 .any (fun w args => (Rows.fnExactParseProgramSpec.pre enc Tryz.prog Tryz.f5 [] false w args ∧ laidMetH Tryz.prog lay w) ∧ sizedMet enc Tryz.prog Tryz.f5 (OpenSpec.ofChange Rows.fnExactParseProgramSpec) false w args) (Rows.fnExactParseProgramSpec.post enc Tryz.prog Tryz.f5 false true false false) := by
  refine returnsInHanded_of_change_and (C := Tryz.checked) (X := fun w _ => laidMetH Tryz.prog lay w) (fun _ _ _ hh h => h.of_heap hh) own started (by kernel_rfl) Tryz.func5
    (ChangeSpec.witness_at (enc := enc) (C := Tryz.checked) (os := os) (X := fun w _ => laidMetH Tryz.prog lay w) false (layWorld os) #[.agg #[.slice none 0 0], .string ByteArray.empty] 8 rfl (by kernel_rfl) (by kernel_rfl) (by kernel_rfl) (by kernel_rfl) (by kernel_rfl) (layWorld_met os _)) ?_
  intro W base args ds gs before hval0 hW _ _ hL _
  have hval : ∀ (j : Nat) t v, Tryz.f5.params[j]? = some t → args[j]? = some v → Value.okWide Tryz.prog W .any base t v := hval0
  have hW' := hW
  obtain ⟨p, q, hA0, hV, rfl, hfz, hnd⟩ := hW
  have hA : DataW.TrodAll enc Tryz.prog W 0 (fun _ => true) true Tryz.f5.params.toList args.toList ds p := hA0
  rw [Tryz.params5] at hA hval
  obtain ⟨v0, vs0, d0, ds0, p0, q0, hargs, rfl, rfl, h0, r0⟩ := trodAll_cons hA
  obtain ⟨v1, vs1, d1, ds1, p1, q1, rfl, rfl, rfl, h1, r1⟩ := trodAll_cons r0
  obtain ⟨rfl, rfl, rfl⟩ := trodAll_nil r1
  obtain rfl : args = #[v0, v1] := by cases args; simp_all
  have hV1 : DataW.TrodVars enc Tryz.prog W (fun _ => true) ["loop.example/faultcleanup/impl.lineWords"] gs q := hV
  obtain ⟨gv, tv, csv, fuelv, ddv, pv, rfl, hgv, htv, hvarv, hdv, rfl⟩ := trodVars_one hV1
  obtain rfl := Option.some.inj (lnw_named.symm.trans hgv)
  obtain rfl := Option.some.inj (lnw_type.symm.trans htv)
  have hLW : LnW W := (got hL).1
  obtain rfl : csv = lwCells := Option.some.inj (hvarv.symm.trans hLW)
  obtain ⟨rfl, rfl⟩ := DataW.Trod.unique (v := .agg lwCells) ⟨fuelv, hdv⟩ ⟨4, reads_lw enc W _⟩
  clear hV1
  have k0 := h0
  have lt0 : ∀ x ∈ p0, x.block < W.heap.size := by obtain ⟨m, hm⟩ := k0; exact DataW.trod_lt m _ _ _ hm
  obtain ⟨u0, y0, n0, rfl, h0x⟩ := open_agg1 Tryz.underlying40 (by kernel_rfl) (by kernel_rfl) (hval 0 40 v0 rfl rfl) h0
  obtain ⟨A0, m0, cap0, xs0, hcs0, hSl0⟩ := open_sl (α := Cls) Tryz.underlying38 (by kernel_rfl) (by decide) (elt_cls Tryz.underlying114 (by kernel_rfl) (by kernel_rfl) Tryz.underlying9 Tryz.underlying3) h0x
  simp only [List.cons.injEq, and_true] at hcs0
  subst hcs0
  obtain ⟨s1, rfl, rfl, rfl, hs1⟩ := open_string Tryz.underlying9 (hval 1 9 v1 rfl rfl) h1
  have hz1 : s1.size ≤ 9223372036854775807 := by simpa [maxLen] using hs1
  clear hA0 hval0
  refine (exParseProgram_walk A0 m0 cap0 xs0 s1 W hSl0 hz1 (got hL)).mono fun e W' ⟨he, bel⟩ => ?_
  subst he
  exact ⟨_, rfl, _, _, _, [], _, _, hW', trodAll_mk1 (shut_bool Tryz.underlying4 _), (trodAll_cons_mk (Below.trod laidOut (by kernel_rfl) (of_decide_eq_true (by kernel_rfl)) k0 bel lt0) (trodAll_cons_mk (shut_string Tryz.underlying9 hs1) trodAll_mk0)), trodVars_mk1 (fuel := 4) lnw_named lnw_type (hLW.le bel) (reads_lw enc _ _), bel.frame _, fun h => by cases h⟩

theorem over : Rows.fnExactParseProgramRow.holds Tryz.pinned (OpenSpec.ofChange Rows.fnExactParseProgramSpec) :=
  OpenClaim.holds_of_wide 5 Tryz.f5 rfl rfl rfl rfl rfl rfl rfl ⟨rfl, rfl, rfl, rfl, rfl⟩ rfl rfl rfl rfl rfl (by kernel_rfl) Tryz.func5 (by kernel_rfl)
    (of_decide_eq_true (by kernel_rfl)) (by unfold Func.isWrapper; first | (rw [if_pos (by decide +kernel)]; kernel_rfl) | (rw [if_neg (by decide +kernel)]; exact ⟨rfl, rfl⟩))
    (fun os started H enc _ => lifted os started H enc)

theorem proved : Rows.FnExactParseProgramCardSaid :=
  Claim7.holds_tied_plain_at .later [] [.data, .data, .data, .data, .sentinel, .sentinel, .data, .pinned] true _ true
    over (fun _ h => by cases h) (by kernel_rfl) (fun _ h => by cases h) fnExactParseProgram_row_tie rfl ⟨rfl, rfl⟩ (by kernel_rfl) rfl
    (fun f fn hf hfn => by
      obtain rfl : f = 5 := Option.some.inj ((show Tryz.prog.funcNamed "loop.example/faultcleanup/laws.FnExactParseProgram" = some 5 by kernel_rfl).symm.trans hf) |>.symm
      obtain rfl : fn = Tryz.f5 := (Option.some.inj (Tryz.func5.symm.trans hfn)).symm
      exact ⟨by kernel_rfl, fun j t ht => by
        rw [Tryz.params5] at ht
        rcases j with _ | _ | j
        · obtain rfl : t = 40 := by simpa using ht.symm
          exact (show Tryz.prog.wantsStandIn 40 = false by kernel_rfl)
        · obtain rfl : t = 9 := by simpa using ht.symm
          exact (show Tryz.prog.wantsStandIn 9 = false by kernel_rfl)
        · simp at ht⟩)
    (by kernel_rfl)
end Go.Proofs.YtkcnjoikdalgjaaGreatDoor.exParseProgram
