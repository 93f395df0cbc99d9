/- For all bytes the law FnParseExits returns true, and the bytes read behind the call as they did: the variables that the row lists read as the text of the program lays them (the card ties it). -/
import Derived.Test.YtnpcmlcigeccmaaDoorCv13
import Derived.Test.YtnpcmlcigeccmaaDoorFXqP
import Derived.Test.YtnpcmlcigeccmaaDoorCv14
import Derived.Test.YtnpcmlcigeccmaaDoorTie
import Derived.Test.YtnpcmlcigeccmaaDoorCards
import Derived.ChangeVars
import Derived.LaidLaws
import Derived.LaidHandle
import Derived.SevenTiedAt
import Derived.LaidSub
import Derived.MakeChecks
import Derived.Lib.LaidTab
import Derived.Stop.LaidErr
namespace Go.Proofs.YtnpcmlcigeccmaaDoor.fnParseExits
open Go.ChangeShapes Go.WideShapes Go.ChangeAt Go.RowKit Go.Deep Go.Joins
open Go.ChangeMaps (open_string shut_string)
set_option linter.unusedVariables false

theorem el_by {H : Type} {enc : TypeId × Value → H} {P : Program} {w : World} {base : Nat} {spare : Nat → Bool} {held : Bool} {e : TypeId} (he : P.underlying e = some (.int .u8)) :
    ∀ n cs' y, DataW.trod enc P w base spare held n e cs' = some y → ∃ x : By, cs' = Enc.cells x ∧ Enc.ok x := by
  intro n cs' y hy
  obtain ⟨z, hz, _, hwf⟩ := DataW.trod_int he hy
  have hr : 0 ≤ z ∧ z ≤ 255 := by simpa [Lit.wf, IntKind.min, IntKind.max, IntKind.signed, IntKind.bits] using hwf
  have hb : ((UInt8.ofNat z.toNat).toNat : Int) = z := by
    rw [UInt8.toNat_ofNat']
    have : z.toNat < 256 := by omega
    rw [Nat.mod_eq_of_lt (by simpa using this)]; omega
  refine ⟨⟨UInt8.ofNat z.toNat⟩, ?_, trivial⟩
  rw [hz]
  show [Value.int .u8 z] = [Value.int .u8 ((UInt8.ofNat z.toNat).toNat : Int)]
  rw [hb]

theorem own : ownKnob Tryd.prog.godebug = none := by kernel_rfl
theorem laidOut : laidOutB Tryd.prog = true := by kernel_rfl

def lay : List (String × DataW Unit) := [("math/bits.deBruijn32tab", Rows.laid_math_bits_deBruijn32tab), ("math/bits.deBruijn64tab", Rows.laid_math_bits_deBruijn64tab), ("internal/strconv.uint64pow10", Rows.laid_internal_strconv_uint64pow10), ("strconv.ErrRange", Rows.laid_strconv_ErrRange), ("strconv.ErrSyntax", Rows.laid_strconv_ErrSyntax), ("loop.example/faultcleanup/impl.exitWords", Rows.laid_loop_example_faultcleanup_impl_exitWords)]
noncomputable def cellsOf : DataW Unit → Array Value
  | .agg ps => (ps.map fun p => match p with | .lit l => l.value | _ => .nilIface).toArray
  | _ => #[]
noncomputable def setV (h : Array Obj) (n : String) (cs : Array Value) : Array Obj :=
  match Tryd.prog.globalNamed n with
  | some g => h.modify g fun
      | .cells _ t frozen => .cells cs t frozen
      | o => o
  | none => h
theorem lay_one {W : World} {n : String} {d : DataW Unit} (hn : (lay.filter fun x => x.1 == n) = [(n, d)]) (hd : d.handleName?.isNone = true) (h : laidMetH Tryd.prog lay W) : laidMet Tryd.prog [(n, d)] W := by
  have h1 := h.filter fun x => x.1 == n
  rw [hn, Go.MakeChecks.laidMetH_plain _ _ _ (by simp [hd])] at h1
  exact h1
theorem gotT {W : World} (h : laidMetH Tryd.prog lay W) : TabW W :=
  Lib.tabIs_of_head (g := 2) (by kernel_rfl) (by kernel_rfl) Tryd.underlying133 Tryd.underlying118 (by kernel_rfl) (by kernel_rfl) (lay_one (n := "internal/strconv.uint64pow10") (d := Lib.tabData .u64 Lib.pow10Tab) (by kernel_rfl) (by kernel_rfl) h)
theorem gotX {W : World} (h : laidMetH Tryd.prog lay W) : ExW W :=
  xw_of_laid (lay_one (n := "loop.example/faultcleanup/impl.exitWords") (d := Rows.laid_loop_example_faultcleanup_impl_exitWords) (by kernel_rfl) (by kernel_rfl) h)
theorem errPtr (u : TypeId) (h : Tryd.prog.typeName? 3 u = some "*errors.errorString") : u = 148 := by
  have star : "*" ++ "errors.errorString" = "*errors.errorString" := by decide +kernel
  exact typeName_ptr_named (nm := "errors.errorString") (by rw [star]; kernel_rfl) (by kernel_rfl) (by decide +kernel) u (by rw [star]; exact h)
theorem gotR {W : World} (h : laidMetH Tryd.prog lay W) : ∃ t p, W.cell? ⟨4, 0, none⟩ = some (.iface t p) := by
  obtain ⟨a, s, hv, -⟩ := laid_sentinel (lay_one (n := "strconv.ErrRange") (d := Rows.laid_strconv_ErrRange) (by kernel_rfl) (by kernel_rfl) h) (g := 4) (by kernel_rfl) (by kernel_rfl) Tryd.underlying60 errPtr Tryd.underlying148 Tryd.underlying150 rfl rfl Tryd.underlying9 (by kernel_rfl) (by kernel_rfl)
  exact ⟨_, _, by simpa using World.var?_cell (show Tryd.prog.globalNamed "strconv.ErrRange" = some 4 by kernel_rfl) hv 0⟩
theorem gotS {W : World} (h : laidMetH Tryd.prog lay W) : ∃ t p, W.cell? ⟨3, 0, none⟩ = some (.iface t p) := by
  obtain ⟨a, s, hv, -⟩ := laid_sentinel (lay_one (n := "strconv.ErrSyntax") (d := Rows.laid_strconv_ErrSyntax) (by kernel_rfl) (by kernel_rfl) h) (g := 3) (by kernel_rfl) (by kernel_rfl) Tryd.underlying60 errPtr Tryd.underlying148 Tryd.underlying150 rfl rfl Tryd.underlying9 (by kernel_rfl) (by kernel_rfl)
  exact ⟨_, _, by simpa using World.var?_cell (show Tryd.prog.globalNamed "strconv.ErrSyntax" = some 3 by kernel_rfl) hv 0⟩
theorem got {W : World} (h : laidMetH Tryd.prog lay W) : GotErr W := ⟨gotX h, gotT h, gotS h, gotR h⟩
/-- a world in which the listed variables read so -/
noncomputable def layWorld (os : Os) : World :=
  let w0 := World.holding Tryd.prog os ⟨#[], #[], []⟩
  let k := w0.heap.size
  let h1 := (w0.heap.push (.cells #[.string ⟨#[118, 97, 108, 117, 101, 32, 111, 117, 116, 32, 111, 102, 32, 114, 97, 110, 103, 101]⟩] 150 (0, 0))).push (.cells #[.string ⟨#[105, 110, 118, 97, 108, 105, 100, 32, 115, 121, 110, 116, 97, 120]⟩] 150 (0, 0))
  let h0 := setV (setV h1 "strconv.ErrRange" #[.iface 148 (.pointer (some ⟨k, 0, none⟩))]) "strconv.ErrSyntax" #[.iface 148 (.pointer (some ⟨k + 1, 0, none⟩))]
  { w0 with heap := setV (setV (setV (setV h0 "loop.example/faultcleanup/impl.exitWords" (cellsOf Rows.laid_loop_example_faultcleanup_impl_exitWords)) "math/bits.deBruijn32tab" (cellsOf Rows.laid_math_bits_deBruijn32tab)) "math/bits.deBruijn64tab" (cellsOf Rows.laid_math_bits_deBruijn64tab)) "internal/strconv.uint64pow10" (cellsOf Rows.laid_internal_strconv_uint64pow10) }
theorem layWorld_met (os : Os) (args : Array Value) : laidMetH Tryd.prog lay ((layWorld os).forCall (fun _ _ => 0) ⟨#[], args, []⟩).memory := by
  rw [Go.MakeChecks.laidMetH_plain _ _ _ (by kernel_rfl)]
  exact laidMet_of_run' 8 (by kernel_rfl) (by kernel_rfl)

set_option maxRecDepth 100000 in
theorem lifted (os : Os) (started : os.Started) (H : Type) (enc : TypeId × Value → H) :
    ReturnsInHanded {} Tryd.checked os 4 .any (fun w args => (Rows.fnParseExitsSpec.pre enc Tryd.prog Tryd.f4 [] false w args ∧ laidMetH Tryd.prog lay w) ∧ sizedMet enc Tryd.prog Tryd.f4 (OpenSpec.ofChange Rows.fnParseExitsSpec) false w args) (Rows.fnParseExitsSpec.post enc Tryd.prog Tryd.f4 false true false false) := by
  refine returnsInHanded_of_change_and (C := Tryd.checked) (X := fun w _ => laidMetH Tryd.prog lay w) (fun _ _ _ hh h => h.of_heap hh) own started (by kernel_rfl) Tryd.func4
    (ChangeSpec.witness_at (enc := enc) (C := Tryd.checked) (os := os) (X := fun w _ => laidMetH Tryd.prog lay w) false (layWorld os) #[.slice none 0 0] 8 rfl (by kernel_rfl) (by kernel_rfl) (by kernel_rfl) (by kernel_rfl) (by kernel_rfl) (layWorld_met os _)) ?_
  intro W base args ds gs before hval0 hW _ _ hL _
  have hval : ∀ (j : Nat) t v, Tryd.f4.params[j]? = some t → args[j]? = some v → Value.okWide Tryd.prog W .any base t v := hval0
  have hW' := hW
  obtain ⟨p, q, hA0, hV, rfl, hfz, hnd⟩ := hW
  have hA : DataW.TrodAll enc Tryd.prog W 0 (fun _ => true) true Tryd.f4.params.toList args.toList ds p := hA0
  rw [Tryd.params4] at hA hval
  obtain ⟨v0, vs0, d0, ds0, p0, q0, hargs, rfl, rfl, h0, r0⟩ := trodAll_cons hA
  obtain ⟨rfl, rfl, rfl⟩ := trodAll_nil r0
  obtain rfl : args = #[v0] := by cases args; simp_all
  have hV1 : DataW.TrodVars enc Tryd.prog W (fun _ => true) ["loop.example/faultcleanup/impl.exitWords"] gs q := hV
  obtain ⟨gv, tv, csv, fuelv, ddv, pv, rfl, hgv, htv, hvarv, hdv, rfl⟩ := trodVars_one hV1
  obtain rfl := Option.some.inj (exw_named.symm.trans hgv)
  obtain rfl := Option.some.inj (exw_type.symm.trans htv)
  have hXW : ExW W := (got hL).1
  obtain rfl : csv = xwCells := Option.some.inj (hvarv.symm.trans hXW)
  obtain ⟨rfl, rfl⟩ := DataW.Trod.unique (v := .agg xwCells) ⟨fuelv, hdv⟩ ⟨4, reads_xw enc W _⟩
  clear hV1
  have k0 := h0
  have lt0 : ∀ x ∈ p0, x.block < W.heap.size := by obtain ⟨m, hm⟩ := k0; exact DataW.trod_lt m _ _ _ hm
  obtain ⟨B0, l0, c0, rfl⟩ := okWide_slice Tryd.underlying22 (hval 0 22 v0 rfl rfl)
  obtain ⟨fu0, hf0⟩ := h0
  obtain ⟨A0, m0, cap0, xs0, hcs0, hSl0⟩ := open_sl (α := By) Tryd.underlying22 (by kernel_rfl) (by decide) (el_by Tryd.underlying5) hf0
  simp only [Value.cells, List.cons.injEq, and_true, Value.slice.injEq] at hcs0
  obtain ⟨rfl, rfl, rfl⟩ := hcs0
  clear hA0 hval0
  refine (Go.Proofs.YtnpcmlcigeccmaaDoor.fnParseExits_walk B0 l0 c0 xs0 W hSl0 (got hL)).mono fun e W' ⟨he, bel⟩ => ?_
  subst he
  exact ⟨_, rfl, _, _, _, [], _, _, hW', trodAll_mk1 (shut_bool Tryd.underlying4 _), (trodAll_cons_mk (Below.trod laidOut (by kernel_rfl) (of_decide_eq_true (by kernel_rfl)) k0 bel lt0) trodAll_mk0), trodVars_mk1 (fuel := 4) exw_named exw_type (hXW.le bel) (reads_xw enc _ _), bel.frame _, fun h => by cases h⟩

theorem over : Rows.fnParseExitsRow.holds Tryd.pinned (OpenSpec.ofChange Rows.fnParseExitsSpec) :=
  OpenClaim.holds_of_wide 4 Tryd.f4 rfl rfl rfl rfl rfl rfl rfl ⟨rfl, rfl, rfl, rfl, rfl⟩ rfl rfl rfl rfl rfl (by kernel_rfl) Tryd.func4 (by kernel_rfl)
    (of_decide_eq_true (by kernel_rfl)) (by unfold Func.isWrapper; first | (rw [if_pos (by decide +kernel)]; kernel_rfl) | (rw [if_neg (by decide +kernel)]; exact ⟨rfl, rfl⟩))
    (fun os started H enc _ => lifted os started H enc)

theorem proved : Rows.FnParseExitsCardSaid :=
  Claim7.holds_tied_plain_at .later [] [.data, .data, .data, .sentinel, .sentinel, .data] true _ true
    over (fun _ h => by cases h) (by kernel_rfl) (fun _ h => by cases h) fnParseExits_row_tie rfl ⟨rfl, rfl⟩ (by kernel_rfl) rfl
    (fun f fn hf hfn => by
      obtain rfl : f = 4 := Option.some.inj ((show Tryd.prog.funcNamed "loop.example/faultcleanup/laws.FnParseExits" = some 4 by kernel_rfl).symm.trans hf) |>.symm
      obtain rfl : fn = Tryd.f4 := (Option.some.inj (Tryd.func4.symm.trans hfn)).symm
      exact ⟨by kernel_rfl, fun j t ht => by
        rw [Tryd.params4] at ht
        rcases j with _ | j
        · obtain rfl : t = 22 := by simpa using ht.symm
          exact (show Tryd.prog.wantsStandIn 22 = false by kernel_rfl)
        · simp at ht⟩)
    (by kernel_rfl)
end Go.Proofs.YtnpcmlcigeccmaaDoor.fnParseExits
