/- one text of HpD, ErCtx, ErIs, ErBk, VH, HpJ -/
import Derived.Test.YtonpgohigncjeaaCx4
import Derived.Test.YtonpgohigncjeaaCx2
import Derived.Test.YtonpgohigncjeaaCx5
import Derived.Test.YtonpgohigncjeaaCx6
import Derived.LaidEql
import Derived.LaidEqlPtr
import Derived.Stop.Asserts
import Derived.RowKitTokens
import Derived.Deep.RegionHeld3
import Derived.Deep.LoopGhost
namespace Go.Proofs.Ytonpgohigncjeaa
open Go.RowKit
set_option linter.unusedVariables false
section
def upPtr (gs : List Nat) : Nat → Option Addr
  | 0 => none
  | k + 1 => (gs[k]?).map fun g => ⟨g, 0, none⟩
theorem upPtr_succ (gs : List Nat) (k : Nat) : upPtr gs (k + 1) = (gs[k]?).map fun g => ⟨g, 0, none⟩ := rfl
theorem upPtr_at {gs : List Nat} {k : Nat} (h : k < gs.length) : upPtr gs (k + 1) = some ⟨gs[k], 0, none⟩ := by rw [upPtr_succ, List.getElem?_eq_getElem h]; rfl
def TvOk (tv : Value) : Prop := ∃ A n cap, tv = .slice A n cap
/-- a chain of failures: each but the first came from the one ahead of it -/
structure FCh (w : World) (tv hv lk : Value) (gs : List Nat) (out : List Int) : Prop where
  len : gs.length = out.length
  lt : ∀ k (h : k < gs.length), gs[k] < w.heap.size
  asc : ∀ j k (hj : j < gs.length) (hk : k < gs.length), j < k → gs[j] < gs[k]
  row : ∀ k (h : k < gs.length) (h2 : k < out.length), w.heap[gs[k]]? = some (.cells #[tv, hv, .int .i64 out[k], lk, .pointer (upPtr gs k)] 139 (0, 0))
section
variable {w w' : World} {tv hv lk : Value} {gs : List Nat} {out : List Int} {k : Nat}
theorem FCh.le (h : FCh w tv hv lk gs out) (hl : Le w w') : FCh w' tv hv lk gs out :=
  ⟨h.len, fun k hk => Nat.lt_of_lt_of_le (h.lt k hk) hl.size, h.asc, fun k h1 h2 => (Below.block hl _ (h.lt k h1)).trans (h.row k h1 h2)⟩
theorem FCh.c0 (h : FCh w tv hv lk gs out) (hk : k < gs.length) : w.cell? ⟨gs[k], 0, none⟩ = some tv := (cell_of_row w _ 0 _ _ _ (h.row k hk (by have := h.len; omega))).trans rfl
theorem FCh.c1 (h : FCh w tv hv lk gs out) (hk : k < gs.length) : w.cell? ⟨gs[k], 1, none⟩ = some hv := (cell_of_row w _ 1 _ _ _ (h.row k hk (by have := h.len; omega))).trans rfl
theorem FCh.c2 (h : FCh w tv hv lk gs out) (hk : k < gs.length) (h2 : k < out.length) : w.cell? ⟨gs[k], 2, none⟩ = some (.int .i64 out[k]) := (cell_of_row w _ 2 _ _ _ (h.row k hk h2)).trans rfl
theorem FCh.c3 (h : FCh w tv hv lk gs out) (hk : k < gs.length) : w.cell? ⟨gs[k], 3, none⟩ = some lk := (cell_of_row w _ 3 _ _ _ (h.row k hk (by have := h.len; omega))).trans rfl
theorem FCh.c4 (h : FCh w tv hv lk gs out) (hk : k < gs.length) : w.cell? ⟨gs[k], 4, none⟩ = some (.pointer (upPtr gs k)) := (cell_of_row w _ 4 _ _ _ (h.row k hk (by have := h.len; omega))).trans rfl
theorem FCh.one {g : Nat} {x : Int} (h : w.heap[g]? = some (.cells #[tv, hv, .int .i64 x, lk, .pointer none] 139 (0, 0))) : FCh w tv hv lk [g] [x] := by
  have hlt : g < w.heap.size := (Array.getElem?_eq_some_iff.1 h).1
  refine ⟨rfl, fun k hk => ?_, fun j k hj hk hjk => ?_, fun k hk h2 => ?_⟩
  · simp at hk; subst hk; exact hlt
  · simp at hj hk; omega
  · simp at hk; subst hk; exact h
theorem FCh.snoc {g : Nat} {x : Int} {j : Nat} (h : FCh w tv hv lk gs out) (hj : gs.length = j + 1) (hl : Le w w') (hg : w.heap.size ≤ g) (hn : w'.heap[g]? = some (.cells #[tv, hv, .int .i64 x, lk, .pointer (some ⟨gs[j], 0, none⟩)] 139 (0, 0))) : FCh w' tv hv lk (gs ++ [g]) (out ++ [x]) := by
  have hlt : g < w'.heap.size := (Array.getElem?_eq_some_iff.1 hn).1
  have hlen := h.len
  have hup : ∀ k, k < gs.length → upPtr (gs ++ [g]) k = upPtr gs k := by
    intro k hk
    cases k with
    | zero => rfl
    | succ k => rw [upPtr_succ, upPtr_succ, List.getElem?_append_left (by omega)]
  have hup2 : upPtr (gs ++ [g]) gs.length = some ⟨gs[j], 0, none⟩ := by
    have e : upPtr (gs ++ [g]) gs.length = upPtr (gs ++ [g]) (j + 1) := by rw [hj]
    rw [e, upPtr_at (by simp; omega), List.getElem_append_left (by omega)]
  refine ⟨by simp [hlen], fun k hk => ?_, fun a b ha hb hab => ?_, fun k hk h2 => ?_⟩
  · rcases Nat.lt_or_ge k gs.length with h1 | h1
    · rw [List.getElem_append_left h1]; exact Nat.lt_of_lt_of_le (h.lt k h1) hl.size
    · rw [List.getElem_append_right h1]; simpa using hlt
  · simp at ha hb
    rcases Nat.lt_or_ge b gs.length with h1 | h1
    · rw [List.getElem_append_left h1, List.getElem_append_left (by omega)]; exact h.asc a b (by omega) h1 hab
    · rw [List.getElem_append_right h1, List.getElem_append_left (by omega)]
      have := h.lt a (by omega)
      simp; omega
  · simp at hk
    rcases Nat.lt_or_ge k gs.length with h1 | h1
    · rw [List.getElem_append_left h1, List.getElem_append_left (by omega), hup k h1]
      exact (Below.block hl _ (h.lt k h1)).trans (h.row k h1 (by omega))
    · have e : k = gs.length := by omega
      subst e
      rw [hup2, List.getElem_append_right (by omega), List.getElem_append_right (by omega)]
      simpa [hlen] using hn
end
end

section
theorem contextLink_any (y : Flt) (w : World) : Calls Try.prog 102 #[.agg #[.int .i64 y.cls, .int .i64 y.code, .int .i64 y.cause, .int .i64 y.ctx, .bool y.hide]] w fun e w' => e = .returned (.int .i64 y.ctx) ∧ Le w w' := by
  go_enter Try.func102, Try.ntmps102
  go_wp2
  go_ret
  exact ⟨rfl, Le.new w _⟩

def lkCtx : Value := .func (.func 102) #[] #[]
def nxCtx (hs : List Flt) (x : Int) : Int := match hs[x.toNat]? with | some y => y.ctx | none => -1
theorem nxCtx_at {hs : List Flt} {i : Nat} (h : i < hs.length) : nxCtx hs (i : Int) = (let y := hs[i]; y.ctx) := by
  unfold nxCtx; rw [Int.toNat_natCast, List.getElem?_eq_getElem h]

def UnwOutCtx (hs : List Flt) (tv hv : Value) (gs : List Nat) (out : List Int) (x : Int) (w : World) (e : Ending) (w' : World) : Prop :=
  Le w w' ∧ (((nxCtx hs x < 0 ∨ nxCtx hs x ∈ out) ∧ e = .returned .nilIface) ∨ (¬ (nxCtx hs x < 0 ∨ nxCtx hs x ∈ out) ∧ ∃ g', e = .returned (.iface 128 (.pointer (some ⟨g', 0, none⟩))) ∧ FCh w' tv hv lkCtx (gs ++ [g']) (out ++ [nxCtx hs x]) ∧ w.heap.size ≤ g'))
set_option maxHeartbeats 2000000 in
set_option maxRecDepth 100000 in
theorem unwrapCtx_any (tv : Value) (H : Option Addr) (m c : Nat) (hs : List Flt) (gs : List Nat) (out : List Int) (j : Nat) (i : Nat) (w : World) (hH : Sl w H m c hs) (hF : FCh w tv (.slice H m c) lkCtx gs out) (hj : gs.length = j + 1)
    (hi : i < hs.length) (hx : out[j]? = some (i : Int)) (hto : TvOk tv) :
    Calls Try.prog 121 #[.pointer (some ⟨gs[j], 0, none⟩)] w (UnwOutCtx hs tv (.slice H m c) gs out i w) := by
  obtain rfl := hH.len
  obtain ⟨b, off, rfl, hb, k0, k1, k2, k3, k4, -⟩ := hH.flt_at hi
  have hjg : j < gs.length := by omega
  have hjo : j < out.length := by have := hF.len; omega
  have hxe : out[j] = (i : Int) := by rw [List.getElem?_eq_getElem hjo] at hx; injection hx
  have d0 := hF.c0 hjg
  have d1 := hF.c1 hjg
  have d2 := hF.c2 hjg hjo
  have d3 := hF.c3 hjg
  rw [hxe] at d2
  have hlt := hF.lt j hjg
  have hii : (0 : Int) ≤ (i : Int) ∧ (i : Int) < hs.length := by omega
  have E0 := cell_ext hb k0
  have E1 := cell_ext hb k1
  have E2 := cell_ext hb k2
  have E3 := cell_ext hb k3
  have E4 := cell_ext hb k4
  have E5 := cell_ext hlt d1
  have E6 := cell_ext hlt d2
  have E7 := cell_ext hlt d3
  have hnx : Hid (nxCtx hs (i : Int) = (let y := hs[i]; y.ctx)) := nxCtx_at hi
  have HXE := Lib.hid hxe
  unfold lkCtx at E7
  clear k0 k1 k2 k3 k4 d0 d1 d2 d3 hx hxe
  go_enter Try.func121, Try.ntmps121
  go_wp2_with fail
  refine wp_region_ext (by kernel_rfl) (by kernel_rfl) ?_
  repeat (go_big_quiet_step (first | (go_at_call 102; exact Calls.ext_of (contextLink_any hs[i] _))))
  refine wpQuiet_nil ?_
  intro _ hw'
  obtain ⟨gg, rfl⟩ := hw'
  have L0 := Le.ext w gg
  clear E0 E1 E2 E3 E4 E5 E6 E7
  generalize w.ext gg = W at *
  rw [← hnx.out]
  have hFW := hF.le L0
  have hyr : ∀ y, nxCtx hs (i : Int) = y → -9223372036854775808 ≤ y ∧ y ≤ 9223372036854775807 := fun y e => by
    have := hH.ok hs[i] (List.getElem_mem hi)
    rw [hnx.out] at e
    subst e
    exact ⟨this.2.2.2.2.2.2.1, this.2.2.2.2.2.2.2⟩
  clear hnx hF hH
  generalize hy : nxCtx hs (i : Int) = y at *
  have HY := Lib.hid hy; clear hy
  obtain ⟨hy0, hy1⟩ := hyr y rfl
  clear hyr
  by_cases hneg : y < 0
  · go_wp2
    go_ret
    refine ⟨L0, .inl ⟨?_, rfl⟩⟩
    rw [HY.out]; exact .inl hneg
  · go_wp2
    go_loop [4] (fun o => ∃ k : Nat, k ≤ gs.length ∧ o = .pointer (upPtr gs k) ∧ ∀ a (h : a < out.length), k ≤ a → out[a] ≠ y) (fun o => blk o)
    case atStart => exact ⟨j + 1, by omega, by rw [upPtr_at hjg], fun a h1 h2 => by have := hFW.len; omega⟩
    case round =>
      obtain ⟨k, hk, rfl, hno⟩ := hrel
      have HNO := Lib.hid hno; clear hno
      cases k with
      | zero =>
        have hnin : ¬ (y < 0 ∨ y ∈ out) := by
          rintro (h | h)
          · omega
          · obtain ⟨a, ha, e⟩ := List.getElem_of_mem h
            exact HNO.out a ha (Nat.zero_le _) e
        have HNI := Lib.hid hnin; clear hnin
        have d0 := hFW.c0 hjg
        have d1 := hFW.c1 hjg
        have d3 := hFW.c3 hjg
        have hltW := hFW.lt j hjg
        obtain ⟨tA, tn, tc, rfl⟩ := hto
        unfold lkCtx at d3
        have hu0 : upPtr gs 0 = none := rfl
        rw [hu0]
        clear hu0
        go_wp2_with fail
        go_region_held3 (fun w' => w'.cell? ⟨gs[j], 0, none⟩ = some (.slice tA tn tc) ∧ w'.cell? ⟨gs[j], 1, none⟩ = some (.slice (some ⟨b, off, none⟩) hs.length c) ∧ w'.cell? ⟨gs[j], 3, none⟩ = some (.func (.func 102) #[] #[]))
          (first | exact ⟨d0, d1, d3⟩ | exact ⟨((Le.new W _).cell hltW).trans d0, ((Le.new W _).cell hltW).trans d1, ((Le.new W _).cell hltW).trans d3⟩) (fail)
        go_wp2
        go_ret
        refine ⟨(L0.alloc _).drew, .inr ⟨by rw [HY.out]; exact HNI.out, W.heap.size, rfl, ?_, L0.size⟩⟩
        rw [HY.out]
        exact FCh.snoc hFW hj ((Le.new W _).drew) (Nat.le_refl _) (heap_alloc_new W _)
      | succ k =>
        have hkg : k < gs.length := by omega
        have hko : k < out.length := by have := hFW.len; omega
        have d2 := hFW.c2 hkg hko
        have d4 := hFW.c4 hkg
        rw [upPtr_at hkg]
        have hblk : blk (.pointer (upPtr gs k)) < blk (.pointer (some ⟨gs[k], 0, none⟩)) := by
          cases k with
          | zero => simp [upPtr, blk]
          | succ k' =>
            rw [upPtr_at (by omega)]
            have := hFW.asc k' (k' + 1) (by omega) hkg (by omega)
            simp [blk]; omega
        have HB := Lib.hid hblk; clear hblk
        by_cases he : out[k] = y
        · have hb1 : (out[k] == y) = true := by simpa using he
          have HI : Hid (y ∈ out) := by show _ ∈ _; rw [← he]; exact List.getElem_mem _
          clear he
          go_wp2
          go_ret
          refine ⟨L0, .inl ⟨?_, rfl⟩⟩
          rw [HY.out]; exact .inr HI.out
        · have hb1 : (out[k] == y) = false := by simpa using he
          have HE := Lib.hid he; clear he
          go_wp2
          go_round
          case rel =>
            refine ⟨k, by omega, rfl, fun a ha hka => ?_⟩
            by_cases e : a = k
            · subst e; exact HE.out
            · exact HNO.out a ha (by omega)
          case measure => exact HB.out
end

section
open Go.RowKit Go.Extern.Stop Go.Stop Go.Extern

theorem nxCtx_eq (hs : List Flt) : nxCtx hs = ctxOf hs := rfl
theorem fxIs (v : Value) (xT : TypeId) (w : World) : (Instr.typeAssert (.iface 128 v) xT 144 true).run Try.prog w = .ok (.tuple #[.iface 128 v, .bool true]) w := run_typeAssert_hasB Try.underlying144 (by kernel_rfl) v xT w
theorem fxUn (v : Value) (xT : TypeId) (w : World) : (Instr.typeAssert (.iface 128 v) xT 147 true).run Try.prog w = .ok (.tuple #[.iface 128 v, .bool true]) w := run_typeAssert_hasB Try.underlying147 (by kernel_rfl) v xT w
theorem fxFail (v : Value) (xT : TypeId) (w : World) : (Instr.typeAssert (.iface 128 v) xT 128 true).run Try.prog w = .ok (.tuple #[v, .bool true]) w := by
  simp [Instr.typeAssert, run_underlying Try.underlying128, go_sem, Result.andThen]
theorem fxmIs (v : Value) (w : World) : (Go.method 287 128 v "Is").run Try.prog w = .ok (120, v) w := by kernel_rfl
theorem fxmUn (v : Value) (w : World) : (Go.method 287 128 v "Unwrap").run Try.prog w = .ok (121, v) w := by kernel_rfl
theorem fxTypeOf (v : Value) (w : World) : (Extern.ReflectliteType.typeOf #[.iface 128 v]).run Try.prog w = .ok (.iface 142 (.agg #[.pointer (some ⟨0, 128, none⟩)])) w := by kernel_rfl
theorem fxComparable : ∃ fn : Array Value → Sem Value, find Try.f125 = some fn ∧ ∀ w : World, (fn #[.agg #[.pointer (some ⟨0, 128, none⟩)]]).run Try.prog w = .ok (.bool true) w :=
  have h : (find Try.f125).isSome = true := by kernel_rfl
  ⟨_, (Option.some_get h).symm, fun w => by kernel_rfl⟩
theorem fxmComparable (v : Value) (w : World) : (Go.method 287 142 v "Comparable").run Try.prog w = .ok (125, v) w := by kernel_rfl
theorem fxComp : (Try.prog.info? 128).map (·.comparable) = some true := by kernel_rfl
theorem fxSize : (Try.prog.info? 139).map (·.size) = some 5 := by kernel_rfl

set_option maxHeartbeats 2000000 in
set_option maxRecDepth 100000 in
theorem isF_any (g1 g2 : Nat) (i1 i2 : Int) (w : World) (c1 : w.cell? ⟨g1, 2, none⟩ = some (.int .i64 i1)) (c2 : w.cell? ⟨g2, 2, none⟩ = some (.int .i64 i2)) (h1 : g1 < w.heap.size) (h2 : g2 < w.heap.size) :
    Calls Try.prog 120 #[.pointer (some ⟨g1, 0, none⟩), .iface 128 (.pointer (some ⟨g2, 0, none⟩))] w fun e w' => e = .returned (.bool (i2 == i1)) ∧ Le w w' := by
  have E1 := cell_ext h1 c1
  have E2 := cell_ext h2 c2
  have aF := fxFail
  cases he : i2 == i1
  all_goals
    go_enter Try.func120, Try.ntmps120
    go_wp2_with fail
    refine wp_region_ext (by kernel_rfl) (by kernel_rfl) ?_
    repeat (go_big_quiet_step (fail))
    refine wpQuiet_nil ?_
    intro _ hw'
    obtain ⟨gg, rfl⟩ := hw'
    have L0 := Le.ext w gg
    generalize w.ext gg = W at *
    go_wp2
    go_ret
    exact ⟨rfl, L0⟩

theorem go_mem {nx : Int → Int} {x : Int} : ∀ (m : Nat) (f : Int) (out : List Int), x ∈ out → x ∈ Chn.go nx m f out
  | 0, _, out, h => h
  | m + 1, f, out, h => by
    unfold Chn.go
    split
    · exact h
    · exact go_mem m (nx f) (out ++ [f]) (List.mem_append_left _ h)
theorem hasI_no {x : Int} {L : List Int} (h : ∀ a (ha : a < L.length), L[a] ≠ x) : hasI L x = false :=
  hasI_not (fun hm => by obtain ⟨a, ha, e⟩ := List.getElem_of_mem hm; exact h a ha e)
theorem eqlF_other {w : World} {a b : Nat} {ca cb : Array Value} {ta tb : TypeId} (hne : a ≠ b) (ha : w.heap[a]? = some (.cells ca ta (0, 0))) (hb : w.heap[b]? = some (.cells cb tb (0, 0))) :
    (binOp .eql 131 (.iface 128 (.pointer (some ⟨a, 0, none⟩))) (.iface 128 (.pointer (some ⟨b, 0, none⟩)))).run Try.prog w = .ok (.bool false) w := by
  obtain ⟨i, hi, hcmp⟩ := Option.map_eq_some_iff.1 fxComp
  obtain ⟨j, hj, hjs⟩ := Option.map_eq_some_iff.1 fxSize
  exact run_eql_iface_ptr_other (P := Try.prog) w Try.underlying131 Try.underlying128 hi hcmp hj (by rw [hjs]; decide) (fun e => hne (by injection e)) ha hb

set_option maxHeartbeats 2000000 in
set_option maxRecDepth 100000 in
theorem isErr_any (tv : Value) (H : Option Addr) (m c : Nat) (hs : List Flt) (g1 g2 : Nat) (cx f : Int) (cs2 : Array Value) (w : World) (hH : Sl w H m c hs) (lk : Lnk hs) (hto : TvOk tv) (h0 : 0 ≤ cx) (h1 : cx < hs.length)
    (hF : FCh w tv (.slice H m c) lkCtx [g1] [cx]) (hT : w.heap[g2]? = some (.cells cs2 139 (0, 0))) (hT2 : w.cell? ⟨g2, 2, none⟩ = some (.int .i64 f)) (hne : g1 ≠ g2) :
    Calls Try.prog 101 #[.iface 128 (.pointer (some ⟨g1, 0, none⟩)), .iface 128 (.pointer (some ⟨g2, 0, none⟩)), .bool true] w fun e w' => e = .returned (.bool (hasI (chainN (ctxOf hs) hs.length cx) f)) ∧ Le w w' := by
  have aIs := fxIs
  have aUn := fxUn
  have mIs := fxmIs
  have mUn := fxmUn
  have hg2 : g2 < w.heap.size := (Array.getElem?_eq_some_iff.1 hT).1
  have HLT := Lib.hid lk.ctxlt
  have hcx0 : chainN (ctxOf hs) hs.length cx = Chn.go (ctxOf hs) hs.length (ctxOf hs cx) [cx] := by
    unfold chainN; rw [go_on h0 (by simp)]; rfl
  have HC0 := Lib.hid hcx0; clear hcx0
  have hP0 : Chn.Pre (ctxOf hs) hs.length cx (ctxOf hs cx) [cx] := by
    have := (Chn.Pre.start h1).step (nx := ctxOf hs) h0 (by simp) (lk.ctxlt cx h0 h1)
    simpa using this
  have HP0 := Lib.hid hP0; clear hP0
  obtain ⟨i0, rfl⟩ := Int.eq_ofNat_of_zero_le h0
  go_enter Try.func101, Try.ntmps101
  go_wp2
  go_loopg [0] (hs.length) (fun mm q wr => ∃ (gs : List Nat) (out : List Int) (j i g : Nat), q = .iface 128 (.pointer (some ⟨g, 0, none⟩)) ∧ gs.length = j + 1 ∧ gs[j]? = some g ∧ out[j]? = some (i : Int) ∧ i < hs.length ∧ FCh wr tv (.slice H m c) lkCtx gs out ∧
      Chn.Pre (ctxOf hs) hs.length (i0 : Int) (ctxOf hs (i : Int)) out ∧ hs.length + 1 ≤ mm + out.length ∧ chainN (ctxOf hs) hs.length (i0 : Int) = Chn.go (ctxOf hs) mm (ctxOf hs (i : Int)) out ∧ (∀ a (h : a < out.length), a < j → out[a] ≠ f) ∧ (∀ a (h : a < gs.length), gs[a] ≠ g2) ∧ Le w wr)
  case atStart => exact ⟨[g1], [(i0 : Int)], 0, i0, g1, rfl, rfl, rfl, rfl, by omega, hF, HP0.out, by simp, HC0.out, fun a h h2 => by omega, fun a h => by simp at h; subst h; exact hne, Le.refl _⟩
  case round =>
    obtain ⟨gs, out, j, i, g, rfl, hgl, hgj, hoj, hil, hF2, hP, hmm, hch, hno, hgne, hle⟩ := hrel
    have hjg : j < gs.length := by omega
    have hjo : j < out.length := by have := hF2.len; omega
    have hge : gs[j] = g := by rw [List.getElem?_eq_getElem hjg] at hgj; injection hgj
    have hoe : out[j] = (i : Int) := by rw [List.getElem?_eq_getElem hjo] at hoj; injection hoj
    have hTr := (Below.block hle _ hg2).trans hT
    have hT2r := (hle.cell hg2).trans hT2
    have hg2r := Nat.lt_of_lt_of_le hg2 hle.size
    have hcell := hF2.row j hjg hjo
    rw [hge] at hcell
    have d2 := hF2.c2 hjg hjo
    rw [hge, hoe] at d2
    have hgr := hF2.lt j hjg
    rw [hge] at hgr
    have hgg : g ≠ g2 := by rw [← hge]; exact hgne j hjg
    have heq := eqlF_other hgg hcell hTr
    have HCH := Lib.hid hch
    have HNO := Lib.hid hno
    have HP := Lib.hid hP
    have HGN := Lib.hid hgne
    have HMM := Lib.hid hmm
    clear hch hno hP hgne hmm
    go_wp2_with fail
    refine (isF_any g g2 (i : Int) f _ d2 hT2r hgr hg2r).mono ?_
    rintro e w2 ⟨rfl, hle2⟩
    have hon : (f == (i : Int)) = true ∨ (f == (i : Int)) = false := by cases (f == (i : Int)) <;> simp
    rcases hon with hb | hb
    · rw [hb]
      go_wp2
      go_ret
      refine ⟨ret_bool ?_, hle.trans hle2⟩
      rw [HCH.out, eq_comm, hasI_iff']
      have : f = (i : Int) := by simpa using hb
      rw [this, ← hoe]
      exact go_mem _ _ _ (List.getElem_mem _)
    · rw [hb]
      have hF3 := hF2.le hle2
      have hH3 := hH.le (hle.trans hle2)
      go_wp2_with fail
      have hU := unwrapCtx_any tv H m c hs gs out j i w2 hH3 hF3 hgl hil hoj hto
      rw [hge] at hU
      refine hU.mono ?_
      rintro e w3 ⟨hle3, (⟨hnx, rfl⟩ | ⟨hnx, g', rfl, hF4, hg'⟩)⟩
      · have hL := HP.out.len
        obtain ⟨mm', rfl⟩ : ∃ mm', gk = mm' + 1 := ⟨gk - 1, by have := HMM.out; omega⟩
        have hgo : Hid (chainN (ctxOf hs) hs.length (i0 : Int) = out) := by
          show _ = _
          rw [nxCtx_eq] at hnx
          rw [HCH.out]
          conv => lhs; unfold Chn.go
          rw [if_pos hnx]
        clear hnx hL
        go_wp2
        go_ret
        refine ⟨ret_bool ?_, (hle.trans hle2).trans hle3⟩
        rw [hgo.out]
        refine (hasI_no fun a ha => ?_).symm
        rcases Nat.lt_or_ge a j with h1 | h1
        · exact HNO.out a ha h1
        · have : a = j := by have := hF2.len; omega
          subst this
          rw [hoe]
          intro h2
          rw [h2] at hb
          simp at hb
      · have hL := HP.out.len
        obtain ⟨mm', rfl⟩ : ∃ mm', gk = mm' + 1 := ⟨gk - 1, by have := HMM.out; omega⟩
        have hnx' : 0 ≤ ctxOf hs (i : Int) ∧ ctxOf hs (i : Int) ∉ out := by
          rw [nxCtx_eq] at hnx
          simp only [not_or, Int.not_lt] at hnx
          exact hnx
        have hgo : Hid (chainN (ctxOf hs) hs.length (i0 : Int) = Chn.go (ctxOf hs) mm' (ctxOf hs (ctxOf hs (i : Int))) (out ++ [ctxOf hs (i : Int)])) := by
          show _ = _
          rw [HCH.out]
          conv => lhs; unfold Chn.go
          rw [if_neg (by rintro (h | h); omega; exact hnx'.2 h)]
        have hlt2 := HLT.out (i : Int) (by omega) (by omega)
        obtain ⟨i', hi'⟩ := Int.eq_ofNat_of_zero_le hnx'.1
        have HPS := Lib.hid (HP.out.step hnx'.1 hnx'.2 (HLT.out _ hnx'.1 hlt2))
        rw [nxCtx_eq] at hF4
        have HF4 := Lib.hid hF4
        clear hnx hF4
        go_wp2
        go_roundg mm'
        case measure => omega
        case rel =>
          refine ⟨gs ++ [g'], out ++ [ctxOf hs (i : Int)], j + 1, i', g', rfl, by simp [hgl], ?_, ?_, by omega, HF4.out, ?_, ?_, ?_, ?_, ?_, (hle.trans hle2).trans hle3⟩
          · rw [← hgl, List.getElem?_append_right (Nat.le_refl _)]; simp
          · have : j + 1 = out.length := by have := hF2.len; omega
            rw [this, List.getElem?_append_right (Nat.le_refl _)]; simpa using hi'
          · rw [← hi']; exact HPS.out
          · have := HMM.out; simp; omega
          · rw [← hi']; exact hgo.out
          · intro a ha haj
            have hal : a < out.length := by have := hF2.len; omega
            rw [List.getElem_append_left hal]
            rcases Nat.lt_or_ge a j with h1 | h1
            · exact HNO.out a hal h1
            · have : a = j := by omega
              subst this
              rw [hoe]
              intro h2
              rw [h2] at hb
              simp at hb
          · intro a ha
            rcases Nat.lt_or_ge a gs.length with h1 | h1
            · rw [List.getElem_append_left h1]; exact HGN.out a h1
            · rw [List.getElem_append_right h1]
              have h4 := Nat.lt_of_lt_of_le hg2r hle2.size
              simp
              omega
end

section
open Go.RowKit Go.Extern.Stop Go.Stop Go.Extern

set_option maxHeartbeats 2000000 in
set_option maxRecDepth 100000 in
theorem errorsIs_any (tv : Value) (H : Option Addr) (m c : Nat) (hs : List Flt) (g1 g2 : Nat) (cx f : Int) (cs2 : Array Value) (w : World) (hH : Sl w H m c hs) (lk : Lnk hs) (hto : TvOk tv) (h0 : 0 ≤ cx) (h1 : cx < hs.length)
    (hF : FCh w tv (.slice H m c) lkCtx [g1] [cx]) (hT : w.heap[g2]? = some (.cells cs2 139 (0, 0))) (hT2 : w.cell? ⟨g2, 2, none⟩ = some (.int .i64 f)) (hne : g1 ≠ g2) :
    Calls Try.prog 97 #[.iface 128 (.pointer (some ⟨g1, 0, none⟩)), .iface 128 (.pointer (some ⟨g2, 0, none⟩))] w fun e w' => e = .returned (.bool (hasI (chainN (ctxOf hs) hs.length cx) f)) ∧ Le w w' := by
  have h8 := @run_callFunc_extern Try.prog 100 _ Extern.ReflectliteType.typeOf Try.func100 (by kernel_rfl) (by kernel_rfl) (by kernel_rfl) (by kernel_rfl)
  obtain ⟨fn, hfn, cT⟩ := fxComparable
  have h32 := @run_callFunc_extern Try.prog 125 _ fn Try.func125 (by kernel_rfl) (by kernel_rfl) (by kernel_rfl) hfn
  have tT := fxTypeOf
  have mR := fxmComparable
  clear hfn
  go_enter Try.func97, Try.ntmps97
  go_wp2_with fail
  refine (isErr_any tv H m c hs g1 g2 cx f cs2 _ hH lk hto h0 h1 hF hT hT2 hne).mono ?_
  rintro e w' ⟨rfl, hle⟩
  go_wp2
  go_ret
  exact ⟨rfl, hle⟩

def InCtxOut (tv hv : Value) (f : Int) (w : World) (e : Ending) (w' : World) : Prop :=
  ∃ g, e = .returned (.pointer (some ⟨g, 0, none⟩)) ∧ w'.heap[g]? = some (.cells #[tv, hv, .int .i64 f, lkCtx, .pointer none] 139 (0, 0)) ∧ w.heap.size ≤ g ∧ Le w w'
set_option maxHeartbeats 2000000 in
set_option maxRecDepth 100000 in
theorem inContext_any (A H : Option Addr) (n cap m c : Nat) (f : Int) (w : World) :
    Calls Try.prog 98 #[.agg #[.slice A n cap], .agg #[.slice H m c], .int .i64 f] w (InCtxOut (.slice A n cap) (.slice H m c) f w) := by
  go_enter Try.func98, Try.ntmps98
  go_wp2
  obtain ⟨c0, z0, c1, z1, L0⟩ := box2 w (.slice A n cap) (.slice H m c) 25 34
  have HZ : Hid (((w.alloc (.cells #[.slice A n cap] 25)).alloc (.cells #[.slice H m c] 34)).heap.size = w.heap.size + 1 + 1) := by show _ = _; simp
  generalize (w.alloc (.cells #[.slice A n cap] 25)).alloc (.cells #[.slice H m c] 34) = W at *
  go_wp2
  go_ret
  exact ⟨w.heap.size + 1 + 1, rfl, by rw [← HZ.out]; exact heap_alloc_new W _, by omega, L0.alloc _⟩

set_option maxHeartbeats 2000000 in
set_option maxRecDepth 100000 in
theorem leadsBack_any (A H : Option Addr) (n cap m c : Nat) (hs : List Flt) (i : Nat) (w : World) (hH : Sl w H m c hs) (lk : Lnk hs) (hi : i < hs.length) :
    Calls Try.prog 92 #[.agg #[.slice A n cap], .agg #[.slice H m c], .int .i64 i] w fun e w' => e = .returned (.bool (backAt hs i)) ∧ Le w w' := by
  obtain rfl := hH.len
  obtain ⟨b, off, rfl, hb, k0, k1, k2, k3, k4, -⟩ := hH.flt_at hi
  have hlt := lk.ctxlt (i : Int) (by omega) (by omega)
  have hx : ctxOf hs (i : Int) = hs[i].ctx := ctxOf_at hi
  have hbk : backAt hs i = (decide (0 ≤ hs[i].ctx) && hasI (chainN (ctxOf hs) hs.length hs[i].ctx) i) := by unfold backAt; rw [hx]
  rw [hx] at hlt
  clear hx
  generalize hs[i].ctx = cx at *
  have HB := Lib.hid hbk; clear hbk
  have hii : (0 : Int) ≤ (i : Int) ∧ (i : Int) < hs.length := by omega
  by_cases h0 : 0 ≤ cx
  · have hd : decide (0 ≤ cx) = true := decide_eq_true h0
    have HL := Lib.hid hlt
    go_enter Try.func92, Try.ntmps92
    go_wp2
    obtain ⟨c0, z0, c1, z1, L0⟩ := box2 w (.slice A n cap) (.slice (some ⟨b, off, none⟩) hs.length c) 25 34
    have k3' := (L0.cell hb).trans k3
    clear k0 k1 k2 k3 k4
    generalize (w.alloc (.cells #[.slice A n cap] 25)).alloc (.cells #[.slice (some ⟨b, off, none⟩) hs.length c] 34) = W at *
    go_wp2_with fail
    go_region_held3 (fun w' => w'.cell? ⟨w.heap.size, 0, none⟩ = some (.slice A n cap) ∧ w'.cell? ⟨w.heap.size + 1, 0, none⟩ = some (.slice (some ⟨b, off, none⟩) hs.length c))
      (first | exact ⟨f0, f1⟩ | exact ⟨e0, e1⟩ | exact ⟨d0, d1⟩ | exact ⟨c0, c1⟩)
      (first
        | (go_at_call 98; have hl1z := hl1.size; refine (inContext_any A (some ⟨b, off, none⟩) n cap hs.length c (i : Int) _).mono ?_; rintro e w2 ⟨g2, rfl, hg2, hs2, hl2⟩; have e0 := (hl2.cell (Nat.lt_of_lt_of_le z0 hl1.size)).trans d0; have e1 := (hl2.cell (Nat.lt_of_lt_of_le z1 hl1.size)).trans d1)
        | (go_at_call 98; refine (inContext_any A (some ⟨b, off, none⟩) n cap hs.length c cx _).mono ?_; rintro e w1 ⟨g1, rfl, hg1, hs1, hl1⟩; have d0 := (hl1.cell z0).trans c0; have d1 := (hl1.cell z1).trans c1)
        | (go_at_call 97
           have hg1l : g1 < w1.heap.size := (Array.getElem?_eq_some_iff.1 hg1).1
           refine (errorsIs_any (.slice A n cap) (some ⟨b, off, none⟩) hs.length c hs g1 g2 cx (i : Int) _ w2 (hH.le ((L0.drew.trans hl1).trans hl2)) lk ⟨_, _, _, rfl⟩ h0 HL.out (FCh.one ((Below.block hl2 _ hg1l).trans hg1)) hg2 ((cell_of_row w2 _ 2 _ _ _ hg2).trans rfl) (by omega)).mono ?_
           rintro e w3 ⟨rfl, hl3⟩
           have f0 := (hl3.cell (Nat.lt_of_lt_of_le z0 (hl1.trans hl2).size)).trans e0; have f1 := (hl3.cell (Nat.lt_of_lt_of_le z1 (hl1.trans hl2).size)).trans e1))
    all_goals go_wp2
    all_goals go_ret
    all_goals exact ⟨ret_bool (by rw [HB.out, decide_eq_true h0, Bool.true_and]), ((L0.drew.trans hl1).trans hl2).trans hl3⟩
  · have hd : decide (0 ≤ cx) = false := decide_eq_false h0
    go_enter Try.func92, Try.ntmps92
    go_wp2
    obtain ⟨c0, z0, c1, z1, L0⟩ := box2 w (.slice A n cap) (.slice (some ⟨b, off, none⟩) hs.length c) 25 34
    have k3' := (L0.cell hb).trans k3
    clear k0 k1 k2 k3 k4
    generalize (w.alloc (.cells #[.slice A n cap] 25)).alloc (.cells #[.slice (some ⟨b, off, none⟩) hs.length c] 34) = W at *
    have E0 := cell_ext z0 c0
    have E1 := cell_ext z1 c1
    go_wp2_with fail
    refine wp_region_ext (by kernel_rfl) (by kernel_rfl) ?_
    repeat (go_big_quiet_step (fail))
    refine wpQuiet_nil ?_
    intro _ hw'
    obtain ⟨gg, rfl⟩ := hw'
    have L1 := Le.ext W gg
    generalize W.ext gg = W2 at *
    go_wp2
    go_ret
    exact ⟨ret_bool (by rw [HB.out, hd]; rfl), L0.trans L1⟩
end

section
def vl (n k x : Int) : Bool := (x != k) && rng (-1) (n - 1) x
theorem hasK_rng (xs : List Cls) (a : Int) : hasK xs a = rng 0 ((xs.length : Int) - 1) a := rfl
theorem fOk_vl (xs : List Cls) (n : Nat) (k : Int) (x : Flt) : fOk xs n k x = (rng 0 ((xs.length : Int) - 1) x.cls && rng 0 99 x.code && vl n k x.cause && vl n k x.ctx) := by
  unfold fOk linksOk vl
  rw [hasK_rng]
  cases rng 0 ((xs.length : Int) - 1) x.cls <;> cases rng 0 99 x.code <;> cases rng (-1) ((n : Int) - 1) x.cause <;> cases rng (-1) ((n : Int) - 1) x.ctx <;> cases (x.cause != k) <;> cases (x.ctx != k) <;> rfl

theorem iInRange_any (x lo hi : Int) (w : World) :
    Calls Try.prog 58 #[.int .i64 x, .int .i64 lo, .int .i64 hi] w fun e w' => e = .returned (.bool (rng lo hi x)) ∧ Le w w' := by
  unfold rng
  go_enter Try.func58, Try.ntmps58
  go_wp2
  all_goals (go_ret; simp_all [Le.refl])
  all_goals omega
theorem validLink_any (n k x : Int) (w : World) (hn : 0 ≤ n) (hn2 : n ≤ 1048576000) :
    Calls Try.prog 91 #[.int .i64 n, .int .i64 k, .int .i64 x] w fun e w' => e = .returned (.bool (vl n k x)) ∧ Le w w' := by
  have hnn : IntKind.i64.wrap (n - 1) = n - 1 := IntWalk.i64_in _ (by omega)
  have hr : Hid (vl n k x = ((x != k) && rng (-1) (n - 1) x)) := rfl
  cases h1 : (x != k)
  all_goals
    rw [h1] at hr
    go_enter Try.func91, Try.ntmps91
    go_wp2_with fail
    first
      | (go_ret
         exact ⟨ret_bool (by rw [hr.out]; simp), Le.refl _⟩)
      | (refine (iInRange_any _ _ _ _).mono ?_
         rintro e w' ⟨rfl, hle⟩
         go_wp2
         go_ret
         exact ⟨ret_bool (by rw [hr.out]; simp), hle⟩)

theorem okHeap_parts (xs : List Cls) (hs : List Flt) : okHeap xs hs = (okTree xs && decide (hs.length ≤ 24) && (allF xs hs.length 0 (hs.drop 0) && endsF hs 0 hs.length)) := by
  unfold okHeap
  rw [List.drop_zero]
  cases allF xs hs.length 0 hs <;> cases endsF hs 0 hs.length <;> cases okTree xs <;> cases decide (hs.length ≤ 24) <;> rfl

set_option maxHeartbeats 12000000 in
set_option maxRecDepth 100000 in
theorem iValidHeap_any (A H : Option Addr) (n cap m c : Nat) (xs : List Cls) (hs : List Flt) (w : World) (hR : Sl w A n cap xs) (hH : Sl w H m c hs) (hm : m ≤ 2097152) :
    Calls Try.prog 72 #[.agg #[.slice A n cap], .agg #[.slice H m c]] w fun e w' => e = .returned (.bool (okHeap xs hs)) ∧ Le w w' := by
  obtain rfl := hH.len
  have HO := Lib.hid (okHeap_parts xs hs)
  have hnx := hR.n_le
  have hxl := hR.len
  go_enter Try.func72, Try.ntmps72
  go_wp2_with fail
  obtain ⟨c0, z0, c1, z1, L0⟩ := box2 w (.slice A n cap) (.slice H hs.length c) 25 34
  generalize (w.alloc (.cells #[.slice A n cap] 25)).alloc (.cells #[.slice H hs.length c] 34) = W at *
  go_wp2_with fail
  refine (iValidTree_any A n cap xs _ (hR.le L0)).mono ?_
  rintro e w1 ⟨rfl, hle⟩
  replace c0 := (hle.cell z0).trans c0
  replace c1 := (hle.cell z1).trans c1
  replace z0 := Nat.lt_of_lt_of_le z0 hle.size
  replace z1 := Nat.lt_of_lt_of_le z1 hle.size
  replace L0 := L0.trans hle
  clear hle
  cases ht : okTree xs
  · rw [ht] at HO
    go_wp2
    go_ret
    exact ⟨ret_bool (by rw [HO.out]; rfl), L0⟩
  · rw [ht] at HO
    by_cases hsz : hs.length ≤ 24
    · have hd : decide (24 < hs.length) = false := decide_eq_false (by omega)
      have hd' : decide ((24 : Int) < (hs.length : Int)) = false := decide_eq_false (by omega)
      rw [decide_eq_true hsz] at HO
      have hwn : IntKind.i64.wrap ((xs.length : Int) - 1) = (xs.length : Int) - 1 := IntWalk.i64_in _ (by omega)
      subst hxl
      have HD := Lib.hid hd; have HD' := Lib.hid hd'
      go_wp2_with fail
      clear hd hd'
      go_loopw [22] (fun q wr => ∃ k : Nat, k ≤ hs.length ∧ q = .int .i64 k ∧ allF xs hs.length 0 (hs.drop 0) = allF xs hs.length k (hs.drop k) ∧ Le w1 wr) (fun q _ => hs.length - (intOf q).toNat)
      case atStart => exact ⟨0, Nat.zero_le _, rfl, rfl, Le.refl _⟩
      case round =>
        obtain ⟨k, hk, rfl, hr, hle⟩ := hrel
        have HR := Lib.hid hr; clear hr
        replace c0 := (hle.cell z0).trans c0
        replace c1 := (hle.cell z1).trans c1
        replace z0 := Nat.lt_of_lt_of_le z0 hle.size
        replace z1 := Nat.lt_of_lt_of_le z1 hle.size
        replace L0 := L0.trans hle
        by_cases hlt : k < hs.length
        · obtain ⟨b, off, rfl, hb, k0, k1, k2, k3, k4, -⟩ := (hH.le L0).flt_at hlt
          have HX : Hid (allF xs hs.length 0 (hs.drop 0) = (rng 0 ((xs.length : Int) - 1) hs[k].cls && rng 0 99 hs[k].code && vl hs.length k hs[k].cause && vl hs.length k hs[k].ctx && allF xs hs.length (k + 1) (hs.drop (k + 1)))) := by
            show _ = _; rw [HR.out, allF_at hlt, fOk_vl]
          generalize hs[k].cls = xc at *
          generalize hs[k].code = xd at *
          generalize hs[k].cause = xa at *
          generalize hs[k].ctx = xb at *
          cases h1 : rng 0 ((xs.length : Int) - 1) xc
          case' true => cases h2 : rng 0 99 xd
          case' true.true => cases h3 : vl hs.length k xa
          case' true.true.true => cases h4 : vl hs.length k xb
          all_goals
            have hx2 := HX.out
            rw [h1] at hx2
            try rw [h2] at hx2
            try rw [h3] at hx2
            try rw [h4] at hx2
            have HY := Lib.hid hx2
            clear hx2
            go_wp2_with fail
            obtain ⟨d0, d1, d2, d3, d4, zd, hld⟩ := box5 wr (.int .i64 xc) (.int .i64 xd) (.int .i64 xa) (.int .i64 xb) (.bool hs[k].hide) 80
            replace c0 := (hld.cell z0).trans c0
            replace c1 := (hld.cell z1).trans c1
            replace z0 := Nat.lt_of_lt_of_le z0 hld.size
            replace z1 := Nat.lt_of_lt_of_le z1 hld.size
            have L2 := L0.trans hld
            replace hle := hle.trans hld
            clear hld k0 k1 k2 k3 k4
            generalize wr.alloc (.cells #[.int .i64 xc, .int .i64 xd, .int .i64 xa, .int .i64 xb, .bool hs[k].hide] 80) = W3 at *
            refine (iInRange_any _ _ _ _).mono ?_
            rintro e w4 ⟨rfl, hle4⟩
            rw [h1]
            replace c0 := (hle4.cell z0).trans c0
            replace c1 := (hle4.cell z1).trans c1
            replace d1 := (hle4.cell zd).trans d1
            replace d2 := (hle4.cell zd).trans d2
            replace d3 := (hle4.cell zd).trans d3
            replace z0 := Nat.lt_of_lt_of_le z0 hle4.size
            replace z1 := Nat.lt_of_lt_of_le z1 hle4.size
            replace zd := Nat.lt_of_lt_of_le zd hle4.size
            replace L2 := L2.trans hle4
            replace hle := hle.trans hle4
            clear hle4 d0 d4
            go_wp2_with fail
            first
              | (go_ret
                 exact ⟨ret_bool (by rw [HO.out, HY.out]; simp), L2⟩)
              | (refine (iInRange_any _ _ _ _).mono ?_
                 rintro e w5 ⟨rfl, hle5⟩
                 rw [h2]
                 replace c0 := (hle5.cell z0).trans c0
                 replace c1 := (hle5.cell z1).trans c1
                 replace d2 := (hle5.cell zd).trans d2
                 replace d3 := (hle5.cell zd).trans d3
                 replace z0 := Nat.lt_of_lt_of_le z0 hle5.size
                 replace z1 := Nat.lt_of_lt_of_le z1 hle5.size
                 replace zd := Nat.lt_of_lt_of_le zd hle5.size
                 replace L2 := L2.trans hle5
                 replace hle := hle.trans hle5
                 clear hle5 d1
                 go_wp2_with fail
                 first
                   | (go_ret
                      exact ⟨ret_bool (by rw [HO.out, HY.out]; simp), L2⟩)
                   | (refine (validLink_any _ _ _ _ (by omega) (by omega)).mono ?_
                      rintro e w6 ⟨rfl, hle6⟩
                      rw [h3]
                      replace c0 := (hle6.cell z0).trans c0
                      replace c1 := (hle6.cell z1).trans c1
                      replace d3 := (hle6.cell zd).trans d3
                      replace z0 := Nat.lt_of_lt_of_le z0 hle6.size
                      replace z1 := Nat.lt_of_lt_of_le z1 hle6.size
                      replace zd := Nat.lt_of_lt_of_le zd hle6.size
                      replace L2 := L2.trans hle6
                      replace hle := hle.trans hle6
                      clear hle6 d2
                      go_wp2_with fail
                      first
                        | (go_ret
                           exact ⟨ret_bool (by rw [HO.out, HY.out]; simp), L2⟩)
                        | (refine (validLink_any _ _ _ _ (by omega) (by omega)).mono ?_
                           rintro e w7 ⟨rfl, hle7⟩
                           rw [h4]
                           replace L2 := L2.trans hle7
                           replace hle := hle.trans hle7
                           clear hle7 d3
                           go_wp2
                           first
                             | (go_ret
                                exact ⟨ret_bool (by rw [HO.out, HY.out]; simp), L2⟩)
                             | (go_roundw
                                case rel => exact ⟨k + 1, by omega, by go_num, by rw [HY.out]; simp, hle⟩
                                case measure => simp [intOf]; omega))))
        · have HA : Hid (allF xs hs.length 0 (hs.drop 0) = true) := by show _ = _; rw [HR.out, allF_end hlt]
          have lk : Lnk hs := by
            have := HA.out
            rw [List.drop_zero] at this
            exact lnk_of this
          rw [HA.out] at HO
          clear HR HA
          go_wp2
          clear hlt hk
          go_loopw [61] (fun q w2 => ∃ k : Nat, k ≤ hs.length ∧ q = .int .i64 k ∧ (∀ i, i < k → backAt hs (i : Int) = false) ∧ Le wr w2) (fun q _ => hs.length - (intOf q).toNat)
          case atStart => exact ⟨0, Nat.zero_le _, rfl, fun i hi => by omega, Le.refl _⟩
          case round =>
            obtain ⟨k, hk, rfl, hr, hle2⟩ := hrel
            have HR := Lib.hid hr; clear hr
            replace c0 := (hle2.cell z0).trans c0
            replace c1 := (hle2.cell z1).trans c1
            replace z0 := Nat.lt_of_lt_of_le z0 hle2.size
            replace z1 := Nat.lt_of_lt_of_le z1 hle2.size
            replace L0 := L0.trans hle2
            by_cases hlt : k < hs.length
            · go_wp2_with fail
              refine (leadsBack_any A H _ cap hs.length c hs k _ (hH.le L0) lk hlt).mono ?_
              rintro e w3 ⟨rfl, hle3⟩
              replace c0 := (hle3.cell z0).trans c0
              replace c1 := (hle3.cell z1).trans c1
              replace z0 := Nat.lt_of_lt_of_le z0 hle3.size
              replace z1 := Nat.lt_of_lt_of_le z1 hle3.size
              replace L0 := L0.trans hle3
              replace hle2 := hle2.trans hle3
              cases hb : backAt hs k
              · have HB := Lib.hid hb; clear hb
                go_wp2
                go_roundw
                case rel =>
                  refine ⟨k + 1, by omega, by go_num, fun i hi => ?_, hle2⟩
                  rcases Nat.lt_or_ge i k with h1 | h1
                  · exact HR.out i h1
                  · have : i = k := by omega
                    subst this; exact HB.out
                case measure => simp [intOf]; omega
              · have HB := Lib.hid hb; clear hb
                go_wp2
                go_ret
                refine ⟨ret_bool ?_, L0⟩
                have hne : endsF hs 0 hs.length = false := by
                  cases he : endsF hs 0 hs.length
                  · rfl
                  · have := (ends_back lk).1 he k hlt
                    rw [HB.out] at this; cases this
                rw [HO.out, hne]; rfl
            · have he : endsF hs 0 hs.length = true := (ends_back lk).2 fun i hi => HR.out i (by omega)
              rw [he] at HO
              go_wp2
              go_ret
              exact ⟨ret_bool (by rw [HO.out]; rfl), L0⟩
    · rw [decide_eq_false hsz] at HO
      have hd : decide (24 < hs.length) = true := decide_eq_true (by omega)
      have hd' : decide ((24 : Int) < (hs.length : Int)) = true := decide_eq_true (by omega)
      go_wp2
      go_ret
      exact ⟨ret_bool (by rw [HO.out]; rfl), L0⟩
end

section
/-- what is shown ahead of a fault -/
def shownOf (x : Flt) : Int := cond (decide (0 ≤ x.cause)) x.cause (cond x.hide (-1) x.ctx)
def shownAt (hs : List Flt) (f : Int) : Int := match hs[f.toNat]? with | some x => shownOf x | none => -1
theorem shownAt_at {hs : List Flt} {i : Nat} (h : i < hs.length) : shownAt hs (i : Int) = shownOf hs[i] := by
  unfold shownAt; rw [Int.toNat_natCast, List.getElem?_eq_getElem h]
def shownX (xs : List Cls) (hs : List Flt) (f : Int) : Int := cond (goodF xs hs f) (shownAt hs f) (-2)
theorem shownX_of {xs : List Cls} {hs : List Flt} {f : Int} {t : Bool} (h : goodF xs hs f = t) : shownX xs hs f = cond t (shownAt hs f) (-2) := by unfold shownX; rw [h]

theorem iHasFault_any (A H : Option Addr) (n cap m c : Nat) (xs : List Cls) (hs : List Flt) (f : Int) (w : World) (hR : Sl w A n cap xs) (hH : Sl w H m c hs) (hm : m ≤ 2097152) :
    Calls Try.prog 50 #[.agg #[.slice A n cap], .agg #[.slice H m c], .int .i64 f] w fun e w' => e = .returned (.bool (goodF xs hs f)) ∧ Le w w' := by
  have HG : Hid (goodF xs hs f = (hasF hs f && okHeap xs hs)) := by show _ = _; unfold goodF; rw [Bool.and_comm]
  obtain rfl := hH.len
  have hnn : IntKind.i64.wrap ((hs.length : Int) - 1) = (hs.length : Int) - 1 := IntWalk.i64_in _ (by omega)
  go_enter Try.func50, Try.ntmps50
  go_wp2_with fail
  obtain ⟨c0, z0, c1, z1, L0⟩ := box2 w (.slice A n cap) (.slice H hs.length c) 25 34
  generalize (w.alloc (.cells #[.slice A n cap] 25)).alloc (.cells #[.slice H hs.length c] 34) = W at *
  refine (iInRange_any _ _ _ _).mono ?_
  rintro e w1 ⟨rfl, hle⟩
  replace c0 := (hle.cell z0).trans c0
  replace c1 := (hle.cell z1).trans c1
  replace z0 := Nat.lt_of_lt_of_le z0 hle.size
  replace z1 := Nat.lt_of_lt_of_le z1 hle.size
  replace L0 := L0.trans hle
  clear hle
  have hq : rng 0 ((hs.length : Int) - 1) f = hasF hs f := rfl
  rw [hq]
  cases ho : hasF hs f
  · rw [ho] at HG
    go_wp2
    go_ret
    exact ⟨ret_bool (by rw [HG.out]; rfl), L0⟩
  · rw [ho] at HG
    go_wp2_with fail
    refine (iValidHeap_any A H n cap hs.length c xs hs w1 (hR.le L0) (hH.le L0) hm).mono ?_
    rintro e w2 ⟨rfl, hle⟩
    go_wp2
    go_ret
    exact ⟨ret_bool (by rw [HG.out]; rfl), L0.trans hle⟩

end
end Go.Proofs.Ytonpgohigncjeaa
