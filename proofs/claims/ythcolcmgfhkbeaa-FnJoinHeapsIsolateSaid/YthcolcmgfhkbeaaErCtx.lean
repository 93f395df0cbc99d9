/- failures: the link contextLink -/
import Derived.Test.YthcolcmgfhkbeaaHpD
import Derived.Deep.RegionHeld3
namespace Go.Proofs.Ythcolcmgfhkbeaa
open Go.RowKit

theorem contextLink_any (y : Flt) (w : World) : Calls Try.prog 50 #[.agg #[.int .i64 y.cls, .int .i64 y.code, .int .i64 y.cause, .int .i64 y.ctx, .bool y.hide]] w fun e w' => e = .returned (.int .i64 y.ctx) ∧ Le w w' := by
  go_enter Try.func50, Try.ntmps50
  go_wp2
  go_ret
  exact ⟨rfl, Le.new w _⟩

def lkCtx : Value := .func (.func 50) #[] #[]
def nxCtx (hs : List Flt) (x : Int) : Int := match hs[x.toNat]? with | some y => y.ctx | none => -1
theorem nxCtx_at {hs : List Flt} {i : Nat} (h : i < hs.length) : nxCtx hs (i : Int) = (let y := hs[i]; y.ctx) := by
  unfold nxCtx; rw [Int.toNat_natCast, List.getElem?_eq_getElem h]

def UnwOutCtx (hs : List Flt) (tv hv : Value) (gs : List Nat) (out : List Int) (x : Int) (w : World) (e : Ending) (w' : World) : Prop :=
  Le w w' ∧ (((nxCtx hs x < 0 ∨ nxCtx hs x ∈ out) ∧ e = .returned .nilIface) ∨ (¬ (nxCtx hs x < 0 ∨ nxCtx hs x ∈ out) ∧ ∃ g', e = .returned (.iface 71 (.pointer (some ⟨g', 0, none⟩))) ∧ FCh w' tv hv lkCtx (gs ++ [g']) (out ++ [nxCtx hs x]) ∧ w.heap.size ≤ g'))
set_option maxHeartbeats 2000000 in
set_option maxRecDepth 100000 in
theorem unwrapCtx_any (tv : Value) (H : Option Addr) (m c : Nat) (hs : List Flt) (gs : List Nat) (out : List Int) (j : Nat) (i : Nat) (w : World) (hH : Sl w H m c hs) (hF : FCh w tv (.slice H m c) lkCtx gs out) (hj : gs.length = j + 1)
    (hi : i < hs.length) (hx : out[j]? = some (i : Int)) (hto : TvOk tv) :
    Calls Try.prog 68 #[.pointer (some ⟨gs[j], 0, none⟩)] w (UnwOutCtx hs tv (.slice H m c) gs out i w) := by
  obtain rfl := hH.len
  obtain ⟨b, off, rfl, hb, k0, k1, k2, k3, k4, -⟩ := hH.flt_at hi
  have hjg : j < gs.length := by omega
  have hjo : j < out.length := by have := hF.len; omega
  have hxe : out[j] = (i : Int) := by rw [List.getElem?_eq_getElem hjo] at hx; injection hx
  have d0 := hF.c0 hjg
  have d1 := hF.c1 hjg
  have d2 := hF.c2 hjg hjo
  have d3 := hF.c3 hjg
  rw [hxe] at d2
  have hlt := hF.lt j hjg
  have hii : (0 : Int) ≤ (i : Int) ∧ (i : Int) < hs.length := by omega
  have E0 := cell_ext hb k0
  have E1 := cell_ext hb k1
  have E2 := cell_ext hb k2
  have E3 := cell_ext hb k3
  have E4 := cell_ext hb k4
  have E5 := cell_ext hlt d1
  have E6 := cell_ext hlt d2
  have E7 := cell_ext hlt d3
  have hnx : Hid (nxCtx hs (i : Int) = (let y := hs[i]; y.ctx)) := nxCtx_at hi
  have HXE := Lib.hid hxe
  unfold lkCtx at E7
  clear k0 k1 k2 k3 k4 d0 d1 d2 d3 hx hxe
  go_enter Try.func68, Try.ntmps68
  go_wp2_with fail
  refine wp_region_ext (by kernel_rfl) (by kernel_rfl) ?_
  repeat (go_big_quiet_step (first | (go_at_call 50; exact Calls.ext_of (contextLink_any hs[i] _))))
  refine wpQuiet_nil ?_
  intro _ hw'
  obtain ⟨gg, rfl⟩ := hw'
  have L0 := Le.ext w gg
  clear E0 E1 E2 E3 E4 E5 E6 E7
  generalize w.ext gg = W at *
  rw [← hnx.out]
  have hFW := hF.le L0
  have hyr : ∀ y, nxCtx hs (i : Int) = y → -9223372036854775808 ≤ y ∧ y ≤ 9223372036854775807 := fun y e => by
    have := hH.ok hs[i] (List.getElem_mem hi)
    rw [hnx.out] at e
    subst e
    exact ⟨this.2.2.2.2.2.2.1, this.2.2.2.2.2.2.2⟩
  clear hnx hF hH
  generalize hy : nxCtx hs (i : Int) = y at *
  have HY := Lib.hid hy; clear hy
  obtain ⟨hy0, hy1⟩ := hyr y rfl
  clear hyr
  by_cases hneg : y < 0
  · go_wp2
    go_ret
    refine ⟨L0, .inl ⟨?_, rfl⟩⟩
    rw [HY.out]; exact .inl hneg
  · go_wp2
    go_loop [4] (fun o => ∃ k : Nat, k ≤ gs.length ∧ o = .pointer (upPtr gs k) ∧ ∀ a (h : a < out.length), k ≤ a → out[a] ≠ y) (fun o => blk o)
    case atStart => exact ⟨j + 1, by omega, by rw [upPtr_at hjg], fun a h1 h2 => by have := hFW.len; omega⟩
    case round =>
      obtain ⟨k, hk, rfl, hno⟩ := hrel
      have HNO := Lib.hid hno; clear hno
      cases k with
      | zero =>
        have hnin : ¬ (y < 0 ∨ y ∈ out) := by
          rintro (h | h)
          · omega
          · obtain ⟨a, ha, e⟩ := List.getElem_of_mem h
            exact HNO.out a ha (Nat.zero_le _) e
        have HNI := Lib.hid hnin; clear hnin
        have d0 := hFW.c0 hjg
        have d1 := hFW.c1 hjg
        have d3 := hFW.c3 hjg
        have hltW := hFW.lt j hjg
        obtain ⟨tA, tn, tc, rfl⟩ := hto
        unfold lkCtx at d3
        have hu0 : upPtr gs 0 = none := rfl
        rw [hu0]
        clear hu0
        go_wp2_with fail
        go_region_held3 (fun w' => w'.cell? ⟨gs[j], 0, none⟩ = some (.slice tA tn tc) ∧ w'.cell? ⟨gs[j], 1, none⟩ = some (.slice (some ⟨b, off, none⟩) hs.length c) ∧ w'.cell? ⟨gs[j], 3, none⟩ = some (.func (.func 50) #[] #[]))
          (first | exact ⟨d0, d1, d3⟩ | exact ⟨((Le.new W _).cell hltW).trans d0, ((Le.new W _).cell hltW).trans d1, ((Le.new W _).cell hltW).trans d3⟩) (fail)
        go_wp2
        go_ret
        refine ⟨(L0.alloc _).drew, .inr ⟨by rw [HY.out]; exact HNI.out, W.heap.size, rfl, ?_, L0.size⟩⟩
        rw [HY.out]
        exact FCh.snoc hFW hj ((Le.new W _).drew) (Nat.le_refl _) (heap_alloc_new W _)
      | succ k =>
        have hkg : k < gs.length := by omega
        have hko : k < out.length := by have := hFW.len; omega
        have d2 := hFW.c2 hkg hko
        have d4 := hFW.c4 hkg
        rw [upPtr_at hkg]
        have hblk : blk (.pointer (upPtr gs k)) < blk (.pointer (some ⟨gs[k], 0, none⟩)) := by
          cases k with
          | zero => simp [upPtr, blk]
          | succ k' =>
            rw [upPtr_at (by omega)]
            have := hFW.asc k' (k' + 1) (by omega) hkg (by omega)
            simp [blk]; omega
        have HB := Lib.hid hblk; clear hblk
        by_cases he : out[k] = y
        · have hb1 : (out[k] == y) = true := by simpa using he
          have HI : Hid (y ∈ out) := by show _ ∈ _; rw [← he]; exact List.getElem_mem _
          clear he
          go_wp2
          go_ret
          refine ⟨L0, .inl ⟨?_, rfl⟩⟩
          rw [HY.out]; exact .inr HI.out
        · have hb1 : (out[k] == y) = false := by simpa using he
          have HE := Lib.hid he; clear he
          go_wp2
          go_round
          case rel =>
            refine ⟨k, by omega, rfl, fun a ha hka => ?_⟩
            by_cases e : a = k
            · subst e; exact HE.out
            · exact HNO.out a ha (by omega)
          case measure => exact HB.out
end Go.Proofs.Ythcolcmgfhkbeaa
