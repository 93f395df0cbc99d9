/- one text of AP, HpB, HpC, HpE, HpD, ErCtx -/
import Derived.Test.YthcolcmgfhkbeaaDoorCt1
import Derived.Test.YthcolcmgfhkbeaaDoorCt2
import Derived.Maps.AppendAt
import Derived.Deep.AppendLies
import Derived.RegionTactic
import Derived.OwnWalk
import Derived.LaidEql
import Derived.LaidEqlPtr
import Derived.Stop.Asserts
import Derived.RowKitTokens
import Derived.Deep.RegionHeld3
namespace Go.Proofs.YthcolcmgfhkbeaaDoor
open Go.RowKit
set_option linter.unusedVariables false
section
class EncOne (α : Type) [Enc α] : Prop where
  pos : 0 < Enc.size α
  one : ∀ (x : α) u, u ∈ Enc.cells x → u.oneCell' = true
theorem EncOne.all {α : Type} [Enc α] [EncOne α] (xs : List α) : ∀ u ∈ xs.flatMap Enc.cells, u.oneCell' = true := by
  intro u hu
  rw [List.mem_flatMap] at hu
  obtain ⟨x, _, hx⟩ := hu
  exact EncOne.one x u hx
instance instOneInt : EncOne Int := ⟨by decide, fun x u hu => by simp [Enc.cells] at hu; subst hu; rfl⟩
instance instOneCls : EncOne Cls := ⟨by decide, fun x u hu => by simp [Enc.cells] at hu; rcases hu with rfl | rfl <;> rfl⟩

section
variable {α : Type} [Enc α] [EncOne α] {P : Program} {w : World}
theorem run_append_sl (base : Nat) (t ty e : TypeId) (i : TypeInfo) (z : Value) (bytes : Nat) (ht : P.underlying t = some (.slice e)) (hi : P.info? e = some i) (hz : i.zero = some z)
    (hsize : i.size = Enc.size α) (hby : i.bytes = bytes) (hzs : z.cells.size = Enc.size α) (v : Value) (n : Nat) (xs : List α) (hown : w.ownsRow base e (Enc.size α) v n (xs.flatMap Enc.cells))
    (A : Option Addr) (m c : Nat) (ys : List α) (hS : Sl w A m c ys) (h63 : n + m ≤ maxLen) (hbytes : (n + m) * bytes ≤ 140737488355328) (hbase : base ≤ w.heap.size) :
    ∃ v' w', (Builtin.append_ #[t, t] ty #[v, .slice A m c]).run P w = .ok v' w' ∧ w'.ownsRow base e (Enc.size α) v' (n + m) ((xs ++ ys).flatMap Enc.cells) ∧ w.grownBy w' v.ownBlock ∧
      (v'.ownBlock = v.ownBlock ∨ v'.ownBlock = some w.heap.size) := by
  have hm : (ys.flatMap (Enc.cells (α := α))).length = m * Enc.size α := by rw [flat_len, hS.len]
  rcases A with _ | ad
  · have h0 : m = 0 := by
      rcases Nat.eq_zero_or_pos m with h0 | h0
      · exact h0
      · obtain ⟨b, off, h, _⟩ := hS.at_ h0; cases h
    subst h0
    have hy : ys = [] := List.eq_nil_of_length_eq_zero hS.len
    subst hy
    refine ⟨v, w, ?_, by simpa using hown, World.grownBy.refl w _, .inl rfl⟩
    rcases hown.2 with ⟨rfl, _⟩ | ⟨g, cap, cur, rfl, _, _, hnc, _⟩
    · simp [Builtin.append_, run_underlying ht, sizeOf, typeInfo, hi, Builtin.lenOf, Builtin.firstCells]
    · simp [Builtin.append_, run_underlying ht, sizeOf, typeInfo, hi, Builtin.lenOf, Builtin.firstCells, hnc, storeCells]
  · have hcells : ∀ j u, (ys.flatMap Enc.cells)[j]? = some u → w.cell? (ad.add j) = some u := by
      intro j u hu
      rcases Nat.eq_zero_or_pos m with h0 | h0
      · have hy : ys = [] := List.eq_nil_of_length_eq_zero (by rw [hS.len, h0])
        subst hy; simp at hu
      · obtain ⟨b, off, h, _, hc⟩ := hS.at_ h0
        injection h with h
        subst h
        have e : (⟨b, off, none⟩ : Addr).add j = ⟨b, off + j, none⟩ := by
          unfold Addr.add; split
          · next h => subst h; rfl
          · rfl
        rw [e]; exact hc j u hu
    obtain ⟨v', w', hrun, h2, h3, _, h5⟩ := run_append_own_at (P := P) w base t ty e i z (Enc.size α) bytes ht hi hz hsize hby hzs EncOne.pos v n _ hown ad m c _ hm hcells (EncOne.all ys) h63 hbytes hbase
    exact ⟨v', w', hrun, by rw [List.flatMap_append]; exact h2, h3, h5⟩

theorem wp_append_sl {o : Oper} {a : Act} {K : Act → World → Prop} {Q : Exit → Act → World → Prop} (s x : Operand) (t : TypeId)
    (ho : o.op = .call { callee := .builtin .append, args := #[s, x], argTypes := #[t, t] })
    (base : Nat) (e : TypeId) (i : TypeInfo) (z : Value) (bytes : Nat) (ht : P.underlying t = some (.slice e)) (hi : P.info? e = some i) (hz : i.zero = some z)
    (hsize : i.size = Enc.size α) (hby : i.bytes = bytes) (hzs : z.cells.size = Enc.size α) (v : Value) (n : Nat) (xs : List α) (hs : a.eval s = v) (hown : w.ownsRow base e (Enc.size α) v n (xs.flatMap Enc.cells))
    (A : Option Addr) (m c : Nat) (ys : List α) (hx : a.eval x = .slice A m c) (hS : Sl w A m c ys) (h63 : n + m ≤ maxLen) (hbytes : (n + m) * bytes ≤ 140737488355328) (hbase : base ≤ w.heap.size)
    (h : ∀ v' w', w'.ownsRow base e (Enc.size α) v' (n + m) ((xs ++ ys).flatMap Enc.cells) → w.grownBy w' v.ownBlock → (v'.ownBlock = v.ownBlock ∨ v'.ownBlock = some w.heap.size) → K (a.put o.dst v') w') : o.wp P a w K Q := by
  obtain ⟨v', w', hrun, h2, h3, h4⟩ := run_append_sl (P := P) (w := w) base t o.type e i z bytes ht hi hz hsize hby hzs v n xs hown A m c ys hS h63 hbytes hbase
  unfold Oper.wp execOp
  simp only [ho, resolve, invoke, builtin, Sem.run_bind, Sem.run_pure, Result.andThen_ok, List.map_toArray, List.map_cons, List.map_nil, hs, hx, hrun]
  exact h v' w' h2 h3 h4
theorem wpList_append_sl {ops : Array Oper} {rest : List Oper} {o : Oper} {a : Act} {Q : Exit → Act → World → Prop} (hgd : o.guard = none) (s x : Operand) (t : TypeId)
    (ho : o.op = .call { callee := .builtin .append, args := #[s, x], argTypes := #[t, t] })
    (base : Nat) (e : TypeId) (i : TypeInfo) (z : Value) (bytes : Nat) (ht : P.underlying t = some (.slice e)) (hi : P.info? e = some i) (hz : i.zero = some z)
    (hsize : i.size = Enc.size α) (hby : i.bytes = bytes) (hzs : z.cells.size = Enc.size α) (v : Value) (n : Nat) (xs : List α) (hs : a.eval s = v) (hown : w.ownsRow base e (Enc.size α) v n (xs.flatMap Enc.cells))
    (A : Option Addr) (m c : Nat) (ys : List α) (hx : a.eval x = .slice A m c) (hS : Sl w A m c ys) (h63 : n + m ≤ maxLen) (hbytes : (n + m) * bytes ≤ 140737488355328) (hbase : base ≤ w.heap.size)
    (h : ∀ v' w', w'.ownsRow base e (Enc.size α) v' (n + m) ((xs ++ ys).flatMap Enc.cells) → w.grownBy w' v.ownBlock → (v'.ownBlock = v.ownBlock ∨ v'.ownBlock = some w.heap.size) → wpList P ops Q rest (a.put o.dst v') w') : wpList P ops Q (o :: rest) a w :=
  wpList_plain hgd fun _ hK => wp_append_sl s x t ho base e i z bytes ht hi hz hsize hby hzs v n xs hs hown A m c ys hx hS h63 hbytes hbase fun v' w' h2 h3 h4 => hK _ _ (h v' w' h2 h3 h4)
theorem step_append_sl {ops : Array Oper} {o : Oper} {a : Act} {K : Act → World → Prop} {Q : Exit → Act → World → Prop} {E : Prop} (hgd : o.guard = none) (s x : Operand) (t : TypeId)
    (ho : o.op = .call { callee := .builtin .append, args := #[s, x], argTypes := #[t, t] })
    (base : Nat) (e : TypeId) (i : TypeInfo) (z : Value) (bytes : Nat) (ht : P.underlying t = some (.slice e)) (hi : P.info? e = some i) (hz : i.zero = some z)
    (hsize : i.size = Enc.size α) (hby : i.bytes = bytes) (hzs : z.cells.size = Enc.size α) (v : Value) (n : Nat) (xs : List α) (hs : a.eval s = v) (hown : w.ownsRow base e (Enc.size α) v n (xs.flatMap Enc.cells))
    (A : Option Addr) (m c : Nat) (ys : List α) (hx : a.eval x = .slice A m c) (hS : Sl w A m c ys) (h63 : n + m ≤ maxLen) (hbytes : (n + m) * bytes ≤ 140737488355328) (hbase : base ≤ w.heap.size)
    (h : ∀ v' w', w'.ownsRow base e (Enc.size α) v' (n + m) ((xs ++ ys).flatMap Enc.cells) → w.grownBy w' v.ownBlock → (v'.ownBlock = v.ownBlock ∨ v'.ownBlock = some w.heap.size) → K (a.put o.dst v') w') :
    if Region.wanted o (yielded ops a.tmps) = true then Oper.wp P o a w K Q else E := by
  have hw : Region.wanted o (yielded ops a.tmps) = true := by simp [Region.wanted, hgd]
  rw [if_pos hw]
  exact wp_append_sl s x t ho base e i z bytes ht hi hz hsize hby hzs v n xs hs hown A m c ys hx hS h63 hbytes hbase h
end
/-- one new box as a list -/
theorem sl_one {α : Type} [Enc α] {w : World} {cs : Array Value} {T : TypeId} (x : α) (hc : cs.toList = Enc.cells x) (hok : Enc.ok x) {b : Nat} (hb : b = w.heap.size) : Sl (w.alloc (.cells cs T)) (some ⟨b, 0, none⟩) 1 1 [x] := by
  subst hb
  refine ⟨rfl, Nat.le_refl _, by omega, fun y hy => by simp at hy; subst hy; exact hok, fun _ => ⟨_, 0, rfl, by simp, fun j u hu => ?_⟩⟩
  rw [List.flatMap_cons, List.flatMap_nil, List.append_nil, ← hc] at hu
  rw [Nat.zero_add, World.cell?_alloc_at _ _ _ _ rfl]
  simpa using hu
end

section
theorem rng_any (a b c : Int) (w : World) : Calls Tryd.prog 79 #[.int .i64 a, .int .i64 b, .int .i64 c] w fun e w' => e = .returned (.bool (rng b c a)) ∧ w = w' := inRange_any a b c w
theorem intInfoB : (Tryd.prog.info? 3).map (fun i => (i.zero, i.size, i.bytes)) = some (some (.int .i64 0), 1, 8) := by kernel_rfl
theorem one_newB (w : World) (a : Value) (t : TypeId) : ∀ j u, [a][j]? = some u → (w.alloc (.cells #[a] t)).cell? ((⟨w.heap.size, 0, none⟩ : Addr).add j) = some u := by
  intro j u hu
  cases j with
  | zero =>
    simp at hu; subst hu
    show (w.alloc (.cells #[a] t)).cell? ⟨w.heap.size, 0, none⟩ = some a
    rw [World.cell?_alloc_at _ _ _ _ rfl]; rfl
  | succ j => simp at hu

set_option maxHeartbeats 2000000 in
set_option maxRecDepth 100000 in
theorem validLinks_any (H : Option Addr) (n c : Nat) (hs : List Flt) (k : Nat) (hk : k < hs.length) (w : World) (hH : Sl w H n c hs) :
    Calls Tryd.prog 80 #[.agg #[.slice H n c], .int .i64 k] w fun e w' => e = .returned (.bool (linksOk hs.length k hs[k])) ∧ Le w w' := by
  obtain rfl := hH.len
  have hm := hH.n_le
  obtain ⟨b, off, rfl, hb, k0, k1, k2, k3, k4, _⟩ := hH.flt_at hk
  have hnn : IntKind.i64.wrap ((hs.length : Int) - 1) = (hs.length : Int) - 1 := IntWalk.i64_in _ (by omega)
  have hl : Le w (w.alloc (.cells #[.slice (some ⟨b, off, none⟩) hs.length c] 28)) := Le.new w _
  have HF : Hid (linksOk hs.length k hs[k] = (rng (-1) ((hs.length : Int) - 1) hs[k].cause && rng (-1) ((hs.length : Int) - 1) hs[k].ctx && (hs[k].cause != (k : Int)) && (hs[k].ctx != (k : Int)))) := by show _ = _; rfl
  cases h1 : rng (-1) ((hs.length : Int) - 1) hs[k].cause
  · rw [h1] at HF
    go_enter Tryd.func80, Tryd.ntmps80
    go_wp2_with fail
    refine (rng_any _ _ _ _).mono ?_
    rintro e w' ⟨rfl, rfl⟩
    rw [h1]
    go_wp2
    go_ret
    exact ⟨ret_bool (by rw [HF.out]; rfl), hl.alloc _⟩
  · cases h2 : rng (-1) ((hs.length : Int) - 1) hs[k].ctx
    case' true => cases h3 : (hs[k].cause != (k : Int))
    case' true.true => cases h4 : (hs[k].ctx != (k : Int))
    all_goals
      rw [h1, h2] at HF
      try rw [h3] at HF
      try rw [h4] at HF
      go_enter Tryd.func80, Tryd.ntmps80
      go_wp2_with fail
      refine (rng_any _ _ _ _).mono ?_
      rintro e w' ⟨rfl, rfl⟩
      rw [h1]
      go_wp2_with fail
      refine (rng_any _ _ _ _).mono ?_
      rintro e w' ⟨rfl, rfl⟩
      rw [h2]
      go_wp2
      go_ret
      exact ⟨ret_bool (by rw [HF.out]; simp), hl.alloc _⟩

theorem go_len {nx : Int → Int} : ∀ (m : Nat) (f : Int) (out : List Int), (Chn.go nx m f out).length ≤ m + out.length
  | 0, _, out => by simp [Chn.go]
  | m + 1, f, out => by
    unfold Chn.go
    split
    · omega
    · have := go_len (nx := nx) m (nx f) (out ++ [f]); simp at this; omega
theorem go_stop {nx : Int → Int} {m : Nat} {f : Int} {out : List Int} (h : f < 0 ∨ f ∈ out) : Chn.go nx m f out = out := by
  cases m with
  | zero => rfl
  | succ m => rw [Chn.go, if_pos h]
theorem go_on {nx : Int → Int} {m : Nat} {f : Int} {out : List Int} (h0 : 0 ≤ f) (h : f ∉ out) : Chn.go nx (m + 1) f out = Chn.go nx m (nx f) (out ++ [f]) := by
  rw [Chn.go, if_neg (by rintro (h1 | h1); omega; exact h h1)]
theorem hasI_not {x : Int} {L : List Int} (h : x ∉ L) : hasI L x = false := by
  cases e : hasI L x
  · rfl
  · exact absurd (hasI_iff'.1 e) h

def slLen : Value → Nat
  | .slice _ n _ => n
  | _ => 0
set_option maxHeartbeats 2000000 in
set_option maxRecDepth 100000 in
theorem contexts_any (H : Option Addr) (n c : Nat) (hs : List Flt) (f : Int) (w : World) (hH : Sl w H n c hs) (lk : Lnk hs) (h0 : 0 ≤ f) (h1 : f < hs.length) (hn : n ≤ 2097152) :
    Calls Tryd.prog 81 #[.agg #[.slice H n c], .int .i64 f] w fun e w' => ∃ v, e = .returned v ∧ Owd 3 w w' v (chainN (ctxOf hs) hs.length f) ∧ Le w w' := by
  obtain rfl := hH.len
  obtain ⟨i0, hi, hz0, hz1, hz2⟩ := info_parts intInfoB
  have HLT := Lib.hid lk.ctxlt
  have HLK := Lib.hid lk.ctx
  go_enter Tryd.func81, Tryd.ntmps81
  go_wp2
  obtain ⟨c0, z0, L0⟩ := box1 w (.slice H hs.length c) 28
  have HZW : Hid (w.heap.size + 1 = (w.alloc (.cells #[.slice H hs.length c] 28)).heap.size) := by show _ = _; simp
  generalize w.alloc (.cells #[.slice H hs.length c] 28) = W at *
  go_loopw [1, 5] (fun q v wr => ∃ (x : Int) (out : List Int) (m : Nat) (A' : Option Addr) (c' : Nat), q = .int .i64 x ∧ -1 ≤ x ∧ v = .slice A' out.length c' ∧ Chn.Pre (ctxOf hs) hs.length f x out ∧ hs.length + 1 ≤ m + out.length ∧ chainN (ctxOf hs) hs.length f = Chn.go (ctxOf hs) m x out ∧
      wr.ownsRow W.heap.size 3 1 (.slice A' out.length c') out.length (out.flatMap Enc.cells) ∧ Le W wr) (fun q v _ => hs.length + 1 - slLen v)
  case atStart => exact ⟨f, [], hs.length + 1, _, _, rfl, by omega, rfl, Chn.Pre.start h1, by simp, rfl, own_empty (Nat.le_refl _) HZW.out, Le.new _ _⟩
  case round =>
    obtain ⟨x, out, m, A', c', rfl, hx0, rfl, hp, hm, hr, O1, hle⟩ := hrel
    have HP := Lib.hid hp
    have hol := hp.len
    have hxl := hp.lt
    have HR := Lib.hid hr
    have LW := L0
    replace c0 := (hle.cell z0).trans c0
    replace z0 := Nat.lt_of_lt_of_le z0 hle.size
    replace L0 := L0.trans hle
    have S1 := hH.le L0
    have hoko : ∀ y ∈ out, Enc.ok y := fun y hy => by
      have := hp.rng y hy
      exact ⟨by omega, by omega⟩
    have HK := Lib.hid hoko
    have S2 : Sl wr A' out.length c' out := Sl.of_own O1 rfl (by decide) hoko
    clear hp hr hoko
    by_cases hneg : x < 0
    · have HF : Hid (Owd 3 w wr (.slice A' out.length c') (chainN (ctxOf hs) hs.length f)) := by
        show Owd _ _ _ _ _
        rw [HR.out, go_stop (.inl hneg)]
        exact ⟨own_mono O1 LW.size, HK.out⟩
      have hd : decide (0 ≤ x) = false := decide_eq_false (by omega)
      go_wp2
      go_ret
      exact ⟨_, rfl, HF.out, L0⟩
    · have hd : decide (0 ≤ x) = true := decide_eq_true (by omega)
      obtain ⟨i, rfl⟩ := Int.eq_ofNat_of_zero_le (by omega : 0 ≤ x)
      have hil : i < hs.length := by omega
      by_cases hin : (i : Int) ∈ out
      · have hh := hasI_iff'.2 hin
        have HF : Hid (Owd 3 w wr (.slice A' out.length c') (chainN (ctxOf hs) hs.length f)) := by
          show Owd _ _ _ _ _
          rw [HR.out, go_stop (.inr hin)]
          exact ⟨own_mono O1 LW.size, HK.out⟩
        clear hin
        go_wp2_with fail
        refine (hasInt_any _ _ _ out _ _ S2).mono ?_
        rintro e w' ⟨rfl, rfl⟩
        rw [hh]
        go_wp2
        go_ret
        exact ⟨_, rfl, HF.out, L0⟩
      · have hh := hasI_not hin
        obtain ⟨m', rfl⟩ : ∃ m', m = m' + 1 := ⟨m - 1, by omega⟩
        have hcx := ctxOf_at hil
        have HN : Hid (chainN (ctxOf hs) hs.length f = Chn.go (ctxOf hs) m' hs[i].ctx (out ++ [(i : Int)])) := by show _ = _; rw [HR.out, go_on (by omega) hin, hcx]
        have hpn := HP.out.step (by omega) hin (HLT.out _ (by omega) hxl)
        rw [hcx] at hpn
        have HPN := Lib.hid hpn
        have hci := HLK.out i hil
        obtain ⟨b, off, rfl, hb, _, _, _, k3, _⟩ := hH.flt_at hil
        have hsz := hle.size
        clear hin hpn hcx HR
        go_wp2_with fail
        refine (hasInt_any _ _ _ out _ _ S2).mono ?_
        rintro e w' ⟨rfl, rfl⟩
        rw [hh]
        clear hh S2
        go_wp2_with (at_builtin; refine wpList_append_own _ rfl _ _ 36 rfl W.heap.size 3 i0 (.int .i64 0) 1 8 Tryd.underlying36 hi hz0 hz1 hz2 rfl (by decide) _ _ _ rfl (O1.alloc _) ⟨wr.heap.size, 0, none⟩ 1 1 [.int .i64 i] rfl rfl (one_newB _ _ _) (by intro u hu; simp at hu; subst hu; rfl) (by unfold maxLen; omega) (by omega) (by simp; omega) ?_; intro v1 w1 hown1 hg1 _; have hle1 := (hle.alloc (.cells #[.int .i64 (i : Int)] 3)).grown hg1 (fun k hk => (O1.lt k hk).1); have hz1' : w.heap.size ≠ W.heap.size := (by have := HZW.out; omega); have L1 := LW.trans hle1; have c1 := hg1.cell ((World.cell?_alloc_past (.cells #[.int .i64 (i : Int)] 3) _ _ z0).trans c0) (fun e => by have h' : W.heap.size ≤ w.heap.size := (O1.lt _ e.symm).1; have := HZW.out; omega); have k3' := (L1.cell hb).trans k3)
        obtain ⟨A5, q5, rfl⟩ := own_form hown1
        go_roundw
        case rel =>
          refine ⟨hs[i].ctx, out ++ [(i : Int)], m', A5, q5, rfl, hci.1, by simp, HPN.out, by simp; omega, HN.out, ?_, hle1⟩
          simpa [Enc.cells] using hown1
        case measure => simp [slLen]; omega
end

section
set_option maxHeartbeats 4000000 in
set_option maxRecDepth 100000 in
theorem validHeap_any (A H : Option Addr) (n cap m c : Nat) (xs : List Cls) (hs : List Flt) (w : World) (hR : Sl w A n cap xs) (hH : Sl w H m c hs) (hm : m ≤ 2097152) :
    Calls Tryd.prog 50 #[.agg #[.slice A n cap], .agg #[.slice H m c]] w fun e w' => e = .returned (.bool (okHeap xs hs)) ∧ Le w w' := by
  obtain rfl := hH.len
  have HO : Hid (okHeap xs hs = (allF xs hs.length 0 (hs.drop 0) && (endsF hs 0 hs.length && okTree xs && decide (hs.length ≤ 24)))) := by
    show _ = _
    unfold okHeap; rw [List.drop_zero]; simp only [Bool.and_assoc]
  go_enter Tryd.func50, Tryd.ntmps50
  go_wp2
  obtain ⟨c0, z0, c1, z1, L0⟩ := box2 w (.slice A n cap) (.slice H hs.length c) 25 28
  generalize (w.alloc (.cells #[.slice A n cap] 25)).alloc (.cells #[.slice H hs.length c] 28) = W at *
  go_loopw [5] (fun q wr => ∃ k : Nat, k ≤ hs.length ∧ q = .int .i64 k ∧ allF xs hs.length 0 (hs.drop 0) = allF xs hs.length k (hs.drop k) ∧ Le W wr) (fun q _ => hs.length - (intOf q).toNat)
  case atStart => exact ⟨0, Nat.zero_le _, rfl, rfl, Le.refl _⟩
  case round =>
    obtain ⟨k, hk, rfl, hr, hle⟩ := hrel
    have HR := Lib.hid hr; clear hr
    have LW := L0
    replace c0 := (hle.cell z0).trans c0
    replace c1 := (hle.cell z1).trans c1
    replace z0 := Nat.lt_of_lt_of_le z0 hle.size
    replace z1 := Nat.lt_of_lt_of_le z1 hle.size
    replace L0 := L0.trans hle
    by_cases hlt : k < hs.length
    · obtain ⟨b, off, rfl, hb, k0, k1, k2, k3, k4, -⟩ := (hH.le L0).flt_at hlt
      have HX : Hid (allF xs hs.length 0 (hs.drop 0) = (fOk xs hs.length k hs[k] && allF xs hs.length (k + 1) (hs.drop (k + 1)))) := by show _ = _; rw [HR.out, allF_at hlt]
      have HFO : Hid (fOk xs hs.length k hs[k] = (hasK xs hs[k].cls && rng 0 99 hs[k].code && linksOk hs.length k hs[k])) := by show _ = _; rfl
      cases h1 : hasK xs hs[k].cls
      case' true => cases h2 : rng 0 99 hs[k].code
      case' true.true => cases h3 : linksOk hs.length k hs[k]
      all_goals
        have hx2 := HX.out.trans (by rw [HFO.out])
        rw [h1] at hx2
        try rw [h2] at hx2
        try rw [h3] at hx2
        have HY := Lib.hid hx2
        clear hx2
        go_wp2_with fail
        obtain ⟨d0, d1, d2, d3, d4, zd, hld⟩ := box5 wr (.int .i64 hs[k].cls) (.int .i64 hs[k].code) (.int .i64 hs[k].cause) (.int .i64 hs[k].ctx) (.bool hs[k].hide) 49
        replace c0 := (hld.cell z0).trans c0
        replace c1 := (hld.cell z1).trans c1
        replace z0 := Nat.lt_of_lt_of_le z0 hld.size
        replace z1 := Nat.lt_of_lt_of_le z1 hld.size
        have L2 := L0.trans hld
        replace hle := hle.trans hld
        clear hld k0 k1 k2 k3 k4
        generalize wr.alloc (.cells #[.int .i64 hs[k].cls, .int .i64 hs[k].code, .int .i64 hs[k].cause, .int .i64 hs[k].ctx, .bool hs[k].hide] 49) = W3 at *
        refine (hasClass_any A n cap xs _ _ (hR.le L2)).mono ?_
        rintro e w4 ⟨rfl, hle4⟩
        rw [h1]
        replace c0 := (hle4.cell z0).trans c0
        replace c1 := (hle4.cell z1).trans c1
        replace d1 := (hle4.cell zd).trans d1
        replace z0 := Nat.lt_of_lt_of_le z0 hle4.size
        replace z1 := Nat.lt_of_lt_of_le z1 hle4.size
        replace L2 := L2.trans hle4
        replace hle := hle.trans hle4
        clear hle4 d0 d2 d3 d4
        go_wp2_with fail
        first
          | (go_ret
             exact ⟨ret_bool (by rw [HO.out, HY.out]; simp), L2⟩)
          | (refine (rng_any _ _ _ _).mono ?_
             rintro e w5 ⟨rfl, rfl⟩
             rw [h2]
             go_wp2_with fail
             first
               | (go_ret
                  exact ⟨ret_bool (by rw [HO.out, HY.out]; simp), L2⟩)
               | (refine (validLinks_any (some ⟨b, off, none⟩) hs.length c hs k hlt _ (hH.le L2)).mono ?_
                  rintro e w6 ⟨rfl, hle6⟩
                  rw [h3]
                  replace L2 := L2.trans hle6
                  replace hle := hle.trans hle6
                  clear hle6
                  go_wp2
                  first
                    | (go_ret
                       exact ⟨ret_bool (by rw [HO.out, HY.out]; simp), L2⟩)
                    | (go_roundw
                       case rel => exact ⟨k + 1, by omega, by go_num, by rw [HY.out]; simp, hle⟩
                       case measure => simp [intOf]; omega)))
    · have HA : Hid (allF xs hs.length 0 (hs.drop 0) = true) := by show _ = _; rw [HR.out, allF_end hlt]
      have lk : Lnk hs := by
        have := HA.out
        rw [List.drop_zero] at this
        exact lnk_of this
      have HO2 : Hid (okHeap xs hs = (endsF hs 0 hs.length && okTree xs && decide (hs.length ≤ 24))) := by show _ = _; rw [HO.out, HA.out, Bool.true_and]
      clear HR HO HA
      obtain ⟨wo, rfl⟩ : ∃ wo : World, wo = wr := ⟨_, rfl⟩
      go_wp2
      clear hlt hk
      go_loopw [7] (fun q w2 => ∃ k : Nat, k ≤ hs.length ∧ q = .int .i64 k ∧ endsF hs 0 hs.length = endsF hs k (hs.length - k) ∧ Le wo w2) (fun q _ => hs.length - (intOf q).toNat)
      case atStart => exact ⟨0, Nat.zero_le _, rfl, rfl, Le.refl _⟩
      case round =>
        obtain ⟨k, hk, rfl, hr, hle2⟩ := hrel
        have HR := Lib.hid hr; clear hr
        have L2 := L0.trans hle2
        replace c0 := (hle2.cell z0).trans c0
        replace c1 := (hle2.cell z1).trans c1
        replace z0 := Nat.lt_of_lt_of_le z0 hle2.size
        replace z1 := Nat.lt_of_lt_of_le z1 hle2.size
        by_cases hlt : k < hs.length
        · have hx : hs.length - k = (hs.length - (k + 1)) + 1 := by omega
          have HX : Hid (endsF hs 0 hs.length = (endsAt hs k && endsF hs (k + 1) (hs.length - (k + 1)))) := by show _ = _; rw [HR.out, hx]; rfl
          clear hx
          go_wp2_with fail
          refine (contexts_any H hs.length c hs (k : Int) _ (hH.le L2) lk (by omega) (by omega) hm).mono ?_
          rintro e w3 ⟨v, rfl, D, hle3⟩
          obtain ⟨A3, q3, rfl, S3, -⟩ := D.form (by decide)
          have hch := chain_is lk.ctxlt (f := (k : Int)) (by omega) (by omega)
          obtain ⟨x, hxl, hxm⟩ := is_last hch
          replace c0 := (hle3.cell z0).trans c0
          replace c1 := (hle3.cell z1).trans c1
          replace z0 := Nat.lt_of_lt_of_le z0 hle3.size
          replace z1 := Nat.lt_of_lt_of_le z1 hle3.size
          replace L2 := L2.trans hle3
          replace hle2 := hle2.trans hle3
          have hend : endsAt hs k = decide (ctxOf hs x < 0) := by unfold endsAt; rw [last_of hxl]
          have HE := Lib.hid hend; clear hend
          clear D hle3
          have hxr := hch.lt lk.ctxlt (by omega) x hxm
          obtain ⟨i, rfl⟩ := Int.eq_ofNat_of_zero_le hxr.1
          have hil : i < hs.length := by omega
          have hcx := ctxOf_at hil
          rw [hcx] at HE
          have hne := hch.ne
          generalize chainN (ctxOf hs) hs.length (k : Int) = M at *
          obtain ⟨l, hl⟩ : ∃ l, M.length = l + 1 := ⟨M.length - 1, by cases M with | nil => exact absurd rfl hne | cons _ _ => simp⟩
          have hMl : M[l]'(by omega) = (i : Int) := by
            rw [List.getLast?_eq_getElem?, hl, Nat.add_sub_cancel, List.getElem?_eq_getElem (by omega)] at hxl
            injection hxl
          rw [hl] at S3 ⊢
          obtain ⟨bM, oM, rfl, hbM, hcM, -, -⟩ := S3.int_at (k := l) (by omega)
          rw [hMl] at hcM
          obtain ⟨bH, oH, rfl, hbH, -, -, -, k3, -⟩ := (hH.le L2).flt_at hil
          have hcapM := S3.cap_
          have hrl : (l : Int) + 1 ≤ 9223372036854775807 := by have := S3.n_le; omega
          have hiI : (0 : Int) ≤ (i : Int) ∧ (i : Int) < hs.length := by omega
          have hwl : IntKind.i64.wrap ((l : Int) + 1 - 1) = (l : Int) := by rw [show (l : Int) + 1 - 1 = l by omega]; exact IntWalk.i64_in _ (by omega)
          have E0 := cell_ext z1 c1
          have E1 := cell_ext hbM hcM
          have E2 := cell_ext hbH k3
          clear hch hxl hxm hne hcx hl hMl hxr
          cases hd : decide (hs[i].ctx < 0)
          all_goals
            rw [hd] at HE
            have hd2 : decide (0 ≤ hs[i].ctx) = !decide (hs[i].ctx < 0) := by
              by_cases h : hs[i].ctx < 0
              · rw [decide_eq_true h, decide_eq_false (by omega)]; rfl
              · rw [decide_eq_false h, decide_eq_true (by omega)]; rfl
            rw [hd] at hd2
            go_wp2_with fail
            refine wp_region_ext (by kernel_rfl) (by kernel_rfl) ?_
            repeat (go_big_quiet_step (fail))
            refine wpQuiet_nil ?_
            intro _ hw'
            obtain ⟨gg, rfl⟩ := hw'
            replace L2 := L2.trans (Le.ext w3 gg)
            replace hle2 := hle2.trans (Le.ext w3 gg)
            clear E0 E1 E2 c0 c1 hcM k3
            generalize w3.ext gg = W4 at *
            go_wp2
          · go_ret
            exact ⟨ret_bool (by rw [HO2.out, HX.out, HE.out]; rfl), L2⟩
          · go_roundw
            case rel => exact ⟨k + 1, by omega, by go_num, by rw [HX.out, HE.out]; rfl, hle2⟩
            case measure => simp [intOf]; omega
        · have hk' : k = hs.length := by omega
          have HF : Hid (endsF hs 0 hs.length = true) := by show _ = _; rw [HR.out, hk', Nat.sub_self]; rfl
          cases hok : okTree xs
          all_goals
            go_wp2_with fail
            refine (validTree_any A n cap xs _ (hR.le L2)).mono ?_
            rintro e w5 ⟨rfl, hle5⟩
            rw [hok]
            replace c1 := (hle5.cell z1).trans c1
            replace L2 := L2.trans hle5
            go_wp2
            go_ret
            exact ⟨ret_bool (by rw [HO2.out, HF.out, hok]; simp <;> omega), L2⟩
end

section
/-- a valid heap that has the fault f -/
def hasF (hs : List Flt) (f : Int) : Bool := rng 0 ((hs.length : Int) - 1) f
theorem hasF_iff {hs : List Flt} {f : Int} : hasF hs f = true ↔ 0 ≤ f ∧ f < hs.length := by unfold hasF; rw [rng_iff]; omega
theorem sHasFault_any (H : Option Addr) (m c : Nat) (hs : List Flt) (f : Int) (w : World) (hH : Sl w H m c hs) :
    Calls Tryd.prog 54 #[.agg #[.slice H m c], .int .i64 f] w fun e w' => e = .returned (.bool (hasF hs f)) ∧ Le w w' := by
  obtain rfl := hH.len
  have hm := hH.n_le
  have hnn : IntKind.i64.wrap ((hs.length : Int) - 1) = (hs.length : Int) - 1 := IntWalk.i64_in _ (by omega)
  go_enter Tryd.func54, Tryd.ntmps54
  go_wp2_with fail
  obtain ⟨c0, z0, L0⟩ := box1 w (.slice H hs.length c) 28
  generalize w.alloc (.cells #[.slice H hs.length c] 28) = W at *
  go_wp2_with fail
  refine (rng_any _ _ _ _).mono ?_
  rintro e w1 ⟨rfl, rfl⟩
  go_wp2
  go_ret
  exact ⟨rfl, L0⟩
def goodF (xs : List Cls) (hs : List Flt) (f : Int) : Bool := okHeap xs hs && hasF hs f
set_option maxHeartbeats 2000000 in
set_option maxRecDepth 100000 in
theorem goodFault_any (A H : Option Addr) (n cap m c : Nat) (xs : List Cls) (hs : List Flt) (f : Int) (w : World) (hR : Sl w A n cap xs) (hH : Sl w H m c hs) (hm : m ≤ 2097152) :
    Calls Tryd.prog 34 #[.agg #[.slice A n cap], .agg #[.slice H m c], .int .i64 f] w fun e w' => e = .returned (.bool (goodF xs hs f)) ∧ Le w w' := by
  have HG : Hid (goodF xs hs f = (okHeap xs hs && hasF hs f)) := rfl
  go_enter Tryd.func34, Tryd.ntmps34
  go_wp2_with fail
  obtain ⟨c0, z0, c1, z1, L0⟩ := box2 w (.slice A n cap) (.slice H m c) 25 28
  generalize (w.alloc (.cells #[.slice A n cap] 25)).alloc (.cells #[.slice H m c] 28) = W at *
  go_wp2_with fail
  refine (validHeap_any A H n cap m c xs hs _ (hR.le L0) (hH.le L0) hm).mono ?_
  rintro e w1 ⟨rfl, hle⟩
  replace c0 := (hle.cell z0).trans c0
  replace c1 := (hle.cell z1).trans c1
  replace z0 := Nat.lt_of_lt_of_le z0 hle.size
  replace z1 := Nat.lt_of_lt_of_le z1 hle.size
  replace L0 := L0.trans hle
  cases ho : okHeap xs hs
  · rw [ho] at HG
    go_wp2
    go_ret
    exact ⟨ret_bool (by rw [HG.out]; rfl), L0⟩
  · rw [ho] at HG
    go_wp2_with fail
    refine (sHasFault_any H m c hs f _ (hH.le L0)).mono ?_
    rintro e w2 ⟨rfl, hle2⟩
    go_wp2
    go_ret
    exact ⟨ret_bool (by rw [HG.out]; rfl), L0.trans hle2⟩
end

section
def upPtr (gs : List Nat) : Nat → Option Addr
  | 0 => none
  | k + 1 => (gs[k]?).map fun g => ⟨g, 0, none⟩
theorem upPtr_succ (gs : List Nat) (k : Nat) : upPtr gs (k + 1) = (gs[k]?).map fun g => ⟨g, 0, none⟩ := rfl
theorem upPtr_at {gs : List Nat} {k : Nat} (h : k < gs.length) : upPtr gs (k + 1) = some ⟨gs[k], 0, none⟩ := by rw [upPtr_succ, List.getElem?_eq_getElem h]; rfl
def TvOk (tv : Value) : Prop := ∃ A n cap, tv = .slice A n cap
/-- a chain of failures: each but the first came from the one ahead of it -/
structure FCh (w : World) (tv hv lk : Value) (gs : List Nat) (out : List Int) : Prop where
  len : gs.length = out.length
  lt : ∀ k (h : k < gs.length), gs[k] < w.heap.size
  asc : ∀ j k (hj : j < gs.length) (hk : k < gs.length), j < k → gs[j] < gs[k]
  row : ∀ k (h : k < gs.length) (h2 : k < out.length), w.heap[gs[k]]? = some (.cells #[tv, hv, .int .i64 out[k], lk, .pointer (upPtr gs k)] 85 (0, 0))
section
variable {w w' : World} {tv hv lk : Value} {gs : List Nat} {out : List Int} {k : Nat}
theorem FCh.le (h : FCh w tv hv lk gs out) (hl : Le w w') : FCh w' tv hv lk gs out :=
  ⟨h.len, fun k hk => Nat.lt_of_lt_of_le (h.lt k hk) hl.size, h.asc, fun k h1 h2 => (Below.block hl _ (h.lt k h1)).trans (h.row k h1 h2)⟩
theorem FCh.c0 (h : FCh w tv hv lk gs out) (hk : k < gs.length) : w.cell? ⟨gs[k], 0, none⟩ = some tv := (cell_of_row w _ 0 _ _ _ (h.row k hk (by have := h.len; omega))).trans rfl
theorem FCh.c1 (h : FCh w tv hv lk gs out) (hk : k < gs.length) : w.cell? ⟨gs[k], 1, none⟩ = some hv := (cell_of_row w _ 1 _ _ _ (h.row k hk (by have := h.len; omega))).trans rfl
theorem FCh.c2 (h : FCh w tv hv lk gs out) (hk : k < gs.length) (h2 : k < out.length) : w.cell? ⟨gs[k], 2, none⟩ = some (.int .i64 out[k]) := (cell_of_row w _ 2 _ _ _ (h.row k hk h2)).trans rfl
theorem FCh.c3 (h : FCh w tv hv lk gs out) (hk : k < gs.length) : w.cell? ⟨gs[k], 3, none⟩ = some lk := (cell_of_row w _ 3 _ _ _ (h.row k hk (by have := h.len; omega))).trans rfl
theorem FCh.c4 (h : FCh w tv hv lk gs out) (hk : k < gs.length) : w.cell? ⟨gs[k], 4, none⟩ = some (.pointer (upPtr gs k)) := (cell_of_row w _ 4 _ _ _ (h.row k hk (by have := h.len; omega))).trans rfl
theorem FCh.one {g : Nat} {x : Int} (h : w.heap[g]? = some (.cells #[tv, hv, .int .i64 x, lk, .pointer none] 85 (0, 0))) : FCh w tv hv lk [g] [x] := by
  have hlt : g < w.heap.size := (Array.getElem?_eq_some_iff.1 h).1
  refine ⟨rfl, fun k hk => ?_, fun j k hj hk hjk => ?_, fun k hk h2 => ?_⟩
  · simp at hk; subst hk; exact hlt
  · simp at hj hk; omega
  · simp at hk; subst hk; exact h
theorem FCh.snoc {g : Nat} {x : Int} {j : Nat} (h : FCh w tv hv lk gs out) (hj : gs.length = j + 1) (hl : Le w w') (hg : w.heap.size ≤ g) (hn : w'.heap[g]? = some (.cells #[tv, hv, .int .i64 x, lk, .pointer (some ⟨gs[j], 0, none⟩)] 85 (0, 0))) : FCh w' tv hv lk (gs ++ [g]) (out ++ [x]) := by
  have hlt : g < w'.heap.size := (Array.getElem?_eq_some_iff.1 hn).1
  have hlen := h.len
  have hup : ∀ k, k < gs.length → upPtr (gs ++ [g]) k = upPtr gs k := by
    intro k hk
    cases k with
    | zero => rfl
    | succ k => rw [upPtr_succ, upPtr_succ, List.getElem?_append_left (by omega)]
  have hup2 : upPtr (gs ++ [g]) gs.length = some ⟨gs[j], 0, none⟩ := by
    have e : upPtr (gs ++ [g]) gs.length = upPtr (gs ++ [g]) (j + 1) := by rw [hj]
    rw [e, upPtr_at (by simp; omega), List.getElem_append_left (by omega)]
  refine ⟨by simp [hlen], fun k hk => ?_, fun a b ha hb hab => ?_, fun k hk h2 => ?_⟩
  · rcases Nat.lt_or_ge k gs.length with h1 | h1
    · rw [List.getElem_append_left h1]; exact Nat.lt_of_lt_of_le (h.lt k h1) hl.size
    · rw [List.getElem_append_right h1]; simpa using hlt
  · simp at ha hb
    rcases Nat.lt_or_ge b gs.length with h1 | h1
    · rw [List.getElem_append_left h1, List.getElem_append_left (by omega)]; exact h.asc a b (by omega) h1 hab
    · rw [List.getElem_append_right h1, List.getElem_append_left (by omega)]
      have := h.lt a (by omega)
      simp; omega
  · simp at hk
    rcases Nat.lt_or_ge k gs.length with h1 | h1
    · rw [List.getElem_append_left h1, List.getElem_append_left (by omega), hup k h1]
      exact (Below.block hl _ (h.lt k h1)).trans (h.row k h1 (by omega))
    · have e : k = gs.length := by omega
      subst e
      rw [hup2, List.getElem_append_right (by omega), List.getElem_append_right (by omega)]
      simpa [hlen] using hn
end
end

section
theorem contextLink_any (y : Flt) (w : World) : Calls Tryd.prog 87 #[.agg #[.int .i64 y.cls, .int .i64 y.code, .int .i64 y.cause, .int .i64 y.ctx, .bool y.hide]] w fun e w' => e = .returned (.int .i64 y.ctx) ∧ Le w w' := by
  go_enter Tryd.func87, Tryd.ntmps87
  go_wp2
  go_ret
  exact ⟨rfl, Le.new w _⟩

def lkCtx : Value := .func (.func 87) #[] #[]
def nxCtx (hs : List Flt) (x : Int) : Int := match hs[x.toNat]? with | some y => y.ctx | none => -1
theorem nxCtx_at {hs : List Flt} {i : Nat} (h : i < hs.length) : nxCtx hs (i : Int) = (let y := hs[i]; y.ctx) := by
  unfold nxCtx; rw [Int.toNat_natCast, List.getElem?_eq_getElem h]

def UnwOutCtx (hs : List Flt) (tv hv : Value) (gs : List Nat) (out : List Int) (x : Int) (w : World) (e : Ending) (w' : World) : Prop :=
  Le w w' ∧ (((nxCtx hs x < 0 ∨ nxCtx hs x ∈ out) ∧ e = .returned .nilIface) ∨ (¬ (nxCtx hs x < 0 ∨ nxCtx hs x ∈ out) ∧ ∃ g', e = .returned (.iface 58 (.pointer (some ⟨g', 0, none⟩))) ∧ FCh w' tv hv lkCtx (gs ++ [g']) (out ++ [nxCtx hs x]) ∧ w.heap.size ≤ g'))
set_option maxHeartbeats 2000000 in
set_option maxRecDepth 100000 in
theorem unwrapCtx_any (tv : Value) (H : Option Addr) (m c : Nat) (hs : List Flt) (gs : List Nat) (out : List Int) (j : Nat) (i : Nat) (w : World) (hH : Sl w H m c hs) (hF : FCh w tv (.slice H m c) lkCtx gs out) (hj : gs.length = j + 1)
    (hi : i < hs.length) (hx : out[j]? = some (i : Int)) (hto : TvOk tv) :
    Calls Tryd.prog 68 #[.pointer (some ⟨gs[j], 0, none⟩)] w (UnwOutCtx hs tv (.slice H m c) gs out i w) := by
  obtain rfl := hH.len
  obtain ⟨b, off, rfl, hb, k0, k1, k2, k3, k4, -⟩ := hH.flt_at hi
  have hjg : j < gs.length := by omega
  have hjo : j < out.length := by have := hF.len; omega
  have hxe : out[j] = (i : Int) := by rw [List.getElem?_eq_getElem hjo] at hx; injection hx
  have d0 := hF.c0 hjg
  have d1 := hF.c1 hjg
  have d2 := hF.c2 hjg hjo
  have d3 := hF.c3 hjg
  rw [hxe] at d2
  have hlt := hF.lt j hjg
  have hii : (0 : Int) ≤ (i : Int) ∧ (i : Int) < hs.length := by omega
  have E0 := cell_ext hb k0
  have E1 := cell_ext hb k1
  have E2 := cell_ext hb k2
  have E3 := cell_ext hb k3
  have E4 := cell_ext hb k4
  have E5 := cell_ext hlt d1
  have E6 := cell_ext hlt d2
  have E7 := cell_ext hlt d3
  have hnx : Hid (nxCtx hs (i : Int) = (let y := hs[i]; y.ctx)) := nxCtx_at hi
  have HXE := Lib.hid hxe
  unfold lkCtx at E7
  clear k0 k1 k2 k3 k4 d0 d1 d2 d3 hx hxe
  go_enter Tryd.func68, Tryd.ntmps68
  go_wp2_with fail
  refine wp_region_ext (by kernel_rfl) (by kernel_rfl) ?_
  repeat (go_big_quiet_step (first | (go_at_call 87; exact Calls.ext_of (contextLink_any hs[i] _))))
  refine wpQuiet_nil ?_
  intro _ hw'
  obtain ⟨gg, rfl⟩ := hw'
  have L0 := Le.ext w gg
  clear E0 E1 E2 E3 E4 E5 E6 E7
  generalize w.ext gg = W at *
  rw [← hnx.out]
  have hFW := hF.le L0
  have hyr : ∀ y, nxCtx hs (i : Int) = y → -9223372036854775808 ≤ y ∧ y ≤ 9223372036854775807 := fun y e => by
    have := hH.ok hs[i] (List.getElem_mem hi)
    rw [hnx.out] at e
    subst e
    exact ⟨this.2.2.2.2.2.2.1, this.2.2.2.2.2.2.2⟩
  clear hnx hF hH
  generalize hy : nxCtx hs (i : Int) = y at *
  have HY := Lib.hid hy; clear hy
  obtain ⟨hy0, hy1⟩ := hyr y rfl
  clear hyr
  by_cases hneg : y < 0
  · go_wp2
    go_ret
    refine ⟨L0, .inl ⟨?_, rfl⟩⟩
    rw [HY.out]; exact .inl hneg
  · go_wp2
    go_loop [4] (fun o => ∃ k : Nat, k ≤ gs.length ∧ o = .pointer (upPtr gs k) ∧ ∀ a (h : a < out.length), k ≤ a → out[a] ≠ y) (fun o => blk o)
    case atStart => exact ⟨j + 1, by omega, by rw [upPtr_at hjg], fun a h1 h2 => by have := hFW.len; omega⟩
    case round =>
      obtain ⟨k, hk, rfl, hno⟩ := hrel
      have HNO := Lib.hid hno; clear hno
      cases k with
      | zero =>
        have hnin : ¬ (y < 0 ∨ y ∈ out) := by
          rintro (h | h)
          · omega
          · obtain ⟨a, ha, e⟩ := List.getElem_of_mem h
            exact HNO.out a ha (Nat.zero_le _) e
        have HNI := Lib.hid hnin; clear hnin
        have d0 := hFW.c0 hjg
        have d1 := hFW.c1 hjg
        have d3 := hFW.c3 hjg
        have hltW := hFW.lt j hjg
        obtain ⟨tA, tn, tc, rfl⟩ := hto
        unfold lkCtx at d3
        have hu0 : upPtr gs 0 = none := rfl
        rw [hu0]
        clear hu0
        go_wp2_with fail
        go_region_held3 (fun w' => w'.cell? ⟨gs[j], 0, none⟩ = some (.slice tA tn tc) ∧ w'.cell? ⟨gs[j], 1, none⟩ = some (.slice (some ⟨b, off, none⟩) hs.length c) ∧ w'.cell? ⟨gs[j], 3, none⟩ = some (.func (.func 87) #[] #[]))
          (first | exact ⟨d0, d1, d3⟩ | exact ⟨((Le.new W _).cell hltW).trans d0, ((Le.new W _).cell hltW).trans d1, ((Le.new W _).cell hltW).trans d3⟩) (fail)
        go_wp2
        go_ret
        refine ⟨(L0.alloc _).drew, .inr ⟨by rw [HY.out]; exact HNI.out, W.heap.size, rfl, ?_, L0.size⟩⟩
        rw [HY.out]
        exact FCh.snoc hFW hj ((Le.new W _).drew) (Nat.le_refl _) (heap_alloc_new W _)
      | succ k =>
        have hkg : k < gs.length := by omega
        have hko : k < out.length := by have := hFW.len; omega
        have d2 := hFW.c2 hkg hko
        have d4 := hFW.c4 hkg
        rw [upPtr_at hkg]
        have hblk : blk (.pointer (upPtr gs k)) < blk (.pointer (some ⟨gs[k], 0, none⟩)) := by
          cases k with
          | zero => simp [upPtr, blk]
          | succ k' =>
            rw [upPtr_at (by omega)]
            have := hFW.asc k' (k' + 1) (by omega) hkg (by omega)
            simp [blk]; omega
        have HB := Lib.hid hblk; clear hblk
        by_cases he : out[k] = y
        · have hb1 : (out[k] == y) = true := by simpa using he
          have HI : Hid (y ∈ out) := by show _ ∈ _; rw [← he]; exact List.getElem_mem _
          clear he
          go_wp2
          go_ret
          refine ⟨L0, .inl ⟨?_, rfl⟩⟩
          rw [HY.out]; exact .inr HI.out
        · have hb1 : (out[k] == y) = false := by simpa using he
          have HE := Lib.hid he; clear he
          go_wp2
          go_round
          case rel =>
            refine ⟨k, by omega, rfl, fun a ha hka => ?_⟩
            by_cases e : a = k
            · subst e; exact HE.out
            · exact HNO.out a ha (by omega)
          case measure => exact HB.out
end
end Go.Proofs.YthcolcmgfhkbeaaDoor
