/- one text of FH0, Tx0, Tx1, Tx2, Do, Tx3 -/
import Derived.Test.YthcolcmgfhkbeaaDoorCt1
import Derived.Test.YthcolcmgfhkbeaaDoorCt2
import Derived.Test.YthcolcmgfhkbeaaDoorCt8
import Derived.Test.YthcolcmgfhkbeaaDoorCt11
import Derived.Test.YthcolcmgfhkbeaaDoorCt6
import Derived.Deep.RegionHeld3
namespace Go.Proofs.YthcolcmgfhkbeaaDoor
open Go.RowKit
set_option linter.unusedVariables false
section
section
theorem equalHeap_self (A B : Option Addr) (n c d : Nat) (xs : List Flt) (w : World) (hR : Sl w A n c xs) (hS : Sl w B n d xs) :
    Calls Tryd.prog 11 #[.agg #[.slice A n c], .agg #[.slice B n d]] w fun e w' => e = .returned (.bool true) ∧ Le w w' := by
  obtain rfl := hR.len
  have hm := hR.n_le
  have hb : ((xs.length : Int) != (xs.length : Int)) = false := by simp
  go_enter Tryd.func11, Tryd.ntmps11
  go_wp2
  obtain ⟨c0, z0, c1, z1, L0⟩ := box2 w (.slice A xs.length c) (.slice B xs.length d) 28 28
  have S1 := hR.le L0
  have S2 := hS.le L0
  generalize (w.alloc (.cells #[.slice A xs.length c] 28)).alloc (.cells #[.slice B xs.length d] 28) = W at *
  go_loopw [5] (fun i wr => ∃ k : Nat, k ≤ xs.length ∧ i = .int .i64 k ∧ Le W wr) (fun i _ => xs.length - (intOf i).toNat)
  case atStart => exact ⟨0, Nat.zero_le _, rfl, Le.refl _⟩
  case round =>
    obtain ⟨k, hk, rfl, hle⟩ := hrel
    replace c0 := (hle.cell z0).trans c0
    replace c1 := (hle.cell z1).trans c1
    replace z0 := Nat.lt_of_lt_of_le z0 hle.size
    replace z1 := Nat.lt_of_lt_of_le z1 hle.size
    replace L0 := L0.trans hle
    replace S1 := S1.le hle
    replace S2 := S2.le hle
    by_cases hlt : k < xs.length
    · obtain ⟨b, off, rfl, hb1, k0, k1, k2, k3, k4, _⟩ := S1.flt_at hlt
      obtain ⟨b2, off2, rfl, hb2, d0, d1, d2, d3, d4, _⟩ := S2.flt_at hlt
      have E0 := cell_ext hb1 k0
      have E1 := cell_ext hb1 k1
      have E2 := cell_ext hb1 k2
      have E3 := cell_ext hb1 k3
      have E4 := cell_ext hb1 k4
      have F0 := cell_ext hb2 d0
      have F1 := cell_ext hb2 d1
      have F2 := cell_ext hb2 d2
      have F3 := cell_ext hb2 d3
      have F4 := cell_ext hb2 d4
      have G0 := cell_ext z0 c0
      have G1 := cell_ext z1 c1
      generalize xs[k].cls = v0 at *
      generalize xs[k].code = v1 at *
      generalize xs[k].cause = v2 at *
      generalize xs[k].ctx = v3 at *
      generalize xs[k].hide = v4 at *
      go_wp2_with fail
      refine wp_region_ext (by kernel_rfl) (by kernel_rfl) ?_
      repeat (go_big_quiet_step (fail))
      refine wpQuiet_nil ?_
      intro _ hw'
      obtain ⟨g, rfl⟩ := hw'
      have hw1 := Le.ext wr g
      generalize wr.ext g = W2 at *
      go_wp2
      go_roundw
      case rel => exact ⟨k + 1, by omega, by go_num, hle.trans hw1⟩
      case measure => simp [intOf]; omega
    · go_wp2
      go_ret
      exact ⟨rfl, L0⟩
end

section
theorem goodF_mk {xs : List Cls} {hs : List Flt} {i : Nat} (h : okHeap xs hs = true) (hi : i < hs.length) : goodF xs hs (i : Int) = true := by unfold goodF; rw [h, hasF_iff.2 ⟨by omega, by omega⟩]; rfl

theorem setF_same {hs : List Flt} {f : Nat} (hf : f < hs.length) {g : Int} (h : hs[f].ctx = g) : setF hs (f : Int) (ctxF g) = hs := by
  rw [setF_at hf]
  have : ctxF g hs[f] = hs[f] := by rw [← h]; rfl
  rw [this, List.set_getElem_self]
theorem raised_twice {xs : List Cls} {hs : List Flt} {f g : Nat} (h : okHeap xs hs = true) (hf : f < hs.length) (hg : g < hs.length) : raisedL (raisedL hs (f : Int) (g : Int)) (f : Int) (g : Int) = raisedL hs (f : Int) (g : Int) := by
  by_cases hfg : f = g
  · subst hfg; rw [raisedL_same, raisedL_same]
  have hc := ctxCh_of (goodF_mk h hg)
  have hx := ctx_raised hf hg hfg hc (f : Int) (by omega)
  rw [if_pos rfl] at hx
  have hok := ok_raised h hf hg
  have hl := raisedL_len hs (f : Int) (g : Int)
  generalize hK : raisedL hs (f : Int) (g : Int) = K at *
  have hfK : f < K.length := by omega
  have hgK : g < K.length := by omega
  have hcK := ctxCh_of (goodF_mk hok hgK)
  have hno : ∀ z ∈ chainN (ctxOf K) K.length (g : Int), ctxOf K z ≠ (f : Int) := by
    intro z hz ez
    obtain ⟨j, hj, rfl⟩ := List.getElem_of_mem hz
    obtain ⟨a, ea⟩ := hcK.next j hj (by omega)
    obtain ⟨b, eb⟩ := hcK.next (j + 1) a (by rw [ea, ez, hx]; omega)
    have h0 : (chainN (ctxOf K) K.length (g : Int))[0]'(by omega) = (g : Int) := by
      have := hcK.is.hd
      rw [List.head?_eq_getElem?, List.getElem?_eq_getElem (by omega)] at this
      injection this
    have := Chn.nd_inj hcK.is.nd b (show 0 < _ by omega) (by rw [eb, ea, ez, hx, h0])
    omega
  rw [raisedL_other (by omega)]
  unfold cutL
  rw [cutL_none _ _ hno]
  rw [ctxOf_at hfK] at hx
  exact setF_same hfK hx
theorem chain_raised {xs : List Cls} {hs : List Flt} {f g : Nat} (h : okHeap xs hs = true) (hf : f < hs.length) (hg : g < hs.length) (hfg : f ≠ g) {L : List Int} (hL : chainN (ctxOf hs) hs.length (g : Int) = L) {m : Nat} (hm : m ≤ L.length) (h1 : ∀ j (hj : j < L.length), j < m → L[j] ≠ (f : Int)) (h2 : ∀ hj : m < L.length, L[m] = (f : Int)) :
    chainN (ctxOf (raisedL hs (f : Int) (g : Int))) (raisedL hs (f : Int) (g : Int)).length (f : Int) = (f : Int) :: L.take m := by
  have gh := goodH_of h
  have hc := ctxCh_of (goodF_mk h hg)
  have hx := ctx_raised hf hg hfg hc
  have hb := (raised_end gh.lnk gh.fin hf hg hc).1
  rw [hL] at hc hx
  have hi := chain_is (f := (f : Int)) (n := hs.length) hb (by omega) (by omega)
  rw [raisedL_len]
  generalize raisedL hs (f : Int) (g : Int) = K at *
  have hL0 : 0 < L.length := by rcases Nat.eq_zero_or_pos L.length with h | h; exact absurd (List.eq_nil_of_length_eq_zero h) hc.is.ne; exact h
  have hg0 : L[0] = (g : Int) := by
    have := hc.is.hd
    rw [List.head?_eq_getElem?, List.getElem?_eq_getElem hL0] at this
    injection this
  have hm0 : 0 < m := by
    rcases Nat.eq_zero_or_pos m with e | e
    · subst e; have := h2 hL0; rw [hg0] at this; omega
    · exact e
  have hlen : (L.take m).length = m := by rw [List.length_take]; omega
  have hat : ∀ j (hj : j < m), (L.take m)[j]'(by omega) = L[j]'(by omega) := fun j hj => List.getElem_take ..
  have hxL : ∀ j (hj : j < m), ctxOf K (L[j]'(by omega)) = if ctxOf hs (L[j]'(by omega)) = (f : Int) then -1 else ctxOf hs (L[j]'(by omega)) := by
    intro j hj
    rw [hx _ (hc.rng _ (List.getElem_mem _)).1, if_neg (h1 j (by omega) hj)]
    by_cases e : ctxOf hs (L[j]'(by omega)) = (f : Int)
    · rw [if_pos ⟨List.getElem_mem _, e⟩, if_pos e]
    · rw [if_neg (fun q => e q.2), if_neg e]
  refine hi.uniq ⟨?_, ?_, by simp, rfl, ?_, ?_⟩
  · refine List.nodup_cons.2 ⟨fun hmem => ?_, hc.is.nd.sublist (List.take_sublist m L)⟩
    obtain ⟨j, hj, e⟩ := List.getElem_of_mem hmem
    rw [hlen] at hj
    rw [hat j hj] at e
    exact h1 j (by omega) hj e
  · intro y hy
    rcases List.mem_cons.1 hy with rfl | hy
    · omega
    · exact (hc.rng y (List.mem_of_mem_take hy)).1
  · intro k hk
    cases k with
    | zero =>
      show (L.take m)[0]'(by omega) = ctxOf K (f : Int)
      rw [hat 0 hm0, hg0, hx _ (by omega), if_pos rfl]
    | succ k =>
      have hk' : k + 1 < m := by simp at hk; omega
      show (L.take m)[k + 1]'(by omega) = ctxOf K ((L.take m)[k]'(by omega))
      rw [hat (k + 1) hk', hat k (by omega), hxL k (by omega)]
      have hst := hc.is.st k (by omega)
      rw [if_neg (fun e => h1 (k + 1) (by omega) hk' (by rw [hst]; exact e))]
      exact hst
  · intro y hy
    have hy2 : y = L[m - 1]'(by omega) := by
      rw [List.getLast?_cons, List.getLast?_eq_getElem?, hlen, List.getElem?_eq_getElem (by omega), hat (m - 1) (by omega)] at hy
      simpa using hy.symm
    left
    rw [hy2, hxL (m - 1) (by omega)]
    by_cases e : m < L.length
    · have hst := hc.is.st (m - 1) (by omega)
      have e3 : L[m - 1 + 1]'(by omega) = L[m] := by congr 1; omega
      rw [e3, h2 e] at hst
      rw [if_pos hst.symm]; omega
    · have hl := hc.last (m - 1) (by omega) (by omega)
      rw [if_neg (by omega)]; exact hl
end

section
section
variable {P : Program} {f : FuncId} {args : Array Value} {w : World} {T : TypeId}
theorem Calls.heap2 {hs : List Flt} {x : Value} (h : Calls P f args w fun e w' => ∃ v, e = .returned (.tuple #[.agg #[v], x]) ∧ Owd T w w' v hs ∧ Le w w') : Calls P f args w fun e w' => ∃ A c, e = .returned (.tuple #[.agg #[.slice A hs.length c], x]) ∧ Sl w' A hs.length c hs ∧ Le w w' :=
  h.mono fun _ _ ⟨v, he, ho, hl⟩ => by obtain ⟨A, c, e2, hs, _⟩ := ho.form (by decide); exact ⟨A, c, by rw [he, e2], hs, hl⟩
theorem Calls.heap3 {hs : List Flt} {x y : Value} (h : Calls P f args w fun e w' => ∃ v, e = .returned (.tuple #[.agg #[v], x, y]) ∧ Owd T w w' v hs ∧ Le w w') : Calls P f args w fun e w' => ∃ A c, e = .returned (.tuple #[.agg #[.slice A hs.length c], x, y]) ∧ Sl w' A hs.length c hs ∧ Le w w' :=
  h.mono fun _ _ ⟨v, he, ho, hl⟩ => by obtain ⟨A, c, e2, hs, _⟩ := ho.form (by decide); exact ⟨A, c, by rw [he, e2], hs, hl⟩
theorem Calls.intsH {L : List Int} (h : Calls P f args w fun e w' => ∃ v, e = .returned v ∧ Owd T w w' v L ∧ Le w w') : Calls P f args w fun e w' => ∃ A c, e = .returned (.slice A L.length c) ∧ Sl w' A L.length c L ∧ Le w w' :=
  h.mono fun _ _ ⟨v, he, ho, hl⟩ => by obtain ⟨A, c, e2, hs, _⟩ := ho.form (by decide); exact ⟨A, c, by rw [he, e2], hs, hl⟩
/-- the same list, said otherwise -/
theorem Calls.asL {α : Type} [Enc α] {L M : List α} (e : L = M) (h : Calls P f args w fun e w' => ∃ A c, e = .returned (.slice A L.length c) ∧ Sl w' A L.length c L ∧ Le w w') : Calls P f args w fun e w' => ∃ A c, e = .returned (.slice A M.length c) ∧ Sl w' A M.length c M ∧ Le w w' := by
  subst e; exact h
theorem Calls.asH2 {L M : List Flt} {a b : Bool} (e : L = M) (e2 : a = b) (h : Calls P f args w fun e w' => ∃ A c, e = .returned (.tuple #[.agg #[.slice A L.length c], .bool a]) ∧ Sl w' A L.length c L ∧ Le w w') : Calls P f args w fun e w' => ∃ A c, e = .returned (.tuple #[.agg #[.slice A M.length c], .bool b]) ∧ Sl w' A M.length c M ∧ Le w w' := by
  subst e; subst e2; exact h
end
end
end

section
def digs : ByteArray := ⟨#[48, 49, 50, 51, 52, 53, 54, 55, 56, 57]⟩
def one1 (n : Nat) : ByteArray := digs.extract n (n + 1)
theorem one1_size : ∀ n : Fin 10, (one1 n.1).size ≤ 1 := by decide +kernel
theorem one1_le {n : Nat} (h : n < 10) : (one1 n).size ≤ 1 := one1_size ⟨n, h⟩
def numT (n : Nat) : ByteArray := if n < 10 then one1 n else one1 (n / 10) ++ one1 (n % 10)
theorem numT_size : ∀ n : Fin 100, (numT n.1).size ≤ 2 := by decide +kernel
theorem numT_le {n : Nat} (h : n < 100) : (numT n).size ≤ 2 := numT_size ⟨n, h⟩

set_option maxRecDepth 100000 in
theorem number1_any (n : Nat) (w : World) (h : n < 10) : Calls Tryd.prog 93 #[.int .i64 n] w fun e w' => e = .returned (.string (one1 n)) ∧ w = w' := by
  have hw : IntKind.i64.wrap ((n : Int) + 1) = (n : Int) + 1 := IntWalk.i64_in _ (by omega)
  have h3 : (n : Int) < 10 := by omega
  have h4 : (0 : Int) ≤ (n : Int) := by omega
  have h5 : (n : Int) + 1 ≤ 10 := by omega
  have h6 : (n : Int) ≤ (n : Int) + 1 := by omega
  go_enter Tryd.func93, Tryd.ntmps93
  go_wp2
  go_ret
  exact ⟨rfl, rfl⟩
set_option maxRecDepth 100000 in
theorem number_any (n : Nat) (w : World) (h : n < 100) : Calls Tryd.prog 93 #[.int .i64 n] w fun e w' => e = .returned (.string (numT n)) ∧ w = w' := by
  by_cases h10 : n < 10
  · have e : numT n = one1 n := by unfold numT; rw [if_pos h10]
    rw [e]
    exact number1_any n w h10
  · have e : numT n = one1 (n / 10) ++ one1 (n % 10) := by unfold numT; rw [if_neg h10]
    have HE := Lib.hid e; clear e
    have h3 : ¬ (n : Int) < 10 := by omega
    have hd : decide ((n : Int) < 10) = false := decide_eq_false h3
    have hq : (n : Int) / 10 = ((n / 10 : Nat) : Int) := by omega
    have hr : (n : Int) % 10 = ((n % 10 : Nat) : Int) := by omega
    have z1 : ((one1 (n / 10)).size : Int) ≤ 8388608 := by have := one1_le (n := n / 10) (by omega); omega
    have z2 : ((one1 (n % 10)).size : Int) ≤ 8388608 := by have := one1_le (n := n % 10) (by omega); omega
    have HQE := Lib.hid hq; have HRE := Lib.hid hr
    clear hq hr
    have HQ := Lib.hid (number1_any (n / 10) w (by omega))
    have HR := Lib.hid (number1_any (n % 10) w (by omega))
    go_enter Tryd.func93, Tryd.ntmps93
    go_wp2_with fail
    rw [HQE.out]
    refine HQ.out.mono ?_
    rintro e w' ⟨rfl, rfl⟩
    generalize one1 (n / 10) = u1 at *
    go_wp2_with fail
    rw [HRE.out]
    refine HR.out.mono ?_
    rintro e w' ⟨rfl, rfl⟩
    generalize one1 (n % 10) = u2 at *
    go_wp2
    go_ret
    exact ⟨ret_str HE.out.symm, rfl⟩
def smalls : ByteArray := ⟨#[48, 48, 48, 49, 48, 50, 48, 51, 48, 52, 48, 53, 48, 54, 48, 55, 48, 56, 48, 57, 49, 48, 49, 49, 49, 50, 49, 51, 49, 52, 49, 53, 49, 54, 49, 55, 49, 56, 49, 57, 50, 48, 50, 49, 50, 50, 50, 51, 50, 52, 50, 53, 50, 54, 50, 55, 50, 56, 50, 57, 51, 48, 51, 49, 51, 50, 51, 51, 51, 52, 51, 53, 51, 54, 51, 55, 51, 56, 51, 57, 52, 48, 52, 49, 52, 50, 52, 51, 52, 52, 52, 53, 52, 54, 52, 55, 52, 56, 52, 57, 53, 48, 53, 49, 53, 50, 53, 51, 53, 52, 53, 53, 53, 54, 53, 55, 53, 56, 53, 57, 54, 48, 54, 49, 54, 50, 54, 51, 54, 52, 54, 53, 54, 54, 54, 55, 54, 56, 54, 57, 55, 48, 55, 49, 55, 50, 55, 51, 55, 52, 55, 53, 55, 54, 55, 55, 55, 56, 55, 57, 56, 48, 56, 49, 56, 50, 56, 51, 56, 52, 56, 53, 56, 54, 56, 55, 56, 56, 56, 57, 57, 48, 57, 49, 57, 50, 57, 51, 57, 52, 57, 53, 57, 54, 57, 55, 57, 56, 57, 57]⟩
def digs36 : ByteArray := ⟨#[48, 49, 50, 51, 52, 53, 54, 55, 56, 57, 97, 98, 99, 100, 101, 102, 103, 104, 105, 106, 107, 108, 109, 110, 111, 112, 113, 114, 115, 116, 117, 118, 119, 120, 121, 122]⟩
theorem small_lo : ∀ n : Fin 10, digs36.extract n.1 (n.1 + 1) = numT n.1 := by decide +kernel
theorem small_hi : ∀ n : Fin 100, 10 ≤ n.1 → smalls.extract (n.1 * 2) (n.1 * 2 + 2) = numT n.1 := by decide +kernel
set_option maxRecDepth 100000 in
theorem itoa_any (n : Nat) (w : World) (h : n < 100) : Calls Tryd.prog 66 #[.int .i64 n] w fun e w' => e = .returned (.string (numT n)) ∧ Le w w' := by
  have h3 : (n : Int) < 100 := by omega
  have h4 : (0 : Int) ≤ (n : Int) := by omega
  by_cases h10 : n < 10
  · have e := small_lo ⟨n, h10⟩
    have HE := Lib.hid e; clear e
    have hd : decide ((n : Int) < 10) = true := decide_eq_true (by omega)
    have hw : IntKind.i64.wrap ((n : Int) + 1) = (n : Int) + 1 := IntWalk.i64_in _ (by omega)
    have k1 : (n : Int) ≤ (n : Int) + 1 := by omega
    have k2 : (n : Int) + 1 ≤ 36 := by omega
    have k3 : (n : Int) < 10 := by omega
    go_enter Tryd.func66, Tryd.ntmps66
    go_wp2
    go_ret
    refine ⟨ret_str HE.out, ?_⟩
    first | exact Le.refl _ | exact Le.new _ _ | exact (Le.new _ _).alloc _ | exact ((Le.new _ _).alloc _).alloc _
  · have e := small_hi ⟨n, h⟩ (by show 10 ≤ n; omega)
    have HE := Lib.hid e; clear e
    have hd : decide ((n : Int) < 10) = false := decide_eq_false (by omega)
    have hw : IntKind.i64.wrap ((n : Int) * 2) = (n : Int) * 2 := IntWalk.i64_in _ (by omega)
    have hw2 : IntKind.i64.wrap ((n : Int) * 2 + 2) = (n : Int) * 2 + 2 := IntWalk.i64_in _ (by omega)
    have k1 : (n : Int) * 2 ≤ (n : Int) * 2 + 2 := by omega
    have k2 : (n : Int) * 2 + 2 ≤ 200 := by omega
    have k3 : ¬ (n : Int) < 10 := by omega
    have k4 : (0 : Int) ≤ (n : Int) * 2 := by omega
    go_enter Tryd.func66, Tryd.ntmps66
    go_wp2
    go_ret
    refine ⟨ret_str HE.out, ?_⟩
    first | exact Le.refl _ | exact Le.new _ _ | exact (Le.new _ _).alloc _ | exact ((Le.new _ _).alloc _).alloc _
end

section
def sepG : ByteArray := ⟨#[32, 62, 32]⟩
def sepT : ByteArray := ⟨#[32, 126, 32]⟩
def colT : ByteArray := ⟨#[58]⟩
def fltAt (hs : List Flt) (x : Int) : Flt := hs[x.toNat]?.getD ⟨0, 0, -1, -1, false⟩
theorem fltAt_at {hs : List Flt} {i : Nat} (h : i < hs.length) : fltAt hs (i : Int) = hs[i] := by
  unfold fltAt; rw [Int.toNat_natCast, List.getElem?_eq_getElem h]; rfl
def nameAt (xs : List Cls) (x : Int) : ByteArray := match xs[x.toNat]? with | some c => c.name | none => ByteArray.empty
theorem nameAt_at {xs : List Cls} {i : Nat} (h : i < xs.length) : nameAt xs (i : Int) = xs[i].name := by
  unfold nameAt; rw [Int.toNat_natCast, List.getElem?_eq_getElem h]
/-- the text of a class and a code -/
def ccT (xs : List Cls) (a b : Int) : ByteArray := nameAt xs a ++ colT ++ numT b.toNat
def fT (xs : List Cls) (hs : List Flt) (x : Int) : ByteArray := ccT xs (fltAt hs x).cls (fltAt hs x).code
def lnkT (hs : List Flt) (x : Int) : ByteArray := cond (decide (0 ≤ (fltAt hs x).cause)) sepG sepT
def chT (xs : List Cls) (hs : List Flt) : List Int → ByteArray
  | [] => ByteArray.empty
  | [x] => fT xs hs x
  | x :: y :: r => chT xs hs (y :: r) ++ lnkT hs x ++ fT xs hs x
/-- what stands ahead of the k-th -/
def preT (xs : List Cls) (hs : List Flt) (L : List Int) (k : Nat) : ByteArray :=
  match L.drop (k + 1) with
  | [] => ByteArray.empty
  | y :: r => chT xs hs (y :: r) ++ lnkT hs (L.getD k 0)
theorem chT_drop {xs : List Cls} {hs : List Flt} {L : List Int} {k : Nat} (h : k < L.length) : chT xs hs (L.drop k) = preT xs hs L k ++ fT xs hs L[k] := by
  rw [List.drop_eq_getElem_cons h]
  have e : L.getD k 0 = L[k] := by rw [List.getD_eq_getElem?_getD, List.getElem?_eq_getElem h]; rfl
  unfold preT
  rw [e]
  cases L.drop (k + 1) with
  | nil => simp [chT]
  | cons y r => rfl
theorem preT_last {xs : List Cls} {hs : List Flt} {L : List Int} {k : Nat} (h : k + 1 = L.length) : preT xs hs L k = ByteArray.empty := by
  unfold preT; rw [List.drop_eq_nil_of_le (by omega)]
theorem preT_succ {xs : List Cls} {hs : List Flt} {L : List Int} {k : Nat} (h : k + 1 < L.length) : preT xs hs L k = chT xs hs (L.drop (k + 1)) ++ lnkT hs L[k] := by
  have e : L.getD k 0 = L[k] := by rw [List.getD_eq_getElem?_getD, List.getElem?_eq_getElem (by omega)]; rfl
  unfold preT
  rw [e, List.drop_eq_getElem_cons h]
theorem lnkT_size (hs : List Flt) (x : Int) : (lnkT hs x).size = 3 := by
  unfold lnkT; cases decide (0 ≤ (fltAt hs x).cause) <;> rfl
theorem okName_size {s : ByteArray} (h : okName s = true) : s.size ≤ 6 := by
  unfold okName at h; simp at h; omega
/-- each fault's text is short -/
def Short (xs : List Cls) (hs : List Flt) : Prop := ∀ x : Int, 0 ≤ x → x < hs.length → (fT xs hs x).size ≤ 9
theorem short_of {xs : List Cls} {hs : List Flt} (h : okHeap xs hs = true) : Short xs hs := by
  have g := goodH_of h
  intro x h0 h1
  obtain ⟨i, rfl⟩ := Int.eq_ofNat_of_zero_le h0
  have hi : i < hs.length := by omega
  unfold fT ccT
  rw [fltAt_at hi]
  have hc := g.cls i hi
  have hd := g.code i hi
  obtain ⟨a, ha⟩ := Int.eq_ofNat_of_zero_le hc.1
  rw [ha]
  have hal : a < xs.length := by omega
  rw [nameAt_at hal]
  have hn := okName_size (g.tree.name a hal)
  have hm := numT_le (n := hs[i].code.toNat) (by omega)
  rw [ByteArray.size_append, ByteArray.size_append]
  have : colT.size = 1 := rfl
  omega
theorem chT_size {xs : List Cls} {hs : List Flt} (hsh : Short xs hs) : ∀ (L : List Int), (∀ x ∈ L, 0 ≤ x ∧ x < hs.length) → (chT xs hs L).size ≤ 12 * L.length
  | [], _ => by simp [chT]
  | [x], h => by have := hsh x (h x (by simp)).1 (h x (by simp)).2; simp [chT]; omega
  | x :: y :: r, h => by
    have h1 := chT_size hsh (y :: r) (fun z hz => h z (by simp at hz ⊢; right; exact hz))
    have h2 := hsh x (h x (by simp)).1 (h x (by simp)).2
    have h3 := lnkT_size hs x
    rw [chT, ByteArray.size_append, ByteArray.size_append]
    simp only [List.length_cons] at h1 ⊢
    omega
end

section
set_option maxHeartbeats 2000000 in
set_option maxRecDepth 100000 in
theorem sFaultText_any (A : Option Addr) (n cap : Nat) (xs : List Cls) (a b : Nat) (w : World) (hR : Sl w A n cap xs) (ha : a < xs.length) (hb : b < 100) (hn : xs[a].name.size ≤ 6) :
    Calls Tryd.prog 72 #[.agg #[.slice A n cap], .int .i64 a, .int .i64 b] w fun e w' => e = .returned (.string (ccT xs a b)) ∧ Le w w' := by
  obtain rfl := hR.len
  have HT : Hid (ccT xs a b = xs[a].name ++ colT ++ numT b) := by show _ = _; unfold ccT; rw [nameAt_at ha]; rfl
  have hal : (a : Int) < (xs.length : Int) := by omega
  have hm := numT_le hb
  have HN := fun w => number_any b w hb
  have HNN := Lib.hid HN; clear HN
  obtain ⟨b2, off, rfl, hb2, q0, _, _⟩ := hR.cls_at ha
  generalize xs[a].name = s at *
  have hs1 : (s.size : Int) ≤ 8388608 := by omega
  have hs2 : ((s ++ colT).size : Int) ≤ 8388608 := by rw [ByteArray.size_append]; have : colT.size = 1 := rfl; omega
  have hs3 : ((numT b).size : Int) ≤ 8388608 := by omega
  generalize numT b = u at *
  have hadd1 : ∀ w, (Op.stringOp .add s ⟨#[58]⟩).run Tryd.prog w = .ok (.string (s ++ colT)) w := fun w => run_string_add w s colT hs1 (by decide)
  obtain ⟨y, hy⟩ : ∃ y, s ++ colT = y := ⟨_, rfl⟩
  rw [hy] at hadd1 hs2 HT
  have hadd2 : ∀ w, (Op.stringOp .add y u).run Tryd.prog w = .ok (.string (y ++ u)) w := fun w => run_string_add w y u hs2 hs3
  obtain ⟨x, hx⟩ : ∃ x, y ++ u = x := ⟨_, rfl⟩
  rw [hx] at hadd2 HT
  clear hs1 hs2 hs3 hm hy hx
  obtain ⟨c0, z0, L0⟩ := box1 w (.slice (some ⟨b2, off, none⟩) xs.length cap) 25
  replace q0 := (L0.cell hb2).trans q0
  replace hb2 := Nat.lt_of_lt_of_le hb2 L0.size
  go_enter Tryd.func72, Tryd.ntmps72
  go_wp2_with fail
  generalize w.alloc (.cells #[.slice (some ⟨b2, off, none⟩) xs.length cap] 25) = W at *
  have E0 := cell_ext z0 c0
  have E1 := cell_ext hb2 q0
  refine wp_region_ext (by kernel_rfl) (by kernel_rfl) ?_
  repeat (go_big_quiet_step (first | (go_at_call 93; exact Calls.ext_same (HNN.out _))))
  refine wpQuiet_nil ?_
  intro _ hw'
  obtain ⟨gg, rfl⟩ := hw'
  have L1 := L0.trans (Le.ext W gg)
  generalize W.ext gg = W2 at *
  go_wp2
  go_ret
  exact ⟨ret_str HT.out.symm, L1⟩
end

section
def oldX (xs : List Cls) (hs : List Flt) (f : Int) : Int := cond (goodF xs hs f) ((chainN (shownAt hs) hs.length f).getLastD (-1)) (-1)
theorem oldX_of {xs : List Cls} {hs : List Flt} {f : Int} {t : Bool} (h : goodF xs hs f = t) : oldX xs hs f = cond t ((chainN (shownAt hs) hs.length f).getLastD (-1)) (-1) := by unfold oldX; rw [h]
theorem chain_snoc {nx : Int → Int} {n : Nat} {f : Int} (hb : ∀ x : Int, 0 ≤ x → x < n → nx x < n) (h0 : 0 ≤ f) (h1 : f < n) : ∃ L x, chainN nx n f = L ++ [x] := by
  have h := chain_is hb h0 h1
  exact ⟨_, _, (List.dropLast_concat_getLast h.ne).symm⟩
theorem getLastD_snoc (L : List Int) (x d : Int) : (L ++ [x]).getLastD d = x := by simp [List.getLastD_eq_getLast?]

set_option maxRecDepth 100000 in
theorem sOldestShown_any (A H : Option Addr) (n cap m c : Nat) (xs : List Cls) (hs : List Flt) (f : Int) (w : World) (hR : Sl w A n cap xs) (hH : Sl w H m c hs) (hm : m ≤ 1048576) :
    Calls Tryd.prog 17 #[.agg #[.slice A n cap], .agg #[.slice H m c], .int .i64 f] w fun e w' => e = .returned (.int .i64 (oldX xs hs f)) ∧ Le w w' := by
  go_enter Tryd.func17, Tryd.ntmps17
  go_wp2_with fail
  obtain ⟨c0, z0, c1, z1, L0⟩ := box2 w (.slice A n cap) (.slice H m c) 25 28
  have S0 := hH.le L0
  generalize (w.alloc (.cells #[.slice A n cap] 25)).alloc (.cells #[.slice H m c] 28) = W at *
  refine (goodFault_any A H n cap m c xs hs f W (hR.le L0) S0 (by omega)).mono ?_
  rintro e w1 ⟨rfl, hle⟩
  replace c0 := (hle.cell z0).trans c0
  replace c1 := (hle.cell z1).trans c1
  replace z0 := Nat.lt_of_lt_of_le z0 hle.size
  replace z1 := Nat.lt_of_lt_of_le z1 hle.size
  replace L0 := L0.trans hle
  replace S0 := S0.le hle
  clear hle
  cases ho : goodF xs hs f
  · have HX := Lib.hid (oldX_of ho)
    clear ho
    go_wp2
    go_ret
    exact ⟨ret_int HX.out.symm, L0⟩
  · have HX := Lib.hid (oldX_of ho)
    have hf := goodF_in ho
    have hfew := goodF_few ho
    obtain ⟨L, x, hL⟩ := chain_snoc (shownAt_lt hf.1) hf.2.1 hf.2.2
    have hll := Chn.go_len2 (shownAt_lt hf.1) hf.2.1 hf.2.2
    have HG := Lib.hid hf
    clear ho hf
    rw [hL] at hll
    simp only [List.length_append, List.length_singleton] at hll
    go_wp2_with fail
    refine (sShown_any H m c hs f w1 S0 HG.out.1 HG.out.2.1 HG.out.2.2 (by omega)).mono ?_
    rintro e w2 ⟨v, rfl, D, hle⟩
    rw [hL] at D HX
    obtain ⟨A2, c2, rfl, SV, -⟩ := D.form (by decide)
    simp only [List.length_append, List.length_singleton] at SV ⊢
    have hx : (L ++ [x])[L.length]'(by simp) = x := by simp
    obtain ⟨b, off, rfl, hb, q0, _, _⟩ := SV.int_at (k := L.length) (by simp)
    rw [hx] at q0
    have hw1 : IntKind.i64.wrap ((L.length : Int) + 1 - 1) = (L.length : Int) := by rw [Int.add_sub_cancel]; exact IntWalk.i64_in _ (by omega)
    have hw2 : IntKind.i64.wrap (L.length : Int) = (L.length : Int) := IntWalk.i64_in _ (by omega)
    have hlt : (L.length : Int) < (L.length : Int) + 1 := by omega
    have LL := L0.trans hle
    clear D SV hx hL
    go_wp2
    go_ret
    exact ⟨ret_int (by rw [HX.out]; exact (getLastD_snoc L x (-1)).symm), LL⟩
set_option maxRecDepth 100000 in
theorem iOldestShown_any (A H : Option Addr) (n cap m c : Nat) (xs : List Cls) (hs : List Flt) (f : Int) (w : World) (hR : Sl w A n cap xs) (hH : Sl w H m c hs) (hm : m ≤ 1048576) (hG : GotErr w) :
    Calls Tryd.prog 16 #[.agg #[.slice A n cap], .agg #[.slice H m c], .int .i64 f] w fun e w' => e = .returned (.int .i64 (oldX xs hs f)) ∧ Le w w' := by
  go_enter Tryd.func16, Tryd.ntmps16
  go_wp2_with fail
  obtain ⟨c0, z0, c1, z1, L0⟩ := box2 w (.slice A n cap) (.slice H m c) 25 28
  have S0 := hH.le L0
  generalize (w.alloc (.cells #[.slice A n cap] 25)).alloc (.cells #[.slice H m c] 28) = W at *
  refine (iHasFault_any A H n cap m c xs hs f W (hR.le L0) S0 (by omega)).mono ?_
  rintro e w1 ⟨rfl, hle⟩
  replace c0 := (hle.cell z0).trans c0
  replace c1 := (hle.cell z1).trans c1
  replace z0 := Nat.lt_of_lt_of_le z0 hle.size
  replace z1 := Nat.lt_of_lt_of_le z1 hle.size
  replace L0 := L0.trans hle
  replace S0 := S0.le hle
  clear hle
  cases ho : goodF xs hs f
  · have HX := Lib.hid (oldX_of ho)
    clear ho
    go_wp2
    go_ret
    exact ⟨ret_int HX.out.symm, L0⟩
  · have HX := Lib.hid (oldX_of ho)
    have hf := goodF_in ho
    have hfew := goodF_few ho
    obtain ⟨L, x, hL⟩ := chain_snoc (shownAt_lt hf.1) hf.2.1 hf.2.2
    have hll := Chn.go_len2 (shownAt_lt hf.1) hf.2.1 hf.2.2
    have HG := Lib.hid hf
    obtain ⟨i, rfl, hil⟩ := goodF_at ho
    clear ho hf
    rw [hL] at hll
    simp only [List.length_append, List.length_singleton] at hll
    go_wp2_with fail
    refine (iShown_any A H n cap m c i w1).mono ?_
    rintro e w2 ⟨g, rfl, hg, hgs, hle⟩
    have S2 := S0.le hle
    have L2 := L0.trans hle
    have F2 := FCh.one hg
    clear hg hle
    go_wp2_with fail
    refine (indicesShn_any _ H m c hs g i w2 S2 ⟨_, _, _, rfl⟩ (shownAt_lt HG.out.1) hil (by omega) F2 (hG.le L2)).mono ?_
    rintro e w3 ⟨v, rfl, D, hle⟩
    replace D : Owd 3 w2 w3 v (chainN (shownAt hs) hs.length i) := D
    rw [hL] at D HX
    obtain ⟨A2, c2, rfl, SV, -⟩ := D.form (by decide)
    simp only [List.length_append, List.length_singleton] at SV ⊢
    have hx : (L ++ [x])[L.length]'(by simp) = x := by simp
    obtain ⟨b, off, rfl, hb, q0, _, _⟩ := SV.int_at (k := L.length) (by simp)
    rw [hx] at q0
    have hw1 : IntKind.i64.wrap ((L.length : Int) + 1 - 1) = (L.length : Int) := by rw [Int.add_sub_cancel]; exact IntWalk.i64_in _ (by omega)
    have hw2 : IntKind.i64.wrap (L.length : Int) = (L.length : Int) := IntWalk.i64_in _ (by omega)
    have hlt : (L.length : Int) < (L.length : Int) + 1 := by omega
    have LL := L2.trans hle
    clear D SV hx hL
    go_wp2
    go_ret
    exact ⟨ret_int (by rw [HX.out]; exact (getLastD_snoc L x (-1)).symm), LL⟩
end

section
def outT (xs : List Cls) (hs : List Flt) (L : List Int) : Nat → ByteArray
  | 0 => chT xs hs L
  | k + 1 => preT xs hs L k
theorem outT_len {xs : List Cls} {hs : List Flt} {L : List Int} (h : L ≠ []) : outT xs hs L L.length = ByteArray.empty := by
  cases L with
  | nil => exact absurd rfl h
  | cons a r => exact preT_last rfl
/-- a string and how long it may be, under a name of its own -/
def Txt (s : ByteArray) (T : ByteArray) : Prop := s = T ∧ s.size ≤ 4000

theorem drew_cell {w : World} {a : Addr} {v : Value} (h : w.cell? a = some v) : w.drew.cell? a = some v := h
set_option maxHeartbeats 4000000 in
set_option maxRecDepth 100000 in
theorem schainText_any (A H : Option Addr) (n cap m c : Nat) (xs : List Cls) (hs : List Flt) (f : Int) (w : World) (hR : Sl w A n cap xs) (hH : Sl w H m c hs) (hok : okHeap xs hs = true) (h0 : 0 ≤ f) (h1 : f < hs.length) :
    Calls Tryd.prog 46 #[.agg #[.slice A n cap], .agg #[.slice H m c], .int .i64 f] w fun e w' => e = .returned (.string (chT xs hs (chainN (shownAt hs) hs.length f))) ∧ Le w w' := by
  obtain rfl := hH.len
  have g := goodH_of hok
  have hsh := short_of hok
  have hfew := g.few
  have hb := shownAt_lt g.lnk
  have hch := chain_is hb h0 h1
  have hrng := hch.rngD h1 hb
  have hll := Chn.go_len2 hb h0 h1
  have hsz : ∀ k, (chT xs hs ((chainN (shownAt hs) hs.length f).drop k)).size ≤ 400 := by
    intro k
    have := chT_size hsh ((chainN (shownAt hs) hs.length f).drop k) (fun x hx => hrng x (List.mem_of_mem_drop hx))
    rw [List.length_drop] at this
    omega
  have hne := hch.ne
  have HS := Lib.hid hsz
  have HG := Lib.hid g
  have HRG := Lib.hid hrng
  have HCH := Lib.hid hch
  have HSH := Lib.hid hsh
  clear hsz g hrng hb hch hsh
  go_enter Tryd.func46, Tryd.ntmps46
  go_wp2_with fail
  obtain ⟨c0, z0, c1, z1, L0⟩ := box2 w (.slice A n cap) (.slice H hs.length c) 25 28
  generalize (w.alloc (.cells #[.slice A n cap] 25)).alloc (.cells #[.slice H hs.length c] 28) = W at *
  refine (sShown_any H hs.length c hs f W (hH.le L0) HG.out.lnk h0 h1 (by omega)).mono ?_
  rintro e w2 ⟨v, rfl, D, hle⟩
  replace c0 := (hle.cell z0).trans c0
  replace c1 := (hle.cell z1).trans c1
  replace z0 := Nat.lt_of_lt_of_le z0 hle.size
  replace z1 := Nat.lt_of_lt_of_le z1 hle.size
  replace L0 := L0.trans hle
  clear hle
  obtain ⟨A2, c2, rfl, SV, -⟩ := D.form (by decide)
  generalize hLe : chainN (shownAt hs) hs.length f = L at *
  have HLE := Lib.hid hLe
  have HN := Lib.hid hne
  have HD := Lib.hid SV
  have hwl : IntKind.i64.wrap ((L.length : Int) - 1) = (L.length : Int) - 1 := IntWalk.i64_in _ (by omega)
  clear D SV hne hLe
  go_wp2
  go_loopw [8, 9] (fun q v wr => ∃ (k : Nat) (o : ByteArray), q = .string o ∧ v = .int .i64 ((k : Int) - 1) ∧ k ≤ L.length ∧ Txt o (outT xs hs L k) ∧ Le w2 wr) (fun q v _ => (intOf v + 1).toNat)
  case atStart => exact ⟨L.length, _, rfl, rfl, Nat.le_refl _, ⟨(outT_len HN.out).symm, by decide⟩, Le.refl _⟩
  case round =>
    obtain ⟨k, o, rfl, rfl, hk, ⟨ho, hos⟩, hle⟩ := hrel
    have LW := L0
    replace c0 := (hle.cell z0).trans c0
    replace c1 := (hle.cell z1).trans c1
    replace z0 := Nat.lt_of_lt_of_le z0 hle.size
    replace z1 := Nat.lt_of_lt_of_le z1 hle.size
    replace L0 := L0.trans hle
    have HO := Lib.hid ho
    clear ho
    cases k with
    | zero =>
      have hw0 : ((0 : Nat) : Int) - 1 = -1 := rfl
      rw [hw0]
      go_wp2
      go_ret
      exact ⟨ret_str (HO.out.trans (by rw [HLE.out]; rfl)), L0⟩
    | succ k =>
      have hkl : k < L.length := by omega
      have hwk : ((k + 1 : Nat) : Int) - 1 = (k : Int) := by omega
      rw [hwk]
      obtain ⟨j, hj⟩ := Int.eq_ofNat_of_zero_le (HRG.out L[k] (List.getElem_mem _)).1
      have hjl : j < hs.length := by have := (HRG.out L[k] (List.getElem_mem _)).2; omega
      have S1 := hH.le L0
      have T1 := hR.le L0
      have SL := HD.out.le hle
      obtain ⟨b1, o1, hA2, hb1, q1, _, _⟩ := SL.int_at hkl
      rw [hj] at q1
      subst hA2
      obtain ⟨b, off, rfl, hb, k0, k1, k2, k3, k4, _⟩ := S1.flt_at hjl
      obtain ⟨a, ha⟩ := Int.eq_ofNat_of_zero_le (HG.out.cls j hjl).1
      obtain ⟨d, hd⟩ := Int.eq_ofNat_of_zero_le (HG.out.code j hjl).1
      have hal : a < xs.length := by have := (HG.out.cls j hjl).2; omega
      have hdl : d < 100 := by have := (HG.out.code j hjl).2; omega
      rw [ha] at k0
      rw [hd] at k1
      have hft : fT xs hs L[k] = ccT xs a d := by rw [hj]; unfold fT; rw [fltAt_at hjl, ha, hd]
      have HF := Lib.hid hft
      have hn6 : xs[a].name.size ≤ 6 := okName_size (HG.out.tree.name a hal)
      have hT9 : (ccT xs a d).size ≤ 9 := by rw [← hft]; exact HSH.out _ (HRG.out L[k] (List.getElem_mem _)).1 (HRG.out L[k] (List.getElem_mem _)).2
      have hkI : (0 : Int) ≤ (k : Int) ∧ (k : Int) < L.length := by omega
      have hjI : (0 : Int) ≤ (j : Int) ∧ (j : Int) < hs.length := by omega
      have HJ := Lib.hid hj
      have hcl : (0 : Int) ≤ (a : Int) := by omega
      clear hft ha hd hj
      go_wp2_with fail
      replace c1 := drew_cell c1
      replace q1 := drew_cell q1
      replace k0 := drew_cell k0
      replace k1 := drew_cell k1
      replace k2 := drew_cell k2
      replace k3 := drew_cell k3
      replace k4 := drew_cell k4
      have zz : w.heap.size + 1 < wr.drew.heap.size := z1
      have zb1 : b1 < wr.drew.heap.size := hb1
      have zb : b < wr.drew.heap.size := hb
      go_region_held3 (fun w' => w'.cell? ⟨w.heap.size + 1, 0, none⟩ = some (.slice (some ⟨b, off, none⟩) hs.length c) ∧ w'.cell? ⟨b1, o1 + k, none⟩ = some (.int .i64 j) ∧ w'.cell? ⟨b, off + j * 5, none⟩ = some (.int .i64 a) ∧ w'.cell? ⟨b, off + j * 5 + 1, none⟩ = some (.int .i64 d) ∧ w'.cell? ⟨b, off + j * 5 + 2, none⟩ = some (.int .i64 hs[j].cause) ∧ w'.cell? ⟨b, off + j * 5 + 3, none⟩ = some (.int .i64 hs[j].ctx) ∧ w'.cell? ⟨b, off + j * 5 + 4, none⟩ = some (.bool hs[j].hide))
        (first | exact ⟨c1, q1, k0, k1, k2, k3, k4⟩ | exact ⟨(World.cell?_alloc_past _ _ _ zz).trans c1, (World.cell?_alloc_past _ _ _ zb1).trans q1, (World.cell?_alloc_past _ _ _ zb).trans k0, (World.cell?_alloc_past _ _ _ zb).trans k1, (World.cell?_alloc_past _ _ _ zb).trans k2, (World.cell?_alloc_past _ _ _ zb).trans k3, (World.cell?_alloc_past _ _ _ zb).trans k4⟩)
        (fail)
      have LX := (Le.new wr (.cells #[.int .i64 (a : Int), .int .i64 (d : Int), .int .i64 hs[j].cause, .int .i64 hs[j].ctx, .bool hs[j].hide] 49)).drew
      have x0 : (wr.alloc (.cells #[.int .i64 (a : Int), .int .i64 (d : Int), .int .i64 hs[j].cause, .int .i64 hs[j].ctx, .bool hs[j].hide] 49)).drew.cell? ⟨wr.heap.size, 0, none⟩ = some (.int .i64 a) := by refine drew_cell ?_; rw [World.cell?_alloc_at _ _ _ _ rfl]; rfl
      have x1 : (wr.alloc (.cells #[.int .i64 (a : Int), .int .i64 (d : Int), .int .i64 hs[j].cause, .int .i64 hs[j].ctx, .bool hs[j].hide] 49)).drew.cell? ⟨wr.heap.size, 1, none⟩ = some (.int .i64 d) := by refine drew_cell ?_; rw [World.cell?_alloc_at _ _ _ _ rfl]; rfl
      have zx : wr.heap.size < (wr.alloc (.cells #[.int .i64 (a : Int), .int .i64 (d : Int), .int .i64 hs[j].cause, .int .i64 hs[j].ctx, .bool hs[j].hide] 49)).drew.heap.size := by show _ < (wr.alloc _).heap.size; simp
      rename_i hHH
      clear hHH
      replace c1 : wr.cell? ⟨w.heap.size + 1, 0, none⟩ = some (.slice (some ⟨b, off, none⟩) hs.length c) := c1
      clear k0 k1 k2 k3 k4 q1 zz zb1 zb
      replace c0 := (LX.cell z0).trans c0
      replace c1 := (LX.cell z1).trans c1
      replace z0 := Nat.lt_of_lt_of_le z0 LX.size
      replace z1 := Nat.lt_of_lt_of_le z1 LX.size
      replace L0 := L0.trans LX
      have T2 := T1.le LX
      have S2 := S1.le LX
      have hl2 := hle.trans LX
      have SL2 := SL.le LX
      have HC := sFaultText_any _ n cap xs a d _ T2 hal hdl hn6
      generalize (wr.alloc (.cells #[.int .i64 (a : Int), .int .i64 (d : Int), .int .i64 hs[j].cause, .int .i64 hs[j].ctx, .bool hs[j].hide] 49)).drew = X at *
      clear LX S1 T1 SL hle
      have hT : Hid (chT xs hs (L.drop k) = o ++ ccT xs a d) := by show _ = _; rw [chT_drop hkl, HO.out, HF.out]; rfl
      have hyz := HS.out k
      rw [hT.out] at hyz
      generalize ccT xs a d = T at *
      have hadd1 : ∀ w, (Op.stringOp .add o T).run Tryd.prog w = .ok (.string (o ++ T)) w := fun w => run_string_add w o T (by omega) (by omega)
      obtain ⟨y, hy⟩ : ∃ y, o ++ T = y := ⟨_, rfl⟩
      rw [hy] at hadd1 hyz
      have HY : Hid (chT xs hs (L.drop k) = y) := by show _ = _; rw [hT.out, hy]
      have hg1 : ∀ w, (Op.stringOp .add y ⟨#[32, 62, 32]⟩).run Tryd.prog w = .ok (.string (y ++ sepG)) w := fun w => run_string_add w y sepG (by omega) (by decide)
      have hg2 : ∀ w, (Op.stringOp .add y ⟨#[32, 126, 32]⟩).run Tryd.prog w = .ok (.string (y ++ sepT)) w := fun w => run_string_add w y sepT (by omega) (by decide)
      have hzg : (y ++ sepG).size ≤ 4000 := by rw [ByteArray.size_append]; have : sepG.size = 3 := rfl; omega
      have hzt : (y ++ sepT).size ≤ 4000 := by rw [ByteArray.size_append]; have : sepT.size = 3 := rfl; omega
      have HZG := Lib.hid hzg
      have HZT := Lib.hid hzt
      obtain ⟨yg, hyg⟩ : ∃ yg, y ++ sepG = yg := ⟨_, rfl⟩
      obtain ⟨yt, hyt⟩ : ∃ yt, y ++ sepT = yt := ⟨_, rfl⟩
      rw [hyg] at hg1 HZG
      rw [hyt] at hg2 HZT
      have HYG := Lib.hid hyg
      have HYT := Lib.hid hyt
      have HYZ := Lib.hid hyz
      have HCC := Lib.hid HC
      clear hT hy hyz hzg hzt hyg hyt hos hT9 HF HC
      go_wp2_with fail
      refine HCC.out.mono ?_
      rintro e X7 ⟨rfl, LX⟩
      clear x0 x1 HCC
      replace c0 := (LX.cell z0).trans c0
      replace c1 := (LX.cell z1).trans c1
      replace z0 := Nat.lt_of_lt_of_le z0 LX.size
      replace z1 := Nat.lt_of_lt_of_le z1 LX.size
      replace L0 := L0.trans LX
      replace S2 := S2.le LX
      replace SL2 := SL2.le LX
      replace hl2 := hl2.trans LX
      clear LX T2
      have hwk1 : IntKind.i64.wrap ((k : Int) - 1) = (k : Int) - 1 := IntWalk.i64_in _ (by omega)
      cases k with
      | zero =>
        have hz : ((0 : Nat) : Int) = 0 := rfl
        rw [hz] at hwk1 hkI hwk
        simp only [hz]
        go_wp2_with fail
        refine wp_region_ext (by kernel_rfl) (by kernel_rfl) ?_
        repeat (go_big_quiet_step (fail))
        refine wpQuiet_nil ?_
        intro _ hw'
        obtain ⟨g8, rfl⟩ := hw'
        replace hl2 := hl2.trans (Le.ext X7 g8)
        generalize X7.ext g8 = X8 at *
        go_wp2
        go_roundw
        case rel => exact ⟨0, y, rfl, rfl, by omega, ⟨HY.out.symm.trans rfl, by have := HYZ.out; omega⟩, hl2⟩
        case measure => simp [intOf]
      | succ k' =>
        have hkl' : k' < L.length := by omega
        obtain ⟨j2, hj2⟩ := Int.eq_ofNat_of_zero_le (HRG.out L[k'] (List.getElem_mem _)).1
        have hjl2 : j2 < hs.length := by have := (HRG.out L[k'] (List.getElem_mem _)).2; omega
        obtain ⟨b3, o3, hA3, hb3, q3, _, _⟩ := SL2.int_at hkl'
        injection hA3 with hA3; injection hA3 with hA3 hA4; subst hA3 hA4
        rw [hj2] at q3
        obtain ⟨b4, o4, hA3, hb4, _, _, p2, _, _, _⟩ := S2.flt_at hjl2
        injection hA3 with hA3; injection hA3 with hA3 hA4; subst hA3 hA4
        have hlk : lnkT hs L[k'] = cond (decide (0 ≤ hs[j2].cause)) sepG sepT := by unfold lnkT; rw [hj2, fltAt_at hjl2]
        have HLK := Lib.hid hlk
        have hjI2 : (0 : Int) ≤ (j2 : Int) ∧ (j2 : Int) < hs.length := by omega
        have hkI2 : (0 : Int) ≤ (k' : Int) ∧ (k' : Int) < L.length := by omega
        have hwk2 : ((k' + 1 : Nat) : Int) - 1 = (k' : Int) := by omega
        rw [hwk2] at hwk1
        have hKp : (0 : Int) < ((k' + 1 : Nat) : Int) := by omega
        have HK := Lib.hid hwk2
        generalize hK : ((k' + 1 : Nat) : Int) = K at *
        rw [← HK.out] at hwk1
        have hwk3 : IntKind.i64.wrap (K - 1) = (k' : Int) := by rw [hwk1, HK.out]
        have HKE := Lib.hid hK
        have E0 := cell_ext z1 c1
        have E1 := cell_ext hb3 q3
        have E2 := cell_ext hb4 p2
        clear hwk1 hwk2 hK hlk hj2 hwk
        cases hd : decide (0 ≤ hs[j2].cause)
        all_goals
          rw [hd] at HLK
          go_wp2_with fail
          refine wp_region_ext (by kernel_rfl) (by kernel_rfl) ?_
          repeat (go_big_quiet_step (fail))
          refine wpQuiet_nil ?_
          intro _ hw'
          obtain ⟨g8, rfl⟩ := hw'
          replace hl2 := hl2.trans (Le.ext X7 g8)
          clear E0 E1 E2
          generalize X7.ext g8 = X8 at *
          go_wp2
          go_roundw
          case measure => simp [intOf]; have := HK.out; have := HKE.out; omega
        case rel => exact ⟨k' + 1, yt, rfl, by congr 1; omega, by omega, ⟨by show _ = preT xs hs L k'; rw [preT_succ (by omega), HY.out, HLK.out]; exact HYT.out.symm, HZT.out⟩, hl2⟩
        case rel => exact ⟨k' + 1, yg, rfl, by congr 1; omega, by omega, ⟨by show _ = preT xs hs L k'; rw [preT_succ (by omega), HY.out, HLK.out]; exact HYG.out.symm, HZG.out⟩, hl2⟩

def ctX (xs : List Cls) (hs : List Flt) (f : Int) : ByteArray := cond (goodF xs hs f) (chT xs hs (chainN (shownAt hs) hs.length f)) ByteArray.empty
theorem ctX_of {xs : List Cls} {hs : List Flt} {f : Int} {t : Bool} (h : goodF xs hs f = t) : ctX xs hs f = cond t (chT xs hs (chainN (shownAt hs) hs.length f)) ByteArray.empty := by unfold ctX; rw [h]
theorem goodF_ok {xs : List Cls} {hs : List Flt} {f : Int} (h : goodF xs hs f = true) : okHeap xs hs = true := by
  unfold goodF at h; rw [Bool.and_eq_true] at h; exact h.1

set_option maxRecDepth 100000 in
theorem sChainText_any (A H : Option Addr) (n cap m c : Nat) (xs : List Cls) (hs : List Flt) (f : Int) (w : World) (hR : Sl w A n cap xs) (hH : Sl w H m c hs) (hm : m ≤ 1048576) :
    Calls Tryd.prog 22 #[.agg #[.slice A n cap], .agg #[.slice H m c], .int .i64 f] w fun e w' => e = .returned (.string (ctX xs hs f)) ∧ Le w w' := by
  go_enter Tryd.func22, Tryd.ntmps22
  go_wp2_with fail
  obtain ⟨c0, z0, c1, z1, L0⟩ := box2 w (.slice A n cap) (.slice H m c) 25 28
  have S0 := hH.le L0
  generalize (w.alloc (.cells #[.slice A n cap] 25)).alloc (.cells #[.slice H m c] 28) = W at *
  refine (goodFault_any A H n cap m c xs hs f W (hR.le L0) S0 (by omega)).mono ?_
  rintro e w1 ⟨rfl, hle⟩
  replace c0 := (hle.cell z0).trans c0
  replace c1 := (hle.cell z1).trans c1
  replace z0 := Nat.lt_of_lt_of_le z0 hle.size
  replace z1 := Nat.lt_of_lt_of_le z1 hle.size
  replace L0 := L0.trans hle
  replace S0 := S0.le hle
  clear hle
  cases ho : goodF xs hs f
  · have HX := Lib.hid (ctX_of ho)
    clear ho
    go_wp2
    go_ret
    exact ⟨ret_str HX.out.symm, L0⟩
  · have HX := Lib.hid (ctX_of ho)
    have hf := goodF_in ho
    have HC := Lib.hid (schainText_any A H n cap m c xs hs f w1 (hR.le L0) S0 (goodF_ok ho) hf.2.1 hf.2.2)
    clear ho hf
    go_wp2_with fail
    refine HC.out.mono ?_
    rintro e w2 ⟨rfl, hle⟩
    have LL := L0.trans hle
    clear HC
    go_wp2
    go_ret
    exact ⟨ret_str HX.out.symm, LL⟩
end
end Go.Proofs.YthcolcmgfhkbeaaDoor
