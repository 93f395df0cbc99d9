/- laws: equalHeap of equal heaps -/
/- Plain: what a raise while a fault is handled leaves: once more is the same; the chain of contexts from the one raised -/
/- the laws of chapter 2: words -/
import Derived.Test.YtalcpdjldmgcdaaLD
import Derived.Test.YtalcpdjldmgcdaaKB
import Derived.Test.YtalcpdjldmgcdaaTyFault
import Derived.Test.YtalcpdjldmgcdaaPK
import Derived.Test.YtalcpdjldmgcdaaDHd
import Derived.Test.YtalcpdjldmgcdaaDc
namespace Go.Proofs.Ytalcpdjldmgcdaa
open Go.RowKit
section
theorem equalHeap_self (A B : Option Addr) (n c d : Nat) (xs : List Flt) (w : World) (hR : Sl w A n c xs) (hS : Sl w B n d xs) :
    Calls Try.prog 10 #[.agg #[.slice A n c], .agg #[.slice B n d]] w fun e w' => e = .returned (.bool true) ∧ Le w w' := by
  obtain rfl := hR.len
  have hm := hR.n_le
  have hb : ((xs.length : Int) != (xs.length : Int)) = false := by simp
  go_enter Try.func10, Try.ntmps10
  go_wp2
  obtain ⟨c0, z0, c1, z1, L0⟩ := box2 w (.slice A xs.length c) (.slice B xs.length d) 28 28
  have S1 := hR.le L0
  have S2 := hS.le L0
  generalize (w.alloc (.cells #[.slice A xs.length c] 28)).alloc (.cells #[.slice B xs.length d] 28) = W at *
  go_loopw [5] (fun i wr => ∃ k : Nat, k ≤ xs.length ∧ i = .int .i64 k ∧ Le W wr) (fun i _ => xs.length - (intOf i).toNat)
  case atStart => exact ⟨0, Nat.zero_le _, rfl, Le.refl _⟩
  case round =>
    obtain ⟨k, hk, rfl, hle⟩ := hrel
    replace c0 := (hle.cell z0).trans c0
    replace c1 := (hle.cell z1).trans c1
    replace z0 := Nat.lt_of_lt_of_le z0 hle.size
    replace z1 := Nat.lt_of_lt_of_le z1 hle.size
    replace L0 := L0.trans hle
    replace S1 := S1.le hle
    replace S2 := S2.le hle
    by_cases hlt : k < xs.length
    · obtain ⟨b, off, rfl, hb1, k0, k1, k2, k3, k4, _⟩ := S1.flt_at hlt
      obtain ⟨b2, off2, rfl, hb2, d0, d1, d2, d3, d4, _⟩ := S2.flt_at hlt
      have E0 := cell_ext hb1 k0
      have E1 := cell_ext hb1 k1
      have E2 := cell_ext hb1 k2
      have E3 := cell_ext hb1 k3
      have E4 := cell_ext hb1 k4
      have F0 := cell_ext hb2 d0
      have F1 := cell_ext hb2 d1
      have F2 := cell_ext hb2 d2
      have F3 := cell_ext hb2 d3
      have F4 := cell_ext hb2 d4
      have G0 := cell_ext z0 c0
      have G1 := cell_ext z1 c1
      generalize xs[k].cls = v0 at *
      generalize xs[k].code = v1 at *
      generalize xs[k].cause = v2 at *
      generalize xs[k].ctx = v3 at *
      generalize xs[k].hide = v4 at *
      go_wp2_with fail
      refine wp_region_ext (by kernel_rfl) (by kernel_rfl) ?_
      repeat (go_big_quiet_step (fail))
      refine wpQuiet_nil ?_
      intro _ hw'
      obtain ⟨g, rfl⟩ := hw'
      have hw1 := Le.ext wr g
      generalize wr.ext g = W2 at *
      go_wp2
      go_roundw
      case rel => exact ⟨k + 1, by omega, by go_num, hle.trans hw1⟩
      case measure => simp [intOf]; omega
    · go_wp2
      go_ret
      exact ⟨rfl, L0⟩
end

section
theorem goodF_mk {xs : List Cls} {hs : List Flt} {i : Nat} (h : okHeap xs hs = true) (hi : i < hs.length) : goodF xs hs (i : Int) = true := by unfold goodF; rw [h, hasF_iff.2 ⟨by omega, by omega⟩]; rfl

theorem setF_same {hs : List Flt} {f : Nat} (hf : f < hs.length) {g : Int} (h : hs[f].ctx = g) : setF hs (f : Int) (ctxF g) = hs := by
  rw [setF_at hf]
  have : ctxF g hs[f] = hs[f] := by rw [← h]; rfl
  rw [this, List.set_getElem_self]
theorem raised_twice {xs : List Cls} {hs : List Flt} {f g : Nat} (h : okHeap xs hs = true) (hf : f < hs.length) (hg : g < hs.length) : raisedL (raisedL hs (f : Int) (g : Int)) (f : Int) (g : Int) = raisedL hs (f : Int) (g : Int) := by
  by_cases hfg : f = g
  · subst hfg; rw [raisedL_same, raisedL_same]
  have hc := ctxCh_of (goodF_mk h hg)
  have hx := ctx_raised hf hg hfg hc (f : Int) (by omega)
  rw [if_pos rfl] at hx
  have hok := ok_raised h hf hg
  have hl := raisedL_len hs (f : Int) (g : Int)
  generalize hK : raisedL hs (f : Int) (g : Int) = K at *
  have hfK : f < K.length := by omega
  have hgK : g < K.length := by omega
  have hcK := ctxCh_of (goodF_mk hok hgK)
  have hno : ∀ z ∈ chainN (ctxOf K) K.length (g : Int), ctxOf K z ≠ (f : Int) := by
    intro z hz ez
    obtain ⟨j, hj, rfl⟩ := List.getElem_of_mem hz
    obtain ⟨a, ea⟩ := hcK.next j hj (by omega)
    obtain ⟨b, eb⟩ := hcK.next (j + 1) a (by rw [ea, ez, hx]; omega)
    have h0 : (chainN (ctxOf K) K.length (g : Int))[0]'(by omega) = (g : Int) := by
      have := hcK.is.hd
      rw [List.head?_eq_getElem?, List.getElem?_eq_getElem (by omega)] at this
      injection this
    have := Chn.nd_inj hcK.is.nd b (show 0 < _ by omega) (by rw [eb, ea, ez, hx, h0])
    omega
  rw [raisedL_other (by omega)]
  unfold cutL
  rw [cutL_none _ _ hno]
  rw [ctxOf_at hfK] at hx
  exact setF_same hfK hx
theorem chain_raised {xs : List Cls} {hs : List Flt} {f g : Nat} (h : okHeap xs hs = true) (hf : f < hs.length) (hg : g < hs.length) (hfg : f ≠ g) {L : List Int} (hL : chainN (ctxOf hs) hs.length (g : Int) = L) {m : Nat} (hm : m ≤ L.length) (h1 : ∀ j (hj : j < L.length), j < m → L[j] ≠ (f : Int)) (h2 : ∀ hj : m < L.length, L[m] = (f : Int)) :
    chainN (ctxOf (raisedL hs (f : Int) (g : Int))) (raisedL hs (f : Int) (g : Int)).length (f : Int) = (f : Int) :: L.take m := by
  have gh := goodH_of h
  have hc := ctxCh_of (goodF_mk h hg)
  have hx := ctx_raised hf hg hfg hc
  have hb := (raised_end gh.lnk gh.fin hf hg hc).1
  rw [hL] at hc hx
  have hi := chain_is (f := (f : Int)) (n := hs.length) hb (by omega) (by omega)
  rw [raisedL_len]
  generalize raisedL hs (f : Int) (g : Int) = K at *
  have hL0 : 0 < L.length := by rcases Nat.eq_zero_or_pos L.length with h | h; exact absurd (List.eq_nil_of_length_eq_zero h) hc.is.ne; exact h
  have hg0 : L[0] = (g : Int) := by
    have := hc.is.hd
    rw [List.head?_eq_getElem?, List.getElem?_eq_getElem hL0] at this
    injection this
  have hm0 : 0 < m := by
    rcases Nat.eq_zero_or_pos m with e | e
    · subst e; have := h2 hL0; rw [hg0] at this; omega
    · exact e
  have hlen : (L.take m).length = m := by rw [List.length_take]; omega
  have hat : ∀ j (hj : j < m), (L.take m)[j]'(by omega) = L[j]'(by omega) := fun j hj => List.getElem_take ..
  have hxL : ∀ j (hj : j < m), ctxOf K (L[j]'(by omega)) = if ctxOf hs (L[j]'(by omega)) = (f : Int) then -1 else ctxOf hs (L[j]'(by omega)) := by
    intro j hj
    rw [hx _ (hc.rng _ (List.getElem_mem _)).1, if_neg (h1 j (by omega) hj)]
    by_cases e : ctxOf hs (L[j]'(by omega)) = (f : Int)
    · rw [if_pos ⟨List.getElem_mem _, e⟩, if_pos e]
    · rw [if_neg (fun q => e q.2), if_neg e]
  refine hi.uniq ⟨?_, ?_, by simp, rfl, ?_, ?_⟩
  · refine List.nodup_cons.2 ⟨fun hmem => ?_, hc.is.nd.sublist (List.take_sublist m L)⟩
    obtain ⟨j, hj, e⟩ := List.getElem_of_mem hmem
    rw [hlen] at hj
    rw [hat j hj] at e
    exact h1 j (by omega) hj e
  · intro y hy
    rcases List.mem_cons.1 hy with rfl | hy
    · omega
    · exact (hc.rng y (List.mem_of_mem_take hy)).1
  · intro k hk
    cases k with
    | zero =>
      show (L.take m)[0]'(by omega) = ctxOf K (f : Int)
      rw [hat 0 hm0, hg0, hx _ (by omega), if_pos rfl]
    | succ k =>
      have hk' : k + 1 < m := by simp at hk; omega
      show (L.take m)[k + 1]'(by omega) = ctxOf K ((L.take m)[k]'(by omega))
      rw [hat (k + 1) hk', hat k (by omega), hxL k (by omega)]
      have hst := hc.is.st k (by omega)
      rw [if_neg (fun e => h1 (k + 1) (by omega) hk' (by rw [hst]; exact e))]
      exact hst
  · intro y hy
    have hy2 : y = L[m - 1]'(by omega) := by
      rw [List.getLast?_cons, List.getLast?_eq_getElem?, hlen, List.getElem?_eq_getElem (by omega), hat (m - 1) (by omega)] at hy
      simpa using hy.symm
    left
    rw [hy2, hxL (m - 1) (by omega)]
    by_cases e : m < L.length
    · have hst := hc.is.st (m - 1) (by omega)
      have e3 : L[m - 1 + 1]'(by omega) = L[m] := by congr 1; omega
      rw [e3, h2 e] at hst
      rw [if_pos hst.symm]; omega
    · have hl := hc.last (m - 1) (by omega) (by omega)
      rw [if_neg (by omega)]; exact hl
end

section
section
variable {P : Program} {f : FuncId} {args : Array Value} {w : World} {T : TypeId}
theorem Calls.heap2 {hs : List Flt} {x : Value} (h : Calls P f args w fun e w' => ∃ v, e = .returned (.tuple #[.agg #[v], x]) ∧ Owd T w w' v hs ∧ Le w w') : Calls P f args w fun e w' => ∃ A c, e = .returned (.tuple #[.agg #[.slice A hs.length c], x]) ∧ Sl w' A hs.length c hs ∧ Le w w' :=
  h.mono fun _ _ ⟨v, he, ho, hl⟩ => by obtain ⟨A, c, e2, hs, _⟩ := ho.form (by decide); exact ⟨A, c, by rw [he, e2], hs, hl⟩
theorem Calls.heap3 {hs : List Flt} {x y : Value} (h : Calls P f args w fun e w' => ∃ v, e = .returned (.tuple #[.agg #[v], x, y]) ∧ Owd T w w' v hs ∧ Le w w') : Calls P f args w fun e w' => ∃ A c, e = .returned (.tuple #[.agg #[.slice A hs.length c], x, y]) ∧ Sl w' A hs.length c hs ∧ Le w w' :=
  h.mono fun _ _ ⟨v, he, ho, hl⟩ => by obtain ⟨A, c, e2, hs, _⟩ := ho.form (by decide); exact ⟨A, c, by rw [he, e2], hs, hl⟩
theorem Calls.intsH {L : List Int} (h : Calls P f args w fun e w' => ∃ v, e = .returned v ∧ Owd T w w' v L ∧ Le w w') : Calls P f args w fun e w' => ∃ A c, e = .returned (.slice A L.length c) ∧ Sl w' A L.length c L ∧ Le w w' :=
  h.mono fun _ _ ⟨v, he, ho, hl⟩ => by obtain ⟨A, c, e2, hs, _⟩ := ho.form (by decide); exact ⟨A, c, by rw [he, e2], hs, hl⟩
/-- the same list, said otherwise -/
theorem Calls.asL {α : Type} [Enc α] {L M : List α} (e : L = M) (h : Calls P f args w fun e w' => ∃ A c, e = .returned (.slice A L.length c) ∧ Sl w' A L.length c L ∧ Le w w') : Calls P f args w fun e w' => ∃ A c, e = .returned (.slice A M.length c) ∧ Sl w' A M.length c M ∧ Le w w' := by
  subst e; exact h
theorem Calls.asH2 {L M : List Flt} {a b : Bool} (e : L = M) (e2 : a = b) (h : Calls P f args w fun e w' => ∃ A c, e = .returned (.tuple #[.agg #[.slice A L.length c], .bool a]) ∧ Sl w' A L.length c L ∧ Le w w') : Calls P f args w fun e w' => ∃ A c, e = .returned (.tuple #[.agg #[.slice A M.length c], .bool b]) ∧ Sl w' A M.length c M ∧ Le w w' := by
  subst e; subst e2; exact h
end
end
end Go.Proofs.Ytalcpdjldmgcdaa
