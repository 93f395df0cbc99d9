/- chains of the model and of the program: ContextChain, ShownChain, OldestShown -/
import Derived.Test.YtcagickmennlpaaDoorAiCtx
import Derived.Test.YtcagickmennlpaaDoorAiShn
import Derived.Test.YtcagickmennlpaaDoorHpQ
namespace Go.Proofs.YtcagickmennlpaaDoor
open Go.RowKit

theorem shownAt_lt {hs : List Flt} (lk : Lnk hs) : ∀ x : Int, 0 ≤ x → x < hs.length → shownAt hs x < hs.length := by
  intro x h0 h1
  obtain ⟨i, rfl⟩ := Int.eq_ofNat_of_zero_le h0
  rw [shownAt_at (by omega)]
  have a := lk.cause i (by omega)
  have b := lk.ctx i (by omega)
  unfold shownOf
  cases decide (0 ≤ hs[i].cause)
  · cases hs[i].hide
    · exact b.2
    · show (-1 : Int) < _; omega
  · exact a.2
theorem shownAt_ge {hs : List Flt} (lk : Lnk hs) : ∀ i, i < hs.length → -1 ≤ shownAt hs (i : Int) := by
  intro i h
  rw [shownAt_at h]
  have a := lk.cause i h
  have b := lk.ctx i h
  unfold shownOf
  cases decide (0 ≤ hs[i].cause)
  · cases hs[i].hide
    · exact b.1
    · show (-1 : Int) ≤ -1; omega
  · exact a.1


theorem goodF_in {xs : List Cls} {hs : List Flt} {f : Int} (h : goodF xs hs f = true) : Lnk hs ∧ 0 ≤ f ∧ f < hs.length := by
  unfold goodF at h; rw [Bool.and_eq_true] at h
  have g := goodH_of h.1
  have := hasF_iff.1 h.2
  exact ⟨g.lnk, this.1, this.2⟩
theorem Chn.Is.rngD {nx : Int → Int} {n : Nat} {f : Int} {L : List Int} (h : Chn.Is nx f L) (h1 : f < n) (hb : ∀ x : Int, 0 ≤ x → x < n → nx x < n) : ∀ x ∈ L, 0 ≤ x ∧ x < n := by
  intro x hx
  obtain ⟨k, hk, rfl⟩ := List.getElem_of_mem hx
  refine ⟨h.pos _ hx, ?_⟩
  have : ∀ k (hk : k < L.length), L[k] < n := by
    intro k
    induction k with
    | zero =>
      intro hk
      have a := h.hd
      rw [List.head?_eq_getElem?, List.getElem?_eq_getElem hk] at a
      injection a with a; omega
    | succ k ih =>
      intro hk
      rw [h.st k hk]
      exact hb _ (h.pos _ (List.getElem_mem _)) (ih (by omega))
  exact this k hk
theorem Chn.go_len2 {nx : Int → Int} {n : Nat} {f : Int} (hb : ∀ x : Int, 0 ≤ x → x < n → nx x < n) (h0 : 0 ≤ f) (h1 : f < n) : (chainN nx n f).length ≤ n := by
  have h := chain_is hb h0 h1
  exact Chn.nodup_bound n _ h.nd (h.rngD h1 hb)
def InShnOut (tv hv : Value) (f : Int) (w : World) (e : Ending) (w' : World) : Prop :=
  ∃ g, e = .returned (.pointer (some ⟨g, 0, none⟩)) ∧ w'.heap[g]? = some (.cells #[tv, hv, .int .i64 f, lkShn, .pointer none] 85 (0, 0)) ∧ w.heap.size ≤ g ∧ Le w w'
set_option maxHeartbeats 2000000 in
set_option maxRecDepth 100000 in
theorem iShown_any (A H : Option Addr) (n cap m c : Nat) (f : Int) (w : World) :
    Calls Tryd.prog 47 #[.agg #[.slice A n cap], .agg #[.slice H m c], .int .i64 f] w (InShnOut (.slice A n cap) (.slice H m c) f w) := by
  go_enter Tryd.func47, Tryd.ntmps47
  go_wp2
  obtain ⟨c0, z0, c1, z1, L0⟩ := box2 w (.slice A n cap) (.slice H m c) 25 28
  have HZ : Hid (((w.alloc (.cells #[.slice A n cap] 25)).alloc (.cells #[.slice H m c] 28)).heap.size = w.heap.size + 1 + 1) := by show _ = _; simp
  generalize (w.alloc (.cells #[.slice A n cap] 25)).alloc (.cells #[.slice H m c] 28) = W at *
  go_wp2
  go_ret
  exact ⟨w.heap.size + 1 + 1, rfl, by rw [← HZ.out]; exact heap_alloc_new W _, by omega, L0.alloc _⟩

set_option maxHeartbeats 2000000 in
set_option maxRecDepth 100000 in
theorem sShown_any (H : Option Addr) (n c : Nat) (hs : List Flt) (f : Int) (w : World) (hH : Sl w H n c hs) (lk : Lnk hs) (h0 : 0 ≤ f) (h1 : f < hs.length) (hn : n ≤ 2097152) :
    Calls Tryd.prog 58 #[.agg #[.slice H n c], .int .i64 f] w fun e w' => ∃ v, e = .returned v ∧ Owd 3 w w' v (chainN (shownAt hs) hs.length f) ∧ Le w w' := by
  obtain rfl := hH.len
  obtain ⟨i0, hi, hz0, hz1, hz2⟩ := info_parts intInfoB
  have HLT := Lib.hid (shownAt_lt lk)
  have HLK := Lib.hid (shownAt_ge lk)
  go_enter Tryd.func58, Tryd.ntmps58
  go_wp2
  obtain ⟨c0, z0, L0⟩ := box1 w (.slice H hs.length c) 28
  have HZW : Hid (w.heap.size + 1 = (w.alloc (.cells #[.slice H hs.length c] 28)).heap.size) := by show _ = _; simp
  generalize w.alloc (.cells #[.slice H hs.length c] 28) = W at *
  go_loopw [1, 5] (fun q v wr => ∃ (x : Int) (out : List Int) (m : Nat) (A' : Option Addr) (c' : Nat), q = .int .i64 x ∧ -1 ≤ x ∧ v = .slice A' out.length c' ∧ Chn.Pre (shownAt hs) hs.length f x out ∧ hs.length + 1 ≤ m + out.length ∧ chainN (shownAt hs) hs.length f = Chn.go (shownAt hs) m x out ∧
      wr.ownsRow W.heap.size 3 1 (.slice A' out.length c') out.length (out.flatMap Enc.cells) ∧ Le W wr) (fun q v _ => hs.length + 1 - slLen v)
  case atStart => exact ⟨f, [], hs.length + 1, _, _, rfl, by omega, rfl, Chn.Pre.start h1, by simp, rfl, own_empty (Nat.le_refl _) HZW.out, Le.new _ _⟩
  case round =>
    obtain ⟨x, out, m, A', c', rfl, hx0, rfl, hp, hm, hr, O1, hle⟩ := hrel
    have HP := Lib.hid hp
    have hol := hp.len
    have hxl := hp.lt
    have HR := Lib.hid hr
    have LW := L0
    replace c0 := (hle.cell z0).trans c0
    replace z0 := Nat.lt_of_lt_of_le z0 hle.size
    replace L0 := L0.trans hle
    have S1 := hH.le L0
    have hoko : ∀ y ∈ out, Enc.ok y := fun y hy => by
      have := hp.rng y hy
      exact ⟨by omega, by omega⟩
    have HK := Lib.hid hoko
    have S2 : Sl wr A' out.length c' out := Sl.of_own O1 rfl (by decide) hoko
    clear hp hr hoko
    by_cases hneg : x < 0
    · have HF : Hid (Owd 3 w wr (.slice A' out.length c') (chainN (shownAt hs) hs.length f)) := by
        show Owd _ _ _ _ _
        rw [HR.out, go_stop (.inl hneg)]
        exact ⟨own_mono O1 LW.size, HK.out⟩
      have hd : decide (0 ≤ x) = false := decide_eq_false (by omega)
      go_wp2
      go_ret
      exact ⟨_, rfl, HF.out, L0⟩
    · have hd : decide (0 ≤ x) = true := decide_eq_true (by omega)
      obtain ⟨i, rfl⟩ := Int.eq_ofNat_of_zero_le (by omega : 0 ≤ x)
      have hil : i < hs.length := by omega
      by_cases hin : (i : Int) ∈ out
      · have hh := hasI_iff'.2 hin
        have HF : Hid (Owd 3 w wr (.slice A' out.length c') (chainN (shownAt hs) hs.length f)) := by
          show Owd _ _ _ _ _
          rw [HR.out, go_stop (.inr hin)]
          exact ⟨own_mono O1 LW.size, HK.out⟩
        clear hin
        go_wp2_with fail
        refine (hasInt_any _ _ _ out _ _ S2).mono ?_
        rintro e w' ⟨rfl, rfl⟩
        rw [hh]
        go_wp2
        go_ret
        exact ⟨_, rfl, HF.out, L0⟩
      · have hh := hasI_not hin
        obtain ⟨m', rfl⟩ : ∃ m', m = m' + 1 := ⟨m - 1, by omega⟩
        have HN : Hid (chainN (shownAt hs) hs.length f = Chn.go (shownAt hs) m' (shownAt hs i) (out ++ [(i : Int)])) := by show _ = _; rw [HR.out, go_on (by omega) hin]
        have hpn := HP.out.step (by omega) hin (HLT.out _ (by omega) hxl)
        have HPN := Lib.hid hpn
        have hci := HLK.out i hil
        skip
        have hsz := hle.size
        clear hin hpn HR
        go_wp2_with fail
        refine (hasInt_any _ _ _ out _ _ S2).mono ?_
        rintro e w' ⟨rfl, rfl⟩
        rw [hh]
        clear hh S2
        go_wp2_with (at_builtin; refine wpList_append_own _ rfl _ _ 32 rfl W.heap.size 3 i0 (.int .i64 0) 1 8 Tryd.underlying32 hi hz0 hz1 hz2 rfl (by decide) _ _ _ rfl (O1.alloc _) ⟨wr.heap.size, 0, none⟩ 1 1 [.int .i64 i] rfl rfl (one_newB _ _ _) (by intro u hu; simp at hu; subst hu; rfl) (by unfold maxLen; omega) (by omega) (by simp; omega) ?_; intro v1 w1 hown1 hg1 _; have hle1 := (hle.alloc (.cells #[.int .i64 (i : Int)] 3)).grown hg1 (fun k hk => (O1.lt k hk).1); have hz1' : w.heap.size ≠ W.heap.size := (by have := HZW.out; omega); have L1 := LW.trans hle1; have c1 := hg1.cell ((World.cell?_alloc_past (.cells #[.int .i64 (i : Int)] 3) _ _ z0).trans c0) (fun e => by have h' : W.heap.size ≤ w.heap.size := (O1.lt _ e.symm).1; have := HZW.out; omega))
        obtain ⟨A5, q5, rfl⟩ := own_form hown1
        refine (shownNext_any H hs.length c hs i _ (hH.le L1) hil).mono ?_
        rintro e w5 ⟨rfl, hle5⟩
        have O6 := own_le hown1 hle5
        have c6 := (hle5.cell (Nat.lt_of_lt_of_le (Nat.lt_of_lt_of_le z0 (Le.new wr (.cells #[.int .i64 (i : Int)] 3)).size) hg1.size)).trans c1
        have L6 := hle1.trans hle5
        clear hg1 hown1 c1 hle1 L1
        go_wp2
        go_roundw
        case rel =>
          refine ⟨shownAt hs i, out ++ [(i : Int)], m', A5, q5, rfl, hci, by simp, HPN.out, by simp; omega, HN.out, ?_, L6⟩
          simpa [Enc.cells] using O6
        case measure => simp [slLen]; omega

def chX (xs : List Cls) (hs : List Flt) (f : Int) : List Int := cond (goodF xs hs f) (chainN (ctxOf hs) hs.length f) []
theorem chX_of {xs : List Cls} {hs : List Flt} {f : Int} {t : Bool} (h : goodF xs hs f = t) : chX xs hs f = cond t (chainN (ctxOf hs) hs.length f) [] := by unfold chX; rw [h]
theorem chX_len (xs : List Cls) (hs : List Flt) (f : Int) : (chX xs hs f).length ≤ 1048576 := by
  cases h : goodF xs hs f
  · rw [chX_of h]; simp
  · rw [chX_of h]
    have h1 := goodF_few h
    obtain ⟨lk, h2, h3⟩ := goodF_in h
    have := Chn.go_len2 (Lnk.ctxlt lk) h2 h3
    show (chainN (ctxOf hs) hs.length f).length ≤ _
    omega
set_option maxRecDepth 100000 in
theorem sContextChain_any (A H : Option Addr) (n cap m c : Nat) (xs : List Cls) (hs : List Flt) (f : Int) (w : World) (hR : Sl w A n cap xs) (hH : Sl w H m c hs) (hm : m ≤ 1048576) :
    Calls Tryd.prog 31 #[.agg #[.slice A n cap], .agg #[.slice H m c], .int .i64 f] w fun e w' => ∃ v, e = .returned v ∧ Owd 3 w w' v (chX xs hs f) ∧ Le w w' := by
  go_enter Tryd.func31, Tryd.ntmps31
  go_wp2_with fail
  obtain ⟨c0, z0, c1, z1, L0⟩ := box2 w (.slice A n cap) (.slice H m c) 25 28
  have S0 := hH.le L0
  generalize (w.alloc (.cells #[.slice A n cap] 25)).alloc (.cells #[.slice H m c] 28) = W at *
  refine (goodFault_any A H n cap m c xs hs f W (hR.le L0) S0 (by omega)).mono ?_
  rintro e w1 ⟨rfl, hle⟩
  replace c0 := (hle.cell z0).trans c0
  replace c1 := (hle.cell z1).trans c1
  replace z0 := Nat.lt_of_lt_of_le z0 hle.size
  replace z1 := Nat.lt_of_lt_of_le z1 hle.size
  replace L0 := L0.trans hle
  replace S0 := S0.le hle
  clear hle
  cases ho : goodF xs hs f
  · have HX := Lib.hid (chX_of ho)
    clear ho
    go_wp2
    go_ret
    exact ⟨_, rfl, by rw [HX.out]; exact Owd.nil _ _ _, L0⟩
  · have HX := Lib.hid (chX_of ho)
    have hf := goodF_in ho
    have HG := Lib.hid hf
    clear ho hf
    go_wp2_with fail
    refine (contexts_any H m c hs f w1 S0 HG.out.1 HG.out.2.1 HG.out.2.2 (by omega)).mono ?_
    rintro e w2 ⟨v, rfl, D, hle⟩
    have HD := Lib.hid (D.mono (w00 := w) L0)
    clear D
    go_wp2
    go_ret
    exact ⟨_, rfl, by rw [HX.out]; exact HD.out, L0.trans hle⟩
set_option maxRecDepth 100000 in
theorem iContextChain_any (A H : Option Addr) (n cap m c : Nat) (xs : List Cls) (hs : List Flt) (f : Int) (w : World) (hR : Sl w A n cap xs) (hH : Sl w H m c hs) (hm : m ≤ 1048576) (hG : GotErr w) :
    Calls Tryd.prog 13 #[.agg #[.slice A n cap], .agg #[.slice H m c], .int .i64 f] w fun e w' => ∃ v, e = .returned v ∧ Owd 3 w w' v (chX xs hs f) ∧ Le w w' := by
  go_enter Tryd.func13, Tryd.ntmps13
  go_wp2_with fail
  obtain ⟨c0, z0, c1, z1, L0⟩ := box2 w (.slice A n cap) (.slice H m c) 25 28
  have S0 := hH.le L0
  generalize (w.alloc (.cells #[.slice A n cap] 25)).alloc (.cells #[.slice H m c] 28) = W at *
  refine (iHasFault_any A H n cap m c xs hs f W (hR.le L0) S0 (by omega)).mono ?_
  rintro e w1 ⟨rfl, hle⟩
  replace c0 := (hle.cell z0).trans c0
  replace c1 := (hle.cell z1).trans c1
  replace z0 := Nat.lt_of_lt_of_le z0 hle.size
  replace z1 := Nat.lt_of_lt_of_le z1 hle.size
  replace L0 := L0.trans hle
  replace S0 := S0.le hle
  clear hle
  cases ho : goodF xs hs f
  · have HX := Lib.hid (chX_of ho)
    clear ho
    go_wp2
    go_ret
    exact ⟨_, rfl, by rw [HX.out]; exact Owd.nil _ _ _, L0⟩
  · have HX := Lib.hid (chX_of ho)
    have hf := goodF_in ho
    have hfew := goodF_few ho
    have HG := Lib.hid hf
    obtain ⟨i, rfl, hil⟩ := goodF_at ho
    clear ho hf
    go_wp2_with fail
    refine (inContext_any A H n cap m c i w1).mono ?_
    rintro e w2 ⟨g, rfl, hg, hgs, hle⟩
    have S2 := S0.le hle
    have L2 := L0.trans hle
    have F2 := FCh.one hg
    clear hg hle
    go_wp2_with fail
    refine (indicesCtx_any _ H m c hs g i w2 S2 ⟨_, _, _, rfl⟩ (Lnk.ctxlt HG.out.1) hil (by omega) F2 (hG.le L2)).mono ?_
    rintro e w3 ⟨v, rfl, D, hle⟩
    have HD := Lib.hid (D.mono (w00 := w) L2)
    clear D
    go_wp2
    go_ret
    exact ⟨_, rfl, by rw [HX.out]; exact HD.out, L2.trans hle⟩

def shX (xs : List Cls) (hs : List Flt) (f : Int) : List Int := cond (goodF xs hs f) (chainN (shownAt hs) hs.length f) []
theorem shX_of {xs : List Cls} {hs : List Flt} {f : Int} {t : Bool} (h : goodF xs hs f = t) : shX xs hs f = cond t (chainN (shownAt hs) hs.length f) [] := by unfold shX; rw [h]
theorem shX_len (xs : List Cls) (hs : List Flt) (f : Int) : (shX xs hs f).length ≤ 1048576 := by
  cases h : goodF xs hs f
  · rw [shX_of h]; simp
  · rw [shX_of h]
    have h1 := goodF_few h
    obtain ⟨lk, h2, h3⟩ := goodF_in h
    have := Chn.go_len2 (shownAt_lt lk) h2 h3
    show (chainN (shownAt hs) hs.length f).length ≤ _
    omega
set_option maxRecDepth 100000 in
theorem sShownChain_any (A H : Option Addr) (n cap m c : Nat) (xs : List Cls) (hs : List Flt) (f : Int) (w : World) (hR : Sl w A n cap xs) (hH : Sl w H m c hs) (hm : m ≤ 1048576) :
    Calls Tryd.prog 28 #[.agg #[.slice A n cap], .agg #[.slice H m c], .int .i64 f] w fun e w' => ∃ v, e = .returned v ∧ Owd 3 w w' v (shX xs hs f) ∧ Le w w' := by
  go_enter Tryd.func28, Tryd.ntmps28
  go_wp2_with fail
  obtain ⟨c0, z0, c1, z1, L0⟩ := box2 w (.slice A n cap) (.slice H m c) 25 28
  have S0 := hH.le L0
  generalize (w.alloc (.cells #[.slice A n cap] 25)).alloc (.cells #[.slice H m c] 28) = W at *
  refine (goodFault_any A H n cap m c xs hs f W (hR.le L0) S0 (by omega)).mono ?_
  rintro e w1 ⟨rfl, hle⟩
  replace c0 := (hle.cell z0).trans c0
  replace c1 := (hle.cell z1).trans c1
  replace z0 := Nat.lt_of_lt_of_le z0 hle.size
  replace z1 := Nat.lt_of_lt_of_le z1 hle.size
  replace L0 := L0.trans hle
  replace S0 := S0.le hle
  clear hle
  cases ho : goodF xs hs f
  · have HX := Lib.hid (shX_of ho)
    clear ho
    go_wp2
    go_ret
    exact ⟨_, rfl, by rw [HX.out]; exact Owd.nil _ _ _, L0⟩
  · have HX := Lib.hid (shX_of ho)
    have hf := goodF_in ho
    have HG := Lib.hid hf
    clear ho hf
    go_wp2_with fail
    refine (sShown_any H m c hs f w1 S0 HG.out.1 HG.out.2.1 HG.out.2.2 (by omega)).mono ?_
    rintro e w2 ⟨v, rfl, D, hle⟩
    have HD := Lib.hid (D.mono (w00 := w) L0)
    clear D
    go_wp2
    go_ret
    exact ⟨_, rfl, by rw [HX.out]; exact HD.out, L0.trans hle⟩
set_option maxRecDepth 100000 in
theorem iShownChain_any (A H : Option Addr) (n cap m c : Nat) (xs : List Cls) (hs : List Flt) (f : Int) (w : World) (hR : Sl w A n cap xs) (hH : Sl w H m c hs) (hm : m ≤ 1048576) (hG : GotErr w) :
    Calls Tryd.prog 19 #[.agg #[.slice A n cap], .agg #[.slice H m c], .int .i64 f] w fun e w' => ∃ v, e = .returned v ∧ Owd 3 w w' v (shX xs hs f) ∧ Le w w' := by
  go_enter Tryd.func19, Tryd.ntmps19
  go_wp2_with fail
  obtain ⟨c0, z0, c1, z1, L0⟩ := box2 w (.slice A n cap) (.slice H m c) 25 28
  have S0 := hH.le L0
  generalize (w.alloc (.cells #[.slice A n cap] 25)).alloc (.cells #[.slice H m c] 28) = W at *
  refine (iHasFault_any A H n cap m c xs hs f W (hR.le L0) S0 (by omega)).mono ?_
  rintro e w1 ⟨rfl, hle⟩
  replace c0 := (hle.cell z0).trans c0
  replace c1 := (hle.cell z1).trans c1
  replace z0 := Nat.lt_of_lt_of_le z0 hle.size
  replace z1 := Nat.lt_of_lt_of_le z1 hle.size
  replace L0 := L0.trans hle
  replace S0 := S0.le hle
  clear hle
  cases ho : goodF xs hs f
  · have HX := Lib.hid (shX_of ho)
    clear ho
    go_wp2
    go_ret
    exact ⟨_, rfl, by rw [HX.out]; exact Owd.nil _ _ _, L0⟩
  · have HX := Lib.hid (shX_of ho)
    have hf := goodF_in ho
    have hfew := goodF_few ho
    have HG := Lib.hid hf
    obtain ⟨i, rfl, hil⟩ := goodF_at ho
    clear ho hf
    go_wp2_with fail
    refine (iShown_any A H n cap m c i w1).mono ?_
    rintro e w2 ⟨g, rfl, hg, hgs, hle⟩
    have S2 := S0.le hle
    have L2 := L0.trans hle
    have F2 := FCh.one hg
    clear hg hle
    go_wp2_with fail
    refine (indicesShn_any _ H m c hs g i w2 S2 ⟨_, _, _, rfl⟩ (shownAt_lt HG.out.1) hil (by omega) F2 (hG.le L2)).mono ?_
    rintro e w3 ⟨v, rfl, D, hle⟩
    have HD := Lib.hid (D.mono (w00 := w) L2)
    clear D
    go_wp2
    go_ret
    exact ⟨_, rfl, by rw [HX.out]; exact HD.out, L2.trans hle⟩
end Go.Proofs.YtcagickmennlpaaDoor
