/- what fnJoinHeapsIsolate_walk need of AiCtx, ErShn, AiShn, Dc, PW, HpG, PK, RWs, DHd, FH0, DrJ, Tx0, Tx1, PF, PG, PI, PI2, FJoinHeapsIsolate -/
import Derived.Test.YthcolcmgfhkbeaaAs
import Derived.Test.YthcolcmgfhkbeaaErCtx
import Derived.Test.YthcolcmgfhkbeaaErBk
import Derived.Deep.LoopGhost
import Derived.Deep.RegionHeld3
import Derived.Test.YthcolcmgfhkbeaaHpJ
import Derived.Test.YthcolcmgfhkbeaaHpQ
import Derived.Test.YthcolcmgfhkbeaaHpE
import Derived.Test.YthcolcmgfhkbeaaHpF
import Derived.Test.YthcolcmgfhkbeaaPR
import Derived.Test.YthcolcmgfhkbeaaPJ
import Derived.Test.YthcolcmgfhkbeaaRZ
import Derived.Test.YthcolcmgfhkbeaaT
import Derived.Test.YthcolcmgfhkbeaaLD
import Derived.Test.YthcolcmgfhkbeaaKB
import Derived.Test.YthcolcmgfhkbeaaTyFault
import Derived.Test.YthcolcmgfhkbeaaRD0
import Derived.Test.YthcolcmgfhkbeaaHpT
import Derived.Test.YthcolcmgfhkbeaaRD
namespace Go.Proofs.Ythcolcmgfhkbeaa
open Go.RowKit Go.Maps
theorem goodF_in {xs : List Cls} {hs : List Flt} {f : Int} (h : goodF xs hs f = true) : Lnk hs ∧ 0 ≤ f ∧ f < hs.length := by
  unfold goodF at h; rw [Bool.and_eq_true] at h
  have g := goodH_of h.1
  have := hasF_iff.1 h.2
  exact ⟨g.lnk, this.1, this.2⟩
theorem Chn.Is.rngD {nx : Int → Int} {n : Nat} {f : Int} {L : List Int} (h : Chn.Is nx f L) (h1 : f < n) (hb : ∀ x : Int, 0 ≤ x → x < n → nx x < n) : ∀ x ∈ L, 0 ≤ x ∧ x < n := by
  intro x hx
  obtain ⟨k, hk, rfl⟩ := List.getElem_of_mem hx
  refine ⟨h.pos _ hx, ?_⟩
  have : ∀ k (hk : k < L.length), L[k] < n := by
    intro k
    induction k with
    | zero =>
      intro hk
      have a := h.hd
      rw [List.head?_eq_getElem?, List.getElem?_eq_getElem hk] at a
      injection a with a; omega
    | succ k ih =>
      intro hk
      rw [h.st k hk]
      exact hb _ (h.pos _ (List.getElem_mem _)) (ih (by omega))
  exact this k hk
theorem Chn.go_len2 {nx : Int → Int} {n : Nat} {f : Int} (hb : ∀ x : Int, 0 ≤ x → x < n → nx x < n) (h0 : 0 ≤ f) (h1 : f < n) : (chainN nx n f).length ≤ n := by
  have h := chain_is hb h0 h1
  exact Chn.nodup_bound n _ h.nd (h.rngD h1 hb)
def ctxF (c : Int) (x : Flt) : Flt := ⟨x.cls, x.code, x.cause, c, x.hide⟩
theorem ctxF_ok {c : Int} (hc : -9223372036854775808 ≤ c ∧ c ≤ 9223372036854775807) (x : Flt) (h : Enc.ok x) : Enc.ok (ctxF c x) := ⟨h.1, h.2.1, h.2.2.1, h.2.2.2.1, h.2.2.2.2.1, h.2.2.2.2.2.1, hc.1, hc.2⟩
theorem flat_ctx (hs : List Flt) (i : Nat) (h : i < hs.length) (c : Int) : (hs.flatMap Enc.cells).set (i * 5 + 3) (.int .i64 c) = (setF hs (i : Int) (ctxF c)).flatMap Enc.cells := by
  rw [setF_at h, flat_flt_ctx hs i h c]; rfl
def cutOne (hs : List Flt) (f : Int) (out : List Flt) (x : Int) : List Flt := if ctxOf hs x = f then setF out x (ctxF (-1)) else out
def cutL (hs : List Flt) (f : Int) (L : List Int) : List Flt := L.foldl (cutOne hs f) hs
theorem cutOne_len (hs : List Flt) (f : Int) (out : List Flt) (x : Int) : (cutOne hs f out x).length = out.length := by
  unfold cutOne; split
  · exact setF_len _ _ _
  · rfl
theorem cutL_len (hs : List Flt) (f : Int) : ∀ (L : List Int), (cutL hs f L).length = hs.length := by
  have : ∀ (L : List Int) (out : List Flt), (L.foldl (cutOne hs f) out).length = out.length := by
    intro L
    induction L with
    | nil => intro out; rfl
    | cons x r ih => intro out; rw [List.foldl_cons, ih, cutOne_len]
  exact fun L => this L hs
theorem cutL_none {hs : List Flt} {f : Int} : ∀ (L : List Int) (out : List Flt), (∀ x ∈ L, ctxOf hs x ≠ f) → L.foldl (cutOne hs f) out = out
  | [], out, _ => rfl
  | x :: r, out, h => by
    rw [List.foldl_cons]
    have : cutOne hs f out x = out := by unfold cutOne; rw [if_neg (h x (by simp))]
    rw [this]
    exact cutL_none r out (fun y hy => h y (by simp [hy]))
theorem cutL_here {hs : List Flt} {f : Int} {L : List Int} {k : Nat} (hk : k < L.length) (he : ctxOf hs L[k] = f) (hno : ∀ j (h : j < L.length), j ≠ k → ctxOf hs L[j] ≠ f) : cutL hs f L = setF hs L[k] (ctxF (-1)) := by
  unfold cutL
  have hsplit : L = L.take k ++ (L[k] :: L.drop (k + 1)) := by rw [← List.drop_eq_getElem_cons hk, List.take_append_drop]
  conv => lhs; rw [hsplit]
  rw [List.foldl_append, List.foldl_cons, cutL_none (L.take k) hs ?_, cutL_none _ _ ?_]
  · unfold cutOne; rw [if_pos he]
  · intro x hx
    obtain ⟨j, hj, rfl⟩ := List.getElem_of_mem hx
    rw [List.length_drop] at hj
    rw [List.getElem_drop]
    exact hno _ (by omega) (by omega)
  · intro x hx
    obtain ⟨j, hj, rfl⟩ := List.getElem_of_mem hx
    rw [List.length_take] at hj
    rw [List.getElem_take]
    exact hno _ (by omega) (by omega)
theorem cutOne_ok {hs : List Flt} {f : Int} {out : List Flt} {x : Int} (h : ∀ y ∈ out, Enc.ok y) : ∀ y ∈ cutOne hs f out x, Enc.ok y := by
  unfold cutOne; split
  · exact setF_ok h (ctxF_ok (by omega))
  · exact h
theorem cutL_ok {hs : List Flt} {f : Int} (L : List Int) (h : ∀ y ∈ hs, Enc.ok y) : ∀ y ∈ cutL hs f L, Enc.ok y := by
  have : ∀ (L : List Int) (out : List Flt), (∀ y ∈ out, Enc.ok y) → ∀ y ∈ L.foldl (cutOne hs f) out, Enc.ok y := by
    intro L
    induction L with
    | nil => intro out h; exact h
    | cons x r ih => intro out h; rw [List.foldl_cons]; exact ih _ (cutOne_ok h)
  exact this L hs h
def raisedL (hs : List Flt) (f g : Int) : List Flt := if f = g then hs else setF (cutL hs f (chainN (ctxOf hs) hs.length g)) f (ctxF g)
theorem raisedL_same (hs : List Flt) (f : Int) : raisedL hs f f = hs := by unfold raisedL; rw [if_pos rfl]
theorem raisedL_other {hs : List Flt} {f g : Int} (h : f ≠ g) : raisedL hs f g = setF (cutL hs f (chainN (ctxOf hs) hs.length g)) f (ctxF g) := by unfold raisedL; rw [if_neg h]
theorem raisedL_len (hs : List Flt) (f g : Int) : (raisedL hs f g).length = hs.length := by
  unfold raisedL; split
  · rfl
  · rw [setF_len, cutL_len]
theorem raisedL_ok {hs : List Flt} {f g : Int} (hg : -9223372036854775808 ≤ g ∧ g ≤ 9223372036854775807) (h : ∀ y ∈ hs, Enc.ok y) : ∀ y ∈ raisedL hs f g, Enc.ok y := by
  unfold raisedL; split
  · exact h
  · exact setF_ok (cutL_ok _ h) (ctxF_ok hg)
/-- what the chain of contexts from g keeps to in a valid heap -/
structure CtxCh (hs : List Flt) (g : Int) (L : List Int) : Prop where
  is : Chn.Is (ctxOf hs) g L
  rng : ∀ x ∈ L, 0 ≤ x ∧ x < hs.length
  last : ∀ k (h : k < L.length), k + 1 = L.length → ctxOf hs L[k] < 0
  next : ∀ k (h : k < L.length), 0 ≤ ctxOf hs L[k] → ∃ h2 : k + 1 < L.length, L[k + 1] = ctxOf hs L[k]
  neg : ∀ k (h : k < L.length), ctxOf hs L[k] < 0 → k + 1 = L.length
theorem ctxCh_of {xs : List Cls} {hs : List Flt} {g : Int} (h : goodF xs hs g = true) : CtxCh hs g (chainN (ctxOf hs) hs.length g) := by
  have hg := goodF_in h
  unfold goodF at h; rw [Bool.and_eq_true] at h
  have gh := goodH_of h.1
  have hi := chain_is hg.1.ctxlt hg.2.1 hg.2.2
  generalize chainN (ctxOf hs) hs.length g = L at *
  have hl : ∀ k (h : k < L.length), k + 1 = L.length → ctxOf hs L[k] < 0 := by
    intro k hk e
    refine gh.fin g hg.2.1 hg.2.2 L hi L[k] ?_
    rw [List.getLast?_eq_getElem?, ← e, Nat.add_sub_cancel, List.getElem?_eq_getElem hk]
  refine ⟨hi, hi.rngD hg.2.2 hg.1.ctxlt, hl, fun k hk h0 => ?_, fun k hk h0 => ?_⟩
  · by_cases e : k + 1 = L.length
    · have := hl k hk e; omega
    · exact ⟨by omega, hi.st k (by omega)⟩
  · by_cases e : k + 1 = L.length
    · exact e
    · have h1 := hi.st k (by omega)
      have h2 := hi.pos _ (List.getElem_mem (show k + 1 < L.length by omega))
      omega
/-- at most one of the chain has f as its Context -/
theorem CtxCh.once {hs : List Flt} {g f : Int} {L : List Int} (h : CtxCh hs g L) (hf : 0 ≤ f) {j k : Nat} (hj : j < L.length) (hk : k < L.length) (e1 : ctxOf hs L[j] = f) (e2 : ctxOf hs L[k] = f) : j = k := by
  obtain ⟨a, ea⟩ := h.next j hj (by omega)
  obtain ⟨b, eb⟩ := h.next k hk (by omega)
  have := Chn.nd_inj h.is.nd a b (by rw [ea, eb, e1, e2])
  omega
def mkF (a b : Int) : Flt := ⟨a, b, -1, -1, false⟩
theorem mkF_ok {a b : Int} (ha : -9223372036854775808 ≤ a ∧ a ≤ 9223372036854775807) (hb : -9223372036854775808 ≤ b ∧ b ≤ 9223372036854775807) : Enc.ok (mkF a b) := by
  unfold mkF
  exact ⟨ha.1, ha.2, hb.1, hb.2, by show (-9223372036854775808 : Int) ≤ -1; omega, by show (-1 : Int) ≤ 9223372036854775807; omega, by show (-9223372036854775808 : Int) ≤ -1; omega, by show (-1 : Int) ≤ 9223372036854775807; omega⟩
theorem snocF_ok {hs : List Flt} {a b : Int} (h : ∀ x ∈ hs, Enc.ok x) (ha : -9223372036854775808 ≤ a ∧ a ≤ 9223372036854775807) (hb : -9223372036854775808 ≤ b ∧ b ≤ 9223372036854775807) : ∀ x ∈ hs ++ [mkF a b], Enc.ok x := by
  intro x hx
  rcases List.mem_append.1 hx with hx | hx
  · exact h x hx
  · simp at hx; subst hx; exact mkF_ok ha hb
set_option maxHeartbeats 1000000 in
set_option maxRecDepth 100000 in
theorem added_any (H : Option Addr) (m c : Nat) (hs : List Flt) (a b : Int) (w : World) (hH : Sl w H m c hs) (hm : m ≤ 2097152) (ha : -9223372036854775808 ≤ a ∧ a ≤ 9223372036854775807) (hb : -9223372036854775808 ≤ b ∧ b ≤ 9223372036854775807) :
    Calls Try.prog 23 #[.agg #[.slice H m c], .int .i64 a, .int .i64 b] w fun e w' => ∃ v, e = .returned (.agg #[v]) ∧ Owd 45 w w' v (hs ++ [mkF a b]) ∧ Le w w' := by
  obtain ⟨i0, hi, hz0, hz1, hz2⟩ := info_parts infoCcFault
  have hlen := hH.len
  obtain ⟨c0, z0, c1, z1, L0⟩ := box2 w (.slice H m c) (.slice none 0 0) 28 28
  have f1 : ((w.alloc (.cells #[.slice H m c] 28)).alloc (.cells #[.slice none 0 0] 28)).frozen? ⟨w.heap.size + 1, 0, none⟩ = false := World.frozen?_alloc_at _ _ _ _ (by simp)
  have hs0 : ((w.alloc (.cells #[.slice H m c] 28)).alloc (.cells #[.slice none 0 0] 28)).heap.size = w.heap.size + 1 + 1 := by simp
  have S0 := hH.le L0
  have HOK := Lib.hid (snocF_ok hH.ok ha hb)
  have HK := Lib.hid (mkF_ok ha hb)
  have hl : (hs ++ [mkF a b]).length = m + 1 := by simp [hH.len]
  have HL := Lib.hid hl; clear hl
  go_enter Try.func23, Try.ntmps23
  go_wp2_with fail
  generalize (w.alloc (.cells #[.slice H m c] 28)).alloc (.cells #[.slice none 0 0] 28) = W at *
  refine (sCopyHeap_any H m c hs _ S0 hm).mono ?_
  rintro e w1 ⟨v, rfl, D, hle⟩
  replace c0 := (hle.cell z0).trans c0
  replace c1 := (hle.cell z1).trans c1
  replace f1 := (hle.frozen z1).trans f1
  replace z0 := Nat.lt_of_lt_of_le z0 hle.size
  replace z1 := Nat.lt_of_lt_of_le z1 hle.size
  replace L0 := L0.trans hle
  have s1 := hle.size
  clear hle
  obtain ⟨A1, q1, rfl⟩ := own_form D.row
  have O1 := D.row
  rw [hlen] at O1
  rw [hs0] at O1
  rw [hlen]
  clear D S0
  have hbk := O1.lt
  have c2 : ((w1.alloc (.cells #[.slice A1 m q1] 28)).alloc (.cells #[.int .i64 a, .int .i64 b, .int .i64 (-1), .int .i64 (-1), .bool false] 45)).cell? ⟨w1.heap.size, 0, none⟩ = some (.slice A1 m q1) := by
    rw [World.cell?_alloc_past _ _ _ (by simp), World.cell?_alloc_at _ _ _ _ rfl]; rfl
  have f2 : ((w1.alloc (.cells #[.slice A1 m q1] 28)).alloc (.cells #[.int .i64 a, .int .i64 b, .int .i64 (-1), .int .i64 (-1), .bool false] 45)).frozen? ⟨w1.heap.size, 0, none⟩ = false := by
    rw [((Le.new (w1.alloc (.cells #[.slice A1 m q1] 28)) _).frozen (b := w1.heap.size) (o := 0) (by simp))]; exact World.frozen?_alloc_at _ _ _ _ rfl
  have LL := (Le.new w1 (.cells #[.slice A1 m q1] 28)).alloc (.cells #[.int .i64 a, .int .i64 b, .int .i64 (-1), .int .i64 (-1), .bool false] 45)
  replace c0 := (LL.cell z0).trans c0
  replace c1 := (LL.cell z1).trans c1
  replace f1 := (LL.frozen z1).trans f1
  replace L0 := L0.trans LL
  have s2 := LL.size
  clear LL
  go_wp2_with (at_builtin; refine wpList_append_sl rfl (.tmp 11) (.tmp 15) 26 rfl (w.heap.size + 1 + 1) 45 i0 _ 40 Try.underlying26 hi hz0 hz1 hz2 rfl (.slice A1 m q1) m hs rfl ((O1.alloc _).alloc _) (some ⟨w1.heap.size + 1, 0, none⟩) 1 1 [mkF a b] rfl (sl_one (mkF a b) rfl HK.out (by simp)) (by unfold maxLen; omega) (by omega) (by simp; omega) ?_; intro v2 w2 O2 hg2 hat; replace c0 := (hg2.cell (a := ⟨w.heap.size, 0, none⟩) c0 (fun e => by have h : w.heap.size + 1 + 1 ≤ w.heap.size ∧ _ := hbk _ e.symm; omega)); replace c1 := (hg2.cell (a := ⟨w.heap.size + 1, 0, none⟩) c1 (fun e => by have h : w.heap.size + 1 + 1 ≤ w.heap.size + 1 ∧ _ := hbk _ e.symm; omega)); replace c2 := (hg2.cell (a := ⟨w1.heap.size, 0, none⟩) c2 (fun e => by have h : _ ∧ w1.heap.size < w1.heap.size := hbk _ e.symm; omega)); replace f2 := (World.frozen?_of_block (a := ⟨w1.heap.size, 0, none⟩) (hg2.block w1.heap.size (by simp; omega) (fun e => by have h : _ ∧ w1.heap.size < w1.heap.size := hbk _ e.symm; omega))).trans f2; replace f1 := (World.frozen?_of_block (a := ⟨w.heap.size + 1, 0, none⟩) (hg2.block (w.heap.size + 1) (by simp; omega) (fun e => by have h : w.heap.size + 1 + 1 ≤ w.heap.size + 1 ∧ _ := hbk _ e.symm; omega))).trans f1; replace s2 := Nat.le_trans s2 hg2.size; replace L0 := L0.grown hg2 (fun k hk => by have h := (hbk k hk).1; omega); clear hg2; obtain ⟨A2, q2, rfl⟩ := own_form O2)
  have hne : (Value.slice A2 (m + 1) q2).ownBlock ≠ some w1.heap.size := by
    intro e
    rcases hat with h | h
    · rw [h] at e
      have := (hbk _ e).2; omega
    · rw [h] at e; simp at e; omega
  have O3 := O2.kept (grown_set w2 w1.heap.size 0 (.slice A2 (m + 1) q2)) (.inr hne)
  have c3 : (w2.setCell ⟨w1.heap.size, 0, none⟩ (.slice A2 (m + 1) q2)).cell? ⟨w.heap.size + 1, 0, none⟩ = some (.slice none 0 0) := (cell_set_other (.inl (by omega))).trans c1
  have hend := fun u => cell_set_same (v := u) c3
  have HE := Lib.hid (res_end (r := w.heap.size + 1) (L0.setCell (b := w1.heap.size) (o := 0) (by omega) (.slice A2 (m + 1) q2)) (by omega) (Nat.lt_succ_self _) (by rw [HL.out]; exact O3) HOK.out)
  exact bodyPost_ret (v := .agg #[.slice A2 (m + 1) q2]) (by simp [results, Try.results23, go_sem, hend]) rfl ⟨_, rfl, (HE.out _).1, (HE.out _).2⟩
theorem reach_rng {hs : List Flt} {f x : Int} (h : x ∈ reachL hs f) : 0 ≤ x ∧ x < hs.length := by
  unfold reachL at h
  have := ascOf_mem.1 h
  exact ⟨this.1, this.2.1⟩
theorem setF_hid_at {hs : List Flt} {i k : Nat} (hi : i < hs.length) (hk : k < hs.length) (b : Bool) (h' : k < (setF hs (i : Int) (hidF b)).length) : (setF hs (i : Int) (hidF b))[k] = if i = k then hidF b hs[i] else hs[k] := by
  simp only [setF_at hi, List.getElem_set]
theorem hid_same (hs : List Flt) (i : Nat) (hi : i < hs.length) (b : Bool) (k : Nat) (hk : k < hs.length) (h' : k < (setF hs (i : Int) (hidF b)).length) :
    (setF hs (i : Int) (hidF b))[k].cls = hs[k].cls ∧ (setF hs (i : Int) (hidF b))[k].code = hs[k].code ∧ (setF hs (i : Int) (hidF b))[k].cause = hs[k].cause ∧ (setF hs (i : Int) (hidF b))[k].ctx = hs[k].ctx := by
  rw [setF_hid_at hi hk b h']
  by_cases e : i = k
  · subst e; rw [if_pos rfl]; exact ⟨rfl, rfl, rfl, rfl⟩
  · rw [if_neg e]; exact ⟨rfl, rfl, rfl, rfl⟩
theorem hid_ctx (hs : List Flt) (i : Nat) (hi : i < hs.length) (b : Bool) (x : Int) : ctxOf (setF hs (i : Int) (hidF b)) x = ctxOf hs x := by
  unfold ctxOf
  rcases Nat.lt_or_ge x.toNat hs.length with h | h
  · have h' : x.toNat < (setF hs (i : Int) (hidF b)).length := by rw [setF_len]; exact h
    rw [List.getElem?_eq_getElem h', List.getElem?_eq_getElem h]
    exact (hid_same hs i hi b _ h h').2.2.2
  · rw [List.getElem?_eq_none (by rw [setF_len]; exact h), List.getElem?_eq_none h]
theorem endsAt_congr {hs ks : List Flt} (hl : ks.length = hs.length) (hc : ∀ x, ctxOf ks x = ctxOf hs x) (f : Int) : endsAt ks f = endsAt hs f := by
  have e : ctxOf ks = ctxOf hs := funext hc
  unfold endsAt
  rw [e, hl]
/-- a heap of the same contexts whose faults are fine is valid where the other one is -/
theorem okHeap_turn {xs : List Cls} {hs ks : List Flt} (hl : ks.length = hs.length) (hf : ∀ k (h : k < ks.length), fOk xs ks.length (k : Int) ks[k] = true) (hc : ∀ x, ctxOf ks x = ctxOf hs x) (h : okHeap xs hs = true) : okHeap xs ks = true := by
  unfold okHeap at h ⊢
  simp only [Bool.and_eq_true, decide_eq_true_eq] at h ⊢
  obtain ⟨⟨⟨h1, h2⟩, h3⟩, h4⟩ := h
  refine ⟨⟨⟨?_, ?_⟩, h3⟩, by omega⟩
  · have := allF_mk (n := ks.length) hf ks.length 0 (by omega)
    simpa using this
  · rw [hl, endsF_mem]
    rw [endsF_mem] at h2
    intro i hi1 hi2
    rw [endsAt_congr hl hc]
    exact h2 i hi1 hi2
theorem okHeap_fok {xs : List Cls} {hs : List Flt} (h : okHeap xs hs = true) (i : Nat) (hi : i < hs.length) : fOk xs hs.length (i : Int) hs[i] = true := by
  unfold okHeap at h
  simp only [Bool.and_eq_true] at h
  exact allF_mem (hs := hs) hs.length 0 (by omega) (by simpa using h.1.1.1) i hi (Nat.zero_le _)
theorem ok_hid {xs : List Cls} {hs : List Flt} {i : Nat} (hi : i < hs.length) (b : Bool) (h : okHeap xs hs = true) : okHeap xs (setF hs (i : Int) (hidF b)) = true := by
  refine okHeap_turn (setF_len _ _ _) (fun k hk => ?_) (hid_ctx hs i hi b) h
  have hk' : k < hs.length := by rw [setF_len] at hk; exact hk
  have a := okHeap_fok h k hk'
  obtain ⟨e1, e2, e3, e4⟩ := hid_same hs i hi b k hk' hk
  unfold fOk linksOk at a ⊢
  rw [e1, e2, e3, e4, setF_len]
  exact a
theorem setF_cau_at {hs : List Flt} {i k : Nat} (hi : i < hs.length) (hk : k < hs.length) (c : Int) (h' : k < (setF hs (i : Int) (cauF c)).length) : (setF hs (i : Int) (cauF c))[k] = if i = k then cauF c hs[i] else hs[k] := by
  simp only [setF_at hi, List.getElem_set]
theorem cau_same (hs : List Flt) (i : Nat) (hi : i < hs.length) (c : Int) (k : Nat) (hk : k < hs.length) (h' : k < (setF hs (i : Int) (cauF c)).length) :
    (setF hs (i : Int) (cauF c))[k].cls = hs[k].cls ∧ (setF hs (i : Int) (cauF c))[k].code = hs[k].code ∧ (setF hs (i : Int) (cauF c))[k].ctx = hs[k].ctx ∧ (setF hs (i : Int) (cauF c))[k].cause = if i = k then c else hs[k].cause := by
  rw [setF_cau_at hi hk c h']
  by_cases e : i = k
  · subst e; rw [if_pos rfl, if_pos rfl]; exact ⟨rfl, rfl, rfl, rfl⟩
  · rw [if_neg e, if_neg e]; exact ⟨rfl, rfl, rfl, rfl⟩
theorem cau_ctx (hs : List Flt) (i : Nat) (hi : i < hs.length) (c : Int) (x : Int) : ctxOf (setF hs (i : Int) (cauF c)) x = ctxOf hs x := by
  unfold ctxOf
  rcases Nat.lt_or_ge x.toNat hs.length with h | h
  · have h' : x.toNat < (setF hs (i : Int) (cauF c)).length := by rw [setF_len]; exact h
    rw [List.getElem?_eq_getElem h', List.getElem?_eq_getElem h]
    exact (cau_same hs i hi c _ h h').2.2.1
  · rw [List.getElem?_eq_none (by rw [setF_len]; exact h), List.getElem?_eq_none h]
theorem ok_cau {xs : List Cls} {hs : List Flt} {i : Nat} (hi : i < hs.length) {c : Int} (hc : -1 ≤ c ∧ c < hs.length ∧ c ≠ (i : Int)) (h : okHeap xs hs = true) : okHeap xs (setF hs (i : Int) (cauF c)) = true := by
  refine okHeap_turn (setF_len _ _ _) (fun k hk => ?_) (cau_ctx hs i hi c) h
  have hk' : k < hs.length := by rw [setF_len] at hk; exact hk
  have a := okHeap_fok h k hk'
  obtain ⟨e1, e2, e3, e4⟩ := cau_same hs i hi c k hk' hk
  unfold fOk linksOk at a ⊢
  rw [e1, e2, e3, e4, setF_len]
  by_cases e : i = k
  · subst e
    rw [if_pos rfl]
    simp only [Bool.and_eq_true, bne_iff_ne, rng_iff] at a ⊢
    obtain ⟨⟨a1, a2⟩, ⟨⟨a3, a4⟩, a5⟩, a6⟩ := a
    exact ⟨⟨a1, a2⟩, ⟨⟨⟨hc.1, by omega⟩, a4⟩, hc.2.2⟩, a6⟩
  · rw [if_neg e]; exact a
theorem chain_cons {nx : Int → Int} {n : Nat} (hb : ∀ x : Int, 0 ≤ x → x < n → nx x < n) (he : Chn.allEnd nx n) {x : Int} (h0 : 0 ≤ x) (h1 : x < n) (hn : 0 ≤ nx x) : chainN nx n x = x :: chainN nx n (nx x) := by
  have hM := chain_is hb hn (hb x h0 h1)
  have hx := chain_is hb h0 h1
  have hno := Chn.noBack_of_end he x h0 h1 _ hM
  generalize chainN nx n (nx x) = M at *
  refine hx.uniq ⟨List.nodup_cons.2 ⟨hno, hM.nd⟩, ?_, by simp, rfl, ?_, ?_⟩
  · intro y hy
    rcases List.mem_cons.1 hy with rfl | hy
    · exact h0
    · exact hM.pos y hy
  · intro k hk
    cases k with
    | zero =>
      have a := hM.hd
      rw [List.head?_eq_getElem?, List.getElem?_eq_getElem (by simpa using hk)] at a
      injection a
    | succ k => exact hM.st k (by simpa using hk)
  · intro y hy
    have hy' : M.getLast? = some y := by
      rw [List.getLast?_cons] at hy
      rcases e : M.getLast? with _ | z
      · exact absurd (List.getLast?_eq_none_iff.1 e) hM.ne
      · rw [e] at hy; simpa using hy
    rcases hM.en y hy' with h | h
    · exact .inl h
    · exact .inr (List.mem_cons_of_mem _ h)
theorem allEnd_of_rank {nx : Int → Int} {n : Nat} (hb : ∀ x : Int, 0 ≤ x → x < n → nx x < n) (r : Int → Nat) (hr : ∀ x : Int, 0 ≤ x → x < n → 0 ≤ nx x → r (nx x) < r x) : Chn.allEnd nx n := by
  intro f h0 h1 L hL x hx
  rcases hL.en x hx with h | h
  · exact h
  · rcases Int.lt_or_le (nx x) 0 with hn | hn
    · exact hn
    · exfalso
      have hlt := fun y hy => hL.lt hb h1 y hy
      have dec : ∀ d j, (hj : j + d < L.length) → r L[j + d] ≤ r (L[j]'(by omega)) := by
        intro d
        induction d with
        | zero => intro j hj; exact Nat.le_refl _
        | succ d ih =>
          intro j hj
          have a := ih j (by omega)
          have e := hL.st (j + d) (by omega)
          have p := hL.pos _ (List.getElem_mem (show j + d + 1 < L.length by omega))
          have q := hlt _ (List.getElem_mem (show j + d < L.length by omega))
          rw [e] at p
          have b := hr _ q.1 q.2 p
          rw [← e] at b
          exact Nat.le_of_lt (Nat.lt_of_lt_of_le b a)
      obtain ⟨j, hj, ej⟩ := List.getElem_of_mem h
      have hne : 0 < L.length := by omega
      have el : L[L.length - 1] = x := by
        rw [List.getLast?_eq_getElem?, List.getElem?_eq_getElem (by omega)] at hx
        injection hx
      have hm := hlt x (List.mem_of_getLast? hx)
      have a := hr x hm.1 hm.2 hn
      have b := dec (L.length - 1 - j) j (by omega)
      have e2 : L[j + (L.length - 1 - j)]'(by omega) = x := by
        have : j + (L.length - 1 - j) = L.length - 1 := by omega
        simp only [this]; exact el
      rw [e2, ej] at b
      omega

theorem ctx_setF {hs : List Flt} {i : Nat} (hi : i < hs.length) (c x : Int) (h0 : 0 ≤ x) : ctxOf (setF hs (i : Int) (ctxF c)) x = if x = (i : Int) then c else ctxOf hs x := by
  rw [setF_at hi]
  unfold ctxOf
  rw [List.getElem?_set]
  by_cases e : x = (i : Int)
  · subst e
    rw [if_pos rfl, Int.toNat_natCast, if_pos rfl, if_pos hi]
    rfl
  · rw [if_neg e, if_neg (by omega)]
/-- the contexts behind a raise -/
theorem ctx_raised {hs : List Flt} {f g : Nat} (hf : f < hs.length) (_hg : g < hs.length) (hfg : f ≠ g) (hc : CtxCh hs (g : Int) (chainN (ctxOf hs) hs.length (g : Int))) (x : Int) (h0 : 0 ≤ x) :
    ctxOf (raisedL hs (f : Int) (g : Int)) x = if x = (f : Int) then (g : Int) else if x ∈ chainN (ctxOf hs) hs.length (g : Int) ∧ ctxOf hs x = (f : Int) then -1 else ctxOf hs x := by
  rw [raisedL_other (by omega)]
  generalize chainN (ctxOf hs) hs.length (g : Int) = L at *
  rw [ctx_setF (by rw [cutL_len]; exact hf) _ _ h0]
  by_cases e : x = (f : Int)
  · rw [if_pos e, if_pos e]
  · rw [if_neg e, if_neg e]
    by_cases hex : ∃ k, ∃ h : k < L.length, ctxOf hs L[k] = (f : Int)
    · obtain ⟨k, hk, ek⟩ := hex
      rw [cutL_here hk ek (fun j hj hne ej => hne (hc.once (by omega) hj hk ej ek))]
      obtain ⟨y, hy⟩ := Int.eq_ofNat_of_zero_le (hc.rng _ (List.getElem_mem hk)).1
      have hyl : y < hs.length := by have := (hc.rng _ (List.getElem_mem hk)).2; omega
      rw [hy, ctx_setF hyl _ _ h0]
      by_cases e2 : x = (y : Int)
      · rw [if_pos e2, if_pos]
        rw [e2, ← hy]
        exact ⟨List.getElem_mem _, ek⟩
      · rw [if_neg e2, if_neg]
        rintro ⟨hx, ex⟩
        obtain ⟨j, hj, rfl⟩ := List.getElem_of_mem hx
        have := hc.once (by omega) hj hk ex ek
        subst this
        exact e2 hy
    · have hno : ∀ z ∈ L, ctxOf hs z ≠ (f : Int) := by
        intro z hz ez
        obtain ⟨j, hj, rfl⟩ := List.getElem_of_mem hz
        exact hex ⟨j, hj, ez⟩
      have hcut : cutL hs (f : Int) L = hs := cutL_none L hs hno
      rw [hcut, if_neg]
      rintro ⟨hx, ex⟩
      exact hno x hx ex
theorem raised_end {hs : List Flt} (lk : Lnk hs) (he : Chn.allEnd (ctxOf hs) hs.length) {f g : Nat} (hf : f < hs.length) (hg : g < hs.length) (hc : CtxCh hs (g : Int) (chainN (ctxOf hs) hs.length (g : Int))) :
    (∀ x : Int, 0 ≤ x → x < hs.length → ctxOf (raisedL hs (f : Int) (g : Int)) x < hs.length) ∧ Chn.allEnd (ctxOf (raisedL hs (f : Int) (g : Int))) hs.length := by
  by_cases hfg : f = g
  · subst hfg; rw [raisedL_same]; exact ⟨lk.ctxlt, he⟩
  · have hcx := ctx_raised hf hg hfg hc
    have hb : ∀ x : Int, 0 ≤ x → x < hs.length → ctxOf (raisedL hs (f : Int) (g : Int)) x < hs.length := by
      intro x h0 h1
      rw [hcx x h0]
      have := lk.ctxlt x h0 h1
      split
      · omega
      · split <;> omega
    refine ⟨hb, ?_⟩
    have hgL : (g : Int) ∈ chainN (ctxOf hs) hs.length (g : Int) := List.mem_of_head? hc.is.hd
    generalize hLL : chainN (ctxOf hs) hs.length (g : Int) = L at *
    refine allEnd_of_rank hb (fun x => (chainN (ctxOf hs) hs.length x).length + (if (f : Int) ∈ chainN (ctxOf hs) hs.length x ∧ ¬ (x ∈ L ∧ x ≠ (f : Int)) then hs.length + 1 else 0)) ?_
    intro x h0 h1 hn
    rw [hcx x h0] at hn
    show (chainN (ctxOf hs) hs.length (ctxOf (raisedL hs (f : Int) (g : Int)) x)).length + _ < _
    rw [hcx x h0]
    by_cases e : x = (f : Int)
    · subst e
      rw [if_pos rfl]
      have a : (chainN (ctxOf hs) hs.length (g : Int)).length ≤ hs.length := Chn.go_len2 lk.ctxlt (by omega) (by omega)
      have hff : (f : Int) ∈ chainN (ctxOf hs) hs.length (f : Int) := List.mem_of_head? (chain_is lk.ctxlt h0 h1).hd
      rw [if_neg (by rintro ⟨_, h⟩; exact h ⟨hgL, by omega⟩), if_pos ⟨hff, by rintro ⟨_, h⟩; exact h rfl⟩]
      omega
    · rw [if_neg e] at hn ⊢
      by_cases hcut : x ∈ L ∧ ctxOf hs x = (f : Int)
      · rw [if_pos hcut] at hn; omega
      · rw [if_neg hcut] at hn ⊢
        have hcc := chain_cons lk.ctxlt he h0 h1 hn
        rw [hcc, List.length_cons]
        by_cases hp : (f : Int) ∈ chainN (ctxOf hs) hs.length (ctxOf hs x) ∧ ¬ (ctxOf hs x ∈ L ∧ ctxOf hs x ≠ (f : Int))
        · rw [if_pos hp, if_pos]
          · omega
          · refine ⟨List.mem_cons_of_mem _ hp.1, ?_⟩
            rintro ⟨hxL, _⟩
            obtain ⟨k, hk, rfl⟩ := List.getElem_of_mem hxL
            obtain ⟨h2, e2⟩ := hc.next k hk hn
            refine hp.2 ⟨by rw [← e2]; exact List.getElem_mem _, fun ef => hcut ⟨hxL, ef⟩⟩
        · rw [if_neg hp]
          omega
def T8 : List Cls := [⟨⟨#[97]⟩, -1⟩, ⟨⟨#[98]⟩, 0⟩, ⟨⟨#[99]⟩, 0⟩, ⟨⟨#[100]⟩, 0⟩, ⟨⟨#[101]⟩, 0⟩, ⟨⟨#[102]⟩, 0⟩, ⟨⟨#[103]⟩, 0⟩, ⟨⟨#[104]⟩, 0⟩]
theorem ok_T8 : okTree T8 = true := by decide +kernel
theorem hasK_T8 {a : Int} (h0 : 0 ≤ a) (h1 : a < 8) : hasK T8 a = true := hasK_iff.2 ⟨h0, h1⟩
theorem ok_nil : okHeap T8 [] = true := by
  refine okHeap_mk (fun i h => absurd h (by simp)) (fun _ f h0 h1 => absurd h1 (by simp; omega)) ok_T8 (by simp)
theorem ok_one {a b : Int} (ha : 0 ≤ a ∧ a < 8) (hb : 0 ≤ b ∧ b ≤ 99) : okHeap T8 [mkF a b] = true := by
  refine okHeap_mk (fun i h => ?_) (fun _ => ?_) ok_T8 (by simp)
  · have e : i = 0 := by simpa using h
    subst e
    exact fOk_parts.2 ⟨hasK_T8 ha.1 ha.2, hb, ⟨by show (-1 : Int) ≤ -1; omega, by show (-1 : Int) ≤ _; simp⟩, ⟨by show (-1 : Int) ≤ -1; omega, by show (-1 : Int) ≤ _; simp⟩, by show (-1 : Int) ≠ 0; omega, by show (-1 : Int) ≠ 0; omega⟩
  · refine allEnd_of_rank (fun x h0 h1 => ?_) (fun _ => 0) (fun x h0 h1 hn => ?_)
    · have e : x = ((0 : Nat) : Int) := by simp at h1; omega
      subst e
      rw [ctxOf_at (by simp)]; show (-1 : Int) < _; simp
    · have e : x = ((0 : Nat) : Int) := by simp at h1; omega
      subst e
      rw [ctxOf_at (by simp)] at hn; exact absurd hn (by show ¬ (0 : Int) ≤ -1; omega)
theorem ok_snoc {hs : List Flt} {a b : Int} (h : okHeap T8 hs = true) (ha : 0 ≤ a ∧ a < 8) (hb : 0 ≤ b ∧ b ≤ 99) (hl : hs.length < 24) : okHeap T8 (hs ++ [mkF a b]) = true := by
  have := join_ok h (ok_one ha hb)
  have e : joinL hs [mkF a b] = hs ++ [mkF a b] := rfl
  rw [e, decide_eq_true (by simp; omega)] at this
  exact this
/-- all but the context -/
def bare (x : Flt) : Flt := ctxF 0 x
theorem bare_setF (hs : List Flt) (f c : Int) : (setF hs f (ctxF c)).map bare = hs.map bare := by
  unfold setF
  split
  · next x e =>
    obtain ⟨h, e2⟩ := List.getElem?_eq_some_iff.1 e
    rw [List.map_set]
    have : bare (ctxF c x) = (hs.map bare)[f.toNat]'(by rw [List.length_map]; exact h) := by rw [List.getElem_map, e2]; rfl
    rw [this, List.set_getElem_self]
  · rfl
theorem bare_cut (hs : List Flt) (f : Int) : ∀ (L : List Int) (out : List Flt), (L.foldl (cutOne hs f) out).map bare = out.map bare
  | [], out => rfl
  | x :: r, out => by
    rw [List.foldl_cons, bare_cut hs f r]
    unfold cutOne
    split
    · exact bare_setF _ _ _
    · rfl
theorem bare_raised (hs : List Flt) (f g : Int) : (raisedL hs f g).map bare = hs.map bare := by
  unfold raisedL
  split
  · rfl
  · rw [bare_setF]; exact bare_cut hs f _ hs
theorem raised_at (hs : List Flt) (f g : Int) (i : Nat) (h : i < (raisedL hs f g).length) (h2 : i < hs.length) : (raisedL hs f g)[i].cls = hs[i].cls ∧ (raisedL hs f g)[i].code = hs[i].code ∧ (raisedL hs f g)[i].cause = hs[i].cause ∧ (raisedL hs f g)[i].hide = hs[i].hide := by
  have e : bare (raisedL hs f g)[i] = bare hs[i] := by
    have h3 : ((raisedL hs f g).map bare)[i]? = (hs.map bare)[i]? := by rw [bare_raised]
    rw [List.getElem?_map, List.getElem?_map, List.getElem?_eq_getElem h, List.getElem?_eq_getElem h2] at h3
    simpa using h3
  unfold bare ctxF at e
  injection e with e1 e2 e3 e4 e5
  exact ⟨e1, e2, e3, e5⟩
theorem ok_raised {xs : List Cls} {hs : List Flt} {f g : Nat} (h : okHeap xs hs = true) (hf : f < hs.length) (hg : g < hs.length) : okHeap xs (raisedL hs (f : Int) (g : Int)) = true := by
  by_cases hfg : f = g
  · subst hfg; rw [raisedL_same]; exact h
  have gh := goodH_of h
  have hgg : goodF xs hs (g : Int) = true := by unfold goodF; rw [h, hasF_iff.2 ⟨by omega, by omega⟩]; rfl
  have hc := ctxCh_of hgg
  have hx := ctx_raised hf hg hfg hc
  refine okHeap_mk (fun i hi => ?_) (fun _ => ?_) (okHeap_fall h).2.2.1 (by rw [raisedL_len]; exact gh.few)
  · have hi2 : i < hs.length := by rw [raisedL_len] at hi; exact hi
    have a := fOk_parts.1 (okHeap_at h i hi2)
    obtain ⟨e1, e2, e3, _⟩ := raised_at hs f g i hi hi2
    have ex := hx (i : Int) (by omega)
    rw [ctxOf_at hi, ctxOf_at hi2] at ex
    rw [fOk_parts, e1, e2, e3, raisedL_len]
    refine ⟨a.1, a.2.1, a.2.2.1, ?_, a.2.2.2.2.1, ?_⟩
    · rw [ex]
      have := a.2.2.2.1
      split
      · omega
      · split <;> omega
    · rw [ex]
      have := a.2.2.2.2.2
      split
      · omega
      · split <;> omega
  · rw [raisedL_len]; exact (raised_end gh.lnk gh.fin hf hg hc).2
theorem ok_enc {hs : List Flt} (h : okHeap T8 hs = true) : ∀ x ∈ hs, Enc.ok x := by
  intro x hx
  obtain ⟨i, hi, rfl⟩ := List.getElem_of_mem hx
  have gh := goodH_of h
  have a := gh.cls i hi
  have b := gh.code i hi
  have c := gh.lnk.cause i hi
  have d := gh.lnk.ctx i hi
  have e := gh.few
  have f : T8.length = 8 := rfl
  exact ⟨by omega, by omega, by omega, by omega, by omega, by omega, by omega, by omega⟩
set_option maxHeartbeats 8000000 in
set_option maxRecDepth 100000 in
theorem sRaised_any (H : Option Addr) (m c : Nat) (xs : List Cls) (hs : List Flt) (f g : Int) (w : World) (hH : Sl w H m c hs) (hgf : goodF xs hs f = true) (hgg : goodF xs hs g = true) :
    Calls Try.prog 24 #[.agg #[.slice H m c], .int .i64 f, .int .i64 g] w fun e w' => ∃ v, e = .returned (.agg #[v]) ∧ Owd 45 w w' v (raisedL hs f g) ∧ Le w w' := by
  obtain rfl := hH.len
  obtain ⟨c0, z0, c1, z1, L0⟩ := box2 w (.slice H hs.length c) (.slice none 0 0) 28 28
  have f1 : ((w.alloc (.cells #[.slice H hs.length c] 28)).alloc (.cells #[.slice none 0 0] 28)).frozen? ⟨w.heap.size + 1, 0, none⟩ = false := World.frozen?_alloc_at _ _ _ _ (by simp)
  have S0 := hH.le L0
  have HOKH := Lib.hid hH.ok
  have hfew := goodF_few hgf
  obtain ⟨fi, rfl, hfi⟩ := goodF_at hgf
  have hg2 := goodF_in hgg
  have hch := ctxCh_of hgg
  have hgr : -9223372036854775808 ≤ g ∧ g ≤ 9223372036854775807 := by have := hg2.2; omega
  have hfi3 : (fi : Int) < (hs.length : Int) := by omega
  have hgp := hg2.2.1
  clear hg2 hgf hgg
  go_enter Try.func24, Try.ntmps24
  go_wp2_with fail
  generalize (w.alloc (.cells #[.slice H hs.length c] 28)).alloc (.cells #[.slice none 0 0] 28) = w3 at *
  have y1 := z1
  refine (sCopyHeap_any H hs.length c hs w3 S0 (by omega)).mono ?_
  rintro e w4 ⟨v, rfl, D, hle⟩
  obtain ⟨gb, q, rfl, O, hg0, hg1⟩ := D.blk (by omega)
  replace c1 := (hle.cell z1).trans c1
  replace f1 := (hle.frozen z1).trans f1
  replace z1 := Nat.lt_of_lt_of_le z1 hle.size
  replace L0 := L0.trans hle
  have hs4 := hle.size
  clear hle D c0 z0
  have cB : (w4.alloc (.cells #[.slice (some ⟨gb, 0, none⟩) hs.length q] 28)).cell? ⟨w4.heap.size, 0, none⟩ = some (.slice (some ⟨gb, 0, none⟩) hs.length q) := by rw [World.cell?_alloc_at _ _ _ _ rfl]; rfl
  have zB : w4.heap.size < (w4.alloc (.cells #[.slice (some ⟨gb, 0, none⟩) hs.length q] 28)).heap.size := by simp
  have LB := Le.new w4 (.cells #[.slice (some ⟨gb, 0, none⟩) hs.length q] 28)
  replace c1 := (LB.cell z1).trans c1
  replace f1 := (LB.frozen z1).trans f1
  replace z1 := Nat.lt_of_lt_of_le z1 LB.size
  replace L0 := L0.trans LB
  replace O := own_le O LB
  clear LB
  by_cases hfg : (fi : Int) = g
  · subst hfg
    have hb1 : ((fi : Int) == (fi : Int)) = true := by simp
    have HG1 := Lib.hid hg1; clear hg1
    generalize hW5 : w4.alloc (.cells #[.slice (some ⟨gb, 0, none⟩) hs.length q] 28) = W5 at *
    have hg1 := HG1.out
    clear hch
    have HR : raisedL hs (fi : Int) (fi : Int) = hs := raisedL_same _ _
    have OF : W5.ownsRow w3.heap.size 45 5 (.slice (some ⟨gb, 0, none⟩) hs.length q) (raisedL hs (fi : Int) (fi : Int)).length ((raisedL hs (fi : Int) (fi : Int)).flatMap Enc.cells) := by rw [raisedL_len, HR]; exact O
    have LX : Le w W5 := L0
    have cX : W5.cell? ⟨w.heap.size + 1, 0, none⟩ = some (.slice none 0 0) := c1
    have bX : W5.cell? ⟨w4.heap.size, 0, none⟩ = some (.slice (some ⟨gb, 0, none⟩) hs.length q) := cB
    have fX : W5.frozen? ⟨w.heap.size + 1, 0, none⟩ = false := by simpa using f1
    have hend := fun u => cell_set_same (v := u) cX
    have HE := Lib.hid (res_end (r := w.heap.size + 1) LX (by omega) y1 OF (raisedL_ok hgr HOKH.out))
    clear OF HR LX
    subst hW5
    clear hg1
    go_wp2
    exact bodyPost_ret (v := .agg #[.slice (some ⟨gb, 0, none⟩) hs.length q]) (by simp [results, Try.results24, go_sem, hend]) rfl ⟨_, rfl, by have h := HE.out (.slice (some ⟨gb, 0, none⟩) hs.length q); exact h.1, (HE.out _).2⟩
  · have hb1 : ((fi : Int) == g) = false := by simpa using hfg
    have hb2 : decide (g < 0) = false := decide_eq_false (by omega)
    have HRO := Lib.hid (raisedL_other (hs := hs) hfg)
    have HCH := Lib.hid hch
    have hne := hch.is.ne
    have hhd := hch.is.hd
    generalize hL : chainN (ctxOf hs) hs.length g = L at *
    have HL := Lib.hid hL; clear hL
    have hl0 : 0 < L.length := by rcases Nat.eq_zero_or_pos L.length with h | h; exact absurd (List.eq_nil_of_length_eq_zero h) hne; exact h
    have hL0 : L[0] = g := by rw [List.head?_eq_getElem?, List.getElem?_eq_getElem hl0] at hhd; injection hhd
    have HL0 := Lib.hid hL0
    have HG1 := Lib.hid hg1; clear hg1 hch hne hhd hL0 hfg
    go_wp2
    generalize hW5 : w4.alloc (.cells #[.slice (some ⟨gb, 0, none⟩) hs.length q] 28) = W5 at *
    clear hW5
    have hg1 := HG1.out
    go_loopg [8] (L.length) (fun mm x wr => ∃ (k : Nat) (h : k < L.length), x = .int .i64 L[k] ∧ mm = L.length - k ∧ (∀ j (h : j < L.length), j < k → ctxOf hs L[j] ≠ (fi : Int)) ∧ W5 = wr)
    case atStart => exact ⟨0, hl0, by rw [HL0.out], rfl, fun j h h2 => by omega, rfl⟩
    case round =>
      obtain ⟨k, hk, rfl, rfl, hno, rfl⟩ := hrel
      have HNO := Lib.hid hno; clear hno
      have hr := HCH.out.rng _ (List.getElem_mem hk)
      have hneg := HCH.out.neg k hk
      have hnext := HCH.out.next k hk
      have HONE := Lib.hid (fun j (hj : j < L.length) (e1 : ctxOf hs L[j] = (fi : Int)) (e2 : ctxOf hs L[k] = (fi : Int)) => HCH.out.once (f := (fi : Int)) (by omega) hj hk e1 e2)
      obtain ⟨i, hi⟩ := Int.eq_ofNat_of_zero_le hr.1
      have HI := Lib.hid hi
      rw [hi] at hr hneg hnext
      have hil : i < hs.length := by omega
      have hi3 : (i : Int) < (hs.length : Int) := by omega
      have hcx := ctxOf_at hil
      have q3 := O.cellAt (i * 5 + 3) (by omega)
      rw [show (hs.flatMap (Enc.cells (α := Flt)))[i * 5 + 3]? = _ from (flat_at hs i hil 3 (by decide))] at q3
      simp only [Enc.cells, List.getElem?_cons_succ, List.getElem?_cons_zero] at q3
      rw [← hcx] at q3
      clear hcx
      rw [hi]
      have HNEG := Lib.hid hneg; have HNEXT := Lib.hid hnext
      clear hneg hnext hi
      by_cases hcn : ctxOf hs (i : Int) < 0
      · have hd1 : decide (0 ≤ ctxOf hs (i : Int)) = false := decide_eq_false (by omega)
        have HCN := Lib.hid hcn
        have hnc : cutL hs (fi : Int) L = hs := by
          unfold cutL
          refine cutL_none L hs (fun x hx => ?_)
          obtain ⟨j, hj, rfl⟩ := List.getElem_of_mem hx
          have hk2 := HNEG.out HCN.out
          rcases Nat.lt_or_ge j k with h | h
          · exact HNO.out j hj h
          · have e : j = k := by omega
            subst e; rw [HI.out]; have := HCN.out; omega
        have HNC := Lib.hid hnc; clear hnc
        have O1 := (O.stored (fi * 5 + 3) (.int .i64 g)).1
        rw [flat_ctx hs fi hfi g] at O1
        have HR : raisedL hs (fi : Int) g = setF hs (fi : Int) (ctxF g) := by rw [HRO.out, HNC.out]
        have OF : (W5.setCell ⟨gb, fi * 5 + 3, none⟩ (.int .i64 g)).ownsRow w3.heap.size 45 5 (.slice (some ⟨gb, 0, none⟩) hs.length q) (raisedL hs (fi : Int) g).length ((raisedL hs (fi : Int) g).flatMap Enc.cells) := by rw [raisedL_len, HR]; exact O1
        have LX : Le w (W5.setCell ⟨gb, fi * 5 + 3, none⟩ (.int .i64 g)) := L0.setCell (by omega) _
        have cX : (W5.setCell ⟨gb, fi * 5 + 3, none⟩ (.int .i64 g)).cell? ⟨w.heap.size + 1, 0, none⟩ = some (.slice none 0 0) := (cell_set_other (.inl (by omega))).trans (c1)
        have bX : (W5.setCell ⟨gb, fi * 5 + 3, none⟩ (.int .i64 g)).cell? ⟨w4.heap.size, 0, none⟩ = some (.slice (some ⟨gb, 0, none⟩) hs.length q) := (cell_set_other (.inl (by omega))).trans (cB)
        have fX : (W5.setCell ⟨gb, fi * 5 + 3, none⟩ (.int .i64 g)).frozen? ⟨w.heap.size + 1, 0, none⟩ = false := by simpa using f1
        have k0 := O.cellAt (fi * 5 + 3) (by omega)
        rw [show (hs.flatMap (Enc.cells (α := Flt)))[fi * 5 + 3]? = _ from (flat_at hs fi hfi 3 (by decide))] at k0
        simp only [Enc.cells, List.getElem?_cons_succ, List.getElem?_cons_zero] at k0
        have e0 := O.frozenAt (fi * 5 + 3)
        have hend := fun u => cell_set_same (v := u) cX
        have HE := Lib.hid (res_end (r := w.heap.size + 1) LX (by omega) y1 OF (raisedL_ok hgr HOKH.out))
        clear OF HR LX
        go_wp2
        exact bodyPost_ret (v := .agg #[.slice (some ⟨gb, 0, none⟩) hs.length q]) (by simp [results, Try.results24, go_sem, hend]) rfl ⟨_, rfl, by have h := HE.out (.slice (some ⟨gb, 0, none⟩) hs.length q); exact h.1, (HE.out _).2⟩
      · have hd1 : decide (0 ≤ ctxOf hs (i : Int)) = true := decide_eq_true (by omega)
        by_cases hcf : ctxOf hs (i : Int) = (fi : Int)
        · have hb3 : (ctxOf hs (i : Int) == (fi : Int)) = true := by simpa using hcf
          have HCF := Lib.hid hcf
          clear hcf
          have hcut : cutL hs (fi : Int) L = setF hs (i : Int) (ctxF (-1)) := by
            have := cutL_here (hs := hs) (f := (fi : Int)) hk (by rw [HI.out]; exact HCF.out) (fun j hj hne e => hne (HONE.out j hj e (by rw [HI.out]; exact HCF.out)))
            rw [HI.out] at this; exact this
          have HCUT := Lib.hid hcut; clear hcut
          have O1 := (O.stored (i * 5 + 3) (.int .i64 (-1))).1
          rw [flat_ctx hs i hil (-1)] at O1
          have O2 := (O1.stored (fi * 5 + 3) (.int .i64 g)).1
          rw [flat_ctx (setF hs (i : Int) (ctxF (-1))) fi (by rw [setF_len]; exact hfi) g] at O2
          have HR : raisedL hs (fi : Int) g = setF (setF hs (i : Int) (ctxF (-1))) (fi : Int) (ctxF g) := by rw [HRO.out, HCUT.out]
          have OF : ((W5.setCell ⟨gb, i * 5 + 3, none⟩ (.int .i64 (-1))).setCell ⟨gb, fi * 5 + 3, none⟩ (.int .i64 g)).ownsRow w3.heap.size 45 5 (.slice (some ⟨gb, 0, none⟩) hs.length q) (raisedL hs (fi : Int) g).length ((raisedL hs (fi : Int) g).flatMap Enc.cells) := by rw [raisedL_len, HR]; exact O2
          have LX : Le w ((W5.setCell ⟨gb, i * 5 + 3, none⟩ (.int .i64 (-1))).setCell ⟨gb, fi * 5 + 3, none⟩ (.int .i64 g)) := (L0.setCell (by omega) _).setCell (by omega) _
          have cX : ((W5.setCell ⟨gb, i * 5 + 3, none⟩ (.int .i64 (-1))).setCell ⟨gb, fi * 5 + 3, none⟩ (.int .i64 g)).cell? ⟨w.heap.size + 1, 0, none⟩ = some (.slice none 0 0) := (cell_set_other (.inl (by omega))).trans ((cell_set_other (.inl (by omega))).trans (c1))
          have bX : ((W5.setCell ⟨gb, i * 5 + 3, none⟩ (.int .i64 (-1))).setCell ⟨gb, fi * 5 + 3, none⟩ (.int .i64 g)).cell? ⟨w4.heap.size, 0, none⟩ = some (.slice (some ⟨gb, 0, none⟩) hs.length q) := (cell_set_other (.inl (by omega))).trans ((cell_set_other (.inl (by omega))).trans (cB))
          have fX : ((W5.setCell ⟨gb, i * 5 + 3, none⟩ (.int .i64 (-1))).setCell ⟨gb, fi * 5 + 3, none⟩ (.int .i64 g)).frozen? ⟨w.heap.size + 1, 0, none⟩ = false := by simpa using f1
          have k0 := O.cellAt (i * 5 + 3) (by omega)
          rw [show (hs.flatMap (Enc.cells (α := Flt)))[i * 5 + 3]? = _ from (flat_at hs i hil 3 (by decide))] at k0
          simp only [Enc.cells, List.getElem?_cons_succ, List.getElem?_cons_zero] at k0
          have e0 := O.frozenAt (i * 5 + 3)
          have k1 := O1.cellAt (fi * 5 + 3) (by omega)
          obtain ⟨u1, hu1⟩ : ∃ u, ((setF hs (i : Int) (ctxF (-1))).flatMap (Enc.cells (α := Flt)))[fi * 5 + 3]? = some u := ⟨_, List.getElem?_eq_getElem (by rw [flat_len, setF_len]; show fi * 5 + 3 < hs.length * 5; omega)⟩
          rw [hu1] at k1
          have e1 := O1.frozenAt (fi * 5 + 3)
          have hend := fun u => cell_set_same (v := u) cX
          have HE := Lib.hid (res_end (r := w.heap.size + 1) LX (by omega) y1 OF (raisedL_ok hgr HOKH.out))
          clear OF HR LX
          go_wp2
          exact bodyPost_ret (v := .agg #[.slice (some ⟨gb, 0, none⟩) hs.length q]) (by simp [results, Try.results24, go_sem, hend]) rfl ⟨_, rfl, by have h := HE.out (.slice (some ⟨gb, 0, none⟩) hs.length q); exact h.1, (HE.out _).2⟩
        · have hb3 : (ctxOf hs (i : Int) == (fi : Int)) = false := by simpa using hcf
          obtain ⟨hk2, hn2⟩ := HNEXT.out (by omega)
          have HN2 := Lib.hid hn2
          have HNO2 : Hid (∀ j (h : j < L.length), j < k + 1 → ctxOf hs L[j] ≠ (fi : Int)) := fun j hj h2 => by
            rcases Nat.lt_or_ge j k with h | h
            · exact HNO.out j hj h
            · have e : j = k := by omega
              subst e; rw [HI.out]; exact hcf
          clear hn2 hcf
          go_wp2
          go_roundg (L.length - (k + 1))
          case measure => omega
          case rel => exact ⟨k + 1, hk2, by rw [HN2.out], rfl, HNO2.out, rfl⟩
def HeapOut (k g p : Nat) (A : Option Addr) (n cap : Nat) (bs : List By) (w : World) (e : Ending) (w' : World) : Prop :=
  ∃ (v : Value) (hs : List Flt) (p' : Nat), e = .returned (.agg #[v]) ∧ w'.ownsRow w.heap.size 45 5 v hs.length (hs.flatMap Enc.cells) ∧ okHeap T8 hs = true ∧ hs.length ≤ 6 ∧ p' ≤ p + k ∧ Rd w' g p' A n cap bs ∧ Gx g w w'
/-- what the draw of a heap keeps in its boxes -/
structure HI (b g : Nat) (w : World) (B : Option Addr) (m c : Nat) (A1 : Option Addr) (q1 : Nat) (hs : List Flt) (wr : World) : Prop where
  hb : b = w.heap.size
  gw : g < b
  cT : wr.cell? ⟨b, 0, none⟩ = some (.slice B m c)
  cR : wr.cell? ⟨b + 1, 0, none⟩ = some (.slice none 0 0)
  fR : wr.frozen? ⟨b + 1, 0, none⟩ = false
  cH : wr.cell? ⟨b + 1 + 1 + 1, 0, none⟩ = some (.slice A1 hs.length q1)
  fH : wr.frozen? ⟨b + 1 + 1 + 1, 0, none⟩ = false
  O : wr.ownsRow (b + 1 + 1) 45 5 (.slice A1 hs.length q1) hs.length (hs.flatMap Enc.cells)
  nb : (Value.slice A1 hs.length q1).ownBlock ≠ some (b + 1 + 1 + 1)
  sz : b + 1 + 1 + 1 < wr.heap.size
  G : Gx g w wr
theorem HI.gx {b g : Nat} {w : World} {B : Option Addr} {m c : Nat} {A1 : Option Addr} {q1 : Nat} {hs : List Flt} {wr w' : World} (h : HI b g w B m c A1 q1 hs wr) (hg : Gx g wr w') : HI b g w B m c A1 q1 hs w' := by
  have hgw := h.gw
  have hz := h.sz
  refine ⟨h.hb, h.gw, (hg.cell (k := b) (o := 0) (by omega) (by omega)).trans h.cT, (hg.cell (k := b + 1) (o := 0) (by omega) (by omega)).trans h.cR, (hg.frozen (k := b + 1) (o := 0) (by omega) (by omega)).trans h.fR,
    (hg.cell (k := b + 1 + 1 + 1) (o := 0) (by omega) (by omega)).trans h.cH, (hg.frozen (k := b + 1 + 1 + 1) (o := 0) (by omega) (by omega)).trans h.fH, h.O.kept hg (.inr (fun e => by have h1 := (h.O.lt _ e).1; omega)), h.nb, Nat.lt_of_lt_of_le hz hg.size, h.G.trans hg⟩
theorem HI.le {b g : Nat} {w : World} {B : Option Addr} {m c : Nat} {A1 : Option Addr} {q1 : Nat} {hs : List Flt} {wr w' : World} (h : HI b g w B m c A1 q1 hs wr) (hl : Le wr w') : HI b g w B m c A1 q1 hs w' := h.gx (Gx.of_le hl)
/-- another list comes into the box -/
theorem HI.put {b g : Nat} {w : World} {B : Option Addr} {m c : Nat} {A1 : Option Addr} {q1 : Nat} {hs ks : List Flt} {w3 w4 : World} {v : Value} (h : HI b g w B m c A1 q1 hs w3) (hl : Le w3 w4) (D : Owd 45 w3 w4 v ks) :
    ∃ A2 q2, v = .slice A2 ks.length q2 ∧ HI b g w B m c A2 q2 ks (w4.setCell ⟨b + 1 + 1 + 1, 0, none⟩ (.slice A2 ks.length q2)) := by
  have hz := h.sz
  have hgw := h.gw
  have h4 := h.le hl
  obtain ⟨A2, q2, rfl⟩ := own_form D.row
  have hlt := D.row.lt
  have hne : (Value.slice A2 ks.length q2).ownBlock ≠ some (b + 1 + 1 + 1) := fun e => by have h1 := (hlt _ e).1; omega
  refine ⟨A2, q2, rfl, h.hb, h.gw, (cell_set_other (.inl (by omega))).trans h4.cT, (cell_set_other (.inl (by omega))).trans h4.cR, ?_, cell_set_same h4.cH, ?_, ?_, hne, by simpa [World.setCell] using h4.sz, h4.G.setNewF (by rw [← h.hb]; omega) _⟩
  · simpa using h4.fR
  · simpa using h4.fH
  · exact (own_mono D.row (by omega)).kept (grown_set w4 (b + 1 + 1 + 1) 0 _) (.inr (fun e => hne e))
/-- stores into the list -/
theorem HI.turn {b g : Nat} {w : World} {B : Option Addr} {m c : Nat} {k : Nat} {q1 : Nat} {hs ks : List Flt} {w3 w4 : World} (h : HI b g w B m c (some ⟨k, 0, none⟩) q1 hs w3) (hg : w3.grownBy w4 (some k)) (hl : ks.length = hs.length)
    (hO : w4.ownsRow (b + 1 + 1) 45 5 (.slice (some ⟨k, 0, none⟩) hs.length q1) hs.length (ks.flatMap Enc.cells)) : HI b g w B m c (some ⟨k, 0, none⟩) q1 ks w4 := by
  have hz := h.sz
  have hlt := h.O.lt k rfl
  have hne : k ≠ b + 1 + 1 + 1 := fun e => h.nb (by rw [← e]; rfl)
  have hfr : ∀ i, i < w3.heap.size → i ≠ k → w4.frozen? ⟨i, 0, none⟩ = w3.frozen? ⟨i, 0, none⟩ := fun i hi hn => World.frozen?_of_block (a := ⟨i, 0, none⟩) (hg.block i hi (fun e => hn (by injection e)))
  refine ⟨h.hb, h.gw, hg.cell (a := ⟨b, 0, none⟩) h.cT (fun e => by have e1 : b = k := (by injection e); omega), hg.cell (a := ⟨b + 1, 0, none⟩) h.cR (fun e => by have e1 : b + 1 = k := (by injection e); omega), (hfr _ (by omega) (by omega)).trans h.fR, ?_, (hfr _ (by omega) (by omega)).trans h.fH, by rw [hl]; exact hO, by rw [hl]; exact h.nb, Nat.lt_of_lt_of_le hz hg.size, h.G.grown hg (fun i hi => by have e1 : k = i := (by injection hi); have := h.hb; omega)⟩
  rw [hl]; exact hg.cell (a := ⟨b + 1 + 1 + 1, 0, none⟩) h.cH (fun e => by have e1 : b + 1 + 1 + 1 = k := (by injection e); omega)
/-- the end: the result's own box is written -/
theorem HI.out {b g p p' : Nat} {w : World} {B A : Option Addr} {m c n cap : Nat} {bs : List By} {A1 : Option Addr} {q1 : Nat} {hs : List Flt} {wr : World} (h : HI b g w B m c A1 q1 hs wr) (R : Rd wr g p' A n cap bs) (hA : 0 < n → ∀ a, A = some a → a.block < b) (hok : okHeap T8 hs = true) (hl : hs.length ≤ 6) (hp : p' ≤ p + 40) (u : Value) :
    HeapOut 40 g p A n cap bs w (.returned (.agg #[.slice A1 hs.length q1])) (wr.setCell ⟨b + 1, 0, none⟩ u) := by
  have hgw := h.gw
  refine ⟨_, hs, p', rfl, (own_mono h.O (by have := h.hb; omega)).kept (grown_set wr (b + 1) 0 u) (.inr (fun e => by have h1 := (h.O.lt _ e).1; omega)), hok, hl, hp, R.setNew u (by omega) (fun hn a e => by have := hA hn a e; omega), h.G.setNewF (by have := h.hb; omega) u⟩
theorem HI.sl {b g : Nat} {w : World} {B : Option Addr} {m c : Nat} {A1 : Option Addr} {q1 : Nat} {hs : List Flt} {wr : World} (h : HI b g w B m c A1 q1 hs wr) (hok : okHeap T8 hs = true) : Sl wr A1 hs.length q1 hs := Sl.of_own h.O rfl (by decide) (ok_enc hok)
theorem ok_mkF {hs : List Flt} {a b : Int} (h : okHeap T8 hs = true) (hl : hs.length < 24) (ha : 0 ≤ a ∧ a < 8) (hb : b ∈ ([1, 2, 3, 0, 99] : List Int)) : okHeap T8 (hs ++ [mkF a b]) = true :=
  ok_snoc h ha (by simp at hb; omega) hl

theorem one_kept (ss : List Int) (m : Nat) (cs : Array Value) (T : TypeId) (g p : Nat) (A : Option Addr) (n cap : Nat) (bs : List By) (W W2 : World) (b : Nat) (hc : cs.toList = ss.flatMap Enc.cells) (hl : ss.length = m) (hm : 0 < m) (hm1 : m ≤ 1000) (hok : ∀ x ∈ ss, Enc.ok x) (hp : p ≤ 1000000) (hb : b = W.heap.size) (hgW : g < W.heap.size) (hG : Gx g (W.alloc (.cells cs T)) W2) (hR : Rd W2 g p A n cap bs) :
    Calls Try.prog 21 #[.pointer (some ⟨g, 0, none⟩), .slice (some ⟨b, 0, none⟩) m m] W2 (OneOut ss g p A n cap bs W2) := by
  subst hb
  exact one_any _ m m ss g p A n cap bs _ hm hm1 hp (Sl.of_rowF ((hG.block W.heap.size (by simp) (fun e => by have e1 : W.heap.size = g := (by injection e); omega)).trans (hp_new _ _ rfl)) hc hl hm1 hok) (fun _ a e => by injection e with e; rw [← e]; show W.heap.size ≠ g; omega) hR
set_option maxHeartbeats 8000000 in
set_option maxRecDepth 100000 in
theorem goodHeap_any (B : Option Addr) (m c : Nat) (g p : Nat) (A : Option Addr) (n cap : Nat) (bs : List By) (w : World) (hm : m ≤ 8) (hp : p ≤ 700000) (hR : Rd w g p A n cap bs) :
    Calls Try.prog 11 #[.pointer (some ⟨g, 0, none⟩), .agg #[.slice B m c]] w (HeapOut 40 g p A n cap bs w) := by
  have hgw := hR.lt
  have HA : Hid (0 < n → ∀ a, A = some a → a.block < w.heap.size) := fun hn a e => hR.sl.under hn a e
  go_enter Try.func11, Try.ntmps11
  go_wp2_with fail
  have hI : HI w.heap.size g w B m c (some ⟨w.heap.size + 1 + 1, 0, none⟩) 0 [] ((((w.alloc (.cells #[.slice B m c] 25)).alloc (.cells #[.slice none 0 0] 28)).alloc (.cells #[] 45)).alloc (.cells #[.slice (some ⟨w.heap.size + 1 + 1, 0, none⟩) 0 0] 28)) := by
    have O0 := own_empty (w := (w.alloc (.cells #[.slice B m c] 25)).alloc (.cells #[.slice none 0 0] 28)) (base := w.heap.size + 1 + 1) (g := w.heap.size + 1 + 1) (e := 45) (size := 5) (by simp) (by simp)
    refine ⟨rfl, hgw, ?_, ?_, ?_, ?_, ?_, own_le O0 (Le.new _ _), ?_, by simp, Gx.of_le ((((Le.new w _).alloc _).alloc _).alloc _)⟩
    · rw [World.cell?_alloc_past _ _ _ (by simp; omega), World.cell?_alloc_past _ _ _ (by simp; omega), World.cell?_alloc_past _ _ _ (by simp), World.cell?_alloc_at _ _ _ _ rfl]; rfl
    · rw [World.cell?_alloc_past _ _ _ (by simp), World.cell?_alloc_past _ _ _ (by simp), World.cell?_alloc_at _ _ _ _ (by simp)]; rfl
    · rw [((Le.new _ _).frozen (b := w.heap.size + 1) (o := 0) (by simp)), ((Le.new _ _).frozen (b := w.heap.size + 1) (o := 0) (by simp))]; exact World.frozen?_alloc_at _ _ _ _ (by simp)
    · rw [World.cell?_alloc_at _ _ _ _ (by simp)]; rfl
    · exact World.frozen?_alloc_at _ _ _ _ (by simp)
    · intro e; simp [Value.ownBlock] at e
  have hRL : Rd ((((w.alloc (.cells #[.slice B m c] 25)).alloc (.cells #[.slice none 0 0] 28)).alloc (.cells #[] 45)).alloc (.cells #[.slice (some ⟨w.heap.size + 1 + 1, 0, none⟩) 0 0] 28)) g p A n cap bs := hR.le ((((Le.new w _).alloc _).alloc _).alloc _)
  have hz4 : w.heap.size + 1 + 1 + 1 + 1 = ((((w.alloc (.cells #[.slice B m c] 25)).alloc (.cells #[.slice none 0 0] 28)).alloc (.cells #[] 45)).alloc (.cells #[.slice (some ⟨w.heap.size + 1 + 1, 0, none⟩) 0 0] 28)).heap.size := by simp
  generalize ((((w.alloc (.cells #[.slice B m c] 25)).alloc (.cells #[.slice none 0 0] 28)).alloc (.cells #[] 45)).alloc (.cells #[.slice (some ⟨w.heap.size + 1 + 1, 0, none⟩) 0 0] 28)) = W at *
  refine (one_lit [4, 5, 3, 6, 2, 1, 0] 7 _ _ g p A n cap bs W _ rfl rfl (by decide) (by decide) (by intro x hx; simp at hx; constructor <;> omega) (by omega) hz4 hRL).mono ?_
  rintro e w1 ⟨u, rfl, hu, R1, G1⟩
  have hu1 : 0 ≤ u ∧ u ≤ 6 := by simp at hu; omega
  replace hI := hI.gx G1
  clear hu hRL G1 hz4
  go_wp2
  go_loopw [6] (fun i wr => ∃ (A1 : Option Addr) (q1 : Nat) (hs : List Flt) (k p' : Nat), i = .int .i64 k ∧ hs.length + k ≤ 6 ∧ p' + 2 * k ≤ p + 13 ∧ okHeap T8 hs = true ∧ HI w.heap.size g w B m c A1 q1 hs wr ∧ Rd wr g p' A n cap bs) (fun i _ => (intOf i).toNat)
  case atStart =>
    obtain ⟨k, rfl⟩ := Int.eq_ofNat_of_zero_le hu1.1
    exact ⟨_, _, [], k, p + 1, rfl, by simp; omega, by omega, ok_nil, hI, R1⟩
  case round =>
    clear hI R1 hu1
    obtain ⟨A1, q1, hs, k, p', rfl, hk, hp', hok, hI, R⟩ := hrel
    by_cases h0 : 0 < k
    · have hk0 : (0 : Int) < k := by omega
      obtain ⟨j, rfl⟩ : ∃ j, k = j + 1 := ⟨k - 1, by omega⟩
      have hId := hI.le (Le.refl _).drew
      have cTd := hId.cT
      have cHd := hId.cH
      have R0 := R.le (Le.refl wr).drew
      have HOK := Lib.hid hok
      have HIX := Lib.hid hId
      clear hI hok hId R
      go_wp2_with fail
      refine wp_region_noPanic ?_
      refine wp_region_Z (fun w' => w'.cell? ⟨w.heap.size, 0, none⟩ = some (.slice B m c) ∧ w'.cell? ⟨w.heap.size + 1 + 1 + 1, 0, none⟩ = some (.slice A1 hs.length q1)) [10] (by kernel_rfl) ?_
      refine wpAnyZ_take (i := 0) (v := ?_) rfl (by kernel_rfl) (fun _ _ _ h => h) (Or.inl ⟨by rfl, ?_⟩) (⟨cTd, cHd⟩) ?_
      rotate_left 1
      · (intro w hSw; (try dsimp only at hSw); go_simp; try with_reducible rfl)
      try simp only [Act.put, List.setIfInBounds_toArray, List.set_cons_zero, List.set_cons_succ]
      refine wpAnyZ_take (i := 1) (v := ?_) rfl (by kernel_rfl) (fun _ _ _ h => h) (Or.inl ⟨by rfl, ?_⟩) (⟨cTd, cHd⟩) ?_
      rotate_left 1
      · (intro w hSw; (try dsimp only at hSw); go_simp; try with_reducible rfl)
      try simp only [Act.put, List.setIfInBounds_toArray, List.set_cons_zero, List.set_cons_succ]
      refine wpAnyZ_take (i := 2) (v := ?_) rfl (by kernel_rfl) (fun _ _ _ h => h) (Or.inl ⟨by rfl, ?_⟩) (⟨cTd, cHd⟩) ?_
      rotate_left 1
      · (intro w hSw; (try dsimp only at hSw); go_simp; try with_reducible rfl)
      try simp only [Act.put, List.setIfInBounds_toArray, List.set_cons_zero, List.set_cons_succ]
      refine wpAnyZ_take (i := 3) (v := ?_) rfl (by kernel_rfl) (fun _ _ _ h => h) (Or.inl ⟨by rfl, ?_⟩) (⟨cTd, cHd⟩) ?_
      rotate_left 1
      · (intro w hSw; (try dsimp only at hSw); go_simp; try with_reducible rfl)
      try simp only [Act.put, List.setIfInBounds_toArray, List.set_cons_zero, List.set_cons_succ]
      refine wpAnyZ_take (i := 4) (v := ?_) rfl (by kernel_rfl) (fun _ _ _ h => h) (Or.inl ⟨by rfl, ?_⟩) (⟨cTd, cHd⟩) ?_
      rotate_left 1
      · (intro w hSw; (try dsimp only at hSw); go_simp; try with_reducible rfl)
      try simp only [Act.put, List.setIfInBounds_toArray, List.set_cons_zero, List.set_cons_succ]
      refine wpAnyZ_take (i := 6) (v := ?_) rfl (by kernel_rfl) (fun _ _ _ h => h) (Or.inl ⟨by rfl, ?_⟩) (⟨cTd, cHd⟩) ?_
      rotate_left 1
      · (intro w hSw; (try dsimp only at hSw); go_simp; try with_reducible rfl)
      try simp only [Act.put, List.setIfInBounds_toArray, List.set_cons_zero, List.set_cons_succ]
      refine wpAnyZ_two (i := 5) (k := 7) (by kernel_rfl) (ReadyZ.mk rfl (fun K hK => ?_)) (ReadyZ.mk rfl (fun K hK => ?_))
      · go_simp
        go_at_call 20
        refine (pick_any m g p' A n cap bs _ (by omega) (by omega) (by omega) R0).mono ?_
        rintro e w2 ⟨a, rfl, ha0, ha1, R2, hg2⟩
        have hI2 := HIX.out.gx hg2
        refine hK.out _ _ (fun _ => ⟨hI2.cT, hI2.cH⟩) ?_
        clear hK K
        try simp only [Act.put, List.setIfInBounds_toArray, List.set_cons_zero, List.set_cons_succ]
        refine wpAnyZ_one (i := 7) (by kernel_rfl) (ReadyZ.mk rfl (fun K hK => ?_))
        go_simp
        have hI3 := hI2
        have hI3L := hI2.le (Le.new w2 (.cells #[.int .i64 1, .int .i64 2, .int .i64 3, .int .i64 0, .int .i64 99] 3))
        refine hK.out _ _ (fun _ => ⟨hI3L.cT, hI3L.cH⟩) ?_
        clear hK K
        try simp only [Act.put, List.setIfInBounds_toArray, List.set_cons_zero, List.set_cons_succ]
        clear hI3L
        refine wpAnyZ_one (i := 8) (by kernel_rfl) (ReadyZ.mk rfl (fun K hK => ?_))
        go_simp
        go_at_call 21
        refine (one_lit [1, 2, 3, 0, 99] 5 _ _ g (p' + 1) A n cap bs w2 _ rfl rfl (by decide) (by decide) (by intro x hx; simp at hx; constructor <;> omega) (by omega) rfl R2).mono ?_
        rintro e w3 ⟨u, rfl, hu, R3, hg3⟩
        have hI4 := hI3.gx hg3
        refine hK.out _ _ (fun _ => ⟨hI4.cT, hI4.cH⟩) ?_
        clear hK K
        try simp only [Act.put, List.setIfInBounds_toArray, List.set_cons_zero, List.set_cons_succ]
        refine wpAnyZ_one (i := 9) (by kernel_rfl) (ReadyZ.mk rfl (fun K hK => ?_))
        go_simp
        go_at_call 23
        have hu1 : -9223372036854775808 ≤ u ∧ u ≤ 9223372036854775807 := by simp at hu; omega
        refine (added_any _ _ _ hs a u _ (hI4.sl HOK.out) (by omega) (by omega) hu1).mono ?_
        rintro e w4 ⟨v, rfl, D, hle⟩
        have HK : Hid (okHeap T8 (hs ++ [mkF a u]) = true ∧ (hs ++ [mkF a u]).length + j ≤ 6) := ⟨ok_mkF HOK.out (by omega) (by omega) hu, by simp; omega⟩
        generalize hs ++ [mkF a u] = ks at *
        have hI5 := hI4.le hle
        obtain ⟨A2, q2, rfl, hI6⟩ := hI4.put hle D
        have R6 := Lib.hid ((R3.le hle).setNew (o := 0) (.slice A2 ks.length q2) (show w.heap.size + 1 + 1 + 1 ≠ g by omega) (fun hn a e => by have := HA.out hn a e; omega))
        have HI6 := Lib.hid hI6
        have c5 := hI5.cH
        have f5 := hI5.fH
        clear hI6 hI4 hg3 R3 D hu hle hg2
        refine hK.out _ _ (fun _ => ⟨hI5.cT, hI5.cH⟩) ?_
        clear hK K
        try simp only [Act.put, List.setIfInBounds_toArray, List.set_cons_zero, List.set_cons_succ]
        clear hI5
        refine wpAnyZ_one (i := 10) (by kernel_rfl) (ReadyZ.mk rfl (fun K hK => ?_))
        go_simp
        refine hK.out _ _ (fun h => absurd h (by decide)) ?_
        clear hK K
        try simp only [Act.put, List.setIfInBounds_toArray, List.set_cons_zero, List.set_cons_succ]
        refine wpAnyZ_done (by kernel_rfl) ?_ _
        refine NoPanic.normal ?_
        clear hI2 hI3 R2 R0
        have hwj : IntKind.i64.wrap ((j : Int) + 1 - 1) = (j : Int) := by rw [Int.add_sub_cancel]; exact IntWalk.i64_in _ (by omega)
        go_wp2
        go_roundw
        case rel => exact ⟨A2, q2, ks, j, p' + 1 + 1, by go_num, HK.out.2, by omega, HK.out.1, HI6.out, R6.out⟩
        case measure => (simp [intOf]) <;> omega
      · go_simp
        have hI2 := HIX.out.le (Le.new wr.drew (.cells #[.int .i64 1, .int .i64 2, .int .i64 3, .int .i64 0, .int .i64 99] 3))
        have RL := R0.le (Le.new wr.drew (.cells #[.int .i64 1, .int .i64 2, .int .i64 3, .int .i64 0, .int .i64 99] 3))
        have hgd : g < wr.drew.heap.size := R0.lt
        refine hK.out _ _ (fun _ => ⟨hI2.cT, hI2.cH⟩) ?_
        clear hK K
        try simp only [Act.put, List.setIfInBounds_toArray, List.set_cons_zero, List.set_cons_succ]
        refine wpAnyZ_one (i := 5) (by kernel_rfl) (ReadyZ.mk rfl (fun K hK => ?_))
        go_simp
        go_at_call 20
        refine (pick_any m g p' A n cap bs _ (by omega) (by omega) (by omega) RL).mono ?_
        rintro e w2 ⟨a, rfl, ha0, ha1, R2, hg2⟩
        have hI3 := hI2.gx hg2
        refine hK.out _ _ (fun _ => ⟨hI3.cT, hI3.cH⟩) ?_
        clear hK K
        try simp only [Act.put, List.setIfInBounds_toArray, List.set_cons_zero, List.set_cons_succ]
        refine wpAnyZ_one (i := 8) (by kernel_rfl) (ReadyZ.mk rfl (fun K hK => ?_))
        go_simp
        go_at_call 21
        refine (one_kept [1, 2, 3, 0, 99] 5 _ _ g (p' + 1) A n cap bs wr.drew w2 _ rfl rfl (by decide) (by decide) (by intro x hx; simp at hx; constructor <;> omega) (by omega) rfl hgd hg2 R2).mono ?_
        clear RL hgd
        rintro e w3 ⟨u, rfl, hu, R3, hg3⟩
        have hI4 := hI3.gx hg3
        refine hK.out _ _ (fun _ => ⟨hI4.cT, hI4.cH⟩) ?_
        clear hK K
        try simp only [Act.put, List.setIfInBounds_toArray, List.set_cons_zero, List.set_cons_succ]
        refine wpAnyZ_one (i := 9) (by kernel_rfl) (ReadyZ.mk rfl (fun K hK => ?_))
        go_simp
        go_at_call 23
        have hu1 : -9223372036854775808 ≤ u ∧ u ≤ 9223372036854775807 := by simp at hu; omega
        refine (added_any _ _ _ hs a u _ (hI4.sl HOK.out) (by omega) (by omega) hu1).mono ?_
        rintro e w4 ⟨v, rfl, D, hle⟩
        have HK : Hid (okHeap T8 (hs ++ [mkF a u]) = true ∧ (hs ++ [mkF a u]).length + j ≤ 6) := ⟨ok_mkF HOK.out (by omega) (by omega) hu, by simp; omega⟩
        generalize hs ++ [mkF a u] = ks at *
        have hI5 := hI4.le hle
        obtain ⟨A2, q2, rfl, hI6⟩ := hI4.put hle D
        have R6 := Lib.hid ((R3.le hle).setNew (o := 0) (.slice A2 ks.length q2) (show w.heap.size + 1 + 1 + 1 ≠ g by omega) (fun hn a e => by have := HA.out hn a e; omega))
        have HI6 := Lib.hid hI6
        have c5 := hI5.cH
        have f5 := hI5.fH
        clear hI6 hI4 hg3 R3 D hu hle hg2
        refine hK.out _ _ (fun _ => ⟨hI5.cT, hI5.cH⟩) ?_
        clear hK K
        try simp only [Act.put, List.setIfInBounds_toArray, List.set_cons_zero, List.set_cons_succ]
        clear hI5
        refine wpAnyZ_one (i := 10) (by kernel_rfl) (ReadyZ.mk rfl (fun K hK => ?_))
        go_simp
        refine hK.out _ _ (fun h => absurd h (by decide)) ?_
        clear hK K
        try simp only [Act.put, List.setIfInBounds_toArray, List.set_cons_zero, List.set_cons_succ]
        refine wpAnyZ_done (by kernel_rfl) ?_ _
        refine NoPanic.normal ?_
        clear hI2 hI3 R2 R0
        have hwj : IntKind.i64.wrap ((j : Int) + 1 - 1) = (j : Int) := by rw [Int.add_sub_cancel]; exact IntWalk.i64_in _ (by omega)
        go_wp2
        go_roundw
        case rel => exact ⟨A2, q2, ks, j, p' + 1 + 1, by go_num, HK.out.2, by omega, HK.out.1, HI6.out, R6.out⟩
        case measure => (simp [intOf]) <;> omega
    · obtain rfl : k = 0 := by omega
      have HOK := Lib.hid hok
      have HIX := Lib.hid hI
      clear hI hok
      go_wp2_with fail
      refine (one_lit [3, 4, 2, 5, 0] 5 _ _ g p' A n cap bs wr _ rfl rfl (by decide) (by decide) (by intro x hx; simp at hx; constructor <;> omega) (by omega) rfl R).mono ?_
      rintro e w2 ⟨u, rfl, hu, R2, hg2⟩
      have hu1 : 0 ≤ u ∧ u ≤ 5 := by simp at hu; omega
      have hI := HIX.out.gx hg2
      have hok := HOK.out
      have hl6 : hs.length ≤ 6 := by omega
      clear hu HIX hg2 R HOK
      have hp2 : p' + 1 ≤ p + 14 := by omega
      clear hp' hk h0
      generalize wr = wr0 at *
      go_wp2
      go_loopw [7] (fun i wr => ∃ (A1 : Option Addr) (q1 : Nat) (hs : List Flt) (k p' : Nat), i = .int .i64 k ∧ k ≤ 5 ∧ hs.length ≤ 6 ∧ p' + 3 * k ≤ p + 29 ∧ okHeap T8 hs = true ∧ HI w.heap.size g w B m c A1 q1 hs wr ∧ Rd wr g p' A n cap bs) (fun i _ => (intOf i).toNat)
      case atStart =>
        obtain ⟨k, rfl⟩ := Int.eq_ofNat_of_zero_le hu1.1
        exact ⟨_, _, hs, k, p' + 1, rfl, by omega, hl6, by omega, hok, hI, R2⟩
      case round =>
        clear hI R2 hu1 hok hl6 hp2
        obtain ⟨A1, q1, hs, k, p', rfl, hk, hl6, hp', hok, hI, R⟩ := hrel
        have cT := hI.cT
        have cH := hI.cH
        have cR := hI.cR
        have fR := hI.fR
        have HOK := Lib.hid hok
        have HIX := Lib.hid hI
        have HR := Lib.hid R
        have hend : ∀ u, (wr.setCell ⟨w.heap.size + 1, 0, none⟩ u).cell? ⟨w.heap.size + 1, 0, none⟩ = some u := fun u => cell_set_same cR
        rcases Nat.eq_zero_or_pos k with h0 | h0
        · subst h0
          clear hI R hok
          go_wp2
          exact bodyPost_ret (v := .agg #[.slice A1 hs.length q1]) (by simp [results, Try.results11, go_sem, hend]) rfl (HIX.out.out HR.out HA.out HOK.out hl6 (by omega) _)
        obtain ⟨j, rfl⟩ : ∃ j, k = j + 1 := ⟨k - 1, by omega⟩
        by_cases h1 : hs.length ≤ 1
        · have hb1 : decide ((1 : Int) < (hs.length : Int)) = false := decide_eq_false (by omega)
          clear hI R hok
          go_wp2
          exact bodyPost_ret (v := .agg #[.slice A1 hs.length q1]) (by simp [results, Try.results11, go_sem, hend]) rfl (HIX.out.out HR.out HA.out HOK.out hl6 (by omega) _)
        · have hb1 : decide ((1 : Int) < (hs.length : Int)) = true := decide_eq_true (by omega)
          clear hI hend hok fR cR
          go_wp2_with fail
          refine (pick_any hs.length g p' A n cap bs wr (by omega) (by omega) (by omega) R).mono ?_
          rintro e w3 ⟨v, rfl, hv0, hv1, R3, hg3⟩
          obtain ⟨f, rfl⟩ := Int.eq_ofNat_of_zero_le hv0
          have hf : f < hs.length := by omega
          have hI3 := HIX.out.gx hg3
          have cH3 := hI3.cH
          have HI3 := Lib.hid hI3
          clear hg3 cT cH HR HIX R hv0 hv1 hI3
          go_wp2_with fail
          refine (pick_any hs.length g (p' + 1) A n cap bs w3 (by omega) (by omega) (by omega) R3).mono ?_
          rintro e w4 ⟨v, rfl, hv0, hv1, R4, hg4⟩
          obtain ⟨i, rfl⟩ := Int.eq_ofNat_of_zero_le hv0
          have hi : i < hs.length := by omega
          have hI4 := HI3.out.gx hg4
          clear hg4 cH3 R3 HI3 hv0 hv1
          obtain ⟨len, hlen⟩ : ∃ q, hs.length = q + 1 := ⟨hs.length - 1, by omega⟩
          have hO := hI4.O
          rw [hlen] at hO
          obtain ⟨b, c1, hb⟩ := own_some hO
          injection hb with hb _ hb3
          subst hb
          subst hb3
          rw [← hlen] at hO
          have HLEN := Lib.hid hlen
          clear hlen
          have hbb := hO.lt b rfl
          have hbg : b ≠ g := by omega
          have HAB : Hid (0 < n → ∀ a, A = some a → a.block ≠ b) := fun hn a e => by have := HA.out hn a e; omega
          have hwj : IntKind.i64.wrap ((j : Int) + 1 - 1) = (j : Int) := by rw [Int.add_sub_cancel]; exact IntWalk.i64_in _ (by omega)
          have cH4 := hI4.cH
          have HI4 := Lib.hid hI4
          have hokk := HOK.out
          by_cases hfi : f = i
          · subst hfi
            have hbe : ((f : Int) == (f : Int)) = true := by simp
            have k4 := hO.cellAt (f * 5 + 4) (by omega)
            rw [show (hs.flatMap (Enc.cells (α := Flt)))[f * 5 + 4]? = _ from (flat_at hs f hf 4 (by decide))] at k4
            simp only [Enc.cells, List.getElem?_cons_succ, List.getElem?_cons_zero] at k4
            have e4 := hO.frozenAt (f * 5 + 4)
            have O5 := (hO.stored (f * 5 + 4) (.bool (!hs[f].hide))).1
            rw [flat_hid hs f hf (!hs[f].hide)] at O5
            have HI5 := Lib.hid (HI4.out.turn (grown_set w4 b (f * 5 + 4) (.bool (!hs[f].hide))) (setF_len hs (f : Int) (hidF (!hs[f].hide))) O5)
            have HOK5 := Lib.hid (ok_hid hf (!hs[f].hide) hokk)
            have R5 := Lib.hid (R4.setNew (o := f * 5 + 4) (.bool (!hs[f].hide)) hbg HAB.out)
            have HL5 : Hid ((setF hs (f : Int) (hidF (!hs[f].hide))).length ≤ 6) := by show _ ≤ _; rw [setF_len]; exact hl6
            clear hO O5 hI4 R4 HI4 hokk
            replace HI5 := Lib.hid (HI5.out.le (Le.refl _).drew)
            replace R5 := Lib.hid (R5.out.le (Le.refl _).drew)
            replace cH4 : w4.drew.cell? ⟨w.heap.size + 1 + 1 + 1, 0, none⟩ = some (.slice (some ⟨b, 0, none⟩) hs.length q1) := cH4
            replace k4 : w4.drew.cell? ⟨b, f * 5 + 4, none⟩ = some (.bool hs[f].hide) := k4
            replace e4 : w4.drew.frozen? ⟨b, f * 5 + 4, none⟩ = false := e4
            go_wp2_with fail
            refine wp_region_noPanic ?_
            refine wp_region_Z (fun w' => w'.cell? ⟨w.heap.size + 1 + 1 + 1, 0, none⟩ = some (.slice (some ⟨b, 0, none⟩) hs.length q1) ∧ w'.cell? ⟨b, f * 5 + 4, none⟩ = some (.bool hs[f].hide)) [12] (by kernel_rfl) ?_
            refine wpAnyZ_take (i := 0) (v := ?_) rfl (by kernel_rfl) (fun _ _ _ h => h) (Or.inl ⟨by rfl, ?_⟩) (⟨cH4, k4⟩) ?_
            rotate_left 1
            · (intro w hSw; (try dsimp only at hSw); go_simp; try with_reducible rfl)
            try simp only [Act.put, List.setIfInBounds_toArray, List.set_cons_zero, List.set_cons_succ]
            refine wpAnyZ_take (i := 1) (v := ?_) rfl (by kernel_rfl) (fun _ _ _ h => h) (Or.inl ⟨by rfl, ?_⟩) (⟨cH4, k4⟩) ?_
            rotate_left 1
            · (intro w hSw; (try dsimp only at hSw); go_simp; try with_reducible rfl)
            try simp only [Act.put, List.setIfInBounds_toArray, List.set_cons_zero, List.set_cons_succ]
            refine wpAnyZ_take (i := 2) (v := ?_) rfl (by kernel_rfl) (fun _ _ _ h => h) (Or.inl ⟨by rfl, ?_⟩) (⟨cH4, k4⟩) ?_
            rotate_left 1
            · (intro w hSw; (try dsimp only at hSw); go_simp; try with_reducible rfl)
            try simp only [Act.put, List.setIfInBounds_toArray, List.set_cons_zero, List.set_cons_succ]
            refine wpAnyZ_take (i := 3) (v := ?_) rfl (by kernel_rfl) (fun _ _ _ h => h) (Or.inl ⟨by rfl, ?_⟩) (⟨cH4, k4⟩) ?_
            rotate_left 1
            · (intro w hSw; (try dsimp only at hSw); go_simp; try with_reducible rfl)
            try simp only [Act.put, List.setIfInBounds_toArray, List.set_cons_zero, List.set_cons_succ]
            refine wpAnyZ_take (i := 4) (v := ?_) rfl (by kernel_rfl) (fun _ _ _ h => h) (Or.inl ⟨by rfl, ?_⟩) (⟨cH4, k4⟩) ?_
            rotate_left 1
            · (intro w hSw; (try dsimp only at hSw); go_simp; try with_reducible rfl)
            try simp only [Act.put, List.setIfInBounds_toArray, List.set_cons_zero, List.set_cons_succ]
            refine wpAnyZ_take (i := 5) (v := ?_) rfl (by kernel_rfl) (fun _ _ _ h => h) (Or.inl ⟨by rfl, ?_⟩) (⟨cH4, k4⟩) ?_
            rotate_left 1
            · (intro w hSw; (try dsimp only at hSw); go_simp; try with_reducible rfl)
            try simp only [Act.put, List.setIfInBounds_toArray, List.set_cons_zero, List.set_cons_succ]
            refine wpAnyZ_take (i := 6) (v := ?_) rfl (by kernel_rfl) (fun _ _ _ h => h) (Or.inl ⟨by rfl, ?_⟩) (⟨cH4, k4⟩) ?_
            rotate_left 1
            · (intro w hSw; (try dsimp only at hSw); go_simp; try with_reducible rfl)
            try simp only [Act.put, List.setIfInBounds_toArray, List.set_cons_zero, List.set_cons_succ]
            refine wpAnyZ_take (i := 7) (v := ?_) rfl (by kernel_rfl) (fun _ _ _ h => h) (Or.inl ⟨by rfl, ?_⟩) (⟨cH4, k4⟩) ?_
            rotate_left 1
            · (intro w hSw; (try dsimp only at hSw); go_simp; try with_reducible rfl)
            try simp only [Act.put, List.setIfInBounds_toArray, List.set_cons_zero, List.set_cons_succ]
            refine wpAnyZ_take (i := 8) (v := ?_) rfl (by kernel_rfl) (fun _ _ _ h => h) (Or.inl ⟨by rfl, ?_⟩) (⟨cH4, k4⟩) ?_
            rotate_left 1
            · (intro w hSw; (try dsimp only at hSw); go_simp; try with_reducible rfl)
            try simp only [Act.put, List.setIfInBounds_toArray, List.set_cons_zero, List.set_cons_succ]
            refine wpAnyZ_take (i := 9) (v := ?_) rfl (by kernel_rfl) (fun _ _ _ h => h) (Or.inl ⟨by rfl, ?_⟩) (⟨cH4, k4⟩) ?_
            rotate_left 1
            · (intro w hSw; (try dsimp only at hSw); go_simp; try with_reducible rfl)
            try simp only [Act.put, List.setIfInBounds_toArray, List.set_cons_zero, List.set_cons_succ]
            refine wpAnyZ_take (i := 10) (v := ?_) rfl (by kernel_rfl) (fun _ _ _ h => h) (Or.inl ⟨by rfl, ?_⟩) (⟨cH4, k4⟩) ?_
            rotate_left 1
            · (intro w hSw; (try dsimp only at hSw); go_simp; try with_reducible rfl)
            try simp only [Act.put, List.setIfInBounds_toArray, List.set_cons_zero, List.set_cons_succ]
            refine wpAnyZ_take (i := 11) (v := ?_) rfl (by kernel_rfl) (fun _ _ _ h => h) (Or.inl ⟨by rfl, ?_⟩) (⟨cH4, k4⟩) ?_
            rotate_left 1
            · (intro w hSw; (try dsimp only at hSw); go_simp; try with_reducible rfl)
            try simp only [Act.put, List.setIfInBounds_toArray, List.set_cons_zero, List.set_cons_succ]
            refine wpAnyZ_one (i := 12) (by kernel_rfl) (ReadyZ.mk rfl (fun K hK => ?_))
            go_simp
            refine hK.out _ _ (fun h => absurd h (by decide)) ?_
            clear hK K
            try simp only [Act.put, List.setIfInBounds_toArray, List.set_cons_zero, List.set_cons_succ]
            refine wpAnyZ_done (by kernel_rfl) ?_ _
            refine NoPanic.normal ?_
            go_wp2
            go_roundw
            case rel => exact ⟨_, _, _, j, p' + 1 + 1, by go_num, by omega, HL5.out, by omega, HOK5.out, HI5.out, R5.out⟩
            case measure => (simp [intOf]) <;> omega
          · have hbe : ((f : Int) == (i : Int)) = false := by simp; omega
            go_wp2_with fail
            refine (pick_any 3 g (p' + 1 + 1) A n cap bs w4 (by omega) (by omega) (by omega) R4).mono ?_
            rintro e w5 ⟨v, rfl, hv0, hv1, R5, hg5⟩
            have hI5 := HI4.out.gx hg5
            have hO5 := hI5.O
            have cH5 := hI5.cH
            have fH5 := hI5.fH
            have cT5 := hI5.cT
            have cR5 := hI5.cR
            have fR5 := hI5.fR
            clear hg5 hO hI4 HI4 R4 cH4
            by_cases hv : v = 0
            · subst hv
              have k2 := hO5.cellAt (f * 5 + 2) (by omega)
              rw [show (hs.flatMap (Enc.cells (α := Flt)))[f * 5 + 2]? = _ from (flat_at hs f hf 2 (by decide))] at k2
              simp only [Enc.cells, List.getElem?_cons_succ, List.getElem?_cons_zero] at k2
              have e2 := hO5.frozenAt (f * 5 + 2)
              have O6 := (hO5.stored (f * 5 + 2) (.int .i64 (i : Int))).1
              have k4 := hO5.cellAt (f * 5 + 4) (by omega)
              rw [show (hs.flatMap (Enc.cells (α := Flt)))[f * 5 + 4]? = _ from (flat_at hs f hf 4 (by decide))] at k4
              simp only [Enc.cells, List.getElem?_cons_succ, List.getElem?_cons_zero] at k4
              have e4 := hO5.frozenAt (f * 5 + 4)
              have k6 : (w5.setCell ⟨b, f * 5 + 2, none⟩ (.int .i64 (i : Int))).cell? ⟨b, f * 5 + 4, none⟩ = some (.bool hs[f].hide) := (cell_set_other (.inr (by show f * 5 + 2 ≠ f * 5 + 4; omega))).trans k4
              have e6 : (w5.setCell ⟨b, f * 5 + 2, none⟩ (.int .i64 (i : Int))).frozen? ⟨b, f * 5 + 4, none⟩ = false := by simpa using e4
              have cH6 : (w5.setCell ⟨b, f * 5 + 2, none⟩ (.int .i64 (i : Int))).cell? ⟨w.heap.size + 1 + 1 + 1, 0, none⟩ = some (.slice (some ⟨b, 0, none⟩) hs.length q1) := (cell_set_other (.inl (fun e => hI5.nb (by rw [e]; rfl)))).trans cH5
              have O7 := (O6.stored (f * 5 + 4) (.bool true)).1
              rw [flat_cau hs f hf (i : Int)] at O7
              have HI7 := Lib.hid (hI5.turn (gx_set (grown_set w5 b (f * 5 + 2) (.int .i64 (i : Int))) (.bool true)) (setF_len hs (f : Int) (cauF (i : Int))) O7)
              have HOK7 := Lib.hid (ok_cau hf (c := (i : Int)) ⟨by omega, by omega, by omega⟩ hokk)
              have R7 := Lib.hid ((R5.setNew (o := f * 5 + 2) (.int .i64 (i : Int)) hbg HAB.out).setNew (o := f * 5 + 4) (.bool true) hbg HAB.out)
              have HL7 : Hid ((setF hs (f : Int) (cauF (i : Int))).length ≤ 6) := by show _ ≤ _; rw [setF_len]; exact hl6
              clear hO5 O6 O7 hI5 R5 hokk cT5 cR5 fR5 k4 e4
              go_wp2
              go_roundw
              case rel => exact ⟨_, _, _, j, p' + 1 + 1 + 1, by go_num, by omega, HL7.out, by omega, HOK7.out, HI7.out, R7.out⟩
              case measure => (simp [intOf]) <;> omega
            · have hvb : (v == 0) = false := by simpa using hv
              have hgf : goodF T8 hs (f : Int) = true := by unfold goodF; rw [hokk, hasF_iff.2 ⟨by omega, by omega⟩]; rfl
              have hgi : goodF T8 hs (i : Int) = true := by unfold goodF; rw [hokk, hasF_iff.2 ⟨by omega, by omega⟩]; rfl
              have S5 := hI5.sl hokk
              go_wp2_with fail
              refine (sRaised_any _ _ _ T8 hs (f : Int) (i : Int) w5 S5 hgf hgi).mono ?_
              rintro e w6 ⟨v, rfl, D, hle⟩
              have HOK6 := Lib.hid (ok_raised hokk hf hi)
              have HL6 : Hid ((raisedL hs (f : Int) (i : Int)).length ≤ 6) := by show _ ≤ _; rw [raisedL_len]; exact hl6
              generalize raisedL hs (f : Int) (i : Int) = ks at *
              have hI6 := hI5.le hle
              obtain ⟨A2, q2, rfl, hI7⟩ := hI5.put hle D
              have R7 := Lib.hid ((R5.le hle).setNew (o := 0) (.slice A2 ks.length q2) (show w.heap.size + 1 + 1 + 1 ≠ g by omega) (fun hn a e => by have := HA.out hn a e; omega))
              have HI7 := Lib.hid hI7
              have cH6 := hI6.cH
              have fH6 := hI6.fH
              clear hI7 hI6 hI5 R5 D hle hO5 S5 hgf hgi hokk cT5 cR5 fR5 cH5 fH5
              go_wp2
              go_roundw
              case rel => exact ⟨A2, q2, ks, j, p' + 1 + 1 + 1, by go_num, by omega, HL6.out, by omega, HOK6.out, HI7.out, R7.out⟩
              case measure => (simp [intOf]) <;> omega
/-- a tree and a heap that were drawn -/
def SH (k g p : Nat) (A : Option Addr) (n cap : Nat) (bs : List By) (w : World) (e : Ending) (w' : World) : Prop :=
  ∃ (B : Option Addr) (m c : Nat) (xs : List Cls) (A1 : Option Addr) (q1 : Nat) (hs : List Flt) (p' : Nat), e = .returned (.tuple #[.agg #[.slice B m c], .agg #[.slice A1 hs.length q1]]) ∧ Sl w' B m c xs ∧ m ≤ 8 ∧ (0 < m → Off g B) ∧ (0 < m → ∀ a, B = some a → w.heap.size ≤ a.block) ∧
    w'.ownsRow w.heap.size 45 5 (.slice A1 hs.length q1) hs.length (hs.flatMap Enc.cells) ∧ (∀ x ∈ hs, Enc.ok x) ∧ hs.length ≤ 6 ∧ p' ≤ p + k ∧ Rd w' g p' A n cap bs ∧ Gx g w w'
/-- what someHeap keeps in its boxes: t the tree's, h the heap's -/
structure SI (b g t h : Nat) (w : World) (B : Option Addr) (m c : Nat) (xs : List Cls) (A1 : Option Addr) (q1 : Nat) (hs : List Flt) (wr : World) : Prop where
  hb : b = w.heap.size
  gw : g ≠ b ∧ g ≠ b + 1 ∧ g ≠ t ∧ g ≠ h
  c0 : wr.cell? ⟨b, 0, none⟩ = some (.slice none 0 0)
  f0 : wr.frozen? ⟨b, 0, none⟩ = false
  c1 : wr.cell? ⟨b + 1, 0, none⟩ = some (.slice none 0 0)
  f1 : wr.frozen? ⟨b + 1, 0, none⟩ = false
  cT : wr.cell? ⟨t, 0, none⟩ = some (.slice B m c)
  ht : b + 1 < t
  cH : wr.cell? ⟨h, 0, none⟩ = some (.slice A1 hs.length q1)
  hh : t < h
  S : Sl wr B m c xs
  HB : 0 < m → ∀ a, B = some a → b + 1 < a.block ∧ a.block ≠ t ∧ a.block ≠ g
  O : wr.ownsRow b 45 5 (.slice A1 hs.length q1) hs.length (hs.flatMap Enc.cells)
  nb : ∀ k, (Value.slice A1 hs.length q1).ownBlock = some k → b + 1 < k ∧ k ≠ t ∧ k ≠ h ∧ k ≠ g
  sz : h < wr.heap.size
  G : Gx g w wr
variable {b g t h : Nat} {w : World} {B : Option Addr} {m c : Nat} {xs : List Cls} {A1 : Option Addr} {q1 : Nat} {hs : List Flt} {wr w' : World}
theorem SI.gx (H : SI b g t h w B m c xs A1 q1 hs wr) (hg : Gx g wr w') : SI b g t h w B m c xs A1 q1 hs w' := by
  have := H.gw; have := H.ht; have := H.hh; have := H.sz
  have hnb := H.nb
  exact ⟨H.hb, H.gw, (hg.cell (k := b) (o := 0) (by omega) (by omega)).trans H.c0, (hg.frozen (k := b) (o := 0) (by omega) (by omega)).trans H.f0, (hg.cell (k := b + 1) (o := 0) (by omega) (by omega)).trans H.c1, (hg.frozen (k := b + 1) (o := 0) (by omega) (by omega)).trans H.f1,
    (hg.cell (k := t) (o := 0) (by omega) (by omega)).trans H.cT, H.ht, (hg.cell (k := h) (o := 0) (by omega) (by omega)).trans H.cH, H.hh, H.S.gx (fun hn a e => by have := H.HB hn a e; omega) hg, H.HB, H.O.kept hg (.inr (fun e => by have := H.nb _ e; omega)), H.nb, Nat.lt_of_lt_of_le H.sz hg.size, H.G.trans hg⟩
theorem SI.le (H : SI b g t h w B m c xs A1 q1 hs wr) (hl : Le wr w') : SI b g t h w B m c xs A1 q1 hs w' := H.gx (Gx.of_le hl)
theorem SI.offB (H : SI b g t h w B m c xs A1 q1 hs wr) : 0 < m → Off g B := fun hn a e => by have := H.HB hn a e; have := H.gw; omega
theorem SI.turn {k o : Nat} {u : Value} {ks : List Flt} (H : SI b g t h w B m c xs (some ⟨k, 0, none⟩) q1 hs wr) (hl : ks.length = hs.length) (hsep : 0 < m → ∀ a, B = some a → a.block ≠ k)
    (hO : (wr.setCell ⟨k, o, none⟩ u).ownsRow b 45 5 (.slice (some ⟨k, 0, none⟩) hs.length q1) hs.length (ks.flatMap Enc.cells)) : SI b g t h w B m c xs (some ⟨k, 0, none⟩) q1 ks (wr.setCell ⟨k, o, none⟩ u) := by
  have := H.gw; have := H.ht; have := H.hh; have := H.sz
  have hk := H.nb k rfl
  refine ⟨H.hb, H.gw, (cell_set_other (.inl (by omega))).trans H.c0, by simpa using H.f0, (cell_set_other (.inl (by omega))).trans H.c1, by simpa using H.f1, (cell_set_other (.inl (by omega))).trans H.cT, H.ht, by rw [hl]; exact (cell_set_other (.inl (by omega))).trans H.cH, H.hh,
    H.S.grown (grown_set wr k o u) (fun hn a e => ?_), H.HB, by rw [hl]; exact hO, by rw [hl]; exact H.nb, by simpa [World.setCell] using H.sz, H.G.setNewF (by have := H.hb; omega) u⟩
  have := hsep hn a e
  intro e2; injection e2 with e2; exact this e2
/-- the end: both results' boxes are written -/
theorem SI.out {p p' n cap : Nat} {A : Option Addr} {bs : List By} (H : SI b g t h w B m c xs A1 q1 hs wr) (R : Rd wr g p' A n cap bs) (hA : 0 < n → ∀ a, A = some a → a.block < b) (hok : ∀ x ∈ hs, Enc.ok x) (hm : m ≤ 8) (hl : hs.length ≤ 6) (hp : p' ≤ p + 70) {l : Nat} (hlen : hs.length = l) (u v : Value) :
    SH 70 g p A n cap bs w (.returned (.tuple #[.agg #[.slice B m c], .agg #[.slice A1 l q1]])) ((wr.setCell ⟨b, 0, none⟩ u).setCell ⟨b + 1, 0, none⟩ v) := by
  subst hlen
  have := H.gw; have := H.ht; have hb := H.hb
  refine ⟨B, m, c, xs, A1, q1, hs, p', rfl, (H.S.grown (grown_set wr b 0 u) (fun hn a e e2 => ?_)).grown (grown_set _ (b + 1) 0 v) (fun hn a e e2 => ?_), hm, H.offB, fun hn a e => by have := H.HB hn a e; omega, ?_, hok, hl, hp, (R.setNew (o := 0) u (by omega) (fun hn a e => by have := hA hn a e; omega)).setNew (o := 0) v (by omega) (fun hn a e => by have := hA hn a e; omega), (H.G.setNewF (by omega) u).setNewF (by omega) v⟩
  · have := H.HB hn a e; injection e2 with e2; omega
  · have := H.HB hn a e; injection e2 with e2; omega
  · rw [← hb]
    exact (H.O.kept (grown_set wr b 0 u) (.inr (fun e => by have := H.nb _ e; omega))).kept (grown_set _ (b + 1) 0 v) (.inr (fun e => by have := H.nb _ e; omega))
theorem SI.k0 (H : SI b g t h w B m c xs A1 q1 hs wr) (u v : Value) : ((wr.setCell ⟨b, 0, none⟩ u).setCell ⟨b + 1, 0, none⟩ v).cell? ⟨b, 0, none⟩ = some u := (cell_set_other (.inl (by omega))).trans (cell_set_same H.c0)
theorem SI.k1 (H : SI b g t h w B m c xs A1 q1 hs wr) (u v : Value) : ((wr.setCell ⟨b, 0, none⟩ u).setCell ⟨b + 1, 0, none⟩ v).cell? ⟨b + 1, 0, none⟩ = some v := cell_set_same ((cell_set_other (.inl (by omega))).trans H.c1)
theorem SI.kz (H : SI b g t h w B m c xs A1 q1 hs wr) (u : Value) : (wr.setCell ⟨b, 0, none⟩ u).cell? ⟨b + 1, 0, none⟩ = some (.slice none 0 0) := (cell_set_other (.inl (by omega))).trans H.c1
theorem SI.kh (H : SI b g t h w B m c xs A1 q1 hs wr) (u : Value) : (wr.setCell ⟨b, 0, none⟩ u).cell? ⟨h, 0, none⟩ = some (.slice A1 hs.length q1) := (cell_set_other (.inl (by have := H.ht; have := H.hh; omega))).trans H.cH
theorem SI.kt (H : SI b g t h w B m c xs A1 q1 hs wr) (u : Value) : (wr.setCell ⟨b, 0, none⟩ u).cell? ⟨t, 0, none⟩ = some (.slice B m c) := (cell_set_other (.inl (by have := H.ht; omega))).trans H.cT
theorem SI.fz (H : SI b g t h w B m c xs A1 q1 hs wr) (u : Value) : (wr.setCell ⟨b, 0, none⟩ u).frozen? ⟨b + 1, 0, none⟩ = false := by simpa using H.f1
set_option maxHeartbeats 8000000 in
set_option maxRecDepth 100000 in
theorem someHeap_any (g p : Nat) (A : Option Addr) (n cap : Nat) (bs : List By) (w : World) (hp : p ≤ 600000) (hR : Rd w g p A n cap bs) :
    Calls Try.prog 10 #[.pointer (some ⟨g, 0, none⟩)] w (SH 70 g p A n cap bs w) := by
  have hgw := hR.lt
  have HA : Hid (0 < n → ∀ a, A = some a → a.block < w.heap.size) := fun hn a e => hR.sl.under hn a e
  go_enter Try.func10, Try.ntmps10
  go_wp2_with fail
  obtain ⟨c0, z0, c1, z1, L0⟩ := box2 w (.slice none 0 0) (.slice none 0 0) 25 28
  have f0 : ((w.alloc (.cells #[.slice none 0 0] 25)).alloc (.cells #[.slice none 0 0] 28)).frozen? ⟨w.heap.size, 0, none⟩ = false := by
    rw [((Le.new _ _).frozen (b := w.heap.size) (o := 0) (by simp))]; exact World.frozen?_alloc_at _ _ _ _ rfl
  have f1 : ((w.alloc (.cells #[.slice none 0 0] 25)).alloc (.cells #[.slice none 0 0] 28)).frozen? ⟨w.heap.size + 1, 0, none⟩ = false := World.frozen?_alloc_at _ _ _ _ (by simp)
  have R0 := hR.le L0
  generalize (w.alloc (.cells #[.slice none 0 0] 25)).alloc (.cells #[.slice none 0 0] 28) = W at *
  refine (someTree_any g p A n cap bs W (by omega) R0).mono ?_
  rintro e w1 ⟨B, m, c, p1, xs, rfl, S, hm, hoff, hab, hp1, R, hg⟩
  have s1 := hg.size
  have hgz : w.heap.size ≠ g := by omega
  have hgz1 : w.heap.size + 1 ≠ g := by omega
  replace c0 := (hg.cell (k := w.heap.size) (o := 0) z0 hgz).trans c0
  replace f0 := (hg.frozen (k := w.heap.size) (o := 0) z0 hgz).trans f0
  replace c1 := (hg.cell (k := w.heap.size + 1) (o := 0) z1 hgz1).trans c1
  replace f1 := (hg.frozen (k := w.heap.size + 1) (o := 0) z1 hgz1).trans f1
  have G := (Gx.of_le (g := g) L0).trans hg
  have HB : Hid (0 < m → ∀ a, B = some a → w.heap.size + 1 < a.block ∧ a.block < w1.heap.size) := fun h a e => ⟨by have := hab h a e; omega, S.under h a e⟩
  clear hg R0 hab L0
  go_wp2_with fail
  obtain ⟨ct, zt, LB⟩ := box1 w1 (.slice B m c) 25
  have st : (w1.alloc (.cells #[.slice B m c] 25)).heap.size = w1.heap.size + 1 := by simp
  replace R := R.le LB
  replace S := S.le LB
  replace G := G.trans (Gx.of_le LB)
  replace c0 := (LB.cell (b := w.heap.size) (o := 0) (by omega)).trans c0
  replace f0 := (LB.frozen (b := w.heap.size) (o := 0) (by omega)).trans f0
  replace c1 := (LB.cell (b := w.heap.size + 1) (o := 0) (by omega)).trans c1
  replace f1 := (LB.frozen (b := w.heap.size + 1) (o := 0) (by omega)).trans f1
  clear LB
  generalize w1.alloc (.cells #[.slice B m c] 25) = W1 at *
  refine (goodHeap_any B m c g p1 A n cap bs W1 hm (by omega) R).mono ?_
  rintro e w2 ⟨v, hs, p2, rfl, O, hok, hl6, hp2, R2, hg⟩
  obtain ⟨A1, q1, rfl⟩ := own_form O
  have hlt := O.lt
  have HLT : Hid (∀ k, (Value.slice A1 hs.length q1).ownBlock = some k → W1.heap.size ≤ k ∧ k < w2.heap.size) := hlt
  have HOK := Lib.hid (ok_enc hok)
  have hI : SI w.heap.size g w1.heap.size w2.heap.size w B m c xs A1 q1 hs (w2.alloc (.cells #[.slice A1 hs.length q1] 28)) := by
    have s2 := hg.size
    have L := Le.new w2 (.cells #[.slice A1 hs.length q1] 28)
    exact ⟨rfl, ⟨by omega, by omega, by omega, by omega⟩, (L.cell (b := w.heap.size) (o := 0) (by omega)).trans ((hg.cell (k := w.heap.size) (o := 0) (by omega) hgz).trans c0), (L.frozen (b := w.heap.size) (o := 0) (by omega)).trans ((hg.frozen (k := w.heap.size) (o := 0) (by omega) hgz).trans f0),
      (L.cell (b := w.heap.size + 1) (o := 0) (by omega)).trans ((hg.cell (k := w.heap.size + 1) (o := 0) (by omega) hgz1).trans c1), (L.frozen (b := w.heap.size + 1) (o := 0) (by omega)).trans ((hg.frozen (k := w.heap.size + 1) (o := 0) (by omega) hgz1).trans f1),
      (L.cell (b := w1.heap.size) (o := 0) (by omega)).trans ((hg.cell (k := w1.heap.size) (o := 0) (by omega) (by omega)).trans ct), by omega, by rw [World.cell?_alloc_at _ _ _ _ rfl]; rfl, by omega, (S.gx hoff hg).le L, fun hn a e => by have := HB.out hn a e; omega, own_le (own_mono O (by omega)) L, fun k hk => by have := hlt k hk; omega, by simp, (G.trans hg).trans (Gx.of_le L)⟩
  have R3 := R2.le (Le.new w2 (.cells #[.slice A1 hs.length q1] 28))
  clear c0 f0 c1 f1 ct G R S hlt O R2 hg hok
  have hT := hI.ht
  have hH := hI.hh
  rcases Nat.eq_zero_or_pos hs.length with h0 | h0
  · have hb0 : decide (0 < hs.length) = false := decide_eq_false (by omega)
    have hb0' : decide ((0 : Int) < (hs.length : Int)) = false := decide_eq_false (by omega)
    have HL0 := Lib.hid h0
    clear h0
    have HX := Lib.hid hI
    have RX := Lib.hid R3
    have HOKX : Hid (∀ x ∈ hs, Enc.ok x) := HOK.out
    have HLX : Hid ((hs).length ≤ 6) := hl6
    have cT : ((w2.alloc (.cells #[.slice A1 hs.length q1] 28))).cell? ⟨w1.heap.size, 0, none⟩ = some (.slice B m c) := hI.cT
    have cH : ((w2.alloc (.cells #[.slice A1 hs.length q1] 28))).cell? ⟨w2.heap.size, 0, none⟩ = some (.slice A1 hs.length q1) := hI.cH
    have k0 := hI.k0
    have k1 := hI.k1
    have kz := hI.kz
    have kz' : ∀ u, ((w2.alloc (.cells #[.slice A1 hs.length q1] 28)).setCell ⟨w.heap.size, 0, none⟩ u).drew.cell? ⟨w.heap.size + 1, 0, none⟩ = some (.slice none 0 0) := kz
    have fz := hI.fz
    have kh := hI.kh
    have kt := hI.kt
    have fz' : ∀ u, ((w2.alloc (.cells #[.slice A1 hs.length q1] 28)).setCell ⟨w.heap.size, 0, none⟩ u).drew.frozen? ⟨w.heap.size + 1, 0, none⟩ = false := fz
    have c0 := hI.c0
    have f0 := hI.f0
    clear hI R3
    go_wp2_with fail
    refine wp_region_noPanic ?_
    refine wp_region_Z (fun w' => w'.cell? ⟨w1.heap.size, 0, none⟩ = some (.slice B m c) ∧ w'.cell? ⟨w2.heap.size, 0, none⟩ = some (.slice A1 hs.length q1)) [3] (by kernel_rfl) ?_
    refine wpAnyZ_take (i := 0) (v := ?_) rfl (by kernel_rfl) (fun _ _ _ h => h) (Or.inl ⟨by rfl, ?_⟩) (⟨cT, cH⟩) ?_
    rotate_left 1
    · (intro w hSw; (try dsimp only at hSw); go_simp; try with_reducible rfl)
    try simp only [Act.put, List.setIfInBounds_toArray, List.set_cons_zero, List.set_cons_succ]
    refine wpAnyZ_take (i := 1) (v := ?_) rfl (by kernel_rfl) (fun _ _ _ h => h) (Or.inl ⟨by rfl, ?_⟩) (⟨cT, cH⟩) ?_
    rotate_left 1
    · (intro w hSw; (try dsimp only at hSw); go_simp; try with_reducible rfl)
    try simp only [Act.put, List.setIfInBounds_toArray, List.set_cons_zero, List.set_cons_succ]
    refine wpAnyZ_one (i := 2) (by kernel_rfl) (ReadyZ.mk rfl (fun K hK => ?_))
    go_simp
    refine hK.out _ _ (fun _ => ⟨kt _, kh _⟩) ?_
    clear hK K
    try simp only [Act.put, List.setIfInBounds_toArray, List.set_cons_zero, List.set_cons_succ]
    refine wpAnyZ_one (i := 3) (by kernel_rfl) (ReadyZ.mk rfl (fun K hK => ?_))
    go_simp
    refine hK.out _ _ (fun h => absurd h (by decide)) ?_
    clear hK K
    try simp only [Act.put, List.setIfInBounds_toArray, List.set_cons_zero, List.set_cons_succ]
    refine wpAnyZ_done (by kernel_rfl) ?_ _
    refine NoPanic.normal ?_
    go_wp2
    exact bodyPost_ret (v := .tuple #[.agg #[.slice B m c], .agg #[.slice A1 hs.length q1]]) (by simp [results, Try.results10, go_sem, k0, k1]) rfl ((HX.out.le (Le.refl _).drew).out (p := p) (RX.out.le (Le.refl _).drew) HA.out HOKX.out hm HLX.out (by omega) (by first | rfl | exact List.length_set ..) _ _)
  · have hb0 : decide (0 < hs.length) = true := decide_eq_true (by omega)
    have hb0' : decide ((0 : Int) < (hs.length : Int)) = true := decide_eq_true (by omega)
    have cT2 := hI.cT
    have cH2 := hI.cH
    go_wp2_with fail
    refine (pick_any hs.length g p2 A n cap bs _ (by omega) (by omega) (by omega) R3).mono ?_
    rintro e w3 ⟨v, rfl, hv0, hv1, R3', hg3⟩
    obtain ⟨k, rfl⟩ := Int.eq_ofNat_of_zero_le hv0
    have hk : k < hs.length := by omega
    have HI3 := Lib.hid (hI.gx hg3)
    clear hg3 hI R3 hv0 hv1 cT2 cH2
    go_wp2_with fail
    refine (pick_any 24 g (p2 + 1) A n cap bs w3 (by omega) (by omega) (by omega) R3').mono ?_
    rintro e w4 ⟨v, rfl, hv0, hv1, R4, hg4⟩
    have hI4 := HI3.out.gx hg4
    clear hg4 R3' HI3 hv0 hv1
    obtain ⟨len, hlen⟩ : ∃ q, hs.length = q + 1 := ⟨hs.length - 1, by omega⟩
    have hO := hI4.O
    rw [hlen] at hO
    obtain ⟨b, cc, hb⟩ := own_some hO
    injection hb with hb _ hb3
    subst hb
    subst hb3
    rw [← hlen] at hO
    have HLEN := Lib.hid hlen
    clear hlen h0
    have hbb := HLT.out b rfl
    have HSEP : Hid (0 < m → ∀ a, B = some a → a.block ≠ b) := fun hn a e => by have := HB.out hn a e; omega
    have hbg : b ≠ g := by omega
    have HAB : Hid (0 < n → ∀ a, A = some a → a.block ≠ b) := fun hn a e => by have := HA.out hn a e; omega
    have cH4 := hI4.cH
    have cT4 := hI4.cT
    have HI4 := Lib.hid hI4
    clear hI4
    by_cases v0 : v = 0
    · subst v0
      have kc := hO.cellAt (k * 5 + 3) (by omega)
      rw [show (hs.flatMap (Enc.cells (α := Flt)))[k * 5 + 3]? = _ from (flat_at hs k hk 3 (by decide))] at kc
      simp only [Enc.cells, List.getElem?_cons_succ, List.getElem?_cons_zero] at kc
      clear kc
      have cHd : w4.drew.cell? ⟨w2.heap.size, 0, none⟩ = some (.slice (some ⟨b, 0, none⟩) hs.length q1) := cH4
      have hkl : (k : Int) < (hs.length : Int) := by omega
      have R4d := R4.le (Le.refl w4).drew
      have hId := HI4.out.le (Le.refl w4).drew
      have cHL := fun o => (hId.le (Le.new w4.drew o)).cH
      clear hO cT4
      go_wp2_with fail
      go_region_held3 (fun w' => w'.cell? ⟨w2.heap.size, 0, none⟩ = some (.slice (some ⟨b, 0, none⟩) hs.length q1))
        (first | exact cHd | exact cHL _ | exact cH5 | exact cH6)
        (first | (go_at_call 21; refine (one_lit [(k : Int), 9, -2] 3 _ _ g (p2 + 1 + 1) A n cap bs w4.drew _ rfl rfl (by decide) (by decide) (by intro x hx; simp at hx; constructor <;> omega) (by omega) rfl R4d).mono ?_; rintro e w5 ⟨z, rfl, hz, R5, hg5⟩; have hz1 : -100 ≤ z ∧ z ≤ 100 := (by simp at hz; omega); have hI5 := hId.gx hg5; have cH5 := hI5.cH; have hO5 := hI5.O; have kc := hO5.cellAt (k * 5 + 3) (by omega); rw [show (hs.flatMap (Enc.cells (α := Flt)))[k * 5 + 3]? = _ from (flat_at hs k hk 3 (by decide))] at kc; simp only [Enc.cells, List.getElem?_cons_succ, List.getElem?_cons_zero] at kc; have ec := hO5.frozenAt (k * 5 + 3); have O6 := (hO5.stored (k * 5 + 3) (.int .i64 z)).1; rw [flat_flt_ctx hs k hk z] at O6; have hI6 := hI5.turn (List.length_set ..) HSEP.out O6; have R6 := Lib.hid (R5.setNew (o := k * 5 + 3) (.int .i64 z) hbg HAB.out); have cH6 : (w5.setCell ⟨b, k * 5 + 3, none⟩ (.int .i64 z)).cell? ⟨w2.heap.size, 0, none⟩ = some (.slice (some ⟨b, 0, none⟩) hs.length q1) := (cell_set_other (.inl (by omega))).trans cH5; have HI6 := Lib.hid hI6; clear hI6 O6 hO5 hI5 hg5 hz R5))
      have HOK6 : Hid (∀ x ∈ hs.set k {hs[k] with ctx := z}, Enc.ok x) := fun x hx => by
        rcases List.mem_or_eq_of_mem_set hx with h | rfl
        · exact HOK.out x h
        · have := HOK.out _ (List.getElem_mem hk)
          exact ⟨this.1, this.2.1, this.2.2.1, this.2.2.2.1, this.2.2.2.2.1, this.2.2.2.2.2.1, by show _ ≤ z; omega, by show z ≤ _; omega⟩
      have R3 := R6.out
      have hI := HI6.out
      replace hI : SI w.heap.size g w1.heap.size w2.heap.size w B m c xs (some ⟨b, 0, none⟩) q1 (hs.set k {hs[k] with ctx := z}) (w5.setCell ⟨b, k * 5 + 3, none⟩ (.int .i64 z)) := HI6.out
      clear HI6 R6 kc ec cH6 cH5 hId R4d cHd cHL R4 HI4 cH4
      have HX := Lib.hid hI
      have RX := Lib.hid R3
      have HOKX : Hid (∀ x ∈ hs.set k {hs[k] with ctx := z}, Enc.ok x) := HOK6.out
      have HLX : Hid ((hs.set k {hs[k] with ctx := z}).length ≤ 6) := by show _ ≤ _; rw [List.length_set]; exact hl6
      have cT : ((w5.setCell ⟨b, k * 5 + 3, none⟩ (.int .i64 z))).cell? ⟨w1.heap.size, 0, none⟩ = some (.slice B m c) := hI.cT
      have cH : ((w5.setCell ⟨b, k * 5 + 3, none⟩ (.int .i64 z))).cell? ⟨w2.heap.size, 0, none⟩ = some (.slice (some ⟨b, 0, none⟩) hs.length q1) := by have := hI.cH; rw [List.length_set] at this; exact this
      have k0 := hI.k0
      have k1 := hI.k1
      have kz := hI.kz
      have kz' : ∀ u, ((w5.setCell ⟨b, k * 5 + 3, none⟩ (.int .i64 z)).setCell ⟨w.heap.size, 0, none⟩ u).drew.cell? ⟨w.heap.size + 1, 0, none⟩ = some (.slice none 0 0) := kz
      have fz := hI.fz
      have kh := hI.kh; rw [List.length_set] at kh
      have kt := hI.kt
      have fz' : ∀ u, ((w5.setCell ⟨b, k * 5 + 3, none⟩ (.int .i64 z)).setCell ⟨w.heap.size, 0, none⟩ u).drew.frozen? ⟨w.heap.size + 1, 0, none⟩ = false := fz
      have c0 := hI.c0
      have f0 := hI.f0
      clear hI R3
      go_wp2_with fail
      refine wp_region_noPanic ?_
      refine wp_region_Z (fun w' => w'.cell? ⟨w1.heap.size, 0, none⟩ = some (.slice B m c) ∧ w'.cell? ⟨w2.heap.size, 0, none⟩ = some (.slice (some ⟨b, 0, none⟩) hs.length q1)) [3] (by kernel_rfl) ?_
      refine wpAnyZ_take (i := 0) (v := ?_) rfl (by kernel_rfl) (fun _ _ _ h => h) (Or.inl ⟨by rfl, ?_⟩) (⟨cT, cH⟩) ?_
      rotate_left 1
      · (intro w hSw; (try dsimp only at hSw); go_simp; try with_reducible rfl)
      try simp only [Act.put, List.setIfInBounds_toArray, List.set_cons_zero, List.set_cons_succ]
      refine wpAnyZ_take (i := 1) (v := ?_) rfl (by kernel_rfl) (fun _ _ _ h => h) (Or.inl ⟨by rfl, ?_⟩) (⟨cT, cH⟩) ?_
      rotate_left 1
      · (intro w hSw; (try dsimp only at hSw); go_simp; try with_reducible rfl)
      try simp only [Act.put, List.setIfInBounds_toArray, List.set_cons_zero, List.set_cons_succ]
      refine wpAnyZ_one (i := 2) (by kernel_rfl) (ReadyZ.mk rfl (fun K hK => ?_))
      go_simp
      refine hK.out _ _ (fun _ => ⟨kt _, kh _⟩) ?_
      clear hK K
      try simp only [Act.put, List.setIfInBounds_toArray, List.set_cons_zero, List.set_cons_succ]
      refine wpAnyZ_one (i := 3) (by kernel_rfl) (ReadyZ.mk rfl (fun K hK => ?_))
      go_simp
      refine hK.out _ _ (fun h => absurd h (by decide)) ?_
      clear hK K
      try simp only [Act.put, List.setIfInBounds_toArray, List.set_cons_zero, List.set_cons_succ]
      refine wpAnyZ_done (by kernel_rfl) ?_ _
      refine NoPanic.normal ?_
      go_wp2
      exact bodyPost_ret (v := .tuple #[.agg #[.slice B m c], .agg #[.slice (some ⟨b, 0, none⟩) hs.length q1]]) (by simp [results, Try.results10, go_sem, k0, k1]) rfl ((HX.out.le (Le.refl _).drew).out (p := p) (RX.out.le (Le.refl _).drew) HA.out HOKX.out hm HLX.out (by omega) (by first | rfl | exact List.length_set ..) _ _)
    · have e0 : (v == 0) = false := by simpa using v0
      by_cases v1 : v = 1
      · subst v1
        have kc := hO.cellAt (k * 5) (by omega)
        have cHd : w4.drew.cell? ⟨w2.heap.size, 0, none⟩ = some (.slice (some ⟨b, 0, none⟩) hs.length q1) := cH4
        have cTd : w4.drew.cell? ⟨w1.heap.size, 0, none⟩ = some (.slice B m c) := cT4
        have hkl : (k : Int) < (hs.length : Int) := by omega
        have R4d := R4.le (Le.refl w4).drew
        have hId := HI4.out.le (Le.refl w4).drew
        clear hO kc
        go_wp2_with fail
        go_region_held3 (fun w' => w'.cell? ⟨w2.heap.size, 0, none⟩ = some (.slice (some ⟨b, 0, none⟩) hs.length q1) ∧ w'.cell? ⟨w1.heap.size, 0, none⟩ = some (.slice B m c))
          (first | exact ⟨cHd, cTd⟩ | exact ⟨cH5, cT5⟩ | exact ⟨cH6, cT6⟩)
          (first | (go_at_call 22; refine (aClass_any B m c g (p2 + 1 + 1) A n cap bs w4.drew hm (by omega) R4d).mono ?_; rintro e w5 ⟨z, p3, rfl, hz1, hz2, hp3, R5, hg5⟩; have hI5 := hId.gx hg5; have cH5 := hI5.cH; have cT5 := hI5.cT; have hO5 := hI5.O; have kc := hO5.cellAt (k * 5) (by omega); rw [show (hs.flatMap (Enc.cells (α := Flt)))[k * 5]? = _ from (flat_at hs k hk 0 (by decide))] at kc; simp only [Enc.cells, List.getElem?_cons_zero] at kc; have ec := hO5.frozenAt (k * 5); have O6 := (hO5.stored (k * 5) (.int .i64 z)).1; rw [flat_flt_cls hs k hk z] at O6; have hI6 := hI5.turn (List.length_set ..) HSEP.out O6; have R6 := Lib.hid (R5.setNew (o := k * 5) (.int .i64 z) hbg HAB.out); have cH6 : (w5.setCell ⟨b, k * 5, none⟩ (.int .i64 z)).cell? ⟨w2.heap.size, 0, none⟩ = some (.slice (some ⟨b, 0, none⟩) hs.length q1) := (cell_set_other (.inl (by omega))).trans cH5; have cT6 : (w5.setCell ⟨b, k * 5, none⟩ (.int .i64 z)).cell? ⟨w1.heap.size, 0, none⟩ = some (.slice B m c) := (cell_set_other (.inl (by omega))).trans cT5; have HI6 := Lib.hid hI6; clear hI6 O6 hO5 hI5 hg5))
        have HOK6 : Hid (∀ x ∈ hs.set k {hs[k] with cls := z}, Enc.ok x) := fun x hx => by
          rcases List.mem_or_eq_of_mem_set hx with h | rfl
          · exact HOK.out x h
          · have := HOK.out _ (List.getElem_mem hk)
            exact ⟨by show _ ≤ z; omega, by show z ≤ _; omega, this.2.2⟩
        have R3 := R6.out
        have hI := HI6.out
        replace hI : SI w.heap.size g w1.heap.size w2.heap.size w B m c xs (some ⟨b, 0, none⟩) q1 (hs.set k {hs[k] with cls := z}) (w5.setCell ⟨b, k * 5, none⟩ (.int .i64 z)) := HI6.out
        clear HI6 R6 kc ec cH6 cT6 cH5 cT5 hId R4d cHd cTd R4 HI4 cH4 cT4
        have HX := Lib.hid hI
        have RX := Lib.hid R3
        have HOKX : Hid (∀ x ∈ hs.set k {hs[k] with cls := z}, Enc.ok x) := HOK6.out
        have HLX : Hid ((hs.set k {hs[k] with cls := z}).length ≤ 6) := by show _ ≤ _; rw [List.length_set]; exact hl6
        have cT : ((w5.setCell ⟨b, k * 5, none⟩ (.int .i64 z))).cell? ⟨w1.heap.size, 0, none⟩ = some (.slice B m c) := hI.cT
        have cH : ((w5.setCell ⟨b, k * 5, none⟩ (.int .i64 z))).cell? ⟨w2.heap.size, 0, none⟩ = some (.slice (some ⟨b, 0, none⟩) hs.length q1) := by have := hI.cH; rw [List.length_set] at this; exact this
        have k0 := hI.k0
        have k1 := hI.k1
        have kz := hI.kz
        have kz' : ∀ u, ((w5.setCell ⟨b, k * 5, none⟩ (.int .i64 z)).setCell ⟨w.heap.size, 0, none⟩ u).drew.cell? ⟨w.heap.size + 1, 0, none⟩ = some (.slice none 0 0) := kz
        have fz := hI.fz
        have kh := hI.kh; rw [List.length_set] at kh
        have kt := hI.kt
        have fz' : ∀ u, ((w5.setCell ⟨b, k * 5, none⟩ (.int .i64 z)).setCell ⟨w.heap.size, 0, none⟩ u).drew.frozen? ⟨w.heap.size + 1, 0, none⟩ = false := fz
        have c0 := hI.c0
        have f0 := hI.f0
        clear hI R3
        go_wp2_with fail
        refine wp_region_noPanic ?_
        refine wp_region_Z (fun w' => w'.cell? ⟨w1.heap.size, 0, none⟩ = some (.slice B m c) ∧ w'.cell? ⟨w2.heap.size, 0, none⟩ = some (.slice (some ⟨b, 0, none⟩) hs.length q1)) [3] (by kernel_rfl) ?_
        refine wpAnyZ_take (i := 0) (v := ?_) rfl (by kernel_rfl) (fun _ _ _ h => h) (Or.inl ⟨by rfl, ?_⟩) (⟨cT, cH⟩) ?_
        rotate_left 1
        · (intro w hSw; (try dsimp only at hSw); go_simp; try with_reducible rfl)
        try simp only [Act.put, List.setIfInBounds_toArray, List.set_cons_zero, List.set_cons_succ]
        refine wpAnyZ_take (i := 1) (v := ?_) rfl (by kernel_rfl) (fun _ _ _ h => h) (Or.inl ⟨by rfl, ?_⟩) (⟨cT, cH⟩) ?_
        rotate_left 1
        · (intro w hSw; (try dsimp only at hSw); go_simp; try with_reducible rfl)
        try simp only [Act.put, List.setIfInBounds_toArray, List.set_cons_zero, List.set_cons_succ]
        refine wpAnyZ_one (i := 2) (by kernel_rfl) (ReadyZ.mk rfl (fun K hK => ?_))
        go_simp
        refine hK.out _ _ (fun _ => ⟨kt _, kh _⟩) ?_
        clear hK K
        try simp only [Act.put, List.setIfInBounds_toArray, List.set_cons_zero, List.set_cons_succ]
        refine wpAnyZ_one (i := 3) (by kernel_rfl) (ReadyZ.mk rfl (fun K hK => ?_))
        go_simp
        refine hK.out _ _ (fun h => absurd h (by decide)) ?_
        clear hK K
        try simp only [Act.put, List.setIfInBounds_toArray, List.set_cons_zero, List.set_cons_succ]
        refine wpAnyZ_done (by kernel_rfl) ?_ _
        refine NoPanic.normal ?_
        go_wp2
        exact bodyPost_ret (v := .tuple #[.agg #[.slice B m c], .agg #[.slice (some ⟨b, 0, none⟩) hs.length q1]]) (by simp [results, Try.results10, go_sem, k0, k1]) rfl ((HX.out.le (Le.refl _).drew).out (p := p) (RX.out.le (Le.refl _).drew) HA.out HOKX.out hm HLX.out (by omega) (by first | rfl | exact List.length_set ..) _ _)
      · have e1 : (v == 1) = false := by simpa using v1
        by_cases v2 : v = 2
        · subst v2
          have kc := hO.cellAt (k * 5 + 1) (by omega)
          rw [show (hs.flatMap (Enc.cells (α := Flt)))[k * 5 + 1]? = _ from (flat_at hs k hk 1 (by decide))] at kc
          simp only [Enc.cells, List.getElem?_cons_succ, List.getElem?_cons_zero] at kc
          clear kc
          have cHd : w4.drew.cell? ⟨w2.heap.size, 0, none⟩ = some (.slice (some ⟨b, 0, none⟩) hs.length q1) := cH4
          have hkl : (k : Int) < (hs.length : Int) := by omega
          have R4d := R4.le (Le.refl w4).drew
          have hId := HI4.out.le (Le.refl w4).drew
          have cHL := fun o => (hId.le (Le.new w4.drew o)).cH
          clear hO cT4
          go_wp2_with fail
          go_region_held3 (fun w' => w'.cell? ⟨w2.heap.size, 0, none⟩ = some (.slice (some ⟨b, 0, none⟩) hs.length q1))
            (first | exact cHd | exact cHL _ | exact cH5 | exact cH6)
            (first | (go_at_call 21; refine (one_lit [-1, 100] 2 _ _ g (p2 + 1 + 1) A n cap bs w4.drew _ rfl rfl (by decide) (by decide) (by intro x hx; simp at hx; constructor <;> omega) (by omega) rfl R4d).mono ?_; rintro e w5 ⟨z, rfl, hz, R5, hg5⟩; have hz1 : -100 ≤ z ∧ z ≤ 100 := (by simp at hz; omega); have hI5 := hId.gx hg5; have cH5 := hI5.cH; have hO5 := hI5.O; have kc := hO5.cellAt (k * 5 + 1) (by omega); rw [show (hs.flatMap (Enc.cells (α := Flt)))[k * 5 + 1]? = _ from (flat_at hs k hk 1 (by decide))] at kc; simp only [Enc.cells, List.getElem?_cons_succ, List.getElem?_cons_zero] at kc; have ec := hO5.frozenAt (k * 5 + 1); have O6 := (hO5.stored (k * 5 + 1) (.int .i64 z)).1; rw [flat_flt_code hs k hk z] at O6; have hI6 := hI5.turn (List.length_set ..) HSEP.out O6; have R6 := Lib.hid (R5.setNew (o := k * 5 + 1) (.int .i64 z) hbg HAB.out); have cH6 : (w5.setCell ⟨b, k * 5 + 1, none⟩ (.int .i64 z)).cell? ⟨w2.heap.size, 0, none⟩ = some (.slice (some ⟨b, 0, none⟩) hs.length q1) := (cell_set_other (.inl (by omega))).trans cH5; have HI6 := Lib.hid hI6; clear hI6 O6 hO5 hI5 hg5 hz R5))
          have HOK6 : Hid (∀ x ∈ hs.set k {hs[k] with code := z}, Enc.ok x) := fun x hx => by
            rcases List.mem_or_eq_of_mem_set hx with h | rfl
            · exact HOK.out x h
            · have := HOK.out _ (List.getElem_mem hk)
              exact ⟨this.1, this.2.1, by show _ ≤ z; omega, by show z ≤ _; omega, this.2.2.2.2⟩
          have R3 := R6.out
          have hI := HI6.out
          replace hI : SI w.heap.size g w1.heap.size w2.heap.size w B m c xs (some ⟨b, 0, none⟩) q1 (hs.set k {hs[k] with code := z}) (w5.setCell ⟨b, k * 5 + 1, none⟩ (.int .i64 z)) := HI6.out
          clear HI6 R6 kc ec cH6 cH5 hId R4d cHd cHL R4 HI4 cH4
          have HX := Lib.hid hI
          have RX := Lib.hid R3
          have HOKX : Hid (∀ x ∈ hs.set k {hs[k] with code := z}, Enc.ok x) := HOK6.out
          have HLX : Hid ((hs.set k {hs[k] with code := z}).length ≤ 6) := by show _ ≤ _; rw [List.length_set]; exact hl6
          have cT : ((w5.setCell ⟨b, k * 5 + 1, none⟩ (.int .i64 z))).cell? ⟨w1.heap.size, 0, none⟩ = some (.slice B m c) := hI.cT
          have cH : ((w5.setCell ⟨b, k * 5 + 1, none⟩ (.int .i64 z))).cell? ⟨w2.heap.size, 0, none⟩ = some (.slice (some ⟨b, 0, none⟩) hs.length q1) := by have := hI.cH; rw [List.length_set] at this; exact this
          have k0 := hI.k0
          have k1 := hI.k1
          have kz := hI.kz
          have kz' : ∀ u, ((w5.setCell ⟨b, k * 5 + 1, none⟩ (.int .i64 z)).setCell ⟨w.heap.size, 0, none⟩ u).drew.cell? ⟨w.heap.size + 1, 0, none⟩ = some (.slice none 0 0) := kz
          have fz := hI.fz
          have kh := hI.kh; rw [List.length_set] at kh
          have kt := hI.kt
          have fz' : ∀ u, ((w5.setCell ⟨b, k * 5 + 1, none⟩ (.int .i64 z)).setCell ⟨w.heap.size, 0, none⟩ u).drew.frozen? ⟨w.heap.size + 1, 0, none⟩ = false := fz
          have c0 := hI.c0
          have f0 := hI.f0
          clear hI R3
          go_wp2_with fail
          refine wp_region_noPanic ?_
          refine wp_region_Z (fun w' => w'.cell? ⟨w1.heap.size, 0, none⟩ = some (.slice B m c) ∧ w'.cell? ⟨w2.heap.size, 0, none⟩ = some (.slice (some ⟨b, 0, none⟩) hs.length q1)) [3] (by kernel_rfl) ?_
          refine wpAnyZ_take (i := 0) (v := ?_) rfl (by kernel_rfl) (fun _ _ _ h => h) (Or.inl ⟨by rfl, ?_⟩) (⟨cT, cH⟩) ?_
          rotate_left 1
          · (intro w hSw; (try dsimp only at hSw); go_simp; try with_reducible rfl)
          try simp only [Act.put, List.setIfInBounds_toArray, List.set_cons_zero, List.set_cons_succ]
          refine wpAnyZ_take (i := 1) (v := ?_) rfl (by kernel_rfl) (fun _ _ _ h => h) (Or.inl ⟨by rfl, ?_⟩) (⟨cT, cH⟩) ?_
          rotate_left 1
          · (intro w hSw; (try dsimp only at hSw); go_simp; try with_reducible rfl)
          try simp only [Act.put, List.setIfInBounds_toArray, List.set_cons_zero, List.set_cons_succ]
          refine wpAnyZ_one (i := 2) (by kernel_rfl) (ReadyZ.mk rfl (fun K hK => ?_))
          go_simp
          refine hK.out _ _ (fun _ => ⟨kt _, kh _⟩) ?_
          clear hK K
          try simp only [Act.put, List.setIfInBounds_toArray, List.set_cons_zero, List.set_cons_succ]
          refine wpAnyZ_one (i := 3) (by kernel_rfl) (ReadyZ.mk rfl (fun K hK => ?_))
          go_simp
          refine hK.out _ _ (fun h => absurd h (by decide)) ?_
          clear hK K
          try simp only [Act.put, List.setIfInBounds_toArray, List.set_cons_zero, List.set_cons_succ]
          refine wpAnyZ_done (by kernel_rfl) ?_ _
          refine NoPanic.normal ?_
          go_wp2
          exact bodyPost_ret (v := .tuple #[.agg #[.slice B m c], .agg #[.slice (some ⟨b, 0, none⟩) hs.length q1]]) (by simp [results, Try.results10, go_sem, k0, k1]) rfl ((HX.out.le (Le.refl _).drew).out (p := p) (RX.out.le (Le.refl _).drew) HA.out HOKX.out hm HLX.out (by omega) (by first | rfl | exact List.length_set ..) _ _)
        · have e2 : (v == 2) = false := by simpa using v2
          by_cases v3 : v = 3
          · subst v3
            have kc := hO.cellAt (k * 5 + 2) (by omega)
            rw [show (hs.flatMap (Enc.cells (α := Flt)))[k * 5 + 2]? = _ from (flat_at hs k hk 2 (by decide))] at kc
            simp only [Enc.cells, List.getElem?_cons_succ, List.getElem?_cons_zero] at kc
            clear kc
            have cHd : w4.drew.cell? ⟨w2.heap.size, 0, none⟩ = some (.slice (some ⟨b, 0, none⟩) hs.length q1) := cH4
            have hkl : (k : Int) < (hs.length : Int) := by omega
            have R4d := R4.le (Le.refl w4).drew
            have hId := HI4.out.le (Le.refl w4).drew
            have cHL := fun o => (hId.le (Le.new w4.drew o)).cH
            clear hO cT4
            go_wp2_with fail
            go_region_held3 (fun w' => w'.cell? ⟨w2.heap.size, 0, none⟩ = some (.slice (some ⟨b, 0, none⟩) hs.length q1))
              (first | exact cHd | exact cHL _ | exact cH5 | exact cH6)
              (first | (go_at_call 21; refine (one_lit [(k : Int), 24, 0] 3 _ _ g (p2 + 1 + 1) A n cap bs w4.drew _ rfl rfl (by decide) (by decide) (by intro x hx; simp at hx; constructor <;> omega) (by omega) rfl R4d).mono ?_; rintro e w5 ⟨z, rfl, hz, R5, hg5⟩; have hz1 : -100 ≤ z ∧ z ≤ 100 := (by simp at hz; omega); have hI5 := hId.gx hg5; have cH5 := hI5.cH; have hO5 := hI5.O; have kc := hO5.cellAt (k * 5 + 2) (by omega); rw [show (hs.flatMap (Enc.cells (α := Flt)))[k * 5 + 2]? = _ from (flat_at hs k hk 2 (by decide))] at kc; simp only [Enc.cells, List.getElem?_cons_succ, List.getElem?_cons_zero] at kc; have ec := hO5.frozenAt (k * 5 + 2); have O6 := (hO5.stored (k * 5 + 2) (.int .i64 z)).1; rw [flat_flt_cause hs k hk z] at O6; have hI6 := hI5.turn (List.length_set ..) HSEP.out O6; have R6 := Lib.hid (R5.setNew (o := k * 5 + 2) (.int .i64 z) hbg HAB.out); have cH6 : (w5.setCell ⟨b, k * 5 + 2, none⟩ (.int .i64 z)).cell? ⟨w2.heap.size, 0, none⟩ = some (.slice (some ⟨b, 0, none⟩) hs.length q1) := (cell_set_other (.inl (by omega))).trans cH5; have HI6 := Lib.hid hI6; clear hI6 O6 hO5 hI5 hg5 hz R5))
            have HOK6 : Hid (∀ x ∈ hs.set k {hs[k] with cause := z}, Enc.ok x) := fun x hx => by
              rcases List.mem_or_eq_of_mem_set hx with h | rfl
              · exact HOK.out x h
              · have := HOK.out _ (List.getElem_mem hk)
                exact ⟨this.1, this.2.1, this.2.2.1, this.2.2.2.1, by show _ ≤ z; omega, by show z ≤ _; omega, this.2.2.2.2.2.2⟩
            have R3 := R6.out
            have hI := HI6.out
            replace hI : SI w.heap.size g w1.heap.size w2.heap.size w B m c xs (some ⟨b, 0, none⟩) q1 (hs.set k {hs[k] with cause := z}) (w5.setCell ⟨b, k * 5 + 2, none⟩ (.int .i64 z)) := HI6.out
            clear HI6 R6 kc ec cH6 cH5 hId R4d cHd cHL R4 HI4 cH4
            have HX := Lib.hid hI
            have RX := Lib.hid R3
            have HOKX : Hid (∀ x ∈ hs.set k {hs[k] with cause := z}, Enc.ok x) := HOK6.out
            have HLX : Hid ((hs.set k {hs[k] with cause := z}).length ≤ 6) := by show _ ≤ _; rw [List.length_set]; exact hl6
            have cT : ((w5.setCell ⟨b, k * 5 + 2, none⟩ (.int .i64 z))).cell? ⟨w1.heap.size, 0, none⟩ = some (.slice B m c) := hI.cT
            have cH : ((w5.setCell ⟨b, k * 5 + 2, none⟩ (.int .i64 z))).cell? ⟨w2.heap.size, 0, none⟩ = some (.slice (some ⟨b, 0, none⟩) hs.length q1) := by have := hI.cH; rw [List.length_set] at this; exact this
            have k0 := hI.k0
            have k1 := hI.k1
            have kz := hI.kz
            have kz' : ∀ u, ((w5.setCell ⟨b, k * 5 + 2, none⟩ (.int .i64 z)).setCell ⟨w.heap.size, 0, none⟩ u).drew.cell? ⟨w.heap.size + 1, 0, none⟩ = some (.slice none 0 0) := kz
            have fz := hI.fz
            have kh := hI.kh; rw [List.length_set] at kh
            have kt := hI.kt
            have fz' : ∀ u, ((w5.setCell ⟨b, k * 5 + 2, none⟩ (.int .i64 z)).setCell ⟨w.heap.size, 0, none⟩ u).drew.frozen? ⟨w.heap.size + 1, 0, none⟩ = false := fz
            have c0 := hI.c0
            have f0 := hI.f0
            clear hI R3
            go_wp2_with fail
            refine wp_region_noPanic ?_
            refine wp_region_Z (fun w' => w'.cell? ⟨w1.heap.size, 0, none⟩ = some (.slice B m c) ∧ w'.cell? ⟨w2.heap.size, 0, none⟩ = some (.slice (some ⟨b, 0, none⟩) hs.length q1)) [3] (by kernel_rfl) ?_
            refine wpAnyZ_take (i := 0) (v := ?_) rfl (by kernel_rfl) (fun _ _ _ h => h) (Or.inl ⟨by rfl, ?_⟩) (⟨cT, cH⟩) ?_
            rotate_left 1
            · (intro w hSw; (try dsimp only at hSw); go_simp; try with_reducible rfl)
            try simp only [Act.put, List.setIfInBounds_toArray, List.set_cons_zero, List.set_cons_succ]
            refine wpAnyZ_take (i := 1) (v := ?_) rfl (by kernel_rfl) (fun _ _ _ h => h) (Or.inl ⟨by rfl, ?_⟩) (⟨cT, cH⟩) ?_
            rotate_left 1
            · (intro w hSw; (try dsimp only at hSw); go_simp; try with_reducible rfl)
            try simp only [Act.put, List.setIfInBounds_toArray, List.set_cons_zero, List.set_cons_succ]
            refine wpAnyZ_one (i := 2) (by kernel_rfl) (ReadyZ.mk rfl (fun K hK => ?_))
            go_simp
            refine hK.out _ _ (fun _ => ⟨kt _, kh _⟩) ?_
            clear hK K
            try simp only [Act.put, List.setIfInBounds_toArray, List.set_cons_zero, List.set_cons_succ]
            refine wpAnyZ_one (i := 3) (by kernel_rfl) (ReadyZ.mk rfl (fun K hK => ?_))
            go_simp
            refine hK.out _ _ (fun h => absurd h (by decide)) ?_
            clear hK K
            try simp only [Act.put, List.setIfInBounds_toArray, List.set_cons_zero, List.set_cons_succ]
            refine wpAnyZ_done (by kernel_rfl) ?_ _
            refine NoPanic.normal ?_
            go_wp2
            exact bodyPost_ret (v := .tuple #[.agg #[.slice B m c], .agg #[.slice (some ⟨b, 0, none⟩) hs.length q1]]) (by simp [results, Try.results10, go_sem, k0, k1]) rfl ((HX.out.le (Le.refl _).drew).out (p := p) (RX.out.le (Le.refl _).drew) HA.out HOKX.out hm HLX.out (by omega) (by first | rfl | exact List.length_set ..) _ _)
          · have e3 : (v == 3) = false := by simpa using v3
            have R3 := R4
            have hI := HI4.out
            clear R4 HI4 cH4 cT4 hO v0 v1 v2 v3
            have HX := Lib.hid hI
            have RX := Lib.hid R3
            have HOKX : Hid (∀ x ∈ hs, Enc.ok x) := HOK.out
            have HLX : Hid ((hs).length ≤ 6) := hl6
            have cT : (w4).cell? ⟨w1.heap.size, 0, none⟩ = some (.slice B m c) := hI.cT
            have cH : (w4).cell? ⟨w2.heap.size, 0, none⟩ = some (.slice (some ⟨b, 0, none⟩) hs.length q1) := hI.cH
            have k0 := hI.k0
            have k1 := hI.k1
            have kz := hI.kz
            have kz' : ∀ u, (w4.setCell ⟨w.heap.size, 0, none⟩ u).drew.cell? ⟨w.heap.size + 1, 0, none⟩ = some (.slice none 0 0) := kz
            have fz := hI.fz
            have kh := hI.kh
            have kt := hI.kt
            have fz' : ∀ u, (w4.setCell ⟨w.heap.size, 0, none⟩ u).drew.frozen? ⟨w.heap.size + 1, 0, none⟩ = false := fz
            have c0 := hI.c0
            have f0 := hI.f0
            clear hI R3
            go_wp2_with fail
            refine wp_region_noPanic ?_
            refine wp_region_Z (fun w' => w'.cell? ⟨w1.heap.size, 0, none⟩ = some (.slice B m c) ∧ w'.cell? ⟨w2.heap.size, 0, none⟩ = some (.slice (some ⟨b, 0, none⟩) hs.length q1)) [3] (by kernel_rfl) ?_
            refine wpAnyZ_take (i := 0) (v := ?_) rfl (by kernel_rfl) (fun _ _ _ h => h) (Or.inl ⟨by rfl, ?_⟩) (⟨cT, cH⟩) ?_
            rotate_left 1
            · (intro w hSw; (try dsimp only at hSw); go_simp; try with_reducible rfl)
            try simp only [Act.put, List.setIfInBounds_toArray, List.set_cons_zero, List.set_cons_succ]
            refine wpAnyZ_take (i := 1) (v := ?_) rfl (by kernel_rfl) (fun _ _ _ h => h) (Or.inl ⟨by rfl, ?_⟩) (⟨cT, cH⟩) ?_
            rotate_left 1
            · (intro w hSw; (try dsimp only at hSw); go_simp; try with_reducible rfl)
            try simp only [Act.put, List.setIfInBounds_toArray, List.set_cons_zero, List.set_cons_succ]
            refine wpAnyZ_one (i := 2) (by kernel_rfl) (ReadyZ.mk rfl (fun K hK => ?_))
            go_simp
            refine hK.out _ _ (fun _ => ⟨kt _, kh _⟩) ?_
            clear hK K
            try simp only [Act.put, List.setIfInBounds_toArray, List.set_cons_zero, List.set_cons_succ]
            refine wpAnyZ_one (i := 3) (by kernel_rfl) (ReadyZ.mk rfl (fun K hK => ?_))
            go_simp
            refine hK.out _ _ (fun h => absurd h (by decide)) ?_
            clear hK K
            try simp only [Act.put, List.setIfInBounds_toArray, List.set_cons_zero, List.set_cons_succ]
            refine wpAnyZ_done (by kernel_rfl) ?_ _
            refine NoPanic.normal ?_
            go_wp2
            exact bodyPost_ret (v := .tuple #[.agg #[.slice B m c], .agg #[.slice (some ⟨b, 0, none⟩) hs.length q1]]) (by simp [results, Try.results10, go_sem, k0, k1]) rfl ((HX.out.le (Le.refl _).drew).out (p := p) (RX.out.le (Le.refl _).drew) HA.out HOKX.out hm HLX.out (by omega) (by first | rfl | exact List.length_set ..) _ _)
theorem equalHeap_self (A B : Option Addr) (n c d : Nat) (xs : List Flt) (w : World) (hR : Sl w A n c xs) (hS : Sl w B n d xs) :
    Calls Try.prog 7 #[.agg #[.slice A n c], .agg #[.slice B n d]] w fun e w' => e = .returned (.bool true) ∧ Le w w' := by
  obtain rfl := hR.len
  have hm := hR.n_le
  have hb : ((xs.length : Int) != (xs.length : Int)) = false := by simp
  go_enter Try.func7, Try.ntmps7
  go_wp2
  obtain ⟨c0, z0, c1, z1, L0⟩ := box2 w (.slice A xs.length c) (.slice B xs.length d) 28 28
  have S1 := hR.le L0
  have S2 := hS.le L0
  generalize (w.alloc (.cells #[.slice A xs.length c] 28)).alloc (.cells #[.slice B xs.length d] 28) = W at *
  go_loopw [5] (fun i wr => ∃ k : Nat, k ≤ xs.length ∧ i = .int .i64 k ∧ Le W wr) (fun i _ => xs.length - (intOf i).toNat)
  case atStart => exact ⟨0, Nat.zero_le _, rfl, Le.refl _⟩
  case round =>
    obtain ⟨k, hk, rfl, hle⟩ := hrel
    replace c0 := (hle.cell z0).trans c0
    replace c1 := (hle.cell z1).trans c1
    replace z0 := Nat.lt_of_lt_of_le z0 hle.size
    replace z1 := Nat.lt_of_lt_of_le z1 hle.size
    replace L0 := L0.trans hle
    replace S1 := S1.le hle
    replace S2 := S2.le hle
    by_cases hlt : k < xs.length
    · obtain ⟨b, off, rfl, hb1, k0, k1, k2, k3, k4, _⟩ := S1.flt_at hlt
      obtain ⟨b2, off2, rfl, hb2, d0, d1, d2, d3, d4, _⟩ := S2.flt_at hlt
      have E0 := cell_ext hb1 k0
      have E1 := cell_ext hb1 k1
      have E2 := cell_ext hb1 k2
      have E3 := cell_ext hb1 k3
      have E4 := cell_ext hb1 k4
      have F0 := cell_ext hb2 d0
      have F1 := cell_ext hb2 d1
      have F2 := cell_ext hb2 d2
      have F3 := cell_ext hb2 d3
      have F4 := cell_ext hb2 d4
      have G0 := cell_ext z0 c0
      have G1 := cell_ext z1 c1
      generalize xs[k].cls = v0 at *
      generalize xs[k].code = v1 at *
      generalize xs[k].cause = v2 at *
      generalize xs[k].ctx = v3 at *
      generalize xs[k].hide = v4 at *
      go_wp2_with fail
      refine wp_region_ext (by kernel_rfl) (by kernel_rfl) ?_
      repeat (go_big_quiet_step (fail))
      refine wpQuiet_nil ?_
      intro _ hw'
      obtain ⟨g, rfl⟩ := hw'
      have hw1 := Le.ext wr g
      generalize wr.ext g = W2 at *
      go_wp2
      go_roundw
      case rel => exact ⟨k + 1, by omega, by go_num, hle.trans hw1⟩
      case measure => simp [intOf]; omega
    · go_wp2
      go_ret
      exact ⟨rfl, L0⟩
variable {P : Program} {f : FuncId} {args : Array Value} {w : World} {T : TypeId}
theorem Calls.heap2 {hs : List Flt} {x : Value} (h : Calls P f args w fun e w' => ∃ v, e = .returned (.tuple #[.agg #[v], x]) ∧ Owd T w w' v hs ∧ Le w w') : Calls P f args w fun e w' => ∃ A c, e = .returned (.tuple #[.agg #[.slice A hs.length c], x]) ∧ Sl w' A hs.length c hs ∧ Le w w' :=
  h.mono fun _ _ ⟨v, he, ho, hl⟩ => by obtain ⟨A, c, e2, hs, _⟩ := ho.form (by decide); exact ⟨A, c, by rw [he, e2], hs, hl⟩
/-- a tree and two heaps, drawn anew -/
def DrJ (w : World) (e : Ending) (w' : World) : Prop :=
  ∃ (B : Option Addr) (m c : Nat) (xs : List Cls) (A1 : Option Addr) (q1 : Nat) (hs : List Flt) (A2 : Option Addr) (q2 : Nat) (ks : List Flt), e = .returned (.tuple #[.agg #[.slice B m c], .agg #[.slice A1 hs.length q1], .agg #[.slice A2 ks.length q2]]) ∧ Sl w' B m c xs ∧ m ≤ 8 ∧ Sl w' A1 hs.length q1 hs ∧ hs.length ≤ 6 ∧ Sl w' A2 ks.length q2 ks ∧ ks.length ≤ 6 ∧ Le w w'
theorem box3f (w : World) (v u x : Value) (T U X : TypeId) : ∃ W, W = ((w.alloc (.cells #[v] T)).alloc (.cells #[u] U)).alloc (.cells #[x] X) ∧ W.cell? ⟨w.heap.size, 0, none⟩ = some v ∧ W.cell? ⟨w.heap.size + 1, 0, none⟩ = some u ∧ W.cell? ⟨w.heap.size + 1 + 1, 0, none⟩ = some x ∧
    W.frozen? ⟨w.heap.size, 0, none⟩ = false ∧ W.frozen? ⟨w.heap.size + 1, 0, none⟩ = false ∧ W.frozen? ⟨w.heap.size + 1 + 1, 0, none⟩ = false ∧ W.heap.size = w.heap.size + 1 + 1 + 1 ∧ Le w W := by
  obtain ⟨c0, z0, c1, z1, c2, z2, L0⟩ := box3 w v u x T U X
  refine ⟨_, rfl, c0, c1, c2, ?_, ?_, World.frozen?_alloc_at _ _ _ _ (by simp), by simp, L0⟩
  · rw [(((Le.new _ _).alloc _).frozen (b := w.heap.size) (o := 0) (by simp))]; exact World.frozen?_alloc_at _ _ _ _ rfl
  · rw [((Le.new _ _).frozen (b := w.heap.size + 1) (o := 0) (by simp))]; exact World.frozen?_alloc_at _ _ _ _ (by simp)
set_option maxHeartbeats 4000000 in
set_option maxRecDepth 100000 in
theorem drawJoinHeaps_any (A : Option Addr) (n cap : Nat) (bs : List By) (w : World) (hR : Sl w A n cap bs) : Calls Try.prog 4 #[.slice A n cap] w (DrJ w) := by
  go_enter Try.func4, Try.ntmps4
  go_wp2_with fail
  obtain ⟨W, hWW, c0, c1, c2, f0, f1, f2, hw, L0⟩ := box3f w (.slice none 0 0) (.slice none 0 0) (.slice none 0 0) 25 28 28
  have S0 := hR.le L0
  rw [← hWW]
  clear hWW
  refine (newReader_any A n cap bs W S0).mono ?_
  rintro e w1 ⟨g, A1, n1, k1, bs1, rfl, hg, R1, hle⟩
  have s1 := hle.size
  replace c0 := (hle.cell (by omega)).trans c0
  replace c1 := (hle.cell (by omega)).trans c1
  replace c2 := (hle.cell (by omega)).trans c2
  replace f0 := (hle.frozen (by omega)).trans f0
  replace f1 := (hle.frozen (by omega)).trans f1
  replace f2 := (hle.frozen (by omega)).trans f2
  replace L0 := L0.trans hle
  have hgl := R1.lt
  clear S0 hle
  go_wp2_with fail
  refine (someHeap_any g 0 A1 n1 k1 bs1 w1 (by omega) R1).mono ?_
  rintro e w2 ⟨B, m, c, xs, A2, q2, hs, p2, rfl, S, hm, hoff, hab, O, hok, hl6, hp2, R2, hg2⟩
  have s2 := hg2.size
  replace c0 := (hg2.cell (k := w.heap.size) (o := 0) (by omega) (by omega)).trans c0
  replace f0 := (hg2.frozen (k := w.heap.size) (o := 0) (by omega) (by omega)).trans f0
  replace c1 := (hg2.cell (k := w.heap.size + 1) (o := 0) (by omega) (by omega)).trans c1
  replace f1 := (hg2.frozen (k := w.heap.size + 1) (o := 0) (by omega) (by omega)).trans f1
  replace c2 := (hg2.cell (k := w.heap.size + 1 + 1) (o := 0) (by omega) (by omega)).trans c2
  replace f2 := (hg2.frozen (k := w.heap.size + 1 + 1) (o := 0) (by omega) (by omega)).trans f2
  have L2 := Gx.le L0 hg2 (by omega)
  have hlt := O.lt
  obtain ⟨d0, y0, d1, y1, L3⟩ := box2 w2 (.slice B m c) (.slice A2 hs.length q2) 25 28
  replace c0 := (L3.cell (by omega)).trans c0
  replace c1 := (L3.cell (by omega)).trans c1
  replace c2 := (L3.cell (by omega)).trans c2
  replace f0 := (L3.frozen (by omega)).trans f0
  replace f1 := (L3.frozen (by omega)).trans f1
  replace f2 := (L3.frozen (by omega)).trans f2
  have R3 := R2.le L3
  have S3 := S.le L3
  have O3 := own_le O L3
  have LL := L2.trans L3
  have s3 := L3.size
  clear L3 L2 S O R2 hg2 R1 L0
  go_wp2_with fail
  generalize (w2.alloc (.cells #[.slice B m c] 25)).alloc (.cells #[.slice A2 hs.length q2] 28) = W2 at *
  replace d0 : W2.drew.cell? ⟨w2.heap.size, 0, none⟩ = some (.slice B m c) := d0
  replace d1 : W2.drew.cell? ⟨w2.heap.size + 1, 0, none⟩ = some (.slice A2 hs.length q2) := d1
  replace y0 : w2.heap.size < W2.drew.heap.size := y0
  replace y1 : w2.heap.size + 1 < W2.drew.heap.size := y1
  replace s3 : w2.heap.size ≤ W2.drew.heap.size := s3
  replace R3 := R3.le (Le.refl W2).drew
  replace S3 := S3.le (Le.refl W2).drew
  replace O3 := own_le O3 (Le.refl W2).drew
  replace LL := LL.trans (Le.refl W2).drew
  replace c0 : W2.drew.cell? ⟨w.heap.size, 0, none⟩ = some (.slice none 0 0) := c0
  replace c1 : W2.drew.cell? ⟨w.heap.size + 1, 0, none⟩ = some (.slice none 0 0) := c1
  replace c2 : W2.drew.cell? ⟨w.heap.size + 1 + 1, 0, none⟩ = some (.slice none 0 0) := c2
  replace f0 : W2.drew.frozen? ⟨w.heap.size, 0, none⟩ = false := f0
  replace f1 : W2.drew.frozen? ⟨w.heap.size + 1, 0, none⟩ = false := f1
  replace f2 : W2.drew.frozen? ⟨w.heap.size + 1 + 1, 0, none⟩ = false := f2
  refine wp_region_noPanic ?_
  refine wp_region_Z (fun w' => w'.cell? ⟨w2.heap.size, 0, none⟩ = some (.slice B m c) ∧ w'.cell? ⟨w2.heap.size + 1, 0, none⟩ = some (.slice A2 hs.length q2)) [] (by kernel_rfl) ?_
  refine wpAnyZ_take (i := 0) (v := ?_) rfl (by kernel_rfl) (fun _ _ _ h => h) (Or.inl ⟨by rfl, ?_⟩) (⟨d0, d1⟩) ?_
  rotate_left 1
  · (intro w hSw; (try dsimp only at hSw); go_simp; try with_reducible rfl)
  try simp only [Act.put, List.setIfInBounds_toArray, List.set_cons_zero, List.set_cons_succ]
  refine wpAnyZ_take (i := 1) (v := ?_) rfl (by kernel_rfl) (fun _ _ _ h => h) (Or.inl ⟨by rfl, ?_⟩) (⟨d0, d1⟩) ?_
  rotate_left 1
  · (intro w hSw; (try dsimp only at hSw); go_simp; try with_reducible rfl)
  try simp only [Act.put, List.setIfInBounds_toArray, List.set_cons_zero, List.set_cons_succ]
  refine wpAnyZ_take (i := 2) (v := ?_) rfl (by kernel_rfl) (fun _ _ _ h => h) (Or.inl ⟨by rfl, ?_⟩) (⟨d0, d1⟩) ?_
  rotate_left 1
  · (intro w hSw; (try dsimp only at hSw); go_simp; try with_reducible rfl)
  try simp only [Act.put, List.setIfInBounds_toArray, List.set_cons_zero, List.set_cons_succ]
  refine wpAnyZ_take (i := 3) (v := ?_) rfl (by kernel_rfl) (fun _ _ _ h => h) (Or.inl ⟨by rfl, ?_⟩) (⟨d0, d1⟩) ?_
  rotate_left 1
  · (intro w hSw; (try dsimp only at hSw); go_simp; try with_reducible rfl)
  try simp only [Act.put, List.setIfInBounds_toArray, List.set_cons_zero, List.set_cons_succ]
  refine wpAnyZ_one (i := 4) (by kernel_rfl) (ReadyZ.mk rfl (fun K hK => ?_))
  go_simp
  go_at_call 11
  generalize W2.drew = W3 at *
  refine (goodHeap_any B m c g p2 A1 n1 k1 bs1 _ hm (by omega) R3).mono ?_
  rintro e w3 ⟨v, ks, p3, rfl, OK, hokK, hl6k, hp3, R4, hg4⟩
  obtain ⟨A4, q4, rfl⟩ := own_form OK
  have hOK := OK.lt
  have s4 := hg4.size
  replace c0 := (hg4.cell (k := w.heap.size) (o := 0) (by omega) (by omega)).trans c0
  replace f0 := (hg4.frozen (k := w.heap.size) (o := 0) (by omega) (by omega)).trans f0
  replace c1 := (hg4.cell (k := w.heap.size + 1) (o := 0) (by omega) (by omega)).trans c1
  replace f1 := (hg4.frozen (k := w.heap.size + 1) (o := 0) (by omega) (by omega)).trans f1
  replace c2 := (hg4.cell (k := w.heap.size + 1 + 1) (o := 0) (by omega) (by omega)).trans c2
  replace f2 := (hg4.frozen (k := w.heap.size + 1 + 1) (o := 0) (by omega) (by omega)).trans f2
  replace d0 := (hg4.cell (k := w2.heap.size) (o := 0) (by omega) (by omega)).trans d0
  replace d1 := (hg4.cell (k := w2.heap.size + 1) (o := 0) (by omega) (by omega)).trans d1
  have S5 := S3.gx (fun hn a e => hoff hn a e) hg4
  have O5 := O3.kept hg4 (.inr (fun e => by have := hlt _ e; omega))
  have L5 := Gx.le LL hg4 (by omega)
  have HOK := Lib.hid hok
  have HKK := Lib.hid (ok_enc hokK)
  have HAB := Lib.hid hab
  clear S3 O3 R3 R4 hg4 LL hokK hok hab hoff
  have e1 : ∀ u, (w3.setCell ⟨w.heap.size, 0, none⟩ u).cell? ⟨w.heap.size + 1, 0, none⟩ = some (.slice none 0 0) := fun u => (cell_set_other (.inl (by omega))).trans c1
  have g1 : ∀ u, (w3.setCell ⟨w.heap.size, 0, none⟩ u).frozen? ⟨w.heap.size + 1, 0, none⟩ = false := fun u => by simpa using f1
  have e2 : ∀ u v, ((w3.setCell ⟨w.heap.size, 0, none⟩ u).setCell ⟨w.heap.size + 1, 0, none⟩ v).cell? ⟨w.heap.size + 1 + 1, 0, none⟩ = some (.slice none 0 0) := fun u v => (cell_set_other (.inl (by omega))).trans ((cell_set_other (.inl (by omega))).trans c2)
  have g2 : ∀ u v, ((w3.setCell ⟨w.heap.size, 0, none⟩ u).setCell ⟨w.heap.size + 1, 0, none⟩ v).frozen? ⟨w.heap.size + 1 + 1, 0, none⟩ = false := fun u v => by simpa using f2
  have k0 : ∀ u v x, (((w3.setCell ⟨w.heap.size, 0, none⟩ u).setCell ⟨w.heap.size + 1, 0, none⟩ v).setCell ⟨w.heap.size + 1 + 1, 0, none⟩ x).cell? ⟨w.heap.size, 0, none⟩ = some u := fun u v x => (cell_set_other (.inl (by omega))).trans ((cell_set_other (.inl (by omega))).trans (cell_set_same c0))
  have k1 : ∀ u v x, (((w3.setCell ⟨w.heap.size, 0, none⟩ u).setCell ⟨w.heap.size + 1, 0, none⟩ v).setCell ⟨w.heap.size + 1 + 1, 0, none⟩ x).cell? ⟨w.heap.size + 1, 0, none⟩ = some v := fun u v x => (cell_set_other (.inl (by omega))).trans (cell_set_same (e1 u))
  have k2 : ∀ u v x, (((w3.setCell ⟨w.heap.size, 0, none⟩ u).setCell ⟨w.heap.size + 1, 0, none⟩ v).setCell ⟨w.heap.size + 1 + 1, 0, none⟩ x).cell? ⟨w.heap.size + 1 + 1, 0, none⟩ = some x := fun u v x => cell_set_same (e2 u v)
  have sd : ∀ (W : World) (k : Nat) (u x : Value) (b : Nat), b ≠ k → W.cell? ⟨b, 0, none⟩ = some x → (W.setCell ⟨k, 0, none⟩ u).cell? ⟨b, 0, none⟩ = some x := fun W k u x b hne h => (cell_set_other (.inl (Ne.symm hne))).trans h
  refine hK.out _ _ (fun _ => ⟨d0, d1⟩) ?_
  clear hK K
  try simp only [Act.put, List.setIfInBounds_toArray, List.set_cons_zero, List.set_cons_succ]
  refine wpAnyZ_one (i := 5) (by kernel_rfl) (ReadyZ.mk rfl (fun K hK => ?_))
  go_simp
  refine hK.out _ _ (fun _ => ⟨sd _ _ _ _ _ (by omega) d0, sd _ _ _ _ _ (by omega) d1⟩) ?_
  clear hK K
  try simp only [Act.put, List.setIfInBounds_toArray, List.set_cons_zero, List.set_cons_succ]
  refine wpAnyZ_one (i := 6) (by kernel_rfl) (ReadyZ.mk rfl (fun K hK => ?_))
  go_simp
  refine hK.out _ _ (fun _ => ⟨sd _ _ _ _ _ (by omega) (sd _ _ _ _ _ (by omega) d0), sd _ _ _ _ _ (by omega) (sd _ _ _ _ _ (by omega) d1)⟩) ?_
  clear hK K
  try simp only [Act.put, List.setIfInBounds_toArray, List.set_cons_zero, List.set_cons_succ]
  refine wpAnyZ_one (i := 7) (by kernel_rfl) (ReadyZ.mk rfl (fun K hK => ?_))
  go_simp
  refine hK.out _ _ (fun _ => ⟨sd _ _ _ _ _ (by omega) (sd _ _ _ _ _ (by omega) (sd _ _ _ _ _ (by omega) d0)), sd _ _ _ _ _ (by omega) (sd _ _ _ _ _ (by omega) (sd _ _ _ _ _ (by omega) d1))⟩) ?_
  clear hK K
  try simp only [Act.put, List.setIfInBounds_toArray, List.set_cons_zero, List.set_cons_succ]
  refine wpAnyZ_done (by kernel_rfl) ?_ _
  refine NoPanic.normal ?_
  go_wp2
  exact bodyPost_ret (v := .tuple #[.agg #[.slice B m c], .agg #[.slice A2 hs.length q2], .agg #[.slice A4 ks.length q4]]) (by simp [results, Try.results4, go_sem, k0, k1, k2]) rfl
    ⟨B, m, c, xs, A2, q2, hs, A4, q4, ks, rfl,
      ((S5.grown (grown_set w3 w.heap.size 0 _) (fun hn a e e2 => by have := HAB.out hn a e; injection e2 with e2; omega)).grown (grown_set _ (w.heap.size + 1) 0 _) (fun hn a e e2 => by have := HAB.out hn a e; injection e2 with e2; omega)).grown (grown_set _ (w.heap.size + 1 + 1) 0 _) (fun hn a e e2 => by have := HAB.out hn a e; injection e2 with e2; omega), hm,
      Sl.of_own (((O5.kept (grown_set w3 w.heap.size 0 _) (.inr (fun e => by have := hlt _ e; omega))).kept (grown_set _ (w.heap.size + 1) 0 _) (.inr (fun e => by have := hlt _ e; omega))).kept (grown_set _ (w.heap.size + 1 + 1) 0 _) (.inr (fun e => by have := hlt _ e; omega))) rfl (by decide) HOK.out, hl6,
      Sl.of_own (((OK.kept (grown_set w3 w.heap.size 0 _) (.inr (fun e => by have := hOK _ e; omega))).kept (grown_set _ (w.heap.size + 1) 0 _) (.inr (fun e => by have := hOK _ e; omega))).kept (grown_set _ (w.heap.size + 1 + 1) 0 _) (.inr (fun e => by have := hOK _ e; omega))) rfl (by decide) HKK.out, hl6k,
      ((L5.setCell (Nat.le_refl _) _).setCell (Nat.le_succ _) _).setCell (by omega) _⟩
theorem shl_nonneg {n : Nat} {x : Int} : (0 ≤ shl n x) ↔ 0 ≤ x := by unfold shl; split <;> omega
theorem idx_none : ∀ (L : List Int) (x k : Int), x ∉ L → idx L x k = -1
  | [], _, _, _ => rfl
  | y :: r, x, k, h => by
    rw [idx, if_neg (fun e => h (by rw [e]; simp)), idx_none r x (k + 1) (fun m => h (List.mem_cons_of_mem _ m))]
theorem idx_get : ∀ (L : List Int), L.Nodup → ∀ (i : Nat) (h : i < L.length) (k : Int), idx L L[i] k = k + i
  | y :: r, nd, 0, h, k => by simp [idx]
  | y :: r, nd, i + 1, h, k => by
    have h' : i < r.length := by simpa using h
    have e : (y :: r)[i + 1] = r[i] := rfl
    have ne : ¬ y = r[i] := fun e2 => (List.nodup_cons.1 nd).1 (by rw [e2]; exact List.getElem_mem _)
    rw [e, idx, if_neg ne, idx_get r (List.nodup_cons.1 nd).2 i h' (k + 1)]
    omega
/-- faults from which no link leads away -/
structure Clo (hs : List Flt) (R : List Int) : Prop where
  nd : R.Nodup
  rng : ∀ x ∈ R, 0 ≤ x ∧ x < hs.length
  cau : ∀ x ∈ R, 0 ≤ cauOf hs x → cauOf hs x ∈ R
  ctx : ∀ x ∈ R, 0 ≤ ctxOf hs x → ctxOf hs x ∈ R
/-- from the place in what is isolated to the fault that lies there -/
def upR (R : List Int) (n : Nat) (x : Int) : Int := if x < 0 then x else R[x.toNat]?.getD (n + x)
theorem upR_at {R : List Int} {k : Nat} (h : k < R.length) (n : Nat) : upR R n (k : Int) = R[k] := by
  unfold upR
  rw [if_neg (by omega), Int.toNat_natCast, List.getElem?_eq_getElem h]; rfl
theorem upR_out {R : List Int} {k : Nat} (h : ¬ k < R.length) (n : Nat) : upR R n (k : Int) = n + k := by
  unfold upR
  rw [if_neg (by omega), Int.toNat_natCast, List.getElem?_eq_none (by omega)]; rfl
theorem upR_inj {hs : List Flt} {R : List Int} (c : Clo hs R) (x y : Int) (e : upR R hs.length x = upR R hs.length y) : x = y := by
  have key : ∀ x : Int, (x < 0 ∧ upR R hs.length x = x) ∨ (∃ k : Nat, ∃ h : k < R.length, x = k ∧ upR R hs.length x = R[k] ∧ 0 ≤ R[k] ∧ R[k] < hs.length) ∨ (∃ k : Nat, x = k ∧ upR R hs.length x = hs.length + k) := by
    intro x
    rcases Int.lt_or_le x 0 with h | h
    · left; exact ⟨h, by unfold upR; rw [if_pos h]⟩
    · right
      obtain ⟨k, rfl⟩ := Int.eq_ofNat_of_zero_le h
      by_cases hk : k < R.length
      · left; have := c.rng _ (List.getElem_mem hk); exact ⟨k, hk, rfl, upR_at hk _, this.1, this.2⟩
      · right; exact ⟨k, rfl, upR_out hk _⟩
  rcases key x with ⟨hx, ex⟩ | ⟨k, hk, rfl, ex, ek, el⟩ | ⟨k, rfl, ex⟩ <;> rcases key y with ⟨hy, ey⟩ | ⟨l, hl, rfl, ey, ek2, el2⟩ | ⟨l, rfl, ey⟩ <;> rw [ex, ey] at e
  any_goals omega
  have := Chn.nd_inj c.nd hk hl e
  omega
theorem upR_pos {hs : List Flt} {R : List Int} (c : Clo hs R) (x : Int) (h : 0 ≤ x) : 0 ≤ upR R hs.length x := by
  obtain ⟨k, rfl⟩ := Int.eq_ofNat_of_zero_le h
  by_cases hk : k < R.length
  · rw [upR_at hk]; exact (c.rng _ (List.getElem_mem hk)).1
  · rw [upR_out hk]; omega
/-- a link, as the place of what it leads to -/
theorem idx_lnk {hs : List Flt} {R : List Int} (c : Clo hs R) {x : Int} (h : 0 ≤ x → x ∈ R) : (x < 0 → idx R x 0 = -1) ∧ (0 ≤ x → ∃ k : Nat, ∃ hk : k < R.length, R[k] = x ∧ idx R x 0 = k ∧ upR R hs.length (idx R x 0) = x) := by
  refine ⟨fun hn => idx_none _ _ _ (fun hm => by have := (c.rng x hm).1; omega), fun h0 => ?_⟩
  obtain ⟨k, hk, rfl⟩ := List.getElem_of_mem (h h0)
  have e : idx R R[k] 0 = (k : Int) := by rw [idx_get R c.nd k hk 0]; omega
  exact ⟨k, hk, rfl, e, by rw [e, upR_at hk]⟩
/-- a step in what is isolated is a step in the heap -/
structure StepUp (hs : List Flt) (R : List Int) (nx jx : Int → Int) : Prop where
  at_ : ∀ k (hk : k < R.length), nx (k : Int) = idx R (jx R[k]) 0
  in_ : ∀ x ∈ R, 0 ≤ jx x → jx x ∈ R
theorem StepUp.neg {hs : List Flt} {R : List Int} {nx jx : Int → Int} (c : Clo hs R) (s : StepUp hs R nx jx) (x : Int) (h0 : 0 ≤ x) (h1 : x < R.length) (hn : nx x < 0) : jx (upR R hs.length x) < 0 := by
  obtain ⟨k, rfl⟩ := Int.eq_ofNat_of_zero_le h0
  have hk : k < R.length := by omega
  rw [s.at_ k hk] at hn
  rw [upR_at hk]
  rcases Int.lt_or_le (jx R[k]) 0 with h | h
  · exact h
  · obtain ⟨l, _, _, e, _⟩ := (idx_lnk c (s.in_ _ (List.getElem_mem hk))).2 h
    omega
theorem StepUp.pos {hs : List Flt} {R : List Int} {nx jx : Int → Int} (c : Clo hs R) (s : StepUp hs R nx jx) (x : Int) (h0 : 0 ≤ x) (h1 : x < R.length) (hn : 0 ≤ nx x) : jx (upR R hs.length x) = upR R hs.length (nx x) := by
  obtain ⟨k, rfl⟩ := Int.eq_ofNat_of_zero_le h0
  have hk : k < R.length := by omega
  rw [s.at_ k hk] at hn ⊢
  rw [upR_at hk]
  have a := idx_lnk c (s.in_ _ (List.getElem_mem hk))
  rcases Int.lt_or_le (jx R[k]) 0 with h | h
  · have := a.1 h; omega
  · obtain ⟨l, _, _, _, e⟩ := a.2 h
    exact e.symm
theorem StepUp.lt {hs : List Flt} {R : List Int} {nx jx : Int → Int} (c : Clo hs R) (s : StepUp hs R nx jx) (x : Int) (h0 : 0 ≤ x) (h1 : x < R.length) : nx x < R.length := by
  obtain ⟨k, rfl⟩ := Int.eq_ofNat_of_zero_le h0
  have hk : k < R.length := by omega
  rw [s.at_ k hk]
  have a := idx_lnk c (s.in_ _ (List.getElem_mem hk))
  rcases Int.lt_or_le (jx R[k]) 0 with h | h
  · have := a.1 h; omega
  · obtain ⟨l, hl, _, e, _⟩ := a.2 h
    omega
theorem StepUp.is {hs : List Flt} {R : List Int} {nx jx : Int → Int} (c : Clo hs R) (s : StepUp hs R nx jx) {g : Int} {L : List Int} (h1 : g < R.length) (h : Chn.Is nx g L) : Chn.Is jx (upR R hs.length g) (L.map (upR R hs.length)) :=
  h.map (h.rng h1 (s.lt c)) (upR_inj c) (upR_pos c) (fun x a b d => s.neg c x a b d) (fun x a b d => s.pos c x a b d)
theorem cau_left {hs ks : List Flt} {x : Int} (h0 : 0 ≤ x) (h1 : x < hs.length) : cauOf (joinL hs ks) x = cauOf hs x := by
  obtain ⟨i, rfl⟩ := Int.eq_ofNat_of_zero_le h0
  rw [cauOf_at (by rw [joinL_len]; omega), cauOf_at (by omega), joinL_left _ (by omega)]
theorem cau_right {hs ks : List Flt} {x : Int} (h0 : 0 ≤ x) (h1 : x < ks.length) : cauOf (joinL hs ks) (x + hs.length) = shl hs.length (cauOf ks x) := by
  obtain ⟨i, rfl⟩ := Int.eq_ofNat_of_zero_le h0
  have e : ((i : Int) + (hs.length : Int)) = ((i + hs.length : Nat) : Int) := by omega
  rw [e, cauOf_at (by rw [joinL_len]; omega), cauOf_at (by omega), joinL_right _ (by omega) (by omega)]
  simp [shF]
theorem reach_left {hs ks : List Flt} (lk : Lnk hs) (lj : Lnk (joinL hs ks)) {f : Int} (h0 : 0 ≤ f) (h1 : f < hs.length) : reachL (joinL hs ks) f = reachL hs f := by
  have hJ : f < (joinL hs ks).length := by rw [joinL_len]; omega
  refine reachL_eq lk h0 h1 (reachL_asc _ _) (fun x => ?_)
  rw [reachL_mem lj h0 hJ]
  constructor
  · intro h
    have := Rch.least (S := fun x => Rch (cauOf hs) (ctxOf hs) f x) .base ?_ ?_ h
    · exact this
    · intro y hy h2
      have r := reach_rng ((reachL_mem lk h0 h1 y).2 hy)
      rw [cau_left r.1 r.2] at h2 ⊢
      exact .one hy h2
    · intro y hy h2
      have r := reach_rng ((reachL_mem lk h0 h1 y).2 hy)
      rw [ctx_left r.1 r.2] at h2 ⊢
      exact .two hy h2
  · intro h
    have := Rch.least (S := fun x => Rch (cauOf hs) (ctxOf hs) f x ∧ Rch (cauOf (joinL hs ks)) (ctxOf (joinL hs ks)) f x) ⟨.base, .base⟩ ?_ ?_ h
    · exact this.2
    · rintro y ⟨hy, hz⟩ h2
      have r := reach_rng ((reachL_mem lk h0 h1 y).2 hy)
      have e := cau_left (ks := ks) r.1 r.2
      refine ⟨.one hy h2, ?_⟩
      rw [← e] at h2 ⊢
      exact .one hz h2
    · rintro y ⟨hy, hz⟩ h2
      have r := reach_rng ((reachL_mem lk h0 h1 y).2 hy)
      have e := ctx_left (ks := ks) r.1 r.2
      refine ⟨.two hy h2, ?_⟩
      rw [← e] at h2 ⊢
      exact .two hz h2
theorem reach_right {hs ks : List Flt} (lk : Lnk ks) (lj : Lnk (joinL hs ks)) {f : Int} (h0 : 0 ≤ f) (h1 : f < ks.length) : reachL (joinL hs ks) (f + hs.length) = (reachL ks f).map (· + (hs.length : Int)) := by
  have hJ : f + hs.length < (joinL hs ks).length := by rw [joinL_len]; omega
  refine (reachL_eq lj (by omega) hJ ?_ (fun x => ?_)).symm
  · rw [List.pairwise_map]; exact (reachL_asc ks f).imp (fun h => by omega)
  · rw [List.mem_map]
    constructor
    · rintro ⟨y, hy, rfl⟩
      have hy2 := (reachL_mem lk h0 h1 y).1 hy
      have := Rch.least (S := fun x => Rch (cauOf ks) (ctxOf ks) f x ∧ Rch (cauOf (joinL hs ks)) (ctxOf (joinL hs ks)) (f + hs.length) (x + hs.length)) ⟨.base, .base⟩ ?_ ?_ hy2
      · exact this.2
      · rintro y ⟨hy, hz⟩ h2
        have r := reach_rng ((reachL_mem lk h0 h1 y).2 hy)
        have e := cau_right (hs := hs) r.1 r.2
        have e2 : shl hs.length (cauOf ks y) = cauOf ks y + hs.length := by unfold shl; rw [if_neg (by omega)]
        rw [e2] at e
        refine ⟨.one hy h2, ?_⟩
        rw [← e]
        exact .one hz (by rw [e]; omega)
      · rintro y ⟨hy, hz⟩ h2
        have r := reach_rng ((reachL_mem lk h0 h1 y).2 hy)
        have e := ctx_right (hs := hs) r.1 r.2
        have e2 : shl hs.length (ctxOf ks y) = ctxOf ks y + hs.length := by unfold shl; rw [if_neg (by omega)]
        rw [e2] at e
        refine ⟨.two hy h2, ?_⟩
        rw [← e]
        exact .two hz (by rw [e]; omega)
    · intro hx
      have := Rch.least (S := fun x => ∃ y, Rch (cauOf ks) (ctxOf ks) f y ∧ y + (hs.length : Int) = x) ⟨f, .base, rfl⟩ ?_ ?_ hx
      · obtain ⟨y, hy, e⟩ := this
        exact ⟨y, (reachL_mem lk h0 h1 y).2 hy, e⟩
      · rintro x ⟨y, hy, rfl⟩ h2
        have r := reach_rng ((reachL_mem lk h0 h1 y).2 hy)
        have e := cau_right (hs := hs) r.1 r.2
        rw [e] at h2 ⊢
        have h3 := shl_nonneg.1 h2
        exact ⟨_, .one hy h3, by unfold shl; rw [if_neg (by omega)]⟩
      · rintro x ⟨y, hy, rfl⟩ h2
        have r := reach_rng ((reachL_mem lk h0 h1 y).2 hy)
        have e := ctx_right (hs := hs) r.1 r.2
        rw [e] at h2 ⊢
        have h3 := shl_nonneg.1 h2
        exact ⟨_, .two hy h3, by unfold shl; rw [if_neg (by omega)]⟩
theorem idx_map_add (n : Int) : ∀ (L : List Int) (x k : Int), idx (L.map (· + n)) (x + n) k = idx L x k
  | [], _, _ => rfl
  | y :: r, x, k => by
    rw [List.map_cons, idx, idx, idx_map_add n r x (k + 1)]
    by_cases h : y = x
    · rw [if_pos h, if_pos (by omega)]
    · rw [if_neg h, if_neg (by omega)]
theorem idx_shl {n : Nat} {L : List Int} (hL : ∀ x ∈ L, 0 ≤ x) (x : Int) : idx (L.map (· + (n : Int))) (shl n x) 0 = idx L x 0 := by
  unfold shl
  split
  · next h =>
    have a : x ∉ L := fun hm => by have := hL x hm; omega
    have b : x ∉ L.map (· + (n : Int)) := by
      intro hm
      obtain ⟨y, hy, e⟩ := List.mem_map.1 hm
      have := hL y hy
      omega
    rw [idx_none _ _ _ a, idx_none _ _ _ b]
  · exact idx_map_add _ _ _ _
/-- of a joined heap the same is isolated as of the one in which the fault lay -/
theorem iso_left {xs : List Cls} {hs ks : List Flt} (h : okHeap xs hs = true) (hj : okHeap xs (joinL hs ks) = true) {f : Nat} (h1 : f < hs.length) : isoX xs (joinL hs ks) (f : Int) = isoX xs hs (f : Int) ∧ isoI xs (joinL hs ks) (f : Int) = isoI xs hs (f : Int) := by
  have lk := (goodH_of h).lnk
  have lj := (goodH_of hj).lnk
  have g1 : goodF xs hs (f : Int) = true := by unfold goodF; rw [h, hasF_iff.2 ⟨by omega, by omega⟩]; rfl
  have g2 : goodF xs (joinL hs ks) (f : Int) = true := by unfold goodF; rw [hj, hasF_iff.2 ⟨by omega, by rw [joinL_len]; omega⟩]; rfl
  have e := reach_left lk lj (show 0 ≤ (f : Int) by omega) (by omega)
  rw [(iso_of g1).1, (iso_of g2).1, (iso_of g1).2, (iso_of g2).2, e]
  refine ⟨?_, rfl⟩
  show List.map _ _ = List.map _ _
  refine List.map_congr_left (fun x hx => ?_)
  have r := reach_rng hx
  obtain ⟨i, rfl⟩ := Int.eq_ofNat_of_zero_le r.1
  rw [isoF_at (by rw [joinL_len]; omega), isoF_at (show i < hs.length by omega), joinL_left _ (by omega)]
theorem iso_right {xs : List Cls} {hs ks : List Flt} (h : okHeap xs ks = true) (hj : okHeap xs (joinL hs ks) = true) {f : Nat} (h1 : f < ks.length) : isoX xs (joinL hs ks) ((f : Int) + hs.length) = isoX xs ks (f : Int) ∧ isoI xs (joinL hs ks) ((f : Int) + hs.length) = isoI xs ks (f : Int) := by
  have lk := (goodH_of h).lnk
  have lj := (goodH_of hj).lnk
  have g1 : goodF xs ks (f : Int) = true := by unfold goodF; rw [h, hasF_iff.2 ⟨by omega, by omega⟩]; rfl
  have g2 : goodF xs (joinL hs ks) ((f : Int) + hs.length) = true := by unfold goodF; rw [hj, hasF_iff.2 ⟨by omega, by rw [joinL_len]; omega⟩]; rfl
  have e := reach_right (hs := hs) lk lj (show 0 ≤ (f : Int) by omega) (by omega)
  have hpos : ∀ x ∈ reachL ks (f : Int), 0 ≤ x := fun x hx => (reach_rng hx).1
  rw [(iso_of g1).1, (iso_of g2).1, (iso_of g1).2, (iso_of g2).2, e]
  refine ⟨?_, idx_map_add _ _ _ _⟩
  show List.map _ (List.map _ _) = List.map _ _
  rw [List.map_map]
  refine List.map_congr_left (fun x hx => ?_)
  have r := reach_rng hx
  obtain ⟨i, rfl⟩ := Int.eq_ofNat_of_zero_le r.1
  have hi : i < ks.length := by omega
  show isoF (joinL hs ks) _ ((i : Int) + hs.length) = _
  have e : ((i : Int) + (hs.length : Int)) = ((i + hs.length : Nat) : Int) := by omega
  rw [e, isoF_at (by rw [joinL_len]; omega), isoF_at hi, joinL_right _ (by omega) (by omega)]
  have e2 : ks[i + hs.length - hs.length]'(by omega) = ks[i] := by simp
  rw [e2]
  show (⟨_, _, idx _ (shl hs.length ks[i].cause) 0, idx _ (shl hs.length ks[i].ctx) 0, _⟩ : Flt) = _
  rw [idx_shl hpos, idx_shl hpos]
  rfl

theorem Calls.heap2I {P : Program} {f : FuncId} {args : Array Value} {w : World} {T : TypeId} {L M : List Flt} {a b : Int} (e : L = M) (e2 : a = b) (h : Calls P f args w fun e w' => ∃ v, e = .returned (.tuple #[.agg #[v], .int .i64 a]) ∧ Owd T w w' v L ∧ Le w w') : Calls P f args w fun e w' => ∃ A c, e = .returned (.tuple #[.agg #[.slice A M.length c], .int .i64 b]) ∧ Sl w' A M.length c M ∧ (∀ k, (Value.slice A M.length c).ownBlock = some k → w.heap.size ≤ k ∧ k < w'.heap.size) ∧ Le w w' := by
  subst e; subst e2
  exact h.mono fun _ _ ⟨v, he, ho, hl⟩ => by obtain ⟨A, c, e2, hs, hb⟩ := ho.form (by decide); exact ⟨A, c, by rw [he, e2], hs, hb, hl⟩
theorem joinI_facts {xs : List Cls} {hs ks : List Flt} (h : jhOk xs hs ks = true) : jhX xs hs ks = joinL hs ks ∧ (∀ j : Nat, j < hs.length → isoX xs hs (j : Int) = isoX xs (joinL hs ks) (j : Int) ∧ isoI xs hs (j : Int) = isoI xs (joinL hs ks) (j : Int)) ∧ (∀ j : Nat, ∀ q : Nat, j < ks.length → q = hs.length + j → isoX xs ks (j : Int) = isoX xs (joinL hs ks) (q : Int) ∧ isoI xs ks (j : Int) = isoI xs (joinL hs ks) (q : Int)) := by
  have hX : jhX xs hs ks = joinL hs ks := by rw [jhX_of h]; rfl
  unfold jhOk at h
  simp only [Bool.and_eq_true, decide_eq_true_eq] at h
  obtain ⟨⟨h1, h2⟩, h3⟩ := h
  have hj : okHeap xs (joinL hs ks) = true := by rw [join_ok h1 h2, decide_eq_true h3]
  refine ⟨hX, fun j hl => ?_, fun j q hl e => ?_⟩
  · have := iso_left h1 hj hl
    exact ⟨this.1.symm, this.2.symm⟩
  · have := iso_right h2 hj hl
    have e2 : (q : Int) = (j : Int) + hs.length := by omega
    rw [e2]
    exact ⟨this.1.symm, this.2.symm⟩
set_option maxHeartbeats 8000000 in
set_option maxRecDepth 100000 in
theorem fnJoinHeapsIsolate_walk (A : Option Addr) (n cap : Nat) (bs : List By) (w : World) (hR : Sl w A n cap bs) :
    Calls Try.prog 3 #[.slice A n cap] w fun e w' => e = .returned (.bool true) ∧ Le w w' := by
  have hm := hR.n_le
  by_cases hbig : 1048576 < n
  · go_enter Try.func3, Try.ntmps3
    go_wp2
    go_ret
    exact ⟨rfl, Le.refl w⟩
  go_enter Try.func3, Try.ntmps3
  go_wp2_with fail
  refine (drawJoinHeaps_any A n cap bs w hR).mono ?_
  rintro e w1 ⟨B, m, c, xs, A1, q1, hs, A0, q0, ks, rfl, S, hm8, S2, hl6, S0, hk6, L0⟩
  go_wp2_with fail
  obtain ⟨ct, zt, ch, zh, ck, zk, hleB⟩ := box3 w1 (.slice B m c) (.slice A1 hs.length q1) (.slice A0 ks.length q0) 25 28 28
  replace S := S.le hleB
  replace S2 := S2.le hleB
  replace S0 := S0.le hleB
  replace L0 := L0.trans hleB
  clear hleB
  generalize ((w1.alloc (.cells #[.slice B m c] 25)).alloc (.cells #[.slice A1 hs.length q1] 28)).alloc (.cells #[.slice A0 ks.length q0] 28) = W1 at *
  have hI := iJoinHeaps_any B A1 A0 m c hs.length q1 ks.length q0 xs hs ks W1 S S2 S0 (by omega) (by omega)
  have HQ : Hid (∀ w, Sl w B m c xs → Sl w A1 hs.length q1 hs → Sl w A0 ks.length q0 ks → _) := fun w h h2 h3 => sJoinHeaps_any B A1 A0 m c hs.length q1 ks.length q0 xs hs ks w h h2 h3 (by omega) (by omega)
  rcases Bool.eq_false_or_eq_true (jhOk xs hs ks) with ho | ho
  · obtain ⟨hX, hT1, hT2⟩ := joinI_facts ho
    have hlL : (joinL hs ks).length ≤ 12 := by rw [joinL_len]; omega
    have HLL : Hid ((joinL hs ks).length = hs.length + ks.length) := joinL_len hs ks
    rw [ho, hX] at hI HQ
    have HT1 := Lib.hid hT1
    have HT2 := Lib.hid hT2
    clear ho hX hT1 hT2
    generalize joinL hs ks = L at *
    refine (Calls.heap2 hI).mono ?_
    rintro e w2 ⟨A2, q2, rfl, S3, hle⟩
    replace ct := (hle.cell zt).trans ct
    replace ch := (hle.cell zh).trans ch
    replace ck := (hle.cell zk).trans ck
    replace zt := Nat.lt_of_lt_of_le zt hle.size
    replace zh := Nat.lt_of_lt_of_le zh hle.size
    replace zk := Nat.lt_of_lt_of_le zk hle.size
    replace S := S.le hle
    replace S2 := S2.le hle
    replace S0 := S0.le hle
    replace L0 := L0.trans hle
    clear hle hI
    go_wp2_with fail
    obtain ⟨co, zo, hleB⟩ := box1 w2 (.slice A2 L.length q2) 28
    replace ct := (hleB.cell zt).trans ct
    replace ch := (hleB.cell zh).trans ch
    replace ck := (hleB.cell zk).trans ck
    replace zt := Nat.lt_of_lt_of_le zt hleB.size
    replace zh := Nat.lt_of_lt_of_le zh hleB.size
    replace zk := Nat.lt_of_lt_of_le zk hleB.size
    replace S := S.le hleB
    replace L0 := L0.trans hleB
    replace S2 := S2.le hleB
    replace S0 := S0.le hleB
    replace S3 := S3.le hleB
    clear hleB
    generalize w2.alloc (.cells #[.slice A2 L.length q2] 28) = w3 at *
    refine (Calls.heap2 (HQ.out w3 S S2 S0)).mono ?_
    rintro e w4 ⟨A4, q4, rfl, S4, hle⟩
    replace ct := (hle.cell zt).trans ct
    replace ch := (hle.cell zh).trans ch
    replace ck := (hle.cell zk).trans ck
    replace co := (hle.cell zo).trans co
    replace zt := Nat.lt_of_lt_of_le zt hle.size
    replace zh := Nat.lt_of_lt_of_le zh hle.size
    replace zk := Nat.lt_of_lt_of_le zk hle.size
    replace zo := Nat.lt_of_lt_of_le zo hle.size
    replace S := S.le hle
    replace L0 := L0.trans hle
    replace S2 := S2.le hle
    replace S0 := S0.le hle
    replace S3 := S3.le hle
    clear hle HQ
    go_wp2_with fail
    obtain ⟨cv, zv, hleB⟩ := box1 w4 (.slice A4 L.length q4) 28
    replace ct := (hleB.cell zt).trans ct
    replace ch := (hleB.cell zh).trans ch
    replace ck := (hleB.cell zk).trans ck
    replace co := (hleB.cell zo).trans co
    replace zt := Nat.lt_of_lt_of_le zt hleB.size
    replace zh := Nat.lt_of_lt_of_le zh hleB.size
    replace zk := Nat.lt_of_lt_of_le zk hleB.size
    replace zo := Nat.lt_of_lt_of_le zo hleB.size
    replace S := S.le hleB
    replace L0 := L0.trans hleB
    replace S2 := S2.le hleB
    replace S0 := S0.le hleB
    replace S3 := S3.le hleB
    replace S4 := S4.le hleB
    clear hleB
    generalize w4.alloc (.cells #[.slice A4 L.length q4] 28) = w5 at *
    refine (equalHeap_self A2 A4 _ q2 q4 L w5 S3 S4).mono ?_
    rintro e w6 ⟨rfl, hle⟩
    replace ct := (hle.cell zt).trans ct
    replace ch := (hle.cell zh).trans ch
    replace ck := (hle.cell zk).trans ck
    replace co := (hle.cell zo).trans co
    replace cv := (hle.cell zv).trans cv
    replace zt := Nat.lt_of_lt_of_le zt hle.size
    replace zh := Nat.lt_of_lt_of_le zh hle.size
    replace zk := Nat.lt_of_lt_of_le zk hle.size
    replace zo := Nat.lt_of_lt_of_le zo hle.size
    replace zv := Nat.lt_of_lt_of_le zv hle.size
    replace S := S.le hle
    replace L0 := L0.trans hle
    replace S2 := S2.le hle
    replace S0 := S0.le hle
    replace S3 := S3.le hle
    replace S4 := S4.le hle
    clear hle
    clear cv zv S4
    go_wp2
    go_loopw [11] (fun k wr => ∃ q : Nat, k = .int .i64 q ∧ q ≤ L.length ∧ Le w6 wr) (fun k _ => L.length - (intOf k).toNat)
    case atStart => exact ⟨0, rfl, Nat.zero_le _, Le.refl _⟩
    case round =>
      obtain ⟨q, rfl, hq, hle⟩ := hrel
      have HW := Lib.hid hle
      replace ct := (hle.cell zt).trans ct
      replace ch := (hle.cell zh).trans ch
      replace ck := (hle.cell zk).trans ck
      replace co := (hle.cell zo).trans co
      replace zt := Nat.lt_of_lt_of_le zt hle.size
      replace zh := Nat.lt_of_lt_of_le zh hle.size
      replace zk := Nat.lt_of_lt_of_le zk hle.size
      replace zo := Nat.lt_of_lt_of_le zo hle.size
      replace S := S.le hle
      replace L0 := L0.trans hle
      replace S2 := S2.le hle
      replace S0 := S0.le hle
      replace S3 := S3.le hle
      clear hle
      by_cases hlt : q < L.length
      · have hql : (q : Int) < (L.length : Int) := by omega
        obtain ⟨K, hK⟩ : ∃ K, isoX xs L (q : Int) = K := ⟨_, rfl⟩
        obtain ⟨g, hg⟩ : ∃ g, isoI xs L (q : Int) = g := ⟨_, rfl⟩
        have hgg : (g != g) = false := by simp
        have LR := Le.refl wr
        have hzr : wr.heap.size ≤ wr.heap.size := Nat.le_refl _
        go_wp2_with fail
        refine (Calls.heap2I hK hg (iIsolateFault_any B A2 m c L.length q2 xs L (q : Int) wr S S3 (by omega))).mono ?_
        rintro e w7 ⟨A7, q7, rfl, S7, hB7, hle⟩
        have s7 := hle.size
        replace ct := (hle.cell zt).trans ct
        replace ch := (hle.cell zh).trans ch
        replace ck := (hle.cell zk).trans ck
        replace co := (hle.cell zo).trans co
        replace zt := Nat.lt_of_lt_of_le zt hle.size
        replace zh := Nat.lt_of_lt_of_le zh hle.size
        replace zk := Nat.lt_of_lt_of_le zk hle.size
        replace zo := Nat.lt_of_lt_of_le zo hle.size
        replace S := S.le hle
        replace L0 := L0.trans hle
        replace S2 := S2.le hle
        replace S0 := S0.le hle
        replace S3 := S3.le hle
        replace LR := LR.trans hle
        clear hle
        go_wp2_with fail
        obtain ⟨ca, za, hleB⟩ := box1 w7 (.slice A7 K.length q7) 28
        replace ct := (hleB.cell zt).trans ct
        replace ch := (hleB.cell zh).trans ch
        replace ck := (hleB.cell zk).trans ck
        replace co := (hleB.cell zo).trans co
        replace zt := Nat.lt_of_lt_of_le zt hleB.size
        replace zh := Nat.lt_of_lt_of_le zh hleB.size
        replace zk := Nat.lt_of_lt_of_le zk hleB.size
        replace zo := Nat.lt_of_lt_of_le zo hleB.size
        replace S := S.le hleB
        replace L0 := L0.trans hleB
        replace S2 := S2.le hleB
        replace S0 := S0.le hleB
        replace S3 := S3.le hleB
        replace S7 := S7.le hleB
        replace LR := LR.trans hleB
        clear hleB
        generalize w7.alloc (.cells #[.slice A7 K.length q7] 28) = w8 at *
        have s8 := za
        by_cases hin : q < hs.length
        · have hin2 : decide ((hs.length : Int) ≤ (q : Int)) = false := decide_eq_false (by omega)
          have hin3 : ¬ (hs.length : Int) ≤ (q : Int) := by omega
          obtain ⟨e1, e2⟩ := HT1.out q hin
          refine (Calls.heap2I (e1.trans hK) (e2.trans hg) (iIsolateFault_any B A1 m c hs.length q1 xs hs (q : Int) w8 S S2 (by omega))).mono ?_
          rintro e w9 ⟨A9, q9, rfl, S9, hB9, hle⟩
          replace ct := (hle.cell zt).trans ct
          replace ch := (hle.cell zh).trans ch
          replace ck := (hle.cell zk).trans ck
          replace co := (hle.cell zo).trans co
          replace ca := (hle.cell za).trans ca
          replace zt := Nat.lt_of_lt_of_le zt hle.size
          replace zh := Nat.lt_of_lt_of_le zh hle.size
          replace zk := Nat.lt_of_lt_of_le zk hle.size
          replace zo := Nat.lt_of_lt_of_le zo hle.size
          replace za := Nat.lt_of_lt_of_le za hle.size
          replace S := S.le hle
          replace L0 := L0.trans hle
          replace S2 := S2.le hle
          replace S0 := S0.le hle
          replace S3 := S3.le hle
          replace S7 := S7.le hle
          replace LR := LR.trans hle
          clear hle e1 e2 hK hg
          go_wp2_with fail
          obtain ⟨cb, zb, hleB⟩ := box1 w9 (.slice A9 K.length q9) 28
          replace ct := (hleB.cell zt).trans ct
          replace ch := (hleB.cell zh).trans ch
          replace ck := (hleB.cell zk).trans ck
          replace co := (hleB.cell zo).trans co
          replace ca := (hleB.cell za).trans ca
          replace zt := Nat.lt_of_lt_of_le zt hleB.size
          replace zh := Nat.lt_of_lt_of_le zh hleB.size
          replace zk := Nat.lt_of_lt_of_le zk hleB.size
          replace zo := Nat.lt_of_lt_of_le zo hleB.size
          replace za := Nat.lt_of_lt_of_le za hleB.size
          replace S := S.le hleB
          replace L0 := L0.trans hleB
          replace S2 := S2.le hleB
          replace S0 := S0.le hleB
          replace S3 := S3.le hleB
          replace S7 := S7.le hleB
          replace S9 := S9.le hleB
          replace LR := LR.trans hleB
          clear hleB
          generalize w9.alloc (.cells #[.slice A9 K.length q9] 28) = w10 at *
          refine (equalHeap_self A7 A9 _ q7 q9 K w10 S7 S9).mono ?_
          rintro e w11 ⟨rfl, hle⟩
          replace LR := LR.trans hle
          clear hle
          go_wp2
          go_roundw
          case rel => exact ⟨q + 1, by go_num, by omega, HW.out.trans LR⟩
          case measure => (simp [intOf]) <;> omega
        · have hin2 : decide ((hs.length : Int) ≤ (q : Int)) = true := decide_eq_true (by omega)
          have hin3 : (hs.length : Int) ≤ (q : Int) := by omega
          obtain ⟨p, hp⟩ : ∃ p, q = hs.length + p := ⟨q - hs.length, by omega⟩
          have hpk : p < ks.length := by have := HLL.out; omega
          obtain ⟨e1, e2⟩ := HT2.out p q hpk hp
          have hwp : IntKind.i64.wrap ((q : Int) - (hs.length : Int)) = (p : Int) := by
            rw [show ((q : Int) - (hs.length : Int)) = (p : Int) by omega]; exact IntWalk.i64_in _ (by omega)
          clear hp
          obtain ⟨M, hM⟩ : ∃ K, isoX xs hs (q : Int) = K := ⟨_, rfl⟩
          obtain ⟨u, hu⟩ : ∃ g, isoI xs hs (q : Int) = g := ⟨_, rfl⟩
          refine (Calls.heap2I hM hu (iIsolateFault_any B A1 m c hs.length q1 xs hs (q : Int) w8 S S2 (by omega))).mono ?_
          rintro e w9 ⟨A9, q9, rfl, S9, hB9, hle⟩
          have s9 := hle.size
          replace ct := (hle.cell zt).trans ct
          replace ch := (hle.cell zh).trans ch
          replace ck := (hle.cell zk).trans ck
          replace co := (hle.cell zo).trans co
          replace ca := (hle.cell za).trans ca
          replace zt := Nat.lt_of_lt_of_le zt hle.size
          replace zh := Nat.lt_of_lt_of_le zh hle.size
          replace zk := Nat.lt_of_lt_of_le zk hle.size
          replace zo := Nat.lt_of_lt_of_le zo hle.size
          replace za := Nat.lt_of_lt_of_le za hle.size
          replace S := S.le hle
          replace L0 := L0.trans hle
          replace S2 := S2.le hle
          replace S0 := S0.le hle
          replace S3 := S3.le hle
          replace S7 := S7.le hle
          replace LR := LR.trans hle
          clear hle hM hu
          go_wp2_with fail
          obtain ⟨cb, zb, hleB⟩ := box1 w9 (.slice A9 M.length q9) 28
          have fb : (w9.alloc (.cells #[.slice A9 M.length q9] 28)).frozen? ⟨w9.heap.size, 0, none⟩ = false := World.frozen?_alloc_at _ _ _ _ rfl
          replace ct := (hleB.cell zt).trans ct
          replace ch := (hleB.cell zh).trans ch
          replace ck := (hleB.cell zk).trans ck
          replace co := (hleB.cell zo).trans co
          replace ca := (hleB.cell za).trans ca
          replace zt := Nat.lt_of_lt_of_le zt hleB.size
          replace zh := Nat.lt_of_lt_of_le zh hleB.size
          replace zk := Nat.lt_of_lt_of_le zk hleB.size
          replace zo := Nat.lt_of_lt_of_le zo hleB.size
          replace za := Nat.lt_of_lt_of_le za hleB.size
          replace S := S.le hleB
          replace L0 := L0.trans hleB
          replace S2 := S2.le hleB
          replace S0 := S0.le hleB
          replace S3 := S3.le hleB
          replace S7 := S7.le hleB
          replace LR := LR.trans hleB
          clear hleB S9 hB9
          generalize w9.alloc (.cells #[.slice A9 M.length q9] 28) = w10 at *
          refine (Calls.heap2I (e1.trans hK) (e2.trans hg) (iIsolateFault_any B A0 m c ks.length q0 xs ks (p : Int) w10 S S0 (by omega))).mono ?_
          rintro e w11 ⟨A11, q11, rfl, S11, hB11, hle⟩
          have s11 := hle.size
          replace cb := (hle.cell zb).trans cb
          replace fb := (hle.frozen zb).trans fb
          have hzb := zb
          replace ca := (hle.cell za).trans ca
          replace za := Nat.lt_of_lt_of_le za hle.size
          replace S := S.le hle
          replace L0 := L0.trans hle
          replace S7 := S7.le hle
          replace LR := LR.trans hle
          clear hle e1 e2 hK hg ct ch ck co
          have LS := LR.setCell (b := w9.heap.size) (o := 0) (by omega) (.slice A11 K.length q11)
          have S7' := S7.grown (grown_set w11 w9.heap.size 0 (.slice A11 K.length q11)) (fun hn a e e2 => by have h1 := (hB7 a.block (by rw [e]; rfl)).2; injection e2 with e2; omega)
          have S11' := S11.grown (grown_set w11 w9.heap.size 0 (.slice A11 K.length q11)) (fun hn a e e2 => by have h1 := (hB11 a.block (by rw [e]; rfl)).1; injection e2 with e2; omega)
          have ca' : (w11.setCell ⟨w9.heap.size, 0, none⟩ (.slice A11 K.length q11)).cell? ⟨w7.heap.size, 0, none⟩ = some (.slice A7 K.length q7) := (cell_set_other (.inl (by omega))).trans ca
          have cb' : (w11.setCell ⟨w9.heap.size, 0, none⟩ (.slice A11 K.length q11)).cell? ⟨w9.heap.size, 0, none⟩ = some (.slice A11 K.length q11) := cell_set_same cb
          clear LR S7 S11 ca S L0
          go_wp2_with fail
          generalize w11.setCell ⟨w9.heap.size, 0, none⟩ (.slice A11 K.length q11) = w12 at *
          refine (equalHeap_self A7 A11 _ q7 q11 K w12 S7' S11').mono ?_
          rintro e w13 ⟨rfl, hle⟩
          have LR := LS.trans hle
          clear hle LS
          go_wp2
          go_roundw
          case rel => exact ⟨q + 1, by go_num, by omega, HW.out.trans LR⟩
          case measure => (simp [intOf]) <;> omega
      · have hql : ¬ (q : Int) < (L.length : Int) := by omega
        go_wp2
        go_ret
        exact ⟨rfl, L0⟩
  · rw [ho] at hI HQ
    clear ho
    have hlen := jhX_len xs hs ks
    generalize jhX xs hs ks = L at *
    refine (Calls.heap2 hI).mono ?_
    rintro e w2 ⟨A2, q2, rfl, S3, hle⟩
    replace ct := (hle.cell zt).trans ct
    replace ch := (hle.cell zh).trans ch
    replace ck := (hle.cell zk).trans ck
    replace zt := Nat.lt_of_lt_of_le zt hle.size
    replace zh := Nat.lt_of_lt_of_le zh hle.size
    replace zk := Nat.lt_of_lt_of_le zk hle.size
    replace S := S.le hle
    replace S2 := S2.le hle
    replace S0 := S0.le hle
    replace L0 := L0.trans hle
    clear hle hI
    go_wp2_with fail
    obtain ⟨co, zo, hleB⟩ := box1 w2 (.slice A2 L.length q2) 28
    replace ct := (hleB.cell zt).trans ct
    replace ch := (hleB.cell zh).trans ch
    replace ck := (hleB.cell zk).trans ck
    replace zt := Nat.lt_of_lt_of_le zt hleB.size
    replace zh := Nat.lt_of_lt_of_le zh hleB.size
    replace zk := Nat.lt_of_lt_of_le zk hleB.size
    replace S := S.le hleB
    replace L0 := L0.trans hleB
    replace S2 := S2.le hleB
    replace S0 := S0.le hleB
    replace S3 := S3.le hleB
    clear hleB
    generalize w2.alloc (.cells #[.slice A2 L.length q2] 28) = w3 at *
    refine (Calls.heap2 (HQ.out w3 S S2 S0)).mono ?_
    rintro e w4 ⟨A4, q4, rfl, S4, hle⟩
    replace ct := (hle.cell zt).trans ct
    replace ch := (hle.cell zh).trans ch
    replace ck := (hle.cell zk).trans ck
    replace co := (hle.cell zo).trans co
    replace zt := Nat.lt_of_lt_of_le zt hle.size
    replace zh := Nat.lt_of_lt_of_le zh hle.size
    replace zk := Nat.lt_of_lt_of_le zk hle.size
    replace zo := Nat.lt_of_lt_of_le zo hle.size
    replace S := S.le hle
    replace L0 := L0.trans hle
    replace S2 := S2.le hle
    replace S3 := S3.le hle
    clear hle
    go_wp2_with fail
    obtain ⟨cv, zv, hleB⟩ := box1 w4 (.slice A4 L.length q4) 28
    replace ct := (hleB.cell zt).trans ct
    replace ch := (hleB.cell zh).trans ch
    replace ck := (hleB.cell zk).trans ck
    replace co := (hleB.cell zo).trans co
    replace zt := Nat.lt_of_lt_of_le zt hleB.size
    replace zh := Nat.lt_of_lt_of_le zh hleB.size
    replace zk := Nat.lt_of_lt_of_le zk hleB.size
    replace zo := Nat.lt_of_lt_of_le zo hleB.size
    replace S := S.le hleB
    replace L0 := L0.trans hleB
    replace S2 := S2.le hleB
    replace S3 := S3.le hleB
    replace S4 := S4.le hleB
    clear hleB
    generalize w4.alloc (.cells #[.slice A4 L.length q4] 28) = w5 at *
    refine (equalHeap_self A2 A4 _ q2 q4 L w5 S3 S4).mono ?_
    rintro e w6 ⟨rfl, hle⟩
    replace ct := (hle.cell zt).trans ct
    replace ch := (hle.cell zh).trans ch
    replace ck := (hle.cell zk).trans ck
    replace co := (hle.cell zo).trans co
    replace cv := (hle.cell zv).trans cv
    replace zt := Nat.lt_of_lt_of_le zt hle.size
    replace zh := Nat.lt_of_lt_of_le zh hle.size
    replace zk := Nat.lt_of_lt_of_le zk hle.size
    replace zo := Nat.lt_of_lt_of_le zo hle.size
    replace zv := Nat.lt_of_lt_of_le zv hle.size
    replace S := S.le hle
    replace L0 := L0.trans hle
    replace S2 := S2.le hle
    replace S3 := S3.le hle
    replace S4 := S4.le hle
    clear hle
    go_wp2_with fail
    refine (equalHeap_self A2 A4 _ q2 q4 L _ S3 S4).mono ?_
    rintro e w7 ⟨rfl, hle⟩
    replace L0 := L0.trans hle
    clear hle
    go_wp2
    go_ret
    exact ⟨rfl, L0⟩
end Go.Proofs.Ythcolcmgfhkbeaa
