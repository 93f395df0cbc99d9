/- one text of SoA, PxQ, VA, H -/
import Derived.Test.YtonpgohigncjeaaCx17
import Derived.Test.YtonpgohigncjeaaCx19
import Derived.Test.YtonpgohigncjeaaCx6
import Derived.Test.YtonpgohigncjeaaCx23
import Derived.Test.YtonpgohigncjeaaCx22
import Derived.Test.YtonpgohigncjeaaCx18
import Derived.Test.YtonpgohigncjeaaCx11
import Derived.Test.YtonpgohigncjeaaCx1
import Derived.ProofKit
import Derived.OpenShut
import Derived.ShutString
import Derived.ChangeOld
import Derived.Deep.Slices
import Derived.Lib.SmallJoins
namespace Go.Proofs.Ytonpgohigncjeaa
open Go.RowKit
set_option linter.unusedVariables false
section
def soF (xs : List Cls) (en va : Int) (hs : List Flt) : Bool := okTree xs && (en == 2) && goodF xs hs va
def soOk (xs : List Cls) (en va : Int) (hs : List Flt) : Bool := okTree xs && (en == 0) || soF xs en va hs
def soC (xs : List Cls) (en va : Int) (hs : List Flt) : Int := cond (soF xs en va hs) (flC hs va) 0
def soK (xs : List Cls) (en va : Int) (hs : List Flt) : Int := cond (soF xs en va hs) (flK hs va) 0
theorem B3.three {W : World} {b : Nat} {x y z : Value} (h : B3 W b x y z) (x' y' : Value) : W.cell? ⟨b, 0, none⟩ = some x ∧ W.frozen? ⟨b, 0, none⟩ = false ∧ (W.setCell ⟨b, 0, none⟩ x').cell? ⟨b, 1, none⟩ = some y ∧ (W.setCell ⟨b, 0, none⟩ x').frozen? ⟨b, 1, none⟩ = false ∧
    ((W.setCell ⟨b, 0, none⟩ x').setCell ⟨b, 1, none⟩ y').cell? ⟨b, 2, none⟩ = some z ∧ ((W.setCell ⟨b, 0, none⟩ x').setCell ⟨b, 1, none⟩ y').frozen? ⟨b, 2, none⟩ = false :=
  ⟨h.c0, h.f 0, (h.set0 x').c1, (h.set0 x').f 1, ((h.set0 x').set1 y').c2, ((h.set0 x').set1 y').f 2⟩
/-- the boxes of a tree, of a result, of a start -/
theorem box_trs (w : World) (t a b d f : Value) (T U V : TypeId) : (((w.alloc (.cells #[t] T)).alloc (.cells #[a, b, d, f] U)).alloc (.cells #[.bool false, .int .i64 0, .int .i64 0] V)).cell? ⟨w.heap.size, 0, none⟩ = some t ∧
    B4 (((w.alloc (.cells #[t] T)).alloc (.cells #[a, b, d, f] U)).alloc (.cells #[.bool false, .int .i64 0, .int .i64 0] V)) (w.heap.size + 1) a b d f ∧
    B3 (((w.alloc (.cells #[t] T)).alloc (.cells #[a, b, d, f] U)).alloc (.cells #[.bool false, .int .i64 0, .int .i64 0] V)) (w.heap.size + 1 + 1) (.bool false) (.int .i64 0) (.int .i64 0) ∧
    Le w (((w.alloc (.cells #[t] T)).alloc (.cells #[a, b, d, f] U)).alloc (.cells #[.bool false, .int .i64 0, .int .i64 0] V)) := by
  have L3 := Le.new ((w.alloc (.cells #[t] T)).alloc (.cells #[a, b, d, f] U)) (.cells #[.bool false, .int .i64 0, .int .i64 0] V)
  have L2 := Le.new (w.alloc (.cells #[t] T)) (.cells #[a, b, d, f] U)
  obtain ⟨k0, z0, L1⟩ := box1 w t T
  have e1 : (w.alloc (.cells #[t] T)).heap.size = w.heap.size + 1 := by simp
  have e2 : ((w.alloc (.cells #[t] T)).alloc (.cells #[a, b, d, f] U)).heap.size = w.heap.size + 1 + 1 := by simp
  have B := (B4.new (w.alloc (.cells #[t] T)) a b d f U).le L3
  have C := B3.new ((w.alloc (.cells #[t] T)).alloc (.cells #[a, b, d, f] U)) (.bool false) (.int .i64 0) (.int .i64 0) V
  rw [e1] at B
  rw [e2] at C
  exact ⟨((L2.trans L3).cell z0).trans k0, B, C, (L1.trans L2).trans L3⟩
set_option maxHeartbeats 2000000 in
set_option maxRecDepth 100000 in
theorem iStartOf_any (A LA H : Option Addr) (n cap nl cl m c : Nat) (xs : List Cls) (en va : Int) (hs : List Flt) (hm : m ≤ 1048576) (w : World) (hR : Sl w A n cap xs) (hH : Sl w H m c hs) :
    Calls Try.prog 23 #[.agg #[.slice A n cap], .agg #[.slice LA nl cl, .int .i64 en, .int .i64 va, .slice H m c]] w fun e w' => e = .returned (.tuple #[.agg #[.bool (soF xs en va hs), .int .i64 (soC xs en va hs), .int .i64 (soK xs en va hs)], .bool (soOk xs en va hs)]) ∧ Le w w' := by
  obtain rfl := hH.len
  have HO : Hid (soOk xs en va hs = (okTree xs && (en == 0) || soF xs en va hs)) := rfl
  have HF : Hid (soF xs en va hs = (okTree xs && (en == 2) && goodF xs hs va)) := rfl
  have HC : Hid (soC xs en va hs = cond (soF xs en va hs) (flC hs va) 0) := rfl
  have HK : Hid (soK xs en va hs = cond (soF xs en va hs) (flK hs va) 0) := rfl
  generalize soOk xs en va hs = o at *
  generalize soC xs en va hs = so1 at *
  generalize soK xs en va hs = so2 at *
  generalize soF xs en va hs = so0 at *
  obtain ⟨c0, RB, X, L0⟩ := box_trs w (.slice A n cap) (.slice LA nl cl) (.int .i64 en) (.int .i64 va) (.slice H hs.length c) 25 36 28
  have SR := hR.le L0
  have SH := hH.le L0
  go_enter Try.func23, Try.ntmps23
  go_wp2_with fail
  generalize (((w.alloc (.cells #[.slice A n cap] 25)).alloc (.cells #[.slice LA nl cl, .int .i64 en, .int .i64 va, .slice H hs.length c] 36)).alloc (.cells #[.bool false, .int .i64 0, .int .i64 0] 28)) = W at *
  have zt : w.heap.size + 1 + 1 < W.heap.size := X.lt
  refine (iValidTree_any A n cap xs W SR).mono ?_
  rintro e w1 ⟨rfl, hle⟩
  replace c0 := (hle.cell (by omega)).trans c0
  replace RB := RB.le hle
  replace X := X.le hle
  replace L0 := L0.trans hle
  replace SR := SR.le hle
  replace SH := SH.le hle
  replace zt : w.heap.size + 1 + 1 < w1.heap.size := X.lt
  clear hle
  have r1 := RB.c1
  have fin : ∀ W1 : World, so0 = false → B3 W1 (w.heap.size + 1 + 1) (.bool false) (.int .i64 0) (.int .i64 0) → so1 = 0 ∧ so2 = 0 := fun _ h _ => ⟨by rw [HC.out, h]; rfl, by rw [HK.out, h]; rfl⟩
  cases hx : okTree xs
  · obtain rfl : so0 = false := by rw [HF.out, hx]; rfl
    obtain rfl : o = false := by rw [HO.out, hx]; rfl
    obtain ⟨rfl, rfl⟩ := fin _ rfl X
    obtain ⟨z0, z0f, z1, z1f, z2, z2f⟩ := X.three (.bool false) (.int .i64 0)
    have ZA := Lib.hid (((X.set0 (.bool false)).set1 (.int .i64 0)).set2 (.int .i64 0))
    clear X fin HO HF HC HK
    go_wp2
    have e0 := ZA.out.c0
    have e1 := ZA.out.c1
    have e2 := ZA.out.c2
    exact bodyPost_ret (v := .tuple #[.agg #[.bool false, .int .i64 0, .int .i64 0], .bool false]) (by simp [results, Try.results23, go_sem, e0, e1, e2]) rfl ⟨rfl, ((L0.setCell (by omega) _).setCell (by omega) _).setCell (by omega) _⟩
  by_cases h0 : en = 0
  · subst h0
    obtain rfl : so0 = false := by rw [HF.out]; simp
    obtain rfl : o = true := by rw [HO.out, hx]; rfl
    obtain ⟨rfl, rfl⟩ := fin _ rfl X
    obtain ⟨z0, z0f, z1, z1f, z2, z2f⟩ := X.three (.bool false) (.int .i64 0)
    have ZA := Lib.hid (((X.set0 (.bool false)).set1 (.int .i64 0)).set2 (.int .i64 0))
    clear X fin HO HF HC HK
    go_wp2
    have e0 := ZA.out.c0
    have e1 := ZA.out.c1
    have e2 := ZA.out.c2
    exact bodyPost_ret (v := .tuple #[.agg #[.bool false, .int .i64 0, .int .i64 0], .bool true]) (by simp [results, Try.results23, go_sem, e0, e1, e2]) rfl ⟨rfl, ((L0.setCell (by omega) _).setCell (by omega) _).setCell (by omega) _⟩
  have h0b : (en == 0) = false := beq_eq_false_iff_ne.2 h0
  by_cases h2 : en = 2
  · subst h2
    have r2 := RB.c2
    have r3 := RB.c3
    go_wp2_with fail
    refine (iHasFault_any A _ n cap hs.length c xs hs va w1 SR SH (by omega)).mono ?_
    rintro e w2 ⟨rfl, hle⟩
    replace c0 := (hle.cell (by omega)).trans c0
    replace RB := RB.le hle
    replace X := X.le hle
    replace L0 := L0.trans hle
    replace SR := SR.le hle
    replace SH := SH.le hle
    replace zt : w.heap.size + 1 + 1 < w2.heap.size := X.lt
    clear hle r1 r2 r3
    have r1 := RB.c1
    have r2 := RB.c2
    have r3 := RB.c3
    cases hg : goodF xs hs va
    · obtain rfl : so0 = false := by rw [HF.out, hx, hg]; rfl
      obtain rfl : o = false := by rw [HO.out, hx]; rfl
      obtain ⟨rfl, rfl⟩ := fin _ rfl X
      obtain ⟨z0, z0f, z1, z1f, z2, z2f⟩ := X.three (.bool false) (.int .i64 0)
      have ZA := Lib.hid (((X.set0 (.bool false)).set1 (.int .i64 0)).set2 (.int .i64 0))
      clear X fin HO HF HC HK
      go_wp2
      have e0 := ZA.out.c0
      have e1 := ZA.out.c1
      have e2 := ZA.out.c2
      exact bodyPost_ret (v := .tuple #[.agg #[.bool false, .int .i64 0, .int .i64 0], .bool false]) (by simp [results, Try.results23, go_sem, e0, e1, e2]) rfl ⟨rfl, ((L0.setCell (by omega) _).setCell (by omega) _).setCell (by omega) _⟩
    · obtain rfl : so0 = true := by rw [HF.out, hx, hg]; rfl
      obtain rfl : o = true := by rw [HO.out, hx]; rfl
      have hb := hg
      unfold goodF at hb
      rw [Bool.and_eq_true] at hb
      obtain ⟨f0, f1⟩ := hasF_iff.1 hb.2
      obtain ⟨k, rfl⟩ : ∃ k : Nat, va = (k : Int) := ⟨va.toNat, by omega⟩
      have hk : k < hs.length := by omega
      obtain rfl : so1 = hs[k].cls := by rw [HC.out]; exact flC_at hk
      obtain rfl : so2 = hs[k].code := by rw [HK.out]; exact flK_at hk
      obtain ⟨bh, oh, rfl, hbh, d0, d1, d2, d3, d4, -⟩ := SH.flt_at hk
      have hki : (0 : Int) ≤ (k : Int) := by omega
      have hkn : (k : Int) < (hs.length : Int) := by omega
      clear HO HF HC HK fin hg hb SH hH
      obtain ⟨va1, HV1⟩ : ∃ z, Hid (hs[k].cls = z) := ⟨_, Lib.hid rfl⟩
      obtain ⟨va2, HV2⟩ : ∃ z, Hid (hs[k].code = z) := ⟨_, Lib.hid rfl⟩
      rw [HV1.out] at d0
      rw [HV2.out] at d1
      generalize hs[k].cause = va3 at *
      generalize hs[k].ctx = va4 at *
      generalize hs[k].hide = va5 at *
      have LF := Le.new w2 (.cells #[.int .i64 va1, .int .i64 va2, .int .i64 va3, .int .i64 va4, .bool va5] 80)
      replace X := X.le LF
      replace L0 := L0.trans LF
      clear LF
      obtain ⟨z0, z0f, z1, z1f, z2, z2f⟩ := X.three (.bool true) (.int .i64 va1)
      have ZA := Lib.hid (((X.set0 (.bool true)).set1 (.int .i64 va1)).set2 (.int .i64 va2))
      clear X zt
      go_wp2
      have e0 := ZA.out.c0
      have e1 := ZA.out.c1
      have e2 := ZA.out.c2
      exact bodyPost_ret (v := .tuple #[.agg #[.bool true, .int .i64 va1, .int .i64 va2], .bool true]) (by simp [results, Try.results23, go_sem, e0, e1, e2]) rfl ⟨by rw [HV1.out, HV2.out], ((L0.setCell (by omega) _).setCell (by omega) _).setCell (by omega) _⟩
  · have h2b : (en == 2) = false := beq_eq_false_iff_ne.2 h2
    obtain rfl : so0 = false := by rw [HF.out, h2b]; simp
    obtain rfl : o = false := by rw [HO.out, hx, h0b]; rfl
    obtain ⟨rfl, rfl⟩ := fin _ rfl X
    obtain ⟨z0, z0f, z1, z1f, z2, z2f⟩ := X.three (.bool false) (.int .i64 0)
    have ZA := Lib.hid (((X.set0 (.bool false)).set1 (.int .i64 0)).set2 (.int .i64 0))
    clear X fin HO HF HC HK
    go_wp2
    have e0 := ZA.out.c0
    have e1 := ZA.out.c1
    have e2 := ZA.out.c2
    exact bodyPost_ret (v := .tuple #[.agg #[.bool false, .int .i64 0, .int .i64 0], .bool false]) (by simp [results, Try.results23, go_sem, e0, e1, e2]) rfl ⟨rfl, ((L0.setCell (by omega) _).setCell (by omega) _).setCell (by omega) _⟩
end

section
/-- contexts that go down come to an end -/
theorem down_end {nx : Int → Int} {n : Nat} (hd : ∀ x : Int, 0 ≤ x → x < n → nx x < x) : Chn.allEnd nx n := by
  refine Chn.end_of_noBack (fun x h0 h1 => by have := hd x h0 h1; omega) ?_
  intro i h0 h1 L hL hi
  have hlt := hL.lt (n := n) (fun x h0 h1 => by have := hd x h0 h1; omega) (by have := hd i h0 h1; omega)
  have key : ∀ k (h : k < L.length), L[k] < i := by
    intro k
    induction k with
    | zero =>
      intro h
      have e := hL.hd
      rw [List.head?_eq_getElem?, List.getElem?_eq_getElem h] at e
      injection e with e
      rw [e]; exact hd i h0 h1
    | succ k ih =>
      intro h
      have h2 := ih (by omega)
      have h3 := hlt L[k] (List.getElem_mem _)
      rw [hL.st k h]
      have := hd L[k] h3.1 h3.2
      omega
  obtain ⟨k, hk, e⟩ := List.mem_iff_getElem.1 hi
  have := key k hk
  omega
theorem ends_down {hs : List Flt} (h : Cxt hs) : endsF hs 0 hs.length = true := by
  rw [endsF_mem]
  intro i _ hi
  have hi2 : i < hs.length := by omega
  have hc : ∀ x : Int, 0 ≤ x → x < hs.length → ctxOf hs x < x := fun x h0 h1 => by
    obtain ⟨k, rfl⟩ : ∃ k : Nat, x = (k : Int) := ⟨x.toNat, by omega⟩
    have := h k (by omega)
    rw [ctxOf_at (by omega)]; omega
  have hi3 := Chn.go_is (nx := ctxOf hs) (n := hs.length) (f0 := (i : Int)) (fun x h0 h1 => by have := hc x h0 h1; omega) (by omega) (by omega) (hs.length + 1) (i : Int) [] (Chn.Pre.start (by omega)) (by simp)
  have hE := down_end hc (i : Int) (by omega) (by omega) _ hi3
  unfold endsAt lastN
  rw [decide_eq_true_eq]
  have e : (chainN (ctxOf hs) hs.length (i : Int)) = Chn.go (ctxOf hs) (hs.length + 1) (i : Int) [] := rfl
  rw [e, List.getLastD_eq_getLast?]
  cases e2 : (Chn.go (ctxOf hs) (hs.length + 1) (i : Int) []).getLast? with
  | none => exact absurd (List.getLast?_eq_none_iff.1 e2) hi3.ne
  | some x => exact hE x e2
/-- a code is from 0 to 99 -/
def CodeOk (hs : List Flt) : Prop := ∀ i (h : i < hs.length), 0 ≤ hs[i].code ∧ hs[i].code ≤ 99
theorem code_step {xs : List Cls} {s : LvS} (h : CodeOk s.2.1) {x : Xit} (hx : xOk xs x = true) : CodeOk (stX xs x s).2.1 := by
  rcases xOk_kind hx with e | e | e | e
  · rw [stX_0 e]; exact h
  · rw [stX_1 e]; exact h
  · rw [stX_2 e]; exact h
  · rw [stX_3 e]
    rw [xOk_3 e, Bool.and_eq_true] at hx
    have hr := rng_iff.1 hx.2
    intro i hi
    dsimp only at hi ⊢
    rw [List.length_append] at hi
    have hi2 : i < s.2.1.length + 1 := hi
    rcases Nat.lt_or_ge i s.2.1.length with h1 | h1
    · rw [List.getElem_append_left h1]; exact h i h1
    · have e2 : i = s.2.1.length := by omega
      subst e2
      rw [List.getElem_append_right (Nat.le_refl _)]
      simpa using hr
theorem code_all {xs : List Cls} {s : LvS} (h : CodeOk s.2.1) : ∀ (L : List Xit), (∀ x ∈ L, xOk xs x = true) → CodeOk (clX xs L s).2.1
  | [], _ => h
  | x :: L, hk => code_step (code_all h L fun y hy => hk y (List.mem_cons_of_mem _ hy)) (hk x (List.mem_cons_self ..))
theorem code_start {xs : List Cls} {has : Bool} {cl k : Int} (h : csv xs has cl k = true) : CodeOk (stS has cl k).2.1 := by
  cases has
  · exact fun i hi => absurd hi (Nat.not_lt_zero i)
  · unfold csv at h
    rw [if_pos rfl, Bool.and_eq_true] at h
    have hr := rng_iff.1 h.2
    intro i hi
    have : i < 1 := hi
    have e : i = 0 := by omega
    subst e
    exact hr
theorem heap_ok {xs : List Cls} {N : Nat} {s : LvS} (ht : okTree xs = true) (h : CvOk xs N s) (hc : CodeOk s.2.1) (hn : s.2.1.length ≤ 24) : okHeap xs s.2.1 = true := by
  have lk := h.lnk
  have ha : allF xs s.2.1.length 0 s.2.1 = true := by
    have := allF_mk (xs := xs) (n := s.2.1.length) (hs := s.2.1) (fun i hi => by
      unfold fOk linksOk
      have h1 := lk.cause i hi
      have h2 := lk.ctx i hi
      have h3 := lk.ne i hi
      have h4 := hc i hi
      rw [h.cl i hi, rng_iff.2 h4, rng_iff.2 ⟨h1.1, by omega⟩, rng_iff.2 ⟨h2.1, by omega⟩, bne_iff_ne.2 h3.1, bne_iff_ne.2 h3.2]; rfl) s.2.1.length 0 (by omega)
    rwa [List.drop_zero] at this
  unfold okHeap
  rw [ha, ends_down h.cx, ht, decide_eq_true hn]; rfl
/-- what StartOf says of what CloseExits answers -/
theorem so_close {xs : List Cls} {L : List Xit} {has : Bool} {cl k : Int} (h : ceOk xs L has cl k = true) {s : LvS} (hs : clX xs L (stS has cl k) = s) :
    soOk xs (ceE xs L has cl k) (ceV xs L has cl k) (ceH xs L has cl k) = true ∧ soF xs (ceE xs L has cl k) (ceV xs L has cl k) (ceH xs L has cl k) = decide (0 ≤ s.2.2) ∧
    soC xs (ceE xs L has cl k) (ceV xs L has cl k) (ceH xs L has cl k) = (if 0 ≤ s.2.2 then flC s.2.1 s.2.2 else 0) ∧ soK xs (ceE xs L has cl k) (ceV xs L has cl k) (ceH xs L has cl k) = (if 0 ≤ s.2.2 then flK s.2.1 s.2.2 else 0) := by
  have C := ce_ok h
  obtain ⟨hv, hc⟩ := ceOk_iff.1 h
  obtain ⟨ht, -, hx⟩ := vxs_iff.1 hv
  obtain ⟨-, q1, q2, q3⟩ := ce_yes h
  have CK := code_all (code_start hc) L hx
  rw [hs] at C CK q1 q2 q3
  have hok := heap_ok ht C CK (Nat.le_trans C.ok.h (by omega))
  rw [q1, q2, q3]
  unfold soOk soC soK soF clE clV clH
  by_cases h0 : 0 ≤ s.2.2
  · have c := clo_reach C.lnk h0 C.ok.hi
    have hgi := ok_iso hok c
    have hm : s.2.2 ∈ reachL s.2.1 s.2.2 := (reachL_mem C.lnk h0 C.ok.hi s.2.2).2 .base
    obtain ⟨j, hj, e1, e2, -⟩ := (idx_lnk c (x := s.2.2) (fun _ => hm)).2 h0
    have hjl : j < (isoL s.2.1 (reachL s.2.1 s.2.2)).length := by rw [iso_len]; exact hj
    have hgf : goodF xs (isoL s.2.1 (reachL s.2.1 s.2.2)) (j : Int) = true := by unfold goodF; rw [hgi, hasF_iff.2 ⟨by omega, by omega⟩]; rfl
    obtain ⟨i, hi, e3, e4⟩ := iso_at c hj hjl
    have e5 : s.2.2 = (i : Int) := by rw [← e1, e3]
    rw [if_pos h0, if_pos h0, if_pos h0, if_pos h0, if_pos h0, e2, ht, hgf, decide_eq_true h0]
    refine ⟨rfl, rfl, ?_, ?_⟩
    · show flC _ (j : Int) = _
      rw [flC_at hjl, e4, e5, flC_at hi]
    · show flK _ (j : Int) = _
      rw [flK_at hjl, e4, e5, flK_at hi]
  · rw [if_neg h0, if_neg h0, if_neg h0, if_neg h0, if_neg h0, ht, decide_eq_false h0]
    exact ⟨rfl, rfl, rfl, rfl⟩
end

section
theorem aboveX_len (xs : List Cls) (a : Int) : (aboveX xs a).length ≤ 1048576 := by
  cases h : okTree xs && hasK xs a
  · rw [aboveX_of h]; simp
  · have hab : okTree xs = true ∧ hasK xs a = true := by simpa using h
    have g := good_of hab.1
    have hka := hasK_iff.1 hab.2
    have := aboveL_len g _ a rfl hka.2
    have := g.hi
    rw [aboveX_of h]; show (aboveL xs a).length ≤ _; omega
set_option maxRecDepth 100000 in
theorem iAboveOf_any (A : Option Addr) (n cap : Nat) (xs : List Cls) (a : Int) (w : World) (hR : Sl w A n cap xs) :
    Calls Try.prog 27 #[.agg #[.slice A n cap], .int .i64 a] w (OwnInts (aboveX xs a) w) := by
  obtain ⟨i0, hi, hz0, hz1, hz2⟩ := info_parts intInfo
  have hl := Le.new w (.cells #[.slice A n cap] 25)
  go_enter Try.func27, Try.ntmps27
  go_wp2_with fail
  refine (nodesOf_any A n cap xs _ (hR.alloc _)).mono ?_
  intro e w2 hout
  obtain ⟨hle, A2, n2, gs, rfl, hS2, hcase⟩ := nodes_one hout
  have hl2 := hl.trans hle
  clear hout hle hl
  go_wp2_with fail
  refine (nodeAt_any _ _ _ gs a _ hS2).mono ?_
  rintro e w3 ⟨rfl, rfl⟩
  by_cases hno : (okTree xs && hasK xs a) = true
  · have hab : okTree xs = true ∧ hasK xs a = true := by simpa using hno
    have g := good_of hab.1
    have hka := hasK_iff.1 hab.2
    rcases hcase with ⟨h0, _⟩ | ⟨h1, _, hN⟩
    · rw [hab.1] at h0; cases h0
    · have HF := Lib.hid (aboveX_of hno)
      have HL := Lib.hid hN.len
      have hlen := aboveL_len g _ a rfl hka.2
      have hhi := g.hi
      clear hab hno h1
      go_wp2
      go_loopw [5, 6] (fun v q wr => ∃ a' : Int, ∃ out : List Int, -1 ≤ a' ∧ a' < xs.length ∧ q = .pointer (ptrOf gs a') ∧ aboveL xs a = out ++ aboveL xs a' ∧ wr.ownsRow w2.heap.size 3 1 v out.length (out.flatMap Enc.cells) ∧ Le w2 wr) (fun _ q _ => blk q)
      case atStart => exact ⟨a, [], by omega, hka.2, rfl, rfl, World.ownsRow_nil _ _ _ _, Le.refl _⟩
      case round =>
        obtain ⟨a', out, h1, h2, rfl, hr, hown, hle⟩ := hrel
        have HR := Lib.hid hr; clear hr
        have hNr := hN.le hle
        rcases ptrOf_form (gs := gs) HL.out h2 with ⟨hp, h0⟩ | ⟨i, hi', rfl, hp⟩
        · have HO : Hid (OwnInts (aboveX xs a) w (.returned u5) wr) := by
            have e : aboveL xs a = out := by rw [HR.out, aboveL_neg h0, List.append_nil]
            show OwnInts _ _ _ _
            rw [HF.out]
            refine ⟨u5, rfl, ?_, above_ok g hka.2, hl2.trans hle⟩
            show World.ownsRow _ _ _ _ _ (aboveL xs a).length ((aboveL xs a).flatMap Enc.cells)
            rw [e]; exact own_mono hown hl2.size
          rw [hp]
          clear hp
          go_wp2
          go_ret
          exact HO.out
        · have hx : i < xs.length := by omega
          have hpl := g.par_le hx
          have HS : Hid (aboveL xs a = (out ++ [(i : Int)]) ++ aboveL xs xs[i].parent) := by show _ = _; rw [HR.out, aboveL_at g hx]; simp
          have hol : out.length + 1 ≤ 8 := by
            have e := congrArg List.length HS.out
            simp at e; omega
          have hc3 : out.length + 1 ≤ maxLen := by unfold maxLen; omega
          have hc4 : (out.length + 1) * 8 ≤ 140737488355328 := by omega
          have hid := hNr.idx i hi'
          have hup := hNr.up i hi' hx
          have hgl := hN.lt i hi'
          have hbe := hle.size
          have HB := Lib.hid (blk_up hN g hi' hx)
          rw [hp]
          clear hp
          go_wp2_with (at_builtin; refine wpList_append_own _ rfl _ _ 31 rfl w2.heap.size 3 i0 (.int .i64 0) 1 8 Try.underlying31 hi hz0 hz1 hz2 rfl (by decide) _ _ _ rfl (hown.alloc _) ⟨wr.heap.size, 0, none⟩ 1 1 [.int .i64 i] rfl rfl ?c1 ?c2 hc3 hc4 ?c5 ?_)
          case c1 => exact one_new _ _ _
          case c2 => intro u hu; simp at hu; subst hu; rfl
          case c5 => simp; omega
          intro v1 w1 hown1 hg1 _
          have hle1 := (hle.alloc (.cells #[.int .i64 (i : Int)] 3)).grown hg1 (fun k hk => (hown.lt k hk).1)
          have hup1 := (hN.le hle1).up i hi' hx
          clear hid hup
          go_wp2
          go_roundw
          case rel =>
            refine ⟨xs[i].parent, out ++ [(i : Int)], by omega, by omega, rfl, HS.out, ?_, hle1⟩
            simpa [Enc.cells] using hown1
          case measure => exact HB.out
  · have h1 : (okTree xs && hasK xs a) = false := by simpa using hno
    have HF := Lib.hid (aboveX_of h1)
    have hp : ptrOf gs a = none := by
      rcases hcase with ⟨h0, _, rfl⟩ | ⟨h0, _, hN⟩
      · exact ptrOf_nil a
      · rcases ptr_cases hN.len a with ⟨_, h⟩ | ⟨h, _⟩
        · exact h
        · rw [h0, h] at h1; cases h1
    rw [hp]
    clear hp hcase h1 hno
    have HO : Hid (OwnInts (aboveX xs a) w (.returned (.slice none 0 0)) w2) := by
      show OwnInts _ _ _ _
      rw [HF.out]; exact own_nil w w2 hl2
    go_wp2
    refine wp_loop_rounds 1 ?_
    rw [rounds_succ]
    go_wp2
    go_ret
    exact HO.out
end

section
open Go.ChangeShapes Go.WideShapes Go.ChangeAt Go.RowKit Go.Deep Go.Joins

theorem list_of {α : Type} (p : Nat → α → Prop) : ∀ n, (∀ i, i < n → ∃ x, p i x) → ∃ xs : List α, xs.length = n ∧ ∀ i x, xs[i]? = some x → p i x
  | 0, _ => ⟨[], rfl, fun i x h => by simp at h⟩
  | n + 1, h => by
    obtain ⟨xs, hl, hx⟩ := list_of p n (fun i hi => h i (by omega))
    obtain ⟨x, hp⟩ := h n (by omega)
    refine ⟨xs ++ [x], by simp [hl], fun i y hy => ?_⟩
    rw [List.getElem?_append] at hy
    split at hy
    · exact hx i y hy
    · rename_i hge
      have hi : i = n := by
        rcases Nat.lt_or_ge (i - xs.length) 1 with h1 | h1
        · omega
        · rw [List.getElem?_eq_none (by simpa using h1)] at hy; cases hy
      subst hi
      rw [hl, Nat.sub_self] at hy
      simp at hy; subst hy; exact hp
theorem add_pl (b o n : Nat) : (⟨b, o, none⟩ : Addr).add n = ⟨b, o + n, none⟩ := by
  unfold Addr.add; split
  · next h => subst h; rfl
  · rfl

section
variable {H : Type} {enc : TypeId × Value → H} {P : Program} {w : World} {base : Nat} {spare : Nat → Bool} {held : Bool}
theorem open_sl {α : Type} [Enc α] {t e : TypeId} {fuel : Nat} {cs : List Value} {x : DataW H × List MemPlace} (ht : P.underlying t = some (.slice e)) (hC : P.cellsOf e = Enc.size α) (hp : 0 < Enc.size α)
    (hel : ∀ n cs' y, DataW.trod enc P w base spare held n e cs' = some y → ∃ x : α, cs' = Enc.cells x ∧ Enc.ok x) (h : DataW.trod enc P w base spare held fuel t cs = some x) :
    ∃ (A : Option Addr) (n cap : Nat) (xs : List α), cs = [.slice A n cap] ∧ Sl w A n cap xs := by
  rcases open_slice ht h with ⟨h0, _⟩ | ⟨a, len, cap, m, n, D, Pl, hcs, hb, hl, hm, hmm, hx, hi⟩
  · exact ⟨none, 0, 0, [], h0, Sl.nil w none 0 (by omega)⟩
  · have hlm : len ≤ m := by rw [hmm]; split <;> omega
    obtain ⟨xs, hlen, hxs⟩ := list_of (fun i (x : α) => Enc.ok x ∧ ∀ j, j < Enc.size α → w.cell? ((a.add (i * Enc.size α)).add j) = (Enc.cells x)[j]?) len (fun i hil => by
      obtain ⟨cs', hc, ht'⟩ := hi i (by omega)
      obtain ⟨x, rfl, hok⟩ := hel _ _ _ ht'
      rw [hC] at hc
      obtain ⟨_, _, hat⟩ := World.cells?_some hc
      exact ⟨x, hok, hat⟩)
    refine ⟨some a, len, cap, xs, hcs, hlen, hl, by simpa [maxLen] using hm, fun x hx => ?_, fun hn => ?_⟩
    · obtain ⟨i, hi⟩ := List.getElem?_of_mem hx
      exact (hxs i x hi).1
    · obtain ⟨b, off, spot⟩ := a
      have h0 := (hxs 0 xs[0] (List.getElem?_eq_getElem (by omega))).2 0 hp
      rw [List.getElem?_eq_getElem (by rw [Enc.len]; exact hp)] at h0
      have hs : spot = none := by simpa [Addr.add] using World.cell?_spot h0
      subst hs
      have hlt : b < w.heap.size := by
        have := World.block_lt_of_cell? _ _ h0
        rw [Nat.zero_mul, add_pl, add_pl] at this; exact this
      refine ⟨b, off, rfl, hlt, fun j u hu => ?_⟩
      have hjl : j < xs.length * Enc.size α := by
        have := (List.getElem?_eq_some_iff.1 hu).1
        rwa [flat_len] at this
      have hk : j / Enc.size α < xs.length := by rw [Nat.div_lt_iff_lt_mul hp]; exact hjl
      have hr : j % Enc.size α < Enc.size α := Nat.mod_lt _ hp
      have hdiv : j / Enc.size α * Enc.size α + j % Enc.size α = j := by rw [Nat.mul_comm]; exact Nat.div_add_mod _ _
      have h1 := (hxs (j / Enc.size α) _ (List.getElem?_eq_getElem hk)).2 _ hr
      rw [add_pl, add_pl, Nat.add_assoc, hdiv] at h1
      rw [h1, ← flat_at xs _ hk _ hr, hdiv, hu]

theorem el_cls {e : TypeId} {f0 f1 : Field} (he : P.underlying e = some (.struct #[f0, f1])) (hone : oneCellFields P #[f0, f1] = true) (hC : P.cellsOf e = 2) (h0 : P.underlying f0.type = some .string) (h1 : P.underlying f1.type = some (.int .i64)) :
    ∀ n cs' y, DataW.trod enc P w base spare held n e cs' = some y → ∃ x : Cls, cs' = Enc.cells x ∧ Enc.ok x := by
  intro n cs' y hy
  obtain ⟨y0, y1, n', _, hl, t0, t1⟩ := trod_struct2 he hy
  obtain ⟨o0, k0⟩ := hone_of hone 0 f0 rfl
  obtain ⟨o1, k1⟩ := hone_of hone 1 f1 rfl
  rw [hC] at hl
  match cs', hl with
  | [c0, c1], _ =>
    rw [o0, k0] at t0
    rw [o1, k1] at t1
    obtain ⟨s, hs, _, hsz⟩ := DataW.trod_string h0 t0
    obtain ⟨z, hz, _, hwf⟩ := DataW.trod_int h1 t1
    simp at hs hz
    subst hs; subst hz
    refine ⟨⟨s, z⟩, rfl, by simpa [maxLen] using hsz, ?_⟩
    simpa [Lit.wf, IntKind.min, IntKind.max, IntKind.signed, IntKind.bits] using hwf

theorem open_agg1 {r : Reach} {b0 : Nat} {t : TypeId} {f0 : Field} {v : Value} {d : DataW H} {p : List MemPlace} (hs : P.underlying t = some (.struct #[f0])) (hone : oneCellFields P #[f0] = true) (hC : P.cellsOf t = 1)
    (hv : Value.okWide P w r b0 t v) (h : DataW.Trod enc P w base spare held t v d p) :
    ∃ (v0 : Value) (y0 : DataW H × List MemPlace) (n : Nat), v = .agg #[v0] ∧ DataW.trod enc P w base spare held n f0.type [v0] = some y0 := by
  obtain ⟨cs, rfl, hsz⟩ := okWide_struct hs hv
  obtain ⟨l⟩ := cs
  match l, hsz.trans hC with
  | [c0], _ =>
    obtain ⟨fuel, hf⟩ := h
    obtain ⟨xs, n, _, hx, _, hlen, hg⟩ := DataW.trod_struct hs hf
    obtain ⟨o0, k0⟩ := hone_of hone 0 f0 rfl
    match xs, hlen with
    | [y0], _ => exact ⟨c0, y0, n, rfl, by simpa [Value.cells, o0, k0] using hg 0 f0 rfl⟩
end
end
end Go.Proofs.Ytonpgohigncjeaa
