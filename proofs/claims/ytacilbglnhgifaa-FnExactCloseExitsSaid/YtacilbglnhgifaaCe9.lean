/- one text of LvG, LvL, SC, PR, RI -/
import Derived.Test.YtacilbglnhgifaaCe8
import Derived.Test.YtacilbglnhgifaaCe1
import Derived.Test.YtacilbglnhgifaaCe6
import Derived.Test.YtacilbglnhgifaaCe7
import Derived.Lib.SlicesCompact
namespace Go.Proofs.Ytacilbglnhgifaa
open Go.RowKit
set_option linter.unusedVariables false
section
def pasX (xs : List Cls) (a : Int) (e : Xit) : Bool := !((e.kind == 3) || ((e.kind == 2) && isAL xs a e.a))
def pasL (xs : List Cls) (L : List Xit) (a : Int) : Bool := L.all (pasX xs a)
theorem pas_at {xs : List Cls} {a : Int} {L : List Xit} {k : Nat} (h : k < L.length) : (L.drop k).all (pasX xs a) = (pasX xs a L[k] && (L.drop (k + 1)).all (pasX xs a)) := by rw [List.drop_eq_getElem_cons h]; rfl
theorem escaped {xs : List Cls} {L : List Xit} (ht : okTree xs = true) {a : Int} (ha : hasK xs a = true) (hL : ∀ x ∈ L, xOk xs x = true) :
    (clX xs L (stS true a 0)).2.1[0]? = some ⟨a, 0, -1, -1, false⟩ ∧ ((clX xs L (stS true a 0)).2.2 = 0 ↔ pasL xs L a = true) ∧ -1 ≤ (clX xs L (stS true a 0)).2.2 := by
  induction L with
  | nil => exact ⟨rfl, ⟨fun _ => rfl, fun _ => rfl⟩, by show (-1 : Int) ≤ 0; omega⟩
  | cons x L ih =>
    obtain ⟨i1, i2, i3⟩ := ih (fun y hy => hL y (List.mem_cons_of_mem _ hy))
    have hx := hL x (List.mem_cons_self ..)
    have e : clX xs (x :: L) (stS true a 0) = stX xs x (clX xs L (stS true a 0)) := rfl
    have e2 : pasL xs (x :: L) a = (pasX xs a x && pasL xs L a) := rfl
    rw [e, e2]
    generalize clX xs L (stS true a 0) = s at *
    have hlen : 0 < s.2.1.length := by
      rcases Nat.eq_zero_or_pos s.2.1.length with h | h
      · rw [List.getElem?_eq_none (by omega)] at i1; cases i1
      · exact h
    unfold stX
    by_cases k1 : x.kind = 1
    · rw [if_pos k1]
      have hp : pasX xs a x = true := by unfold pasX; rw [k1]; rfl
      rw [hp, Bool.true_and]
      exact ⟨i1, i2, i3⟩
    · rw [if_neg k1]
      by_cases k2 : x.kind = 2
      · rw [if_pos k2]
        rw [xOk_2 k2, Bool.and_eq_true] at hx
        have hp : pasX xs a x = !isAL xs a x.a := by unfold pasX; rw [k2]; simp
        refine ⟨i1, ?_, ?_⟩
        · rw [hp]
          show tkX xs s.2.1 s.2.2 x.a = 0 ↔ _
          by_cases h0 : s.2.2 = 0
          · have hc : flC s.2.1 s.2.2 = a := by rw [h0]; unfold flC; rw [show ((0 : Int)).toNat = 0 from rfl, i1]
            have hp2 := i2.1 h0
            unfold tkX isAx
            rw [if_pos (by omega), hc, ht, ha, hx.1, Bool.true_and, Bool.true_and, Bool.true_and, hp2]
            cases isAL xs a x.a
            · simp [h0]
            · simp
          · have hp2 : pasL xs L a = false := by
              cases h : pasL xs L a
              · rfl
              · exact absurd (i2.2 h) h0
            rw [hp2, Bool.and_false]
            constructor
            · intro h
              rcases tkX_cases xs s.2.1 s.2.2 x.a with e3 | e3
              · rw [e3] at h; omega
              · rw [e3] at h; exact absurd h h0
            · intro h; cases h
        · show -1 ≤ tkX xs s.2.1 s.2.2 x.a
          rcases tkX_cases xs s.2.1 s.2.2 x.a with e3 | e3 <;> omega
      · rw [if_neg k2]
        by_cases k3 : x.kind = 3
        · rw [if_pos k3]
          have hp : pasX xs a x = false := by unfold pasX; rw [k3]; rfl
          rw [hp, Bool.false_and]
          refine ⟨by dsimp only; rw [List.getElem?_append_left hlen]; exact i1, ⟨fun h => ?_, fun h => nomatch h⟩, by show (-1 : Int) ≤ (s.2.1.length : Int); omega⟩
          have : (s.2.1.length : Int) = 0 := h
          omega
        · rw [if_neg k3]
          have hp : pasX xs a x = true := by
            unfold pasX
            rw [show (x.kind == 3) = false by simp; omega, show (x.kind == 2) = false by simp; omega]; rfl
          rw [hp, Bool.true_and]
          exact ⟨i1, i2, i3⟩
theorem esc_same {xs : List Cls} {L : List Xit} (h : vxs xs L = true) {k : Nat} (hk : k < xs.length) : (faX xs L true (k : Int) == 0) = pasL xs L (k : Int) := by
  obtain ⟨h1, -, h3⟩ := vxs_iff.1 h
  have hk2 : hasK xs (k : Int) = true := hasK_iff.2 ⟨by omega, by omega⟩
  have := (escaped h1 hk2 h3).2.1
  unfold faX
  rw [Bool.eq_iff_iff, beq_iff_eq]
  exact this
theorem escI_pas {xs : List Cls} {L : List Xit} (h : vxs xs L = true) : escI xs L = escK (fun k => pasL xs L (k : Int)) xs.length := by
  rw [escI_of h]
  exact escK_congr fun j hj => esc_same h hj
set_option maxHeartbeats 2000000 in
set_option maxRecDepth 100000 in
theorem passes_any (B : Option Addr) (m c : Nat) (xs : List Cls) (A : Option Addr) (n cap : Nat) (L : List Xit) (a : Int) (g : Good xs) (ha0 : 0 ≤ a) (ha1 : a < xs.length) (w : World) (hT : Sl w B m c xs) (hL : Sl w A n cap L) :
    Calls Try.prog 43 #[.agg #[.slice B m c], .slice A n cap, .int .i64 a] w fun e w' => e = .returned (.bool (pasL xs L a)) ∧ Le w w' := by
  obtain rfl := hL.len
  have hmx := hL.n_le
  have hl := Le.new w (.cells #[.slice B m c] 39)
  have c0 : (w.alloc (.cells #[.slice B m c] 39)).cell? ⟨w.heap.size, 0, none⟩ = some (.slice B m c) := by rw [World.cell?_alloc_at _ _ _ _ rfl]; rfl
  have hz : w.heap.size < (w.alloc (.cells #[.slice B m c] 39)).heap.size := by simp
  have hS := hT.le hl
  have hR := hL.le hl
  clear hT hL
  have HX : Hid (pasL xs L a = L.all (pasX xs a)) := rfl
  go_enter Try.func43, Try.ntmps43
  go_wp2
  generalize w.alloc (.cells #[.slice B m c] 39) = W at *
  go_loopw [7] (fun q wr => ∃ k : Nat, k ≤ L.length ∧ q = .int .i64 k ∧ L.all (pasX xs a) = (L.drop k).all (pasX xs a) ∧ Le W wr) (fun q _ => L.length - (intOf q).toNat)
  case atStart => exact ⟨0, Nat.zero_le _, rfl, rfl, Le.refl _⟩
  case round =>
    obtain ⟨k, hk, rfl, he, hle⟩ := hrel
    have HE := Lib.hid he
    clear he
    have ct := (hle.cell hz).trans c0
    have zt := Nat.lt_of_lt_of_le hz hle.size
    have ST := hS.le hle
    have R1 := hR.le hle
    by_cases hlt : k < L.length
    · obtain ⟨b, off, rfl, hb, d0, d1, -, -⟩ := R1.xit_at hlt
      have HA := Lib.hid (pas_at (xs := xs) (a := a) hlt)
      have hk0 : (0 : Int) ≤ (k : Int) := by omega
      have hkn : (k : Int) < (L.length : Int) := by omega
      have HP : Hid (pasX xs a L[k] = !((L[k].kind == 3) || ((L[k].kind == 2) && isAL xs a L[k].a))) := rfl
      generalize pasX xs a L[k] = P at *
      generalize L[k].kind = vk at *
      generalize L[k].a = va at *
      have Et := cell_ext zt ct
      have E0 := cell_ext hb d0
      have E1 := cell_ext hb d1
      cases q0 : (vk == 3)
      · cases q1 : (vk == 2)
        · have HF : Hid (L.all (pasX xs a) = (L.drop (k + 1)).all (pasX xs a)) := by show _ = _; rw [HE.out, HA.out, HP.out, q0, q1]; rfl
          clear HE HA HP
          go_wp2_with fail
          refine wp_region_ext (by kernel_rfl) (by kernel_rfl) ?_
          repeat (go_big_quiet_step (fail))
          refine wpQuiet_nil ?_
          intro _ hw'
          obtain ⟨gg, rfl⟩ := hw'
          have hw1 := Le.ext wr gg
          generalize wr.ext gg = W2 at *
          go_wp2
          go_roundw
          case rel => exact ⟨k + 1, by omega, by go_num, HF.out, hle.trans hw1⟩
          case measure => simp [intOf]; omega
        · have hca : ∀ (g1 : Ext wr) (_ : True), Calls Try.prog 47 #[.agg #[.slice B m c], .int .i64 a, .int .i64 va] (wr.ext g1) fun e w' => e = .returned (.bool (isAL xs a va)) ∧ Le (wr.ext g1) w' := fun g1 _ => isA_any B m c xs a va _ (ST.le (Le.ext wr g1)) g (by omega) (by omega)
          generalize isAL xs a va = q2 at *
          cases q2
          · have HF : Hid (L.all (pasX xs a) = (L.drop (k + 1)).all (pasX xs a)) := by show _ = _; rw [HE.out, HA.out, HP.out, q0, q1]; rfl
            clear HE HA HP
            go_wp2_with fail
            refine wp_region_ext (by kernel_rfl) (by kernel_rfl) ?_
            repeat (go_big_quiet_step (first | (go_at_call 47; with_reducible exact Calls.ext_of (hca _ trivial))))
            refine wpQuiet_nil ?_
            intro _ hw'
            obtain ⟨gg, rfl⟩ := hw'
            have hw1 := Le.ext wr gg
            generalize wr.ext gg = W2 at *
            go_wp2
            go_roundw
            case rel => exact ⟨k + 1, by omega, by go_num, HF.out, hle.trans hw1⟩
            case measure => simp [intOf]; omega
          · have HF : Hid (pasL xs L a = false) := by show _ = _; rw [HX.out, HE.out, HA.out, HP.out, q0, q1]; rfl
            clear HE HA HP
            go_wp2_with fail
            refine wp_region_ext (by kernel_rfl) (by kernel_rfl) ?_
            repeat (go_big_quiet_step (first | (go_at_call 47; with_reducible exact Calls.ext_of (hca _ trivial))))
            refine wpQuiet_nil ?_
            intro _ hw'
            obtain ⟨gg, rfl⟩ := hw'
            have hw1 := Le.ext wr gg
            generalize wr.ext gg = W2 at *
            go_wp2
            go_ret
            exact ⟨ret_bool HF.out.symm, hl.trans (hle.trans hw1)⟩
      · have HF : Hid (pasL xs L a = false) := by show _ = _; rw [HX.out, HE.out, HA.out, HP.out, q0]; rfl
        clear HE HA HP
        go_wp2_with fail
        refine wp_region_ext (by kernel_rfl) (by kernel_rfl) ?_
        repeat (go_big_quiet_step (fail))
        refine wpQuiet_nil ?_
        intro _ hw'
        obtain ⟨gg, rfl⟩ := hw'
        have hw1 := Le.ext wr gg
        generalize wr.ext gg = W2 at *
        go_wp2
        go_ret
        exact ⟨ret_bool HF.out.symm, hl.trans (hle.trans hw1)⟩
    · have HF : Hid (pasL xs L a = true) := by show _ = _; rw [HX.out, HE.out, List.drop_eq_nil_of_le (by omega)]; rfl
      clear HE
      go_wp2
      go_ret
      exact ⟨ret_bool HF.out.symm, hl.trans hle⟩
end

section
structure CvOk (xs : List Cls) (N : Nat) (s : LvS) : Prop where
  ok : LvOk N s
  cx : Cxt s.2.1
  cl : ∀ i (h : i < s.2.1.length), hasK xs s.2.1[i].cls = true
  ca : ∀ i (h : i < s.2.1.length), s.2.1[i].cause = -1
theorem CvOk.lnk {xs : List Cls} {N : Nat} {s : LvS} (h : CvOk xs N s) : Lnk s.2.1 :=
  ⟨fun i hi => by rw [h.ca i hi]; omega, fun i hi => by have := h.cx i hi; omega, fun i hi => by have := h.cx i hi; rw [h.ca i hi]; omega⟩
theorem CvOk.step {xs : List Cls} {N : Nat} {s : LvS} (h : CvOk xs N s) {x : Xit} (hx : xOk xs x = true) : CvOk xs (N + 1) (stX xs x s) := by
  have hs := h.ok.step xs x
  have h3 := h.ok.lo
  have h4 := h.ok.hi
  by_cases k3 : x.kind = 3
  · have e : (stX xs x s).2.1 = s.2.1 ++ [⟨x.a, x.b, -1, s.2.2, false⟩] := by unfold stX; rw [if_neg (by omega), if_neg (by omega), if_pos k3]
    rw [xOk_3 k3, Bool.and_eq_true] at hx
    have key : ∀ i, i < (stX xs x s).2.1.length → i < s.2.1.length ∨ i = s.2.1.length := fun i hi => by
      rw [e, List.length_append] at hi
      have : i < s.2.1.length + 1 := hi
      omega
    refine ⟨hs, fun i hi => ?_, fun i hi => ?_, fun i hi => ?_⟩
    all_goals
      simp only [e]
      rcases key i hi with h1 | h1
      · rw [List.getElem_append_left h1]
        first | exact h.cx i h1 | exact h.cl i h1 | exact h.ca i h1
      · subst h1
        rw [List.getElem_append_right (Nat.le_refl _)]
        simp only [Nat.sub_self, List.getElem_cons_zero]
        first | exact hx.1 | (exact ⟨by omega, by omega⟩) | (show (-1 : Int) = -1; rfl) | skip
  · have e : (stX xs x s).2.1 = s.2.1 := by
      unfold stX
      by_cases k1 : x.kind = 1
      · rw [if_pos k1]
      · rw [if_neg k1]
        by_cases k2 : x.kind = 2
        · rw [if_pos k2]
        · rw [if_neg k2, if_neg k3]
    refine ⟨hs, ?_, fun i hi => ?_, fun i hi => ?_⟩
    · rw [e]; exact h.cx
    · simp only [e]; exact h.cl i (by rw [e] at hi; exact hi)
    · simp only [e]; exact h.ca i (by rw [e] at hi; exact hi)
theorem CvOk.all {xs : List Cls} {N : Nat} {s : LvS} (h : CvOk xs N s) : ∀ (K : List Xit), (∀ x ∈ K, xOk xs x = true) → CvOk xs (N + K.length) (clX xs K s)
  | [], _ => h
  | x :: K, hK => (CvOk.all h K fun y hy => hK y (List.mem_cons_of_mem _ hy)).step (hK x (List.mem_cons_self ..))
theorem CvOk.start {xs : List Cls} {has : Bool} {cl k : Int} (h : has = true → hasK xs cl = true) : CvOk xs 10 (stS has cl k) := by
  cases has
  · exact ⟨stS_ok _ _ _, fun i hi => absurd hi (Nat.not_lt_zero i), fun i hi => absurd hi (Nat.not_lt_zero i), fun i hi => absurd hi (Nat.not_lt_zero i)⟩
  · have key : ∀ i, i < (stS true cl k).2.1.length → i = 0 := fun i hi => by have : i < 1 := hi; omega
    refine ⟨stS_ok _ _ _, fun i hi => ?_, fun i hi => ?_, fun i hi => ?_⟩
    · have := key i hi; subst this; show (-1 : Int) ≤ -1 ∧ (-1 : Int) < 0; omega
    · have := key i hi; subst this; exact h rfl
    · have := key i hi; subst this; rfl
theorem clX_drop (xs : List Cls) (L : List Xit) (s : LvS) {k : Nat} (h : k < L.length) : clX xs (L.drop k) s = stX xs L[k] (clX xs (L.drop (k + 1)) s) := by rw [List.drop_eq_getElem_cons h]; rfl
theorem tk_AL {xs : List Cls} {N : Nat} {s : LvS} (h : CvOk xs N s) (ht : okTree xs = true) {a : Int} (ha : hasK xs a = true) {k : Nat} (hk : k < s.2.1.length) (e : s.2.2 = (k : Int)) : tkX xs s.2.1 s.2.2 a = if isAL xs s.2.1[k].cls a = true then -1 else s.2.2 := by
  unfold tkX isAx
  rw [if_pos (by omega), e, flC_at hk, ht, h.cl k hk, ha, Bool.true_and, Bool.true_and, Bool.true_and]
end

section
theorem compactUpTo_asc (d : Array Int) (hs : ∀ i j, i ≤ j → j < d.size → d[i]! ≤ d[j]!) : ∀ m, m ≤ d.size →
    (Go.Lib.compactUpTo d m).Pairwise (· < ·) ∧ ∀ x, x ∈ Go.Lib.compactUpTo d m ↔ ∃ j, j < m ∧ d[j]! = x := by
  intro m
  induction m with
  | zero => intro _; exact ⟨by simp [Go.Lib.compactUpTo], by simp [Go.Lib.compactUpTo]⟩
  | succ m ih =>
    intro hm
    obtain ⟨h1, h2⟩ := ih (by omega)
    rw [Go.Lib.compactUpTo_succ]
    by_cases hk : Go.Lib.keeps d m = true
    · rw [if_pos hk]
      have hlt : ∀ x ∈ Go.Lib.compactUpTo d m, x < d[m]! := by
        intro x hx
        obtain ⟨j, hj, rfl⟩ := (h2 x).1 hx
        have h3 : m ≠ 0 := by omega
        have h4 : d[m]! ≠ d[m - 1]! := by
          have := hk; simp [Go.Lib.keeps] at this
          rcases this with h | h
          · omega
          · simpa using h
        have h5 := hs j (m - 1) (by omega) (by omega)
        have h6 := hs (m - 1) m (by omega) (by omega)
        omega
      refine ⟨?_, fun x => ?_⟩
      · rw [List.pairwise_append]
        exact ⟨h1, by simp, fun a ha b hb => by simp at hb; subst hb; exact hlt a ha⟩
      · rw [List.mem_append, h2]
        constructor
        · rintro (⟨j, hj, e⟩ | hx)
          · exact ⟨j, by omega, e⟩
          · simp at hx; exact ⟨m, by omega, by simp [hx]⟩
        · rintro ⟨j, hj, e⟩
          by_cases hjm : j = m
          · subst hjm; right; simp [e]
          · left; exact ⟨j, by omega, e⟩
    · rw [if_neg hk, List.append_nil]
      refine ⟨h1, fun x => ?_⟩
      rw [h2]
      constructor
      · rintro ⟨j, hj, e⟩; exact ⟨j, by omega, e⟩
      · rintro ⟨j, hj, e⟩
        by_cases hjm : j = m
        · subst hjm
          have h4 : j ≠ 0 ∧ d[j]! = d[j - 1]! := by
            have := hk; simp [Go.Lib.keeps] at this
            exact ⟨this.1, by simpa using this.2⟩
          exact ⟨j - 1, by omega, by rw [← h4.2]; exact e⟩
        · exact ⟨j, by omega, e⟩
theorem compact_sorted (M : List Int) : (Go.Lib.compact (M.mergeSort fun x y => decide (x ≤ y))).Pairwise (· < ·) ∧ ∀ x, x ∈ Go.Lib.compact (M.mergeSort fun x y => decide (x ≤ y)) ↔ x ∈ M := by
  have hp := List.pairwise_mergeSort (le := fun x y : Int => decide (x ≤ y)) (by intro a b c; simp; omega) (by intro a b; simp; omega) M
  generalize hS : M.mergeSort (fun x y => decide (x ≤ y)) = S at *
  have hs : ∀ i j, i ≤ j → j < S.toArray.size → S.toArray[i]! ≤ S.toArray[j]! := by
    intro i j hij hj
    simp at hj
    rw [getElem!_pos S.toArray i (by simp; omega), getElem!_pos S.toArray j (by simpa using hj)]
    rcases Nat.lt_or_ge i j with h | h
    · have := List.pairwise_iff_getElem.1 hp i j (by omega) hj h
      simpa using this
    · have : i = j := by omega
      subst this; exact Int.le_refl _
  obtain ⟨h1, h2⟩ := compactUpTo_asc S.toArray hs S.length (by simp)
  refine ⟨h1, fun x => (h2 x).trans ?_⟩
  have hm : x ∈ S ↔ x ∈ M := by rw [← hS]; exact List.mem_mergeSort
  rw [← hm, List.mem_iff_getElem]
  constructor
  · rintro ⟨j, hj, e⟩
    rw [getElem!_pos S.toArray j (by simpa using hj)] at e
    exact ⟨j, hj, by simpa using e⟩
  · rintro ⟨j, hj, e⟩
    exact ⟨j, hj, by rw [getElem!_pos S.toArray j (by simpa using hj)]; simpa using e⟩
theorem asc_ext : ∀ (l m : List Int), l.Pairwise (· < ·) → m.Pairwise (· < ·) → (∀ x, x ∈ l ↔ x ∈ m) → l = m
  | [], [], _, _, _ => rfl
  | [], b :: m, _, _, h => by have := (h b).2 (by simp); simp at this
  | a :: l, [], _, _, h => by have := (h a).1 (by simp); simp at this
  | a :: l, b :: m, h1, h2, h => by
    rw [List.pairwise_cons] at h1 h2
    have e : a = b := by
      have ha := (h a).1 (by simp)
      have hb := (h b).2 (by simp)
      rcases List.mem_cons.1 ha with e | ha
      · exact e
      · rcases List.mem_cons.1 hb with e | hb
        · exact e.symm
        · have := h1.1 b hb; have := h2.1 a ha; omega
    subst e
    rw [asc_ext l m h1.2 h2.2 (fun x => by
      constructor
      · intro hx
        rcases List.mem_cons.1 ((h x).1 (by simp [hx])) with e | hx'
        · have := h1.1 x hx; omega
        · exact hx'
      · intro hx
        rcases List.mem_cons.1 ((h x).2 (by simp [hx])) with e | hx'
        · have := h2.1 x hx; omega
        · exact hx')]
end

section
def cauOf (hs : List Flt) (x : Int) : Int := match hs[x.toNat]? with | some f => f.cause | none => -1
theorem cauOf_at {hs : List Flt} {i : Nat} (h : i < hs.length) : cauOf hs (i : Int) = hs[i].cause := by
  unfold cauOf; rw [Int.toNat_natCast, List.getElem?_eq_getElem h]
theorem Lnk.caultlt {hs : List Flt} (h : Lnk hs) : ∀ x : Int, 0 ≤ x → x < hs.length → cauOf hs x < hs.length := by
  intro x h0 h1
  obtain ⟨i, rfl⟩ := Int.eq_ofNat_of_zero_le h0
  rw [cauOf_at (by omega)]
  exact (h.cause i (by omega)).2

/-- x is reached from f along c and d -/
inductive Rch (c d : Int → Int) (f : Int) : Int → Prop
  | base : Rch c d f f
  | one {x : Int} : Rch c d f x → 0 ≤ c x → Rch c d f (c x)
  | two {x : Int} : Rch c d f x → 0 ≤ d x → Rch c d f (d x)
theorem Rch.trans {c d : Int → Int} {f y x : Int} (h : Rch c d f y) (k : Rch c d y x) : Rch c d f x := by
  induction k with
  | base => exact h
  | one _ h0 ih => exact .one ih h0
  | two _ h0 ih => exact .two ih h0
theorem Rch.least {c d : Int → Int} {f : Int} {S : Int → Prop} (h0 : S f) (h1 : ∀ x, S x → 0 ≤ c x → S (c x)) (h2 : ∀ x, S x → 0 ≤ d x → S (d x)) {x : Int} (h : Rch c d f x) : S x := by
  induction h with
  | base => exact h0
  | one _ h0 ih => exact h1 _ ih h0
  | two _ h0 ih => exact h2 _ ih h0

def rgo (c d : Int → Int) : Nat → Int → List Int → List Int
  | 0, _, out => out
  | m + 1, f, out => if f < 0 ∨ f ∈ out then out else rgo c d m (d f) (rgo c d m (c f) (out ++ [f]))
theorem rgo_stop {c d : Int → Int} {m : Nat} {f : Int} {out : List Int} (h : f < 0 ∨ f ∈ out) : rgo c d m f out = out := by
  cases m with
  | zero => rfl
  | succ m => rw [rgo, if_pos h]
theorem rgo_on {c d : Int → Int} {m : Nat} {f : Int} {out : List Int} (h : ¬ (f < 0 ∨ f ∈ out)) : rgo c d (m + 1) f out = rgo c d m (d f) (rgo c d m (c f) (out ++ [f])) := by
  rw [rgo, if_neg h]
/-- what is found keeps to -/
structure Fnd (n : Nat) (out : List Int) : Prop where
  nd : out.Nodup
  rng : ∀ x ∈ out, 0 ≤ x ∧ x < n
theorem Fnd.nil (n : Nat) : Fnd n [] := ⟨by simp, by simp⟩
theorem Fnd.snoc {n : Nat} {out : List Int} (h : Fnd n out) {f : Int} (h0 : 0 ≤ f) (h1 : f < n) (hm : f ∉ out) : Fnd n (out ++ [f]) := by
  refine ⟨?_, fun x hx => ?_⟩
  · rw [List.nodup_append]
    exact ⟨h.nd, by simp, fun a ha b hb e => by simp at hb; subst hb; subst e; exact hm ha⟩
  · rcases List.mem_append.1 hx with hx | hx
    · exact h.rng x hx
    · simp at hx; subst hx; exact ⟨h0, h1⟩
theorem Fnd.len {n : Nat} {out : List Int} (h : Fnd n out) : out.length ≤ n := Chn.nodup_bound n out h.nd h.rng
structure RPost (c d : Int → Int) (n : Nat) (f : Int) (out L : List Int) : Prop where
  fnd : Fnd n L
  pre : ∃ r, L = out ++ r
  has : 0 ≤ f → f ∈ L
  new : ∀ x ∈ L, x ∉ out → Rch c d f x ∧ (0 ≤ c x → c x ∈ L) ∧ (0 ≤ d x → d x ∈ L)
  neg : f < 0 → L = out
theorem rgo_post {c d : Int → Int} {n : Nat} (hc : ∀ x : Int, 0 ≤ x → x < n → c x < n) (hd : ∀ x : Int, 0 ≤ x → x < n → d x < n) :
    ∀ (m : Nat) (f : Int) (out : List Int), Fnd n out → f < n → n + 1 ≤ m + out.length → RPost c d n f out (rgo c d m f out) := by
  intro m
  induction m with
  | zero => intro f out h _ hm; have := h.len; omega
  | succ m ih =>
    intro f out h hf hm
    by_cases he : f < 0 ∨ f ∈ out
    · rw [rgo_stop he]
      refine ⟨h, ⟨[], by simp⟩, fun h0 => ?_, fun x hx hn => absurd hx hn, fun _ => rfl⟩
      rcases he with he | he
      · omega
      · exact he
    · rw [rgo_on he]
      simp only [not_or, Int.not_lt] at he
      obtain ⟨h0, hm0⟩ := he
      have p1 := ih (c f) (out ++ [f]) (h.snoc h0 hf hm0) (hc f h0 hf) (by simp; omega)
      obtain ⟨r1, e1⟩ := p1.pre
      have p2 := ih (d f) (rgo c d m (c f) (out ++ [f])) p1.fnd (hd f h0 hf) (by rw [e1]; simp; omega)
      generalize rgo c d m (c f) (out ++ [f]) = L1 at *
      generalize rgo c d m (d f) L1 = L2 at *
      obtain ⟨r2, e2⟩ := p2.pre
      have hsub : ∀ x, x ∈ L1 → x ∈ L2 := fun x hx => by rw [e2]; exact List.mem_append_left _ hx
      have hf1 : f ∈ L1 := by rw [e1]; simp
      refine ⟨p2.fnd, ⟨f :: r1 ++ r2, by rw [e2, e1]; simp⟩, fun _ => hsub f hf1, fun x hx hn => ?_, fun h => by omega⟩
      by_cases hx1 : x ∈ L1
      · by_cases hxf : x = f
        · subst hxf
          refine ⟨.base, fun hp => hsub _ (p1.has hp), fun hp => p2.has hp⟩
        · have hno : x ∉ out ++ [f] := by simp [hn, hxf]
          obtain ⟨a, b, c'⟩ := p1.new x hx1 hno
          have hcf : 0 ≤ c f := by
            rcases Int.lt_or_le (c f) 0 with hl | hl
            · rw [p1.neg hl] at hx1; exact absurd hx1 hno
            · exact hl
          exact ⟨(Rch.one .base hcf).trans a, fun hp => hsub _ (b hp), fun hp => hsub _ (c' hp)⟩
      · obtain ⟨a, b, c'⟩ := p2.new x hx hx1
        have hdf : 0 ≤ d f := by
          rcases Int.lt_or_le (d f) 0 with hl | hl
          · rw [p2.neg hl] at hx; exact absurd hx hx1
          · exact hl
        exact ⟨(Rch.two .base hdf).trans a, b, c'⟩
def rch0 (hs : List Flt) (f : Int) : List Int := rgo (cauOf hs) (ctxOf hs) (hs.length + 1) f []
theorem rch0_fnd {hs : List Flt} (lk : Lnk hs) {f : Int} (h1 : f < hs.length) : Fnd hs.length (rch0 hs f) :=
  (rgo_post lk.caultlt lk.ctxlt (hs.length + 1) f [] (Fnd.nil _) h1 (by simp)).fnd
theorem rch0_iff {hs : List Flt} (lk : Lnk hs) {f : Int} (h0 : 0 ≤ f) (h1 : f < hs.length) (x : Int) : x ∈ rch0 hs f ↔ Rch (cauOf hs) (ctxOf hs) f x := by
  have p := rgo_post lk.caultlt lk.ctxlt (hs.length + 1) f [] (Fnd.nil _) h1 (by simp)
  constructor
  · intro h; exact (p.new x h (by simp)).1
  · intro h
    exact Rch.least (S := fun x => x ∈ rch0 hs f) (p.has h0) (fun x hx => (p.new x hx (by simp)).2.1) (fun x hx => (p.new x hx (by simp)).2.2) h
/-- the numbers below n of a list, ascending -/
def ascOf (L : List Int) : Nat → List Int
  | 0 => []
  | n + 1 => ascOf L n ++ cond (hasI L (n : Int)) [(n : Int)] []
theorem ascOf_mem {L : List Int} : ∀ {k : Nat} {x : Int}, x ∈ ascOf L k ↔ 0 ≤ x ∧ x < k ∧ x ∈ L := by
  intro k
  induction k with
  | zero => intro x; simp [ascOf]; omega
  | succ k ih =>
    intro x
    rw [ascOf, List.mem_append, ih]
    cases hp : hasI L (k : Int)
    · simp only [cond_false, List.not_mem_nil, or_false]
      constructor
      · rintro ⟨a, b, c⟩; exact ⟨a, by omega, c⟩
      · rintro ⟨a, b, c⟩
        refine ⟨a, ?_, c⟩
        have : x ≠ k := by rintro rfl; rw [← hasI_iff', hp] at c; cases c
        omega
    · simp only [cond_true, List.mem_singleton]
      constructor
      · rintro (⟨a, b, c⟩ | rfl)
        · exact ⟨a, by omega, c⟩
        · exact ⟨by omega, by omega, hasI_iff'.1 hp⟩
      · rintro ⟨a, b, c⟩
        by_cases e : x = k
        · exact .inr e
        · exact .inl ⟨a, by omega, c⟩
theorem ascOf_asc {L : List Int} : ∀ (k : Nat), (ascOf L k).Pairwise (· < ·) := by
  intro k
  induction k with
  | zero => simp [ascOf]
  | succ k ih =>
    rw [ascOf, List.pairwise_append]
    refine ⟨ih, ?_, fun a ha b hb => ?_⟩
    · cases hasI L (k : Int) <;> simp
    · have := (ascOf_mem.1 ha).2.1
      cases hp : hasI L (k : Int)
      · rw [hp] at hb; simp at hb
      · rw [hp] at hb; simp at hb; omega
theorem ascOf_len {L : List Int} : ∀ (k : Nat), (ascOf L k).length ≤ k := by
  intro k
  induction k with
  | zero => simp [ascOf]
  | succ k ih => rw [ascOf, List.length_append]; cases hasI L (k : Int) <;> simp <;> omega
theorem ascOf_congr {L M : List Int} : ∀ (k : Nat), (∀ x : Int, 0 ≤ x → x < k → (x ∈ L ↔ x ∈ M)) → ascOf L k = ascOf M k := by
  intro k h
  exact asc_ext _ _ (ascOf_asc k) (ascOf_asc k) (fun x => by rw [ascOf_mem, ascOf_mem]; exact ⟨fun ⟨a, b, c⟩ => ⟨a, b, (h x a b).1 c⟩, fun ⟨a, b, c⟩ => ⟨a, b, (h x a b).2 c⟩⟩)
def reachL (hs : List Flt) (f : Int) : List Int := ascOf (rch0 hs f) hs.length
theorem reachL_mem {hs : List Flt} (lk : Lnk hs) {f : Int} (h0 : 0 ≤ f) (h1 : f < hs.length) (x : Int) : x ∈ reachL hs f ↔ Rch (cauOf hs) (ctxOf hs) f x := by
  unfold reachL
  rw [ascOf_mem, rch0_iff lk h0 h1]
  constructor
  · exact fun h => h.2.2
  · intro h
    have := (rch0_fnd lk h1).rng x ((rch0_iff lk h0 h1 x).2 h)
    exact ⟨this.1, this.2, h⟩
theorem reachL_asc (hs : List Flt) (f : Int) : (reachL hs f).Pairwise (· < ·) := ascOf_asc _
/-- what is ascending and has just what is reached is it -/
theorem reachL_eq {hs : List Flt} (lk : Lnk hs) {f : Int} (h0 : 0 ≤ f) (h1 : f < hs.length) {L : List Int} (ha : L.Pairwise (· < ·)) (hm : ∀ x, x ∈ L ↔ Rch (cauOf hs) (ctxOf hs) f x) : L = reachL hs f :=
  asc_ext _ _ ha (reachL_asc hs f) (fun x => by rw [hm, reachL_mem lk h0 h1])
end

section
/-- x is marked -/
def tr (fd : List Bool) (x : Int) : Prop := 0 ≤ x ∧ fd[x.toNat]? = some true
theorem tr_nat {fd : List Bool} {i : Nat} (h : i < fd.length) : tr fd (i : Int) ↔ fd[i] = true := by
  unfold tr; rw [Int.toNat_natCast, List.getElem?_eq_getElem h]; simp
theorem tr_lt {fd : List Bool} {x : Int} (h : tr fd x) : ∃ i : Nat, x = i ∧ i < fd.length := by
  obtain ⟨h0, h1⟩ := h
  obtain ⟨i, rfl⟩ := Int.eq_ofNat_of_zero_le h0
  rw [Int.toNat_natCast] at h1
  exact ⟨i, rfl, (List.getElem?_eq_some_iff.1 h1).1⟩
theorem tr_set {fd : List Bool} {i : Nat} (hi : i < fd.length) {x : Int} : tr (fd.set i true) x ↔ tr fd x ∨ x = i := by
  constructor
  · intro h
    obtain ⟨k, rfl, hk⟩ := tr_lt h
    rw [List.length_set] at hk
    rw [tr_nat (by simpa using hk), List.getElem_set] at h
    split at h
    · right; omega
    · left; exact (tr_nat hk).2 h
  · rintro (h | rfl)
    · obtain ⟨k, rfl, hk⟩ := tr_lt h
      rw [tr_nat (by simpa using hk), List.getElem_set]
      split
      · rfl
      · exact (tr_nat hk).1 h
    · rw [tr_nat (by simpa using hi)]; simp
theorem tr_start (n : Nat) (x : Int) : ¬ tr (List.replicate n false) x := by
  intro h
  obtain ⟨k, rfl, hk⟩ := tr_lt h
  rw [tr_nat hk] at h
  simp at h
/-- how many are not marked -/
def unm : List Bool → Nat
  | [] => 0
  | b :: r => cond b 0 1 + unm r
theorem unm_set : ∀ {fd : List Bool} {i : Nat} (h : i < fd.length), fd[i] = false → unm (fd.set i true) + 1 = unm fd
  | b :: r, 0, _, hb => by simp at hb; subst hb; simp [unm]; omega
  | b :: r, i + 1, h, hb => by
    have := unm_set (fd := r) (i := i) (by simpa using h) (by simpa using hb)
    simp only [List.set_cons_succ, unm]; omega
theorem unm_rep (n : Nat) : unm (List.replicate n false) = n := by
  induction n with
  | zero => rfl
  | succ n ih => rw [List.replicate_succ, unm, ih]; simp; omega
structure RInv (c d : Int → Int) (n : Nat) (f : Int) (td : List Int) (fd : List Bool) : Prop where
  len : fd.length = n
  bnd : ∀ x ∈ td, -1 ≤ x ∧ x < n
  mem : ∀ x ∈ td, 0 ≤ x → Rch c d f x
  fnd : ∀ x, tr fd x → Rch c d f x ∧ (0 ≤ c x → tr fd (c x) ∨ c x ∈ td) ∧ (0 ≤ d x → tr fd (d x) ∨ d x ∈ td)
  has : f ∈ td ∨ tr fd f
theorem RInv.start {c d : Int → Int} {n : Nat} {f : Int} (h0 : 0 ≤ f) (h1 : f < n) : RInv c d n f [f] (List.replicate n false) :=
  ⟨by simp, fun x hx => by simp at hx; subst hx; omega, fun x hx _ => by simp at hx; subst hx; exact .base, fun x hx => absurd hx (tr_start n x), .inl (by simp)⟩
theorem RInv.pop {c d : Int → Int} {n : Nat} {f i : Int} {t0 : List Int} {fd : List Bool} (h : RInv c d n f (t0 ++ [i]) fd) (hf : 0 ≤ f) (hi : i < 0 ∨ tr fd i) : RInv c d n f t0 fd := by
  have key : ∀ x, 0 ≤ x → (tr fd x ∨ x ∈ t0 ++ [i]) → tr fd x ∨ x ∈ t0 := by
    intro x h0 hx
    rcases hx with hx | hx
    · exact .inl hx
    · rcases List.mem_append.1 hx with hx | hx
      · exact .inr hx
      · simp at hx; subst hx
        rcases hi with hi | hi
        · omega
        · exact .inl hi
  refine ⟨h.len, fun x hx => h.bnd x (by simp [hx]), fun x hx => h.mem x (by simp [hx]), fun x hx => ?_, ?_⟩
  · obtain ⟨a, b, e⟩ := h.fnd x hx
    exact ⟨a, fun hp => key _ hp (b hp), fun hp => key _ hp (e hp)⟩
  · rcases h.has with h1 | h1
    · rcases key f hf (.inr h1) with h2 | h2
      · exact .inr h2
      · exact .inl h2
    · exact .inr h1
theorem RInv.push {c d : Int → Int} {n : Nat} {f : Int} {i : Nat} {t0 : List Int} {fd : List Bool} (h : RInv c d n f (t0 ++ [(i : Int)]) fd) (hil : i < n) (hc : -1 ≤ c i ∧ c i < n) (hd : -1 ≤ d i ∧ d i < n) : RInv c d n f (t0 ++ [c i, d i]) (fd.set i true) := by
  have hil' : i < fd.length := by rw [h.len]; exact hil
  have hri := h.mem (i : Int) (by simp) (by omega)
  have key : ∀ x, (tr fd x ∨ x ∈ t0 ++ [(i : Int)]) → tr (fd.set i true) x ∨ x ∈ t0 ++ [c i, d i] := by
    intro x hx
    rcases hx with hx | hx
    · exact .inl ((tr_set hil').2 (.inl hx))
    · rcases List.mem_append.1 hx with hx | hx
      · exact .inr (by simp [hx])
      · simp at hx; exact .inl ((tr_set hil').2 (.inr hx))
  refine ⟨by simpa using h.len, fun x hx => ?_, fun x hx h0 => ?_, fun x hx => ?_, ?_⟩
  · rcases List.mem_append.1 hx with hx | hx
    · exact h.bnd x (by simp [hx])
    · simp at hx; rcases hx with rfl | rfl
      · exact hc
      · exact hd
  · rcases List.mem_append.1 hx with hx | hx
    · exact h.mem x (by simp [hx]) h0
    · simp at hx; rcases hx with rfl | rfl
      · exact .one hri h0
      · exact .two hri h0
  · rcases (tr_set hil').1 hx with hx | rfl
    · obtain ⟨a, b, e⟩ := h.fnd x hx
      exact ⟨a, fun hp => key _ (b hp), fun hp => key _ (e hp)⟩
    · exact ⟨hri, fun _ => .inr (by simp), fun _ => .inr (by simp)⟩
  · rcases key f (h.has.symm) with h1 | h1
    · exact .inr h1
    · exact .inl h1
theorem RInv.done {c d : Int → Int} {n : Nat} {f : Int} {fd : List Bool} (h : RInv c d n f [] fd) (x : Int) : tr fd x ↔ Rch c d f x := by
  constructor
  · exact fun hx => (h.fnd x hx).1
  · intro hx
    refine Rch.least (S := tr fd) ?_ (fun x hx h0 => ?_) (fun x hx h0 => ?_) hx
    · rcases h.has with h1 | h1
      · simp at h1
      · exact h1
    · rcases (h.fnd x hx).2.1 h0 with h1 | h1
      · exact h1
      · simp at h1
    · rcases (h.fnd x hx).2.2 h0 with h1 | h1
      · exact h1
      · simp at h1
/-- the marked ones below k -/
def mkd (fd : List Bool) : Nat → List Int
  | 0 => []
  | k + 1 => mkd fd k ++ cond (fd[k]?.getD false) [(k : Int)] []
theorem mkd_yes {fd : List Bool} {k : Nat} (h : k < fd.length) (e : fd[k] = true) : mkd fd (k + 1) = mkd fd k ++ [(k : Int)] := by
  rw [mkd, List.getElem?_eq_getElem h, e]; rfl
theorem mkd_no {fd : List Bool} {k : Nat} (h : k < fd.length) (e : fd[k] = false) : mkd fd (k + 1) = mkd fd k := by
  rw [mkd, List.getElem?_eq_getElem h, e]; simp
theorem mkd_len {fd : List Bool} : ∀ k, (mkd fd k).length ≤ k
  | 0 => by simp [mkd]
  | k + 1 => by have := mkd_len (fd := fd) k; rw [mkd, List.length_append]; cases fd[k]?.getD false <;> simp <;> omega
theorem mkd_mem {fd : List Bool} : ∀ {k : Nat} {x : Int}, x ∈ mkd fd k ↔ x < k ∧ tr fd x := by
  intro k
  induction k with
  | zero => intro x; simp [mkd]; intro h1 h2; exact absurd h2.1 (by omega)
  | succ k ih =>
    intro x
    rw [mkd, List.mem_append, ih]
    have hk : tr fd (k : Int) ↔ fd[k]?.getD false = true := by
      unfold tr; rw [Int.toNat_natCast]
      cases h : fd[k]? <;> simp
    cases hp : fd[k]?.getD false
    · rw [hp] at hk
      simp only [cond_false, List.not_mem_nil, or_false]
      constructor
      · rintro ⟨a, b⟩; exact ⟨by omega, b⟩
      · rintro ⟨a, b⟩
        have : x ≠ k := by rintro rfl; simpa using hk.1 b
        exact ⟨by omega, b⟩
    · rw [hp] at hk
      simp only [cond_true, List.mem_singleton]
      constructor
      · rintro (⟨a, b⟩ | rfl)
        · exact ⟨by omega, b⟩
        · exact ⟨by omega, hk.2 rfl⟩
      · rintro ⟨a, b⟩
        by_cases e : x = k
        · exact .inr e
        · exact .inl ⟨by omega, b⟩
theorem mkd_asc {fd : List Bool} : ∀ k, (mkd fd k).Pairwise (· < ·) := by
  intro k
  induction k with
  | zero => simp [mkd]
  | succ k ih =>
    rw [mkd, List.pairwise_append]
    refine ⟨ih, by cases fd[k]?.getD false <;> simp, fun a ha b hb => ?_⟩
    have := (mkd_mem.1 ha).1
    cases hp : fd[k]?.getD false
    · rw [hp] at hb; simp at hb
    · rw [hp] at hb; simp at hb; omega
theorem mkd_reach {hs : List Flt} (lk : Lnk hs) {f : Int} (h0 : 0 ≤ f) (h1 : f < hs.length) {fd : List Bool} (h : RInv (cauOf hs) (ctxOf hs) hs.length f [] fd) : mkd fd hs.length = reachL hs f := by
  refine reachL_eq lk h0 h1 (mkd_asc _) (fun x => ?_)
  rw [mkd_mem, h.done]
  constructor
  · exact fun h => h.2
  · intro hx
    obtain ⟨i, rfl, hi⟩ := tr_lt ((h.done x).2 hx)
    rw [h.len] at hi
    exact ⟨by omega, hx⟩
end
end Go.Proofs.Ytacilbglnhgifaa
