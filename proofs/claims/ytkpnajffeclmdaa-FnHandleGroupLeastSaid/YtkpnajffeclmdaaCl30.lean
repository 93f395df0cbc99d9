/- one text of PB, GpJ, GpV, GpZ -/
import Derived.Test.YtkpnajffeclmdaaCl29
import Derived.Test.YtkpnajffeclmdaaCl27
import Derived.Test.YtkpnajffeclmdaaCl25
import Derived.Test.YtkpnajffeclmdaaCl26
import Derived.Test.YtkpnajffeclmdaaCl21
namespace Go.Proofs.Ytkpnajffeclmdaa
open Go.RowKit
set_option linter.unusedVariables false
section
/- common classes -/
theorem firstIs_spec (xs : List Cls) (b : Int) : ∀ (L : List Int), (firstIs xs b L = -1 ∧ ∀ x ∈ L, isAL xs b x = false) ∨ (firstIs xs b L ∈ L ∧ isAL xs b (firstIs xs b L) = true)
  | [] => .inl ⟨rfl, fun _ h => nomatch h⟩
  | c :: r => by
    unfold firstIs
    cases h : isAL xs b c
    · rw [if_neg (by simp)]
      rcases firstIs_spec xs b r with ⟨h1, h2⟩ | ⟨h1, h2⟩
      · refine .inl ⟨h1, fun x hx => ?_⟩
        rcases List.mem_cons.1 hx with rfl | hx
        · exact h
        · exact h2 x hx
      · exact .inr ⟨List.mem_cons_of_mem _ h1, h2⟩
    · rw [if_pos rfl]
      exact .inr ⟨List.mem_cons_self, h⟩
/-- the first one of those above a that b is, is the lowest one -/
theorem firstIs_low {xs : List Cls} (g : Good xs) {b : Int} : ∀ (m : Nat) (a : Int), (a + 1).toNat = m → a < xs.length → ∀ c, isAL xs a c = true → isAL xs b c = true → isAL xs (firstIs xs b (aboveL xs a)) c = true := by
  intro m
  induction m using Nat.strongRecOn with
  | _ m ih =>
    intro a hm ha c hc hb
    by_cases h : a < 0
    · rw [isAL_neg h] at hc; cases hc
    · obtain ⟨i, rfl⟩ := Int.eq_ofNat_of_zero_le (by omega : 0 ≤ a)
      have hi : i < xs.length := by omega
      have hp := g.par_le hi
      rw [aboveL_at g hi]
      unfold firstIs
      cases h1 : isAL xs b (i : Int)
      · rw [if_neg (by simp)]
        rw [isAL_at g hi, Bool.or_eq_true] at hc
        rcases hc with hc | hc
        · have : (i : Int) = c := by simpa using hc
          rw [this, hb] at h1; cases h1
        · exact ih (xs[i].parent + 1).toNat (by omega) _ rfl (by omega) c hc hb
      · rw [if_pos rfl]; exact hc
structure Common (xs : List Cls) (a b o : Int) : Prop where
  lo : 0 ≤ o
  hi : o < xs.length
  left : isAL xs a o = true
  right : isAL xs b o = true
  low : ∀ c, isAL xs a c = true → isAL xs b c = true → isAL xs o c = true
theorem common_of {xs : List Cls} (g : Good xs) {a b : Int} (ha : 0 ≤ a ∧ a < xs.length) (hb : 0 ≤ b ∧ b < xs.length) : Common xs a b (firstIs xs b (aboveL xs a)) := by
  rcases firstIs_spec xs b (aboveL xs a) with ⟨_, h⟩ | ⟨h1, h2⟩
  · have := h 0 (isAL_iff.1 (isA_root g ha.1 ha.2))
    rw [isA_root g hb.1 hb.2] at this; cases this
  · have hm := aboveL_mem g _ a rfl ha.2 _ h1
    exact ⟨hm.1, by omega, isAL_iff.2 h1, h2, fun c hc hd => firstIs_low g _ a rfl ha.2 c hc hd⟩
theorem Common.eq {xs : List Cls} (g : Good xs) {a b o p : Int} (h : Common xs a b o) (k : Common xs b a p) : p = o :=
  isAL_anti g k.hi h.hi (k.low o h.right h.left) (h.low p k.right k.left)
theorem Common.sub {xs : List Cls} (g : Good xs) {a b o : Int} (h : Common xs a b o) (hb : 0 ≤ b ∧ b < xs.length) (hab : isAL xs a b = true) : o = b :=
  isAL_anti g h.hi hb.2 (h.low b hab (isAL_self hb.1)) h.right

/- the fewest classes that catch the same -/
theorem need_split {xs : List Cls} {L : List Int} {a : Int} : needC xs L a = true ↔ a ∈ L ∧ ∀ b ∈ L, b = a ∨ isAL xs a b = false := by
  unfold needC; rw [Bool.and_eq_true, hasI_iff, allN_iff]
theorem least_mem {xs : List Cls} {L : List Int} (gc : GoodC xs L) {a : Int} : a ∈ leastK xs L xs.length ↔ needC xs L a = true := by
  rw [leastK_mem]
  exact ⟨fun h => h.2.2, fun h => by have := gc.mem a (need_split.1 h).1; exact ⟨this.1, this.2, h⟩⟩
theorem least_len {xs : List Cls} {L : List Int} (gc : GoodC xs L) : (leastK xs L xs.length).length ≤ L.length := by
  rw [← least_eq gc]
  have h1 : ((L.filter (upP xs L)).mergeSort fun x y => decide (x ≤ y)).length = (L.filter (upP xs L)).length := List.length_mergeSort _
  have h2 := List.length_filter_le (upP xs L) L
  generalize ((L.filter (upP xs L)).mergeSort fun x y => decide (x ≤ y)) = S at *
  have h3 : (Go.Lib.compact S).length ≤ S.length := by
    unfold Go.Lib.compact Go.Lib.compactUpTo
    rw [List.length_map]
    have := List.length_filter_le (Go.Lib.keeps S.toArray) (List.range S.length)
    simpa using this
  omega
theorem least_sub {xs : List Cls} {L : List Int} (gc : GoodC xs L) {M : List Int} (hM : ∀ x ∈ M, x ∈ leastK xs L xs.length) : ∀ b ∈ M, 0 ≤ b ∧ b < xs.length := fun b hb => gc.mem b (need_split.1 ((least_mem gc).1 (hM b hb))).1
theorem least_good {xs : List Cls} {L : List Int} (h : goodC xs L = true) : goodC xs (leastK xs L xs.length) = true := by
  have gc := goodC_of h
  exact goodC_mk (goodC_ok h) (least_sub gc (fun _ h => h)) (by have := least_len gc; have := gc.few; omega)
theorem least_top {xs : List Cls} {L : List Int} (gc : GoodC xs L) {x : Int} (hx : x < xs.length) : ∀ (m : Nat) (b : Int), b.toNat = m → b ∈ L → isAL xs x b = true → ∃ c ∈ leastK xs L xs.length, isAL xs x c = true := by
  intro m
  induction m using Nat.strongRecOn with
  | _ m ih =>
    intro b hm hb hxb
    cases h : needC xs L b
    · have hn : ¬ ∀ c ∈ L, c = b ∨ isAL xs b c = false := fun hc => by rw [need_split.2 ⟨hb, hc⟩] at h; cases h
      have : ∃ c ∈ L, ¬ (c = b ∨ isAL xs b c = false) := Classical.byContradiction fun hne => hn fun c hc => Classical.byContradiction fun hcn => hne ⟨c, hc, hcn⟩
      obtain ⟨c, hc, hcn⟩ := this
      have hbr := gc.mem b hb
      have h1 : isAL xs b c = true := by cases h' : isAL xs b c; exact absurd (.inr h') hcn; rfl
      have hle := isAL_le gc.tree hbr.2 h1
      have hne : c ≠ b := fun e => hcn (.inl e)
      exact ih c.toNat (by omega) c rfl hc (isAL_tr gc.tree hx hxb h1)
    · exact ⟨b, (least_mem gc).2 h, hxb⟩
theorem caught_least {xs : List Cls} {L : List Int} (h : goodC xs L = true) : caughtX xs (leastK xs L xs.length) = caughtX xs L := by
  have gc := goodC_of h
  rw [caughtX_of h, caughtX_of (least_good h)]
  refine caughtK_congr (fun x h0 h1 => ⟨?_, ?_⟩)
  · rintro ⟨b, hb, hx⟩
    exact ⟨b, (need_split.1 ((least_mem gc).1 hb)).1, hx⟩
  · rintro ⟨b, hb, hx⟩
    exact least_top gc h1 _ b rfl hb hx
theorem least_apart {xs : List Cls} {L : List Int} (gc : GoodC xs L) {i j : Nat} (hi : i < (leastK xs L xs.length).length) (hj : j < (leastK xs L xs.length).length) (hne : i ≠ j) : isAL xs (leastK xs L xs.length)[i] (leastK xs L xs.length)[j] = false := by
  have h1 := need_split.1 ((least_mem gc).1 (List.getElem_mem hi))
  have h2 := need_split.1 ((least_mem gc).1 (List.getElem_mem hj))
  rcases h1.2 _ h2.1 with h | h
  · exfalso
    have := leastK_asc xs L xs.length
    rw [List.pairwise_iff_getElem] at this
    rcases Nat.lt_or_ge i j with hlt | hge
    · have := this i j hi hj hlt; omega
    · have := this j i hj hi (by omega); omega
  · exact h
theorem dead_least {xs : List Cls} {L : List Int} (h : goodC xs L = true) : deadX xs (leastK xs L xs.length) = [] := by
  have gc := goodC_of h
  rw [deadX_of (least_good h)]
  show deadK xs (leastK xs L xs.length) (leastK xs L xs.length).length = []
  have hap := fun {i j : Nat} hi hj hne => least_apart gc (i := i) (j := j) hi hj hne
  generalize leastK xs L xs.length = M at *
  cases hd : deadK xs M M.length with
  | nil => rfl
  | cons x r =>
    exfalso
    have hx : x ∈ deadK xs M M.length := by rw [hd]; exact List.mem_cons_self
    have h2 := hx
    rw [deadK_filt, filt_mem] at h2
    obtain ⟨k, rfl⟩ := Int.eq_ofNat_of_zero_le h2.1
    have hk : k < M.length := by omega
    obtain ⟨j, hj, hjt⟩ := (dead_iff hk).1 hx
    rw [hap hk (by omega) (by omega)] at hjt; cases hjt
def lessK (M : List Int) (k : Nat) : List Int := M.take k ++ M.drop (k + 1)
theorem lessK_mem {M : List Int} {k : Nat} {x : Int} (h : x ∈ lessK M k) : ∃ j, ∃ hj : j < M.length, j ≠ k ∧ M[j] = x := by
  unfold lessK at h
  rcases List.mem_append.1 h with h | h
  · obtain ⟨j, hj, rfl⟩ := List.getElem_of_mem h
    rw [List.length_take] at hj
    exact ⟨j, by omega, by omega, by rw [List.getElem_take]⟩
  · obtain ⟨j, hj, rfl⟩ := List.getElem_of_mem h
    rw [List.length_drop] at hj
    exact ⟨k + 1 + j, by omega, by omega, by rw [List.getElem_drop]⟩
theorem lessK_len {M : List Int} {k : Nat} (hk : k < M.length) : (lessK M k).length + 1 = M.length := by
  unfold lessK; rw [List.length_append, List.length_take, List.length_drop]; omega
theorem less_good {xs : List Cls} {L : List Int} (h : goodC xs L = true) {k : Nat} (hk : k < (leastK xs L xs.length).length) : goodC xs (lessK (leastK xs L xs.length) k) = true := by
  have gc := goodC_of h
  refine goodC_mk (goodC_ok h) (least_sub gc (fun x hx => ?_)) (by have := lessK_len hk; have := least_len gc; have := gc.few; omega)
  obtain ⟨j, hj, _, rfl⟩ := lessK_mem hx
  exact List.getElem_mem hj
theorem less_fewer {xs : List Cls} {L : List Int} (h : goodC xs L = true) {k : Nat} (hk : k < (leastK xs L xs.length).length) : (caughtX xs (lessK (leastK xs L xs.length) k)).length < (caughtX xs L).length := by
  have gc := goodC_of h
  rw [caughtX_of h, caughtX_of (less_good h hk)]
  show (caughtK xs _ _).length < (caughtK xs _ _).length
  rw [caughtK_filt, caughtK_filt]
  have hn := need_split.1 ((least_mem gc).1 (List.getElem_mem hk))
  have hr := gc.mem _ hn.1
  have hap := fun {i j : Nat} hi hj hne => least_apart gc (i := i) (j := j) hi hj hne
  refine filt_lt (y := (leastK xs L xs.length)[k]) _ (fun x h0 h1 => ?_) hr.1 hr.2 ?_ ?_
  · simp only [decide_eq_true_eq]
    rw [firstC_nonneg (by omega), firstC_nonneg (by omega)]
    rintro ⟨b, hb, hx⟩
    obtain ⟨j, hj, _, rfl⟩ := lessK_mem hb
    exact ⟨_, (need_split.1 ((least_mem gc).1 (List.getElem_mem hj))).1, hx⟩
  · simp only [decide_eq_false_iff_not]
    rw [firstC_nonneg (by omega)]
    rintro ⟨b, hb, hx⟩
    obtain ⟨j, hj, hne, rfl⟩ := lessK_mem hb
    rw [hap hk hj (fun e => hne e.symm)] at hx; cases hx
  · simp only [decide_eq_true_eq]
    rw [firstC_nonneg (by omega)]
    exact ⟨_, hn.1, isAL_self hr.1⟩

/- a new class -/
structure Added (xs : List Cls) (s : ByteArray) (p : Int) : Prop where
  old : Good xs
  new : Good (xs ++ [(⟨s, p⟩ : Cls)])
  lo : 0 ≤ p
  hi : p < xs.length
theorem added_of {xs : List Cls} {s : ByteArray} {p : Int} (h : addOk xs s p = true) : Added xs s p := by
  unfold addOk at h
  rw [Bool.and_eq_true] at h
  have g1 := good_of h.1
  have g2 := good_of h.2
  have := g2.par xs.length (by simp) (by have := g1.lo; omega)
  rw [List.getElem_append_right (Nat.le_refl _)] at this
  simp at this
  exact ⟨g1, g2, this.1, by omega⟩
theorem addOk_ok {xs : List Cls} {s : ByteArray} {p : Int} (h : addOk xs s p = true) : okTree xs = true ∧ okTree (xs ++ [(⟨s, p⟩ : Cls)]) = true := by unfold addOk at h; simpa using h
theorem above_pre {xs : List Cls} {s : ByteArray} {p : Int} (d : Added xs s p) : ∀ (m : Nat) (a : Int), (a + 1).toNat = m → a < xs.length → aboveL (xs ++ [(⟨s, p⟩ : Cls)]) a = aboveL xs a := by
  intro m
  induction m using Nat.strongRecOn with
  | _ m ih =>
    intro a hm ha
    by_cases h : a < 0
    · rw [aboveL_neg h, aboveL_neg h]
    · obtain ⟨i, rfl⟩ := Int.eq_ofNat_of_zero_le (by omega : 0 ≤ a)
      have hi : i < xs.length := by omega
      have hp := d.old.par_le hi
      rw [aboveL_at d.old hi, aboveL_at d.new (i := i) (by simp; omega), List.getElem_append_left hi, ih (xs[i].parent + 1).toNat (by omega) _ rfl (by omega)]
theorem isAL_pre {xs : List Cls} {s : ByteArray} {p : Int} (d : Added xs s p) {a : Int} (ha : a < xs.length) (b : Int) : isAL (xs ++ [(⟨s, p⟩ : Cls)]) a b = isAL xs a b := by unfold isAL; rw [above_pre d _ a rfl ha]
theorem above_new {xs : List Cls} {s : ByteArray} {p : Int} (d : Added xs s p) : aboveL (xs ++ [(⟨s, p⟩ : Cls)]) (xs.length : Int) = (xs.length : Int) :: aboveL xs p := by
  rw [aboveL_at d.new (i := xs.length) (by simp), List.getElem_append_right (Nat.le_refl _)]
  simp only [Nat.sub_self, List.getElem_cons_zero]
  rw [above_pre d _ p rfl d.hi]
theorem isAL_new {xs : List Cls} {s : ByteArray} {p : Int} (d : Added xs s p) (b : Int) : isAL (xs ++ [(⟨s, p⟩ : Cls)]) (xs.length : Int) b = ((xs.length : Int) == b || isAL xs p b) := by unfold isAL; rw [above_new d]; rfl
theorem below_new {xs : List Cls} {s : ByteArray} {p : Int} (d : Added xs s p) : (belowK (xs ++ [(⟨s, p⟩ : Cls)]) (xs.length : Int) (xs ++ [(⟨s, p⟩ : Cls)]).length).length = 1 := by
  have e : (xs ++ [(⟨s, p⟩ : Cls)]).length = xs.length + 1 := by simp
  rw [e, belowK, isAL_new d, List.length_append]
  have h0 : belowK (xs ++ [(⟨s, p⟩ : Cls)]) (xs.length : Int) xs.length = [] := by
    cases hd : belowK (xs ++ [(⟨s, p⟩ : Cls)]) (xs.length : Int) xs.length with
    | nil => rfl
    | cons x r =>
      exfalso
      have hx : x ∈ belowK (xs ++ [(⟨s, p⟩ : Cls)]) (xs.length : Int) xs.length := by rw [hd]; exact List.mem_cons_self
      have h2 := belowK_mem.1 hx
      have := isAL_le d.new (by simp; omega) h2.2.2
      omega
  rw [h0]; simp
theorem new_up {xs : List Cls} {s : ByteArray} {p : Int} (d : Added xs s p) : isAL (xs ++ [(⟨s, p⟩ : Cls)]) (xs.length : Int) p = true := by
  rw [isAL_new d, isAL_self d.lo, Bool.or_true]
theorem new_named {xs : List Cls} {s : ByteArray} {p : Int} (d : Added xs s p) : findN (xs ++ [(⟨s, p⟩ : Cls)]) s 0 = (xs.length : Int) := by
  have := findN_here d.new (k := xs.length) (by simp)
  rw [List.getElem_append_right (Nat.le_refl _)] at this
  simpa using this
theorem new_caught {xs : List Cls} {s : ByteArray} {p a : Int} (d : Added xs s p) (h0 : 0 ≤ a) (ha : a < xs.length) : hasI (caughtK (xs ++ [(⟨s, p⟩ : Cls)]) [a] (xs ++ [(⟨s, p⟩ : Cls)]).length) (xs.length : Int) = hasI (caughtK xs [a] xs.length) p := by
  rw [caught_has _ (by omega) (by simp; omega), caught_has _ d.lo d.hi]
  simp only [decide_eq_decide]
  rw [firstC_nonneg (by omega), firstC_nonneg (by omega)]
  simp only [List.mem_singleton, exists_eq_left]
  rw [isAL_new d]
  have : ((xs.length : Int) == a) = false := by simp; omega
  rw [this, Bool.false_or]
end

section
theorem hgT_at (xs : List Cls) : ∀ (L : List Int) (g : List Prt) {k : Nat} (h : k < L.length), (hgT xs g L)[k]? = some (selA xs (hgR xs g (L.take k)) L[k] true)
  | [], _, _, h => by simp at h
  | a :: L, g, 0, _ => rfl
  | a :: L, g, k + 1, h => by
    rw [hgT, List.getElem?_cons_succ, hgT_at xs L _ (by simpa using h)]; rfl
theorem selA_flat (xs : List Cls) (t : Fo) (a : Int) (wi : Bool) : selA xs (flat 0 t) a wi = flat 0 (keepF (fun x => isAL xs x.cls a == wi) t) := selG_flat _ t
theorem filter_two {α : Type} (p : α → Bool) : ∀ L : List α, (L.filter p).length + (L.filter (fun x => !p x)).length = L.length
  | [] => rfl
  | x :: L => by
    have ih := filter_two p L
    rw [List.filter_cons, List.filter_cons, List.length_cons]
    cases p x
    · show (L.filter p).length + (x :: L.filter (fun x => !p x)).length = _; rw [List.length_cons]; omega
    · show (x :: L.filter p).length + (L.filter (fun x => !p x)).length = _; rw [List.length_cons]; omega
/-- all leaves are taken or left -/
theorem hg_sum (xs : List Cls) : ∀ (L : List Int) {t : Fo}, (t = .nil ∨ GTr xs t) → (lvX xs (hgR xs (flat 0 t) L)).length + tot ((hgT xs (flat 0 t) L).map (lvX xs)) = (leavesF t).length
  | [], t, h => by
    show (lvX xs (flat 0 t)).length + 0 = _
    rw [lvE h]; rfl
  | a :: L, t, h => by
    have h1 := keep_orE h (fun x => isAL xs x.cls a == false)
    have ih := hg_sum xs L h1
    rw [hgR, hgT, selA_flat, selA_flat, List.map_cons]
    unfold tot at ih ⊢
    rw [List.map_cons, List.sum_cons, lvE (keep_orE h _), leaves_keep]
    rw [leaves_keep] at ih
    have hp := filter_two (fun x : Lef => isAL xs x.cls a == true) (leavesF t)
    have e : (fun x : Lef => !(isAL xs x.cls a == true)) = (fun x => isAL xs x.cls a == false) := by funext x; cases isAL xs x.cls a <;> rfl
    rw [e] at hp
    omega
theorem hg_rest {xs : List Cls} {L : List Int} {t : Fo} (h : GTr xs t) (a : Int) (ha : a ∈ L) : hcX xs (hgR xs (flat 0 t) L) a = false := by
  rw [hgR_keep xs L h.ok, hcX_tree (keep_or h _), leaves_keep]
  cases e : hasK xs a
  · rfl
  · rw [Bool.true_and, List.any_eq_false]
    intro x hx
    have := (List.mem_filter.1 hx).2
    rw [Bool.not_eq_true', List.any_eq_false] at this
    exact this a ha
theorem hg_dead {xs : List Cls} {L : List Int} {t : Fo} (h : GTr xs t) {k j : Nat} (hk : k < L.length) (hj : j < k) (hd : isAL xs L[k] (L[j]'(by omega)) = true) : (hgT xs (flat 0 t) L)[k]? = some [] := by
  have g := good_of h.tree
  rw [hgT_at xs L _ hk, hgR_keep xs _ h.ok, selA_flat, keep_keep]
  have hn : ∀ x ∈ leavesF t, (!(L.take k).any (fun a => isAL xs x.cls a) && (isAL xs x.cls L[k] == true)) = false := fun x hx => by
    cases e : isAL xs x.cls L[k]
    · simp
    · have hx2 := leaves_mem h.ok x hx
      have h3 : isAL xs x.cls (L[j]'(by omega)) = true := isAL_tr g hx2.2.1 e hd
      have : (L.take k).any (fun a => isAL xs x.cls a) = true := by
        rw [List.any_eq_true]
        exact ⟨L[j]'(by omega), by rw [List.mem_take_iff_getElem]; exact ⟨j, by omega, rfl⟩, h3⟩
      rw [this]; rfl
  have : anyFo (fun x => !(L.take k).any (fun a => isAL xs x.cls a) && (isAL xs x.cls L[k] == true)) t = false := by
    rw [any_leaves, List.any_eq_false]
    intro x hx
    rw [hn x hx]; exact Bool.false_ne_true
  rw [keepF_none this]; rfl
theorem hg_deadX {xs : List Cls} {L : List Int} {t : Fo} (h : GTr xs t) {k : Nat} (hk : k < L.length) (hd : hasI (deadX xs L) (k : Int) = true) (hg : goodC xs L = true) : (hgT xs (flat 0 t) L)[k]? = some [] := by
  rw [deadX_of hg] at hd
  obtain ⟨j, hj, h3⟩ := (dead_iff hk).1 (hasI_iff.1 hd)
  exact hg_dead h hk hj h3
theorem hg_least {xs : List Cls} {L : List Int} {t : Fo} (h : GTr xs t) (hg : goodC xs L = true) : hgRX xs (flat 0 t) (leastX xs L) = hgRX xs (flat 0 t) L := by
  have gc := goodC_of hg
  have hl := leastX_of hg
  have hg2 := least_good hg
  rw [hl]
  show hgRX xs (flat 0 t) (leastK xs L xs.length) = _
  rw [(hgX_of (b := true) (by rw [h.gOk, hg2]; rfl)).2, (hgX_of (b := true) (by rw [h.gOk, hg]; rfl)).2]
  show hgR _ _ _ = hgR _ _ _
  rw [hgR_keep xs _ h.ok, hgR_keep xs _ h.ok]
  congr 1
  refine keep_same (fun x hx => ?_)
  have hx2 := leaves_mem h.ok x hx
  congr 1
  rw [Bool.eq_iff_iff, List.any_eq_true, List.any_eq_true]
  constructor
  · rintro ⟨a, ha, e⟩
    exact ⟨a, (need_split.1 ((least_mem gc).1 ha)).1, e⟩
  · rintro ⟨a, ha, e⟩
    exact least_top gc hx2.2.1 _ a rfl ha e
end

section
theorem kids_facts {xs : List Cls} {L : List Prt} (h : gOkS xs L = true) : (∀ l ∈ kidsX xs L, gOkS xs l = true) ∧ 0 < (lvX xs L).length ∧ 0 < L.length ∧ decide (0 < (kidsX xs L).length) = (gAt L 0).group := by
  obtain ⟨t, rfl, ht⟩ := gOk_iff.1 h
  rw [kidsX_tree ht, lvX_tree ht]
  have h1 := leaves_some ht.ok (one_ne ht.one)
  refine ⟨fun l hl => ?_, ?_, ?_, ?_⟩
  · obtain ⟨r, hr, rfl⟩ := List.mem_map.1 hl
    exact (ht.kid hr).gOk
  · exact List.length_pos_iff.2 h1
  · have := ht.one
    cases this <;> simp [flat]
  · have ho := ht.one
    have ok := ht.ok
    cases ho with
    | leaf x => rfl
    | grp c k =>
      have hk : k ≠ .nil := ok.2.2.1
      show decide (0 < ((rootsF k).map (flat 0)).length) = true
      cases k with
      | nil => exact absurd rfl hk
      | leaf x r => simp [rootsF]
      | grp c k r => simp [rootsF]
theorem kids_bad {xs : List Cls} {L : List Prt} (h : gOkS xs L = false) : lvX xs L = [] ∧ depX xs L = -1 := by
  constructor
  · unfold lvX; rw [h]; rfl
  · unfold depX; rw [h]; rfl
theorem dep_facts {xs : List Cls} {L : List Prt} (h : gOkS xs L = true) : depX xs L = mxD xs (kidsX xs L) + 1 ∧ 0 ≤ depX xs L := by
  obtain ⟨t, rfl, ht⟩ := gOk_iff.1 h
  refine ⟨dep_kids ht, ?_⟩
  rw [depX_tree ht]
  have := one_ht ht.one
  omega
/-- the leaves of some groups -/
def catL (xs : List Cls) (G : List (List Prt)) : List Lef := (G.map (lvX xs)).flatten
theorem catL_snoc (xs : List Cls) {G : List (List Prt)} {k : Nat} (h : k < G.length) : catL xs (G.take (k + 1)) = catL xs (G.take k) ++ lvX xs G[k] := by
  unfold catL
  rw [List.take_succ_eq_append_getElem h, List.map_append, List.flatten_append]; simp
theorem lv_facts {xs : List Cls} {L : List Prt} (h : gOkS xs L = true) : (kidsX xs L = [] → (lvX xs L).length = 1) ∧ (kidsX xs L ≠ [] → catL xs (kidsX xs L) = lvX xs L) := by
  obtain ⟨t, rfl, ht⟩ := gOk_iff.1 h
  have ho := ht.one
  have hk := kidsX_tree ht
  have hl := lvX_tree ht
  refine ⟨fun e => ?_, fun e => ?_⟩
  · rw [hl]
    rw [hk] at e
    cases ho with
    | leaf x => rfl
    | grp c k =>
      have hk' : k ≠ .nil := ht.ok.2.2.1
      cases k with
      | nil => exact absurd rfl hk'
      | leaf x r => simp [kidsF, rootsF] at e
      | grp c k r => simp [kidsF, rootsF] at e
  · have e2 : catL xs (kidsX xs (flat 0 t)) = ((rootsF (kidsF t)).map leavesF).flatten := by
      unfold catL
      rw [hk, List.map_map]
      congr 1
      exact List.map_congr_left (fun r hr => lvX_tree (ht.kid hr))
    rw [e2, ← leaves_roots, hl]
    cases ho with
    | leaf x => rw [hk] at e; exact absurd rfl e
    | grp c k => simp [kidsF, leavesF]
theorem hc_facts {xs : List Cls} {L : List Prt} {a : Int} (h : gOkS xs L = true) (ha : hasK xs a = true) : hcX xs L a = (lvX xs L).any (fun x => isAx xs x.cls a) ∧ hcX xs L 0 = true := by
  obtain ⟨t, rfl, ht⟩ := gOk_iff.1 h
  refine ⟨?_, hc_root ht⟩
  rw [hcX_tree (.inr ht), lvX_tree ht, ha, Bool.true_and]
  have hg := good_of ht.tree
  have key : ∀ x ∈ leavesF t, isAx xs x.cls a = isAL xs x.cls a := fun x hx => by
    have hb := leaves_mem ht.ok x hx
    have e := isAx_of ht.tree (hasK_iff.2 ⟨hb.1, hb.2.1⟩) ha rfl
    rw [e]; simp
  cases hq : (leavesF t).any (fun x => isAL xs x.cls a)
  · symm
    rw [List.any_eq_false] at hq ⊢
    intro x hx
    rw [key x hx]; exact hq x hx
  · rw [List.any_eq_true] at hq
    obtain ⟨x, hx, e⟩ := hq
    symm
    rw [List.any_eq_true]
    exact ⟨x, hx, by rw [key x hx]; exact e⟩
end

section
theorem hg_good {xs : List Cls} {g : List Prt} {L : List Int} (h : gOkS xs g = true) (hl : (hgTX xs g L).length = L.length) : goodC xs L = true := by
  cases e : goodC xs L
  · obtain ⟨t, rfl, ht⟩ := gOk_iff.1 h
    rw [(hgX_of (b := false) (by rw [e, Bool.and_false])).1] at hl
    have hz : L = [] := List.length_eq_zero_iff.1 hl.symm
    subst hz
    have : goodC xs [] = okTree xs := by unfold goodC; rw [show goodL xs [] = true from rfl]; simp
    rw [this, ht.tree] at e; cases e
  · rfl
theorem tot_snoc {α β : Type} (f : List α → List β) {T : List (List α)} {k : Nat} (h : k < T.length) : tot ((T.take (k + 1)).map f) = tot ((T.take k).map f) + (f T[k]).length := by
  unfold tot
  rw [List.take_succ_eq_append_getElem h, List.map_append, List.map_append, List.sum_append]
  simp only [List.map_cons, List.map_nil, List.sum_cons, List.sum_nil, Nat.add_zero]
theorem tot_take {α β : Type} (f : List α → List β) (T : List (List α)) (k : Nat) : tot ((T.take k).map f) ≤ tot (T.map f) := by
  have e : tot (T.map f) = tot ((T.take k).map f) + tot ((T.drop k).map f) := by
    unfold tot
    rw [← List.sum_append, ← List.map_append, ← List.map_append, List.take_append_drop]
  omega
theorem hg_all {xs : List Cls} {g : List Prt} {L : List Int} (h : gOkS xs g = true) (hg : goodC xs L = true) :
    (hgTX xs g L).length = L.length ∧ (∀ k (hk : k < (hgTX xs g L).length), hasI (deadX xs L) (k : Int) = true → (hgTX xs g L)[k] = []) ∧ (∀ a ∈ L, hcX xs (hgRX xs g L) a = false) ∧
    (lvX xs (hgRX xs g L)).length + tot ((hgTX xs g L).map (lvX xs)) = (lvX xs g).length ∧ (lvX xs g).length ≤ 16 ∧ hgRX xs g (leastX xs L) = hgRX xs g L := by
  obtain ⟨t, rfl, ht⟩ := gOk_iff.1 h
  have e := hgX_of (g := flat 0 t) (L := L) (b := true) (by rw [h, hg]; rfl)
  have e6 := hg_least ht hg
  obtain ⟨e1, e2⟩ := e
  rw [e6]
  have e1 : hgTX xs (flat 0 t) L = hgT xs (flat 0 t) L := e1
  have e2 : hgRX xs (flat 0 t) L = hgR xs (flat 0 t) L := e2
  rw [e1, e2]
  refine ⟨hgT_len _ _ _, fun k hk hd => ?_, fun a ha => hg_rest ht a ha, ?_, ?_, rfl⟩
  · have hk2 : k < L.length := by rw [hgT_len] at hk; exact hk
    have := hg_deadX ht hk2 hd hg
    rw [List.getElem?_eq_getElem hk] at this
    injection this
  · rw [hg_sum xs L (.inr ht), lvX_tree ht]
  · rw [lvX_tree ht]
    have := leaves_len t
    have := ht.sz
    omega
end
end Go.Proofs.Ytkpnajffeclmdaa
