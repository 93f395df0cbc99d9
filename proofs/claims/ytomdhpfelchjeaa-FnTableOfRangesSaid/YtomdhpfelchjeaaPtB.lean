/- plain: tables of ranges tell what blocks tell -/
import Derived.Test.YtomdhpfelchjeaaWyC
import Derived.Test.YtomdhpfelchjeaaWyT
namespace Go.Proofs.Ytomdhpfelchjeaa
open Go.RowKit
/-- the ranges of the lines ahead of one, those that begin later first -/
def tb2 (p : List Lin) : Nat → List Rng
  | 0 => []
  | k + 1 => tbAt p k ++ tb2 p k
theorem tb_join (p : List Lin) : ∀ k, k ≤ p.length → tbD p (p.length - k) ++ tb2 p k = tbD p p.length
  | 0, _ => by show tbD p (p.length - 0) ++ [] = _; rw [List.append_nil, Nat.sub_zero]
  | k + 1, h => by
    have ih := tb_join p k (by omega)
    rw [tb_step (show k < p.length by omega), List.append_assoc] at ih
    exact ih
theorem tbD_tb2 (p : List Lin) : tbD p p.length = tb2 p p.length := by
  have h := tb_join p p.length (Nat.le_refl _)
  rw [Nat.sub_self] at h
  exact h.symm
/-! which blocks a line is in -/
def cov (p : List Lin) (i j : Nat) : Bool := decide (j < i) && decide (i < bEnd p j)
theorem cov_iff {p : List Lin} {i j : Nat} (hi : i < p.length) : cov p i j = true ↔ j < i ∧ ∀ x, j < x → x ≤ i → dep p j < dep p x := by
  unfold cov
  rw [Bool.and_eq_true, decide_eq_true_iff, decide_eq_true_iff]
  constructor
  · exact fun ⟨h1, h2⟩ => ⟨h1, fun x hx hxi => bEnd_in hx (by omega)⟩
  · refine fun ⟨h1, h2⟩ => ⟨h1, Nat.lt_of_not_le fun c => ?_⟩
    have hj : j < p.length := by omega
    have a := h2 (bEnd p j) (bEnd_gt p j) c
    have b := bEnd_stop hj (show bEnd p j < p.length by omega)
    omega
/-- the lines ahead of one in whose blocks another one is -/
def covL (p : List Lin) (i : Nat) : Nat → List Nat
  | 0 => []
  | k + 1 => if cov p i k = true then k :: covL p i k else covL p i k
theorem covL_en {p : List Lin} {i : Nat} (hi : i < p.length) : ∀ (k : Nat) (d : Int), k ≤ i → (∀ x, k ≤ x → x ≤ i → d ≤ dep p x) → (∃ x, k ≤ x ∧ x ≤ i ∧ dep p x = d) → covL p i k = enGo p d k
  | 0, _, _, _, _ => rfl
  | k + 1, d, hk, hd, he => by
    rw [enGo_succ]
    unfold covL
    by_cases c : dep p k < d
    · rw [if_pos c, if_pos ((cov_iff hi).2 ⟨by omega, fun x hx hxi => by have := hd x hx hxi; omega⟩)]
      rw [covL_en hi k (dep p k) (by omega) (fun x hx hxi => by
        by_cases e : x = k
        · subst e; exact Int.le_refl _
        · have := hd x (by omega) hxi; omega) ⟨k, Nat.le_refl _, by omega, rfl⟩]
    · obtain ⟨x, hx, hxi, hxe⟩ := he
      rw [if_neg c, if_neg (fun h => by have := ((cov_iff hi).1 h).2 x hx hxi; omega)]
      exact covL_en hi k d (by omega) (fun y hy hyi => by
        by_cases e : y = k
        · subst e; omega
        · exact hd y (by omega) hyi) ⟨x, by omega, hxi, hxe⟩
theorem covL_encl {p : List Lin} {i : Nat} (hi : i < p.length) : covL p i i = encl p i := covL_en hi i (dep p i) (Nat.le_refl _) (fun x h1 h2 => by rw [show x = i by omega]; exact Int.le_refl _) ⟨i, Nat.le_refl _, Nat.le_refl _, rfl⟩
theorem covL_more {p : List Lin} {i : Nat} : ∀ k, i ≤ k → covL p i k = covL p i i
  | 0, h => by rw [show i = 0 by omega]
  | k + 1, h => by
    by_cases e : i = k + 1
    · rw [e]
    · unfold covL
      rw [if_neg (by unfold cov; simp; omega)]
      rw [covL_more k (by omega)]
      cases i <;> rfl
/-! looking up in the ranges of one line -/
theorem luF_cons (xs : List Cls) (i a : Int) (r : Rng) (L : List Rng) : luF xs i a (r :: L) = if (decide (r.lo ≤ i) && decide (i < r.hi) && isAx xs a r.cls) = true then r.target else luF xs i a L := rfl
theorem luF_app {xs : List Cls} {i a : Int} {R : List Rng} : ∀ {L : List Rng}, (∀ r ∈ L, (decide (r.lo ≤ i) && decide (i < r.hi)) = false) → luF xs i a (L ++ R) = luF xs i a R
  | [], _ => rfl
  | r :: L, h => by
    show luF xs i a (r :: (L ++ R)) = _
    rw [luF_cons]
    rw [h r (List.mem_cons_self ..), Bool.false_and, if_neg (by simp)]
    exact luF_app fun x hx => h x (List.mem_cons_of_mem _ hx)
theorem isAx_good {xs : List Cls} {a b : Int} (h : okTree xs = true) (ha : hasK xs a = true) (hb : hasK xs b = true) : isAx xs a b = isAL xs a b := by unfold isAx; rw [h, ha, hb]; rfl
theorem luF_try {xs : List Cls} {p : List Lin} {i : Int} {a : Int} {k : Nat} {R : List Rng} (h : okTree xs = true) (ha : hasK xs a = true) (hi : (decide ((k : Int) + 1 ≤ i) && decide (i < (bEnd p k : Int))) = true) : ∀ {E : List Nat}, (∀ x ∈ E, hasK xs (lnA p x) = true) → luF xs i a (E.map (rgL p k) ++ R) = if 0 ≤ ctE xs p a E then ctE xs p a E else luF xs i a R
  | [], _ => by unfold ctE; rw [if_neg (by omega)]; rfl
  | x :: E, hE => by
    show luF xs i a (rgL p k x :: (E.map (rgL p k) ++ R)) = _
    rw [luF_cons]
    have e : (decide ((rgL p k x).lo ≤ i) && decide (i < (rgL p k x).hi) && isAx xs a (rgL p k x).cls) = isAL xs a (lnA p x) := by
      show (decide ((k : Int) + 1 ≤ i) && decide (i < (bEnd p k : Int)) && isAx xs a (lnA p x)) = _
      rw [hi, isAx_good h ha (hE x (List.mem_cons_self ..))]; rfl
    rw [e]
    unfold ctE
    by_cases c : isAL xs a (lnA p x) = true
    · rw [if_pos c, if_pos c, if_pos (by omega)]; rfl
    · rw [if_neg c, if_neg c]
      exact luF_try h ha hi fun y hy => hE y (List.mem_cons_of_mem _ hy)
theorem exL_cls {xs : List Cls} {p : List Lin} (g : GoodP xs p) {k : Nat} (hk : k < p.length) : ∀ x ∈ exL p k, x < p.length ∧ knd p x = 8 ∧ hasK xs (lnA p x) = true := fun x hx => by
  have hm := List.mem_filter.1 hx
  have hl := parts_lt hk x hm.1
  have h8 : knd p x = 8 := by simpa using hm.2
  have hn := (g.line x hl).1
  have h8' := h8
  rw [knd_at hl] at h8'
  unfold numS at hn
  rw [h8'] at hn
  simp at hn
  exact ⟨hl, h8, by rw [lnA_at hl]; exact hn.1⟩
theorem isAL_rootB {xs : List Cls} (g : Good xs) : ∀ (m : Nat) (a : Nat), a = m → a < xs.length → isAL xs (a : Int) 0 = true := by
  intro m
  induction m using Nat.strongRecOn with
  | _ m ih =>
    intro a hm ha
    rw [isAL_at g ha]
    by_cases h : a = 0
    · subst h; rfl
    · have hp := g.par a ha (by omega)
      obtain ⟨i, hi⟩ := Int.eq_ofNat_of_zero_le hp.1
      rw [hi, ih i (by omega) i rfl (by omega), Bool.or_true]
theorem hasK_0 {xs : List Cls} (g : Good xs) : hasK xs 0 = true := hasK_iff.2 ⟨Int.le_refl 0, by have := g.lo; omega⟩
theorem lu_co {xs : List Cls} {p : List Lin} (g : GoodP xs p) {i : Nat} {a : Int} (ha : hasK xs a = true) : ∀ k, k ≤ p.length → luF xs i a (tb2 p k) = coF xs p a (covL p i k)
  | 0, _ => rfl
  | k + 1, hk => by
    have ih := lu_co g (i := i) ha k (by omega)
    have hc : cov p i k = (decide ((k : Int) + 1 ≤ (i : Int)) && decide ((i : Int) < (bEnd p k : Int))) := by
      unfold cov
      rw [Bool.eq_iff_iff]; simp; omega
    show luF xs i a (tbAt p k ++ tb2 p k) = _
    unfold covL
    rw [hc]
    by_cases c : (decide ((k : Int) + 1 ≤ (i : Int)) && decide ((i : Int) < (bEnd p k : Int))) = true
    · rw [if_pos c]
      show _ = if 0 ≤ ctAt xs p a k then ctAt xs p a k else coF xs p a (covL p i k)
      unfold tbAt ctAt
      by_cases h7 : knd p k = 7
      · rw [if_pos h7, if_pos h7, luF_try g.tree ha c (fun x hx => (exL_cls g (by omega) x hx).2.2), ih]
      · rw [if_neg h7, if_neg h7]
        have e : lnB p k = lnBc p k := rfl
        rw [e]
        by_cases h11 : knd p k = 11 ∧ lnBc p k = 1
        · rw [if_pos h11, if_pos h11, if_pos (by omega)]
          have hh := hasK_iff.1 ha
          obtain ⟨z, rfl⟩ := Int.eq_ofNat_of_zero_le hh.1
          have gt := good_of g.tree
          show luF xs i z (rgW p k :: tb2 p k) = _
          rw [luF_cons, if_pos (by
            show (decide ((k : Int) + 1 ≤ (i : Int)) && decide ((i : Int) < (bEnd p k : Int)) && isAx xs z 0) = true
            rw [c, isAx_good g.tree ha (hasK_0 gt), isAL_rootB gt z z rfl (by omega)]; rfl)]
          rfl
        · rw [if_neg h11, if_neg h11, if_neg (by omega)]; exact ih
    · rw [if_neg c]
      rw [← ih]
      refine luF_app fun r hr => ?_
      have hr2 : r.lo = (k : Int) + 1 ∧ r.hi = (bEnd p k : Int) := by
        unfold tbAt at hr
        split at hr
        · obtain ⟨x, _, rfl⟩ := List.mem_map.1 hr; exact ⟨rfl, rfl⟩
        · split at hr
          · rw [List.mem_singleton] at hr; subst hr; exact ⟨rfl, rfl⟩
          · cases hr
      rw [hr2.1, hr2.2]; exact Bool.not_eq_true _ ▸ c
/-! no two ranges have the same target -/
theorem len_cut {n : Nat} : ∀ {L : List Nat}, L.Nodup → L.length ≤ (L.filter (fun x => x != n)).length + 1
  | [], _ => by simp
  | x :: r, h => by
    have h2 := List.nodup_cons.1 h
    by_cases e : x = n
    · subst e
      have : (x :: r).filter (fun y => y != x) = r := by
        rw [List.filter_cons, if_neg (by simp), List.filter_eq_self]
        intro y hy
        have : y ≠ x := fun e => h2.1 (e ▸ hy)
        simpa using this
      rw [this]; simp
    · rw [List.filter_cons, if_pos (by simpa using e)]
      have := len_cut (n := n) h2.2
      simp; omega
theorem len_nodup : ∀ (n : Nat) {L : List Nat}, L.Nodup → (∀ x ∈ L, x < n) → L.length ≤ n
  | 0, L, _, h => by
    cases L with
    | nil => simp
    | cons x r => have := h x (List.mem_cons_self ..); omega
  | n + 1, L, hd, h => by
    have h1 := len_cut (n := n) hd
    have h2 := len_nodup n (L := L.filter (fun x => x != n)) (List.Pairwise.filter _ hd) (fun x hx => by
      have hm := List.mem_filter.1 hx
      have := h x hm.1
      have : x ≠ n := by simpa using hm.2
      omega)
    omega
def ownL (p : List Lin) (x k : Nat) : Prop := (knd p x = 11 ∧ x = k) ∨ (knd p x = 8 ∧ IsTry p k x)
theorem ownL_uniq {p : List Lin} {x k l : Nat} (h : ownL p x k) (h2 : ownL p x l) : k = l := by
  rcases h with ⟨a, b⟩ | ⟨a, b⟩ <;> rcases h2 with ⟨c, d⟩ | ⟨c, d⟩
  · omega
  · omega
  · omega
  · exact try_uniq x x (Nat.le_refl _) b d
def tgs (p : List Lin) : Nat → List Nat
  | 0 => []
  | k + 1 => (if knd p k = 7 then exL p k else if knd p k = 11 ∧ lnB p k = 1 then [k] else []) ++ tgs p k
theorem tgs_len (p : List Lin) : ∀ k, (tgs p k).length = (tb2 p k).length
  | 0 => rfl
  | k + 1 => by
    unfold tgs tb2 tbAt
    rw [List.length_append, List.length_append, tgs_len p k]
    split
    · simp
    · split <;> simp
theorem pt_ascB (p : List Lin) (d : Int) : ∀ m k, (∀ x ∈ ptGo p d m k, k < x) ∧ (ptGo p d m k).Pairwise (· < ·)
  | 0, k => ⟨fun x hx => absurd hx (List.not_mem_nil), List.Pairwise.nil⟩
  | m + 1, k => by
    unfold ptGo
    split
    · next c =>
      have ih := pt_ascB p d m (bEnd p k)
      have hb := bEnd_gt p k
      refine ⟨fun x hx => ?_, List.pairwise_cons.2 ⟨ih.1, ih.2⟩⟩
      rcases List.mem_cons.1 hx with rfl | hx
      · exact hb
      · have := ih.1 x hx; omega
    · exact ⟨fun x hx => absurd hx (List.not_mem_nil), List.Pairwise.nil⟩
theorem parts_ascB (p : List Lin) (j : Nat) : (parts p j).Nodup := by
  have h := pt_ascB p (dep p j) p.length j
  unfold parts
  have h2 : (j :: ptGo p (dep p j) p.length j).Pairwise (· < ·) := List.pairwise_cons.2 ⟨h.1, h.2⟩
  exact h2.imp fun h e => by omega
theorem tgs_own (p : List Lin) : ∀ k, ∀ x ∈ tgs p k, ∃ l, l < k ∧ ownL p x l
  | 0, x, h => by cases h
  | k + 1, x, h => by
    unfold tgs at h
    rcases List.mem_append.1 h with h | h
    · refine ⟨k, by omega, ?_⟩
      split at h
      · next c =>
        have hm := List.mem_filter.1 h
        exact .inr ⟨by simpa using hm.2, c, hm.1⟩
      · split at h
        · next c => rw [List.mem_singleton] at h; subst h; exact .inl ⟨c.1, rfl⟩
        · cases h
    · obtain ⟨l, hl, ho⟩ := tgs_own p k x h
      exact ⟨l, by omega, ho⟩
theorem tgs_at (p : List Lin) (k x : Nat) (h : x ∈ (if knd p k = 7 then exL p k else if knd p k = 11 ∧ lnB p k = 1 then [k] else [])) : ownL p x k := by
  split at h
  · next c =>
    have hm := List.mem_filter.1 h
    exact .inr ⟨by simpa using hm.2, c, hm.1⟩
  · split at h
    · next c => rw [List.mem_singleton] at h; subst h; exact .inl ⟨c.1, rfl⟩
    · cases h
theorem tgs_nodup (p : List Lin) : ∀ k, (tgs p k).Nodup
  | 0 => List.Pairwise.nil
  | k + 1 => by
    show List.Nodup (_ ++ _)
    refine List.nodup_append.2 ⟨?_, tgs_nodup p k, fun x hx y hy e => ?_⟩
    · split
      · exact List.Pairwise.filter _ (parts_ascB p k)
      · split <;> simp
    · subst e
      have a := tgs_at p k x hx
      obtain ⟨l, hl, ho⟩ := tgs_own p k x hy
      have := ownL_uniq a ho
      omega
theorem tgs_lt {p : List Lin} {k : Nat} (hk : k ≤ p.length) : ∀ x ∈ tgs p k, x < p.length := fun x hx => by
  obtain ⟨l, hl, ho⟩ := tgs_own p k x hx
  rcases ho with ⟨_, rfl⟩ | ⟨_, _, h⟩
  · omega
  · exact parts_lt (by omega) x h
theorem tb2_len (p : List Lin) : (tb2 p p.length).length ≤ p.length := by
  rw [← tgs_len]
  exact len_nodup _ (tgs_nodup p _) (tgs_lt (Nat.le_refl _))
/-- what a range of a table is -/
theorem tb2_what {xs : List Cls} {p : List Lin} (g : GoodP xs p) : ∀ k, k ≤ p.length → ∀ r ∈ tb2 p k, ∃ l, l < k ∧ opn (knd p l) = true ∧ r.lo = (l : Int) + 1 ∧ r.hi = (bEnd p l : Int) ∧ (∃ x : Nat, x < p.length ∧ r.target = (x : Int)) ∧ hasK xs r.cls = true
  | 0, _, r, h => by cases h
  | k + 1, hk, r, h => by
    rcases List.mem_append.1 (show r ∈ tbAt p k ++ tb2 p k from h) with h | h
    · refine ⟨k, by omega, ?_⟩
      unfold tbAt at h
      split at h
      · next c =>
        obtain ⟨x, hx, rfl⟩ := List.mem_map.1 h
        have := exL_cls g (by omega) x hx
        exact ⟨opn_iff.2 (by omega), rfl, rfl, ⟨x, this.1, rfl⟩, this.2.2⟩
      · split at h
        · next c =>
          rw [List.mem_singleton] at h; subst h
          exact ⟨opn_iff.2 (by omega), rfl, rfl, ⟨k, by omega, rfl⟩, hasK_0 (good_of g.tree)⟩
        · cases h
    · obtain ⟨l, hl, ho⟩ := tb2_what g k (by omega) r h
      exact ⟨l, by omega, ho⟩
theorem bEnd_two {xs : List Cls} {p : List Lin} (g : GoodP xs p) {l : Nat} (hl : l < p.length) (ho : opn (knd p l) = true) : l + 1 < bEnd p l := by
  have h1 := bEnd_gt p l
  have hlen : l + 1 < p.length := by
    refine Nat.lt_of_not_le fun c => ?_
    have := (g.line l hl).2.2.1 (by omega)
    rw [knd_at hl] at ho
    rw [ho] at this; cases this
  refine Nat.lt_of_not_le fun c => ?_
  have e : bEnd p l = l + 1 := by omega
  have h2 := bEnd_stop hl (by omega)
  rw [e] at h2
  have h3 := ((g.line (l + 1) hlen).2.1.2.2 l rfl).2.1 ho
  omega
theorem vr_tab {xs : List Cls} {p : List Lin} (h : vp xs p = true) : tbX xs p = tb2 p p.length ∧ vrB xs (tbX xs p) = true := by
  have g := goodP_of h
  have e : tbX xs p = tb2 p p.length := by unfold tbX; rw [h]; exact tbD_tb2 p
  refine ⟨e, ?_⟩
  rw [e]
  unfold vrB
  have hl := g.len
  have h2 := tb2_len p
  rw [g.tree, Bool.true_and, Bool.and_eq_true]
  refine ⟨decide_eq_true (by omega), List.all_eq_true.2 fun r hr => ?_⟩
  obtain ⟨l, hlk, ho, h3, h4, ⟨x, hx, h5⟩, h6⟩ := tb2_what g _ (Nat.le_refl _) r hr
  have hb := bEnd_le hlk
  have hb2 := bEnd_gt p l
  unfold rgOk
  rw [h6, Bool.and_true, Bool.and_eq_true, Bool.and_eq_true]
  exact ⟨⟨rng_iff.2 (by omega), rng_iff.2 (by omega)⟩, rng_iff.2 (by omega)⟩
/-- what is looked up in a program's table is what catches -/
theorem lu_ca {xs : List Cls} {p : List Lin} (h : vp xs p = true) {i : Nat} (hi : i < p.length) {a : Int} (ha : hasK xs a = true) : luX xs (tbX xs p) i a = caX xs p i a := by
  have hv := vr_tab h
  unfold luX
  rw [hv.2, hv.1]
  show luF xs i a (tb2 p p.length) = _
  rw [lu_co (goodP_of h) ha _ (Nat.le_refl _), covL_more _ (by omega), covL_encl hi]
  unfold caX grB
  rw [glB_iff.2 ⟨h, i, rfl, hi⟩, ha]; rfl
/-- ranges lie in each other or apart, and those that begin later come first -/
theorem tb_two {xs : List Cls} {p : List Lin} (g : GoodP xs p) : ∀ n, n ≤ p.length → (tb2 p n).Pairwise (fun r s => s.lo ≤ r.lo ∧ (s.hi ≤ r.lo ∨ r.hi ≤ s.hi))
  | 0, _ => List.Pairwise.nil
  | k + 1, hk => by
    show (tbAt p k ++ tb2 p k).Pairwise _
    have hat : ∀ r ∈ tbAt p k, r.lo = (k : Int) + 1 ∧ r.hi = (bEnd p k : Int) := fun r hr => by
      unfold tbAt at hr
      split at hr
      · obtain ⟨x, _, rfl⟩ := List.mem_map.1 hr; exact ⟨rfl, rfl⟩
      · split at hr
        · rw [List.mem_singleton] at hr; subst hr; exact ⟨rfl, rfl⟩
        · cases hr
    refine List.pairwise_append.2 ⟨?_, tb_two g k (by omega), fun r hr s hs => ?_⟩
    · refine List.pairwise_of_forall_mem_list fun r hr s hs => ?_
      have a := hat r hr
      have b := hat s hs
      omega
    · have a := hat r hr
      obtain ⟨l, hl, ho, h1, h2, _⟩ := tb2_what g k (by omega) s hs
      refine ⟨by omega, ?_⟩
      by_cases c : bEnd p l ≤ k + 1
      · left; omega
      · right
        have : bEnd p k ≤ bEnd p l := by
          refine Nat.le_of_not_lt fun d => ?_
          have hbl : bEnd p l < p.length := by have := bEnd_le (show k < p.length by omega); omega
          have e1 := bEnd_in (p := p) (i := k) (x := bEnd p l) (by omega) d
          have e2 := bEnd_stop (show l < p.length by omega) hbl
          have e3 := bEnd_in (p := p) (i := l) (x := k) hl (by omega)
          omega
        omega
theorem tb_facts {xs : List Cls} {p : List Lin} (h : vp xs p = true) : (∀ r ∈ tbX xs p, r.lo < r.hi ∧ r.hi ≤ (p.length : Int)) ∧ (tbX xs p).Pairwise (fun r s => s.lo ≤ r.lo ∧ (s.hi ≤ r.lo ∨ r.hi ≤ s.hi)) := by
  have g := goodP_of h
  rw [(vr_tab h).1]
  refine ⟨fun r hr => ?_, tb_two g _ (Nat.le_refl _)⟩
  obtain ⟨l, hl, ho, h1, h2, _⟩ := tb2_what g _ (Nat.le_refl _) r hr
  have := bEnd_two g hl ho
  have := bEnd_le hl
  omega
end Go.Proofs.Ytomdhpfelchjeaa
