/- one text of AsA, RZp, RnD, RnE -/
import Derived.Test.YtlepgfccnfcagaaWp6
import Derived.Test.YtlepgfccnfcagaaWp1
import Derived.Test.YtlepgfccnfcagaaWp4
import Derived.Deep.RegionHeld3
namespace Go.Proofs.Ytlepgfccnfcagaa
open Go.RowKit
set_option linter.unusedVariables false
section
/-- programs as trees: a line with the lines of its block, and what comes behind it -/
inductive Fq where
  | nil : Fq
  | nd (k a b : Int) (c r : Fq) : Fq
def flatP : Int → Fq → List Lin
  | _, .nil => []
  | d, .nd k a b c r => ⟨d, k, a, b⟩ :: (flatP (d + 1) c ++ flatP d r)
/-- how a block ends; a fault is what is told of it and of its contexts -/
inductive Lf2 where
  | nil : Lf2
  | ret (v : Int) : Lf2
  | rai (c : List (Int × Int)) : Lf2
  | brk : Lf2
  | cnt : Lf2
abbrev Ans := Lf2 × List Int
structure Itm where
  k : Int
  a : Int
  b : Int
  f : List (Int × Int) → Ans
def addT (t : List Int) (x : Ans) : Ans := (x.1, t ++ x.2)
def seqA (x : Ans) (g : Ans) : Ans := match x.1 with
  | .nil => addT x.2 g
  | _ => x
def ptsI : Int → List Itm → List Itm
  | _, [] => []
  | pk, y :: r => if mayF pk y.k = true then y :: ptsI y.k r else []
def fstK (K : Int) : List Itm → Option Itm
  | [] => none
  | y :: r => if y.k = K then some y else fstK K r
def hdC (c : List (Int × Int)) : Int := match c with | [] => 0 | x :: _ => x.1
def fstC (xs : List Cls) (a : Int) : List Itm → Option Itm
  | [] => none
  | y :: r => if y.k = 8 ∧ isAL xs a y.a = true then some y else fstC xs a r
def midI (xs : List Cls) (P : List Itm) (H : List (Int × Int)) (x : Ans) : Ans := match x.1 with
  | .nil => match fstK 9 P with
    | some y => addT x.2 (y.f H)
    | none => x
  | .rai c => match fstC xs (hdC c) P with
    | some y => addT x.2 (y.f c)
    | none => x
  | _ => x
def hdI (H : List (Int × Int)) : Lf2 → List (Int × Int)
  | .rai c => c
  | _ => H
def orI (a : Lf2) : Lf2 → Lf2
  | .nil => a
  | l => l
def finI (P : List Itm) (H : List (Int × Int)) (x : Ans) : Ans := match fstK 10 P with
  | none => x
  | some y => (orI x.1 (y.f (hdI H x.1)).1, x.2 ++ (y.f (hdI H x.1)).2)
def tryI (xs : List Cls) (y : Itm) (P : List Itm) (H : List (Int × Int)) : Ans := finI P H (midI xs P H (y.f H))
def loopI (f : Ans) : Nat → Ans
  | 0 => (.nil, [])
  | n + 1 => match f.1 with
    | .nil => addT f.2 (loopI f n)
    | .cnt => addT f.2 (loopI f n)
    | .brk => (.nil, f.2)
    | _ => f
def agI : List (Int × Int) → Lf2
  | [] => .rai [(0, 0)]
  | c => .rai c
def quI (q : Bool) : Lf2 → Lf2
  | .rai c => if q = true then .nil else .rai c
  | l => l
def stpI (xs : List Cls) (y : Itm) (r : List Itm) (H : List (Int × Int)) : Ans :=
  if y.k = 1 then (.nil, [y.a]) else
  if y.k = 2 then (.rai ((y.a, y.b) :: H), []) else
  if y.k = 3 then (agI H, []) else
  if y.k = 4 then (.ret y.a, []) else
  if y.k = 5 then (.brk, []) else
  if y.k = 6 then (.cnt, []) else
  if y.k = 7 then tryI xs y (ptsI 7 r) H else
  if y.k = 11 then (quI (decide (y.b = 1)) (y.f H).1, (100 + y.a) :: ((y.f H).2 ++ [200 + y.a])) else
  if y.k = 12 then loopI (y.f H) y.a.toNat else (.nil, [])
def blkI (xs : List Cls) : List Itm → List (Int × Int) → Ans
  | [], _ => (.nil, [])
  | y :: r, H => seqA (stpI xs y r H) (blkI xs r H)
def sem (xs : List Cls) : Fq → List Itm
  | .nil => []
  | .nd k a b c r => ⟨k, a, b, blkI xs (sem xs c)⟩ :: sem xs r
/-! what is told of a fault of a run -/
def chN (hs : List Flt) : Nat → Int → List (Int × Int)
  | 0, _ => []
  | n + 1, f => if f < 0 then [] else match hs[f.toNat]? with
    | some x => (x.cls, x.code) :: chN hs n x.ctx
    | none => []
def chF (hs : List Flt) (f : Int) : List (Int × Int) := chN hs (f + 1).toNat f
/-- the faults of a run -/
def Gc (hs : List Flt) : Prop := ∀ k (h : k < hs.length), hs[k].cause = -1 ∧ hs[k].hide = false ∧ -1 ≤ hs[k].ctx ∧ hs[k].ctx < (k : Int)
theorem chN_neg (hs : List Flt) (n : Nat) {f : Int} (h : f < 0) : chN hs n f = [] := by
  cases n with
  | zero => rfl
  | succ n => unfold chN; rw [if_pos h]
theorem chN_at {hs : List Flt} (n i : Nat) (h : i < hs.length) : chN hs (n + 1) (i : Int) = (hs[i].cls, hs[i].code) :: chN hs n hs[i].ctx := by
  rw [chN, if_neg (by omega), Int.toNat_natCast, List.getElem?_eq_getElem h]
theorem chN_fuel {hs : List Flt} (g : Gc hs) : ∀ (n m : Nat) (f : Int), (f + 1).toNat ≤ n → (f + 1).toNat ≤ m → f < (hs.length : Int) → chN hs n f = chN hs m f
  | 0, m, f, h1, _, _ => by rw [chN_neg hs 0 (by omega), chN_neg hs m (by omega)]
  | n + 1, 0, f, _, h2, _ => by rw [chN_neg hs _ (by omega), chN_neg hs 0 (by omega)]
  | n + 1, m + 1, f, h1, h2, h3 => by
    rcases Int.lt_or_le f 0 with h | h
    · rw [chN_neg hs _ h, chN_neg hs _ h]
    · obtain ⟨i, rfl⟩ := Int.eq_ofNat_of_zero_le h
      have hi : i < hs.length := by omega
      have := g i hi
      rw [chN_at n i hi, chN_at m i hi, chN_fuel g n m hs[i].ctx (by omega) (by omega) (by omega)]
theorem chN_pre {hs : List Flt} (g : Gc hs) (t : List Flt) : ∀ (n : Nat) (f : Int), f < (hs.length : Int) → chN (hs ++ t) n f = chN hs n f
  | 0, f, _ => rfl
  | n + 1, f, h => by
    rcases Int.lt_or_le f 0 with h0 | h0
    · rw [chN_neg _ _ h0, chN_neg _ _ h0]
    · obtain ⟨i, rfl⟩ := Int.eq_ofNat_of_zero_le h0
      have hi : i < hs.length := by omega
      have := g i hi
      have hi2 : i < (hs ++ t).length := by rw [List.length_append]; omega
      rw [chN_at n i hi, chN_at n i hi2, List.getElem_append_left hi, chN_pre g t n hs[i].ctx (by omega)]
theorem chF_pre {hs : List Flt} (g : Gc hs) (t : List Flt) {f : Int} (h : f < (hs.length : Int)) : chF (hs ++ t) f = chF hs f := chN_pre g t _ f h
theorem chF_neg (hs : List Flt) {f : Int} (h : f < 0) : chF hs f = [] := chN_neg hs _ h
theorem chF_at {hs : List Flt} (g : Gc hs) {i : Nat} (h : i < hs.length) : chF hs (i : Int) = (hs[i].cls, hs[i].code) :: chF hs hs[i].ctx := by
  have := g i h
  unfold chF
  rw [show ((i : Int) + 1).toNat = i + 1 by omega, chN_at i i h, chN_fuel g i (hs[i].ctx + 1).toNat _ (by omega) (Nat.le_refl _) (by omega)]
theorem Gc.snoc {hs : List Flt} (g : Gc hs) {c k h : Int} (h0 : -1 ≤ h) (h1 : h < (hs.length : Int)) : Gc (hs ++ [⟨c, k, -1, h, false⟩]) := by
  intro j hj
  rw [List.length_append, List.length_singleton] at hj
  rcases Nat.lt_or_ge j hs.length with h2 | h2
  · have := g j h2
    rw [List.getElem_append_left h2]; exact this
  · obtain rfl : j = hs.length := by omega
    rw [List.getElem_append_right (Nat.le_refl _)]
    simp only [Nat.sub_self, List.getElem_cons_zero]
    exact ⟨trivial, trivial, h0, h1⟩
theorem chF_new {hs : List Flt} (g : Gc hs) (c k : Int) {h : Int} (h0 : -1 ≤ h) (h1 : h < (hs.length : Int)) : chF (hs ++ [⟨c, k, -1, h, false⟩]) (hs.length : Int) = (c, k) :: chF hs h := by
  have g2 := g.snoc (c := c) (k := k) h0 h1
  have hl : hs.length < (hs ++ [(⟨c, k, -1, h, false⟩ : Flt)]).length := by rw [List.length_append, List.length_singleton]; omega
  rw [chF_at g2 hl, List.getElem_append_right (Nat.le_refl _)]
  simp only [Nat.sub_self, List.getElem_cons_zero]
  rw [chF_pre g _ h1]
/-! what a run tells, and how it ends, is what the tree says -/
def lfR (hs : List Flt) : Lft → Lf2 → Prop
  | .nil, .nil => True
  | .ret v, .ret u => v = u
  | .rai f, .rai c => 0 ≤ f ∧ f < (hs.length : Int) ∧ chF hs f = c
  | .brk, .brk => True
  | .cnt, .cnt => True
  | _, _ => False
structure Sim (s : Rst) (r : Lft × Rst) (x : Ans) : Prop where
  lg : r.2.1 = s.1 ++ x.2
  pre : ∃ t, r.2.2 = s.2 ++ t
  gc : Gc r.2.2
  en : lfR r.2.2 r.1 x.1
theorem Sim.refl {s : Rst} (g : Gc s.2) {l : Lft} {e : Lf2} (h : lfR s.2 l e) : Sim s (l, s) (e, []) := ⟨by simp, ⟨[], by simp⟩, g, h⟩
theorem Sim.hd {s : Rst} {r : Lft × Rst} {x : Ans} (S : Sim s r x) {h : Int} (k : Hd h s) : Hd h r.2 := by
  obtain ⟨t, e⟩ := S.pre
  refine ⟨k.1, ?_⟩
  have := k.2
  rw [e, List.length_append]; omega
theorem Sim.ch {s : Rst} {r : Lft × Rst} {x : Ans} (S : Sim s r x) (g : Gc s.2) {h : Int} (k : Hd h s) : chF r.2.2 h = chF s.2 h := by
  obtain ⟨t, e⟩ := S.pre
  rw [e]; exact chF_pre g t k.2
theorem Sim.then {s s2 : Rst} {l : Lft} {e : Lf2} {t : List Int} {r : Lft × Rst} {x : Ans} (S : Sim s (l, s2) (e, t)) (S2 : Sim s2 r x) : Sim s r (addT t x) := by
  obtain ⟨t1, e1⟩ := S.pre
  obtain ⟨t2, e2⟩ := S2.pre
  refine ⟨?_, ⟨t1 ++ t2, ?_⟩, S2.gc, S2.en⟩
  · have a := S.lg
    dsimp only at a
    rw [S2.lg, a]; show _ = s.1 ++ (t ++ x.2); rw [List.append_assoc]
  · dsimp only at e1
    rw [e2, e1, List.append_assoc]
def BlkR (blk : Bls) (x : Nat) (f : List (Int × Int) → Ans) : Prop := ∀ h s, Gc s.2 → Hd h s → Sim s (blk x h s) (f (chF s.2 h))
/-- a line is the item -/
structure ItR (p : List Lin) (blk : Bls) (x : Nat) (y : Itm) : Prop where
  k : knd p x = y.k
  a : lnA p x = y.a
  b : lnBc p x = y.b
  f : BlkR blk x y.f
inductive ItsR (p : List Lin) (blk : Bls) : List Nat → List Itm → Prop
  | nil : ItsR p blk [] []
  | cons {x : Nat} {y : Itm} {L : List Nat} {P : List Itm} : ItR p blk x y → ItsR p blk L P → ItsR p blk (x :: L) (y :: P)
/-- the items of a block lie from i to e -/
def Sit (p : List Lin) (blk : Bls) (D : Int) : Nat → List Itm → Nat → Prop
  | i, [], e => i = e
  | i, y :: r, e => i < e ∧ dep p i = D ∧ ItR p blk i y ∧ Sit p blk D (bEnd p i) r e
theorem Sit.len {p : List Lin} {blk : Bls} {D : Int} : ∀ {r : List Itm} {i e : Nat}, Sit p blk D i r e → i + r.length ≤ e
  | [], i, e, h => by have : i = e := h; simp; omega
  | y :: r, i, e, h => by
    have := Sit.len h.2.2.2
    have := bEnd_gt p i
    rw [List.length_cons]; omega
theorem pts_R {p : List Lin} {blk : Bls} {D : Int} {e : Nat} (he : e ≤ p.length) (hend : e < p.length → dep p e < D) : ∀ (r : List Itm) (m i : Nat), r.length ≤ m → Sit p blk D (bEnd p i) r e → ItsR p blk (ptGo p D m i) (ptsI (knd p i) r)
  | [], m, i, _, h => by
    have h1 : bEnd p i = e := h
    have : ptGo p D m i = [] := by
      cases m with
      | zero => rfl
      | succ m =>
        unfold ptGo
        rw [if_neg]
        rintro ⟨a, b, -⟩
        rw [h1] at a b
        have := hend a; omega
    rw [this]; exact .nil
  | y :: r, 0, i, hm, _ => by simp at hm
  | y :: r, m + 1, i, hm, h => by
    obtain ⟨h1, h2, h3, h4⟩ := h
    unfold ptGo ptsI
    by_cases c : mayF (knd p i) y.k = true
    · rw [if_pos c, if_pos ⟨by omega, h2, by rw [h3.k]; exact c⟩]
      have := pts_R he hend r m (bEnd p i) (by simp at hm; omega) h4
      rw [h3.k] at this
      exact .cons h3 this
    · rw [if_neg c, if_neg (fun a => c (by rw [← h3.k]; exact a.2.2))]
      exact .nil
theorem fst_R {p : List Lin} {blk : Bls} {K : Int} {L : List Nat} {P : List Itm} (h : ItsR p blk L P) : (prtG p K L = none ∧ fstK K P = none) ∨ ∃ x y, prtG p K L = some x ∧ fstK K P = some y ∧ ItR p blk x y := by
  induction h with
  | nil => exact .inl ⟨rfl, rfl⟩
  | cons hx _ ih =>
    unfold prtG fstK
    rw [hx.k]
    split
    · exact .inr ⟨_, _, rfl, rfl, hx⟩
    · exact ih
theorem cat_R {xs : List Cls} {p : List Lin} {blk : Bls} {a : Int} {L : List Nat} {P : List Itm} (h : ItsR p blk L P) : (ctE xs p a (exF p L) = -1 ∧ fstC xs a P = none) ∨ ∃ (x : Nat) (y : Itm), ctE xs p a (exF p L) = (x : Int) ∧ fstC xs a P = some y ∧ ItR p blk x y := by
  induction h with
  | nil => exact .inl ⟨rfl, rfl⟩
  | cons hx _ ih =>
    rename_i x y L P _
    unfold fstC
    by_cases c : y.k = 8
    · have e : exF p (x :: L) = x :: exF p L := by
        unfold exF; rw [List.filter_cons, if_pos (by rw [hx.k]; exact beq_iff_eq.2 c)]
      rw [e, ctE, hx.a]
      by_cases c2 : isAL xs a y.a = true
      · rw [if_pos c2, if_pos ⟨c, c2⟩]; exact .inr ⟨x, y, rfl, rfl, hx⟩
      · rw [if_neg c2, if_neg (fun h => c2 h.2)]; exact ih
    · have e : exF p (x :: L) = exF p L := by
        unfold exF; rw [List.filter_cons, if_neg (by rw [hx.k]; exact fun h => c (beq_iff_eq.1 h))]
      rw [e, if_neg (fun h => c h.1)]; exact ih
theorem Sim.tell {s : Rst} {l : Lft} {s2 : Rst} {e : Lf2} {t : List Int} (S : Sim s (l, s2) (e, t)) (x : Int) : Sim s (l, (s2.1 ++ [x], s2.2)) (e, t ++ [x]) := by
  have a := S.lg
  refine ⟨?_, S.pre, S.gc, S.en⟩
  show s2.1 ++ [x] = s.1 ++ (t ++ [x])
  dsimp only at a
  rw [a, List.append_assoc]
theorem Sim.tell0 {s : Rst} {r : Lft × Rst} {x : Ans} {v : Int} (S : Sim (s.1 ++ [v], s.2) r x) : Sim s r (x.1, v :: x.2) := by
  have a := S.lg
  refine ⟨?_, S.pre, S.gc, S.en⟩
  rw [a]; show s.1 ++ [v] ++ x.2 = s.1 ++ v :: x.2
  rw [List.append_assoc]; rfl
theorem Sim.any {s : Rst} {r : Lft × Rst} {x : Ans} {l : Lft} {e : Lf2} (S : Sim s r x) (h : lfR r.2.2 l e) : Sim s (l, r.2) (e, x.2) := ⟨S.lg, S.pre, S.gc, h⟩
theorem rs_R {s : Rst} (g : Gc s.2) {h : Int} (hh : Hd h s) (c k : Int) : Sim s (rsN c k h s) (.rai ((c, k) :: chF s.2 h), []) := by
  refine ⟨by simp [rsN], ⟨[⟨c, k, -1, h, false⟩], rfl⟩, g.snoc hh.1 hh.2, ?_⟩
  show 0 ≤ (s.2.length : Int) ∧ (s.2.length : Int) < ((s.2 ++ [(⟨c, k, -1, h, false⟩ : Flt)]).length : Int) ∧ chF (s.2 ++ [⟨c, k, -1, h, false⟩]) (s.2.length : Int) = _
  refine ⟨by omega, by rw [List.length_append, List.length_singleton]; omega, chF_new g c k hh.1 hh.2⟩
theorem ag_R {s : Rst} (g : Gc s.2) {h : Int} (hh : Hd h s) : Sim s (againN h s) (agI (chF s.2 h), []) := by
  have h1 := hh.1
  have h2 := hh.2
  unfold againN
  by_cases h0 : h < 0
  · rw [if_pos h0]
    have := rs_R g hh 0 0
    rw [chF_neg _ h0] at this ⊢; exact this
  · rw [if_neg h0]
    obtain ⟨i, rfl⟩ := Int.eq_ofNat_of_zero_le (by omega : 0 ≤ h)
    have hi : i < s.2.length := by omega
    have e := chF_at g hi
    refine Sim.refl g ?_
    rw [e]
    exact ⟨by omega, by omega, e⟩
theorem lp_R {blk : Bls} {i : Nat} {h : Int} {f : List (Int × Int) → Ans} (H : BlkR blk i f) : ∀ (n : Nat) (s : Rst) (c : List (Int × Int)), Gc s.2 → Hd h s → chF s.2 h = c → Sim s (loopN blk i h n s) (loopI (f c) n)
  | 0, s, c, g, hh, e => Sim.refl g trivial
  | n + 1, s, c, g, hh, e => by
    have S := H h s g hh
    rw [e] at S
    unfold loopN loopI
    rcases hb : blk i h s with ⟨l, s2⟩
    rw [hb] at S
    have S0 := S
    rcases hf : f c with ⟨l2, t⟩
    rw [hf] at S
    have en := S.en
    have hgo : Sim s2 (loopN blk i h n s2) (loopI (l2, t) n) := by
      have := lp_R H n s2 c S.gc (S.hd hh) ((S.ch g hh).trans e)
      rw [hf] at this; exact this
    rcases l with _ | v | q | _ | _ <;> rcases l2 with _ | u | c2 | _ | _ <;> first | exact absurd en (fun h => h) | skip
    · exact S.then hgo
    · exact S
    · exact S
    · exact ⟨S.lg, S.pre, S.gc, trivial⟩
    · exact S.then hgo
theorem hd_ch {hs : List Flt} (g : Gc hs) {f : Int} (h0 : 0 ≤ f) (h1 : f < (hs.length : Int)) (lg : List Int) : clsF (lg, hs) f = hdC (chF hs f) := by
  obtain ⟨i, rfl⟩ := Int.eq_ofNat_of_zero_le h0
  have hi : i < hs.length := by omega
  unfold clsF
  rw [chF_at g hi]
  dsimp only
  rw [Int.toNat_natCast, List.getElem?_eq_getElem hi]; rfl
section
variable {xs : List Cls} {p : List Lin} {blk : Bls}
theorem or_R {K : Int} {i : Nat} {P : List Itm} {L : List Nat} (hi : parts p i = i :: L) (hk : knd p i ≠ K) (hP : ItsR p blk L P) {h : Int} {s : Rst} {r : Lft × Rst} {x : Ans} (e : r.1 = .nil) (hx : x.1 = .nil) (g : Gc s.2) (hh : Hd h s) (S : Sim s r x) :
    Sim s (orN (prt p i K) blk h r) (match fstK K P with | some y => addT x.2 (y.f (chF s.2 h)) | none => x) := by
  unfold prt
  rw [hi, prtG, if_neg hk]
  rcases fst_R (K := K) hP with ⟨a, b⟩ | ⟨z, y, a, b, c⟩
  · rw [a, b]; exact S
  · rw [a, b]
    have S2 := c.f h r.2 S.gc (S.hd hh)
    rw [S.ch g hh] at S2
    obtain ⟨l, s2⟩ := r
    obtain ⟨e2, t⟩ := x
    exact S.then S2
theorem mid_R2 {i : Nat} {P : List Itm} {L : List Nat} (hi : parts p i = i :: L) (hk : knd p i = 7) (hP : ItsR p blk L P) {h : Int} {s : Rst} {r : Lft × Rst} {x : Ans} (g : Gc s.2) (hh : Hd h s) (S : Sim s r x) :
    Sim s (midN blk xs p i h r) (midI xs P (chF s.2 h) x) := by
  obtain ⟨l, s2⟩ := r
  obtain ⟨e2, t⟩ := x
  have en := S.en
  unfold midN midI
  rcases l with _ | v | q | _ | _ <;> rcases e2 with _ | u | c2 | _ | _ <;> first | exact absurd en (fun h => h) | skip
  · exact or_R hi (by rw [hk]; decide) hP rfl rfl g hh S
  · exact S
  · obtain ⟨q0, q1, qc⟩ := en
    have hcl : clsF s2 q = hdC c2 := by
      have := hd_ch S.gc q0 q1 s2.1
      rw [← qc]; exact this
    have hex : exL p i = exF p L := by
      unfold exL exF
      rw [hi, List.filter_cons, if_neg (by rw [hk]; decide)]
    dsimp only
    rw [hcl, hex]
    rcases cat_R (xs := xs) (a := hdC c2) hP with ⟨a, b⟩ | ⟨z, y, a, b, c⟩
    · rw [a, b, if_neg (by omega)]; exact S
    · rw [a, b, if_pos (by omega), Int.toNat_natCast]
      have S2 := c.f q s2 S.gc ⟨by omega, q1⟩
      dsimp only at qc
      rw [qc] at S2
      exact S.then S2
  · exact S
  · exact S
theorem fin_R2 {i : Nat} {P : List Itm} {L : List Nat} (hi : parts p i = i :: L) (hk : knd p i = 7) (hP : ItsR p blk L P) {h : Int} {s : Rst} {r : Lft × Rst} {x : Ans} (g : Gc s.2) (hh : Hd h s) (S : Sim s r x) :
    Sim s (finN blk p i h r) (finI P (chF s.2 h) x) := by
  unfold finN finI prt
  rw [hi, prtG, if_neg (by rw [hk]; decide)]
  rcases fst_R (K := 10) hP with ⟨a, b⟩ | ⟨z, y, a, b, c⟩
  · rw [a, b]; exact S
  · rw [a, b]
    obtain ⟨l, s2⟩ := r
    obtain ⟨e2, t⟩ := x
    have en := S.en
    have hz : Hd (hdN h l) s2 ∧ chF s2.2 (hdN h l) = hdI (chF s.2 h) e2 := by
      rcases l with _ | v | q | _ | _ <;> rcases e2 with _ | u | c2 | _ | _ <;> first | exact absurd en (fun h => h) | skip
      · exact ⟨S.hd hh, S.ch g hh⟩
      · exact ⟨S.hd hh, S.ch g hh⟩
      · exact ⟨⟨by have := en.1; show -1 ≤ q; omega, en.2.1⟩, en.2.2⟩
      · exact ⟨S.hd hh, S.ch g hh⟩
      · exact ⟨S.hd hh, S.ch g hh⟩
    have S2 := c.f (hdN h l) s2 S.gc hz.1
    rw [hz.2] at S2
    have S3 := S.then S2
    dsimp only
    unfold lasN
    dsimp only
    rcases hb : blk z (hdN h l) s2 with ⟨l3, s3⟩
    rcases hf : y.f (hdI (chF s.2 h) e2) with ⟨e3, t3⟩
    rw [hb, hf] at S3 S2
    have en3 := S2.en
    obtain ⟨tp, etp⟩ := S2.pre
    rcases l3 with _ | v3 | q3 | _ | _ <;> rcases e3 with _ | u3 | c3 | _ | _ <;> first | exact absurd en3 (fun h => h) | skip
    · refine S3.any ?_
      show lfR s3.2 l e2
      rcases l with _ | v | q | _ | _ <;> rcases e2 with _ | u | c2 | _ | _ <;> first | exact absurd en (fun h => h) | skip
      · trivial
      · exact en
      · obtain ⟨q0, q1, qc⟩ := en
        dsimp only at q1 qc etp
        refine ⟨q0, ?_, ?_⟩
        · rw [etp, List.length_append]; omega
        · rw [etp, chF_pre S.gc tp q1]; exact qc
      · trivial
      · trivial
    all_goals exact S3
theorem stp_R {D : Int} {e i : Nat} {y : Itm} {r : List Itm} (he : e ≤ p.length) (hend : e < p.length → dep p e < D) (hd : dep p i = D) (hy : ItR p blk i y) (hr : Sit p blk D (bEnd p i) r e) {h : Int} {s : Rst} (g : Gc s.2) (hh : Hd h s) :
    Sim s (stepN blk xs p h i s) (stpI xs y r (chF s.2 h)) := by
  have hl := hr.len
  unfold stepN stpI
  rw [hy.k, hy.a, hy.b]
  by_cases h1 : y.k = 1
  · rw [if_pos h1, if_pos h1]; exact ⟨rfl, ⟨[], by simp⟩, g, trivial⟩
  rw [if_neg h1, if_neg h1]
  by_cases h2 : y.k = 2
  · rw [if_pos h2, if_pos h2]; exact rs_R g hh y.a y.b
  rw [if_neg h2, if_neg h2]
  by_cases h3 : y.k = 3
  · rw [if_pos h3, if_pos h3]; exact ag_R g hh
  rw [if_neg h3, if_neg h3]
  by_cases h4 : y.k = 4
  · rw [if_pos h4, if_pos h4]; exact Sim.refl g rfl
  rw [if_neg h4, if_neg h4]
  by_cases h5 : y.k = 5
  · rw [if_pos h5, if_pos h5]; exact Sim.refl g trivial
  rw [if_neg h5, if_neg h5]
  by_cases h6 : y.k = 6
  · rw [if_pos h6, if_pos h6]; exact Sim.refl g trivial
  rw [if_neg h6, if_neg h6]
  by_cases h7 : y.k = 7
  · rw [if_pos h7, if_pos h7]
    have hP := pts_R he hend r p.length i (by omega) hr
    have hk : knd p i = 7 := hy.k.trans h7
    have hi : parts p i = i :: ptGo p D p.length i := by unfold parts; rw [hd]
    rw [hk] at hP
    exact fin_R2 hi hk hP g hh (mid_R2 hi hk hP g hh (hy.f h s g hh))
  rw [if_neg h7, if_neg h7]
  by_cases h11 : y.k = 11
  · rw [if_pos h11, if_pos h11]
    unfold withN
    rw [hy.a, hy.b]
    have S := hy.f h (s.1 ++ [100 + y.a], s.2) g hh
    rcases hb : blk i h (s.1 ++ [100 + y.a], s.2) with ⟨l, s2⟩
    rcases hf : y.f (chF s.2 h) with ⟨e2, t⟩
    have S' : Sim (s.1 ++ [100 + y.a], s.2) (l, s2) (e2, t) := by
      have := S
      rw [hb] at this
      show Sim _ _ (e2, t)
      rw [← hf]; exact this
    have S3 := (S'.tell (200 + y.a)).tell0
    refine S3.any ?_
    have en := S'.en
    show lfR s2.2 (quiet (decide (y.b = 1)) l) (quI (decide (y.b = 1)) e2)
    rcases l with _ | v | q | _ | _ <;> rcases e2 with _ | u | c2 | _ | _ <;> first | exact absurd en (fun h => h) | skip
    · exact en
    · exact en
    · unfold quiet quI
      dsimp only
      split
      · trivial
      · exact en
    · exact en
    · exact en
  rw [if_neg h11, if_neg h11]
  by_cases h12 : y.k = 12
  · rw [if_pos h12, if_pos h12]; exact lp_R hy.f _ s _ g hh rfl
  rw [if_neg h12, if_neg h12]; exact Sim.refl g trivial
end
theorem goI_R {xs : List Cls} {p : List Lin} {N : Nat} {D : Int} {e : Nat} (he : e ≤ p.length) (hend : e < p.length → dep p e < D) :
    ∀ (r : List Itm) (i k : Nat) (h : Int) (s : Rst), r.length ≤ k → Sit p (blN xs p N) D i r e → Gc s.2 → Hd h s → Sim s (goB (lnN xs p (N + 1) h) p e k i s) (blkI xs r (chF s.2 h))
  | [], i, k, h, s, _, hr, g, hh => by
    have : i = e := hr
    rw [goB_end (by omega)]; exact Sim.refl g trivial
  | y :: r, i, 0, h, s, hk, _, _, _ => by simp at hk
  | y :: r, i, k + 1, h, s, hk, hr, g, hh => by
    obtain ⟨h1, h2, h3, h4⟩ := hr
    have S := stp_R (xs := xs) he hend h2 h3 h4 g hh
    unfold blkI seqA
    rcases hb : lnN xs p (N + 1) h i s with ⟨l, s2⟩
    rw [lnN_succ] at hb
    rw [hb] at S
    rcases hf : stpI xs y r (chF s.2 h) with ⟨e2, t⟩
    rw [hf] at S
    have en := S.en
    have hout : l ≠ .nil → goB (lnN xs p (N + 1) h) p e (k + 1) i s = (l, s2) := fun hl => goB_out h1 k hl (by rw [lnN_succ]; exact hb)
    rcases l with _ | v | q | _ | _ <;> rcases e2 with _ | u | c2 | _ | _ <;> first | exact absurd en (fun h => h) | skip
    · rw [goB_nil h1 k (s2 := s2) (by rw [lnN_succ]; exact hb)]
      have S2 := goI_R he hend r (bEnd p i) k h s2 (by simp at hk; omega) h4 S.gc (S.hd hh)
      rw [S.ch g hh] at S2
      exact S.then S2
    all_goals
      rw [hout (by intro h; cases h)]
      exact S
end

section
section
section
variable {P : Program} {ops : Array Oper} {Q : Exit → Act → World → Prop} {md : Region.Mode} {S : World → Prop} {Z : List Nat}

/-- Whatever order is picked from here on; S holds behind every operation that is carried out, but for those of Z. -/
def wpAnyZ (P : Program) (md : Region.Mode) (ops : Array Oper) (Q : Exit → Act → World → Prop) (S : World → Prop) (Z : List Nat) : Nat → Array Bool → Act → World → Prop
  | 0, listed, a, w => Region.ready md ops listed = [] ∧ Q .normal a w
  | fuel + 1, listed, a, w =>
    (Region.ready md ops listed = [] → Q .normal a w) ∧
    ∀ i ∈ Region.ready md ops listed, wpOp P ops Q i (fun a' w' => (Z.contains i = false → S w') ∧ wpAnyZ P md ops Q S Z fuel (listed.setIfInBounds i true) a' w') a w

theorem wpAny_of_Z : ∀ (fuel : Nat) (listed : Array Bool) (a : Act) (w : World), wpAnyZ P md ops Q S Z fuel listed a w → wpAny P md ops Q fuel listed a w
  | 0, _, _, _, h => h
  | fuel + 1, _, _, _, h => ⟨h.1, fun i hi => wpOp_mono (fun a' w' h' => wpAny_of_Z fuel _ a' w' h'.2) (h.2 i hi)⟩

/-- the operations of C cannot come up ahead of number i -/
def Waits (md : Region.Mode) (ops : Array Oper) (listed : Array Bool) (i : Nat) (C : List Nat) : Prop :=
  ∀ k ∈ C, listed.getD k true = false ∧ ∃ o, ops[k]? = some o ∧ ∃ e ∈ o.after, Region.binds md e = true ∧ (e.on = i ∨ e.on ∈ C)
theorem Waits.not {listed : Array Bool} {i : Nat} {C : List Nat} (h : Waits md ops listed i C) (hi : listed.getD i true = false) {j : Nat} (hj : j ∈ Region.ready md ops listed) : j ∉ C := by
  intro hc
  obtain ⟨_, o, ho, e, he, hb, hon⟩ := h j hc
  obtain ⟨_, o', ho', hall⟩ := mem_ready.1 hj
  rw [ho] at ho'; injection ho' with ho'; subst ho'
  have h1 := hall e he hb
  have hx : listed.getD e.on true = false := by
    rcases hon with h2 | h2
    · rw [h2]; exact hi
    · exact (h _ h2).1
  rcases Nat.lt_or_ge e.on listed.size with h3 | h3
  · simp [h3] at h1 hx; rw [h1] at hx; cases hx
  · simp [Array.getElem?_eq_none h3] at h1
def waitsB (md : Region.Mode) (ops : Array Oper) (listed : Array Bool) (i : Nat) (C : List Nat) : Bool :=
  C.all fun k => !(listed.getD k true) && match ops[k]? with | some o => o.after.any fun e => Region.binds md e && (e.on == i || C.contains e.on) | none => false
theorem waits_of {listed : Array Bool} {i : Nat} {C : List Nat} (h : waitsB md ops listed i C = true) : Waits md ops listed i C := by
  intro k hk
  have h1 := List.all_eq_true.1 h k hk
  rw [Bool.and_eq_true] at h1
  refine ⟨by simpa using h1.1, ?_⟩
  have h2 := h1.2
  cases ho : ops[k]? with
  | none => rw [ho] at h2; cases h2
  | some o =>
    rw [ho] at h2
    replace h2 : (o.after.any fun e => Region.binds md e && (e.on == i || C.contains e.on)) = true := h2
    obtain ⟨e, he, h3⟩ := Array.any_eq_true'.1 h2
    rw [Bool.and_eq_true, Bool.or_eq_true] at h3
    exact ⟨o, rfl, e, he, h3.1, by simpa using h3.2⟩

theorem wpAnyZ_first {i : Nat} {oi : Oper} {v : Value} {C : List Nat} (hi : ops[i]? = some oi) (hsel : ∀ (j : Nat) (o : Oper) cs b, ops[j]? = some o → o.op ≠ .select cs b)
    (hQ : ∀ c a w, Q (.panic c) (a.put oi.dst v) w → Q (.panic c) a w) (hZ : ∀ z, Z.contains z = true → z ∈ C) :
    ∀ (fuel : Nat) (listed : Array Bool) (a : Act) (w : World),
      (∀ j oj, ops[j]? = some oj → j ≠ i → listed.getD j true = false → (∀ e ∈ oj.after, Region.binds md e = true → e.on ≠ i) → oi.apart ops oj = true) →
      Waits md ops listed i C → i ∈ Region.ready md ops listed → YieldsIf P ops S oi v a → S w →
      wpAnyZ P md ops Q S Z fuel (listed.setIfInBounds i true) (a.put oi.dst v) w → wpAnyZ P md ops Q S Z (fuel + 1) listed a w := by
  intro fuel
  induction fuel with
  | zero =>
    intro listed a w _ _ hr hy hS H
    refine ⟨fun h => (by rw [h] at hr; cases hr), fun j hj => ?_⟩
    by_cases hji : j = i
    · subst hji; exact hy.wpOp hi hS ⟨fun _ => hS, H⟩
    · have := ready_mono hj hji
      rw [H.1] at this
      cases this
  | succ fuel ih =>
    intro listed a w hfree hw hr hy hS H
    refine ⟨fun h => (by rw [h] at hr; cases hr), fun j hj => ?_⟩
    by_cases hji : j = i
    · subst hji; exact hy.wpOp hi hS ⟨fun _ => hS, H⟩
    · have h1 := H.2 j (ready_mono hj hji)
      have hjc := hw.not (mem_ready.1 hr).1 hj
      have hjz : Z.contains j = false := by
        cases e : Z.contains j
        · rfl
        · exact absurd (hZ j e) hjc
      obtain ⟨hjun, oj, hoj, hall⟩ := mem_ready.1 hj
      have hnot : ∀ e ∈ oj.after, Region.binds md e = true → e.on ≠ i := fun e he hb heq => by
        have h1 := hall e he hb
        have h0 := (mem_ready.1 hr).1
        rw [heq] at h1
        rcases Nat.lt_or_ge i listed.size with h' | h'
        · simp [h'] at h0 h1; rw [h0] at h1; cases h1
        · simp [Array.getElem?_eq_none h'] at h1
      have h2 := wpOp_putIf hoj (hfree j oj hoj hji hjun hnot) (fun cs b => hsel i oi cs b hi) (fun cs b => hsel j oj cs b hoj) hQ hy h1
      have hfree' : ∀ k ok, ops[k]? = some ok → k ≠ i → (listed.setIfInBounds j true).getD k true = false →
          (∀ e ∈ ok.after, Region.binds md e = true → e.on ≠ i) → oi.apart ops ok = true := fun k ok hk hki hun hno => by
        refine hfree k ok hk hki ?_ hno
        by_cases hjk : j = k
        · subst hjk; exact hjun
        · rw [getD_set_ne true hjk] at hun; exact hun
      have hw' : Waits md ops (listed.setIfInBounds j true) i C := fun k hk => ⟨by rw [getD_set_ne true (fun e => hjc (by rw [e]; exact hk))]; exact (hw k hk).1, (hw k hk).2⟩
      refine wpOp_mono (fun a' w' h3 => ⟨h3.2.1, ih (listed.setIfInBounds j true) a' w' hfree' hw' (ready_mono hr (Ne.symm hji)) h3.1 (h3.2.1 hjz) ?_⟩) h2
      rw [Array.setIfInBounds_comm _ _ hji]
      exact h3.2.2

theorem wpAnyZ_done {listed : Array Bool} {a : Act} {w : World} (hr : Region.ready md ops listed = []) (h : Q .normal a w) :
    ∀ fuel, wpAnyZ P md ops Q S Z fuel listed a w
  | 0 => ⟨hr, h⟩
  | _ + 1 => ⟨fun _ => h, by rw [hr]; simp⟩
theorem wp_region_Z {id : Nat} {a : Act} {w : World} (S : World → Prop) (Z : List Nat) (hm : P.follows .mixedOrders = true)
    (h : wpAnyZ P .any ops Q S Z ops.size (Array.replicate ops.size false) a w.drew) : (Code.region id ops true).wp P Q a w :=
  wp_region_any hm (wpAny_of_Z _ _ _ _ h)
end
section
variable {P : Program} {l : List Oper} {Q : Exit → Act → World → Prop} {md : Region.Mode} {S : World → Prop} {Z : List Nat}
/-- the operations that wait for number i (edges lead back) -/
def clos (md : Region.Mode) (ops : Array Oper) (i : Nat) : List Nat :=
  (List.range ops.size).foldl (fun C k => if (k != i && match ops[k]? with | some o => o.after.any fun e => Region.binds md e && (e.on == i || C.contains e.on) | none => false) then C ++ [k] else C) []
theorem wpAnyZ_takeC {i : Nat} (C : List Nat) {oi : Oper} {v : Value} {fuel : Nat} {listed : Array Bool} {a : Act} {w : World} (hi : l[i]? = some oi)
    (hs : Region.noSelect l.toArray = true) (hf : Region.free md l.toArray listed i = true) (hr : (Region.ready md l.toArray listed).contains i = true)
    (hz : (Z.all fun z => C.contains z) = true) (hw : waitsB md l.toArray listed i C = true)
    (hQ : ∀ c a w, Q (.panic c) (a.put oi.dst v) w → Q (.panic c) a w) (hy : YieldsIf P l.toArray S oi v a) (hS : S w)
    (h : wpAnyZ P md l.toArray Q S Z fuel (listed.setIfInBounds i true) (a.put oi.dst v) w) : wpAnyZ P md l.toArray Q S Z (fuel + 1) listed a w := by
  have hi' : l.toArray[i]? = some oi := by rw [List.getElem?_toArray]; exact hi
  exact wpAnyZ_first (C := C) hi' (Region.noSelect_spec hs) hQ (fun z hz' => by have := List.all_eq_true.1 hz z (by simpa using hz'); simpa using this) fuel listed a w (Region.free_spec hi' hf) (waits_of hw) (by simpa using hr) hy hS h
theorem wpAnyZ_take {i : Nat} {oi : Oper} {v : Value} {fuel : Nat} {listed : Array Bool} {a : Act} {w : World} (hi : l[i]? = some oi)
    (hs : (Region.noSelect l.toArray && Region.free md l.toArray listed i && (Region.ready md l.toArray listed).contains i && (Z.all fun z => (clos md l.toArray i).contains z) && waitsB md l.toArray listed i (clos md l.toArray i)) = true)
    (hQ : ∀ c a w, Q (.panic c) (a.put oi.dst v) w → Q (.panic c) a w) (hy : YieldsIf P l.toArray S oi v a) (hS : S w)
    (h : wpAnyZ P md l.toArray Q S Z fuel (listed.setIfInBounds i true) (a.put oi.dst v) w) : wpAnyZ P md l.toArray Q S Z (fuel + 1) listed a w := by
  simp only [Bool.and_eq_true] at hs
  exact wpAnyZ_takeC _ hi hs.1.1.1.1 hs.1.1.1.2 hs.1.1.2 hs.1.2 hs.2 hQ hy hS h
/-- number i comes up first -/
def ReadyZ (P : Program) (md : Region.Mode) (l : List Oper) (Q : Exit → Act → World → Prop) (S : World → Prop) (Z : List Nat) (fuel : Nat) (listed : Array Bool) (a : Act) (w : World) (i : Nat) : Prop :=
  wpOp P l.toArray Q i (fun a' w' => (Z.contains i = false → S w') ∧ wpAnyZ P md l.toArray Q S Z fuel (listed.setIfInBounds i true) a' w') a w
theorem wpAnyZ_one {i fuel : Nat} {listed : Array Bool} {a : Act} {w : World} (hr : Region.ready md l.toArray listed = [i]) (h : ReadyZ P md l Q S Z fuel listed a w i) : wpAnyZ P md l.toArray Q S Z (fuel + 1) listed a w :=
  ⟨fun h0 => absurd (hr ▸ h0) (by simp), hr ▸ fun j hj => by simp at hj; subst hj; exact h⟩
theorem wpAnyZ_two {i k fuel : Nat} {listed : Array Bool} {a : Act} {w : World} (hr : Region.ready md l.toArray listed = [i, k]) (h : ReadyZ P md l Q S Z fuel listed a w i) (h2 : ReadyZ P md l Q S Z fuel listed a w k) : wpAnyZ P md l.toArray Q S Z (fuel + 1) listed a w :=
  ⟨fun h0 => absurd (hr ▸ h0) (by simp), hr ▸ fun j hj => by simp at hj; rcases hj with rfl | rfl; exact h; exact h2⟩
theorem wpAnyZ_three {i k m fuel : Nat} {listed : Array Bool} {a : Act} {w : World} (hr : Region.ready md l.toArray listed = [i, k, m]) (h : ReadyZ P md l Q S Z fuel listed a w i) (h2 : ReadyZ P md l Q S Z fuel listed a w k) (h3 : ReadyZ P md l Q S Z fuel listed a w m) : wpAnyZ P md l.toArray Q S Z (fuel + 1) listed a w :=
  ⟨fun h0 => absurd (hr ▸ h0) (by simp), hr ▸ fun j hj => by simp at hj; rcases hj with rfl | rfl | rfl; exact h; exact h2; exact h3⟩
theorem ReadyZ.mk {fuel : Nat} {listed : Array Bool} {a : Act} {w : World} {i : Nat} {o : Oper} (ho : l[i]? = some o)
    (h : ∀ K' : Act → World → Prop, Shut (∀ a w, (Z.contains i = false → S w) → wpAnyZ P md l.toArray Q S Z fuel (listed.setIfInBounds i true) a w → K' a w) → if Region.wanted o (yielded l.toArray a.tmps) = true then Oper.wp P o a w K' Q else K' (a.put o.dst undef) w) :
    ReadyZ P md l Q S Z fuel listed a w i :=
  wpOp_step (by rw [List.getElem?_toArray]; exact ho) (fun K' hK => h K' (fun a w hS hW => hK a w ⟨hS, hW⟩))
end
end
end

section
section
variable {w w' wA w4 : World} {R m c n cap : Nat} {B A : Option Addr} {xs : List Cls} {p : List Lin} {lv hv v1 : Value} {lg : List Int} {hs : List Flt}
theorem Rn.raised (h : Rn w R B m c xs A n cap p lv hv lg hs) (LA : Le w wA) {x : Flt} (hx : Enc.ok x) (O4 : w4.ownsRow (R - 1) 74 5 v1 (hs.length + 1) ((hs ++ [x]).flatMap Enc.cells)) (hg : wA.grownBy w4 hv.ownBlock) (hbl : v1.ownBlock = hv.ownBlock ∨ v1.ownBlock = some wA.heap.size) :
    Rn (w4.setCell ⟨R, 3, none⟩ v1) R B m c xs A n cap p lv v1 lg (hs ++ [x]) ∧ Kp R lv hv lv v1 w (w4.setCell ⟨R, 3, none⟩ v1) := by
  have hA := h.le LA
  have hRl : some R ≠ hv.ownBlock := fun e => h.hneR e.symm
  have hsz := hg.size
  have hcell : ∀ o v, wA.cell? ⟨R, o, none⟩ = some v → w4.cell? ⟨R, o, none⟩ = some v := fun o v hc => hg.cell (a := ⟨R, o, none⟩) hc (fun e => hRl e)
  have hfr : ∀ o, w4.frozen? ⟨R, o, none⟩ = wA.frozen? ⟨R, o, none⟩ := fun o => World.frozen?_of_block (a := ⟨R, o, none⟩) (hg.block R hA.z hRl)
  have hzz : (w4.setCell ⟨R, 3, none⟩ v1).heap.size = w4.heap.size := by simp [World.setCell]
  have gs := grown_set w4 R 3 v1
  have hap : lv.ownBlock = none ∨ lv.ownBlock ≠ hv.ownBlock := by
    cases e : lv.ownBlock with
    | none => exact .inl rfl
    | some k => exact .inr fun e2 => h.ap k e e2.symm
  have hlk : ∀ k, hv.ownBlock = some k → R - 1 ≤ k := fun k e => (h.H.lt k e).1
  have hvl : ∀ k, v1.ownBlock = some k → k ≠ R ∧ lv.ownBlock ≠ some k := fun k e => by
    rcases hbl with h1 | h1
    · exact ⟨fun e2 => h.nh (by rw [← h1, e, e2]), fun e2 => h.ap k e2 (h1 ▸ e)⟩
    · rw [h1] at e
      injection e with e
      have := hA.z
      exact ⟨by omega, fun e2 => by have := (hA.O.lt k e2).2; omega⟩
  have S4 := hA.S.grown hg (fun hn a e e2 => by have := h.hB hn a e; have := hlk _ e2.symm; omega)
  have T4 := hA.T.grown hg (fun hn a e e2 => by have := h.hA hn a e; have := hlk _ e2.symm; omega)
  refine ⟨⟨by rw [hzz]; exact Nat.lt_of_lt_of_le hA.z hsz, ?_, ?_, ?_, ?_, ?_, ?_, ?_, ?_, h.hB, h.hA, ?_, ?_, fun k e e2 => (hvl k e2).2 e, h.okl, ?_, h.nl, fun e => (hvl R e).1 rfl⟩, ?_⟩
  · rw [cell_set_other (.inr (by decide))]; exact hcell 0 _ hA.c0
  · rw [cell_set_other (.inr (by decide))]; exact hcell 1 _ hA.c1
  · rw [cell_set_other (.inr (by decide))]; exact hcell 2 _ hA.c2
  · exact cell_set_same (hcell 3 _ hA.c3)
  · rw [fr_set, hfr]; exact hA.f2
  · rw [fr_set, hfr]; exact hA.f3
  · exact S4.grown gs (fun hn a e e2 => by have := h.hB hn a e; have e3 : a.block = R := (by injection e2); omega)
  · exact T4.grown gs (fun hn a e e2 => by have := h.hA hn a e; have e3 : a.block = R := (by injection e2); omega)
  · exact (hA.O.kept hg hap).kept gs (by cases e : lv.ownBlock with | none => exact .inl rfl | some k => exact .inr (fun e2 => by injection e2 with e2; exact h.lneR (by rw [e, e2])))
  · have := O4.kept gs (by cases e : v1.ownBlock with | none => exact .inl rfl | some k => exact .inr (fun e2 => by injection e2 with e2; have := (hvl k e).1; omega))
    rw [List.length_append]; exact this
  · intro y hy
    rcases List.mem_append.1 hy with h1 | h1
    · exact h.okh y h1
    · rw [List.mem_singleton] at h1; subst h1; exact hx
  · refine ⟨?_, ?_, ?_, ?_, fun b hb hR hl hh => ?_, .inl rfl, ?_⟩
    · exact gs.os.trans (hg.os.trans LA.os)
    · exact gs.tape.trans (hg.tape.trans LA.tape)
    · exact gs.output.trans (hg.output.trans LA.output)
    · rw [hzz]; exact Nat.le_trans LA.size hsz
    · have hbA := Nat.lt_of_lt_of_le hb LA.size
      exact (gs.block b (Nat.lt_of_lt_of_le hbA hsz) (fun e => hR (by injection e))).trans ((hg.block b hbA (fun e => hh e.symm)).trans (LA.block b hb))
    · rcases hbl with h1 | h1
      · exact .inl h1
      · exact .inr fun k e => by rw [h1] at e; injection e with e; have := LA.size; omega
end
set_option maxHeartbeats 2000000 in
set_option maxRecDepth 100000 in
theorem raise_any (R m c n cap : Nat) (B A : Option Addr) (xs : List Cls) (p : List Lin) (lv hv : Value) (lg : List Int) (hs : List Flt) (cl k h : Int) (hx : Enc.ok (⟨cl, k, -1, h, false⟩ : Flt)) (hl : hs.length ≤ 1000000) (w : World) (H : Rn w R B m c xs A n cap p lv hv lg hs) :
    Calls Try.prog 82 #[.pointer (some ⟨R, 0, none⟩), .int .i64 cl, .int .i64 k, .int .i64 h] w fun e w' => e = lfE (.rai hs.length) ∧ ∃ hv', Rn w' R B m c xs A n cap p lv hv' lg (hs ++ [⟨cl, k, -1, h, false⟩]) ∧ Kp R lv hv lv hv' w w' := by
  obtain ⟨i0, hq, hz0, hz1, hz2⟩ := info_parts infoFltR
  have c3 := H.c3
  have f3 := H.f3
  have hz := H.z
  obtain ⟨AL, cL, rfl⟩ := own_form H.H
  go_enter Try.func82, Try.ntmps82
  go_wp2_with fail
  have L1 := Le.new w (.cells #[.int .i64 cl, .int .i64 k, .int .i64 (-1), .int .i64 h, .bool false] 74)
  have b0 : (w.alloc (.cells #[.int .i64 cl, .int .i64 k, .int .i64 (-1), .int .i64 h, .bool false] 74)).drew.cell? ⟨w.heap.size, 0, none⟩ = some (.int .i64 cl) := by show (w.alloc _).cell? _ = _; rw [World.cell?_alloc_at _ _ _ _ rfl]; rfl
  have b1 : (w.alloc (.cells #[.int .i64 cl, .int .i64 k, .int .i64 (-1), .int .i64 h, .bool false] 74)).drew.cell? ⟨w.heap.size, 1, none⟩ = some (.int .i64 k) := by show (w.alloc _).cell? _ = _; rw [World.cell?_alloc_at _ _ _ _ rfl]; rfl
  have b2 : (w.alloc (.cells #[.int .i64 cl, .int .i64 k, .int .i64 (-1), .int .i64 h, .bool false] 74)).drew.cell? ⟨w.heap.size, 2, none⟩ = some (.int .i64 (-1)) := by show (w.alloc _).cell? _ = _; rw [World.cell?_alloc_at _ _ _ _ rfl]; rfl
  have b3 : (w.alloc (.cells #[.int .i64 cl, .int .i64 k, .int .i64 (-1), .int .i64 h, .bool false] 74)).drew.cell? ⟨w.heap.size, 3, none⟩ = some (.int .i64 h) := by show (w.alloc _).cell? _ = _; rw [World.cell?_alloc_at _ _ _ _ rfl]; rfl
  have b4 : (w.alloc (.cells #[.int .i64 cl, .int .i64 k, .int .i64 (-1), .int .i64 h, .bool false] 74)).drew.cell? ⟨w.heap.size, 4, none⟩ = some (.bool false) := by show (w.alloc _).cell? _ = _; rw [World.cell?_alloc_at _ _ _ _ rfl]; rfl
  have zb : w.heap.size < (w.alloc (.cells #[.int .i64 cl, .int .i64 k, .int .i64 (-1), .int .i64 h, .bool false] 74)).drew.heap.size := by show _ < (w.alloc _).heap.size; simp
  have LD := L1.drew
  refine wp_region_noPanic ?_
  refine wp_region_Z (fun w' => w'.cell? ⟨R, 3, none⟩ = some (.slice AL hs.length cL) ∧ w'.cell? ⟨w.heap.size, 0, none⟩ = some (.int .i64 cl) ∧ w'.cell? ⟨w.heap.size, 1, none⟩ = some (.int .i64 k) ∧ w'.cell? ⟨w.heap.size, 2, none⟩ = some (.int .i64 (-1)) ∧ w'.cell? ⟨w.heap.size, 3, none⟩ = some (.int .i64 h) ∧ w'.cell? ⟨w.heap.size, 4, none⟩ = some (.bool false)) [12] (by kernel_rfl) ?_
  generalize (w.alloc (.cells #[.int .i64 cl, .int .i64 k, .int .i64 (-1), .int .i64 h, .bool false] 74)).drew = W at *
  have d3 := (LD.cell hz).trans c3
  have g3 := (LD.frozen hz).trans f3
  have OW := (H.le LD).H
  have hzW := (H.le LD).z
  have LN := Le.new W (.cells #[.int .i64 cl, .int .i64 k, .int .i64 (-1), .int .i64 h, .bool false] 74)
  have HZ := Lib.hid zb
  refine wpAnyZ_take (i := 0) (v := ?_) rfl (by kernel_rfl) (fun _ _ _ h => h) (Or.inl ⟨by rfl, ?_⟩) (⟨d3, b0, b1, b2, b3, b4⟩) ?_
  rotate_left 1
  · (intro w hSw; (try dsimp only at hSw); go_simp; try with_reducible rfl)
  try simp only [Act.put, List.setIfInBounds_toArray, List.set_cons_zero, List.set_cons_succ]
  refine wpAnyZ_take (i := 1) (v := ?_) rfl (by kernel_rfl) (fun _ _ _ h => h) (Or.inl ⟨by rfl, ?_⟩) (⟨d3, b0, b1, b2, b3, b4⟩) ?_
  rotate_left 1
  · (intro w hSw; (try dsimp only at hSw); go_simp; try with_reducible rfl)
  try simp only [Act.put, List.setIfInBounds_toArray, List.set_cons_zero, List.set_cons_succ]
  refine wpAnyZ_take (i := 2) (v := ?_) rfl (by kernel_rfl) (fun _ _ _ h => h) (Or.inl ⟨by rfl, ?_⟩) (⟨d3, b0, b1, b2, b3, b4⟩) ?_
  rotate_left 1
  · (intro w hSw; (try dsimp only at hSw); go_simp; try with_reducible rfl)
  try simp only [Act.put, List.setIfInBounds_toArray, List.set_cons_zero, List.set_cons_succ]
  refine wpAnyZ_take (i := 3) (v := ?_) rfl (by kernel_rfl) (fun _ _ _ h => h) (Or.inl ⟨by rfl, ?_⟩) (⟨d3, b0, b1, b2, b3, b4⟩) ?_
  rotate_left 1
  · (intro w hSw; (try dsimp only at hSw); go_simp; try with_reducible rfl)
  try simp only [Act.put, List.setIfInBounds_toArray, List.set_cons_zero, List.set_cons_succ]
  refine wpAnyZ_take (i := 4) (v := ?_) rfl (by kernel_rfl) (fun _ _ _ h => h) (Or.inl ⟨by rfl, ?_⟩) (⟨d3, b0, b1, b2, b3, b4⟩) ?_
  rotate_left 1
  · (intro w hSw; (try dsimp only at hSw); go_simp; try with_reducible rfl)
  try simp only [Act.put, List.setIfInBounds_toArray, List.set_cons_zero, List.set_cons_succ]
  refine wpAnyZ_take (i := 5) (v := ?_) rfl (by kernel_rfl) (fun _ _ _ h => h) (Or.inl ⟨by rfl, ?_⟩) (⟨d3, b0, b1, b2, b3, b4⟩) ?_
  rotate_left 1
  · (intro w hSw; (try dsimp only at hSw); go_simp; try with_reducible rfl)
  try simp only [Act.put, List.setIfInBounds_toArray, List.set_cons_zero, List.set_cons_succ]
  refine wpAnyZ_take (i := 6) (v := ?_) rfl (by kernel_rfl) (fun _ _ _ h => h) (Or.inl ⟨by rfl, ?_⟩) (⟨d3, b0, b1, b2, b3, b4⟩) ?_
  rotate_left 1
  · (intro w hSw; (try dsimp only at hSw); go_simp; try with_reducible rfl)
  try simp only [Act.put, List.setIfInBounds_toArray, List.set_cons_zero, List.set_cons_succ]
  refine wpAnyZ_one (i := 7) (by kernel_rfl) (ReadyZ.mk rfl (fun K hK => ?_))
  go_simp
  have e0 := (LN.cell zb).trans b0
  have e1 := (LN.cell zb).trans b1
  have e2 := (LN.cell zb).trans b2
  have e3 := (LN.cell zb).trans b3
  have e4 := (LN.cell zb).trans b4
  refine hK.out _ _ (fun _ => ⟨(LN.cell hzW).trans d3, e0, e1, e2, e3, e4⟩) ?_
  clear hK K
  try simp only [Act.put, List.setIfInBounds_toArray, List.set_cons_zero, List.set_cons_succ]
  refine wpAnyZ_one (i := 8) (by kernel_rfl) (ReadyZ.mk rfl (fun K hK => ?_))
  refine step_append_sl rfl (.tmp 18) (.tmp 20) 30 rfl (R - 1) 74 i0 _ 40 Try.underlying30 hq hz0 hz1 hz2 rfl (.slice AL hs.length cL) hs.length hs rfl (OW.alloc _) _ 1 1 [(⟨cl, k, -1, h, false⟩ : Flt)] rfl (sl_one _ rfl hx rfl) (by unfold maxLen; omega) (by omega) (Nat.le_trans (by omega) LN.size) ?_
  intro v1 w4 O4 hg4 hbl
  have HR := Lib.hid (H.raised (LD.trans LN) hx O4 hg4 hbl)
  have hneR : some R ≠ (Value.slice AL hs.length cL).ownBlock := fun e => H.hneR e.symm
  have hneb : some w.heap.size ≠ (Value.slice AL hs.length cL).ownBlock := fun e => by have := (H.H.lt _ e.symm).2; omega
  have k2 := hg4.cell (a := ⟨R, 3, none⟩) ((LN.cell hzW).trans d3) hneR
  have k3 : w4.frozen? ⟨R, 3, none⟩ = false := (World.frozen?_of_block (a := ⟨R, 3, none⟩) (hg4.block R (Nat.lt_of_lt_of_le hzW LN.size) hneR)).trans ((LN.frozen hzW).trans g3)
  obtain ⟨A1, q1, rfl⟩ := own_form O4
  refine hK.out _ _ (fun _ => ⟨k2, hg4.cell (a := ⟨w.heap.size, 0, none⟩) e0 hneb, hg4.cell (a := ⟨w.heap.size, 1, none⟩) e1 hneb, hg4.cell (a := ⟨w.heap.size, 2, none⟩) e2 hneb, hg4.cell (a := ⟨w.heap.size, 3, none⟩) e3 hneb, hg4.cell (a := ⟨w.heap.size, 4, none⟩) e4 hneb⟩) ?_
  clear hK K
  try simp only [Act.put, List.setIfInBounds_toArray, List.set_cons_zero, List.set_cons_succ]
  refine wpAnyZ_take (i := 9) (v := ?_) rfl (by kernel_rfl) (fun _ _ _ h => h) (Or.inl ⟨by rfl, ?_⟩) (⟨k2, hg4.cell (a := ⟨w.heap.size, 0, none⟩) e0 hneb, hg4.cell (a := ⟨w.heap.size, 1, none⟩) e1 hneb, hg4.cell (a := ⟨w.heap.size, 2, none⟩) e2 hneb, hg4.cell (a := ⟨w.heap.size, 3, none⟩) e3 hneb, hg4.cell (a := ⟨w.heap.size, 4, none⟩) e4 hneb⟩) ?_
  rotate_left 1
  · (intro w hSw; (try dsimp only at hSw); go_simp; try with_reducible rfl)
  try simp only [Act.put, List.setIfInBounds_toArray, List.set_cons_zero, List.set_cons_succ]
  refine wpAnyZ_take (i := 10) (v := ?_) rfl (by kernel_rfl) (fun _ _ _ h => h) (Or.inl ⟨by rfl, ?_⟩) (⟨k2, hg4.cell (a := ⟨w.heap.size, 0, none⟩) e0 hneb, hg4.cell (a := ⟨w.heap.size, 1, none⟩) e1 hneb, hg4.cell (a := ⟨w.heap.size, 2, none⟩) e2 hneb, hg4.cell (a := ⟨w.heap.size, 3, none⟩) e3 hneb, hg4.cell (a := ⟨w.heap.size, 4, none⟩) e4 hneb⟩) ?_
  rotate_left 1
  · (intro w hSw; (try dsimp only at hSw); go_simp; try with_reducible rfl)
  try simp only [Act.put, List.setIfInBounds_toArray, List.set_cons_zero, List.set_cons_succ]
  refine wpAnyZ_take (i := 11) (v := ?_) rfl (by kernel_rfl) (fun _ _ _ h => h) (Or.inl ⟨by rfl, ?_⟩) (⟨k2, hg4.cell (a := ⟨w.heap.size, 0, none⟩) e0 hneb, hg4.cell (a := ⟨w.heap.size, 1, none⟩) e1 hneb, hg4.cell (a := ⟨w.heap.size, 2, none⟩) e2 hneb, hg4.cell (a := ⟨w.heap.size, 3, none⟩) e3 hneb, hg4.cell (a := ⟨w.heap.size, 4, none⟩) e4 hneb⟩) ?_
  rotate_left 1
  · (intro w hSw; (try dsimp only at hSw); go_simp; try with_reducible rfl)
  try simp only [Act.put, List.setIfInBounds_toArray, List.set_cons_zero, List.set_cons_succ]
  clear O4 hg4 hbl e0 e1 e2 e3 e4 b0 b1 b2 b3 b4 d3 OW LN c3 H
  refine wpAnyZ_one (i := 12) (by kernel_rfl) (ReadyZ.mk rfl (fun K hK => ?_))
  go_simp
  refine hK.out _ _ (fun h => absurd h (by decide)) ?_
  clear hK K
  try simp only [Act.put, List.setIfInBounds_toArray, List.set_cons_zero, List.set_cons_succ]
  refine wpAnyZ_done (by kernel_rfl) ?_ _
  refine NoPanic.normal ?_
  have k4 := HR.out.1.c3
  go_wp2
  exact ⟨rfl, rfl, _, HR.out.1, HR.out.2⟩
/-- a call of the runner that hands back what a block is left with -/
def AtOk (R m c n cap : Nat) (B A : Option Addr) (xs : List Cls) (p : List Lin) (f : FuncId) (args : Array Value) (lv hv : Value) (w : World) (r : Lft × Rst) : Prop :=
  Calls Try.prog f args w fun e w' => e = .returned (lfV r.1) ∧ ∃ lv' hv', Rn w' R B m c xs A n cap p lv' hv' r.2.1 r.2.2 ∧ Kp R lv hv lv' hv' w w'
theorem fltR_ok {c k h : Int} (hc : -9223372036854775808 ≤ c ∧ c ≤ 9223372036854775807) (hk : -9223372036854775808 ≤ k ∧ k ≤ 9223372036854775807) (hh : -9223372036854775808 ≤ h ∧ h ≤ 9223372036854775807) : Enc.ok (⟨c, k, -1, h, false⟩ : Flt) :=
  ⟨hc.1, hc.2, hk.1, hk.2, by show (-9223372036854775808 : Int) ≤ -1; omega, by show (-1 : Int) ≤ 9223372036854775807; omega, hh.1, hh.2⟩
set_option maxRecDepth 100000 in
theorem raiseAgain_any (R m c n cap : Nat) (B A : Option Addr) (xs : List Cls) (p : List Lin) (lv hv : Value) (s : Rst) (h : Int) (hh : Hd h s) (hl : s.2.length ≤ 1000000) (w : World) (H : Rn w R B m c xs A n cap p lv hv s.1 s.2) :
    RunOk R m c n cap B A xs p 83 #[.pointer (some ⟨R, 0, none⟩), .int .i64 h] lv hv w (againN h s) := by
  have h0 := hh.1
  have h1 := hh.2
  unfold RunOk againN
  by_cases hn : h < 0
  · rw [if_pos hn]
    go_enter Try.func83, Try.ntmps83
    go_wp2_with fail
    refine (raise_any R m c n cap B A xs p lv hv s.1 s.2 0 0 h (fltR_ok (by omega) (by omega) (by omega)) hl w H).mono ?_
    rintro e w2 ⟨rfl, hv2, RN, KP⟩
    exact ⟨rfl, rfl, _, _, RN, KP⟩
  · rw [if_neg hn]
    go_enter Try.func83, Try.ntmps83
    go_wp2
    exact ⟨rfl, rfl, _, _, H, Kp.refl R lv hv w⟩
set_option maxRecDepth 100000 in
theorem attemptBlock_any (R m c n cap : Nat) (B A : Option Addr) (xs : List Cls) (p : List Lin) (x : Nat) (h : Int) (s : Rst) (r : Lft × Rst) (hx : x < p.length) (lv hv : Value) (hp : p.length ≤ 24)
    (HA : ∀ w, Rn w R B m c xs A n cap p lv hv s.1 s.2 → AtOk R m c n cap B A xs p 36 #[.pointer (some ⟨R, 0, none⟩), .int .i64 ((x : Int) + 1), .int .i64 (bEnd p x), .int .i64 h] lv hv w r) (w : World) (H : Rn w R B m c xs A n cap p lv hv s.1 s.2) :
    AtOk R m c n cap B A xs p 106 #[.pointer (some ⟨R, 0, none⟩), .int .i64 x, .int .i64 h] lv hv w r := by
  have c1 := H.c1
  have hz := H.z
  unfold AtOk
  go_enter Try.func106, Try.ntmps106
  go_wp2_with fail
  refine (iBlockEnd_any A n cap p x hx w H.T).mono ?_
  rintro e w2 ⟨rfl, hle⟩
  go_wp2_with fail
  refine (show Calls _ _ _ _ _ from HA w2 (H.le hle)).mono ?_
  rintro e w3 ⟨rfl, lv3, hv3, RN, KP⟩
  have HR := Lib.hid (And.intro RN ((Kp.of_le R lv hv hle).trans KP))
  go_wp2
  go_ret
  exact ⟨rfl, _, _, HR.out.1, HR.out.2⟩
set_option maxHeartbeats 2000000 in
set_option maxRecDepth 100000 in
theorem exceptFor_any (R m c n cap : Nat) (B A : Option Addr) (xs : List Cls) (p : List Lin) (lv hv : Value) (s : Rst) (i : Nat) (f : Int) (g : GoodP xs p) (hi : i < p.length) (h7 : knd p i = 7) (gd : Gd xs s.2) (h0 : 0 ≤ f) (h1 : f < (s.2.length : Int)) (w : World) (H : Rn w R B m c xs A n cap p lv hv s.1 s.2) :
    Calls Try.prog 108 #[.pointer (some ⟨R, 0, none⟩), .int .i64 i, .int .i64 f] w fun e w' => e = .returned (.int .i64 (ctE xs p (clsF s f) (exL p i))) ∧ Le w w' := by
  obtain ⟨f, rfl⟩ := Int.eq_ofNat_of_zero_le h0
  have hf : f < s.2.length := by omega
  have hcl : clsF s f = s.2[f].cls := by unfold clsF; rw [show (f : Int).toNat = f by omega, List.getElem?_eq_getElem hf]
  have hk := (gd f hf).1
  have c1 := H.c1
  have hz := H.z
  have hp := g.len
  obtain rfl := H.T.len
  have hell : (exL p i).length ≤ p.length + 1 := Nat.le_trans (exF_len _ _) (parts_len p i)
  have HF1 : Hid (firstX xs (clL p i) (clsF s f) = firstC xs ((exL p i).map (lnA p)) (clsF s f) 0) := by show _ = _; rw [firstX_of (t := true) (by rw [good_exc g hi h7, hcl, hk]; rfl)]; rfl
  go_enter Try.func108, Try.ntmps108
  go_wp2_with fail
  refine (exceptsOf_any A p.length cap p i hi (by omega) w H.T).mono ?_
  rintro e w3 ⟨v3, u3, rfl, D3, D4, hle3⟩
  obtain ⟨A3, q3, rfl, S3, -⟩ := D3.form (by decide)
  obtain ⟨A4, q4, rfl, S4, -⟩ := D4.form (by decide)
  have H3 := H.le hle3
  have t0 := H3.c0
  have t3 := H3.c3
  have z3 := H3.z
  obtain ⟨AL, cL, rfl⟩ := own_form H3.H
  have SH := Sl.of_own H3.H rfl (by decide) H3.okh
  rw [nI_len] at S3 ⊢
  generalize clL p i = cC at *
  have HE : Hid (∀ z, ctE xs p s.2[f].cls (exL p i) = z → ctE xs p (clsF s f) (exL p (id i)) = z) := fun z hz => by rw [hcl]; exact hz
  generalize exL p i = eL at *
  obtain ⟨b7, off7, rfl, hb7, c7, -⟩ := SH.flt_at hf
  rw [hcl] at HF1
  generalize s.2[f].cls = cl at *
  have hca : ∀ (gg : Ext w3) (_ : True), Calls Try.prog 120 #[.agg #[.slice B m c], .slice A4 cC.length q4, .int .i64 cl] (w3.ext gg) fun e w' => e = .returned (.int .i64 (firstX xs cC cl)) ∧ Le (w3.ext gg) w' := fun gg _ => iFirstCatch_any B A4 m c _ q4 xs cC cl _ (H3.S.le (Le.ext w3 gg)) (S4.le (Le.ext w3 gg))
  have E0 := cell_ext z3 t0
  have E3 := cell_ext z3 t3
  have E7 := cell_ext hb7 c7
  clear D3 D4 t0 t3 c7 S4 SH H H3 c1 hcl hk gd
  go_wp2_with fail
  refine wp_region_ext (by kernel_rfl) (by kernel_rfl) ?_
  repeat (go_big_quiet_step (first | (go_at_call 120; exact Calls.ext_of (hca _ trivial))))
  refine wpQuiet_nil ?_
  intro _ hw'
  obtain ⟨gg, rfl⟩ := hw'
  have hle4 := Le.ext w3 gg
  have L4 := hle3.trans hle4
  have S5 := S3.le hle4
  generalize w3.ext gg = w4 at *
  clear hca E0 E3 E7
  rw [HF1.out]
  clear HF1
  rcases ct_two xs p cl eL 0 with ⟨h1, h2⟩ | ⟨r, hr, h1, h2⟩
  · have h1' : firstC xs (eL.map (lnA p)) cl 0 = -1 := h1
    have HF := Lib.hid (HE.out _ h2)
    rw [h1']
    clear h1 h1' h2
    go_wp2
    go_ret
    exact ⟨ret_int HF.out.symm, L4⟩
  · have h1' : firstC xs (eL.map (lnA p)) cl 0 = (r : Int) := by rw [show (0 : Int) = ((0 : Nat) : Int) from rfl, h1]; omega
    have HF := Lib.hid (HE.out _ h2)
    rw [h1']
    obtain ⟨b8, off8, rfl, hb8, c8, -⟩ := S5.int_at (k := r) (by rw [nI_len]; exact hr)
    rw [nI_at hr] at c8
    generalize eL[r] = z at *
    have hr0 : (0 : Int) ≤ (r : Int) := by omega
    have hrn : (r : Int) < (eL.length : Int) := by omega
    have hrb : decide ((r : Int) < (0 : Int)) = false := decide_eq_false (by omega)
    clear h1 h1' h2
    go_wp2
    go_ret
    exact ⟨ret_int HF.out.symm, L4⟩
end

section
def prtI (o : Option Nat) : Int := match o with | some x => (x : Int) | none => -1
theorem prtG_at {p : List Lin} {K : Int} {L : List Nat} {q : Nat} (h : q < L.length) : prtG p K (L.drop q) = if knd p L[q] = K then some L[q] else prtG p K (L.drop (q + 1)) := by rw [List.drop_eq_getElem_cons h]; rfl
theorem prtG_end {p : List Lin} {K : Int} {L : List Nat} {q : Nat} (h : ¬ q < L.length) : prtG p K (L.drop q) = none := by rw [List.drop_eq_nil_of_le (by omega)]; rfl
set_option maxHeartbeats 1000000 in
set_option maxRecDepth 100000 in
theorem partOf_any (A : Option Addr) (n cap : Nat) (p : List Lin) (i : Nat) (K : Int) (hi : i < p.length) (hp : p.length ≤ 24) (w : World) (hR : Sl w A n cap p) :
    Calls Try.prog 107 #[.slice A n cap, .int .i64 i, .int .i64 K] w fun e w' => e = .returned (.int .i64 (prtI (prt p i K))) ∧ Le w w' := by
  obtain rfl := hR.len
  have HX : Hid (prt p i K = prtG p K (parts p i)) := rfl
  have HL := Lib.hid (parts_lt hi)
  have hpl := parts_len p i
  go_enter Try.func107, Try.ntmps107
  go_wp2_with fail
  refine (partsOf_any A p.length cap p i hi (by omega) w hR).mono ?_
  rintro e w2 ⟨v, rfl, D, hle2⟩
  obtain ⟨A2, q2, rfl, S2, -⟩ := D.form (by decide)
  have R2 := hR.le hle2
  rw [nI_len] at S2 ⊢
  generalize parts p i = E at *
  clear D hR
  go_wp2
  go_loopw [13] (fun q wr => ∃ j : Nat, j ≤ E.length ∧ q = .int .i64 j ∧ prtG p K E = prtG p K (E.drop j) ∧ Le w2 wr) (fun q _ => E.length - (intOf q).toNat)
  case atStart => exact ⟨0, Nat.zero_le _, rfl, rfl, Le.refl _⟩
  case round =>
    obtain ⟨j, hj, rfl, hr, hle⟩ := hrel
    have HR := Lib.hid hr
    clear hr
    have S := S2.le hle
    have R := R2.le hle
    clear S2 R2
    by_cases hl : j < E.length
    · obtain ⟨b, off, rfl, hb5, hcell, -⟩ := S.int_at (k := j) (by rw [nI_len]; exact hl)
      rw [nI_at hl] at hcell
      have hx := HL.out E[j] (List.getElem_mem hl)
      have HA := Lib.hid (prtG_at (p := p) (K := K) hl)
      generalize E[j] = x at *
      obtain ⟨b2, off2, rfl, hb6, d0, d1, d2, d3, -⟩ := R.lin_at hx
      have HK := Lib.hid (knd_at hx)
      have hx0 : (0 : Int) ≤ (x : Int) := by omega
      have hxn : (x : Int) < (p.length : Int) := by omega
      have hj0 : (0 : Int) ≤ (j : Int) := by omega
      have hjn : (j : Int) < (E.length : Int) := by omega
      generalize p[x].kind = vk at *
      by_cases hk : vk = K
      · have hkb : decide (vk = K) = true := decide_eq_true hk
        have HF : Hid ((x : Int) = prtI (prt p i K)) := by show _ = _; rw [HX.out, HR.out, HA.out, if_pos (HK.out.trans hk)]; rfl
        clear HX HR HA
        go_wp2
        go_ret
        exact ⟨ret_int HF.out, hle2.trans hle⟩
      · have hkb : decide (vk = K) = false := decide_eq_false hk
        have HF : Hid (prtG p K E = prtG p K (E.drop (j + 1))) := by show _ = _; rw [HR.out, HA.out, if_neg (fun e => hk (HK.out.symm.trans e))]
        clear HR HA
        go_wp2
        go_roundw
        case rel => exact ⟨j + 1, by omega, by go_num, HF.out, hle⟩
        case measure => simp [intOf]; omega
    · have HF : Hid ((-1 : Int) = prtI (prt p i K)) := by show _ = _; rw [HX.out, HR.out, prtG_end hl]; rfl
      go_wp2
      go_ret
      exact ⟨ret_int HF.out, hle2.trans hle⟩
/-- what is asked of what a block is left with -/
theorem ret_val {a b : Value} (h : a = b) : Ending.returned a = .returned b := by rw [h]
def raiF : Lft → Int
  | .rai f => f
  | _ => 0
def retF : Lft → Int
  | .ret v => v
  | _ => 0
def isRai : Lft → Bool
  | .rai _ => true
  | _ => false
def isRet : Lft → Bool
  | .ret _ => true
  | _ => false
def isBrk : Lft → Bool
  | .brk => true
  | _ => false
def isCnt : Lft → Bool
  | .cnt => true
  | _ => false
def isNil : Lft → Bool
  | .nil => true
  | _ => false
theorem ta_rai (l : Lft) (w : World) : (Instr.typeAssert (lfV l) 20 85 true).run Try.prog w = .ok (.tuple #[.agg #[.int .i64 (raiF l)], .bool (isRai l)]) w := by
  cases l <;> kernel_rfl
theorem ta_ret (l : Lft) (w : World) : (Instr.typeAssert (lfV l) 20 83 true).run Try.prog w = .ok (.tuple #[.agg #[.int .i64 (retF l)], .bool (isRet l)]) w := by
  cases l <;> kernel_rfl
theorem ta_brk (l : Lft) (w : World) : (Instr.typeAssert (lfV l) 20 119 true).run Try.prog w = .ok (.tuple #[.agg #[], .bool (isBrk l)]) w := by
  cases l <;> kernel_rfl
theorem ta_cnt (l : Lft) (w : World) : (Instr.typeAssert (lfV l) 20 120 true).run Try.prog w = .ok (.tuple #[.agg #[], .bool (isCnt l)]) w := by
  cases l <;> kernel_rfl
theorem neq_lf (l : Lft) (w : World) : (binOp .neq 20 (lfV l) .nilIface).run Try.prog w = .ok (.bool (!(isNil l))) w := by
  cases l
  case nil => exact neq_nil w
  all_goals exact neq_any _ _ w
theorem eql_lf (l : Lft) (w : World) : (binOp .eql 20 (lfV l) .nilIface).run Try.prog w = .ok (.bool (isNil l)) w := by
  cases l
  case nil => exact eql_nil w
  all_goals exact eql_any _ _ w
/-- what is told and raised is not too much -/
def Sm (s : Rst) : Prop := s.1.length ≤ 1000000 ∧ s.2.length ≤ 1000000
theorem Fw.sm {xs : List Cls} {s : Rst} {r : Lft × Rst} (F : Fw xs s r) (h : Sm r.2) : Sm s := ⟨Nat.le_trans F.lg h.1, Nat.le_trans F.hs h.2⟩
/-- the blocks of lines are run so -/
def BlOk (R m c n cap : Nat) (B A : Option Addr) (xs : List Cls) (p : List Lin) (blk : Bls) (C : Nat → Prop) : Prop :=
  ∀ (x : Nat) (h : Int) (s : Rst) (lv hv : Value) (w : World), x < p.length → C x → Gd xs s.2 → Hd h s → Sm (blk x h s).2 → Rn w R B m c xs A n cap p lv hv s.1 s.2 → AtOk R m c n cap B A xs p 106 #[.pointer (some ⟨R, 0, none⟩), .int .i64 x, .int .i64 h] lv hv w (blk x h s)
theorem eg_neq (l : Lft) (o : Nat) (w : World) : (eqGuard .neq 20 (.tmp o) (.const .nilIface) (lfV l) .nilIface).run Try.prog w = .ok () w := by
  cases l <;> rfl
theorem eg_eql (l : Lft) (o : Nat) (w : World) : (eqGuard .eql 20 (.tmp o) (.const .nilIface) (lfV l) .nilIface).run Try.prog w = .ok () w := by
  cases l <;> rfl
set_option maxHeartbeats 1000000 in
set_option maxRecDepth 100000 in
theorem attemptLast_any (R m c n cap : Nat) (B A : Option Addr) (xs : List Cls) (p : List Lin) (blk : Bls) (C : Nat → Prop) (HB : BlOk R m c n cap B A xs p blk C) (x : Nat) (hx : x < p.length) (hC : C x) (h : Int) (l : Lft) (s : Rst) (gd : Gd xs s.2) (hh : Hd (hdN h l) s) (hsm : Sm (blk x (hdN h l) s).2) (lv hv : Value) (w : World) (H : Rn w R B m c xs A n cap p lv hv s.1 s.2) :
    AtOk R m c n cap B A xs p 109 #[.pointer (some ⟨R, 0, none⟩), .int .i64 x, .int .i64 h, lfV l] lv hv w (lasN blk x h (l, s)) := by
  have q1 := ta_rai l
  have q2 := neq_lf
  have q4 := eg_neq
  have HBx : ∀ w2 f, hdN h l = f → Rn w2 R B m c xs A n cap p lv hv s.1 s.2 → AtOk R m c n cap B A xs p 106 #[.pointer (some ⟨R, 0, none⟩), .int .i64 x, .int .i64 f] lv hv w2 (blk x (hdN h l) s) := fun w2 f e H2 => e ▸ HB x _ s lv hv w2 hx hC gd hh hsm H2
  have HX : Hid (lasN blk x h (l, s) = (orElseL l (blk x (hdN h l) s).1, (blk x (hdN h l) s).2)) := rfl
  have HF1 : Hid (isRai l = true → hdN h l = raiF l) := by show _ → _; cases l <;> first | (intro e; cases e; done) | (intro _; rfl)
  have HF2 : Hid (isRai l = false → hdN h l = h) := by show _ → _; cases l <;> first | (intro e; cases e; done) | (intro _; rfl)
  clear HB hh hsm
  generalize blk x (hdN h l) s = q at *
  generalize hdN h l = hd at *
  generalize lasN blk x h (l, s) = z at *
  obtain rfl := HX.out
  clear HX
  rcases q with ⟨l2, s2⟩
  have HL1 : Hid (isNil l2 = true → orElseL l l2 = l) := by show _ → _; cases l2 <;> first | (intro e; cases e; done) | (intro _; rfl)
  have HL2 : Hid (isNil l2 = false → orElseL l l2 = l2) := by show _ → _; cases l2 <;> first | (intro e; cases e; done) | (intro _; rfl)
  generalize isRai l = ri at *
  generalize raiF l = rf at *
  unfold AtOk
  show Calls _ _ _ _ _
  generalize orElseL l l2 = l3 at *
  obtain ⟨vl, hvl⟩ : ∃ v, lfV l = v := ⟨_, rfl⟩
  have HVL := Lib.hid hvl
  rw [hvl] at q1 ⊢
  clear hvl
  go_enter Try.func109, Try.ntmps109
  cases ri
  · go_wp2_with fail
    refine (show Calls _ _ _ _ _ from HBx _ h (HF2.out (by trivial)) (H.le (Le.new w _))).mono ?_
    rintro e w2 ⟨rfl, lv2, hv2, RN, KP⟩
    have HR := Lib.hid (And.intro RN ((Kp.of_le R lv hv (Le.new w (.cells #[.int .i64 rf] 85))).trans KP))
    clear RN KP HBx
    have q3 := q2 l2
    clear q2
    have HV : Hid (isNil l2 = true → lfV l3 = vl) := fun e => by rw [HL1.out e]; exact HVL.out
    have HW : Hid (isNil l2 = false → lfV l3 = lfV l2) := fun e => by rw [HL2.out e]
    clear HL1 HL2
    generalize isNil l2 = nl at *
    cases nl
    · simp only [Bool.not_false] at q3
      go_wp2
      go_ret
      exact ⟨ret_val (HW.out (by trivial)).symm, _, _, HR.out.1, HR.out.2⟩
    · simp only [Bool.not_true] at q3
      go_wp2
      go_ret
      exact ⟨ret_val (HV.out (by trivial)).symm, _, _, HR.out.1, HR.out.2⟩
  · go_wp2_with fail
    refine (show Calls _ _ _ _ _ from HBx _ rf (HF1.out (by trivial)) (H.le (Le.new w _))).mono ?_
    rintro e w2 ⟨rfl, lv2, hv2, RN, KP⟩
    have HR := Lib.hid (And.intro RN ((Kp.of_le R lv hv (Le.new w (.cells #[.int .i64 rf] 85))).trans KP))
    clear RN KP HBx
    have q3 := q2 l2
    clear q2
    have HV : Hid (isNil l2 = true → lfV l3 = vl) := fun e => by rw [HL1.out e]; exact HVL.out
    have HW : Hid (isNil l2 = false → lfV l3 = lfV l2) := fun e => by rw [HL2.out e]
    clear HL1 HL2
    generalize isNil l2 = nl at *
    cases nl
    · simp only [Bool.not_false] at q3
      go_wp2
      go_ret
      exact ⟨ret_val (HW.out (by trivial)).symm, _, _, HR.out.1, HR.out.2⟩
    · simp only [Bool.not_true] at q3
      go_wp2
      go_ret
      exact ⟨ret_val (HV.out (by trivial)).symm, _, _, HR.out.1, HR.out.2⟩
end
end Go.Proofs.Ytlepgfccnfcagaa
