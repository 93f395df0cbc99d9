/- one text of RnP, RZp -/
import Derived.Test.YtgjlmfjmjglplaaGreatFj11
import Derived.Test.YtgjlmfjmjglplaaGreatFj3
import Derived.Test.YtgjlmfjmjglplaaGreatFj21
import Derived.Test.YtgjlmfjmjglplaaGreatFj2
import Derived.Test.YtgjlmfjmjglplaaGreatFj1
import Derived.Deep.RegionHeld3
namespace Go.Proofs.YtgjlmfjmjglplaaGreat
open Go.RowKit
set_option linter.unusedVariables false
section
section
abbrev Bls := Nat → Int → Rst → Lft × Rst
def rsN (c k h : Int) (s : Rst) : Lft × Rst := (.rai s.2.length, (s.1, s.2 ++ [⟨c, k, -1, h, false⟩]))
def againN (h : Int) (s : Rst) : Lft × Rst := if h < 0 then rsN 0 0 h s else (.rai h, s)
/-- what is opened is closed -/
def quiet (q : Bool) : Lft → Lft
  | .rai f => if q = true then .nil else .rai f
  | l => l
def withN (blk : Bls) (p : List Lin) (i : Nat) (h : Int) (s : Rst) : Lft × Rst :=
  (quiet (decide (lnBc p i = 1)) (blk i h (s.1 ++ [100 + lnA p i], s.2)).1, ((blk i h (s.1 ++ [100 + lnA p i], s.2)).2.1 ++ [200 + lnA p i], (blk i h (s.1 ++ [100 + lnA p i], s.2)).2.2))
def loopN (blk : Bls) (i : Nat) (h : Int) : Nat → Rst → Lft × Rst
  | 0, s => (.nil, s)
  | n + 1, s => match blk i h s with
    | (.nil, s2) => loopN blk i h n s2
    | (.cnt, s2) => loopN blk i h n s2
    | (.brk, s2) => (.nil, s2)
    | (.ret v, s2) => (.ret v, s2)
    | (.rai f, s2) => (.rai f, s2)
def clsF (s : Rst) (f : Int) : Int := match s.2[f.toNat]? with | some x => x.cls | none => 0
/-- the first line of a kind in a try -/
def prtG (p : List Lin) (K : Int) : List Nat → Option Nat
  | [] => none
  | x :: r => if knd p x = K then some x else prtG p K r
def prt (p : List Lin) (i : Nat) (K : Int) : Option Nat := prtG p K (parts p i)
def orN (o : Option Nat) (blk : Bls) (h : Int) (r : Lft × Rst) : Lft × Rst := match o with | some x => blk x h r.2 | none => r
def midN (blk : Bls) (xs : List Cls) (p : List Lin) (i : Nat) (h : Int) (r : Lft × Rst) : Lft × Rst := match r.1 with
  | .nil => orN (prt p i 9) blk h r
  | .rai f => if 0 ≤ ctE xs p (clsF r.2 f) (exL p i) then blk (ctE xs p (clsF r.2 f) (exL p i)).toNat f r.2 else r
  | _ => r
def hdN (h : Int) : Lft → Int
  | .rai f => f
  | _ => h
def orElseL (a : Lft) : Lft → Lft
  | .nil => a
  | l => l
def lasN (blk : Bls) (x : Nat) (h : Int) (r : Lft × Rst) : Lft × Rst := (orElseL r.1 (blk x (hdN h r.1) r.2).1, (blk x (hdN h r.1) r.2).2)
def finN (blk : Bls) (p : List Lin) (i : Nat) (h : Int) (r : Lft × Rst) : Lft × Rst := match prt p i 10 with
  | none => r
  | some x => lasN blk x h r
def tryN (blk : Bls) (xs : List Cls) (p : List Lin) (i : Nat) (h : Int) (s : Rst) : Lft × Rst := finN blk p i h (midN blk xs p i h (blk i h s))
def stepN (blk : Bls) (xs : List Cls) (p : List Lin) (h : Int) (i : Nat) (s : Rst) : Lft × Rst :=
  if knd p i = 1 then (.nil, (s.1 ++ [lnA p i], s.2)) else
  if knd p i = 2 then rsN (lnA p i) (lnBc p i) h s else
  if knd p i = 3 then againN h s else
  if knd p i = 4 then (.ret (lnA p i), s) else
  if knd p i = 5 then (.brk, s) else
  if knd p i = 6 then (.cnt, s) else
  if knd p i = 7 then tryN blk xs p i h s else
  if knd p i = 11 then withN blk p i h s else
  if knd p i = 12 then loopN blk i h (lnA p i).toNat s else (.nil, s)
def lnN (xs : List Cls) (p : List Lin) : Nat → Int → Nat → Rst → Lft × Rst
  | 0, _, _, s => (.nil, s)
  | N + 1, h, i, s => stepN (fun x h s => goB (lnN xs p N h) p (bEnd p x) 25 (x + 1) s) xs p h i s
def blN (xs : List Cls) (p : List Lin) (N : Nat) : Bls := fun x h s => goB (lnN xs p N h) p (bEnd p x) 25 (x + 1) s
theorem lnN_succ (xs : List Cls) (p : List Lin) (N : Nat) (h : Int) (i : Nat) (s : Rst) : lnN xs p (N + 1) h i s = stepN (blN xs p N) xs p h i s := rfl
/-- the faults of a run -/
def Gd (xs : List Cls) (hs : List Flt) : Prop := ∀ k (h : k < hs.length), hasK xs hs[k].cls = true ∧ hs[k].cause = -1 ∧ -1 ≤ hs[k].ctx ∧ hs[k].ctx < (k : Int)
/-- what is handled is a fault, or nothing -/
def Hd (h : Int) (s : Rst) : Prop := -1 ≤ h ∧ h < (s.2.length : Int)
/-- it goes on from s to r -/
structure Fw (xs : List Cls) (s : Rst) (r : Lft × Rst) : Prop where
  gd : Gd xs r.2.2
  lg : s.1.length ≤ r.2.1.length
  hs : s.2.length ≤ r.2.2.length
  rai : ∀ f, r.1 = .rai f → 0 ≤ f ∧ f < (r.2.2.length : Int)
theorem Fw.refl {xs : List Cls} {s : Rst} {l : Lft} (g : Gd xs s.2) (hl : ∀ f, l ≠ .rai f) : Fw xs s (l, s) := ⟨g, Nat.le_refl _, Nat.le_refl _, fun f e => absurd e (hl f)⟩
theorem Fw.trans {xs : List Cls} {s s2 : Rst} {l : Lft} {r : Lft × Rst} (a : Fw xs s (l, s2)) (b : Fw xs s2 r) : Fw xs s r := ⟨b.gd, Nat.le_trans a.lg b.lg, Nat.le_trans a.hs b.hs, b.rai⟩
theorem Fw.hd {xs : List Cls} {s : Rst} {r : Lft × Rst} {h : Int} (a : Fw xs s r) (k : Hd h s) : Hd h r.2 := ⟨k.1, by have := k.2; have := a.hs; omega⟩
theorem Fw.hdr {xs : List Cls} {s : Rst} {r : Lft × Rst} {f : Int} (a : Fw xs s r) (e : r.1 = .rai f) : Hd f r.2 := by have := a.rai f e; exact ⟨by omega, this.2⟩
theorem Fw.hdn {xs : List Cls} {s : Rst} {r : Lft × Rst} {h : Int} (a : Fw xs s r) (k : Hd h s) : Hd (hdN h r.1) r.2 := by
  rcases hr : r.1 with _ | v | f | _ | _
  case rai => exact a.hdr hr
  all_goals exact a.hd k
theorem Gd.snoc {xs : List Cls} {hs : List Flt} (g : Gd xs hs) {c k h : Int} (hc : hasK xs c = true) (h0 : -1 ≤ h) (h1 : h < (hs.length : Int)) : Gd xs (hs ++ [⟨c, k, -1, h, false⟩]) := by
  intro j hj
  rw [List.length_append, List.length_singleton] at hj
  rcases Nat.lt_or_ge j hs.length with h2 | h2
  · have := g j h2
    rw [List.getElem_append_left h2]; exact this
  · obtain rfl : j = hs.length := by omega
    rw [List.getElem_append_right (Nat.le_refl _)]
    simp only [Nat.sub_self, List.getElem_cons_zero]
    exact ⟨hc, trivial, h0, h1⟩
theorem Fw.raise {xs : List Cls} {s : Rst} (g : Gd xs s.2) {c k h : Int} (hc : hasK xs c = true) (hh : Hd h s) : Fw xs s (rsN c k h s) := by
  refine ⟨g.snoc hc hh.1 hh.2, Nat.le_refl _, ?_, fun f e => ?_⟩
  · show s.2.length ≤ (s.2 ++ [_]).length
    rw [List.length_append]; omega
  · have e2 : (Lft.rai (s.2.length : Int)) = .rai f := e
    injection e2 with e2
    have e3 : (rsN c k h s).2.2.length = s.2.length + 1 := by show (s.2 ++ [_]).length = _; rw [List.length_append]; rfl
    rw [e3]; omega
theorem Fw.goB {xs : List Cls} {p : List Lin} {ln : Nat → Rst → Lft × Rst} {a b : Nat} {h : Int} {OK : Nat → Prop} (hok : ∀ i, a ≤ i → i < b → OK i → bEnd p i < b → OK (bEnd p i)) (H : ∀ i s, a ≤ i → i < b → OK i → Gd xs s.2 → Hd h s → Fw xs s (ln i s)) :
    ∀ (k i : Nat) (s : Rst), a ≤ i → (i < b → OK i) → Gd xs s.2 → Hd h s → Fw xs s (goB ln p b k i s)
  | 0, i, s, _, _, g, _ => Fw.refl g (fun f e => by cases e)
  | k + 1, i, s, hai, ho, g, hh => by
    by_cases hib : i < b
    · have F := H i s hai hib (ho hib) g hh
      rcases hln : ln i s with ⟨l, s2⟩
      rw [hln] at F
      rcases l with _ | v | f | _ | _
      · rw [goB_nil hib k hln]
        exact F.trans (Fw.goB hok H k (bEnd p i) s2 (by have := bEnd_gt p i; omega) (fun hb => hok i hai hib (ho hib) hb) F.gd (F.hd hh))
      all_goals rw [goB_out hib k (by intro h; cases h) hln]; exact F
    · rw [goB_end hib]; exact Fw.refl g (fun f e => by cases e)
/-- blocks go on -/
def BFw (xs : List Cls) (p : List Lin) (blk : Bls) (C : Nat → Prop) : Prop := ∀ x h s, x < p.length → C x → Gd xs s.2 → Hd h s → Fw xs s (blk x h s)
theorem Fw.quiet {xs : List Cls} {s : Rst} {r : Lft × Rst} (F : Fw xs s r) (q : Bool) : Fw xs s (quiet q r.1, r.2) := by
  refine ⟨F.gd, F.lg, F.hs, fun f e => ?_⟩
  rcases hr : r.1 with _ | v | g | _ | _ <;> rw [hr] at e
  case rai =>
    cases q
    · have e2 : Lft.rai g = .rai f := e
      injection e2 with e2
      subst e2
      exact F.rai g hr
    · cases e
  all_goals cases e
theorem Fw.tell {xs : List Cls} {s : Rst} {l : Lft} {s2 : Rst} (F : Fw xs s (l, s2)) (x : Int) : Fw xs s (l, (s2.1 ++ [x], s2.2)) := ⟨F.gd, by have := F.lg; show s.1.length ≤ (s2.1 ++ [x]).length; rw [List.length_append]; simp at this ⊢; omega, F.hs, F.rai⟩
theorem Fw.tell0 {xs : List Cls} {s : Rst} {x : Int} {r : Lft × Rst} (F : Fw xs (s.1 ++ [x], s.2) r) : Fw xs s r := ⟨F.gd, by have := F.lg; rw [List.length_append] at this; simp at this; omega, F.hs, F.rai⟩
theorem Fw.loop {xs : List Cls} {p : List Lin} {blk : Bls} {C : Nat → Prop} (H : BFw xs p blk C) {i : Nat} (hi : i < p.length) (ho : C i) {h : Int} : ∀ n s, Gd xs s.2 → Hd h s → Fw xs s (loopN blk i h n s)
  | 0, s, g, _ => Fw.refl g (fun f e => by cases e)
  | n + 1, s, g, hh => by
    have F := H i h s hi ho g hh
    unfold loopN
    rcases hb : blk i h s with ⟨l, s2⟩
    rw [hb] at F
    rcases l with _ | v | f | _ | _
    · exact F.trans (Fw.loop H hi ho n s2 F.gd (F.hd hh))
    · exact F
    · exact F
    · exact ⟨F.gd, F.lg, F.hs, fun f e => by cases e⟩
    · exact F.trans (Fw.loop H hi ho n s2 F.gd (F.hd hh))
theorem prtG_mem {p : List Lin} {K : Int} : ∀ {L : List Nat} {x : Nat}, prtG p K L = some x → x ∈ L ∧ knd p x = K
  | [], _, h => by cases h
  | y :: r, x, h => by
    unfold prtG at h
    split at h
    · next c => injection h with h; subst h; exact ⟨List.mem_cons_self .., c⟩
    · have := prtG_mem h; exact ⟨List.mem_cons_of_mem _ this.1, this.2⟩
theorem prt_mem {p : List Lin} {i : Nat} {K : Int} {x : Nat} (h : prt p i K = some x) : x ∈ parts p i ∧ knd p x = K := prtG_mem h
theorem ctE_mem (xs : List Cls) (p : List Lin) (a : Int) : ∀ (E : List Nat), ctE xs p a E = -1 ∨ ∃ x ∈ E, ctE xs p a E = (x : Int)
  | [] => .inl rfl
  | x :: r => by
    unfold ctE
    split
    · exact .inr ⟨x, List.mem_cons_self .., rfl⟩
    · rcases ctE_mem xs p a r with h | ⟨y, hy, e⟩
      · exact .inl h
      · exact .inr ⟨y, List.mem_cons_of_mem _ hy, e⟩
theorem exL_mem {p : List Lin} {i x : Nat} (h : x ∈ exL p i) : x ∈ parts p i ∧ knd p x = 8 := by
  unfold exL exF at h
  have := List.mem_filter.1 h
  exact ⟨this.1, by simpa using this.2⟩
theorem Fw.mid {xs : List Cls} {p : List Lin} {blk : Bls} {C : Nat → Prop} (H : BFw xs p blk C) {i : Nat} (hi : i < p.length) {h : Int} (hC : ∀ x ∈ parts p i, C x) {s : Rst} {r : Lft × Rst} (F : Fw xs s r) (hh : Hd h s) : Fw xs s (midN blk xs p i h r) := by
  rcases r with ⟨l, s2⟩
  unfold midN
  rcases l with _ | v | f | _ | _
  · show Fw xs s (orN (prt p i 9) blk h (.nil, s2))
    unfold orN
    rcases hp : prt p i 9 with _ | x
    · exact F
    · have m := prt_mem hp
      exact F.trans (H x h s2 (parts_lt hi x m.1) (hC x m.1) F.gd (F.hd hh))
  · exact F
  · show Fw xs s (if _ then _ else _)
    split
    · next c =>
      rcases ctE_mem xs p (clsF s2 f) (exL p i) with e | ⟨x, hx, e⟩
      · exact absurd c (by show ¬ 0 ≤ ctE xs p (clsF s2 f) (exL p i); rw [e]; decide)
      · have m := exL_mem hx
        show Fw xs s (blk (ctE xs p (clsF s2 f) (exL p i)).toNat f s2)
        rw [e]
        exact F.trans (H x f s2 (parts_lt hi x m.1) (hC x m.1) F.gd (F.hdr rfl))
    · exact F
  · exact F
  · exact F
theorem Fw.last {xs : List Cls} {p : List Lin} {blk : Bls} {C : Nat → Prop} (H : BFw xs p blk C) {x : Nat} (hx : x < p.length) (ho : C x) {h : Int} {s : Rst} {r : Lft × Rst} (F : Fw xs s r) (hh : Hd h s) : Fw xs s (lasN blk x h r) := by
  have F2 := H x (hdN h r.1) r.2 hx ho F.gd (F.hdn hh)
  refine ⟨F2.gd, Nat.le_trans F.lg F2.lg, Nat.le_trans F.hs F2.hs, fun f e => ?_⟩
  have e2 : orElseL r.1 (blk x (hdN h r.1) r.2).1 = .rai f := e
  rcases hb : (blk x (hdN h r.1) r.2).1 with _ | v | g | _ | _ <;> rw [hb] at e2
  case nil =>
    have := F.rai f e2
    have := F2.hs
    show 0 ≤ f ∧ f < ((blk x (hdN h r.1) r.2).2.2.length : Int)
    omega
  case rai => exact F2.rai f (hb.trans e2)
  all_goals cases e2
theorem Fw.fin {xs : List Cls} {p : List Lin} {blk : Bls} {C : Nat → Prop} (H : BFw xs p blk C) {i : Nat} (hi : i < p.length) {h : Int} (hC : ∀ x ∈ parts p i, C x) {s : Rst} {r : Lft × Rst} (F : Fw xs s r) (hh : Hd h s) : Fw xs s (finN blk p i h r) := by
  unfold finN
  rcases hp : prt p i 10 with _ | x
  · exact F
  · have m := prt_mem hp
    exact F.last H (parts_lt hi x m.1) (hC x m.1) hh
theorem lineA_ok {xs : List Cls} {p : List Lin} (g : GoodP xs p) {i : Nat} (hi : i < p.length) (h2 : knd p i = 2) : hasK xs (lnA p i) = true := by
  have h := (g.line i hi).1
  rw [knd_at hi] at h2
  rw [lnA_at hi]
  unfold numS at h
  rw [h2, if_neg (by decide), if_pos rfl, Bool.and_eq_true] at h
  exact h.1
theorem hasK_root {xs : List Cls} {p : List Lin} (g : GoodP xs p) : hasK xs 0 = true := by
  have := (good_of g.tree).lo
  exact hasK_iff.2 ⟨by omega, by omega⟩
theorem Fw.step {xs : List Cls} {p : List Lin} (g : GoodP xs p) {blk : Bls} {C : Nat → Prop} (H : BFw xs p blk C) {i : Nat} (hi : i < p.length) {h : Int} (hC : ∀ x ∈ parts p i, C x) {s : Rst} (gd : Gd xs s.2) (hh : Hd h s) : Fw xs s (stepN blk xs p h i s) := by
  have hCi : C i := hC i (List.mem_cons_self ..)
  unfold stepN
  by_cases h1 : knd p i = 1
  · rw [if_pos h1]; exact (Fw.refl (l := .nil) gd (fun f e => by cases e)).tell _
  rw [if_neg h1]
  by_cases h2 : knd p i = 2
  · rw [if_pos h2]; exact Fw.raise gd (lineA_ok g hi h2) hh
  rw [if_neg h2]
  by_cases h3 : knd p i = 3
  · rw [if_pos h3]
    unfold againN
    split
    · exact Fw.raise gd (hasK_root g) hh
    · next c => exact ⟨gd, Nat.le_refl _, Nat.le_refl _, fun f e => by have e2 : Lft.rai h = .rai f := e; injection e2 with e2; subst e2; exact ⟨by omega, hh.2⟩⟩
  rw [if_neg h3]
  by_cases h4 : knd p i = 4
  · rw [if_pos h4]; exact Fw.refl gd (fun f e => by cases e)
  rw [if_neg h4]
  by_cases h5 : knd p i = 5
  · rw [if_pos h5]; exact Fw.refl gd (fun f e => by cases e)
  rw [if_neg h5]
  by_cases h6 : knd p i = 6
  · rw [if_pos h6]; exact Fw.refl gd (fun f e => by cases e)
  rw [if_neg h6]
  by_cases h7 : knd p i = 7
  · rw [if_pos h7]
    exact ((H i h s hi hCi gd hh).mid H hi hC hh).fin H hi hC hh
  rw [if_neg h7]
  by_cases h11 : knd p i = 11
  · rw [if_pos h11]
    have F := H i h (s.1 ++ [100 + lnA p i], s.2) hi hCi gd hh
    exact ((F.tell0.quiet _).tell _)
  rw [if_neg h11]
  by_cases h12 : knd p i = 12
  · rw [if_pos h12]; exact Fw.loop H hi hCi _ s gd hh
  rw [if_neg h12]
  exact Fw.refl gd (fun f e => by cases e)
/-- lines at a depth run so -/
def LFw (xs : List Cls) (p : List Lin) (N : Nat) : Prop := ∀ i h s, i < p.length → Gd xs s.2 → Hd h s → Fw xs s (lnN xs p N h i s)
theorem bfw_of {xs : List Cls} {p : List Lin} {N : Nat} (H : LFw xs p N) : BFw xs p (blN xs p N) (fun _ => True) := by
  intro x h s hx _ gd hh
  have hb := bEnd_le hx
  exact Fw.goB (OK := fun _ => True) (a := x + 1) (b := bEnd p x) (fun _ _ _ _ _ => trivial) (fun i s _ hib _ g hh => H i h s (by omega) g hh) 25 (x + 1) s (Nat.le_refl _) (fun _ => trivial) gd hh
theorem lfw_all {xs : List Cls} {p : List Lin} (g : GoodP xs p) : ∀ N, LFw xs p N
  | 0 => fun i h s _ gd _ => Fw.refl gd (fun f e => by cases e)
  | N + 1 => fun i h s hi gd hh => Fw.step g (bfw_of (lfw_all g N)) hi (fun _ _ => trivial) gd hh
end
end

end Go.Proofs.YtgjlmfjmjglplaaGreat
