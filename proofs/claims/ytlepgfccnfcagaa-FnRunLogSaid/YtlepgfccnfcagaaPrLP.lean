/- programs, plain: what is told does not change how a program runs (for FnRunLog) -/
import Derived.Test.YtlepgfccnfcagaaWp12
namespace Go.Proofs.Ytlepgfccnfcagaa
open Go.RowKit
section
variable {xs : List Cls} {p q : List Lin}
/-- a program with other numbers that are told -/
structure Qr (p q : List Lin) : Prop where
  len : q.length = p.length
  d : ∀ i, dep q i = dep p i
  k : ∀ i, knd q i = knd p i
  b : ∀ i, lnBc q i = lnBc p i
  a : ∀ i, knd p i ≠ 1 → lnA q i = lnA p i
  a1 : ∀ i, knd p i = 1 → lnA q i = 99 - lnA p i
theorem Qr.bGo (h : Qr p q) (d : Int) : ∀ m k, bGo q d m k = bGo p d m k
  | 0, k => rfl
  | m + 1, k => by
    unfold Go.Proofs.Ytlepgfccnfcagaa.bGo
    rw [h.d, h.bGo d m (k + 1)]
theorem Qr.bEnd (h : Qr p q) (i : Nat) : bEnd q i = bEnd p i := by
  unfold Go.Proofs.Ytlepgfccnfcagaa.bEnd
  rw [h.d, h.len, h.bGo]
theorem Qr.ptGo (h : Qr p q) (d : Int) : ∀ m k, ptGo q d m k = ptGo p d m k
  | 0, k => rfl
  | m + 1, k => by
    unfold Go.Proofs.Ytlepgfccnfcagaa.ptGo
    rw [h.bEnd, h.d, h.k, h.k, h.len, h.ptGo d m]
theorem Qr.parts (h : Qr p q) (i : Nat) : parts q i = parts p i := by
  unfold Go.Proofs.Ytlepgfccnfcagaa.parts
  rw [h.d, h.len, h.ptGo]
theorem Qr.exL (h : Qr p q) (i : Nat) : exL q i = exL p i := by
  unfold Go.Proofs.Ytlepgfccnfcagaa.exL exF
  rw [h.parts]
  exact List.filter_congr fun x _ => by rw [h.k]
theorem Qr.ctE (h : Qr p q) (a : Int) : ∀ E : List Nat, (∀ x ∈ E, knd p x = 8) → ctE xs q a E = ctE xs p a E
  | [], _ => rfl
  | x :: r, hE => by
    unfold Go.Proofs.Ytlepgfccnfcagaa.ctE
    rw [h.a x (by rw [hE x (List.mem_cons_self ..)]; decide), h.ctE a r (fun y hy => hE y (List.mem_cons_of_mem _ hy))]
theorem Qr.prtG (h : Qr p q) (K : Int) : ∀ L : List Nat, prtG q K L = prtG p K L
  | [] => rfl
  | x :: r => by
    unfold Go.Proofs.Ytlepgfccnfcagaa.prtG
    rw [h.k, h.prtG K r]
theorem Qr.prt (h : Qr p q) (i : Nat) (K : Int) : prt q i K = prt p i K := by
  unfold Go.Proofs.Ytlepgfccnfcagaa.prt
  rw [h.parts, h.prtG]
/-- a number that is told, or what it is changed to -/
def Rl (a b : Int) : Prop := b = a ∨ b = 99 - a
structure Sr (s s' : Rst) : Prop where
  hs : s'.2 = s.2
  len : s'.1.length = s.1.length
  el : ∀ k (h : k < s.1.length) (h' : k < s'.1.length), Rl s.1[k] s'.1[k]
theorem Sr.snoc {s s' : Rst} (r : Sr s s') {x y : Int} (h : Rl x y) : Sr (s.1 ++ [x], s.2) (s'.1 ++ [y], s'.2) := by
  refine ⟨r.hs, ?_, fun k h1 h2 => ?_⟩
  · show (s'.1 ++ [y]).length = (s.1 ++ [x]).length
    rw [List.length_append, List.length_append, r.len]; rfl
  · have e1 : (s.1 ++ [x]).length = s.1.length + 1 := by rw [List.length_append]; rfl
    have h3 : k < s.1.length + 1 := by rw [← e1]; exact h1
    show Rl (s.1 ++ [x])[k] (s'.1 ++ [y])[k]
    by_cases c : k < s.1.length
    · rw [List.getElem_append_left c, List.getElem_append_left (by rw [r.len]; exact c)]
      exact r.el k c _
    · obtain rfl : k = s.1.length := by omega
      rw [List.getElem_append_right (Nat.le_refl _), List.getElem_append_right (by rw [r.len]; exact Nat.le_refl _)]
      simp only [r.len, Nat.sub_self, List.getElem_cons_zero]
      exact h
theorem Sr.fl {s s' : Rst} (r : Sr s s') (t : List Flt) : Sr (s.1, s.2 ++ t) (s'.1, s'.2 ++ t) := ⟨by show s'.2 ++ t = s.2 ++ t; rw [r.hs], r.len, r.el⟩
def RR (r r' : Lft × Rst) : Prop := r'.1 = r.1 ∧ Sr r.2 r'.2
theorem goB_R (h : Qr p q) {ln ln' : Nat → Rst → Lft × Rst} {b : Nat} (H : ∀ i s s', Sr s s' → RR (ln i s) (ln' i s')) : ∀ k i s s', Sr s s' → RR (goB ln p b k i s) (goB ln' q b k i s')
  | 0, i, s, s', r => ⟨rfl, r⟩
  | k + 1, i, s, s', r => by
    by_cases hib : i < b
    · have h1 := H i s s' r
      rcases hl : ln i s with ⟨l, s2⟩
      rcases hl' : ln' i s' with ⟨l', s2'⟩
      rw [hl, hl'] at h1
      obtain ⟨e, r2⟩ := h1
      replace e : l' = l := e
      subst e
      by_cases en : l' = .nil
      · subst en
        rw [goB_nil hib k hl, goB_nil hib k hl', h.bEnd]
        exact goB_R h H k _ s2 s2' r2
      · rw [goB_out hib k en hl, goB_out hib k en hl']
        exact ⟨rfl, r2⟩
    · rw [goB_end hib, goB_end hib]; exact ⟨rfl, r⟩
def BR (blk blk' : Bls) : Prop := ∀ x h s s', Sr s s' → RR (blk x h s) (blk' x h s')
theorem rsN_R {s s' : Rst} (r : Sr s s') (c k h : Int) : RR (rsN c k h s) (rsN c k h s') := by
  refine ⟨?_, r.fl _⟩
  show Lft.rai (s'.2.length : Int) = .rai (s.2.length : Int)
  rw [r.hs]
theorem loop_R {blk blk' : Bls} (H : BR blk blk') (i : Nat) (h : Int) : ∀ n s s', Sr s s' → RR (loopN blk i h n s) (loopN blk' i h n s')
  | 0, s, s', r => ⟨rfl, r⟩
  | n + 1, s, s', r => by
    have h1 := H i h s s' r
    rcases hb : blk i h s with ⟨l, s2⟩
    rcases hb' : blk' i h s' with ⟨l', s2'⟩
    rw [hb, hb'] at h1
    obtain ⟨e, r2⟩ := h1
    replace e : l' = l := e
    subst e
    unfold loopN
    rw [hb, hb']
    rcases l' with _ | v | f | _ | _
    · exact loop_R H i h n s2 s2' r2
    · exact ⟨rfl, r2⟩
    · exact ⟨rfl, r2⟩
    · exact ⟨rfl, r2⟩
    · exact loop_R H i h n s2 s2' r2
theorem mid_R (h : Qr p q) {blk blk' : Bls} (H : BR blk blk') (i : Nat) (hd : Int) {r r' : Lft × Rst} (R : RR r r') : RR (midN blk xs p i hd r) (midN blk' xs q i hd r') := by
  rcases r with ⟨l, s⟩
  rcases r' with ⟨l', s'⟩
  obtain ⟨e, R2⟩ := R
  replace e : l' = l := e
  subst e
  replace R2 : Sr s s' := R2
  unfold midN
  rcases l' with _ | v | f | _ | _
  · show RR (orN (prt p i 9) blk hd (.nil, s)) (orN (prt q i 9) blk' hd (.nil, s'))
    unfold orN
    rw [h.prt]
    rcases prt p i 9 with _ | x
    · exact ⟨rfl, R2⟩
    · exact H x hd s s' R2
  · exact ⟨rfl, R2⟩
  · show RR (if 0 ≤ ctE xs p (clsF s f) (exL p i) then blk (ctE xs p (clsF s f) (exL p i)).toNat f s else (.rai f, s)) (if 0 ≤ ctE xs q (clsF s' f) (exL q i) then blk' (ctE xs q (clsF s' f) (exL q i)).toNat f s' else (.rai f, s'))
    have e1 : clsF s' f = clsF s f := by unfold clsF; rw [R2.hs]
    rw [e1, h.exL, h.ctE _ _ (fun x hx => (exL_mem hx).2)]
    split
    · exact H _ f s s' R2
    · exact ⟨rfl, R2⟩
  · exact ⟨rfl, R2⟩
  · exact ⟨rfl, R2⟩
theorem fin_R (h : Qr p q) {blk blk' : Bls} (H : BR blk blk') (i : Nat) (hd : Int) {r r' : Lft × Rst} (R : RR r r') : RR (finN blk p i hd r) (finN blk' q i hd r') := by
  unfold finN
  rw [h.prt]
  rcases prt p i 10 with _ | x
  · exact R
  · rcases r with ⟨l, s⟩
    rcases r' with ⟨l', s'⟩
    obtain ⟨e, R2⟩ := R
    replace e : l' = l := e
    subst e
    have h1 := H x (hdN hd l') s s' R2
    exact ⟨by show orElseL l' (blk' x (hdN hd l') s').1 = orElseL l' (blk x (hdN hd l') s).1; rw [h1.1], h1.2⟩
theorem step_R (h : Qr p q) {blk blk' : Bls} (H : BR blk blk') (hd : Int) (i : Nat) {s s' : Rst} (r : Sr s s') : RR (stepN blk xs p hd i s) (stepN blk' xs q hd i s') := by
  unfold stepN
  rw [h.k]
  by_cases h1 : knd p i = 1
  · rw [if_pos h1, if_pos h1]
    exact ⟨rfl, r.snoc (.inr (h.a1 i h1))⟩
  rw [if_neg h1, if_neg h1, h.a i h1, h.b]
  by_cases h2 : knd p i = 2
  · rw [if_pos h2, if_pos h2]; exact rsN_R r _ _ _
  rw [if_neg h2, if_neg h2]
  by_cases h3 : knd p i = 3
  · rw [if_pos h3, if_pos h3]
    unfold againN
    split
    · exact rsN_R r _ _ _
    · exact ⟨rfl, r⟩
  rw [if_neg h3, if_neg h3]
  by_cases h4 : knd p i = 4
  · rw [if_pos h4, if_pos h4]; exact ⟨rfl, r⟩
  rw [if_neg h4, if_neg h4]
  by_cases h5 : knd p i = 5
  · rw [if_pos h5, if_pos h5]; exact ⟨rfl, r⟩
  rw [if_neg h5, if_neg h5]
  by_cases h6 : knd p i = 6
  · rw [if_pos h6, if_pos h6]; exact ⟨rfl, r⟩
  rw [if_neg h6, if_neg h6]
  by_cases h7 : knd p i = 7
  · rw [if_pos h7, if_pos h7]
    exact fin_R h H i hd (mid_R h H i hd (H i hd s s' r))
  rw [if_neg h7, if_neg h7]
  by_cases h11 : knd p i = 11
  · rw [if_pos h11, if_pos h11]
    unfold withN
    rw [h.a i h1, h.b]
    have h1 := H i hd (s.1 ++ [100 + lnA p i], s.2) (s'.1 ++ [100 + lnA p i], s'.2) (r.snoc (.inl rfl))
    exact ⟨by show quiet _ _ = quiet _ _; rw [h1.1], h1.2.snoc (.inl rfl)⟩
  rw [if_neg h11, if_neg h11]
  by_cases h12 : knd p i = 12
  · rw [if_pos h12, if_pos h12]; exact loop_R H i hd _ s s' r
  rw [if_neg h12, if_neg h12]
  exact ⟨rfl, r⟩
theorem line_R (h : Qr p q) : ∀ N hd i s s', Sr s s' → RR (lnN xs p N hd i s) (lnN xs q N hd i s')
  | 0, hd, i, s, s', r => ⟨rfl, r⟩
  | N + 1, hd, i, s, s', r => by
    rw [lnN_succ, lnN_succ]
    refine step_R h (fun x hd s s' r => ?_) hd i r
    unfold blN
    rw [h.bEnd]
    exact goB_R h (fun i s s' r => line_R h N hd i s s' r) 25 (x + 1) s s' r
/-- with other numbers that are told a program tells as many, and each the same or the changed one, and ends the same -/
theorem run_R (h : Qr p q) : (runI xs q).1 = (runI xs p).1 ∧ (runI xs q).2.2 = (runI xs p).2.2 ∧ (runI xs q).2.1.length = (runI xs p).2.1.length ∧ ∀ k (h1 : k < (runI xs p).2.1.length) (h2 : k < (runI xs q).2.1.length), Rl (runI xs p).2.1[k] (runI xs q).2.1[k] := by
  have hr : RR (runI xs p) (runI xs q) := by
    unfold runI
    rw [h.len]
    exact goB_R h (fun i s s' r => line_R h 6 (-1) i s s' r) 25 0 ([], []) ([], []) ⟨rfl, rfl, fun k h => absurd h (Nat.not_lt_zero _)⟩
  exact ⟨hr.1, hr.2.hs, hr.2.len, hr.2.el⟩
end
end Go.Proofs.Ytlepgfccnfcagaa
