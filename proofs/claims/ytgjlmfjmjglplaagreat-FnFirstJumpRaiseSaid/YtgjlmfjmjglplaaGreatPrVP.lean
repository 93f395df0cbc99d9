/- programs, plain: a run whose first jump raises what nobody catches ends with this fault alone (for FnFirstJumpRaise) -/
import Derived.Test.YtgjlmfjmjglplaaGreatPrUP
import Derived.Test.YtgjlmfjmjglplaaGreatFj21
import Derived.Test.YtgjlmfjmjglplaaGreatFj27
namespace Go.Proofs.YtgjlmfjmjglplaaGreat
open Go.RowKit
section
variable {xs : List Cls} {p : List Lin}
/-- it raises what a line says, with what is handled as its context -/
def Rz (p : List Lin) (x : Nat) (h : Int) (s : Rst) (r : Lft × Rst) : Prop := r.1 = .rai (s.2.length : Int) ∧ r.2.2 = s.2 ++ [⟨lnA p x, lnBc p x, -1, h, false⟩]
theorem Rz.of {x : Nat} {h : Int} {s s2 : Rst} {r : Lft × Rst} (a : Rz p x h s2 r) (e : s2.2 = s.2) : Rz p x h s r := by
  unfold Rz at a ⊢
  rw [e] at a
  exact a
/-- nothing catches a class on the way out of a line -/
def NoC (xs : List Cls) (p : List Lin) (x : Nat) (a : Int) : Prop := ∀ y, y < x → x < bEnd p y → ctAt xs p a y < 0
theorem gB_raiAll {ln : Nat → Rst → Lft × Rst} {a b x : Nat} {D : Int} {h : Int} (g : GoodP xs p) (hB : Blk p a b D) (HF : ∀ x s, fol (knd p x) = true → ln x s = (.nil, s))
    (H : ∀ i s, a ≤ i → i < b → dep p i = D → fol (knd p i) = false → scn p i (nx p i) = -1 → (ln i s).1 = .nil ∧ (ln i s).2.2 = s.2)
    (H2 : ∀ i s, a ≤ i → i < b → dep p i = D → fol (knd p i) = false → scn p i (nx p i) = (x : Int) → Rz p x h s (ln i s)) :
    ∀ (m i : Nat) (s : Rst), b ≤ m + i → a ≤ i → (i < b → dep p i = D ∧ fol (knd p i) = false) → scn p i b = (x : Int) → Rz p x h s (gB ln p b i s)
  | 0, i, s, hm, _, _, hs => by rw [scn_end (by omega)] at hs; omega
  | m + 1, i, s, hm, hai, hst, hs => by
    by_cases hib : i < b
    · have h0 := hst hib
      have hn := hB.nxt g hai hib h0.1 h0.2
      rw [scn_split hn.2.1 (nx p i) i (by omega) (by omega) (fun x h3 h4 => hB.inner g hai hib h0.1 h0.2 h3 h4)] at hs
      by_cases c : 0 ≤ scn p i (nx p i)
      · rw [if_pos c] at hs
        have e := H2 i s hai hib h0.1 h0.2 hs
        rcases hl : ln i s with ⟨l, s2⟩
        rw [hl] at e
        rw [gB_out hib (fun h => by rw [h] at e; exact absurd e.1 (by intro h; cases h)) hl]
        exact e
      · rw [if_neg c] at hs
        obtain ⟨e, e2⟩ := H i s hai hib h0.1 h0.2 (scn_neg c)
        rcases hl : ln i s with ⟨l, s2⟩
        rw [hl] at e e2
        replace e : l = .nil := e
        subst e
        rw [gB_step hB hai hib h0.1 HF hl]
        exact (gB_raiAll g hB HF H H2 m (nx p i) s2 (by omega) (by omega) hn.2.2 hs).of e2
    · rw [scn_end hib] at hs; omega
theorem bl_keep (g : GoodP xs p) (N : Nat) {y : Nat} (hy : y < p.length) (ho : opn (knd p y) = true) (hs : scn p (y + 1) (bEnd p y) = -1) (h : Int) (s : Rst) : (blN xs p N y h s).1 = .nil ∧ (blN xs p N y h s).2.2 = s.2 := by
  refine ⟨bl_nil g N hy ho hs h s, ?_⟩
  have hp := g.len
  have hbl := bEnd_le hy
  have e0 : blN xs p N y h s = gB (lnN xs p N h) p (bEnd p y) (y + 1) s := gB_of _ _ 25 (by omega)
  rw [e0]
  have hB := Blk.of g hy ho
  exact gB_keep g hB (fun y s hf => lnN_fol xs p N h y s hf) (fun y s _ hyb _ hf hsy => ⟨line_nil g N y h s (by omega) hf hsy, line_keep g N y h s (by omega) hf hsy⟩) (bEnd p y) (y + 1) s (by omega) (Nat.le_refl _) hB.first hs
theorem fin_rai (g : GoodP xs p) (N : Nat) {i x : Nat} (hi : i < p.length) (h7 : knd p i = 7) (h : Int) {s : Rst} {r : Lft × Rst} (hr : Rz p x h s r) (H : ∀ z ∈ parts p i, knd p z = 10 → scn p (z + 1) (bEnd p z) = -1) : Rz p x h s (finN (blN xs p N) p i h r) := by
  rcases r with ⟨l, s2⟩
  obtain ⟨hl, h2⟩ := hr
  replace hl : l = .rai (s.2.length : Int) := hl
  replace h2 : s2.2 = s.2 ++ [⟨lnA p x, lnBc p x, -1, h, false⟩] := h2
  subst hl
  unfold finN
  rcases hp : prt p i 10 with _ | z
  · exact ⟨rfl, h2⟩
  · have m := prt_mem hp
    obtain ⟨e1, e2⟩ := bl_keep (xs := xs) g N (parts_lt hi z m.1) (opn_part hi h7 m.1).1 (H z m.1 m.2) (s.2.length : Int) s2
    refine ⟨?_, ?_⟩
    · show orElseL (.rai (s.2.length : Int)) (blN xs p N z (s.2.length : Int) s2).1 = _
      rw [e1]; rfl
    · show (blN xs p N z (s.2.length : Int) s2).2.2 = _
      rw [e2]; exact h2
theorem mid_rai {blk : Bls} {i x : Nat} {h h0 : Int} {s : Rst} {r : Lft × Rst} (hr : Rz p x h s r) (hc : ctE xs p (lnA p x) (exL p i) < 0) : midN blk xs p i h0 r = r := by
  rcases r with ⟨l, s2⟩
  obtain ⟨hl, h2⟩ := hr
  replace hl : l = .rai (s.2.length : Int) := hl
  replace h2 : s2.2 = s.2 ++ [⟨lnA p x, lnBc p x, -1, h, false⟩] := h2
  subst hl
  have e : clsF s2 (s.2.length : Int) = lnA p x := by
    unfold clsF
    rw [h2, Int.toNat_natCast, List.getElem?_append_right (Nat.le_refl _)]
    simp
  unfold midN
  show (if 0 ≤ ctE xs p (clsF s2 (s.2.length : Int)) (exL p i) then _ else _) = _
  rw [e, if_neg (by omega)]
theorem line_rai (g : GoodP xs p) {x : Nat} (hx : knd p x = 2) (HQ : FinQ p x) (HC : NoC xs p x (lnA p x)) : ∀ (N : Nat) (i : Nat) (h : Int) (s : Rst), i < p.length → 6 ≤ dep p i + (N : Int) → fol (knd p i) = false → scn p i (nx p i) = (x : Int) → Rz p x h s (lnN xs p N h i s)
  | 0, i, h, s, hi, hN, _, _ => by
    have := (g.line i hi).2.1.1.2
    have e : dep p i ≤ 5 := this
    omega
  | N + 1, i, h, s, hi, hN, hf, hs => by
    have HB : ∀ y, y < p.length → dep p y = dep p i → opn (knd p y) = true → scn p (y + 1) (bEnd p y) = (x : Int) → ∀ h s, Rz p x h s (blN xs p N y h s) := fun y hy hd ho hsy h s => by
      have hp := g.len
      have hbl := bEnd_le hy
      have e0 : blN xs p N y h s = gB (lnN xs p N h) p (bEnd p y) (y + 1) s := gB_of _ _ 25 (by omega)
      rw [e0]
      have hB := Blk.of g hy ho
      exact gB_raiAll g hB (fun z s hf => lnN_fol xs p N h z s hf) (fun z s _ hzb _ hf hsz => ⟨line_nil g N z h s (by omega) hf hsz, line_keep g N z h s (by omega) hf hsz⟩) (fun z s _ hzb hdz hf hsz => line_rai g hx HQ HC N z h s (by omega) (by omega) hf hsz) (bEnd p y) (y + 1) s (by omega) (Nat.le_refl _) hB.first hsy
    have hgi := bEnd_gt p i
    have hnx : i < nx p i := by
      unfold nx
      split
      · have := parts_ge hi (lstP_mem p i); have := bEnd_gt p (lstP p i); omega
      · exact hgi
    have hs0 := hs
    rw [scn_at hnx] at hs
    rw [lnN_succ]
    unfold stepN
    by_cases hj : jmpK (knd p i) = true
    · rw [if_pos hj] at hs
      obtain rfl : i = x := by omega
      rw [if_neg (by omega), if_pos hx]
      exact ⟨rfl, rfl⟩
    rw [if_neg hj] at hs
    have hj2 : ¬ (2 ≤ knd p i ∧ knd p i ≤ 6) := fun h => hj (jmpK_iff.2 h)
    by_cases h7 : knd p i = 7
    · rw [if_neg (by omega), if_neg (by omega), if_neg (by omega), if_neg (by omega), if_neg (by omega), if_neg (by omega), if_pos h7]
      have h0 : 0 < (parts p i).length := List.length_pos_of_mem (List.mem_cons_self (a := i) (l := ptGo p (dep p i) p.length i))
      obtain ⟨k, hk, -, k8, ks, kb⟩ := parts_ret g hi h7 (parts p i).length 0 h0 (by omega) hs0
      have hm : (parts p i)[k] ∈ parts p i := List.getElem_mem _
      have ho := opn_part hi h7 hm
      have hd := (partsF hi hm).2.2
      have hyl := parts_lt hi _ hm
      have hge := parts_ge hi hm
      have hR := HB _ hyl hd ho.1 ks
      -- where the line that jumps is
      have hxy : (parts p i)[k] < x ∧ x < bEnd p (parts p i)[k] := by
        obtain ⟨x2, e1, e2, e3, _⟩ := scn_out (p := p) (bEnd_le hyl) (bEnd p (parts p i)[k]) ((parts p i)[k] + 1) (by omega) (by rw [ks]; omega)
        rw [ks] at e1
        omega
      have hFin : knd p (parts p i)[k] ≠ 10 → ∀ z ∈ parts p i, knd p z = 10 → scn p (z + 1) (bEnd p z) = -1 := fun k10 z hz hz10 => by
        refine HQ i z hi h7 hz hz10 (by omega) ?_
        obtain ⟨b, hb, rfl⟩ := List.getElem_of_mem hz
        have hkb : k < b := by
          rcases Nat.lt_trichotomy k b with c | c | c
          · exact c
          · subst c; exact absurd hz10 k10
          · have := parts_aft hb (.inr hz10) k hk c; omega
        have := parts_sep hm hz (List.pairwise_iff_getElem.1 (partsF_asc p i) _ _ hk hb hkb)
        omega
      unfold tryN
      -- the blocks ahead
      have hP : ∀ j (hj : j < k), knd p (parts p i)[j] ≠ 8 → ∀ h s, (blN xs p N (parts p i)[j] h s).1 = .nil ∧ (blN xs p N (parts p i)[j] h s).2.2 = s.2 := fun j hj h8 h s => by
        have hmj : (parts p i)[j] ∈ parts p i := List.getElem_mem _
        exact bl_keep g N (parts_lt hi _ hmj) (opn_part hi h7 hmj).1 (kb j hj (Nat.zero_le _) h8) h s
      by_cases ek : k = 0
      · subst ek
        have e1 : Rz p x h s (blN xs p N i h s) := hR h s
        have hc : ctE xs p (lnA p x) (exL p i) < 0 := by
          have := HC i (by have := hxy.1; exact this) (by have := hxy.2; exact this)
          unfold ctAt at this
          rw [if_pos h7] at this
          exact this
        rw [mid_rai e1 hc]
        exact fin_rai g N hi h7 h e1 (hFin (by show knd p i ≠ 10; rw [h7]; decide))
      · obtain ⟨e1, e1b⟩ : (blN xs p N i h s).1 = .nil ∧ (blN xs p N i h s).2.2 = s.2 := hP 0 (by omega) (by show knd p i ≠ 8; rw [h7]; decide) h s
        rcases hb : blN xs p N i h s with ⟨l, s1⟩
        rw [hb] at e1 e1b
        replace e1 : l = .nil := e1
        replace e1b : s1.2 = s.2 := e1b
        subst e1
        -- what may come behind
        have k9 : knd p (parts p i)[k] = 9 ∨ knd p (parts p i)[k] = 10 := by
          obtain ⟨k, rfl⟩ : ∃ k', k = k' + 1 := ⟨k - 1, by omega⟩
          have := mayF_iff.1 (parts_may hk)
          omega
        rcases k9 with k9 | k9
        · have hp := prt_one (K := 9) (.inl rfl) hm k9
          refine fin_rai g N hi h7 h ?_ (hFin (by omega))
          show Rz p x h s (orN (prt p i 9) (blN xs p N) h (.nil, s1))
          rw [hp]
          exact (hR h s1).of e1b
        · have e2 : (midN (blN xs p N) xs p i h (.nil, s1)).1 = .nil ∧ (midN (blN xs p N) xs p i h (.nil, s1)).2.2 = s1.2 := by
            show (orN (prt p i 9) (blN xs p N) h (.nil, s1)).1 = .nil ∧ (orN (prt p i 9) (blN xs p N) h (.nil, s1)).2.2 = s1.2
            unfold orN
            rcases hp : prt p i 9 with _ | z
            · exact ⟨rfl, rfl⟩
            · have m := prt_mem hp
              obtain ⟨b, hb, rfl⟩ := List.getElem_of_mem m.1
              have hbk : b < k := by
                rcases Nat.lt_trichotomy k b with c | c | c
                · have := parts_aft hk (.inr k9) b hb c; omega
                · subst c; omega
                · exact c
              exact hP b hbk (by rw [m.2]; decide) h s1
          generalize midN (blN xs p N) xs p i h (.nil, s1) = r at *
          rcases r with ⟨l, s2⟩
          obtain ⟨e2, e2b⟩ := e2
          replace e2 : l = .nil := e2
          replace e2b : s2.2 = s1.2 := e2b
          subst e2
          unfold finN
          rw [prt_one (K := 10) (.inr rfl) hm k9]
          have e3 := (hR h s2).of (e2b.trans e1b)
          refine ⟨?_, e3.2⟩
          show orElseL .nil (blN xs p N (parts p i)[k] h s2).1 = _
          rw [e3.1]; rfl
    have h8 : knd p i ≠ 8 := fun e => by rw [e] at hf; cases hf
    have hnb : nx p i = bEnd p i := by unfold nx; rw [if_neg h7]
    rw [hnb] at hs
    by_cases hl : lpz p i = true
    · rw [if_pos (.inr hl), scn_end (by omega)] at hs; omega
    rw [if_neg (by simp [h8, hl])] at hs
    by_cases hop : opn (knd p i) = true
    · have hR := HB i hi rfl hop hs
      have hk := opn_iff.1 hop
      have hff := fol_iff (k := knd p i)
      have : ¬ (8 ≤ knd p i ∧ knd p i ≤ 10) := fun c => by rw [hff.2 c] at hf; cases hf
      rw [if_neg (by omega), if_neg (by omega), if_neg (by omega), if_neg (by omega), if_neg (by omega), if_neg (by omega), if_neg h7]
      by_cases h11 : knd p i = 11
      · rw [if_pos h11]
        have hb1 : lnBc p i ≠ 1 := fun e => by
          obtain ⟨x2, f1, f2, f3, _⟩ := scn_out (p := p) (bEnd_le hi) (bEnd p i) (i + 1) (by omega) (by rw [hs]; omega)
          rw [hs] at f1
          have := HC i (by omega) (by omega)
          unfold ctAt at this
          rw [if_neg h7, if_pos ⟨h11, e⟩] at this
          omega
        have e1 := hR h (s.1 ++ [100 + lnA p i], s.2)
        refine ⟨?_, e1.2⟩
        show quiet (decide (lnBc p i = 1)) (blN xs p N i h (s.1 ++ [100 + lnA p i], s.2)).1 = _
        rw [e1.1, decide_eq_false hb1]; rfl
      · have h12 : knd p i = 12 := by omega
        rw [if_neg h11, if_pos h12]
        have ha : lnA p i ≠ 0 := fun e => hl (by unfold lpz; simp [h12, e])
        have hA : 0 ≤ lnA p i := by
          have hlo := (g.line i hi).1
          rw [knd_at hi] at h12
          have e : lnA p i = p[i].a := by unfold lnA; rw [List.getElem?_eq_getElem hi]
          rw [e]
          unfold numS at hlo
          rw [h12] at hlo
          rw [if_neg (by decide), if_neg (by decide), if_neg (by decide), if_neg (by decide), if_pos rfl, Bool.and_eq_true] at hlo
          exact (rng_iff.1 hlo.1).1
        obtain ⟨n, hn⟩ : ∃ n, (lnA p i).toNat = n + 1 := ⟨(lnA p i).toNat - 1, by omega⟩
        rw [hn]
        have e1 := hR h s
        rcases hb : blN xs p N i h s with ⟨l, s1⟩
        rw [hb] at e1
        obtain ⟨e1, e2⟩ := e1
        replace e1 : l = .rai (s.2.length : Int) := e1
        subst e1
        unfold loopN
        rw [hb]
        exact ⟨rfl, e2⟩
    · -- a line with no block
      have hB1 : bEnd p i = i + 1 := bEndF_one g hi (by simpa using hop)
      rw [hB1, scn_end (by omega)] at hs; omega
theorem coF_neg {a : Int} : ∀ {L : List Nat}, coF xs p a L < 0 → ∀ y ∈ L, ctAt xs p a y < 0
  | [], _, y, hy => by cases hy
  | z :: r, h, y, hy => by
    have h2 : (if 0 ≤ ctAt xs p a z then ctAt xs p a z else coF xs p a r) < 0 := h
    by_cases c : 0 ≤ ctAt xs p a z
    · rw [if_pos c] at h2; omega
    · rw [if_neg c] at h2
      rcases List.mem_cons.1 hy with rfl | hy
      · omega
      · exact coF_neg h2 y hy
theorem noC_of {x : Nat} {a : Int} (hx : x < p.length) (h : coF xs p a (encl p x) < 0) : NoC xs p x a := fun y h1 h2 => coF_neg h y ((encl_mem hx).2 ⟨h1, h2⟩)
/-- what nobody catches comes out -/
theorem run_rai (g : GoodP xs p) {x : Nat} (h : scn p 0 p.length = (x : Int)) (hx : knd p x = 2) (HQ : FinQ p x) (HC : NoC xs p x (lnA p x)) : (runI xs p).1 = .rai 0 ∧ (runI xs p).2.2 = [⟨lnA p x, lnBc p x, -1, -1, false⟩] := by
  have hp := g.len
  have e0 : runI xs p = gB (lnN xs p 6 (-1)) p p.length 0 ([], []) := gB_of 0 ([], []) 25 (by omega)
  rw [e0]
  have hB := Blk.all g
  exact gB_raiAll g hB (fun x s hf => lnN_fol xs p 6 (-1) x s hf) (fun i s _ hib _ hf hs => ⟨line_nil g 6 i (-1) s hib hf hs, line_keep g 6 i (-1) s hib hf hs⟩) (fun i s _ hib hd hf hs => line_rai g hx HQ HC 6 i (-1) s hib (by omega) hf hs) p.length 0 ([], []) (by omega) (Nat.le_refl _) hB.first h
end
end Go.Proofs.YtgjlmfjmjglplaaGreat
