/- programs, plain: a run whose first jump is a return ends with what it returns (for FnFirstJumpReturn) -/
import Derived.Test.YtgjlmfjmjglplaaGreatFj29
namespace Go.Proofs.YtgjlmfjmjglplaaGreat
open Go.RowKit
section
variable {xs : List Cls} {p : List Lin}
theorem ptGo_may (p : List Lin) (d : Int) : ∀ m k n (h : n < (ptGo p d m k).length), mayF (knd p ((k :: ptGo p d m k)[n]'(by rw [List.length_cons]; omega))) (knd p (ptGo p d m k)[n]) = true
  | 0, k, n, h => by cases h
  | m + 1, k, n, h => by
    by_cases c : bEnd p k < p.length ∧ dep p (bEnd p k) = d ∧ mayF (knd p k) (knd p (bEnd p k)) = true
    · have e : ptGo p d (m + 1) k = bEnd p k :: ptGo p d m (bEnd p k) := if_pos c
      have key : ∀ (L : List Nat), L = bEnd p k :: ptGo p d m (bEnd p k) → ∀ (h : n < L.length), mayF (knd p ((k :: L)[n]'(by rw [List.length_cons]; omega))) (knd p L[n]) = true := by
        rintro L rfl h
        cases n with
        | zero => exact c.2.2
        | succ n => exact ptGo_may p d m (bEnd p k) n (by simpa using h)
      exact key _ e h
    · have e : ptGo p d (m + 1) k = [] := if_neg c
      rw [e] at h; cases h
theorem parts_may {j n : Nat} (h : n + 1 < (parts p j).length) : mayF (knd p (parts p j)[n]) (knd p (parts p j)[n + 1]) = true := by
  have h2 : n < (ptGo p (dep p j) p.length j).length := by unfold parts at h; simpa using h
  exact ptGo_may p (dep p j) p.length j n h2
/-- behind an else only the last line -/
theorem parts_aft {j n : Nat} (hn : n < (parts p j).length) (h9 : knd p (parts p j)[n] = 9 ∨ knd p (parts p j)[n] = 10) : ∀ m (hm : m < (parts p j).length), n < m → knd p (parts p j)[m] = 10 ∧ knd p (parts p j)[n] = 9
  | 0, hm, h => absurd h (by omega)
  | m + 1, hm, h => by
    have hy := mayF_iff.1 (parts_may hm)
    by_cases e : n = m
    · subst e; omega
    · have ih := parts_aft hn h9 m (by omega) (by omega)
      omega
theorem prtG_some {K : Int} : ∀ {L : List Nat} {y : Nat}, y ∈ L → knd p y = K → ∃ z, prtG p K L = some z
  | [], y, h, _ => by cases h
  | x :: r, y, h, hk => by
    show ∃ z, (if knd p x = K then some x else prtG p K r) = some z
    by_cases c : knd p x = K
    · exact ⟨x, if_pos c⟩
    · rw [if_neg c]
      rcases List.mem_cons.1 h with rfl | h
      · exact absurd hk c
      · exact prtG_some h hk
/-- of the lines of a try at most one is an else, and at most one a finally -/
theorem prt_one {i y : Nat} {K : Int} (hK : K = 9 ∨ K = 10) (hy : y ∈ parts p i) (hk : knd p y = K) : prt p i K = some y := by
  obtain ⟨z, hz⟩ := prtG_some hy hk
  have m := prt_mem (i := i) hz
  obtain ⟨a, ha, rfl⟩ := List.getElem_of_mem hy
  obtain ⟨b, hb, rfl⟩ := List.getElem_of_mem m.1
  rw [show prt p i K = some (parts p i)[b] from hz]
  rcases Nat.lt_trichotomy a b with c | c | c
  · have := parts_aft ha (by omega) b hb c; omega
  · subst c; rfl
  · have := parts_aft hb (by omega) a ha c; omega
/-- among the lines of a try the one whose block has the first jump -/
theorem parts_ret (g : GoodP xs p) {i x : Nat} (hi : i < p.length) (h7 : knd p i = 7) : ∀ (m n : Nat) (hn : n < (parts p i).length), (parts p i).length ≤ m + n → scn p (parts p i)[n] (nx p i) = (x : Int) →
    ∃ (k : Nat) (hk : k < (parts p i).length), n ≤ k ∧ knd p (parts p i)[k] ≠ 8 ∧ scn p ((parts p i)[k] + 1) (bEnd p (parts p i)[k]) = (x : Int) ∧ ∀ j (hj : j < k), n ≤ j → knd p (parts p i)[j] ≠ 8 → scn p ((parts p i)[j] + 1) (bEnd p (parts p i)[j]) = -1
  | 0, n, hn, h, _ => absurd hn (by omega)
  | m + 1, n, hn, h, hs => by
    have hm : (parts p i)[n] ∈ parts p i := List.getElem_mem _
    have hxl := parts_lt hi _ hm
    have ho := opn_part hi h7 hm
    have he := parts_end h7 hm
    have hg := bEnd_gt p (parts p i)[n]
    have hB := Blk.of g hxl ho.1
    -- what is left behind the block
    have rest : scn p (bEnd p (parts p i)[n]) (nx p i) = (x : Int) → (knd p (parts p i)[n] ≠ 8 → scn p ((parts p i)[n] + 1) (bEnd p (parts p i)[n]) = -1) → ∃ (k : Nat) (hk : k < (parts p i).length), n ≤ k ∧ knd p (parts p i)[k] ≠ 8 ∧ scn p ((parts p i)[k] + 1) (bEnd p (parts p i)[k]) = (x : Int) ∧ ∀ j (hj : j < k), n ≤ j → knd p (parts p i)[j] ≠ 8 → scn p ((parts p i)[j] + 1) (bEnd p (parts p i)[j]) = -1 := fun h1 h2 => by
      by_cases hl : n + 1 < (parts p i).length
      · rw [← parts_link hl] at h1
        obtain ⟨k, hk, a1, a2, a3, a4⟩ := parts_ret g hi h7 m (n + 1) hl (by omega) h1
        refine ⟨k, hk, by omega, a2, a3, fun j hj hnj h8 => ?_⟩
        by_cases e : n = j
        · subst e; exact h2 h8
        · exact a4 j hj (by omega) h8
      · have e : nx p i = bEnd p (parts p i)[n] := by
          unfold nx
          rw [if_pos h7]
          unfold lstP
          congr 2
          omega
        rw [e, scn_end (by omega)] at h1
        omega
    rw [scn_at (by omega)] at hs
    by_cases k : jmpK (knd p (parts p i)[n]) = true
    · have := jmpK_iff.1 k
      have := opn_iff.1 ho.1
      omega
    rw [if_neg k] at hs
    have hlz : lpz p (parts p i)[n] = false := by unfold lpz; simp [ho.2]
    by_cases h8 : knd p (parts p i)[n] = 8
    · rw [if_pos (.inl h8)] at hs
      exact rest hs (fun c => absurd h8 c)
    · rw [if_neg (by rw [hlz]; simp [h8])] at hs
      rw [scn_split he (bEnd p (parts p i)[n]) ((parts p i)[n] + 1) (by omega) (by omega) (fun y h1 h2 => hB.in h1 h2)] at hs
      by_cases c : 0 ≤ scn p ((parts p i)[n] + 1) (bEnd p (parts p i)[n])
      · rw [if_pos c] at hs
        exact ⟨n, hn, Nat.le_refl _, h8, hs, fun j hj hnj _ => absurd hj (by omega)⟩
      · rw [if_neg c] at hs
        exact rest hs (fun _ => scn_neg c)
theorem gB_retAll {ln : Nat → Rst → Lft × Rst} {a b x : Nat} {D v : Int} (g : GoodP xs p) (hB : Blk p a b D) (HF : ∀ x s, fol (knd p x) = true → ln x s = (.nil, s))
    (H : ∀ i s, a ≤ i → i < b → dep p i = D → fol (knd p i) = false → scn p i (nx p i) = -1 → (ln i s).1 = .nil)
    (H2 : ∀ i s, a ≤ i → i < b → dep p i = D → fol (knd p i) = false → scn p i (nx p i) = (x : Int) → (ln i s).1 = .ret v) :
    ∀ (m i : Nat) (s : Rst), b ≤ m + i → a ≤ i → (i < b → dep p i = D ∧ fol (knd p i) = false) → scn p i b = (x : Int) → (gB ln p b i s).1 = .ret v
  | 0, i, s, hm, _, _, hs => by rw [scn_end (by omega)] at hs; omega
  | m + 1, i, s, hm, hai, hst, hs => by
    by_cases hib : i < b
    · have h0 := hst hib
      have hn := hB.nxt g hai hib h0.1 h0.2
      rw [scn_split hn.2.1 (nx p i) i (by omega) (by omega) (fun x h3 h4 => hB.inner g hai hib h0.1 h0.2 h3 h4)] at hs
      by_cases c : 0 ≤ scn p i (nx p i)
      · rw [if_pos c] at hs
        have e := H2 i s hai hib h0.1 h0.2 hs
        rcases hl : ln i s with ⟨l, s2⟩
        rw [hl] at e
        replace e : l = .ret v := e
        subst e
        rw [gB_out hib (by intro h; cases h) hl]
      · rw [if_neg c] at hs
        have e := H i s hai hib h0.1 h0.2 (scn_neg c)
        rcases hl : ln i s with ⟨l, s2⟩
        rw [hl] at e
        replace e : l = .nil := e
        subst e
        rw [gB_step hB hai hib h0.1 HF hl]
        exact gB_retAll g hB HF H H2 m (nx p i) s2 (by omega) (by omega) hn.2.2 hs
    · rw [scn_end hib] at hs; omega
/-- a finally behind a line, in a try around it, has no line that jumps -/
def FinQ (p : List Lin) (x : Nat) : Prop := ∀ t z, t < p.length → knd p t = 7 → z ∈ parts p t → knd p z = 10 → t < x → x < z → scn p (z + 1) (bEnd p z) = -1
theorem bl_nil (g : GoodP xs p) (N : Nat) {y : Nat} (hy : y < p.length) (ho : opn (knd p y) = true) (hs : scn p (y + 1) (bEnd p y) = -1) (h : Int) (s : Rst) : (blN xs p N y h s).1 = .nil := by
  have hp := g.len
  have hbl := bEnd_le hy
  have e0 : blN xs p N y h s = gB (lnN xs p N h) p (bEnd p y) (y + 1) s := gB_of _ _ 25 (by omega)
  rw [e0]
  have hB := Blk.of g hy ho
  exact gB_nilAll g hB (fun y s hf => lnN_fol xs p N h y s hf) (fun y s _ hyb _ hf hsy => line_nil g N y h s (by omega) hf hsy) (bEnd p y) (y + 1) s (by omega) (Nat.le_refl _) hB.first hs
theorem fin_ret (g : GoodP xs p) (N : Nat) {i : Nat} {v : Int} (hi : i < p.length) (h7 : knd p i = 7) (h : Int) {r : Lft × Rst} (hr : r.1 = .ret v) (H : ∀ z ∈ parts p i, knd p z = 10 → scn p (z + 1) (bEnd p z) = -1) : (finN (blN xs p N) p i h r).1 = .ret v := by
  rcases r with ⟨l, s⟩
  replace hr : l = .ret v := hr
  subst hr
  unfold finN
  rcases hp : prt p i 10 with _ | z
  · rfl
  · have m := prt_mem hp
    show orElseL (.ret v) (blN xs p N z h s).1 = .ret v
    rw [bl_nil g N (parts_lt hi z m.1) (opn_part hi h7 m.1).1 (H z m.1 m.2)]
    rfl
theorem line_ret (g : GoodP xs p) {x : Nat} (hx : knd p x = 4) (HQ : FinQ p x) : ∀ (N : Nat) (i : Nat) (h : Int) (s : Rst), i < p.length → 6 ≤ dep p i + (N : Int) → fol (knd p i) = false → scn p i (nx p i) = (x : Int) → (lnN xs p N h i s).1 = .ret (lnA p x)
  | 0, i, h, s, hi, hN, _, _ => by
    have := (g.line i hi).2.1.1.2
    have e : dep p i ≤ 5 := this
    omega
  | N + 1, i, h, s, hi, hN, hf, hs => by
    have HB : ∀ y, y < p.length → dep p y = dep p i → opn (knd p y) = true → scn p (y + 1) (bEnd p y) = (x : Int) → ∀ h s, (blN xs p N y h s).1 = .ret (lnA p x) := fun y hy hd ho hsy h s => by
      have hp := g.len
      have hbl := bEnd_le hy
      have e0 : blN xs p N y h s = gB (lnN xs p N h) p (bEnd p y) (y + 1) s := gB_of _ _ 25 (by omega)
      rw [e0]
      have hB := Blk.of g hy ho
      exact gB_retAll g hB (fun z s hf => lnN_fol xs p N h z s hf) (fun z s _ hzb _ hf hsz => line_nil g N z h s (by omega) hf hsz) (fun z s _ hzb hdz hf hsz => line_ret g hx HQ N z h s (by omega) (by omega) hf hsz) (bEnd p y) (y + 1) s (by omega) (Nat.le_refl _) hB.first hsy
    have hgi := bEnd_gt p i
    have hnx : i < nx p i := by
      unfold nx
      split
      · have := parts_ge hi (lstP_mem p i); have := bEnd_gt p (lstP p i); omega
      · exact hgi
    have hs0 := hs
    rw [scn_at hnx] at hs
    rw [lnN_succ]
    unfold stepN
    by_cases hj : jmpK (knd p i) = true
    · rw [if_pos hj] at hs
      obtain rfl : i = x := by omega
      rw [if_neg (by omega), if_neg (by omega), if_neg (by omega), if_pos hx]
    rw [if_neg hj] at hs
    have hj2 : ¬ (2 ≤ knd p i ∧ knd p i ≤ 6) := fun h => hj (jmpK_iff.2 h)
    by_cases h7 : knd p i = 7
    · rw [if_neg (by omega), if_neg (by omega), if_neg (by omega), if_neg (by omega), if_neg (by omega), if_neg (by omega), if_pos h7]
      have h0 : 0 < (parts p i).length := List.length_pos_of_mem (List.mem_cons_self (a := i) (l := ptGo p (dep p i) p.length i))
      obtain ⟨k, hk, -, k8, ks, kb⟩ := parts_ret g hi h7 (parts p i).length 0 h0 (by omega) hs0
      have hm : (parts p i)[k] ∈ parts p i := List.getElem_mem _
      have ho := opn_part hi h7 hm
      have hd := (partsF hi hm).2.2
      have hyl := parts_lt hi _ hm
      have hge := parts_ge hi hm
      have hR := HB _ hyl hd ho.1 ks
      -- where the line that jumps is
      have hxy : (parts p i)[k] < x ∧ x < bEnd p (parts p i)[k] := by
        obtain ⟨x2, e1, e2, e3, _⟩ := scn_out (p := p) (bEnd_le hyl) (bEnd p (parts p i)[k]) ((parts p i)[k] + 1) (by omega) (by rw [ks]; omega)
        rw [ks] at e1
        omega
      have hFin : knd p (parts p i)[k] ≠ 10 → ∀ z ∈ parts p i, knd p z = 10 → scn p (z + 1) (bEnd p z) = -1 := fun k10 z hz hz10 => by
        refine HQ i z hi h7 hz hz10 (by omega) ?_
        obtain ⟨b, hb, rfl⟩ := List.getElem_of_mem hz
        have hkb : k < b := by
          rcases Nat.lt_trichotomy k b with c | c | c
          · exact c
          · subst c; exact absurd hz10 k10
          · have := parts_aft hb (.inr hz10) k hk c; omega
        have := parts_sep hm hz (List.pairwise_iff_getElem.1 (partsF_asc p i) _ _ hk hb hkb)
        omega
      unfold tryN
      -- the blocks ahead
      have hP : ∀ j (hj : j < k), knd p (parts p i)[j] ≠ 8 → ∀ h s, (blN xs p N (parts p i)[j] h s).1 = .nil := fun j hj h8 h s => by
        have hmj : (parts p i)[j] ∈ parts p i := List.getElem_mem _
        exact bl_nil g N (parts_lt hi _ hmj) (opn_part hi h7 hmj).1 (kb j hj (Nat.zero_le _) h8) h s
      by_cases ek : k = 0
      · subst ek
        have e1 : (blN xs p N i h s).1 = .ret (lnA p x) := hR h s
        refine fin_ret g N hi h7 h ?_ (hFin (by show knd p i ≠ 10; rw [h7]; decide))
        rcases hb : blN xs p N i h s with ⟨l, s1⟩
        rw [hb] at e1
        replace e1 : l = .ret (lnA p x) := e1
        subst e1
        rfl
      · have e1 : (blN xs p N i h s).1 = .nil := hP 0 (by omega) (by show knd p i ≠ 8; rw [h7]; decide) h s
        rcases hb : blN xs p N i h s with ⟨l, s1⟩
        rw [hb] at e1
        replace e1 : l = .nil := e1
        subst e1
        -- what may come behind
        have k9 : knd p (parts p i)[k] = 9 ∨ knd p (parts p i)[k] = 10 := by
          obtain ⟨k, rfl⟩ : ∃ k', k = k' + 1 := ⟨k - 1, by omega⟩
          have := mayF_iff.1 (parts_may hk)
          omega
        rcases k9 with k9 | k9
        · have hp := prt_one (K := 9) (.inl rfl) hm k9
          refine fin_ret g N hi h7 h ?_ (hFin (by omega))
          show (orN (prt p i 9) (blN xs p N) h (.nil, s1)).1 = _
          rw [hp]
          exact hR h s1
        · have e2 : (midN (blN xs p N) xs p i h (.nil, s1)).1 = .nil := by
            show (orN (prt p i 9) (blN xs p N) h (.nil, s1)).1 = .nil
            unfold orN
            rcases hp : prt p i 9 with _ | z
            · rfl
            · have m := prt_mem hp
              obtain ⟨b, hb, rfl⟩ := List.getElem_of_mem m.1
              have hbk : b < k := by
                rcases Nat.lt_trichotomy k b with c | c | c
                · have := parts_aft hk (.inr k9) b hb c; omega
                · subst c; omega
                · exact c
              exact hP b hbk (by rw [m.2]; decide) h s1
          generalize midN (blN xs p N) xs p i h (.nil, s1) = r at *
          rcases r with ⟨l, s2⟩
          replace e2 : l = .nil := e2
          subst e2
          unfold finN
          rw [prt_one (K := 10) (.inr rfl) hm k9]
          show orElseL .nil (blN xs p N (parts p i)[k] h s2).1 = _
          rw [hR h s2]; rfl
    have h8 : knd p i ≠ 8 := fun e => by rw [e] at hf; cases hf
    have hnb : nx p i = bEnd p i := by unfold nx; rw [if_neg h7]
    rw [hnb] at hs
    by_cases hl : lpz p i = true
    · rw [if_pos (.inr hl), scn_end (by omega)] at hs; omega
    rw [if_neg (by simp [h8, hl])] at hs
    by_cases hop : opn (knd p i) = true
    · have hR := HB i hi rfl hop hs
      have hk := opn_iff.1 hop
      have hff := fol_iff (k := knd p i)
      have : ¬ (8 ≤ knd p i ∧ knd p i ≤ 10) := fun c => by rw [hff.2 c] at hf; cases hf
      rw [if_neg (by omega), if_neg (by omega), if_neg (by omega), if_neg (by omega), if_neg (by omega), if_neg (by omega), if_neg h7]
      by_cases h11 : knd p i = 11
      · rw [if_pos h11]
        show quiet _ (blN xs p N i h (s.1 ++ [100 + lnA p i], s.2)).1 = _
        rw [hR]; rfl
      · have h12 : knd p i = 12 := by omega
        rw [if_neg h11, if_pos h12]
        have ha : lnA p i ≠ 0 := fun e => hl (by unfold lpz; simp [h12, e])
        have hA : 0 ≤ lnA p i := by
          have hlo := (g.line i hi).1
          rw [knd_at hi] at h12
          have e : lnA p i = p[i].a := by unfold lnA; rw [List.getElem?_eq_getElem hi]
          rw [e]
          unfold numS at hlo
          rw [h12] at hlo
          rw [if_neg (by decide), if_neg (by decide), if_neg (by decide), if_neg (by decide), if_pos rfl, Bool.and_eq_true] at hlo
          exact (rng_iff.1 hlo.1).1
        obtain ⟨n, hn⟩ : ∃ n, (lnA p i).toNat = n + 1 := ⟨(lnA p i).toNat - 1, by omega⟩
        rw [hn]
        have e1 := hR h s
        rcases hb : blN xs p N i h s with ⟨l, s1⟩
        rw [hb] at e1
        replace e1 : l = .ret (lnA p x) := e1
        subst e1
        unfold loopN
        rw [hb]
    · -- a line with no block
      have hB1 : bEnd p i = i + 1 := bEndF_one g hi (by simpa using hop)
      rw [hB1, scn_end (by omega)] at hs; omega
/-- what returns ends all -/
theorem run_ret (g : GoodP xs p) {x : Nat} (h : scn p 0 p.length = (x : Int)) (hx : knd p x = 4) (HQ : FinQ p x) : (runI xs p).1 = .ret (lnA p x) := by
  have hp := g.len
  have e0 : runI xs p = gB (lnN xs p 6 (-1)) p p.length 0 ([], []) := gB_of 0 ([], []) 25 (by omega)
  rw [e0]
  have hB := Blk.all g
  exact gB_retAll g hB (fun x s hf => lnN_fol xs p 6 (-1) x s hf) (fun i s _ hib _ hf hs => line_nil g 6 i (-1) s hib hf hs) (fun i s _ hib hd hf hs => line_ret g hx HQ 6 i (-1) s hib (by omega) hf hs) p.length 0 ([], []) (by omega) (Nat.le_refl _) hB.first h
end
end Go.Proofs.YtgjlmfjmjglplaaGreat
