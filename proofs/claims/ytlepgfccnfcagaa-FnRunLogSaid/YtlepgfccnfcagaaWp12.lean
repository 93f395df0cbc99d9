/- one text of RnO, RnQ, RnR, RnK, RnLi, PhR, AsD -/
import Derived.Test.YtlepgfccnfcagaaWp9
import Derived.Test.YtlepgfccnfcagaaWp11
import Derived.Test.YtlepgfccnfcagaaWp5
import Derived.Test.YtlepgfccnfcagaaWp8
namespace Go.Proofs.Ytlepgfccnfcagaa
open Go.RowKit
set_option linter.unusedVariables false
section
/-- what comes last in a try is its last line, if at all -/
theorem prtG_last (p : List Lin) (d : Int) : ∀ m k, prtG p 10 (k :: ptGo p d m k) = if knd p ((k :: ptGo p d m k).getLast (by simp)) = 10 then some ((k :: ptGo p d m k).getLast (by simp)) else none
  | 0, k => rfl
  | m + 1, k => by
    by_cases c : bEnd p k < p.length ∧ dep p (bEnd p k) = d ∧ mayF (knd p k) (knd p (bEnd p k)) = true
    · have e : ptGo p d (m + 1) k = bEnd p k :: ptGo p d m (bEnd p k) := if_pos c
      have hk : knd p k ≠ 10 := fun e2 => by
        have := mayF_iff.1 c.2.2
        omega
      have ih := prtG_last p d m (bEnd p k)
      have key : ∀ (L : List Nat) (hL : L = bEnd p k :: ptGo p d m (bEnd p k)), prtG p 10 (k :: L) = if knd p ((k :: L).getLast (by simp)) = 10 then some ((k :: L).getLast (by simp)) else none := by
        rintro L rfl
        rw [List.getLast_cons (by simp)]
        show (if knd p k = 10 then some k else prtG p 10 (bEnd p k :: ptGo p d m (bEnd p k))) = _
        rw [if_neg hk, ih]
      exact key _ e
    · have e : ptGo p d (m + 1) k = [] := if_neg c
      have key : ∀ (L : List Nat) (hL : L = []), prtG p 10 (k :: L) = if knd p ((k :: L).getLast (by simp)) = 10 then some ((k :: L).getLast (by simp)) else none := by
        rintro L rfl; rfl
      exact key _ e
theorem prt_last (p : List Lin) (i : Nat) : prt p i 10 = if knd p (lstP p i) = 10 then some (lstP p i) else none := by
  have h := prtG_last p (dep p i) p.length i
  have e : (i :: ptGo p (dep p i) p.length i).getLast (by simp) = lstP p i := by
    rw [List.getLast_eq_getElem]; rfl
  rw [e] at h
  exact h
theorem fin_last (blk : Bls) (p : List Lin) (i : Nat) (h : Int) (r : Lft × Rst) : finN blk p i h r = if knd p (lstP p i) = 10 then lasN blk (lstP p i) h r else r := by
  by_cases c : knd p (lstP p i) = 10
  · rw [if_pos c]; exact fin_some (by rw [prt_last, if_pos c])
  · rw [if_neg c]; exact fin_none (by rw [prt_last, if_neg c])
section
variable {ln : Nat → Rst → Lft × Rst} {p : List Lin} {b : Nat}
theorem goB_fuel : ∀ (m n i : Nat) (s : Rst), b ≤ m + i → b ≤ n + i → goB ln p b m i s = goB ln p b n i s
  | 0, n, i, s, h1, h2 => by rw [goB_end (by omega), goB_end (by omega)]
  | m + 1, 0, i, s, h1, h2 => by rw [goB_end (by omega), goB_end (by omega)]
  | m + 1, n + 1, i, s, h1, h2 => by
    by_cases hib : i < b
    · rcases hl : ln i s with ⟨l, s2⟩
      rcases l with _ | v | f | _ | _
      · rw [goB_nil hib m hl, goB_nil hib n hl]
        have := bEnd_gt p i
        exact goB_fuel m n (bEnd p i) s2 (by omega) (by omega)
      all_goals rw [goB_out hib m (by intro h; cases h) hl, goB_out hib n (by intro h; cases h) hl]
    · rw [goB_end hib, goB_end hib]
/-- lines one after another, from one on -/
def gB (ln : Nat → Rst → Lft × Rst) (p : List Lin) (b i : Nat) (s : Rst) : Lft × Rst := goB ln p b b i s
theorem gB_of (i : Nat) (s : Rst) (k : Nat) (h : b ≤ k + i) : goB ln p b k i s = gB ln p b i s := goB_fuel k b i s h (by omega)
theorem gB_end {i : Nat} {s : Rst} (h : ¬ i < b) : gB ln p b i s = (.nil, s) := goB_end h b s
theorem gB_nil {i : Nat} {s s2 : Rst} (h : i < b) (e : ln i s = (.nil, s2)) : gB ln p b i s = gB ln p b (bEnd p i) s2 := by
  have := bEnd_gt p i
  rw [← gB_of i s (b + 1) (by omega), goB_nil h b e]
  exact gB_of _ _ b (by omega)
theorem gB_out {i : Nat} {s s2 : Rst} {l : Lft} (h : i < b) (hl : l ≠ .nil) (e : ln i s = (l, s2)) : gB ln p b i s = (l, s2) := by
  rw [← gB_of i s (b + 1) (by omega), goB_out h b hl e]
/-- the other lines of a try do nothing when they come up -/
theorem gB_parts {a : Nat} {D : Int} (hB : Blk p a b D) {i : Nat} (h1 : a ≤ i) (h2 : i < b) (hd : dep p i = D) (h7 : knd p i = 7) (HF : ∀ x s, fol (knd p x) = true → ln x s = (.nil, s)) :
    ∀ (m n : Nat) (hn : n < (parts p i).length), 1 ≤ n → (parts p i).length ≤ m + n → ∀ s, gB ln p b (parts p i)[n] s = gB ln p b (nx p i) s
  | 0, n, hn, _, h, s => by omega
  | m + 1, n, hn, h1n, h, s => by
    have hP := hB.part h1 h2 hd n hn
    have hmem : (parts p i)[n] ∈ parts p i := List.getElem_mem hn
    have hne : (parts p i)[n] ≠ i := by
      have := (List.pairwise_iff_getElem.1 (partsF_asc p i)) 0 n (by omega) hn (by omega)
      have e0 : (parts p i)[0]'(by omega) = i := rfl
      omega
    have hf : fol (knd p (parts p i)[n]) = true := by
      rcases try_step (show IsTry p i (parts p i)[n] from ⟨h7, hmem⟩) with ⟨_, h3⟩ | ⟨h3, _⟩
      · exact absurd h3 hne
      · exact h3
    rw [gB_nil hP.2.1 (HF _ s hf)]
    by_cases e : n + 1 < (parts p i).length
    · rw [← parts_link e]
      exact gB_parts hB h1 h2 hd h7 HF m (n + 1) e (by omega) (by omega) s
    · rw [pos_end h7 (n := n) (by omega)]
/-- a statement, and on behind it -/
theorem gB_step {a : Nat} {D : Int} (hB : Blk p a b D) {i : Nat} (h1 : a ≤ i) (h2 : i < b) (hd : dep p i = D) (HF : ∀ x s, fol (knd p x) = true → ln x s = (.nil, s)) {s s2 : Rst} (e : ln i s = (.nil, s2)) :
    gB ln p b i s = gB ln p b (nx p i) s2 := by
  rw [gB_nil h2 e]
  by_cases h7 : knd p i = 7
  · by_cases hl : 1 < (parts p i).length
    · have hlk : (parts p i)[1] = bEnd p (parts p i)[0] := parts_link (n := 0) hl
      have e0 : (parts p i)[0]'(by omega) = i := rfl
      rw [e0] at hlk
      rw [← hlk]
      exact gB_parts hB h1 h2 hd h7 HF (parts p i).length 1 hl (Nat.le_refl _) (by omega) s2
    · have := pos_end h7 (n := 0) (by have := parts_posF p i; omega)
      have e0 : (parts p i)[0]'(by have := parts_posF p i; omega) = i := rfl
      rw [e0] at this
      rw [this]
  · have : nx p i = bEnd p i := by unfold nx; rw [if_neg h7]
    rw [this]
end
theorem lnN_fol (xs : List Cls) (p : List Lin) (N : Nat) (h : Int) (x : Nat) (s : Rst) (hf : fol (knd p x) = true) : lnN xs p N h x s = (.nil, s) := by
  have := fol_iff.1 hf
  cases N with
  | zero => rfl
  | succ N =>
    rw [lnN_succ]
    unfold stepN
    rw [if_neg (by omega), if_neg (by omega), if_neg (by omega), if_neg (by omega), if_neg (by omega), if_neg (by omega), if_neg (by omega), if_neg (by omega), if_neg (by omega)]
end

section
section
variable {xs : List Cls} {p : List Lin}
theorem inGo_skip (p : List Lin) (d : Int) : ∀ (m a b : Nat), b ≤ m + a → a ≤ b → (∀ k, a ≤ k → k < b → d ≤ dep p k) → inGo p d b = inGo p d a
  | 0, a, b, h1, h2, _ => by rw [show b = a by omega]
  | m + 1, a, b, h1, h2, h3 => by
    by_cases e : a = b
    · rw [e]
    · obtain ⟨b, rfl⟩ : ∃ b', b = b' + 1 := ⟨b - 1, by omega⟩
      have := h3 b (by omega) (by omega)
      have hs : inGo p d (b + 1) = inGo p d b := by
        rw [inGo.eq_def]
        simp only
        rw [if_neg (by omega)]
      rw [hs]
      exact inGo_skip p d m a b (by omega) (by omega) (fun k h4 h5 => h3 k h4 (by omega))
/-- a line in the block of a line that is no loop is in a loop only if that line is -/
theorem inL_block {x y : Nat} (hx : x < y) (hy : y < bEnd p x) (hd : dep p y = dep p x + 1) (hk : knd p x ≠ 12) : inL p y = inL p x := by
  unfold inL
  rw [inGo_skip p (dep p y) y (x + 1) y (by omega) (by omega) (fun k h1 h2 => by have := bEnd_in (p := p) (i := x) (x := k) (by omega) (by omega); omega)]
  show inGo p (dep p y) (x + 1) = _
  rw [inGo.eq_def]
  simp only
  rw [if_pos (by omega)]
  rw [if_neg hk]
theorem inL_part {i : Nat} (hi : i < p.length) : ∀ n (hn : n < (parts p i).length), inL p (parts p i)[n] = inL p i ∧ dep p (parts p i)[n] = dep p i
  | 0, hn => ⟨rfl, rfl⟩
  | n + 1, hn => by
    have ih := inL_part hi n (by omega)
    have hl := parts_link hn
    have f := partsF hi (List.getElem_mem hn)
    have hg := bEnd_gt p (parts p i)[n]
    refine ⟨?_, f.2.2⟩
    rw [← ih.1]
    unfold inL
    rw [f.2.2, ih.2, inGo_skip p (dep p i) (parts p i)[n + 1] (parts p i)[n] (parts p i)[n + 1] (by omega) (by omega)]
    intro k h1 h2
    by_cases e : k = (parts p i)[n]
    · rw [e, ih.2]; exact Int.le_refl _
    · have := bEnd_in (p := p) (i := (parts p i)[n]) (x := k) (by omega) (by omega)
      omega
theorem inL_mem {i x : Nat} (hi : i < p.length) (h : x ∈ parts p i) : inL p x = inL p i := by
  obtain ⟨n, hn, rfl⟩ := List.getElem_of_mem h
  exact (inL_part hi n hn).1
theorem loop_in (g : GoodP xs p) {i : Nat} (hi : i < p.length) (h : knd p i = 5 ∨ knd p i = 6) : inL p i = true := by
  have hl := g.line i hi
  rw [knd_at hi] at h
  exact hl.2.2.2.2.1 h
def Jl (l : Lft) : Prop := l = .brk ∨ l = .cnt
theorem goB_jl {ln : Nat → Rst → Lft × Rst} {a b : Nat} {D : Int} (hB : Blk p a b D) (H : ∀ i s, a ≤ i → i < b → dep p i = D → Jl (ln i s).1 → inL p i = true) :
    ∀ (k i : Nat) (s : Rst), a ≤ i → (i < b → dep p i = D) → Jl (goB ln p b k i s).1 → ∃ y, a ≤ y ∧ y < b ∧ dep p y = D ∧ inL p y = true
  | 0, i, s, _, _, h => by rcases h with h | h <;> cases h
  | k + 1, i, s, hai, hd, h => by
    by_cases hib : i < b
    · rcases hl : ln i s with ⟨l, s2⟩
      by_cases e : l = .nil
      · subst e
        rw [goB_nil hib k hl] at h
        have hg := bEnd_gt p i
        exact goB_jl hB H k (bEnd p i) s2 (by omega) (fun hb => hB.sib hai hib (hd hib) hb) h
      · rw [goB_out hib k e hl] at h
        exact ⟨i, hai, hib, hd hib, H i s hai hib (hd hib) (by rw [hl]; exact h)⟩
    · rw [goB_end hib] at h
      rcases h with h | h <;> cases h
theorem bl_jl (g : GoodP xs p) {N : Nat} (H : ∀ i h s, i < p.length → Jl (lnN xs p N h i s).1 → inL p i = true) {x : Nat} (hx : x < p.length) (ho : opn (knd p x) = true) (hk : knd p x ≠ 12) {h : Int} {s : Rst} (hj : Jl (blN xs p N x h s).1) : inL p x = true := by
  have hB := Blk.of g hx ho
  have hbl := bEnd_le hx
  obtain ⟨y, h1, h2, h3, h4⟩ := goB_jl hB (ln := lnN xs p N h) (fun i s _ hib _ hj => H i h s (by omega) hj) 25 (x + 1) s (Nat.le_refl _) (fun hb => (hB.first hb).1) hj
  rw [← inL_block (by omega) h2 h3 hk]; exact h4
theorem loop_jl (blk : Bls) (i : Nat) (h : Int) : ∀ n s, ¬ Jl (loopN blk i h n s).1
  | 0, s => by rintro (h | h) <;> cases h
  | n + 1, s => by
    rcases hb : blk i h s with ⟨l, s2⟩
    unfold loopN
    rw [hb]
    rcases l with _ | v | f | _ | _
    · exact loop_jl blk i h n s2
    · rintro (h | h) <;> cases h
    · rintro (h | h) <;> cases h
    · rintro (h | h) <;> cases h
    · exact loop_jl blk i h n s2
theorem opn_part {i x : Nat} (_hi : i < p.length) (h7 : knd p i = 7) (h : x ∈ parts p i) : opn (knd p x) = true ∧ knd p x ≠ 12 := by
  rcases try_step (show IsTry p i x from ⟨h7, h⟩) with ⟨h, _⟩ | ⟨h, _⟩
  · rw [h]; exact ⟨rfl, by decide⟩
  · have := fol_iff.1 h
    refine ⟨?_, by omega⟩
    unfold opn rng
    simp; omega
theorem jl_line (g : GoodP xs p) : ∀ N i h s, i < p.length → Jl (lnN xs p N h i s).1 → inL p i = true
  | 0, i, h, s, _, hj => by rcases hj with h | h <;> cases h
  | N + 1, i, h, s, hi, hj => by
    have HB : ∀ x, x < p.length → opn (knd p x) = true → knd p x ≠ 12 → ∀ h s, Jl (blN xs p N x h s).1 → inL p x = true := fun x hx ho hk h s hj => bl_jl g (jl_line g N) hx ho hk hj
    rw [lnN_succ] at hj
    unfold stepN at hj
    have nj : ∀ {l : Lft} {s2 : Rst}, (l ≠ .brk ∧ l ≠ .cnt) → ¬ Jl ((l, s2) : Lft × Rst).1 := fun h h2 => by rcases h2 with e | e; exact h.1 e; exact h.2 e
    by_cases h1 : knd p i = 1
    · rw [if_pos h1] at hj; exact absurd hj (nj ⟨(by intro h; cases h), (by intro h; cases h)⟩)
    rw [if_neg h1] at hj
    by_cases h2 : knd p i = 2
    · rw [if_pos h2] at hj; exact absurd hj (nj ⟨(by intro h; cases h), (by intro h; cases h)⟩)
    rw [if_neg h2] at hj
    by_cases h3 : knd p i = 3
    · rw [if_pos h3] at hj
      unfold againN at hj
      split at hj
      · exact absurd hj (nj ⟨(by intro h; cases h), (by intro h; cases h)⟩)
      · exact absurd hj (nj ⟨(by intro h; cases h), (by intro h; cases h)⟩)
    rw [if_neg h3] at hj
    by_cases h4 : knd p i = 4
    · rw [if_pos h4] at hj; exact absurd hj (nj ⟨(by intro h; cases h), (by intro h; cases h)⟩)
    rw [if_neg h4] at hj
    by_cases h5 : knd p i = 5
    · exact loop_in g hi (.inl h5)
    rw [if_neg h5] at hj
    by_cases h6 : knd p i = 6
    · exact loop_in g hi (.inr h6)
    rw [if_neg h6] at hj
    by_cases h7 : knd p i = 7
    · rw [if_pos h7] at hj
      have HP : ∀ x ∈ parts p i, ∀ h s, Jl (blN xs p N x h s).1 → inL p i = true := fun x hx h s hj => by
        have o := opn_part hi h7 hx
        rw [← inL_mem hi hx]; exact HB x (parts_lt hi x hx) o.1 o.2 h s hj
      have HM : ∀ r : Lft × Rst, (Jl r.1 → inL p i = true) → Jl (midN (blN xs p N) xs p i h r).1 → inL p i = true := fun r hr hm => by
        rcases r with ⟨l, s2⟩
        unfold midN at hm
        rcases l with _ | v | f | _ | _
        · replace hm : Jl (orN (prt p i 9) (blN xs p N) h (.nil, s2)).1 := hm
          unfold orN at hm
          rcases hp : prt p i 9 with _ | x
          · rw [hp] at hm; exact hr hm
          · rw [hp] at hm; exact HP x (prt_mem hp).1 h s2 hm
        · exact hr hm
        · replace hm : Jl (if 0 ≤ ctE xs p (clsF s2 f) (exL p i) then blN xs p N (ctE xs p (clsF s2 f) (exL p i)).toNat f s2 else (.rai f, s2)).1 := hm
          split at hm
          · next c =>
            rcases ctE_mem xs p (clsF s2 f) (exL p i) with e | ⟨x, hx, e⟩
            · exact absurd c (by rw [e]; decide)
            · rw [e] at hm
              exact HP x (exL_mem hx).1 f s2 hm
          · exact hr hm
        · exact hr hm
        · exact hr hm
      have hM : Jl (midN (blN xs p N) xs p i h (blN xs p N i h s)).1 → inL p i = true := HM _ (HP i (List.mem_cons_self ..) h s)
      unfold tryN finN at hj
      rcases hp : prt p i 10 with _ | x
      · rw [hp] at hj; exact hM hj
      · rw [hp] at hj
        replace hj : Jl (orElseL (midN (blN xs p N) xs p i h (blN xs p N i h s)).1 (blN xs p N x (hdN h (midN (blN xs p N) xs p i h (blN xs p N i h s)).1) (midN (blN xs p N) xs p i h (blN xs p N i h s)).2).1) := hj
        have hX := HP x (prt_mem hp).1 (hdN h (midN (blN xs p N) xs p i h (blN xs p N i h s)).1) (midN (blN xs p N) xs p i h (blN xs p N i h s)).2
        generalize (blN xs p N x (hdN h (midN (blN xs p N) xs p i h (blN xs p N i h s)).1) (midN (blN xs p N) xs p i h (blN xs p N i h s)).2).1 = l2 at *
        rcases l2 with _ | v | f | _ | _
        · exact hM hj
        all_goals exact hX hj
    rw [if_neg h7] at hj
    by_cases h11 : knd p i = 11
    · rw [if_pos h11] at hj
      unfold withN at hj
      have hX := HB i hi (by rw [h11]; rfl) (by rw [h11]; decide) h (s.1 ++ [100 + lnA p i], s.2)
      generalize (blN xs p N i h (s.1 ++ [100 + lnA p i], s.2)).1 = l2 at *
      rcases l2 with _ | v | f | _ | _
      · exact hX hj
      · exact hX hj
      · replace hj : Jl (if decide (lnBc p i = 1) = true then Lft.nil else .rai f) := hj
        split at hj
        · exact absurd hj (nj (s2 := s) ⟨(by intro h; cases h), (by intro h; cases h)⟩)
        · exact hX hj
      · exact hX hj
      · exact hX hj
    rw [if_neg h11] at hj
    by_cases h12 : knd p i = 12
    · rw [if_pos h12] at hj; exact absurd hj (loop_jl _ _ _ _ _)
    rw [if_neg h12] at hj
    exact absurd hj (nj ⟨(by intro h; cases h), (by intro h; cases h)⟩)
theorem inL_top {i : Nat} (g : GoodP xs p) (hd : dep p i = 0) (hi : i ≤ p.length) : inL p i = false := by
  unfold inL
  rw [inGo_skip p (dep p i) i 0 i (by omega) (Nat.zero_le _) (fun k _ h => by have := (g.line k (by omega)).2.1.1; omega)]
  rfl
theorem run_jl (g : GoodP xs p) : (runI xs p).1 ≠ .brk ∧ (runI xs p).1 ≠ .cnt := by
  have key : ¬ Jl (runI xs p).1 := fun h => by
    obtain ⟨y, _, h2, h3, h4⟩ := goB_jl (Blk.all g) (ln := lnN xs p 6 (-1)) (fun i s _ hib _ hj => jl_line g 6 i (-1) s hib hj) 25 0 ([], []) (Nat.le_refl _) (fun hb => ((Blk.all g).first hb).1) h
    rw [inL_top g h3 (by omega)] at h4; cases h4
  exact ⟨fun e => key (.inl e), fun e => key (.inr e)⟩
end
end

section
section
variable {xs : List Cls} {p : List Lin}
/-- how much is told and raised -/
def Wg (s : Rst) : Nat := s.1.length + s.2.length
def cW : Nat → Nat
  | 0 => 0
  | n + 1 => 3 * cW n + 2
theorem parts_sep {i x y : Nat} (hx : x ∈ parts p i) (hy : y ∈ parts p i) (h : x < y) : bEnd p x ≤ y := by
  obtain ⟨n, hn, rfl⟩ := List.getElem_of_mem hx
  obtain ⟨m, hm, rfl⟩ := List.getElem_of_mem hy
  have hA := List.pairwise_iff_getElem.1 (partsF_asc p i)
  have hnm : n < m := by
    refine Nat.lt_of_not_le fun c => ?_
    rcases Nat.lt_or_ge m n with h2 | h2
    · have := hA m n hm hn h2; omega
    · have e : m = n := by omega
      subst e; omega
  rw [← parts_link (show n + 1 < (parts p i).length by omega)]
  by_cases e : n + 1 = m
  · subst e; exact Nat.le_refl _
  · exact Nat.le_of_lt (hA (n + 1) m (by omega) hm (by omega))
theorem parts_end {i x : Nat} (h7 : knd p i = 7) (hx : x ∈ parts p i) : bEnd p x ≤ nx p i := by
  obtain ⟨n, hn, rfl⟩ := List.getElem_of_mem hx
  exact pos_le h7 hn
theorem parts_ge {i x : Nat} (hi : i < p.length) (hx : x ∈ parts p i) : i ≤ x := (partsF hi hx).1
theorem gB_W {ln : Nat → Rst → Lft × Rst} {a b : Nat} {D : Int} (g : GoodP xs p) (hB : Blk p a b D) (c : Nat) (HF : ∀ x s, fol (knd p x) = true → ln x s = (.nil, s))
    (H : ∀ i s, a ≤ i → i < b → dep p i = D → fol (knd p i) = false → Wg (ln i s).2 ≤ Wg s + c * (nx p i - i)) :
    ∀ (m i : Nat) (s : Rst), b ≤ m + i → a ≤ i → (i < b → dep p i = D ∧ fol (knd p i) = false) → Wg (gB ln p b i s).2 ≤ Wg s + c * (b - i)
  | 0, i, s, hm, _, _ => by rw [gB_end (by omega)]; exact Nat.le_add_right _ _
  | m + 1, i, s, hm, hai, hst => by
    by_cases hib : i < b
    · have hs := hst hib
      have hn := hB.nxt g hai hib hs.1 hs.2
      have h1 := H i s hai hib hs.1 hs.2
      have hmul : c * (nx p i - i) + c * (b - nx p i) = c * (b - i) := by rw [← Nat.mul_add]; congr 1; omega
      rcases hl : ln i s with ⟨l, s2⟩
      rw [hl] at h1
      by_cases e : l = .nil
      · subst e
        rw [gB_step hB hai hib hs.1 HF hl]
        have ih := gB_W g hB c HF H m (nx p i) s2 (by omega) (by omega) hn.2.2
        replace h1 : Wg s2 ≤ Wg s + c * (nx p i - i) := h1
        omega
      · rw [gB_out hib e hl]
        omega
    · rw [gB_end hib]; exact Nat.le_add_right _ _
def Bw (p : List Lin) (blk : Bls) (c : Nat) : Prop := ∀ x h s, x < p.length → opn (knd p x) = true → Wg (blk x h s).2 ≤ Wg s + c * (bEnd p x - (x + 1))
theorem loop_W {blk : Bls} {c : Nat} (H : Bw p blk c) {i : Nat} (hi : i < p.length) (ho : opn (knd p i) = true) (h : Int) : ∀ n s, Wg (loopN blk i h n s).2 ≤ Wg s + n * (c * (bEnd p i - (i + 1)))
  | 0, s => by rw [Nat.zero_mul]; exact Nat.le_refl _
  | n + 1, s => by
    have h1 := H i h s hi ho
    rcases hb : blk i h s with ⟨l, s2⟩
    rw [hb] at h1
    replace h1 : Wg s2 ≤ Wg s + c * (bEnd p i - (i + 1)) := h1
    have ih := loop_W H hi ho h n s2
    generalize c * (bEnd p i - (i + 1)) = K at *
    have e : (n + 1) * K = n * K + K := Nat.succ_mul n K
    unfold loopN
    rw [hb]
    rcases l with _ | v | f | _ | _
    · show Wg (loopN blk i h n s2).2 ≤ _; omega
    · show Wg s2 ≤ _; omega
    · show Wg s2 ≤ _; omega
    · show Wg s2 ≤ _; omega
    · show Wg (loopN blk i h n s2).2 ≤ _; omega
/-- what the middle of a try adds: nothing, or the block of one more line -/
theorem mid_W {blk : Bls} {c : Nat} (H : Bw p blk c) {i : Nat} (hi : i < p.length) (h7 : knd p i = 7) (h : Int) (r : Lft × Rst) :
    Wg (midN blk xs p i h r).2 ≤ Wg r.2 ∨ ∃ x, x ∈ parts p i ∧ knd p x ≠ 7 ∧ knd p x ≠ 10 ∧ Wg (midN blk xs p i h r).2 ≤ Wg r.2 + c * (bEnd p x - (x + 1)) := by
  rcases r with ⟨l, s2⟩
  unfold midN
  rcases l with _ | v | f | _ | _
  · show Wg (orN (prt p i 9) blk h (.nil, s2)).2 ≤ _ ∨ ∃ x, x ∈ parts p i ∧ knd p x ≠ 7 ∧ knd p x ≠ 10 ∧ Wg (orN (prt p i 9) blk h (.nil, s2)).2 ≤ _
    unfold orN
    rcases hp : prt p i 9 with _ | x
    · exact .inl (Nat.le_refl _)
    · have m := prt_mem hp
      exact .inr ⟨x, m.1, by rw [m.2]; decide, by rw [m.2]; decide, H x h s2 (parts_lt hi x m.1) (opn_part hi h7 m.1).1⟩
  · exact .inl (Nat.le_refl _)
  · show Wg (if 0 ≤ ctE xs p (clsF s2 f) (exL p i) then blk (ctE xs p (clsF s2 f) (exL p i)).toNat f s2 else (.rai f, s2)).2 ≤ _ ∨ ∃ x, x ∈ parts p i ∧ knd p x ≠ 7 ∧ knd p x ≠ 10 ∧ Wg (if 0 ≤ ctE xs p (clsF s2 f) (exL p i) then blk (ctE xs p (clsF s2 f) (exL p i)).toNat f s2 else (.rai f, s2)).2 ≤ _
    by_cases c0 : 0 ≤ ctE xs p (clsF s2 f) (exL p i)
    · rcases ctE_mem xs p (clsF s2 f) (exL p i) with e | ⟨x, hx, e⟩
      · exact absurd c0 (by rw [e]; decide)
      · have m := exL_mem hx
        rw [if_pos c0, e]
        exact .inr ⟨x, m.1, by rw [m.2]; decide, by rw [m.2]; decide, H x f s2 (parts_lt hi x m.1) (opn_part hi h7 m.1).1⟩
    · rw [if_neg c0]
      exact .inl (Nat.le_refl _)
  · exact .inl (Nat.le_refl _)
  · exact .inl (Nat.le_refl _)
theorem try_W {blk : Bls} {c : Nat} (H : Bw p blk c) {i : Nat} (hi : i < p.length) (h7 : knd p i = 7) (h : Int) (s : Rst) : Wg (tryN blk xs p i h s).2 ≤ Wg s + c * (nx p i - i) := by
  have hi0 : i ∈ parts p i := List.mem_cons_self ..
  have h1 := H i h s hi (by rw [h7]; rfl)
  have hgi := bEnd_gt p i
  have hni := parts_end h7 hi0
  have M := mid_W (xs := xs) H hi h7 h (blk i h s)
  unfold tryN
  -- the last block adds at most its own
  have FIN : ∀ r : Lft × Rst, Wg (finN blk p i h r).2 ≤ Wg r.2 ∨ ∃ y, y ∈ parts p i ∧ knd p y = 10 ∧ (∀ x ∈ parts p i, x ≤ y) ∧ Wg (finN blk p i h r).2 ≤ Wg r.2 + c * (bEnd p y - (y + 1)) := fun r => by
    rw [fin_last]
    by_cases k : knd p (lstP p i) = 10
    · rw [if_pos k]
      exact .inr ⟨lstP p i, lstP_mem p i, k, fun x hx => lstP_ge hx, H (lstP p i) (hdN h r.1) r.2 (parts_lt hi _ (lstP_mem p i)) (opn_part hi h7 (lstP_mem p i)).1⟩
    · rw [if_neg k]; exact .inl (Nat.le_refl _)
  have Fi := FIN (midN blk xs p i h (blk i h s))
  have mono : ∀ {a b : Nat}, a ≤ b → c * a ≤ c * b := fun h => Nat.mul_le_mul_left c h
  rcases M with M | ⟨x, hx, x7, x10, M⟩
  · rcases Fi with Fi | ⟨y, hy, y10, _, Fi⟩
    · have := mono (show bEnd p i - (i + 1) ≤ nx p i - i by omega)
      omega
    · have hiy : i < y := by
        have := parts_ge hi hy
        have : i ≠ y := fun e => by rw [← e, h7] at y10; exact absurd y10 (by decide)
        omega
      have h3 := parts_sep hi0 hy hiy
      have h4 := parts_end h7 hy
      have h5 := bEnd_gt p y
      have e := mono (show (bEnd p i - (i + 1)) + (bEnd p y - (y + 1)) ≤ nx p i - i by omega)
      rw [Nat.mul_add] at e
      omega
  · have hix : i < x := by
      have := parts_ge hi hx
      have : i ≠ x := fun e => by rw [← e] at x7; exact x7 h7
      omega
    have h3 := parts_sep hi0 hx hix
    have h4 := parts_end h7 hx
    have h5 := bEnd_gt p x
    rcases Fi with Fi | ⟨y, hy, y10, hmax, Fi⟩
    · have e := mono (show (bEnd p i - (i + 1)) + (bEnd p x - (x + 1)) ≤ nx p i - i by omega)
      rw [Nat.mul_add] at e
      omega
    · have hxy : x < y := by
        have := hmax x hx
        have : x ≠ y := fun e => by rw [e] at x10; exact x10 y10
        omega
      have h6 := parts_sep hx hy hxy
      have h7b := parts_end h7 hy
      have h8 := bEnd_gt p y
      have e := mono (show (bEnd p i - (i + 1)) + ((bEnd p x - (x + 1)) + (bEnd p y - (y + 1))) ≤ nx p i - i by omega)
      rw [Nat.mul_add, Nat.mul_add] at e
      omega
theorem Wg_snoc (l : List Int) (x : Int) (h : List Flt) : Wg (l ++ [x], h) = Wg (l, h) + 1 := by unfold Wg; simp; omega
theorem Wg_snoc2 (l : List Int) (x : Flt) (h : List Flt) : Wg (l, h ++ [x]) = Wg (l, h) + 1 := by unfold Wg; simp; omega
theorem step_W (g : GoodP xs p) {blk : Bls} {c : Nat} (H : Bw p blk c) {i : Nat} (hi : i < p.length) (h : Int) (s : Rst) : Wg (stepN blk xs p h i s).2 ≤ Wg s + (3 * c + 2) * (nx p i - i) := by
  have hgi := bEnd_gt p i
  have hone : 0 < nx p i - i := by
    unfold nx
    split
    · next h7 =>
      have := bEnd_gt p (lstP p i)
      have := parts_ge hi (lstP_mem p i)
      omega
    · omega
  have mono : ∀ {a b : Nat}, a ≤ b → (3 * c + 2) * a ≤ (3 * c + 2) * b := fun h => Nat.mul_le_mul_left _ h
  have m1 := mono hone
  rw [Nat.mul_one] at m1
  have hrs : ∀ a b, Wg (rsN a b h s).2 ≤ Wg s + (3 * c + 2) * (nx p i - i) := fun a b => by
    have : Wg (rsN a b h s).2 = Wg s + 1 := Wg_snoc2 _ _ _
    omega
  unfold stepN
  by_cases h1 : knd p i = 1
  · rw [if_pos h1]
    have : Wg (s.1 ++ [lnA p i], s.2) = Wg s + 1 := Wg_snoc _ _ _
    show Wg (s.1 ++ [lnA p i], s.2) ≤ _
    omega
  rw [if_neg h1]
  by_cases h2 : knd p i = 2
  · rw [if_pos h2]; exact hrs _ _
  rw [if_neg h2]
  by_cases h3 : knd p i = 3
  · rw [if_pos h3]
    unfold againN
    split
    · exact hrs _ _
    · exact Nat.le_add_right _ _
  rw [if_neg h3]
  by_cases h4 : knd p i = 4
  · rw [if_pos h4]; exact Nat.le_add_right _ _
  rw [if_neg h4]
  by_cases h5 : knd p i = 5
  · rw [if_pos h5]; exact Nat.le_add_right _ _
  rw [if_neg h5]
  by_cases h6 : knd p i = 6
  · rw [if_pos h6]; exact Nat.le_add_right _ _
  rw [if_neg h6]
  by_cases h7 : knd p i = 7
  · rw [if_pos h7]
    have := try_W (xs := xs) H hi h7 h s
    have h8 : c * (nx p i - i) ≤ (3 * c + 2) * (nx p i - i) := Nat.mul_le_mul_right _ (by omega)
    omega
  rw [if_neg h7]
  have hnx : nx p i = bEnd p i := by unfold nx; rw [if_neg h7]
  rw [hnx] at hone m1 ⊢
  by_cases h11 : knd p i = 11
  · rw [if_pos h11]
    have hb := H i h (s.1 ++ [100 + lnA p i], s.2) hi (by rw [h11]; rfl)
    have e1 : Wg (s.1 ++ [100 + lnA p i], s.2) = Wg s + 1 := Wg_snoc _ _ _
    have e2 : Wg (withN blk p i h s).2 = Wg (blk i h (s.1 ++ [100 + lnA p i], s.2)).2 + 1 := Wg_snoc _ _ _
    have h8 : c * (bEnd p i - (i + 1)) + 2 ≤ (3 * c + 2) * (bEnd p i - i) := by
      have a1 : c * (bEnd p i - (i + 1)) ≤ 3 * c * (bEnd p i - i) := Nat.mul_le_mul (by omega) (by omega)
      have a2 : 2 ≤ 2 * (bEnd p i - i) := by omega
      rw [Nat.add_mul]; omega
    omega
  rw [if_neg h11]
  by_cases h12 : knd p i = 12
  · rw [if_pos h12]
    have hl := loop_W H hi (by rw [h12]; rfl) h (lnA p i).toNat s
    have ha := loop_a g hi h12
    rw [← lnA_at hi] at ha
    have h8 : (lnA p i).toNat * (c * (bEnd p i - (i + 1))) ≤ (3 * c + 2) * (bEnd p i - i) := by
      have a1 : (lnA p i).toNat * (c * (bEnd p i - (i + 1))) ≤ 3 * (c * (bEnd p i - i)) := Nat.mul_le_mul (by omega) (Nat.mul_le_mul_left _ (by omega))
      rw [show 3 * (c * (bEnd p i - i)) = 3 * c * (bEnd p i - i) from (Nat.mul_assoc _ _ _).symm] at a1
      rw [Nat.add_mul]; omega
    omega
  rw [if_neg h12]
  exact Nat.le_add_right _ _
theorem line_W (g : GoodP xs p) : ∀ N i h s, i < p.length → Wg (lnN xs p N h i s).2 ≤ Wg s + cW N * (nx p i - i)
  | 0, i, h, s, _ => Nat.le_add_right _ _
  | N + 1, i, h, s, hi => by
    rw [lnN_succ]
    refine step_W g (c := cW N) (fun x h s hx ho => ?_) hi h s
    have hbl := bEnd_le hx
    have hp := g.len
    have e0 : blN xs p N x h s = gB (lnN xs p N h) p (bEnd p x) (x + 1) s := gB_of _ _ 25 (by omega)
    rw [e0]
    have hB := Blk.of g hx ho
    exact gB_W g hB (cW N) (fun x s hf => lnN_fol xs p N h x s hf) (fun i s _ hib _ _ => line_W g N i h s (by omega)) (bEnd p x) (x + 1) s (by omega) (Nat.le_refl _) hB.first
theorem run_sm (g : GoodP xs p) : Sm (runI xs p).2 := by
  have hp := g.len
  have e0 : runI xs p = gB (lnN xs p 6 (-1)) p p.length 0 ([], []) := gB_of 0 ([], []) 25 (by omega)
  have h := gB_W g (Blk.all g) (cW 6) (fun x s hf => lnN_fol xs p 6 (-1) x s hf) (fun i s _ hib _ _ => line_W g 6 i (-1) s hib) p.length 0 ([], []) (by omega) (Nat.le_refl _) (Blk.all g).first
  rw [← e0] at h
  have e1 : cW 6 = 728 := rfl
  rw [e1] at h
  have e2 : Wg (([], []) : Rst) = 0 := rfl
  rw [e2] at h
  unfold Wg at h
  exact ⟨by omega, by omega⟩
end
end

section
theorem Kp.le_new {R : Nat} {lv hv lv' hv' : Value} {w W w' : World} (hl : Le w W) (h : Kp R lv hv lv' hv' W w') (hR : w.heap.size ≤ R) (h1 : lv.ownBlock = none) (h2 : hv.ownBlock = none) : Le w w' :=
  ⟨h.os.trans hl.os, h.tape.trans hl.tape, h.output.trans hl.output, Nat.le_trans hl.size h.size, fun b hb => (h.blk b (Nat.lt_of_lt_of_le hb hl.size) (by omega) (by rw [h1]; intro e; cases e) (by rw [h2]; intro e; cases e)).trans (hl.block b hb)⟩
theorem ret4 {a b d e : Value} {x y z u : Int} (h1 : a = b) (h2 : x = y) (h3 : z = u) (h4 : d = e) : Ending.returned (.agg #[a, .int .i64 x, .int .i64 z, d]) = .returned (.agg #[b, .int .i64 y, .int .i64 u, e]) := by rw [h1, h2, h3, h4]
/-- what RunProgram says, of a run -/
def rgL (b : Bool) (r : Lft × Rst) : List Int := cond b r.2.1 []
def rgH (b : Bool) (r : Lft × Rst) : List Flt := cond b (resH r.2.2 r.1) []
def rgE (b : Bool) (r : Lft × Rst) : Int := cond b (resE r.1) 0
def rgV (b : Bool) (r : Lft × Rst) : Int := cond b (resV r.2.2 r.1) 0
set_option maxHeartbeats 2000000 in
set_option maxRecDepth 100000 in
theorem iRunProgram_any (B A : Option Addr) (m c n cap : Nat) (xs : List Cls) (p : List Lin) (hm : m ≤ 1048576) (hS : vp xs p = true → Sm (runI xs p).2) (w : World) (hT : Sl w B m c xs) (hR : Sl w A n cap p) :
    Calls Try.prog 11 #[.agg #[.slice B m c], .slice A n cap] w (ResOut w (rgL (vp xs p) (runI xs p)) (rgH (vp xs p) (runI xs p)) (rgE (vp xs p) (runI xs p)) (rgV (vp xs p) (runI xs p))) := by
  have HG : Hid (vp xs p = true → GoodP xs p) := goodP_of
  have HS := Lib.hid hS
  clear hS
  obtain rfl := hR.len
  have LB := (Le.new w (.cells #[.slice B m c] 25)).trans (Le.new (w.alloc (.cells #[.slice B m c] 25)) (.cells #[.slice none 0 0, .int .i64 0, .int .i64 0, .slice none 0 0] 34))
  have R0 := ((Le.new (w.alloc (.cells #[.slice B m c] 25)) (.cells #[.slice none 0 0, .int .i64 0, .int .i64 0, .slice none 0 0] 34)).block w.heap.size (by simp)).trans (hpn (w := w) (o := .cells #[.slice B m c] 25) rfl)
  have R1 := hpn (w := w.alloc (.cells #[.slice B m c] 25)) (o := .cells #[.slice none 0 0, .int .i64 0, .int .i64 0, .slice none 0 0] 34) (b := w.heap.size + 1) (by simp)
  have hzW : w.heap.size + 1 < ((w.alloc (.cells #[.slice B m c] 25)).alloc (.cells #[.slice none 0 0, .int .i64 0, .int .i64 0, .slice none 0 0] 34)).heap.size := by simp
  have T1 := hT.le LB
  have S1 := hR.le LB
  have HBT : Hid (0 < m → ∀ a, B = some a → a.block < w.heap.size) := fun hn a e => by obtain ⟨b, off, e2, hb, _⟩ := hT.at_ hn; rw [e2] at e; injection e with e; rw [← e]; exact hb
  have HBA : Hid (0 < p.length → ∀ a, A = some a → a.block < w.heap.size) := fun hn a e => by obtain ⟨b, off, e2, hb, _⟩ := hR.at_ hn; rw [e2] at e; injection e with e; rw [← e]; exact hb
  unfold ResOut
  go_enter Try.func11, Try.ntmps11
  have t0 : ((w.alloc (.cells #[.slice B m c] 25)).alloc (.cells #[.slice none 0 0, .int .i64 0, .int .i64 0, .slice none 0 0] 34)).cell? ⟨w.heap.size, 0, none⟩ = some (.slice B m c) := cell_of_row _ w.heap.size 0 _ _ _ R0
  go_wp2_with fail
  generalize (w.alloc (.cells #[.slice B m c] 25)).alloc (.cells #[.slice none 0 0, .int .i64 0, .int .i64 0, .slice none 0 0] 34) = W at *
  refine (pValidProgram_any B A m c p.length cap xs p hm W T1 S1).mono ?_
  rintro e w2 ⟨rfl, hle⟩
  have L2 := LB.trans hle
  replace t0 := (hle.cell (by omega)).trans t0
  obtain ⟨r0, r1, r2, r3⟩ := cells4 ((hle.block _ hzW).trans R1)
  have fr := fun k => frz_row (k := k) ((hle.block _ hzW).trans R1)
  have hzW2 := Nat.lt_of_lt_of_le hzW hle.size
  have T2 := T1.le hle
  have S2 := S1.le hle
  clear T1 S1 R0 R1 hT hR hle LB
  cases hvt : vp xs p
  · have HZ : Hid (rgL (vp xs p) (runI xs p) = [] ∧ rgH (vp xs p) (runI xs p) = [] ∧ rgE (vp xs p) (runI xs p) = 0 ∧ rgV (vp xs p) (runI xs p) = 0) := by show _ ∧ _ ∧ _ ∧ _; rw [hvt]; exact ⟨rfl, rfl, rfl, rfl⟩
    clear hvt
    have f0 := fr 0
    have f1 := fr 1
    have f2 := fr 2
    have f3 := fr 3
    have ho := out4 (a := .slice none 0 0) (b := .int .i64 0) (c := .int .i64 0) (d := .slice none 0 0) r0 r1 r2 r3
    go_wp2
    obtain ⟨z0, z1, z2, z3⟩ := ho
    exact bodyPost_ret (v := .agg #[.slice none 0 0, .int .i64 0, .int .i64 0, .slice none 0 0]) (by simp [results, Try.results11, go_sem, z0, z1, z2, z3]) rfl ⟨_, _, ret4 rfl HZ.out.2.2.1.symm HZ.out.2.2.2.symm rfl, by rw [HZ.out.1]; exact Owd.nil _ _ _, by rw [HZ.out.2.1]; exact Owd.nil _ _ _, (show Apart (.slice none 0 0) (.slice none 0 0) from .inl rfl), (((L2.setCell (by omega) _).setCell (by omega) _).setCell (by omega) _).setCell (by omega) _⟩
  · have g := HG.out hvt
    have hs := HS.out hvt
    have hp := g.len
    have LR := Le.new w2 (.cells #[.slice B m c, .slice A p.length cap, .slice none 0 0, .slice none 0 0] 60)
    have RR := hpn (w := w2) (o := .cells #[.slice B m c, .slice A p.length cap, .slice none 0 0, .slice none 0 0] 60) (b := w2.heap.size) rfl
    obtain ⟨u0, u1, u2, u3⟩ := cells4 RR
    have hs2 := L2.size
    have RN : Rn (w2.alloc (.cells #[.slice B m c, .slice A p.length cap, .slice none 0 0, .slice none 0 0] 60)) w2.heap.size B m c xs A p.length cap p (.slice none 0 0) (.slice none 0 0) [] [] :=
      ⟨by simp, u0, u1, u2, u3, frz_row RR, frz_row RR, T2.le LR, S2.le LR, fun hn a e => by have := HBT.out hn a e; omega, fun hn a e => by have := HBA.out hn a e; omega, World.ownsRow_nil _ _ _ _, World.ownsRow_nil _ _ _ _, (fun k e => by cases e), (fun _ h => nomatch h), (fun _ h => nomatch h), (fun e => by cases e), (fun e => by cases e)⟩
    have gd0 : Gd xs ([] : List Flt) := fun k h => absurd h (Nat.not_lt_zero _)
    have hd0 : Hd (-1) (([], []) : Rst) := ⟨by omega, by show (-1 : Int) < ((0 : Nat) : Int); omega⟩
    have F : Fw xs ([], []) (runI xs p) := Fw.goB (xs := xs) (p := p) (ln := lnN xs p 6 (-1)) (a := 0) (b := p.length) (h := -1) (OK := fun _ => True) (fun _ _ _ _ _ => trivial) (fun i s _ hib _ g1 hh1 => lfw_all g 6 i (-1) s hib g1 hh1) 25 0 ([], []) (Nat.le_refl _) (fun _ => trivial) gd0 hd0
    have HA : AtOk w2.heap.size m c p.length cap B A xs p 36 #[.pointer (some ⟨w2.heap.size, 0, none⟩), .int .i64 0, .int .i64 p.length, .int .i64 (-1)] (.slice none 0 0) (.slice none 0 0) (w2.alloc (.cells #[.slice B m c, .slice A p.length cap, .slice none 0 0, .slice none 0 0] 60)) (runI xs p) := at_of w2.heap.size m c p.length cap B A xs p g 6 (ln_all w2.heap.size m c p.length cap B A xs p g 6) 0 p.length (Nat.le_refl _) (Nat.zero_le _) (fun i _ h => by have := (g.line i h).2.1.1; omega) (-1) ([], []) gd0 hd0 hs (.slice none 0 0) (.slice none 0 0) _ RN
    have hf := F.rai
    have gd := F.gd
    clear F RR u0 u1 u2 u3 RN HG HS
    obtain ⟨r, hr⟩ : ∃ r, runI xs p = r := ⟨_, rfl⟩
    rw [hr] at HA hs hf gd
    have HZ : Hid (rgL (vp xs p) (runI xs p) = r.2.1 ∧ rgH (vp xs p) (runI xs p) = resH r.2.2 r.1 ∧ rgE (vp xs p) (runI xs p) = resE r.1 ∧ rgV (vp xs p) (runI xs p) = resV r.2.2 r.1) := by show _ ∧ _ ∧ _ ∧ _; rw [hvt, hr]; exact ⟨rfl, rfl, rfl, rfl⟩
    clear hr hvt
    rcases r with ⟨l, s⟩
    go_wp2_with fail
    refine (show Calls _ _ _ _ _ from HA).mono ?_
    rintro e w4 ⟨rfl, lv, hv, RN, KP⟩
    have L4 := Kp.le_new (L2.trans LR) KP hs2 rfl rfl
    have hne : w.heap.size + 1 ≠ w2.heap.size := by omega
    have hzW3 := Nat.lt_of_lt_of_le hzW2 LR.size
    replace r0 := KP.cell hzW3 hne (by intro e; cases e) (by intro e; cases e) ((LR.cell hzW2).trans r0)
    replace r1 := KP.cell hzW3 hne (by intro e; cases e) (by intro e; cases e) ((LR.cell hzW2).trans r1)
    replace r2 := KP.cell hzW3 hne (by intro e; cases e) (by intro e; cases e) ((LR.cell hzW2).trans r2)
    replace r3 := KP.cell hzW3 hne (by intro e; cases e) (by intro e; cases e) ((LR.cell hzW2).trans r3)
    replace fr : ∀ k, w4.frozen? ⟨w.heap.size + 1, k, none⟩ = false := fun k => KP.frozen hzW3 hne (by intro e; cases e) (by intro e; cases e) ((LR.frozen hzW2).trans (fr k))
    have hzW4 := Nat.lt_of_lt_of_le hzW3 KP.size
    have hnl : lv.ownBlock ≠ some (w.heap.size + 1) := KP.ownL hzW3 (by intro e; cases e)
    have RNH := Lib.hid RN
    clear HA KP T2 S2 LR
    go_wp2_with fail
    refine (result_any w2.heap.size m c p.length cap B A xs p lv hv l s gd hf hs w4 RNH.out).mono ?_
    rintro e w5 ⟨hv5, rfl, D5, hl5⟩
    replace r0 := (hl5.cell hzW4).trans r0
    replace r1 := (hl5.cell hzW4).trans r1
    replace r2 := (hl5.cell hzW4).trans r2
    replace r3 := (hl5.cell hzW4).trans r3
    have f0 := (hl5.frozen hzW4).trans (fr 0)
    have f1 := (hl5.frozen hzW4).trans (fr 1)
    have f2 := (hl5.frozen hzW4).trans (fr 2)
    have f3 := (hl5.frozen hzW4).trans (fr 3)
    have L5 := L4.trans hl5
    have O5 : Owd 3 w w5 lv s.1 := Owd.le ⟨own_mono RNH.out.O (by omega), RNH.out.okl⟩ hl5
    have P5 : Apart lv hv5 := by
      cases e : lv.ownBlock with
      | none => exact .inl e
      | some k => exact .inr (fun e2 => by have h1 := (RNH.out.O.lt k e).2; have h2 := (D5.row.lt k (e2 ▸ e)).1; omega)
    have hnh : hv5.ownBlock ≠ some (w.heap.size + 1) := fun e => by have := (D5.row.lt _ e).1; omega
    have D6 := D5.mono L4
    obtain ⟨A7, c7, rfl⟩ := own_form O5.row
    obtain ⟨A8, c8, rfl⟩ := own_form D6.row
    have HF : Hid (∀ a b c d, Owd 3 w ((((w5.setCell ⟨w.heap.size + 1, 0, none⟩ a).setCell ⟨w.heap.size + 1, 1, none⟩ b).setCell ⟨w.heap.size + 1, 2, none⟩ c).setCell ⟨w.heap.size + 1, 3, none⟩ d) (.slice A7 s.1.length c7) s.1 ∧ Owd 74 w ((((w5.setCell ⟨w.heap.size + 1, 0, none⟩ a).setCell ⟨w.heap.size + 1, 1, none⟩ b).setCell ⟨w.heap.size + 1, 2, none⟩ c).setCell ⟨w.heap.size + 1, 3, none⟩ d) (.slice A8 (resH s.2 l).length c8) (resH s.2 l)) := fun a b c d => ⟨(((O5.setO hnl).setO hnl).setO hnl).setO hnl, (((D6.setO hnh).setO hnh).setO hnh).setO hnh⟩
    have ho := out4 (a := .slice A7 s.1.length c7) (b := .int .i64 (resE l)) (c := .int .i64 (resV s.2 l)) (d := .slice A8 (resH s.2 l).length c8) r0 r1 r2 r3
    clear hl5 D5 D6 O5
    go_wp2
    obtain ⟨z0, z1, z2, z3⟩ := ho
    exact bodyPost_ret (v := .agg #[.slice A7 s.1.length c7, .int .i64 (resE l), .int .i64 (resV s.2 l), .slice A8 (resH s.2 l).length c8]) (by simp [results, Try.results11, go_sem, z0, z1, z2, z3]) rfl ⟨_, _, ret4 rfl HZ.out.2.2.1.symm HZ.out.2.2.2.symm rfl, by rw [HZ.out.1]; exact (HF.out _ _ _ _).1, by rw [HZ.out.2.1]; exact (HF.out _ _ _ _).2, P5, (((L5.setCell (by omega) _).setCell (by omega) _).setCell (by omega) _).setCell (by omega) _⟩
end

section
def rpL (xs : List Cls) (p : List Lin) : List Int := rgL (vp xs p) (runI xs p)
def rpH (xs : List Cls) (p : List Lin) : List Flt := rgH (vp xs p) (runI xs p)
def rpE (xs : List Cls) (p : List Lin) : Int := rgE (vp xs p) (runI xs p)
def rpV (xs : List Cls) (p : List Lin) : Int := rgV (vp xs p) (runI xs p)
theorem rpL_len (xs : List Cls) (p : List Lin) : (rpL xs p).length ≤ 1048576 := by
  unfold rpL rgL
  cases h : vp xs p
  · exact Nat.zero_le _
  · have := (run_sm (goodP_of h)).1
    show (runI xs p).2.1.length ≤ _
    omega
theorem iRp_any (B A : Option Addr) (m c n cap : Nat) (xs : List Cls) (p : List Lin) (hm : m ≤ 1048576) (w : World) (hT : Sl w B m c xs) (hR : Sl w A n cap p) :
    Calls Try.prog 11 #[.agg #[.slice B m c], .slice A n cap] w (ResOut w (rpL xs p) (rpH xs p) (rpE xs p) (rpV xs p)) :=
  iRunProgram_any B A m c n cap xs p hm (fun h => run_sm (goodP_of h)) w hT hR
theorem fld0 (a b c d : Value) (w : World) : (Instr.field 34 (.agg #[a, b, c, d]) 0).run Try.prog w = .ok a w := by kernel_rfl
theorem fld1 (a c d : Value) (b : Int) (w : World) : (Instr.field 34 (.agg #[a, .int .i64 b, c, d]) 1).run Try.prog w = .ok (.int .i64 b) w := by kernel_rfl
end

section
def deep (x : Lin) : Lin := { x with depth := x.depth + 1 }
def passL : Lin := ⟨1, 0, 0, 0⟩
def undL (h : Lin) (p : List Lin) : List Lin := h :: (if p = [] then [passL] else p.map deep)
theorem undL_nil (h : Lin) : undL h [] = [h, passL] := rfl
theorem undL_some {h : Lin} {p : List Lin} (hp : 0 < p.length) : undL h p = h :: p.map deep := by
  unfold undL
  rw [if_neg (fun e => by rw [e] at hp; simp at hp)]
theorem deep_ok {x : Lin} (h : Enc.ok x) (hd : x.depth ≤ 5) : Enc.ok (deep x) := ⟨by have := h.1; simp only [deep]; omega, by simp only [deep]; omega, h.2.2.1, h.2.2.2.1, h.2.2.2.2.1, h.2.2.2.2.2.1, h.2.2.2.2.2.2.1, h.2.2.2.2.2.2.2⟩
theorem pass_ok : Enc.ok passL := ⟨by decide, by decide, by decide, by decide, by decide, by decide, by decide, by decide⟩
theorem undL_ok {h : Lin} {p : List Lin} (hh : Enc.ok h) (hp : ∀ x ∈ p, Enc.ok x) (hd : ∀ x ∈ p, x.depth ≤ 5) : ∀ x ∈ undL h p, Enc.ok x := by
  intro x hx
  unfold undL at hx
  rcases List.mem_cons.1 hx with rfl | hx
  · exact hh
  · split at hx
    · rw [List.mem_singleton.1 hx]; exact pass_ok
    · obtain ⟨y, hy, rfl⟩ := List.mem_map.1 hx
      exact deep_ok (hp y hy) (hd y hy)
theorem undL_len (h : Lin) (p : List Lin) : (undL h p).length ≤ p.length + 2 := by
  unfold undL
  split
  · simp
  · simp
set_option maxHeartbeats 2000000 in
set_option maxRecDepth 100000 in
theorem iunder_any (h : Lin) (A : Option Addr) (n cap : Nat) (p : List Lin) (hsm : p.length ≤ 1048576) (hh : Enc.ok h) (hd : ∀ x ∈ p, x.depth ≤ 5) (w : World) (hR : Sl w A n cap p) :
    Calls Try.prog 51 #[.agg #[.int .i64 h.depth, .int .i64 h.kind, .int .i64 h.a, .int .i64 h.b], .slice A n cap] w fun e w' => ∃ v, e = .returned v ∧ Owd 42 w w' v (undL h p) ∧ Le w w' := by
  obtain rfl := hR.len
  obtain ⟨i0, hq, hz0, hz1, hz2⟩ := info_parts infoLn
  have HOK := Lib.hid (undL_ok hh hR.ok hd)
  have HH := Lib.hid hh
  have HD := Lib.hid hd
  have HRO := Lib.hid hR.ok
  clear hd
  go_enter Try.func51, Try.ntmps51
  by_cases hp0 : p.length = 0
  · have hp0b : ((p.length : Int) == 0) = true := by (rw [beq_iff_eq]; omega)
    obtain rfl : p = [] := List.eq_nil_of_length_eq_zero hp0
    clear hp0
    have O0 : ((w.alloc (.cells #[.int .i64 h.depth, .int .i64 h.kind, .int .i64 h.a, .int .i64 h.b] 42)).alloc (.cells #[.int .i64 h.depth, .int .i64 h.kind, .int .i64 h.a, .int .i64 h.b] 42)).ownsRow w.heap.size 42 4 (.slice (some ⟨w.heap.size + 1, 0, none⟩) 1 1) 1 ([h].flatMap Enc.cells) := by
      have := World.ownsRow_lit (base := w.heap.size) (e := 42) (size := 4) (w.alloc (.cells #[.int .i64 h.depth, .int .i64 h.kind, .int .i64 h.a, .int .i64 h.b] 42)) #[.int .i64 h.depth, .int .i64 h.kind, .int .i64 h.a, .int .i64 h.b] 1 (by simp) (by unfold maxLen; omega) (by simp)
      simpa [Enc.cells] using this
    have L0 := (Le.new w (.cells #[.int .i64 h.depth, .int .i64 h.kind, .int .i64 h.a, .int .i64 h.b] 42)).alloc (.cells #[.int .i64 h.depth, .int .i64 h.kind, .int .i64 h.a, .int .i64 h.b] 42)
    go_wp2_with (at_builtin; refine wpList_append_sl rfl _ _ 26 rfl w.heap.size 42 i0 _ 32 Try.underlying26 hq hz0 hz1 hz2 rfl (.slice (some ⟨w.heap.size + 1, 0, none⟩) 1 1) 1 [h] rfl (O0.alloc _) _ 1 1 [passL] rfl (sl_one passL rfl pass_ok (by simp)) (by unfold maxLen; omega) (by omega) (L0.alloc _).size ?_; intro v1 w3 OA hgA _; have LA := (L0.alloc _).grown hgA (fun k hk => (O0.lt k hk).1))
    go_ret
    exact ⟨_, rfl, ⟨OA, HOK.out⟩, LA⟩
  · have hp0b : ((p.length : Int) == 0) = false := bf (by omega)
    have HU : Hid (undL h p = h :: p.map deep) := undL_some (by omega)
    have O0 : ((w.alloc (.cells #[.int .i64 h.depth, .int .i64 h.kind, .int .i64 h.a, .int .i64 h.b] 42)).alloc (.cells #[.int .i64 h.depth, .int .i64 h.kind, .int .i64 h.a, .int .i64 h.b] 42)).ownsRow w.heap.size 42 4 (.slice (some ⟨w.heap.size + 1, 0, none⟩) 1 1) 1 ([h].flatMap Enc.cells) := by
      have := World.ownsRow_lit (base := w.heap.size) (e := 42) (size := 4) (w.alloc (.cells #[.int .i64 h.depth, .int .i64 h.kind, .int .i64 h.a, .int .i64 h.b] 42)) #[.int .i64 h.depth, .int .i64 h.kind, .int .i64 h.a, .int .i64 h.b] 1 (by simp) (by unfold maxLen; omega) (by simp)
      simpa [Enc.cells] using this
    have L0 := (Le.new w (.cells #[.int .i64 h.depth, .int .i64 h.kind, .int .i64 h.a, .int .i64 h.b] 42)).alloc (.cells #[.int .i64 h.depth, .int .i64 h.kind, .int .i64 h.a, .int .i64 h.b] 42)
    go_wp2
    go_loopw [5, 7, 19] (fun v _ q wr => ∃ (k : Nat), k ≤ p.length ∧ q = .int .i64 k ∧ wr.ownsRow w.heap.size 42 4 v (k + 1) ((h :: (p.take k).map deep).flatMap Enc.cells) ∧ Le w wr) (fun _ _ q _ => p.length - (intOf q).toNat)
    case atStart => exact ⟨0, Nat.zero_le _, rfl, by simpa using O0, L0⟩
    case round =>
      obtain ⟨k, hk, rfl, O1, L1⟩ := hrel
      have S := hR.le L1
      have hs := L1.size
      clear O0 L0
      by_cases hlt : k < p.length
      · obtain ⟨b, off, rfl, hb, d0, d1, d2, d3, -⟩ := S.lin_at hlt
        have hdk := HD.out _ (List.getElem_mem hlt)
        have hok := Lib.hid (deep_ok (HRO.out _ (List.getElem_mem hlt)) hdk)
        have hlo := (HRO.out _ (List.getElem_mem hlt)).1
        have HT : Hid ((h :: (p.take (k + 1)).map deep) = (h :: (p.take k).map deep) ++ [deep p[k]]) := by
          show _ = _
          rw [List.take_succ_eq_append_getElem hlt, List.map_append]; rfl
        have HDE : Hid (deep p[k] = ⟨p[k].depth + 1, p[k].kind, p[k].a, p[k].b⟩) := rfl
        have hw1 : IntKind.i64.wrap (p[k].depth + 1) = p[k].depth + 1 := IntWalk.i64_in _ (by omega)
        generalize deep p[k] = y at *
        generalize p[k].depth = vd at *
        generalize p[k].kind = vk at *
        generalize p[k].a = va at *
        generalize p[k].b = vb at *
        have ey := HDE.out
        subst ey
        generalize (h :: (p.take k).map deep) = E at *
        clear HDE
        go_wp2_with (at_builtin; refine wpList_append_sl rfl _ _ 26 rfl w.heap.size 42 i0 _ 32 Try.underlying26 hq hz0 hz1 hz2 rfl _ (k + 1) E rfl ((O1.alloc _).alloc _) _ 1 1 [(⟨vd + 1, vk, va, vb⟩ : Lin)] rfl (sl_one (⟨vd + 1, vk, va, vb⟩ : Lin) rfl hok.out (by simp)) (by unfold maxLen; omega) (by omega) ((L1.alloc _).alloc _).size ?_; intro v1 w3 OA hgA _; have LA := ((L1.alloc _).alloc _).grown hgA (fun k hk => (O1.lt k hk).1))
        go_roundw
        case rel => exact ⟨k + 1, by omega, by go_num, by rw [HT.out]; exact OA, LA⟩
        case measure => simp [intOf]; omega
      · obtain rfl : k = p.length := by omega
        have HF : Hid (∀ v, wr.ownsRow w.heap.size 42 4 v (p.length + 1) ((h :: (p.take p.length).map deep).flatMap Enc.cells) → Owd 42 w wr v (undL h p)) := fun v hv => by
          rw [List.take_length, ← HU.out] at hv
          exact ⟨by rw [show (undL h p).length = p.length + 1 by rw [HU.out]; simp]; exact hv, HOK.out⟩
        go_wp2
        go_ret
        exact ⟨_, rfl, HF.out _ O1, L1⟩
/-- a program that has been held against the rules -/
def chkX (xs : List Cls) (p : List Lin) : List Lin := cond (vp xs p) p []
end

section
/-! what a result is, by the tree -/
def enE : Lf2 → Int
  | .ret _ => 1
  | .rai _ => 2
  | _ => 0
def enV : Lf2 → Int
  | .ret v => v
  | .rai c => (c.length : Int) - 1
  | _ => 0
def enH : Lf2 → List Flt
  | .rai c => hpC c
  | _ => []
theorem tree_vp {xs : List Cls} {p : List Lin} (hv : vp xs p = true) : ∃ F, p = flatP 0 F := by
  have a := vp_iff.1 hv
  have hd : ∀ i (h : i < p.length), 0 ≤ p[i].depth := fun i h => by have := (a.2.2 i h).2.1.1.1; rw [dep_at h] at this; exact this
  obtain ⟨F, hF⟩ := tree_of p.length p 0 (Nat.le_refl _) (fun z t h => by
    subst h
    have := (a.2.2 0 (by simp)).2.1.2.1 rfl
    rw [dep_at (by simp)] at this; exact this) (fun x hx => by
    obtain ⟨i, hi, rfl⟩ := List.getElem_of_mem hx
    exact hd i hi) (fun i hi => by
    have := ((a.2.2 (i + 1) hi).2.1.2.2 i rfl).1
    rw [dep_at hi, dep_at (by omega)] at this; exact this)
  exact ⟨F, hF.symm⟩
theorem hgt_vp {xs : List Cls} {p : List Lin} {F : Fq} (hv : vp xs p = true) (hp : p = flatP 0 F) : hgt F ≤ 5 := by
  have a := vp_iff.1 hv
  cases F with
  | nil => simp [hgt]
  | nd k b c d r =>
    have := hgt_le (.nd k b c d r) 0 (fun x hx => by
      rw [← hp] at hx
      obtain ⟨i, hi, rfl⟩ := List.getElem_of_mem hx
      have := (a.2.2 i hi).2.1.1.2; rw [dep_at hi] at this; exact this) (by intro h; cases h)
    omega
/-- what a program does -/
def evP (xs : List Cls) (F : Fq) : Ans := blkI xs (sem xs F) []
structure RpT (xs : List Cls) (p : List Lin) (x : Ans) : Prop where
  l : rpL xs p = x.2
  e : rpE xs p = enE x.1
  v : rpV xs p = enV x.1
  h : rpH xs p = enH x.1
  j : x.1 ≠ .brk ∧ x.1 ≠ .cnt
  c : ∀ c, x.1 = .rai c → c ≠ [] ∧ hasK xs (hdC c) = true
theorem rp_tree {xs : List Cls} {p : List Lin} {F : Fq} (hv : vp xs p = true) (hp : p = flatP 0 F) : RpT xs p (evP xs F) := by
  have g := goodP_of hv
  have S := run_tree xs hp g.len (hgt_vp hv hp)
  have J := run_jl g
  have FW := lfw_all g 6
  have en := S.en
  have lg := S.lg
  have gc := S.gc
  have hgd : Gd xs (runI xs p).2.2 := by
    have F2 := Fw.goB (xs := xs) (p := p) (ln := lnN xs p 6 (-1)) (a := 0) (b := p.length) (h := -1) (OK := fun _ => True) (fun _ _ _ _ _ => trivial) (fun i s _ hib _ g1 hh1 => lfw_all g 6 i (-1) s (by omega) g1 hh1) 25 0 ([], []) (Nat.zero_le _) (fun _ => trivial) (fun k h => absurd h (by simp)) ⟨by omega, by simp⟩
    exact F2.gd
  have e1 : rpL xs p = (runI xs p).2.1 := by unfold rpL rgL; rw [hv]; rfl
  have e2 : rpE xs p = resE (runI xs p).1 := by unfold rpE rgE; rw [hv]; rfl
  have e3 : rpV xs p = resV (runI xs p).2.2 (runI xs p).1 := by unfold rpV rgV; rw [hv]; rfl
  have e4 : rpH xs p = resH (runI xs p).2.2 (runI xs p).1 := by unfold rpH rgH; rw [hv]; rfl
  unfold evP
  rw [List.nil_append] at lg
  generalize runI xs p = r at *
  generalize blkI xs (sem xs F) [] = x at *
  obtain ⟨l, lg2, hs⟩ := r
  obtain ⟨e, t⟩ := x
  dsimp only at *
  rcases l with _ | v | q | _ | _ <;> rcases e with _ | u | c2 | _ | _ <;> first | exact absurd en (fun h => h) | skip
  · exact ⟨e1.trans lg, e2, e3, e4, ⟨nofun, nofun⟩, fun c h => by cases h⟩
  · have en' : v = u := en
    subst en'
    exact ⟨e1.trans lg, e2, e3, e4, ⟨nofun, nofun⟩, fun c h => by cases h⟩
  · obtain ⟨q0, q1, qc⟩ := en
    have I := iso_ch gc q0 q1
    rw [qc] at I
    refine ⟨e1.trans lg, e2, e3.trans I.2.1, e4.trans I.1, ⟨nofun, nofun⟩, fun c h => ?_⟩
    injection h with h
    subst h
    refine ⟨I.2.2, ?_⟩
    obtain ⟨i, rfl⟩ := Int.eq_ofNat_of_zero_le q0
    have hi : i < hs.length := by omega
    rw [← qc, chF_at gc hi]
    exact (hgd i hi).1
  · exact absurd rfl J.1
  · exact absurd rfl J.2
/-! trees one behind the other, deeper -/
def fapp : Fq → Fq → Fq
  | .nil, G => G
  | .nd k a b c r, G => .nd k a b c (fapp r G)
theorem flat_app : ∀ (F G : Fq) (d : Int), flatP d (fapp F G) = flatP d F ++ flatP d G
  | .nil, G, d => by rw [fapp, flatP, List.nil_append]
  | .nd k a b c r, G, d => by rw [fapp, flatP, flat_app r G d, flatP]; simp
theorem sem_app (xs : List Cls) : ∀ F G : Fq, sem xs (fapp F G) = sem xs F ++ sem xs G
  | .nil, G => rfl
  | .nd k a b c r, G => by rw [fapp, sem, sem_app xs r G, sem]; rfl
theorem flat_deep : ∀ (F : Fq) (d : Int), (flatP d F).map deep = flatP (d + 1) F
  | .nil, d => rfl
  | .nd k a b c r, d => by
    rw [flatP, List.map_cons, List.map_append, flat_deep c (d + 1), flat_deep r d, flatP]; rfl
theorem flat_nil {F : Fq} {d : Int} (h : flatP d F = []) : F = .nil := by
  cases F with
  | nil => rfl
  | nd k a b c r => rw [flatP] at h; cases h
def orP : Fq → Fq
  | .nil => .nd 0 0 0 .nil .nil
  | F => F
theorem und_flat (k a b : Int) (F : Fq) : undL ⟨0, k, a, b⟩ (flatP 0 F) = flatP 0 (.nd k a b (orP F) .nil) := by
  cases F with
  | nil => rfl
  | nd k2 a2 b2 c2 r2 =>
    have h : flatP 0 (.nd k2 a2 b2 c2 r2) ≠ [] := by rw [flatP]; intro h; cases h
    unfold undL
    rw [if_neg h, flat_deep]
    show _ = _ :: (flatP (0 + 1) (.nd k2 a2 b2 c2 r2) ++ [])
    rw [List.append_nil]
theorem ev_orP (xs : List Cls) (F : Fq) (H : List (Int × Int)) : blkI xs (sem xs (orP F)) H = blkI xs (sem xs F) H := by
  cases F with
  | nil => rfl
  | nd k2 a2 b2 c2 r2 => rfl
def NoF (I : List Itm) : Prop := ∀ y r, I = y :: r → fol y.k = false
theorem seqA_nil (x : Ans) : seqA x (.nil, []) = x := by
  obtain ⟨l, t⟩ := x
  cases l <;> simp [seqA, addT]
theorem seqA_assoc (x y z : Ans) : seqA (seqA x y) z = seqA x (seqA y z) := by
  obtain ⟨l, t⟩ := x
  obtain ⟨l2, t2⟩ := y
  cases l <;> cases l2 <;> simp [seqA, addT]
theorem pts_app {B : List Itm} (hB : NoF B) : ∀ (A : List Itm) (k : Int), ptsI k (A ++ B) = ptsI k A
  | [], k => by
    cases B with
    | nil => rfl
    | cons y r =>
      have := hB y r rfl
      show (if mayF k y.k = true then _ else _) = []
      rw [if_neg]
      intro h
      have := mayF_iff.1 h
      unfold fol at *
      simp at *
      omega
  | y :: A, k => by
    show (if mayF k y.k = true then y :: ptsI y.k (A ++ B) else []) = if mayF k y.k = true then y :: ptsI y.k A else []
    rw [pts_app hB A y.k]
theorem stp_app (xs : List Cls) {B : List Itm} (hB : NoF B) (y : Itm) (r : List Itm) (H : List (Int × Int)) : stpI xs y (r ++ B) H = stpI xs y r H := by
  unfold stpI; rw [pts_app hB]
theorem blk_app (xs : List Cls) {B : List Itm} (hB : NoF B) : ∀ (A : List Itm) (H : List (Int × Int)), blkI xs (A ++ B) H = seqA (blkI xs A H) (blkI xs B H)
  | [], H => by
    show blkI xs B H = seqA (.nil, []) (blkI xs B H)
    obtain ⟨l, t⟩ := blkI xs B H
    rfl
  | y :: A, H => by
    show seqA (stpI xs y (A ++ B) H) (blkI xs (A ++ B) H) = seqA (seqA (stpI xs y A H) (blkI xs A H)) (blkI xs B H)
    rw [stp_app xs hB, blk_app xs hB A H, seqA_assoc]
theorem noF_vp {xs : List Cls} {p : List Lin} {F : Fq} (hv : vp xs p = true) (hp : p = flatP 0 F) : NoF (sem xs F) := by
  intro y r e
  cases F with
  | nil => cases e
  | nd k a b c s =>
    rw [sem] at e
    injection e with e1 e2
    subst e1
    by_cases hf : fol k = true
    · exfalso
      have g := goodP_of hv
      have h0 : 0 < p.length := by rw [hp, flatP]; simp
      have hk : knd p 0 = k := by rw [knd_at h0]; subst hp; rfl
      obtain ⟨j, hj, _⟩ := (g.tries 0 h0).2 (by rw [hk]; exact hf)
      omega
    · exact Bool.eq_false_iff.2 hf
/-! ThenProgram, InLoop, InLoopTwice -/
theorem then_ev {xs : List Cls} {p q : List Lin} (h1 : vp xs p = true) (h2 : vp xs q = true) (h3 : vp xs (p ++ q) = true) : ∃ x y, RpT xs p x ∧ RpT xs q y ∧ RpT xs (p ++ q) (seqA x y) := by
  obtain ⟨F, hF⟩ := tree_vp h1
  obtain ⟨G, hG⟩ := tree_vp h2
  refine ⟨_, _, rp_tree h1 hF, rp_tree h2 hG, ?_⟩
  have := rp_tree (F := fapp F G) h3 (by rw [flat_app, ← hF, ← hG])
  unfold evP at this ⊢
  rw [sem_app, blk_app xs (noF_vp h2 hG)] at this
  exact this
theorem then_no {xs : List Cls} {p q : List Lin} (h1 : vp xs p = true) (h2 : vp xs q = true) (h3 : vp xs (p ++ q) = true) (he : rpE xs p ≠ 0) : rpL xs (p ++ q) = rpL xs p ∧ rpE xs (p ++ q) = rpE xs p ∧ rpV xs (p ++ q) = rpV xs p ∧ rpH xs (p ++ q) = rpH xs p := by
  obtain ⟨x, y, a, b, c⟩ := then_ev h1 h2 h3
  rw [a.e] at he
  have : seqA x y = x := by
    obtain ⟨l, t⟩ := x
    cases l <;> first | rfl | exact absurd rfl he
  rw [this] at c
  rw [a.l, a.e, a.v, a.h]
  exact ⟨c.l, c.e, c.v, c.h⟩
theorem then_yes {xs : List Cls} {p q : List Lin} (h1 : vp xs p = true) (h2 : vp xs q = true) (h3 : vp xs (p ++ q) = true) (he : rpE xs p = 0) : rpL xs (p ++ q) = rpL xs p ++ rpL xs q ∧ rpE xs (p ++ q) = rpE xs q ∧ rpV xs (p ++ q) = rpV xs q ∧ rpH xs (p ++ q) = rpH xs q := by
  obtain ⟨x, y, a, b, c⟩ := then_ev h1 h2 h3
  rw [a.e] at he
  have hx : x.1 = .nil := by
    have := a.j
    obtain ⟨l, t⟩ := x
    cases l <;> first | rfl | exact absurd (show (1 : Int) = 0 from he) (by decide) | exact absurd (show (2 : Int) = 0 from he) (by decide) | exact absurd rfl this.1 | exact absurd rfl this.2
  have : seqA x y = (y.1, x.2 ++ y.2) := by unfold seqA; rw [hx]; rfl
  rw [this] at c
  rw [a.l, b.l, b.e, b.v, b.h]
  exact ⟨c.l, c.e, c.v, c.h⟩
theorem loop_ev {xs : List Cls} {p : List Lin} {n : Int} (h1 : vp xs p = true) (h2 : vp xs (undL ⟨0, 12, n, 0⟩ p) = true) : ∃ x, RpT xs p x ∧ RpT xs (undL ⟨0, 12, n, 0⟩ p) (loopI x n.toNat) := by
  obtain ⟨F, hF⟩ := tree_vp h1
  refine ⟨_, rp_tree h1 hF, ?_⟩
  have := rp_tree (F := .nd 12 n 0 (orP F) .nil) h2 (by rw [hF, und_flat])
  unfold evP at this ⊢
  rw [sem, sem, blkI] at this
  rw [show stpI xs ⟨12, n, 0, blkI xs (sem xs (orP F))⟩ [] [] = loopI (blkI xs (sem xs (orP F)) []) n.toNat from rfl] at this
  rw [show blkI xs [] [] = (.nil, []) from rfl, seqA_nil, ev_orP] at this
  exact this
/-- a text told n times -/
def repL (t : List Int) : Nat → List Int
  | 0 => []
  | n + 1 => t ++ repL t n
theorem repL_snoc (t : List Int) : ∀ n, repL t (n + 1) = repL t n ++ t
  | 0 => by simp [repL]
  | n + 1 => by
    show t ++ repL t (n + 1) = (t ++ repL t n) ++ t
    rw [repL_snoc t n, List.append_assoc]
theorem loop_nilI (t : List Int) : ∀ n, loopI (.nil, t) n = (.nil, repL t n)
  | 0 => rfl
  | n + 1 => by
    show addT t (loopI (.nil, t) n) = _
    rw [loop_nilI t n]; rfl
theorem loop_0 {xs : List Cls} {p : List Lin} (h1 : vp xs p = true) (h2 : vp xs (undL ⟨0, 12, 0, 0⟩ p) = true) : rpL xs (undL ⟨0, 12, 0, 0⟩ p) = [] ∧ rpE xs (undL ⟨0, 12, 0, 0⟩ p) = 0 := by
  obtain ⟨x, a, b⟩ := loop_ev h1 h2
  exact ⟨b.l, b.e⟩
theorem loop_no {xs : List Cls} {p : List Lin} {n : Int} (h1 : vp xs p = true) (h2 : vp xs (undL ⟨0, 12, n, 0⟩ p) = true) (hn : 0 < n) (he : rpE xs p ≠ 0) : rpL xs (undL ⟨0, 12, n, 0⟩ p) = rpL xs p ∧ rpE xs (undL ⟨0, 12, n, 0⟩ p) = rpE xs p ∧ rpV xs (undL ⟨0, 12, n, 0⟩ p) = rpV xs p ∧ rpH xs (undL ⟨0, 12, n, 0⟩ p) = rpH xs p := by
  obtain ⟨x, a, b⟩ := loop_ev h1 h2
  rw [a.e] at he
  have : loopI x n.toNat = x := by
    obtain ⟨m, hm⟩ : ∃ m, n.toNat = m + 1 := ⟨n.toNat - 1, by omega⟩
    rw [hm]
    obtain ⟨l, t⟩ := x
    cases l <;> first | rfl | exact absurd rfl he
  rw [this] at b
  rw [a.l, a.e, a.v, a.h]
  exact ⟨b.l, b.e, b.v, b.h⟩
theorem nil_of {xs : List Cls} {p : List Lin} {x : Ans} (a : RpT xs p x) (he : rpE xs p = 0) : x = (.nil, rpL xs p) := by
  rw [a.e] at he
  have := a.j
  rw [a.l]
  obtain ⟨l, t⟩ := x
  cases l <;> first | rfl | exact absurd (show (1 : Int) = 0 from he) (by decide) | exact absurd (show (2 : Int) = 0 from he) (by decide) | exact absurd rfl this.1 | exact absurd rfl this.2
theorem loop_yes {xs : List Cls} {p : List Lin} {n : Int} (h1 : vp xs p = true) (h2 : vp xs (undL ⟨0, 12, n, 0⟩ p) = true) (he : rpE xs p = 0) : rpL xs (undL ⟨0, 12, n, 0⟩ p) = repL (rpL xs p) n.toNat ∧ rpE xs (undL ⟨0, 12, n, 0⟩ p) = 0 := by
  obtain ⟨x, a, b⟩ := loop_ev h1 h2
  rw [nil_of a he, loop_nilI] at b
  exact ⟨b.l, b.e⟩
theorem loop_two {xs : List Cls} {p : List Lin} (h1 : vp xs p = true) (h2 : vp xs (undL ⟨0, 12, 2, 0⟩ p) = true) (h3 : vp xs (p ++ p) = true) : rpL xs (undL ⟨0, 12, 2, 0⟩ p) = rpL xs (p ++ p) ∧ rpE xs (undL ⟨0, 12, 2, 0⟩ p) = rpE xs (p ++ p) ∧ rpV xs (undL ⟨0, 12, 2, 0⟩ p) = rpV xs (p ++ p) ∧ rpH xs (undL ⟨0, 12, 2, 0⟩ p) = rpH xs (p ++ p) := by
  obtain ⟨F, hF⟩ := tree_vp h1
  have a := rp_tree h1 hF
  have b := rp_tree (F := .nd 12 2 0 (orP F) .nil) h2 (by rw [hF, und_flat])
  have c := rp_tree (F := fapp F F) h3 (by rw [flat_app, ← hF])
  unfold evP at a b c
  rw [sem_app, blk_app xs (noF_vp h1 hF)] at c
  rw [sem, sem, blkI] at b
  rw [show stpI xs ⟨12, 2, 0, blkI xs (sem xs (orP F))⟩ [] [] = loopI (blkI xs (sem xs (orP F)) []) 2 from rfl] at b
  rw [show blkI xs [] [] = (.nil, []) from rfl, seqA_nil, ev_orP] at b
  have : loopI (blkI xs (sem xs F) []) 2 = seqA (blkI xs (sem xs F) []) (blkI xs (sem xs F) []) := by
    have hj := a.j
    rcases hb : blkI xs (sem xs F) [] with ⟨l, t⟩
    rw [hb] at hj
    cases l <;> first | rfl | exact absurd rfl hj.1 | exact absurd rfl hj.2 | simp [loopI, seqA, addT]
  rw [this] at b
  exact ⟨b.l.trans c.l.symm, b.e.trans c.e.symm, b.v.trans c.v.symm, b.h.trans c.h.symm⟩
end
end Go.Proofs.Ytlepgfccnfcagaa
