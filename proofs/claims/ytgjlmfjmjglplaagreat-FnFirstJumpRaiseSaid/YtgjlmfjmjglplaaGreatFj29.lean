/- one text of RnQ, RnR, PfR -/
import Derived.Test.YtgjlmfjmjglplaaGreatFj28
import Derived.Test.YtgjlmfjmjglplaaGreatFj27
namespace Go.Proofs.YtgjlmfjmjglplaaGreat
open Go.RowKit
set_option linter.unusedVariables false
section
section
variable {xs : List Cls} {p : List Lin}
theorem inGo_skip (p : List Lin) (d : Int) : ∀ (m a b : Nat), b ≤ m + a → a ≤ b → (∀ k, a ≤ k → k < b → d ≤ dep p k) → inGo p d b = inGo p d a
  | 0, a, b, h1, h2, _ => by rw [show b = a by omega]
  | m + 1, a, b, h1, h2, h3 => by
    by_cases e : a = b
    · rw [e]
    · obtain ⟨b, rfl⟩ : ∃ b', b = b' + 1 := ⟨b - 1, by omega⟩
      have := h3 b (by omega) (by omega)
      have hs : inGo p d (b + 1) = inGo p d b := by
        rw [inGo.eq_def]
        simp only
        rw [if_neg (by omega)]
      rw [hs]
      exact inGo_skip p d m a b (by omega) (by omega) (fun k h4 h5 => h3 k h4 (by omega))
/-- a line in the block of a line that is no loop is in a loop only if that line is -/
theorem inL_block {x y : Nat} (hx : x < y) (hy : y < bEnd p x) (hd : dep p y = dep p x + 1) (hk : knd p x ≠ 12) : inL p y = inL p x := by
  unfold inL
  rw [inGo_skip p (dep p y) y (x + 1) y (by omega) (by omega) (fun k h1 h2 => by have := bEnd_in (p := p) (i := x) (x := k) (by omega) (by omega); omega)]
  show inGo p (dep p y) (x + 1) = _
  rw [inGo.eq_def]
  simp only
  rw [if_pos (by omega)]
  rw [if_neg hk]
theorem inL_part {i : Nat} (hi : i < p.length) : ∀ n (hn : n < (parts p i).length), inL p (parts p i)[n] = inL p i ∧ dep p (parts p i)[n] = dep p i
  | 0, hn => ⟨rfl, rfl⟩
  | n + 1, hn => by
    have ih := inL_part hi n (by omega)
    have hl := parts_link hn
    have f := partsF hi (List.getElem_mem hn)
    have hg := bEnd_gt p (parts p i)[n]
    refine ⟨?_, f.2.2⟩
    rw [← ih.1]
    unfold inL
    rw [f.2.2, ih.2, inGo_skip p (dep p i) (parts p i)[n + 1] (parts p i)[n] (parts p i)[n + 1] (by omega) (by omega)]
    intro k h1 h2
    by_cases e : k = (parts p i)[n]
    · rw [e, ih.2]; exact Int.le_refl _
    · have := bEnd_in (p := p) (i := (parts p i)[n]) (x := k) (by omega) (by omega)
      omega
theorem inL_mem {i x : Nat} (hi : i < p.length) (h : x ∈ parts p i) : inL p x = inL p i := by
  obtain ⟨n, hn, rfl⟩ := List.getElem_of_mem h
  exact (inL_part hi n hn).1
theorem loop_in (g : GoodP xs p) {i : Nat} (hi : i < p.length) (h : knd p i = 5 ∨ knd p i = 6) : inL p i = true := by
  have hl := g.line i hi
  rw [knd_at hi] at h
  exact hl.2.2.2.2.1 h
def Jl (l : Lft) : Prop := l = .brk ∨ l = .cnt
theorem goB_jl {ln : Nat → Rst → Lft × Rst} {a b : Nat} {D : Int} (hB : Blk p a b D) (H : ∀ i s, a ≤ i → i < b → dep p i = D → Jl (ln i s).1 → inL p i = true) :
    ∀ (k i : Nat) (s : Rst), a ≤ i → (i < b → dep p i = D) → Jl (goB ln p b k i s).1 → ∃ y, a ≤ y ∧ y < b ∧ dep p y = D ∧ inL p y = true
  | 0, i, s, _, _, h => by rcases h with h | h <;> cases h
  | k + 1, i, s, hai, hd, h => by
    by_cases hib : i < b
    · rcases hl : ln i s with ⟨l, s2⟩
      by_cases e : l = .nil
      · subst e
        rw [goB_nil hib k hl] at h
        have hg := bEnd_gt p i
        exact goB_jl hB H k (bEnd p i) s2 (by omega) (fun hb => hB.sib hai hib (hd hib) hb) h
      · rw [goB_out hib k e hl] at h
        exact ⟨i, hai, hib, hd hib, H i s hai hib (hd hib) (by rw [hl]; exact h)⟩
    · rw [goB_end hib] at h
      rcases h with h | h <;> cases h
theorem bl_jl (g : GoodP xs p) {N : Nat} (H : ∀ i h s, i < p.length → Jl (lnN xs p N h i s).1 → inL p i = true) {x : Nat} (hx : x < p.length) (ho : opn (knd p x) = true) (hk : knd p x ≠ 12) {h : Int} {s : Rst} (hj : Jl (blN xs p N x h s).1) : inL p x = true := by
  have hB := Blk.of g hx ho
  have hbl := bEnd_le hx
  obtain ⟨y, h1, h2, h3, h4⟩ := goB_jl hB (ln := lnN xs p N h) (fun i s _ hib _ hj => H i h s (by omega) hj) 25 (x + 1) s (Nat.le_refl _) (fun hb => (hB.first hb).1) hj
  rw [← inL_block (by omega) h2 h3 hk]; exact h4
theorem loop_jl (blk : Bls) (i : Nat) (h : Int) : ∀ n s, ¬ Jl (loopN blk i h n s).1
  | 0, s => by rintro (h | h) <;> cases h
  | n + 1, s => by
    rcases hb : blk i h s with ⟨l, s2⟩
    unfold loopN
    rw [hb]
    rcases l with _ | v | f | _ | _
    · exact loop_jl blk i h n s2
    · rintro (h | h) <;> cases h
    · rintro (h | h) <;> cases h
    · rintro (h | h) <;> cases h
    · exact loop_jl blk i h n s2
theorem opn_part {i x : Nat} (_hi : i < p.length) (h7 : knd p i = 7) (h : x ∈ parts p i) : opn (knd p x) = true ∧ knd p x ≠ 12 := by
  rcases try_step (show IsTry p i x from ⟨h7, h⟩) with ⟨h, _⟩ | ⟨h, _⟩
  · rw [h]; exact ⟨rfl, by decide⟩
  · have := fol_iff.1 h
    refine ⟨?_, by omega⟩
    unfold opn rng
    simp; omega
theorem jl_line (g : GoodP xs p) : ∀ N i h s, i < p.length → Jl (lnN xs p N h i s).1 → inL p i = true
  | 0, i, h, s, _, hj => by rcases hj with h | h <;> cases h
  | N + 1, i, h, s, hi, hj => by
    have HB : ∀ x, x < p.length → opn (knd p x) = true → knd p x ≠ 12 → ∀ h s, Jl (blN xs p N x h s).1 → inL p x = true := fun x hx ho hk h s hj => bl_jl g (jl_line g N) hx ho hk hj
    rw [lnN_succ] at hj
    unfold stepN at hj
    have nj : ∀ {l : Lft} {s2 : Rst}, (l ≠ .brk ∧ l ≠ .cnt) → ¬ Jl ((l, s2) : Lft × Rst).1 := fun h h2 => by rcases h2 with e | e; exact h.1 e; exact h.2 e
    by_cases h1 : knd p i = 1
    · rw [if_pos h1] at hj; exact absurd hj (nj ⟨(by intro h; cases h), (by intro h; cases h)⟩)
    rw [if_neg h1] at hj
    by_cases h2 : knd p i = 2
    · rw [if_pos h2] at hj; exact absurd hj (nj ⟨(by intro h; cases h), (by intro h; cases h)⟩)
    rw [if_neg h2] at hj
    by_cases h3 : knd p i = 3
    · rw [if_pos h3] at hj
      unfold againN at hj
      split at hj
      · exact absurd hj (nj ⟨(by intro h; cases h), (by intro h; cases h)⟩)
      · exact absurd hj (nj ⟨(by intro h; cases h), (by intro h; cases h)⟩)
    rw [if_neg h3] at hj
    by_cases h4 : knd p i = 4
    · rw [if_pos h4] at hj; exact absurd hj (nj ⟨(by intro h; cases h), (by intro h; cases h)⟩)
    rw [if_neg h4] at hj
    by_cases h5 : knd p i = 5
    · exact loop_in g hi (.inl h5)
    rw [if_neg h5] at hj
    by_cases h6 : knd p i = 6
    · exact loop_in g hi (.inr h6)
    rw [if_neg h6] at hj
    by_cases h7 : knd p i = 7
    · rw [if_pos h7] at hj
      have HP : ∀ x ∈ parts p i, ∀ h s, Jl (blN xs p N x h s).1 → inL p i = true := fun x hx h s hj => by
        have o := opn_part hi h7 hx
        rw [← inL_mem hi hx]; exact HB x (parts_lt hi x hx) o.1 o.2 h s hj
      have HM : ∀ r : Lft × Rst, (Jl r.1 → inL p i = true) → Jl (midN (blN xs p N) xs p i h r).1 → inL p i = true := fun r hr hm => by
        rcases r with ⟨l, s2⟩
        unfold midN at hm
        rcases l with _ | v | f | _ | _
        · replace hm : Jl (orN (prt p i 9) (blN xs p N) h (.nil, s2)).1 := hm
          unfold orN at hm
          rcases hp : prt p i 9 with _ | x
          · rw [hp] at hm; exact hr hm
          · rw [hp] at hm; exact HP x (prt_mem hp).1 h s2 hm
        · exact hr hm
        · replace hm : Jl (if 0 ≤ ctE xs p (clsF s2 f) (exL p i) then blN xs p N (ctE xs p (clsF s2 f) (exL p i)).toNat f s2 else (.rai f, s2)).1 := hm
          split at hm
          · next c =>
            rcases ctE_mem xs p (clsF s2 f) (exL p i) with e | ⟨x, hx, e⟩
            · exact absurd c (by rw [e]; decide)
            · rw [e] at hm
              exact HP x (exL_mem hx).1 f s2 hm
          · exact hr hm
        · exact hr hm
        · exact hr hm
      have hM : Jl (midN (blN xs p N) xs p i h (blN xs p N i h s)).1 → inL p i = true := HM _ (HP i (List.mem_cons_self ..) h s)
      unfold tryN finN at hj
      rcases hp : prt p i 10 with _ | x
      · rw [hp] at hj; exact hM hj
      · rw [hp] at hj
        replace hj : Jl (orElseL (midN (blN xs p N) xs p i h (blN xs p N i h s)).1 (blN xs p N x (hdN h (midN (blN xs p N) xs p i h (blN xs p N i h s)).1) (midN (blN xs p N) xs p i h (blN xs p N i h s)).2).1) := hj
        have hX := HP x (prt_mem hp).1 (hdN h (midN (blN xs p N) xs p i h (blN xs p N i h s)).1) (midN (blN xs p N) xs p i h (blN xs p N i h s)).2
        generalize (blN xs p N x (hdN h (midN (blN xs p N) xs p i h (blN xs p N i h s)).1) (midN (blN xs p N) xs p i h (blN xs p N i h s)).2).1 = l2 at *
        rcases l2 with _ | v | f | _ | _
        · exact hM hj
        all_goals exact hX hj
    rw [if_neg h7] at hj
    by_cases h11 : knd p i = 11
    · rw [if_pos h11] at hj
      unfold withN at hj
      have hX := HB i hi (by rw [h11]; rfl) (by rw [h11]; decide) h (s.1 ++ [100 + lnA p i], s.2)
      generalize (blN xs p N i h (s.1 ++ [100 + lnA p i], s.2)).1 = l2 at *
      rcases l2 with _ | v | f | _ | _
      · exact hX hj
      · exact hX hj
      · replace hj : Jl (if decide (lnBc p i = 1) = true then Lft.nil else .rai f) := hj
        split at hj
        · exact absurd hj (nj (s2 := s) ⟨(by intro h; cases h), (by intro h; cases h)⟩)
        · exact hX hj
      · exact hX hj
      · exact hX hj
    rw [if_neg h11] at hj
    by_cases h12 : knd p i = 12
    · rw [if_pos h12] at hj; exact absurd hj (loop_jl _ _ _ _ _)
    rw [if_neg h12] at hj
    exact absurd hj (nj ⟨(by intro h; cases h), (by intro h; cases h)⟩)
theorem inL_top {i : Nat} (g : GoodP xs p) (hd : dep p i = 0) (hi : i ≤ p.length) : inL p i = false := by
  unfold inL
  rw [inGo_skip p (dep p i) i 0 i (by omega) (Nat.zero_le _) (fun k _ h => by have := (g.line k (by omega)).2.1.1; omega)]
  rfl
theorem run_jl (g : GoodP xs p) : (runI xs p).1 ≠ .brk ∧ (runI xs p).1 ≠ .cnt := by
  have key : ¬ Jl (runI xs p).1 := fun h => by
    obtain ⟨y, _, h2, h3, h4⟩ := goB_jl (Blk.all g) (ln := lnN xs p 6 (-1)) (fun i s _ hib _ hj => jl_line g 6 i (-1) s hib hj) 25 0 ([], []) (Nat.le_refl _) (fun hb => ((Blk.all g).first hb).1) h
    rw [inL_top g h3 (by omega)] at h4; cases h4
  exact ⟨fun e => key (.inl e), fun e => key (.inr e)⟩
end
end

section
section
variable {xs : List Cls} {p : List Lin}
/-- how much is told and raised -/
def Wg (s : Rst) : Nat := s.1.length + s.2.length
def cW : Nat → Nat
  | 0 => 0
  | n + 1 => 3 * cW n + 2
theorem parts_sep {i x y : Nat} (hx : x ∈ parts p i) (hy : y ∈ parts p i) (h : x < y) : bEnd p x ≤ y := by
  obtain ⟨n, hn, rfl⟩ := List.getElem_of_mem hx
  obtain ⟨m, hm, rfl⟩ := List.getElem_of_mem hy
  have hA := List.pairwise_iff_getElem.1 (partsF_asc p i)
  have hnm : n < m := by
    refine Nat.lt_of_not_le fun c => ?_
    rcases Nat.lt_or_ge m n with h2 | h2
    · have := hA m n hm hn h2; omega
    · have e : m = n := by omega
      subst e; omega
  rw [← parts_link (show n + 1 < (parts p i).length by omega)]
  by_cases e : n + 1 = m
  · subst e; exact Nat.le_refl _
  · exact Nat.le_of_lt (hA (n + 1) m (by omega) hm (by omega))
theorem parts_end {i x : Nat} (h7 : knd p i = 7) (hx : x ∈ parts p i) : bEnd p x ≤ nx p i := by
  obtain ⟨n, hn, rfl⟩ := List.getElem_of_mem hx
  exact pos_le h7 hn
theorem parts_ge {i x : Nat} (hi : i < p.length) (hx : x ∈ parts p i) : i ≤ x := (partsF hi hx).1
theorem gB_W {ln : Nat → Rst → Lft × Rst} {a b : Nat} {D : Int} (g : GoodP xs p) (hB : Blk p a b D) (c : Nat) (HF : ∀ x s, fol (knd p x) = true → ln x s = (.nil, s))
    (H : ∀ i s, a ≤ i → i < b → dep p i = D → fol (knd p i) = false → Wg (ln i s).2 ≤ Wg s + c * (nx p i - i)) :
    ∀ (m i : Nat) (s : Rst), b ≤ m + i → a ≤ i → (i < b → dep p i = D ∧ fol (knd p i) = false) → Wg (gB ln p b i s).2 ≤ Wg s + c * (b - i)
  | 0, i, s, hm, _, _ => by rw [gB_end (by omega)]; exact Nat.le_add_right _ _
  | m + 1, i, s, hm, hai, hst => by
    by_cases hib : i < b
    · have hs := hst hib
      have hn := hB.nxt g hai hib hs.1 hs.2
      have h1 := H i s hai hib hs.1 hs.2
      have hmul : c * (nx p i - i) + c * (b - nx p i) = c * (b - i) := by rw [← Nat.mul_add]; congr 1; omega
      rcases hl : ln i s with ⟨l, s2⟩
      rw [hl] at h1
      by_cases e : l = .nil
      · subst e
        rw [gB_step hB hai hib hs.1 HF hl]
        have ih := gB_W g hB c HF H m (nx p i) s2 (by omega) (by omega) hn.2.2
        replace h1 : Wg s2 ≤ Wg s + c * (nx p i - i) := h1
        omega
      · rw [gB_out hib e hl]
        omega
    · rw [gB_end hib]; exact Nat.le_add_right _ _
def Bw (p : List Lin) (blk : Bls) (c : Nat) : Prop := ∀ x h s, x < p.length → opn (knd p x) = true → Wg (blk x h s).2 ≤ Wg s + c * (bEnd p x - (x + 1))
theorem loop_W {blk : Bls} {c : Nat} (H : Bw p blk c) {i : Nat} (hi : i < p.length) (ho : opn (knd p i) = true) (h : Int) : ∀ n s, Wg (loopN blk i h n s).2 ≤ Wg s + n * (c * (bEnd p i - (i + 1)))
  | 0, s => by rw [Nat.zero_mul]; exact Nat.le_refl _
  | n + 1, s => by
    have h1 := H i h s hi ho
    rcases hb : blk i h s with ⟨l, s2⟩
    rw [hb] at h1
    replace h1 : Wg s2 ≤ Wg s + c * (bEnd p i - (i + 1)) := h1
    have ih := loop_W H hi ho h n s2
    generalize c * (bEnd p i - (i + 1)) = K at *
    have e : (n + 1) * K = n * K + K := Nat.succ_mul n K
    unfold loopN
    rw [hb]
    rcases l with _ | v | f | _ | _
    · show Wg (loopN blk i h n s2).2 ≤ _; omega
    · show Wg s2 ≤ _; omega
    · show Wg s2 ≤ _; omega
    · show Wg s2 ≤ _; omega
    · show Wg (loopN blk i h n s2).2 ≤ _; omega
/-- what the middle of a try adds: nothing, or the block of one more line -/
theorem mid_W {blk : Bls} {c : Nat} (H : Bw p blk c) {i : Nat} (hi : i < p.length) (h7 : knd p i = 7) (h : Int) (r : Lft × Rst) :
    Wg (midN blk xs p i h r).2 ≤ Wg r.2 ∨ ∃ x, x ∈ parts p i ∧ knd p x ≠ 7 ∧ knd p x ≠ 10 ∧ Wg (midN blk xs p i h r).2 ≤ Wg r.2 + c * (bEnd p x - (x + 1)) := by
  rcases r with ⟨l, s2⟩
  unfold midN
  rcases l with _ | v | f | _ | _
  · show Wg (orN (prt p i 9) blk h (.nil, s2)).2 ≤ _ ∨ ∃ x, x ∈ parts p i ∧ knd p x ≠ 7 ∧ knd p x ≠ 10 ∧ Wg (orN (prt p i 9) blk h (.nil, s2)).2 ≤ _
    unfold orN
    rcases hp : prt p i 9 with _ | x
    · exact .inl (Nat.le_refl _)
    · have m := prt_mem hp
      exact .inr ⟨x, m.1, by rw [m.2]; decide, by rw [m.2]; decide, H x h s2 (parts_lt hi x m.1) (opn_part hi h7 m.1).1⟩
  · exact .inl (Nat.le_refl _)
  · show Wg (if 0 ≤ ctE xs p (clsF s2 f) (exL p i) then blk (ctE xs p (clsF s2 f) (exL p i)).toNat f s2 else (.rai f, s2)).2 ≤ _ ∨ ∃ x, x ∈ parts p i ∧ knd p x ≠ 7 ∧ knd p x ≠ 10 ∧ Wg (if 0 ≤ ctE xs p (clsF s2 f) (exL p i) then blk (ctE xs p (clsF s2 f) (exL p i)).toNat f s2 else (.rai f, s2)).2 ≤ _
    by_cases c0 : 0 ≤ ctE xs p (clsF s2 f) (exL p i)
    · rcases ctE_mem xs p (clsF s2 f) (exL p i) with e | ⟨x, hx, e⟩
      · exact absurd c0 (by rw [e]; decide)
      · have m := exL_mem hx
        rw [if_pos c0, e]
        exact .inr ⟨x, m.1, by rw [m.2]; decide, by rw [m.2]; decide, H x f s2 (parts_lt hi x m.1) (opn_part hi h7 m.1).1⟩
    · rw [if_neg c0]
      exact .inl (Nat.le_refl _)
  · exact .inl (Nat.le_refl _)
  · exact .inl (Nat.le_refl _)
theorem try_W {blk : Bls} {c : Nat} (H : Bw p blk c) {i : Nat} (hi : i < p.length) (h7 : knd p i = 7) (h : Int) (s : Rst) : Wg (tryN blk xs p i h s).2 ≤ Wg s + c * (nx p i - i) := by
  have hi0 : i ∈ parts p i := List.mem_cons_self ..
  have h1 := H i h s hi (by rw [h7]; rfl)
  have hgi := bEnd_gt p i
  have hni := parts_end h7 hi0
  have M := mid_W (xs := xs) H hi h7 h (blk i h s)
  unfold tryN
  -- the last block adds at most its own
  have FIN : ∀ r : Lft × Rst, Wg (finN blk p i h r).2 ≤ Wg r.2 ∨ ∃ y, y ∈ parts p i ∧ knd p y = 10 ∧ (∀ x ∈ parts p i, x ≤ y) ∧ Wg (finN blk p i h r).2 ≤ Wg r.2 + c * (bEnd p y - (y + 1)) := fun r => by
    rw [fin_last]
    by_cases k : knd p (lstP p i) = 10
    · rw [if_pos k]
      exact .inr ⟨lstP p i, lstP_mem p i, k, fun x hx => lstP_ge hx, H (lstP p i) (hdN h r.1) r.2 (parts_lt hi _ (lstP_mem p i)) (opn_part hi h7 (lstP_mem p i)).1⟩
    · rw [if_neg k]; exact .inl (Nat.le_refl _)
  have Fi := FIN (midN blk xs p i h (blk i h s))
  have mono : ∀ {a b : Nat}, a ≤ b → c * a ≤ c * b := fun h => Nat.mul_le_mul_left c h
  rcases M with M | ⟨x, hx, x7, x10, M⟩
  · rcases Fi with Fi | ⟨y, hy, y10, _, Fi⟩
    · have := mono (show bEnd p i - (i + 1) ≤ nx p i - i by omega)
      omega
    · have hiy : i < y := by
        have := parts_ge hi hy
        have : i ≠ y := fun e => by rw [← e, h7] at y10; exact absurd y10 (by decide)
        omega
      have h3 := parts_sep hi0 hy hiy
      have h4 := parts_end h7 hy
      have h5 := bEnd_gt p y
      have e := mono (show (bEnd p i - (i + 1)) + (bEnd p y - (y + 1)) ≤ nx p i - i by omega)
      rw [Nat.mul_add] at e
      omega
  · have hix : i < x := by
      have := parts_ge hi hx
      have : i ≠ x := fun e => by rw [← e] at x7; exact x7 h7
      omega
    have h3 := parts_sep hi0 hx hix
    have h4 := parts_end h7 hx
    have h5 := bEnd_gt p x
    rcases Fi with Fi | ⟨y, hy, y10, hmax, Fi⟩
    · have e := mono (show (bEnd p i - (i + 1)) + (bEnd p x - (x + 1)) ≤ nx p i - i by omega)
      rw [Nat.mul_add] at e
      omega
    · have hxy : x < y := by
        have := hmax x hx
        have : x ≠ y := fun e => by rw [e] at x10; exact x10 y10
        omega
      have h6 := parts_sep hx hy hxy
      have h7b := parts_end h7 hy
      have h8 := bEnd_gt p y
      have e := mono (show (bEnd p i - (i + 1)) + ((bEnd p x - (x + 1)) + (bEnd p y - (y + 1))) ≤ nx p i - i by omega)
      rw [Nat.mul_add, Nat.mul_add] at e
      omega
theorem Wg_snoc (l : List Int) (x : Int) (h : List Flt) : Wg (l ++ [x], h) = Wg (l, h) + 1 := by unfold Wg; simp; omega
theorem Wg_snoc2 (l : List Int) (x : Flt) (h : List Flt) : Wg (l, h ++ [x]) = Wg (l, h) + 1 := by unfold Wg; simp; omega
theorem step_W (g : GoodP xs p) {blk : Bls} {c : Nat} (H : Bw p blk c) {i : Nat} (hi : i < p.length) (h : Int) (s : Rst) : Wg (stepN blk xs p h i s).2 ≤ Wg s + (3 * c + 2) * (nx p i - i) := by
  have hgi := bEnd_gt p i
  have hone : 0 < nx p i - i := by
    unfold nx
    split
    · next h7 =>
      have := bEnd_gt p (lstP p i)
      have := parts_ge hi (lstP_mem p i)
      omega
    · omega
  have mono : ∀ {a b : Nat}, a ≤ b → (3 * c + 2) * a ≤ (3 * c + 2) * b := fun h => Nat.mul_le_mul_left _ h
  have m1 := mono hone
  rw [Nat.mul_one] at m1
  have hrs : ∀ a b, Wg (rsN a b h s).2 ≤ Wg s + (3 * c + 2) * (nx p i - i) := fun a b => by
    have : Wg (rsN a b h s).2 = Wg s + 1 := Wg_snoc2 _ _ _
    omega
  unfold stepN
  by_cases h1 : knd p i = 1
  · rw [if_pos h1]
    have : Wg (s.1 ++ [lnA p i], s.2) = Wg s + 1 := Wg_snoc _ _ _
    show Wg (s.1 ++ [lnA p i], s.2) ≤ _
    omega
  rw [if_neg h1]
  by_cases h2 : knd p i = 2
  · rw [if_pos h2]; exact hrs _ _
  rw [if_neg h2]
  by_cases h3 : knd p i = 3
  · rw [if_pos h3]
    unfold againN
    split
    · exact hrs _ _
    · exact Nat.le_add_right _ _
  rw [if_neg h3]
  by_cases h4 : knd p i = 4
  · rw [if_pos h4]; exact Nat.le_add_right _ _
  rw [if_neg h4]
  by_cases h5 : knd p i = 5
  · rw [if_pos h5]; exact Nat.le_add_right _ _
  rw [if_neg h5]
  by_cases h6 : knd p i = 6
  · rw [if_pos h6]; exact Nat.le_add_right _ _
  rw [if_neg h6]
  by_cases h7 : knd p i = 7
  · rw [if_pos h7]
    have := try_W (xs := xs) H hi h7 h s
    have h8 : c * (nx p i - i) ≤ (3 * c + 2) * (nx p i - i) := Nat.mul_le_mul_right _ (by omega)
    omega
  rw [if_neg h7]
  have hnx : nx p i = bEnd p i := by unfold nx; rw [if_neg h7]
  rw [hnx] at hone m1 ⊢
  by_cases h11 : knd p i = 11
  · rw [if_pos h11]
    have hb := H i h (s.1 ++ [100 + lnA p i], s.2) hi (by rw [h11]; rfl)
    have e1 : Wg (s.1 ++ [100 + lnA p i], s.2) = Wg s + 1 := Wg_snoc _ _ _
    have e2 : Wg (withN blk p i h s).2 = Wg (blk i h (s.1 ++ [100 + lnA p i], s.2)).2 + 1 := Wg_snoc _ _ _
    have h8 : c * (bEnd p i - (i + 1)) + 2 ≤ (3 * c + 2) * (bEnd p i - i) := by
      have a1 : c * (bEnd p i - (i + 1)) ≤ 3 * c * (bEnd p i - i) := Nat.mul_le_mul (by omega) (by omega)
      have a2 : 2 ≤ 2 * (bEnd p i - i) := by omega
      rw [Nat.add_mul]; omega
    omega
  rw [if_neg h11]
  by_cases h12 : knd p i = 12
  · rw [if_pos h12]
    have hl := loop_W H hi (by rw [h12]; rfl) h (lnA p i).toNat s
    have ha := loop_a g hi h12
    rw [← lnA_at hi] at ha
    have h8 : (lnA p i).toNat * (c * (bEnd p i - (i + 1))) ≤ (3 * c + 2) * (bEnd p i - i) := by
      have a1 : (lnA p i).toNat * (c * (bEnd p i - (i + 1))) ≤ 3 * (c * (bEnd p i - i)) := Nat.mul_le_mul (by omega) (Nat.mul_le_mul_left _ (by omega))
      rw [show 3 * (c * (bEnd p i - i)) = 3 * c * (bEnd p i - i) from (Nat.mul_assoc _ _ _).symm] at a1
      rw [Nat.add_mul]; omega
    omega
  rw [if_neg h12]
  exact Nat.le_add_right _ _
theorem line_W (g : GoodP xs p) : ∀ N i h s, i < p.length → Wg (lnN xs p N h i s).2 ≤ Wg s + cW N * (nx p i - i)
  | 0, i, h, s, _ => Nat.le_add_right _ _
  | N + 1, i, h, s, hi => by
    rw [lnN_succ]
    refine step_W g (c := cW N) (fun x h s hx ho => ?_) hi h s
    have hbl := bEnd_le hx
    have hp := g.len
    have e0 : blN xs p N x h s = gB (lnN xs p N h) p (bEnd p x) (x + 1) s := gB_of _ _ 25 (by omega)
    rw [e0]
    have hB := Blk.of g hx ho
    exact gB_W g hB (cW N) (fun x s hf => lnN_fol xs p N h x s hf) (fun i s _ hib _ _ => line_W g N i h s (by omega)) (bEnd p x) (x + 1) s (by omega) (Nat.le_refl _) hB.first
theorem run_sm (g : GoodP xs p) : Sm (runI xs p).2 := by
  have hp := g.len
  have e0 : runI xs p = gB (lnN xs p 6 (-1)) p p.length 0 ([], []) := gB_of 0 ([], []) 25 (by omega)
  have h := gB_W g (Blk.all g) (cW 6) (fun x s hf => lnN_fol xs p 6 (-1) x s hf) (fun i s _ hib _ _ => line_W g 6 i (-1) s hib) p.length 0 ([], []) (by omega) (Nat.le_refl _) (Blk.all g).first
  rw [← e0] at h
  have e1 : cW 6 = 728 := rfl
  rw [e1] at h
  have e2 : Wg (([], []) : Rst) = 0 := rfl
  rw [e2] at h
  unfold Wg at h
  exact ⟨by omega, by omega⟩
end
end

section
section
variable {xs : List Cls} {p : List Lin}
theorem scn_two {a c b : Nat} (hac : a ≤ c) (hcb : c ≤ b) (hin : ∀ x, a ≤ x → x < c → bEnd p x ≤ c) (h : scn p a b = -1) : scn p a c = -1 ∧ scn p c b = -1 := by
  have hs := scn_split (p := p) hcb c a (by omega) hac hin
  rw [h] at hs
  by_cases k : 0 ≤ scn p a c
  · rw [if_pos k] at hs; omega
  · rw [if_neg k] at hs; exact ⟨scn_neg k, hs.symm⟩
/-- the block of a line in which none jumps -/
theorem scn_blk (g : GoodP xs p) {x e : Nat} (hx : x < p.length) (ho : opn (knd p x) = true) (he : bEnd p x ≤ e) (h : scn p (x + 1) e = -1) : scn p (x + 1) (bEnd p x) = -1 ∧ scn p (bEnd p x) e = -1 := by
  have hB := Blk.of g hx ho
  have hg := bEnd_gt p x
  exact scn_two (by omega) he (fun y h1 h2 => hB.in h1 h2) h
theorem scn_to {a b : Nat} (h : a < b) (hs : scn p a b = -1) : jmpK (knd p a) = false ∧ (knd p a = 8 ∨ lpz p a = true → scn p (bEnd p a) b = -1) ∧ (¬ (knd p a = 8 ∨ lpz p a = true) → scn p (a + 1) b = -1) := by
  rw [scn_at h] at hs
  by_cases k : jmpK (knd p a) = true
  · rw [if_pos k] at hs; omega
  · rw [if_neg k] at hs
    refine ⟨by simpa using k, fun k2 => ?_, fun k2 => ?_⟩
    · rw [if_pos k2] at hs; exact hs
    · rw [if_neg k2] at hs; exact hs
/-- in a try in which none jumps, none jumps in any of its blocks but those for faults -/
theorem scn_parts (g : GoodP xs p) {i : Nat} (hi : i < p.length) (h7 : knd p i = 7) (h : scn p i (nx p i) = -1) : ∀ n (hn : n < (parts p i).length), scn p (parts p i)[n] (nx p i) = -1
  | 0, hn => h
  | n + 1, hn => by
    have ih := scn_parts g hi h7 h n (by omega)
    have hm : (parts p i)[n] ∈ parts p i := List.getElem_mem _
    have hxl := parts_lt hi _ hm
    have ho := opn_part hi h7 hm
    have he := parts_end h7 hm
    have hg := bEnd_gt p (parts p i)[n]
    have ht := scn_to (by omega) ih
    rw [parts_link hn]
    by_cases k : knd p (parts p i)[n] = 8 ∨ lpz p (parts p i)[n] = true
    · exact ht.2.1 k
    · exact (scn_blk g hxl ho.1 he (ht.2.2 k)).2
theorem scn_part (g : GoodP xs p) {i x : Nat} (hi : i < p.length) (h7 : knd p i = 7) (h : scn p i (nx p i) = -1) (hx : x ∈ parts p i) (h8 : knd p x ≠ 8) : scn p (x + 1) (bEnd p x) = -1 := by
  obtain ⟨n, hn, rfl⟩ := List.getElem_of_mem hx
  have ih := scn_parts g hi h7 h n hn
  have ho := opn_part hi h7 hx
  have he := parts_end h7 hx
  have hg := bEnd_gt p (parts p i)[n]
  have ht := scn_to (by omega) ih
  have hl : lpz p (parts p i)[n] = false := by unfold lpz; simp [ho.2]
  exact (scn_blk g (parts_lt hi _ hx) ho.1 he (ht.2.2 (by rw [hl]; simp [h8]))).1
theorem loop_nil {blk : Bls} {i : Nat} {h : Int} (H : ∀ s, (blk i h s).1 = .nil) : ∀ n s, (loopN blk i h n s).1 = .nil
  | 0, s => rfl
  | n + 1, s => by
    have e := H s
    rcases hb : blk i h s with ⟨l, s2⟩
    rw [hb] at e
    replace e : l = .nil := e
    subst e
    unfold loopN
    rw [hb]
    exact loop_nil H n s2
theorem gB_nilAll {ln : Nat → Rst → Lft × Rst} {a b : Nat} {D : Int} (g : GoodP xs p) (hB : Blk p a b D) (HF : ∀ x s, fol (knd p x) = true → ln x s = (.nil, s))
    (H : ∀ i s, a ≤ i → i < b → dep p i = D → fol (knd p i) = false → scn p i (nx p i) = -1 → (ln i s).1 = .nil) :
    ∀ (m i : Nat) (s : Rst), b ≤ m + i → a ≤ i → (i < b → dep p i = D ∧ fol (knd p i) = false) → scn p i b = -1 → (gB ln p b i s).1 = .nil
  | 0, i, s, hm, _, _, _ => by rw [gB_end (by omega)]
  | m + 1, i, s, hm, hai, hst, hs => by
    by_cases hib : i < b
    · have h0 := hst hib
      have hn := hB.nxt g hai hib h0.1 h0.2
      have h2 := scn_two (p := p) (a := i) (c := nx p i) (b := b) (by omega) hn.2.1 (fun x h3 h4 => hB.inner g hai hib h0.1 h0.2 h3 h4) hs
      have e := H i s hai hib h0.1 h0.2 h2.1
      rcases hl : ln i s with ⟨l, s2⟩
      rw [hl] at e
      replace e : l = .nil := e
      subst e
      rw [gB_step hB hai hib h0.1 HF hl]
      exact gB_nilAll g hB HF H m (nx p i) s2 (by omega) (by omega) hn.2.2 h2.2
    · rw [gB_end hib]
theorem line_nil (g : GoodP xs p) : ∀ N i h s, i < p.length → fol (knd p i) = false → scn p i (nx p i) = -1 → (lnN xs p N h i s).1 = .nil
  | 0, i, h, s, _, _, _ => rfl
  | N + 1, i, h, s, hi, hf, hs => by
    have HB : ∀ x, x < p.length → opn (knd p x) = true → scn p (x + 1) (bEnd p x) = -1 → ∀ h s, (blN xs p N x h s).1 = .nil := fun x hx ho hsx h s => by
      have hp := g.len
      have hbl := bEnd_le hx
      have e0 : blN xs p N x h s = gB (lnN xs p N h) p (bEnd p x) (x + 1) s := gB_of _ _ 25 (by omega)
      rw [e0]
      have hB := Blk.of g hx ho
      exact gB_nilAll g hB (fun y s hf => lnN_fol xs p N h y s hf) (fun y s _ hyb _ hf hsy => line_nil g N y h s (by omega) hf hsy) (bEnd p x) (x + 1) s (by omega) (Nat.le_refl _) hB.first hsx
    have hgi := bEnd_gt p i
    have hnx : i < nx p i := by
      unfold nx
      split
      · have := parts_ge hi (lstP_mem p i); have := bEnd_gt p (lstP p i); omega
      · exact hgi
    have ht := scn_to hnx hs
    have hj : ¬ (2 ≤ knd p i ∧ knd p i ≤ 6) := fun h => by have := jmpK_iff.2 h; rw [ht.1] at this; cases this
    rw [lnN_succ]
    unfold stepN
    by_cases h1 : knd p i = 1
    · rw [if_pos h1]
    rw [if_neg h1, if_neg (by omega), if_neg (by omega), if_neg (by omega), if_neg (by omega), if_neg (by omega)]
    by_cases h7 : knd p i = 7
    · rw [if_pos h7]
      have hP : ∀ x ∈ parts p i, knd p x ≠ 8 → ∀ h s, (blN xs p N x h s).1 = .nil := fun x hx h8 => HB x (parts_lt hi x hx) (opn_part hi h7 hx).1 (scn_part g hi h7 hs hx h8)
      have e1 := hP i (List.mem_cons_self ..) (by rw [h7]; decide) h s
      rcases hb : blN xs p N i h s with ⟨l, s1⟩
      rw [hb] at e1
      replace e1 : l = .nil := e1
      subst e1
      unfold tryN
      rw [hb]
      have e2 : (midN (blN xs p N) xs p i h (.nil, s1)).1 = .nil := by
        show (orN (prt p i 9) (blN xs p N) h (.nil, s1)).1 = .nil
        unfold orN
        rcases hp : prt p i 9 with _ | x
        · rfl
        · have m := prt_mem hp
          exact hP x m.1 (by rw [m.2]; decide) h s1
      generalize midN (blN xs p N) xs p i h (.nil, s1) = r at *
      rcases r with ⟨l, s2⟩
      replace e2 : l = .nil := e2
      subst e2
      unfold finN
      rcases hp : prt p i 10 with _ | x
      · rfl
      · have m := prt_mem hp
        have e3 := hP x m.1 (by rw [m.2]; decide) h s2
        show orElseL .nil (blN xs p N x h s2).1 = .nil
        rw [e3]; rfl
    rw [if_neg h7]
    have hnb : nx p i = bEnd p i := by unfold nx; rw [if_neg h7]
    rw [hnb] at ht
    have h8 : knd p i ≠ 8 := fun e => by rw [e] at hf; cases hf
    by_cases h11 : knd p i = 11
    · rw [if_pos h11]
      have hl : lpz p i = false := by unfold lpz; rw [h11]; rfl
      have e1 := HB i hi (by rw [h11]; rfl) (ht.2.2 (by rw [hl]; simp [h8])) h (s.1 ++ [100 + lnA p i], s.2)
      show quiet _ (blN xs p N i h (s.1 ++ [100 + lnA p i], s.2)).1 = .nil
      rw [e1]; rfl
    rw [if_neg h11]
    by_cases h12 : knd p i = 12
    · rw [if_pos h12]
      by_cases ha : lnA p i = 0
      · rw [ha]; rfl
      · have hl : lpz p i = false := by unfold lpz; simp [ha]
        exact loop_nil (fun s => HB i hi (by rw [h12]; rfl) (ht.2.2 (by rw [hl]; simp [h8])) h s) _ s
    rw [if_neg h12]
/-- where no line jumps, a program comes to its end -/
theorem run_nil (g : GoodP xs p) (h : scn p 0 p.length = -1) : (runI xs p).1 = .nil := by
  have hp := g.len
  have e0 : runI xs p = gB (lnN xs p 6 (-1)) p p.length 0 ([], []) := gB_of 0 ([], []) 25 (by omega)
  rw [e0]
  exact gB_nilAll g (Blk.all g) (fun x s hf => lnN_fol xs p 6 (-1) x s hf) (fun i s _ hib _ hf hs => line_nil g 6 i (-1) s hib hf hs) p.length 0 ([], []) (by omega) (Nat.le_refl _) (Blk.all g).first h
/-! the first line that jumps is not dead -/
def skp (p : List Lin) (z : Nat) : Prop := knd p z = 8 ∨ lpz p z = true
theorem bEnd_nest {z j : Nat} (hz : z ≤ j) (hj : j < bEnd p z) (hjl : j < p.length) : bEnd p j ≤ bEnd p z := by
  refine Nat.le_of_not_lt fun c => ?_
  by_cases e : z = j
  · subst e; omega
  · have h1 := bEnd_in (p := p) (i := z) (x := j) (by omega) hj
    have hl := bEnd_le hjl
    have h2 := bEnd_in (p := p) (i := j) (x := bEnd p z) (by omega) c
    have h3 := bEnd_stop (show z < p.length by omega) (show bEnd p z < p.length by omega)
    omega
theorem scn_out {b : Nat} (hb : b ≤ p.length) : ∀ m a, b ≤ m + a → 0 ≤ scn p a b → ∃ x : Nat, scn p a b = (x : Int) ∧ a ≤ x ∧ x < b ∧ jmpK (knd p x) = true ∧ ∀ j, a ≤ j → j < x → (skp p j → bEnd p j ≤ x) ∧ (jmpK (knd p j) = true → ∃ z, z ≤ j ∧ skp p z ∧ j < bEnd p z ∧ bEnd p z ≤ x)
  | 0, a, hm, h => by rw [scn_end (by omega)] at h; omega
  | m + 1, a, hm, h => by
    by_cases hab : a < b
    · have hg := bEnd_gt p a
      rw [scn_at hab] at h ⊢
      by_cases k : jmpK (knd p a) = true
      · rw [if_pos k]
        exact ⟨a, rfl, Nat.le_refl _, hab, k, fun j h1 h2 => by omega⟩
      · rw [if_neg k] at h ⊢
        by_cases k2 : knd p a = 8 ∨ lpz p a = true
        · rw [if_pos k2] at h ⊢
          obtain ⟨x, h1, h2, h3, h4, h5⟩ := scn_out hb m (bEnd p a) (by omega) h
          refine ⟨x, h1, by omega, h3, h4, fun j hj1 hj2 => ?_⟩
          rcases Nat.lt_or_ge j (bEnd p a) with c | c
          · exact ⟨fun _ => Nat.le_trans (bEnd_nest hj1 c (by omega)) h2, fun _ => ⟨a, hj1, k2, c, h2⟩⟩
          · exact h5 j c hj2
        · rw [if_neg k2] at h ⊢
          obtain ⟨x, h1, h2, h3, h4, h5⟩ := scn_out hb m (a + 1) (by omega) h
          refine ⟨x, h1, by omega, h3, h4, fun j hj1 hj2 => ?_⟩
          by_cases e : j = a
          · subst e; exact ⟨fun h => absurd h k2, fun h => absurd h k⟩
          · exact h5 j (by omega) hj2
    · rw [scn_end hab] at h; omega
theorem skp_jmp {z : Nat} (h : skp p z) : jmpK (knd p z) = false := by
  cases e : jmpK (knd p z)
  · rfl
  · have h2 := jmpK_iff.1 e
    rcases h with h | h
    · omega
    · unfold lpz at h
      simp at h
      omega
theorem first_live {x : Nat} (hx : x < p.length) (hj : jmpK (knd p x) = true) (H : ∀ j, j < x → (skp p j → bEnd p j ≤ x) ∧ (jmpK (knd p j) = true → ∃ z, z ≤ j ∧ skp p z ∧ j < bEnd p z ∧ bEnd p z ≤ x)) : ¬ dQ xs p x := by
  rintro (⟨a, h1, h2, h3⟩ | ⟨l, h1, h2, h3⟩)
  · rcases h3 with h3 | h3
    · obtain ⟨j, hja, hjd, hjj, hjy⟩ := (bjGo_iff p (dep p a) a).1 h3
      obtain ⟨z, z1, z2, z3, z4⟩ := (H j (by omega)).2 hjj
      have hzj : z ≠ j := fun e => by rw [e] at z2; rw [skp_jmp z2] at hjj; cases hjj
      have d1 := bEnd_in (p := p) (i := z) (x := j) (by omega) z3
      have d2 := bEnd_stop (show z < p.length by omega) (show bEnd p z < p.length by omega)
      rcases Nat.lt_trichotomy (bEnd p z) a with c | c | c
      · have := hjy (bEnd p z) z3 c; omega
      · rw [c] at d2; omega
      · have := bEnd_in (p := p) (i := a) (x := bEnd p z) c (by omega); omega
    · have h8 : knd p a = 8 := by
        unfold dexB at h3
        split at h3
        · next h => exact h
        · cases h3
      by_cases e : a = x
      · rw [← e] at hj
        have := jmpK_iff.1 hj; omega
      · have := (H a (by omega)).1 (.inl h8); omega
  · have := (H l h1).1 (.inr h3); omega
end
end
end Go.Proofs.YtgjlmfjmjglplaaGreat
