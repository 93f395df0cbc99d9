/- one text of RnQ, RnR, SC, PR, RI, RA, RJ -/
import Derived.Test.YtdbmolhdgmopoaaGreatRb7
import Derived.Test.YtdbmolhdgmopoaaGreatRb1
import Derived.Test.YtdbmolhdgmopoaaGreatRb2
import Derived.Lib.SlicesCompact
import Derived.Deep.RegionHeld3
import Derived.WalkSmall
import Derived.Deep.LoopGhost
namespace Go.Proofs.YtdbmolhdgmopoaaGreat
open Go.RowKit
section
section
variable {xs : List Cls} {p : List Lin}
theorem inGo_skip (p : List Lin) (d : Int) : ∀ (m a b : Nat), b ≤ m + a → a ≤ b → (∀ k, a ≤ k → k < b → d ≤ dep p k) → inGo p d b = inGo p d a
  | 0, a, b, h1, h2, _ => by rw [show b = a by omega]
  | m + 1, a, b, h1, h2, h3 => by
    by_cases e : a = b
    · rw [e]
    · obtain ⟨b, rfl⟩ : ∃ b', b = b' + 1 := ⟨b - 1, by omega⟩
      have := h3 b (by omega) (by omega)
      have hs : inGo p d (b + 1) = inGo p d b := by
        rw [inGo.eq_def]
        simp only
        rw [if_neg (by omega)]
      rw [hs]
      exact inGo_skip p d m a b (by omega) (by omega) (fun k h4 h5 => h3 k h4 (by omega))
/-- a line in the block of a line that is no loop is in a loop only if that line is -/
theorem inL_block {x y : Nat} (hx : x < y) (hy : y < bEnd p x) (hd : dep p y = dep p x + 1) (hk : knd p x ≠ 12) : inL p y = inL p x := by
  unfold inL
  rw [inGo_skip p (dep p y) y (x + 1) y (by omega) (by omega) (fun k h1 h2 => by have := bEnd_in (p := p) (i := x) (x := k) (by omega) (by omega); omega)]
  show inGo p (dep p y) (x + 1) = _
  rw [inGo.eq_def]
  simp only
  rw [if_pos (by omega)]
  rw [if_neg hk]
theorem inL_part {i : Nat} (hi : i < p.length) : ∀ n (hn : n < (parts p i).length), inL p (parts p i)[n] = inL p i ∧ dep p (parts p i)[n] = dep p i
  | 0, hn => ⟨rfl, rfl⟩
  | n + 1, hn => by
    have ih := inL_part hi n (by omega)
    have hl := parts_link hn
    have f := partsF hi (List.getElem_mem hn)
    have hg := bEnd_gt p (parts p i)[n]
    refine ⟨?_, f.2.2⟩
    rw [← ih.1]
    unfold inL
    rw [f.2.2, ih.2, inGo_skip p (dep p i) (parts p i)[n + 1] (parts p i)[n] (parts p i)[n + 1] (by omega) (by omega)]
    intro k h1 h2
    by_cases e : k = (parts p i)[n]
    · rw [e, ih.2]; exact Int.le_refl _
    · have := bEnd_in (p := p) (i := (parts p i)[n]) (x := k) (by omega) (by omega)
      omega
theorem inL_mem {i x : Nat} (hi : i < p.length) (h : x ∈ parts p i) : inL p x = inL p i := by
  obtain ⟨n, hn, rfl⟩ := List.getElem_of_mem h
  exact (inL_part hi n hn).1
theorem loop_in (g : GoodP xs p) {i : Nat} (hi : i < p.length) (h : knd p i = 5 ∨ knd p i = 6) : inL p i = true := by
  have hl := g.line i hi
  rw [knd_at hi] at h
  exact hl.2.2.2.2.1 h
def Jl (l : Lft) : Prop := l = .brk ∨ l = .cnt
theorem goB_jl {ln : Nat → Rst → Lft × Rst} {a b : Nat} {D : Int} (hB : Blk p a b D) (H : ∀ i s, a ≤ i → i < b → dep p i = D → Jl (ln i s).1 → inL p i = true) :
    ∀ (k i : Nat) (s : Rst), a ≤ i → (i < b → dep p i = D) → Jl (goB ln p b k i s).1 → ∃ y, a ≤ y ∧ y < b ∧ dep p y = D ∧ inL p y = true
  | 0, i, s, _, _, h => by rcases h with h | h <;> cases h
  | k + 1, i, s, hai, hd, h => by
    by_cases hib : i < b
    · rcases hl : ln i s with ⟨l, s2⟩
      by_cases e : l = .nil
      · subst e
        rw [goB_nil hib k hl] at h
        have hg := bEnd_gt p i
        exact goB_jl hB H k (bEnd p i) s2 (by omega) (fun hb => hB.sib hai hib (hd hib) hb) h
      · rw [goB_out hib k e hl] at h
        exact ⟨i, hai, hib, hd hib, H i s hai hib (hd hib) (by rw [hl]; exact h)⟩
    · rw [goB_end hib] at h
      rcases h with h | h <;> cases h
theorem bl_jl (g : GoodP xs p) {N : Nat} (H : ∀ i h s, i < p.length → Jl (lnN xs p N h i s).1 → inL p i = true) {x : Nat} (hx : x < p.length) (ho : opn (knd p x) = true) (hk : knd p x ≠ 12) {h : Int} {s : Rst} (hj : Jl (blN xs p N x h s).1) : inL p x = true := by
  have hB := Blk.of g hx ho
  have hbl := bEnd_le hx
  obtain ⟨y, h1, h2, h3, h4⟩ := goB_jl hB (ln := lnN xs p N h) (fun i s _ hib _ hj => H i h s (by omega) hj) 25 (x + 1) s (Nat.le_refl _) (fun hb => (hB.first hb).1) hj
  rw [← inL_block (by omega) h2 h3 hk]; exact h4
theorem loop_jl (blk : Bls) (i : Nat) (h : Int) : ∀ n s, ¬ Jl (loopN blk i h n s).1
  | 0, s => by rintro (h | h) <;> cases h
  | n + 1, s => by
    rcases hb : blk i h s with ⟨l, s2⟩
    unfold loopN
    rw [hb]
    rcases l with _ | v | f | _ | _
    · exact loop_jl blk i h n s2
    · rintro (h | h) <;> cases h
    · rintro (h | h) <;> cases h
    · rintro (h | h) <;> cases h
    · exact loop_jl blk i h n s2
theorem opn_part {i x : Nat} (hi : i < p.length) (h7 : knd p i = 7) (h : x ∈ parts p i) : opn (knd p x) = true ∧ knd p x ≠ 12 := by
  rcases try_step (show IsTry p i x from ⟨h7, h⟩) with ⟨h, _⟩ | ⟨h, _⟩
  · rw [h]; exact ⟨rfl, by decide⟩
  · have := fol_iff.1 h
    refine ⟨?_, by omega⟩
    unfold opn rng
    simp; omega
theorem jl_line (g : GoodP xs p) : ∀ N i h s, i < p.length → Jl (lnN xs p N h i s).1 → inL p i = true
  | 0, i, h, s, _, hj => by rcases hj with h | h <;> cases h
  | N + 1, i, h, s, hi, hj => by
    have HB : ∀ x, x < p.length → opn (knd p x) = true → knd p x ≠ 12 → ∀ h s, Jl (blN xs p N x h s).1 → inL p x = true := fun x hx ho hk h s hj => bl_jl g (jl_line g N) hx ho hk hj
    rw [lnN_succ] at hj
    unfold stepN at hj
    have nj : ∀ {l : Lft} {s2 : Rst}, (l ≠ .brk ∧ l ≠ .cnt) → ¬ Jl ((l, s2) : Lft × Rst).1 := fun h h2 => by rcases h2 with e | e; exact h.1 e; exact h.2 e
    by_cases h1 : knd p i = 1
    · rw [if_pos h1] at hj; exact absurd hj (nj ⟨(by intro h; cases h), (by intro h; cases h)⟩)
    rw [if_neg h1] at hj
    by_cases h2 : knd p i = 2
    · rw [if_pos h2] at hj; exact absurd hj (nj ⟨(by intro h; cases h), (by intro h; cases h)⟩)
    rw [if_neg h2] at hj
    by_cases h3 : knd p i = 3
    · rw [if_pos h3] at hj
      unfold againN at hj
      split at hj
      · exact absurd hj (nj ⟨(by intro h; cases h), (by intro h; cases h)⟩)
      · exact absurd hj (nj ⟨(by intro h; cases h), (by intro h; cases h)⟩)
    rw [if_neg h3] at hj
    by_cases h4 : knd p i = 4
    · rw [if_pos h4] at hj; exact absurd hj (nj ⟨(by intro h; cases h), (by intro h; cases h)⟩)
    rw [if_neg h4] at hj
    by_cases h5 : knd p i = 5
    · exact loop_in g hi (.inl h5)
    rw [if_neg h5] at hj
    by_cases h6 : knd p i = 6
    · exact loop_in g hi (.inr h6)
    rw [if_neg h6] at hj
    by_cases h7 : knd p i = 7
    · rw [if_pos h7] at hj
      have HP : ∀ x ∈ parts p i, ∀ h s, Jl (blN xs p N x h s).1 → inL p i = true := fun x hx h s hj => by
        have o := opn_part hi h7 hx
        rw [← inL_mem hi hx]; exact HB x (parts_lt hi x hx) o.1 o.2 h s hj
      have HM : ∀ r : Lft × Rst, (Jl r.1 → inL p i = true) → Jl (midN (blN xs p N) xs p i h r).1 → inL p i = true := fun r hr hm => by
        rcases r with ⟨l, s2⟩
        unfold midN at hm
        rcases l with _ | v | f | _ | _
        · replace hm : Jl (orN (prt p i 9) (blN xs p N) h (.nil, s2)).1 := hm
          unfold orN at hm
          rcases hp : prt p i 9 with _ | x
          · rw [hp] at hm; exact hr hm
          · rw [hp] at hm; exact HP x (prt_mem hp).1 h s2 hm
        · exact hr hm
        · replace hm : Jl (if 0 ≤ ctE xs p (clsF s2 f) (exL p i) then blN xs p N (ctE xs p (clsF s2 f) (exL p i)).toNat f s2 else (.rai f, s2)).1 := hm
          split at hm
          · next c =>
            rcases ctE_mem xs p (clsF s2 f) (exL p i) with e | ⟨x, hx, e⟩
            · exact absurd c (by rw [e]; decide)
            · rw [e] at hm
              exact HP x (exL_mem hx).1 f s2 hm
          · exact hr hm
        · exact hr hm
        · exact hr hm
      have hM : Jl (midN (blN xs p N) xs p i h (blN xs p N i h s)).1 → inL p i = true := HM _ (HP i (List.mem_cons_self ..) h s)
      unfold tryN finN at hj
      rcases hp : prt p i 10 with _ | x
      · rw [hp] at hj; exact hM hj
      · rw [hp] at hj
        replace hj : Jl (orElseL (midN (blN xs p N) xs p i h (blN xs p N i h s)).1 (blN xs p N x (hdN h (midN (blN xs p N) xs p i h (blN xs p N i h s)).1) (midN (blN xs p N) xs p i h (blN xs p N i h s)).2).1) := hj
        have hX := HP x (prt_mem hp).1 (hdN h (midN (blN xs p N) xs p i h (blN xs p N i h s)).1) (midN (blN xs p N) xs p i h (blN xs p N i h s)).2
        generalize (blN xs p N x (hdN h (midN (blN xs p N) xs p i h (blN xs p N i h s)).1) (midN (blN xs p N) xs p i h (blN xs p N i h s)).2).1 = l2 at *
        rcases l2 with _ | v | f | _ | _
        · exact hM hj
        all_goals exact hX hj
    rw [if_neg h7] at hj
    by_cases h11 : knd p i = 11
    · rw [if_pos h11] at hj
      unfold withN at hj
      have hX := HB i hi (by rw [h11]; rfl) (by rw [h11]; decide) h (s.1 ++ [100 + lnA p i], s.2)
      generalize (blN xs p N i h (s.1 ++ [100 + lnA p i], s.2)).1 = l2 at *
      rcases l2 with _ | v | f | _ | _
      · exact hX hj
      · exact hX hj
      · replace hj : Jl (if decide (lnBc p i = 1) = true then Lft.nil else .rai f) := hj
        split at hj
        · exact absurd hj (nj (s2 := s) ⟨(by intro h; cases h), (by intro h; cases h)⟩)
        · exact hX hj
      · exact hX hj
      · exact hX hj
    rw [if_neg h11] at hj
    by_cases h12 : knd p i = 12
    · rw [if_pos h12] at hj; exact absurd hj (loop_jl _ _ _ _ _)
    rw [if_neg h12] at hj
    exact absurd hj (nj ⟨(by intro h; cases h), (by intro h; cases h)⟩)
theorem inL_top {i : Nat} (g : GoodP xs p) (hd : dep p i = 0) (hi : i ≤ p.length) : inL p i = false := by
  unfold inL
  rw [inGo_skip p (dep p i) i 0 i (by omega) (Nat.zero_le _) (fun k _ h => by have := (g.line k (by omega)).2.1.1; omega)]
  rfl
theorem run_jl (g : GoodP xs p) : (runI xs p).1 ≠ .brk ∧ (runI xs p).1 ≠ .cnt := by
  have key : ¬ Jl (runI xs p).1 := fun h => by
    obtain ⟨y, _, h2, h3, h4⟩ := goB_jl (Blk.all g) (ln := lnN xs p 6 (-1)) (fun i s _ hib _ hj => jl_line g 6 i (-1) s hib hj) 25 0 ([], []) (Nat.le_refl _) (fun hb => ((Blk.all g).first hb).1) h
    rw [inL_top g h3 (by omega)] at h4; cases h4
  exact ⟨fun e => key (.inl e), fun e => key (.inr e)⟩
end
end

section
section
variable {xs : List Cls} {p : List Lin}
/-- how much is told and raised -/
def Wg (s : Rst) : Nat := s.1.length + s.2.length
def cW : Nat → Nat
  | 0 => 0
  | n + 1 => 3 * cW n + 2
theorem parts_sep {i x y : Nat} (hx : x ∈ parts p i) (hy : y ∈ parts p i) (h : x < y) : bEnd p x ≤ y := by
  obtain ⟨n, hn, rfl⟩ := List.getElem_of_mem hx
  obtain ⟨m, hm, rfl⟩ := List.getElem_of_mem hy
  have hA := List.pairwise_iff_getElem.1 (partsF_asc p i)
  have hnm : n < m := by
    refine Nat.lt_of_not_le fun c => ?_
    rcases Nat.lt_or_ge m n with h2 | h2
    · have := hA m n hm hn h2; omega
    · have e : m = n := by omega
      subst e; omega
  rw [← parts_link (show n + 1 < (parts p i).length by omega)]
  by_cases e : n + 1 = m
  · subst e; exact Nat.le_refl _
  · exact Nat.le_of_lt (hA (n + 1) m (by omega) hm (by omega))
theorem parts_end {i x : Nat} (h7 : knd p i = 7) (hx : x ∈ parts p i) : bEnd p x ≤ nx p i := by
  obtain ⟨n, hn, rfl⟩ := List.getElem_of_mem hx
  exact pos_le h7 hn
theorem parts_ge {i x : Nat} (hi : i < p.length) (hx : x ∈ parts p i) : i ≤ x := (partsF hi hx).1
theorem gB_W {ln : Nat → Rst → Lft × Rst} {a b : Nat} {D : Int} (g : GoodP xs p) (hB : Blk p a b D) (c : Nat) (HF : ∀ x s, fol (knd p x) = true → ln x s = (.nil, s))
    (H : ∀ i s, a ≤ i → i < b → dep p i = D → fol (knd p i) = false → Wg (ln i s).2 ≤ Wg s + c * (nx p i - i)) :
    ∀ (m i : Nat) (s : Rst), b ≤ m + i → a ≤ i → (i < b → dep p i = D ∧ fol (knd p i) = false) → Wg (gB ln p b i s).2 ≤ Wg s + c * (b - i)
  | 0, i, s, hm, _, _ => by rw [gB_end (by omega)]; exact Nat.le_add_right _ _
  | m + 1, i, s, hm, hai, hst => by
    by_cases hib : i < b
    · have hs := hst hib
      have hn := hB.nxt g hai hib hs.1 hs.2
      have h1 := H i s hai hib hs.1 hs.2
      have hmul : c * (nx p i - i) + c * (b - nx p i) = c * (b - i) := by rw [← Nat.mul_add]; congr 1; omega
      rcases hl : ln i s with ⟨l, s2⟩
      rw [hl] at h1
      by_cases e : l = .nil
      · subst e
        rw [gB_step hB hai hib hs.1 HF hl]
        have ih := gB_W g hB c HF H m (nx p i) s2 (by omega) (by omega) hn.2.2
        replace h1 : Wg s2 ≤ Wg s + c * (nx p i - i) := h1
        omega
      · rw [gB_out hib e hl]
        omega
    · rw [gB_end hib]; exact Nat.le_add_right _ _
def Bw (p : List Lin) (blk : Bls) (c : Nat) : Prop := ∀ x h s, x < p.length → opn (knd p x) = true → Wg (blk x h s).2 ≤ Wg s + c * (bEnd p x - (x + 1))
theorem loop_W {blk : Bls} {c : Nat} (H : Bw p blk c) {i : Nat} (hi : i < p.length) (ho : opn (knd p i) = true) (h : Int) : ∀ n s, Wg (loopN blk i h n s).2 ≤ Wg s + n * (c * (bEnd p i - (i + 1)))
  | 0, s => by rw [Nat.zero_mul]; exact Nat.le_refl _
  | n + 1, s => by
    have h1 := H i h s hi ho
    rcases hb : blk i h s with ⟨l, s2⟩
    rw [hb] at h1
    replace h1 : Wg s2 ≤ Wg s + c * (bEnd p i - (i + 1)) := h1
    have ih := loop_W H hi ho h n s2
    generalize c * (bEnd p i - (i + 1)) = K at *
    have e : (n + 1) * K = n * K + K := Nat.succ_mul n K
    unfold loopN
    rw [hb]
    rcases l with _ | v | f | _ | _
    · show Wg (loopN blk i h n s2).2 ≤ _; omega
    · show Wg s2 ≤ _; omega
    · show Wg s2 ≤ _; omega
    · show Wg s2 ≤ _; omega
    · show Wg (loopN blk i h n s2).2 ≤ _; omega
/-- what the middle of a try adds: nothing, or the block of one more line -/
theorem mid_W {blk : Bls} {c : Nat} (H : Bw p blk c) {i : Nat} (hi : i < p.length) (h7 : knd p i = 7) (h : Int) (r : Lft × Rst) :
    Wg (midN blk xs p i h r).2 ≤ Wg r.2 ∨ ∃ x, x ∈ parts p i ∧ knd p x ≠ 7 ∧ knd p x ≠ 10 ∧ Wg (midN blk xs p i h r).2 ≤ Wg r.2 + c * (bEnd p x - (x + 1)) := by
  rcases r with ⟨l, s2⟩
  unfold midN
  rcases l with _ | v | f | _ | _
  · show Wg (orN (prt p i 9) blk h (.nil, s2)).2 ≤ _ ∨ ∃ x, x ∈ parts p i ∧ knd p x ≠ 7 ∧ knd p x ≠ 10 ∧ Wg (orN (prt p i 9) blk h (.nil, s2)).2 ≤ _
    unfold orN
    rcases hp : prt p i 9 with _ | x
    · exact .inl (Nat.le_refl _)
    · have m := prt_mem hp
      exact .inr ⟨x, m.1, by rw [m.2]; decide, by rw [m.2]; decide, H x h s2 (parts_lt hi x m.1) (opn_part hi h7 m.1).1⟩
  · exact .inl (Nat.le_refl _)
  · show Wg (if 0 ≤ ctE xs p (clsF s2 f) (exL p i) then blk (ctE xs p (clsF s2 f) (exL p i)).toNat f s2 else (.rai f, s2)).2 ≤ _ ∨ ∃ x, x ∈ parts p i ∧ knd p x ≠ 7 ∧ knd p x ≠ 10 ∧ Wg (if 0 ≤ ctE xs p (clsF s2 f) (exL p i) then blk (ctE xs p (clsF s2 f) (exL p i)).toNat f s2 else (.rai f, s2)).2 ≤ _
    by_cases c0 : 0 ≤ ctE xs p (clsF s2 f) (exL p i)
    · rcases ctE_mem xs p (clsF s2 f) (exL p i) with e | ⟨x, hx, e⟩
      · exact absurd c0 (by rw [e]; decide)
      · have m := exL_mem hx
        rw [if_pos c0, e]
        exact .inr ⟨x, m.1, by rw [m.2]; decide, by rw [m.2]; decide, H x f s2 (parts_lt hi x m.1) (opn_part hi h7 m.1).1⟩
    · rw [if_neg c0]
      exact .inl (Nat.le_refl _)
  · exact .inl (Nat.le_refl _)
  · exact .inl (Nat.le_refl _)
theorem try_W {blk : Bls} {c : Nat} (H : Bw p blk c) {i : Nat} (hi : i < p.length) (h7 : knd p i = 7) (h : Int) (s : Rst) : Wg (tryN blk xs p i h s).2 ≤ Wg s + c * (nx p i - i) := by
  have hi0 : i ∈ parts p i := List.mem_cons_self ..
  have h1 := H i h s hi (by rw [h7]; rfl)
  have hgi := bEnd_gt p i
  have hni := parts_end h7 hi0
  have M := mid_W (xs := xs) H hi h7 h (blk i h s)
  unfold tryN
  -- the last block adds at most its own
  have FIN : ∀ r : Lft × Rst, Wg (finN blk p i h r).2 ≤ Wg r.2 ∨ ∃ y, y ∈ parts p i ∧ knd p y = 10 ∧ (∀ x ∈ parts p i, x ≤ y) ∧ Wg (finN blk p i h r).2 ≤ Wg r.2 + c * (bEnd p y - (y + 1)) := fun r => by
    rw [fin_last]
    by_cases k : knd p (lstP p i) = 10
    · rw [if_pos k]
      exact .inr ⟨lstP p i, lstP_mem p i, k, fun x hx => lstP_ge hx, H (lstP p i) (hdN h r.1) r.2 (parts_lt hi _ (lstP_mem p i)) (opn_part hi h7 (lstP_mem p i)).1⟩
    · rw [if_neg k]; exact .inl (Nat.le_refl _)
  have Fi := FIN (midN blk xs p i h (blk i h s))
  have mono : ∀ {a b : Nat}, a ≤ b → c * a ≤ c * b := fun h => Nat.mul_le_mul_left c h
  rcases M with M | ⟨x, hx, x7, x10, M⟩
  · rcases Fi with Fi | ⟨y, hy, y10, _, Fi⟩
    · have := mono (show bEnd p i - (i + 1) ≤ nx p i - i by omega)
      omega
    · have hiy : i < y := by
        have := parts_ge hi hy
        have : i ≠ y := fun e => by rw [← e, h7] at y10; exact absurd y10 (by decide)
        omega
      have h3 := parts_sep hi0 hy hiy
      have h4 := parts_end h7 hy
      have h5 := bEnd_gt p y
      have e := mono (show (bEnd p i - (i + 1)) + (bEnd p y - (y + 1)) ≤ nx p i - i by omega)
      rw [Nat.mul_add] at e
      omega
  · have hix : i < x := by
      have := parts_ge hi hx
      have : i ≠ x := fun e => by rw [← e] at x7; exact x7 h7
      omega
    have h3 := parts_sep hi0 hx hix
    have h4 := parts_end h7 hx
    have h5 := bEnd_gt p x
    rcases Fi with Fi | ⟨y, hy, y10, hmax, Fi⟩
    · have e := mono (show (bEnd p i - (i + 1)) + (bEnd p x - (x + 1)) ≤ nx p i - i by omega)
      rw [Nat.mul_add] at e
      omega
    · have hxy : x < y := by
        have := hmax x hx
        have : x ≠ y := fun e => by rw [e] at x10; exact x10 y10
        omega
      have h6 := parts_sep hx hy hxy
      have h7b := parts_end h7 hy
      have h8 := bEnd_gt p y
      have e := mono (show (bEnd p i - (i + 1)) + ((bEnd p x - (x + 1)) + (bEnd p y - (y + 1))) ≤ nx p i - i by omega)
      rw [Nat.mul_add, Nat.mul_add] at e
      omega
theorem Wg_snoc (l : List Int) (x : Int) (h : List Flt) : Wg (l ++ [x], h) = Wg (l, h) + 1 := by unfold Wg; simp; omega
theorem Wg_snoc2 (l : List Int) (x : Flt) (h : List Flt) : Wg (l, h ++ [x]) = Wg (l, h) + 1 := by unfold Wg; simp; omega
theorem step_W (g : GoodP xs p) {blk : Bls} {c : Nat} (H : Bw p blk c) {i : Nat} (hi : i < p.length) (h : Int) (s : Rst) : Wg (stepN blk xs p h i s).2 ≤ Wg s + (3 * c + 2) * (nx p i - i) := by
  have hgi := bEnd_gt p i
  have hone : 0 < nx p i - i := by
    unfold nx
    split
    · next h7 =>
      have := bEnd_gt p (lstP p i)
      have := parts_ge hi (lstP_mem p i)
      omega
    · omega
  have mono : ∀ {a b : Nat}, a ≤ b → (3 * c + 2) * a ≤ (3 * c + 2) * b := fun h => Nat.mul_le_mul_left _ h
  have m1 := mono hone
  rw [Nat.mul_one] at m1
  have hrs : ∀ a b, Wg (rsN a b h s).2 ≤ Wg s + (3 * c + 2) * (nx p i - i) := fun a b => by
    have : Wg (rsN a b h s).2 = Wg s + 1 := Wg_snoc2 _ _ _
    omega
  unfold stepN
  by_cases h1 : knd p i = 1
  · rw [if_pos h1]
    have : Wg (s.1 ++ [lnA p i], s.2) = Wg s + 1 := Wg_snoc _ _ _
    show Wg (s.1 ++ [lnA p i], s.2) ≤ _
    omega
  rw [if_neg h1]
  by_cases h2 : knd p i = 2
  · rw [if_pos h2]; exact hrs _ _
  rw [if_neg h2]
  by_cases h3 : knd p i = 3
  · rw [if_pos h3]
    unfold againN
    split
    · exact hrs _ _
    · exact Nat.le_add_right _ _
  rw [if_neg h3]
  by_cases h4 : knd p i = 4
  · rw [if_pos h4]; exact Nat.le_add_right _ _
  rw [if_neg h4]
  by_cases h5 : knd p i = 5
  · rw [if_pos h5]; exact Nat.le_add_right _ _
  rw [if_neg h5]
  by_cases h6 : knd p i = 6
  · rw [if_pos h6]; exact Nat.le_add_right _ _
  rw [if_neg h6]
  by_cases h7 : knd p i = 7
  · rw [if_pos h7]
    have := try_W (xs := xs) H hi h7 h s
    have h8 : c * (nx p i - i) ≤ (3 * c + 2) * (nx p i - i) := Nat.mul_le_mul_right _ (by omega)
    omega
  rw [if_neg h7]
  have hnx : nx p i = bEnd p i := by unfold nx; rw [if_neg h7]
  rw [hnx] at hone m1 ⊢
  by_cases h11 : knd p i = 11
  · rw [if_pos h11]
    have hb := H i h (s.1 ++ [100 + lnA p i], s.2) hi (by rw [h11]; rfl)
    have e1 : Wg (s.1 ++ [100 + lnA p i], s.2) = Wg s + 1 := Wg_snoc _ _ _
    have e2 : Wg (withN blk p i h s).2 = Wg (blk i h (s.1 ++ [100 + lnA p i], s.2)).2 + 1 := Wg_snoc _ _ _
    have h8 : c * (bEnd p i - (i + 1)) + 2 ≤ (3 * c + 2) * (bEnd p i - i) := by
      have a1 : c * (bEnd p i - (i + 1)) ≤ 3 * c * (bEnd p i - i) := Nat.mul_le_mul (by omega) (by omega)
      have a2 : 2 ≤ 2 * (bEnd p i - i) := by omega
      rw [Nat.add_mul]; omega
    omega
  rw [if_neg h11]
  by_cases h12 : knd p i = 12
  · rw [if_pos h12]
    have hl := loop_W H hi (by rw [h12]; rfl) h (lnA p i).toNat s
    have ha := loop_a g hi h12
    rw [← lnA_at hi] at ha
    have h8 : (lnA p i).toNat * (c * (bEnd p i - (i + 1))) ≤ (3 * c + 2) * (bEnd p i - i) := by
      have a1 : (lnA p i).toNat * (c * (bEnd p i - (i + 1))) ≤ 3 * (c * (bEnd p i - i)) := Nat.mul_le_mul (by omega) (Nat.mul_le_mul_left _ (by omega))
      rw [show 3 * (c * (bEnd p i - i)) = 3 * c * (bEnd p i - i) from (Nat.mul_assoc _ _ _).symm] at a1
      rw [Nat.add_mul]; omega
    omega
  rw [if_neg h12]
  exact Nat.le_add_right _ _
theorem line_W (g : GoodP xs p) : ∀ N i h s, i < p.length → Wg (lnN xs p N h i s).2 ≤ Wg s + cW N * (nx p i - i)
  | 0, i, h, s, _ => Nat.le_add_right _ _
  | N + 1, i, h, s, hi => by
    rw [lnN_succ]
    refine step_W g (c := cW N) (fun x h s hx ho => ?_) hi h s
    have hbl := bEnd_le hx
    have hp := g.len
    have e0 : blN xs p N x h s = gB (lnN xs p N h) p (bEnd p x) (x + 1) s := gB_of _ _ 25 (by omega)
    rw [e0]
    have hB := Blk.of g hx ho
    exact gB_W g hB (cW N) (fun x s hf => lnN_fol xs p N h x s hf) (fun i s _ hib _ _ => line_W g N i h s (by omega)) (bEnd p x) (x + 1) s (by omega) (Nat.le_refl _) hB.first
theorem run_sm (g : GoodP xs p) : Sm (runI xs p).2 := by
  have hp := g.len
  have e0 : runI xs p = gB (lnN xs p 6 (-1)) p p.length 0 ([], []) := gB_of 0 ([], []) 25 (by omega)
  have h := gB_W g (Blk.all g) (cW 6) (fun x s hf => lnN_fol xs p 6 (-1) x s hf) (fun i s _ hib _ _ => line_W g 6 i (-1) s hib) p.length 0 ([], []) (by omega) (Nat.le_refl _) (Blk.all g).first
  rw [← e0] at h
  have e1 : cW 6 = 728 := rfl
  rw [e1] at h
  have e2 : Wg (([], []) : Rst) = 0 := rfl
  rw [e2] at h
  unfold Wg at h
  exact ⟨by omega, by omega⟩
end
end

section
theorem compactUpTo_asc (d : Array Int) (hs : ∀ i j, i ≤ j → j < d.size → d[i]! ≤ d[j]!) : ∀ m, m ≤ d.size →
    (Go.Lib.compactUpTo d m).Pairwise (· < ·) ∧ ∀ x, x ∈ Go.Lib.compactUpTo d m ↔ ∃ j, j < m ∧ d[j]! = x := by
  intro m
  induction m with
  | zero => intro _; exact ⟨by simp [Go.Lib.compactUpTo], by simp [Go.Lib.compactUpTo]⟩
  | succ m ih =>
    intro hm
    obtain ⟨h1, h2⟩ := ih (by omega)
    rw [Go.Lib.compactUpTo_succ]
    by_cases hk : Go.Lib.keeps d m = true
    · rw [if_pos hk]
      have hlt : ∀ x ∈ Go.Lib.compactUpTo d m, x < d[m]! := by
        intro x hx
        obtain ⟨j, hj, rfl⟩ := (h2 x).1 hx
        have h3 : m ≠ 0 := by omega
        have h4 : d[m]! ≠ d[m - 1]! := by
          have := hk; simp [Go.Lib.keeps] at this
          rcases this with h | h
          · omega
          · simpa using h
        have h5 := hs j (m - 1) (by omega) (by omega)
        have h6 := hs (m - 1) m (by omega) (by omega)
        omega
      refine ⟨?_, fun x => ?_⟩
      · rw [List.pairwise_append]
        exact ⟨h1, by simp, fun a ha b hb => by simp at hb; subst hb; exact hlt a ha⟩
      · rw [List.mem_append, h2]
        constructor
        · rintro (⟨j, hj, e⟩ | hx)
          · exact ⟨j, by omega, e⟩
          · simp at hx; exact ⟨m, by omega, by simp [hx]⟩
        · rintro ⟨j, hj, e⟩
          by_cases hjm : j = m
          · subst hjm; right; simp [e]
          · left; exact ⟨j, by omega, e⟩
    · rw [if_neg hk, List.append_nil]
      refine ⟨h1, fun x => ?_⟩
      rw [h2]
      constructor
      · rintro ⟨j, hj, e⟩; exact ⟨j, by omega, e⟩
      · rintro ⟨j, hj, e⟩
        by_cases hjm : j = m
        · subst hjm
          have h4 : j ≠ 0 ∧ d[j]! = d[j - 1]! := by
            have := hk; simp [Go.Lib.keeps] at this
            exact ⟨this.1, by simpa using this.2⟩
          exact ⟨j - 1, by omega, by rw [← h4.2]; exact e⟩
        · exact ⟨j, by omega, e⟩
theorem compact_sorted (M : List Int) : (Go.Lib.compact (M.mergeSort fun x y => decide (x ≤ y))).Pairwise (· < ·) ∧ ∀ x, x ∈ Go.Lib.compact (M.mergeSort fun x y => decide (x ≤ y)) ↔ x ∈ M := by
  have hp := List.pairwise_mergeSort (le := fun x y : Int => decide (x ≤ y)) (by intro a b c; simp; omega) (by intro a b; simp; omega) M
  generalize hS : M.mergeSort (fun x y => decide (x ≤ y)) = S at *
  have hs : ∀ i j, i ≤ j → j < S.toArray.size → S.toArray[i]! ≤ S.toArray[j]! := by
    intro i j hij hj
    simp at hj
    rw [getElem!_pos S.toArray i (by simp; omega), getElem!_pos S.toArray j (by simpa using hj)]
    rcases Nat.lt_or_ge i j with h | h
    · have := List.pairwise_iff_getElem.1 hp i j (by omega) hj h
      simpa using this
    · have : i = j := by omega
      subst this; exact Int.le_refl _
  obtain ⟨h1, h2⟩ := compactUpTo_asc S.toArray hs S.length (by simp)
  refine ⟨h1, fun x => (h2 x).trans ?_⟩
  have hm : x ∈ S ↔ x ∈ M := by rw [← hS]; exact List.mem_mergeSort
  rw [← hm, List.mem_iff_getElem]
  constructor
  · rintro ⟨j, hj, e⟩
    rw [getElem!_pos S.toArray j (by simpa using hj)] at e
    exact ⟨j, hj, by simpa using e⟩
  · rintro ⟨j, hj, e⟩
    exact ⟨j, hj, by rw [getElem!_pos S.toArray j (by simpa using hj)]; simpa using e⟩
theorem asc_ext : ∀ (l m : List Int), l.Pairwise (· < ·) → m.Pairwise (· < ·) → (∀ x, x ∈ l ↔ x ∈ m) → l = m
  | [], [], _, _, _ => rfl
  | [], b :: m, _, _, h => by have := (h b).2 (by simp); simp at this
  | a :: l, [], _, _, h => by have := (h a).1 (by simp); simp at this
  | a :: l, b :: m, h1, h2, h => by
    rw [List.pairwise_cons] at h1 h2
    have e : a = b := by
      have ha := (h a).1 (by simp)
      have hb := (h b).2 (by simp)
      rcases List.mem_cons.1 ha with e | ha
      · exact e
      · rcases List.mem_cons.1 hb with e | hb
        · exact e.symm
        · have := h1.1 b hb; have := h2.1 a ha; omega
    subst e
    rw [asc_ext l m h1.2 h2.2 (fun x => by
      constructor
      · intro hx
        rcases List.mem_cons.1 ((h x).1 (by simp [hx])) with e | hx'
        · have := h1.1 x hx; omega
        · exact hx'
      · intro hx
        rcases List.mem_cons.1 ((h x).2 (by simp [hx])) with e | hx'
        · have := h2.1 x hx; omega
        · exact hx')]
end

section
def cauOf (hs : List Flt) (x : Int) : Int := match hs[x.toNat]? with | some f => f.cause | none => -1
theorem cauOf_at {hs : List Flt} {i : Nat} (h : i < hs.length) : cauOf hs (i : Int) = hs[i].cause := by
  unfold cauOf; rw [Int.toNat_natCast, List.getElem?_eq_getElem h]
theorem Lnk.caultlt {hs : List Flt} (h : Lnk hs) : ∀ x : Int, 0 ≤ x → x < hs.length → cauOf hs x < hs.length := by
  intro x h0 h1
  obtain ⟨i, rfl⟩ := Int.eq_ofNat_of_zero_le h0
  rw [cauOf_at (by omega)]
  exact (h.cause i (by omega)).2

/-- x is reached from f along c and d -/
inductive Rch (c d : Int → Int) (f : Int) : Int → Prop
  | base : Rch c d f f
  | one {x : Int} : Rch c d f x → 0 ≤ c x → Rch c d f (c x)
  | two {x : Int} : Rch c d f x → 0 ≤ d x → Rch c d f (d x)
theorem Rch.trans {c d : Int → Int} {f y x : Int} (h : Rch c d f y) (k : Rch c d y x) : Rch c d f x := by
  induction k with
  | base => exact h
  | one _ h0 ih => exact .one ih h0
  | two _ h0 ih => exact .two ih h0
theorem Rch.least {c d : Int → Int} {f : Int} {S : Int → Prop} (h0 : S f) (h1 : ∀ x, S x → 0 ≤ c x → S (c x)) (h2 : ∀ x, S x → 0 ≤ d x → S (d x)) {x : Int} (h : Rch c d f x) : S x := by
  induction h with
  | base => exact h0
  | one _ h0 ih => exact h1 _ ih h0
  | two _ h0 ih => exact h2 _ ih h0

def rgo (c d : Int → Int) : Nat → Int → List Int → List Int
  | 0, _, out => out
  | m + 1, f, out => if f < 0 ∨ f ∈ out then out else rgo c d m (d f) (rgo c d m (c f) (out ++ [f]))
theorem rgo_stop {c d : Int → Int} {m : Nat} {f : Int} {out : List Int} (h : f < 0 ∨ f ∈ out) : rgo c d m f out = out := by
  cases m with
  | zero => rfl
  | succ m => rw [rgo, if_pos h]
theorem rgo_on {c d : Int → Int} {m : Nat} {f : Int} {out : List Int} (h : ¬ (f < 0 ∨ f ∈ out)) : rgo c d (m + 1) f out = rgo c d m (d f) (rgo c d m (c f) (out ++ [f])) := by
  rw [rgo, if_neg h]
/-- what is found keeps to -/
structure Fnd (n : Nat) (out : List Int) : Prop where
  nd : out.Nodup
  rng : ∀ x ∈ out, 0 ≤ x ∧ x < n
theorem Fnd.nil (n : Nat) : Fnd n [] := ⟨by simp, by simp⟩
theorem Fnd.snoc {n : Nat} {out : List Int} (h : Fnd n out) {f : Int} (h0 : 0 ≤ f) (h1 : f < n) (hm : f ∉ out) : Fnd n (out ++ [f]) := by
  refine ⟨?_, fun x hx => ?_⟩
  · rw [List.nodup_append]
    exact ⟨h.nd, by simp, fun a ha b hb e => by simp at hb; subst hb; subst e; exact hm ha⟩
  · rcases List.mem_append.1 hx with hx | hx
    · exact h.rng x hx
    · simp at hx; subst hx; exact ⟨h0, h1⟩
theorem Fnd.len {n : Nat} {out : List Int} (h : Fnd n out) : out.length ≤ n := Chn.nodup_bound n out h.nd h.rng
structure RPost (c d : Int → Int) (n : Nat) (f : Int) (out L : List Int) : Prop where
  fnd : Fnd n L
  pre : ∃ r, L = out ++ r
  has : 0 ≤ f → f ∈ L
  new : ∀ x ∈ L, x ∉ out → Rch c d f x ∧ (0 ≤ c x → c x ∈ L) ∧ (0 ≤ d x → d x ∈ L)
  neg : f < 0 → L = out
theorem rgo_post {c d : Int → Int} {n : Nat} (hc : ∀ x : Int, 0 ≤ x → x < n → c x < n) (hd : ∀ x : Int, 0 ≤ x → x < n → d x < n) :
    ∀ (m : Nat) (f : Int) (out : List Int), Fnd n out → f < n → n + 1 ≤ m + out.length → RPost c d n f out (rgo c d m f out) := by
  intro m
  induction m with
  | zero => intro f out h _ hm; have := h.len; omega
  | succ m ih =>
    intro f out h hf hm
    by_cases he : f < 0 ∨ f ∈ out
    · rw [rgo_stop he]
      refine ⟨h, ⟨[], by simp⟩, fun h0 => ?_, fun x hx hn => absurd hx hn, fun _ => rfl⟩
      rcases he with he | he
      · omega
      · exact he
    · rw [rgo_on he]
      simp only [not_or, Int.not_lt] at he
      obtain ⟨h0, hm0⟩ := he
      have p1 := ih (c f) (out ++ [f]) (h.snoc h0 hf hm0) (hc f h0 hf) (by simp; omega)
      obtain ⟨r1, e1⟩ := p1.pre
      have p2 := ih (d f) (rgo c d m (c f) (out ++ [f])) p1.fnd (hd f h0 hf) (by rw [e1]; simp; omega)
      generalize rgo c d m (c f) (out ++ [f]) = L1 at *
      generalize rgo c d m (d f) L1 = L2 at *
      obtain ⟨r2, e2⟩ := p2.pre
      have hsub : ∀ x, x ∈ L1 → x ∈ L2 := fun x hx => by rw [e2]; exact List.mem_append_left _ hx
      have hf1 : f ∈ L1 := by rw [e1]; simp
      refine ⟨p2.fnd, ⟨f :: r1 ++ r2, by rw [e2, e1]; simp⟩, fun _ => hsub f hf1, fun x hx hn => ?_, fun h => by omega⟩
      by_cases hx1 : x ∈ L1
      · by_cases hxf : x = f
        · subst hxf
          refine ⟨.base, fun hp => hsub _ (p1.has hp), fun hp => p2.has hp⟩
        · have hno : x ∉ out ++ [f] := by simp [hn, hxf]
          obtain ⟨a, b, c'⟩ := p1.new x hx1 hno
          have hcf : 0 ≤ c f := by
            rcases Int.lt_or_le (c f) 0 with hl | hl
            · rw [p1.neg hl] at hx1; exact absurd hx1 hno
            · exact hl
          exact ⟨(Rch.one .base hcf).trans a, fun hp => hsub _ (b hp), fun hp => hsub _ (c' hp)⟩
      · obtain ⟨a, b, c'⟩ := p2.new x hx hx1
        have hdf : 0 ≤ d f := by
          rcases Int.lt_or_le (d f) 0 with hl | hl
          · rw [p2.neg hl] at hx; exact absurd hx hx1
          · exact hl
        exact ⟨(Rch.two .base hdf).trans a, b, c'⟩
def rch0 (hs : List Flt) (f : Int) : List Int := rgo (cauOf hs) (ctxOf hs) (hs.length + 1) f []
theorem rch0_fnd {hs : List Flt} (lk : Lnk hs) {f : Int} (h1 : f < hs.length) : Fnd hs.length (rch0 hs f) :=
  (rgo_post lk.caultlt lk.ctxlt (hs.length + 1) f [] (Fnd.nil _) h1 (by simp)).fnd
theorem rch0_iff {hs : List Flt} (lk : Lnk hs) {f : Int} (h0 : 0 ≤ f) (h1 : f < hs.length) (x : Int) : x ∈ rch0 hs f ↔ Rch (cauOf hs) (ctxOf hs) f x := by
  have p := rgo_post lk.caultlt lk.ctxlt (hs.length + 1) f [] (Fnd.nil _) h1 (by simp)
  constructor
  · intro h; exact (p.new x h (by simp)).1
  · intro h
    exact Rch.least (S := fun x => x ∈ rch0 hs f) (p.has h0) (fun x hx => (p.new x hx (by simp)).2.1) (fun x hx => (p.new x hx (by simp)).2.2) h
/-- the numbers below n of a list, ascending -/
def ascOf (L : List Int) : Nat → List Int
  | 0 => []
  | n + 1 => ascOf L n ++ cond (hasI L (n : Int)) [(n : Int)] []
theorem ascOf_mem {L : List Int} : ∀ {k : Nat} {x : Int}, x ∈ ascOf L k ↔ 0 ≤ x ∧ x < k ∧ x ∈ L := by
  intro k
  induction k with
  | zero => intro x; simp [ascOf]; omega
  | succ k ih =>
    intro x
    rw [ascOf, List.mem_append, ih]
    cases hp : hasI L (k : Int)
    · simp only [cond_false, List.not_mem_nil, or_false]
      constructor
      · rintro ⟨a, b, c⟩; exact ⟨a, by omega, c⟩
      · rintro ⟨a, b, c⟩
        refine ⟨a, ?_, c⟩
        have : x ≠ k := by rintro rfl; rw [← hasI_iff', hp] at c; cases c
        omega
    · simp only [cond_true, List.mem_singleton]
      constructor
      · rintro (⟨a, b, c⟩ | rfl)
        · exact ⟨a, by omega, c⟩
        · exact ⟨by omega, by omega, hasI_iff'.1 hp⟩
      · rintro ⟨a, b, c⟩
        by_cases e : x = k
        · exact .inr e
        · exact .inl ⟨a, by omega, c⟩
theorem ascOf_asc {L : List Int} : ∀ (k : Nat), (ascOf L k).Pairwise (· < ·) := by
  intro k
  induction k with
  | zero => simp [ascOf]
  | succ k ih =>
    rw [ascOf, List.pairwise_append]
    refine ⟨ih, ?_, fun a ha b hb => ?_⟩
    · cases hasI L (k : Int) <;> simp
    · have := (ascOf_mem.1 ha).2.1
      cases hp : hasI L (k : Int)
      · rw [hp] at hb; simp at hb
      · rw [hp] at hb; simp at hb; omega
theorem ascOf_len {L : List Int} : ∀ (k : Nat), (ascOf L k).length ≤ k := by
  intro k
  induction k with
  | zero => simp [ascOf]
  | succ k ih => rw [ascOf, List.length_append]; cases hasI L (k : Int) <;> simp <;> omega
theorem ascOf_congr {L M : List Int} : ∀ (k : Nat), (∀ x : Int, 0 ≤ x → x < k → (x ∈ L ↔ x ∈ M)) → ascOf L k = ascOf M k := by
  intro k h
  exact asc_ext _ _ (ascOf_asc k) (ascOf_asc k) (fun x => by rw [ascOf_mem, ascOf_mem]; exact ⟨fun ⟨a, b, c⟩ => ⟨a, b, (h x a b).1 c⟩, fun ⟨a, b, c⟩ => ⟨a, b, (h x a b).2 c⟩⟩)
def reachL (hs : List Flt) (f : Int) : List Int := ascOf (rch0 hs f) hs.length
theorem reachL_mem {hs : List Flt} (lk : Lnk hs) {f : Int} (h0 : 0 ≤ f) (h1 : f < hs.length) (x : Int) : x ∈ reachL hs f ↔ Rch (cauOf hs) (ctxOf hs) f x := by
  unfold reachL
  rw [ascOf_mem, rch0_iff lk h0 h1]
  constructor
  · exact fun h => h.2.2
  · intro h
    have := (rch0_fnd lk h1).rng x ((rch0_iff lk h0 h1 x).2 h)
    exact ⟨this.1, this.2, h⟩
theorem reachL_asc (hs : List Flt) (f : Int) : (reachL hs f).Pairwise (· < ·) := ascOf_asc _
/-- what is ascending and has just what is reached is it -/
theorem reachL_eq {hs : List Flt} (lk : Lnk hs) {f : Int} (h0 : 0 ≤ f) (h1 : f < hs.length) {L : List Int} (ha : L.Pairwise (· < ·)) (hm : ∀ x, x ∈ L ↔ Rch (cauOf hs) (ctxOf hs) f x) : L = reachL hs f :=
  asc_ext _ _ ha (reachL_asc hs f) (fun x => by rw [hm, reachL_mem lk h0 h1])
end

section
/-- x is marked -/
def tr (fd : List Bool) (x : Int) : Prop := 0 ≤ x ∧ fd[x.toNat]? = some true
theorem tr_nat {fd : List Bool} {i : Nat} (h : i < fd.length) : tr fd (i : Int) ↔ fd[i] = true := by
  unfold tr; rw [Int.toNat_natCast, List.getElem?_eq_getElem h]; simp
theorem tr_lt {fd : List Bool} {x : Int} (h : tr fd x) : ∃ i : Nat, x = i ∧ i < fd.length := by
  obtain ⟨h0, h1⟩ := h
  obtain ⟨i, rfl⟩ := Int.eq_ofNat_of_zero_le h0
  rw [Int.toNat_natCast] at h1
  exact ⟨i, rfl, (List.getElem?_eq_some_iff.1 h1).1⟩
theorem tr_set {fd : List Bool} {i : Nat} (hi : i < fd.length) {x : Int} : tr (fd.set i true) x ↔ tr fd x ∨ x = i := by
  constructor
  · intro h
    obtain ⟨k, rfl, hk⟩ := tr_lt h
    rw [List.length_set] at hk
    rw [tr_nat (by simpa using hk), List.getElem_set] at h
    split at h
    · right; omega
    · left; exact (tr_nat hk).2 h
  · rintro (h | rfl)
    · obtain ⟨k, rfl, hk⟩ := tr_lt h
      rw [tr_nat (by simpa using hk), List.getElem_set]
      split
      · rfl
      · exact (tr_nat hk).1 h
    · rw [tr_nat (by simpa using hi)]; simp
theorem tr_start (n : Nat) (x : Int) : ¬ tr (List.replicate n false) x := by
  intro h
  obtain ⟨k, rfl, hk⟩ := tr_lt h
  rw [tr_nat hk] at h
  simp at h
/-- how many are not marked -/
def unm : List Bool → Nat
  | [] => 0
  | b :: r => cond b 0 1 + unm r
theorem unm_set : ∀ {fd : List Bool} {i : Nat} (h : i < fd.length), fd[i] = false → unm (fd.set i true) + 1 = unm fd
  | b :: r, 0, _, hb => by simp at hb; subst hb; simp [unm]; omega
  | b :: r, i + 1, h, hb => by
    have := unm_set (fd := r) (i := i) (by simpa using h) (by simpa using hb)
    simp only [List.set_cons_succ, unm]; omega
theorem unm_rep (n : Nat) : unm (List.replicate n false) = n := by
  induction n with
  | zero => rfl
  | succ n ih => rw [List.replicate_succ, unm, ih]; simp; omega
structure RInv (c d : Int → Int) (n : Nat) (f : Int) (td : List Int) (fd : List Bool) : Prop where
  len : fd.length = n
  bnd : ∀ x ∈ td, -1 ≤ x ∧ x < n
  mem : ∀ x ∈ td, 0 ≤ x → Rch c d f x
  fnd : ∀ x, tr fd x → Rch c d f x ∧ (0 ≤ c x → tr fd (c x) ∨ c x ∈ td) ∧ (0 ≤ d x → tr fd (d x) ∨ d x ∈ td)
  has : f ∈ td ∨ tr fd f
theorem RInv.start {c d : Int → Int} {n : Nat} {f : Int} (h0 : 0 ≤ f) (h1 : f < n) : RInv c d n f [f] (List.replicate n false) :=
  ⟨by simp, fun x hx => by simp at hx; subst hx; omega, fun x hx _ => by simp at hx; subst hx; exact .base, fun x hx => absurd hx (tr_start n x), .inl (by simp)⟩
theorem RInv.pop {c d : Int → Int} {n : Nat} {f i : Int} {t0 : List Int} {fd : List Bool} (h : RInv c d n f (t0 ++ [i]) fd) (hf : 0 ≤ f) (hi : i < 0 ∨ tr fd i) : RInv c d n f t0 fd := by
  have key : ∀ x, 0 ≤ x → (tr fd x ∨ x ∈ t0 ++ [i]) → tr fd x ∨ x ∈ t0 := by
    intro x h0 hx
    rcases hx with hx | hx
    · exact .inl hx
    · rcases List.mem_append.1 hx with hx | hx
      · exact .inr hx
      · simp at hx; subst hx
        rcases hi with hi | hi
        · omega
        · exact .inl hi
  refine ⟨h.len, fun x hx => h.bnd x (by simp [hx]), fun x hx => h.mem x (by simp [hx]), fun x hx => ?_, ?_⟩
  · obtain ⟨a, b, e⟩ := h.fnd x hx
    exact ⟨a, fun hp => key _ hp (b hp), fun hp => key _ hp (e hp)⟩
  · rcases h.has with h1 | h1
    · rcases key f hf (.inr h1) with h2 | h2
      · exact .inr h2
      · exact .inl h2
    · exact .inr h1
theorem RInv.push {c d : Int → Int} {n : Nat} {f : Int} {i : Nat} {t0 : List Int} {fd : List Bool} (h : RInv c d n f (t0 ++ [(i : Int)]) fd) (hil : i < n) (hc : -1 ≤ c i ∧ c i < n) (hd : -1 ≤ d i ∧ d i < n) : RInv c d n f (t0 ++ [c i, d i]) (fd.set i true) := by
  have hil' : i < fd.length := by rw [h.len]; exact hil
  have hri := h.mem (i : Int) (by simp) (by omega)
  have key : ∀ x, (tr fd x ∨ x ∈ t0 ++ [(i : Int)]) → tr (fd.set i true) x ∨ x ∈ t0 ++ [c i, d i] := by
    intro x hx
    rcases hx with hx | hx
    · exact .inl ((tr_set hil').2 (.inl hx))
    · rcases List.mem_append.1 hx with hx | hx
      · exact .inr (by simp [hx])
      · simp at hx; exact .inl ((tr_set hil').2 (.inr hx))
  refine ⟨by simpa using h.len, fun x hx => ?_, fun x hx h0 => ?_, fun x hx => ?_, ?_⟩
  · rcases List.mem_append.1 hx with hx | hx
    · exact h.bnd x (by simp [hx])
    · simp at hx; rcases hx with rfl | rfl
      · exact hc
      · exact hd
  · rcases List.mem_append.1 hx with hx | hx
    · exact h.mem x (by simp [hx]) h0
    · simp at hx; rcases hx with rfl | rfl
      · exact .one hri h0
      · exact .two hri h0
  · rcases (tr_set hil').1 hx with hx | rfl
    · obtain ⟨a, b, e⟩ := h.fnd x hx
      exact ⟨a, fun hp => key _ (b hp), fun hp => key _ (e hp)⟩
    · exact ⟨hri, fun _ => .inr (by simp), fun _ => .inr (by simp)⟩
  · rcases key f (h.has.symm) with h1 | h1
    · exact .inr h1
    · exact .inl h1
theorem RInv.done {c d : Int → Int} {n : Nat} {f : Int} {fd : List Bool} (h : RInv c d n f [] fd) (x : Int) : tr fd x ↔ Rch c d f x := by
  constructor
  · exact fun hx => (h.fnd x hx).1
  · intro hx
    refine Rch.least (S := tr fd) ?_ (fun x hx h0 => ?_) (fun x hx h0 => ?_) hx
    · rcases h.has with h1 | h1
      · simp at h1
      · exact h1
    · rcases (h.fnd x hx).2.1 h0 with h1 | h1
      · exact h1
      · simp at h1
    · rcases (h.fnd x hx).2.2 h0 with h1 | h1
      · exact h1
      · simp at h1
/-- the marked ones below k -/
def mkd (fd : List Bool) : Nat → List Int
  | 0 => []
  | k + 1 => mkd fd k ++ cond (fd[k]?.getD false) [(k : Int)] []
theorem mkd_yes {fd : List Bool} {k : Nat} (h : k < fd.length) (e : fd[k] = true) : mkd fd (k + 1) = mkd fd k ++ [(k : Int)] := by
  rw [mkd, List.getElem?_eq_getElem h, e]; rfl
theorem mkd_no {fd : List Bool} {k : Nat} (h : k < fd.length) (e : fd[k] = false) : mkd fd (k + 1) = mkd fd k := by
  rw [mkd, List.getElem?_eq_getElem h, e]; simp
theorem mkd_len {fd : List Bool} : ∀ k, (mkd fd k).length ≤ k
  | 0 => by simp [mkd]
  | k + 1 => by have := mkd_len (fd := fd) k; rw [mkd, List.length_append]; cases fd[k]?.getD false <;> simp <;> omega
theorem mkd_mem {fd : List Bool} : ∀ {k : Nat} {x : Int}, x ∈ mkd fd k ↔ x < k ∧ tr fd x := by
  intro k
  induction k with
  | zero => intro x; simp [mkd]; intro h1 h2; exact absurd h2.1 (by omega)
  | succ k ih =>
    intro x
    rw [mkd, List.mem_append, ih]
    have hk : tr fd (k : Int) ↔ fd[k]?.getD false = true := by
      unfold tr; rw [Int.toNat_natCast]
      cases h : fd[k]? <;> simp
    cases hp : fd[k]?.getD false
    · rw [hp] at hk
      simp only [cond_false, List.not_mem_nil, or_false]
      constructor
      · rintro ⟨a, b⟩; exact ⟨by omega, b⟩
      · rintro ⟨a, b⟩
        have : x ≠ k := by rintro rfl; simpa using hk.1 b
        exact ⟨by omega, b⟩
    · rw [hp] at hk
      simp only [cond_true, List.mem_singleton]
      constructor
      · rintro (⟨a, b⟩ | rfl)
        · exact ⟨by omega, b⟩
        · exact ⟨by omega, hk.2 rfl⟩
      · rintro ⟨a, b⟩
        by_cases e : x = k
        · exact .inr e
        · exact .inl ⟨by omega, b⟩
theorem mkd_asc {fd : List Bool} : ∀ k, (mkd fd k).Pairwise (· < ·) := by
  intro k
  induction k with
  | zero => simp [mkd]
  | succ k ih =>
    rw [mkd, List.pairwise_append]
    refine ⟨ih, by cases fd[k]?.getD false <;> simp, fun a ha b hb => ?_⟩
    have := (mkd_mem.1 ha).1
    cases hp : fd[k]?.getD false
    · rw [hp] at hb; simp at hb
    · rw [hp] at hb; simp at hb; omega
theorem mkd_reach {hs : List Flt} (lk : Lnk hs) {f : Int} (h0 : 0 ≤ f) (h1 : f < hs.length) {fd : List Bool} (h : RInv (cauOf hs) (ctxOf hs) hs.length f [] fd) : mkd fd hs.length = reachL hs f := by
  refine reachL_eq lk h0 h1 (mkd_asc _) (fun x => ?_)
  rw [mkd_mem, h.done]
  constructor
  · exact fun h => h.2
  · intro hx
    obtain ⟨i, rfl, hi⟩ := tr_lt ((h.done x).2 hx)
    rw [h.len] at hi
    exact ⟨by omega, hx⟩
end

section
theorem gx_trans {a b c : World} {r r1 : Option Nat} (h : a.grownBy b r) (k : b.grownBy c r1) (hr : r1 = r ∨ ∃ x, r1 = some x ∧ a.heap.size ≤ x) : a.grownBy c r :=
  ⟨k.os.trans h.os, k.tape.trans h.tape, k.output.trans h.output, Nat.le_trans h.size k.size, fun i hi hne => (k.block i (Nat.lt_of_lt_of_le hi h.size) (fun e => by
    rcases hr with rfl | ⟨x, rfl, hx⟩
    · exact hne e
    · injection e with e; omega)).trans (h.block i hi hne)⟩
theorem gx_new {w w' : World} {r : Option Nat} (h : Le w w') : w.grownBy w' r :=
  ⟨h.os, h.tape, h.output, h.size, fun i hi _ => Below.block h i hi⟩
def RchOut (L : List Int) (b : Nat) (v : Value) (w : World) (e : Ending) (w' : World) : Prop :=
  ∃ v', e = .returned v' ∧ w'.ownsRow b 3 1 v' L.length (L.flatMap Enc.cells) ∧ w.grownBy w' v.ownBlock ∧ (v'.ownBlock = v.ownBlock ∨ ∃ k, v'.ownBlock = some k ∧ w.heap.size ≤ k)

set_option maxHeartbeats 4000000 in
set_option maxRecDepth 100000 in
theorem sReach_any (H : Option Addr) (m c : Nat) (hs : List Flt) (lk : Lnk hs) (hm : m ≤ 2097152) : ∀ (k : Nat) (f : Int) (out : List Int) (b : Nat) (v : Value) (w : World), Sl w H m c hs → f < hs.length → Fnd hs.length out → hs.length + 1 ≤ k + out.length →
    w.ownsRow b 3 1 v out.length (out.flatMap Enc.cells) → b ≤ w.heap.size → (0 < m → ∀ a, H = some a → a.block < b) →
    Calls Tryz.prog 68 #[.agg #[.slice H m c], .int .i64 f, v] w (RchOut (rgo (cauOf hs) (ctxOf hs) k f out) b v w) := by
  obtain ⟨i0, hi, hz0, hz1, hz2⟩ := info_parts intInfoB
  have HLK := Lib.hid lk
  intro k
  induction k with
  | zero => intro f out b v w _ _ hF hk; have := hF.len; omega
  | succ k ih =>
    intro f out b v w hH hf hF hk O hb hoff
    have HIH := Lib.hid ih; clear ih
    have HOFF := Lib.hid hoff; clear hoff
    have HFN := Lib.hid hF
    have hol := hF.len
    have hlen := hH.len
    obtain ⟨A', c', rfl⟩ := own_form O
    have hok : ∀ x ∈ out, Enc.ok x := fun x hx => by have := hF.rng x hx; exact ⟨by omega, by omega⟩
    obtain ⟨c0, z0, L0⟩ := box1 w (.slice H m c) 31
    have hs0 : (w.alloc (.cells #[.slice H m c] 31)).heap.size = w.heap.size + 1 := by simp
    by_cases hneg : f < 0
    · have HX : Hid (RchOut (rgo (cauOf hs) (ctxOf hs) (k + 1) f out) b (.slice A' out.length c') w (.returned (.slice A' out.length c')) (w.alloc (.cells #[.slice H m c] 31))) := by
        show RchOut _ _ _ _ _ _
        rw [rgo_stop (.inl hneg)]
        exact ⟨_, rfl, own_le O L0, gx_new L0, .inl rfl⟩
      go_enter Tryz.func68, Tryz.ntmps68
      go_wp2
      go_ret
      exact HX.out
    · by_cases hin : f ∈ out
      · have HX : Hid (RchOut (rgo (cauOf hs) (ctxOf hs) (k + 1) f out) b (.slice A' out.length c') w (.returned (.slice A' out.length c')) (w.alloc (.cells #[.slice H m c] 31))) := by
          show RchOut _ _ _ _ _ _
          rw [rgo_stop (.inr hin)]
          exact ⟨_, rfl, own_le O L0, gx_new L0, .inl rfl⟩
        have hh := hasI_iff'.2 hin
        have S2 := (Sl.of_own O rfl (by decide) hok).le L0
        clear hin hok
        go_enter Tryz.func68, Tryz.ntmps68
        go_wp2_with fail
        refine (hasInt_any _ _ _ out f _ S2).mono ?_
        rintro e w' ⟨rfl, rfl⟩
        rw [hh]
        go_wp2
        go_ret
        exact HX.out
      · obtain ⟨i, rfl⟩ := Int.eq_ofNat_of_zero_le (by omega : 0 ≤ f)
        have hil : i < hs.length := by omega
        have him : (i : Int) < m := by omega
        have hF1 := hF.snoc (f := (i : Int)) (by omega) hf hin
        have HF1 := Lib.hid hF1
        have p1 := rgo_post lk.caultlt lk.ctxlt k (cauOf hs i) (out ++ [(i : Int)]) hF1 (lk.caultlt i (by omega) (by omega)) (by simp; omega)
        have HP1 := Lib.hid p1; clear p1
        have HRG : Hid (rgo (cauOf hs) (ctxOf hs) (k + 1) (i : Int) out = rgo (cauOf hs) (ctxOf hs) k hs[i].ctx (rgo (cauOf hs) (ctxOf hs) k hs[i].cause (out ++ [(i : Int)]))) := by
          show _ = _; rw [rgo_on (by rintro (h | h); omega; exact hin h), cauOf_at hil, ctxOf_at hil]
        have hca := cauOf_at hil
        have hcl := lk.cause i hil
        have hxl := lk.ctx i hil
        rw [hca] at HP1
        have hh := hasI_not hin
        have S2 := (Sl.of_own O rfl (by decide) hok).le L0
        clear hin hok hF1 hca hF
        have hlt0 := O.lt
        replace O := own_le O L0
        obtain ⟨hbk, off, rfl, hbl, k0, k1, q2, q3, k4, -⟩ := hH.flt_at hil
        replace q2 := (L0.cell hbl).trans q2
        replace q3 := (L0.cell hbl).trans q3
        replace hbl := Nat.lt_of_lt_of_le hbl L0.size
        clear k0 k1 k4
        have S1 := hH.le L0
        have hl1 : (out ++ [(i : Int)]).length = out.length + 1 := by simp
        go_enter Tryz.func68, Tryz.ntmps68
        go_wp2_with fail
        refine (hasInt_any _ _ _ out (i : Int) _ S2).mono ?_
        rintro e w' ⟨rfl, rfl⟩
        rw [hh]
        clear S2 hh
        generalize w.alloc (.cells #[.slice (some ⟨hbk, off, none⟩) m c] 31) = W at *
        have hsL := L0.size
        have HS0 := Lib.hid hs0; clear hs0
        have hc3 : out.length + 1 ≤ maxLen := by unfold maxLen; omega
        have hc4 : (out.length + 1) * 8 ≤ 140737488355328 := by omega
        have LA := Le.new W (.cells #[.int .i64 (i : Int)] 3)
        have HGB : Hid (∀ k : Nat, (Value.slice A' out.length c').ownBlock = some k → b ≤ k ∧ k < w.heap.size) := hlt0
        clear hlt0
        have q2' := (LA.cell hbl).trans q2
        have q3' := (LA.cell hbl).trans q3
        have c0' := (LA.cell z0).trans c0
        have S1' := S1.le LA
        have hbl' := Nat.lt_of_lt_of_le hbl LA.size
        have hoki : Enc.ok (α := Int) (i : Int) := by show _ ∧ _; omega
        have SX := sl_one (w := W) (cs := #[.int .i64 (i : Int)]) (T := 3) (i : Int) rfl hoki (b := W.heap.size) rfl
        go_wp2_with (first | (at_builtin; go_loud (refine wpList_append_sl rfl _ _ 28 rfl b 3 i0 _ 8 Tryz.underlying28 hi hz0 hz1 hz2 rfl (.slice A' out.length c') out.length out rfl (O.alloc _) (some ⟨W.heap.size, 0, none⟩) 1 1 [(i : Int)] rfl SX hc3 hc4 (by simp; omega) ?_; intro v1 w1 O1 hg1 hat; replace c0 := hg1.cell (a := ⟨w.heap.size, 0, none⟩) c0' (fun e => by have h := (HGB.out _ e.symm).2; dsimp only at h; omega); replace q2 := hg1.cell (a := ⟨hbk, off + i * 5 + 2, none⟩) q2' (fun e => by have h := (HGB.out _ e.symm).1; have h2 := HOFF.out (by omega) _ rfl; dsimp only at h h2; omega); replace q3 := hg1.cell (a := ⟨hbk, off + i * 5 + 3, none⟩) q3' (fun e => by have h := (HGB.out _ e.symm).1; have h2 := HOFF.out (by omega) _ rfl; dsimp only at h h2; omega))) | fail)
        have sA : (W.alloc (.cells #[.int .i64 (i : Int)] 3)).heap.size = W.heap.size + 1 := by simp
        have sg1 := hg1.size
        have R1 : v1.ownBlock = (Value.slice A' out.length c').ownBlock ∨ ∃ x, v1.ownBlock = some x ∧ w.heap.size + 1 ≤ x := by
          rcases hat with h | h
          · exact .inl h
          · exact .inr ⟨_, h, by have := HS0.out; omega⟩
        have HV1 : ∀ k, v1.ownBlock = some k → b ≤ k ∧ k ≠ w.heap.size := by
          intro k e
          rcases R1 with h | ⟨x, h, hx⟩
          · rw [h] at e; have := HGB.out k e; omega
          · rw [h] at e; injection e with e; omega
        have O2 : w1.ownsRow b 3 1 v1 (out ++ [(i : Int)]).length ((out ++ [(i : Int)]).flatMap Enc.cells) := by rw [hl1]; exact O1
        have S2 := S1'.grown hg1 (fun hn a ea e => by have h := (HGB.out _ e.symm).1; have h2 := HOFF.out hn _ ea; omega)
        have h2 := gx_trans (gx_new (L0.trans LA)) hg1 (.inl rfl)
        have HH2 := Lib.hid h2
        clear h2 O1 q2' q3' c0' S1' S1 hg1 O
        replace c0 := (show w1.drew.cell? _ = _ from c0)
        replace S2 := S2.le (Le.refl _).drew
        replace q2 := (show w1.drew.cell? _ = _ from q2)
        replace q3 := (show w1.drew.cell? _ = _ from q3)
        replace O2 := O2.drew
        have HH2' : Hid (w.grownBy w1.drew (Value.slice A' out.length c').ownBlock) := gx_trans HH2.out (gx_new (r := (Value.slice A' out.length c').ownBlock) (Le.refl w1).drew) (.inl rfl)
        have sD : w1.drew.heap.size = w1.heap.size := rfl
        go_region_held3 (fun w' => w'.cell? ⟨w.heap.size, 0, none⟩ = some (.slice (some ⟨hbk, off, none⟩) m c) ∧ w'.cell? ⟨hbk, off + i * 5 + 2, none⟩ = some (.int .i64 hs[i].cause))
          (exact ⟨c0, q2⟩)
          (first
          | (go_at_call 68; refine (HIH.out hs[i].cause (out ++ [(i : Int)]) b v1 w1.drew S2 hcl.2 HF1.out (by rw [hl1]; omega) O2 (by omega) HOFF.out).mono ?_; rintro e w2 ⟨v2, rfl, O3, hg2, hat2⟩; replace c0 := hg2.cell (a := ⟨w.heap.size, 0, none⟩) c0 (fun e => (HV1 _ e.symm).2 rfl); replace q2 := hg2.cell (a := ⟨hbk, off + i * 5 + 2, none⟩) q2 (fun e => by have h := (HV1 _ e.symm).1; have h2 := HOFF.out (by omega) _ rfl; dsimp only at h h2; omega)))
        have sg2 := hg2.size
        have R2 : v2.ownBlock = (Value.slice A' out.length c').ownBlock ∨ ∃ x, v2.ownBlock = some x ∧ w.heap.size + 1 ≤ x := by
          rcases hat2 with h | ⟨x, h, hx⟩
          · rw [h]; exact R1
          · exact .inr ⟨x, h, by have := HS0.out; omega⟩
        have HV2 : ∀ k, v2.ownBlock = some k → b ≤ k ∧ k ≠ w.heap.size := by
          intro k e
          rcases R2 with h | ⟨x, h, hx⟩
          · rw [h] at e; have := HGB.out k e; omega
          · rw [h] at e; injection e with e; omega
        replace q3 := hg2.cell (a := ⟨hbk, off + i * 5 + 3, none⟩) q3 (fun e => by have h := (HV1 _ e.symm).1; have h2 := HOFF.out (by omega) _ rfl; dsimp only at h h2; omega)
        have S3 := S2.grown hg2 (fun hn a ea e => by have h := (HV1 _ e.symm).1; have h2 := HOFF.out hn _ ea; omega)
        have h3 := gx_trans HH2'.out hg2 (by rcases R1 with h | ⟨x, h, hx⟩; exact .inl h; exact .inr ⟨x, h, by omega⟩)
        have HH3 := Lib.hid h3
        have HR1 := Lib.hid R1; have HR2 := Lib.hid R2; have HHV2 := Lib.hid HV2; have HAT2 := Lib.hid hat2
        clear h3 S2 O2 q2 hg2 R1 R2 HV1 HV2 hat hat2
        go_wp2_with fail
        replace c0 := (show w2.drew.cell? _ = _ from c0)
        replace S3 := S3.le (Le.refl _).drew
        replace q3 := (show w2.drew.cell? _ = _ from q3)
        replace O3 := O3.drew
        have HH3' : Hid (w.grownBy w2.drew (Value.slice A' out.length c').ownBlock) := gx_trans HH3.out (gx_new (r := (Value.slice A' out.length c').ownBlock) (Le.refl w2).drew) (.inl rfl)
        have sD2 : w2.drew.heap.size = w2.heap.size := rfl
        go_region_held3 (fun w' => w'.cell? ⟨w.heap.size, 0, none⟩ = some (.slice (some ⟨hbk, off, none⟩) m c) ∧ w'.cell? ⟨hbk, off + i * 5 + 3, none⟩ = some (.int .i64 hs[i].ctx))
          (exact ⟨c0, q3⟩)
          (first
          | (go_at_call 68; refine (HIH.out hs[i].ctx _ b v2 w2.drew S3 hxl.2 HP1.out.fnd (by obtain ⟨r, hr⟩ := HP1.out.pre; rw [hr]; simp; omega) O3 (by omega) HOFF.out).mono ?_; rintro e w3 ⟨v3, rfl, O4, hg3, hat3⟩; replace c0 := hg3.cell (a := ⟨w.heap.size, 0, none⟩) c0 (fun e => (HHV2.out _ e.symm).2 rfl); replace q3 := hg3.cell (a := ⟨hbk, off + i * 5 + 3, none⟩) q3 (fun e => by have h := (HHV2.out _ e.symm).1; have h2 := HOFF.out (by omega) _ rfl; dsimp only at h h2; omega)))
        have h4 := gx_trans HH3'.out hg3 (by rcases HR2.out with h | ⟨x, h, hx⟩; exact .inl h; exact .inr ⟨x, h, by omega⟩)
        have HF : Hid (RchOut (rgo (cauOf hs) (ctxOf hs) (k + 1) (i : Int) out) b (.slice A' out.length c') w (.returned v3) w3) := by
          show RchOut _ _ _ _ _ _
          rw [HRG.out]
          refine ⟨v3, rfl, O4, h4, ?_⟩
          rcases hat3 with h | ⟨x, h, hx⟩
          · rcases HR2.out with h5 | ⟨x, h5, hx⟩
            · exact .inl (h.trans h5)
            · exact .inr ⟨x, h.trans h5, by omega⟩
          · exact .inr ⟨x, h, by omega⟩
        clear h4 hat3 O4 hg3 c0 q3 O3 S3
        go_wp2
        go_ret
        exact HF.out
end

section
theorem sl_many {α : Type} [Enc α] {w : World} {cs : Array Value} {T : TypeId} (ys : List α) (n : Nat) (hn : ys.length = n) (hm : n ≤ 1048576) (hc : cs.toList = ys.flatMap Enc.cells) (hok : ∀ y ∈ ys, Enc.ok y) {b : Nat} (hb : b = w.heap.size) : Sl (w.alloc (.cells cs T)) (some ⟨b, 0, none⟩) n n ys := by
  subst hb
  refine ⟨hn, Nat.le_refl _, by omega, hok, fun _ => ⟨_, 0, rfl, by simp, fun j u hu => ?_⟩⟩
  rw [← hc] at hu
  rw [Nat.zero_add, World.cell?_alloc_at _ _ _ _ rfl]
  simpa using hu
theorem snoc_of {α : Type} (l : List α) (h : l ≠ []) : ∃ t x, l = t ++ [x] := ⟨l.dropLast, l.getLast h, (List.dropLast_concat_getLast h).symm⟩

set_option maxHeartbeats 8000000 in
set_option maxRecDepth 100000 in
theorem iReach_any (H : Option Addr) (m c : Nat) (hs : List Flt) (f : Int) (w : World) (hH : Sl w H m c hs) (lk : Lnk hs) (h0 : 0 ≤ f) (h1 : f < hs.length) (hm : m ≤ 2097152) :
    Calls Tryz.prog 78 #[.agg #[.slice H m c], .int .i64 f] w fun e w' => ∃ v, e = .returned v ∧ Owd 3 w w' v (reachL hs f) ∧ Le w w' := by
  obtain rfl := hH.len
  obtain ⟨i0, hi, hz0, hz1, hz2⟩ := info_parts intInfoB
  obtain ⟨j0, hj, hy0, hy1, hy2⟩ := info_parts boolInfo
  have hb2 : j0.bytes * hs.length ≤ 281474976710656 := by rw [hy2]; omega
  have HLC := Lib.hid lk.cause
  have HLX := Lib.hid lk.ctx
  have HCA : Hid (∀ i, i < hs.length → -1 ≤ cauOf hs (i : Int) ∧ cauOf hs (i : Int) < hs.length) := fun i h => by rw [cauOf_at h]; exact lk.cause i h
  have HCX : Hid (∀ i, i < hs.length → -1 ≤ ctxOf hs (i : Int) ∧ ctxOf hs (i : Int) < hs.length) := fun i h => by rw [ctxOf_at h]; exact lk.ctx i h
  have HRE : Hid (∀ fd, RInv (cauOf hs) (ctxOf hs) hs.length f [] fd → mkd fd hs.length = reachL hs f) := fun fd h => mkd_reach lk h0 h1 h
  clear lk
  obtain ⟨c0, z0, L0⟩ := box1 w (.slice H hs.length c) 31
  have hH0 := hH.le L0
  go_enter Tryz.func78, Tryz.ntmps78
  go_wp2_with (refine wpList_make_full _ rfl _ _ 106 rfl w.heap.size 4 j0 _ 1 Tryz.underlying106 hj hy0 hy1 .i64 .i64 _ _ hs.length rfl rfl rfl rfl hb2 (by unfold maxLen; omega) (by simp) ?_; intro w1 OF hg1; rw [made_bools] at OF; have L1 := L0.grown hg1 (by intro k hk; cases hk); have c1 := hg1.cell (a := ⟨w.heap.size, 0, none⟩) c0 (fun e => by cases e); have sg := hg1.size; clear hg1)
  have hgW : (w.alloc (.cells #[.slice H hs.length c] 31)).heap.size = w.heap.size + 1 := by simp
  rw [hgW] at OF
  have hg1 : w.heap.size + 1 < w1.heap.size := (OF.lt _ rfl).2
  clear hgW sg c0 z0 L0 hH0
  have OT0 : (w1.alloc (.cells #[.int .i64 f] 3)).ownsRow w1.heap.size 3 1 (.slice (some ⟨w1.heap.size, 0, none⟩) 1 1) 1 [.int .i64 f] := by
    have := World.ownsRow_lit (base := w1.heap.size) (e := 3) (size := 1) w1 #[.int .i64 f] 1 (Nat.le_refl _) (by unfold maxLen; omega) (by simp)
    simpa using this
  have LA := Le.new w1 (.cells #[.int .i64 f] 3)
  have OF0 := own_le OF LA
  have c0 := (LA.cell (by omega)).trans c1
  have L0 := L1.trans LA
  have hzz := LA.size
  clear LA c1 L1 OF
  go_loopg [6, 7] (3 * hs.length + 1) (fun mm v iv wr => ∃ (td : List Int) (fd : List Bool) (A' : Option Addr) (c' : Nat), v = .slice A' td.length c' ∧ wr.ownsRow w1.heap.size 3 1 (.slice A' td.length c') td.length (td.flatMap Enc.cells) ∧
    wr.ownsRow (w.heap.size + 1) 4 1 (.slice (some ⟨w.heap.size + 1, 0, none⟩) hs.length hs.length) hs.length (fd.flatMap Enc.cells) ∧ RInv (cauOf hs) (ctxOf hs) hs.length f td fd ∧ Le w wr ∧ wr.cell? ⟨w.heap.size, 0, none⟩ = some (.slice H hs.length c) ∧ mm = 3 * unm fd + td.length ∧ w1.heap.size ≤ wr.heap.size ∧ mm ≤ 3 * hs.length + 1)
  case atStart => exact ⟨[f], List.replicate hs.length false, _, _, rfl, by simpa [Enc.cells] using OT0, ⟨OF0.1, OF0.2.imp id (fun ⟨g, cap, cur, hv, hg0, rest⟩ => ⟨g, cap, cur, hv, by injection hv with hv; injection hv with hv; injection hv with hv; omega, rest⟩)⟩, RInv.start h0 h1, L0, c0, by rw [unm_rep]; simp, hzz, Nat.le_refl _⟩
  case round =>
    obtain ⟨td, fd, A', c', rfl, OT, OF, hI, hle, c0, hmm, hsz, hmb⟩ := hrel
    clear OF0 OT0
    have HI := Lib.hid hI
    have hfl := hI.len
    have hHr := hH.le hle
    have z0 : w.heap.size < wr.heap.size := by omega
    have hltT := OT.lt
    have HLT := Lib.hid hltT; clear hltT
    by_cases hne : td = []
    · subst hne
      simp only [List.length_nil]
      simp only [List.length_nil] at OT hmm HLT
      have HR := Lib.hid (HRE.out fd HI.out)
      clear hI
      have HOK : Hid (∀ x ∈ mkd fd hs.length, Enc.ok x) := fun x hx => by
        have h1 := (mkd_mem.1 hx).1
        have h2 := (mkd_mem.1 hx).2.1
        exact ⟨by omega, by omega⟩
      go_wp2
      generalize wr = WO at *
      go_loopw [8, 9, 10, 60] (fun v _ _ q wr => ∃ k : Nat, k ≤ hs.length ∧ q = .int .i64 k ∧ wr.ownsRow WO.heap.size 3 1 v (mkd fd k).length ((mkd fd k).flatMap Enc.cells) ∧ Le WO wr) (fun _ _ _ q _ => hs.length - (intOf q).toNat)
      case atStart => exact ⟨0, Nat.zero_le _, rfl, World.ownsRow_nil _ _ _ _, Le.refl _⟩
      case round =>
        obtain ⟨k, hk, rfl, hown, hle2⟩ := hrel
        have hml := mkd_len (fd := fd) k
        by_cases hkl : k < hs.length
        · have hkf : k < fd.length := by omega
          have OF2 := own_le OF hle2
          have r0 : wr.cell? ⟨w.heap.size + 1, k, none⟩ = some (.bool fd[k]) := by
            rw [OF2.cellAt k (by omega), show (fd.flatMap (Enc.cells (α := Bool)))[k]? = _ from by simpa [Enc.size] using flat_at fd k hkf 0 (by decide)]; rfl
          cases hb : fd[k]
          · rw [hb] at r0
            have HB := Lib.hid (mkd_no hkf hb); clear hb
            go_wp2
            go_roundw
            case rel => exact ⟨k + 1, by omega, by go_num, by rw [HB.out]; exact hown, hle2⟩
            case measure => simp [intOf]; omega
          · rw [hb] at r0
            have HB := Lib.hid (mkd_yes hkf hb); clear hb
            have hc3 : (mkd fd k).length + 1 ≤ maxLen := by unfold maxLen; omega
            have hc4 : ((mkd fd k).length + 1) * 8 ≤ 140737488355328 := by omega
            have hsz3 := hle2.size
            go_wp2_with (at_builtin; refine wpList_append_own _ rfl _ _ 28 rfl WO.heap.size 3 i0 (.int .i64 0) 1 8 Tryz.underlying28 hi hz0 hz1 hz2 rfl (by decide) _ _ _ rfl (hown.alloc _) ⟨wr.heap.size, 0, none⟩ 1 1 [.int .i64 k] rfl rfl ?c1 ?c2 hc3 hc4 ?c5 ?_)
            case c1 => exact one_newB _ _ _
            case c2 => intro u hu; simp at hu; subst hu; rfl
            case c5 => simp; omega
            intro v1 w3 hown1 hg1 _
            have hle1 := (hle2.alloc (.cells #[.int .i64 (k : Int)] 3)).grown hg1 (fun k hk => (hown.lt k hk).1)
            go_wp2
            go_roundw
            case rel => exact ⟨k + 1, by omega, by go_num, by rw [HB.out]; simpa [Enc.cells] using hown1, hle1⟩
            case measure => simp [intOf]; omega
        · have hk' : k = hs.length := by omega
          have HO : Hid (∀ v, wr.ownsRow WO.heap.size 3 1 v (mkd fd k).length ((mkd fd k).flatMap Enc.cells) → Owd 3 w wr v (reachL hs f)) := fun v hv => by
            subst hk'
            rw [HR.out] at hv
            have := HOK.out
            rw [HR.out] at this
            exact ⟨own_mono hv hle.size, this⟩
          clear hk'
          go_wp2
          go_ret
          exact ⟨_, rfl, HO.out _ hown, hle.trans hle2⟩
    · obtain ⟨t0, i, rfl⟩ := snoc_of td hne
      have hl : (t0 ++ [i]).length = t0.length + 1 := by simp
      have hbi := hI.bnd i (by simp)
      have hbt : ∀ x ∈ t0 ++ [i], Enc.ok x := fun x hx => by have := hI.bnd x hx; exact ⟨by omega, by omega⟩
      clear hI hne
      rw [hl] at OT HLT hmm
      rw [hl]
      rcases OT.2 with ⟨hv, h00⟩ | ⟨gt, ct, cur, hv, _, _, _, hcm, _⟩
      · omega
      injection hv with hv1 hv2 hv3
      subst hv1; subst hv3
      have OP : wr.ownsRow w1.heap.size 3 1 (.slice (some ⟨gt, 0, none⟩) t0.length c') t0.length (t0.flatMap Enc.cells) := by
        refine ownsRow_pop (last := [.int .i64 i]) (by rw [flat_len]; rfl) ?_
        simpa [Enc.cells] using OT
      have hlw : IntKind.i64.wrap ((t0.length : Int) + 1 - 1) = (t0.length : Int) := by rw [Int.add_sub_cancel]; exact IntWalk.i64_in _ (by unfold maxLen at hcm; omega)
      have hlw2 : IntKind.i64.wrap (t0.length : Int) = (t0.length : Int) := IntWalk.i64_in _ (by unfold maxLen at hcm; omega)
      have q0 : wr.cell? ⟨gt, t0.length, none⟩ = some (.int .i64 i) := by
        have := OT.cellAt t0.length (by omega)
        rw [this, List.flatMap_append, List.getElem?_append_right (by rw [flat_len]; show t0.length * 1 ≤ _; omega), flat_len]
        show ([i].flatMap (Enc.cells (α := Int)))[t0.length - t0.length * 1]? = _
        simp [Enc.cells]
      by_cases hi0 : i < 0
      · have HP := Lib.hid (HI.out.pop h0 (.inl hi0))
        go_wp2
        go_roundg (3 * unm fd + t0.length)
        case measure => omega
        case rel => exact ⟨t0, fd, some ⟨gt, 0, none⟩, c', rfl, OP, OF, HP.out, hle, c0, rfl, hsz, by omega⟩
      · obtain ⟨j, rfl⟩ := Int.eq_ofNat_of_zero_le (by omega : 0 ≤ i)
        have hjl : j < hs.length := by omega
        have hjf : j < fd.length := by omega
        have r0 : wr.cell? ⟨w.heap.size + 1, j, none⟩ = some (.bool fd[j]) := by
          rw [OF.cellAt j (by omega), show (fd.flatMap (Enc.cells (α := Bool)))[j]? = _ from by simpa [Enc.size] using flat_at fd j hjf 0 (by decide)]; rfl
        cases hb : fd[j]
        · rw [hb] at r0
          have f0 := OF.frozenAt j
          have HP := Lib.hid (HI.out.push hjl (HCA.out j hjl) (HCX.out j hjl))
          have HU := Lib.hid (unm_set hjf hb)
          obtain ⟨b, off, rfl, hbb, k0, k1, q2, q3, k4, -⟩ := hH.flt_at hjl
          clear k0 k1 k4
          have htl : t0.length ≤ 6291457 := by omega
          have e2 := cauOf_at hjl
          have e3 := ctxOf_at hjl
          rw [← e2] at q2
          rw [← e3] at q3
          have hb2' := HCA.out j hjl
          have hx2' := HCX.out j hjl
          clear e2 e3
          generalize cauOf hs (j : Int) = ca at *
          generalize ctxOf hs (j : Int) = cx at *
          have OF2 := (OF.stored j (.bool true)).1
          rw [flat_bool fd j hjf true] at OF2
          have hgne : gt ≠ w.heap.size + 1 := by have := (HLT.out gt rfl).1; omega
          have OP2 := own_set (b := w.heap.size + 1) (o := j) OP hgne (.bool true)
          have L2 := hle.setCell (b := w.heap.size + 1) (o := j) (by omega) (.bool true)
          have c2 : (wr.setCell ⟨w.heap.size + 1, j, none⟩ (.bool true)).cell? ⟨w.heap.size, 0, none⟩ = some (.slice (some ⟨b, off, none⟩) hs.length c) := (cell_set_other (.inl (by omega))).trans c0
          replace q2 := (L2.cell hbb).trans q2
          replace q3 := (L2.cell hbb).trans q3
          have hsW : (wr.setCell ⟨w.heap.size + 1, j, none⟩ (.bool true)).heap.size = wr.heap.size := by simp [World.setCell]
          have hsW2 : wr.heap.size ≤ (wr.setCell ⟨w.heap.size + 1, j, none⟩ (.bool true)).heap.size := Nat.le_of_eq hsW.symm
          clear hsW
          have hok2 : ∀ y ∈ [ca, cx], Enc.ok y := fun y hy => by simp at hy; rcases hy with rfl | rfl <;> exact ⟨by omega, by omega⟩
          have hgt0 := (HLT.out gt rfl)
          have HGG : Hid (gt = w.heap.size + 1 → False) := hgne
          have HBG : Hid (b = gt → False) := fun e => by omega
          have HWG : Hid (w.heap.size = gt → False) := fun e => by omega
          go_wp2_with fail
          generalize wr.setCell ⟨w.heap.size + 1, j, none⟩ (.bool true) = W at *
          replace c2 := (show W.drew.cell? _ = _ from c2)
          replace q2 := (show W.drew.cell? _ = _ from q2)
          replace q3 := (show W.drew.cell? _ = _ from q3)
          replace OF2 := OF2.drew
          replace OP2 := OP2.drew
          replace L2 := L2.drew
          have LA := Le.new W.drew (.cells #[.int .i64 ca, .int .i64 cx] 3)
          have SX := sl_many (w := W.drew) (cs := #[.int .i64 ca, .int .i64 cx]) (T := 3) [ca, cx] 2 rfl (by omega) rfl hok2 (b := W.heap.size) rfl
          have c3 := (LA.cell (b := w.heap.size) (o := 0) (by show w.heap.size < W.heap.size; omega)).trans c2
          have q4 := (LA.cell (b := b) (by show b < W.heap.size; omega)).trans q2
          have q5 := (LA.cell (b := b) (by show b < W.heap.size; omega)).trans q3
          have hsD : W.drew.heap.size = W.heap.size := rfl
          have sA := LA.size
          go_region_held3 (fun w' => w'.cell? ⟨w.heap.size, 0, none⟩ = some (.slice (some ⟨b, off, none⟩) hs.length c) ∧ w'.cell? ⟨b, off + j * 5 + 2, none⟩ = some (.int .i64 ca) ∧ w'.cell? ⟨b, off + j * 5 + 3, none⟩ = some (.int .i64 cx))
            (first | exact ⟨c2, q2, q3⟩ | exact ⟨c3, q4, q5⟩ | exact ⟨c7, q7, q8⟩)
            (first
            | (refine step_append_sl rfl _ _ 28 rfl w1.heap.size 3 i0 _ 8 Tryz.underlying28 hi hz0 hz1 hz2 rfl (.slice (some ⟨gt, 0, none⟩) t0.length c') t0.length t0 rfl (OP2.alloc _) (some ⟨W.heap.size, 0, none⟩) 2 2 [ca, cx] rfl SX (by unfold maxLen; omega) (by omega) (Nat.le_trans (show w1.heap.size ≤ W.drew.heap.size by omega) sA) ?_; intro v1 w7 O1 hgg hat; have c7 := hgg.cell (a := ⟨w.heap.size, 0, none⟩) c3 (fun e => HWG.out (by injection e)); have q7 := hgg.cell (a := ⟨b, off + j * 5 + 2, none⟩) q4 (fun e => HBG.out (by injection e)); have q8 := hgg.cell (a := ⟨b, off + j * 5 + 3, none⟩) q5 (fun e => HBG.out (by injection e))))
          have OF7 := (OF2.alloc (.cells #[.int .i64 ca, .int .i64 cx] 3)).kept hgg (.inr (fun e => HGG.out (by injection e with e; exact e.symm)))
          have L7 := (L2.trans LA).grown hgg (fun k hk => by have e : gt = k := by injection hk
                                                             omega)
          have s7 := hgg.size
          have s8 : w1.heap.size ≤ w7.heap.size := Nat.le_trans (Nat.le_trans (show w1.heap.size ≤ W.drew.heap.size by omega) sA) s7
          obtain ⟨A7, q9, rfl⟩ := own_form O1
          have hl2 : (t0 ++ [ca, cx]).length = t0.length + 2 := by simp
          have HL2 := Lib.hid hl2
          clear hl2 hgg hat c2 c3 q2 q3 q4 q5 q7 q8 SX OF2 OP2 LA L2
          go_wp2
          go_roundg (3 * unm (fd.set j true) + (t0.length + 2))
          case measure => have := HU.out; omega
          case rel => exact ⟨t0 ++ [ca, cx], fd.set j true, A7, q9, by rw [HL2.out], by rw [HL2.out]; exact O1, OF7, HP.out, L7, c7, by rw [HL2.out], s8, by have := HU.out; omega⟩
        · rw [hb] at r0
          have HP := Lib.hid (HI.out.pop h0 (.inr ((tr_nat hjf).2 hb)))
          go_wp2
          go_roundg (3 * unm fd + t0.length)
          case measure => omega
          case rel => exact ⟨t0, fd, some ⟨gt, 0, none⟩, c', rfl, OP, OF, HP.out, hle, c0, rfl, hsz, by omega⟩
end
end Go.Proofs.YtdbmolhdgmopoaaGreat
