/- programs, plain: lines of which none jumps raise nothing (for FnFirstJumpRaise) -/
import Derived.Test.YtgjlmfjmjglplaaGreatPrTP
namespace Go.Proofs.YtgjlmfjmjglplaaGreat
open Go.RowKit
section
variable {xs : List Cls} {p : List Lin}
theorem gB_keep {ln : Nat → Rst → Lft × Rst} {a b : Nat} {D : Int} (g : GoodP xs p) (hB : Blk p a b D) (HF : ∀ x s, fol (knd p x) = true → ln x s = (.nil, s))
    (H : ∀ i s, a ≤ i → i < b → dep p i = D → fol (knd p i) = false → scn p i (nx p i) = -1 → (ln i s).1 = .nil ∧ (ln i s).2.2 = s.2) :
    ∀ (m i : Nat) (s : Rst), b ≤ m + i → a ≤ i → (i < b → dep p i = D ∧ fol (knd p i) = false) → scn p i b = -1 → (gB ln p b i s).2.2 = s.2
  | 0, i, s, hm, _, _, _ => by rw [gB_end (by omega)]
  | m + 1, i, s, hm, hai, hst, hs => by
    by_cases hib : i < b
    · have h0 := hst hib
      have hn := hB.nxt g hai hib h0.1 h0.2
      have h2 := scn_two (p := p) (a := i) (c := nx p i) (b := b) (by omega) hn.2.1 (fun x h3 h4 => hB.inner g hai hib h0.1 h0.2 h3 h4) hs
      obtain ⟨e, e2⟩ := H i s hai hib h0.1 h0.2 h2.1
      rcases hl : ln i s with ⟨l, s2⟩
      rw [hl] at e e2
      replace e : l = .nil := e
      replace e2 : s2.2 = s.2 := e2
      subst e
      rw [gB_step hB hai hib h0.1 HF hl, gB_keep g hB HF H m (nx p i) s2 (by omega) (by omega) hn.2.2 h2.2]
      exact e2
    · rw [gB_end hib]
theorem loop_keep {blk : Bls} {i : Nat} {h : Int} (H : ∀ s, (blk i h s).1 = .nil ∧ (blk i h s).2.2 = s.2) : ∀ n s, (loopN blk i h n s).2.2 = s.2
  | 0, s => rfl
  | n + 1, s => by
    obtain ⟨e, e2⟩ := H s
    rcases hb : blk i h s with ⟨l, s2⟩
    rw [hb] at e e2
    replace e : l = .nil := e
    replace e2 : s2.2 = s.2 := e2
    subst e
    unfold loopN
    rw [hb]
    show (loopN blk i h n s2).2.2 = s.2
    rw [loop_keep H n s2]
    exact e2
theorem line_keep (g : GoodP xs p) : ∀ N i h s, i < p.length → fol (knd p i) = false → scn p i (nx p i) = -1 → (lnN xs p N h i s).2.2 = s.2
  | 0, i, h, s, _, _, _ => rfl
  | N + 1, i, h, s, hi, hf, hs => by
    have HB : ∀ x, x < p.length → opn (knd p x) = true → scn p (x + 1) (bEnd p x) = -1 → ∀ h s, (blN xs p N x h s).1 = .nil ∧ (blN xs p N x h s).2.2 = s.2 := fun x hx ho hsx h s => by
      refine ⟨bl_nil g N hx ho hsx h s, ?_⟩
      have hp := g.len
      have hbl := bEnd_le hx
      have e0 : blN xs p N x h s = gB (lnN xs p N h) p (bEnd p x) (x + 1) s := gB_of _ _ 25 (by omega)
      rw [e0]
      have hB := Blk.of g hx ho
      exact gB_keep g hB (fun y s hf => lnN_fol xs p N h y s hf) (fun y s _ hyb _ hf hsy => ⟨line_nil g N y h s (by omega) hf hsy, line_keep g N y h s (by omega) hf hsy⟩) (bEnd p x) (x + 1) s (by omega) (Nat.le_refl _) hB.first hsx
    have hgi := bEnd_gt p i
    have hnx : i < nx p i := by
      unfold nx
      split
      · have := parts_ge hi (lstP_mem p i); have := bEnd_gt p (lstP p i); omega
      · exact hgi
    have ht := scn_to hnx hs
    have hj : ¬ (2 ≤ knd p i ∧ knd p i ≤ 6) := fun h => by have := jmpK_iff.2 h; rw [ht.1] at this; cases this
    rw [lnN_succ]
    unfold stepN
    by_cases h1 : knd p i = 1
    · rw [if_pos h1]
    rw [if_neg h1, if_neg (by omega), if_neg (by omega), if_neg (by omega), if_neg (by omega), if_neg (by omega)]
    by_cases h7 : knd p i = 7
    · rw [if_pos h7]
      have hP : ∀ x ∈ parts p i, knd p x ≠ 8 → ∀ h s, (blN xs p N x h s).1 = .nil ∧ (blN xs p N x h s).2.2 = s.2 := fun x hx h8 => HB x (parts_lt hi x hx) (opn_part hi h7 hx).1 (scn_part g hi h7 hs hx h8)
      obtain ⟨e1, e1b⟩ := hP i (List.mem_cons_self ..) (by rw [h7]; decide) h s
      rcases hb : blN xs p N i h s with ⟨l, s1⟩
      rw [hb] at e1 e1b
      replace e1 : l = .nil := e1
      replace e1b : s1.2 = s.2 := e1b
      subst e1
      unfold tryN
      rw [hb]
      have e2 : (midN (blN xs p N) xs p i h (.nil, s1)).1 = .nil ∧ (midN (blN xs p N) xs p i h (.nil, s1)).2.2 = s1.2 := by
        show (orN (prt p i 9) (blN xs p N) h (.nil, s1)).1 = .nil ∧ (orN (prt p i 9) (blN xs p N) h (.nil, s1)).2.2 = s1.2
        unfold orN
        rcases hp : prt p i 9 with _ | x
        · exact ⟨rfl, rfl⟩
        · have m := prt_mem hp
          exact hP x m.1 (by rw [m.2]; decide) h s1
      generalize midN (blN xs p N) xs p i h (.nil, s1) = r at *
      rcases r with ⟨l, s2⟩
      obtain ⟨e2, e2b⟩ := e2
      replace e2 : l = .nil := e2
      replace e2b : s2.2 = s1.2 := e2b
      subst e2
      unfold finN
      rcases hp : prt p i 10 with _ | x
      · exact e2b.trans e1b
      · have m := prt_mem hp
        have e3 := (hP x m.1 (by rw [m.2]; decide) h s2).2
        show (blN xs p N x h s2).2.2 = s.2
        rw [e3, e2b, e1b]
    rw [if_neg h7]
    have hnb : nx p i = bEnd p i := by unfold nx; rw [if_neg h7]
    rw [hnb] at ht
    have h8 : knd p i ≠ 8 := fun e => by rw [e] at hf; cases hf
    by_cases h11 : knd p i = 11
    · rw [if_pos h11]
      have hl : lpz p i = false := by unfold lpz; rw [h11]; rfl
      exact (HB i hi (by rw [h11]; rfl) (ht.2.2 (by rw [hl]; simp [h8])) h (s.1 ++ [100 + lnA p i], s.2)).2
    rw [if_neg h11]
    by_cases h12 : knd p i = 12
    · rw [if_pos h12]
      by_cases ha : lnA p i = 0
      · rw [ha]; rfl
      · have hl : lpz p i = false := by unfold lpz; simp [ha]
        exact loop_keep (fun s => HB i hi (by rw [h12]; rfl) (ht.2.2 (by rw [hl]; simp [h8])) h s) _ s
    rw [if_neg h12]
end
end Go.Proofs.YtgjlmfjmjglplaaGreat
