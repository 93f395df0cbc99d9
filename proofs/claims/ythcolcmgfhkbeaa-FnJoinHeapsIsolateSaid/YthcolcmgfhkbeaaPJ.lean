/- Plain facts of joined heaps. -/
import Derived.Test.YthcolcmgfhkbeaaHpA
namespace Go.Proofs.Ythcolcmgfhkbeaa
open Go.RowKit

namespace Chn
theorem Is.map {nx jx φ : Int → Int} {n : Nat} {f : Int} {L : List Int} (h : Is nx f L) (hr : ∀ x ∈ L, x < n) (hi : ∀ x y : Int, φ x = φ y → x = y) (hp : ∀ x : Int, 0 ≤ x → 0 ≤ φ x)
    (hn : ∀ x : Int, 0 ≤ x → x < n → nx x < 0 → jx (φ x) < 0) (hs : ∀ x : Int, 0 ≤ x → x < n → 0 ≤ nx x → jx (φ x) = φ (nx x)) : Is jx (φ f) (L.map φ) := by
  refine ⟨?_, ?_, ?_, ?_, ?_, ?_⟩
  · rw [List.Nodup, List.pairwise_map]
    exact h.nd.imp (fun hab e => hab (hi _ _ e))
  · intro x hx
    obtain ⟨y, hy, rfl⟩ := List.mem_map.1 hx
    exact hp y (h.pos y hy)
  · intro e; exact h.ne (List.map_eq_nil_iff.1 e)
  · rw [List.head?_map, h.hd]; rfl
  · intro k hk
    rw [List.length_map] at hk
    rw [List.getElem_map, List.getElem_map]
    have h1 := h.st k hk
    have h2 := h.pos _ (List.getElem_mem hk)
    rw [h1] at h2 ⊢
    exact (hs _ (h.pos _ (List.getElem_mem _)) (hr _ (List.getElem_mem _)) h2).symm
  · intro x hx
    rw [List.getLast?_map] at hx
    cases hl : L.getLast? with
    | none => rw [hl] at hx; cases hx
    | some y =>
      rw [hl] at hx
      injection hx with hx
      subst hx
      have hm := List.mem_of_getLast? hl
      rcases h.en y hl with h1 | h1
      · exact .inl (hn y (h.pos y hm) (hr y hm) h1)
      · right
        rw [hs y (h.pos y hm) (hr y hm) (h.pos _ h1)]
        exact List.mem_map_of_mem h1
theorem Is.rng {nx : Int → Int} {n : Nat} {f : Int} {L : List Int} (h : Is nx f L) (h1 : f < n) (hb : ∀ x : Int, 0 ≤ x → x < n → nx x < n) : ∀ x ∈ L, x < n := by
  intro x hx
  obtain ⟨k, hk, rfl⟩ := List.getElem_of_mem hx
  have : ∀ k (hk : k < L.length), L[k] < n := by
    intro k
    induction k with
    | zero =>
      intro hk
      have a := h.hd
      rw [List.head?_eq_getElem?, List.getElem?_eq_getElem hk] at a
      injection a with a; omega
    | succ k ih =>
      intro hk
      rw [h.st k hk]
      exact hb _ (h.pos _ (List.getElem_mem _)) (ih (by omega))
  exact this k hk
/-- where chains end, what is carried along ends, too -/
theorem end_map {nx jx φ : Int → Int} {n : Nat} {f : Int} (hE : allEnd nx n) (h0 : 0 ≤ f) (h1 : f < n) (hb : ∀ x : Int, 0 ≤ x → x < n → nx x < n) (hi : ∀ x y : Int, φ x = φ y → x = y) (hp : ∀ x : Int, 0 ≤ x → 0 ≤ φ x)
    (hn : ∀ x : Int, 0 ≤ x → x < n → nx x < 0 → jx (φ x) < 0) (hs : ∀ x : Int, 0 ≤ x → x < n → 0 ≤ nx x → jx (φ x) = φ (nx x)) {M : List Int} (hM : Is jx (φ f) M) {x : Int} (hx : M.getLast? = some x) : jx x < 0 := by
  have hc := chain_is (nx := nx) (n := n) hb h0 h1
  have hr := hc.rng h1 hb
  have hm := hc.map (jx := jx) (φ := φ) hr hi hp hn hs
  rw [hM.uniq hm, List.getLast?_map] at hx
  cases hl : (chainN nx n f).getLast? with
  | none => rw [hl] at hx; cases hx
  | some y =>
    rw [hl] at hx
    injection hx with hx
    subst hx
    have hy := List.mem_of_getLast? hl
    exact hn y (hc.pos y hy) (hr y hy) (hE f h0 h1 _ hc y hl)
end Chn

/-- a fault that comes behind n others -/
def shl (n : Nat) (x : Int) : Int := if x < 0 then x else x + n
def shF (n : Nat) (x : Flt) : Flt := ⟨x.cls, x.code, shl n x.cause, shl n x.ctx, x.hide⟩
def joinL (hs ks : List Flt) : List Flt := hs ++ ks.map (shF hs.length)
theorem joinL_len (hs ks : List Flt) : (joinL hs ks).length = hs.length + ks.length := by unfold joinL; simp
theorem joinL_left {hs ks : List Flt} {i : Nat} (hi : i < (joinL hs ks).length) (hc : i < hs.length) : (joinL hs ks)[i] = hs[i] := List.getElem_append_left hc
theorem joinL_right {hs ks : List Flt} {i : Nat} (hi : i < (joinL hs ks).length) (hc : ¬ i < hs.length) (hk : i - hs.length < ks.length) : (joinL hs ks)[i] = shF hs.length ks[i - hs.length] := by
  have h : (joinL hs ks)[i] = (ks.map (shF hs.length))[i - hs.length]'(by simpa using hk) := List.getElem_append_right (by omega)
  rw [h, List.getElem_map]
theorem ctx_left {hs ks : List Flt} {x : Int} (h0 : 0 ≤ x) (h1 : x < hs.length) : ctxOf (joinL hs ks) x = ctxOf hs x := by
  obtain ⟨i, rfl⟩ := Int.eq_ofNat_of_zero_le h0
  rw [ctxOf_at (by rw [joinL_len]; omega), ctxOf_at (by omega), joinL_left _ (by omega)]
theorem ctx_right {hs ks : List Flt} {x : Int} (h0 : 0 ≤ x) (h1 : x < ks.length) : ctxOf (joinL hs ks) (x + hs.length) = shl hs.length (ctxOf ks x) := by
  obtain ⟨i, rfl⟩ := Int.eq_ofNat_of_zero_le h0
  have e : ((i : Int) + (hs.length : Int)) = ((i + hs.length : Nat) : Int) := by omega
  rw [e, ctxOf_at (by rw [joinL_len]; omega), ctxOf_at (by omega), joinL_right _ (by omega) (by omega)]
  simp [shF]
theorem fOk_parts {xs : List Cls} {n : Nat} {k : Int} {x : Flt} : fOk xs n k x = true ↔ hasK xs x.cls = true ∧ (0 ≤ x.code ∧ x.code ≤ 99) ∧ (-1 ≤ x.cause ∧ x.cause ≤ (n : Int) - 1) ∧ (-1 ≤ x.ctx ∧ x.ctx ≤ (n : Int) - 1) ∧ x.cause ≠ k ∧ x.ctx ≠ k := by
  unfold fOk linksOk
  simp only [Bool.and_eq_true, rng_iff, bne_iff_ne]
  constructor
  · rintro ⟨⟨h1, h2⟩, ⟨⟨h3, h4⟩, h5⟩, h6⟩; exact ⟨h1, h2, h3, h4, h5, h6⟩
  · rintro ⟨h1, h2, h3, h4, h5, h6⟩; exact ⟨⟨h1, h2⟩, ⟨⟨h3, h4⟩, h5⟩, h6⟩
theorem okHeap_fall {xs : List Cls} {hs : List Flt} (h : okHeap xs hs = true) : allF xs hs.length 0 hs = true ∧ endsF hs 0 hs.length = true ∧ okTree xs = true ∧ hs.length ≤ 24 := by
  unfold okHeap at h
  simp only [Bool.and_eq_true, decide_eq_true_eq] at h
  exact ⟨h.1.1.1, h.1.1.2, h.1.2, h.2⟩
theorem okHeap_mk {xs : List Cls} {hs : List Flt} (h1 : ∀ i (h : i < hs.length), fOk xs hs.length (i : Int) hs[i] = true) (h2 : Lnk hs → Chn.allEnd (ctxOf hs) hs.length) (h3 : okTree xs = true) (h4 : hs.length ≤ 24) : okHeap xs hs = true := by
  have ha := allF_mk (xs := xs) (n := hs.length) h1 hs.length 0 (by omega)
  rw [List.drop_zero] at ha
  have hl := lnk_of ha
  unfold okHeap
  rw [ha, (ends_iff hl).2 (h2 hl), h3, decide_eq_true h4]; rfl
theorem okHeap_at {xs : List Cls} {hs : List Flt} (h : okHeap xs hs = true) (i : Nat) (hi : i < hs.length) : fOk xs hs.length (i : Int) hs[i] = true :=
  allF_mem (hs := hs) hs.length 0 (by omega) (by simpa using (okHeap_fall h).1) i hi (Nat.zero_le _)
theorem join_ok {xs : List Cls} {hs ks : List Flt} (h : okHeap xs hs = true) (k : okHeap xs ks = true) : okHeap xs (joinL hs ks) = decide (hs.length + ks.length ≤ 24) := by
  by_cases hl : hs.length + ks.length ≤ 24
  · rw [decide_eq_true hl]
    have gh := goodH_of h
    have gk := goodH_of k
    refine okHeap_mk (fun i hi => ?_) (fun _ => ?_) (okHeap_fall h).2.2.1 (by rw [joinL_len]; exact hl)
    · have hi2 := hi
      rw [joinL_len] at hi2
      rw [fOk_parts, joinL_len]
      by_cases hc : i < hs.length
      · have := fOk_parts.1 (okHeap_at h i hc)
        rw [joinL_left _ hc]
        exact ⟨this.1, this.2.1, by omega, by omega, this.2.2.2.2.1, this.2.2.2.2.2⟩
      · have := fOk_parts.1 (okHeap_at k (i - hs.length) (by omega))
        rw [joinL_right _ hc (by omega)]
        generalize ks[i - hs.length]'(by omega) = x at *
        obtain ⟨a1, a2, a3, a4, a5, a6⟩ := this
        refine ⟨a1, a2, ?_, ?_, ?_, ?_⟩
        all_goals (simp only [shF, shl]; split <;> omega)
    · rw [joinL_len]
      intro f h0 h1 M hM x hx
      by_cases hc : f < hs.length
      · refine Chn.end_map (nx := ctxOf hs) (φ := id) gh.fin h0 hc gh.lnk.ctxlt (fun _ _ e => e) (fun _ e => e) (fun x h0 h1 hn => ?_) (fun x h0 h1 _ => ?_) hM hx
        · show ctxOf _ x < 0; rw [ctx_left h0 h1]; exact hn
        · exact ctx_left h0 h1
      · have e : f = (f - hs.length) + hs.length := by omega
        rw [e] at hM
        refine Chn.end_map (nx := ctxOf ks) (φ := fun x => x + hs.length) (f := f - hs.length) gk.fin (by omega) (by omega) gk.lnk.ctxlt (fun x y e => by simp at e; omega) (fun x e => by show 0 ≤ x + (hs.length : Int); omega) (fun x h0 h1 hn => ?_) (fun x h0 h1 hn => ?_) hM hx
        · show ctxOf _ (x + hs.length) < 0; rw [ctx_right h0 h1]; unfold shl; rw [if_pos hn]; exact hn
        · show ctxOf _ (x + hs.length) = _; rw [ctx_right h0 h1]; unfold shl; rw [if_neg (by omega)]
  · rw [decide_eq_false hl]
    cases hj : okHeap xs (joinL hs ks)
    · rfl
    · have := (okHeap_fall hj).2.2.2; rw [joinL_len] at this; omega
end Go.Proofs.Ythcolcmgfhkbeaa
