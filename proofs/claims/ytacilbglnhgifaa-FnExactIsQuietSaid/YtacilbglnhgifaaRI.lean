/- Plain: a search with a stack finds what links reach. -/
import Derived.Test.YtacilbglnhgifaaPR
import Derived.Test.YtacilbglnhgifaaBo
namespace Go.Proofs.Ytacilbglnhgifaa
open Go.RowKit

/-- x is marked -/
def tr (fd : List Bool) (x : Int) : Prop := 0 ≤ x ∧ fd[x.toNat]? = some true
theorem tr_nat {fd : List Bool} {i : Nat} (h : i < fd.length) : tr fd (i : Int) ↔ fd[i] = true := by
  unfold tr; rw [Int.toNat_natCast, List.getElem?_eq_getElem h]; simp
theorem tr_lt {fd : List Bool} {x : Int} (h : tr fd x) : ∃ i : Nat, x = i ∧ i < fd.length := by
  obtain ⟨h0, h1⟩ := h
  obtain ⟨i, rfl⟩ := Int.eq_ofNat_of_zero_le h0
  rw [Int.toNat_natCast] at h1
  exact ⟨i, rfl, (List.getElem?_eq_some_iff.1 h1).1⟩
theorem tr_set {fd : List Bool} {i : Nat} (hi : i < fd.length) {x : Int} : tr (fd.set i true) x ↔ tr fd x ∨ x = i := by
  constructor
  · intro h
    obtain ⟨k, rfl, hk⟩ := tr_lt h
    rw [List.length_set] at hk
    rw [tr_nat (by simpa using hk), List.getElem_set] at h
    split at h
    · right; omega
    · left; exact (tr_nat hk).2 h
  · rintro (h | rfl)
    · obtain ⟨k, rfl, hk⟩ := tr_lt h
      rw [tr_nat (by simpa using hk), List.getElem_set]
      split
      · rfl
      · exact (tr_nat hk).1 h
    · rw [tr_nat (by simpa using hi)]; simp
theorem tr_start (n : Nat) (x : Int) : ¬ tr (List.replicate n false) x := by
  intro h
  obtain ⟨k, rfl, hk⟩ := tr_lt h
  rw [tr_nat hk] at h
  simp at h
/-- how many are not marked -/
def unm : List Bool → Nat
  | [] => 0
  | b :: r => cond b 0 1 + unm r
theorem unm_set : ∀ {fd : List Bool} {i : Nat} (h : i < fd.length), fd[i] = false → unm (fd.set i true) + 1 = unm fd
  | b :: r, 0, _, hb => by simp at hb; subst hb; simp [unm]; omega
  | b :: r, i + 1, h, hb => by
    have := unm_set (fd := r) (i := i) (by simpa using h) (by simpa using hb)
    simp only [List.set_cons_succ, unm]; omega
theorem unm_rep (n : Nat) : unm (List.replicate n false) = n := by
  induction n with
  | zero => rfl
  | succ n ih => rw [List.replicate_succ, unm, ih]; simp; omega
structure RInv (c d : Int → Int) (n : Nat) (f : Int) (td : List Int) (fd : List Bool) : Prop where
  len : fd.length = n
  bnd : ∀ x ∈ td, -1 ≤ x ∧ x < n
  mem : ∀ x ∈ td, 0 ≤ x → Rch c d f x
  fnd : ∀ x, tr fd x → Rch c d f x ∧ (0 ≤ c x → tr fd (c x) ∨ c x ∈ td) ∧ (0 ≤ d x → tr fd (d x) ∨ d x ∈ td)
  has : f ∈ td ∨ tr fd f
theorem RInv.start {c d : Int → Int} {n : Nat} {f : Int} (h0 : 0 ≤ f) (h1 : f < n) : RInv c d n f [f] (List.replicate n false) :=
  ⟨by simp, fun x hx => by simp at hx; subst hx; omega, fun x hx _ => by simp at hx; subst hx; exact .base, fun x hx => absurd hx (tr_start n x), .inl (by simp)⟩
theorem RInv.pop {c d : Int → Int} {n : Nat} {f i : Int} {t0 : List Int} {fd : List Bool} (h : RInv c d n f (t0 ++ [i]) fd) (hf : 0 ≤ f) (hi : i < 0 ∨ tr fd i) : RInv c d n f t0 fd := by
  have key : ∀ x, 0 ≤ x → (tr fd x ∨ x ∈ t0 ++ [i]) → tr fd x ∨ x ∈ t0 := by
    intro x h0 hx
    rcases hx with hx | hx
    · exact .inl hx
    · rcases List.mem_append.1 hx with hx | hx
      · exact .inr hx
      · simp at hx; subst hx
        rcases hi with hi | hi
        · omega
        · exact .inl hi
  refine ⟨h.len, fun x hx => h.bnd x (by simp [hx]), fun x hx => h.mem x (by simp [hx]), fun x hx => ?_, ?_⟩
  · obtain ⟨a, b, e⟩ := h.fnd x hx
    exact ⟨a, fun hp => key _ hp (b hp), fun hp => key _ hp (e hp)⟩
  · rcases h.has with h1 | h1
    · rcases key f hf (.inr h1) with h2 | h2
      · exact .inr h2
      · exact .inl h2
    · exact .inr h1
theorem RInv.push {c d : Int → Int} {n : Nat} {f : Int} {i : Nat} {t0 : List Int} {fd : List Bool} (h : RInv c d n f (t0 ++ [(i : Int)]) fd) (hil : i < n) (hc : -1 ≤ c i ∧ c i < n) (hd : -1 ≤ d i ∧ d i < n) : RInv c d n f (t0 ++ [c i, d i]) (fd.set i true) := by
  have hil' : i < fd.length := by rw [h.len]; exact hil
  have hri := h.mem (i : Int) (by simp) (by omega)
  have key : ∀ x, (tr fd x ∨ x ∈ t0 ++ [(i : Int)]) → tr (fd.set i true) x ∨ x ∈ t0 ++ [c i, d i] := by
    intro x hx
    rcases hx with hx | hx
    · exact .inl ((tr_set hil').2 (.inl hx))
    · rcases List.mem_append.1 hx with hx | hx
      · exact .inr (by simp [hx])
      · simp at hx; exact .inl ((tr_set hil').2 (.inr hx))
  refine ⟨by simpa using h.len, fun x hx => ?_, fun x hx h0 => ?_, fun x hx => ?_, ?_⟩
  · rcases List.mem_append.1 hx with hx | hx
    · exact h.bnd x (by simp [hx])
    · simp at hx; rcases hx with rfl | rfl
      · exact hc
      · exact hd
  · rcases List.mem_append.1 hx with hx | hx
    · exact h.mem x (by simp [hx]) h0
    · simp at hx; rcases hx with rfl | rfl
      · exact .one hri h0
      · exact .two hri h0
  · rcases (tr_set hil').1 hx with hx | rfl
    · obtain ⟨a, b, e⟩ := h.fnd x hx
      exact ⟨a, fun hp => key _ (b hp), fun hp => key _ (e hp)⟩
    · exact ⟨hri, fun _ => .inr (by simp), fun _ => .inr (by simp)⟩
  · rcases key f (h.has.symm) with h1 | h1
    · exact .inr h1
    · exact .inl h1
theorem RInv.done {c d : Int → Int} {n : Nat} {f : Int} {fd : List Bool} (h : RInv c d n f [] fd) (x : Int) : tr fd x ↔ Rch c d f x := by
  constructor
  · exact fun hx => (h.fnd x hx).1
  · intro hx
    refine Rch.least (S := tr fd) ?_ (fun x hx h0 => ?_) (fun x hx h0 => ?_) hx
    · rcases h.has with h1 | h1
      · simp at h1
      · exact h1
    · rcases (h.fnd x hx).2.1 h0 with h1 | h1
      · exact h1
      · simp at h1
    · rcases (h.fnd x hx).2.2 h0 with h1 | h1
      · exact h1
      · simp at h1
/-- the marked ones below k -/
def mkd (fd : List Bool) : Nat → List Int
  | 0 => []
  | k + 1 => mkd fd k ++ cond (fd[k]?.getD false) [(k : Int)] []
theorem mkd_yes {fd : List Bool} {k : Nat} (h : k < fd.length) (e : fd[k] = true) : mkd fd (k + 1) = mkd fd k ++ [(k : Int)] := by
  rw [mkd, List.getElem?_eq_getElem h, e]; rfl
theorem mkd_no {fd : List Bool} {k : Nat} (h : k < fd.length) (e : fd[k] = false) : mkd fd (k + 1) = mkd fd k := by
  rw [mkd, List.getElem?_eq_getElem h, e]; simp
theorem mkd_len {fd : List Bool} : ∀ k, (mkd fd k).length ≤ k
  | 0 => by simp [mkd]
  | k + 1 => by have := mkd_len (fd := fd) k; rw [mkd, List.length_append]; cases fd[k]?.getD false <;> simp <;> omega
theorem mkd_mem {fd : List Bool} : ∀ {k : Nat} {x : Int}, x ∈ mkd fd k ↔ x < k ∧ tr fd x := by
  intro k
  induction k with
  | zero => intro x; simp [mkd]; intro h1 h2; exact absurd h2.1 (by omega)
  | succ k ih =>
    intro x
    rw [mkd, List.mem_append, ih]
    have hk : tr fd (k : Int) ↔ fd[k]?.getD false = true := by
      unfold tr; rw [Int.toNat_natCast]
      cases h : fd[k]? <;> simp
    cases hp : fd[k]?.getD false
    · rw [hp] at hk
      simp only [cond_false, List.not_mem_nil, or_false]
      constructor
      · rintro ⟨a, b⟩; exact ⟨by omega, b⟩
      · rintro ⟨a, b⟩
        have : x ≠ k := by rintro rfl; simpa using hk.1 b
        exact ⟨by omega, b⟩
    · rw [hp] at hk
      simp only [cond_true, List.mem_singleton]
      constructor
      · rintro (⟨a, b⟩ | rfl)
        · exact ⟨by omega, b⟩
        · exact ⟨by omega, hk.2 rfl⟩
      · rintro ⟨a, b⟩
        by_cases e : x = k
        · exact .inr e
        · exact .inl ⟨by omega, b⟩
theorem mkd_asc {fd : List Bool} : ∀ k, (mkd fd k).Pairwise (· < ·) := by
  intro k
  induction k with
  | zero => simp [mkd]
  | succ k ih =>
    rw [mkd, List.pairwise_append]
    refine ⟨ih, by cases fd[k]?.getD false <;> simp, fun a ha b hb => ?_⟩
    have := (mkd_mem.1 ha).1
    cases hp : fd[k]?.getD false
    · rw [hp] at hb; simp at hb
    · rw [hp] at hb; simp at hb; omega
theorem mkd_reach {hs : List Flt} (lk : Lnk hs) {f : Int} (h0 : 0 ≤ f) (h1 : f < hs.length) {fd : List Bool} (h : RInv (cauOf hs) (ctxOf hs) hs.length f [] fd) : mkd fd hs.length = reachL hs f := by
  refine reachL_eq lk h0 h1 (mkd_asc _) (fun x => ?_)
  rw [mkd_mem, h.done]
  constructor
  · exact fun h => h.2
  · intro hx
    obtain ⟨i, rfl, hi⟩ := tr_lt ((h.done x).2 hx)
    rw [h.len] at hi
    exact ⟨by omega, hx⟩
end Go.Proofs.Ytacilbglnhgifaa
