/- Plain: chains along a link, each number once. -/
import Derived.Test.YtpdggodmiliijaaK
namespace Go.Proofs.Ytpdggodmiliijaa
namespace Chn
theorem nodup_bound : ∀ (n : Nat) (L : List Int), L.Nodup → (∀ x ∈ L, 0 ≤ x ∧ x < n) → L.length ≤ n := by
  intro n
  induction n with
  | zero =>
    intro L _ h
    cases L with
    | nil => simp
    | cons x r => have := h x (by simp); omega
  | succ n ih =>
    intro L hn h
    by_cases hm : (n : Int) ∈ L
    · have h1 : (L.erase (n : Int)).Nodup := hn.erase _
      have h2 : ∀ x ∈ L.erase (n : Int), 0 ≤ x ∧ x < n := by
        intro x hx
        have hx' := (List.Nodup.mem_erase_iff hn).1 hx
        have := h x hx'.2
        have := hx'.1
        omega
      have := ih _ h1 h2
      rw [List.length_erase_of_mem hm] at this
      omega
    · have := ih L hn (fun x hx => by
        have := h x hx
        have : x ≠ n := fun e => hm (e ▸ hx)
        omega)
      omega

theorem nd_inj {L : List Int} (h : L.Nodup) {i j : Nat} (hi : i < L.length) (hj : j < L.length) (e : L[i] = L[j]) : i = j := by
  have hp := List.pairwise_iff_getElem.1 h
  rcases Nat.lt_trichotomy i j with h1 | h1 | h1
  · exact absurd e (hp i j hi hj h1)
  · exact h1
  · exact absurd e.symm (hp j i hj hi h1)

/-- L goes from f along nx, each once, as far as it can -/
structure Is (nx : Int → Int) (f : Int) (L : List Int) : Prop where
  nd : L.Nodup
  pos : ∀ x ∈ L, 0 ≤ x
  ne : L ≠ []
  hd : L.head? = some f
  st : ∀ k (h : k + 1 < L.length), L[k + 1] = nx L[k]
  en : ∀ x, L.getLast? = some x → nx x < 0 ∨ nx x ∈ L

def go (nx : Int → Int) : Nat → Int → List Int → List Int
  | 0, _, out => out
  | m + 1, f, out => if f < 0 ∨ f ∈ out then out else go nx m (nx f) (out ++ [f])

/-- what the chain's first part keeps to: f is next -/
structure Pre (nx : Int → Int) (n : Nat) (f0 f : Int) (out : List Int) : Prop where
  nd : out.Nodup
  rng : ∀ x ∈ out, 0 ≤ x ∧ x < n
  hd : out = [] ∧ f = f0 ∨ out.head? = some f0
  st : ∀ k (h : k + 1 < out.length), out[k + 1] = nx out[k]
  nxt : ∀ x, out.getLast? = some x → nx x = f
  lt : f < n
theorem Pre.start {nx : Int → Int} {n : Nat} {f : Int} (h : f < n) : Pre nx n f f [] :=
  ⟨by simp, by simp, .inl ⟨rfl, rfl⟩, by simp, by simp, h⟩
theorem Pre.step {nx : Int → Int} {n : Nat} {f0 f : Int} {out : List Int} (h : Pre nx n f0 f out) (hf : 0 ≤ f) (hm : f ∉ out) (hb : nx f < n) : Pre nx n f0 (nx f) (out ++ [f]) := by
  refine ⟨?_, ?_, ?_, ?_, ?_, hb⟩
  · rw [List.nodup_append]
    exact ⟨h.nd, by simp, fun a ha b hb e => by simp at hb; subst hb; subst e; exact hm ha⟩
  · intro x hx
    rcases List.mem_append.1 hx with hx | hx
    · exact h.rng x hx
    · simp at hx; subst hx; exact ⟨hf, h.lt⟩
  · right
    rcases h.hd with ⟨rfl, rfl⟩ | h1
    · rfl
    · cases out with
      | nil => simp at h1
      | cons a r => simpa using h1
  · intro k hk
    simp at hk
    by_cases e : k + 1 < out.length
    · rw [List.getElem_append_left e, List.getElem_append_left (by omega)]; exact h.st k e
    · have ek : k + 1 = out.length := by omega
      rw [List.getElem_append_right (by omega), List.getElem_append_left (by omega)]
      have hl : out.getLast? = some out[k] := by
        rw [List.getLast?_eq_getElem?, List.getElem?_eq_getElem (by omega)]
        simp only [← ek, Nat.add_sub_cancel]
      rw [h.nxt _ hl]
      simp [ek]
  · intro x hx
    simp at hx; rw [← hx]
theorem Pre.len {nx : Int → Int} {n : Nat} {f0 f : Int} {out : List Int} (h : Pre nx n f0 f out) : out.length ≤ n := nodup_bound n out h.nd h.rng
theorem Pre.done {nx : Int → Int} {n : Nat} {f0 f : Int} {out : List Int} (h : Pre nx n f0 f out) (hne : out ≠ []) (he : f < 0 ∨ f ∈ out) : Is nx f0 out := by
  refine ⟨h.nd, fun x hx => (h.rng x hx).1, hne, ?_, h.st, fun x hx => ?_⟩
  · rcases h.hd with ⟨h1, _⟩ | h1
    · exact absurd h1 hne
    · exact h1
  · rw [h.nxt x hx]; exact he

theorem go_is {nx : Int → Int} {n : Nat} {f0 : Int} (hb : ∀ x : Int, 0 ≤ x → x < n → nx x < n) (h0 : 0 ≤ f0) (h1 : f0 < n) :
    ∀ (m : Nat) (f : Int) (out : List Int), Pre nx n f0 f out → n + 1 ≤ m + out.length → Is nx f0 (go nx m f out) := by
  intro m
  induction m with
  | zero => intro f out h hm; have := h.len; omega
  | succ m ih =>
    intro f out h hm
    unfold go
    by_cases he : f < 0 ∨ f ∈ out
    · rw [if_pos he]
      refine h.done ?_ he
      rintro rfl
      rcases h.hd with ⟨_, rfl⟩ | h2
      · rcases he with he | he
        · omega
        · simp at he
      · simp at h2
    · rw [if_neg he]
      simp only [not_or, Int.not_lt] at he
      exact ih _ _ (h.step he.1 he.2 (hb f he.1 h.lt)) (by simp; omega)

theorem Is.at_eq {nx : Int → Int} {f : Int} {L M : List Int} (h : Is nx f L) (k : Is nx f M) : ∀ i (h1 : i < L.length) (h2 : i < M.length), L[i] = M[i] := by
  intro i
  induction i with
  | zero =>
    intro h1 h2
    have a := h.hd; have b := k.hd
    rw [List.head?_eq_getElem?, List.getElem?_eq_getElem h1] at a
    rw [List.head?_eq_getElem?, List.getElem?_eq_getElem h2] at b
    injection a with a; injection b with b
    rw [a, b]
  | succ i ih =>
    intro h1 h2
    rw [h.st i h1, k.st i h2, ih (by omega) (by omega)]
theorem Is.le_len {nx : Int → Int} {f : Int} {L M : List Int} (h : Is nx f L) (k : Is nx f M) : L.length ≤ M.length := by
  rcases Nat.lt_or_ge M.length L.length with hl | hl
  · exfalso
    have hm : 0 < M.length := by cases M with | nil => exact absurd rfl k.ne | cons _ _ => simp
    have e : M.getLast? = some M[M.length - 1] := by rw [List.getLast?_eq_getElem?, List.getElem?_eq_getElem (by omega)]
    have hn : L[M.length] = nx M[M.length - 1] := by
      have := h.st (M.length - 1) (by omega)
      have e2 : M.length - 1 + 1 = M.length := by omega
      simp only [e2] at this
      rw [this, h.at_eq k (M.length - 1) (by omega) (by omega)]
    rcases k.en _ e with hx | hx
    · have := h.pos L[M.length] (List.getElem_mem _); omega
    · rw [← hn] at hx
      obtain ⟨j, hj, hjj⟩ := List.getElem_of_mem hx
      rw [← h.at_eq k j (by omega) hj] at hjj
      have := nd_inj h.nd (by omega) hl hjj
      omega
  · exact hl
theorem Is.uniq {nx : Int → Int} {f : Int} {L M : List Int} (h : Is nx f L) (k : Is nx f M) : L = M :=
  List.ext_getElem (Nat.le_antisymm (h.le_len k) (k.le_len h)) (fun i h1 h2 => h.at_eq k i h1 h2)

theorem Is.lt {nx : Int → Int} {n : Nat} {f : Int} {L : List Int} (h : Is nx f L) (hb : ∀ x : Int, 0 ≤ x → x < n → nx x < n) (hf : f < n) : ∀ x ∈ L, 0 ≤ x ∧ x < n := by
  have hr : ∀ k (hk : k < L.length), 0 ≤ L[k] ∧ L[k] < n := by
    intro k
    induction k with
    | zero =>
      intro hk
      have a := h.hd
      rw [List.head?_eq_getElem?, List.getElem?_eq_getElem hk] at a
      injection a with a
      exact ⟨h.pos _ (List.getElem_mem _), by omega⟩
    | succ k ih =>
      intro hk
      have h2 := ih (by omega)
      have h3 := hb _ h2.1 h2.2
      rw [← h.st k hk] at h3
      exact ⟨h.pos _ (List.getElem_mem _), h3⟩
  intro x hx
  obtain ⟨k, hk, e⟩ := List.getElem_of_mem hx
  rw [← e]; exact hr k hk

/-- the chain from one of a chain is its rest, if the end leads nowhere or there -/
theorem Is.drop {nx : Int → Int} {f : Int} {L : List Int} (h : Is nx f L) {p : Nat} (hp : p < L.length) (he : ∀ x, L.getLast? = some x → nx x < 0 ∨ nx x ∈ L.drop p) : Is nx L[p] (L.drop p) := by
  refine ⟨h.nd.sublist (List.drop_sublist p L), fun x hx => h.pos x (List.mem_of_mem_drop hx), ?_, ?_, ?_, ?_⟩
  · intro e
    have := congrArg List.length e
    simp at this; omega
  · rw [List.head?_drop, List.getElem?_eq_getElem hp]
  · intro k hk
    simp at hk
    rw [List.getElem_drop, List.getElem_drop]
    have := h.st (p + k) (by omega)
    simpa [Nat.add_assoc] using this
  · intro x hx
    refine he x ?_
    rw [List.getLast?_drop] at hx
    split at hx
    · cases hx
    · exact hx

/-- from no one leads the link back to it -/
def noBack (nx : Int → Int) (n : Nat) : Prop := ∀ i : Int, 0 ≤ i → i < n → ∀ L, Is nx (nx i) L → i ∉ L
def allEnd (nx : Int → Int) (n : Nat) : Prop := ∀ f : Int, 0 ≤ f → f < n → ∀ L, Is nx f L → ∀ x, L.getLast? = some x → nx x < 0

theorem end_of_noBack {nx : Int → Int} {n : Nat} (hb : ∀ x : Int, 0 ≤ x → x < n → nx x < n) (h : noBack nx n) : allEnd nx n := by
  intro f h0 h1 L hL x hx
  rcases hL.en x hx with he | he
  · exact he
  · exfalso
    obtain ⟨p, hp, hpp⟩ := List.getElem_of_mem he
    have hr : ∀ k (hk : k < L.length), 0 ≤ L[k] ∧ L[k] < n := by
      intro k
      induction k with
      | zero =>
        intro hk
        have a := hL.hd
        rw [List.head?_eq_getElem?, List.getElem?_eq_getElem hk] at a
        injection a with a; omega
      | succ k ih =>
        intro hk
        have h2 := ih (by omega)
        have h3 := hb _ h2.1 h2.2
        rw [← hL.st k hk] at h3
        exact ⟨hL.pos _ (List.getElem_mem _), h3⟩
    have hxl : x ∈ L := List.mem_of_getLast? hx
    obtain ⟨q, hq, hqq⟩ := List.getElem_of_mem hxl
    have hxr := hr q hq
    rw [hqq] at hxr
    have hd := hL.drop hp (fun y hy => by
      rw [hx] at hy; injection hy with hy; subst hy
      right
      rw [← hpp]
      have e : L.drop p = L[p] :: L.drop (p + 1) := List.drop_eq_getElem_cons hp
      rw [e]; exact List.mem_cons_self)
    rw [hpp] at hd
    refine h x hxr.1 hxr.2 _ hd ?_
    have hlast : q = L.length - 1 := by
      rw [List.getLast?_eq_getElem?, List.getElem?_eq_getElem (by omega)] at hx
      injection hx with hx
      exact nd_inj hL.nd hq (by omega) (hqq.trans hx.symm)
    rw [List.mem_iff_getElem]
    refine ⟨q - p, by simp; omega, ?_⟩
    rw [List.getElem_drop]
    have e2 : p + (q - p) = q := by omega
    simp only [e2]; exact hqq

theorem noBack_of_end {nx : Int → Int} {n : Nat} (h : allEnd nx n) : noBack nx n := by
  intro i h0 h1 L hL hm
  obtain ⟨p, hp, hpp⟩ := List.getElem_of_mem hm
  -- the chain from i: i, then L's first part up to i
  have hl : 0 < L.length := by omega
  have hd0 : L[0] = nx i := by
    have a := hL.hd
    rw [List.head?_eq_getElem?, List.getElem?_eq_getElem hl] at a
    injection a
  have hI : Is nx i (i :: L.take p) := by
    refine ⟨?_, ?_, by simp, rfl, ?_, ?_⟩
    · rw [List.nodup_cons]
      refine ⟨fun hc => ?_, hL.nd.sublist (List.take_sublist p L)⟩
      obtain ⟨j, hj, hjj⟩ := List.getElem_of_mem hc
      rw [List.getElem_take] at hjj
      simp at hj
      have := nd_inj hL.nd (by omega) hp (hjj.trans hpp.symm)
      omega
    · intro x hx
      rcases List.mem_cons.1 hx with rfl | hx
      · exact h0
      · exact hL.pos x (List.mem_of_mem_take hx)
    · intro k hk
      simp at hk
      cases k with
      | zero => simpa using hd0
      | succ k =>
        simp
        exact hL.st k (by omega)
    · intro x hx
      right
      cases p with
      | zero =>
        simp at hx
        subst hx
        rw [← hd0, hpp]; simp
      | succ p =>
        have e : (i :: L.take (p + 1)).getLast? = some L[p] := by
          rw [List.getLast?_cons]
          have : (L.take (p + 1)).getLast? = some L[p] := by
            rw [List.getLast?_eq_getElem?, List.length_take]
            have : min (p + 1) L.length - 1 = p := by omega
            rw [this, List.getElem?_take, if_pos (by omega), List.getElem?_eq_getElem (by omega)]
          rw [this]; rfl
        rw [e] at hx; injection hx with hx; subst hx
        rw [← hL.st p hp, hpp]; simp
  have hne := hI.ne
  obtain ⟨x, hx⟩ : ∃ x, (i :: L.take p).getLast? = some x := by
    cases hg : (i :: L.take p).getLast? with
    | none => simp at hg
    | some x => exact ⟨x, rfl⟩
  have := h i h0 h1 _ hI x hx
  rcases hI.en x hx with he | he
  · -- its last one leads to i
    cases p with
    | zero =>
      simp at hx
      subst hx
      have : nx i = i := by rw [← hd0, hpp]
      omega
    | succ p =>
      have e : (i :: L.take (p + 1)).getLast? = some L[p] := by
        rw [List.getLast?_cons]
        have : (L.take (p + 1)).getLast? = some L[p] := by
          rw [List.getLast?_eq_getElem?, List.length_take]
          have : min (p + 1) L.length - 1 = p := by omega
          rw [this, List.getElem?_take, if_pos (by omega), List.getElem?_eq_getElem (by omega)]
        rw [this]; rfl
      rw [e] at hx; injection hx with hx; rw [← hx] at he
      rw [← hL.st p hp, hpp] at he
      omega
  · have := hI.pos _ he; omega
end Chn
end Go.Proofs.Ytpdggodmiliijaa
