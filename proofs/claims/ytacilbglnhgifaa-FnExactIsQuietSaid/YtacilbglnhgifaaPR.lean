/- Plain: what links reach. -/
import Derived.Test.YtacilbglnhgifaaHpA
import Derived.Test.YtacilbglnhgifaaSC
namespace Go.Proofs.Ytacilbglnhgifaa
open Go.RowKit

def cauOf (hs : List Flt) (x : Int) : Int := match hs[x.toNat]? with | some f => f.cause | none => -1
theorem cauOf_at {hs : List Flt} {i : Nat} (h : i < hs.length) : cauOf hs (i : Int) = hs[i].cause := by
  unfold cauOf; rw [Int.toNat_natCast, List.getElem?_eq_getElem h]
theorem Lnk.caultlt {hs : List Flt} (h : Lnk hs) : ∀ x : Int, 0 ≤ x → x < hs.length → cauOf hs x < hs.length := by
  intro x h0 h1
  obtain ⟨i, rfl⟩ := Int.eq_ofNat_of_zero_le h0
  rw [cauOf_at (by omega)]
  exact (h.cause i (by omega)).2

/-- x is reached from f along c and d -/
inductive Rch (c d : Int → Int) (f : Int) : Int → Prop
  | base : Rch c d f f
  | one {x : Int} : Rch c d f x → 0 ≤ c x → Rch c d f (c x)
  | two {x : Int} : Rch c d f x → 0 ≤ d x → Rch c d f (d x)
theorem Rch.trans {c d : Int → Int} {f y x : Int} (h : Rch c d f y) (k : Rch c d y x) : Rch c d f x := by
  induction k with
  | base => exact h
  | one _ h0 ih => exact .one ih h0
  | two _ h0 ih => exact .two ih h0
theorem Rch.least {c d : Int → Int} {f : Int} {S : Int → Prop} (h0 : S f) (h1 : ∀ x, S x → 0 ≤ c x → S (c x)) (h2 : ∀ x, S x → 0 ≤ d x → S (d x)) {x : Int} (h : Rch c d f x) : S x := by
  induction h with
  | base => exact h0
  | one _ h0 ih => exact h1 _ ih h0
  | two _ h0 ih => exact h2 _ ih h0

def rgo (c d : Int → Int) : Nat → Int → List Int → List Int
  | 0, _, out => out
  | m + 1, f, out => if f < 0 ∨ f ∈ out then out else rgo c d m (d f) (rgo c d m (c f) (out ++ [f]))
theorem rgo_stop {c d : Int → Int} {m : Nat} {f : Int} {out : List Int} (h : f < 0 ∨ f ∈ out) : rgo c d m f out = out := by
  cases m with
  | zero => rfl
  | succ m => rw [rgo, if_pos h]
theorem rgo_on {c d : Int → Int} {m : Nat} {f : Int} {out : List Int} (h : ¬ (f < 0 ∨ f ∈ out)) : rgo c d (m + 1) f out = rgo c d m (d f) (rgo c d m (c f) (out ++ [f])) := by
  rw [rgo, if_neg h]
/-- what is found keeps to -/
structure Fnd (n : Nat) (out : List Int) : Prop where
  nd : out.Nodup
  rng : ∀ x ∈ out, 0 ≤ x ∧ x < n
theorem Fnd.nil (n : Nat) : Fnd n [] := ⟨by simp, by simp⟩
theorem Fnd.snoc {n : Nat} {out : List Int} (h : Fnd n out) {f : Int} (h0 : 0 ≤ f) (h1 : f < n) (hm : f ∉ out) : Fnd n (out ++ [f]) := by
  refine ⟨?_, fun x hx => ?_⟩
  · rw [List.nodup_append]
    exact ⟨h.nd, by simp, fun a ha b hb e => by simp at hb; subst hb; subst e; exact hm ha⟩
  · rcases List.mem_append.1 hx with hx | hx
    · exact h.rng x hx
    · simp at hx; subst hx; exact ⟨h0, h1⟩
theorem Fnd.len {n : Nat} {out : List Int} (h : Fnd n out) : out.length ≤ n := Chn.nodup_bound n out h.nd h.rng
structure RPost (c d : Int → Int) (n : Nat) (f : Int) (out L : List Int) : Prop where
  fnd : Fnd n L
  pre : ∃ r, L = out ++ r
  has : 0 ≤ f → f ∈ L
  new : ∀ x ∈ L, x ∉ out → Rch c d f x ∧ (0 ≤ c x → c x ∈ L) ∧ (0 ≤ d x → d x ∈ L)
  neg : f < 0 → L = out
theorem rgo_post {c d : Int → Int} {n : Nat} (hc : ∀ x : Int, 0 ≤ x → x < n → c x < n) (hd : ∀ x : Int, 0 ≤ x → x < n → d x < n) :
    ∀ (m : Nat) (f : Int) (out : List Int), Fnd n out → f < n → n + 1 ≤ m + out.length → RPost c d n f out (rgo c d m f out) := by
  intro m
  induction m with
  | zero => intro f out h _ hm; have := h.len; omega
  | succ m ih =>
    intro f out h hf hm
    by_cases he : f < 0 ∨ f ∈ out
    · rw [rgo_stop he]
      refine ⟨h, ⟨[], by simp⟩, fun h0 => ?_, fun x hx hn => absurd hx hn, fun _ => rfl⟩
      rcases he with he | he
      · omega
      · exact he
    · rw [rgo_on he]
      simp only [not_or, Int.not_lt] at he
      obtain ⟨h0, hm0⟩ := he
      have p1 := ih (c f) (out ++ [f]) (h.snoc h0 hf hm0) (hc f h0 hf) (by simp; omega)
      obtain ⟨r1, e1⟩ := p1.pre
      have p2 := ih (d f) (rgo c d m (c f) (out ++ [f])) p1.fnd (hd f h0 hf) (by rw [e1]; simp; omega)
      generalize rgo c d m (c f) (out ++ [f]) = L1 at *
      generalize rgo c d m (d f) L1 = L2 at *
      obtain ⟨r2, e2⟩ := p2.pre
      have hsub : ∀ x, x ∈ L1 → x ∈ L2 := fun x hx => by rw [e2]; exact List.mem_append_left _ hx
      have hf1 : f ∈ L1 := by rw [e1]; simp
      refine ⟨p2.fnd, ⟨f :: r1 ++ r2, by rw [e2, e1]; simp⟩, fun _ => hsub f hf1, fun x hx hn => ?_, fun h => by omega⟩
      by_cases hx1 : x ∈ L1
      · by_cases hxf : x = f
        · subst hxf
          refine ⟨.base, fun hp => hsub _ (p1.has hp), fun hp => p2.has hp⟩
        · have hno : x ∉ out ++ [f] := by simp [hn, hxf]
          obtain ⟨a, b, c'⟩ := p1.new x hx1 hno
          have hcf : 0 ≤ c f := by
            rcases Int.lt_or_le (c f) 0 with hl | hl
            · rw [p1.neg hl] at hx1; exact absurd hx1 hno
            · exact hl
          exact ⟨(Rch.one .base hcf).trans a, fun hp => hsub _ (b hp), fun hp => hsub _ (c' hp)⟩
      · obtain ⟨a, b, c'⟩ := p2.new x hx hx1
        have hdf : 0 ≤ d f := by
          rcases Int.lt_or_le (d f) 0 with hl | hl
          · rw [p2.neg hl] at hx; exact absurd hx hx1
          · exact hl
        exact ⟨(Rch.two .base hdf).trans a, b, c'⟩
def rch0 (hs : List Flt) (f : Int) : List Int := rgo (cauOf hs) (ctxOf hs) (hs.length + 1) f []
theorem rch0_fnd {hs : List Flt} (lk : Lnk hs) {f : Int} (h1 : f < hs.length) : Fnd hs.length (rch0 hs f) :=
  (rgo_post lk.caultlt lk.ctxlt (hs.length + 1) f [] (Fnd.nil _) h1 (by simp)).fnd
theorem rch0_iff {hs : List Flt} (lk : Lnk hs) {f : Int} (h0 : 0 ≤ f) (h1 : f < hs.length) (x : Int) : x ∈ rch0 hs f ↔ Rch (cauOf hs) (ctxOf hs) f x := by
  have p := rgo_post lk.caultlt lk.ctxlt (hs.length + 1) f [] (Fnd.nil _) h1 (by simp)
  constructor
  · intro h; exact (p.new x h (by simp)).1
  · intro h
    exact Rch.least (S := fun x => x ∈ rch0 hs f) (p.has h0) (fun x hx => (p.new x hx (by simp)).2.1) (fun x hx => (p.new x hx (by simp)).2.2) h
/-- the numbers below n of a list, ascending -/
def ascOf (L : List Int) : Nat → List Int
  | 0 => []
  | n + 1 => ascOf L n ++ cond (hasI L (n : Int)) [(n : Int)] []
theorem ascOf_mem {L : List Int} : ∀ {k : Nat} {x : Int}, x ∈ ascOf L k ↔ 0 ≤ x ∧ x < k ∧ x ∈ L := by
  intro k
  induction k with
  | zero => intro x; simp [ascOf]; omega
  | succ k ih =>
    intro x
    rw [ascOf, List.mem_append, ih]
    cases hp : hasI L (k : Int)
    · simp only [cond_false, List.not_mem_nil, or_false]
      constructor
      · rintro ⟨a, b, c⟩; exact ⟨a, by omega, c⟩
      · rintro ⟨a, b, c⟩
        refine ⟨a, ?_, c⟩
        have : x ≠ k := by rintro rfl; rw [← hasI_iff', hp] at c; cases c
        omega
    · simp only [cond_true, List.mem_singleton]
      constructor
      · rintro (⟨a, b, c⟩ | rfl)
        · exact ⟨a, by omega, c⟩
        · exact ⟨by omega, by omega, hasI_iff'.1 hp⟩
      · rintro ⟨a, b, c⟩
        by_cases e : x = k
        · exact .inr e
        · exact .inl ⟨a, by omega, c⟩
theorem ascOf_asc {L : List Int} : ∀ (k : Nat), (ascOf L k).Pairwise (· < ·) := by
  intro k
  induction k with
  | zero => simp [ascOf]
  | succ k ih =>
    rw [ascOf, List.pairwise_append]
    refine ⟨ih, ?_, fun a ha b hb => ?_⟩
    · cases hasI L (k : Int) <;> simp
    · have := (ascOf_mem.1 ha).2.1
      cases hp : hasI L (k : Int)
      · rw [hp] at hb; simp at hb
      · rw [hp] at hb; simp at hb; omega
theorem ascOf_len {L : List Int} : ∀ (k : Nat), (ascOf L k).length ≤ k := by
  intro k
  induction k with
  | zero => simp [ascOf]
  | succ k ih => rw [ascOf, List.length_append]; cases hasI L (k : Int) <;> simp <;> omega
theorem ascOf_congr {L M : List Int} : ∀ (k : Nat), (∀ x : Int, 0 ≤ x → x < k → (x ∈ L ↔ x ∈ M)) → ascOf L k = ascOf M k := by
  intro k h
  exact asc_ext _ _ (ascOf_asc k) (ascOf_asc k) (fun x => by rw [ascOf_mem, ascOf_mem]; exact ⟨fun ⟨a, b, c⟩ => ⟨a, b, (h x a b).1 c⟩, fun ⟨a, b, c⟩ => ⟨a, b, (h x a b).2 c⟩⟩)
def reachL (hs : List Flt) (f : Int) : List Int := ascOf (rch0 hs f) hs.length
theorem reachL_mem {hs : List Flt} (lk : Lnk hs) {f : Int} (h0 : 0 ≤ f) (h1 : f < hs.length) (x : Int) : x ∈ reachL hs f ↔ Rch (cauOf hs) (ctxOf hs) f x := by
  unfold reachL
  rw [ascOf_mem, rch0_iff lk h0 h1]
  constructor
  · exact fun h => h.2.2
  · intro h
    have := (rch0_fnd lk h1).rng x ((rch0_iff lk h0 h1 x).2 h)
    exact ⟨this.1, this.2, h⟩
theorem reachL_asc (hs : List Flt) (f : Int) : (reachL hs f).Pairwise (· < ·) := ascOf_asc _
/-- what is ascending and has just what is reached is it -/
theorem reachL_eq {hs : List Flt} (lk : Lnk hs) {f : Int} (h0 : 0 ≤ f) (h1 : f < hs.length) {L : List Int} (ha : L.Pairwise (· < ·)) (hm : ∀ x, x ∈ L ↔ Rch (cauOf hs) (ctxOf hs) f x) : L = reachL hs f :=
  asc_ext _ _ ha (reachL_asc hs f) (fun x => by rw [hm, reachL_mem lk h0 h1])
end Go.Proofs.Ytacilbglnhgifaa
