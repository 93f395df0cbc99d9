/- lists of lists: slices of slices -/
import Derived.Test.YtpdggodmiliijaaItF
namespace Go.Proofs.Ytpdggodmiliijaa
open Go.RowKit
/-- a slice as an element -/
structure Hdr where
  a : Option Addr
  n : Nat
  c : Nat
def Hdr.v (h : Hdr) : Value := .slice h.a h.n h.c
instance instEncHdr : Enc Hdr := ⟨1, fun h => [.slice h.a h.n h.c], fun _ => True, fun _ => rfl⟩
instance instOneHdr : EncOne Hdr := ⟨by decide, fun x u hu => by simp [Enc.cells] at hu; subst hu; rfl⟩
theorem Sl.hdr_at {w : World} {A : Option Addr} {n cap : Nat} {hs : List Hdr} (h : Sl w A n cap hs) {k : Nat} (hk : k < hs.length) :
    ∃ b off, A = some ⟨b, off, none⟩ ∧ b < w.heap.size ∧ w.cell? ⟨b, off + k, none⟩ = some (.slice hs[k].a hs[k].n hs[k].c) := by
  obtain ⟨b, off, e, hb, hc⟩ := h.cells_ hk
  have := hc 0 (by decide) _ rfl
  exact ⟨b, off, e, hb, by simpa [Enc.size] using this⟩
/-- the elements hs read as the lists L -/
structure Rd2 {α : Type} [Enc α] (w : World) (hs : List Hdr) (L : List (List α)) : Prop where
  len : hs.length = L.length
  each : ∀ (i : Nat) (h : Hdr) (l : List α), hs[i]? = some h → L[i]? = some l → Sl w h.a h.n h.c l
theorem Rd2.le {α : Type} [Enc α] {w w' : World} {hs : List Hdr} {L : List (List α)} (h : Rd2 w hs L) (hl : Le w w') : Rd2 w' hs L := ⟨h.len, fun i x l e f => (h.each i x l e f).le hl⟩
theorem Rd2.at_ {α : Type} [Enc α] {w : World} {hs : List Hdr} {L : List (List α)} (h : Rd2 w hs L) {k : Nat} (hk : k < hs.length) (hk2 : k < L.length) : Sl w hs[k].a hs[k].n hs[k].c L[k] := h.each k _ _ (List.getElem?_eq_getElem hk) (List.getElem?_eq_getElem hk2)
/-- some blocks apart, nothing that was there has turned -/
structure GrB (S : Nat → Prop) (w w' : World) : Prop where
  os : w'.os = w.os
  tape : w'.tape = w.tape
  output : w'.output = w.output
  size : w.heap.size ≤ w'.heap.size
  block : ∀ k, k < w.heap.size → ¬ S k → w'.heap[k]? = w.heap[k]?
theorem GrB.refl (S : Nat → Prop) (w : World) : GrB S w w := ⟨rfl, rfl, rfl, Nat.le_refl _, fun _ _ _ => rfl⟩
theorem GrB.trans {S : Nat → Prop} {a b c : World} (h : GrB S a b) (k : GrB S b c) : GrB S a c := ⟨k.os.trans h.os, k.tape.trans h.tape, k.output.trans h.output, Nat.le_trans h.size k.size, fun i hi hs => (k.block i (Nat.lt_of_lt_of_le hi h.size) hs).trans (h.block i hi hs)⟩
theorem GrB.of_grown {S : Nat → Prop} {w w' : World} {r : Option Nat} (h : w.grownBy w' r) (hr : ∀ k, r = some k → S k) : GrB S w w' := ⟨h.os, h.tape, h.output, h.size, fun k hk hs => h.block k hk (fun e => hs (hr k e.symm))⟩
theorem GrB.of_le {S : Nat → Prop} {w w' : World} (h : Le w w') : GrB S w w' := ⟨h.os, h.tape, h.output, h.size, fun k hk _ => Below.block h k hk⟩
theorem Le.grB {S : Nat → Prop} {a w w' : World} (h : Le a w) (hg : GrB S w w') (hr : ∀ k, S k → a.heap.size ≤ k) : Le a w' :=
  ⟨hg.os.trans h.os, hg.tape.trans h.tape, hg.output.trans h.output, Nat.le_trans h.size hg.size, fun k hk => (hg.block k (Nat.lt_of_lt_of_le hk h.size) (fun e => by have := hr k e; omega)).trans (h.block k hk)⟩
theorem GrB.cell {S : Nat → Prop} {w w' : World} (hg : GrB S w w') {b o : Nat} {v : Value} (h : w.cell? ⟨b, o, none⟩ = some v) (hb : ¬ S b) : w'.cell? ⟨b, o, none⟩ = some v :=
  (World.cell?_of_block (a := ⟨b, o, none⟩) (hg.block b (World.block_lt_of_cell? w ⟨b, o, none⟩ h) hb)).trans h
theorem own_grB {S : Nat → Prop} {w w' : World} {base : Nat} {e : TypeId} {size : Nat} {v : Value} {n : Nat} {xs : List Value} (h : w.ownsRow base e size v n xs) (hg : GrB S w w') (hne : ∀ k, v.ownBlock = some k → ¬ S k) : w'.ownsRow base e size v n xs := by
  refine ⟨h.1, ?_⟩
  rcases h.2 with hn | ⟨g, cap, cur, rfl, hb, hgg, rest⟩
  · exact .inl hn
  · refine .inr ⟨g, cap, cur, rfl, hb, ?_, rest⟩
    rw [hg.block g (Array.getElem?_eq_some_iff.1 hgg).1 (hne g rfl)]
    exact hgg
theorem Sl.grB {α : Type} [Enc α] {S : Nat → Prop} {w w' : World} {A : Option Addr} {n cap : Nat} {xs : List α} (h : Sl w A n cap xs) (hg : GrB S w w') (hne : 0 < n → ∀ a, A = some a → ¬ S a.block) : Sl w' A n cap xs :=
  ⟨h.len, h.cap_, h.max, h.ok, fun hn => by
    obtain ⟨b, off, e, hlt, hc⟩ := h.at_ hn
    exact ⟨b, off, e, Nat.lt_of_lt_of_le hlt hg.size, fun j u hu => (World.cell?_of_block (a := ⟨b, off + j, none⟩) (hg.block b hlt (hne hn _ e))).trans (hc j u hu)⟩⟩
/-- what the caller owns of fresh rows -/
structure OwL {α : Type} [Enc α] (TT T : TypeId) (w0 w : World) (v : Value) (hs : List Hdr) (L : List (List α)) : Prop where
  top : Owd TT w0 w v hs
  len : hs.length = L.length
  each : ∀ (i : Nat) (h : Hdr) (l : List α), hs[i]? = some h → L[i]? = some l → Owd T w0 w h.v l
  apart : ∀ (i j : Nat) (h k : Hdr), hs[i]? = some h → hs[j]? = some k → i ≠ j → Apart h.v k.v
  off : ∀ (i : Nat) (h : Hdr), hs[i]? = some h → Apart h.v v
section
variable {α : Type} [Enc α] {TT T : TypeId} {w0 w w' : World} {v : Value} {hs : List Hdr} {L : List (List α)}
theorem OwL.le (h : OwL TT T w0 w v hs L) (hl : Le w w') : OwL TT T w0 w' v hs L := ⟨h.top.le hl, h.len, fun i x l e f => (h.each i x l e f).le hl, h.apart, h.off⟩
theorem OwL.mono {w00 : World} (h : OwL TT T w0 w v hs L) (hl : Le w00 w0) : OwL TT T w00 w v hs L := ⟨h.top.mono hl, h.len, fun i x l e f => (h.each i x l e f).mono hl, h.apart, h.off⟩
theorem OwL.nil (TT T : TypeId) (w0 w : World) : OwL TT T w0 w (.slice none 0 0) [] ([] : List (List α)) := ⟨Owd.nil _ _ _, rfl, fun i h l e => by simp at e, fun i j h k e => by simp at e, fun i h e => by simp at e⟩
theorem OwL.snoc {v' : Value} {h : Hdr} {l : List α} (O : OwL TT T w0 w v hs L) (hx : Owd T w0 w h.v l) (h1 : Apart h.v v) (h2 : ∀ (i : Nat) (k : Hdr), hs[i]? = some k → Apart k.v h.v)
    (row : w'.ownsRow w0.heap.size TT 1 v' (hs.length + 1) ((hs ++ [h]).flatMap Enc.cells)) (hg : w.grownBy w' v.ownBlock) (hat : v'.ownBlock = v.ownBlock ∨ v'.ownBlock = some w.heap.size) : OwL TT T w0 w' v' (hs ++ [h]) (L ++ [l]) := by
  have hlen := O.len
  have hal : ∀ (i : Nat) (k : Hdr), (hs ++ [h])[i]? = some k → (i < hs.length ∧ hs[i]? = some k) ∨ (i = hs.length ∧ k = h) := fun i k e => by
    rcases Nat.lt_or_ge i hs.length with hi | hi
    · rw [List.getElem?_append_left hi] at e; exact .inl ⟨hi, e⟩
    · rw [List.getElem?_append_right hi] at e
      have h0 := (List.getElem?_eq_some_iff.1 e).1
      simp at h0
      have e2 : i = hs.length := by omega
      rw [e2, Nat.sub_self] at e
      exact .inr ⟨e2, by simpa using e.symm⟩
  have keep : ∀ (k : Hdr) (m : List α), Owd T w0 w k.v m → Apart k.v v → Owd T w0 w' k.v m := fun k m o a => ⟨o.row.kept hg a, o.ok⟩
  have offn : ∀ (k : Hdr) (m : List α), Owd T w0 w k.v m → Apart k.v v → Apart k.v v' := fun k m o a => by
    rcases hat with e | e
    · unfold Apart at a ⊢; rw [e]; exact a
    · refine .inr fun e2 => ?_
      have := (o.row.lt w.heap.size (by rw [e2]; exact e)).2
      omega
  refine ⟨⟨by rw [List.length_append]; exact row, fun _ _ => trivial⟩, by simp [hlen], ?_, ?_, ?_⟩
  · intro i k m e f
    rcases hal i k e with ⟨hi, e⟩ | ⟨rfl, rfl⟩
    · rw [List.getElem?_append_left (by omega)] at f
      exact keep k m (O.each i k m e f) (O.off i k e)
    · rw [List.getElem?_append_right (by omega), hlen, Nat.sub_self] at f
      obtain rfl : m = l := by simpa using f.symm
      exact keep k m hx h1
  · intro i j k k' e f hij
    rcases hal i k e with ⟨hi, e2⟩ | ⟨rfl, rfl⟩
    · rcases hal j k' f with ⟨hj, f2⟩ | ⟨rfl, rfl⟩
      · exact O.apart i j k k' e2 f2 hij
      · exact h2 i k e2
    · rcases hal j k' f with ⟨hj, f2⟩ | ⟨rfl, rfl⟩
      · exact (h2 j k' f2).symm
      · exact absurd rfl hij
  · intro i k e
    rcases hal i k e with ⟨hi, e⟩ | ⟨rfl, rfl⟩
    · exact offn k (L[i]'(by omega)) (O.each i k _ e (List.getElem?_eq_getElem (by omega))) (O.off i k e)
    · exact offn k l hx h1
theorem apart_lt {v u : Value} {m : Nat} (h : ∀ k, v.ownBlock = some k → k < m) (k : ∀ k, u.ownBlock = some k → m ≤ k) : Apart v u := by
  cases e : v.ownBlock with
  | none => exact .inl e
  | some q =>
    refine .inr fun e2 => ?_
    have h1 := h q e
    have h2 := k q (by rw [← e2]; exact e)
    omega
/-- a row that comes later is apart -/
theorem OwL.later {u : Value} {l : List α} {wc w2 : World} (O : OwL TT T w0 w v hs L) (hw : w.heap.size ≤ wc.heap.size) (hx : Owd T wc w2 u l) : Apart u v ∧ ∀ (i : Nat) (k : Hdr), hs[i]? = some k → Apart k.v u := by
  have hge : ∀ k, u.ownBlock = some k → w.heap.size ≤ k := fun k e => by have := (hx.row.lt k e).1; omega
  refine ⟨(apart_lt (fun k e => (O.top.row.lt k e).2) hge).symm, fun i k e => ?_⟩
  have hi := (List.getElem?_eq_some_iff.1 e).1
  have := O.each i k (L[i]'(by have := O.len; omega)) e (List.getElem?_eq_getElem (by have := O.len; omega))
  exact apart_lt (fun k e => (this.row.lt k e).2) hge
theorem OwL.grown {b : Nat} (h : OwL TT T w0 w v hs L) (hg : w.grownBy w' (some b)) (hb : b < w0.heap.size ∨ w.heap.size ≤ b) : OwL TT T w0 w' v hs L := by
  have kp : ∀ {β : Type} [Enc β] (U : TypeId) (u : Value) (l : List β), Owd U w0 w u l → Owd U w0 w' u l := fun U u l o => ⟨o.row.kept hg (by
    cases e : u.ownBlock with
    | none => exact .inl rfl
    | some q =>
      refine .inr fun e2 => ?_
      injection e2 with e2
      have := o.row.lt q e
      omega), o.ok⟩
  exact ⟨kp _ _ _ h.top, h.len, fun i x l e f => kp _ _ _ (h.each i x l e f), h.apart, h.off⟩
theorem OwL.rd (hp : 0 < Enc.size α) (h : OwL TT T w0 w v hs L) : Rd2 w hs L := ⟨h.len, fun i x l e f => Sl.of_own (by
  have o := h.each i x l e f
  obtain ⟨A, c, e2⟩ := own_form o.row
  have e3 : x.n = l.length := by have e4 : Value.slice x.a x.n x.c = .slice A l.length c := e2; injection e4
  have e5 := o.row
  unfold Hdr.v at e5
  rw [e3] at e5 ⊢
  exact e5) rfl hp (h.each i x l e f).ok⟩
theorem OwL.form (h : OwL TT T w0 w v hs L) : ∃ A c, v = .slice A L.length c ∧ Sl w A L.length c hs := by
  obtain ⟨A, c, e, S, -⟩ := h.top.form (by decide)
  rw [h.len] at e S
  exact ⟨A, c, e, S⟩
theorem OwL.hn (h : OwL TT T w0 w v hs L) {i : Nat} {x : Hdr} {l : List α} (e : hs[i]? = some x) (f : L[i]? = some l) : x.n = l.length := by
  obtain ⟨A, c, e2⟩ := own_form (h.each i x l e f).row
  have e4 : Value.slice x.a x.n x.c = .slice A l.length c := e2
  injection e4
/-- one of the rows is written -/
theorem OwL.set_ {k : Nat} {h : Hdr} {l' : List α} (O : OwL TT T w0 w v hs L) (hk : hs[k]? = some h) (row : Owd T w0 w' h.v l') (hg : w.grownBy w' h.v.ownBlock) : OwL TT T w0 w' v hs (L.set k l') := by
  have kp : ∀ {β : Type} [Enc β] (U : TypeId) (u : Value) (l : List β), Owd U w0 w u l → Apart u h.v → Owd U w0 w' u l := fun U u l o a => ⟨o.row.kept hg a, o.ok⟩
  refine ⟨kp _ _ _ O.top (O.off k h hk).symm, by simp [O.len], fun i x l e f => ?_, O.apart, O.off⟩
  by_cases hik : i = k
  · subst hik
    rw [hk] at e; injection e with e; subst e
    have hi := (List.getElem?_eq_some_iff.1 f).1
    rw [List.getElem?_set_self (by simpa using hi)] at f
    injection f with f; subst f
    exact row
  · rw [List.getElem?_set_ne (fun e => hik e.symm)] at f
    exact kp _ _ _ (O.each i x l e f) (O.apart i k x h e hk hik)
/-- a new row is put in a place -/
theorem OwL.put {k : Nat} {h : Hdr} {l : List α} (O : OwL TT T w0 w v hs L) (hk : k < hs.length) (hx : Owd T w0 w' h.v l) (h1 : Apart h.v v) (h2 : ∀ (i : Nat) (k : Hdr), hs[i]? = some k → Apart k.v h.v)
    (row : w'.ownsRow w0.heap.size TT 1 v hs.length ((hs.set k h).flatMap Enc.cells)) (hg : w.grownBy w' v.ownBlock) : OwL TT T w0 w' v (hs.set k h) (L.set k l) := by
  have hlen := O.len
  have hal : ∀ (i : Nat) (x : Hdr), (hs.set k h)[i]? = some x → (i ≠ k ∧ hs[i]? = some x) ∨ (i = k ∧ x = h) := fun i x e => by
    by_cases hik : i = k
    · subst hik
      rw [List.getElem?_set_self hk] at e
      exact .inr ⟨rfl, by injection e with e; exact e.symm⟩
    · rw [List.getElem?_set_ne (fun e => hik e.symm)] at e
      exact .inl ⟨hik, e⟩
  refine ⟨⟨by rw [List.length_set]; exact row, fun _ _ => trivial⟩, by simp [hlen], ?_, ?_, ?_⟩
  · intro i x m e f
    rcases hal i x e with ⟨hi, e⟩ | ⟨rfl, rfl⟩
    · rw [List.getElem?_set_ne (fun e => hi e.symm)] at f
      have o := O.each i x m e f
      exact ⟨o.row.kept hg (O.off i x e), o.ok⟩
    · rw [List.getElem?_set_self (by omega)] at f
      injection f with f; subst f; exact hx
  · intro i j x y e f hij
    rcases hal i x e with ⟨hi, e2⟩ | ⟨rfl, rfl⟩
    · rcases hal j y f with ⟨hj, f2⟩ | ⟨rfl, rfl⟩
      · exact O.apart i j x y e2 f2 hij
      · exact h2 i x e2
    · rcases hal j y f with ⟨hj, f2⟩ | ⟨rfl, rfl⟩
      · exact (h2 j y f2).symm
      · exact absurd rfl hij
  · intro i x e
    rcases hal i x e with ⟨hi, e⟩ | ⟨rfl, rfl⟩
    · exact O.off i x e
    · exact h1
end
/-- what reads as lists of lists, all of it below block m -/
structure LsR {α : Type} [Enc α] (m : Nat) (w : World) (A : Option Addr) (n c : Nat) (hs : List Hdr) (L : List (List α)) : Prop where
  top : Sl w A n c hs
  rd : Rd2 w hs L
  topU : 0 < n → ∀ a, A = some a → a.block < m
  eachU : ∀ (i : Nat) (h : Hdr), hs[i]? = some h → 0 < h.n → ∀ a, h.a = some a → a.block < m
section
variable {α : Type} [Enc α] {m : Nat} {w w' : World} {A : Option Addr} {n c : Nat} {hs : List Hdr} {L : List (List α)}
theorem LsR.le (h : LsR m w A n c hs L) (hl : Le w w') : LsR m w' A n c hs L := ⟨h.top.le hl, h.rd.le hl, h.topU, h.eachU⟩
theorem LsR.grB {S : Nat → Prop} (h : LsR m w A n c hs L) (hg : GrB S w w') (hs' : ∀ k, S k → m ≤ k) : LsR m w' A n c hs L :=
  ⟨h.top.grB hg (fun hn a e s => by have := h.topU hn a e; have := hs' _ s; omega), ⟨h.rd.len, fun i x l e f => (h.rd.each i x l e f).grB hg (fun hn a e2 s => by have := h.eachU i x e hn a e2; have := hs' _ s; omega)⟩, h.topU, h.eachU⟩
theorem OwL.lsR {TT T : TypeId} {w0 : World} (hp : 0 < Enc.size α) (h : OwL TT T w0 w (.slice A n c) hs L) : LsR w.heap.size w A n c hs L := by
  obtain ⟨A', c', e, S⟩ := h.form
  injection e with e1 e2 e3
  subst e1; subst e2; subst e3
  exact ⟨S, h.rd hp, S.under, fun i x e hn a e2 => ((h.rd hp).each i x (L[i]'(by have := h.len; have := (List.getElem?_eq_some_iff.1 e).1; omega)) e (List.getElem?_eq_getElem _)).under hn a e2⟩
end
theorem LsR.grown {α : Type} [Enc α] {m : Nat} {w w' : World} {A : Option Addr} {n c : Nat} {hs : List Hdr} {L : List (List α)} {b : Nat} (h : LsR m w A n c hs L) (hg : w.grownBy w' (some b)) (hb : m ≤ b) : LsR m w' A n c hs L :=
  h.grB (S := fun k => k = b) (GrB.of_grown hg (fun k e => by injection e with e; exact e.symm)) (fun k e => by omega)
theorem OwL.blk {α : Type} [Enc α] {TT T : TypeId} {w0 w : World} {v : Value} {hs : List Hdr} {L : List (List α)} (h : OwL TT T w0 w v hs L) : ∀ k, (∃ x ∈ hs, x.v.ownBlock = some k) → w0.heap.size ≤ k ∧ k < w.heap.size := by
  rintro k ⟨x, hx, e⟩
  obtain ⟨i, hi, rfl⟩ := List.getElem_of_mem hx
  exact (h.each i _ (L[i]'(by have := h.len; omega)) (List.getElem?_eq_getElem hi) (List.getElem?_eq_getElem _)).row.lt k e
def tot {α : Type} (L : List (List α)) : Nat := (L.map List.length).sum
theorem tot_take_succ {α : Type} {L : List (List α)} {k : Nat} (h : k < L.length) : tot (L.take (k + 1)) = tot (L.take k) + L[k].length := by
  unfold tot
  rw [List.take_succ_eq_append_getElem h, List.map_append, List.sum_append]; simp
theorem tot_take_le {α : Type} (L : List (List α)) (k : Nat) : tot (L.take k) ≤ tot L := by
  have : tot L = tot (L.take k) + tot (L.drop k) := by unfold tot; rw [← List.sum_append, ← List.map_append, List.take_append_drop]
  omega
theorem tot_get_le {α : Type} {L : List (List α)} {k : Nat} (h : k < L.length) : L[k].length ≤ tot L := by
  have := tot_take_succ h
  have := tot_take_le L (k + 1)
  omega
end Go.Proofs.Ytpdggodmiliijaa
