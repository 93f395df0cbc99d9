/- one text of NL, TlPart, TlPartSS -/
import Derived.Test.YtpdggodmiliijaaCg7
import Derived.Test.YtpdggodmiliijaaCg3
import Derived.Test.YtpdggodmiliijaaCg1
namespace Go.Proofs.Ytpdggodmiliijaa
open Go.RowKit
set_option linter.unusedVariables false
section
/-- a slice as an element -/
structure Hdr where
  a : Option Addr
  n : Nat
  c : Nat
def Hdr.v (h : Hdr) : Value := .slice h.a h.n h.c
instance instEncHdr : Enc Hdr := ⟨1, fun h => [.slice h.a h.n h.c], fun _ => True, fun _ => rfl⟩
instance instOneHdr : EncOne Hdr := ⟨by decide, fun x u hu => by simp [Enc.cells] at hu; subst hu; rfl⟩
theorem Sl.hdr_at {w : World} {A : Option Addr} {n cap : Nat} {hs : List Hdr} (h : Sl w A n cap hs) {k : Nat} (hk : k < hs.length) :
    ∃ b off, A = some ⟨b, off, none⟩ ∧ b < w.heap.size ∧ w.cell? ⟨b, off + k, none⟩ = some (.slice hs[k].a hs[k].n hs[k].c) := by
  obtain ⟨b, off, e, hb, hc⟩ := h.cells_ hk
  have := hc 0 (by decide) _ rfl
  exact ⟨b, off, e, hb, by simpa [Enc.size] using this⟩
/-- the elements hs read as the lists L -/
structure Rd2 {α : Type} [Enc α] (w : World) (hs : List Hdr) (L : List (List α)) : Prop where
  len : hs.length = L.length
  each : ∀ (i : Nat) (h : Hdr) (l : List α), hs[i]? = some h → L[i]? = some l → Sl w h.a h.n h.c l
theorem Rd2.le {α : Type} [Enc α] {w w' : World} {hs : List Hdr} {L : List (List α)} (h : Rd2 w hs L) (hl : Le w w') : Rd2 w' hs L := ⟨h.len, fun i x l e f => (h.each i x l e f).le hl⟩
theorem Rd2.at_ {α : Type} [Enc α] {w : World} {hs : List Hdr} {L : List (List α)} (h : Rd2 w hs L) {k : Nat} (hk : k < hs.length) (hk2 : k < L.length) : Sl w hs[k].a hs[k].n hs[k].c L[k] := h.each k _ _ (List.getElem?_eq_getElem hk) (List.getElem?_eq_getElem hk2)
/-- some blocks apart, nothing that was there has turned -/
structure GrB (S : Nat → Prop) (w w' : World) : Prop where
  os : w'.os = w.os
  tape : w'.tape = w.tape
  output : w'.output = w.output
  size : w.heap.size ≤ w'.heap.size
  block : ∀ k, k < w.heap.size → ¬ S k → w'.heap[k]? = w.heap[k]?
theorem GrB.refl (S : Nat → Prop) (w : World) : GrB S w w := ⟨rfl, rfl, rfl, Nat.le_refl _, fun _ _ _ => rfl⟩
theorem GrB.trans {S : Nat → Prop} {a b c : World} (h : GrB S a b) (k : GrB S b c) : GrB S a c := ⟨k.os.trans h.os, k.tape.trans h.tape, k.output.trans h.output, Nat.le_trans h.size k.size, fun i hi hs => (k.block i (Nat.lt_of_lt_of_le hi h.size) hs).trans (h.block i hi hs)⟩
theorem GrB.of_grown {S : Nat → Prop} {w w' : World} {r : Option Nat} (h : w.grownBy w' r) (hr : ∀ k, r = some k → S k) : GrB S w w' := ⟨h.os, h.tape, h.output, h.size, fun k hk hs => h.block k hk (fun e => hs (hr k e.symm))⟩
theorem GrB.of_le {S : Nat → Prop} {w w' : World} (h : Le w w') : GrB S w w' := ⟨h.os, h.tape, h.output, h.size, fun k hk _ => Below.block h k hk⟩
theorem Le.grB {S : Nat → Prop} {a w w' : World} (h : Le a w) (hg : GrB S w w') (hr : ∀ k, S k → a.heap.size ≤ k) : Le a w' :=
  ⟨hg.os.trans h.os, hg.tape.trans h.tape, hg.output.trans h.output, Nat.le_trans h.size hg.size, fun k hk => (hg.block k (Nat.lt_of_lt_of_le hk h.size) (fun e => by have := hr k e; omega)).trans (h.block k hk)⟩
theorem GrB.cell {S : Nat → Prop} {w w' : World} (hg : GrB S w w') {b o : Nat} {v : Value} (h : w.cell? ⟨b, o, none⟩ = some v) (hb : ¬ S b) : w'.cell? ⟨b, o, none⟩ = some v :=
  (World.cell?_of_block (a := ⟨b, o, none⟩) (hg.block b (World.block_lt_of_cell? w ⟨b, o, none⟩ h) hb)).trans h
theorem own_grB {S : Nat → Prop} {w w' : World} {base : Nat} {e : TypeId} {size : Nat} {v : Value} {n : Nat} {xs : List Value} (h : w.ownsRow base e size v n xs) (hg : GrB S w w') (hne : ∀ k, v.ownBlock = some k → ¬ S k) : w'.ownsRow base e size v n xs := by
  refine ⟨h.1, ?_⟩
  rcases h.2 with hn | ⟨g, cap, cur, rfl, hb, hgg, rest⟩
  · exact .inl hn
  · refine .inr ⟨g, cap, cur, rfl, hb, ?_, rest⟩
    rw [hg.block g (Array.getElem?_eq_some_iff.1 hgg).1 (hne g rfl)]
    exact hgg
theorem Sl.grB {α : Type} [Enc α] {S : Nat → Prop} {w w' : World} {A : Option Addr} {n cap : Nat} {xs : List α} (h : Sl w A n cap xs) (hg : GrB S w w') (hne : 0 < n → ∀ a, A = some a → ¬ S a.block) : Sl w' A n cap xs :=
  ⟨h.len, h.cap_, h.max, h.ok, fun hn => by
    obtain ⟨b, off, e, hlt, hc⟩ := h.at_ hn
    exact ⟨b, off, e, Nat.lt_of_lt_of_le hlt hg.size, fun j u hu => (World.cell?_of_block (a := ⟨b, off + j, none⟩) (hg.block b hlt (hne hn _ e))).trans (hc j u hu)⟩⟩
/-- what the caller owns of fresh rows -/
structure OwL {α : Type} [Enc α] (TT T : TypeId) (w0 w : World) (v : Value) (hs : List Hdr) (L : List (List α)) : Prop where
  top : Owd TT w0 w v hs
  len : hs.length = L.length
  each : ∀ (i : Nat) (h : Hdr) (l : List α), hs[i]? = some h → L[i]? = some l → Owd T w0 w h.v l
  apart : ∀ (i j : Nat) (h k : Hdr), hs[i]? = some h → hs[j]? = some k → i ≠ j → Apart h.v k.v
  off : ∀ (i : Nat) (h : Hdr), hs[i]? = some h → Apart h.v v
section
variable {α : Type} [Enc α] {TT T : TypeId} {w0 w w' : World} {v : Value} {hs : List Hdr} {L : List (List α)}
theorem OwL.le (h : OwL TT T w0 w v hs L) (hl : Le w w') : OwL TT T w0 w' v hs L := ⟨h.top.le hl, h.len, fun i x l e f => (h.each i x l e f).le hl, h.apart, h.off⟩
theorem OwL.mono {w00 : World} (h : OwL TT T w0 w v hs L) (hl : Le w00 w0) : OwL TT T w00 w v hs L := ⟨h.top.mono hl, h.len, fun i x l e f => (h.each i x l e f).mono hl, h.apart, h.off⟩
theorem OwL.nil (TT T : TypeId) (w0 w : World) : OwL TT T w0 w (.slice none 0 0) [] ([] : List (List α)) := ⟨Owd.nil _ _ _, rfl, fun i h l e => by simp at e, fun i j h k e => by simp at e, fun i h e => by simp at e⟩
theorem OwL.snoc {v' : Value} {h : Hdr} {l : List α} (O : OwL TT T w0 w v hs L) (hx : Owd T w0 w h.v l) (h1 : Apart h.v v) (h2 : ∀ (i : Nat) (k : Hdr), hs[i]? = some k → Apart k.v h.v)
    (row : w'.ownsRow w0.heap.size TT 1 v' (hs.length + 1) ((hs ++ [h]).flatMap Enc.cells)) (hg : w.grownBy w' v.ownBlock) (hat : v'.ownBlock = v.ownBlock ∨ v'.ownBlock = some w.heap.size) : OwL TT T w0 w' v' (hs ++ [h]) (L ++ [l]) := by
  have hlen := O.len
  have hal : ∀ (i : Nat) (k : Hdr), (hs ++ [h])[i]? = some k → (i < hs.length ∧ hs[i]? = some k) ∨ (i = hs.length ∧ k = h) := fun i k e => by
    rcases Nat.lt_or_ge i hs.length with hi | hi
    · rw [List.getElem?_append_left hi] at e; exact .inl ⟨hi, e⟩
    · rw [List.getElem?_append_right hi] at e
      have h0 := (List.getElem?_eq_some_iff.1 e).1
      simp at h0
      have e2 : i = hs.length := by omega
      rw [e2, Nat.sub_self] at e
      exact .inr ⟨e2, by simpa using e.symm⟩
  have keep : ∀ (k : Hdr) (m : List α), Owd T w0 w k.v m → Apart k.v v → Owd T w0 w' k.v m := fun k m o a => ⟨o.row.kept hg a, o.ok⟩
  have offn : ∀ (k : Hdr) (m : List α), Owd T w0 w k.v m → Apart k.v v → Apart k.v v' := fun k m o a => by
    rcases hat with e | e
    · unfold Apart at a ⊢; rw [e]; exact a
    · refine .inr fun e2 => ?_
      have := (o.row.lt w.heap.size (by rw [e2]; exact e)).2
      omega
  refine ⟨⟨by rw [List.length_append]; exact row, fun _ _ => trivial⟩, by simp [hlen], ?_, ?_, ?_⟩
  · intro i k m e f
    rcases hal i k e with ⟨hi, e⟩ | ⟨rfl, rfl⟩
    · rw [List.getElem?_append_left (by omega)] at f
      exact keep k m (O.each i k m e f) (O.off i k e)
    · rw [List.getElem?_append_right (by omega), hlen, Nat.sub_self] at f
      obtain rfl : m = l := by simpa using f.symm
      exact keep k m hx h1
  · intro i j k k' e f hij
    rcases hal i k e with ⟨hi, e2⟩ | ⟨rfl, rfl⟩
    · rcases hal j k' f with ⟨hj, f2⟩ | ⟨rfl, rfl⟩
      · exact O.apart i j k k' e2 f2 hij
      · exact h2 i k e2
    · rcases hal j k' f with ⟨hj, f2⟩ | ⟨rfl, rfl⟩
      · exact (h2 j k' f2).symm
      · exact absurd rfl hij
  · intro i k e
    rcases hal i k e with ⟨hi, e⟩ | ⟨rfl, rfl⟩
    · exact offn k (L[i]'(by omega)) (O.each i k _ e (List.getElem?_eq_getElem (by omega))) (O.off i k e)
    · exact offn k l hx h1
theorem apart_lt {v u : Value} {m : Nat} (h : ∀ k, v.ownBlock = some k → k < m) (k : ∀ k, u.ownBlock = some k → m ≤ k) : Apart v u := by
  cases e : v.ownBlock with
  | none => exact .inl e
  | some q =>
    refine .inr fun e2 => ?_
    have h1 := h q e
    have h2 := k q (by rw [← e2]; exact e)
    omega
/-- a row that comes later is apart -/
theorem OwL.later {u : Value} {l : List α} {wc w2 : World} (O : OwL TT T w0 w v hs L) (hw : w.heap.size ≤ wc.heap.size) (hx : Owd T wc w2 u l) : Apart u v ∧ ∀ (i : Nat) (k : Hdr), hs[i]? = some k → Apart k.v u := by
  have hge : ∀ k, u.ownBlock = some k → w.heap.size ≤ k := fun k e => by have := (hx.row.lt k e).1; omega
  refine ⟨(apart_lt (fun k e => (O.top.row.lt k e).2) hge).symm, fun i k e => ?_⟩
  have hi := (List.getElem?_eq_some_iff.1 e).1
  have := O.each i k (L[i]'(by have := O.len; omega)) e (List.getElem?_eq_getElem (by have := O.len; omega))
  exact apart_lt (fun k e => (this.row.lt k e).2) hge
theorem OwL.grown {b : Nat} (h : OwL TT T w0 w v hs L) (hg : w.grownBy w' (some b)) (hb : b < w0.heap.size ∨ w.heap.size ≤ b) : OwL TT T w0 w' v hs L := by
  have kp : ∀ {β : Type} [Enc β] (U : TypeId) (u : Value) (l : List β), Owd U w0 w u l → Owd U w0 w' u l := fun U u l o => ⟨o.row.kept hg (by
    cases e : u.ownBlock with
    | none => exact .inl rfl
    | some q =>
      refine .inr fun e2 => ?_
      injection e2 with e2
      have := o.row.lt q e
      omega), o.ok⟩
  exact ⟨kp _ _ _ h.top, h.len, fun i x l e f => kp _ _ _ (h.each i x l e f), h.apart, h.off⟩
theorem OwL.rd (hp : 0 < Enc.size α) (h : OwL TT T w0 w v hs L) : Rd2 w hs L := ⟨h.len, fun i x l e f => Sl.of_own (by
  have o := h.each i x l e f
  obtain ⟨A, c, e2⟩ := own_form o.row
  have e3 : x.n = l.length := by have e4 : Value.slice x.a x.n x.c = .slice A l.length c := e2; injection e4
  have e5 := o.row
  unfold Hdr.v at e5
  rw [e3] at e5 ⊢
  exact e5) rfl hp (h.each i x l e f).ok⟩
theorem OwL.form (h : OwL TT T w0 w v hs L) : ∃ A c, v = .slice A L.length c ∧ Sl w A L.length c hs := by
  obtain ⟨A, c, e, S, -⟩ := h.top.form (by decide)
  rw [h.len] at e S
  exact ⟨A, c, e, S⟩
theorem OwL.hn (h : OwL TT T w0 w v hs L) {i : Nat} {x : Hdr} {l : List α} (e : hs[i]? = some x) (f : L[i]? = some l) : x.n = l.length := by
  obtain ⟨A, c, e2⟩ := own_form (h.each i x l e f).row
  have e4 : Value.slice x.a x.n x.c = .slice A l.length c := e2
  injection e4
/-- one of the rows is written -/
theorem OwL.set_ {k : Nat} {h : Hdr} {l' : List α} (O : OwL TT T w0 w v hs L) (hk : hs[k]? = some h) (row : Owd T w0 w' h.v l') (hg : w.grownBy w' h.v.ownBlock) : OwL TT T w0 w' v hs (L.set k l') := by
  have kp : ∀ {β : Type} [Enc β] (U : TypeId) (u : Value) (l : List β), Owd U w0 w u l → Apart u h.v → Owd U w0 w' u l := fun U u l o a => ⟨o.row.kept hg a, o.ok⟩
  refine ⟨kp _ _ _ O.top (O.off k h hk).symm, by simp [O.len], fun i x l e f => ?_, O.apart, O.off⟩
  by_cases hik : i = k
  · subst hik
    rw [hk] at e; injection e with e; subst e
    have hi := (List.getElem?_eq_some_iff.1 f).1
    rw [List.getElem?_set_self (by simpa using hi)] at f
    injection f with f; subst f
    exact row
  · rw [List.getElem?_set_ne (fun e => hik e.symm)] at f
    exact kp _ _ _ (O.each i x l e f) (O.apart i k x h e hk hik)
/-- a new row is put in a place -/
theorem OwL.put {k : Nat} {h : Hdr} {l : List α} (O : OwL TT T w0 w v hs L) (hk : k < hs.length) (hx : Owd T w0 w' h.v l) (h1 : Apart h.v v) (h2 : ∀ (i : Nat) (k : Hdr), hs[i]? = some k → Apart k.v h.v)
    (row : w'.ownsRow w0.heap.size TT 1 v hs.length ((hs.set k h).flatMap Enc.cells)) (hg : w.grownBy w' v.ownBlock) : OwL TT T w0 w' v (hs.set k h) (L.set k l) := by
  have hlen := O.len
  have hal : ∀ (i : Nat) (x : Hdr), (hs.set k h)[i]? = some x → (i ≠ k ∧ hs[i]? = some x) ∨ (i = k ∧ x = h) := fun i x e => by
    by_cases hik : i = k
    · subst hik
      rw [List.getElem?_set_self hk] at e
      exact .inr ⟨rfl, by injection e with e; exact e.symm⟩
    · rw [List.getElem?_set_ne (fun e => hik e.symm)] at e
      exact .inl ⟨hik, e⟩
  refine ⟨⟨by rw [List.length_set]; exact row, fun _ _ => trivial⟩, by simp [hlen], ?_, ?_, ?_⟩
  · intro i x m e f
    rcases hal i x e with ⟨hi, e⟩ | ⟨rfl, rfl⟩
    · rw [List.getElem?_set_ne (fun e => hi e.symm)] at f
      have o := O.each i x m e f
      exact ⟨o.row.kept hg (O.off i x e), o.ok⟩
    · rw [List.getElem?_set_self (by omega)] at f
      injection f with f; subst f; exact hx
  · intro i j x y e f hij
    rcases hal i x e with ⟨hi, e2⟩ | ⟨rfl, rfl⟩
    · rcases hal j y f with ⟨hj, f2⟩ | ⟨rfl, rfl⟩
      · exact O.apart i j x y e2 f2 hij
      · exact h2 i x e2
    · rcases hal j y f with ⟨hj, f2⟩ | ⟨rfl, rfl⟩
      · exact (h2 j y f2).symm
      · exact absurd rfl hij
  · intro i x e
    rcases hal i x e with ⟨hi, e⟩ | ⟨rfl, rfl⟩
    · exact O.off i x e
    · exact h1
end
/-- what reads as lists of lists, all of it below block m -/
structure LsR {α : Type} [Enc α] (m : Nat) (w : World) (A : Option Addr) (n c : Nat) (hs : List Hdr) (L : List (List α)) : Prop where
  top : Sl w A n c hs
  rd : Rd2 w hs L
  topU : 0 < n → ∀ a, A = some a → a.block < m
  eachU : ∀ (i : Nat) (h : Hdr), hs[i]? = some h → 0 < h.n → ∀ a, h.a = some a → a.block < m
section
variable {α : Type} [Enc α] {m : Nat} {w w' : World} {A : Option Addr} {n c : Nat} {hs : List Hdr} {L : List (List α)}
theorem LsR.le (h : LsR m w A n c hs L) (hl : Le w w') : LsR m w' A n c hs L := ⟨h.top.le hl, h.rd.le hl, h.topU, h.eachU⟩
theorem LsR.grB {S : Nat → Prop} (h : LsR m w A n c hs L) (hg : GrB S w w') (hs' : ∀ k, S k → m ≤ k) : LsR m w' A n c hs L :=
  ⟨h.top.grB hg (fun hn a e s => by have := h.topU hn a e; have := hs' _ s; omega), ⟨h.rd.len, fun i x l e f => (h.rd.each i x l e f).grB hg (fun hn a e2 s => by have := h.eachU i x e hn a e2; have := hs' _ s; omega)⟩, h.topU, h.eachU⟩
theorem OwL.lsR {TT T : TypeId} {w0 : World} (hp : 0 < Enc.size α) (h : OwL TT T w0 w (.slice A n c) hs L) : LsR w.heap.size w A n c hs L := by
  obtain ⟨A', c', e, S⟩ := h.form
  injection e with e1 e2 e3
  subst e1; subst e2; subst e3
  exact ⟨S, h.rd hp, S.under, fun i x e hn a e2 => ((h.rd hp).each i x (L[i]'(by have := h.len; have := (List.getElem?_eq_some_iff.1 e).1; omega)) e (List.getElem?_eq_getElem _)).under hn a e2⟩
end
theorem LsR.grown {α : Type} [Enc α] {m : Nat} {w w' : World} {A : Option Addr} {n c : Nat} {hs : List Hdr} {L : List (List α)} {b : Nat} (h : LsR m w A n c hs L) (hg : w.grownBy w' (some b)) (hb : m ≤ b) : LsR m w' A n c hs L :=
  h.grB (S := fun k => k = b) (GrB.of_grown hg (fun k e => by injection e with e; exact e.symm)) (fun k e => by omega)
theorem OwL.blk {α : Type} [Enc α] {TT T : TypeId} {w0 w : World} {v : Value} {hs : List Hdr} {L : List (List α)} (h : OwL TT T w0 w v hs L) : ∀ k, (∃ x ∈ hs, x.v.ownBlock = some k) → w0.heap.size ≤ k ∧ k < w.heap.size := by
  rintro k ⟨x, hx, e⟩
  obtain ⟨i, hi, rfl⟩ := List.getElem_of_mem hx
  exact (h.each i _ (L[i]'(by have := h.len; omega)) (List.getElem?_eq_getElem hi) (List.getElem?_eq_getElem _)).row.lt k e
def tot {α : Type} (L : List (List α)) : Nat := (L.map List.length).sum
theorem tot_take_succ {α : Type} {L : List (List α)} {k : Nat} (h : k < L.length) : tot (L.take (k + 1)) = tot (L.take k) + L[k].length := by
  unfold tot
  rw [List.take_succ_eq_append_getElem h, List.map_append, List.sum_append]; simp
theorem tot_take_le {α : Type} (L : List (List α)) (k : Nat) : tot (L.take k) ≤ tot L := by
  have : tot L = tot (L.take k) + tot (L.drop k) := by unfold tot; rw [← List.sum_append, ← List.map_append, List.take_append_drop]
  omega
theorem tot_get_le {α : Type} {L : List (List α)} {k : Nat} (h : k < L.length) : L[k].length ≤ tot L := by
  have := tot_take_succ h
  have := tot_take_le L (k + 1)
  omega
end

section
theorem infoPart : (Try.prog.info? 70).map (fun i => (i.zero, i.size, i.bytes)) = some (some (.agg #[.int .i64 0, .bool false, .int .i64 0, .int .i64 0]), 4, 32) := by kernel_rfl
theorem toPart_any (x : Prt) (w : World) :
    Calls Try.prog 51 #[.agg #[.int .i64 x.depth, .bool x.group, .int .i64 x.cls, .int .i64 x.code]] w fun e w' => e = .returned (.agg #[.int .i64 x.depth, .bool x.group, .int .i64 x.cls, .int .i64 x.code]) ∧ Le w w' := by
  go_enter Try.func51, Try.ntmps51
  go_wp2
  exact bodyPost_ret (v := .agg #[.int .i64 x.depth, .bool x.group, .int .i64 x.cls, .int .i64 x.code]) (by simp [results, Try.results51, go_sem]) rfl ⟨rfl, ((Le.new w _).alloc _).alloc _⟩

set_option maxRecDepth 100000 in
theorem toPartS_any (A : Option Addr) (n cap : Nat) (xs : List Prt) (w : World) (hR : Sl w A n cap xs) (hn : n ≤ 1048576) :
    Calls Try.prog 15 #[.slice A n cap] w fun e w' => e = .returned (.slice (some ⟨w.heap.size, 0, none⟩) n n) ∧ w'.ownsRow w.heap.size 70 4 (.slice (some ⟨w.heap.size, 0, none⟩) n n) n (xs.flatMap Enc.cells) ∧ Le w w' := by
  obtain rfl := hR.len
  obtain ⟨i0, hi, hz0, hz1, hz2⟩ := info_parts infoPart
  have hb2 : i0.bytes * xs.length ≤ 281474976710656 := by rw [hz2]; omega
  go_enter Try.func15, Try.ntmps15
  go_wp2_with (refine wpList_make_full _ rfl _ _ 34 rfl w.heap.size 70 i0 _ 4 Try.underlying34 hi hz0 hz1 .i64 .i64 _ _ xs.length rfl rfl rfl rfl hb2 (by unfold maxLen; omega) (Nat.le_refl _) ?_; intro w1 hown1 hg1)
  have hl1 := (Le.refl w).grown hg1 (by intro k hk; cases hk)
  go_loopw [4] (fun i wr => ∃ k : Nat, ∃ r : List Value, k ≤ xs.length ∧ i = .int .i64 k ∧ r.length = (xs.length - k) * 4 ∧ wr.ownsRow w.heap.size 70 4 (.slice (some ⟨w.heap.size, 0, none⟩) xs.length xs.length) xs.length ((xs.take k).flatMap Enc.cells ++ r) ∧ Le w wr) (fun i _ => xs.length - (intOf i).toNat)
  case atStart => exact ⟨0, _, Nat.zero_le _, rfl, by simp [madeCells], hown1, hl1⟩
  case round =>
    obtain ⟨k, r, hk, rfl, hr, hown, hle⟩ := hrel
    have hRr := hR.le hle
    clear hR hown1 hg1 hl1
    by_cases hlt : k < xs.length
    · obtain ⟨b, off, rfl, hb, hcell0, hcell1, hcell2, hcell3, _⟩ := hRr.prt_at hlt
      match r, hr with
      | [], h => simp at h; omega
      | [_], h => simp at h; omega
      | [_, _], h => simp at h; omega
      | [_, _, _], h => simp at h; omega
      | r0 :: r1 :: r2 :: r3 :: rr, hr =>
      have hfl : ((xs.take k).flatMap (Enc.cells (α := Prt))).length = k * 4 := by rw [flat_len, List.length_take]; show _ * 4 = _; rw [Nat.min_eq_left (by omega)]
      go_wp2_with fail
      refine (toPart_any xs[k] _).mono ?_
      rintro e w2 ⟨rfl, hw2⟩
      have hown2 := own_le hown hw2
      have hc0 : w2.cell? ⟨w.heap.size, k * 4, none⟩ = some r0 := by rw [hown2.cellAt _ (by omega), List.getElem?_append_right (by omega), hfl]; simp
      have hc1 : w2.cell? ⟨w.heap.size, k * 4 + 1, none⟩ = some r1 := by rw [hown2.cellAt _ (by omega), List.getElem?_append_right (by omega), hfl]; simp
      have hc2 : w2.cell? ⟨w.heap.size, k * 4 + 2, none⟩ = some r2 := by rw [hown2.cellAt _ (by omega), List.getElem?_append_right (by omega), hfl]; simp
      have hc3 : w2.cell? ⟨w.heap.size, k * 4 + 3, none⟩ = some r3 := by rw [hown2.cellAt _ (by omega), List.getElem?_append_right (by omega), hfl]; simp
      have hf0 := hown2.frozenAt (k * 4)
      have hf1 := hown2.frozenAt (k * 4 + 1)
      have hf2 := hown2.frozenAt (k * 4 + 2)
      have hf3 := hown2.frozenAt (k * 4 + 3)
      go_wp2
      go_roundw
      case rel =>
        refine ⟨k + 1, rr, by omega, by go_num, by simp at hr; omega, ?_, (hle.trans hw2).setCell (Nat.le_refl _) _ |>.setCell (Nat.le_refl _) _ |>.setCell (Nat.le_refl _) _ |>.setCell (Nat.le_refl _) _⟩
        have h1 := ((((hown2.stored (k * 4) (.int .i64 xs[k].depth)).1.stored (k * 4 + 1) (.bool xs[k].group)).1.stored (k * 4 + 2) (.int .i64 xs[k].cls)).1.stored (k * 4 + 3) (.int .i64 xs[k].code)).1
        have e : (xs.take (k + 1)).flatMap Enc.cells ++ rr = ((((((xs.take k).flatMap Enc.cells ++ r0 :: r1 :: r2 :: r3 :: rr).set (k * 4) (.int .i64 xs[k].depth)).set (k * 4 + 1) (.bool xs[k].group)).set (k * 4 + 2) (.int .i64 xs[k].cls)).set (k * 4 + 3) (.int .i64 xs[k].code)) := by
          rw [List.take_succ_eq_append_getElem hlt, List.flatMap_append, List.set_append_right _ _ (by omega), List.set_append_right _ _ (by omega), List.set_append_right _ _ (by omega), List.set_append_right _ _ (by omega), hfl]
          simp [Enc.cells]
        rw [e]; exact h1
      case measure => simp [intOf]; omega
    · have hk' : k = xs.length := by omega
      have hr0 : r = [] := List.eq_nil_of_length_eq_zero (by rw [hr, hk']; simp)
      have HO : Hid (wr.ownsRow w.heap.size 70 4 (.slice (some ⟨w.heap.size, 0, none⟩) xs.length xs.length) xs.length (xs.flatMap Enc.cells)) := by
        show World.ownsRow _ _ _ _ _ _ _
        rw [hk', hr0] at hown; simpa using hown
      clear hk' hr0 hr hown
      go_wp2
      go_ret
      exact ⟨rfl, HO.out, hle⟩

theorem eqPart_self (x : Prt) (w : World) : Calls Try.prog 57 #[.agg #[.int .i64 x.depth, .bool x.group, .int .i64 x.cls, .int .i64 x.code], .agg #[.int .i64 x.depth, .bool x.group, .int .i64 x.cls, .int .i64 x.code]] w fun e w' => e = .returned (.bool true) ∧ Le w w' := by
  go_enter Try.func57, Try.ntmps57
  go_wp2
  go_ret
  exact ⟨rfl, (Le.new w _).alloc _⟩

theorem eqPartS_self (A B : Option Addr) (n c d : Nat) (xs : List Prt) (w : World) (hR : Sl w A n c xs) (hS : Sl w B n d xs) :
    Calls Try.prog 19 #[.slice A n c, .slice B n d] w fun e w' => e = .returned (.bool true) ∧ Le w w' := by
  obtain rfl := hR.len
  have hm := hR.n_le
  have hb : ((xs.length : Int) != (xs.length : Int)) = false := by simp
  go_enter Try.func19, Try.ntmps19
  go_wp2
  go_loopw [5] (fun i wr => ∃ k : Nat, k ≤ xs.length ∧ i = .int .i64 k ∧ Le w wr) (fun i _ => xs.length - (intOf i).toNat)
  case atStart => exact ⟨0, Nat.zero_le _, rfl, Le.refl _⟩
  case round =>
    obtain ⟨k, hk, rfl, hle⟩ := hrel
    have hRr := hR.le hle
    have hSr := hS.le hle
    clear hR hS
    by_cases hlt : k < xs.length
    · obtain ⟨b, off, rfl, hb, hcell0, hcell1, hcell2, hcell3, _⟩ := hRr.prt_at hlt
      obtain ⟨b2, off2, rfl, hb2, hdell0, hdell1, hdell2, hdell3, _⟩ := hSr.prt_at hlt
      have E0 := cell_ext hb hcell0
      have E1 := cell_ext hb hcell1
      have E2 := cell_ext hb hcell2
      have E3 := cell_ext hb hcell3
      have F0 := cell_ext hb2 hdell0
      have F1 := cell_ext hb2 hdell1
      have F2 := cell_ext hb2 hdell2
      have F3 := cell_ext hb2 hdell3
      go_wp2_with fail
      refine wp_region_ext (by kernel_rfl) (by kernel_rfl) ?_
      repeat (go_big_quiet_step (first | (go_at_call 57; exact Calls.ext_of (eqPart_self xs[k] _))))
      refine wpQuiet_nil ?_
      intro _ hw'
      obtain ⟨g, rfl⟩ := hw'
      have hw1 := Le.ext wr g
      generalize wr.ext g = W2 at *
      go_wp2
      go_roundw
      case rel => exact ⟨k + 1, by omega, by go_num, hle.trans hw1⟩
      case measure => simp [intOf]; omega
    · go_wp2
      go_ret
      exact ⟨rfl, hle⟩

def mPrt (k : Int) (i : Nat) : Prt := ⟨k + 4 * i, ((k + 4 * i + 1) % 3 == 0), k + 4 * i + 1 + 1, k + 4 * i + 1 + 1 + 1⟩

set_option maxHeartbeats 1000000 in
set_option maxRecDepth 100000 in
theorem markPartS_row (g n c : Nat) (xs : List Value) (q : Int) (w : World) (base : Nat) (hR : w.ownsRow base 70 4 (.slice (some ⟨g, 0, none⟩) n c) n xs) (h0 : 1 ≤ q) (h1 : q ≤ 1000000000) (hn : n ≤ 1048576) :
    Calls Try.prog 21 #[.slice (some ⟨g, 0, none⟩) n c, .int .i64 q] w fun e w' => e = .returned (.int .i64 (q + 4 * n)) ∧ w'.ownsRow base 70 4 (.slice (some ⟨g, 0, none⟩) n c) n (((List.range n).map (mPrt q)).flatMap Enc.cells) ∧ w.grownBy w' (some g) := by
  go_enter Try.func21, Try.ntmps21
  go_wp2
  have hin := hR.1
  go_loopw [1, 5] (fun z i wr => ∃ k : Nat, ∃ r : List Value, k ≤ n ∧ i = .int .i64 k ∧ z = .int .i64 (q + 4 * k) ∧ r.length = (n - k) * 4 ∧ wr.ownsRow base 70 4 (.slice (some ⟨g, 0, none⟩) n c) n (((List.range k).map (mPrt q)).flatMap Enc.cells ++ r) ∧ w.grownBy wr (some g)) (fun _ i _ => n - (intOf i).toNat)
  case atStart => exact ⟨0, xs, Nat.zero_le _, rfl, by simp, by omega, by simpa using hR, World.grownBy.refl w _⟩
  case round =>
    obtain ⟨k, r, hk, rfl, rfl, hr, hown, hgr⟩ := hrel
    clear hR hin
    by_cases hlt : k < n
    · match r, hr with
      | [], h => simp at h; omega
      | [_], h => simp at h; omega
      | [_, _], h => simp at h; omega
      | [_, _, _], h => simp at h; omega
      | r0 :: r1 :: r2 :: r3 :: rr, hr =>
      have hfl : ((((List.range k).map (mPrt q)).flatMap (Enc.cells (α := Prt)))).length = k * 4 := by rw [flat_len, List.length_map, List.length_range]; rfl
      have hc0 : wr.cell? ⟨g, k * 4, none⟩ = some r0 := by rw [hown.cellAt _ (by omega), List.getElem?_append_right (by omega), hfl]; simp
      have hc1 : wr.cell? ⟨g, k * 4 + 1, none⟩ = some r1 := by rw [hown.cellAt _ (by omega), List.getElem?_append_right (by omega), hfl]; simp
      have hc2 : wr.cell? ⟨g, k * 4 + 2, none⟩ = some r2 := by rw [hown.cellAt _ (by omega), List.getElem?_append_right (by omega), hfl]; simp
      have hc3 : wr.cell? ⟨g, k * 4 + 3, none⟩ = some r3 := by rw [hown.cellAt _ (by omega), List.getElem?_append_right (by omega), hfl]; simp
      have hf0 := hown.frozenAt (k * 4)
      have hf1 := hown.frozenAt (k * 4 + 1)
      have hf2 := hown.frozenAt (k * 4 + 2)
      have hf3 := hown.frozenAt (k * 4 + 3)
      have HFL := Lib.hid hfl; clear hfl
      go_wp2
      go_roundw
      case rel =>
        refine ⟨k + 1, rr, by omega, by go_num, by congr 1; omega, by simp at hr; omega, ?_, ?_⟩
        · have h1 := ((((hown.stored (k * 4) (.int .i64 (q + 4 * k))).1.stored (k * 4 + 1) (.bool ((q + 4 * k + 1) % 3 == 0))).1.stored (k * 4 + 2) (.int .i64 (q + 4 * k + 1 + 1))).1.stored (k * 4 + 3) (.int .i64 (q + 4 * k + 1 + 1 + 1))).1
          have e : ((List.range (k + 1)).map (mPrt q)).flatMap Enc.cells ++ rr = (((((((List.range k).map (mPrt q)).flatMap Enc.cells ++ r0 :: r1 :: r2 :: r3 :: rr).set (k * 4) (.int .i64 (q + 4 * k))).set (k * 4 + 1) (.bool ((q + 4 * k + 1) % 3 == 0))).set (k * 4 + 2) (.int .i64 (q + 4 * k + 1 + 1))).set (k * 4 + 3) (.int .i64 (q + 4 * k + 1 + 1 + 1))) := by
            rw [List.set_append_right _ _ (by have := HFL.out; omega), List.set_append_right _ _ (by have := HFL.out; omega), List.set_append_right _ _ (by have := HFL.out; omega), List.set_append_right _ _ (by have := HFL.out; omega), HFL.out, List.range_succ, List.map_append, List.flatMap_append]
            simp [Enc.cells, mPrt]
          rw [e]; exact h1
        · exact (gx_set (gx_set (gx_set (gx_set hgr _) _) _) _)
      case measure => simp [intOf]; omega
    · have he : k = n := by omega
      have hr0 : r = [] := List.eq_nil_of_length_eq_zero (by rw [hr, he]; simp)
      subst he
      have HO : Hid (wr.ownsRow base 70 4 (.slice (some ⟨g, 0, none⟩) k c) k (((List.range k).map (mPrt q)).flatMap Enc.cells)) := by
        show World.ownsRow _ _ _ _ _ _ _
        rw [hr0] at hown; simpa using hown
      clear hown hr0 hr
      go_wp2
      go_ret
      exact ⟨rfl, HO.out, hgr⟩

theorem markPartS_any (A : Option Addr) (n c : Nat) (xs : List Value) (q : Int) (w : World) (base : Nat) (hR : w.ownsRow base 70 4 (.slice A n c) n xs) (h0 : 1 ≤ q) (h1 : q ≤ 1000000000) (hn : n ≤ 1048576) :
    Calls Try.prog 21 #[.slice A n c, .int .i64 q] w fun e w' => e = .returned (.int .i64 (q + 4 * n)) ∧ w'.ownsRow base 70 4 (.slice A n c) n (((List.range n).map (mPrt q)).flatMap Enc.cells) ∧ w.grownBy w' (Value.slice A n c).ownBlock := by
  rcases hR.2 with ⟨h, h0'⟩ | ⟨g, c', _, h, _⟩
  · simp only [Value.slice.injEq] at h
    obtain ⟨rfl, rfl, rfl⟩ := h
    go_enter Try.func21, Try.ntmps21
    go_wp2
    refine wp_loop_rounds 1 ?_
    rw [rounds_succ]
    go_wp2
    go_ret
    exact ⟨by simp, World.ownsRow_nil w base 70 4, World.grownBy.refl w _⟩
  · simp only [Value.slice.injEq, true_and] at h
    obtain ⟨rfl, rfl⟩ := h
    exact markPartS_row g n c xs q w base hR h0 h1 hn

theorem mPrt_ok {q : Int} (h0 : 1 ≤ q) (h1 : q ≤ 1000000000) {n : Nat} (hn : n ≤ 1048576) : ∀ x ∈ (List.range n).map (mPrt q), Enc.ok x := by
  intro x hx
  simp at hx
  obtain ⟨i, hi, rfl⟩ := hx
  exact ⟨by show _ ≤ _; simp only [mPrt]; omega, by show _ ≤ _; simp only [mPrt]; omega, by show _ ≤ _; simp only [mPrt]; omega, by show _ ≤ _; simp only [mPrt]; omega, by show _ ≤ _; simp only [mPrt]; omega, by show _ ≤ _; simp only [mPrt]; omega⟩

theorem heldPartS_any (A : Option Addr) (n c : Nat) (q : Int) (w : World) (hR : Sl w A n c ((List.range n).map (mPrt q))) (h0 : 1 ≤ q) (h1 : q ≤ 1000000000) (hn : n ≤ 1048576) :
    Calls Try.prog 28 #[.slice A n c, .int .i64 q] w fun e w' => e = .returned (.int .i64 (q + 4 * n)) ∧ Le w w' := by
  have hl : ((List.range n).map (mPrt q)).length = n := by simp
  have HL := Lib.hid hl; clear hl
  go_enter Try.func28, Try.ntmps28
  go_wp2
  go_loopw [1, 5] (fun z i wr => ∃ k : Nat, k ≤ n ∧ i = .int .i64 k ∧ z = .int .i64 (q + 4 * k) ∧ Le w wr) (fun _ i _ => n - (intOf i).toNat)
  case atStart => exact ⟨0, Nat.zero_le _, rfl, by simp, Le.refl _⟩
  case round =>
    obtain ⟨k, hk, rfl, rfl, hle⟩ := hrel
    have hRr := hR.le hle
    clear hR
    by_cases hlt : k < n
    · obtain ⟨b, off, rfl, hb, hcell0, hcell1, hcell2, hcell3, _⟩ := hRr.prt_at (k := k) (by rw [HL.out]; exact hlt)
      have hx : ((List.range n).map (mPrt q))[k]'(by rw [HL.out]; exact hlt) = mPrt q k := by simp
      rw [hx] at hcell0 hcell1 hcell2 hcell3
      simp only [mPrt] at hcell0 hcell1 hcell2 hcell3
      clear hx
      go_wp2
      go_roundw
      case rel => exact ⟨k + 1, by omega, by go_num, by congr 1; omega, hle⟩
      case measure => simp [intOf]; omega
    · have he : k = n := by omega
      subst he
      go_wp2
      go_ret
      exact ⟨rfl, hle⟩

theorem szPartS_any (A : Option Addr) (n cap : Nat) (xs : List Prt) (left : Int) (w : World) (hR : Sl w A n cap xs) (h0 : 0 ≤ left) (h1 : left ≤ 1048576) :
    Calls Try.prog 12 #[.slice A n cap, .int .i64 left] w (SzOut left n w) := by
  have hm := hR.n_le
  by_cases h : left - n < 0
  · go_enter Try.func12, Try.ntmps12
    go_wp2
    go_ret
    exact ⟨-1, rfl, .inl rfl, Le.refl w⟩
  · go_enter Try.func12, Try.ntmps12
    go_wp2
    go_ret
    exact ⟨_, rfl, .inr ⟨by omega, by omega, by omega⟩, Le.refl w⟩
end

section
theorem infoPartSl : (Try.prog.info? 34).map (fun i => (i.zero, i.size, i.bytes)) = some (some (.slice none 0 0), 1, 24) := by kernel_rfl
theorem eqPartSS_self (A B : Option Addr) (n c d : Nat) (hs ks : List Hdr) (L : List (List Prt)) (w : World) (hR : Sl w A n c hs) (hR2 : Rd2 w hs L) (hS : Sl w B n d ks) (hS2 : Rd2 w ks L) :
    Calls Try.prog 32 #[.slice A n c, .slice B n d] w fun e w' => e = .returned (.bool true) ∧ Le w w' := by
  obtain rfl := hR.len
  have hm := hR.n_le
  have hb : ((hs.length : Int) != (hs.length : Int)) = false := by simp
  go_enter Try.func32, Try.ntmps32
  go_wp2
  go_loopw [5] (fun i wr => ∃ k : Nat, k ≤ hs.length ∧ i = .int .i64 k ∧ Le w wr) (fun i _ => hs.length - (intOf i).toNat)
  case atStart => exact ⟨0, Nat.zero_le _, rfl, Le.refl _⟩
  case round =>
    obtain ⟨k, hk, rfl, hle⟩ := hrel
    have hRr := hR.le hle
    have hSr := hS.le hle
    have hRr2 := hR2.le hle
    have hSr2 := hS2.le hle
    clear hR hS hR2 hS2
    by_cases hlt : k < hs.length
    · obtain ⟨b, off, rfl, hb, hcell0⟩ := hRr.hdr_at hlt
      have hltk : k < ks.length := by rw [hSr.len]; exact hlt
      obtain ⟨b2, off2, rfl, hb2, hdell0⟩ := hSr.hdr_at hltk
      have hlL : k < L.length := by rw [← hRr2.len]; exact hlt
      have s1 := hRr2.at_ hlt hlL
      have s2 := hSr2.at_ hltk hlL
      have e1 : hs[k].n = ks[k].n := by rw [← s1.len, ← s2.len]
      rw [← e1] at s2 hdell0
      clear e1
      have E0 := cell_ext hb hcell0
      have F0 := cell_ext hb2 hdell0
      go_wp2_with fail
      refine wp_region_ext (by kernel_rfl) (by kernel_rfl) ?_
      repeat (go_big_quiet_step (first | (go_at_call 19; exact Calls.ext_of (eqPartS_self _ _ _ _ _ L[k] _ (s1.le (Le.ext _ _)) (s2.le (Le.ext _ _))))))
      refine wpQuiet_nil ?_
      intro _ hw'
      obtain ⟨g, rfl⟩ := hw'
      have hw1 := Le.ext wr g
      generalize wr.ext g = W2 at *
      go_wp2
      go_roundw
      case rel => exact ⟨k + 1, by omega, by go_num, hle.trans hw1⟩
      case measure => simp [intOf]; omega
    · go_wp2
      go_ret
      exact ⟨rfl, hle⟩
/-- the marks of lists, from q on -/
def mkL : Int → List (List Prt) → List (List Prt)
  | _, [] => []
  | q, l :: r => (List.range l.length).map (mPrt q) :: mkL (q + 4 * l.length) r
theorem mkL_append : ∀ (A B : List (List Prt)) (q : Int), mkL q (A ++ B) = mkL q A ++ mkL (q + 4 * (tot A : Nat)) B
  | [], B, q => by simp [mkL, tot]
  | l :: A, B, q => by
    rw [List.cons_append, mkL, mkL_append A B, mkL, List.cons_append, show q + 4 * (l.length : Int) + 4 * (tot A : Nat) = q + 4 * (tot (l :: A) : Nat) by unfold tot; simp; omega]
theorem mkL_len : ∀ (A : List (List Prt)) (q : Int), (mkL q A).length = A.length
  | [], _ => rfl
  | l :: A, q => by rw [mkL, List.length_cons, mkL_len A]; rfl
theorem mkL_at {L : List (List Prt)} {k : Nat} (h : k < L.length) (q : Int) : (mkL q L)[k]? = some ((List.range L[k].length).map (mPrt (q + 4 * (tot (L.take k) : Nat)))) := by
  have e : L = L.take k ++ L[k] :: L.drop (k + 1) := by rw [← List.drop_eq_getElem_cons h, List.take_append_drop]
  have hl : (mkL q (L.take k)).length = k := by rw [mkL_len, List.length_take]; omega
  have e2 : mkL q L = mkL q (L.take k) ++ mkL (q + 4 * (tot (L.take k) : Nat)) (L[k] :: L.drop (k + 1)) := by
    rw [← mkL_append, ← e]
  rw [e2, List.getElem?_append_right (by omega), hl, Nat.sub_self]
  rfl
theorem mkL_set {L : List (List Prt)} {k : Nat} (h : k < L.length) (q : Int) : (mkL q (L.take k) ++ L.drop k).set k ((List.range L[k].length).map (mPrt (q + 4 * (tot (L.take k) : Nat)))) = mkL q (L.take (k + 1)) ++ L.drop (k + 1) := by
  have hl : (mkL q (L.take k)).length = k := by rw [mkL_len, List.length_take]; omega
  rw [List.set_append_right _ _ (by omega), hl, Nat.sub_self, List.drop_eq_getElem_cons h, List.set_cons_zero, List.take_succ_eq_append_getElem h, mkL_append, List.append_assoc]
  rfl
set_option maxHeartbeats 1000000 in
theorem markPartSS_any (A : Option Addr) (n c : Nat) (hs : List Hdr) (L : List (List Prt)) (q : Int) (w0 w : World) (O : OwL 34 70 w0 w (.slice A n c) hs L) (h0 : 1 ≤ q) (h1 : q ≤ 100000000) (hn : tot L ≤ 1048576) (hn2 : n ≤ 1048576) :
    Calls Try.prog 35 #[.slice A n c, .int .i64 q] w fun e w' => e = .returned (.int .i64 (q + 4 * (tot L : Nat))) ∧ OwL 34 70 w0 w' (.slice A n c) hs (mkL q L) ∧ GrB (fun k => ∃ h ∈ hs, h.v.ownBlock = some k) w w' := by
  obtain ⟨A', c', e', S, -⟩ := O.top.form (by decide)
  injection e' with e1 e2 e3
  subst e1; subst e2; subst e3
  have hl1 : hs.length ≤ L.length := by have := O.len; omega
  have hl2 : L.length ≤ hs.length := by have := O.len; omega
  go_enter Try.func35, Try.ntmps35
  go_wp2
  go_loopw [1, 5] (fun z i wr => ∃ k : Nat, k ≤ hs.length ∧ i = .int .i64 k ∧ z = .int .i64 (q + 4 * (tot (L.take k) : Nat)) ∧ OwL 34 70 w0 wr (.slice A hs.length c) hs (mkL q (L.take k) ++ L.drop k) ∧ GrB (fun k => ∃ h ∈ hs, h.v.ownBlock = some k) w wr) (fun _ i _ => hs.length - (intOf i).toNat)
  case atStart => exact ⟨0, Nat.zero_le _, rfl, by simp [tot], by simpa [mkL] using O, GrB.refl _ _⟩
  case round =>
    obtain ⟨k, hk, rfl, rfl, O1, G1⟩ := hrel
    clear O S
    by_cases hlt : k < hs.length
    · have hlL : k < L.length := by omega
      have hS1 : Sl wr A hs.length c hs := by
        obtain ⟨A', c', e', S, -⟩ := O1.top.form (by decide)
        injection e' with e1 e2 e3
        subst e1; subst e3; exact S
      obtain ⟨b, off, rfl, hb, hcell⟩ := hS1.hdr_at hlt
      have ek : hs[k]? = some hs[k] := List.getElem?_eq_getElem hlt
      have eL : (mkL q (L.take k) ++ L.drop k)[k]? = some L[k] := by
        rw [List.getElem?_append_right (by rw [mkL_len, List.length_take]; omega), mkL_len, List.length_take, Nat.min_eq_left (by omega), Nat.sub_self, List.drop_eq_getElem_cons hlL]; rfl
      have o := O1.each k _ _ ek eL
      have hnn := O1.hn ek eL
      have hT1 := tot_take_succ hlL
      have hT2 := tot_take_le L (k + 1)
      have hrow : wr.ownsRow w0.heap.size 70 4 (.slice hs[k].a hs[k].n hs[k].c) hs[k].n (L[k].flatMap Enc.cells) := by
        have := o.row
        rw [← hnn] at this
        exact this
      have HT1 := Lib.hid hT1
      have HNN := Lib.hid hnn
      have HSET := Lib.hid (mkL_set hlL q)
      have hs1 : hs[k].n ≤ 1048576 := by omega
      have hq1 : 1 ≤ q + 4 * (tot (L.take k) : Nat) := by omega
      have hq2 : q + 4 * (tot (L.take k) : Nat) ≤ 1000000000 := by omega
      clear hT1 hnn
      go_wp2_with fail
      refine (markPartS_any _ _ _ _ _ _ _ hrow hq1 hq2 hs1).mono ?_
      rintro e w2 ⟨rfl, O2, G2⟩
      have hok := mPrt_ok hq1 hq2 hs1
      have O3 : Owd 70 w0 w2 hs[k].v ((List.range L[k].length).map (mPrt (q + 4 * (tot (L.take k) : Nat)))) := by
        rw [← HNN.out]
        exact ⟨by rw [List.length_map, List.length_range]; exact O2, hok⟩
      have O4 := O1.set_ ek O3 G2
      rw [HSET.out] at O4
      have G4 : GrB (fun k => ∃ h ∈ hs, h.v.ownBlock = some k) w w2 := G1.trans (GrB.of_grown G2 (fun j hj => ⟨hs[k], List.getElem_mem hlt, hj⟩))
      have hz : q + 4 * (tot (L.take k) : Nat) + 4 * (hs[k].n : Int) = q + 4 * (tot (L.take (k + 1)) : Nat) := by rw [HNN.out, HT1.out]; omega
      have HZ := Lib.hid hz
      clear hz O1 G1 o hrow O2 O3 G2 hok
      go_wp2
      go_roundw
      case rel => exact ⟨k + 1, by omega, by go_num, by rw [HZ.out], O4, G4⟩
      case measure => simp [intOf]; omega
    · obtain rfl : k = hs.length := by omega
      have hlen : hs.length = L.length := by omega
      rw [hlen, List.take_length, List.drop_length, List.append_nil, ← hlen] at O1
      have HO := Lib.hid O1
      have HT : Hid (tot (L.take hs.length) = tot L) := by show _ = _; rw [hlen, List.take_length]
      clear O1 hlen
      go_wp2
      go_ret
      exact ⟨by rw [HT.out]; rfl, HO.out, G1⟩
theorem heldPartSS_any (A : Option Addr) (n c : Nat) (hs : List Hdr) (L : List (List Prt)) (q : Int) (w : World) (S : Sl w A n c hs) (R : Rd2 w hs (mkL q L)) (h0 : 1 ≤ q) (h1 : q ≤ 100000000) (hn : tot L ≤ 1048576) (hn2 : n ≤ 1048576) :
    Calls Try.prog 36 #[.slice A n c, .int .i64 q] w fun e w' => e = .returned (.int .i64 (q + 4 * (tot L : Nat))) ∧ Le w w' := by
  obtain rfl := S.len
  have hl1 : hs.length ≤ L.length := by have := R.len; rw [mkL_len] at this; omega
  have hl2 : L.length ≤ hs.length := by have := R.len; rw [mkL_len] at this; omega
  go_enter Try.func36, Try.ntmps36
  go_wp2
  go_loopw [1, 5] (fun z i wr => ∃ k : Nat, k ≤ hs.length ∧ i = .int .i64 k ∧ z = .int .i64 (q + 4 * (tot (L.take k) : Nat)) ∧ Le w wr) (fun _ i _ => hs.length - (intOf i).toNat)
  case atStart => exact ⟨0, Nat.zero_le _, rfl, by simp [tot], Le.refl _⟩
  case round =>
    obtain ⟨k, hk, rfl, rfl, hle⟩ := hrel
    have Sr := S.le hle
    have Rr := R.le hle
    clear S R
    by_cases hlt : k < hs.length
    · have hlL : k < L.length := by omega
      obtain ⟨b, off, rfl, hb, hcell⟩ := Sr.hdr_at hlt
      have s := Rr.each k _ _ (List.getElem?_eq_getElem hlt) (mkL_at hlL q)
      have hnn : L[k].length = hs[k].n := by have := s.len; simpa using this
      have HT1 := Lib.hid (tot_take_succ hlL)
      have hT2 := tot_take_le L (k + 1)
      have hT1 := HT1.out
      rw [hnn] at s
      have HNN := Lib.hid hnn
      have hs1 : hs[k].n ≤ 1048576 := by omega
      have hq1 : 1 ≤ q + 4 * (tot (L.take k) : Nat) := by omega
      have hq2 : q + 4 * (tot (L.take k) : Nat) ≤ 1000000000 := by omega
      clear hT1 hnn
      go_wp2_with fail
      refine (heldPartS_any _ _ _ _ _ s hq1 hq2 hs1).mono ?_
      rintro e w2 ⟨rfl, hle2⟩
      have hL := hle.trans hle2
      have hz : q + 4 * (tot (L.take k) : Nat) + 4 * (hs[k].n : Int) = q + 4 * (tot (L.take (k + 1)) : Nat) := by rw [← HNN.out, HT1.out]; omega
      have HZ := Lib.hid hz
      have hneg : decide (q + 4 * (tot (L.take k) : Nat) + 4 * (hs[k].n : Int) < 0) = false := decide_eq_false (by omega)
      clear hz
      go_wp2
      go_roundw
      case rel => exact ⟨k + 1, by omega, by go_num, by rw [HZ.out], hL⟩
      case measure => simp [intOf]; omega
    · obtain rfl : k = hs.length := by omega
      have HT : Hid (tot (L.take hs.length) = tot L) := by show _ = _; rw [show hs.length = L.length by omega, List.take_length]
      go_wp2
      go_ret
      exact ⟨by rw [HT.out]; rfl, hle⟩
end
end Go.Proofs.Ytpdggodmiliijaa
