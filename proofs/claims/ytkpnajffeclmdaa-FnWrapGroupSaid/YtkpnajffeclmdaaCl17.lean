/- one text of NL, GpF, ItK -/
import Derived.Test.YtkpnajffeclmdaaCl10
import Derived.Test.YtkpnajffeclmdaaCl16
import Derived.Test.YtkpnajffeclmdaaCl11
import Derived.Test.YtkpnajffeclmdaaCl6
import Derived.Sort.QuietIn
namespace Go.Proofs.Ytkpnajffeclmdaa
open Go.RowKit
set_option linter.unusedVariables false
section
/-- a slice as an element -/
structure Hdr where
  a : Option Addr
  n : Nat
  c : Nat
def Hdr.v (h : Hdr) : Value := .slice h.a h.n h.c
instance instEncHdr : Enc Hdr := ⟨1, fun h => [.slice h.a h.n h.c], fun _ => True, fun _ => rfl⟩
instance instOneHdr : EncOne Hdr := ⟨by decide, fun x u hu => by simp [Enc.cells] at hu; subst hu; rfl⟩
theorem Sl.hdr_at {w : World} {A : Option Addr} {n cap : Nat} {hs : List Hdr} (h : Sl w A n cap hs) {k : Nat} (hk : k < hs.length) :
    ∃ b off, A = some ⟨b, off, none⟩ ∧ b < w.heap.size ∧ w.cell? ⟨b, off + k, none⟩ = some (.slice hs[k].a hs[k].n hs[k].c) := by
  obtain ⟨b, off, e, hb, hc⟩ := h.cells_ hk
  have := hc 0 (by decide) _ rfl
  exact ⟨b, off, e, hb, by simpa [Enc.size] using this⟩
/-- the elements hs read as the lists L -/
structure Rd2 {α : Type} [Enc α] (w : World) (hs : List Hdr) (L : List (List α)) : Prop where
  len : hs.length = L.length
  each : ∀ (i : Nat) (h : Hdr) (l : List α), hs[i]? = some h → L[i]? = some l → Sl w h.a h.n h.c l
theorem Rd2.le {α : Type} [Enc α] {w w' : World} {hs : List Hdr} {L : List (List α)} (h : Rd2 w hs L) (hl : Le w w') : Rd2 w' hs L := ⟨h.len, fun i x l e f => (h.each i x l e f).le hl⟩
theorem Rd2.at_ {α : Type} [Enc α] {w : World} {hs : List Hdr} {L : List (List α)} (h : Rd2 w hs L) {k : Nat} (hk : k < hs.length) (hk2 : k < L.length) : Sl w hs[k].a hs[k].n hs[k].c L[k] := h.each k _ _ (List.getElem?_eq_getElem hk) (List.getElem?_eq_getElem hk2)
/-- some blocks apart, nothing that was there has turned -/
structure GrB (S : Nat → Prop) (w w' : World) : Prop where
  os : w'.os = w.os
  tape : w'.tape = w.tape
  output : w'.output = w.output
  size : w.heap.size ≤ w'.heap.size
  block : ∀ k, k < w.heap.size → ¬ S k → w'.heap[k]? = w.heap[k]?
theorem GrB.refl (S : Nat → Prop) (w : World) : GrB S w w := ⟨rfl, rfl, rfl, Nat.le_refl _, fun _ _ _ => rfl⟩
theorem GrB.trans {S : Nat → Prop} {a b c : World} (h : GrB S a b) (k : GrB S b c) : GrB S a c := ⟨k.os.trans h.os, k.tape.trans h.tape, k.output.trans h.output, Nat.le_trans h.size k.size, fun i hi hs => (k.block i (Nat.lt_of_lt_of_le hi h.size) hs).trans (h.block i hi hs)⟩
theorem GrB.of_grown {S : Nat → Prop} {w w' : World} {r : Option Nat} (h : w.grownBy w' r) (hr : ∀ k, r = some k → S k) : GrB S w w' := ⟨h.os, h.tape, h.output, h.size, fun k hk hs => h.block k hk (fun e => hs (hr k e.symm))⟩
theorem GrB.of_le {S : Nat → Prop} {w w' : World} (h : Le w w') : GrB S w w' := ⟨h.os, h.tape, h.output, h.size, fun k hk _ => Below.block h k hk⟩
theorem Le.grB {S : Nat → Prop} {a w w' : World} (h : Le a w) (hg : GrB S w w') (hr : ∀ k, S k → a.heap.size ≤ k) : Le a w' :=
  ⟨hg.os.trans h.os, hg.tape.trans h.tape, hg.output.trans h.output, Nat.le_trans h.size hg.size, fun k hk => (hg.block k (Nat.lt_of_lt_of_le hk h.size) (fun e => by have := hr k e; omega)).trans (h.block k hk)⟩
theorem GrB.cell {S : Nat → Prop} {w w' : World} (hg : GrB S w w') {b o : Nat} {v : Value} (h : w.cell? ⟨b, o, none⟩ = some v) (hb : ¬ S b) : w'.cell? ⟨b, o, none⟩ = some v :=
  (World.cell?_of_block (a := ⟨b, o, none⟩) (hg.block b (World.block_lt_of_cell? w ⟨b, o, none⟩ h) hb)).trans h
theorem own_grB {S : Nat → Prop} {w w' : World} {base : Nat} {e : TypeId} {size : Nat} {v : Value} {n : Nat} {xs : List Value} (h : w.ownsRow base e size v n xs) (hg : GrB S w w') (hne : ∀ k, v.ownBlock = some k → ¬ S k) : w'.ownsRow base e size v n xs := by
  refine ⟨h.1, ?_⟩
  rcases h.2 with hn | ⟨g, cap, cur, rfl, hb, hgg, rest⟩
  · exact .inl hn
  · refine .inr ⟨g, cap, cur, rfl, hb, ?_, rest⟩
    rw [hg.block g (Array.getElem?_eq_some_iff.1 hgg).1 (hne g rfl)]
    exact hgg
theorem Sl.grB {α : Type} [Enc α] {S : Nat → Prop} {w w' : World} {A : Option Addr} {n cap : Nat} {xs : List α} (h : Sl w A n cap xs) (hg : GrB S w w') (hne : 0 < n → ∀ a, A = some a → ¬ S a.block) : Sl w' A n cap xs :=
  ⟨h.len, h.cap_, h.max, h.ok, fun hn => by
    obtain ⟨b, off, e, hlt, hc⟩ := h.at_ hn
    exact ⟨b, off, e, Nat.lt_of_lt_of_le hlt hg.size, fun j u hu => (World.cell?_of_block (a := ⟨b, off + j, none⟩) (hg.block b hlt (hne hn _ e))).trans (hc j u hu)⟩⟩
/-- what the caller owns of fresh rows -/
structure OwL {α : Type} [Enc α] (TT T : TypeId) (w0 w : World) (v : Value) (hs : List Hdr) (L : List (List α)) : Prop where
  top : Owd TT w0 w v hs
  len : hs.length = L.length
  each : ∀ (i : Nat) (h : Hdr) (l : List α), hs[i]? = some h → L[i]? = some l → Owd T w0 w h.v l
  apart : ∀ (i j : Nat) (h k : Hdr), hs[i]? = some h → hs[j]? = some k → i ≠ j → Apart h.v k.v
  off : ∀ (i : Nat) (h : Hdr), hs[i]? = some h → Apart h.v v
section
variable {α : Type} [Enc α] {TT T : TypeId} {w0 w w' : World} {v : Value} {hs : List Hdr} {L : List (List α)}
theorem OwL.le (h : OwL TT T w0 w v hs L) (hl : Le w w') : OwL TT T w0 w' v hs L := ⟨h.top.le hl, h.len, fun i x l e f => (h.each i x l e f).le hl, h.apart, h.off⟩
theorem OwL.mono {w00 : World} (h : OwL TT T w0 w v hs L) (hl : Le w00 w0) : OwL TT T w00 w v hs L := ⟨h.top.mono hl, h.len, fun i x l e f => (h.each i x l e f).mono hl, h.apart, h.off⟩
theorem OwL.nil (TT T : TypeId) (w0 w : World) : OwL TT T w0 w (.slice none 0 0) [] ([] : List (List α)) := ⟨Owd.nil _ _ _, rfl, fun i h l e => by simp at e, fun i j h k e => by simp at e, fun i h e => by simp at e⟩
theorem OwL.snoc {v' : Value} {h : Hdr} {l : List α} (O : OwL TT T w0 w v hs L) (hx : Owd T w0 w h.v l) (h1 : Apart h.v v) (h2 : ∀ (i : Nat) (k : Hdr), hs[i]? = some k → Apart k.v h.v)
    (row : w'.ownsRow w0.heap.size TT 1 v' (hs.length + 1) ((hs ++ [h]).flatMap Enc.cells)) (hg : w.grownBy w' v.ownBlock) (hat : v'.ownBlock = v.ownBlock ∨ v'.ownBlock = some w.heap.size) : OwL TT T w0 w' v' (hs ++ [h]) (L ++ [l]) := by
  have hlen := O.len
  have hal : ∀ (i : Nat) (k : Hdr), (hs ++ [h])[i]? = some k → (i < hs.length ∧ hs[i]? = some k) ∨ (i = hs.length ∧ k = h) := fun i k e => by
    rcases Nat.lt_or_ge i hs.length with hi | hi
    · rw [List.getElem?_append_left hi] at e; exact .inl ⟨hi, e⟩
    · rw [List.getElem?_append_right hi] at e
      have h0 := (List.getElem?_eq_some_iff.1 e).1
      simp at h0
      have e2 : i = hs.length := by omega
      rw [e2, Nat.sub_self] at e
      exact .inr ⟨e2, by simpa using e.symm⟩
  have keep : ∀ (k : Hdr) (m : List α), Owd T w0 w k.v m → Apart k.v v → Owd T w0 w' k.v m := fun k m o a => ⟨o.row.kept hg a, o.ok⟩
  have offn : ∀ (k : Hdr) (m : List α), Owd T w0 w k.v m → Apart k.v v → Apart k.v v' := fun k m o a => by
    rcases hat with e | e
    · unfold Apart at a ⊢; rw [e]; exact a
    · refine .inr fun e2 => ?_
      have := (o.row.lt w.heap.size (by rw [e2]; exact e)).2
      omega
  refine ⟨⟨by rw [List.length_append]; exact row, fun _ _ => trivial⟩, by simp [hlen], ?_, ?_, ?_⟩
  · intro i k m e f
    rcases hal i k e with ⟨hi, e⟩ | ⟨rfl, rfl⟩
    · rw [List.getElem?_append_left (by omega)] at f
      exact keep k m (O.each i k m e f) (O.off i k e)
    · rw [List.getElem?_append_right (by omega), hlen, Nat.sub_self] at f
      obtain rfl : m = l := by simpa using f.symm
      exact keep k m hx h1
  · intro i j k k' e f hij
    rcases hal i k e with ⟨hi, e2⟩ | ⟨rfl, rfl⟩
    · rcases hal j k' f with ⟨hj, f2⟩ | ⟨rfl, rfl⟩
      · exact O.apart i j k k' e2 f2 hij
      · exact h2 i k e2
    · rcases hal j k' f with ⟨hj, f2⟩ | ⟨rfl, rfl⟩
      · exact (h2 j k' f2).symm
      · exact absurd rfl hij
  · intro i k e
    rcases hal i k e with ⟨hi, e⟩ | ⟨rfl, rfl⟩
    · exact offn k (L[i]'(by omega)) (O.each i k _ e (List.getElem?_eq_getElem (by omega))) (O.off i k e)
    · exact offn k l hx h1
theorem apart_lt {v u : Value} {m : Nat} (h : ∀ k, v.ownBlock = some k → k < m) (k : ∀ k, u.ownBlock = some k → m ≤ k) : Apart v u := by
  cases e : v.ownBlock with
  | none => exact .inl e
  | some q =>
    refine .inr fun e2 => ?_
    have h1 := h q e
    have h2 := k q (by rw [← e2]; exact e)
    omega
/-- a row that comes later is apart -/
theorem OwL.later {u : Value} {l : List α} {wc w2 : World} (O : OwL TT T w0 w v hs L) (hw : w.heap.size ≤ wc.heap.size) (hx : Owd T wc w2 u l) : Apart u v ∧ ∀ (i : Nat) (k : Hdr), hs[i]? = some k → Apart k.v u := by
  have hge : ∀ k, u.ownBlock = some k → w.heap.size ≤ k := fun k e => by have := (hx.row.lt k e).1; omega
  refine ⟨(apart_lt (fun k e => (O.top.row.lt k e).2) hge).symm, fun i k e => ?_⟩
  have hi := (List.getElem?_eq_some_iff.1 e).1
  have := O.each i k (L[i]'(by have := O.len; omega)) e (List.getElem?_eq_getElem (by have := O.len; omega))
  exact apart_lt (fun k e => (this.row.lt k e).2) hge
theorem OwL.grown {b : Nat} (h : OwL TT T w0 w v hs L) (hg : w.grownBy w' (some b)) (hb : b < w0.heap.size ∨ w.heap.size ≤ b) : OwL TT T w0 w' v hs L := by
  have kp : ∀ {β : Type} [Enc β] (U : TypeId) (u : Value) (l : List β), Owd U w0 w u l → Owd U w0 w' u l := fun U u l o => ⟨o.row.kept hg (by
    cases e : u.ownBlock with
    | none => exact .inl rfl
    | some q =>
      refine .inr fun e2 => ?_
      injection e2 with e2
      have := o.row.lt q e
      omega), o.ok⟩
  exact ⟨kp _ _ _ h.top, h.len, fun i x l e f => kp _ _ _ (h.each i x l e f), h.apart, h.off⟩
theorem OwL.rd (hp : 0 < Enc.size α) (h : OwL TT T w0 w v hs L) : Rd2 w hs L := ⟨h.len, fun i x l e f => Sl.of_own (by
  have o := h.each i x l e f
  obtain ⟨A, c, e2⟩ := own_form o.row
  have e3 : x.n = l.length := by have e4 : Value.slice x.a x.n x.c = .slice A l.length c := e2; injection e4
  have e5 := o.row
  unfold Hdr.v at e5
  rw [e3] at e5 ⊢
  exact e5) rfl hp (h.each i x l e f).ok⟩
theorem OwL.form (h : OwL TT T w0 w v hs L) : ∃ A c, v = .slice A L.length c ∧ Sl w A L.length c hs := by
  obtain ⟨A, c, e, S, -⟩ := h.top.form (by decide)
  rw [h.len] at e S
  exact ⟨A, c, e, S⟩
theorem OwL.hn (h : OwL TT T w0 w v hs L) {i : Nat} {x : Hdr} {l : List α} (e : hs[i]? = some x) (f : L[i]? = some l) : x.n = l.length := by
  obtain ⟨A, c, e2⟩ := own_form (h.each i x l e f).row
  have e4 : Value.slice x.a x.n x.c = .slice A l.length c := e2
  injection e4
/-- one of the rows is written -/
theorem OwL.set_ {k : Nat} {h : Hdr} {l' : List α} (O : OwL TT T w0 w v hs L) (hk : hs[k]? = some h) (row : Owd T w0 w' h.v l') (hg : w.grownBy w' h.v.ownBlock) : OwL TT T w0 w' v hs (L.set k l') := by
  have kp : ∀ {β : Type} [Enc β] (U : TypeId) (u : Value) (l : List β), Owd U w0 w u l → Apart u h.v → Owd U w0 w' u l := fun U u l o a => ⟨o.row.kept hg a, o.ok⟩
  refine ⟨kp _ _ _ O.top (O.off k h hk).symm, by simp [O.len], fun i x l e f => ?_, O.apart, O.off⟩
  by_cases hik : i = k
  · subst hik
    rw [hk] at e; injection e with e; subst e
    have hi := (List.getElem?_eq_some_iff.1 f).1
    rw [List.getElem?_set_self (by simpa using hi)] at f
    injection f with f; subst f
    exact row
  · rw [List.getElem?_set_ne (fun e => hik e.symm)] at f
    exact kp _ _ _ (O.each i x l e f) (O.apart i k x h e hk hik)
/-- a new row is put in a place -/
theorem OwL.put {k : Nat} {h : Hdr} {l : List α} (O : OwL TT T w0 w v hs L) (hk : k < hs.length) (hx : Owd T w0 w' h.v l) (h1 : Apart h.v v) (h2 : ∀ (i : Nat) (k : Hdr), hs[i]? = some k → Apart k.v h.v)
    (row : w'.ownsRow w0.heap.size TT 1 v hs.length ((hs.set k h).flatMap Enc.cells)) (hg : w.grownBy w' v.ownBlock) : OwL TT T w0 w' v (hs.set k h) (L.set k l) := by
  have hlen := O.len
  have hal : ∀ (i : Nat) (x : Hdr), (hs.set k h)[i]? = some x → (i ≠ k ∧ hs[i]? = some x) ∨ (i = k ∧ x = h) := fun i x e => by
    by_cases hik : i = k
    · subst hik
      rw [List.getElem?_set_self hk] at e
      exact .inr ⟨rfl, by injection e with e; exact e.symm⟩
    · rw [List.getElem?_set_ne (fun e => hik e.symm)] at e
      exact .inl ⟨hik, e⟩
  refine ⟨⟨by rw [List.length_set]; exact row, fun _ _ => trivial⟩, by simp [hlen], ?_, ?_, ?_⟩
  · intro i x m e f
    rcases hal i x e with ⟨hi, e⟩ | ⟨rfl, rfl⟩
    · rw [List.getElem?_set_ne (fun e => hi e.symm)] at f
      have o := O.each i x m e f
      exact ⟨o.row.kept hg (O.off i x e), o.ok⟩
    · rw [List.getElem?_set_self (by omega)] at f
      injection f with f; subst f; exact hx
  · intro i j x y e f hij
    rcases hal i x e with ⟨hi, e2⟩ | ⟨rfl, rfl⟩
    · rcases hal j y f with ⟨hj, f2⟩ | ⟨rfl, rfl⟩
      · exact O.apart i j x y e2 f2 hij
      · exact h2 i x e2
    · rcases hal j y f with ⟨hj, f2⟩ | ⟨rfl, rfl⟩
      · exact (h2 j y f2).symm
      · exact absurd rfl hij
  · intro i x e
    rcases hal i x e with ⟨hi, e⟩ | ⟨rfl, rfl⟩
    · exact O.off i x e
    · exact h1
end
/-- what reads as lists of lists, all of it below block m -/
structure LsR {α : Type} [Enc α] (m : Nat) (w : World) (A : Option Addr) (n c : Nat) (hs : List Hdr) (L : List (List α)) : Prop where
  top : Sl w A n c hs
  rd : Rd2 w hs L
  topU : 0 < n → ∀ a, A = some a → a.block < m
  eachU : ∀ (i : Nat) (h : Hdr), hs[i]? = some h → 0 < h.n → ∀ a, h.a = some a → a.block < m
section
variable {α : Type} [Enc α] {m : Nat} {w w' : World} {A : Option Addr} {n c : Nat} {hs : List Hdr} {L : List (List α)}
theorem LsR.le (h : LsR m w A n c hs L) (hl : Le w w') : LsR m w' A n c hs L := ⟨h.top.le hl, h.rd.le hl, h.topU, h.eachU⟩
theorem LsR.grB {S : Nat → Prop} (h : LsR m w A n c hs L) (hg : GrB S w w') (hs' : ∀ k, S k → m ≤ k) : LsR m w' A n c hs L :=
  ⟨h.top.grB hg (fun hn a e s => by have := h.topU hn a e; have := hs' _ s; omega), ⟨h.rd.len, fun i x l e f => (h.rd.each i x l e f).grB hg (fun hn a e2 s => by have := h.eachU i x e hn a e2; have := hs' _ s; omega)⟩, h.topU, h.eachU⟩
theorem OwL.lsR {TT T : TypeId} {w0 : World} (hp : 0 < Enc.size α) (h : OwL TT T w0 w (.slice A n c) hs L) : LsR w.heap.size w A n c hs L := by
  obtain ⟨A', c', e, S⟩ := h.form
  injection e with e1 e2 e3
  subst e1; subst e2; subst e3
  exact ⟨S, h.rd hp, S.under, fun i x e hn a e2 => ((h.rd hp).each i x (L[i]'(by have := h.len; have := (List.getElem?_eq_some_iff.1 e).1; omega)) e (List.getElem?_eq_getElem _)).under hn a e2⟩
end
theorem LsR.grown {α : Type} [Enc α] {m : Nat} {w w' : World} {A : Option Addr} {n c : Nat} {hs : List Hdr} {L : List (List α)} {b : Nat} (h : LsR m w A n c hs L) (hg : w.grownBy w' (some b)) (hb : m ≤ b) : LsR m w' A n c hs L :=
  h.grB (S := fun k => k = b) (GrB.of_grown hg (fun k e => by injection e with e; exact e.symm)) (fun k e => by omega)
theorem OwL.blk {α : Type} [Enc α] {TT T : TypeId} {w0 w : World} {v : Value} {hs : List Hdr} {L : List (List α)} (h : OwL TT T w0 w v hs L) : ∀ k, (∃ x ∈ hs, x.v.ownBlock = some k) → w0.heap.size ≤ k ∧ k < w.heap.size := by
  rintro k ⟨x, hx, e⟩
  obtain ⟨i, hi, rfl⟩ := List.getElem_of_mem hx
  exact (h.each i _ (L[i]'(by have := h.len; omega)) (List.getElem?_eq_getElem hi) (List.getElem?_eq_getElem _)).row.lt k e
def tot {α : Type} (L : List (List α)) : Nat := (L.map List.length).sum
theorem tot_take_succ {α : Type} {L : List (List α)} {k : Nat} (h : k < L.length) : tot (L.take (k + 1)) = tot (L.take k) + L[k].length := by
  unfold tot
  rw [List.take_succ_eq_append_getElem h, List.map_append, List.sum_append]; simp
theorem tot_take_le {α : Type} (L : List (List α)) (k : Nat) : tot (L.take k) ≤ tot L := by
  have : tot L = tot (L.take k) + tot (L.drop k) := by unfold tot; rw [← List.sum_append, ← List.map_append, List.take_append_drop]
  omega
theorem tot_get_le {α : Type} {L : List (List α)} {k : Nat} (h : k < L.length) : L[k].length ≤ tot L := by
  have := tot_take_succ h
  have := tot_take_le L (k + 1)
  omega
end

section
theorem okF_keep {n : Int} (p : Lef → Bool) : ∀ {t : Fo}, okF n t → okF n (keepF p t)
  | .nil, _ => trivial
  | .leaf x r, ⟨h1, h2, h3, h4, h5⟩ => by
    rw [keepF]
    cases p x
    · exact okF_keep p h5
    · exact ⟨h1, h2, h3, h4, okF_keep p h5⟩
  | .grp c k r, ⟨h1, h2, h3, h4, h5⟩ => by
    rw [keepF]
    cases e : anyFo p k
    · exact okF_keep p h5
    · exact ⟨h1, h2, keepF_some e, okF_keep p h4, okF_keep p h5⟩
theorem htF_keep (p : Lef → Bool) : ∀ t : Fo, htF (keepF p t) ≤ htF t
  | .nil => Nat.le_refl _
  | .leaf x r => by
    have := htF_keep p r
    rw [keepF]
    cases p x
    · show htF (keepF p r) ≤ htF (.leaf x r); rw [htF]; omega
    · show htF (.leaf x (keepF p r)) ≤ _; rw [htF, htF]; omega
  | .grp c k r => by
    have := htF_keep p k
    have := htF_keep p r
    rw [keepF]
    cases e : anyFo p k
    · show htF (keepF p r) ≤ htF (.grp c k r); rw [htF]; omega
    · show htF (.grp c (keepF p k) (keepF p r)) ≤ _; rw [htF, htF]; omega
theorem szF_keep (p : Lef → Bool) : ∀ t : Fo, szF (keepF p t) ≤ szF t
  | .nil => Nat.le_refl _
  | .leaf x r => by
    have := szF_keep p r
    rw [keepF]
    cases p x
    · show szF (keepF p r) ≤ szF (.leaf x r); rw [szF]; omega
    · show szF (.leaf x (keepF p r)) ≤ _; rw [szF, szF]; omega
  | .grp c k r => by
    have := szF_keep p k
    have := szF_keep p r
    rw [keepF]
    cases e : anyFo p k
    · show szF (keepF p r) ≤ szF (.grp c k r); rw [szF]; omega
    · show szF (.grp c (keepF p k) (keepF p r)) ≤ _; rw [szF, szF]; omega
theorem GTr.keep {xs : List Cls} {t : Fo} (h : GTr xs t) {p : Lef → Bool} (ha : anyFo p t = true) : GTr xs (keepF p t) := by
  refine ⟨h.tree, ?_, okF_keep p h.ok, Nat.le_trans (htF_keep p t) h.ht, Nat.le_trans (szF_keep p t) h.sz⟩
  cases h.one with
  | leaf x =>
    have : p x = true := by simpa [anyFo] using ha
    rw [keepF, this]; exact .leaf x
  | grp c k =>
    have : anyFo p k = true := by simpa [anyFo] using ha
    rw [keepF, this]; exact .grp c _
/-- what is kept of a list of parts, nothing of nothing -/
def selG (p : Lef → Bool) (g : List Prt) : List Prt := selK (keepsAt (tL p) g) g g.length
theorem selG_flat (p : Lef → Bool) (t : Fo) : selG p (flat 0 t) = flat 0 (keepF p t) := by
  unfold selG selK
  rw [selL_selS _ _ _ 0 (by omega), List.drop_zero]
  have := selS_flat p t 0 [] (fun q hq => by cases hq)
  rw [List.append_nil] at this
  rw [this]
  show _ ++ [] = _
  rw [List.append_nil]
theorem selG_nil (p : Lef → Bool) : selG p [] = [] := rfl
/-- a valid group, or nothing -/
def GoodE (xs : List Cls) (g : List Prt) : Prop := g = [] ∨ GoodG xs g
theorem GoodE.tree {xs : List Cls} {g : List Prt} (h : GoodE xs g) : ∃ t, g = flat 0 t ∧ (t = .nil ∨ GTr xs t) := by
  rcases h with rfl | h
  · exact ⟨.nil, rfl, .inl rfl⟩
  · obtain ⟨t, e, h⟩ := good_tree h
    exact ⟨t, e, .inr h⟩
theorem GoodE.of_tree {xs : List Cls} {t : Fo} (h : t = .nil ∨ GTr xs t) : GoodE xs (flat 0 t) := by
  rcases h with rfl | h
  · exact .inl rfl
  · exact .inr h.good
theorem GoodE.sel {xs : List Cls} {g : List Prt} (h : GoodE xs g) (p : Lef → Bool) : GoodE xs (selG p g) := by
  obtain ⟨t, rfl, h0⟩ := h.tree
  rw [selG_flat]
  refine GoodE.of_tree ?_
  rcases h0 with rfl | h
  · exact .inl rfl
  · cases e : anyFo p t
    · exact .inl (keepF_none e)
    · exact .inr (h.keep e)
theorem GoodE.len {xs : List Cls} {g : List Prt} (h : GoodE xs g) : g.length ≤ 16 := by
  rcases h with rfl | h
  · exact Nat.zero_le _
  · exact h.len.2
theorem tS_tL (xs : List Cls) (a : Int) (wi : Bool) : tS xs a wi = tL (fun x => isAL xs x.cls a == wi) := rfl
/-- the parts of a group with leaves of a class, or with others -/
def selA (xs : List Cls) (g : List Prt) (a : Int) (wi : Bool) : List Prt := selG (fun x => isAL xs x.cls a == wi) g
theorem GoodE.selA {xs : List Cls} {g : List Prt} (h : GoodE xs g) (a : Int) (wi : Bool) : GoodE xs (selA xs g a wi) := h.sel _
/-- what several classes take of a group, one behind the other, and what is left -/
def hgT (xs : List Cls) : List Prt → List Int → List (List Prt)
  | _, [] => []
  | g, a :: r => selA xs g a true :: hgT xs (selA xs g a false) r
def hgR (xs : List Cls) : List Prt → List Int → List Prt
  | g, [] => g
  | g, a :: r => hgR xs (selA xs g a false) r
theorem hgR_snoc (xs : List Cls) : ∀ (L : List Int) (g : List Prt) (a : Int), hgR xs g (L ++ [a]) = selA xs (hgR xs g L) a false
  | [], _, _ => rfl
  | _ :: L, _, a => hgR_snoc xs L _ a
theorem hgT_snoc (xs : List Cls) : ∀ (L : List Int) (g : List Prt) (a : Int), hgT xs g (L ++ [a]) = hgT xs g L ++ [selA xs (hgR xs g L) a true]
  | [], _, _ => rfl
  | _ :: L, _, a => by
    rw [List.cons_append, hgT, hgT_snoc xs L _ a, hgT, List.cons_append]; rfl
theorem hgT_len (xs : List Cls) : ∀ (L : List Int) (g : List Prt), (hgT xs g L).length = L.length
  | [], _ => rfl
  | _ :: L, g => by rw [hgT, List.length_cons, hgT_len xs L]; rfl
theorem hgR_good {xs : List Cls} : ∀ (L : List Int) {g : List Prt}, GoodE xs g → GoodE xs (hgR xs g L)
  | [], _, h => h
  | _ :: L, _, h => hgR_good L (h.selA _ _)
theorem hgT_mem {xs : List Cls} : ∀ (L : List Int) {g : List Prt}, GoodE xs g → ∀ l ∈ hgT xs g L, GoodE xs l
  | [], _, _, l, hl => nomatch hl
  | _ :: L, _, h, l, hl => by
    rcases List.mem_cons.1 hl with rfl | hl
    · exact h.selA _ _
    · exact hgT_mem L (h.selA _ _) l hl
theorem tot_mem {α : Type} {c : Nat} : ∀ {L : List (List α)}, (∀ l ∈ L, l.length ≤ c) → tot L ≤ c * L.length
  | [], _ => Nat.zero_le _
  | l :: L, h => by
    have h1 := h l (List.mem_cons_self ..)
    have h2 := tot_mem (L := L) (fun y hy => h y (List.mem_cons_of_mem _ hy))
    unfold tot at h2 ⊢
    rw [List.map_cons, List.sum_cons, List.length_cons, Nat.mul_succ]
    omega
end

section
open Go.RowKit Go.Shelf
attribute [local go_sem] Oper.semAt_some
/-- where the pieces from f up to b begin -/
def kdS (g : List Prt) : Nat → Nat → Nat → List Nat
  | 0, _, _ => []
  | m + 1, f, b => if f < b then f :: kdS g m (endN g f) b else []
/-- what the iterator over kids reads between two rounds lies as it lay: the group below n₀, the box of the piece -/
structure KpB (n₀ Bg : Nat) (w w' : World) : Prop where
  size : w.heap.size ≤ w'.heap.size
  block : ∀ k, k < n₀ ∨ k = Bg → w'.heap[k]? = w.heap[k]?
theorem KpB.refl (n₀ Bg : Nat) (w : World) : KpB n₀ Bg w w := ⟨Nat.le_refl _, fun _ _ => rfl⟩
theorem KpB.trans {n₀ Bg : Nat} {a b c : World} (h : KpB n₀ Bg a b) (k : KpB n₀ Bg b c) : KpB n₀ Bg a c := ⟨Nat.le_trans h.size k.size, fun i hi => (k.block i hi).trans (h.block i hi)⟩
theorem KpB.cell {n₀ Bg : Nat} {w w' : World} (h : KpB n₀ Bg w w') {k o : Nat} (hk : k < n₀ ∨ k = Bg) : w'.cell? ⟨k, o, none⟩ = w.cell? ⟨k, o, none⟩ := by
  simp only [World.cell?, h.block k hk]
theorem SlB.keptB {α : Type} [Enc α] {n₀ Bg : Nat} {w w' : World} {A : Option Addr} {n cap : Nat} {xs : List α} (h : SlB n₀ w A n cap xs) (hB : KpB n₀ Bg w w') : SlB n₀ w' A n cap xs := by
  refine ⟨⟨h.sl.len, h.sl.cap_, h.sl.max, h.sl.ok, fun hn => ?_⟩, h.lo⟩
  obtain ⟨b, off, e, hb, hc⟩ := h.sl.at_ hn
  have hlt := h.lo hn _ e
  exact ⟨b, off, e, Nat.lt_of_lt_of_le hb hB.size, fun j u hu => (hB.cell (.inl hlt)).trans (hc j u hu)⟩
/-- a piece of a group as a slice of it -/
abbrev encKid (g : List Prt) (b off C : Nat) {P : Nat → Prop} (x : { x : Nat // P x }) : Array Value := #[.slice (some ⟨b, off + x.1 * 4, none⟩) (endN g x.1 - x.1) (C - x.1)]
set_option maxRecDepth 100000 in
set_option maxHeartbeats 4000000 in
theorem kids1_in (n : Nat) (hn : 1 ≤ n) (l Bg n₀ b off C : Nat) (g : List Prt) (f0 b0 : Nat) (hm16 : g.length ≤ 16) (hf0 : f0 < b0) (hb0 : b0 ≤ g.length) (hend : ∀ i, f0 < i → i < b0 → endN g i ≤ b0)
    (P : Nat → Prop) (hP : ∀ i, f0 < i → i < b0 → P i) (J Jx : List { x : Nat // P x } → World → Prop)
    (hY : ∀ pre x W, J pre W → pre.length < b0 - f0 → YieldAt Fence.wide (n - 1) Try.prog l (encKid g b off C x) W fun e W' =>
      (e = .returned (.bool true) ∧ J (pre ++ [x]) W' ∧ KpB n₀ Bg W W') ∨ (e = .returned (.bool false) ∧ Jx (pre ++ [x]) W'))
    (W : World) (hJ : AbidesFrom W.heap.size J) (hBg : W.cell? ⟨Bg, 0, none⟩ = some (.slice (some ⟨b, off + f0 * 4, none⟩) (b0 - f0) (C - f0))) (S : SlB n₀ W (some ⟨b, off, none⟩) g.length C g) (h0 : J [] W) :
    CallsIn Fence.wide n Try.prog 77 #[.func (.yield l) #[] #[], .pointer (some ⟨Bg, 0, none⟩)] W fun e W' => (∃ v, e = .returned v) ∧
      ((∃ ys, ys.map (·.1) = kdS g g.length (f0 + 1) b0 ∧ J ys W') ∨ (∃ pre, pre.map (·.1) <+: kdS g g.length (f0 + 1) b0 ∧ Jx pre W')) := by
  have hmx := S.sl.n_le
  have hcap := S.sl.cap_
  refine callsIn_of_wp Try.func77 rfl trivial ?_ rfl
  simp only [Try.ntmps77, List.size_toArray, List.length_cons, List.length_nil, Nat.reduceAdd, Nat.reduceSub, Array.replicate_succ, Array.replicate_zero, List.push_toArray, List.append_toArray, List.nil_append, List.cons_append]
  gi_wp2
  gi_loopw [3, 4] (fun v u wr => ∃ (r s m : Nat) (ys : List { x : Nat // P x }), 1 ≤ r ∧ r < s ∧ s ≤ b0 - f0 + 1 ∧ v = .int .i64 r ∧ u = .int .i64 s ∧ b0 - (f0 + r) ≤ m ∧ ys.map (·.1) ++ kdS g m (f0 + r) b0 = kdS g g.length (f0 + 1) b0 ∧ ys.length < r ∧ ((f0 + r < b0 ∧ f0 + s ≤ b0 ∧ endN g (f0 + r) = endFrom g (f0 + r) (g.length - (f0 + s)) (f0 + s)) ∨ (f0 + r = b0 ∧ s = b0 - f0 + 1)) ∧ J ys wr ∧ KpB n₀ Bg W wr)
    (fun _ u _ => b0 - f0 + 1 - (intOf u).toNat)
  case atStart =>
    refine ⟨1, 2, g.length, [], Nat.le_refl _, by omega, by omega, rfl, rfl, by omega, rfl, Nat.zero_lt_one, ?_, h0, KpB.refl _ _ _⟩
    by_cases h1 : f0 + 1 < b0
    · exact .inl ⟨h1, by omega, rfl⟩
    · exact .inr ⟨by omega, by omega⟩
  case round =>
    obtain ⟨r, s, m, ys, hr1, hrs, hs, rfl, rfl, hm, hys, hyl, hst, hJs, hnx⟩ := hrel
    have HYS := Lib.hid hys
    clear hys
    have cB := (hnx.cell (k := Bg) (o := 0) (.inr rfl)).trans hBg
    by_cases hlt : s ≤ b0 - f0
    · obtain ⟨hfr, hfs, he⟩ : f0 + r < b0 ∧ f0 + s ≤ b0 ∧ endN g (f0 + r) = endFrom g (f0 + r) (g.length - (f0 + s)) (f0 + s) := by
        rcases hst with h | h
        · exact h
        · omega
      have HE := Lib.hid he
      clear he hst
      obtain ⟨m', rfl⟩ : ∃ m', m = m' + 1 := ⟨m - 1, by omega⟩
      have hk1 : f0 + r < g.length := by omega
      have HK : Hid (kdS g (m' + 1) (f0 + r) b0 = (f0 + r) :: kdS g m' (endN g (f0 + r)) b0) := by
        show (if f0 + r < b0 then _ else _) = _
        rw [if_pos hfr]
      obtain ⟨b1, off1, e1, hb1, p0, -⟩ := (S.keptB hnx).sl.prt_at hk1
      cases e1
      by_cases hsl : s < b0 - f0
      · have hk2 : f0 + s < g.length := by omega
        obtain ⟨b2, off2, e2, hb2, q0, -⟩ := (S.keptB hnx).sl.prt_at hk2
        cases e2
        simp only [Nat.add_mul, ← Nat.add_assoc] at p0 q0
        by_cases hd : g[f0 + r].depth < g[f0 + s].depth
        · have HS : Hid (endN g (f0 + r) = endFrom g (f0 + r) (g.length - (f0 + (s + 1))) (f0 + (s + 1))) := by
            show _ = _
            rw [HE.out, endF_step g (f0 + r) hk2, gAt_at hk1, gAt_at hk2, if_pos hd]; rfl
          gi_wp2
          gi_big_quiet (fail)
          have hJ' : J ys (wr.drewN nq) := hJ _ wr _ none hJs ⟨rfl, rfl, rfl, Nat.le_refl _, fun _ _ _ => rfl⟩ (fun r e => by cases e)
          have hB' : KpB n₀ Bg W (wr.drewN nq) := hnx.trans ⟨Nat.le_refl _, fun _ _ => rfl⟩
          gi_wp2
          go_roundw
          case rel => exact ⟨r, s + 1, m' + 1, ys, hr1, by omega, by omega, rfl, by simp, hm, HYS.out, hyl, .inl ⟨hfr, by omega, HS.out⟩, hJ', hB'⟩
          case measure => simp [intOf]; omega
        · have HN : Hid (endN g (f0 + r) = f0 + s) := by
            show _ = _
            rw [HE.out, endF_step g (f0 + r) hk2, gAt_at hk1, gAt_at hk2, if_neg hd]
          have hdz : decide (g[f0 + r].depth < g[f0 + s].depth) = false := decide_eq_false hd
          gi_wp2
          gi_big_quiet (fail)
          have hJ' : J ys (wr.drewN nq) := hJ _ wr _ none hJs ⟨rfl, rfl, rfl, Nat.le_refl _, fun _ _ _ => rfl⟩ (fun r e => by cases e)
          have hB' : KpB n₀ Bg W (wr.drewN nq) := hnx.trans ⟨Nat.le_refl _, fun _ _ => rfl⟩
          obtain ⟨fn, tmps, assign, body, hy, hR⟩ := hY ys ⟨f0 + r, hP _ (by omega) hfr⟩ _ hJ' (by omega)
          have hx1 : off + (f0 + r) * 4 = off + f0 * 4 + r * 4 := by omega
          have hx2 : endN g (f0 + r) - (f0 + r) = s - r := by rw [HN.out]; omega
          have hx3 : C - (f0 + r) = C - f0 - r := by omega
          have c' : (wr.drewN nq).cell? ⟨Bg, 0, none⟩ = some (.slice (some ⟨b, off + f0 * 4, none⟩) (b0 - f0) (C - f0)) := cB
          dsimp only [encKid] at hy
          rw [hx1, hx2, hx3] at hy
          have HSTEP : Hid ((ys ++ [(⟨f0 + r, hP _ (by omega) hfr⟩ : { x : Nat // P x })]).map (·.1) ++ kdS g m' (f0 + s) b0 = kdS g g.length (f0 + 1) b0) := by
            show _ = _
            rw [← HYS.out, HK.out, HN.out, List.map_append, List.append_assoc]; rfl
          have HPRE : Hid ((ys ++ [(⟨f0 + r, hP _ (by omega) hfr⟩ : { x : Nat // P x })]).map (·.1) <+: kdS g g.length (f0 + 1) b0) := ⟨_, HSTEP.out⟩
          gi_wp2
          refine hR.mono ?_
          rintro e3 W3 (⟨rfl, hJ3, hk3⟩ | ⟨rfl, hJx3⟩)
          · gi_wp2
            go_roundw
            case rel =>
              refine ⟨s, s + 1, m', _, by omega, by omega, by omega, rfl, by go_num, by omega, HSTEP.out, by simp; omega, ?_, hJ3, hB'.trans hk3⟩
              by_cases h1 : f0 + s < b0
              · exact .inl ⟨h1, by omega, rfl⟩
              · exact .inr ⟨by omega, by omega⟩
            case measure => simp [intOf]; omega
          · gi_wp2
            refine bodyPost_ret (results_none rfl _ _ _) rfl ?_
            exact ⟨⟨_, rfl⟩, .inr ⟨_, HPRE.out, hJx3⟩⟩
      · have HN : Hid (endN g (f0 + r) = f0 + s) := by
          show _ = _
          have h1 := hend (f0 + r) (by omega) hfr
          have h2 := endFrom_ge g (f0 + r) (g.length - (f0 + s)) (f0 + s)
          rw [← HE.out] at h2
          omega
        gi_wp2
        gi_big_quiet (fail)
        have hJ' : J ys (wr.drewN nq) := hJ _ wr _ none hJs ⟨rfl, rfl, rfl, Nat.le_refl _, fun _ _ _ => rfl⟩ (fun r e => by cases e)
        have hB' : KpB n₀ Bg W (wr.drewN nq) := hnx.trans ⟨Nat.le_refl _, fun _ _ => rfl⟩
        obtain ⟨fn, tmps, assign, body, hy, hR⟩ := hY ys ⟨f0 + r, hP _ (by omega) hfr⟩ _ hJ' (by omega)
        have hx1 : off + (f0 + r) * 4 = off + f0 * 4 + r * 4 := by omega
        have hx2 : endN g (f0 + r) - (f0 + r) = s - r := by rw [HN.out]; omega
        have hx3 : C - (f0 + r) = C - f0 - r := by omega
        have c' : (wr.drewN nq).cell? ⟨Bg, 0, none⟩ = some (.slice (some ⟨b, off + f0 * 4, none⟩) (b0 - f0) (C - f0)) := cB
        dsimp only [encKid] at hy
        rw [hx1, hx2, hx3] at hy
        have HSTEP : Hid ((ys ++ [(⟨f0 + r, hP _ (by omega) hfr⟩ : { x : Nat // P x })]).map (·.1) ++ kdS g m' (f0 + s) b0 = kdS g g.length (f0 + 1) b0) := by
          show _ = _
          rw [← HYS.out, HK.out, HN.out, List.map_append, List.append_assoc]; rfl
        have HPRE : Hid ((ys ++ [(⟨f0 + r, hP _ (by omega) hfr⟩ : { x : Nat // P x })]).map (·.1) <+: kdS g g.length (f0 + 1) b0) := ⟨_, HSTEP.out⟩
        gi_wp2
        refine hR.mono ?_
        rintro e3 W3 (⟨rfl, hJ3, hk3⟩ | ⟨rfl, hJx3⟩)
        · gi_wp2
          go_roundw
          case rel =>
            refine ⟨s, s + 1, m', _, by omega, by omega, by omega, rfl, by go_num, by omega, HSTEP.out, by simp; omega, ?_, hJ3, hB'.trans hk3⟩
            by_cases h1 : f0 + s < b0
            · exact .inl ⟨h1, by omega, rfl⟩
            · exact .inr ⟨by omega, by omega⟩
          case measure => simp [intOf]; omega
        · gi_wp2
          refine bodyPost_ret (results_none rfl _ _ _) rfl ?_
          exact ⟨⟨_, rfl⟩, .inr ⟨_, HPRE.out, hJx3⟩⟩
    · have hz : f0 + r = b0 := by omega
      clear hst
      have HN : Hid (ys.map (·.1) = kdS g g.length (f0 + 1) b0) := by
        show _ = _
        rw [← HYS.out]
        cases m with
        | zero => simp [kdS]
        | succ m => unfold kdS; rw [if_neg (by omega)]; simp
      gi_wp2
      go_end0
      exact ⟨⟨_, rfl⟩, .inl ⟨ys, HN.out, hJs⟩⟩
set_option maxHeartbeats 1000000 in
theorem kids_in (F : Fence) (n : Nat) (hf : F.fn 60) (hro : F.round = none) (A : Option Addr) (m cap : Nat) (w : World) :
    CallsIn F n Try.prog 60 #[.slice A m cap] w fun e w' => e = .returned (.func (.func 77) #[] #[.pointer (some ⟨w.heap.size, 0, none⟩)]) ∧ w' = w.alloc (.cells #[.slice A m cap] 26) := by
  refine callsIn_of_wp Try.func60 rfl hf ?_ hro
  simp only [Try.ntmps60, List.size_toArray, List.length_cons, List.length_nil, Nat.reduceAdd, Nat.reduceSub, Array.replicate_succ, Array.replicate_zero, List.push_toArray, List.append_toArray, List.nil_append, List.cons_append]
  gi_wp2
  go_ret
  exact ⟨rfl, rfl⟩
theorem kids_stops (n : Nat) (hn : 1 ≤ n) (Bg n₀ b off C : Nat) (g : List Prt) (f0 b0 : Nat) (hm16 : g.length ≤ 16) (hf0 : f0 < b0) (hb0 : b0 ≤ g.length) (hend : ∀ i, f0 < i → i < b0 → endN g i ≤ b0)
    (P : Nat → Prop) (hP : ∀ i, f0 < i → i < b0 → P i) (w : World) (hBg : Bg < w.heap.size) (hn₀ : n₀ ≤ w.heap.size)
    (hc : w.cell? ⟨Bg, 0, none⟩ = some (.slice (some ⟨b, off + f0 * 4, none⟩) (b0 - f0) (C - f0))) (S : SlB n₀ w (some ⟨b, off, none⟩) g.length C g) :
    SeqStopsK Fence.wide n Try.prog 77 #[.pointer (some ⟨Bg, 0, none⟩)] (encKid (P := P) g b off C) (KpB n₀ Bg) (fun ys => ys.map (·.1) = kdS g g.length (f0 + 1) b0) (fun pre => pre.map (·.1) <+: kdS g g.length (f0 + 1) b0) (b0 - f0) w := fun l J Jx W hW hJ _ hY h0 =>
  kids1_in n hn l Bg n₀ b off C g f0 b0 hm16 hf0 hb0 hend P hP J Jx hY W (fun s X Y row hs hg hr => hJ s X Y row hs hg (fun r e => hr r e)) ((hW.cell (p := ⟨Bg, 0, none⟩) hBg).trans hc) (S.below (hW.mono hn₀)) h0
end
end Go.Proofs.Ytkpnajffeclmdaa
