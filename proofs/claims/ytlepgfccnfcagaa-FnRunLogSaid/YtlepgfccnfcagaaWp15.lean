/- one text of T -/
import Derived.Test.YtlepgfccnfcagaaWp13
import Derived.Test.YtlepgfccnfcagaaWp1
import Derived.Deep.AppendLies
import Derived.WalkSmall
import Derived.Deep.RegionLaw
import Derived.Deep.RegionHeld3
namespace Go.Proofs.Ytlepgfccnfcagaa
open Go.RowKit
set_option linter.unusedVariables false
section
section
theorem Sl.of_row {α : Type} [Enc α] {w : World} {b : Nat} {T : TypeId} {cs : Array Value} {fz : Nat × Nat} {n : Nat} {xs : List α} (h : w.heap[b]? = some (.cells cs T fz)) (hc : cs.toList = xs.flatMap Enc.cells) (hn : xs.length = n) (hm : n ≤ 1000) (hok : ∀ x ∈ xs, Enc.ok x) : Sl w (some ⟨b, 0, none⟩) n n xs := by
  refine ⟨hn, Nat.le_refl _, by omega, hok, fun _ => ⟨b, 0, rfl, ?_, fun j u hu => ?_⟩⟩
  · rcases Nat.lt_or_ge b w.heap.size with hlt | hge
    · exact hlt
    · rw [Array.getElem?_eq_none hge] at h; cases h
  · rw [Nat.zero_add, cell_of_row w b j cs T fz h, ← hu, ← hc]
    simp

/-- a tree that was drawn: whatever it is, it lies in new memory -/
def TreeOut (k g p : Nat) (A : Option Addr) (n cap : Nat) (bs : List By) (w : World) (e : Ending) (w' : World) : Prop :=
  ∃ (h m c p' : Nat) (xs : List Cls), e = .returned (.agg #[.slice (some ⟨h, 0, none⟩) m c]) ∧ w'.ownsRow w.heap.size 97 2 (.slice (some ⟨h, 0, none⟩) m c) m (xs.flatMap Enc.cells) ∧ (∀ x ∈ xs, Enc.ok x) ∧ 1 ≤ m ∧ m ≤ 8 ∧ p' ≤ p + k ∧ Rd w' g p' A n cap bs ∧ Gx g w w'

theorem clsInfo : (Try.prog.info? 97).map (fun i => (i.zero, i.size, i.bytes)) = some (some (.agg #[.string ByteArray.empty, .int .i64 0]), 2, 24) := by kernel_rfl
theorem Gx.setNew {g b o : Nat} {a c : World} (h : Gx g a c) (hb : a.heap.size ≤ b) (u : Value) : Gx g a (c.setCell ⟨b, o, none⟩ u) :=
  ⟨h.os, h.tape, h.output, by have := h.size; simp [World.setCell]; exact this, fun i hi hne => (heap_setCell_other c ⟨b, o, none⟩ i u (by show i ≠ b; omega)).trans (h.block i hi hne)⟩
def names8 : List ByteArray := [⟨#[97, 110, 121]⟩, ⟨#[105, 111]⟩, ⟨#[107, 101, 121]⟩, ⟨#[116, 105, 109, 101]⟩, ⟨#[110, 101, 116]⟩, ⟨#[100, 105, 115, 107]⟩, ⟨#[116, 121, 112, 101]⟩, ⟨#[111, 100, 100]⟩]

theorem Sl.block {α : Type} [Enc α] {w w' : World} {A : Option Addr} {n cap : Nat} {xs : List α} (h : Sl w A n cap xs) (hs : w.heap.size ≤ w'.heap.size) (hb : 0 < n → ∀ a, A = some a → w'.heap[a.block]? = w.heap[a.block]?) : Sl w' A n cap xs :=
  ⟨h.len, h.cap_, h.max, h.ok, fun hn => by
    obtain ⟨b, off, e, hlt, hc⟩ := h.at_ hn
    exact ⟨b, off, e, Nat.lt_of_lt_of_le hlt hs, fun j u hu => (World.cell?_of_block (a := ⟨b, off + j, none⟩) (hb hn ⟨b, off, none⟩ e)).trans (hc j u hu)⟩⟩
theorem gt_step {g p n cap k h c p' h4 c4 : Nat} {A : Option Addr} {bs : List By} {w wr w2 w3 w4 : World} {L C : Obj} {xs : List Cls} {v2 v3 : Int} {nm : ByteArray} (hR : Rd w g p A n cap bs)
    (hk1 : 1 ≤ k) (hk7 : k < 8) (hp' : p' + 1 ≤ p + 2 * k) (hh0 : w.heap.size ≤ h) (hh1 : h ≠ w.heap.size + 1) (hh2 : h ≠ w.heap.size + 1 + 1 + 1) (hh3 : h ≠ w.heap.size) (hokx : ∀ x ∈ xs, Enc.ok x) (hnmk : nm.size ≤ 9223372036854775807)
    (hnm : Sl wr (some ⟨w.heap.size + 1, 0, none⟩) 8 8 names8) (hrs : wr.heap[w.heap.size]? = some (.cells #[.slice none 0 0] 25 (0, 0))) (hsr : w.heap.size + 4 < wr.heap.size) (hgr : Gx g w wr)
    (hv3 : v3 ∈ [0, v2, (k : Int) - 1]) (hv20 : 0 ≤ v2) (hv22 : v2 ≤ 8) (hg2 : Gx g wr.drew w2) (hg3 : Gx g (w2.alloc L) w3) (hR3 : Rd w3 g (p' + 1 + 1) A n cap bs)
    (hown4 : w4.ownsRow w.heap.size 97 2 (.slice (some ⟨h4, 0, none⟩) (k + 1) c4) (k + 1) (xs.flatMap Enc.cells ++ [.string nm, .int .i64 v3])) (hg4 : (w3.alloc C).grownBy w4 (some h)) (hat4 : h = h4 ∨ h4 = w3.heap.size + 1)
    (hbx4 : w4.heap[w.heap.size + 1 + 1 + 1]? = some (.cells #[.slice (some ⟨h, 0, none⟩) k c] 25 (0, 0))) :
    p' + 1 + 1 + 1 ≤ p + 2 * (k + 1) ∧ w.heap.size ≤ h4 ∧ h4 ≠ w.heap.size + 1 ∧ h4 ≠ w.heap.size + 1 + 1 + 1 ∧ h4 ≠ w.heap.size ∧ (∀ x ∈ xs ++ [(⟨nm, v3⟩ : Cls)], Enc.ok x) ∧
      (w4.setCell ⟨w.heap.size + 1 + 1 + 1, 0, none⟩ (.slice (some ⟨h4, 0, none⟩) (k + 1) c4)).ownsRow w.heap.size 97 2 (.slice (some ⟨h4, 0, none⟩) (k + 1) c4) (k + 1) ((xs ++ [(⟨nm, v3⟩ : Cls)]).flatMap Enc.cells) ∧
      (w4.setCell ⟨w.heap.size + 1 + 1 + 1, 0, none⟩ (.slice (some ⟨h4, 0, none⟩) (k + 1) c4)).heap[w.heap.size + 1 + 1 + 1]? = some (.cells #[.slice (some ⟨h4, 0, none⟩) (k + 1) c4] 25 (0, 0)) ∧
      Sl (w4.setCell ⟨w.heap.size + 1 + 1 + 1, 0, none⟩ (.slice (some ⟨h4, 0, none⟩) (k + 1) c4)) (some ⟨w.heap.size + 1, 0, none⟩) 8 8 names8 ∧ Rd (w4.setCell ⟨w.heap.size + 1 + 1 + 1, 0, none⟩ (.slice (some ⟨h4, 0, none⟩) (k + 1) c4)) g (p' + 1 + 1) A n cap bs ∧
      Gx g w (w4.setCell ⟨w.heap.size + 1 + 1 + 1, 0, none⟩ (.slice (some ⟨h4, 0, none⟩) (k + 1) c4)) ∧ w.heap.size + 4 < (w4.setCell ⟨w.heap.size + 1 + 1 + 1, 0, none⟩ (.slice (some ⟨h4, 0, none⟩) (k + 1) c4)).heap.size ∧
      (w4.setCell ⟨w.heap.size + 1 + 1 + 1, 0, none⟩ (.slice (some ⟨h4, 0, none⟩) (k + 1) c4)).heap[w.heap.size]? = some (.cells #[.slice none 0 0] 25 (0, 0)) := by
  have hgw := hR.lt
  have s2 : wr.heap.size ≤ w2.heap.size := hg2.size
  have s3 : w2.heap.size + 1 ≤ w3.heap.size := by have := hg3.size; simpa using this
  have s4 : w3.heap.size + 1 ≤ w4.heap.size := by have := hg4.size; simpa using this
  have b4 : ∀ b, b < w3.heap.size → b ≠ h → w4.heap[b]? = w3.heap[b]? := fun b hb hne => (hg4.block b (by simp; omega) (by simp; exact hne)).trans (hp_old w3 C hb)
  have b3 : ∀ b, b < wr.heap.size → b ≠ g → w3.heap[b]? = wr.heap[b]? := fun b hb hne =>
    ((hg3.block b (by simp; omega) (by simp; exact hne)).trans (hp_old w2 L (by omega))).trans (hg2.block b hb (by simp; exact hne))
  have h4b : h4 ≠ w.heap.size + 1 + 1 + 1 := by rcases hat4 with e | e <;> omega
  generalize hW : w4.setCell ⟨w.heap.size + 1 + 1 + 1, 0, none⟩ (.slice (some ⟨h4, 0, none⟩) (k + 1) c4) = W5
  have sW : W5.heap.size = w4.heap.size := by rw [← hW]; simp [World.setCell]
  have b5 : ∀ b, b ≠ w.heap.size + 1 + 1 + 1 → W5.heap[b]? = w4.heap[b]? := fun b hb => by rw [← hW]; exact heap_setCell_other w4 _ b _ hb
  have hd : ∀ b, b < wr.heap.size → b ≠ g → b ≠ h → b ≠ w.heap.size + 1 + 1 + 1 → W5.heap[b]? = wr.heap[b]? := fun b h1 h2 h3 h5 => (b5 b h5).trans ((b4 b (by omega) h3).trans (b3 b h1 h2))
  refine ⟨by omega, by rcases hat4 with e | e <;> omega, by rcases hat4 with e | e <;> omega, h4b, by rcases hat4 with e | e <;> omega, ?_, ?_, ?_, ?_, ?_, ?_, by omega, ?_⟩
  · intro x hx
    rcases List.mem_append.1 hx with hx | hx
    · exact hokx x hx
    · simp at hx; subst hx
      simp at hv3
      refine ⟨hnmk, ?_, ?_⟩ <;> (show _ ≤ _; simp only []; omega)
  · rw [← hW]; exact own_set (by simpa [Enc.cells] using hown4) h4b _
  · rw [← hW]
    have := heap_setCell_same w4 (w.heap.size + 1 + 1 + 1) 0 #[.slice (some ⟨h, 0, none⟩) k c] 25 (.slice (some ⟨h4, 0, none⟩) (k + 1) c4) hbx4
    simpa using this
  · exact hnm.block (by omega) (fun _ a e => by injection e with e; rw [← e]; exact hd _ (by show w.heap.size + 1 < _; omega) (by show w.heap.size + 1 ≠ g; omega) (by show w.heap.size + 1 ≠ h; omega) (by show w.heap.size + 1 ≠ _; omega))
  · refine ⟨(b5 g (by omega)).trans ((b4 g hR3.lt (by omega)).trans hR3.row), hR3.sl.block (by omega) (fun hn a e => ?_), hR3.off, hR3.few⟩
    have := hR.sl.under hn a e
    exact (b5 _ (by omega)).trans (b4 _ (by omega) (by omega))
  · refine ⟨?_, ?_, ?_, by have := hgr.size; omega, fun i hi hne => ?_⟩
    · rw [← hW]; exact hg4.os.trans (hg3.os.trans (hg2.os.trans hgr.os))
    · rw [← hW]; exact hg4.tape.trans (hg3.tape.trans (hg2.tape.trans hgr.tape))
    · rw [← hW]; exact hg4.output.trans (hg3.output.trans (hg2.output.trans hgr.output))
    · exact (hd i (by omega) (fun e => hne (by rw [e])) (by omega) (by omega)).trans (hgr.block i hi hne)
  · exact (hd _ (by omega) (by omega) (by omega) (by omega)).trans hrs

/-- a drawn tree: its names, its parents -/
def GT (k : Nat) (xs : List Cls) : Prop := xs.length = k ∧ ∀ i (h : i < xs.length), names8[i]? = some xs[i].name ∧ (i = 0 → xs[i].parent = -1) ∧ (0 < i → 0 ≤ xs[i].parent ∧ xs[i].parent ≤ (i : Int) - 1)
theorem GT.one : GT 1 [⟨⟨#[97, 110, 121]⟩, -1⟩] := ⟨rfl, fun i h => by
  have e : i = 0 := by simp at h; omega
  subst e
  exact ⟨rfl, fun _ => rfl, fun h => absurd h (by omega)⟩⟩
theorem GT.snoc {k : Nat} {xs : List Cls} {v : Int} {nm : ByteArray} (h : GT k xs) (hk : 1 ≤ k) (hn : names8[k]? = some nm) (hv : 0 ≤ v ∧ v ≤ (k : Int) - 1) : GT (k + 1) (xs ++ [(⟨nm, v⟩ : Cls)]) := by
  refine ⟨by simp [h.1], fun i hi => ?_⟩
  have hi2 : i < k + 1 := by have h1 := hi; rw [List.length_append, h.1] at h1; exact h1
  by_cases e : i = k
  · subst e
    have e2 : (xs ++ [(⟨nm, v⟩ : Cls)])[i] = ⟨nm, v⟩ := by
      have := List.getElem_concat_length (l := xs) (a := (⟨nm, v⟩ : Cls)) (i := i) h.1.symm hi
      exact this
    rw [e2]
    exact ⟨hn, fun h0 => absurd h0 (by omega), fun _ => hv⟩
  · have hi3 : i < xs.length := by rw [h.1]; omega
    have e2 : (xs ++ [(⟨nm, v⟩ : Cls)])[i] = xs[i] := List.getElem_append_left hi3
    rw [e2]
    exact h.2 i hi3
def TreeOutG (k g p : Nat) (A : Option Addr) (n cap : Nat) (bs : List By) (w : World) (e : Ending) (w' : World) : Prop :=
  ∃ (h m c p' : Nat) (xs : List Cls), e = .returned (.agg #[.slice (some ⟨h, 0, none⟩) m c]) ∧ w'.ownsRow w.heap.size 97 2 (.slice (some ⟨h, 0, none⟩) m c) m (xs.flatMap Enc.cells) ∧ (∀ x ∈ xs, Enc.ok x) ∧ 1 ≤ m ∧ m ≤ 8 ∧ p' ≤ p + k ∧ Rd w' g p' A n cap bs ∧ Gx g w w' ∧ GT m xs
set_option maxHeartbeats 20000000 in
set_option maxRecDepth 100000 in
theorem goodTree_good (g p : Nat) (A : Option Addr) (n cap : Nat) (bs : List By) (w : World) (hp : p ≤ 900000) (hR : Rd w g p A n cap bs) :
    Calls Try.prog 75 #[.pointer (some ⟨g, 0, none⟩)] w (TreeOutG 15 g p A n cap bs w) := by
  have hgw := hR.lt
  have hoffw : Hid (0 < n → Off w.heap.size A) := fun hn => by
    obtain ⟨b, off, e, hb, _⟩ := hR.sl.at_ hn
    exact fun a ea => by rw [e] at ea; injection ea with ea; rw [← ea]; exact Nat.ne_of_lt hb
  go_enter Try.func75, Try.ntmps75
  go_wp2_with fail
  generalize hWd : ((((w.alloc _).alloc _).alloc _).alloc _).alloc _ = W
  have r0 : W.heap[w.heap.size]? = some (.cells #[.slice none 0 0] 25 (0, 0)) := by
    rw [← hWd, hp_old _ _ (by simp; omega), hp_old _ _ (by simp; omega), hp_old _ _ (by simp; omega), hp_old _ _ (by simp), hp_new _ _ rfl]
  have r1 : W.heap[w.heap.size + 1]? = some (.cells (names8.map Value.string).toArray 9 (0, 0)) := by
    rw [← hWd, hp_old _ _ (by simp), hp_old _ _ (by simp), hp_old _ _ (by simp), hp_new _ _ (by simp)]; rfl
  have r2 : W.heap[w.heap.size + 1 + 1]? = some (.cells #[.string ⟨#[97, 110, 121]⟩, .int .i64 (-1)] 97 (0, 0)) := by
    rw [← hWd, hp_old _ _ (by simp), hp_old _ _ (by simp), hp_new _ _ (by simp)]
  have r3 : W.heap[w.heap.size + 1 + 1 + 1]? = some (.cells #[.slice (some ⟨w.heap.size + 1 + 1, 0, none⟩) 1 1] 25 (0, 0)) := by
    rw [← hWd, hp_old _ _ (by simp), hp_new _ _ (by simp)]
  have r4 : W.heap[w.heap.size + 1 + 1 + 1 + 1]? = some (.cells #[.int .i64 4, .int .i64 5, .int .i64 3, .int .i64 6, .int .i64 2, .int .i64 1, .int .i64 8] 3 (0, 0)) := by
    rw [← hWd, hp_new _ _ (by simp)]
  have hle : Le w W := by rw [← hWd]; exact ((((Le.new w _).alloc _).alloc _).alloc _).alloc _
  have hsz : w.heap.size + 4 < W.heap.size := by rw [← hWd]; simp
  clear hWd
  have hwW : Hid (∀ k, w.heap.size ≤ k → k ≠ g) := fun k hk e => by omega
  have hn8 : Sl W (some ⟨w.heap.size + 1, 0, none⟩) 8 8 names8 := Sl.of_row r1 (by rfl) rfl (by omega) (by intro x hx; simp [names8] at hx; rcases hx with rfl | rfl | rfl | rfl | rfl | rfl | rfl | rfl <;> (show _ ≤ _; decide))
  have hi7 : Sl W (some ⟨w.heap.size + 1 + 1 + 1 + 1, 0, none⟩) 7 7 ([4, 5, 3, 6, 2, 1, 8] : List Int) := Sl.of_row r4 (by rfl) rfl (by omega) (by intro x hx; simp at hx; rcases hx with rfl | rfl | rfl | rfl | rfl | rfl | rfl <;> (constructor <;> decide))
  have hown : W.ownsRow w.heap.size 97 2 (.slice (some ⟨w.heap.size + 1 + 1, 0, none⟩) 1 1) 1 (([⟨⟨#[97, 110, 121]⟩, -1⟩] : List Cls).flatMap Enc.cells) :=
    ⟨rfl, .inr ⟨_, 1, _, rfl, by omega, r2, by omega, by simp [maxLen], rfl, rfl⟩⟩
  refine (one_any _ 7 7 _ g p A n cap bs W (by omega) (by omega) (by omega) hi7 (fun _ a e => by injection e with e; rw [← e]; exact hwW.out _ (by show _ ≤ w.heap.size + 1 + 1 + 1 + 1; omega)) (hR.le hle)).mono ?_
  rintro e w1 ⟨v, rfl, hv, hR1, hg1⟩
  have hv1 : 1 ≤ v ∧ v ≤ 8 := by simp at hv; omega
  clear hv hi7 r4
  have hgx := (Gx.of_le (g := g) hle).trans hg1
  have hown1 := hown.kept hg1 (.inr (by simp [Value.ownBlock]; exact hwW.out _ (by omega)))
  have hn81 := hn8.gx (fun _ a e => by injection e with e; rw [← e]; exact hwW.out _ (by show _ ≤ w.heap.size + 1; omega)) hg1
  have hbox := (hg1.block _ (by omega) (by simp; exact hwW.out _ (by omega))).trans r3
  have hres := (hg1.block _ (by omega) (by simp; exact hwW.out _ (by omega))).trans r0
  have hs1 := hg1.size
  clear hown hn8 r0 r1 r2 r3
  obtain ⟨i0, hi0, hz0, hz1, hz2⟩ := info_parts clsInfo
  have hsR : w.heap.size + 4 < w1.heap.size := by omega
  clear hle hs1 hsz hg1
  go_wp2
  go_loopw [6] (fun i wr => ∃ (k h c p' : Nat) (xs : List Cls), i = .int .i64 k ∧ 1 ≤ k ∧ k ≤ 8 ∧ p' + 1 ≤ p + 2 * k ∧ w.heap.size ≤ h ∧ h ≠ w.heap.size + 1 ∧ h ≠ w.heap.size + 1 + 1 + 1 ∧ h ≠ w.heap.size ∧ (∀ x ∈ xs, Enc.ok x) ∧
      wr.ownsRow w.heap.size 97 2 (.slice (some ⟨h, 0, none⟩) k c) k (xs.flatMap Enc.cells) ∧ wr.heap[w.heap.size + 1 + 1 + 1]? = some (.cells #[.slice (some ⟨h, 0, none⟩) k c] 25 (0, 0)) ∧
      Sl wr (some ⟨w.heap.size + 1, 0, none⟩) 8 8 names8 ∧ Rd wr g p' A n cap bs ∧ Gx g w wr ∧ w.heap.size + 4 < wr.heap.size ∧ wr.heap[w.heap.size]? = some (.cells #[.slice none 0 0] 25 (0, 0)) ∧ Hid (GT k xs)) (fun i _ => 8 - (intOf i).toNat)
  case atStart =>
    exact ⟨1, w.heap.size + 1 + 1, 1, p + 1, [⟨⟨#[97, 110, 121]⟩, -1⟩], rfl, by omega, by omega, by omega, by omega, by omega, by omega, by omega, (by intro x hx; simp at hx; subst hx; exact ⟨by decide, by decide, by decide⟩), hown1, hbox, hn81, hR1, hgx, hsR, hres, GT.one⟩
  case round =>
    obtain ⟨k, h, c, p', xs, rfl, hk1, hk8, hp', hh0, hh1, hh2, hh3, hokx, hown, hbx, hnm, hRr, hgr, hsr, hrs, HGT⟩ := hrel
    clear hown1 hbox hn81 hR1 hgx hsR hres
    have hbc : wr.cell? ⟨w.heap.size + 1 + 1 + 1, 0, none⟩ = some (.slice (some ⟨h, 0, none⟩) k c) := (cell_of_row wr _ 0 _ _ _ hbx).trans rfl
    by_cases hkv : (k : Int) < v
    · have hk7 : k < 8 := by omega
      obtain ⟨bn, on, e, _, hnc⟩ := hnm.str_at (k := k) (by show k < 8; exact hk7)
      injection e with e
      injection e with e1 e2
      subst e1; subst e2
      have hne3 := hwW.out (w.heap.size + 1 + 1 + 1) (by omega)
      have hne1 := hwW.out (w.heap.size + 1) (by omega)
      have hneh := hwW.out h hh0
      have hg0 := hRr.lt
      have hRd : Rd wr.drew g p' A n cap bs := hRr.le (Le.refl _).drew
      have hk7i : (k : Int) < 8 := by omega
      have hk0i : (0 : Int) ≤ (k : Int) := by omega
      have hwk : IntKind.i64.wrap ((k : Int) - 1) = (k : Int) - 1 := IntWalk.i64_in _ (by omega)
      rw [Nat.zero_add] at hnc
      have hbd : wr.drew.cell? ⟨w.heap.size + 1 + 1 + 1, 0, none⟩ = some (.slice (some ⟨h, 0, none⟩) k c) := hbc
      have hnd : wr.drew.cell? ⟨w.heap.size + 1, k, none⟩ = some (.string names8[k]) := hnc
      have hsd : wr.drew.heap.size = wr.heap.size := rfl
      have HSD := Lib.hid hsd; clear hsd
      go_wp2_with fail
      refine wp_region_noPanic ?_
      refine wp_region_Z (fun w' => w'.cell? ⟨w.heap.size + 1 + 1 + 1, 0, none⟩ = some (.slice (some ⟨h, 0, none⟩) k c) ∧ w'.cell? ⟨w.heap.size + 1, k, none⟩ = some (.string names8[k])) [18] (by kernel_rfl) ?_
      refine wpAnyZ_take (i := 0) (v := ?_) rfl (by kernel_rfl) (fun _ _ _ h => h) (Or.inl ⟨by rfl, ?_⟩) (⟨hbd, hnd⟩) ?_
      rotate_left 1
      · (intro w hSw; (try dsimp only at hSw); go_simp; try with_reducible rfl)
      try simp only [Act.put, List.setIfInBounds_toArray, List.set_cons_zero, List.set_cons_succ]
      refine wpAnyZ_take (i := 1) (v := ?_) rfl (by kernel_rfl) (fun _ _ _ h => h) (Or.inl ⟨by rfl, ?_⟩) (⟨hbd, hnd⟩) ?_
      rotate_left 1
      · (intro w hSw; (try dsimp only at hSw); go_simp; try with_reducible rfl)
      try simp only [Act.put, List.setIfInBounds_toArray, List.set_cons_zero, List.set_cons_succ]
      refine wpAnyZ_take (i := 2) (v := ?_) rfl (by kernel_rfl) (fun _ _ _ h => h) (Or.inl ⟨by rfl, ?_⟩) (⟨hbd, hnd⟩) ?_
      rotate_left 1
      · (intro w hSw; (try dsimp only at hSw); go_simp; try with_reducible rfl)
      try simp only [Act.put, List.setIfInBounds_toArray, List.set_cons_zero, List.set_cons_succ]
      refine wpAnyZ_take (i := 3) (v := ?_) rfl (by kernel_rfl) (fun _ _ _ h => h) (Or.inl ⟨by rfl, ?_⟩) (⟨hbd, hnd⟩) ?_
      rotate_left 1
      · (intro w hSw; (try dsimp only at hSw); go_simp; try with_reducible rfl)
      try simp only [Act.put, List.setIfInBounds_toArray, List.set_cons_zero, List.set_cons_succ]
      refine wpAnyZ_take (i := 4) (v := ?_) rfl (by kernel_rfl) (fun _ _ _ h => h) (Or.inl ⟨by rfl, ?_⟩) (⟨hbd, hnd⟩) ?_
      rotate_left 1
      · (intro w hSw; (try dsimp only at hSw); go_simp; try with_reducible rfl)
      try simp only [Act.put, List.setIfInBounds_toArray, List.set_cons_zero, List.set_cons_succ]
      refine wpAnyZ_take (i := 5) (v := ?_) rfl (by kernel_rfl) (fun _ _ _ h => h) (Or.inl ⟨by rfl, ?_⟩) (⟨hbd, hnd⟩) ?_
      rotate_left 1
      · (intro w hSw; (try dsimp only at hSw); go_simp; try with_reducible rfl)
      try simp only [Act.put, List.setIfInBounds_toArray, List.set_cons_zero, List.set_cons_succ]
      refine wpAnyZ_take (i := 6) (v := ?_) rfl (by kernel_rfl) (fun _ _ _ h => h) (Or.inl ⟨by rfl, ?_⟩) (⟨hbd, hnd⟩) ?_
      rotate_left 1
      · (intro w hSw; (try dsimp only at hSw); go_simp; try with_reducible rfl)
      try simp only [Act.put, List.setIfInBounds_toArray, List.set_cons_zero, List.set_cons_succ]
      refine wpAnyZ_take (i := 7) (v := ?_) rfl (by kernel_rfl) (fun _ _ _ h => h) (Or.inl ⟨by rfl, ?_⟩) (⟨hbd, hnd⟩) ?_
      rotate_left 1
      · (intro w hSw; (try dsimp only at hSw); go_simp; try with_reducible rfl)
      try simp only [Act.put, List.setIfInBounds_toArray, List.set_cons_zero, List.set_cons_succ]
      refine wpAnyZ_take (i := 8) (v := ?_) rfl (by kernel_rfl) (fun _ _ _ h => h) (Or.inl ⟨by rfl, ?_⟩) (⟨hbd, hnd⟩) ?_
      rotate_left 1
      · (intro w hSw; (try dsimp only at hSw); go_simp; try with_reducible rfl)
      try simp only [Act.put, List.setIfInBounds_toArray, List.set_cons_zero, List.set_cons_succ]
      refine wpAnyZ_take (i := 10) (v := ?_) rfl (by kernel_rfl) (fun _ _ _ h => h) (Or.inl ⟨by rfl, ?_⟩) (⟨hbd, hnd⟩) ?_
      rotate_left 1
      · (intro w hSw; (try dsimp only at hSw); go_simp; try with_reducible rfl)
      try simp only [Act.put, List.setIfInBounds_toArray, List.set_cons_zero, List.set_cons_succ]
      refine wpAnyZ_take (i := 11) (v := ?_) rfl (by kernel_rfl) (fun _ _ _ h => h) (Or.inl ⟨by rfl, ?_⟩) (⟨hbd, hnd⟩) ?_
      rotate_left 1
      · (intro w hSw; (try dsimp only at hSw); go_simp; try with_reducible rfl)
      try simp only [Act.put, List.setIfInBounds_toArray, List.set_cons_zero, List.set_cons_succ]
      refine wpAnyZ_one (i := 9) (by kernel_rfl) (ReadyZ.mk rfl (fun K hK => ?_))
      go_simp
      go_at_call 55
      refine (pick_any k g p' A n cap bs _ (by omega) (by omega) (by omega) hRd).mono ?_
      rintro e w2 ⟨v2, rfl, hv20, hv21, hR2, hg2⟩
      have HV2 : Hid (0 ≤ v2 ∧ v2 ≤ (k : Int) - 1) := by rcases hv21 with h | h <;> exact ⟨hv20, by omega⟩
      have hs2 : wr.heap.size ≤ w2.heap.size := hg2.size
      have hl2a : w.heap.size + 1 < w2.heap.size := by omega
      have hl2b : w.heap.size + 1 + 1 + 1 < w2.heap.size := by omega
      have hb2 := (hg2.cell (k := w.heap.size + 1 + 1 + 1) (o := 0) (by have := HSD.out; omega) hne3).trans hbd
      have hn2 := (hg2.cell (k := w.heap.size + 1) (o := k) (by have := HSD.out; omega) hne1).trans hnd
      refine hK.out _ _ (fun _ => ⟨hb2, hn2⟩) ?_
      clear hK K
      try simp only [Act.put, List.setIfInBounds_toArray, List.set_cons_zero, List.set_cons_succ]
      refine wpAnyZ_one (i := 12) (by kernel_rfl) (ReadyZ.mk rfl (fun K hK => ?_))
      go_simp
      refine hK.out _ _ (fun _ => ⟨((Le.new w2 (.cells #[.int .i64 0, .int .i64 v2, .int .i64 ((k : Int) - 1)] 3)).cell (by omega)).trans hb2, ((Le.new w2 (.cells #[.int .i64 0, .int .i64 v2, .int .i64 ((k : Int) - 1)] 3)).cell (by omega)).trans hn2⟩) ?_
      clear hK K
      try simp only [Act.put, List.setIfInBounds_toArray, List.set_cons_zero, List.set_cons_succ]
      refine wpAnyZ_one (i := 13) (by kernel_rfl) (ReadyZ.mk rfl (fun K hK => ?_))
      go_simp
      go_at_call 50
      refine (one_any _ 3 3 [0, v2, (k : Int) - 1] g (p' + 1) A n cap bs _ (by omega) (by omega) (by omega) (Sl.of_row (hp_new _ _ rfl) (by rfl) rfl (by omega) (by intro x hx; simp at hx; rcases hx with rfl | rfl | rfl <;> (constructor <;> omega))) (fun _ a e => by injection e with e; rw [← e]; show w2.heap.size ≠ g; have := hR2.lt; omega) (hR2.le (Le.new _ _))).mono ?_
      rintro e w3 ⟨v3, rfl, hv3, hR3, hg3⟩
      have hs3 : w2.heap.size < w3.heap.size := by have := hg3.size; simp at this; omega
      have hl3a : w.heap.size + 1 < w3.heap.size := by omega
      have hl3b : w.heap.size + 1 + 1 + 1 < w3.heap.size := by omega
      have hown3 := ((hown.drew.kept hg2 (.inr (by simp [Value.ownBlock]; exact hneh))).alloc (.cells #[.int .i64 0, .int .i64 v2, .int .i64 ((k : Int) - 1)] 3)).kept hg3 (.inr (by simp [Value.ownBlock]; exact hneh))
      have hbx3 := ((hg3.block (w.heap.size + 1 + 1 + 1) (by have := HSD.out; simp; omega) (by simp; exact hne3)).trans (hp_old w2 _ (by have := HSD.out; omega))).trans ((hg2.block (w.heap.size + 1 + 1 + 1) (by have := HSD.out; omega) (by simp; exact hne3)).trans hbx)
      have hb3 := ((cell_of_row w3 _ 0 _ _ _ hbx3).trans rfl : w3.cell? ⟨w.heap.size + 1 + 1 + 1, 0, none⟩ = some (.slice (some ⟨h, 0, none⟩) k c))
      have hn3 := ((hg3.cell (k := w.heap.size + 1) (o := k) (by simp; omega) hne1).trans ((Le.new w2 _).cell (by omega))).trans hn2
      refine hK.out _ _ (fun _ => ⟨hb3, hn3⟩) ?_
      clear hK K
      try simp only [Act.put, List.setIfInBounds_toArray, List.set_cons_zero, List.set_cons_succ]
      refine wpAnyZ_take (i := 14) (v := ?_) rfl (by kernel_rfl) (fun _ _ _ h => h) (Or.inl ⟨by rfl, ?_⟩) (⟨hb3, hn3⟩) ?_
      rotate_left 1
      · (intro w hSw; (try dsimp only at hSw); go_simp; try with_reducible rfl)
      try simp only [Act.put, List.setIfInBounds_toArray, List.set_cons_zero, List.set_cons_succ]
      refine wpAnyZ_one (i := 15) (by kernel_rfl) (ReadyZ.mk rfl (fun K hK => ?_))
      go_simp
      have hnC := ((Le.new w3 (.cells #[.string names8[k], .int .i64 v3] 97)).cell (by omega)).trans hn3
      refine hK.out _ _ (fun _ => ⟨((Le.new w3 (.cells #[.string names8[k], .int .i64 v3] 97)).cell (by omega)).trans hb3, hnC⟩) ?_
      clear hK K
      try simp only [Act.put, List.setIfInBounds_toArray, List.set_cons_zero, List.set_cons_succ]
      refine wpAnyZ_one (i := 16) (by kernel_rfl) (ReadyZ.mk rfl (fun K hK => ?_))
      refine step_append_lies _ rfl (.tmp 20) (.tmp 34) 23 rfl w.heap.size 97 i0 _ 2 24 Try.underlying23 hi0 hz0 hz1 hz2 rfl (by omega) (.slice (some ⟨h, 0, none⟩) k c) k _ rfl (hown3.alloc _) ⟨w3.heap.size, 0, none⟩ 1 1 [.string names8[k], .int .i64 v3] rfl rfl (cell_two_new _ _ _ _) (by intro u hu; simp at hu; rcases hu with rfl | rfl <;> rfl) (by omega) (by unfold maxLen; omega) (by omega) (by have := HSD.out; simp; omega) (w3.heap.size + 1) (by simp) ?_
      intro h4 c4 w4 hown4 hg4 hat4 hlt4
      have hbx4 := (hg4.block (w.heap.size + 1 + 1 + 1) (by have := HSD.out; simp; omega) (by simp [Value.ownBlock]; exact Ne.symm hh2)).trans ((hp_old w3 _ (by have := HSD.out; omega)).trans hbx3)
      have hb4 := ((cell_of_row w4 _ 0 _ _ _ hbx4).trans rfl : w4.cell? ⟨w.heap.size + 1 + 1 + 1, 0, none⟩ = some (.slice (some ⟨h, 0, none⟩) k c))
      have hf4 := frozen_of_row w4 (w.heap.size + 1 + 1 + 1) 0 _ _ hbx4
      have hn4 := hg4.cell (a := ⟨w.heap.size + 1, k, none⟩) hnC (by simp [Value.ownBlock]; exact Ne.symm hh1)
      refine hK.out _ _ (fun _ => ⟨hb4, hn4⟩) ?_
      clear hK K
      try simp only [Act.put, List.setIfInBounds_toArray, List.set_cons_zero, List.set_cons_succ]
      refine wpAnyZ_take (i := 17) (v := ?_) rfl (by kernel_rfl) (fun _ _ _ h => h) (Or.inl ⟨by rfl, ?_⟩) (⟨hb4, hn4⟩) ?_
      rotate_left 1
      · (intro w hSw; (try dsimp only at hSw); go_simp; try with_reducible rfl)
      try simp only [Act.put, List.setIfInBounds_toArray, List.set_cons_zero, List.set_cons_succ]
      refine wpAnyZ_one (i := 18) (by kernel_rfl) (ReadyZ.mk rfl (fun K hK => ?_))
      go_simp
      refine hK.out _ _ (fun h => absurd h (by decide)) ?_
      clear hK K
      try simp only [Act.put, List.setIfInBounds_toArray, List.set_cons_zero, List.set_cons_succ]
      refine wpAnyZ_done (by kernel_rfl) ?_ _
      refine NoPanic.normal ?_
      go_wp2
      go_roundw
      case rel =>
        have hnk : names8[k].size ≤ 9223372036854775807 := hnm.ok _ (List.getElem_mem _)
        obtain ⟨q1, q2, q3, q4, q5, q6, q7, q8, q9, q10, q11, q12, q13⟩ := gt_step hR hk1 hk7 hp' hh0 hh1 hh2 hh3 hokx hnk hnm hrs hsr hgr hv3 hv20 (by omega) hg2 hg3 hR3 hown4 hg4 (by simpa [Value.ownBlock] using hat4) hbx4
        exact ⟨k + 1, h4, c4, p' + 1 + 1, _, by go_num, by omega, by omega, q1, q2, q3, q4, q5, q6, q7, q8, q9, q10, q11, q12, q13, HGT.out.snoc hk1 (List.getElem?_eq_getElem _) (by simp at hv3; have := HV2.out; omega)⟩
      case measure => simp [intOf]; omega
    · have hrc : wr.cell? ⟨w.heap.size, 0, none⟩ = some (.slice none 0 0) := (cell_of_row wr _ 0 _ _ _ hrs).trans rfl
      have hrf := frozen_of_row wr w.heap.size 0 _ _ hrs
      have hend : ∀ u, (wr.setCell ⟨w.heap.size, 0, none⟩ u).cell? ⟨w.heap.size, 0, none⟩ = some u := fun u => cell_set_same hrc
      have hne0 := hwW.out w.heap.size (Nat.le_refl _)
      go_wp2
      refine bodyPost_ret (v := .agg #[.slice (some ⟨h, 0, none⟩) k c]) (by simp [results, Try.results75, go_sem, hend]) rfl ⟨h, k, c, p', xs, rfl, own_set hown hh3 _, hokx, hk1, hk8, by omega, ⟨?_, hRr.sl.gx ?_ (Gx.set w.heap.size 0 wr _), hRr.off, hRr.few⟩, ?_, ?_⟩
      · rw [heap_setCell_other _ _ _ _ (by show g ≠ w.heap.size; exact Ne.symm hne0)]; exact hRr.row
      · exact fun hn => hoffw.out hn
      · exact hgr.setNew (Nat.le_refl _) _
      · exact HGT.out
theorem goodTree_any (g p : Nat) (A : Option Addr) (n cap : Nat) (bs : List By) (w : World) (hp : p ≤ 900000) (hR : Rd w g p A n cap bs) :
    Calls Try.prog 75 #[.pointer (some ⟨g, 0, none⟩)] w (TreeOut 15 g p A n cap bs w) :=
  (goodTree_good g p A n cap bs w hp hR).mono fun _ _ ⟨h, m, c, p', xs, h1, h2, h3, h4, h5, h6, h7, h8, _⟩ => ⟨h, m, c, p', xs, h1, h2, h3, h4, h5, h6, h7, h8⟩
end

section
def SomeOut (k g p : Nat) (A : Option Addr) (n cap : Nat) (bs : List By) (w : World) (e : Ending) (w' : World) : Prop :=
  ∃ (B : Option Addr) (m c p' : Nat) (xs : List Cls), e = .returned (.agg #[.slice B m c]) ∧ Sl w' B m c xs ∧ m ≤ 8 ∧ (0 < m → Off g B) ∧ (0 < m → ∀ a, B = some a → w.heap.size < a.block) ∧ p' ≤ p + k ∧ Rd w' g p' A n cap bs ∧ Gx g w w'

def four4 : List ByteArray := [⟨#[]⟩, ⟨#[97, 110, 121]⟩, ⟨#[65]⟩, ⟨#[116, 111, 111, 108, 111, 110, 103]⟩]
theorem four_ok : ∀ x ∈ four4, Enc.ok x := by
  intro x hx
  simp [four4] at hx
  rcases hx with rfl | rfl | rfl | rfl <;> (show _ ≤ _; decide)
theorem flat_name : ∀ (xs : List Cls) (k : Nat) (h : k < xs.length) (s : ByteArray), (xs.flatMap Enc.cells).set (k * 2) (.string s) = (xs.set k ⟨s, xs[k].parent⟩).flatMap Enc.cells
  | x :: r, 0, _, s => rfl
  | x :: r, k + 1, h, s => by
    have ih := flat_name r k (by simpa using h) s
    have e : (k + 1) * 2 = k * 2 + 1 + 1 := by omega
    rw [e]
    show Value.string x.name :: Value.int .i64 x.parent :: (r.flatMap Enc.cells).set (k * 2) (.string s) = _
    rw [ih]; rfl
theorem flat_parent : ∀ (xs : List Cls) (k : Nat) (h : k < xs.length) (z : Int), (xs.flatMap Enc.cells).set (k * 2 + 1) (.int .i64 z) = (xs.set k ⟨xs[k].name, z⟩).flatMap Enc.cells
  | x :: r, 0, _, z => rfl
  | x :: r, k + 1, h, z => by
    have ih := flat_parent r k (by simpa using h) z
    have e : (k + 1) * 2 + 1 = k * 2 + 1 + 1 + 1 := by omega
    rw [e]
    show Value.string x.name :: Value.int .i64 x.parent :: (r.flatMap Enc.cells).set (k * 2 + 1) (.int .i64 z) = _
    rw [ih]; rfl
theorem own_sl' {w : World} {base g n cap : Nat} {xs : List Cls} (h : w.ownsRow base 97 2 (.slice (some ⟨g, 0, none⟩) n cap) n (xs.flatMap Enc.cells)) (hok : ∀ x ∈ xs, Enc.ok x) : Sl w (some ⟨g, 0, none⟩) n cap xs := Sl.of_own h rfl (by decide) hok
theorem some_rd {g p4 n cap b : Nat} {A : Option Addr} {bs : List By} {w4 : World} (hR4 : Rd w4 g p4 A n cap bs) (hb : b ≠ g) (how : 0 < n → Off b A) (u : Value) : Rd (w4.setCell ⟨b, 0, none⟩ u) g p4 A n cap bs :=
  ⟨(heap_setCell_other w4 ⟨b, 0, none⟩ g u (Ne.symm hb)).trans hR4.row, hR4.sl.gx how (Gx.set b 0 w4 u), hR4.off, hR4.few⟩
theorem some_end {g p p4 n cap h m c base : Nat} {A : Option Addr} {bs : List By} {w w4 : World} {xs : List Cls} (hgw : g < w.heap.size) (hR4 : Rd w4 g p4 A n cap bs) (gx4 : Gx g w w4) (how : Hid (0 < n → Off w.heap.size A))
    (own4 : w4.ownsRow base 97 2 (.slice (some ⟨h, 0, none⟩) m c) m (xs.flatMap Enc.cells)) (hok : ∀ x ∈ xs, Enc.ok x) (hh : w.heap.size < h) (hm : m ≤ 8) (hp : p4 ≤ p + 18) (u : Value) :
    SomeOut 18 g p A n cap bs w (.returned (.agg #[.slice (some ⟨h, 0, none⟩) m c])) (w4.setCell ⟨w.heap.size, 0, none⟩ u) :=
  ⟨_, m, c, p4, xs, rfl, own_sl' (own_set own4 (by omega) u) hok, hm, fun _ a e => by injection e with e; rw [← e]; show h ≠ g; omega, fun _ a e => by injection e with e; rw [← e]; exact hh, hp, some_rd hR4 (by omega) how.out u, gx4.setNew (Nat.le_refl _) u⟩
theorem some_none {g p p4 n cap : Nat} {A : Option Addr} {bs : List By} {w w4 : World} (hgw : g < w.heap.size) (hR4 : Rd w4 g p4 A n cap bs) (gx4 : Gx g w w4) (how : Hid (0 < n → Off w.heap.size A)) (hp : p4 ≤ p + 18) (u : Value) :
    SomeOut 18 g p A n cap bs w (.returned (.agg #[.slice none 0 0])) (w4.setCell ⟨w.heap.size, 0, none⟩ u) :=
  ⟨none, 0, 0, p4, [], rfl, Sl.nil _ _ _ (by omega), by omega, fun h => absurd h (by omega), fun h => absurd h (by omega), hp, some_rd hR4 (by omega) how.out u, gx4.setNew (Nat.le_refl _) u⟩

set_option maxHeartbeats 4000000 in
set_option maxRecDepth 100000 in
theorem someTree_any (g p : Nat) (A : Option Addr) (n cap : Nat) (bs : List By) (w : World) (hp : p ≤ 800000) (hR : Rd w g p A n cap bs) :
    Calls Try.prog 53 #[.pointer (some ⟨g, 0, none⟩)] w (SomeOut 18 g p A n cap bs w) := by
  have hgw := hR.lt
  go_enter Try.func53, Try.ntmps53
  go_wp2_with fail
  generalize hWd : w.alloc _ = W0
  have hl0 : Le w W0 := by rw [← hWd]; exact Le.new w _
  have r0 : W0.heap[w.heap.size]? = some (.cells #[.slice none 0 0] 25 (0, 0)) := by rw [← hWd]; exact hp_new _ _ rfl
  clear hWd
  refine (goodTree_any g p A n cap bs W0 (by omega) (hR.le hl0)).mono ?_
  rintro e w1 ⟨h, m, c, p1, xs, rfl, hown, hok, hm1, hm8, hp1, hR1, hg1⟩
  go_wp2_with fail
  have hl1 := Le.new w1 (.cells #[.slice (some ⟨h, 0, none⟩) m c] 25)
  have hs01 : W0.heap.size ≤ w1.heap.size := hg1.size
  have hs0 : w.heap.size < W0.heap.size := by
    rcases Nat.lt_or_ge w.heap.size W0.heap.size with hlt | hge
    · exact hlt
    · rw [Array.getElem?_eq_none hge] at r0; cases r0
  have hhl := own_lt hown
  have hh0 : W0.heap.size ≤ h := (hown.lt h rfl).1
  refine (pick_any m g p1 A n cap bs _ (by omega) (by omega) (by omega) (hR1.le hl1)).mono ?_
  rintro e w2 ⟨v, rfl, hv0, hv1, hR2, hg2⟩
  obtain ⟨k, rfl⟩ := Int.eq_ofNat_of_zero_le hv0
  have hkm : k < m := by rcases hv1 with h | h <;> omega
  have hs2 : w1.heap.size < w2.heap.size := by have := hg2.size; simp at this; omega
  have b2 := (hg2.block w1.heap.size (by simp) (by simp; omega)).trans (hp_new w1 _ rfl)
  have q2 := ((hg2.block w.heap.size (by simp; omega) (by simp; omega)).trans (hp_old w1 _ (by omega))).trans ((hg1.block w.heap.size (by omega) (by simp; omega)).trans r0)
  have own2 := (hown.alloc (.cells #[.slice (some ⟨h, 0, none⟩) m c] 25)).kept hg2 (.inr (by simp [Value.ownBlock]; omega))
  have gx2 : Gx g w w2 := ((Gx.of_le hl0).trans hg1).trans ((Gx.of_le hl1).trans hg2)
  clear hg1 hg2 hR1 hown hl0 hl1 r0 hv0 hv1
  have c2 := (cell_of_row w2 _ 0 _ _ _ b2).trans rfl
  go_wp2_with fail
  refine (pick_any 24 g (p1 + 1) A n cap bs _ (by omega) (by omega) (by omega) hR2).mono ?_
  rintro e w3 ⟨v, rfl, hv0, hv1, hR3, hg3⟩
  have hs3 : w2.heap.size ≤ w3.heap.size := hg3.size
  have b3 := (hg3.block w1.heap.size (by omega) (by simp; omega)).trans b2
  have q3 := (hg3.block w.heap.size (by omega) (by simp; omega)).trans q2
  have own3 := own2.kept hg3 (.inr (by simp [Value.ownBlock]; omega))
  have gx3 := gx2.trans hg3
  clear hg3 hR2 own2 b2 q2 gx2 c2
  have cb3 := (cell_of_row w3 _ 0 _ _ _ b3).trans rfl
  have cq3 := (cell_of_row w3 _ 0 _ _ _ q3).trans rfl
  have fq3 := frozen_of_row w3 w.heap.size 0 _ _ q3
  have hoffw : 0 < n → Off w.heap.size A := fun hn => by
    obtain ⟨b, off, e, hb, _⟩ := hR.sl.at_ hn
    exact fun a ea => by rw [e] at ea; injection ea with ea; rw [← ea]; exact Nat.ne_of_lt hb
  have HOW := Lib.hid hoffw; clear hoffw
  have hun : 0 < n → ∀ a, A = some a → a.block ≠ h := fun hn a e => by have := hR.sl.under hn a e; omega
  have HUN := Lib.hid hun; clear hun
  by_cases v0 : v = 0
  · subst v0
    have hkm' : (k : Int) < m := by omega
    have hk0' : (0 : Int) ≤ (k : Int) := by omega
    have hRd := hR3.le (Le.refl w3).drew
    have cbd : w3.drew.cell? ⟨w1.heap.size, 0, none⟩ = some (.slice (some ⟨h, 0, none⟩) m c) := cb3
    have hsd : w3.drew.heap.size = w3.heap.size := rfl
    have hxl : xs.length = m := by
      have := own3.1; rw [flat_len] at this
      exact Nat.eq_of_mul_eq_mul_right (by decide : 0 < 2) this
    have HSD := Lib.hid hsd; clear hsd
    have HXL := Lib.hid hxl; clear hxl
    have hfl := own3.1
    have HFL := Lib.hid hfl; clear hfl
    go_wp2
    go_region_held3 (fun w' => w'.cell? ⟨w1.heap.size, 0, none⟩ = some (.slice (some ⟨h, 0, none⟩) m c))
      (first | exact cbd | exact ((Le.new w3.drew _).cell (by have := HSD.out; omega)).trans cbd | exact cb4 | exact (cell_set_other (.inl (by omega))).trans cb4)
      (first
      | (go_at_call 76; refine (of_any _ 4 4 four4 g (p1 + 1 + 1) A n cap bs _ (by omega) (by omega) (by omega) (Sl.of_row (hp_new _ _ rfl) (by rfl) rfl (by omega) four_ok) (fun _ a e => by injection e with e; rw [← e]; show w3.drew.heap.size ≠ g; have := HSD.out; omega) (hRd.le (Le.new _ _))).mono ?_; rintro e w4 ⟨s, rfl, hs, hR4, hg4⟩; have b4 := ((hg4.block w1.heap.size (by have := HSD.out; simp; omega) (by simp; omega)).trans (hp_old w3.drew _ (by have := HSD.out; omega))).trans b3; have cb4 := (cell_of_row w4 _ 0 _ _ _ b4).trans rfl; have q4 := ((hg4.block w.heap.size (by have := HSD.out; simp; omega) (by simp; omega)).trans (hp_old w3.drew _ (by have := HSD.out; omega))).trans q3; have own4 := (own3.drew.alloc (.cells #[.string ⟨#[]⟩, .string ⟨#[97, 110, 121]⟩, .string ⟨#[65]⟩, .string ⟨#[116, 111, 111, 108, 111, 110, 103]⟩] 9)).kept hg4 (.inr (by simp [Value.ownBlock]; omega)); have gx4 := (gx3.trans (Gx.of_le ((Le.refl w3).drew.alloc (.cells #[.string ⟨#[]⟩, .string ⟨#[97, 110, 121]⟩, .string ⟨#[65]⟩, .string ⟨#[116, 111, 111, 108, 111, 110, 103]⟩] 9)))).trans hg4; have hcw : w4.cell? ⟨h, k * 2, none⟩ = some (.string (xs[k]'(by have := HXL.out; omega)).name) := (own4.cellAt (k * 2) (by omega)).trans ((flat_at xs k (by have := HXL.out; omega) 0 (by decide)).trans rfl); have hfw := own4.frozenAt (k * 2)))
    have hset := (own4.stored (k * 2) (.string s)).1
    rw [flat_name xs k (by have := HXL.out; omega)] at hset
    have hok' : ∀ x ∈ xs.set k (⟨s, (xs[k]'(by have := HXL.out; omega)).parent⟩), Enc.ok x := by
      intro x hx
      rcases List.mem_or_eq_of_mem_set hx with hx | rfl
      · exact hok x hx
      · have hko := hok (xs[k]'(by have := HXL.out; omega)) (List.getElem_mem _)
        exact ⟨four_ok s hs, hko.2⟩
    have cq4 := ((cell_of_row w4 _ 0 _ _ _ q4).trans rfl : w4.cell? ⟨w.heap.size, 0, none⟩ = some (.slice none 0 0))
    have fq4 := frozen_of_row w4 w.heap.size 0 _ _ q4
    have cq5 : (w4.setCell ⟨h, k * 2, none⟩ (.string s)).cell? ⟨w.heap.size, 0, none⟩ = some (.slice none 0 0) := (cell_set_other (.inl (by omega))).trans cq4
    have cb5 : (w4.setCell ⟨h, k * 2, none⟩ (.string s)).cell? ⟨w1.heap.size, 0, none⟩ = some (.slice (some ⟨h, 0, none⟩) m c) := (cell_set_other (.inl (by omega))).trans cb4
    have hend : ∀ u, ((w4.setCell ⟨h, k * 2, none⟩ (.string s)).setCell ⟨w.heap.size, 0, none⟩ u).cell? ⟨w.heap.size, 0, none⟩ = some u := fun u => cell_set_same cq5
    have hR5 : Rd (w4.setCell ⟨h, k * 2, none⟩ (.string s)) g (p1 + 1 + 1 + 1) A n cap bs :=
      ⟨(heap_setCell_other w4 ⟨h, k * 2, none⟩ g _ (by show g ≠ h; omega)).trans hR4.row, hR4.sl.gx (fun hn a e => by have := HUN.out hn a e; omega) (Gx.set h (k * 2) w4 _), hR4.off, hR4.few⟩
    have gx5 : Gx g w (w4.setCell ⟨h, k * 2, none⟩ (.string s)) := gx4.setNew (by omega) _
    clear cb4 cq4 b4 q4
    go_wp2
    exact bodyPost_ret (v := .agg #[.slice (some ⟨h, 0, none⟩) m c]) (by simp [results, Try.results53, go_sem, hend]) rfl (some_end hgw hR5 gx5 HOW hset hok' (by omega) hm8 (by omega) _)
  · by_cases v1 : v = 1
    · subst v1
      have hkm' : (k : Int) < m := by omega
      have hk0' : (0 : Int) ≤ (k : Int) := by omega
      have hRd := hR3.le (Le.refl w3).drew
      have cbd : w3.drew.cell? ⟨w1.heap.size, 0, none⟩ = some (.slice (some ⟨h, 0, none⟩) m c) := cb3
      have hsd : w3.drew.heap.size = w3.heap.size := rfl
      have hxl : xs.length = m := by
        have := own3.1; rw [flat_len] at this
        exact Nat.eq_of_mul_eq_mul_right (by decide : 0 < 2) this
      have HSD := Lib.hid hsd; clear hsd
      have HXL := Lib.hid hxl; clear hxl
      have hfl := own3.1
      have HFL := Lib.hid hfl; clear hfl
      go_wp2
      go_region_held3 (fun w' => w'.cell? ⟨w1.heap.size, 0, none⟩ = some (.slice (some ⟨h, 0, none⟩) m c))
        (first | exact cbd | exact ((Le.new w3.drew _).cell (by have := HSD.out; omega)).trans cbd | exact cb4 | exact (cell_set_other (.inl (by omega))).trans cb4)
        (first
        | (go_at_call 50; refine (one_any _ 4 4 [(k : Int), -1, 8, -2] g (p1 + 1 + 1) A n cap bs _ (by omega) (by omega) (by omega) (Sl.of_row (hp_new _ _ rfl) (by rfl) rfl (by omega) (by intro x hx; simp at hx; rcases hx with rfl | rfl | rfl | rfl <;> (constructor <;> omega))) (fun _ a e => by injection e with e; rw [← e]; show w3.drew.heap.size ≠ g; have := HSD.out; omega) (hRd.le (Le.new _ _))).mono ?_; rintro e w4 ⟨z, rfl, hs, hR4, hg4⟩; have b4 := ((hg4.block w1.heap.size (by have := HSD.out; simp; omega) (by simp; omega)).trans (hp_old w3.drew _ (by have := HSD.out; omega))).trans b3; have cb4 := (cell_of_row w4 _ 0 _ _ _ b4).trans rfl; have q4 := ((hg4.block w.heap.size (by have := HSD.out; simp; omega) (by simp; omega)).trans (hp_old w3.drew _ (by have := HSD.out; omega))).trans q3; have own4 := (own3.drew.alloc (.cells #[.int .i64 (k : Int), .int .i64 (-1), .int .i64 8, .int .i64 (-2)] 3)).kept hg4 (.inr (by simp [Value.ownBlock]; omega)); have gx4 := (gx3.trans (Gx.of_le ((Le.refl w3).drew.alloc (.cells #[.int .i64 (k : Int), .int .i64 (-1), .int .i64 8, .int .i64 (-2)] 3)))).trans hg4; have hcw : w4.cell? ⟨h, k * 2 + 1, none⟩ = some (.int .i64 (xs[k]'(by have := HXL.out; omega)).parent) := (own4.cellAt (k * 2 + 1) (by omega)).trans ((flat_at xs k (by have := HXL.out; omega) 1 (by decide)).trans rfl); have hfw := own4.frozenAt (k * 2 + 1)))
      have hset := (own4.stored (k * 2 + 1) (.int .i64 z)).1
      rw [flat_parent xs k (by have := HXL.out; omega)] at hset
      have hok' : ∀ x ∈ xs.set k (⟨(xs[k]'(by have := HXL.out; omega)).name, z⟩), Enc.ok x := by
        intro x hx
        rcases List.mem_or_eq_of_mem_set hx with hx | rfl
        · exact hok x hx
        · have hko := hok (xs[k]'(by have := HXL.out; omega)) (List.getElem_mem _)
          have hz : -2 ≤ z ∧ z ≤ 8 := by simp at hs; omega
          exact ⟨hko.1, by show _ ≤ z; omega, by show z ≤ _; omega⟩
      have cq4 := ((cell_of_row w4 _ 0 _ _ _ q4).trans rfl : w4.cell? ⟨w.heap.size, 0, none⟩ = some (.slice none 0 0))
      have fq4 := frozen_of_row w4 w.heap.size 0 _ _ q4
      have cq5 : (w4.setCell ⟨h, k * 2 + 1, none⟩ (.int .i64 z)).cell? ⟨w.heap.size, 0, none⟩ = some (.slice none 0 0) := (cell_set_other (.inl (by omega))).trans cq4
      have cb5 : (w4.setCell ⟨h, k * 2 + 1, none⟩ (.int .i64 z)).cell? ⟨w1.heap.size, 0, none⟩ = some (.slice (some ⟨h, 0, none⟩) m c) := (cell_set_other (.inl (by omega))).trans cb4
      have hend : ∀ u, ((w4.setCell ⟨h, k * 2 + 1, none⟩ (.int .i64 z)).setCell ⟨w.heap.size, 0, none⟩ u).cell? ⟨w.heap.size, 0, none⟩ = some u := fun u => cell_set_same cq5
      have hR5 : Rd (w4.setCell ⟨h, k * 2 + 1, none⟩ (.int .i64 z)) g (p1 + 1 + 1 + 1) A n cap bs :=
        ⟨(heap_setCell_other w4 ⟨h, k * 2 + 1, none⟩ g _ (by show g ≠ h; omega)).trans hR4.row, hR4.sl.gx (fun hn a e => by have := HUN.out hn a e; omega) (Gx.set h (k * 2 + 1) w4 _), hR4.off, hR4.few⟩
      have gx5 : Gx g w (w4.setCell ⟨h, k * 2 + 1, none⟩ (.int .i64 z)) := gx4.setNew (by omega) _
      clear cb4 cq4 b4 q4
      go_wp2
      exact bodyPost_ret (v := .agg #[.slice (some ⟨h, 0, none⟩) m c]) (by simp [results, Try.results53, go_sem, hend]) rfl (some_end hgw hR5 gx5 HOW hset hok' (by omega) hm8 (by omega) _)
    · by_cases v2 : v = 2
      · subst v2
        have hend : ∀ u, (w3.setCell ⟨w.heap.size, 0, none⟩ u).cell? ⟨w.heap.size, 0, none⟩ = some u := fun u => cell_set_same cq3
        go_wp2
        exact bodyPost_ret (v := .agg #[.slice none 0 0]) (by simp [results, Try.results53, go_sem, hend]) rfl (some_none hgw hR3 gx3 HOW (by omega) _)
      · have e0 : (v == 0) = false := by simpa using v0
        have e1 : (v == 1) = false := by simpa using v1
        have e2 : (v == 2) = false := by simpa using v2
        have hend : ∀ u, (w3.setCell ⟨w.heap.size, 0, none⟩ u).cell? ⟨w.heap.size, 0, none⟩ = some u := fun u => cell_set_same cq3
        go_wp2
        exact bodyPost_ret (v := .agg #[.slice (some ⟨h, 0, none⟩) m c]) (by simp [results, Try.results53, go_sem, hend]) rfl (some_end hgw hR3 gx3 HOW own3 hok (by omega) hm8 (by omega) _)
end

section
/-- a number between two bounds; the reader has gone on -/
def NumOut (lo hi : Int) (k g p : Nat) (A : Option Addr) (n cap : Nat) (bs : List By) (w : World) (e : Ending) (w' : World) : Prop :=
  ∃ (v : Int) (p' : Nat), e = .returned (.int .i64 v) ∧ lo ≤ v ∧ v ≤ hi ∧ p' ≤ p + k ∧ Rd w' g p' A n cap bs ∧ Gx g w w'

set_option maxRecDepth 100000 in
theorem aClass_any (B : Option Addr) (m c : Nat) (g p : Nat) (A : Option Addr) (n cap : Nat) (bs : List By) (w : World) (hm : m ≤ 8) (hp : p ≤ 900000) (hR : Rd w g p A n cap bs) :
    Calls Try.prog 52 #[.pointer (some ⟨g, 0, none⟩), .agg #[.slice B m c]] w (NumOut (-1) 8 2 g p A n cap bs w) := by
  have hgw := hR.lt
  go_enter Try.func52, Try.ntmps52
  go_wp2_with fail
  obtain ⟨c0, z0, L0⟩ := box1 w (.slice B m c) 25
  have R0 := hR.le L0
  generalize w.alloc (.cells #[.slice B m c] 25) = W at *
  have hgz : w.heap.size ≠ g := by omega
  refine (pick_any 16 g p A n cap bs W (by omega) (by omega) (by omega) R0).mono ?_
  rintro e w1 ⟨v, rfl, hv0, hv1, R1, hg1⟩
  have c1 := (hg1.cell z0 hgz).trans c0
  have G1 := (Gx.of_le (g := g) L0).trans hg1
  have s1 := hg1.size
  clear c0 hg1
  by_cases hv : v = 0
  · subst hv
    go_wp2_with fail
    refine (one_any _ 3 3 [-1, (m : Int), 8] g (p + 1) A n cap bs _ (by omega) (by omega) (by omega) (Sl.of_row (hp_new _ _ rfl) (by rfl) rfl (by omega) (by intro x hx; simp at hx; rcases hx with rfl | rfl | rfl <;> (constructor <;> omega))) (fun _ a e => by injection e with e; rw [← e]; show w1.heap.size ≠ g; omega) (R1.le (Le.new _ _))).mono ?_
    rintro e w2 ⟨u, rfl, hu, R2, hg2⟩
    have hu1 : -1 ≤ u ∧ u ≤ 8 := by simp at hu; omega
    clear hu
    go_wp2
    go_ret
    exact ⟨u, p + 1 + 1, rfl, hu1.1, hu1.2, by omega, R2, (G1.trans (Gx.of_le (Le.new _ _))).trans hg2⟩
  · have e0 : (v == 0) = false := by simpa using hv
    go_wp2_with fail
    refine (pick_any m g (p + 1) A n cap bs w1 (by omega) (by omega) (by omega) R1).mono ?_
    rintro e w2 ⟨u, rfl, hu0, hu1, R2, hg2⟩
    go_wp2
    go_ret
    exact ⟨u, p + 1 + 1, rfl, by omega, by omega, by omega, R2, G1.trans hg2⟩

/-- a tree and two classes, drawn anew -/
def DrawnTAB (w : World) (e : Ending) (w' : World) : Prop := ∃ (B : Option Addr) (m c : Nat) (xs : List Cls) (a b : Int), e = .returned (.tuple #[.agg #[.slice B m c], .int .i64 a, .int .i64 b]) ∧ Sl w' B m c xs ∧ m ≤ 8 ∧ (0 < m → ∀ x, B = some x → w.heap.size ≤ x.block) ∧ (-1 ≤ a ∧ a ≤ 8) ∧ (-1 ≤ b ∧ b ≤ 8) ∧ Le w w'
end
end
end Go.Proofs.Ytlepgfccnfcagaa
