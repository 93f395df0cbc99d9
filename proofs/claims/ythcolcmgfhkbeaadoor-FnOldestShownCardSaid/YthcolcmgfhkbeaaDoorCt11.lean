/- one text of DHd -/
import Derived.Test.YthcolcmgfhkbeaaDoorCt8
import Derived.Test.YthcolcmgfhkbeaaDoorCt9
import Derived.Test.YthcolcmgfhkbeaaDoorCt10
namespace Go.Proofs.YthcolcmgfhkbeaaDoor
open Go.RowKit
set_option linter.unusedVariables false
section
section
def HeapOut (k g p : Nat) (A : Option Addr) (n cap : Nat) (bs : List By) (w : World) (e : Ending) (w' : World) : Prop :=
  ∃ (v : Value) (hs : List Flt) (p' : Nat), e = .returned (.agg #[v]) ∧ w'.ownsRow w.heap.size 49 5 v hs.length (hs.flatMap Enc.cells) ∧ okHeap T8 hs = true ∧ hs.length ≤ 6 ∧ p' ≤ p + k ∧ Rd w' g p' A n cap bs ∧ Gx g w w'
/-- what the draw of a heap keeps in its boxes -/
structure HI (b g : Nat) (w : World) (B : Option Addr) (m c : Nat) (A1 : Option Addr) (q1 : Nat) (hs : List Flt) (wr : World) : Prop where
  hb : b = w.heap.size
  gw : g < b
  cT : wr.cell? ⟨b, 0, none⟩ = some (.slice B m c)
  cR : wr.cell? ⟨b + 1, 0, none⟩ = some (.slice none 0 0)
  fR : wr.frozen? ⟨b + 1, 0, none⟩ = false
  cH : wr.cell? ⟨b + 1 + 1 + 1, 0, none⟩ = some (.slice A1 hs.length q1)
  fH : wr.frozen? ⟨b + 1 + 1 + 1, 0, none⟩ = false
  O : wr.ownsRow (b + 1 + 1) 49 5 (.slice A1 hs.length q1) hs.length (hs.flatMap Enc.cells)
  nb : (Value.slice A1 hs.length q1).ownBlock ≠ some (b + 1 + 1 + 1)
  sz : b + 1 + 1 + 1 < wr.heap.size
  G : Gx g w wr
theorem HI.gx {b g : Nat} {w : World} {B : Option Addr} {m c : Nat} {A1 : Option Addr} {q1 : Nat} {hs : List Flt} {wr w' : World} (h : HI b g w B m c A1 q1 hs wr) (hg : Gx g wr w') : HI b g w B m c A1 q1 hs w' := by
  have hgw := h.gw
  have hz := h.sz
  refine ⟨h.hb, h.gw, (hg.cell (k := b) (o := 0) (by omega) (by omega)).trans h.cT, (hg.cell (k := b + 1) (o := 0) (by omega) (by omega)).trans h.cR, (hg.frozen (k := b + 1) (o := 0) (by omega) (by omega)).trans h.fR,
    (hg.cell (k := b + 1 + 1 + 1) (o := 0) (by omega) (by omega)).trans h.cH, (hg.frozen (k := b + 1 + 1 + 1) (o := 0) (by omega) (by omega)).trans h.fH, h.O.kept hg (.inr (fun e => by have h1 := (h.O.lt _ e).1; omega)), h.nb, Nat.lt_of_lt_of_le hz hg.size, h.G.trans hg⟩
theorem HI.le {b g : Nat} {w : World} {B : Option Addr} {m c : Nat} {A1 : Option Addr} {q1 : Nat} {hs : List Flt} {wr w' : World} (h : HI b g w B m c A1 q1 hs wr) (hl : Le wr w') : HI b g w B m c A1 q1 hs w' := h.gx (Gx.of_le hl)
/-- another list comes into the box -/
theorem HI.put {b g : Nat} {w : World} {B : Option Addr} {m c : Nat} {A1 : Option Addr} {q1 : Nat} {hs ks : List Flt} {w3 w4 : World} {v : Value} (h : HI b g w B m c A1 q1 hs w3) (hl : Le w3 w4) (D : Owd 49 w3 w4 v ks) :
    ∃ A2 q2, v = .slice A2 ks.length q2 ∧ HI b g w B m c A2 q2 ks (w4.setCell ⟨b + 1 + 1 + 1, 0, none⟩ (.slice A2 ks.length q2)) := by
  have hz := h.sz
  have hgw := h.gw
  have h4 := h.le hl
  obtain ⟨A2, q2, rfl⟩ := own_form D.row
  have hlt := D.row.lt
  have hne : (Value.slice A2 ks.length q2).ownBlock ≠ some (b + 1 + 1 + 1) := fun e => by have h1 := (hlt _ e).1; omega
  refine ⟨A2, q2, rfl, h.hb, h.gw, (cell_set_other (.inl (by omega))).trans h4.cT, (cell_set_other (.inl (by omega))).trans h4.cR, ?_, cell_set_same h4.cH, ?_, ?_, hne, by simpa [World.setCell] using h4.sz, h4.G.setNewF (by rw [← h.hb]; omega) _⟩
  · simpa using h4.fR
  · simpa using h4.fH
  · exact (own_mono D.row (by omega)).kept (grown_set w4 (b + 1 + 1 + 1) 0 _) (.inr (fun e => hne e))
/-- stores into the list -/
theorem HI.turn {b g : Nat} {w : World} {B : Option Addr} {m c : Nat} {k : Nat} {q1 : Nat} {hs ks : List Flt} {w3 w4 : World} (h : HI b g w B m c (some ⟨k, 0, none⟩) q1 hs w3) (hg : w3.grownBy w4 (some k)) (hl : ks.length = hs.length)
    (hO : w4.ownsRow (b + 1 + 1) 49 5 (.slice (some ⟨k, 0, none⟩) hs.length q1) hs.length (ks.flatMap Enc.cells)) : HI b g w B m c (some ⟨k, 0, none⟩) q1 ks w4 := by
  have hz := h.sz
  have hlt := h.O.lt k rfl
  have hne : k ≠ b + 1 + 1 + 1 := fun e => h.nb (by rw [← e]; rfl)
  have hfr : ∀ i, i < w3.heap.size → i ≠ k → w4.frozen? ⟨i, 0, none⟩ = w3.frozen? ⟨i, 0, none⟩ := fun i hi hn => World.frozen?_of_block (a := ⟨i, 0, none⟩) (hg.block i hi (fun e => hn (by injection e)))
  refine ⟨h.hb, h.gw, hg.cell (a := ⟨b, 0, none⟩) h.cT (fun e => by have e1 : b = k := (by injection e); omega), hg.cell (a := ⟨b + 1, 0, none⟩) h.cR (fun e => by have e1 : b + 1 = k := (by injection e); omega), (hfr _ (by omega) (by omega)).trans h.fR, ?_, (hfr _ (by omega) (by omega)).trans h.fH, by rw [hl]; exact hO, by rw [hl]; exact h.nb, Nat.lt_of_lt_of_le hz hg.size, h.G.grown hg (fun i hi => by have e1 : k = i := (by injection hi); have := h.hb; omega)⟩
  rw [hl]; exact hg.cell (a := ⟨b + 1 + 1 + 1, 0, none⟩) h.cH (fun e => by have e1 : b + 1 + 1 + 1 = k := (by injection e); omega)
/-- the end: the result's own box is written -/
theorem HI.out {b g p p' : Nat} {w : World} {B A : Option Addr} {m c n cap : Nat} {bs : List By} {A1 : Option Addr} {q1 : Nat} {hs : List Flt} {wr : World} (h : HI b g w B m c A1 q1 hs wr) (R : Rd wr g p' A n cap bs) (hA : 0 < n → ∀ a, A = some a → a.block < b) (hok : okHeap T8 hs = true) (hl : hs.length ≤ 6) (hp : p' ≤ p + 40) (u : Value) :
    HeapOut 40 g p A n cap bs w (.returned (.agg #[.slice A1 hs.length q1])) (wr.setCell ⟨b + 1, 0, none⟩ u) := by
  have hgw := h.gw
  refine ⟨_, hs, p', rfl, (own_mono h.O (by have := h.hb; omega)).kept (grown_set wr (b + 1) 0 u) (.inr (fun e => by have h1 := (h.O.lt _ e).1; omega)), hok, hl, hp, R.setNew u (by omega) (fun hn a e => by have := hA hn a e; omega), h.G.setNewF (by have := h.hb; omega) u⟩
theorem HI.sl {b g : Nat} {w : World} {B : Option Addr} {m c : Nat} {A1 : Option Addr} {q1 : Nat} {hs : List Flt} {wr : World} (h : HI b g w B m c A1 q1 hs wr) (hok : okHeap T8 hs = true) : Sl wr A1 hs.length q1 hs := Sl.of_own h.O rfl (by decide) (ok_enc hok)
theorem ok_mkF {hs : List Flt} {a b : Int} (h : okHeap T8 hs = true) (hl : hs.length < 24) (ha : 0 ≤ a ∧ a < 8) (hb : b ∈ ([1, 2, 3, 0, 99] : List Int)) : okHeap T8 (hs ++ [mkF a b]) = true :=
  ok_snoc h ha (by simp at hb; omega) hl

theorem one_kept (ss : List Int) (m : Nat) (cs : Array Value) (T : TypeId) (g p : Nat) (A : Option Addr) (n cap : Nat) (bs : List By) (W W2 : World) (b : Nat) (hc : cs.toList = ss.flatMap Enc.cells) (hl : ss.length = m) (hm : 0 < m) (hm1 : m ≤ 1000) (hok : ∀ x ∈ ss, Enc.ok x) (hp : p ≤ 1000000) (hb : b = W.heap.size) (hgW : g < W.heap.size) (hG : Gx g (W.alloc (.cells cs T)) W2) (hR : Rd W2 g p A n cap bs) :
    Calls Tryd.prog 75 #[.pointer (some ⟨g, 0, none⟩), .slice (some ⟨b, 0, none⟩) m m] W2 (OneOut ss g p A n cap bs W2) := by
  subst hb
  exact one_any _ m m ss g p A n cap bs _ hm hm1 hp (Sl.of_rowF ((hG.block W.heap.size (by simp) (fun e => by have e1 : W.heap.size = g := (by injection e); omega)).trans (hp_new _ _ rfl)) hc hl hm1 hok) (fun _ a e => by injection e with e; rw [← e]; show W.heap.size ≠ g; omega) hR
set_option maxHeartbeats 8000000 in
set_option maxRecDepth 100000 in
theorem goodHeap_any (B : Option Addr) (m c : Nat) (g p : Nat) (A : Option Addr) (n cap : Nat) (bs : List By) (w : World) (hm : m ≤ 8) (hp : p ≤ 700000) (hR : Rd w g p A n cap bs) :
    Calls Tryd.prog 48 #[.pointer (some ⟨g, 0, none⟩), .agg #[.slice B m c]] w (HeapOut 40 g p A n cap bs w) := by
  have hgw := hR.lt
  have HA : Hid (0 < n → ∀ a, A = some a → a.block < w.heap.size) := fun hn a e => hR.sl.under hn a e
  go_enter Tryd.func48, Tryd.ntmps48
  go_wp2_with fail
  have hI : HI w.heap.size g w B m c (some ⟨w.heap.size + 1 + 1, 0, none⟩) 0 [] ((((w.alloc (.cells #[.slice B m c] 25)).alloc (.cells #[.slice none 0 0] 28)).alloc (.cells #[] 49)).alloc (.cells #[.slice (some ⟨w.heap.size + 1 + 1, 0, none⟩) 0 0] 28)) := by
    have O0 := own_empty (w := (w.alloc (.cells #[.slice B m c] 25)).alloc (.cells #[.slice none 0 0] 28)) (base := w.heap.size + 1 + 1) (g := w.heap.size + 1 + 1) (e := 49) (size := 5) (by simp) (by simp)
    refine ⟨rfl, hgw, ?_, ?_, ?_, ?_, ?_, own_le O0 (Le.new _ _), ?_, by simp, Gx.of_le ((((Le.new w _).alloc _).alloc _).alloc _)⟩
    · rw [World.cell?_alloc_past _ _ _ (by simp; omega), World.cell?_alloc_past _ _ _ (by simp; omega), World.cell?_alloc_past _ _ _ (by simp), World.cell?_alloc_at _ _ _ _ rfl]; rfl
    · rw [World.cell?_alloc_past _ _ _ (by simp), World.cell?_alloc_past _ _ _ (by simp), World.cell?_alloc_at _ _ _ _ (by simp)]; rfl
    · rw [((Le.new _ _).frozen (b := w.heap.size + 1) (o := 0) (by simp)), ((Le.new _ _).frozen (b := w.heap.size + 1) (o := 0) (by simp))]; exact World.frozen?_alloc_at _ _ _ _ (by simp)
    · rw [World.cell?_alloc_at _ _ _ _ (by simp)]; rfl
    · exact World.frozen?_alloc_at _ _ _ _ (by simp)
    · intro e; simp [Value.ownBlock] at e
  have hRL : Rd ((((w.alloc (.cells #[.slice B m c] 25)).alloc (.cells #[.slice none 0 0] 28)).alloc (.cells #[] 49)).alloc (.cells #[.slice (some ⟨w.heap.size + 1 + 1, 0, none⟩) 0 0] 28)) g p A n cap bs := hR.le ((((Le.new w _).alloc _).alloc _).alloc _)
  have hz4 : w.heap.size + 1 + 1 + 1 + 1 = ((((w.alloc (.cells #[.slice B m c] 25)).alloc (.cells #[.slice none 0 0] 28)).alloc (.cells #[] 49)).alloc (.cells #[.slice (some ⟨w.heap.size + 1 + 1, 0, none⟩) 0 0] 28)).heap.size := by simp
  generalize ((((w.alloc (.cells #[.slice B m c] 25)).alloc (.cells #[.slice none 0 0] 28)).alloc (.cells #[] 49)).alloc (.cells #[.slice (some ⟨w.heap.size + 1 + 1, 0, none⟩) 0 0] 28)) = W at *
  refine (one_lit [4, 5, 3, 6, 2, 1, 0] 7 _ _ g p A n cap bs W _ rfl rfl (by decide) (by decide) (by intro x hx; simp at hx; constructor <;> omega) (by omega) hz4 hRL).mono ?_
  rintro e w1 ⟨u, rfl, hu, R1, G1⟩
  have hu1 : 0 ≤ u ∧ u ≤ 6 := by simp at hu; omega
  replace hI := hI.gx G1
  clear hu hRL G1 hz4
  go_wp2
  go_loopw [6] (fun i wr => ∃ (A1 : Option Addr) (q1 : Nat) (hs : List Flt) (k p' : Nat), i = .int .i64 k ∧ hs.length + k ≤ 6 ∧ p' + 2 * k ≤ p + 13 ∧ okHeap T8 hs = true ∧ HI w.heap.size g w B m c A1 q1 hs wr ∧ Rd wr g p' A n cap bs) (fun i _ => (intOf i).toNat)
  case atStart =>
    obtain ⟨k, rfl⟩ := Int.eq_ofNat_of_zero_le hu1.1
    exact ⟨_, _, [], k, p + 1, rfl, by simp; omega, by omega, ok_nil, hI, R1⟩
  case round =>
    clear hI R1 hu1
    obtain ⟨A1, q1, hs, k, p', rfl, hk, hp', hok, hI, R⟩ := hrel
    by_cases h0 : 0 < k
    · have hk0 : (0 : Int) < k := by omega
      obtain ⟨j, rfl⟩ : ∃ j, k = j + 1 := ⟨k - 1, by omega⟩
      have hId := hI.le (Le.refl _).drew
      have cTd := hId.cT
      have cHd := hId.cH
      have R0 := R.le (Le.refl wr).drew
      have HOK := Lib.hid hok
      have HIX := Lib.hid hId
      clear hI hok hId R
      go_wp2_with fail
      refine wp_region_noPanic ?_
      refine wp_region_Z (fun w' => w'.cell? ⟨w.heap.size, 0, none⟩ = some (.slice B m c) ∧ w'.cell? ⟨w.heap.size + 1 + 1 + 1, 0, none⟩ = some (.slice A1 hs.length q1)) [10] (by kernel_rfl) ?_
      refine wpAnyZ_take (i := 0) (v := ?_) rfl (by kernel_rfl) (fun _ _ _ h => h) (Or.inl ⟨by rfl, ?_⟩) (⟨cTd, cHd⟩) ?_
      rotate_left 1
      · (intro w hSw; (try dsimp only at hSw); go_simp; try with_reducible rfl)
      try simp only [Act.put, List.setIfInBounds_toArray, List.set_cons_zero, List.set_cons_succ]
      refine wpAnyZ_take (i := 1) (v := ?_) rfl (by kernel_rfl) (fun _ _ _ h => h) (Or.inl ⟨by rfl, ?_⟩) (⟨cTd, cHd⟩) ?_
      rotate_left 1
      · (intro w hSw; (try dsimp only at hSw); go_simp; try with_reducible rfl)
      try simp only [Act.put, List.setIfInBounds_toArray, List.set_cons_zero, List.set_cons_succ]
      refine wpAnyZ_take (i := 2) (v := ?_) rfl (by kernel_rfl) (fun _ _ _ h => h) (Or.inl ⟨by rfl, ?_⟩) (⟨cTd, cHd⟩) ?_
      rotate_left 1
      · (intro w hSw; (try dsimp only at hSw); go_simp; try with_reducible rfl)
      try simp only [Act.put, List.setIfInBounds_toArray, List.set_cons_zero, List.set_cons_succ]
      refine wpAnyZ_take (i := 3) (v := ?_) rfl (by kernel_rfl) (fun _ _ _ h => h) (Or.inl ⟨by rfl, ?_⟩) (⟨cTd, cHd⟩) ?_
      rotate_left 1
      · (intro w hSw; (try dsimp only at hSw); go_simp; try with_reducible rfl)
      try simp only [Act.put, List.setIfInBounds_toArray, List.set_cons_zero, List.set_cons_succ]
      refine wpAnyZ_take (i := 4) (v := ?_) rfl (by kernel_rfl) (fun _ _ _ h => h) (Or.inl ⟨by rfl, ?_⟩) (⟨cTd, cHd⟩) ?_
      rotate_left 1
      · (intro w hSw; (try dsimp only at hSw); go_simp; try with_reducible rfl)
      try simp only [Act.put, List.setIfInBounds_toArray, List.set_cons_zero, List.set_cons_succ]
      refine wpAnyZ_take (i := 6) (v := ?_) rfl (by kernel_rfl) (fun _ _ _ h => h) (Or.inl ⟨by rfl, ?_⟩) (⟨cTd, cHd⟩) ?_
      rotate_left 1
      · (intro w hSw; (try dsimp only at hSw); go_simp; try with_reducible rfl)
      try simp only [Act.put, List.setIfInBounds_toArray, List.set_cons_zero, List.set_cons_succ]
      refine wpAnyZ_two (i := 5) (k := 7) (by kernel_rfl) (ReadyZ.mk rfl (fun K hK => ?_)) (ReadyZ.mk rfl (fun K hK => ?_))
      · go_simp
        go_at_call 74
        refine (pick_any m g p' A n cap bs _ (by omega) (by omega) (by omega) R0).mono ?_
        rintro e w2 ⟨a, rfl, ha0, ha1, R2, hg2⟩
        have hI2 := HIX.out.gx hg2
        refine hK.out _ _ (fun _ => ⟨hI2.cT, hI2.cH⟩) ?_
        clear hK K
        try simp only [Act.put, List.setIfInBounds_toArray, List.set_cons_zero, List.set_cons_succ]
        refine wpAnyZ_one (i := 7) (by kernel_rfl) (ReadyZ.mk rfl (fun K hK => ?_))
        go_simp
        have hI3 := hI2
        have hI3L := hI2.le (Le.new w2 (.cells #[.int .i64 1, .int .i64 2, .int .i64 3, .int .i64 0, .int .i64 99] 3))
        refine hK.out _ _ (fun _ => ⟨hI3L.cT, hI3L.cH⟩) ?_
        clear hK K
        try simp only [Act.put, List.setIfInBounds_toArray, List.set_cons_zero, List.set_cons_succ]
        clear hI3L
        refine wpAnyZ_one (i := 8) (by kernel_rfl) (ReadyZ.mk rfl (fun K hK => ?_))
        go_simp
        go_at_call 75
        refine (one_lit [1, 2, 3, 0, 99] 5 _ _ g (p' + 1) A n cap bs w2 _ rfl rfl (by decide) (by decide) (by intro x hx; simp at hx; constructor <;> omega) (by omega) rfl R2).mono ?_
        rintro e w3 ⟨u, rfl, hu, R3, hg3⟩
        have hI4 := hI3.gx hg3
        refine hK.out _ _ (fun _ => ⟨hI4.cT, hI4.cH⟩) ?_
        clear hK K
        try simp only [Act.put, List.setIfInBounds_toArray, List.set_cons_zero, List.set_cons_succ]
        refine wpAnyZ_one (i := 9) (by kernel_rfl) (ReadyZ.mk rfl (fun K hK => ?_))
        go_simp
        go_at_call 77
        have hu1 : -9223372036854775808 ≤ u ∧ u ≤ 9223372036854775807 := by simp at hu; omega
        refine (added_any _ _ _ hs a u _ (hI4.sl HOK.out) (by omega) (by omega) hu1).mono ?_
        rintro e w4 ⟨v, rfl, D, hle⟩
        have HK : Hid (okHeap T8 (hs ++ [mkF a u]) = true ∧ (hs ++ [mkF a u]).length + j ≤ 6) := ⟨ok_mkF HOK.out (by omega) (by omega) hu, by simp; omega⟩
        generalize hs ++ [mkF a u] = ks at *
        have hI5 := hI4.le hle
        obtain ⟨A2, q2, rfl, hI6⟩ := hI4.put hle D
        have R6 := Lib.hid ((R3.le hle).setNew (o := 0) (.slice A2 ks.length q2) (show w.heap.size + 1 + 1 + 1 ≠ g by omega) (fun hn a e => by have := HA.out hn a e; omega))
        have HI6 := Lib.hid hI6
        have c5 := hI5.cH
        have f5 := hI5.fH
        clear hI6 hI4 hg3 R3 D hu hle hg2
        refine hK.out _ _ (fun _ => ⟨hI5.cT, hI5.cH⟩) ?_
        clear hK K
        try simp only [Act.put, List.setIfInBounds_toArray, List.set_cons_zero, List.set_cons_succ]
        clear hI5
        refine wpAnyZ_one (i := 10) (by kernel_rfl) (ReadyZ.mk rfl (fun K hK => ?_))
        go_simp
        refine hK.out _ _ (fun h => absurd h (by decide)) ?_
        clear hK K
        try simp only [Act.put, List.setIfInBounds_toArray, List.set_cons_zero, List.set_cons_succ]
        refine wpAnyZ_done (by kernel_rfl) ?_ _
        refine NoPanic.normal ?_
        clear hI2 hI3 R2 R0
        have hwj : IntKind.i64.wrap ((j : Int) + 1 - 1) = (j : Int) := by rw [Int.add_sub_cancel]; exact IntWalk.i64_in _ (by omega)
        go_wp2
        go_roundw
        case rel => exact ⟨A2, q2, ks, j, p' + 1 + 1, by go_num, HK.out.2, by omega, HK.out.1, HI6.out, R6.out⟩
        case measure => (simp [intOf]) <;> omega
      · go_simp
        have hI2 := HIX.out.le (Le.new wr.drew (.cells #[.int .i64 1, .int .i64 2, .int .i64 3, .int .i64 0, .int .i64 99] 3))
        have RL := R0.le (Le.new wr.drew (.cells #[.int .i64 1, .int .i64 2, .int .i64 3, .int .i64 0, .int .i64 99] 3))
        have hgd : g < wr.drew.heap.size := R0.lt
        refine hK.out _ _ (fun _ => ⟨hI2.cT, hI2.cH⟩) ?_
        clear hK K
        try simp only [Act.put, List.setIfInBounds_toArray, List.set_cons_zero, List.set_cons_succ]
        refine wpAnyZ_one (i := 5) (by kernel_rfl) (ReadyZ.mk rfl (fun K hK => ?_))
        go_simp
        go_at_call 74
        refine (pick_any m g p' A n cap bs _ (by omega) (by omega) (by omega) RL).mono ?_
        rintro e w2 ⟨a, rfl, ha0, ha1, R2, hg2⟩
        have hI3 := hI2.gx hg2
        refine hK.out _ _ (fun _ => ⟨hI3.cT, hI3.cH⟩) ?_
        clear hK K
        try simp only [Act.put, List.setIfInBounds_toArray, List.set_cons_zero, List.set_cons_succ]
        refine wpAnyZ_one (i := 8) (by kernel_rfl) (ReadyZ.mk rfl (fun K hK => ?_))
        go_simp
        go_at_call 75
        refine (one_kept [1, 2, 3, 0, 99] 5 _ _ g (p' + 1) A n cap bs wr.drew w2 _ rfl rfl (by decide) (by decide) (by intro x hx; simp at hx; constructor <;> omega) (by omega) rfl hgd hg2 R2).mono ?_
        clear RL hgd
        rintro e w3 ⟨u, rfl, hu, R3, hg3⟩
        have hI4 := hI3.gx hg3
        refine hK.out _ _ (fun _ => ⟨hI4.cT, hI4.cH⟩) ?_
        clear hK K
        try simp only [Act.put, List.setIfInBounds_toArray, List.set_cons_zero, List.set_cons_succ]
        refine wpAnyZ_one (i := 9) (by kernel_rfl) (ReadyZ.mk rfl (fun K hK => ?_))
        go_simp
        go_at_call 77
        have hu1 : -9223372036854775808 ≤ u ∧ u ≤ 9223372036854775807 := by simp at hu; omega
        refine (added_any _ _ _ hs a u _ (hI4.sl HOK.out) (by omega) (by omega) hu1).mono ?_
        rintro e w4 ⟨v, rfl, D, hle⟩
        have HK : Hid (okHeap T8 (hs ++ [mkF a u]) = true ∧ (hs ++ [mkF a u]).length + j ≤ 6) := ⟨ok_mkF HOK.out (by omega) (by omega) hu, by simp; omega⟩
        generalize hs ++ [mkF a u] = ks at *
        have hI5 := hI4.le hle
        obtain ⟨A2, q2, rfl, hI6⟩ := hI4.put hle D
        have R6 := Lib.hid ((R3.le hle).setNew (o := 0) (.slice A2 ks.length q2) (show w.heap.size + 1 + 1 + 1 ≠ g by omega) (fun hn a e => by have := HA.out hn a e; omega))
        have HI6 := Lib.hid hI6
        have c5 := hI5.cH
        have f5 := hI5.fH
        clear hI6 hI4 hg3 R3 D hu hle hg2
        refine hK.out _ _ (fun _ => ⟨hI5.cT, hI5.cH⟩) ?_
        clear hK K
        try simp only [Act.put, List.setIfInBounds_toArray, List.set_cons_zero, List.set_cons_succ]
        clear hI5
        refine wpAnyZ_one (i := 10) (by kernel_rfl) (ReadyZ.mk rfl (fun K hK => ?_))
        go_simp
        refine hK.out _ _ (fun h => absurd h (by decide)) ?_
        clear hK K
        try simp only [Act.put, List.setIfInBounds_toArray, List.set_cons_zero, List.set_cons_succ]
        refine wpAnyZ_done (by kernel_rfl) ?_ _
        refine NoPanic.normal ?_
        clear hI2 hI3 R2 R0
        have hwj : IntKind.i64.wrap ((j : Int) + 1 - 1) = (j : Int) := by rw [Int.add_sub_cancel]; exact IntWalk.i64_in _ (by omega)
        go_wp2
        go_roundw
        case rel => exact ⟨A2, q2, ks, j, p' + 1 + 1, by go_num, HK.out.2, by omega, HK.out.1, HI6.out, R6.out⟩
        case measure => (simp [intOf]) <;> omega
    · obtain rfl : k = 0 := by omega
      have HOK := Lib.hid hok
      have HIX := Lib.hid hI
      clear hI hok
      go_wp2_with fail
      refine (one_lit [3, 4, 2, 5, 0] 5 _ _ g p' A n cap bs wr _ rfl rfl (by decide) (by decide) (by intro x hx; simp at hx; constructor <;> omega) (by omega) rfl R).mono ?_
      rintro e w2 ⟨u, rfl, hu, R2, hg2⟩
      have hu1 : 0 ≤ u ∧ u ≤ 5 := by simp at hu; omega
      have hI := HIX.out.gx hg2
      have hok := HOK.out
      have hl6 : hs.length ≤ 6 := by omega
      clear hu HIX hg2 R HOK
      have hp2 : p' + 1 ≤ p + 14 := by omega
      clear hp' hk h0
      generalize wr = wr0 at *
      go_wp2
      go_loopw [7] (fun i wr => ∃ (A1 : Option Addr) (q1 : Nat) (hs : List Flt) (k p' : Nat), i = .int .i64 k ∧ k ≤ 5 ∧ hs.length ≤ 6 ∧ p' + 3 * k ≤ p + 29 ∧ okHeap T8 hs = true ∧ HI w.heap.size g w B m c A1 q1 hs wr ∧ Rd wr g p' A n cap bs) (fun i _ => (intOf i).toNat)
      case atStart =>
        obtain ⟨k, rfl⟩ := Int.eq_ofNat_of_zero_le hu1.1
        exact ⟨_, _, hs, k, p' + 1, rfl, by omega, hl6, by omega, hok, hI, R2⟩
      case round =>
        clear hI R2 hu1 hok hl6 hp2
        obtain ⟨A1, q1, hs, k, p', rfl, hk, hl6, hp', hok, hI, R⟩ := hrel
        have cT := hI.cT
        have cH := hI.cH
        have cR := hI.cR
        have fR := hI.fR
        have HOK := Lib.hid hok
        have HIX := Lib.hid hI
        have HR := Lib.hid R
        have hend : ∀ u, (wr.setCell ⟨w.heap.size + 1, 0, none⟩ u).cell? ⟨w.heap.size + 1, 0, none⟩ = some u := fun u => cell_set_same cR
        rcases Nat.eq_zero_or_pos k with h0 | h0
        · subst h0
          clear hI R hok
          go_wp2
          exact bodyPost_ret (v := .agg #[.slice A1 hs.length q1]) (by simp [results, Tryd.results48, go_sem, hend]) rfl (HIX.out.out HR.out HA.out HOK.out hl6 (by omega) _)
        obtain ⟨j, rfl⟩ : ∃ j, k = j + 1 := ⟨k - 1, by omega⟩
        by_cases h1 : hs.length ≤ 1
        · have hb1 : decide ((1 : Int) < (hs.length : Int)) = false := decide_eq_false (by omega)
          clear hI R hok
          go_wp2
          exact bodyPost_ret (v := .agg #[.slice A1 hs.length q1]) (by simp [results, Tryd.results48, go_sem, hend]) rfl (HIX.out.out HR.out HA.out HOK.out hl6 (by omega) _)
        · have hb1 : decide ((1 : Int) < (hs.length : Int)) = true := decide_eq_true (by omega)
          clear hI hend hok fR cR
          go_wp2_with fail
          refine (pick_any hs.length g p' A n cap bs wr (by omega) (by omega) (by omega) R).mono ?_
          rintro e w3 ⟨v, rfl, hv0, hv1, R3, hg3⟩
          obtain ⟨f, rfl⟩ := Int.eq_ofNat_of_zero_le hv0
          have hf : f < hs.length := by omega
          have hI3 := HIX.out.gx hg3
          have cH3 := hI3.cH
          have HI3 := Lib.hid hI3
          clear hg3 cT cH HR HIX R hv0 hv1 hI3
          go_wp2_with fail
          refine (pick_any hs.length g (p' + 1) A n cap bs w3 (by omega) (by omega) (by omega) R3).mono ?_
          rintro e w4 ⟨v, rfl, hv0, hv1, R4, hg4⟩
          obtain ⟨i, rfl⟩ := Int.eq_ofNat_of_zero_le hv0
          have hi : i < hs.length := by omega
          have hI4 := HI3.out.gx hg4
          clear hg4 cH3 R3 HI3 hv0 hv1
          obtain ⟨len, hlen⟩ : ∃ q, hs.length = q + 1 := ⟨hs.length - 1, by omega⟩
          have hO := hI4.O
          rw [hlen] at hO
          obtain ⟨b, c1, hb⟩ := own_some hO
          injection hb with hb _ hb3
          subst hb
          subst hb3
          rw [← hlen] at hO
          have HLEN := Lib.hid hlen
          clear hlen
          have hbb := hO.lt b rfl
          have hbg : b ≠ g := by omega
          have HAB : Hid (0 < n → ∀ a, A = some a → a.block ≠ b) := fun hn a e => by have := HA.out hn a e; omega
          have hwj : IntKind.i64.wrap ((j : Int) + 1 - 1) = (j : Int) := by rw [Int.add_sub_cancel]; exact IntWalk.i64_in _ (by omega)
          have cH4 := hI4.cH
          have HI4 := Lib.hid hI4
          have hokk := HOK.out
          by_cases hfi : f = i
          · subst hfi
            have hbe : ((f : Int) == (f : Int)) = true := by simp
            have k4 := hO.cellAt (f * 5 + 4) (by omega)
            rw [show (hs.flatMap (Enc.cells (α := Flt)))[f * 5 + 4]? = _ from (flat_at hs f hf 4 (by decide))] at k4
            simp only [Enc.cells, List.getElem?_cons_succ, List.getElem?_cons_zero] at k4
            have e4 := hO.frozenAt (f * 5 + 4)
            have O5 := (hO.stored (f * 5 + 4) (.bool (!hs[f].hide))).1
            rw [flat_hid hs f hf (!hs[f].hide)] at O5
            have HI5 := Lib.hid (HI4.out.turn (grown_set w4 b (f * 5 + 4) (.bool (!hs[f].hide))) (setF_len hs (f : Int) (hidF (!hs[f].hide))) O5)
            have HOK5 := Lib.hid (ok_hid hf (!hs[f].hide) hokk)
            have R5 := Lib.hid (R4.setNew (o := f * 5 + 4) (.bool (!hs[f].hide)) hbg HAB.out)
            have HL5 : Hid ((setF hs (f : Int) (hidF (!hs[f].hide))).length ≤ 6) := by show _ ≤ _; rw [setF_len]; exact hl6
            clear hO O5 hI4 R4 HI4 hokk
            replace HI5 := Lib.hid (HI5.out.le (Le.refl _).drew)
            replace R5 := Lib.hid (R5.out.le (Le.refl _).drew)
            replace cH4 : w4.drew.cell? ⟨w.heap.size + 1 + 1 + 1, 0, none⟩ = some (.slice (some ⟨b, 0, none⟩) hs.length q1) := cH4
            replace k4 : w4.drew.cell? ⟨b, f * 5 + 4, none⟩ = some (.bool hs[f].hide) := k4
            replace e4 : w4.drew.frozen? ⟨b, f * 5 + 4, none⟩ = false := e4
            go_wp2_with fail
            refine wp_region_noPanic ?_
            refine wp_region_Z (fun w' => w'.cell? ⟨w.heap.size + 1 + 1 + 1, 0, none⟩ = some (.slice (some ⟨b, 0, none⟩) hs.length q1) ∧ w'.cell? ⟨b, f * 5 + 4, none⟩ = some (.bool hs[f].hide)) [12] (by kernel_rfl) ?_
            refine wpAnyZ_take (i := 0) (v := ?_) rfl (by kernel_rfl) (fun _ _ _ h => h) (Or.inl ⟨by rfl, ?_⟩) (⟨cH4, k4⟩) ?_
            rotate_left 1
            · (intro w hSw; (try dsimp only at hSw); go_simp; try with_reducible rfl)
            try simp only [Act.put, List.setIfInBounds_toArray, List.set_cons_zero, List.set_cons_succ]
            refine wpAnyZ_take (i := 1) (v := ?_) rfl (by kernel_rfl) (fun _ _ _ h => h) (Or.inl ⟨by rfl, ?_⟩) (⟨cH4, k4⟩) ?_
            rotate_left 1
            · (intro w hSw; (try dsimp only at hSw); go_simp; try with_reducible rfl)
            try simp only [Act.put, List.setIfInBounds_toArray, List.set_cons_zero, List.set_cons_succ]
            refine wpAnyZ_take (i := 2) (v := ?_) rfl (by kernel_rfl) (fun _ _ _ h => h) (Or.inl ⟨by rfl, ?_⟩) (⟨cH4, k4⟩) ?_
            rotate_left 1
            · (intro w hSw; (try dsimp only at hSw); go_simp; try with_reducible rfl)
            try simp only [Act.put, List.setIfInBounds_toArray, List.set_cons_zero, List.set_cons_succ]
            refine wpAnyZ_take (i := 3) (v := ?_) rfl (by kernel_rfl) (fun _ _ _ h => h) (Or.inl ⟨by rfl, ?_⟩) (⟨cH4, k4⟩) ?_
            rotate_left 1
            · (intro w hSw; (try dsimp only at hSw); go_simp; try with_reducible rfl)
            try simp only [Act.put, List.setIfInBounds_toArray, List.set_cons_zero, List.set_cons_succ]
            refine wpAnyZ_take (i := 4) (v := ?_) rfl (by kernel_rfl) (fun _ _ _ h => h) (Or.inl ⟨by rfl, ?_⟩) (⟨cH4, k4⟩) ?_
            rotate_left 1
            · (intro w hSw; (try dsimp only at hSw); go_simp; try with_reducible rfl)
            try simp only [Act.put, List.setIfInBounds_toArray, List.set_cons_zero, List.set_cons_succ]
            refine wpAnyZ_take (i := 5) (v := ?_) rfl (by kernel_rfl) (fun _ _ _ h => h) (Or.inl ⟨by rfl, ?_⟩) (⟨cH4, k4⟩) ?_
            rotate_left 1
            · (intro w hSw; (try dsimp only at hSw); go_simp; try with_reducible rfl)
            try simp only [Act.put, List.setIfInBounds_toArray, List.set_cons_zero, List.set_cons_succ]
            refine wpAnyZ_take (i := 6) (v := ?_) rfl (by kernel_rfl) (fun _ _ _ h => h) (Or.inl ⟨by rfl, ?_⟩) (⟨cH4, k4⟩) ?_
            rotate_left 1
            · (intro w hSw; (try dsimp only at hSw); go_simp; try with_reducible rfl)
            try simp only [Act.put, List.setIfInBounds_toArray, List.set_cons_zero, List.set_cons_succ]
            refine wpAnyZ_take (i := 7) (v := ?_) rfl (by kernel_rfl) (fun _ _ _ h => h) (Or.inl ⟨by rfl, ?_⟩) (⟨cH4, k4⟩) ?_
            rotate_left 1
            · (intro w hSw; (try dsimp only at hSw); go_simp; try with_reducible rfl)
            try simp only [Act.put, List.setIfInBounds_toArray, List.set_cons_zero, List.set_cons_succ]
            refine wpAnyZ_take (i := 8) (v := ?_) rfl (by kernel_rfl) (fun _ _ _ h => h) (Or.inl ⟨by rfl, ?_⟩) (⟨cH4, k4⟩) ?_
            rotate_left 1
            · (intro w hSw; (try dsimp only at hSw); go_simp; try with_reducible rfl)
            try simp only [Act.put, List.setIfInBounds_toArray, List.set_cons_zero, List.set_cons_succ]
            refine wpAnyZ_take (i := 9) (v := ?_) rfl (by kernel_rfl) (fun _ _ _ h => h) (Or.inl ⟨by rfl, ?_⟩) (⟨cH4, k4⟩) ?_
            rotate_left 1
            · (intro w hSw; (try dsimp only at hSw); go_simp; try with_reducible rfl)
            try simp only [Act.put, List.setIfInBounds_toArray, List.set_cons_zero, List.set_cons_succ]
            refine wpAnyZ_take (i := 10) (v := ?_) rfl (by kernel_rfl) (fun _ _ _ h => h) (Or.inl ⟨by rfl, ?_⟩) (⟨cH4, k4⟩) ?_
            rotate_left 1
            · (intro w hSw; (try dsimp only at hSw); go_simp; try with_reducible rfl)
            try simp only [Act.put, List.setIfInBounds_toArray, List.set_cons_zero, List.set_cons_succ]
            refine wpAnyZ_take (i := 11) (v := ?_) rfl (by kernel_rfl) (fun _ _ _ h => h) (Or.inl ⟨by rfl, ?_⟩) (⟨cH4, k4⟩) ?_
            rotate_left 1
            · (intro w hSw; (try dsimp only at hSw); go_simp; try with_reducible rfl)
            try simp only [Act.put, List.setIfInBounds_toArray, List.set_cons_zero, List.set_cons_succ]
            refine wpAnyZ_one (i := 12) (by kernel_rfl) (ReadyZ.mk rfl (fun K hK => ?_))
            go_simp
            refine hK.out _ _ (fun h => absurd h (by decide)) ?_
            clear hK K
            try simp only [Act.put, List.setIfInBounds_toArray, List.set_cons_zero, List.set_cons_succ]
            refine wpAnyZ_done (by kernel_rfl) ?_ _
            refine NoPanic.normal ?_
            go_wp2
            go_roundw
            case rel => exact ⟨_, _, _, j, p' + 1 + 1, by go_num, by omega, HL5.out, by omega, HOK5.out, HI5.out, R5.out⟩
            case measure => (simp [intOf]) <;> omega
          · have hbe : ((f : Int) == (i : Int)) = false := by simp; omega
            go_wp2_with fail
            refine (pick_any 3 g (p' + 1 + 1) A n cap bs w4 (by omega) (by omega) (by omega) R4).mono ?_
            rintro e w5 ⟨v, rfl, hv0, hv1, R5, hg5⟩
            have hI5 := HI4.out.gx hg5
            have hO5 := hI5.O
            have cH5 := hI5.cH
            have fH5 := hI5.fH
            have cT5 := hI5.cT
            have cR5 := hI5.cR
            have fR5 := hI5.fR
            clear hg5 hO hI4 HI4 R4 cH4
            by_cases hv : v = 0
            · subst hv
              have k2 := hO5.cellAt (f * 5 + 2) (by omega)
              rw [show (hs.flatMap (Enc.cells (α := Flt)))[f * 5 + 2]? = _ from (flat_at hs f hf 2 (by decide))] at k2
              simp only [Enc.cells, List.getElem?_cons_succ, List.getElem?_cons_zero] at k2
              have e2 := hO5.frozenAt (f * 5 + 2)
              have O6 := (hO5.stored (f * 5 + 2) (.int .i64 (i : Int))).1
              have k4 := hO5.cellAt (f * 5 + 4) (by omega)
              rw [show (hs.flatMap (Enc.cells (α := Flt)))[f * 5 + 4]? = _ from (flat_at hs f hf 4 (by decide))] at k4
              simp only [Enc.cells, List.getElem?_cons_succ, List.getElem?_cons_zero] at k4
              have e4 := hO5.frozenAt (f * 5 + 4)
              have k6 : (w5.setCell ⟨b, f * 5 + 2, none⟩ (.int .i64 (i : Int))).cell? ⟨b, f * 5 + 4, none⟩ = some (.bool hs[f].hide) := (cell_set_other (.inr (by show f * 5 + 2 ≠ f * 5 + 4; omega))).trans k4
              have e6 : (w5.setCell ⟨b, f * 5 + 2, none⟩ (.int .i64 (i : Int))).frozen? ⟨b, f * 5 + 4, none⟩ = false := by simpa using e4
              have cH6 : (w5.setCell ⟨b, f * 5 + 2, none⟩ (.int .i64 (i : Int))).cell? ⟨w.heap.size + 1 + 1 + 1, 0, none⟩ = some (.slice (some ⟨b, 0, none⟩) hs.length q1) := (cell_set_other (.inl (fun e => hI5.nb (by rw [e]; rfl)))).trans cH5
              have O7 := (O6.stored (f * 5 + 4) (.bool true)).1
              rw [flat_cau hs f hf (i : Int)] at O7
              have HI7 := Lib.hid (hI5.turn (gx_set (grown_set w5 b (f * 5 + 2) (.int .i64 (i : Int))) (.bool true)) (setF_len hs (f : Int) (cauF (i : Int))) O7)
              have HOK7 := Lib.hid (ok_cau hf (c := (i : Int)) ⟨by omega, by omega, by omega⟩ hokk)
              have R7 := Lib.hid ((R5.setNew (o := f * 5 + 2) (.int .i64 (i : Int)) hbg HAB.out).setNew (o := f * 5 + 4) (.bool true) hbg HAB.out)
              have HL7 : Hid ((setF hs (f : Int) (cauF (i : Int))).length ≤ 6) := by show _ ≤ _; rw [setF_len]; exact hl6
              clear hO5 O6 O7 hI5 R5 hokk cT5 cR5 fR5 k4 e4
              go_wp2
              go_roundw
              case rel => exact ⟨_, _, _, j, p' + 1 + 1 + 1, by go_num, by omega, HL7.out, by omega, HOK7.out, HI7.out, R7.out⟩
              case measure => (simp [intOf]) <;> omega
            · have hvb : (v == 0) = false := by simpa using hv
              have hgf : goodF T8 hs (f : Int) = true := by unfold goodF; rw [hokk, hasF_iff.2 ⟨by omega, by omega⟩]; rfl
              have hgi : goodF T8 hs (i : Int) = true := by unfold goodF; rw [hokk, hasF_iff.2 ⟨by omega, by omega⟩]; rfl
              have S5 := hI5.sl hokk
              go_wp2_with fail
              refine (sRaised_any _ _ _ T8 hs (f : Int) (i : Int) w5 S5 hgf hgi).mono ?_
              rintro e w6 ⟨v, rfl, D, hle⟩
              have HOK6 := Lib.hid (ok_raised hokk hf hi)
              have HL6 : Hid ((raisedL hs (f : Int) (i : Int)).length ≤ 6) := by show _ ≤ _; rw [raisedL_len]; exact hl6
              generalize raisedL hs (f : Int) (i : Int) = ks at *
              have hI6 := hI5.le hle
              obtain ⟨A2, q2, rfl, hI7⟩ := hI5.put hle D
              have R7 := Lib.hid ((R5.le hle).setNew (o := 0) (.slice A2 ks.length q2) (show w.heap.size + 1 + 1 + 1 ≠ g by omega) (fun hn a e => by have := HA.out hn a e; omega))
              have HI7 := Lib.hid hI7
              have cH6 := hI6.cH
              have fH6 := hI6.fH
              clear hI7 hI6 hI5 R5 D hle hO5 S5 hgf hgi hokk cT5 cR5 fR5 cH5 fH5
              go_wp2
              go_roundw
              case rel => exact ⟨A2, q2, ks, j, p' + 1 + 1 + 1, by go_num, by omega, HL6.out, by omega, HOK6.out, HI7.out, R7.out⟩
              case measure => (simp [intOf]) <;> omega
end

section
/-- a tree and a heap that were drawn -/
def SH (k g p : Nat) (A : Option Addr) (n cap : Nat) (bs : List By) (w : World) (e : Ending) (w' : World) : Prop :=
  ∃ (B : Option Addr) (m c : Nat) (xs : List Cls) (A1 : Option Addr) (q1 : Nat) (hs : List Flt) (p' : Nat), e = .returned (.tuple #[.agg #[.slice B m c], .agg #[.slice A1 hs.length q1]]) ∧ Sl w' B m c xs ∧ m ≤ 8 ∧ (0 < m → Off g B) ∧ (0 < m → ∀ a, B = some a → w.heap.size ≤ a.block) ∧
    w'.ownsRow w.heap.size 49 5 (.slice A1 hs.length q1) hs.length (hs.flatMap Enc.cells) ∧ (∀ x ∈ hs, Enc.ok x) ∧ hs.length ≤ 6 ∧ p' ≤ p + k ∧ Rd w' g p' A n cap bs ∧ Gx g w w'
/-- what someHeap keeps in its boxes: t the tree's, h the heap's -/
structure SI (b g t h : Nat) (w : World) (B : Option Addr) (m c : Nat) (xs : List Cls) (A1 : Option Addr) (q1 : Nat) (hs : List Flt) (wr : World) : Prop where
  hb : b = w.heap.size
  gw : g ≠ b ∧ g ≠ b + 1 ∧ g ≠ t ∧ g ≠ h
  c0 : wr.cell? ⟨b, 0, none⟩ = some (.slice none 0 0)
  f0 : wr.frozen? ⟨b, 0, none⟩ = false
  c1 : wr.cell? ⟨b + 1, 0, none⟩ = some (.slice none 0 0)
  f1 : wr.frozen? ⟨b + 1, 0, none⟩ = false
  cT : wr.cell? ⟨t, 0, none⟩ = some (.slice B m c)
  ht : b + 1 < t
  cH : wr.cell? ⟨h, 0, none⟩ = some (.slice A1 hs.length q1)
  hh : t < h
  S : Sl wr B m c xs
  HB : 0 < m → ∀ a, B = some a → b + 1 < a.block ∧ a.block ≠ t ∧ a.block ≠ g
  O : wr.ownsRow b 49 5 (.slice A1 hs.length q1) hs.length (hs.flatMap Enc.cells)
  nb : ∀ k, (Value.slice A1 hs.length q1).ownBlock = some k → b + 1 < k ∧ k ≠ t ∧ k ≠ h ∧ k ≠ g
  sz : h < wr.heap.size
  G : Gx g w wr
section
variable {b g t h : Nat} {w : World} {B : Option Addr} {m c : Nat} {xs : List Cls} {A1 : Option Addr} {q1 : Nat} {hs : List Flt} {wr w' : World}
theorem SI.gx (H : SI b g t h w B m c xs A1 q1 hs wr) (hg : Gx g wr w') : SI b g t h w B m c xs A1 q1 hs w' := by
  have := H.gw; have := H.ht; have := H.hh; have := H.sz
  have hnb := H.nb
  exact ⟨H.hb, H.gw, (hg.cell (k := b) (o := 0) (by omega) (by omega)).trans H.c0, (hg.frozen (k := b) (o := 0) (by omega) (by omega)).trans H.f0, (hg.cell (k := b + 1) (o := 0) (by omega) (by omega)).trans H.c1, (hg.frozen (k := b + 1) (o := 0) (by omega) (by omega)).trans H.f1,
    (hg.cell (k := t) (o := 0) (by omega) (by omega)).trans H.cT, H.ht, (hg.cell (k := h) (o := 0) (by omega) (by omega)).trans H.cH, H.hh, H.S.gx (fun hn a e => by have := H.HB hn a e; omega) hg, H.HB, H.O.kept hg (.inr (fun e => by have := H.nb _ e; omega)), H.nb, Nat.lt_of_lt_of_le H.sz hg.size, H.G.trans hg⟩
theorem SI.le (H : SI b g t h w B m c xs A1 q1 hs wr) (hl : Le wr w') : SI b g t h w B m c xs A1 q1 hs w' := H.gx (Gx.of_le hl)
theorem SI.offh (H : SI b g t h w B m c xs A1 q1 hs wr) : h ≠ g := by have := H.gw; have := H.ht; have := H.hh; omega
theorem SI.offB (H : SI b g t h w B m c xs A1 q1 hs wr) : 0 < m → Off g B := fun hn a e => by have := H.HB hn a e; have := H.gw; omega
theorem SI.turn {k o : Nat} {u : Value} {ks : List Flt} (H : SI b g t h w B m c xs (some ⟨k, 0, none⟩) q1 hs wr) (hl : ks.length = hs.length) (hsep : 0 < m → ∀ a, B = some a → a.block ≠ k)
    (hO : (wr.setCell ⟨k, o, none⟩ u).ownsRow b 49 5 (.slice (some ⟨k, 0, none⟩) hs.length q1) hs.length (ks.flatMap Enc.cells)) : SI b g t h w B m c xs (some ⟨k, 0, none⟩) q1 ks (wr.setCell ⟨k, o, none⟩ u) := by
  have := H.gw; have := H.ht; have := H.hh; have := H.sz
  have hk := H.nb k rfl
  refine ⟨H.hb, H.gw, (cell_set_other (.inl (by omega))).trans H.c0, by simpa using H.f0, (cell_set_other (.inl (by omega))).trans H.c1, by simpa using H.f1, (cell_set_other (.inl (by omega))).trans H.cT, H.ht, by rw [hl]; exact (cell_set_other (.inl (by omega))).trans H.cH, H.hh,
    H.S.grown (grown_set wr k o u) (fun hn a e => ?_), H.HB, by rw [hl]; exact hO, by rw [hl]; exact H.nb, by simpa [World.setCell] using H.sz, H.G.setNewF (by have := H.hb; omega) u⟩
  have := hsep hn a e
  intro e2; injection e2 with e2; exact this e2
/-- the end: both results' boxes are written -/
theorem SI.out {p p' n cap : Nat} {A : Option Addr} {bs : List By} (H : SI b g t h w B m c xs A1 q1 hs wr) (R : Rd wr g p' A n cap bs) (hA : 0 < n → ∀ a, A = some a → a.block < b) (hok : ∀ x ∈ hs, Enc.ok x) (hm : m ≤ 8) (hl : hs.length ≤ 6) (hp : p' ≤ p + 70) {l : Nat} (hlen : hs.length = l) (u v : Value) :
    SH 70 g p A n cap bs w (.returned (.tuple #[.agg #[.slice B m c], .agg #[.slice A1 l q1]])) ((wr.setCell ⟨b, 0, none⟩ u).setCell ⟨b + 1, 0, none⟩ v) := by
  subst hlen
  have := H.gw; have := H.ht; have hb := H.hb
  refine ⟨B, m, c, xs, A1, q1, hs, p', rfl, (H.S.grown (grown_set wr b 0 u) (fun hn a e e2 => ?_)).grown (grown_set _ (b + 1) 0 v) (fun hn a e e2 => ?_), hm, H.offB, fun hn a e => by have := H.HB hn a e; omega, ?_, hok, hl, hp, (R.setNew (o := 0) u (by omega) (fun hn a e => by have := hA hn a e; omega)).setNew (o := 0) v (by omega) (fun hn a e => by have := hA hn a e; omega), (H.G.setNewF (by omega) u).setNewF (by omega) v⟩
  · have := H.HB hn a e; injection e2 with e2; omega
  · have := H.HB hn a e; injection e2 with e2; omega
  · rw [← hb]
    exact (H.O.kept (grown_set wr b 0 u) (.inr (fun e => by have := H.nb _ e; omega))).kept (grown_set _ (b + 1) 0 v) (.inr (fun e => by have := H.nb _ e; omega))
theorem SI.k0 (H : SI b g t h w B m c xs A1 q1 hs wr) (u v : Value) : ((wr.setCell ⟨b, 0, none⟩ u).setCell ⟨b + 1, 0, none⟩ v).cell? ⟨b, 0, none⟩ = some u := (cell_set_other (.inl (by omega))).trans (cell_set_same H.c0)
theorem SI.k1 (H : SI b g t h w B m c xs A1 q1 hs wr) (u v : Value) : ((wr.setCell ⟨b, 0, none⟩ u).setCell ⟨b + 1, 0, none⟩ v).cell? ⟨b + 1, 0, none⟩ = some v := cell_set_same ((cell_set_other (.inl (by omega))).trans H.c1)
theorem SI.kz (H : SI b g t h w B m c xs A1 q1 hs wr) (u : Value) : (wr.setCell ⟨b, 0, none⟩ u).cell? ⟨b + 1, 0, none⟩ = some (.slice none 0 0) := (cell_set_other (.inl (by omega))).trans H.c1
theorem SI.kh (H : SI b g t h w B m c xs A1 q1 hs wr) (u : Value) : (wr.setCell ⟨b, 0, none⟩ u).cell? ⟨h, 0, none⟩ = some (.slice A1 hs.length q1) := (cell_set_other (.inl (by have := H.ht; have := H.hh; omega))).trans H.cH
theorem SI.kt (H : SI b g t h w B m c xs A1 q1 hs wr) (u : Value) : (wr.setCell ⟨b, 0, none⟩ u).cell? ⟨t, 0, none⟩ = some (.slice B m c) := (cell_set_other (.inl (by have := H.ht; omega))).trans H.cT
theorem SI.fz (H : SI b g t h w B m c xs A1 q1 hs wr) (u : Value) : (wr.setCell ⟨b, 0, none⟩ u).frozen? ⟨b + 1, 0, none⟩ = false := by simpa using H.f1
end
set_option maxHeartbeats 8000000 in
set_option maxRecDepth 100000 in
theorem someHeap_any (g p : Nat) (A : Option Addr) (n cap : Nat) (bs : List By) (w : World) (hp : p ≤ 600000) (hR : Rd w g p A n cap bs) :
    Calls Tryd.prog 47 #[.pointer (some ⟨g, 0, none⟩)] w (SH 70 g p A n cap bs w) := by
  have hgw := hR.lt
  have HA : Hid (0 < n → ∀ a, A = some a → a.block < w.heap.size) := fun hn a e => hR.sl.under hn a e
  go_enter Tryd.func47, Tryd.ntmps47
  go_wp2_with fail
  obtain ⟨c0, z0, c1, z1, L0⟩ := box2 w (.slice none 0 0) (.slice none 0 0) 25 28
  have f0 : ((w.alloc (.cells #[.slice none 0 0] 25)).alloc (.cells #[.slice none 0 0] 28)).frozen? ⟨w.heap.size, 0, none⟩ = false := by
    rw [((Le.new _ _).frozen (b := w.heap.size) (o := 0) (by simp))]; exact World.frozen?_alloc_at _ _ _ _ rfl
  have f1 : ((w.alloc (.cells #[.slice none 0 0] 25)).alloc (.cells #[.slice none 0 0] 28)).frozen? ⟨w.heap.size + 1, 0, none⟩ = false := World.frozen?_alloc_at _ _ _ _ (by simp)
  have R0 := hR.le L0
  generalize (w.alloc (.cells #[.slice none 0 0] 25)).alloc (.cells #[.slice none 0 0] 28) = W at *
  refine (someTree_any g p A n cap bs W (by omega) R0).mono ?_
  rintro e w1 ⟨B, m, c, p1, xs, rfl, S, hm, hoff, hab, hp1, R, hg⟩
  have s1 := hg.size
  have hgz : w.heap.size ≠ g := by omega
  have hgz1 : w.heap.size + 1 ≠ g := by omega
  replace c0 := (hg.cell (k := w.heap.size) (o := 0) z0 hgz).trans c0
  replace f0 := (hg.frozen (k := w.heap.size) (o := 0) z0 hgz).trans f0
  replace c1 := (hg.cell (k := w.heap.size + 1) (o := 0) z1 hgz1).trans c1
  replace f1 := (hg.frozen (k := w.heap.size + 1) (o := 0) z1 hgz1).trans f1
  have G := (Gx.of_le (g := g) L0).trans hg
  have HB : Hid (0 < m → ∀ a, B = some a → w.heap.size + 1 < a.block ∧ a.block < w1.heap.size) := fun h a e => ⟨by have := hab h a e; omega, S.under h a e⟩
  clear hg R0 hab L0
  go_wp2_with fail
  obtain ⟨ct, zt, LB⟩ := box1 w1 (.slice B m c) 25
  have st : (w1.alloc (.cells #[.slice B m c] 25)).heap.size = w1.heap.size + 1 := by simp
  replace R := R.le LB
  replace S := S.le LB
  replace G := G.trans (Gx.of_le LB)
  replace c0 := (LB.cell (b := w.heap.size) (o := 0) (by omega)).trans c0
  replace f0 := (LB.frozen (b := w.heap.size) (o := 0) (by omega)).trans f0
  replace c1 := (LB.cell (b := w.heap.size + 1) (o := 0) (by omega)).trans c1
  replace f1 := (LB.frozen (b := w.heap.size + 1) (o := 0) (by omega)).trans f1
  clear LB
  generalize w1.alloc (.cells #[.slice B m c] 25) = W1 at *
  refine (goodHeap_any B m c g p1 A n cap bs W1 hm (by omega) R).mono ?_
  rintro e w2 ⟨v, hs, p2, rfl, O, hok, hl6, hp2, R2, hg⟩
  obtain ⟨A1, q1, rfl⟩ := own_form O
  have hlt := O.lt
  have HLT : Hid (∀ k, (Value.slice A1 hs.length q1).ownBlock = some k → W1.heap.size ≤ k ∧ k < w2.heap.size) := hlt
  have HOK := Lib.hid (ok_enc hok)
  have hI : SI w.heap.size g w1.heap.size w2.heap.size w B m c xs A1 q1 hs (w2.alloc (.cells #[.slice A1 hs.length q1] 28)) := by
    have s2 := hg.size
    have L := Le.new w2 (.cells #[.slice A1 hs.length q1] 28)
    exact ⟨rfl, ⟨by omega, by omega, by omega, by omega⟩, (L.cell (b := w.heap.size) (o := 0) (by omega)).trans ((hg.cell (k := w.heap.size) (o := 0) (by omega) hgz).trans c0), (L.frozen (b := w.heap.size) (o := 0) (by omega)).trans ((hg.frozen (k := w.heap.size) (o := 0) (by omega) hgz).trans f0),
      (L.cell (b := w.heap.size + 1) (o := 0) (by omega)).trans ((hg.cell (k := w.heap.size + 1) (o := 0) (by omega) hgz1).trans c1), (L.frozen (b := w.heap.size + 1) (o := 0) (by omega)).trans ((hg.frozen (k := w.heap.size + 1) (o := 0) (by omega) hgz1).trans f1),
      (L.cell (b := w1.heap.size) (o := 0) (by omega)).trans ((hg.cell (k := w1.heap.size) (o := 0) (by omega) (by omega)).trans ct), by omega, by rw [World.cell?_alloc_at _ _ _ _ rfl]; rfl, by omega, (S.gx hoff hg).le L, fun hn a e => by have := HB.out hn a e; omega, own_le (own_mono O (by omega)) L, fun k hk => by have := hlt k hk; omega, by simp, (G.trans hg).trans (Gx.of_le L)⟩
  have R3 := R2.le (Le.new w2 (.cells #[.slice A1 hs.length q1] 28))
  clear c0 f0 c1 f1 ct G R S hlt O R2 hg hok
  have hT := hI.ht
  have hH := hI.hh
  rcases Nat.eq_zero_or_pos hs.length with h0 | h0
  · have hb0 : decide (0 < hs.length) = false := decide_eq_false (by omega)
    have hb0' : decide ((0 : Int) < (hs.length : Int)) = false := decide_eq_false (by omega)
    have HL0 := Lib.hid h0
    clear h0
    have HX := Lib.hid hI
    have RX := Lib.hid R3
    have HOKX : Hid (∀ x ∈ hs, Enc.ok x) := HOK.out
    have HLX : Hid ((hs).length ≤ 6) := hl6
    have cT : ((w2.alloc (.cells #[.slice A1 hs.length q1] 28))).cell? ⟨w1.heap.size, 0, none⟩ = some (.slice B m c) := hI.cT
    have cH : ((w2.alloc (.cells #[.slice A1 hs.length q1] 28))).cell? ⟨w2.heap.size, 0, none⟩ = some (.slice A1 hs.length q1) := hI.cH
    have k0 := hI.k0
    have k1 := hI.k1
    have kz := hI.kz
    have kz' : ∀ u, ((w2.alloc (.cells #[.slice A1 hs.length q1] 28)).setCell ⟨w.heap.size, 0, none⟩ u).drew.cell? ⟨w.heap.size + 1, 0, none⟩ = some (.slice none 0 0) := kz
    have fz := hI.fz
    have kh := hI.kh
    have kt := hI.kt
    have fz' : ∀ u, ((w2.alloc (.cells #[.slice A1 hs.length q1] 28)).setCell ⟨w.heap.size, 0, none⟩ u).drew.frozen? ⟨w.heap.size + 1, 0, none⟩ = false := fz
    have c0 := hI.c0
    have f0 := hI.f0
    clear hI R3
    go_wp2_with fail
    refine wp_region_noPanic ?_
    refine wp_region_Z (fun w' => w'.cell? ⟨w1.heap.size, 0, none⟩ = some (.slice B m c) ∧ w'.cell? ⟨w2.heap.size, 0, none⟩ = some (.slice A1 hs.length q1)) [3] (by kernel_rfl) ?_
    refine wpAnyZ_take (i := 0) (v := ?_) rfl (by kernel_rfl) (fun _ _ _ h => h) (Or.inl ⟨by rfl, ?_⟩) (⟨cT, cH⟩) ?_
    rotate_left 1
    · (intro w hSw; (try dsimp only at hSw); go_simp; try with_reducible rfl)
    try simp only [Act.put, List.setIfInBounds_toArray, List.set_cons_zero, List.set_cons_succ]
    refine wpAnyZ_take (i := 1) (v := ?_) rfl (by kernel_rfl) (fun _ _ _ h => h) (Or.inl ⟨by rfl, ?_⟩) (⟨cT, cH⟩) ?_
    rotate_left 1
    · (intro w hSw; (try dsimp only at hSw); go_simp; try with_reducible rfl)
    try simp only [Act.put, List.setIfInBounds_toArray, List.set_cons_zero, List.set_cons_succ]
    refine wpAnyZ_one (i := 2) (by kernel_rfl) (ReadyZ.mk rfl (fun K hK => ?_))
    go_simp
    refine hK.out _ _ (fun _ => ⟨kt _, kh _⟩) ?_
    clear hK K
    try simp only [Act.put, List.setIfInBounds_toArray, List.set_cons_zero, List.set_cons_succ]
    refine wpAnyZ_one (i := 3) (by kernel_rfl) (ReadyZ.mk rfl (fun K hK => ?_))
    go_simp
    refine hK.out _ _ (fun h => absurd h (by decide)) ?_
    clear hK K
    try simp only [Act.put, List.setIfInBounds_toArray, List.set_cons_zero, List.set_cons_succ]
    refine wpAnyZ_done (by kernel_rfl) ?_ _
    refine NoPanic.normal ?_
    go_wp2
    exact bodyPost_ret (v := .tuple #[.agg #[.slice B m c], .agg #[.slice A1 hs.length q1]]) (by simp [results, Tryd.results47, go_sem, k0, k1]) rfl ((HX.out.le (Le.refl _).drew).out (p := p) (RX.out.le (Le.refl _).drew) HA.out HOKX.out hm HLX.out (by omega) (by first | rfl | exact List.length_set ..) _ _)
  · have hb0 : decide (0 < hs.length) = true := decide_eq_true (by omega)
    have hb0' : decide ((0 : Int) < (hs.length : Int)) = true := decide_eq_true (by omega)
    have cT2 := hI.cT
    have cH2 := hI.cH
    go_wp2_with fail
    refine (pick_any hs.length g p2 A n cap bs _ (by omega) (by omega) (by omega) R3).mono ?_
    rintro e w3 ⟨v, rfl, hv0, hv1, R3', hg3⟩
    obtain ⟨k, rfl⟩ := Int.eq_ofNat_of_zero_le hv0
    have hk : k < hs.length := by omega
    have HI3 := Lib.hid (hI.gx hg3)
    clear hg3 hI R3 hv0 hv1 cT2 cH2
    go_wp2_with fail
    refine (pick_any 24 g (p2 + 1) A n cap bs w3 (by omega) (by omega) (by omega) R3').mono ?_
    rintro e w4 ⟨v, rfl, hv0, hv1, R4, hg4⟩
    have hI4 := HI3.out.gx hg4
    clear hg4 R3' HI3 hv0 hv1
    obtain ⟨len, hlen⟩ : ∃ q, hs.length = q + 1 := ⟨hs.length - 1, by omega⟩
    have hO := hI4.O
    rw [hlen] at hO
    obtain ⟨b, cc, hb⟩ := own_some hO
    injection hb with hb _ hb3
    subst hb
    subst hb3
    rw [← hlen] at hO
    have HLEN := Lib.hid hlen
    clear hlen h0
    have hbb := HLT.out b rfl
    have HSEP : Hid (0 < m → ∀ a, B = some a → a.block ≠ b) := fun hn a e => by have := HB.out hn a e; omega
    have hbg : b ≠ g := by omega
    have HAB : Hid (0 < n → ∀ a, A = some a → a.block ≠ b) := fun hn a e => by have := HA.out hn a e; omega
    have cH4 := hI4.cH
    have cT4 := hI4.cT
    have HI4 := Lib.hid hI4
    clear hI4
    by_cases v0 : v = 0
    · subst v0
      have kc := hO.cellAt (k * 5 + 3) (by omega)
      rw [show (hs.flatMap (Enc.cells (α := Flt)))[k * 5 + 3]? = _ from (flat_at hs k hk 3 (by decide))] at kc
      simp only [Enc.cells, List.getElem?_cons_succ, List.getElem?_cons_zero] at kc
      clear kc
      have cHd : w4.drew.cell? ⟨w2.heap.size, 0, none⟩ = some (.slice (some ⟨b, 0, none⟩) hs.length q1) := cH4
      have hkl : (k : Int) < (hs.length : Int) := by omega
      have R4d := R4.le (Le.refl w4).drew
      have hId := HI4.out.le (Le.refl w4).drew
      have cHL := fun o => (hId.le (Le.new w4.drew o)).cH
      clear hO cT4
      go_wp2_with fail
      go_region_held3 (fun w' => w'.cell? ⟨w2.heap.size, 0, none⟩ = some (.slice (some ⟨b, 0, none⟩) hs.length q1))
        (first | exact cHd | exact cHL _ | exact cH5 | exact cH6)
        (first | (go_at_call 75; refine (one_lit [(k : Int), 9, -2] 3 _ _ g (p2 + 1 + 1) A n cap bs w4.drew _ rfl rfl (by decide) (by decide) (by intro x hx; simp at hx; constructor <;> omega) (by omega) rfl R4d).mono ?_; rintro e w5 ⟨z, rfl, hz, R5, hg5⟩; have hz1 : -100 ≤ z ∧ z ≤ 100 := (by simp at hz; omega); have hI5 := hId.gx hg5; have cH5 := hI5.cH; have hO5 := hI5.O; have kc := hO5.cellAt (k * 5 + 3) (by omega); rw [show (hs.flatMap (Enc.cells (α := Flt)))[k * 5 + 3]? = _ from (flat_at hs k hk 3 (by decide))] at kc; simp only [Enc.cells, List.getElem?_cons_succ, List.getElem?_cons_zero] at kc; have ec := hO5.frozenAt (k * 5 + 3); have O6 := (hO5.stored (k * 5 + 3) (.int .i64 z)).1; rw [flat_flt_ctx hs k hk z] at O6; have hI6 := hI5.turn (List.length_set ..) HSEP.out O6; have R6 := Lib.hid (R5.setNew (o := k * 5 + 3) (.int .i64 z) hbg HAB.out); have cH6 : (w5.setCell ⟨b, k * 5 + 3, none⟩ (.int .i64 z)).cell? ⟨w2.heap.size, 0, none⟩ = some (.slice (some ⟨b, 0, none⟩) hs.length q1) := (cell_set_other (.inl (by omega))).trans cH5; have HI6 := Lib.hid hI6; clear hI6 O6 hO5 hI5 hg5 hz R5))
      have HOK6 : Hid (∀ x ∈ hs.set k {hs[k] with ctx := z}, Enc.ok x) := fun x hx => by
        rcases List.mem_or_eq_of_mem_set hx with h | rfl
        · exact HOK.out x h
        · have := HOK.out _ (List.getElem_mem hk)
          exact ⟨this.1, this.2.1, this.2.2.1, this.2.2.2.1, this.2.2.2.2.1, this.2.2.2.2.2.1, by show _ ≤ z; omega, by show z ≤ _; omega⟩
      have R3 := R6.out
      have hI := HI6.out
      replace hI : SI w.heap.size g w1.heap.size w2.heap.size w B m c xs (some ⟨b, 0, none⟩) q1 (hs.set k {hs[k] with ctx := z}) (w5.setCell ⟨b, k * 5 + 3, none⟩ (.int .i64 z)) := HI6.out
      clear HI6 R6 kc ec cH6 cH5 hId R4d cHd cHL R4 HI4 cH4
      have HX := Lib.hid hI
      have RX := Lib.hid R3
      have HOKX : Hid (∀ x ∈ hs.set k {hs[k] with ctx := z}, Enc.ok x) := HOK6.out
      have HLX : Hid ((hs.set k {hs[k] with ctx := z}).length ≤ 6) := by show _ ≤ _; rw [List.length_set]; exact hl6
      have cT : ((w5.setCell ⟨b, k * 5 + 3, none⟩ (.int .i64 z))).cell? ⟨w1.heap.size, 0, none⟩ = some (.slice B m c) := hI.cT
      have cH : ((w5.setCell ⟨b, k * 5 + 3, none⟩ (.int .i64 z))).cell? ⟨w2.heap.size, 0, none⟩ = some (.slice (some ⟨b, 0, none⟩) hs.length q1) := by have := hI.cH; rw [List.length_set] at this; exact this
      have k0 := hI.k0
      have k1 := hI.k1
      have kz := hI.kz
      have kz' : ∀ u, ((w5.setCell ⟨b, k * 5 + 3, none⟩ (.int .i64 z)).setCell ⟨w.heap.size, 0, none⟩ u).drew.cell? ⟨w.heap.size + 1, 0, none⟩ = some (.slice none 0 0) := kz
      have fz := hI.fz
      have kh := hI.kh; rw [List.length_set] at kh
      have kt := hI.kt
      have fz' : ∀ u, ((w5.setCell ⟨b, k * 5 + 3, none⟩ (.int .i64 z)).setCell ⟨w.heap.size, 0, none⟩ u).drew.frozen? ⟨w.heap.size + 1, 0, none⟩ = false := fz
      have c0 := hI.c0
      have f0 := hI.f0
      clear hI R3
      go_wp2_with fail
      refine wp_region_noPanic ?_
      refine wp_region_Z (fun w' => w'.cell? ⟨w1.heap.size, 0, none⟩ = some (.slice B m c) ∧ w'.cell? ⟨w2.heap.size, 0, none⟩ = some (.slice (some ⟨b, 0, none⟩) hs.length q1)) [3] (by kernel_rfl) ?_
      refine wpAnyZ_take (i := 0) (v := ?_) rfl (by kernel_rfl) (fun _ _ _ h => h) (Or.inl ⟨by rfl, ?_⟩) (⟨cT, cH⟩) ?_
      rotate_left 1
      · (intro w hSw; (try dsimp only at hSw); go_simp; try with_reducible rfl)
      try simp only [Act.put, List.setIfInBounds_toArray, List.set_cons_zero, List.set_cons_succ]
      refine wpAnyZ_take (i := 1) (v := ?_) rfl (by kernel_rfl) (fun _ _ _ h => h) (Or.inl ⟨by rfl, ?_⟩) (⟨cT, cH⟩) ?_
      rotate_left 1
      · (intro w hSw; (try dsimp only at hSw); go_simp; try with_reducible rfl)
      try simp only [Act.put, List.setIfInBounds_toArray, List.set_cons_zero, List.set_cons_succ]
      refine wpAnyZ_one (i := 2) (by kernel_rfl) (ReadyZ.mk rfl (fun K hK => ?_))
      go_simp
      refine hK.out _ _ (fun _ => ⟨kt _, kh _⟩) ?_
      clear hK K
      try simp only [Act.put, List.setIfInBounds_toArray, List.set_cons_zero, List.set_cons_succ]
      refine wpAnyZ_one (i := 3) (by kernel_rfl) (ReadyZ.mk rfl (fun K hK => ?_))
      go_simp
      refine hK.out _ _ (fun h => absurd h (by decide)) ?_
      clear hK K
      try simp only [Act.put, List.setIfInBounds_toArray, List.set_cons_zero, List.set_cons_succ]
      refine wpAnyZ_done (by kernel_rfl) ?_ _
      refine NoPanic.normal ?_
      go_wp2
      exact bodyPost_ret (v := .tuple #[.agg #[.slice B m c], .agg #[.slice (some ⟨b, 0, none⟩) hs.length q1]]) (by simp [results, Tryd.results47, go_sem, k0, k1]) rfl ((HX.out.le (Le.refl _).drew).out (p := p) (RX.out.le (Le.refl _).drew) HA.out HOKX.out hm HLX.out (by omega) (by first | rfl | exact List.length_set ..) _ _)
    · have e0 : (v == 0) = false := by simpa using v0
      by_cases v1 : v = 1
      · subst v1
        have kc := hO.cellAt (k * 5) (by omega)
        have cHd : w4.drew.cell? ⟨w2.heap.size, 0, none⟩ = some (.slice (some ⟨b, 0, none⟩) hs.length q1) := cH4
        have cTd : w4.drew.cell? ⟨w1.heap.size, 0, none⟩ = some (.slice B m c) := cT4
        have hkl : (k : Int) < (hs.length : Int) := by omega
        have R4d := R4.le (Le.refl w4).drew
        have hId := HI4.out.le (Le.refl w4).drew
        clear hO kc
        go_wp2_with fail
        go_region_held3 (fun w' => w'.cell? ⟨w2.heap.size, 0, none⟩ = some (.slice (some ⟨b, 0, none⟩) hs.length q1) ∧ w'.cell? ⟨w1.heap.size, 0, none⟩ = some (.slice B m c))
          (first | exact ⟨cHd, cTd⟩ | exact ⟨cH5, cT5⟩ | exact ⟨cH6, cT6⟩)
          (first | (go_at_call 76; refine (aClass_any B m c g (p2 + 1 + 1) A n cap bs w4.drew hm (by omega) R4d).mono ?_; rintro e w5 ⟨z, p3, rfl, hz1, hz2, hp3, R5, hg5⟩; have hI5 := hId.gx hg5; have cH5 := hI5.cH; have cT5 := hI5.cT; have hO5 := hI5.O; have kc := hO5.cellAt (k * 5) (by omega); rw [show (hs.flatMap (Enc.cells (α := Flt)))[k * 5]? = _ from (flat_at hs k hk 0 (by decide))] at kc; simp only [Enc.cells, List.getElem?_cons_zero] at kc; have ec := hO5.frozenAt (k * 5); have O6 := (hO5.stored (k * 5) (.int .i64 z)).1; rw [flat_flt_cls hs k hk z] at O6; have hI6 := hI5.turn (List.length_set ..) HSEP.out O6; have R6 := Lib.hid (R5.setNew (o := k * 5) (.int .i64 z) hbg HAB.out); have cH6 : (w5.setCell ⟨b, k * 5, none⟩ (.int .i64 z)).cell? ⟨w2.heap.size, 0, none⟩ = some (.slice (some ⟨b, 0, none⟩) hs.length q1) := (cell_set_other (.inl (by omega))).trans cH5; have cT6 : (w5.setCell ⟨b, k * 5, none⟩ (.int .i64 z)).cell? ⟨w1.heap.size, 0, none⟩ = some (.slice B m c) := (cell_set_other (.inl (by omega))).trans cT5; have HI6 := Lib.hid hI6; clear hI6 O6 hO5 hI5 hg5))
        have HOK6 : Hid (∀ x ∈ hs.set k {hs[k] with cls := z}, Enc.ok x) := fun x hx => by
          rcases List.mem_or_eq_of_mem_set hx with h | rfl
          · exact HOK.out x h
          · have := HOK.out _ (List.getElem_mem hk)
            exact ⟨by show _ ≤ z; omega, by show z ≤ _; omega, this.2.2⟩
        have R3 := R6.out
        have hI := HI6.out
        replace hI : SI w.heap.size g w1.heap.size w2.heap.size w B m c xs (some ⟨b, 0, none⟩) q1 (hs.set k {hs[k] with cls := z}) (w5.setCell ⟨b, k * 5, none⟩ (.int .i64 z)) := HI6.out
        clear HI6 R6 kc ec cH6 cT6 cH5 cT5 hId R4d cHd cTd R4 HI4 cH4 cT4
        have HX := Lib.hid hI
        have RX := Lib.hid R3
        have HOKX : Hid (∀ x ∈ hs.set k {hs[k] with cls := z}, Enc.ok x) := HOK6.out
        have HLX : Hid ((hs.set k {hs[k] with cls := z}).length ≤ 6) := by show _ ≤ _; rw [List.length_set]; exact hl6
        have cT : ((w5.setCell ⟨b, k * 5, none⟩ (.int .i64 z))).cell? ⟨w1.heap.size, 0, none⟩ = some (.slice B m c) := hI.cT
        have cH : ((w5.setCell ⟨b, k * 5, none⟩ (.int .i64 z))).cell? ⟨w2.heap.size, 0, none⟩ = some (.slice (some ⟨b, 0, none⟩) hs.length q1) := by have := hI.cH; rw [List.length_set] at this; exact this
        have k0 := hI.k0
        have k1 := hI.k1
        have kz := hI.kz
        have kz' : ∀ u, ((w5.setCell ⟨b, k * 5, none⟩ (.int .i64 z)).setCell ⟨w.heap.size, 0, none⟩ u).drew.cell? ⟨w.heap.size + 1, 0, none⟩ = some (.slice none 0 0) := kz
        have fz := hI.fz
        have kh := hI.kh; rw [List.length_set] at kh
        have kt := hI.kt
        have fz' : ∀ u, ((w5.setCell ⟨b, k * 5, none⟩ (.int .i64 z)).setCell ⟨w.heap.size, 0, none⟩ u).drew.frozen? ⟨w.heap.size + 1, 0, none⟩ = false := fz
        have c0 := hI.c0
        have f0 := hI.f0
        clear hI R3
        go_wp2_with fail
        refine wp_region_noPanic ?_
        refine wp_region_Z (fun w' => w'.cell? ⟨w1.heap.size, 0, none⟩ = some (.slice B m c) ∧ w'.cell? ⟨w2.heap.size, 0, none⟩ = some (.slice (some ⟨b, 0, none⟩) hs.length q1)) [3] (by kernel_rfl) ?_
        refine wpAnyZ_take (i := 0) (v := ?_) rfl (by kernel_rfl) (fun _ _ _ h => h) (Or.inl ⟨by rfl, ?_⟩) (⟨cT, cH⟩) ?_
        rotate_left 1
        · (intro w hSw; (try dsimp only at hSw); go_simp; try with_reducible rfl)
        try simp only [Act.put, List.setIfInBounds_toArray, List.set_cons_zero, List.set_cons_succ]
        refine wpAnyZ_take (i := 1) (v := ?_) rfl (by kernel_rfl) (fun _ _ _ h => h) (Or.inl ⟨by rfl, ?_⟩) (⟨cT, cH⟩) ?_
        rotate_left 1
        · (intro w hSw; (try dsimp only at hSw); go_simp; try with_reducible rfl)
        try simp only [Act.put, List.setIfInBounds_toArray, List.set_cons_zero, List.set_cons_succ]
        refine wpAnyZ_one (i := 2) (by kernel_rfl) (ReadyZ.mk rfl (fun K hK => ?_))
        go_simp
        refine hK.out _ _ (fun _ => ⟨kt _, kh _⟩) ?_
        clear hK K
        try simp only [Act.put, List.setIfInBounds_toArray, List.set_cons_zero, List.set_cons_succ]
        refine wpAnyZ_one (i := 3) (by kernel_rfl) (ReadyZ.mk rfl (fun K hK => ?_))
        go_simp
        refine hK.out _ _ (fun h => absurd h (by decide)) ?_
        clear hK K
        try simp only [Act.put, List.setIfInBounds_toArray, List.set_cons_zero, List.set_cons_succ]
        refine wpAnyZ_done (by kernel_rfl) ?_ _
        refine NoPanic.normal ?_
        go_wp2
        exact bodyPost_ret (v := .tuple #[.agg #[.slice B m c], .agg #[.slice (some ⟨b, 0, none⟩) hs.length q1]]) (by simp [results, Tryd.results47, go_sem, k0, k1]) rfl ((HX.out.le (Le.refl _).drew).out (p := p) (RX.out.le (Le.refl _).drew) HA.out HOKX.out hm HLX.out (by omega) (by first | rfl | exact List.length_set ..) _ _)
      · have e1 : (v == 1) = false := by simpa using v1
        by_cases v2 : v = 2
        · subst v2
          have kc := hO.cellAt (k * 5 + 1) (by omega)
          rw [show (hs.flatMap (Enc.cells (α := Flt)))[k * 5 + 1]? = _ from (flat_at hs k hk 1 (by decide))] at kc
          simp only [Enc.cells, List.getElem?_cons_succ, List.getElem?_cons_zero] at kc
          clear kc
          have cHd : w4.drew.cell? ⟨w2.heap.size, 0, none⟩ = some (.slice (some ⟨b, 0, none⟩) hs.length q1) := cH4
          have hkl : (k : Int) < (hs.length : Int) := by omega
          have R4d := R4.le (Le.refl w4).drew
          have hId := HI4.out.le (Le.refl w4).drew
          have cHL := fun o => (hId.le (Le.new w4.drew o)).cH
          clear hO cT4
          go_wp2_with fail
          go_region_held3 (fun w' => w'.cell? ⟨w2.heap.size, 0, none⟩ = some (.slice (some ⟨b, 0, none⟩) hs.length q1))
            (first | exact cHd | exact cHL _ | exact cH5 | exact cH6)
            (first | (go_at_call 75; refine (one_lit [-1, 100] 2 _ _ g (p2 + 1 + 1) A n cap bs w4.drew _ rfl rfl (by decide) (by decide) (by intro x hx; simp at hx; constructor <;> omega) (by omega) rfl R4d).mono ?_; rintro e w5 ⟨z, rfl, hz, R5, hg5⟩; have hz1 : -100 ≤ z ∧ z ≤ 100 := (by simp at hz; omega); have hI5 := hId.gx hg5; have cH5 := hI5.cH; have hO5 := hI5.O; have kc := hO5.cellAt (k * 5 + 1) (by omega); rw [show (hs.flatMap (Enc.cells (α := Flt)))[k * 5 + 1]? = _ from (flat_at hs k hk 1 (by decide))] at kc; simp only [Enc.cells, List.getElem?_cons_succ, List.getElem?_cons_zero] at kc; have ec := hO5.frozenAt (k * 5 + 1); have O6 := (hO5.stored (k * 5 + 1) (.int .i64 z)).1; rw [flat_flt_code hs k hk z] at O6; have hI6 := hI5.turn (List.length_set ..) HSEP.out O6; have R6 := Lib.hid (R5.setNew (o := k * 5 + 1) (.int .i64 z) hbg HAB.out); have cH6 : (w5.setCell ⟨b, k * 5 + 1, none⟩ (.int .i64 z)).cell? ⟨w2.heap.size, 0, none⟩ = some (.slice (some ⟨b, 0, none⟩) hs.length q1) := (cell_set_other (.inl (by omega))).trans cH5; have HI6 := Lib.hid hI6; clear hI6 O6 hO5 hI5 hg5 hz R5))
          have HOK6 : Hid (∀ x ∈ hs.set k {hs[k] with code := z}, Enc.ok x) := fun x hx => by
            rcases List.mem_or_eq_of_mem_set hx with h | rfl
            · exact HOK.out x h
            · have := HOK.out _ (List.getElem_mem hk)
              exact ⟨this.1, this.2.1, by show _ ≤ z; omega, by show z ≤ _; omega, this.2.2.2.2⟩
          have R3 := R6.out
          have hI := HI6.out
          replace hI : SI w.heap.size g w1.heap.size w2.heap.size w B m c xs (some ⟨b, 0, none⟩) q1 (hs.set k {hs[k] with code := z}) (w5.setCell ⟨b, k * 5 + 1, none⟩ (.int .i64 z)) := HI6.out
          clear HI6 R6 kc ec cH6 cH5 hId R4d cHd cHL R4 HI4 cH4
          have HX := Lib.hid hI
          have RX := Lib.hid R3
          have HOKX : Hid (∀ x ∈ hs.set k {hs[k] with code := z}, Enc.ok x) := HOK6.out
          have HLX : Hid ((hs.set k {hs[k] with code := z}).length ≤ 6) := by show _ ≤ _; rw [List.length_set]; exact hl6
          have cT : ((w5.setCell ⟨b, k * 5 + 1, none⟩ (.int .i64 z))).cell? ⟨w1.heap.size, 0, none⟩ = some (.slice B m c) := hI.cT
          have cH : ((w5.setCell ⟨b, k * 5 + 1, none⟩ (.int .i64 z))).cell? ⟨w2.heap.size, 0, none⟩ = some (.slice (some ⟨b, 0, none⟩) hs.length q1) := by have := hI.cH; rw [List.length_set] at this; exact this
          have k0 := hI.k0
          have k1 := hI.k1
          have kz := hI.kz
          have kz' : ∀ u, ((w5.setCell ⟨b, k * 5 + 1, none⟩ (.int .i64 z)).setCell ⟨w.heap.size, 0, none⟩ u).drew.cell? ⟨w.heap.size + 1, 0, none⟩ = some (.slice none 0 0) := kz
          have fz := hI.fz
          have kh := hI.kh; rw [List.length_set] at kh
          have kt := hI.kt
          have fz' : ∀ u, ((w5.setCell ⟨b, k * 5 + 1, none⟩ (.int .i64 z)).setCell ⟨w.heap.size, 0, none⟩ u).drew.frozen? ⟨w.heap.size + 1, 0, none⟩ = false := fz
          have c0 := hI.c0
          have f0 := hI.f0
          clear hI R3
          go_wp2_with fail
          refine wp_region_noPanic ?_
          refine wp_region_Z (fun w' => w'.cell? ⟨w1.heap.size, 0, none⟩ = some (.slice B m c) ∧ w'.cell? ⟨w2.heap.size, 0, none⟩ = some (.slice (some ⟨b, 0, none⟩) hs.length q1)) [3] (by kernel_rfl) ?_
          refine wpAnyZ_take (i := 0) (v := ?_) rfl (by kernel_rfl) (fun _ _ _ h => h) (Or.inl ⟨by rfl, ?_⟩) (⟨cT, cH⟩) ?_
          rotate_left 1
          · (intro w hSw; (try dsimp only at hSw); go_simp; try with_reducible rfl)
          try simp only [Act.put, List.setIfInBounds_toArray, List.set_cons_zero, List.set_cons_succ]
          refine wpAnyZ_take (i := 1) (v := ?_) rfl (by kernel_rfl) (fun _ _ _ h => h) (Or.inl ⟨by rfl, ?_⟩) (⟨cT, cH⟩) ?_
          rotate_left 1
          · (intro w hSw; (try dsimp only at hSw); go_simp; try with_reducible rfl)
          try simp only [Act.put, List.setIfInBounds_toArray, List.set_cons_zero, List.set_cons_succ]
          refine wpAnyZ_one (i := 2) (by kernel_rfl) (ReadyZ.mk rfl (fun K hK => ?_))
          go_simp
          refine hK.out _ _ (fun _ => ⟨kt _, kh _⟩) ?_
          clear hK K
          try simp only [Act.put, List.setIfInBounds_toArray, List.set_cons_zero, List.set_cons_succ]
          refine wpAnyZ_one (i := 3) (by kernel_rfl) (ReadyZ.mk rfl (fun K hK => ?_))
          go_simp
          refine hK.out _ _ (fun h => absurd h (by decide)) ?_
          clear hK K
          try simp only [Act.put, List.setIfInBounds_toArray, List.set_cons_zero, List.set_cons_succ]
          refine wpAnyZ_done (by kernel_rfl) ?_ _
          refine NoPanic.normal ?_
          go_wp2
          exact bodyPost_ret (v := .tuple #[.agg #[.slice B m c], .agg #[.slice (some ⟨b, 0, none⟩) hs.length q1]]) (by simp [results, Tryd.results47, go_sem, k0, k1]) rfl ((HX.out.le (Le.refl _).drew).out (p := p) (RX.out.le (Le.refl _).drew) HA.out HOKX.out hm HLX.out (by omega) (by first | rfl | exact List.length_set ..) _ _)
        · have e2 : (v == 2) = false := by simpa using v2
          by_cases v3 : v = 3
          · subst v3
            have kc := hO.cellAt (k * 5 + 2) (by omega)
            rw [show (hs.flatMap (Enc.cells (α := Flt)))[k * 5 + 2]? = _ from (flat_at hs k hk 2 (by decide))] at kc
            simp only [Enc.cells, List.getElem?_cons_succ, List.getElem?_cons_zero] at kc
            clear kc
            have cHd : w4.drew.cell? ⟨w2.heap.size, 0, none⟩ = some (.slice (some ⟨b, 0, none⟩) hs.length q1) := cH4
            have hkl : (k : Int) < (hs.length : Int) := by omega
            have R4d := R4.le (Le.refl w4).drew
            have hId := HI4.out.le (Le.refl w4).drew
            have cHL := fun o => (hId.le (Le.new w4.drew o)).cH
            clear hO cT4
            go_wp2_with fail
            go_region_held3 (fun w' => w'.cell? ⟨w2.heap.size, 0, none⟩ = some (.slice (some ⟨b, 0, none⟩) hs.length q1))
              (first | exact cHd | exact cHL _ | exact cH5 | exact cH6)
              (first | (go_at_call 75; refine (one_lit [(k : Int), 24, 0] 3 _ _ g (p2 + 1 + 1) A n cap bs w4.drew _ rfl rfl (by decide) (by decide) (by intro x hx; simp at hx; constructor <;> omega) (by omega) rfl R4d).mono ?_; rintro e w5 ⟨z, rfl, hz, R5, hg5⟩; have hz1 : -100 ≤ z ∧ z ≤ 100 := (by simp at hz; omega); have hI5 := hId.gx hg5; have cH5 := hI5.cH; have hO5 := hI5.O; have kc := hO5.cellAt (k * 5 + 2) (by omega); rw [show (hs.flatMap (Enc.cells (α := Flt)))[k * 5 + 2]? = _ from (flat_at hs k hk 2 (by decide))] at kc; simp only [Enc.cells, List.getElem?_cons_succ, List.getElem?_cons_zero] at kc; have ec := hO5.frozenAt (k * 5 + 2); have O6 := (hO5.stored (k * 5 + 2) (.int .i64 z)).1; rw [flat_flt_cause hs k hk z] at O6; have hI6 := hI5.turn (List.length_set ..) HSEP.out O6; have R6 := Lib.hid (R5.setNew (o := k * 5 + 2) (.int .i64 z) hbg HAB.out); have cH6 : (w5.setCell ⟨b, k * 5 + 2, none⟩ (.int .i64 z)).cell? ⟨w2.heap.size, 0, none⟩ = some (.slice (some ⟨b, 0, none⟩) hs.length q1) := (cell_set_other (.inl (by omega))).trans cH5; have HI6 := Lib.hid hI6; clear hI6 O6 hO5 hI5 hg5 hz R5))
            have HOK6 : Hid (∀ x ∈ hs.set k {hs[k] with cause := z}, Enc.ok x) := fun x hx => by
              rcases List.mem_or_eq_of_mem_set hx with h | rfl
              · exact HOK.out x h
              · have := HOK.out _ (List.getElem_mem hk)
                exact ⟨this.1, this.2.1, this.2.2.1, this.2.2.2.1, by show _ ≤ z; omega, by show z ≤ _; omega, this.2.2.2.2.2.2⟩
            have R3 := R6.out
            have hI := HI6.out
            replace hI : SI w.heap.size g w1.heap.size w2.heap.size w B m c xs (some ⟨b, 0, none⟩) q1 (hs.set k {hs[k] with cause := z}) (w5.setCell ⟨b, k * 5 + 2, none⟩ (.int .i64 z)) := HI6.out
            clear HI6 R6 kc ec cH6 cH5 hId R4d cHd cHL R4 HI4 cH4
            have HX := Lib.hid hI
            have RX := Lib.hid R3
            have HOKX : Hid (∀ x ∈ hs.set k {hs[k] with cause := z}, Enc.ok x) := HOK6.out
            have HLX : Hid ((hs.set k {hs[k] with cause := z}).length ≤ 6) := by show _ ≤ _; rw [List.length_set]; exact hl6
            have cT : ((w5.setCell ⟨b, k * 5 + 2, none⟩ (.int .i64 z))).cell? ⟨w1.heap.size, 0, none⟩ = some (.slice B m c) := hI.cT
            have cH : ((w5.setCell ⟨b, k * 5 + 2, none⟩ (.int .i64 z))).cell? ⟨w2.heap.size, 0, none⟩ = some (.slice (some ⟨b, 0, none⟩) hs.length q1) := by have := hI.cH; rw [List.length_set] at this; exact this
            have k0 := hI.k0
            have k1 := hI.k1
            have kz := hI.kz
            have kz' : ∀ u, ((w5.setCell ⟨b, k * 5 + 2, none⟩ (.int .i64 z)).setCell ⟨w.heap.size, 0, none⟩ u).drew.cell? ⟨w.heap.size + 1, 0, none⟩ = some (.slice none 0 0) := kz
            have fz := hI.fz
            have kh := hI.kh; rw [List.length_set] at kh
            have kt := hI.kt
            have fz' : ∀ u, ((w5.setCell ⟨b, k * 5 + 2, none⟩ (.int .i64 z)).setCell ⟨w.heap.size, 0, none⟩ u).drew.frozen? ⟨w.heap.size + 1, 0, none⟩ = false := fz
            have c0 := hI.c0
            have f0 := hI.f0
            clear hI R3
            go_wp2_with fail
            refine wp_region_noPanic ?_
            refine wp_region_Z (fun w' => w'.cell? ⟨w1.heap.size, 0, none⟩ = some (.slice B m c) ∧ w'.cell? ⟨w2.heap.size, 0, none⟩ = some (.slice (some ⟨b, 0, none⟩) hs.length q1)) [3] (by kernel_rfl) ?_
            refine wpAnyZ_take (i := 0) (v := ?_) rfl (by kernel_rfl) (fun _ _ _ h => h) (Or.inl ⟨by rfl, ?_⟩) (⟨cT, cH⟩) ?_
            rotate_left 1
            · (intro w hSw; (try dsimp only at hSw); go_simp; try with_reducible rfl)
            try simp only [Act.put, List.setIfInBounds_toArray, List.set_cons_zero, List.set_cons_succ]
            refine wpAnyZ_take (i := 1) (v := ?_) rfl (by kernel_rfl) (fun _ _ _ h => h) (Or.inl ⟨by rfl, ?_⟩) (⟨cT, cH⟩) ?_
            rotate_left 1
            · (intro w hSw; (try dsimp only at hSw); go_simp; try with_reducible rfl)
            try simp only [Act.put, List.setIfInBounds_toArray, List.set_cons_zero, List.set_cons_succ]
            refine wpAnyZ_one (i := 2) (by kernel_rfl) (ReadyZ.mk rfl (fun K hK => ?_))
            go_simp
            refine hK.out _ _ (fun _ => ⟨kt _, kh _⟩) ?_
            clear hK K
            try simp only [Act.put, List.setIfInBounds_toArray, List.set_cons_zero, List.set_cons_succ]
            refine wpAnyZ_one (i := 3) (by kernel_rfl) (ReadyZ.mk rfl (fun K hK => ?_))
            go_simp
            refine hK.out _ _ (fun h => absurd h (by decide)) ?_
            clear hK K
            try simp only [Act.put, List.setIfInBounds_toArray, List.set_cons_zero, List.set_cons_succ]
            refine wpAnyZ_done (by kernel_rfl) ?_ _
            refine NoPanic.normal ?_
            go_wp2
            exact bodyPost_ret (v := .tuple #[.agg #[.slice B m c], .agg #[.slice (some ⟨b, 0, none⟩) hs.length q1]]) (by simp [results, Tryd.results47, go_sem, k0, k1]) rfl ((HX.out.le (Le.refl _).drew).out (p := p) (RX.out.le (Le.refl _).drew) HA.out HOKX.out hm HLX.out (by omega) (by first | rfl | exact List.length_set ..) _ _)
          · have e3 : (v == 3) = false := by simpa using v3
            have R3 := R4
            have hI := HI4.out
            clear R4 HI4 cH4 cT4 hO v0 v1 v2 v3
            have HX := Lib.hid hI
            have RX := Lib.hid R3
            have HOKX : Hid (∀ x ∈ hs, Enc.ok x) := HOK.out
            have HLX : Hid ((hs).length ≤ 6) := hl6
            have cT : (w4).cell? ⟨w1.heap.size, 0, none⟩ = some (.slice B m c) := hI.cT
            have cH : (w4).cell? ⟨w2.heap.size, 0, none⟩ = some (.slice (some ⟨b, 0, none⟩) hs.length q1) := hI.cH
            have k0 := hI.k0
            have k1 := hI.k1
            have kz := hI.kz
            have kz' : ∀ u, (w4.setCell ⟨w.heap.size, 0, none⟩ u).drew.cell? ⟨w.heap.size + 1, 0, none⟩ = some (.slice none 0 0) := kz
            have fz := hI.fz
            have kh := hI.kh
            have kt := hI.kt
            have fz' : ∀ u, (w4.setCell ⟨w.heap.size, 0, none⟩ u).drew.frozen? ⟨w.heap.size + 1, 0, none⟩ = false := fz
            have c0 := hI.c0
            have f0 := hI.f0
            clear hI R3
            go_wp2_with fail
            refine wp_region_noPanic ?_
            refine wp_region_Z (fun w' => w'.cell? ⟨w1.heap.size, 0, none⟩ = some (.slice B m c) ∧ w'.cell? ⟨w2.heap.size, 0, none⟩ = some (.slice (some ⟨b, 0, none⟩) hs.length q1)) [3] (by kernel_rfl) ?_
            refine wpAnyZ_take (i := 0) (v := ?_) rfl (by kernel_rfl) (fun _ _ _ h => h) (Or.inl ⟨by rfl, ?_⟩) (⟨cT, cH⟩) ?_
            rotate_left 1
            · (intro w hSw; (try dsimp only at hSw); go_simp; try with_reducible rfl)
            try simp only [Act.put, List.setIfInBounds_toArray, List.set_cons_zero, List.set_cons_succ]
            refine wpAnyZ_take (i := 1) (v := ?_) rfl (by kernel_rfl) (fun _ _ _ h => h) (Or.inl ⟨by rfl, ?_⟩) (⟨cT, cH⟩) ?_
            rotate_left 1
            · (intro w hSw; (try dsimp only at hSw); go_simp; try with_reducible rfl)
            try simp only [Act.put, List.setIfInBounds_toArray, List.set_cons_zero, List.set_cons_succ]
            refine wpAnyZ_one (i := 2) (by kernel_rfl) (ReadyZ.mk rfl (fun K hK => ?_))
            go_simp
            refine hK.out _ _ (fun _ => ⟨kt _, kh _⟩) ?_
            clear hK K
            try simp only [Act.put, List.setIfInBounds_toArray, List.set_cons_zero, List.set_cons_succ]
            refine wpAnyZ_one (i := 3) (by kernel_rfl) (ReadyZ.mk rfl (fun K hK => ?_))
            go_simp
            refine hK.out _ _ (fun h => absurd h (by decide)) ?_
            clear hK K
            try simp only [Act.put, List.setIfInBounds_toArray, List.set_cons_zero, List.set_cons_succ]
            refine wpAnyZ_done (by kernel_rfl) ?_ _
            refine NoPanic.normal ?_
            go_wp2
            exact bodyPost_ret (v := .tuple #[.agg #[.slice B m c], .agg #[.slice (some ⟨b, 0, none⟩) hs.length q1]]) (by simp [results, Tryd.results47, go_sem, k0, k1]) rfl ((HX.out.le (Le.refl _).drew).out (p := p) (RX.out.le (Le.refl _).drew) HA.out HOKX.out hm HLX.out (by omega) (by first | rfl | exact List.length_set ..) _ _)
end

section
set_option maxRecDepth 100000 in
theorem aFault_any (B : Option Addr) (m c : Nat) (g p : Nat) (A : Option Addr) (n cap : Nat) (bs : List By) (w : World) (hm : m ≤ 6) (hp : p ≤ 900000) (hR : Rd w g p A n cap bs) :
    Calls Tryd.prog 56 #[.pointer (some ⟨g, 0, none⟩), .agg #[.slice B m c]] w (NumOut (-1) 9 2 g p A n cap bs w) := by
  have hgw := hR.lt
  go_enter Tryd.func56, Tryd.ntmps56
  go_wp2_with fail
  obtain ⟨c0, z0, L0⟩ := box1 w (.slice B m c) 28
  have R0 := hR.le L0
  generalize w.alloc (.cells #[.slice B m c] 28) = W at *
  have hgz : w.heap.size ≠ g := by omega
  refine (pick_any 16 g p A n cap bs W (by omega) (by omega) (by omega) R0).mono ?_
  rintro e w1 ⟨v, rfl, hv0, hv1, R1, hg1⟩
  have c1 := (hg1.cell z0 hgz).trans c0
  have G1 := (Gx.of_le (g := g) L0).trans hg1
  have s1 := hg1.size
  clear c0 hg1
  by_cases hv : v = 0
  · subst hv
    go_wp2_with fail
    refine (one_any _ 3 3 [-1, (m : Int), 9] g (p + 1) A n cap bs _ (by omega) (by omega) (by omega) (Sl.of_row (hp_new _ _ rfl) (by rfl) rfl (by omega) (by intro x hx; simp at hx; rcases hx with rfl | rfl | rfl <;> (constructor <;> omega))) (fun _ a e => by injection e with e; rw [← e]; show w1.heap.size ≠ g; omega) (R1.le (Le.new _ _))).mono ?_
    rintro e w2 ⟨u, rfl, hu, R2, hg2⟩
    have hu1 : -1 ≤ u ∧ u ≤ 9 := by simp at hu; omega
    clear hu
    go_wp2
    go_ret
    exact ⟨u, p + 1 + 1, rfl, hu1.1, hu1.2, by omega, R2, (G1.trans (Gx.of_le (Le.new _ _))).trans hg2⟩
  · have e0 : (v == 0) = false := by simpa using hv
    go_wp2_with fail
    refine (pick_any m g (p + 1) A n cap bs w1 (by omega) (by omega) (by omega) R1).mono ?_
    rintro e w2 ⟨u, rfl, hu0, hu1, R2, hg2⟩
    go_wp2
    go_ret
    exact ⟨u, p + 1 + 1, rfl, by omega, by omega, by omega, R2, G1.trans hg2⟩
/-- two results' boxes, a tree and a heap drawn behind them, and their boxes -/
theorem SI.start {g : Nat} {w w1 : World} {B A1 : Option Addr} {m c q1 : Nat} {xs : List Cls} {hs : List Flt} (hgw : g < w.heap.size) (S : Sl w1 B m c xs)
    (hab : 0 < m → ∀ a, B = some a → ((w.alloc (.cells #[.slice none 0 0] 25)).alloc (.cells #[.slice none 0 0] 28)).heap.size ≤ a.block)
    (O : w1.ownsRow ((w.alloc (.cells #[.slice none 0 0] 25)).alloc (.cells #[.slice none 0 0] 28)).heap.size 49 5 (.slice A1 hs.length q1) hs.length (hs.flatMap Enc.cells))
    (hg : Gx g ((w.alloc (.cells #[.slice none 0 0] 25)).alloc (.cells #[.slice none 0 0] 28)) w1) :
    SI w.heap.size g w1.heap.size (w1.heap.size + 1) w B m c xs A1 q1 hs ((w1.alloc (.cells #[.slice B m c] 25)).alloc (.cells #[.slice A1 hs.length q1] 28)) := by
  obtain ⟨c0, z0, c1, z1, L0⟩ := box2 w (.slice none 0 0) (.slice none 0 0) 25 28
  have f0 : ((w.alloc (.cells #[.slice none 0 0] 25)).alloc (.cells #[.slice none 0 0] 28)).frozen? ⟨w.heap.size, 0, none⟩ = false := by
    rw [((Le.new _ _).frozen (b := w.heap.size) (o := 0) (by simp))]; exact World.frozen?_alloc_at _ _ _ _ rfl
  have f1 : ((w.alloc (.cells #[.slice none 0 0] 25)).alloc (.cells #[.slice none 0 0] 28)).frozen? ⟨w.heap.size + 1, 0, none⟩ = false := World.frozen?_alloc_at _ _ _ _ (by simp)
  have hw : ((w.alloc (.cells #[.slice none 0 0] 25)).alloc (.cells #[.slice none 0 0] 28)).heap.size = w.heap.size + 1 + 1 := by simp
  generalize (w.alloc (.cells #[.slice none 0 0] 25)).alloc (.cells #[.slice none 0 0] 28) = W at *
  obtain ⟨d0, y0, d1, y1, L⟩ := box2 w1 (.slice B m c) (.slice A1 hs.length q1) 25 28
  have s1 := hg.size
  have hlt := O.lt
  exact ⟨rfl, ⟨by omega, by omega, by omega, by omega⟩, (L.cell (b := w.heap.size) (o := 0) (by omega)).trans ((hg.cell (k := w.heap.size) (o := 0) (by omega) (by omega)).trans c0), (L.frozen (b := w.heap.size) (o := 0) (by omega)).trans ((hg.frozen (k := w.heap.size) (o := 0) (by omega) (by omega)).trans f0),
    (L.cell (b := w.heap.size + 1) (o := 0) (by omega)).trans ((hg.cell (k := w.heap.size + 1) (o := 0) (by omega) (by omega)).trans c1), (L.frozen (b := w.heap.size + 1) (o := 0) (by omega)).trans ((hg.frozen (k := w.heap.size + 1) (o := 0) (by omega) (by omega)).trans f1),
    d0, by omega, d1, by omega, S.le L, fun hn a e => by have := hab hn a e; have := S.under hn a e; omega, own_le (own_mono O (by omega)) L, fun k hk => by have := hlt k hk; omega, y1, ((Gx.of_le L0).trans hg).trans (Gx.of_le L)⟩
/-- a tree, a heap and numbers that were drawn -/
def SHn (ns : List Value → Prop) (k g p : Nat) (A : Option Addr) (n cap : Nat) (bs : List By) (w : World) (e : Ending) (w' : World) : Prop :=
  ∃ (B : Option Addr) (m c : Nat) (xs : List Cls) (A1 : Option Addr) (q1 : Nat) (hs : List Flt) (p' : Nat) (vs : List Value), e = .returned (.tuple (.agg #[.slice B m c] :: .agg #[.slice A1 hs.length q1] :: vs).toArray) ∧ ns vs ∧ Sl w' B m c xs ∧ m ≤ 8 ∧ (0 < m → Off g B) ∧ (0 < m → ∀ a, B = some a → w.heap.size ≤ a.block) ∧
    w'.ownsRow w.heap.size 49 5 (.slice A1 hs.length q1) hs.length (hs.flatMap Enc.cells) ∧ (∀ x ∈ hs, Enc.ok x) ∧ hs.length ≤ 6 ∧ p' ≤ p + k ∧ Rd w' g p' A n cap bs ∧ Gx g w w'
def one9 (vs : List Value) : Prop := ∃ f : Int, vs = [.int .i64 f] ∧ -1 ≤ f ∧ f ≤ 9
def two9 (vs : List Value) : Prop := ∃ f h : Int, vs = [.int .i64 f, .int .i64 h] ∧ -1 ≤ f ∧ f ≤ 9 ∧ -1 ≤ h ∧ h ≤ 9
theorem SI.outN {b g t h : Nat} {w : World} {B : Option Addr} {m c : Nat} {xs : List Cls} {A1 : Option Addr} {q1 : Nat} {hs : List Flt} {wr : World} {p p' n cap k : Nat} {A : Option Addr} {bs : List By} {ns : List Value → Prop} {vs : List Value} (H : SI b g t h w B m c xs A1 q1 hs wr) (R : Rd wr g p' A n cap bs) (hA : 0 < n → ∀ a, A = some a → a.block < b) (hok : ∀ x ∈ hs, Enc.ok x) (hm : m ≤ 8) (hl : hs.length ≤ 6) (hp : p' ≤ p + k) (hv : ns vs) (u v : Value) :
    SHn ns k g p A n cap bs w (.returned (.tuple (.agg #[.slice B m c] :: .agg #[.slice A1 hs.length q1] :: vs).toArray)) ((wr.setCell ⟨b, 0, none⟩ u).setCell ⟨b + 1, 0, none⟩ v) := by
  have := H.gw; have := H.ht; have hb := H.hb
  refine ⟨B, m, c, xs, A1, q1, hs, p', vs, rfl, hv, (H.S.grown (grown_set wr b 0 u) (fun hn a e e2 => ?_)).grown (grown_set _ (b + 1) 0 v) (fun hn a e e2 => ?_), hm, H.offB, fun hn a e => by have := H.HB hn a e; omega, ?_, hok, hl, hp, (R.setNew (o := 0) u (by omega) (fun hn a e => by have := hA hn a e; omega)).setNew (o := 0) v (by omega) (fun hn a e => by have := hA hn a e; omega), (H.G.setNewF (by omega) u).setNewF (by omega) v⟩
  · have := H.HB hn a e; injection e2 with e2; omega
  · have := H.HB hn a e; injection e2 with e2; omega
  · rw [← hb]
    exact (H.O.kept (grown_set wr b 0 u) (.inr (fun e => by have := H.nb _ e; omega))).kept (grown_set _ (b + 1) 0 v) (.inr (fun e => by have := H.nb _ e; omega))
theorem SI.kt2 {b g t h : Nat} {w : World} {B : Option Addr} {m c : Nat} {xs : List Cls} {A1 : Option Addr} {q1 : Nat} {hs : List Flt} {wr : World} (H : SI b g t h w B m c xs A1 q1 hs wr) (u v : Value) : ((wr.setCell ⟨b, 0, none⟩ u).setCell ⟨b + 1, 0, none⟩ v).cell? ⟨t, 0, none⟩ = some (.slice B m c) := (cell_set_other (.inl (by have := H.ht; omega))).trans (H.kt u)
theorem SI.kh2 {b g t h : Nat} {w : World} {B : Option Addr} {m c : Nat} {xs : List Cls} {A1 : Option Addr} {q1 : Nat} {hs : List Flt} {wr : World} (H : SI b g t h w B m c xs A1 q1 hs wr) (u v : Value) : ((wr.setCell ⟨b, 0, none⟩ u).setCell ⟨b + 1, 0, none⟩ v).cell? ⟨h, 0, none⟩ = some (.slice A1 hs.length q1) := (cell_set_other (.inl (by have := H.ht; have := H.hh; omega))).trans (H.kh u)
set_option maxRecDepth 100000 in
theorem faultIn_any (g p : Nat) (A : Option Addr) (n cap : Nat) (bs : List By) (w : World) (hp : p ≤ 500000) (hR : Rd w g p A n cap bs) :
    Calls Tryd.prog 30 #[.pointer (some ⟨g, 0, none⟩)] w (SHn one9 80 g p A n cap bs w) := by
  have hgw := hR.lt
  have HA : Hid (0 < n → ∀ a, A = some a → a.block < w.heap.size) := fun hn a e => hR.sl.under hn a e
  go_enter Tryd.func30, Tryd.ntmps30
  go_wp2_with fail
  refine (someHeap_any g p A n cap bs _ (by omega) (hR.le ((Le.new w _).alloc _))).mono ?_
  rintro e w1 ⟨B, m, c, xs, A1, q1, hs, p1, rfl, S, hm, hoff, hab, O, hok, hl6, hp1, R, hg⟩
  have hI := SI.start hgw S hab O hg
  have R1 := R.le ((Le.new w1 (.cells #[.slice B m c] 25)).alloc (.cells #[.slice A1 hs.length q1] 28))
  have HOK := Lib.hid hok
  clear hok R S O hg hab hoff
  generalize hW1 : (w1.alloc (.cells #[.slice B m c] 25)).alloc (.cells #[.slice A1 hs.length q1] 28) = W1 at *
  have cT : W1.drew.cell? ⟨w1.heap.size, 0, none⟩ = some (.slice B m c) := hI.cT
  have cH : W1.drew.cell? ⟨w1.heap.size + 1, 0, none⟩ = some (.slice A1 hs.length q1) := hI.cH
  have HI := Lib.hid (hI.le (Le.refl _).drew)
  have R1d := R1.le (Le.refl W1).drew
  clear hI R1
  subst hW1
  go_wp2_with fail
  go_region_held3 (fun w' => w'.cell? ⟨w1.heap.size, 0, none⟩ = some (.slice B m c) ∧ w'.cell? ⟨w1.heap.size + 1, 0, none⟩ = some (.slice A1 hs.length q1))
    (first | exact ⟨cT, cH⟩ | exact ⟨cT2, cH2⟩ | exact ⟨kt _, kh _⟩ | exact ⟨kt2 _ _, kh2 _ _⟩)
    (first
    | (go_at_call 56; refine (aFault_any A1 hs.length q1 g p1 A n cap bs _ hl6 (by omega) R1d).mono ?_; rintro e w2 ⟨f, p2, rfl, hf0, hf1, hp2, R2, hg2⟩; have hI2 := HI.out.gx hg2; have cT2 := hI2.cT; have cH2 := hI2.cH; have kt := hI2.kt; have kh := hI2.kh; have kt2 := hI2.kt2; have kh2 := hI2.kh2; have k0 := hI2.k0; have k1 := hI2.k1; have c0 := hI2.c0; have f0 := hI2.f0; have fz := hI2.fz; have kz := hI2.kz; have HI2 := Lib.hid hI2; clear hI2 hg2))
  go_wp2
  exact bodyPost_ret (v := .tuple #[.agg #[.slice B m c], .agg #[.slice A1 hs.length q1], .int .i64 f]) (by simp [results, Tryd.results30, go_sem, k0, k1]) rfl (HI2.out.outN (p := p) R2 HA.out HOK.out hm hl6 (by omega) ⟨f, rfl, hf0, hf1⟩ _ _)
set_option maxRecDepth 100000 in
theorem twoFaults_any (g p : Nat) (A : Option Addr) (n cap : Nat) (bs : List By) (w : World) (hp : p ≤ 500000) (hR : Rd w g p A n cap bs) :
    Calls Tryd.prog 52 #[.pointer (some ⟨g, 0, none⟩)] w (SHn two9 80 g p A n cap bs w) := by
  have hgw := hR.lt
  have HA : Hid (0 < n → ∀ a, A = some a → a.block < w.heap.size) := fun hn a e => hR.sl.under hn a e
  go_enter Tryd.func52, Tryd.ntmps52
  go_wp2_with fail
  refine (someHeap_any g p A n cap bs _ (by omega) (hR.le ((Le.new w _).alloc _))).mono ?_
  rintro e w1 ⟨B, m, c, xs, A1, q1, hs, p1, rfl, S, hm, hoff, hab, O, hok, hl6, hp1, R, hg⟩
  have hI := SI.start hgw S hab O hg
  have R1 := R.le ((Le.new w1 (.cells #[.slice B m c] 25)).alloc (.cells #[.slice A1 hs.length q1] 28))
  have HOK := Lib.hid hok
  clear hok R S O hg hab hoff
  generalize hW1 : (w1.alloc (.cells #[.slice B m c] 25)).alloc (.cells #[.slice A1 hs.length q1] 28) = W1 at *
  have cT : W1.drew.cell? ⟨w1.heap.size, 0, none⟩ = some (.slice B m c) := hI.cT
  have cH : W1.drew.cell? ⟨w1.heap.size + 1, 0, none⟩ = some (.slice A1 hs.length q1) := hI.cH
  have HI := Lib.hid (hI.le (Le.refl _).drew)
  have R1d := R1.le (Le.refl W1).drew
  clear hI R1
  subst hW1
  go_wp2_with fail
  go_region_held3 (fun w' => w'.cell? ⟨w1.heap.size, 0, none⟩ = some (.slice B m c) ∧ w'.cell? ⟨w1.heap.size + 1, 0, none⟩ = some (.slice A1 hs.length q1))
    (first | exact ⟨cT, cH⟩ | exact ⟨cT2, cH2⟩ | exact ⟨cT3, cH3⟩ | exact ⟨kt _, kh _⟩ | exact ⟨kt2 _ _, kh2 _ _⟩)
    (first
    | (go_at_call 56; refine (aFault_any A1 hs.length q1 g p1 A n cap bs _ hl6 (by omega) R1d).mono ?_; rintro e w2 ⟨f, p2, rfl, hf0, hf1, hp2, R2, hg2⟩; have hI2 := HI.out.gx hg2; have cT2 := hI2.cT; have cH2 := hI2.cH; clear hg2)
    | (go_at_call 56; refine (aFault_any A1 hs.length q1 g p2 A n cap bs _ hl6 (by omega) R2).mono ?_; rintro e w3 ⟨i, p3, rfl, hi0, hi1, hp3, R3, hg3⟩; have hI3 := hI2.gx hg3; have cT3 := hI3.cT; have cH3 := hI3.cH; have kt := hI3.kt; have kh := hI3.kh; have kt2 := hI3.kt2; have kh2 := hI3.kh2; have k0 := hI3.k0; have k1 := hI3.k1; have c0 := hI3.c0; have f0 := hI3.f0; have fz := hI3.fz; have kz := hI3.kz; have HI3 := Lib.hid hI3; clear hI3 hg3))
  go_wp2
  exact bodyPost_ret (v := .tuple #[.agg #[.slice B m c], .agg #[.slice A1 hs.length q1], .int .i64 f, .int .i64 i]) (by simp [results, Tryd.results52, go_sem, k0, k1]) rfl (HI3.out.outN (p := p) R3 HA.out HOK.out hm hl6 (by omega) ⟨f, i, rfl, hf0, hf1, hi0, hi1⟩ _ _)
/-- a tree, a heap and numbers, drawn anew -/
def DrH (ns : List Value → Prop) (w : World) (e : Ending) (w' : World) : Prop :=
  ∃ (B : Option Addr) (m c : Nat) (xs : List Cls) (A1 : Option Addr) (q1 : Nat) (hs : List Flt) (vs : List Value), e = .returned (.tuple (.agg #[.slice B m c] :: .agg #[.slice A1 hs.length q1] :: vs).toArray) ∧ ns vs ∧ Sl w' B m c xs ∧ m ≤ 8 ∧ Sl w' A1 hs.length q1 hs ∧ hs.length ≤ 6 ∧ Le w w'
/-- the same behind a new reader -/
theorem SI.startD {g : Nat} {w w1 w2 : World} {B A1 : Option Addr} {m c q1 : Nat} {xs : List Cls} {hs : List Flt} (L1 : Le ((w.alloc (.cells #[.slice none 0 0] 25)).alloc (.cells #[.slice none 0 0] 28)) w1)
    (hgW : ((w.alloc (.cells #[.slice none 0 0] 25)).alloc (.cells #[.slice none 0 0] 28)).heap.size ≤ g) (hgl : g < w1.heap.size) (S : Sl w2 B m c xs)
    (hab : 0 < m → ∀ a, B = some a → w1.heap.size ≤ a.block)
    (O : w2.ownsRow w1.heap.size 49 5 (.slice A1 hs.length q1) hs.length (hs.flatMap Enc.cells))
    (hg : Gx g w1 w2) :
    SI w.heap.size g w2.heap.size (w2.heap.size + 1) w B m c xs A1 q1 hs ((w2.alloc (.cells #[.slice B m c] 25)).alloc (.cells #[.slice A1 hs.length q1] 28)) := by
  obtain ⟨c0, z0, c1, z1, L0⟩ := box2 w (.slice none 0 0) (.slice none 0 0) 25 28
  have f0 : ((w.alloc (.cells #[.slice none 0 0] 25)).alloc (.cells #[.slice none 0 0] 28)).frozen? ⟨w.heap.size, 0, none⟩ = false := by
    rw [((Le.new _ _).frozen (b := w.heap.size) (o := 0) (by simp))]; exact World.frozen?_alloc_at _ _ _ _ rfl
  have f1 : ((w.alloc (.cells #[.slice none 0 0] 25)).alloc (.cells #[.slice none 0 0] 28)).frozen? ⟨w.heap.size + 1, 0, none⟩ = false := World.frozen?_alloc_at _ _ _ _ (by simp)
  have hw : ((w.alloc (.cells #[.slice none 0 0] 25)).alloc (.cells #[.slice none 0 0] 28)).heap.size = w.heap.size + 1 + 1 := by simp
  generalize (w.alloc (.cells #[.slice none 0 0] 25)).alloc (.cells #[.slice none 0 0] 28) = W at *
  obtain ⟨d0, y0, d1, y1, L⟩ := box2 w2 (.slice B m c) (.slice A1 hs.length q1) 25 28
  have s0 := L1.size
  have s1 := hg.size
  have hlt := O.lt
  replace c0 := (L1.cell z0).trans c0
  replace c1 := (L1.cell z1).trans c1
  replace f0 := (L1.frozen z0).trans f0
  replace f1 := (L1.frozen z1).trans f1
  exact ⟨rfl, ⟨by omega, by omega, by omega, by omega⟩, (L.cell (b := w.heap.size) (o := 0) (by omega)).trans ((hg.cell (k := w.heap.size) (o := 0) (by omega) (by omega)).trans c0), (L.frozen (b := w.heap.size) (o := 0) (by omega)).trans ((hg.frozen (k := w.heap.size) (o := 0) (by omega) (by omega)).trans f0),
    (L.cell (b := w.heap.size + 1) (o := 0) (by omega)).trans ((hg.cell (k := w.heap.size + 1) (o := 0) (by omega) (by omega)).trans c1), (L.frozen (b := w.heap.size + 1) (o := 0) (by omega)).trans ((hg.frozen (k := w.heap.size + 1) (o := 0) (by omega) (by omega)).trans f1),
    d0, by omega, d1, by omega, S.le L, fun hn a e => by have := hab hn a e; have := S.under hn a e; omega, own_le (own_mono O (by omega)) L, fun k hk => by have := hlt k hk; omega, y1, ((Gx.of_le (L0.trans L1)).trans hg).trans (Gx.of_le L)⟩
theorem SI.outD {b g t h : Nat} {w : World} {B : Option Addr} {m c : Nat} {xs : List Cls} {A1 : Option Addr} {q1 : Nat} {hs : List Flt} {wr : World} {ns : List Value → Prop} {vs : List Value} (H : SI b g t h w B m c xs A1 q1 hs wr) (hgw : w.heap.size ≤ g) (hok : ∀ x ∈ hs, Enc.ok x) (hm : m ≤ 8) (hl : hs.length ≤ 6) (hv : ns vs) (u v : Value) :
    DrH ns w (.returned (.tuple (.agg #[.slice B m c] :: .agg #[.slice A1 hs.length q1] :: vs).toArray)) ((wr.setCell ⟨b, 0, none⟩ u).setCell ⟨b + 1, 0, none⟩ v) := by
  have := H.gw; have := H.ht; have hb := H.hb
  refine ⟨B, m, c, xs, A1, q1, hs, vs, rfl, hv, (H.S.grown (grown_set wr b 0 u) (fun hn a e e2 => ?_)).grown (grown_set _ (b + 1) 0 v) (fun hn a e e2 => ?_), hm, ?_, hl, ((Gx.le (Le.refl w) H.G hgw).setCell (by omega) u).setCell (by omega) v⟩
  · have := H.HB hn a e; injection e2 with e2; omega
  · have := H.HB hn a e; injection e2 with e2; omega
  · exact Sl.of_own ((H.O.kept (grown_set wr b 0 u) (.inr (fun e => by have := H.nb _ e; omega))).kept (grown_set _ (b + 1) 0 v) (.inr (fun e => by have := H.nb _ e; omega))) rfl (by decide) hok
end

section
set_option maxRecDepth 100000 in
theorem drawIsolateFault_any (A : Option Addr) (n cap : Nat) (bs : List By) (w : World) (hR : Sl w A n cap bs) : Calls Tryd.prog 8 #[.slice A n cap] w (DrH one9 w) := by
  go_enter Tryd.func8, Tryd.ntmps8
  go_wp2_with fail
  obtain ⟨c0, z0, c1, z1, L0⟩ := box2 w (.slice none 0 0) (.slice none 0 0) 25 28
  have f0 : ((w.alloc (.cells #[.slice none 0 0] 25)).alloc (.cells #[.slice none 0 0] 28)).frozen? ⟨w.heap.size, 0, none⟩ = false := by
    rw [((Le.new _ _).frozen (b := w.heap.size) (o := 0) (by simp))]; exact World.frozen?_alloc_at _ _ _ _ rfl
  have f1 : ((w.alloc (.cells #[.slice none 0 0] 25)).alloc (.cells #[.slice none 0 0] 28)).frozen? ⟨w.heap.size + 1, 0, none⟩ = false := World.frozen?_alloc_at _ _ _ _ (by simp)
  have hw : ((w.alloc (.cells #[.slice none 0 0] 25)).alloc (.cells #[.slice none 0 0] 28)).heap.size = w.heap.size + 1 + 1 := by simp
  have S0 := hR.le L0
  generalize (w.alloc (.cells #[.slice none 0 0] 25)).alloc (.cells #[.slice none 0 0] 28) = W at *
  refine (newReader_any A n cap bs W S0).mono ?_
  rintro e w1 ⟨g, A1, n1, k1, bs1, rfl, hg, R1, hle⟩
  replace c0 := (hle.cell z0).trans c0
  replace c1 := (hle.cell z1).trans c1
  replace f0 := (hle.frozen z0).trans f0
  replace f1 := (hle.frozen z1).trans f1
  replace z0 := Nat.lt_of_lt_of_le z0 hle.size
  replace z1 := Nat.lt_of_lt_of_le z1 hle.size
  replace L0 := L0.trans hle
  have s1 := hle.size
  clear S0 hle
  go_wp2_with fail
  refine (faultIn_any g 0 A1 n1 k1 bs1 w1 (by omega) R1).mono ?_
  rintro e w2 ⟨B, m, c, xs, A2, q2, hs, p2, vs, rfl, ⟨f, rfl, hf⟩, S, hm, hoff, hab, O, hok, hl6, hp2, R2, hg2⟩
  replace c0 := (hg2.cell (k := w.heap.size) (o := 0) (by omega) (by omega)).trans c0
  replace f0 := (hg2.frozen (k := w.heap.size) (o := 0) (by omega) (by omega)).trans f0
  replace c1 := (hg2.cell (k := w.heap.size + 1) (o := 0) (by omega) (by omega)).trans c1
  replace f1 := (hg2.frozen (k := w.heap.size + 1) (o := 0) (by omega) (by omega)).trans f1
  have L2 := Gx.le L0 hg2 (by omega)
  have hlt := O.lt
  clear R2 hg2 hp2 R1 L0 hoff
  have HX : Hid (∀ u v, Sl ((w2.setCell ⟨w.heap.size, 0, none⟩ u).setCell ⟨w.heap.size + 1, 0, none⟩ v) B m c xs ∧ Sl ((w2.setCell ⟨w.heap.size, 0, none⟩ u).setCell ⟨w.heap.size + 1, 0, none⟩ v) A2 hs.length q2 hs ∧ Le w ((w2.setCell ⟨w.heap.size, 0, none⟩ u).setCell ⟨w.heap.size + 1, 0, none⟩ v)) := fun u v =>
    ⟨(S.grown (grown_set w2 w.heap.size 0 u) (fun hn a e e2 => by have := hab hn a e; injection e2 with e2; omega)).grown (grown_set _ (w.heap.size + 1) 0 v) (fun hn a e e2 => by have := hab hn a e; injection e2 with e2; omega),
      Sl.of_own ((O.kept (grown_set w2 w.heap.size 0 u) (.inr (fun e => by have := hlt _ e; omega))).kept (grown_set _ (w.heap.size + 1) 0 v) (.inr (fun e => by have := hlt _ e; omega))) rfl (by decide) hok, (L2.setCell (Nat.le_refl _) u).setCell (Nat.le_succ _) v⟩
  have k0 : ∀ u v, ((w2.setCell ⟨w.heap.size, 0, none⟩ u).setCell ⟨w.heap.size + 1, 0, none⟩ v).cell? ⟨w.heap.size, 0, none⟩ = some u := fun u v => (cell_set_other (.inl (by omega))).trans (cell_set_same c0)
  have kz : ∀ u, (w2.setCell ⟨w.heap.size, 0, none⟩ u).cell? ⟨w.heap.size + 1, 0, none⟩ = some (.slice none 0 0) := fun u => (cell_set_other (.inl (by omega))).trans c1
  have k1 : ∀ u v, ((w2.setCell ⟨w.heap.size, 0, none⟩ u).setCell ⟨w.heap.size + 1, 0, none⟩ v).cell? ⟨w.heap.size + 1, 0, none⟩ = some v := fun u v => cell_set_same (kz u)
  have fz : ∀ u, (w2.setCell ⟨w.heap.size, 0, none⟩ u).frozen? ⟨w.heap.size + 1, 0, none⟩ = false := fun u => by simpa using f1
  clear S O hok hab L2 hlt
  go_wp2
  exact bodyPost_ret (v := .tuple #[.agg #[.slice B m c], .agg #[.slice A2 hs.length q2], .int .i64 f]) (by simp [results, Tryd.results8, go_sem, k0, k1]) rfl ⟨B, m, c, xs, A2, q2, hs, _, rfl, ⟨f, rfl, hf⟩, (HX.out _ _).1, hm, (HX.out _ _).2.1, hl6, (HX.out _ _).2.2⟩
set_option maxRecDepth 100000 in
theorem drawOldestShown_any (A : Option Addr) (n cap : Nat) (bs : List By) (w : World) (hR : Sl w A n cap bs) : Calls Tryd.prog 15 #[.slice A n cap] w (DrH one9 w) := by
  go_enter Tryd.func15, Tryd.ntmps15
  go_wp2_with fail
  obtain ⟨c0, z0, c1, z1, L0⟩ := box2 w (.slice none 0 0) (.slice none 0 0) 25 28
  have f0 : ((w.alloc (.cells #[.slice none 0 0] 25)).alloc (.cells #[.slice none 0 0] 28)).frozen? ⟨w.heap.size, 0, none⟩ = false := by
    rw [((Le.new _ _).frozen (b := w.heap.size) (o := 0) (by simp))]; exact World.frozen?_alloc_at _ _ _ _ rfl
  have f1 : ((w.alloc (.cells #[.slice none 0 0] 25)).alloc (.cells #[.slice none 0 0] 28)).frozen? ⟨w.heap.size + 1, 0, none⟩ = false := World.frozen?_alloc_at _ _ _ _ (by simp)
  have hw : ((w.alloc (.cells #[.slice none 0 0] 25)).alloc (.cells #[.slice none 0 0] 28)).heap.size = w.heap.size + 1 + 1 := by simp
  have S0 := hR.le L0
  generalize (w.alloc (.cells #[.slice none 0 0] 25)).alloc (.cells #[.slice none 0 0] 28) = W at *
  refine (newReader_any A n cap bs W S0).mono ?_
  rintro e w1 ⟨g, A1, n1, k1, bs1, rfl, hg, R1, hle⟩
  replace c0 := (hle.cell z0).trans c0
  replace c1 := (hle.cell z1).trans c1
  replace f0 := (hle.frozen z0).trans f0
  replace f1 := (hle.frozen z1).trans f1
  replace z0 := Nat.lt_of_lt_of_le z0 hle.size
  replace z1 := Nat.lt_of_lt_of_le z1 hle.size
  replace L0 := L0.trans hle
  have s1 := hle.size
  clear S0 hle
  go_wp2_with fail
  refine (faultIn_any g 0 A1 n1 k1 bs1 w1 (by omega) R1).mono ?_
  rintro e w2 ⟨B, m, c, xs, A2, q2, hs, p2, vs, rfl, ⟨f, rfl, hf⟩, S, hm, hoff, hab, O, hok, hl6, hp2, R2, hg2⟩
  replace c0 := (hg2.cell (k := w.heap.size) (o := 0) (by omega) (by omega)).trans c0
  replace f0 := (hg2.frozen (k := w.heap.size) (o := 0) (by omega) (by omega)).trans f0
  replace c1 := (hg2.cell (k := w.heap.size + 1) (o := 0) (by omega) (by omega)).trans c1
  replace f1 := (hg2.frozen (k := w.heap.size + 1) (o := 0) (by omega) (by omega)).trans f1
  have L2 := Gx.le L0 hg2 (by omega)
  have hlt := O.lt
  clear R2 hg2 hp2 R1 L0 hoff
  have HX : Hid (∀ u v, Sl ((w2.setCell ⟨w.heap.size, 0, none⟩ u).setCell ⟨w.heap.size + 1, 0, none⟩ v) B m c xs ∧ Sl ((w2.setCell ⟨w.heap.size, 0, none⟩ u).setCell ⟨w.heap.size + 1, 0, none⟩ v) A2 hs.length q2 hs ∧ Le w ((w2.setCell ⟨w.heap.size, 0, none⟩ u).setCell ⟨w.heap.size + 1, 0, none⟩ v)) := fun u v =>
    ⟨(S.grown (grown_set w2 w.heap.size 0 u) (fun hn a e e2 => by have := hab hn a e; injection e2 with e2; omega)).grown (grown_set _ (w.heap.size + 1) 0 v) (fun hn a e e2 => by have := hab hn a e; injection e2 with e2; omega),
      Sl.of_own ((O.kept (grown_set w2 w.heap.size 0 u) (.inr (fun e => by have := hlt _ e; omega))).kept (grown_set _ (w.heap.size + 1) 0 v) (.inr (fun e => by have := hlt _ e; omega))) rfl (by decide) hok, (L2.setCell (Nat.le_refl _) u).setCell (Nat.le_succ _) v⟩
  have k0 : ∀ u v, ((w2.setCell ⟨w.heap.size, 0, none⟩ u).setCell ⟨w.heap.size + 1, 0, none⟩ v).cell? ⟨w.heap.size, 0, none⟩ = some u := fun u v => (cell_set_other (.inl (by omega))).trans (cell_set_same c0)
  have kz : ∀ u, (w2.setCell ⟨w.heap.size, 0, none⟩ u).cell? ⟨w.heap.size + 1, 0, none⟩ = some (.slice none 0 0) := fun u => (cell_set_other (.inl (by omega))).trans c1
  have k1 : ∀ u v, ((w2.setCell ⟨w.heap.size, 0, none⟩ u).setCell ⟨w.heap.size + 1, 0, none⟩ v).cell? ⟨w.heap.size + 1, 0, none⟩ = some v := fun u v => cell_set_same (kz u)
  have fz : ∀ u, (w2.setCell ⟨w.heap.size, 0, none⟩ u).frozen? ⟨w.heap.size + 1, 0, none⟩ = false := fun u => by simpa using f1
  clear S O hok hab L2 hlt
  go_wp2
  exact bodyPost_ret (v := .tuple #[.agg #[.slice B m c], .agg #[.slice A2 hs.length q2], .int .i64 f]) (by simp [results, Tryd.results15, go_sem, k0, k1]) rfl ⟨B, m, c, xs, A2, q2, hs, _, rfl, ⟨f, rfl, hf⟩, (HX.out _ _).1, hm, (HX.out _ _).2.1, hl6, (HX.out _ _).2.2⟩
set_option maxRecDepth 100000 in
theorem drawChainText_any (A : Option Addr) (n cap : Nat) (bs : List By) (w : World) (hR : Sl w A n cap bs) : Calls Tryd.prog 21 #[.slice A n cap] w (DrH one9 w) := by
  go_enter Tryd.func21, Tryd.ntmps21
  go_wp2_with fail
  obtain ⟨c0, z0, c1, z1, L0⟩ := box2 w (.slice none 0 0) (.slice none 0 0) 25 28
  have f0 : ((w.alloc (.cells #[.slice none 0 0] 25)).alloc (.cells #[.slice none 0 0] 28)).frozen? ⟨w.heap.size, 0, none⟩ = false := by
    rw [((Le.new _ _).frozen (b := w.heap.size) (o := 0) (by simp))]; exact World.frozen?_alloc_at _ _ _ _ rfl
  have f1 : ((w.alloc (.cells #[.slice none 0 0] 25)).alloc (.cells #[.slice none 0 0] 28)).frozen? ⟨w.heap.size + 1, 0, none⟩ = false := World.frozen?_alloc_at _ _ _ _ (by simp)
  have hw : ((w.alloc (.cells #[.slice none 0 0] 25)).alloc (.cells #[.slice none 0 0] 28)).heap.size = w.heap.size + 1 + 1 := by simp
  have S0 := hR.le L0
  generalize (w.alloc (.cells #[.slice none 0 0] 25)).alloc (.cells #[.slice none 0 0] 28) = W at *
  refine (newReader_any A n cap bs W S0).mono ?_
  rintro e w1 ⟨g, A1, n1, k1, bs1, rfl, hg, R1, hle⟩
  replace c0 := (hle.cell z0).trans c0
  replace c1 := (hle.cell z1).trans c1
  replace f0 := (hle.frozen z0).trans f0
  replace f1 := (hle.frozen z1).trans f1
  replace z0 := Nat.lt_of_lt_of_le z0 hle.size
  replace z1 := Nat.lt_of_lt_of_le z1 hle.size
  replace L0 := L0.trans hle
  have s1 := hle.size
  clear S0 hle
  go_wp2_with fail
  refine (faultIn_any g 0 A1 n1 k1 bs1 w1 (by omega) R1).mono ?_
  rintro e w2 ⟨B, m, c, xs, A2, q2, hs, p2, vs, rfl, ⟨f, rfl, hf⟩, S, hm, hoff, hab, O, hok, hl6, hp2, R2, hg2⟩
  replace c0 := (hg2.cell (k := w.heap.size) (o := 0) (by omega) (by omega)).trans c0
  replace f0 := (hg2.frozen (k := w.heap.size) (o := 0) (by omega) (by omega)).trans f0
  replace c1 := (hg2.cell (k := w.heap.size + 1) (o := 0) (by omega) (by omega)).trans c1
  replace f1 := (hg2.frozen (k := w.heap.size + 1) (o := 0) (by omega) (by omega)).trans f1
  have L2 := Gx.le L0 hg2 (by omega)
  have hlt := O.lt
  clear R2 hg2 hp2 R1 L0 hoff
  have HX : Hid (∀ u v, Sl ((w2.setCell ⟨w.heap.size, 0, none⟩ u).setCell ⟨w.heap.size + 1, 0, none⟩ v) B m c xs ∧ Sl ((w2.setCell ⟨w.heap.size, 0, none⟩ u).setCell ⟨w.heap.size + 1, 0, none⟩ v) A2 hs.length q2 hs ∧ Le w ((w2.setCell ⟨w.heap.size, 0, none⟩ u).setCell ⟨w.heap.size + 1, 0, none⟩ v)) := fun u v =>
    ⟨(S.grown (grown_set w2 w.heap.size 0 u) (fun hn a e e2 => by have := hab hn a e; injection e2 with e2; omega)).grown (grown_set _ (w.heap.size + 1) 0 v) (fun hn a e e2 => by have := hab hn a e; injection e2 with e2; omega),
      Sl.of_own ((O.kept (grown_set w2 w.heap.size 0 u) (.inr (fun e => by have := hlt _ e; omega))).kept (grown_set _ (w.heap.size + 1) 0 v) (.inr (fun e => by have := hlt _ e; omega))) rfl (by decide) hok, (L2.setCell (Nat.le_refl _) u).setCell (Nat.le_succ _) v⟩
  have k0 : ∀ u v, ((w2.setCell ⟨w.heap.size, 0, none⟩ u).setCell ⟨w.heap.size + 1, 0, none⟩ v).cell? ⟨w.heap.size, 0, none⟩ = some u := fun u v => (cell_set_other (.inl (by omega))).trans (cell_set_same c0)
  have kz : ∀ u, (w2.setCell ⟨w.heap.size, 0, none⟩ u).cell? ⟨w.heap.size + 1, 0, none⟩ = some (.slice none 0 0) := fun u => (cell_set_other (.inl (by omega))).trans c1
  have k1 : ∀ u v, ((w2.setCell ⟨w.heap.size, 0, none⟩ u).setCell ⟨w.heap.size + 1, 0, none⟩ v).cell? ⟨w.heap.size + 1, 0, none⟩ = some v := fun u v => cell_set_same (kz u)
  have fz : ∀ u, (w2.setCell ⟨w.heap.size, 0, none⟩ u).frozen? ⟨w.heap.size + 1, 0, none⟩ = false := fun u => by simpa using f1
  clear S O hok hab L2 hlt
  go_wp2
  exact bodyPost_ret (v := .tuple #[.agg #[.slice B m c], .agg #[.slice A2 hs.length q2], .int .i64 f]) (by simp [results, Tryd.results21, go_sem, k0, k1]) rfl ⟨B, m, c, xs, A2, q2, hs, _, rfl, ⟨f, rfl, hf⟩, (HX.out _ _).1, hm, (HX.out _ _).2.1, hl6, (HX.out _ _).2.2⟩
set_option maxRecDepth 100000 in
theorem drawRaiseWhile_any (A : Option Addr) (n cap : Nat) (bs : List By) (w : World) (hR : Sl w A n cap bs) : Calls Tryd.prog 26 #[.slice A n cap] w (DrH two9 w) := by
  go_enter Tryd.func26, Tryd.ntmps26
  go_wp2_with fail
  obtain ⟨c0, z0, c1, z1, L0⟩ := box2 w (.slice none 0 0) (.slice none 0 0) 25 28
  have f0 : ((w.alloc (.cells #[.slice none 0 0] 25)).alloc (.cells #[.slice none 0 0] 28)).frozen? ⟨w.heap.size, 0, none⟩ = false := by
    rw [((Le.new _ _).frozen (b := w.heap.size) (o := 0) (by simp))]; exact World.frozen?_alloc_at _ _ _ _ rfl
  have f1 : ((w.alloc (.cells #[.slice none 0 0] 25)).alloc (.cells #[.slice none 0 0] 28)).frozen? ⟨w.heap.size + 1, 0, none⟩ = false := World.frozen?_alloc_at _ _ _ _ (by simp)
  have hw : ((w.alloc (.cells #[.slice none 0 0] 25)).alloc (.cells #[.slice none 0 0] 28)).heap.size = w.heap.size + 1 + 1 := by simp
  have S0 := hR.le L0
  generalize (w.alloc (.cells #[.slice none 0 0] 25)).alloc (.cells #[.slice none 0 0] 28) = W at *
  refine (newReader_any A n cap bs W S0).mono ?_
  rintro e w1 ⟨g, A1, n1, k1, bs1, rfl, hg, R1, hle⟩
  replace c0 := (hle.cell z0).trans c0
  replace c1 := (hle.cell z1).trans c1
  replace f0 := (hle.frozen z0).trans f0
  replace f1 := (hle.frozen z1).trans f1
  replace z0 := Nat.lt_of_lt_of_le z0 hle.size
  replace z1 := Nat.lt_of_lt_of_le z1 hle.size
  replace L0 := L0.trans hle
  have s1 := hle.size
  clear S0 hle
  go_wp2_with fail
  refine (twoFaults_any g 0 A1 n1 k1 bs1 w1 (by omega) R1).mono ?_
  rintro e w2 ⟨B, m, c, xs, A2, q2, hs, p2, vs, rfl, ⟨f, h, rfl, hf⟩, S, hm, hoff, hab, O, hok, hl6, hp2, R2, hg2⟩
  replace c0 := (hg2.cell (k := w.heap.size) (o := 0) (by omega) (by omega)).trans c0
  replace f0 := (hg2.frozen (k := w.heap.size) (o := 0) (by omega) (by omega)).trans f0
  replace c1 := (hg2.cell (k := w.heap.size + 1) (o := 0) (by omega) (by omega)).trans c1
  replace f1 := (hg2.frozen (k := w.heap.size + 1) (o := 0) (by omega) (by omega)).trans f1
  have L2 := Gx.le L0 hg2 (by omega)
  have hlt := O.lt
  clear R2 hg2 hp2 R1 L0 hoff
  have HX : Hid (∀ u v, Sl ((w2.setCell ⟨w.heap.size, 0, none⟩ u).setCell ⟨w.heap.size + 1, 0, none⟩ v) B m c xs ∧ Sl ((w2.setCell ⟨w.heap.size, 0, none⟩ u).setCell ⟨w.heap.size + 1, 0, none⟩ v) A2 hs.length q2 hs ∧ Le w ((w2.setCell ⟨w.heap.size, 0, none⟩ u).setCell ⟨w.heap.size + 1, 0, none⟩ v)) := fun u v =>
    ⟨(S.grown (grown_set w2 w.heap.size 0 u) (fun hn a e e2 => by have := hab hn a e; injection e2 with e2; omega)).grown (grown_set _ (w.heap.size + 1) 0 v) (fun hn a e e2 => by have := hab hn a e; injection e2 with e2; omega),
      Sl.of_own ((O.kept (grown_set w2 w.heap.size 0 u) (.inr (fun e => by have := hlt _ e; omega))).kept (grown_set _ (w.heap.size + 1) 0 v) (.inr (fun e => by have := hlt _ e; omega))) rfl (by decide) hok, (L2.setCell (Nat.le_refl _) u).setCell (Nat.le_succ _) v⟩
  have k0 : ∀ u v, ((w2.setCell ⟨w.heap.size, 0, none⟩ u).setCell ⟨w.heap.size + 1, 0, none⟩ v).cell? ⟨w.heap.size, 0, none⟩ = some u := fun u v => (cell_set_other (.inl (by omega))).trans (cell_set_same c0)
  have kz : ∀ u, (w2.setCell ⟨w.heap.size, 0, none⟩ u).cell? ⟨w.heap.size + 1, 0, none⟩ = some (.slice none 0 0) := fun u => (cell_set_other (.inl (by omega))).trans c1
  have k1 : ∀ u v, ((w2.setCell ⟨w.heap.size, 0, none⟩ u).setCell ⟨w.heap.size + 1, 0, none⟩ v).cell? ⟨w.heap.size + 1, 0, none⟩ = some v := fun u v => cell_set_same (kz u)
  have fz : ∀ u, (w2.setCell ⟨w.heap.size, 0, none⟩ u).frozen? ⟨w.heap.size + 1, 0, none⟩ = false := fun u => by simpa using f1
  clear S O hok hab L2 hlt
  go_wp2
  exact bodyPost_ret (v := .tuple #[.agg #[.slice B m c], .agg #[.slice A2 hs.length q2], .int .i64 f, .int .i64 h]) (by simp [results, Tryd.results26, go_sem, k0, k1]) rfl ⟨B, m, c, xs, A2, q2, hs, _, rfl, ⟨f, h, rfl, hf⟩, (HX.out _ _).1, hm, (HX.out _ _).2.1, hl6, (HX.out _ _).2.2⟩
end

section
def twoN (vs : List Value) : Prop := ∃ f h : Int, vs = [.int .i64 f, .int .i64 h] ∧ -1 ≤ f ∧ f ≤ 8 ∧ 0 ≤ h ∧ h ≤ 100
end
end
end Go.Proofs.YthcolcmgfhkbeaaDoor
