/- one text of ItL, ItM -/
import Derived.Test.YtkpnajffeclmdaaCl17
import Derived.Test.YtkpnajffeclmdaaCl12
import Derived.Test.YtkpnajffeclmdaaCl10
namespace Go.Proofs.Ytkpnajffeclmdaa
open Go.RowKit
set_option linter.unusedVariables false
section
open Go.RowKit Go.Shelf
attribute [local go_sem] Oper.semAt_some
set_option maxRecDepth 100000 in
set_option maxHeartbeats 4000000 in
theorem hasLeaf_gen (tf : Nat) (lb : Array Value) (eT : ∀ args w, (callFunc tf args).run Try.prog w = .ok (.enter tf args) w) (p : Lef → Bool) (A : Option Addr) (m cap : Nat) (g : List Prt) (w : World) (S : Sl w A m cap g)
    (hT : ∀ (x : Lef) (W : World), x ∈ leavesL g → Le w W → Calls Try.prog tf (#[.agg #[.int .i64 x.cls, .int .i64 x.code]] ++ lb) W fun e W' => e = .returned (.bool (p x)) ∧ Le W W') :
    Calls Try.prog 53 #[.slice A m cap, .func (.func tf) #[] lb] w fun e w' => e = .returned (.bool ((leavesL g).any p)) ∧ Le w w' := by
  have SB : SlB w.heap.size w A m cap g := ⟨S, fun hn a e => by obtain ⟨b, off, e2, hb, -⟩ := S.at_ hn; rw [e2] at e; cases e; exact hb⟩
  refine (callsIn_wide (n := 6)).1 ?_
  refine callsIn_of_wp_marks Try.func53 rfl trivial ?_ rfl
  simp only [Try.ntmps53, List.size_toArray, List.length_cons, List.length_nil, Nat.reduceAdd, Nat.reduceSub, Array.replicate_succ, Array.replicate_zero, List.push_toArray, List.append_toArray, List.nil_append, List.cons_append]
  gi_wp2_with (refine ⟨trivial, ?_⟩; gi_at_call 45; refine (leaves_in Fence.wide 5 trivial rfl _ _ _ _).mono ?_; rintro e w' ⟨rfl, rfl⟩)
  have bF := ((Boxed.new w 68 (.func (.func tf) #[] lb)).alloc (.cells #[.bool false] 4)).alloc (.cells #[.slice A m cap] 26)
  have bR := (Boxed.new (w.alloc (.cells #[.func (.func tf) #[] lb] 68)) 4 (.bool false)).alloc (.cells #[.slice A m cap] 26)
  have bG := Boxed.new ((w.alloc (.cells #[.func (.func tf) #[] lb] 68)).alloc (.cells #[.bool false] 4)) 26 (.slice A m cap)
  simp only [World.size_alloc] at bR bG
  have hB0 : Le w (((w.alloc (.cells #[.func (.func tf) #[] lb] 68)).alloc (.cells #[.bool false] 4)).alloc (.cells #[.slice A m cap] 26)) := ((Le.new w _).alloc _).alloc _
  have hsz : (((w.alloc (.cells #[.func (.func tf) #[] lb] 68)).alloc (.cells #[.bool false] 4)).alloc (.cells #[.slice A m cap] 26)).heap.size = w.heap.size + 3 := by simp
  generalize (((w.alloc (.cells #[.func (.func tf) #[] lb] 68)).alloc (.cells #[.bool false] 4)).alloc (.cells #[.slice A m cap] 26)) = W0 at *
  refine wpIn_rangeFunc_ownH rfl (by omega) (gf := 75) (lb := #[.pointer (some ⟨w.heap.size + 1 + 1, 0, none⟩)]) rfl trivial (enters_of Try.func75 (by kernel_rfl) rfl)
    (leaves_stops Fence.wide (6 - 1) trivial rfl (by omega) (w.heap.size + 1 + 1) w.heap.size A m cap g (fun x => x ∈ leavesL g) (fun _ h => h) W0 (by omega) (by omega) bG.cell (SB.below hB0)) belowK_t (belowK_b (by omega)) (Below.refl _ _) (fun _ => rfl)
    (fun pre W => ((∀ y ∈ pre, p y.1 = false) ∧ Boxed W w.heap.size 68 (.func (.func tf) #[] lb) ∧ Boxed W (w.heap.size + 1) 4 (.bool false)) ∧ Below w.heap.size w W)
    (fun c pre W => (c = .ret ∧ (∃ y ∈ pre, p y.1 = true) ∧ Boxed W (w.heap.size + 1) 4 (.bool true)) ∧ Below w.heap.size w W)
    (OwnFrom.and (Own.from (fun s X Y row hs hg hr => ⟨hs.1, boxed_own (β := Unit) _ _ (fun _ => _) () X Y row hs.2.1 hg hr, boxed_own (β := Unit) _ _ (fun _ => _) () X Y row hs.2.2 hg hr⟩) _) (ownFrom_below (Nat.le_refl _) (by omega)))
    (fun c => OwnFrom.and (Own.from (fun s X Y row hs hg hr => ⟨hs.1, hs.2.1, boxed_own (β := Unit) _ _ (fun _ => _) () X Y row hs.2.2 hg hr⟩) _) (ownFrom_below (Nat.le_refl _) (by omega)))
    ⟨⟨by simp, bF, bR⟩, hB0⟩
    (fun x a' W => ∃ Bx, w.heap.size + 1 < Bx ∧ Boxed2 W Bx 38 (.int .i64 x.1.cls) (.int .i64 x.1.code) ∧ a' = { tmps := #[.slice A m cap, .func (.func tf) #[] lb, undef, .pointer (some ⟨w.heap.size, 0, none⟩), .pointer (some ⟨w.heap.size + 1, 0, none⟩), .pointer (some ⟨Bx, 0, none⟩), .slice A m cap, .func (.func 75) #[] #[.pointer (some ⟨w.heap.size + 1 + 1, 0, none⟩)], .agg #[.int .i64 x.1.cls, .int .i64 x.1.code], undef, undef, undef], defers := [] })
    (fun x a' _ X Y row hs hg hr => by obtain ⟨Bx, h1, h2, h3⟩ := hs; exact ⟨Bx, h1, boxed2_own h2 hg (fun r e => (hr r e).2), h3⟩)
    ?assign ?body ?done ?stop
  case assign =>
    rintro l pre x W K ⟨⟨hp, bF1, bR1⟩, hB1⟩ hK
    gi_wp2
    exact hK _ _ ((KeepsOthers.alloc _ _).from _) ((Below.refl _ W).alloc hB1.size _) ⟨⟨hp, bF1.alloc _, bR1.alloc _⟩, hB1.alloc hB1.size _⟩ ⟨W.heap.size, bR1.lt, World.alloc_heap_new W _, rfl⟩
  case body =>
    rintro l pre x a' W hl ⟨r, hr⟩ ⟨⟨hp, bF1, bR1⟩, hB1⟩ ⟨Bx, hBx, bX, rfl⟩ hlt
    have cF := bF1.cell
    have cX0 := bX.c0
    have cX1 := bX.c1
    gi_wp2_with (refine ⟨trivial, ?_⟩; refine (CallsIn.inRound l (callsIn_wide.2 (hT x.1 W x.2 hB1))).mono ?_; rintro e w' ⟨rfl, hle⟩; have bR2 := boxed_le bR1 hle; have bF2 := boxed_le bF1 hle; have cR2 := bR2.cell; have fR2 := bR2.frozen)
    · rename_i hx
      exact ⟨(keepsFrom_le hle).trans ((KeepsOthers.setCell _ _ _).from _), ⟨rfl, ⟨x, by simp, hx⟩, bR2.set _⟩, (hB1.trans (hle.mono hB1.size)).setCell (p := ⟨w.heap.size + 1, 0, none⟩) (by simp) _⟩
    · rename_i hx
      have hx' : p x.1 = false := by simpa using hx
      exact ⟨keepsFrom_le hle, hle.mono hB1.size, ⟨fun y hy => (List.mem_append.1 hy).elim (hp y) (fun e => by simp at e; rw [e]; exact hx'), bF2, bR2⟩, hB1.trans (hle.mono hB1.size)⟩
  case done =>
    rintro D zs W hD hz ⟨⟨hp, bF1, bR1⟩, hB1⟩ hK
    have cR := bR1.cell
    have fR := bR1.frozen
    have hno : (leavesL g).any p = false := by
      rw [← hz, List.any_map, List.any_eq_false]
      intro y hy
      simp [hp y hy]
    have HNO := Lib.hid hno
    clear hno
    gi_wp2
    have hK' := (KeepsOthers.setCell W ⟨w.heap.size + 1, 0, none⟩ (.bool false)).same D _ hK rfl
    refine ⟨by simp, .inl ⟨_, _, rfl, run_takeDeferred hK', ?_⟩⟩
    have hc5 := cell_kept (World.cell?_setCell_same' W ⟨w.heap.size + 1, 0, none⟩ (.bool false) (by rw [cR]; rfl)) (grownBy_putObj' _ D (.deferred none)) (fun r e => by cases e; exact ⟨_, hK', rfl⟩)
    refine ⟨.bool false, ?_, by rw [HNO.out], (hB1.setCell (p := ⟨w.heap.size + 1, 0, none⟩) (by simp) _).trans (belowK_b (w := w) (Nat.le_refl _) _ D _ _ (by omega) hK' rfl rfl)⟩
    simp [results, Try.f53, go_sem, hc5]
  case stop =>
    rintro D c pre W hD hpre ⟨⟨rfl, hin, bR1⟩, hB⟩ hK
    gi_wp2
    refine ⟨by simp, .inl ⟨_, _, rfl, run_takeDeferred hK, ?_⟩⟩
    have hc5 := cell_kept bR1.cell (grownBy_putObj' _ D (.deferred none)) (fun r e => by cases e; exact ⟨_, hK, rfl⟩)
    have hyes : (leavesL g).any p = true := by
      obtain ⟨y, hy, hpy⟩ := hin
      exact List.any_eq_true.2 ⟨y.1, y.2, hpy⟩
    refine ⟨.bool true, ?_, by rw [hyes], hB.trans (belowK_b (w := w) (Nat.le_refl _) W D _ _ (by omega) hK rfl rfl)⟩
    simp [results, Try.f53, go_sem, hc5]
end

section
open Go.RowKit Go.Shelf
attribute [local go_sem] Oper.semAt_some
/-- what visit finds: the boxes of the test, of what is kept, of itself; what is kept so far -/
structure VSt (n₀ : Nat) (tf : Nat) (lb : Array Value) (b off C : Nat) (g : List Prt) (W : World) (v : Value) (L : List Prt) : Prop where
  bf : Boxed W n₀ 68 (.func (.func tf) #[] lb)
  bo : Boxed W (n₀ + 1) 26 v
  bv : Boxed W (n₀ + 1 + 1) 119 (.func (.func 82) #[] #[.pointer (some ⟨n₀, 0, none⟩), .pointer (some ⟨n₀ + 1, 0, none⟩), .pointer (some ⟨n₀ + 1 + 1, 0, none⟩)])
  row : W.ownsRow n₀ 57 4 v L.length (L.flatMap Enc.cells)
  sl : SlB n₀ W (some ⟨b, off, none⟩) g.length C g
/-- what visit leaves alone -/
structure VEf (n₀ : Nat) (W W' : World) (v v' : Value) : Prop where
  le : Below n₀ W W'
  block : ∀ k, k < W.heap.size → k ≠ n₀ + 1 → v.ownBlock ≠ some k → W'.heap[k]? = W.heap[k]?
  own : v'.ownBlock = v.ownBlock ∨ ∀ k, v'.ownBlock = some k → W.heap.size ≤ k
theorem VEf.refl (n₀ : Nat) (W : World) (v : Value) : VEf n₀ W W v v := ⟨Below.refl _ _, fun _ _ _ _ => rfl, .inl rfl⟩
theorem VEf.trans {n₀ : Nat} {A B D : World} {u v x : Value} (h : VEf n₀ A B u v) (k : VEf n₀ B D v x) : VEf n₀ A D u x := by
  refine ⟨h.le.trans k.le, fun i hi h1 h2 => ?_, ?_⟩
  · have hn : v.ownBlock ≠ some i := by
      rcases h.own with e | e
      · rw [e]; exact h2
      · intro e2; have := e i e2; omega
    exact (k.block i (Nat.lt_of_lt_of_le hi h.le.size) h1 hn).trans (h.block i hi h1 h2)
  · rcases k.own with e | e
    · rw [e]; exact h.own
    · exact .inr fun i hi => Nat.le_trans h.le.size (e i hi)
/-- what the visits of some pieces keep -/
def flK (t : Prt → Bool) (g : List Prt) (ks : List Nat) : List Prt := (ks.map fun k => selL (keepsAt t g) g k (endN g k - k)).flatten
theorem flK_snoc (t : Prt → Bool) (g : List Prt) (ks : List Nat) (k : Nat) : flK t g (ks ++ [k]) = flK t g ks ++ selL (keepsAt t g) g k (endN g k - k) := by
  unfold flK; simp
theorem selL_len (f : Nat → Bool) (g : List Prt) : ∀ m k, (selL f g k m).length ≤ m
  | 0, _ => Nat.le_refl _
  | m + 1, k => by
    have := selL_len f g m (k + 1)
    unfold selL
    cases f k <;> simp <;> omega
theorem flK_len (t : Prt → Bool) (g : List Prt) (h : g.length ≤ 16) (ks : List Nat) (hk : ∀ k ∈ ks, k < g.length) : (flK t g ks).length ≤ 16 * ks.length := by
  induction ks with
  | nil => simp [flK]
  | cons k ks ih =>
    have h1 := ih (fun x hx => hk x (List.mem_cons_of_mem _ hx))
    have h2 := selL_len (keepsAt t g) g (endN g k - k) k
    have h3 := endN_le (g := g) (i := k) (hk k (List.mem_cons_self ..))
    unfold flK at h1 ⊢
    simp at h1 ⊢
    omega
/-- the visits of all pieces from f up to e keep what is kept there -/
theorem flK_all (t : Prt → Bool) (g : List Prt) : ∀ (m f e : Nat), e ≤ g.length → (∀ i, f ≤ i → i < e → endN g i ≤ e) → e - f ≤ m → flK t g (kdS g m f e) = selL (keepsAt t g) g f (e - f)
  | 0, f, e, _, _, hm => by rw [show e - f = 0 by omega]; rfl
  | m + 1, f, e, he, hn, hm => by
    by_cases h : f < e
    · have hgt := endN_gt g f
      have hle := hn f (Nat.le_refl _) h
      have ih := flK_all t g m (endN g f) e he (fun i a b => hn i (by omega) b) (by omega)
      have e1 : kdS g (m + 1) f e = f :: kdS g m (endN g f) e := by
        show (if f < e then _ else _) = _
        rw [if_pos h]
      have e2 : e - f = (endN g f - f) + (e - endN g f) := by omega
      rw [e1, e2, selL_append, show f + (endN g f - f) = endN g f by omega, ← ih]
      unfold flK; simp
    · have e1 : kdS g (m + 1) f e = [] := by
        show (if f < e then _ else _) = _
        rw [if_neg h]
      rw [e1, show e - f = 0 by omega]; rfl
/-- the leaves of a piece that pass -/
theorem any_piece (p : Lef → Bool) (g : List Prt) (f : Nat) : ∀ e, e ≤ g.length → f ≤ e → (leavesL ((g.drop f).take (e - f))).any p = anyF (passAt (fun q => p ⟨q.cls, q.code⟩) g) f (e - f)
  | e, he, hfe => by
    rw [Bool.eq_iff_iff, anyF_iff, List.any_eq_true]
    unfold leavesL
    constructor
    · rintro ⟨x, hx, hp⟩
      obtain ⟨q, hq, rfl⟩ := List.mem_map.1 hx
      obtain ⟨hm, hg⟩ := List.mem_filter.1 hq
      obtain ⟨i, hi, e1⟩ := List.getElem_of_mem hm
      rw [List.length_take, List.length_drop] at hi
      rw [List.getElem_take, List.getElem_drop] at e1
      refine ⟨f + i, by omega, by omega, ?_⟩
      unfold passAt
      rw [gAt_at (by omega), e1]
      simp only [Bool.and_eq_true]
      exact ⟨by simpa using hg, hp⟩
    · rintro ⟨i, h1, h2, hp⟩
      have hi : i < g.length := by omega
      unfold passAt at hp
      rw [gAt_at hi] at hp
      simp only [Bool.and_eq_true] at hp
      refine ⟨⟨g[i].cls, g[i].code⟩, List.mem_map.2 ⟨g[i], List.mem_filter.2 ⟨?_, by simpa using hp.1⟩, rfl⟩, hp.2⟩
      have : (List.take (e - f) (List.drop f g))[i - f]'(by rw [List.length_take, List.length_drop]; omega) = g[i] := by
        rw [List.getElem_take, List.getElem_drop]
        congr 1; omega
      rw [← this]
      exact List.getElem_mem _
end
end Go.Proofs.Ytkpnajffeclmdaa
