/- one text of DXd, DXe, LD, LHe -/
import Derived.Test.YtonpgohigncjeaaCx6
import Derived.Test.YtonpgohigncjeaaCx7
import Derived.Test.YtonpgohigncjeaaRows
import Derived.Test.YtonpgohigncjeaaCx1
import Derived.Test.YtonpgohigncjeaaCx2
import Derived.Test.YtonpgohigncjeaaCx4
import Derived.RegionTactic
namespace Go.Proofs.Ytonpgohigncjeaa
open Go.RowKit
set_option linter.unusedVariables false
section
theorem one_keptX (ss : List Int) (m : Nat) (cs : Array Value) (T : TypeId) (g p : Nat) (A : Option Addr) (n cap : Nat) (bs : List By) (W W2 : World) (b : Nat) (hc : cs.toList = ss.flatMap Enc.cells) (hl : ss.length = m) (hm : 0 < m) (hm1 : m ≤ 1000) (hok : ∀ x ∈ ss, Enc.ok x) (hp : p ≤ 1000000) (hb : b = W.heap.size) (hgW : g < W.heap.size) (hG : Gx g (W.alloc (.cells cs T)) W2) (hR : Rd W2 g p A n cap bs) :
    Calls Try.prog 55 #[.pointer (some ⟨g, 0, none⟩), .slice (some ⟨b, 0, none⟩) m m] W2 (OneOut ss g p A n cap bs W2) := by
  subst hb
  exact one_any _ m m ss g p A n cap bs _ hm hm1 hp (Sl.of_rowF ((hG.block W.heap.size (by simp) (fun e => by have e1 : W.heap.size = g := (by injection e); omega)).trans (hp_new _ _ rfl)) hc hl hm1 hok) (fun _ a e => by injection e with e; rw [← e]; show W.heap.size ≠ g; omega) hR
theorem B3.gx {W W' : World} {b g : Nat} {x y z : Value} (h : B3 W b x y z) (hg : Gx g W W') (hb : b ≠ g) : B3 W' b x y z :=
  ⟨Nat.lt_of_lt_of_le h.lt hg.size, (hg.cell h.lt hb).trans h.c0, (hg.cell h.lt hb).trans h.c1, (hg.cell h.lt hb).trans h.c2, fun o => (hg.frozen h.lt hb).trans (h.f o)⟩
def StartOut (g p : Nat) (A : Option Addr) (n cap : Nat) (bs : List By) (w : World) (e : Ending) (w' : World) : Prop :=
  ∃ (has : Bool) (cl k : Int) (p' : Nat), e = .returned (.agg #[.bool has, .int .i64 cl, .int .i64 k]) ∧ (-9999 ≤ cl ∧ cl ≤ 9999 ∧ -9999 ≤ k ∧ k ≤ 9999) ∧ p' ≤ p + 6 ∧ Rd w' g p' A n cap bs ∧ Gx g w w'
/-- a start that is being drawn: the tree's box, the result's box -/
structure Sd (w wr : World) (g p : Nat) (A : Option Addr) (n cap : Nat) (bs : List By) (B : Option Addr) (m c : Nat) : Prop where
  R : Rd wr g p A n cap bs
  G : Gx g w wr
  gw : g < w.heap.size
  ct : wr.cell? ⟨w.heap.size, 0, none⟩ = some (.slice B m c)
  X : B3 wr (w.heap.size + 1) (.bool false) (.int .i64 0) (.int .i64 0)
section
variable {w wr w2 : World} {g p p2 : Nat} {A : Option Addr} {n cap : Nat} {bs : List By} {B : Option Addr} {m c : Nat}
theorem Sd.call (h : Sd w wr g p A n cap bs B m c) (R2 : Rd w2 g p2 A n cap bs) (hg : Gx g wr w2) : Sd w w2 g p2 A n cap bs B m c := by
  have h1 := h.gw
  have h2 := h.X.lt
  exact ⟨R2, h.G.trans hg, h.gw, (hg.cell (by omega) (by omega)).trans h.ct, h.X.gx hg (by omega)⟩
theorem Sd.le (h : Sd w wr g p A n cap bs B m c) (hl : Le wr w2) : Sd w w2 g p A n cap bs B m c :=
  ⟨h.R.le hl, h.G.trans (Gx.of_le hl), h.gw, (hl.cell (by have := h.X.lt; omega)).trans h.ct, h.X.le hl⟩
theorem Sd.out (h : Sd w wr g p A n cap bs B m c) (hA : 0 < n → ∀ a, A = some a → a.block < w.heap.size) {p0 : Nat} (hp : p ≤ p0 + 6) {has : Bool} {cl k : Int} (hb : -9999 ≤ cl ∧ cl ≤ 9999 ∧ -9999 ≤ k ∧ k ≤ 9999) (x y z : Value) :
    StartOut g p0 A n cap bs w (.returned (.agg #[.bool has, .int .i64 cl, .int .i64 k])) (((wr.setCell ⟨w.heap.size + 1, 0, none⟩ x).setCell ⟨w.heap.size + 1, 1, none⟩ y).setCell ⟨w.heap.size + 1, 2, none⟩ z) := by
  have e1 := h.gw
  have hA2 : 0 < n → ∀ a, A = some a → a.block ≠ w.heap.size + 1 := fun hn a e => by have := hA hn a e; omega
  exact ⟨has, cl, k, p, rfl, hb, hp, ((h.R.setNew _ (by omega) hA2).setNew _ (by omega) hA2).setNew _ (by omega) hA2, ((h.G.setNewF (by omega) _).setNewF (by omega) _).setNewF (by omega) _⟩
end
theorem B3.threeD {W : World} {b : Nat} {x y z : Value} (h : B3 W b x y z) (x' y' z' : Value) : W.cell? ⟨b, 0, none⟩ = some x ∧ W.frozen? ⟨b, 0, none⟩ = false ∧ (W.setCell ⟨b, 0, none⟩ x').cell? ⟨b, 1, none⟩ = some y ∧ (W.setCell ⟨b, 0, none⟩ x').frozen? ⟨b, 1, none⟩ = false ∧
    ((W.setCell ⟨b, 0, none⟩ x').setCell ⟨b, 1, none⟩ y').cell? ⟨b, 2, none⟩ = some z ∧ ((W.setCell ⟨b, 0, none⟩ x').setCell ⟨b, 1, none⟩ y').frozen? ⟨b, 2, none⟩ = false ∧
    Hid (B3 (((W.setCell ⟨b, 0, none⟩ x').setCell ⟨b, 1, none⟩ y').setCell ⟨b, 2, none⟩ z') b x' y' z') :=
  ⟨h.c0, h.f 0, (h.set0 x').c1, (h.set0 x').f 1, ((h.set0 x').set1 y').c2, ((h.set0 x').set1 y').f 2, ((h.set0 x').set1 y').set2 z'⟩
set_option maxHeartbeats 2000000 in
set_option maxRecDepth 100000 in
theorem aStart_any (B : Option Addr) (m c g p : Nat) (A : Option Addr) (n cap : Nat) (bs : List By) (w : World) (hm : m ≤ 8) (hp : p ≤ 800000) (hR : Rd w g p A n cap bs) :
    Calls Try.prog 35 #[.pointer (some ⟨g, 0, none⟩), .agg #[.slice B m c]] w (StartOut g p A n cap bs w) := by
  have hgw := hR.lt
  have HA : Hid (0 < n → ∀ a, A = some a → a.block < w.heap.size) := fun hn a e => hR.sl.under hn a e
  obtain ⟨ct, zt, -, -, -, zr, L0⟩ := boxTX w (.slice B m c) (.bool false) (.int .i64 0) (.int .i64 0) 25 28
  have X0 := B3.new (w.alloc (.cells #[.slice B m c] 25)) (.bool false) (.int .i64 0) (.int .i64 0) 28
  have e1 : (w.alloc (.cells #[.slice B m c] 25)).heap.size = w.heap.size + 1 := by simp
  rw [e1] at X0
  have D0 : Sd w ((w.alloc (.cells #[.slice B m c] 25)).alloc (.cells #[.bool false, .int .i64 0, .int .i64 0] 28)) g p A n cap bs B m c := ⟨hR.le L0, Gx.of_le L0, hgw, ct, X0⟩
  clear ct zt zr L0 X0 e1 hR
  go_enter Try.func35, Try.ntmps35
  go_wp2_with fail
  generalize (w.alloc (.cells #[.slice B m c] 25)).alloc (.cells #[.bool false, .int .i64 0, .int .i64 0] 28) = W at *
  refine (pick_any 5 g p A n cap bs W (by omega) (by omega) (by omega) D0.R).mono ?_
  rintro e w1 ⟨v, rfl, hv0, hv1, R1, hg1⟩
  have D1 := D0.call R1 hg1
  clear R1 hg1 D0
  have ct := D1.ct
  by_cases v0 : v = 0 ∨ v = 1
  · obtain ⟨z0, z0f, z1, z1f, z2, z2f, ZA⟩ := D1.X.threeD (.bool false) (.int .i64 0) (.int .i64 0)
    have HF := Lib.hid (fun x y z => D1.out (has := false) (cl := 0) (k := 0) HA.out (p0 := p) (by omega) ⟨by omega, by omega, by omega, by omega⟩ x y z)
    clear D1 ct
    rcases v0 with rfl | rfl
    all_goals
      go_wp2
      have e0 := ZA.out.c0
      have e1 := ZA.out.c1
      have e2 := ZA.out.c2
      exact bodyPost_ret (v := .agg #[.bool false, .int .i64 0, .int .i64 0]) (by simp [results, Try.results35, go_sem, e0, e1, e2]) rfl (HF.out _ _ _)
  have v0b : (v == 0) = false := beq_eq_false_iff_ne.2 (by omega)
  have v1b : (v == 1) = false := beq_eq_false_iff_ne.2 (by omega)
  by_cases v2 : v = 2
  · subst v2
    have LD := (Le.refl w1).drew
    have D2 := D1.le LD
    clear D1 ct LD v0 v0b v1b
    go_wp2_with fail
    refine wp_region_noPanic ?_
    refine wp_region_Z (fun w' => w'.cell? ⟨w.heap.size, 0, none⟩ = some (.slice B m c)) [10] (by kernel_rfl) ?_
    generalize w1.drew = V at *
    refine wpAnyZ_take (i := 0) (v := ?_) rfl (by kernel_rfl) (fun _ _ _ h => h) (Or.inl ⟨by rfl, ?_⟩) (D2.ct) ?_
    rotate_left 1
    · (intro w hSw; (try dsimp only at hSw); go_simp; try with_reducible rfl)
    try simp only [Act.put, List.setIfInBounds_toArray, List.set_cons_zero, List.set_cons_succ]
    refine wpAnyZ_take (i := 3) (v := ?_) rfl (by kernel_rfl) (fun _ _ _ h => h) (Or.inl ⟨by rfl, ?_⟩) (D2.ct) ?_
    rotate_left 1
    · (intro w hSw; (try dsimp only at hSw); go_simp; try with_reducible rfl)
    try simp only [Act.put, List.setIfInBounds_toArray, List.set_cons_zero, List.set_cons_succ]
    refine wpAnyZ_take (i := 4) (v := ?_) rfl (by kernel_rfl) (fun _ _ _ h => h) (Or.inl ⟨by rfl, ?_⟩) (D2.ct) ?_
    rotate_left 1
    · (intro w hSw; (try dsimp only at hSw); go_simp; try with_reducible rfl)
    try simp only [Act.put, List.setIfInBounds_toArray, List.set_cons_zero, List.set_cons_succ]
    refine wpAnyZ_take (i := 6) (v := ?_) rfl (by kernel_rfl) (fun _ _ _ h => h) (Or.inl ⟨by rfl, ?_⟩) (D2.ct) ?_
    rotate_left 1
    · (intro w hSw; (try dsimp only at hSw); go_simp; try with_reducible rfl)
    try simp only [Act.put, List.setIfInBounds_toArray, List.set_cons_zero, List.set_cons_succ]
    refine wpAnyZ_two (i := 1) (k := 7) (by kernel_rfl) (ReadyZ.mk rfl (fun K hK => ?_)) (ReadyZ.mk rfl (fun K hK => ?_))
    · go_simp
      go_at_call 45
      refine (pick_any 8 g (p + 1) A n cap bs V (by omega) (by omega) (by omega) D2.R).mono ?_
      rintro e V1 ⟨a, rfl, ha0, ha1, R3, hg3⟩
      have D3 := D2.call R3 hg3
      clear R3 hg3 D2
      refine hK.out _ _ (fun _ => D3.ct) ?_
      clear hK K
      try simp only [Act.put, List.setIfInBounds_toArray, List.set_cons_zero, List.set_cons_succ]
      refine wpAnyZ_take (i := 2) (v := ?_) rfl (by kernel_rfl) (fun _ _ _ h => h) (Or.inl ⟨by rfl, ?_⟩) (D3.ct) ?_
      rotate_left 1
      · (intro w hSw; (try dsimp only at hSw); go_simp; try with_reducible rfl)
      try simp only [Act.put, List.setIfInBounds_toArray, List.set_cons_zero, List.set_cons_succ]
      refine wpAnyZ_two (i := 5) (k := 7) (by kernel_rfl) (ReadyZ.mk rfl (fun K hK => ?_)) (ReadyZ.mk rfl (fun K hK => ?_))
      · go_simp
        go_at_call 56
        refine (aClass_any B m c g (p + 1 + 1) A n cap bs V1 hm (by omega) D3.R).mono ?_
        rintro e V2 ⟨u, p3, rfl, hu0, hu1, hp3, R4, hg4⟩
        have D4 := D3.call R4 hg4
        clear R4 hg4 D3
        refine hK.out _ _ (fun _ => D4.ct) ?_
        clear hK K
        try simp only [Act.put, List.setIfInBounds_toArray, List.set_cons_zero, List.set_cons_succ]
        refine wpAnyZ_one (i := 7) (by kernel_rfl) (ReadyZ.mk rfl (fun K hK => ?_))
        go_simp
        refine hK.out _ _ (fun _ => ((D4.le (Le.new V2 _)).ct)) ?_
        clear hK K
        try simp only [Act.put, List.setIfInBounds_toArray, List.set_cons_zero, List.set_cons_succ]
        refine wpAnyZ_one (i := 8) (by kernel_rfl) (ReadyZ.mk rfl (fun K hK => ?_))
        go_simp
        go_at_call 55
        refine (one_lit [1, 0, 100] 3 _ _ g p3 A n cap bs V2 _ rfl rfl (by decide) (by decide) (by intro x hx; simp at hx; constructor <;> omega) (by omega) rfl D4.R).mono ?_
        rintro e V3 ⟨q, rfl, hq, R5, hg5⟩
        have hq1 : 0 ≤ q ∧ q ≤ 100 := by simp at hq; omega
        have D5 := D4.call R5 hg5
        clear R5 hg5 D4 hq
        refine hK.out _ _ (fun _ => D5.ct) ?_
        clear hK K
        try simp only [Act.put, List.setIfInBounds_toArray, List.set_cons_zero, List.set_cons_succ]
        refine wpAnyZ_take (i := 9) (v := ?_) rfl (by kernel_rfl) (fun _ _ _ h => h) (Or.inl ⟨by rfl, ?_⟩) (D5.ct) ?_
        rotate_left 1
        · (intro w hSw; (try dsimp only at hSw); go_simp; try with_reducible rfl)
        try simp only [Act.put, List.setIfInBounds_toArray, List.set_cons_zero, List.set_cons_succ]
        obtain ⟨z0, z0f, z1, z1f, z2, z2f, ZA⟩ := D5.X.threeD (.bool (decide (0 < a))) (.int .i64 u) (.int .i64 q)
        have HF := Lib.hid (fun x y z => D5.out (has := decide (0 < a)) (cl := u) (k := q) HA.out (p0 := p) (by omega) ⟨by omega, by omega, by omega, by omega⟩ x y z)
        clear D5
        refine wpAnyZ_one (i := 10) (by kernel_rfl) (ReadyZ.mk rfl (fun K hK => ?_))
        go_simp
        refine hK.out _ _ (fun h => absurd h (by decide)) ?_
        clear hK K
        try simp only [Act.put, List.setIfInBounds_toArray, List.set_cons_zero, List.set_cons_succ]
        refine wpAnyZ_done (by kernel_rfl) ?_ _
        refine NoPanic.normal ?_
        go_wp2
        have e0 := ZA.out.c0
        have e1 := ZA.out.c1
        have e2 := ZA.out.c2
        exact bodyPost_ret (v := .agg #[.bool (decide (0 < a)), .int .i64 u, .int .i64 q]) (by simp [results, Try.results35, go_sem, e0, e1, e2]) rfl (HF.out _ _ _)
      · go_simp
        have D3L := fun o => D3.le (Le.new V1 o)
        refine hK.out _ _ (fun _ => (D3L _).ct) ?_
        clear hK K
        try simp only [Act.put, List.setIfInBounds_toArray, List.set_cons_zero, List.set_cons_succ]
        refine wpAnyZ_one (i := 5) (by kernel_rfl) (ReadyZ.mk rfl (fun K hK => ?_))
        go_simp
        go_at_call 56
        refine (aClass_any B m c g (p + 1 + 1) A n cap bs _ hm (by omega) (D3L _).R).mono ?_
        rintro e V2 ⟨u, p3, rfl, hu0, hu1, hp3, R4, hg4⟩
        have D4 := (D3L _).call R4 hg4
        have hgl := D3.R.lt
        clear D3 D3L
        refine hK.out _ _ (fun _ => D4.ct) ?_
        clear hK K
        try simp only [Act.put, List.setIfInBounds_toArray, List.set_cons_zero, List.set_cons_succ]
        refine wpAnyZ_one (i := 8) (by kernel_rfl) (ReadyZ.mk rfl (fun K hK => ?_))
        go_simp
        go_at_call 55
        refine (one_keptX [1, 0, 100] 3 _ _ g p3 A n cap bs V1 V2 _ rfl rfl (by decide) (by decide) (by intro x hx; simp at hx; constructor <;> omega) (by omega) rfl hgl hg4 R4).mono ?_
        rintro e V3 ⟨q, rfl, hq, R5, hg5⟩
        have hq1 : 0 ≤ q ∧ q ≤ 100 := by simp at hq; omega
        have D5 := D4.call R5 hg5
        clear R5 hg5 D4 hq R4 hg4
        refine hK.out _ _ (fun _ => D5.ct) ?_
        clear hK K
        try simp only [Act.put, List.setIfInBounds_toArray, List.set_cons_zero, List.set_cons_succ]
        refine wpAnyZ_take (i := 9) (v := ?_) rfl (by kernel_rfl) (fun _ _ _ h => h) (Or.inl ⟨by rfl, ?_⟩) (D5.ct) ?_
        rotate_left 1
        · (intro w hSw; (try dsimp only at hSw); go_simp; try with_reducible rfl)
        try simp only [Act.put, List.setIfInBounds_toArray, List.set_cons_zero, List.set_cons_succ]
        obtain ⟨z0, z0f, z1, z1f, z2, z2f, ZA⟩ := D5.X.threeD (.bool (decide (0 < a))) (.int .i64 u) (.int .i64 q)
        have HF := Lib.hid (fun x y z => D5.out (has := decide (0 < a)) (cl := u) (k := q) HA.out (p0 := p) (by omega) ⟨by omega, by omega, by omega, by omega⟩ x y z)
        clear D5
        refine wpAnyZ_one (i := 10) (by kernel_rfl) (ReadyZ.mk rfl (fun K hK => ?_))
        go_simp
        refine hK.out _ _ (fun h => absurd h (by decide)) ?_
        clear hK K
        try simp only [Act.put, List.setIfInBounds_toArray, List.set_cons_zero, List.set_cons_succ]
        refine wpAnyZ_done (by kernel_rfl) ?_ _
        refine NoPanic.normal ?_
        go_wp2
        have e0 := ZA.out.c0
        have e1 := ZA.out.c1
        have e2 := ZA.out.c2
        exact bodyPost_ret (v := .agg #[.bool (decide (0 < a)), .int .i64 u, .int .i64 q]) (by simp [results, Try.results35, go_sem, e0, e1, e2]) rfl (HF.out _ _ _)
    · go_simp
      have D2L := fun o => D2.le (Le.new V o)
      refine hK.out _ _ (fun _ => (D2L _).ct) ?_
      clear hK K
      try simp only [Act.put, List.setIfInBounds_toArray, List.set_cons_zero, List.set_cons_succ]
      refine wpAnyZ_one (i := 1) (by kernel_rfl) (ReadyZ.mk rfl (fun K hK => ?_))
      go_simp
      go_at_call 45
      refine (pick_any 8 g (p + 1) A n cap bs _ (by omega) (by omega) (by omega) (D2L _).R).mono ?_
      rintro e V1 ⟨a, rfl, ha0, ha1, R3, hg3⟩
      have D3 := (D2L _).call R3 hg3
      have hgl := D2.R.lt
      clear R3 D2 D2L
      refine hK.out _ _ (fun _ => D3.ct) ?_
      clear hK K
      try simp only [Act.put, List.setIfInBounds_toArray, List.set_cons_zero, List.set_cons_succ]
      refine wpAnyZ_take (i := 2) (v := ?_) rfl (by kernel_rfl) (fun _ _ _ h => h) (Or.inl ⟨by rfl, ?_⟩) (D3.ct) ?_
      rotate_left 1
      · (intro w hSw; (try dsimp only at hSw); go_simp; try with_reducible rfl)
      try simp only [Act.put, List.setIfInBounds_toArray, List.set_cons_zero, List.set_cons_succ]
      refine wpAnyZ_one (i := 5) (by kernel_rfl) (ReadyZ.mk rfl (fun K hK => ?_))
      go_simp
      go_at_call 56
      refine (aClass_any B m c g (p + 1 + 1) A n cap bs V1 hm (by omega) D3.R).mono ?_
      rintro e V2 ⟨u, p3, rfl, hu0, hu1, hp3, R4, hg4⟩
      have D4 := D3.call R4 hg4
      clear D3
      refine hK.out _ _ (fun _ => D4.ct) ?_
      clear hK K
      try simp only [Act.put, List.setIfInBounds_toArray, List.set_cons_zero, List.set_cons_succ]
      refine wpAnyZ_one (i := 8) (by kernel_rfl) (ReadyZ.mk rfl (fun K hK => ?_))
      go_simp
      go_at_call 55
      refine (one_keptX [1, 0, 100] 3 _ _ g p3 A n cap bs V V2 _ rfl rfl (by decide) (by decide) (by intro x hx; simp at hx; constructor <;> omega) (by omega) rfl hgl (hg3.trans hg4) R4).mono ?_
      rintro e V3 ⟨q, rfl, hq, R5, hg5⟩
      have hq1 : 0 ≤ q ∧ q ≤ 100 := by simp at hq; omega
      have D5 := D4.call R5 hg5
      clear R5 hg5 D4 hq R4 hg4 hg3
      refine hK.out _ _ (fun _ => D5.ct) ?_
      clear hK K
      try simp only [Act.put, List.setIfInBounds_toArray, List.set_cons_zero, List.set_cons_succ]
      refine wpAnyZ_take (i := 9) (v := ?_) rfl (by kernel_rfl) (fun _ _ _ h => h) (Or.inl ⟨by rfl, ?_⟩) (D5.ct) ?_
      rotate_left 1
      · (intro w hSw; (try dsimp only at hSw); go_simp; try with_reducible rfl)
      try simp only [Act.put, List.setIfInBounds_toArray, List.set_cons_zero, List.set_cons_succ]
      obtain ⟨z0, z0f, z1, z1f, z2, z2f, ZA⟩ := D5.X.threeD (.bool (decide (0 < a))) (.int .i64 u) (.int .i64 q)
      have HF := Lib.hid (fun x y z => D5.out (has := decide (0 < a)) (cl := u) (k := q) HA.out (p0 := p) (by omega) ⟨by omega, by omega, by omega, by omega⟩ x y z)
      clear D5
      refine wpAnyZ_one (i := 10) (by kernel_rfl) (ReadyZ.mk rfl (fun K hK => ?_))
      go_simp
      refine hK.out _ _ (fun h => absurd h (by decide)) ?_
      clear hK K
      try simp only [Act.put, List.setIfInBounds_toArray, List.set_cons_zero, List.set_cons_succ]
      refine wpAnyZ_done (by kernel_rfl) ?_ _
      refine NoPanic.normal ?_
      go_wp2
      have e0 := ZA.out.c0
      have e1 := ZA.out.c1
      have e2 := ZA.out.c2
      exact bodyPost_ret (v := .agg #[.bool (decide (0 < a)), .int .i64 u, .int .i64 q]) (by simp [results, Try.results35, go_sem, e0, e1, e2]) rfl (HF.out _ _ _)
  · have v2b : (v == 2) = false := beq_eq_false_iff_ne.2 v2
    have hmI : (m : Int) ≤ 1000000 := by omega
    go_wp2_with fail
    refine (pick_any (m : Int) g (p + 1) A n cap bs w1 (by omega) (by omega) (by omega) D1.R).mono ?_
    rintro e V1 ⟨a, rfl, ha0, ha1, R3, hg3⟩
    have ha8 : 0 ≤ a ∧ a ≤ 8 := by rcases ha1 with h | h <;> omega
    have D3 := D1.call R3 hg3
    clear R3 hg3 D1 ct
    go_wp2_with fail
    refine (one_lit [1, 2] 2 _ _ g (p + 1 + 1) A n cap bs V1 _ rfl rfl (by decide) (by decide) (by intro x hx; simp at hx; constructor <;> omega) (by omega) (by first | rfl | simp) D3.R).mono ?_
    rintro e V3 ⟨q, rfl, hq, R5, hg5⟩
    have hq1 : 0 ≤ q ∧ q ≤ 100 := by simp at hq; omega
    have D5 := D3.call R5 hg5
    clear R5 hg5 D3 hq
    obtain ⟨z0, z0f, z1, z1f, z2, z2f, ZA⟩ := D5.X.threeD (.bool true) (.int .i64 a) (.int .i64 q)
    have HF := Lib.hid (fun x y z => D5.out (has := true) (cl := a) (k := q) HA.out (p0 := p) (by omega) ⟨by omega, by omega, by omega, by omega⟩ x y z)
    clear D5
    go_wp2
    have e0 := ZA.out.c0
    have e1 := ZA.out.c1
    have e2 := ZA.out.c2
    exact bodyPost_ret (v := .agg #[.bool true, .int .i64 a, .int .i64 q]) (by simp [results, Try.results35, go_sem, e0, e1, e2]) rfl (HF.out _ _ _)
end

section
def DrawnXsS (w : World) (e : Ending) (w' : World) : Prop :=
  ∃ (B D : Option Addr) (m c q d : Nat) (xs : List Cls) (L : List Xit) (has : Bool) (cl k : Int), e = .returned (.tuple #[.agg #[.slice B m c], .slice D q d, .agg #[.bool has, .int .i64 cl, .int .i64 k]]) ∧ Sl w' B m c xs ∧ m ≤ 8 ∧ Sl w' D q d L ∧ q ≤ 8 ∧ (-9999 ≤ cl ∧ cl ≤ 9999 ∧ -9999 ≤ k ∧ k ≤ 9999) ∧ Le w w'
theorem box_ts (w : World) (T U : TypeId) : ((w.alloc (.cells #[.slice none 0 0] T)).alloc (.cells #[.bool false, .int .i64 0, .int .i64 0] U)).cell? ⟨w.heap.size, 0, none⟩ = some (.slice none 0 0) ∧ ((w.alloc (.cells #[.slice none 0 0] T)).alloc (.cells #[.bool false, .int .i64 0, .int .i64 0] U)).frozen? ⟨w.heap.size, 0, none⟩ = false ∧
    B3 ((w.alloc (.cells #[.slice none 0 0] T)).alloc (.cells #[.bool false, .int .i64 0, .int .i64 0] U)) (w.heap.size + 1) (.bool false) (.int .i64 0) (.int .i64 0) ∧ Le w ((w.alloc (.cells #[.slice none 0 0] T)).alloc (.cells #[.bool false, .int .i64 0, .int .i64 0] U)) := by
  obtain ⟨c0, z0, L0⟩ := box1 w (.slice none 0 0) T
  have f0 : (w.alloc (.cells #[.slice none 0 0] T)).frozen? ⟨w.heap.size, 0, none⟩ = false := World.frozen?_alloc_at _ _ _ _ rfl
  have LN := Le.new (w.alloc (.cells #[.slice none 0 0] T)) (.cells #[.bool false, .int .i64 0, .int .i64 0] U)
  have X := B3.new (w.alloc (.cells #[.slice none 0 0] T)) (.bool false) (.int .i64 0) (.int .i64 0) U
  have e : (w.alloc (.cells #[.slice none 0 0] T)).heap.size = w.heap.size + 1 := by simp
  rw [e] at X
  exact ⟨(LN.cell z0).trans c0, (LN.frozen z0).trans f0, X, L0.trans LN⟩
theorem Sl.setBlk {α : Type} [Enc α] {w : World} {A : Option Addr} {n cap : Nat} {xs : List α} (h : Sl w A n cap xs) {b : Nat} (hb : 0 < n → ∀ a, A = some a → a.block ≠ b) (o : Nat) (u : Value) : Sl (w.setCell ⟨b, o, none⟩ u) A n cap xs :=
  h.grown (grown_set w b o u) (fun hn a e e2 => hb hn a e (by injection e2))
set_option maxHeartbeats 2000000 in
set_option maxRecDepth 100000 in
theorem drawCloseExits_any (A : Option Addr) (n cap : Nat) (bs : List By) (w : World) (hR : Sl w A n cap bs) : Calls Try.prog 9 #[.slice A n cap] w (DrawnXsS w) := by
  obtain ⟨c0, f0, X, L0⟩ := box_ts w 25 28
  have S0 := hR.le L0
  have zX := X.lt
  go_enter Try.func9, Try.ntmps9
  go_wp2_with fail
  generalize (w.alloc (.cells #[.slice none 0 0] 25)).alloc (.cells #[.bool false, .int .i64 0, .int .i64 0] 28) = W at *
  refine (newReader_any A n cap bs W S0).mono ?_
  rintro e w1 ⟨g, A1, n1, k1, bs1, rfl, hg, R1, hle⟩
  replace c0 := (hle.cell (by omega)).trans c0
  replace f0 := (hle.frozen (by omega)).trans f0
  replace X := X.le hle
  replace L0 := L0.trans hle
  have hgz : w.heap.size + 1 < g := by omega
  have hg1 := R1.lt
  clear S0 zX hle
  have zX := X.lt
  go_wp2_with fail
  refine (someExits_any g 0 A1 n1 k1 bs1 w1 (by omega) R1).mono ?_
  rintro e w2 ⟨B, D, m, c, q, d, xs, L, p2, rfl, S2, hm, hab, SD, hq, hD, hp2, R2, hg2⟩
  replace c0 := (hg2.cell (by omega) (by omega)).trans c0
  replace f0 := (hg2.frozen (by omega) (by omega)).trans f0
  replace X := X.gx hg2 (by omega)
  have L2 := Gx.le L0 hg2 (by omega)
  have hgl := R2.lt
  obtain ⟨ct, zt, LB⟩ := box1 w2 (.slice B m c) 25
  replace LB := LB.drew
  replace ct := (show (w2.alloc (.cells #[.slice B m c] 25)).drew.cell? ⟨w2.heap.size, 0, none⟩ = _ from ct)
  replace zt := (show w2.heap.size < (w2.alloc (.cells #[.slice B m c] 25)).drew.heap.size from zt)
  replace c0 := (LB.cell (by have := X.lt; omega)).trans c0
  replace f0 := (LB.frozen (by have := X.lt; omega)).trans f0
  have zw2 : w.heap.size + 1 < w2.heap.size := X.lt
  replace X := X.le LB
  replace S2 := S2.le LB
  replace SD := SD.le LB
  replace R2 := R2.le LB
  replace L2 := L2.trans LB
  clear R1 L0 hg2 zX
  go_wp2_with fail
  refine wp_region_noPanic ?_
  refine wp_region_Z (fun w' => w'.cell? ⟨w2.heap.size, 0, none⟩ = some (.slice B m c)) [] (by kernel_rfl) ?_
  generalize (w2.alloc (.cells #[.slice B m c] 25)).drew = V at *
  clear LB
  refine wpAnyZ_take (i := 0) (v := ?_) rfl (by kernel_rfl) (fun _ _ _ h => h) (Or.inl ⟨by rfl, ?_⟩) (ct) ?_
  rotate_left 1
  · (intro w hSw; (try dsimp only at hSw); go_simp; try with_reducible rfl)
  try simp only [Act.put, List.setIfInBounds_toArray, List.set_cons_zero, List.set_cons_succ]
  refine wpAnyZ_take (i := 1) (v := ?_) rfl (by kernel_rfl) (fun _ _ _ h => h) (Or.inl ⟨by rfl, ?_⟩) (ct) ?_
  rotate_left 1
  · (intro w hSw; (try dsimp only at hSw); go_simp; try with_reducible rfl)
  try simp only [Act.put, List.setIfInBounds_toArray, List.set_cons_zero, List.set_cons_succ]
  refine wpAnyZ_take (i := 2) (v := ?_) rfl (by kernel_rfl) (fun _ _ _ h => h) (Or.inl ⟨by rfl, ?_⟩) (ct) ?_
  rotate_left 1
  · (intro w hSw; (try dsimp only at hSw); go_simp; try with_reducible rfl)
  try simp only [Act.put, List.setIfInBounds_toArray, List.set_cons_zero, List.set_cons_succ]
  refine wpAnyZ_take (i := 3) (v := ?_) rfl (by kernel_rfl) (fun _ _ _ h => h) (Or.inl ⟨by rfl, ?_⟩) (ct) ?_
  rotate_left 1
  · (intro w hSw; (try dsimp only at hSw); go_simp; try with_reducible rfl)
  try simp only [Act.put, List.setIfInBounds_toArray, List.set_cons_zero, List.set_cons_succ]
  refine wpAnyZ_one (i := 4) (by kernel_rfl) (ReadyZ.mk rfl (fun K hK => ?_))
  go_simp
  go_at_call 35
  refine (aStart_any B m c g p2 A1 n1 k1 bs1 V hm (by omega) R2).mono ?_
  rintro e V2 ⟨has, cl, k, p3, rfl, hb, hp3, R3, hg3⟩
  replace c0 := (hg3.cell (by omega) (by omega)).trans c0
  replace f0 := (hg3.frozen (by omega) (by omega)).trans f0
  replace X := X.gx hg3 (by omega)
  replace L2 := Gx.le L2 hg3 (by omega)
  replace S2 := S2.gx (fun hn a e => by have := hab hn a e; omega) hg3
  replace SD := SD.gx (fun hn a e => by have := hD hn a e; omega) hg3
  replace ct := (hg3.cell zt (by omega)).trans ct
  clear R2 R3 hg3 zt
  refine hK.out _ _ (fun _ => ct) ?_
  clear hK K
  try simp only [Act.put, List.setIfInBounds_toArray, List.set_cons_zero, List.set_cons_succ]
  have X5 := X.far (by omega : w.heap.size ≠ w.heap.size + 1) 0 (.slice B m c)
  have k0 : (V2.setCell ⟨w.heap.size, 0, none⟩ (.slice B m c)).cell? ⟨w.heap.size, 0, none⟩ = some (.slice B m c) := cell_set_same c0
  have L5 := L2.setCell (b := w.heap.size) (o := 0) (Nat.le_refl _) (.slice B m c)
  have S5 := S2.setNoneX (u := .slice B m c) c0 (fun x h => by simp [Enc.cells] at h)
  have SD5 := SD.setNoneX (u := .slice B m c) c0 (fun x h => by simp [Enc.cells] at h)
  have ct5 := (cell_set_other (v := .slice B m c) (o := 0) (o' := 0) (.inl (by omega : w.heap.size ≠ w2.heap.size))).trans ct
  clear S2 SD L2 X
  refine wpAnyZ_one (i := 5) (by kernel_rfl) (ReadyZ.mk rfl (fun K hK => ?_))
  go_simp
  refine hK.out _ _ (fun _ => ct5) ?_
  clear hK K
  try simp only [Act.put, List.setIfInBounds_toArray, List.set_cons_zero, List.set_cons_succ]
  refine wpAnyZ_take (i := 6) (v := ?_) rfl (by kernel_rfl) (fun _ _ _ h => h) (Or.inl ⟨by rfl, ?_⟩) (ct5) ?_
  rotate_left 1
  · (intro w hSw; (try dsimp only at hSw); go_simp; try with_reducible rfl)
  try simp only [Act.put, List.setIfInBounds_toArray, List.set_cons_zero, List.set_cons_succ]
  generalize V2.setCell ⟨w.heap.size, 0, none⟩ (.slice B m c) = V5 at *
  obtain ⟨z0, z0f, z1, z1f, z2, z2f, ZA⟩ := X5.threeD (.bool has) (.int .i64 cl) (.int .i64 k)
  have k0' : Hid ((((V5.setCell ⟨w.heap.size + 1, 0, none⟩ (.bool has)).setCell ⟨w.heap.size + 1, 1, none⟩ (.int .i64 cl)).setCell ⟨w.heap.size + 1, 2, none⟩ (.int .i64 k)).cell? ⟨w.heap.size, 0, none⟩ = some (.slice B m c)) :=
    (cell_set_other (.inl (by omega))).trans ((cell_set_other (.inl (by omega))).trans ((cell_set_other (.inl (by omega))).trans k0))
  have ct8 : (((V5.setCell ⟨w.heap.size + 1, 0, none⟩ (.bool has)).setCell ⟨w.heap.size + 1, 1, none⟩ (.int .i64 cl)).setCell ⟨w.heap.size + 1, 2, none⟩ (.int .i64 k)).cell? ⟨w2.heap.size, 0, none⟩ = some (.slice B m c) :=
    (cell_set_other (.inl (by omega))).trans ((cell_set_other (.inl (by omega))).trans ((cell_set_other (.inl (by omega))).trans ct5))
  have S6 : Hid (Sl (((V5.setCell ⟨w.heap.size + 1, 0, none⟩ (.bool has)).setCell ⟨w.heap.size + 1, 1, none⟩ (.int .i64 cl)).setCell ⟨w.heap.size + 1, 2, none⟩ (.int .i64 k)) B m c xs) :=
    ((S5.setBlk (fun hn a e => by have := hab hn a e; omega) _ _).setBlk (fun hn a e => by have := hab hn a e; omega) _ _).setBlk (fun hn a e => by have := hab hn a e; omega) _ _
  have SD6 : Hid (Sl (((V5.setCell ⟨w.heap.size + 1, 0, none⟩ (.bool has)).setCell ⟨w.heap.size + 1, 1, none⟩ (.int .i64 cl)).setCell ⟨w.heap.size + 1, 2, none⟩ (.int .i64 k)) D q d L) :=
    ((SD5.setBlk (fun hn a e => by have := hD hn a e; omega) _ _).setBlk (fun hn a e => by have := hD hn a e; omega) _ _).setBlk (fun hn a e => by have := hD hn a e; omega) _ _
  have L6 := Lib.hid (((L5.setCell (b := w.heap.size + 1) (o := 0) (by omega) (.bool has)).setCell (b := w.heap.size + 1) (o := 1) (by omega) (.int .i64 cl)).setCell (b := w.heap.size + 1) (o := 2) (by omega) (.int .i64 k))
  clear X5 k0 L5 S5 SD5 c0 f0 ct hab hD
  refine wpAnyZ_one (i := 7) (by kernel_rfl) (ReadyZ.mk rfl (fun K hK => ?_))
  go_simp
  refine hK.out _ _ (fun _ => ct8) ?_
  clear hK K
  try simp only [Act.put, List.setIfInBounds_toArray, List.set_cons_zero, List.set_cons_succ]
  refine wpAnyZ_done (by kernel_rfl) ?_ _
  refine NoPanic.normal ?_
  go_wp2
  have e0 := ZA.out.c0
  have e1 := ZA.out.c1
  have e2 := ZA.out.c2
  have e3 := k0'.out
  exact bodyPost_ret (v := .tuple #[.agg #[.slice B m c], .slice D q d, .agg #[.bool has, .int .i64 cl, .int .i64 k]]) (by simp [results, Try.results9, go_sem, e0, e1, e2, e3]) rfl ⟨B, D, m, c, q, d, xs, L, has, cl, k, rfl, S6.out, hm, SD6.out, hq, hb, L6.out⟩
end

section
theorem equalInts_self (A B : Option Addr) (n c d : Nat) (xs : List Int) (w : World) (hR : Sl w A n c xs) (hS : Sl w B n d xs) :
    Calls Try.prog 19 #[.slice A n c, .slice B n d] w fun e w' => e = .returned (.bool true) ∧ Le w w' := by
  obtain rfl := hR.len
  have hm := hR.n_le
  have hb : ((xs.length : Int) != (xs.length : Int)) = false := by simp
  go_enter Try.func19, Try.ntmps19
  go_wp2
  go_loopw [5] (fun i wr => ∃ k : Nat, k ≤ xs.length ∧ i = .int .i64 k ∧ Le w wr) (fun i _ => xs.length - (intOf i).toNat)
  case atStart => exact ⟨0, Nat.zero_le _, rfl, Le.refl _⟩
  case round =>
    obtain ⟨k, hk, rfl, hle⟩ := hrel
    have hRr := hR.le hle
    have hSr := hS.le hle
    clear hR hS
    by_cases hlt : k < xs.length
    · obtain ⟨b, off, rfl, hb, hcell, _, _⟩ := hRr.int_at hlt
      obtain ⟨b2, off2, rfl, hb2, hcell3, _, _⟩ := hSr.int_at hlt
      have E1 := cell_ext hb hcell
      have E2 := cell_ext hb2 hcell3
      have he2 : (xs[k] != xs[k]) = false := by simp
      go_wp2_with fail
      refine wp_region_ext (by kernel_rfl) (by kernel_rfl) ?_
      repeat (go_big_quiet_step (fail))
      refine wpQuiet_nil ?_
      intro _ hw'
      obtain ⟨g, rfl⟩ := hw'
      have hw1 := Le.ext wr g
      generalize wr.ext g = W2 at *
      go_wp2
      go_roundw
      case rel => exact ⟨k + 1, by omega, by go_num, hle.trans hw1⟩
      case measure => simp [intOf]; omega
    · go_wp2
      go_ret
      exact ⟨rfl, hle⟩

theorem isIn_any (A : Option Addr) (n cap : Nat) (zs : List Int) (x : Int) (w : World) (hR : Sl w A n cap zs) :
    Calls Try.prog 28 #[.slice A n cap, .int .i64 x] w fun e w' => e = .returned (.bool (hasI zs x)) ∧ w = w' := by
  obtain rfl := hR.len
  have hm := hR.n_le
  go_enter Try.func28, Try.ntmps28
  go_wp2
  go_loop [5] (fun i => ∃ k : Nat, k ≤ zs.length ∧ i = .int .i64 k ∧ hasI zs x = hasI (zs.drop k) x) (fun i => zs.length - (intOf i).toNat)
  case atStart => exact ⟨0, Nat.zero_le _, rfl, rfl⟩
  case round =>
    obtain ⟨k, hk, rfl, hr⟩ := hrel
    have HR := Lib.hid hr; clear hr
    by_cases hlt : k < zs.length
    · obtain ⟨b, off, rfl, _, hcell, _, _⟩ := hR.int_at hlt
      cases he : zs[k] == x
      · have HF : Hid (hasI zs x = hasI (zs.drop (k + 1)) x) := by show _ = _; rw [HR.out, hasI_at hlt, he]; rfl
        go_wp2
        go_round
        case rel => exact ⟨k + 1, by omega, by go_num, HF.out⟩
        case measure => simp [intOf]; omega
      · have HF : Hid (hasI zs x = true) := by show _ = _; rw [HR.out, hasI_at hlt, he]; rfl
        go_wp2
        go_ret
        exact ⟨ret_bool HF.out.symm, rfl⟩
    · have HF : Hid (hasI zs x = false) := by show _ = _; rw [HR.out, hasI_end hlt]
      go_wp2
      go_ret
      exact ⟨ret_bool HF.out.symm, rfl⟩


theorem ascends_any (A : Option Addr) (n cap : Nat) (zs : List Int) (w : World) (hR : Sl w A n cap zs) (h : zs.Pairwise (· < ·)) :
    Calls Try.prog 29 #[.slice A n cap] w fun e w' => e = .returned (.bool true) ∧ Le w w' := by
  obtain rfl := hR.len
  have hm := hR.n_le
  rw [List.pairwise_iff_getElem] at h
  have HA := Lib.hid h; clear h
  go_enter Try.func29, Try.ntmps29
  go_wp2
  go_loopw [3] (fun i wr => ∃ j : Nat, i = .int .i64 ((j : Int) + 1) ∧ Le w wr) (fun i _ => zs.length - (intOf i).toNat)
  case atStart => exact ⟨0, rfl, Le.refl _⟩
  case round =>
    obtain ⟨j, rfl, hle⟩ := hrel
    have hRr := hR.le hle
    clear hR
    by_cases hlt : j + 1 < zs.length
    · obtain ⟨b, off, rfl, hb, hcell, _, _⟩ := hRr.int_at hlt
      obtain ⟨b2, off2, e2, hb2, hcell2, _, _⟩ := hRr.int_at (k := j) (by omega)
      injection e2 with e2
      injection e2 with e21 e22
      subst e21; subst e22
      have hcmp := HA.out j (j + 1) (by omega) hlt (by omega)
      have hcmp2 : ¬ zs[j + 1] ≤ zs[j] := by omega
      have hw1 : IntKind.i64.wrap ((j : Int) + 1 - 1) = (j : Int) := by
        have e : (j : Int) + 1 - 1 = j := by omega
        rw [e]; exact IntWalk.i64_in _ (by omega)
      have hj1 : (j : Int) < zs.length := by omega
      have hj2 : (j : Int) + 1 < zs.length := by omega
      have E1 := cell_ext hb hcell
      have E2 := cell_ext hb hcell2
      go_wp2_with fail
      refine wp_region_ext (by kernel_rfl) (by kernel_rfl) ?_
      repeat (go_big_quiet_step (fail))
      refine wpQuiet_nil ?_
      intro _ hw'
      obtain ⟨g, rfl⟩ := hw'
      have hw2 := Le.ext wr g
      generalize wr.ext g = W2 at *
      go_wp2
      go_roundw
      case rel => exact ⟨j + 1, by go_num, hle.trans hw2⟩
      case measure => simp [intOf]; omega
    · have hj2 : ¬ (j : Int) + 1 < zs.length := by omega
      go_wp2
      go_ret
      exact ⟨rfl, hle⟩

theorem has_any (A : Option Addr) (n cap : Nat) (xs : List Cls) (a : Int) (w : World) (hR : Sl w A n cap xs) :
    Calls Try.prog 14 #[.agg #[.slice A n cap], .int .i64 a] w fun e w' => e = .returned (.bool (hasK xs a)) ∧ Le w w' := by
  obtain rfl := hR.len
  have hm := hR.n_le
  by_cases h0 : 0 ≤ a
  · by_cases h1 : a < xs.length
    · have HF : Hid (hasK xs a = true) := by show _ = _; unfold hasK; simp; omega
      go_enter Try.func14, Try.ntmps14
      go_wp2
      go_ret
      exact ⟨ret_bool HF.out.symm, Le.new w _⟩
    · have HF : Hid (hasK xs a = false) := by show _ = _; unfold hasK; simp; omega
      go_enter Try.func14, Try.ntmps14
      go_wp2
      go_ret
      exact ⟨ret_bool HF.out.symm, Le.new w _⟩
  · have HF : Hid (hasK xs a = false) := by show _ = _; unfold hasK; simp; omega
    go_enter Try.func14, Try.ntmps14
    go_wp2
    go_ret
    exact ⟨ret_bool HF.out.symm, Le.new w _⟩
end

section
theorem equalHeap_self (A B : Option Addr) (n c d : Nat) (xs : List Flt) (w : World) (hR : Sl w A n c xs) (hS : Sl w B n d xs) :
    Calls Try.prog 39 #[.agg #[.slice A n c], .agg #[.slice B n d]] w fun e w' => e = .returned (.bool true) ∧ Le w w' := by
  obtain rfl := hR.len
  have hm := hR.n_le
  have hb : ((xs.length : Int) != (xs.length : Int)) = false := by simp
  go_enter Try.func39, Try.ntmps39
  go_wp2
  obtain ⟨c0, z0, c1, z1, L0⟩ := box2 w (.slice A xs.length c) (.slice B xs.length d) 34 34
  have S1 := hR.le L0
  have S2 := hS.le L0
  generalize (w.alloc (.cells #[.slice A xs.length c] 34)).alloc (.cells #[.slice B xs.length d] 34) = W at *
  go_loopw [5] (fun i wr => ∃ k : Nat, k ≤ xs.length ∧ i = .int .i64 k ∧ Le W wr) (fun i _ => xs.length - (intOf i).toNat)
  case atStart => exact ⟨0, Nat.zero_le _, rfl, Le.refl _⟩
  case round =>
    obtain ⟨k, hk, rfl, hle⟩ := hrel
    replace c0 := (hle.cell z0).trans c0
    replace c1 := (hle.cell z1).trans c1
    replace z0 := Nat.lt_of_lt_of_le z0 hle.size
    replace z1 := Nat.lt_of_lt_of_le z1 hle.size
    replace L0 := L0.trans hle
    replace S1 := S1.le hle
    replace S2 := S2.le hle
    by_cases hlt : k < xs.length
    · obtain ⟨b, off, rfl, hb1, k0, k1, k2, k3, k4, _⟩ := S1.flt_at hlt
      obtain ⟨b2, off2, rfl, hb2, d0, d1, d2, d3, d4, _⟩ := S2.flt_at hlt
      have E0 := cell_ext hb1 k0
      have E1 := cell_ext hb1 k1
      have E2 := cell_ext hb1 k2
      have E3 := cell_ext hb1 k3
      have E4 := cell_ext hb1 k4
      have F0 := cell_ext hb2 d0
      have F1 := cell_ext hb2 d1
      have F2 := cell_ext hb2 d2
      have F3 := cell_ext hb2 d3
      have F4 := cell_ext hb2 d4
      have G0 := cell_ext z0 c0
      have G1 := cell_ext z1 c1
      generalize xs[k].cls = v0 at *
      generalize xs[k].code = v1 at *
      generalize xs[k].cause = v2 at *
      generalize xs[k].ctx = v3 at *
      generalize xs[k].hide = v4 at *
      go_wp2_with fail
      refine wp_region_ext (by kernel_rfl) (by kernel_rfl) ?_
      repeat (go_big_quiet_step (fail))
      refine wpQuiet_nil ?_
      intro _ hw'
      obtain ⟨g, rfl⟩ := hw'
      have hw1 := Le.ext wr g
      generalize wr.ext g = W2 at *
      go_wp2
      go_roundw
      case rel => exact ⟨k + 1, by omega, by go_num, hle.trans hw1⟩
      case measure => simp [intOf]; omega
    · go_wp2
      go_ret
      exact ⟨rfl, L0⟩
variable {P : Program} {f : FuncId} {args : Array Value} {w : World} {T : TypeId}
theorem Calls.intsH {L : List Int} (h : Calls P f args w fun e w' => ∃ v, e = .returned v ∧ Owd T w w' v L ∧ Le w w') : Calls P f args w fun e w' => ∃ A c, e = .returned (.slice A L.length c) ∧ Sl w' A L.length c L ∧ Le w w' :=
  h.mono fun _ _ ⟨v, he, ho, hl⟩ => by obtain ⟨A, c, e2, hs, _⟩ := ho.form (by decide); exact ⟨A, c, by rw [he, e2], hs, hl⟩
end
end Go.Proofs.Ytonpgohigncjeaa
