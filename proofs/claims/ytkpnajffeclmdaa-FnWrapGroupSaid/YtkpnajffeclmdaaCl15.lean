/- one text of V, DE, DF, DrX -/
import Derived.Test.YtkpnajffeclmdaaCl9
import Derived.Test.YtkpnajffeclmdaaCl4
import Derived.Test.YtkpnajffeclmdaaCl3
import Derived.Test.YtkpnajffeclmdaaCl14
namespace Go.Proofs.Ytkpnajffeclmdaa
open Go.RowKit
set_option linter.unusedVariables false
section
theorem one_new (w : World) (a : Value) (t : TypeId) : ∀ j u, [a][j]? = some u → (w.alloc (.cells #[a] t)).cell? ((⟨w.heap.size, 0, none⟩ : Addr).add j) = some u := by
  intro j u hu
  cases j with
  | zero =>
    simp at hu; subst hu
    show (w.alloc (.cells #[a] t)).cell? ⟨w.heap.size, 0, none⟩ = some a
    rw [World.cell?_alloc_at _ _ _ _ rfl]; rfl
  | succ j => simp at hu
def OwnInts (L : List Int) (w : World) (e : Ending) (w' : World) : Prop := ∃ v, e = .returned v ∧ w'.ownsRow w.heap.size 3 1 v L.length (L.flatMap Enc.cells) ∧ (∀ x ∈ L, Enc.ok x) ∧ Le w w'
def aboveX (xs : List Cls) (a : Int) : List Int := cond (okTree xs && hasK xs a) (aboveL xs a) []
theorem aboveX_of {xs : List Cls} {a : Int} {b : Bool} (h : (okTree xs && hasK xs a) = b) : aboveX xs a = cond b (aboveL xs a) [] := by unfold aboveX; rw [h]
theorem own_nil (w w' : World) (h : Le w w') : OwnInts [] w (.returned (.slice none 0 0)) w' := ⟨_, rfl, World.ownsRow_nil _ _ _ _, (fun _ h => nomatch h), h⟩
theorem above_ok {xs : List Cls} (g : Good xs) {a : Int} (ha : a < xs.length) : ∀ x ∈ aboveL xs a, Enc.ok x := by
  intro x hx
  have := aboveL_mem g _ a rfl ha x hx
  have := g.hi
  exact ⟨by omega, by omega⟩
end

section
def IntsDrawn (k g p : Nat) (A : Option Addr) (n cap : Nat) (bs : List By) (w : World) (e : Ending) (w' : World) : Prop :=
  ∃ (v : Value) (L : List Int) (p' : Nat), e = .returned v ∧ w'.ownsRow w.heap.size 3 1 v L.length (L.flatMap Enc.cells) ∧ (∀ x ∈ L, -1 ≤ x ∧ x ≤ 8) ∧ L.length ≤ 8 ∧ p' ≤ p + k ∧ Rd w' g p' A n cap bs ∧ Gx g w w'

set_option maxHeartbeats 4000000 in
set_option maxRecDepth 100000 in
theorem someCatches_any (B : Option Addr) (m c : Nat) (g p : Nat) (A : Option Addr) (n cap : Nat) (bs : List By) (w : World) (hm : m ≤ 8) (hp : p ≤ 800000) (hR : Rd w g p A n cap bs) :
    Calls Try.prog 48 #[.pointer (some ⟨g, 0, none⟩), .agg #[.slice B m c]] w (IntsDrawn 20 g p A n cap bs w) := by
  have hgw := hR.lt
  go_enter Try.func48, Try.ntmps48
  go_wp2_with fail
  obtain ⟨c0, z0, L0⟩ := box1 w (.slice B m c) 25
  have hs0 : (w.alloc (.cells #[.slice B m c] 25)).heap.size = w.heap.size + 1 := by simp
  have R0 := hR.le L0
  generalize w.alloc (.cells #[.slice B m c] 25) = W at *
  have hgz : w.heap.size ≠ g := by omega
  have O0 := own_empty (w := W) (base := w.heap.size + 1) (g := w.heap.size + 1) (e := 3) (size := 1) (by omega) (by omega)
  have L1 := Le.new W (.cells #[] 3)
  have R1 := R0.le L1
  have c1 := (L1.cell z0).trans c0
  have s1 : (W.alloc (.cells #[] 3)).heap.size = w.heap.size + 1 + 1 := by simp; omega
  have L01 := L0.trans L1
  generalize W.alloc (.cells #[] 3) = W1 at *
  refine (one_any _ 6 6 [2, 3, 1, 4, 0, 7] g p A n cap bs _ (by omega) (by omega) (by omega) (Sl.of_row (hp_new W1 _ (by omega)) (by rfl) rfl (by omega) (by intro x hx; simp at hx; rcases hx with rfl | rfl | rfl | rfl | rfl | rfl <;> (constructor <;> omega))) (fun _ a e => by injection e with e; rw [← e]; show w.heap.size + 1 + 1 ≠ g; omega) (R1.le (Le.new _ _))).mono ?_
  rintro e w2 ⟨u, rfl, hu, R2, hg2⟩
  have hu1 : 0 ≤ u ∧ u ≤ 7 := by simp at hu; omega
  clear hu
  have LN := Le.new W1 (.cells #[.int .i64 2, .int .i64 3, .int .i64 1, .int .i64 4, .int .i64 0, .int .i64 7] 3)
  have zN := Nat.lt_of_lt_of_le (show w.heap.size < W1.heap.size by omega) LN.size
  have c2 := (hg2.cell zN hgz).trans ((LN.cell (by omega)).trans c1)
  have z2 := Nat.lt_of_lt_of_le zN hg2.size
  have O2 := (own_le O0 LN).kept hg2 (.inr (fun e => by have := (O0.lt _ e).1; omega))
  have G2 := (Gx.of_le (g := g) (L01.trans LN)).trans hg2
  have z2b : w.heap.size + 1 < w2.heap.size := Nat.lt_of_lt_of_le (show w.heap.size + 1 < W1.heap.size by omega) (Nat.le_trans LN.size hg2.size)
  clear hg2 LN zN O0 L01 L1 c0 c1 R0 R1 L0 z0
  obtain ⟨i0, hi0, hz0, hz1, hz2⟩ := info_parts intInfo
  go_wp2
  go_loopw [5, 6] (fun v i wr => ∃ (L : List Int) (k p' : Nat), i = .int .i64 k ∧ L.length + k ≤ 7 ∧ p' ≤ p + 1 + L.length ∧ (∀ x ∈ L, -1 ≤ x ∧ x ≤ 8) ∧ wr.ownsRow (w.heap.size + 1) 3 1 v L.length (L.flatMap Enc.cells) ∧
      wr.cell? ⟨w.heap.size, 0, none⟩ = some (.slice B m c) ∧ w.heap.size + 1 < wr.heap.size ∧ Rd wr g p' A n cap bs ∧ Gx g w wr) (fun _ i _ => (intOf i).toNat)
  case atStart =>
    obtain ⟨k, rfl⟩ := Int.eq_ofNat_of_zero_le hu1.1
    exact ⟨[], k, p + 1, rfl, by simp; omega, by simp, by simp, O2, c2, z2b, R2, G2⟩
  case round =>
    clear O2 c2 R2 G2 z2 z2b hu1
    obtain ⟨L, k, p', rfl, hk, hp', hL, O, c2, z2, R2, G2⟩ := hrel
    have hA : 0 < n → ∀ a, A = some a → a.block < w.heap.size := fun hn a e => hR.sl.under hn a e
    have HA := Lib.hid hA; clear hA
    by_cases h0 : 0 < k
    · have hk0 : (0 : Int) < k := by omega
      have hwk : IntKind.i64.wrap ((k : Int) - 1) = ((k - 1 : Nat) : Int) := by
        have e : (k : Int) - 1 = ((k - 1 : Nat) : Int) := by omega
        rw [e]; exact IntWalk.i64_in _ (by omega)
      go_wp2_with fail
      refine (pick_any m g p' A n cap bs wr (by omega) (by omega) (by omega) R2).mono ?_
      rintro e w3 ⟨x, rfl, hx0, hx1, R3, hg3⟩
      have c3 := (hg3.cell (k := w.heap.size) (o := 0) (by omega) hgz).trans c2
      have z3 := Nat.lt_of_lt_of_le z2 hg3.size
      have O3 := O.kept hg3 (.inr (fun e => by have := (O.lt _ e).1; omega))
      have G3 := G2.trans hg3
      have hx2 : x ≤ 8 := by rcases hx1 with h | h <;> omega
      have hc3 : L.length + 1 ≤ maxLen := by unfold maxLen; omega
      have hc4 : (L.length + 1) * 8 ≤ 140737488355328 := by omega
      clear c2 O R2 G2 hg3 hx1
      go_wp2_with (at_builtin; refine wpList_append_own _ rfl _ _ 41 rfl (w.heap.size + 1) 3 i0 (.int .i64 0) 1 8 Try.underlying41 hi0 hz0 hz1 hz2 rfl (by decide) _ _ _ rfl (O3.alloc _) ⟨w3.heap.size, 0, none⟩ 1 1 [.int .i64 x] rfl rfl ?c1 ?c2 hc3 hc4 ?c5 ?_)
      case c1 => exact one_new _ _ _
      case c2 => intro u hu; simp at hu; subst hu; rfl
      case c5 => simp; omega
      intro v1 w4 O4 hg4 _
      have LA := Le.new w3 (.cells #[.int .i64 x] 3)
      have hbk := O3.lt
      have c4 := hg4.cell (a := ⟨w.heap.size, 0, none⟩) ((LA.cell (by omega)).trans c3) (fun e => by have h : w.heap.size + 1 ≤ w.heap.size ∧ _ := hbk _ e.symm; omega)
      have z4 := Nat.lt_of_lt_of_le (Nat.lt_of_lt_of_le z3 LA.size) hg4.size
      have R4 := (R3.le LA).grown hg4 (fun e => by have h := (hbk _ e).1; omega) (fun hn a e e2 => by have h := (hbk _ e2).1; have := HA.out hn a e; omega)
      have G4 := (G3.trans (Gx.of_le LA)).grown hg4 (fun k hk => by have h := (hbk _ hk).1; omega)
      clear hg4 LA c3 R3 G3 O3 hbk
      go_wp2
      go_roundw
      case rel => exact ⟨L ++ [x], k - 1, p' + 1, by first | rfl | go_num, by simp; omega, by simp; omega, (fun y hy => by rcases List.mem_append.1 hy with h | h; exact hL y h; simp at h; omega), by simpa [Enc.cells] using O4, c4, z4, R4, G4⟩
      case measure => simp [intOf]; omega
    · have hk0 : ¬ (0 : Int) < k := by omega
      go_wp2_with fail
      refine (pick_any 16 g p' A n cap bs wr (by omega) (by omega) (by omega) R2).mono ?_
      rintro e w3 ⟨x, rfl, hx0, hx1, R3, hg3⟩
      have c3 := (hg3.cell (k := w.heap.size) (o := 0) (by omega) hgz).trans c2
      have z3 := Nat.lt_of_lt_of_le z2 hg3.size
      have O3 := O.kept hg3 (.inr (fun e => by have := (O.lt _ e).1; omega))
      have G3 := G2.trans hg3
      clear c2 O R2 G2 hg3
      by_cases hx : x = 0
      · subst hx
        have hc3 : L.length + 1 ≤ maxLen := by unfold maxLen; omega
        have hc4 : (L.length + 1) * 8 ≤ 140737488355328 := by omega
        go_wp2_with fail
        refine (aClass_any B m c g (p' + 1) A n cap bs w3 hm (by omega) R3).mono ?_
        rintro e w4 ⟨x, p4, rfl, hx0, hx2, hp4, R4, hg3⟩
        have z4 := Nat.lt_of_lt_of_le z3 hg3.size
        have O4 := O3.kept hg3 (.inr (fun e => by have := (O3.lt _ e).1; omega))
        have G4 := G3.trans hg3
        clear c3 O3 R3 G3 hg3 hx1
        go_wp2_with (at_builtin; refine wpList_append_own _ rfl _ _ 41 rfl (w.heap.size + 1) 3 i0 (.int .i64 0) 1 8 Try.underlying41 hi0 hz0 hz1 hz2 rfl (by decide) _ _ _ rfl (O4.alloc _) ⟨w4.heap.size, 0, none⟩ 1 1 [.int .i64 x] rfl rfl ?c1 ?c2 hc3 hc4 ?c5 ?_)
        case c1 => exact one_new _ _ _
        case c2 => intro u hu; simp at hu; subst hu; rfl
        case c5 => simp; omega
        intro v1 w5 O5 hg4 _
        have LA := Le.new w4 (.cells #[.int .i64 x] 3)
        have hbk := O4.lt
        have R5 := (R4.le LA).grown hg4 (fun e => by have h := (hbk _ e).1; omega) (fun hn a e e2 => by have h := (hbk _ e2).1; have := HA.out hn a e; omega)
        have G5 := (G4.trans (Gx.of_le LA)).grown hg4 (fun k hk => by have h := (hbk _ hk).1; omega)
        clear hg4 LA R4 G4 O4 hbk
        go_wp2
        go_ret
        exact ⟨_, L ++ [x], p4, rfl, own_mono (by simpa [Enc.cells] using O5) (by omega), (fun y hy => by rcases List.mem_append.1 hy with h | h; exact hL y h; simp at h; omega), by simp; omega, by omega, R5, G5⟩
      · have hx9 : (x == 0) = false := by simpa using hx
        go_wp2
        go_ret
        exact ⟨_, L, p' + 1, rfl, own_mono O3 (by omega), hL, by omega, by omega, R3, G3⟩
end

section
def DrawnTL (w : World) (e : Ending) (w' : World) : Prop := ∃ (B D : Option Addr) (m c k d : Nat) (xs : List Cls) (L : List Int), e = .returned (.tuple #[.agg #[.slice B m c], .slice D k d]) ∧ Sl w' B m c xs ∧ m ≤ 8 ∧ Sl w' D k d L ∧ (0 < m → ∀ x, B = some x → w.heap.size ≤ x.block) ∧ (0 < k → ∀ x, D = some x → w.heap.size ≤ x.block) ∧ k ≤ 8 ∧ Le w w'
def DrawnTLA (w : World) (e : Ending) (w' : World) : Prop := ∃ (B D : Option Addr) (m c k d : Nat) (xs : List Cls) (L : List Int) (a : Int), e = .returned (.tuple #[.agg #[.slice B m c], .slice D k d, .int .i64 a]) ∧ Sl w' B m c xs ∧ m ≤ 8 ∧ Sl w' D k d L ∧ k ≤ 8 ∧ (-1 ≤ a ∧ a ≤ 8) ∧ Le w w'
theorem smallInts_ok {L : List Int} (h : ∀ x ∈ L, -1 ≤ x ∧ x ≤ 8) : ∀ x ∈ L, Enc.ok x := fun x hx => by have := h x hx; exact ⟨by omega, by omega⟩

/-- someCatches as a list that reads -/
def ListDrawn (k g p : Nat) (A : Option Addr) (n cap : Nat) (bs : List By) (w : World) (e : Ending) (w' : World) : Prop :=
  ∃ (D : Option Addr) (q d : Nat) (L : List Int) (p' : Nat), e = .returned (.slice D q d) ∧ Sl w' D q d L ∧ (0 < q → ∀ x, D = some x → w.heap.size ≤ x.block) ∧ q ≤ 8 ∧ p' ≤ p + k ∧ Rd w' g p' A n cap bs ∧ Gx g w w'
theorem someCatches_sl (B : Option Addr) (m c : Nat) (g p : Nat) (A : Option Addr) (n cap : Nat) (bs : List By) (w : World) (hm : m ≤ 8) (hp : p ≤ 800000) (hR : Rd w g p A n cap bs) :
    Calls Try.prog 48 #[.pointer (some ⟨g, 0, none⟩), .agg #[.slice B m c]] w (ListDrawn 20 g p A n cap bs w) :=
  (someCatches_any B m c g p A n cap bs w hm hp hR).mono fun e w' ⟨v, L, p', he, ho, hb, hl, hp', hr, hg⟩ => by
    obtain ⟨D, d, rfl⟩ := own_form ho
    refine ⟨D, L.length, d, L, p', he, Sl.of_own ho rfl (by decide) (smallInts_ok hb), fun hq x hx => ?_, hl, hp', hr, hg⟩
    subst hx
    obtain ⟨b, off, e2, _⟩ := (Sl.of_own ho rfl (by decide) (smallInts_ok hb)).at_ hq
    injection e2 with e2
    subst e2
    exact (ho.lt b (by rcases ho.2 with ⟨h, _⟩ | ⟨g', c', _, h, _⟩; simp at h; simp only [Value.slice.injEq, Option.some.injEq] at h; have h2 := congrArg Addr.block h.1; simp only [] at h2; rw [h.1]; simp [Value.ownBlock]; exact h2.symm)).1

end

section
def DrawnGL (w : World) (e : Ending) (w' : World) : Prop := ∃ (B D C : Option Addr) (m c q d k z : Nat) (xs : List Cls) (L : List Prt) (cs : List Int), e = .returned (.tuple #[.agg #[.slice B m c], .slice D q d, .slice C k z]) ∧ Sl w' B m c xs ∧ m ≤ 8 ∧ Sl w' D q d L ∧ q ≤ 40 ∧ (∀ x ∈ L, PtW x) ∧ Sl w' C k z cs ∧ k ≤ 8 ∧ Le w w'
set_option maxRecDepth 100000 in
theorem drawHandleGroup_any (A : Option Addr) (n cap : Nat) (bs : List By) (w : World) (hR : Sl w A n cap bs) : Calls Try.prog 17 #[.slice A n cap] w (DrawnGL w) := by
  go_enter Try.func17, Try.ntmps17
  go_wp2_with fail
  obtain ⟨c0, z0, L0⟩ := box1 w (.slice none 0 0) 25
  have S0 := hR.le L0
  have zW := z0
  have f0 : (w.alloc (.cells #[.slice none 0 0] 25)).frozen? ⟨w.heap.size, 0, none⟩ = false := World.frozen?_alloc_at _ _ _ _ rfl
  generalize w.alloc (.cells #[.slice none 0 0] 25) = W at *
  refine (newReader_any A n cap bs W S0).mono ?_
  rintro e w1 ⟨g, A1, n1, k1, bs1, rfl, hg, R1, hle⟩
  replace c0 := (hle.cell z0).trans c0
  replace f0 := (hle.frozen z0).trans f0
  replace z0 := Nat.lt_of_lt_of_le z0 hle.size
  replace L0 := L0.trans hle
  have hs1 := hle.size
  clear S0 hle
  have hgz : w.heap.size ≠ g := by omega
  have hg1 := R1.lt
  go_wp2_with fail
  refine (someGroup_any g 0 A1 n1 k1 bs1 w1 (by omega) R1).mono ?_
  rintro e w2 ⟨B, D, m, c, q, d, xs, L, p2, rfl, S2, hm, T2, hq, hL, hab, hD, hp2, R2, hg2⟩
  have s2 := hg2.size
  have hgl := R2.lt
  replace c0 := (hg2.cell z0 hgz).trans c0
  replace f0 := (hg2.frozen z0 hgz).trans f0
  have L2 := Gx.le L0 hg2 (by omega)
  clear L0 hg2
  go_wp2_with fail
  obtain ⟨ct, zt, LB⟩ := box1 w2 (.slice B m c) 25
  have zt2 := zt
  have s3 := LB.size
  replace c0 := (LB.cell (by omega)).trans c0
  replace f0 := (LB.frozen (by omega)).trans f0
  have S3 := (S2.le LB).le (Le.refl _).drew
  have T3 := (T2.le LB).le (Le.refl _).drew
  have R3 := (R2.le LB).le (Le.refl _).drew
  have L3 := (L2.trans LB).trans (Le.refl _).drew
  generalize w2.alloc (.cells #[.slice B m c] 25) = W2 at *
  have ctd : W2.drew.cell? ⟨w2.heap.size, 0, none⟩ = some (.slice B m c) := ct
  have c0d : W2.drew.cell? ⟨w.heap.size, 0, none⟩ = some (.slice none 0 0) := c0
  have f0d : W2.drew.frozen? ⟨w.heap.size, 0, none⟩ = false := f0
  have hsd : W2.drew.heap.size = W2.heap.size := rfl
  have HSD := Lib.hid hsd; clear hsd
  have hgt : w2.heap.size ≠ g := by omega
  have hof : ∀ {x : Nat}, x ≤ w.heap.size → (0 < m → Off x B) ∧ (0 < q → Off x D) := fun hx => ⟨fun h a e => by have := hab h a e; omega, fun h a e => by have := hD h a e; omega⟩
  have hog : (0 < m → Off g B) ∧ (0 < q → Off g D) := ⟨fun h a e => by have := hab h a e; omega, fun h a e => by have := hD h a e; omega⟩
  clear LB S2 T2 R2 L2
  go_region_held3 (fun w' => w'.cell? ⟨w2.heap.size, 0, none⟩ = some (.slice B m c))
    (first | exact ctd | exact ct4 | exact (cell_set_other (.inl (by omega))).trans ct4)
    (first
    | (go_at_call 48; refine (someCatches_sl B m c g p2 A1 n1 k1 bs1 _ hm (by omega) R3).mono ?_; rintro e w4 ⟨C, k, z, cs, p4, rfl, S5, hC, hq8, hp4, R4, hg4⟩; have s4 : W2.heap.size ≤ w4.heap.size := hg4.size; have ct4 := (hg4.cell (k := w2.heap.size) (o := 0) (by have := HSD.out; omega) hgt).trans ctd; have S4 := S3.gx hog.1 hg4; have T4 := T3.gx hog.2 hg4; have c04 := (hg4.cell (k := w.heap.size) (o := 0) (by have := HSD.out; omega) hgz).trans c0d; have f04 := (hg4.frozen (k := w.heap.size) (o := 0) (by have := HSD.out; omega) hgz).trans f0d; have L4 := Gx.le L3 hg4 (by omega)))
  all_goals
    have hend : ∀ u, (w4.setCell ⟨w.heap.size, 0, none⟩ u).cell? ⟨w.heap.size, 0, none⟩ = some u := fun u => cell_set_same c04
    have hSx : ∀ u, Sl (w4.setCell ⟨w.heap.size, 0, none⟩ u) B m c xs := fun u => S4.gx (hof (Nat.le_refl _)).1 (Gx.set w.heap.size 0 w4 u)
    have hSy : ∀ u, Sl (w4.setCell ⟨w.heap.size, 0, none⟩ u) D q d L := fun u => T4.gx (hof (Nat.le_refl _)).2 (Gx.set w.heap.size 0 w4 u)
    have hSz : ∀ u, Sl (w4.setCell ⟨w.heap.size, 0, none⟩ u) C k z cs := fun u => S5.gx (fun h a e => by have := hC h a e; have := HSD.out; omega) (Gx.set w.heap.size 0 w4 u)
    go_wp2
    exact bodyPost_ret (v := .tuple #[.agg #[.slice B m c], .slice D q d, .slice C k z]) (by simp [results, Try.results17, go_sem, hend]) rfl ⟨B, D, C, m, c, q, d, k, z, xs, L, cs, rfl, hSx _, hm, hSy _, hq, hL, hSz _, hq8, L4.setCell (Nat.le_refl _) _⟩
end
end Go.Proofs.Ytkpnajffeclmdaa
