/- draws of groups: a list of groups -/
import Derived.Test.YtkpnajffeclmdaaCl14
import Derived.Test.YtkpnajffeclmdaaCl17
import Derived.Test.YtkpnajffeclmdaaCl18
namespace Go.Proofs.Ytkpnajffeclmdaa
open Go.RowKit
/-- the memory of the draw of a list of groups: the result's box, the reader, the tree's box -/
structure WB (w : World) (g lo : Nat) (A : Option Addr) (n cap : Nat) (bs : List By) (U : Nat) (B : Option Addr) (m c : Nat) (xs : List Cls) (p : Nat) (W : World) : Prop where
  c0 : W.cell? ⟨w.heap.size, 0, none⟩ = some (.slice none 0 0)
  f0 : W.frozen? ⟨w.heap.size, 0, none⟩ = false
  ct : W.cell? ⟨U, 0, none⟩ = some (.slice B m c)
  S : Sl W B m c xs
  R : Rd W g p A n cap bs
  L0 : Le w W
  z : U < W.heap.size
  h1 : w.heap.size < g
  h2 : g < lo
  h3 : lo ≤ U
  hm : m ≤ 8
  hA : 0 < n → ∀ a, A = some a → a.block < lo
  hB : 0 < m → ∀ x, B = some x → lo ≤ x.block ∧ x.block < U
/-- the row of the groups so far -/
structure WR (lo U : Nat) (W : World) (v : Value) (hs : List Hdr) (L : List (List Prt)) : Prop where
  row : W.ownsRow (U + 1) 26 1 v hs.length (hs.flatMap Enc.cells)
  rd : Rd2 W hs L
  at_ : ∀ x ∈ hs, 0 < x.n → ∀ a, x.a = some a → lo ≤ a.block ∧ a.block < W.heap.size ∧ v.ownBlock ≠ some a.block
section
variable {w : World} {g lo : Nat} {A : Option Addr} {n cap : Nat} {bs : List By} {U : Nat} {B : Option Addr} {m c : Nat} {xs : List Cls} {p : Nat} {W W' : World} {v v' : Value} {hs : List Hdr} {L : List (List Prt)}
theorem WB.gx (h : WB w g lo A n cap bs U B m c xs p W) {p' : Nat} (hg : Gx g W W') (R : Rd W' g p' A n cap bs) : WB w g lo A n cap bs U B m c xs p' W' := by
  have e1 := h.h1; have e2 := h.h2; have e3 := h.h3; have e4 := h.z
  exact ⟨(hg.cell (by omega) (by omega)).trans h.c0, (hg.frozen (by omega) (by omega)).trans h.f0, (hg.cell h.z (by omega)).trans h.ct, h.S.gx (fun hm x e => by have := h.hB hm x e; omega) hg, R, Gx.le h.L0 hg (by omega), Nat.lt_of_lt_of_le h.z hg.size, h.h1, h.h2, h.h3, h.hm, h.hA, h.hB⟩
theorem WB.le (h : WB w g lo A n cap bs U B m c xs p W) (hl : Le W W') : WB w g lo A n cap bs U B m c xs p W' := h.gx (Gx.of_le hl) (h.R.le hl)
theorem WB.grown (h : WB w g lo A n cap bs U B m c xs p W) {r : Option Nat} (hg : W.grownBy W' r) (hr : ∀ k, r = some k → U < k) : WB w g lo A n cap bs U B m c xs p W' := by
  have e1 := h.h1; have e2 := h.h2; have e3 := h.h3; have e4 := h.z
  have hb : ∀ k, k ≤ U → W'.heap[k]? = W.heap[k]? := fun k hk => hg.block k (by omega) (fun e => by have := hr k e.symm; omega)
  refine ⟨(World.cell?_of_block (hb _ (by show w.heap.size ≤ U; omega))).trans h.c0, (World.frozen?_of_block (hb _ (by show w.heap.size ≤ U; omega))).trans h.f0, (World.cell?_of_block (hb _ (Nat.le_refl _))).trans h.ct, h.S.grown hg (fun hm x e e2 => by have := h.hB hm x e; have := hr _ e2.symm; omega), h.R.grown hg (fun e => by have := hr _ e; omega) (fun hn a e e2 => by have := h.hA hn a e; have := hr _ e2; omega), ?_, Nat.lt_of_lt_of_le h.z hg.size, h.h1, h.h2, h.h3, h.hm, h.hA, h.hB⟩
  have hl := h.L0
  exact ⟨hg.os.trans hl.os, hg.tape.trans hl.tape, hg.output.trans hl.output, Nat.le_trans hl.size hg.size, fun i hi => (hb i (by omega)).trans (Below.block hl i hi)⟩
theorem WR.kept (h : WR lo U W v hs L) {r : Option Nat} (hg : W.grownBy W' r) (hr : ∀ k, r = some k → k < lo ∨ W.heap.size ≤ k) (hlo : lo ≤ U) : WR lo U W' v hs L :=
  ⟨h.row.kept hg (by
    cases e : v.ownBlock with
    | none => exact .inl rfl
    | some q => refine .inr fun e2 => ?_; have := h.row.lt q e; have := hr q e2.symm; omega), ⟨h.rd.len, fun i x l e f => (h.rd.each i x l e f).grown hg (fun hn a e2 e3 => by have := h.at_ x (List.mem_of_getElem? e) hn a e2; have := hr _ e3.symm; omega)⟩, fun x hx hn a e => by have := h.at_ x hx hn a e; exact ⟨this.1, Nat.lt_of_lt_of_le this.2.1 hg.size, this.2.2⟩⟩
theorem WR.snoc (h : WR lo U W v hs L) {x : Hdr} {l : List Prt} {k : Nat} (hx : Sl W x.a x.n x.c l) (hb : 0 < x.n → ∀ a, x.a = some a → lo ≤ a.block ∧ a.block < W.heap.size ∧ v.ownBlock ≠ some a.block)
    (row : W'.ownsRow (U + 1) 26 1 v' (hs ++ [x]).length ((hs ++ [x]).flatMap Enc.cells)) (hg : W.grownBy W' v.ownBlock) (hat : v'.ownBlock = v.ownBlock ∨ v'.ownBlock = some k) (hk : W.heap.size ≤ k) : WR lo U W' v' (hs ++ [x]) (L ++ [l]) := by
  have hall : ∀ y ∈ hs ++ [x], 0 < y.n → ∀ a, y.a = some a → lo ≤ a.block ∧ a.block < W.heap.size ∧ v.ownBlock ≠ some a.block := fun y hy => by
    rcases List.mem_append.1 hy with h1 | h1
    · exact h.at_ y h1
    · rw [List.mem_singleton.1 h1]; exact hb
  refine ⟨row, ⟨by simp [h.rd.len], fun i y l' e f => ?_⟩, fun y hy hn a e => ?_⟩
  · have hlen := h.rd.len
    have hi := (List.getElem?_eq_some_iff.1 e).1
    have hy := hall y (List.mem_of_getElem? e)
    have hsl : Sl W y.a y.n y.c l' := by
      by_cases hlt : i < hs.length
      · rw [List.getElem?_append_left hlt] at e
        rw [List.getElem?_append_left (by omega)] at f
        exact h.rd.each i y l' e f
      · have : i = hs.length := by simp at hi; omega
        subst this
        rw [List.getElem?_append_right (Nat.le_refl _), Nat.sub_self] at e
        rw [List.getElem?_append_right (by omega), show hs.length - L.length = 0 by omega] at f
        injection e with e; injection f with f
        subst e; subst f; exact hx
    exact hsl.grown hg (fun hn a e2 e3 => (hy hn a e2).2.2 e3.symm)
  · have h1 := hall y hy hn a e
    refine ⟨h1.1, Nat.lt_of_lt_of_le h1.2.1 hg.size, ?_⟩
    rcases hat with h2 | h2
    · rw [h2]; exact h1.2.2
    · rw [h2]; intro e2; injection e2 with e2; omega
end
def DrawnGW (w : World) (e : Ending) (w' : World) : Prop := ∃ (B D : Option Addr) (m c q d : Nat) (xs : List Cls) (hs : List Hdr) (L : List (List Prt)) (a : Int), e = .returned (.tuple #[.agg #[.slice B m c], .slice D q d, .int .i64 a]) ∧ Sl w' B m c xs ∧ m ≤ 8 ∧ Sl w' D q d hs ∧ Rd2 w' hs L ∧ q ≤ 8 ∧ -1 ≤ a ∧ a ≤ 100 ∧ Le w w'
theorem own_oneH (w : World) (h : Hdr) {b : Nat} (hb : b ≤ w.heap.size) : (w.alloc (.cells #[.slice h.a h.n h.c] 26)).ownsRow b 26 1 (.slice (some ⟨w.heap.size, 0, none⟩) 1 1) 1 (([h] : List Hdr).flatMap Enc.cells) :=
  World.ownsRow_lit (base := b) (e := 26) (size := 1) w #[.slice h.a h.n h.c] 1 hb (by decide) (by simp)
set_option maxHeartbeats 4000000 in
set_option maxRecDepth 100000 in
theorem drawWrapGroup_any (A : Option Addr) (n cap : Nat) (bs : List By) (w : World) (hR : Sl w A n cap bs) : Calls Try.prog 24 #[.slice A n cap] w (DrawnGW w) := by
  go_enter Try.func24, Try.ntmps24
  go_wp2_with fail
  obtain ⟨c0, z0, L0⟩ := box1 w (.slice none 0 0) 25
  have S0 := hR.le L0
  have zW := z0
  have f0 : (w.alloc (.cells #[.slice none 0 0] 25)).frozen? ⟨w.heap.size, 0, none⟩ = false := World.frozen?_alloc_at _ _ _ _ rfl
  generalize w.alloc (.cells #[.slice none 0 0] 25) = W at *
  refine (newReader_any A n cap bs W S0).mono ?_
  rintro e w1 ⟨g, A1, n1, k1, bs1, rfl, hg, R1, hle⟩
  replace c0 := (hle.cell z0).trans c0
  replace f0 := (hle.frozen z0).trans f0
  replace z0 := Nat.lt_of_lt_of_le z0 hle.size
  replace L0 := L0.trans hle
  have hs1 := hle.size
  clear S0 hle
  have hgz : w.heap.size ≠ g := by omega
  have hg1 := R1.lt
  have hA1 : 0 < n1 → ∀ a, A1 = some a → a.block < w1.heap.size := fun h a e => R1.sl.under h a e
  go_wp2_with fail
  refine (someGroup_any g 0 A1 n1 k1 bs1 w1 (by omega) R1).mono ?_
  rintro e w2 ⟨B, D, m, c, q, d, xs, L, p2, rfl, S2, hm, T2, hq, hL, hab, hD, hp2, R2, hg2⟩
  have s2 := hg2.size
  replace c0 := (hg2.cell z0 hgz).trans c0
  replace f0 := (hg2.frozen z0 hgz).trans f0
  have L2 := Gx.le L0 hg2 (by omega)
  have hBu : 0 < m → ∀ x, B = some x → x.block < w2.heap.size := fun h x e => S2.under h x e
  have hDu : 0 < q → ∀ x, D = some x → x.block < w2.heap.size := fun h x e => T2.under h x e
  obtain ⟨ct, zt, LB⟩ := box1 w2 (.slice B m c) 25
  have Q : WB w g w1.heap.size A1 n1 k1 bs1 w2.heap.size B m c xs p2 (w2.alloc (.cells #[.slice B m c] 25)) :=
    ⟨(LB.cell (by omega)).trans c0, (LB.frozen (by omega)).trans f0, ct, S2.le LB, R2.le LB, L2.trans LB, zt, by omega, hg1, s2, hm, hA1, fun h x e => ⟨by have := hab h x e; omega, hBu h x e⟩⟩
  have T3 := T2.le LB
  clear L0 hg2 R1 S2 T2 R2 c0 f0 ct LB L2
  have hs3 : (w2.alloc (.cells #[.slice B m c] 25)).heap.size = w2.heap.size + 1 := by simp
  have HS3 := Lib.hid hs3
  clear hs3
  go_wp2_with fail
  generalize w2.alloc (.cells #[.slice B m c] 25) = W2 at *
  have O1 := own_oneH W2 ⟨D, q, d⟩ (b := w2.heap.size + 1) (by have := HS3.out; omega)
  have LN := Le.new W2 (.cells #[.slice D q d] 26)
  have HS4 : Hid ((W2.alloc (.cells #[.slice D q d] 26)).heap.size = w2.heap.size + 2) := by show _ = _; have := HS3.out; simp; omega
  have Q1 := Q.le LN
  have X1 : WR w1.heap.size w2.heap.size (W2.alloc (.cells #[.slice D q d] 26)) (.slice (some ⟨w2.heap.size + 1, 0, none⟩) 1 1) [⟨D, q, d⟩] [L] := by
    rw [← HS3.out]
    exact ⟨O1, ⟨rfl, fun i x l e f => (by
      have h0 : i = 0 := by have := (List.getElem?_eq_some_iff.1 e).1; simp at this; exact this
      subst h0
      simp only [List.getElem?_cons_zero, Option.some.injEq] at e f
      subst e; subst f
      exact T3.le LN)⟩, fun x hx hn a e => (by
      rw [List.mem_singleton.1 hx] at hn e
      have h1 := hD hn a e
      have h2 := hDu hn a e
      have h3 := HS4.out
      have h4 := HS3.out
      exact ⟨by omega, by omega, by simp [Value.ownBlock]; omega⟩)⟩
  clear O1 Q T3 hD hDu hBu hab
  generalize W2.alloc (.cells #[.slice D q d] 26) = W3 at *
  have R := Q1.R
  refine (pick_any 3 g p2 A1 n1 k1 bs1 W3 (by omega) (by omega) (by omega) R).mono ?_
  rintro e w4 ⟨kk, rfl, h0, h1, R4, hg4⟩
  obtain ⟨k, rfl⟩ := Int.eq_ofNat_of_zero_le h0
  have hk : k < 3 := by rcases h1 with h | h <;> omega
  have Q4 := Q1.gx hg4 R4
  have X4 := X1.kept hg4 (fun k e => by injection e with e; have := Q1.h2; omega) Q1.h3
  have hlo : w1.heap.size ≤ w2.heap.size := s2
  clear h0 h1 R hg4 Q1 X1 LN HS3 HS4 R4
  obtain ⟨i0, hi0, hz0, hzz1, hzz2⟩ := info_parts infoPartSl'
  go_wp2
  go_loopw [8, 9] (fun v i wr => ∃ (j pj : Nat) (hs : List Hdr) (Ls : List (List Prt)) (A' : Option Addr) (c' : Nat), j ≤ k ∧ i = .int .i64 j ∧ v = .slice A' hs.length c' ∧ hs.length + j ≤ 1 + k ∧ pj + j * 60 ≤ p2 + 1 + k * 60 ∧ WR w1.heap.size w2.heap.size wr v hs Ls ∧ WB w g w1.heap.size A1 n1 k1 bs1 w2.heap.size B m c xs pj wr) (fun _ i _ => (intOf i).toNat)
  case atStart => exact ⟨k, p2 + 1, [⟨D, q, d⟩], [L], some ⟨w2.heap.size + 1, 0, none⟩, 1, Nat.le_refl _, rfl, rfl, by simp, by omega, X4, Q4⟩
  case round =>
    obtain ⟨j, pj, hs, Ls, A', c', hj, rfl, rfl, hln, hpj, X, Q⟩ := hrel
    clear Q4 X4
    have ct := Q.ct
    have zt := Q.z
    have R := Q.R
    have hm := Q.hm
    by_cases hj0 : j = 0
    · have hjb : decide ((0 : Int) < (j : Int)) = false := decide_eq_false (by omega)
      go_wp2_with fail
      refine (pick_any 16 g pj A1 n1 k1 bs1 wr (by omega) (by omega) (by omega) R).mono ?_
      rintro e w9 ⟨t, rfl, h0, h1, R9, hg9⟩
      have Q9 := Q.gx hg9 R9
      have X9 := X.kept hg9 (fun k e => by injection e with e; have := Q.h2; omega) Q.h3
      clear Q X R hg9 R9 ct h0 h1
      have Q := Q9
      have X := X9
      clear Q9 X9
      by_cases t0 : t = 0
      · have b0 : (t == 0) = true := by rw [t0]; rfl
        have hsz : w2.heap.size + 1 ≤ w9.heap.size := Q.z
        have X0 : WR w1.heap.size w2.heap.size (w9.alloc (.cells #[] 26)) (.slice (some ⟨w9.heap.size, 0, none⟩) 0 0) [] [] := ⟨own_empty hsz rfl, ⟨rfl, fun i x l e f => by simp at e⟩, fun x hx => by simp at hx⟩
        have Q0 := Q.le (Le.new w9 (.cells #[] 26))
        clear X Q
        have Q := Q0
        have X := X0
        clear Q0 X0 hsz
        go_wp2_with fail
        generalize w9.alloc (.cells #[] 26) = V9 at *
        have Qd := (Q).le (Le.refl V9).drew
        have Xd := (X).kept (Gx.of_le (g := g) (Le.refl V9).drew) (fun k e => by injection e with e; have := Qd.h2; omega) Qd.h3
        have ctd : V9.drew.cell? ⟨w2.heap.size, 0, none⟩ = some (.slice B m c) := Qd.ct
        have cHL := fun o => (Qd.le (Le.new V9.drew o)).ct
        have Rdd := Qd.R
        clear Q X
        go_wp2_with fail
        go_region_held3 (fun w' => w'.cell? ⟨w2.heap.size, 0, none⟩ = some (.slice B m c))
          (first | exact ctd | exact cHL _ | exact ct6 | exact (cell_set_other (.inl (by omega))).trans ct6)
          (first | (go_at_call 57; refine (one_lit [1, 0, 99, 100] 4 _ _ g (pj + 1) A1 n1 k1 bs1 V9.drew _ rfl rfl (by decide) (by decide) (by intro x hx; simp at hx; constructor <;> omega) (by omega) rfl Rdd).mono ?_; rintro e w11 ⟨z, rfl, hz, R11, hg11⟩; have hz1 : -1 ≤ z ∧ z ≤ 100 := (by simp at hz; omega); have Q11 := Qd.gx hg11 R11; have ct6 := Q11.ct; have X11 := Xd.kept hg11 (fun k e => by injection e with e; have := Qd.h2; omega) Qd.h3; have c11 := Q11.c0; have f11 := Q11.f0; clear hz hg11))
        all_goals
          have hend : ∀ u, (w11.setCell ⟨w.heap.size, 0, none⟩ u).cell? ⟨w.heap.size, 0, none⟩ = some u := fun u => cell_set_same c11
          have hw1 := Q11.h1
          have hw2 := Q11.h2
          have hw3 := Q11.h3
          have hSx : ∀ u, Sl (w11.setCell ⟨w.heap.size, 0, none⟩ u) B m c xs := fun u => Q11.S.gx (fun h a e => by have := Q11.hB h a e; omega) (Gx.set w.heap.size 0 w11 u)
          have hXx : ∀ u, WR w1.heap.size w2.heap.size (w11.setCell ⟨w.heap.size, 0, none⟩ u) (.slice (some ⟨w9.heap.size, 0, none⟩) 0 (0)) ([]) ([]) := fun u => X11.kept (Gx.set w.heap.size 0 w11 u) (fun k e => by injection e with e; omega) hw3
          have hSy : ∀ u, Sl (w11.setCell ⟨w.heap.size, 0, none⟩ u) (some ⟨w9.heap.size, 0, none⟩) 0 (0) ([]) := fun u => Sl.of_own (hXx u).row rfl (by decide) (fun _ _ => trivial)
          have LL := Q11.L0
          clear Qd Xd ctd cHL Rdd ct6 R11 Q11 X11
          go_wp2
          exact bodyPost_ret (v := .tuple #[.agg #[.slice B m c], .slice (some ⟨w9.heap.size, 0, none⟩) 0 (0), .int .i64 z]) (by simp [results, Try.results24, go_sem, hend] <;> omega) rfl ⟨B, _, m, c, _, _, xs, [], [], z, rfl, hSx _, hm, hSy _, (hXx _).rd, by first | omega | (simp; done), hz1.1, hz1.2, LL.setCell (Nat.le_refl _) _⟩
      · have b0 : (t == 0) = false := by rw [beq_eq_false_iff_ne]; exact t0
        have Qd := (Q).le (Le.refl w9).drew
        have Xd := (X).kept (Gx.of_le (g := g) (Le.refl w9).drew) (fun k e => by injection e with e; have := Qd.h2; omega) Qd.h3
        have ctd : w9.drew.cell? ⟨w2.heap.size, 0, none⟩ = some (.slice B m c) := Qd.ct
        have cHL := fun o => (Qd.le (Le.new w9.drew o)).ct
        have Rdd := Qd.R
        clear Q X
        go_wp2_with fail
        go_region_held3 (fun w' => w'.cell? ⟨w2.heap.size, 0, none⟩ = some (.slice B m c))
          (first | exact ctd | exact cHL _ | exact ct6 | exact (cell_set_other (.inl (by omega))).trans ct6)
          (first | (go_at_call 57; refine (one_lit [1, 0, 99, 100] 4 _ _ g (pj + 1) A1 n1 k1 bs1 w9.drew _ rfl rfl (by decide) (by decide) (by intro x hx; simp at hx; constructor <;> omega) (by omega) rfl Rdd).mono ?_; rintro e w11 ⟨z, rfl, hz, R11, hg11⟩; have hz1 : -1 ≤ z ∧ z ≤ 100 := (by simp at hz; omega); have Q11 := Qd.gx hg11 R11; have ct6 := Q11.ct; have X11 := Xd.kept hg11 (fun k e => by injection e with e; have := Qd.h2; omega) Qd.h3; have c11 := Q11.c0; have f11 := Q11.f0; clear hz hg11))
        all_goals
          have hend : ∀ u, (w11.setCell ⟨w.heap.size, 0, none⟩ u).cell? ⟨w.heap.size, 0, none⟩ = some u := fun u => cell_set_same c11
          have hw1 := Q11.h1
          have hw2 := Q11.h2
          have hw3 := Q11.h3
          have hSx : ∀ u, Sl (w11.setCell ⟨w.heap.size, 0, none⟩ u) B m c xs := fun u => Q11.S.gx (fun h a e => by have := Q11.hB h a e; omega) (Gx.set w.heap.size 0 w11 u)
          have hXx : ∀ u, WR w1.heap.size w2.heap.size (w11.setCell ⟨w.heap.size, 0, none⟩ u) (.slice (A') hs.length (c')) (hs) (Ls) := fun u => X11.kept (Gx.set w.heap.size 0 w11 u) (fun k e => by injection e with e; omega) hw3
          have hSy : ∀ u, Sl (w11.setCell ⟨w.heap.size, 0, none⟩ u) (A') hs.length (c') (hs) := fun u => Sl.of_own (hXx u).row rfl (by decide) (fun _ _ => trivial)
          have LL := Q11.L0
          clear Qd Xd ctd cHL Rdd ct6 R11 Q11 X11
          go_wp2
          exact bodyPost_ret (v := .tuple #[.agg #[.slice B m c], .slice (A') hs.length (c'), .int .i64 z]) (by simp [results, Try.results24, go_sem, hend] <;> omega) rfl ⟨B, _, m, c, _, _, xs, hs, Ls, z, rfl, hSx _, hm, hSy _, (hXx _).rd, by first | omega | (simp; done), hz1.1, hz1.2, LL.setCell (Nat.le_refl _) _⟩
    have hjb : decide ((0 : Int) < (j : Int)) = true := decide_eq_true (by omega)
    by_cases hm0 : m = 0
    · have hmb : decide ((0 : Int) < (m : Int)) = false := decide_eq_false (by omega)
      go_wp2_with fail
      refine (pick_any 16 g pj A1 n1 k1 bs1 wr (by omega) (by omega) (by omega) R).mono ?_
      rintro e w9 ⟨t, rfl, h0, h1, R9, hg9⟩
      have Q9 := Q.gx hg9 R9
      have X9 := X.kept hg9 (fun k e => by injection e with e; have := Q.h2; omega) Q.h3
      clear Q X R hg9 R9 ct h0 h1
      have Q := Q9
      have X := X9
      clear Q9 X9
      by_cases t0 : t = 0
      · have b0 : (t == 0) = true := by rw [t0]; rfl
        have hsz : w2.heap.size + 1 ≤ w9.heap.size := Q.z
        have X0 : WR w1.heap.size w2.heap.size (w9.alloc (.cells #[] 26)) (.slice (some ⟨w9.heap.size, 0, none⟩) 0 0) [] [] := ⟨own_empty hsz rfl, ⟨rfl, fun i x l e f => by simp at e⟩, fun x hx => by simp at hx⟩
        have Q0 := Q.le (Le.new w9 (.cells #[] 26))
        clear X Q
        have Q := Q0
        have X := X0
        clear Q0 X0 hsz
        go_wp2_with fail
        generalize w9.alloc (.cells #[] 26) = V9 at *
        have Qd := (Q).le (Le.refl V9).drew
        have Xd := (X).kept (Gx.of_le (g := g) (Le.refl V9).drew) (fun k e => by injection e with e; have := Qd.h2; omega) Qd.h3
        have ctd : V9.drew.cell? ⟨w2.heap.size, 0, none⟩ = some (.slice B m c) := Qd.ct
        have cHL := fun o => (Qd.le (Le.new V9.drew o)).ct
        have Rdd := Qd.R
        clear Q X
        go_wp2_with fail
        go_region_held3 (fun w' => w'.cell? ⟨w2.heap.size, 0, none⟩ = some (.slice B m c))
          (first | exact ctd | exact cHL _ | exact ct6 | exact (cell_set_other (.inl (by omega))).trans ct6)
          (first | (go_at_call 57; refine (one_lit [1, 0, 99, 100] 4 _ _ g (pj + 1) A1 n1 k1 bs1 V9.drew _ rfl rfl (by decide) (by decide) (by intro x hx; simp at hx; constructor <;> omega) (by omega) rfl Rdd).mono ?_; rintro e w11 ⟨z, rfl, hz, R11, hg11⟩; have hz1 : -1 ≤ z ∧ z ≤ 100 := (by simp at hz; omega); have Q11 := Qd.gx hg11 R11; have ct6 := Q11.ct; have X11 := Xd.kept hg11 (fun k e => by injection e with e; have := Qd.h2; omega) Qd.h3; have c11 := Q11.c0; have f11 := Q11.f0; clear hz hg11))
        all_goals
          have hend : ∀ u, (w11.setCell ⟨w.heap.size, 0, none⟩ u).cell? ⟨w.heap.size, 0, none⟩ = some u := fun u => cell_set_same c11
          have hw1 := Q11.h1
          have hw2 := Q11.h2
          have hw3 := Q11.h3
          have hSx : ∀ u, Sl (w11.setCell ⟨w.heap.size, 0, none⟩ u) B m c xs := fun u => Q11.S.gx (fun h a e => by have := Q11.hB h a e; omega) (Gx.set w.heap.size 0 w11 u)
          have hXx : ∀ u, WR w1.heap.size w2.heap.size (w11.setCell ⟨w.heap.size, 0, none⟩ u) (.slice (some ⟨w9.heap.size, 0, none⟩) 0 (0)) ([]) ([]) := fun u => X11.kept (Gx.set w.heap.size 0 w11 u) (fun k e => by injection e with e; omega) hw3
          have hSy : ∀ u, Sl (w11.setCell ⟨w.heap.size, 0, none⟩ u) (some ⟨w9.heap.size, 0, none⟩) 0 (0) ([]) := fun u => Sl.of_own (hXx u).row rfl (by decide) (fun _ _ => trivial)
          have LL := Q11.L0
          clear Qd Xd ctd cHL Rdd ct6 R11 Q11 X11
          go_wp2
          exact bodyPost_ret (v := .tuple #[.agg #[.slice B m c], .slice (some ⟨w9.heap.size, 0, none⟩) 0 (0), .int .i64 z]) (by simp [results, Try.results24, go_sem, hend] <;> omega) rfl ⟨B, _, m, c, _, _, xs, [], [], z, rfl, hSx _, hm, hSy _, (hXx _).rd, by first | omega | (simp; done), hz1.1, hz1.2, LL.setCell (Nat.le_refl _) _⟩
      · have b0 : (t == 0) = false := by rw [beq_eq_false_iff_ne]; exact t0
        have Qd := (Q).le (Le.refl w9).drew
        have Xd := (X).kept (Gx.of_le (g := g) (Le.refl w9).drew) (fun k e => by injection e with e; have := Qd.h2; omega) Qd.h3
        have ctd : w9.drew.cell? ⟨w2.heap.size, 0, none⟩ = some (.slice B m c) := Qd.ct
        have cHL := fun o => (Qd.le (Le.new w9.drew o)).ct
        have Rdd := Qd.R
        clear Q X
        go_wp2_with fail
        go_region_held3 (fun w' => w'.cell? ⟨w2.heap.size, 0, none⟩ = some (.slice B m c))
          (first | exact ctd | exact cHL _ | exact ct6 | exact (cell_set_other (.inl (by omega))).trans ct6)
          (first | (go_at_call 57; refine (one_lit [1, 0, 99, 100] 4 _ _ g (pj + 1) A1 n1 k1 bs1 w9.drew _ rfl rfl (by decide) (by decide) (by intro x hx; simp at hx; constructor <;> omega) (by omega) rfl Rdd).mono ?_; rintro e w11 ⟨z, rfl, hz, R11, hg11⟩; have hz1 : -1 ≤ z ∧ z ≤ 100 := (by simp at hz; omega); have Q11 := Qd.gx hg11 R11; have ct6 := Q11.ct; have X11 := Xd.kept hg11 (fun k e => by injection e with e; have := Qd.h2; omega) Qd.h3; have c11 := Q11.c0; have f11 := Q11.f0; clear hz hg11))
        all_goals
          have hend : ∀ u, (w11.setCell ⟨w.heap.size, 0, none⟩ u).cell? ⟨w.heap.size, 0, none⟩ = some u := fun u => cell_set_same c11
          have hw1 := Q11.h1
          have hw2 := Q11.h2
          have hw3 := Q11.h3
          have hSx : ∀ u, Sl (w11.setCell ⟨w.heap.size, 0, none⟩ u) B m c xs := fun u => Q11.S.gx (fun h a e => by have := Q11.hB h a e; omega) (Gx.set w.heap.size 0 w11 u)
          have hXx : ∀ u, WR w1.heap.size w2.heap.size (w11.setCell ⟨w.heap.size, 0, none⟩ u) (.slice (A') hs.length (c')) (hs) (Ls) := fun u => X11.kept (Gx.set w.heap.size 0 w11 u) (fun k e => by injection e with e; omega) hw3
          have hSy : ∀ u, Sl (w11.setCell ⟨w.heap.size, 0, none⟩ u) (A') hs.length (c') (hs) := fun u => Sl.of_own (hXx u).row rfl (by decide) (fun _ _ => trivial)
          have LL := Q11.L0
          clear Qd Xd ctd cHL Rdd ct6 R11 Q11 X11
          go_wp2
          exact bodyPost_ret (v := .tuple #[.agg #[.slice B m c], .slice (A') hs.length (c'), .int .i64 z]) (by simp [results, Try.results24, go_sem, hend] <;> omega) rfl ⟨B, _, m, c, _, _, xs, hs, Ls, z, rfl, hSx _, hm, hSy _, (hXx _).rd, by first | omega | (simp; done), hz1.1, hz1.2, LL.setCell (Nat.le_refl _) _⟩
    have hmb : decide ((0 : Int) < (m : Int)) = true := decide_eq_true (by omega)
    go_wp2_with fail
    refine (goodGroup_any B m c g A1 n1 k1 bs1 hm 1 2 (by omega) (by omega) (by omega) pj wr (by rw [show pkG 1 = 18 from rfl]; omega) R).mono ?_
    rintro e w5 ⟨v5, g5, p5, rfl, O5, hP5, hl15, hl25, hp5, R5, hg5⟩
    rw [show lenG 1 = 4 from rfl] at hl25
    rw [show pkG 1 = 18 from rfl] at hp5
    obtain ⟨A5, c5, rfl⟩ := own_form O5
    have S5 := Sl.of_own O5 rfl (by decide) (ptB_ok hP5)
    have s5 : w2.heap.size < w5.heap.size := Nat.lt_of_lt_of_le zt hg5.size
    have Q5 := Q.gx hg5 R5
    have X5 := X.kept hg5 (fun k e => by injection e with e; have := Q.h2; omega) Q.h3
    clear Q X R hg5 R5 ct O5
    go_wp2_with fail
    refine (deeper_any A5 _ c5 g5 (-2) w5 S5 (by omega) (fun x hx => by have := hP5 x hx; exact ⟨by have := this.1; omega, by have := this.2.1; omega⟩) (by omega)).mono ?_
    rintro e w6 ⟨v6, rfl, D6, hle⟩
    obtain ⟨A6, c6, rfl, S6, hB6⟩ := D6.form (by decide)
    have Q6 := Q5.le hle
    have X6 := X5.kept (Gx.of_le (g := g) hle) (fun k e => by injection e with e; have := Q5.h2; omega) Q5.h3
    have hob : ∀ q, (Value.slice A' hs.length c').ownBlock = some q → q < w5.heap.size := fun q e => (X5.row.lt q e).2
    clear D6 Q5 X5 S5 hP5
    have LN := Le.new w6 (.cells #[.slice A6 (shiftL g5 (-2)).length c6] 26)
    have Q7 := Q6.le LN
    have X7 := X6.kept (Gx.of_le (g := g) LN) (fun k e => by injection e with e; have := Q6.h2; omega) Q6.h3
    have S7 := S6.le LN
    have sz7 : w2.heap.size + 1 ≤ (w6.alloc (.cells #[.slice A6 (shiftL g5 (-2)).length c6] 26)).heap.size := Q7.z
    have hbb : 0 < (shiftL g5 (-2)).length → ∀ a, A6 = some a → w1.heap.size ≤ a.block ∧ a.block < (w6.alloc (.cells #[.slice A6 (shiftL g5 (-2)).length c6] 26)).heap.size ∧ (Value.slice A' hs.length c').ownBlock ≠ some a.block := fun hn a e => by
      subst e
      obtain ⟨q1, q2⟩ := hB6 a.block (by simp [Value.ownBlock])
      have := LN.size
      have := Q6.h3
      have h5 := Q7.h3
      exact ⟨by have := s5; omega, by omega, fun e2 => by have := hob _ e2; omega⟩
    clear Q6 X6 S6 hB6
    have HX7 := Lib.hid X7
    have HQ7 := Lib.hid Q7
    have HS7 := Lib.hid S7
    have HBB := Lib.hid hbb
    have O7 := X7.row
    clear X7 Q7 S7 hbb hob LN
    go_wp2_with (first | (at_builtin; refine wpList_append_sl rfl _ _ 44 rfl (w2.heap.size + 1) 26 i0 _ 24 Try.underlying44 hi0 hz0 hzz1 hzz2 rfl (.slice A' hs.length c') hs.length hs rfl O7 _ 1 1 [(⟨A6, (shiftL g5 (-2)).length, c6⟩ : Hdr)] rfl (sl_one (⟨A6, (shiftL g5 (-2)).length, c6⟩ : Hdr) rfl trivial rfl) (by unfold maxLen; omega) (by omega) sz7 ?_; intro v8 w8 O8 hg8 hat8))
    have Q8 := HQ7.out.grown hg8 (fun k e => by have := (O7.lt k e).1; omega)
    have X8 := HX7.out.snoc (l := shiftL g5 (-2)) HS7.out HBB.out (by rw [List.length_append]; exact O8) hg8 hat8 (Nat.le_refl _)
    have e8 : (hs ++ [(⟨A6, (shiftL g5 (-2)).length, c6⟩ : Hdr)]).length = hs.length + 1 := by simp
    clear O7 hg8 hat8 HX7 HQ7 HS7 HBB
    generalize hs ++ [(⟨A6, (shiftL g5 (-2)).length, c6⟩ : Hdr)] = hs8 at *
    obtain ⟨A8, c8, rfl⟩ := own_form X8.row
    have HE8 := Lib.hid e8
    clear e8 O8
    obtain ⟨j', rfl⟩ : ∃ j', j = j' + 1 := ⟨j - 1, by omega⟩
    go_roundw
    case rel => exact ⟨j', p5, hs8, _, A8, c8, by omega, by go_num, rfl, by have := HE8.out; omega, by omega, X8, Q8⟩
    case measure => simp [intOf]
end Go.Proofs.Ytkpnajffeclmdaa
