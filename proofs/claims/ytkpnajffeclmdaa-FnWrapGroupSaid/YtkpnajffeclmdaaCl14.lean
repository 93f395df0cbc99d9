/- one text of DrS, DrW -/
import Derived.Test.YtkpnajffeclmdaaCl11
import Derived.Test.YtkpnajffeclmdaaCl13
namespace Go.Proofs.Ytkpnajffeclmdaa
open Go.RowKit
set_option linter.unusedVariables false
section
/-- what the parts of a drawn list keep to -/
def PtW (q : Prt) : Prop := -100 ≤ q.depth ∧ q.depth ≤ 100 ∧ -100 ≤ q.cls ∧ q.cls ≤ 100 ∧ -100 ≤ q.code ∧ q.code ≤ 100
theorem PtB.w {q : Prt} (h : PtB q) : PtW q := by obtain ⟨h1, h2, h3, h4, h5, h6⟩ := h; exact ⟨by omega, by omega, by omega, by omega, by omega, by omega⟩
theorem ptW_ok {L : List Prt} (h : ∀ q ∈ L, PtW q) : ∀ q ∈ L, Enc.ok q := fun q hq => by
  obtain ⟨h1, h2, h3, h4, h5, h6⟩ := h q hq
  exact ⟨by omega, by omega, by omega, by omega, by omega, by omega⟩
theorem ptW_set {L : List Prt} (h : ∀ q ∈ L, PtW q) {k : Nat} {x : Prt} (hx : PtW x) : ∀ q ∈ L.set k x, PtW q := fun q hq => by
  rcases List.mem_or_eq_of_mem_set hq with h2 | h2
  · exact h q h2
  · rw [h2]; exact hx
theorem ptW_shift {L : List Prt} (h : ∀ q ∈ L, PtB q) : ∀ q ∈ shiftL L (-2), PtW q := fun q hq => by
  obtain ⟨p, hp, rfl⟩ := List.mem_map.1 hq
  obtain ⟨h1, h2, h3, h4, h5, h6⟩ := h p hp
  exact ⟨by show -100 ≤ p.depth + -2; omega, by show p.depth + -2 ≤ 100; omega, by show -100 ≤ p.cls; omega, by show p.cls ≤ 100; omega, by show -100 ≤ p.code; omega, by show p.code ≤ 100; omega⟩
/-- the memory of a draw: the reader at block g, the tree boxed at block U, rows of the draw's own beyond it -/
structure SG (w : World) (g : Nat) (A : Option Addr) (n cap : Nat) (bs : List By) (U : Nat) (B : Option Addr) (m c : Nat) (xs : List Cls) (p : Nat) (W : World) : Prop where
  c0 : W.cell? ⟨w.heap.size, 0, none⟩ = some (.slice none 0 0)
  f0 : W.frozen? ⟨w.heap.size, 0, none⟩ = false
  ct : W.cell? ⟨U, 0, none⟩ = some (.slice B m c)
  S : Sl W B m c xs
  R : Rd W g p A n cap bs
  G : Gx g w W
  z : U < W.heap.size
  hg : g < w.heap.size
  hU : w.heap.size < U
  hm : m ≤ 8
  hA : 0 < n → ∀ a, A = some a → a.block < w.heap.size
  hB : 0 < m → ∀ x, B = some x → w.heap.size < x.block ∧ x.block < U
section
variable {w : World} {g : Nat} {A : Option Addr} {n cap : Nat} {bs : List By} {U : Nat} {B : Option Addr} {m c : Nat} {xs : List Cls} {p : Nat} {W : World}
theorem SG.gx (h : SG w g A n cap bs U B m c xs p W) {p' : Nat} {W' : World} (hg : Gx g W W') (R : Rd W' g p' A n cap bs) : SG w g A n cap bs U B m c xs p' W' :=
  ⟨(hg.cell (by have := h.hU; have := h.z; omega) (by have := h.hg; omega)).trans h.c0, (hg.frozen (by have := h.hU; have := h.z; omega) (by have := h.hg; omega)).trans h.f0, (hg.cell h.z (by have := h.hg; have := h.hU; omega)).trans h.ct, h.S.gx (fun hm x e => by have := h.hB hm x e; have := h.hg; omega) hg, R, h.G.trans hg, Nat.lt_of_lt_of_le h.z hg.size, h.hg, h.hU, h.hm, h.hA, h.hB⟩
theorem SG.le (h : SG w g A n cap bs U B m c xs p W) {W' : World} (hl : Le W W') : SG w g A n cap bs U B m c xs p W' := h.gx (Gx.of_le hl) (h.R.le hl)
theorem SG.set (h : SG w g A n cap bs U B m c xs p W) {b o : Nat} (hb : U + 1 ≤ b) (u : Value) : SG w g A n cap bs U B m c xs p (W.setCell ⟨b, o, none⟩ u) := by
  have hu := h.hU
  have hg := h.hg
  have hz := h.z
  exact ⟨(cell_set_other (.inl (by omega))).trans h.c0, (World.frozen?_setCell ..).trans h.f0, (cell_set_other (.inl (by omega))).trans h.ct, h.S.gx (fun hm x e => by have := h.hB hm x e; omega) (Gx.set b o W u), h.R.setNew u (by omega) (fun hn a e => by have := h.hA hn a e; omega), h.G.setNew (by omega) u, by simpa [World.setCell] using hz, hg, hu, h.hm, h.hA, h.hB⟩
end
/-- a tree, and parts that were drawn -/
def GrpDrawn (k g p : Nat) (A : Option Addr) (n cap : Nat) (bs : List By) (w : World) (e : Ending) (w' : World) : Prop :=
  ∃ (B D : Option Addr) (m c q d : Nat) (xs : List Cls) (L : List Prt) (p' : Nat), e = .returned (.tuple #[.agg #[.slice B m c], .slice D q d]) ∧ Sl w' B m c xs ∧ m ≤ 8 ∧ Sl w' D q d L ∧ q ≤ 40 ∧ (∀ x ∈ L, PtW x) ∧ (0 < m → ∀ x, B = some x → w.heap.size < x.block) ∧ (0 < q → ∀ x, D = some x → w.heap.size < x.block) ∧ p' ≤ p + k ∧ Rd w' g p' A n cap bs ∧ Gx g w w'
theorem SG.done {w : World} {g : Nat} {A : Option Addr} {n cap : Nat} {bs : List By} {U : Nat} {B : Option Addr} {m c : Nat} {xs : List Cls} {p k p0 : Nat} {W : World} (h : SG w g A n cap bs U B m c xs p W) {gb n1 c1 : Nat} {L : List Prt}
    (O : W.ownsRow (U + 1) 57 4 (.slice (some ⟨gb, 0, none⟩) n1 c1) L.length (L.flatMap Enc.cells)) (hn : n1 = L.length) (hl : L.length ≤ 40) (hL : ∀ q ∈ L, PtW q) (hp : p ≤ p0 + k) (u : Value) :
    GrpDrawn k g p0 A n cap bs w (.returned (.tuple #[.agg #[.slice B m c], .slice (some ⟨gb, 0, none⟩) n1 c1])) (W.setCell ⟨w.heap.size, 0, none⟩ u) := by
  subst hn
  have hg := h.hg
  have hu := h.hU
  have S2 := Sl.of_own O rfl (by decide) (ptW_ok hL)
  have hbk : 0 < L.length → U + 1 ≤ gb := fun h0 => by
    rcases O.2 with ⟨e, h0'⟩ | ⟨gb', c', _, e, hgb, _⟩
    · omega
    · simp only [Value.slice.injEq, Option.some.injEq, Addr.mk.injEq] at e; omega
  exact ⟨B, _, m, c, L.length, c1, xs, L, p, rfl, h.S.gx (fun hm x e => by have := h.hB hm x e; omega) (Gx.set w.heap.size 0 W u), h.hm, S2.gx (fun hm x e => by have := hbk hm; injection e with e; subst e; show gb ≠ _; omega) (Gx.set w.heap.size 0 W u), hl, hL, fun hm x e => (h.hB hm x e).1, fun hq x e => by have := hbk hq; injection e with e; subst e; show _ < gb; omega, hp, h.R.setNew u (by omega) (fun hn a e => by have := h.hA hn a e; omega), h.G.setNew (Nat.le_refl _) u⟩
theorem putD {W : World} {base gb n c k : Nat} {T : TypeId} {L : List Prt} (O : W.ownsRow base T 4 (.slice (some ⟨gb, 0, none⟩) n c) n (L.flatMap Enc.cells)) (hk : k < L.length) (z : Int) : (W.setCell ⟨gb, k * 4, none⟩ (.int .i64 z)).ownsRow base T 4 (.slice (some ⟨gb, 0, none⟩) n c) n ((L.set k {L[k] with depth := z}).flatMap Enc.cells) := by
  have h1 := (O.stored (k * 4) (.int .i64 z)).1
  rw [flat_prt_depth _ k hk] at h1; exact h1
theorem putG {W : World} {base gb n c k : Nat} {T : TypeId} {L : List Prt} (O : W.ownsRow base T 4 (.slice (some ⟨gb, 0, none⟩) n c) n (L.flatMap Enc.cells)) (hk : k < L.length) (z : Bool) : (W.setCell ⟨gb, k * 4 + 1, none⟩ (.bool z)).ownsRow base T 4 (.slice (some ⟨gb, 0, none⟩) n c) n ((L.set k {L[k] with group := z}).flatMap Enc.cells) := by
  have h1 := (O.stored (k * 4 + 1) (.bool z)).1
  rw [flat_prt_group _ k hk] at h1; exact h1
theorem putC {W : World} {base gb n c k : Nat} {T : TypeId} {L : List Prt} (O : W.ownsRow base T 4 (.slice (some ⟨gb, 0, none⟩) n c) n (L.flatMap Enc.cells)) (hk : k < L.length) (z : Int) : (W.setCell ⟨gb, k * 4 + 2, none⟩ (.int .i64 z)).ownsRow base T 4 (.slice (some ⟨gb, 0, none⟩) n c) n ((L.set k {L[k] with cls := z}).flatMap Enc.cells) := by
  have h1 := (O.stored (k * 4 + 2) (.int .i64 z)).1
  rw [flat_prt_cls _ k hk] at h1; exact h1
theorem putE {W : World} {base gb n c k : Nat} {T : TypeId} {L : List Prt} (O : W.ownsRow base T 4 (.slice (some ⟨gb, 0, none⟩) n c) n (L.flatMap Enc.cells)) (hk : k < L.length) (z : Int) : (W.setCell ⟨gb, k * 4 + 3, none⟩ (.int .i64 z)).ownsRow base T 4 (.slice (some ⟨gb, 0, none⟩) n c) n ((L.set k {L[k] with code := z}).flatMap Enc.cells) := by
  have h1 := (O.stored (k * 4 + 3) (.int .i64 z)).1
  rw [flat_prt_code _ k hk] at h1; exact h1
theorem own_cellsP {W : World} {base gb n c k : Nat} {T : TypeId} {L : List Prt} (O : W.ownsRow base T 4 (.slice (some ⟨gb, 0, none⟩) n c) n (L.flatMap Enc.cells)) (hn : n = L.length) (hL : ∀ q ∈ L, PtW q) (hk : k < L.length) :
    W.cell? ⟨gb, k * 4, none⟩ = some (.int .i64 L[k].depth) ∧ W.cell? ⟨gb, k * 4 + 1, none⟩ = some (.bool L[k].group) ∧ W.cell? ⟨gb, k * 4 + 2, none⟩ = some (.int .i64 L[k].cls) ∧ W.cell? ⟨gb, k * 4 + 3, none⟩ = some (.int .i64 L[k].code) := by
  subst hn
  obtain ⟨b, off, e, _, h0, h1, h2, h3, _⟩ := (Sl.of_own O rfl (by decide) (ptW_ok hL)).prt_at hk
  injection e with e
  simp only [Addr.mk.injEq] at e
  obtain ⟨rfl, rfl, _⟩ := e
  simp only [Nat.zero_add] at h0 h1 h2 h3
  exact ⟨h0, h1, h2, h3⟩

theorem lenG_1 : lenG 1 = 4 := rfl
theorem pkG_1 : pkG 1 = 18 := rfl
set_option maxHeartbeats 4000000 in
set_option maxRecDepth 100000 in
theorem someGroup_any (g p : Nat) (A : Option Addr) (n cap : Nat) (bs : List By) (w : World) (hp : p ≤ 100) (hR : Rd w g p A n cap bs) :
    Calls Try.prog 47 #[.pointer (some ⟨g, 0, none⟩)] w (GrpDrawn 500 g p A n cap bs w) := by
  have hgw := hR.lt
  have hA : Hid (0 < n → ∀ a, A = some a → a.block < w.heap.size) := fun hn a e => hR.sl.under hn a e
  go_enter Try.func47, Try.ntmps47
  go_wp2_with fail
  obtain ⟨c0, z0, L0⟩ := box1 w (.slice none 0 0) 25
  have f0 : (w.alloc (.cells #[.slice none 0 0] 25)).frozen? ⟨w.heap.size, 0, none⟩ = false := World.frozen?_alloc_at _ _ _ _ rfl
  have R1 := hR.le L0
  have hs1 : Hid ((w.alloc (.cells #[.slice none 0 0] 25)).heap.size = w.heap.size + 1) := by show _ = _; simp
  generalize w.alloc (.cells #[.slice none 0 0] 25) = W at *
  have hgz : w.heap.size ≠ g := by omega
  refine (someTree_any g p A n cap bs W (by omega) R1).mono ?_
  rintro e w2 ⟨B, m, c, p2, xs, rfl, S2, hm, hoff, hab, hp2, R2, hg2⟩
  have s2 := hg2.size
  have hun : 0 < m → ∀ x, B = some x → x.block < w2.heap.size := fun h x e => S2.under h x e
  have hlx := S2.len
  replace c0 := (hg2.cell z0 hgz).trans c0
  replace f0 := (hg2.frozen z0 hgz).trans f0
  have G2 := (Gx.of_le (g := g) L0).trans hg2
  clear L0 hg2 hR R1
  obtain ⟨ct, zt, LB⟩ := box1 w2 (.slice B m c) 25
  have hs3 : Hid ((w2.alloc (.cells #[.slice B m c] 25)).heap.size = w2.heap.size + 1) := by show _ = _; simp
  have hU : w.heap.size < w2.heap.size := by omega
  have Q : SG w g A n cap bs w2.heap.size B m c xs p2 (w2.alloc (.cells #[.slice B m c] 25)) :=
    ⟨(LB.cell (by omega)).trans c0, (LB.frozen (by omega)).trans f0, ct, S2.le LB, R2.le LB, G2.trans (Gx.of_le LB), zt, hgw, hU, hm, hA, fun h x e => ⟨by have := hab h x e; have := hs1.out; omega, hun h x e⟩⟩
  clear c0 f0 ct LB S2 R2 G2 hab hoff hun z0 s2
  go_upto_region 2 with fail
  generalize w2.alloc (.cells #[.slice B m c] 25) = W2 at *
  by_cases hm0 : m = 0
  · have hmb : ((m : Int) == 0) = true := by rw [hm0]; rfl
    have ct := Q.ct
    have O0 := own_oneD W2 ⟨0, false, 0, 0⟩ (b := w2.heap.size + 1) (by have := hs3.out; omega)
    have Q0 := Q.le (Le.new W2 (.cells #[.int .i64 0, .bool false, .int .i64 0, .int .i64 0] 57))
    have c0 := Q0.c0
    have f0 := Q0.f0
    have hD := Lib.hid (fun u => Q0.done (k := 500) (p0 := p) (c1 := 1) (L := [⟨0, false, 0, 0⟩]) (n1 := 1) O0 rfl (by decide) (fun q hq => by rw [List.mem_singleton.1 hq]; exact ⟨by decide, by decide, by decide, by decide, by decide, by decide⟩) (by omega) u)
    clear Q Q0 O0
    go_wp2_with fail
    generalize W2.alloc (.cells #[.int .i64 0, .bool false, .int .i64 0, .int .i64 0] 57) = W3 at *
    have hend : ∀ u, (W3.setCell ⟨w.heap.size, 0, none⟩ u).cell? ⟨w.heap.size, 0, none⟩ = some u := fun u => cell_set_same c0
    go_wp2
    exact bodyPost_ret (v := .tuple #[.agg #[.slice B m c], .slice (some ⟨W2.heap.size, 0, none⟩) 1 1]) (by simp [results, Try.results47, go_sem, hend]; exact hm0.symm) rfl (hD.out _)
  have hmb : ((m : Int) == 0) = false := by rw [beq_eq_false_iff_ne]; omega
  have ct := Q.ct
  have R := Q.R
  go_wp2_with fail
  refine (goodGroup_any B m c g A n cap bs hm 3 0 (by omega) (by omega) (by omega) p2 W2 (by rw [pkG_3]; omega) R).mono ?_
  rintro e w3 ⟨v3, L, p3, rfl, O3, hP, hl1, hl2, hp3, R3, hg3⟩
  rw [lenG_3] at hl2
  rw [pkG_3] at hp3
  obtain ⟨k0, hk0⟩ : ∃ k, L.length = k + 1 := ⟨L.length - 1, by omega⟩
  have O4 := own_mono O3 (show w2.heap.size + 1 ≤ W2.heap.size by have := hs3.out; omega)
  obtain ⟨gb, c1, rfl⟩ : ∃ gb c1, v3 = .slice (some ⟨gb, 0, none⟩) L.length c1 := by rw [hk0] at O3 ⊢; exact own_some O3
  have Q3 := Q.gx hg3 R3
  clear Q R O3 hg3 R3 ct hk0
  have ct := Q3.ct
  go_upto_if 22 with fail
  go_cut [5, 6] from 22 to 41 (fun z _ wx => ∃ (L : List Prt) (gb c1 p' : Nat), z = .slice (some ⟨gb, 0, none⟩) L.length c1 ∧ 1 ≤ L.length ∧ L.length ≤ 40 ∧ (∀ q ∈ L, PtW q) ∧ wx.ownsRow (w2.heap.size + 1) 57 4 z L.length (L.flatMap Enc.cells) ∧ SG w g A n cap bs w2.heap.size B m c xs p' wx ∧ p' ≤ p + 400)
  case first =>
    by_cases h16 : 16 < L.length
    · have h16b : decide ((16 : Int) < L.length) = true := decide_eq_true (by omega)
      have R := Q3.R
      go_wp2_with fail
      refine (goodGroup_any B m c g A n cap bs hm 1 2 (by omega) (by omega) (by omega) p3 w3 (by rw [pkG_1]; omega) R).mono ?_
      rintro e w4 ⟨v4, g4, p4, rfl, O5, hP4, hl14, hl24, hp4, R4, hg4⟩
      rw [lenG_1] at hl24
      rw [pkG_1] at hp4
      obtain ⟨k0, hk0⟩ : ∃ k, g4.length = k + 1 := ⟨g4.length - 1, by omega⟩
      have O6 := own_mono O5 (show w2.heap.size + 1 ≤ w3.heap.size from Q3.z)
      obtain ⟨gb, c1, rfl⟩ : ∃ gb c1, v4 = .slice (some ⟨gb, 0, none⟩) g4.length c1 := by rw [hk0] at O5 ⊢; exact own_some O5
      have Q4 := Q3.gx hg4 R4
      have HPW := Lib.hid (ptW_shift hP4)
      have HD := Lib.hid (fun (x : Prt) (hx : x ∈ g4) => (show -9 ≤ x.depth ∧ x.depth ≤ 9 from ⟨(hP4 x hx).1, (hP4 x hx).2.1⟩))
      clear Q3 R O5 hg4 R4 ct hk0 O4 hP hP4
      go_wp2
      go_loopw [6] (fun i wr => ∃ k : Nat, k ≤ g4.length ∧ i = .int .i64 k ∧ wr.ownsRow (w2.heap.size + 1) 57 4 (.slice (some ⟨gb, 0, none⟩) g4.length c1) g4.length ((shiftL (g4.take k) (-2) ++ g4.drop k).flatMap Enc.cells) ∧ SG w g A n cap bs w2.heap.size B m c xs p4 wr) (fun i _ => g4.length - (intOf i).toNat)
      case atStart => exact ⟨0, Nat.zero_le _, rfl, O6, Q4⟩
      case round =>
        obtain ⟨k, hk, rfl, hown, Q5⟩ := hrel
        clear O6 Q4
        by_cases hlt : k < g4.length
        · have hfl : ((shiftL (g4.take k) (-2)).flatMap (Enc.cells (α := Prt))).length = k * 4 := by rw [flat_len, shiftL_len, List.length_take]; show _ * 4 = _; rw [Nat.min_eq_left (by omega)]
          have hdk := HD.out g4[k] (List.getElem_mem hlt)
          have hw1 : IntKind.i64.wrap (g4[k].depth - 2) = g4[k].depth - 2 := IntWalk.i64_in _ (by omega)
          have hgb : w2.heap.size + 1 ≤ gb := by
            rcases hown.2 with ⟨e, h0'⟩ | ⟨gb', c', _, e, hgb, _⟩
            · omega
            · simp only [Value.slice.injEq, Option.some.injEq, Addr.mk.injEq] at e; omega
          have hc0 : wr.cell? ⟨gb, k * 4, none⟩ = some (.int .i64 g4[k].depth) := by
            rw [hown.cellAt _ (by omega), List.flatMap_append, List.getElem?_append_right (by omega), hfl, List.drop_eq_getElem_cons hlt, Nat.sub_self]; rfl
          have hf0 := hown.frozenAt (k * 4)
          have HN := Lib.hid (own_set4 hown hlt)
          have HL := Lib.hid (Q5.set (b := gb) (o := k * 4) hgb (.int .i64 (g4[k].depth - 2)))
          clear hfl hown Q5
          go_wp2
          go_roundw
          case rel => exact ⟨k + 1, by omega, by go_num, HN.out, HL.out⟩
          case measure => simp [intOf]; omega
        · obtain rfl : k = g4.length := by omega
          rw [List.take_length, List.drop_length, List.append_nil] at hown
          go_wp2_with fail
          go_meet
          exact ⟨shiftL g4 (-2), gb, c1, p4, by rw [shiftL_len], by rw [shiftL_len]; omega, by rw [shiftL_len]; omega, HPW.out, by rw [shiftL_len]; exact hown, Q5, by omega⟩
    · have h16b : decide ((16 : Int) < L.length) = false := decide_eq_false (by omega)
      go_wp2_with fail
      go_meet
      exact ⟨L, gb, c1, p3, rfl, hl1, by omega, fun q hq => (hP q hq).w, O4, Q3, by omega⟩
  case rest =>
    clear O4 Q3 ct hP hl1 hl2 hp3
    obtain ⟨L, gb, c1, p4, rfl, hl1, hl4, hW, O, Q, hp4⟩ := hcut
    have R := Q.R
    have HWL := Lib.hid hW
    have hgb : w2.heap.size + 1 ≤ gb := by
      rcases O.2 with ⟨e, h0'⟩ | ⟨gb', c', _, e, hgb, _⟩
      · omega
      · simp only [Value.slice.injEq, Option.some.injEq, Addr.mk.injEq] at e; omega
    clear hW
    go_wp2_with fail
    refine (pick_any (L.length : Int) g p4 A n cap bs wc (by omega) (by omega) (by omega) R).mono ?_
    rintro e w5 ⟨kk, rfl, h0, h1, R5, hg5⟩
    obtain ⟨k, rfl⟩ := Int.eq_ofNat_of_zero_le h0
    have hk : k < L.length := by rcases h1 with h | h <;> omega
    have Q5 := Q.gx hg5 R5
    have O5 := O.kept hg5 (.inr (fun e => by have := (O.lt _ e).1; omega))
    clear h0 h1 R hg5 Q O
    go_wp2_with fail
    refine (pick_any 24 g (p4 + 1) A n cap bs w5 (by omega) (by omega) (by omega) R5).mono ?_
    rintro e w6 ⟨t, rfl, h0, h1, R6, hg6⟩
    have ht : 0 ≤ t ∧ t < 24 := by rcases h1 with h | h <;> omega
    have Q6 := Q5.gx hg6 R6
    have O6 := O5.kept hg6 (.inr (fun e => by have := (O5.lt _ e).1; omega))
    clear h0 h1 R5 hg6 Q5 O5
    by_cases t0 : t = 0
    · have b0 : (t == 0) = true := by rw [t0]; rfl
      go_wp2_with fail
      refine (one_lit [-1, 6, 0, 1] 4 _ _ g (p4 + 1 + 1) A n cap bs w6 _ rfl rfl (by decide) (by decide) (by intro x hx; simp at hx; constructor <;> omega) (by omega) rfl R6).mono ?_
      rintro e w7 ⟨z, rfl, hz, R7, hg7⟩
      have hzb : -1 ≤ z ∧ z ≤ 6 := by simp at hz; omega
      have Q7 := Q6.gx hg7 R7
      have O7 := O6.kept hg7 (.inr (fun e => by have := (O6.lt _ e).1; omega))
      have hcs := own_cellsP O7 rfl HWL.out hk
      obtain ⟨q0, q1, q2, q3⟩ := hcs
      have hf := O7.frozenAt (k * 4)
      have Q8 := Q7.set (b := gb) (o := k * 4) hgb (.int .i64 z)
      have O8 := putD O7 hk z
      have hWk := HWL.out L[k] (List.getElem_mem hk)
      have HW2 : Hid (∀ q ∈ L.set k {L[k] with depth := z}, PtW q) := ptW_set HWL.out (by obtain ⟨a1, a2, a3, a4, a5, a6⟩ := hWk; exact ⟨by first | exact a1 | (show -100 ≤ z; omega), by first | exact a2 | (show z ≤ 100; omega), by first | exact a3 | (show -100 ≤ z; omega), by first | exact a4 | (show z ≤ 100; omega), by first | exact a5 | (show -100 ≤ z; omega), by first | exact a6 | (show z ≤ 100; omega)⟩)
      have hD := Lib.hid (fun u => Q8.done (k := 500) (p0 := p) (c1 := c1) (L := L.set k {L[k] with depth := z}) (n1 := L.length) (by rw [List.length_set]; exact O8) (by rw [List.length_set]) (by rw [List.length_set]; exact hl4) HW2.out (by omega) u)
      have c0 := Q8.c0
      have f0 := Q8.f0
      have ct := Q8.ct
      have hend : ∀ u, ((w7.setCell ⟨gb, k * 4, none⟩ (.int .i64 z)).setCell ⟨w.heap.size, 0, none⟩ u).cell? ⟨w.heap.size, 0, none⟩ = some u := fun u => cell_set_same c0
      clear Q6 Q7 Q8 O6 O7 O8 hz R6 R7 hg7 hWk
      go_wp2
      exact bodyPost_ret (v := .tuple #[.agg #[.slice B m c], .slice (some ⟨gb, 0, none⟩) L.length c1]) (by simp [results, Try.results47, go_sem, hend]) rfl (hD.out _)
    by_cases t1 : t = 1
    · have b0 : (t == 0) = false := by rw [beq_eq_false_iff_ne]; omega
      have b1 : (t == 1) = true := by rw [t1]; rfl
      go_wp2_with fail
      refine (one_lit [-1, 8, 1] 3 _ _ g (p4 + 1 + 1) A n cap bs w6 _ rfl rfl (by decide) (by decide) (by intro x hx; simp at hx; constructor <;> omega) (by omega) rfl R6).mono ?_
      rintro e w7 ⟨z, rfl, hz, R7, hg7⟩
      have hzb : -1 ≤ z ∧ z ≤ 8 := by simp at hz; omega
      have Q7 := Q6.gx hg7 R7
      have O7 := O6.kept hg7 (.inr (fun e => by have := (O6.lt _ e).1; omega))
      have hcs := own_cellsP O7 rfl HWL.out hk
      obtain ⟨q0, q1, q2, q3⟩ := hcs
      have hf := O7.frozenAt (k * 4 + 2)
      have Q8 := Q7.set (b := gb) (o := k * 4 + 2) hgb (.int .i64 z)
      have O8 := putC O7 hk z
      have hWk := HWL.out L[k] (List.getElem_mem hk)
      have HW2 : Hid (∀ q ∈ L.set k {L[k] with cls := z}, PtW q) := ptW_set HWL.out (by obtain ⟨a1, a2, a3, a4, a5, a6⟩ := hWk; exact ⟨by first | exact a1 | (show -100 ≤ z; omega), by first | exact a2 | (show z ≤ 100; omega), by first | exact a3 | (show -100 ≤ z; omega), by first | exact a4 | (show z ≤ 100; omega), by first | exact a5 | (show -100 ≤ z; omega), by first | exact a6 | (show z ≤ 100; omega)⟩)
      have hD := Lib.hid (fun u => Q8.done (k := 500) (p0 := p) (c1 := c1) (L := L.set k {L[k] with cls := z}) (n1 := L.length) (by rw [List.length_set]; exact O8) (by rw [List.length_set]) (by rw [List.length_set]; exact hl4) HW2.out (by omega) u)
      have c0 := Q8.c0
      have f0 := Q8.f0
      have ct := Q8.ct
      have hend : ∀ u, ((w7.setCell ⟨gb, k * 4 + 2, none⟩ (.int .i64 z)).setCell ⟨w.heap.size, 0, none⟩ u).cell? ⟨w.heap.size, 0, none⟩ = some u := fun u => cell_set_same c0
      clear Q6 Q7 Q8 O6 O7 O8 hz R6 R7 hg7 hWk
      go_wp2
      exact bodyPost_ret (v := .tuple #[.agg #[.slice B m c], .slice (some ⟨gb, 0, none⟩) L.length c1]) (by simp [results, Try.results47, go_sem, hend]) rfl (hD.out _)
    by_cases t2 : t = 2
    · have b0 : (t == 0) = false := by rw [beq_eq_false_iff_ne]; omega
      have b1 : (t == 1) = false := by rw [beq_eq_false_iff_ne]; omega
      have b2 : (t == 2) = true := by rw [t2]; rfl
      go_wp2_with fail
      refine (one_lit [-1, 100] 2 _ _ g (p4 + 1 + 1) A n cap bs w6 _ rfl rfl (by decide) (by decide) (by intro x hx; simp at hx; constructor <;> omega) (by omega) rfl R6).mono ?_
      rintro e w7 ⟨z, rfl, hz, R7, hg7⟩
      have hzb : -1 ≤ z ∧ z ≤ 100 := by simp at hz; omega
      have Q7 := Q6.gx hg7 R7
      have O7 := O6.kept hg7 (.inr (fun e => by have := (O6.lt _ e).1; omega))
      have hcs := own_cellsP O7 rfl HWL.out hk
      obtain ⟨q0, q1, q2, q3⟩ := hcs
      have hf := O7.frozenAt (k * 4 + 3)
      have Q8 := Q7.set (b := gb) (o := k * 4 + 3) hgb (.int .i64 z)
      have O8 := putE O7 hk z
      have hWk := HWL.out L[k] (List.getElem_mem hk)
      have HW2 : Hid (∀ q ∈ L.set k {L[k] with code := z}, PtW q) := ptW_set HWL.out (by obtain ⟨a1, a2, a3, a4, a5, a6⟩ := hWk; exact ⟨by first | exact a1 | (show -100 ≤ z; omega), by first | exact a2 | (show z ≤ 100; omega), by first | exact a3 | (show -100 ≤ z; omega), by first | exact a4 | (show z ≤ 100; omega), by first | exact a5 | (show -100 ≤ z; omega), by first | exact a6 | (show z ≤ 100; omega)⟩)
      have hD := Lib.hid (fun u => Q8.done (k := 500) (p0 := p) (c1 := c1) (L := L.set k {L[k] with code := z}) (n1 := L.length) (by rw [List.length_set]; exact O8) (by rw [List.length_set]) (by rw [List.length_set]; exact hl4) HW2.out (by omega) u)
      have c0 := Q8.c0
      have f0 := Q8.f0
      have ct := Q8.ct
      have hend : ∀ u, ((w7.setCell ⟨gb, k * 4 + 3, none⟩ (.int .i64 z)).setCell ⟨w.heap.size, 0, none⟩ u).cell? ⟨w.heap.size, 0, none⟩ = some u := fun u => cell_set_same c0
      clear Q6 Q7 Q8 O6 O7 O8 hz R6 R7 hg7 hWk
      go_wp2
      exact bodyPost_ret (v := .tuple #[.agg #[.slice B m c], .slice (some ⟨gb, 0, none⟩) L.length c1]) (by simp [results, Try.results47, go_sem, hend]) rfl (hD.out _)
    by_cases t3 : t = 3
    · have b0 : (t == 0) = false := by rw [beq_eq_false_iff_ne]; omega
      have b1 : (t == 1) = false := by rw [beq_eq_false_iff_ne]; omega
      have b2 : (t == 2) = false := by rw [beq_eq_false_iff_ne]; omega
      have b3 : (t == 3) = true := by rw [t3]; rfl
      have hcs := own_cellsP O6 rfl HWL.out hk
      obtain ⟨q0, q1, q2, q3⟩ := hcs
      have hf := O6.frozenAt (k * 4 + 1)
      have Q8 := Q6.set (b := gb) (o := k * 4 + 1) hgb (.bool (!L[k].group))
      have O8 := putG O6 hk (!L[k].group)
      have HW2 : Hid (∀ q ∈ L.set k {L[k] with group := !L[k].group}, PtW q) := ptW_set HWL.out (HWL.out L[k] (List.getElem_mem hk))
      have hD := Lib.hid (fun u => Q8.done (k := 500) (p0 := p) (c1 := c1) (L := L.set k {L[k] with group := !L[k].group}) (n1 := L.length) (by rw [List.length_set]; exact O8) (by rw [List.length_set]) (by rw [List.length_set]; exact hl4) HW2.out (by omega) u)
      have c0 := Q8.c0
      have f0 := Q8.f0
      have ct := Q8.ct
      have hend : ∀ u, ((w6.setCell ⟨gb, k * 4 + 1, none⟩ (.bool (!L[k].group))).setCell ⟨w.heap.size, 0, none⟩ u).cell? ⟨w.heap.size, 0, none⟩ = some u := fun u => cell_set_same c0
      clear Q6 Q8 O6 O8 R6
      go_wp2
      exact bodyPost_ret (v := .tuple #[.agg #[.slice B m c], .slice (some ⟨gb, 0, none⟩) L.length c1]) (by simp [results, Try.results47, go_sem, hend]) rfl (hD.out _)
    have b0 : (t == 0) = false := by rw [beq_eq_false_iff_ne]; omega
    have b1 : (t == 1) = false := by rw [beq_eq_false_iff_ne]; omega
    have b2 : (t == 2) = false := by rw [beq_eq_false_iff_ne]; omega
    have b3 : (t == 3) = false := by rw [beq_eq_false_iff_ne]; omega
    have c0 := Q6.c0
    have f0 := Q6.f0
    have ct := Q6.ct
    have hD := Lib.hid (fun u => Q6.done (k := 500) (p0 := p) (c1 := c1) (L := L) (n1 := L.length) O6 rfl hl4 HWL.out (by omega) u)
    have hend : ∀ u, (w6.setCell ⟨w.heap.size, 0, none⟩ u).cell? ⟨w.heap.size, 0, none⟩ = some u := fun u => cell_set_same c0
    clear Q6 O6 R6
    go_wp2
    exact bodyPost_ret (v := .tuple #[.agg #[.slice B m c], .slice (some ⟨gb, 0, none⟩) L.length c1]) (by simp [results, Try.results47, go_sem, hend]) rfl (hD.out _)
end

section
def DrawnGA (w : World) (e : Ending) (w' : World) : Prop := ∃ (B D : Option Addr) (m c q d : Nat) (xs : List Cls) (L : List Prt) (a : Int), e = .returned (.tuple #[.agg #[.slice B m c], .slice D q d, .int .i64 a]) ∧ Sl w' B m c xs ∧ m ≤ 8 ∧ Sl w' D q d L ∧ q ≤ 40 ∧ (∀ x ∈ L, PtW x) ∧ -1 ≤ a ∧ a ≤ 8 ∧ Le w w'
set_option maxRecDepth 100000 in
theorem groupClass_any (g p : Nat) (A : Option Addr) (n cap : Nat) (bs : List By) (w : World) (hp : p ≤ 100) (hR : Rd w g p A n cap bs) :
    Calls Try.prog 31 #[.pointer (some ⟨g, 0, none⟩)] w fun e w' => ∃ (B D : Option Addr) (m c k d : Nat) (xs : List Cls) (L : List Prt) (a : Int), e = .returned (.tuple #[.agg #[.slice B m c], .slice D k d, .int .i64 a]) ∧ Sl w' B m c xs ∧ m ≤ 8 ∧ Sl w' D k d L ∧ k ≤ 40 ∧ (∀ x ∈ L, PtW x) ∧ (0 < m → ∀ x, B = some x → w.heap.size < x.block) ∧ (0 < k → ∀ x, D = some x → w.heap.size < x.block) ∧ -1 ≤ a ∧ a ≤ 8 ∧ Gx g w w' := by
  have hgw := hR.lt
  go_enter Try.func31, Try.ntmps31
  go_wp2_with fail
  obtain ⟨c0, z0, L0⟩ := box1 w (.slice none 0 0) 25
  have f0 : (w.alloc (.cells #[.slice none 0 0] 25)).frozen? ⟨w.heap.size, 0, none⟩ = false := World.frozen?_alloc_at _ _ _ _ rfl
  have R1 := hR.le L0
  generalize w.alloc (.cells #[.slice none 0 0] 25) = W at *
  have zW := z0
  have hgz : w.heap.size ≠ g := by omega
  refine (someGroup_any g p A n cap bs W (by omega) R1).mono ?_
  rintro e w2 ⟨B, D, m, c, q, d, xs, L, p2, rfl, S2, hm, T2, hq, hL, hab, hD, hp2, R2, hg2⟩
  have s2 := hg2.size
  have hgl := R2.lt
  replace c0 := (hg2.cell z0 hgz).trans c0
  replace f0 := (hg2.frozen z0 hgz).trans f0
  have G2 := (Gx.of_le (g := g) L0).trans hg2
  clear L0 hg2
  go_wp2_with fail
  obtain ⟨ct, zt, LB⟩ := box1 w2 (.slice B m c) 25
  have zt2 := zt
  have s3 := LB.size
  replace c0 := (LB.cell (by omega)).trans c0
  replace f0 := (LB.frozen (by omega)).trans f0
  have S3 := (S2.le LB).le (Le.refl _).drew
  have T3 := (T2.le LB).le (Le.refl _).drew
  have R3 := (R2.le LB).le (Le.refl _).drew
  have G3 := (G2.trans (Gx.of_le LB)).trans (Gx.of_le (Le.refl _).drew)
  generalize w2.alloc (.cells #[.slice B m c] 25) = W2 at *
  have ctd : W2.drew.cell? ⟨w2.heap.size, 0, none⟩ = some (.slice B m c) := ct
  have c0d : W2.drew.cell? ⟨w.heap.size, 0, none⟩ = some (.slice none 0 0) := c0
  have f0d : W2.drew.frozen? ⟨w.heap.size, 0, none⟩ = false := f0
  have hsd : W2.drew.heap.size = W2.heap.size := rfl
  have HSD := Lib.hid hsd; clear hsd
  have hgt : w2.heap.size ≠ g := by omega
  have hof : ∀ {x : Nat}, x ≤ w.heap.size → (0 < m → Off x B) ∧ (0 < q → Off x D) := fun hx => ⟨fun h a e => by have := hab h a e; omega, fun h a e => by have := hD h a e; omega⟩
  clear LB S2 T2 R2 G2
  go_region_held3 (fun w' => w'.cell? ⟨w2.heap.size, 0, none⟩ = some (.slice B m c))
    (first | exact ctd | exact ct4 | exact (cell_set_other (.inl (by omega))).trans ct4)
    (first
    | (go_at_call 64; refine (aClass_any B m c g p2 A n cap bs _ hm (by omega) R3).mono ?_; rintro e w4 ⟨a, p4, rfl, ha0, ha1, hp4, R4, hg4⟩; have s4 : W2.heap.size ≤ w4.heap.size := hg4.size; have ct4 := (hg4.cell (k := w2.heap.size) (o := 0) (by have := HSD.out; omega) hgt).trans ctd; have S4 := S3.gx (hof (by omega)).1 hg4; have T4 := T3.gx (hof (by omega)).2 hg4; have c04 := (hg4.cell (k := w.heap.size) (o := 0) (by have := HSD.out; omega) hgz).trans c0d; have f04 := (hg4.frozen (k := w.heap.size) (o := 0) (by have := HSD.out; omega) hgz).trans f0d; have G4 := G3.trans hg4))
  all_goals
    have hend : ∀ u, (w4.setCell ⟨w.heap.size, 0, none⟩ u).cell? ⟨w.heap.size, 0, none⟩ = some u := fun u => cell_set_same c04
    have hSx : ∀ u, Sl (w4.setCell ⟨w.heap.size, 0, none⟩ u) B m c xs := fun u => S4.gx (hof (Nat.le_refl _)).1 (Gx.set w.heap.size 0 w4 u)
    have hSy : ∀ u, Sl (w4.setCell ⟨w.heap.size, 0, none⟩ u) D q d L := fun u => T4.gx (hof (Nat.le_refl _)).2 (Gx.set w.heap.size 0 w4 u)
    go_wp2
    exact bodyPost_ret (v := .tuple #[.agg #[.slice B m c], .slice D q d, .int .i64 a]) (by simp [results, Try.results31, go_sem, hend]) rfl ⟨B, D, m, c, q, d, xs, L, a, rfl, hSx _, hm, hSy _, hq, hL, fun h x e => by have := hab h x e; omega, fun h x e => by have := hD h x e; omega, ha0, ha1, G4.setNew (Nat.le_refl _) _⟩
set_option maxRecDepth 100000 in
theorem drawSplitGroup_any (A : Option Addr) (n cap : Nat) (bs : List By) (w : World) (hR : Sl w A n cap bs) : Calls Try.prog 8 #[.slice A n cap] w (DrawnGA w) := by
  go_enter Try.func8, Try.ntmps8
  go_wp2_with fail
  obtain ⟨c0, z0, L0⟩ := box1 w (.slice none 0 0) 25
  have S0 := hR.le L0
  have zW := z0
  have f0 : (w.alloc (.cells #[.slice none 0 0] 25)).frozen? ⟨w.heap.size, 0, none⟩ = false := World.frozen?_alloc_at _ _ _ _ rfl
  generalize w.alloc (.cells #[.slice none 0 0] 25) = W at *
  refine (newReader_any A n cap bs W S0).mono ?_
  rintro e w1 ⟨g, A1, n1, k1, bs1, rfl, hg, R1, hle⟩
  replace c0 := (hle.cell z0).trans c0
  replace f0 := (hle.frozen z0).trans f0
  replace z0 := Nat.lt_of_lt_of_le z0 hle.size
  replace L0 := L0.trans hle
  have hs1 := hle.size
  clear S0 hle
  have hgz : w.heap.size ≠ g := by omega
  go_wp2_with fail
  refine (groupClass_any g 0 A1 n1 k1 bs1 w1 (by omega) R1).mono ?_
  rintro e w2 ⟨B, D, m, c, q, d, xs, L, a, rfl, S1, hm, S2, hq, hL, hab, hD, ha0, ha1, hg2⟩
  have c2 := (hg2.cell z0 hgz).trans c0
  have f2 := (hg2.frozen z0 hgz).trans f0
  have L2 := Gx.le L0 hg2 (by omega)
  have hend : ∀ u, (w2.setCell ⟨w.heap.size, 0, none⟩ u).cell? ⟨w.heap.size, 0, none⟩ = some u := fun u => cell_set_same c2
  have hSx : ∀ u, Sl (w2.setCell ⟨w.heap.size, 0, none⟩ u) B m c xs := fun u => S1.gx (fun h a e => by have := hab h a e; omega) (Gx.set w.heap.size 0 w2 u)
  have hSy : ∀ u, Sl (w2.setCell ⟨w.heap.size, 0, none⟩ u) D q d L := fun u => S2.gx (fun h a e => by have := hD h a e; omega) (Gx.set w.heap.size 0 w2 u)
  clear c0 f0
  go_wp2
  exact bodyPost_ret (v := .tuple #[.agg #[.slice B m c], .slice D q d, .int .i64 a]) (by simp [results, Try.results8, go_sem, hend]) rfl ⟨B, D, m, c, q, d, xs, L, a, rfl, hSx _, hm, hSy _, hq, hL, ha0, ha1, L2.setCell (Nat.le_refl _) _⟩
end
end Go.Proofs.Ytkpnajffeclmdaa
