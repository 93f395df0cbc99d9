/- one text of XkB, XkX, XkF, GrB -/
import Derived.Test.YtnpcmlcigeccmaaDoorCv9
import Derived.Test.YtnpcmlcigeccmaaDoorCv8
import Derived.Test.YtnpcmlcigeccmaaDoorCv10
import Derived.Test.YtnpcmlcigeccmaaDoorCv2
import Derived.Test.YtnpcmlcigeccmaaDoorCv11
namespace Go.Proofs.YtnpcmlcigeccmaaDoor
open Go.RowKit
set_option linter.unusedVariables false
section
def szOf : Value → Nat
  | .string s => s.size
  | _ => 0
def CutOut (w : World) (s : ByteArray) (e : Ending) (w' : World) : Prop :=
  (8 < (linesT (bl s)).length ∧ ∃ v, e = .returned (.tuple #[v, .bool false]) ∧ Le w w') ∨
  ((linesT (bl s)).length ≤ 8 ∧ ∃ v, e = .returned (.tuple #[v, .bool true]) ∧ Owd 9 w w' v ((linesT (bl s)).map tb) ∧ Le w w')
set_option maxHeartbeats 2000000 in
set_option maxRecDepth 100000 in
theorem cutLines_any (s : ByteArray) (w : World) (hs : s.size ≤ 1048576) :
    Calls Tryd.prog 34 #[.string s, .int .i64 8] w (CutOut w s) := by
  obtain ⟨i0, hi, hz0, hz1, hz2⟩ := info_parts infoStrT
  obtain ⟨Q, hQ⟩ : ∃ Q, Hid (linesT (bl s) = Q) := ⟨_, Lib.hid rfl⟩
  go_enter Tryd.func34, Tryd.ntmps34
  go_wp2
  go_loopw [6, 7] (fun v r wr => ∃ (L : List ByteArray) (t : ByteArray) (A' : Option Addr) (c' : Nat), L.length ≤ 8 ∧ v = .slice A' L.length c' ∧ r = .string t ∧ Hid (L ++ (linesT (bl t)).map tb = Q.map tb) ∧ t.size ≤ s.size ∧ Hid (∀ x ∈ L, Enc.ok x) ∧
      wr.ownsRow w.heap.size 9 1 v L.length (L.flatMap Enc.cells) ∧ Le w wr) (fun _ r _ => szOf r)
  case atStart => exact ⟨[], s, none, 0, Nat.zero_le _, rfl, rfl, by rw [hQ.out]; rfl, Nat.le_refl _, Lib.hid (fun x h => by simp at h), World.ownsRow_nil _ _ _ _, Le.refl _⟩
  case round =>
    obtain ⟨L, t, A', c', hL, rfl, rfl, HSP, hts, HL, O, LW⟩ := hrel
    by_cases ht0 : bl t = []
    · have he := empT.2 ht0
      have hQL : Hid (Q.map tb = L) := by
        show _ = _
        rw [← HSP.out, ht0, linesT_nil]; simp
      have D := Lib.hid (show Owd 9 w wr (.slice A' L.length c') L from ⟨O, HL.out⟩)
      have hql : Q.length ≤ 8 := by
        have := congrArg List.length hQL.out
        rw [List.length_map] at this; omega
      clear O HL HSP ht0
      go_wp2
      go_ret2
      exact .inr ⟨by rw [hQ.out]; exact hql, _, rfl, by rw [hQ.out, hQL.out]; exact D.out, LW⟩
    · have he := empF ht0
      have htp : 0 < t.size := by rw [← bl_len]; exact List.length_pos_iff.2 ht0
      by_cases h8 : L.length = 8
      · have h8b : ((L.length : Int) == 8) = true := by rw [h8]; rfl
        have hq9 : 8 < Q.length := by
          have := congrArg List.length HSP.out
          rw [linesT_step ht0, List.length_append, List.length_map, List.length_map, List.length_cons] at this; omega
        clear O HSP
        go_wp2
        go_ret2
        exact .inl ⟨by rw [hQ.out]; exact hq9, _, rfl, LW⟩
      · have h8b : ((L.length : Int) == 8) = false := by rw [beq_eq_false_iff_ne]; omega
        have hsh := cut_shorter 10 ht0
        rw [bl_len] at hsh
        have hl1 := (cut_fst_len 10 (bl t)).1
        rw [bl_len] at hl1
        have HC := Lib.hid (cut_any t 10 wr (by omega))
        have HSN : Hid (L ++ [tb (Lib.cut (bl t) [10]).1] ++ (linesT (Lib.cut (bl t) [10]).2.1).map tb = Q.map tb) := by
          show _ = _
          rw [← HSP.out, linesT_step ht0]; simp
        obtain ⟨a, ha⟩ : ∃ a, (Lib.cut (bl t) [10]).1 = a := ⟨_, rfl⟩
        obtain ⟨q, hq⟩ : ∃ q, (Lib.cut (bl t) [10]).2.1 = q := ⟨_, rfl⟩
        obtain ⟨f, hf⟩ : ∃ f, (Lib.cut (bl t) [10]).2.2 = f := ⟨_, rfl⟩
        rw [ha, hq] at HSN
        rw [ha, hq, hf] at HC
        rw [ha] at hl1
        rw [hq] at hsh
        obtain ⟨x, hx⟩ : ∃ x, tb a = x := ⟨_, rfl⟩
        rw [hx] at HSN HC
        have hxs : x.size ≤ 1048576 := by rw [← hx, tb_size]; omega
        have hfo : Enc.ok x := by show x.size ≤ 9223372036854775807; omega
        have HL2 : Hid (∀ y ∈ L ++ [x], Enc.ok y) := fun y hy => by
          rcases List.mem_append.1 hy with h | h
          · exact HL.out y h
          · rw [List.mem_singleton.1 h]; exact hfo
        have htbq : (tb q).size = q.length := rfl
        have hL7 : L.length + 1 ≤ 8 := by omega
        clear ha hq hf ht0 HSP h8 HL hx hl1
        go_wp2_with fail
        refine HC.out.mono ?_
        rintro e w3 ⟨rfl, hle⟩
        replace O := own_le O hle
        replace LW := LW.trans hle
        clear hle HC
        go_wp2_with (first | (at_builtin; refine wpList_append_sl rfl _ _ 67 rfl w.heap.size 9 i0 _ 16 Tryd.underlying67 hi hz0 hz1 hz2 rfl (.slice A' L.length c') L.length L rfl (O.alloc _) _ 1 1 [x] rfl (sl_one x rfl hfo rfl) (by unfold maxLen; omega) (by omega) (LW.alloc _).size ?_; intro v1 w4 O4 hg4 hat4; have L4 := (LW.alloc _).grown hg4 (fun j hj => (O.lt j hj).1); clear hg4 hat4))
        obtain ⟨A5, q5, rfl⟩ := own_form O4
        go_roundw
        case rel => exact ⟨L ++ [x], tb q, A5, q5, by simp; omega, by simp, rfl, HSN.out, by omega, HL2.out, by rw [List.length_append]; exact O4, L4⟩
        case measure => simp [szOf]; omega
end

section
theorem splitL_len2 (c : UInt8) : ∀ l : List UInt8, ∀ x ∈ splitL c l, x.length ≤ l.length
  | [], x, h => by simp [splitL] at h; subst h; exact Nat.le_refl _
  | y :: l, x, h => by
    have ih := splitL_len2 c l
    rw [splitL] at h
    split at h
    · rcases List.mem_cons.1 h with rfl | h
      · exact Nat.zero_le _
      · have := ih x h; simp; omega
    · split at h
      · simp at h; subst h; simp
      · rename_i a t e
        rw [e] at ih
        rcases List.mem_cons.1 h with rfl | h
        · have := ih a (by simp); simp; omega
        · have := ih x (List.mem_cons_of_mem _ h); simp; omega
structure XitAt (w : World) (b : Nat) (x : Xit) : Prop where
  c0 : w.cell? ⟨b, 0, none⟩ = some (.int .i64 x.kind)
  c1 : w.cell? ⟨b, 1, none⟩ = some (.int .i64 x.a)
  c2 : w.cell? ⟨b, 2, none⟩ = some (.int .i64 x.b)
  z : b < w.heap.size
  f : ∀ o, w.frozen? ⟨b, o, none⟩ = false
theorem XitAt.le {w w' : World} {b : Nat} {x : Xit} (h : XitAt w b x) (hl : Le w w') : XitAt w' b x := ⟨(hl.cell h.z).trans h.c0, (hl.cell h.z).trans h.c1, (hl.cell h.z).trans h.c2, Nat.lt_of_lt_of_le h.z hl.size, fun o => (hl.frozen h.z).trans (h.f o)⟩
theorem XitAt.set2 {w : World} {b : Nat} {x : Xit} (h : XitAt w b x) (t : Int) : XitAt (w.setCell ⟨b, 2, none⟩ (.int .i64 t)) b ⟨x.kind, x.a, t⟩ :=
  ⟨(cell_set_other (.inr (by decide))).trans h.c0, (cell_set_other (.inr (by decide))).trans h.c1, cell_set_same h.c2, by simpa [World.setCell] using h.z, fun o => (World.frozen?_setCell ..).trans (h.f o)⟩
theorem XitAt.set1 {w : World} {b : Nat} {x : Xit} (h : XitAt w b x) (t : Int) : XitAt (w.setCell ⟨b, 1, none⟩ (.int .i64 t)) b ⟨x.kind, t, x.b⟩ :=
  ⟨(cell_set_other (.inr (by decide))).trans h.c0, cell_set_same h.c1, (cell_set_other (.inr (by decide))).trans h.c2, by simpa [World.setCell] using h.z, fun o => (World.frozen?_setCell ..).trans (h.f o)⟩
theorem XitAt.set0 {w : World} {b : Nat} {x : Xit} (h : XitAt w b x) (t : Int) : XitAt (w.setCell ⟨b, 0, none⟩ (.int .i64 t)) b ⟨t, x.a, x.b⟩ :=
  ⟨cell_set_same h.c0, (cell_set_other (.inr (by decide))).trans h.c1, (cell_set_other (.inr (by decide))).trans h.c2, by simpa [World.setCell] using h.z, fun o => (World.frozen?_setCell ..).trans (h.f o)⟩
theorem XitAt.other {w : World} {b q o : Nat} {x : Xit} {u : Value} (h : XitAt w b x) (hq : q ≠ b) : XitAt (w.setCell ⟨q, o, none⟩ u) b x :=
  ⟨(cell_set_other (.inl (by omega))).trans h.c0, (cell_set_other (.inl (by omega))).trans h.c1, (cell_set_other (.inl (by omega))).trans h.c2, by simpa [World.setCell] using h.z, fun o => (World.frozen?_setCell ..).trans (h.f o)⟩
theorem xitAt_new (w : World) (k a b : Int) (T : TypeId) : XitAt (w.alloc (.cells #[.int .i64 k, .int .i64 a, .int .i64 b] T)) w.heap.size ⟨k, a, b⟩ := by
  obtain ⟨c0, c1, c2, z, -⟩ := boxT w (.int .i64 k) (.int .i64 a) (.int .i64 b) T
  exact ⟨c0, c1, c2, z, fun o => World.frozen?_alloc_at _ _ _ _ rfl⟩
def XitO (x : Xit) (w : World) (e : Ending) (w' : World) : Prop := e = .returned (.agg #[.int .i64 x.kind, .int .i64 x.a, .int .i64 x.b]) ∧ Le w w'
theorem xkW_or (l : List UInt8) : xkW l = 0 ∨ xkW l = 1 ∨ xkW l = 2 ∨ xkW l = 3 ∨ xkW l = -1 := by
  unfold xkW
  split
  · exact .inl rfl
  split
  · exact .inr (.inl rfl)
  split
  · exact .inr (.inr (.inl rfl))
  split
  · exact .inr (.inr (.inr (.inl rfl)))
  · exact .inr (.inr (.inr (.inr rfl)))
theorem find_bound (s : ByteArray) (L : List Cls) : -1 ≤ findN L s 0 ∧ findN L s 0 ≤ L.length := by
  rcases findN_spec s L 0 with ⟨h, _⟩ | ⟨j, hj, h, _⟩ <;> rw [h] <;> omega
theorem pXI_ok {xs : List Cls} {l : List UInt8} (h : xs.length ≤ 9223372036854775807) : Enc.ok (pXI xs l) := by
  have f := fun s => find_bound s xs
  have ok : ∀ k a b : Int, (-1 ≤ k ∧ k ≤ 3) → (-9223372036854775808 ≤ a ∧ a ≤ 9223372036854775807) → (-9223372036854775808 ≤ b ∧ b ≤ 9223372036854775807) → Enc.ok (⟨k, a, b⟩ : Xit) := fun k a b h1 h2 h3 =>
    ⟨by show _ ≤ k; omega, by show k ≤ _; omega, h2.1, h2.2, h3.1, h3.2⟩
  unfold pXI
  dsimp only
  have hk : -1 ≤ xkW (atW (splitL 32 l) 0) ∧ xkW (atW (splitL 32 l) 0) ≤ 3 := by have := xkW_or (atW (splitL 32 l) 0); omega
  split
  · exact ok _ _ _ hk (atI_rng _) (by omega)
  split
  · exact ok _ _ _ hk (by have := f (tb (atW (splitL 32 l) 1)); omega) (by omega)
  split
  · exact ok _ _ _ hk (by have := f (tb (atW (splitL 32 l) 1)); omega) (atI_rng _)
  · exact ok _ _ _ hk (by omega) (by omega)
theorem pXS_ok {xs : List Cls} {l : List UInt8} (h : xs.length ≤ 9223372036854775807) : Enc.ok (pXS xs l) := by
  have f := fun s => find_bound s xs
  have r1 := fun x => rdN_rng (m := 100) (by omega) x
  have hk : -1 ≤ xkW (atW (splitL 32 l) 0) ∧ xkW (atW (splitL 32 l) 0) ≤ 3 := by have := xkW_or (atW (splitL 32 l) 0); omega
  have ok : ∀ k a b : Int, (-1 ≤ k ∧ k ≤ 3) → (-9223372036854775808 ≤ a ∧ a ≤ 9223372036854775807) → (-9223372036854775808 ≤ b ∧ b ≤ 9223372036854775807) → Enc.ok (⟨k, a, b⟩ : Xit) := fun k a b h1 h2 h3 =>
    ⟨by show _ ≤ k; omega, by show k ≤ _; omega, h2.1, h2.2, h3.1, h3.2⟩
  unfold pXS
  dsimp only
  refine ok _ _ _ hk ?_ ?_
  · split
    · have := f (tb (atW (splitL 32 l) 1)); omega
    · split
      · have := r1 (atW (splitL 32 l) 1); omega
      · omega
  · split
    · have := r1 (atW (splitL 32 l) 2); omega
    · omega
end

section
theorem pXI_01 {xs : List Cls} {l : List UInt8} (h : xkW (atW (splitL 32 l) 0) = 0 ∨ xkW (atW (splitL 32 l) 0) = 1) : pXI xs l = ⟨xkW (atW (splitL 32 l) 0), atI (atW (splitL 32 l) 1), 0⟩ := by unfold pXI; dsimp only; rw [if_pos h]
theorem pXI_2 {xs : List Cls} {l : List UInt8} (h : xkW (atW (splitL 32 l) 0) = 2) : pXI xs l = ⟨xkW (atW (splitL 32 l) 0), findN xs (tb (atW (splitL 32 l) 1)) 0, 0⟩ := by unfold pXI; dsimp only; rw [if_neg (by omega), if_pos h]
theorem pXI_3 {xs : List Cls} {l : List UInt8} (h : xkW (atW (splitL 32 l) 0) = 3) : pXI xs l = ⟨xkW (atW (splitL 32 l) 0), findN xs (tb (atW (splitL 32 l) 1)) 0, atI (atW (splitL 32 l) 2)⟩ := by unfold pXI; dsimp only; rw [if_neg (by omega), if_neg (by omega), if_pos h]
theorem pXI_n {xs : List Cls} {l : List UInt8} (h : xkW (atW (splitL 32 l) 0) = -1) : pXI xs l = ⟨xkW (atW (splitL 32 l) 0), 0, 0⟩ := by unfold pXI; dsimp only; rw [if_neg (by omega), if_neg (by omega), if_neg (by omega)]
set_option maxHeartbeats 4000000 in
set_option maxRecDepth 100000 in
theorem iparseExit_any (B : Option Addr) (m c : Nat) (xs : List Cls) (s : ByteArray) (w : World) (hT : Sl w B m c xs) (hs : s.size ≤ 1048576) (hX : ExW w) (hE : ErrW w) :
    Calls Tryd.prog 35 #[.agg #[.slice B m c], .string s] w (XitO (pXI xs (bl s)) w) := by
  obtain ⟨z, hz⟩ : ∃ z, Hid (pXI xs (bl s) = z) := ⟨_, Lib.hid rfl⟩
  have P01 := Lib.hid (pXI_01 (xs := xs) (l := bl s))
  have P2 := Lib.hid (pXI_2 (xs := xs) (l := bl s))
  have P3 := Lib.hid (pXI_3 (xs := xs) (l := bl s))
  have PN := Lib.hid (pXI_n (xs := xs) (l := bl s))
  rw [hz.out] at P01 P2 P3 PN
  have HPC : Hid (∀ x ∈ splitL 32 (bl s), x.length ≤ 1048576) := fun x hx => by
    have := splitL_len2 32 (bl s) x hx
    rw [bl_len] at this; omega
  have HPH := Lib.hid (fun W => phraseOf_any s W hs)
  generalize splitL 32 (bl s) = W at *
  have hkor := xkW_or (atW W 0)
  have HEK := Lib.hid (fun W' h => exitKind_any (tb (atW W 0)) W' h)
  have ekb : Hid (xkW (bl (tb (atW W 0))) = xkW (atW W 0)) := rfl
  rw [ekb.out] at HEK
  go_enter Tryd.func35, Tryd.ntmps35
  go_wp2_with fail
  obtain ⟨ct, zt, -, -, -, zx, L0⟩ := boxTX w (.slice B m c) (.int .i64 0) (.int .i64 0) (.int .i64 0) 25 58
  have RA : XitAt ((w.alloc (.cells #[.slice B m c] 25)).alloc (.cells #[.int .i64 0, .int .i64 0, .int .i64 0] 58)) (w.heap.size + 1) ⟨0, 0, 0⟩ := by
    have h := xitAt_new (w.alloc (.cells #[.slice B m c] 25)) 0 0 0 58
    have e : (w.alloc (.cells #[.slice B m c] 25)).heap.size = w.heap.size + 1 := by simp
    rw [e] at h; exact h
  generalize (w.alloc (.cells #[.slice B m c] 25)).alloc _ = W0 at *
  refine (HPH.out W0).mono ?_
  rintro e w1 ⟨v, rfl, D, hle⟩
  obtain ⟨A1, c1, rfl, S, -⟩ := D.form (by decide)
  have z1 := hle.size
  replace RA := RA.le hle
  replace ct := (hle.cell zt).trans ct
  replace zt := Nat.lt_of_lt_of_le zt hle.size
  replace L0 := L0.trans hle
  clear D hle zx HPH
  have hlm : (W.map tb).length = W.length := List.length_map ..
  rw [hlm] at S ⊢
  have HA0 := Lib.hid (at_any A1 W.length c1 W 0 w1 (by omega) S)
  have HK0 := Lib.hid (HEK.out w1 (hX.le L0))
  have HC1 : Hid (∀ W', Le w1 W' → Calls Tryd.prog 65 #[.slice A1 W.length c1, .agg #[.slice B m c], .int .i64 1] W' fun e w' => e = .returned (.int .i64 (findN xs (tb (atW W 1)) 0)) ∧ Le W' w') := fun W' h => wclass_any A1 B W.length c1 m c W xs 1 W' (by omega) (S.le h) (hT.le (L0.trans h))
  have HN1 : Hid (∀ W', Le w1 W' → Calls Tryd.prog 64 #[.slice A1 W.length c1, .int .i64 1] W' fun e w' => e = .returned (.int .i64 (atI (atW W 1))) ∧ Le W' w') := fun W' h => wnumber_any A1 W.length c1 W 1 W' (by omega) (S.le h) HPC.out (hE.le (L0.trans h))
  have HN2 : Hid (∀ W', Le w1 W' → Calls Tryd.prog 64 #[.slice A1 W.length c1, .int .i64 2] W' fun e w' => e = .returned (.int .i64 (atI (atW W 2))) ∧ Le W' w') := fun W' h => wnumber_any A1 W.length c1 W 2 W' (by omega) (S.le h) HPC.out (hE.le (L0.trans h))
  clear S HPC HEK ekb hlm
  generalize findN xs (tb (atW W 1)) 0 = vc at *
  generalize atI (atW W 1) = v1 at *
  generalize atI (atW W 2) = v2 at *
  generalize xkW (atW W 0) = kd at *
  generalize tb (atW W 0) = x0 at *
  go_wp2_with fail
  refine HA0.out.mono ?_
  rintro e w' ⟨rfl, rfl⟩
  go_wp2_with fail
  refine HK0.out.mono ?_
  rintro e w' ⟨rfl, rfl⟩
  have RB : XitAt (w1.alloc (.cells #[.int .i64 kd, .int .i64 0, .int .i64 0] 58)) w1.heap.size ⟨kd, 0, 0⟩ := xitAt_new w1 kd 0 0 _
  have LB := Le.new w1 (.cells #[.int .i64 kd, .int .i64 0, .int .i64 0] 58)
  have RA2 := RA.le LB
  have L1 := L0.trans LB
  have ct1 := (LB.cell zt).trans ct
  have zt1 := Nat.lt_of_lt_of_le zt LB.size
  have hab : w1.heap.size ≠ w.heap.size + 1 := by have := RA.z; omega
  have haw : w.heap.size ≤ w1.heap.size := by have := RA.z; omega
  have hka := RB.c0
  clear RA L0 ct zt HA0 HK0
  rcases hkor with rfl | rfl | rfl | rfl | rfl
  · have HZ : Hid (z = ⟨0, v1, 0⟩) := P01.out (by omega)
    clear P01 P2 P3 PN
    have LW : Le w1 (w1.alloc (.cells #[.int .i64 0, .int .i64 0, .int .i64 0] 58)) := LB
    clear LB
    go_wp2_with fail
    generalize w1.alloc (.cells #[.int .i64 0, .int .i64 0, .int .i64 0] 58) = W2 at *
    clear hka
    refine (HN1.out _ LW).mono ?_
    rintro e w3 ⟨rfl, hle⟩
    replace RB := RB.le hle
    replace RA2 := RA2.le hle
    replace ct1 := (hle.cell zt1).trans ct1
    replace zt1 := Nat.lt_of_lt_of_le zt1 hle.size
    replace L1 := L1.trans hle
    replace LW := LW.trans hle
    clear hle
    have q1 := RB.c1
    have h1 := RB.f 1
    replace RB := RB.set1 v1
    replace RA2 := RA2.other (q := w1.heap.size) (o := 1) (u := .int .i64 v1) hab
    replace L1 := L1.setCell (b := w1.heap.size) (o := 1) haw (.int .i64 v1)
    have n0 := RB.c0
    have n1 := RB.c1
    have n2 := RB.c2
    have S1 := RA2.set0 0
    have S2 := S1.set1 v1
    have S3 := S2.set2 0
    have a0 := RA2.c0
    have g0 := RA2.f 0
    have a1 := S1.c1
    have g1 := S1.f 1
    have a2 := S2.c2
    have g2 := S2.f 2
    have m0 := S3.c0
    have m1 := S3.c1
    have m2 := S3.c2
    have LF := ((L1.setCell (b := w.heap.size + 1) (o := 0) (by omega) (.int .i64 0)).setCell (b := w.heap.size + 1) (o := 1) (by omega) (.int .i64 v1)).setCell (b := w.heap.size + 1) (o := 2) (by omega) (.int .i64 0)
    clear RA2 RB S1 S2 S3 L1
    go_wp2
    exact bodyPost_ret (v := .agg #[.int .i64 0, .int .i64 v1, .int .i64 0]) (by simp [results, Tryd.results35, go_sem, m0, m1, m2]) rfl ⟨by rw [hz.out, HZ.out], LF⟩
  · have HZ : Hid (z = ⟨1, v1, 0⟩) := P01.out (by omega)
    clear P01 P2 P3 PN
    have LW : Le w1 (w1.alloc (.cells #[.int .i64 1, .int .i64 0, .int .i64 0] 58)) := LB
    clear LB
    go_wp2_with fail
    generalize w1.alloc (.cells #[.int .i64 1, .int .i64 0, .int .i64 0] 58) = W2 at *
    clear hka
    refine (HN1.out _ LW).mono ?_
    rintro e w3 ⟨rfl, hle⟩
    replace RB := RB.le hle
    replace RA2 := RA2.le hle
    replace ct1 := (hle.cell zt1).trans ct1
    replace zt1 := Nat.lt_of_lt_of_le zt1 hle.size
    replace L1 := L1.trans hle
    replace LW := LW.trans hle
    clear hle
    have q1 := RB.c1
    have h1 := RB.f 1
    replace RB := RB.set1 v1
    replace RA2 := RA2.other (q := w1.heap.size) (o := 1) (u := .int .i64 v1) hab
    replace L1 := L1.setCell (b := w1.heap.size) (o := 1) haw (.int .i64 v1)
    have n0 := RB.c0
    have n1 := RB.c1
    have n2 := RB.c2
    have S1 := RA2.set0 1
    have S2 := S1.set1 v1
    have S3 := S2.set2 0
    have a0 := RA2.c0
    have g0 := RA2.f 0
    have a1 := S1.c1
    have g1 := S1.f 1
    have a2 := S2.c2
    have g2 := S2.f 2
    have m0 := S3.c0
    have m1 := S3.c1
    have m2 := S3.c2
    have LF := ((L1.setCell (b := w.heap.size + 1) (o := 0) (by omega) (.int .i64 1)).setCell (b := w.heap.size + 1) (o := 1) (by omega) (.int .i64 v1)).setCell (b := w.heap.size + 1) (o := 2) (by omega) (.int .i64 0)
    clear RA2 RB S1 S2 S3 L1
    go_wp2
    exact bodyPost_ret (v := .agg #[.int .i64 1, .int .i64 v1, .int .i64 0]) (by simp [results, Tryd.results35, go_sem, m0, m1, m2]) rfl ⟨by rw [hz.out, HZ.out], LF⟩
  · have HZ : Hid (z = ⟨2, vc, 0⟩) := P2.out rfl
    clear P01 P2 P3 PN
    have LW : Le w1 (w1.alloc (.cells #[.int .i64 2, .int .i64 0, .int .i64 0] 58)) := LB
    clear LB
    go_wp2_with fail
    generalize w1.alloc (.cells #[.int .i64 2, .int .i64 0, .int .i64 0] 58) = W2 at *
    clear hka
    refine (HC1.out _ LW).mono ?_
    rintro e w3 ⟨rfl, hle⟩
    replace RB := RB.le hle
    replace RA2 := RA2.le hle
    replace ct1 := (hle.cell zt1).trans ct1
    replace zt1 := Nat.lt_of_lt_of_le zt1 hle.size
    replace L1 := L1.trans hle
    replace LW := LW.trans hle
    clear hle
    have q1 := RB.c1
    have h1 := RB.f 1
    replace RB := RB.set1 vc
    replace RA2 := RA2.other (q := w1.heap.size) (o := 1) (u := .int .i64 vc) hab
    replace L1 := L1.setCell (b := w1.heap.size) (o := 1) haw (.int .i64 vc)
    have n0 := RB.c0
    have n1 := RB.c1
    have n2 := RB.c2
    have S1 := RA2.set0 2
    have S2 := S1.set1 vc
    have S3 := S2.set2 0
    have a0 := RA2.c0
    have g0 := RA2.f 0
    have a1 := S1.c1
    have g1 := S1.f 1
    have a2 := S2.c2
    have g2 := S2.f 2
    have m0 := S3.c0
    have m1 := S3.c1
    have m2 := S3.c2
    have LF := ((L1.setCell (b := w.heap.size + 1) (o := 0) (by omega) (.int .i64 2)).setCell (b := w.heap.size + 1) (o := 1) (by omega) (.int .i64 vc)).setCell (b := w.heap.size + 1) (o := 2) (by omega) (.int .i64 0)
    clear RA2 RB S1 S2 S3 L1
    go_wp2
    exact bodyPost_ret (v := .agg #[.int .i64 2, .int .i64 vc, .int .i64 0]) (by simp [results, Tryd.results35, go_sem, m0, m1, m2]) rfl ⟨by rw [hz.out, HZ.out], LF⟩
  · have HZ : Hid (z = ⟨3, vc, v2⟩) := P3.out rfl
    clear P01 P2 P3 PN
    have LW : Le w1 (w1.alloc (.cells #[.int .i64 3, .int .i64 0, .int .i64 0] 58)) := LB
    clear LB
    go_wp2_with fail
    generalize w1.alloc (.cells #[.int .i64 3, .int .i64 0, .int .i64 0] 58) = W2 at *
    clear hka
    refine (HC1.out _ LW).mono ?_
    rintro e w3 ⟨rfl, hle⟩
    replace RB := RB.le hle
    replace RA2 := RA2.le hle
    replace ct1 := (hle.cell zt1).trans ct1
    replace zt1 := Nat.lt_of_lt_of_le zt1 hle.size
    replace L1 := L1.trans hle
    replace LW := LW.trans hle
    clear hle
    go_wp2_with fail
    refine (HN2.out _ LW).mono ?_
    rintro e w4 ⟨rfl, hle⟩
    replace RB := RB.le hle
    replace RA2 := RA2.le hle
    replace ct1 := (hle.cell zt1).trans ct1
    replace zt1 := Nat.lt_of_lt_of_le zt1 hle.size
    replace L1 := L1.trans hle
    replace LW := LW.trans hle
    clear hle
    have q1 := RB.c1
    have h1 := RB.f 1
    replace RB := RB.set1 vc
    replace RA2 := RA2.other (q := w1.heap.size) (o := 1) (u := .int .i64 vc) hab
    replace L1 := L1.setCell (b := w1.heap.size) (o := 1) haw (.int .i64 vc)
    have q2 := RB.c2
    have h2 := RB.f 2
    replace RB := RB.set2 v2
    replace RA2 := RA2.other (q := w1.heap.size) (o := 2) (u := .int .i64 v2) hab
    replace L1 := L1.setCell (b := w1.heap.size) (o := 2) haw (.int .i64 v2)
    have n0 := RB.c0
    have n1 := RB.c1
    have n2 := RB.c2
    have S1 := RA2.set0 3
    have S2 := S1.set1 vc
    have S3 := S2.set2 v2
    have a0 := RA2.c0
    have g0 := RA2.f 0
    have a1 := S1.c1
    have g1 := S1.f 1
    have a2 := S2.c2
    have g2 := S2.f 2
    have m0 := S3.c0
    have m1 := S3.c1
    have m2 := S3.c2
    have LF := ((L1.setCell (b := w.heap.size + 1) (o := 0) (by omega) (.int .i64 3)).setCell (b := w.heap.size + 1) (o := 1) (by omega) (.int .i64 vc)).setCell (b := w.heap.size + 1) (o := 2) (by omega) (.int .i64 v2)
    clear RA2 RB S1 S2 S3 L1
    go_wp2
    exact bodyPost_ret (v := .agg #[.int .i64 3, .int .i64 vc, .int .i64 v2]) (by simp [results, Tryd.results35, go_sem, m0, m1, m2]) rfl ⟨by rw [hz.out, HZ.out], LF⟩
  · have HZ : Hid (z = ⟨-1, 0, 0⟩) := PN.out rfl
    clear P01 P2 P3 PN LB hka
    have n0 := RB.c0
    have n1 := RB.c1
    have n2 := RB.c2
    have S1 := RA2.set0 (-1)
    have S2 := S1.set1 0
    have S3 := S2.set2 0
    have a0 := RA2.c0
    have g0 := RA2.f 0
    have a1 := S1.c1
    have g1 := S1.f 1
    have a2 := S2.c2
    have g2 := S2.f 2
    have m0 := S3.c0
    have m1 := S3.c1
    have m2 := S3.c2
    have LF := ((L1.setCell (b := w.heap.size + 1) (o := 0) (by omega) (.int .i64 (-1))).setCell (b := w.heap.size + 1) (o := 1) (by omega) (.int .i64 0)).setCell (b := w.heap.size + 1) (o := 2) (by omega) (.int .i64 0)
    clear RA2 RB S1 S2 S3 L1
    go_wp2
    exact bodyPost_ret (v := .agg #[.int .i64 (-1), .int .i64 0, .int .i64 0]) (by simp [results, Tryd.results35, go_sem, m0, m1, m2]) rfl ⟨by rw [hz.out, HZ.out], LF⟩
def XkOut (w : World) (xs : List Cls) (s : ByteArray) (e : Ending) (w' : World) : Prop := ∃ v, e = .returned (.tuple #[v, .bool (xkO xs (bl s))]) ∧ Owd 58 w w' v (xkX xs (bl s)) ∧ Le w w'
theorem infoXtF : (Tryd.prog.info? 58).map (fun i => (i.zero, i.size, i.bytes)) = some (some (.agg #[.int .i64 0, .int .i64 0, .int .i64 0]), 3, 24) := by kernel_rfl
instance instOneXitF : EncOne Xit := ⟨by decide, fun x u hu => by simp [Enc.cells] at hu; rcases hu with rfl | rfl | rfl <;> rfl⟩
theorem xk_good {xs : List Cls} {s : List UInt8} (h : vxs xs (linI xs s) = true) (e : xsB xs (linI xs s) = s) : xkO xs s = true ∧ xkX xs s = linI xs s := xk_some h e
theorem linI_piece {s : List UInt8} {l : List UInt8} (h : l ∈ linesT s) : l.length ≤ s.length := by
  have key : ∀ (n : Nat) (s : List UInt8), s.length ≤ n → ∀ l ∈ linesT s, l.length ≤ s.length := by
    intro n
    induction n with
    | zero =>
      intro s hs l hl
      have : s = [] := List.length_eq_zero_iff.1 (by omega)
      subst this
      rw [linesT_nil] at hl; simp at hl
    | succ n ih =>
      intro s hs l hl
      by_cases h0 : s = []
      · subst h0; rw [linesT_nil] at hl; simp at hl
      · rw [linesT_step h0] at hl
        have h1 := (cut_fst_len 10 s).1
        have h2 := cut_shorter 10 h0
        rcases List.mem_cons.1 hl with rfl | hl
        · exact h1
        · have := ih _ (by omega) l hl; omega
  exact key _ s (Nat.le_refl _) l h
set_option maxHeartbeats 4000000 in
set_option maxRecDepth 100000 in
theorem iParseExits_any (B : Option Addr) (m c : Nat) (xs : List Cls) (s : ByteArray) (w : World) (hT : Sl w B m c xs) (hs : s.size ≤ 1048576) (hX : ExW w) (hE : ErrW w) (hN : TabW w) :
    Calls Tryd.prog 11 #[.agg #[.slice B m c], .string s] w (XkOut w xs s) := by
  obtain ⟨i0, hi, hz0, hz1, hz2⟩ := info_parts infoXtF
  have hmx := hT.n_le
  have hml := hT.len
  obtain ⟨ob, hob⟩ : ∃ ob, Hid (xkO xs (bl s) = ob) := ⟨_, Lib.hid rfl⟩
  obtain ⟨xb, hxb⟩ : ∃ xb, Hid (xkX xs (bl s) = xb) := ⟨_, Lib.hid rfl⟩
  have HV : Hid (vxs xs (linI xs (bl s)) = false → ob = false ∧ xb = []) := fun h => by rw [← hob.out, ← hxb.out]; exact xk_v h
  have HB8 : Hid (8 < (linesT (bl s)).length → ob = false ∧ xb = []) := fun h => by rw [← hob.out, ← hxb.out]; exact xk_many h
  have HXX : Hid (xsB xs (linI xs (bl s)) ≠ bl s → ob = false ∧ xb = []) := fun h => by rw [← hob.out, ← hxb.out]; exact xk_text h
  have HGG : Hid (vxs xs (linI xs (bl s)) = true → xsB xs (linI xs (bl s)) = bl s → ob = true ∧ xb = linI xs (bl s)) := fun h1 h2 => by rw [← hob.out, ← hxb.out]; exact xk_good h1 h2
  have HPC : Hid (∀ l ∈ linesT (bl s), l.length ≤ 1048576) := fun l hl => by
    have := linI_piece hl
    rw [bl_len] at this; omega
  have hLI : Hid (linI xs (bl s) = (linesT (bl s)).map (pXI xs)) := rfl
  rw [hLI.out] at HV HXX HGG
  clear hLI
  go_enter Tryd.func11, Tryd.ntmps11
  go_wp2_with fail
  obtain ⟨c0, z0, L0⟩ := box1 w (.slice B m c) 25
  have HT := Lib.hid (hT.le L0)
  have HX := Lib.hid (hX.le L0)
  have HE := Lib.hid (hE.le L0)
  have HN := Lib.hid (hN.le L0)
  generalize w.alloc (.cells #[.slice B m c] 25) = W1 at *
  clear hX hE hN hT
  refine (cutLines_any s W1 hs).mono ?_
  rintro e w2 (⟨h8, v, rfl, hle⟩ | ⟨h8, v, rfl, D, hle⟩)
  · have HB := Lib.hid (HB8.out h8)
    have LF := L0.trans hle
    clear h8 HV HB8 HXX HGG
    go_wp2
    go_ret2
    exact ⟨_, by rw [hob.out, HB.out.1]; rfl, by rw [hxb.out, HB.out.2]; exact Owd.nil _ _ _, LF⟩
  obtain ⟨A1, c1, rfl, S, -⟩ := D.form (by decide)
  have hlm : ((linesT (bl s)).map tb).length = (linesT (bl s)).length := List.length_map ..
  rw [hlm] at S ⊢
  generalize linesT (bl s) = Q at *
  replace c0 := (hle.cell z0).trans c0
  have z2 := Nat.lt_of_lt_of_le z0 hle.size
  replace L0 := L0.trans hle
  have LW1 := hle
  have HC := Lib.hid c0
  have HS := Lib.hid S
  clear D hle HB8 c0 S
  go_wp2
  go_loopw [8, 20] (fun v i wr => ∃ (k : Nat) (A' : Option Addr) (c' : Nat), k ≤ Q.length ∧ i = .int .i64 k ∧ v = .slice A' k c' ∧ wr.ownsRow w2.heap.size 58 3 v k (((Q.take k).map (pXI xs)).flatMap Enc.cells) ∧ Le w2 wr) (fun _ i _ => Q.length - (intOf i).toNat)
  case atStart => exact ⟨0, none, 0, Nat.zero_le _, rfl, rfl, World.ownsRow_nil _ _ _ _, Le.refl _⟩
  case round =>
    obtain ⟨k, A', c', hk, rfl, rfl, O, LR⟩ := hrel
    by_cases hlt : k < Q.length
    · have hki : (k : Int) < Q.length := by omega
      obtain ⟨b, off, rfl, hb, k0⟩ := str_at (HS.out.le LR) (k := k) (by rw [hlm]; exact hlt)
      rw [List.getElem_map] at k0
      have c0 := (LR.cell z2).trans HC.out
      have zt := Nat.lt_of_lt_of_le z2 LR.size
      have hwl := HPC.out Q[k] (List.getElem_mem hlt)
      have hpok := pXI_ok (xs := xs) (l := Q[k]) (by omega)
      have LX := LW1.trans LR
      have HPE := Lib.hid (iparseExit_any B m c xs (tb Q[k]) wr (HT.out.le LX) (by rw [tb_size]; exact hwl) (HX.out.le LX) (HE.out.le LX))
      have e9 : Hid (pXI xs (bl (tb Q[k])) = pXI xs Q[k]) := rfl
      rw [e9.out] at HPE
      have hsn : Hid ((Q.take (k + 1)).map (pXI xs) = (Q.take k).map (pXI xs) ++ [pXI xs Q[k]]) := by show _ = _; rw [List.take_succ_eq_append_getElem hlt, List.map_append]; rfl
      have htl : Hid (((Q.take k).map (pXI xs)).length = k) := by show _ = _; rw [List.length_map, List.length_take]; omega
      obtain ⟨E, hEE⟩ : ∃ E, (Q.take k).map (pXI xs) = E := ⟨_, rfl⟩
      rw [hEE] at O hsn htl
      clear hEE hwl e9 LX
      generalize pXI xs Q[k] = x at *
      generalize tb Q[k] = tq at *
      go_wp2_with fail
      refine HPE.out.mono ?_
      rintro e w3 ⟨rfl, hle⟩
      replace O := own_le O hle
      replace LR := LR.trans hle
      clear hle HPE k0 c0
      go_wp2_with (first | (at_builtin; refine wpList_append_sl rfl _ _ 26 rfl w2.heap.size 58 i0 _ 24 Tryd.underlying26 hi hz0 hz1 hz2 rfl (.slice A' k c') k E rfl (O.alloc _) _ 1 1 [x] rfl (sl_one x rfl hpok rfl) (by unfold maxLen; omega) (by omega) (LR.alloc _).size ?_; intro v2 w4 O4 hg4 hat4; have L4 := (LR.alloc _).grown hg4 (fun j hj => (O.lt j hj).1); clear hg4 hat4))
      obtain ⟨A5, q5, rfl⟩ := own_form O4
      go_roundw
      case rel => exact ⟨k + 1, A5, q5, by omega, by go_num, rfl, by rw [hsn.out]; exact O4, L4⟩
      case measure => simp [intOf]; omega
    · have hki : ¬ (k : Int) < Q.length := by omega
      have hkk : k = Q.length := by omega
      have htk : (Q.take k).map (pXI xs) = Q.map (pXI xs) := by rw [hkk, List.take_length]
      rw [htk] at O
      have hlq : (Q.map (pXI xs)).length = k := by rw [List.length_map]; exact hkk.symm
      have O' : wr.ownsRow w2.heap.size 58 3 (.slice A' (Q.map (pXI xs)).length c') (Q.map (pXI xs)).length ((Q.map (pXI xs)).flatMap Enc.cells) := by rw [hlq]; exact O
      have hok : ∀ x ∈ Q.map (pXI xs), Enc.ok x := fun x hx => by
        obtain ⟨l, hl, rfl⟩ := List.mem_map.1 hx
        exact pXI_ok (by omega)
      have S := Sl.of_own O' rfl (by decide) hok
      have DO : Owd 58 w wr (.slice A' (Q.map (pXI xs)).length c') (Q.map (pXI xs)) := ⟨own_mono O' L0.size, hok⟩
      rw [hlq] at S DO
      have LL := L0.trans LR
      have LX := LW1.trans LR
      have c0 := (LR.cell z2).trans HC.out
      have zt := Nat.lt_of_lt_of_le z2 LR.size
      clear O O' hok htk hkk HS HC HPC hlm
      generalize Q.map (pXI xs) = R at *
      go_wp2_with fail
      refine (iValidExits_any B A' m c k c' xs R wr (HT.out.le LX) S).mono ?_
      rintro e w5 ⟨rfl, hle⟩
      replace S := S.le hle
      replace DO := DO.le hle
      replace LL := LL.trans hle
      replace LX := LX.trans hle
      replace c0 := (hle.cell zt).trans c0
      replace zt := Nat.lt_of_lt_of_le zt hle.size
      clear hle
      cases hv : vxs xs R
      · have HB := Lib.hid (HV.out hv)
        clear hv HV HXX HGG S DO
        go_wp2
        go_ret2
        exact ⟨_, by rw [hob.out, HB.out.1]; rfl, by rw [hxb.out, HB.out.2]; exact Owd.nil _ _ _, LL⟩
      · have HET := Lib.hid (iExitsText_any B A' m c k c' xs R w5 (HT.out.le LX) S (HX.out.le LX) (HN.out.le LX))
        have hxt : xtX xs R = tb (xsB xs R) := xtX_of hv
        rw [hxt] at HET
        by_cases hq : xsB xs R = bl s
        · have HG := Lib.hid (HGG.out hv hq)
          have ht : tb (xsB xs R) = s := by rw [hq, tb_bl]
          rw [ht] at HET
          have hb2 : (s.toList == s.toList) = true := by simp
          have hb3 : (s.toList != s.toList) = false := by simp
          clear hv HV HXX HGG hq ht hxt S
          go_wp2_with fail
          refine HET.out.mono ?_
          rintro e w6 ⟨rfl, hle⟩
          have D6 := Lib.hid (DO.le hle)
          have L6 := LL.trans hle
          clear DO hle HET c0
          go_wp2
          go_ret2
          exact ⟨_, by rw [hob.out, HG.out.1]; rfl, by rw [hxb.out, HG.out.2]; exact D6.out, L6⟩
        · have HB := Lib.hid (HXX.out hq)
          have hne : tb (xsB xs R) ≠ s := fun e => hq (by rw [← e, bl_tb])
          have hb2 : ((tb (xsB xs R)).toList == s.toList) = false := str_ne hne
          have hb3 : ((tb (xsB xs R)).toList != s.toList) = true := by simp only [bne, hb2]; rfl
          generalize tb (xsB xs R) = ty at *
          clear hv HV HXX HGG hq hne hxt S
          go_wp2_with fail
          refine HET.out.mono ?_
          rintro e w6 ⟨rfl, hle⟩
          have L6 := LL.trans hle
          clear DO hle HET c0
          go_wp2
          go_ret2
          exact ⟨_, by rw [hob.out, HB.out.1]; rfl, by rw [hxb.out, HB.out.2]; exact Owd.nil _ _ _, L6⟩
end

section
/-- some blocks apart, nothing that was there has turned -/
structure GrB (S : Nat → Prop) (w w' : World) : Prop where
  os : w'.os = w.os
  tape : w'.tape = w.tape
  output : w'.output = w.output
  size : w.heap.size ≤ w'.heap.size
  block : ∀ k, k < w.heap.size → ¬ S k → w'.heap[k]? = w.heap[k]?
theorem GrB.refl (S : Nat → Prop) (w : World) : GrB S w w := ⟨rfl, rfl, rfl, Nat.le_refl _, fun _ _ _ => rfl⟩
theorem GrB.trans {S : Nat → Prop} {a b c : World} (h : GrB S a b) (k : GrB S b c) : GrB S a c := ⟨k.os.trans h.os, k.tape.trans h.tape, k.output.trans h.output, Nat.le_trans h.size k.size, fun i hi hs => (k.block i (Nat.lt_of_lt_of_le hi h.size) hs).trans (h.block i hi hs)⟩
theorem GrB.of_grown {S : Nat → Prop} {w w' : World} {r : Option Nat} (h : w.grownBy w' r) (hr : ∀ k, r = some k → S k) : GrB S w w' := ⟨h.os, h.tape, h.output, h.size, fun k hk hs => h.block k hk (fun e => hs (hr k e.symm))⟩
theorem GrB.of_le {S : Nat → Prop} {w w' : World} (h : Le w w') : GrB S w w' := ⟨h.os, h.tape, h.output, h.size, fun k hk _ => Below.block h k hk⟩
theorem Le.grB {S : Nat → Prop} {a w w' : World} (h : Le a w) (hg : GrB S w w') (hr : ∀ k, S k → a.heap.size ≤ k) : Le a w' :=
  ⟨hg.os.trans h.os, hg.tape.trans h.tape, hg.output.trans h.output, Nat.le_trans h.size hg.size, fun k hk => (hg.block k (Nat.lt_of_lt_of_le hk h.size) (fun e => by have := hr k e; omega)).trans (h.block k hk)⟩
theorem GrB.cell {S : Nat → Prop} {w w' : World} (hg : GrB S w w') {b o : Nat} {v : Value} (h : w.cell? ⟨b, o, none⟩ = some v) (hb : ¬ S b) : w'.cell? ⟨b, o, none⟩ = some v :=
  (World.cell?_of_block (a := ⟨b, o, none⟩) (hg.block b (World.block_lt_of_cell? w ⟨b, o, none⟩ h) hb)).trans h
theorem own_grB {S : Nat → Prop} {w w' : World} {base : Nat} {e : TypeId} {size : Nat} {v : Value} {n : Nat} {xs : List Value} (h : w.ownsRow base e size v n xs) (hg : GrB S w w') (hne : ∀ k, v.ownBlock = some k → ¬ S k) : w'.ownsRow base e size v n xs := by
  refine ⟨h.1, ?_⟩
  rcases h.2 with hn | ⟨g, cap, cur, rfl, hb, hgg, rest⟩
  · exact .inl hn
  · refine .inr ⟨g, cap, cur, rfl, hb, ?_, rest⟩
    rw [hg.block g (Array.getElem?_eq_some_iff.1 hgg).1 (hne g rfl)]
    exact hgg
theorem Sl.grB {α : Type} [Enc α] {S : Nat → Prop} {w w' : World} {A : Option Addr} {n cap : Nat} {xs : List α} (h : Sl w A n cap xs) (hg : GrB S w w') (hne : 0 < n → ∀ a, A = some a → ¬ S a.block) : Sl w' A n cap xs :=
  ⟨h.len, h.cap_, h.max, h.ok, fun hn => by
    obtain ⟨b, off, e, hlt, hc⟩ := h.at_ hn
    exact ⟨b, off, e, Nat.lt_of_lt_of_le hlt hg.size, fun j u hu => (World.cell?_of_block (a := ⟨b, off + j, none⟩) (hg.block b hlt (hne hn _ e))).trans (hc j u hu)⟩⟩
end
end Go.Proofs.YtnpcmlcigeccmaaDoor
