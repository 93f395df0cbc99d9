/- one text of LvD, LvE, LvK, V, LvF, LvG, LvL -/
import Derived.Test.YtonpgohigncjeaaCx10
import Derived.Test.YtonpgohigncjeaaCx5
import Derived.Test.YtonpgohigncjeaaCx7
import Derived.Test.YtonpgohigncjeaaCx9
namespace Go.Proofs.Ytonpgohigncjeaa
open Go.RowKit
set_option linter.unusedVariables false
section
abbrev LvS := List Int × List Flt × Int
/-- what one exit does -/
def stX (xs : List Cls) (x : Xit) (s : LvS) : LvS :=
  if x.kind = 1 then (if 0 ≤ s.2.2 then s.1 ++ [x.a] else s.1, s.2.1, s.2.2)
  else if x.kind = 2 then (s.1, s.2.1, tkX xs s.2.1 s.2.2 x.a)
  else if x.kind = 3 then (s.1, s.2.1 ++ [⟨x.a, x.b, -1, s.2.2, false⟩], s.2.1.length)
  else (s.1 ++ [x.a], s.2.1, s.2.2)
/-- what exits do, from the last one to the first one -/
def clX (xs : List Cls) (L : List Xit) (s : LvS) : LvS := L.foldr (stX xs) s
structure LvOk (N : Nat) (s : LvS) : Prop where
  l : s.1.length ≤ N
  h : s.2.1.length ≤ N
  lo : -1 ≤ s.2.2
  hi : s.2.2 < s.2.1.length
theorem tkX_cases (xs : List Cls) (hs : List Flt) (fa a : Int) : tkX xs hs fa a = -1 ∨ tkX xs hs fa a = fa := by
  unfold tkX
  split
  · split
    · exact .inl rfl
    · exact .inr rfl
  · exact .inr rfl
theorem LvOk.step {N : Nat} {s : LvS} (h : LvOk N s) (xs : List Cls) (x : Xit) : LvOk (N + 1) (stX xs x s) := by
  have h1 := h.l
  have h2 := h.h
  have h3 := h.lo
  have h4 := h.hi
  unfold stX
  split
  · exact ⟨by dsimp only; split <;> (try rw [List.length_append]) <;> (try show _ + 1 ≤ _) <;> omega, by dsimp only; omega, h3, h4⟩
  · split
    · refine ⟨by dsimp only; omega, by dsimp only; omega, ?_, ?_⟩ <;> (dsimp only; rcases tkX_cases xs s.2.1 s.2.2 x.a with e | e <;> omega)
    · split
      · refine ⟨by dsimp only; omega, ?_, ?_, ?_⟩ <;> (dsimp only; try rw [List.length_append, List.length_singleton]) <;> omega
      · exact ⟨by dsimp only; rw [List.length_append]; show _ + 1 ≤ _; omega, by dsimp only; omega, h3, h4⟩
theorem act_any (w0 : World) (R m c : Nat) (B : Option Addr) (xs : List Cls) (lv hv : Value) (s : LvS) (x : Xit) (hx : Enc.ok x) (N : Nat) (hN : N ≤ 1000000) (ho : LvOk N s) (w : World) (h : Lv w0 w R B m c xs lv hv s.1 s.2.1 s.2.2) :
    LvTo w0 R B m c xs (kF x.kind) x.a x.b w (stX xs x s).1 (stX xs x s).2.1 (stX xs x s).2.2 := by
  have h1 := ho.l
  have h2 := ho.h
  have h3 := ho.lo
  have h4 := ho.hi
  have hxa : Enc.ok x.a := ⟨hx.2.2.1, hx.2.2.2.1⟩
  unfold stX kF
  by_cases k1 : x.kind = 1
  · rw [if_pos k1, if_pos k1]
    exact tellFault_any w0 R m c B xs lv hv s.1 s.2.1 s.2.2 x.a x.b hxa (by omega) w h
  · rw [if_neg k1, if_neg k1]
    by_cases k2 : x.kind = 2
    · rw [if_pos k2, if_pos k2]
      exact takeFault_any w0 R m c B xs lv hv s.1 s.2.1 s.2.2 x.a x.b h4 w h
    · rw [if_neg k2, if_neg k2]
      by_cases k3 : x.kind = 3
      · rw [if_pos k3, if_pos k3]
        exact putFault_any w0 R m c B xs lv hv s.1 s.2.1 s.2.2 x.a x.b ⟨hx.2.2.1, hx.2.2.2.1, hx.2.2.2.2.1, hx.2.2.2.2.2, by show (-9223372036854775808 : Int) ≤ -1; omega, by show (-1 : Int) ≤ 9223372036854775807; omega, by show (-9223372036854775808 : Int) ≤ s.2.2; omega, by show s.2.2 ≤ 9223372036854775807; omega⟩ (by omega) w h
      · rw [if_neg k3, if_neg k3]
        exact tellAlways_any w0 R m c B xs lv hv s.1 s.2.1 s.2.2 x.a x.b hxa (by omega) w h
/-- an exit's deferred call -/
def dfX (R : Nat) (x : Xit) : Deferred := { target := .fn (.func (kF x.kind)) #[], args := #[.pointer (some ⟨R, 0, none⟩), .int .i64 x.a, .int .i64 x.b] }
theorem inv_kF (k : Int) (args : Array Value) (w : World) : (invoke (.fn (.func (kF k)) #[]) args).run Try.prog w = .ok (.enter (kF k) args) w := by
  unfold kF
  split
  · simp [go_sem]
  · split
    · simp [go_sem]
    · split <;> simp [go_sem]
theorem leaves_do {fn : Func} {tmps : Array Value} (hr : ∀ w, (results fn tmps).run Try.prog w = .ok (.tuple #[]) w) (w0 : World) (R m c : Nat) (B : Option Addr) (xs : List Cls) (Q : Ending → World → Prop) : ∀ (K : List Xit) (_ : ∀ x ∈ K, Enc.ok x) (s : LvS) (N : Nat) (_ : N + K.length ≤ 1000000) (_ : LvOk N s) (lv hv : Value) (w : World) (_ : Lv w0 w R B m c xs lv hv s.1 s.2.1 s.2.2)
    (_ : ∀ w' lv' hv', Lv w0 w' R B m c xs lv' hv' (K.foldl (fun s x => stX xs x s) s).1 (K.foldl (fun s x => stX xs x s) s).2.1 (K.foldl (fun s x => stX xs x s) s).2.2 → Q (.returned (.tuple #[])) w'),
    Leaves Try.prog fn tmps Q (K.map (dfX R)) .returning w
  | [], _, s, N, _, _, lv, hv, w, h, hQ => ⟨.tuple #[], hr w, hQ w lv hv h⟩
  | x :: K, hK, s, N, hN, ho, lv, hv, w, h, hQ => by
    rw [List.length_cons] at hN
    refine leaves_cons (f := kF x.kind) (args := #[.pointer (some ⟨R, 0, none⟩), .int .i64 x.a, .int .i64 x.b]) (by simp) (inv_kF _ _ _) ?_
    refine ((act_any w0 R m c B xs lv hv s x (hK x (List.mem_cons_self ..)) N (by omega) ho w h).2 .returning).mono ?_
    rintro e u' w' ⟨rfl, rfl, lv', hv', h'⟩
    exact leaves_do hr w0 R m c B xs Q K (fun y hy => hK y (List.mem_cons_of_mem _ hy)) (stX xs x s) (N + 1) (by omega) (ho.step xs x) lv' hv' w' h' hQ
set_option maxHeartbeats 2000000 in
set_option maxRecDepth 100000 in
theorem do_any (w0 : World) (R m c : Nat) (B : Option Addr) (xs : List Cls) (lv hv : Value) (s : LvS) (L : List Xit) (hok : ∀ x ∈ L, Enc.ok x) (hl : L.length ≤ 100000) (ho : LvOk 10 s) (w : World) (h : Lv w0 w R B m c xs lv hv s.1 s.2.1 s.2.2) (A : Option Addr) (n cap : Nat) (hA : Sl w A n cap (L.map Stp.mk)) :
    Calls Try.prog 60 #[.pointer (some ⟨R, 0, none⟩), .slice A n cap] w fun e w' => e = .returned (.tuple #[]) ∧ ∃ lv' hv', Lv w0 w' R B m c xs lv' hv' (clX xs L s).1 (clX xs L s).2.1 (clX xs L s).2.2 := by
  have hn : n = L.length := by have := hA.len; rw [List.length_map] at this; exact this.symm
  subst hn
  go_enter_defers Try.func60, Try.ntmps60
  go_wp2
  refine wp_loop (fun a wr => ∃ (D : List Deferred) (u5 u8 u9 u10 u11 u12 u13 u14 u15 u16 u17 u18 u19 : Value), (∃ k : Nat, k ≤ L.length ∧ u8 = .int .i64 k ∧ Le w wr ∧ D = ((L.take k).reverse).map (dfX R)) ∧ a = { tmps := #[.pointer (some ⟨R, 0, none⟩), .slice A L.length cap, undef, undef, undef, u5, .slice A L.length cap, .int .i64 L.length, u8, u9, u10, u11, u12, u13, u14, u15, u16, u17, u18, u19], defers := D }) (fun a _ => L.length - (intOf (a.tmps.getD 8 undef)).toNat) ?_ ?_
  · repeat apply Exists.intro
    exact ⟨⟨0, Nat.zero_le _, rfl, Le.refl w, rfl⟩, rfl⟩
  · rintro a wr ⟨D, u5, u8, u9, u10, u11, u12, u13, u14, u15, u16, u17, u18, u19, ⟨k, hk, rfl, LL, hD⟩, rfl⟩
    try dsimp only
    by_cases hlt : k < L.length
    · have hk0 : (0 : Int) ≤ (k : Int) := by omega
      have hkn : (k : Int) < (L.length : Int) := by omega
      obtain ⟨b, off, rfl, hb, d0, d1, d2⟩ := (hA.le LL).stp_at hlt
      have HD : Hid (dfX R L[k] :: D = ((L.take (k + 1)).reverse).map (dfX R)) := by
        show _ = _
        rw [hD, List.take_succ_eq_append_getElem hlt, List.reverse_append]; rfl
      unfold dfX at HD
      clear hD h hA ho hok
      generalize kF L[k].kind = F at *
      generalize L[k].a = va at *
      generalize L[k].b = vb at *
      have LW := Lib.hid (LL.trans (Le.new wr (.cells #[.func (.func F) #[] #[], .int .i64 va, .int .i64 vb] 116)))
      have hst := fun (w' : World) (a : Addr) => run_store Try.prog w' a (.func (.func F) #[] #[]) .plain rfl
      go_wp2
      refine ⟨?_, ?_⟩
      · show ∃ _, _
        repeat apply Exists.intro
        refine ⟨?rel, rfl⟩
        case rel => exact ⟨k + 1, by omega, by go_num, LW.out, HD.out⟩
      · simp [intOf]; omega
    · have hkn : k = L.length := by omega
      have HL := Lib.hid (h.le LL)
      have HD : Hid (D = (L.reverse).map (dfX R)) := by
        show _ = _
        rw [hD, hkn, List.take_length]
      clear hD h hA
      go_wp2
      show Leaves Try.prog _ _ _ D .returning wr
      rw [HD.out]
      refine leaves_do (fun w => results_none rfl _ _ _) w0 R m c B xs _ L.reverse (fun x hx => hok x (List.mem_reverse.1 hx)) s 10 (by rw [List.length_reverse]; omega) ho lv hv wr HL.out ?_
      intro w' lv' hv' h'
      rw [List.foldl_reverse] at h'
      exact ⟨rfl, lv', hv', h'⟩
end

section
theorem Lv.fresh {w w1 : World} (h : Le w w1) {B : Option Addr} {m c : Nat} {xs : List Cls} (hT : Sl w B m c xs) (T : TypeId) :
    Lv w (w1.alloc (.cells #[.slice B m c, .slice none 0 0, .slice none 0 0, .int .i64 (-1)] T)) w1.heap.size B m c xs (.slice none 0 0) (.slice none 0 0) [] [] (-1) := by
  have LA := Le.new w1 (.cells #[.slice B m c, .slice none 0 0, .slice none 0 0, .int .i64 (-1)] T)
  refine ⟨by simp, ?_, ?_, ?_, ?_, ?_, ?_, ?_, hT.le (h.trans LA), fun hm a e => ?_, World.ownsRow_nil _ _ _ _, World.ownsRow_nil _ _ _ _, (fun k e => by simp [Value.ownBlock] at e), (fun _ h => nomatch h), (fun _ h => nomatch h), by simp [Value.ownBlock], by simp [Value.ownBlock], h.size, h.trans LA⟩
  · rw [World.cell?_alloc_at _ _ _ _ rfl]; rfl
  · rw [World.cell?_alloc_at _ _ _ _ rfl]; rfl
  · rw [World.cell?_alloc_at _ _ _ _ rfl]; rfl
  · rw [World.cell?_alloc_at _ _ _ _ rfl]; rfl
  · simp [go_sem]
  · simp [go_sem]
  · simp [go_sem]
  · obtain ⟨b, off, e2, hb, _⟩ := hT.at_ hm
    rw [e] at e2
    injection e2 with e2
    rw [e2]
    exact Nat.lt_of_lt_of_le hb h.size
/-- what a leaver begins with -/
def stS (has : Bool) (cl k : Int) : LvS := if has = true then ([], [⟨cl, k, -1, -1, false⟩], 0) else ([], [], -1)
theorem stS_ok (has : Bool) (cl k : Int) : LvOk 10 (stS has cl k) := by
  cases has
  · exact ⟨by show 0 ≤ 10; omega, by show 0 ≤ 10; omega, by show (-1 : Int) ≤ -1; omega, by show (-1 : Int) < 0; omega⟩
  · exact ⟨by show 0 ≤ 10; omega, by show 1 ≤ 10; omega, by show (-1 : Int) ≤ 0; omega, by show (0 : Int) < 1; omega⟩
set_option maxHeartbeats 2000000 in
set_option maxRecDepth 100000 in
theorem closeExits_any (B : Option Addr) (m c : Nat) (xs : List Cls) (A : Option Addr) (n cap : Nat) (L : List Xit) (has : Bool) (cl k : Int) (hcl : Enc.ok cl) (hk : Enc.ok k) (hn : n ≤ 100000) (w : World) (hT : Sl w B m c xs) (hL : Sl w A n cap L) :
    Calls Try.prog 37 #[.agg #[.slice B m c], .slice A n cap, .agg #[.bool has, .int .i64 cl, .int .i64 k]] w fun e w' => ∃ R lv hv, e = .returned (.pointer (some ⟨R, 0, none⟩)) ∧
      Lv w w' R B m c xs lv hv (clX xs L (stS has cl k)).1 (clX xs L (stS has cl k)).2.1 (clX xs L (stS has cl k)).2.2 := by
  have hnl := hL.len
  have hokL := Lib.hid hL.ok
  have L1 := (Le.new w (.cells #[.slice B m c] 25)).trans (Le.new _ (.cells #[.bool has, .int .i64 cl, .int .i64 k] 28))
  have LV := Lv.fresh L1 hT 82
  have hR : ((w.alloc (.cells #[.slice B m c] 25)).alloc (.cells #[.bool has, .int .i64 cl, .int .i64 k] 28)).heap.size = w.heap.size + 1 + 1 := by simp
  rw [hR] at LV
  clear hR L1
  have hL3 := hL.le LV.G
  have hSo := Lib.hid (stS_ok has cl k)
  cases has
  · have HS : Hid (stS false cl k = ([], [], -1)) := rfl
    go_enter Try.func37, Try.ntmps37
    go_wp2_with fail
    generalize ((w.alloc (.cells #[.slice B m c] 25)).alloc (.cells #[.bool false, .int .i64 cl, .int .i64 k] 28)).alloc (.cells #[.slice B m c, .slice none 0 0, .slice none 0 0, .int .i64 (-1)] 82) = W at *
    refine (stepsOf_any A n cap L (by omega) _ hL3).mono ?_
    rintro e w4 ⟨A4, rfl, S4, L4⟩
    have LV4 := LV.le L4
    go_wp2_with fail
    refine (do_any w _ m c B xs _ _ (stS false cl k) L hokL.out (by omega) hSo.out w4 (by rw [HS.out]; exact LV4) A4 n n S4).mono ?_
    rintro e w5 ⟨rfl, lv5, hv5, LV5⟩
    go_wp2
    go_ret
    exact ⟨_, lv5, hv5, rfl, LV5⟩
  · have HS : Hid (stS true cl k = ([], [⟨cl, k, -1, -1, false⟩], 0)) := rfl
    go_enter Try.func37, Try.ntmps37
    go_wp2_with fail
    generalize ((w.alloc (.cells #[.slice B m c] 25)).alloc (.cells #[.bool true, .int .i64 cl, .int .i64 k] 28)).alloc (.cells #[.slice B m c, .slice none 0 0, .slice none 0 0, .int .i64 (-1)] 82) = W at *
    refine (putFault_any w _ m c B xs _ _ [] [] (-1) cl k ⟨hcl.1, hcl.2, hk.1, hk.2, by show (-9223372036854775808 : Int) ≤ -1; omega, by show (-1 : Int) ≤ 9223372036854775807; omega, by show (-9223372036854775808 : Int) ≤ -1; omega, by show (-1 : Int) ≤ 9223372036854775807; omega⟩ (Nat.zero_le _) _ LV).1.mono ?_
    rintro e w3 ⟨rfl, lv3, hv3, LV3⟩
    have hL4 := hL.le LV3.G
    go_wp2_with fail
    refine (stepsOf_any A n cap L (by omega) _ hL4).mono ?_
    rintro e w4 ⟨A4, rfl, S4, L4⟩
    have LV4 := LV3.le L4
    go_wp2_with fail
    refine (do_any w _ m c B xs _ _ (stS true cl k) L hokL.out (by omega) hSo.out w4 (by rw [HS.out]; exact LV4) A4 n n S4).mono ?_
    rintro e w5 ⟨rfl, lv5, hv5, LV5⟩
    go_wp2
    go_ret
    exact ⟨_, lv5, hv5, rfl, LV5⟩
end

section
/-- the memory of a closing: its block, what it has told, its faults, the fault that there is; all of it newer than the world w0 -/
structure Cv (w0 w : World) (C : Nat) (lv hv : Value) (lg : List Int) (hs : List Flt) (fa : Int) : Prop where
  b : B3 w C lv hv (.int .i64 fa)
  O : w.ownsRow w0.heap.size 3 1 lv lg.length (lg.flatMap Enc.cells)
  H : w.ownsRow w0.heap.size 80 5 hv hs.length (hs.flatMap Enc.cells)
  ap : ∀ k, lv.ownBlock = some k → hv.ownBlock ≠ some k
  okl : ∀ x ∈ lg, Enc.ok x
  okh : ∀ x ∈ hs, Enc.ok x
  nl : lv.ownBlock ≠ some C
  nh : hv.ownBlock ≠ some C
  h0 : w0.heap.size ≤ C
  G : Le w0 w
section
variable {w0 w w' wA w4 : World} {C : Nat} {lv hv v1 : Value} {lg : List Int} {hs : List Flt} {fa : Int}
theorem Cv.le (h : Cv w0 w C lv hv lg hs fa) (hl : Le w w') : Cv w0 w' C lv hv lg hs fa :=
  ⟨h.b.le hl, own_le h.O hl, own_le h.H hl, h.ap, h.okl, h.okh, h.nl, h.nh, h.h0, h.G.trans hl⟩
theorem kept_set {w : World} {base size n : Nat} {T : TypeId} {v : Value} {xs : List Value} {C : Nat} (h : w.ownsRow base T size v n xs) (hn : v.ownBlock ≠ some C) (o : Nat) (u : Value) : (w.setCell ⟨C, o, none⟩ u).ownsRow base T size v n xs :=
  h.kept (grown_set w C o u) (by cases e : v.ownBlock with | none => exact .inl rfl | some k => exact .inr (fun e2 => by injection e2 with e2; exact hn (by rw [e, e2])))
theorem Cv.setF (h : Cv w0 w C lv hv lg hs fa) (f : Int) : Cv w0 (w.setCell ⟨C, 2, none⟩ (.int .i64 f)) C lv hv lg hs f :=
  ⟨h.b.set2 _, kept_set h.O h.nl _ _, kept_set h.H h.nh _ _, h.ap, h.okl, h.okh, h.nl, h.nh, h.h0, h.G.setCell h.h0 _⟩
theorem Cv.told (h : Cv w0 w C lv hv lg hs fa) (LA : Le w wA) {x : Int} (hx : Enc.ok x) (O4 : w4.ownsRow w0.heap.size 3 1 v1 (lg.length + 1) ((lg ++ [x]).flatMap Enc.cells)) (hg : wA.grownBy w4 lv.ownBlock) (hbl : v1.ownBlock = lv.ownBlock ∨ v1.ownBlock = some wA.heap.size) :
    Cv w0 (w4.setCell ⟨C, 0, none⟩ v1) C v1 hv (lg ++ [x]) hs fa := by
  have hA := h.le LA
  have hz := hA.b.lt
  have hRl : some C ≠ lv.ownBlock := fun e => h.nl e.symm
  have hsz := hg.size
  have hcell : ∀ o v, wA.cell? ⟨C, o, none⟩ = some v → w4.cell? ⟨C, o, none⟩ = some v := fun o v hc => hg.cell (a := ⟨C, o, none⟩) hc (fun e => hRl e)
  have hfr : ∀ o, w4.frozen? ⟨C, o, none⟩ = wA.frozen? ⟨C, o, none⟩ := fun o => World.frozen?_of_block (a := ⟨C, o, none⟩) (hg.block C hz hRl)
  have hap : hv.ownBlock = none ∨ hv.ownBlock ≠ lv.ownBlock := by
    cases e : hv.ownBlock with
    | none => exact .inl rfl
    | some k => exact .inr fun e2 => h.ap k e2.symm e
  have hvl : ∀ k, v1.ownBlock = some k → k ≠ C ∧ hv.ownBlock ≠ some k := fun k e => by
    rcases hbl with h1 | h1
    · exact ⟨fun e2 => h.nl (by rw [← h1, e, e2]), h.ap k (h1 ▸ e)⟩
    · rw [h1] at e
      injection e with e
      exact ⟨by omega, fun e2 => by have := (hA.H.lt k e2).2; omega⟩
  have B4 : B3 w4 C lv hv (.int .i64 fa) := ⟨Nat.lt_of_lt_of_le hz hsz, hcell _ _ hA.b.c0, hcell _ _ hA.b.c1, hcell _ _ hA.b.c2, fun o => (hfr o).trans (hA.b.f o)⟩
  refine ⟨B4.set0 v1, ?_, kept_set (hA.H.kept hg hap) h.nh _ _, fun k e => (hvl k e).2, ?_, h.okh, fun e => (hvl C e).1 rfl, h.nh, h.h0, (hA.G.grown hg (fun k hk => (h.O.lt k hk).1)).setCell h.h0 v1⟩
  · rw [List.length_append]
    exact kept_set O4 (fun e => (hvl C e).1 rfl) _ _
  · intro y hy
    rcases List.mem_append.1 hy with h1 | h1
    · exact h.okl y h1
    · rw [List.mem_singleton] at h1; subst h1; exact hx
theorem Cv.put (h : Cv w0 w C lv hv lg hs fa) (LA : Le w wA) {hs2 : List Flt} (D : Owd 80 w wA v1 hs2) (f : Int) :
    Cv w0 (((wA.setCell ⟨C, 0, none⟩ lv).setCell ⟨C, 1, none⟩ v1).setCell ⟨C, 2, none⟩ (.int .i64 f)) C lv v1 lg hs2 f := by
  have hA := h.le LA
  have hz := h.b.lt
  have hv1 : ∀ k, v1.ownBlock = some k → w.heap.size ≤ k := fun k e => (D.row.lt k e).1
  have n1 : v1.ownBlock ≠ some C := fun e => by have := hv1 _ e; omega
  refine ⟨((hA.b.set0 lv).set1 v1).set2 _, kept_set (kept_set (kept_set hA.O h.nl _ _) h.nl _ _) h.nl _ _, ?_, fun k e e2 => ?_, h.okl, D.ok, h.nl, n1, h.h0, ((hA.G.setCell h.h0 _).setCell h.h0 _).setCell h.h0 _⟩
  · exact own_mono (kept_set (kept_set (kept_set D.row n1 _ _) n1 _ _) n1 _ _) h.G.size
  · have h1 := (h.O.lt k e).2
    have h2 := hv1 k e2
    omega
theorem Cv.fresh (w0 : World) (U : TypeId) : Cv w0 ((w0.alloc (.cells #[] 3)).alloc (.cells #[.slice (some ⟨w0.heap.size, 0, none⟩) 0 0, .slice none 0 0, .int .i64 (-1)] U)) (w0.heap.size + 1) (.slice (some ⟨w0.heap.size, 0, none⟩) 0 0) (.slice none 0 0) [] [] (-1) := by
  have B := B3.new (w0.alloc (.cells #[] 3)) (.slice (some ⟨w0.heap.size, 0, none⟩) 0 0) (.slice none 0 0) (.int .i64 (-1)) U
  have e : (w0.alloc (.cells #[] 3)).heap.size = w0.heap.size + 1 := by simp
  rw [e] at B
  refine ⟨B, ?_, World.ownsRow_nil _ _ _ _, fun k _ e2 => by simp [Value.ownBlock] at e2, (fun _ h => nomatch h), (fun _ h => nomatch h), ?_, by simp [Value.ownBlock], Nat.le_succ _, (Le.new w0 _).trans (Le.new _ _)⟩
  · exact own_le (own_empty (Nat.le_refl _) rfl) (Le.new _ _)
  · simp [Value.ownBlock]
end
/-- a block of four cells -/
structure B4 (W : World) (b : Nat) (x y z v : Value) : Prop where
  lt : b < W.heap.size
  c0 : W.cell? ⟨b, 0, none⟩ = some x
  c1 : W.cell? ⟨b, 1, none⟩ = some y
  c2 : W.cell? ⟨b, 2, none⟩ = some z
  c3 : W.cell? ⟨b, 3, none⟩ = some v
  f : ∀ o, W.frozen? ⟨b, o, none⟩ = false
section
variable {W W' : World} {b g : Nat} {x y z v : Value}
theorem B4.new (w : World) (x y z v : Value) (T : TypeId) : B4 (w.alloc (.cells #[x, y, z, v] T)) w.heap.size x y z v := by
  refine ⟨by simp, ?_, ?_, ?_, ?_, fun o => World.frozen?_alloc_at _ _ _ _ rfl⟩ <;> (rw [World.cell?_alloc_at _ _ _ _ rfl]; rfl)
theorem B4.le (h : B4 W b x y z v) (l : Le W W') : B4 W' b x y z v :=
  ⟨Nat.lt_of_lt_of_le h.lt l.size, (l.cell h.lt).trans h.c0, (l.cell h.lt).trans h.c1, (l.cell h.lt).trans h.c2, (l.cell h.lt).trans h.c3, fun o => (l.frozen h.lt).trans (h.f o)⟩
theorem B4.far (h : B4 W b x y z v) (hn : g ≠ b) (o : Nat) (u : Value) : B4 (W.setCell ⟨g, o, none⟩ u) b x y z v :=
  ⟨by simpa [World.setCell] using h.lt, (cell_set_other (.inl hn)).trans h.c0, (cell_set_other (.inl hn)).trans h.c1, (cell_set_other (.inl hn)).trans h.c2, (cell_set_other (.inl hn)).trans h.c3, fun k => (frz3 _ _ _ _ _ _).trans (h.f k)⟩
theorem B4.set0 (h : B4 W b x y z v) (u : Value) : B4 (W.setCell ⟨b, 0, none⟩ u) b u y z v :=
  ⟨by simpa [World.setCell] using h.lt, cell_set_same h.c0, (cell_set_other (.inr (by decide))).trans h.c1, (cell_set_other (.inr (by decide))).trans h.c2, (cell_set_other (.inr (by decide))).trans h.c3, fun k => (frz3 _ _ _ _ _ _).trans (h.f k)⟩
theorem B4.set1 (h : B4 W b x y z v) (u : Value) : B4 (W.setCell ⟨b, 1, none⟩ u) b x u z v :=
  ⟨by simpa [World.setCell] using h.lt, (cell_set_other (.inr (by decide))).trans h.c0, cell_set_same h.c1, (cell_set_other (.inr (by decide))).trans h.c2, (cell_set_other (.inr (by decide))).trans h.c3, fun k => (frz3 _ _ _ _ _ _).trans (h.f k)⟩
theorem B4.set2 (h : B4 W b x y z v) (u : Value) : B4 (W.setCell ⟨b, 2, none⟩ u) b x y u v :=
  ⟨by simpa [World.setCell] using h.lt, (cell_set_other (.inr (by decide))).trans h.c0, (cell_set_other (.inr (by decide))).trans h.c1, cell_set_same h.c2, (cell_set_other (.inr (by decide))).trans h.c3, fun k => (frz3 _ _ _ _ _ _).trans (h.f k)⟩
theorem B4.set3 (h : B4 W b x y z v) (u : Value) : B4 (W.setCell ⟨b, 3, none⟩ u) b x y z u :=
  ⟨by simpa [World.setCell] using h.lt, (cell_set_other (.inr (by decide))).trans h.c0, (cell_set_other (.inr (by decide))).trans h.c1, (cell_set_other (.inr (by decide))).trans h.c2, cell_set_same h.c3, fun k => (frz3 _ _ _ _ _ _).trans (h.f k)⟩
/-- all four cells of a block are written anew: what is kept, and what is in it -/
theorem B4.all (h : B4 W b x y z v) (x' y' z' v' : Value) : B4 ((((W.setCell ⟨b, 0, none⟩ x').setCell ⟨b, 1, none⟩ y').setCell ⟨b, 2, none⟩ z').setCell ⟨b, 3, none⟩ v') b x' y' z' v' := (((h.set0 x').set1 y').set2 z').set3 v'
theorem row_all {base size n : Nat} {T : TypeId} {u : Value} {xs : List Value} (h : W.ownsRow base T size u n xs) (hn : u.ownBlock ≠ some b) (x' y' z' v' : Value) : ((((W.setCell ⟨b, 0, none⟩ x').setCell ⟨b, 1, none⟩ y').setCell ⟨b, 2, none⟩ z').setCell ⟨b, 3, none⟩ v').ownsRow base T size u n xs :=
  kept_set (kept_set (kept_set (kept_set h hn _ _) hn _ _) hn _ _) hn _ _
end
end

section
theorem one_new (w : World) (a : Value) (t : TypeId) : ∀ j u, [a][j]? = some u → (w.alloc (.cells #[a] t)).cell? ((⟨w.heap.size, 0, none⟩ : Addr).add j) = some u := by
  intro j u hu
  cases j with
  | zero =>
    simp at hu; subst hu
    show (w.alloc (.cells #[a] t)).cell? ⟨w.heap.size, 0, none⟩ = some a
    rw [World.cell?_alloc_at _ _ _ _ rfl]; rfl
  | succ j => simp at hu
def OwnInts (L : List Int) (w : World) (e : Ending) (w' : World) : Prop := ∃ v, e = .returned v ∧ w'.ownsRow w.heap.size 3 1 v L.length (L.flatMap Enc.cells) ∧ (∀ x ∈ L, Enc.ok x) ∧ Le w w'
def aboveX (xs : List Cls) (a : Int) : List Int := cond (okTree xs && hasK xs a) (aboveL xs a) []
theorem aboveX_of {xs : List Cls} {a : Int} {b : Bool} (h : (okTree xs && hasK xs a) = b) : aboveX xs a = cond b (aboveL xs a) [] := by unfold aboveX; rw [h]
theorem own_nil (w w' : World) (h : Le w w') : OwnInts [] w (.returned (.slice none 0 0)) w' := ⟨_, rfl, World.ownsRow_nil _ _ _ _, (fun _ h => nomatch h), h⟩
theorem above_ok {xs : List Cls} (g : Good xs) {a : Int} (ha : a < xs.length) : ∀ x ∈ aboveL xs a, Enc.ok x := by
  intro x hx
  have := aboveL_mem g _ a rfl ha x hx
  have := g.hi
  exact ⟨by omega, by omega⟩
end

section
/-- the numbers below a bound for which something holds -/
def escK (f : Nat → Bool) : Nat → List Int
  | 0 => []
  | k + 1 => escK f k ++ (if f k = true then [(k : Int)] else [])
theorem escK_len (f : Nat → Bool) : ∀ k, (escK f k).length ≤ k
  | 0 => Nat.le_refl _
  | k + 1 => by
    have := escK_len f k
    unfold escK
    split <;> simp <;> omega
theorem escK_ok (f : Nat → Bool) : ∀ k, k ≤ 8 → ∀ x ∈ escK f k, Enc.ok x
  | 0, _, x, h => nomatch h
  | k + 1, hk, x, h => by
    unfold escK at h
    rcases List.mem_append.1 h with h | h
    · exact escK_ok f k (by omega) x h
    · split at h
      · simp at h; subst h; exact ⟨by omega, by omega⟩
      · cases h
theorem escK_congr {f g : Nat → Bool} : ∀ {k}, (∀ j, j < k → f j = g j) → escK f k = escK g k
  | 0, _ => rfl
  | k + 1, h => by
    unfold escK
    rw [escK_congr (fun j hj => h j (by omega)), h k (Nat.lt_succ_self k)]
/-- the fault that is left of a fault of a class at first -/
def faX (xs : List Cls) (L : List Xit) (has : Bool) (a : Int) : Int := (clX xs L (stS has a 0)).2.2
def escI (xs : List Cls) (L : List Xit) : List Int := cond (vxs xs L) (escK (fun k => faX xs L true (k : Int) == 0) xs.length) []
theorem escI_of {xs : List Cls} {L : List Xit} {b : Bool} (h : vxs xs L = b) : escI xs L = cond b (escK (fun k => faX xs L true (k : Int) == 0) xs.length) [] := by unfold escI; rw [h]
set_option maxHeartbeats 2000000 in
set_option maxRecDepth 100000 in
theorem iEscapesOf_any (B : Option Addr) (m c : Nat) (xs : List Cls) (A : Option Addr) (n cap : Nat) (L : List Xit) (w : World) (hT : Sl w B m c xs) (hL : Sl w A n cap L) :
    Calls Try.prog 25 #[.agg #[.slice B m c], .slice A n cap] w (OwnInts (escI xs L) w) := by
  obtain ⟨i0, hi, hz0, hz1, hz2⟩ := info_parts intInfo
  have hl := Le.new w (.cells #[.slice B m c] 25)
  have c0 : (w.alloc (.cells #[.slice B m c] 25)).cell? ⟨w.heap.size, 0, none⟩ = some (.slice B m c) := by rw [World.cell?_alloc_at _ _ _ _ rfl]; rfl
  have hz : w.heap.size < (w.alloc (.cells #[.slice B m c] 25)).heap.size := by simp
  have hS := hT.le hl
  have hSL := hL.le hl
  cases h1 : vxs xs L
  · have HF := Lib.hid (escI_of h1)
    go_enter Try.func25, Try.ntmps25
    go_wp2_with fail
    generalize w.alloc (.cells #[.slice B m c] 25) = W at *
    refine (iValidExits_any B A m c n cap xs L _ hS hSL).mono ?_
    rintro e w2 ⟨rfl, hle⟩
    rw [h1]
    clear h1
    have HO : Hid (OwnInts (escI xs L) w (.returned (.slice none 0 0)) w2) := by
      show OwnInts _ _ _ _
      rw [HF.out]; exact own_nil w w2 (hl.trans hle)
    go_wp2
    go_ret
    exact HO.out
  · have hab := vxs_iff.1 h1
    have g := good_of hab.1
    have hLl := hab.2.1
    clear hab
    have hhi := g.hi
    obtain rfl := hT.len
    have hnl := hL.len
    have HF := Lib.hid (escI_of h1)
    go_enter Try.func25, Try.ntmps25
    go_wp2_with fail
    generalize w.alloc (.cells #[.slice B xs.length c] 25) = W at *
    refine (iValidExits_any B A xs.length c n cap xs L _ hS hSL).mono ?_
    rintro e w2 ⟨rfl, hle⟩
    rw [h1]
    clear h1
    have c2 := (hle.cell hz).trans c0
    have hz2' := Nat.lt_of_lt_of_le hz hle.size
    have hl2 := hl.trans hle
    clear c0 hz hle hl hS hSL
    go_wp2
    generalize HFN : (fun k : Nat => faX xs L true (k : Int) == 0) = F at *
    go_loopw [5, 14] (fun v q wr => ∃ k : Nat, k ≤ xs.length ∧ q = .int .i64 k ∧ wr.ownsRow w2.heap.size 3 1 v (escK F k).length ((escK F k).flatMap Enc.cells) ∧ Le w2 wr) (fun _ q _ => xs.length - (intOf q).toNat)
    case atStart => exact ⟨0, Nat.zero_le _, rfl, World.ownsRow_nil _ _ _ _, Le.refl w2⟩
    case round =>
      obtain ⟨k, hk, rfl, hown, hle⟩ := hrel
      have cr := (hle.cell hz2').trans c2
      have hRr := hT.le (hl2.trans hle)
      have hLr := hL.le (hl2.trans hle)
      have hzr := Nat.lt_of_lt_of_le hz2' hle.size
      by_cases hlt : k < xs.length
      · have hbl := escK_len F k
        go_wp2_with fail
        refine (closeExits_any B xs.length c xs A n cap L true (k : Int) 0 ⟨by omega, by omega⟩ ⟨by omega, by omega⟩ (by omega) _ hRr hLr).mono ?_
        rintro e w3 ⟨R, lv, hv, rfl, LV⟩
        have k3 := LV.c3
        have hown3 := own_le hown LV.G
        have hle' := hle.trans LV.G
        have HFK : Hid (F k = ((clX xs L (stS true (k : Int) 0)).2.2 == 0)) := by show _ = _; rw [← HFN]; rfl
        generalize (clX xs L (stS true (k : Int) 0)).2.2 = fa at *
        clear hown hle LV HFN
        by_cases hi1 : fa = 0
        · subst hi1
          have HB : Hid (escK F (k + 1) = escK F k ++ [(k : Int)]) := by show _ = _; rw [escK, HFK.out]; simp
          have hc3 : (escK F k).length + 1 ≤ maxLen := by unfold maxLen; omega
          have hc4 : ((escK F k).length + 1) * 8 ≤ 140737488355328 := by omega
          have hsz3 := hle'.size
          go_wp2_with (at_builtin; refine wpList_append_own _ rfl _ _ 31 rfl w2.heap.size 3 i0 (.int .i64 0) 1 8 Try.underlying31 hi hz0 hz1 hz2 rfl (by decide) _ _ _ rfl (hown3.alloc _) ⟨w3.heap.size, 0, none⟩ 1 1 [.int .i64 k] rfl rfl ?c1 ?c2 hc3 hc4 ?c5 ?_)
          case c1 => exact one_new _ _ _
          case c2 => intro u hu; simp at hu; subst hu; rfl
          case c5 => simp; omega
          intro v1 w1 hown1 hg1 _
          have hle1 := (hle'.alloc (.cells #[.int .i64 (k : Int)] 3)).grown hg1 (fun k hk => (hown3.lt k hk).1)
          go_wp2
          go_roundw
          case rel =>
            refine ⟨k + 1, by omega, by go_num, ?_, hle1⟩
            rw [HB.out, List.length_append, List.flatMap_append]
            exact hown1
          case measure => simp [intOf]; omega
        · have hb : (fa == 0) = false := by simp; omega
          have HB : Hid (escK F (k + 1) = escK F k) := by show _ = _; rw [escK, HFK.out, hb]; simp
          go_wp2
          go_roundw
          case rel => exact ⟨k + 1, by omega, by go_num, by rw [HB.out]; exact hown3, hle'⟩
          case measure => simp [intOf]; omega
      · have he : k = xs.length := by omega
        have HO : Hid (OwnInts (escI xs L) w (.returned u5) wr) := by
          show OwnInts _ _ _ _
          rw [HF.out, ← he]
          exact ⟨_, rfl, own_mono hown (by have := hl2.size; omega), escK_ok F k (by omega), hl2.trans hle⟩
        clear hown
        go_wp2
        go_ret
        exact HO.out
end

section
def pasX (xs : List Cls) (a : Int) (e : Xit) : Bool := !((e.kind == 3) || ((e.kind == 2) && isAL xs a e.a))
def pasL (xs : List Cls) (L : List Xit) (a : Int) : Bool := L.all (pasX xs a)
theorem pas_at {xs : List Cls} {a : Int} {L : List Xit} {k : Nat} (h : k < L.length) : (L.drop k).all (pasX xs a) = (pasX xs a L[k] && (L.drop (k + 1)).all (pasX xs a)) := by rw [List.drop_eq_getElem_cons h]; rfl
theorem escaped {xs : List Cls} {L : List Xit} (ht : okTree xs = true) {a : Int} (ha : hasK xs a = true) (hL : ∀ x ∈ L, xOk xs x = true) :
    (clX xs L (stS true a 0)).2.1[0]? = some ⟨a, 0, -1, -1, false⟩ ∧ ((clX xs L (stS true a 0)).2.2 = 0 ↔ pasL xs L a = true) ∧ -1 ≤ (clX xs L (stS true a 0)).2.2 := by
  induction L with
  | nil => exact ⟨rfl, ⟨fun _ => rfl, fun _ => rfl⟩, by show (-1 : Int) ≤ 0; omega⟩
  | cons x L ih =>
    obtain ⟨i1, i2, i3⟩ := ih (fun y hy => hL y (List.mem_cons_of_mem _ hy))
    have hx := hL x (List.mem_cons_self ..)
    have e : clX xs (x :: L) (stS true a 0) = stX xs x (clX xs L (stS true a 0)) := rfl
    have e2 : pasL xs (x :: L) a = (pasX xs a x && pasL xs L a) := rfl
    rw [e, e2]
    generalize clX xs L (stS true a 0) = s at *
    have hlen : 0 < s.2.1.length := by
      rcases Nat.eq_zero_or_pos s.2.1.length with h | h
      · rw [List.getElem?_eq_none (by omega)] at i1; cases i1
      · exact h
    unfold stX
    by_cases k1 : x.kind = 1
    · rw [if_pos k1]
      have hp : pasX xs a x = true := by unfold pasX; rw [k1]; rfl
      rw [hp, Bool.true_and]
      exact ⟨i1, i2, i3⟩
    · rw [if_neg k1]
      by_cases k2 : x.kind = 2
      · rw [if_pos k2]
        rw [xOk_2 k2, Bool.and_eq_true] at hx
        have hp : pasX xs a x = !isAL xs a x.a := by unfold pasX; rw [k2]; simp
        refine ⟨i1, ?_, ?_⟩
        · rw [hp]
          show tkX xs s.2.1 s.2.2 x.a = 0 ↔ _
          by_cases h0 : s.2.2 = 0
          · have hc : flC s.2.1 s.2.2 = a := by rw [h0]; unfold flC; rw [show ((0 : Int)).toNat = 0 from rfl, i1]
            have hp2 := i2.1 h0
            unfold tkX isAx
            rw [if_pos (by omega), hc, ht, ha, hx.1, Bool.true_and, Bool.true_and, Bool.true_and, hp2]
            cases isAL xs a x.a
            · simp [h0]
            · simp
          · have hp2 : pasL xs L a = false := by
              cases h : pasL xs L a
              · rfl
              · exact absurd (i2.2 h) h0
            rw [hp2, Bool.and_false]
            constructor
            · intro h
              rcases tkX_cases xs s.2.1 s.2.2 x.a with e3 | e3
              · rw [e3] at h; omega
              · rw [e3] at h; exact absurd h h0
            · intro h; cases h
        · show -1 ≤ tkX xs s.2.1 s.2.2 x.a
          rcases tkX_cases xs s.2.1 s.2.2 x.a with e3 | e3 <;> omega
      · rw [if_neg k2]
        by_cases k3 : x.kind = 3
        · rw [if_pos k3]
          have hp : pasX xs a x = false := by unfold pasX; rw [k3]; rfl
          rw [hp, Bool.false_and]
          refine ⟨by dsimp only; rw [List.getElem?_append_left hlen]; exact i1, ⟨fun h => ?_, fun h => nomatch h⟩, by show (-1 : Int) ≤ (s.2.1.length : Int); omega⟩
          have : (s.2.1.length : Int) = 0 := h
          omega
        · rw [if_neg k3]
          have hp : pasX xs a x = true := by
            unfold pasX
            rw [show (x.kind == 3) = false by simp; omega, show (x.kind == 2) = false by simp; omega]; rfl
          rw [hp, Bool.true_and]
          exact ⟨i1, i2, i3⟩
theorem esc_same {xs : List Cls} {L : List Xit} (h : vxs xs L = true) {k : Nat} (hk : k < xs.length) : (faX xs L true (k : Int) == 0) = pasL xs L (k : Int) := by
  obtain ⟨h1, -, h3⟩ := vxs_iff.1 h
  have hk2 : hasK xs (k : Int) = true := hasK_iff.2 ⟨by omega, by omega⟩
  have := (escaped h1 hk2 h3).2.1
  unfold faX
  rw [Bool.eq_iff_iff, beq_iff_eq]
  exact this
theorem escI_pas {xs : List Cls} {L : List Xit} (h : vxs xs L = true) : escI xs L = escK (fun k => pasL xs L (k : Int)) xs.length := by
  rw [escI_of h]
  exact escK_congr fun j hj => esc_same h hj
set_option maxHeartbeats 2000000 in
set_option maxRecDepth 100000 in
theorem passes_any (B : Option Addr) (m c : Nat) (xs : List Cls) (A : Option Addr) (n cap : Nat) (L : List Xit) (a : Int) (g : Good xs) (ha0 : 0 ≤ a) (ha1 : a < xs.length) (w : World) (hT : Sl w B m c xs) (hL : Sl w A n cap L) :
    Calls Try.prog 51 #[.agg #[.slice B m c], .slice A n cap, .int .i64 a] w fun e w' => e = .returned (.bool (pasL xs L a)) ∧ Le w w' := by
  obtain rfl := hL.len
  have hmx := hL.n_le
  have hl := Le.new w (.cells #[.slice B m c] 25)
  have c0 : (w.alloc (.cells #[.slice B m c] 25)).cell? ⟨w.heap.size, 0, none⟩ = some (.slice B m c) := by rw [World.cell?_alloc_at _ _ _ _ rfl]; rfl
  have hz : w.heap.size < (w.alloc (.cells #[.slice B m c] 25)).heap.size := by simp
  have hS := hT.le hl
  have hR := hL.le hl
  clear hT hL
  have HX : Hid (pasL xs L a = L.all (pasX xs a)) := rfl
  go_enter Try.func51, Try.ntmps51
  go_wp2
  generalize w.alloc (.cells #[.slice B m c] 25) = W at *
  go_loopw [7] (fun q wr => ∃ k : Nat, k ≤ L.length ∧ q = .int .i64 k ∧ L.all (pasX xs a) = (L.drop k).all (pasX xs a) ∧ Le W wr) (fun q _ => L.length - (intOf q).toNat)
  case atStart => exact ⟨0, Nat.zero_le _, rfl, rfl, Le.refl _⟩
  case round =>
    obtain ⟨k, hk, rfl, he, hle⟩ := hrel
    have HE := Lib.hid he
    clear he
    have ct := (hle.cell hz).trans c0
    have zt := Nat.lt_of_lt_of_le hz hle.size
    have ST := hS.le hle
    have R1 := hR.le hle
    by_cases hlt : k < L.length
    · obtain ⟨b, off, rfl, hb, d0, d1, -, -⟩ := R1.xit_at hlt
      have HA := Lib.hid (pas_at (xs := xs) (a := a) hlt)
      have hk0 : (0 : Int) ≤ (k : Int) := by omega
      have hkn : (k : Int) < (L.length : Int) := by omega
      have HP : Hid (pasX xs a L[k] = !((L[k].kind == 3) || ((L[k].kind == 2) && isAL xs a L[k].a))) := rfl
      generalize pasX xs a L[k] = P at *
      generalize L[k].kind = vk at *
      generalize L[k].a = va at *
      have Et := cell_ext zt ct
      have E0 := cell_ext hb d0
      have E1 := cell_ext hb d1
      cases q0 : (vk == 3)
      · cases q1 : (vk == 2)
        · have HF : Hid (L.all (pasX xs a) = (L.drop (k + 1)).all (pasX xs a)) := by show _ = _; rw [HE.out, HA.out, HP.out, q0, q1]; rfl
          clear HE HA HP
          go_wp2_with fail
          refine wp_region_ext (by kernel_rfl) (by kernel_rfl) ?_
          repeat (go_big_quiet_step (fail))
          refine wpQuiet_nil ?_
          intro _ hw'
          obtain ⟨gg, rfl⟩ := hw'
          have hw1 := Le.ext wr gg
          generalize wr.ext gg = W2 at *
          go_wp2
          go_roundw
          case rel => exact ⟨k + 1, by omega, by go_num, HF.out, hle.trans hw1⟩
          case measure => simp [intOf]; omega
        · have hca : ∀ (g1 : Ext wr) (_ : True), Calls Try.prog 65 #[.agg #[.slice B m c], .int .i64 a, .int .i64 va] (wr.ext g1) fun e w' => e = .returned (.bool (isAL xs a va)) ∧ Le (wr.ext g1) w' := fun g1 _ => isA_any B m c xs a va _ (ST.le (Le.ext wr g1)) g (by omega) (by omega)
          generalize isAL xs a va = q2 at *
          cases q2
          · have HF : Hid (L.all (pasX xs a) = (L.drop (k + 1)).all (pasX xs a)) := by show _ = _; rw [HE.out, HA.out, HP.out, q0, q1]; rfl
            clear HE HA HP
            go_wp2_with fail
            refine wp_region_ext (by kernel_rfl) (by kernel_rfl) ?_
            repeat (go_big_quiet_step (first | (go_at_call 65; with_reducible exact Calls.ext_of (hca _ trivial))))
            refine wpQuiet_nil ?_
            intro _ hw'
            obtain ⟨gg, rfl⟩ := hw'
            have hw1 := Le.ext wr gg
            generalize wr.ext gg = W2 at *
            go_wp2
            go_roundw
            case rel => exact ⟨k + 1, by omega, by go_num, HF.out, hle.trans hw1⟩
            case measure => simp [intOf]; omega
          · have HF : Hid (pasL xs L a = false) := by show _ = _; rw [HX.out, HE.out, HA.out, HP.out, q0, q1]; rfl
            clear HE HA HP
            go_wp2_with fail
            refine wp_region_ext (by kernel_rfl) (by kernel_rfl) ?_
            repeat (go_big_quiet_step (first | (go_at_call 65; with_reducible exact Calls.ext_of (hca _ trivial))))
            refine wpQuiet_nil ?_
            intro _ hw'
            obtain ⟨gg, rfl⟩ := hw'
            have hw1 := Le.ext wr gg
            generalize wr.ext gg = W2 at *
            go_wp2
            go_ret
            exact ⟨ret_bool HF.out.symm, hl.trans (hle.trans hw1)⟩
      · have HF : Hid (pasL xs L a = false) := by show _ = _; rw [HX.out, HE.out, HA.out, HP.out, q0]; rfl
        clear HE HA HP
        go_wp2_with fail
        refine wp_region_ext (by kernel_rfl) (by kernel_rfl) ?_
        repeat (go_big_quiet_step (fail))
        refine wpQuiet_nil ?_
        intro _ hw'
        obtain ⟨gg, rfl⟩ := hw'
        have hw1 := Le.ext wr gg
        generalize wr.ext gg = W2 at *
        go_wp2
        go_ret
        exact ⟨ret_bool HF.out.symm, hl.trans (hle.trans hw1)⟩
    · have HF : Hid (pasL xs L a = true) := by show _ = _; rw [HX.out, HE.out, List.drop_eq_nil_of_le (by omega)]; rfl
      clear HE
      go_wp2
      go_ret
      exact ⟨ret_bool HF.out.symm, hl.trans hle⟩
end

section
structure CvOk (xs : List Cls) (N : Nat) (s : LvS) : Prop where
  ok : LvOk N s
  cx : Cxt s.2.1
  cl : ∀ i (h : i < s.2.1.length), hasK xs s.2.1[i].cls = true
  ca : ∀ i (h : i < s.2.1.length), s.2.1[i].cause = -1
theorem CvOk.lnk {xs : List Cls} {N : Nat} {s : LvS} (h : CvOk xs N s) : Lnk s.2.1 :=
  ⟨fun i hi => by rw [h.ca i hi]; omega, fun i hi => by have := h.cx i hi; omega, fun i hi => by have := h.cx i hi; rw [h.ca i hi]; omega⟩
theorem CvOk.step {xs : List Cls} {N : Nat} {s : LvS} (h : CvOk xs N s) {x : Xit} (hx : xOk xs x = true) : CvOk xs (N + 1) (stX xs x s) := by
  have hs := h.ok.step xs x
  have h3 := h.ok.lo
  have h4 := h.ok.hi
  by_cases k3 : x.kind = 3
  · have e : (stX xs x s).2.1 = s.2.1 ++ [⟨x.a, x.b, -1, s.2.2, false⟩] := by unfold stX; rw [if_neg (by omega), if_neg (by omega), if_pos k3]
    rw [xOk_3 k3, Bool.and_eq_true] at hx
    have key : ∀ i, i < (stX xs x s).2.1.length → i < s.2.1.length ∨ i = s.2.1.length := fun i hi => by
      rw [e, List.length_append] at hi
      have : i < s.2.1.length + 1 := hi
      omega
    refine ⟨hs, fun i hi => ?_, fun i hi => ?_, fun i hi => ?_⟩
    all_goals
      simp only [e]
      rcases key i hi with h1 | h1
      · rw [List.getElem_append_left h1]
        first | exact h.cx i h1 | exact h.cl i h1 | exact h.ca i h1
      · subst h1
        rw [List.getElem_append_right (Nat.le_refl _)]
        simp only [Nat.sub_self, List.getElem_cons_zero]
        first | exact hx.1 | (exact ⟨by omega, by omega⟩) | (show (-1 : Int) = -1; rfl) | skip
  · have e : (stX xs x s).2.1 = s.2.1 := by
      unfold stX
      by_cases k1 : x.kind = 1
      · rw [if_pos k1]
      · rw [if_neg k1]
        by_cases k2 : x.kind = 2
        · rw [if_pos k2]
        · rw [if_neg k2, if_neg k3]
    refine ⟨hs, ?_, fun i hi => ?_, fun i hi => ?_⟩
    · rw [e]; exact h.cx
    · simp only [e]; exact h.cl i (by rw [e] at hi; exact hi)
    · simp only [e]; exact h.ca i (by rw [e] at hi; exact hi)
theorem CvOk.all {xs : List Cls} {N : Nat} {s : LvS} (h : CvOk xs N s) : ∀ (K : List Xit), (∀ x ∈ K, xOk xs x = true) → CvOk xs (N + K.length) (clX xs K s)
  | [], _ => h
  | x :: K, hK => (CvOk.all h K fun y hy => hK y (List.mem_cons_of_mem _ hy)).step (hK x (List.mem_cons_self ..))
theorem CvOk.start {xs : List Cls} {has : Bool} {cl k : Int} (h : has = true → hasK xs cl = true) : CvOk xs 10 (stS has cl k) := by
  cases has
  · exact ⟨stS_ok _ _ _, fun i hi => absurd hi (Nat.not_lt_zero i), fun i hi => absurd hi (Nat.not_lt_zero i), fun i hi => absurd hi (Nat.not_lt_zero i)⟩
  · have key : ∀ i, i < (stS true cl k).2.1.length → i = 0 := fun i hi => by have : i < 1 := hi; omega
    refine ⟨stS_ok _ _ _, fun i hi => ?_, fun i hi => ?_, fun i hi => ?_⟩
    · have := key i hi; subst this; show (-1 : Int) ≤ -1 ∧ (-1 : Int) < 0; omega
    · have := key i hi; subst this; exact h rfl
    · have := key i hi; subst this; rfl
theorem clX_drop (xs : List Cls) (L : List Xit) (s : LvS) {k : Nat} (h : k < L.length) : clX xs (L.drop k) s = stX xs L[k] (clX xs (L.drop (k + 1)) s) := by rw [List.drop_eq_getElem_cons h]; rfl
theorem tk_AL {xs : List Cls} {N : Nat} {s : LvS} (h : CvOk xs N s) (ht : okTree xs = true) {a : Int} (ha : hasK xs a = true) {k : Nat} (hk : k < s.2.1.length) (e : s.2.2 = (k : Int)) : tkX xs s.2.1 s.2.2 a = if isAL xs s.2.1[k].cls a = true then -1 else s.2.2 := by
  unfold tkX isAx
  rw [if_pos (by omega), e, flC_at hk, ht, h.cl k hk, ha, Bool.true_and, Bool.true_and, Bool.true_and]
end
end Go.Proofs.Ytonpgohigncjeaa
