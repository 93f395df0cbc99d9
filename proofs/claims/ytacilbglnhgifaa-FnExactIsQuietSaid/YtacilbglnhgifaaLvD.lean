/- exits: do of the program: deferred calls made in a loop -/
import Derived.Test.YtacilbglnhgifaaLvB
import Derived.Test.YtacilbglnhgifaaLvC
namespace Go.Proofs.Ytacilbglnhgifaa
open Go.RowKit
abbrev LvS := List Int × List Flt × Int
/-- what one exit does -/
def stX (xs : List Cls) (x : Xit) (s : LvS) : LvS :=
  if x.kind = 1 then (if 0 ≤ s.2.2 then s.1 ++ [x.a] else s.1, s.2.1, s.2.2)
  else if x.kind = 2 then (s.1, s.2.1, tkX xs s.2.1 s.2.2 x.a)
  else if x.kind = 3 then (s.1, s.2.1 ++ [⟨x.a, x.b, -1, s.2.2, false⟩], s.2.1.length)
  else (s.1 ++ [x.a], s.2.1, s.2.2)
/-- what exits do, from the last one to the first one -/
def clX (xs : List Cls) (L : List Xit) (s : LvS) : LvS := L.foldr (stX xs) s
structure LvOk (N : Nat) (s : LvS) : Prop where
  l : s.1.length ≤ N
  h : s.2.1.length ≤ N
  lo : -1 ≤ s.2.2
  hi : s.2.2 < s.2.1.length
theorem tkX_cases (xs : List Cls) (hs : List Flt) (fa a : Int) : tkX xs hs fa a = -1 ∨ tkX xs hs fa a = fa := by
  unfold tkX
  split
  · split
    · exact .inl rfl
    · exact .inr rfl
  · exact .inr rfl
theorem LvOk.step {N : Nat} {s : LvS} (h : LvOk N s) (xs : List Cls) (x : Xit) : LvOk (N + 1) (stX xs x s) := by
  have h1 := h.l
  have h2 := h.h
  have h3 := h.lo
  have h4 := h.hi
  unfold stX
  split
  · exact ⟨by dsimp only; split <;> (try rw [List.length_append]) <;> (try show _ + 1 ≤ _) <;> omega, by dsimp only; omega, h3, h4⟩
  · split
    · refine ⟨by dsimp only; omega, by dsimp only; omega, ?_, ?_⟩ <;> (dsimp only; rcases tkX_cases xs s.2.1 s.2.2 x.a with e | e <;> omega)
    · split
      · refine ⟨by dsimp only; omega, ?_, ?_, ?_⟩ <;> (dsimp only; try rw [List.length_append, List.length_singleton]) <;> omega
      · exact ⟨by dsimp only; rw [List.length_append]; show _ + 1 ≤ _; omega, by dsimp only; omega, h3, h4⟩
theorem act_any (w0 : World) (R m c : Nat) (B : Option Addr) (xs : List Cls) (lv hv : Value) (s : LvS) (x : Xit) (hx : Enc.ok x) (N : Nat) (hN : N ≤ 1000000) (ho : LvOk N s) (w : World) (h : Lv w0 w R B m c xs lv hv s.1 s.2.1 s.2.2) :
    LvTo w0 R B m c xs (kF x.kind) x.a x.b w (stX xs x s).1 (stX xs x s).2.1 (stX xs x s).2.2 := by
  have h1 := ho.l
  have h2 := ho.h
  have h3 := ho.lo
  have h4 := ho.hi
  have hxa : Enc.ok x.a := ⟨hx.2.2.1, hx.2.2.2.1⟩
  unfold stX kF
  by_cases k1 : x.kind = 1
  · rw [if_pos k1, if_pos k1]
    exact tellFault_any w0 R m c B xs lv hv s.1 s.2.1 s.2.2 x.a x.b hxa (by omega) w h
  · rw [if_neg k1, if_neg k1]
    by_cases k2 : x.kind = 2
    · rw [if_pos k2, if_pos k2]
      exact takeFault_any w0 R m c B xs lv hv s.1 s.2.1 s.2.2 x.a x.b h4 w h
    · rw [if_neg k2, if_neg k2]
      by_cases k3 : x.kind = 3
      · rw [if_pos k3, if_pos k3]
        exact putFault_any w0 R m c B xs lv hv s.1 s.2.1 s.2.2 x.a x.b ⟨hx.2.2.1, hx.2.2.2.1, hx.2.2.2.2.1, hx.2.2.2.2.2, by show (-9223372036854775808 : Int) ≤ -1; omega, by show (-1 : Int) ≤ 9223372036854775807; omega, by show (-9223372036854775808 : Int) ≤ s.2.2; omega, by show s.2.2 ≤ 9223372036854775807; omega⟩ (by omega) w h
      · rw [if_neg k3, if_neg k3]
        exact tellAlways_any w0 R m c B xs lv hv s.1 s.2.1 s.2.2 x.a x.b hxa (by omega) w h
/-- an exit's deferred call -/
def dfX (R : Nat) (x : Xit) : Deferred := { target := .fn (.func (kF x.kind)) #[], args := #[.pointer (some ⟨R, 0, none⟩), .int .i64 x.a, .int .i64 x.b] }
theorem inv_kF (k : Int) (args : Array Value) (w : World) : (invoke (.fn (.func (kF k)) #[]) args).run Try.prog w = .ok (.enter (kF k) args) w := by
  unfold kF
  split
  · simp [go_sem]
  · split
    · simp [go_sem]
    · split <;> simp [go_sem]
theorem leaves_do {fn : Func} {tmps : Array Value} (hr : ∀ w, (results fn tmps).run Try.prog w = .ok (.tuple #[]) w) (w0 : World) (R m c : Nat) (B : Option Addr) (xs : List Cls) (Q : Ending → World → Prop) : ∀ (K : List Xit) (_ : ∀ x ∈ K, Enc.ok x) (s : LvS) (N : Nat) (_ : N + K.length ≤ 1000000) (_ : LvOk N s) (lv hv : Value) (w : World) (_ : Lv w0 w R B m c xs lv hv s.1 s.2.1 s.2.2)
    (_ : ∀ w' lv' hv', Lv w0 w' R B m c xs lv' hv' (K.foldl (fun s x => stX xs x s) s).1 (K.foldl (fun s x => stX xs x s) s).2.1 (K.foldl (fun s x => stX xs x s) s).2.2 → Q (.returned (.tuple #[])) w'),
    Leaves Try.prog fn tmps Q (K.map (dfX R)) .returning w
  | [], _, s, N, _, _, lv, hv, w, h, hQ => ⟨.tuple #[], hr w, hQ w lv hv h⟩
  | x :: K, hK, s, N, hN, ho, lv, hv, w, h, hQ => by
    rw [List.length_cons] at hN
    refine leaves_cons (f := kF x.kind) (args := #[.pointer (some ⟨R, 0, none⟩), .int .i64 x.a, .int .i64 x.b]) (by simp) (inv_kF _ _ _) ?_
    refine ((act_any w0 R m c B xs lv hv s x (hK x (List.mem_cons_self ..)) N (by omega) ho w h).2 .returning).mono ?_
    rintro e u' w' ⟨rfl, rfl, lv', hv', h'⟩
    exact leaves_do hr w0 R m c B xs Q K (fun y hy => hK y (List.mem_cons_of_mem _ hy)) (stX xs x s) (N + 1) (by omega) (ho.step xs x) lv' hv' w' h' hQ
set_option maxHeartbeats 2000000 in
set_option maxRecDepth 100000 in
theorem do_any (w0 : World) (R m c : Nat) (B : Option Addr) (xs : List Cls) (lv hv : Value) (s : LvS) (L : List Xit) (hok : ∀ x ∈ L, Enc.ok x) (hl : L.length ≤ 100000) (ho : LvOk 10 s) (w : World) (h : Lv w0 w R B m c xs lv hv s.1 s.2.1 s.2.2) (A : Option Addr) (n cap : Nat) (hA : Sl w A n cap (L.map Stp.mk)) :
    Calls Try.prog 55 #[.pointer (some ⟨R, 0, none⟩), .slice A n cap] w fun e w' => e = .returned (.tuple #[]) ∧ ∃ lv' hv', Lv w0 w' R B m c xs lv' hv' (clX xs L s).1 (clX xs L s).2.1 (clX xs L s).2.2 := by
  have hn : n = L.length := by have := hA.len; rw [List.length_map] at this; exact this.symm
  subst hn
  go_enter_defers Try.func55, Try.ntmps55
  go_wp2
  refine wp_loop (fun a wr => ∃ (D : List Deferred) (u5 u8 u9 u10 u11 u12 u13 u14 u15 u16 u17 u18 u19 : Value), (∃ k : Nat, k ≤ L.length ∧ u8 = .int .i64 k ∧ Le w wr ∧ D = ((L.take k).reverse).map (dfX R)) ∧ a = { tmps := #[.pointer (some ⟨R, 0, none⟩), .slice A L.length cap, undef, undef, undef, u5, .slice A L.length cap, .int .i64 L.length, u8, u9, u10, u11, u12, u13, u14, u15, u16, u17, u18, u19], defers := D }) (fun a _ => L.length - (intOf (a.tmps.getD 8 undef)).toNat) ?_ ?_
  · repeat apply Exists.intro
    exact ⟨⟨0, Nat.zero_le _, rfl, Le.refl w, rfl⟩, rfl⟩
  · rintro a wr ⟨D, u5, u8, u9, u10, u11, u12, u13, u14, u15, u16, u17, u18, u19, ⟨k, hk, rfl, LL, hD⟩, rfl⟩
    try dsimp only
    by_cases hlt : k < L.length
    · have hk0 : (0 : Int) ≤ (k : Int) := by omega
      have hkn : (k : Int) < (L.length : Int) := by omega
      obtain ⟨b, off, rfl, hb, d0, d1, d2⟩ := (hA.le LL).stp_at hlt
      have HD : Hid (dfX R L[k] :: D = ((L.take (k + 1)).reverse).map (dfX R)) := by
        show _ = _
        rw [hD, List.take_succ_eq_append_getElem hlt, List.reverse_append]; rfl
      unfold dfX at HD
      clear hD h hA ho hok
      generalize kF L[k].kind = F at *
      generalize L[k].a = va at *
      generalize L[k].b = vb at *
      have LW := Lib.hid (LL.trans (Le.new wr (.cells #[.func (.func F) #[] #[], .int .i64 va, .int .i64 vb] 109)))
      have hst := fun (w' : World) (a : Addr) => run_store Try.prog w' a (.func (.func F) #[] #[]) .plain rfl
      go_wp2
      refine ⟨?_, ?_⟩
      · show ∃ _, _
        repeat apply Exists.intro
        refine ⟨?rel, rfl⟩
        case rel => exact ⟨k + 1, by omega, by go_num, LW.out, HD.out⟩
      · simp [intOf]; omega
    · have hkn : k = L.length := by omega
      have HL := Lib.hid (h.le LL)
      have HD : Hid (D = (L.reverse).map (dfX R)) := by
        show _ = _
        rw [hD, hkn, List.take_length]
      clear hD h hA
      go_wp2
      show Leaves Try.prog _ _ _ D .returning wr
      rw [HD.out]
      refine leaves_do (fun w => results_none rfl _ _ _) w0 R m c B xs _ L.reverse (fun x hx => hok x (List.mem_reverse.1 hx)) s 10 (by rw [List.length_reverse]; omega) ho lv hv wr HL.out ?_
      intro w' lv' hv' h'
      rw [List.foldl_reverse] at h'
      exact ⟨rfl, lv', hv', h'⟩
end Go.Proofs.Ytacilbglnhgifaa
