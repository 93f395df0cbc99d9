/- one text of XkP, TtB, Bu, XkC, XkD -/
import Derived.Test.YtnpcmlcigeccmaaDoorCv9
import Derived.Test.YtnpcmlcigeccmaaDoorCv5
import Derived.Test.YtnpcmlcigeccmaaDoorCv8
import Derived.Test.YtnpcmlcigeccmaaDoorShelf
import Derived.Test.YtnpcmlcigeccmaaDoorCv2
import Derived.Deep.RegionHeld3
namespace Go.Proofs.YtnpcmlcigeccmaaDoor
open Go.RowKit
set_option linter.unusedVariables false
section
def wCall : List UInt8 := [99, 97, 108, 108]
def wTell : List UInt8 := [116, 101, 108, 108]
def wCatch : List UInt8 := [99, 97, 116, 99, 104]
def wRaise : List UInt8 := [114, 97, 105, 115, 101]
/-- the text of an exit, of exits -/
def xtB (xs : List Cls) (x : Xit) : List UInt8 :=
  if x.kind = 2 then wCatch ++ 32 :: clN xs x.a else if x.kind = 3 then wRaise ++ 32 :: (clN xs x.a ++ 32 :: numL x.b.toNat) else if x.kind = 1 then wTell ++ 32 :: numL x.a.toNat else wCall ++ 32 :: numL x.a.toNat
def xsB (xs : List Cls) (L : List Xit) : List UInt8 := catN (L.map (xtB xs))
/-- the kind of a word -/
def xkW (w : List UInt8) : Int := if w = wCall then 0 else if w = wTell then 1 else if w = wCatch then 2 else if w = wRaise then 3 else -1
/-- the exit of a text: the program's, the model's -/
def pXI (xs : List Cls) (l : List UInt8) : Xit :=
  let W := splitL 32 l
  let k := xkW (atW W 0)
  if k = 0 ∨ k = 1 then ⟨k, atI (atW W 1), 0⟩ else if k = 2 then ⟨k, findN xs (tb (atW W 1)) 0, 0⟩ else if k = 3 then ⟨k, findN xs (tb (atW W 1)) 0, atI (atW W 2)⟩ else ⟨k, 0, 0⟩
def pXS (xs : List Cls) (l : List UInt8) : Xit :=
  let W := splitL 32 l
  let k := xkW (atW W 0)
  ⟨k, if 1 < W.length ∧ 2 ≤ k then findN xs (tb (atW W 1)) 0 else if 1 < W.length then rdN 100 (atW W 1) else -1, if 2 < W.length then rdN 100 (atW W 2) else 0⟩
theorem rng_iff' {a b x : Int} : rng a b x = true ↔ a ≤ x ∧ x ≤ b := by unfold rng; simp
theorem has_nat {xs : List Cls} {a : Int} (h : hasK xs a = true) : ∃ k : Nat, a = k ∧ k < xs.length := by
  obtain ⟨h1, h2⟩ := hasK_iff.1 h
  exact ⟨a.toNat, by omega, by omega⟩
theorem xOk_cases {xs : List Cls} {x : Xit} (h : xOk xs x = true) :
    (∃ n : Nat, n < 100 ∧ x = ⟨0, n, 0⟩) ∨ (∃ n : Nat, n < 100 ∧ x = ⟨1, n, 0⟩) ∨ (∃ k : Nat, k < xs.length ∧ x = ⟨2, k, 0⟩) ∨ (∃ k n : Nat, k < xs.length ∧ n < 100 ∧ x = ⟨3, k, n⟩) := by
  obtain ⟨kd, a, b⟩ := x
  by_cases h0 : kd = 0
  · rw [xOk_01 (.inl h0), Bool.and_eq_true, rng_iff', beq_iff_eq] at h
    dsimp only at h
    exact .inl ⟨a.toNat, by omega, by rw [h0, h.2]; congr 1; omega⟩
  by_cases h1 : kd = 1
  · rw [xOk_01 (.inr h1), Bool.and_eq_true, rng_iff', beq_iff_eq] at h
    dsimp only at h
    exact .inr (.inl ⟨a.toNat, by omega, by rw [h1, h.2]; congr 1; omega⟩)
  by_cases h2 : kd = 2
  · rw [xOk_2 h2, Bool.and_eq_true, beq_iff_eq] at h
    obtain ⟨k, e, hk⟩ := has_nat h.1
    dsimp only at h e
    exact .inr (.inr (.inl ⟨k, hk, by rw [h2, e, h.2]⟩))
  by_cases h3 : kd = 3
  · rw [xOk_3 h3, Bool.and_eq_true, rng_iff'] at h
    obtain ⟨k, e, hk⟩ := has_nat h.1
    dsimp only at h e
    exact .inr (.inr (.inr ⟨k, b.toNat, hk, by omega, by rw [h3, e]; congr 1; omega⟩))
  · rw [xOk_no h0 h1 h2 h3] at h; cases h
theorem no32 : (32 : UInt8) ∉ wCall ∧ (32 : UInt8) ∉ wTell ∧ (32 : UInt8) ∉ wCatch ∧ (32 : UInt8) ∉ wRaise := by decide
theorem no10 : (10 : UInt8) ∉ wCall ∧ (10 : UInt8) ∉ wTell ∧ (10 : UInt8) ∉ wCatch ∧ (10 : UInt8) ∉ wRaise := by decide
theorem split2 {a b : List UInt8} (ha : (32 : UInt8) ∉ a) (hb : (32 : UInt8) ∉ b) : splitL 32 (a ++ 32 :: b) = [a, b] := by rw [splitL_line ha, splitL_one hb]
theorem split3 {a b c : List UInt8} (ha : (32 : UInt8) ∉ a) (hb : (32 : UInt8) ∉ b) (hc : (32 : UInt8) ∉ c) : splitL 32 (a ++ 32 :: (b ++ 32 :: c)) = [a, b, c] := by rw [splitL_line ha, splitL_line hb, splitL_one hc]
theorem num32 {n : Nat} (h : n < 100) : (32 : UInt8) ∉ numL n := numL_not (by omega) (by decide)
theorem num10 {n : Nat} (h : n < 100) : (10 : UInt8) ∉ numL n := numL_not (by omega) (by decide)
theorem cl_no {xs : List Cls} (g : Good xs) {k : Nat} (h : k < xs.length) {c : UInt8} (hc : c.toNat < 97) : c ∉ clN xs k := by
  rw [clN_at h]; exact not_mem_name (g.name k h) hc
theorem cl_find {xs : List Cls} (g : Good xs) {k : Nat} (h : k < xs.length) : findN xs (tb (clN xs k)) 0 = k := by
  rw [clN_at h, tb_bl]; exact findN_here g h
theorem xt_split {xs : List Cls} (g : Good xs) {x : Xit} (h : xOk xs x = true) : pXI xs (xtB xs x) = x ∧ pXS xs (xtB xs x) = x ∧ (10 : UInt8) ∉ xtB xs x ∧ (xtB xs x).length ≤ 15 := by
  have nz : ∀ n : Nat, ((n : Int)).toNat = n := fun n => by omega
  rcases xOk_cases h with ⟨n, hn, rfl⟩ | ⟨n, hn, rfl⟩ | ⟨k, hk, rfl⟩ | ⟨k, n, hk, hn, rfl⟩
  · have e : xtB xs ⟨0, n, 0⟩ = wCall ++ 32 :: numL n := by unfold xtB; rw [if_neg (by dsimp only; omega), if_neg (by dsimp only; omega), if_neg (by dsimp only; omega)]; dsimp only; rw [nz]
    have es := split2 no32.1 (num32 hn)
    refine ⟨?_, ?_, ?_, ?_⟩
    · unfold pXI; rw [e, es]; show (⟨0, atI (numL n), 0⟩ : Xit) = _; rw [atI_num (by omega)]
    · unfold pXS; rw [e, es]; show (⟨0, rdN 100 (numL n), 0⟩ : Xit) = _; rw [rdN_num hn (by omega)]
    · rw [e]; intro hm
      rcases List.mem_append.1 hm with hm | hm
      · exact no10.1 hm
      · rcases List.mem_cons.1 hm with hm | hm
        · exact absurd hm (by decide)
        · exact num10 hn hm
    · rw [e, List.length_append, List.length_cons]
      have := numL_sz2 ⟨n, hn⟩
      dsimp only at this
      show 4 + _ ≤ 15; omega
  · have e : xtB xs ⟨1, n, 0⟩ = wTell ++ 32 :: numL n := by unfold xtB; rw [if_neg (by dsimp only; omega), if_neg (by dsimp only; omega), if_pos (by rfl)]; dsimp only; rw [nz]
    have es := split2 no32.2.1 (num32 hn)
    refine ⟨?_, ?_, ?_, ?_⟩
    · unfold pXI; rw [e, es]; show (⟨1, atI (numL n), 0⟩ : Xit) = _; rw [atI_num (by omega)]
    · unfold pXS; rw [e, es]; show (⟨1, rdN 100 (numL n), 0⟩ : Xit) = _; rw [rdN_num hn (by omega)]
    · rw [e]; intro hm
      rcases List.mem_append.1 hm with hm | hm
      · exact no10.2.1 hm
      · rcases List.mem_cons.1 hm with hm | hm
        · exact absurd hm (by decide)
        · exact num10 hn hm
    · rw [e, List.length_append, List.length_cons]
      have := numL_sz2 ⟨n, hn⟩
      dsimp only at this
      show 4 + _ ≤ 15; omega
  · have e : xtB xs ⟨2, k, 0⟩ = wCatch ++ 32 :: clN xs k := by unfold xtB; rw [if_pos (by rfl)]
    have es := split2 no32.2.2.1 (cl_no g hk (c := 32) (by decide))
    refine ⟨?_, ?_, ?_, ?_⟩
    · unfold pXI; rw [e, es]; show (⟨2, findN xs (tb (clN xs k)) 0, 0⟩ : Xit) = _; rw [cl_find g hk]
    · unfold pXS; rw [e, es]; show (⟨2, findN xs (tb (clN xs k)) 0, 0⟩ : Xit) = _; rw [cl_find g hk]
    · rw [e]; intro hm
      rcases List.mem_append.1 hm with hm | hm
      · exact no10.2.2.1 hm
      · rcases List.mem_cons.1 hm with hm | hm
        · exact absurd hm (by decide)
        · exact cl_no g hk (by decide) hm
    · rw [e, List.length_append, List.length_cons, clN_at hk]
      have := (name_rng (g.name k hk)).2.2
      show 5 + _ ≤ 15; omega
  · have e : xtB xs ⟨3, k, n⟩ = wRaise ++ 32 :: (clN xs k ++ 32 :: numL n) := by unfold xtB; rw [if_neg (by dsimp only; omega), if_pos (by rfl)]; dsimp only; rw [nz]
    have es := split3 no32.2.2.2 (cl_no g hk (c := 32) (by decide)) (num32 hn)
    refine ⟨?_, ?_, ?_, ?_⟩
    · unfold pXI; rw [e, es]; show (⟨3, findN xs (tb (clN xs k)) 0, atI (numL n)⟩ : Xit) = _; rw [cl_find g hk, atI_num (by omega)]
    · unfold pXS; rw [e, es]; show (⟨3, findN xs (tb (clN xs k)) 0, rdN 100 (numL n)⟩ : Xit) = _; rw [cl_find g hk, rdN_num hn (by omega)]
    · rw [e]; intro hm
      rcases List.mem_append.1 hm with hm | hm
      · exact no10.2.2.2 hm
      · rcases List.mem_cons.1 hm with hm | hm
        · exact absurd hm (by decide)
        · rcases List.mem_append.1 hm with hm | hm
          · exact cl_no g hk (by decide) hm
          · rcases List.mem_cons.1 hm with hm | hm
            · exact absurd hm (by decide)
            · exact num10 hn hm
    · rw [e, List.length_append, List.length_cons, List.length_append, List.length_cons, clN_at hk]
      have := (name_rng (g.name k hk)).2.2
      have := numL_sz2 ⟨n, hn⟩
      dsimp only at this
      show 5 + _ ≤ 15; omega
theorem map_same {α : Type} {f : α → α} : ∀ {L : List α}, (∀ x ∈ L, f x = x) → L.map f = L
  | [], _ => rfl
  | x :: r, h => by rw [List.map_cons, h x (by simp), map_same (fun y hy => h y (List.mem_cons_of_mem _ hy))]
def linI (xs : List Cls) (s : List UInt8) : List Xit := (linesT s).map (pXI xs)
def linS (xs : List Cls) (s : List UInt8) : List Xit := ((splitL 10 s).take ((splitL 10 s).length - 1)).map (pXS xs)
theorem xs_read {xs : List Cls} {L : List Xit} (h : vxs xs L = true) : linI xs (xsB xs L) = L ∧ linS xs (xsB xs L) = L ∧ (linesT (xsB xs L)).length ≤ 8 := by
  obtain ⟨ht, hl, hx⟩ := vxs_iff.1 h
  have g := good_of ht
  have hn : ∀ a ∈ L.map (xtB xs), (10 : UInt8) ∉ a := fun a ha => by
    obtain ⟨x, hx2, rfl⟩ := List.mem_map.1 ha
    exact (xt_split g (hx x hx2)).2.2.1
  unfold linI linS xsB
  rw [linesT_cat hn, split_cat hn]
  refine ⟨?_, ?_, ?_⟩
  · rw [List.map_map]; exact map_same (fun x h2 => (xt_split g (hx x h2)).1)
  · rw [List.length_append, List.length_singleton, Nat.add_sub_cancel, List.take_left', List.map_map]
    · exact map_same (fun x h2 => (xt_split g (hx x h2)).2.1)
    · rfl
  · rw [List.length_map]; exact hl
theorem xs_len {xs : List Cls} {L : List Xit} (h : vxs xs L = true) : (xsB xs L).length ≤ 128 := by
  obtain ⟨ht, hl, hx⟩ := vxs_iff.1 h
  have := catN_len (m := 15) (L := L.map (xtB xs)) (fun a ha => by
    obtain ⟨x, hx2, rfl⟩ := List.mem_map.1 ha
    exact (xt_split (good_of ht) (hx x hx2)).2.2.2)
  rw [List.length_map] at this
  show (catN _).length ≤ _; omega
theorem xs_count {xs : List Cls} {L : List Xit} (h : vxs xs L = true) : (xsB xs L).count 10 = L.length := by
  obtain ⟨ht, hl, hx⟩ := vxs_iff.1 h
  unfold xsB
  rw [count_catN (fun a ha => by
    obtain ⟨x, hx2, rfl⟩ := List.mem_map.1 ha
    exact (xt_split (good_of ht) (hx x hx2)).2.2.1), List.length_map]
/-- the exits of a text -/
noncomputable def xkX (xs : List Cls) (s : List UInt8) : List Xit := open Classical in if h : ∃ L, vxs xs L = true ∧ xsB xs L = s then h.choose else []
noncomputable def xkO (xs : List Cls) (s : List UInt8) : Bool := open Classical in if ∃ L, vxs xs L = true ∧ xsB xs L = s then true else false
theorem xk_some {xs : List Cls} {L : List Xit} {s : List UInt8} (h : vxs xs L = true) (e : xsB xs L = s) : xkO xs s = true ∧ xkX xs s = L := by
  have hex : ∃ L, vxs xs L = true ∧ xsB xs L = s := ⟨L, h, e⟩
  refine ⟨by unfold xkO; rw [if_pos hex], ?_⟩
  unfold xkX
  rw [dif_pos hex]
  have h1 := (xs_read hex.choose_spec.1).1
  rw [hex.choose_spec.2] at h1
  have h2 := (xs_read h).1
  rw [e] at h2
  exact h1.symm.trans h2
theorem xk_none {xs : List Cls} {s : List UInt8} (h : ∀ L, vxs xs L = true → xsB xs L ≠ s) : xkO xs s = false ∧ xkX xs s = [] := by
  have hex : ¬ ∃ L, vxs xs L = true ∧ xsB xs L = s := fun ⟨L, h1, h2⟩ => h L h1 h2
  exact ⟨by unfold xkO; rw [if_neg hex], by unfold xkX; rw [dif_neg hex]⟩
theorem xk_many {xs : List Cls} {s : List UInt8} (h : 8 < (linesT s).length) : xkO xs s = false ∧ xkX xs s = [] := xk_none fun L h1 e => by
  have := (xs_read h1).2.2
  rw [e] at this; omega
theorem xk_v {xs : List Cls} {s : List UInt8} (h : vxs xs (linI xs s) = false) : xkO xs s = false ∧ xkX xs s = [] := xk_none fun L h1 e => by
  have h2 := (xs_read h1).1
  rw [e] at h2
  rw [h2, h1] at h; cases h
theorem xk_text {xs : List Cls} {s : List UInt8} (e : xsB xs (linI xs s) ≠ s) : xkO xs s = false ∧ xkX xs s = [] := xk_none fun L h1 e2 => by
  have h2 := (xs_read h1).1
  rw [e2] at h2
  rw [h2] at e; exact e e2
theorem xks_v {xs : List Cls} {s : List UInt8} (h : vxs xs (linS xs s) = false) : xkO xs s = false ∧ xkX xs s = [] := xk_none fun L h1 e => by
  have h2 := (xs_read h1).2.1
  rw [e] at h2
  rw [h2, h1] at h; cases h
theorem xks_text {xs : List Cls} {s : List UInt8} (e : xsB xs (linS xs s) ≠ s) : xkO xs s = false ∧ xkX xs s = [] := xk_none fun L h1 e2 => by
  have h2 := (xs_read h1).2.1
  rw [e2] at h2
  rw [h2] at e; exact e e2
theorem xks_tree {xs : List Cls} {s : List UInt8} (h : okTree xs = false) : xkO xs s = false ∧ xkX xs s = [] := xk_none fun L h1 e => by
  rw [(vxs_iff.1 h1).1] at h; cases h
theorem xk_len (xs : List Cls) (s : List UInt8) : (xkX xs s).length ≤ 8 := by
  by_cases hex : ∃ L, vxs xs L = true ∧ xsB xs L = s
  · obtain ⟨L, h1, h2⟩ := hex
    rw [(xk_some h1 h2).2]; exact (vxs_iff.1 h1).2.1
  · rw [(xk_none (fun L h1 h2 => hex ⟨L, h1, h2⟩)).2]; exact Nat.zero_le _
/-- the answer of ExitsText -/
def xtX (xs : List Cls) (L : List Xit) : ByteArray := cond (vxs xs L) (tb (xsB xs L)) ByteArray.empty
theorem xtX_of {xs : List Cls} {L : List Xit} {b : Bool} (h : vxs xs L = b) : xtX xs L = cond b (tb (xsB xs L)) ByteArray.empty := by unfold xtX; rw [h]
theorem xtX_len (xs : List Cls) (L : List Xit) : (xtX xs L).size ≤ 128 := by
  cases h : vxs xs L
  · rw [xtX_of h]; exact Nat.zero_le _
  · rw [xtX_of h]; exact xs_len h
end

section
def nlT : ByteArray := ⟨#[10]⟩
def spT : ByteArray := ⟨#[32]⟩
theorem bl_nl : bl nlT = [10] := rfl
theorem bl_sp : bl spT = [32] := rfl
theorem acc_len {acc : ByteArray} {r : List UInt8} {l : List UInt8} (h : bl acc ++ r = l) (hl : l.length ≤ 112) : acc.size ≤ 112 := by
  have := congrArg List.length h
  rw [List.length_append, bl_len] at this
  omega
theorem step_root {xs : List Cls} (g : Good xs) (h : 0 < xs.length) {acc : ByteArray} (hs : bl acc ++ txB xs (xs.drop 0) = treeB xs) : bl (acc ++ xs[0].name ++ nlT) ++ txB xs (xs.drop (0 + 1)) = treeB xs := by
  rw [← hs, txB_at h, lnB_root g h, bl_app, bl_app, bl_nl]; simp
theorem step_up {xs : List Cls} (g : Good xs) {k : Nat} (h : k < xs.length) (h0 : 0 < k) {acc : ByteArray} (hs : bl acc ++ txB xs (xs.drop k) = treeB xs) : ∃ p : Nat, ∃ hp : p < xs.length, xs[k].parent = (p : Int) ∧ bl (acc ++ xs[k].name ++ spT ++ xs[p].name ++ nlT) ++ txB xs (xs.drop (k + 1)) = treeB xs := by
  obtain ⟨p, hp, e, e2⟩ := lnB_up g h h0
  refine ⟨p, by omega, e, ?_⟩
  rw [← hs, txB_at h, e2, bl_app, bl_app, bl_app, bl_app, bl_nl, bl_sp]; simp
def ttX (xs : List Cls) : ByteArray := cond (okTree xs) (tb (treeB xs)) ByteArray.empty
theorem ttX_of {xs : List Cls} {t : Bool} (h : okTree xs = t) : ttX xs = cond t (tb (treeB xs)) ByteArray.empty := by unfold ttX; rw [h]
end

section
theorem bldSize : (Tryd.prog.info? 56).map (·.size) = some 2 := by kernel_rfl
theorem bldLies : liesAt Tryd.prog Tryd.prog.depth 56 (2 / Tryd.prog.cellsOf 56) 0 56 1 = true := by kernel_rfl
theorem bldByte : (Tryd.prog.info? 5).map (fun i => (i.zero, i.size, i.bytes)) = some (some (.int .u8 0), 1, 1) := by kernel_rfl
/-- the builder at block b holds these bytes; its rows lie from B on -/
def Bl (B b : Nat) (l : List UInt8) (w : World) : Prop := Lib.IsBuilderF 56 5 B b (Lib.byteCells l) w
set_option maxRecDepth 100000 in
theorem copyCheck_any (B b : Nat) (bs : List Value) (w : World) (h : Lib.IsBuilderF 56 5 B b bs w) :
    Calls Tryd.prog 51 #[.pointer (some ⟨b, 0, none⟩)] w fun e w' => e = .returned (.tuple #[]) ∧ Lib.BuilderAtF 56 5 B b (.pointer (some ⟨b, 0, none⟩)) bs w' ∧ Below B w w' ∧ Lib.OthersKept 5 (some b) w w' := by
  obtain ⟨j, hj, hjs⟩ := Option.map_eq_some_iff.1 bldSize
  rcases h with h | h
  · have h0 := h.cell0
    have hsh := h.shape
    have hfz := h.frozen0
    refine Calls.mono (R := fun e w' => e = .returned (.tuple #[]) ∧ w' = w.setCell ⟨b, 0, none⟩ (.pointer (some ⟨b, 0, none⟩))) ?_ ?_
    · go_enter Tryd.func51, Tryd.ntmps51
      go_wp2
      rw [Lib.run_to_unsafe w ⟨b, 0, none⟩ Tryd.underlying54 Tryd.underlying108 hj (by rw [hjs]; decide) hsh (Nat.zero_lt_succ 1)]
      simp only [Result.andThen]
      rw [Oper.upon_value]
      go_wp2
      rw [run_callFunc_extern Tryd.func77 (by kernel_rfl) (by kernel_rfl) (by kernel_rfl) (e := Extern.AbiNoEscape.same) (by kernel_rfl)]
      rw [Lib.run_noEscape]
      simp only [Result.andThen]
      rw [Oper.upon_value]
      go_wp2
      rw [Lib.run_from_unsafe w ⟨b, 0, none⟩ Tryd.underlying108 Tryd.underlying54 hj hsh bldLies]
      simp only [Result.andThen]
      rw [Oper.upon_value]
      go_wp2
      go_end0
      exact ⟨rfl, rfl⟩
    · rintro e w' ⟨rfl, rfl⟩
      exact ⟨rfl, h.used _, (Below.refl B w).setCell (p := ⟨b, 0, none⟩) h.1 _, (Lib.OthersKept.refl _ _ w).setCell ⟨b, 0, none⟩ rfl _⟩
  · have h0 := h.cell0
    refine Calls.mono (R := fun e w' => e = .returned (.tuple #[]) ∧ w' = w) ?_ ?_
    · go_enter Tryd.func51, Tryd.ntmps51
      go_wp2
      rw [Lib.run_neq_ptr_same w _ Tryd.underlying54 hj]
      go_wp2
      go_end0
      exact ⟨rfl, rfl⟩
    · rintro e w' ⟨rfl, rfl⟩
      exact ⟨rfl, h, Below.refl B _, Lib.OthersKept.refl _ _ _⟩
set_option maxRecDepth 100000 in
theorem writeString_any (B b : Nat) (l : List UInt8) (s : ByteArray) (w : World) (h : Bl B b l w) (hl : l.length + s.size ≤ 1000000) (hBw : B ≤ w.heap.size) :
    Calls Tryd.prog 27 #[.pointer (some ⟨b, 0, none⟩), .string s] w fun e w' => e = .returned (.tuple #[.int .i64 s.size, .nilIface]) ∧ Bl B b (l ++ bl s) w' ∧ Below B w w' ∧ Lib.OthersKept 5 (some b) w w' := by
  obtain ⟨i0, hi, hz0, hz1, hz2⟩ := info_parts bldByte
  have hlen : (Lib.byteCells l).length = l.length := Lib.byteCells_length l
  go_enter Tryd.func27, Tryd.ntmps27
  go_wp2_with (go_at_call 51; refine (copyCheck_any B b _ _ h).mono ?_)
  rintro e w1 ⟨rfl, h1, hb1, hk1⟩
  obtain ⟨hB, v, hbk, hown, hne⟩ := h1
  have c0 : w1.cell? ⟨b, 0, none⟩ = some (.pointer (some ⟨b, 0, none⟩)) := by rw [Lib.cell_of_heap hbk]; rfl
  have c1 : w1.cell? ⟨b, 1, none⟩ = some v := by rw [Lib.cell_of_heap hbk]; rfl
  go_wp2_with (at_builtin; refine Lib.wpList_append_own_stringF _ rfl _ _ 22 9 rfl B 5 i0 Tryd.underlying22 Tryd.underlying9 hi hz0 hz1 hz2 _ _ _ rfl hown s rfl ?c3 ?c4 ?c5 ?_)
  case c3 => unfold maxLen; omega
  case c4 => omega
  case c5 => have := hb1.size; omega
  intro v' w2 hown' hgrow _
  have hlt : b < w1.heap.size := by
    rcases Nat.lt_or_ge b w1.heap.size with h' | h'
    · exact h'
    · simp [Array.getElem?_eq_none h'] at hbk
  have hb2 : w2.heap[b]? = some (.cells #[.pointer (some ⟨b, 0, none⟩), v] 56 (0, 0)) := by
    rw [hgrow.block b hlt (fun e => hne e.symm)]
    exact hbk
  have d0 : w2.cell? ⟨b, 0, none⟩ = some (.pointer (some ⟨b, 0, none⟩)) := by rw [Lib.cell_of_heap hb2]; rfl
  have d1 : w2.cell? ⟨b, 1, none⟩ = some v := by rw [Lib.cell_of_heap hb2]; rfl
  have f1 : w2.frozen? ⟨b, 1, none⟩ = false := Lib.frozen_of_heap hb2 1
  obtain ⟨ao, n', cap, rfl⟩ : ∃ ao n' cap, v' = .slice ao n' cap := by
    rcases hown'.2 with ⟨hv, _⟩ | ⟨g, cap, cur, fz, hv, _⟩
    · exact ⟨_, _, _, hv⟩
    · exact ⟨_, _, _, hv⟩
  go_wp2
  go_ret2
  refine ⟨rfl, ?_, ?_, (hk1.grown hgrow (Lib.ownsRowF_kind hown)).setCell ⟨b, 1, none⟩ rfl _⟩
  · refine Or.inr (Lib.BuilderAtF.put (T := 56) (e := 5) hB hb2 (bs' := Lib.byteCells (l ++ bl s)) ?_ (by decide))
    have e1 : Lib.byteCells (l ++ bl s) = Lib.byteCells l ++ Lib.strCells s := Lib.byteCells_append l (bl s)
    rw [e1, List.length_append, Lib.strCells_length, hlen]; exact hown'
  · exact (hb1.grown hgrow (by have := hb1.size; omega) (fun k hk => (hown.lt k hk).1)).setCell (p := ⟨b, 1, none⟩) hB _
theorem builderText_any (B b : Nat) (l : List UInt8) (w : World) (h : Bl B b l w) (hBw : B ≤ w.heap.size) :
    Calls Tryd.prog 29 #[.pointer (some ⟨b, 0, none⟩)] w fun e w' => e = .returned (.string (tb l)) ∧ Below B w w' :=
  (Tryd.Builder_String_any_k B b l w h hBw).mono fun _ _ ⟨he, _, hb, _⟩ => ⟨he, hb⟩
/-- a cell of a block that is no row of bytes and not the builder's -/
theorem kept_cell {b k : Nat} {w w' : World} (h : Lib.OthersKept 5 (some b) w w') {cs : Array Value} {T : TypeId} {fz : Nat × Nat} (hk : w.heap[k]? = some (.cells cs T fz)) (hb : k ≠ b) (hT : T ≠ 5) : w'.heap[k]? = some (.cells cs T fz) :=
  h k _ hk (fun e => hb (by injection e)) (fun c f e => hT (by injection e))
theorem bl_fresh (w : World) : Bl w.heap.size w.heap.size [] (w.alloc (.cells #[.pointer none, .slice none 0 0] 56)) := Lib.IsBuilderF.of (Lib.fresh_isBuilder 56 5 w)
end

section
def xwCells : Array Value := #[.string (tb wCall), .string (tb wTell), .string (tb wCatch), .string (tb wRaise)]
/-- the words of exits lie there -/
def ExW (w : World) : Prop := w.var? Tryd.prog "loop.example/faultcleanup/impl.exitWords" = some xwCells
theorem ExW.le {w w' : World} (h : ExW w) (hl : Le w w') : ExW w' := var_le h hl
theorem exw_named : Tryd.prog.globalNamed "loop.example/faultcleanup/impl.exitWords" = some 0 := by kernel_rfl
theorem ExW.at {w : World} (h : ExW w) : w.cell? ⟨0, 0, none⟩ = some (.string (tb wCall)) ∧ w.cell? ⟨0, 1, none⟩ = some (.string (tb wTell)) ∧ w.cell? ⟨0, 2, none⟩ = some (.string (tb wCatch)) ∧ w.cell? ⟨0, 3, none⟩ = some (.string (tb wRaise)) :=
  ⟨World.var?_cell exw_named h 0, World.var?_cell exw_named h 1, World.var?_cell exw_named h 2, World.var?_cell exw_named h 3⟩
theorem tb_eq {a : List UInt8} {s : ByteArray} : tb a = s ↔ bl s = a := ⟨fun h => by rw [← h, bl_tb], fun h => by rw [← h, tb_bl]⟩
theorem str_yes (s : ByteArray) : (s.toList == s.toList) = true := by simp
theorem ix0 (k0 k1 k2 k3 : ByteArray) : ∀ w : World, (Instr.index 87 (.agg #[.string k0, .string k1, .string k2, .string k3]) (.int .i64 0)).run Tryd.prog w = .ok (.string k0) w := fun w => by
  simp [Instr.index, run_underlying Tryd.underlying87, asIntOf, go_sem]
theorem ix1 (k0 k1 k2 k3 : ByteArray) : ∀ w : World, (Instr.index 87 (.agg #[.string k0, .string k1, .string k2, .string k3]) (.int .i64 1)).run Tryd.prog w = .ok (.string k1) w := fun w => by
  simp [Instr.index, run_underlying Tryd.underlying87, asIntOf, go_sem]
theorem ix2 (k0 k1 k2 k3 : ByteArray) : ∀ w : World, (Instr.index 87 (.agg #[.string k0, .string k1, .string k2, .string k3]) (.int .i64 2)).run Tryd.prog w = .ok (.string k2) w := fun w => by
  simp [Instr.index, run_underlying Tryd.underlying87, asIntOf, go_sem]
theorem ix3 (k0 k1 k2 k3 : ByteArray) : ∀ w : World, (Instr.index 87 (.agg #[.string k0, .string k1, .string k2, .string k3]) (.int .i64 3)).run Tryd.prog w = .ok (.string k3) w := fun w => by
  simp [Instr.index, run_underlying Tryd.underlying87, asIntOf, go_sem]
set_option maxHeartbeats 1000000 in
set_option maxRecDepth 100000 in
theorem exitKind_any (s : ByteArray) (w : World) (hX : ExW w) :
    Calls Tryd.prog 62 #[.string s] w fun e w' => e = .returned (.int .i64 (xkW (bl s))) ∧ w = w' := by
  obtain ⟨c0, c1, c2, c3⟩ := hX.at
  obtain ⟨z, hz⟩ : ∃ z, Hid (xkW (bl s) = z) := ⟨_, Lib.hid rfl⟩
  have H0 : Hid (tb wCall = s → z = 0) := fun h => by rw [← hz.out, xkW, if_pos (tb_eq.1 h)]
  have H1 : Hid (tb wCall ≠ s → tb wTell = s → z = 1) := fun h0 h => by rw [← hz.out, xkW, if_neg (fun e => h0 (tb_eq.2 e)), if_pos (tb_eq.1 h)]
  have H2 : Hid (tb wCall ≠ s → tb wTell ≠ s → tb wCatch = s → z = 2) := fun h0 h1 h => by rw [← hz.out, xkW, if_neg (fun e => h0 (tb_eq.2 e)), if_neg (fun e => h1 (tb_eq.2 e)), if_pos (tb_eq.1 h)]
  have H3 : Hid (tb wCall ≠ s → tb wTell ≠ s → tb wCatch ≠ s → tb wRaise = s → z = 3) := fun h0 h1 h2 h => by rw [← hz.out, xkW, if_neg (fun e => h0 (tb_eq.2 e)), if_neg (fun e => h1 (tb_eq.2 e)), if_neg (fun e => h2 (tb_eq.2 e)), if_pos (tb_eq.1 h)]
  have H4 : Hid (tb wCall ≠ s → tb wTell ≠ s → tb wCatch ≠ s → tb wRaise ≠ s → z = -1) := fun h0 h1 h2 h3 => by rw [← hz.out, xkW, if_neg (fun e => h0 (tb_eq.2 e)), if_neg (fun e => h1 (tb_eq.2 e)), if_neg (fun e => h2 (tb_eq.2 e)), if_neg (fun e => h3 (tb_eq.2 e))]
  generalize tb wCall = k0 at *
  generalize tb wTell = k1 at *
  generalize tb wCatch = k2 at *
  generalize tb wRaise = k3 at *
  clear hX
  go_enter Tryd.func62, Tryd.ntmps62
  go_wp2
  go_loopw [6] (fun i wr => ∃ k : Nat, k ≤ 4 ∧ i = .int .i64 k ∧ (0 < k → k0 ≠ s) ∧ (1 < k → k1 ≠ s) ∧ (2 < k → k2 ≠ s) ∧ (3 < k → k3 ≠ s) ∧ w = wr) (fun i _ => 4 - (intOf i).toNat)
  case atStart => exact ⟨0, by omega, rfl, fun h => absurd h (by omega), fun h => absurd h (by omega), fun h => absurd h (by omega), fun h => absurd h (by omega), rfl⟩
  case round =>
    obtain ⟨k, hk, rfl, a0, a1, a2, a3, rfl⟩ := hrel
    rcases (by omega : k = 0 ∨ k = 1 ∨ k = 2 ∨ k = 3 ∨ k = 4) with rfl | rfl | rfl | rfl | rfl
    · have hix := ix0 k0 k1 k2 k3
      by_cases h : k0 = s
      · subst h
        have hb := str_yes k0
        have HZ := Lib.hid (H0.out rfl)
        clear H0 H1 H2 H3 H4 a0 a1 a2 a3
        go_wp2
        go_ret
        exact ⟨by rw [hz.out, HZ.out]; rfl, rfl⟩
      · have hb := str_ne h
        have HA := Lib.hid h
        clear H0 H1 H2 H3 H4 a0 a1 a2 a3 h
        go_wp2
        go_roundw
        case rel => exact ⟨1, by omega, rfl, fun _ => HA.out, fun h => absurd h (by omega), fun h => absurd h (by omega), fun h => absurd h (by omega), by first | trivial | rfl⟩
        case measure => simp [intOf]
    · have HA := Lib.hid (a0 (by omega))
      have hix := ix1 k0 k1 k2 k3
      by_cases h : k1 = s
      · subst h
        have hb := str_yes k1
        have HZ := Lib.hid (H1.out HA.out rfl)
        clear H0 H1 H2 H3 H4 a0 a1 a2 a3
        go_wp2
        go_ret
        exact ⟨by rw [hz.out, HZ.out]; rfl, rfl⟩
      · have hb := str_ne h
        have HB := Lib.hid h
        clear H0 H1 H2 H3 H4 a0 a1 a2 a3 h
        go_wp2
        go_roundw
        case rel => exact ⟨2, by omega, rfl, fun _ => HA.out, fun _ => HB.out, fun h => absurd h (by omega), fun h => absurd h (by omega), by first | trivial | rfl⟩
        case measure => simp [intOf]
    · have HA := Lib.hid (a0 (by omega))
      have HB := Lib.hid (a1 (by omega))
      have hix := ix2 k0 k1 k2 k3
      by_cases h : k2 = s
      · subst h
        have hb := str_yes k2
        have HZ := Lib.hid (H2.out HA.out HB.out rfl)
        clear H0 H1 H2 H3 H4 a0 a1 a2 a3
        go_wp2
        go_ret
        exact ⟨by rw [hz.out, HZ.out]; rfl, rfl⟩
      · have hb := str_ne h
        have HC := Lib.hid h
        clear H0 H1 H2 H3 H4 a0 a1 a2 a3 h
        go_wp2
        go_roundw
        case rel => exact ⟨3, by omega, rfl, fun _ => HA.out, fun _ => HB.out, fun _ => HC.out, fun h => absurd h (by omega), by first | trivial | rfl⟩
        case measure => simp [intOf]
    · have HA := Lib.hid (a0 (by omega))
      have HB := Lib.hid (a1 (by omega))
      have HC := Lib.hid (a2 (by omega))
      have hix := ix3 k0 k1 k2 k3
      by_cases h : k3 = s
      · subst h
        have hb := str_yes k3
        have HZ := Lib.hid (H3.out HA.out HB.out HC.out rfl)
        clear H0 H1 H2 H3 H4 a0 a1 a2 a3
        go_wp2
        go_ret
        exact ⟨by rw [hz.out, HZ.out]; rfl, rfl⟩
      · have hb := str_ne h
        have HD := Lib.hid h
        clear H0 H1 H2 H3 H4 a0 a1 a2 a3 h
        go_wp2
        go_roundw
        case rel => exact ⟨4, by omega, rfl, fun _ => HA.out, fun _ => HB.out, fun _ => HC.out, fun _ => HD.out, by first | trivial | rfl⟩
        case measure => simp [intOf]
    · have HZ := Lib.hid (H4.out (a0 (by omega)) (a1 (by omega)) (a2 (by omega)) (a3 (by omega)))
      clear H0 H1 H2 H3 H4 a0 a1 a2 a3
      go_wp2
      go_ret
      exact ⟨by rw [hz.out, HZ.out]; rfl, rfl⟩
theorem joinW_any (A : Option Addr) (n c : Nat) (L : List ByteArray) (w : World) (S : Sl w A n c L) (hl : (jn (L.map bl)).length ≤ 1000000) (hn : n ≤ 1000000) :
    Calls Tryd.prog 52 #[.slice A n c] w fun e w' => e = .returned (.string (tb (jn (L.map bl)))) ∧ Le w w' := by
  have HJ := Lib.hid (join_any A n c L w S hl hn)
  go_enter Tryd.func52, Tryd.ntmps52
  go_wp2_with fail
  refine HJ.out.mono ?_
  rintro e w1 ⟨rfl, hle⟩
  go_wp2
  go_ret
  exact ⟨rfl, hle⟩
/-- a list of texts that is written out -/
theorem sl_new2 (w : World) (a b : ByteArray) (T : TypeId) (ha : a.size ≤ 1000) (hb : b.size ≤ 1000) : Sl (w.alloc (.cells #[.string a, .string b] T)) (some ⟨w.heap.size, 0, none⟩) 2 2 [a, b] :=
  Sl.of_rowF (hp_new _ _ rfl) rfl rfl (by omega) (fun x hx => by simp at hx; rcases hx with rfl | rfl <;> (show _ ≤ 9223372036854775807; omega))
theorem sl_new3 (w : World) (a b d : ByteArray) (T : TypeId) (ha : a.size ≤ 1000) (hb : b.size ≤ 1000) (hd : d.size ≤ 1000) : Sl (w.alloc (.cells #[.string a, .string b, .string d] T)) (some ⟨w.heap.size, 0, none⟩) 3 3 [a, b, d] :=
  Sl.of_rowF (hp_new _ _ rfl) rfl rfl (by omega) (fun x hx => by simp at hx; rcases hx with rfl | rfl | rfl <;> (show _ ≤ 9223372036854775807; omega))
theorem join2 (w : World) (a b : ByteArray) (T : TypeId) (ha : a.size ≤ 1000) (hb : b.size ≤ 1000) (r : List UInt8) (hr : bl a ++ 32 :: bl b = r) :
    Calls Tryd.prog 52 #[.slice (some ⟨w.heap.size, 0, none⟩) 2 2] (w.alloc (.cells #[.string a, .string b] T)) fun e w' => e = .returned (.string (tb r)) ∧ Le w w' := by
  have e : jn ([a, b].map bl) = r := hr
  have hl : r.length ≤ 1000000 := by rw [← hr, List.length_append, List.length_cons, bl_len, bl_len]; omega
  refine (joinW_any _ 2 2 [a, b] _ (sl_new2 w a b T ha hb) (by rw [e]; exact hl) (by omega)).mono ?_
  rintro e' w' ⟨rfl, hle⟩
  exact ⟨by rw [e], (Le.new w _).trans hle⟩
theorem join3 (w : World) (a b d : ByteArray) (T : TypeId) (ha : a.size ≤ 1000) (hb : b.size ≤ 1000) (hd : d.size ≤ 1000) (r : List UInt8) (hr : bl a ++ 32 :: (bl b ++ 32 :: bl d) = r) :
    Calls Tryd.prog 52 #[.slice (some ⟨w.heap.size, 0, none⟩) 3 3] (w.alloc (.cells #[.string a, .string b, .string d] T)) fun e w' => e = .returned (.string (tb r)) ∧ Le w w' := by
  have e : jn ([a, b, d].map bl) = r := hr
  have hl : r.length ≤ 1000000 := by rw [← hr, List.length_append, List.length_cons, List.length_append, List.length_cons, bl_len, bl_len, bl_len]; omega
  refine (joinW_any _ 3 3 [a, b, d] _ (sl_new3 w a b d T ha hb hd) (by rw [e]; exact hl) (by omega)).mono ?_
  rintro e' w' ⟨rfl, hle⟩
  exact ⟨by rw [e], (Le.new w _).trans hle⟩
end

section
theorem word_sz : (tb wCall).size ≤ 5 ∧ (tb wTell).size ≤ 5 ∧ (tb wCatch).size ≤ 5 ∧ (tb wRaise).size ≤ 5 := by decide +kernel
theorem num99 {n : Nat} (h : n < 100) : (tb (numL n)).size ≤ 3 := num_size (by omega)
theorem xtB_call {xs : List Cls} {n : Nat} : xtB xs ⟨0, n, 0⟩ = wCall ++ 32 :: numL n := by
  unfold xtB; rw [if_neg (by dsimp only; omega), if_neg (by dsimp only; omega), if_neg (by dsimp only; omega)]; dsimp only; congr 3
theorem xtB_tell {xs : List Cls} {n : Nat} : xtB xs ⟨1, n, 0⟩ = wTell ++ 32 :: numL n := by
  unfold xtB; rw [if_neg (by dsimp only; omega), if_neg (by dsimp only; omega), if_pos (by rfl)]; dsimp only; congr 3
theorem xtB_catch {xs : List Cls} {k : Nat} (h : k < xs.length) : xtB xs ⟨2, k, 0⟩ = wCatch ++ 32 :: bl xs[k].name := by
  unfold xtB; rw [if_pos (by rfl)]; dsimp only; rw [clN_at h]
theorem xtB_raise {xs : List Cls} {k n : Nat} (h : k < xs.length) : xtB xs ⟨3, k, n⟩ = wRaise ++ 32 :: (bl xs[k].name ++ 32 :: numL n) := by
  unfold xtB; rw [if_neg (by dsimp only; omega), if_pos (by rfl)]; dsimp only; rw [clN_at h]; congr 5
set_option maxHeartbeats 2000000 in
set_option maxRecDepth 100000 in
theorem iexitText_any (B : Option Addr) (m c : Nat) (xs : List Cls) (x : Xit) (w : World) (hT : Sl w B m c xs) (g : Good xs) (hx : xOk xs x = true) (hX : ExW w) (hN : TabW w) :
    Calls Tryd.prog 28 #[.agg #[.slice B m c], .agg #[.int .i64 x.kind, .int .i64 x.a, .int .i64 x.b]] w fun e w' => e = .returned (.string (tb (xtB xs x))) ∧ Le w w' := by
  obtain ⟨r, hr⟩ : ∃ r, Hid (xtB xs x = r) := ⟨_, Lib.hid rfl⟩
  obtain ⟨ws0, ws1, ws2, ws3⟩ := word_sz
  obtain ⟨ct, zt, x0, x1, x2, zx, L0⟩ := boxTX w (.slice B m c) (.int .i64 x.kind) (.int .i64 x.a) (.int .i64 x.b) 25 58
  have T1 := hT.le L0
  have N1 := hN.le L0
  obtain ⟨c0, c1, c2, c3⟩ := (hX.le L0).at
  obtain rfl := hT.len
  rcases xOk_cases hx with ⟨n, hn, rfl⟩ | ⟨n, hn, rfl⟩ | ⟨k, hk, rfl⟩ | ⟨k, n, hk, hn, rfl⟩
  · have hB : Hid (bl (tb wCall) ++ 32 :: bl (tb (numL n)) = r) := by show _ = _; rw [← hr.out, xtB_call]; rfl
    have zn := num99 hn
    have HI := Lib.hid (fun W h => itoa3_any n W (by omega) h)
    generalize tb (numL n) = u at *
    generalize tb wCall = k0 at *
    generalize tb wTell = k1 at *
    generalize tb wCatch = k2 at *
    generalize tb wRaise = k3 at *
    clear hX hN hT hx g
    go_enter Tryd.func28, Tryd.ntmps28
    dsimp only at *
    go_wp2_with fail
    generalize (w.alloc (.cells #[.slice B xs.length c] 25)).alloc _ = W at *
    refine (HI.out W N1).mono ?_
    rintro e w1 ⟨rfl, hle⟩
    have L1 := L0.trans hle
    clear hle ct x0 x1 x2 c0 c1 c2 c3
    go_wp2_with fail
    refine (join2 w1 k0 u 9 (by omega) (by omega) r hB.out).mono ?_
    rintro e w2 ⟨rfl, hle⟩
    have L2 := L1.trans hle
    go_wp2
    go_ret
    exact ⟨ret_str (by rw [hr.out]), L2⟩
  · have hB : Hid (bl (tb wTell) ++ 32 :: bl (tb (numL n)) = r) := by show _ = _; rw [← hr.out, xtB_tell]; rfl
    have zn := num99 hn
    have HI := Lib.hid (fun W h => itoa3_any n W (by omega) h)
    generalize tb (numL n) = u at *
    generalize tb wCall = k0 at *
    generalize tb wTell = k1 at *
    generalize tb wCatch = k2 at *
    generalize tb wRaise = k3 at *
    clear hX hN hT hx g
    go_enter Tryd.func28, Tryd.ntmps28
    dsimp only at *
    go_wp2_with fail
    generalize (w.alloc (.cells #[.slice B xs.length c] 25)).alloc _ = W at *
    refine (HI.out W N1).mono ?_
    rintro e w1 ⟨rfl, hle⟩
    have L1 := L0.trans hle
    clear hle ct x0 x1 x2 c0 c1 c2 c3
    go_wp2_with fail
    refine (join2 w1 k1 u 9 (by omega) (by omega) r hB.out).mono ?_
    rintro e w2 ⟨rfl, hle⟩
    have L2 := L1.trans hle
    go_wp2
    go_ret
    exact ⟨ret_str (by rw [hr.out]), L2⟩
  · have hB : Hid (bl (tb wCatch) ++ 32 :: bl xs[k].name = r) := by show _ = _; rw [← hr.out, xtB_catch hk]; rfl
    have hn := (name_rng (g.name k hk)).2.2
    rw [bl_len] at hn
    obtain ⟨b, off, rfl, hb, q0, -, -⟩ := T1.cls_at hk
    have hkm : (k : Int) < (xs.length : Int) := by omega
    generalize xs[k].name = u at *
    generalize tb wCall = k0 at *
    generalize tb wTell = k1 at *
    generalize tb wCatch = k2 at *
    generalize tb wRaise = k3 at *
    clear hX hN hT hx g
    go_enter Tryd.func28, Tryd.ntmps28
    dsimp only at *
    go_wp2_with fail
    have hsW : ((w.alloc (.cells #[.slice (some ⟨b, off, none⟩) xs.length c] 25)).alloc (.cells #[.int .i64 2, .int .i64 k, .int .i64 0] 58)).heap.size = w.heap.size + 1 + 1 := by simp
    generalize (w.alloc (.cells #[.slice (some ⟨b, off, none⟩) xs.length c] 25)).alloc _ = W at *
    rw [← hsW]
    clear ct x0 x1 x2 c0 c1 c2 c3 hsW
    refine (join2 W k2 u 9 (by omega) (by omega) r hB.out).mono ?_
    rintro e w2 ⟨rfl, hle⟩
    have L2 := L0.trans hle
    go_wp2
    go_ret
    exact ⟨ret_str (by rw [hr.out]), L2⟩
  · have hB : Hid (bl (tb wRaise) ++ 32 :: (bl xs[k].name ++ 32 :: bl (tb (numL n))) = r) := by show _ = _; rw [← hr.out, xtB_raise hk]; rfl
    have zn := num99 hn
    have hnn := (name_rng (g.name k hk)).2.2
    rw [bl_len] at hnn
    obtain ⟨b, off, rfl, hb, q0, -, -⟩ := T1.cls_at hk
    have hkm : (k : Int) < (xs.length : Int) := by omega
    have hI0 := Lib.hid (fun W h => itoa3_any n W (by omega) h)
    generalize tb (numL n) = u at *
    generalize xs[k].name = v at *
    generalize tb wCall = k0 at *
    generalize tb wTell = k1 at *
    generalize tb wCatch = k2 at *
    generalize tb wRaise = k3 at *
    clear hX hN hT hx g
    go_enter Tryd.func28, Tryd.ntmps28
    dsimp only at *
    go_wp2_with fail
    generalize (w.alloc (.cells #[.slice (some ⟨b, off, none⟩) xs.length c] 25)).alloc _ = W at *
    have HK : Hid (∀ W', Le W W' → W'.cell? ⟨w.heap.size, 0, none⟩ = some (.slice (some ⟨b, off, none⟩) xs.length c) ∧ W'.cell? ⟨w.heap.size + 1, 1, none⟩ = some (.int .i64 k) ∧ W'.cell? ⟨w.heap.size + 1, 2, none⟩ = some (.int .i64 n) ∧ W'.cell? ⟨b, off + k * 2, none⟩ = some (.string v)) := fun W' h => ⟨(h.cell zt).trans ct, (h.cell zx).trans x1, (h.cell zx).trans x2, (h.cell hb).trans q0⟩
    have HI : Hid (∀ W', Le W W' → Calls Tryd.prog 53 #[.int .i64 n] W' fun e w' => e = .returned (.string u) ∧ Le W' w') := fun W' h => hI0.out W' (N1.le h)
    have HJ : Hid (∀ W' : World, Calls Tryd.prog 52 #[.slice (some ⟨W'.heap.size, 0, none⟩) 3 3] (W'.alloc (.cells #[.string k3, .string v, .string u] 9)) fun e w' => e = .returned (.string (tb r)) ∧ Le W' w') := fun W' => join3 W' k3 v u 9 (by omega) (by omega) (by omega) r hB.out
    have LC : Le W W.drew := (Le.refl W).drew
    clear ct x0 x1 x2 c0 c1 c2 c3 T1 N1 q0 hI0 hB
    go_region_held3 (fun w' => w'.cell? ⟨w.heap.size, 0, none⟩ = some (.slice (some ⟨b, off, none⟩) xs.length c) ∧ w'.cell? ⟨w.heap.size + 1, 1, none⟩ = some (.int .i64 k) ∧ w'.cell? ⟨w.heap.size + 1, 2, none⟩ = some (.int .i64 n) ∧ w'.cell? ⟨b, off + k * 2, none⟩ = some (.string v))
      (first | exact HK.out _ LC | exact HK.out _ (LC.alloc _))
      (first | (go_at_call 53; refine (HI.out _ LC).mono ?_; rintro e w1 ⟨rfl, hle⟩; replace LC := LC.trans hle) | (go_at_call 52; refine (HJ.out _).mono ?_; rintro e w2 ⟨rfl, hle⟩; replace LC := LC.trans hle))
    all_goals
      have L2 := L0.trans LC
      go_wp2
      go_ret
      exact ⟨ret_str (by rw [hr.out]), L2⟩
theorem Bl.below {B b : Nat} {l : List UInt8} {W W' : World} (h : Bl B b l W) (hb : Le W W') : Bl B b l W' := by
  rcases h with h | h
  · refine .inl ?_
    have hlt := h.lt
    obtain ⟨hB, v, hv, hown, hne⟩ := h
    exact ⟨hB, v, (Below.block hb b hlt).trans hv, hown.kept (row := none) ⟨hb.os, hb.tape, hb.output, hb.size, fun k hk _ => Below.block hb k hk⟩ (Classical.em _), hne⟩
  · refine .inr ?_
    have hlt := h.lt
    obtain ⟨hB, v, hv, hown, hne⟩ := h
    exact ⟨hB, v, (Below.block hb b hlt).trans hv, hown.kept (row := none) ⟨hb.os, hb.tape, hb.output, hb.size, fun k hk _ => Below.block hb k hk⟩ (Classical.em _), hne⟩
theorem xs_take {xs : List Cls} {L : List Xit} {k : Nat} (h : k < L.length) : xsB xs (L.take (k + 1)) = xsB xs (L.take k) ++ bl (tb (xtB xs L[k]) ++ nlT) := by
  unfold xsB
  rw [List.take_succ_eq_append_getElem h, List.map_append, List.map_cons, List.map_nil, catN_snoc, bl_app, bl_tb]; rfl
theorem xs_pre {xs : List Cls} {L : List Xit} (h : vxs xs L = true) (k : Nat) : (xsB xs (L.take k)).length ≤ 128 := by
  have a := vxs_iff.1 h
  exact xs_len (vxs_iff.2 ⟨a.1, by rw [List.length_take]; omega, fun x hx => a.2.2 x (List.mem_of_mem_take hx)⟩)
set_option maxHeartbeats 4000000 in
set_option maxRecDepth 100000 in
theorem iExitsText_any (B A : Option Addr) (m c n cap : Nat) (xs : List Cls) (L : List Xit) (w : World) (hT : Sl w B m c xs) (hR : Sl w A n cap L) (hX : ExW w) (hN : TabW w) :
    Calls Tryd.prog 8 #[.agg #[.slice B m c], .slice A n cap] w fun e w' => e = .returned (.string (xtX xs L)) ∧ Le w w' := by
  obtain rfl := hR.len
  go_enter Tryd.func8, Tryd.ntmps8
  go_wp2_with fail
  obtain ⟨c0, z0, L0⟩ := box1 w (.slice B m c) 25
  have ST := hT.le L0
  have S := hR.le L0
  generalize w.alloc (.cells #[.slice B m c] 25) = W at *
  refine (iValidExits_any B A m c L.length cap xs L W ST S).mono ?_
  rintro e w1 ⟨rfl, hle⟩
  replace c0 := (hle.cell z0).trans c0
  replace z0 := Nat.lt_of_lt_of_le z0 hle.size
  replace L0 := L0.trans hle
  replace ST := ST.le hle
  replace S := S.le hle
  clear hle
  cases ho : vxs xs L
  · have HX := Lib.hid (xtX_of ho)
    clear ho
    go_wp2
    go_ret
    exact ⟨ret_str HX.out.symm, L0⟩
  have HX := Lib.hid (xtX_of ho)
  have hva := vxs_iff.1 ho
  have HG := Lib.hid (good_of hva.1)
  have HOK := Lib.hid hva.2.2
  have HPL := Lib.hid (xs_pre ho)
  have hl8 := hva.2.1
  have hB0 := bl_fresh w1
  have HC := Lib.hid c0
  have HT := Lib.hid ST
  have HS := Lib.hid S
  have HL := Lib.hid L0
  have HXW := Lib.hid (hX.le L0)
  have HTW := Lib.hid (hN.le L0)
  clear ho hva hX hN hT hR
  go_wp2_with fail
  have LB := Le.new w1 (.cells #[.pointer none, .slice none 0 0] 56)
  generalize w1.alloc (.cells #[.pointer none, .slice none 0 0] 56) = W2 at *
  have hsz : w1.heap.size < W2.heap.size := hB0.elim (fun h => h.lt) (fun h => h.lt)
  go_wp2
  clear c0 ST S L0
  go_loopw [14] (fun i wr => ∃ k : Nat, k ≤ L.length ∧ i = .int .i64 k ∧ Bl w1.heap.size w1.heap.size (xsB xs (L.take k)) wr ∧ w1.heap.size < wr.heap.size ∧ Le w1 wr) (fun i _ => L.length - (intOf i).toNat)
  case atStart => exact ⟨0, Nat.zero_le _, rfl, hB0, hsz, LB⟩
  case round =>
    clear hB0 LB hsz
    obtain ⟨k, hk, rfl, hB, hz, LR⟩ := hrel
    have hal := HPL.out k
    by_cases hlt : k < L.length
    · have hkl : (k : Int) < (L.length : Int) := by omega
      have c0 := (LR.cell z0).trans HC.out
      have zp : w.heap.size < wr.heap.size := by omega
      have S := HS.out.le LR
      have hxk := HOK.out _ (List.getElem_mem hlt)
      obtain ⟨b, off, rfl, hbl, q0, q1, q2, -⟩ := S.xit_at hlt
      have HNX := Lib.hid (xs_take (xs := xs) hlt)
      have HXT := Lib.hid (fun W T X N => iexitText_any B m c xs L[k] W T HG.out hxk X N)
      have hxl := (xt_split HG.out hxk).2.2.2
      have hxs : (tb (xtB xs L[k])).size ≤ 15 := hxl
      generalize tb (xtB xs L[k]) = tx at *
      generalize L[k].kind = vk at *
      generalize L[k].a = va at *
      generalize L[k].b = vb at *
      clear hxk hxl S
      go_wp2_with fail
      obtain ⟨d0, d1, d2, zd, LA⟩ := boxT wr (.int .i64 vk) (.int .i64 va) (.int .i64 vb) 58
      have LRA := LR.trans LA
      have hBA := hB.below LA
      have c0' := (LA.cell zp).trans c0
      generalize wr.alloc (.cells #[.int .i64 vk, .int .i64 va, .int .i64 vb] 58) = wa at *
      clear q0 q1 q2 hB LA c0
      refine (HXT.out wa (HT.out.le LRA) (HXW.out.le LRA) (HTW.out.le LRA)).mono ?_
      rintro e wb ⟨rfl, hle⟩
      have hBB := hBA.below hle
      have LRB := LRA.trans hle
      have szb := hle.size
      have hsum : ∀ W, (Op.stringOp .add tx ⟨#[10]⟩).run Tryd.prog W = .ok (.string (tx ++ nlT)) W := fun W => run_string_add W tx nlT (by omega) (by decide)
      have hs2 : (tx ++ nlT).size ≤ 16 := by rw [ByteArray.size_append]; have : nlT.size = 1 := rfl; omega
      obtain ⟨ty, hty⟩ : ∃ ty, tx ++ nlT = ty := ⟨_, rfl⟩
      rw [hty] at hsum hs2 HNX
      clear hBA hle d0 d1 d2 c0' hty
      go_wp2_with fail
      refine (writeString_any w1.heap.size w1.heap.size (xsB xs (L.take k)) ty wb hBB (by omega) (by omega)).mono ?_
      rintro e wc ⟨rfl, hB3, hb3, hk3⟩
      have LRC : Le w1 wc := Below.trans LRB hb3
      have szC := hb3.size
      rw [← HNX.out] at hB3
      clear hBB hb3 hk3 LRB
      go_wp2
      go_roundw
      case rel => exact ⟨k + 1, by omega, by go_num, hB3, by omega, LRC⟩
      case measure => (simp [intOf]) <;> omega
    · have hkl : ¬ (k : Int) < (L.length : Int) := by omega
      have hkk : k = L.length := by omega
      have HE : Hid (xsB xs (L.take k) = xsB xs L) := by show _ = _; rw [hkk, List.take_length]
      rw [HE.out] at hB hal
      clear hkk
      go_wp2_with fail
      refine (builderText_any w1.heap.size w1.heap.size (xsB xs L) wr hB (by omega)).mono ?_
      rintro e wb ⟨rfl, hb2⟩
      have LF : Le w wb := HL.out.trans (Below.trans LR hb2)
      go_wp2
      go_ret
      exact ⟨ret_str (by rw [HX.out]; rfl), LF⟩
end
end Go.Proofs.YtnpcmlcigeccmaaDoor
