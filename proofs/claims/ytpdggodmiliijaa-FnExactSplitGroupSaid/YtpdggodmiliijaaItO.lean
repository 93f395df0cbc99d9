/- groups: keep, split, SplitGroup of both -/
import Derived.Test.YtpdggodmiliijaaItN
import Derived.Test.YtpdggodmiliijaaItG
namespace Go.Proofs.Ytpdggodmiliijaa
open Go.RowKit Go.Shelf
set_option maxRecDepth 100000 in
set_option maxHeartbeats 2000000 in
theorem keep_prog (tf : Nat) (lb : Array Value) (eT : ∀ args w, (callFunc tf args).run Try.prog w = .ok (.enter tf args) w) (p : Lef → Bool) (xs : List Cls) (b off C : Nat) (g : List Prt) (G : GoodG xs g) (w : World) (hG : Sl w (some ⟨b, off, none⟩) g.length C g)
    (hT : ∀ (x : Lef) (W : World), x ∈ leavesL g → Le w W → Calls Try.prog tf (#[.agg #[.int .i64 x.cls, .int .i64 x.code]] ++ lb) W fun e W' => e = .returned (.bool (p x)) ∧ Le W W') :
    Calls Try.prog 91 #[.slice (some ⟨b, off, none⟩) g.length C, .func (.func tf) #[] lb] w fun e w' => ∃ v, e = .returned v ∧ Owd 70 w w' v (selK (keepsAt (fun q => p ⟨q.cls, q.code⟩) g) g g.length) ∧ Le w w' := by
  have HOK : Hid (∀ (f : Nat → Bool), ∀ x ∈ selK f g g.length, Enc.ok x) := fun f x hx => hG.ok x (selK_mem g.length (Nat.le_refl _) x hx)
  have SB : SlB w.heap.size w (some ⟨b, off, none⟩) g.length C g := ⟨hG, fun hn a e => by obtain ⟨b', off', e2, hb, -⟩ := hG.at_ hn; rw [e2] at e; cases e; exact hb⟩
  have V0 := fun (W : World) (hl : Le w W) (st : VSt w.heap.size tf lb b off C g W (.slice none 0 0) []) => visit_any tf lb eT p b off C g G.len.2 w hT g.length 0 (by omega) (by have := G.len; omega) W _ [] hl st (by simp)
  simp only [Nat.zero_mul, Nat.add_zero, Nat.sub_zero, end_zero G, List.nil_append] at V0
  have HV := Lib.hid V0
  clear V0
  have bF := ((Boxed.new w 89 (.func (.func tf) #[] lb)).alloc (.cells #[.slice none 0 0] 34)).alloc (.cells #[.nilFunc] 128)
  have bO := (Boxed.new (w.alloc (.cells #[.func (.func tf) #[] lb] 89)) 34 (.slice none 0 0)).alloc (.cells #[.nilFunc] 128)
  have bV := Boxed.new ((w.alloc (.cells #[.func (.func tf) #[] lb] 89)).alloc (.cells #[.slice none 0 0] 34)) 128 .nilFunc
  have L0 : Le w (((w.alloc (.cells #[.func (.func tf) #[] lb] 89)).alloc (.cells #[.slice none 0 0] 34)).alloc (.cells #[.nilFunc] 128)) := ((Le.new w _).alloc _).alloc _
  simp only [World.size_alloc] at bO bV
  have cV := bV.cell
  have fV := bV.frozen
  have L4 : Le w (((w.alloc (.cells #[.func (.func tf) #[] lb] 89)).alloc (.cells #[.slice none 0 0] 34)).alloc (.cells #[.func (.func 101) #[] #[.pointer (some ⟨w.heap.size, 0, none⟩), .pointer (some ⟨w.heap.size + 1, 0, none⟩), .pointer (some ⟨w.heap.size + 1 + 1, 0, none⟩)]] 128)) := ((Le.new w _).alloc _).alloc _
  have st : VSt w.heap.size tf lb b off C g (((w.alloc (.cells #[.func (.func tf) #[] lb] 89)).alloc (.cells #[.slice none 0 0] 34)).alloc (.cells #[.func (.func 101) #[] #[.pointer (some ⟨w.heap.size, 0, none⟩), .pointer (some ⟨w.heap.size + 1, 0, none⟩), .pointer (some ⟨w.heap.size + 1 + 1, 0, none⟩)]] 128)) (.slice none 0 0) [] := by
    have h1 := ((Boxed.new w 89 (.func (.func tf) #[] lb)).alloc (.cells #[.slice none 0 0] 34)).alloc (.cells #[.func (.func 101) #[] #[.pointer (some ⟨w.heap.size, 0, none⟩), .pointer (some ⟨w.heap.size + 1, 0, none⟩), .pointer (some ⟨w.heap.size + 1 + 1, 0, none⟩)]] 128)
    have h2 := (Boxed.new (w.alloc (.cells #[.func (.func tf) #[] lb] 89)) 34 (.slice none 0 0)).alloc (.cells #[.func (.func 101) #[] #[.pointer (some ⟨w.heap.size, 0, none⟩), .pointer (some ⟨w.heap.size + 1, 0, none⟩), .pointer (some ⟨w.heap.size + 1 + 1, 0, none⟩)]] 128)
    have h3 := Boxed.new ((w.alloc (.cells #[.func (.func tf) #[] lb] 89)).alloc (.cells #[.slice none 0 0] 34)) 128 (.func (.func 101) #[] #[.pointer (some ⟨w.heap.size, 0, none⟩), .pointer (some ⟨w.heap.size + 1, 0, none⟩), .pointer (some ⟨w.heap.size + 1 + 1, 0, none⟩)])
    rw [World.size_alloc] at h2
    rw [World.size_alloc, World.size_alloc] at h3
    exact ⟨h1, h2, h3, World.ownsRow_nil _ _ _ _, SB.below L4⟩
  have cT := st.bv.cell
  have hst : ∀ (W : World) (a : Addr) (f : Fn) (x y : Array Value) (m : Mode), (store a (.func f x y) m).run Try.prog W = stored Try.prog W a (.func f x y) m := fun W a f x y m => run_store Try.prog W a _ m rfl
  go_enter Try.func91, Try.ntmps91
  go_wp2_with fail
  generalize ((w.alloc (.cells #[.func (.func tf) #[] lb] 89)).alloc (.cells #[.slice none 0 0] 34)).alloc (.cells #[.func (.func 101) #[] #[.pointer (some ⟨w.heap.size, 0, none⟩), .pointer (some ⟨w.heap.size + 1, 0, none⟩), .pointer (some ⟨w.heap.size + 1 + 1, 0, none⟩)]] 128) = W4 at *
  refine (HV.out _ L4 st).mono ?_
  rintro e W5 ⟨⟨r, rfl⟩, v', st5, ef5⟩
  have HE := Lib.hid (L4.trans' ef5.le)
  have HO := Lib.hid (⟨st5.row, HOK.out _⟩ : Owd 70 w W5 v' (selK (keepsAt (fun q => p ⟨q.cls, q.code⟩) g) g g.length))
  have cO := st5.bo.cell
  clear st5 ef5
  go_wp2
  go_ret
  exact ⟨_, rfl, HO.out, HE.out⟩
set_option maxRecDepth 100000 in
theorem splitNot_any (tf : Nat) (lb : Array Value) (eT : ∀ args w, (callFunc tf args).run Try.prog w = .ok (.enter tf args) w) (p : Lef → Bool) (Bt : Nat) (x : Lef) (W : World) (hB : Boxed W Bt 89 (.func (.func tf) #[] lb))
    (hT : ∀ (W' : World), Le W W' → Calls Try.prog tf (#[.agg #[.int .i64 x.cls, .int .i64 x.code]] ++ lb) W' fun e W'' => e = .returned (.bool (p x)) ∧ Le W' W'') :
    Calls Try.prog 92 (#[.agg #[.int .i64 x.cls, .int .i64 x.code]] ++ #[.pointer (some ⟨Bt, 0, none⟩)]) W fun e W' => e = .returned (.bool (!p x)) ∧ Le W W' := by
  have hl := Le.new W (.cells #[.int .i64 x.cls, .int .i64 x.code] 75)
  have cB := (hB.alloc (.cells #[.int .i64 x.cls, .int .i64 x.code] 75)).cell
  go_enter Try.func92, Try.ntmps92
  go_wp2_with fail
  refine (hT _ hl).mono ?_
  rintro e W2 ⟨rfl, hle⟩
  go_wp2
  go_ret
  exact ⟨rfl, hl.trans hle⟩
theorem gOkS_len {xs : List Cls} {g : List Prt} (h : gOkS xs g = true) : g.length ≤ 16 := (goodG_of (by rw [← gOk_same]; exact h)).len.2
theorem apart_base {w w4 w6 : World} {v u : Value} {T T2 : TypeId} {L M : List Prt} (h : Owd T w w4 v L) (k : Owd T2 w4 w6 u M) : Apart v u := by
  cases e : v.ownBlock with
  | none => exact .inl e
  | some q =>
    refine .inr fun e2 => ?_
    have h1 := (h.row.lt q e).2
    have h2 := (k.row.lt q (by rw [← e2]; exact e)).1
    omega
set_option maxRecDepth 100000 in
set_option maxHeartbeats 2000000 in
theorem split_prog (tf : Nat) (lb : Array Value) (eT : ∀ args w, (callFunc tf args).run Try.prog w = .ok (.enter tf args) w) (p : Lef → Bool) (xs : List Cls) (b off C : Nat) (g : List Prt) (G : GoodG xs g) (w : World) (hG : Sl w (some ⟨b, off, none⟩) g.length C g)
    (hT : ∀ (x : Lef) (W : World), x ∈ leavesL g → Le w W → Calls Try.prog tf (#[.agg #[.int .i64 x.cls, .int .i64 x.code]] ++ lb) W fun e W' => e = .returned (.bool (p x)) ∧ Le W W') :
    Calls Try.prog 65 #[.slice (some ⟨b, off, none⟩) g.length C, .func (.func tf) #[] lb] w (SpOut w (selK (keepsAt (fun q => p ⟨q.cls, q.code⟩) g) g g.length) (selK (keepsAt (fun q => !p ⟨q.cls, q.code⟩) g) g g.length)) := by
  have bT := Boxed.new w 89 (.func (.func tf) #[] lb)
  have cT := bT.cell
  have hl := Le.new w (.cells #[.func (.func tf) #[] lb] 89)
  go_enter Try.func65, Try.ntmps65
  go_wp2_with fail
  generalize w.alloc (.cells #[.func (.func tf) #[] lb] 89) = w1 at *
  refine (keep_prog tf lb eT p xs b off C g G w1 (hG.le hl) (fun x W hx hW => hT x W hx (hl.trans hW))).mono ?_
  rintro e w4 ⟨v, rfl, O1, hle⟩
  have HO1 := Lib.hid O1
  have bT4 := boxed_le bT hle
  have hl4 := hl.trans hle
  clear O1
  go_wp2_with fail
  refine (keep_prog 92 #[.pointer (some ⟨w.heap.size, 0, none⟩)] (enters_of Try.func92 (by kernel_rfl) rfl) (fun x => !p x) xs b off C g G w4 (hG.le hl4) (fun x W hx hW => splitNot_any tf lb eT p _ x W (boxed_le bT4 hW) (fun W' hW' => hT x W' hx ((hl4.trans hW).trans hW')))).mono ?_
  rintro e w6 ⟨u, rfl, O2, hle6⟩
  have HS : Hid (SpOut w (selK (keepsAt (fun q => p ⟨q.cls, q.code⟩) g) g g.length) (selK (keepsAt (fun q => !p ⟨q.cls, q.code⟩) g) g g.length) (.returned (.tuple #[v, u])) w6) := ⟨v, u, rfl, (HO1.out.mono hl).le hle6, O2.mono hl4, apart_base HO1.out O2, hl4.trans hle6⟩
  clear O2
  go_wp2
  go_ret2
  exact HS.out
theorem tS_yes (xs : List Cls) (a : Int) : tS xs a true = fun q => isAL xs q.cls a := by funext q; unfold tS; cases isAL xs q.cls a <;> rfl
theorem tS_no (xs : List Cls) (a : Int) : tS xs a false = fun q => !isAL xs q.cls a := by funext q; unfold tS; cases isAL xs q.cls a <;> rfl
/-- the parts of a group with leaves of a class, and those with others -/
def spX (xs : List Cls) (g : List Prt) (a : Int) (wi : Bool) : List Prt := cond (gOkS xs g && hasK xs a) (selK (keepsAt (tS xs a wi) g) g g.length) []
theorem spX_of {xs : List Cls} {g : List Prt} {a : Int} {c : Bool} (h : (gOkS xs g && hasK xs a) = c) (wi : Bool) : spX xs g a wi = cond c (selK (keepsAt (tS xs a wi) g) g g.length) [] := by unfold spX; rw [h]
theorem spX_len (xs : List Cls) (g : List Prt) (a : Int) (wi : Bool) : (spX xs g a wi).length ≤ 1048576 := by
  cases h : gOkS xs g && hasK xs a
  · rw [spX_of h]; simp
  · have h1 : gOkS xs g = true := by cases e : gOkS xs g; rw [e] at h; cases h; rfl
    have := gOkS_len h1
    have h2 := selK_len (keepsAt (tS xs a wi) g) g g.length
    rw [spX_of h]; show (selK _ _ _).length ≤ _; omega
end Go.Proofs.Ytpdggodmiliijaa
