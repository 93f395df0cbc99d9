import Derived.Test.YtpdggodmiliijaaB
import Derived.Test.YtpdggodmiliijaaL
namespace Go.Proofs.Ytpdggodmiliijaa
open Go.RowKit

theorem okFrom_mem {all : List Cls} : ∀ (m k : Nat), k + m = all.length → okFrom all k (all.drop k) = true → (1 ≤ all.length ∧ all.length ≤ 8) ∧ ∀ i (h : i < all.length), k ≤ i → badCls all i all[i] = false := by
  intro m
  induction m with
  | zero =>
    intro k hk h
    rw [okFrom_end (by omega)] at h
    simp at h
    exact ⟨by omega, fun i hi hki => by omega⟩
  | succ m ih =>
    intro k hk h
    rw [okFrom_at (by omega), Bool.and_eq_true] at h
    obtain ⟨h1, h2⟩ := h
    obtain ⟨hl, hr⟩ := ih (k + 1) (by omega) h2
    refine ⟨hl, fun i hi hki => ?_⟩
    by_cases e : i = k
    · subst e; simpa using h1
    · exact hr i hi (by omega)
/-- what a valid tree keeps to -/
structure Good (xs : List Cls) : Prop where
  lo : 1 ≤ xs.length
  hi : xs.length ≤ 8
  root : ∀ h : 0 < xs.length, xs[0].parent = -1
  par : ∀ i (h : i < xs.length), 0 < i → 0 ≤ xs[i].parent ∧ xs[i].parent ≤ (i : Int) - 1
  name : ∀ i (h : i < xs.length), okName xs[i].name = true
  diff : ∀ i (h : i < xs.length), findN (xs.take i) xs[i].name 0 < 0
theorem good_of {xs : List Cls} (h : okTree xs = true) : Good xs := by
  obtain ⟨⟨h1, h2⟩, hb⟩ := okFrom_mem (all := xs) xs.length 0 (by omega) (by simpa [okTree] using h)
  have hx : ∀ i (h : i < xs.length), okName xs[i].name = true ∧ findN (xs.take i) xs[i].name 0 < 0 ∧ (i = 0 → xs[i].parent = -1) ∧ (0 < i → 0 ≤ xs[i].parent ∧ xs[i].parent ≤ (i : Int) - 1) := by
    intro i hi
    have := hb i hi (Nat.zero_le _)
    unfold badCls at this
    simp only [Bool.or_eq_false_iff, Bool.not_eq_false', Bool.and_eq_false_iff, decide_eq_false_iff_not] at this
    obtain ⟨⟨⟨a, b⟩, c⟩, d⟩ := this
    refine ⟨a, by omega, fun e => ?_, fun e => ?_⟩
    · subst e
      rcases c with c | c
      · simp at c
      · simpa [bne] using c
    · rcases d with d | d
      · omega
      · simpa using d
  exact ⟨h1, h2, fun h => (hx 0 h).2.2.1 rfl, fun i h => (hx i h).2.2.2, fun i h => (hx i h).1, fun i h => (hx i h).2.1⟩
theorem Good.par_le {xs : List Cls} (g : Good xs) {i : Nat} (h : i < xs.length) : -1 ≤ xs[i].parent ∧ xs[i].parent ≤ (i : Int) - 1 := by
  by_cases e : i = 0
  · subst e; have := g.root h; omega
  · have := g.par i h (by omega); omega

def parOf (xs : List Cls) (a : Int) : Int := match xs[a.toNat]? with | some c => c.parent | none => -1
def aboveL (xs : List Cls) (a : Int) : List Int := if 0 ≤ a then a :: (if parOf xs a < a then aboveL xs (parOf xs a) else []) else []
termination_by (a + 1).toNat
decreasing_by omega
def isAL (xs : List Cls) (a b : Int) : Bool := hasI (aboveL xs a) b
theorem parOf_at {xs : List Cls} {i : Nat} (h : i < xs.length) : parOf xs (i : Int) = xs[i].parent := by
  unfold parOf; rw [Int.toNat_natCast, List.getElem?_eq_getElem h]
theorem aboveL_neg {xs : List Cls} {a : Int} (h : a < 0) : aboveL xs a = [] := by rw [aboveL, if_neg (by omega)]
theorem aboveL_at {xs : List Cls} (g : Good xs) {i : Nat} (h : i < xs.length) : aboveL xs (i : Int) = (i : Int) :: aboveL xs xs[i].parent := by
  have hp := g.par_le h
  rw [aboveL, if_pos (by omega), parOf_at h, if_pos (by omega)]
theorem isAL_at {xs : List Cls} (g : Good xs) {i : Nat} (h : i < xs.length) (b : Int) : isAL xs (i : Int) b = ((i : Int) == b || isAL xs xs[i].parent b) := by
  unfold isAL; rw [aboveL_at g h]; rfl
theorem isAL_neg {xs : List Cls} {a : Int} (h : a < 0) (b : Int) : isAL xs a b = false := by unfold isAL; rw [aboveL_neg h]; rfl
/-- all that is above lies in the tree -/
theorem aboveL_mem {xs : List Cls} (g : Good xs) : ∀ (m : Nat) (a : Int), (a + 1).toNat = m → a < xs.length → ∀ x ∈ aboveL xs a, 0 ≤ x ∧ x ≤ a := by
  intro m
  induction m using Nat.strongRecOn with
  | _ m ih =>
    intro a hm ha x hx
    by_cases h : a < 0
    · rw [aboveL_neg h] at hx; cases hx
    · obtain ⟨i, rfl⟩ := Int.eq_ofNat_of_zero_le (by omega : 0 ≤ a)
      have hi : i < xs.length := by omega
      rw [aboveL_at g hi] at hx
      have hp := g.par_le hi
      rcases List.mem_cons.1 hx with rfl | hx
      · omega
      · have := ih (xs[i].parent + 1).toNat (by omega) _ rfl (by omega) x hx
        omega
theorem aboveL_len {xs : List Cls} (g : Good xs) : ∀ (m : Nat) (a : Int), (a + 1).toNat = m → a < xs.length → (aboveL xs a).length ≤ m := by
  intro m
  induction m using Nat.strongRecOn with
  | _ m ih =>
    intro a hm ha
    by_cases h : a < 0
    · rw [aboveL_neg h]; simp
    · obtain ⟨i, rfl⟩ := Int.eq_ofNat_of_zero_le (by omega : 0 ≤ a)
      have hi : i < xs.length := by omega
      rw [aboveL_at g hi]
      have hp := g.par_le hi
      have := ih (xs[i].parent + 1).toNat (by omega) _ rfl (by omega)
      simp; omega

def hasK (xs : List Cls) (a : Int) : Bool := decide (0 ≤ a) && decide (a ≤ (xs.length : Int) - 1)

theorem hasClass_any (A : Option Addr) (n cap : Nat) (xs : List Cls) (a : Int) (w : World) (hR : Sl w A n cap xs) :
    Calls Try.prog 59 #[.agg #[.slice A n cap], .int .i64 a] w fun e w' => e = .returned (.bool (hasK xs a)) ∧ Le w w' := by
  obtain rfl := hR.len
  have hm := hR.n_le
  go_enter Try.func59, Try.ntmps59
  go_wp2_with (go_at_call 76; refine (inRange_any _ _ _ _).mono ?_; rintro e w' ⟨rfl, rfl⟩)
  go_ret
  exact ⟨rfl, Le.new w _⟩

theorem intInfo : (Try.prog.info? 3).map (fun i => (i.zero, i.size, i.bytes)) = some (some (.int .i64 0), 1, 8) := by kernel_rfl

set_option maxRecDepth 100000 in
theorem above_any (A : Option Addr) (n cap : Nat) (xs : List Cls) (a : Int) (w : World) (hR : Sl w A n cap xs) (g : Good xs) (ha : a < xs.length) (ha0 : -1 ≤ a) :
    Calls Try.prog 106 #[.agg #[.slice A n cap], .int .i64 a] w fun e w' => ∃ v, e = .returned v ∧ w'.ownsRow w.heap.size 3 1 v (aboveL xs a).length ((aboveL xs a).flatMap Enc.cells) ∧ Le w w' := by
  obtain ⟨i0, hi, hz0, hz1, hz2⟩ := info_parts intInfo
  have hl := Le.new w (.cells #[.slice A n cap] 32)
  have c0 : (w.alloc (.cells #[.slice A n cap] 32)).cell? ⟨w.heap.size, 0, none⟩ = some (.slice A n cap) := by rw [World.cell?_alloc_at _ _ _ _ rfl]; rfl
  have hz : w.heap.size < (w.alloc (.cells #[.slice A n cap] 32)).heap.size := by simp
  go_enter Try.func106, Try.ntmps106
  go_wp2
  have hlen := aboveL_len g _ a rfl (by omega)
  have hhi := g.hi
  have hnn := hR.len
  go_loopw [1, 5] (fun q v wr => ∃ a' : Int, ∃ out : List Int, -1 ≤ a' ∧ a' < xs.length ∧ q = .int .i64 a' ∧ aboveL xs a = out ++ aboveL xs a' ∧ wr.ownsRow (w.heap.size + 1) 3 1 v out.length (out.flatMap Enc.cells) ∧
      wr.cell? ⟨w.heap.size, 0, none⟩ = some (.slice A n cap) ∧ w.heap.size + 1 < wr.heap.size ∧ Le w wr) (fun q _ _ => (intOf q + 1).toNat)
  case atStart =>
    refine ⟨a, [], ha0, ha, rfl, rfl, ?_, ?_, by simp, hl.alloc _⟩
    · exact own_empty hz (by simp)
    · exact (World.cell?_alloc_past _ _ _ hz).trans c0
  case round =>
    obtain ⟨a', out, h1, h2, rfl, hr, hown, hT, hzr, hle⟩ := hrel
    have HR := Lib.hid hr; clear hr
    clear c0 hz hl
    by_cases h0 : a' < 0
    · have HF : Hid (aboveL xs a = out) := by show _ = _; rw [HR.out, aboveL_neg h0, List.append_nil]
      go_wp2
      go_ret
      exact ⟨_, rfl, by rw [HF.out]; exact own_mono hown (by omega), hle⟩
    · obtain ⟨i, rfl⟩ := Int.eq_ofNat_of_zero_le (by omega : 0 ≤ a')
      have hi' : i < xs.length := by omega
      have hp := g.par_le hi'
      obtain ⟨b, off, rfl, hb, hcell, hcell2, _, _, _⟩ := hR.cls_at hi'
      have HS : Hid (aboveL xs a = (out ++ [(i : Int)]) ++ aboveL xs xs[i].parent) := by show _ = _; rw [HR.out, aboveL_at g hi']; simp
      have hol : out.length + 1 ≤ 8 := by
        have e := congrArg List.length HS.out
        simp at e; omega
      have hc3 : out.length + 1 ≤ maxLen := by unfold maxLen; omega
      have hc4 : (out.length + 1) * 8 ≤ 140737488355328 := by omega
      have hiN : i < n := by omega
      have HN := Lib.hid hnn; clear hnn
      go_wp2_with (at_builtin; refine wpList_append_own _ rfl _ _ 47 rfl (w.heap.size + 1) 3 i0 (.int .i64 0) 1 8 Try.underlying47 hi hz0 hz1 hz2 rfl (by decide) _ _ _ rfl (hown.alloc _) ⟨wr.heap.size, 0, none⟩ 1 1 [.int .i64 i] rfl rfl ?c1 ?c2 hc3 hc4 ?c5 ?_)
      case c2 => rfl
      case c5 => omega
      intro v1 w1 hown1 hg1 _
      have hle1 := (hle.alloc (.cells #[.int .i64 (i : Int)] 3)).grown hg1 (fun k hk => by have := (hown.lt k hk).1; omega)
      have hT1 := hg1.cell ((World.cell?_alloc_past (.cells #[.int .i64 (i : Int)] 3) _ _ (by omega)).trans hT) (fun e => by have h' : w.heap.size + 1 ≤ w.heap.size := (hown.lt _ e.symm).1; omega)
      have hcell1 := (hle1.cell hb).trans hcell2
      go_wp2
      go_roundw
      case rel =>
        refine ⟨xs[i].parent, out ++ [(i : Int)], by omega, by omega, rfl, HS.out, ?_, hT1, ?_, hle1⟩
        · simpa [Enc.cells] using hown1
        · have := hg1.size; simp at this; omega
      case measure => simp [intOf]; omega
end Go.Proofs.Ytpdggodmiliijaa
