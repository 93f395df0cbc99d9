/- one text of B, I, OP, HpA, PgA, PhA -/
import Derived.Test.YtlepgfccnfcagaaWp1
namespace Go.Proofs.Ytlepgfccnfcagaa
open Go.RowKit
set_option linter.unusedVariables false
section
def badCls (all : List Cls) (i : Nat) (c : Cls) : Bool := !okName c.name || decide (0 ≤ findN (all.take i) c.name 0) || ((i : Int) == 0 && c.parent != -1) || (decide (0 < (i : Int)) && !(decide (0 ≤ c.parent) && decide (c.parent ≤ (i : Int) - 1)))
def okFrom (all : List Cls) : Nat → List Cls → Bool
  | _, [] => decide (1 ≤ all.length) && decide (all.length ≤ 8)
  | i, c :: r => !badCls all i c && okFrom all (i + 1) r
def okTree (all : List Cls) : Bool := okFrom all 0 all
theorem okFrom_at {all : List Cls} {k : Nat} (h : k < all.length) : okFrom all k (all.drop k) = (!badCls all k all[k] && okFrom all (k + 1) (all.drop (k + 1))) := by
  rw [List.drop_eq_getElem_cons h]; rfl
theorem okFrom_end {all : List Cls} {k : Nat} (h : ¬ k < all.length) : okFrom all k (all.drop k) = (decide ((1 : Int) ≤ all.length) && decide ((all.length : Int) ≤ 8)) := by
  rw [List.drop_eq_nil_of_le (by omega)]
  show (decide (1 ≤ all.length) && decide (all.length ≤ 8)) = _
  congr 1 <;> simp <;> omega

set_option maxHeartbeats 8000000 in
theorem validTree_any (A : Option Addr) (n cap : Nat) (xs : List Cls) (w : World) (hR : Sl w A n cap xs) :
    Calls Try.prog 61 #[.agg #[.slice A n cap]] w fun e w' => e = .returned (.bool (okTree xs)) ∧ Le w w' := by
  obtain rfl := hR.len
  have hm := hR.n_le
  have hcp := hR.cap_
  go_enter Try.func61, Try.ntmps61
  go_wp2
  go_loopw [3] (fun i wr => ∃ k : Nat, k ≤ xs.length ∧ i = .int .i64 k ∧ okTree xs = okFrom xs k (xs.drop k) ∧ Le (w.alloc (.cells #[.slice A xs.length cap] 25)) wr) (fun i _ => xs.length - (intOf i).toNat)
  case atStart => exact ⟨0, Nat.zero_le _, rfl, rfl, Le.refl _⟩
  case round =>
    obtain ⟨k, hk, rfl, hr, hle⟩ := hrel
    have HR := Lib.hid hr; clear hr
    have hz : w.heap.size < wr.heap.size := by have := hle.size; simp at this; omega
    have hT : wr.cell? ⟨w.heap.size, 0, none⟩ = some (.slice A xs.length cap) := by
      rw [hle.cell (by simp)]; simp
    have hwr : Le w wr := (Le.new w _).trans hle
    have hRr := hR.le hwr
    clear hR
    by_cases hlt : k < xs.length
    · obtain ⟨b, off, rfl, hb, hcell, hcell2, hns, hp1, hp2⟩ := hRr.cls_at hlt
      go_wp2
      generalize hWd : wr.alloc _ = W
      have hWle : Le wr W := by rw [← hWd]; exact Le.new wr _
      have e1 : W.cell? ⟨wr.heap.size, 0, none⟩ = some (.string xs[k].name) := by rw [← hWd]; simp
      have e2 : W.cell? ⟨wr.heap.size, 1, none⟩ = some (.int .i64 xs[k].parent) := by rw [← hWd]; simp
      have hzW : wr.heap.size < W.heap.size := by rw [← hWd]; simp
      have e3 : W.cell? ⟨w.heap.size, 0, none⟩ = some (.slice (some ⟨b, off, none⟩) xs.length cap) := (hWle.cell hz).trans hT
      have hRW := hRr.le hWle
      clear hWd hcell hcell2 hT
      have E1 := cell_ext hzW e1
      have E2 := cell_ext hzW e2
      have E3 := cell_ext (by omega) e3
      have HB : Hid (okTree xs = (!badCls xs k xs[k] && okFrom xs (k + 1) (xs.drop (k + 1)))) := by show _ = _; rw [HR.out, okFrom_at hlt]
      unfold badCls at HB
      by_cases hk0 : k = 0
      all_goals cases h1 : okName xs[k].name
      all_goals cases h2 : decide (0 ≤ findN (xs.take k) xs[k].name 0)
      all_goals cases h4 : xs[k].parent != -1
      all_goals cases h6 : (decide (0 ≤ xs[k].parent) && decide (xs[k].parent ≤ (k : Int) - 1))
      all_goals
        have h3 : ((k : Int) == 0) = decide (k = 0) := by
          by_cases e : k = 0 <;> simp [e]
        have h5 : decide (0 < (k : Int)) = !decide (k = 0) := by
          by_cases e : k = 0 <;> simp [e]
          omega
        have h5n : decide (0 < k) = !decide (k = 0) := by
          by_cases e : k = 0 <;> simp [e]
          omega
      all_goals first | rw [decide_eq_true hk0] at h3 h5 h5n | rw [decide_eq_false hk0] at h3 h5 h5n
      all_goals simp only [Bool.not_true, Bool.not_false] at h5 h5n
      all_goals
        have hout := HB.out
        simp only [h1, h2, h3, h4, h5, h6] at hout
        have HO := Lib.hid hout
        clear hout HB
        clear hk0
      all_goals
        refine wp_region_ext (by kernel_rfl) (by kernel_rfl) ?_
        repeat (go_big_quiet_step (first | (go_at_call 94; exact Calls.ext_same (Calls.val (validName_any _ _ hns) (vb h1))) | (go_at_call 95; exact Calls.ext_same (classNamed_any _ _ _ _ _ _ ((hRW.ext _).take_ _ (by omega)))) | (go_at_call 88; exact Calls.ext_same (Calls.val (inRange_any _ _ _ _) (vb h6)))))
        refine wpQuiet_nil ?_
        intro _ hw'
        obtain ⟨g, rfl⟩ := hw'
        have hg := hWle.trans (Le.ext W g)
        generalize W.ext g = W2 at *
        go_wp2
        first
          | (go_ret; exact ⟨ret_bool (by rw [HO.out]; rfl), hwr.trans hg⟩)
          | (go_roundw
             case rel => exact ⟨k + 1, by omega, by go_num, by rw [HO.out]; rfl, hle.trans hg⟩
             case measure => simp [intOf]; omega)
    · have HF : Hid (okTree xs = (decide ((1 : Int) ≤ xs.length) && decide ((xs.length : Int) ≤ 8))) := by show _ = _; rw [HR.out, okFrom_end hlt]
      go_wp2_with (go_at_call 88; refine (inRange_any _ _ _ _).mono ?_; rintro e w' ⟨rfl, rfl⟩)
      go_ret
      exact ⟨ret_bool HF.out.symm, hwr⟩
end

section
theorem okFrom_mem {all : List Cls} : ∀ (m k : Nat), k + m = all.length → okFrom all k (all.drop k) = true → (1 ≤ all.length ∧ all.length ≤ 8) ∧ ∀ i (h : i < all.length), k ≤ i → badCls all i all[i] = false := by
  intro m
  induction m with
  | zero =>
    intro k hk h
    rw [okFrom_end (by omega)] at h
    simp at h
    exact ⟨by omega, fun i hi hki => by omega⟩
  | succ m ih =>
    intro k hk h
    rw [okFrom_at (by omega), Bool.and_eq_true] at h
    obtain ⟨h1, h2⟩ := h
    obtain ⟨hl, hr⟩ := ih (k + 1) (by omega) h2
    refine ⟨hl, fun i hi hki => ?_⟩
    by_cases e : i = k
    · subst e; simpa using h1
    · exact hr i hi (by omega)
/-- what a valid tree keeps to -/
structure Good (xs : List Cls) : Prop where
  lo : 1 ≤ xs.length
  hi : xs.length ≤ 8
  root : ∀ h : 0 < xs.length, xs[0].parent = -1
  par : ∀ i (h : i < xs.length), 0 < i → 0 ≤ xs[i].parent ∧ xs[i].parent ≤ (i : Int) - 1
  name : ∀ i (h : i < xs.length), okName xs[i].name = true
  diff : ∀ i (h : i < xs.length), findN (xs.take i) xs[i].name 0 < 0
theorem good_of {xs : List Cls} (h : okTree xs = true) : Good xs := by
  obtain ⟨⟨h1, h2⟩, hb⟩ := okFrom_mem (all := xs) xs.length 0 (by omega) (by simpa [okTree] using h)
  have hx : ∀ i (h : i < xs.length), okName xs[i].name = true ∧ findN (xs.take i) xs[i].name 0 < 0 ∧ (i = 0 → xs[i].parent = -1) ∧ (0 < i → 0 ≤ xs[i].parent ∧ xs[i].parent ≤ (i : Int) - 1) := by
    intro i hi
    have := hb i hi (Nat.zero_le _)
    unfold badCls at this
    simp only [Bool.or_eq_false_iff, Bool.not_eq_false', Bool.and_eq_false_iff, decide_eq_false_iff_not] at this
    obtain ⟨⟨⟨a, b⟩, c⟩, d⟩ := this
    refine ⟨a, by omega, fun e => ?_, fun e => ?_⟩
    · subst e
      rcases c with c | c
      · simp at c
      · simpa [bne] using c
    · rcases d with d | d
      · omega
      · simpa using d
  exact ⟨h1, h2, fun h => (hx 0 h).2.2.1 rfl, fun i h => (hx i h).2.2.2, fun i h => (hx i h).1, fun i h => (hx i h).2.1⟩
theorem Good.par_le {xs : List Cls} (g : Good xs) {i : Nat} (h : i < xs.length) : -1 ≤ xs[i].parent ∧ xs[i].parent ≤ (i : Int) - 1 := by
  by_cases e : i = 0
  · subst e; have := g.root h; omega
  · have := g.par i h (by omega); omega

def parOf (xs : List Cls) (a : Int) : Int := match xs[a.toNat]? with | some c => c.parent | none => -1
def aboveL (xs : List Cls) (a : Int) : List Int := if 0 ≤ a then a :: (if parOf xs a < a then aboveL xs (parOf xs a) else []) else []
termination_by (a + 1).toNat
decreasing_by omega
def isAL (xs : List Cls) (a b : Int) : Bool := hasI (aboveL xs a) b
theorem parOf_at {xs : List Cls} {i : Nat} (h : i < xs.length) : parOf xs (i : Int) = xs[i].parent := by
  unfold parOf; rw [Int.toNat_natCast, List.getElem?_eq_getElem h]
theorem aboveL_neg {xs : List Cls} {a : Int} (h : a < 0) : aboveL xs a = [] := by rw [aboveL, if_neg (by omega)]
theorem aboveL_at {xs : List Cls} (g : Good xs) {i : Nat} (h : i < xs.length) : aboveL xs (i : Int) = (i : Int) :: aboveL xs xs[i].parent := by
  have hp := g.par_le h
  rw [aboveL, if_pos (by omega), parOf_at h, if_pos (by omega)]
theorem isAL_at {xs : List Cls} (g : Good xs) {i : Nat} (h : i < xs.length) (b : Int) : isAL xs (i : Int) b = ((i : Int) == b || isAL xs xs[i].parent b) := by
  unfold isAL; rw [aboveL_at g h]; rfl
theorem isAL_neg {xs : List Cls} {a : Int} (h : a < 0) (b : Int) : isAL xs a b = false := by unfold isAL; rw [aboveL_neg h]; rfl
/-- all that is above lies in the tree -/
theorem aboveL_mem {xs : List Cls} (g : Good xs) : ∀ (m : Nat) (a : Int), (a + 1).toNat = m → a < xs.length → ∀ x ∈ aboveL xs a, 0 ≤ x ∧ x ≤ a := by
  intro m
  induction m using Nat.strongRecOn with
  | _ m ih =>
    intro a hm ha x hx
    by_cases h : a < 0
    · rw [aboveL_neg h] at hx; cases hx
    · obtain ⟨i, rfl⟩ := Int.eq_ofNat_of_zero_le (by omega : 0 ≤ a)
      have hi : i < xs.length := by omega
      rw [aboveL_at g hi] at hx
      have hp := g.par_le hi
      rcases List.mem_cons.1 hx with rfl | hx
      · omega
      · have := ih (xs[i].parent + 1).toNat (by omega) _ rfl (by omega) x hx
        omega
theorem aboveL_len {xs : List Cls} (g : Good xs) : ∀ (m : Nat) (a : Int), (a + 1).toNat = m → a < xs.length → (aboveL xs a).length ≤ m := by
  intro m
  induction m using Nat.strongRecOn with
  | _ m ih =>
    intro a hm ha
    by_cases h : a < 0
    · rw [aboveL_neg h]; simp
    · obtain ⟨i, rfl⟩ := Int.eq_ofNat_of_zero_le (by omega : 0 ≤ a)
      have hi : i < xs.length := by omega
      rw [aboveL_at g hi]
      have hp := g.par_le hi
      have := ih (xs[i].parent + 1).toNat (by omega) _ rfl (by omega)
      simp; omega

def hasK (xs : List Cls) (a : Int) : Bool := decide (0 ≤ a) && decide (a ≤ (xs.length : Int) - 1)

theorem hasClass_any (A : Option Addr) (n cap : Nat) (xs : List Cls) (a : Int) (w : World) (hR : Sl w A n cap xs) :
    Calls Try.prog 111 #[.agg #[.slice A n cap], .int .i64 a] w fun e w' => e = .returned (.bool (hasK xs a)) ∧ Le w w' := by
  obtain rfl := hR.len
  have hm := hR.n_le
  go_enter Try.func111, Try.ntmps111
  go_wp2_with (go_at_call 88; refine (inRange_any _ _ _ _).mono ?_; rintro e w' ⟨rfl, rfl⟩)
  go_ret
  exact ⟨rfl, Le.new w _⟩

theorem intInfo : (Try.prog.info? 3).map (fun i => (i.zero, i.size, i.bytes)) = some (some (.int .i64 0), 1, 8) := by kernel_rfl

set_option maxRecDepth 100000 in
theorem above_any (A : Option Addr) (n cap : Nat) (xs : List Cls) (a : Int) (w : World) (hR : Sl w A n cap xs) (g : Good xs) (ha : a < xs.length) (ha0 : -1 ≤ a) :
    Calls Try.prog 136 #[.agg #[.slice A n cap], .int .i64 a] w fun e w' => ∃ v, e = .returned v ∧ w'.ownsRow w.heap.size 3 1 v (aboveL xs a).length ((aboveL xs a).flatMap Enc.cells) ∧ Le w w' := by
  obtain ⟨i0, hi, hz0, hz1, hz2⟩ := info_parts intInfo
  have hl := Le.new w (.cells #[.slice A n cap] 25)
  have c0 : (w.alloc (.cells #[.slice A n cap] 25)).cell? ⟨w.heap.size, 0, none⟩ = some (.slice A n cap) := by rw [World.cell?_alloc_at _ _ _ _ rfl]; rfl
  have hz : w.heap.size < (w.alloc (.cells #[.slice A n cap] 25)).heap.size := by simp
  go_enter Try.func136, Try.ntmps136
  go_wp2
  have hlen := aboveL_len g _ a rfl (by omega)
  have hhi := g.hi
  have hnn := hR.len
  go_loopw [1, 5] (fun q v wr => ∃ a' : Int, ∃ out : List Int, -1 ≤ a' ∧ a' < xs.length ∧ q = .int .i64 a' ∧ aboveL xs a = out ++ aboveL xs a' ∧ wr.ownsRow (w.heap.size + 1) 3 1 v out.length (out.flatMap Enc.cells) ∧
      wr.cell? ⟨w.heap.size, 0, none⟩ = some (.slice A n cap) ∧ w.heap.size + 1 < wr.heap.size ∧ Le w wr) (fun q _ _ => (intOf q + 1).toNat)
  case atStart =>
    refine ⟨a, [], ha0, ha, rfl, rfl, ?_, ?_, by simp, hl.alloc _⟩
    · exact own_empty hz (by simp)
    · exact (World.cell?_alloc_past _ _ _ hz).trans c0
  case round =>
    obtain ⟨a', out, h1, h2, rfl, hr, hown, hT, hzr, hle⟩ := hrel
    have HR := Lib.hid hr; clear hr
    clear c0 hz hl
    by_cases h0 : a' < 0
    · have HF : Hid (aboveL xs a = out) := by show _ = _; rw [HR.out, aboveL_neg h0, List.append_nil]
      go_wp2
      go_ret
      exact ⟨_, rfl, by rw [HF.out]; exact own_mono hown (by omega), hle⟩
    · obtain ⟨i, rfl⟩ := Int.eq_ofNat_of_zero_le (by omega : 0 ≤ a')
      have hi' : i < xs.length := by omega
      have hp := g.par_le hi'
      obtain ⟨b, off, rfl, hb, hcell, hcell2, _, _, _⟩ := hR.cls_at hi'
      have HS : Hid (aboveL xs a = (out ++ [(i : Int)]) ++ aboveL xs xs[i].parent) := by show _ = _; rw [HR.out, aboveL_at g hi']; simp
      have hol : out.length + 1 ≤ 8 := by
        have e := congrArg List.length HS.out
        simp at e; omega
      have hc3 : out.length + 1 ≤ maxLen := by unfold maxLen; omega
      have hc4 : (out.length + 1) * 8 ≤ 140737488355328 := by omega
      have hiN : i < n := by omega
      have HN := Lib.hid hnn; clear hnn
      go_wp2_with (at_builtin; refine wpList_append_own _ rfl _ _ 29 rfl (w.heap.size + 1) 3 i0 (.int .i64 0) 1 8 Try.underlying29 hi hz0 hz1 hz2 rfl (by decide) _ _ _ rfl (hown.alloc _) ⟨wr.heap.size, 0, none⟩ 1 1 [.int .i64 i] rfl rfl ?c1 ?c2 hc3 hc4 ?c5 ?_)
      case c2 => rfl
      case c5 => omega
      intro v1 w1 hown1 hg1 _
      have hle1 := (hle.alloc (.cells #[.int .i64 (i : Int)] 3)).grown hg1 (fun k hk => by have := (hown.lt k hk).1; omega)
      have hT1 := hg1.cell ((World.cell?_alloc_past (.cells #[.int .i64 (i : Int)] 3) _ _ (by omega)).trans hT) (fun e => by have h' : w.heap.size + 1 ≤ w.heap.size := (hown.lt _ e.symm).1; omega)
      have hcell1 := (hle1.cell hb).trans hcell2
      go_wp2
      go_roundw
      case rel =>
        refine ⟨xs[i].parent, out ++ [(i : Int)], by omega, by omega, rfl, HS.out, ?_, hT1, ?_, hle1⟩
        · simpa [Enc.cells] using hown1
        · have := hg1.size; simp at this; omega
      case measure => simp [intOf]; omega
end

section
def isAx (xs : List Cls) (a b : Int) : Bool := okTree xs && hasK xs a && hasK xs b && isAL xs a b
theorem isAx_of {xs : List Cls} {t p q r : Bool} {a b : Int} (h1 : okTree xs = t) (h2 : hasK xs a = p) (h3 : hasK xs b = q) (h4 : isAL xs a b = r) : isAx xs a b = (t && p && q && r) := by unfold isAx; rw [h1, h2, h3, h4]
theorem hasK_iff {xs : List Cls} {a : Int} : hasK xs a = true ↔ 0 ≤ a ∧ a < xs.length := by unfold hasK; simp; omega
def blk : Value → Nat
  | .pointer (some p) => p.block + 1
  | _ => 0
end

section
def ctxOf (hs : List Flt) (x : Int) : Int := match hs[x.toNat]? with | some f => f.ctx | none => -1
theorem ctxOf_at {hs : List Flt} {i : Nat} (h : i < hs.length) : ctxOf hs (i : Int) = hs[i].ctx := by
  unfold ctxOf; rw [Int.toNat_natCast, List.getElem?_eq_getElem h]
def rng (lo hi x : Int) : Bool := decide (lo ≤ x) && decide (x ≤ hi)
theorem rng_iff {lo hi x : Int} : rng lo hi x = true ↔ lo ≤ x ∧ x ≤ hi := by unfold rng; simp
def linksOk (n : Nat) (k : Int) (x : Flt) : Bool := rng (-1) ((n : Int) - 1) x.cause && rng (-1) ((n : Int) - 1) x.ctx && (x.cause != k) && (x.ctx != k)
def fOk (xs : List Cls) (n : Nat) (k : Int) (x : Flt) : Bool := hasK xs x.cls && rng 0 99 x.code && linksOk n k x
def allF (xs : List Cls) (n : Nat) : Nat → List Flt → Bool
  | _, [] => true
  | k, x :: r => fOk xs n (k : Int) x && allF xs n (k + 1) r
theorem allF_at {xs : List Cls} {n : Nat} {hs : List Flt} {k : Nat} (h : k < hs.length) : allF xs n k (hs.drop k) = (fOk xs n (k : Int) hs[k] && allF xs n (k + 1) (hs.drop (k + 1))) := by
  rw [List.drop_eq_getElem_cons h]; rfl
theorem allF_end {xs : List Cls} {n : Nat} {hs : List Flt} {k : Nat} (h : ¬ k < hs.length) : allF xs n k (hs.drop k) = true := by
  rw [List.drop_eq_nil_of_le (by omega)]; rfl
theorem allF_mem {xs : List Cls} {n : Nat} {hs : List Flt} : ∀ (m k : Nat), k + m = hs.length → allF xs n k (hs.drop k) = true → ∀ i (h : i < hs.length), k ≤ i → fOk xs n (i : Int) hs[i] = true := by
  intro m
  induction m with
  | zero => intro k hk h i hi hki; omega
  | succ m ih =>
    intro k hk h i hi hki
    rw [allF_at (by omega), Bool.and_eq_true] at h
    by_cases e : i = k
    · subst e; exact h.1
    · exact ih (k + 1) (by omega) h.2 i hi (by omega)
theorem allF_mk {xs : List Cls} {n : Nat} {hs : List Flt} (H : ∀ i (h : i < hs.length), fOk xs n (i : Int) hs[i] = true) : ∀ (m k : Nat), k + m = hs.length → allF xs n k (hs.drop k) = true := by
  intro m
  induction m with
  | zero => intro k hk; exact allF_end (by omega)
  | succ m ih => intro k hk; rw [allF_at (by omega), H k (by omega), ih (k + 1) (by omega)]; rfl
/-- the chain from f along nx -/
def chainN (nx : Int → Int) (n : Nat) (f : Int) : List Int := Chn.go nx (n + 1) f []
def lastN (nx : Int → Int) (n : Nat) (f : Int) : Int := (chainN nx n f).getLastD (-1)
def endsAt (hs : List Flt) (f : Int) : Bool := decide (ctxOf hs (lastN (ctxOf hs) hs.length f) < 0)
def endsF (hs : List Flt) : Nat → Nat → Bool
  | _, 0 => true
  | k, m + 1 => endsAt hs (k : Int) && endsF hs (k + 1) m
theorem endsF_mem {hs : List Flt} : ∀ (m k : Nat), endsF hs k m = true ↔ ∀ i, k ≤ i → i < k + m → endsAt hs (i : Int) = true := by
  intro m
  induction m with
  | zero => intro k; simp [endsF]; intro i h1 h2; omega
  | succ m ih =>
    intro k
    rw [endsF, Bool.and_eq_true, ih]
    constructor
    · rintro ⟨h1, h2⟩ i hi hk
      by_cases e : i = k
      · subst e; exact h1
      · exact h2 i (by omega) (by omega)
    · intro h
      exact ⟨h k (Nat.le_refl _) (by omega), fun i h1 h2 => h i (by omega) (by omega)⟩
def okHeap (xs : List Cls) (hs : List Flt) : Bool := allF xs hs.length 0 hs && endsF hs 0 hs.length && okTree xs && decide (hs.length ≤ 24)
/-- links lead into the heap -/
structure Lnk (hs : List Flt) : Prop where
  cause : ∀ i (h : i < hs.length), -1 ≤ hs[i].cause ∧ hs[i].cause < hs.length
  ctx : ∀ i (h : i < hs.length), -1 ≤ hs[i].ctx ∧ hs[i].ctx < hs.length
  ne : ∀ i (h : i < hs.length), hs[i].cause ≠ (i : Int) ∧ hs[i].ctx ≠ (i : Int)
theorem lnk_of {xs : List Cls} {hs : List Flt} (h : allF xs hs.length 0 hs = true) : Lnk hs := by
  have hm := allF_mem (hs := hs) hs.length 0 (by omega) (by simpa using h)
  have hx : ∀ i (h : i < hs.length), (-1 ≤ hs[i].cause ∧ hs[i].cause < hs.length) ∧ (-1 ≤ hs[i].ctx ∧ hs[i].ctx < hs.length) ∧ hs[i].cause ≠ (i : Int) ∧ hs[i].ctx ≠ (i : Int) := by
    intro i hi
    have := hm i hi (Nat.zero_le _)
    unfold fOk linksOk at this
    simp only [Bool.and_eq_true, rng_iff, bne_iff_ne] at this
    obtain ⟨_, ⟨⟨h1, h2⟩, h3⟩, h4⟩ := this
    exact ⟨by omega, by omega, h3, h4⟩
  exact ⟨fun i h => (hx i h).1, fun i h => (hx i h).2.1, fun i h => (hx i h).2.2⟩
theorem Lnk.ctxlt {hs : List Flt} (h : Lnk hs) : ∀ x : Int, 0 ≤ x → x < hs.length → ctxOf hs x < hs.length := by
  intro x h0 h1
  obtain ⟨i, rfl⟩ := Int.eq_ofNat_of_zero_le h0
  rw [ctxOf_at (by omega)]
  exact (h.ctx i (by omega)).2
theorem chain_is {nx : Int → Int} {n : Nat} (hb : ∀ x : Int, 0 ≤ x → x < n → nx x < n) {f : Int} (h0 : 0 ≤ f) (h1 : f < n) : Chn.Is nx f (chainN nx n f) :=
  Chn.go_is hb h0 h1 (n + 1) f [] (Chn.Pre.start h1) (by simp)
theorem last_of {nx : Int → Int} {n : Nat} {f x : Int} (h : (chainN nx n f).getLast? = some x) : lastN nx n f = x := by
  unfold lastN; rw [List.getLastD_eq_getLast?, h]; rfl
theorem is_last {nx : Int → Int} {f : Int} {L : List Int} (h : Chn.Is nx f L) : ∃ x, L.getLast? = some x ∧ x ∈ L := by
  cases e : L.getLast? with
  | none => rw [List.getLast?_eq_none_iff] at e; exact absurd e h.ne
  | some x => exact ⟨x, rfl, List.mem_of_getLast? e⟩
theorem ends_iff {hs : List Flt} (h : Lnk hs) : endsF hs 0 hs.length = true ↔ Chn.allEnd (ctxOf hs) hs.length := by
  rw [endsF_mem]
  constructor
  · intro H f h0 h1 L hL x hx
    obtain ⟨i, rfl⟩ := Int.eq_ofNat_of_zero_le h0
    have := H i (Nat.zero_le _) (by omega)
    unfold endsAt at this
    rw [hL.uniq (chain_is h.ctxlt h0 h1)] at hx
    rw [last_of hx] at this
    simpa using this
  · intro H i _ hi
    have hc := chain_is (f := (i : Int)) h.ctxlt (by omega) (by omega)
    obtain ⟨x, hx, _⟩ := is_last hc
    unfold endsAt
    rw [last_of hx]
    simpa using H i (by omega) (by omega) _ hc x hx
def backAt (hs : List Flt) (i : Int) : Bool := decide (0 ≤ ctxOf hs i) && hasI (chainN (ctxOf hs) hs.length (ctxOf hs i)) i
theorem hasI_iff' {x : Int} : ∀ {L : List Int}, hasI L x = true ↔ x ∈ L
  | [] => by simp [hasI]
  | c :: r => by
    rw [hasI, Bool.or_eq_true, hasI_iff' (L := r), List.mem_cons, beq_iff_eq]
    constructor
    · rintro (h | h)
      · exact .inl h.symm
      · exact .inr h
    · rintro (h | h)
      · exact .inl h.symm
      · exact .inr h
theorem noback_iff {hs : List Flt} (h : Lnk hs) : Chn.noBack (ctxOf hs) hs.length ↔ ∀ i, i < hs.length → backAt hs (i : Int) = false := by
  constructor
  · intro H i hi
    unfold backAt
    by_cases h0 : 0 ≤ ctxOf hs (i : Int)
    · have hc := chain_is (f := ctxOf hs (i : Int)) h.ctxlt h0 (h.ctxlt i (by omega) (by omega))
      have := H i (by omega) (by omega) _ hc
      rw [← hasI_iff'] at this
      rw [Bool.and_eq_false_iff]; right; simpa using this
    · rw [decide_eq_false h0]; rfl
  · intro H i h0 h1 L hL hm
    obtain ⟨k, rfl⟩ := Int.eq_ofNat_of_zero_le h0
    have hk := H k (by omega)
    unfold backAt at hk
    have hp : 0 ≤ ctxOf hs (k : Int) := by
      have h2 := hL.hd
      have h3 : ctxOf hs (k : Int) ∈ L := List.mem_of_head? h2
      exact hL.pos _ h3
    have hc := chain_is (f := ctxOf hs (k : Int)) h.ctxlt hp (h.ctxlt k (by omega) (by omega))
    rw [hL.uniq hc] at hm
    rw [decide_eq_true hp, Bool.true_and, hasI_iff'.2 hm] at hk
    cases hk
theorem ends_back {hs : List Flt} (h : Lnk hs) : endsF hs 0 hs.length = true ↔ ∀ i, i < hs.length → backAt hs (i : Int) = false := by
  rw [ends_iff h, ← noback_iff h]
  exact ⟨Chn.noBack_of_end, Chn.end_of_noBack h.ctxlt⟩
/-- what a valid heap keeps to -/
structure GoodH (xs : List Cls) (hs : List Flt) : Prop where
  tree : Good xs
  few : hs.length ≤ 24
  lnk : Lnk hs
  cls : ∀ i (h : i < hs.length), 0 ≤ hs[i].cls ∧ hs[i].cls < xs.length
  code : ∀ i (h : i < hs.length), 0 ≤ hs[i].code ∧ hs[i].code ≤ 99
  fin : Chn.allEnd (ctxOf hs) hs.length
theorem okHeap_tree {xs : List Cls} {hs : List Flt} (h : okHeap xs hs = true) : okTree xs = true := by
  unfold okHeap at h; simp only [Bool.and_eq_true] at h; exact h.1.2
theorem goodH_of {xs : List Cls} {hs : List Flt} (h : okHeap xs hs = true) : GoodH xs hs := by
  have ht := okHeap_tree h
  unfold okHeap at h
  simp only [Bool.and_eq_true, decide_eq_true_eq] at h
  obtain ⟨⟨⟨h1, h2⟩, _⟩, h4⟩ := h
  have hl := lnk_of h1
  have hm := allF_mem (hs := hs) hs.length 0 (by omega) (by simpa using h1)
  refine ⟨good_of ht, h4, hl, fun i hi => ?_, fun i hi => ?_, (ends_iff hl).1 h2⟩
  · have := hm i hi (Nat.zero_le _)
    unfold fOk at this
    simp only [Bool.and_eq_true] at this
    exact hasK_iff.1 this.1.1
  · have := hm i hi (Nat.zero_le _)
    unfold fOk at this
    simp only [Bool.and_eq_true, rng_iff] at this
    exact this.1.2
end

section
section
def dep (p : List Lin) (i : Nat) : Int := match p[i]? with | some x => x.depth | none => 0
def knd (p : List Lin) (i : Nat) : Int := match p[i]? with | some x => x.kind | none => 0
theorem dep_at {p : List Lin} {i : Nat} (h : i < p.length) : dep p i = p[i].depth := by unfold dep; rw [List.getElem?_eq_getElem h]
theorem knd_at {p : List Lin} {i : Nat} (h : i < p.length) : knd p i = p[i].kind := by unfold knd; rw [List.getElem?_eq_getElem h]
/-- the line behind the block of a line -/
def bGo (p : List Lin) (d : Int) : Nat → Nat → Nat
  | 0, k => k
  | m + 1, k => if d < dep p k then bGo p d m (k + 1) else k
def bEnd (p : List Lin) (i : Nat) : Nat := bGo p (dep p i) (p.length - (i + 1)) (i + 1)
theorem bGo_ge (p : List Lin) (d : Int) : ∀ (m k : Nat), k ≤ bGo p d m k
  | 0, k => Nat.le_refl _
  | m + 1, k => by
    unfold bGo; split
    · exact Nat.le_trans (Nat.le_succ k) (bGo_ge p d m (k + 1))
    · exact Nat.le_refl _
theorem bGo_le (p : List Lin) (d : Int) : ∀ (m k : Nat), bGo p d m k ≤ k + m
  | 0, k => Nat.le_refl _
  | m + 1, k => by
    unfold bGo; split
    · have := bGo_le p d m (k + 1); omega
    · omega
theorem bGo_in (p : List Lin) (d : Int) : ∀ (m k x : Nat), k ≤ x → x < bGo p d m k → d < dep p x
  | 0, k, x, h1, h2 => by unfold bGo at h2; omega
  | m + 1, k, x, h1, h2 => by
    unfold bGo at h2
    split at h2
    · next h =>
      by_cases e : x = k
      · rw [e]; exact h
      · exact bGo_in p d m (k + 1) x (by omega) h2
    · omega
theorem bGo_stop (p : List Lin) (d : Int) : ∀ (m k : Nat), bGo p d m k < k + m → ¬ d < dep p (bGo p d m k)
  | 0, k, h => by unfold bGo at h; omega
  | m + 1, k, h => by
    unfold bGo at h ⊢
    split
    · next h1 => rw [if_pos h1] at h; exact bGo_stop p d m (k + 1) (by omega)
    · next h1 => exact h1
theorem bEnd_gt (p : List Lin) (i : Nat) : i < bEnd p i := bGo_ge p _ _ (i + 1)
theorem bEnd_le {p : List Lin} {i : Nat} (h : i < p.length) : bEnd p i ≤ p.length := by
  have := bGo_le p (dep p i) (p.length - (i + 1)) (i + 1)
  unfold bEnd; omega
theorem bEnd_in {p : List Lin} {i x : Nat} (h1 : i < x) (h2 : x < bEnd p i) : dep p i < dep p x := bGo_in p _ _ _ x h1 h2
theorem bEnd_stop {p : List Lin} {i : Nat} (hi : i < p.length) (h : bEnd p i < p.length) : dep p (bEnd p i) ≤ dep p i := by
  have := bGo_stop p (dep p i) (p.length - (i + 1)) (i + 1) (by unfold bEnd at h; omega)
  unfold bEnd; omega
/-- k is the line ahead of i that is as deep, with only deeper ones between -/
def Sib (p : List Lin) (k i : Nat) : Prop := k < i ∧ i < p.length ∧ dep p k = dep p i ∧ ∀ m, k < m → m < i → dep p i < dep p m
theorem sib_of {p : List Lin} {k : Nat} (h : bEnd p k < p.length) (he : dep p (bEnd p k) = dep p k) : Sib p k (bEnd p k) :=
  ⟨bEnd_gt p k, h, he.symm, fun m h1 h2 => by rw [he]; exact bEnd_in h1 h2⟩
theorem Sib.out {p : List Lin} {k i : Nat} (h : Sib p k i) : bEnd p k = i := by
  obtain ⟨h1, h2, h3, h4⟩ := h
  rcases Nat.lt_trichotomy (bEnd p k) i with h5 | h5 | h5
  · have a := bEnd_stop (by omega) (Nat.lt_trans h5 h2)
    have b := h4 _ (bEnd_gt p k) h5
    omega
  · exact h5
  · have := bEnd_in h1 h5
    omega
theorem Sib.uniq {p : List Lin} {k j i : Nat} (h : Sib p k i) (h2 : Sib p j i) : k = j := by
  rcases Nat.lt_trichotomy k j with h5 | h5 | h5
  · have := h.2.2.2 j h5 h2.1; have := h2.2.2.1; omega
  · exact h5
  · have := h2.2.2.2 k h5 h.1; have := h.2.2.1; omega
/-- the line behind the block of a line if that is as deep; the number of lines if there is none -/
def sNext (p : List Lin) (i : Nat) : Nat := if bEnd p i < p.length ∧ dep p (bEnd p i) = dep p i then bEnd p i else p.length
theorem sNext_gt {p : List Lin} {i : Nat} (h : i < p.length) : i < sNext p i := by
  unfold sNext; split
  · exact bEnd_gt p i
  · exact h
theorem sNext_sib {p : List Lin} {i : Nat} (h : sNext p i < p.length) : Sib p i (sNext p i) := by
  unfold sNext at h ⊢
  split
  · next e => exact sib_of e.1 e.2
  · next e => rw [if_neg e] at h; omega
theorem Sib.next {p : List Lin} {k i : Nat} (h : Sib p k i) : sNext p k = i := by
  have e := h.out
  unfold sNext
  rw [e, if_pos ⟨h.2.1, h.2.2.1.symm⟩]
/-- a kind that goes on with a try -/
def fol (k : Int) : Bool := decide (8 ≤ k) && decide (k ≤ 10)
theorem fol_iff {k : Int} : fol k = true ↔ 8 ≤ k ∧ k ≤ 10 := by unfold fol; simp
def chGo (p : List Lin) : Nat → Nat → List Nat
  | 0, _ => []
  | m + 1, k => if k < p.length ∧ fol (knd p k) = true then k :: chGo p m (sNext p k) else []
/-- the lines of a try as the model reads them -/
def chain (p : List Lin) (i : Nat) : List Nat := i :: chGo p p.length (sNext p i)
/-- what may come behind which line of a try -/
def mayF (a k : Int) : Bool := (decide (k = 8) && (decide (a = 7) || decide (a = 8))) || (decide (k = 9) && decide (a = 8)) || (decide (k = 10) && (decide (a = 7) || decide (a = 8) || decide (a = 9)))
theorem mayF_iff {a k : Int} : mayF a k = true ↔ (k = 8 ∧ (a = 7 ∨ a = 8)) ∨ (k = 9 ∧ a = 8) ∨ (k = 10 ∧ (a = 7 ∨ a = 8 ∨ a = 9)) := by
  unfold mayF; simp [or_assoc]
def ptGo (p : List Lin) (d : Int) : Nat → Nat → List Nat
  | 0, _ => []
  | m + 1, k => if bEnd p k < p.length ∧ dep p (bEnd p k) = d ∧ mayF (knd p k) (knd p (bEnd p k)) = true then bEnd p k :: ptGo p d m (bEnd p k) else []
/-- the lines of a try as the program reads them -/
def parts (p : List Lin) (i : Nat) : List Nat := i :: ptGo p (dep p i) p.length i
/-- how many LnExcept a list has -/
def exs (p : List Lin) (L : List Nat) : Nat := L.countP fun k => knd p k == 8
def vcGo (p : List Lin) : Bool → Int → Nat → List Nat → Option Nat
  | _, _, ex, [] => some ex
  | first, prev, ex, k :: r =>
    if (first = false ∧ (knd p k < prev ∨ (knd p k = prev ∧ knd p k ≠ 8))) ∨ (knd p k = 9 ∧ (if knd p k = 8 then ex + 1 else ex) = 0) then none
    else vcGo p false (knd p k) (if knd p k = 8 then ex + 1 else ex) r
/-- whether the lines of a try come in order, as the model asks -/
def vChain (p : List Lin) (i : Nat) : Bool := match vcGo p true 0 0 (chain p i).tail with | none => false | some ex => decide (1 < (chain p i).length) && decide (ex ≤ 6)
/-- what the walk over a try knows of the line that it has passed last -/
def StV (first : Bool) (prev : Int) (ex : Nat) (k : Int) : Prop := (first = true ∧ k = 7 ∧ ex = 0) ∨ (first = false ∧ prev = k ∧ 8 ≤ k ∧ k ≤ 10 ∧ (k ≤ 9 → 0 < ex))
def exN (n : Int) (ex : Nat) : Nat := if n = 8 then ex + 1 else ex
theorem exN_8 {n : Int} (h : n = 8) (ex : Nat) : exN n ex = ex + 1 := if_pos h
theorem exN_no {n : Int} (h : n ≠ 8) (ex : Nat) : exN n ex = ex := if_neg h
def badV (first : Bool) (prev : Int) (ex : Nat) (n : Int) : Prop := (first = false ∧ (n < prev ∨ (n = prev ∧ n ≠ 8))) ∨ (n = 9 ∧ exN n ex = 0)
theorem StV.step {first : Bool} {prev : Int} {ex : Nat} {k n : Int} (h : StV first prev ex k) (hn : 8 ≤ n ∧ n ≤ 10) (hv : ¬ badV first prev ex n) : mayF k n = true ∧ StV false n (exN n ex) n := by
  have hv1 : first = false → ¬ (n < prev ∨ (n = prev ∧ n ≠ 8)) := fun h1 h2 => hv (.inl ⟨h1, h2⟩)
  have hv2 : n = 9 → exN n ex ≠ 0 := fun h1 h2 => hv (.inr ⟨h1, h2⟩)
  have h8 := exN_8 (n := n)
  have h9 := exN_no (n := n)
  have hex : n = 8 → 0 < exN n ex := fun e => by rw [exN_8 e]; omega
  have hex9 : n = 9 → exN n ex = ex := fun e => exN_no (by omega) ex
  clear h8 h9 hv
  rcases h with ⟨rfl, rfl, rfl⟩ | ⟨rfl, rfl, h1, h2, h3⟩
  · have hn9 : n ≠ 9 := fun e => hv2 e (hex9 e)
    exact ⟨mayF_iff.2 (by omega), .inr ⟨rfl, rfl, hn.1, hn.2, fun _ => hex (by omega)⟩⟩
  · have hv3 := hv1 rfl
    refine ⟨mayF_iff.2 (by omega), .inr ⟨rfl, rfl, hn.1, hn.2, fun h4 => ?_⟩⟩
    by_cases e : n = 8
    · exact hex e
    · have e9 : n = 9 := by omega
      have := hex9 e9
      have := hv2 e9
      omega
theorem StV.back {first : Bool} {prev : Int} {ex : Nat} {k n : Int} (h : StV first prev ex k) (hm : mayF k n = true) : ¬ badV first prev ex n ∧ StV false n (exN n ex) n := by
  have hm' := mayF_iff.1 hm
  have hex : n = 8 → 0 < exN n ex := fun e => by rw [exN_8 e]; omega
  have hex9 : n = 9 → exN n ex = ex := fun e => exN_no (by omega) ex
  rcases h with ⟨rfl, rfl, rfl⟩ | ⟨rfl, rfl, h1, h2, h3⟩
  · refine ⟨?_, .inr ⟨rfl, rfl, by omega, by omega, fun _ => hex (by omega)⟩⟩
    rintro (⟨h, _⟩ | ⟨h, _⟩)
    · cases h
    · omega
  · refine ⟨?_, .inr ⟨rfl, rfl, by omega, by omega, fun h4 => ?_⟩⟩
    · rintro (⟨_, h⟩ | ⟨h, h4⟩)
      · omega
      · have := hex9 h
        have := h3 (by omega)
        omega
    · by_cases e : n = 8
      · exact hex e
      · have e9 : n = 9 := by omega
        have := hex9 e9
        have := h3 (by omega)
        omega
theorem vc_cons (p : List Lin) (first : Bool) (prev : Int) (ex : Nat) (k : Nat) (r : List Nat) [Decidable (badV first prev ex (knd p k))] : vcGo p first prev ex (k :: r) = if badV first prev ex (knd p k) then none else vcGo p false (knd p k) (exN (knd p k) ex) r := by
  show (if _ then none else _) = _
  by_cases h : badV first prev ex (knd p k)
  · rw [if_pos h]; exact if_pos h
  · rw [if_neg h]; exact if_neg h
theorem vc_bad {p : List Lin} {first : Bool} {prev : Int} {ex k : Nat} {r : List Nat} (h : badV first prev ex (knd p k)) : vcGo p first prev ex (k :: r) = none := if_pos h
theorem vc_ok {p : List Lin} {first : Bool} {prev : Int} {ex k : Nat} {r : List Nat} (h : ¬ badV first prev ex (knd p k)) : vcGo p first prev ex (k :: r) = vcGo p false (knd p k) (exN (knd p k) ex) r := if_neg h
theorem exs_cons (p : List Lin) (k : Nat) (r : List Nat) (ex : Nat) : exN (knd p k) ex + exs p r = ex + exs p (k :: r) := by
  unfold exs
  rw [List.countP_cons]
  by_cases h : knd p k = 8
  · rw [exN_8 h, h]; simp; omega
  · rw [exN_no h]
    have : (knd p k == 8) = false := by simpa using h
    rw [this]; simp
theorem pt_of_vc (p : List Lin) : ∀ (m k : Nat) (first : Bool) (prev : Int) (ex : Nat), k < p.length → StV first prev ex (knd p k) → vcGo p first prev ex (chGo p m (sNext p k)) ≠ none → ptGo p (dep p k) m k = chGo p m (sNext p k)
  | 0, _, _, _, _, _, _, _ => rfl
  | m + 1, k, first, prev, ex, hk, hs, hv => by
    by_cases hl : sNext p k < p.length
    · have sb := sNext_sib hl
      by_cases hf : fol (knd p (sNext p k)) = true
      · have hc : sNext p k < p.length ∧ fol (knd p (sNext p k)) = true := ⟨hl, hf⟩
        unfold chGo at hv ⊢
        unfold ptGo
        rw [if_pos hc] at hv
        have hb : ¬ badV first prev ex (knd p (sNext p k)) := fun hb => hv (vc_bad hb)
        rw [vc_ok hb] at hv
        obtain ⟨hm, hst⟩ := hs.step (fol_iff.1 hf) hb
        have hc2 : sNext p k < p.length ∧ dep p (sNext p k) = dep p k ∧ mayF (knd p k) (knd p (sNext p k)) = true := ⟨hl, sb.2.2.1.symm, hm⟩
        rw [sb.out, if_pos hc2, if_pos hc, sb.2.2.1, pt_of_vc p m _ _ _ _ hl hst hv]
      · unfold chGo ptGo
        rw [sb.out, if_neg (fun q => hf (fol_iff.2 (by have := mayF_iff.1 q.2.2; omega))), if_neg (fun q => hf q.2)]
    · unfold chGo ptGo
      rw [if_neg (fun q => by have := (sib_of q.1 q.2.1).next; have := q.1; omega), if_neg (fun q => hl q.1)]
theorem vc_of_pt (p : List Lin) : ∀ (m k : Nat) (first : Bool) (prev : Int) (ex : Nat), k < p.length → StV first prev ex (knd p k) → ptGo p (dep p k) m k = chGo p m (sNext p k) → vcGo p first prev ex (chGo p m (sNext p k)) = some (ex + exs p (chGo p m (sNext p k)))
  | 0, _, _, _, _, _, _, _ => rfl
  | m + 1, k, first, prev, ex, hk, hs, he => by
    unfold chGo at he ⊢
    unfold ptGo at he
    by_cases hl : sNext p k < p.length
    · have sb := sNext_sib hl
      by_cases hf : fol (knd p (sNext p k)) = true
      · rw [if_pos ⟨hl, hf⟩]
        rw [sb.out] at he
        by_cases hm : mayF (knd p k) (knd p (sNext p k)) = true
        · rw [if_pos ⟨hl, sb.2.2.1.symm, hm⟩, if_pos ⟨hl, hf⟩] at he
          injection he with _ he
          obtain ⟨hb, hst⟩ := hs.back hm
          rw [sb.2.2.1] at he
          rw [vc_ok hb, vc_of_pt p m _ _ _ _ hl hst he, exs_cons]
        · rw [if_neg (fun q => hm q.2.2), if_pos ⟨hl, hf⟩] at he; cases he
      · rw [if_neg (fun q => hf q.2)]; rfl
    · rw [if_neg (fun q => hl q.1)]; rfl
theorem vChain_iff {p : List Lin} {i : Nat} (hi : i < p.length) (h7 : knd p i = 7) : vChain p i = true ↔ parts p i = chain p i ∧ (parts p i).length ≠ 1 ∧ exs p (parts p i) ≤ 6 := by
  have hst : StV true 0 0 (knd p i) := .inl ⟨rfl, h7, rfl⟩
  have hex : ∀ r, exs p (i :: r) = exs p r := fun r => by
    have h := exs_cons p i r 0
    rw [exN_no (by omega)] at h; omega
  constructor
  · intro h
    unfold vChain at h
    show parts p i = chain p i ∧ _
    have hne : vcGo p true 0 0 (chGo p p.length (sNext p i)) ≠ none := fun e => by
      rw [show (chain p i).tail = chGo p p.length (sNext p i) from rfl, e] at h; cases h
    have he := pt_of_vc p p.length i true 0 0 hi hst hne
    have hv := vc_of_pt p p.length i true 0 0 hi hst he
    rw [show (chain p i).tail = chGo p p.length (sNext p i) from rfl, hv] at h
    have h' : (decide (1 < (chain p i).length) && decide (0 + exs p (chGo p p.length (sNext p i)) ≤ 6)) = true := h
    rw [Bool.and_eq_true, decide_eq_true_eq, decide_eq_true_eq] at h'
    have hp : parts p i = chain p i := by unfold parts chain; rw [he]
    refine ⟨hp, ?_, ?_⟩
    · rw [hp]; omega
    · rw [hp]; unfold chain; rw [hex]; omega
  · rintro ⟨hp, h1, h2⟩
    have he : ptGo p (dep p i) p.length i = chGo p p.length (sNext p i) := by unfold parts chain at hp; injection hp
    have hv := vc_of_pt p p.length i true 0 0 hi hst he
    rw [hp] at h1 h2
    unfold vChain
    rw [show (chain p i).tail = chGo p p.length (sNext p i) from rfl, hv]
    show (decide (1 < (chain p i).length) && decide (0 + exs p (chGo p p.length (sNext p i)) ≤ 6)) = true
    have h3 : exs p (chain p i) = exs p (chGo p p.length (sNext p i)) := hex _
    have h4 : 0 < (chain p i).length := by unfold chain; simp
    rw [Bool.and_eq_true, decide_eq_true_eq, decide_eq_true_eq]
    omega
theorem pt_pred (p : List Lin) : ∀ (m k x : Nat), k < p.length → x ∈ ptGo p (dep p k) m k → ∃ j, Sib p j x ∧ mayF (knd p j) (knd p x) = true
  | 0, _, _, _, h => by cases h
  | m + 1, k, x, hk, h => by
    unfold ptGo at h
    split at h
    · next c =>
      have sb := sib_of c.1 c.2.1
      rcases List.mem_cons.1 h with rfl | h
      · exact ⟨k, sb, c.2.2⟩
      · rw [sb.2.2.1] at h
        exact pt_pred p m _ x c.1 h
    · cases h
theorem ch_next (p : List Lin) : ∀ (m x k : Nat), p.length ≤ m + x → k ∈ chGo p m x → sNext p k < p.length → fol (knd p (sNext p k)) = true → sNext p k ∈ chGo p m x
  | 0, _, _, _, h, _, _ => by cases h
  | m + 1, x, k, hm, h, hl, hf => by
    unfold chGo at h ⊢
    split at h
    · next c =>
      rw [if_pos c]
      have hg := sNext_gt c.1
      rcases List.mem_cons.1 h with rfl | h
      · cases m with
        | zero => omega
        | succ m =>
          refine List.mem_cons_of_mem _ ?_
          unfold chGo
          rw [if_pos ⟨hl, hf⟩]
          exact List.mem_cons_self ..
      · exact List.mem_cons_of_mem _ (ch_next p m _ k (by omega) h hl hf)
    · cases h
def triesS (p : List Lin) : Prop := ∀ i, i < p.length → (knd p i = 7 → vChain p i = true) ∧ (fol (knd p i) = true → ∃ k, Sib p k i ∧ (knd p k = 7 ∨ fol (knd p k) = true))
def triesI (p : List Lin) : Prop := ∀ i, i < p.length → (knd p i = 7 → (parts p i).length ≠ 1 ∧ exs p (parts p i) ≤ 6) ∧ (fol (knd p i) = true → ∃ j, j < i ∧ knd p j = 7 ∧ i ∈ parts p j)
theorem full_of (p : List Lin) (H : triesI p) : ∀ (m k : Nat), k < p.length → ptGo p (dep p k) m k = chGo p m (sNext p k)
  | 0, _, _ => rfl
  | m + 1, k, hk => by
    unfold ptGo chGo
    by_cases hl : sNext p k < p.length
    · have sb := sNext_sib hl
      by_cases hf : fol (knd p (sNext p k)) = true
      · obtain ⟨j, hj, h7, hm⟩ := (H _ hl).2 hf
        have hne : sNext p k ≠ j := by omega
        have hm2 : sNext p k ∈ ptGo p (dep p j) p.length j := by
          rcases List.mem_cons.1 hm with h | h
          · exact absurd h hne
          · exact h
        obtain ⟨k', sb', hmf⟩ := pt_pred p _ j _ (by omega) hm2
        obtain rfl := sb'.uniq sb
        rw [sb.out, if_pos ⟨hl, sb.2.2.1.symm, hmf⟩, if_pos ⟨hl, hf⟩, sb.2.2.1, full_of p H m _ hl]
      · rw [sb.out, if_neg (fun q => hf (fol_iff.2 (by have := mayF_iff.1 q.2.2; omega))), if_neg (fun q => hf q.2)]
    · rw [if_neg (fun q => by have := (sib_of q.1 q.2.1).next; have := q.1; omega), if_neg (fun q => hl q.1)]
theorem tries_same (p : List Lin) : triesS p ↔ triesI p := by
  constructor
  · intro H
    have key : ∀ n i, i < n → i < p.length → fol (knd p i) = true → ∃ j, j < i ∧ knd p j = 7 ∧ i ∈ parts p j := by
      intro n
      induction n with
      | zero => intro i h; omega
      | succ n ih =>
        intro i hn hi hf
        obtain ⟨k, sb, hk⟩ := (H i hi).2 hf
        have hkl : k < p.length := by have := sb.1; omega
        have hnx := sb.next
        rcases hk with h7 | hfk
        · refine ⟨k, sb.1, h7, ?_⟩
          rw [((vChain_iff hkl h7).1 ((H k hkl).1 h7)).1]
          unfold chain
          refine List.mem_cons_of_mem _ ?_
          rw [hnx]
          obtain ⟨l, hl⟩ : ∃ l, p.length = l + 1 := ⟨p.length - 1, by omega⟩
          have : chGo p p.length i = i :: chGo p l (sNext p i) := by rw [hl]; unfold chGo; rw [if_pos ⟨by omega, hf⟩]; cases l <;> rfl
          rw [this]; exact List.mem_cons_self ..
        · obtain ⟨j, hj, h7, hm⟩ := ih k (by have := sb.1; omega) hkl hfk
          have hjl : j < p.length := by omega
          have hp := ((vChain_iff hjl h7).1 ((H j hjl).1 h7)).1
          refine ⟨j, by have := sb.1; omega, h7, ?_⟩
          rw [hp] at hm ⊢
          unfold chain at hm ⊢
          rcases List.mem_cons.1 hm with h | h
          · omega
          · have := ch_next p p.length (sNext p j) k (by omega) h (by rw [hnx]; exact hi) (by rw [hnx]; exact hf)
            rw [hnx] at this
            exact List.mem_cons_of_mem _ this
    exact fun i hi => ⟨fun h7 => ((vChain_iff hi h7).1 ((H i hi).1 h7)).2, fun hf => key (i + 1) i (by omega) hi hf⟩
  · intro H i hi
    refine ⟨fun h7 => (vChain_iff hi h7).2 ⟨?_, (H i hi).1 h7⟩, fun hf => ?_⟩
    · unfold parts chain; rw [full_of p H p.length i hi]
    · obtain ⟨j, hj, h7, hm⟩ := (H i hi).2 hf
      rcases List.mem_cons.1 hm with h | h
      · omega
      · obtain ⟨k, sb, hmf⟩ := pt_pred p _ j i (by omega) h
        refine ⟨k, sb, ?_⟩
        rcases mayF_iff.1 hmf with h | h | h
        · rcases h.2 with h | h
          · exact .inl h
          · exact .inr (fol_iff.2 (by omega))
        · exact .inr (fol_iff.2 (by omega))
        · rcases h.2 with h | h | h
          · exact .inl h
          · exact .inr (fol_iff.2 (by omega))
          · exact .inr (fol_iff.2 (by omega))
end

section
/-! numbers -/
def numS (xs : List Cls) (k a b : Int) : Bool :=
  if k = 1 ∨ k = 4 then rng 0 99 a && (b == 0)
  else if k = 2 then hasK xs a && rng 0 99 b
  else if k = 8 then hasK xs a && (b == 0)
  else if k = 11 then rng 0 9 a && rng 0 1 b
  else if k = 12 then rng 0 3 a && (b == 0)
  else rng 0 10 k && (a == 0) && (b == 0)
def mostA (n : Nat) (k : Int) : Int :=
  if k = 0 ∨ k = 3 ∨ k = 5 ∨ k = 6 ∨ k = 7 ∨ k = 9 ∨ k = 10 then 0
  else if k = 1 ∨ k = 4 then 99 else if k = 2 ∨ k = 8 then (n : Int) - 1 else if k = 11 then 9 else if k = 12 then 3 else -1
def mostB (k : Int) : Int :=
  if k = 0 ∨ k = 3 ∨ k = 5 ∨ k = 6 ∨ k = 7 ∨ k = 9 ∨ k = 10 then 0
  else if k = 1 ∨ k = 4 then 0 else if k = 2 then 99 else if k = 8 then 0 else if k = 11 then 1 else if k = 12 then 0 else -1
theorem num_same (xs : List Cls) (k a b : Int) : numS xs k a b = (rng 0 (mostA xs.length k) a && rng 0 (mostB k) b) := by
  rw [Bool.eq_iff_iff, Bool.and_eq_true, rng_iff, rng_iff]
  unfold numS mostA mostB
  by_cases h14 : k = 1 ∨ k = 4
  · rw [if_pos h14, if_neg (by omega), if_pos h14, if_neg (by omega), if_pos h14, Bool.and_eq_true, rng_iff, beq_iff_eq]; omega
  rw [if_neg h14]
  by_cases h2 : k = 2
  · rw [if_pos h2, if_neg (by omega), if_neg (by omega), if_pos (by omega), if_neg (by omega), if_neg (by omega), if_pos h2, Bool.and_eq_true, rng_iff, hasK_iff]; omega
  rw [if_neg h2]
  by_cases h8 : k = 8
  · rw [if_pos h8, if_neg (by omega), if_neg (by omega), if_pos (by omega), if_neg (by omega), if_neg (by omega), if_neg (by omega), if_pos h8, Bool.and_eq_true, hasK_iff, beq_iff_eq]; omega
  rw [if_neg h8]
  by_cases h11 : k = 11
  · rw [if_pos h11, if_neg (by omega), if_neg (by omega), if_neg (by omega), if_pos h11, if_neg (by omega), if_neg (by omega), if_neg (by omega), if_neg (by omega), if_pos h11, Bool.and_eq_true, rng_iff, rng_iff]
  rw [if_neg h11]
  by_cases h12 : k = 12
  · rw [if_pos h12, if_neg (by omega), if_neg (by omega), if_neg (by omega), if_neg (by omega), if_pos h12, if_neg (by omega), if_neg (by omega), if_neg (by omega), if_neg (by omega), if_neg (by omega), if_pos h12, Bool.and_eq_true, rng_iff, beq_iff_eq]; omega
  rw [if_neg h12, Bool.and_eq_true, Bool.and_eq_true, rng_iff, beq_iff_eq, beq_iff_eq]
  by_cases h0 : k = 0 ∨ k = 3 ∨ k = 5 ∨ k = 6 ∨ k = 7 ∨ k = 9 ∨ k = 10
  · rw [if_pos h0, if_pos h0]; omega
  · rw [if_neg h0, if_neg h0, if_neg (by omega), if_neg (by omega), if_neg (by omega), if_neg (by omega), if_neg (by omega), if_neg (by omega), if_neg (by omega), if_neg (by omega), if_neg (by omega)]; omega
/-! blocks and depths -/
def opn (k : Int) : Bool := rng 7 12 k
theorem opn_iff {k : Int} : opn k = true ↔ 7 ≤ k ∧ k ≤ 12 := rng_iff
/-- what the model asks of the depth of a line -/
def depS (p : List Lin) (i : Nat) : Prop := (0 ≤ dep p i ∧ dep p i ≤ 5) ∧ (i = 0 → dep p i = 0) ∧ (∀ j, i = j + 1 → dep p i ≤ dep p j + 1 ∧ (opn (knd p j) = true ↔ dep p i = dep p j + 1))
/-- what the program asks of it -/
def depI (p : List Lin) (i : Nat) : Prop := (i = 0 → dep p i = 0) ∧ (∀ j, i = j + 1 → (opn (knd p j) = true → dep p j < 5 ∧ dep p i = dep p j + 1) ∧ (opn (knd p j) = false → 0 ≤ dep p i ∧ dep p i ≤ dep p j))
theorem dep_same (p : List Lin) (n : Nat) : (∀ i, i < n → depS p i) ↔ (∀ i, i < n → depI p i) := by
  constructor
  · intro H i hi
    have a := H i hi
    refine ⟨a.2.1, fun j hj => ?_⟩
    have b := H j (by omega)
    have c := a.2.2 j hj
    refine ⟨fun ho => ?_, fun ho => ?_⟩
    · have := c.2.1 ho; have := a.1; omega
    · have h1 : ¬ dep p i = dep p j + 1 := fun e => by have := c.2.2 e; rw [ho] at this; cases this
      have := a.1; omega
  · intro H
    have key : ∀ m i, i < m → i < n → depS p i := by
      intro m
      induction m with
      | zero => intro i h; omega
      | succ m ih =>
        intro i him hi
        have a := H i hi
        cases i with
        | zero => have := a.1 rfl; exact ⟨by omega, fun _ => this, fun j hj => by omega⟩
        | succ j =>
          have b := ih j (by omega) (by omega)
          have c := a.2 j rfl
          have hb := b.1
          cases ho : opn (knd p j)
          · have d := c.2 ho
            refine ⟨by omega, fun h => by omega, fun j' hj' => ?_⟩
            obtain rfl : j' = j := by omega
            exact ⟨by omega, ⟨fun h => (by rw [ho] at h; cases h), fun h => by omega⟩⟩
          · have d := c.1 ho
            refine ⟨by omega, fun h => by omega, fun j' hj' => ?_⟩
            obtain rfl : j' = j := by omega
            exact ⟨by omega, ⟨fun _ => d.2, fun _ => ho⟩⟩
    exact fun i hi => key (i + 1) i (by omega) hi
/-! loops -/
/-- the model looks for a loop around: from k on down, below a depth -/
def inGo (p : List Lin) : Int → Nat → Bool
  | _, 0 => false
  | d, k + 1 => if dep p k < d then (if knd p k = 12 then true else inGo p (dep p k) k) else inGo p d k
def inL (p : List Lin) (i : Nat) : Bool := inGo p (dep p i) i
/-- the line in whose block a line is -/
def oGo (p : List Lin) (d : Int) : Nat → Option Nat
  | 0 => none
  | k + 1 => if dep p k < d then some k else oGo p d k
def outs (p : List Lin) (i : Nat) : Option Nat := oGo p (dep p i) i
theorem oGo_lt {p : List Lin} {d : Int} : ∀ {k j : Nat}, oGo p d k = some j → j < k
  | 0, _, h => by cases h
  | k + 1, j, h => by
    unfold oGo at h; split at h
    · injection h with h; omega
    · have := oGo_lt h; omega
/-- the program goes from line to line outside -/
def upGo (p : List Lin) : Nat → Option Nat → Bool
  | _, none => false
  | 0, some _ => false
  | m + 1, some j => if knd p j = 12 then true else upGo p m (outs p j)
theorem in_out (p : List Lin) (d : Int) : ∀ k, inGo p d k = match oGo p d k with | none => false | some j => if knd p j = 12 then true else inL p j
  | 0 => rfl
  | k + 1 => by
    unfold inGo oGo
    split
    · rfl
    · exact in_out p d k
theorem up_in (p : List Lin) : ∀ (m : Nat) (o : Option Nat), (∀ j, o = some j → j < m) → upGo p m o = match o with | none => false | some j => if knd p j = 12 then true else inL p j
  | 0, none, _ => rfl
  | 0, some j, h => by have := h j rfl; omega
  | m + 1, none, _ => rfl
  | m + 1, some j, h => by
    show (if knd p j = 12 then true else upGo p m (outs p j)) = if knd p j = 12 then true else inL p j
    by_cases e : knd p j = 12
    · rw [if_pos e, if_pos e]
    · rw [if_neg e, if_neg e, up_in p m (outs p j) (fun x hx => by have := oGo_lt hx; have := h j rfl; omega)]
      unfold inL
      rw [in_out]
      rfl
theorem inL_up (p : List Lin) (i : Nat) : inL p i = upGo p i (outs p i) := by
  rw [up_in p i (outs p i) (fun j hj => oGo_lt hj)]
  unfold inL
  rw [in_out]; rfl
/-! heads -/
/-- the line that a line goes on with -/
def hGo (p : List Lin) (d : Int) : Nat → Int
  | 0 => -1
  | k + 1 => if dep p k < d then -1 else if dep p k = d then (k : Int) else hGo p d k
def headOf (p : List Lin) (i : Nat) : Int := hGo p (dep p i) i
theorem hGo_is (p : List Lin) (d : Int) : ∀ k, (hGo p d k = -1 ∧ ¬ ∃ j, j < k ∧ dep p j = d ∧ ∀ m, j < m → m < k → d < dep p m) ∨ ∃ j : Nat, hGo p d k = (j : Int) ∧ j < k ∧ dep p j = d ∧ ∀ m, j < m → m < k → d < dep p m
  | 0 => .inl ⟨rfl, fun ⟨j, h, _⟩ => by omega⟩
  | k + 1 => by
    unfold hGo
    by_cases h1 : dep p k < d
    · rw [if_pos h1]
      refine .inl ⟨rfl, ?_⟩
      rintro ⟨j, hj, e, hb⟩
      by_cases ek : j = k
      · rw [ek] at e; omega
      · have := hb k (by omega) (by omega); omega
    · rw [if_neg h1]
      by_cases h2 : dep p k = d
      · rw [if_pos h2]
        exact .inr ⟨k, rfl, by omega, h2, fun m h3 h4 => by omega⟩
      · rw [if_neg h2]
        rcases hGo_is p d k with ⟨h, hn⟩ | ⟨j, h, hj, e, hb⟩
        · refine .inl ⟨h, ?_⟩
          rintro ⟨j, hj, e, hb⟩
          by_cases ek : j = k
          · rw [ek] at e; exact h2 e
          · exact hn ⟨j, by omega, e, fun m h3 h4 => hb m h3 (by omega)⟩
        · exact .inr ⟨j, h, by omega, e, fun m h3 h4 => by
            by_cases em : m = k
            · rw [em]; omega
            · exact hb m h3 (by omega)⟩
/-- what the model asks of a line that goes on with a try -/
def headOk (p : List Lin) (i : Nat) : Bool := decide (0 ≤ headOf p i) && (knd p (headOf p i).toNat == 7 || fol (knd p (headOf p i).toNat))
theorem headOk_iff {p : List Lin} {i : Nat} (hi : i < p.length) : headOk p i = true ↔ ∃ k, Sib p k i ∧ (knd p k = 7 ∨ fol (knd p k) = true) := by
  unfold headOk
  rcases hGo_is p (dep p i) i with ⟨h, hn⟩ | ⟨j, h, hj, e, hb⟩
  · have h' : headOf p i = -1 := h
    rw [h']
    constructor
    · intro h2; simp at h2
    · rintro ⟨k, sb, _⟩
      exact absurd ⟨k, sb.1, sb.2.2.1, sb.2.2.2⟩ hn
  · have h' : headOf p i = (j : Int) := h
    rw [h', Int.toNat_natCast, Bool.and_eq_true, Bool.or_eq_true, beq_iff_eq, decide_eq_true_eq]
    have sj : Sib p j i := ⟨hj, hi, e, hb⟩
    constructor
    · rintro ⟨_, h2⟩
      exact ⟨j, sj, h2⟩
    · rintro ⟨k, sb, h2⟩
      obtain rfl := sb.uniq sj
      exact ⟨by omega, h2⟩
/-! whole programs -/
/-- what the model asks of a line -/
def lineS (xs : List Cls) (p : List Lin) (i : Nat) (x : Lin) : Prop :=
  numS xs x.kind x.a x.b = true ∧ depS p i ∧ (i + 1 = p.length → opn x.kind = false) ∧ (x.kind = 7 → vChain p i = true) ∧ (x.kind = 5 ∨ x.kind = 6 → inL p i = true) ∧ (fol x.kind = true → headOk p i = true)
/-- what the program asks of it -/
def lineI (xs : List Cls) (p : List Lin) (i : Nat) (x : Lin) : Prop :=
  rng 0 (mostA xs.length x.kind) x.a = true ∧ rng 0 (mostB x.kind) x.b = true ∧ depI p i ∧ (x.kind = 5 ∨ x.kind = 6 → upGo p i (outs p i) = true)
theorem lines_same (xs : List Cls) (p : List Lin) : (∀ i (h : i < p.length), lineS xs p i p[i]) ↔ ((∀ i (h : i < p.length), lineI xs p i p[i]) ∧ (∀ h : 0 < p.length, opn (p[p.length - 1]'(by omega)).kind = false) ∧ triesI p) := by
  constructor
  · intro H
    refine ⟨fun i hi => ?_, fun h => (H _ (by omega)).2.2.1 (by omega), (tries_same p).1 fun i hi => ?_⟩
    · have a := H i hi
      have b := a.1
      rw [num_same, Bool.and_eq_true] at b
      exact ⟨b.1, b.2, (dep_same p p.length).1 (fun k hk => (H k hk).2.1) i hi, fun h => by rw [← inL_up]; exact a.2.2.2.2.1 h⟩
    · have a := H i hi
      rw [knd_at hi]
      exact ⟨a.2.2.2.1, fun h => (headOk_iff hi).1 (a.2.2.2.2.2 h)⟩
  · rintro ⟨H, hl, ht⟩ i hi
    have a := H i hi
    have t := (tries_same p).2 ht i hi
    rw [knd_at hi] at t
    refine ⟨?_, (dep_same p p.length).2 (fun k hk => (H k hk).2.2.1) i hi, fun e => ?_, t.1, fun h => by rw [inL_up]; exact a.2.2.2 h, fun h => (headOk_iff hi).2 (t.2 h)⟩
    · rw [num_same, Bool.and_eq_true]; exact ⟨a.1, a.2.1⟩
    · have := hl (by omega)
      have e2 : p.length - 1 = i := by omega
      simpa [e2] using this
end

section
def enGo (p : List Lin) : Int → Nat → List Nat
  | _, 0 => []
  | d, k + 1 => if dep p k < d then k :: enGo p (dep p k) k else enGo p d k
/-- the lines in whose blocks a line is, the innermost one first -/
def encl (p : List Lin) (i : Nat) : List Nat := enGo p (dep p i) i
def enO (p : List Lin) : Option Nat → List Nat
  | none => []
  | some j => j :: encl p j
theorem enGo_succ (p : List Lin) (d : Int) (k : Nat) : enGo p d (k + 1) = if dep p k < d then k :: enGo p (dep p k) k else enGo p d k := rfl
theorem en_out (p : List Lin) (d : Int) : ∀ k, enGo p d k = enO p (oGo p d k)
  | 0 => rfl
  | k + 1 => by
    unfold enGo oGo
    split
    · rfl
    · exact en_out p d k
theorem encl_out (p : List Lin) (i : Nat) : encl p i = enO p (outs p i) := en_out p _ i
theorem enGo_lt (p : List Lin) : ∀ k d, ∀ x ∈ enGo p d k, x < k
  | 0, _, x, h => by simp [enGo] at h
  | k + 1, d, x, h => by
    unfold enGo at h
    split at h
    · rcases List.mem_cons.1 h with rfl | h
      · omega
      · have := enGo_lt p k _ x h; omega
    · have := enGo_lt p k _ x h; omega
theorem encl_lt {p : List Lin} {i : Nat} : ∀ x ∈ encl p i, x < i := enGo_lt p i _
theorem enGo_len (p : List Lin) : ∀ k d, (enGo p d k).length ≤ k
  | 0, _ => Nat.le_refl _
  | k + 1, d => by
    unfold enGo
    split
    · have := enGo_len p k (dep p k); simp; omega
    · have := enGo_len p k d; omega
theorem encl_len (p : List Lin) (i : Nat) : (encl p i).length ≤ i := enGo_len p i _

/-! the try of a line -/
theorem head_sib {p : List Lin} {y x : Nat} (h : Sib p y x) : headOf p x = (y : Int) := by
  rcases hGo_is p (dep p x) x with ⟨h1, hn⟩ | ⟨j, h1, hj, e, hb⟩
  · exact absurd ⟨y, h.1, h.2.2.1, h.2.2.2⟩ hn
  · have sj : Sib p j x := ⟨hj, h.2.1, e, hb⟩
    have := h.uniq sj
    rw [this]; exact h1
theorem pt_back (p : List Lin) : ∀ (m k x : Nat), x ∈ ptGo p (dep p k) m k → ∃ y, Sib p y x ∧ mayF (knd p y) (knd p x) = true ∧ (y = k ∨ y ∈ ptGo p (dep p k) m k)
  | 0, _, _, h => by cases h
  | m + 1, k, x, h => by
    unfold ptGo at h ⊢
    split at h
    · next c =>
      rw [if_pos c]
      have sb := sib_of c.1 c.2.1
      rcases List.mem_cons.1 h with rfl | h
      · exact ⟨k, sb, c.2.2, .inl rfl⟩
      · rw [sb.2.2.1] at h ⊢
        obtain ⟨y, h1, h2, h3⟩ := pt_back p m _ x h
        exact ⟨y, h1, h2, .inr (by rcases h3 with rfl | h3; exact List.mem_cons_self ..; exact List.mem_cons_of_mem _ h3)⟩
    · cases h
/-- j is the try of i -/
def IsTry (p : List Lin) (j i : Nat) : Prop := knd p j = 7 ∧ i ∈ parts p j
theorem mayF_fol {a k : Int} (h : mayF a k = true) : fol k = true := fol_iff.2 (by have := mayF_iff.1 h; omega)
theorem try_step {p : List Lin} {j x : Nat} (h : IsTry p j x) : (knd p x = 7 ∧ x = j) ∨ (fol (knd p x) = true ∧ ∃ y : Nat, headOf p x = (y : Int) ∧ y < x ∧ x < p.length ∧ IsTry p j y) := by
  rcases List.mem_cons.1 h.2 with rfl | h2
  · exact .inl ⟨h.1, rfl⟩
  · obtain ⟨y, h3, h4, h5⟩ := pt_back p _ _ _ h2
    refine .inr ⟨mayF_fol h4, y, head_sib h3, h3.1, h3.2.1, h.1, ?_⟩
    rcases h5 with rfl | h5
    · exact List.mem_cons_self ..
    · exact List.mem_cons_of_mem _ h5
theorem try_le {p : List Lin} {j : Nat} : ∀ m x, x ≤ m → IsTry p j x → j ≤ x
  | m, x, hm, h => by
    rcases try_step h with ⟨_, rfl⟩ | ⟨_, y, _, hy, _, ht⟩
    · exact Nat.le_refl _
    · cases m with
      | zero => omega
      | succ m => have := try_le m y (by omega) ht; omega
theorem try_uniq {p : List Lin} {j k : Nat} : ∀ m x, x ≤ m → IsTry p j x → IsTry p k x → j = k
  | m, x, hm, h, h2 => by
    rcases try_step h with ⟨h7, rfl⟩ | ⟨hf, y, hy, hyx, _, ht⟩
    · rcases try_step h2 with ⟨_, rfl⟩ | ⟨hf, _⟩
      · rfl
      · have := fol_iff.1 hf; omega
    · rcases try_step h2 with ⟨h7, rfl⟩ | ⟨_, z, hz, _, _, ht2⟩
      · have := fol_iff.1 hf; omega
      · have e : y = z := by omega
        subst e
        cases m with
        | zero => omega
        | succ m => exact try_uniq m y (by omega) ht ht2
/-- the program looks for the try of a line from that on down -/
def tyGo (p : List Lin) (i : Nat) : Nat → Option Nat
  | 0 => none
  | j + 1 => if knd p j = 7 ∧ i ∈ parts p j then some j else tyGo p i j
def tryAt (p : List Lin) (i : Nat) : Option Nat := tyGo p i (i + 1)
theorem tyGo_is {p : List Lin} {i : Nat} : ∀ {k j : Nat}, tyGo p i k = some j → IsTry p j i ∧ j < k
  | 0, _, h => by cases h
  | k + 1, j, h => by
    unfold tyGo at h
    split at h
    · next c => injection h with h; subst h; exact ⟨c, by omega⟩
    · have := tyGo_is h; exact ⟨this.1, by omega⟩
theorem tyGo_none {p : List Lin} {i : Nat} : ∀ {k : Nat}, tyGo p i k = none → ∀ j, j < k → ¬ IsTry p j i
  | 0, _, j, h => by omega
  | k + 1, h, j, hj => by
    unfold tyGo at h
    split at h
    · cases h
    · next c =>
      by_cases e : j = k
      · rw [e]; exact c
      · exact tyGo_none h j (by omega)
theorem tryAt_is {p : List Lin} {i j : Nat} (h : tryAt p i = some j) : IsTry p j i := (tyGo_is h).1
theorem tryAt_of {p : List Lin} {i j : Nat} (h : IsTry p j i) : tryAt p i = some j := by
  cases e : tryAt p i with
  | none => exact absurd h (tyGo_none e j (by have := try_le i i (Nat.le_refl _) h; omega))
  | some k => rw [try_uniq i i (Nat.le_refl _) (tryAt_is e) h]
theorem tryAt_kind {p : List Lin} {i j : Nat} (h : tryAt p i = some j) : knd p i = 7 ∨ fol (knd p i) = true := by
  rcases try_step (tryAt_is h) with h | h
  · exact .inl h.1
  · exact .inr h.1
theorem tryAt_has {p : List Lin} (H : triesI p) {i : Nat} (hi : i < p.length) (hk : knd p i = 7 ∨ fol (knd p i) = true) : ∃ j, tryAt p i = some j := by
  rcases hk with h | h
  · exact ⟨i, tryAt_of ⟨h, List.mem_cons_self ..⟩⟩
  · obtain ⟨j, _, h7, hm⟩ := (H i hi).2 h
    exact ⟨j, tryAt_of ⟨h7, hm⟩⟩
theorem chain_parts {p : List Lin} (H : triesI p) {i : Nat} (hi : i < p.length) : chain p i = parts p i := by
  unfold chain parts; rw [full_of p H p.length i hi]
end
end

section
theorem bGo_step (p : List Lin) (d : Int) {k : Nat} (h : k < p.length) : bGo p d (p.length - k) k = if d < dep p k then bGo p d (p.length - (k + 1)) (k + 1) else k := by
  obtain ⟨m, hm⟩ : ∃ m, p.length - k = m + 1 := ⟨p.length - k - 1, by omega⟩
  rw [hm, show p.length - (k + 1) = m by omega]
  rfl
theorem bGo_end (p : List Lin) (d : Int) {k : Nat} (h : ¬ k < p.length) : bGo p d (p.length - k) k = k := by
  rw [show p.length - k = 0 by omega]; rfl
set_option maxHeartbeats 1000000 in
theorem sBlockEnd_any (A : Option Addr) (n cap : Nat) (p : List Lin) (i : Nat) (hi : i < p.length) (w : World) (hR : Sl w A n cap p) :
    Calls Try.prog 113 #[.slice A n cap, .int .i64 i] w fun e w' => e = .returned (.int .i64 (bEnd p i)) ∧ Le w w' := by
  obtain rfl := hR.len
  have hm := hR.n_le
  have H0 : Hid (bEnd p i = bGo p (dep p i) (p.length - (i + 1)) (i + 1)) := rfl
  obtain ⟨bi, oi, rfl, hbi, hi0, -⟩ := hR.lin_at hi
  have hwi : IntKind.i64.wrap ((i : Int) + 1) = (i : Int) + 1 := IntWalk.i64_in _ (by omega)
  have hix : (0 : Int) ≤ (i : Int) := by omega
  have hin : (i : Int) < (p.length : Int) := by omega
  go_enter Try.func113, Try.ntmps113
  go_wp2
  go_loopw [5] (fun kk wr => ∃ k : Nat, i < k ∧ k ≤ p.length ∧ kk = .int .i64 k ∧ bEnd p i = bGo p (dep p i) (p.length - k) k ∧ Le w wr) (fun kk _ => p.length - (intOf kk).toNat)
  case atStart => exact ⟨i + 1, by omega, by omega, by go_num, H0.out, Le.refl _⟩
  case round =>
    obtain ⟨k, hik, hk, rfl, he, hle⟩ := hrel
    have HE := Lib.hid he
    clear he H0
    have T := hR.le hle
    clear hR hi0
    obtain ⟨b3, off3, e3, hb3, c0, -⟩ := T.lin_at hi
    cases e3
    have F0 := cell_ext hb3 c0
    have hkx : (0 : Int) ≤ (k : Int) := by omega
    by_cases hlt : k < p.length
    · obtain ⟨b2, off2, e2, hb2, d0, -⟩ := T.lin_at hlt
      cases e2
      have E0 := cell_ext hb2 d0
      by_cases hd : p[i].depth < p[k].depth
      · have HE2 : Hid (bEnd p i = bGo p (dep p i) (p.length - (k + 1)) (k + 1)) := by
          show _ = _
          rw [HE.out, bGo_step p _ hlt, dep_at hi, dep_at hlt, if_pos hd]
        clear HE
        go_wp2_with fail
        refine wp_region_ext (by kernel_rfl) (by kernel_rfl) ?_
        repeat (go_big_quiet_step (fail))
        refine wpQuiet_nil ?_
        intro _ hw'
        obtain ⟨gg, rfl⟩ := hw'
        have hw1 := Le.ext wr gg
        generalize wr.ext gg = W2 at *
        go_wp2
        go_roundw
        case rel => exact ⟨k + 1, by omega, by omega, by go_num, HE2.out, hle.trans hw1⟩
        case measure => simp [intOf]; omega
      · have HE2 : Hid (bEnd p i = k) := by
          show _ = _
          rw [HE.out, bGo_step p _ hlt, dep_at hi, dep_at hlt, if_neg hd]
        clear HE
        go_wp2_with fail
        refine wp_region_ext (by kernel_rfl) (by kernel_rfl) ?_
        repeat (go_big_quiet_step (fail))
        refine wpQuiet_nil ?_
        intro _ hw'
        obtain ⟨gg, rfl⟩ := hw'
        have hw1 := Le.ext wr gg
        generalize wr.ext gg = W2 at *
        go_wp2
        go_ret
        exact ⟨congrArg (fun z : Nat => Ending.returned (.int .i64 (z : Int))) HE2.out.symm, hle.trans hw1⟩
    · have HE2 : Hid (bEnd p i = k) := by
        show _ = _
        rw [HE.out, bGo_end p _ hlt]
      clear HE
      go_wp2_with fail
      refine wp_region_ext (by kernel_rfl) (by kernel_rfl) ?_
      repeat (go_big_quiet_step (fail))
      refine wpQuiet_nil ?_
      intro _ hw'
      obtain ⟨gg, rfl⟩ := hw'
      have hw1 := Le.ext wr gg
      generalize wr.ext gg = W2 at *
      go_wp2
      go_ret
      exact ⟨congrArg (fun z : Nat => Ending.returned (.int .i64 (z : Int))) HE2.out.symm, hle.trans hw1⟩
set_option maxHeartbeats 1000000 in
theorem iBlockEnd_any (A : Option Addr) (n cap : Nat) (p : List Lin) (i : Nat) (hi : i < p.length) (w : World) (hR : Sl w A n cap p) :
    Calls Try.prog 58 #[.slice A n cap, .int .i64 i] w fun e w' => e = .returned (.int .i64 (bEnd p i)) ∧ Le w w' := by
  obtain rfl := hR.len
  have hm := hR.n_le
  have H0 : Hid (bEnd p i = bGo p (dep p i) (p.length - (i + 1)) (i + 1)) := rfl
  obtain ⟨bi, oi, rfl, hbi, hi0, -⟩ := hR.lin_at hi
  have hwi : IntKind.i64.wrap ((i : Int) + 1) = (i : Int) + 1 := IntWalk.i64_in _ (by omega)
  have hix : (0 : Int) ≤ (i : Int) := by omega
  have hin : (i : Int) < (p.length : Int) := by omega
  go_enter Try.func58, Try.ntmps58
  go_wp2
  go_loopw [5] (fun kk wr => ∃ k : Nat, i < k ∧ k ≤ p.length ∧ kk = .int .i64 k ∧ bEnd p i = bGo p (dep p i) (p.length - k) k ∧ Le w wr) (fun kk _ => p.length - (intOf kk).toNat)
  case atStart => exact ⟨i + 1, by omega, by omega, by go_num, H0.out, Le.refl _⟩
  case round =>
    obtain ⟨k, hik, hk, rfl, he, hle⟩ := hrel
    have HE := Lib.hid he
    clear he H0
    have T := hR.le hle
    clear hR hi0
    obtain ⟨b3, off3, e3, hb3, c0, -⟩ := T.lin_at hi
    cases e3
    have F0 := cell_ext hb3 c0
    have hkx : (0 : Int) ≤ (k : Int) := by omega
    by_cases hlt : k < p.length
    · obtain ⟨b2, off2, e2, hb2, d0, -⟩ := T.lin_at hlt
      cases e2
      have E0 := cell_ext hb2 d0
      by_cases hd : p[i].depth < p[k].depth
      · have HE2 : Hid (bEnd p i = bGo p (dep p i) (p.length - (k + 1)) (k + 1)) := by
          show _ = _
          rw [HE.out, bGo_step p _ hlt, dep_at hi, dep_at hlt, if_pos hd]
        clear HE
        go_wp2_with fail
        refine wp_region_ext (by kernel_rfl) (by kernel_rfl) ?_
        repeat (go_big_quiet_step (fail))
        refine wpQuiet_nil ?_
        intro _ hw'
        obtain ⟨gg, rfl⟩ := hw'
        have hw1 := Le.ext wr gg
        generalize wr.ext gg = W2 at *
        go_wp2
        go_roundw
        case rel => exact ⟨k + 1, by omega, by omega, by go_num, HE2.out, hle.trans hw1⟩
        case measure => simp [intOf]; omega
      · have HE2 : Hid (bEnd p i = k) := by
          show _ = _
          rw [HE.out, bGo_step p _ hlt, dep_at hi, dep_at hlt, if_neg hd]
        clear HE
        go_wp2_with fail
        refine wp_region_ext (by kernel_rfl) (by kernel_rfl) ?_
        repeat (go_big_quiet_step (fail))
        refine wpQuiet_nil ?_
        intro _ hw'
        obtain ⟨gg, rfl⟩ := hw'
        have hw1 := Le.ext wr gg
        generalize wr.ext gg = W2 at *
        go_wp2
        go_ret
        exact ⟨congrArg (fun z : Nat => Ending.returned (.int .i64 (z : Int))) HE2.out.symm, hle.trans hw1⟩
    · have HE2 : Hid (bEnd p i = k) := by
        show _ = _
        rw [HE.out, bGo_end p _ hlt]
      clear HE
      go_wp2_with fail
      refine wp_region_ext (by kernel_rfl) (by kernel_rfl) ?_
      repeat (go_big_quiet_step (fail))
      refine wpQuiet_nil ?_
      intro _ hw'
      obtain ⟨gg, rfl⟩ := hw'
      have hw1 := Le.ext wr gg
      generalize wr.ext gg = W2 at *
      go_wp2
      go_ret
      exact ⟨congrArg (fun z : Nat => Ending.returned (.int .i64 (z : Int))) HE2.out.symm, hle.trans hw1⟩
end
end Go.Proofs.Ytlepgfccnfcagaa
