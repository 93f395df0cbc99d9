/- SetCause and HideContext of the model and of the program -/
import Derived.Test.YthcolcmgfhkbeaaHpJ
import Derived.Test.YthcolcmgfhkbeaaHpF
namespace Go.Proofs.Ythcolcmgfhkbeaa
open Go.RowKit

/-- the heap with the fault f turned -/
def setF (hs : List Flt) (f : Int) (g : Flt → Flt) : List Flt := match hs[f.toNat]? with | some x => hs.set f.toNat (g x) | none => hs
theorem setF_at {hs : List Flt} {i : Nat} (h : i < hs.length) (g : Flt → Flt) : setF hs (i : Int) g = hs.set i (g hs[i]) := by
  unfold setF; rw [Int.toNat_natCast, List.getElem?_eq_getElem h]
theorem setF_len (hs : List Flt) (f : Int) (g : Flt → Flt) : (setF hs f g).length = hs.length := by
  unfold setF; split <;> simp
theorem setF_ok {hs : List Flt} {f : Int} {g : Flt → Flt} (h : ∀ x ∈ hs, Enc.ok x) (hg : ∀ x, Enc.ok x → Enc.ok (g x)) : ∀ x ∈ setF hs f g, Enc.ok x := by
  unfold setF
  split
  · next y hy =>
    intro x hx
    rcases List.mem_or_eq_of_mem_set hx with hx | rfl
    · exact h x hx
    · exact hg y (h y (List.mem_of_getElem? hy))
  · exact h
def cauF (c : Int) (x : Flt) : Flt := ⟨x.cls, x.code, c, x.ctx, true⟩
def hidF (b : Bool) (x : Flt) : Flt := ⟨x.cls, x.code, x.cause, x.ctx, b⟩
theorem cauF_ok {c : Int} (hc : -9223372036854775808 ≤ c ∧ c ≤ 9223372036854775807) (x : Flt) (h : Enc.ok x) : Enc.ok (cauF c x) := ⟨h.1, h.2.1, h.2.2.1, h.2.2.2.1, hc.1, hc.2, h.2.2.2.2.2.2.1, h.2.2.2.2.2.2.2⟩
theorem hidF_ok {b : Bool} (x : Flt) (h : Enc.ok x) : Enc.ok (hidF b x) := h
theorem flat_cau (hs : List Flt) (i : Nat) (h : i < hs.length) (c : Int) : ((hs.flatMap Enc.cells).set (i * 5 + 2) (.int .i64 c)).set (i * 5 + 4) (.bool true) = (setF hs (i : Int) (cauF c)).flatMap Enc.cells := by
  rw [setF_at h, flat_flt_cause hs i h c, flat_flt_hide (hs.set i _) i (by simpa using h) true]
  simp [cauF]
theorem flat_hid (hs : List Flt) (i : Nat) (h : i < hs.length) (b : Bool) : (hs.flatMap Enc.cells).set (i * 5 + 4) (.bool b) = (setF hs (i : Int) (hidF b)).flatMap Enc.cells := by
  rw [setF_at h, flat_flt_hide hs i h b]; rfl
def scOk (xs : List Cls) (hs : List Flt) (f c : Int) : Bool := goodF xs hs f && vl hs.length f c
def scX (xs : List Cls) (hs : List Flt) (f c : Int) : List Flt := cond (scOk xs hs f c) (setF hs f (cauF c)) []
theorem scX_of {xs : List Cls} {hs : List Flt} {f c : Int} {t : Bool} (h : scOk xs hs f c = t) : scX xs hs f c = cond t (setF hs f (cauF c)) [] := by unfold scX; rw [h]
def hcX (xs : List Cls) (hs : List Flt) (f : Int) (b : Bool) : List Flt := cond (goodF xs hs f) (setF hs f (hidF b)) []
theorem hcX_of {xs : List Cls} {hs : List Flt} {f : Int} {b t : Bool} (h : goodF xs hs f = t) : hcX xs hs f b = cond t (setF hs f (hidF b)) [] := by unfold hcX; rw [h]
theorem goodF_few {xs : List Cls} {hs : List Flt} {f : Int} (h : goodF xs hs f = true) : hs.length ≤ 24 := by
  unfold goodF at h; rw [Bool.and_eq_true] at h; exact (goodH_of h.1).few
theorem scX_len (xs : List Cls) (hs : List Flt) (f c : Int) : (scX xs hs f c).length ≤ 1048576 := by
  cases h : scOk xs hs f c
  · rw [scX_of h]; simp
  · rw [scX_of h]
    unfold scOk at h; rw [Bool.and_eq_true] at h
    have := goodF_few h.1
    show (setF hs f (cauF c)).length ≤ _
    rw [setF_len]; omega
theorem hcX_len (xs : List Cls) (hs : List Flt) (f : Int) (b : Bool) : (hcX xs hs f b).length ≤ 1048576 := by
  cases h : goodF xs hs f
  · rw [hcX_of h]; simp
  · rw [hcX_of h]
    have := goodF_few h
    show (setF hs f (hidF b)).length ≤ _
    rw [setF_len]; omega
theorem goodF_at {xs : List Cls} {hs : List Flt} {f : Int} (h : goodF xs hs f = true) : ∃ i : Nat, f = i ∧ i < hs.length := by
  have hf : hasF hs f = true := by unfold goodF at h; simp at h; exact h.2
  have hf2 := hasF_iff.1 hf
  obtain ⟨i, rfl⟩ := Int.eq_ofNat_of_zero_le hf2.1
  exact ⟨i, rfl, by omega⟩
/-- the copy is there: a row with faults is a block -/
theorem Owd.blk {T : TypeId} {w0 w : World} {v : Value} {xs : List Flt} (h : Owd T w0 w v xs) (hn : 0 < xs.length) : ∃ g q, v = .slice (some ⟨g, 0, none⟩) xs.length q ∧ w.ownsRow w0.heap.size T 5 (.slice (some ⟨g, 0, none⟩) xs.length q) xs.length (xs.flatMap Enc.cells) ∧ w0.heap.size ≤ g ∧ g < w.heap.size := by
  have hr := h.row
  rcases hr.2 with ⟨_, h0⟩ | ⟨g, q, cur, rfl, _⟩
  · omega
  · exact ⟨g, q, rfl, hr, hr.lt g rfl⟩

end Go.Proofs.Ythcolcmgfhkbeaa
