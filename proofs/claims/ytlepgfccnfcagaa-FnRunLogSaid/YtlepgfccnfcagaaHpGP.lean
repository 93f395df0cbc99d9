/- NewFault of the model -/
import Derived.Test.YtlepgfccnfcagaaHpEP
import Derived.Test.YtlepgfccnfcagaaWp9
namespace Go.Proofs.Ytlepgfccnfcagaa
open Go.RowKit

def mkF (a b : Int) : Flt := ⟨a, b, -1, -1, false⟩
theorem mkF_ok {a b : Int} (ha : -9223372036854775808 ≤ a ∧ a ≤ 9223372036854775807) (hb : -9223372036854775808 ≤ b ∧ b ≤ 9223372036854775807) : Enc.ok (mkF a b) := by
  unfold mkF
  exact ⟨ha.1, ha.2, hb.1, hb.2, by show (-9223372036854775808 : Int) ≤ -1; omega, by show (-1 : Int) ≤ 9223372036854775807; omega, by show (-9223372036854775808 : Int) ≤ -1; omega, by show (-1 : Int) ≤ 9223372036854775807; omega⟩
theorem snocF_ok {hs : List Flt} {a b : Int} (h : ∀ x ∈ hs, Enc.ok x) (ha : -9223372036854775808 ≤ a ∧ a ≤ 9223372036854775807) (hb : -9223372036854775808 ≤ b ∧ b ≤ 9223372036854775807) : ∀ x ∈ hs ++ [mkF a b], Enc.ok x := by
  intro x hx
  rcases List.mem_append.1 hx with hx | hx
  · exact h x hx
  · simp at hx; subst hx; exact mkF_ok ha hb
def nfOk (xs : List Cls) (hs : List Flt) (a b : Int) : Bool := okHeap xs hs && okHeap xs (hs ++ [mkF a b])
def nfX (xs : List Cls) (hs : List Flt) (a b : Int) : List Flt := cond (nfOk xs hs a b) (hs ++ [mkF a b]) []
def nfI (xs : List Cls) (hs : List Flt) (a b : Int) : Int := cond (nfOk xs hs a b) hs.length (-1)
theorem nf_of {xs : List Cls} {hs : List Flt} {a b : Int} {t : Bool} (h : nfOk xs hs a b = t) : nfX xs hs a b = cond t (hs ++ [mkF a b]) [] ∧ nfI xs hs a b = cond t (hs.length : Int) (-1) := by unfold nfX nfI; rw [h]; exact ⟨rfl, rfl⟩
theorem nfX_len (xs : List Cls) (hs : List Flt) (a b : Int) : (nfX xs hs a b).length ≤ 1048576 := by
  cases h : nfOk xs hs a b
  · rw [(nf_of h).1]; simp
  · rw [(nf_of h).1]
    have h2 := h
    unfold nfOk at h2
    rw [Bool.and_eq_true] at h2
    have := (goodH_of h2.2).few
    simp at this ⊢; omega
set_option maxHeartbeats 1000000 in
set_option maxRecDepth 100000 in
theorem added_any (H : Option Addr) (m c : Nat) (hs : List Flt) (a b : Int) (w : World) (hH : Sl w H m c hs) (hm : m ≤ 2097152) (ha : -9223372036854775808 ≤ a ∧ a ≤ 9223372036854775807) (hb : -9223372036854775808 ≤ b ∧ b ≤ 9223372036854775807) :
    Calls Try.prog 122 #[.agg #[.slice H m c], .int .i64 a, .int .i64 b] w fun e w' => ∃ v, e = .returned (.agg #[v]) ∧ Owd 74 w w' v (hs ++ [mkF a b]) ∧ Le w w' := by
  obtain ⟨i0, hi, hz0, hz1, hz2⟩ := info_parts infoCcFault
  have hlen := hH.len
  obtain ⟨c0, z0, c1, z1, L0⟩ := box2 w (.slice H m c) (.slice none 0 0) 32 32
  have f1 : ((w.alloc (.cells #[.slice H m c] 32)).alloc (.cells #[.slice none 0 0] 32)).frozen? ⟨w.heap.size + 1, 0, none⟩ = false := World.frozen?_alloc_at _ _ _ _ (by simp)
  have hs0 : ((w.alloc (.cells #[.slice H m c] 32)).alloc (.cells #[.slice none 0 0] 32)).heap.size = w.heap.size + 1 + 1 := by simp
  have S0 := hH.le L0
  have HOK := Lib.hid (snocF_ok hH.ok ha hb)
  have HK := Lib.hid (mkF_ok ha hb)
  have hl : (hs ++ [mkF a b]).length = m + 1 := by simp [hH.len]
  have HL := Lib.hid hl; clear hl
  go_enter Try.func122, Try.ntmps122
  go_wp2_with fail
  generalize (w.alloc (.cells #[.slice H m c] 32)).alloc (.cells #[.slice none 0 0] 32) = W at *
  refine (sCopyHeap_any H m c hs _ S0 hm).mono ?_
  rintro e w1 ⟨v, rfl, D, hle⟩
  replace c0 := (hle.cell z0).trans c0
  replace c1 := (hle.cell z1).trans c1
  replace f1 := (hle.frozen z1).trans f1
  replace z0 := Nat.lt_of_lt_of_le z0 hle.size
  replace z1 := Nat.lt_of_lt_of_le z1 hle.size
  replace L0 := L0.trans hle
  have s1 := hle.size
  clear hle
  obtain ⟨A1, q1, rfl⟩ := own_form D.row
  have O1 := D.row
  rw [hlen] at O1
  rw [hs0] at O1
  rw [hlen]
  clear D S0
  have hbk := O1.lt
  have c2 : ((w1.alloc (.cells #[.slice A1 m q1] 32)).alloc (.cells #[.int .i64 a, .int .i64 b, .int .i64 (-1), .int .i64 (-1), .bool false] 74)).cell? ⟨w1.heap.size, 0, none⟩ = some (.slice A1 m q1) := by
    rw [World.cell?_alloc_past _ _ _ (by simp), World.cell?_alloc_at _ _ _ _ rfl]; rfl
  have f2 : ((w1.alloc (.cells #[.slice A1 m q1] 32)).alloc (.cells #[.int .i64 a, .int .i64 b, .int .i64 (-1), .int .i64 (-1), .bool false] 74)).frozen? ⟨w1.heap.size, 0, none⟩ = false := by
    rw [((Le.new (w1.alloc (.cells #[.slice A1 m q1] 32)) _).frozen (b := w1.heap.size) (o := 0) (by simp))]; exact World.frozen?_alloc_at _ _ _ _ rfl
  have LL := (Le.new w1 (.cells #[.slice A1 m q1] 32)).alloc (.cells #[.int .i64 a, .int .i64 b, .int .i64 (-1), .int .i64 (-1), .bool false] 74)
  replace c0 := (LL.cell z0).trans c0
  replace c1 := (LL.cell z1).trans c1
  replace f1 := (LL.frozen z1).trans f1
  replace L0 := L0.trans LL
  have s2 := LL.size
  clear LL
  go_wp2_with (at_builtin; refine wpList_append_sl rfl (.tmp 11) (.tmp 15) 30 rfl (w.heap.size + 1 + 1) 74 i0 _ 40 Try.underlying30 hi hz0 hz1 hz2 rfl (.slice A1 m q1) m hs rfl ((O1.alloc _).alloc _) (some ⟨w1.heap.size + 1, 0, none⟩) 1 1 [mkF a b] rfl (sl_one (mkF a b) rfl HK.out (by simp)) (by unfold maxLen; omega) (by omega) (by simp; omega) ?_; intro v2 w2 O2 hg2 hat; replace c0 := (hg2.cell (a := ⟨w.heap.size, 0, none⟩) c0 (fun e => by have h : w.heap.size + 1 + 1 ≤ w.heap.size ∧ _ := hbk _ e.symm; omega)); replace c1 := (hg2.cell (a := ⟨w.heap.size + 1, 0, none⟩) c1 (fun e => by have h : w.heap.size + 1 + 1 ≤ w.heap.size + 1 ∧ _ := hbk _ e.symm; omega)); replace c2 := (hg2.cell (a := ⟨w1.heap.size, 0, none⟩) c2 (fun e => by have h : _ ∧ w1.heap.size < w1.heap.size := hbk _ e.symm; omega)); replace f2 := (World.frozen?_of_block (a := ⟨w1.heap.size, 0, none⟩) (hg2.block w1.heap.size (by simp; omega) (fun e => by have h : _ ∧ w1.heap.size < w1.heap.size := hbk _ e.symm; omega))).trans f2; replace f1 := (World.frozen?_of_block (a := ⟨w.heap.size + 1, 0, none⟩) (hg2.block (w.heap.size + 1) (by simp; omega) (fun e => by have h : w.heap.size + 1 + 1 ≤ w.heap.size + 1 ∧ _ := hbk _ e.symm; omega))).trans f1; replace s2 := Nat.le_trans s2 hg2.size; replace L0 := L0.grown hg2 (fun k hk => by have h := (hbk k hk).1; omega); clear hg2; obtain ⟨A2, q2, rfl⟩ := own_form O2)
  have hne : (Value.slice A2 (m + 1) q2).ownBlock ≠ some w1.heap.size := by
    intro e
    rcases hat with h | h
    · rw [h] at e
      have := (hbk _ e).2; omega
    · rw [h] at e; simp at e; omega
  have O3 := O2.kept (grown_set w2 w1.heap.size 0 (.slice A2 (m + 1) q2)) (.inr hne)
  have c3 : (w2.setCell ⟨w1.heap.size, 0, none⟩ (.slice A2 (m + 1) q2)).cell? ⟨w.heap.size + 1, 0, none⟩ = some (.slice none 0 0) := (cell_set_other (.inl (by omega))).trans c1
  have hend := fun u => cell_set_same (v := u) c3
  have HE := Lib.hid (res_end (r := w.heap.size + 1) (L0.setCell (b := w1.heap.size) (o := 0) (by omega) (.slice A2 (m + 1) q2)) (by omega) (Nat.lt_succ_self _) (by rw [HL.out]; exact O3) HOK.out)
  exact bodyPost_ret (v := .agg #[.slice A2 (m + 1) q2]) (by simp [results, Try.results122, go_sem, hend]) rfl ⟨_, rfl, (HE.out _).1, (HE.out _).2⟩
end Go.Proofs.Ytlepgfccnfcagaa
