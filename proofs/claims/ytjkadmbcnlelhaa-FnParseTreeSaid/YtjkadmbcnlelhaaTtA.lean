/- texts of trees of the model: splitAt, treeText, TreeText -/
import Derived.Test.YtjkadmbcnlelhaaTtP
import Derived.Test.YtjkadmbcnlelhaaKB
import Derived.Test.YtjkadmbcnlelhaaAP
import Derived.Test.YtjkadmbcnlelhaaTyStr
import Derived.Test.YtjkadmbcnlelhaaB
import Derived.Deep.RegionHeld3
namespace Go.Proofs.Ytjkadmbcnlelhaa
open Go.RowKit
instance instOneStrT : EncOne ByteArray := ⟨by decide, fun x u hu => by simp [Enc.cells] at hu; subst hu; rfl⟩
theorem infoStrT : (Try.prog.info? 9).map (fun i => (i.zero, i.size, i.bytes)) = some (some (.string ByteArray.empty), 1, 16) := by kernel_rfl
theorem bl_extract (s : ByteArray) (a i : Nat) : bl (s.extract a i) = ((bl s).drop a).take (i - a) := by
  unfold bl
  rw [ByteArray.data_extract, Array.toList_extract, List.extract_eq_take_drop]
theorem bl_at {s : ByteArray} {j : Nat} (h : j < s.size) : (bl s)[j]'(by rw [bl_len]; exact h) = s[j] := rfl
theorem seg_no {s : ByteArray} {c : UInt8} {a i : Nat} (h2 : i ≤ s.size) (hno : ∀ j (hj : j < s.size), a ≤ j → j < i → s[j] ≠ c) : c ∉ bl (s.extract a i) := by
  intro hm
  rw [bl_extract] at hm
  obtain ⟨j, hj, e⟩ := List.getElem_of_mem hm
  rw [List.length_take, List.length_drop, bl_len] at hj
  rw [List.getElem_take, List.getElem_drop] at e
  exact hno (a + j) (by omega) (by omega) (by omega) e
theorem seg_split {s : ByteArray} {c : UInt8} {a i : Nat} (h1 : a ≤ i) (h2 : i < s.size) (hno : ∀ j (hj : j < s.size), a ≤ j → j < i → s[j] ≠ c) (hc : s[i] = c) : splitL c ((bl s).drop a) = bl (s.extract a i) :: splitL c ((bl s).drop (i + 1)) := by
  have e : (bl s).drop a = bl (s.extract a i) ++ c :: (bl s).drop (i + 1) := by
    rw [bl_extract]
    have h3 : i < (bl s).length := by rw [bl_len]; exact h2
    have h7 : (bl s)[i] = c := hc
    have h6 : c :: (bl s).drop (i + 1) = (bl s).drop i := by rw [List.drop_eq_getElem_cons h3, h7]
    rw [h6]
    have h5 : (bl s).drop i = ((bl s).drop a).drop (i - a) := by rw [List.drop_drop]; congr 1; omega
    rw [h5, List.take_append_drop]
  rw [e, splitL_line (seg_no (by omega) hno)]
theorem seg_last {s : ByteArray} {c : UInt8} {a : Nat} (hno : ∀ j (hj : j < s.size), a ≤ j → s[j] ≠ c) : splitL c ((bl s).drop a) = [bl (s.extract a s.size)] := by
  have e : (bl s).drop a = bl (s.extract a s.size) := by
    rw [bl_extract, List.take_of_length_le (by rw [List.length_drop, bl_len]; omega)]
  rw [e, splitL_one (seg_no (Nat.le_refl _) (fun j hj h _ => hno j hj h))]
set_option maxHeartbeats 2000000 in
set_option maxRecDepth 100000 in
theorem splitAt_any (s : ByteArray) (c : UInt8) (w : World) (hs : s.size ≤ 1048576) :
    Calls Try.prog 47 #[.string s, .int .u8 c.toNat] w fun e w' => ∃ v, e = .returned v ∧ Owd 9 w w' v ((splitL c (bl s)).map tb) ∧ Le w w' := by
  obtain ⟨i0, hi, hz0, hz1, hz2⟩ := info_parts infoStrT
  go_enter Try.func47, Try.ntmps47
  go_wp2_with fail
  have L0 := Le.new w (.cells #[] 9)
  have O0 := own_empty (w := w) (base := w.heap.size) (g := w.heap.size) (e := 9) (size := 1) (Nat.le_refl _) rfl
  generalize w.alloc (.cells #[] 9) = W at *
  go_wp2
  go_loopw [5, 6, 7] (fun v f i wr => ∃ (L : List ByteArray) (a k : Nat), f = .int .i64 a ∧ i = .int .i64 k ∧ a ≤ k ∧ k ≤ s.size ∧ L.length ≤ a ∧ Hid (∀ j (hj : j < s.size), a ≤ j → j < k → s[j] ≠ c) ∧ Hid (L ++ (splitL c ((bl s).drop a)).map tb = (splitL c (bl s)).map tb) ∧ (∀ x ∈ L, Enc.ok x) ∧ wr.ownsRow w.heap.size 9 1 v L.length (L.flatMap Enc.cells) ∧ Le w wr) (fun _ _ i _ => s.size - (intOf i).toNat)
  case atStart => exact ⟨[], 0, 0, rfl, rfl, Nat.le_refl _, Nat.zero_le _, Nat.le_refl _, fun j _ _ h => absurd h (by omega), rfl, by simp, O0, L0⟩
  case round =>
    clear O0 L0
    obtain ⟨L, a, k, rfl, rfl, hak, hk, hLa, HNO, HSP, hL, O, LW⟩ := hrel
    obtain ⟨A2, c2, rfl⟩ := own_form O
    have HL := Lib.hid hL
    have s1 := LW.size
    clear hL
    by_cases hlt : k < s.size
    · have hc : 0 ≤ (s[k].toNat : Int) ∧ (s[k].toNat : Int) ≤ 255 := by have := UInt8.toNat_lt s[k]; omega
      have hkl : (k : Int) < (s.size : Int) := by omega
      by_cases h58 : s[k] = c
      · have hb : ((s[k].toNat : Int) == (c.toNat : Int)) = true := by rw [h58]; simp
        have HE := Lib.hid (seg_split hak hlt HNO.out h58)
        have hx1 : (a : Int) ≤ (k : Int) := by omega
        have hx2 : (k : Int) ≤ (s.size : Int) := by omega
        have hw : IntKind.i64.wrap ((k : Int) + 1) = (k : Int) + 1 := IntWalk.i64_in _ (by omega)
        have hsz : (s.extract a k).size ≤ 1048576 := by rw [ByteArray.size_extract]; omega
        clear h58 HNO
        have hfo : Enc.ok (s.extract a k) := by show (s.extract a k).size ≤ 9223372036854775807; omega
        have hbk := O.lt
        go_wp2_with (at_builtin; refine wpList_append_sl rfl _ _ 67 rfl w.heap.size 9 i0 _ 16 Try.underlying67 hi hz0 hz1 hz2 rfl _ _ L rfl (O.alloc _) _ 1 1 [s.extract a k] rfl (sl_one (s.extract a k) rfl hfo rfl) (by unfold maxLen; omega) (by omega) (Nat.le_trans (by omega) (Le.new wr _).size) ?_; intro v1 w7 O7 hg7 _; have LA := Le.new wr (.cells #[.string (s.extract a k)] 9); have L7 := (LW.trans LA).grown hg7 (fun k hk => by have h := (hbk _ hk).1; omega); clear hg7 LA)
        go_roundw
        case rel =>
          refine ⟨L ++ [s.extract a k], k + 1, k + 1, by go_num, by go_num, Nat.le_refl _, by omega, by simp; omega, fun j _ h1 h2 => absurd h1 (by omega), ?_, (fun y hy => by rcases List.mem_append.1 hy with h | h; exact HL.out y h; simp at h; subst h; exact hfo), by rw [List.length_append]; exact O7, L7⟩
          have := HSP.out
          rw [HE.out, List.map_cons, tb_bl] at this
          rw [List.append_assoc]; exact this
        case measure => (simp [intOf]) <;> omega
      · have hb : ((s[k].toNat : Int) == (c.toNat : Int)) = false := by
          rw [beq_eq_false_iff_ne]; intro e; exact h58 (UInt8.toNat_inj.1 (by omega))
        have HNO2 : Hid (∀ j (hj : j < s.size), a ≤ j → j < k + 1 → s[j] ≠ c) := fun j hj h1 h2 => by
          rcases Nat.lt_or_ge j k with h | h
          · exact HNO.out j hj h1 h
          · have e : j = k := by omega
            subst e; exact h58
        clear h58 HNO
        go_wp2
        go_roundw
        case rel => exact ⟨L, a, k + 1, by go_num, by go_num, by omega, by omega, hLa, HNO2.out, HSP.out, HL.out, O, LW⟩
        case measure => (simp [intOf]) <;> omega
    · have hkl : ¬ (k : Int) < (s.size : Int) := by omega
      have HE := Lib.hid (seg_last (fun j hj h => HNO.out j hj h (by omega)))
      have hx2 : (a : Int) ≤ (s.size : Int) := by omega
      have hsz : (s.extract a s.size).size ≤ 1048576 := by rw [ByteArray.size_extract]; omega
      have hfo : Enc.ok (s.extract a s.size) := by show (s.extract a s.size).size ≤ 9223372036854775807; omega
      have hbk := O.lt
      clear HNO
      go_wp2_with (at_builtin; refine wpList_append_sl rfl _ _ 67 rfl w.heap.size 9 i0 _ 16 Try.underlying67 hi hz0 hz1 hz2 rfl _ _ L rfl (O.alloc _) _ 1 1 [s.extract a s.size] rfl (sl_one (s.extract a s.size) rfl hfo rfl) (by unfold maxLen; omega) (by omega) (Nat.le_trans (by omega) (Le.new wr _).size) ?_; intro v1 w7 O7 hg7 _; have LA := Le.new wr (.cells #[.string (s.extract a s.size)] 9); have L7 := (LW.trans LA).grown hg7 (fun k hk => by have h := (hbk _ hk).1; omega); clear hg7 LA)
      go_ret
      refine ⟨_, rfl, ⟨?_, ?_⟩, L7⟩
      · have := HSP.out
        rw [HE.out, List.map_cons, tb_bl] at this
        rw [← this, List.length_append]; exact O7
      · have := HSP.out
        rw [HE.out, List.map_cons, tb_bl] at this
        rw [← this]
        intro y hy
        rcases List.mem_append.1 hy with h | h
        · exact HL.out y h
        · simp at h; subst h; exact hfo
end Go.Proofs.Ytjkadmbcnlelhaa
