/- the law FnTraceTextRows -/
import Derived.Test.YtnjckloodkdbpaaDoorCq8
import Derived.Test.YtnjckloodkdbpaaDoorCq9
import Derived.Test.YtnjckloodkdbpaaDoorCq10
import Derived.Test.YtnjckloodkdbpaaDoorGotAP
namespace Go.Proofs.YtnjckloodkdbpaaDoor
open Go.RowKit
theorem count_jn : ∀ L : List (List UInt8), (jn L).count 58 = (L.map (List.count 58)).sum
  | [] => rfl
  | [a] => by show a.count 58 = _; simp
  | a :: b :: r => by
    have ih := count_jn (b :: r)
    rw [jn_cons (by simp), List.count_append, List.count_cons_of_ne (by decide), ih]
    simp only [List.map_cons, List.sum_cons]
theorem count_not {l : List UInt8} {c : UInt8} (h : c ∉ l) : l.count c = 0 := List.count_eq_zero.2 h
theorem count_row {r : Rwf} (h : okRw r) : (rowB r).count 58 = 1 := by
  obtain ⟨h1, h2, h3, h4, h5⟩ := h
  unfold rowB
  rw [List.count_append, List.count_append, List.count_cons_self, count_not (not_mem_name h1 (by decide)), count_not (numL_not (by omega) (by decide))]
  split
  · rfl
  · rw [List.count_cons_of_ne (by decide), count_not (numL_not (by omega) (by decide))]
theorem count_tr {R : List Rwf} (h : ∀ r ∈ R, okRw r) : (trB R).count 58 = R.length := by
  unfold trB
  rw [count_jn, List.map_map]
  induction R with
  | nil => rfl
  | cons x q ih =>
    rw [List.map_cons, List.sum_cons, ih (fun r hr => h r (List.mem_cons_of_mem _ hr)), List.length_cons]
    show (rowB x).count 58 + _ = _
    rw [count_row (h x (by simp))]; omega
set_option maxHeartbeats 2000000 in
set_option maxRecDepth 100000 in
theorem fnTraceTextRows_walk (A : Option Addr) (n cap : Nat) (bs : List By) (w : World) (hR : Sl w A n cap bs) (hG : GotErr w) :
    Calls Tryd.prog 5 #[.slice A n cap] w fun e w' => e = .returned (.bool true) ∧ Le w w' := by
  have hm := hR.n_le
  by_cases hbig : 1048576 < n
  · go_enter Tryd.func5, Tryd.ntmps5
    go_wp2
    go_ret
    exact ⟨rfl, Le.refl w⟩
  go_enter Tryd.func5, Tryd.ntmps5
  go_wp2_with fail
  refine (drawTraceText_any A n cap bs w hR).mono ?_
  rintro e w1 ⟨B, m, c, xs, rfl, S, hm8, L0⟩
  have hT : TabW w := hG
  have htl := trX_len xs
  have hHT : Hid (vTr xs = true → (bl (trX xs)).count 58 = (foldX xs).length) := fun hv => by
    have e : foldX xs = foldL xs := by unfold foldX; rw [hv]; rfl
    rw [trX_of hv, e]
    exact count_tr (foldL_okRw hv)
  have H1 := Lib.hid (fun W S h => iTraceText_any B m c xs W S h)
  have H2 := Lib.hid (fun W S => sTraceText_any B m c xs W S)
  generalize trX xs = tx at *
  have hb2 : (tx.toList == tx.toList) = true := by simp
  have hb3 : (tx.toList != tx.toList) = false := by simp
  go_wp2_with fail
  refine (H1.out w1 S (hT.le L0)).mono ?_
  rintro e w2 ⟨rfl, hle⟩
  replace S := S.le hle
  replace L0 := L0.trans hle
  clear hle
  go_wp2_with fail
  refine (H2.out w2 S).mono ?_
  rintro e w3 ⟨rfl, hle⟩
  replace S := S.le hle
  replace L0 := L0.trans hle
  clear hle
  go_wp2_with fail
  refine (iValidTrace_any _ _ _ xs _ S).mono ?_
  rintro e w4 ⟨rfl, hle⟩
  replace S := S.le hle
  replace L0 := L0.trans hle
  clear hle
  cases h1 : vTr xs
  · go_wp2_with fail
    refine (H2.out w4 S).mono ?_
    rintro e w5 ⟨rfl, hle⟩
    replace L0 := L0.trans hle
    clear hle
    go_wp2
    go_ret
    exact ⟨rfl, L0⟩
  have HC := Lib.hid (hHT.out h1)
  clear h1
  go_wp2
  go_loopw [5, 6] (fun v i wr => ∃ k d : Nat, k ≤ tx.size ∧ i = .int .i64 k ∧ v = .int .i64 d ∧ d = ((bl tx).take k).count 58 ∧ d ≤ k ∧ w4 = wr) (fun _ i _ => tx.size - (intOf i).toNat)
  case atStart => exact ⟨0, 0, Nat.zero_le _, rfl, rfl, rfl, Nat.le_refl _, rfl⟩
  case round =>
    obtain ⟨k, d, hk, rfl, rfl, hd, hdk, rfl⟩ := hrel
    by_cases hlt : k < tx.size
    · have hki : (k : Int) < (tx.size : Int) := by omega
      have hsn : ((bl tx).take (k + 1)).count 58 = d + (if tx[k] = 58 then 1 else 0) := by
        rw [take_snoc hlt, List.count_append, ← hd]
        congr 1
        by_cases h : tx[k] = 58
        · rw [if_pos h, h]; rfl
        · rw [if_neg h]; exact count_not (by simpa using fun e => h e.symm)
      clear hd
      by_cases h58 : tx[k] = 58
      · have hb : ((tx[k].toNat : Int) == 58) = true := by rw [h58]; rfl
        rw [if_pos h58] at hsn
        have HSN := Lib.hid hsn
        clear hsn h58
        go_wp2
        go_roundw
        case rel => exact ⟨k + 1, d + 1, by omega, by go_num, by go_num, HSN.out.symm, by omega, trivial⟩
        case measure => (simp [intOf]) <;> omega
      · have hb : ((tx[k].toNat : Int) == 58) = false := by
          rw [beq_eq_false_iff_ne]; intro e; exact h58 (UInt8.toNat_inj.1 (by show tx[k].toNat = 58; omega))
        rw [if_neg h58, Nat.add_zero] at hsn
        have HSN := Lib.hid hsn
        clear hsn h58
        go_wp2
        go_roundw
        case rel => exact ⟨k + 1, d, by omega, by go_num, rfl, HSN.out.symm, by omega, trivial⟩
        case measure => (simp [intOf]) <;> omega
    · have hki : ¬ (k : Int) < (tx.size : Int) := by omega
      obtain rfl : k = tx.size := by omega
      have htk : (bl tx).take tx.size = bl tx := List.take_of_length_le (by rw [bl_len]; omega)
      rw [htk, HC.out] at hd
      subst hd
      clear htk
      go_wp2_with fail
      refine (iFoldTrace_any B m c xs w4 S).mono ?_
      rintro e w5 ⟨v5, rfl, D, hle⟩
      obtain ⟨A5, c5, rfl, -, -⟩ := D.form (by decide)
      have L5 := L0.trans hle
      clear D hle hHT HC
      generalize (foldX xs).length = q at *
      go_wp2
      go_ret
      exact ⟨by simp, L5⟩
end Go.Proofs.YtnjckloodkdbpaaDoor
