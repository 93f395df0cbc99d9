/- the law FnTryOf -/
import Derived.Test.YtcokoaolcafkoaaDPh
import Derived.Test.YtcokoaolcafkoaaPdT
import Derived.Test.YtcokoaolcafkoaaLD
import Derived.Test.YtcokoaolcafkoaaRg
import Derived.Deep.RegionHeld3
namespace Go.Proofs.Ytcokoaolcafkoaa
open Go.RowKit
set_option maxHeartbeats 4000000 in
set_option maxRecDepth 100000 in
theorem fnTryOf_walk (A : Option Addr) (n cap : Nat) (bs : List By) (w : World) (hR : Sl w A n cap bs) :
    Calls Try.prog 5 #[.slice A n cap] w fun e w' => e = .returned (.bool true) ∧ Le w w' := by
  have hm := hR.n_le
  by_cases hbig : 1048576 < n
  · go_enter Try.func5, Try.ntmps5
    go_wp2
    go_ret
    exact ⟨rfl, Le.refl w⟩
  go_enter Try.func5, Try.ntmps5
  go_wp2_with fail
  refine (drawTryOf_any A n cap bs w hR).mono ?_
  rintro e w1 ⟨B, D, m, c, q, d, xs, p, i, rfl, S, hm8, S2, hq24, hi, L0⟩
  obtain rfl := S2.len
  have hm1 : m ≤ 1048576 := by omega
  have hsm : p.length ≤ 1048576 := by omega
  clear hbig hm hR
  go_wp2_with fail
  obtain ⟨ct, zt, hleB⟩ := box1 w1 (.slice B m c) 25
  replace S := S.le hleB
  replace L0 := L0.trans hleB
  replace S2 := S2.le hleB
  clear hleB
  generalize w1.alloc (.cells #[.slice B m c] 25) = W1 at *
  go_wp2_with fail
  refine (Calls.sl1t (by decide) (iTryOf_any B D m c _ d xs p i hm1 W1 S S2)).mono ?_
  rintro e w2 ⟨A3, c3, rfl, S3, hle⟩
  replace ct := (hle.cell zt).trans ct
  replace zt := Nat.lt_of_lt_of_le zt hle.size
  replace S := S.le hle
  replace L0 := L0.trans hle
  replace S2 := S2.le hle
  clear hle
  go_wp2_with fail
  refine (Calls.sl1t (by decide) (sTryOf_any B D m c _ d xs p i hsm w2 S S2)).mono ?_
  rintro e w3 ⟨A4, c4, rfl, S4, hle⟩
  replace ct := (hle.cell zt).trans ct
  replace zt := Nat.lt_of_lt_of_le zt hle.size
  replace S := S.le hle
  replace L0 := L0.trans hle
  replace S2 := S2.le hle
  replace S3 := S3.le hle
  clear hle
  go_wp2_with fail
  refine (equalInts_self _ _ _ _ _ _ _ S3 S4).mono ?_
  rintro e w4 ⟨rfl, hle⟩
  replace ct := (hle.cell zt).trans ct
  replace zt := Nat.lt_of_lt_of_le zt hle.size
  replace S := S.le hle
  replace L0 := L0.trans hle
  replace S2 := S2.le hle
  replace S3 := S3.le hle
  clear hle
  clear S4
  by_cases h0 : (tyX xs p i).length = 0
  · have H0 := Lib.hid h0
    rw [h0] at S3 ⊢
    clear h0
    have hlb : ((0 : Int) == 0) = true := rfl
    go_wp2_with fail
    refine (Calls.sl1t (by decide) (sTryOf_any B D m c _ d xs p i hsm w4 S S2)).mono ?_
    rintro e w8 ⟨A6, c6, rfl, S6, hle⟩
    replace L0 := L0.trans hle
    replace S3 := S3.le hle
    clear hle
    rw [H0.out] at S6 ⊢
    go_wp2_with fail
    refine (equalInts_self _ _ _ _ _ _ _ S3 S6).mono ?_
    rintro e w9 ⟨rfl, hle⟩
    replace L0 := L0.trans hle
    clear hle
    go_wp2
    go_ret
    exact ⟨rfl, L0⟩
  obtain ⟨hv, k, rfl, hkp⟩ := ty_on h0
  rcases ty_facts hv hkp with h1 | ⟨j, hjp, h7, HE, hl1, hmem, hall⟩
  · exact absurd (by rw [h1]; rfl) h0
  have hk0 : (0 : Int) ≤ (k : Int) := by omega
  have hkn : (k : Int) < (p.length : Int) := by omega
  have hsl : (parts p j).length ≤ 1048576 := by rw [← nI_len, ← HE]; exact tyX_len xs p k
  have hasc := Lib.hid (nI_asc (parts_asc p j))
  have hhas := Lib.hid (hasI_nIt hmem)
  have HZ : Hid (∀ h : 0 < (parts p j).length, (parts p j)[0]'h = j) := fun _ => rfl
  rw [HE, nI_len] at S3 ⊢
  have HEL := Lib.hid (nI_len (parts p j))
  have HAT : Hid (∀ y (h : y < (parts p j).length), (nI (parts p j))[y]'(by rw [nI_len]; exact h) = ((parts p j)[y] : Int)) := fun y h => nI_at h
  have HALL : Hid (∀ y (h : y < (parts p j).length), ∃ hx : (parts p j)[y] < p.length, p[(parts p j)[y]].depth = p[k].depth ∧ tyX xs p ((parts p j)[y] : Nat) = nI (parts p j)) := fun y h => by
    obtain ⟨a1, b, a3⟩ := hall _ (List.getElem_mem h)
    rw [dep_at a1, dep_at hkp] at b
    exact ⟨a1, b, a3⟩
  rw [knd_at hjp] at h7
  clear HE hall h0 hmem
  generalize parts p j = E at *
  have hnz : ((E.length : Int) == 0) = false := beq_eq_false_iff_ne.2 (by omega)
  go_wp2
  go_loopw [7] (fun i wr => ∃ y : Nat, i = .int .i64 y ∧ Le w4 wr) (fun i _ => E.length - (intOf i).toNat)
  case atStart => exact ⟨0, rfl, Le.refl _⟩
  case round =>
    obtain ⟨y, rfl, LW⟩ := hrel
    replace ct := (LW.cell zt).trans ct
    replace zt := Nat.lt_of_lt_of_le zt LW.size
    replace S := S.le LW
    replace L0 := L0.trans LW
    replace S2 := S2.le LW
    replace S3 := S3.le LW
    by_cases hlt : y < E.length
    · obtain ⟨hx, hdx, htx⟩ := HALL.out y hlt
      obtain ⟨b, off, rfl, hb, hcell, _, _⟩ := S3.int_at (k := y) (by rw [HEL.out]; exact hlt)
      rw [HAT.out y hlt] at hcell
      obtain ⟨b2, off2, rfl, hb2, cx, -⟩ := S2.lin_at hx
      obtain ⟨b3, off3, e3, hb3, ck, -⟩ := S2.lin_at hkp
      injection e3 with e3
      injection e3 with e3 e4
      subst e3; subst e4
      rw [hdx] at cx
      generalize hEy : E[y] = x at *
      have hx0 : (0 : Int) ≤ (x : Int) := by omega
      have hxn : (x : Int) < (p.length : Int) := by omega
      have hy0 : (y : Int) < (E.length : Int) := by omega
      generalize p[k].depth = dk at *
      have hne : (dk != dk) = false := by simp
      have TRY : Hid (∀ w', Sl w' B m c xs → Sl w' (some ⟨b2, off2, none⟩) p.length d p → Calls Try.prog 21 #[.agg #[.slice B m c], .slice (some ⟨b2, off2, none⟩) p.length d, .int .i64 x] w' fun e w'' => ∃ A c, e = .returned (.slice A E.length c) ∧ Sl w'' A E.length c (nI E) ∧ Le w' w'') := fun w' S S2 => by
        have h := Calls.sl1t (by decide) (iTryOf_any B (some ⟨b2, off2, none⟩) m c _ d xs p x hm1 w' S S2)
        rw [htx, nI_len] at h
        exact h
      have cl := hcell
      have zl := hb
      have zx := hb2
      have zk := hb3
      clear hEy hdx htx hcell hb hb2 hb3
      go_wp2_with fail
      replace ct := (show wr.drew.cell? _ = _ from ct)
      replace zt := (show _ < wr.drew.heap.size from zt)
      replace cl := (show wr.drew.cell? _ = _ from cl)
      replace zl := (show _ < wr.drew.heap.size from zl)
      replace cx := (show wr.drew.cell? _ = _ from cx)
      replace zx := (show _ < wr.drew.heap.size from zx)
      replace ck := (show wr.drew.cell? _ = _ from ck)
      replace zk := (show _ < wr.drew.heap.size from zk)
      replace S := S.le (Le.refl _).drew
      replace L0 := L0.drew
      replace LW := LW.drew
      replace S2 := S2.le (Le.refl _).drew
      replace S3 := S3.le (Le.refl _).drew
      go_region_held3 (fun w' => w'.cell? ⟨w1.heap.size, 0, none⟩ = some (.slice B m c) ∧ w'.cell? ⟨b, off + y, none⟩ = some (.int .i64 x) ∧ w'.cell? ⟨b2, off2 + x * 4, none⟩ = some (.int .i64 dk) ∧ w'.cell? ⟨b2, off2 + k * 4, none⟩ = some (.int .i64 dk))
        (first | exact ⟨ct, cl, cx, ck⟩)
        (first
        | (go_at_call 21; refine (TRY.out _ S S2).mono ?_; rintro e w6 ⟨A7, c7, rfl, S7, hle⟩; replace ct := (hle.cell zt).trans ct; replace cl := (hle.cell zl).trans cl; replace cx := (hle.cell zx).trans cx; replace ck := (hle.cell zk).trans ck; replace zt := Nat.lt_of_lt_of_le zt hle.size; replace zl := Nat.lt_of_lt_of_le zl hle.size; replace zx := Nat.lt_of_lt_of_le zx hle.size; replace zk := Nat.lt_of_lt_of_le zk hle.size; replace L0 := L0.trans hle; replace LW := LW.trans hle; replace S3 := S3.le hle; clear hle)
        | (go_at_call 18; refine (equalInts_self _ _ _ _ _ _ _ S7 S3).mono ?_; rintro e w7 ⟨rfl, hle⟩; replace ct := (hle.cell zt).trans ct; replace cl := (hle.cell zl).trans cl; replace cx := (hle.cell zx).trans cx; replace ck := (hle.cell zk).trans ck; replace zt := Nat.lt_of_lt_of_le zt hle.size; replace zl := Nat.lt_of_lt_of_le zl hle.size; replace zx := Nat.lt_of_lt_of_le zx hle.size; replace zk := Nat.lt_of_lt_of_le zk hle.size; replace L0 := L0.trans hle; replace LW := LW.trans hle; clear hle)
        )
      go_wp2
      go_roundw
      case rel => exact ⟨y + 1, by go_num, LW⟩
      case measure => simp [intOf]; omega
    · have h0l : 0 < E.length := by omega
      have hz0 := HZ.out h0l
      obtain ⟨b, off, rfl, hb, hcell, _, _⟩ := S3.int_at (k := 0) (by rw [HEL.out]; exact h0l)
      rw [HAT.out 0 h0l, hz0] at hcell
      obtain ⟨b2, off2, rfl, hb2, d0, d1, -⟩ := S2.lin_at hjp
      rw [h7] at d1
      have hj0 : (0 : Int) ≤ (j : Int) := by omega
      have hjn : (j : Int) < (p.length : Int) := by omega
      have h0i : (0 : Int) < (E.length : Int) := by omega
      have h1i : (1 : Int) < (E.length : Int) := by omega
      simp only [Nat.add_zero] at hcell
      clear hz0 h7
      go_wp2_with fail
      refine (isIn_any _ _ _ (nI E) k wr S3).mono ?_
      rintro e w5 ⟨rfl, rfl⟩
      rw [hhas.out]
      go_wp2_with fail
      refine (ascends_any _ _ _ (nI E) wr S3 hasc.out).mono ?_
      rintro e w6 ⟨rfl, hle⟩
      replace L0 := L0.trans hle
      go_wp2
      go_ret
      exact ⟨rfl, L0⟩
end Go.Proofs.Ytcokoaolcafkoaa
