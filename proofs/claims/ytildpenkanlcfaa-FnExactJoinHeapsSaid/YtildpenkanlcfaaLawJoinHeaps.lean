import Derived.Test.YtildpenkanlcfaaTlClass
import Derived.Test.YtildpenkanlcfaaTlFault
import Derived.Test.YtildpenkanlcfaaHpT
import Derived.Deep.Cut
namespace Go.Proofs.Ytildpenkanlcfaa
open Go.RowKit

set_option maxHeartbeats 16000000 in
set_option maxRecDepth 100000 in
theorem exJoinHeaps_walk (At : Option Addr) (nt ct : Nat) (t : List Cls) (Ah : Option Addr) (nh ch : Nat) (h : List Flt) (Ak : Option Addr) (nk ck : Nat) (k : List Flt) (w : World) (ht : Sl w At nt ct t) (hh : Sl w Ah nh ch h) (hk : Sl w Ak nk ck k) :
    Calls Try.prog 7 #[.agg #[.slice At nt ct], .agg #[.slice Ah nh ch], .agg #[.slice Ak nk ck]] w fun e w' => e = .returned (.bool true) ∧ Le w w' := by
  have hokt := ht.ok
  have hmxt := ht.n_le
  have hokh := hh.ok
  have hmxh := hh.n_le
  have hokk := hk.ok
  have hmxk := hk.n_le
  have HL0 : (jhX t h k).length ≤ 1048576 := jhX_len t h k
  go_enter Try.func7, Try.ntmps7
  go_wp2_with fail
  obtain ⟨cat, zat, cah, zah, cak, zak, L0⟩ := box3 w (.slice At nt ct) (.slice Ah nh ch) (.slice Ak nk ck) 24 27 27
  have s0 : w.heap.size ≤ (((w.alloc (.cells #[.slice At nt ct] 24)).alloc (.cells #[.slice Ah nh ch] 27)).alloc (.cells #[.slice Ak nk ck] 27)).heap.size := L0.size
  have sz0 := zak
  generalize ((w.alloc (.cells #[.slice At nt ct] 24)).alloc (.cells #[.slice Ah nh ch] 27)).alloc (.cells #[.slice Ak nk ck] 27) = W at *
  refine (szTree_any At nt ct t _ _ (ht.le L0) (by omega) (by omega)).mono ?_
  rintro e w1 ⟨rt, rfl, hr, hle⟩
  have s1 := hle.size
  replace cat := (hle.cell zat).trans cat
  replace cah := (hle.cell zah).trans cah
  replace cak := (hle.cell zak).trans cak
  replace zat := Nat.lt_of_lt_of_le zat hle.size
  replace zah := Nat.lt_of_lt_of_le zah hle.size
  replace zak := Nat.lt_of_lt_of_le zak hle.size
  replace L0 := L0.trans hle
  clear hle
  rcases hr with rfl | ⟨ht0, ht1, ht2⟩
  · go_wp2
    go_ret
    exact ⟨rfl, L0⟩
  have hnegt : decide (rt < 0) = false := decide_eq_false (by omega)
  go_wp2_with fail
  refine (szHeap_any Ah nh ch h _ _ (hh.le L0) (by omega) (by omega)).mono ?_
  rintro e w2 ⟨rh, rfl, hr, hle⟩
  have s2 := hle.size
  replace cat := (hle.cell zat).trans cat
  replace cah := (hle.cell zah).trans cah
  replace cak := (hle.cell zak).trans cak
  replace zat := Nat.lt_of_lt_of_le zat hle.size
  replace zah := Nat.lt_of_lt_of_le zah hle.size
  replace zak := Nat.lt_of_lt_of_le zak hle.size
  replace L0 := L0.trans hle
  clear hle
  rcases hr with rfl | ⟨hh0, hh1, hh2⟩
  · go_wp2
    go_ret
    exact ⟨rfl, L0⟩
  have hnegh : decide (rh < 0) = false := decide_eq_false (by omega)
  go_wp2_with fail
  refine (szHeap_any Ak nk ck k _ _ (hk.le L0) (by omega) (by omega)).mono ?_
  rintro e w3 ⟨rk, rfl, hr, hle⟩
  have s3 := hle.size
  replace cat := (hle.cell zat).trans cat
  replace cah := (hle.cell zah).trans cah
  replace cak := (hle.cell zak).trans cak
  replace zat := Nat.lt_of_lt_of_le zat hle.size
  replace zah := Nat.lt_of_lt_of_le zah hle.size
  replace zak := Nat.lt_of_lt_of_le zak hle.size
  replace L0 := L0.trans hle
  clear hle
  rcases hr with rfl | ⟨hk0, hk1, hk2⟩
  · go_wp2
    go_ret
    exact ⟨rfl, L0⟩
  have hnegk : decide (rk < 0) = false := decide_eq_false (by omega)
  go_wp2_with fail
  go_cut [8, 9] from 20 (fun s8 s9 wx => ∃ (wb : World) (A : Option Addr) (q : Nat), s8 = .pointer (some ⟨wb.heap.size, 0, none⟩) ∧ s9 = .bool (jhOk t h k) ∧ Le w3 wx ∧ w3.heap.size ≤ wb.heap.size ∧ wb.heap.size < wx.heap.size ∧ wx.cell? ⟨wb.heap.size, 0, none⟩ = some (.slice A (jhX t h k).length q) ∧ wx.ownsRow w3.heap.size 62 5 (.slice A (jhX t h k).length q) (jhX t h k).length ((jhX t h k).flatMap Enc.cells) ∧ (∀ x ∈ jhX t h k, Enc.ok x))
  case first =>
    have yt := zat
    have yh := zah
    have yk := zak
    have LR := Le.refl w3
    have HBA : Hid (∀ x : World, (x.alloc (.cells #[.slice none 0 0] 32)).cell? ⟨x.heap.size, 0, none⟩ = some (.slice none 0 0)) := fun x => by rw [World.cell?_alloc_at _ _ _ _ rfl]; rfl
    have HFA : Hid (∀ x : World, (x.alloc (.cells #[.slice none 0 0] 32)).frozen? ⟨x.heap.size, 0, none⟩ = false) := fun x => World.frozen?_alloc_at _ _ _ _ rfl
    replace L0 := L0.drew
    replace LR := LR.drew
    go_region_held3 (fun w' => w'.cell? ⟨w.heap.size, 0, none⟩ = some (.slice At nt ct) ∧ w'.cell? ⟨w.heap.size + 1, 0, none⟩ = some (.slice Ah nh ch) ∧ w'.cell? ⟨w.heap.size + 1 + 1, 0, none⟩ = some (.slice Ak nk ck))
      (first | exact ⟨cat, cah, cak⟩ | exact ⟨((Le.new _ _).cell zat).trans cat, ((Le.new _ _).cell zah).trans cah, ((Le.new _ _).cell zak).trans cak⟩ | exact ⟨(cell_set_other (.inl (by omega))).trans cat, (cell_set_other (.inl (by omega))).trans cah, (cell_set_other (.inl (by omega))).trans cak⟩ | exact ⟨(cell_set_other (.inl (by omega))).trans (((Le.new _ _).cell zat).trans cat), (cell_set_other (.inl (by omega))).trans (((Le.new _ _).cell zah).trans cah), (cell_set_other (.inl (by omega))).trans (((Le.new _ _).cell zak).trans cak)⟩)
      (first
      | (go_at_call 11; refine (toTree_any At nt ct t _ (ht.le L0) (by omega)).mono ?_; rintro e w4 ⟨gat, rfl, hgat, Oat, hle⟩; have s4 : w3.heap.size ≤ w4.heap.size := hle.size; replace cat := (hle.cell zat).trans cat; replace cah := (hle.cell zah).trans cah; replace cak := (hle.cell zak).trans cak; replace zat := Nat.lt_of_lt_of_le zat hle.size; replace zah := Nat.lt_of_lt_of_le zah hle.size; replace zak := Nat.lt_of_lt_of_le zak hle.size; replace L0 := L0.trans hle; replace LR := LR.trans hle; (try replace fbx := (hle.frozen zbx).trans fbx); (try replace cbx := (hle.cell zbx).trans cbx); (try replace zbx := Nat.lt_of_lt_of_le zbx hle.size); clear hle; have hbat := own_lt Oat)
      | (go_at_call 11; have hB := Le.new w3.drew (.cells #[.slice none 0 0] 32); have cbx : (w3.drew.alloc (.cells #[.slice none 0 0] 32)).cell? ⟨w3.heap.size, 0, none⟩ = some (.slice none 0 0) := HBA.out w3.drew; have fbx : (w3.drew.alloc (.cells #[.slice none 0 0] 32)).frozen? ⟨w3.heap.size, 0, none⟩ = false := HFA.out w3.drew; have zbx : w3.heap.size < (w3.drew.alloc (.cells #[.slice none 0 0] 32)).heap.size := Nat.lt_of_lt_of_le (Nat.lt_succ_self _) (Nat.le_of_eq (by simp)); replace cat := (hB.cell zat).trans cat; replace cah := (hB.cell zah).trans cah; replace cak := (hB.cell zak).trans cak; replace zat := Nat.lt_of_lt_of_le zat hB.size; replace zah := Nat.lt_of_lt_of_le zah hB.size; replace zak := Nat.lt_of_lt_of_le zak hB.size; replace L0 := L0.trans hB; replace LR := LR.trans hB; clear hB; refine (toTree_any At nt ct t _ (ht.le L0) (by omega)).mono ?_; rintro e w4 ⟨gat, rfl, hgat, Oat, hle⟩; have s4 : w3.heap.size ≤ w4.heap.size := Nat.le_trans (Le.new _ _).size hle.size; have sx : w3.heap.size < w4.heap.size := Nat.lt_of_lt_of_le zbx hle.size; replace cat := (hle.cell zat).trans cat; replace cah := (hle.cell zah).trans cah; replace cak := (hle.cell zak).trans cak; replace zat := Nat.lt_of_lt_of_le zat hle.size; replace zah := Nat.lt_of_lt_of_le zah hle.size; replace zak := Nat.lt_of_lt_of_le zak hle.size; replace L0 := L0.trans hle; replace LR := LR.trans hle; (try replace fbx := (hle.frozen zbx).trans fbx); (try replace cbx := (hle.cell zbx).trans cbx); (try replace zbx := Nat.lt_of_lt_of_le zbx hle.size); clear hle; have hbat := own_lt Oat)
      | (go_at_call 12; refine (toHeap_any Ah nh ch h _ (hh.le L0) (by omega)).mono ?_; rintro e w5 ⟨gah, rfl, hgah, Oah, hle⟩; have s5 : w4.heap.size ≤ w5.heap.size := hle.size; replace cat := (hle.cell zat).trans cat; replace cah := (hle.cell zah).trans cah; replace cak := (hle.cell zak).trans cak; replace zat := Nat.lt_of_lt_of_le zat hle.size; replace zah := Nat.lt_of_lt_of_le zah hle.size; replace zak := Nat.lt_of_lt_of_le zak hle.size; replace L0 := L0.trans hle; replace LR := LR.trans hle; replace Oat := own_le Oat hle; (try replace fbx := (hle.frozen zbx).trans fbx); (try replace cbx := (hle.cell zbx).trans cbx); (try replace zbx := Nat.lt_of_lt_of_le zbx hle.size); clear hle; have hbah := own_lt Oah)
      | (go_at_call 12; have hB := Le.new w4 (.cells #[.slice none 0 0] 32); have cbx : (w4.alloc (.cells #[.slice none 0 0] 32)).cell? ⟨w4.heap.size, 0, none⟩ = some (.slice none 0 0) := HBA.out w4; have fbx : (w4.alloc (.cells #[.slice none 0 0] 32)).frozen? ⟨w4.heap.size, 0, none⟩ = false := HFA.out w4; have zbx : w4.heap.size < (w4.alloc (.cells #[.slice none 0 0] 32)).heap.size := Nat.lt_of_lt_of_le (Nat.lt_succ_self _) (Nat.le_of_eq (by simp)); replace cat := (hB.cell zat).trans cat; replace cah := (hB.cell zah).trans cah; replace cak := (hB.cell zak).trans cak; replace zat := Nat.lt_of_lt_of_le zat hB.size; replace zah := Nat.lt_of_lt_of_le zah hB.size; replace zak := Nat.lt_of_lt_of_le zak hB.size; replace L0 := L0.trans hB; replace LR := LR.trans hB; replace Oat := own_le Oat hB; clear hB; refine (toHeap_any Ah nh ch h _ (hh.le L0) (by omega)).mono ?_; rintro e w5 ⟨gah, rfl, hgah, Oah, hle⟩; have s5 : w4.heap.size ≤ w5.heap.size := Nat.le_trans (Le.new _ _).size hle.size; have sx : w4.heap.size < w5.heap.size := Nat.lt_of_lt_of_le zbx hle.size; replace cat := (hle.cell zat).trans cat; replace cah := (hle.cell zah).trans cah; replace cak := (hle.cell zak).trans cak; replace zat := Nat.lt_of_lt_of_le zat hle.size; replace zah := Nat.lt_of_lt_of_le zah hle.size; replace zak := Nat.lt_of_lt_of_le zak hle.size; replace L0 := L0.trans hle; replace LR := LR.trans hle; replace Oat := own_le Oat hle; (try replace fbx := (hle.frozen zbx).trans fbx); (try replace cbx := (hle.cell zbx).trans cbx); (try replace zbx := Nat.lt_of_lt_of_le zbx hle.size); clear hle; have hbah := own_lt Oah)
      | (go_at_call 12; refine (toHeap_any Ak nk ck k _ (hk.le L0) (by omega)).mono ?_; rintro e w6 ⟨gak, rfl, hgak, Oak, hle⟩; have s6 : w5.heap.size ≤ w6.heap.size := hle.size; replace cat := (hle.cell zat).trans cat; replace cah := (hle.cell zah).trans cah; replace cak := (hle.cell zak).trans cak; replace zat := Nat.lt_of_lt_of_le zat hle.size; replace zah := Nat.lt_of_lt_of_le zah hle.size; replace zak := Nat.lt_of_lt_of_le zak hle.size; replace L0 := L0.trans hle; replace LR := LR.trans hle; replace Oat := own_le Oat hle; replace Oah := own_le Oah hle; (try replace fbx := (hle.frozen zbx).trans fbx); (try replace cbx := (hle.cell zbx).trans cbx); (try replace zbx := Nat.lt_of_lt_of_le zbx hle.size); clear hle; have hbak := own_lt Oak)
      | (go_at_call 12; have hB := Le.new w5 (.cells #[.slice none 0 0] 32); have cbx : (w5.alloc (.cells #[.slice none 0 0] 32)).cell? ⟨w5.heap.size, 0, none⟩ = some (.slice none 0 0) := HBA.out w5; have fbx : (w5.alloc (.cells #[.slice none 0 0] 32)).frozen? ⟨w5.heap.size, 0, none⟩ = false := HFA.out w5; have zbx : w5.heap.size < (w5.alloc (.cells #[.slice none 0 0] 32)).heap.size := Nat.lt_of_lt_of_le (Nat.lt_succ_self _) (Nat.le_of_eq (by simp)); replace cat := (hB.cell zat).trans cat; replace cah := (hB.cell zah).trans cah; replace cak := (hB.cell zak).trans cak; replace zat := Nat.lt_of_lt_of_le zat hB.size; replace zah := Nat.lt_of_lt_of_le zah hB.size; replace zak := Nat.lt_of_lt_of_le zak hB.size; replace L0 := L0.trans hB; replace LR := LR.trans hB; replace Oat := own_le Oat hB; replace Oah := own_le Oah hB; clear hB; refine (toHeap_any Ak nk ck k _ (hk.le L0) (by omega)).mono ?_; rintro e w6 ⟨gak, rfl, hgak, Oak, hle⟩; have s6 : w5.heap.size ≤ w6.heap.size := Nat.le_trans (Le.new _ _).size hle.size; have sx : w5.heap.size < w6.heap.size := Nat.lt_of_lt_of_le zbx hle.size; replace cat := (hle.cell zat).trans cat; replace cah := (hle.cell zah).trans cah; replace cak := (hle.cell zak).trans cak; replace zat := Nat.lt_of_lt_of_le zat hle.size; replace zah := Nat.lt_of_lt_of_le zah hle.size; replace zak := Nat.lt_of_lt_of_le zak hle.size; replace L0 := L0.trans hle; replace LR := LR.trans hle; replace Oat := own_le Oat hle; replace Oah := own_le Oah hle; (try replace fbx := (hle.frozen zbx).trans fbx); (try replace cbx := (hle.cell zbx).trans cbx); (try replace zbx := Nat.lt_of_lt_of_le zbx hle.size); clear hle; have hbak := own_lt Oak)
      | (go_at_call 28; refine (sJoinHeaps_any _ _ _ _ _ _ _ _ _ t h k _ (Sl.of_own Oat rfl (by decide) hokt) (Sl.of_own Oah rfl (by decide) hokh) (Sl.of_own Oak rfl (by decide) hokk) (by omega) (by omega)).mono ?_; rintro e w7 ⟨v00, rfl, D00, hle⟩; have s7 : w6.heap.size ≤ w7.heap.size := hle.size; replace cat := (hle.cell zat).trans cat; replace cah := (hle.cell zah).trans cah; replace cak := (hle.cell zak).trans cak; replace zat := Nat.lt_of_lt_of_le zat hle.size; replace zah := Nat.lt_of_lt_of_le zah hle.size; replace zak := Nat.lt_of_lt_of_le zak hle.size; replace L0 := L0.trans hle; replace LR := LR.trans hle; replace Oat := own_le Oat hle; replace Oah := own_le Oah hle; replace Oak := own_le Oak hle; (try replace fbx := (hle.frozen zbx).trans fbx); (try replace cbx := (hle.cell zbx).trans cbx); (try replace zbx := Nat.lt_of_lt_of_le zbx hle.size); clear hle; obtain ⟨A00, q00, rfl, S00, hB00⟩ := D00.form (by decide); have cby : (w7.alloc (.cells #[.slice none 0 0] 32)).cell? ⟨w7.heap.size, 0, none⟩ = some (.slice none 0 0) := HBA.out w7; have fby : (w7.alloc (.cells #[.slice none 0 0] 32)).frozen? ⟨w7.heap.size, 0, none⟩ = false := HFA.out w7)
      | (go_at_call 28; have hB := Le.new w6 (.cells #[.slice none 0 0] 32); have cbx : (w6.alloc (.cells #[.slice none 0 0] 32)).cell? ⟨w6.heap.size, 0, none⟩ = some (.slice none 0 0) := HBA.out w6; have fbx : (w6.alloc (.cells #[.slice none 0 0] 32)).frozen? ⟨w6.heap.size, 0, none⟩ = false := HFA.out w6; have zbx : w6.heap.size < (w6.alloc (.cells #[.slice none 0 0] 32)).heap.size := Nat.lt_of_lt_of_le (Nat.lt_succ_self _) (Nat.le_of_eq (by simp)); replace cat := (hB.cell zat).trans cat; replace cah := (hB.cell zah).trans cah; replace cak := (hB.cell zak).trans cak; replace zat := Nat.lt_of_lt_of_le zat hB.size; replace zah := Nat.lt_of_lt_of_le zah hB.size; replace zak := Nat.lt_of_lt_of_le zak hB.size; replace L0 := L0.trans hB; replace LR := LR.trans hB; replace Oat := own_le Oat hB; replace Oah := own_le Oah hB; replace Oak := own_le Oak hB; clear hB; refine (sJoinHeaps_any _ _ _ _ _ _ _ _ _ t h k _ (Sl.of_own Oat rfl (by decide) hokt) (Sl.of_own Oah rfl (by decide) hokh) (Sl.of_own Oak rfl (by decide) hokk) (by omega) (by omega)).mono ?_; rintro e w7 ⟨v00, rfl, D00, hle⟩; have s7 : w6.heap.size ≤ w7.heap.size := Nat.le_trans (Le.new _ _).size hle.size; have sx : w6.heap.size < w7.heap.size := Nat.lt_of_lt_of_le zbx hle.size; replace cat := (hle.cell zat).trans cat; replace cah := (hle.cell zah).trans cah; replace cak := (hle.cell zak).trans cak; replace zat := Nat.lt_of_lt_of_le zat hle.size; replace zah := Nat.lt_of_lt_of_le zah hle.size; replace zak := Nat.lt_of_lt_of_le zak hle.size; replace L0 := L0.trans hle; replace LR := LR.trans hle; replace Oat := own_le Oat hle; replace Oah := own_le Oah hle; replace Oak := own_le Oak hle; (try replace fbx := (hle.frozen zbx).trans fbx); (try replace cbx := (hle.cell zbx).trans cbx); (try replace zbx := Nat.lt_of_lt_of_le zbx hle.size); clear hle; obtain ⟨A00, q00, rfl, S00, hB00⟩ := D00.form (by decide); have cby : (w7.alloc (.cells #[.slice none 0 0] 32)).cell? ⟨w7.heap.size, 0, none⟩ = some (.slice none 0 0) := HBA.out w7; have fby : (w7.alloc (.cells #[.slice none 0 0] 32)).frozen? ⟨w7.heap.size, 0, none⟩ = false := HFA.out w7))
    all_goals (go_wp2_with fail; go_meet)
    all_goals
      first
      | exact ⟨w3, A00, q00, rfl, rfl, LR.setCell (by omega) _, by omega, by simp [World.setCell]; omega, cell_set_same cbx, own_mono (D00.row.kept (grown_set _ _ _ _) (.inr (fun e => by have h1 := (hB00 _ e).1; (try simp at h1); omega))) (by first | omega | (simp; omega)), D00.ok⟩
      | exact ⟨w4, A00, q00, rfl, rfl, LR.setCell (by omega) _, by omega, by simp [World.setCell]; omega, cell_set_same cbx, own_mono (D00.row.kept (grown_set _ _ _ _) (.inr (fun e => by have h1 := (hB00 _ e).1; (try simp at h1); omega))) (by first | omega | (simp; omega)), D00.ok⟩
      | exact ⟨w5, A00, q00, rfl, rfl, LR.setCell (by omega) _, by omega, by simp [World.setCell]; omega, cell_set_same cbx, own_mono (D00.row.kept (grown_set _ _ _ _) (.inr (fun e => by have h1 := (hB00 _ e).1; (try simp at h1); omega))) (by first | omega | (simp; omega)), D00.ok⟩
      | exact ⟨w6, A00, q00, rfl, rfl, LR.setCell (by omega) _, by omega, by simp [World.setCell]; omega, cell_set_same cbx, own_mono (D00.row.kept (grown_set _ _ _ _) (.inr (fun e => by have h1 := (hB00 _ e).1; (try simp at h1); omega))) (by first | omega | (simp; omega)), D00.ok⟩
      | exact ⟨w7, A00, q00, rfl, rfl, LR.trans (Le.new _ _), by omega, by simp, by rw [World.cell?_alloc_at _ _ _ _ rfl]; rfl, own_mono (own_le D00.row (Le.new _ _)) (by omega), D00.ok⟩
  case rest =>
    obtain ⟨wb00, A00, q00, rfl, rfl, hle, hb100, hb200, cb00, O00, okL00⟩ := hcut
    generalize wc = w8 at *
    have s8 := hle.size
    replace cat := (hle.cell zat).trans cat
    replace cah := (hle.cell zah).trans cah
    replace cak := (hle.cell zak).trans cak
    replace zat := Nat.lt_of_lt_of_le zat hle.size
    replace zah := Nat.lt_of_lt_of_le zah hle.size
    replace zak := Nat.lt_of_lt_of_le zak hle.size
    replace L0 := L0.trans hle
    clear hle
    have zb00 := hb200
    have hB00 := O00.lt
    have HB00 := Lib.hid hB00; clear hB00
    have S00 := Sl.of_own O00 rfl (by decide) okL00; clear O00
    have HU00 := Lib.hid (S00.under)
    go_wp2_with fail
    refine (toTree_any At nt ct t _ (ht.le L0) (by omega)).mono ?_
    rintro e w9 ⟨gxt, rfl, hgxt, Oxt, hle⟩
    have s9 := hle.size
    replace cat := (hle.cell zat).trans cat
    replace cah := (hle.cell zah).trans cah
    replace cak := (hle.cell zak).trans cak
    replace cb00 := (hle.cell zb00).trans cb00
    replace zat := Nat.lt_of_lt_of_le zat hle.size
    replace zah := Nat.lt_of_lt_of_le zah hle.size
    replace zak := Nat.lt_of_lt_of_le zak hle.size
    replace L0 := L0.trans hle
    replace zb00 := Nat.lt_of_lt_of_le zb00 hle.size
    replace S00 := S00.le hle
    clear hle
    have hbxt := own_lt Oxt
    go_wp2_with fail
    obtain ⟨cxt, zxt, hleB⟩ := box1 w9 (.slice (some ⟨gxt, 0, none⟩) nt nt) 37
    replace cat := (hleB.cell zat).trans cat
    replace cah := (hleB.cell zah).trans cah
    replace cak := (hleB.cell zak).trans cak
    replace cb00 := (hleB.cell zb00).trans cb00
    replace zat := Nat.lt_of_lt_of_le zat hleB.size
    replace zah := Nat.lt_of_lt_of_le zah hleB.size
    replace zak := Nat.lt_of_lt_of_le zak hleB.size
    replace L0 := L0.trans hleB
    replace zb00 := Nat.lt_of_lt_of_le zb00 hleB.size
    replace S00 := S00.le hleB
    replace Oxt := own_le Oxt hleB
    clear hleB
    generalize w9.alloc (.cells #[.slice (some ⟨gxt, 0, none⟩) nt nt] 37) = w10 at *
    have s10 := zxt
    refine (toHeap_any Ah nh ch h _ (hh.le L0) (by omega)).mono ?_
    rintro e w11 ⟨gxh, rfl, hgxh, Oxh, hle⟩
    have s11 := hle.size
    replace cat := (hle.cell zat).trans cat
    replace cah := (hle.cell zah).trans cah
    replace cak := (hle.cell zak).trans cak
    replace cb00 := (hle.cell zb00).trans cb00
    replace cxt := (hle.cell zxt).trans cxt
    replace zat := Nat.lt_of_lt_of_le zat hle.size
    replace zah := Nat.lt_of_lt_of_le zah hle.size
    replace zak := Nat.lt_of_lt_of_le zak hle.size
    replace L0 := L0.trans hle
    replace zb00 := Nat.lt_of_lt_of_le zb00 hle.size
    replace S00 := S00.le hle
    replace Oxt := own_le Oxt hle
    replace zxt := Nat.lt_of_lt_of_le zxt hle.size
    clear hle
    have hbxh := own_lt Oxh
    go_wp2_with fail
    obtain ⟨cxh, zxh, hleB⟩ := box1 w11 (.slice (some ⟨gxh, 0, none⟩) nh nh) 32
    replace cat := (hleB.cell zat).trans cat
    replace cah := (hleB.cell zah).trans cah
    replace cak := (hleB.cell zak).trans cak
    replace cb00 := (hleB.cell zb00).trans cb00
    replace cxt := (hleB.cell zxt).trans cxt
    replace zat := Nat.lt_of_lt_of_le zat hleB.size
    replace zah := Nat.lt_of_lt_of_le zah hleB.size
    replace zak := Nat.lt_of_lt_of_le zak hleB.size
    replace L0 := L0.trans hleB
    replace zb00 := Nat.lt_of_lt_of_le zb00 hleB.size
    replace S00 := S00.le hleB
    replace Oxt := own_le Oxt hleB
    replace zxt := Nat.lt_of_lt_of_le zxt hleB.size
    replace Oxh := own_le Oxh hleB
    clear hleB
    generalize w11.alloc (.cells #[.slice (some ⟨gxh, 0, none⟩) nh nh] 32) = w12 at *
    have s12 := zxh
    refine (toHeap_any Ak nk ck k _ (hk.le L0) (by omega)).mono ?_
    rintro e w13 ⟨gxk, rfl, hgxk, Oxk, hle⟩
    have s13 := hle.size
    replace cat := (hle.cell zat).trans cat
    replace cah := (hle.cell zah).trans cah
    replace cak := (hle.cell zak).trans cak
    replace cb00 := (hle.cell zb00).trans cb00
    replace cxt := (hle.cell zxt).trans cxt
    replace cxh := (hle.cell zxh).trans cxh
    replace zat := Nat.lt_of_lt_of_le zat hle.size
    replace zah := Nat.lt_of_lt_of_le zah hle.size
    replace zak := Nat.lt_of_lt_of_le zak hle.size
    replace L0 := L0.trans hle
    replace zb00 := Nat.lt_of_lt_of_le zb00 hle.size
    replace S00 := S00.le hle
    replace Oxt := own_le Oxt hle
    replace zxt := Nat.lt_of_lt_of_le zxt hle.size
    replace Oxh := own_le Oxh hle
    replace zxh := Nat.lt_of_lt_of_le zxh hle.size
    clear hle
    have hbxk := own_lt Oxk
    go_wp2_with fail
    obtain ⟨cxk, zxk, hleB⟩ := box1 w13 (.slice (some ⟨gxk, 0, none⟩) nk nk) 32
    replace cat := (hleB.cell zat).trans cat
    replace cah := (hleB.cell zah).trans cah
    replace cak := (hleB.cell zak).trans cak
    replace cb00 := (hleB.cell zb00).trans cb00
    replace cxt := (hleB.cell zxt).trans cxt
    replace cxh := (hleB.cell zxh).trans cxh
    replace zat := Nat.lt_of_lt_of_le zat hleB.size
    replace zah := Nat.lt_of_lt_of_le zah hleB.size
    replace zak := Nat.lt_of_lt_of_le zak hleB.size
    replace L0 := L0.trans hleB
    replace zb00 := Nat.lt_of_lt_of_le zb00 hleB.size
    replace S00 := S00.le hleB
    replace Oxt := own_le Oxt hleB
    replace zxt := Nat.lt_of_lt_of_le zxt hleB.size
    replace Oxh := own_le Oxh hleB
    replace zxh := Nat.lt_of_lt_of_le zxh hleB.size
    replace Oxk := own_le Oxk hleB
    clear hleB
    generalize w13.alloc (.cells #[.slice (some ⟨gxk, 0, none⟩) nk nk] 32) = w14 at *
    have s14 := zxk
    refine (iJoinHeaps_any _ _ _ _ _ _ _ _ _ t h k _ (Sl.of_own Oxt rfl (by decide) hokt) (Sl.of_own Oxh rfl (by decide) hokh) (Sl.of_own Oxk rfl (by decide) hokk) (by omega) (by omega)).mono ?_
    rintro e w15 ⟨v10, rfl, D10, hle⟩
    have s15 := hle.size
    replace cat := (hle.cell zat).trans cat
    replace cah := (hle.cell zah).trans cah
    replace cak := (hle.cell zak).trans cak
    replace cb00 := (hle.cell zb00).trans cb00
    replace cxt := (hle.cell zxt).trans cxt
    replace cxh := (hle.cell zxh).trans cxh
    replace cxk := (hle.cell zxk).trans cxk
    replace zat := Nat.lt_of_lt_of_le zat hle.size
    replace zah := Nat.lt_of_lt_of_le zah hle.size
    replace zak := Nat.lt_of_lt_of_le zak hle.size
    replace L0 := L0.trans hle
    replace zb00 := Nat.lt_of_lt_of_le zb00 hle.size
    replace S00 := S00.le hle
    replace Oxt := own_le Oxt hle
    replace zxt := Nat.lt_of_lt_of_le zxt hle.size
    replace Oxh := own_le Oxh hle
    replace zxh := Nat.lt_of_lt_of_le zxh hle.size
    replace Oxk := own_le Oxk hle
    replace zxk := Nat.lt_of_lt_of_le zxk hle.size
    clear hle
    obtain ⟨A10, q10, rfl, S10, hB10⟩ := D10.form (by decide)
    have HB10 := Lib.hid hB10; clear hB10
    have okL10 := D10.ok
    have O10 := D10.row; clear S10
    clear D10
    go_wp2_with fail
    obtain ⟨cb10, zb10, hleB⟩ := box1 w15 (.slice A10 (jhX t h k).length q10) 32
    replace cat := (hleB.cell zat).trans cat
    replace cah := (hleB.cell zah).trans cah
    replace cak := (hleB.cell zak).trans cak
    replace cb00 := (hleB.cell zb00).trans cb00
    replace cxt := (hleB.cell zxt).trans cxt
    replace cxh := (hleB.cell zxh).trans cxh
    replace cxk := (hleB.cell zxk).trans cxk
    replace zat := Nat.lt_of_lt_of_le zat hleB.size
    replace zah := Nat.lt_of_lt_of_le zah hleB.size
    replace zak := Nat.lt_of_lt_of_le zak hleB.size
    replace L0 := L0.trans hleB
    replace zb00 := Nat.lt_of_lt_of_le zb00 hleB.size
    replace S00 := S00.le hleB
    replace Oxt := own_le Oxt hleB
    replace zxt := Nat.lt_of_lt_of_le zxt hleB.size
    replace Oxh := own_le Oxh hleB
    replace zxh := Nat.lt_of_lt_of_le zxh hleB.size
    replace Oxk := own_le Oxk hleB
    replace zxk := Nat.lt_of_lt_of_le zxk hleB.size
    replace O10 := own_le O10 hleB
    clear hleB
    generalize w15.alloc (.cells #[.slice A10 (jhX t h k).length q10] 32) = w16 at *
    have s16 := zb10
    refine (eqHeap_self _ _ _ _ _ (jhX t h k) _ (Sl.of_own O10 rfl (by decide) okL10) S00).mono ?_
    rintro e w17 ⟨rfl, hle⟩
    have s17 := hle.size
    replace cat := (hle.cell zat).trans cat
    replace cah := (hle.cell zah).trans cah
    replace cak := (hle.cell zak).trans cak
    replace cb00 := (hle.cell zb00).trans cb00
    replace cxt := (hle.cell zxt).trans cxt
    replace cxh := (hle.cell zxh).trans cxh
    replace cxk := (hle.cell zxk).trans cxk
    replace cb10 := (hle.cell zb10).trans cb10
    replace zat := Nat.lt_of_lt_of_le zat hle.size
    replace zah := Nat.lt_of_lt_of_le zah hle.size
    replace zak := Nat.lt_of_lt_of_le zak hle.size
    replace L0 := L0.trans hle
    replace zb00 := Nat.lt_of_lt_of_le zb00 hle.size
    replace S00 := S00.le hle
    replace Oxt := own_le Oxt hle
    replace zxt := Nat.lt_of_lt_of_le zxt hle.size
    replace Oxh := own_le Oxh hle
    replace zxh := Nat.lt_of_lt_of_le zxh hle.size
    replace Oxk := own_le Oxk hle
    replace zxk := Nat.lt_of_lt_of_le zxk hle.size
    replace O10 := own_le O10 hle
    replace zb10 := Nat.lt_of_lt_of_le zb10 hle.size
    clear hle
    go_wp2_with fail
    replace L0 := L0.drew
    replace S00 := S00.le (Le.refl _).drew
    replace Oxt := Oxt.drew
    replace Oxh := Oxh.drew
    replace Oxk := Oxk.drew
    replace O10 := O10.drew
    go_region_held3 (fun w' => w'.cell? ⟨w.heap.size, 0, none⟩ = some (.slice At nt ct) ∧ w'.cell? ⟨w9.heap.size, 0, none⟩ = some (.slice (some ⟨gxt, 0, none⟩) nt nt))
      (first | exact ⟨cat, cxt⟩)
      (first
      | (go_at_call 11; refine (toTree_any At nt ct t _ (ht.le L0) (by omega)).mono ?_; rintro e w18 ⟨gy, rfl, hgy, Oy, hle⟩; have s18 : w17.heap.size ≤ w18.heap.size := hle.size; replace cat := (hle.cell zat).trans cat; replace cah := (hle.cell zah).trans cah; replace cak := (hle.cell zak).trans cak; replace cb00 := (hle.cell zb00).trans cb00; replace cxt := (hle.cell zxt).trans cxt; replace cxh := (hle.cell zxh).trans cxh; replace cxk := (hle.cell zxk).trans cxk; replace cb10 := (hle.cell zb10).trans cb10; replace zat := Nat.lt_of_lt_of_le zat hle.size; replace zah := Nat.lt_of_lt_of_le zah hle.size; replace zak := Nat.lt_of_lt_of_le zak hle.size; replace L0 := L0.trans hle; replace zb00 := Nat.lt_of_lt_of_le zb00 hle.size; replace S00 := S00.le hle; replace Oxt := own_le Oxt hle; replace zxt := Nat.lt_of_lt_of_le zxt hle.size; replace Oxh := own_le Oxh hle; replace zxh := Nat.lt_of_lt_of_le zxh hle.size; replace Oxk := own_le Oxk hle; replace zxk := Nat.lt_of_lt_of_le zxk hle.size; replace O10 := own_le O10 hle; replace zb10 := Nat.lt_of_lt_of_le zb10 hle.size; clear hle; have Sy := Sl.of_own Oy rfl (by decide) hokt; clear Oy)
      | (go_at_call 15; refine (eqTree_self _ _ _ _ _ t _ (Sl.of_own Oxt rfl (by decide) hokt) Sy).mono ?_; rintro e w19 ⟨rfl, hle⟩; have s19 := hle.size; replace cat := (hle.cell zat).trans cat; replace cah := (hle.cell zah).trans cah; replace cak := (hle.cell zak).trans cak; replace cb00 := (hle.cell zb00).trans cb00; replace cxt := (hle.cell zxt).trans cxt; replace cxh := (hle.cell zxh).trans cxh; replace cxk := (hle.cell zxk).trans cxk; replace cb10 := (hle.cell zb10).trans cb10; replace zat := Nat.lt_of_lt_of_le zat hle.size; replace zah := Nat.lt_of_lt_of_le zah hle.size; replace zak := Nat.lt_of_lt_of_le zak hle.size; replace L0 := L0.trans hle; replace zb00 := Nat.lt_of_lt_of_le zb00 hle.size; replace S00 := S00.le hle; replace Oxt := own_le Oxt hle; replace zxt := Nat.lt_of_lt_of_le zxt hle.size; replace Oxh := own_le Oxh hle; replace zxh := Nat.lt_of_lt_of_le zxh hle.size; replace Oxk := own_le Oxk hle; replace zxk := Nat.lt_of_lt_of_le zxk hle.size; replace O10 := own_le O10 hle; replace zb10 := Nat.lt_of_lt_of_le zb10 hle.size; clear hle Sy))
    go_wp2_with fail
    replace L0 := L0.drew
    replace S00 := S00.le (Le.refl _).drew
    replace Oxt := Oxt.drew
    replace Oxh := Oxh.drew
    replace Oxk := Oxk.drew
    replace O10 := O10.drew
    go_region_held3 (fun w' => w'.cell? ⟨w.heap.size + 1, 0, none⟩ = some (.slice Ah nh ch) ∧ w'.cell? ⟨w11.heap.size, 0, none⟩ = some (.slice (some ⟨gxh, 0, none⟩) nh nh))
      (first | exact ⟨cah, cxh⟩)
      (first
      | (go_at_call 12; refine (toHeap_any Ah nh ch h _ (hh.le L0) (by omega)).mono ?_; rintro e w20 ⟨gy, rfl, hgy, Oy, hle⟩; have s20 : w19.heap.size ≤ w20.heap.size := hle.size; replace cat := (hle.cell zat).trans cat; replace cah := (hle.cell zah).trans cah; replace cak := (hle.cell zak).trans cak; replace cb00 := (hle.cell zb00).trans cb00; replace cxt := (hle.cell zxt).trans cxt; replace cxh := (hle.cell zxh).trans cxh; replace cxk := (hle.cell zxk).trans cxk; replace cb10 := (hle.cell zb10).trans cb10; replace zat := Nat.lt_of_lt_of_le zat hle.size; replace zah := Nat.lt_of_lt_of_le zah hle.size; replace zak := Nat.lt_of_lt_of_le zak hle.size; replace L0 := L0.trans hle; replace zb00 := Nat.lt_of_lt_of_le zb00 hle.size; replace S00 := S00.le hle; replace Oxt := own_le Oxt hle; replace zxt := Nat.lt_of_lt_of_le zxt hle.size; replace Oxh := own_le Oxh hle; replace zxh := Nat.lt_of_lt_of_le zxh hle.size; replace Oxk := own_le Oxk hle; replace zxk := Nat.lt_of_lt_of_le zxk hle.size; replace O10 := own_le O10 hle; replace zb10 := Nat.lt_of_lt_of_le zb10 hle.size; clear hle; have Sy := Sl.of_own Oy rfl (by decide) hokh; clear Oy)
      | (go_at_call 14; refine (eqHeap_self _ _ _ _ _ h _ (Sl.of_own Oxh rfl (by decide) hokh) Sy).mono ?_; rintro e w21 ⟨rfl, hle⟩; have s21 := hle.size; replace cat := (hle.cell zat).trans cat; replace cah := (hle.cell zah).trans cah; replace cak := (hle.cell zak).trans cak; replace cb00 := (hle.cell zb00).trans cb00; replace cxt := (hle.cell zxt).trans cxt; replace cxh := (hle.cell zxh).trans cxh; replace cxk := (hle.cell zxk).trans cxk; replace cb10 := (hle.cell zb10).trans cb10; replace zat := Nat.lt_of_lt_of_le zat hle.size; replace zah := Nat.lt_of_lt_of_le zah hle.size; replace zak := Nat.lt_of_lt_of_le zak hle.size; replace L0 := L0.trans hle; replace zb00 := Nat.lt_of_lt_of_le zb00 hle.size; replace S00 := S00.le hle; replace Oxt := own_le Oxt hle; replace zxt := Nat.lt_of_lt_of_le zxt hle.size; replace Oxh := own_le Oxh hle; replace zxh := Nat.lt_of_lt_of_le zxh hle.size; replace Oxk := own_le Oxk hle; replace zxk := Nat.lt_of_lt_of_le zxk hle.size; replace O10 := own_le O10 hle; replace zb10 := Nat.lt_of_lt_of_le zb10 hle.size; clear hle Sy))
    go_wp2_with fail
    replace L0 := L0.drew
    replace S00 := S00.le (Le.refl _).drew
    replace Oxt := Oxt.drew
    replace Oxh := Oxh.drew
    replace Oxk := Oxk.drew
    replace O10 := O10.drew
    go_region_held3 (fun w' => w'.cell? ⟨w.heap.size + 1 + 1, 0, none⟩ = some (.slice Ak nk ck) ∧ w'.cell? ⟨w13.heap.size, 0, none⟩ = some (.slice (some ⟨gxk, 0, none⟩) nk nk))
      (first | exact ⟨cak, cxk⟩)
      (first
      | (go_at_call 12; refine (toHeap_any Ak nk ck k _ (hk.le L0) (by omega)).mono ?_; rintro e w22 ⟨gy, rfl, hgy, Oy, hle⟩; have s22 : w21.heap.size ≤ w22.heap.size := hle.size; replace cat := (hle.cell zat).trans cat; replace cah := (hle.cell zah).trans cah; replace cak := (hle.cell zak).trans cak; replace cb00 := (hle.cell zb00).trans cb00; replace cxt := (hle.cell zxt).trans cxt; replace cxh := (hle.cell zxh).trans cxh; replace cxk := (hle.cell zxk).trans cxk; replace cb10 := (hle.cell zb10).trans cb10; replace zat := Nat.lt_of_lt_of_le zat hle.size; replace zah := Nat.lt_of_lt_of_le zah hle.size; replace zak := Nat.lt_of_lt_of_le zak hle.size; replace L0 := L0.trans hle; replace zb00 := Nat.lt_of_lt_of_le zb00 hle.size; replace S00 := S00.le hle; replace Oxt := own_le Oxt hle; replace zxt := Nat.lt_of_lt_of_le zxt hle.size; replace Oxh := own_le Oxh hle; replace zxh := Nat.lt_of_lt_of_le zxh hle.size; replace Oxk := own_le Oxk hle; replace zxk := Nat.lt_of_lt_of_le zxk hle.size; replace O10 := own_le O10 hle; replace zb10 := Nat.lt_of_lt_of_le zb10 hle.size; clear hle; have Sy := Sl.of_own Oy rfl (by decide) hokk; clear Oy)
      | (go_at_call 14; refine (eqHeap_self _ _ _ _ _ k _ (Sl.of_own Oxk rfl (by decide) hokk) Sy).mono ?_; rintro e w23 ⟨rfl, hle⟩; have s23 := hle.size; replace cat := (hle.cell zat).trans cat; replace cah := (hle.cell zah).trans cah; replace cak := (hle.cell zak).trans cak; replace cb00 := (hle.cell zb00).trans cb00; replace cxt := (hle.cell zxt).trans cxt; replace cxh := (hle.cell zxh).trans cxh; replace cxk := (hle.cell zxk).trans cxk; replace cb10 := (hle.cell zb10).trans cb10; replace zat := Nat.lt_of_lt_of_le zat hle.size; replace zah := Nat.lt_of_lt_of_le zah hle.size; replace zak := Nat.lt_of_lt_of_le zak hle.size; replace L0 := L0.trans hle; replace zb00 := Nat.lt_of_lt_of_le zb00 hle.size; replace S00 := S00.le hle; replace Oxt := own_le Oxt hle; replace zxt := Nat.lt_of_lt_of_le zxt hle.size; replace Oxh := own_le Oxh hle; replace zxh := Nat.lt_of_lt_of_le zxh hle.size; replace Oxk := own_le Oxk hle; replace zxk := Nat.lt_of_lt_of_le zxk hle.size; replace O10 := own_le O10 hle; replace zb10 := Nat.lt_of_lt_of_le zb10 hle.size; clear hle Sy))
    go_wp2_with fail
    refine (markTree_any _ _ _ _ _ _ _ Oxt (by omega) (by omega) (by omega)).mono ?_
    rintro e w24 ⟨rfl, _, hg⟩
    have s24 := hg.size
    replace cat := hg.cell (a := ⟨w.heap.size, 0, none⟩) cat (fun e => by have e1 : w.heap.size = gxt := (by injection e); omega)
    replace zat := Nat.lt_of_lt_of_le zat hg.size
    replace cah := hg.cell (a := ⟨w.heap.size + 1, 0, none⟩) cah (fun e => by have e1 : w.heap.size + 1 = gxt := (by injection e); omega)
    replace zah := Nat.lt_of_lt_of_le zah hg.size
    replace cak := hg.cell (a := ⟨w.heap.size + 1 + 1, 0, none⟩) cak (fun e => by have e1 : w.heap.size + 1 + 1 = gxt := (by injection e); omega)
    replace zak := Nat.lt_of_lt_of_le zak hg.size
    replace L0 := L0.grown hg (fun k hk => by have e1 : gxt = k := (by injection hk); omega)
    replace cb00 := hg.cell (a := ⟨wb00.heap.size, 0, none⟩) cb00 (fun e => by have e1 : wb00.heap.size = gxt := (by injection e); omega)
    replace zb00 := Nat.lt_of_lt_of_le zb00 hg.size
    replace S00 := S00.grown hg (fun hn a e h => by have h1 := HU00.out hn a e; have h2 : a.block = gxt := (by injection h); omega)
    replace cxt := hg.cell (a := ⟨w9.heap.size, 0, none⟩) cxt (fun e => by have e1 : w9.heap.size = gxt := (by injection e); omega)
    replace zxt := Nat.lt_of_lt_of_le zxt hg.size
    replace Oxh := Oxh.kept hg (.inr (fun e => by have e1 : gxh = gxt := (by injection e); omega))
    replace cxh := hg.cell (a := ⟨w11.heap.size, 0, none⟩) cxh (fun e => by have e1 : w11.heap.size = gxt := (by injection e); omega)
    replace zxh := Nat.lt_of_lt_of_le zxh hg.size
    replace Oxk := Oxk.kept hg (.inr (fun e => by have e1 : gxk = gxt := (by injection e); omega))
    replace cxk := hg.cell (a := ⟨w13.heap.size, 0, none⟩) cxk (fun e => by have e1 : w13.heap.size = gxt := (by injection e); omega)
    replace zxk := Nat.lt_of_lt_of_le zxk hg.size
    replace O10 := O10.kept hg (.inr (fun e => by have e1 : w14.heap.size ≤ gxt ∧ gxt < w15.heap.size := HB10.out _ e; omega))
    replace cb10 := hg.cell (a := ⟨w15.heap.size, 0, none⟩) cb10 (fun e => by have e1 : w15.heap.size = gxt := (by injection e); omega)
    replace zb10 := Nat.lt_of_lt_of_le zb10 hg.size
    clear hg Oxt
    clear cxt zxt
    go_wp2_with fail
    refine (markHeap_any _ _ _ _ _ _ _ Oxh (by omega) (by omega) (by omega)).mono ?_
    rintro e w25 ⟨rfl, _, hg⟩
    have s25 := hg.size
    replace cat := hg.cell (a := ⟨w.heap.size, 0, none⟩) cat (fun e => by have e1 : w.heap.size = gxh := (by injection e); omega)
    replace zat := Nat.lt_of_lt_of_le zat hg.size
    replace cah := hg.cell (a := ⟨w.heap.size + 1, 0, none⟩) cah (fun e => by have e1 : w.heap.size + 1 = gxh := (by injection e); omega)
    replace zah := Nat.lt_of_lt_of_le zah hg.size
    replace cak := hg.cell (a := ⟨w.heap.size + 1 + 1, 0, none⟩) cak (fun e => by have e1 : w.heap.size + 1 + 1 = gxh := (by injection e); omega)
    replace zak := Nat.lt_of_lt_of_le zak hg.size
    replace L0 := L0.grown hg (fun k hk => by have e1 : gxh = k := (by injection hk); omega)
    replace cb00 := hg.cell (a := ⟨wb00.heap.size, 0, none⟩) cb00 (fun e => by have e1 : wb00.heap.size = gxh := (by injection e); omega)
    replace zb00 := Nat.lt_of_lt_of_le zb00 hg.size
    replace S00 := S00.grown hg (fun hn a e h => by have h1 := HU00.out hn a e; have h2 : a.block = gxh := (by injection h); omega)
    replace cxh := hg.cell (a := ⟨w11.heap.size, 0, none⟩) cxh (fun e => by have e1 : w11.heap.size = gxh := (by injection e); omega)
    replace zxh := Nat.lt_of_lt_of_le zxh hg.size
    replace Oxk := Oxk.kept hg (.inr (fun e => by have e1 : gxk = gxh := (by injection e); omega))
    replace cxk := hg.cell (a := ⟨w13.heap.size, 0, none⟩) cxk (fun e => by have e1 : w13.heap.size = gxh := (by injection e); omega)
    replace zxk := Nat.lt_of_lt_of_le zxk hg.size
    replace O10 := O10.kept hg (.inr (fun e => by have e1 : w14.heap.size ≤ gxh ∧ gxh < w15.heap.size := HB10.out _ e; omega))
    replace cb10 := hg.cell (a := ⟨w15.heap.size, 0, none⟩) cb10 (fun e => by have e1 : w15.heap.size = gxh := (by injection e); omega)
    replace zb10 := Nat.lt_of_lt_of_le zb10 hg.size
    clear hg Oxh
    clear cxh zxh
    go_wp2_with fail
    refine (markHeap_any _ _ _ _ _ _ _ Oxk (by omega) (by omega) (by omega)).mono ?_
    rintro e w26 ⟨rfl, _, hg⟩
    have s26 := hg.size
    replace cat := hg.cell (a := ⟨w.heap.size, 0, none⟩) cat (fun e => by have e1 : w.heap.size = gxk := (by injection e); omega)
    replace zat := Nat.lt_of_lt_of_le zat hg.size
    replace cah := hg.cell (a := ⟨w.heap.size + 1, 0, none⟩) cah (fun e => by have e1 : w.heap.size + 1 = gxk := (by injection e); omega)
    replace zah := Nat.lt_of_lt_of_le zah hg.size
    replace cak := hg.cell (a := ⟨w.heap.size + 1 + 1, 0, none⟩) cak (fun e => by have e1 : w.heap.size + 1 + 1 = gxk := (by injection e); omega)
    replace zak := Nat.lt_of_lt_of_le zak hg.size
    replace L0 := L0.grown hg (fun k hk => by have e1 : gxk = k := (by injection hk); omega)
    replace cb00 := hg.cell (a := ⟨wb00.heap.size, 0, none⟩) cb00 (fun e => by have e1 : wb00.heap.size = gxk := (by injection e); omega)
    replace zb00 := Nat.lt_of_lt_of_le zb00 hg.size
    replace S00 := S00.grown hg (fun hn a e h => by have h1 := HU00.out hn a e; have h2 : a.block = gxk := (by injection h); omega)
    replace cxk := hg.cell (a := ⟨w13.heap.size, 0, none⟩) cxk (fun e => by have e1 : w13.heap.size = gxk := (by injection e); omega)
    replace zxk := Nat.lt_of_lt_of_le zxk hg.size
    replace O10 := O10.kept hg (.inr (fun e => by have e1 : w14.heap.size ≤ gxk ∧ gxk < w15.heap.size := HB10.out _ e; omega))
    replace cb10 := hg.cell (a := ⟨w15.heap.size, 0, none⟩) cb10 (fun e => by have e1 : w15.heap.size = gxk := (by injection e); omega)
    replace zb10 := Nat.lt_of_lt_of_le zb10 hg.size
    clear hg Oxk
    clear cxk zxk
    have hkk : decide (1 + 2 * (nt : Int) + 5 * (nh : Int) + 5 * (nk : Int) < 0) = false := decide_eq_false (by omega)
    go_wp2_with fail
    refine (eqHeap_self _ _ _ _ _ (jhX t h k) _ (Sl.of_own O10 rfl (by decide) okL10) S00).mono ?_
    rintro e w27 ⟨rfl, hle⟩
    have s27 := hle.size
    replace cat := (hle.cell zat).trans cat
    replace cah := (hle.cell zah).trans cah
    replace cak := (hle.cell zak).trans cak
    replace cb00 := (hle.cell zb00).trans cb00
    replace cb10 := (hle.cell zb10).trans cb10
    replace zat := Nat.lt_of_lt_of_le zat hle.size
    replace zah := Nat.lt_of_lt_of_le zah hle.size
    replace zak := Nat.lt_of_lt_of_le zak hle.size
    replace L0 := L0.trans hle
    replace zb00 := Nat.lt_of_lt_of_le zb00 hle.size
    replace S00 := S00.le hle
    replace O10 := own_le O10 hle
    replace zb10 := Nat.lt_of_lt_of_le zb10 hle.size
    clear hle
    go_wp2_with fail
    refine (markHeap_any _ _ _ _ _ _ _ O10 (by omega) (by omega) HL0).mono ?_
    rintro e w28 ⟨rfl, Om, hg⟩
    have s28 := hg.size
    replace cat := hg.cell (a := ⟨w.heap.size, 0, none⟩) cat (fun e => by have e1 : w14.heap.size ≤ w.heap.size ∧ w.heap.size < w15.heap.size := HB10.out _ e.symm; omega)
    replace zat := Nat.lt_of_lt_of_le zat hg.size
    replace cah := hg.cell (a := ⟨w.heap.size + 1, 0, none⟩) cah (fun e => by have e1 : w14.heap.size ≤ w.heap.size + 1 ∧ w.heap.size + 1 < w15.heap.size := HB10.out _ e.symm; omega)
    replace zah := Nat.lt_of_lt_of_le zah hg.size
    replace cak := hg.cell (a := ⟨w.heap.size + 1 + 1, 0, none⟩) cak (fun e => by have e1 : w14.heap.size ≤ w.heap.size + 1 + 1 ∧ w.heap.size + 1 + 1 < w15.heap.size := HB10.out _ e.symm; omega)
    replace zak := Nat.lt_of_lt_of_le zak hg.size
    replace L0 := L0.grown hg (fun k hk => by have e1 : w14.heap.size ≤ k ∧ k < w15.heap.size := HB10.out k hk; omega)
    replace cb00 := hg.cell (a := ⟨wb00.heap.size, 0, none⟩) cb00 (fun e => by have e1 : w14.heap.size ≤ wb00.heap.size ∧ wb00.heap.size < w15.heap.size := HB10.out _ e.symm; omega)
    replace zb00 := Nat.lt_of_lt_of_le zb00 hg.size
    replace S00 := S00.grown hg (fun hn a e h => by have h1 := HU00.out hn a e; have h2 : w14.heap.size ≤ a.block ∧ a.block < w15.heap.size := HB10.out _ h.symm; omega)
    replace cb10 := hg.cell (a := ⟨w15.heap.size, 0, none⟩) cb10 (fun e => by have e1 : w14.heap.size ≤ w15.heap.size ∧ w15.heap.size < w15.heap.size := HB10.out _ e.symm; omega)
    replace zb10 := Nat.lt_of_lt_of_le zb10 hg.size
    clear hg O10
    have O10 := Om; clear Om
    go_wp2_with fail
    refine (heldHeap_any _ _ _ _ _ (Sl.of_own O10 rfl (by decide) (mFlt_ok (by omega) (by omega) HL0)) (by omega) (by omega) HL0).mono ?_
    rintro e w29 ⟨rfl, hle⟩
    have s29 := hle.size
    replace cat := (hle.cell zat).trans cat
    replace cah := (hle.cell zah).trans cah
    replace cak := (hle.cell zak).trans cak
    replace cb00 := (hle.cell zb00).trans cb00
    replace cb10 := (hle.cell zb10).trans cb10
    replace zat := Nat.lt_of_lt_of_le zat hle.size
    replace zah := Nat.lt_of_lt_of_le zah hle.size
    replace zak := Nat.lt_of_lt_of_le zak hle.size
    replace L0 := L0.trans hle
    replace zb00 := Nat.lt_of_lt_of_le zb00 hle.size
    replace S00 := S00.le hle
    replace O10 := own_le O10 hle
    replace zb10 := Nat.lt_of_lt_of_le zb10 hle.size
    clear hle
    have hqq0 : decide ((1 : Int) + 5 * ((jhX t h k).length : Int) < 0) = false := decide_eq_false (by omega)
    go_wp2_with fail
    go_cut [18, 19] from 20 (fun s18 s19 wx => ∃ (wb : World) (A : Option Addr) (q : Nat), s18 = .pointer (some ⟨wb.heap.size, 0, none⟩) ∧ s19 = .bool (jhOk t h k) ∧ Le w29 wx ∧ w29.heap.size ≤ wb.heap.size ∧ wb.heap.size < wx.heap.size ∧ wx.cell? ⟨wb.heap.size, 0, none⟩ = some (.slice A (jhX t h k).length q) ∧ wx.ownsRow w29.heap.size 62 5 (.slice A (jhX t h k).length q) (jhX t h k).length ((jhX t h k).flatMap Enc.cells) ∧ (∀ x ∈ jhX t h k, Enc.ok x))
    case first =>
      have yt := zat
      have yh := zah
      have yk := zak
      have LR := Le.refl w29
      have HBA : Hid (∀ x : World, (x.alloc (.cells #[.slice none 0 0] 32)).cell? ⟨x.heap.size, 0, none⟩ = some (.slice none 0 0)) := fun x => by rw [World.cell?_alloc_at _ _ _ _ rfl]; rfl
      have HFA : Hid (∀ x : World, (x.alloc (.cells #[.slice none 0 0] 32)).frozen? ⟨x.heap.size, 0, none⟩ = false) := fun x => World.frozen?_alloc_at _ _ _ _ rfl
      replace L0 := L0.drew
      replace S00 := S00.le (Le.refl _).drew
      replace O10 := O10.drew
      replace LR := LR.drew
      go_region_held3 (fun w' => w'.cell? ⟨w.heap.size, 0, none⟩ = some (.slice At nt ct) ∧ w'.cell? ⟨w.heap.size + 1, 0, none⟩ = some (.slice Ah nh ch) ∧ w'.cell? ⟨w.heap.size + 1 + 1, 0, none⟩ = some (.slice Ak nk ck))
        (first | exact ⟨cat, cah, cak⟩ | exact ⟨((Le.new _ _).cell zat).trans cat, ((Le.new _ _).cell zah).trans cah, ((Le.new _ _).cell zak).trans cak⟩ | exact ⟨(cell_set_other (.inl (by omega))).trans cat, (cell_set_other (.inl (by omega))).trans cah, (cell_set_other (.inl (by omega))).trans cak⟩ | exact ⟨(cell_set_other (.inl (by omega))).trans (((Le.new _ _).cell zat).trans cat), (cell_set_other (.inl (by omega))).trans (((Le.new _ _).cell zah).trans cah), (cell_set_other (.inl (by omega))).trans (((Le.new _ _).cell zak).trans cak)⟩)
        (first
        | (go_at_call 11; refine (toTree_any At nt ct t _ (ht.le L0) (by omega)).mono ?_; rintro e w30 ⟨ght, rfl, hght, Oht, hle⟩; have s30 : w29.heap.size ≤ w30.heap.size := hle.size; replace cat := (hle.cell zat).trans cat; replace cah := (hle.cell zah).trans cah; replace cak := (hle.cell zak).trans cak; replace cb00 := (hle.cell zb00).trans cb00; replace cb10 := (hle.cell zb10).trans cb10; replace zat := Nat.lt_of_lt_of_le zat hle.size; replace zah := Nat.lt_of_lt_of_le zah hle.size; replace zak := Nat.lt_of_lt_of_le zak hle.size; replace L0 := L0.trans hle; replace zb00 := Nat.lt_of_lt_of_le zb00 hle.size; replace S00 := S00.le hle; replace O10 := own_le O10 hle; replace zb10 := Nat.lt_of_lt_of_le zb10 hle.size; replace LR := LR.trans hle; (try replace fbx := (hle.frozen zbx).trans fbx); (try replace cbx := (hle.cell zbx).trans cbx); (try replace zbx := Nat.lt_of_lt_of_le zbx hle.size); clear hle; have hbht := own_lt Oht)
        | (go_at_call 11; have hB := Le.new w29.drew (.cells #[.slice none 0 0] 32); have cbx : (w29.drew.alloc (.cells #[.slice none 0 0] 32)).cell? ⟨w29.heap.size, 0, none⟩ = some (.slice none 0 0) := HBA.out w29.drew; have fbx : (w29.drew.alloc (.cells #[.slice none 0 0] 32)).frozen? ⟨w29.heap.size, 0, none⟩ = false := HFA.out w29.drew; have zbx : w29.heap.size < (w29.drew.alloc (.cells #[.slice none 0 0] 32)).heap.size := Nat.lt_of_lt_of_le (Nat.lt_succ_self _) (Nat.le_of_eq (by simp)); replace cat := (hB.cell zat).trans cat; replace cah := (hB.cell zah).trans cah; replace cak := (hB.cell zak).trans cak; replace cb00 := (hB.cell zb00).trans cb00; replace cb10 := (hB.cell zb10).trans cb10; replace zat := Nat.lt_of_lt_of_le zat hB.size; replace zah := Nat.lt_of_lt_of_le zah hB.size; replace zak := Nat.lt_of_lt_of_le zak hB.size; replace L0 := L0.trans hB; replace zb00 := Nat.lt_of_lt_of_le zb00 hB.size; replace S00 := S00.le hB; replace O10 := own_le O10 hB; replace zb10 := Nat.lt_of_lt_of_le zb10 hB.size; replace LR := LR.trans hB; clear hB; refine (toTree_any At nt ct t _ (ht.le L0) (by omega)).mono ?_; rintro e w30 ⟨ght, rfl, hght, Oht, hle⟩; have s30 : w29.heap.size ≤ w30.heap.size := Nat.le_trans (Le.new _ _).size hle.size; have sx : w29.heap.size < w30.heap.size := Nat.lt_of_lt_of_le zbx hle.size; replace cat := (hle.cell zat).trans cat; replace cah := (hle.cell zah).trans cah; replace cak := (hle.cell zak).trans cak; replace cb00 := (hle.cell zb00).trans cb00; replace cb10 := (hle.cell zb10).trans cb10; replace zat := Nat.lt_of_lt_of_le zat hle.size; replace zah := Nat.lt_of_lt_of_le zah hle.size; replace zak := Nat.lt_of_lt_of_le zak hle.size; replace L0 := L0.trans hle; replace zb00 := Nat.lt_of_lt_of_le zb00 hle.size; replace S00 := S00.le hle; replace O10 := own_le O10 hle; replace zb10 := Nat.lt_of_lt_of_le zb10 hle.size; replace LR := LR.trans hle; (try replace fbx := (hle.frozen zbx).trans fbx); (try replace cbx := (hle.cell zbx).trans cbx); (try replace zbx := Nat.lt_of_lt_of_le zbx hle.size); clear hle; have hbht := own_lt Oht)
        | (go_at_call 12; refine (toHeap_any Ah nh ch h _ (hh.le L0) (by omega)).mono ?_; rintro e w31 ⟨ghh, rfl, hghh, Ohh, hle⟩; have s31 : w30.heap.size ≤ w31.heap.size := hle.size; replace cat := (hle.cell zat).trans cat; replace cah := (hle.cell zah).trans cah; replace cak := (hle.cell zak).trans cak; replace cb00 := (hle.cell zb00).trans cb00; replace cb10 := (hle.cell zb10).trans cb10; replace zat := Nat.lt_of_lt_of_le zat hle.size; replace zah := Nat.lt_of_lt_of_le zah hle.size; replace zak := Nat.lt_of_lt_of_le zak hle.size; replace L0 := L0.trans hle; replace zb00 := Nat.lt_of_lt_of_le zb00 hle.size; replace S00 := S00.le hle; replace O10 := own_le O10 hle; replace zb10 := Nat.lt_of_lt_of_le zb10 hle.size; replace LR := LR.trans hle; replace Oht := own_le Oht hle; (try replace fbx := (hle.frozen zbx).trans fbx); (try replace cbx := (hle.cell zbx).trans cbx); (try replace zbx := Nat.lt_of_lt_of_le zbx hle.size); clear hle; have hbhh := own_lt Ohh)
        | (go_at_call 12; have hB := Le.new w30 (.cells #[.slice none 0 0] 32); have cbx : (w30.alloc (.cells #[.slice none 0 0] 32)).cell? ⟨w30.heap.size, 0, none⟩ = some (.slice none 0 0) := HBA.out w30; have fbx : (w30.alloc (.cells #[.slice none 0 0] 32)).frozen? ⟨w30.heap.size, 0, none⟩ = false := HFA.out w30; have zbx : w30.heap.size < (w30.alloc (.cells #[.slice none 0 0] 32)).heap.size := Nat.lt_of_lt_of_le (Nat.lt_succ_self _) (Nat.le_of_eq (by simp)); replace cat := (hB.cell zat).trans cat; replace cah := (hB.cell zah).trans cah; replace cak := (hB.cell zak).trans cak; replace cb00 := (hB.cell zb00).trans cb00; replace cb10 := (hB.cell zb10).trans cb10; replace zat := Nat.lt_of_lt_of_le zat hB.size; replace zah := Nat.lt_of_lt_of_le zah hB.size; replace zak := Nat.lt_of_lt_of_le zak hB.size; replace L0 := L0.trans hB; replace zb00 := Nat.lt_of_lt_of_le zb00 hB.size; replace S00 := S00.le hB; replace O10 := own_le O10 hB; replace zb10 := Nat.lt_of_lt_of_le zb10 hB.size; replace LR := LR.trans hB; replace Oht := own_le Oht hB; clear hB; refine (toHeap_any Ah nh ch h _ (hh.le L0) (by omega)).mono ?_; rintro e w31 ⟨ghh, rfl, hghh, Ohh, hle⟩; have s31 : w30.heap.size ≤ w31.heap.size := Nat.le_trans (Le.new _ _).size hle.size; have sx : w30.heap.size < w31.heap.size := Nat.lt_of_lt_of_le zbx hle.size; replace cat := (hle.cell zat).trans cat; replace cah := (hle.cell zah).trans cah; replace cak := (hle.cell zak).trans cak; replace cb00 := (hle.cell zb00).trans cb00; replace cb10 := (hle.cell zb10).trans cb10; replace zat := Nat.lt_of_lt_of_le zat hle.size; replace zah := Nat.lt_of_lt_of_le zah hle.size; replace zak := Nat.lt_of_lt_of_le zak hle.size; replace L0 := L0.trans hle; replace zb00 := Nat.lt_of_lt_of_le zb00 hle.size; replace S00 := S00.le hle; replace O10 := own_le O10 hle; replace zb10 := Nat.lt_of_lt_of_le zb10 hle.size; replace LR := LR.trans hle; replace Oht := own_le Oht hle; (try replace fbx := (hle.frozen zbx).trans fbx); (try replace cbx := (hle.cell zbx).trans cbx); (try replace zbx := Nat.lt_of_lt_of_le zbx hle.size); clear hle; have hbhh := own_lt Ohh)
        | (go_at_call 12; refine (toHeap_any Ak nk ck k _ (hk.le L0) (by omega)).mono ?_; rintro e w32 ⟨ghk, rfl, hghk, Ohk, hle⟩; have s32 : w31.heap.size ≤ w32.heap.size := hle.size; replace cat := (hle.cell zat).trans cat; replace cah := (hle.cell zah).trans cah; replace cak := (hle.cell zak).trans cak; replace cb00 := (hle.cell zb00).trans cb00; replace cb10 := (hle.cell zb10).trans cb10; replace zat := Nat.lt_of_lt_of_le zat hle.size; replace zah := Nat.lt_of_lt_of_le zah hle.size; replace zak := Nat.lt_of_lt_of_le zak hle.size; replace L0 := L0.trans hle; replace zb00 := Nat.lt_of_lt_of_le zb00 hle.size; replace S00 := S00.le hle; replace O10 := own_le O10 hle; replace zb10 := Nat.lt_of_lt_of_le zb10 hle.size; replace LR := LR.trans hle; replace Oht := own_le Oht hle; replace Ohh := own_le Ohh hle; (try replace fbx := (hle.frozen zbx).trans fbx); (try replace cbx := (hle.cell zbx).trans cbx); (try replace zbx := Nat.lt_of_lt_of_le zbx hle.size); clear hle; have hbhk := own_lt Ohk)
        | (go_at_call 12; have hB := Le.new w31 (.cells #[.slice none 0 0] 32); have cbx : (w31.alloc (.cells #[.slice none 0 0] 32)).cell? ⟨w31.heap.size, 0, none⟩ = some (.slice none 0 0) := HBA.out w31; have fbx : (w31.alloc (.cells #[.slice none 0 0] 32)).frozen? ⟨w31.heap.size, 0, none⟩ = false := HFA.out w31; have zbx : w31.heap.size < (w31.alloc (.cells #[.slice none 0 0] 32)).heap.size := Nat.lt_of_lt_of_le (Nat.lt_succ_self _) (Nat.le_of_eq (by simp)); replace cat := (hB.cell zat).trans cat; replace cah := (hB.cell zah).trans cah; replace cak := (hB.cell zak).trans cak; replace cb00 := (hB.cell zb00).trans cb00; replace cb10 := (hB.cell zb10).trans cb10; replace zat := Nat.lt_of_lt_of_le zat hB.size; replace zah := Nat.lt_of_lt_of_le zah hB.size; replace zak := Nat.lt_of_lt_of_le zak hB.size; replace L0 := L0.trans hB; replace zb00 := Nat.lt_of_lt_of_le zb00 hB.size; replace S00 := S00.le hB; replace O10 := own_le O10 hB; replace zb10 := Nat.lt_of_lt_of_le zb10 hB.size; replace LR := LR.trans hB; replace Oht := own_le Oht hB; replace Ohh := own_le Ohh hB; clear hB; refine (toHeap_any Ak nk ck k _ (hk.le L0) (by omega)).mono ?_; rintro e w32 ⟨ghk, rfl, hghk, Ohk, hle⟩; have s32 : w31.heap.size ≤ w32.heap.size := Nat.le_trans (Le.new _ _).size hle.size; have sx : w31.heap.size < w32.heap.size := Nat.lt_of_lt_of_le zbx hle.size; replace cat := (hle.cell zat).trans cat; replace cah := (hle.cell zah).trans cah; replace cak := (hle.cell zak).trans cak; replace cb00 := (hle.cell zb00).trans cb00; replace cb10 := (hle.cell zb10).trans cb10; replace zat := Nat.lt_of_lt_of_le zat hle.size; replace zah := Nat.lt_of_lt_of_le zah hle.size; replace zak := Nat.lt_of_lt_of_le zak hle.size; replace L0 := L0.trans hle; replace zb00 := Nat.lt_of_lt_of_le zb00 hle.size; replace S00 := S00.le hle; replace O10 := own_le O10 hle; replace zb10 := Nat.lt_of_lt_of_le zb10 hle.size; replace LR := LR.trans hle; replace Oht := own_le Oht hle; replace Ohh := own_le Ohh hle; (try replace fbx := (hle.frozen zbx).trans fbx); (try replace cbx := (hle.cell zbx).trans cbx); (try replace zbx := Nat.lt_of_lt_of_le zbx hle.size); clear hle; have hbhk := own_lt Ohk)
        | (go_at_call 29; refine (iJoinHeaps_any _ _ _ _ _ _ _ _ _ t h k _ (Sl.of_own Oht rfl (by decide) hokt) (Sl.of_own Ohh rfl (by decide) hokh) (Sl.of_own Ohk rfl (by decide) hokk) (by omega) (by omega)).mono ?_; rintro e w33 ⟨v20, rfl, D20, hle⟩; have s33 : w32.heap.size ≤ w33.heap.size := hle.size; replace cat := (hle.cell zat).trans cat; replace cah := (hle.cell zah).trans cah; replace cak := (hle.cell zak).trans cak; replace cb00 := (hle.cell zb00).trans cb00; replace cb10 := (hle.cell zb10).trans cb10; replace zat := Nat.lt_of_lt_of_le zat hle.size; replace zah := Nat.lt_of_lt_of_le zah hle.size; replace zak := Nat.lt_of_lt_of_le zak hle.size; replace L0 := L0.trans hle; replace zb00 := Nat.lt_of_lt_of_le zb00 hle.size; replace S00 := S00.le hle; replace O10 := own_le O10 hle; replace zb10 := Nat.lt_of_lt_of_le zb10 hle.size; replace LR := LR.trans hle; replace Oht := own_le Oht hle; replace Ohh := own_le Ohh hle; replace Ohk := own_le Ohk hle; (try replace fbx := (hle.frozen zbx).trans fbx); (try replace cbx := (hle.cell zbx).trans cbx); (try replace zbx := Nat.lt_of_lt_of_le zbx hle.size); clear hle; obtain ⟨A20, q20, rfl, S20, hB20⟩ := D20.form (by decide); have cby : (w33.alloc (.cells #[.slice none 0 0] 32)).cell? ⟨w33.heap.size, 0, none⟩ = some (.slice none 0 0) := HBA.out w33; have fby : (w33.alloc (.cells #[.slice none 0 0] 32)).frozen? ⟨w33.heap.size, 0, none⟩ = false := HFA.out w33)
        | (go_at_call 29; have hB := Le.new w32 (.cells #[.slice none 0 0] 32); have cbx : (w32.alloc (.cells #[.slice none 0 0] 32)).cell? ⟨w32.heap.size, 0, none⟩ = some (.slice none 0 0) := HBA.out w32; have fbx : (w32.alloc (.cells #[.slice none 0 0] 32)).frozen? ⟨w32.heap.size, 0, none⟩ = false := HFA.out w32; have zbx : w32.heap.size < (w32.alloc (.cells #[.slice none 0 0] 32)).heap.size := Nat.lt_of_lt_of_le (Nat.lt_succ_self _) (Nat.le_of_eq (by simp)); replace cat := (hB.cell zat).trans cat; replace cah := (hB.cell zah).trans cah; replace cak := (hB.cell zak).trans cak; replace cb00 := (hB.cell zb00).trans cb00; replace cb10 := (hB.cell zb10).trans cb10; replace zat := Nat.lt_of_lt_of_le zat hB.size; replace zah := Nat.lt_of_lt_of_le zah hB.size; replace zak := Nat.lt_of_lt_of_le zak hB.size; replace L0 := L0.trans hB; replace zb00 := Nat.lt_of_lt_of_le zb00 hB.size; replace S00 := S00.le hB; replace O10 := own_le O10 hB; replace zb10 := Nat.lt_of_lt_of_le zb10 hB.size; replace LR := LR.trans hB; replace Oht := own_le Oht hB; replace Ohh := own_le Ohh hB; replace Ohk := own_le Ohk hB; clear hB; refine (iJoinHeaps_any _ _ _ _ _ _ _ _ _ t h k _ (Sl.of_own Oht rfl (by decide) hokt) (Sl.of_own Ohh rfl (by decide) hokh) (Sl.of_own Ohk rfl (by decide) hokk) (by omega) (by omega)).mono ?_; rintro e w33 ⟨v20, rfl, D20, hle⟩; have s33 : w32.heap.size ≤ w33.heap.size := Nat.le_trans (Le.new _ _).size hle.size; have sx : w32.heap.size < w33.heap.size := Nat.lt_of_lt_of_le zbx hle.size; replace cat := (hle.cell zat).trans cat; replace cah := (hle.cell zah).trans cah; replace cak := (hle.cell zak).trans cak; replace cb00 := (hle.cell zb00).trans cb00; replace cb10 := (hle.cell zb10).trans cb10; replace zat := Nat.lt_of_lt_of_le zat hle.size; replace zah := Nat.lt_of_lt_of_le zah hle.size; replace zak := Nat.lt_of_lt_of_le zak hle.size; replace L0 := L0.trans hle; replace zb00 := Nat.lt_of_lt_of_le zb00 hle.size; replace S00 := S00.le hle; replace O10 := own_le O10 hle; replace zb10 := Nat.lt_of_lt_of_le zb10 hle.size; replace LR := LR.trans hle; replace Oht := own_le Oht hle; replace Ohh := own_le Ohh hle; replace Ohk := own_le Ohk hle; (try replace fbx := (hle.frozen zbx).trans fbx); (try replace cbx := (hle.cell zbx).trans cbx); (try replace zbx := Nat.lt_of_lt_of_le zbx hle.size); clear hle; obtain ⟨A20, q20, rfl, S20, hB20⟩ := D20.form (by decide); have cby : (w33.alloc (.cells #[.slice none 0 0] 32)).cell? ⟨w33.heap.size, 0, none⟩ = some (.slice none 0 0) := HBA.out w33; have fby : (w33.alloc (.cells #[.slice none 0 0] 32)).frozen? ⟨w33.heap.size, 0, none⟩ = false := HFA.out w33))
      all_goals (go_wp2_with fail; go_meet)
      all_goals
        first
        | exact ⟨w29, A20, q20, rfl, rfl, LR.setCell (by omega) _, by omega, by simp [World.setCell]; omega, cell_set_same cbx, own_mono (D20.row.kept (grown_set _ _ _ _) (.inr (fun e => by have h1 := (hB20 _ e).1; (try simp at h1); omega))) (by first | omega | (simp; omega)), D20.ok⟩
        | exact ⟨w30, A20, q20, rfl, rfl, LR.setCell (by omega) _, by omega, by simp [World.setCell]; omega, cell_set_same cbx, own_mono (D20.row.kept (grown_set _ _ _ _) (.inr (fun e => by have h1 := (hB20 _ e).1; (try simp at h1); omega))) (by first | omega | (simp; omega)), D20.ok⟩
        | exact ⟨w31, A20, q20, rfl, rfl, LR.setCell (by omega) _, by omega, by simp [World.setCell]; omega, cell_set_same cbx, own_mono (D20.row.kept (grown_set _ _ _ _) (.inr (fun e => by have h1 := (hB20 _ e).1; (try simp at h1); omega))) (by first | omega | (simp; omega)), D20.ok⟩
        | exact ⟨w32, A20, q20, rfl, rfl, LR.setCell (by omega) _, by omega, by simp [World.setCell]; omega, cell_set_same cbx, own_mono (D20.row.kept (grown_set _ _ _ _) (.inr (fun e => by have h1 := (hB20 _ e).1; (try simp at h1); omega))) (by first | omega | (simp; omega)), D20.ok⟩
        | exact ⟨w33, A20, q20, rfl, rfl, LR.trans (Le.new _ _), by omega, by simp, by rw [World.cell?_alloc_at _ _ _ _ rfl]; rfl, own_mono (own_le D20.row (Le.new _ _)) (by omega), D20.ok⟩
    case rest =>
      obtain ⟨wb20, A20, q20, rfl, rfl, hle, hb120, hb220, cb20, O20, okL20⟩ := hcut
      generalize wc = w34 at *
      have s34 := hle.size
      replace cat := (hle.cell zat).trans cat
      replace cah := (hle.cell zah).trans cah
      replace cak := (hle.cell zak).trans cak
      replace cb00 := (hle.cell zb00).trans cb00
      replace cb10 := (hle.cell zb10).trans cb10
      replace zat := Nat.lt_of_lt_of_le zat hle.size
      replace zah := Nat.lt_of_lt_of_le zah hle.size
      replace zak := Nat.lt_of_lt_of_le zak hle.size
      replace L0 := L0.trans hle
      replace zb00 := Nat.lt_of_lt_of_le zb00 hle.size
      replace S00 := S00.le hle
      replace O10 := own_le O10 hle
      replace zb10 := Nat.lt_of_lt_of_le zb10 hle.size
      clear hle
      have zb20 := hb220
      have hB20 := O20.lt
      have HB20 := Lib.hid hB20; clear hB20
      go_wp2_with fail
      refine (eqHeap_self _ _ _ _ _ (jhX t h k) _ (Sl.of_own O20 rfl (by decide) okL20) S00).mono ?_
      rintro e w35 ⟨rfl, hle⟩
      have s35 := hle.size
      replace cat := (hle.cell zat).trans cat
      replace cah := (hle.cell zah).trans cah
      replace cak := (hle.cell zak).trans cak
      replace cb00 := (hle.cell zb00).trans cb00
      replace cb10 := (hle.cell zb10).trans cb10
      replace cb20 := (hle.cell zb20).trans cb20
      replace zat := Nat.lt_of_lt_of_le zat hle.size
      replace zah := Nat.lt_of_lt_of_le zah hle.size
      replace zak := Nat.lt_of_lt_of_le zak hle.size
      replace L0 := L0.trans hle
      replace zb00 := Nat.lt_of_lt_of_le zb00 hle.size
      replace S00 := S00.le hle
      replace O10 := own_le O10 hle
      replace zb10 := Nat.lt_of_lt_of_le zb10 hle.size
      replace zb20 := Nat.lt_of_lt_of_le zb20 hle.size
      replace O20 := own_le O20 hle
      clear hle
      clear O20
      go_wp2_with fail
      refine (heldHeap_any _ _ _ _ _ (Sl.of_own O10 rfl (by decide) (mFlt_ok (by omega) (by omega) HL0)) (by omega) (by omega) HL0).mono ?_
      rintro e w36 ⟨rfl, hle⟩
      have s36 := hle.size
      replace cat := (hle.cell zat).trans cat
      replace cah := (hle.cell zah).trans cah
      replace cak := (hle.cell zak).trans cak
      replace cb00 := (hle.cell zb00).trans cb00
      replace cb10 := (hle.cell zb10).trans cb10
      replace cb20 := (hle.cell zb20).trans cb20
      replace zat := Nat.lt_of_lt_of_le zat hle.size
      replace zah := Nat.lt_of_lt_of_le zah hle.size
      replace zak := Nat.lt_of_lt_of_le zak hle.size
      replace L0 := L0.trans hle
      replace zb00 := Nat.lt_of_lt_of_le zb00 hle.size
      replace S00 := S00.le hle
      replace O10 := own_le O10 hle
      replace zb10 := Nat.lt_of_lt_of_le zb10 hle.size
      replace zb20 := Nat.lt_of_lt_of_le zb20 hle.size
      clear hle
      go_wp2
      go_ret
      exact ⟨rfl, L0⟩
end Go.Proofs.Ytildpenkanlcfaa
