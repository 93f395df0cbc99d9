/- one text of YpG -/
import Derived.Test.YtkcnjoikdalgjaaGreatDoorZp13
import Derived.Test.YtkcnjoikdalgjaaGreatDoorZp8
import Derived.Test.YtkcnjoikdalgjaaGreatDoorZp14
namespace Go.Proofs.YtkcnjoikdalgjaaGreatDoor
open Go.RowKit
set_option linter.unusedVariables false
section
theorem spN_at : ∀ (l : List UInt8) (k : Nat) (h : k < l.length), k < spN l → l[k] = 32
  | [], k, h, _ => absurd h (by simp)
  | c :: r, k, h, hk => by
    rw [spN] at hk
    split at hk
    · rename_i hc
      cases k with
      | zero => exact hc
      | succ k => exact spN_at r k (by simpa using h) (by omega)
    · omega
theorem spN_end : ∀ (l : List UInt8) (h : spN l < l.length), l[spN l] ≠ 32
  | [], h => absurd h (by simp [spN])
  | c :: r, h => by
    by_cases hc : c = 32
    · have e : spN (c :: r) = spN r + 1 := by rw [spN, if_pos hc]; omega
      have := spN_end r (by rw [e] at h; simpa using h)
      simp only [e, List.getElem_cons_succ]; exact this
    · have e : spN (c :: r) = 0 := by rw [spN, if_neg hc]
      simp only [e, List.getElem_cons_zero]; exact hc
theorem lkW_lit (l : List UInt8) : lkF l ((lwL.map tb).map bl) 0 = lkW l := rfl
theorem pLS_eq (xs : List Cls) (l : List UInt8) : pLS xs l = ⟨spN l, lkW (atW (splitL 32 (l.drop (spN l))) 0), lnsA xs (splitL 32 (l.drop (spN l))).length (lkW (atW (splitL 32 (l.drop (spN l))) 0)) (atW (splitL 32 (l.drop (spN l))) 1), lnsB (splitL 32 (l.drop (spN l))).length (lkW (atW (splitL 32 (l.drop (spN l))) 0)) (atW (splitL 32 (l.drop (spN l))) 2)⟩ := rfl
theorem lnsA_c {xs : List Cls} {n : Nat} {k : Int} {w : List UInt8} (h1 : 1 < n) (h2 : k = 2 ∨ k = 8) : lnsA xs n k w = findN xs (tb w) 0 := by unfold lnsA; rw [if_pos ⟨h1, h2⟩]
theorem lnsA_n {xs : List Cls} {n : Nat} {k : Int} {w : List UInt8} (h1 : 1 < n) (h2 : ¬ (k = 2 ∨ k = 8)) : lnsA xs n k w = rdN 100 w := by unfold lnsA; rw [if_neg (fun h => h2 h.2), if_pos h1]
theorem lnsA_0 {xs : List Cls} {n : Nat} {k : Int} {w : List UInt8} (h1 : ¬ 1 < n) : lnsA xs n k w = 0 := by unfold lnsA; rw [if_neg (fun h => h1 h.1), if_neg h1]
theorem lnsB_r {n : Nat} {w : List UInt8} (h1 : 2 < n) : lnsB n 2 w = rdN 100 w := by unfold lnsB; rw [if_pos ⟨h1, rfl⟩]
theorem lnsB_1 {n : Nat} {k : Int} {w : List UInt8} (h1 : 2 < n) (h2 : k ≠ 2) : lnsB n k w = 1 := by unfold lnsB; rw [if_neg (fun h => h2 h.2), if_pos h1]
theorem lnsB_0 {n : Nat} {k : Int} {w : List UInt8} (h1 : ¬ 2 < n) : lnsB n k w = 0 := by unfold lnsB; rw [if_neg (fun h => h1 h.1), if_neg h1]
set_option linter.unusedSimpArgs false in
set_option maxHeartbeats 8000000 in
set_option maxRecDepth 100000 in
theorem sparseLine_any (B : Option Addr) (m c : Nat) (xs : List Cls) (s : ByteArray) (w : World) (hT : Sl w B m c xs) (hs : s.size ≤ 1048576) :
    Calls Tryz.prog 80 #[.agg #[.slice B m c], .string s] w (LinO (pLS xs (bl s)) w) := by
  obtain ⟨z, hz⟩ : ∃ z, Hid (pLS xs (bl s) = z) := ⟨_, Lib.hid rfl⟩
  have PZ := Lib.hid (pLS_eq xs (bl s))
  rw [hz.out] at PZ
  have hnl := spN_le (bl s)
  rw [bl_len] at hnl
  have HSA : Hid (∀ k (h : k < s.size), k < spN (bl s) → s[k] = 32) := fun k h h2 => spN_at (bl s) k (by rw [bl_len]; exact h) h2
  have HSE : Hid (∀ h : spN (bl s) < s.size, s[spN (bl s)] ≠ 32) := fun h => spN_end (bl s) (by rw [bl_len]; exact h)
  have htz : Hid (tb ((bl s).drop (spN (bl s))) = s.extract (spN (bl s)) s.size) := by
    show _ = _
    refine bl_inj ?_
    rw [bl_tb, bl_extract, List.take_of_length_le (by rw [List.length_drop, bl_len]; exact Nat.le_refl _)]
  have hts : (tb ((bl s).drop (spN (bl s)))).size ≤ 1048576 := by
    rw [tb_size, List.length_drop, bl_len]; omega
  have HPC : Hid (∀ x ∈ splitL 32 ((bl s).drop (spN (bl s))), x.length ≤ 1048576) := fun x hx => by
    have := splitL_len2 32 _ x hx
    rw [List.length_drop, bl_len] at this; omega
  have hwl : (splitL 32 ((bl s).drop (spN (bl s)))).length ≤ 1048577 := by
    have h1 := splitL_len 32 ((bl s).drop (spN (bl s)))
    have h2 := List.count_le_length (a := (32 : UInt8)) (l := (bl s).drop (spN (bl s)))
    rw [List.length_drop, bl_len] at h2; omega
  have hp0 : 0 < (splitL 32 ((bl s).drop (spN (bl s)))).length := List.length_pos_iff.2 (splitL_ne 32 _)
  have HPH := Lib.hid (fun W => splitAt_any (tb ((bl s).drop (spN (bl s)))) 32 W hts)
  rw [bl_tb] at HPH
  generalize splitL 32 ((bl s).drop (spN (bl s))) = W at *
  generalize tb ((bl s).drop (spN (bl s))) = tx at *
  generalize spN (bl s) = q at *
  have ekb : Hid (lkF (bl (tb (atW W 0))) ((lwL.map tb).map bl) 0 = lkW (atW W 0)) := lkW_lit _
  have HR1 : Hid (∀ W', Calls Tryz.prog 113 #[.string (tb (atW W 1))] W' fun e w' => e = .returned (.int .i64 (rdN 100 (atW W 1))) ∧ W' = w') := fun W' => readNumber_any (tb (atW W 1)) W' (by rw [tb_size]; exact atW_len HPC.out)
  have HR2 : Hid (∀ W', Calls Tryz.prog 113 #[.string (tb (atW W 2))] W' fun e w' => e = .returned (.int .i64 (rdN 100 (atW W 2))) ∧ W' = w') := fun W' => readNumber_any (tb (atW W 2)) W' (by rw [tb_size]; exact atW_len HPC.out)
  have HKW := Lib.hid (fun W => kindWords_any W)
  unfold KwO at HKW
  go_enter Tryz.func80, Tryz.ntmps80
  go_wp2_with fail
  obtain ⟨W0, hW0, ct, zt, r0, r1, r2, r3, zx, L0⟩ := boxTLn w (.slice B m c) (.int .i64 0) (.int .i64 0) (.int .i64 0) (.int .i64 0) 25 54
  have RA : LinAt W0 (w.heap.size + 1) ⟨0, 0, 0, 0⟩ := by
    have h := linAt_new (w.alloc (.cells #[.slice B m c] 25)) 0 0 0 0 54
    have e : (w.alloc (.cells #[.slice B m c] 25)).heap.size = w.heap.size + 1 := by simp
    rw [e, hW0] at h; exact h
  rw [hW0]
  clear hW0 r0 r1 r2 r3
  have HCT := Lib.hid ct
  have HRA := Lib.hid RA
  clear ct RA
  go_loopw [5] (fun v wr => ∃ k : Nat, k ≤ q ∧ v = .int .i64 k ∧ W0 = wr) (fun v _ => s.size - (intOf v).toNat)
  case atStart => exact ⟨0, Nat.zero_le _, rfl, rfl⟩
  case round =>
    obtain ⟨k, hk, rfl, rfl⟩ := hrel
    by_cases hkq : k < q
    · have hks : k < s.size := by omega
      have hki : (k : Int) < (s.size : Int) := by omega
      have hsk := HSA.out k hks hkq
      have hskn : s[k].toNat = 32 := by rw [hsk]; rfl
      have hkz : ((s[k].toNat : Int) == 32) = true := by rw [hskn]; rfl
      have hwk : IntKind.i64.wrap ((k : Int) + 1) = (k : Int) + 1 := IntWalk.i64_in _ (by omega)
      have hkb : decide ((k : Int) < (s.size : Int)) = true := decide_eq_true hki
      clear HSA HSE hsk hskn HPH HKW HR1 HR2 PZ htz ekb HPC
      go_wp2
      go_roundw
      case rel => exact ⟨k + 1, by omega, by go_num, by first | trivial | rfl⟩
      case measure => simp [intOf]; omega
    · obtain rfl : k = q := by omega
      have ct := HCT.out
      have RA := HRA.out
      rw [htz.out] at HPH
      have hle2 : (s.size : Int) ≤ (s.size : Int) := Int.le_refl _
      have hkl2 : (k : Int) ≤ (s.size : Int) := by omega
      clear HSA hkq HCT HRA htz
      by_cases hks : k < s.size
      · have hsk := HSE.out hks
        have hki : (k : Int) < (s.size : Int) := by omega
        have hkb : decide ((k : Int) < (s.size : Int)) = true := decide_eq_true hki
        have hkz : ((s[k].toNat : Int) == 32) = false := by
          rw [beq_eq_false_iff_ne]; intro e; exact hsk (UInt8.toNat_inj.1 (by show s[k].toNat = 32; omega))
        clear HSE hsk
        go_wp2_with fail
        refine (HPH.out W0).mono ?_
        rintro e w1 ⟨v, rfl, D, hle⟩
        obtain ⟨A1, c1, rfl, S, -⟩ := D.form (by decide)
        have hlm : (W.map tb).length = W.length := List.length_map ..
        obtain ⟨b1, o1, rfl, hb1, k0⟩ := str_at S (k := 0) (by rw [hlm]; exact hp0)
        have HKX : Hid (∀ (i : Nat) (h : i < W.length) W', Le w1 W' → W'.cell? ⟨b1, o1 + i, none⟩ = some (.string (tb (atW W i)))) := fun i h W' hl => by
          obtain ⟨b2, o2, e2, hb2, k2⟩ := str_at S (k := i) (by rw [hlm]; exact h)
          simp only [Option.some.injEq, Addr.mk.injEq, and_true] at e2
          obtain ⟨rfl, rfl⟩ := e2
          rw [(hl.cell hb2).trans k2, List.getElem_map, atW_at h]
        rw [hlm] at S ⊢
        replace RA := RA.le hle
        replace ct := (hle.cell zt).trans ct
        replace zt := Nat.lt_of_lt_of_le zt hle.size
        replace L0 := L0.trans hle
        clear D hle zx HPH k0 S hlm hts
        have k0 : w1.cell? ⟨b1, o1, none⟩ = some (.string (tb (atW W 0))) := by simpa using HKX.out 0 hp0 _ (Le.refl _)
        have HIT : Hid (∀ (b : Nat) (W' : World), Sl W' (some ⟨b, 0, none⟩) 13 13 (lwL.map tb) → Calls Tryz.prog 112 #[.slice (some ⟨b, 0, none⟩) 13 13, .string (tb (atW W 0))] W' fun e w' => e = .returned (.int .i64 (lkW (atW W 0))) ∧ W' = w') := fun b W' h => by
          have := indexTextG_any (some ⟨b, 0, none⟩) 13 13 (lwL.map tb) (tb (atW W 0)) W' h (by omega)
          rw [ekb.out] at this; exact this
        have HCN : Hid (∀ W', Le w1 W' → Calls Tryz.prog 77 #[.slice B m c, .string (tb (atW W 1))] W' fun e w' => e = .returned (.int .i64 (findN xs (tb (atW W 1)) 0)) ∧ W' = w') := fun W' h => classNamed_any B m c xs _ W' (hT.le (L0.trans h))
        have HK1 : Hid (1 < W.length → ∀ W', Le w1 W' → W'.cell? ⟨b1, o1 + 1, none⟩ = some (.string (tb (atW W 1)))) := fun h => HKX.out 1 h
        have HK2 : Hid (2 < W.length → ∀ W', Le w1 W' → W'.cell? ⟨b1, o1 + 2, none⟩ = some (.string (tb (atW W 2)))) := fun h => HKX.out 2 h
        have HAc : Hid (1 < W.length → (lkW (atW W 0) = 2 ∨ lkW (atW W 0) = 8) → lnsA xs W.length (lkW (atW W 0)) (atW W 1) = findN xs (tb (atW W 1)) 0) := fun h1 h2 => lnsA_c h1 h2
        have HAn : Hid (1 < W.length → ¬ (lkW (atW W 0) = 2 ∨ lkW (atW W 0) = 8) → lnsA xs W.length (lkW (atW W 0)) (atW W 1) = rdN 100 (atW W 1)) := fun h1 h2 => lnsA_n h1 h2
        have HA0 : Hid (¬ 1 < W.length → lnsA xs W.length (lkW (atW W 0)) (atW W 1) = 0) := fun h1 => lnsA_0 h1
        have HBr : Hid (2 < W.length → lkW (atW W 0) = 2 → lnsB W.length (lkW (atW W 0)) (atW W 2) = rdN 100 (atW W 2)) := fun h1 h2 => by rw [h2]; exact lnsB_r h1
        have HB1 : Hid (2 < W.length → lkW (atW W 0) ≠ 2 → lnsB W.length (lkW (atW W 0)) (atW W 2) = 1) := fun h1 h2 => lnsB_1 h1 h2
        have HB0 : Hid (¬ 2 < W.length → lnsB W.length (lkW (atW W 0)) (atW W 2) = 0) := fun h1 => lnsB_0 h1
        clear HPC ekb HKX
        generalize lnsA xs W.length (lkW (atW W 0)) (atW W 1) = av at *
        generalize lnsB W.length (lkW (atW W 0)) (atW W 2) = bv at *
        generalize findN xs (tb (atW W 1)) 0 = vc at *
        generalize rdN 100 (atW W 1) = v1 at *
        generalize rdN 100 (atW W 2) = v2 at *
        generalize lkW (atW W 0) = kd at *
        generalize tb (atW W 0) = x0 at *
        generalize tb (atW W 1) = x1 at *
        generalize tb (atW W 2) = x2 at *
        generalize W.length = n at *
        have hp0i : (0 : Int) < (n : Int) := by omega
        have haw : w.heap.size + 1 < w1.heap.size := RA.z
        go_upto_region 5 with fail
        go_cut [7] from 24 (fun z wx => ∃ bx, z = .pointer (some ⟨bx, 0, none⟩) ∧ w1.heap.size ≤ bx ∧ LinAt wx bx ⟨k, kd, 0, 0⟩ ∧ Le w1 wx)
        case first =>
          have HK0 : Hid (∀ W', Le w1 W' → W'.cell? ⟨b1, o1, none⟩ = some (.string x0)) := fun W' h => (h.cell hb1).trans k0
          have LC : Le w1 w1.drew := (Le.refl w1).drew
          clear HR1 HR2 HCN HK1 HK2 HAc HAn HA0 HBr HB1 HB0 PZ ct RA hT
          have HKQ : Hid (∀ W', Le w1 W' → W'.cell? ⟨b1, o1, none⟩ = some (.string x0)) := HK0
          have kd0 : w1.drew.cell? ⟨b1, o1, none⟩ = some (.string x0) := k0
          clear HK0 k0
          refine wp_region_Z (fun w' => w'.cell? ⟨b1, o1, none⟩ = some (.string x0)) [8] (by kernel_rfl) ?_
          have LD := LC
          generalize w1.drew = WD at *
          refine wpAnyZ_take (i := 0) (v := ?_) rfl (by kernel_rfl) (fun _ _ _ h => h) (Or.inl ⟨by rfl, ?_⟩) (kd0) ?_
          rotate_left 1
          · (intro w hSw; (try dsimp only at hSw); go_simp; try with_reducible rfl)
          try simp only [Act.put, List.setIfInBounds_toArray, List.set_cons_zero, List.set_cons_succ]
          refine wpAnyZ_take (i := 2) (v := ?_) rfl (by kernel_rfl) (fun _ _ _ h => h) (Or.inl ⟨by rfl, ?_⟩) (kd0) ?_
          rotate_left 1
          · (intro w hSw; (try dsimp only at hSw); go_simp; try with_reducible rfl)
          try simp only [Act.put, List.setIfInBounds_toArray, List.set_cons_zero, List.set_cons_succ]
          refine wpAnyZ_take (i := 3) (v := ?_) rfl (by kernel_rfl) (fun _ _ _ h => h) (Or.inl ⟨by rfl, ?_⟩) (kd0) ?_
          rotate_left 1
          · (intro w hSw; (try dsimp only at hSw); go_simp; try with_reducible rfl)
          try simp only [Act.put, List.setIfInBounds_toArray, List.set_cons_zero, List.set_cons_succ]
          refine wpAnyZ_take (i := 4) (v := ?_) rfl (by kernel_rfl) (fun _ _ _ h => h) (Or.inl ⟨by rfl, ?_⟩) (kd0) ?_
          rotate_left 1
          · (intro w hSw; (try dsimp only at hSw); go_simp; try with_reducible rfl)
          try simp only [Act.put, List.setIfInBounds_toArray, List.set_cons_zero, List.set_cons_succ]
          refine wpAnyZ_two (i := 1) (k := 7) (by kernel_rfl) (ReadyZ.mk rfl (fun K hK => ?_)) (ReadyZ.mk rfl (fun K hK => ?_))
          · -- A
            go_simp
            go_at_call 98
            refine (HKW.out _).mono ?_
            rintro e w2 ⟨b, rfl, -, hS, -, hle⟩
            have LC := LD.trans hle
            have k2 := HKQ.out _ LC
            clear hle kd0 LD
            dsimp only
            refine hK.out _ _ (fun _ => k2) ?_
            clear hK K
            try simp only [Act.put, List.setIfInBounds_toArray, List.set_cons_zero, List.set_cons_succ]
            refine wpAnyZ_two (i := 5) (k := 7) (by kernel_rfl) (ReadyZ.mk rfl (fun K hK => ?_)) (ReadyZ.mk rfl (fun K hK => ?_))
            · -- A1
              go_simp
              go_at_call 112
              refine (HIT.out _ _ hS).mono ?_
              rintro e w3 ⟨rfl, rfl⟩
              dsimp only
              refine hK.out _ _ (fun _ => k2) ?_
              clear hK K
              try simp only [Act.put, List.setIfInBounds_toArray, List.set_cons_zero, List.set_cons_succ]
              refine wpAnyZ_take (i := 6) (v := ?_) rfl (by kernel_rfl) (fun _ _ _ h => h) (Or.inl ⟨by rfl, ?_⟩) (k2) ?_
              rotate_left 1
              · (intro w hSw; (try dsimp only at hSw); go_simp; try with_reducible rfl)
              try simp only [Act.put, List.setIfInBounds_toArray, List.set_cons_zero, List.set_cons_succ]
              refine wpAnyZ_one (i := 7) (by kernel_rfl) (ReadyZ.mk rfl (fun K hK => ?_))
              go_simp
              refine hK.out _ _ (fun _ => (HKQ.out _ (LC.alloc _))) ?_
              clear hK K
              try simp only [Act.put, List.setIfInBounds_toArray, List.set_cons_zero, List.set_cons_succ]
              refine wpAnyZ_one (i := 8) (by kernel_rfl) (ReadyZ.mk rfl (fun K hK => ?_))
              go_simp
              refine hK.out _ _ (fun h => absurd h (by decide)) ?_
              clear hK K
              try simp only [Act.put, List.setIfInBounds_toArray, List.set_cons_zero, List.set_cons_succ]
              refine wpAnyZ_done (by kernel_rfl) ?_ _
              go_wp2
              go_meet
              exact ⟨_, rfl, LC.size, linAt_new _ _ _ _ _ _, LC.alloc _⟩
            · -- A2
              go_simp
              refine hK.out _ _ (fun _ => (HKQ.out _ (LC.alloc _))) ?_
              clear hK K
              try simp only [Act.put, List.setIfInBounds_toArray, List.set_cons_zero, List.set_cons_succ]
              replace hS := hS.le (Le.new w2 (.cells #[.int .i64 0, .int .i64 0, .int .i64 0, .int .i64 0] 54))
              refine wpAnyZ_one (i := 5) (by kernel_rfl) (ReadyZ.mk rfl (fun K hK => ?_))
              go_simp
              go_at_call 112
              refine (HIT.out _ _ hS).mono ?_
              rintro e w3 ⟨rfl, rfl⟩
              dsimp only
              refine hK.out _ _ (fun _ => (HKQ.out _ (LC.alloc _))) ?_
              clear hK K
              try simp only [Act.put, List.setIfInBounds_toArray, List.set_cons_zero, List.set_cons_succ]
              refine wpAnyZ_take (i := 6) (v := ?_) rfl (by kernel_rfl) (fun _ _ _ h => h) (Or.inl ⟨by rfl, ?_⟩) ((HKQ.out _ (LC.alloc _))) ?_
              rotate_left 1
              · (intro w hSw; (try dsimp only at hSw); go_simp; try with_reducible rfl)
              try simp only [Act.put, List.setIfInBounds_toArray, List.set_cons_zero, List.set_cons_succ]
              refine wpAnyZ_one (i := 8) (by kernel_rfl) (ReadyZ.mk rfl (fun K hK => ?_))
              go_simp
              refine hK.out _ _ (fun h => absurd h (by decide)) ?_
              clear hK K
              try simp only [Act.put, List.setIfInBounds_toArray, List.set_cons_zero, List.set_cons_succ]
              refine wpAnyZ_done (by kernel_rfl) ?_ _
              go_wp2
              go_meet
              exact ⟨_, rfl, LC.size, linAt_new _ _ _ _ _ _, LC.alloc _⟩
          · -- B
            go_simp
            refine hK.out _ _ (fun _ => (HKQ.out _ (LD.alloc _))) ?_
            clear hK K
            try simp only [Act.put, List.setIfInBounds_toArray, List.set_cons_zero, List.set_cons_succ]
            have RX := linAt_new WD 0 0 0 0 54
            have LX := LD.alloc (.cells #[.int .i64 0, .int .i64 0, .int .i64 0, .int .i64 0] 54)
            have szx := LD.size
            refine wpAnyZ_one (i := 1) (by kernel_rfl) (ReadyZ.mk rfl (fun K hK => ?_))
            go_simp
            go_at_call 98
            refine (HKW.out _).mono ?_
            rintro e w2 ⟨b, rfl, -, hS, -, hle⟩
            replace LX := LX.trans hle
            replace RX := RX.le hle
            clear hle
            dsimp only
            refine hK.out _ _ (fun _ => (HKQ.out _ LX)) ?_
            clear hK K
            try simp only [Act.put, List.setIfInBounds_toArray, List.set_cons_zero, List.set_cons_succ]
            refine wpAnyZ_one (i := 5) (by kernel_rfl) (ReadyZ.mk rfl (fun K hK => ?_))
            go_simp
            go_at_call 112
            refine (HIT.out _ _ hS).mono ?_
            rintro e w3 ⟨rfl, rfl⟩
            dsimp only
            refine hK.out _ _ (fun _ => (HKQ.out _ LX)) ?_
            clear hK K
            try simp only [Act.put, List.setIfInBounds_toArray, List.set_cons_zero, List.set_cons_succ]
            refine wpAnyZ_take (i := 6) (v := ?_) rfl (by kernel_rfl) (fun _ _ _ h => h) (Or.inl ⟨by rfl, ?_⟩) ((HKQ.out _ LX)) ?_
            rotate_left 1
            · (intro w hSw; (try dsimp only at hSw); go_simp; try with_reducible rfl)
            try simp only [Act.put, List.setIfInBounds_toArray, List.set_cons_zero, List.set_cons_succ]
            have rx0 := RX.c0
            have rx1 := RX.c1
            have rx2 := RX.c2
            have rx3 := RX.c3
            have rf0 := RX.f 0
            have rf1 := RX.f 1
            have rf2 := RX.f 2
            have rf3 := RX.f 3
            dsimp only at rx0 rx1 rx2 rx3
            refine wpAnyZ_one (i := 8) (by kernel_rfl) (ReadyZ.mk rfl (fun K hK => ?_))
            go_simp
            refine hK.out _ _ (fun h => absurd h (by decide)) ?_
            clear hK K
            try simp only [Act.put, List.setIfInBounds_toArray, List.set_cons_zero, List.set_cons_succ]
            refine wpAnyZ_done (by kernel_rfl) ?_ _
            go_wp2
            go_meet
            exact ⟨_, rfl, szx, (((RX.set0 (k : Int)).set1 kd).set2 0).set3 0, (((LX.setCell (b := WD.heap.size) (o := 0) szx (.int .i64 k)).setCell (b := WD.heap.size) (o := 1) szx (.int .i64 kd)).setCell (b := WD.heap.size) (o := 2) szx (.int .i64 0)).setCell (b := WD.heap.size) (o := 3) szx (.int .i64 0)⟩
        case rest =>
          obtain ⟨bx, rfl, hbx, RB, LW⟩ := hcut
          have RA2 := RA.le LW
          have L1 := L0.trans LW
          have ct1 := (LW.cell zt).trans ct
          have hab : bx ≠ w.heap.size + 1 := by omega
          have hxw : w.heap.size ≤ bx := by omega
          clear RA L0 ct HIT HKW k0
          by_cases h1 : 1 < n
          · have h1a : decide ((1 : Int) < (n : Int)) = true := decide_eq_true (by omega)
            have h1i : (1 : Int) < (n : Int) := by omega
            by_cases hk2 : kd = 2
            · subst hk2
              have hd : True := trivial
              have HA : Hid (av = vc) := HAc.out h1 (by omega)
              have HK1' := Lib.hid (HK1.out h1)
              have p1 := RB.c1
              clear hd
              go_wp2_with fail
              clear p1
              have d0 : wc.drew.cell? ⟨w.heap.size, 0, none⟩ = some (.slice B m c) := ct1
              have d1 : wc.drew.cell? ⟨b1, o1 + 1, none⟩ = some (.string x1) := HK1'.out _ (LW.trans (Le.refl wc).drew)
              have HC := Lib.hid (HCN.out wc.drew (LW.trans (Le.refl wc).drew))
              replace RB := RB.le (Le.refl wc).drew
              replace RA2 := RA2.le (Le.refl wc).drew
              replace L1 := L1.trans (Le.refl wc).drew
              replace LW := LW.trans (Le.refl wc).drew
              replace ct1 := d0
              refine wp_region_Z (fun w' => w'.cell? ⟨w.heap.size, 0, none⟩ = some (.slice B m c) ∧ w'.cell? ⟨b1, o1 + 1, none⟩ = some (.string x1)) [7] (by kernel_rfl) ?_
              generalize wc.drew = WD at *
              have q2 := RB.c2
              have h2 := RB.f 2
              replace RB := RB.set2 vc
              replace RA2 := RA2.other (q := bx) (o := 2) (u := .int .i64 vc) hab
              replace ct1 := (cell_set_other (b := bx) (o := 2) (v := .int .i64 vc) (.inl (by omega))).trans ct1
              replace L1 := L1.setCell (b := bx) (o := 2) hxw (.int .i64 vc)
              replace LW := LW.setCell (b := bx) (o := 2) hbx (.int .i64 vc)
              refine wpAnyZ_take (i := 0) (v := ?_) rfl (by kernel_rfl) (fun _ _ _ h => h) (Or.inl ⟨by rfl, ?_⟩) (⟨d0, d1⟩) ?_
              rotate_left 1
              · (intro w hSw; (try dsimp only at hSw); go_simp; try with_reducible rfl)
              try simp only [Act.put, List.setIfInBounds_toArray, List.set_cons_zero, List.set_cons_succ]
              refine wpAnyZ_take (i := 1) (v := ?_) rfl (by kernel_rfl) (fun _ _ _ h => h) (Or.inl ⟨by rfl, ?_⟩) (⟨d0, d1⟩) ?_
              rotate_left 1
              · (intro w hSw; (try dsimp only at hSw); go_simp; try with_reducible rfl)
              try simp only [Act.put, List.setIfInBounds_toArray, List.set_cons_zero, List.set_cons_succ]
              refine wpAnyZ_take (i := 2) (v := ?_) rfl (by kernel_rfl) (fun _ _ _ h => h) (Or.inl ⟨by rfl, ?_⟩) (⟨d0, d1⟩) ?_
              rotate_left 1
              · (intro w hSw; (try dsimp only at hSw); go_simp; try with_reducible rfl)
              try simp only [Act.put, List.setIfInBounds_toArray, List.set_cons_zero, List.set_cons_succ]
              refine wpAnyZ_take (i := 3) (v := ?_) rfl (by kernel_rfl) (fun _ _ _ h => h) (Or.inl ⟨by rfl, ?_⟩) (⟨d0, d1⟩) ?_
              rotate_left 1
              · (intro w hSw; (try dsimp only at hSw); go_simp; try with_reducible rfl)
              try simp only [Act.put, List.setIfInBounds_toArray, List.set_cons_zero, List.set_cons_succ]
              refine wpAnyZ_take (i := 4) (v := ?_) rfl (by kernel_rfl) (fun _ _ _ h => h) (Or.inl ⟨by rfl, ?_⟩) (⟨d0, d1⟩) ?_
              rotate_left 1
              · (intro w hSw; (try dsimp only at hSw); go_simp; try with_reducible rfl)
              try simp only [Act.put, List.setIfInBounds_toArray, List.set_cons_zero, List.set_cons_succ]
              refine wpAnyZ_one (i := 5) (by kernel_rfl) (ReadyZ.mk rfl (fun K hK => ?_))
              go_simp
              go_at_call 77
              refine HC.out.mono ?_
              rintro e wz ⟨rfl, rfl⟩
              dsimp only
              refine hK.out _ _ (fun _ => ⟨d0, d1⟩) ?_
              clear hK K
              try simp only [Act.put, List.setIfInBounds_toArray, List.set_cons_zero, List.set_cons_succ]
              refine wpAnyZ_take (i := 6) (v := ?_) rfl (by kernel_rfl) (fun _ _ _ h => h) (Or.inl ⟨by rfl, ?_⟩) (⟨d0, d1⟩) ?_
              rotate_left 1
              · (intro w hSw; (try dsimp only at hSw); go_simp; try with_reducible rfl)
              try simp only [Act.put, List.setIfInBounds_toArray, List.set_cons_zero, List.set_cons_succ]
              refine wpAnyZ_one (i := 7) (by kernel_rfl) (ReadyZ.mk rfl (fun K hK => ?_))
              go_simp
              refine hK.out _ _ (fun h => absurd h (by decide)) ?_
              clear hK K
              try simp only [Act.put, List.setIfInBounds_toArray, List.set_cons_zero, List.set_cons_succ]
              refine wpAnyZ_done (by kernel_rfl) ?_ _
              clear d0 d1 q2 h2 HC HK1'
              generalize (WD.setCell ⟨bx, 2, none⟩ (.int .i64 vc)) = WZ at *
              by_cases h2 : 2 < n
              · have h2a : decide ((2 : Int) < (n : Int)) = true := decide_eq_true (by omega)
                have h2i : (2 : Int) < (n : Int) := by omega
                have HZ : Hid (z = ⟨k, 2, vc, v2⟩) := by show _ = _; rw [PZ.out, HA.out, HBr.out h2 (by trivial)]
                have k2 := HK2.out h2 _ LW
                have n1 := RB.c1
                clear PZ h2 HBr HB1 HB0 HAc HAn HA0 HA
                go_wp2_with fail
                refine (HR2.out _).mono ?_
                rintro e w' ⟨rfl, rfl⟩
                clear n1
                have q3 := RB.c3
                have h3 := RB.f 3
                replace RB := RB.set3 v2
                replace RA2 := RA2.other (q := bx) (o := 3) (u := .int .i64 v2) hab
                replace ct1 := (cell_set_other (b := bx) (o := 3) (v := .int .i64 v2) (.inl (by omega))).trans ct1
                replace L1 := L1.setCell (b := bx) (o := 3) hxw (.int .i64 v2)
                replace LW := LW.setCell (b := bx) (o := 3) hbx (.int .i64 v2)
                clear k2
                have n0 := RB.c0
                have n1 := RB.c1
                have n2 := RB.c2
                have n3 := RB.c3
                have S1 := RA2.set0 (k : Int)
                have S2 := S1.set1 2
                have S3 := S2.set2 vc
                have S4 := S3.set3 v2
                have a0 := RA2.c0
                have g0 := RA2.f 0
                have a1 := S1.c1
                have g1 := S1.f 1
                have a2 := S2.c2
                have g2 := S2.f 2
                have a3 := S3.c3
                have g3 := S3.f 3
                have m0 := S4.c0
                have m1 := S4.c1
                have m2 := S4.c2
                have m3 := S4.c3
                have LF := (((L1.setCell (b := w.heap.size + 1) (o := 0) (by omega) (.int .i64 k)).setCell (b := w.heap.size + 1) (o := 1) (by omega) (.int .i64 2)).setCell (b := w.heap.size + 1) (o := 2) (by omega) (.int .i64 vc)).setCell (b := w.heap.size + 1) (o := 3) (by omega) (.int .i64 v2)
                clear RA2 RB S1 S2 S3 S4 L1 ct1 LW
                go_wp2
                exact bodyPost_ret (v := .agg #[.int .i64 k, .int .i64 2, .int .i64 vc, .int .i64 v2]) (by simp [results, Tryz.results80, go_sem, m0, m1, m2, m3]) rfl ⟨by rw [hz.out, HZ.out], LF⟩
              · have h2a : decide ((2 : Int) < (n : Int)) = false := decide_eq_false (by omega)
                have h2i : ¬ (2 : Int) < (n : Int) := by omega
                have HZ : Hid (z = ⟨k, 2, vc, 0⟩) := by show _ = _; rw [PZ.out, HA.out, HB0.out h2]
                have p1 := RB.c1
                clear PZ h2 HBr HB1 HB0 HAc HAn HA0 HA
                have n0 := RB.c0
                have n1 := RB.c1
                have n2 := RB.c2
                have n3 := RB.c3
                have S1 := RA2.set0 (k : Int)
                have S2 := S1.set1 2
                have S3 := S2.set2 vc
                have S4 := S3.set3 0
                have a0 := RA2.c0
                have g0 := RA2.f 0
                have a1 := S1.c1
                have g1 := S1.f 1
                have a2 := S2.c2
                have g2 := S2.f 2
                have a3 := S3.c3
                have g3 := S3.f 3
                have m0 := S4.c0
                have m1 := S4.c1
                have m2 := S4.c2
                have m3 := S4.c3
                have LF := (((L1.setCell (b := w.heap.size + 1) (o := 0) (by omega) (.int .i64 k)).setCell (b := w.heap.size + 1) (o := 1) (by omega) (.int .i64 2)).setCell (b := w.heap.size + 1) (o := 2) (by omega) (.int .i64 vc)).setCell (b := w.heap.size + 1) (o := 3) (by omega) (.int .i64 0)
                clear RA2 RB S1 S2 S3 S4 L1 ct1 LW
                go_wp2
                exact bodyPost_ret (v := .agg #[.int .i64 k, .int .i64 2, .int .i64 vc, .int .i64 0]) (by simp [results, Tryz.results80, go_sem, m0, m1, m2, m3]) rfl ⟨by rw [hz.out, HZ.out], LF⟩
            by_cases hk8 : kd = 8
            · subst hk8
              have hd : True := trivial
              have HA : Hid (av = vc) := HAc.out h1 (by omega)
              have HK1' := Lib.hid (HK1.out h1)
              have p1 := RB.c1
              clear hd
              go_wp2_with fail
              clear p1
              have d0 : wc.drew.cell? ⟨w.heap.size, 0, none⟩ = some (.slice B m c) := ct1
              have d1 : wc.drew.cell? ⟨b1, o1 + 1, none⟩ = some (.string x1) := HK1'.out _ (LW.trans (Le.refl wc).drew)
              have HC := Lib.hid (HCN.out wc.drew (LW.trans (Le.refl wc).drew))
              replace RB := RB.le (Le.refl wc).drew
              replace RA2 := RA2.le (Le.refl wc).drew
              replace L1 := L1.trans (Le.refl wc).drew
              replace LW := LW.trans (Le.refl wc).drew
              replace ct1 := d0
              refine wp_region_Z (fun w' => w'.cell? ⟨w.heap.size, 0, none⟩ = some (.slice B m c) ∧ w'.cell? ⟨b1, o1 + 1, none⟩ = some (.string x1)) [7] (by kernel_rfl) ?_
              generalize wc.drew = WD at *
              have q2 := RB.c2
              have h2 := RB.f 2
              replace RB := RB.set2 vc
              replace RA2 := RA2.other (q := bx) (o := 2) (u := .int .i64 vc) hab
              replace ct1 := (cell_set_other (b := bx) (o := 2) (v := .int .i64 vc) (.inl (by omega))).trans ct1
              replace L1 := L1.setCell (b := bx) (o := 2) hxw (.int .i64 vc)
              replace LW := LW.setCell (b := bx) (o := 2) hbx (.int .i64 vc)
              refine wpAnyZ_take (i := 0) (v := ?_) rfl (by kernel_rfl) (fun _ _ _ h => h) (Or.inl ⟨by rfl, ?_⟩) (⟨d0, d1⟩) ?_
              rotate_left 1
              · (intro w hSw; (try dsimp only at hSw); go_simp; try with_reducible rfl)
              try simp only [Act.put, List.setIfInBounds_toArray, List.set_cons_zero, List.set_cons_succ]
              refine wpAnyZ_take (i := 1) (v := ?_) rfl (by kernel_rfl) (fun _ _ _ h => h) (Or.inl ⟨by rfl, ?_⟩) (⟨d0, d1⟩) ?_
              rotate_left 1
              · (intro w hSw; (try dsimp only at hSw); go_simp; try with_reducible rfl)
              try simp only [Act.put, List.setIfInBounds_toArray, List.set_cons_zero, List.set_cons_succ]
              refine wpAnyZ_take (i := 2) (v := ?_) rfl (by kernel_rfl) (fun _ _ _ h => h) (Or.inl ⟨by rfl, ?_⟩) (⟨d0, d1⟩) ?_
              rotate_left 1
              · (intro w hSw; (try dsimp only at hSw); go_simp; try with_reducible rfl)
              try simp only [Act.put, List.setIfInBounds_toArray, List.set_cons_zero, List.set_cons_succ]
              refine wpAnyZ_take (i := 3) (v := ?_) rfl (by kernel_rfl) (fun _ _ _ h => h) (Or.inl ⟨by rfl, ?_⟩) (⟨d0, d1⟩) ?_
              rotate_left 1
              · (intro w hSw; (try dsimp only at hSw); go_simp; try with_reducible rfl)
              try simp only [Act.put, List.setIfInBounds_toArray, List.set_cons_zero, List.set_cons_succ]
              refine wpAnyZ_take (i := 4) (v := ?_) rfl (by kernel_rfl) (fun _ _ _ h => h) (Or.inl ⟨by rfl, ?_⟩) (⟨d0, d1⟩) ?_
              rotate_left 1
              · (intro w hSw; (try dsimp only at hSw); go_simp; try with_reducible rfl)
              try simp only [Act.put, List.setIfInBounds_toArray, List.set_cons_zero, List.set_cons_succ]
              refine wpAnyZ_one (i := 5) (by kernel_rfl) (ReadyZ.mk rfl (fun K hK => ?_))
              go_simp
              go_at_call 77
              refine HC.out.mono ?_
              rintro e wz ⟨rfl, rfl⟩
              dsimp only
              refine hK.out _ _ (fun _ => ⟨d0, d1⟩) ?_
              clear hK K
              try simp only [Act.put, List.setIfInBounds_toArray, List.set_cons_zero, List.set_cons_succ]
              refine wpAnyZ_take (i := 6) (v := ?_) rfl (by kernel_rfl) (fun _ _ _ h => h) (Or.inl ⟨by rfl, ?_⟩) (⟨d0, d1⟩) ?_
              rotate_left 1
              · (intro w hSw; (try dsimp only at hSw); go_simp; try with_reducible rfl)
              try simp only [Act.put, List.setIfInBounds_toArray, List.set_cons_zero, List.set_cons_succ]
              refine wpAnyZ_one (i := 7) (by kernel_rfl) (ReadyZ.mk rfl (fun K hK => ?_))
              go_simp
              refine hK.out _ _ (fun h => absurd h (by decide)) ?_
              clear hK K
              try simp only [Act.put, List.setIfInBounds_toArray, List.set_cons_zero, List.set_cons_succ]
              refine wpAnyZ_done (by kernel_rfl) ?_ _
              clear d0 d1 q2 h2 HC HK1'
              generalize (WD.setCell ⟨bx, 2, none⟩ (.int .i64 vc)) = WZ at *
              by_cases h2 : 2 < n
              · have h2a : decide ((2 : Int) < (n : Int)) = true := decide_eq_true (by omega)
                have h2i : (2 : Int) < (n : Int) := by omega
                have HZ : Hid (z = ⟨k, 8, vc, 1⟩) := by show _ = _; rw [PZ.out, HA.out, HB1.out h2 (by omega)]
                have n1 := RB.c1
                clear PZ h2 HBr HB1 HB0 HAc HAn HA0 HA n1
                have p1 := RB.c1
                have q3 := RB.c3
                have h3 := RB.f 3
                replace RB := RB.set3 1
                replace RA2 := RA2.other (q := bx) (o := 3) (u := .int .i64 1) hab
                replace ct1 := (cell_set_other (b := bx) (o := 3) (v := .int .i64 1) (.inl (by omega))).trans ct1
                replace L1 := L1.setCell (b := bx) (o := 3) hxw (.int .i64 1)
                replace LW := LW.setCell (b := bx) (o := 3) hbx (.int .i64 1)
                have n0 := RB.c0
                have n1 := RB.c1
                have n2 := RB.c2
                have n3 := RB.c3
                have S1 := RA2.set0 (k : Int)
                have S2 := S1.set1 8
                have S3 := S2.set2 vc
                have S4 := S3.set3 1
                have a0 := RA2.c0
                have g0 := RA2.f 0
                have a1 := S1.c1
                have g1 := S1.f 1
                have a2 := S2.c2
                have g2 := S2.f 2
                have a3 := S3.c3
                have g3 := S3.f 3
                have m0 := S4.c0
                have m1 := S4.c1
                have m2 := S4.c2
                have m3 := S4.c3
                have LF := (((L1.setCell (b := w.heap.size + 1) (o := 0) (by omega) (.int .i64 k)).setCell (b := w.heap.size + 1) (o := 1) (by omega) (.int .i64 8)).setCell (b := w.heap.size + 1) (o := 2) (by omega) (.int .i64 vc)).setCell (b := w.heap.size + 1) (o := 3) (by omega) (.int .i64 1)
                clear RA2 RB S1 S2 S3 S4 L1 ct1 LW
                go_wp2
                exact bodyPost_ret (v := .agg #[.int .i64 k, .int .i64 8, .int .i64 vc, .int .i64 1]) (by simp [results, Tryz.results80, go_sem, m0, m1, m2, m3]) rfl ⟨by rw [hz.out, HZ.out], LF⟩
              · have h2a : decide ((2 : Int) < (n : Int)) = false := decide_eq_false (by omega)
                have h2i : ¬ (2 : Int) < (n : Int) := by omega
                have HZ : Hid (z = ⟨k, 8, vc, 0⟩) := by show _ = _; rw [PZ.out, HA.out, HB0.out h2]
                have p1 := RB.c1
                clear PZ h2 HBr HB1 HB0 HAc HAn HA0 HA
                have n0 := RB.c0
                have n1 := RB.c1
                have n2 := RB.c2
                have n3 := RB.c3
                have S1 := RA2.set0 (k : Int)
                have S2 := S1.set1 8
                have S3 := S2.set2 vc
                have S4 := S3.set3 0
                have a0 := RA2.c0
                have g0 := RA2.f 0
                have a1 := S1.c1
                have g1 := S1.f 1
                have a2 := S2.c2
                have g2 := S2.f 2
                have a3 := S3.c3
                have g3 := S3.f 3
                have m0 := S4.c0
                have m1 := S4.c1
                have m2 := S4.c2
                have m3 := S4.c3
                have LF := (((L1.setCell (b := w.heap.size + 1) (o := 0) (by omega) (.int .i64 k)).setCell (b := w.heap.size + 1) (o := 1) (by omega) (.int .i64 8)).setCell (b := w.heap.size + 1) (o := 2) (by omega) (.int .i64 vc)).setCell (b := w.heap.size + 1) (o := 3) (by omega) (.int .i64 0)
                clear RA2 RB S1 S2 S3 S4 L1 ct1 LW
                go_wp2
                exact bodyPost_ret (v := .agg #[.int .i64 k, .int .i64 8, .int .i64 vc, .int .i64 0]) (by simp [results, Tryz.results80, go_sem, m0, m1, m2, m3]) rfl ⟨by rw [hz.out, HZ.out], LF⟩
            have HA : Hid (av = v1) := HAn.out h1 (by omega)
            have hb2 : (kd == 2) = false := by rw [beq_eq_false_iff_ne]; exact hk2
            have hb8 : (kd == 8) = false := by rw [beq_eq_false_iff_ne]; exact hk8
            have k1 := HK1.out h1 _ LW
            have p1 := RB.c1
            clear hk8
            go_wp2_with fail
            refine (HR1.out _).mono ?_
            rintro e w' ⟨rfl, rfl⟩
            clear p1 k1
            have q2 := RB.c2
            have h2 := RB.f 2
            replace RB := RB.set2 v1
            replace RA2 := RA2.other (q := bx) (o := 2) (u := .int .i64 v1) hab
            replace ct1 := (cell_set_other (b := bx) (o := 2) (v := .int .i64 v1) (.inl (by omega))).trans ct1
            replace L1 := L1.setCell (b := bx) (o := 2) hxw (.int .i64 v1)
            replace LW := LW.setCell (b := bx) (o := 2) hbx (.int .i64 v1)
            by_cases h2 : 2 < n
            · have h2a : decide ((2 : Int) < (n : Int)) = true := decide_eq_true (by omega)
              have h2i : (2 : Int) < (n : Int) := by omega
              have HZ : Hid (z = ⟨k, kd, v1, 1⟩) := by show _ = _; rw [PZ.out, HA.out, HB1.out h2 (by omega)]
              have n1 := RB.c1
              clear PZ h2 HBr HB1 HB0 HAc HAn HA0 HA n1
              have p1 := RB.c1
              have q3 := RB.c3
              have h3 := RB.f 3
              replace RB := RB.set3 1
              replace RA2 := RA2.other (q := bx) (o := 3) (u := .int .i64 1) hab
              replace ct1 := (cell_set_other (b := bx) (o := 3) (v := .int .i64 1) (.inl (by omega))).trans ct1
              replace L1 := L1.setCell (b := bx) (o := 3) hxw (.int .i64 1)
              replace LW := LW.setCell (b := bx) (o := 3) hbx (.int .i64 1)
              have n0 := RB.c0
              have n1 := RB.c1
              have n2 := RB.c2
              have n3 := RB.c3
              have S1 := RA2.set0 (k : Int)
              have S2 := S1.set1 kd
              have S3 := S2.set2 v1
              have S4 := S3.set3 1
              have a0 := RA2.c0
              have g0 := RA2.f 0
              have a1 := S1.c1
              have g1 := S1.f 1
              have a2 := S2.c2
              have g2 := S2.f 2
              have a3 := S3.c3
              have g3 := S3.f 3
              have m0 := S4.c0
              have m1 := S4.c1
              have m2 := S4.c2
              have m3 := S4.c3
              have LF := (((L1.setCell (b := w.heap.size + 1) (o := 0) (by omega) (.int .i64 k)).setCell (b := w.heap.size + 1) (o := 1) (by omega) (.int .i64 kd)).setCell (b := w.heap.size + 1) (o := 2) (by omega) (.int .i64 v1)).setCell (b := w.heap.size + 1) (o := 3) (by omega) (.int .i64 1)
              clear RA2 RB S1 S2 S3 S4 L1 ct1 LW
              go_wp2
              exact bodyPost_ret (v := .agg #[.int .i64 k, .int .i64 kd, .int .i64 v1, .int .i64 1]) (by simp [results, Tryz.results80, go_sem, m0, m1, m2, m3]) rfl ⟨by rw [hz.out, HZ.out], LF⟩
            · have h2a : decide ((2 : Int) < (n : Int)) = false := decide_eq_false (by omega)
              have h2i : ¬ (2 : Int) < (n : Int) := by omega
              have HZ : Hid (z = ⟨k, kd, v1, 0⟩) := by show _ = _; rw [PZ.out, HA.out, HB0.out h2]
              have p1 := RB.c1
              clear PZ h2 HBr HB1 HB0 HAc HAn HA0 HA
              have n0 := RB.c0
              have n1 := RB.c1
              have n2 := RB.c2
              have n3 := RB.c3
              have S1 := RA2.set0 (k : Int)
              have S2 := S1.set1 kd
              have S3 := S2.set2 v1
              have S4 := S3.set3 0
              have a0 := RA2.c0
              have g0 := RA2.f 0
              have a1 := S1.c1
              have g1 := S1.f 1
              have a2 := S2.c2
              have g2 := S2.f 2
              have a3 := S3.c3
              have g3 := S3.f 3
              have m0 := S4.c0
              have m1 := S4.c1
              have m2 := S4.c2
              have m3 := S4.c3
              have LF := (((L1.setCell (b := w.heap.size + 1) (o := 0) (by omega) (.int .i64 k)).setCell (b := w.heap.size + 1) (o := 1) (by omega) (.int .i64 kd)).setCell (b := w.heap.size + 1) (o := 2) (by omega) (.int .i64 v1)).setCell (b := w.heap.size + 1) (o := 3) (by omega) (.int .i64 0)
              clear RA2 RB S1 S2 S3 S4 L1 ct1 LW
              go_wp2
              exact bodyPost_ret (v := .agg #[.int .i64 k, .int .i64 kd, .int .i64 v1, .int .i64 0]) (by simp [results, Tryz.results80, go_sem, m0, m1, m2, m3]) rfl ⟨by rw [hz.out, HZ.out], LF⟩
          · have h1a : decide ((1 : Int) < (n : Int)) = false := decide_eq_false (by omega)
            have h1i : ¬ (1 : Int) < (n : Int) := by omega
            have h2a : decide ((2 : Int) < (n : Int)) = false := decide_eq_false (by omega)
            have h2i : ¬ (2 : Int) < (n : Int) := by omega
            have HZ : Hid (z = ⟨k, kd, 0, 0⟩) := by show _ = _; rw [PZ.out, HA0.out h1, HB0.out (by omega)]
            clear PZ h1 HBr HB1 HB0 HAc HAn HA0
            have n0 := RB.c0
            have n1 := RB.c1
            have n2 := RB.c2
            have n3 := RB.c3
            have S1 := RA2.set0 (k : Int)
            have S2 := S1.set1 kd
            have S3 := S2.set2 0
            have S4 := S3.set3 0
            have a0 := RA2.c0
            have g0 := RA2.f 0
            have a1 := S1.c1
            have g1 := S1.f 1
            have a2 := S2.c2
            have g2 := S2.f 2
            have a3 := S3.c3
            have g3 := S3.f 3
            have m0 := S4.c0
            have m1 := S4.c1
            have m2 := S4.c2
            have m3 := S4.c3
            have LF := (((L1.setCell (b := w.heap.size + 1) (o := 0) (by omega) (.int .i64 k)).setCell (b := w.heap.size + 1) (o := 1) (by omega) (.int .i64 kd)).setCell (b := w.heap.size + 1) (o := 2) (by omega) (.int .i64 0)).setCell (b := w.heap.size + 1) (o := 3) (by omega) (.int .i64 0)
            clear RA2 RB S1 S2 S3 S4 L1 ct1 LW
            go_wp2
            exact bodyPost_ret (v := .agg #[.int .i64 k, .int .i64 kd, .int .i64 0, .int .i64 0]) (by simp [results, Tryz.results80, go_sem, m0, m1, m2, m3]) rfl ⟨by rw [hz.out, HZ.out], LF⟩
      · have hki : ¬ (k : Int) < (s.size : Int) := by omega
        have hkb : decide ((k : Int) < (s.size : Int)) = false := decide_eq_false hki
        clear HSE
        go_wp2_with fail
        refine (HPH.out W0).mono ?_
        rintro e w1 ⟨v, rfl, D, hle⟩
        obtain ⟨A1, c1, rfl, S, -⟩ := D.form (by decide)
        have hlm : (W.map tb).length = W.length := List.length_map ..
        obtain ⟨b1, o1, rfl, hb1, k0⟩ := str_at S (k := 0) (by rw [hlm]; exact hp0)
        have HKX : Hid (∀ (i : Nat) (h : i < W.length) W', Le w1 W' → W'.cell? ⟨b1, o1 + i, none⟩ = some (.string (tb (atW W i)))) := fun i h W' hl => by
          obtain ⟨b2, o2, e2, hb2, k2⟩ := str_at S (k := i) (by rw [hlm]; exact h)
          simp only [Option.some.injEq, Addr.mk.injEq, and_true] at e2
          obtain ⟨rfl, rfl⟩ := e2
          rw [(hl.cell hb2).trans k2, List.getElem_map, atW_at h]
        rw [hlm] at S ⊢
        replace RA := RA.le hle
        replace ct := (hle.cell zt).trans ct
        replace zt := Nat.lt_of_lt_of_le zt hle.size
        replace L0 := L0.trans hle
        clear D hle zx HPH k0 S hlm hts
        have k0 : w1.cell? ⟨b1, o1, none⟩ = some (.string (tb (atW W 0))) := by simpa using HKX.out 0 hp0 _ (Le.refl _)
        have HIT : Hid (∀ (b : Nat) (W' : World), Sl W' (some ⟨b, 0, none⟩) 13 13 (lwL.map tb) → Calls Tryz.prog 112 #[.slice (some ⟨b, 0, none⟩) 13 13, .string (tb (atW W 0))] W' fun e w' => e = .returned (.int .i64 (lkW (atW W 0))) ∧ W' = w') := fun b W' h => by
          have := indexTextG_any (some ⟨b, 0, none⟩) 13 13 (lwL.map tb) (tb (atW W 0)) W' h (by omega)
          rw [ekb.out] at this; exact this
        have HCN : Hid (∀ W', Le w1 W' → Calls Tryz.prog 77 #[.slice B m c, .string (tb (atW W 1))] W' fun e w' => e = .returned (.int .i64 (findN xs (tb (atW W 1)) 0)) ∧ W' = w') := fun W' h => classNamed_any B m c xs _ W' (hT.le (L0.trans h))
        have HK1 : Hid (1 < W.length → ∀ W', Le w1 W' → W'.cell? ⟨b1, o1 + 1, none⟩ = some (.string (tb (atW W 1)))) := fun h => HKX.out 1 h
        have HK2 : Hid (2 < W.length → ∀ W', Le w1 W' → W'.cell? ⟨b1, o1 + 2, none⟩ = some (.string (tb (atW W 2)))) := fun h => HKX.out 2 h
        have HAc : Hid (1 < W.length → (lkW (atW W 0) = 2 ∨ lkW (atW W 0) = 8) → lnsA xs W.length (lkW (atW W 0)) (atW W 1) = findN xs (tb (atW W 1)) 0) := fun h1 h2 => lnsA_c h1 h2
        have HAn : Hid (1 < W.length → ¬ (lkW (atW W 0) = 2 ∨ lkW (atW W 0) = 8) → lnsA xs W.length (lkW (atW W 0)) (atW W 1) = rdN 100 (atW W 1)) := fun h1 h2 => lnsA_n h1 h2
        have HA0 : Hid (¬ 1 < W.length → lnsA xs W.length (lkW (atW W 0)) (atW W 1) = 0) := fun h1 => lnsA_0 h1
        have HBr : Hid (2 < W.length → lkW (atW W 0) = 2 → lnsB W.length (lkW (atW W 0)) (atW W 2) = rdN 100 (atW W 2)) := fun h1 h2 => by rw [h2]; exact lnsB_r h1
        have HB1 : Hid (2 < W.length → lkW (atW W 0) ≠ 2 → lnsB W.length (lkW (atW W 0)) (atW W 2) = 1) := fun h1 h2 => lnsB_1 h1 h2
        have HB0 : Hid (¬ 2 < W.length → lnsB W.length (lkW (atW W 0)) (atW W 2) = 0) := fun h1 => lnsB_0 h1
        clear HPC ekb HKX
        generalize lnsA xs W.length (lkW (atW W 0)) (atW W 1) = av at *
        generalize lnsB W.length (lkW (atW W 0)) (atW W 2) = bv at *
        generalize findN xs (tb (atW W 1)) 0 = vc at *
        generalize rdN 100 (atW W 1) = v1 at *
        generalize rdN 100 (atW W 2) = v2 at *
        generalize lkW (atW W 0) = kd at *
        generalize tb (atW W 0) = x0 at *
        generalize tb (atW W 1) = x1 at *
        generalize tb (atW W 2) = x2 at *
        generalize W.length = n at *
        have hp0i : (0 : Int) < (n : Int) := by omega
        have haw : w.heap.size + 1 < w1.heap.size := RA.z
        go_upto_region 5 with fail
        go_cut [7] from 24 (fun z wx => ∃ bx, z = .pointer (some ⟨bx, 0, none⟩) ∧ w1.heap.size ≤ bx ∧ LinAt wx bx ⟨k, kd, 0, 0⟩ ∧ Le w1 wx)
        case first =>
          have HK0 : Hid (∀ W', Le w1 W' → W'.cell? ⟨b1, o1, none⟩ = some (.string x0)) := fun W' h => (h.cell hb1).trans k0
          have LC : Le w1 w1.drew := (Le.refl w1).drew
          clear HR1 HR2 HCN HK1 HK2 HAc HAn HA0 HBr HB1 HB0 PZ ct RA hT
          have HKQ : Hid (∀ W', Le w1 W' → W'.cell? ⟨b1, o1, none⟩ = some (.string x0)) := HK0
          have kd0 : w1.drew.cell? ⟨b1, o1, none⟩ = some (.string x0) := k0
          clear HK0 k0
          refine wp_region_Z (fun w' => w'.cell? ⟨b1, o1, none⟩ = some (.string x0)) [8] (by kernel_rfl) ?_
          have LD := LC
          generalize w1.drew = WD at *
          refine wpAnyZ_take (i := 0) (v := ?_) rfl (by kernel_rfl) (fun _ _ _ h => h) (Or.inl ⟨by rfl, ?_⟩) (kd0) ?_
          rotate_left 1
          · (intro w hSw; (try dsimp only at hSw); go_simp; try with_reducible rfl)
          try simp only [Act.put, List.setIfInBounds_toArray, List.set_cons_zero, List.set_cons_succ]
          refine wpAnyZ_take (i := 2) (v := ?_) rfl (by kernel_rfl) (fun _ _ _ h => h) (Or.inl ⟨by rfl, ?_⟩) (kd0) ?_
          rotate_left 1
          · (intro w hSw; (try dsimp only at hSw); go_simp; try with_reducible rfl)
          try simp only [Act.put, List.setIfInBounds_toArray, List.set_cons_zero, List.set_cons_succ]
          refine wpAnyZ_take (i := 3) (v := ?_) rfl (by kernel_rfl) (fun _ _ _ h => h) (Or.inl ⟨by rfl, ?_⟩) (kd0) ?_
          rotate_left 1
          · (intro w hSw; (try dsimp only at hSw); go_simp; try with_reducible rfl)
          try simp only [Act.put, List.setIfInBounds_toArray, List.set_cons_zero, List.set_cons_succ]
          refine wpAnyZ_take (i := 4) (v := ?_) rfl (by kernel_rfl) (fun _ _ _ h => h) (Or.inl ⟨by rfl, ?_⟩) (kd0) ?_
          rotate_left 1
          · (intro w hSw; (try dsimp only at hSw); go_simp; try with_reducible rfl)
          try simp only [Act.put, List.setIfInBounds_toArray, List.set_cons_zero, List.set_cons_succ]
          refine wpAnyZ_two (i := 1) (k := 7) (by kernel_rfl) (ReadyZ.mk rfl (fun K hK => ?_)) (ReadyZ.mk rfl (fun K hK => ?_))
          · -- A
            go_simp
            go_at_call 98
            refine (HKW.out _).mono ?_
            rintro e w2 ⟨b, rfl, -, hS, -, hle⟩
            have LC := LD.trans hle
            have k2 := HKQ.out _ LC
            clear hle kd0 LD
            dsimp only
            refine hK.out _ _ (fun _ => k2) ?_
            clear hK K
            try simp only [Act.put, List.setIfInBounds_toArray, List.set_cons_zero, List.set_cons_succ]
            refine wpAnyZ_two (i := 5) (k := 7) (by kernel_rfl) (ReadyZ.mk rfl (fun K hK => ?_)) (ReadyZ.mk rfl (fun K hK => ?_))
            · -- A1
              go_simp
              go_at_call 112
              refine (HIT.out _ _ hS).mono ?_
              rintro e w3 ⟨rfl, rfl⟩
              dsimp only
              refine hK.out _ _ (fun _ => k2) ?_
              clear hK K
              try simp only [Act.put, List.setIfInBounds_toArray, List.set_cons_zero, List.set_cons_succ]
              refine wpAnyZ_take (i := 6) (v := ?_) rfl (by kernel_rfl) (fun _ _ _ h => h) (Or.inl ⟨by rfl, ?_⟩) (k2) ?_
              rotate_left 1
              · (intro w hSw; (try dsimp only at hSw); go_simp; try with_reducible rfl)
              try simp only [Act.put, List.setIfInBounds_toArray, List.set_cons_zero, List.set_cons_succ]
              refine wpAnyZ_one (i := 7) (by kernel_rfl) (ReadyZ.mk rfl (fun K hK => ?_))
              go_simp
              refine hK.out _ _ (fun _ => (HKQ.out _ (LC.alloc _))) ?_
              clear hK K
              try simp only [Act.put, List.setIfInBounds_toArray, List.set_cons_zero, List.set_cons_succ]
              refine wpAnyZ_one (i := 8) (by kernel_rfl) (ReadyZ.mk rfl (fun K hK => ?_))
              go_simp
              refine hK.out _ _ (fun h => absurd h (by decide)) ?_
              clear hK K
              try simp only [Act.put, List.setIfInBounds_toArray, List.set_cons_zero, List.set_cons_succ]
              refine wpAnyZ_done (by kernel_rfl) ?_ _
              go_wp2
              go_meet
              exact ⟨_, rfl, LC.size, linAt_new _ _ _ _ _ _, LC.alloc _⟩
            · -- A2
              go_simp
              refine hK.out _ _ (fun _ => (HKQ.out _ (LC.alloc _))) ?_
              clear hK K
              try simp only [Act.put, List.setIfInBounds_toArray, List.set_cons_zero, List.set_cons_succ]
              replace hS := hS.le (Le.new w2 (.cells #[.int .i64 0, .int .i64 0, .int .i64 0, .int .i64 0] 54))
              refine wpAnyZ_one (i := 5) (by kernel_rfl) (ReadyZ.mk rfl (fun K hK => ?_))
              go_simp
              go_at_call 112
              refine (HIT.out _ _ hS).mono ?_
              rintro e w3 ⟨rfl, rfl⟩
              dsimp only
              refine hK.out _ _ (fun _ => (HKQ.out _ (LC.alloc _))) ?_
              clear hK K
              try simp only [Act.put, List.setIfInBounds_toArray, List.set_cons_zero, List.set_cons_succ]
              refine wpAnyZ_take (i := 6) (v := ?_) rfl (by kernel_rfl) (fun _ _ _ h => h) (Or.inl ⟨by rfl, ?_⟩) ((HKQ.out _ (LC.alloc _))) ?_
              rotate_left 1
              · (intro w hSw; (try dsimp only at hSw); go_simp; try with_reducible rfl)
              try simp only [Act.put, List.setIfInBounds_toArray, List.set_cons_zero, List.set_cons_succ]
              refine wpAnyZ_one (i := 8) (by kernel_rfl) (ReadyZ.mk rfl (fun K hK => ?_))
              go_simp
              refine hK.out _ _ (fun h => absurd h (by decide)) ?_
              clear hK K
              try simp only [Act.put, List.setIfInBounds_toArray, List.set_cons_zero, List.set_cons_succ]
              refine wpAnyZ_done (by kernel_rfl) ?_ _
              go_wp2
              go_meet
              exact ⟨_, rfl, LC.size, linAt_new _ _ _ _ _ _, LC.alloc _⟩
          · -- B
            go_simp
            refine hK.out _ _ (fun _ => (HKQ.out _ (LD.alloc _))) ?_
            clear hK K
            try simp only [Act.put, List.setIfInBounds_toArray, List.set_cons_zero, List.set_cons_succ]
            have RX := linAt_new WD 0 0 0 0 54
            have LX := LD.alloc (.cells #[.int .i64 0, .int .i64 0, .int .i64 0, .int .i64 0] 54)
            have szx := LD.size
            refine wpAnyZ_one (i := 1) (by kernel_rfl) (ReadyZ.mk rfl (fun K hK => ?_))
            go_simp
            go_at_call 98
            refine (HKW.out _).mono ?_
            rintro e w2 ⟨b, rfl, -, hS, -, hle⟩
            replace LX := LX.trans hle
            replace RX := RX.le hle
            clear hle
            dsimp only
            refine hK.out _ _ (fun _ => (HKQ.out _ LX)) ?_
            clear hK K
            try simp only [Act.put, List.setIfInBounds_toArray, List.set_cons_zero, List.set_cons_succ]
            refine wpAnyZ_one (i := 5) (by kernel_rfl) (ReadyZ.mk rfl (fun K hK => ?_))
            go_simp
            go_at_call 112
            refine (HIT.out _ _ hS).mono ?_
            rintro e w3 ⟨rfl, rfl⟩
            dsimp only
            refine hK.out _ _ (fun _ => (HKQ.out _ LX)) ?_
            clear hK K
            try simp only [Act.put, List.setIfInBounds_toArray, List.set_cons_zero, List.set_cons_succ]
            refine wpAnyZ_take (i := 6) (v := ?_) rfl (by kernel_rfl) (fun _ _ _ h => h) (Or.inl ⟨by rfl, ?_⟩) ((HKQ.out _ LX)) ?_
            rotate_left 1
            · (intro w hSw; (try dsimp only at hSw); go_simp; try with_reducible rfl)
            try simp only [Act.put, List.setIfInBounds_toArray, List.set_cons_zero, List.set_cons_succ]
            have rx0 := RX.c0
            have rx1 := RX.c1
            have rx2 := RX.c2
            have rx3 := RX.c3
            have rf0 := RX.f 0
            have rf1 := RX.f 1
            have rf2 := RX.f 2
            have rf3 := RX.f 3
            dsimp only at rx0 rx1 rx2 rx3
            refine wpAnyZ_one (i := 8) (by kernel_rfl) (ReadyZ.mk rfl (fun K hK => ?_))
            go_simp
            refine hK.out _ _ (fun h => absurd h (by decide)) ?_
            clear hK K
            try simp only [Act.put, List.setIfInBounds_toArray, List.set_cons_zero, List.set_cons_succ]
            refine wpAnyZ_done (by kernel_rfl) ?_ _
            go_wp2
            go_meet
            exact ⟨_, rfl, szx, (((RX.set0 (k : Int)).set1 kd).set2 0).set3 0, (((LX.setCell (b := WD.heap.size) (o := 0) szx (.int .i64 k)).setCell (b := WD.heap.size) (o := 1) szx (.int .i64 kd)).setCell (b := WD.heap.size) (o := 2) szx (.int .i64 0)).setCell (b := WD.heap.size) (o := 3) szx (.int .i64 0)⟩
        case rest =>
          obtain ⟨bx, rfl, hbx, RB, LW⟩ := hcut
          have RA2 := RA.le LW
          have L1 := L0.trans LW
          have ct1 := (LW.cell zt).trans ct
          have hab : bx ≠ w.heap.size + 1 := by omega
          have hxw : w.heap.size ≤ bx := by omega
          clear RA L0 ct HIT HKW k0
          by_cases h1 : 1 < n
          · have h1a : decide ((1 : Int) < (n : Int)) = true := decide_eq_true (by omega)
            have h1i : (1 : Int) < (n : Int) := by omega
            by_cases hk2 : kd = 2
            · subst hk2
              have hd : True := trivial
              have HA : Hid (av = vc) := HAc.out h1 (by omega)
              have HK1' := Lib.hid (HK1.out h1)
              have p1 := RB.c1
              clear hd
              go_wp2_with fail
              clear p1
              have d0 : wc.drew.cell? ⟨w.heap.size, 0, none⟩ = some (.slice B m c) := ct1
              have d1 : wc.drew.cell? ⟨b1, o1 + 1, none⟩ = some (.string x1) := HK1'.out _ (LW.trans (Le.refl wc).drew)
              have HC := Lib.hid (HCN.out wc.drew (LW.trans (Le.refl wc).drew))
              replace RB := RB.le (Le.refl wc).drew
              replace RA2 := RA2.le (Le.refl wc).drew
              replace L1 := L1.trans (Le.refl wc).drew
              replace LW := LW.trans (Le.refl wc).drew
              replace ct1 := d0
              refine wp_region_Z (fun w' => w'.cell? ⟨w.heap.size, 0, none⟩ = some (.slice B m c) ∧ w'.cell? ⟨b1, o1 + 1, none⟩ = some (.string x1)) [7] (by kernel_rfl) ?_
              generalize wc.drew = WD at *
              have q2 := RB.c2
              have h2 := RB.f 2
              replace RB := RB.set2 vc
              replace RA2 := RA2.other (q := bx) (o := 2) (u := .int .i64 vc) hab
              replace ct1 := (cell_set_other (b := bx) (o := 2) (v := .int .i64 vc) (.inl (by omega))).trans ct1
              replace L1 := L1.setCell (b := bx) (o := 2) hxw (.int .i64 vc)
              replace LW := LW.setCell (b := bx) (o := 2) hbx (.int .i64 vc)
              refine wpAnyZ_take (i := 0) (v := ?_) rfl (by kernel_rfl) (fun _ _ _ h => h) (Or.inl ⟨by rfl, ?_⟩) (⟨d0, d1⟩) ?_
              rotate_left 1
              · (intro w hSw; (try dsimp only at hSw); go_simp; try with_reducible rfl)
              try simp only [Act.put, List.setIfInBounds_toArray, List.set_cons_zero, List.set_cons_succ]
              refine wpAnyZ_take (i := 1) (v := ?_) rfl (by kernel_rfl) (fun _ _ _ h => h) (Or.inl ⟨by rfl, ?_⟩) (⟨d0, d1⟩) ?_
              rotate_left 1
              · (intro w hSw; (try dsimp only at hSw); go_simp; try with_reducible rfl)
              try simp only [Act.put, List.setIfInBounds_toArray, List.set_cons_zero, List.set_cons_succ]
              refine wpAnyZ_take (i := 2) (v := ?_) rfl (by kernel_rfl) (fun _ _ _ h => h) (Or.inl ⟨by rfl, ?_⟩) (⟨d0, d1⟩) ?_
              rotate_left 1
              · (intro w hSw; (try dsimp only at hSw); go_simp; try with_reducible rfl)
              try simp only [Act.put, List.setIfInBounds_toArray, List.set_cons_zero, List.set_cons_succ]
              refine wpAnyZ_take (i := 3) (v := ?_) rfl (by kernel_rfl) (fun _ _ _ h => h) (Or.inl ⟨by rfl, ?_⟩) (⟨d0, d1⟩) ?_
              rotate_left 1
              · (intro w hSw; (try dsimp only at hSw); go_simp; try with_reducible rfl)
              try simp only [Act.put, List.setIfInBounds_toArray, List.set_cons_zero, List.set_cons_succ]
              refine wpAnyZ_take (i := 4) (v := ?_) rfl (by kernel_rfl) (fun _ _ _ h => h) (Or.inl ⟨by rfl, ?_⟩) (⟨d0, d1⟩) ?_
              rotate_left 1
              · (intro w hSw; (try dsimp only at hSw); go_simp; try with_reducible rfl)
              try simp only [Act.put, List.setIfInBounds_toArray, List.set_cons_zero, List.set_cons_succ]
              refine wpAnyZ_one (i := 5) (by kernel_rfl) (ReadyZ.mk rfl (fun K hK => ?_))
              go_simp
              go_at_call 77
              refine HC.out.mono ?_
              rintro e wz ⟨rfl, rfl⟩
              dsimp only
              refine hK.out _ _ (fun _ => ⟨d0, d1⟩) ?_
              clear hK K
              try simp only [Act.put, List.setIfInBounds_toArray, List.set_cons_zero, List.set_cons_succ]
              refine wpAnyZ_take (i := 6) (v := ?_) rfl (by kernel_rfl) (fun _ _ _ h => h) (Or.inl ⟨by rfl, ?_⟩) (⟨d0, d1⟩) ?_
              rotate_left 1
              · (intro w hSw; (try dsimp only at hSw); go_simp; try with_reducible rfl)
              try simp only [Act.put, List.setIfInBounds_toArray, List.set_cons_zero, List.set_cons_succ]
              refine wpAnyZ_one (i := 7) (by kernel_rfl) (ReadyZ.mk rfl (fun K hK => ?_))
              go_simp
              refine hK.out _ _ (fun h => absurd h (by decide)) ?_
              clear hK K
              try simp only [Act.put, List.setIfInBounds_toArray, List.set_cons_zero, List.set_cons_succ]
              refine wpAnyZ_done (by kernel_rfl) ?_ _
              clear d0 d1 q2 h2 HC HK1'
              generalize (WD.setCell ⟨bx, 2, none⟩ (.int .i64 vc)) = WZ at *
              by_cases h2 : 2 < n
              · have h2a : decide ((2 : Int) < (n : Int)) = true := decide_eq_true (by omega)
                have h2i : (2 : Int) < (n : Int) := by omega
                have HZ : Hid (z = ⟨k, 2, vc, v2⟩) := by show _ = _; rw [PZ.out, HA.out, HBr.out h2 (by trivial)]
                have k2 := HK2.out h2 _ LW
                have n1 := RB.c1
                clear PZ h2 HBr HB1 HB0 HAc HAn HA0 HA
                go_wp2_with fail
                refine (HR2.out _).mono ?_
                rintro e w' ⟨rfl, rfl⟩
                clear n1
                have q3 := RB.c3
                have h3 := RB.f 3
                replace RB := RB.set3 v2
                replace RA2 := RA2.other (q := bx) (o := 3) (u := .int .i64 v2) hab
                replace ct1 := (cell_set_other (b := bx) (o := 3) (v := .int .i64 v2) (.inl (by omega))).trans ct1
                replace L1 := L1.setCell (b := bx) (o := 3) hxw (.int .i64 v2)
                replace LW := LW.setCell (b := bx) (o := 3) hbx (.int .i64 v2)
                clear k2
                have n0 := RB.c0
                have n1 := RB.c1
                have n2 := RB.c2
                have n3 := RB.c3
                have S1 := RA2.set0 (k : Int)
                have S2 := S1.set1 2
                have S3 := S2.set2 vc
                have S4 := S3.set3 v2
                have a0 := RA2.c0
                have g0 := RA2.f 0
                have a1 := S1.c1
                have g1 := S1.f 1
                have a2 := S2.c2
                have g2 := S2.f 2
                have a3 := S3.c3
                have g3 := S3.f 3
                have m0 := S4.c0
                have m1 := S4.c1
                have m2 := S4.c2
                have m3 := S4.c3
                have LF := (((L1.setCell (b := w.heap.size + 1) (o := 0) (by omega) (.int .i64 k)).setCell (b := w.heap.size + 1) (o := 1) (by omega) (.int .i64 2)).setCell (b := w.heap.size + 1) (o := 2) (by omega) (.int .i64 vc)).setCell (b := w.heap.size + 1) (o := 3) (by omega) (.int .i64 v2)
                clear RA2 RB S1 S2 S3 S4 L1 ct1 LW
                go_wp2
                exact bodyPost_ret (v := .agg #[.int .i64 k, .int .i64 2, .int .i64 vc, .int .i64 v2]) (by simp [results, Tryz.results80, go_sem, m0, m1, m2, m3]) rfl ⟨by rw [hz.out, HZ.out], LF⟩
              · have h2a : decide ((2 : Int) < (n : Int)) = false := decide_eq_false (by omega)
                have h2i : ¬ (2 : Int) < (n : Int) := by omega
                have HZ : Hid (z = ⟨k, 2, vc, 0⟩) := by show _ = _; rw [PZ.out, HA.out, HB0.out h2]
                have p1 := RB.c1
                clear PZ h2 HBr HB1 HB0 HAc HAn HA0 HA
                have n0 := RB.c0
                have n1 := RB.c1
                have n2 := RB.c2
                have n3 := RB.c3
                have S1 := RA2.set0 (k : Int)
                have S2 := S1.set1 2
                have S3 := S2.set2 vc
                have S4 := S3.set3 0
                have a0 := RA2.c0
                have g0 := RA2.f 0
                have a1 := S1.c1
                have g1 := S1.f 1
                have a2 := S2.c2
                have g2 := S2.f 2
                have a3 := S3.c3
                have g3 := S3.f 3
                have m0 := S4.c0
                have m1 := S4.c1
                have m2 := S4.c2
                have m3 := S4.c3
                have LF := (((L1.setCell (b := w.heap.size + 1) (o := 0) (by omega) (.int .i64 k)).setCell (b := w.heap.size + 1) (o := 1) (by omega) (.int .i64 2)).setCell (b := w.heap.size + 1) (o := 2) (by omega) (.int .i64 vc)).setCell (b := w.heap.size + 1) (o := 3) (by omega) (.int .i64 0)
                clear RA2 RB S1 S2 S3 S4 L1 ct1 LW
                go_wp2
                exact bodyPost_ret (v := .agg #[.int .i64 k, .int .i64 2, .int .i64 vc, .int .i64 0]) (by simp [results, Tryz.results80, go_sem, m0, m1, m2, m3]) rfl ⟨by rw [hz.out, HZ.out], LF⟩
            by_cases hk8 : kd = 8
            · subst hk8
              have hd : True := trivial
              have HA : Hid (av = vc) := HAc.out h1 (by omega)
              have HK1' := Lib.hid (HK1.out h1)
              have p1 := RB.c1
              clear hd
              go_wp2_with fail
              clear p1
              have d0 : wc.drew.cell? ⟨w.heap.size, 0, none⟩ = some (.slice B m c) := ct1
              have d1 : wc.drew.cell? ⟨b1, o1 + 1, none⟩ = some (.string x1) := HK1'.out _ (LW.trans (Le.refl wc).drew)
              have HC := Lib.hid (HCN.out wc.drew (LW.trans (Le.refl wc).drew))
              replace RB := RB.le (Le.refl wc).drew
              replace RA2 := RA2.le (Le.refl wc).drew
              replace L1 := L1.trans (Le.refl wc).drew
              replace LW := LW.trans (Le.refl wc).drew
              replace ct1 := d0
              refine wp_region_Z (fun w' => w'.cell? ⟨w.heap.size, 0, none⟩ = some (.slice B m c) ∧ w'.cell? ⟨b1, o1 + 1, none⟩ = some (.string x1)) [7] (by kernel_rfl) ?_
              generalize wc.drew = WD at *
              have q2 := RB.c2
              have h2 := RB.f 2
              replace RB := RB.set2 vc
              replace RA2 := RA2.other (q := bx) (o := 2) (u := .int .i64 vc) hab
              replace ct1 := (cell_set_other (b := bx) (o := 2) (v := .int .i64 vc) (.inl (by omega))).trans ct1
              replace L1 := L1.setCell (b := bx) (o := 2) hxw (.int .i64 vc)
              replace LW := LW.setCell (b := bx) (o := 2) hbx (.int .i64 vc)
              refine wpAnyZ_take (i := 0) (v := ?_) rfl (by kernel_rfl) (fun _ _ _ h => h) (Or.inl ⟨by rfl, ?_⟩) (⟨d0, d1⟩) ?_
              rotate_left 1
              · (intro w hSw; (try dsimp only at hSw); go_simp; try with_reducible rfl)
              try simp only [Act.put, List.setIfInBounds_toArray, List.set_cons_zero, List.set_cons_succ]
              refine wpAnyZ_take (i := 1) (v := ?_) rfl (by kernel_rfl) (fun _ _ _ h => h) (Or.inl ⟨by rfl, ?_⟩) (⟨d0, d1⟩) ?_
              rotate_left 1
              · (intro w hSw; (try dsimp only at hSw); go_simp; try with_reducible rfl)
              try simp only [Act.put, List.setIfInBounds_toArray, List.set_cons_zero, List.set_cons_succ]
              refine wpAnyZ_take (i := 2) (v := ?_) rfl (by kernel_rfl) (fun _ _ _ h => h) (Or.inl ⟨by rfl, ?_⟩) (⟨d0, d1⟩) ?_
              rotate_left 1
              · (intro w hSw; (try dsimp only at hSw); go_simp; try with_reducible rfl)
              try simp only [Act.put, List.setIfInBounds_toArray, List.set_cons_zero, List.set_cons_succ]
              refine wpAnyZ_take (i := 3) (v := ?_) rfl (by kernel_rfl) (fun _ _ _ h => h) (Or.inl ⟨by rfl, ?_⟩) (⟨d0, d1⟩) ?_
              rotate_left 1
              · (intro w hSw; (try dsimp only at hSw); go_simp; try with_reducible rfl)
              try simp only [Act.put, List.setIfInBounds_toArray, List.set_cons_zero, List.set_cons_succ]
              refine wpAnyZ_take (i := 4) (v := ?_) rfl (by kernel_rfl) (fun _ _ _ h => h) (Or.inl ⟨by rfl, ?_⟩) (⟨d0, d1⟩) ?_
              rotate_left 1
              · (intro w hSw; (try dsimp only at hSw); go_simp; try with_reducible rfl)
              try simp only [Act.put, List.setIfInBounds_toArray, List.set_cons_zero, List.set_cons_succ]
              refine wpAnyZ_one (i := 5) (by kernel_rfl) (ReadyZ.mk rfl (fun K hK => ?_))
              go_simp
              go_at_call 77
              refine HC.out.mono ?_
              rintro e wz ⟨rfl, rfl⟩
              dsimp only
              refine hK.out _ _ (fun _ => ⟨d0, d1⟩) ?_
              clear hK K
              try simp only [Act.put, List.setIfInBounds_toArray, List.set_cons_zero, List.set_cons_succ]
              refine wpAnyZ_take (i := 6) (v := ?_) rfl (by kernel_rfl) (fun _ _ _ h => h) (Or.inl ⟨by rfl, ?_⟩) (⟨d0, d1⟩) ?_
              rotate_left 1
              · (intro w hSw; (try dsimp only at hSw); go_simp; try with_reducible rfl)
              try simp only [Act.put, List.setIfInBounds_toArray, List.set_cons_zero, List.set_cons_succ]
              refine wpAnyZ_one (i := 7) (by kernel_rfl) (ReadyZ.mk rfl (fun K hK => ?_))
              go_simp
              refine hK.out _ _ (fun h => absurd h (by decide)) ?_
              clear hK K
              try simp only [Act.put, List.setIfInBounds_toArray, List.set_cons_zero, List.set_cons_succ]
              refine wpAnyZ_done (by kernel_rfl) ?_ _
              clear d0 d1 q2 h2 HC HK1'
              generalize (WD.setCell ⟨bx, 2, none⟩ (.int .i64 vc)) = WZ at *
              by_cases h2 : 2 < n
              · have h2a : decide ((2 : Int) < (n : Int)) = true := decide_eq_true (by omega)
                have h2i : (2 : Int) < (n : Int) := by omega
                have HZ : Hid (z = ⟨k, 8, vc, 1⟩) := by show _ = _; rw [PZ.out, HA.out, HB1.out h2 (by omega)]
                have n1 := RB.c1
                clear PZ h2 HBr HB1 HB0 HAc HAn HA0 HA n1
                have p1 := RB.c1
                have q3 := RB.c3
                have h3 := RB.f 3
                replace RB := RB.set3 1
                replace RA2 := RA2.other (q := bx) (o := 3) (u := .int .i64 1) hab
                replace ct1 := (cell_set_other (b := bx) (o := 3) (v := .int .i64 1) (.inl (by omega))).trans ct1
                replace L1 := L1.setCell (b := bx) (o := 3) hxw (.int .i64 1)
                replace LW := LW.setCell (b := bx) (o := 3) hbx (.int .i64 1)
                have n0 := RB.c0
                have n1 := RB.c1
                have n2 := RB.c2
                have n3 := RB.c3
                have S1 := RA2.set0 (k : Int)
                have S2 := S1.set1 8
                have S3 := S2.set2 vc
                have S4 := S3.set3 1
                have a0 := RA2.c0
                have g0 := RA2.f 0
                have a1 := S1.c1
                have g1 := S1.f 1
                have a2 := S2.c2
                have g2 := S2.f 2
                have a3 := S3.c3
                have g3 := S3.f 3
                have m0 := S4.c0
                have m1 := S4.c1
                have m2 := S4.c2
                have m3 := S4.c3
                have LF := (((L1.setCell (b := w.heap.size + 1) (o := 0) (by omega) (.int .i64 k)).setCell (b := w.heap.size + 1) (o := 1) (by omega) (.int .i64 8)).setCell (b := w.heap.size + 1) (o := 2) (by omega) (.int .i64 vc)).setCell (b := w.heap.size + 1) (o := 3) (by omega) (.int .i64 1)
                clear RA2 RB S1 S2 S3 S4 L1 ct1 LW
                go_wp2
                exact bodyPost_ret (v := .agg #[.int .i64 k, .int .i64 8, .int .i64 vc, .int .i64 1]) (by simp [results, Tryz.results80, go_sem, m0, m1, m2, m3]) rfl ⟨by rw [hz.out, HZ.out], LF⟩
              · have h2a : decide ((2 : Int) < (n : Int)) = false := decide_eq_false (by omega)
                have h2i : ¬ (2 : Int) < (n : Int) := by omega
                have HZ : Hid (z = ⟨k, 8, vc, 0⟩) := by show _ = _; rw [PZ.out, HA.out, HB0.out h2]
                have p1 := RB.c1
                clear PZ h2 HBr HB1 HB0 HAc HAn HA0 HA
                have n0 := RB.c0
                have n1 := RB.c1
                have n2 := RB.c2
                have n3 := RB.c3
                have S1 := RA2.set0 (k : Int)
                have S2 := S1.set1 8
                have S3 := S2.set2 vc
                have S4 := S3.set3 0
                have a0 := RA2.c0
                have g0 := RA2.f 0
                have a1 := S1.c1
                have g1 := S1.f 1
                have a2 := S2.c2
                have g2 := S2.f 2
                have a3 := S3.c3
                have g3 := S3.f 3
                have m0 := S4.c0
                have m1 := S4.c1
                have m2 := S4.c2
                have m3 := S4.c3
                have LF := (((L1.setCell (b := w.heap.size + 1) (o := 0) (by omega) (.int .i64 k)).setCell (b := w.heap.size + 1) (o := 1) (by omega) (.int .i64 8)).setCell (b := w.heap.size + 1) (o := 2) (by omega) (.int .i64 vc)).setCell (b := w.heap.size + 1) (o := 3) (by omega) (.int .i64 0)
                clear RA2 RB S1 S2 S3 S4 L1 ct1 LW
                go_wp2
                exact bodyPost_ret (v := .agg #[.int .i64 k, .int .i64 8, .int .i64 vc, .int .i64 0]) (by simp [results, Tryz.results80, go_sem, m0, m1, m2, m3]) rfl ⟨by rw [hz.out, HZ.out], LF⟩
            have HA : Hid (av = v1) := HAn.out h1 (by omega)
            have hb2 : (kd == 2) = false := by rw [beq_eq_false_iff_ne]; exact hk2
            have hb8 : (kd == 8) = false := by rw [beq_eq_false_iff_ne]; exact hk8
            have k1 := HK1.out h1 _ LW
            have p1 := RB.c1
            clear hk8
            go_wp2_with fail
            refine (HR1.out _).mono ?_
            rintro e w' ⟨rfl, rfl⟩
            clear p1 k1
            have q2 := RB.c2
            have h2 := RB.f 2
            replace RB := RB.set2 v1
            replace RA2 := RA2.other (q := bx) (o := 2) (u := .int .i64 v1) hab
            replace ct1 := (cell_set_other (b := bx) (o := 2) (v := .int .i64 v1) (.inl (by omega))).trans ct1
            replace L1 := L1.setCell (b := bx) (o := 2) hxw (.int .i64 v1)
            replace LW := LW.setCell (b := bx) (o := 2) hbx (.int .i64 v1)
            by_cases h2 : 2 < n
            · have h2a : decide ((2 : Int) < (n : Int)) = true := decide_eq_true (by omega)
              have h2i : (2 : Int) < (n : Int) := by omega
              have HZ : Hid (z = ⟨k, kd, v1, 1⟩) := by show _ = _; rw [PZ.out, HA.out, HB1.out h2 (by omega)]
              have n1 := RB.c1
              clear PZ h2 HBr HB1 HB0 HAc HAn HA0 HA n1
              have p1 := RB.c1
              have q3 := RB.c3
              have h3 := RB.f 3
              replace RB := RB.set3 1
              replace RA2 := RA2.other (q := bx) (o := 3) (u := .int .i64 1) hab
              replace ct1 := (cell_set_other (b := bx) (o := 3) (v := .int .i64 1) (.inl (by omega))).trans ct1
              replace L1 := L1.setCell (b := bx) (o := 3) hxw (.int .i64 1)
              replace LW := LW.setCell (b := bx) (o := 3) hbx (.int .i64 1)
              have n0 := RB.c0
              have n1 := RB.c1
              have n2 := RB.c2
              have n3 := RB.c3
              have S1 := RA2.set0 (k : Int)
              have S2 := S1.set1 kd
              have S3 := S2.set2 v1
              have S4 := S3.set3 1
              have a0 := RA2.c0
              have g0 := RA2.f 0
              have a1 := S1.c1
              have g1 := S1.f 1
              have a2 := S2.c2
              have g2 := S2.f 2
              have a3 := S3.c3
              have g3 := S3.f 3
              have m0 := S4.c0
              have m1 := S4.c1
              have m2 := S4.c2
              have m3 := S4.c3
              have LF := (((L1.setCell (b := w.heap.size + 1) (o := 0) (by omega) (.int .i64 k)).setCell (b := w.heap.size + 1) (o := 1) (by omega) (.int .i64 kd)).setCell (b := w.heap.size + 1) (o := 2) (by omega) (.int .i64 v1)).setCell (b := w.heap.size + 1) (o := 3) (by omega) (.int .i64 1)
              clear RA2 RB S1 S2 S3 S4 L1 ct1 LW
              go_wp2
              exact bodyPost_ret (v := .agg #[.int .i64 k, .int .i64 kd, .int .i64 v1, .int .i64 1]) (by simp [results, Tryz.results80, go_sem, m0, m1, m2, m3]) rfl ⟨by rw [hz.out, HZ.out], LF⟩
            · have h2a : decide ((2 : Int) < (n : Int)) = false := decide_eq_false (by omega)
              have h2i : ¬ (2 : Int) < (n : Int) := by omega
              have HZ : Hid (z = ⟨k, kd, v1, 0⟩) := by show _ = _; rw [PZ.out, HA.out, HB0.out h2]
              have p1 := RB.c1
              clear PZ h2 HBr HB1 HB0 HAc HAn HA0 HA
              have n0 := RB.c0
              have n1 := RB.c1
              have n2 := RB.c2
              have n3 := RB.c3
              have S1 := RA2.set0 (k : Int)
              have S2 := S1.set1 kd
              have S3 := S2.set2 v1
              have S4 := S3.set3 0
              have a0 := RA2.c0
              have g0 := RA2.f 0
              have a1 := S1.c1
              have g1 := S1.f 1
              have a2 := S2.c2
              have g2 := S2.f 2
              have a3 := S3.c3
              have g3 := S3.f 3
              have m0 := S4.c0
              have m1 := S4.c1
              have m2 := S4.c2
              have m3 := S4.c3
              have LF := (((L1.setCell (b := w.heap.size + 1) (o := 0) (by omega) (.int .i64 k)).setCell (b := w.heap.size + 1) (o := 1) (by omega) (.int .i64 kd)).setCell (b := w.heap.size + 1) (o := 2) (by omega) (.int .i64 v1)).setCell (b := w.heap.size + 1) (o := 3) (by omega) (.int .i64 0)
              clear RA2 RB S1 S2 S3 S4 L1 ct1 LW
              go_wp2
              exact bodyPost_ret (v := .agg #[.int .i64 k, .int .i64 kd, .int .i64 v1, .int .i64 0]) (by simp [results, Tryz.results80, go_sem, m0, m1, m2, m3]) rfl ⟨by rw [hz.out, HZ.out], LF⟩
          · have h1a : decide ((1 : Int) < (n : Int)) = false := decide_eq_false (by omega)
            have h1i : ¬ (1 : Int) < (n : Int) := by omega
            have h2a : decide ((2 : Int) < (n : Int)) = false := decide_eq_false (by omega)
            have h2i : ¬ (2 : Int) < (n : Int) := by omega
            have HZ : Hid (z = ⟨k, kd, 0, 0⟩) := by show _ = _; rw [PZ.out, HA0.out h1, HB0.out (by omega)]
            clear PZ h1 HBr HB1 HB0 HAc HAn HA0
            have n0 := RB.c0
            have n1 := RB.c1
            have n2 := RB.c2
            have n3 := RB.c3
            have S1 := RA2.set0 (k : Int)
            have S2 := S1.set1 kd
            have S3 := S2.set2 0
            have S4 := S3.set3 0
            have a0 := RA2.c0
            have g0 := RA2.f 0
            have a1 := S1.c1
            have g1 := S1.f 1
            have a2 := S2.c2
            have g2 := S2.f 2
            have a3 := S3.c3
            have g3 := S3.f 3
            have m0 := S4.c0
            have m1 := S4.c1
            have m2 := S4.c2
            have m3 := S4.c3
            have LF := (((L1.setCell (b := w.heap.size + 1) (o := 0) (by omega) (.int .i64 k)).setCell (b := w.heap.size + 1) (o := 1) (by omega) (.int .i64 kd)).setCell (b := w.heap.size + 1) (o := 2) (by omega) (.int .i64 0)).setCell (b := w.heap.size + 1) (o := 3) (by omega) (.int .i64 0)
            clear RA2 RB S1 S2 S3 S4 L1 ct1 LW
            go_wp2
            exact bodyPost_ret (v := .agg #[.int .i64 k, .int .i64 kd, .int .i64 0, .int .i64 0]) (by simp [results, Tryz.results80, go_sem, m0, m1, m2, m3]) rfl ⟨by rw [hz.out, HZ.out], LF⟩
end
end Go.Proofs.YtkcnjoikdalgjaaGreatDoor
