/- one text of LawCloseExits -/
import Derived.Test.YtacilbglnhgifaaCe1
import Derived.Test.YtacilbglnhgifaaCe2
import Derived.Test.YtacilbglnhgifaaCe8
import Derived.Test.YtacilbglnhgifaaCe15
import Derived.Deep.Cut
namespace Go.Proofs.Ytacilbglnhgifaa
open Go.RowKit
set_option linter.unusedVariables false
section
set_option maxHeartbeats 16000000 in
set_option maxRecDepth 100000 in
theorem exCloseExits_walk (At : Option Addr) (nt ct : Nat) (t : List Cls) (Ap : Option Addr) (np cp : Nat) (p : List Xit) (x : Srt) (w : World) (ht : Sl w At nt ct t) (hp : Sl w Ap np cp p) (hx : Enc.ok x) :
    Calls Try.prog 3 #[.agg #[.slice At nt ct], .slice Ap np cp, .agg #[.bool x.has, .int .i64 x.cls, .int .i64 x.code]] w fun e w' => e = .returned (.bool true) ∧ Le w w' := by
  have hokt := ht.ok
  have hmxt := ht.n_le
  have hokp := hp.ok
  have hmxp := hp.n_le
  have HLL : (ceL t p x.has x.cls x.code).length ≤ 1048576 := ceL_len _ _ _ _ _
  have HLH : (ceH t p x.has x.cls x.code).length ≤ 1048576 := ceH_len _ _ _ _ _
  go_enter Try.func3, Try.ntmps3
  go_wp2_with fail
  obtain ⟨cat, zat, cx0, cx1, cx2, zx0, L0⟩ := boxTX w (.slice At nt ct) (.bool x.has) (.int .i64 x.cls) (.int .i64 x.code) 24 27
  have zx1 := zx0
  have zx2 := zx0
  have sz0 := zx0
  have s0 : w.heap.size ≤ _ := L0.size
  generalize (w.alloc (.cells #[.slice At nt ct] 24)).alloc _ = W at *
  refine (szTree_any At nt ct t _ _ (ht.le L0) (by omega) (by omega)).mono ?_
  rintro e w1 ⟨rt, rfl, hr, hle⟩
  have s1 := hle.size
  replace cat := (hle.cell zat).trans cat
  replace cx0 := (hle.cell zx0).trans cx0
  replace cx1 := (hle.cell zx1).trans cx1
  replace cx2 := (hle.cell zx2).trans cx2
  replace zat := Nat.lt_of_lt_of_le zat hle.size
  replace zx0 := Nat.lt_of_lt_of_le zx0 hle.size
  replace zx1 := Nat.lt_of_lt_of_le zx1 hle.size
  replace zx2 := Nat.lt_of_lt_of_le zx2 hle.size
  replace L0 := L0.trans hle
  clear hle
  rcases hr with rfl | ⟨ht0, ht1, ht2⟩
  · go_wp2
    go_ret
    exact ⟨rfl, L0⟩
  have hnegt : decide (rt < 0) = false := decide_eq_false (by omega)
  go_wp2_with fail
  refine (szExitS_any Ap np cp p _ _ (hp.le L0) (by omega) (by omega)).mono ?_
  rintro e w2 ⟨rp, rfl, hr, hle⟩
  have s2 := hle.size
  replace cat := (hle.cell zat).trans cat
  replace cx0 := (hle.cell zx0).trans cx0
  replace cx1 := (hle.cell zx1).trans cx1
  replace cx2 := (hle.cell zx2).trans cx2
  replace zat := Nat.lt_of_lt_of_le zat hle.size
  replace zx0 := Nat.lt_of_lt_of_le zx0 hle.size
  replace zx1 := Nat.lt_of_lt_of_le zx1 hle.size
  replace zx2 := Nat.lt_of_lt_of_le zx2 hle.size
  replace L0 := L0.trans hle
  clear hle
  rcases hr with rfl | ⟨hp0, hp1, hp2⟩
  · go_wp2
    go_ret
    exact ⟨rfl, L0⟩
  have hnegp : decide (rp < 0) = false := decide_eq_false (by omega)
  go_wp2_with fail
  go_cut [8] from 26 (fun s wx => ∃ (g : Nat) (A0 A1 : Option Addr) (q0 q1 : Nat), s = .pointer (some ⟨g, 0, none⟩) ∧ RB w2 wx g A0 A1 q0 q1 (ceL t p x.has x.cls x.code) (ceH t p x.has x.cls x.code) (ceE t p x.has x.cls x.code) (ceV t p x.has x.cls x.code))
  case first =>
    have LR := (Le.refl w2).drew
    replace cat := (show w2.drew.cell? _ = _ from cat)
    replace cx0 := (show w2.drew.cell? _ = _ from cx0)
    replace cx1 := (show w2.drew.cell? _ = _ from cx1)
    replace cx2 := (show w2.drew.cell? _ = _ from cx2)
    replace L0 := L0.drew
    replace zat := (show _ < w2.drew.heap.size from zat)
    replace zx0 := (show _ < w2.drew.heap.size from zx0)
    replace zx1 := (show _ < w2.drew.heap.size from zx1)
    replace zx2 := (show _ < w2.drew.heap.size from zx2)
    refine wp_region_noPanic ?_
    refine wp_region_Z (fun w' => w'.cell? ⟨w.heap.size, 0, none⟩ = some (.slice At nt ct) ∧ w'.cell? ⟨w.heap.size + 1, 0, none⟩ = some (.bool x.has) ∧ w'.cell? ⟨w.heap.size + 1, 1, none⟩ = some (.int .i64 x.cls) ∧ w'.cell? ⟨w.heap.size + 1, 2, none⟩ = some (.int .i64 x.code)) [8] (by kernel_rfl) ?_
    have sv3 : w2.heap.size ≤ w2.drew.heap.size := LR.size
    generalize w2.drew = v3 at *
    refine wpAnyZ_take (i := 0) (v := ?_) rfl (by kernel_rfl) (fun _ _ _ h => h) (Or.inl ⟨by rfl, ?_⟩) (⟨cat, cx0, cx1, cx2⟩) ?_
    rotate_left 1
    · (intro w hSw; (try dsimp only at hSw); go_simp; try with_reducible rfl)
    try simp only [Act.put, List.setIfInBounds_toArray, List.set_cons_zero, List.set_cons_succ]
    refine wpAnyZ_take (i := 2) (v := ?_) rfl (by kernel_rfl) (fun _ _ _ h => h) (Or.inl ⟨by rfl, ?_⟩) (⟨cat, cx0, cx1, cx2⟩) ?_
    rotate_left 1
    · (intro w hSw; (try dsimp only at hSw); go_simp; try with_reducible rfl)
    try simp only [Act.put, List.setIfInBounds_toArray, List.set_cons_zero, List.set_cons_succ]
    refine wpAnyZ_take (i := 4) (v := ?_) rfl (by kernel_rfl) (fun _ _ _ h => h) (Or.inl ⟨by rfl, ?_⟩) (⟨cat, cx0, cx1, cx2⟩) ?_
    rotate_left 1
    · (intro w hSw; (try dsimp only at hSw); go_simp; try with_reducible rfl)
    try simp only [Act.put, List.setIfInBounds_toArray, List.set_cons_zero, List.set_cons_succ]
    refine wpAnyZ_two (i := 1) (k := 7) (by kernel_rfl) (ReadyZ.mk rfl (fun K hK => ?_)) (ReadyZ.mk rfl (fun K hK => ?_))
    · go_simp
      go_at_call 9
      refine (toTree_any At nt ct t _ (ht.le L0) (by omega)).mono ?_
      rintro e v4 ⟨gct, rfl, hgct, Oct, hle⟩
      have sv4 : v3.heap.size ≤ v4.heap.size := hle.size
      replace cat := (hle.cell zat).trans cat
      replace cx0 := (hle.cell zx0).trans cx0
      replace cx1 := (hle.cell zx1).trans cx1
      replace cx2 := (hle.cell zx2).trans cx2
      replace zat := Nat.lt_of_lt_of_le zat hle.size
      replace zx0 := Nat.lt_of_lt_of_le zx0 hle.size
      replace zx1 := Nat.lt_of_lt_of_le zx1 hle.size
      replace zx2 := Nat.lt_of_lt_of_le zx2 hle.size
      replace L0 := L0.trans hle
      replace LR := LR.trans hle
      clear hle
      refine hK.out _ _ (fun _ => ⟨cat, cx0, cx1, cx2⟩) ?_
      clear hK K
      try simp only [Act.put, List.setIfInBounds_toArray, List.set_cons_zero, List.set_cons_succ]
      refine wpAnyZ_two (i := 3) (k := 7) (by kernel_rfl) (ReadyZ.mk rfl (fun K hK => ?_)) (ReadyZ.mk rfl (fun K hK => ?_))
      · go_simp
        go_at_call 10
        refine (toExitS_any Ap np cp p _ (hp.le L0) (by omega)).mono ?_
        rintro e v5 ⟨rfl, Ocp, hle⟩
        have sv5 : v4.heap.size ≤ v5.heap.size := hle.size
        replace cat := (hle.cell zat).trans cat
        replace cx0 := (hle.cell zx0).trans cx0
        replace cx1 := (hle.cell zx1).trans cx1
        replace cx2 := (hle.cell zx2).trans cx2
        replace zat := Nat.lt_of_lt_of_le zat hle.size
        replace zx0 := Nat.lt_of_lt_of_le zx0 hle.size
        replace zx1 := Nat.lt_of_lt_of_le zx1 hle.size
        replace zx2 := Nat.lt_of_lt_of_le zx2 hle.size
        replace L0 := L0.trans hle
        replace LR := LR.trans hle
        replace Oct := own_le Oct hle
        clear hle
        refine hK.out _ _ (fun _ => ⟨cat, cx0, cx1, cx2⟩) ?_
        clear hK K
        try simp only [Act.put, List.setIfInBounds_toArray, List.set_cons_zero, List.set_cons_succ]
        refine wpAnyZ_two (i := 5) (k := 7) (by kernel_rfl) (ReadyZ.mk rfl (fun K hK => ?_)) (ReadyZ.mk rfl (fun K hK => ?_))
        · go_simp
          go_at_call 11
          refine (toStart_any x _).mono ?_
          rintro e v6 ⟨rfl, hle⟩
          have sv6 : v5.heap.size ≤ v6.heap.size := hle.size
          replace cat := (hle.cell zat).trans cat
          replace cx0 := (hle.cell zx0).trans cx0
          replace cx1 := (hle.cell zx1).trans cx1
          replace cx2 := (hle.cell zx2).trans cx2
          replace zat := Nat.lt_of_lt_of_le zat hle.size
          replace zx0 := Nat.lt_of_lt_of_le zx0 hle.size
          replace zx1 := Nat.lt_of_lt_of_le zx1 hle.size
          replace zx2 := Nat.lt_of_lt_of_le zx2 hle.size
          replace L0 := L0.trans hle
          replace LR := LR.trans hle
          replace Oct := own_le Oct hle
          replace Ocp := own_le Ocp hle
          clear hle
          refine hK.out _ _ (fun _ => ⟨cat, cx0, cx1, cx2⟩) ?_
          clear hK K
          try simp only [Act.put, List.setIfInBounds_toArray, List.set_cons_zero, List.set_cons_succ]
          refine wpAnyZ_two (i := 6) (k := 7) (by kernel_rfl) (ReadyZ.mk rfl (fun K hK => ?_)) (ReadyZ.mk rfl (fun K hK => ?_))
          · go_simp
            go_at_call 8
            refine (sCloseExits_any _ _ _ _ _ _ t p x.has x.cls x.code ⟨hx.1, hx.2.1⟩ ⟨hx.2.2.1, hx.2.2.2⟩ _ (Sl.of_own Oct rfl (by decide) hokt) (Sl.of_own Ocp rfl (by decide) hokp)).mono ?_
            rintro e v7 ⟨vl0, vh0, rfl, DL0, DH0, apr, hle⟩
            have sv7 : v6.heap.size ≤ v7.heap.size := hle.size
            replace cat := (hle.cell zat).trans cat
            replace cx0 := (hle.cell zx0).trans cx0
            replace cx1 := (hle.cell zx1).trans cx1
            replace cx2 := (hle.cell zx2).trans cx2
            replace zat := Nat.lt_of_lt_of_le zat hle.size
            replace zx0 := Nat.lt_of_lt_of_le zx0 hle.size
            replace zx1 := Nat.lt_of_lt_of_le zx1 hle.size
            replace zx2 := Nat.lt_of_lt_of_le zx2 hle.size
            replace L0 := L0.trans hle
            replace LR := LR.trans hle
            replace Oct := own_le Oct hle
            replace Ocp := own_le Ocp hle
            clear hle
            obtain ⟨Ar0, qr0, rfl, -, hbr0⟩ := DL0.form (by decide)
            obtain ⟨Ar1, qr1, rfl, -, hbr1⟩ := DH0.form (by decide)
            have Or0 := DL0.row
            have okr0 := DL0.ok
            have Or1 := DH0.row
            have okr1 := DH0.ok
            clear DL0 DH0
            refine hK.out _ _ (fun _ => ⟨cat, cx0, cx1, cx2⟩) ?_
            clear hK K
            try simp only [Act.put, List.setIfInBounds_toArray, List.set_cons_zero, List.set_cons_succ]
            refine wpAnyZ_one (i := 7) (by kernel_rfl) (ReadyZ.mk rfl (fun K hK => ?_))
            go_simp
            obtain ⟨Bx, hle⟩ := box4f v7 35
            have hbl : w2.heap.size ≤ v7.heap.size := LR.size
            have sv8 : v7.heap.size < (v7.alloc (.cells #[.slice none 0 0, .int .i64 0, .int .i64 0, .slice none 0 0] 35)).heap.size := Bx.lt
            replace cat := (hle.cell zat).trans cat
            replace cx0 := (hle.cell zx0).trans cx0
            replace cx1 := (hle.cell zx1).trans cx1
            replace cx2 := (hle.cell zx2).trans cx2
            replace zat := Nat.lt_of_lt_of_le zat hle.size
            replace zx0 := Nat.lt_of_lt_of_le zx0 hle.size
            replace zx1 := Nat.lt_of_lt_of_le zx1 hle.size
            replace zx2 := Nat.lt_of_lt_of_le zx2 hle.size
            replace L0 := L0.trans hle
            replace LR := LR.trans hle
            replace Oct := own_le Oct hle
            replace Ocp := own_le Ocp hle
            replace Or0 := own_le Or0 hle
            replace Or1 := own_le Or1 hle
            clear hle
            generalize v7.alloc (.cells #[.slice none 0 0, .int .i64 0, .int .i64 0, .slice none 0 0] 35) = v8 at *
            refine hK.out _ _ (fun _ => ⟨cat, cx0, cx1, cx2⟩) ?_
            clear hK K
            try simp only [Act.put, List.setIfInBounds_toArray, List.set_cons_zero, List.set_cons_succ]
            obtain ⟨y0, y0f, y1, y1f, y2, y2f, y3, y3f⟩ := Bx.fours (.slice Ar0 (ceL t p x.has x.cls x.code).length qr0) (.int .i64 (ceE t p x.has x.cls x.code)) (.int .i64 (ceV t p x.has x.cls x.code))
            have HRB := Lib.hid (RB.put (wq := v6) (en := ceE t p x.has x.cls x.code) (va := ceV t p x.has x.cls x.code) Bx (show w2.heap.size ≤ v7.heap.size by omega) Or0 Or1 okr0 okr1 (fun e => by have h1 := hbr0 _ e; omega) (fun e => by have h1 := hbr1 _ e; omega) apr LR (by omega))
            clear Bx Or0 Or1 hbr0 hbr1
            refine wpAnyZ_one (i := 8) (by kernel_rfl) (ReadyZ.mk rfl (fun K hK => ?_))
            go_simp
            refine hK.out _ _ (fun h => absurd h (by decide)) ?_
            clear hK K
            try simp only [Act.put, List.setIfInBounds_toArray, List.set_cons_zero, List.set_cons_succ]
            refine wpAnyZ_done (by kernel_rfl) ?_ _
            refine NoPanic.normal ?_
            go_wp2_with fail
            go_meet
            exact ⟨_, _, _, _, _, rfl, HRB.out⟩
          · go_simp
            obtain ⟨Bx, hle⟩ := box4f v6 35
            have hbl : w2.heap.size ≤ v6.heap.size := LR.size
            have sv9 : v6.heap.size < (v6.alloc (.cells #[.slice none 0 0, .int .i64 0, .int .i64 0, .slice none 0 0] 35)).heap.size := Bx.lt
            replace cat := (hle.cell zat).trans cat
            replace cx0 := (hle.cell zx0).trans cx0
            replace cx1 := (hle.cell zx1).trans cx1
            replace cx2 := (hle.cell zx2).trans cx2
            replace zat := Nat.lt_of_lt_of_le zat hle.size
            replace zx0 := Nat.lt_of_lt_of_le zx0 hle.size
            replace zx1 := Nat.lt_of_lt_of_le zx1 hle.size
            replace zx2 := Nat.lt_of_lt_of_le zx2 hle.size
            replace L0 := L0.trans hle
            replace LR := LR.trans hle
            replace Oct := own_le Oct hle
            replace Ocp := own_le Ocp hle
            clear hle
            generalize v6.alloc (.cells #[.slice none 0 0, .int .i64 0, .int .i64 0, .slice none 0 0] 35) = v9 at *
            refine hK.out _ _ (fun _ => ⟨cat, cx0, cx1, cx2⟩) ?_
            clear hK K
            try simp only [Act.put, List.setIfInBounds_toArray, List.set_cons_zero, List.set_cons_succ]
            refine wpAnyZ_one (i := 6) (by kernel_rfl) (ReadyZ.mk rfl (fun K hK => ?_))
            go_simp
            go_at_call 8
            refine (sCloseExits_any _ _ _ _ _ _ t p x.has x.cls x.code ⟨hx.1, hx.2.1⟩ ⟨hx.2.2.1, hx.2.2.2⟩ _ (Sl.of_own Oct rfl (by decide) hokt) (Sl.of_own Ocp rfl (by decide) hokp)).mono ?_
            rintro e v10 ⟨vl0, vh0, rfl, DL0, DH0, apr, hle⟩
            have sv10 : v9.heap.size ≤ v10.heap.size := hle.size
            replace cat := (hle.cell zat).trans cat
            replace cx0 := (hle.cell zx0).trans cx0
            replace cx1 := (hle.cell zx1).trans cx1
            replace cx2 := (hle.cell zx2).trans cx2
            replace zat := Nat.lt_of_lt_of_le zat hle.size
            replace zx0 := Nat.lt_of_lt_of_le zx0 hle.size
            replace zx1 := Nat.lt_of_lt_of_le zx1 hle.size
            replace zx2 := Nat.lt_of_lt_of_le zx2 hle.size
            replace L0 := L0.trans hle
            replace LR := LR.trans hle
            replace Oct := own_le Oct hle
            replace Ocp := own_le Ocp hle
            replace Bx := Bx.le hle
            clear hle
            obtain ⟨Ar0, qr0, rfl, -, hbr0⟩ := DL0.form (by decide)
            obtain ⟨Ar1, qr1, rfl, -, hbr1⟩ := DH0.form (by decide)
            have Or0 := DL0.row
            have okr0 := DL0.ok
            have Or1 := DH0.row
            have okr1 := DH0.ok
            clear DL0 DH0
            refine hK.out _ _ (fun _ => ⟨cat, cx0, cx1, cx2⟩) ?_
            clear hK K
            try simp only [Act.put, List.setIfInBounds_toArray, List.set_cons_zero, List.set_cons_succ]
            obtain ⟨y0, y0f, y1, y1f, y2, y2f, y3, y3f⟩ := Bx.fours (.slice Ar0 (ceL t p x.has x.cls x.code).length qr0) (.int .i64 (ceE t p x.has x.cls x.code)) (.int .i64 (ceV t p x.has x.cls x.code))
            have HRB := Lib.hid (RB.put (wq := v9) (en := ceE t p x.has x.cls x.code) (va := ceV t p x.has x.cls x.code) Bx (show w2.heap.size ≤ v6.heap.size by omega) Or0 Or1 okr0 okr1 (fun e => by have h1 := hbr0 _ e; omega) (fun e => by have h1 := hbr1 _ e; omega) apr LR (by omega))
            clear Bx Or0 Or1 hbr0 hbr1
            refine wpAnyZ_one (i := 8) (by kernel_rfl) (ReadyZ.mk rfl (fun K hK => ?_))
            go_simp
            refine hK.out _ _ (fun h => absurd h (by decide)) ?_
            clear hK K
            try simp only [Act.put, List.setIfInBounds_toArray, List.set_cons_zero, List.set_cons_succ]
            refine wpAnyZ_done (by kernel_rfl) ?_ _
            refine NoPanic.normal ?_
            go_wp2_with fail
            go_meet
            exact ⟨_, _, _, _, _, rfl, HRB.out⟩
        · go_simp
          obtain ⟨Bx, hle⟩ := box4f v5 35
          have hbl : w2.heap.size ≤ v5.heap.size := LR.size
          have sv11 : v5.heap.size < (v5.alloc (.cells #[.slice none 0 0, .int .i64 0, .int .i64 0, .slice none 0 0] 35)).heap.size := Bx.lt
          replace cat := (hle.cell zat).trans cat
          replace cx0 := (hle.cell zx0).trans cx0
          replace cx1 := (hle.cell zx1).trans cx1
          replace cx2 := (hle.cell zx2).trans cx2
          replace zat := Nat.lt_of_lt_of_le zat hle.size
          replace zx0 := Nat.lt_of_lt_of_le zx0 hle.size
          replace zx1 := Nat.lt_of_lt_of_le zx1 hle.size
          replace zx2 := Nat.lt_of_lt_of_le zx2 hle.size
          replace L0 := L0.trans hle
          replace LR := LR.trans hle
          replace Oct := own_le Oct hle
          replace Ocp := own_le Ocp hle
          clear hle
          generalize v5.alloc (.cells #[.slice none 0 0, .int .i64 0, .int .i64 0, .slice none 0 0] 35) = v11 at *
          refine hK.out _ _ (fun _ => ⟨cat, cx0, cx1, cx2⟩) ?_
          clear hK K
          try simp only [Act.put, List.setIfInBounds_toArray, List.set_cons_zero, List.set_cons_succ]
          refine wpAnyZ_one (i := 5) (by kernel_rfl) (ReadyZ.mk rfl (fun K hK => ?_))
          go_simp
          go_at_call 11
          refine (toStart_any x _).mono ?_
          rintro e v12 ⟨rfl, hle⟩
          have sv12 : v11.heap.size ≤ v12.heap.size := hle.size
          replace cat := (hle.cell zat).trans cat
          replace cx0 := (hle.cell zx0).trans cx0
          replace cx1 := (hle.cell zx1).trans cx1
          replace cx2 := (hle.cell zx2).trans cx2
          replace zat := Nat.lt_of_lt_of_le zat hle.size
          replace zx0 := Nat.lt_of_lt_of_le zx0 hle.size
          replace zx1 := Nat.lt_of_lt_of_le zx1 hle.size
          replace zx2 := Nat.lt_of_lt_of_le zx2 hle.size
          replace L0 := L0.trans hle
          replace LR := LR.trans hle
          replace Oct := own_le Oct hle
          replace Ocp := own_le Ocp hle
          replace Bx := Bx.le hle
          clear hle
          refine hK.out _ _ (fun _ => ⟨cat, cx0, cx1, cx2⟩) ?_
          clear hK K
          try simp only [Act.put, List.setIfInBounds_toArray, List.set_cons_zero, List.set_cons_succ]
          refine wpAnyZ_one (i := 6) (by kernel_rfl) (ReadyZ.mk rfl (fun K hK => ?_))
          go_simp
          go_at_call 8
          refine (sCloseExits_any _ _ _ _ _ _ t p x.has x.cls x.code ⟨hx.1, hx.2.1⟩ ⟨hx.2.2.1, hx.2.2.2⟩ _ (Sl.of_own Oct rfl (by decide) hokt) (Sl.of_own Ocp rfl (by decide) hokp)).mono ?_
          rintro e v13 ⟨vl0, vh0, rfl, DL0, DH0, apr, hle⟩
          have sv13 : v12.heap.size ≤ v13.heap.size := hle.size
          replace cat := (hle.cell zat).trans cat
          replace cx0 := (hle.cell zx0).trans cx0
          replace cx1 := (hle.cell zx1).trans cx1
          replace cx2 := (hle.cell zx2).trans cx2
          replace zat := Nat.lt_of_lt_of_le zat hle.size
          replace zx0 := Nat.lt_of_lt_of_le zx0 hle.size
          replace zx1 := Nat.lt_of_lt_of_le zx1 hle.size
          replace zx2 := Nat.lt_of_lt_of_le zx2 hle.size
          replace L0 := L0.trans hle
          replace LR := LR.trans hle
          replace Oct := own_le Oct hle
          replace Ocp := own_le Ocp hle
          replace Bx := Bx.le hle
          clear hle
          obtain ⟨Ar0, qr0, rfl, -, hbr0⟩ := DL0.form (by decide)
          obtain ⟨Ar1, qr1, rfl, -, hbr1⟩ := DH0.form (by decide)
          have Or0 := DL0.row
          have okr0 := DL0.ok
          have Or1 := DH0.row
          have okr1 := DH0.ok
          clear DL0 DH0
          refine hK.out _ _ (fun _ => ⟨cat, cx0, cx1, cx2⟩) ?_
          clear hK K
          try simp only [Act.put, List.setIfInBounds_toArray, List.set_cons_zero, List.set_cons_succ]
          obtain ⟨y0, y0f, y1, y1f, y2, y2f, y3, y3f⟩ := Bx.fours (.slice Ar0 (ceL t p x.has x.cls x.code).length qr0) (.int .i64 (ceE t p x.has x.cls x.code)) (.int .i64 (ceV t p x.has x.cls x.code))
          have HRB := Lib.hid (RB.put (wq := v12) (en := ceE t p x.has x.cls x.code) (va := ceV t p x.has x.cls x.code) Bx (show w2.heap.size ≤ v5.heap.size by omega) Or0 Or1 okr0 okr1 (fun e => by have h1 := hbr0 _ e; omega) (fun e => by have h1 := hbr1 _ e; omega) apr LR (by omega))
          clear Bx Or0 Or1 hbr0 hbr1
          refine wpAnyZ_one (i := 8) (by kernel_rfl) (ReadyZ.mk rfl (fun K hK => ?_))
          go_simp
          refine hK.out _ _ (fun h => absurd h (by decide)) ?_
          clear hK K
          try simp only [Act.put, List.setIfInBounds_toArray, List.set_cons_zero, List.set_cons_succ]
          refine wpAnyZ_done (by kernel_rfl) ?_ _
          refine NoPanic.normal ?_
          go_wp2_with fail
          go_meet
          exact ⟨_, _, _, _, _, rfl, HRB.out⟩
      · go_simp
        obtain ⟨Bx, hle⟩ := box4f v4 35
        have hbl : w2.heap.size ≤ v4.heap.size := LR.size
        have sv14 : v4.heap.size < (v4.alloc (.cells #[.slice none 0 0, .int .i64 0, .int .i64 0, .slice none 0 0] 35)).heap.size := Bx.lt
        replace cat := (hle.cell zat).trans cat
        replace cx0 := (hle.cell zx0).trans cx0
        replace cx1 := (hle.cell zx1).trans cx1
        replace cx2 := (hle.cell zx2).trans cx2
        replace zat := Nat.lt_of_lt_of_le zat hle.size
        replace zx0 := Nat.lt_of_lt_of_le zx0 hle.size
        replace zx1 := Nat.lt_of_lt_of_le zx1 hle.size
        replace zx2 := Nat.lt_of_lt_of_le zx2 hle.size
        replace L0 := L0.trans hle
        replace LR := LR.trans hle
        replace Oct := own_le Oct hle
        clear hle
        generalize v4.alloc (.cells #[.slice none 0 0, .int .i64 0, .int .i64 0, .slice none 0 0] 35) = v14 at *
        refine hK.out _ _ (fun _ => ⟨cat, cx0, cx1, cx2⟩) ?_
        clear hK K
        try simp only [Act.put, List.setIfInBounds_toArray, List.set_cons_zero, List.set_cons_succ]
        refine wpAnyZ_one (i := 3) (by kernel_rfl) (ReadyZ.mk rfl (fun K hK => ?_))
        go_simp
        go_at_call 10
        refine (toExitS_any Ap np cp p _ (hp.le L0) (by omega)).mono ?_
        rintro e v15 ⟨rfl, Ocp, hle⟩
        have sv15 : v14.heap.size ≤ v15.heap.size := hle.size
        replace cat := (hle.cell zat).trans cat
        replace cx0 := (hle.cell zx0).trans cx0
        replace cx1 := (hle.cell zx1).trans cx1
        replace cx2 := (hle.cell zx2).trans cx2
        replace zat := Nat.lt_of_lt_of_le zat hle.size
        replace zx0 := Nat.lt_of_lt_of_le zx0 hle.size
        replace zx1 := Nat.lt_of_lt_of_le zx1 hle.size
        replace zx2 := Nat.lt_of_lt_of_le zx2 hle.size
        replace L0 := L0.trans hle
        replace LR := LR.trans hle
        replace Oct := own_le Oct hle
        replace Bx := Bx.le hle
        clear hle
        refine hK.out _ _ (fun _ => ⟨cat, cx0, cx1, cx2⟩) ?_
        clear hK K
        try simp only [Act.put, List.setIfInBounds_toArray, List.set_cons_zero, List.set_cons_succ]
        refine wpAnyZ_one (i := 5) (by kernel_rfl) (ReadyZ.mk rfl (fun K hK => ?_))
        go_simp
        go_at_call 11
        refine (toStart_any x _).mono ?_
        rintro e v16 ⟨rfl, hle⟩
        have sv16 : v15.heap.size ≤ v16.heap.size := hle.size
        replace cat := (hle.cell zat).trans cat
        replace cx0 := (hle.cell zx0).trans cx0
        replace cx1 := (hle.cell zx1).trans cx1
        replace cx2 := (hle.cell zx2).trans cx2
        replace zat := Nat.lt_of_lt_of_le zat hle.size
        replace zx0 := Nat.lt_of_lt_of_le zx0 hle.size
        replace zx1 := Nat.lt_of_lt_of_le zx1 hle.size
        replace zx2 := Nat.lt_of_lt_of_le zx2 hle.size
        replace L0 := L0.trans hle
        replace LR := LR.trans hle
        replace Oct := own_le Oct hle
        replace Bx := Bx.le hle
        replace Ocp := own_le Ocp hle
        clear hle
        refine hK.out _ _ (fun _ => ⟨cat, cx0, cx1, cx2⟩) ?_
        clear hK K
        try simp only [Act.put, List.setIfInBounds_toArray, List.set_cons_zero, List.set_cons_succ]
        refine wpAnyZ_one (i := 6) (by kernel_rfl) (ReadyZ.mk rfl (fun K hK => ?_))
        go_simp
        go_at_call 8
        refine (sCloseExits_any _ _ _ _ _ _ t p x.has x.cls x.code ⟨hx.1, hx.2.1⟩ ⟨hx.2.2.1, hx.2.2.2⟩ _ (Sl.of_own Oct rfl (by decide) hokt) (Sl.of_own Ocp rfl (by decide) hokp)).mono ?_
        rintro e v17 ⟨vl0, vh0, rfl, DL0, DH0, apr, hle⟩
        have sv17 : v16.heap.size ≤ v17.heap.size := hle.size
        replace cat := (hle.cell zat).trans cat
        replace cx0 := (hle.cell zx0).trans cx0
        replace cx1 := (hle.cell zx1).trans cx1
        replace cx2 := (hle.cell zx2).trans cx2
        replace zat := Nat.lt_of_lt_of_le zat hle.size
        replace zx0 := Nat.lt_of_lt_of_le zx0 hle.size
        replace zx1 := Nat.lt_of_lt_of_le zx1 hle.size
        replace zx2 := Nat.lt_of_lt_of_le zx2 hle.size
        replace L0 := L0.trans hle
        replace LR := LR.trans hle
        replace Oct := own_le Oct hle
        replace Bx := Bx.le hle
        replace Ocp := own_le Ocp hle
        clear hle
        obtain ⟨Ar0, qr0, rfl, -, hbr0⟩ := DL0.form (by decide)
        obtain ⟨Ar1, qr1, rfl, -, hbr1⟩ := DH0.form (by decide)
        have Or0 := DL0.row
        have okr0 := DL0.ok
        have Or1 := DH0.row
        have okr1 := DH0.ok
        clear DL0 DH0
        refine hK.out _ _ (fun _ => ⟨cat, cx0, cx1, cx2⟩) ?_
        clear hK K
        try simp only [Act.put, List.setIfInBounds_toArray, List.set_cons_zero, List.set_cons_succ]
        obtain ⟨y0, y0f, y1, y1f, y2, y2f, y3, y3f⟩ := Bx.fours (.slice Ar0 (ceL t p x.has x.cls x.code).length qr0) (.int .i64 (ceE t p x.has x.cls x.code)) (.int .i64 (ceV t p x.has x.cls x.code))
        have HRB := Lib.hid (RB.put (wq := v16) (en := ceE t p x.has x.cls x.code) (va := ceV t p x.has x.cls x.code) Bx (show w2.heap.size ≤ v4.heap.size by omega) Or0 Or1 okr0 okr1 (fun e => by have h1 := hbr0 _ e; omega) (fun e => by have h1 := hbr1 _ e; omega) apr LR (by omega))
        clear Bx Or0 Or1 hbr0 hbr1
        refine wpAnyZ_one (i := 8) (by kernel_rfl) (ReadyZ.mk rfl (fun K hK => ?_))
        go_simp
        refine hK.out _ _ (fun h => absurd h (by decide)) ?_
        clear hK K
        try simp only [Act.put, List.setIfInBounds_toArray, List.set_cons_zero, List.set_cons_succ]
        refine wpAnyZ_done (by kernel_rfl) ?_ _
        refine NoPanic.normal ?_
        go_wp2_with fail
        go_meet
        exact ⟨_, _, _, _, _, rfl, HRB.out⟩
    · go_simp
      obtain ⟨Bx, hle⟩ := box4f v3 35
      have hbl : w2.heap.size ≤ v3.heap.size := LR.size
      have sv18 : v3.heap.size < (v3.alloc (.cells #[.slice none 0 0, .int .i64 0, .int .i64 0, .slice none 0 0] 35)).heap.size := Bx.lt
      replace cat := (hle.cell zat).trans cat
      replace cx0 := (hle.cell zx0).trans cx0
      replace cx1 := (hle.cell zx1).trans cx1
      replace cx2 := (hle.cell zx2).trans cx2
      replace zat := Nat.lt_of_lt_of_le zat hle.size
      replace zx0 := Nat.lt_of_lt_of_le zx0 hle.size
      replace zx1 := Nat.lt_of_lt_of_le zx1 hle.size
      replace zx2 := Nat.lt_of_lt_of_le zx2 hle.size
      replace L0 := L0.trans hle
      replace LR := LR.trans hle
      clear hle
      generalize v3.alloc (.cells #[.slice none 0 0, .int .i64 0, .int .i64 0, .slice none 0 0] 35) = v18 at *
      refine hK.out _ _ (fun _ => ⟨cat, cx0, cx1, cx2⟩) ?_
      clear hK K
      try simp only [Act.put, List.setIfInBounds_toArray, List.set_cons_zero, List.set_cons_succ]
      refine wpAnyZ_one (i := 1) (by kernel_rfl) (ReadyZ.mk rfl (fun K hK => ?_))
      go_simp
      go_at_call 9
      refine (toTree_any At nt ct t _ (ht.le L0) (by omega)).mono ?_
      rintro e v19 ⟨gct, rfl, hgct, Oct, hle⟩
      have sv19 : v18.heap.size ≤ v19.heap.size := hle.size
      replace cat := (hle.cell zat).trans cat
      replace cx0 := (hle.cell zx0).trans cx0
      replace cx1 := (hle.cell zx1).trans cx1
      replace cx2 := (hle.cell zx2).trans cx2
      replace zat := Nat.lt_of_lt_of_le zat hle.size
      replace zx0 := Nat.lt_of_lt_of_le zx0 hle.size
      replace zx1 := Nat.lt_of_lt_of_le zx1 hle.size
      replace zx2 := Nat.lt_of_lt_of_le zx2 hle.size
      replace L0 := L0.trans hle
      replace LR := LR.trans hle
      replace Bx := Bx.le hle
      clear hle
      refine hK.out _ _ (fun _ => ⟨cat, cx0, cx1, cx2⟩) ?_
      clear hK K
      try simp only [Act.put, List.setIfInBounds_toArray, List.set_cons_zero, List.set_cons_succ]
      refine wpAnyZ_one (i := 3) (by kernel_rfl) (ReadyZ.mk rfl (fun K hK => ?_))
      go_simp
      go_at_call 10
      refine (toExitS_any Ap np cp p _ (hp.le L0) (by omega)).mono ?_
      rintro e v20 ⟨rfl, Ocp, hle⟩
      have sv20 : v19.heap.size ≤ v20.heap.size := hle.size
      replace cat := (hle.cell zat).trans cat
      replace cx0 := (hle.cell zx0).trans cx0
      replace cx1 := (hle.cell zx1).trans cx1
      replace cx2 := (hle.cell zx2).trans cx2
      replace zat := Nat.lt_of_lt_of_le zat hle.size
      replace zx0 := Nat.lt_of_lt_of_le zx0 hle.size
      replace zx1 := Nat.lt_of_lt_of_le zx1 hle.size
      replace zx2 := Nat.lt_of_lt_of_le zx2 hle.size
      replace L0 := L0.trans hle
      replace LR := LR.trans hle
      replace Bx := Bx.le hle
      replace Oct := own_le Oct hle
      clear hle
      refine hK.out _ _ (fun _ => ⟨cat, cx0, cx1, cx2⟩) ?_
      clear hK K
      try simp only [Act.put, List.setIfInBounds_toArray, List.set_cons_zero, List.set_cons_succ]
      refine wpAnyZ_one (i := 5) (by kernel_rfl) (ReadyZ.mk rfl (fun K hK => ?_))
      go_simp
      go_at_call 11
      refine (toStart_any x _).mono ?_
      rintro e v21 ⟨rfl, hle⟩
      have sv21 : v20.heap.size ≤ v21.heap.size := hle.size
      replace cat := (hle.cell zat).trans cat
      replace cx0 := (hle.cell zx0).trans cx0
      replace cx1 := (hle.cell zx1).trans cx1
      replace cx2 := (hle.cell zx2).trans cx2
      replace zat := Nat.lt_of_lt_of_le zat hle.size
      replace zx0 := Nat.lt_of_lt_of_le zx0 hle.size
      replace zx1 := Nat.lt_of_lt_of_le zx1 hle.size
      replace zx2 := Nat.lt_of_lt_of_le zx2 hle.size
      replace L0 := L0.trans hle
      replace LR := LR.trans hle
      replace Bx := Bx.le hle
      replace Oct := own_le Oct hle
      replace Ocp := own_le Ocp hle
      clear hle
      refine hK.out _ _ (fun _ => ⟨cat, cx0, cx1, cx2⟩) ?_
      clear hK K
      try simp only [Act.put, List.setIfInBounds_toArray, List.set_cons_zero, List.set_cons_succ]
      refine wpAnyZ_one (i := 6) (by kernel_rfl) (ReadyZ.mk rfl (fun K hK => ?_))
      go_simp
      go_at_call 8
      refine (sCloseExits_any _ _ _ _ _ _ t p x.has x.cls x.code ⟨hx.1, hx.2.1⟩ ⟨hx.2.2.1, hx.2.2.2⟩ _ (Sl.of_own Oct rfl (by decide) hokt) (Sl.of_own Ocp rfl (by decide) hokp)).mono ?_
      rintro e v22 ⟨vl0, vh0, rfl, DL0, DH0, apr, hle⟩
      have sv22 : v21.heap.size ≤ v22.heap.size := hle.size
      replace cat := (hle.cell zat).trans cat
      replace cx0 := (hle.cell zx0).trans cx0
      replace cx1 := (hle.cell zx1).trans cx1
      replace cx2 := (hle.cell zx2).trans cx2
      replace zat := Nat.lt_of_lt_of_le zat hle.size
      replace zx0 := Nat.lt_of_lt_of_le zx0 hle.size
      replace zx1 := Nat.lt_of_lt_of_le zx1 hle.size
      replace zx2 := Nat.lt_of_lt_of_le zx2 hle.size
      replace L0 := L0.trans hle
      replace LR := LR.trans hle
      replace Bx := Bx.le hle
      replace Oct := own_le Oct hle
      replace Ocp := own_le Ocp hle
      clear hle
      obtain ⟨Ar0, qr0, rfl, -, hbr0⟩ := DL0.form (by decide)
      obtain ⟨Ar1, qr1, rfl, -, hbr1⟩ := DH0.form (by decide)
      have Or0 := DL0.row
      have okr0 := DL0.ok
      have Or1 := DH0.row
      have okr1 := DH0.ok
      clear DL0 DH0
      refine hK.out _ _ (fun _ => ⟨cat, cx0, cx1, cx2⟩) ?_
      clear hK K
      try simp only [Act.put, List.setIfInBounds_toArray, List.set_cons_zero, List.set_cons_succ]
      obtain ⟨y0, y0f, y1, y1f, y2, y2f, y3, y3f⟩ := Bx.fours (.slice Ar0 (ceL t p x.has x.cls x.code).length qr0) (.int .i64 (ceE t p x.has x.cls x.code)) (.int .i64 (ceV t p x.has x.cls x.code))
      have HRB := Lib.hid (RB.put (wq := v21) (en := ceE t p x.has x.cls x.code) (va := ceV t p x.has x.cls x.code) Bx (show w2.heap.size ≤ v3.heap.size by omega) Or0 Or1 okr0 okr1 (fun e => by have h1 := hbr0 _ e; omega) (fun e => by have h1 := hbr1 _ e; omega) apr LR (by omega))
      clear Bx Or0 Or1 hbr0 hbr1
      refine wpAnyZ_one (i := 8) (by kernel_rfl) (ReadyZ.mk rfl (fun K hK => ?_))
      go_simp
      refine hK.out _ _ (fun h => absurd h (by decide)) ?_
      clear hK K
      try simp only [Act.put, List.setIfInBounds_toArray, List.set_cons_zero, List.set_cons_succ]
      refine wpAnyZ_done (by kernel_rfl) ?_ _
      refine NoPanic.normal ?_
      go_wp2_with fail
      go_meet
      exact ⟨_, _, _, _, _, rfl, HRB.out⟩
  case rest =>
    obtain ⟨gw, Aw0, Aw1, qw0, qw1, rfl, RBh⟩ := hcut
    generalize wc = w23 at *
    have hle := RBh.G
    have s23 := hle.size
    replace cat := (hle.cell zat).trans cat
    replace cx0 := (hle.cell zx0).trans cx0
    replace cx1 := (hle.cell zx1).trans cx1
    replace cx2 := (hle.cell zx2).trans cx2
    replace zat := Nat.lt_of_lt_of_le zat hle.size
    replace zx0 := Nat.lt_of_lt_of_le zx0 hle.size
    replace zx1 := Nat.lt_of_lt_of_le zx1 hle.size
    replace zx2 := Nat.lt_of_lt_of_le zx2 hle.size
    replace L0 := L0.trans hle
    clear hle
    have bdw := RBh.bd
    have low := RBh.lo
    have hiw := RBh.b.lt
    have cw0 := RBh.b.c0
    have zw0 := hiw
    have cw1 := RBh.b.c1
    have zw1 := hiw
    have cw2 := RBh.b.c2
    have zw2 := hiw
    have cw3 := RBh.b.c3
    have zw3 := hiw
    have Ow0 := RBh.O
    have Ow1 := RBh.H
    have okLw0 := RBh.okl
    have okLw1 := RBh.okh
    have Pw := RBh.ap
    clear RBh
    have S00 := Sl.of_own Ow0 rfl (by decide) okLw0
    have HU00 := Lib.hid (S00.under)
    have S01 := Sl.of_own Ow1 rfl (by decide) okLw1
    have HU01 := Lib.hid (S01.under)
    clear Ow0 Ow1 okLw0 okLw1 Pw bdw
    go_wp2_with fail
    refine (toTree_any At nt ct t _ (ht.le L0) (by omega)).mono ?_
    rintro e w24 ⟨gxt, rfl, hgxt, Oxt, hle⟩
    have s24 := hle.size
    replace cat := (hle.cell zat).trans cat
    replace cx0 := (hle.cell zx0).trans cx0
    replace cx1 := (hle.cell zx1).trans cx1
    replace cx2 := (hle.cell zx2).trans cx2
    replace cw0 := (hle.cell zw0).trans cw0
    replace cw1 := (hle.cell zw1).trans cw1
    replace cw2 := (hle.cell zw2).trans cw2
    replace cw3 := (hle.cell zw3).trans cw3
    replace zat := Nat.lt_of_lt_of_le zat hle.size
    replace zx0 := Nat.lt_of_lt_of_le zx0 hle.size
    replace zx1 := Nat.lt_of_lt_of_le zx1 hle.size
    replace zx2 := Nat.lt_of_lt_of_le zx2 hle.size
    replace L0 := L0.trans hle
    replace zw0 := Nat.lt_of_lt_of_le zw0 hle.size
    replace zw1 := Nat.lt_of_lt_of_le zw1 hle.size
    replace zw2 := Nat.lt_of_lt_of_le zw2 hle.size
    replace zw3 := Nat.lt_of_lt_of_le zw3 hle.size
    replace S00 := S00.le hle
    replace S01 := S01.le hle
    clear hle
    have hbxt := own_lt Oxt
    go_wp2_with fail
    obtain ⟨cxt, zxt, hleB⟩ := box1 w24 (.slice (some ⟨gxt, 0, none⟩) nt nt) 39
    replace cat := (hleB.cell zat).trans cat
    replace cx0 := (hleB.cell zx0).trans cx0
    replace cx1 := (hleB.cell zx1).trans cx1
    replace cx2 := (hleB.cell zx2).trans cx2
    replace cw0 := (hleB.cell zw0).trans cw0
    replace cw1 := (hleB.cell zw1).trans cw1
    replace cw2 := (hleB.cell zw2).trans cw2
    replace cw3 := (hleB.cell zw3).trans cw3
    replace zat := Nat.lt_of_lt_of_le zat hleB.size
    replace zx0 := Nat.lt_of_lt_of_le zx0 hleB.size
    replace zx1 := Nat.lt_of_lt_of_le zx1 hleB.size
    replace zx2 := Nat.lt_of_lt_of_le zx2 hleB.size
    replace L0 := L0.trans hleB
    replace zw0 := Nat.lt_of_lt_of_le zw0 hleB.size
    replace zw1 := Nat.lt_of_lt_of_le zw1 hleB.size
    replace zw2 := Nat.lt_of_lt_of_le zw2 hleB.size
    replace zw3 := Nat.lt_of_lt_of_le zw3 hleB.size
    replace S00 := S00.le hleB
    replace S01 := S01.le hleB
    replace Oxt := own_le Oxt hleB
    clear hleB
    generalize w24.alloc (.cells #[.slice (some ⟨gxt, 0, none⟩) nt nt] 39) = w25 at *
    have s25 := zxt
    refine (toExitS_any Ap np cp p _ (hp.le L0) (by omega)).mono ?_
    rintro e w26 ⟨rfl, Oxp, hle⟩
    have s26 := hle.size
    replace cat := (hle.cell zat).trans cat
    replace cx0 := (hle.cell zx0).trans cx0
    replace cx1 := (hle.cell zx1).trans cx1
    replace cx2 := (hle.cell zx2).trans cx2
    replace cw0 := (hle.cell zw0).trans cw0
    replace cw1 := (hle.cell zw1).trans cw1
    replace cw2 := (hle.cell zw2).trans cw2
    replace cw3 := (hle.cell zw3).trans cw3
    replace cxt := (hle.cell zxt).trans cxt
    replace zat := Nat.lt_of_lt_of_le zat hle.size
    replace zx0 := Nat.lt_of_lt_of_le zx0 hle.size
    replace zx1 := Nat.lt_of_lt_of_le zx1 hle.size
    replace zx2 := Nat.lt_of_lt_of_le zx2 hle.size
    replace L0 := L0.trans hle
    replace zw0 := Nat.lt_of_lt_of_le zw0 hle.size
    replace zw1 := Nat.lt_of_lt_of_le zw1 hle.size
    replace zw2 := Nat.lt_of_lt_of_le zw2 hle.size
    replace zw3 := Nat.lt_of_lt_of_le zw3 hle.size
    replace S00 := S00.le hle
    replace S01 := S01.le hle
    replace Oxt := own_le Oxt hle
    replace zxt := Nat.lt_of_lt_of_le zxt hle.size
    clear hle
    have hbxp := own_lt Oxp
    go_wp2_with fail
    go_cut [11] from 37 (fun s wx => ∃ (g : Nat) (A0 A1 : Option Addr) (q0 q1 : Nat), s = .pointer (some ⟨g, 0, none⟩) ∧ RB w26 wx g A0 A1 q0 q1 (ceL t p x.has x.cls x.code) (ceH t p x.has x.cls x.code) (ceE t p x.has x.cls x.code) (ceV t p x.has x.cls x.code))
    case first =>
      have LR := (Le.refl w26).drew
      replace cxt := (show w26.drew.cell? _ = _ from cxt)
      replace cx0 := (show w26.drew.cell? _ = _ from cx0)
      replace cx1 := (show w26.drew.cell? _ = _ from cx1)
      replace cx2 := (show w26.drew.cell? _ = _ from cx2)
      replace L0 := L0.drew
      replace Oxt := Oxt.drew
      replace Oxp := Oxp.drew
      replace zxt := (show _ < w26.drew.heap.size from zxt)
      replace zx0 := (show _ < w26.drew.heap.size from zx0)
      replace zx1 := (show _ < w26.drew.heap.size from zx1)
      replace zx2 := (show _ < w26.drew.heap.size from zx2)
      refine wp_region_noPanic ?_
      refine wp_region_Z (fun w' => w'.cell? ⟨w24.heap.size, 0, none⟩ = some (.slice (some ⟨gxt, 0, none⟩) nt nt) ∧ w'.cell? ⟨w.heap.size + 1, 0, none⟩ = some (.bool x.has) ∧ w'.cell? ⟨w.heap.size + 1, 1, none⟩ = some (.int .i64 x.cls) ∧ w'.cell? ⟨w.heap.size + 1, 2, none⟩ = some (.int .i64 x.code)) [6] (by kernel_rfl) ?_
      have sv27 : w26.heap.size ≤ w26.drew.heap.size := LR.size
      generalize w26.drew = v27 at *
      refine wpAnyZ_take (i := 0) (v := ?_) rfl (by kernel_rfl) (fun _ _ _ h => h) (Or.inl ⟨by rfl, ?_⟩) (⟨cxt, cx0, cx1, cx2⟩) ?_
      rotate_left 1
      · (intro w hSw; (try dsimp only at hSw); go_simp; try with_reducible rfl)
      try simp only [Act.put, List.setIfInBounds_toArray, List.set_cons_zero, List.set_cons_succ]
      refine wpAnyZ_take (i := 1) (v := ?_) rfl (by kernel_rfl) (fun _ _ _ h => h) (Or.inl ⟨by rfl, ?_⟩) (⟨cxt, cx0, cx1, cx2⟩) ?_
      rotate_left 1
      · (intro w hSw; (try dsimp only at hSw); go_simp; try with_reducible rfl)
      try simp only [Act.put, List.setIfInBounds_toArray, List.set_cons_zero, List.set_cons_succ]
      refine wpAnyZ_take (i := 2) (v := ?_) rfl (by kernel_rfl) (fun _ _ _ h => h) (Or.inl ⟨by rfl, ?_⟩) (⟨cxt, cx0, cx1, cx2⟩) ?_
      rotate_left 1
      · (intro w hSw; (try dsimp only at hSw); go_simp; try with_reducible rfl)
      try simp only [Act.put, List.setIfInBounds_toArray, List.set_cons_zero, List.set_cons_succ]
      refine wpAnyZ_two (i := 3) (k := 5) (by kernel_rfl) (ReadyZ.mk rfl (fun K hK => ?_)) (ReadyZ.mk rfl (fun K hK => ?_))
      · go_simp
        go_at_call 11
        refine (toStart_any x _).mono ?_
        rintro e v28 ⟨rfl, hle⟩
        have sv28 : v27.heap.size ≤ v28.heap.size := hle.size
        replace cxt := (hle.cell zxt).trans cxt
        replace cx0 := (hle.cell zx0).trans cx0
        replace cx1 := (hle.cell zx1).trans cx1
        replace cx2 := (hle.cell zx2).trans cx2
        replace zxt := Nat.lt_of_lt_of_le zxt hle.size
        replace zx0 := Nat.lt_of_lt_of_le zx0 hle.size
        replace zx1 := Nat.lt_of_lt_of_le zx1 hle.size
        replace zx2 := Nat.lt_of_lt_of_le zx2 hle.size
        replace L0 := L0.trans hle
        replace Oxt := own_le Oxt hle
        replace Oxp := own_le Oxp hle
        replace LR := LR.trans hle
        clear hle
        refine hK.out _ _ (fun _ => ⟨cxt, cx0, cx1, cx2⟩) ?_
        clear hK K
        try simp only [Act.put, List.setIfInBounds_toArray, List.set_cons_zero, List.set_cons_succ]
        refine wpAnyZ_two (i := 4) (k := 5) (by kernel_rfl) (ReadyZ.mk rfl (fun K hK => ?_)) (ReadyZ.mk rfl (fun K hK => ?_))
        · go_simp
          go_at_call 12
          refine (iCloseExits_any _ _ _ _ _ _ t p x.has x.cls x.code ⟨hx.1, hx.2.1⟩ ⟨hx.2.2.1, hx.2.2.2⟩ _ (Sl.of_own Oxt rfl (by decide) hokt) (Sl.of_own Oxp rfl (by decide) hokp)).mono ?_
          rintro e v29 ⟨vl0, vh0, rfl, DL0, DH0, apr, hle⟩
          have sv29 : v28.heap.size ≤ v29.heap.size := hle.size
          replace cxt := (hle.cell zxt).trans cxt
          replace cx0 := (hle.cell zx0).trans cx0
          replace cx1 := (hle.cell zx1).trans cx1
          replace cx2 := (hle.cell zx2).trans cx2
          replace zxt := Nat.lt_of_lt_of_le zxt hle.size
          replace zx0 := Nat.lt_of_lt_of_le zx0 hle.size
          replace zx1 := Nat.lt_of_lt_of_le zx1 hle.size
          replace zx2 := Nat.lt_of_lt_of_le zx2 hle.size
          replace L0 := L0.trans hle
          replace Oxt := own_le Oxt hle
          replace Oxp := own_le Oxp hle
          replace LR := LR.trans hle
          clear hle
          obtain ⟨Ar0, qr0, rfl, -, hbr0⟩ := DL0.form (by decide)
          obtain ⟨Ar1, qr1, rfl, -, hbr1⟩ := DH0.form (by decide)
          have Or0 := DL0.row
          have okr0 := DL0.ok
          have Or1 := DH0.row
          have okr1 := DH0.ok
          clear DL0 DH0
          refine hK.out _ _ (fun _ => ⟨cxt, cx0, cx1, cx2⟩) ?_
          clear hK K
          try simp only [Act.put, List.setIfInBounds_toArray, List.set_cons_zero, List.set_cons_succ]
          refine wpAnyZ_one (i := 5) (by kernel_rfl) (ReadyZ.mk rfl (fun K hK => ?_))
          go_simp
          obtain ⟨Bx, hle⟩ := box4f v29 35
          have hbl : w26.heap.size ≤ v29.heap.size := LR.size
          have sv30 : v29.heap.size < (v29.alloc (.cells #[.slice none 0 0, .int .i64 0, .int .i64 0, .slice none 0 0] 35)).heap.size := Bx.lt
          replace cxt := (hle.cell zxt).trans cxt
          replace cx0 := (hle.cell zx0).trans cx0
          replace cx1 := (hle.cell zx1).trans cx1
          replace cx2 := (hle.cell zx2).trans cx2
          replace zxt := Nat.lt_of_lt_of_le zxt hle.size
          replace zx0 := Nat.lt_of_lt_of_le zx0 hle.size
          replace zx1 := Nat.lt_of_lt_of_le zx1 hle.size
          replace zx2 := Nat.lt_of_lt_of_le zx2 hle.size
          replace L0 := L0.trans hle
          replace Oxt := own_le Oxt hle
          replace Oxp := own_le Oxp hle
          replace LR := LR.trans hle
          replace Or0 := own_le Or0 hle
          replace Or1 := own_le Or1 hle
          clear hle
          generalize v29.alloc (.cells #[.slice none 0 0, .int .i64 0, .int .i64 0, .slice none 0 0] 35) = v30 at *
          refine hK.out _ _ (fun _ => ⟨cxt, cx0, cx1, cx2⟩) ?_
          clear hK K
          try simp only [Act.put, List.setIfInBounds_toArray, List.set_cons_zero, List.set_cons_succ]
          obtain ⟨y0, y0f, y1, y1f, y2, y2f, y3, y3f⟩ := Bx.fours (.slice Ar0 (ceL t p x.has x.cls x.code).length qr0) (.int .i64 (ceE t p x.has x.cls x.code)) (.int .i64 (ceV t p x.has x.cls x.code))
          have HRB := Lib.hid (RB.put (wq := v28) (en := ceE t p x.has x.cls x.code) (va := ceV t p x.has x.cls x.code) Bx (show w26.heap.size ≤ v29.heap.size by omega) Or0 Or1 okr0 okr1 (fun e => by have h1 := hbr0 _ e; omega) (fun e => by have h1 := hbr1 _ e; omega) apr LR (by omega))
          clear Bx Or0 Or1 hbr0 hbr1
          refine wpAnyZ_one (i := 6) (by kernel_rfl) (ReadyZ.mk rfl (fun K hK => ?_))
          go_simp
          refine hK.out _ _ (fun h => absurd h (by decide)) ?_
          clear hK K
          try simp only [Act.put, List.setIfInBounds_toArray, List.set_cons_zero, List.set_cons_succ]
          refine wpAnyZ_done (by kernel_rfl) ?_ _
          refine NoPanic.normal ?_
          go_wp2_with fail
          go_meet
          exact ⟨_, _, _, _, _, rfl, HRB.out⟩
        · go_simp
          obtain ⟨Bx, hle⟩ := box4f v28 35
          have hbl : w26.heap.size ≤ v28.heap.size := LR.size
          have sv31 : v28.heap.size < (v28.alloc (.cells #[.slice none 0 0, .int .i64 0, .int .i64 0, .slice none 0 0] 35)).heap.size := Bx.lt
          replace cxt := (hle.cell zxt).trans cxt
          replace cx0 := (hle.cell zx0).trans cx0
          replace cx1 := (hle.cell zx1).trans cx1
          replace cx2 := (hle.cell zx2).trans cx2
          replace zxt := Nat.lt_of_lt_of_le zxt hle.size
          replace zx0 := Nat.lt_of_lt_of_le zx0 hle.size
          replace zx1 := Nat.lt_of_lt_of_le zx1 hle.size
          replace zx2 := Nat.lt_of_lt_of_le zx2 hle.size
          replace L0 := L0.trans hle
          replace Oxt := own_le Oxt hle
          replace Oxp := own_le Oxp hle
          replace LR := LR.trans hle
          clear hle
          generalize v28.alloc (.cells #[.slice none 0 0, .int .i64 0, .int .i64 0, .slice none 0 0] 35) = v31 at *
          refine hK.out _ _ (fun _ => ⟨cxt, cx0, cx1, cx2⟩) ?_
          clear hK K
          try simp only [Act.put, List.setIfInBounds_toArray, List.set_cons_zero, List.set_cons_succ]
          refine wpAnyZ_one (i := 4) (by kernel_rfl) (ReadyZ.mk rfl (fun K hK => ?_))
          go_simp
          go_at_call 12
          refine (iCloseExits_any _ _ _ _ _ _ t p x.has x.cls x.code ⟨hx.1, hx.2.1⟩ ⟨hx.2.2.1, hx.2.2.2⟩ _ (Sl.of_own Oxt rfl (by decide) hokt) (Sl.of_own Oxp rfl (by decide) hokp)).mono ?_
          rintro e v32 ⟨vl0, vh0, rfl, DL0, DH0, apr, hle⟩
          have sv32 : v31.heap.size ≤ v32.heap.size := hle.size
          replace cxt := (hle.cell zxt).trans cxt
          replace cx0 := (hle.cell zx0).trans cx0
          replace cx1 := (hle.cell zx1).trans cx1
          replace cx2 := (hle.cell zx2).trans cx2
          replace zxt := Nat.lt_of_lt_of_le zxt hle.size
          replace zx0 := Nat.lt_of_lt_of_le zx0 hle.size
          replace zx1 := Nat.lt_of_lt_of_le zx1 hle.size
          replace zx2 := Nat.lt_of_lt_of_le zx2 hle.size
          replace L0 := L0.trans hle
          replace Oxt := own_le Oxt hle
          replace Oxp := own_le Oxp hle
          replace LR := LR.trans hle
          replace Bx := Bx.le hle
          clear hle
          obtain ⟨Ar0, qr0, rfl, -, hbr0⟩ := DL0.form (by decide)
          obtain ⟨Ar1, qr1, rfl, -, hbr1⟩ := DH0.form (by decide)
          have Or0 := DL0.row
          have okr0 := DL0.ok
          have Or1 := DH0.row
          have okr1 := DH0.ok
          clear DL0 DH0
          refine hK.out _ _ (fun _ => ⟨cxt, cx0, cx1, cx2⟩) ?_
          clear hK K
          try simp only [Act.put, List.setIfInBounds_toArray, List.set_cons_zero, List.set_cons_succ]
          obtain ⟨y0, y0f, y1, y1f, y2, y2f, y3, y3f⟩ := Bx.fours (.slice Ar0 (ceL t p x.has x.cls x.code).length qr0) (.int .i64 (ceE t p x.has x.cls x.code)) (.int .i64 (ceV t p x.has x.cls x.code))
          have HRB := Lib.hid (RB.put (wq := v31) (en := ceE t p x.has x.cls x.code) (va := ceV t p x.has x.cls x.code) Bx (show w26.heap.size ≤ v28.heap.size by omega) Or0 Or1 okr0 okr1 (fun e => by have h1 := hbr0 _ e; omega) (fun e => by have h1 := hbr1 _ e; omega) apr LR (by omega))
          clear Bx Or0 Or1 hbr0 hbr1
          refine wpAnyZ_one (i := 6) (by kernel_rfl) (ReadyZ.mk rfl (fun K hK => ?_))
          go_simp
          refine hK.out _ _ (fun h => absurd h (by decide)) ?_
          clear hK K
          try simp only [Act.put, List.setIfInBounds_toArray, List.set_cons_zero, List.set_cons_succ]
          refine wpAnyZ_done (by kernel_rfl) ?_ _
          refine NoPanic.normal ?_
          go_wp2_with fail
          go_meet
          exact ⟨_, _, _, _, _, rfl, HRB.out⟩
      · go_simp
        obtain ⟨Bx, hle⟩ := box4f v27 35
        have hbl : w26.heap.size ≤ v27.heap.size := LR.size
        have sv33 : v27.heap.size < (v27.alloc (.cells #[.slice none 0 0, .int .i64 0, .int .i64 0, .slice none 0 0] 35)).heap.size := Bx.lt
        replace cxt := (hle.cell zxt).trans cxt
        replace cx0 := (hle.cell zx0).trans cx0
        replace cx1 := (hle.cell zx1).trans cx1
        replace cx2 := (hle.cell zx2).trans cx2
        replace zxt := Nat.lt_of_lt_of_le zxt hle.size
        replace zx0 := Nat.lt_of_lt_of_le zx0 hle.size
        replace zx1 := Nat.lt_of_lt_of_le zx1 hle.size
        replace zx2 := Nat.lt_of_lt_of_le zx2 hle.size
        replace L0 := L0.trans hle
        replace Oxt := own_le Oxt hle
        replace Oxp := own_le Oxp hle
        replace LR := LR.trans hle
        clear hle
        generalize v27.alloc (.cells #[.slice none 0 0, .int .i64 0, .int .i64 0, .slice none 0 0] 35) = v33 at *
        refine hK.out _ _ (fun _ => ⟨cxt, cx0, cx1, cx2⟩) ?_
        clear hK K
        try simp only [Act.put, List.setIfInBounds_toArray, List.set_cons_zero, List.set_cons_succ]
        refine wpAnyZ_one (i := 3) (by kernel_rfl) (ReadyZ.mk rfl (fun K hK => ?_))
        go_simp
        go_at_call 11
        refine (toStart_any x _).mono ?_
        rintro e v34 ⟨rfl, hle⟩
        have sv34 : v33.heap.size ≤ v34.heap.size := hle.size
        replace cxt := (hle.cell zxt).trans cxt
        replace cx0 := (hle.cell zx0).trans cx0
        replace cx1 := (hle.cell zx1).trans cx1
        replace cx2 := (hle.cell zx2).trans cx2
        replace zxt := Nat.lt_of_lt_of_le zxt hle.size
        replace zx0 := Nat.lt_of_lt_of_le zx0 hle.size
        replace zx1 := Nat.lt_of_lt_of_le zx1 hle.size
        replace zx2 := Nat.lt_of_lt_of_le zx2 hle.size
        replace L0 := L0.trans hle
        replace Oxt := own_le Oxt hle
        replace Oxp := own_le Oxp hle
        replace LR := LR.trans hle
        replace Bx := Bx.le hle
        clear hle
        refine hK.out _ _ (fun _ => ⟨cxt, cx0, cx1, cx2⟩) ?_
        clear hK K
        try simp only [Act.put, List.setIfInBounds_toArray, List.set_cons_zero, List.set_cons_succ]
        refine wpAnyZ_one (i := 4) (by kernel_rfl) (ReadyZ.mk rfl (fun K hK => ?_))
        go_simp
        go_at_call 12
        refine (iCloseExits_any _ _ _ _ _ _ t p x.has x.cls x.code ⟨hx.1, hx.2.1⟩ ⟨hx.2.2.1, hx.2.2.2⟩ _ (Sl.of_own Oxt rfl (by decide) hokt) (Sl.of_own Oxp rfl (by decide) hokp)).mono ?_
        rintro e v35 ⟨vl0, vh0, rfl, DL0, DH0, apr, hle⟩
        have sv35 : v34.heap.size ≤ v35.heap.size := hle.size
        replace cxt := (hle.cell zxt).trans cxt
        replace cx0 := (hle.cell zx0).trans cx0
        replace cx1 := (hle.cell zx1).trans cx1
        replace cx2 := (hle.cell zx2).trans cx2
        replace zxt := Nat.lt_of_lt_of_le zxt hle.size
        replace zx0 := Nat.lt_of_lt_of_le zx0 hle.size
        replace zx1 := Nat.lt_of_lt_of_le zx1 hle.size
        replace zx2 := Nat.lt_of_lt_of_le zx2 hle.size
        replace L0 := L0.trans hle
        replace Oxt := own_le Oxt hle
        replace Oxp := own_le Oxp hle
        replace LR := LR.trans hle
        replace Bx := Bx.le hle
        clear hle
        obtain ⟨Ar0, qr0, rfl, -, hbr0⟩ := DL0.form (by decide)
        obtain ⟨Ar1, qr1, rfl, -, hbr1⟩ := DH0.form (by decide)
        have Or0 := DL0.row
        have okr0 := DL0.ok
        have Or1 := DH0.row
        have okr1 := DH0.ok
        clear DL0 DH0
        refine hK.out _ _ (fun _ => ⟨cxt, cx0, cx1, cx2⟩) ?_
        clear hK K
        try simp only [Act.put, List.setIfInBounds_toArray, List.set_cons_zero, List.set_cons_succ]
        obtain ⟨y0, y0f, y1, y1f, y2, y2f, y3, y3f⟩ := Bx.fours (.slice Ar0 (ceL t p x.has x.cls x.code).length qr0) (.int .i64 (ceE t p x.has x.cls x.code)) (.int .i64 (ceV t p x.has x.cls x.code))
        have HRB := Lib.hid (RB.put (wq := v34) (en := ceE t p x.has x.cls x.code) (va := ceV t p x.has x.cls x.code) Bx (show w26.heap.size ≤ v27.heap.size by omega) Or0 Or1 okr0 okr1 (fun e => by have h1 := hbr0 _ e; omega) (fun e => by have h1 := hbr1 _ e; omega) apr LR (by omega))
        clear Bx Or0 Or1 hbr0 hbr1
        refine wpAnyZ_one (i := 6) (by kernel_rfl) (ReadyZ.mk rfl (fun K hK => ?_))
        go_simp
        refine hK.out _ _ (fun h => absurd h (by decide)) ?_
        clear hK K
        try simp only [Act.put, List.setIfInBounds_toArray, List.set_cons_zero, List.set_cons_succ]
        refine wpAnyZ_done (by kernel_rfl) ?_ _
        refine NoPanic.normal ?_
        go_wp2_with fail
        go_meet
        exact ⟨_, _, _, _, _, rfl, HRB.out⟩
    case rest =>
      obtain ⟨gg, Ag0, Ag1, qg0, qg1, rfl, RBh⟩ := hcut
      generalize wc = w36 at *
      have hle := RBh.G
      have s36 := hle.size
      replace cat := (hle.cell zat).trans cat
      replace cx0 := (hle.cell zx0).trans cx0
      replace cx1 := (hle.cell zx1).trans cx1
      replace cx2 := (hle.cell zx2).trans cx2
      replace cw0 := (hle.cell zw0).trans cw0
      replace cw1 := (hle.cell zw1).trans cw1
      replace cw2 := (hle.cell zw2).trans cw2
      replace cw3 := (hle.cell zw3).trans cw3
      replace cxt := (hle.cell zxt).trans cxt
      replace zat := Nat.lt_of_lt_of_le zat hle.size
      replace zx0 := Nat.lt_of_lt_of_le zx0 hle.size
      replace zx1 := Nat.lt_of_lt_of_le zx1 hle.size
      replace zx2 := Nat.lt_of_lt_of_le zx2 hle.size
      replace L0 := L0.trans hle
      replace zw0 := Nat.lt_of_lt_of_le zw0 hle.size
      replace zw1 := Nat.lt_of_lt_of_le zw1 hle.size
      replace zw2 := Nat.lt_of_lt_of_le zw2 hle.size
      replace zw3 := Nat.lt_of_lt_of_le zw3 hle.size
      replace S00 := S00.le hle
      replace S01 := S01.le hle
      replace Oxt := own_le Oxt hle
      replace zxt := Nat.lt_of_lt_of_le zxt hle.size
      replace Oxp := own_le Oxp hle
      clear hle
      have bdg := RBh.bd
      have log := RBh.lo
      have hig := RBh.b.lt
      have cg0 := RBh.b.c0
      have zg0 := hig
      have cg1 := RBh.b.c1
      have zg1 := hig
      have cg2 := RBh.b.c2
      have zg2 := hig
      have cg3 := RBh.b.c3
      have zg3 := hig
      have Og0 := RBh.O
      have Og1 := RBh.H
      have okLg0 := RBh.okl
      have okLg1 := RBh.okh
      have Pg := RBh.ap
      clear RBh
      have O10 := Og0
      have O11 := Og1
      have okL10 := okLg0
      have okL11 := okLg1
      have P1 := Pg
      clear Og0 Og1 okLg0 okLg1 Pg
      go_wp2_with fail
      refine (eqResult_self _ _ _ _ _ _ _ _ _ _ (ceL t p x.has x.cls x.code) (ceH t p x.has x.cls x.code) _ _ _ (Sl.of_own O10 rfl (by decide) okL10) S00 (Sl.of_own O11 rfl (by decide) okL11) S01).mono ?_
      rintro e w37 ⟨rfl, hle⟩
      have s37 := hle.size
      replace cat := (hle.cell zat).trans cat
      replace cx0 := (hle.cell zx0).trans cx0
      replace cx1 := (hle.cell zx1).trans cx1
      replace cx2 := (hle.cell zx2).trans cx2
      replace cw0 := (hle.cell zw0).trans cw0
      replace cw1 := (hle.cell zw1).trans cw1
      replace cw2 := (hle.cell zw2).trans cw2
      replace cw3 := (hle.cell zw3).trans cw3
      replace cxt := (hle.cell zxt).trans cxt
      replace cg0 := (hle.cell zg0).trans cg0
      replace cg1 := (hle.cell zg1).trans cg1
      replace cg2 := (hle.cell zg2).trans cg2
      replace cg3 := (hle.cell zg3).trans cg3
      replace zat := Nat.lt_of_lt_of_le zat hle.size
      replace zx0 := Nat.lt_of_lt_of_le zx0 hle.size
      replace zx1 := Nat.lt_of_lt_of_le zx1 hle.size
      replace zx2 := Nat.lt_of_lt_of_le zx2 hle.size
      replace L0 := L0.trans hle
      replace zw0 := Nat.lt_of_lt_of_le zw0 hle.size
      replace zw1 := Nat.lt_of_lt_of_le zw1 hle.size
      replace zw2 := Nat.lt_of_lt_of_le zw2 hle.size
      replace zw3 := Nat.lt_of_lt_of_le zw3 hle.size
      replace S00 := S00.le hle
      replace S01 := S01.le hle
      replace Oxt := own_le Oxt hle
      replace zxt := Nat.lt_of_lt_of_le zxt hle.size
      replace Oxp := own_le Oxp hle
      replace zg0 := Nat.lt_of_lt_of_le zg0 hle.size
      replace zg1 := Nat.lt_of_lt_of_le zg1 hle.size
      replace zg2 := Nat.lt_of_lt_of_le zg2 hle.size
      replace zg3 := Nat.lt_of_lt_of_le zg3 hle.size
      replace O10 := own_le O10 hle
      replace O11 := own_le O11 hle
      clear hle
      go_wp2_with fail
      replace cat := (show w37.drew.cell? _ = _ from cat)
      replace zat := (show _ < w37.drew.heap.size from zat)
      replace cx0 := (show w37.drew.cell? _ = _ from cx0)
      replace zx0 := (show _ < w37.drew.heap.size from zx0)
      replace cx1 := (show w37.drew.cell? _ = _ from cx1)
      replace zx1 := (show _ < w37.drew.heap.size from zx1)
      replace cx2 := (show w37.drew.cell? _ = _ from cx2)
      replace zx2 := (show _ < w37.drew.heap.size from zx2)
      replace L0 := L0.drew
      replace cw0 := (show w37.drew.cell? _ = _ from cw0)
      replace zw0 := (show _ < w37.drew.heap.size from zw0)
      replace cw1 := (show w37.drew.cell? _ = _ from cw1)
      replace zw1 := (show _ < w37.drew.heap.size from zw1)
      replace cw2 := (show w37.drew.cell? _ = _ from cw2)
      replace zw2 := (show _ < w37.drew.heap.size from zw2)
      replace cw3 := (show w37.drew.cell? _ = _ from cw3)
      replace zw3 := (show _ < w37.drew.heap.size from zw3)
      replace S00 := S00.le (Le.refl _).drew
      replace S01 := S01.le (Le.refl _).drew
      replace Oxt := Oxt.drew
      replace cxt := (show w37.drew.cell? _ = _ from cxt)
      replace zxt := (show _ < w37.drew.heap.size from zxt)
      replace Oxp := Oxp.drew
      replace cg0 := (show w37.drew.cell? _ = _ from cg0)
      replace zg0 := (show _ < w37.drew.heap.size from zg0)
      replace cg1 := (show w37.drew.cell? _ = _ from cg1)
      replace zg1 := (show _ < w37.drew.heap.size from zg1)
      replace cg2 := (show w37.drew.cell? _ = _ from cg2)
      replace zg2 := (show _ < w37.drew.heap.size from zg2)
      replace cg3 := (show w37.drew.cell? _ = _ from cg3)
      replace zg3 := (show _ < w37.drew.heap.size from zg3)
      replace O10 := O10.drew
      replace O11 := O11.drew
      go_region_held3 (fun w' => w'.cell? ⟨w.heap.size, 0, none⟩ = some (.slice At nt ct) ∧ w'.cell? ⟨w24.heap.size, 0, none⟩ = some (.slice (some ⟨gxt, 0, none⟩) nt nt))
        (first | exact ⟨cat, cxt⟩)
        (first
        | (go_at_call 9; refine (toTree_any At nt ct t _ (ht.le L0) (by omega)).mono ?_; rintro e w38 ⟨gy, rfl, hgy, Oy, hle⟩; have s38 : w37.heap.size ≤ w38.heap.size := hle.size; replace cat := (hle.cell zat).trans cat; replace zat := Nat.lt_of_lt_of_le zat hle.size; replace cx0 := (hle.cell zx0).trans cx0; replace zx0 := Nat.lt_of_lt_of_le zx0 hle.size; replace cx1 := (hle.cell zx1).trans cx1; replace zx1 := Nat.lt_of_lt_of_le zx1 hle.size; replace cx2 := (hle.cell zx2).trans cx2; replace zx2 := Nat.lt_of_lt_of_le zx2 hle.size; replace L0 := L0.trans hle; replace cw0 := (hle.cell zw0).trans cw0; replace zw0 := Nat.lt_of_lt_of_le zw0 hle.size; replace cw1 := (hle.cell zw1).trans cw1; replace zw1 := Nat.lt_of_lt_of_le zw1 hle.size; replace cw2 := (hle.cell zw2).trans cw2; replace zw2 := Nat.lt_of_lt_of_le zw2 hle.size; replace cw3 := (hle.cell zw3).trans cw3; replace zw3 := Nat.lt_of_lt_of_le zw3 hle.size; replace S00 := S00.le hle; replace S01 := S01.le hle; replace Oxt := own_le Oxt hle; replace cxt := (hle.cell zxt).trans cxt; replace zxt := Nat.lt_of_lt_of_le zxt hle.size; replace Oxp := own_le Oxp hle; replace cg0 := (hle.cell zg0).trans cg0; replace zg0 := Nat.lt_of_lt_of_le zg0 hle.size; replace cg1 := (hle.cell zg1).trans cg1; replace zg1 := Nat.lt_of_lt_of_le zg1 hle.size; replace cg2 := (hle.cell zg2).trans cg2; replace zg2 := Nat.lt_of_lt_of_le zg2 hle.size; replace cg3 := (hle.cell zg3).trans cg3; replace zg3 := Nat.lt_of_lt_of_le zg3 hle.size; replace O10 := own_le O10 hle; replace O11 := own_le O11 hle; clear hle; have hby := own_lt Oy; have Sy := Sl.of_own Oy rfl (by decide) hokt; clear Oy hby)
        | (go_at_call 14; refine (eqTree_self _ _ _ _ _ t _ (Sl.of_own Oxt rfl (by decide) hokt) Sy).mono ?_; rintro e w39 ⟨rfl, hle⟩; have s39 := hle.size; replace cat := (hle.cell zat).trans cat; replace zat := Nat.lt_of_lt_of_le zat hle.size; replace cx0 := (hle.cell zx0).trans cx0; replace zx0 := Nat.lt_of_lt_of_le zx0 hle.size; replace cx1 := (hle.cell zx1).trans cx1; replace zx1 := Nat.lt_of_lt_of_le zx1 hle.size; replace cx2 := (hle.cell zx2).trans cx2; replace zx2 := Nat.lt_of_lt_of_le zx2 hle.size; replace L0 := L0.trans hle; replace cw0 := (hle.cell zw0).trans cw0; replace zw0 := Nat.lt_of_lt_of_le zw0 hle.size; replace cw1 := (hle.cell zw1).trans cw1; replace zw1 := Nat.lt_of_lt_of_le zw1 hle.size; replace cw2 := (hle.cell zw2).trans cw2; replace zw2 := Nat.lt_of_lt_of_le zw2 hle.size; replace cw3 := (hle.cell zw3).trans cw3; replace zw3 := Nat.lt_of_lt_of_le zw3 hle.size; replace S00 := S00.le hle; replace S01 := S01.le hle; replace Oxt := own_le Oxt hle; replace cxt := (hle.cell zxt).trans cxt; replace zxt := Nat.lt_of_lt_of_le zxt hle.size; replace Oxp := own_le Oxp hle; replace cg0 := (hle.cell zg0).trans cg0; replace zg0 := Nat.lt_of_lt_of_le zg0 hle.size; replace cg1 := (hle.cell zg1).trans cg1; replace zg1 := Nat.lt_of_lt_of_le zg1 hle.size; replace cg2 := (hle.cell zg2).trans cg2; replace zg2 := Nat.lt_of_lt_of_le zg2 hle.size; replace cg3 := (hle.cell zg3).trans cg3; replace zg3 := Nat.lt_of_lt_of_le zg3 hle.size; replace O10 := own_le O10 hle; replace O11 := own_le O11 hle; clear hle; clear Sy))
      go_wp2_with fail
      refine (toExitS_any Ap np cp p _ (hp.le L0) (by omega)).mono ?_
      rintro e w40 ⟨rfl, Oy, hle⟩
      have s40 := hle.size
      replace cat := (hle.cell zat).trans cat
      replace cx0 := (hle.cell zx0).trans cx0
      replace cx1 := (hle.cell zx1).trans cx1
      replace cx2 := (hle.cell zx2).trans cx2
      replace cw0 := (hle.cell zw0).trans cw0
      replace cw1 := (hle.cell zw1).trans cw1
      replace cw2 := (hle.cell zw2).trans cw2
      replace cw3 := (hle.cell zw3).trans cw3
      replace cxt := (hle.cell zxt).trans cxt
      replace cg0 := (hle.cell zg0).trans cg0
      replace cg1 := (hle.cell zg1).trans cg1
      replace cg2 := (hle.cell zg2).trans cg2
      replace cg3 := (hle.cell zg3).trans cg3
      replace zat := Nat.lt_of_lt_of_le zat hle.size
      replace zx0 := Nat.lt_of_lt_of_le zx0 hle.size
      replace zx1 := Nat.lt_of_lt_of_le zx1 hle.size
      replace zx2 := Nat.lt_of_lt_of_le zx2 hle.size
      replace L0 := L0.trans hle
      replace zw0 := Nat.lt_of_lt_of_le zw0 hle.size
      replace zw1 := Nat.lt_of_lt_of_le zw1 hle.size
      replace zw2 := Nat.lt_of_lt_of_le zw2 hle.size
      replace zw3 := Nat.lt_of_lt_of_le zw3 hle.size
      replace S00 := S00.le hle
      replace S01 := S01.le hle
      replace Oxt := own_le Oxt hle
      replace zxt := Nat.lt_of_lt_of_le zxt hle.size
      replace Oxp := own_le Oxp hle
      replace zg0 := Nat.lt_of_lt_of_le zg0 hle.size
      replace zg1 := Nat.lt_of_lt_of_le zg1 hle.size
      replace zg2 := Nat.lt_of_lt_of_le zg2 hle.size
      replace zg3 := Nat.lt_of_lt_of_le zg3 hle.size
      replace O10 := own_le O10 hle
      replace O11 := own_le O11 hle
      clear hle
      have hby := own_lt Oy
      have Sy := Sl.of_own Oy rfl (by decide) hokp; clear Oy hby
      go_wp2_with fail
      refine (eqExitS_self _ _ _ _ _ p _ (Sl.of_own Oxp rfl (by decide) hokp) Sy).mono ?_
      rintro e w41 ⟨rfl, hle⟩
      have s41 := hle.size
      replace cat := (hle.cell zat).trans cat
      replace cx0 := (hle.cell zx0).trans cx0
      replace cx1 := (hle.cell zx1).trans cx1
      replace cx2 := (hle.cell zx2).trans cx2
      replace cw0 := (hle.cell zw0).trans cw0
      replace cw1 := (hle.cell zw1).trans cw1
      replace cw2 := (hle.cell zw2).trans cw2
      replace cw3 := (hle.cell zw3).trans cw3
      replace cxt := (hle.cell zxt).trans cxt
      replace cg0 := (hle.cell zg0).trans cg0
      replace cg1 := (hle.cell zg1).trans cg1
      replace cg2 := (hle.cell zg2).trans cg2
      replace cg3 := (hle.cell zg3).trans cg3
      replace zat := Nat.lt_of_lt_of_le zat hle.size
      replace zx0 := Nat.lt_of_lt_of_le zx0 hle.size
      replace zx1 := Nat.lt_of_lt_of_le zx1 hle.size
      replace zx2 := Nat.lt_of_lt_of_le zx2 hle.size
      replace L0 := L0.trans hle
      replace zw0 := Nat.lt_of_lt_of_le zw0 hle.size
      replace zw1 := Nat.lt_of_lt_of_le zw1 hle.size
      replace zw2 := Nat.lt_of_lt_of_le zw2 hle.size
      replace zw3 := Nat.lt_of_lt_of_le zw3 hle.size
      replace S00 := S00.le hle
      replace S01 := S01.le hle
      replace Oxt := own_le Oxt hle
      replace zxt := Nat.lt_of_lt_of_le zxt hle.size
      replace Oxp := own_le Oxp hle
      replace zg0 := Nat.lt_of_lt_of_le zg0 hle.size
      replace zg1 := Nat.lt_of_lt_of_le zg1 hle.size
      replace zg2 := Nat.lt_of_lt_of_le zg2 hle.size
      replace zg3 := Nat.lt_of_lt_of_le zg3 hle.size
      replace O10 := own_le O10 hle
      replace O11 := own_le O11 hle
      clear hle
      clear Sy
      go_wp2_with fail
      refine (markTree_any _ _ _ _ _ _ _ Oxt (by omega) (by omega) (by omega)).mono ?_
      rintro e w42 ⟨rfl, _, hg⟩
      have s42 := hg.size
      replace cat := hg.cell (a := ⟨w.heap.size, 0, none⟩) cat (fun e => by have e1 : w.heap.size = gxt := (by injection e); omega)
      replace zat := Nat.lt_of_lt_of_le zat hg.size
      replace cx0 := hg.cell (a := ⟨w.heap.size + 1, 0, none⟩) cx0 (fun e => by have e1 : w.heap.size + 1 = gxt := (by injection e); omega)
      replace zx0 := Nat.lt_of_lt_of_le zx0 hg.size
      replace cx1 := hg.cell (a := ⟨w.heap.size + 1, 1, none⟩) cx1 (fun e => by have e1 : w.heap.size + 1 = gxt := (by injection e); omega)
      replace zx1 := Nat.lt_of_lt_of_le zx1 hg.size
      replace cx2 := hg.cell (a := ⟨w.heap.size + 1, 2, none⟩) cx2 (fun e => by have e1 : w.heap.size + 1 = gxt := (by injection e); omega)
      replace zx2 := Nat.lt_of_lt_of_le zx2 hg.size
      replace L0 := L0.grown hg (fun k hk => by have e1 : gxt = k := (by injection hk); omega)
      replace cw0 := hg.cell (a := ⟨gw, 0, none⟩) cw0 (fun e => by have e1 : gw = gxt := (by injection e); omega)
      replace zw0 := Nat.lt_of_lt_of_le zw0 hg.size
      replace cw1 := hg.cell (a := ⟨gw, 1, none⟩) cw1 (fun e => by have e1 : gw = gxt := (by injection e); omega)
      replace zw1 := Nat.lt_of_lt_of_le zw1 hg.size
      replace cw2 := hg.cell (a := ⟨gw, 2, none⟩) cw2 (fun e => by have e1 : gw = gxt := (by injection e); omega)
      replace zw2 := Nat.lt_of_lt_of_le zw2 hg.size
      replace cw3 := hg.cell (a := ⟨gw, 3, none⟩) cw3 (fun e => by have e1 : gw = gxt := (by injection e); omega)
      replace zw3 := Nat.lt_of_lt_of_le zw3 hg.size
      replace S00 := S00.grown hg (fun hn a e h => by have h1 := HU00.out hn a e; have h2 : a.block = gxt := (by injection h); omega)
      replace S01 := S01.grown hg (fun hn a e h => by have h1 := HU01.out hn a e; have h2 : a.block = gxt := (by injection h); omega)
      replace cxt := hg.cell (a := ⟨w24.heap.size, 0, none⟩) cxt (fun e => by have e1 : w24.heap.size = gxt := (by injection e); omega)
      replace zxt := Nat.lt_of_lt_of_le zxt hg.size
      replace Oxp := Oxp.kept hg (.inr (fun e => by have e1 : w25.heap.size = gxt := (by injection e); omega))
      replace cg0 := hg.cell (a := ⟨gg, 0, none⟩) cg0 (fun e => by have e1 : gg = gxt := (by injection e); omega)
      replace zg0 := Nat.lt_of_lt_of_le zg0 hg.size
      replace cg1 := hg.cell (a := ⟨gg, 1, none⟩) cg1 (fun e => by have e1 : gg = gxt := (by injection e); omega)
      replace zg1 := Nat.lt_of_lt_of_le zg1 hg.size
      replace cg2 := hg.cell (a := ⟨gg, 2, none⟩) cg2 (fun e => by have e1 : gg = gxt := (by injection e); omega)
      replace zg2 := Nat.lt_of_lt_of_le zg2 hg.size
      replace cg3 := hg.cell (a := ⟨gg, 3, none⟩) cg3 (fun e => by have e1 : gg = gxt := (by injection e); omega)
      replace zg3 := Nat.lt_of_lt_of_le zg3 hg.size
      replace O10 := O10.kept hg (.inr (fun e => by have e1 : w26.heap.size ≤ gxt ∧ gxt < w36.heap.size ∧ gxt ≠ gg := bdg.1 _ e; omega))
      replace O11 := O11.kept hg (.inr (fun e => by have e1 : w26.heap.size ≤ gxt ∧ gxt < w36.heap.size ∧ gxt ≠ gg := bdg.2 _ e; omega))
      clear hg Oxt
      clear cxt zxt
      go_wp2_with fail
      refine (markExitS_any _ _ _ _ _ _ _ Oxp (by omega) (by omega) (by omega)).mono ?_
      rintro e w43 ⟨rfl, _, hg⟩
      have s43 := hg.size
      replace cat := hg.cell (a := ⟨w.heap.size, 0, none⟩) cat (fun e => by have e1 : w.heap.size = w25.heap.size := (by injection e); omega)
      replace zat := Nat.lt_of_lt_of_le zat hg.size
      replace cx0 := hg.cell (a := ⟨w.heap.size + 1, 0, none⟩) cx0 (fun e => by have e1 : w.heap.size + 1 = w25.heap.size := (by injection e); omega)
      replace zx0 := Nat.lt_of_lt_of_le zx0 hg.size
      replace cx1 := hg.cell (a := ⟨w.heap.size + 1, 1, none⟩) cx1 (fun e => by have e1 : w.heap.size + 1 = w25.heap.size := (by injection e); omega)
      replace zx1 := Nat.lt_of_lt_of_le zx1 hg.size
      replace cx2 := hg.cell (a := ⟨w.heap.size + 1, 2, none⟩) cx2 (fun e => by have e1 : w.heap.size + 1 = w25.heap.size := (by injection e); omega)
      replace zx2 := Nat.lt_of_lt_of_le zx2 hg.size
      replace L0 := L0.grown hg (fun k hk => by have e1 : w25.heap.size = k := (by injection hk); omega)
      replace cw0 := hg.cell (a := ⟨gw, 0, none⟩) cw0 (fun e => by have e1 : gw = w25.heap.size := (by injection e); omega)
      replace zw0 := Nat.lt_of_lt_of_le zw0 hg.size
      replace cw1 := hg.cell (a := ⟨gw, 1, none⟩) cw1 (fun e => by have e1 : gw = w25.heap.size := (by injection e); omega)
      replace zw1 := Nat.lt_of_lt_of_le zw1 hg.size
      replace cw2 := hg.cell (a := ⟨gw, 2, none⟩) cw2 (fun e => by have e1 : gw = w25.heap.size := (by injection e); omega)
      replace zw2 := Nat.lt_of_lt_of_le zw2 hg.size
      replace cw3 := hg.cell (a := ⟨gw, 3, none⟩) cw3 (fun e => by have e1 : gw = w25.heap.size := (by injection e); omega)
      replace zw3 := Nat.lt_of_lt_of_le zw3 hg.size
      replace S00 := S00.grown hg (fun hn a e h => by have h1 := HU00.out hn a e; have h2 : a.block = w25.heap.size := (by injection h); omega)
      replace S01 := S01.grown hg (fun hn a e h => by have h1 := HU01.out hn a e; have h2 : a.block = w25.heap.size := (by injection h); omega)
      replace cg0 := hg.cell (a := ⟨gg, 0, none⟩) cg0 (fun e => by have e1 : gg = w25.heap.size := (by injection e); omega)
      replace zg0 := Nat.lt_of_lt_of_le zg0 hg.size
      replace cg1 := hg.cell (a := ⟨gg, 1, none⟩) cg1 (fun e => by have e1 : gg = w25.heap.size := (by injection e); omega)
      replace zg1 := Nat.lt_of_lt_of_le zg1 hg.size
      replace cg2 := hg.cell (a := ⟨gg, 2, none⟩) cg2 (fun e => by have e1 : gg = w25.heap.size := (by injection e); omega)
      replace zg2 := Nat.lt_of_lt_of_le zg2 hg.size
      replace cg3 := hg.cell (a := ⟨gg, 3, none⟩) cg3 (fun e => by have e1 : gg = w25.heap.size := (by injection e); omega)
      replace zg3 := Nat.lt_of_lt_of_le zg3 hg.size
      replace O10 := O10.kept hg (.inr (fun e => by have e1 : w26.heap.size ≤ w25.heap.size ∧ w25.heap.size < w36.heap.size ∧ w25.heap.size ≠ gg := bdg.1 _ e; omega))
      replace O11 := O11.kept hg (.inr (fun e => by have e1 : w26.heap.size ≤ w25.heap.size ∧ w25.heap.size < w36.heap.size ∧ w25.heap.size ≠ gg := bdg.2 _ e; omega))
      clear hg Oxp
      have hkk : decide (1 + 2 * (nt : Int) + 3 * (np : Int) < 0) = false := decide_eq_false (by omega)
      go_wp2_with fail
      refine (eqResult_self _ _ _ _ _ _ _ _ _ _ (ceL t p x.has x.cls x.code) (ceH t p x.has x.cls x.code) _ _ _ (Sl.of_own O10 rfl (by decide) okL10) S00 (Sl.of_own O11 rfl (by decide) okL11) S01).mono ?_
      rintro e w44 ⟨rfl, hle⟩
      have s44 := hle.size
      replace cat := (hle.cell zat).trans cat
      replace cx0 := (hle.cell zx0).trans cx0
      replace cx1 := (hle.cell zx1).trans cx1
      replace cx2 := (hle.cell zx2).trans cx2
      replace cw0 := (hle.cell zw0).trans cw0
      replace cw1 := (hle.cell zw1).trans cw1
      replace cw2 := (hle.cell zw2).trans cw2
      replace cw3 := (hle.cell zw3).trans cw3
      replace cg0 := (hle.cell zg0).trans cg0
      replace cg1 := (hle.cell zg1).trans cg1
      replace cg2 := (hle.cell zg2).trans cg2
      replace cg3 := (hle.cell zg3).trans cg3
      replace zat := Nat.lt_of_lt_of_le zat hle.size
      replace zx0 := Nat.lt_of_lt_of_le zx0 hle.size
      replace zx1 := Nat.lt_of_lt_of_le zx1 hle.size
      replace zx2 := Nat.lt_of_lt_of_le zx2 hle.size
      replace L0 := L0.trans hle
      replace zw0 := Nat.lt_of_lt_of_le zw0 hle.size
      replace zw1 := Nat.lt_of_lt_of_le zw1 hle.size
      replace zw2 := Nat.lt_of_lt_of_le zw2 hle.size
      replace zw3 := Nat.lt_of_lt_of_le zw3 hle.size
      replace S00 := S00.le hle
      replace S01 := S01.le hle
      replace zg0 := Nat.lt_of_lt_of_le zg0 hle.size
      replace zg1 := Nat.lt_of_lt_of_le zg1 hle.size
      replace zg2 := Nat.lt_of_lt_of_le zg2 hle.size
      replace zg3 := Nat.lt_of_lt_of_le zg3 hle.size
      replace O10 := own_le O10 hle
      replace O11 := own_le O11 hle
      clear hle
      go_wp2_with fail
      refine (markResult_any _ _ _ _ _ _ _ _ _ _ _ _ _ _ O10 O11 P1 (by omega) (by omega) HLL HLH).mono ?_
      rintro e w45 ⟨rfl, Om0, Om1, wm, hg1, hg2⟩
      have s45a := hg1.size
      have s45b := hg2.size
      replace cat := hg1.cell (a := ⟨w.heap.size, 0, none⟩) cat (fun e => by have e1 : w26.heap.size ≤ w.heap.size ∧ w.heap.size < w36.heap.size ∧ w.heap.size ≠ gg := bdg.1 _ e.symm; omega)
      replace zat := Nat.lt_of_lt_of_le zat hg1.size
      replace cx0 := hg1.cell (a := ⟨w.heap.size + 1, 0, none⟩) cx0 (fun e => by have e1 : w26.heap.size ≤ w.heap.size + 1 ∧ w.heap.size + 1 < w36.heap.size ∧ w.heap.size + 1 ≠ gg := bdg.1 _ e.symm; omega)
      replace zx0 := Nat.lt_of_lt_of_le zx0 hg1.size
      replace cx1 := hg1.cell (a := ⟨w.heap.size + 1, 1, none⟩) cx1 (fun e => by have e1 : w26.heap.size ≤ w.heap.size + 1 ∧ w.heap.size + 1 < w36.heap.size ∧ w.heap.size + 1 ≠ gg := bdg.1 _ e.symm; omega)
      replace zx1 := Nat.lt_of_lt_of_le zx1 hg1.size
      replace cx2 := hg1.cell (a := ⟨w.heap.size + 1, 2, none⟩) cx2 (fun e => by have e1 : w26.heap.size ≤ w.heap.size + 1 ∧ w.heap.size + 1 < w36.heap.size ∧ w.heap.size + 1 ≠ gg := bdg.1 _ e.symm; omega)
      replace zx2 := Nat.lt_of_lt_of_le zx2 hg1.size
      replace L0 := L0.grown hg1 (fun k hk => by have e1 : w26.heap.size ≤ k ∧ k < w36.heap.size ∧ k ≠ gg := bdg.1 k hk; omega)
      replace cw0 := hg1.cell (a := ⟨gw, 0, none⟩) cw0 (fun e => by have e1 : w26.heap.size ≤ gw ∧ gw < w36.heap.size ∧ gw ≠ gg := bdg.1 _ e.symm; omega)
      replace zw0 := Nat.lt_of_lt_of_le zw0 hg1.size
      replace cw1 := hg1.cell (a := ⟨gw, 1, none⟩) cw1 (fun e => by have e1 : w26.heap.size ≤ gw ∧ gw < w36.heap.size ∧ gw ≠ gg := bdg.1 _ e.symm; omega)
      replace zw1 := Nat.lt_of_lt_of_le zw1 hg1.size
      replace cw2 := hg1.cell (a := ⟨gw, 2, none⟩) cw2 (fun e => by have e1 : w26.heap.size ≤ gw ∧ gw < w36.heap.size ∧ gw ≠ gg := bdg.1 _ e.symm; omega)
      replace zw2 := Nat.lt_of_lt_of_le zw2 hg1.size
      replace cw3 := hg1.cell (a := ⟨gw, 3, none⟩) cw3 (fun e => by have e1 : w26.heap.size ≤ gw ∧ gw < w36.heap.size ∧ gw ≠ gg := bdg.1 _ e.symm; omega)
      replace zw3 := Nat.lt_of_lt_of_le zw3 hg1.size
      replace S00 := S00.grown hg1 (fun hn a e h => by have h1 := HU00.out hn a e; have h2 : w26.heap.size ≤ a.block ∧ a.block < w36.heap.size ∧ a.block ≠ gg := bdg.1 _ h.symm; omega)
      replace S01 := S01.grown hg1 (fun hn a e h => by have h1 := HU01.out hn a e; have h2 : w26.heap.size ≤ a.block ∧ a.block < w36.heap.size ∧ a.block ≠ gg := bdg.1 _ h.symm; omega)
      replace cg0 := hg1.cell (a := ⟨gg, 0, none⟩) cg0 (fun e => by have e1 : w26.heap.size ≤ gg ∧ gg < w36.heap.size ∧ gg ≠ gg := bdg.1 _ e.symm; omega)
      replace zg0 := Nat.lt_of_lt_of_le zg0 hg1.size
      replace cg1 := hg1.cell (a := ⟨gg, 1, none⟩) cg1 (fun e => by have e1 : w26.heap.size ≤ gg ∧ gg < w36.heap.size ∧ gg ≠ gg := bdg.1 _ e.symm; omega)
      replace zg1 := Nat.lt_of_lt_of_le zg1 hg1.size
      replace cg2 := hg1.cell (a := ⟨gg, 2, none⟩) cg2 (fun e => by have e1 : w26.heap.size ≤ gg ∧ gg < w36.heap.size ∧ gg ≠ gg := bdg.1 _ e.symm; omega)
      replace zg2 := Nat.lt_of_lt_of_le zg2 hg1.size
      replace cg3 := hg1.cell (a := ⟨gg, 3, none⟩) cg3 (fun e => by have e1 : w26.heap.size ≤ gg ∧ gg < w36.heap.size ∧ gg ≠ gg := bdg.1 _ e.symm; omega)
      replace zg3 := Nat.lt_of_lt_of_le zg3 hg1.size
      replace cat := hg2.cell (a := ⟨w.heap.size, 0, none⟩) cat (fun e => by have e1 : w26.heap.size ≤ w.heap.size ∧ w.heap.size < w36.heap.size ∧ w.heap.size ≠ gg := bdg.2 _ e.symm; omega)
      replace zat := Nat.lt_of_lt_of_le zat hg2.size
      replace cx0 := hg2.cell (a := ⟨w.heap.size + 1, 0, none⟩) cx0 (fun e => by have e1 : w26.heap.size ≤ w.heap.size + 1 ∧ w.heap.size + 1 < w36.heap.size ∧ w.heap.size + 1 ≠ gg := bdg.2 _ e.symm; omega)
      replace zx0 := Nat.lt_of_lt_of_le zx0 hg2.size
      replace cx1 := hg2.cell (a := ⟨w.heap.size + 1, 1, none⟩) cx1 (fun e => by have e1 : w26.heap.size ≤ w.heap.size + 1 ∧ w.heap.size + 1 < w36.heap.size ∧ w.heap.size + 1 ≠ gg := bdg.2 _ e.symm; omega)
      replace zx1 := Nat.lt_of_lt_of_le zx1 hg2.size
      replace cx2 := hg2.cell (a := ⟨w.heap.size + 1, 2, none⟩) cx2 (fun e => by have e1 : w26.heap.size ≤ w.heap.size + 1 ∧ w.heap.size + 1 < w36.heap.size ∧ w.heap.size + 1 ≠ gg := bdg.2 _ e.symm; omega)
      replace zx2 := Nat.lt_of_lt_of_le zx2 hg2.size
      replace L0 := L0.grown hg2 (fun k hk => by have e1 : w26.heap.size ≤ k ∧ k < w36.heap.size ∧ k ≠ gg := bdg.2 k hk; omega)
      replace cw0 := hg2.cell (a := ⟨gw, 0, none⟩) cw0 (fun e => by have e1 : w26.heap.size ≤ gw ∧ gw < w36.heap.size ∧ gw ≠ gg := bdg.2 _ e.symm; omega)
      replace zw0 := Nat.lt_of_lt_of_le zw0 hg2.size
      replace cw1 := hg2.cell (a := ⟨gw, 1, none⟩) cw1 (fun e => by have e1 : w26.heap.size ≤ gw ∧ gw < w36.heap.size ∧ gw ≠ gg := bdg.2 _ e.symm; omega)
      replace zw1 := Nat.lt_of_lt_of_le zw1 hg2.size
      replace cw2 := hg2.cell (a := ⟨gw, 2, none⟩) cw2 (fun e => by have e1 : w26.heap.size ≤ gw ∧ gw < w36.heap.size ∧ gw ≠ gg := bdg.2 _ e.symm; omega)
      replace zw2 := Nat.lt_of_lt_of_le zw2 hg2.size
      replace cw3 := hg2.cell (a := ⟨gw, 3, none⟩) cw3 (fun e => by have e1 : w26.heap.size ≤ gw ∧ gw < w36.heap.size ∧ gw ≠ gg := bdg.2 _ e.symm; omega)
      replace zw3 := Nat.lt_of_lt_of_le zw3 hg2.size
      replace S00 := S00.grown hg2 (fun hn a e h => by have h1 := HU00.out hn a e; have h2 : w26.heap.size ≤ a.block ∧ a.block < w36.heap.size ∧ a.block ≠ gg := bdg.2 _ h.symm; omega)
      replace S01 := S01.grown hg2 (fun hn a e h => by have h1 := HU01.out hn a e; have h2 : w26.heap.size ≤ a.block ∧ a.block < w36.heap.size ∧ a.block ≠ gg := bdg.2 _ h.symm; omega)
      replace cg0 := hg2.cell (a := ⟨gg, 0, none⟩) cg0 (fun e => by have e1 : w26.heap.size ≤ gg ∧ gg < w36.heap.size ∧ gg ≠ gg := bdg.2 _ e.symm; omega)
      replace zg0 := Nat.lt_of_lt_of_le zg0 hg2.size
      replace cg1 := hg2.cell (a := ⟨gg, 1, none⟩) cg1 (fun e => by have e1 : w26.heap.size ≤ gg ∧ gg < w36.heap.size ∧ gg ≠ gg := bdg.2 _ e.symm; omega)
      replace zg1 := Nat.lt_of_lt_of_le zg1 hg2.size
      replace cg2 := hg2.cell (a := ⟨gg, 2, none⟩) cg2 (fun e => by have e1 : w26.heap.size ≤ gg ∧ gg < w36.heap.size ∧ gg ≠ gg := bdg.2 _ e.symm; omega)
      replace zg2 := Nat.lt_of_lt_of_le zg2 hg2.size
      replace cg3 := hg2.cell (a := ⟨gg, 3, none⟩) cg3 (fun e => by have e1 : w26.heap.size ≤ gg ∧ gg < w36.heap.size ∧ gg ≠ gg := bdg.2 _ e.symm; omega)
      replace zg3 := Nat.lt_of_lt_of_le zg3 hg2.size
      clear hg1 hg2 O10 O11
      have O10 := Om0; clear Om0
      have O11 := Om1; clear Om1
      go_wp2_with fail
      refine (heldResult_any _ _ _ _ _ _ _ _ _ _ (Sl.of_own O10 rfl (by decide) (mInt_ok (by omega) (by omega) HLL)) (Sl.of_own O11 rfl (by decide) (mFlt_ok (by omega) (by omega) HLH)) (by omega) (by omega) HLL HLH).mono ?_
      rintro e w46 ⟨rfl, hle⟩
      have s46 := hle.size
      replace cat := (hle.cell zat).trans cat
      replace cx0 := (hle.cell zx0).trans cx0
      replace cx1 := (hle.cell zx1).trans cx1
      replace cx2 := (hle.cell zx2).trans cx2
      replace cw0 := (hle.cell zw0).trans cw0
      replace cw1 := (hle.cell zw1).trans cw1
      replace cw2 := (hle.cell zw2).trans cw2
      replace cw3 := (hle.cell zw3).trans cw3
      replace cg0 := (hle.cell zg0).trans cg0
      replace cg1 := (hle.cell zg1).trans cg1
      replace cg2 := (hle.cell zg2).trans cg2
      replace cg3 := (hle.cell zg3).trans cg3
      replace zat := Nat.lt_of_lt_of_le zat hle.size
      replace zx0 := Nat.lt_of_lt_of_le zx0 hle.size
      replace zx1 := Nat.lt_of_lt_of_le zx1 hle.size
      replace zx2 := Nat.lt_of_lt_of_le zx2 hle.size
      replace L0 := L0.trans hle
      replace zw0 := Nat.lt_of_lt_of_le zw0 hle.size
      replace zw1 := Nat.lt_of_lt_of_le zw1 hle.size
      replace zw2 := Nat.lt_of_lt_of_le zw2 hle.size
      replace zw3 := Nat.lt_of_lt_of_le zw3 hle.size
      replace S00 := S00.le hle
      replace S01 := S01.le hle
      replace zg0 := Nat.lt_of_lt_of_le zg0 hle.size
      replace zg1 := Nat.lt_of_lt_of_le zg1 hle.size
      replace zg2 := Nat.lt_of_lt_of_le zg2 hle.size
      replace zg3 := Nat.lt_of_lt_of_le zg3 hle.size
      replace O10 := own_le O10 hle
      replace O11 := own_le O11 hle
      clear hle
      have hqq0 : decide ((1 : Int) + ((ceL t p x.has x.cls x.code).length : Int) + 5 * ((ceH t p x.has x.cls x.code).length : Int) < 0) = false := decide_eq_false (by omega)
      go_wp2_with fail
      go_cut [15] from 81 (fun s wx => ∃ (g : Nat) (A0 A1 : Option Addr) (q0 q1 : Nat), s = .pointer (some ⟨g, 0, none⟩) ∧ RB w46 wx g A0 A1 q0 q1 (ceL t p x.has x.cls x.code) (ceH t p x.has x.cls x.code) (ceE t p x.has x.cls x.code) (ceV t p x.has x.cls x.code))
      case first =>
        have LR := (Le.refl w46).drew
        replace cat := (show w46.drew.cell? _ = _ from cat)
        replace cx0 := (show w46.drew.cell? _ = _ from cx0)
        replace cx1 := (show w46.drew.cell? _ = _ from cx1)
        replace cx2 := (show w46.drew.cell? _ = _ from cx2)
        replace L0 := L0.drew
        replace zat := (show _ < w46.drew.heap.size from zat)
        replace zx0 := (show _ < w46.drew.heap.size from zx0)
        replace zx1 := (show _ < w46.drew.heap.size from zx1)
        replace zx2 := (show _ < w46.drew.heap.size from zx2)
        refine wp_region_noPanic ?_
        refine wp_region_Z (fun w' => w'.cell? ⟨w.heap.size, 0, none⟩ = some (.slice At nt ct) ∧ w'.cell? ⟨w.heap.size + 1, 0, none⟩ = some (.bool x.has) ∧ w'.cell? ⟨w.heap.size + 1, 1, none⟩ = some (.int .i64 x.cls) ∧ w'.cell? ⟨w.heap.size + 1, 2, none⟩ = some (.int .i64 x.code)) [8] (by kernel_rfl) ?_
        have sv47 : w46.heap.size ≤ w46.drew.heap.size := LR.size
        generalize w46.drew = v47 at *
        refine wpAnyZ_take (i := 0) (v := ?_) rfl (by kernel_rfl) (fun _ _ _ h => h) (Or.inl ⟨by rfl, ?_⟩) (⟨cat, cx0, cx1, cx2⟩) ?_
        rotate_left 1
        · (intro w hSw; (try dsimp only at hSw); go_simp; try with_reducible rfl)
        try simp only [Act.put, List.setIfInBounds_toArray, List.set_cons_zero, List.set_cons_succ]
        refine wpAnyZ_take (i := 2) (v := ?_) rfl (by kernel_rfl) (fun _ _ _ h => h) (Or.inl ⟨by rfl, ?_⟩) (⟨cat, cx0, cx1, cx2⟩) ?_
        rotate_left 1
        · (intro w hSw; (try dsimp only at hSw); go_simp; try with_reducible rfl)
        try simp only [Act.put, List.setIfInBounds_toArray, List.set_cons_zero, List.set_cons_succ]
        refine wpAnyZ_take (i := 4) (v := ?_) rfl (by kernel_rfl) (fun _ _ _ h => h) (Or.inl ⟨by rfl, ?_⟩) (⟨cat, cx0, cx1, cx2⟩) ?_
        rotate_left 1
        · (intro w hSw; (try dsimp only at hSw); go_simp; try with_reducible rfl)
        try simp only [Act.put, List.setIfInBounds_toArray, List.set_cons_zero, List.set_cons_succ]
        refine wpAnyZ_two (i := 1) (k := 7) (by kernel_rfl) (ReadyZ.mk rfl (fun K hK => ?_)) (ReadyZ.mk rfl (fun K hK => ?_))
        · go_simp
          go_at_call 9
          refine (toTree_any At nt ct t _ (ht.le L0) (by omega)).mono ?_
          rintro e v48 ⟨gct, rfl, hgct, Oct, hle⟩
          have sv48 : v47.heap.size ≤ v48.heap.size := hle.size
          replace cat := (hle.cell zat).trans cat
          replace cx0 := (hle.cell zx0).trans cx0
          replace cx1 := (hle.cell zx1).trans cx1
          replace cx2 := (hle.cell zx2).trans cx2
          replace zat := Nat.lt_of_lt_of_le zat hle.size
          replace zx0 := Nat.lt_of_lt_of_le zx0 hle.size
          replace zx1 := Nat.lt_of_lt_of_le zx1 hle.size
          replace zx2 := Nat.lt_of_lt_of_le zx2 hle.size
          replace L0 := L0.trans hle
          replace LR := LR.trans hle
          clear hle
          refine hK.out _ _ (fun _ => ⟨cat, cx0, cx1, cx2⟩) ?_
          clear hK K
          try simp only [Act.put, List.setIfInBounds_toArray, List.set_cons_zero, List.set_cons_succ]
          refine wpAnyZ_two (i := 3) (k := 7) (by kernel_rfl) (ReadyZ.mk rfl (fun K hK => ?_)) (ReadyZ.mk rfl (fun K hK => ?_))
          · go_simp
            go_at_call 10
            refine (toExitS_any Ap np cp p _ (hp.le L0) (by omega)).mono ?_
            rintro e v49 ⟨rfl, Ocp, hle⟩
            have sv49 : v48.heap.size ≤ v49.heap.size := hle.size
            replace cat := (hle.cell zat).trans cat
            replace cx0 := (hle.cell zx0).trans cx0
            replace cx1 := (hle.cell zx1).trans cx1
            replace cx2 := (hle.cell zx2).trans cx2
            replace zat := Nat.lt_of_lt_of_le zat hle.size
            replace zx0 := Nat.lt_of_lt_of_le zx0 hle.size
            replace zx1 := Nat.lt_of_lt_of_le zx1 hle.size
            replace zx2 := Nat.lt_of_lt_of_le zx2 hle.size
            replace L0 := L0.trans hle
            replace LR := LR.trans hle
            replace Oct := own_le Oct hle
            clear hle
            refine hK.out _ _ (fun _ => ⟨cat, cx0, cx1, cx2⟩) ?_
            clear hK K
            try simp only [Act.put, List.setIfInBounds_toArray, List.set_cons_zero, List.set_cons_succ]
            refine wpAnyZ_two (i := 5) (k := 7) (by kernel_rfl) (ReadyZ.mk rfl (fun K hK => ?_)) (ReadyZ.mk rfl (fun K hK => ?_))
            · go_simp
              go_at_call 11
              refine (toStart_any x _).mono ?_
              rintro e v50 ⟨rfl, hle⟩
              have sv50 : v49.heap.size ≤ v50.heap.size := hle.size
              replace cat := (hle.cell zat).trans cat
              replace cx0 := (hle.cell zx0).trans cx0
              replace cx1 := (hle.cell zx1).trans cx1
              replace cx2 := (hle.cell zx2).trans cx2
              replace zat := Nat.lt_of_lt_of_le zat hle.size
              replace zx0 := Nat.lt_of_lt_of_le zx0 hle.size
              replace zx1 := Nat.lt_of_lt_of_le zx1 hle.size
              replace zx2 := Nat.lt_of_lt_of_le zx2 hle.size
              replace L0 := L0.trans hle
              replace LR := LR.trans hle
              replace Oct := own_le Oct hle
              replace Ocp := own_le Ocp hle
              clear hle
              refine hK.out _ _ (fun _ => ⟨cat, cx0, cx1, cx2⟩) ?_
              clear hK K
              try simp only [Act.put, List.setIfInBounds_toArray, List.set_cons_zero, List.set_cons_succ]
              refine wpAnyZ_two (i := 6) (k := 7) (by kernel_rfl) (ReadyZ.mk rfl (fun K hK => ?_)) (ReadyZ.mk rfl (fun K hK => ?_))
              · go_simp
                go_at_call 12
                refine (iCloseExits_any _ _ _ _ _ _ t p x.has x.cls x.code ⟨hx.1, hx.2.1⟩ ⟨hx.2.2.1, hx.2.2.2⟩ _ (Sl.of_own Oct rfl (by decide) hokt) (Sl.of_own Ocp rfl (by decide) hokp)).mono ?_
                rintro e v51 ⟨vl0, vh0, rfl, DL0, DH0, apr, hle⟩
                have sv51 : v50.heap.size ≤ v51.heap.size := hle.size
                replace cat := (hle.cell zat).trans cat
                replace cx0 := (hle.cell zx0).trans cx0
                replace cx1 := (hle.cell zx1).trans cx1
                replace cx2 := (hle.cell zx2).trans cx2
                replace zat := Nat.lt_of_lt_of_le zat hle.size
                replace zx0 := Nat.lt_of_lt_of_le zx0 hle.size
                replace zx1 := Nat.lt_of_lt_of_le zx1 hle.size
                replace zx2 := Nat.lt_of_lt_of_le zx2 hle.size
                replace L0 := L0.trans hle
                replace LR := LR.trans hle
                replace Oct := own_le Oct hle
                replace Ocp := own_le Ocp hle
                clear hle
                obtain ⟨Ar0, qr0, rfl, -, hbr0⟩ := DL0.form (by decide)
                obtain ⟨Ar1, qr1, rfl, -, hbr1⟩ := DH0.form (by decide)
                have Or0 := DL0.row
                have okr0 := DL0.ok
                have Or1 := DH0.row
                have okr1 := DH0.ok
                clear DL0 DH0
                refine hK.out _ _ (fun _ => ⟨cat, cx0, cx1, cx2⟩) ?_
                clear hK K
                try simp only [Act.put, List.setIfInBounds_toArray, List.set_cons_zero, List.set_cons_succ]
                refine wpAnyZ_one (i := 7) (by kernel_rfl) (ReadyZ.mk rfl (fun K hK => ?_))
                go_simp
                obtain ⟨Bx, hle⟩ := box4f v51 35
                have hbl : w46.heap.size ≤ v51.heap.size := LR.size
                have sv52 : v51.heap.size < (v51.alloc (.cells #[.slice none 0 0, .int .i64 0, .int .i64 0, .slice none 0 0] 35)).heap.size := Bx.lt
                replace cat := (hle.cell zat).trans cat
                replace cx0 := (hle.cell zx0).trans cx0
                replace cx1 := (hle.cell zx1).trans cx1
                replace cx2 := (hle.cell zx2).trans cx2
                replace zat := Nat.lt_of_lt_of_le zat hle.size
                replace zx0 := Nat.lt_of_lt_of_le zx0 hle.size
                replace zx1 := Nat.lt_of_lt_of_le zx1 hle.size
                replace zx2 := Nat.lt_of_lt_of_le zx2 hle.size
                replace L0 := L0.trans hle
                replace LR := LR.trans hle
                replace Oct := own_le Oct hle
                replace Ocp := own_le Ocp hle
                replace Or0 := own_le Or0 hle
                replace Or1 := own_le Or1 hle
                clear hle
                generalize v51.alloc (.cells #[.slice none 0 0, .int .i64 0, .int .i64 0, .slice none 0 0] 35) = v52 at *
                refine hK.out _ _ (fun _ => ⟨cat, cx0, cx1, cx2⟩) ?_
                clear hK K
                try simp only [Act.put, List.setIfInBounds_toArray, List.set_cons_zero, List.set_cons_succ]
                obtain ⟨y0, y0f, y1, y1f, y2, y2f, y3, y3f⟩ := Bx.fours (.slice Ar0 (ceL t p x.has x.cls x.code).length qr0) (.int .i64 (ceE t p x.has x.cls x.code)) (.int .i64 (ceV t p x.has x.cls x.code))
                have HRB := Lib.hid (RB.put (wq := v50) (en := ceE t p x.has x.cls x.code) (va := ceV t p x.has x.cls x.code) Bx (show w46.heap.size ≤ v51.heap.size by omega) Or0 Or1 okr0 okr1 (fun e => by have h1 := hbr0 _ e; omega) (fun e => by have h1 := hbr1 _ e; omega) apr LR (by omega))
                clear Bx Or0 Or1 hbr0 hbr1
                refine wpAnyZ_one (i := 8) (by kernel_rfl) (ReadyZ.mk rfl (fun K hK => ?_))
                go_simp
                refine hK.out _ _ (fun h => absurd h (by decide)) ?_
                clear hK K
                try simp only [Act.put, List.setIfInBounds_toArray, List.set_cons_zero, List.set_cons_succ]
                refine wpAnyZ_done (by kernel_rfl) ?_ _
                refine NoPanic.normal ?_
                go_wp2_with fail
                go_meet
                exact ⟨_, _, _, _, _, rfl, HRB.out⟩
              · go_simp
                obtain ⟨Bx, hle⟩ := box4f v50 35
                have hbl : w46.heap.size ≤ v50.heap.size := LR.size
                have sv53 : v50.heap.size < (v50.alloc (.cells #[.slice none 0 0, .int .i64 0, .int .i64 0, .slice none 0 0] 35)).heap.size := Bx.lt
                replace cat := (hle.cell zat).trans cat
                replace cx0 := (hle.cell zx0).trans cx0
                replace cx1 := (hle.cell zx1).trans cx1
                replace cx2 := (hle.cell zx2).trans cx2
                replace zat := Nat.lt_of_lt_of_le zat hle.size
                replace zx0 := Nat.lt_of_lt_of_le zx0 hle.size
                replace zx1 := Nat.lt_of_lt_of_le zx1 hle.size
                replace zx2 := Nat.lt_of_lt_of_le zx2 hle.size
                replace L0 := L0.trans hle
                replace LR := LR.trans hle
                replace Oct := own_le Oct hle
                replace Ocp := own_le Ocp hle
                clear hle
                generalize v50.alloc (.cells #[.slice none 0 0, .int .i64 0, .int .i64 0, .slice none 0 0] 35) = v53 at *
                refine hK.out _ _ (fun _ => ⟨cat, cx0, cx1, cx2⟩) ?_
                clear hK K
                try simp only [Act.put, List.setIfInBounds_toArray, List.set_cons_zero, List.set_cons_succ]
                refine wpAnyZ_one (i := 6) (by kernel_rfl) (ReadyZ.mk rfl (fun K hK => ?_))
                go_simp
                go_at_call 12
                refine (iCloseExits_any _ _ _ _ _ _ t p x.has x.cls x.code ⟨hx.1, hx.2.1⟩ ⟨hx.2.2.1, hx.2.2.2⟩ _ (Sl.of_own Oct rfl (by decide) hokt) (Sl.of_own Ocp rfl (by decide) hokp)).mono ?_
                rintro e v54 ⟨vl0, vh0, rfl, DL0, DH0, apr, hle⟩
                have sv54 : v53.heap.size ≤ v54.heap.size := hle.size
                replace cat := (hle.cell zat).trans cat
                replace cx0 := (hle.cell zx0).trans cx0
                replace cx1 := (hle.cell zx1).trans cx1
                replace cx2 := (hle.cell zx2).trans cx2
                replace zat := Nat.lt_of_lt_of_le zat hle.size
                replace zx0 := Nat.lt_of_lt_of_le zx0 hle.size
                replace zx1 := Nat.lt_of_lt_of_le zx1 hle.size
                replace zx2 := Nat.lt_of_lt_of_le zx2 hle.size
                replace L0 := L0.trans hle
                replace LR := LR.trans hle
                replace Oct := own_le Oct hle
                replace Ocp := own_le Ocp hle
                replace Bx := Bx.le hle
                clear hle
                obtain ⟨Ar0, qr0, rfl, -, hbr0⟩ := DL0.form (by decide)
                obtain ⟨Ar1, qr1, rfl, -, hbr1⟩ := DH0.form (by decide)
                have Or0 := DL0.row
                have okr0 := DL0.ok
                have Or1 := DH0.row
                have okr1 := DH0.ok
                clear DL0 DH0
                refine hK.out _ _ (fun _ => ⟨cat, cx0, cx1, cx2⟩) ?_
                clear hK K
                try simp only [Act.put, List.setIfInBounds_toArray, List.set_cons_zero, List.set_cons_succ]
                obtain ⟨y0, y0f, y1, y1f, y2, y2f, y3, y3f⟩ := Bx.fours (.slice Ar0 (ceL t p x.has x.cls x.code).length qr0) (.int .i64 (ceE t p x.has x.cls x.code)) (.int .i64 (ceV t p x.has x.cls x.code))
                have HRB := Lib.hid (RB.put (wq := v53) (en := ceE t p x.has x.cls x.code) (va := ceV t p x.has x.cls x.code) Bx (show w46.heap.size ≤ v50.heap.size by omega) Or0 Or1 okr0 okr1 (fun e => by have h1 := hbr0 _ e; omega) (fun e => by have h1 := hbr1 _ e; omega) apr LR (by omega))
                clear Bx Or0 Or1 hbr0 hbr1
                refine wpAnyZ_one (i := 8) (by kernel_rfl) (ReadyZ.mk rfl (fun K hK => ?_))
                go_simp
                refine hK.out _ _ (fun h => absurd h (by decide)) ?_
                clear hK K
                try simp only [Act.put, List.setIfInBounds_toArray, List.set_cons_zero, List.set_cons_succ]
                refine wpAnyZ_done (by kernel_rfl) ?_ _
                refine NoPanic.normal ?_
                go_wp2_with fail
                go_meet
                exact ⟨_, _, _, _, _, rfl, HRB.out⟩
            · go_simp
              obtain ⟨Bx, hle⟩ := box4f v49 35
              have hbl : w46.heap.size ≤ v49.heap.size := LR.size
              have sv55 : v49.heap.size < (v49.alloc (.cells #[.slice none 0 0, .int .i64 0, .int .i64 0, .slice none 0 0] 35)).heap.size := Bx.lt
              replace cat := (hle.cell zat).trans cat
              replace cx0 := (hle.cell zx0).trans cx0
              replace cx1 := (hle.cell zx1).trans cx1
              replace cx2 := (hle.cell zx2).trans cx2
              replace zat := Nat.lt_of_lt_of_le zat hle.size
              replace zx0 := Nat.lt_of_lt_of_le zx0 hle.size
              replace zx1 := Nat.lt_of_lt_of_le zx1 hle.size
              replace zx2 := Nat.lt_of_lt_of_le zx2 hle.size
              replace L0 := L0.trans hle
              replace LR := LR.trans hle
              replace Oct := own_le Oct hle
              replace Ocp := own_le Ocp hle
              clear hle
              generalize v49.alloc (.cells #[.slice none 0 0, .int .i64 0, .int .i64 0, .slice none 0 0] 35) = v55 at *
              refine hK.out _ _ (fun _ => ⟨cat, cx0, cx1, cx2⟩) ?_
              clear hK K
              try simp only [Act.put, List.setIfInBounds_toArray, List.set_cons_zero, List.set_cons_succ]
              refine wpAnyZ_one (i := 5) (by kernel_rfl) (ReadyZ.mk rfl (fun K hK => ?_))
              go_simp
              go_at_call 11
              refine (toStart_any x _).mono ?_
              rintro e v56 ⟨rfl, hle⟩
              have sv56 : v55.heap.size ≤ v56.heap.size := hle.size
              replace cat := (hle.cell zat).trans cat
              replace cx0 := (hle.cell zx0).trans cx0
              replace cx1 := (hle.cell zx1).trans cx1
              replace cx2 := (hle.cell zx2).trans cx2
              replace zat := Nat.lt_of_lt_of_le zat hle.size
              replace zx0 := Nat.lt_of_lt_of_le zx0 hle.size
              replace zx1 := Nat.lt_of_lt_of_le zx1 hle.size
              replace zx2 := Nat.lt_of_lt_of_le zx2 hle.size
              replace L0 := L0.trans hle
              replace LR := LR.trans hle
              replace Oct := own_le Oct hle
              replace Ocp := own_le Ocp hle
              replace Bx := Bx.le hle
              clear hle
              refine hK.out _ _ (fun _ => ⟨cat, cx0, cx1, cx2⟩) ?_
              clear hK K
              try simp only [Act.put, List.setIfInBounds_toArray, List.set_cons_zero, List.set_cons_succ]
              refine wpAnyZ_one (i := 6) (by kernel_rfl) (ReadyZ.mk rfl (fun K hK => ?_))
              go_simp
              go_at_call 12
              refine (iCloseExits_any _ _ _ _ _ _ t p x.has x.cls x.code ⟨hx.1, hx.2.1⟩ ⟨hx.2.2.1, hx.2.2.2⟩ _ (Sl.of_own Oct rfl (by decide) hokt) (Sl.of_own Ocp rfl (by decide) hokp)).mono ?_
              rintro e v57 ⟨vl0, vh0, rfl, DL0, DH0, apr, hle⟩
              have sv57 : v56.heap.size ≤ v57.heap.size := hle.size
              replace cat := (hle.cell zat).trans cat
              replace cx0 := (hle.cell zx0).trans cx0
              replace cx1 := (hle.cell zx1).trans cx1
              replace cx2 := (hle.cell zx2).trans cx2
              replace zat := Nat.lt_of_lt_of_le zat hle.size
              replace zx0 := Nat.lt_of_lt_of_le zx0 hle.size
              replace zx1 := Nat.lt_of_lt_of_le zx1 hle.size
              replace zx2 := Nat.lt_of_lt_of_le zx2 hle.size
              replace L0 := L0.trans hle
              replace LR := LR.trans hle
              replace Oct := own_le Oct hle
              replace Ocp := own_le Ocp hle
              replace Bx := Bx.le hle
              clear hle
              obtain ⟨Ar0, qr0, rfl, -, hbr0⟩ := DL0.form (by decide)
              obtain ⟨Ar1, qr1, rfl, -, hbr1⟩ := DH0.form (by decide)
              have Or0 := DL0.row
              have okr0 := DL0.ok
              have Or1 := DH0.row
              have okr1 := DH0.ok
              clear DL0 DH0
              refine hK.out _ _ (fun _ => ⟨cat, cx0, cx1, cx2⟩) ?_
              clear hK K
              try simp only [Act.put, List.setIfInBounds_toArray, List.set_cons_zero, List.set_cons_succ]
              obtain ⟨y0, y0f, y1, y1f, y2, y2f, y3, y3f⟩ := Bx.fours (.slice Ar0 (ceL t p x.has x.cls x.code).length qr0) (.int .i64 (ceE t p x.has x.cls x.code)) (.int .i64 (ceV t p x.has x.cls x.code))
              have HRB := Lib.hid (RB.put (wq := v56) (en := ceE t p x.has x.cls x.code) (va := ceV t p x.has x.cls x.code) Bx (show w46.heap.size ≤ v49.heap.size by omega) Or0 Or1 okr0 okr1 (fun e => by have h1 := hbr0 _ e; omega) (fun e => by have h1 := hbr1 _ e; omega) apr LR (by omega))
              clear Bx Or0 Or1 hbr0 hbr1
              refine wpAnyZ_one (i := 8) (by kernel_rfl) (ReadyZ.mk rfl (fun K hK => ?_))
              go_simp
              refine hK.out _ _ (fun h => absurd h (by decide)) ?_
              clear hK K
              try simp only [Act.put, List.setIfInBounds_toArray, List.set_cons_zero, List.set_cons_succ]
              refine wpAnyZ_done (by kernel_rfl) ?_ _
              refine NoPanic.normal ?_
              go_wp2_with fail
              go_meet
              exact ⟨_, _, _, _, _, rfl, HRB.out⟩
          · go_simp
            obtain ⟨Bx, hle⟩ := box4f v48 35
            have hbl : w46.heap.size ≤ v48.heap.size := LR.size
            have sv58 : v48.heap.size < (v48.alloc (.cells #[.slice none 0 0, .int .i64 0, .int .i64 0, .slice none 0 0] 35)).heap.size := Bx.lt
            replace cat := (hle.cell zat).trans cat
            replace cx0 := (hle.cell zx0).trans cx0
            replace cx1 := (hle.cell zx1).trans cx1
            replace cx2 := (hle.cell zx2).trans cx2
            replace zat := Nat.lt_of_lt_of_le zat hle.size
            replace zx0 := Nat.lt_of_lt_of_le zx0 hle.size
            replace zx1 := Nat.lt_of_lt_of_le zx1 hle.size
            replace zx2 := Nat.lt_of_lt_of_le zx2 hle.size
            replace L0 := L0.trans hle
            replace LR := LR.trans hle
            replace Oct := own_le Oct hle
            clear hle
            generalize v48.alloc (.cells #[.slice none 0 0, .int .i64 0, .int .i64 0, .slice none 0 0] 35) = v58 at *
            refine hK.out _ _ (fun _ => ⟨cat, cx0, cx1, cx2⟩) ?_
            clear hK K
            try simp only [Act.put, List.setIfInBounds_toArray, List.set_cons_zero, List.set_cons_succ]
            refine wpAnyZ_one (i := 3) (by kernel_rfl) (ReadyZ.mk rfl (fun K hK => ?_))
            go_simp
            go_at_call 10
            refine (toExitS_any Ap np cp p _ (hp.le L0) (by omega)).mono ?_
            rintro e v59 ⟨rfl, Ocp, hle⟩
            have sv59 : v58.heap.size ≤ v59.heap.size := hle.size
            replace cat := (hle.cell zat).trans cat
            replace cx0 := (hle.cell zx0).trans cx0
            replace cx1 := (hle.cell zx1).trans cx1
            replace cx2 := (hle.cell zx2).trans cx2
            replace zat := Nat.lt_of_lt_of_le zat hle.size
            replace zx0 := Nat.lt_of_lt_of_le zx0 hle.size
            replace zx1 := Nat.lt_of_lt_of_le zx1 hle.size
            replace zx2 := Nat.lt_of_lt_of_le zx2 hle.size
            replace L0 := L0.trans hle
            replace LR := LR.trans hle
            replace Oct := own_le Oct hle
            replace Bx := Bx.le hle
            clear hle
            refine hK.out _ _ (fun _ => ⟨cat, cx0, cx1, cx2⟩) ?_
            clear hK K
            try simp only [Act.put, List.setIfInBounds_toArray, List.set_cons_zero, List.set_cons_succ]
            refine wpAnyZ_one (i := 5) (by kernel_rfl) (ReadyZ.mk rfl (fun K hK => ?_))
            go_simp
            go_at_call 11
            refine (toStart_any x _).mono ?_
            rintro e v60 ⟨rfl, hle⟩
            have sv60 : v59.heap.size ≤ v60.heap.size := hle.size
            replace cat := (hle.cell zat).trans cat
            replace cx0 := (hle.cell zx0).trans cx0
            replace cx1 := (hle.cell zx1).trans cx1
            replace cx2 := (hle.cell zx2).trans cx2
            replace zat := Nat.lt_of_lt_of_le zat hle.size
            replace zx0 := Nat.lt_of_lt_of_le zx0 hle.size
            replace zx1 := Nat.lt_of_lt_of_le zx1 hle.size
            replace zx2 := Nat.lt_of_lt_of_le zx2 hle.size
            replace L0 := L0.trans hle
            replace LR := LR.trans hle
            replace Oct := own_le Oct hle
            replace Bx := Bx.le hle
            replace Ocp := own_le Ocp hle
            clear hle
            refine hK.out _ _ (fun _ => ⟨cat, cx0, cx1, cx2⟩) ?_
            clear hK K
            try simp only [Act.put, List.setIfInBounds_toArray, List.set_cons_zero, List.set_cons_succ]
            refine wpAnyZ_one (i := 6) (by kernel_rfl) (ReadyZ.mk rfl (fun K hK => ?_))
            go_simp
            go_at_call 12
            refine (iCloseExits_any _ _ _ _ _ _ t p x.has x.cls x.code ⟨hx.1, hx.2.1⟩ ⟨hx.2.2.1, hx.2.2.2⟩ _ (Sl.of_own Oct rfl (by decide) hokt) (Sl.of_own Ocp rfl (by decide) hokp)).mono ?_
            rintro e v61 ⟨vl0, vh0, rfl, DL0, DH0, apr, hle⟩
            have sv61 : v60.heap.size ≤ v61.heap.size := hle.size
            replace cat := (hle.cell zat).trans cat
            replace cx0 := (hle.cell zx0).trans cx0
            replace cx1 := (hle.cell zx1).trans cx1
            replace cx2 := (hle.cell zx2).trans cx2
            replace zat := Nat.lt_of_lt_of_le zat hle.size
            replace zx0 := Nat.lt_of_lt_of_le zx0 hle.size
            replace zx1 := Nat.lt_of_lt_of_le zx1 hle.size
            replace zx2 := Nat.lt_of_lt_of_le zx2 hle.size
            replace L0 := L0.trans hle
            replace LR := LR.trans hle
            replace Oct := own_le Oct hle
            replace Bx := Bx.le hle
            replace Ocp := own_le Ocp hle
            clear hle
            obtain ⟨Ar0, qr0, rfl, -, hbr0⟩ := DL0.form (by decide)
            obtain ⟨Ar1, qr1, rfl, -, hbr1⟩ := DH0.form (by decide)
            have Or0 := DL0.row
            have okr0 := DL0.ok
            have Or1 := DH0.row
            have okr1 := DH0.ok
            clear DL0 DH0
            refine hK.out _ _ (fun _ => ⟨cat, cx0, cx1, cx2⟩) ?_
            clear hK K
            try simp only [Act.put, List.setIfInBounds_toArray, List.set_cons_zero, List.set_cons_succ]
            obtain ⟨y0, y0f, y1, y1f, y2, y2f, y3, y3f⟩ := Bx.fours (.slice Ar0 (ceL t p x.has x.cls x.code).length qr0) (.int .i64 (ceE t p x.has x.cls x.code)) (.int .i64 (ceV t p x.has x.cls x.code))
            have HRB := Lib.hid (RB.put (wq := v60) (en := ceE t p x.has x.cls x.code) (va := ceV t p x.has x.cls x.code) Bx (show w46.heap.size ≤ v48.heap.size by omega) Or0 Or1 okr0 okr1 (fun e => by have h1 := hbr0 _ e; omega) (fun e => by have h1 := hbr1 _ e; omega) apr LR (by omega))
            clear Bx Or0 Or1 hbr0 hbr1
            refine wpAnyZ_one (i := 8) (by kernel_rfl) (ReadyZ.mk rfl (fun K hK => ?_))
            go_simp
            refine hK.out _ _ (fun h => absurd h (by decide)) ?_
            clear hK K
            try simp only [Act.put, List.setIfInBounds_toArray, List.set_cons_zero, List.set_cons_succ]
            refine wpAnyZ_done (by kernel_rfl) ?_ _
            refine NoPanic.normal ?_
            go_wp2_with fail
            go_meet
            exact ⟨_, _, _, _, _, rfl, HRB.out⟩
        · go_simp
          obtain ⟨Bx, hle⟩ := box4f v47 35
          have hbl : w46.heap.size ≤ v47.heap.size := LR.size
          have sv62 : v47.heap.size < (v47.alloc (.cells #[.slice none 0 0, .int .i64 0, .int .i64 0, .slice none 0 0] 35)).heap.size := Bx.lt
          replace cat := (hle.cell zat).trans cat
          replace cx0 := (hle.cell zx0).trans cx0
          replace cx1 := (hle.cell zx1).trans cx1
          replace cx2 := (hle.cell zx2).trans cx2
          replace zat := Nat.lt_of_lt_of_le zat hle.size
          replace zx0 := Nat.lt_of_lt_of_le zx0 hle.size
          replace zx1 := Nat.lt_of_lt_of_le zx1 hle.size
          replace zx2 := Nat.lt_of_lt_of_le zx2 hle.size
          replace L0 := L0.trans hle
          replace LR := LR.trans hle
          clear hle
          generalize v47.alloc (.cells #[.slice none 0 0, .int .i64 0, .int .i64 0, .slice none 0 0] 35) = v62 at *
          refine hK.out _ _ (fun _ => ⟨cat, cx0, cx1, cx2⟩) ?_
          clear hK K
          try simp only [Act.put, List.setIfInBounds_toArray, List.set_cons_zero, List.set_cons_succ]
          refine wpAnyZ_one (i := 1) (by kernel_rfl) (ReadyZ.mk rfl (fun K hK => ?_))
          go_simp
          go_at_call 9
          refine (toTree_any At nt ct t _ (ht.le L0) (by omega)).mono ?_
          rintro e v63 ⟨gct, rfl, hgct, Oct, hle⟩
          have sv63 : v62.heap.size ≤ v63.heap.size := hle.size
          replace cat := (hle.cell zat).trans cat
          replace cx0 := (hle.cell zx0).trans cx0
          replace cx1 := (hle.cell zx1).trans cx1
          replace cx2 := (hle.cell zx2).trans cx2
          replace zat := Nat.lt_of_lt_of_le zat hle.size
          replace zx0 := Nat.lt_of_lt_of_le zx0 hle.size
          replace zx1 := Nat.lt_of_lt_of_le zx1 hle.size
          replace zx2 := Nat.lt_of_lt_of_le zx2 hle.size
          replace L0 := L0.trans hle
          replace LR := LR.trans hle
          replace Bx := Bx.le hle
          clear hle
          refine hK.out _ _ (fun _ => ⟨cat, cx0, cx1, cx2⟩) ?_
          clear hK K
          try simp only [Act.put, List.setIfInBounds_toArray, List.set_cons_zero, List.set_cons_succ]
          refine wpAnyZ_one (i := 3) (by kernel_rfl) (ReadyZ.mk rfl (fun K hK => ?_))
          go_simp
          go_at_call 10
          refine (toExitS_any Ap np cp p _ (hp.le L0) (by omega)).mono ?_
          rintro e v64 ⟨rfl, Ocp, hle⟩
          have sv64 : v63.heap.size ≤ v64.heap.size := hle.size
          replace cat := (hle.cell zat).trans cat
          replace cx0 := (hle.cell zx0).trans cx0
          replace cx1 := (hle.cell zx1).trans cx1
          replace cx2 := (hle.cell zx2).trans cx2
          replace zat := Nat.lt_of_lt_of_le zat hle.size
          replace zx0 := Nat.lt_of_lt_of_le zx0 hle.size
          replace zx1 := Nat.lt_of_lt_of_le zx1 hle.size
          replace zx2 := Nat.lt_of_lt_of_le zx2 hle.size
          replace L0 := L0.trans hle
          replace LR := LR.trans hle
          replace Bx := Bx.le hle
          replace Oct := own_le Oct hle
          clear hle
          refine hK.out _ _ (fun _ => ⟨cat, cx0, cx1, cx2⟩) ?_
          clear hK K
          try simp only [Act.put, List.setIfInBounds_toArray, List.set_cons_zero, List.set_cons_succ]
          refine wpAnyZ_one (i := 5) (by kernel_rfl) (ReadyZ.mk rfl (fun K hK => ?_))
          go_simp
          go_at_call 11
          refine (toStart_any x _).mono ?_
          rintro e v65 ⟨rfl, hle⟩
          have sv65 : v64.heap.size ≤ v65.heap.size := hle.size
          replace cat := (hle.cell zat).trans cat
          replace cx0 := (hle.cell zx0).trans cx0
          replace cx1 := (hle.cell zx1).trans cx1
          replace cx2 := (hle.cell zx2).trans cx2
          replace zat := Nat.lt_of_lt_of_le zat hle.size
          replace zx0 := Nat.lt_of_lt_of_le zx0 hle.size
          replace zx1 := Nat.lt_of_lt_of_le zx1 hle.size
          replace zx2 := Nat.lt_of_lt_of_le zx2 hle.size
          replace L0 := L0.trans hle
          replace LR := LR.trans hle
          replace Bx := Bx.le hle
          replace Oct := own_le Oct hle
          replace Ocp := own_le Ocp hle
          clear hle
          refine hK.out _ _ (fun _ => ⟨cat, cx0, cx1, cx2⟩) ?_
          clear hK K
          try simp only [Act.put, List.setIfInBounds_toArray, List.set_cons_zero, List.set_cons_succ]
          refine wpAnyZ_one (i := 6) (by kernel_rfl) (ReadyZ.mk rfl (fun K hK => ?_))
          go_simp
          go_at_call 12
          refine (iCloseExits_any _ _ _ _ _ _ t p x.has x.cls x.code ⟨hx.1, hx.2.1⟩ ⟨hx.2.2.1, hx.2.2.2⟩ _ (Sl.of_own Oct rfl (by decide) hokt) (Sl.of_own Ocp rfl (by decide) hokp)).mono ?_
          rintro e v66 ⟨vl0, vh0, rfl, DL0, DH0, apr, hle⟩
          have sv66 : v65.heap.size ≤ v66.heap.size := hle.size
          replace cat := (hle.cell zat).trans cat
          replace cx0 := (hle.cell zx0).trans cx0
          replace cx1 := (hle.cell zx1).trans cx1
          replace cx2 := (hle.cell zx2).trans cx2
          replace zat := Nat.lt_of_lt_of_le zat hle.size
          replace zx0 := Nat.lt_of_lt_of_le zx0 hle.size
          replace zx1 := Nat.lt_of_lt_of_le zx1 hle.size
          replace zx2 := Nat.lt_of_lt_of_le zx2 hle.size
          replace L0 := L0.trans hle
          replace LR := LR.trans hle
          replace Bx := Bx.le hle
          replace Oct := own_le Oct hle
          replace Ocp := own_le Ocp hle
          clear hle
          obtain ⟨Ar0, qr0, rfl, -, hbr0⟩ := DL0.form (by decide)
          obtain ⟨Ar1, qr1, rfl, -, hbr1⟩ := DH0.form (by decide)
          have Or0 := DL0.row
          have okr0 := DL0.ok
          have Or1 := DH0.row
          have okr1 := DH0.ok
          clear DL0 DH0
          refine hK.out _ _ (fun _ => ⟨cat, cx0, cx1, cx2⟩) ?_
          clear hK K
          try simp only [Act.put, List.setIfInBounds_toArray, List.set_cons_zero, List.set_cons_succ]
          obtain ⟨y0, y0f, y1, y1f, y2, y2f, y3, y3f⟩ := Bx.fours (.slice Ar0 (ceL t p x.has x.cls x.code).length qr0) (.int .i64 (ceE t p x.has x.cls x.code)) (.int .i64 (ceV t p x.has x.cls x.code))
          have HRB := Lib.hid (RB.put (wq := v65) (en := ceE t p x.has x.cls x.code) (va := ceV t p x.has x.cls x.code) Bx (show w46.heap.size ≤ v47.heap.size by omega) Or0 Or1 okr0 okr1 (fun e => by have h1 := hbr0 _ e; omega) (fun e => by have h1 := hbr1 _ e; omega) apr LR (by omega))
          clear Bx Or0 Or1 hbr0 hbr1
          refine wpAnyZ_one (i := 8) (by kernel_rfl) (ReadyZ.mk rfl (fun K hK => ?_))
          go_simp
          refine hK.out _ _ (fun h => absurd h (by decide)) ?_
          clear hK K
          try simp only [Act.put, List.setIfInBounds_toArray, List.set_cons_zero, List.set_cons_succ]
          refine wpAnyZ_done (by kernel_rfl) ?_ _
          refine NoPanic.normal ?_
          go_wp2_with fail
          go_meet
          exact ⟨_, _, _, _, _, rfl, HRB.out⟩
      case rest =>
        obtain ⟨gh, Ah0, Ah1, qh0, qh1, rfl, RBh⟩ := hcut
        generalize wc = w67 at *
        have hle := RBh.G
        have s67 := hle.size
        replace cat := (hle.cell zat).trans cat
        replace cx0 := (hle.cell zx0).trans cx0
        replace cx1 := (hle.cell zx1).trans cx1
        replace cx2 := (hle.cell zx2).trans cx2
        replace cw0 := (hle.cell zw0).trans cw0
        replace cw1 := (hle.cell zw1).trans cw1
        replace cw2 := (hle.cell zw2).trans cw2
        replace cw3 := (hle.cell zw3).trans cw3
        replace cg0 := (hle.cell zg0).trans cg0
        replace cg1 := (hle.cell zg1).trans cg1
        replace cg2 := (hle.cell zg2).trans cg2
        replace cg3 := (hle.cell zg3).trans cg3
        replace zat := Nat.lt_of_lt_of_le zat hle.size
        replace zx0 := Nat.lt_of_lt_of_le zx0 hle.size
        replace zx1 := Nat.lt_of_lt_of_le zx1 hle.size
        replace zx2 := Nat.lt_of_lt_of_le zx2 hle.size
        replace L0 := L0.trans hle
        replace zw0 := Nat.lt_of_lt_of_le zw0 hle.size
        replace zw1 := Nat.lt_of_lt_of_le zw1 hle.size
        replace zw2 := Nat.lt_of_lt_of_le zw2 hle.size
        replace zw3 := Nat.lt_of_lt_of_le zw3 hle.size
        replace S00 := S00.le hle
        replace S01 := S01.le hle
        replace zg0 := Nat.lt_of_lt_of_le zg0 hle.size
        replace zg1 := Nat.lt_of_lt_of_le zg1 hle.size
        replace zg2 := Nat.lt_of_lt_of_le zg2 hle.size
        replace zg3 := Nat.lt_of_lt_of_le zg3 hle.size
        replace O10 := own_le O10 hle
        replace O11 := own_le O11 hle
        clear hle
        have bdh := RBh.bd
        have loh := RBh.lo
        have hih := RBh.b.lt
        have ch0 := RBh.b.c0
        have zh0 := hih
        have ch1 := RBh.b.c1
        have zh1 := hih
        have ch2 := RBh.b.c2
        have zh2 := hih
        have ch3 := RBh.b.c3
        have zh3 := hih
        have Oh0 := RBh.O
        have Oh1 := RBh.H
        have okLh0 := RBh.okl
        have okLh1 := RBh.okh
        have Ph := RBh.ap
        clear RBh
        have O20 := Oh0
        have O21 := Oh1
        have okL20 := okLh0
        have okL21 := okLh1
        clear Oh0 Oh1 okLh0 okLh1 Ph bdh
        go_wp2_with fail
        refine (eqResult_self _ _ _ _ _ _ _ _ _ _ (ceL t p x.has x.cls x.code) (ceH t p x.has x.cls x.code) _ _ _ (Sl.of_own O20 rfl (by decide) okL20) S00 (Sl.of_own O21 rfl (by decide) okL21) S01).mono ?_
        rintro e w68 ⟨rfl, hle⟩
        have s68 := hle.size
        replace cat := (hle.cell zat).trans cat
        replace cx0 := (hle.cell zx0).trans cx0
        replace cx1 := (hle.cell zx1).trans cx1
        replace cx2 := (hle.cell zx2).trans cx2
        replace cw0 := (hle.cell zw0).trans cw0
        replace cw1 := (hle.cell zw1).trans cw1
        replace cw2 := (hle.cell zw2).trans cw2
        replace cw3 := (hle.cell zw3).trans cw3
        replace cg0 := (hle.cell zg0).trans cg0
        replace cg1 := (hle.cell zg1).trans cg1
        replace cg2 := (hle.cell zg2).trans cg2
        replace cg3 := (hle.cell zg3).trans cg3
        replace ch0 := (hle.cell zh0).trans ch0
        replace ch1 := (hle.cell zh1).trans ch1
        replace ch2 := (hle.cell zh2).trans ch2
        replace ch3 := (hle.cell zh3).trans ch3
        replace zat := Nat.lt_of_lt_of_le zat hle.size
        replace zx0 := Nat.lt_of_lt_of_le zx0 hle.size
        replace zx1 := Nat.lt_of_lt_of_le zx1 hle.size
        replace zx2 := Nat.lt_of_lt_of_le zx2 hle.size
        replace L0 := L0.trans hle
        replace zw0 := Nat.lt_of_lt_of_le zw0 hle.size
        replace zw1 := Nat.lt_of_lt_of_le zw1 hle.size
        replace zw2 := Nat.lt_of_lt_of_le zw2 hle.size
        replace zw3 := Nat.lt_of_lt_of_le zw3 hle.size
        replace S00 := S00.le hle
        replace S01 := S01.le hle
        replace zg0 := Nat.lt_of_lt_of_le zg0 hle.size
        replace zg1 := Nat.lt_of_lt_of_le zg1 hle.size
        replace zg2 := Nat.lt_of_lt_of_le zg2 hle.size
        replace zg3 := Nat.lt_of_lt_of_le zg3 hle.size
        replace O10 := own_le O10 hle
        replace O11 := own_le O11 hle
        replace zh0 := Nat.lt_of_lt_of_le zh0 hle.size
        replace zh1 := Nat.lt_of_lt_of_le zh1 hle.size
        replace zh2 := Nat.lt_of_lt_of_le zh2 hle.size
        replace zh3 := Nat.lt_of_lt_of_le zh3 hle.size
        replace O20 := own_le O20 hle
        replace O21 := own_le O21 hle
        clear hle
        clear O20 O21
        go_wp2_with fail
        refine (heldResult_any _ _ _ _ _ _ _ _ _ _ (Sl.of_own O10 rfl (by decide) (mInt_ok (by omega) (by omega) HLL)) (Sl.of_own O11 rfl (by decide) (mFlt_ok (by omega) (by omega) HLH)) (by omega) (by omega) HLL HLH).mono ?_
        rintro e w69 ⟨rfl, hle⟩
        have s69 := hle.size
        replace cat := (hle.cell zat).trans cat
        replace cx0 := (hle.cell zx0).trans cx0
        replace cx1 := (hle.cell zx1).trans cx1
        replace cx2 := (hle.cell zx2).trans cx2
        replace cw0 := (hle.cell zw0).trans cw0
        replace cw1 := (hle.cell zw1).trans cw1
        replace cw2 := (hle.cell zw2).trans cw2
        replace cw3 := (hle.cell zw3).trans cw3
        replace cg0 := (hle.cell zg0).trans cg0
        replace cg1 := (hle.cell zg1).trans cg1
        replace cg2 := (hle.cell zg2).trans cg2
        replace cg3 := (hle.cell zg3).trans cg3
        replace ch0 := (hle.cell zh0).trans ch0
        replace ch1 := (hle.cell zh1).trans ch1
        replace ch2 := (hle.cell zh2).trans ch2
        replace ch3 := (hle.cell zh3).trans ch3
        replace zat := Nat.lt_of_lt_of_le zat hle.size
        replace zx0 := Nat.lt_of_lt_of_le zx0 hle.size
        replace zx1 := Nat.lt_of_lt_of_le zx1 hle.size
        replace zx2 := Nat.lt_of_lt_of_le zx2 hle.size
        replace L0 := L0.trans hle
        replace zw0 := Nat.lt_of_lt_of_le zw0 hle.size
        replace zw1 := Nat.lt_of_lt_of_le zw1 hle.size
        replace zw2 := Nat.lt_of_lt_of_le zw2 hle.size
        replace zw3 := Nat.lt_of_lt_of_le zw3 hle.size
        replace S00 := S00.le hle
        replace S01 := S01.le hle
        replace zg0 := Nat.lt_of_lt_of_le zg0 hle.size
        replace zg1 := Nat.lt_of_lt_of_le zg1 hle.size
        replace zg2 := Nat.lt_of_lt_of_le zg2 hle.size
        replace zg3 := Nat.lt_of_lt_of_le zg3 hle.size
        replace O10 := own_le O10 hle
        replace O11 := own_le O11 hle
        replace zh0 := Nat.lt_of_lt_of_le zh0 hle.size
        replace zh1 := Nat.lt_of_lt_of_le zh1 hle.size
        replace zh2 := Nat.lt_of_lt_of_le zh2 hle.size
        replace zh3 := Nat.lt_of_lt_of_le zh3 hle.size
        clear hle
        go_wp2
        go_ret
        exact ⟨rfl, L0⟩
end
end Go.Proofs.Ytacilbglnhgifaa
