/- one text of PfK, PfL -/
import Derived.Test.YtgjlmfjmjglplaaGreatFj28
import Derived.Test.YtgjlmfjmjglplaaGreatFj25
import Derived.Test.YtgjlmfjmjglplaaGreatFj27
import Derived.Test.YtgjlmfjmjglplaaGreatFj13
import Derived.Test.YtgjlmfjmjglplaaGreatFj11
import Derived.Test.YtgjlmfjmjglplaaGreatFj17
import Derived.Test.YtgjlmfjmjglplaaGreatFj14
namespace Go.Proofs.YtgjlmfjmjglplaaGreat
open Go.RowKit
set_option linter.unusedVariables false
section
/-- firstJump does what is said of it for blocks of at most so many lines -/
def FjOk (p : List Lin) (N : Nat) : Prop := ∀ (A : Option Addr) (n cap : Nat) (a b : Nat) (D : Int) (w : World), b - a ≤ N → Blk p a b D → Sl w A n cap p → Calls Tryz.prog 18 #[.slice A n cap, .int .i64 a, .int .i64 b] w fun e w' => e = .returned (.int .i64 (scn p a b)) ∧ Le w w'
theorem lnA_atF {p : List Lin} {i : Nat} (h : i < p.length) : lnA p i = p[i].a := lnA_at h
theorem jIn_no {xs : List Cls} {p : List Lin} (g : GoodP xs p) {i : Nat} (hi : i < p.length) (hj : jmpK (knd p i) = false) (ho : opn (knd p i) = false) : scn p i (nx p i) = -1 := by
  have h7 : knd p i ≠ 7 := fun e => by rw [opn_iff.2 (by omega)] at ho; cases ho
  have h12 : lpz p i = false := by
    unfold lpz
    rw [decide_eq_false (fun e : knd p i = 12 => by rw [opn_iff.2 (by omega)] at ho; cases ho)]; rfl
  have h8 : knd p i ≠ 8 := fun e => by rw [opn_iff.2 (by omega)] at ho; cases ho
  have e : nx p i = i + 1 := by unfold nx; rw [if_neg h7, bEndF_one g hi ho]
  rw [e, scn_at (by omega), if_neg (by rw [hj]; decide), if_neg (by rw [h12]; rintro (h | h); exact h8 h; cases h), scn_end (by omega)]
theorem jIn_zero {p : List Lin} {i : Nat} (hj : jmpK (knd p i) = false) (h0 : lpz p i = true) : scn p i (nx p i) = -1 := by
  have h12 : knd p i = 12 := by
    unfold lpz at h0
    rw [Bool.and_eq_true, decide_eq_true_iff] at h0; exact h0.1
  have e : nx p i = bEnd p i := by unfold nx; rw [if_neg (by omega)]
  have hb := bEnd_gt p i
  rw [e, scn_at hb, if_neg (by rw [hj]; decide), if_pos (.inr h0), scn_end (by omega)]
theorem scn_into {p : List Lin} {i b : Nat} (hib : i < b) (hj : jmpK (knd p i) = false) (h8 : knd p i ≠ 8) (h0 : lpz p i = false) : scn p i b = scn p (i + 1) b := by
  rw [scn_at hib, if_neg (by rw [hj]; decide), if_neg (by rw [h0]; rintro (h | h); exact h8 h; cases h)]
set_option maxHeartbeats 4000000 in
set_option maxRecDepth 100000 in
theorem jumpIn_any (A : Option Addr) (n cap : Nat) (xs : List Cls) (p : List Lin) (N : Nat) (H : FjOk p N) (g : GoodP xs p) (a b i : Nat) (D : Int) (hB : Blk p a b D) (hai : a ≤ i) (hib : i < b) (hd : dep p i = D) (hf : fol (knd p i) = false) (hj : jmpK (knd p i) = false) (hN : b - i ≤ N + 1) (w : World) (hR : Sl w A n cap p) :
    Calls Tryz.prog 39 #[.slice A n cap, .int .i64 i] w fun e w' => e = .returned (.int .i64 (scn p i (nx p i))) ∧ Le w w' := by
  obtain rfl := hR.len
  have hp := g.len
  have hi : i < p.length := by have := hB.le; omega
  have HK := Lib.hid (knd_at hi)
  have HLA := Lib.hid (lnA_at hi)
  have hx0 : (0 : Int) ≤ (i : Int) := by omega
  have hxn : (i : Int) < (p.length : Int) := by omega
  have hbe := hB.in hai hib
  have hbg := bEnd_gt p i
  have hbl := bEnd_le hi
  obtain ⟨bb, off, rfl, hb, d0, d1, d2, d3, -⟩ := hR.lin_at hi
  have HGP := Lib.hid g
  have HBK := Lib.hid hB
  have HLZ : Hid (lpz p i = (decide (knd p i = 12) && decide (lnA p i = 0))) := rfl
  rw [HK.out, HLA.out] at HLZ
  have hwi : IntKind.i64.wrap ((i : Int) + 1) = (i : Int) + 1 := IntWalk.i64_in _ (by omega)
  go_enter Tryz.func39, Tryz.ntmps39
  cases ho : opn (knd p i)
  · have HF := Lib.hid (jIn_no g hi hj ho)
    rw [HK.out] at ho
    generalize p[i].kind = vk at *
    go_wp2_with fail
    refine (opens_any vk w).mono ?_
    rintro e w' ⟨rfl, rfl⟩
    rw [ho]
    go_wp2
    go_ret
    exact ⟨ret_int HF.out.symm, Le.refl _⟩
  · have HBO := Lib.hid (Blk.of g hi ho)
    have HO1 := Lib.hid ho
    have HZ := Lib.hid (fun h0 => jIn_zero (p := p) (i := i) hj h0)
    have HI := Lib.hid (fun b (hib : i < b) h8 h0 => scn_into hib hj h8 h0)
    have HJ := Lib.hid hj
    have h8 : knd p i ≠ 8 := fun e => by rw [fol_iff.2 (by omega)] at hf; cases hf
    have H8 := Lib.hid h8
    have HNX : Hid (nx p i = if knd p i = 7 then bEnd p (lstP p i) else bEnd p i) := rfl
    rw [HK.out] at ho
    clear h8
    by_cases h0 : lpz p i = true
    · have HF : Hid (scn p i (nx p i) = -1) := HZ.out h0
      rw [HLZ.out, Bool.and_eq_true, decide_eq_true_iff, decide_eq_true_iff] at h0
      have b12 : (p[i].kind == 12) = true := by rw [h0.1]; rfl
      have b0 : (p[i].a == 0) = true := by rw [h0.2]; rfl
      generalize p[i].kind = vk at *
      generalize p[i].a = va at *
      clear h0
      go_wp2_with fail
      refine (opens_any vk w).mono ?_
      rintro e w' ⟨rfl, rfl⟩
      rw [ho]
      go_wp2
      go_ret
      exact ⟨ret_int HF.out.symm, Le.refl _⟩
    · have h0f : lpz p i = false := by simpa using h0
      have HIN := Lib.hid (fun b (hib : i < b) => HI.out b hib H8.out h0f)
      have hb12 : (p[i].kind == 12) = false ∨ ((p[i].kind == 12) = true ∧ (p[i].a == 0) = false) := by
        rw [HLZ.out] at h0f
        by_cases c : p[i].kind = 12
        · right
          rw [decide_eq_true c, Bool.true_and, decide_eq_false_iff_not] at h0f
          exact ⟨by rw [c]; rfl, bf h0f⟩
        · exact .inl (bf c)
      have hd2 := hd
      clear h0 h0f HZ HI HLZ hf hj hd
      have HCP := Lib.hid (chain_parts g.tries hi)
      have HPT := Lib.hid (hB.part hai hib hd2)
      have HLK : Hid (∀ n (h : n + 1 < (parts p i).length), (parts p i)[n + 1] = bEnd p (parts p i)[n]) := fun n h => parts_link h
      have HPL : Hid (knd p i = 7 → ∀ n (h : n < (parts p i).length), bEnd p (parts p i)[n] ≤ nx p i) := fun h n hn => pos_le h hn
      have HPE : Hid (knd p i = 7 → ∀ n (h : n + 1 = (parts p i).length), bEnd p ((parts p i)[n]'(by omega)) = nx p i) := fun h n hn => pos_end h hn
      have HFO : Hid (knd p i = 7 → ∀ n (h : n < (parts p i).length), 1 ≤ n → fol (knd p (parts p i)[n]) = true) := fun h7 n hn h1 => by
        rcases try_step (p := p) (j := i) (x := (parts p i)[n]) ⟨h7, List.getElem_mem hn⟩ with h | h
        · have h2 : (parts p i)[0]'(by omega) = i := rfl
          have := List.pairwise_iff_getElem.1 (partsF_asc p i) 0 n (by omega) hn (by omega)
          omega
        · exact h.1
      have hpos := parts_posF p i
      have hplen := parts_len p i
      have hnb : nx p i ≤ p.length := by
        rw [HNX.out]
        split
        · exact bEnd_le (partsF hi (lstP_mem p i)).2.1
        · exact hbl
      have HSP : Hid (∀ a2 c, a2 ≤ c → c ≤ nx p i → (∀ x, a2 ≤ x → x < c → bEnd p x ≤ c) → scn p a2 (nx p i) = if 0 ≤ scn p a2 c then scn p a2 c else scn p c (nx p i)) := fun a2 c h1 h2 h3 => scn_split h2 c a2 (by omega) h1 h3
      clear g hB
      generalize p[i].kind = vk at *
      generalize p[i].a = va at *
      rcases hb12 with hk12 | ⟨hk12, hk0⟩
      all_goals
        go_wp2_with fail
        refine (opens_any vk w).mono ?_
        rintro e w' ⟨rfl, rfl⟩
        rw [ho]
        go_wp2_with fail
        refine (sBlockEnd_any _ p.length cap p i hi w hR).mono ?_
        rintro e w1 ⟨rfl, hle1⟩
        have R1 := hR.le hle1
        go_wp2_with fail
        refine (H _ _ _ (i + 1) (bEnd p i) _ w1 (by omega) HBO.out R1).mono ?_
        rintro e w2 ⟨rfl, hle2⟩
        have L2 := hle1.trans hle2
        have R2 := R1.le hle2
        have e1 := (L2.cell hb).trans d1
        have HK1 := Lib.hid (HIN.out (bEnd p i) hbg)
        have HNG := Lib.hid (fun h => scn_neg (p := p) (a := i + 1) (b := bEnd p i) h)
        clear R1 hle1 hle2 d0 d1 d2 d3
        by_cases h7 : vk = 7
        · have HK7 : Hid (knd p i = 7) := HK.out.trans h7
          have hkb : (vk != 7) = false := by rw [h7]; rfl
          have hbn : bEnd p i ≤ nx p i := HPL.out HK7.out 0 hpos
          have HSI : Hid (scn p i (nx p i) = if 0 ≤ scn p (i + 1) (bEnd p i) then scn p (i + 1) (bEnd p i) else scn p (bEnd p i) (nx p i)) := by
            show _ = _
            rw [HIN.out (nx p i) (by omega)]
            exact HSP.out (i + 1) (bEnd p i) (by omega) hbn (fun x h1 h2 => HBO.out.in h1 h2)
          generalize scn p (i + 1) (bEnd p i) = k1 at *
          by_cases hk : 0 ≤ k1
          · have hkk : decide ((0 : Int) ≤ k1) = true := decide_eq_true hk
            have HF : Hid (scn p i (nx p i) = k1) := by show _ = _; rw [HSI.out, if_pos hk]
            go_wp2
            go_ret
            exact ⟨ret_int HF.out.symm, L2⟩
          · have hk1 : k1 = -1 := HNG.out hk
            have HF0 : Hid (scn p i (nx p i) = scn p (bEnd p i) (nx p i)) := by show _ = _; rw [HSI.out, if_neg hk]
            subst hk1
            have hkk : decide ((0 : Int) ≤ -1) = false := by decide
            clear hk HSI HNG HK1
            go_wp2_with fail
            refine (chainOf_any _ p.length cap p i hi (by omega) w2 R2).mono ?_
            rintro e w3 ⟨v, rfl, DC, hle3⟩
            rw [HCP.out] at DC
            obtain ⟨A3, q3, rfl, S3, -⟩ := DC.form (by decide)
            rw [nI_len] at S3 ⊢
            have L3 := L2.trans hle3
            have R3 := R2.le hle3
            clear DC hle3 R2 L2 e1 hR hb
            go_wp2
            go_loopw [5, 7] (fun kk nn wr => ∃ (n : Nat) (kv : Int), nn = .int .i64 n ∧ 1 ≤ n ∧ n ≤ (parts p i).length ∧ kk = .int .i64 kv ∧ ((0 ≤ kv ∧ kv = scn p i (nx p i)) ∨ (kv = -1 ∧ ∃ y, (parts p i)[n - 1]? = some y ∧ scn p i (nx p i) = scn p (bEnd p y) (nx p i))) ∧ Le w3 wr) (fun _ nn _ => (parts p i).length + 1 - (intOf nn).toNat)
            case atStart => exact ⟨1, -1, rfl, Nat.le_refl _, hpos, rfl, .inr ⟨rfl, i, rfl, HF0.out⟩, Le.refl _⟩
            case round =>
              obtain ⟨n, kv, rfl, hn1, hn2, rfl, hst, LW⟩ := hrel
              have HST := Lib.hid hst
              clear hst
              replace R3 := R3.le LW
              replace S3 := S3.le LW
              replace L3 := L3.trans LW
              by_cases hkv : 0 ≤ kv
              · have HF : Hid (scn p i (nx p i) = kv) := by
                  rcases HST.out with h | h
                  · exact h.2.symm
                  · have := h.1; omega
                have hkvb : decide (kv < 0) = false := decide_eq_false (by omega)
                by_cases hl : n < (parts p i).length
                · have hli : (n : Int) < ((parts p i).length : Int) := by omega
                  go_wp2
                  go_ret
                  exact ⟨ret_int HF.out.symm, L3⟩
                · have hli : ¬ (n : Int) < ((parts p i).length : Int) := by omega
                  go_wp2
                  go_ret
                  exact ⟨ret_int HF.out.symm, L3⟩
              · obtain ⟨hkv1, y0, hy0, hsc⟩ : kv = -1 ∧ ∃ y, (parts p i)[n - 1]? = some y ∧ scn p i (nx p i) = scn p (bEnd p y) (nx p i) := by
                  rcases HST.out with h | h
                  · exact absurd h.1 hkv
                  · exact h
                have HSC := Lib.hid hsc
                subst hkv1
                have hkvb : decide ((-1 : Int) < 0) = true := by decide
                have hy1 : y0 = (parts p i)[n - 1]'(by omega) := by
                  rw [List.getElem?_eq_getElem (by omega)] at hy0
                  injection hy0 with h; exact h.symm
                clear hsc hkv HST hy0
                by_cases hl : n < (parts p i).length
                · have hli : (n : Int) < ((parts p i).length : Int) := by omega
                  obtain ⟨q, rfl⟩ : ∃ q, n = q + 1 := ⟨n - 1, by omega⟩
                  have hyq : y0 = (parts p i)[q]'(by omega) := hy1
                  have hyy := HLK.out q hl
                  rw [← hyq] at hyy
                  have hfo := HFO.out HK7.out (q + 1) hl (by omega)
                  have hpt := HPT.out (q + 1) hl
                  have hpl := HPL.out HK7.out (q + 1) hl
                  obtain ⟨b5, off5, rfl, hb5, c5, -⟩ := S3.int_at (k := q + 1) (by rw [nI_len]; exact hl)
                  rw [nI_at hl] at c5
                  have HGY : Hid ((parts p i)[q + 1]? = some (parts p i)[q + 1]) := List.getElem?_eq_getElem hl
                  generalize (parts p i)[q + 1] = y at *
                  rw [← hyy] at HSC
                  have hyp : y < p.length := by have := HBK.out.le; omega
                  have hyg := bEnd_gt p y
                  have hybb := HBK.out.in (x := y) (by omega) hpt.2.1
                  have hfi := fol_iff.1 hfo
                  have HOY : Hid (Blk p (y + 1) (bEnd p y) (dep p y + 1)) := Blk.of HGP.out hyp (opn_iff.2 (by omega))
                  obtain ⟨b6, off6, e6, hb6, k0, k1, -⟩ := R3.lin_at hyp
                  injection e6 with e6
                  injection e6 with e61 e62
                  subst e61
                  subst e62
                  have HKY := Lib.hid (knd_at hyp)
                  have hy0' : (0 : Int) ≤ (y : Int) := by omega
                  have hyn : (y : Int) < (p.length : Int) := by omega
                  have hq0 : (0 : Int) ≤ ((q + 1 : Nat) : Int) := by omega
                  have hq24 : q + 1 ≤ 25 := by omega
                  generalize p[y].kind = yk at *
                  clear hy1 hyq hyy hfo hl
                  by_cases h8 : yk = 8
                  · have hy8 : (yk != 8) = false := by rw [h8]; rfl
                    have HN : Hid (scn p i (nx p i) = scn p (bEnd p y) (nx p i)) := by
                      show _ = _
                      rw [HSC.out, scn_at (by omega), if_neg (by rw [HKY.out, h8]; decide), if_pos (.inl (by rw [HKY.out, h8]))]
                    clear HSC
                    go_wp2
                    go_roundw
                    case rel => exact ⟨q + 1 + 1, -1, by go_num, by omega, by omega, rfl, .inr ⟨rfl, y, HGY.out, HN.out⟩, LW⟩
                    case measure => simp [intOf]; omega
                  · have hy8 : (yk != 8) = true := by simpa using h8
                    have HN : Hid (scn p i (nx p i) = if 0 ≤ scn p (y + 1) (bEnd p y) then scn p (y + 1) (bEnd p y) else scn p (bEnd p y) (nx p i)) := by
                      show _ = _
                      rw [HSC.out, scn_into (by omega) (by cases e : jmpK (knd p y); rfl; have := jmpK_iff.1 e; omega) (by rw [HKY.out]; exact h8) (by unfold lpz; rw [decide_eq_false (by omega)]; rfl)]
                      exact HSP.out (y + 1) (bEnd p y) (by omega) hpl (fun x h1 h2 => HOY.out.in h1 h2)
                    have hcb : ∀ (g : Ext wr) (_ : True), Calls Tryz.prog 69 #[.slice (some ⟨bb, off, none⟩) p.length cap, .int .i64 y] (wr.ext g) fun e w' => e = .returned (.int .i64 (bEnd p y)) ∧ Le (wr.ext g) w' := fun g _ => sBlockEnd_any _ p.length cap p y hyp _ (R3.le (Le.ext wr g))
                    have hcf : ∀ (g : Ext wr) (_ : True), Calls Tryz.prog 18 #[.slice (some ⟨bb, off, none⟩) p.length cap, .int .i64 ((y : Int) + 1), .int .i64 (bEnd p y)] (wr.ext g) fun e w' => e = .returned (.int .i64 (scn p (y + 1) (bEnd p y))) ∧ Le (wr.ext g) w' := fun g _ => H _ _ _ (y + 1) (bEnd p y) _ _ (by omega) HOY.out (R3.le (Le.ext wr g))
                    have HNG2 := Lib.hid (fun h => scn_neg (p := p) (a := y + 1) (b := bEnd p y) h)
                    have hwy : IntKind.i64.wrap ((y : Int) + 1) = (y : Int) + 1 := IntWalk.i64_in _ (by omega)
                    have E5 := cell_ext hb5 c5
                    clear HSC
                    generalize scn p (y + 1) (bEnd p y) = k2 at *
                    generalize hbey : bEnd p y = be at *
                    go_wp2_with fail
                    refine wp_region_ext (by kernel_rfl) (by kernel_rfl) ?_
                    repeat (go_big_quiet_step (first | (go_at_call 69; with_reducible exact Calls.ext_of (hcb _ trivial)) | (go_at_call 18; with_reducible exact Calls.ext_of (hcf _ trivial))))
                    refine wpQuiet_nil ?_
                    intro _ hw'
                    obtain ⟨gg, rfl⟩ := hw'
                    have hw3 := Le.ext wr gg
                    generalize wr.ext gg = W2 at *
                    go_wp2
                    go_roundw
                    case rel =>
                      by_cases hk2 : 0 ≤ k2
                      · exact ⟨q + 1 + 1, k2, by go_num, by omega, by omega, rfl, .inl ⟨hk2, by rw [HN.out, if_pos hk2]⟩, LW.trans hw3⟩
                      · exact ⟨q + 1 + 1, k2, by go_num, by omega, by omega, rfl, .inr ⟨HNG2.out (by omega), y, HGY.out, by rw [HN.out, if_neg hk2, hbey]⟩, LW.trans hw3⟩
                    case measure => simp [intOf]; omega
                · have hli : ¬ (n : Int) < ((parts p i).length : Int) := by omega
                  have HF : Hid (scn p i (nx p i) = -1) := by
                    show _ = _
                    rw [HSC.out, hy1, HPE.out HK7.out (n - 1) (by omega), scn_end (by omega)]
                  go_wp2
                  go_ret
                  exact ⟨ret_int HF.out.symm, L3⟩
        · have hkb : (vk != 7) = true := by simpa using h7
          have HF : Hid (scn p i (nx p i) = scn p (i + 1) (bEnd p i)) := by show _ = _; rw [HNX.out, if_neg (by rw [HK.out]; exact h7)]; exact HK1.out
          generalize scn p (i + 1) (bEnd p i) = k1 at *
          by_cases hk : 0 ≤ k1
          · have hkk : decide ((0 : Int) ≤ k1) = true := decide_eq_true hk
            go_wp2
            go_ret
            exact ⟨ret_int HF.out.symm, L2⟩
          · have hkk : decide ((0 : Int) ≤ k1) = false := decide_eq_false hk
            go_wp2
            go_ret
            exact ⟨ret_int HF.out.symm, L2⟩
set_option maxHeartbeats 4000000 in
set_option maxRecDepth 100000 in
theorem fj_step (xs : List Cls) (p : List Lin) (g : GoodP xs p) (N : Nat) (H : FjOk p N) : FjOk p (N + 1) := by
  intro A n cap a b D w hN hB hR
  obtain rfl := hR.len
  have hp := g.len
  have hle := hB.le
  have HGP := Lib.hid g
  have HBK := Lib.hid hB
  have HB0 : Hid (a < b → dep p a = D ∧ fol (knd p a) = false) := hB.first
  clear g hB
  go_enter Tryz.func18, Tryz.ntmps18
  by_cases hab : a ≤ b
  · go_wp2
    go_loopw [7, 8] (fun ii _ wr => ∃ i : Nat, ii = .int .i64 i ∧ a ≤ i ∧ i ≤ b ∧ (i < b → dep p i = D ∧ fol (knd p i) = false) ∧ scn p a b = scn p i b ∧ Le w wr) (fun ii _ _ => b - (intOf ii).toNat)
    case atStart => exact ⟨a, rfl, Nat.le_refl _, hab, HB0.out, rfl, Le.refl _⟩
    case round =>
      obtain ⟨i, rfl, hai, hib, hst, hsc, LW⟩ := hrel
      have HST := Lib.hid hst
      have HSC := Lib.hid hsc
      clear hst hsc
      have SR := hR.le LW
      by_cases hlt : i < b
      · obtain ⟨hd, hf⟩ := HST.out hlt
        have hi : i < p.length := by omega
        obtain ⟨b5, off5, rfl, hb5, k0, k1, -⟩ := SR.lin_at hi
        have HK := Lib.hid (knd_at hi)
        have hx0 : (0 : Int) ≤ (i : Int) := by omega
        have hxn : (i : Int) < (p.length : Int) := by omega
        have hlti : (i : Int) < (b : Int) := by omega
        have HNX := Lib.hid (HBK.out.nxt HGP.out hai hlt hd hf)
        have HIN : Hid (∀ x, i ≤ x → x < nx p i → bEnd p x ≤ nx p i) := fun x h1 h2 => HBK.out.inner HGP.out hai hlt hd hf h1 h2
        have HD := Lib.hid hd
        have HFF := Lib.hid hf
        clear hd hf
        generalize p[i].kind = vk at *
        go_wp2_with fail
        refine (sjumps_any vk wr).mono ?_
        rintro e w' ⟨rfl, rfl⟩
        cases hj : jmpK vk
        · have HJ : Hid (jmpK (knd p i) = false) := by show _ = _; rw [HK.out]; exact hj
          clear hj
          go_wp2_with fail
          refine (jumpIn_any _ p.length cap xs p N H HGP.out a b i D HBK.out hai hlt HD.out HFF.out HJ.out (by omega) wr SR).mono ?_
          rintro e w3 ⟨rfl, hle3⟩
          have S3 := SR.le hle3
          have L3 := LW.trans hle3
          have HS : Hid (scn p i b = if 0 ≤ scn p i (nx p i) then scn p i (nx p i) else scn p (nx p i) b) := scn_split HNX.out.2.1 (nx p i) i (by omega) (by have := HNX.out.1; omega) HIN.out
          generalize scn p i (nx p i) = kv at *
          by_cases hk : 0 ≤ kv
          · have hkb : decide ((0 : Int) ≤ kv) = true := decide_eq_true hk
            have HF : Hid (scn p a b = kv) := by show _ = _; rw [HSC.out, HS.out, if_pos hk]
            go_wp2
            go_ret
            exact ⟨ret_int HF.out.symm, L3⟩
          · have hkb : decide ((0 : Int) ≤ kv) = false := decide_eq_false hk
            have HF : Hid (scn p a b = scn p (nx p i) b) := by show _ = _; rw [HSC.out, HS.out, if_neg hk]
            clear HS
            go_wp2_with fail
            refine (nextLine_any _ p.length cap xs p i hi HGP.out w3 S3).mono ?_
            rintro e w4 ⟨rfl, hle4⟩
            have hn1 := HNX.out.1
            have hn2 := HNX.out.2.1
            go_wp2
            go_roundw
            case rel => exact ⟨nx p i, rfl, by omega, hn2, HNX.out.2.2, HF.out, L3.trans hle4⟩
            case measure => simp [intOf]; omega
        · have HF : Hid (scn p a b = (i : Int)) := by show _ = _; rw [HSC.out, scn_at hlt, if_pos (by rw [HK.out]; exact hj)]
          clear hj
          go_wp2
          go_ret
          exact ⟨ret_int HF.out.symm, LW⟩
      · have hlti : ¬ (i : Int) < (b : Int) := by omega
        have HF : Hid (scn p a b = -1) := by show _ = _; rw [HSC.out, scn_end hlt]
        go_wp2
        go_ret
        exact ⟨ret_int HF.out.symm, LW⟩
  · have hlti : ¬ (a : Int) < (b : Int) := by omega
    have HF : Hid (scn p a b = -1) := scn_end (by omega)
    go_wp2
    go_loopw [7, 8] (fun ii _ wr => ii = .int .i64 a ∧ Le w wr) (fun _ _ _ => 0)
    case atStart => exact ⟨rfl, Le.refl _⟩
    case round =>
      obtain ⟨rfl, LW⟩ := hrel
      go_wp2
      go_ret
      exact ⟨ret_int HF.out.symm, LW⟩
theorem fj_zero (p : List Lin) : FjOk p 0 := by
  intro A n cap a b D w hN hB hR
  have hab : ¬ a < b := by omega
  have hlti : ¬ (a : Int) < (b : Int) := by omega
  have HF : Hid (scn p a b = -1) := scn_end (by omega)
  clear hB
  go_enter Tryz.func18, Tryz.ntmps18
  go_wp2
  go_loopw [7, 8] (fun ii _ wr => ii = .int .i64 a ∧ Le w wr) (fun _ _ _ => 0)
  case atStart => exact ⟨rfl, Le.refl _⟩
  case round =>
    obtain ⟨rfl, LW⟩ := hrel
    go_wp2
    go_ret
    exact ⟨ret_int HF.out.symm, LW⟩
theorem fj_all (xs : List Cls) (p : List Lin) (g : GoodP xs p) : ∀ N, FjOk p N
  | 0 => fj_zero p
  | N + 1 => fj_step xs p g N (fj_all xs p g N)
/-- the first jump of a program -/
def fjX (xs : List Cls) (p : List Lin) : Int := cond (vp xs p) (scn p 0 p.length) (-1)
set_option maxHeartbeats 1000000 in
theorem sFirstJump_any (B A : Option Addr) (m c n cap : Nat) (xs : List Cls) (p : List Lin) (hsm : p.length ≤ 1048576) (w : World) (hT : Sl w B m c xs) (hR : Sl w A n cap p) :
    Calls Tryz.prog 6 #[.agg #[.slice B m c], .slice A n cap] w fun e w' => e = .returned (.int .i64 (fjX xs p)) ∧ Le w w' := by
  obtain rfl := hR.len
  have HX : Hid (fjX xs p = cond (vp xs p) (scn p 0 p.length) (-1)) := rfl
  go_enter Tryz.func6, Tryz.ntmps6
  go_wp2_with fail
  obtain ⟨ct, zt, hleB⟩ := box1 w (.slice B m c) 25
  have L0 := hleB
  clear hleB
  generalize w.alloc (.cells #[.slice B m c] 25) = W at *
  refine (svalidProgram_any B A m c _ cap xs p hsm _ (hT.le L0) (hR.le L0)).mono ?_
  rintro e w1 ⟨rfl, hle⟩
  have L1 := L0.trans hle
  cases h : vp xs p
  · have HF : Hid (fjX xs p = -1) := by show _ = _; rw [HX.out, h]; rfl
    go_wp2
    go_ret
    exact ⟨ret_int HF.out.symm, L1⟩
  · have HF : Hid (fjX xs p = scn p 0 p.length) := by show _ = _; rw [HX.out, h]; rfl
    have g := goodP_of h
    have S1 := hR.le L1
    go_wp2_with fail
    refine (fj_all xs p g p.length A p.length cap 0 p.length 0 w1 (by omega) (Blk.all g) S1).mono ?_
    rintro e w2 ⟨rfl, hle2⟩
    go_wp2
    go_ret
    exact ⟨ret_int HF.out.symm, L1.trans hle2⟩
end

section
set_option maxHeartbeats 4000000 in
set_option maxRecDepth 100000 in
theorem iFirstJump_any (B A : Option Addr) (m c n cap : Nat) (xs : List Cls) (p : List Lin) (hm : m ≤ 1048576) (w : World) (hT : Sl w B m c xs) (hR : Sl w A n cap p) :
    Calls Tryz.prog 5 #[.agg #[.slice B m c], .slice A n cap] w fun e w' => e = .returned (.int .i64 (fjX xs p)) ∧ Le w w' := by
  have HX : Hid (fjX xs p = cond (vp xs p) (scn p 0 p.length) (-1)) := rfl
  go_enter Tryz.func5, Tryz.ntmps5
  go_wp2_with fail
  obtain ⟨ct, zt, hleB⟩ := box1 w (.slice B m c) 25
  have L0 := hleB
  clear hleB
  generalize w.alloc (.cells #[.slice B m c] 25) = W at *
  refine (pValidProgram_any B A m c n cap xs p hm _ (hT.le L0) (hR.le L0)).mono ?_
  rintro e w1 ⟨rfl, hle⟩
  have L1 := L0.trans hle
  cases h : vp xs p
  · have HF : Hid (fjX xs p = -1) := by show _ = _; rw [HX.out, h]; rfl
    go_wp2
    go_ret
    exact ⟨ret_int HF.out.symm, L1⟩
  · have HY : Hid (fjX xs p = scn p 0 p.length) := by show _ = _; rw [HX.out, h]; rfl
    have hp := (goodP_of h).len
    obtain rfl := hR.len
    have S1 := hR.le L1
    clear HX h hT hR hle ct zt
    go_wp2
    go_loopw [5, 6] (fun ii _ wr => ∃ i : Nat, ii = .int .i64 i ∧ i ≤ p.length ∧ fjX xs p = scn p i p.length ∧ Le w1 wr) (fun ii _ _ => p.length - (intOf ii).toNat)
    case atStart => exact ⟨0, rfl, Nat.zero_le _, HY.out, Le.refl _⟩
    case round =>
      obtain ⟨i, rfl, hip, hsc, LW⟩ := hrel
      have HSC := Lib.hid hsc
      clear hsc
      have SR := S1.le LW
      by_cases hlt : i < p.length
      · obtain ⟨b, off, rfl, hb, d0, d1, d2, d3, -⟩ := SR.lin_at hlt
        have hx0 : (0 : Int) ≤ (i : Int) := by omega
        have hxn : (i : Int) < (p.length : Int) := by omega
        have HS := Lib.hid (scn_at (p := p) hlt)
        have HLZ : Hid (lpz p i = (decide (p[i].kind = 12) && decide (p[i].a = 0))) := by show _ = _; unfold lpz; rw [knd_at hlt, lnA_at hlt]
        have HK := Lib.hid (knd_at hlt)
        have hbe := bEnd_le hlt
        have hbg := bEnd_gt p i
        rw [HLZ.out, HK.out] at HS
        generalize p[i].depth = v0 at *
        generalize p[i].kind = v1 at *
        generalize p[i].a = v2 at *
        generalize p[i].b = v3 at *
        obtain ⟨x0, x1, z0, LX⟩ := box4 wr (.int .i64 v0) (.int .i64 v1) (.int .i64 v2) (.int .i64 v3) 31
        obtain ⟨x2, x3⟩ := box4b wr (.int .i64 v0) (.int .i64 v1) (.int .i64 v2) (.int .i64 v3) 31
        have SR2 := SR.le LX
        have L2 := LW.trans LX
        have hwi : IntKind.i64.wrap ((i : Int) + 1) = (i : Int) + 1 := IntWalk.i64_in _ (by omega)
        go_wp2_with fail
        refine (ijumps_any v1 _).mono ?_
        rintro e w' ⟨rfl, rfl⟩
        cases hj : jmpK v1
        · by_cases h8 : v1 = 8
          · have hb8 : (v1 == 8) = true := by rw [h8]; rfl
            have HF : Hid (fjX xs p = scn p (bEnd p i) p.length) := by show _ = _; rw [HSC.out, HS.out, if_neg (by rw [hj]; decide), if_pos (.inl h8)]
            clear HS hj
            subst h8
            go_wp2_with fail
            refine (iBlockEnd_any _ p.length cap p i hlt _ SR2).mono ?_
            rintro e w5 ⟨rfl, hle5⟩
            go_wp2
            go_roundw
            case rel => exact ⟨bEnd p i, rfl, by omega, HF.out, L2.trans hle5⟩
            case measure => simp [intOf]; omega
          · have hb8 : (v1 == 8) = false := bf h8
            by_cases h12 : v1 = 12
            · have hb12 : (v1 == 12) = true := by rw [h12]; rfl
              by_cases ha : v2 = 0
              · have hba : (v2 == 0) = true := by rw [ha]; rfl
                have HF : Hid (fjX xs p = scn p (bEnd p i) p.length) := by show _ = _; rw [HSC.out, HS.out, if_neg (by rw [hj]; decide), if_pos (.inr (by rw [h12, ha]; rfl))]
                clear HS hj
                subst h12
                subst ha
                go_wp2_with fail
                refine (iBlockEnd_any _ p.length cap p i hlt _ SR2).mono ?_
                rintro e w5 ⟨rfl, hle5⟩
                go_wp2
                go_roundw
                case rel => exact ⟨bEnd p i, rfl, by omega, HF.out, L2.trans hle5⟩
                case measure => simp [intOf]; omega
              · have hba : (v2 == 0) = false := bf ha
                have HF : Hid (fjX xs p = scn p (i + 1) p.length) := by show _ = _; rw [HSC.out, HS.out, if_neg (by rw [hj]; decide), if_neg (by rw [decide_eq_false ha, Bool.and_false]; rintro (h | h); exact h8 h; cases h)]
                clear HS hj
                subst h12
                go_wp2
                go_roundw
                case rel => exact ⟨i + 1, by go_num, by omega, HF.out, L2⟩
                case measure => simp [intOf]; omega
            · have hb12 : (v1 == 12) = false := bf h12
              have HF : Hid (fjX xs p = scn p (i + 1) p.length) := by show _ = _; rw [HSC.out, HS.out, if_neg (by rw [hj]; decide), if_neg (by rw [decide_eq_false h12, Bool.false_and]; rintro (h | h); exact h8 h; cases h)]
              clear HS hj
              go_wp2
              go_roundw
              case rel => exact ⟨i + 1, by go_num, by omega, HF.out, L2⟩
              case measure => simp [intOf]; omega
        · have HF : Hid (fjX xs p = (i : Int)) := by show _ = _; rw [HSC.out, HS.out, if_pos hj]
          clear HS hj
          go_wp2
          go_ret
          exact ⟨ret_int HF.out.symm, L1.trans L2⟩
      · have hxn : ¬ (i : Int) < (p.length : Int) := by omega
        have HF : Hid (fjX xs p = -1) := by show _ = _; rw [HSC.out, scn_end hlt]
        go_wp2
        go_ret
        exact ⟨ret_int HF.out.symm, L1.trans LW⟩
end
end Go.Proofs.YtgjlmfjmjglplaaGreat
