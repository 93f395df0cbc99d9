/- one text of XkE, FXd, XkA -/
import Derived.Test.YtnpcmlcigeccmaaDoorCv9
import Derived.Test.YtnpcmlcigeccmaaDoorCv10
import Derived.Test.YtnpcmlcigeccmaaDoorCv6
import Derived.Test.YtnpcmlcigeccmaaDoorCv7
import Derived.Test.YtnpcmlcigeccmaaDoorCv8
import Derived.Test.YtnpcmlcigeccmaaDoorCv5
import Derived.Lib.OthersKept
import Derived.WalkSmall
namespace Go.Proofs.YtnpcmlcigeccmaaDoor
open Go.RowKit
set_option linter.unusedVariables false
section
theorem str_sum {P : Program} (a b : ByteArray) (ha : a.size ≤ 1000000) (hb : b.size ≤ 1000000) : ∀ w, (Op.stringOp .add a b).run P w = .ok (.string (a ++ b)) w := fun w => run_string_add w a b (by omega) (by omega)
theorem pre100 : ∀ m : Fin 100, ∀ k : Fin 2, k.1 < (numL m.1).length → dv ((numL m.1).take k.1) ≤ 9 := by decide +kernel
theorem rdN_long2 {l : List UInt8} {k : Nat} (hk : k < l.length) (h : 9 < dv (l.take k)) : rdN 100 l = -1 := rdN_no fun n hn e => by
  subst e
  have h2 := numL_sz2 ⟨n, hn⟩
  dsimp only at h2
  have := pre100 ⟨n, hn⟩ ⟨k, by omega⟩ hk
  dsimp only at this
  omega
set_option maxHeartbeats 2000000 in
set_option maxRecDepth 100000 in
theorem readNumber_any (s : ByteArray) (w : World) (hs : s.size ≤ 1048576) :
    Calls Tryd.prog 72 #[.string s] w fun e w' => e = .returned (.int .i64 (rdN 100 (bl s))) ∧ w = w' := by
  obtain ⟨z, hz⟩ : ∃ z, Hid (rdN 100 (bl s) = z) := ⟨_, Lib.hid rfl⟩
  go_enter Tryd.func72, Tryd.ntmps72
  go_wp2
  go_loopw [3, 4] (fun v i wr => ∃ k d : Nat, k ≤ s.size ∧ i = .int .i64 k ∧ v = .int .i64 d ∧ d = dv ((bl s).take k) ∧ d ≤ 99 ∧ w = wr) (fun _ i _ => s.size - (intOf i).toNat)
  case atStart => exact ⟨0, 0, Nat.zero_le _, rfl, rfl, rfl, by omega, rfl⟩
  case round =>
    obtain ⟨k, d, hk, rfl, rfl, hd, hd9, rfl⟩ := hrel
    by_cases hlt : k < s.size
    · have hki : (k : Int) < (s.size : Int) := by omega
      have hmem : s[k] ∈ bl s := by rw [← bl_at hlt]; exact List.getElem_mem _
      have hc : (s[k].toNat : Int) ≤ 255 := by have := UInt8.toNat_lt s[k]; omega
      have hc0 : (0 : Int) ≤ (s[k].toNat : Int) := by omega
      by_cases h48 : s[k].toNat < 48
      · have hb : decide ((s[k].toNat : Int) < 48) = true := decide_eq_true (by omega)
        have hr : Hid (z = -1) := by show _ = _; rw [← hz.out]; exact rdN_digit (by omega) hmem (.inl h48)
        clear hd
        go_wp2
        go_ret
        exact ⟨by rw [hz.out, hr.out]; rfl, rfl⟩
      · have hb : decide ((s[k].toNat : Int) < 48) = false := decide_eq_false (by omega)
        by_cases h57 : 57 < s[k].toNat
        · have hb2 : decide ((57 : Int) < (s[k].toNat : Int)) = true := decide_eq_true (by omega)
          have hr : Hid (z = -1) := by show _ = _; rw [← hz.out]; exact rdN_digit (by omega) hmem (.inr h57)
          clear hd
          go_wp2
          go_ret
          exact ⟨by rw [hz.out, hr.out]; rfl, rfl⟩
        · have hb2 : decide ((57 : Int) < (s[k].toNat : Int)) = false := decide_eq_false (by omega)
          by_cases h99 : 9 < d
          · have hb3 : decide ((9 : Int) < (d : Int)) = true := decide_eq_true (by omega)
            have hr : Hid (z = -1) := by show _ = _; rw [← hz.out]; exact rdN_long2 (by rw [bl_len]; exact hlt) (by rw [← hd]; exact h99)
            clear hd
            go_wp2
            go_ret
            exact ⟨by rw [hz.out, hr.out]; rfl, rfl⟩
          · have hb3 : decide ((9 : Int) < (d : Int)) = false := decide_eq_false (by omega)
            have hsn : Hid (10 * d + (s[k].toNat - 48) = dv ((bl s).take (k + 1))) := by show _ = _; rw [take_snoc hlt, dv_snoc, ← hd]
            have hw1 : IntKind.u8.wrap ((s[k].toNat : Int) - 48) = ((s[k].toNat - 48 : Nat) : Int) := by rw [IntKind.wrap_u8]; omega
            have hw2 : IntKind.i64.wrap (10 * (d : Int)) = 10 * (d : Int) := IntWalk.i64_in _ (by omega)
            have hw3 : IntKind.i64.wrap ((s[k].toNat - 48 : Nat) : Int) = ((s[k].toNat - 48 : Nat) : Int) := IntWalk.i64_in _ (by omega)
            have hw4 : IntKind.i64.wrap (10 * (d : Int) + ((s[k].toNat - 48 : Nat) : Int)) = ((10 * d + (s[k].toNat - 48) : Nat) : Int) := by rw [IntWalk.i64_in _ (by omega)]; omega
            have hH99 : 10 * d + (s[k].toNat - 48) ≤ 99 := by omega
            clear hd
            go_wp2
            go_roundw
            case rel => exact ⟨k + 1, 10 * d + (s[k].toNat - 48), by omega, by go_num, by first | rfl | exact congrArg (Value.int .i64) hw4, hsn.out, hH99, trivial⟩
            case measure => (simp [intOf]) <;> omega
    · have hki : ¬ (k : Int) < (s.size : Int) := by omega
      obtain rfl : k = s.size := by omega
      have htk : (bl s).take s.size = bl s := List.take_of_length_le (by rw [bl_len]; omega)
      rw [htk] at hd
      by_cases he : bl s = []
      · have hb := empT.2 he
        have hr : Hid (z = -1) := by show _ = _; rw [← hz.out, he]; exact rdN_nil _
        clear hd he htk
        go_wp2
        go_ret
        exact ⟨by rw [hz.out, hr.out]; rfl, rfl⟩
      · have hb := empF he
        have HN := Lib.hid (number3_any d w (by omega))
        by_cases hq : numL d = bl s
        · have hq2 : tb (numL d) = s := by rw [hq, tb_bl]
          have hr : Hid (z = d) := by show _ = _; rw [← hz.out, hd]; exact rdN_eq (by rw [← hd]; exact hq) (by omega)
          rw [hq2] at HN
          have hb2 : (s.toList == s.toList) = true := by simp
          have hb3 : (s.toList != s.toList) = false := by simp
          clear hd he htk hq hq2
          go_wp2_with fail
          refine HN.out.mono ?_
          rintro e w' ⟨rfl, rfl⟩
          go_wp2
          go_ret
          exact ⟨by rw [hz.out, hr.out]; rfl, rfl⟩
        · have hq2 : s ≠ tb (numL d) := fun e => hq (by rw [e, bl_tb])
          have hr : Hid (z = -1) := by show _ = _; rw [← hz.out]; exact rdN_ne (by rw [← hd]; exact hq)
          have hb2 : (s.toList == (tb (numL d)).toList) = false := str_ne hq2
          have hb3 : (s.toList != (tb (numL d)).toList) = true := by simp only [bne, hb2]; rfl
          generalize tb (numL d) = u at *
          clear hd he htk hq hq2
          go_wp2_with fail
          refine HN.out.mono ?_
          rintro e w' ⟨rfl, rfl⟩
          go_wp2
          go_ret
          exact ⟨by rw [hz.out, hr.out]; rfl, rfl⟩
set_option maxHeartbeats 1000000 in
set_option maxRecDepth 100000 in
theorem indexText_any (b : Nat) (s : ByteArray) (w : World) (hX : w.cell? ⟨b, 0, none⟩ = some (.string (tb wCall)) ∧ w.cell? ⟨b, 1, none⟩ = some (.string (tb wTell)) ∧ w.cell? ⟨b, 2, none⟩ = some (.string (tb wCatch)) ∧ w.cell? ⟨b, 3, none⟩ = some (.string (tb wRaise))) :
    Calls Tryd.prog 71 #[.slice (some ⟨b, 0, none⟩) 4 4, .string s] w fun e w' => e = .returned (.int .i64 (xkW (bl s))) ∧ w = w' := by
  obtain ⟨c0, c1, c2, c3⟩ := hX
  obtain ⟨z, hz⟩ : ∃ z, Hid (xkW (bl s) = z) := ⟨_, Lib.hid rfl⟩
  have H0 : Hid (tb wCall = s → z = 0) := fun h => by rw [← hz.out, xkW, if_pos (tb_eq.1 h)]
  have H1 : Hid (tb wCall ≠ s → tb wTell = s → z = 1) := fun h0 h => by rw [← hz.out, xkW, if_neg (fun e => h0 (tb_eq.2 e)), if_pos (tb_eq.1 h)]
  have H2 : Hid (tb wCall ≠ s → tb wTell ≠ s → tb wCatch = s → z = 2) := fun h0 h1 h => by rw [← hz.out, xkW, if_neg (fun e => h0 (tb_eq.2 e)), if_neg (fun e => h1 (tb_eq.2 e)), if_pos (tb_eq.1 h)]
  have H3 : Hid (tb wCall ≠ s → tb wTell ≠ s → tb wCatch ≠ s → tb wRaise = s → z = 3) := fun h0 h1 h2 h => by rw [← hz.out, xkW, if_neg (fun e => h0 (tb_eq.2 e)), if_neg (fun e => h1 (tb_eq.2 e)), if_neg (fun e => h2 (tb_eq.2 e)), if_pos (tb_eq.1 h)]
  have H4 : Hid (tb wCall ≠ s → tb wTell ≠ s → tb wCatch ≠ s → tb wRaise ≠ s → z = -1) := fun h0 h1 h2 h3 => by rw [← hz.out, xkW, if_neg (fun e => h0 (tb_eq.2 e)), if_neg (fun e => h1 (tb_eq.2 e)), if_neg (fun e => h2 (tb_eq.2 e)), if_neg (fun e => h3 (tb_eq.2 e))]
  generalize tb wCall = k0 at *
  generalize tb wTell = k1 at *
  generalize tb wCatch = k2 at *
  generalize tb wRaise = k3 at *
  go_enter Tryd.func71, Tryd.ntmps71
  go_wp2
  go_loopw [5] (fun i wr => ∃ k : Nat, k ≤ 4 ∧ i = .int .i64 k ∧ (0 < k → k0 ≠ s) ∧ (1 < k → k1 ≠ s) ∧ (2 < k → k2 ≠ s) ∧ (3 < k → k3 ≠ s) ∧ w = wr) (fun i _ => 4 - (intOf i).toNat)
  case atStart => exact ⟨0, by omega, rfl, fun h => absurd h (by omega), fun h => absurd h (by omega), fun h => absurd h (by omega), fun h => absurd h (by omega), rfl⟩
  case round =>
    obtain ⟨k, hk, rfl, a0, a1, a2, a3, rfl⟩ := hrel
    rcases (by omega : k = 0 ∨ k = 1 ∨ k = 2 ∨ k = 3 ∨ k = 4) with rfl | rfl | rfl | rfl | rfl
    · by_cases h : k0 = s
      · subst h
        have hb := str_yes k0
        have HZ := Lib.hid (H0.out rfl)
        clear H0 H1 H2 H3 H4 a0 a1 a2 a3
        go_wp2
        go_ret
        exact ⟨by rw [hz.out, HZ.out]; rfl, rfl⟩
      · have hb := str_ne h
        have HA := Lib.hid h
        clear H0 H1 H2 H3 H4 a0 a1 a2 a3 h
        go_wp2
        go_roundw
        case rel => exact ⟨1, by omega, rfl, fun _ => HA.out, fun h => absurd h (by omega), fun h => absurd h (by omega), fun h => absurd h (by omega), by first | trivial | rfl⟩
        case measure => simp [intOf]
    · have HA := Lib.hid (a0 (by omega))
      by_cases h : k1 = s
      · subst h
        have hb := str_yes k1
        have HZ := Lib.hid (H1.out HA.out rfl)
        clear H0 H1 H2 H3 H4 a0 a1 a2 a3
        go_wp2
        go_ret
        exact ⟨by rw [hz.out, HZ.out]; rfl, rfl⟩
      · have hb := str_ne h
        have HB := Lib.hid h
        clear H0 H1 H2 H3 H4 a0 a1 a2 a3 h
        go_wp2
        go_roundw
        case rel => exact ⟨2, by omega, rfl, fun _ => HA.out, fun _ => HB.out, fun h => absurd h (by omega), fun h => absurd h (by omega), by first | trivial | rfl⟩
        case measure => simp [intOf]
    · have HA := Lib.hid (a0 (by omega))
      have HB := Lib.hid (a1 (by omega))
      by_cases h : k2 = s
      · subst h
        have hb := str_yes k2
        have HZ := Lib.hid (H2.out HA.out HB.out rfl)
        clear H0 H1 H2 H3 H4 a0 a1 a2 a3
        go_wp2
        go_ret
        exact ⟨by rw [hz.out, HZ.out]; rfl, rfl⟩
      · have hb := str_ne h
        have HC := Lib.hid h
        clear H0 H1 H2 H3 H4 a0 a1 a2 a3 h
        go_wp2
        go_roundw
        case rel => exact ⟨3, by omega, rfl, fun _ => HA.out, fun _ => HB.out, fun _ => HC.out, fun h => absurd h (by omega), by first | trivial | rfl⟩
        case measure => simp [intOf]
    · have HA := Lib.hid (a0 (by omega))
      have HB := Lib.hid (a1 (by omega))
      have HC := Lib.hid (a2 (by omega))
      by_cases h : k3 = s
      · subst h
        have hb := str_yes k3
        have HZ := Lib.hid (H3.out HA.out HB.out HC.out rfl)
        clear H0 H1 H2 H3 H4 a0 a1 a2 a3
        go_wp2
        go_ret
        exact ⟨by rw [hz.out, HZ.out]; rfl, rfl⟩
      · have hb := str_ne h
        have HD := Lib.hid h
        clear H0 H1 H2 H3 H4 a0 a1 a2 a3 h
        go_wp2
        go_roundw
        case rel => exact ⟨4, by omega, rfl, fun _ => HA.out, fun _ => HB.out, fun _ => HC.out, fun _ => HD.out, by first | trivial | rfl⟩
        case measure => simp [intOf]
    · have HZ := Lib.hid (H4.out (a0 (by omega)) (a1 (by omega)) (a2 (by omega)) (a3 (by omega)))
      clear H0 H1 H2 H3 H4 a0 a1 a2 a3
      go_wp2
      go_ret
      exact ⟨by rw [hz.out, HZ.out]; rfl, rfl⟩
def callT : ByteArray := ⟨#[99, 97, 108, 108, 32]⟩
def tellT : ByteArray := ⟨#[116, 101, 108, 108, 32]⟩
def catchT : ByteArray := ⟨#[99, 97, 116, 99, 104, 32]⟩
def raiseT : ByteArray := ⟨#[114, 97, 105, 115, 101, 32]⟩
theorem t_call {u : ByteArray} {l : List UInt8} (h : bl u = l) : callT ++ u = tb (wCall ++ 32 :: l) := bl_inj (by rw [bl_app, h, bl_tb]; rfl)
theorem t_tell {u : ByteArray} {l : List UInt8} (h : bl u = l) : tellT ++ u = tb (wTell ++ 32 :: l) := bl_inj (by rw [bl_app, h, bl_tb]; rfl)
theorem t_catch {u : ByteArray} {l : List UInt8} (h : bl u = l) : catchT ++ u = tb (wCatch ++ 32 :: l) := bl_inj (by rw [bl_app, h, bl_tb]; rfl)
theorem t_raise {v u : ByteArray} {l : List UInt8} (h : bl u = l) : raiseT ++ v ++ spT ++ u = tb (wRaise ++ 32 :: (bl v ++ 32 :: l)) := bl_inj (by
  rw [bl_app, bl_app, bl_app, h, bl_tb, bl_sp]
  show ([114, 97, 105, 115, 101, 32] ++ bl v ++ [32]) ++ l = _
  unfold wRaise
  simp)
set_option maxHeartbeats 2000000 in
set_option maxRecDepth 100000 in
theorem sexitText_any (B : Option Addr) (m c : Nat) (xs : List Cls) (x : Xit) (w : World) (hT : Sl w B m c xs) (g : Good xs) (hx : xOk xs x = true) :
    Calls Tryd.prog 55 #[.agg #[.slice B m c], .agg #[.int .i64 x.kind, .int .i64 x.a, .int .i64 x.b]] w fun e w' => e = .returned (.string (tb (xtB xs x))) ∧ Le w w' := by
  obtain ⟨r, hr⟩ : ∃ r, Hid (tb (xtB xs x) = r) := ⟨_, Lib.hid rfl⟩
  obtain ⟨ct, zt, x0, x1, x2, zx, L0⟩ := boxTX w (.slice B m c) (.int .i64 x.kind) (.int .i64 x.a) (.int .i64 x.b) 25 58
  have T1 := hT.le L0
  obtain rfl := hT.len
  rcases xOk_cases hx with ⟨n, hn, rfl⟩ | ⟨n, hn, rfl⟩ | ⟨k, hk, rfl⟩ | ⟨k, n, hk, hn, rfl⟩
  · have hB : Hid (callT ++ tb (numL n) = r) := by show _ = _; rw [← hr.out, xtB_call, t_call (bl_tb _)]
    have zn := num99 hn
    have HI := Lib.hid (fun W => number2_any n W hn)
    generalize tb (numL n) = u at *
    have s1 : ∀ W, (Op.stringOp .add ⟨#[99, 97, 108, 108, 32]⟩ u).run Tryd.prog W = .ok (.string (callT ++ u)) W := str_sum callT u (by decide) (by omega)
    rw [hB.out] at s1
    clear hT hx g hB
    go_enter Tryd.func55, Tryd.ntmps55
    dsimp only at *
    go_wp2_with fail
    generalize (w.alloc (.cells #[.slice B xs.length c] 25)).alloc _ = W at *
    refine (HI.out W).mono ?_
    rintro e w1 ⟨rfl, rfl⟩
    go_wp2
    go_ret
    exact ⟨ret_str (by rw [hr.out]), L0⟩
  · have hB : Hid (tellT ++ tb (numL n) = r) := by show _ = _; rw [← hr.out, xtB_tell, t_tell (bl_tb _)]
    have zn := num99 hn
    have HI := Lib.hid (fun W => number2_any n W hn)
    generalize tb (numL n) = u at *
    have s1 : ∀ W, (Op.stringOp .add ⟨#[116, 101, 108, 108, 32]⟩ u).run Tryd.prog W = .ok (.string (tellT ++ u)) W := str_sum tellT u (by decide) (by omega)
    rw [hB.out] at s1
    clear hT hx g hB
    go_enter Tryd.func55, Tryd.ntmps55
    dsimp only at *
    go_wp2_with fail
    generalize (w.alloc (.cells #[.slice B xs.length c] 25)).alloc _ = W at *
    refine (HI.out W).mono ?_
    rintro e w1 ⟨rfl, rfl⟩
    go_wp2
    go_ret
    exact ⟨ret_str (by rw [hr.out]), L0⟩
  · have hB : Hid (catchT ++ xs[k].name = r) := by show _ = _; rw [← hr.out, xtB_catch hk, t_catch rfl]
    have hn := (name_rng (g.name k hk)).2.2
    rw [bl_len] at hn
    obtain ⟨b, off, rfl, hb, q0, -, -⟩ := T1.cls_at hk
    have hkm : (k : Int) < (xs.length : Int) := by omega
    generalize xs[k].name = u at *
    have s1 : ∀ W, (Op.stringOp .add ⟨#[99, 97, 116, 99, 104, 32]⟩ u).run Tryd.prog W = .ok (.string (catchT ++ u)) W := str_sum catchT u (by decide) (by omega)
    rw [hB.out] at s1
    clear hT hx g hB
    go_enter Tryd.func55, Tryd.ntmps55
    dsimp only at *
    go_wp2
    go_ret
    exact ⟨ret_str (by rw [hr.out]), L0⟩
  · have hB : Hid (raiseT ++ xs[k].name ++ spT ++ tb (numL n) = r) := by show _ = _; rw [← hr.out, xtB_raise hk, t_raise (bl_tb _)]
    have zn := num99 hn
    have hnn := (name_rng (g.name k hk)).2.2
    rw [bl_len] at hnn
    obtain ⟨b, off, rfl, hb, q0, -, -⟩ := T1.cls_at hk
    have hkm : (k : Int) < (xs.length : Int) := by omega
    have HI := Lib.hid (fun W => number2_any n W hn)
    generalize tb (numL n) = u at *
    generalize xs[k].name = v at *
    have s1 : ∀ W, (Op.stringOp .add ⟨#[114, 97, 105, 115, 101, 32]⟩ v).run Tryd.prog W = .ok (.string (raiseT ++ v)) W := str_sum raiseT v (by decide) (by omega)
    have z1 : (raiseT ++ v).size ≤ 20 := by rw [ByteArray.size_append]; have : raiseT.size = 6 := rfl; omega
    obtain ⟨y1, hy1⟩ : ∃ y, raiseT ++ v = y := ⟨_, rfl⟩
    rw [hy1] at s1 z1 hB
    have s2 : ∀ W, (Op.stringOp .add y1 ⟨#[32]⟩).run Tryd.prog W = .ok (.string (y1 ++ spT)) W := str_sum y1 spT (by omega) (by decide)
    have z2 : (y1 ++ spT).size ≤ 21 := by rw [ByteArray.size_append]; have : spT.size = 1 := rfl; omega
    obtain ⟨y2, hy2⟩ : ∃ y, y1 ++ spT = y := ⟨_, rfl⟩
    rw [hy2] at s2 z2 hB
    have s3 : ∀ W, (Op.stringOp .add y2 u).run Tryd.prog W = .ok (.string (y2 ++ u)) W := str_sum y2 u (by omega) (by omega)
    rw [hB.out] at s3
    clear hT hx g hB hy1 hy2 z1 z2 zn hnn
    go_enter Tryd.func55, Tryd.ntmps55
    dsimp only at *
    go_wp2_with fail
    generalize (w.alloc (.cells #[.slice (some ⟨b, off, none⟩) xs.length c] 25)).alloc _ = W at *
    have E0 := cell_ext zt ct
    have E1 := cell_ext zx x1
    have E2 := cell_ext zx x2
    have E3 := cell_ext hb q0
    clear ct x0 x1 x2 q0 T1
    refine wp_region_ext (by kernel_rfl) (by kernel_rfl) ?_
    repeat (go_big_quiet_step (first | (go_at_call 81; exact Calls.ext_same (HI.out _))))
    refine wpQuiet_nil ?_
    intro _ hw'
    obtain ⟨gg, rfl⟩ := hw'
    have L2 := L0.trans (Le.ext W gg)
    generalize W.ext gg = W2 at *
    go_wp2
    go_ret
    exact ⟨ret_str (by rw [hr.out]), L2⟩
theorem xs_takeT {xs : List Cls} {L : List Xit} {k : Nat} (h : k < L.length) : tb (xsB xs (L.take (k + 1))) = tb (xsB xs (L.take k)) ++ tb (xtB xs L[k]) ++ nlT := bl_inj (by
  simp only [bl_tb, bl_app, List.append_assoc, xs_take h])
set_option maxHeartbeats 2000000 in
set_option maxRecDepth 100000 in
theorem sexitsText_any (B A : Option Addr) (m c n cap : Nat) (xs : List Cls) (L : List Xit) (w : World) (hT : Sl w B m c xs) (hR : Sl w A n cap L) (hv : vxs xs L = true) :
    Calls Tryd.prog 31 #[.agg #[.slice B m c], .slice A n cap] w fun e w' => e = .returned (.string (tb (xsB xs L))) ∧ Le w w' := by
  obtain rfl := hR.len
  have hva := vxs_iff.1 hv
  have HG := Lib.hid (good_of hva.1)
  have HOK := Lib.hid hva.2.2
  have HPL := Lib.hid (xs_pre hv)
  have hl8 := hva.2.1
  clear hva hv
  go_enter Tryd.func31, Tryd.ntmps31
  go_wp2_with fail
  obtain ⟨c0, z0, L0⟩ := box1 w (.slice B m c) 25
  have HT := Lib.hid (hT.le L0)
  have HS := Lib.hid (hR.le L0)
  have HL := Lib.hid L0
  have HC := Lib.hid c0
  generalize w.alloc (.cells #[.slice B m c] 25) = W at *
  clear hT hR L0 c0
  go_wp2
  go_loopw [5, 6] (fun v i wr => ∃ k : Nat, k ≤ L.length ∧ i = .int .i64 k ∧ v = .string (tb (xsB xs (L.take k))) ∧ Le W wr) (fun _ i _ => L.length - (intOf i).toNat)
  case atStart => exact ⟨0, Nat.zero_le _, rfl, rfl, Le.refl _⟩
  case round =>
    obtain ⟨k, hk, rfl, rfl, LR⟩ := hrel
    have hal := HPL.out k
    by_cases hlt : k < L.length
    · have hkl : (k : Int) < (L.length : Int) := by omega
      have c0 := (LR.cell z0).trans HC.out
      have zp : w.heap.size < wr.heap.size := by have := LR.size; omega
      have S := HS.out.le LR
      have hxk := HOK.out _ (List.getElem_mem hlt)
      obtain ⟨b, off, rfl, hbl, q0, q1, q2, -⟩ := S.xit_at hlt
      have HNX := Lib.hid (xs_takeT (xs := xs) hlt)
      have HXT : Hid (∀ gg : Ext wr, Calls Tryd.prog 55 #[.agg #[.slice B m c], .agg #[.int .i64 L[k].kind, .int .i64 L[k].a, .int .i64 L[k].b]] (wr.ext gg) fun e w' => e = .returned (.string (tb (xtB xs L[k]))) ∧ Le (wr.ext gg) w') := fun gg => sexitText_any B m c xs L[k] _ (HT.out.le (LR.trans (Le.ext wr gg))) HG.out hxk
      have hxl := (xt_split HG.out hxk).2.2.2
      have hxs : (tb (xtB xs L[k])).size ≤ 15 := hxl
      have hos : (tb (xsB xs (L.take k))).size ≤ 128 := hal
      generalize tb (xtB xs L[k]) = tx at *
      generalize L[k].kind = vk at *
      generalize L[k].a = va at *
      generalize L[k].b = vb at *
      generalize tb (xsB xs (L.take k)) = o at *
      have s1 : ∀ W, (Op.stringOp .add o tx).run Tryd.prog W = .ok (.string (o ++ tx)) W := str_sum o tx (by omega) (by omega)
      have z1 : (o ++ tx).size ≤ 143 := by rw [ByteArray.size_append]; omega
      obtain ⟨y1, hy1⟩ : ∃ y, o ++ tx = y := ⟨_, rfl⟩
      rw [hy1] at s1 z1 HNX
      have s2 : ∀ W, (Op.stringOp .add y1 ⟨#[10]⟩).run Tryd.prog W = .ok (.string (y1 ++ nlT)) W := str_sum y1 nlT (by omega) (by decide)
      have E0 := cell_ext zp c0
      have E1 := cell_ext hbl q0
      have E2 := cell_ext hbl q1
      have E3 := cell_ext hbl q2
      clear hxk hxl S hxs hos hal z1 hy1 q0 q1 q2 c0
      go_wp2_with fail
      refine wp_region_ext (by kernel_rfl) (by kernel_rfl) ?_
      repeat (go_big_quiet_step (first | (go_at_call 55; exact Calls.ext_of (HXT.out _))))
      refine wpQuiet_nil ?_
      intro _ hw'
      obtain ⟨gg, rfl⟩ := hw'
      have L2 := LR.trans (Le.ext wr gg)
      generalize wr.ext gg = W2 at *
      go_wp2
      go_roundw
      case rel => exact ⟨k + 1, by omega, by go_num, by rw [HNX.out], L2⟩
      case measure => (simp [intOf]) <;> omega
    · have hkl : ¬ (k : Int) < (L.length : Int) := by omega
      obtain rfl : k = L.length := by omega
      rw [List.take_length]
      go_wp2
      go_ret
      exact ⟨rfl, HL.out.trans LR⟩
set_option maxRecDepth 100000 in
theorem sExitsText_any (B A : Option Addr) (m c n cap : Nat) (xs : List Cls) (L : List Xit) (w : World) (hT : Sl w B m c xs) (hR : Sl w A n cap L) :
    Calls Tryd.prog 9 #[.agg #[.slice B m c], .slice A n cap] w fun e w' => e = .returned (.string (xtX xs L)) ∧ Le w w' := by
  go_enter Tryd.func9, Tryd.ntmps9
  go_wp2_with fail
  obtain ⟨c0, z0, L0⟩ := box1 w (.slice B m c) 25
  have ST := hT.le L0
  have S := hR.le L0
  generalize w.alloc (.cells #[.slice B m c] 25) = W at *
  refine (svalidExits_any B A m c n cap xs L W ST S).mono ?_
  rintro e w1 ⟨rfl, hle⟩
  replace c0 := (hle.cell z0).trans c0
  replace z0 := Nat.lt_of_lt_of_le z0 hle.size
  replace L0 := L0.trans hle
  replace ST := ST.le hle
  replace S := S.le hle
  clear hle
  cases ho : vxs xs L
  · have HX := Lib.hid (xtX_of ho)
    clear ho
    go_wp2
    go_ret
    exact ⟨ret_str HX.out.symm, L0⟩
  · have HX := Lib.hid (xtX_of ho)
    go_wp2_with fail
    refine (sexitsText_any B A m c n cap xs L w1 ST S ho).mono ?_
    rintro e w2 ⟨rfl, hle⟩
    have LL := L0.trans hle
    go_wp2
    go_ret
    exact ⟨ret_str HX.out.symm, LL⟩
end

section
theorem vx_one {xs : List Cls} {x : Xit} (h : VX xs.length x) : xOk xs x = true := by
  rcases h with ⟨h1, h2, h3, h4⟩ | ⟨h1, h2, h3, h4⟩ | ⟨h1, h2, h3, h4, h5⟩
  · rw [xOk_01 h1, Bool.and_eq_true, rng_iff', beq_iff_eq]; exact ⟨⟨h2, h3⟩, h4⟩
  · rw [xOk_2 h1, Bool.and_eq_true, beq_iff_eq]; exact ⟨hasK_iff.2 ⟨h2, by omega⟩, h4⟩
  · rw [xOk_3 h1, Bool.and_eq_true, rng_iff']; exact ⟨hasK_iff.2 ⟨h2, by omega⟩, h4, h5⟩
theorem vx_ok {xs : List Cls} {L : List Xit} (ho : okTree xs = true) (h0 : 0 < xs.length) (hl : L.length ≤ 8) (h : ∀ x ∈ L, Enc.ok x ∧ (0 < xs.length → VX xs.length x)) : vxs xs L = true :=
  vxs_iff.2 ⟨ho, hl, fun x hx => vx_one ((h x hx).2 h0)⟩
/-- a tree and a text that were drawn -/
def DrPX (w : World) (e : Ending) (w' : World) : Prop :=
  ∃ (B : Option Addr) (m c : Nat) (xs : List Cls) (s : ByteArray), e = .returned (.tuple #[.agg #[.slice B m c], .string s]) ∧ Sl w' B m c xs ∧ m ≤ 8 ∧ s.size ≤ 1000 ∧ Le w w'
set_option maxHeartbeats 4000000 in
set_option maxRecDepth 100000 in
theorem drawParseExits_any (A : Option Addr) (n cap : Nat) (bs : List By) (w : World) (hR : Sl w A n cap bs) : Calls Tryd.prog 14 #[.slice A n cap] w (DrPX w) := by
  go_enter Tryd.func14, Tryd.ntmps14
  go_wp2_with fail
  obtain ⟨c0, z0, L0⟩ := box1 w (.slice none 0 0) 25
  have f0 : (w.alloc (.cells #[.slice none 0 0] 25)).frozen? ⟨w.heap.size, 0, none⟩ = false := World.frozen?_alloc_at _ _ _ _ rfl
  have S0 := hR.le L0
  generalize w.alloc (.cells #[.slice none 0 0] 25) = W at *
  refine (newReader_any A n cap bs W S0).mono ?_
  rintro e w1 ⟨g, A1, n1, k1, bs1, rfl, hg, R1, hle⟩
  have hz1 : w.heap.size < w1.heap.size := Nat.lt_of_lt_of_le z0 hle.size
  replace c0 := (hle.cell z0).trans c0
  replace f0 := (hle.frozen z0).trans f0
  replace L0 := L0.trans hle
  clear S0
  have hgz : w.heap.size ≠ g := by omega
  have hgw := R1.lt
  clear hle hR
  go_wp2_with fail
  refine (goodTree_good g 0 A1 n1 k1 bs1 w1 (by omega) R1).mono ?_
  rintro e w2 ⟨h, m, c, p', xs, rfl, O, hokx, hm1, hm8, hp', R2, hg2, hGT⟩
  obtain rfl := hGT.1
  have hot := gt_ok hGT hm1 hm8
  have S := Sl.of_own O rfl (by decide) hokx
  have hoff : 0 < xs.length → Off g (some ⟨h, 0, none⟩) := fun hn a e => by
    have := (O.lt h rfl).1
    injection e with e
    rw [← e]; show h ≠ g; omega
  replace c0 := (hg2.cell hz1 hgz).trans c0
  replace f0 := (hg2.frozen hz1 hgz).trans f0
  have hz2 := Nat.lt_of_lt_of_le hz1 hg2.size
  have L2 := Gx.le L0 hg2 (by omega)
  have hgw2 := R2.lt
  clear O hokx hGT hg2 R1 hz1 L0
  obtain ⟨ct, zt, LB⟩ := box1 w2 (.slice (some ⟨h, 0, none⟩) xs.length c) 25
  have hgt : w2.heap.size ≠ g := by omega
  replace c0 := (LB.cell hz2).trans c0
  replace f0 := (LB.frozen hz2).trans f0
  have hz3 := Nat.lt_of_lt_of_le hz2 LB.size
  replace S := S.le LB
  replace R2 := R2.le LB
  replace L2 := L2.trans LB
  go_wp2_with fail
  generalize w2.alloc (.cells #[.slice (some ⟨h, 0, none⟩) xs.length c] 25) = W3 at *
  generalize w2.heap.size = tb0 at *
  clear hz2 hgw2 LB
  have ctd : W3.drew.cell? ⟨tb0, 0, none⟩ = some (.slice (some ⟨h, 0, none⟩) xs.length c) := ct
  have R3 := R2.le (Le.refl W3).drew
  have S3 := S.le (Le.refl W3).drew
  have c3 : W3.drew.cell? ⟨w.heap.size, 0, none⟩ = some (.slice none 0 0) := c0
  have f3 : W3.drew.frozen? ⟨w.heap.size, 0, none⟩ = false := f0
  have L3 := L2.trans (Le.refl W3).drew
  have hz3 : w.heap.size < W3.drew.heap.size := hz3
  have zt3 : tb0 < W3.drew.heap.size := zt
  clear ct R2 S c0 f0 L2 zt
  go_region_held3 (fun w' => w'.cell? ⟨tb0, 0, none⟩ = some (.slice (some ⟨h, 0, none⟩) xs.length c))
    (first | exact ctd | exact ct5 | exact ct6)
    (first | (go_at_call 37; refine (goodExits_any (some ⟨h, 0, none⟩) xs.length c g p' A1 n1 k1 bs1 W3.drew hm8 (by omega) R3).mono ?_; rintro e w5 ⟨v5, L, p5, rfl, O5, hok5, hl5, hp5, R5, hg5⟩; have ct5 := (hg5.cell zt3 hgt).trans ctd; have zt5 := Nat.lt_of_lt_of_le zt3 hg5.size; have S5 := S3.gx hoff hg5; have c5 := (hg5.cell hz3 hgz).trans c3; have f5 := (hg5.frozen hz3 hgz).trans f3; have L5 := Gx.le L3 hg5 (by omega); have hz5 := Nat.lt_of_lt_of_le hz3 hg5.size; obtain ⟨A5, q5, rfl⟩ := own_form O5; have SL5 := Sl.of_own O5 rfl (by decide) (fun x hx => (hok5 x hx).1); have hv5 := vx_ok hot hm1 hl5 hok5; clear hg5 O5 hok5) | (go_at_call 31; refine (sexitsText_any (some ⟨h, 0, none⟩) A5 xs.length c L.length q5 xs L w5 S5 SL5 hv5).mono ?_; rintro e w6 ⟨rfl, hle6⟩; have ct6 := (hle6.cell zt5).trans ct5; have S6 := S5.le hle6; have c6 := (hle6.cell hz5).trans c5; have f6 := (hle6.frozen hz5).trans f5; have L6 := L5.trans hle6; have R6 := R5.le hle6; have hz6 := Nat.lt_of_lt_of_le hz5 hle6.size; clear hle6))
  all_goals
    have hsz : (tb (xsB xs L)).size ≤ 128 := xs_len hv5
    have zt6 := R6.lt
    clear S5 c5 f5 L5 R5 SL5 hv5 ct5 zt5 ctd S3 c3 f3 L3 R3 hz5 zt3 hz3
    generalize tb (xsB xs L) = s at *
    have zt6' : tb0 < w6.heap.size := by
      rcases Nat.lt_or_ge tb0 w6.heap.size with h | h
      · exact h
      · exact absurd ct6 (by simp [World.cell?, Array.getElem?_eq_none h])
    go_wp2_with fail
    refine (pick_any 3 g p5 A1 n1 k1 bs1 w6 (by omega) (by omega) (by omega) R6).mono ?_
    rintro e w7 ⟨kk, rfl, h0, h1, R7, hg7⟩
    have S7 := S6.gx hoff hg7
    have c7 := (hg7.cell hz6 hgz).trans c6
    have f7 := (hg7.frozen hz6 hgz).trans f6
    have L7 := Gx.le L6 hg7 (by omega)
    have hz7 := Nat.lt_of_lt_of_le hz6 hg7.size
    have ct7 := (hg7.cell zt6' hgt).trans ct6
    have zt7 := Nat.lt_of_lt_of_le zt6' hg7.size
    clear S6 c6 f6 L6 hg7 R6 ct6 zt6 zt6' hz6
    by_cases hk0 : kk = 0
    · have hkb : (kk == 0) = true := by rw [hk0]; rfl
      go_wp2_with fail
      refine (mutate_any s g (p5 + 1) A1 n1 k1 bs1 w7 (by omega) (by omega) R7).mono ?_
      rintro e w8 ⟨s2, p8, rfl, hs2, hp8, R8, hg8⟩
      have S8 := S7.gx hoff hg8
      have c8 := (hg8.cell hz7 hgz).trans c7
      have f8 := (hg8.frozen hz7 hgz).trans f7
      have L8 := Gx.le L7 hg8 (by omega)
      have ct8 := (hg8.cell zt7 hgt).trans ct7
      have hend : ∀ u, (w8.setCell ⟨w.heap.size, 0, none⟩ u).cell? ⟨w.heap.size, 0, none⟩ = some u := fun u => cell_set_same c8
      have hSx : ∀ u, Sl (w8.setCell ⟨w.heap.size, 0, none⟩ u) (some ⟨h, 0, none⟩) xs.length c xs := fun u => S8.setNoneX c8 (fun x h => by simp [Enc.cells] at h)
      clear S7 c7 f7 L7 hg8 R8 ct7 S8 hkb hk0
      go_wp2
      exact bodyPost_ret (v := .tuple #[.agg #[.slice (some ⟨h, 0, none⟩) xs.length c], .string s2]) (by simp [results, Tryd.results14, go_sem, hend]) rfl ⟨_, _, _, xs, s2, rfl, hSx _, hm8, by omega, L8.setCell (Nat.le_refl _) _⟩
    · have hkb : (kk == 0) = false := by rw [beq_eq_false_iff_ne]; exact hk0
      have hend : ∀ u, (w7.setCell ⟨w.heap.size, 0, none⟩ u).cell? ⟨w.heap.size, 0, none⟩ = some u := fun u => cell_set_same c7
      have hSx : ∀ u, Sl (w7.setCell ⟨w.heap.size, 0, none⟩ u) (some ⟨h, 0, none⟩) xs.length c xs := fun u => S7.setNoneX c7 (fun x h => by simp [Enc.cells] at h)
      clear R7 S7 hk0
      go_wp2
      exact bodyPost_ret (v := .tuple #[.agg #[.slice (some ⟨h, 0, none⟩) xs.length c], .string s]) (by simp [results, Tryd.results14, go_sem, hend]) rfl ⟨_, _, _, xs, s, rfl, hSx _, hm8, by omega, L7.setCell (Nat.le_refl _) _⟩
end

section
theorem dec_in (s : ByteArray) (pos : Nat) (h : pos < s.size) (ha : 128 ≤ (s[pos]'h).toNat) : ∀ j (hj : j < s.size), pos ≤ j → j < pos + (Utf8.decode s pos).2 → 128 ≤ (s[j]'hj).toNat := by
  intro j hj h1 h2
  obtain ⟨k, rfl⟩ : ∃ k, j = pos + k := ⟨j - pos, by omega⟩
  have hg : s.get! (pos + k) = s[pos + k]'hj := by
    simp [ByteArray.get!, getElem!_pos, hj]; rfl
  rw [← hg]
  by_cases h0 : k = 0
  · subst h0
    rw [get_at s pos h]; exact ha
  have hk : k < (Utf8.decode s pos).2 := by omega
  clear h1 h2 hg
  simp only [Utf8.decode] at hk
  have c1 : ∀ q : Nat, (decide (pos + q < s.size) && ((s.get! (pos + q)).toNat / 64 == 2)) = true → 128 ≤ (s.get! (pos + q)).toNat := fun q e => by
    rw [Bool.and_eq_true, beq_iff_eq] at e; omega
  split at hk
  · exact absurd hk (by dsimp only; omega)
  split at hk
  · rename_i e
    rw [Bool.and_eq_true] at e
    split at hk
    · have : k = 1 := by dsimp only at hk; omega
      subst this; exact c1 1 e.2
    · exact absurd hk (by dsimp only; omega)
  split at hk
  · rename_i e
    rw [Bool.and_eq_true, Bool.and_eq_true] at e
    split at hk
    · have : k = 1 ∨ k = 2 := by dsimp only at hk; omega
      rcases this with rfl | rfl
      · exact c1 1 e.1.2
      · exact c1 2 e.2
    · exact absurd hk (by dsimp only; omega)
  split at hk
  · rename_i e
    rw [Bool.and_eq_true, Bool.and_eq_true, Bool.and_eq_true] at e
    split at hk
    · have : k = 1 ∨ k = 2 ∨ k = 3 := by dsimp only at hk; omega
      rcases this with rfl | rfl | rfl
      · exact c1 1 e.1.1.2
      · exact c1 2 e.1.2
      · exact c1 3 e.2
    · exact absurd hk (by dsimp only; omega)
  · exact absurd hk (by dsimp only; omega)
theorem iter_le (w : World) (s : ByteArray) : Le w (w.iter s 0) := Le.new w (.stringIter s 0)
set_option maxHeartbeats 2000000 in
set_option maxRecDepth 100000 in
theorem phraseOf_any (s : ByteArray) (w : World) (hs : s.size ≤ 1048576) :
    Calls Tryd.prog 61 #[.string s] w fun e w' => ∃ v, e = .returned v ∧ Owd 9 w w' v ((splitL 32 (bl s)).map tb) ∧ Le w w' := by
  obtain ⟨i0, hi, hz0, hz1, hz2⟩ := info_parts infoStrT
  go_enter Tryd.func61, Tryd.ntmps61
  go_wp2
  go_loopw [3, 4] (fun v f wr => ∃ (L : List ByteArray) (a k : Nat), f = .int .i64 a ∧ a ≤ k ∧ a ≤ s.size ∧ L.length ≤ a ∧ Hid (∀ j (hj : j < s.size), a ≤ j → j < k → s[j] ≠ 32) ∧ Hid (L ++ (splitL 32 ((bl s).drop a)).map tb = (splitL 32 (bl s)).map tb) ∧ (∀ x ∈ L, Enc.ok x) ∧ wr.ownsRow (w.heap.size + 1) 9 1 v L.length (L.flatMap Enc.cells) ∧ wr.heap[w.heap.size]? = some (.stringIter s k) ∧ Le w wr) (fun _ _ wr => s.size - wr.iterPos w.heap.size)
  case atStart => exact ⟨[], 0, 0, rfl, Nat.le_refl _, Nat.zero_le _, Nat.le_refl _, fun j _ _ h => absurd h (by omega), rfl, by simp, World.ownsRow_nil _ _ _ _, World.iter_heap _ _ _, iter_le w s⟩
  case round =>
    obtain ⟨L, a, k, rfl, hak, has, hLa, HNO, HSP, hL, O, hk, LW⟩ := hrel
    obtain ⟨A2, c2, rfl⟩ := own_form O
    have HL := Lib.hid hL
    have hpk := iterPos_of hk
    have s1 := LW.size
    have zk : w.heap.size < wr.heap.size := (Array.getElem?_eq_some_iff.1 hk).1
    clear hL
    by_cases hlt : k < s.size
    · by_cases hasc : s[k].toNat < 128
      · have hnx : ∀ ty, (Instr.next (.pointer (some ⟨w.heap.size, 0, none⟩)) true ty).run Tryd.prog wr = _ := fun ty => Lib.run_next_ascii_at wr w.heap.size s k ty hk hlt hasc
        have hk1 := Lib.iterAt_heap wr w.heap.size s k (k + 1) hk
        have O1 := ownsRow_iterAt O (Nat.lt_succ_self _) s (k + 1)
        have L1 : Le w (wr.iterAt w.heap.size s (k + 1)) := Lib.below_iterAt LW (Nat.le_refl _) s (k + 1)
        have z1 : w.heap.size < (wr.iterAt w.heap.size s (k + 1)).heap.size := by rw [Lib.iterAt_size]; exact zk
        have hm1 := iterPos_of hk1
        clear hk LW O
        by_cases h32 : s[k] = 32
        · have hb : ((s[k].toNat : Int) == 32) = true := by rw [h32]; rfl
          have HE := Lib.hid (seg_split hak hlt HNO.out h32)
          have hx1 : (a : Int) ≤ (k : Int) := by omega
          have hx2 : (k : Int) ≤ (s.size : Int) := by omega
          have hw : IntKind.i64.wrap ((k : Int) + 1) = (k : Int) + 1 := IntWalk.i64_in _ (by omega)
          have hsz : (s.extract a k).size ≤ 1048576 := by rw [ByteArray.size_extract]; omega
          have hfo : Enc.ok (s.extract a k) := by show (s.extract a k).size ≤ 9223372036854775807; omega
          clear h32 HNO
          generalize wr.iterAt w.heap.size s (k + 1) = W1 at *
          have hbk := O1.lt
          go_wp2_with (at_builtin; refine wpList_append_sl rfl _ _ 99 rfl (w.heap.size + 1) 9 i0 _ 16 Tryd.underlying99 hi hz0 hz1 hz2 rfl _ _ L rfl (O1.alloc _) _ 1 1 [s.extract a k] rfl (sl_one (s.extract a k) rfl hfo rfl) (by unfold maxLen; omega) (by omega) (Nat.le_trans (by omega) (Le.new W1 _).size) ?_; intro v1 w7 O7 hg7 _; have LA := Le.new W1 (.cells #[.string (s.extract a k)] 9); have L7 := (L1.trans LA).grown hg7 (fun k hk => by have h := (hbk _ hk).1; omega); have hk7 := (hg7.block w.heap.size (Nat.lt_of_lt_of_le (by omega) LA.size) (fun e => by have h := (hbk _ e.symm).1; omega)).trans ((LA.block w.heap.size (by omega)).trans hk1); clear hg7 LA)
          go_roundw
          case rel =>
            refine ⟨L ++ [s.extract a k], k + 1, k + 1, by go_num, Nat.le_refl _, by omega, by simp; omega, fun j _ h1 h2 => absurd h1 (by omega), ?_, (fun y hy => by rcases List.mem_append.1 hy with h | h; exact HL.out y h; simp at h; subst h; exact hfo), by rw [List.length_append]; exact O7, hk7, L7⟩
            have := HSP.out
            rw [HE.out, List.map_cons, tb_bl] at this
            rw [List.append_assoc]; exact this
          case measure => rw [iterPos_of hk7, hpk]; omega
        · have hb : ((s[k].toNat : Int) == 32) = false := by
            rw [beq_eq_false_iff_ne]; intro e; exact h32 (UInt8.toNat_inj.1 (by show s[k].toNat = 32; omega))
          have HNO2 : Hid (∀ j (hj : j < s.size), a ≤ j → j < k + 1 → s[j] ≠ 32) := fun j hj h1 h2 => by
            rcases Nat.lt_or_ge j k with h | h
            · exact HNO.out j hj h1 h
            · have e : j = k := by omega
              subst e; exact h32
          clear h32 HNO
          generalize wr.iterAt w.heap.size s (k + 1) = W1 at *
          go_wp2
          go_roundw
          case rel => exact ⟨L, a, k + 1, rfl, by omega, has, hLa, HNO2.out, HSP.out, HL.out, O1, hk1, L1⟩
          case measure => rw [hm1, hpk]; omega
      · have hnx : ∀ ty, (Instr.next (.pointer (some ⟨w.heap.size, 0, none⟩)) true ty).run Tryd.prog wr = _ := fun ty => Lib.run_next_any_at wr w.heap.size s k ty hk hlt
        obtain ⟨hr, hwd⟩ := decode_high s k hlt (by omega)
        have hrl := decode_le s k
        have HIN := Lib.hid (dec_in s k hlt (by omega))
        generalize (Utf8.decode s k).1 = d at *
        generalize (Utf8.decode s k).2 = u at *
        have hk1 := Lib.iterAt_heap wr w.heap.size s k (k + u) hk
        have O1 := ownsRow_iterAt O (Nat.lt_succ_self _) s (k + u)
        have L1 : Le w (wr.iterAt w.heap.size s (k + u)) := Lib.below_iterAt LW (Nat.le_refl _) s (k + u)
        have hm1 := iterPos_of hk1
        have hb : ((d : Int) == 32) = false := by rw [beq_eq_false_iff_ne]; omega
        have HNO2 : Hid (∀ j (hj : j < s.size), a ≤ j → j < k + u → s[j] ≠ 32) := fun j hj h1 h2 => by
          rcases Nat.lt_or_ge j k with h | h
          · exact HNO.out j hj h1 h
          · intro e
            have := HIN.out j hj h h2
            rw [e] at this
            exact absurd this (by decide)
        clear hk LW O HNO HIN hasc
        generalize wr.iterAt w.heap.size s (k + u) = W1 at *
        go_wp2
        go_roundw
        case rel => exact ⟨L, a, k + u, rfl, by omega, has, hLa, HNO2.out, HSP.out, HL.out, O1, hk1, L1⟩
        case measure => rw [hm1, hpk]; omega
    · have hnx : ∀ ty, (Instr.next (.pointer (some ⟨w.heap.size, 0, none⟩)) true ty).run Tryd.prog wr = _ := fun ty => Lib.run_next_end_at wr w.heap.size s k ty hk hlt
      have HE := Lib.hid (seg_last (fun j hj h => HNO.out j hj h (by omega)))
      have hx2 : (a : Int) ≤ (s.size : Int) := by omega
      have hsz : (s.extract a s.size).size ≤ 1048576 := by rw [ByteArray.size_extract]; omega
      have hfo : Enc.ok (s.extract a s.size) := by show (s.extract a s.size).size ≤ 9223372036854775807; omega
      have hbk := O.lt
      clear HNO hk hpk
      go_wp2_with (at_builtin; refine wpList_append_sl rfl _ _ 99 rfl (w.heap.size + 1) 9 i0 _ 16 Tryd.underlying99 hi hz0 hz1 hz2 rfl _ _ L rfl (O.alloc _) _ 1 1 [s.extract a s.size] rfl (sl_one (s.extract a s.size) rfl hfo rfl) (by unfold maxLen; omega) (by omega) (Nat.le_trans (by omega) (Le.new wr _).size) ?_; intro v1 w7 O7 hg7 _; have LA := Le.new wr (.cells #[.string (s.extract a s.size)] 9); have L7 := (LW.trans LA).grown hg7 (fun k hk => by have h := (hbk _ hk).1; omega); clear hg7 LA)
      go_ret
      refine ⟨_, rfl, ⟨?_, ?_⟩, L7⟩
      · have := HSP.out
        rw [HE.out, List.map_cons, tb_bl] at this
        rw [← this, List.length_append]; exact own_mono O7 (by omega)
      · have := HSP.out
        rw [HE.out, List.map_cons, tb_bl] at this
        rw [← this]
        intro y hy
        rcases List.mem_append.1 hy with h | h
        · exact HL.out y h
        · simp at h; subst h; exact hfo
theorem atW_at {W : List (List UInt8)} {i : Nat} (h : i < W.length) : atW W i = W[i] := by unfold atW; simp [List.getD, h]
theorem atW_past {W : List (List UInt8)} {i : Nat} (h : ¬ i < W.length) : atW W i = [] := by unfold atW; simp [List.getD, h]
set_option maxRecDepth 100000 in
theorem at_any (A : Option Addr) (n c : Nat) (W : List (List UInt8)) (i : Nat) (w : World) (_hi : i ≤ 2) (S : Sl w A n c (W.map tb)) :
    Calls Tryd.prog 63 #[.slice A n c, .int .i64 i] w fun e w' => e = .returned (.string (tb (atW W i))) ∧ w = w' := by
  have hn := S.len
  rw [List.length_map] at hn
  go_enter Tryd.func63, Tryd.ntmps63
  by_cases h : i < W.length
  · obtain ⟨b, o, rfl, hb, k0⟩ := str_at S (k := i) (by rw [List.length_map]; exact h)
    rw [List.getElem_map] at k0
    have HA := Lib.hid (atW_at h)
    have h1 : ¬ (n : Int) ≤ (i : Int) := by omega
    have h2 : (i : Int) < (n : Int) := by omega
    obtain ⟨x, hx⟩ : ∃ x, tb W[i] = x := ⟨_, rfl⟩
    have HX : Hid (tb (atW W i) = x) := by show _ = _; rw [HA.out]; exact hx
    rw [hx] at k0
    clear HA hx
    clear S h
    go_wp2
    go_ret
    exact ⟨ret_str HX.out.symm, rfl⟩
  · have HA := Lib.hid (atW_past h)
    have h1 : (n : Int) ≤ (i : Int) := by omega
    clear S h
    go_wp2
    go_ret
    exact ⟨ret_str (by rw [HA.out]; rfl), rfl⟩
theorem atW_len {W : List (List UInt8)} {i m : Nat} (h : ∀ x ∈ W, x.length ≤ m) : (atW W i).length ≤ m := by
  by_cases hi : i < W.length
  · rw [atW_at hi]; exact h _ (List.getElem_mem hi)
  · rw [atW_past hi]; exact Nat.zero_le _
set_option maxRecDepth 100000 in
theorem wnumber_any (A : Option Addr) (n c : Nat) (W : List (List UInt8)) (i : Nat) (w : World) (hi : i ≤ 2) (S : Sl w A n c (W.map tb)) (hl : ∀ x ∈ W, x.length ≤ 1048576) (hE : ErrW w) :
    Calls Tryd.prog 64 #[.slice A n c, .int .i64 i] w fun e w' => e = .returned (.int .i64 (atI (atW W i))) ∧ Le w w' := by
  have h1 := atW_len (i := i) hl
  have HA := Lib.hid (at_any A n c W i w hi S)
  have HI := Lib.hid (atoi_any (tb (atW W i)) w (by rw [tb_size]; omega) hE)
  have eb : Hid (atI (bl (tb (atW W i))) = atI (atW W i)) := rfl
  rw [eb.out] at HI
  generalize tb (atW W i) = x at *
  generalize atI (atW W i) = y at *
  go_enter Tryd.func64, Tryd.ntmps64
  go_wp2_with fail
  refine HA.out.mono ?_
  rintro e w1 ⟨rfl, rfl⟩
  go_wp2_with fail
  refine HI.out.mono ?_
  rintro e w2 ⟨u, rfl, hle⟩
  go_wp2
  go_ret
  exact ⟨rfl, hle⟩
set_option maxRecDepth 100000 in
theorem wclass_any (A B : Option Addr) (n c m d : Nat) (W : List (List UInt8)) (xs : List Cls) (i : Nat) (w : World) (hi : i ≤ 2) (S : Sl w A n c (W.map tb)) (T : Sl w B m d xs) :
    Calls Tryd.prog 65 #[.slice A n c, .agg #[.slice B m d], .int .i64 i] w fun e w' => e = .returned (.int .i64 (findN xs (tb (atW W i)) 0)) ∧ Le w w' := by
  obtain ⟨x, hx⟩ : ∃ x, Hid (tb (atW W i) = x) := ⟨_, Lib.hid rfl⟩
  obtain ⟨y, hy⟩ : ∃ y, Hid (findN xs x 0 = y) := ⟨_, Lib.hid rfl⟩
  go_enter Tryd.func65, Tryd.ntmps65
  go_wp2_with fail
  obtain ⟨c0, z0, L0⟩ := box1 w (.slice B m d) 25
  have S1 := S.le L0
  have T1 := T.le L0
  generalize w.alloc (.cells #[.slice B m d] 25) = W1 at *
  have HA : Hid (∀ g : Ext W1, Calls Tryd.prog 63 #[.slice A n c, .int .i64 i] (W1.ext g) fun e w' => e = .returned (.string x) ∧ Le (W1.ext g) w') := fun g => (at_any A n c W i _ hi (S1.le (Le.ext W1 g))).mono fun e w' ⟨he, h⟩ => ⟨by rw [he, hx.out], h ▸ Le.refl _⟩
  have HC : Hid (∀ g : Ext W1, Calls Tryd.prog 57 #[.slice B m d, .string x] (W1.ext g) fun e w' => e = .returned (.int .i64 y) ∧ Le (W1.ext g) w') := fun g => (indexOfName_any B m d xs _ _ (T1.le (Le.ext W1 g))).mono fun e w' ⟨he, h⟩ => ⟨by rw [he, hy.out], h⟩
  have E0 := cell_ext z0 c0
  refine wp_region_ext (by kernel_rfl) (by kernel_rfl) ?_
  repeat (go_big_quiet_step (first | (go_at_call 63; exact Calls.ext_of (HA.out _)) | (go_at_call 57; exact Calls.ext_of (HC.out _))))
  refine wpQuiet_nil ?_
  intro _ hw'
  obtain ⟨gg, rfl⟩ := hw'
  have L2 := L0.trans (Le.ext W1 gg)
  generalize W1.ext gg = W2 at *
  go_wp2
  go_ret
  exact ⟨by rw [hx.out, hy.out]; rfl, L2⟩
end
end Go.Proofs.YtnpcmlcigeccmaaDoor
