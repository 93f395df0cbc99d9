/- one text of IxT, RdN, Cu, AtI, XkA, GrB -/
import Derived.Test.YtkcnjoikdalgjaaGreatDoorZp7
import Derived.Test.YtkcnjoikdalgjaaGreatDoorZp6
import Derived.Test.YtkcnjoikdalgjaaGreatDoorZp8
import Derived.Test.YtkcnjoikdalgjaaGreatDoorShelf
import Derived.Test.YtkcnjoikdalgjaaGreatDoorZp5
import Derived.Test.YtkcnjoikdalgjaaGreatDoorZp1
import Derived.Test.YtkcnjoikdalgjaaGreatDoorZp12
import Derived.Lib.OthersKept
import Derived.WalkSmall
namespace Go.Proofs.YtkcnjoikdalgjaaGreatDoor
open Go.RowKit
set_option linter.unusedVariables false
section
set_option maxHeartbeats 1000000 in
set_option maxRecDepth 100000 in
theorem indexTextG_any (A : Option Addr) (n c : Nat) (L : List ByteArray) (s : ByteArray) (w : World) (S : Sl w A n c L) (hn : n ≤ 1000) :
    Calls Tryz.prog 112 #[.slice A n c, .string s] w fun e w' => e = .returned (.int .i64 (lkF (bl s) (L.map bl) 0)) ∧ w = w' := by
  obtain rfl := S.len
  obtain ⟨z, hz⟩ : ∃ z, Hid (lkF (bl s) (L.map bl) 0 = z) := ⟨_, Lib.hid rfl⟩
  go_enter Tryz.func112, Tryz.ntmps112
  go_wp2
  go_loopw [5] (fun i wr => ∃ k : Nat, k ≤ L.length ∧ i = .int .i64 k ∧ Hid (lkF (bl s) ((L.map bl).drop k) k = z) ∧ w = wr) (fun i _ => L.length - (intOf i).toNat)
  case atStart => exact ⟨0, by omega, rfl, hz, rfl⟩
  case round =>
    obtain ⟨k, hk, rfl, HZ, rfl⟩ := hrel
    by_cases hlt : k < L.length
    · have hki : (k : Int) < (L.length : Int) := by omega
      obtain ⟨b, off, rfl, hb, k0⟩ := str_at S (k := k) hlt
      have hst : Hid ((if bl s = bl L[k] then (k : Int) else lkF (bl s) ((L.map bl).drop (k + 1)) ((k : Int) + 1)) = z) := by
        have := HZ.out
        rw [List.drop_eq_getElem_cons (by rw [List.length_map]; exact hlt), lkF, List.getElem_map] at this; exact this
      have heq : Hid (∀ h : L[k] = s, z = k) := fun h => by rw [← hst.out, if_pos (by rw [h])]
      have hne : Hid (∀ h : L[k] ≠ s, lkF (bl s) ((L.map bl).drop (k + 1)) ((k + 1 : Nat) : Int) = z) := fun h => by rw [← hst.out, if_neg (fun e => h (bl_inj e.symm))]; rfl
      clear hst HZ
      generalize L[k] = x at *
      by_cases h : x = s
      · have hr := Lib.hid (heq.out h)
        have hb : (x.toList == s.toList) = true := by rw [h]; simp
        clear heq hne h S
        go_wp2
        go_ret
        exact ⟨by rw [hz.out, hr.out]; rfl, rfl⟩
      · have hb := str_ne h
        have hr := Lib.hid (hne.out h)
        clear heq hne h
        go_wp2
        go_roundw
        case rel => exact ⟨k + 1, by omega, by go_num, hr, by first | trivial | rfl⟩
        case measure => (simp [intOf]) <;> omega
    · have hki : ¬ (k : Int) < (L.length : Int) := by omega
      obtain rfl : k = L.length := by omega
      have hr : Hid (z = -1) := by
        show _ = _
        rw [← HZ.out, List.drop_eq_nil_of_le (by rw [List.length_map]; exact Nat.le_refl _)]; rfl
      clear HZ
      go_wp2
      go_ret
      exact ⟨by rw [hz.out, hr.out]; rfl, rfl⟩
end

section
theorem pre100 : ∀ m : Fin 100, ∀ k : Fin 2, k.1 < (numL m.1).length → dv ((numL m.1).take k.1) ≤ 9 := by decide +kernel
theorem rdN_long2 {l : List UInt8} {k : Nat} (hk : k < l.length) (h : 9 < dv (l.take k)) : rdN 100 l = -1 := rdN_no fun n hn e => by
  subst e
  have h2 := numL_sz2 ⟨n, hn⟩
  dsimp only at h2
  have := pre100 ⟨n, hn⟩ ⟨k, by omega⟩ hk
  dsimp only at this
  omega
set_option maxHeartbeats 2000000 in
set_option maxRecDepth 100000 in
theorem readNumber_any (s : ByteArray) (w : World) (hs : s.size ≤ 1048576) :
    Calls Tryz.prog 113 #[.string s] w fun e w' => e = .returned (.int .i64 (rdN 100 (bl s))) ∧ w = w' := by
  obtain ⟨z, hz⟩ : ∃ z, Hid (rdN 100 (bl s) = z) := ⟨_, Lib.hid rfl⟩
  go_enter Tryz.func113, Tryz.ntmps113
  go_wp2
  go_loopw [3, 4] (fun v i wr => ∃ k d : Nat, k ≤ s.size ∧ i = .int .i64 k ∧ v = .int .i64 d ∧ d = dv ((bl s).take k) ∧ d ≤ 99 ∧ w = wr) (fun _ i _ => s.size - (intOf i).toNat)
  case atStart => exact ⟨0, 0, Nat.zero_le _, rfl, rfl, rfl, by omega, rfl⟩
  case round =>
    obtain ⟨k, d, hk, rfl, rfl, hd, hd9, rfl⟩ := hrel
    by_cases hlt : k < s.size
    · have hki : (k : Int) < (s.size : Int) := by omega
      have hmem : s[k] ∈ bl s := by rw [← bl_at hlt]; exact List.getElem_mem _
      have hc : (s[k].toNat : Int) ≤ 255 := by have := UInt8.toNat_lt s[k]; omega
      have hc0 : (0 : Int) ≤ (s[k].toNat : Int) := by omega
      by_cases h48 : s[k].toNat < 48
      · have hb : decide ((s[k].toNat : Int) < 48) = true := decide_eq_true (by omega)
        have hr : Hid (z = -1) := by show _ = _; rw [← hz.out]; exact rdN_digit (by omega) hmem (.inl h48)
        clear hd
        go_wp2
        go_ret
        exact ⟨by rw [hz.out, hr.out]; rfl, rfl⟩
      · have hb : decide ((s[k].toNat : Int) < 48) = false := decide_eq_false (by omega)
        by_cases h57 : 57 < s[k].toNat
        · have hb2 : decide ((57 : Int) < (s[k].toNat : Int)) = true := decide_eq_true (by omega)
          have hr : Hid (z = -1) := by show _ = _; rw [← hz.out]; exact rdN_digit (by omega) hmem (.inr h57)
          clear hd
          go_wp2
          go_ret
          exact ⟨by rw [hz.out, hr.out]; rfl, rfl⟩
        · have hb2 : decide ((57 : Int) < (s[k].toNat : Int)) = false := decide_eq_false (by omega)
          by_cases h99 : 9 < d
          · have hb3 : decide ((9 : Int) < (d : Int)) = true := decide_eq_true (by omega)
            have hr : Hid (z = -1) := by show _ = _; rw [← hz.out]; exact rdN_long2 (by rw [bl_len]; exact hlt) (by rw [← hd]; exact h99)
            clear hd
            go_wp2
            go_ret
            exact ⟨by rw [hz.out, hr.out]; rfl, rfl⟩
          · have hb3 : decide ((9 : Int) < (d : Int)) = false := decide_eq_false (by omega)
            have hsn : Hid (10 * d + (s[k].toNat - 48) = dv ((bl s).take (k + 1))) := by show _ = _; rw [take_snoc hlt, dv_snoc, ← hd]
            have hw1 : IntKind.u8.wrap ((s[k].toNat : Int) - 48) = ((s[k].toNat - 48 : Nat) : Int) := by rw [IntKind.wrap_u8]; omega
            have hw2 : IntKind.i64.wrap (10 * (d : Int)) = 10 * (d : Int) := IntWalk.i64_in _ (by omega)
            have hw3 : IntKind.i64.wrap ((s[k].toNat - 48 : Nat) : Int) = ((s[k].toNat - 48 : Nat) : Int) := IntWalk.i64_in _ (by omega)
            have hw4 : IntKind.i64.wrap (10 * (d : Int) + ((s[k].toNat - 48 : Nat) : Int)) = ((10 * d + (s[k].toNat - 48) : Nat) : Int) := by rw [IntWalk.i64_in _ (by omega)]; omega
            have hH99 : 10 * d + (s[k].toNat - 48) ≤ 99 := by omega
            clear hd
            go_wp2
            go_roundw
            case rel => exact ⟨k + 1, 10 * d + (s[k].toNat - 48), by omega, by go_num, by first | rfl | exact congrArg (Value.int .i64) hw4, hsn.out, hH99, trivial⟩
            case measure => (simp [intOf]) <;> omega
    · have hki : ¬ (k : Int) < (s.size : Int) := by omega
      obtain rfl : k = s.size := by omega
      have htk : (bl s).take s.size = bl s := List.take_of_length_le (by rw [bl_len]; omega)
      rw [htk] at hd
      by_cases he : bl s = []
      · have hb := empT.2 he
        have hr : Hid (z = -1) := by show _ = _; rw [← hz.out, he]; exact rdN_nil _
        clear hd he htk
        go_wp2
        go_ret
        exact ⟨by rw [hz.out, hr.out]; rfl, rfl⟩
      · have hb := empF he
        have HN := Lib.hid (number3_any d w (by omega))
        by_cases hq : numL d = bl s
        · have hq2 : tb (numL d) = s := by rw [hq, tb_bl]
          have hr : Hid (z = d) := by show _ = _; rw [← hz.out, hd]; exact rdN_eq (by rw [← hd]; exact hq) (by omega)
          rw [hq2] at HN
          have hb2 : (s.toList == s.toList) = true := by simp
          have hb3 : (s.toList != s.toList) = false := by simp
          clear hd he htk hq hq2
          go_wp2_with fail
          refine HN.out.mono ?_
          rintro e w' ⟨rfl, rfl⟩
          go_wp2
          go_ret
          exact ⟨by rw [hz.out, hr.out]; rfl, rfl⟩
        · have hq2 : s ≠ tb (numL d) := fun e => hq (by rw [e, bl_tb])
          have hr : Hid (z = -1) := by show _ = _; rw [← hz.out]; exact rdN_ne (by rw [← hd]; exact hq)
          have hb2 : (s.toList == (tb (numL d)).toList) = false := str_ne hq2
          have hb3 : (s.toList != (tb (numL d)).toList) = true := by simp only [bne, hb2]; rfl
          generalize tb (numL d) = u at *
          clear hd he htk hq hq2
          go_wp2_with fail
          refine HN.out.mono ?_
          rintro e w' ⟨rfl, rfl⟩
          go_wp2
          go_ret
          exact ⟨by rw [hz.out, hr.out]; rfl, rfl⟩
end

section
theorem cutA_ext {s : ByteArray} {a r : List UInt8} {c : UInt8} (h : bl s = a ++ c :: r) : s.extract 0 a.length = tb a ∧ s.extract (a.length + 1) s.size = tb r ∧ a.length + 1 ≤ s.size := by
  have hl : s.size = a.length + 1 + r.length := by
    have := congrArg List.length h
    rw [bl_len] at this; simp at this; omega
  have e : s = tb a ++ (tb [c] ++ tb r) := bl_inj (by rw [bl_app, bl_app, bl_tb, bl_tb, bl_tb, h]; rfl)
  refine ⟨?_, ?_, by omega⟩
  · rw [e]; exact ByteArray.extract_append_eq_left rfl
  · have e2 : s = (tb a ++ tb [c]) ++ tb r := by rw [ByteArray.append_assoc]; exact e
    have h1 : a.length + 1 = (tb a ++ tb [c]).size := by rw [ByteArray.size_append]; rfl
    rw [hl, e2]
    refine ByteArray.extract_append_eq_right h1 ?_
    rw [← h1]; rfl
set_option maxRecDepth 100000 in
theorem slCut_any (s : ByteArray) (c : UInt8) (w : World) (hs : s.size ≤ 1048576) :
    Calls Tryz.prog 105 #[.string s, .string ⟨#[c]⟩] w fun e w' => e = .returned (.tuple #[.string (tb (Lib.cut (bl s) [c]).1), .string (tb (Lib.cut (bl s) [c]).2.1), .bool (Lib.cut (bl s) [c]).2.2]) ∧ Le w w' := by
  go_enter Tryz.func105, Tryz.ntmps105
  go_wp2_with fail
  refine (Tryz.stringslite_Index_one s c w).mono ?_
  rintro e w1 ⟨rfl, rfl⟩
  rcases split_or c (bl s) with h | ⟨a, r, e, h⟩
  · have hi : Lib.indexByte s.data.toList c = -1 := indexByte_miss h
    rw [hi]
    have HX := Lib.hid (cut_one h)
    clear hi h
    go_wp2
    go_ret3
    exact ⟨by rw [HX.out]; rfl, Le.refl _⟩
  · have hi : Lib.indexByte s.data.toList c = (a.length : Int) := by
      show Lib.indexByte (bl s) c = _
      rw [e]; exact indexByte_skip h r
    rw [hi]
    obtain ⟨h1, h2, h3⟩ := cutA_ext e
    have HX : Hid (Lib.cut (bl s) [c] = (a, r, true)) := by show _ = _; rw [e]; exact cut_line h r
    have H1 := Lib.hid h1
    have H2 := Lib.hid h2
    have k0 : (0 : Int) ≤ (a.length : Int) := by omega
    have k1 : (a.length : Int) ≤ (s.size : Int) := by omega
    have k2 : (a.length : Int) + 1 ≤ (s.size : Int) := by omega
    have k3 : IntKind.i64.wrap ((a.length : Int) + 1) = (a.length : Int) + 1 := IntWalk.i64_in _ (by omega)
    have k4 : (0 : Int) ≤ (a.length : Int) + 1 := by omega
    clear hi h h1 h2 e
    generalize a.length = q at *
    go_wp2_with fail
    refine wp_region_ext (by kernel_rfl) (by kernel_rfl) ?_
    repeat (go_big_quiet_step (fail))
    refine wpQuiet_nil ?_
    intro _ hw'
    obtain ⟨gg, rfl⟩ := hw'
    have L1 := Le.ext w1 gg
    generalize w1.ext gg = W2 at *
    go_wp2
    go_ret3
    refine ⟨?_, L1⟩
    rw [HX.out]
    show _ = Ending.returned (.tuple #[.string (tb a), .string (tb r), .bool true])
    rw [← H1.out, ← H2.out]
    rfl
set_option maxRecDepth 100000 in
theorem cut_any (s : ByteArray) (c : UInt8) (w : World) (hs : s.size ≤ 1048576) :
    Calls Tryz.prog 66 #[.string s, .string ⟨#[c]⟩] w fun e w' => e = .returned (.tuple #[.string (tb (Lib.cut (bl s) [c]).1), .string (tb (Lib.cut (bl s) [c]).2.1), .bool (Lib.cut (bl s) [c]).2.2]) ∧ Le w w' := by
  go_enter Tryz.func66, Tryz.ntmps66
  go_wp2_with fail
  refine (slCut_any s c w hs).mono ?_
  rintro e w1 ⟨rfl, hle⟩
  go_wp2
  go_ret3
  exact ⟨rfl, hle⟩
end

section
/-- the errors that strconv names lie there -/
def ErrW (w : World) : Prop := (∃ t p, w.cell? ⟨5, 0, none⟩ = some (.iface t p)) ∧ (∃ t p, w.cell? ⟨6, 0, none⟩ = some (.iface t p))
theorem ErrW.le {w w' : World} (h : ErrW w) (hl : Le w w') : ErrW w' := by
  obtain ⟨⟨t, p, h1⟩, ⟨u, q, h2⟩⟩ := h
  exact ⟨⟨t, p, (hl.cell (cell_in h1)).trans h1⟩, ⟨u, q, (hl.cell (cell_in h2)).trans h2⟩⟩
theorem atoi_bad (s : ByteArray) (hlim : s.size ≤ 281474976710656) (h1 : ∀ v, Lib.atoiAll s.data.toList ≠ .ok v) (h2 : Lib.atoiAll s.data.toList ≠ .range) (ev : Value) (w : World) (hv : w.cell? ⟨5, 0, none⟩ = some ev) (hev : ev = .nilIface ∨ ∃ te pe, ev = .iface te pe) :
    Calls Tryz.prog 110 #[.string s] w fun e w' => ∃ u, e = .returned (.tuple #[.int .i64 0, u]) ∧ Le w w' := by
  have h := Any.strconv_Atoi_syntax Tryz.laysC172 s hlim (by
    cases h : Lib.atoiAll s.data.toList with
    | ok v => exact absurd h (h1 v)
    | range => exact absurd h h2
    | _ => rfl) ev w hv hev
  exact h.mono fun e w' ⟨N, he, _, _, hB⟩ => ⟨_, he, hB⟩
theorem atoi_any (s : ByteArray) (w : World) (hs : s.size ≤ 1048576) (hE : ErrW w) :
    Calls Tryz.prog 110 #[.string s] w fun e w' => ∃ u, e = .returned (.tuple #[.int .i64 (atI (bl s)), u]) ∧ Le w w' := by
  obtain ⟨⟨t, p, h1⟩, ⟨u, q, h2⟩⟩ := hE
  cases h : Lib.atoiAll s.data.toList with
  | ok v =>
    refine (Tryz.strconv_Atoi_ok s (by omega) v h w).mono ?_
    rintro e w' ⟨rfl, hw⟩
    refine ⟨_, by unfold atI; rw [show Lib.atoiAll (bl s) = .ok v from h], ?_⟩
    rcases hw with rfl | ⟨t, rfl⟩
    · exact Le.refl _
    · exact Lib.bytesWorld_below _ _ _
  | range =>
    refine (Tryz.strconv_Atoi_range s (by omega) h _ w h2 (.inr ⟨_, _, rfl⟩)).mono ?_
    rintro e w' ⟨N, rfl, -, -, hB⟩
    exact ⟨_, by unfold atI; rw [show Lib.atoiAll (bl s) = .range from h]; rfl, hB⟩
  | _ =>
    refine (atoi_bad s (by omega) (fun v => by rw [h]; exact fun e => nomatch e) (by rw [h]; exact fun e => nomatch e) _ w h1 (.inr ⟨_, _, rfl⟩)).mono ?_
    rintro e w' ⟨u, rfl, hB⟩
    exact ⟨u, by unfold atI; rw [show Lib.atoiAll (bl s) = _ from h], hB⟩
end

section
theorem dec_in (s : ByteArray) (pos : Nat) (h : pos < s.size) (ha : 128 ≤ (s[pos]'h).toNat) : ∀ j (hj : j < s.size), pos ≤ j → j < pos + (Utf8.decode s pos).2 → 128 ≤ (s[j]'hj).toNat := by
  intro j hj h1 h2
  obtain ⟨k, rfl⟩ : ∃ k, j = pos + k := ⟨j - pos, by omega⟩
  have hg : s.get! (pos + k) = s[pos + k]'hj := by
    simp [ByteArray.get!, getElem!_pos, hj]; rfl
  rw [← hg]
  by_cases h0 : k = 0
  · subst h0
    rw [get_at s pos h]; exact ha
  have hk : k < (Utf8.decode s pos).2 := by omega
  clear h1 h2 hg
  simp only [Utf8.decode] at hk
  have c1 : ∀ q : Nat, (decide (pos + q < s.size) && ((s.get! (pos + q)).toNat / 64 == 2)) = true → 128 ≤ (s.get! (pos + q)).toNat := fun q e => by
    rw [Bool.and_eq_true, beq_iff_eq] at e; omega
  split at hk
  · exact absurd hk (by dsimp only; omega)
  split at hk
  · rename_i e
    rw [Bool.and_eq_true] at e
    split at hk
    · have : k = 1 := by dsimp only at hk; omega
      subst this; exact c1 1 e.2
    · exact absurd hk (by dsimp only; omega)
  split at hk
  · rename_i e
    rw [Bool.and_eq_true, Bool.and_eq_true] at e
    split at hk
    · have : k = 1 ∨ k = 2 := by dsimp only at hk; omega
      rcases this with rfl | rfl
      · exact c1 1 e.1.2
      · exact c1 2 e.2
    · exact absurd hk (by dsimp only; omega)
  split at hk
  · rename_i e
    rw [Bool.and_eq_true, Bool.and_eq_true, Bool.and_eq_true] at e
    split at hk
    · have : k = 1 ∨ k = 2 ∨ k = 3 := by dsimp only at hk; omega
      rcases this with rfl | rfl | rfl
      · exact c1 1 e.1.1.2
      · exact c1 2 e.1.2
      · exact c1 3 e.2
    · exact absurd hk (by dsimp only; omega)
  · exact absurd hk (by dsimp only; omega)
theorem iter_le (w : World) (s : ByteArray) : Le w (w.iter s 0) := Le.new w (.stringIter s 0)
set_option maxHeartbeats 2000000 in
set_option maxRecDepth 100000 in
theorem phraseOf_any (s : ByteArray) (w : World) (hs : s.size ≤ 1048576) :
    Calls Tryz.prog 68 #[.string s] w fun e w' => ∃ v, e = .returned v ∧ Owd 9 w w' v ((splitL 32 (bl s)).map tb) ∧ Le w w' := by
  obtain ⟨i0, hi, hz0, hz1, hz2⟩ := info_parts infoStrT
  go_enter Tryz.func68, Tryz.ntmps68
  go_wp2
  go_loopw [3, 4] (fun v f wr => ∃ (L : List ByteArray) (a k : Nat), f = .int .i64 a ∧ a ≤ k ∧ a ≤ s.size ∧ L.length ≤ a ∧ Hid (∀ j (hj : j < s.size), a ≤ j → j < k → s[j] ≠ 32) ∧ Hid (L ++ (splitL 32 ((bl s).drop a)).map tb = (splitL 32 (bl s)).map tb) ∧ (∀ x ∈ L, Enc.ok x) ∧ wr.ownsRow (w.heap.size + 1) 9 1 v L.length (L.flatMap Enc.cells) ∧ wr.heap[w.heap.size]? = some (.stringIter s k) ∧ Le w wr) (fun _ _ wr => s.size - wr.iterPos w.heap.size)
  case atStart => exact ⟨[], 0, 0, rfl, Nat.le_refl _, Nat.zero_le _, Nat.le_refl _, fun j _ _ h => absurd h (by omega), rfl, by simp, World.ownsRow_nil _ _ _ _, World.iter_heap _ _ _, iter_le w s⟩
  case round =>
    obtain ⟨L, a, k, rfl, hak, has, hLa, HNO, HSP, hL, O, hk, LW⟩ := hrel
    obtain ⟨A2, c2, rfl⟩ := own_form O
    have HL := Lib.hid hL
    have hpk := iterPos_of hk
    have s1 := LW.size
    have zk : w.heap.size < wr.heap.size := (Array.getElem?_eq_some_iff.1 hk).1
    clear hL
    by_cases hlt : k < s.size
    · by_cases hasc : s[k].toNat < 128
      · have hnx : ∀ ty, (Instr.next (.pointer (some ⟨w.heap.size, 0, none⟩)) true ty).run Tryz.prog wr = _ := fun ty => Lib.run_next_ascii_at wr w.heap.size s k ty hk hlt hasc
        have hk1 := Lib.iterAt_heap wr w.heap.size s k (k + 1) hk
        have O1 := ownsRow_iterAt O (Nat.lt_succ_self _) s (k + 1)
        have L1 : Le w (wr.iterAt w.heap.size s (k + 1)) := Lib.below_iterAt LW (Nat.le_refl _) s (k + 1)
        have z1 : w.heap.size < (wr.iterAt w.heap.size s (k + 1)).heap.size := by rw [Lib.iterAt_size]; exact zk
        have hm1 := iterPos_of hk1
        clear hk LW O
        by_cases h32 : s[k] = 32
        · have hb : ((s[k].toNat : Int) == 32) = true := by rw [h32]; rfl
          have HE := Lib.hid (seg_split hak hlt HNO.out h32)
          have hx1 : (a : Int) ≤ (k : Int) := by omega
          have hx2 : (k : Int) ≤ (s.size : Int) := by omega
          have hw : IntKind.i64.wrap ((k : Int) + 1) = (k : Int) + 1 := IntWalk.i64_in _ (by omega)
          have hsz : (s.extract a k).size ≤ 1048576 := by rw [ByteArray.size_extract]; omega
          have hfo : Enc.ok (s.extract a k) := by show (s.extract a k).size ≤ 9223372036854775807; omega
          clear h32 HNO
          generalize wr.iterAt w.heap.size s (k + 1) = W1 at *
          have hbk := O1.lt
          go_wp2_with (at_builtin; refine wpList_append_sl rfl _ _ 108 rfl (w.heap.size + 1) 9 i0 _ 16 Tryz.underlying108 hi hz0 hz1 hz2 rfl _ _ L rfl (O1.alloc _) _ 1 1 [s.extract a k] rfl (sl_one (s.extract a k) rfl hfo rfl) (by unfold maxLen; omega) (by omega) (Nat.le_trans (by omega) (Le.new W1 _).size) ?_; intro v1 w7 O7 hg7 _; have LA := Le.new W1 (.cells #[.string (s.extract a k)] 9); have L7 := (L1.trans LA).grown hg7 (fun k hk => by have h := (hbk _ hk).1; omega); have hk7 := (hg7.block w.heap.size (Nat.lt_of_lt_of_le (by omega) LA.size) (fun e => by have h := (hbk _ e.symm).1; omega)).trans ((LA.block w.heap.size (by omega)).trans hk1); clear hg7 LA)
          go_roundw
          case rel =>
            refine ⟨L ++ [s.extract a k], k + 1, k + 1, by go_num, Nat.le_refl _, by omega, by simp; omega, fun j _ h1 h2 => absurd h1 (by omega), ?_, (fun y hy => by rcases List.mem_append.1 hy with h | h; exact HL.out y h; simp at h; subst h; exact hfo), by rw [List.length_append]; exact O7, hk7, L7⟩
            have := HSP.out
            rw [HE.out, List.map_cons, tb_bl] at this
            rw [List.append_assoc]; exact this
          case measure => rw [iterPos_of hk7, hpk]; omega
        · have hb : ((s[k].toNat : Int) == 32) = false := by
            rw [beq_eq_false_iff_ne]; intro e; exact h32 (UInt8.toNat_inj.1 (by show s[k].toNat = 32; omega))
          have HNO2 : Hid (∀ j (hj : j < s.size), a ≤ j → j < k + 1 → s[j] ≠ 32) := fun j hj h1 h2 => by
            rcases Nat.lt_or_ge j k with h | h
            · exact HNO.out j hj h1 h
            · have e : j = k := by omega
              subst e; exact h32
          clear h32 HNO
          generalize wr.iterAt w.heap.size s (k + 1) = W1 at *
          go_wp2
          go_roundw
          case rel => exact ⟨L, a, k + 1, rfl, by omega, has, hLa, HNO2.out, HSP.out, HL.out, O1, hk1, L1⟩
          case measure => rw [hm1, hpk]; omega
      · have hnx : ∀ ty, (Instr.next (.pointer (some ⟨w.heap.size, 0, none⟩)) true ty).run Tryz.prog wr = _ := fun ty => Lib.run_next_any_at wr w.heap.size s k ty hk hlt
        obtain ⟨hr, hwd⟩ := decode_high s k hlt (by omega)
        have hrl := decode_le s k
        have HIN := Lib.hid (dec_in s k hlt (by omega))
        generalize (Utf8.decode s k).1 = d at *
        generalize (Utf8.decode s k).2 = u at *
        have hk1 := Lib.iterAt_heap wr w.heap.size s k (k + u) hk
        have O1 := ownsRow_iterAt O (Nat.lt_succ_self _) s (k + u)
        have L1 : Le w (wr.iterAt w.heap.size s (k + u)) := Lib.below_iterAt LW (Nat.le_refl _) s (k + u)
        have hm1 := iterPos_of hk1
        have hb : ((d : Int) == 32) = false := by rw [beq_eq_false_iff_ne]; omega
        have HNO2 : Hid (∀ j (hj : j < s.size), a ≤ j → j < k + u → s[j] ≠ 32) := fun j hj h1 h2 => by
          rcases Nat.lt_or_ge j k with h | h
          · exact HNO.out j hj h1 h
          · intro e
            have := HIN.out j hj h h2
            rw [e] at this
            exact absurd this (by decide)
        clear hk LW O HNO HIN hasc
        generalize wr.iterAt w.heap.size s (k + u) = W1 at *
        go_wp2
        go_roundw
        case rel => exact ⟨L, a, k + u, rfl, by omega, has, hLa, HNO2.out, HSP.out, HL.out, O1, hk1, L1⟩
        case measure => rw [hm1, hpk]; omega
    · have hnx : ∀ ty, (Instr.next (.pointer (some ⟨w.heap.size, 0, none⟩)) true ty).run Tryz.prog wr = _ := fun ty => Lib.run_next_end_at wr w.heap.size s k ty hk hlt
      have HE := Lib.hid (seg_last (fun j hj h => HNO.out j hj h (by omega)))
      have hx2 : (a : Int) ≤ (s.size : Int) := by omega
      have hsz : (s.extract a s.size).size ≤ 1048576 := by rw [ByteArray.size_extract]; omega
      have hfo : Enc.ok (s.extract a s.size) := by show (s.extract a s.size).size ≤ 9223372036854775807; omega
      have hbk := O.lt
      clear HNO hk hpk
      go_wp2_with (at_builtin; refine wpList_append_sl rfl _ _ 108 rfl (w.heap.size + 1) 9 i0 _ 16 Tryz.underlying108 hi hz0 hz1 hz2 rfl _ _ L rfl (O.alloc _) _ 1 1 [s.extract a s.size] rfl (sl_one (s.extract a s.size) rfl hfo rfl) (by unfold maxLen; omega) (by omega) (Nat.le_trans (by omega) (Le.new wr _).size) ?_; intro v1 w7 O7 hg7 _; have LA := Le.new wr (.cells #[.string (s.extract a s.size)] 9); have L7 := (LW.trans LA).grown hg7 (fun k hk => by have h := (hbk _ hk).1; omega); clear hg7 LA)
      go_ret
      refine ⟨_, rfl, ⟨?_, ?_⟩, L7⟩
      · have := HSP.out
        rw [HE.out, List.map_cons, tb_bl] at this
        rw [← this, List.length_append]; exact own_mono O7 (by omega)
      · have := HSP.out
        rw [HE.out, List.map_cons, tb_bl] at this
        rw [← this]
        intro y hy
        rcases List.mem_append.1 hy with h | h
        · exact HL.out y h
        · simp at h; subst h; exact hfo
theorem atW_at {W : List (List UInt8)} {i : Nat} (h : i < W.length) : atW W i = W[i] := by unfold atW; simp [List.getD, h]
theorem atW_past {W : List (List UInt8)} {i : Nat} (h : ¬ i < W.length) : atW W i = [] := by unfold atW; simp [List.getD, h]
set_option maxRecDepth 100000 in
theorem at_any (A : Option Addr) (n c : Nat) (W : List (List UInt8)) (i : Nat) (w : World) (_hi : i ≤ 2) (S : Sl w A n c (W.map tb)) :
    Calls Tryz.prog 70 #[.slice A n c, .int .i64 i] w fun e w' => e = .returned (.string (tb (atW W i))) ∧ w = w' := by
  have hn := S.len
  rw [List.length_map] at hn
  go_enter Tryz.func70, Tryz.ntmps70
  by_cases h : i < W.length
  · obtain ⟨b, o, rfl, hb, k0⟩ := str_at S (k := i) (by rw [List.length_map]; exact h)
    rw [List.getElem_map] at k0
    have HA := Lib.hid (atW_at h)
    have h1 : ¬ (n : Int) ≤ (i : Int) := by omega
    have h2 : (i : Int) < (n : Int) := by omega
    obtain ⟨x, hx⟩ : ∃ x, tb W[i] = x := ⟨_, rfl⟩
    have HX : Hid (tb (atW W i) = x) := by show _ = _; rw [HA.out]; exact hx
    rw [hx] at k0
    clear HA hx
    clear S h
    go_wp2
    go_ret
    exact ⟨ret_str HX.out.symm, rfl⟩
  · have HA := Lib.hid (atW_past h)
    have h1 : (n : Int) ≤ (i : Int) := by omega
    clear S h
    go_wp2
    go_ret
    exact ⟨ret_str (by rw [HA.out]; rfl), rfl⟩
theorem atW_len {W : List (List UInt8)} {i m : Nat} (h : ∀ x ∈ W, x.length ≤ m) : (atW W i).length ≤ m := by
  by_cases hi : i < W.length
  · rw [atW_at hi]; exact h _ (List.getElem_mem hi)
  · rw [atW_past hi]; exact Nat.zero_le _
set_option maxRecDepth 100000 in
theorem wnumber_any (A : Option Addr) (n c : Nat) (W : List (List UInt8)) (i : Nat) (w : World) (hi : i ≤ 2) (S : Sl w A n c (W.map tb)) (hl : ∀ x ∈ W, x.length ≤ 1048576) (hE : ErrW w) :
    Calls Tryz.prog 71 #[.slice A n c, .int .i64 i] w fun e w' => e = .returned (.int .i64 (atI (atW W i))) ∧ Le w w' := by
  have h1 := atW_len (i := i) hl
  have HA := Lib.hid (at_any A n c W i w hi S)
  have HI := Lib.hid (atoi_any (tb (atW W i)) w (by rw [tb_size]; omega) hE)
  have eb : Hid (atI (bl (tb (atW W i))) = atI (atW W i)) := rfl
  rw [eb.out] at HI
  generalize tb (atW W i) = x at *
  generalize atI (atW W i) = y at *
  go_enter Tryz.func71, Tryz.ntmps71
  go_wp2_with fail
  refine HA.out.mono ?_
  rintro e w1 ⟨rfl, rfl⟩
  go_wp2_with fail
  refine HI.out.mono ?_
  rintro e w2 ⟨u, rfl, hle⟩
  go_wp2
  go_ret
  exact ⟨rfl, hle⟩
set_option maxRecDepth 100000 in
theorem wclass_any (A B : Option Addr) (n c m d : Nat) (W : List (List UInt8)) (xs : List Cls) (i : Nat) (w : World) (hi : i ≤ 2) (S : Sl w A n c (W.map tb)) (T : Sl w B m d xs) :
    Calls Tryz.prog 72 #[.slice A n c, .agg #[.slice B m d], .int .i64 i] w fun e w' => e = .returned (.int .i64 (findN xs (tb (atW W i)) 0)) ∧ Le w w' := by
  obtain ⟨x, hx⟩ : ∃ x, Hid (tb (atW W i) = x) := ⟨_, Lib.hid rfl⟩
  obtain ⟨y, hy⟩ : ∃ y, Hid (findN xs x 0 = y) := ⟨_, Lib.hid rfl⟩
  go_enter Tryz.func72, Tryz.ntmps72
  go_wp2_with fail
  obtain ⟨c0, z0, L0⟩ := box1 w (.slice B m d) 25
  have S1 := S.le L0
  have T1 := T.le L0
  generalize w.alloc (.cells #[.slice B m d] 25) = W1 at *
  have HA : Hid (∀ g : Ext W1, Calls Tryz.prog 70 #[.slice A n c, .int .i64 i] (W1.ext g) fun e w' => e = .returned (.string x) ∧ Le (W1.ext g) w') := fun g => (at_any A n c W i _ hi (S1.le (Le.ext W1 g))).mono fun e w' ⟨he, h⟩ => ⟨by rw [he, hx.out], h ▸ Le.refl _⟩
  have HC : Hid (∀ g : Ext W1, Calls Tryz.prog 59 #[.slice B m d, .string x] (W1.ext g) fun e w' => e = .returned (.int .i64 y) ∧ Le (W1.ext g) w') := fun g => (indexOfName_any B m d xs _ _ (T1.le (Le.ext W1 g))).mono fun e w' ⟨he, h⟩ => ⟨by rw [he, hy.out], h⟩
  have E0 := cell_ext z0 c0
  refine wp_region_ext (by kernel_rfl) (by kernel_rfl) ?_
  repeat (go_big_quiet_step (first | (go_at_call 70; exact Calls.ext_of (HA.out _)) | (go_at_call 59; exact Calls.ext_of (HC.out _))))
  refine wpQuiet_nil ?_
  intro _ hw'
  obtain ⟨gg, rfl⟩ := hw'
  have L2 := L0.trans (Le.ext W1 gg)
  generalize W1.ext gg = W2 at *
  go_wp2
  go_ret
  exact ⟨by rw [hx.out, hy.out]; rfl, L2⟩
end

section
/-- some blocks apart, nothing that was there has turned -/
structure GrB (S : Nat → Prop) (w w' : World) : Prop where
  os : w'.os = w.os
  tape : w'.tape = w.tape
  output : w'.output = w.output
  size : w.heap.size ≤ w'.heap.size
  block : ∀ k, k < w.heap.size → ¬ S k → w'.heap[k]? = w.heap[k]?
theorem GrB.refl (S : Nat → Prop) (w : World) : GrB S w w := ⟨rfl, rfl, rfl, Nat.le_refl _, fun _ _ _ => rfl⟩
theorem GrB.trans {S : Nat → Prop} {a b c : World} (h : GrB S a b) (k : GrB S b c) : GrB S a c := ⟨k.os.trans h.os, k.tape.trans h.tape, k.output.trans h.output, Nat.le_trans h.size k.size, fun i hi hs => (k.block i (Nat.lt_of_lt_of_le hi h.size) hs).trans (h.block i hi hs)⟩
theorem GrB.of_grown {S : Nat → Prop} {w w' : World} {r : Option Nat} (h : w.grownBy w' r) (hr : ∀ k, r = some k → S k) : GrB S w w' := ⟨h.os, h.tape, h.output, h.size, fun k hk hs => h.block k hk (fun e => hs (hr k e.symm))⟩
theorem GrB.of_le {S : Nat → Prop} {w w' : World} (h : Le w w') : GrB S w w' := ⟨h.os, h.tape, h.output, h.size, fun k hk _ => Below.block h k hk⟩
theorem Le.grB {S : Nat → Prop} {a w w' : World} (h : Le a w) (hg : GrB S w w') (hr : ∀ k, S k → a.heap.size ≤ k) : Le a w' :=
  ⟨hg.os.trans h.os, hg.tape.trans h.tape, hg.output.trans h.output, Nat.le_trans h.size hg.size, fun k hk => (hg.block k (Nat.lt_of_lt_of_le hk h.size) (fun e => by have := hr k e; omega)).trans (h.block k hk)⟩
theorem GrB.cell {S : Nat → Prop} {w w' : World} (hg : GrB S w w') {b o : Nat} {v : Value} (h : w.cell? ⟨b, o, none⟩ = some v) (hb : ¬ S b) : w'.cell? ⟨b, o, none⟩ = some v :=
  (World.cell?_of_block (a := ⟨b, o, none⟩) (hg.block b (World.block_lt_of_cell? w ⟨b, o, none⟩ h) hb)).trans h
theorem own_grB {S : Nat → Prop} {w w' : World} {base : Nat} {e : TypeId} {size : Nat} {v : Value} {n : Nat} {xs : List Value} (h : w.ownsRow base e size v n xs) (hg : GrB S w w') (hne : ∀ k, v.ownBlock = some k → ¬ S k) : w'.ownsRow base e size v n xs := by
  refine ⟨h.1, ?_⟩
  rcases h.2 with hn | ⟨g, cap, cur, rfl, hb, hgg, rest⟩
  · exact .inl hn
  · refine .inr ⟨g, cap, cur, rfl, hb, ?_, rest⟩
    rw [hg.block g (Array.getElem?_eq_some_iff.1 hgg).1 (hne g rfl)]
    exact hgg
theorem Sl.grB {α : Type} [Enc α] {S : Nat → Prop} {w w' : World} {A : Option Addr} {n cap : Nat} {xs : List α} (h : Sl w A n cap xs) (hg : GrB S w w') (hne : 0 < n → ∀ a, A = some a → ¬ S a.block) : Sl w' A n cap xs :=
  ⟨h.len, h.cap_, h.max, h.ok, fun hn => by
    obtain ⟨b, off, e, hlt, hc⟩ := h.at_ hn
    exact ⟨b, off, e, Nat.lt_of_lt_of_le hlt hg.size, fun j u hu => (World.cell?_of_block (a := ⟨b, off + j, none⟩) (hg.block b hlt (hne hn _ e))).trans (hc j u hu)⟩⟩
end
end Go.Proofs.YtkcnjoikdalgjaaGreatDoor
