/- one text of ItV, ItW, GpI, GpW, LG, LGl, SlO -/
import Derived.Test.YtpkkkpfanedieaaCk15
import Derived.Test.YtpkkkpfanedieaaCk14
import Derived.Test.YtpkkkpfanedieaaCk16
import Derived.Test.YtpkkkpfanedieaaCk17
import Derived.Test.YtpkkkpfanedieaaCk12
import Derived.Test.YtpkkkpfanedieaaCk5
import Derived.Test.YtpkkkpfanedieaaRows
import Derived.Test.YtpkkkpfanedieaaCk2
namespace Go.Proofs.Ytpkkkpfanedieaa
open Go.RowKit
set_option linter.unusedVariables false
section
open Go.RowKit Go.Shelf
attribute [local go_sem] Oper.semAt_some
theorem cell_one_newL (w : World) (x : Value) (t : TypeId) : ∀ j u, [x][j]? = some u → (w.alloc (.cells #[x] t)).cell? ((⟨w.heap.size, 0, none⟩ : Addr).add j) = some u := by
  intro j u hj
  match j, hj with
  | 0, hj => simp at hj; subst hj; simp [Addr.add]
  | _ + 1, hj => simp at hj
/-- a piece as a slice -/
def hdrK (g : List Prt) (b off C x : Nat) : Hdr := ⟨some ⟨b, off + x * 4, none⟩, endN g x - x, C - x⟩
set_option maxRecDepth 100000 in
set_option maxHeartbeats 4000000 in
theorem appendKids_any (Bg b off C : Nat) (g : List Prt) (h1 : 0 < g.length) (hm : g.length ≤ 16) (w : World) (S : Sl w (some ⟨b, off, none⟩) g.length C g) (hBg : w.cell? ⟨Bg, 0, none⟩ = some (.slice (some ⟨b, off, none⟩) g.length C)) (zBg : Bg < w.heap.size) :
    Calls Try.prog 85 #[.slice none 0 0, .func (.func 74) #[] #[.pointer (some ⟨Bg, 0, none⟩)]] w fun e w' => ∃ v, e = .returned v ∧ Owd 26 w w' v ((kdS g g.length 1 g.length).map (hdrK g b off C)) ∧ Le w w' := by
  obtain ⟨i0, hi, hz0, hz1, hz2⟩ := info_parts infoPartSl'
  have SB : SlB w.heap.size w (some ⟨b, off, none⟩) g.length C g := ⟨S, fun hn a e => by obtain ⟨b, off, e2, hb, -⟩ := S.at_ hn; rw [e2] at e; cases e; exact hb⟩
  refine (callsIn_wide (n := 6)).1 ?_
  refine callsIn_of_wp_marks Try.func85 rfl trivial ?_ rfl
  simp only [Try.ntmps85, List.size_toArray, List.length_cons, List.length_nil, Nat.reduceAdd, Nat.reduceSub, Array.replicate_succ, Array.replicate_zero, List.push_toArray, List.append_toArray, List.nil_append, List.cons_append]
  gi_wp2
  have bO := Boxed.new w 45 (.slice none 0 0)
  have hB0 : Le w (w.alloc (.cells #[.slice none 0 0] 45)) := Le.new w _
  have hsz : (w.alloc (.cells #[.slice none 0 0] 45)).heap.size = w.heap.size + 1 := by simp
  have dBg := (hB0.cell zBg).trans hBg
  generalize w.alloc (.cells #[.slice none 0 0] 45) = W0 at *
  refine wpIn_rangeFunc_ownH rfl (by omega) (gf := 74) (lb := #[.pointer (some ⟨Bg, 0, none⟩)]) rfl trivial (enters_of Try.func74 (by kernel_rfl) rfl)
    (kids_stops (6 - 1) (by omega) Bg w.heap.size b off C g 0 g.length hm h1 (Nat.le_refl _) (fun i _ h2 => endN_le h2) (fun k => 0 < k ∧ k < g.length) (fun i h1 h2 => ⟨h1, h2⟩) W0 (by omega) (by omega) dBg (SB.below hB0)) KpB.trans (kpB_b (by omega) (by omega)) (Below.refl _ _) (fun _ => rfl)
    (fun pre W => (∃ v, Boxed W w.heap.size 45 v ∧ W.ownsRow w.heap.size 26 1 v pre.length (((pre.map (·.1)).map (hdrK g b off C)).flatMap Enc.cells) ∧ True) ∧ Below w.heap.size w W)
    (fun _ _ _ => False)
    (OwnFrom.and (Own.from (holdsRow_own w.heap.size w.heap.size 45 26 1 (fun (pre : List { x : Nat // 0 < x ∧ x < g.length }) => pre.length) (fun pre => ((pre.map (·.1)).map (hdrK g b off C)).flatMap Enc.cells) (fun _ _ => True)) _) (ownFrom_below (Nat.le_refl _) (by omega)))
    (fun _ _ _ _ _ hs _ _ => hs)
    ⟨⟨_, bO, World.ownsRow_nil _ _ _ _, trivial⟩, hB0⟩
    (fun x a' _ => a' = { tmps := #[.slice none 0 0, .func (.func 74) #[] #[.pointer (some ⟨Bg, 0, none⟩)], .pointer (some ⟨w.heap.size, 0, none⟩), undef, .slice none 0 0, .slice (some ⟨b, off + x.1 * 4, none⟩) (endN g x.1 - x.1) (C - x.1), .func (.func 74) #[] #[.pointer (some ⟨Bg, 0, none⟩)], .slice (some ⟨b, off + x.1 * 4, none⟩) (endN g x.1 - x.1) (C - x.1), undef, undef, undef, undef, undef], defers := [] })
    (fun _ _ _ _ _ _ hs _ _ => hs)
    ?assign ?body ?done ?stop
  case assign =>
    rintro l pre x W' K hI' hK
    gi_wp2
    exact hK _ _ (KeepsFrom.refl _ _) (KpB.refl _ _ _) hI' rfl
  case body =>
    rintro l pre x a' W hl ⟨r, hr⟩ ⟨⟨v, hv, hrow, -⟩, hB⟩ rfl hlt
    have hc := hv.cell
    gi_wp2_with (gi_at_builtin; refine wpListIn_append_own _ rfl _ _ 45 rfl w.heap.size 26 i0 _ 1 24 Try.underlying45 hi hz0 hz1 hz2 rfl (by decide) _ _ _ rfl (hrow.alloc _) ⟨W.heap.size, 0, none⟩ 1 1 [.slice (some ⟨b, off + x.1 * 4, none⟩) (endN g x.1 - x.1) (C - x.1)] rfl rfl (cell_one_newL _ _ _) (by intro u hu; simp at hu; subst hu; rfl) (by unfold maxLen; omega) (by omega) (by have := hB.size; simp; omega) ?_; intro v' w1 hown' hgrow _; obtain ⟨g', cap', rfl⟩ := ownsRow_succ hown'; obtain ⟨hv1, hv2, hr2, hk2, hb2⟩ := hv.appended (by decide) hrow hB.size (Nat.le_refl _) hown' hgrow; have hc1 := hv1.cell; have hf1 := hv1.frozen)
    refine ⟨hk2.from _, ⟨hb2.size, fun k hk => ?_⟩, ⟨_, hv2, ?_, trivial⟩, hB.trans hb2⟩
    · rcases hk with hk | hk
      · exact hb2.block k hk
      · exact hb2.block k (by omega)
    · rw [List.map_append, List.map_append, List.flatMap_append, List.length_append]; exact hr2
  case done =>
    rintro D ys W hD hz ⟨⟨v, hv, hrow, -⟩, hB⟩ hK
    have hc := hv.cell
    have hz' : ys.map (·.1) = kdS g g.length 1 g.length := hz
    have hll : ys.length = ((kdS g g.length 1 g.length).map (hdrK g b off C)).length := by rw [← hz', List.length_map, List.length_map]
    rw [hz', hll] at hrow
    have HR := Lib.hid hrow
    clear hrow hll
    gi_wp2
    refine ⟨by simp, .inl ⟨_, _, rfl, run_takeDeferred hK, ?_⟩⟩
    exact ⟨_, results_tmp rfl _ _ _, v, rfl, ⟨ownsRow_putObj HR.out _ hK rfl, fun _ _ => trivial⟩, hB.trans (belowK_b (w := w) (Nat.le_refl _) W D _ _ (by omega) hK rfl rfl)⟩
  case stop =>
    rintro D c pre W _ _ h _
    exact h.elim
end

section
open Go.RowKit Go.Shelf
theorem flat_bound {t : Fo} {xs : List Cls} (h : GTr xs t) : ∀ p ∈ flat 0 t, 0 ≤ p.depth ∧ p.depth ≤ 5 := fun p hp => by
  have h1 := flat_ge t 0 p hp
  have h2 := flat_lt t 0 p hp
  have := h.ht
  omega
theorem take_flat_len {L : List (List Prt)} (k : Nat) : ((L.take k).flatten).length ≤ L.flatten.length := by
  have : L.flatten = (L.take k).flatten ++ (L.drop k).flatten := by rw [← List.flatten_append, List.take_append_drop]
  rw [this, List.length_append]; omega
theorem ok_app {α : Type} [Enc α] {A B : List α} (h1 : ∀ x ∈ A, Enc.ok x) (h2 : ∀ x ∈ B, Enc.ok x) : ∀ x ∈ A ++ B, Enc.ok x := fun x hx => (List.mem_append.1 hx).elim (h1 x) (h2 x)
set_option maxRecDepth 100000 in
set_option maxHeartbeats 4000000 in
theorem sSimple_any (xs : List Cls) : ∀ (n : Nat) (t : Fo), szF t ≤ n → GTr xs t → ∀ (B : Option Addr) (m c : Nat) (w : World), Sl w B m c (flat 0 t) →
    Calls Try.prog 60 #[.slice B m c] w fun e w' => ∃ v, e = .returned v ∧ Owd 42 w w' v (flat 0 (simpF t)) ∧ Le w w' := by
  intro n
  induction n with
  | zero => intro t hn h; exfalso; have := szF_kids h.one; omega
  | succ n ih =>
    intro t hn h B m c w hG
    obtain ⟨i1, hi1, hy0, hy1, hy2⟩ := info_parts infoPrtS
    have hsz := szF_kids h.one
    have hK := kidsL_flat h.one
    have hkid : ∀ r ∈ rootsF (kidsF t), GTr xs r ∧ szF r ≤ n := fun r hr => ⟨h.kid hr, by have := szF_root r hr; omega⟩
    have HKID := Lib.hid hkid
    clear hkid
    have hm0 : 0 < m := by have h1 := hG.len; rw [flatF_len] at h1; omega
    go_enter Try.func60, Try.ntmps60
    go_wp2_with fail
    refine (sKids_any B m c xs (flat 0 t) h.good _ hG).mono ?_
    rintro e w1 ⟨v, hs, rfl, O, hle⟩
    rw [hK] at O
    have hR := O.rd (by decide)
    obtain ⟨A1, c1, rfl, S1⟩ := O.form
    have hlen := O.len
    have hG1 := hG.le hle
    clear O hK
    cases hk : oneB (kidsF t)
    · have hne : ((((rootsF (kidsF t)).map (flat 0)).length : Int) == 1) = false := by
        have := roots_len (kidsF t)
        rw [hk] at this
        have := of_decide_eq_false this
        rw [List.length_map, beq_eq_false_iff_ne]; omega
      obtain ⟨RS, HRS⟩ : ∃ RS, Hid (rootsF (kidsF t) = RS) := ⟨_, rfl⟩
      rw [HRS.out] at HKID S1 hR hne hlen ⊢
      have HF : Hid (flat 0 (simpF t) = gAt (flat 0 t) 0 :: (RS.map (fun r => flat 1 (simpF r))).flatten) := by
        show _ = _
        rw [simp_more h.one hk 0, HRS.out]; rfl
      have hlF : (gAt (flat 0 t) 0 :: (RS.map (fun r => flat 1 (simpF r))).flatten).length ≤ 16 := by
        rw [← HF.out, flatF_len]
        have := szF_simp t; have := h.sz; omega
      rw [List.length_cons] at hlF
      rw [List.length_map] at S1 hne hlen
      have h0 : 0 < (flat 0 t).length := by rw [flatF_len]; omega
      obtain ⟨bz, oz, rfl, hb, p0, p1, p2, p3, -⟩ := hG1.prt_at h0
      simp only [Nat.zero_mul, Nat.add_zero] at p0 p1 p2 p3
      have hg0 : gAt (flat 0 t) 0 = (flat 0 t)[0] := gAt_at h0
      rw [← hg0] at p0 p1 p2 p3
      have hok0 : Enc.ok (gAt (flat 0 t) 0) := by rw [hg0]; exact hG1.ok _ (List.getElem_mem h0)
      obtain ⟨P0, HP0⟩ : ∃ P0, Hid (gAt (flat 0 t) 0 = P0) := ⟨_, rfl⟩
      rw [HP0.out] at p0 p1 p2 p3 hok0 HF
      have O0 := own_oneP w1 P0 (b := w1.heap.size) (Nat.le_refl _)
      have LW := Le.new w1 (.cells #[.int .i64 P0.depth, .bool P0.group, .int .i64 P0.cls, .int .i64 P0.code] 42)
      have hhl1 : hs.length ≤ RS.length := by omega
      have hhl2 : RS.length ≤ hs.length := by omega
      have hn16 : RS.length ≤ 9223372036854775807 := S1.n_le
      clear hk hg0 hG hlen h0
      rw [List.length_map]
      go_wp2
      generalize w1.alloc (.cells #[.int .i64 P0.depth, .bool P0.group, .int .i64 P0.cls, .int .i64 P0.code] 42) = W0 at *
      go_loopw [4, 5] (fun v i wr => ∃ k : Nat, k ≤ RS.length ∧ i = .int .i64 k ∧ Owd 42 w1 wr v (P0 :: ((RS.take k).map (fun r => flat 1 (simpF r))).flatten) ∧ Le w1 wr) (fun _ i _ => RS.length - (intOf i).toNat)
      case atStart => exact ⟨0, Nat.zero_le _, rfl, ⟨O0, fun x hx => by rw [List.mem_singleton.1 hx]; exact hok0⟩, LW⟩
      case round =>
        obtain ⟨k, hk1, rfl, O1, L1⟩ := hrel
        clear O0 LW
        by_cases hlt : k < RS.length
        · have hlh : k < hs.length := by omega
          obtain ⟨b, off, rfl, hb2, hcell⟩ := (S1.le L1).hdr_at hlh
          have sk := (hR.le L1).each k _ _ (List.getElem?_eq_getElem hlh) (by rw [List.getElem?_map, List.getElem?_eq_getElem hlt]; rfl)
          obtain ⟨hgt, hszk⟩ := HKID.out RS[k] (List.getElem_mem hlt)
          have hIH := ih RS[k] hszk hgt _ _ _ wr sk
          have HST : Hid (P0 :: ((RS.take (k + 1)).map (fun r => flat 1 (simpF r))).flatten = (P0 :: ((RS.take k).map (fun r => flat 1 (simpF r))).flatten) ++ flat 1 (simpF RS[k])) := by
            show _ = _
            rw [List.take_succ_eq_append_getElem hlt, List.map_append, List.flatten_append, List.map_singleton, List.flatten_singleton]; rfl
          have hl1 : (P0 :: ((RS.take k).map (fun r => flat 1 (simpF r))).flatten).length ≤ 16 := by
            rw [List.length_cons, List.map_take]
            have := take_flat_len (L := RS.map (fun r => flat 1 (simpF r))) k
            omega
          have hb5 := flat_bound hgt.simp
          have hl3 : (flat 0 (simpF RS[k])).length ≤ 16 := by rw [flatF_len]; exact hgt.simp.sz
          have HIH := Lib.hid hIH
          obtain ⟨D, HD⟩ : ∃ D, Hid (P0 :: ((RS.take k).map (fun r => flat 1 (simpF r))).flatten = D) := ⟨_, rfl⟩
          rw [HD.out] at HST O1 hl1
          clear hIH sk
          have hwl : IntKind.i64.wrap ((k : Int) + 1) = (k : Int) + 1 := IntWalk.i64_in _ (by omega)
          go_wp2_with fail
          refine HIH.out.mono ?_
          rintro e w4 ⟨v2, rfl, O2, hl4⟩
          obtain ⟨A2, c2, rfl, S2, -⟩ := O2.form (by decide)
          go_wp2_with fail
          refine (deeper_any _ _ _ (flat 0 (simpF RS[k])) 1 _ S2 (by omega) (fun p hp => by have := hb5 p hp; omega) (by omega)).mono ?_
          rintro e w5 ⟨v3, rfl, O3, hl5⟩
          rw [flat_shift, show (0 : Int) + 1 = 1 from rfl] at O3
          obtain ⟨A3, c3, rfl, S3, -⟩ := O3.form (by decide)
          have hl6 : (flat 1 (simpF RS[k])).length ≤ 16 := by rw [flatF_len]; exact hgt.simp.sz
          have O5 := (O1.le hl4).le hl5
          have L5 := (L1.trans hl4).trans hl5
          have hok5 := Lib.hid (ok_app O5.ok S3.ok)
          have hs5 := L5.size
          clear O1 O2 S2 O3
          obtain ⟨E, HE⟩ : ∃ E, Hid (flat 1 (simpF RS[k]) = E) := ⟨_, Lib.hid rfl⟩
          rw [HE.out] at S3 hl6 hok5 HST
          rw [HE.out]
          go_wp2_with (at_builtin; refine wpList_append_sl rfl _ _ 26 rfl w1.heap.size 42 i1 _ 32 Try.underlying26 hi1 hy0 hy1 hy2 rfl _ D.length D rfl O5.row A3 E.length c3 E rfl S3 (by unfold maxLen; omega) (by omega) hs5 ?_; intro v6 w6 O6 hg6 _)
          have L6 := L5.grown hg6 (fun q hq => (O5.row.lt q hq).1)
          have H6 : Hid (Owd 42 w1 w6 v6 (P0 :: ((RS.take (k + 1)).map (fun r => flat 1 (simpF r))).flatten)) := by
            show Owd _ _ _ _ _
            rw [HST.out]
            exact ⟨by rw [List.length_append]; exact O6, hok5.out⟩
          clear O6 hg6 O5
          go_roundw
          case rel => exact ⟨k + 1, by omega, by go_num, H6.out, L6⟩
          case measure => simp [intOf]; omega
        · obtain rfl : k = RS.length := by omega
          rw [List.take_length, ← HF.out] at O1
          have HO := Lib.hid (O1.mono hle)
          clear O1
          go_wp2
          go_ret
          exact ⟨_, rfl, HO.out, hle.trans L1⟩
    · have h1 := oneB_iff.1 hk
      rw [one_roots h1] at S1 hR hlen HKID ⊢
      obtain ⟨hgt, hszk⟩ := HKID.out (kidsF t) (List.mem_singleton.2 rfl)
      have hlh : 0 < hs.length := by rw [hlen]; exact Nat.zero_lt_one
      obtain ⟨b, off, rfl, hb2, hcell⟩ := S1.hdr_at hlh
      have sk := hR.each 0 _ _ (List.getElem?_eq_getElem hlh) rfl
      rw [Nat.add_zero] at hcell
      have HIH := Lib.hid (ih (kidsF t) hszk hgt _ _ _ w1 sk)
      have HF := Lib.hid (simp_one h.one hk 0)
      clear hlen hk sk hR S1
      go_wp2_with fail
      refine HIH.out.mono ?_
      rintro e w4 ⟨v2, rfl, O2, hl4⟩
      rw [← HF.out] at O2
      have HO := Lib.hid (O2.mono hle)
      clear O2
      go_wp2
      go_ret
      exact ⟨_, rfl, HO.out, hle.trans hl4⟩
theorem rd_kids {w : World} {b off m c : Nat} {g : List Prt} (S : Sl w (some ⟨b, off, none⟩) m c g) : Rd2 w ((kdS g g.length 1 g.length).map (hdrK g b off c)) ((kdS g g.length 1 g.length).map (piece g)) := by
  refine ⟨by rw [List.length_map, List.length_map], fun i h l e f => ?_⟩
  rw [List.getElem?_map] at e f
  cases hx : (kdS g g.length 1 g.length)[i]? with
  | none => rw [hx] at e; cases e
  | some x =>
    rw [hx] at e f
    obtain rfl : hdrK g b off c x = h := by simpa using e
    obtain rfl : piece g x = l := by simpa using f
    exact S.piece (kdS_lt g _ _ x (List.mem_of_getElem? hx))
theorem shift_one (P : Prt) (d e : Int) (h : P.depth = d) : shiftL [P] (e - d) = [{ P with depth := e }] := by
  unfold shiftL
  rw [List.map_singleton, h, show d + (e - d) = e by omega]
theorem head_depth {t : Fo} (h : OneF t) (d e : Int) : gAt (flat e t) 0 = { gAt (flat d t) 0 with depth := e } ∧ (gAt (flat d t) 0).depth = d := by cases h <;> exact ⟨rfl, rfl⟩
set_option maxRecDepth 100000 in
set_option maxHeartbeats 4000000 in
theorem collectKids_any (Bg b off C : Nat) (g : List Prt) (h1 : 0 < g.length) (hm : g.length ≤ 16) (w : World) (S : Sl w (some ⟨b, off, none⟩) g.length C g) (hBg : w.cell? ⟨Bg, 0, none⟩ = some (.slice (some ⟨b, off, none⟩) g.length C)) (zBg : Bg < w.heap.size) :
    Calls Try.prog 75 #[.func (.func 74) #[] #[.pointer (some ⟨Bg, 0, none⟩)]] w fun e w' => ∃ v, e = .returned v ∧ Owd 26 w w' v ((kdS g g.length 1 g.length).map (hdrK g b off C)) ∧ Le w w' := by
  go_enter Try.func75, Try.ntmps75
  go_wp2_with fail
  refine (appendKids_any Bg b off C g h1 hm w S hBg zBg).mono ?_
  rintro e w2 ⟨v, rfl, O, hle⟩
  have HO := Lib.hid O
  clear O
  go_wp2
  go_ret
  exact ⟨_, rfl, HO.out, hle⟩
set_option maxRecDepth 100000 in
set_option maxHeartbeats 4000000 in
theorem iSimplify_any (xs : List Cls) : ∀ (n : Nat) (t : Fo), szF t ≤ n → GTr xs t → ∀ (d dep : Int), 0 ≤ d → d + szF t ≤ 50 → 0 ≤ dep → dep + szF t ≤ 50 → ∀ (b off m c : Nat) (w : World), Sl w (some ⟨b, off, none⟩) m c (flat d t) →
    Calls Try.prog 59 #[.slice (some ⟨b, off, none⟩) m c, .int .i64 dep] w fun e w' => ∃ v, e = .returned v ∧ Owd 42 w w' v (flat dep (simpF t)) ∧ Le w w' := by
  intro n
  induction n with
  | zero => intro t hn h; exfalso; have := szF_kids h.one; omega
  | succ n ih =>
    intro t hn h d dep hd0 hd1 hp0 hp1 b off m c w hG
    obtain ⟨i1, hi1, hy0, hy1, hy2⟩ := info_parts infoPrtS
    have hsz := szF_kids h.one
    have hK := kids_pieces h.one d
    have hkid : ∀ r ∈ rootsF (kidsF t), GTr xs r ∧ szF r ≤ n ∧ szF r + 1 ≤ szF t := fun r hr => ⟨h.kid hr, by have := szF_root r hr; omega, by have := szF_root r hr; omega⟩
    have HKID := Lib.hid hkid
    clear hkid
    have hlm := hG.len
    have hlf := flatF_len t d
    have hsz16 := h.sz
    have hm0 : 0 < m := by omega
    have hm16 : (flat d t).length ≤ 16 := by omega
    have h00 : 0 < (flat d t).length := by omega
    have hc1 : 1 ≤ c := by have := hG.cap_; omega
    have hc1i : (1 : Int) ≤ (c : Int) := by omega
    obtain ⟨b0, y0, hl0⟩ := box1 w (.slice (some ⟨b, off, none⟩) (flat d t).length c) 26
    have HLM := Lib.hid hlm
    rw [← hlm] at hG ⊢
    clear hlm hlf
    go_enter Try.func59, Try.ntmps59
    go_wp2_with fail
    refine (callsIn_wide (n := 6)).1 ?_
    refine (kids_in Fence.wide 6 trivial rfl _ _ _ _).mono ?_
    rintro e w3 ⟨rfl, rfl⟩
    have hG0 := hG.le hl0
    go_wp2_with fail
    generalize w.alloc (.cells #[.slice (some ⟨b, off, none⟩) (flat d t).length c] 26) = w0 at *
    refine (collectKids_any _ b off c (flat d t) h00 hm16 w0 hG0 b0 y0).mono ?_
    rintro e w1 ⟨v, rfl, O, hle⟩
    have hG1 := hG0.le hle
    have hR := rd_kids hG1
    rw [hK] at hR
    have hL1 := hl0.trans hle
    obtain ⟨hs, HHS⟩ : ∃ hs, Hid ((kdS (flat d t) (flat d t).length 1 (flat d t).length).map (hdrK (flat d t) b off c) = hs) := ⟨_, Lib.hid rfl⟩
    rw [HHS.out] at O hR
    obtain ⟨A1, c1, rfl, S1, -⟩ := O.form (by decide)
    have hlen := hR.len
    rw [List.length_map] at hlen
    clear O hK HHS
    cases hk : oneB (kidsF t)
    · have hne : ((hs.length : Int) == 1) = false := by
        have := roots_len (kidsF t)
        rw [hk] at this
        have := of_decide_eq_false this
        rw [beq_eq_false_iff_ne]; omega
      obtain ⟨RS, HRS⟩ : ∃ RS, Hid (rootsF (kidsF t) = RS) := ⟨_, Lib.hid rfl⟩
      rw [HRS.out] at HKID hR hlen
      obtain ⟨hd1', hd2'⟩ := head_depth h.one d dep
      have HF : Hid (flat dep (simpF t) = gAt (flat dep t) 0 :: (RS.map (fun r => flat (dep + 1) (simpF r))).flatten) := by
        show _ = _
        rw [simp_more h.one hk dep, HRS.out]
      have hlF : (gAt (flat dep t) 0 :: (RS.map (fun r => flat (dep + 1) (simpF r))).flatten).length ≤ 16 := by
        rw [← HF.out, flatF_len]
        have := szF_simp t; omega
      rw [List.length_cons] at hlF
      obtain ⟨bz, oz, e1, hb, p0, -⟩ := hG1.prt_at h00
      cases e1
      simp only [Nat.zero_mul, Nat.add_zero] at p0
      have hg0 : gAt (flat d t) 0 = (flat d t)[0] := gAt_at h00
      rw [← hg0, hd2'] at p0
      have htk : (flat d t).take 1 = [gAt (flat d t) 0] := by
        have := List.take_succ_eq_append_getElem h00
        rw [hg0]; simpa using this
      have ST := hG1.take_ 1 (by omega)
      rw [htk] at ST
      have hhl1 : hs.length ≤ RS.length := by omega
      have hhl2 : RS.length ≤ hs.length := by omega
      have hn16 : hs.length ≤ 9223372036854775807 := S1.n_le
      have hws : IntKind.i64.wrap (dep - d) = dep - d := IntWalk.i64_in _ (by omega)
      have hwp : IntKind.i64.wrap (dep + 1) = dep + 1 := IntWalk.i64_in _ (by omega)
      have HD1 := Lib.hid hd1'
      have HSO := Lib.hid (shift_one (gAt (flat d t) 0) d dep hd2')
      clear hk hg0 hG hlen hd1' htk
      go_wp2_with fail
      refine wp_region_noPanic ?_
      refine wp_region_Z (fun w' => w'.cell? ⟨b, off, none⟩ = some (.int .i64 d)) [] (by kernel_rfl) ?_
      have q1 : w1.drew.cell? ⟨b, off, none⟩ = some (.int .i64 d) := p0
      have ST1 := ST.le (Le.refl w1).drew
      have S2 := S1.le (Le.refl w1).drew
      have R2 := hR.le (Le.refl w1).drew
      have hb2 : b < w1.drew.heap.size := hb
      have hL2 := hL1.drew
      clear hR S1 p0 ST
      generalize w1.drew = V at *
      refine wpAnyZ_take (i := 0) (v := ?_) rfl (by kernel_rfl) (fun _ _ _ h => h) (Or.inl ⟨by rfl, ?_⟩) (q1) ?_
      rotate_left 1
      · (intro w hSw; (try dsimp only at hSw); go_simp; try with_reducible rfl)
      try simp only [Act.put, List.setIfInBounds_toArray, List.set_cons_zero, List.set_cons_succ]
      refine wpAnyZ_take (i := 1) (v := ?_) rfl (by kernel_rfl) (fun _ _ _ h => h) (Or.inl ⟨by rfl, ?_⟩) (q1) ?_
      rotate_left 1
      · (intro w hSw; (try dsimp only at hSw); go_simp; try with_reducible rfl)
      try simp only [Act.put, List.setIfInBounds_toArray, List.set_cons_zero, List.set_cons_succ]
      refine wpAnyZ_take (i := 2) (v := ?_) rfl (by kernel_rfl) (fun _ _ _ h => h) (Or.inl ⟨by rfl, ?_⟩) (q1) ?_
      rotate_left 1
      · (intro w hSw; (try dsimp only at hSw); go_simp; try with_reducible rfl)
      try simp only [Act.put, List.setIfInBounds_toArray, List.set_cons_zero, List.set_cons_succ]
      refine wpAnyZ_take (i := 3) (v := ?_) rfl (by kernel_rfl) (fun _ _ _ h => h) (Or.inl ⟨by rfl, ?_⟩) (q1) ?_
      rotate_left 1
      · (intro w hSw; (try dsimp only at hSw); go_simp; try with_reducible rfl)
      try simp only [Act.put, List.setIfInBounds_toArray, List.set_cons_zero, List.set_cons_succ]
      refine wpAnyZ_take (i := 4) (v := ?_) rfl (by kernel_rfl) (fun _ _ _ h => h) (Or.inl ⟨by rfl, ?_⟩) (q1) ?_
      rotate_left 1
      · (intro w hSw; (try dsimp only at hSw); go_simp; try with_reducible rfl)
      try simp only [Act.put, List.setIfInBounds_toArray, List.set_cons_zero, List.set_cons_succ]
      refine wpAnyZ_take (i := 5) (v := ?_) rfl (by kernel_rfl) (fun _ _ _ h => h) (Or.inl ⟨by rfl, ?_⟩) (q1) ?_
      rotate_left 1
      · (intro w hSw; (try dsimp only at hSw); go_simp; try with_reducible rfl)
      try simp only [Act.put, List.setIfInBounds_toArray, List.set_cons_zero, List.set_cons_succ]
      refine wpAnyZ_take (i := 6) (v := ?_) rfl (by kernel_rfl) (fun _ _ _ h => h) (Or.inl ⟨by rfl, ?_⟩) (q1) ?_
      rotate_left 1
      · (intro w hSw; (try dsimp only at hSw); go_simp; try with_reducible rfl)
      try simp only [Act.put, List.setIfInBounds_toArray, List.set_cons_zero, List.set_cons_succ]
      refine wpAnyZ_take (i := 7) (v := ?_) rfl (by kernel_rfl) (fun _ _ _ h => h) (Or.inl ⟨by rfl, ?_⟩) (q1) ?_
      rotate_left 1
      · (intro w hSw; (try dsimp only at hSw); go_simp; try with_reducible rfl)
      try simp only [Act.put, List.setIfInBounds_toArray, List.set_cons_zero, List.set_cons_succ]
      refine wpAnyZ_one (i := 8) (by kernel_rfl) (ReadyZ.mk rfl (fun K hK => ?_))
      go_simp
      go_at_call 55
      refine (shiftParts_any _ _ _ [gAt (flat d t) 0] (dep - d) _ ST1 (by omega) (fun p hp => by rw [List.mem_singleton.1 hp, hd2']; omega) (by omega)).mono ?_
      rintro e V2 ⟨u, rfl, O0, hl2⟩
      rw [HSO.out, ← HD1.out] at O0
      refine hK.out _ _ (fun _ => (hl2.cell hb2).trans q1) ?_
      clear hK K
      try simp only [Act.put, List.setIfInBounds_toArray, List.set_cons_zero, List.set_cons_succ]
      refine wpAnyZ_take (i := 9) (v := ?_) rfl (by kernel_rfl) (fun _ _ _ h => h) (Or.inl ⟨by rfl, ?_⟩) ((hl2.cell hb2).trans q1) ?_
      rotate_left 1
      · (intro w hSw; (try dsimp only at hSw); go_simp; try with_reducible rfl)
      try simp only [Act.put, List.setIfInBounds_toArray, List.set_cons_zero, List.set_cons_succ]
      refine wpAnyZ_done (by kernel_rfl) ?_ _
      refine NoPanic.normal ?_
      obtain ⟨P0, HP0⟩ : ∃ P0, Hid (gAt (flat dep t) 0 = P0) := ⟨_, Lib.hid rfl⟩
      rw [HP0.out] at O0 HF
      have HO0 := Lib.hid O0
      clear O0 ST1 q1
      go_wp2
      go_loopw [6, 31] (fun v i wr => ∃ k : Nat, k ≤ RS.length ∧ i = .int .i64 k ∧ Owd 42 V wr v (P0 :: ((RS.take k).map (fun r => flat (dep + 1) (simpF r))).flatten) ∧ Le V wr) (fun _ i _ => RS.length - (intOf i).toNat)
      case atStart => exact ⟨0, Nat.zero_le _, rfl, HO0.out, hl2⟩
      case round =>
        obtain ⟨k, hk1, rfl, O1, L1⟩ := hrel
        clear HO0
        by_cases hlt : k < RS.length
        · have hlh : k < hs.length := by omega
          obtain ⟨b9, off9, rfl, hb9, hcell⟩ := (S2.le L1).hdr_at hlh
          have sk := (R2.le L1).each k _ _ (List.getElem?_eq_getElem hlh) (by rw [List.getElem?_map, List.getElem?_eq_getElem hlt]; rfl)
          obtain ⟨hgt, hszk, hszk2⟩ := HKID.out RS[k] (List.getElem_mem hlt)
          have hpos : 0 < hs[k].n := by
            have h1 := sk.len
            rw [flatF_len] at h1
            have := szF_kids hgt.one
            omega
          obtain ⟨bk, ok, ek, -⟩ := sk.at_ hpos
          rw [ek] at sk hcell
          have hIH := ih RS[k] hszk hgt (d + 1) (dep + 1) (by omega) (by omega) (by omega) (by omega) bk ok _ _ wr sk
          have HST : Hid (P0 :: ((RS.take (k + 1)).map (fun r => flat (dep + 1) (simpF r))).flatten = (P0 :: ((RS.take k).map (fun r => flat (dep + 1) (simpF r))).flatten) ++ flat (dep + 1) (simpF RS[k])) := by
            show _ = _
            rw [List.take_succ_eq_append_getElem hlt, List.map_append, List.flatten_append, List.map_singleton, List.flatten_singleton]; rfl
          have hl1 : (P0 :: ((RS.take k).map (fun r => flat (dep + 1) (simpF r))).flatten).length ≤ 16 := by
            rw [List.length_cons, List.map_take]
            have := take_flat_len (L := RS.map (fun r => flat (dep + 1) (simpF r))) k
            omega
          have hl6 : (flat (dep + 1) (simpF RS[k])).length ≤ 16 := by rw [flatF_len]; exact hgt.simp.sz
          have HIH := Lib.hid hIH
          obtain ⟨D, HD⟩ : ∃ D, Hid (P0 :: ((RS.take k).map (fun r => flat (dep + 1) (simpF r))).flatten = D) := ⟨_, Lib.hid rfl⟩
          rw [HD.out] at HST O1 hl1
          clear hIH sk ek
          go_wp2_with fail
          refine HIH.out.mono ?_
          rintro e w4 ⟨v2, rfl, O2, hl4⟩
          obtain ⟨A3, c3, rfl, S4, -⟩ := O2.form (by decide)
          have O5 := O1.le hl4
          have L5 := L1.trans hl4
          have hok5 := Lib.hid (ok_app O5.ok S4.ok)
          have hs5 := L5.size
          clear O1 O2
          obtain ⟨E, HE⟩ : ∃ E, Hid (flat (dep + 1) (simpF RS[k]) = E) := ⟨_, Lib.hid rfl⟩
          rw [HE.out] at S4 hl6 hok5 HST
          rw [HE.out]
          go_wp2_with (at_builtin; refine wpList_append_sl rfl _ _ 26 rfl V.heap.size 42 i1 _ 32 Try.underlying26 hi1 hy0 hy1 hy2 rfl _ D.length D rfl O5.row A3 E.length c3 E rfl S4 (by unfold maxLen; omega) (by omega) hs5 ?_; intro v6 w6 O6 hg6 _)
          have L6 := L5.grown hg6 (fun q hq => (O5.row.lt q hq).1)
          have H6 : Hid (Owd 42 V w6 v6 (P0 :: ((RS.take (k + 1)).map (fun r => flat (dep + 1) (simpF r))).flatten)) := by
            show Owd _ _ _ _ _
            rw [HST.out]
            exact ⟨by rw [List.length_append]; exact O6, hok5.out⟩
          clear O6 hg6 O5
          go_roundw
          case rel => exact ⟨k + 1, by omega, by go_num, H6.out, L6⟩
          case measure => simp [intOf]; omega
        · obtain rfl : k = RS.length := by omega
          rw [List.take_length, ← HF.out] at O1
          have HO := Lib.hid (O1.mono hL2)
          have HL := Lib.hid (hL2.trans L1)
          clear O1
          go_wp2
          go_ret
          exact ⟨_, rfl, HO.out, HL.out⟩
    · have h1 := oneB_iff.1 hk
      rw [one_roots h1] at hR hlen HKID
      obtain ⟨hgt, hszk, hszk2⟩ := HKID.out (kidsF t) (List.mem_singleton.2 rfl)
      have hlh : 0 < hs.length := by rw [hlen]; exact Nat.zero_lt_one
      obtain ⟨b2, off2, rfl, hb2, hcell⟩ := S1.hdr_at hlh
      have sk := hR.each 0 _ _ (List.getElem?_eq_getElem hlh) rfl
      rw [Nat.add_zero] at hcell
      have hpos : 0 < hs[0].n := by
        have h2 := sk.len
        rw [flatF_len] at h2
        have := szF_kids hgt.one
        omega
      obtain ⟨bk, ok, ek, -⟩ := sk.at_ hpos
      rw [ek] at sk hcell
      have HIH := Lib.hid (ih (kidsF t) hszk hgt (d + 1) dep (by omega) (by omega) (by omega) (by omega) bk ok _ _ w1 sk)
      have HF := Lib.hid (simp_one h.one hk dep)
      have hl1 : hs.length = 1 := hlen
      clear hlen hk sk hR S1 ek
      go_wp2_with fail
      refine HIH.out.mono ?_
      rintro e w4 ⟨v2, rfl, O2, hl4⟩
      rw [← HF.out] at O2
      have HO := Lib.hid (O2.mono hL1)
      clear O2
      go_wp2
      go_ret
      exact ⟨_, rfl, HO.out, hL1.trans hl4⟩
/-- a group without groups of one -/
noncomputable def simX (xs : List Cls) (g : List Prt) : List Prt := cond (gOkS xs g) (flat 0 (simpF (treeOf g))) []
theorem simX_of {xs : List Cls} {g : List Prt} {b : Bool} (h : gOkS xs g = b) : simX xs g = cond b (flat 0 (simpF (treeOf g))) [] := by unfold simX; rw [h]
theorem simX_len (xs : List Cls) (g : List Prt) : (simX xs g).length ≤ 1048576 := by
  cases h : gOkS xs g
  · rw [simX_of h]; simp
  · rw [simX_of h]
    show (flat 0 _).length ≤ _
    rw [flatF_len]
    have := (gOk_tree h).2.simp.sz
    omega
set_option maxRecDepth 100000 in
theorem sSimplifyGroup_any (A B : Option Addr) (n cap m c : Nat) (xs : List Cls) (g : List Prt) (w : World) (hT : Sl w A n cap xs) (hG : Sl w B m c g) :
    Calls Try.prog 32 #[.agg #[.slice A n cap], .slice B m c] w fun e w' => ∃ v, e = .returned v ∧ Owd 42 w w' v (simX xs g) ∧ Le w w' := by
  obtain ⟨-, z0, hl⟩ := box1 w (.slice A n cap) 25
  have hS := hT.le hl
  have hG1 := hG.le hl
  go_enter Try.func32, Try.ntmps32
  go_wp2_with fail
  generalize w.alloc (.cells #[.slice A n cap] 25) = w1 at *
  refine (validGroup_any _ _ _ _ _ _ xs g _ hS hG1).mono ?_
  rintro e w2 ⟨rfl, hle⟩
  have hG2 := hG1.le hle
  have hLL := hl.trans hle
  cases hg : gOkS xs g
  · have HX := Lib.hid (simX_of hg)
    clear hg
    go_wp2
    go_ret
    exact ⟨_, rfl, by rw [HX.out]; exact Owd.nil _ _ _, hLL⟩
  · have HX := Lib.hid (simX_of hg)
    obtain ⟨e1, hgt⟩ := gOk_tree hg
    rw [e1] at hG2
    have HC := Lib.hid (sSimple_any xs _ (treeOf g) (Nat.le_refl _) hgt _ _ _ _ hG2)
    clear hg e1
    go_wp2_with fail
    refine HC.out.mono ?_
    rintro e w3 ⟨v, rfl, O, hle3⟩
    have HO := Lib.hid (O.mono hLL)
    clear O
    go_wp2
    go_ret
    exact ⟨_, rfl, by rw [HX.out]; exact HO.out, hLL.trans hle3⟩
set_option maxRecDepth 100000 in
theorem iSimplifyGroup_any (A B : Option Addr) (n cap m c : Nat) (xs : List Cls) (g : List Prt) (w : World) (hT : Sl w A n cap xs) (hG : Sl w B m c g) :
    Calls Try.prog 31 #[.agg #[.slice A n cap], .slice B m c] w fun e w' => ∃ v, e = .returned v ∧ Owd 42 w w' v (simX xs g) ∧ Le w w' := by
  obtain ⟨-, z0, hl⟩ := box1 w (.slice A n cap) 25
  have hS := hT.le hl
  have hG1 := hG.le hl
  go_enter Try.func31, Try.ntmps31
  go_wp2_with fail
  generalize w.alloc (.cells #[.slice A n cap] 25) = w1 at *
  refine (iValidGroupS_any _ _ _ _ _ _ xs g _ hS hG1).mono ?_
  rintro e w2 ⟨rfl, hle⟩
  have hG2 := hG1.le hle
  have hLL := hl.trans hle
  cases hg : gOkS xs g
  · have HX := Lib.hid (simX_of hg)
    clear hg
    go_wp2
    go_ret
    exact ⟨_, rfl, by rw [HX.out]; exact Owd.nil _ _ _, hLL⟩
  · have HX := Lib.hid (simX_of hg)
    obtain ⟨e1, hgt⟩ := gOk_tree hg
    have hm0 : 0 < m := by
      have h1 := hG.len
      rw [e1, flatF_len] at h1
      have := szF_kids hgt.one
      omega
    obtain ⟨b, off, rfl, -⟩ := hG.at_ hm0
    rw [e1] at hG2
    have HC := Lib.hid (iSimplify_any xs _ (treeOf g) (Nat.le_refl _) hgt 0 0 (Int.le_refl _) (by have := hgt.sz; omega) (Int.le_refl _) (by have := hgt.sz; omega) b off _ _ _ hG2)
    clear hg e1
    go_wp2_with fail
    refine HC.out.mono ?_
    rintro e w3 ⟨v, rfl, O, hle3⟩
    have HO := Lib.hid (O.mono hLL)
    clear O
    go_wp2
    go_ret
    exact ⟨_, rfl, by rw [HX.out]; exact HO.out, hLL.trans hle3⟩
end

section
theorem spX_tree {xs : List Cls} {t : Fo} (h : GTr xs t) {a : Int} (hk : hasK xs a = true) (wi : Bool) : spX xs (flat 0 t) a wi = flat 0 (keepF (fun x => isAL xs x.cls a == wi) t) := by
  rw [spX_of (c := true) (by rw [h.gOk, hk]; rfl)]; exact selG_flat (fun x => isAL xs x.cls a == wi) t
theorem flX_tree {xs : List Cls} {t : Fo} (h : GTr xs t) : flX xs (flat 0 t) = flat 0 (flatF t) := by
  rw [flX_of h.gOk]
  show flG _ = _
  cases h.one with
  | leaf x => rfl
  | grp c k =>
    have : leavesL (flat 0 (.grp c k .nil)) = leavesF k := by rw [leaves_flat]; simp [leavesF]
    unfold flG
    have e : flat 0 (.grp c (mkF (leavesF k)) .nil) = ⟨0, true, 0, c⟩ :: (flat 1 (mkF (leavesF k)) ++ []) := rfl
    rw [this, flatF, e, flat_mk, List.append_nil]; rfl
theorem simX_tree {xs : List Cls} {t : Fo} (h : GTr xs t) : simX xs (flat 0 t) = flat 0 (simpF t) := by
  rw [simX_of h.gOk, treeOf_flat]; rfl
end

section
theorem flat_facts {xs : List Cls} {L : List Prt} (h : gOkS xs L = true) : lvX xs (flX xs L) = lvX xs L ∧ depX xs (flX xs L) ≤ 1 ∧ flX xs (flX xs L) = flX xs L ∧ (flX xs L).length ≤ L.length := by
  obtain ⟨t, rfl, ht⟩ := gOk_iff.1 h
  have h2 := ht.flatF
  have e := flX_tree ht
  have hh := flatF_ht ht.one
  have hs := flatF_sz ht.one
  have l1 := flatF_len t 0
  have l2 := flatF_len (flatF t) 0
  rw [e]
  refine ⟨by rw [lvX_tree h2, lvX_tree ht, leaves_flatF ht.one], by rw [depX_tree h2]; omega, by rw [flX_tree h2, flatF_flatF ht.one], by omega⟩
theorem oneB_len : ∀ {k : Fo}, oneB k = false → (rootsF k).length ≠ 1
  | .nil, _ => by simp [rootsF]
  | .leaf x .nil, h => by simp [oneB] at h
  | .grp c k .nil, h => by simp [oneB] at h
  | .leaf x (.leaf y r), _ => by simp [rootsF]
  | .leaf x (.grp d k r), _ => by simp [rootsF]
  | .grp c k (.leaf y r), _ => by simp [rootsF]
  | .grp c k (.grp d k' r), _ => by simp [rootsF]
theorem simp_facts {xs : List Cls} {L : List Prt} (h : gOkS xs L = true) : (∀ l ∈ kidsX xs (simX xs L), simX xs l = l) ∧ (kidsX xs (simX xs L)).length ≠ 1 ∧ lvX xs (simX xs L) = lvX xs L ∧ simX xs (simX xs L) = simX xs L ∧ gOkS xs (simX xs L) = true := by
  obtain ⟨t, rfl, ht⟩ := gOk_iff.1 h
  have hs := ht.simp
  have hk := noOne_kids hs.one (noOne_simp t)
  rw [simX_tree ht, kidsX_tree hs]
  refine ⟨fun l hl => ?_, ?_, ?_, ?_, hs.gOk⟩
  · obtain ⟨r, hr, rfl⟩ := List.mem_map.1 hl
    rw [simX_tree (hs.kid hr), simp_noOne (noOne_root hk.1 r hr)]
  · rw [List.length_map]; exact oneB_len hk.2
  · rw [lvX_tree hs, lvX_tree ht, leaves_simp]
  · rw [simX_tree hs, simp_simp]
end

section
theorem equalGroup_self (A B : Option Addr) (n c d : Nat) (xs : List Prt) (w : World) (hR : Sl w A n c xs) (hS : Sl w B n d xs) :
    Calls Try.prog 13 #[.slice A n c, .slice B n d] w fun e w' => e = .returned (.bool true) ∧ Le w w' := by
  obtain rfl := hR.len
  have hm := hR.n_le
  have hb : ((xs.length : Int) != (xs.length : Int)) = false := by simp
  go_enter Try.func13, Try.ntmps13
  go_wp2
  go_loopw [5] (fun i wr => ∃ k : Nat, k ≤ xs.length ∧ i = .int .i64 k ∧ Le w wr) (fun i _ => xs.length - (intOf i).toNat)
  case atStart => exact ⟨0, Nat.zero_le _, rfl, Le.refl _⟩
  case round =>
    obtain ⟨k, hk, rfl, hle⟩ := hrel
    have hRr := hR.le hle
    have hSr := hS.le hle
    clear hR hS
    by_cases hlt : k < xs.length
    · obtain ⟨b, off, rfl, hb, hcell0, hcell1, hcell2, hcell3, _⟩ := hRr.prt_at hlt
      obtain ⟨b2, off2, rfl, hb2, hdell0, hdell1, hdell2, hdell3, _⟩ := hSr.prt_at hlt
      have E0 := cell_ext hb hcell0
      have F0 := cell_ext hb2 hdell0
      have E1 := cell_ext hb hcell1
      have F1 := cell_ext hb2 hdell1
      have E2 := cell_ext hb hcell2
      have F2 := cell_ext hb2 hdell2
      have E3 := cell_ext hb hcell3
      have F3 := cell_ext hb2 hdell3
      have q0 : (xs[k].depth == xs[k].depth) = true := by simp
      have q1 : (xs[k].group == xs[k].group) = true := by simp
      have q2 : (xs[k].cls == xs[k].cls) = true := by simp
      have q3 : (xs[k].code == xs[k].code) = true := by simp
      go_wp2_with fail
      refine wp_region_ext (by kernel_rfl) (by kernel_rfl) ?_
      repeat (go_big_quiet_step (fail))
      refine wpQuiet_nil ?_
      intro _ hw'
      obtain ⟨g, rfl⟩ := hw'
      have hw1 := Le.ext wr g
      generalize wr.ext g = W2 at *
      go_wp2
      go_roundw
      case rel => exact ⟨k + 1, by omega, by go_num, hle.trans hw1⟩
      case measure => simp [intOf]; omega
    · go_wp2
      go_ret
      exact ⟨rfl, hle⟩
end

section
theorem equalLeaves_self (A B : Option Addr) (n c d : Nat) (xs : List Lef) (w : World) (hR : Sl w A n c xs) (hS : Sl w B n d xs) :
    Calls Try.prog 29 #[.slice A n c, .slice B n d] w fun e w' => e = .returned (.bool true) ∧ Le w w' := by
  obtain rfl := hR.len
  have hm := hR.n_le
  have hb : ((xs.length : Int) != (xs.length : Int)) = false := by simp
  go_enter Try.func29, Try.ntmps29
  go_wp2
  go_loopw [5] (fun i wr => ∃ k : Nat, k ≤ xs.length ∧ i = .int .i64 k ∧ Le w wr) (fun i _ => xs.length - (intOf i).toNat)
  case atStart => exact ⟨0, Nat.zero_le _, rfl, Le.refl _⟩
  case round =>
    obtain ⟨k, hk, rfl, hle⟩ := hrel
    have hRr := hR.le hle
    have hSr := hS.le hle
    clear hR hS
    by_cases hlt : k < xs.length
    · obtain ⟨b, off, rfl, hb, hcell0, hcell1, _⟩ := hRr.lef_at hlt
      obtain ⟨b2, off2, rfl, hb2, hdell0, hdell1, _⟩ := hSr.lef_at hlt
      have E0 := cell_ext hb hcell0
      have F0 := cell_ext hb2 hdell0
      have E1 := cell_ext hb hcell1
      have F1 := cell_ext hb2 hdell1
      have q0 : (xs[k].cls == xs[k].cls) = true := by simp
      have q1 : (xs[k].code == xs[k].code) = true := by simp
      go_wp2_with fail
      refine wp_region_ext (by kernel_rfl) (by kernel_rfl) ?_
      repeat (go_big_quiet_step (fail))
      refine wpQuiet_nil ?_
      intro _ hw'
      obtain ⟨g, rfl⟩ := hw'
      have hw1 := Le.ext wr g
      generalize wr.ext g = W2 at *
      go_wp2
      go_roundw
      case rel => exact ⟨k + 1, by omega, by go_num, hle.trans hw1⟩
      case measure => simp [intOf]; omega
    · go_wp2
      go_ret
      exact ⟨rfl, hle⟩
end

section
section
variable {α : Type} [Enc α] {P : Program} {f : FuncId} {args : Array Value} {w : World} {xs : List α} {T : TypeId}
theorem Calls.sl1o (hp : 0 < Enc.size α) (h : Calls P f args w fun e w' => ∃ v, e = .returned v ∧ Owd T w w' v xs ∧ Le w w') : Calls P f args w fun e w' => ∃ A c, e = .returned (.slice A xs.length c) ∧ Sl w' A xs.length c xs ∧ Le w w' := by
  refine h.mono ?_
  rintro e w' ⟨v, rfl, D, hle⟩
  obtain ⟨A, c, rfl, S, _⟩ := D.form hp
  exact ⟨A, c, rfl, S, hle⟩
end
def KidsOut (L : List (List Prt)) (w : World) (e : Ending) (w' : World) : Prop := ∃ (A : Option Addr) (c : Nat) (hs : List Hdr), e = .returned (.slice A L.length c) ∧ Sl w' A L.length c hs ∧ Rd2 w' hs L ∧ Le w w'
theorem Calls.kidsO {f : FuncId} {args : Array Value} {TT T : TypeId} {L : List (List Prt)} {w : World} (h : Calls Try.prog f args w fun e w' => ∃ v hs, e = .returned v ∧ OwL TT T w w' v hs L ∧ Le w w') : Calls Try.prog f args w (KidsOut L w) :=
  h.mono fun _ _ ⟨v, hs, he, ho, hl⟩ => by obtain ⟨A, c, e2, S⟩ := ho.form; exact ⟨A, c, hs, by rw [he, e2], S, ho.rd (by decide), hl⟩
end
end Go.Proofs.Ytpkkkpfanedieaa
