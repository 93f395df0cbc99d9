/- the law FnHideContext -/
import Derived.Test.YtalcpdjldmgcdaaFH0
import Derived.Test.YtalcpdjldmgcdaaHpQ
import Derived.Test.YtalcpdjldmgcdaaHpJ
namespace Go.Proofs.Ytalcpdjldmgcdaa
open Go.RowKit
theorem Calls.heap2B {P : Program} {f : FuncId} {args : Array Value} {w : World} {T : TypeId} {L M : List Flt} {a b : Bool} (e : L = M) (e2 : a = b) (h : Calls P f args w fun e w' => ∃ v, e = .returned (.tuple #[.agg #[v], .bool a]) ∧ Owd T w w' v L ∧ Le w w') : Calls P f args w fun e w' => ∃ A c, e = .returned (.tuple #[.agg #[.slice A M.length c], .bool b]) ∧ Sl w' A M.length c M ∧ (∀ k, (Value.slice A M.length c).ownBlock = some k → w.heap.size ≤ k ∧ k < w'.heap.size) ∧ Le w w' := by
  subst e; subst e2
  exact h.mono fun _ _ ⟨v, he, ho, hl⟩ => by obtain ⟨A, c, e2, hs, hb⟩ := ho.form (by decide); exact ⟨A, c, by rw [he, e2], hs, hb, hl⟩
def hideN (vs : List Value) : Prop := ∃ (f : Int) (b : Bool), vs = [.int .i64 f, .bool b] ∧ -1 ≤ f ∧ f ≤ 9
set_option maxHeartbeats 2000000 in
set_option maxRecDepth 100000 in
theorem drawHideContext_any (A : Option Addr) (n cap : Nat) (bs : List By) (w : World) (hR : Sl w A n cap bs) : Calls Try.prog 7 #[.slice A n cap] w (DrH hideN w) := by
  go_enter Try.func7, Try.ntmps7
  go_wp2_with fail
  obtain ⟨c0, z0, c1, z1, L0⟩ := box2 w (.slice none 0 0) (.slice none 0 0) 25 28
  have f0 : ((w.alloc (.cells #[.slice none 0 0] 25)).alloc (.cells #[.slice none 0 0] 28)).frozen? ⟨w.heap.size, 0, none⟩ = false := by
    rw [((Le.new _ _).frozen (b := w.heap.size) (o := 0) (by simp))]; exact World.frozen?_alloc_at _ _ _ _ rfl
  have f1 : ((w.alloc (.cells #[.slice none 0 0] 25)).alloc (.cells #[.slice none 0 0] 28)).frozen? ⟨w.heap.size + 1, 0, none⟩ = false := World.frozen?_alloc_at _ _ _ _ (by simp)
  have hw : ((w.alloc (.cells #[.slice none 0 0] 25)).alloc (.cells #[.slice none 0 0] 28)).heap.size = w.heap.size + 1 + 1 := by simp
  have S0 := hR.le L0
  generalize hWW : (w.alloc (.cells #[.slice none 0 0] 25)).alloc (.cells #[.slice none 0 0] 28) = W at *
  refine (newReader_any A n cap bs W S0).mono ?_
  rintro e w1 ⟨g, A1, n1, k1, bs1, rfl, hg, R1, hle⟩
  have s1 := hle.size
  have hle1 := hle
  have hgl := R1.lt
  clear S0 hle
  go_wp2_with fail
  refine (someHeap_any g 0 A1 n1 k1 bs1 w1 (by omega) R1).mono ?_
  rintro e w2 ⟨B, m, c, xs, A2, q2, hs, p2, rfl, S, hm, hoff, hab, O, hok, hl6, hp2, R2, hg2⟩
  subst hWW
  have hI := SI.startD hle1 hg hgl S hab O hg2
  have RX := R2.le ((Le.new w2 (.cells #[.slice B m c] 25)).alloc (.cells #[.slice A2 hs.length q2] 28))
  have hgw : w.heap.size ≤ g := by simp at hg; omega
  have HOK := Lib.hid hok
  clear c0 c1 f0 f1 z0 z1 S O hok hab hoff hg2 R2 R1 L0 hle1 hgl
  generalize hWW : (w2.alloc (.cells #[.slice B m c] 25)).alloc (.cells #[.slice A2 hs.length q2] 28) = W2 at *
  have HI := Lib.hid (hI.le (Le.refl _).drew)
  have RD := RX.le (Le.refl W2).drew
  have cT : W2.drew.cell? ⟨w2.heap.size, 0, none⟩ = some (.slice B m c) := HI.out.cT
  have cH : W2.drew.cell? ⟨w2.heap.size + 1, 0, none⟩ = some (.slice A2 hs.length q2) := HI.out.cH
  clear hI RX
  subst hWW
  have hgl := RD.lt
  go_wp2_with fail
  generalize (w2.alloc (.cells #[.slice B m c] 25)).alloc (.cells #[.slice A2 hs.length q2] 28) = W2 at *
  clear hg s1 hw
  go_region_held3 (fun w' => w'.cell? ⟨w2.heap.size, 0, none⟩ = some (.slice B m c) ∧ w'.cell? ⟨w2.heap.size + 1, 0, none⟩ = some (.slice A2 hs.length q2))
    (first | exact ⟨cT, cH⟩ | exact ⟨cT3, cH3⟩ | exact ⟨cT4, cH4⟩ | exact ⟨kt _, kh _⟩ | exact ⟨kt2 _ _, kh2 _ _⟩)
    (first
    | (go_at_call 26; refine (aFault_any A2 hs.length q2 g p2 A1 n1 k1 bs1 _ hl6 (by omega) RD).mono ?_; rintro e w3 ⟨f, p3, rfl, hf0, hf1, hp3, R3, hg3⟩; have hI3 := HI.out.gx hg3; have cT3 := hI3.cT; have cH3 := hI3.cH; clear hg3)
    | (go_at_call 27; refine (pick_any 2 g p3 A1 n1 k1 bs1 w3 (by omega) (by omega) (by omega) R3).mono ?_; rintro e w4 ⟨y, rfl, hy0, hy1, R4, hg4⟩; have hI4 := hI3.gx hg4; have cT4 := hI4.cT; have cH4 := hI4.cH; have kt := hI4.kt; have kh := hI4.kh; have kt2 := hI4.kt2; have kh2 := hI4.kh2; have k0 := hI4.k0; have k1 := hI4.k1; have c0 := hI4.c0; have f0 := hI4.f0; have fz := hI4.fz; have kz := hI4.kz; have HI4 := Lib.hid hI4; clear hI4 hg4))
  go_wp2
  exact bodyPost_ret (v := .tuple #[.agg #[.slice B m c], .agg #[.slice A2 hs.length q2], .int .i64 f, .bool (y == 0)]) (by simp [results, Try.results7, go_sem, k0, k1]) rfl (HI4.out.outD hgw HOK.out hm hl6 ⟨f, _, rfl, hf0, hf1⟩ _ _)
set_option maxHeartbeats 4000000 in
set_option maxRecDepth 100000 in
theorem fnHideContext_walk (A : Option Addr) (n cap : Nat) (bs : List By) (w : World) (hR : Sl w A n cap bs) :
    Calls Try.prog 3 #[.slice A n cap] w fun e w' => e = .returned (.bool true) ∧ Le w w' := by
  have hm := hR.n_le
  by_cases hbig : 1048576 < n
  · go_enter Try.func3, Try.ntmps3
    go_wp2
    go_ret
    exact ⟨rfl, Le.refl w⟩
  go_enter Try.func3, Try.ntmps3
  go_wp2_with fail
  refine (drawHideContext_any A n cap bs w hR).mono ?_
  rintro e w1 ⟨B, m, c, xs, A1, q1, hs, _, rfl, ⟨f, hb, rfl, hf0, hf1⟩, S, hm8, S2, hl6, L0⟩
  go_wp2_with fail
  obtain ⟨ct, zt, ch, zh, hleB⟩ := box2 w1 (.slice B m c) (.slice A1 hs.length q1) 25 28
  replace S := S.le hleB
  replace S2 := S2.le hleB
  replace L0 := L0.trans hleB
  clear hleB
  generalize (w1.alloc (.cells #[.slice B m c] 25)).alloc (.cells #[.slice A1 hs.length q1] 28) = W1 at *
  have hI := iHideContext_any B A1 m c hs.length q1 xs hs f hb W1 S S2 (by omega)
  have HQ : Hid (∀ w, Sl w B m c xs → Sl w A1 hs.length q1 hs → _) := fun w h h2 => sHideContext_any B A1 m c hs.length q1 xs hs f hb w h h2 (by omega)
  have hlen : (hcX xs hs f hb).length ≤ 6 := by
    cases h : goodF xs hs f
    · rw [hcX_of h]; simp
    · rw [hcX_of h]; show (setF _ _ _).length ≤ 6; rw [setF_len]; exact hl6
  rcases Bool.eq_false_or_eq_true (goodF xs hs f) with ho | ho
  · have hX : hcX xs hs f hb = setF hs f (hidF hb) := by rw [hcX_of ho]; rfl
    obtain ⟨i, rfl, hi⟩ := goodF_at ho
    have hok : okHeap xs hs = true := by have h := ho; unfold goodF at h; rw [Bool.and_eq_true] at h; exact h.1
    have hlx : (setF hs (i : Int) (hidF hb)).length = hs.length := setF_len ..
    have E1 := Lib.hid (good_hid hi hb ho)
    have E2 : Hid (hcX xs (setF hs (i : Int) (hidF hb)) (i : Int) hs[i].hide = hs) := by
      show _ = _
      rw [hcX_of E1.out]; exact hid_back hs i hi hb
    have E3 : Hid (shownX xs (setF hs (i : Int) (hidF hb)) (i : Int) = cond (decide (0 ≤ hs[i].cause)) hs[i].cause (cond hb (-1) hs[i].ctx)) := by
      show _ = _
      rw [shownX_of E1.out]; exact shown_hid hi hb
    have E4 : Hid (∀ h : i < (setF hs (i : Int) (hidF hb)).length, (setF hs (i : Int) (hidF hb))[i].cause = hs[i].cause ∧ (setF hs (i : Int) (hidF hb))[i].ctx = hs[i].ctx) := fun h => by
      rw [setF_hid_at hi hi hb h, if_pos rfl]; exact ⟨rfl, rfl⟩
    have hge := (okHeap_fok hok i hi)
    have hc1 : -1 ≤ hs[i].cause := by have := (fOk_parts.1 hge).2.2.1; omega
    rw [ho, hX] at hI HQ
    rw [hX] at hlen
    have HLX := Lib.hid hlx
    clear ho hX hok hlx hge
    generalize setF hs (i : Int) (hidF hb) = L at *
    refine (Calls.heap2 hI).mono ?_
    rintro e w2 ⟨A2, q2, rfl, S3, hle⟩
    replace ct := (hle.cell zt).trans ct
    replace ch := (hle.cell zh).trans ch
    replace zt := Nat.lt_of_lt_of_le zt hle.size
    replace zh := Nat.lt_of_lt_of_le zh hle.size
    replace S := S.le hle
    replace S2 := S2.le hle
    replace L0 := L0.trans hle
    clear hle hI
    go_wp2_with fail
    obtain ⟨co, zo, hleB⟩ := box1 w2 (.slice A2 L.length q2) 28
    replace ct := (hleB.cell zt).trans ct
    replace ch := (hleB.cell zh).trans ch
    replace zt := Nat.lt_of_lt_of_le zt hleB.size
    replace zh := Nat.lt_of_lt_of_le zh hleB.size
    replace S := S.le hleB
    replace L0 := L0.trans hleB
    replace S2 := S2.le hleB
    replace S3 := S3.le hleB
    clear hleB
    generalize w2.alloc (.cells #[.slice A2 L.length q2] 28) = w3 at *
    refine (Calls.heap2 (HQ.out w3 S S2)).mono ?_
    rintro e w4 ⟨A4, q4, rfl, S4, hle⟩
    replace ct := (hle.cell zt).trans ct
    replace ch := (hle.cell zh).trans ch
    replace co := (hle.cell zo).trans co
    replace zt := Nat.lt_of_lt_of_le zt hle.size
    replace zh := Nat.lt_of_lt_of_le zh hle.size
    replace zo := Nat.lt_of_lt_of_le zo hle.size
    replace S := S.le hle
    replace L0 := L0.trans hle
    replace S2 := S2.le hle
    replace S3 := S3.le hle
    clear hle
    go_wp2_with fail
    obtain ⟨cv, zv, hleB⟩ := box1 w4 (.slice A4 L.length q4) 28
    replace ct := (hleB.cell zt).trans ct
    replace ch := (hleB.cell zh).trans ch
    replace co := (hleB.cell zo).trans co
    replace zt := Nat.lt_of_lt_of_le zt hleB.size
    replace zh := Nat.lt_of_lt_of_le zh hleB.size
    replace zo := Nat.lt_of_lt_of_le zo hleB.size
    replace S := S.le hleB
    replace L0 := L0.trans hleB
    replace S2 := S2.le hleB
    replace S3 := S3.le hleB
    replace S4 := S4.le hleB
    clear hleB
    generalize w4.alloc (.cells #[.slice A4 L.length q4] 28) = w5 at *
    refine (equalHeap_self A2 A4 _ q2 q4 L w5 S3 S4).mono ?_
    rintro e w6 ⟨rfl, hle⟩
    replace ct := (hle.cell zt).trans ct
    replace ch := (hle.cell zh).trans ch
    replace co := (hle.cell zo).trans co
    replace cv := (hle.cell zv).trans cv
    replace zt := Nat.lt_of_lt_of_le zt hle.size
    replace zh := Nat.lt_of_lt_of_le zh hle.size
    replace zo := Nat.lt_of_lt_of_le zo hle.size
    replace zv := Nat.lt_of_lt_of_le zv hle.size
    replace S := S.le hle
    replace L0 := L0.trans hle
    replace S2 := S2.le hle
    replace S3 := S3.le hle
    replace S4 := S4.le hle
    clear hle
    clear cv zv S4
    obtain ⟨b, off, rfl, hbl, _, _, _, _, k4, _⟩ := S2.flt_at hi
    have hil2 : (i : Int) < (hs.length : Int) := by omega
    have cb := k4
    have zb := hbl
    clear k4 hbl
    generalize hhd : hs[i].hide = hd at *
    clear hhd
    go_wp2_with fail
    replace cb : w6.drew.cell? ⟨b, off + i * 5 + 4, none⟩ = some (.bool hd) := cb
    replace zb : b < w6.drew.heap.size := zb
    replace ct := (show w6.drew.cell? _ = _ from ct)
    replace zt := (show _ < w6.drew.heap.size from zt)
    replace ch := (show w6.drew.cell? _ = _ from ch)
    replace zh := (show _ < w6.drew.heap.size from zh)
    replace co := (show w6.drew.cell? _ = _ from co)
    replace zo := (show _ < w6.drew.heap.size from zo)
    replace S := S.le (Le.refl _).drew
    replace S2 := S2.le (Le.refl _).drew
    replace S3 := S3.le (Le.refl _).drew
    replace L0 := L0.drew
    refine wp_region_noPanic ?_
    refine wp_region_Z (fun w' => w'.cell? ⟨w1.heap.size, 0, none⟩ = some (.slice B m c) ∧ w'.cell? ⟨w1.heap.size + 1, 0, none⟩ = some (.slice (some ⟨b, off, none⟩) hs.length q1) ∧ w'.cell? ⟨w2.heap.size, 0, none⟩ = some (.slice A2 L.length q2) ∧ w'.cell? ⟨b, off + i * 5 + 4, none⟩ = some (.bool hd)) [] (by kernel_rfl) ?_
    refine wpAnyZ_take (i := 0) (v := ?_) rfl (by kernel_rfl) (fun _ _ _ h => h) (Or.inl ⟨by rfl, ?_⟩) (⟨ct, ch, co, cb⟩) ?_
    rotate_left 1
    · (intro w hSw; (try dsimp only at hSw); go_simp; try with_reducible rfl)
    try simp only [Act.put, List.setIfInBounds_toArray, List.set_cons_zero, List.set_cons_succ]
    refine wpAnyZ_take (i := 1) (v := ?_) rfl (by kernel_rfl) (fun _ _ _ h => h) (Or.inl ⟨by rfl, ?_⟩) (⟨ct, ch, co, cb⟩) ?_
    rotate_left 1
    · (intro w hSw; (try dsimp only at hSw); go_simp; try with_reducible rfl)
    try simp only [Act.put, List.setIfInBounds_toArray, List.set_cons_zero, List.set_cons_succ]
    refine wpAnyZ_take (i := 2) (v := ?_) rfl (by kernel_rfl) (fun _ _ _ h => h) (Or.inl ⟨by rfl, ?_⟩) (⟨ct, ch, co, cb⟩) ?_
    rotate_left 1
    · (intro w hSw; (try dsimp only at hSw); go_simp; try with_reducible rfl)
    try simp only [Act.put, List.setIfInBounds_toArray, List.set_cons_zero, List.set_cons_succ]
    refine wpAnyZ_take (i := 3) (v := ?_) rfl (by kernel_rfl) (fun _ _ _ h => h) (Or.inl ⟨by rfl, ?_⟩) (⟨ct, ch, co, cb⟩) ?_
    rotate_left 1
    · (intro w hSw; (try dsimp only at hSw); go_simp; try with_reducible rfl)
    try simp only [Act.put, List.setIfInBounds_toArray, List.set_cons_zero, List.set_cons_succ]
    refine wpAnyZ_take (i := 4) (v := ?_) rfl (by kernel_rfl) (fun _ _ _ h => h) (Or.inl ⟨by rfl, ?_⟩) (⟨ct, ch, co, cb⟩) ?_
    rotate_left 1
    · (intro w hSw; (try dsimp only at hSw); go_simp; try with_reducible rfl)
    try simp only [Act.put, List.setIfInBounds_toArray, List.set_cons_zero, List.set_cons_succ]
    refine wpAnyZ_take (i := 5) (v := ?_) rfl (by kernel_rfl) (fun _ _ _ h => h) (Or.inl ⟨by rfl, ?_⟩) (⟨ct, ch, co, cb⟩) ?_
    rotate_left 1
    · (intro w hSw; (try dsimp only at hSw); go_simp; try with_reducible rfl)
    try simp only [Act.put, List.setIfInBounds_toArray, List.set_cons_zero, List.set_cons_succ]
    refine wpAnyZ_take (i := 6) (v := ?_) rfl (by kernel_rfl) (fun _ _ _ h => h) (Or.inl ⟨by rfl, ?_⟩) (⟨ct, ch, co, cb⟩) ?_
    rotate_left 1
    · (intro w hSw; (try dsimp only at hSw); go_simp; try with_reducible rfl)
    try simp only [Act.put, List.setIfInBounds_toArray, List.set_cons_zero, List.set_cons_succ]
    refine wpAnyZ_take (i := 7) (v := ?_) rfl (by kernel_rfl) (fun _ _ _ h => h) (Or.inl ⟨by rfl, ?_⟩) (⟨ct, ch, co, cb⟩) ?_
    rotate_left 1
    · (intro w hSw; (try dsimp only at hSw); go_simp; try with_reducible rfl)
    try simp only [Act.put, List.setIfInBounds_toArray, List.set_cons_zero, List.set_cons_succ]
    refine wpAnyZ_take (i := 8) (v := ?_) rfl (by kernel_rfl) (fun _ _ _ h => h) (Or.inl ⟨by rfl, ?_⟩) (⟨ct, ch, co, cb⟩) ?_
    rotate_left 1
    · (intro w hSw; (try dsimp only at hSw); go_simp; try with_reducible rfl)
    try simp only [Act.put, List.setIfInBounds_toArray, List.set_cons_zero, List.set_cons_succ]
    have hwl := L0.size
    refine wpAnyZ_two (i := 9) (k := 13) (by kernel_rfl) (ReadyZ.mk rfl (fun K hK => ?_)) (ReadyZ.mk rfl (fun K hK => ?_))
    · go_simp
      go_at_call 8
      refine (Calls.heap2B E2.out E1.out (iHideContext_any B A2 m c L.length q2 xs L (i : Int) hd _ S S3 (by omega))).mono ?_
      rintro e w7 ⟨A7, q7, rfl, S7, hB7, hle⟩
      replace ct := (hle.cell zt).trans ct
      replace ch := (hle.cell zh).trans ch
      replace co := (hle.cell zo).trans co
      replace cb := (hle.cell zb).trans cb
      replace zt := Nat.lt_of_lt_of_le zt hle.size
      replace zh := Nat.lt_of_lt_of_le zh hle.size
      replace zo := Nat.lt_of_lt_of_le zo hle.size
      replace zb := Nat.lt_of_lt_of_le zb hle.size
      replace S := S.le hle
      replace S2 := S2.le hle
      replace S3 := S3.le hle
      replace L0 := L0.trans hle
      clear hle
      refine hK.out _ _ (fun _ => ⟨ct, ch, co, cb⟩) ?_
      clear hK K
      try simp only [Act.put, List.setIfInBounds_toArray, List.set_cons_zero, List.set_cons_succ]
      refine wpAnyZ_take (i := 10) (v := ?_) rfl (by kernel_rfl) (fun _ _ _ h => h) (Or.inl ⟨by rfl, ?_⟩) (⟨ct, ch, co, cb⟩) ?_
      rotate_left 1
      · (intro w hSw; (try dsimp only at hSw); go_simp; try with_reducible rfl)
      try simp only [Act.put, List.setIfInBounds_toArray, List.set_cons_zero, List.set_cons_succ]
      refine wpAnyZ_take (i := 11) (v := ?_) rfl (by kernel_rfl) (fun _ _ _ h => h) (Or.inl ⟨by rfl, ?_⟩) (⟨ct, ch, co, cb⟩) ?_
      rotate_left 1
      · (intro w hSw; (try dsimp only at hSw); go_simp; try with_reducible rfl)
      try simp only [Act.put, List.setIfInBounds_toArray, List.set_cons_zero, List.set_cons_succ]
      refine wpAnyZ_take (i := 12) (v := ?_) rfl (by kernel_rfl) (fun _ _ _ h => h) (Or.inl ⟨by rfl, ?_⟩) (⟨ct, ch, co, cb⟩) ?_
      rotate_left 1
      · (intro w hSw; (try dsimp only at hSw); go_simp; try with_reducible rfl)
      try simp only [Act.put, List.setIfInBounds_toArray, List.set_cons_zero, List.set_cons_succ]
      refine wpAnyZ_one (i := 13) (by kernel_rfl) (ReadyZ.mk rfl (fun K hK => ?_))
      go_simp
      have LN := Le.new w7 (.cells #[.slice none 0 0] 28)
      refine hK.out _ _ (fun _ => ⟨(LN.cell zt).trans ct, (LN.cell zh).trans ch, (LN.cell zo).trans co, (LN.cell zb).trans cb⟩) ?_
      clear hK K
      try simp only [Act.put, List.setIfInBounds_toArray, List.set_cons_zero, List.set_cons_succ]
      clear LN
      refine wpAnyZ_one (i := 14) (by kernel_rfl) (ReadyZ.mk rfl (fun K hK => ?_))
      go_simp
      obtain ⟨ca, za, hleB⟩ := box1 w7 (.slice A7 hs.length q7) 28
      replace ct := (hleB.cell zt).trans ct
      replace ch := (hleB.cell zh).trans ch
      replace co := (hleB.cell zo).trans co
      replace cb := (hleB.cell zb).trans cb
      replace zt := Nat.lt_of_lt_of_le zt hleB.size
      replace zh := Nat.lt_of_lt_of_le zh hleB.size
      replace zo := Nat.lt_of_lt_of_le zo hleB.size
      replace zb := Nat.lt_of_lt_of_le zb hleB.size
      replace S := S.le hleB
      replace S2 := S2.le hleB
      replace S3 := S3.le hleB
      replace S7 := S7.le hleB
      replace L0 := L0.trans hleB
      clear hleB
      refine hK.out _ _ (fun _ => ⟨ct, ch, co, cb⟩) ?_
      clear hK K
      try simp only [Act.put, List.setIfInBounds_toArray, List.set_cons_zero, List.set_cons_succ]
      refine wpAnyZ_take (i := 15) (v := ?_) rfl (by kernel_rfl) (fun _ _ _ h => h) (Or.inl ⟨by rfl, ?_⟩) (⟨ct, ch, co, cb⟩) ?_
      rotate_left 1
      · (intro w hSw; (try dsimp only at hSw); go_simp; try with_reducible rfl)
      try simp only [Act.put, List.setIfInBounds_toArray, List.set_cons_zero, List.set_cons_succ]
      refine wpAnyZ_done (by kernel_rfl) ?_ _
      refine NoPanic.normal ?_
      generalize w7.alloc (.cells #[.slice A7 hs.length q7] 28) = w9 at *
      generalize w7.heap.size = FB at *
      have hiL : i < L.length := by have := HLX.out; omega
      obtain ⟨b2, off2, rfl, hb2, k0, k1, k2, k3, k5, _⟩ := S3.flt_at hiL
      rw [(E4.out hiL).1] at k2
      rw [(E4.out hiL).2] at k3
      have hiL2 : (i : Int) < (L.length : Int) := by omega
      clear E4 E2 cb zb
      have HE3 : Hid (shownX xs L (i : Int) = cond (decide (0 ≤ hs[i].cause)) hs[i].cause (cond hb (-1) hs[i].ctx)) := E3.out
      clear E3 E1 HQ
      generalize hs[i].cause = vc at *
      generalize hs[i].ctx = vx at *
      generalize L[i].cls = v0 at *
      generalize L[i].code = v1 at *
      generalize L[i].hide = v4 at *
      go_wp2_with fail
      obtain ⟨x0, x1, x2, x3, x4, zx, hleX⟩ := box5 w9 (.int .i64 v0) (.int .i64 v1) (.int .i64 vc) (.int .i64 vx) (.bool v4) 35
      replace ca := (hleX.cell za).trans ca
      replace ch := (hleX.cell zh).trans ch
      replace za := Nat.lt_of_lt_of_le za hleX.size
      replace zh := Nat.lt_of_lt_of_le zh hleX.size
      replace S := S.le hleX
      replace S2 := S2.le hleX
      replace S3 := S3.le hleX
      replace S7 := S7.le hleX
      replace L0 := L0.trans hleX
      clear hleX ct co x0 x1 x4
      generalize w9.alloc (.cells #[.int .i64 v0, .int .i64 v1, .int .i64 vc, .int .i64 vx, .bool v4] 35) = w10 at *
      generalize w9.heap.size = FX at *
      refine (Calls.val (iShownNext_any B _ m c L.length q2 xs L (i : Int) w10 S S3 (by omega)) (vi HE3.out)).mono ?_
      rintro e w11 ⟨rfl, hle⟩
      replace x2 := (hle.cell zx).trans x2
      replace x3 := (hle.cell zx).trans x3
      replace ca := (hle.cell za).trans ca
      replace ch := (hle.cell zh).trans ch
      replace za := Nat.lt_of_lt_of_le za hle.size
      replace zh := Nat.lt_of_lt_of_le zh hle.size
      replace S2 := S2.le hle
      replace S7 := S7.le hle
      replace L0 := L0.trans hle
      replace zx := Nat.lt_of_lt_of_le zx hle.size
      clear hle HE3
      have hvv : (vc == vc) = true := by simp
      have hxx : (vx == vx) = true := by simp
      go_wp2_with fail
      refine (equalHeap_self A7 _ _ q7 q1 hs w11 S7 S2).mono ?_
      rintro e w12 ⟨rfl, hle⟩
      replace x2 := (hle.cell zx).trans x2
      replace x3 := (hle.cell zx).trans x3
      replace L0 := L0.trans hle
      clear hle
      by_cases hvc : 0 ≤ vc
      · have d1 : decide (0 ≤ vc) = true := decide_eq_true hvc
        have d2 : decide (vc < 0) = false := decide_eq_false (by omega)
        rw [d1]
        go_wp2
        go_ret
        exact ⟨rfl, L0⟩
      · have d1 : decide (0 ≤ vc) = false := decide_eq_false hvc
        have d2 : decide (vc < 0) = true := decide_eq_true (by omega)
        have hvc2 : vc < 0 := by omega
        rw [d1]
        cases hb
        · go_wp2
          go_ret
          exact ⟨rfl, L0⟩
        · go_wp2
          go_ret
          exact ⟨rfl, L0⟩
    · go_simp
      have LN := Le.new w6.drew (.cells #[.slice none 0 0] 28)
      have hbx : (w6.drew.alloc (.cells #[.slice none 0 0] 28)).cell? ⟨w6.drew.heap.size, 0, none⟩ = some (.slice none 0 0) := by rw [World.cell?_alloc_at _ _ _ _ rfl]; rfl
      have hfx : (w6.drew.alloc (.cells #[.slice none 0 0] 28)).frozen? ⟨w6.drew.heap.size, 0, none⟩ = false := World.frozen?_alloc_at _ _ _ _ rfl
      have hzx : w6.drew.heap.size < (w6.drew.alloc (.cells #[.slice none 0 0] 28)).heap.size := by simp
      refine hK.out _ _ (fun _ => ⟨(LN.cell zt).trans ct, (LN.cell zh).trans ch, (LN.cell zo).trans co, (LN.cell zb).trans cb⟩) ?_
      clear hK K
      try simp only [Act.put, List.setIfInBounds_toArray, List.set_cons_zero, List.set_cons_succ]
      refine wpAnyZ_one (i := 9) (by kernel_rfl) (ReadyZ.mk rfl (fun K hK => ?_))
      go_simp
      go_at_call 8
      refine (Calls.heap2B E2.out E1.out (iHideContext_any B A2 m c L.length q2 xs L (i : Int) hd _ (S.le LN) (S3.le LN) (by omega))).mono ?_
      rintro e w7 ⟨A7, q7, rfl, S7, hB7, hle⟩
      have LL := LN.trans hle
      have hz7 : w6.heap.size < w7.heap.size := Nat.lt_of_lt_of_le hzx hle.size
      replace hbx := (hle.cell hzx).trans hbx
      replace hfx := (hle.frozen hzx).trans hfx
      clear hle LN
      refine hK.out _ _ (fun _ => ⟨(LL.cell zt).trans ct, (LL.cell zh).trans ch, (LL.cell zo).trans co, (LL.cell zb).trans cb⟩) ?_
      clear hK K
      try simp only [Act.put, List.setIfInBounds_toArray, List.set_cons_zero, List.set_cons_succ]
      refine wpAnyZ_take (i := 10) (v := ?_) rfl (by kernel_rfl) (fun _ _ _ h => h) (Or.inl ⟨by rfl, ?_⟩) (⟨(LL.cell zt).trans ct, (LL.cell zh).trans ch, (LL.cell zo).trans co, (LL.cell zb).trans cb⟩) ?_
      rotate_left 1
      · (intro w hSw; (try dsimp only at hSw); go_simp; try with_reducible rfl)
      try simp only [Act.put, List.setIfInBounds_toArray, List.set_cons_zero, List.set_cons_succ]
      refine wpAnyZ_take (i := 11) (v := ?_) rfl (by kernel_rfl) (fun _ _ _ h => h) (Or.inl ⟨by rfl, ?_⟩) (⟨(LL.cell zt).trans ct, (LL.cell zh).trans ch, (LL.cell zo).trans co, (LL.cell zb).trans cb⟩) ?_
      rotate_left 1
      · (intro w hSw; (try dsimp only at hSw); go_simp; try with_reducible rfl)
      try simp only [Act.put, List.setIfInBounds_toArray, List.set_cons_zero, List.set_cons_succ]
      refine wpAnyZ_take (i := 12) (v := ?_) rfl (by kernel_rfl) (fun _ _ _ h => h) (Or.inl ⟨by rfl, ?_⟩) (⟨(LL.cell zt).trans ct, (LL.cell zh).trans ch, (LL.cell zo).trans co, (LL.cell zb).trans cb⟩) ?_
      rotate_left 1
      · (intro w hSw; (try dsimp only at hSw); go_simp; try with_reducible rfl)
      try simp only [Act.put, List.setIfInBounds_toArray, List.set_cons_zero, List.set_cons_succ]
      refine wpAnyZ_one (i := 14) (by kernel_rfl) (ReadyZ.mk rfl (fun K hK => ?_))
      replace hbx : w7.cell? ⟨w6.heap.size, 0, none⟩ = some (.slice none 0 0) := hbx
      replace hfx : w7.frozen? ⟨w6.heap.size, 0, none⟩ = false := hfx
      go_simp
      have LS := LL.setCell (b := w6.heap.size) (o := 0) (Nat.le_refl _) (.slice A7 hs.length q7)
      have S7' := S7.grown (grown_set w7 w6.heap.size 0 (.slice A7 hs.length q7)) (fun hn a e e2 => by have h1 := (hB7 a.block (by rw [e]; rfl)).1; injection e2 with e2; have h2 : w6.heap.size < _ := hzx; omega)
      have ca : (w7.setCell ⟨w6.heap.size, 0, none⟩ (.slice A7 hs.length q7)).cell? ⟨w6.heap.size, 0, none⟩ = some (.slice A7 hs.length q7) := cell_set_same hbx
      have za : w6.heap.size < (w7.setCell ⟨w6.heap.size, 0, none⟩ (.slice A7 hs.length q7)).heap.size := by simpa [World.setCell] using hz7
      replace ct := (LS.cell zt).trans ct
      replace ch := (LS.cell zh).trans ch
      replace co := (LS.cell zo).trans co
      replace cb := (LS.cell zb).trans cb
      replace zt := Nat.lt_of_lt_of_le zt LS.size
      replace zh := Nat.lt_of_lt_of_le zh LS.size
      replace zo := Nat.lt_of_lt_of_le zo LS.size
      replace zb := Nat.lt_of_lt_of_le zb LS.size
      replace S := S.le LS
      replace S2 := S2.le LS
      replace S3 := S3.le LS
      replace L0 := L0.trans LS
      clear LS LL S7
      have S7 := S7'
      clear S7'
      refine hK.out _ _ (fun _ => ⟨ct, ch, co, cb⟩) ?_
      clear hK K
      try simp only [Act.put, List.setIfInBounds_toArray, List.set_cons_zero, List.set_cons_succ]
      refine wpAnyZ_take (i := 15) (v := ?_) rfl (by kernel_rfl) (fun _ _ _ h => h) (Or.inl ⟨by rfl, ?_⟩) (⟨ct, ch, co, cb⟩) ?_
      rotate_left 1
      · (intro w hSw; (try dsimp only at hSw); go_simp; try with_reducible rfl)
      try simp only [Act.put, List.setIfInBounds_toArray, List.set_cons_zero, List.set_cons_succ]
      refine wpAnyZ_done (by kernel_rfl) ?_ _
      refine NoPanic.normal ?_
      clear hbx hfx hzx hz7
      generalize w7.setCell ⟨w6.heap.size, 0, none⟩ (.slice A7 hs.length q7) = w9 at *
      generalize w6.heap.size = FB at *
      have hiL : i < L.length := by have := HLX.out; omega
      obtain ⟨b2, off2, rfl, hb2, k0, k1, k2, k3, k5, _⟩ := S3.flt_at hiL
      rw [(E4.out hiL).1] at k2
      rw [(E4.out hiL).2] at k3
      have hiL2 : (i : Int) < (L.length : Int) := by omega
      clear E4 E2 cb zb
      have HE3 : Hid (shownX xs L (i : Int) = cond (decide (0 ≤ hs[i].cause)) hs[i].cause (cond hb (-1) hs[i].ctx)) := E3.out
      clear E3 E1 HQ
      generalize hs[i].cause = vc at *
      generalize hs[i].ctx = vx at *
      generalize L[i].cls = v0 at *
      generalize L[i].code = v1 at *
      generalize L[i].hide = v4 at *
      go_wp2_with fail
      obtain ⟨x0, x1, x2, x3, x4, zx, hleX⟩ := box5 w9 (.int .i64 v0) (.int .i64 v1) (.int .i64 vc) (.int .i64 vx) (.bool v4) 35
      replace ca := (hleX.cell za).trans ca
      replace ch := (hleX.cell zh).trans ch
      replace za := Nat.lt_of_lt_of_le za hleX.size
      replace zh := Nat.lt_of_lt_of_le zh hleX.size
      replace S := S.le hleX
      replace S2 := S2.le hleX
      replace S3 := S3.le hleX
      replace S7 := S7.le hleX
      replace L0 := L0.trans hleX
      clear hleX ct co x0 x1 x4
      generalize w9.alloc (.cells #[.int .i64 v0, .int .i64 v1, .int .i64 vc, .int .i64 vx, .bool v4] 35) = w10 at *
      generalize w9.heap.size = FX at *
      refine (Calls.val (iShownNext_any B _ m c L.length q2 xs L (i : Int) w10 S S3 (by omega)) (vi HE3.out)).mono ?_
      rintro e w11 ⟨rfl, hle⟩
      replace x2 := (hle.cell zx).trans x2
      replace x3 := (hle.cell zx).trans x3
      replace ca := (hle.cell za).trans ca
      replace ch := (hle.cell zh).trans ch
      replace za := Nat.lt_of_lt_of_le za hle.size
      replace zh := Nat.lt_of_lt_of_le zh hle.size
      replace S2 := S2.le hle
      replace S7 := S7.le hle
      replace L0 := L0.trans hle
      replace zx := Nat.lt_of_lt_of_le zx hle.size
      clear hle HE3
      have hvv : (vc == vc) = true := by simp
      have hxx : (vx == vx) = true := by simp
      go_wp2_with fail
      refine (equalHeap_self A7 _ _ q7 q1 hs w11 S7 S2).mono ?_
      rintro e w12 ⟨rfl, hle⟩
      replace x2 := (hle.cell zx).trans x2
      replace x3 := (hle.cell zx).trans x3
      replace L0 := L0.trans hle
      clear hle
      by_cases hvc : 0 ≤ vc
      · have d1 : decide (0 ≤ vc) = true := decide_eq_true hvc
        have d2 : decide (vc < 0) = false := decide_eq_false (by omega)
        rw [d1]
        go_wp2
        go_ret
        exact ⟨rfl, L0⟩
      · have d1 : decide (0 ≤ vc) = false := decide_eq_false hvc
        have d2 : decide (vc < 0) = true := decide_eq_true (by omega)
        have hvc2 : vc < 0 := by omega
        rw [d1]
        cases hb
        · go_wp2
          go_ret
          exact ⟨rfl, L0⟩
        · go_wp2
          go_ret
          exact ⟨rfl, L0⟩
  · rw [ho] at hI HQ
    clear ho
    generalize hcX xs hs f hb = L at *
    refine (Calls.heap2 hI).mono ?_
    rintro e w2 ⟨A2, q2, rfl, S3, hle⟩
    replace ct := (hle.cell zt).trans ct
    replace ch := (hle.cell zh).trans ch
    replace zt := Nat.lt_of_lt_of_le zt hle.size
    replace zh := Nat.lt_of_lt_of_le zh hle.size
    replace S := S.le hle
    replace S2 := S2.le hle
    replace L0 := L0.trans hle
    clear hle hI
    go_wp2_with fail
    obtain ⟨co, zo, hleB⟩ := box1 w2 (.slice A2 L.length q2) 28
    replace ct := (hleB.cell zt).trans ct
    replace ch := (hleB.cell zh).trans ch
    replace zt := Nat.lt_of_lt_of_le zt hleB.size
    replace zh := Nat.lt_of_lt_of_le zh hleB.size
    replace S := S.le hleB
    replace L0 := L0.trans hleB
    replace S2 := S2.le hleB
    replace S3 := S3.le hleB
    clear hleB
    generalize w2.alloc (.cells #[.slice A2 L.length q2] 28) = w3 at *
    refine (Calls.heap2 (HQ.out w3 S S2)).mono ?_
    rintro e w4 ⟨A4, q4, rfl, S4, hle⟩
    replace ct := (hle.cell zt).trans ct
    replace ch := (hle.cell zh).trans ch
    replace co := (hle.cell zo).trans co
    replace zt := Nat.lt_of_lt_of_le zt hle.size
    replace zh := Nat.lt_of_lt_of_le zh hle.size
    replace zo := Nat.lt_of_lt_of_le zo hle.size
    replace S := S.le hle
    replace L0 := L0.trans hle
    replace S2 := S2.le hle
    replace S3 := S3.le hle
    clear hle
    go_wp2_with fail
    obtain ⟨cv, zv, hleB⟩ := box1 w4 (.slice A4 L.length q4) 28
    replace ct := (hleB.cell zt).trans ct
    replace ch := (hleB.cell zh).trans ch
    replace co := (hleB.cell zo).trans co
    replace zt := Nat.lt_of_lt_of_le zt hleB.size
    replace zh := Nat.lt_of_lt_of_le zh hleB.size
    replace zo := Nat.lt_of_lt_of_le zo hleB.size
    replace S := S.le hleB
    replace L0 := L0.trans hleB
    replace S2 := S2.le hleB
    replace S3 := S3.le hleB
    replace S4 := S4.le hleB
    clear hleB
    generalize w4.alloc (.cells #[.slice A4 L.length q4] 28) = w5 at *
    refine (equalHeap_self A2 A4 _ q2 q4 L w5 S3 S4).mono ?_
    rintro e w6 ⟨rfl, hle⟩
    replace ct := (hle.cell zt).trans ct
    replace ch := (hle.cell zh).trans ch
    replace co := (hle.cell zo).trans co
    replace cv := (hle.cell zv).trans cv
    replace zt := Nat.lt_of_lt_of_le zt hle.size
    replace zh := Nat.lt_of_lt_of_le zh hle.size
    replace zo := Nat.lt_of_lt_of_le zo hle.size
    replace zv := Nat.lt_of_lt_of_le zv hle.size
    replace S := S.le hle
    replace L0 := L0.trans hle
    replace S2 := S2.le hle
    replace S3 := S3.le hle
    replace S4 := S4.le hle
    clear hle
    go_wp2_with fail
    refine (equalHeap_self A2 A4 _ q2 q4 L _ S3 S4).mono ?_
    rintro e w7 ⟨rfl, hle⟩
    replace L0 := L0.trans hle
    clear hle
    go_wp2
    go_ret
    exact ⟨rfl, L0⟩
end Go.Proofs.Ytalcpdjldmgcdaa
