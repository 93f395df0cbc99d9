/- the laws FnValidExits, FnPopExit -/
import Derived.Test.YtdpojpgdfklfkaaDXc
import Derived.Test.YtdpojpgdfklfkaaPxC
import Derived.Test.YtdpojpgdfklfkaaLX
import Derived.Test.YtdpojpgdfklfkaaLD
namespace Go.Proofs.Ytdpojpgdfklfkaa
open Go.RowKit
theorem xitSl_drop {w : World} {b off n cap : Nat} {xs : List Xit} (h : Sl w (some ⟨b, off, none⟩) n cap xs) (k : Nat) (hk : k ≤ n) : Sl w (some ⟨b, off + k * 3, none⟩) (n - k) (cap - k) (xs.drop k) := by
  have hl := h.len
  have hc := h.cap_
  have hx := h.max
  refine ⟨by rw [List.length_drop]; omega, by omega, by omega, fun x hx => h.ok x (List.mem_of_mem_drop hx), fun hn => ?_⟩
  obtain ⟨b2, off2, e, hb, hcell⟩ := h.at_ (by omega)
  injection e with e
  injection e with e1 e2
  subst e1; subst e2
  refine ⟨b, off + k * 3, rfl, hb, fun j u hu => ?_⟩
  have hsplit : xs.flatMap Enc.cells = (xs.take k).flatMap Enc.cells ++ (xs.drop k).flatMap Enc.cells := by rw [← List.flatMap_append, List.take_append_drop]
  have hfl : ((xs.take k).flatMap (Enc.cells (α := Xit))).length = k * 3 := by rw [flat_len, List.length_take]; show _ * 3 = _; rw [Nat.min_eq_left (by omega)]
  have := hcell (k * 3 + j) u (by rw [hsplit, List.getElem?_append_right (by omega), hfl, Nat.add_sub_cancel_left]; exact hu)
  rw [show off + k * 3 + j = off + (k * 3 + j) by omega]; exact this
theorem vxs_take {xs : List Cls} {L : List Xit} (h : vxs xs L = true) (k : Nat) : vxs xs (L.take k) = true := by
  have a := vxs_iff.1 h
  exact vxs_iff.2 ⟨a.1, by rw [List.length_take]; omega, fun x hx => a.2.2 x (List.mem_of_mem_take hx)⟩
theorem vxs_drop {xs : List Cls} {L : List Xit} (h : vxs xs L = true) (k : Nat) : vxs xs (L.drop k) = true := by
  have a := vxs_iff.1 h
  exact vxs_iff.2 ⟨a.1, by rw [List.length_drop]; omega, fun x hx => a.2.2 x (List.mem_of_mem_drop hx)⟩
set_option maxHeartbeats 4000000 in
set_option maxRecDepth 100000 in
theorem fnValidExits_walk (A : Option Addr) (n cap : Nat) (bs : List By) (w : World) (hR : Sl w A n cap bs) :
    Calls Try.prog 3 #[.slice A n cap] w fun e w' => e = .returned (.bool true) ∧ Le w w' := by
  have hm := hR.n_le
  by_cases hbig : 1048576 < n
  · go_enter Try.func3, Try.ntmps3
    go_wp2
    go_ret
    exact ⟨rfl, Le.refl w⟩
  go_enter Try.func3, Try.ntmps3
  go_wp2_with fail
  refine (drawValidExits_any A n cap bs w hR).mono ?_
  rintro e w1 ⟨B, D, m, c, q, d, xs, L, rfl, S, hm8, S2, hq8, L0⟩
  obtain rfl := S2.len
  clear hbig hm hR
  go_wp2_with fail
  obtain ⟨ct, zt, hleB⟩ := box1 w1 (.slice B m c) 25
  replace S := S.le hleB
  replace L0 := L0.trans hleB
  replace S2 := S2.le hleB
  clear hleB
  generalize w1.alloc (.cells #[.slice B m c] 25) = W1 at *
  go_wp2_with fail
  refine (iValidExits_any B D m c _ d xs L W1 S S2).mono ?_
  rintro e w2 ⟨rfl, hle⟩
  replace ct := (hle.cell zt).trans ct
  replace zt := Nat.lt_of_lt_of_le zt hle.size
  replace S := S.le hle
  replace L0 := L0.trans hle
  replace S2 := S2.le hle
  clear hle
  go_wp2_with fail
  refine (sValidExits_any B D m c _ d xs L w2 S S2).mono ?_
  rintro e w3 ⟨rfl, hle⟩
  replace ct := (hle.cell zt).trans ct
  replace zt := Nat.lt_of_lt_of_le zt hle.size
  replace S := S.le hle
  replace L0 := L0.trans hle
  replace S2 := S2.le hle
  clear hle
  cases hv : vxs xs L
  · go_wp2_with fail
    refine (Calls.val (sValidExits_any B D m c _ d xs L w3 S S2) (by rw [hv])).mono ?_
    rintro e w4 ⟨rfl, hle⟩
    replace L0 := L0.trans hle
    clear hle
    go_wp2
    go_ret
    exact ⟨rfl, L0⟩
  rcases Nat.eq_zero_or_pos L.length with h0 | h0
  · have hz : ((L.length : Int) == 0) = true := by rw [h0]; rfl
    have Et := cell_ext zt ct
    clear h0 hv
    go_wp2_with fail
    refine wp_region_ext (by kernel_rfl) (by kernel_rfl) ?_
    repeat (go_big_quiet_step (fail))
    refine wpQuiet_nil ?_
    intro _ hw'
    obtain ⟨gg, rfl⟩ := hw'
    replace L0 := L0.trans (Le.ext w3 gg)
    go_wp2
    go_ret
    exact ⟨rfl, L0⟩
  · obtain ⟨j, hj⟩ : ∃ j, L.length = j + 1 := ⟨L.length - 1, by omega⟩
    have HT := vxs_take hv j
    have HD := vxs_drop hv 1
    have hcap := S2.cap_
    rw [hj] at S2 hcap ⊢
    have ST := S2.take_ j (by omega)
    obtain ⟨b, off, rfl, hb, -⟩ := S2.xit_at (k := 0) (by omega)
    have hz : (((j + 1 : Nat) : Int) == 0) = false := beq_eq_false_iff_ne.2 (by omega)
    have hz2 : (((j : Int) + 1) == 0) = false := beq_eq_false_iff_ne.2 (by omega)
    have hwj : IntKind.i64.wrap ((j : Int) + 1 - 1) = (j : Int) := by rw [Int.add_sub_cancel]; exact IntWalk.i64_in _ (by omega)
    have hjc : (j : Int) ≤ (d : Int) := by omega
    have hj8 : j ≤ 7 := by omega
    have hj8i : (j : Int) ≤ 7 := by omega
    have hj0i : (0 : Int) ≤ (j : Int) := by omega
    have hj1 : (1 : Int) ≤ (j : Int) + 1 := by omega
    have hd1 : (1 : Int) ≤ (d : Int) := by omega
    have Et := cell_ext zt ct
    have hv1 : ∀ (g : Ext w3) (_ : True), Calls Try.prog 7 #[.agg #[.slice B m c], .slice (some ⟨b, off, none⟩) j d] (w3.ext g) fun e w' => e = .returned (.bool true) ∧ Le (w3.ext g) w' := fun g _ => Calls.val (iValidExits_any B _ m c j d xs (L.take j) _ (S.le (Le.ext w3 g)) (ST.le (Le.ext w3 g))) (by rw [HT])
    by_cases hc : d = 1
    · have SN : Sl w3 (some ⟨b, off, none⟩) 0 0 (L.drop 1) := by
        have e : L.drop 1 = [] := List.drop_eq_nil_of_le (by omega)
        rw [e]; exact Sl.nil _ _ _ (by omega)
      have hv2 : ∀ (g : Ext w3) (_ : True), Calls Try.prog 7 #[.agg #[.slice B m c], .slice (some ⟨b, off, none⟩) 0 0] (w3.ext g) fun e w' => e = .returned (.bool true) ∧ Le (w3.ext g) w' := fun g _ => Calls.val (iValidExits_any B _ m c 0 0 xs (L.drop 1) _ (S.le (Le.ext w3 g)) (SN.le (Le.ext w3 g))) (by rw [HD])
      obtain rfl : j = 0 := by omega
      subst hc
      clear hj HT HD hcap hv SN ST h0
      go_wp2_with fail
      refine wp_region_ext (by kernel_rfl) (by kernel_rfl) ?_
      repeat (go_big_quiet_step (first | (go_at_call 7; with_reducible exact Calls.ext_of (hv1 _ trivial)) | (go_at_call 7; with_reducible exact Calls.ext_of (hv2 _ trivial))))
      refine wpQuiet_nil ?_
      intro _ hw'
      obtain ⟨gg, rfl⟩ := hw'
      replace L0 := L0.trans (Le.ext w3 gg)
      go_wp2
      go_ret
      exact ⟨rfl, L0⟩
    · have SN : Sl w3 (some ⟨b, off + 3, none⟩) j (d - 1) (L.drop 1) := xitSl_drop S2 1 (by omega)
      have hv2 : ∀ (g : Ext w3) (_ : True), Calls Try.prog 7 #[.agg #[.slice B m c], .slice (some ⟨b, off + 3, none⟩) j (d - 1)] (w3.ext g) fun e w' => e = .returned (.bool true) ∧ Le (w3.ext g) w' := fun g _ => Calls.val (iValidExits_any B _ m c j (d - 1) xs (L.drop 1) _ (S.le (Le.ext w3 g)) (SN.le (Le.ext w3 g))) (by rw [HD])
      clear hj HT HD hcap hv SN ST h0
      go_wp2_with fail
      refine wp_region_ext (by kernel_rfl) (by kernel_rfl) ?_
      repeat (go_big_quiet_step (first | (go_at_call 7; with_reducible exact Calls.ext_of (hv1 _ trivial)) | (go_at_call 7; with_reducible exact Calls.ext_of (hv2 _ trivial))))
      refine wpQuiet_nil ?_
      intro _ hw'
      obtain ⟨gg, rfl⟩ := hw'
      replace L0 := L0.trans (Le.ext w3 gg)
      go_wp2
      go_ret
      exact ⟨rfl, L0⟩
theorem Calls.pop {f : FuncId} {args : Array Value} {w : World} {T : TypeId} {L : List Xit} {x : Xit} {b : Bool} (h : Calls Try.prog f args w fun e w' => ∃ v, e = .returned (.tuple #[v, .agg #[.int .i64 x.kind, .int .i64 x.a, .int .i64 x.b], .bool b]) ∧ Owd T w w' v L ∧ Le w w') : Calls Try.prog f args w fun e w' => ∃ A c, e = .returned (.tuple #[.slice A L.length c, .agg #[.int .i64 x.kind, .int .i64 x.a, .int .i64 x.b], .bool b]) ∧ Sl w' A L.length c L ∧ Le w w' := by
  refine h.mono ?_
  rintro e w' ⟨v, rfl, D, hle⟩
  obtain ⟨A, c, rfl, S, _⟩ := D.form (by decide)
  exact ⟨A, c, rfl, S, hle⟩
theorem Calls.push {f : FuncId} {args : Array Value} {w : World} {T : TypeId} {L M : List Xit} {b b2 : Bool} (e1 : L = M) (e2 : b = b2) (h : Calls Try.prog f args w fun e w' => ∃ v, e = .returned (.tuple #[v, .bool b]) ∧ Owd T w w' v L ∧ Le w w') : Calls Try.prog f args w fun e w' => ∃ A c, e = .returned (.tuple #[.slice A M.length c, .bool b2]) ∧ Sl w' A M.length c M ∧ Le w w' := by
  subst e1; subst e2
  refine h.mono ?_
  rintro e w' ⟨v, rfl, D, hle⟩
  obtain ⟨A, c, rfl, S, _⟩ := D.form (by decide)
  exact ⟨A, c, rfl, S, hle⟩
theorem po_back {xs : List Cls} {L : List Xit} (h : poOk xs L = true) : poX xs L ++ [poE xs L] = L ∧ vxs xs L = true ∧ poE xs L ∈ L := by
  have h2 := h
  unfold poOk at h2
  rw [Bool.and_eq_true, decide_eq_true_eq] at h2
  have e1 : poX xs L = L.take (L.length - 1) := by unfold poX; rw [h]; rfl
  have e2 : poE xs L = L[L.length - 1]'(by omega) := by unfold poE; rw [h]; show ((L[L.length - 1]?).getD _) = _; rw [List.getElem?_eq_getElem (by omega)]; rfl
  refine ⟨?_, h2.1, by rw [e2]; exact List.getElem_mem _⟩
  rw [e1, e2]
  have := List.take_append_getElem (l := L) (i := L.length - 1) (by omega)
  rw [this, List.take_of_length_le (by omega)]
set_option maxHeartbeats 4000000 in
set_option maxRecDepth 100000 in
theorem fnPopExit_walk (A : Option Addr) (n cap : Nat) (bs : List By) (w : World) (hR : Sl w A n cap bs) :
    Calls Try.prog 5 #[.slice A n cap] w fun e w' => e = .returned (.bool true) ∧ Le w w' := by
  have hm := hR.n_le
  by_cases hbig : 1048576 < n
  · go_enter Try.func5, Try.ntmps5
    go_wp2
    go_ret
    exact ⟨rfl, Le.refl w⟩
  go_enter Try.func5, Try.ntmps5
  go_wp2_with fail
  refine (drawPopExit_any A n cap bs w hR).mono ?_
  rintro e w1 ⟨B, D, m, c, q, d, xs, L, rfl, S, hm8, S2, hq8, L0⟩
  obtain rfl := S2.len
  clear hbig hm hR
  have hsm : L.length ≤ 1048576 := by omega
  have hpl := poX_len xs L
  go_wp2_with fail
  obtain ⟨ct, zt, hleB⟩ := box1 w1 (.slice B m c) 25
  replace S := S.le hleB
  replace L0 := L0.trans hleB
  replace S2 := S2.le hleB
  clear hleB
  generalize w1.alloc (.cells #[.slice B m c] 25) = W1 at *
  go_wp2_with fail
  refine (Calls.pop (iPopExit_any B D m c _ d xs L hsm W1 S S2)).mono ?_
  rintro e w2 ⟨A3, c3, rfl, S3, hle⟩
  replace ct := (hle.cell zt).trans ct
  replace zt := Nat.lt_of_lt_of_le zt hle.size
  replace S := S.le hle
  replace L0 := L0.trans hle
  replace S2 := S2.le hle
  clear hle
  obtain ⟨x0, x1, x2, zx, LX⟩ := boxT w2 (.int .i64 (poE xs L).kind) (.int .i64 (poE xs L).a) (.int .i64 (poE xs L).b) 32
  replace ct := (LX.cell zt).trans ct
  replace zt := Nat.lt_of_lt_of_le zt LX.size
  replace S := S.le LX
  replace L0 := L0.trans LX
  replace S2 := S2.le LX
  replace S3 := S3.le LX
  clear LX
  go_wp2_with fail
  generalize w2.alloc (.cells #[.int .i64 (poE xs L).kind, .int .i64 (poE xs L).a, .int .i64 (poE xs L).b] 32) = W2 at *
  generalize w2.heap.size = xb at *
  refine (Calls.pop (sPopExit_any B D m c _ d xs L hsm W2 S S2)).mono ?_
  rintro e w3 ⟨A4, c4, rfl, S4, hle⟩
  replace x0 := (hle.cell zx).trans x0
  replace x1 := (hle.cell zx).trans x1
  replace x2 := (hle.cell zx).trans x2
  replace zx := Nat.lt_of_lt_of_le zx hle.size
  replace ct := (hle.cell zt).trans ct
  replace zt := Nat.lt_of_lt_of_le zt hle.size
  replace S := S.le hle
  replace L0 := L0.trans hle
  replace S2 := S2.le hle
  replace S3 := S3.le hle
  obtain ⟨y0, y1, y2, zy, LY⟩ := boxT w3 (.int .i64 (poE xs L).kind) (.int .i64 (poE xs L).a) (.int .i64 (poE xs L).b) 32
  replace x0 := (LY.cell zx).trans x0
  replace x1 := (LY.cell zx).trans x1
  replace x2 := (LY.cell zx).trans x2
  replace zx := Nat.lt_of_lt_of_le zx LY.size
  replace ct := (LY.cell zt).trans ct
  replace zt := Nat.lt_of_lt_of_le zt LY.size
  replace S := S.le LY
  replace L0 := L0.trans LY
  replace S2 := S2.le LY
  replace S3 := S3.le LY
  replace S4 := S4.le LY
  clear LY
  go_wp2_with fail
  generalize w3.alloc (.cells #[.int .i64 (poE xs L).kind, .int .i64 (poE xs L).a, .int .i64 (poE xs L).b] 32) = W3 at *
  generalize w3.heap.size = yb at *
  refine (equalExits_self _ _ _ _ _ _ _ S3 S4).mono ?_
  rintro e w4 ⟨rfl, hle⟩
  replace x0 := (hle.cell zx).trans x0
  replace x1 := (hle.cell zx).trans x1
  replace x2 := (hle.cell zx).trans x2
  replace zx := Nat.lt_of_lt_of_le zx hle.size
  replace y0 := (hle.cell zy).trans y0
  replace y1 := (hle.cell zy).trans y1
  replace y2 := (hle.cell zy).trans y2
  replace zy := Nat.lt_of_lt_of_le zy hle.size
  replace ct := (hle.cell zt).trans ct
  replace zt := Nat.lt_of_lt_of_le zt hle.size
  replace S := S.le hle
  replace L0 := L0.trans hle
  replace S2 := S2.le hle
  replace S3 := S3.le hle
  replace S4 := S4.le hle
  have b0 : ((poE xs L).kind == (poE xs L).kind) = true := by simp
  have b1 : ((poE xs L).a == (poE xs L).a) = true := by simp
  have b2 : ((poE xs L).b == (poE xs L).b) = true := by simp
  cases hok : poOk xs L
  · generalize (poE xs L).kind = vk at *
    generalize (poE xs L).a = va at *
    generalize (poE xs L).b = vb at *
    go_wp2_with fail
    refine (equalExits_self _ _ _ _ _ _ _ S3 S4).mono ?_
    rintro e w5 ⟨rfl, hle⟩
    replace x0 := (hle.cell zx).trans x0
    replace x1 := (hle.cell zx).trans x1
    replace x2 := (hle.cell zx).trans x2
    replace y0 := (hle.cell zy).trans y0
    replace y1 := (hle.cell zy).trans y1
    replace y2 := (hle.cell zy).trans y2
    replace L0 := L0.trans hle
    go_wp2
    go_ret
    exact ⟨rfl, L0⟩
  · obtain ⟨hb, hv, hmem⟩ := po_back hok
    have hxok := S2.ok _ hmem
    have hpu : jxX xs (poX xs L) [poE xs L] = L := by unfold jxX; rw [hb, hv]; rfl
    have hpv : vxs xs (poX xs L ++ [poE xs L]) = true := by rw [hb]; exact hv
    have HC : Hid (∀ w, Sl w B m c xs → Sl w A3 (poX xs L).length c3 (poX xs L) → Calls Try.prog 10 #[.agg #[.slice B m c], .slice A3 (poX xs L).length c3, .agg #[.int .i64 (poE xs L).kind, .int .i64 (poE xs L).a, .int .i64 (poE xs L).b]] w fun e w' => ∃ A c, e = .returned (.tuple #[.slice A L.length c, .bool true]) ∧ Sl w' A L.length c L ∧ Le w w') := fun w h1 h2 => Calls.push hpu hpv (iPushExit_any B A3 m c _ c3 xs (poX xs L) (poE xs L) hxok hpl w h1 h2)
    clear hb hv hmem hxok hpu hpv hok
    generalize (poE xs L).kind = vk at *
    generalize (poE xs L).a = va at *
    generalize (poE xs L).b = vb at *
    generalize poX xs L = P at *
    go_wp2_with fail
    refine (HC.out _ S S3).mono ?_
    rintro e w5 ⟨A5, c5, rfl, S5, hle⟩
    replace L0 := L0.trans hle
    replace S2 := S2.le hle
    go_wp2_with fail
    refine (equalExits_self _ _ _ _ _ _ _ S5 S2).mono ?_
    rintro e w6 ⟨rfl, hle⟩
    replace L0 := L0.trans hle
    clear hle
    go_wp2
    go_ret
    exact ⟨rfl, L0⟩
end Go.Proofs.Ytdpojpgdfklfkaa
