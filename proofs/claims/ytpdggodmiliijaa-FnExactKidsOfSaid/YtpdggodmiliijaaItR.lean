/- groups: kids of the model -/
import Derived.Test.YtpdggodmiliijaaItQ
import Derived.Test.YtpdggodmiliijaaItNa
import Derived.Test.YtpdggodmiliijaaGpE
import Derived.Test.YtpdggodmiliijaaNL
import Derived.Test.YtpdggodmiliijaaRZp
namespace Go.Proofs.Ytpdggodmiliijaa
open Go.RowKit
theorem infoPartSl' : (Try.prog.info? 34).map (fun i => (i.zero, i.size, i.bytes)) = some (some (.slice none 0 0), 1, 24) := by kernel_rfl
theorem step_append_slG {α : Type} [Enc α] [EncOne α] {P : Program} {w : World} {ops : Array Oper} {o : Oper} {a : Act} {K : Act → World → Prop} {Q : Exit → Act → World → Prop} {E : Prop} (hw : Region.wanted o (yielded ops a.tmps) = true) (s x : Operand) (t : TypeId)
    (ho : o.op = .call { callee := .builtin .append, args := #[s, x], argTypes := #[t, t] })
    (base : Nat) (e : TypeId) (i : TypeInfo) (z : Value) (bytes : Nat) (ht : P.underlying t = some (.slice e)) (hi : P.info? e = some i) (hz : i.zero = some z)
    (hsize : i.size = Enc.size α) (hby : i.bytes = bytes) (hzs : z.cells.size = Enc.size α) (v : Value) (n : Nat) (xs : List α) (hs : a.eval s = v) (hown : w.ownsRow base e (Enc.size α) v n (xs.flatMap Enc.cells))
    (A : Option Addr) (m c : Nat) (ys : List α) (hx : a.eval x = .slice A m c) (hS : Sl w A m c ys) (h63 : n + m ≤ maxLen) (hbytes : (n + m) * bytes ≤ 140737488355328) (hbase : base ≤ w.heap.size)
    (h : ∀ v' w', w'.ownsRow base e (Enc.size α) v' (n + m) ((xs ++ ys).flatMap Enc.cells) → w.grownBy w' v.ownBlock → (v'.ownBlock = v.ownBlock ∨ v'.ownBlock = some w.heap.size) → K (a.put o.dst v') w') :
    if Region.wanted o (yielded ops a.tmps) = true then Oper.wp P o a w K Q else E := by
  rw [if_pos hw]
  exact wp_append_sl s x t ho base e i z bytes ht hi hz hsize hby hzs v n xs hs hown A m c ys hx hS h63 hbytes hbase h
/-- what lies right below a group, from the part i on -/
def kidAt (g : List Prt) (i : Nat) : List Prt := shiftL (piece g i) (-(gAt g i).depth)
def kidsL (g : List Prt) : List (List Prt) := (kdS g g.length 1 g.length).map (kidAt g)
theorem piece_mem {g : List Prt} {i : Nat} {p : Prt} (h : p ∈ piece g i) : p ∈ g := List.mem_of_mem_drop (List.mem_of_mem_take h)
theorem piece_len {g : List Prt} {i : Nat} (h : i < g.length) : (piece g i).length = endN g i - i := by
  have := endN_le h
  unfold piece
  rw [List.length_take, List.length_drop]; omega
theorem good_deep {xs : List Cls} {g : List Prt} (G : GoodG xs g) : ∀ p ∈ g, 0 ≤ p.depth ∧ p.depth ≤ 5 := fun p hp => by
  obtain ⟨i, hi, e⟩ := List.getElem_of_mem hp
  rcases Nat.eq_zero_or_pos i with rfl | h
  · have := G.first; rw [gAt_at hi, e] at this; omega
  · have := G.deep i h hi; rw [gAt_at hi, e] at this; omega
theorem Sl.piece {w : World} {b off n cap : Nat} {g : List Prt} (h : Sl w (some ⟨b, off, none⟩) n cap g) {k : Nat} (hk : k < g.length) : Sl w (some ⟨b, off + k * 4, none⟩) (endN g k - k) (cap - k) (piece g k) := by
  have := endN_le hk
  have := endN_gt g k
  have hl := h.len
  have S := (h.cutS k (by omega) (s := k * 4) rfl).take_ (endN g k - k) (by omega)
  have hadd : (⟨b, off, none⟩ : Addr).add (k * 4) = ⟨b, off + k * 4, none⟩ := by
    unfold Addr.add; split
    · simp
    · rfl
  rw [hadd] at S
  exact S
set_option maxRecDepth 100000 in
set_option maxHeartbeats 2000000 in
theorem sKids_any (B : Option Addr) (m c : Nat) (xs : List Cls) (g : List Prt) (G : GoodG xs g) (w : World) (hG : Sl w B m c g) :
    Calls Try.prog 69 #[.slice B m c] w fun e w' => ∃ v hs, e = .returned v ∧ OwL 34 70 w w' v hs (kidsL g) ∧ Le w w' := by
  obtain ⟨i0, hi, hz0, hz1, hz2⟩ := info_parts infoPartSl'
  obtain rfl := hG.len
  have hmx := G.len
  have hdp := good_deep G
  obtain ⟨bz, oz, rfl, hb0, -⟩ := hG.prt_at (k := 0) (by omega)
  go_enter Try.func69, Try.ntmps69
  go_wp2
  have O0 : OwL 34 70 w (w.alloc (.cells #[] 34)) (.slice (some ⟨w.heap.size, 0, none⟩) 0 0) [] ([] : List (List Prt)) := ⟨⟨own_empty (Nat.le_refl _) rfl, fun _ _ => trivial⟩, rfl, fun i h l e => by simp at e, fun i j h k e => by simp at e, fun i h e => by simp at e⟩
  have L0 := Le.new w (.cells #[] 34)
  generalize w.alloc (.cells #[] 34) = w1 at *
  go_loopw [3, 4] (fun v i wr => ∃ (f mm : Nat) (ks : List Nat) (hs : List Hdr), 1 ≤ f ∧ f ≤ g.length ∧ i = .int .i64 f ∧ g.length - f ≤ mm ∧ ks ++ kdS g mm f g.length = kdS g g.length 1 g.length ∧ ks.length < f ∧ OwL 34 70 w wr v hs (ks.map (kidAt g)) ∧ Le w wr) (fun _ i _ => g.length - (intOf i).toNat)
  case atStart => exact ⟨1, g.length, [], [], Nat.le_refl _, hmx.1, rfl, by omega, rfl, Nat.zero_lt_one, O0, L0⟩
  case round =>
    obtain ⟨f, mm, ks, hs, hf0, hf, rfl, hmm, hks, hkl, O1, L1⟩ := hrel
    have HKS := Lib.hid hks
    clear hks O0 L0
    by_cases hlt : f < g.length
    · obtain ⟨m', rfl⟩ : ∃ m', mm = m' + 1 := ⟨mm - 1, by omega⟩
      have HK : Hid (kdS g (m' + 1) f g.length = f :: kdS g m' (endN g f) g.length) := by
        show (if f < g.length then _ else _) = _
        rw [if_pos hlt]
      have HSTEP : Hid ((ks ++ [f]) ++ kdS g m' (endN g f) g.length = kdS g g.length 1 g.length) := by
        show _ = _
        rw [← HKS.out, HK.out, List.append_assoc]; rfl
      have hgt := endN_gt g f
      have hle0 := endN_le hlt
      have SG := hG.le L1
      obtain ⟨b1, off1, e1, hb1, q0, -⟩ := SG.prt_at hlt
      cases e1
      have hdk := hdp g[f] (List.getElem_mem hlt)
      have SP := SG.piece hlt
      have hlt3 : hs.length < 16 := by have h1 := O1.len; rw [List.length_map] at h1; omega
      have HSL := O1.top.row
      obtain ⟨A1, c1, rfl⟩ := own_form HSL
      go_wp2_with fail
      refine wp_region_noPanic ?_
      refine wp_region_Z (fun w' => w'.cell? ⟨bz, oz + f * 4, none⟩ = some (.int .i64 g[f].depth)) [] (by kernel_rfl) ?_
      have q1 : wr.drew.cell? ⟨bz, oz + f * 4, none⟩ = some (.int .i64 g[f].depth) := q0
      have SG1 := SG.le (Le.refl wr).drew
      have O2 := O1.le (Le.refl wr).drew
      have hb2 : bz < wr.drew.heap.size := hb1
      have L2 := L1.drew
      generalize wr.drew = V at *
      have HDN : Hid (shiftL (piece g f) (-g[f].depth) = kidAt g f) := by show _ = _; unfold kidAt; rw [gAt_at hlt]
      have hwn : IntKind.i64.wrap (-g[f].depth) = -g[f].depth := IntWalk.i64_in _ (by omega)
      refine wpAnyZ_take (i := 0) (v := ?_) rfl (by kernel_rfl) (fun _ _ _ h => h) (Or.inl ⟨by rfl, ?_⟩) (q1) ?_
      rotate_left 1
      · (intro w hSw; (try dsimp only at hSw); go_simp; try with_reducible rfl)
      try simp only [Act.put, List.setIfInBounds_toArray, List.set_cons_zero, List.set_cons_succ]
      refine wpAnyZ_take (i := 1) (v := ?_) rfl (by kernel_rfl) (fun _ _ _ h => h) (Or.inl ⟨by rfl, ?_⟩) (q1) ?_
      rotate_left 1
      · (intro w hSw; (try dsimp only at hSw); go_simp; try with_reducible rfl)
      try simp only [Act.put, List.setIfInBounds_toArray, List.set_cons_zero, List.set_cons_succ]
      refine wpAnyZ_take (i := 2) (v := ?_) rfl (by kernel_rfl) (fun _ _ _ h => h) (Or.inl ⟨by rfl, ?_⟩) (q1) ?_
      rotate_left 1
      · (intro w hSw; (try dsimp only at hSw); go_simp; try with_reducible rfl)
      try simp only [Act.put, List.setIfInBounds_toArray, List.set_cons_zero, List.set_cons_succ]
      refine wpAnyZ_take (i := 3) (v := ?_) rfl (by kernel_rfl) (fun _ _ _ h => h) (Or.inl ⟨by rfl, ?_⟩) (q1) ?_
      rotate_left 1
      · (intro w hSw; (try dsimp only at hSw); go_simp; try with_reducible rfl)
      try simp only [Act.put, List.setIfInBounds_toArray, List.set_cons_zero, List.set_cons_succ]
      refine wpAnyZ_take (i := 4) (v := ?_) rfl (by kernel_rfl) (fun _ _ _ h => h) (Or.inl ⟨by rfl, ?_⟩) (q1) ?_
      rotate_left 1
      · (intro w hSw; (try dsimp only at hSw); go_simp; try with_reducible rfl)
      try simp only [Act.put, List.setIfInBounds_toArray, List.set_cons_zero, List.set_cons_succ]
      refine wpAnyZ_take (i := 7) (v := ?_) rfl (by kernel_rfl) (fun _ _ _ h => h) (Or.inl ⟨by rfl, ?_⟩) (q1) ?_
      rotate_left 1
      · (intro w hSw; (try dsimp only at hSw); go_simp; try with_reducible rfl)
      try simp only [Act.put, List.setIfInBounds_toArray, List.set_cons_zero, List.set_cons_succ]
      refine wpAnyZ_take (i := 8) (v := ?_) rfl (by kernel_rfl) (fun _ _ _ h => h) (Or.inl ⟨by rfl, ?_⟩) (q1) ?_
      rotate_left 1
      · (intro w hSw; (try dsimp only at hSw); go_simp; try with_reducible rfl)
      try simp only [Act.put, List.setIfInBounds_toArray, List.set_cons_zero, List.set_cons_succ]
      refine wpAnyZ_take (i := 9) (v := ?_) rfl (by kernel_rfl) (fun _ _ _ h => h) (Or.inl ⟨by rfl, ?_⟩) (q1) ?_
      rotate_left 1
      · (intro w hSw; (try dsimp only at hSw); go_simp; try with_reducible rfl)
      try simp only [Act.put, List.setIfInBounds_toArray, List.set_cons_zero, List.set_cons_succ]
      refine wpAnyZ_take (i := 10) (v := ?_) rfl (by kernel_rfl) (fun _ _ _ h => h) (Or.inl ⟨by rfl, ?_⟩) (q1) ?_
      rotate_left 1
      · (intro w hSw; (try dsimp only at hSw); go_simp; try with_reducible rfl)
      try simp only [Act.put, List.setIfInBounds_toArray, List.set_cons_zero, List.set_cons_succ]
      refine wpAnyZ_take (i := 11) (v := ?_) rfl (by kernel_rfl) (fun _ _ _ h => h) (Or.inl ⟨by rfl, ?_⟩) (q1) ?_
      rotate_left 1
      · (intro w hSw; (try dsimp only at hSw); go_simp; try with_reducible rfl)
      try simp only [Act.put, List.setIfInBounds_toArray, List.set_cons_zero, List.set_cons_succ]
      refine wpAnyZ_take (i := 12) (v := ?_) rfl (by kernel_rfl) (fun _ _ _ h => h) (Or.inl ⟨by rfl, ?_⟩) (q1) ?_
      rotate_left 1
      · (intro w hSw; (try dsimp only at hSw); go_simp; try with_reducible rfl)
      try simp only [Act.put, List.setIfInBounds_toArray, List.set_cons_zero, List.set_cons_succ]
      refine wpAnyZ_one (i := 5) (by kernel_rfl) (ReadyZ.mk rfl (fun K hK => ?_))
      go_simp
      go_at_call 77
      refine (endOf_any _ _ _ g f hlt _ SG1).mono ?_
      rintro e V1 ⟨rfl, hl1⟩
      have q2 := (hl1.cell hb2).trans q1
      refine hK.out _ _ (fun _ => q2) ?_
      clear hK K
      try simp only [Act.put, List.setIfInBounds_toArray, List.set_cons_zero, List.set_cons_succ]
      have hcc := hG.cap_
      have hc1 : endN g f ≤ c := by omega
      have hc2 : f ≤ endN g f := by omega
      have hc3 : ¬ c = f := by omega
      refine wpAnyZ_take (i := 6) (v := ?_) rfl (by kernel_rfl) (fun _ _ _ h => h) (Or.inl ⟨by rfl, ?_⟩) (q2) ?_
      rotate_left 1
      · (intro w hSw; (try dsimp only at hSw); go_simp; try with_reducible rfl)
      try simp only [Act.put, List.setIfInBounds_toArray, List.set_cons_zero, List.set_cons_succ]
      have SP2 := (SG1.le hl1).piece hlt
      have hb3 := Nat.lt_of_lt_of_le hb2 hl1.size
      refine wpAnyZ_one (i := 13) (by kernel_rfl) (ReadyZ.mk rfl (fun K hK => ?_))
      go_simp
      go_at_call 93
      refine (deeper_any _ _ _ _ (-g[f].depth) _ SP2 (by omega) (fun p hp => by have := hdp p (piece_mem hp); omega) (by omega)).mono ?_
      rintro e V2 ⟨u, rfl, O3, hl2⟩
      obtain ⟨Au, cu, rfl, Su, -⟩ := O3.form (by decide)
      have q3 := (hl2.cell hb3).trans q2
      refine hK.out _ _ (fun _ => q3) ?_
      clear hK K
      try simp only [Act.put, List.setIfInBounds_toArray, List.set_cons_zero, List.set_cons_succ]
      refine wpAnyZ_one (i := 14) (by kernel_rfl) (ReadyZ.mk rfl (fun K hK => ?_))
      go_simp
      have hl3 := Le.new V2 (.cells #[.slice Au (shiftL (piece g f) (-g[f].depth)).length cu] 34)
      have SX := sl_one (w := V2) (cs := #[.slice Au (shiftL (piece g f) (-g[f].depth)).length cu]) (T := 34) (⟨Au, (shiftL (piece g f) (-g[f].depth)).length, cu⟩ : Hdr) rfl trivial (b := V2.heap.size) rfl
      generalize V2.alloc (.cells #[.slice Au (shiftL (piece g f) (-g[f].depth)).length cu] 34) = V3 at *
      have q4 := (hl3.cell (Nat.lt_of_lt_of_le hb3 hl2.size)).trans q3
      refine hK.out _ _ (fun _ => q4) ?_
      clear hK K
      try simp only [Act.put, List.setIfInBounds_toArray, List.set_cons_zero, List.set_cons_succ]
      have OL3 := O2.le ((hl1.trans hl2).trans hl3)
      refine wpAnyZ_one (i := 15) (by kernel_rfl) (ReadyZ.mk rfl (fun K hK => ?_))
      refine step_append_slG (by first | rfl | simp [Region.wanted, yielded]) _ _ 48 rfl w.heap.size 34 i0 _ 24 Try.underlying48 hi hz0 hz1 hz2 rfl _ hs.length hs rfl OL3.top.row _ 1 1 [(⟨Au, (shiftL (piece g f) (-g[f].depth)).length, cu⟩ : Hdr)] rfl SX (by unfold maxLen; omega) (by omega) (((L2.trans (hl1.trans hl2)).trans hl3).size) ?_
      intro v4 V4 O4 hg4 hat4
      have OLN := OwL.snoc OL3 (h := ⟨Au, (shiftL (piece g f) (-g[f].depth)).length, cu⟩) (l := shiftL (piece g f) (-g[f].depth)) ((O3.le hl3).mono (L2.trans hl1)) (OwL.later O2 hl1.size O3).1 (OwL.later O2 hl1.size O3).2 O4 hg4 hat4
      have L4 := ((L2.trans (hl1.trans hl2)).trans hl3).grown hg4 (fun k hk => (OL3.top.row.lt k hk).1)
      have q5 : V4.cell? ⟨bz, oz + f * 4, none⟩ = some (.int .i64 g[f].depth) := hg4.cell q4 (fun e => by have := (OL3.top.row.lt bz e.symm).1; omega)
      refine hK.out _ _ (fun _ => q5) ?_
      clear hK K
      try simp only [Act.put, List.setIfInBounds_toArray, List.set_cons_zero, List.set_cons_succ]
      refine wpAnyZ_take (i := 16) (v := ?_) rfl (by kernel_rfl) (fun _ _ _ h => h) (Or.inl ⟨by rfl, ?_⟩) (q5) ?_
      rotate_left 1
      · (intro w hSw; (try dsimp only at hSw); go_simp; try with_reducible rfl)
      try simp only [Act.put, List.setIfInBounds_toArray, List.set_cons_zero, List.set_cons_succ]
      refine wpAnyZ_done (by kernel_rfl) ?_ _
      refine NoPanic.normal ?_
      rw [HDN.out] at OLN
      have HO := Lib.hid OLN
      have SG4 := hG.le L4
      have HL4 := Lib.hid L4
      obtain ⟨A4, c4, rfl⟩ := own_form O4
      clear OLN O4 hg4 hat4 OL3 SX O3 Su O2 q1 q2 q3 q4 q5 q0 HSL O1 SG1 SP2 SP
      go_wp2_with fail
      refine (endOf_any _ _ _ g f hlt _ SG4).mono ?_
      rintro e V5 ⟨rfl, hl5⟩
      go_wp2
      go_roundw
      case rel => exact ⟨endN g f, m', ks ++ [f], _, by omega, by omega, rfl, by omega, HSTEP.out, by simp; omega, by rw [List.map_append]; exact HO.out.le hl5, HL4.out.trans hl5⟩
      case measure => simp [intOf]; omega
    · have HE : Hid (ks.map (kidAt g) = kidsL g) := by
        show _ = _
        unfold kidsL
        rw [← HKS.out]
        cases mm with
        | zero => simp [kdS]
        | succ mm => rw [show kdS g (mm + 1) f g.length = [] from if_neg hlt, List.append_nil]
      rw [HE.out] at O1
      go_wp2
      go_ret
      exact ⟨_, hs, rfl, O1, L1⟩
end Go.Proofs.Ytpdggodmiliijaa
