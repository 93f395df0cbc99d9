/- the law FnCallFrom -/
import Derived.Test.YtakkmgeocmndjaaFT0
import Derived.Test.YtakkmgeocmndjaaDO
import Derived.Test.YtakkmgeocmndjaaTrI
import Derived.Deep.RegionHeld3
namespace Go.Proofs.Ytakkmgeocmndjaa
open Go.RowKit
theorem wpAnyH_takeL {P : Program} {l : List Oper} {Q : Exit → Act → World → Prop} {md : Region.Mode} {S : World → Prop} {i : Nat} {oi : Oper} {v : Value} {fuel : Nat} {listed : Array Bool} {a : Act} {w : World} (hi : l[i]? = some oi)
    (hs : Region.noSelect l.toArray = true) (hf : Region.free md l.toArray listed i = true) (hr : (Region.ready md l.toArray listed).contains i = true)
    (hQ : ∀ c a w, Q (.panic c) (a.put oi.dst v) w → Q (.panic c) a w) (hy : YieldsIf P l.toArray S oi v a) (hS : S w)
    (h : wpAnyH P md l.toArray Q S fuel (listed.setIfInBounds i true) (a.put oi.dst v) w) : wpAnyH P md l.toArray Q S (fuel + 1) listed a w :=
  wpAnyH_take (by rw [List.getElem?_toArray]; exact hi) hs hf hr hQ hy hS h
theorem AllReadyH.consL {P : Program} {l : List Oper} {Q : Exit → Act → World → Prop} {md : Region.Mode} {S : World → Prop} {fuel : Nat} {listed : Array Bool} {a : Act} {w : World} {i : Nat} {o : Oper} {rs : List Nat} (ho : l[i]? = some o)
    (h : ∀ K' : Act → World → Prop, Shut (∀ a w, S w → (S w → wpAnyH P md l.toArray Q S fuel (listed.setIfInBounds i true) a w) → K' a w) → if Region.wanted o (yielded l.toArray a.tmps) = true then Oper.wp P o a w K' Q else K' (a.put o.dst undef) w)
    (hs : AllReadyH P md l.toArray Q S fuel listed a w rs) : AllReadyH P md l.toArray Q S fuel listed a w (i :: rs) :=
  AllReadyH.cons (by rw [List.getElem?_toArray]; exact ho) h hs

set_option maxHeartbeats 1000000 in
set_option maxRecDepth 100000 in
theorem fnCallFrom_walk (A : Option Addr) (n cap : Nat) (bs : List By) (w : World) (hR : Sl w A n cap bs) :
    Calls Try.prog 4 #[.slice A n cap] w fun e w' => e = .returned (.bool true) ∧ Le w w' := by
  have hm := hR.n_le
  by_cases hbig : 1048576 < n
  · go_enter Try.func4, Try.ntmps4
    go_wp2
    go_ret
    exact ⟨rfl, Le.refl w⟩
  go_enter Try.func4, Try.ntmps4
  go_wp2_with fail
  refine (drawCallFrom_any A n cap bs w hR).mono ?_
  rintro e w1 ⟨B, m, c, xs, f, rfl, S, hm8, hf, L0⟩
  go_wp2_with fail
  obtain ⟨cf0, cf1, zf0, hlb⟩ := boxF w1 f 28
  have zf1 := zf0
  generalize hW : w1.alloc (.cells #[.string f.fn, .int .i64 f.line] 28) = W at *
  clear hW
  replace S := S.le hlb
  replace L0 := L0.trans hlb
  clear hlb
  generalize w1.heap.size = FB at *
  refine (Calls.sl2 (by decide) (iCallFrom_any _ _ _ xs f _ S hf (by omega))).mono ?_
  rintro e w2 ⟨A3, c3, rfl, S3, hle⟩
  replace cf0 := (hle.cell zf0).trans cf0
  replace cf1 := (hle.cell zf1).trans cf1
  replace S := S.le hle
  replace L0 := L0.trans hle
  replace zf0 := Nat.lt_of_lt_of_le zf0 hle.size
  replace zf1 := Nat.lt_of_lt_of_le zf1 hle.size
  clear hle
  go_wp2_with fail
  refine (Calls.sl2 (by decide) (sCallFrom_any _ _ _ xs f _ S hf (by omega))).mono ?_
  rintro e w3 ⟨A4, c4, rfl, S4, hle⟩
  replace cf0 := (hle.cell zf0).trans cf0
  replace cf1 := (hle.cell zf1).trans cf1
  replace S := S.le hle
  replace S3 := S3.le hle
  replace L0 := L0.trans hle
  replace zf0 := Nat.lt_of_lt_of_le zf0 hle.size
  replace zf1 := Nat.lt_of_lt_of_le zf1 hle.size
  clear hle
  go_wp2_with fail
  refine (equalTrace_self _ _ _ _ _ _ _ S3 S4).mono ?_
  rintro e w4 ⟨rfl, hle⟩
  replace cf0 := (hle.cell zf0).trans cf0
  replace cf1 := (hle.cell zf1).trans cf1
  replace S := S.le hle
  replace S3 := S3.le hle
  replace S4 := S4.le hle
  replace L0 := L0.trans hle
  replace zf0 := Nat.lt_of_lt_of_le zf0 hle.size
  replace zf1 := Nat.lt_of_lt_of_le zf1 hle.size
  clear hle
  cases h1 : callOk xs f
  · go_wp2_with fail
    refine (equalTrace_self _ _ _ _ _ _ _ S3 S4).mono ?_
    rintro e w5 ⟨rfl, hle⟩
    replace L0 := L0.trans hle
    clear hle
    go_wp2
    go_ret
    exact ⟨rfl, L0⟩
  · have hlen := S.len
    have h2 := h1
    unfold callOk at h2
    simp at h2
    have hX : callX xs f = f :: xs := callX_of h1
    have hl : (f :: xs).length = m + 1 := by simp [hlen]
    rw [hX, hl] at S3 ⊢
    have hT1 : trimX (f :: xs) 1 = [f] := by
      rw [trimX_of h2.2]
      exact (trim_pos (k := 1)).trans rfl
    have HT1 := Lib.hid hT1
    clear S4 hX hl hT1 h1
    obtain ⟨b, off, rfl, hb, hcell0, hcell1, -⟩ := S3.frm_at (k := 0) (by simp)
    simp only [Nat.zero_mul, Nat.add_zero, List.getElem_cons_zero] at hcell0 hcell1
    by_cases hm0 : m = 0
    · have hmb : ((m : Int) == 0) = true := by simp [hm0]
      have hmb2 : (m == 0) = true := by simp [hm0]
      have hwz : IntKind.i64.wrap ((m : Int) + 1) = (m : Int) + 1 := IntWalk.i64_in _ (by omega)
      have hb0 : (0 : Int) < (m : Int) + 1 := by omega
      clear hlen h2 hm0
      go_wp2_with fail
      replace L0 := L0.drew
      replace S := S.le (Le.refl _).drew
      replace S3 := S3.le (Le.refl _).drew
      refine wp_region_noPanic ?_
      refine wp_region_held_drew (S := fun w' => w'.cell? ⟨FB, 0, none⟩ = some (.string f.fn) ∧ w'.cell? ⟨FB, 1, none⟩ = some (.int .i64 f.line) ∧ w'.cell? ⟨b, off, none⟩ = some (.string f.fn) ∧ w'.cell? ⟨b, off + 1, none⟩ = some (.int .i64 f.line)) (by kernel_rfl) ⟨cf0, cf1, hcell0, hcell1⟩ (fun hHeld => ?_)
      refine wpAnyH_takeL (i := 0) (v := ?_) rfl (by kernel_rfl) (by kernel_rfl) (by kernel_rfl) (fun _ _ _ h => h) (Or.inl ⟨by rfl, ?_⟩) (by assumption) ?_
      rotate_left 1
      · (intro w hSw; (try dsimp only at hSw); go_simp; try with_reducible rfl)
      try simp only [Act.put, List.setIfInBounds_toArray, List.set_cons_zero, List.set_cons_succ]
      refine wpAnyH_takeL (i := 1) (v := ?_) rfl (by kernel_rfl) (by kernel_rfl) (by kernel_rfl) (fun _ _ _ h => h) (Or.inl ⟨by rfl, ?_⟩) (by assumption) ?_
      rotate_left 1
      · (intro w hSw; (try dsimp only at hSw); go_simp; try with_reducible rfl)
      try simp only [Act.put, List.setIfInBounds_toArray, List.set_cons_zero, List.set_cons_succ]
      refine wpAnyH_takeL (i := 2) (v := ?_) rfl (by kernel_rfl) (by kernel_rfl) (by kernel_rfl) (fun _ _ _ h => h) (Or.inl ⟨by rfl, ?_⟩) (by assumption) ?_
      rotate_left 1
      · (intro w hSw; (try dsimp only at hSw); go_simp; try with_reducible rfl)
      try simp only [Act.put, List.setIfInBounds_toArray, List.set_cons_zero, List.set_cons_succ]
      refine wpAnyH_takeL (i := 3) (v := ?_) rfl (by kernel_rfl) (by kernel_rfl) (by kernel_rfl) (fun _ _ _ h => h) (Or.inl ⟨by rfl, ?_⟩) (by assumption) ?_
      rotate_left 1
      · (intro w hSw; (try dsimp only at hSw); go_simp; try with_reducible rfl)
      try simp only [Act.put, List.setIfInBounds_toArray, List.set_cons_zero, List.set_cons_succ]
      refine wpAnyH_takeL (i := 4) (v := ?_) rfl (by kernel_rfl) (by kernel_rfl) (by kernel_rfl) (fun _ _ _ h => h) (Or.inl ⟨by rfl, ?_⟩) (by assumption) ?_
      rotate_left 1
      · (intro w hSw; (try dsimp only at hSw); go_simp; try with_reducible rfl)
      try simp only [Act.put, List.setIfInBounds_toArray, List.set_cons_zero, List.set_cons_succ]
      refine wpAnyH_takeL (i := 5) (v := ?_) rfl (by kernel_rfl) (by kernel_rfl) (by kernel_rfl) (fun _ _ _ h => h) (Or.inl ⟨by rfl, ?_⟩) (by assumption) ?_
      rotate_left 1
      · (intro w hSw; (try dsimp only at hSw); go_simp; try with_reducible rfl)
      try simp only [Act.put, List.setIfInBounds_toArray, List.set_cons_zero, List.set_cons_succ]
      refine wpAnyH_takeL (i := 6) (v := ?_) rfl (by kernel_rfl) (by kernel_rfl) (by kernel_rfl) (fun _ _ _ h => h) (Or.inl ⟨by rfl, ?_⟩) (by assumption) ?_
      rotate_left 1
      · (intro w hSw; (try dsimp only at hSw); go_simp; try with_reducible rfl)
      try simp only [Act.put, List.setIfInBounds_toArray, List.set_cons_zero, List.set_cons_succ]
      refine wpAnyH_takeL (i := 7) (v := ?_) rfl (by kernel_rfl) (by kernel_rfl) (by kernel_rfl) (fun _ _ _ h => h) (Or.inl ⟨by rfl, ?_⟩) (by assumption) ?_
      rotate_left 1
      · (intro w hSw; (try dsimp only at hSw); go_simp; try with_reducible rfl)
      try simp only [Act.put, List.setIfInBounds_toArray, List.set_cons_zero, List.set_cons_succ]
      refine wpAnyH_takeL (i := 8) (v := ?_) rfl (by kernel_rfl) (by kernel_rfl) (by kernel_rfl) (fun _ _ _ h => h) (Or.inl ⟨by rfl, ?_⟩) (by assumption) ?_
      rotate_left 1
      · (intro w hSw; (try dsimp only at hSw); go_simp; try with_reducible rfl)
      try simp only [Act.put, List.setIfInBounds_toArray, List.set_cons_zero, List.set_cons_succ]
      refine wpAnyH_takeL (i := 9) (v := ?_) rfl (by kernel_rfl) (by kernel_rfl) (by kernel_rfl) (fun _ _ _ h => h) (Or.inl ⟨by rfl, ?_⟩) (by assumption) ?_
      rotate_left 1
      · (intro w hSw; (try dsimp only at hSw); go_simp; try with_reducible rfl)
      try simp only [Act.put, List.setIfInBounds_toArray, List.set_cons_zero, List.set_cons_succ]
      refine wpAnyH_takeL (i := 10) (v := ?_) rfl (by kernel_rfl) (by kernel_rfl) (by kernel_rfl) (fun _ _ _ h => h) (Or.inl ⟨by rfl, ?_⟩) (by assumption) ?_
      rotate_left 1
      · (intro w hSw; (try dsimp only at hSw); go_simp; try with_reducible rfl)
      try simp only [Act.put, List.setIfInBounds_toArray, List.set_cons_zero, List.set_cons_succ]
      refine wpAnyH_takeL (i := 11) (v := ?_) rfl (by kernel_rfl) (by kernel_rfl) (by kernel_rfl) (fun _ _ _ h => h) (Or.inl ⟨by rfl, ?_⟩) (by assumption) ?_
      rotate_left 1
      · (intro w hSw; (try dsimp only at hSw); go_simp; try with_reducible rfl)
      try simp only [Act.put, List.setIfInBounds_toArray, List.set_cons_zero, List.set_cons_succ]
      refine wpAnyH_takeL (i := 12) (v := ?_) rfl (by kernel_rfl) (by kernel_rfl) (by kernel_rfl) (fun _ _ _ h => h) (Or.inl ⟨by rfl, ?_⟩) (by assumption) ?_
      rotate_left 1
      · (intro w hSw; (try dsimp only at hSw); go_simp; try with_reducible rfl)
      try simp only [Act.put, List.setIfInBounds_toArray, List.set_cons_zero, List.set_cons_succ]
      refine wpAnyH_takeL (i := 13) (v := ?_) rfl (by kernel_rfl) (by kernel_rfl) (by kernel_rfl) (fun _ _ _ h => h) (Or.inl ⟨by rfl, ?_⟩) (by assumption) ?_
      rotate_left 1
      · (intro w hSw; (try dsimp only at hSw); go_simp; try with_reducible rfl)
      try simp only [Act.put, List.setIfInBounds_toArray, List.set_cons_zero, List.set_cons_succ]
      refine wpAnyH_takeL (i := 14) (v := ?_) rfl (by kernel_rfl) (by kernel_rfl) (by kernel_rfl) (fun _ _ _ h => h) (Or.inl ⟨by rfl, ?_⟩) (by assumption) ?_
      rotate_left 1
      · (intro w hSw; (try dsimp only at hSw); go_simp; try with_reducible rfl)
      try simp only [Act.put, List.setIfInBounds_toArray, List.set_cons_zero, List.set_cons_succ]
      refine wpAnyH_takeL (i := 16) (v := ?_) rfl (by kernel_rfl) (by kernel_rfl) (by kernel_rfl) (fun _ _ _ h => h) (Or.inl ⟨by rfl, ?_⟩) (by assumption) ?_
      rotate_left 1
      · (intro w hSw; (try dsimp only at hSw); go_simp; try with_reducible rfl)
      try simp only [Act.put, List.setIfInBounds_toArray, List.set_cons_zero, List.set_cons_succ]
      refine wpAnyH_ready (rs := [15, 17]) (by kernel_rfl) (by simp) (AllReadyH.consL (i := 15) rfl (fun K hK => ?_) (AllReadyH.consL (i := 17) rfl (fun K hK => ?_) AllReadyH.nil))
      · go_simp
        go_at_call 22
        refine (Calls.sl1W (by decide) (iTrimTrace_any _ _ _ (f :: xs) 1 _ S3 ⟨by omega, by omega⟩)).mono ?_
        rintro e w5 ⟨A6, c6, rfl, S6, hle⟩
        rw [HT1.out] at S6 ⊢
        simp only [List.length_singleton] at S6 ⊢
        replace cf0 := (hle.cell zf0).trans cf0
        replace cf1 := (hle.cell zf1).trans cf1
        replace L0 := L0.trans hle
        replace zf0 := Nat.lt_of_lt_of_le zf0 hle.size
        replace zf1 := Nat.lt_of_lt_of_le zf1 hle.size
        replace hcell0 := (hle.cell hb).trans hcell0
        replace hcell1 := (hle.cell hb).trans hcell1
        replace hb := Nat.lt_of_lt_of_le hb hle.size
        clear hle
        refine hK.out _ _ (⟨cf0, cf1, hcell0, hcell1⟩) (fun hHeld => ?_)
        clear hK K
        try simp only [Act.put, List.setIfInBounds_toArray, List.set_cons_zero, List.set_cons_succ]
        refine wpAnyH_ready (rs := [17]) (by kernel_rfl) (by simp) (AllReadyH.consL (i := 17) rfl (fun K hK => ?_) AllReadyH.nil)
        go_simp
        replace cf0 := ((Le.new w5 (.cells #[.string f.fn, .int .i64 f.line] 28)).cell zf0).trans cf0
        replace cf1 := ((Le.new w5 (.cells #[.string f.fn, .int .i64 f.line] 28)).cell zf1).trans cf1
        replace hcell0 := ((Le.new w5 (.cells #[.string f.fn, .int .i64 f.line] 28)).cell hb).trans hcell0
        replace hcell1 := ((Le.new w5 (.cells #[.string f.fn, .int .i64 f.line] 28)).cell hb).trans hcell1
        replace hb := Nat.lt_of_lt_of_le hb (Le.new w5 (.cells #[.string f.fn, .int .i64 f.line] 28)).size
        replace zf0 := Nat.lt_of_lt_of_le zf0 (Le.new w5 (.cells #[.string f.fn, .int .i64 f.line] 28)).size
        have SF := sl_one (w := w5) (cs := #[.string f.fn, .int .i64 f.line]) (T := 28) f rfl hf rfl
        replace S6 := S6.alloc (.cells #[.string f.fn, .int .i64 f.line] 28)
        replace L0 := L0.trans (Le.new w5 (.cells #[.string f.fn, .int .i64 f.line] 28))
        refine hK.out _ _ (⟨cf0, cf1, hcell0, hcell1⟩) (fun hHeld => ?_)
        clear hK K
        try simp only [Act.put, List.setIfInBounds_toArray, List.set_cons_zero, List.set_cons_succ]
        refine wpAnyH_ready (rs := [18]) (by kernel_rfl) (by simp) (AllReadyH.consL (i := 18) rfl (fun K hK => ?_) AllReadyH.nil)
        go_simp
        go_at_call 21
        refine (equalTrace_self _ _ _ _ _ [f] _ S6 SF).mono ?_
        rintro e w6 ⟨rfl, hle⟩
        replace L0 := L0.trans hle
        replace cf0 := (hle.cell zf0).trans cf0
        replace cf1 := (hle.cell zf0).trans cf1
        replace hcell0 := (hle.cell hb).trans hcell0
        replace hcell1 := (hle.cell hb).trans hcell1
        refine hK.out _ _ (⟨cf0, cf1, hcell0, hcell1⟩) (fun hHeld => ?_)
        clear hK K
        try simp only [Act.put, List.setIfInBounds_toArray, List.set_cons_zero, List.set_cons_succ]
        refine wpAnyH_takeL (i := 19) (v := ?_) rfl (by kernel_rfl) (by kernel_rfl) (by kernel_rfl) (fun _ _ _ h => h) (Or.inl ⟨by rfl, ?_⟩) (by assumption) ?_
        rotate_left 1
        · (intro w hSw; (try dsimp only at hSw); go_simp; try with_reducible rfl)
        try simp only [Act.put, List.setIfInBounds_toArray, List.set_cons_zero, List.set_cons_succ]
        refine wpAnyH_takeL (i := 20) (v := ?_) rfl (by kernel_rfl) (by kernel_rfl) (by kernel_rfl) (fun _ _ _ h => h) (Or.inl ⟨by rfl, ?_⟩) (by assumption) ?_
        rotate_left 1
        · (intro w hSw; (try dsimp only at hSw); go_simp; try with_reducible rfl)
        try simp only [Act.put, List.setIfInBounds_toArray, List.set_cons_zero, List.set_cons_succ]
        refine wpAnyH_takeL (i := 21) (v := ?_) rfl (by kernel_rfl) (by kernel_rfl) (by kernel_rfl) (fun _ _ _ h => h) (Or.inl ⟨by rfl, ?_⟩) (by assumption) ?_
        rotate_left 1
        · (intro w hSw; (try dsimp only at hSw); go_simp; try with_reducible rfl)
        try simp only [Act.put, List.setIfInBounds_toArray, List.set_cons_zero, List.set_cons_succ]
        refine wpAnyH_takeL (i := 22) (v := ?_) rfl (by kernel_rfl) (by kernel_rfl) (by kernel_rfl) (fun _ _ _ h => h) (Or.inl ⟨by rfl, ?_⟩) (by assumption) ?_
        rotate_left 1
        · (intro w hSw; (try dsimp only at hSw); go_simp; try with_reducible rfl)
        try simp only [Act.put, List.setIfInBounds_toArray, List.set_cons_zero, List.set_cons_succ]
        refine wpAnyH_takeL (i := 23) (v := ?_) rfl (by kernel_rfl) (by kernel_rfl) (by kernel_rfl) (fun _ _ _ h => h) (Or.inl ⟨by rfl, ?_⟩) (by assumption) ?_
        rotate_left 1
        · (intro w hSw; (try dsimp only at hSw); go_simp; try with_reducible rfl)
        try simp only [Act.put, List.setIfInBounds_toArray, List.set_cons_zero, List.set_cons_succ]
        refine wpAnyH_takeL (i := 24) (v := ?_) rfl (by kernel_rfl) (by kernel_rfl) (by kernel_rfl) (fun _ _ _ h => h) (Or.inl ⟨by rfl, ?_⟩) (by assumption) ?_
        rotate_left 1
        · (intro w hSw; (try dsimp only at hSw); go_simp; try with_reducible rfl)
        try simp only [Act.put, List.setIfInBounds_toArray, List.set_cons_zero, List.set_cons_succ]
        refine wpAnyH_takeL (i := 25) (v := undef) rfl (by kernel_rfl) (by kernel_rfl) (by kernel_rfl) (fun _ _ _ h => h) (Or.inr ⟨?_, rfl⟩) (by assumption) ?_
        · rfl
        try simp only [Act.put, List.setIfInBounds_toArray, List.set_cons_zero, List.set_cons_succ]
        refine wpAnyH_takeL (i := 26) (v := undef) rfl (by kernel_rfl) (by kernel_rfl) (by kernel_rfl) (fun _ _ _ h => h) (Or.inr ⟨?_, rfl⟩) (by assumption) ?_
        · rfl
        try simp only [Act.put, List.setIfInBounds_toArray, List.set_cons_zero, List.set_cons_succ]
        refine wpAnyH_takeL (i := 27) (v := undef) rfl (by kernel_rfl) (by kernel_rfl) (by kernel_rfl) (fun _ _ _ h => h) (Or.inr ⟨?_, rfl⟩) (by assumption) ?_
        · rfl
        try simp only [Act.put, List.setIfInBounds_toArray, List.set_cons_zero, List.set_cons_succ]
        refine wpAnyH_takeL (i := 28) (v := undef) rfl (by kernel_rfl) (by kernel_rfl) (by kernel_rfl) (fun _ _ _ h => h) (Or.inr ⟨?_, rfl⟩) (by assumption) ?_
        · rfl
        try simp only [Act.put, List.setIfInBounds_toArray, List.set_cons_zero, List.set_cons_succ]
        refine wpAnyH_takeL (i := 29) (v := undef) rfl (by kernel_rfl) (by kernel_rfl) (by kernel_rfl) (fun _ _ _ h => h) (Or.inr ⟨?_, rfl⟩) (by assumption) ?_
        · rfl
        try simp only [Act.put, List.setIfInBounds_toArray, List.set_cons_zero, List.set_cons_succ]
        refine wpAnyH_takeL (i := 30) (v := undef) rfl (by kernel_rfl) (by kernel_rfl) (by kernel_rfl) (fun _ _ _ h => h) (Or.inr ⟨?_, rfl⟩) (by assumption) ?_
        · rfl
        try simp only [Act.put, List.setIfInBounds_toArray, List.set_cons_zero, List.set_cons_succ]
        refine wpAnyH_takeL (i := 31) (v := undef) rfl (by kernel_rfl) (by kernel_rfl) (by kernel_rfl) (fun _ _ _ h => h) (Or.inr ⟨?_, rfl⟩) (by assumption) ?_
        · rfl
        try simp only [Act.put, List.setIfInBounds_toArray, List.set_cons_zero, List.set_cons_succ]
        refine wpAnyH_takeL (i := 32) (v := ?_) rfl (by kernel_rfl) (by kernel_rfl) (by kernel_rfl) (fun _ _ _ h => h) (Or.inl ⟨by rfl, ?_⟩) (by assumption) ?_
        rotate_left 1
        · (intro w hSw; (try dsimp only at hSw); go_simp; try with_reducible rfl)
        try simp only [Act.put, List.setIfInBounds_toArray, List.set_cons_zero, List.set_cons_succ]
        refine wpAnyH_takeL (i := 33) (v := ?_) rfl (by kernel_rfl) (by kernel_rfl) (by kernel_rfl) (fun _ _ _ h => h) (Or.inl ⟨by rfl, ?_⟩) (by assumption) ?_
        rotate_left 1
        · (intro w hSw; (try dsimp only at hSw); go_simp; try with_reducible rfl)
        try simp only [Act.put, List.setIfInBounds_toArray, List.set_cons_zero, List.set_cons_succ]
        refine wpAnyH_takeL (i := 34) (v := ?_) rfl (by kernel_rfl) (by kernel_rfl) (by kernel_rfl) (fun _ _ _ h => h) (Or.inl ⟨by rfl, ?_⟩) (by assumption) ?_
        rotate_left 1
        · (intro w hSw; (try dsimp only at hSw); go_simp; try with_reducible rfl)
        try simp only [Act.put, List.setIfInBounds_toArray, List.set_cons_zero, List.set_cons_succ]
        refine wpAnyH_done (by kernel_rfl) ?_ _
        refine NoPanic.normal ?_
        go_wp2
        go_ret
        exact ⟨rfl, L0⟩
      · go_simp
        replace cf0 := ((Le.new w4.drew (.cells #[.string f.fn, .int .i64 f.line] 28)).cell zf0).trans cf0
        replace cf1 := ((Le.new w4.drew (.cells #[.string f.fn, .int .i64 f.line] 28)).cell zf1).trans cf1
        replace hcell0 := ((Le.new w4.drew (.cells #[.string f.fn, .int .i64 f.line] 28)).cell hb).trans hcell0
        replace hcell1 := ((Le.new w4.drew (.cells #[.string f.fn, .int .i64 f.line] 28)).cell hb).trans hcell1
        replace hb := Nat.lt_of_lt_of_le hb (Le.new w4.drew (.cells #[.string f.fn, .int .i64 f.line] 28)).size
        replace zf0 := Nat.lt_of_lt_of_le zf0 (Le.new w4.drew (.cells #[.string f.fn, .int .i64 f.line] 28)).size
        have SF := sl_one (w := w4.drew) (cs := #[.string f.fn, .int .i64 f.line]) (T := 28) f rfl hf rfl
        replace S3 := S3.alloc (.cells #[.string f.fn, .int .i64 f.line] 28)
        replace L0 := L0.trans (Le.new w4.drew (.cells #[.string f.fn, .int .i64 f.line] 28))
        refine hK.out _ _ (⟨cf0, cf1, hcell0, hcell1⟩) (fun hHeld => ?_)
        clear hK K
        try simp only [Act.put, List.setIfInBounds_toArray, List.set_cons_zero, List.set_cons_succ]
        refine wpAnyH_ready (rs := [15]) (by kernel_rfl) (by simp) (AllReadyH.consL (i := 15) rfl (fun K hK => ?_) AllReadyH.nil)
        go_simp
        go_at_call 22
        refine (Calls.sl1W (by decide) (iTrimTrace_any _ _ _ (f :: xs) 1 _ S3 ⟨by omega, by omega⟩)).mono ?_
        rintro e w5 ⟨A6, c6, rfl, S6, hle⟩
        rw [HT1.out] at S6 ⊢
        simp only [List.length_singleton] at S6 ⊢
        replace SF := SF.le hle
        replace L0 := L0.trans hle
        replace cf0 := (hle.cell zf0).trans cf0
        replace cf1 := (hle.cell zf0).trans cf1
        replace hcell0 := (hle.cell hb).trans hcell0
        replace hcell1 := (hle.cell hb).trans hcell1
        replace hb := Nat.lt_of_lt_of_le hb hle.size
        replace zf0 := Nat.lt_of_lt_of_le zf0 hle.size
        clear hle
        refine hK.out _ _ (⟨cf0, cf1, hcell0, hcell1⟩) (fun hHeld => ?_)
        clear hK K
        try simp only [Act.put, List.setIfInBounds_toArray, List.set_cons_zero, List.set_cons_succ]
        refine wpAnyH_ready (rs := [18]) (by kernel_rfl) (by simp) (AllReadyH.consL (i := 18) rfl (fun K hK => ?_) AllReadyH.nil)
        go_simp
        go_at_call 21
        refine (equalTrace_self _ _ _ _ _ [f] _ S6 SF).mono ?_
        rintro e w6 ⟨rfl, hle⟩
        replace L0 := L0.trans hle
        replace cf0 := (hle.cell zf0).trans cf0
        replace cf1 := (hle.cell zf0).trans cf1
        replace hcell0 := (hle.cell hb).trans hcell0
        replace hcell1 := (hle.cell hb).trans hcell1
        refine hK.out _ _ (⟨cf0, cf1, hcell0, hcell1⟩) (fun hHeld => ?_)
        clear hK K
        try simp only [Act.put, List.setIfInBounds_toArray, List.set_cons_zero, List.set_cons_succ]
        refine wpAnyH_takeL (i := 19) (v := ?_) rfl (by kernel_rfl) (by kernel_rfl) (by kernel_rfl) (fun _ _ _ h => h) (Or.inl ⟨by rfl, ?_⟩) (by assumption) ?_
        rotate_left 1
        · (intro w hSw; (try dsimp only at hSw); go_simp; try with_reducible rfl)
        try simp only [Act.put, List.setIfInBounds_toArray, List.set_cons_zero, List.set_cons_succ]
        refine wpAnyH_takeL (i := 20) (v := ?_) rfl (by kernel_rfl) (by kernel_rfl) (by kernel_rfl) (fun _ _ _ h => h) (Or.inl ⟨by rfl, ?_⟩) (by assumption) ?_
        rotate_left 1
        · (intro w hSw; (try dsimp only at hSw); go_simp; try with_reducible rfl)
        try simp only [Act.put, List.setIfInBounds_toArray, List.set_cons_zero, List.set_cons_succ]
        refine wpAnyH_takeL (i := 21) (v := ?_) rfl (by kernel_rfl) (by kernel_rfl) (by kernel_rfl) (fun _ _ _ h => h) (Or.inl ⟨by rfl, ?_⟩) (by assumption) ?_
        rotate_left 1
        · (intro w hSw; (try dsimp only at hSw); go_simp; try with_reducible rfl)
        try simp only [Act.put, List.setIfInBounds_toArray, List.set_cons_zero, List.set_cons_succ]
        refine wpAnyH_takeL (i := 22) (v := ?_) rfl (by kernel_rfl) (by kernel_rfl) (by kernel_rfl) (fun _ _ _ h => h) (Or.inl ⟨by rfl, ?_⟩) (by assumption) ?_
        rotate_left 1
        · (intro w hSw; (try dsimp only at hSw); go_simp; try with_reducible rfl)
        try simp only [Act.put, List.setIfInBounds_toArray, List.set_cons_zero, List.set_cons_succ]
        refine wpAnyH_takeL (i := 23) (v := ?_) rfl (by kernel_rfl) (by kernel_rfl) (by kernel_rfl) (fun _ _ _ h => h) (Or.inl ⟨by rfl, ?_⟩) (by assumption) ?_
        rotate_left 1
        · (intro w hSw; (try dsimp only at hSw); go_simp; try with_reducible rfl)
        try simp only [Act.put, List.setIfInBounds_toArray, List.set_cons_zero, List.set_cons_succ]
        refine wpAnyH_takeL (i := 24) (v := ?_) rfl (by kernel_rfl) (by kernel_rfl) (by kernel_rfl) (fun _ _ _ h => h) (Or.inl ⟨by rfl, ?_⟩) (by assumption) ?_
        rotate_left 1
        · (intro w hSw; (try dsimp only at hSw); go_simp; try with_reducible rfl)
        try simp only [Act.put, List.setIfInBounds_toArray, List.set_cons_zero, List.set_cons_succ]
        refine wpAnyH_takeL (i := 25) (v := undef) rfl (by kernel_rfl) (by kernel_rfl) (by kernel_rfl) (fun _ _ _ h => h) (Or.inr ⟨?_, rfl⟩) (by assumption) ?_
        · rfl
        try simp only [Act.put, List.setIfInBounds_toArray, List.set_cons_zero, List.set_cons_succ]
        refine wpAnyH_takeL (i := 26) (v := undef) rfl (by kernel_rfl) (by kernel_rfl) (by kernel_rfl) (fun _ _ _ h => h) (Or.inr ⟨?_, rfl⟩) (by assumption) ?_
        · rfl
        try simp only [Act.put, List.setIfInBounds_toArray, List.set_cons_zero, List.set_cons_succ]
        refine wpAnyH_takeL (i := 27) (v := undef) rfl (by kernel_rfl) (by kernel_rfl) (by kernel_rfl) (fun _ _ _ h => h) (Or.inr ⟨?_, rfl⟩) (by assumption) ?_
        · rfl
        try simp only [Act.put, List.setIfInBounds_toArray, List.set_cons_zero, List.set_cons_succ]
        refine wpAnyH_takeL (i := 28) (v := undef) rfl (by kernel_rfl) (by kernel_rfl) (by kernel_rfl) (fun _ _ _ h => h) (Or.inr ⟨?_, rfl⟩) (by assumption) ?_
        · rfl
        try simp only [Act.put, List.setIfInBounds_toArray, List.set_cons_zero, List.set_cons_succ]
        refine wpAnyH_takeL (i := 29) (v := undef) rfl (by kernel_rfl) (by kernel_rfl) (by kernel_rfl) (fun _ _ _ h => h) (Or.inr ⟨?_, rfl⟩) (by assumption) ?_
        · rfl
        try simp only [Act.put, List.setIfInBounds_toArray, List.set_cons_zero, List.set_cons_succ]
        refine wpAnyH_takeL (i := 30) (v := undef) rfl (by kernel_rfl) (by kernel_rfl) (by kernel_rfl) (fun _ _ _ h => h) (Or.inr ⟨?_, rfl⟩) (by assumption) ?_
        · rfl
        try simp only [Act.put, List.setIfInBounds_toArray, List.set_cons_zero, List.set_cons_succ]
        refine wpAnyH_takeL (i := 31) (v := undef) rfl (by kernel_rfl) (by kernel_rfl) (by kernel_rfl) (fun _ _ _ h => h) (Or.inr ⟨?_, rfl⟩) (by assumption) ?_
        · rfl
        try simp only [Act.put, List.setIfInBounds_toArray, List.set_cons_zero, List.set_cons_succ]
        refine wpAnyH_takeL (i := 32) (v := ?_) rfl (by kernel_rfl) (by kernel_rfl) (by kernel_rfl) (fun _ _ _ h => h) (Or.inl ⟨by rfl, ?_⟩) (by assumption) ?_
        rotate_left 1
        · (intro w hSw; (try dsimp only at hSw); go_simp; try with_reducible rfl)
        try simp only [Act.put, List.setIfInBounds_toArray, List.set_cons_zero, List.set_cons_succ]
        refine wpAnyH_takeL (i := 33) (v := ?_) rfl (by kernel_rfl) (by kernel_rfl) (by kernel_rfl) (fun _ _ _ h => h) (Or.inl ⟨by rfl, ?_⟩) (by assumption) ?_
        rotate_left 1
        · (intro w hSw; (try dsimp only at hSw); go_simp; try with_reducible rfl)
        try simp only [Act.put, List.setIfInBounds_toArray, List.set_cons_zero, List.set_cons_succ]
        refine wpAnyH_takeL (i := 34) (v := ?_) rfl (by kernel_rfl) (by kernel_rfl) (by kernel_rfl) (fun _ _ _ h => h) (Or.inl ⟨by rfl, ?_⟩) (by assumption) ?_
        rotate_left 1
        · (intro w hSw; (try dsimp only at hSw); go_simp; try with_reducible rfl)
        try simp only [Act.put, List.setIfInBounds_toArray, List.set_cons_zero, List.set_cons_succ]
        refine wpAnyH_done (by kernel_rfl) ?_ _
        refine NoPanic.normal ?_
        go_wp2
        go_ret
        exact ⟨rfl, L0⟩
    · obtain ⟨j, rfl⟩ : ∃ j, m = j + 1 := ⟨m - 1, by omega⟩
      have hT2 : trimX (f :: xs) (-((j : Int) + 1)) = xs := by
        rw [trimX_of h2.2]
        exact (trim_neg (k := 1) (by omega) (by simp [hlen]; omega) (by simp [hlen]; omega)).trans rfl
      have HT2 := Lib.hid hT2
      have HLN := Lib.hid hlen
      have hwz : IntKind.i64.wrap ((j : Int) + 1 + 1) = (j : Int) + 1 + 1 := IntWalk.i64_in _ (by omega)
      have hwn : IntKind.i64.wrap (-((j : Int) + 1)) = -((j : Int) + 1) := IntWalk.i64_in _ (by omega)
      have hb0 : (0 : Int) < (j : Int) + 1 + 1 := by omega
      have hb1 : (0 : Int) ≤ (j : Int) := by omega
      have hj0 : ((j : Int) + 1 == 0) = false := by simp; omega
      clear hlen hT2 h2
      go_wp2_with fail
      replace L0 := L0.drew
      replace S := S.le (Le.refl _).drew
      replace S3 := S3.le (Le.refl _).drew
      go_region_held3 (fun w' => w'.cell? ⟨FB, 0, none⟩ = some (.string f.fn) ∧ w'.cell? ⟨FB, 1, none⟩ = some (.int .i64 f.line) ∧ w'.cell? ⟨b, off, none⟩ = some (.string f.fn) ∧ w'.cell? ⟨b, off + 1, none⟩ = some (.int .i64 f.line))
        (first | exact ⟨cf0, cf1, hcell0, hcell1⟩ | exact ⟨((Le.new _ _).cell zf0).trans cf0, ((Le.new _ _).cell zf0).trans cf1, ((Le.new _ _).cell hb).trans hcell0, ((Le.new _ _).cell hb).trans hcell1⟩)
        (first
          | (go_at_call 21; have hzz := S7; refine (equalTrace_self _ _ _ _ _ _ _ S7 SX7).mono ?_; rintro e w8 ⟨rfl, hle⟩; have L8 := L7.trans hle; replace cf0 := (hle.cell zf0).trans cf0; replace cf1 := (hle.cell zf0).trans cf1; replace hcell0 := (hle.cell hb).trans hcell0; replace hcell1 := (hle.cell hb).trans hcell1; replace zf0 := Nat.lt_of_lt_of_le zf0 hle.size; replace hb := Nat.lt_of_lt_of_le hb hle.size; clear hle)
          | (go_at_call 22; have hzz := S36; refine (Calls.sl1W (by decide) (iTrimTrace_any _ _ _ (f :: xs) (-((j : Int) + 1)) _ S36 ⟨by omega, by omega⟩)).mono ?_; rintro e w7 ⟨A7, c7, rfl, S7, hle⟩; rw [HT2.out, HLN.out] at S7 ⊢; have SX7 := SX6.le hle; have L7 := L6.trans hle; replace cf0 := (hle.cell zf0).trans cf0; replace cf1 := (hle.cell zf0).trans cf1; replace hcell0 := (hle.cell hb).trans hcell0; replace hcell1 := (hle.cell hb).trans hcell1; replace zf0 := Nat.lt_of_lt_of_le zf0 hle.size; replace hb := Nat.lt_of_lt_of_le hb hle.size; clear hle)
          | (go_at_call 21; have hzz := S6; refine (equalTrace_self _ _ _ _ _ [f] _ (by first | exact S6 | exact S6.alloc _) (by first | exact SF | exact sl_one f rfl hf rfl)).mono ?_; rintro e w6 ⟨rfl, hle⟩; have hl6 : Le w5 w6 := (by first | exact hle | exact (Le.new _ _).trans hle); have S36 := S35.le hl6; have SX6 := S5.le hl6; have L6 := L5.trans hl6; replace cf0 := (hl6.cell zf0).trans cf0; replace cf1 := (hl6.cell zf0).trans cf1; replace hcell0 := (hl6.cell hb).trans hcell0; replace hcell1 := (hl6.cell hb).trans hcell1; replace zf0 := Nat.lt_of_lt_of_le zf0 hl6.size; replace hb := Nat.lt_of_lt_of_le hb hl6.size; clear hle)
          | (go_at_call 22; refine (Calls.sl1W (by decide) (iTrimTrace_any _ _ _ (f :: xs) 1 _ (by first | exact S3 | exact S3.alloc _) ⟨by omega, by omega⟩)).mono ?_; rintro e w5 ⟨A6, c6, rfl, S6, hle⟩; rw [HT1.out] at S6 ⊢; simp only [List.length_singleton] at S6 ⊢; (try have SF := Sl.le (w := w4.drew.alloc (.cells #[.string f.fn, .int .i64 f.line] 28)) (sl_one (w := w4.drew) (cs := #[.string f.fn, .int .i64 f.line]) (T := 28) f rfl hf rfl) hle); have hl5 : Le w4.drew w5 := (by first | exact hle | exact (Le.new _ _).trans hle); have S35 := S3.le hl5; have S5 := S.le hl5; have L5 := L0.trans hl5; replace cf0 := (hl5.cell zf0).trans cf0; replace cf1 := (hl5.cell zf0).trans cf1; replace hcell0 := (hl5.cell hb).trans hcell0; replace hcell1 := (hl5.cell hb).trans hcell1; replace zf0 := Nat.lt_of_lt_of_le zf0 hl5.size; replace hb := Nat.lt_of_lt_of_le hb hl5.size; clear hle))
      all_goals
        go_wp2
        go_ret
        exact ⟨rfl, L8⟩
end Go.Proofs.Ytakkmgeocmndjaa
