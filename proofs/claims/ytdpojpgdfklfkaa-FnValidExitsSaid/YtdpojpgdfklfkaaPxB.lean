/- exits: JoinExits, PushExit of both -/
import Derived.Test.YtdpojpgdfklfkaaPxA
import Derived.Test.YtdpojpgdfklfkaaCcE0
import Derived.Test.YtdpojpgdfklfkaaRg
import Derived.Deep.CutRange
namespace Go.Proofs.Ytdpojpgdfklfkaa
open Go.RowKit
theorem vxs_app {xs : List Cls} {a b : List Xit} (h : vxs xs (a ++ b) = true) : vxs xs a = true ∧ vxs xs b = true := by
  obtain ⟨h1, h2, h3⟩ := vxs_iff.1 h
  rw [List.length_append] at h2
  exact ⟨vxs_iff.2 ⟨h1, by omega, fun x hx => h3 x (List.mem_append.2 (.inl hx))⟩, vxs_iff.2 ⟨h1, by omega, fun x hx => h3 x (List.mem_append.2 (.inr hx))⟩⟩
theorem vxs_join (xs : List Cls) (a b : List Xit) : vxs xs (a ++ b) = (vxs xs a && vxs xs b && decide (a.length + b.length ≤ 8)) := by
  rw [Bool.eq_iff_iff, Bool.and_eq_true, Bool.and_eq_true, decide_eq_true_eq]
  constructor
  · intro h
    have := (vxs_iff.1 h).2.1
    rw [List.length_append] at this
    exact ⟨vxs_app h, this⟩
  · rintro ⟨⟨h1, h2⟩, h3⟩
    have g1 := vxs_iff.1 h1
    have g2 := vxs_iff.1 h2
    refine vxs_iff.2 ⟨g1.1, by rw [List.length_append]; exact h3, fun x hx => ?_⟩
    rcases List.mem_append.1 hx with hx | hx
    · exact g1.2.2 x hx
    · exact g2.2.2 x hx
theorem vxs_and (xs : List Cls) (a b : List Xit) : (vxs xs a && vxs xs b && vxs xs (a ++ b)) = vxs xs (a ++ b) := by
  cases h : vxs xs (a ++ b)
  · simp
  · rw [(vxs_app h).1, (vxs_app h).2]; rfl
def jxX (xs : List Cls) (a b : List Xit) : List Xit := cond (vxs xs (a ++ b)) (a ++ b) []
theorem jxX_len (xs : List Cls) (a b : List Xit) : (jxX xs a b).length ≤ 1048576 := by
  unfold jxX
  cases h : vxs xs (a ++ b)
  · simp
  · have := (vxs_iff.1 h).2.1
    show (a ++ b).length ≤ _
    omega
theorem ret2x {v u : Value} {a b : Bool} (h : a = b) (hv : v = u) : Ending.returned (.tuple #[v, .bool a]) = .returned (.tuple #[u, .bool b]) := by rw [h, hv]
set_option maxRecDepth 100000 in
theorem copyExits_any (A : Option Addr) (n cap : Nat) (L : List Xit) (w : World) (hR : Sl w A n cap L) (hn : n ≤ 2097152) :
    Calls Try.prog 26 #[.slice A n cap] w fun e w' => ∃ v, e = .returned v ∧ Owd 32 w w' v L ∧ Le w w' := by
  obtain ⟨i0, hi, hz0, hz1, hz2⟩ := info_parts infoCcExit
  have hlen := hR.len
  have hokA := Lib.hid hR.ok
  go_enter Try.func26, Try.ntmps26
  go_wp2_with (at_builtin; refine wpList_append_sl rfl (.tmp 3) (.tmp 4) 26 rfl (w.heap.size) 32 i0 _ 24 Try.underlying26 hi hz0 hz1 hz2 rfl (.slice (some ⟨w.heap.size, 0, none⟩) 0 0) 0 ([] : List Xit) rfl (own_empty (by simp) (by simp)) A n cap L rfl (hR.alloc _) (by unfold maxLen; omega) (by omega) (by simp) ?_; intro v1 w1 O1 hg1 _; simp only [Nat.zero_add, List.nil_append] at O1; have L1 := ((Le.refl _).alloc _).grown hg1 (fun k hk => by simp [Value.ownBlock] at hk; omega); clear hg1)
  go_ret
  have hd : Owd 32 w w1 v1 L := ⟨by rw [hlen]; exact O1, hokA.out⟩
  exact ⟨_, rfl, hd, L1⟩
set_option maxHeartbeats 1000000 in
set_option maxRecDepth 100000 in
theorem iJoinExits_any (T A C : Option Addr) (m c n cap k d : Nat) (xs : List Cls) (a b : List Xit) (hsa : n ≤ 1048576) (hsb : k ≤ 1048576) (w : World) (hT : Sl w T m c xs) (hR : Sl w A n cap a) (hQ : Sl w C k d b) :
    Calls Try.prog 25 #[.agg #[.slice T m c], .slice A n cap, .slice C k d] w fun e w' => ∃ v, e = .returned (.tuple #[v, .bool (vxs xs (a ++ b))]) ∧ Owd 32 w w' v (jxX xs a b) ∧ Le w w' := by
  have HX : Hid (jxX xs a b = cond (vxs xs (a ++ b)) (a ++ b) []) := rfl
  have HV := Lib.hid (vxs_join xs a b)
  have hla := hR.len
  have hlb := hQ.len
  obtain ⟨Z, HZ⟩ : ∃ Z, Hid (vxs xs (a ++ b) = Z) := ⟨_, rfl⟩
  obtain ⟨AB, HAB⟩ : ∃ AB, Hid (a ++ b = AB) := ⟨_, rfl⟩
  rw [HZ.out, HAB.out] at HX
  rw [HZ.out] at HV
  rw [HZ.out]
  clear HZ
  subst hla
  subst hlb
  go_enter Try.func25, Try.ntmps25
  go_wp2_with fail
  obtain ⟨ct, zt, hleB⟩ := box1 w (.slice T m c) 25
  have L0 := hleB
  clear hleB
  generalize w.alloc (.cells #[.slice T m c] 25) = W at *
  refine (iValidExits_any T A m c a.length cap xs a W (hT.le L0) (hR.le L0)).mono ?_
  rintro e w3 ⟨rfl, hle⟩
  replace ct := (hle.cell zt).trans ct
  replace zt := Nat.lt_of_lt_of_le zt hle.size
  replace L0 := L0.trans hle
  clear hle
  have HN : Hid (∀ w', Z = false → Owd 32 w w' (.slice none 0 0) (jxX xs a b)) := fun w' h => by rw [HX.out, h]; exact Owd.nil _ _ _
  cases h1 : vxs xs a
  · have hf : Z = false := by rw [HV.out, h1]; rfl
    have HO := Lib.hid (HN.out w3 hf)
    subst hf
    go_wp2
    exact bodyPost_ret (v := .tuple #[.slice none 0 0, .bool false]) (by simp [results, Try.results25, go_sem]) rfl ⟨_, rfl, HO.out, L0⟩
  · go_wp2_with fail
    refine (iValidExits_any T C m c b.length d xs b w3 (hT.le L0) (hQ.le L0)).mono ?_
    rintro e w4 ⟨rfl, hle⟩
    replace ct := (hle.cell zt).trans ct
    replace zt := Nat.lt_of_lt_of_le zt hle.size
    replace L0 := L0.trans hle
    clear hle
    cases h2 : vxs xs b
    · have hf : Z = false := by rw [HV.out, h2]; simp
      have HO := Lib.hid (HN.out w4 hf)
      subst hf
      go_wp2
      exact bodyPost_ret (v := .tuple #[.slice none 0 0, .bool false]) (by simp [results, Try.results25, go_sem]) rfl ⟨_, rfl, HO.out, L0⟩
    · have hws : IntKind.i64.wrap ((a.length : Int) + (b.length : Int)) = (a.length : Int) + (b.length : Int) := IntWalk.i64_in _ (by omega)
      by_cases h3 : a.length + b.length ≤ 8
      · have hZ : Z = true := by rw [HV.out, h1, h2, decide_eq_true h3]; rfl
        subst hZ
        have hb8 : decide ((8 : Int) < (a.length : Int) + (b.length : Int)) = false := by rw [decide_eq_false_iff_not]; omega
        have SA := hR.le L0
        have SB := hQ.le L0
        clear HV HN
        go_wp2_with fail
        obtain ⟨y0, y1, zy, LB⟩ := boxS2x w4 (.slice A a.length cap) (.slice C b.length d) 26
        have L1 := L0.trans LB
        replace SA := SA.le LB
        replace SB := SB.le LB
        clear LB
        generalize w4.alloc _ = WB at *
        refine (concatE_any A C a.length cap b.length d _ a b _ SA SB (by omega) y0 y1 zy).mono ?_
        rintro e w5 ⟨v, rfl, D, hle⟩
        rw [HAB.out] at D
        have HO : Hid (Owd 32 w w5 v (jxX xs a b)) := by show Owd _ _ _ _ _; rw [HX.out]; exact D.mono L1
        go_wp2
        exact bodyPost_ret (v := .tuple #[v, .bool true]) (by simp [results, Try.results25, go_sem]) rfl ⟨_, rfl, HO.out, L1.trans hle⟩
      · have hf : Z = false := by rw [HV.out, decide_eq_false h3]; simp
        have HO := Lib.hid (HN.out w4 hf)
        subst hf
        have hb8 : decide ((8 : Int) < (a.length : Int) + (b.length : Int)) = true := by rw [decide_eq_true_iff]; omega
        go_wp2
        exact bodyPost_ret (v := .tuple #[.slice none 0 0, .bool false]) (by simp [results, Try.results25, go_sem]) rfl ⟨_, rfl, HO.out, L0⟩
/-! PushExit -/
set_option maxHeartbeats 1000000 in
set_option maxRecDepth 100000 in
theorem iPushExit_any (T A : Option Addr) (m c n cap : Nat) (xs : List Cls) (a : List Xit) (x : Xit) (hx : Enc.ok x) (hsa : n ≤ 1048576) (w : World) (hT : Sl w T m c xs) (hR : Sl w A n cap a) :
    Calls Try.prog 10 #[.agg #[.slice T m c], .slice A n cap, .agg #[.int .i64 x.kind, .int .i64 x.a, .int .i64 x.b]] w fun e w' => ∃ v, e = .returned (.tuple #[v, .bool (vxs xs (a ++ [x]))]) ∧ Owd 32 w w' v (jxX xs a [x]) ∧ Le w w' := by
  obtain ⟨ct, zt, x0, x1, x2, zx, L0⟩ := boxTX w (.slice T m c) (.int .i64 x.kind) (.int .i64 x.a) (.int .i64 x.b) 25 32
  have hsW : Hid (((w.alloc (.cells #[.slice T m c] 25)).alloc (.cells #[.int .i64 x.kind, .int .i64 x.a, .int .i64 x.b] 32)).heap.size = w.heap.size + 1 + 1) := by show _ = _; simp
  go_enter Try.func10, Try.ntmps10
  go_wp2_with fail
  generalize (w.alloc (.cells #[.slice T m c] 25)).alloc _ = W at *
  have SX := sl_one (w := W) (cs := #[.int .i64 x.kind, .int .i64 x.a, .int .i64 x.b]) (T := 32) (b := w.heap.size + 1 + 1) x rfl hx hsW.out.symm
  have L1 := L0.alloc (.cells #[.int .i64 x.kind, .int .i64 x.a, .int .i64 x.b] 32)
  have HJ := iJoinExits_any T A (some ⟨w.heap.size + 1 + 1, 0, none⟩) m c n cap 1 1 xs a [x] hsa (by omega) _ (hT.le L1) (hR.le L1) SX
  have HZ : ∃ Z, Hid (vxs xs (a ++ [x]) = Z) := ⟨_, rfl⟩
  obtain ⟨Z, HZ⟩ := HZ
  rw [HZ.out] at HJ
  generalize W.alloc _ = WX at *
  refine HJ.mono ?_
  rintro e w5 ⟨v, rfl, D, hle⟩
  have HO := Lib.hid (D.mono L1)
  have L2 := L1.trans hle
  clear HJ D hle SX hsW
  go_wp2
  exact bodyPost_ret (v := .tuple #[v, .bool Z]) (by simp [results, Try.results10, go_sem]) rfl ⟨v, ret2x HZ.out.symm rfl, HO.out, L2⟩
set_option maxHeartbeats 2000000 in
set_option maxRecDepth 100000 in
theorem sPushExit_any (T A : Option Addr) (m c n cap : Nat) (xs : List Cls) (a : List Xit) (x : Xit) (hx : Enc.ok x) (hsa : n ≤ 1048576) (w : World) (hT : Sl w T m c xs) (hR : Sl w A n cap a) :
    Calls Try.prog 11 #[.agg #[.slice T m c], .slice A n cap, .agg #[.int .i64 x.kind, .int .i64 x.a, .int .i64 x.b]] w fun e w' => ∃ v, e = .returned (.tuple #[v, .bool (vxs xs (a ++ [x]))]) ∧ Owd 32 w w' v (jxX xs a [x]) ∧ Le w w' := by
  obtain ⟨i0, hi, hz0, hz1, hz2⟩ := info_parts infoCcExit
  have HX : Hid (jxX xs a [x] = cond (vxs xs (a ++ [x])) (a ++ [x]) []) := rfl
  have HV : Hid (vxs xs a = false → vxs xs (a ++ [x]) = false) := fun h => by
    cases h2 : vxs xs (a ++ [x])
    · rfl
    · rw [(vxs_app h2).1] at h; cases h
  obtain ⟨AB, HAB⟩ : ∃ AB, Hid (a ++ [x] = AB) := ⟨_, rfl⟩
  have hla := hR.len
  have HLN : Hid (AB.length = n + 1) := by show _ = _; rw [← HAB.out, List.length_append, hla]; rfl
  have HOK : Hid (∀ x ∈ AB, Enc.ok x) := by
    rw [← HAB.out]
    intro y hy
    rcases List.mem_append.1 hy with hy | hy
    · exact hR.ok y hy
    · simp at hy; subst hy; exact hx
  rw [HAB.out] at HX HV
  rw [HAB.out]
  subst hla
  obtain ⟨ct, zt, x0, x1, x2, zx, L0⟩ := boxTX w (.slice T m c) (.int .i64 x.kind) (.int .i64 x.a) (.int .i64 x.b) 25 32
  have hsW : Hid (((w.alloc (.cells #[.slice T m c] 25)).alloc (.cells #[.int .i64 x.kind, .int .i64 x.a, .int .i64 x.b] 32)).heap.size = w.heap.size + 1 + 1) := by show _ = _; simp
  go_enter Try.func11, Try.ntmps11
  go_wp2_with fail
  generalize (w.alloc (.cells #[.slice T m c] 25)).alloc _ = W at *
  have HCE : Hid (∀ w' : World, Le W w' → w'.cell? ⟨w.heap.size + 1, 0, none⟩ = some (.int .i64 x.kind) ∧ w'.cell? ⟨w.heap.size + 1, 1, none⟩ = some (.int .i64 x.a) ∧ w'.cell? ⟨w.heap.size + 1, 2, none⟩ = some (.int .i64 x.b)) := fun w' h => ⟨(h.cell zx).trans x0, (h.cell zx).trans x1, (h.cell zx).trans x2⟩
  have HCT : Hid (∀ w' : World, Le W w' → w'.cell? ⟨w.heap.size, 0, none⟩ = some (.slice T m c)) := fun w' h => (h.cell zt).trans ct
  have LD : Le W W.drew := (Le.refl W).drew
  have S1 := hR.le (L0.trans LD)
  clear ct x0 x1 x2
  have h63 : a.length + 1 ≤ maxLen := by unfold maxLen; omega
  have hby : (a.length + 1) * 24 ≤ 140737488355328 := by omega
  have HD : Hid (∀ (v : Value) (wx : World), wx.ownsRow W.drew.heap.size 32 3 v (a.length + 1) ((a ++ [x]).flatMap Enc.cells) → Owd 32 W.drew wx v AB) := fun v wx h => by rw [HAB.out] at h; exact ⟨by rw [HLN.out]; exact h, HOK.out⟩
  go_cut [8] from 9 (fun s8 W1 => Owd 32 W.drew W1 s8 AB ∧ Le W W1)
  case first =>
    refine wp_region_noPanic ?_
    refine wp_region_held_drew (S := fun w' => w'.cell? ⟨w.heap.size + 1, 0, none⟩ = some (.int .i64 x.kind) ∧ w'.cell? ⟨w.heap.size + 1, 1, none⟩ = some (.int .i64 x.a) ∧ w'.cell? ⟨w.heap.size + 1, 2, none⟩ = some (.int .i64 x.b)) (by kernel_rfl) (HCE.out _ LD) (fun hHeld => ?_)
    refine wpAnyH_takeL (i := 0) (v := ?_) rfl (by kernel_rfl) (by kernel_rfl) (by kernel_rfl) (fun _ _ _ h => h) (Or.inl ⟨by rfl, ?_⟩) (by assumption) ?_
    rotate_left 1
    · (intro w hSw; (try dsimp only at hSw); go_simp; try with_reducible rfl)
    try simp only [Act.put, List.setIfInBounds_toArray, List.set_cons_zero, List.set_cons_succ]
    refine wpAnyH_takeL (i := 2) (v := ?_) rfl (by kernel_rfl) (by kernel_rfl) (by kernel_rfl) (fun _ _ _ h => h) (Or.inl ⟨by rfl, ?_⟩) (by assumption) ?_
    rotate_left 1
    · (intro w hSw; (try dsimp only at hSw); go_simp; try with_reducible rfl)
    try simp only [Act.put, List.setIfInBounds_toArray, List.set_cons_zero, List.set_cons_succ]
    refine wpAnyH_ready (rs := [1, 3]) (by kernel_rfl) (by simp) (AllReadyH.consL (i := 1) rfl (fun K hK => ?_) (AllReadyH.consL (i := 3) rfl (fun K hK => ?_) AllReadyH.nil))
    · go_simp
      go_at_call 26
      refine (copyExits_any A a.length cap a _ S1 (by omega)).mono ?_
      rintro e w3 ⟨v3, rfl, D3, hle⟩
      have L3 := LD.trans hle
      have O3 := D3.row
      have SX := sl_one (w := w3) (cs := #[.int .i64 x.kind, .int .i64 x.a, .int .i64 x.b]) (T := 32) (b := w3.heap.size) x rfl hx rfl
      have LB := Le.new w3 (.cells #[.int .i64 x.kind, .int .i64 x.a, .int .i64 x.b] 32)
      obtain ⟨WB, hWB⟩ : ∃ WB, w3.alloc (.cells #[.int .i64 x.kind, .int .i64 x.a, .int .i64 x.b] 32) = WB := ⟨_, rfl⟩
      rw [hWB] at SX LB
      have L4 := L3.trans LB
      have O4 := own_le O3 LB
      refine hK.out _ _ ((HCE.out _ L3)) (fun hHeld => ?_)
      clear hK K
      try simp only [Act.put, List.setIfInBounds_toArray, List.set_cons_zero, List.set_cons_succ]
      refine wpAnyH_ready (rs := [3]) (by kernel_rfl) (by simp) (AllReadyH.consL (i := 3) rfl (fun K hK => ?_) AllReadyH.nil)
      go_simp
      refine hK.out _ _ ((HCE.out _ L4)) (fun hHeld => ?_)
      clear hK K
      try simp only [Act.put, List.setIfInBounds_toArray, List.set_cons_zero, List.set_cons_succ]
      refine wpAnyH_ready (rs := [4]) (by kernel_rfl) (by simp) (AllReadyH.consL (i := 4) rfl (fun K hK => ?_) AllReadyH.nil)
      refine step_append_sl rfl (.tmp 10) (.tmp 12) 26 rfl W.drew.heap.size 32 i0 _ 24 Try.underlying26 hi hz0 hz1 hz2 rfl v3 a.length a rfl O4 (some ⟨w3.heap.size, 0, none⟩) 1 1 [x] rfl SX h63 hby L4.size ?_
      intro v5 w5 O5 hg5 _
      have L5 := L4.grown hg5 (fun k hk => (O4.lt k hk).1)
      refine hK.out _ _ ((HCE.out _ L5)) (fun hHeld => ?_)
      clear hK K
      try simp only [Act.put, List.setIfInBounds_toArray, List.set_cons_zero, List.set_cons_succ]
      refine wpAnyH_takeL (i := 5) (v := ?_) rfl (by kernel_rfl) (by kernel_rfl) (by kernel_rfl) (fun _ _ _ h => h) (Or.inl ⟨by rfl, ?_⟩) (by assumption) ?_
      rotate_left 1
      · (intro w hSw; (try dsimp only at hSw); go_simp; try with_reducible rfl)
      try simp only [Act.put, List.setIfInBounds_toArray, List.set_cons_zero, List.set_cons_succ]
      refine wpAnyH_done (by kernel_rfl) ?_ _
      refine NoPanic.normal ?_
      go_wp2_with fail
      go_meet
      exact ⟨HD.out _ _ O5, L5⟩
    · have SX := sl_one (w := W) (cs := #[.int .i64 x.kind, .int .i64 x.a, .int .i64 x.b]) (T := 32) (b := W.heap.size) x rfl hx rfl
      have LB := Le.new W (.cells #[.int .i64 x.kind, .int .i64 x.a, .int .i64 x.b] 32)
      obtain ⟨WB, hWB⟩ : ∃ WB, W.alloc (.cells #[.int .i64 x.kind, .int .i64 x.a, .int .i64 x.b] 32) = WB := ⟨_, rfl⟩
      rw [hWB] at SX LB
      have LB2 : Le W.drew WB.drew := by rw [← hWB]; exact Le.new W.drew _
      have L4 := LD.trans LB2
      go_simp
      refine hK.out _ _ ((HCE.out _ L4)) (fun hHeld => ?_)
      clear hK K
      try simp only [Act.put, List.setIfInBounds_toArray, List.set_cons_zero, List.set_cons_succ]
      refine wpAnyH_ready (rs := [1]) (by kernel_rfl) (by simp) (AllReadyH.consL (i := 1) rfl (fun K hK => ?_) AllReadyH.nil)
      go_simp
      go_at_call 26
      refine (copyExits_any A a.length cap a _ (S1.le LB2) (by omega)).mono ?_
      rintro e w3 ⟨v3, rfl, D3, hle⟩
      have L5 := L4.trans hle
      have O3 := own_mono D3.row LB2.size
      have SX3 := (SX.le (Le.refl WB).drew).le hle
      refine hK.out _ _ ((HCE.out _ L5)) (fun hHeld => ?_)
      clear hK K
      try simp only [Act.put, List.setIfInBounds_toArray, List.set_cons_zero, List.set_cons_succ]
      refine wpAnyH_ready (rs := [4]) (by kernel_rfl) (by simp) (AllReadyH.consL (i := 4) rfl (fun K hK => ?_) AllReadyH.nil)
      refine step_append_sl rfl (.tmp 10) (.tmp 12) 26 rfl W.drew.heap.size 32 i0 _ 24 Try.underlying26 hi hz0 hz1 hz2 rfl v3 a.length a rfl O3 (some ⟨W.heap.size, 0, none⟩) 1 1 [x] rfl SX3 h63 hby L5.size ?_
      intro v5 w5 O5 hg5 _
      have L6 := L5.grown hg5 (fun k hk => (O3.lt k hk).1)
      refine hK.out _ _ ((HCE.out _ L6)) (fun hHeld => ?_)
      clear hK K
      try simp only [Act.put, List.setIfInBounds_toArray, List.set_cons_zero, List.set_cons_succ]
      refine wpAnyH_takeL (i := 5) (v := ?_) rfl (by kernel_rfl) (by kernel_rfl) (by kernel_rfl) (fun _ _ _ h => h) (Or.inl ⟨by rfl, ?_⟩) (by assumption) ?_
      rotate_left 1
      · (intro w hSw; (try dsimp only at hSw); go_simp; try with_reducible rfl)
      try simp only [Act.put, List.setIfInBounds_toArray, List.set_cons_zero, List.set_cons_succ]
      refine wpAnyH_done (by kernel_rfl) ?_ _
      refine NoPanic.normal ?_
      go_wp2_with fail
      go_meet
      exact ⟨HD.out _ _ O5, L6⟩
  case rest =>
    obtain ⟨D, LW⟩ := hcut
    generalize wc = W1 at *
    have ctC := HCT.out _ LW
    have L2 := L0.trans LW
    have LWD := L0.trans LD
    obtain ⟨A1, q1, rfl, S2, -⟩ := D.form (by decide)
    have HD2 := Lib.hid D
    have ztC := Nat.lt_of_lt_of_le zt LW.size
    have hl2 : AB.length ≤ 2097152 := by have := HLN.out; omega
    clear D HD HCE HCT S1 LW zt zx
    go_wp2_with fail
    refine (svalidExits_any T A m c a.length cap xs a W1 (hT.le L2) (hR.le L2)).mono ?_
    rintro e w3 ⟨rfl, hle⟩
    replace ctC := (hle.cell ztC).trans ctC
    replace ztC := Nat.lt_of_lt_of_le ztC hle.size
    have L3 := L2.trans hle
    have S3 := S2.le hle
    have HD3 := Lib.hid (HD2.out.le hle)
    clear hle S2 L2 HD2
    cases h1 : vxs xs a
    · have HF := Lib.hid (HV.out h1)
      have HO : Hid (Owd 32 w w3 (.slice none 0 0) (jxX xs a [x])) := by show Owd _ _ _ _ _; rw [HX.out, HF.out]; exact Owd.nil _ _ _
      go_wp2
      exact bodyPost_ret (v := .tuple #[.slice none 0 0, .bool false]) (by simp [results, Try.results11, go_sem]) rfl ⟨_, ret2x HF.out.symm rfl, HO.out, L3⟩
    · go_wp2_with fail
      refine (svalidExits_any T A1 m c AB.length q1 xs AB w3 (hT.le L3) S3).mono ?_
      rintro e w5 ⟨rfl, hle⟩
      have L5 := L3.trans hle
      have HD5 := Lib.hid (HD3.out.le hle)
      clear hle S3
      cases h3 : vxs xs AB
      · have HO : Hid (Owd 32 w w5 (.slice none 0 0) (jxX xs a [x])) := by show Owd _ _ _ _ _; rw [HX.out, h3]; exact Owd.nil _ _ _
        go_wp2
        exact bodyPost_ret (v := .tuple #[.slice none 0 0, .bool false]) (by simp [results, Try.results11, go_sem]) rfl ⟨_, ret2x h3.symm rfl, HO.out, L5⟩
      · have HO : Hid (Owd 32 w w5 (.slice A1 AB.length q1) (jxX xs a [x])) := by show Owd _ _ _ _ _; rw [HX.out, h3]; exact HD5.out.mono LWD
        go_wp2
        exact bodyPost_ret (v := .tuple #[.slice A1 AB.length q1, .bool true]) (by simp [results, Try.results11, go_sem]) rfl ⟨_, ret2x h3.symm rfl, HO.out, L5⟩
end Go.Proofs.Ytdpojpgdfklfkaa
