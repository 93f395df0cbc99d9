/- exits: EscapesOf of the program -/
import Derived.Test.YtacilbglnhgifaaLvE
import Derived.Test.YtacilbglnhgifaaV
namespace Go.Proofs.Ytacilbglnhgifaa
open Go.RowKit
/-- the numbers below a bound for which something holds -/
def escK (f : Nat → Bool) : Nat → List Int
  | 0 => []
  | k + 1 => escK f k ++ (if f k = true then [(k : Int)] else [])
theorem escK_len (f : Nat → Bool) : ∀ k, (escK f k).length ≤ k
  | 0 => Nat.le_refl _
  | k + 1 => by
    have := escK_len f k
    unfold escK
    split <;> simp <;> omega
theorem escK_ok (f : Nat → Bool) : ∀ k, k ≤ 8 → ∀ x ∈ escK f k, Enc.ok x
  | 0, _, x, h => nomatch h
  | k + 1, hk, x, h => by
    unfold escK at h
    rcases List.mem_append.1 h with h | h
    · exact escK_ok f k (by omega) x h
    · split at h
      · simp at h; subst h; exact ⟨by omega, by omega⟩
      · cases h
theorem escK_congr {f g : Nat → Bool} : ∀ {k}, (∀ j, j < k → f j = g j) → escK f k = escK g k
  | 0, _ => rfl
  | k + 1, h => by
    unfold escK
    rw [escK_congr (fun j hj => h j (by omega)), h k (Nat.lt_succ_self k)]
/-- the fault that is left of a fault of a class at first -/
def faX (xs : List Cls) (L : List Xit) (has : Bool) (a : Int) : Int := (clX xs L (stS has a 0)).2.2
def escI (xs : List Cls) (L : List Xit) : List Int := cond (vxs xs L) (escK (fun k => faX xs L true (k : Int) == 0) xs.length) []
theorem escI_of {xs : List Cls} {L : List Xit} {b : Bool} (h : vxs xs L = b) : escI xs L = cond b (escK (fun k => faX xs L true (k : Int) == 0) xs.length) [] := by unfold escI; rw [h]
set_option maxHeartbeats 2000000 in
set_option maxRecDepth 100000 in
theorem iEscapesOf_any (B : Option Addr) (m c : Nat) (xs : List Cls) (A : Option Addr) (n cap : Nat) (L : List Xit) (w : World) (hT : Sl w B m c xs) (hL : Sl w A n cap L) :
    Calls Try.prog 21 #[.agg #[.slice B m c], .slice A n cap] w (OwnInts (escI xs L) w) := by
  obtain ⟨i0, hi, hz0, hz1, hz2⟩ := info_parts intInfo
  have hl := Le.new w (.cells #[.slice B m c] 39)
  have c0 : (w.alloc (.cells #[.slice B m c] 39)).cell? ⟨w.heap.size, 0, none⟩ = some (.slice B m c) := by rw [World.cell?_alloc_at _ _ _ _ rfl]; rfl
  have hz : w.heap.size < (w.alloc (.cells #[.slice B m c] 39)).heap.size := by simp
  have hS := hT.le hl
  have hSL := hL.le hl
  cases h1 : vxs xs L
  · have HF := Lib.hid (escI_of h1)
    go_enter Try.func21, Try.ntmps21
    go_wp2_with fail
    generalize w.alloc (.cells #[.slice B m c] 39) = W at *
    refine (iValidExits_any B A m c n cap xs L _ hS hSL).mono ?_
    rintro e w2 ⟨rfl, hle⟩
    rw [h1]
    clear h1
    have HO : Hid (OwnInts (escI xs L) w (.returned (.slice none 0 0)) w2) := by
      show OwnInts _ _ _ _
      rw [HF.out]; exact own_nil w w2 (hl.trans hle)
    go_wp2
    go_ret
    exact HO.out
  · have hab := vxs_iff.1 h1
    have g := good_of hab.1
    have hLl := hab.2.1
    clear hab
    have hhi := g.hi
    obtain rfl := hT.len
    have hnl := hL.len
    have HF := Lib.hid (escI_of h1)
    go_enter Try.func21, Try.ntmps21
    go_wp2_with fail
    generalize w.alloc (.cells #[.slice B xs.length c] 39) = W at *
    refine (iValidExits_any B A xs.length c n cap xs L _ hS hSL).mono ?_
    rintro e w2 ⟨rfl, hle⟩
    rw [h1]
    clear h1
    have c2 := (hle.cell hz).trans c0
    have hz2' := Nat.lt_of_lt_of_le hz hle.size
    have hl2 := hl.trans hle
    clear c0 hz hle hl hS hSL
    go_wp2
    generalize HFN : (fun k : Nat => faX xs L true (k : Int) == 0) = F at *
    go_loopw [5, 14] (fun v q wr => ∃ k : Nat, k ≤ xs.length ∧ q = .int .i64 k ∧ wr.ownsRow w2.heap.size 3 1 v (escK F k).length ((escK F k).flatMap Enc.cells) ∧ Le w2 wr) (fun _ q _ => xs.length - (intOf q).toNat)
    case atStart => exact ⟨0, Nat.zero_le _, rfl, World.ownsRow_nil _ _ _ _, Le.refl w2⟩
    case round =>
      obtain ⟨k, hk, rfl, hown, hle⟩ := hrel
      have cr := (hle.cell hz2').trans c2
      have hRr := hT.le (hl2.trans hle)
      have hLr := hL.le (hl2.trans hle)
      have hzr := Nat.lt_of_lt_of_le hz2' hle.size
      by_cases hlt : k < xs.length
      · have hbl := escK_len F k
        go_wp2_with fail
        refine (closeExits_any B xs.length c xs A n cap L true (k : Int) 0 ⟨by omega, by omega⟩ ⟨by omega, by omega⟩ (by omega) _ hRr hLr).mono ?_
        rintro e w3 ⟨R, lv, hv, rfl, LV⟩
        have k3 := LV.c3
        have hown3 := own_le hown LV.G
        have hle' := hle.trans LV.G
        have HFK : Hid (F k = ((clX xs L (stS true (k : Int) 0)).2.2 == 0)) := by show _ = _; rw [← HFN]; rfl
        generalize (clX xs L (stS true (k : Int) 0)).2.2 = fa at *
        clear hown hle LV HFN
        by_cases hi1 : fa = 0
        · subst hi1
          have HB : Hid (escK F (k + 1) = escK F k ++ [(k : Int)]) := by show _ = _; rw [escK, HFK.out]; simp
          have hc3 : (escK F k).length + 1 ≤ maxLen := by unfold maxLen; omega
          have hc4 : ((escK F k).length + 1) * 8 ≤ 140737488355328 := by omega
          have hsz3 := hle'.size
          go_wp2_with (at_builtin; refine wpList_append_own _ rfl _ _ 30 rfl w2.heap.size 3 i0 (.int .i64 0) 1 8 Try.underlying30 hi hz0 hz1 hz2 rfl (by decide) _ _ _ rfl (hown3.alloc _) ⟨w3.heap.size, 0, none⟩ 1 1 [.int .i64 k] rfl rfl ?c1 ?c2 hc3 hc4 ?c5 ?_)
          case c1 => exact one_new _ _ _
          case c2 => intro u hu; simp at hu; subst hu; rfl
          case c5 => simp; omega
          intro v1 w1 hown1 hg1 _
          have hle1 := (hle'.alloc (.cells #[.int .i64 (k : Int)] 3)).grown hg1 (fun k hk => (hown3.lt k hk).1)
          go_wp2
          go_roundw
          case rel =>
            refine ⟨k + 1, by omega, by go_num, ?_, hle1⟩
            rw [HB.out, List.length_append, List.flatMap_append]
            exact hown1
          case measure => simp [intOf]; omega
        · have hb : (fa == 0) = false := by simp; omega
          have HB : Hid (escK F (k + 1) = escK F k) := by show _ = _; rw [escK, HFK.out, hb]; simp
          go_wp2
          go_roundw
          case rel => exact ⟨k + 1, by omega, by go_num, by rw [HB.out]; exact hown3, hle'⟩
          case measure => simp [intOf]; omega
      · have he : k = xs.length := by omega
        have HO : Hid (OwnInts (escI xs L) w (.returned u5) wr) := by
          show OwnInts _ _ _ _
          rw [HF.out, ← he]
          exact ⟨_, rfl, own_mono hown (by have := hl2.size; omega), escK_ok F k (by omega), hl2.trans hle⟩
        clear hown
        go_wp2
        go_ret
        exact HO.out
end Go.Proofs.Ytacilbglnhgifaa
