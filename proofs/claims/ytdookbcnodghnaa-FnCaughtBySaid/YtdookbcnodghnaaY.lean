import Derived.Test.YtdookbcnodghnaaV
namespace Go.Proofs.Ytdookbcnodghnaa
open Go.RowKit

def belowK (xs : List Cls) (a : Int) : Nat → List Int
  | 0 => []
  | k + 1 => belowK xs a k ++ (if isAL xs (k : Int) a then [(k : Int)] else [])
theorem belowK_len (xs : List Cls) (a : Int) : ∀ k, (belowK xs a k).length ≤ k
  | 0 => Nat.le_refl _
  | k + 1 => by
    have := belowK_len xs a k
    unfold belowK
    split <;> simp <;> omega
theorem belowK_ok (xs : List Cls) (a : Int) : ∀ k, k ≤ 8 → ∀ x ∈ belowK xs a k, Enc.ok x
  | 0, _, x, h => nomatch h
  | k + 1, hk, x, h => by
    unfold belowK at h
    rcases List.mem_append.1 h with h | h
    · exact belowK_ok xs a k (by omega) x h
    · split at h
      · simp at h; subst h; exact ⟨by omega, by omega⟩
      · cases h
def belowX (xs : List Cls) (a : Int) : List Int := cond (okTree xs && hasK xs a) (belowK xs a xs.length) []
theorem belowX_of {xs : List Cls} {a : Int} {b : Bool} (h : (okTree xs && hasK xs a) = b) : belowX xs a = cond b (belowK xs a xs.length) [] := by unfold belowX; rw [h]
theorem belowX_len (xs : List Cls) (a : Int) : (belowX xs a).length ≤ 1048576 := by
  cases h : okTree xs && hasK xs a
  · rw [belowX_of h]; simp
  · have hab : okTree xs = true ∧ hasK xs a = true := by simpa using h
    have g := good_of hab.1
    have := belowK_len xs a xs.length
    have := g.hi
    rw [belowX_of h]; show (belowK xs a xs.length).length ≤ _; omega

set_option maxRecDepth 100000 in
theorem sBelowOf_any (A : Option Addr) (n cap : Nat) (xs : List Cls) (a : Int) (w : World) (hR : Sl w A n cap xs) :
    Calls Try.prog 29 #[.agg #[.slice A n cap], .int .i64 a] w (OwnInts (belowX xs a) w) := by
  obtain ⟨i0, hi, hz0, hz1, hz2⟩ := info_parts intInfo
  have hl := Le.new w (.cells #[.slice A n cap] 25)
  have c0 : (w.alloc (.cells #[.slice A n cap] 25)).cell? ⟨w.heap.size, 0, none⟩ = some (.slice A n cap) := by rw [World.cell?_alloc_at _ _ _ _ rfl]; rfl
  have hz : w.heap.size < (w.alloc (.cells #[.slice A n cap] 25)).heap.size := by simp
  have hS := hR.le hl
  cases h1 : okTree xs && hasK xs a
  · have HF := Lib.hid (belowX_of h1)
    go_enter Try.func29, Try.ntmps29
    go_wp2_with fail
    generalize w.alloc (.cells #[.slice A n cap] 25) = W at *
    refine (goodClass_any A n cap xs a _ hS).mono ?_
    rintro e w2 ⟨rfl, hle⟩
    rw [h1]
    clear h1
    have HO : Hid (OwnInts (belowX xs a) w (.returned (.slice none 0 0)) w2) := by
      show OwnInts _ _ _ _
      rw [HF.out]; exact own_nil w w2 (hl.trans hle)
    go_wp2
    go_ret
    exact HO.out
  · have hab : okTree xs = true ∧ hasK xs a = true := by simpa using h1
    have g := good_of hab.1
    have hka := hasK_iff.1 hab.2
    clear hab
    have hhi := g.hi
    obtain rfl := hR.len
    have HF := Lib.hid (belowX_of h1)
    go_enter Try.func29, Try.ntmps29
    go_wp2_with fail
    generalize w.alloc (.cells #[.slice A xs.length cap] 25) = W at *
    refine (goodClass_any A xs.length cap xs a _ hS).mono ?_
    rintro e w2 ⟨rfl, hle⟩
    rw [h1]
    clear h1
    have c2 := (hle.cell hz).trans c0
    have hz2' := Nat.lt_of_lt_of_le hz hle.size
    have hl2 := hl.trans hle
    clear c0 hz hle hl hS
    go_wp2
    go_loopw [5, 6] (fun v q wr => ∃ k : Nat, k ≤ xs.length ∧ q = .int .i64 k ∧ wr.ownsRow w2.heap.size 3 1 v (belowK xs a k).length ((belowK xs a k).flatMap Enc.cells) ∧ Le w2 wr) (fun _ q _ => xs.length - (intOf q).toNat)
    case atStart => exact ⟨0, Nat.zero_le _, rfl, own_empty (Nat.le_refl _) rfl, Le.new w2 _⟩
    case round =>
      obtain ⟨k, hk, rfl, hown, hle⟩ := hrel
      have cr := (hle.cell hz2').trans c2
      have hRr := hR.le (hl2.trans hle)
      have hzr := Nat.lt_of_lt_of_le hz2' hle.size
      by_cases hlt : k < xs.length
      · have hbl := belowK_len xs a k
        go_wp2_with fail
        refine (isA_any _ _ _ xs (k : Int) a _ hRr g (by omega) (by omega)).mono ?_
        rintro e w3 ⟨rfl, hle3⟩
        have hown3 := own_le hown hle3
        have hle' := hle.trans hle3
        clear hown hle
        cases hi1 : isAL xs (k : Int) a
        · have HB : Hid (belowK xs a (k + 1) = belowK xs a k) := by show _ = _; rw [belowK, hi1]; simp
          go_wp2
          go_roundw
          case rel => exact ⟨k + 1, by omega, by go_num, by rw [HB.out]; exact hown3, hle'⟩
          case measure => simp [intOf]; omega
        · have HB : Hid (belowK xs a (k + 1) = belowK xs a k ++ [(k : Int)]) := by show _ = _; rw [belowK, hi1]; simp
          have hc3 : (belowK xs a k).length + 1 ≤ maxLen := by unfold maxLen; omega
          have hc4 : ((belowK xs a k).length + 1) * 8 ≤ 140737488355328 := by omega
          have hsz3 := hle'.size
          go_wp2_with (at_builtin; refine wpList_append_own _ rfl _ _ 38 rfl w2.heap.size 3 i0 (.int .i64 0) 1 8 Try.underlying38 hi hz0 hz1 hz2 rfl (by decide) _ _ _ rfl (hown3.alloc _) ⟨w3.heap.size, 0, none⟩ 1 1 [.int .i64 k] rfl rfl ?c1 ?c2 hc3 hc4 ?c5 ?_)
          case c1 => exact one_new _ _ _
          case c2 => intro u hu; simp at hu; subst hu; rfl
          case c5 => simp; omega
          intro v1 w1 hown1 hg1 _
          have hle1 := (hle'.alloc (.cells #[.int .i64 (k : Int)] 3)).grown hg1 (fun k hk => (hown3.lt k hk).1)
          go_wp2
          go_roundw
          case rel =>
            refine ⟨k + 1, by omega, by go_num, ?_, hle1⟩
            rw [HB.out]; simpa [Enc.cells] using hown1
          case measure => simp [intOf]; omega
      · have hk' : k = xs.length := by omega
        have HO : ∀ v, wr.ownsRow w2.heap.size 3 1 v (belowK xs a k).length ((belowK xs a k).flatMap Enc.cells) → OwnInts (belowX xs a) w (.returned v) wr := by
          intro v hv
          rw [HF.out]
          refine ⟨v, rfl, ?_, belowK_ok xs a _ hhi, hl2.trans hle⟩
          subst hk'
          exact own_mono hv hl2.size
        have HO' := Lib.hid HO
        clear HO hk'
        go_wp2
        go_ret
        exact HO'.out _ hown
end Go.Proofs.Ytdookbcnodghnaa
