/- WyY: one text of Y, Z -/
import Derived.Test.YtomdhpfelchjeaaWyM
namespace Go.Proofs.Ytomdhpfelchjeaa
open Go.RowKit
section
def belowK (xs : List Cls) (a : Int) : Nat → List Int
  | 0 => []
  | k + 1 => belowK xs a k ++ (if isAL xs (k : Int) a then [(k : Int)] else [])
theorem belowK_len (xs : List Cls) (a : Int) : ∀ k, (belowK xs a k).length ≤ k
  | 0 => Nat.le_refl _
  | k + 1 => by
    have := belowK_len xs a k
    unfold belowK
    split <;> simp <;> omega
theorem belowK_ok (xs : List Cls) (a : Int) : ∀ k, k ≤ 8 → ∀ x ∈ belowK xs a k, Enc.ok x
  | 0, _, x, h => nomatch h
  | k + 1, hk, x, h => by
    unfold belowK at h
    rcases List.mem_append.1 h with h | h
    · exact belowK_ok xs a k (by omega) x h
    · split at h
      · simp at h; subst h; exact ⟨by omega, by omega⟩
      · cases h
def belowX (xs : List Cls) (a : Int) : List Int := cond (okTree xs && hasK xs a) (belowK xs a xs.length) []
theorem belowX_of {xs : List Cls} {a : Int} {b : Bool} (h : (okTree xs && hasK xs a) = b) : belowX xs a = cond b (belowK xs a xs.length) [] := by unfold belowX; rw [h]
theorem belowX_len (xs : List Cls) (a : Int) : (belowX xs a).length ≤ 1048576 := by
  cases h : okTree xs && hasK xs a
  · rw [belowX_of h]; simp
  · have hab : okTree xs = true ∧ hasK xs a = true := by simpa using h
    have g := good_of hab.1
    have := belowK_len xs a xs.length
    have := g.hi
    rw [belowX_of h]; show (belowK xs a xs.length).length ≤ _; omega

end

section
theorem meth_node (a : Addr) (w : World) : (method 234 73 (.pointer (some a)) "loop.example/faultcleanup/impl.catches").run Try.prog w = .ok (56, .pointer (some a)) w := by kernel_rfl
set_option maxRecDepth 100000 in
theorem caughtAt_any (A : Option Addr) (gs : List PB) (xs : List Cls) (g : Good xs) (j : Nat) (hj : j < gs.length) (w : World) (hS : Sl w A xs.length xs.length gs) (hN : Nds w gs xs) :
    Calls Try.prog 55 #[.slice A xs.length xs.length, .iface 73 (.pointer (some ⟨gs[j].g, 0, none⟩))] w fun e w' => ∃ v, e = .returned v ∧ w'.ownsRow w.heap.size 3 1 v (belowK xs j xs.length).length ((belowK xs j xs.length).flatMap Enc.cells) ∧ Le w w' := by
  obtain ⟨i0, hi, hz0, hz1, hz2⟩ := info_parts intInfo
  have HL := Lib.hid hN.len
  have hhi := g.hi
  go_enter Try.func55, Try.ntmps55
  go_wp2

  go_loopw [5, 10] (fun v q wr => ∃ k : Nat, k ≤ xs.length ∧ q = .int .i64 k ∧ wr.ownsRow w.heap.size 3 1 v (belowK xs j k).length ((belowK xs j k).flatMap Enc.cells) ∧ Le w wr) (fun _ q _ => xs.length - (intOf q).toNat)
  case atStart => exact ⟨0, Nat.zero_le _, rfl, World.ownsRow_nil _ _ _ _, Le.refl _⟩
  case round =>
    obtain ⟨k, hk, rfl, hown, hle⟩ := hrel
    by_cases hlt : k < xs.length
    · have hkg : k < gs.length := by have := HL.out; omega
      obtain ⟨b, off, rfl, hb, hcell⟩ := (hS.le hle).pb_at hkg
      have hNr := hN.le hle
      have hm := meth_node ⟨gs[j].g, 0, none⟩ wr
      have hc := catches_any gs xs g j hj (k : Int) (by omega) (by omega) wr hNr
      rw [ptrOf_at hkg] at hc
      have HC := Lib.hid hc; clear hc
      have hid := hNr.idx k hkg
      have hbl := belowK_len xs (j : Int) k
      go_wp2_with fail
      refine HC.out.mono ?_
      rintro e w3 ⟨rfl, rfl⟩
      cases hi1 : isAL xs (k : Int) (j : Int)
      · have HB : Hid (belowK xs j (k + 1) = belowK xs j k) := by show _ = _; rw [belowK, hi1]; simp
        go_wp2
        go_roundw
        case rel => exact ⟨k + 1, by omega, by go_num, by rw [HB.out]; exact hown, hle⟩
        case measure => simp [intOf]; omega
      · have HB : Hid (belowK xs j (k + 1) = belowK xs j k ++ [(k : Int)]) := by show _ = _; rw [belowK, hi1]; simp
        have hc3 : (belowK xs j k).length + 1 ≤ maxLen := by unfold maxLen; omega
        have hc4 : ((belowK xs j k).length + 1) * 8 ≤ 140737488355328 := by omega
        have hsz := hle.size
        go_wp2_with (at_builtin; refine wpList_append_own _ rfl _ _ 29 rfl w.heap.size 3 i0 (.int .i64 0) 1 8 Try.underlying29 hi hz0 hz1 hz2 rfl (by decide) _ _ _ rfl (hown.alloc _) ⟨wr.heap.size, 0, none⟩ 1 1 [.int .i64 k] rfl rfl ?c1 ?c2 hc3 hc4 ?c5 ?_)
        case c1 => exact one_new _ _ _
        case c2 => intro u hu; simp at hu; subst hu; rfl
        case c5 => simp; omega
        intro v1 w1 hown1 hg1 _
        have hle1 := (hle.alloc (.cells #[.int .i64 (k : Int)] 3)).grown hg1 (fun k hk => (hown.lt k hk).1)
        go_wp2
        go_roundw
        case rel =>
          refine ⟨k + 1, by omega, by go_num, ?_, hle1⟩
          rw [HB.out]; simpa [Enc.cells] using hown1
        case measure => simp [intOf]; omega
    · have hk' : k = xs.length := by omega
      subst hk'
      have HO := Lib.hid hown
      clear hown
      go_wp2
      go_ret
      exact ⟨_, rfl, HO.out, hle⟩

theorem iBelowOf_any (A : Option Addr) (n cap : Nat) (xs : List Cls) (a : Int) (w : World) (hR : Sl w A n cap xs) :
    Calls Try.prog 20 #[.agg #[.slice A n cap], .int .i64 a] w (OwnInts (belowX xs a) w) := by
  have hl := Le.new w (.cells #[.slice A n cap] 25)
  go_enter Try.func20, Try.ntmps20
  go_wp2_with fail
  refine (nodesOf_any A n cap xs _ (hR.alloc _)).mono ?_
  intro e w2 hout
  obtain ⟨hle, A2, n2, gs, rfl, hS2, hcase⟩ := nodes_one hout
  have hl2 := hl.trans hle
  clear hout hle hl
  go_wp2_with fail
  refine (nodeAt_any _ _ _ gs a _ hS2).mono ?_
  rintro e w3 ⟨rfl, rfl⟩
  by_cases hno : (okTree xs && hasK xs a) = true
  · have hab : okTree xs = true ∧ hasK xs a = true := by simpa using hno
    have g := good_of hab.1
    rcases hcase with ⟨h0, _⟩ | ⟨h1, rfl, hN⟩
    · rw [hab.1] at h0; cases h0
    · rcases ptr_cases hN.len a with ⟨h2, _⟩ | ⟨_, j, hj, rfl, hp⟩
      · rw [hab.2] at h2; cases h2
      · have HF := Lib.hid (belowX_of hno)
        rw [hp]
        have hhi := g.hi
        clear hab hno h1 hp
        go_wp2_with fail
        refine (caughtAt_any A2 gs xs g j hj _ hS2 hN).mono ?_
        rintro e w3 ⟨v, rfl, hown, hle3⟩
        have HO : Hid (OwnInts (belowX xs j) w (.returned v) w3) := by
          show OwnInts _ _ _ _
          rw [HF.out]; exact ⟨v, rfl, own_mono hown hl2.size, belowK_ok xs j _ hhi, hl2.trans hle3⟩
        go_wp2
        go_ret
        exact HO.out
  · have h1 : (okTree xs && hasK xs a) = false := by simpa using hno
    have HF := Lib.hid (belowX_of h1)
    have hp : ptrOf gs a = none := by
      rcases hcase with ⟨h0, _, rfl⟩ | ⟨h0, _, hN⟩
      · exact ptrOf_nil a
      · rcases ptr_cases hN.len a with ⟨_, h⟩ | ⟨h, _⟩
        · exact h
        · rw [h0, h] at h1; cases h1
    rw [hp]
    clear hp hcase h1 hno
    have HO : Hid (OwnInts (belowX xs a) w (.returned (.slice none 0 0)) w2) := by
      show OwnInts _ _ _ _
      rw [HF.out]; exact own_nil w w2 hl2
    go_wp2
    go_ret
    exact HO.out
end
end Go.Proofs.Ytomdhpfelchjeaa
