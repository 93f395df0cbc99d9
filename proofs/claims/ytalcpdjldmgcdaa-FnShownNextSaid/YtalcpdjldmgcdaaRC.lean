/- ReachOf of the model and of the program -/
import Derived.Test.YtalcpdjldmgcdaaRJ
import Derived.Test.YtalcpdjldmgcdaaRS
import Derived.Test.YtalcpdjldmgcdaaHpJ
namespace Go.Proofs.Ytalcpdjldmgcdaa
open Go.RowKit

def reachX (xs : List Cls) (hs : List Flt) (f : Int) : List Int := cond (goodF xs hs f) (reachL hs f) []
theorem reachX_of {xs : List Cls} {hs : List Flt} {f : Int} {t : Bool} (h : goodF xs hs f = t) : reachX xs hs f = cond t (reachL hs f) [] := by unfold reachX; rw [h]
theorem goodF_lnk {xs : List Cls} {hs : List Flt} {f : Int} (h : goodF xs hs f = true) : Lnk hs ∧ hs.length ≤ 24 ∧ 0 ≤ f ∧ f < hs.length := by
  unfold goodF at h; rw [Bool.and_eq_true] at h
  have g := goodH_of h.1
  have := hasF_iff.1 h.2
  exact ⟨g.lnk, g.few, this.1, this.2⟩
theorem reachX_len (xs : List Cls) (hs : List Flt) (f : Int) : (reachX xs hs f).length ≤ 1048576 := by
  cases h : goodF xs hs f
  · rw [reachX_of h]; simp
  · rw [reachX_of h]
    obtain ⟨_, h1, _⟩ := goodF_lnk h
    have := ascOf_len (L := rch0 hs f) hs.length
    show (ascOf (rch0 hs f) hs.length).length ≤ _
    omega

set_option maxRecDepth 100000 in
theorem iReachOf_any (A H : Option Addr) (n cap m c : Nat) (xs : List Cls) (hs : List Flt) (f : Int) (w : World) (hR : Sl w A n cap xs) (hH : Sl w H m c hs) (hm : m ≤ 2097152) :
    Calls Try.prog 15 #[.agg #[.slice A n cap], .agg #[.slice H m c], .int .i64 f] w fun e w' => ∃ v, e = .returned v ∧ Owd 3 w w' v (reachX xs hs f) ∧ Le w w' := by
  go_enter Try.func15, Try.ntmps15
  go_wp2_with fail
  obtain ⟨c0, z0, c1, z1, L0⟩ := box2 w (.slice A n cap) (.slice H m c) 25 28
  have S0 := hH.le L0
  have hL0 := L0
  generalize (w.alloc (.cells #[.slice A n cap] 25)).alloc (.cells #[.slice H m c] 28) = W at *
  refine (iHasFault_any A H n cap m c xs hs f W (hR.le L0) S0 hm).mono ?_
  rintro e w1 ⟨rfl, hle⟩
  replace c0 := (hle.cell z0).trans c0
  replace c1 := (hle.cell z1).trans c1
  replace z0 := Nat.lt_of_lt_of_le z0 hle.size
  replace z1 := Nat.lt_of_lt_of_le z1 hle.size
  replace L0 := L0.trans hle
  replace S0 := S0.le hle
  have hle1 := hle
  clear hle
  cases ho : goodF xs hs f
  · have HX := Lib.hid (reachX_of ho)
    clear ho
    go_wp2
    go_ret
    exact ⟨_, rfl, by rw [HX.out]; exact Owd.nil _ _ _, L0⟩
  · have HX := Lib.hid (reachX_of ho)
    obtain ⟨lk, hfew, hf0, hf1⟩ := goodF_lnk ho
    have HLK := Lib.hid lk
    clear ho lk
    go_wp2_with fail
    refine (iReach_any H m c hs f _ S0 HLK.out hf0 hf1 hm).mono ?_
    rintro e w2 ⟨v, rfl, D, hle⟩
    have HD := Lib.hid (D.mono (w00 := w) L0)
    clear D
    go_wp2
    go_ret
    exact ⟨_, rfl, by rw [HX.out]; exact HD.out, L0.trans hle⟩

set_option maxHeartbeats 4000000 in
set_option maxRecDepth 100000 in
theorem sReachOf_any (A H : Option Addr) (n cap m c : Nat) (xs : List Cls) (hs : List Flt) (f : Int) (w : World) (hR : Sl w A n cap xs) (hH : Sl w H m c hs) (hm : m ≤ 2097152) :
    Calls Try.prog 18 #[.agg #[.slice A n cap], .agg #[.slice H m c], .int .i64 f] w fun e w' => ∃ v, e = .returned v ∧ Owd 3 w w' v (reachX xs hs f) ∧ Le w w' := by
  go_enter Try.func18, Try.ntmps18
  go_wp2_with fail
  obtain ⟨c0, z0, c1, z1, L0⟩ := box2 w (.slice A n cap) (.slice H m c) 25 28
  have S0 := hH.le L0
  generalize (w.alloc (.cells #[.slice A n cap] 25)).alloc (.cells #[.slice H m c] 28) = W at *
  refine (goodFault_any A H n cap m c xs hs f W (hR.le L0) S0 hm).mono ?_
  rintro e w1 ⟨rfl, hle⟩
  replace c0 := (hle.cell z0).trans c0
  replace c1 := (hle.cell z1).trans c1
  replace z0 := Nat.lt_of_lt_of_le z0 hle.size
  replace z1 := Nat.lt_of_lt_of_le z1 hle.size
  replace L0 := L0.trans hle
  replace S0 := S0.le hle
  clear hle
  cases ho : goodF xs hs f
  · have HX := Lib.hid (reachX_of ho)
    clear ho
    go_wp2
    go_ret
    exact ⟨_, rfl, by rw [HX.out]; exact Owd.nil _ _ _, L0⟩
  · have HX := Lib.hid (reachX_of ho)
    obtain ⟨lk, hfew, hf0, hf1⟩ := goodF_lnk ho
    have HLK := Lib.hid lk
    have HRI := Lib.hid (fun x => rch0_iff lk hf0 hf1 x)
    have HFN := Lib.hid (rch0_fnd lk hf1)
    have hlen := S0.len
    have hub : 0 < m → ∀ a, H = some a → a.block < w1.heap.size := fun h a e => S0.under h a e
    have HUB := Lib.hid hub
    clear ho lk hub
    go_wp2_with fail
    refine (sReach_any H m c hs HLK.out hm (hs.length + 1) f [] w1.heap.size _ _ (S0.alloc _) hf1 (Fnd.nil _) (by simp) (own_empty (Nat.le_refl _) rfl) (by simp) HUB.out).mono ?_
    rintro e w2 ⟨v, rfl, O, hg, -⟩
    have L1 : Le w1 w2 := (Le.new w1 _).grown hg (fun k hk => by injection hk with hk; exact Nat.le_of_eq hk)
    have hl9 : (rch0 hs f).length ≤ hs.length := HFN.out.len
    have hok : ∀ x ∈ rch0 hs f, Enc.ok x := fun x hx => by have := HFN.out.rng x hx; exact ⟨by omega, by omega⟩
    have O' : w2.ownsRow w1.heap.size 3 1 v (rch0 hs f).length ((rch0 hs f).flatMap Enc.cells) := O
    obtain ⟨A2, q2, rfl⟩ := own_form O'
    have SV := Sl.of_own O' rfl (by decide) hok
    clear O O' hg hok
    go_wp2_with fail
    refine (sorted_any A2 _ q2 (rch0 hs f) _ SV (by omega)).mono ?_
    rintro e w3 ⟨v3, M, rfl, D, hle, ha, hmem, -⟩
    have hM : M = reachL hs f := reachL_eq HLK.out hf0 hf1 ha (fun x => (hmem x).trans (HRI.out x))
    subst hM
    have HD := Lib.hid (D.mono (w00 := w) (L0.trans L1))
    clear D ha hmem
    go_wp2
    go_ret
    exact ⟨_, rfl, by rw [HX.out]; exact HD.out, (L0.trans L1).trans hle⟩
end Go.Proofs.Ytalcpdjldmgcdaa
