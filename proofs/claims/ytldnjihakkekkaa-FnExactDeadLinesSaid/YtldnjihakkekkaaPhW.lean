/- tables: the lines around a line: enclosing of the model, headsOf of the program; EnclosingOf of both -/
import Derived.Test.YtldnjihakkekkaaPhQ
import Derived.Test.YtldnjihakkekkaaPgA
import Derived.Test.YtldnjihakkekkaaPhM
namespace Go.Proofs.Ytldnjihakkekkaa
open Go.RowKit
def glB (xs : List Cls) (p : List Lin) (i : Int) : Bool := vp xs p && rng 0 ((p.length : Int) - 1) i
theorem glB_iff {xs : List Cls} {p : List Lin} {i : Int} : glB xs p i = true ↔ vp xs p = true ∧ ∃ k : Nat, i = k ∧ k < p.length := by
  unfold glB
  rw [Bool.and_eq_true, rng_iff]
  refine and_congr_right fun _ => ?_
  constructor
  · rintro ⟨h1, h2⟩
    exact ⟨i.toNat, by omega, by omega⟩
  · rintro ⟨k, rfl, h⟩
    omega
theorem encl_ok {p : List Lin} {i : Nat} (hi : i < p.length) (hsm : p.length ≤ 1048576) : ∀ y ∈ nI (encl p i), Enc.ok y := nI_ok (fun x hx => by have := encl_lt x hx; exact this) (by omega)
set_option maxHeartbeats 2000000 in
set_option maxRecDepth 100000 in
theorem enclosing_any (A : Option Addr) (n cap : Nat) (p : List Lin) (i : Nat) (hi : i < p.length) (hsm : p.length ≤ 1048576) (w : World) (hR : Sl w A n cap p) :
    Calls Try.prog 32 #[.slice A n cap, .int .i64 i] w fun e w' => ∃ v, e = .returned v ∧ Owd 3 w w' v (nI (encl p i)) ∧ Le w w' := by
  obtain rfl := hR.len
  obtain ⟨i0, hq, hz0, hz1, hz2⟩ := info_parts intInfoB
  have H0 : Hid (encl p i = enGo p p[i].depth i) := by show _ = _; unfold encl; rw [dep_at hi]
  have HOK := Lib.hid (encl_ok hi hsm)
  have HLN := Lib.hid (encl_len p i)
  have hwi : IntKind.i64.wrap ((i : Int) - 1) = (i : Int) - 1 := IntWalk.i64_in _ (by omega)
  have hix : (0 : Int) ≤ (i : Int) := by omega
  have hin : (i : Int) < (p.length : Int) := by omega
  obtain ⟨b0, o0, e0, hb0, c0, -⟩ := hR.lin_at hi
  go_enter Try.func32, Try.ntmps32
  subst e0
  have LE := Le.new w (.cells #[] 3)
  have OE : (w.alloc (.cells #[] 3)).ownsRow w.heap.size 3 1 (.slice (some ⟨w.heap.size, 0, none⟩) 0 0) 0 [] := own_empty (Nat.le_refl _) rfl
  have cE := (LE.cell hb0).trans c0
  go_wp2
  go_loopw [5, 6, 7] (fun v dd kk wr => ∃ (k : Nat) (d : Int) (out : List Nat), k ≤ i ∧ dd = .int .i64 d ∧ kk = .int .i64 ((k : Int) - 1) ∧ encl p i = out ++ enGo p d k ∧
      wr.ownsRow w.heap.size 3 1 v out.length ((nI out).flatMap Enc.cells) ∧ Le w wr) (fun _ _ kk _ => (intOf kk + 1).toNat)
  case atStart => exact ⟨i, p[i].depth, [], Nat.le_refl _, rfl, rfl, H0.out, OE, LE⟩
  case round =>
    obtain ⟨k, d, out, hk, rfl, rfl, he, O1, L1⟩ := hrel
    have HE := Lib.hid he
    have hol : out.length ≤ i := by have := HLN.out; rw [he, List.length_append] at this; omega
    clear he H0 c0 OE cE LE
    have T := hR.le L1
    have hs1 := L1.size
    clear hR
    cases k with
    | zero =>
      have HF : Hid (∀ v, wr.ownsRow w.heap.size 3 1 v out.length ((nI out).flatMap Enc.cells) → Owd 3 w wr v (nI (encl p i))) := fun v hv => by
        have e : encl p i = out := by rw [HE.out]; exact List.append_nil _
        have h2 := HOK.out
        rw [e] at h2 ⊢
        exact ⟨by rw [nI_len]; exact hv, h2⟩
      have hneg : ¬ (0 : Int) ≤ ((0 : Nat) : Int) - 1 := by omega
      go_wp2
      go_ret
      exact ⟨_, rfl, HF.out _ O1, L1⟩
    | succ k =>
      have hkl : k < p.length := by omega
      obtain ⟨b2, off2, e2, hb2, d0, d1, -⟩ := T.lin_at hkl
      cases e2
      have hkk : (((k + 1 : Nat) : Int) - 1) = (k : Int) := by omega
      have hk0 : (0 : Int) ≤ (k : Int) := by omega
      have hkn : (k : Int) < (p.length : Int) := by omega
      have hwk : IntKind.i64.wrap ((k : Int) - 1) = (k : Int) - 1 := IntWalk.i64_in _ (by omega)
      have hokk : Enc.ok (k : Int) := ⟨by omega, by omega⟩
      rw [hkk]
      by_cases hd : p[k].depth < d
      · have HF : Hid (encl p i = (out ++ [k]) ++ enGo p p[k].depth k) := by show _ = _; rw [HE.out, enGo_succ, dep_at hkl, if_pos hd, List.append_assoc]; rfl
        clear HE
        generalize p[k].depth = vd at *
        go_wp2_with (at_builtin; refine wpList_append_sl rfl _ _ 38 rfl w.heap.size 3 i0 _ 8 Try.underlying38 hq hz0 hz1 hz2 rfl _ out.length (nI out) rfl (O1.alloc _) _ 1 1 [(k : Int)] rfl (sl_one (k : Int) rfl hokk rfl) (by unfold maxLen; omega) (by omega) (L1.alloc _).size ?_; intro v1 w3 O3 hg3 _; have L3 := (L1.alloc _).grown hg3 (fun k hk => (O1.lt k hk).1); clear hg3)
        go_roundw
        case rel => exact ⟨k, vd, out ++ [k], by omega, rfl, by go_num, HF.out, by rw [nI_snoc, List.length_append]; exact O3, L3⟩
        case measure => simp [intOf]
      · have HF : Hid (encl p i = out ++ enGo p d k) := by show _ = _; rw [HE.out, enGo_succ, dep_at hkl, if_neg hd]
        clear HE
        go_wp2
        go_roundw
        case rel => exact ⟨k, d, out, by omega, rfl, by go_num, HF.out, O1, L1⟩
        case measure => simp [intOf]
def enX (xs : List Cls) (p : List Lin) (i : Int) : List Int := cond (glB xs p i) (nI (encl p i.toNat)) []
theorem enX_len (xs : List Cls) (p : List Lin) (i : Int) : (enX xs p i).length ≤ 1048576 := by
  unfold enX
  cases h : glB xs p i
  · simp
  · obtain ⟨h1, k, rfl, hk⟩ := glB_iff.1 h
    have := (goodP_of h1).len
    have := encl_len p k
    show (nI _).length ≤ _
    rw [nI_len, Int.toNat_natCast]; omega
end Go.Proofs.Ytldnjihakkekkaa
