/- the laws' conversions, comparisons and marks of lists of groups -/
import Derived.Test.YtpdggodmiliijaaNL
import Derived.Test.YtpdggodmiliijaaTlPart
namespace Go.Proofs.Ytpdggodmiliijaa
open Go.RowKit
theorem infoPartSl : (Try.prog.info? 34).map (fun i => (i.zero, i.size, i.bytes)) = some (some (.slice none 0 0), 1, 24) := by kernel_rfl
theorem eqPartSS_self (A B : Option Addr) (n c d : Nat) (hs ks : List Hdr) (L : List (List Prt)) (w : World) (hR : Sl w A n c hs) (hR2 : Rd2 w hs L) (hS : Sl w B n d ks) (hS2 : Rd2 w ks L) :
    Calls Try.prog 32 #[.slice A n c, .slice B n d] w fun e w' => e = .returned (.bool true) ∧ Le w w' := by
  obtain rfl := hR.len
  have hm := hR.n_le
  have hb : ((hs.length : Int) != (hs.length : Int)) = false := by simp
  go_enter Try.func32, Try.ntmps32
  go_wp2
  go_loopw [5] (fun i wr => ∃ k : Nat, k ≤ hs.length ∧ i = .int .i64 k ∧ Le w wr) (fun i _ => hs.length - (intOf i).toNat)
  case atStart => exact ⟨0, Nat.zero_le _, rfl, Le.refl _⟩
  case round =>
    obtain ⟨k, hk, rfl, hle⟩ := hrel
    have hRr := hR.le hle
    have hSr := hS.le hle
    have hRr2 := hR2.le hle
    have hSr2 := hS2.le hle
    clear hR hS hR2 hS2
    by_cases hlt : k < hs.length
    · obtain ⟨b, off, rfl, hb, hcell0⟩ := hRr.hdr_at hlt
      have hltk : k < ks.length := by rw [hSr.len]; exact hlt
      obtain ⟨b2, off2, rfl, hb2, hdell0⟩ := hSr.hdr_at hltk
      have hlL : k < L.length := by rw [← hRr2.len]; exact hlt
      have s1 := hRr2.at_ hlt hlL
      have s2 := hSr2.at_ hltk hlL
      have e1 : hs[k].n = ks[k].n := by rw [← s1.len, ← s2.len]
      rw [← e1] at s2 hdell0
      clear e1
      have E0 := cell_ext hb hcell0
      have F0 := cell_ext hb2 hdell0
      go_wp2_with fail
      refine wp_region_ext (by kernel_rfl) (by kernel_rfl) ?_
      repeat (go_big_quiet_step (first | (go_at_call 19; exact Calls.ext_of (eqPartS_self _ _ _ _ _ L[k] _ (s1.le (Le.ext _ _)) (s2.le (Le.ext _ _))))))
      refine wpQuiet_nil ?_
      intro _ hw'
      obtain ⟨g, rfl⟩ := hw'
      have hw1 := Le.ext wr g
      generalize wr.ext g = W2 at *
      go_wp2
      go_roundw
      case rel => exact ⟨k + 1, by omega, by go_num, hle.trans hw1⟩
      case measure => simp [intOf]; omega
    · go_wp2
      go_ret
      exact ⟨rfl, hle⟩
/-- the marks of lists, from q on -/
def mkL : Int → List (List Prt) → List (List Prt)
  | _, [] => []
  | q, l :: r => (List.range l.length).map (mPrt q) :: mkL (q + 4 * l.length) r
theorem mkL_append : ∀ (A B : List (List Prt)) (q : Int), mkL q (A ++ B) = mkL q A ++ mkL (q + 4 * (tot A : Nat)) B
  | [], B, q => by simp [mkL, tot]
  | l :: A, B, q => by
    rw [List.cons_append, mkL, mkL_append A B, mkL, List.cons_append, show q + 4 * (l.length : Int) + 4 * (tot A : Nat) = q + 4 * (tot (l :: A) : Nat) by unfold tot; simp; omega]
theorem mkL_len : ∀ (A : List (List Prt)) (q : Int), (mkL q A).length = A.length
  | [], _ => rfl
  | l :: A, q => by rw [mkL, List.length_cons, mkL_len A]; rfl
theorem mkL_at {L : List (List Prt)} {k : Nat} (h : k < L.length) (q : Int) : (mkL q L)[k]? = some ((List.range L[k].length).map (mPrt (q + 4 * (tot (L.take k) : Nat)))) := by
  have e : L = L.take k ++ L[k] :: L.drop (k + 1) := by rw [← List.drop_eq_getElem_cons h, List.take_append_drop]
  have hl : (mkL q (L.take k)).length = k := by rw [mkL_len, List.length_take]; omega
  have e2 : mkL q L = mkL q (L.take k) ++ mkL (q + 4 * (tot (L.take k) : Nat)) (L[k] :: L.drop (k + 1)) := by
    rw [← mkL_append, ← e]
  rw [e2, List.getElem?_append_right (by omega), hl, Nat.sub_self]
  rfl
theorem mkL_set {L : List (List Prt)} {k : Nat} (h : k < L.length) (q : Int) : (mkL q (L.take k) ++ L.drop k).set k ((List.range L[k].length).map (mPrt (q + 4 * (tot (L.take k) : Nat)))) = mkL q (L.take (k + 1)) ++ L.drop (k + 1) := by
  have hl : (mkL q (L.take k)).length = k := by rw [mkL_len, List.length_take]; omega
  rw [List.set_append_right _ _ (by omega), hl, Nat.sub_self, List.drop_eq_getElem_cons h, List.set_cons_zero, List.take_succ_eq_append_getElem h, mkL_append, List.append_assoc]
  rfl
set_option maxHeartbeats 1000000 in
theorem markPartSS_any (A : Option Addr) (n c : Nat) (hs : List Hdr) (L : List (List Prt)) (q : Int) (w0 w : World) (O : OwL 34 70 w0 w (.slice A n c) hs L) (h0 : 1 ≤ q) (h1 : q ≤ 100000000) (hn : tot L ≤ 1048576) (hn2 : n ≤ 1048576) :
    Calls Try.prog 35 #[.slice A n c, .int .i64 q] w fun e w' => e = .returned (.int .i64 (q + 4 * (tot L : Nat))) ∧ OwL 34 70 w0 w' (.slice A n c) hs (mkL q L) ∧ GrB (fun k => ∃ h ∈ hs, h.v.ownBlock = some k) w w' := by
  obtain ⟨A', c', e', S, -⟩ := O.top.form (by decide)
  injection e' with e1 e2 e3
  subst e1; subst e2; subst e3
  have hl1 : hs.length ≤ L.length := by have := O.len; omega
  have hl2 : L.length ≤ hs.length := by have := O.len; omega
  go_enter Try.func35, Try.ntmps35
  go_wp2
  go_loopw [1, 5] (fun z i wr => ∃ k : Nat, k ≤ hs.length ∧ i = .int .i64 k ∧ z = .int .i64 (q + 4 * (tot (L.take k) : Nat)) ∧ OwL 34 70 w0 wr (.slice A hs.length c) hs (mkL q (L.take k) ++ L.drop k) ∧ GrB (fun k => ∃ h ∈ hs, h.v.ownBlock = some k) w wr) (fun _ i _ => hs.length - (intOf i).toNat)
  case atStart => exact ⟨0, Nat.zero_le _, rfl, by simp [tot], by simpa [mkL] using O, GrB.refl _ _⟩
  case round =>
    obtain ⟨k, hk, rfl, rfl, O1, G1⟩ := hrel
    clear O S
    by_cases hlt : k < hs.length
    · have hlL : k < L.length := by omega
      have hS1 : Sl wr A hs.length c hs := by
        obtain ⟨A', c', e', S, -⟩ := O1.top.form (by decide)
        injection e' with e1 e2 e3
        subst e1; subst e3; exact S
      obtain ⟨b, off, rfl, hb, hcell⟩ := hS1.hdr_at hlt
      have ek : hs[k]? = some hs[k] := List.getElem?_eq_getElem hlt
      have eL : (mkL q (L.take k) ++ L.drop k)[k]? = some L[k] := by
        rw [List.getElem?_append_right (by rw [mkL_len, List.length_take]; omega), mkL_len, List.length_take, Nat.min_eq_left (by omega), Nat.sub_self, List.drop_eq_getElem_cons hlL]; rfl
      have o := O1.each k _ _ ek eL
      have hnn := O1.hn ek eL
      have hT1 := tot_take_succ hlL
      have hT2 := tot_take_le L (k + 1)
      have hrow : wr.ownsRow w0.heap.size 70 4 (.slice hs[k].a hs[k].n hs[k].c) hs[k].n (L[k].flatMap Enc.cells) := by
        have := o.row
        rw [← hnn] at this
        exact this
      have HT1 := Lib.hid hT1
      have HNN := Lib.hid hnn
      have HSET := Lib.hid (mkL_set hlL q)
      have hs1 : hs[k].n ≤ 1048576 := by omega
      have hq1 : 1 ≤ q + 4 * (tot (L.take k) : Nat) := by omega
      have hq2 : q + 4 * (tot (L.take k) : Nat) ≤ 1000000000 := by omega
      clear hT1 hnn
      go_wp2_with fail
      refine (markPartS_any _ _ _ _ _ _ _ hrow hq1 hq2 hs1).mono ?_
      rintro e w2 ⟨rfl, O2, G2⟩
      have hok := mPrt_ok hq1 hq2 hs1
      have O3 : Owd 70 w0 w2 hs[k].v ((List.range L[k].length).map (mPrt (q + 4 * (tot (L.take k) : Nat)))) := by
        rw [← HNN.out]
        exact ⟨by rw [List.length_map, List.length_range]; exact O2, hok⟩
      have O4 := O1.set_ ek O3 G2
      rw [HSET.out] at O4
      have G4 : GrB (fun k => ∃ h ∈ hs, h.v.ownBlock = some k) w w2 := G1.trans (GrB.of_grown G2 (fun j hj => ⟨hs[k], List.getElem_mem hlt, hj⟩))
      have hz : q + 4 * (tot (L.take k) : Nat) + 4 * (hs[k].n : Int) = q + 4 * (tot (L.take (k + 1)) : Nat) := by rw [HNN.out, HT1.out]; omega
      have HZ := Lib.hid hz
      clear hz O1 G1 o hrow O2 O3 G2 hok
      go_wp2
      go_roundw
      case rel => exact ⟨k + 1, by omega, by go_num, by rw [HZ.out], O4, G4⟩
      case measure => simp [intOf]; omega
    · obtain rfl : k = hs.length := by omega
      have hlen : hs.length = L.length := by omega
      rw [hlen, List.take_length, List.drop_length, List.append_nil, ← hlen] at O1
      have HO := Lib.hid O1
      have HT : Hid (tot (L.take hs.length) = tot L) := by show _ = _; rw [hlen, List.take_length]
      clear O1 hlen
      go_wp2
      go_ret
      exact ⟨by rw [HT.out]; rfl, HO.out, G1⟩
theorem heldPartSS_any (A : Option Addr) (n c : Nat) (hs : List Hdr) (L : List (List Prt)) (q : Int) (w : World) (S : Sl w A n c hs) (R : Rd2 w hs (mkL q L)) (h0 : 1 ≤ q) (h1 : q ≤ 100000000) (hn : tot L ≤ 1048576) (hn2 : n ≤ 1048576) :
    Calls Try.prog 36 #[.slice A n c, .int .i64 q] w fun e w' => e = .returned (.int .i64 (q + 4 * (tot L : Nat))) ∧ Le w w' := by
  obtain rfl := S.len
  have hl1 : hs.length ≤ L.length := by have := R.len; rw [mkL_len] at this; omega
  have hl2 : L.length ≤ hs.length := by have := R.len; rw [mkL_len] at this; omega
  go_enter Try.func36, Try.ntmps36
  go_wp2
  go_loopw [1, 5] (fun z i wr => ∃ k : Nat, k ≤ hs.length ∧ i = .int .i64 k ∧ z = .int .i64 (q + 4 * (tot (L.take k) : Nat)) ∧ Le w wr) (fun _ i _ => hs.length - (intOf i).toNat)
  case atStart => exact ⟨0, Nat.zero_le _, rfl, by simp [tot], Le.refl _⟩
  case round =>
    obtain ⟨k, hk, rfl, rfl, hle⟩ := hrel
    have Sr := S.le hle
    have Rr := R.le hle
    clear S R
    by_cases hlt : k < hs.length
    · have hlL : k < L.length := by omega
      obtain ⟨b, off, rfl, hb, hcell⟩ := Sr.hdr_at hlt
      have s := Rr.each k _ _ (List.getElem?_eq_getElem hlt) (mkL_at hlL q)
      have hnn : L[k].length = hs[k].n := by have := s.len; simpa using this
      have HT1 := Lib.hid (tot_take_succ hlL)
      have hT2 := tot_take_le L (k + 1)
      have hT1 := HT1.out
      rw [hnn] at s
      have HNN := Lib.hid hnn
      have hs1 : hs[k].n ≤ 1048576 := by omega
      have hq1 : 1 ≤ q + 4 * (tot (L.take k) : Nat) := by omega
      have hq2 : q + 4 * (tot (L.take k) : Nat) ≤ 1000000000 := by omega
      clear hT1 hnn
      go_wp2_with fail
      refine (heldPartS_any _ _ _ _ _ s hq1 hq2 hs1).mono ?_
      rintro e w2 ⟨rfl, hle2⟩
      have hL := hle.trans hle2
      have hz : q + 4 * (tot (L.take k) : Nat) + 4 * (hs[k].n : Int) = q + 4 * (tot (L.take (k + 1)) : Nat) := by rw [← HNN.out, HT1.out]; omega
      have HZ := Lib.hid hz
      have hneg : decide (q + 4 * (tot (L.take k) : Nat) + 4 * (hs[k].n : Int) < 0) = false := decide_eq_false (by omega)
      clear hz
      go_wp2
      go_roundw
      case rel => exact ⟨k + 1, by omega, by go_num, by rw [HZ.out], hL⟩
      case measure => simp [intOf]; omega
    · obtain rfl : k = hs.length := by omega
      have HT : Hid (tot (L.take hs.length) = tot L) := by show _ = _; rw [show hs.length = L.length by omega, List.take_length]
      go_wp2
      go_ret
      exact ⟨by rw [HT.out]; rfl, hle⟩
end Go.Proofs.Ytpdggodmiliijaa
