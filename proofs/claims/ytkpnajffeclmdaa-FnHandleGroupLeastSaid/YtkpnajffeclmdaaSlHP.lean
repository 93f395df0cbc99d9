/- contracts of HandleGroup made ready for a law's walk -/
import Derived.Test.YtkpnajffeclmdaaCl31
namespace Go.Proofs.Ytkpnajffeclmdaa
open Go.RowKit
def HgL (L : List (List Prt)) (M : List Prt) (w : World) (e : Ending) (w' : World) : Prop := ∃ (A B : Option Addr) (c d : Nat) (hs : List Hdr), e = .returned (.tuple #[.slice A L.length c, .slice B M.length d]) ∧ Sl w' A L.length c hs ∧ Rd2 w' hs L ∧ Sl w' B M.length d M ∧ Le w w'
theorem Calls.hgL {f : FuncId} {args : Array Value} {L : List (List Prt)} {M : List Prt} {w : World} (h : Calls Try.prog f args w (HgOut w L M)) : Calls Try.prog f args w (HgL L M w) :=
  h.mono fun _ _ ⟨v, hs, u, he, OW, OD, _, hl⟩ => by
    obtain ⟨A, c, e2, S⟩ := OW.form
    obtain ⟨B, d, rfl, T, _⟩ := OD.form (by decide)
    subst e2
    exact ⟨A, B, c, d, hs, he, S, OW.rd (by decide), T, hl⟩
end Go.Proofs.Ytkpnajffeclmdaa
