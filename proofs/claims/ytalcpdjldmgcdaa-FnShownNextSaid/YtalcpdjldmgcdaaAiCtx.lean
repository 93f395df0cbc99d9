/- indicesOf along the link of Ctx -/
import Derived.Test.YtalcpdjldmgcdaaAs
import Derived.Test.YtalcpdjldmgcdaaErCtx
import Derived.Test.YtalcpdjldmgcdaaErBk
import Derived.Deep.LoopGhost
import Derived.Deep.RegionHeld3
namespace Go.Proofs.Ytalcpdjldmgcdaa
open Go.RowKit

theorem FCh.keepCtx {w w' : World} {tv hv lk : Value} {gs : List Nat} {out : List Int} (h : FCh w tv hv lk gs out) (hs : w.heap.size ≤ w'.heap.size) (hb : ∀ k (hk : k < gs.length), w'.heap[gs[k]]? = w.heap[gs[k]]?) : FCh w' tv hv lk gs out :=
  ⟨h.len, fun k hk => Nat.lt_of_lt_of_le (h.lt k hk) hs, h.asc, fun k h1 h2 => (hb k h1).trans (h.row k h1 h2)⟩

end Go.Proofs.Ytalcpdjldmgcdaa
