/- laws: helpers of the drawn laws. -/
import Derived.Test.YtpkkkpfanedieaaRows
import Derived.Test.YtpkkkpfanedieaaCk1
import Derived.Test.YtpkkkpfanedieaaCk2
import Derived.RegionTactic
namespace Go.Proofs.Ytpkkkpfanedieaa
open Go.RowKit

theorem has_any (A : Option Addr) (n cap : Nat) (xs : List Cls) (a : Int) (w : World) (hR : Sl w A n cap xs) :
    Calls Try.prog 15 #[.agg #[.slice A n cap], .int .i64 a] w fun e w' => e = .returned (.bool (hasK xs a)) ∧ Le w w' := by
  obtain rfl := hR.len
  have hm := hR.n_le
  by_cases h0 : 0 ≤ a
  · by_cases h1 : a < xs.length
    · have HF : Hid (hasK xs a = true) := by show _ = _; unfold hasK; simp; omega
      go_enter Try.func15, Try.ntmps15
      go_wp2
      go_ret
      exact ⟨ret_bool HF.out.symm, Le.new w _⟩
    · have HF : Hid (hasK xs a = false) := by show _ = _; unfold hasK; simp; omega
      go_enter Try.func15, Try.ntmps15
      go_wp2
      go_ret
      exact ⟨ret_bool HF.out.symm, Le.new w _⟩
  · have HF : Hid (hasK xs a = false) := by show _ = _; unfold hasK; simp; omega
    go_enter Try.func15, Try.ntmps15
    go_wp2
    go_ret
    exact ⟨ret_bool HF.out.symm, Le.new w _⟩
end Go.Proofs.Ytpkkkpfanedieaa
