import Derived.Test.YtjmoddphfhgghadV
import Derived.Test.YtjmoddphfhgghadU
namespace Go.Proofs.Ytjmoddphfhgghad
open Go.RowKit

theorem own_form {w : World} {base size n : Nat} {e : TypeId} {v : Value} {xs : List Value} (h : w.ownsRow base e size v n xs) : ∃ A c, v = .slice A n c := by
  rcases h.2 with ⟨h, h0⟩ | ⟨g, c, _, h, _⟩
  · exact ⟨none, 0, by rw [h0]; exact h⟩
  · exact ⟨_, c, h⟩
theorem own_ints {w : World} {base n c : Nat} {A : Option Addr} {L : List Int} (h : w.ownsRow base 3 1 (.slice A n c) n (L.flatMap Enc.cells)) (hok : ∀ x ∈ L, Enc.ok x) : Sl w A n c L := Sl.of_own h rfl (by decide) hok

def marks (k : Int) (n : Nat) : List Int := (List.range n).map fun i : Nat => k + (i : Int)
theorem marks_len (k : Int) (n : Nat) : (marks k n).length = n := by simp [marks]
theorem marks_at (k : Int) (n : Nat) : ∀ i (h : i < (marks k n).length), (marks k n)[i] = k + i := by intro i h; simp [marks]
theorem marks_ok {n : Nat} (hn : n ≤ 1048576) : ∀ x ∈ marks 1 n, Enc.ok x := by
  intro x hx
  simp [marks] at hx
  obtain ⟨i, hi, rfl⟩ := hx
  exact ⟨by omega, by omega⟩

def MarkOut (A : Option Addr) (n c base : Nat) (w : World) (e : Ending) (w' : World) : Prop :=
  e = .returned (.int .i64 (1 + n)) ∧ w'.ownsRow base 3 1 (.slice A n c) n ((marks 1 n).flatMap Enc.cells) ∧ w.grownBy w' (Value.slice A n c).ownBlock
theorem markInts_any (A : Option Addr) (n c : Nat) (xs : List Value) (w : World) (base : Nat) (hR : w.ownsRow base 3 1 (.slice A n c) n xs) (hn : n ≤ 1048576) :
    Calls Try.prog 16 #[.slice A n c, .int .i64 1] w (MarkOut A n c base w) := by
  rcases hR.2 with ⟨h, h0⟩ | ⟨g, c', _, h, _⟩
  · simp only [Value.slice.injEq] at h
    obtain ⟨rfl, rfl, rfl⟩ := h
    go_enter Try.func16, Try.ntmps16
    go_wp2
    refine wp_loop_rounds 1 ?_
    rw [rounds_succ]
    go_wp2
    go_ret
    exact ⟨rfl, by simpa [marks] using World.ownsRow_nil w base 3 1, World.grownBy.refl w _⟩
  · simp only [Value.slice.injEq, true_and] at h
    obtain ⟨rfl, rfl⟩ := h
    refine (markIntS_any g n c xs 1 w base hR (by omega) (by omega) hn).mono ?_
    rintro e w' ⟨rfl, h1, h2⟩
    exact ⟨rfl, h1, h2⟩
end Go.Proofs.Ytjmoddphfhgghad
