import Derived.Test.YtacilbglnhgifaaM
namespace Go.Proofs.Ytacilbglnhgifaa
open Go.RowKit

theorem one_new (w : World) (a : Value) (t : TypeId) : ∀ j u, [a][j]? = some u → (w.alloc (.cells #[a] t)).cell? ((⟨w.heap.size, 0, none⟩ : Addr).add j) = some u := by
  intro j u hu
  cases j with
  | zero =>
    simp at hu; subst hu
    show (w.alloc (.cells #[a] t)).cell? ⟨w.heap.size, 0, none⟩ = some a
    rw [World.cell?_alloc_at _ _ _ _ rfl]; rfl
  | succ j => simp at hu
def OwnInts (L : List Int) (w : World) (e : Ending) (w' : World) : Prop := ∃ v, e = .returned v ∧ w'.ownsRow w.heap.size 3 1 v L.length (L.flatMap Enc.cells) ∧ (∀ x ∈ L, Enc.ok x) ∧ Le w w'
def aboveX (xs : List Cls) (a : Int) : List Int := cond (okTree xs && hasK xs a) (aboveL xs a) []
theorem aboveX_of {xs : List Cls} {a : Int} {b : Bool} (h : (okTree xs && hasK xs a) = b) : aboveX xs a = cond b (aboveL xs a) [] := by unfold aboveX; rw [h]
theorem own_nil (w w' : World) (h : Le w w') : OwnInts [] w (.returned (.slice none 0 0)) w' := ⟨_, rfl, World.ownsRow_nil _ _ _ _, (fun _ h => nomatch h), h⟩
theorem above_ok {xs : List Cls} (g : Good xs) {a : Int} (ha : a < xs.length) : ∀ x ∈ aboveL xs a, Enc.ok x := by
  intro x hx
  have := aboveL_mem g _ a rfl ha x hx
  have := g.hi
  exact ⟨by omega, by omega⟩

end Go.Proofs.Ytacilbglnhgifaa
