/- groups: the test of leaves by a class -/
import Derived.Test.YtpdggodmiliijaaM
import Derived.Test.YtpdggodmiliijaaTyLeaf
import Derived.Test.YtpdggodmiliijaaKB
import Derived.Test.YtpdggodmiliijaaRZp
namespace Go.Proofs.Ytpdggodmiliijaa
open Go.RowKit
theorem meth_nodeL (a : Addr) (w : World) : (method 253 86 (.pointer (some a)) "loop.example/faultcleanup/impl.catches").run Try.prog w = .ok (122, .pointer (some a)) w := by kernel_rfl
theorem nil_nodeL (a : Addr) (w : World) : (nilAhead 253 86 (.pointer (some a)) "loop.example/faultcleanup/impl.catches").run Try.prog w = .ok (some false) w := by kernel_rfl
set_option maxRecDepth 100000 in
set_option maxHeartbeats 2000000 in
theorem caughtLeaf1_any (By Bn : Nat) (A : Option Addr) (gs : List PB) (xs : List Cls) (g : Good xs) (j : Nat) (hj : j < gs.length) (c code : Int) (c0 : 0 ≤ c) (c1 : c < xs.length) (w : World) (hS : Sl w A xs.length xs.length gs) (hN : Nds w gs xs)
    (h1 : w.cell? ⟨By, 0, none⟩ = some (.iface 86 (.pointer (some ⟨gs[j].g, 0, none⟩)))) (h2 : w.cell? ⟨Bn, 0, none⟩ = some (.slice A xs.length xs.length)) (z1 : By < w.heap.size) (z2 : Bn < w.heap.size) :
    Calls Try.prog 90 #[.agg #[.int .i64 c, .int .i64 code], .pointer (some ⟨By, 0, none⟩), .pointer (some ⟨Bn, 0, none⟩)] w fun e w' => e = .returned (.bool (isAL xs c j)) ∧ Le w w' := by
  have HL := Lib.hid hN.len
  have hhi := g.hi
  obtain ⟨k, rfl⟩ : ∃ k : Nat, c = k := ⟨c.toNat, by omega⟩
  have hkg : k < gs.length := by have := HL.out; omega
  have hle : Le w (w.alloc (.cells #[.int .i64 (k : Int), .int .i64 code] 75)).drew := (Le.new w _).drew
  obtain ⟨b, off, rfl, hb, hcell⟩ := (hS.le hle).pb_at hkg
  have hNr := hN.le hle
  have d1 := (hle.cell z1).trans h1
  have d2 := (hle.cell z2).trans h2
  have d3 : (w.alloc (.cells #[.int .i64 (k : Int), .int .i64 code] 75)).drew.cell? ⟨w.heap.size, 0, none⟩ = some (.int .i64 (k : Int)) := by
    show (w.alloc _).cell? _ = _
    rw [World.cell?_alloc_at _ _ _ _ rfl]; rfl
  have hm := fun W => meth_nodeL ⟨gs[j].g, 0, none⟩ W
  have hna := fun W => nil_nodeL ⟨gs[j].g, 0, none⟩ W
  have hc := catches_any gs xs g j hj (k : Int) (by omega) (by omega) _ hNr
  rw [ptrOf_at hkg] at hc
  have HC := Lib.hid hc; clear hc
  have HLE := Lib.hid hle; clear hle
  go_enter Try.func90, Try.ntmps90
  go_wp2_with fail
  refine wp_region_noPanic ?_
  refine wp_region_Z (fun w' => w'.cell? ⟨By, 0, none⟩ = some (.iface 86 (.pointer (some ⟨gs[j].g, 0, none⟩))) ∧ w'.cell? ⟨Bn, 0, none⟩ = some (.slice (some ⟨b, off, none⟩) xs.length xs.length) ∧ w'.cell? ⟨w.heap.size, 0, none⟩ = some (.int .i64 (k : Int)) ∧ w'.cell? ⟨b, off + k, none⟩ = some (.pointer (some ⟨gs[k].g, 0, none⟩))) [] (by kernel_rfl) ?_
  generalize (w.alloc (.cells #[.int .i64 (k : Int), .int .i64 code] 75)).drew = V at *
  refine wpAnyZ_take (i := 0) (v := ?_) rfl (by kernel_rfl) (fun _ _ _ h => h) (Or.inl ⟨by rfl, ?_⟩) (⟨d1, d2, d3, hcell⟩) ?_
  rotate_left 1
  · (intro w hSw; (try dsimp only at hSw); go_simp; try with_reducible rfl)
  try simp only [Act.put, List.setIfInBounds_toArray, List.set_cons_zero, List.set_cons_succ]
  refine wpAnyZ_take (i := 1) (v := ?_) rfl (by kernel_rfl) (fun _ _ _ h => h) (Or.inl ⟨by rfl, ?_⟩) (⟨d1, d2, d3, hcell⟩) ?_
  rotate_left 1
  · (intro w hSw; (try dsimp only at hSw); go_simp; try with_reducible rfl)
  try simp only [Act.put, List.setIfInBounds_toArray, List.set_cons_zero, List.set_cons_succ]
  refine wpAnyZ_take (i := 2) (v := ?_) rfl (by kernel_rfl) (fun _ _ _ h => h) (Or.inl ⟨by rfl, ?_⟩) (⟨d1, d2, d3, hcell⟩) ?_
  rotate_left 1
  · (intro w hSw; (try dsimp only at hSw); go_simp; try with_reducible rfl)
  try simp only [Act.put, List.setIfInBounds_toArray, List.set_cons_zero, List.set_cons_succ]
  refine wpAnyZ_take (i := 3) (v := ?_) rfl (by kernel_rfl) (fun _ _ _ h => h) (Or.inl ⟨by rfl, ?_⟩) (⟨d1, d2, d3, hcell⟩) ?_
  rotate_left 1
  · (intro w hSw; (try dsimp only at hSw); go_simp; try with_reducible rfl)
  try simp only [Act.put, List.setIfInBounds_toArray, List.set_cons_zero, List.set_cons_succ]
  refine wpAnyZ_take (i := 4) (v := ?_) rfl (by kernel_rfl) (fun _ _ _ h => h) (Or.inl ⟨by rfl, ?_⟩) (⟨d1, d2, d3, hcell⟩) ?_
  rotate_left 1
  · (intro w hSw; (try dsimp only at hSw); go_simp; try with_reducible rfl)
  try simp only [Act.put, List.setIfInBounds_toArray, List.set_cons_zero, List.set_cons_succ]
  refine wpAnyZ_take (i := 5) (v := ?_) rfl (by kernel_rfl) (fun _ _ _ h => h) (Or.inl ⟨by rfl, ?_⟩) (⟨d1, d2, d3, hcell⟩) ?_
  rotate_left 1
  · (intro w hSw; (try dsimp only at hSw); go_simp; try with_reducible rfl)
  try simp only [Act.put, List.setIfInBounds_toArray, List.set_cons_zero, List.set_cons_succ]
  refine wpAnyZ_take (i := 6) (v := ?_) rfl (by kernel_rfl) (fun _ _ _ h => h) (Or.inl ⟨by rfl, ?_⟩) (⟨d1, d2, d3, hcell⟩) ?_
  rotate_left 1
  · (intro w hSw; (try dsimp only at hSw); go_simp; try with_reducible rfl)
  try simp only [Act.put, List.setIfInBounds_toArray, List.set_cons_zero, List.set_cons_succ]
  refine wpAnyZ_take (i := 7) (v := ?_) rfl (by kernel_rfl) (fun _ _ _ h => h) (Or.inl ⟨by rfl, ?_⟩) (⟨d1, d2, d3, hcell⟩) ?_
  rotate_left 1
  · (intro w hSw; (try dsimp only at hSw); go_simp; try with_reducible rfl)
  try simp only [Act.put, List.setIfInBounds_toArray, List.set_cons_zero, List.set_cons_succ]
  refine wpAnyZ_take (i := 8) (v := ?_) rfl (by kernel_rfl) (fun _ _ _ h => h) (Or.inl ⟨by rfl, ?_⟩) (⟨d1, d2, d3, hcell⟩) ?_
  rotate_left 1
  · (intro w hSw; (try dsimp only at hSw); go_simp; try with_reducible rfl)
  try simp only [Act.put, List.setIfInBounds_toArray, List.set_cons_zero, List.set_cons_succ]
  refine wpAnyZ_one (i := 9) (by kernel_rfl) (ReadyZ.mk rfl (fun K hK => ?_))
  go_simp
  refine HC.out.mono ?_
  rintro e w3 ⟨rfl, rfl⟩
  refine hK.out _ _ (fun _ => ⟨d1, d2, d3, hcell⟩) ?_
  clear hK K
  try simp only [Act.put, List.setIfInBounds_toArray, List.set_cons_zero, List.set_cons_succ]
  refine wpAnyZ_take (i := 10) (v := ?_) rfl (by kernel_rfl) (fun _ _ _ h => h) (Or.inl ⟨by rfl, ?_⟩) (⟨d1, d2, d3, hcell⟩) ?_
  rotate_left 1
  · (intro w hSw; (try dsimp only at hSw); go_simp; try with_reducible rfl)
  try simp only [Act.put, List.setIfInBounds_toArray, List.set_cons_zero, List.set_cons_succ]
  refine wpAnyZ_done (by kernel_rfl) ?_ _
  refine NoPanic.normal ?_
  go_wp2
  go_ret
  exact ⟨rfl, HLE.out⟩
end Go.Proofs.Ytpdggodmiliijaa
