/- errors.As at a pointer to a *failure: nothing, or the failure itself -/
import Derived.Test.YthcolcmgfhkbeaaK
import Derived.Test.YthcolcmgfhkbeaaRows
import Derived.LaidEql
import Derived.Stop.Asserts
import Derived.RowKitTokens
namespace Go.Proofs.Ythcolcmgfhkbeaa
open Go.RowKit Go.Extern.Stop Go.Stop Go.Extern

/-- the variable that errors.As reads -/
def hndl : Value := .iface 88 (.agg #[.pointer (some ⟨0, 78, none⟩)])
def GotErr (w : World) : Prop := w.cell? ⟨0, 0, none⟩ = some hndl
theorem GotErr.pos {w : World} (h : GotErr w) : 0 < w.heap.size := by
  rcases Nat.eq_zero_or_pos w.heap.size with h0 | h0
  · simp [GotErr, World.cell?, h0] at h
  · exact h0
theorem GotErr.le {w w' : World} (h : GotErr w) (hl : Le w w') : GotErr w' := (hl.cell h.pos).trans h

theorem rfl_mKind (h : Value) (w : World) : (Go.method 233 88 (.agg #[h]) "Kind").run Try.prog w = .ok (69, h) w := by kernel_rfl
theorem rfl_kindF (w : World) : ((ReflectliteType.abiMethod fun t => (fun a : Nat => Value.int IntKind.u8 (a : Int)) <$> Rtype.kind t) #[.pointer (some ⟨0, 71, none⟩)]).run Try.prog w = .ok (.int .u8 22) w := by kernel_rfl
theorem rfl_meth (z : Sem Value) (f : TypeId → Addr → Nat → Nat → Sem Value) (v : Value) : ReflectliteValue.method z f #[v] = (do match ← ReflectliteValue.parts v with | none => z | some (t, a, fl) => f t a fl (fl % 32)) := rfl
theorem rfl_mElem (h : Value) (w : World) : (Go.method 233 88 (.agg #[h]) "Elem").run Try.prog w = .ok (73, .agg #[h]) w := by kernel_rfl
theorem rfl_mImpl (h : Value) (w : World) : (Go.method 233 88 (.agg #[h]) "Implements").run Try.prog w = .ok (74, .agg #[h]) w := by kernel_rfl
theorem rfl_mAssign (h : Value) (w : World) : (Go.method 233 88 (.agg #[h]) "AssignableTo").run Try.prog w = .ok (71, .agg #[h]) w := by kernel_rfl
theorem rfl_impl (w : World) : (ReflectliteType.relation "Implements" ReflectliteType.implements_ #[.agg #[.pointer (some ⟨0, 71, none⟩)], .iface 88 (.agg #[.pointer (some ⟨0, 78, none⟩)])]).run Try.prog w = .ok (.bool true) w := by kernel_rfl
theorem rfl_typeOf (v : Value) (w : World) : (ReflectliteType.typeOf #[.iface 71 v]).run Try.prog w = .ok (.iface 88 (.agg #[.pointer (some ⟨0, 71, none⟩)])) w := by kernel_rfl
theorem rfl_assign (w : World) : (ReflectliteType.relation "AssignableTo" ReflectliteType.assignableTo #[.agg #[.pointer (some ⟨0, 71, none⟩)], .iface 88 (.agg #[.pointer (some ⟨0, 71, none⟩)])]).run Try.prog w = .ok (.bool true) w := by kernel_rfl
theorem rfl_unpackF (e : Addr) (w : World) : (ReflectliteValue.unpack (.iface 71 (.pointer (some e)))).run Try.prog w = .ok (.agg #[.pointer (some ⟨0, 71, none⟩), .pointer (some ⟨w.heap.size, 0, none⟩), .int .u64 150]) (w.alloc (.cells #[.pointer (some e)] 71)) := by kernel_rfl
theorem rfl_mk (p : Addr) (w : World) : (ReflectliteValue.mk 71 p ReflectliteValue.flagAddr).run Try.prog w = .ok (.agg #[.pointer (some ⟨0, 71, none⟩), .pointer (some p), .int .u64 406]) w := by kernel_rfl
theorem rfl_setdef (v x : Value) : ReflectliteValue.set #[v, x] = (do
    let (some (dst, a, fl), some (src, b, _)) := (← ReflectliteValue.parts v, ← ReflectliteValue.parts x)
      | unsupported (.noEntry "extern/(internal/reflectlite.Value).Set.zeroValue")
    if fl / ReflectliteValue.flagAddr % 2 == 0 then unsupported (.noEntry "extern/(internal/reflectlite.Value).Set.unaddressable")
    let val ← loadVar src b
    if ← Rtype.directlyAssignable dst src then storeVar dst a val
    else if ← Rtype.implements dst src then
      if (← Rtype.kind src) == 20 then
        match val with
        | .nilIface => unsupported (.noEntry "extern/reflectlite: a nil value of one interface type handed on as a value of another")
        | _ => storeVar dst a val
      else storeVar dst a (.iface src val)
    else panicString ("reflectlite.Set: value of type " ++ (← Rtype.spelt src) ++ " is not assignable to type " ++ (← Rtype.spelt dst))
    pure (.tuple #[])) := rfl
theorem rfl_partsA (a : Addr) (w : World) : (ReflectliteValue.parts (.agg #[.pointer (some ⟨0, 71, none⟩), .pointer (some a), .int .u64 406])).run Try.prog w = .ok (some (71, a, 406)) w := by kernel_rfl
theorem rfl_partsB (a : Addr) (w : World) : (ReflectliteValue.parts (.agg #[.pointer (some ⟨0, 71, none⟩), .pointer (some a), .int .u64 150])).run Try.prog w = .ok (some (71, a, 150)) w := by kernel_rfl
theorem rfl_direct (w : World) : (Rtype.directlyAssignable 71 71).run Try.prog w = .ok true w := by kernel_rfl
theorem rfl_size (w : World) : (sizeOf 71).run Try.prog w = .ok 1 w := by kernel_rfl
theorem rfl_set (ta b e : Addr) (old : Value) (W : World) (hb : W.cell? b = some (.pointer (some e))) (ht : W.cell? ta = some old) (hf : W.frozen? ta = false) :
    (ReflectliteValue.set #[.agg #[.pointer (some ⟨0, 71, none⟩), .pointer (some ta), .int .u64 406], .agg #[.pointer (some ⟨0, 71, none⟩), .pointer (some b), .int .u64 150]]).run Try.prog W = .ok (.tuple #[]) (W.setCell ta (.pointer (some e))) := by
  rw [rfl_setdef]
  simp only [Sem.run_bind, rfl_partsA, rfl_partsB, Result.andThen]
  simp [ReflectliteValue.flagAddr, loadVar, isAgg, underlying, Try.underlying71, hb, Result.andThen, rfl_direct, storeVar, Value.cells, storeCells, Addr.add]
  rw [run_store Try.prog W ta _ _ (by rfl)]
  simp [ht, hf]

def AsOut (t : Nat) (p : Addr) (w : World) (e : Ending) (w' : World) : Prop := e = .returned (.bool true) ∧ ∃ W, Le w W ∧ w' = W.setCell ⟨t, 0, none⟩ (.pointer (some p))
end Go.Proofs.Ythcolcmgfhkbeaa
