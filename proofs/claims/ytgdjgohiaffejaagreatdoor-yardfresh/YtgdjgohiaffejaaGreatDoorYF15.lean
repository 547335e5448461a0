import Derived.Test.YtgdjgohiaffejaaGreatDoorChecked
import Derived.WalkKit
import Derived.LaidEql
import Derived.Stop.Asserts
import Derived.RowKitTokens
import Derived.Below
namespace Go.Proofs.YtgdjgohiaffejaaGreatDoor
open Go.RowKit Go.Extern.Stop Go.Stop Go.Extern
theorem Tryz.valueOfP (t : Addr) (w : World) : (callFunc 207 #[.iface 239 (.pointer (some t))]).run Tryz.prog w
    = .ok (.value (.agg #[.pointer (some ⟨21, 239, none⟩), .pointer (some ⟨w.heap.size, 0, none⟩), .int .u64 150])) (w.alloc (.cells #[.pointer (some t)] 239)) := by kernel_rfl
theorem Tryz.typeP (a : Addr) (w : World) : (callFunc 208 #[.agg #[.pointer (some ⟨21, 239, none⟩), .pointer (some a), .int .u64 150]]).run Tryz.prog w
    = .ok (.value (.iface 350 (.agg #[.pointer (some ⟨21, 239, none⟩)]))) w := by kernel_rfl
theorem Tryz.methodKind (h : Value) (w : World) : (Go.method 552 350 (.agg #[h]) "Kind").run Tryz.prog w = .ok (375, h) w := by kernel_rfl
theorem Tryz.methodElem (h : Value) (w : World) : (Go.method 552 350 (.agg #[h]) "Elem").run Tryz.prog w = .ok (389, .agg #[h]) w := by kernel_rfl
theorem Tryz.methodImplements (h : Value) (w : World) : (Go.method 552 350 (.agg #[h]) "Implements").run Tryz.prog w = .ok (390, .agg #[h]) w := by kernel_rfl
theorem Tryz.methodAssignableTo (h : Value) (w : World) : (Go.method 552 350 (.agg #[h]) "AssignableTo").run Tryz.prog w = .ok (387, .agg #[h]) w := by kernel_rfl
theorem Tryz.kindP (w : World) : (callFunc 375 #[.pointer (some ⟨21, 239, none⟩)]).run Tryz.prog w = .ok (.value (.int .u8 22)) w := by kernel_rfl
theorem Tryz.kindF (w : World) : (callFunc 375 #[.pointer (some ⟨21, 196, none⟩)]).run Tryz.prog w = .ok (.value (.int .u8 22)) w := by kernel_rfl
theorem Tryz.elemP (w : World) : (callFunc 389 #[.agg #[.pointer (some ⟨21, 239, none⟩)]]).run Tryz.prog w = .ok (.value (.iface 350 (.agg #[.pointer (some ⟨21, 196, none⟩)]))) w := by kernel_rfl
theorem Tryz.implementsF (w : World) : (callFunc 390 #[.agg #[.pointer (some ⟨21, 196, none⟩)], .iface 350 (.agg #[.pointer (some ⟨21, 25, none⟩)])]).run Tryz.prog w = .ok (.value (.bool true)) w := by kernel_rfl
theorem Tryz.typeOfF (v : Value) (w : World) : (callFunc 211 #[.iface 196 v]).run Tryz.prog w = .ok (.value (.iface 350 (.agg #[.pointer (some ⟨21, 196, none⟩)]))) w := by kernel_rfl
theorem Tryz.assignableF (w : World) : (callFunc 387 #[.agg #[.pointer (some ⟨21, 196, none⟩)], .iface 350 (.agg #[.pointer (some ⟨21, 196, none⟩)])]).run Tryz.prog w = .ok (.value (.bool true)) w := by kernel_rfl
theorem Tryz.valueOfF (e : Addr) (w : World) : (callFunc 207 #[.iface 196 (.pointer (some e))]).run Tryz.prog w
    = .ok (.value (.agg #[.pointer (some ⟨21, 196, none⟩), .pointer (some ⟨w.heap.size, 0, none⟩), .int .u64 150])) (w.alloc (.cells #[.pointer (some e)] 196)) := by kernel_rfl
theorem rlm (z : Sem Value) (f : TypeId → Addr → Nat → Nat → Sem Value) (v : Value) :
    ReflectliteValue.method z f #[v] = (do match ← ReflectliteValue.parts v with | none => z | some (t, a, fl) => f t a fl (fl % 32)) := rfl
theorem Tryz.partsP (a : Addr) (w : World) : (ReflectliteValue.parts (.agg #[.pointer (some ⟨21, 239, none⟩), .pointer (some a), .int .u64 150])).run Tryz.prog w = .ok (some (239, a, 150)) w := by kernel_rfl
theorem Tryz.isNilP (a p : Addr) (W : World) (ha : W.cell? a = some (.pointer (some p))) :
    (ReflectliteValue.method (ReflectliteValue.valueError "reflectlite.Value.IsNil" 0) ReflectliteValue.isNil #[.agg #[.pointer (some ⟨21, 239, none⟩), .pointer (some a), .int .u64 150]]).run Tryz.prog W = .ok (.bool false) W := by
  rw [rlm]
  simp only [Sem.run_bind, Tryz.partsP, Result.andThen]
  simp [ReflectliteValue.isNil, loadVar, isAgg, underlying, Tryz.underlying239, ha, Result.andThen]
end Go.Proofs.YtgdjgohiaffejaaGreatDoor
