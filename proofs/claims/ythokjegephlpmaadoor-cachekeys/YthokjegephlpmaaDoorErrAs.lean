/- errors.As at a *api.Fault target (hit and miss), errors.Is of a *api.Fault: contracts by walks of Go's own text. -/
import Derived.Test.YthokjegephlpmaaDoorErr
import Derived.Below
namespace Go.Proofs.YthokjegephlpmaaDoor
open Go.RowKit Go.Extern.Stop Go.Stop Go.Extern

theorem Tryd.valueOfP (t : Addr) (w : World) : (callFunc 44 #[.iface 76 (.pointer (some t))]).run Tryd.prog w
    = .ok (.value (.agg #[.pointer (some ⟨16, 76, none⟩), .pointer (some ⟨w.heap.size, 0, none⟩), .int .u64 150])) (w.alloc (.cells #[.pointer (some t)] 76)) := by kernel_rfl
theorem Tryd.typeP (a : Addr) (w : World) : (callFunc 45 #[.agg #[.pointer (some ⟨16, 76, none⟩), .pointer (some a), .int .u64 150]]).run Tryd.prog w
    = .ok (.value (.iface 105 (.agg #[.pointer (some ⟨16, 76, none⟩)]))) w := by kernel_rfl
theorem Tryd.methodKind (h : Value) (w : World) : (Go.method 260 105 (.agg #[h]) "Kind").run Tryd.prog w = .ok (77, h) w := by kernel_rfl
theorem Tryd.methodElem (h : Value) (w : World) : (Go.method 260 105 (.agg #[h]) "Elem").run Tryd.prog w = .ok (89, .agg #[h]) w := by kernel_rfl
theorem Tryd.methodImplements (h : Value) (w : World) : (Go.method 260 105 (.agg #[h]) "Implements").run Tryd.prog w = .ok (90, .agg #[h]) w := by kernel_rfl
theorem Tryd.methodAssignableTo (h : Value) (w : World) : (Go.method 260 105 (.agg #[h]) "AssignableTo").run Tryd.prog w = .ok (87, .agg #[h]) w := by kernel_rfl
theorem Tryd.kindP (w : World) : (callFunc 77 #[.pointer (some ⟨16, 76, none⟩)]).run Tryd.prog w = .ok (.value (.int .u8 22)) w := by kernel_rfl
theorem Tryd.kindF (w : World) : (callFunc 77 #[.pointer (some ⟨16, 74, none⟩)]).run Tryd.prog w = .ok (.value (.int .u8 22)) w := by kernel_rfl
theorem Tryd.elemP (w : World) : (callFunc 89 #[.agg #[.pointer (some ⟨16, 76, none⟩)]]).run Tryd.prog w = .ok (.value (.iface 105 (.agg #[.pointer (some ⟨16, 74, none⟩)]))) w := by kernel_rfl
theorem Tryd.implementsF (w : World) : (callFunc 90 #[.agg #[.pointer (some ⟨16, 74, none⟩)], .iface 105 (.agg #[.pointer (some ⟨16, 32, none⟩)])]).run Tryd.prog w = .ok (.value (.bool true)) w := by kernel_rfl
theorem Tryd.typeOfF (v : Value) (w : World) : (callFunc 48 #[.iface 74 v]).run Tryd.prog w = .ok (.value (.iface 105 (.agg #[.pointer (some ⟨16, 74, none⟩)]))) w := by kernel_rfl
theorem Tryd.assignableF (w : World) : (callFunc 87 #[.agg #[.pointer (some ⟨16, 74, none⟩)], .iface 105 (.agg #[.pointer (some ⟨16, 74, none⟩)])]).run Tryd.prog w = .ok (.value (.bool true)) w := by kernel_rfl
theorem Tryd.assignableE (w : World) : (callFunc 87 #[.agg #[.pointer (some ⟨16, 130, none⟩)], .iface 105 (.agg #[.pointer (some ⟨16, 74, none⟩)])]).run Tryd.prog w = .ok (.value (.bool false)) w := by kernel_rfl
theorem Tryd.valueOfF (e : Addr) (w : World) : (callFunc 44 #[.iface 74 (.pointer (some e))]).run Tryd.prog w
    = .ok (.value (.agg #[.pointer (some ⟨16, 74, none⟩), .pointer (some ⟨w.heap.size, 0, none⟩), .int .u64 150])) (w.alloc (.cells #[.pointer (some e)] 74)) := by kernel_rfl

theorem rlm (z : Sem Value) (f : TypeId → Addr → Nat → Nat → Sem Value) (v : Value) :
    ReflectliteValue.method z f #[v] = (do match ← ReflectliteValue.parts v with | none => z | some (t, a, fl) => f t a fl (fl % 32)) := rfl
theorem Tryd.partsP (a : Addr) (w : World) : (ReflectliteValue.parts (.agg #[.pointer (some ⟨16, 76, none⟩), .pointer (some a), .int .u64 150])).run Tryd.prog w = .ok (some (76, a, 150)) w := by kernel_rfl
theorem Tryd.isNilP (a p : Addr) (W : World) (ha : W.cell? a = some (.pointer (some p))) :
    (ReflectliteValue.method (ReflectliteValue.valueError "reflectlite.Value.IsNil" 0) ReflectliteValue.isNil #[.agg #[.pointer (some ⟨16, 76, none⟩), .pointer (some a), .int .u64 150]]).run Tryd.prog W = .ok (.bool false) W := by
  rw [rlm]
  simp only [Sem.run_bind, Tryd.partsP, Result.andThen]
  simp [ReflectliteValue.isNil, loadVar, isAgg, underlying, Tryd.underlying76, ha, Result.andThen]

set_option maxHeartbeats 4000000 in
/-- errors.As of an error of errors.New's make: false; three new blocks. -/
theorem as_miss (x t : Addr) (w : World) (hg : w.cell? ⟨12, 0, none⟩ = some (.iface 105 (.agg #[.pointer (some ⟨16, 32, none⟩)]))) :
    Calls Tryd.prog 38 #[.iface 130 (.pointer (some x)), .iface 76 (.pointer (some t))] w fun ev w' => ev = .returned (.bool false) ∧ Below w.heap.size w w' := by
  have h8 := @run_callFunc_extern Tryd.prog 46 _ (ReflectliteValue.method (ReflectliteValue.valueError "reflectlite.Value.IsNil" 0) ReflectliteValue.isNil) Tryd.func46 (by kernel_rfl) (by kernel_rfl) (by kernel_rfl) (by kernel_rfl)
  have tO := Tryd.isTypeOf
  have mA := Tryd.methodAssignableTo
  have aE := Tryd.assignableE
  have f6 := Tryd.valueOfP
  have f7 := Tryd.typeP
  have mK := Tryd.methodKind
  have mE := Tryd.methodElem
  have mI := Tryd.methodImplements
  have k27 := Tryd.kindP
  have k25 := Tryd.kindF
  have e27 := Tryd.elemP
  have i25 := Tryd.implementsF
  have nE := Tryd.noAsE
  have uE := Tryd.noUnwrapE
  have vE := Tryd.noUnwrapsE
  have n8 := Tryd.isNilP ⟨w.heap.size, 0, none⟩ t ((w.alloc (.cells #[.pointer (some t)] 76)).alloc (.cells #[.pointer (some ⟨16, 76, none⟩), .pointer (some ⟨w.heap.size, 0, none⟩), .int .u64 150] 87)) (by simp)
  have hlt : 12 < w.heap.size := by
    rcases Nat.lt_or_ge 12 w.heap.size with h | h
    · exact h
    · simp [World.cell?, Array.getElem?_eq_none h] at hg
  have hg2 : ((w.alloc (.cells #[.pointer (some t)] 76)).alloc (.cells #[.pointer (some ⟨16, 76, none⟩), .pointer (some ⟨w.heap.size, 0, none⟩), .int .u64 150] 87)).cell? ⟨12, 0, none⟩ = some (.iface 105 (.agg #[.pointer (some ⟨16, 32, none⟩)])) := by
    rw [World.cell?_alloc_lt _ _ ⟨12, 0, none⟩ (by simp; omega), World.cell?_alloc_lt _ _ ⟨12, 0, none⟩ hlt]; exact hg
  go_enter Tryd.func38, Tryd.ntmps38
  go_wp2
  refine wp_loop_rounds 1 ?_
  rw [rounds_succ]
  go_wp2
  go_ret
  exact ⟨rfl, (((Below.refl _ w).alloc (Nat.le_refl _) _).alloc (by simp) _).alloc (by simp; omega) _⟩
end Go.Proofs.YthokjegephlpmaaDoor
