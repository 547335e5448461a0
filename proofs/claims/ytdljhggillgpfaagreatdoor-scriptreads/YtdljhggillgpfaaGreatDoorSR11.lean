import Derived.Test.YtdljhggillgpfaaGreatDoorChecked
import Derived.LaidEql
import Derived.Stop.Asserts
import Derived.RowKitTokens
import Derived.Below
import Derived.Test.YtdljhggillgpfaaGreatDoorSR10
set_option maxHeartbeats 4000000
namespace Go.Proofs.YtdljhggillgpfaaGreatDoor
open Go.RowKit Go.Extern.Stop Go.Stop Go.Extern
theorem Tryz.isTypeOf (v : Value) (w : World) : (callFunc 40 #[.iface 357 v]).run Tryz.prog w = .ok (.value (.iface 113 (.agg #[.pointer (some ⟨26,357,none⟩)]))) w := by kernel_rfl
theorem Tryz.isComparable (w : World) : (callFunc 333 #[.agg #[.pointer (some ⟨26,357,none⟩)]]).run Tryz.prog w = .ok (.value (.bool true)) w := by kernel_rfl
theorem Tryz.isMethodComparable (v : Value) (w : World) : (Go.method 496 113 v "Comparable").run Tryz.prog w = .ok (333, v) w := by kernel_rfl
theorem Tryz.isComp : (Tryz.prog.info? 357).map (·.comparable) = some true := by kernel_rfl
theorem Tryz.isSize : (Tryz.prog.info? 359).map (·.size) = some 1 := by kernel_rfl
theorem Tryz.noIsE (v : Value) (xT : TypeId) (w : World) : (Instr.typeAssert (.iface 357 v) xT 124 true).run Tryz.prog w = .ok (.tuple #[.nilIface,.bool false]) w := run_typeAssert_lacksB Tryz.underlying124 (by kernel_rfl) (by kernel_rfl) v xT w
theorem Tryz.noAsE (v : Value) (xT : TypeId) (w : World) : (Instr.typeAssert (.iface 357 v) xT 117 true).run Tryz.prog w = .ok (.tuple #[.nilIface,.bool false]) w := run_typeAssert_lacksB Tryz.underlying117 (by kernel_rfl) (by kernel_rfl) v xT w
theorem Tryz.noUnwrapE (v : Value) (xT : TypeId) (w : World) : (Instr.typeAssert (.iface 357 v) xT 120 true).run Tryz.prog w = .ok (.tuple #[.nilIface,.bool false]) w := run_typeAssert_lacksB Tryz.underlying120 (by kernel_rfl) (by kernel_rfl) v xT w
theorem Tryz.noUnwrapsE (v : Value) (xT : TypeId) (w : World) : (Instr.typeAssert (.iface 357 v) xT 122 true).run Tryz.prog w = .ok (.tuple #[.nilIface,.bool false]) w := run_typeAssert_lacksB Tryz.underlying122 (by kernel_rfl) (by kernel_rfl) v xT w
theorem is_same (a : Addr) (w : World) :
  Calls Tryz.prog 28 #[.iface 357 (.pointer (some a)),.iface 357 (.pointer (some a))] w fun e w' => e = .returned (.bool true) ∧ w' = w := by
 obtain ⟨i,hi,hcmp⟩ := Option.map_eq_some_iff.1 Tryz.isComp
 obtain ⟨j,hj,hjs⟩ := Option.map_eq_some_iff.1 Tryz.isSize
 have tT := Tryz.isTypeOf
 have cT := Tryz.isComparable
 have mR := Tryz.isMethodComparable
 have heq := run_eql_iface_ptr_same (P := Tryz.prog) w a Tryz.underlying25 Tryz.underlying357 hi hcmp hj
 go_enter Tryz.func28,Tryz.ntmps28
 go_wp2
 refine wp_loop_rounds 1 ?_
 rw [rounds_succ]
 go_wp2
 go_ret
 exact ⟨rfl,rfl⟩
theorem is_other (a b : Addr) (ca cb : Array Value) (ta tb : TypeId) (w : World) (hne : a ≠ b) (ha : w.heap[a.block]? = some (.cells ca ta (0,0))) (hb : w.heap[b.block]? = some (.cells cb tb (0,0))) :
  Calls Tryz.prog 28 #[.iface 357 (.pointer (some a)),.iface 357 (.pointer (some b))] w fun e w' => e = .returned (.bool false) ∧ w' = w := by
 obtain ⟨i,hi,hcmp⟩ := Option.map_eq_some_iff.1 Tryz.isComp
 obtain ⟨j,hj,hjs⟩ := Option.map_eq_some_iff.1 Tryz.isSize
 have tT := Tryz.isTypeOf
 have cT := Tryz.isComparable
 have mR := Tryz.isMethodComparable
 have nE := Tryz.noIsE
 have uE := Tryz.noUnwrapE
 have vE := Tryz.noUnwrapsE
 have heq := run_eql_iface_ptr_other (P := Tryz.prog) w Tryz.underlying25 Tryz.underlying357 hi hcmp hj (by rw [hjs];decide) hne ha hb
 go_enter Tryz.func28,Tryz.ntmps28
 go_wp2
 refine wp_loop_rounds 1 ?_
 rw [rounds_succ]
 go_wp2
 go_ret
 exact ⟨rfl,rfl⟩
theorem Tryz.valueOfP (t : Addr) (w : World) : (callFunc 36 #[.iface 66 (.pointer (some t))]).run Tryz.prog w
  = .ok (.value (.agg #[.pointer (some ⟨26,66,none⟩),.pointer (some ⟨w.heap.size,0,none⟩),.int .u64 150])) (w.alloc (.cells #[.pointer (some t)] 66)) := by kernel_rfl
theorem Tryz.typeP (a : Addr) (w : World) : (callFunc 37 #[.agg #[.pointer (some ⟨26,66,none⟩),.pointer (some a),.int .u64 150]]).run Tryz.prog w
  = .ok (.value (.iface 113 (.agg #[.pointer (some ⟨26,66,none⟩)]))) w := by kernel_rfl
theorem Tryz.methodKind (h : Value) (w : World) : (Go.method 496 113 (.agg #[h]) "Kind").run Tryz.prog w = .ok (321, h) w := by kernel_rfl
theorem Tryz.methodElem (h : Value) (w : World) : (Go.method 496 113 (.agg #[h]) "Elem").run Tryz.prog w = .ok (334, .agg #[h]) w := by kernel_rfl
theorem Tryz.methodImplements (h : Value) (w : World) : (Go.method 496 113 (.agg #[h]) "Implements").run Tryz.prog w = .ok (335, .agg #[h]) w := by kernel_rfl
theorem Tryz.methodAssignableTo (h : Value) (w : World) : (Go.method 496 113 (.agg #[h]) "AssignableTo").run Tryz.prog w = .ok (332, .agg #[h]) w := by kernel_rfl
theorem Tryz.kindP (w : World) : (callFunc 321 #[.pointer (some ⟨26,66,none⟩)]).run Tryz.prog w = .ok (.value (.int .u8 22)) w := by kernel_rfl
theorem Tryz.kindF (w : World) : (callFunc 321 #[.pointer (some ⟨26,64,none⟩)]).run Tryz.prog w = .ok (.value (.int .u8 22)) w := by kernel_rfl
theorem Tryz.elemP (w : World) : (callFunc 334 #[.agg #[.pointer (some ⟨26,66,none⟩)]]).run Tryz.prog w = .ok (.value (.iface 113 (.agg #[.pointer (some ⟨26,64,none⟩)]))) w := by kernel_rfl
theorem Tryz.implementsF (w : World) : (callFunc 335 #[.agg #[.pointer (some ⟨26,64,none⟩)],.iface 113 (.agg #[.pointer (some ⟨26,25,none⟩)])]).run Tryz.prog w = .ok (.value (.bool true)) w := by kernel_rfl
theorem Tryz.typeOfF (v : Value) (w : World) : (callFunc 40 #[.iface 64 v]).run Tryz.prog w = .ok (.value (.iface 113 (.agg #[.pointer (some ⟨26,64,none⟩)]))) w := by kernel_rfl
theorem Tryz.assignableF (w : World) : (callFunc 332 #[.agg #[.pointer (some ⟨26,64,none⟩)],.iface 113 (.agg #[.pointer (some ⟨26,64,none⟩)])]).run Tryz.prog w = .ok (.value (.bool true)) w := by kernel_rfl
theorem Tryz.assignableE (w : World) : (callFunc 332 #[.agg #[.pointer (some ⟨26,357,none⟩)],.iface 113 (.agg #[.pointer (some ⟨26,64,none⟩)])]).run Tryz.prog w = .ok (.value (.bool false)) w := by kernel_rfl
theorem Tryz.valueOfF (e : Addr) (w : World) : (callFunc 36 #[.iface 64 (.pointer (some e))]).run Tryz.prog w
  = .ok (.value (.agg #[.pointer (some ⟨26,64,none⟩),.pointer (some ⟨w.heap.size,0,none⟩),.int .u64 150])) (w.alloc (.cells #[.pointer (some e)] 64)) := by kernel_rfl
theorem rlm (z : Sem Value) (f : TypeId → Addr → Nat → Nat → Sem Value) (v : Value) :
  ReflectliteValue.method z f #[v] = (do match ← ReflectliteValue.parts v with | none => z | some (t,a,fl) => f t a fl (fl % 32)) := rfl
theorem Tryz.partsP (a : Addr) (w : World) : (ReflectliteValue.parts (.agg #[.pointer (some ⟨26,66,none⟩),.pointer (some a),.int .u64 150])).run Tryz.prog w = .ok (some (66,a,150)) w := by kernel_rfl
theorem Tryz.isNilP (a p : Addr) (W : World) (ha : W.cell? a = some (.pointer (some p))) :
  (ReflectliteValue.method (ReflectliteValue.valueError "reflectlite.Value.IsNil" 0) ReflectliteValue.isNil #[.agg #[.pointer (some ⟨26, 66, none⟩), .pointer (some a), .int .u64 150]]).run Tryz.prog W = .ok (.bool false) W := by
 rw [rlm]
 simp only [Sem.run_bind,Tryz.partsP,Result.andThen]
 simp [ReflectliteValue.isNil,loadVar,isAgg,underlying,Tryz.underlying66,ha,Result.andThen]
theorem as_miss (x t : Addr) (w : World) (hg : w.cell? ⟨12,0,none⟩ = some (.iface 113 (.agg #[.pointer (some ⟨26,25,none⟩)]))) :
  Calls Tryz.prog 27 #[.iface 357 (.pointer (some x)),.iface 66 (.pointer (some t))] w fun ev w' => ev = .returned (.bool false) ∧ Below w.heap.size w w' := by
 have h8 := @run_callFunc_extern Tryz.prog 38 _ (ReflectliteValue.method (ReflectliteValue.valueError "reflectlite.Value.IsNil" 0) ReflectliteValue.isNil) Tryz.func38 (by kernel_rfl) (by kernel_rfl) (by kernel_rfl) (by kernel_rfl)
 have tO := Tryz.isTypeOf
 have mA := Tryz.methodAssignableTo
 have aE := Tryz.assignableE
 have f6 := Tryz.valueOfP
 have f7 := Tryz.typeP
 have mK := Tryz.methodKind
 have mE := Tryz.methodElem
 have mI := Tryz.methodImplements
 have k27 := Tryz.kindP
 have k25 := Tryz.kindF
 have e27 := Tryz.elemP
 have i25 := Tryz.implementsF
 have nE := Tryz.noAsE
 have uE := Tryz.noUnwrapE
 have vE := Tryz.noUnwrapsE
 have n8 := Tryz.isNilP ⟨w.heap.size,0,none⟩ t ((w.alloc (.cells #[.pointer (some t)] 66)).alloc (.cells #[.pointer (some ⟨26,66,none⟩),.pointer (some ⟨w.heap.size,0,none⟩),.int .u64 150] 86)) (by simp)
 have hlt : 12 < w.heap.size := by
  rcases Nat.lt_or_ge 12 w.heap.size with h | h
  ·exact h
  ·simp [World.cell?,Array.getElem?_eq_none h] at hg
 have hg2 : ((w.alloc (.cells #[.pointer (some t)] 66)).alloc (.cells #[.pointer (some ⟨26,66,none⟩),.pointer (some ⟨w.heap.size,0,none⟩),.int .u64 150] 86)).cell? ⟨12,0,none⟩ = some (.iface 113 (.agg #[.pointer (some ⟨26,25,none⟩)])) := by
  rw [World.cell?_alloc_lt _ _ ⟨12,0,none⟩ (by simp;omega),World.cell?_alloc_lt _ _ ⟨12,0,none⟩ hlt];exact hg
 go_enter Tryz.func27,Tryz.ntmps27
 go_wp2
 refine wp_loop_rounds 1 ?_
 rw [rounds_succ]
 go_wp2
 go_ret
 exact ⟨rfl,(((Below.refl _ w).alloc (Nat.le_refl _) _).alloc (by simp) _).alloc (by simp;omega) _⟩
structure E12 (w : World) (es : Nat → Addr) : Prop where
 c0 : w.cell? ⟨1,0,none⟩ = some (.iface 357 (.pointer (some (es 0))))
 c1 : w.cell? ⟨0,0,none⟩ = some (.iface 357 (.pointer (some (es 1))))
 c2 : w.cell? ⟨2,0,none⟩ = some (.iface 357 (.pointer (some (es 2))))
 c3 : w.cell? ⟨3,0,none⟩ = some (.iface 357 (.pointer (some (es 3))))
 c4 : w.cell? ⟨4,0,none⟩ = some (.iface 357 (.pointer (some (es 4))))
 c5 : w.cell? ⟨5,0,none⟩ = some (.iface 357 (.pointer (some (es 5))))
 c6 : w.cell? ⟨6,0,none⟩ = some (.iface 357 (.pointer (some (es 6))))
 c7 : w.cell? ⟨7,0,none⟩ = some (.iface 357 (.pointer (some (es 7))))
 c8 : w.cell? ⟨8,0,none⟩ = some (.iface 357 (.pointer (some (es 8))))
 c9 : w.cell? ⟨9,0,none⟩ = some (.iface 357 (.pointer (some (es 9))))
 c10 : w.cell? ⟨10,0,none⟩ = some (.iface 357 (.pointer (some (es 10))))
 c11 : w.cell? ⟨11,0,none⟩ = some (.iface 357 (.pointer (some (es 11))))
 t : w.cell? ⟨12,0,none⟩ = some (.iface 113 (.agg #[.pointer (some ⟨26,25,none⟩)]))
 rows : ∀ k,k < 12 → ∃ c t,w.heap[(es k).block]? = some (.cells c t (0,0))
 inj : ∀ j k,j < 12 → k < 12 → j ≠ k → es j ≠ es k
theorem blt_of_cell {w : World} {a : Addr} {v : Value} (h : w.cell? a = some v) : a.block < w.heap.size := by
 rcases Nat.lt_or_ge a.block w.heap.size with h' | h'
 ·exact h'
 ·simp [World.cell?,Array.getElem?_eq_none h'] at h
theorem cell_below {w w' : World} {a : Addr} {v : Value} (h : w.cell? a = some v) (hb : Below w.heap.size w w') : w'.cell? a = some v := (hb.cell (p := a) (blt_of_cell h)).trans h
theorem row_below {w w' : World} {b : Nat} {o : Obj} (h : w.heap[b]? = some o) (hb : Below w.heap.size w w') : w'.heap[b]? = some o := (hb.block b (Array.getElem?_eq_some_iff.1 h).1).trans h
theorem E12.below {w w' : World} {es : Nat → Addr} (h : E12 w es) (hb : Below w.heap.size w w') : E12 w' es :=
 ⟨cell_below h.c0 hb,cell_below h.c1 hb,cell_below h.c2 hb,cell_below h.c3 hb,cell_below h.c4 hb,cell_below h.c5 hb,cell_below h.c6 hb,cell_below h.c7 hb,cell_below h.c8 hb,cell_below h.c9 hb,cell_below h.c10 hb,cell_below h.c11 hb,cell_below h.t hb,
  fun k hk => by obtain ⟨c,t,hc⟩ := h.rows k hk;exact ⟨c,t,row_below hc hb⟩,h.inj⟩
def codeOf (es : Nat → Addr) (x : Addr) : Int :=
 match (List.range 12).find? (fun k => decide (es k = x)) with
 | some k => (k : Int) + 1
 | none => -1
theorem codeOf_none {es : Nat → Addr} {x : Addr} (h : ∀ j,j < 12 → es j ≠ x) : codeOf es x = -1 := by
 have : (List.range 12).find? (fun k => decide (es k = x)) = none := by
  rw [List.find?_eq_none]
  intro k hk
  simpa using h k (List.mem_range.1 hk)
 unfold codeOf
 rw [this]
theorem codeOf_some {es : Nat → Addr} {x : Addr} {k : Nat} (hk : k < 12) (he : es k = x) (h : ∀ j,j < k → es j ≠ x) : codeOf es x = (k : Int) + 1 := by
 have : (List.range 12).find? (fun k => decide (es k = x)) = some k := by
  rw [List.find?_range_eq_some]
  simp [he,hk]
  exact fun j hj => h j hj
 unfold codeOf
 rw [this]
def esV (es : Nat → Addr) : Array Value := #[.iface 357 (.pointer (some (es 0))),.iface 357 (.pointer (some (es 1))),.iface 357 (.pointer (some (es 2))),.iface 357 (.pointer (some (es 3))),.iface 357 (.pointer (some (es 4))),.iface 357 (.pointer (some (es 5))),.iface 357 (.pointer (some (es 6))),.iface 357 (.pointer (some (es 7))),.iface 357 (.pointer (some (es 8))),.iface 357 (.pointer (some (es 9))),.iface 357 (.pointer (some (es 10))),.iface 357 (.pointer (some (es 11)))]
theorem es_cells (es : Nat → Addr) (w : World) (k : Nat) (hk : k < 12) : (w.alloc (.cells (esV es) 25)).cell? ⟨w.heap.size,k,none⟩ = some (.iface 357 (.pointer (some (es k)))) := by
 have : k = 0 ∨ k = 1 ∨ k = 2 ∨ k = 3 ∨ k = 4 ∨ k = 5 ∨ k = 6 ∨ k = 7 ∨ k = 8 ∨ k = 9 ∨ k = 10 ∨ k = 11 := by omega
 rcases this with rfl | rfl | rfl | rfl | rfl | rfl | rfl | rfl | rfl | rfl | rfl | rfl <;> simp [esV]
theorem Code_ptr (x : Addr) (es : Nat → Addr) (cx : Array Value) (tx : TypeId) (w : World) (hE : E12 w es) (hx : w.heap[x.block]? = some (.cells cx tx (0,0))) :
  Calls Tryz.prog 16 #[.iface 357 (.pointer (some x))] w fun e w' => e = .returned (.tuple #[.int .i64 (codeOf es x),.int .i64 (-1)]) ∧ Below w.heap.size w w' := by
 have hB0 : Below w.heap.size w (w.alloc (.cells #[.pointer none] 64)) := (Below.refl _ w).alloc (Nat.le_refl _) _
 have hE0 := hE.below hB0
 go_enter Tryz.func16,Tryz.ntmps16
 go_wp2_with fail
 refine (as_miss x _ _ hE0.t).mono ?_
 rintro e w1 ⟨rfl,hb1'⟩
 have hB1 := hB0.trans (hb1'.mono hB0.size)
 have hE1 := hE.below hB1
 have hx1 := row_below hx hB1
 have k0 := hE1.c0;have k1 := hE1.c1;have k2 := hE1.c2;have k3 := hE1.c3;have k4 := hE1.c4;have k5 := hE1.c5
 have k6 := hE1.c6;have k7 := hE1.c7;have k8 := hE1.c8;have k9 := hE1.c9;have k10 := hE1.c10;have k11 := hE1.c11
 clear hE0 hB0 hb1'
 go_wp2
 have hB2 : Below w1.heap.size w1 (w1.alloc (.cells (esV es) 25)) := (Below.refl _ w1).alloc (Nat.le_refl _) _
 have hE2 := hE1.below hB2
 have hx2 := row_below hx1 hB2
 have hBB := hB1.trans (hB2.mono hB1.size)
 have hsl := es_cells es w1
 unfold esV at hB2 hE2 hx2 hBB hsl
 clear k0 k1 k2 k3 k4 k5 k6 k7 k8 k9 k10 k11 hE1 hB2 hx1 hE hx
 generalize w1.alloc _ = W2 at *
 have HE : Hid (E12 W2 es) := hE2
 clear hE2
 go_loop [3,30] (fun a i => a = .int .i64 (-1) ∧ ∃ k : Nat,k ≤ 12 ∧ i = .int .i64 k ∧ ∀ j,j < k → es j ≠ x) (fun _ i => 12 - (intOf i).toNat)
 case atStart => exact ⟨rfl,0,by omega,rfl,fun j hj => by omega⟩
 case round =>
  obtain ⟨rfl,k,hk,rfl,hno⟩ := hrel
  have HN : Hid (∀ j,j < k → es j ≠ x) := hno
  clear hno
  by_cases hlt : k < 12
  ·have hck := hsl k hlt
   have hlt' : (k : Int) < 12 := by omega
   have hk0 : (0 : Int) ≤ (k : Int) := by omega
   by_cases hek : es k = x
   ·have hc := codeOf_some hlt hek HN.out
    have HC : Hid (codeOf es x = (k : Int) + 1) := hc
    have HK : Hid (es k = x) := hek
    clear hc hsl hek
    go_wp2_with fail
    rw [HK.out]
    refine (is_same x _).mono ?_
    rintro e w' ⟨rfl,rfl⟩
    go_wp2
    go_ret2
    exact ⟨by rw [HC.out];rfl,hBB⟩
   ·obtain ⟨c,t,hr⟩ := HE.out.rows k hlt
    have hio := is_other x (es k) cx c tx t W2 (fun e => hek e.symm) hx2 hr
    have HI : Hid (Calls Tryz.prog 28 #[.iface 357 (.pointer (some x)),.iface 357 (.pointer (some (es k)))] W2 fun e w' => e = .returned (.bool false) ∧ w' = W2) := hio
    have HK : Hid (¬ es k = x) := hek
    clear hio hsl hek hr
    go_wp2_with fail
    refine HI.out.mono ?_
    rintro e w' ⟨rfl,rfl⟩
    go_wp2
    go_round
    case rel =>
     refine ⟨rfl,k + 1,by omega,by go_num,fun j hj => ?_⟩
     rcases Nat.lt_or_ge j k with h | h
     ·exact HN.out j h
     ·obtain rfl : j = k := by omega
      exact HK.out
    case measure => simp [intOf];omega
  ·have hc := codeOf_none (es := es) (x := x) (fun j hj => HN.out j (by omega))
   have HC : Hid (codeOf es x = -1) := hc
   clear hc hsl
   go_wp2
   go_ret2
   exact ⟨by rw [HC.out];rfl,hBB⟩
theorem Tryz.elemOfP (w : World) : (Rtype.elem? 66).run Tryz.prog w = .ok (some 64) w := by kernel_rfl
theorem Tryz.mkF (p : Addr) (w : World) : (ReflectliteValue.mk 64 p ReflectliteValue.flagAddr).run Tryz.prog w = .ok (.agg #[.pointer (some ⟨26,64,none⟩),.pointer (some p),.int .u64 406]) w := by kernel_rfl
theorem Tryz.elemVP (a p : Addr) (W : World) (ha : W.cell? a = some (.pointer (some p))) :
  (ReflectliteValue.method (ReflectliteValue.valueError "reflectlite.Value.Elem" 0) ReflectliteValue.elem #[.agg #[.pointer (some ⟨26, 66, none⟩), .pointer (some a), .int .u64 150]]).run Tryz.prog W
   = .ok (.agg #[.pointer (some ⟨26,64,none⟩),.pointer (some p),.int .u64 406]) W := by
 rw [rlm]
 simp only [Sem.run_bind,Tryz.partsP,Result.andThen]
 simp [ReflectliteValue.elem,loadVar,isAgg,underlying,Tryz.underlying66,ha,Result.andThen,Tryz.elemOfP,Tryz.mkF]
theorem rls (v x : Value) : ReflectliteValue.set #[v,x] = (do
  let (some (dst,a,fl),some (src,b,_)) := (← ReflectliteValue.parts v,← ReflectliteValue.parts x)
   | unsupported (.noEntry "extern/(internal/reflectlite.Value).Set.zeroValue")
  if fl / ReflectliteValue.flagAddr % 2 == 0 then unsupported (.noEntry "extern/(internal/reflectlite.Value).Set.unaddressable")
  let val ← loadVar src b
  if ← Rtype.directlyAssignable dst src then storeVar dst a val
  else if ← Rtype.implements dst src then
   if (← Rtype.kind src) == 20 then
    match val with
    | .nilIface => unsupported (.noEntry "extern/reflectlite: a nil value of one interface type handed on as a value of another")
    | _ => storeVar dst a val
   else storeVar dst a (.iface src val)
  else panicString ("reflectlite.Set: value of type " ++ (← Rtype.spelt src) ++ " is not assignable to type " ++ (← Rtype.spelt dst))
  pure (.tuple #[])) := rfl
theorem Tryz.partsFa (a : Addr) (w : World) : (ReflectliteValue.parts (.agg #[.pointer (some ⟨26,64,none⟩),.pointer (some a),.int .u64 406])).run Tryz.prog w = .ok (some (64,a,406)) w := by kernel_rfl
theorem Tryz.partsF (a : Addr) (w : World) : (ReflectliteValue.parts (.agg #[.pointer (some ⟨26,64,none⟩),.pointer (some a),.int .u64 150])).run Tryz.prog w = .ok (some (64,a,150)) w := by kernel_rfl
theorem Tryz.directF (w : World) : (Rtype.directlyAssignable 64 64).run Tryz.prog w = .ok true w := by kernel_rfl
theorem Tryz.setF (ta b e : Addr) (old : Value) (W : World) (hb : W.cell? b = some (.pointer (some e))) (ht : W.cell? ta = some old) (hf : W.frozen? ta = false) :
  (ReflectliteValue.set #[.agg #[.pointer (some ⟨26,64,none⟩),.pointer (some ta),.int .u64 406],.agg #[.pointer (some ⟨26,64,none⟩),.pointer (some b),.int .u64 150]]).run Tryz.prog W
   = .ok (.tuple #[]) (W.setCell ta (.pointer (some e))) := by
 rw [rls]
 simp only [Sem.run_bind,Tryz.partsFa,Tryz.partsF,Result.andThen]
 simp [ReflectliteValue.flagAddr,loadVar,isAgg,underlying,Tryz.underlying64,hb,Result.andThen,Tryz.directF,storeVar,Value.cells,storeCells,Addr.add]
 rw [run_store Tryz.prog W ta _ _ (by rfl)]
 simp [ht,hf]
theorem as_hit (e t : Addr) (old : Value) (w : World) (hg : w.cell? ⟨12,0,none⟩ = some (.iface 113 (.agg #[.pointer (some ⟨26,25,none⟩)]))) (ht0 : w.cell? t = some old) (hf0 : w.frozen? t = false) :
  Calls Tryz.prog 27 #[.iface 64 (.pointer (some e)),.iface 66 (.pointer (some t))] w fun ev w' => ev = .returned (.bool true) ∧ w' = ((((w.alloc (.cells #[.pointer (some t)] 66)).alloc (.cells #[.pointer (some ⟨26,66,none⟩),.pointer (some ⟨w.heap.size,0,none⟩),.int .u64 150] 86)).alloc (.cells #[.pointer (some ⟨26,66,none⟩),.pointer (some ⟨w.heap.size,0,none⟩),.int .u64 150] 86)).alloc (.cells #[.pointer (some e)] 64)).setCell t (.pointer (some e)) := by
 have h8 := @run_callFunc_extern Tryz.prog 38 _ (ReflectliteValue.method (ReflectliteValue.valueError "reflectlite.Value.IsNil" 0) ReflectliteValue.isNil) Tryz.func38 (by kernel_rfl) (by kernel_rfl) (by kernel_rfl) (by kernel_rfl)
 have h11 := @run_callFunc_extern Tryz.prog 60 _ (ReflectliteValue.method (ReflectliteValue.valueError "reflectlite.Value.Elem" 0) ReflectliteValue.elem) Tryz.func60 (by kernel_rfl) (by kernel_rfl) (by kernel_rfl) (by kernel_rfl)
 have h12 := @run_callFunc_extern Tryz.prog 61 _ ReflectliteValue.set Tryz.func61 (by kernel_rfl) (by kernel_rfl) (by kernel_rfl) (by kernel_rfl)
 have tO := Tryz.typeOfF
 have mA := Tryz.methodAssignableTo
 have a25 := Tryz.assignableF
 have v25 := Tryz.valueOfF
 have f6 := Tryz.valueOfP
 have f7 := Tryz.typeP
 have mK := Tryz.methodKind
 have mE := Tryz.methodElem
 have mI := Tryz.methodImplements
 have k27 := Tryz.kindP
 have k25 := Tryz.kindF
 have e27 := Tryz.elemP
 have i25 := Tryz.implementsF
 have n8 := Tryz.isNilP ⟨w.heap.size,0,none⟩ t ((w.alloc (.cells #[.pointer (some t)] 66)).alloc (.cells #[.pointer (some ⟨26,66,none⟩),.pointer (some ⟨w.heap.size,0,none⟩),.int .u64 150] 86)) (by simp)
 have hlt : 12 < w.heap.size := by
  rcases Nat.lt_or_ge 12 w.heap.size with h | h
  ·exact h
  ·simp [World.cell?,Array.getElem?_eq_none h] at hg
 have hg2 : ((w.alloc (.cells #[.pointer (some t)] 66)).alloc (.cells #[.pointer (some ⟨26,66,none⟩),.pointer (some ⟨w.heap.size,0,none⟩),.int .u64 150] 86)).cell? ⟨12,0,none⟩ = some (.iface 113 (.agg #[.pointer (some ⟨26,25,none⟩)])) := by
  rw [World.cell?_alloc_lt _ _ ⟨12,0,none⟩ (by simp;omega),World.cell?_alloc_lt _ _ ⟨12,0,none⟩ hlt];exact hg
 have htl : t.block < w.heap.size := by
  rcases Nat.lt_or_ge t.block w.heap.size with h | h
  ·exact h
  ·simp [World.cell?,Array.getElem?_eq_none h] at ht0
 have el := Tryz.elemVP ⟨w.heap.size,0,none⟩ t (((w.alloc (.cells #[.pointer (some t)] 66)).alloc (.cells #[.pointer (some ⟨26,66,none⟩),.pointer (some ⟨w.heap.size,0,none⟩),.int .u64 150] 86)).alloc (.cells #[.pointer (some ⟨26,66,none⟩),.pointer (some ⟨w.heap.size,0,none⟩),.int .u64 150] 86)) (by rw [World.cell?_alloc_lt _ _ ⟨w.heap.size,0,none⟩ (by simp;omega)];simp)
 have st := Tryz.setF t ⟨w.heap.size + 1 + 1 + 1,0,none⟩ e old ((((w.alloc (.cells #[.pointer (some t)] 66)).alloc (.cells #[.pointer (some ⟨26,66,none⟩),.pointer (some ⟨w.heap.size,0,none⟩),.int .u64 150] 86)).alloc (.cells #[.pointer (some ⟨26,66,none⟩),.pointer (some ⟨w.heap.size,0,none⟩),.int .u64 150] 86)).alloc (.cells #[.pointer (some e)] 64))
  (by rw [World.cell?_alloc_at _ _ _ _ (by simp)];rfl)
  (by rw [World.cell?_alloc_lt _ _ t (by simp;omega),World.cell?_alloc_lt _ _ t (by simp;omega),World.cell?_alloc_lt _ _ t (by simp;omega),World.cell?_alloc_lt _ _ t htl];exact ht0)
  (by rw [World.frozen?_alloc_old _ _ t (by simp;omega),World.frozen?_alloc_old _ _ t (by simp;omega),World.frozen?_alloc_old _ _ t (by simp;omega),World.frozen?_alloc_old _ _ t (Nat.ne_of_lt htl)];exact hf0)
 go_enter Tryz.func27,Tryz.ntmps27
 go_wp2
 refine wp_loop_rounds 1 ?_
 rw [rounds_succ]
 go_wp2
 go_ret
 exact ⟨rfl,rfl⟩
end Go.Proofs.YtdljhggillgpfaaGreatDoor
namespace Go.Proofs.YtdljhggillgpfaaGreatDoor
open Go.RowKit
theorem codeOf_es {w : World} {es : Nat → Addr} (h : E12 w es) (k : Nat) (hk : k < 12) : codeOf es (es k) = (k : Int) + 1 :=
 codeOf_some hk rfl (fun j hj => h.inj j k (by omega) hk (by omega))
def erOf (es : Nat → Addr) : Nat → Value
 | 0 => .nilIface
 | k + 1 => .iface 357 (.pointer (some (es k)))
end Go.Proofs.YtdljhggillgpfaaGreatDoor
namespace Go.Proofs.YtdljhggillgpfaaGreatDoor
open Go.RowKit Go.Shelf Go.Lib
theorem E12.ae {w : World} {es : Nat → Addr} (h : E12 w es) (hm : ∃ m,w.cell? ⟨13,0,none⟩ = some (.int .i64 m)) (hP : Pow w) (hS : SynAt w) (hb : 20 < w.heap.size) : AE w (erOf es) :=
 ⟨⟨hm,hP,h.c2,h.c9,hb⟩,hS,h.c4,fun _ => ⟨_,_,rfl⟩,rfl⟩
theorem AE.stays {w W : World} {er : Nat → Value} (h : AE w er) (hb : Below w.heap.size w W) : AE W er := by
 have h0 := h.aw.big
 exact ⟨h.aw.stays hb,h.syn.below hb,(cell_below2 hb (by omega)).trans h.kind,h.iface,h.zero⟩
theorem actE_le (nm wd : List UInt8) (n : Int) : Af.actE nm wd n = 0 ∨ ∃ k,k < 12 ∧ Af.actE nm wd n = k + 1 := by
 unfold Af.actE
 split
 ·exact .inr ⟨4,by omega,rfl⟩
 ·split
  ·exact .inr ⟨2,by omega,rfl⟩
  ·split
   ·exact .inr ⟨9,by omega,rfl⟩
   ·exact .inl rfl
end Go.Proofs.YtdljhggillgpfaaGreatDoor
namespace Go.Proofs.YtdljhggillgpfaaGreatDoor
open Go.RowKit Go.Shelf Go.Lib
namespace Ru
def twiceAt (r : Ru) (i : Nat) : Bool := decide (r.ins[i]? = some r.out) || decide (∃ x ∈ r.ins.take i,r.ins[i]? = some x)
def twice (r : Ru) : Bool := (List.range r.ins.length).any r.twiceAt
def err (r : Ru) : Nat :=
 if pathB r.out = false then 4
 else if Af.actE r.kind r.word r.ins.length ≠ 0 then Af.actE r.kind r.word r.ins.length
 else if r.ins.all pathB = false then 4
 else if r.twice = true then 7 else 0
def errAt (l : List Ru) (i : Nat) : Nat :=
 match l[i]? with
 | some r => if r.err ≠ 0 then r.err else if r.out ∈ (l.take i).map Ru.out then 7 else 0
 | none => 0
def fault (l : List Ru) : Nat × Int :=
 if 40 < l.length then (2,-1) else match first (errAt l) l.length with | some k => (errAt l k,(k : Int)) | none => (0,-1)
theorem fault_many {l : List Ru} (h : 40 < l.length) : fault l = (2,-1) := by unfold fault;rw [if_pos h]
theorem fault_none {l : List Ru} (h0 : l.length ≤ 40) (h : ∀ j,j < l.length → errAt l j = 0) : fault l = (0,-1) := by
 unfold fault
 rw [if_neg (by omega),first_none h]
theorem fault_some {l : List Ru} {m : Nat} (h0 : l.length ≤ 40) (hm : m < l.length) (hc : errAt l m ≠ 0) (h : ∀ j,j < m → errAt l j = 0) : fault l = (errAt l m,(m : Int)) := by
 unfold fault
 rw [if_neg (by omega),first_some hm hc h]
theorem twice_iff {r : Ru} : r.twice = true ↔ ∃ i,i < r.ins.length ∧ r.twiceAt i = true := by
 unfold twice
 simp [List.any_eq_true]
theorem twiceAt_eq {r : Ru} {i : Nat} (h : i < r.ins.length) : r.twiceAt i = (decide (r.ins[i] = r.out) || decide (r.ins[i] ∈ r.ins.take i)) := by
 unfold twiceAt
 rw [List.getElem?_eq_getElem h]
 congr 1
 ·simp
 ·rw [decide_eq_decide]
  constructor
  ·rintro ⟨x,hx,e⟩
   rw [Option.some.inj e]
   exact hx
  ·exact fun hx => ⟨_,hx,rfl⟩
theorem errAt_eq {l : List Ru} {i : Nat} (h : i < l.length) : errAt l i = if l[i].err ≠ 0 then l[i].err else if l[i].out ∈ (l.take i).map Ru.out then 7 else 0 := by
 unfold errAt
 rw [List.getElem?_eq_getElem h]
theorem err_le (r : Ru) : r.err = 0 ∨ ∃ k,k < 12 ∧ r.err = k + 1 := by
 unfold err
 split
 ·exact .inr ⟨3,by omega,rfl⟩
 ·split
  ·exact actE_le _ _ _
  ·split
   ·exact .inr ⟨3,by omega,rfl⟩
   ·split
    ·exact .inr ⟨6,by omega,rfl⟩
    ·exact .inl rfl
theorem errAt_le (l : List Ru) (i : Nat) : errAt l i = 0 ∨ ∃ k,k < 12 ∧ errAt l i = k + 1 := by
 unfold errAt
 split
 ·split
  ·exact err_le _
  ·split
   ·exact .inr ⟨6,by omega,rfl⟩
   ·exact .inl rfl
 ·exact .inl rfl
end Ru
def ErrV (w : World) (es : Nat → Addr) (v : Value) (f : Nat × Int) : Prop :=
 (f.2 = -1 ∧ v = erOf es f.1 ∧ f.1 ≤ 12) ∨ (∃ pb m,v = .iface 64 (.pointer (some ⟨pb,0,none⟩)) ∧ m < 12 ∧ f.1 = m + 1 ∧ w.cell? ⟨pb,0,none⟩ = some (.int .i64 f.2) ∧ w.cell? ⟨pb,1,none⟩ = some (erOf es f.1))
theorem ErrV.below {w w' : World} {es : Nat → Addr} {v : Value} {f : Nat × Int} (h : ErrV w es v f) (hb : Below w.heap.size w w') : ErrV w' es v f := by
 rcases h with h | ⟨pb,m,e,hm,h0,h1,h2⟩
 ·exact .inl h
 ·exact .inr ⟨pb,m,e,hm,h0,cell_below' h1 hb,cell_below' h2 hb⟩
theorem ErrV.nil {w : World} {es : Nat → Addr} : ErrV w es .nilIface (0,-1) := .inl ⟨rfl,rfl,by simp⟩
theorem ErrV.bare {w : World} {es : Nat → Addr} {c : Nat} (h : c ≤ 12) : ErrV w es (erOf es c) (c,-1) := .inl ⟨rfl,rfl,h⟩
structure ES (w : World) (es : Nat → Addr) : Prop where
 c1 : w.cell? ⟨0,0,none⟩ = some (.iface 357 (.pointer (some (es 1))))
 c3 : w.cell? ⟨3,0,none⟩ = some (.iface 357 (.pointer (some (es 3))))
 c6 : w.cell? ⟨6,0,none⟩ = some (.iface 357 (.pointer (some (es 6))))
 t : w.cell? ⟨12,0,none⟩ = some (.iface 113 (.agg #[.pointer (some ⟨26,25,none⟩)]))
theorem ES.below {w w' : World} {es : Nat → Addr} (h : ES w es) (hb : Below w.heap.size w w') : ES w' es :=
 ⟨cell_below' h.c1 hb,cell_below' h.c3 hb,cell_below' h.c6 hb,cell_below' h.t hb⟩
theorem E12.es {w : World} {es : Nat → Addr} (h : E12 w es) : ES w es := ⟨h.c1,h.c3,h.c6,h.t⟩
end Go.Proofs.YtdljhggillgpfaaGreatDoor
namespace Go.Proofs.YtdljhggillgpfaaGreatDoor
open Go.RowKit Go.Shelf Go.Lib
namespace Rd
def lines : List UInt8 → List (List UInt8)
 | [] => []
 | c :: r => if c = 10 then [10] :: lines r else match lines r with
  | [] => [[c]]
  | x :: y => (c :: x) :: y
theorem lines_miss : ∀ (s : List UInt8),s ≠ [] → Lib.indexByte s 10 = -1 → lines s = [s]
 | [],h,_ => absurd rfl h
 | c :: r,_,h => by
  unfold Lib.indexByte at h
  by_cases hc : c = 10
  ·simp [hc] at h
  ·have hb : (c == 10) = false := by simp [hc]
   rw [hb] at h
   by_cases h1 : Lib.indexByte r 10 = -1
   ·cases r with
    | nil => simp [lines,hc]
    | cons d t =>
     have := lines_miss (d :: t) (by simp) h1
     unfold lines
     rw [if_neg hc,this]
   ·have hge := Lib.indexByte_ge r 10
    simp [h1] at h
    omega
theorem lines_hit : ∀ (s : List UInt8) (i : Nat),Lib.indexByte s 10 = (i : Int) → lines s = s.take (i + 1) :: lines (s.drop (i + 1)) ∧ i < s.length
 | [],i,h => by simp [Lib.indexByte] at h
 | c :: r,i,h => by
  unfold Lib.indexByte at h
  by_cases hc : c = 10
  ·simp [hc] at h
   obtain rfl : i = 0 := by omega
   simp [lines,hc]
  ·have hb : (c == 10) = false := by simp [hc]
   rw [hb] at h
   by_cases h1 : Lib.indexByte r 10 = -1
   ·simp [h1] at h
   ·have hge := Lib.indexByte_ge r 10
    simp [h1] at h
    obtain ⟨j,rfl⟩ : ∃ j,i = j + 1 := ⟨i - 1,by omega⟩
    obtain ⟨e1,e2⟩ := lines_hit r j (by omega)
    refine ⟨?_,by simp;omega⟩
    conv => lhs;unfold lines
    rw [if_neg hc,e1]
    rfl
theorem lines_len : ∀ (s : List UInt8),(lines s).length ≤ s.length
 | [] => by simp [lines]
 | c :: r => by
  have := lines_len r
  unfold lines
  split
  ·simp;omega
  ·split
   ·simp
   ·rename_i x y e
    rw [e] at this
    simp at this ⊢
    omega
theorem lines_each : ∀ (s : List UInt8),∀ x ∈ lines s,x.length ≤ s.length
 | [],x,h => by simp [lines] at h
 | c :: r,x,h => by
  have ih := lines_each r
  unfold lines at h
  split at h
  ·rcases List.mem_cons.1 h with rfl | h
   ·simp
   ·have := ih x h
    simp;omega
  ·split at h
   ·simp at h
    subst h
    simp
   ·rename_i a b e
    rw [e] at ih
    rcases List.mem_cons.1 h with rfl | h
    ·have := ih a (by simp)
     simp;omega
    ·have := ih x (by simp [h])
     simp;omega
def unq : List UInt8 → Option (List UInt8 × List UInt8)
 | [] => none
 | [c] => if c = 34 then some ([],[]) else none
 | c :: d :: r =>
  if c = 34 then some ([],d :: r)
  else if c = 92 then
   if d = 34 ∨ d = 92 then (unq r).map fun x => (d :: x.1,x.2)
   else if d = 110 then (unq r).map fun x => (10 :: x.1,x.2)
   else none
  else (unq (d :: r)).map fun x => (c :: x.1,x.2)
def cutKind (s : List UInt8) : List UInt8 × List UInt8 := if Lib.indexByte s 32 < 0 then (s,[]) else (s.take (Lib.indexByte s 32).toNat,s.drop (Lib.indexByte s 32).toNat)
def cutWord (s : List UInt8) : Option (List UInt8 × List UInt8) :=
 if Lib.hasPrefix s [32,34] then (unq (s.drop 2)).bind fun x => if x.1 = [] then none else some x else some ([],s)
theorem unq_len : ∀ {s : List UInt8} {x : List UInt8 × List UInt8},unq s = some x → x.1.length ≤ s.length ∧ x.2.length ≤ s.length
 | [],_,h => by cases h
 | [c],x,h => by
  unfold unq at h
  split at h
  ·cases h
   simp
  ·cases h
 | c :: d :: r,x,h => by
  unfold unq at h
  split at h
  ·cases h
   simp
  ·split at h
   ·split at h
    ·obtain ⟨y,hy,rfl⟩ := Option.map_eq_some_iff.1 h
     have := unq_len hy
     simp
     omega
    ·split at h
     ·obtain ⟨y,hy,rfl⟩ := Option.map_eq_some_iff.1 h
      have := unq_len hy
      simp
      omega
     ·cases h
   ·obtain ⟨y,hy,rfl⟩ := Option.map_eq_some_iff.1 h
    have := unq_len hy
    simp at this ⊢
    omega
theorem cutWord_both {s : List UInt8} {x : List UInt8 × List UInt8} (h : cutWord s = some x) : x.1.length ≤ s.length ∧ x.2.length ≤ s.length := by
 unfold cutWord at h
 split at h
 ·obtain ⟨y,hy,h⟩ := Option.bind_eq_some_iff.1 h
  have := unq_len hy
  simp at this
  split at h
  ·cases h
  ·cases h
   omega
 ·cases h
  simp
theorem cutWord_len {s a b : List UInt8} (h : cutWord s = some (a,b)) : b.length ≤ s.length := (cutWord_both h).2
def inputs (s : List UInt8) : Option (List (List UInt8)) :=
 if s = [] then some []
 else if Lib.hasPrefix s [32] = false ∨ [] ∈ cutB 32 (s.drop 1) then none else some (cutB 32 (s.drop 1))
def bare (s : List UInt8) : Option Ru :=
 if 0 ≤ Lib.index s [32,61,32] then
  (cutWord (cutKind (s.drop ((Lib.index s [32,61,32]).toNat + 3))).2).bind fun x => (inputs x.2).map fun l => ⟨s.take (Lib.index s [32,61,32]).toNat,(cutKind (s.drop ((Lib.index s [32,61,32]).toNat + 3))).1,x.1,l⟩
 else none
def line (s : List UInt8) : Option Ru := if Lib.hasSuffix s [10] then bare (s.take (s.length - 1)) else none
theorem cutB_each (c : UInt8) : ∀ (s : List UInt8),∀ x ∈ cutB c s,x.length ≤ s.length
 | [],x,h => by simp [cutB] at h;subst h;simp
 | d :: r,x,h => by
  have ih := cutB_each c r
  unfold cutB at h
  split at h
  ·rcases List.mem_cons.1 h with rfl | h
   ·simp
   ·have := ih x h
    simp;omega
  ·split at h
   ·simp at h
    subst h
    simp
   ·rename_i p ps e
    rw [e] at ih
    rcases List.mem_cons.1 h with rfl | h
    ·have := ih p (by simp)
     simp;omega
    ·have := ih x (by simp [h])
     simp;omega
theorem cutKind_len (s : List UInt8) : (cutKind s).2.length ≤ s.length := by
 unfold cutKind
 split <;> simp
theorem line_len {s : List UInt8} {r : Ru} (h : line s = some r) : r.out.length ≤ s.length ∧ r.word.length ≤ s.length ∧ r.ins.length ≤ s.length + 1 ∧ ∀ x ∈ r.ins,x.length ≤ s.length := by
 unfold line at h
 split at h
 ·unfold bare at h
  split at h
  ·obtain ⟨x,hx,h⟩ := Option.bind_eq_some_iff.1 h
   obtain ⟨l,hl,rfl⟩ := Option.map_eq_some_iff.1 h
   have h1 := cutWord_both hx
   have h2 := cutKind_len ((s.take (s.length - 1)).drop ((Lib.index (s.take (s.length - 1)) [32,61,32]).toNat + 3))
   simp only [List.length_drop,List.length_take] at h2
   have h3 : l.length ≤ x.2.length + 1 ∧ ∀ y ∈ l,y.length ≤ x.2.length := by
    unfold inputs at hl
    split at hl
    ·cases hl
     simp
    ·split at hl
     ·cases hl
     ·cases hl
      refine ⟨?_,fun y hy => ?_⟩
      ·have := cutB_len 32 (x.2.drop 1)
       rw [List.length_drop] at this
       omega
      ·have := cutB_each 32 _ y hy
       rw [List.length_drop] at this
       omega
   refine ⟨by simp;omega,by show x.1.length ≤ _;omega,by show l.length ≤ _;omega,fun y hy => ?_⟩
   have := h3.2 y hy
   omega
  ·cases h
 ·cases h
def codeL (ls : List (List UInt8)) (k : Nat) : Nat := if ((ls.getD k []) |> line).isSome then 0 else 1
def rules (ls : List (List UInt8)) : List Ru := ls.filterMap line
def fault (s : List UInt8) : Nat × Int :=
 if 10000 < s.length then (2,-1)
 else match Ru.first (codeL (lines s)) (lines s).length with
  | some k => (1,k)
  | none => Ru.fault (rules (lines s))
end Rd
end Go.Proofs.YtdljhggillgpfaaGreatDoor
