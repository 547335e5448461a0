import Derived.Test.YtdljhggillgpfaaGreatDoorSA11
import Derived.Below
import Derived.Laws.AppendOwnNone
set_option maxRecDepth 100000
set_option maxHeartbeats 8000000
namespace Go.Proofs.YtdljhggillgpfaaGreatDoor
open Go.RowKit Go.Extern.Stop Go.Stop Go.Extern
theorem Tryz.valueOfP (t : Addr) (w : World) : (callFunc 36 #[.iface 66 (.pointer (some t))]).run Tryz.prog w
  = .ok (.value (.agg #[.pointer (some ⟨26,66,none⟩),.pointer (some ⟨w.heap.size,0,none⟩),.int .u64 150])) (w.alloc (.cells #[.pointer (some t)] 66)) := by kernel_rfl
theorem Tryz.typeP (a : Addr) (w : World) : (callFunc 37 #[.agg #[.pointer (some ⟨26,66,none⟩),.pointer (some a),.int .u64 150]]).run Tryz.prog w
  = .ok (.value (.iface 113 (.agg #[.pointer (some ⟨26,66,none⟩)]))) w := by kernel_rfl
theorem Tryz.methodKind (h : Value) (w : World) : (Go.method 496 113 (.agg #[h]) "Kind").run Tryz.prog w = .ok (321, h) w := by kernel_rfl
theorem Tryz.methodElem (h : Value) (w : World) : (Go.method 496 113 (.agg #[h]) "Elem").run Tryz.prog w = .ok (334, .agg #[h]) w := by kernel_rfl
theorem Tryz.methodImplements (h : Value) (w : World) : (Go.method 496 113 (.agg #[h]) "Implements").run Tryz.prog w = .ok (335, .agg #[h]) w := by kernel_rfl
theorem Tryz.methodAssignableTo (h : Value) (w : World) : (Go.method 496 113 (.agg #[h]) "AssignableTo").run Tryz.prog w = .ok (332, .agg #[h]) w := by kernel_rfl
theorem Tryz.kindP (w : World) : (callFunc 321 #[.pointer (some ⟨26,66,none⟩)]).run Tryz.prog w = .ok (.value (.int .u8 22)) w := by kernel_rfl
theorem Tryz.kindF (w : World) : (callFunc 321 #[.pointer (some ⟨26,64,none⟩)]).run Tryz.prog w = .ok (.value (.int .u8 22)) w := by kernel_rfl
theorem Tryz.elemP (w : World) : (callFunc 334 #[.agg #[.pointer (some ⟨26,66,none⟩)]]).run Tryz.prog w = .ok (.value (.iface 113 (.agg #[.pointer (some ⟨26,64,none⟩)]))) w := by kernel_rfl
theorem Tryz.implementsF (w : World) : (callFunc 335 #[.agg #[.pointer (some ⟨26,64,none⟩)],.iface 113 (.agg #[.pointer (some ⟨26,25,none⟩)])]).run Tryz.prog w = .ok (.value (.bool true)) w := by kernel_rfl
theorem Tryz.typeOfF (v : Value) (w : World) : (callFunc 40 #[.iface 64 v]).run Tryz.prog w = .ok (.value (.iface 113 (.agg #[.pointer (some ⟨26,64,none⟩)]))) w := by kernel_rfl
theorem Tryz.assignableF (w : World) : (callFunc 332 #[.agg #[.pointer (some ⟨26,64,none⟩)],.iface 113 (.agg #[.pointer (some ⟨26,64,none⟩)])]).run Tryz.prog w = .ok (.value (.bool true)) w := by kernel_rfl
theorem Tryz.assignableE (w : World) : (callFunc 332 #[.agg #[.pointer (some ⟨26,357,none⟩)],.iface 113 (.agg #[.pointer (some ⟨26,64,none⟩)])]).run Tryz.prog w = .ok (.value (.bool false)) w := by kernel_rfl
theorem Tryz.valueOfF (e : Addr) (w : World) : (callFunc 36 #[.iface 64 (.pointer (some e))]).run Tryz.prog w
  = .ok (.value (.agg #[.pointer (some ⟨26,64,none⟩),.pointer (some ⟨w.heap.size,0,none⟩),.int .u64 150])) (w.alloc (.cells #[.pointer (some e)] 64)) := by kernel_rfl
theorem rlm (z : Sem Value) (f : TypeId → Addr → Nat → Nat → Sem Value) (v : Value) :
  ReflectliteValue.method z f #[v] = (do match ← ReflectliteValue.parts v with | none => z | some (t,a,fl) => f t a fl (fl % 32)) := rfl
theorem Tryz.partsP (a : Addr) (w : World) : (ReflectliteValue.parts (.agg #[.pointer (some ⟨26,66,none⟩),.pointer (some a),.int .u64 150])).run Tryz.prog w = .ok (some (66,a,150)) w := by kernel_rfl
theorem Tryz.isNilP (a p : Addr) (W : World) (ha : W.cell? a = some (.pointer (some p))) :
  (ReflectliteValue.method (ReflectliteValue.valueError "reflectlite.Value.IsNil" 0) ReflectliteValue.isNil #[.agg #[.pointer (some ⟨26, 66, none⟩), .pointer (some a), .int .u64 150]]).run Tryz.prog W = .ok (.bool false) W := by
 rw [rlm]
 simp only [Sem.run_bind,Tryz.partsP,Result.andThen]
 simp [ReflectliteValue.isNil,loadVar,isAgg,underlying,Tryz.underlying66,ha,Result.andThen]
theorem as_miss (x t : Addr) (w : World) (hg : w.cell? ⟨12,0,none⟩ = some (.iface 113 (.agg #[.pointer (some ⟨26,25,none⟩)]))) :
  Calls Tryz.prog 27 #[.iface 357 (.pointer (some x)),.iface 66 (.pointer (some t))] w fun ev w' => ev = .returned (.bool false) ∧ Below w.heap.size w w' := by
 have h8 := @run_callFunc_extern Tryz.prog 38 _ (ReflectliteValue.method (ReflectliteValue.valueError "reflectlite.Value.IsNil" 0) ReflectliteValue.isNil) Tryz.func38 (by kernel_rfl) (by kernel_rfl) (by kernel_rfl) (by kernel_rfl)
 have tO := Tryz.isTypeOf
 have mA := Tryz.methodAssignableTo
 have aE := Tryz.assignableE
 have f6 := Tryz.valueOfP
 have f7 := Tryz.typeP
 have mK := Tryz.methodKind
 have mE := Tryz.methodElem
 have mI := Tryz.methodImplements
 have k27 := Tryz.kindP
 have k25 := Tryz.kindF
 have e27 := Tryz.elemP
 have i25 := Tryz.implementsF
 have nE := Tryz.noAsE
 have uE := Tryz.noUnwrapE
 have vE := Tryz.noUnwrapsE
 have n8 := Tryz.isNilP ⟨w.heap.size,0,none⟩ t ((w.alloc (.cells #[.pointer (some t)] 66)).alloc (.cells #[.pointer (some ⟨26,66,none⟩),.pointer (some ⟨w.heap.size,0,none⟩),.int .u64 150] 86)) (by simp)
 have hlt : 12 < w.heap.size := by
  rcases Nat.lt_or_ge 12 w.heap.size with h | h
  ·exact h
  ·simp [World.cell?,Array.getElem?_eq_none h] at hg
 have hg2 : ((w.alloc (.cells #[.pointer (some t)] 66)).alloc (.cells #[.pointer (some ⟨26,66,none⟩),.pointer (some ⟨w.heap.size,0,none⟩),.int .u64 150] 86)).cell? ⟨12,0,none⟩ = some (.iface 113 (.agg #[.pointer (some ⟨26,25,none⟩)])) := by
  rw [World.cell?_alloc_lt _ _ ⟨12,0,none⟩ (by simp;omega),World.cell?_alloc_lt _ _ ⟨12,0,none⟩ hlt];exact hg
 go_enter Tryz.func27,Tryz.ntmps27
 go_wp2
 refine wp_loop_rounds 1 ?_
 rw [rounds_succ]
 go_wp2
 go_ret
 exact ⟨rfl,(((Below.refl _ w).alloc (Nat.le_refl _) _).alloc (by simp) _).alloc (by simp;omega) _⟩
structure E12 (w : World) (es : Nat → Addr) : Prop where
 c0 : w.cell? ⟨1,0,none⟩ = some (.iface 357 (.pointer (some (es 0))))
 c1 : w.cell? ⟨0,0,none⟩ = some (.iface 357 (.pointer (some (es 1))))
 c2 : w.cell? ⟨2,0,none⟩ = some (.iface 357 (.pointer (some (es 2))))
 c3 : w.cell? ⟨3,0,none⟩ = some (.iface 357 (.pointer (some (es 3))))
 c4 : w.cell? ⟨4,0,none⟩ = some (.iface 357 (.pointer (some (es 4))))
 c5 : w.cell? ⟨5,0,none⟩ = some (.iface 357 (.pointer (some (es 5))))
 c6 : w.cell? ⟨6,0,none⟩ = some (.iface 357 (.pointer (some (es 6))))
 c7 : w.cell? ⟨7,0,none⟩ = some (.iface 357 (.pointer (some (es 7))))
 c8 : w.cell? ⟨8,0,none⟩ = some (.iface 357 (.pointer (some (es 8))))
 c9 : w.cell? ⟨9,0,none⟩ = some (.iface 357 (.pointer (some (es 9))))
 c10 : w.cell? ⟨10,0,none⟩ = some (.iface 357 (.pointer (some (es 10))))
 c11 : w.cell? ⟨11,0,none⟩ = some (.iface 357 (.pointer (some (es 11))))
 t : w.cell? ⟨12,0,none⟩ = some (.iface 113 (.agg #[.pointer (some ⟨26,25,none⟩)]))
 rows : ∀ k,k < 12 → ∃ c t,w.heap[(es k).block]? = some (.cells c t (0,0))
 inj : ∀ j k,j < 12 → k < 12 → j ≠ k → es j ≠ es k
theorem blt_of_cell {w : World} {a : Addr} {v : Value} (h : w.cell? a = some v) : a.block < w.heap.size := by
 rcases Nat.lt_or_ge a.block w.heap.size with h' | h'
 ·exact h'
 ·simp [World.cell?,Array.getElem?_eq_none h'] at h
theorem cell_below {w w' : World} {a : Addr} {v : Value} (h : w.cell? a = some v) (hb : Below w.heap.size w w') : w'.cell? a = some v := (hb.cell (p := a) (blt_of_cell h)).trans h
theorem row_below {w w' : World} {b : Nat} {o : Obj} (h : w.heap[b]? = some o) (hb : Below w.heap.size w w') : w'.heap[b]? = some o := (hb.block b (Array.getElem?_eq_some_iff.1 h).1).trans h
theorem E12.below {w w' : World} {es : Nat → Addr} (h : E12 w es) (hb : Below w.heap.size w w') : E12 w' es :=
 ⟨cell_below h.c0 hb,cell_below h.c1 hb,cell_below h.c2 hb,cell_below h.c3 hb,cell_below h.c4 hb,cell_below h.c5 hb,cell_below h.c6 hb,cell_below h.c7 hb,cell_below h.c8 hb,cell_below h.c9 hb,cell_below h.c10 hb,cell_below h.c11 hb,cell_below h.t hb,
  fun k hk => by obtain ⟨c,t,hc⟩ := h.rows k hk;exact ⟨c,t,row_below hc hb⟩,h.inj⟩
theorem Tryz.elemOfP (w : World) : (Rtype.elem? 66).run Tryz.prog w = .ok (some 64) w := by kernel_rfl
theorem Tryz.mkF (p : Addr) (w : World) : (ReflectliteValue.mk 64 p ReflectliteValue.flagAddr).run Tryz.prog w = .ok (.agg #[.pointer (some ⟨26,64,none⟩),.pointer (some p),.int .u64 406]) w := by kernel_rfl
theorem Tryz.elemVP (a p : Addr) (W : World) (ha : W.cell? a = some (.pointer (some p))) :
  (ReflectliteValue.method (ReflectliteValue.valueError "reflectlite.Value.Elem" 0) ReflectliteValue.elem #[.agg #[.pointer (some ⟨26, 66, none⟩), .pointer (some a), .int .u64 150]]).run Tryz.prog W
   = .ok (.agg #[.pointer (some ⟨26,64,none⟩),.pointer (some p),.int .u64 406]) W := by
 rw [rlm]
 simp only [Sem.run_bind,Tryz.partsP,Result.andThen]
 simp [ReflectliteValue.elem,loadVar,isAgg,underlying,Tryz.underlying66,ha,Result.andThen,Tryz.elemOfP,Tryz.mkF]
theorem rls (v x : Value) : ReflectliteValue.set #[v,x] = (do
  let (some (dst,a,fl),some (src,b,_)) := (← ReflectliteValue.parts v,← ReflectliteValue.parts x)
   | unsupported (.noEntry "extern/(internal/reflectlite.Value).Set.zeroValue")
  if fl / ReflectliteValue.flagAddr % 2 == 0 then unsupported (.noEntry "extern/(internal/reflectlite.Value).Set.unaddressable")
  let val ← loadVar src b
  if ← Rtype.directlyAssignable dst src then storeVar dst a val
  else if ← Rtype.implements dst src then
   if (← Rtype.kind src) == 20 then
    match val with
    | .nilIface => unsupported (.noEntry "extern/reflectlite: a nil value of one interface type handed on as a value of another")
    | _ => storeVar dst a val
   else storeVar dst a (.iface src val)
  else panicString ("reflectlite.Set: value of type " ++ (← Rtype.spelt src) ++ " is not assignable to type " ++ (← Rtype.spelt dst))
  pure (.tuple #[])) := rfl
theorem Tryz.partsFa (a : Addr) (w : World) : (ReflectliteValue.parts (.agg #[.pointer (some ⟨26,64,none⟩),.pointer (some a),.int .u64 406])).run Tryz.prog w = .ok (some (64,a,406)) w := by kernel_rfl
theorem Tryz.partsF (a : Addr) (w : World) : (ReflectliteValue.parts (.agg #[.pointer (some ⟨26,64,none⟩),.pointer (some a),.int .u64 150])).run Tryz.prog w = .ok (some (64,a,150)) w := by kernel_rfl
theorem Tryz.directF (w : World) : (Rtype.directlyAssignable 64 64).run Tryz.prog w = .ok true w := by kernel_rfl
theorem Tryz.setF (ta b e : Addr) (old : Value) (W : World) (hb : W.cell? b = some (.pointer (some e))) (ht : W.cell? ta = some old) (hf : W.frozen? ta = false) :
  (ReflectliteValue.set #[.agg #[.pointer (some ⟨26,64,none⟩),.pointer (some ta),.int .u64 406],.agg #[.pointer (some ⟨26,64,none⟩),.pointer (some b),.int .u64 150]]).run Tryz.prog W
   = .ok (.tuple #[]) (W.setCell ta (.pointer (some e))) := by
 rw [rls]
 simp only [Sem.run_bind,Tryz.partsFa,Tryz.partsF,Result.andThen]
 simp [ReflectliteValue.flagAddr,loadVar,isAgg,underlying,Tryz.underlying64,hb,Result.andThen,Tryz.directF,storeVar,Value.cells,storeCells,Addr.add]
 rw [run_store Tryz.prog W ta _ _ (by rfl)]
 simp [ht,hf]
theorem as_hit (e t : Addr) (old : Value) (w : World) (hg : w.cell? ⟨12,0,none⟩ = some (.iface 113 (.agg #[.pointer (some ⟨26,25,none⟩)]))) (ht0 : w.cell? t = some old) (hf0 : w.frozen? t = false) :
  Calls Tryz.prog 27 #[.iface 64 (.pointer (some e)),.iface 66 (.pointer (some t))] w fun ev w' => ev = .returned (.bool true) ∧ w' = ((((w.alloc (.cells #[.pointer (some t)] 66)).alloc (.cells #[.pointer (some ⟨26,66,none⟩),.pointer (some ⟨w.heap.size,0,none⟩),.int .u64 150] 86)).alloc (.cells #[.pointer (some ⟨26,66,none⟩),.pointer (some ⟨w.heap.size,0,none⟩),.int .u64 150] 86)).alloc (.cells #[.pointer (some e)] 64)).setCell t (.pointer (some e)) := by
 have h8 := @run_callFunc_extern Tryz.prog 38 _ (ReflectliteValue.method (ReflectliteValue.valueError "reflectlite.Value.IsNil" 0) ReflectliteValue.isNil) Tryz.func38 (by kernel_rfl) (by kernel_rfl) (by kernel_rfl) (by kernel_rfl)
 have h11 := @run_callFunc_extern Tryz.prog 60 _ (ReflectliteValue.method (ReflectliteValue.valueError "reflectlite.Value.Elem" 0) ReflectliteValue.elem) Tryz.func60 (by kernel_rfl) (by kernel_rfl) (by kernel_rfl) (by kernel_rfl)
 have h12 := @run_callFunc_extern Tryz.prog 61 _ ReflectliteValue.set Tryz.func61 (by kernel_rfl) (by kernel_rfl) (by kernel_rfl) (by kernel_rfl)
 have tO := Tryz.typeOfF
 have mA := Tryz.methodAssignableTo
 have a25 := Tryz.assignableF
 have v25 := Tryz.valueOfF
 have f6 := Tryz.valueOfP
 have f7 := Tryz.typeP
 have mK := Tryz.methodKind
 have mE := Tryz.methodElem
 have mI := Tryz.methodImplements
 have k27 := Tryz.kindP
 have k25 := Tryz.kindF
 have e27 := Tryz.elemP
 have i25 := Tryz.implementsF
 have n8 := Tryz.isNilP ⟨w.heap.size,0,none⟩ t ((w.alloc (.cells #[.pointer (some t)] 66)).alloc (.cells #[.pointer (some ⟨26,66,none⟩),.pointer (some ⟨w.heap.size,0,none⟩),.int .u64 150] 86)) (by simp)
 have hlt : 12 < w.heap.size := by
  rcases Nat.lt_or_ge 12 w.heap.size with h | h
  ·exact h
  ·simp [World.cell?,Array.getElem?_eq_none h] at hg
 have hg2 : ((w.alloc (.cells #[.pointer (some t)] 66)).alloc (.cells #[.pointer (some ⟨26,66,none⟩),.pointer (some ⟨w.heap.size,0,none⟩),.int .u64 150] 86)).cell? ⟨12,0,none⟩ = some (.iface 113 (.agg #[.pointer (some ⟨26,25,none⟩)])) := by
  rw [World.cell?_alloc_lt _ _ ⟨12,0,none⟩ (by simp;omega),World.cell?_alloc_lt _ _ ⟨12,0,none⟩ hlt];exact hg
 have htl : t.block < w.heap.size := by
  rcases Nat.lt_or_ge t.block w.heap.size with h | h
  ·exact h
  ·simp [World.cell?,Array.getElem?_eq_none h] at ht0
 have el := Tryz.elemVP ⟨w.heap.size,0,none⟩ t (((w.alloc (.cells #[.pointer (some t)] 66)).alloc (.cells #[.pointer (some ⟨26,66,none⟩),.pointer (some ⟨w.heap.size,0,none⟩),.int .u64 150] 86)).alloc (.cells #[.pointer (some ⟨26,66,none⟩),.pointer (some ⟨w.heap.size,0,none⟩),.int .u64 150] 86)) (by rw [World.cell?_alloc_lt _ _ ⟨w.heap.size,0,none⟩ (by simp;omega)];simp)
 have st := Tryz.setF t ⟨w.heap.size + 1 + 1 + 1,0,none⟩ e old ((((w.alloc (.cells #[.pointer (some t)] 66)).alloc (.cells #[.pointer (some ⟨26,66,none⟩),.pointer (some ⟨w.heap.size,0,none⟩),.int .u64 150] 86)).alloc (.cells #[.pointer (some ⟨26,66,none⟩),.pointer (some ⟨w.heap.size,0,none⟩),.int .u64 150] 86)).alloc (.cells #[.pointer (some e)] 64))
  (by rw [World.cell?_alloc_at _ _ _ _ (by simp)];rfl)
  (by rw [World.cell?_alloc_lt _ _ t (by simp;omega),World.cell?_alloc_lt _ _ t (by simp;omega),World.cell?_alloc_lt _ _ t (by simp;omega),World.cell?_alloc_lt _ _ t htl];exact ht0)
  (by rw [World.frozen?_alloc_old _ _ t (by simp;omega),World.frozen?_alloc_old _ _ t (by simp;omega),World.frozen?_alloc_old _ _ t (by simp;omega),World.frozen?_alloc_old _ _ t (Nat.ne_of_lt htl)];exact hf0)
 go_enter Tryz.func27,Tryz.ntmps27
 go_wp2
 refine wp_loop_rounds 1 ?_
 rw [rounds_succ]
 go_wp2
 go_ret
 exact ⟨rfl,rfl⟩
end Go.Proofs.YtdljhggillgpfaaGreatDoor
namespace Go.Proofs.YtdljhggillgpfaaGreatDoor
open Go.RowKit
def erOf (es : Nat → Addr) : Nat → Value
 | 0 => .nilIface
 | k + 1 => .iface 357 (.pointer (some (es k)))
end Go.Proofs.YtdljhggillgpfaaGreatDoor
namespace Go.Proofs.YtdljhggillgpfaaGreatDoor
open Go.RowKit Go.Shelf Go.Lib
theorem E12.ae {w : World} {es : Nat → Addr} (h : E12 w es) (hm : ∃ m,w.cell? ⟨13,0,none⟩ = some (.int .i64 m)) (hP : Pow w) (hS : SynAt w) (hb : 20 < w.heap.size) : AE w (erOf es) :=
 ⟨⟨hm,hP,h.c2,h.c9,hb⟩,hS,h.c4,fun _ => ⟨_,_,rfl⟩,rfl⟩
theorem AE.stays {w W : World} {er : Nat → Value} (h : AE w er) (hb : Below w.heap.size w W) : AE W er := by
 have h0 := h.aw.big
 exact ⟨h.aw.stays hb,h.syn.below hb,(cell_below2 hb (by omega)).trans h.kind,h.iface,h.zero⟩
theorem actE_le (nm wd : List UInt8) (n : Int) : Af.actE nm wd n = 0 ∨ ∃ k,k < 12 ∧ Af.actE nm wd n = k + 1 := by
 unfold Af.actE
 split
 ·exact .inr ⟨4,by omega,rfl⟩
 ·split
  ·exact .inr ⟨2,by omega,rfl⟩
  ·split
   ·exact .inr ⟨9,by omega,rfl⟩
   ·exact .inl rfl
end Go.Proofs.YtdljhggillgpfaaGreatDoor
namespace Go.Proofs.YtdljhggillgpfaaGreatDoor
open Go.RowKit Go.Shelf Go.Lib
namespace Ru
def twiceAt (r : Ru) (i : Nat) : Bool := decide (r.ins[i]? = some r.out) || decide (∃ x ∈ r.ins.take i,r.ins[i]? = some x)
def twice (r : Ru) : Bool := (List.range r.ins.length).any r.twiceAt
def err (r : Ru) : Nat :=
 if pathB r.out = false then 4
 else if Af.actE r.kind r.word r.ins.length ≠ 0 then Af.actE r.kind r.word r.ins.length
 else if r.ins.all pathB = false then 4
 else if r.twice = true then 7 else 0
def errAt (l : List Ru) (i : Nat) : Nat :=
 match l[i]? with
 | some r => if r.err ≠ 0 then r.err else if r.out ∈ (l.take i).map Ru.out then 7 else 0
 | none => 0
def fault (l : List Ru) : Nat × Int :=
 if 40 < l.length then (2,-1) else match first (errAt l) l.length with | some k => (errAt l k,(k : Int)) | none => (0,-1)
theorem fault_many {l : List Ru} (h : 40 < l.length) : fault l = (2,-1) := by unfold fault;rw [if_pos h]
theorem fault_none {l : List Ru} (h0 : l.length ≤ 40) (h : ∀ j,j < l.length → errAt l j = 0) : fault l = (0,-1) := by
 unfold fault
 rw [if_neg (by omega),first_none h]
theorem fault_some {l : List Ru} {m : Nat} (h0 : l.length ≤ 40) (hm : m < l.length) (hc : errAt l m ≠ 0) (h : ∀ j,j < m → errAt l j = 0) : fault l = (errAt l m,(m : Int)) := by
 unfold fault
 rw [if_neg (by omega),first_some hm hc h]
theorem twice_iff {r : Ru} : r.twice = true ↔ ∃ i,i < r.ins.length ∧ r.twiceAt i = true := by
 unfold twice
 simp [List.any_eq_true]
theorem twiceAt_eq {r : Ru} {i : Nat} (h : i < r.ins.length) : r.twiceAt i = (decide (r.ins[i] = r.out) || decide (r.ins[i] ∈ r.ins.take i)) := by
 unfold twiceAt
 rw [List.getElem?_eq_getElem h]
 congr 1
 ·simp
 ·rw [decide_eq_decide]
  constructor
  ·rintro ⟨x,hx,e⟩
   rw [Option.some.inj e]
   exact hx
  ·exact fun hx => ⟨_,hx,rfl⟩
theorem errAt_eq {l : List Ru} {i : Nat} (h : i < l.length) : errAt l i = if l[i].err ≠ 0 then l[i].err else if l[i].out ∈ (l.take i).map Ru.out then 7 else 0 := by
 unfold errAt
 rw [List.getElem?_eq_getElem h]
theorem err_le (r : Ru) : r.err = 0 ∨ ∃ k,k < 12 ∧ r.err = k + 1 := by
 unfold err
 split
 ·exact .inr ⟨3,by omega,rfl⟩
 ·split
  ·exact actE_le _ _ _
  ·split
   ·exact .inr ⟨3,by omega,rfl⟩
   ·split
    ·exact .inr ⟨6,by omega,rfl⟩
    ·exact .inl rfl
theorem errAt_le (l : List Ru) (i : Nat) : errAt l i = 0 ∨ ∃ k,k < 12 ∧ errAt l i = k + 1 := by
 unfold errAt
 split
 ·split
  ·exact err_le _
  ·split
   ·exact .inr ⟨6,by omega,rfl⟩
   ·exact .inl rfl
 ·exact .inl rfl
end Ru
def ErrV (w : World) (es : Nat → Addr) (v : Value) (f : Nat × Int) : Prop :=
 (f.2 = -1 ∧ v = erOf es f.1 ∧ f.1 ≤ 12) ∨ (∃ pb m,v = .iface 64 (.pointer (some ⟨pb,0,none⟩)) ∧ m < 12 ∧ f.1 = m + 1 ∧ w.cell? ⟨pb,0,none⟩ = some (.int .i64 f.2) ∧ w.cell? ⟨pb,1,none⟩ = some (erOf es f.1))
theorem ErrV.below {w w' : World} {es : Nat → Addr} {v : Value} {f : Nat × Int} (h : ErrV w es v f) (hb : Below w.heap.size w w') : ErrV w' es v f := by
 rcases h with h | ⟨pb,m,e,hm,h0,h1,h2⟩
 ·exact .inl h
 ·exact .inr ⟨pb,m,e,hm,h0,cell_below' h1 hb,cell_below' h2 hb⟩
theorem ErrV.nil {w : World} {es : Nat → Addr} : ErrV w es .nilIface (0,-1) := .inl ⟨rfl,rfl,by simp⟩
theorem ErrV.bare {w : World} {es : Nat → Addr} {c : Nat} (h : c ≤ 12) : ErrV w es (erOf es c) (c,-1) := .inl ⟨rfl,rfl,h⟩
structure ES (w : World) (es : Nat → Addr) : Prop where
 c1 : w.cell? ⟨0,0,none⟩ = some (.iface 357 (.pointer (some (es 1))))
 c3 : w.cell? ⟨3,0,none⟩ = some (.iface 357 (.pointer (some (es 3))))
 c6 : w.cell? ⟨6,0,none⟩ = some (.iface 357 (.pointer (some (es 6))))
 t : w.cell? ⟨12,0,none⟩ = some (.iface 113 (.agg #[.pointer (some ⟨26,25,none⟩)]))
theorem ES.below {w w' : World} {es : Nat → Addr} (h : ES w es) (hb : Below w.heap.size w w') : ES w' es :=
 ⟨cell_below' h.c1 hb,cell_below' h.c3 hb,cell_below' h.c6 hb,cell_below' h.t hb⟩
theorem E12.es {w : World} {es : Nat → Addr} (h : E12 w es) : ES w es := ⟨h.c1,h.c3,h.c6,h.t⟩
end Go.Proofs.YtdljhggillgpfaaGreatDoor
namespace Go.Proofs.YtdljhggillgpfaaGreatDoor
open Go.RowKit Go.Shelf Go.Lib
theorem LongTexts_any {w : World} (v : Value) (ls : List (List UInt8)) (many most : Nat) (hmany : many ≤ 1000000) (hmost : most ≤ 1000000) (hrow : IRow w v ls) :
  Calls Tryz.prog 18 #[v,.int .i64 many,.int .i64 most] w fun e w' => ∃ r : Int,e = .returned (.int .i64 r) ∧ w' = w ∧ (r = 1 ∨ (r = 0 ∧ ls.length ≤ many ∧ ∀ x ∈ ls,x.length ≤ most)) := by
 obtain ⟨p,cap,rfl,hin⟩ := hrow
 have zM : (most : Int) ≤ 1000000 := by omega
 have zN : (many : Int) ≤ 1000000 := by omega
 have HI := hid1 hin
 clear hin
 by_cases h12 : ls.length ≤ many
 ·have z12 : (ls.length : Int) ≤ (many : Int) := by omega
  go_enter Tryz.func18,Tryz.ntmps18
  go_wp2
  go_loopw [7,8] (fun n i wr => ∃ k m : Nat,k ≤ ls.length ∧ m ≤ most ∧ n = .int .i64 m ∧ i = .int .i64 k ∧ (∀ j (hj : j < ls.length),j < k → ls[j].length ≤ most) ∧ w = wr) (fun _ i _ => ls.length - (intOf i).toNat)
  case atStart => exact ⟨0,0,Nat.zero_le _,Nat.zero_le _,rfl,rfl,fun j hj h => by omega,rfl⟩
  case round =>
   obtain ⟨k,m,hk,hm,rfl,rfl,hall,rfl⟩ := hrel
   have HA := hid1 hall
   clear hall
   have c0 : (0 : Int) ≤ (k : Int) := by omega
   have zm : (m : Int) ≤ (most : Int) := by omega
   have q8 : IntKind.i64.wrap (k : Int) = (k : Int) := by rw [IntKind.wrap_i64];omega
   by_cases hlt : k < ls.length
   ·have c1 : (k : Int) < (ls.length : Int) := by omega
    obtain ⟨g,o,rfl,hg,hcur⟩ := HI.out (by intro e;rw [e] at hlt;simp at hlt)
    have hcell := hcur k hlt
    have HS : Hid (ls[k].length ≤ most → ∀ j (hj : j < ls.length),j < k + 1 → ls[j].length ≤ most) := by
     refine hid1 fun h j hj hjk => ?_
     by_cases e : j = k
     ·subst e;exact h
     ·exact HA.out j hj (by omega)
    clear hcur HI HA
    generalize ls[k] = y at *
    by_cases hy : y.length ≤ most
    ·have zy : (y.length : Int) ≤ (most : Int) := by omega
     have HN := hid1 (HS.out hy)
     clear HS
     have q7 : IntKind.i64.wrap ((m : Int) + (y.length : Int)) = ((m + y.length : Nat) : Int) := by rw [IntKind.wrap_i64];omega
     by_cases hs : m + y.length ≤ most
     ·have zs : ((m + y.length : Nat) : Int) ≤ (most : Int) := by omega
      generalize hmy : m + y.length = m1 at *
      clear hmy
      go_wp2
      exact ⟨⟨k + 1,m1,by omega,hs,rfl,by go_num,HN.out,trivial⟩,by simp [intOf];omega⟩
     ·have zs : (most : Int) < ((m + y.length : Nat) : Int) := by omega
      generalize hmy : m + y.length = m1 at *
      clear hmy
      go_wp2
      go_ret
      exact ⟨1,rfl,rfl,.inl rfl⟩
    ·have zy : (most : Int) < (y.length : Int) := by omega
     clear HS
     go_wp2
     go_ret
     exact ⟨1,rfl,rfl,.inl rfl⟩
   ·obtain rfl : k = ls.length := by omega
    have c1 : ¬ (ls.length : Int) < (ls.length : Int) := by omega
    have HF : Hid (∀ x ∈ ls,x.length ≤ most) := by
     refine hid1 fun x hx => ?_
     obtain ⟨j,hj,rfl⟩ := List.getElem_of_mem hx
     exact HA.out j hj hj
    clear HI HA
    go_wp2
    go_ret
    exact ⟨0,rfl,rfl,.inr ⟨rfl,HF.out⟩⟩
 ·have z12 : (many : Int) < (ls.length : Int) := by omega
  go_enter Tryz.func18,Tryz.ntmps18
  go_wp2
  go_ret
  exact ⟨1,rfl,rfl,.inl rfl⟩
end Go.Proofs.YtdljhggillgpfaaGreatDoor
namespace Go.Proofs.YtdljhggillgpfaaGreatDoor
open Go.RowKit Go.Shelf Go.Lib
theorem LongRules_any {w : World} (v : Value) (l : List Ru) (many : Nat) (hmany : many ≤ 40) (hrow : RRow w v l) :
  Calls Tryz.prog 19 #[v,.int .i64 many] w fun e w' => ∃ r : Int,e = .returned (.int .i64 r) ∧ w' = w ∧ (r = 1 ∨ (r = 0 ∧ (l.length ≤ many ∨ l.length = 41) ∧ ∀ x ∈ l,x.Small)) := by
 obtain ⟨p,cap,rfl,hcap,hnn,hin⟩ := hrow
 have HI := hid1 hin
 clear hin hnn
 have zM : (many : Int) ≤ 40 := by omega
 by_cases hm : l.length ≤ many ∨ l.length = 41
 ·have HM := hid1 hm
  have hm' : (l.length : Int) ≤ (many : Int) ∨ ((many : Int) < (l.length : Int) ∧ ((l.length : Int) != 41) = false) := by
   rcases hm with h | h
   ·exact .inl (by omega)
   ·exact .inr ⟨by omega,by simp [h]⟩
  have hl : l.length ≤ 41 := by omega
  have zl : (l.length : Int) ≤ 41 := by omega
  clear hm
  rcases hm' with hm' | ⟨hm',hm2⟩
  all_goals
   go_enter Tryz.func19,Tryz.ntmps19
   go_wp2
   go_loopw [5] (fun i wr => ∃ k : Nat,k ≤ l.length ∧ i = .int .i64 k ∧ (∀ j (hj : j < l.length),j < k → l[j].Small) ∧ w = wr) (fun i _ => l.length - (intOf i).toNat)
   case atStart => exact ⟨0,Nat.zero_le _,rfl,fun j hj h => by omega,rfl⟩
   case round =>
    obtain ⟨k,hk,rfl,hz,rfl⟩ := hrel
    have HZ := hid1 hz
    clear hz
    have c0 : (0 : Int) ≤ (k : Int) := by omega
    by_cases hlt : k < l.length
    ·have c1 : (k : Int) < (l.length : Int) := by omega
     obtain ⟨g',o,rfl,hg,hcur⟩ := HI.out (by intro e;rw [e] at hlt;simp at hlt)
     obtain ⟨u0,u1,u2,u,u3,ux⟩ := hcur k hlt
     have HT := hid1 (LongTexts_any u l[k].ins 12 300 (by omega) (by omega) ux.irow)
     have HN : Hid (l[k].Small → ∀ j (hj : j < l.length),j < k + 1 → l[j].Small) := hid1 fun hs j hj hjk => by
      rcases Nat.lt_or_ge j k with h | h
      ·exact HZ.out j hj h
      ·obtain rfl : j = k := by omega
       exact hs
     have HU := hid1 ux
     clear hcur HI HZ ux
     generalize l[k] = y at *
     obtain ⟨p3,cap3,rfl,_⟩ := HU.out
     by_cases h1 : 100 < y.out.length
     ·have z1 : (100 : Int) < (y.out.length : Int) := by omega
      clear HT HN
      go_wp2
      go_ret
      exact ⟨1,rfl,rfl,.inl rfl⟩
     by_cases h2 : 60 < y.kind.length
     ·have z1 : (y.out.length : Int) ≤ (100 : Int) := by omega
      have z2 : (60 : Int) < (y.kind.length : Int) := by omega
      clear HT HN
      go_wp2
      go_ret
      exact ⟨1,rfl,rfl,.inl rfl⟩
     by_cases h3 : 150 < y.word.length
     ·have z1 : (y.out.length : Int) ≤ (100 : Int) := by omega
      have z2 : (y.kind.length : Int) ≤ (60 : Int) := by omega
      have z3 : (150 : Int) < (y.word.length : Int) := by omega
      clear HT HN
      go_wp2
      go_ret
      exact ⟨1,rfl,rfl,.inl rfl⟩
     have z1 : (y.out.length : Int) ≤ (100 : Int) := by omega
     have z2 : (y.kind.length : Int) ≤ (60 : Int) := by omega
     have z3 : (y.word.length : Int) ≤ (150 : Int) := by omega
     go_wp2_with fail
     refine HT.out.mono ?_
     rintro e w1 ⟨r,rfl,rfl,rfl | ⟨rfl,hy1,hy2⟩⟩
     ·clear HT HN
      go_wp2
      go_ret
      exact ⟨1,rfl,rfl,.inl rfl⟩
     ·have HNN := hid1 (HN.out ⟨by omega,by omega,by omega,hy1,hy2⟩)
      clear HT HN hy2
      go_wp2
      exact ⟨⟨k + 1,by omega,by go_num,HNN.out,trivial⟩,by simp [intOf];omega⟩
    ·have c1 : (l.length : Int) ≤ (k : Int) := by omega
     have HN : Hid (∀ x ∈ l,x.Small) := hid1 fun x hx => by
      obtain ⟨j,hj,rfl⟩ := List.getElem_of_mem hx
      exact HZ.out j hj (by omega)
     clear HI HZ
     go_wp2
     go_ret
     exact ⟨0,rfl,rfl,.inr ⟨rfl,HM.out,HN.out⟩⟩
 ·have z1 : (many : Int) < (l.length : Int) := by omega
  have z2 : ((l.length : Int) != 41) = true := by simp;omega
  clear hm HI
  go_enter Tryz.func19,Tryz.ntmps19
  go_wp2
  go_ret
  exact ⟨1,rfl,rfl,.inl rfl⟩
end Go.Proofs.YtdljhggillgpfaaGreatDoor
namespace Go.Proofs.YtdljhggillgpfaaGreatDoor
open Go.RowKit Go.Shelf Go.Lib
namespace Ru
def needs (l : List Ru) (i k : Nat) : Bool :=
 match l[i]?,l[k]? with
 | some a,some b => decide (b.out ∈ a.ins)
 | _,_ => false
theorem needs_eq {l : List Ru} {i k : Nat} (hi : i < l.length) (hk : k < l.length) : needs l i k = decide (l[k].out ∈ l[i].ins) := by
 unfold needs
 rw [List.getElem?_eq_getElem hi,List.getElem?_eq_getElem hk]
theorem needs_lt {l : List Ru} {i k : Nat} (h : needs l i k = true) : i < l.length ∧ k < l.length := by
 unfold needs at h
 split at h
 ·rename_i a b ha hb
  exact ⟨(List.getElem?_eq_some_iff.1 ha).1,(List.getElem?_eq_some_iff.1 hb).1⟩
 ·cases h
def freeTo (l : List Ru) (done : Nat → Bool) (i m : Nat) : Bool := (List.range m).all fun k => done k || !needs l i k
def may (l : List Ru) (some done : Nat → Bool) (i : Nat) : Bool := some i && !done i && freeTo l done i l.length
def nextTo (l : List Ru) (some done : Nat → Bool) (m : Nat) : Option Nat := (List.range m).find? (may l some done)
theorem nextTo_succ (l : List Ru) (some done : Nat → Bool) (m : Nat) : nextTo l some done (m + 1) = (nextTo l some done m).or (if may l some done m = true then Option.some m else none) := by
 unfold nextTo
 rw [List.range_succ,List.find?_append]
 congr 1
 simp [List.find?_cons]
 split <;> simp_all
def leftTo (some done : Nat → Bool) (m : Nat) : Bool := (List.range m).any fun i => some i && !done i
theorem leftTo_succ (some done : Nat → Bool) (m : Nat) : leftTo some done (m + 1) = (leftTo some done m || (some m && !done m)) := by
 unfold leftTo
 rw [List.range_succ,List.any_append]
 simp
def isIn (o : List Nat) (i : Nat) : Bool := decide (i ∈ o)
def orderF (l : List Ru) (some : Nat → Bool) : Nat → List Nat → Option (List Nat)
 | 0,_ => none
 | f + 1,o =>
  if leftTo some (isIn o) l.length = true then
   match nextTo l some (isIn o) l.length with
   | none => none
   | Option.some i => orderF l some f (o ++ [i])
  else Option.some o
def order (l : List Ru) (some : Nat → Bool) : Option (List Nat) := orderF l some (l.length + 1) []
theorem nextTo_some {l : List Ru} {some done : Nat → Bool} {m i : Nat} (h : nextTo l some done m = Option.some i) : i < m ∧ may l some done i = true := by
 unfold nextTo at h
 exact ⟨List.mem_range.1 (List.mem_of_find?_eq_some h),List.find?_some h⟩
end Ru
end Go.Proofs.YtdljhggillgpfaaGreatDoor
namespace Go.Proofs.YtdljhggillgpfaaGreatDoor
open Go.RowKit Go.Shelf Go.Lib
namespace Ru
def base (l : List Ru) (outs : List (List UInt8)) (k : Nat) : Bool :=
 match l[k]? with
 | some r => decide (r.out ∈ outs)
 | none => false
theorem base_eq {l : List Ru} {outs : List (List UInt8)} {k : Nat} (h : k < l.length) : base l outs k = decide (l[k].out ∈ outs) := by
 unfold base
 rw [List.getElem?_eq_getElem h]
structure Needed (l : List Ru) (outs : List (List UInt8)) (f : Nat → Bool) : Prop where
 start : ∀ k,base l outs k = true → f k = true
 closed : ∀ i k,f i = true → needs l i k = true → f k = true
 least : ∀ P : Nat → Prop,(∀ k,base l outs k = true → P k) → (∀ i k,P i → needs l i k = true → P k) → ∀ k,k < l.length → f k = true → P k
theorem Needed.unique {l : List Ru} {outs : List (List UInt8)} {f g : Nat → Bool} (hf : Needed l outs f) (hg : Needed l outs g) (k : Nat) (hk : k < l.length) : f k = g k := by
 rw [Bool.eq_iff_iff]
 exact ⟨hf.least (fun k => g k = true) hg.start hg.closed k hk,hg.least (fun k => f k = true) hf.start hf.closed k hk⟩
def cnt (f : Nat → Bool) : Nat → Nat
 | 0 => 0
 | n + 1 => cnt f n + (if f n = true then 1 else 0)
theorem base_lt {l : List Ru} {outs : List (List UInt8)} {k : Nat} (h : base l outs k = true) : k < l.length := by
 unfold base at h
 split at h
 ·rename_i r hr
  exact (List.getElem?_eq_some_iff.1 hr).1
 ·cases h
end Ru
end Go.Proofs.YtdljhggillgpfaaGreatDoor
namespace Go.Proofs.YtdljhggillgpfaaGreatDoor
namespace Cf
abbrev En : Type := List UInt8 × List UInt8
abbrev Ens : Type := List En
def keys (l : Ens) : List (List UInt8) := l.map (·.1)
def rm (l : Ens) (k : List UInt8) : Ens := l.filter fun e => !(e.1 == k)
def cut (many : Nat) (l : Ens) : Ens := if many < l.length then l.drop 1 else l
def put (many : Nat) (l : Ens) (k b : List UInt8) : Ens := cut many (rm l k ++ [(k,b)])
def find (l : Ens) (k : List UInt8) : Option (List UInt8) := (l.find? fun e => e.1 == k).map (·.2)
def get (many : Nat) (l : Ens) (k : List UInt8) : Ens := match find l k with | some b => put many l k b | none => l
theorem mem_rm {l : Ens} {k : List UInt8} {e : En} : e ∈ rm l k ↔ e ∈ l ∧ e.1 ≠ k := by simp [rm]
theorem rm_le (l : Ens) (k : List UInt8) : (rm l k).length ≤ l.length := List.length_filter_le _ _
theorem rm_sub (l : Ens) (k : List UInt8) : (rm l k).Sublist l := List.filter_sublist
theorem rm_none {l : Ens} {k : List UInt8} (h : k ∉ keys l) : rm l k = l := by
 unfold rm
 rw [List.filter_eq_self]
 intro e he
 have : e.1 ≠ k := fun x => h (List.mem_map.2 ⟨e,he,x⟩)
 simpa using this
theorem rm_ge {l : Ens} (h : (keys l).Nodup) (k : List UInt8) : l.length ≤ (rm l k).length + 1 := by
 induction l with
 | nil => simp
 | cons x t ih =>
  obtain ⟨h1,h2⟩ := List.nodup_cons.1 h
  by_cases e : x.1 = k
  ·have : rm (x :: t) k = rm t k := by unfold rm;rw [List.filter_cons_of_neg (by simp [e])]
   rw [this,rm_none (e ▸ h1)]
   simp
  ·have : rm (x :: t) k = x :: rm t k := by unfold rm;rw [List.filter_cons_of_pos (by simp [e])]
   rw [this]
   have := ih h2
   simp
   omega
theorem keys_sub {a b : Ens} (h : a.Sublist b) : (keys a).Sublist (keys b) := h.map _
theorem rm_once {l : Ens} (h : (keys l).Nodup) (k : List UInt8) : (keys (rm l k)).Nodup := (keys_sub (rm_sub l k)).nodup h
theorem rm_key (l : Ens) (k : List UInt8) : k ∉ keys (rm l k) := by
 intro h
 obtain ⟨e,he,hk⟩ := List.mem_map.1 h
 exact (mem_rm.1 he).2 hk
structure Ok (many : Nat) (l : Ens) : Prop where
 few : l.length ≤ many
 once : (keys l).Nodup
theorem Ok.nil (many : Nat) : Ok many [] := ⟨Nat.zero_le _,List.nodup_nil⟩
theorem put_once {l : Ens} (h : (keys l).Nodup) (k b : List UInt8) : (keys (rm l k ++ [(k,b)])).Nodup := by
 unfold keys
 rw [List.map_append,List.nodup_append]
 refine ⟨rm_once h k,by simp,fun x hx y hy => ?_⟩
 simp at hy
 subst hy
 rintro rfl
 exact rm_key l x hx
theorem Ok.put {many : Nat} {l : Ens} (h : Ok many l) (k b : List UInt8) : Ok many (Cf.put many l k b) := by
 have hl : (rm l k ++ [(k,b)]).length ≤ many + 1 := by
  rw [List.length_append,List.length_singleton]
  have := rm_le l k
  have := h.few
  omega
 have ho := put_once h.once k b
 unfold Cf.put cut
 split
 ·refine ⟨by rw [List.length_drop];omega,(keys_sub (List.drop_sublist 1 _)).nodup ho⟩
 ·exact ⟨by omega,ho⟩
theorem Ok.get {many : Nat} {l : Ens} (h : Ok many l) (k : List UInt8) : Ok many (Cf.get many l k) := by
 unfold Cf.get
 split
 ·exact h.put _ _
 ·exact h
theorem find_some {l : Ens} {k b : List UInt8} (h : find l k = some b) : (k,b) ∈ l := by
 unfold find at h
 cases hf : l.find? fun e => e.1 == k with
 | none => rw [hf] at h;cases h
 | some e =>
  rw [hf] at h
  have h1 := List.find?_some hf
  have h2 := List.mem_of_find?_eq_some hf
  have e1 : e.1 = k := by simpa using h1
  have e2 : e.2 = b := by simpa using h
  rw [← e1,← e2]
  exact h2
theorem find_none {l : Ens} {k : List UInt8} (h : find l k = none) : k ∉ keys l := by
 unfold find at h
 intro hk
 obtain ⟨e,he,e1⟩ := List.mem_map.1 hk
 have h0 : (l.find? fun e => e.1 == k) = none := by
  cases hf : l.find? fun e => e.1 == k with
  | none => rfl
  | some x => rw [hf] at h;cases h
 have := List.find?_eq_none.1 h0 e he
 simp at this
 exact this e1
theorem find_mem {l : Ens} (ho : (keys l).Nodup) {k b : List UInt8} (h : (k,b) ∈ l) : find l k = some b := by
 cases hf : find l k with
 | none => exact absurd (List.mem_map.2 ⟨_,h,rfl⟩) (find_none hf)
 | some c =>
  have h2 := find_some hf
  obtain ⟨i,hi,ei⟩ := List.getElem_of_mem h
  obtain ⟨j,hj,ej⟩ := List.getElem_of_mem h2
  have hp := List.pairwise_iff_getElem.1 ho
  have hki : ∀ m (hm : m < l.length),(keys l)[m]'(by simpa [keys] using hm) = l[m].1 := fun m hm => by simp [keys]
  rcases Nat.lt_trichotomy i j with h3 | h3 | h3
  ·exact absurd (by rw [hki i hi,hki j hj,ei,ej]) (hp i j (by simpa [keys] using hi) (by simpa [keys] using hj) h3)
  ·subst h3
   rw [ei] at ej
   rw [(Prod.mk.inj ej).2]
  ·exact absurd (by rw [hki i hi,hki j hj,ei,ej]) (hp j i (by simpa [keys] using hj) (by simpa [keys] using hi) h3)
theorem get_hit {many : Nat} {l : Ens} (h : Ok many l) {k b : List UInt8} (hf : find l k = some b) : Cf.get many l k = rm l k ++ [(k,b)] ∧ (Cf.get many l k).Perm l := by
 have hm := find_some hf
 have hl : (rm l k ++ [(k,b)]).Perm l := by
  refine (List.perm_ext_iff_of_nodup ?_ ?_).2 fun e => ?_
  ·have := put_once h.once k b
   exact List.Pairwise.of_map (S := fun a b => a ≠ b) (f := fun e : En => e.1) (fun a b hab e => hab (by rw [e])) this
  ·exact List.Pairwise.of_map (S := fun a b => a ≠ b) (f := fun e : En => e.1) (fun a b hab e => hab (by rw [e])) h.once
  ·rw [List.mem_append,List.mem_singleton,mem_rm]
   constructor
   ·rintro (h1 | rfl)
    ·exact h1.1
    ·exact hm
   ·intro he
    by_cases e1 : e.1 = k
    ·right
     have h1 : find l k = some e.2 := find_mem h.once (by rw [← e1];exact he)
     rw [hf] at h1
     rw [Option.some.inj h1,← e1]
    ·exact .inl ⟨he,e1⟩
 have hlen := hl.length_eq
 have hg : Cf.get many l k = rm l k ++ [(k,b)] := by
  unfold Cf.get Cf.put cut
  rw [hf]
  simp only
  rw [if_neg (by rw [hlen];have := h.few;omega)]
 exact ⟨hg,hg ▸ hl⟩
def recR : Ens → Ens
 | [] => []
 | x :: t => x :: rm (recR t) x.1
def kept (many : Nat) (A : Ens) : Ens := ((recR A.reverse).take many).reverse
theorem nodup_len {α : Type} [DecidableEq α] : ∀ {a b : List α},a.Nodup → (∀ x ∈ a,x ∈ b) → a.length ≤ b.length
 | [],_,_,_ => Nat.zero_le _
 | x :: r,b,hd,hs => by
  obtain ⟨hx,hr⟩ := List.nodup_cons.1 hd
  have hxb : x ∈ b := hs x (by simp)
  have := nodup_len (a := r) (b := b.erase x) hr fun y hy => by
   have hne : y ≠ x := fun e => hx (e ▸ hy)
   exact (List.mem_erase_of_ne hne).2 (hs y (List.mem_cons_of_mem _ hy))
  rw [List.length_erase_of_mem hxb] at this
  have hp := List.length_pos_of_mem hxb
  simp
  omega
end Cf
end Go.Proofs.YtdljhggillgpfaaGreatDoor
namespace Go.Proofs.YtdljhggillgpfaaGreatDoor
open Go.Lib
def Kp.piece (s : List UInt8) : List UInt8 := Lib.decDigits s.length ++ 58 :: s
def Kp.key (kind word : List UInt8) (ins : List (List UInt8)) : List UInt8 := Kp.piece kind ++ Kp.piece word ++ ins.flatMap Kp.piece
end Go.Proofs.YtdljhggillgpfaaGreatDoor
