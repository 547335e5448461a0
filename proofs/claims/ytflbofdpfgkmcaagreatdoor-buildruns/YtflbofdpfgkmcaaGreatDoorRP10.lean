import Derived.Test.YtflbofdpfgkmcaaGreatDoorRP09
import Derived.Deep.RegionHeld3
import Derived.Lib.SlicesCompact
set_option maxHeartbeats 4000000
namespace Go.Proofs.YtflbofdpfgkmcaaGreatDoor
open Go.RowKit Go.Extern.Stop Go.Stop Go.Extern
structure E12 (w : World) (es : Nat → Addr) : Prop where
 c0 : w.cell? ⟨0,0,none⟩ = some (.iface 380 (.pointer (some (es 0))))
 c1 : w.cell? ⟨6,0,none⟩ = some (.iface 380 (.pointer (some (es 1))))
 c2 : w.cell? ⟨1,0,none⟩ = some (.iface 380 (.pointer (some (es 2))))
 c3 : w.cell? ⟨7,0,none⟩ = some (.iface 380 (.pointer (some (es 3))))
 c4 : w.cell? ⟨8,0,none⟩ = some (.iface 380 (.pointer (some (es 4))))
 c5 : w.cell? ⟨2,0,none⟩ = some (.iface 380 (.pointer (some (es 5))))
 c6 : w.cell? ⟨9,0,none⟩ = some (.iface 380 (.pointer (some (es 6))))
 c7 : w.cell? ⟨10,0,none⟩ = some (.iface 380 (.pointer (some (es 7))))
 c8 : w.cell? ⟨11,0,none⟩ = some (.iface 380 (.pointer (some (es 8))))
 c9 : w.cell? ⟨3,0,none⟩ = some (.iface 380 (.pointer (some (es 9))))
 c10 : w.cell? ⟨5,0,none⟩ = some (.iface 380 (.pointer (some (es 10))))
 c11 : w.cell? ⟨4,0,none⟩ = some (.iface 380 (.pointer (some (es 11))))
 t : w.cell? ⟨12,0,none⟩ = some (.iface 307 (.agg #[.pointer (some ⟨21,25,none⟩)]))
 rows : ∀ k,k < 12 → ∃ c t,w.heap[(es k).block]? = some (.cells c t (0,0))
 inj : ∀ j k,j < 12 → k < 12 → j ≠ k → es j ≠ es k
theorem blt_of_cell {w : World} {a : Addr} {v : Value} (h : w.cell? a = some v) : a.block < w.heap.size := by
 rcases Nat.lt_or_ge a.block w.heap.size with h' | h'
 ·exact h'
 ·simp [World.cell?,Array.getElem?_eq_none h'] at h
theorem cell_below {w w' : World} {a : Addr} {v : Value} (h : w.cell? a = some v) (hb : Below w.heap.size w w') : w'.cell? a = some v := (hb.cell (p := a) (blt_of_cell h)).trans h
theorem row_below {w w' : World} {b : Nat} {o : Obj} (h : w.heap[b]? = some o) (hb : Below w.heap.size w w') : w'.heap[b]? = some o := (hb.block b (Array.getElem?_eq_some_iff.1 h).1).trans h
theorem E12.below {w w' : World} {es : Nat → Addr} (h : E12 w es) (hb : Below w.heap.size w w') : E12 w' es :=
 ⟨cell_below h.c0 hb,cell_below h.c1 hb,cell_below h.c2 hb,cell_below h.c3 hb,cell_below h.c4 hb,cell_below h.c5 hb,cell_below h.c6 hb,cell_below h.c7 hb,cell_below h.c8 hb,cell_below h.c9 hb,cell_below h.c10 hb,cell_below h.c11 hb,cell_below h.t hb,
  fun k hk => by obtain ⟨c,t,hc⟩ := h.rows k hk;exact ⟨c,t,row_below hc hb⟩,h.inj⟩
def codeOf (es : Nat → Addr) (x : Addr) : Int :=
 match (List.range 12).find? (fun k => decide (es k = x)) with
 | some k => (k : Int) + 1
 | none => -1
theorem codeOf_none {es : Nat → Addr} {x : Addr} (h : ∀ j,j < 12 → es j ≠ x) : codeOf es x = -1 := by
 have : (List.range 12).find? (fun k => decide (es k = x)) = none := by
  rw [List.find?_eq_none]
  intro k hk
  simpa using h k (List.mem_range.1 hk)
 unfold codeOf
 rw [this]
theorem codeOf_some {es : Nat → Addr} {x : Addr} {k : Nat} (hk : k < 12) (he : es k = x) (h : ∀ j,j < k → es j ≠ x) : codeOf es x = (k : Int) + 1 := by
 have : (List.range 12).find? (fun k => decide (es k = x)) = some k := by
  rw [List.find?_range_eq_some]
  simp [he,hk]
  exact fun j hj => h j hj
 unfold codeOf
 rw [this]
theorem Code_nil (w : World) : Calls Tryz.prog 73 #[.nilIface] w fun e w' => e = .returned (.tuple #[.int .i64 0,.int .i64 (-1)]) ∧ w' = w := by
 go_enter Tryz.func73,Tryz.ntmps73
 go_wp2
 go_ret2
 exact ⟨rfl,rfl⟩
def esV (es : Nat → Addr) : Array Value := #[.iface 380 (.pointer (some (es 0))),.iface 380 (.pointer (some (es 1))),.iface 380 (.pointer (some (es 2))),.iface 380 (.pointer (some (es 3))),.iface 380 (.pointer (some (es 4))),.iface 380 (.pointer (some (es 5))),.iface 380 (.pointer (some (es 6))),.iface 380 (.pointer (some (es 7))),.iface 380 (.pointer (some (es 8))),.iface 380 (.pointer (some (es 9))),.iface 380 (.pointer (some (es 10))),.iface 380 (.pointer (some (es 11)))]
theorem es_cells (es : Nat → Addr) (w : World) (k : Nat) (hk : k < 12) : (w.alloc (.cells (esV es) 25)).cell? ⟨w.heap.size,k,none⟩ = some (.iface 380 (.pointer (some (es k)))) := by
 have : k = 0 ∨ k = 1 ∨ k = 2 ∨ k = 3 ∨ k = 4 ∨ k = 5 ∨ k = 6 ∨ k = 7 ∨ k = 8 ∨ k = 9 ∨ k = 10 ∨ k = 11 := by omega
 rcases this with rfl | rfl | rfl | rfl | rfl | rfl | rfl | rfl | rfl | rfl | rfl | rfl <;> simp [esV]
theorem Code_ptr (x : Addr) (es : Nat → Addr) (cx : Array Value) (tx : TypeId) (w : World) (hE : E12 w es) (hx : w.heap[x.block]? = some (.cells cx tx (0,0))) :
  Calls Tryz.prog 73 #[.iface 380 (.pointer (some x))] w fun e w' => e = .returned (.tuple #[.int .i64 (codeOf es x),.int .i64 (-1)]) ∧ Below w.heap.size w w' := by
 have hB0 : Below w.heap.size w (w.alloc (.cells #[.pointer none] 169)) := (Below.refl _ w).alloc (Nat.le_refl _) _
 have hE0 := hE.below hB0
 go_enter Tryz.func73,Tryz.ntmps73
 go_wp2_with fail
 refine (as_miss x _ _ hE0.t).mono ?_
 rintro e w1 ⟨rfl,hb1'⟩
 have hB1 := hB0.trans (hb1'.mono hB0.size)
 have hE1 := hE.below hB1
 have hx1 := row_below hx hB1
 have k0 := hE1.c0;have k1 := hE1.c1;have k2 := hE1.c2;have k3 := hE1.c3;have k4 := hE1.c4;have k5 := hE1.c5
 have k6 := hE1.c6;have k7 := hE1.c7;have k8 := hE1.c8;have k9 := hE1.c9;have k10 := hE1.c10;have k11 := hE1.c11
 clear hE0 hB0 hb1'
 go_wp2
 have hB2 : Below w1.heap.size w1 (w1.alloc (.cells (esV es) 25)) := (Below.refl _ w1).alloc (Nat.le_refl _) _
 have hE2 := hE1.below hB2
 have hx2 := row_below hx1 hB2
 have hBB := hB1.trans (hB2.mono hB1.size)
 have hsl := es_cells es w1
 unfold esV at hB2 hE2 hx2 hBB hsl
 clear k0 k1 k2 k3 k4 k5 k6 k7 k8 k9 k10 k11 hE1 hB2 hx1 hE hx
 generalize w1.alloc _ = W2 at *
 have HE : Hid (E12 W2 es) := hE2
 clear hE2
 go_loop [3,30] (fun a i => a = .int .i64 (-1) ∧ ∃ k : Nat,k ≤ 12 ∧ i = .int .i64 k ∧ ∀ j,j < k → es j ≠ x) (fun _ i => 12 - (intOf i).toNat)
 case atStart => exact ⟨rfl,0,by omega,rfl,fun j hj => by omega⟩
 case round =>
  obtain ⟨rfl,k,hk,rfl,hno⟩ := hrel
  have HN : Hid (∀ j,j < k → es j ≠ x) := hno
  clear hno
  by_cases hlt : k < 12
  ·have hck := hsl k hlt
   have hlt' : (k : Int) < 12 := by omega
   have hk0 : (0 : Int) ≤ (k : Int) := by omega
   by_cases hek : es k = x
   ·have hc := codeOf_some hlt hek HN.out
    have HC : Hid (codeOf es x = (k : Int) + 1) := hc
    have HK : Hid (es k = x) := hek
    clear hc hsl hek
    go_wp2_with fail
    rw [HK.out]
    refine (is_same x _).mono ?_
    rintro e w' ⟨rfl,rfl⟩
    go_wp2
    go_ret2
    exact ⟨by rw [HC.out];rfl,hBB⟩
   ·obtain ⟨c,t,hr⟩ := HE.out.rows k hlt
    have hio := is_other x (es k) cx c tx t W2 (fun e => hek e.symm) hx2 hr
    have HI : Hid (Calls Tryz.prog 126 #[.iface 380 (.pointer (some x)),.iface 380 (.pointer (some (es k)))] W2 fun e w' => e = .returned (.bool false) ∧ w' = W2) := hio
    have HK : Hid (¬ es k = x) := hek
    clear hio hsl hek hr
    go_wp2_with fail
    refine HI.out.mono ?_
    rintro e w' ⟨rfl,rfl⟩
    go_wp2
    go_round
    case rel =>
     refine ⟨rfl,k + 1,by omega,by go_num,fun j hj => ?_⟩
     rcases Nat.lt_or_ge j k with h | h
     ·exact HN.out j h
     ·obtain rfl : j = k := by omega
      exact HK.out
    case measure => simp [intOf];omega
  ·have hc := codeOf_none (es := es) (x := x) (fun j hj => HN.out j (by omega))
   have HC : Hid (codeOf es x = -1) := hc
   have hge : (12 : Int) ≤ (k : Int) := by omega
   clear hc hsl
   go_wp2
   go_ret2
   exact ⟨by rw [HC.out];rfl,hBB⟩
theorem Tryz.elemOfP (w : World) : (Rtype.elem? 210).run Tryz.prog w = .ok (some 169) w := by kernel_rfl
theorem Tryz.mkF (p : Addr) (w : World) : (ReflectliteValue.mk 169 p ReflectliteValue.flagAddr).run Tryz.prog w = .ok (.agg #[.pointer (some ⟨21,169,none⟩),.pointer (some p),.int .u64 406]) w := by kernel_rfl
theorem Tryz.elemVP (a p : Addr) (W : World) (ha : W.cell? a = some (.pointer (some p))) :
  (ReflectliteValue.method (ReflectliteValue.valueError "reflectlite.Value.Elem" 0) ReflectliteValue.elem #[.agg #[.pointer (some ⟨21, 210, none⟩), .pointer (some a), .int .u64 150]]).run Tryz.prog W
   = .ok (.agg #[.pointer (some ⟨21,169,none⟩),.pointer (some p),.int .u64 406]) W := by
 rw [rlm]
 simp only [Sem.run_bind,Tryz.partsP,Result.andThen]
 simp [ReflectliteValue.elem,loadVar,isAgg,underlying,Tryz.underlying210,ha,Result.andThen,Tryz.elemOfP,Tryz.mkF]
theorem rls (v x : Value) : ReflectliteValue.set #[v,x] = (do
  let (some (dst,a,fl),some (src,b,_)) := (← ReflectliteValue.parts v,← ReflectliteValue.parts x)
   | unsupported (.noEntry "extern/(internal/reflectlite.Value).Set.zeroValue")
  if fl / ReflectliteValue.flagAddr % 2 == 0 then unsupported (.noEntry "extern/(internal/reflectlite.Value).Set.unaddressable")
  let val ← loadVar src b
  if ← Rtype.directlyAssignable dst src then storeVar dst a val
  else if ← Rtype.implements dst src then
   if (← Rtype.kind src) == 20 then
    match val with
    | .nilIface => unsupported (.noEntry "extern/reflectlite: a nil value of one interface type handed on as a value of another")
    | _ => storeVar dst a val
   else storeVar dst a (.iface src val)
  else panicString ("reflectlite.Set: value of type " ++ (← Rtype.spelt src) ++ " is not assignable to type " ++ (← Rtype.spelt dst))
  pure (.tuple #[])) := rfl
theorem Tryz.partsFa (a : Addr) (w : World) : (ReflectliteValue.parts (.agg #[.pointer (some ⟨21,169,none⟩),.pointer (some a),.int .u64 406])).run Tryz.prog w = .ok (some (169,a,406)) w := by kernel_rfl
theorem Tryz.partsF (a : Addr) (w : World) : (ReflectliteValue.parts (.agg #[.pointer (some ⟨21,169,none⟩),.pointer (some a),.int .u64 150])).run Tryz.prog w = .ok (some (169,a,150)) w := by kernel_rfl
theorem Tryz.directF (w : World) : (Rtype.directlyAssignable 169 169).run Tryz.prog w = .ok true w := by kernel_rfl
theorem Tryz.setF (ta b e : Addr) (old : Value) (W : World) (hb : W.cell? b = some (.pointer (some e))) (ht : W.cell? ta = some old) (hf : W.frozen? ta = false) :
  (ReflectliteValue.set #[.agg #[.pointer (some ⟨21,169,none⟩),.pointer (some ta),.int .u64 406],.agg #[.pointer (some ⟨21,169,none⟩),.pointer (some b),.int .u64 150]]).run Tryz.prog W
   = .ok (.tuple #[]) (W.setCell ta (.pointer (some e))) := by
 rw [rls]
 simp only [Sem.run_bind,Tryz.partsFa,Tryz.partsF,Result.andThen]
 simp [ReflectliteValue.flagAddr,loadVar,isAgg,underlying,Tryz.underlying169,hb,Result.andThen,Tryz.directF,storeVar,Value.cells,storeCells,Addr.add]
 rw [run_store Tryz.prog W ta _ _ (by rfl)]
 simp [ht,hf]
theorem as_hit (e t : Addr) (old : Value) (w : World) (hg : w.cell? ⟨12,0,none⟩ = some (.iface 307 (.agg #[.pointer (some ⟨21,25,none⟩)]))) (ht0 : w.cell? t = some old) (hf0 : w.frozen? t = false) :
  Calls Tryz.prog 125 #[.iface 169 (.pointer (some e)),.iface 210 (.pointer (some t))] w fun ev w' => ev = .returned (.bool true) ∧ w' = ((((w.alloc (.cells #[.pointer (some t)] 210)).alloc (.cells #[.pointer (some ⟨21,210,none⟩),.pointer (some ⟨w.heap.size,0,none⟩),.int .u64 150] 249)).alloc (.cells #[.pointer (some ⟨21,210,none⟩),.pointer (some ⟨w.heap.size,0,none⟩),.int .u64 150] 249)).alloc (.cells #[.pointer (some e)] 169)).setCell t (.pointer (some e)) := by
 have h8 := @run_callFunc_extern Tryz.prog 171 _ (ReflectliteValue.method (ReflectliteValue.valueError "reflectlite.Value.IsNil" 0) ReflectliteValue.isNil) Tryz.func171 (by kernel_rfl) (by kernel_rfl) (by kernel_rfl) (by kernel_rfl)
 have h11 := @run_callFunc_extern Tryz.prog 244 _ (ReflectliteValue.method (ReflectliteValue.valueError "reflectlite.Value.Elem" 0) ReflectliteValue.elem) Tryz.func244 (by kernel_rfl) (by kernel_rfl) (by kernel_rfl) (by kernel_rfl)
 have h12 := @run_callFunc_extern Tryz.prog 245 _ ReflectliteValue.set Tryz.func245 (by kernel_rfl) (by kernel_rfl) (by kernel_rfl) (by kernel_rfl)
 have tO := Tryz.typeOfF
 have mA := Tryz.methodAssignableTo
 have a25 := Tryz.assignableF
 have v25 := Tryz.valueOfF
 have f6 := Tryz.valueOfP
 have f7 := Tryz.typeP
 have mK := Tryz.methodKind
 have mE := Tryz.methodElem
 have mI := Tryz.methodImplements
 have k27 := Tryz.kindP
 have k25 := Tryz.kindF
 have e27 := Tryz.elemP
 have i25 := Tryz.implementsF
 have n8 := Tryz.isNilP ⟨w.heap.size,0,none⟩ t ((w.alloc (.cells #[.pointer (some t)] 210)).alloc (.cells #[.pointer (some ⟨21,210,none⟩),.pointer (some ⟨w.heap.size,0,none⟩),.int .u64 150] 249)) (by simp)
 have hlt : 12 < w.heap.size := by
  rcases Nat.lt_or_ge 12 w.heap.size with h | h
  ·exact h
  ·simp [World.cell?,Array.getElem?_eq_none h] at hg
 have hg2 : ((w.alloc (.cells #[.pointer (some t)] 210)).alloc (.cells #[.pointer (some ⟨21,210,none⟩),.pointer (some ⟨w.heap.size,0,none⟩),.int .u64 150] 249)).cell? ⟨12,0,none⟩ = some (.iface 307 (.agg #[.pointer (some ⟨21,25,none⟩)])) := by
  rw [World.cell?_alloc_lt _ _ ⟨12,0,none⟩ (by simp;omega),World.cell?_alloc_lt _ _ ⟨12,0,none⟩ hlt];exact hg
 have htl : t.block < w.heap.size := by
  rcases Nat.lt_or_ge t.block w.heap.size with h | h
  ·exact h
  ·simp [World.cell?,Array.getElem?_eq_none h] at ht0
 have el := Tryz.elemVP ⟨w.heap.size,0,none⟩ t (((w.alloc (.cells #[.pointer (some t)] 210)).alloc (.cells #[.pointer (some ⟨21,210,none⟩),.pointer (some ⟨w.heap.size,0,none⟩),.int .u64 150] 249)).alloc (.cells #[.pointer (some ⟨21,210,none⟩),.pointer (some ⟨w.heap.size,0,none⟩),.int .u64 150] 249)) (by rw [World.cell?_alloc_lt _ _ ⟨w.heap.size,0,none⟩ (by simp;omega)];simp)
 have st := Tryz.setF t ⟨w.heap.size + 1 + 1 + 1,0,none⟩ e old ((((w.alloc (.cells #[.pointer (some t)] 210)).alloc (.cells #[.pointer (some ⟨21,210,none⟩),.pointer (some ⟨w.heap.size,0,none⟩),.int .u64 150] 249)).alloc (.cells #[.pointer (some ⟨21,210,none⟩),.pointer (some ⟨w.heap.size,0,none⟩),.int .u64 150] 249)).alloc (.cells #[.pointer (some e)] 169))
  (by rw [World.cell?_alloc_at _ _ _ _ (by simp)];rfl)
  (by rw [World.cell?_alloc_lt _ _ t (by simp;omega),World.cell?_alloc_lt _ _ t (by simp;omega),World.cell?_alloc_lt _ _ t (by simp;omega),World.cell?_alloc_lt _ _ t htl];exact ht0)
  (by rw [World.frozen?_alloc_old _ _ t (by simp;omega),World.frozen?_alloc_old _ _ t (by simp;omega),World.frozen?_alloc_old _ _ t (by simp;omega),World.frozen?_alloc_old _ _ t (Nat.ne_of_lt htl)];exact hf0)
 go_enter Tryz.func125,Tryz.ntmps125
 go_wp2
 refine wp_loop_rounds 1 ?_
 rw [rounds_succ]
 go_wp2
 go_ret
 exact ⟨rfl,rfl⟩
theorem is_fault_same (pb : Nat) (b : Addr) (w : World) (h1 : w.cell? ⟨pb,1,none⟩ = some (.iface 380 (.pointer (some b)))) :
  Calls Tryz.prog 126 #[.iface 169 (.pointer (some ⟨pb,0,none⟩)),.iface 380 (.pointer (some b))] w fun e w' => e = .returned (.bool true) ∧ w' = w := by
 obtain ⟨i,hi,hcmp⟩ := Option.map_eq_some_iff.1 Tryz.isComp
 obtain ⟨j,hj,hjs⟩ := Option.map_eq_some_iff.1 Tryz.isSize
 have tT := Tryz.isTypeOf
 have cT := Tryz.isComparable
 have mR := Tryz.isMethodComparable
 have nF := Tryz.noIsF
 have uF := Tryz.hasUnwrapF
 have mU := Tryz.methodUnwrap
 have heq := run_eql_iface_ptr_same (P := Tryz.prog) w b Tryz.underlying25 Tryz.underlying380 hi hcmp hj
 have hty := run_eql_iface_types (P := Tryz.prog) 169 380 (.pointer (some ⟨pb,0,none⟩)) (.pointer (some b)) Tryz.underlying25 (by decide) w
 go_enter Tryz.func126,Tryz.ntmps126
 go_wp2
 refine wp_loop_rounds 2 ?_
 rw [rounds_succ]
 go_wp2
 rw [rounds_succ]
 go_wp2
 go_ret
 exact ⟨rfl,rfl⟩
theorem is_fault_other (pb : Nat) (a b : Addr) (ca cb : Array Value) (ta tb : TypeId) (w : World) (h1 : w.cell? ⟨pb,1,none⟩ = some (.iface 380 (.pointer (some a)))) (hne : a ≠ b) (ha : w.heap[a.block]? = some (.cells ca ta (0,0))) (hb : w.heap[b.block]? = some (.cells cb tb (0,0))) :
  Calls Tryz.prog 126 #[.iface 169 (.pointer (some ⟨pb,0,none⟩)),.iface 380 (.pointer (some b))] w fun e w' => e = .returned (.bool false) ∧ w' = w := by
 obtain ⟨i,hi,hcmp⟩ := Option.map_eq_some_iff.1 Tryz.isComp
 obtain ⟨j,hj,hjs⟩ := Option.map_eq_some_iff.1 Tryz.isSize
 have tT := Tryz.isTypeOf
 have cT := Tryz.isComparable
 have mR := Tryz.isMethodComparable
 have nF := Tryz.noIsF
 have uF := Tryz.hasUnwrapF
 have mU := Tryz.methodUnwrap
 have nE := Tryz.noIsE
 have uE := Tryz.noUnwrapE
 have vE := Tryz.noUnwrapsE
 have heq := run_eql_iface_ptr_other (P := Tryz.prog) w Tryz.underlying25 Tryz.underlying380 hi hcmp hj (by rw [hjs];decide) hne ha hb
 have hty := run_eql_iface_types (P := Tryz.prog) 169 380 (.pointer (some ⟨pb,0,none⟩)) (.pointer (some b)) Tryz.underlying25 (by decide) w
 go_enter Tryz.func126,Tryz.ntmps126
 go_wp2
 refine wp_loop_rounds 2 ?_
 rw [rounds_succ]
 go_wp2
 rw [rounds_succ]
 go_wp2
 go_ret
 exact ⟨rfl,rfl⟩
theorem Code_fault (pb : Nat) (n : Int) (m : Nat) (hm : m < 12) (es : Nat → Addr) (w : World) (hE : E12 w es)
  (h0 : w.cell? ⟨pb,0,none⟩ = some (.int .i64 n)) (h1 : w.cell? ⟨pb,1,none⟩ = some (.iface 380 (.pointer (some (es m))))) :
  Calls Tryz.prog 73 #[.iface 169 (.pointer (some ⟨pb,0,none⟩))] w fun e w' => e = .returned (.tuple #[.int .i64 ((m : Int) + 1),.int .i64 n]) ∧ Below w.heap.size w w' := by
 have hB0 : Below w.heap.size w (w.alloc (.cells #[.pointer none] 169)) := (Below.refl _ w).alloc (Nat.le_refl _) _
 have hE0 := hE.below hB0
 go_enter Tryz.func73,Tryz.ntmps73
 go_wp2_with fail
 refine (as_hit ⟨pb,0,none⟩ ⟨w.heap.size,0,none⟩ (.pointer none) _ hE0.t (by simp) (by simp)).mono ?_
 rintro e w1 ⟨rfl,hw1⟩
 have hB1 : Below w.heap.size w w1 := by
  rw [hw1]
  exact (((((hB0.alloc (by simp) _).alloc (by simp;omega) _).alloc (by simp;omega) _).alloc (by simp;omega) _).setCell (p := ⟨w.heap.size,0,none⟩) (Nat.le_refl _) _)
 have hc1 : w1.cell? ⟨w.heap.size,0,none⟩ = some (.pointer (some ⟨pb,0,none⟩)) := by
  rw [hw1]
  refine World.cell?_setCell_same' _ _ _ ?_
  rw [World.cell?_alloc_lt _ _ ⟨w.heap.size,0,none⟩ (by simp;omega),World.cell?_alloc_lt _ _ ⟨w.heap.size,0,none⟩ (by simp;omega),World.cell?_alloc_lt _ _ ⟨w.heap.size,0,none⟩ (by simp;omega),World.cell?_alloc_lt _ _ ⟨w.heap.size,0,none⟩ (by simp)]
  simp
 clear hw1
 have hE1 := hE.below hB1
 have g0 := cell_below h0 hB1
 have g1 := cell_below h1 hB1
 have k0 := hE1.c0;have k1 := hE1.c1;have k2 := hE1.c2;have k3 := hE1.c3;have k4 := hE1.c4;have k5 := hE1.c5
 have k6 := hE1.c6;have k7 := hE1.c7;have k8 := hE1.c8;have k9 := hE1.c9;have k10 := hE1.c10;have k11 := hE1.c11
 clear hE0 hB0
 go_wp2
 have hB2 : Below w1.heap.size w1 (w1.alloc (.cells (esV es) 25)) := (Below.refl _ w1).alloc (Nat.le_refl _) _
 have hE2 := hE1.below hB2
 have g2 := cell_below g1 hB2
 have hBB := hB1.trans (hB2.mono hB1.size)
 have hsl := es_cells es w1
 unfold esV at hB2 hE2 g2 hBB hsl
 clear k0 k1 k2 k3 k4 k5 k6 k7 k8 k9 k10 k11 hE1 hB2 hE g0 g1 h0 h1 hc1
 generalize w1.alloc _ = W2 at *
 have HE : Hid (E12 W2 es) := hE2
 clear hE2
 go_loop [3,30] (fun a i => a = .int .i64 n ∧ ∃ k : Nat,k ≤ m ∧ i = .int .i64 k) (fun _ i => 12 - (intOf i).toNat)
 case atStart => exact ⟨rfl,0,by omega,rfl⟩
 case round =>
  obtain ⟨rfl,k,hk,rfl⟩ := hrel
  have hlt : k < 12 := by omega
  have hck := hsl k hlt
  have hlt' : (k : Int) < 12 := by omega
  have hk0 : (0 : Int) ≤ (k : Int) := by omega
  by_cases hek : k = m
  ·subst hek
   clear hsl
   go_wp2_with fail
   refine (is_fault_same pb (es k) _ g2).mono ?_
   rintro e w' ⟨rfl,rfl⟩
   go_wp2
   go_ret2
   exact ⟨rfl,hBB⟩
  ·obtain ⟨c,t,hr⟩ := HE.out.rows k hlt
   obtain ⟨c',t',hr'⟩ := HE.out.rows m hm
   have hio := is_fault_other pb (es m) (es k) c' c t' t W2 g2 (HE.out.inj m k hm hlt (fun e => hek e.symm)) hr' hr
   have HI : Hid (Calls Tryz.prog 126 #[.iface 169 (.pointer (some ⟨pb,0,none⟩)),.iface 380 (.pointer (some (es k)))] W2 fun e w' => e = .returned (.bool false) ∧ w' = W2) := hio
   have hkm : k < m := by omega
   clear hio hsl hr hr' hek
   go_wp2_with fail
   refine HI.out.mono ?_
   rintro e w' ⟨rfl,rfl⟩
   go_wp2
   go_round
   case rel => exact ⟨rfl,k + 1,by omega,by go_num⟩
   case measure => simp [intOf];omega
end Go.Proofs.YtflbofdpfgkmcaaGreatDoor
namespace Go.Proofs.YtflbofdpfgkmcaaGreatDoor
open Go.RowKit
theorem codeOf_es {w : World} {es : Nat → Addr} (h : E12 w es) (k : Nat) (hk : k < 12) : codeOf es (es k) = (k : Int) + 1 :=
 codeOf_some hk rfl (fun j hj => h.inj j k (by omega) hk (by omega))
def erOf (es : Nat → Addr) : Nat → Value
 | 0 => .nilIface
 | k + 1 => .iface 380 (.pointer (some (es k)))
end Go.Proofs.YtflbofdpfgkmcaaGreatDoor
namespace Go.Proofs.YtflbofdpfgkmcaaGreatDoor
open Go.RowKit Go.Shelf Go.Lib
structure Caches0 (es : Nat → Addr) (At : (Nat → Prop) → World → Value → Nat → Cf.Ens → Prop) : Prop where
 same : ∀ (S : Nat → Prop) (W W' : World) v m l,At S W v m l → W.heap.size ≤ W'.heap.size → (∀ k,S k → W'.heap[k]? = W.heap[k]?) → At S W' v m l
 lt : ∀ (S : Nat → Prop) (W : World) v m l,At S W v m l → ∀ k,S k → k < W.heap.size
 make : ∀ (W : World) (m : Nat),1 ≤ m → m ≤ 100 → Calls Tryz.prog 62 #[.int .i64 m] W fun e w' => ∃ p S,e = .returned (.tuple #[.pointer (some p),.nilIface]) ∧ Below W.heap.size W w' ∧ At S w' (.pointer (some p)) m [] ∧ ∀ k,S k → W.heap.size ≤ k
 no : ∀ (W : World) (m : Int),-9223372036854775808 ≤ m → m ≤ 9223372036854775807 → (m < 1 ∨ 100 < m) → W.cell? ⟨6,0,none⟩ = some (erOf es 2) → Calls Tryz.prog 62 #[.int .i64 m] W fun e w' => e = .returned (.tuple #[.pointer none,erOf es 2]) ∧ Below W.heap.size W w'
 put : ∀ (S : Nat → Prop) (W : World) p m l (k b : List UInt8),At S W (.pointer (some p)) m l → 1 ≤ m → m ≤ 100 → Cf.Ok m l → k.length ≤ 100000 → b.length ≤ 100000 → Calls Tryz.prog 163 #[.pointer (some p),.string (ba k),.string (ba b)] W fun e w' => e = .returned (.tuple #[]) ∧ Only S W w' ∧ ∃ S',At S' w' (.pointer (some p)) m (Cf.put m l k b) ∧ ∀ j,S' j → S j ∨ W.heap.size ≤ j
 get : ∀ (S : Nat → Prop) (W : World) p m l (k : List UInt8),At S W (.pointer (some p)) m l → 1 ≤ m → m ≤ 100 → Cf.Ok m l → k.length ≤ 100000 → Calls Tryz.prog 162 #[.pointer (some p),.string (ba k)] W fun e w' => e = .returned (.tuple #[.string (ba ((Cf.find l k).getD [])),.bool (Cf.find l k).isSome]) ∧ Only S W w' ∧ ∃ S',At S' w' (.pointer (some p)) m (Cf.get m l k) ∧ ∀ j,S' j → S j ∨ W.heap.size ≤ j
def KeyTells (W0 : World) : Prop := ∀ (W : World),Below W0.heap.size W0 W → ∀ (kind word : List UInt8) v ins,XRow W v ins → kind.length ≤ 200 → word.length ≤ 200 → ins.length ≤ 12 → (∀ x ∈ ins,x.length ≤ 3000) → Calls Tryz.prog 161 #[.string (ba kind),.string (ba word),v] W fun e w' => e = .returned (.string (ba (Kp.key kind word ins))) ∧ Below W.heap.size W w'
end Go.Proofs.YtflbofdpfgkmcaaGreatDoor
namespace Go.Proofs.YtflbofdpfgkmcaaGreatDoor
open Go.RowKit Go.Shelf Go.Lib
namespace Af
def lines : List UInt8 → List (List UInt8)
 | [] => []
 | c :: r => if c = 10 then [] :: lines r else match lines r with
  | [] => [[c]]
  | p :: ps => (c :: p) :: ps
def told (l : List (List UInt8)) : List UInt8 := l.flatMap fun x => x ++ [10]
def all (l : List (List UInt8)) : List (List UInt8) := l.flatMap lines
def srt (l : List (List UInt8)) : List (List UInt8) := l.mergeSort fun x y => decide (x ≤ y)
theorem cut_lines (s : List UInt8) : cutB 10 s = (if s = [] then [[]] else if s.getLast? = some 10 then lines s ++ [[]] else lines s) := by
 induction s with
 | nil => rfl
 | cons c r ih =>
  rw [if_neg (List.cons_ne_nil c r)]
  by_cases hr : r = []
  ·subst hr
   by_cases hc : c = 10 <;> simp [hc,cutB,lines]
  ·rw [if_neg hr] at ih
   have hg : (c :: r).getLast? = r.getLast? := by
    cases r with
    | nil => exact absurd rfl hr
    | cons x y => exact List.getLast?_cons_cons
   rw [hg]
   have hl : lines r ≠ [] := by
    cases r with
    | nil => exact absurd rfl hr
    | cons x y =>
     unfold lines
     split
     ·simp
     ·split <;> simp
   by_cases hc : c = 10
   ·simp only [cutB,lines,if_pos hc,ih]
    split <;> simp
   ·simp only [cutB,lines,if_neg hc]
    by_cases h10 : r.getLast? = some 10
    ·rw [if_pos h10] at ih
     simp only [ih,if_pos h10]
     cases hL : lines r with
     | nil => exact absurd hL hl
     | cons p ps => simp
    ·rw [if_neg h10] at ih
     simp only [ih,if_neg h10]
     cases lines r <;> rfl
theorem lines_ne {s : List UInt8} (h : s ≠ []) : lines s ≠ [] := by
 cases s with
 | nil => exact absurd rfl h
 | cons x y =>
  unfold lines
  split
  ·simp
  ·split <;> simp
theorem lines_last : ∀ {s : List UInt8},s ≠ [] → s.getLast? ≠ some 10 → ∃ o l,lines s = o ++ [l] ∧ l ≠ []
 | [],h,_ => absurd rfl h
 | [c],_,h1 => by
  have hc : c ≠ 10 := by simpa using h1
  exact ⟨[],[c],by simp [lines,hc],by simp⟩
 | c :: x :: r,_,h1 => by
  obtain ⟨o,l,e,hl⟩ := lines_last (s := x :: r) (by simp) (by simpa using h1)
  unfold lines
  rw [e]
  by_cases hc : c = 10
  ·exact ⟨[] :: o,l,by simp [hc],hl⟩
  ·cases o with
   | nil => exact ⟨[],c :: l,by simp [hc],by simp⟩
   | cons p ps => exact ⟨(c :: p) :: ps,l,by simp [hc],hl⟩
theorem lines_of_cut (s : List UInt8) : ∃ o l,cutB 10 s = o ++ [l] ∧ lines s = (if l = [] then o else o ++ [l]) := by
 by_cases hs : s = []
 ·subst hs
  exact ⟨[],[],rfl,rfl⟩
 ·by_cases h1 : s.getLast? = some 10
  ·exact ⟨lines s,[],by rw [cut_lines,if_neg hs,if_pos h1],by simp⟩
  ·obtain ⟨o,l,e,hl⟩ := lines_last hs h1
   exact ⟨o,l,by rw [cut_lines,if_neg hs,if_neg h1,e],by rw [if_neg hl,e]⟩
theorem told_len : ∀ (l : List (List UInt8)),(told l).length = (l.map fun x => x.length + 1).sum
 | [] => rfl
 | x :: r => by
  have e : told (x :: r) = x ++ 10 :: told r := by simp [told]
  rw [e,List.length_append,List.length_cons,told_len r,List.map_cons,List.sum_cons]
  omega
theorem told_lines : ∀ (s : List UInt8),told (lines s) = s ∨ told (lines s) = s ++ [10]
 | [] => .inl rfl
 | c :: r => by
  have ih := told_lines r
  unfold lines
  by_cases hc : c = 10
  ·rw [if_pos hc]
   have e : told ([] :: lines r) = 10 :: told (lines r) := by simp [told]
   rw [e,hc]
   rcases ih with ih | ih <;> rw [ih] <;> simp
  ·rw [if_neg hc]
   cases hL : lines r with
   | nil =>
    have hr : r = [] := Classical.byContradiction fun h => lines_ne h hL
    subst hr
    right
    simp [told]
   | cons p ps =>
    rw [hL] at ih
    have e : told ((c :: p) :: ps) = c :: told (p :: ps) := by simp [told]
    simp only [e]
    rcases ih with ih | ih <;> rw [ih] <;> simp
theorem told_lines_len (s : List UInt8) : s.length ≤ (told (lines s)).length ∧ (told (lines s)).length ≤ s.length + 1 := by
 rcases told_lines s with h | h <;> rw [h] <;> simp
theorem lines_len (s : List UInt8) : (lines s).length ≤ s.length := by
 induction s with
 | nil => simp [lines]
 | cons c r ih =>
  unfold lines
  split
  ·simp;omega
  ·split
   ·simp
   ·next h => rw [h] at ih;simp at ih ⊢;omega
theorem mem_le_sum : ∀ {l : List Nat} {n : Nat},n ∈ l → n ≤ l.sum
 | [],_,h => by simp at h
 | x :: r,n,h => by
  rw [List.sum_cons]
  rcases List.mem_cons.1 h with rfl | h
  ·omega
  ·have := mem_le_sum h
   omega
theorem line_len {s x : List UInt8} (h : x ∈ lines s) : x.length ≤ s.length := by
 have h1 := told_lines s
 have h2 : x.length + 1 ≤ (told (lines s)).length := by
  rw [told_len]
  have : x.length + 1 ∈ (lines s).map fun x => x.length + 1 := List.mem_map.2 ⟨x,h,rfl⟩
  exact mem_le_sum this
 have := told_lines_len s
 omega
theorem srt_perm (l : List (List UInt8)) : (srt l).Perm l := List.mergeSort_perm _ _
theorem srt_sorted (l : List (List UInt8)) : (srt l).Pairwise (fun x y => x ≤ y) := by
 have := List.pairwise_mergeSort (le := fun (x y : List UInt8) => decide (x ≤ y)) (by intro a b c h1 h2;simp at *;exact List.le_trans h1 h2) (by intro a b;simp;exact List.le_total a b) l
 exact this.imp (by intro a b h;simpa using h)
theorem srt_eq {l l' : List (List UInt8)} (h : l.Perm l') : srt l = srt l' := by
 refine List.Perm.eq_of_pairwise (le := fun x y : List UInt8 => x ≤ y) ?_ (srt_sorted l) (srt_sorted l') ((srt_perm l).trans (h.trans (srt_perm l').symm))
 intro a b _ _ h1 h2
 exact List.le_antisymm h1 h2
theorem srt_of_sorted {l : List (List UInt8)} (h : l.Pairwise (fun x y => x ≤ y)) : srt l = l := by
 refine List.Perm.eq_of_pairwise (le := fun x y : List UInt8 => x ≤ y) ?_ (srt_sorted l) h (srt_perm l)
 intro a b _ _ h1 h2
 exact List.le_antisymm h1 h2
theorem srt_len (l : List (List UInt8)) : (srt l).length = l.length := (srt_perm l).length_eq
theorem told_perm {l l' : List (List UInt8)} (h : l.Perm l') : (told l).length = (told l').length := by
 rw [told_len,told_len]
 exact (h.map _).sum_nat
theorem told_append (a b : List (List UInt8)) : told (a ++ b) = told a ++ told b := by simp [told]
theorem told_all_len : ∀ (l : List (List UInt8)),(told (all l)).length ≤ (l.map fun x => x.length + 1).sum
 | [] => by simp [all,told]
 | x :: r => by
  have h1 := told_all_len r
  have h2 := (told_lines_len x).2
  have e : all (x :: r) = lines x ++ all r := by simp [all]
  rw [e,told_append]
  simp
  omega
theorem compact_succ (zs : List (List UInt8)) (m : Nat) : compactUpTo zs.toArray (m + 1) = compactUpTo zs.toArray m ++ (if keeps zs.toArray m then [zs.toArray[m]!] else []) := compactUpTo_succ _ m
theorem compact_told_len (zs : List (List UInt8)) : ∀ m,m ≤ zs.length → (told (compactUpTo zs.toArray m)).length ≤ (told (zs.take m)).length
 | 0,_ => by simp [compactUpTo,told]
 | m + 1,h => by
  have ih := compact_told_len zs m (by omega)
  have hm : m < zs.length := by omega
  rw [compact_succ,told_append,List.take_succ_eq_append_getElem hm,told_append]
  simp only [List.length_append]
  split
  ·have e : zs.toArray[m]! = zs[m] := by simp [hm]
   rw [e]
   omega
  ·simp [told] at ih ⊢
   omega
end Af
end Go.Proofs.YtflbofdpfgkmcaaGreatDoor
