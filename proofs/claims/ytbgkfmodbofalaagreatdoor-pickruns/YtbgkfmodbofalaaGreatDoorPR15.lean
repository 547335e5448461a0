import Derived.Test.YtbgkfmodbofalaaGreatDoorPR14
import Derived.Test.YtbgkfmodbofalaaGreatDoorPR13
set_option maxRecDepth 100000
set_option maxHeartbeats 4000000
namespace Go.Proofs.YtbgkfmodbofalaaGreatDoor
section
open Go.RowKit Go.Extern.Stop Go.Stop Go.Extern
structure E12 (w : World) (es : Nat -> Addr) : Prop where
 c0 : w.cell? ⟨0,0,none⟩ = some (.iface 407 (.pointer (some (es 0))))
 c1 : w.cell? ⟨4,0,none⟩ = some (.iface 407 (.pointer (some (es 1))))
 c2 : w.cell? ⟨1,0,none⟩ = some (.iface 407 (.pointer (some (es 2))))
 c3 : w.cell? ⟨7,0,none⟩ = some (.iface 407 (.pointer (some (es 3))))
 c4 : w.cell? ⟨8,0,none⟩ = some (.iface 407 (.pointer (some (es 4))))
 c5 : w.cell? ⟨2,0,none⟩ = some (.iface 407 (.pointer (some (es 5))))
 c6 : w.cell? ⟨9,0,none⟩ = some (.iface 407 (.pointer (some (es 6))))
 c7 : w.cell? ⟨10,0,none⟩ = some (.iface 407 (.pointer (some (es 7))))
 c8 : w.cell? ⟨11,0,none⟩ = some (.iface 407 (.pointer (some (es 8))))
 c9 : w.cell? ⟨3,0,none⟩ = some (.iface 407 (.pointer (some (es 9))))
 c10 : w.cell? ⟨6,0,none⟩ = some (.iface 407 (.pointer (some (es 10))))
 c11 : w.cell? ⟨5,0,none⟩ = some (.iface 407 (.pointer (some (es 11))))
 t : w.cell? ⟨12,0,none⟩ = some (.iface 340 (.agg #[.pointer (some ⟨21,25,none⟩)]))
 rows : ∀ k,k < 12 -> ∃ c t,w.heap[(es k).block]? = some (.cells c t (0,0))
 inj : ∀ j k,j < 12 -> k < 12 -> j ≠ k -> es j ≠ es k
theorem Zqg {w : World} {a : Addr} {v : Value} (h : w.cell? a = some v) : a.block < w.heap.size := by
 rcases Nat.lt_or_ge a.block w.heap.size with h' | h'
 ·exact h'
 ·simp [World.cell?,Array.getElem?_eq_none h'] at h
theorem Zar {w w' : World} {a : Addr} {v : Value} (h : w.cell? a = some v) (hb : Below w.heap.size w w') : w'.cell? a = some v := (hb.cell (p := a) (Zqg h)).trans h
theorem Zav {w w' : World} {b : Nat} {o : Obj} (h : w.heap[b]? = some o) (hb : Below w.heap.size w w') : w'.heap[b]? = some o := (hb.block b (Array.getElem?_eq_some_iff.1 h).1).trans h
theorem E12.below {w w' : World} {es : Nat -> Addr} (h : E12 w es) (hb : Below w.heap.size w w') : E12 w' es :=
 ⟨Zar h.c0 hb,Zar h.c1 hb,Zar h.c2 hb,Zar h.c3 hb,Zar h.c4 hb,Zar h.c5 hb,Zar h.c6 hb,Zar h.c7 hb,Zar h.c8 hb,Zar h.c9 hb,Zar h.c10 hb,Zar h.c11 hb,Zar h.t hb,
  fun k hk => by obtain ⟨c,t,hc⟩ := h.rows k hk;exact ⟨c,t,Zav hc hb⟩,h.inj⟩
def codeOf (es : Nat -> Addr) (x : Addr) : Int :=
 match (List.range 12).find? (fun k => decide (es k = x)) with
 | some k => (k : Int) + 1
 | none => -1
theorem Zqa {es : Nat -> Addr} {x : Addr} (h : ∀ j,j < 12 -> es j ≠ x) : codeOf es x = -1 := by
 have : (List.range 12).find? (fun k => decide (es k = x)) = none := by
  rw [List.find?_eq_none];intro k hk
  simpa using h k (List.mem_range.1 hk)
 unfold codeOf;rw [this]
theorem Zhw {es : Nat -> Addr} {x : Addr} {k : Nat} (hk : k < 12) (he : es k = x) (h : ∀ j,j < k -> es j ≠ x) : codeOf es x = (k : Int) + 1 := by
 have : (List.range 12).find? (fun k => decide (es k = x)) = some k := by
  rw [List.find?_range_eq_some];simp [he,hk];exact fun j hj => h j hj
 unfold codeOf;rw [this]
theorem Zrp (w : World) : Calls Tryz.prog 96 #[.nilIface] w fun e w' => e = .returned (.tuple #[.int .i64 0,.int .i64 (-1)]) /\ w' = w := by
 go_enter Tryz.func96,Tryz.ntmps96
 go_wp2;go_ret2;exact ⟨rfl,rfl⟩
def esV (es : Nat -> Addr) : Array Value := #[.iface 407 (.pointer (some (es 0))),.iface 407 (.pointer (some (es 1))),.iface 407 (.pointer (some (es 2))),.iface 407 (.pointer (some (es 3))),.iface 407 (.pointer (some (es 4))),.iface 407 (.pointer (some (es 5))),.iface 407 (.pointer (some (es 6))),.iface 407 (.pointer (some (es 7))),.iface 407 (.pointer (some (es 8))),.iface 407 (.pointer (some (es 9))),.iface 407 (.pointer (some (es 10))),.iface 407 (.pointer (some (es 11)))]
theorem Zyl (es : Nat -> Addr) (w : World) (k : Nat) (hk : k < 12) : (w.alloc (.cells (esV es) 25)).cell? ⟨w.heap.size,k,none⟩ = some (.iface 407 (.pointer (some (es k)))) := by
 have : k = 0 \/ k = 1 \/ k = 2 \/ k = 3 \/ k = 4 \/ k = 5 \/ k = 6 \/ k = 7 \/ k = 8 \/ k = 9 \/ k = 10 \/ k = 11 := by omega
 rcases this with rfl | rfl | rfl | rfl | rfl | rfl | rfl | rfl | rfl | rfl | rfl | rfl <;> simp [esV]
theorem Zyx (x : Addr) (es : Nat -> Addr) (cx : Array Value) (tx : TypeId) (w : World) (hE : E12 w es) (hx : w.heap[x.block]? = some (.cells cx tx (0,0))) :
  Calls Tryz.prog 96 #[.iface 407 (.pointer (some x))] w fun e w' => e = .returned (.tuple #[.int .i64 (codeOf es x),.int .i64 (-1)]) /\ Below w.heap.size w w' := by
 have hB0 : Below w.heap.size w (w.alloc (.cells #[.pointer none] 188)) := (Below.refl _ w).alloc (Nat.le_refl _) _;have hE0 := hE.below hB0;go_enter Tryz.func96,Tryz.ntmps96
 go_wp2_with fail;refine (Zzq x _ _ hE0.t).mono ?_;rintro e w1 ⟨rfl,hb1'⟩;have hB1 := hB0.trans (hb1'.mono hB0.size);have hE1 := hE.below hB1;have hx1 := Zav hx hB1;have k0 := hE1.c0;have k1 := hE1.c1;have k2 := hE1.c2;have k3 := hE1.c3;have k4 := hE1.c4;have k5 := hE1.c5;have k6 := hE1.c6;have k7 := hE1.c7;have k8 := hE1.c8;have k9 := hE1.c9;have k10 := hE1.c10;have k11 := hE1.c11
 clear hE0 hB0 hb1';go_wp2;have hB2 : Below w1.heap.size w1 (w1.alloc (.cells (esV es) 25)) := (Below.refl _ w1).alloc (Nat.le_refl _) _;have hE2 := hE1.below hB2;have hx2 := Zav hx1 hB2;have hBB := hB1.trans (hB2.mono hB1.size);have hsl := Zyl es w1;unfold esV at hB2 hE2 hx2 hBB hsl;clear k0 k1 k2 k3 k4 k5 k6 k7 k8 k9 k10 k11 hE1 hB2 hx1 hE hx;generalize w1.alloc _ = W2 at *
 have HE : Hid (E12 W2 es) := hE2;clear hE2;go_loop [3,30] (fun a i => a = .int .i64 (-1) /\ ∃ k : Nat,k <= 12 /\ i = .int .i64 k /\ ∀ j,j < k -> es j ≠ x) (fun _ i => 12 - (intOf i).toNat)
 case atStart => exact ⟨rfl,0,by omega,rfl,fun j hj => by omega⟩
 case round =>
  obtain ⟨rfl,k,hk,rfl,hno⟩ := hrel;have HN : Hid (∀ j,j < k -> es j ≠ x) := hno
  clear hno;by_cases hlt : k < 12
  ·have hck := hsl k hlt;have hlt' : (k : Int) < 12 := by omega
   have hk0 : (0 : Int) <= (k : Int) := by omega
   by_cases hek : es k = x
   ·have hc := Zhw hlt hek HN.out;have HC : Hid (codeOf es x = (k : Int) + 1) := hc;have HK : Hid (es k = x) := hek;clear hc hsl hek;go_wp2_with fail;rw [HK.out];refine (Zzj x _).mono ?_;rintro e w' ⟨rfl,rfl⟩;go_wp2;go_ret2;exact ⟨by rw [HC.out];rfl,hBB⟩
   ·obtain ⟨c,t,hr⟩ := HE.out.rows k hlt;have hio := Zye x (es k) cx c tx t W2 (fun e => hek e.symm) hx2 hr
    have HI : Hid (Calls Tryz.prog 151 #[.iface 407 (.pointer (some x)),.iface 407 (.pointer (some (es k)))] W2 fun e w' => e = .returned (.bool false) /\ w' = W2) := hio
    have HK : Hid (¬ es k = x) := hek;clear hio hsl hek hr;go_wp2_with fail;refine HI.out.mono ?_;rintro e w' ⟨rfl,rfl⟩;go_wp2;go_round
    case rel =>
     refine ⟨rfl,k + 1,by omega,by go_num,fun j hj => ?_⟩
     rcases Nat.lt_or_ge j k with h | h
     ·exact HN.out j h
     ·obtain rfl : j = k := by omega
      exact HK.out
    case measure => simp [intOf];omega
  ·have hc := Zqa (es := es) (x := x) (fun j hj => HN.out j (by omega))
   have HC : Hid (codeOf es x = -1) := hc;have hge : (12 : Int) <= (k : Int) := by omega
   clear hc hsl;go_wp2;go_ret2;exact ⟨by rw [HC.out];rfl,hBB⟩
theorem Tryz.elemOfP (w : World) : (Rtype.elem? 229).run Tryz.prog w = .ok (some 188) w := by kernel_rfl
theorem Tryz.mkF (p : Addr) (w : World) : (ReflectliteValue.mk 188 p ReflectliteValue.flagAddr).run Tryz.prog w = .ok (.agg #[.pointer (some ⟨21,188,none⟩),.pointer (some p),.int .u64 406]) w := by kernel_rfl
theorem Tryz.elemVP (a p : Addr) (W : World) (ha : W.cell? a = some (.pointer (some p))) :
  (ReflectliteValue.method (ReflectliteValue.valueError "reflectlite.Value.Elem" 0) ReflectliteValue.elem #[.agg #[.pointer (some ⟨21, 229, none⟩), .pointer (some a), .int .u64 150]]).run Tryz.prog W
   = .ok (.agg #[.pointer (some ⟨21,188,none⟩),.pointer (some p),.int .u64 406]) W := by
 rw [rlm];simp only [Sem.run_bind,Tryz.partsP,Result.andThen];simp [ReflectliteValue.elem,loadVar,isAgg,underlying,Tryz.underlying229,ha,Result.andThen,Tryz.elemOfP,Tryz.mkF]
theorem rls (v x : Value) : ReflectliteValue.set #[v,x] = (do
  let (some (dst,a,fl),some (src,b,_)) := (<- ReflectliteValue.parts v,<- ReflectliteValue.parts x)
   | unsupported (.noEntry "extern/(internal/reflectlite.Value).Set.zeroValue")
  if fl / ReflectliteValue.flagAddr % 2 == 0 then unsupported (.noEntry "extern/(internal/reflectlite.Value).Set.unaddressable")
  let val <- loadVar src b
  if <- Rtype.directlyAssignable dst src then storeVar dst a val
  else if <- Rtype.implements dst src then
   if (<- Rtype.kind src) == 20 then
    match val with
    | .nilIface => unsupported (.noEntry "extern/reflectlite: a nil value of one interface type handed on as a value of another")
    | _ => storeVar dst a val
   else storeVar dst a (.iface src val)
  else panicString ("reflectlite.Set: value of type " ++ (<- Rtype.spelt src) ++ " is not assignable to type " ++ (<- Rtype.spelt dst))
  pure (.tuple #[])) := rfl
theorem Tryz.partsFa (a : Addr) (w : World) : (ReflectliteValue.parts (.agg #[.pointer (some ⟨21,188,none⟩),.pointer (some a),.int .u64 406])).run Tryz.prog w = .ok (some (188,a,406)) w := by kernel_rfl
theorem Tryz.partsF (a : Addr) (w : World) : (ReflectliteValue.parts (.agg #[.pointer (some ⟨21,188,none⟩),.pointer (some a),.int .u64 150])).run Tryz.prog w = .ok (some (188,a,150)) w := by kernel_rfl
theorem Tryz.directF (w : World) : (Rtype.directlyAssignable 188 188).run Tryz.prog w = .ok true w := by kernel_rfl
theorem Tryz.setF (ta b e : Addr) (old : Value) (W : World) (hb : W.cell? b = some (.pointer (some e))) (ht : W.cell? ta = some old) (hf : W.frozen? ta = false) :
  (ReflectliteValue.set #[.agg #[.pointer (some ⟨21,188,none⟩),.pointer (some ta),.int .u64 406],.agg #[.pointer (some ⟨21,188,none⟩),.pointer (some b),.int .u64 150]]).run Tryz.prog W
   = .ok (.tuple #[]) (W.setCell ta (.pointer (some e))) := by
 rw [rls];simp only [Sem.run_bind,Tryz.partsFa,Tryz.partsF,Result.andThen];simp [ReflectliteValue.flagAddr,loadVar,isAgg,underlying,Tryz.underlying188,hb,Result.andThen,Tryz.directF,storeVar,Value.cells,storeCells,Addr.add];rw [run_store Tryz.prog W ta _ _ (by rfl)]
 simp [ht,hf]
theorem as_hit (e t : Addr) (old : Value) (w : World) (hg : w.cell? ⟨12,0,none⟩ = some (.iface 340 (.agg #[.pointer (some ⟨21,25,none⟩)]))) (ht0 : w.cell? t = some old) (hf0 : w.frozen? t = false) :
  Calls Tryz.prog 150 #[.iface 188 (.pointer (some e)),.iface 229 (.pointer (some t))] w fun ev w' => ev = .returned (.bool true) /\ w' = ((((w.alloc (.cells #[.pointer (some t)] 229)).alloc (.cells #[.pointer (some ⟨21,229,none⟩),.pointer (some ⟨w.heap.size,0,none⟩),.int .u64 150] 282)).alloc (.cells #[.pointer (some ⟨21,229,none⟩),.pointer (some ⟨w.heap.size,0,none⟩),.int .u64 150] 282)).alloc (.cells #[.pointer (some e)] 188)).setCell t (.pointer (some e)) := by
 have h8 := @run_callFunc_extern Tryz.prog 205 _ (ReflectliteValue.method (ReflectliteValue.valueError "reflectlite.Value.IsNil" 0) ReflectliteValue.isNil) Tryz.func205 (by kernel_rfl) (by kernel_rfl) (by kernel_rfl) (by kernel_rfl)
 have h11 := @run_callFunc_extern Tryz.prog 279 _ (ReflectliteValue.method (ReflectliteValue.valueError "reflectlite.Value.Elem" 0) ReflectliteValue.elem) Tryz.func279 (by kernel_rfl) (by kernel_rfl) (by kernel_rfl) (by kernel_rfl)
 have h12 := @run_callFunc_extern Tryz.prog 280 _ ReflectliteValue.set Tryz.func280 (by kernel_rfl) (by kernel_rfl) (by kernel_rfl) (by kernel_rfl)
 have tO := Tryz.typeOfF;have mA := Tryz.methodAssignableTo;have a25 := Tryz.assignableF;have v25 := Tryz.valueOfF;have f6 := Tryz.valueOfP;have f7 := Tryz.typeP;have mK := Tryz.methodKind;have mE := Tryz.methodElem;have mI := Tryz.methodImplements;have k27 := Tryz.kindP;have k25 := Tryz.kindF;have e27 := Tryz.elemP;have i25 := Tryz.implementsF
 have n8 := Tryz.isNilP ⟨w.heap.size,0,none⟩ t ((w.alloc (.cells #[.pointer (some t)] 229)).alloc (.cells #[.pointer (some ⟨21,229,none⟩),.pointer (some ⟨w.heap.size,0,none⟩),.int .u64 150] 282)) (by simp)
 have hlt : 12 < w.heap.size := by
  rcases Nat.lt_or_ge 12 w.heap.size with h | h
  ·exact h
  ·simp [World.cell?,Array.getElem?_eq_none h] at hg
 have hg2 : ((w.alloc (.cells #[.pointer (some t)] 229)).alloc (.cells #[.pointer (some ⟨21,229,none⟩),.pointer (some ⟨w.heap.size,0,none⟩),.int .u64 150] 282)).cell? ⟨12,0,none⟩ = some (.iface 340 (.agg #[.pointer (some ⟨21,25,none⟩)])) := by
  rw [World.cell?_alloc_lt _ _ ⟨12,0,none⟩ (by simp;omega),World.cell?_alloc_lt _ _ ⟨12,0,none⟩ hlt];exact hg
 have htl : t.block < w.heap.size := by
  rcases Nat.lt_or_ge t.block w.heap.size with h | h
  ·exact h
  ·simp [World.cell?,Array.getElem?_eq_none h] at ht0
 have el := Tryz.elemVP ⟨w.heap.size,0,none⟩ t (((w.alloc (.cells #[.pointer (some t)] 229)).alloc (.cells #[.pointer (some ⟨21,229,none⟩),.pointer (some ⟨w.heap.size,0,none⟩),.int .u64 150] 282)).alloc (.cells #[.pointer (some ⟨21,229,none⟩),.pointer (some ⟨w.heap.size,0,none⟩),.int .u64 150] 282)) (by rw [World.cell?_alloc_lt _ _ ⟨w.heap.size,0,none⟩ (by simp;omega)];simp)
 have st := Tryz.setF t ⟨w.heap.size + 1 + 1 + 1,0,none⟩ e old ((((w.alloc (.cells #[.pointer (some t)] 229)).alloc (.cells #[.pointer (some ⟨21,229,none⟩),.pointer (some ⟨w.heap.size,0,none⟩),.int .u64 150] 282)).alloc (.cells #[.pointer (some ⟨21,229,none⟩),.pointer (some ⟨w.heap.size,0,none⟩),.int .u64 150] 282)).alloc (.cells #[.pointer (some e)] 188))
  (by rw [World.cell?_alloc_at _ _ _ _ (by simp)];rfl)
  (by rw [World.cell?_alloc_lt _ _ t (by simp;omega),World.cell?_alloc_lt _ _ t (by simp;omega),World.cell?_alloc_lt _ _ t (by simp;omega),World.cell?_alloc_lt _ _ t htl];exact ht0)
  (by rw [World.frozen?_alloc_old _ _ t (by simp;omega),World.frozen?_alloc_old _ _ t (by simp;omega),World.frozen?_alloc_old _ _ t (by simp;omega),World.frozen?_alloc_old _ _ t (Nat.ne_of_lt htl)];exact hf0)
 go_enter Tryz.func150,Tryz.ntmps150
 go_wp2;refine wp_loop_rounds 1 ?_;rw [rounds_succ];go_wp2;go_ret;exact ⟨rfl,rfl⟩
end
section
open Go.RowKit
theorem Zwt {w : World} {es : Nat -> Addr} (h : E12 w es) (k : Nat) (hk : k < 12) : codeOf es (es k) = (k : Int) + 1 :=
 Zhw hk rfl (fun j hj => h.inj j k (by omega) hk (by omega))
def erOf (es : Nat -> Addr) : Nat -> Value
 | 0 => .nilIface
 | k + 1 => .iface 407 (.pointer (some (es k)))
end
section
open Go.RowKit Go.Shelf Go.Lib
structure Zzu (es : Nat -> Addr) (At : (Nat -> Prop) -> World -> Value -> Nat -> Cf.Ens -> Prop) : Prop where
 same : ∀ (S : Nat -> Prop) (W W' : World) v m l,At S W v m l -> W.heap.size <= W'.heap.size -> (∀ k,S k -> W'.heap[k]? = W.heap[k]?) -> At S W' v m l
 lt : ∀ (S : Nat -> Prop) (W : World) v m l,At S W v m l -> ∀ k,S k -> k < W.heap.size
 make : ∀ (W : World) (m : Nat),1 <= m -> m <= 100 -> Calls Tryz.prog 61 #[.int .i64 m] W fun e w' => ∃ p S,e = .returned (.tuple #[.pointer (some p),.nilIface]) /\ Below W.heap.size W w' /\ At S w' (.pointer (some p)) m [] /\ ∀ k,S k -> W.heap.size <= k
 no : ∀ (W : World) (m : Int),-9223372036854775808 <= m -> m <= 9223372036854775807 -> (m < 1 \/ 100 < m) -> W.cell? ⟨4,0,none⟩ = some (erOf es 2) -> Calls Tryz.prog 61 #[.int .i64 m] W fun e w' => e = .returned (.tuple #[.pointer none,erOf es 2]) /\ Below W.heap.size W w'
 put : ∀ (S : Nat -> Prop) (W : World) p m l (k b : List UInt8),At S W (.pointer (some p)) m l -> 1 <= m -> m <= 100 -> Cf.Ok m l -> k.length <= 100000 -> b.length <= 100000 -> Calls Tryz.prog 186 #[.pointer (some p),.string (ba k),.string (ba b)] W fun e w' => e = .returned (.tuple #[]) /\ Only S W w' /\ ∃ S',At S' w' (.pointer (some p)) m (Cf.put m l k b) /\ ∀ j,S' j -> S j \/ W.heap.size <= j
 get : ∀ (S : Nat -> Prop) (W : World) p m l (k : List UInt8),At S W (.pointer (some p)) m l -> 1 <= m -> m <= 100 -> Cf.Ok m l -> k.length <= 100000 -> Calls Tryz.prog 185 #[.pointer (some p),.string (ba k)] W fun e w' => e = .returned (.tuple #[.string (ba ((Cf.find l k).getD [])),.bool (Cf.find l k).isSome]) /\ Only S W w' /\ ∃ S',At S' w' (.pointer (some p)) m (Cf.get m l k) /\ ∀ j,S' j -> S j \/ W.heap.size <= j
def Zro (W0 : World) : Prop := ∀ (W : World),Below W0.heap.size W0 W -> ∀ (kind word : List UInt8) v ins,XRow W v ins -> kind.length <= 200 -> word.length <= 200 -> ins.length <= 12 -> (∀ x ∈ ins,x.length <= 3000) -> Calls Tryz.prog 184 #[.string (ba kind),.string (ba word),v] W fun e w' => e = .returned (.string (ba (Kp.key kind word ins))) /\ Below W.heap.size W w'
end
section
open Go.RowKit Go.Shelf Go.Lib
theorem E12.ae {w : World} {es : Nat -> Addr} (h : E12 w es) (hm : ∃ m,w.cell? ⟨14,0,none⟩ = some (.int .i64 m)) (hP : Pow w) (hS : SynAt w) (hb : 20 < w.heap.size) : AE w (erOf es) :=
 ⟨⟨hm,hP,h.c2,h.c9,hb⟩,hS,h.c4,fun _ => ⟨_,_,rfl⟩,rfl⟩
theorem AE.stays {w W : World} {er : Nat -> Value} (h : AE w er) (hb : Below w.heap.size w W) : AE W er := by
 have h0 := h.aw.big;exact ⟨h.aw.stays hb,h.syn.below hb,(Zal hb (by omega)).trans h.kind,h.iface,h.zero⟩
theorem Zzr (nm wd : List UInt8) (n : Int) : Af.actE nm wd n = 0 \/ ∃ k,k < 12 /\ Af.actE nm wd n = k + 1 := by
 unfold Af.actE;split
 ·exact .inr ⟨4,by omega,rfl⟩
 ·split
  ·exact .inr ⟨2,by omega,rfl⟩
  ·split
   ·exact .inr ⟨9,by omega,rfl⟩
   ·exact .inl rfl
end
section
open Go.RowKit Go.Shelf Go.Lib
namespace Ru
def twiceAt (r : Ru) (i : Nat) : Bool := decide (r.ins[i]? = some r.out) || decide (∃ x ∈ r.ins.take i,r.ins[i]? = some x)
def twice (r : Ru) : Bool := (List.range r.ins.length).any r.twiceAt
def err (r : Ru) : Nat :=
 if pathB r.out = false then 4
 else if Af.actE r.kind r.word r.ins.length ≠ 0 then Af.actE r.kind r.word r.ins.length
 else if r.ins.all pathB = false then 4
 else if r.twice = true then 7 else 0
def errAt (l : List Ru) (i : Nat) : Nat :=
 match l[i]? with
 | some r => if r.err ≠ 0 then r.err else if r.out ∈ (l.take i).map Ru.out then 7 else 0
 | none => 0
def fault (l : List Ru) : Nat × Int :=
 if 40 < l.length then (2,-1) else match first (errAt l) l.length with | some k => (errAt l k,(k : Int)) | none => (0,-1)
theorem fault_many {l : List Ru} (h : 40 < l.length) : fault l = (2,-1) := by unfold fault;rw [if_pos h]
theorem fault_none {l : List Ru} (h0 : l.length <= 40) (h : ∀ j,j < l.length -> errAt l j = 0) : fault l = (0,-1) := by
 unfold fault;rw [if_neg (by omega),Zka h]
theorem fault_some {l : List Ru} {m : Nat} (h0 : l.length <= 40) (hm : m < l.length) (hc : errAt l m ≠ 0) (h : ∀ j,j < m -> errAt l j = 0) : fault l = (errAt l m,(m : Int)) := by
 unfold fault;rw [if_neg (by omega),Zjz hm hc h]
theorem twice_iff {r : Ru} : r.twice = true ↔ ∃ i,i < r.ins.length /\ r.twiceAt i = true := by
 unfold twice;simp [List.any_eq_true]
theorem twiceAt_eq {r : Ru} {i : Nat} (h : i < r.ins.length) : r.twiceAt i = (decide (r.ins[i] = r.out) || decide (r.ins[i] ∈ r.ins.take i)) := by
 unfold twiceAt;rw [List.getElem?_eq_getElem h];congr 1
 ·simp
 ·rw [decide_eq_decide];constructor
  ·rintro ⟨x,hx,e⟩;rw [Option.some.inj e];exact hx
  ·exact fun hx => ⟨_,hx,rfl⟩
theorem errAt_eq {l : List Ru} {i : Nat} (h : i < l.length) : errAt l i = if l[i].err ≠ 0 then l[i].err else if l[i].out ∈ (l.take i).map Ru.out then 7 else 0 := by
 unfold errAt;rw [List.getElem?_eq_getElem h]
theorem err_le (r : Ru) : r.err = 0 \/ ∃ k,k < 12 /\ r.err = k + 1 := by
 unfold err;split
 ·exact .inr ⟨3,by omega,rfl⟩
 ·split
  ·exact Zzr _ _ _
  ·split
   ·exact .inr ⟨3,by omega,rfl⟩
   ·split
    ·exact .inr ⟨6,by omega,rfl⟩
    ·exact .inl rfl
theorem errAt_le (l : List Ru) (i : Nat) : errAt l i = 0 \/ ∃ k,k < 12 /\ errAt l i = k + 1 := by
 unfold errAt;split
 ·split
  ·exact err_le _
  ·split
   ·exact .inr ⟨6,by omega,rfl⟩
   ·exact .inl rfl
 ·exact .inl rfl
end Ru
def ErrV (w : World) (es : Nat -> Addr) (v : Value) (f : Nat × Int) : Prop :=
 (f.2 = -1 /\ v = erOf es f.1 /\ f.1 <= 12) \/ (∃ pb m,v = .iface 188 (.pointer (some ⟨pb,0,none⟩)) /\ m < 12 /\ f.1 = m + 1 /\ w.cell? ⟨pb,0,none⟩ = some (.int .i64 f.2) /\ w.cell? ⟨pb,1,none⟩ = some (erOf es f.1))
theorem ErrV.below {w w' : World} {es : Nat -> Addr} {v : Value} {f : Nat × Int} (h : ErrV w es v f) (hb : Below w.heap.size w w') : ErrV w' es v f := by
 rcases h with h | ⟨pb,m,e,hm,h0,h1,h2⟩
 ·exact .inl h
 ·exact .inr ⟨pb,m,e,hm,h0,Zaa h1 hb,Zaa h2 hb⟩
theorem ErrV.nil {w : World} {es : Nat -> Addr} : ErrV w es .nilIface (0,-1) := .inl ⟨rfl,rfl,by simp⟩
theorem ErrV.bare {w : World} {es : Nat -> Addr} {c : Nat} (h : c <= 12) : ErrV w es (erOf es c) (c,-1) := .inl ⟨rfl,rfl,h⟩
structure ES (w : World) (es : Nat -> Addr) : Prop where
 c1 : w.cell? ⟨4,0,none⟩ = some (.iface 407 (.pointer (some (es 1))))
 c3 : w.cell? ⟨7,0,none⟩ = some (.iface 407 (.pointer (some (es 3))))
 c6 : w.cell? ⟨9,0,none⟩ = some (.iface 407 (.pointer (some (es 6))))
 t : w.cell? ⟨12,0,none⟩ = some (.iface 340 (.agg #[.pointer (some ⟨21,25,none⟩)]))
theorem ES.below {w w' : World} {es : Nat -> Addr} (h : ES w es) (hb : Below w.heap.size w w') : ES w' es :=
 ⟨Zaa h.c1 hb,Zaa h.c3 hb,Zaa h.c6 hb,Zaa h.t hb⟩
theorem E12.es {w : World} {es : Nat -> Addr} (h : E12 w es) : ES w es := ⟨h.c1,h.c3,h.c6,h.t⟩
end
section
open Go.RowKit Go.Shelf Go.Lib Go.Extern.Stop Go.Stop Go.Extern
def Told (w : World) (es : Nat -> Addr) (n : Nat) (c : Nat -> Nat) (u : Value) : Prop :=
 ((∀ j,j < n -> c j = 0) /\ u = .nilIface) \/ ∃ k pb,k < n /\ c k ≠ 0 /\ (∀ j,j < k -> c j = 0) /\ u = .iface 188 (.pointer (some ⟨pb,0,none⟩)) /\ w.cell? ⟨pb,0,none⟩ = some (.int .i64 k) /\ w.cell? ⟨pb,1,none⟩ = some (erOf es (c k))
theorem Zep {w : World} {es : Nat -> Addr} (v : Value) (l : List (List UInt8)) (hrow : XRow w v l) (hl : l.length <= 1000000) (f : Nat) (caps : Array Value) (eg : ∀ args w,(callFunc f args).run Tryz.prog w = .ok (.enter f args) w) (c : Nat -> Nat)
  (HS : Hid (∀ k (hk : k < l.length) W,Below w.heap.size w W -> Calls Tryz.prog f (#[.int .i64 k,.string (ba l[k])] ++ caps) W fun e w' => e = .returned (erOf es (c k)) /\ Below W.heap.size W w')) :
  Calls Tryz.prog 270 #[v,.func (.func f) #[] caps] w fun e w' => ∃ u,e = .returned u /\ Below w.heap.size w w' /\ Told w' es l.length c u := by
 obtain ⟨p,cap,rfl,hcap,_,hin⟩ := hrow;have HI := hid1 hin;clear hin;have zl : (l.length : Int) <= 1000000 := by omega
 go_enter Tryz.func270,Tryz.ntmps270
 go_wp2;go_loopw [10] (fun i wr => ∃ k : Nat,k <= l.length /\ i = .int .i64 k /\ (∀ j,j < k -> c j = 0) /\ Below w.heap.size w wr) (fun i _ => l.length - (intOf i).toNat)
 case atStart => exact ⟨0,Nat.zero_le _,rfl,fun j h => by omega,Below.refl _ _⟩
 case round =>
  obtain ⟨k,hk,rfl,hz,hB⟩ := hrel;have HZ := hid1 hz;clear hz;have c0 : (0 : Int) <= (k : Int) := by omega
  by_cases hlt : k < l.length
  ·have c1 : (k : Int) < (l.length : Int) := by omega
   obtain ⟨g',o,rfl,hg,hcur⟩ := HI.out (by intro e;rw [e] at hlt;simp at hlt)
   have hcell := (hB.cell (p := ⟨g',o + k,none⟩) hg).trans (hcur k hlt);have HC := HS.out k hlt wr hB;clear hcur HI HS;generalize l[k] = y at *;cases hc : c k with
   | zero =>
    rw [hc] at HC;simp only [erOf] at HC;have HN : Hid (∀ j,j < k + 1 -> c j = 0) := hid1 fun j hj => by
     rcases Nat.lt_or_ge j k with h | h
     ·exact HZ.out j h
     ·obtain rfl : j = k := by omega
      exact hc
    clear hc HZ;go_wp2_with fail;refine Calls.mono HC ?_;rintro e w1 ⟨rfl,hb1⟩;clear HC;go_wp2;exact ⟨⟨k + 1,by omega,by go_num,HN.out,Zab hB hb1⟩,by simp [intOf];omega⟩
   | succ m =>
    rw [hc] at HC;have HE := hid1 hc;clear hc;simp only [erOf] at HC;go_wp2_with fail;refine Calls.mono HC ?_;rintro e w1 ⟨rfl,hb1⟩;clear HC;go_wp2;go_ret;refine ⟨_,rfl,(Zab hB hb1).alloc (Zab hB hb1).size _,.inr ⟨k,w1.heap.size,hlt,by rw [HE.out];omega,HZ.out,rfl,?_,?_⟩⟩
    ·simp
    ·rw [HE.out];simp [erOf]
  ·have c1 : (l.length : Int) <= (k : Int) := by omega
   have HN : Hid (∀ j,j < l.length -> c j = 0) := hid1 fun j hj => HZ.out j (by omega)
   clear HI HS HZ;go_wp2;go_ret;exact ⟨_,rfl,hB,.inl ⟨HN.out,rfl⟩⟩
theorem as_nil (t : Value) (w : World) : Calls Tryz.prog 150 #[.nilIface,t] w fun e w' => e = .returned (.bool false) /\ w' = w := by
 go_enter Tryz.func150,Tryz.ntmps150
 go_wp2;go_ret;exact ⟨rfl,rfl⟩
theorem Zyt (w : World) : Calls Tryz.prog 272 #[.nilIface] w fun e w' => e = .returned .nilIface /\ Below w.heap.size w w' := by
 have HA := hid1 fun t W => as_nil t W
 go_enter Tryz.func272,Tryz.ntmps272
 go_wp2_with fail;refine (HA.out _ _).mono ?_;rintro e w1 ⟨rfl,rfl⟩;go_wp2;go_ret;exact ⟨rfl,(Below.refl _ w).alloc (Nat.le_refl _) _⟩
theorem Ztt {w : World} {es : Nat -> Addr} (hE : ES w es) (pb : Nat) (t : TypeId) (u : Value) (h1 : w.cell? ⟨pb,1,none⟩ = some (.iface t u)) :
  Calls Tryz.prog 272 #[.iface 188 (.pointer (some ⟨pb,0,none⟩))] w fun e w' => e = .returned (.iface t u) /\ Below w.heap.size w w' := by
 have hB0 : Below w.heap.size w (w.alloc (.cells #[.pointer none] 188)) := (Below.refl _ w).alloc (Nat.le_refl _) _;have hE0 := hE.below hB0;go_enter Tryz.func272,Tryz.ntmps272
 go_wp2_with fail;refine (as_hit ⟨pb,0,none⟩ ⟨w.heap.size,0,none⟩ (.pointer none) _ hE0.t (by simp) (by simp)).mono ?_
 rintro e w1 ⟨rfl,hw1⟩;have hB1 : Below w.heap.size w w1 := by
  rw [hw1];exact (((((hB0.alloc (by simp) _).alloc (by simp;omega) _).alloc (by simp;omega) _).alloc (by simp;omega) _).setCell (p := ⟨w.heap.size,0,none⟩) (Nat.le_refl _) _)
 have hc1 : w1.cell? ⟨w.heap.size,0,none⟩ = some (.pointer (some ⟨pb,0,none⟩)) := by
  rw [hw1];refine World.cell?_setCell_same' _ _ _ ?_
  rw [World.cell?_alloc_lt _ _ ⟨w.heap.size,0,none⟩ (by simp;omega),World.cell?_alloc_lt _ _ ⟨w.heap.size,0,none⟩ (by simp;omega),World.cell?_alloc_lt _ _ ⟨w.heap.size,0,none⟩ (by simp;omega),World.cell?_alloc_lt _ _ ⟨w.heap.size,0,none⟩ (by simp)]
  simp
 clear hw1;have g1 := Zar h1 hB1;clear hE0 hB0 h1 hE;go_wp2;go_ret;exact ⟨rfl,hB1⟩
theorem Zxa {w : World} {es : Nat -> Addr} (hE : ES w es) {n : Nat} {c : Nat -> Nat} {u : Value} (h : Told w es n c u) :
  Calls Tryz.prog 272 #[u] w fun e w' => e = .returned (erOf es (Ru.firstC c n)) /\ Below w.heap.size w w' := by
 rcases h with ⟨h0,rfl⟩ | ⟨k,pb,hk,hc,h0,rfl,_,h1⟩
 ·rw [Ru.firstC_none h0];exact Zyt w
 ·rw [Ru.firstC_some hk hc h0];obtain ⟨m,hm⟩ : ∃ m,c k = m + 1 := ⟨c k - 1,by omega⟩
  rw [hm] at h1 ⊢;exact Ztt hE pb _ _ h1
end
section
open Go.RowKit Go.Shelf Go.Lib
theorem Zjp {w : World} {es : Nat -> Addr} (hE : ES w es) (s : List UInt8) (hs : s.length <= 1000000) :
  Calls Tryz.prog 155 #[.string (ba s)] w fun e w' => e = .returned (erOf es (if pathB s = false then 4 else 0)) /\ Below w.heap.size w w' := by
 cases h : pathB s with
 | true => exact Zdi s hs h w
 | false => exact Zrq s hs h w _ _ hE.c3
theorem Zin {w : World} {es : Nat -> Addr} (hE : ES w es) (k : Int) (s : List UInt8) (hs : s.length <= 1000000) :
  Calls Tryz.prog 271 #[.int .i64 k,.string (ba s)] w fun e w' => e = .returned (erOf es (if pathB s = false then 4 else 0)) /\ Below w.heap.size w w' := by
 have HC := hid1 (Zjp hE s hs);generalize erOf es (if pathB s = false then 4 else 0) = r at *
 clear hE;go_enter Tryz.func271,Tryz.ntmps271
 go_wp2_with fail;refine HC.out.mono ?_;rintro e w1 ⟨rfl,hb⟩;go_wp2;go_ret;exact ⟨rfl,hb⟩
theorem Ztn {w : World} (g o n cap : Nat) (l : List (List UInt8)) (x : List UInt8) (hn : n <= l.length) (hl : l.length <= 1000000) (hc : ∀ j (hj : j < l.length),w.cell? ⟨g,o + j,none⟩ = some (.string (ba l[j]))) :
  Calls Tryz.prog 274 #[.slice (some ⟨g,o,none⟩) n cap,.string (ba x)] w fun e w' => e = .returned (.bool (decide (x ∈ l.take n))) /\ w' = w := by
 have := Tryz.slices_Contains_string g o n cap (l.map ba) (ba x) w (by simpa using hn) (by omega) (fun j hj => by
  have hjl : j < l.length := by simpa using hj
  rw [hc j hjl];simp [hjl])
 have e : Lib.containsS ((l.map ba).take n) (ba x) = decide (x ∈ l.take n) := by
  rw [Bool.eq_iff_iff,Lib.containsS_iff,decide_eq_true_iff,<- List.map_take];simp only [List.mem_map];constructor
  ·rintro ⟨y,hy,e⟩;have : y = x := by
    have := congrArg (·.data.toList) e;simpa [ba] using this
   rw [<- this];exact hy
  ·exact fun h => ⟨x,h,rfl⟩
 rw [e] at this;exact this
theorem Zim {w : World} {es : Nat -> Addr} (hE : ES w es) (r : Ru) (b k : Nat) (hk : k < r.ins.length) (hl : r.ins.length <= 1000000) (hR : RuAt w b 0 r) :
  Calls Tryz.prog 273 #[.int .i64 k,.string (ba r.ins[k]),.pointer (some ⟨b,0,none⟩)] w fun e w' => e = .returned (erOf es (if r.twiceAt k = true then 7 else 0)) /\ Below w.heap.size w w' := by
 obtain ⟨h0,_,_,v,h3,p,cap,rfl,hcap,_,hin⟩ := hR;obtain ⟨g,o,rfl,hg,hcur⟩ := hin (by intro e;rw [e] at hk;simp at hk)
 have hx := hE.c6;have HC := hid1 (Ztn (w := w) g o k cap r.ins r.ins[k] (by omega) hl hcur)
 have HT := hid1 (Ru.twiceAt_eq hk);clear hin hcur hE;have z1 : (k : Int) <= (cap : Int) := by omega
 have z0 : (0 : Int) <= (k : Int) := by omega
 have z2 : (k : Int) <= 1000000 := by omega
 generalize r.ins[k] = x at *;generalize r.ins.length = n at *;rw [Nat.zero_add] at h3;by_cases he : x = r.out
 ·have HQ : Hid (r.twiceAt k = true) := hid1 (by rw [HT.out,he];simp)
  rw [HQ.out];clear HC HT;subst he;generalize r.out = y at *;go_enter Tryz.func273,Tryz.ntmps273
  go_wp2;go_ret;exact ⟨rfl,Below.refl _ _⟩
 ·have e1 : (x == r.out) = false := by simpa using he
  have HQ : Hid (r.twiceAt k = decide (x ∈ r.ins.take k)) := hid1 (by rw [HT.out];simp [he])
  rw [HQ.out];clear HT;generalize decide (x ∈ r.ins.take k) = d at *;generalize r.out = y at *;cases d with
  | true =>
   go_enter Tryz.func273,Tryz.ntmps273
   go_wp2_with fail;refine HC.out.mono ?_;rintro e w1 ⟨rfl,rfl⟩;go_wp2;go_ret;exact ⟨rfl,Below.refl _ _⟩
  | false =>
   go_enter Tryz.func273,Tryz.ntmps273
   go_wp2_with fail;refine HC.out.mono ?_;rintro e w1 ⟨rfl,rfl⟩;go_wp2;go_ret;exact ⟨rfl,Below.refl _ _⟩
end
section
open Go.RowKit Go.Shelf Go.Lib
theorem Ru.err_tail {r : Ru} (h1 : pathB r.out = true) (h2 : Af.actE r.kind r.word r.ins.length = 0) : r.err = if r.ins.all pathB = false then 4 else if r.twice = true then 7 else 0 := by
 unfold Ru.err;rw [if_neg (by rw [h1];simp),if_neg (by rw [h2];simp)]
theorem Zpu (l : List (List UInt8)) : Ru.firstC (fun k => if pathB (l.getD k []) = false then 4 else 0) l.length = if l.all pathB = false then 4 else 0 := by
 cases h : l.all pathB with
 | true =>
  rw [Ru.firstC_none fun j hj => ?_]
  ·rfl
  ·have := List.all_eq_true.1 h l[j] (List.getElem_mem hj);rw [List.getD_eq_getElem?_getD,List.getElem?_eq_getElem hj,Option.getD_some,if_neg (by rw [this];simp)]
 | false =>
  rcases Ru.firstC_const (c := fun k => if pathB (l.getD k []) = false then 4 else 0) (n := l.length) (d := 4) (fun j => by split;exact .inr rfl;exact .inl rfl) with h0 | h0
  ·exfalso
   rw [List.all_eq_false] at h;obtain ⟨x,hx,hp⟩ := h;obtain ⟨j,hj,rfl⟩ := List.getElem_of_mem hx;have := Ru.firstC_zero h0 j hj;rw [List.getD_eq_getElem?_getD,List.getElem?_eq_getElem hj,Option.getD_some] at this
   simp [hp] at this
  ·rw [h0];rfl
theorem Zpt (r : Ru) : Ru.firstC (fun k => if r.twiceAt k = true then 7 else 0) r.ins.length = if r.twice = true then 7 else 0 := by
 cases h : r.twice with
 | true =>
  rcases Ru.firstC_const (c := fun k => if r.twiceAt k = true then 7 else 0) (n := r.ins.length) (d := 7) (fun j => by split;exact .inr rfl;exact .inl rfl) with h0 | h0
  ·exfalso
   obtain ⟨j,hj,hp⟩ := Ru.twice_iff.1 h;have := Ru.firstC_zero h0 j hj;simp [hp] at this
  ·rw [h0];rfl
 | false =>
  rw [Ru.firstC_none fun j hj => ?_]
  ·rfl
  ·rw [if_neg];intro hp
   rw [Ru.twice_iff.2 ⟨j,hj,hp⟩] at h;cases h
theorem Zkn {w : World} {es : Nat -> Addr} (hE : ES w es) (hA : AE w (erOf es)) (r : Ru) (hS : r.Small) (v : Value) (hrow : XRow w v r.ins) :
  Calls Tryz.prog 191 #[ruV r v] w fun e w' => e = .returned (erOf es r.err) /\ Below w.heap.size w w' := by
 have hB0 : Below w.heap.size w (w.alloc (.cells #[.string (ba r.out),.string (ba r.kind),.string (ba r.word),v] 90)) := (Below.refl _ w).alloc (Nat.le_refl _) _;have hR0 : RuAt (w.alloc (.cells #[.string (ba r.out),.string (ba r.kind),.string (ba r.word),v] 90)) w.heap.size 0 r := ⟨by simp,by simp,by simp,v,by simp,hrow.below hB0⟩
 have s1 := hS.out;have s2 := hS.word;have s3 := hS.many;have HP := hid1 fun W (hW : Below w.heap.size w W) => Zjp (hE.below hW) r.out (by omega)
 have HK := hid1 fun W (hW : Below w.heap.size w W) => Zxh (hA.stays hW) r.kind r.word r.ins.length (by omega)
 have H1 := hid1 fun W (hW : Below w.heap.size w W) => Zep (es := es) v r.ins (hrow.below hW) (by omega) 271 #[] (enters_of Tryz.func271 (by kernel_rfl) rfl) (fun k => if pathB (r.ins.getD k []) = false then 4 else 0)
  (hid1 fun k hk W' hW' => by
   have := Zin (hE.below (Zab hW hW')) k r.ins[k] (Nat.le_trans (hS.ins _ (List.getElem_mem hk)) (by omega))
   rw [List.getD_eq_getElem?_getD,List.getElem?_eq_getElem hk,Option.getD_some]
   exact this)
 have H2 := hid1 fun W (hW : Below w.heap.size w W) (b : Nat) (hR : RuAt W b 0 r) => Zep (es := es) v r.ins (hrow.below hW) (by omega) 273 #[.pointer (some ⟨b,0,none⟩)] (enters_of Tryz.func273 (by kernel_rfl) rfl) (fun k => if r.twiceAt k = true then 7 else 0)
  (hid1 fun k hk W' hW' => Zim (hE.below (Zab hW hW')) r b k hk (by omega) (hR.below hW'))
 have HB := hid1 fun W (hW : Below w.heap.size w W) n c u (hT : Told W es n c u) => Zxa (hE.below hW) hT
 have HE := hid1 hE;have HR := hid1 hR0;have HEq : Hid (r.err = if pathB r.out = false then 4 else if Af.actE r.kind r.word r.ins.length ≠ 0 then Af.actE r.kind r.word r.ins.length else if r.ins.all pathB = false then 4 else if r.twice = true then 7 else 0) := hid1 rfl
 obtain ⟨p,cap,rfl,hcap,hnn,hin⟩ := hrow;clear hE hA hS hin hnn hR0;cases hp : pathB r.out with
 | false =>
  have HF : Hid (r.err = 4) := hid1 (by rw [HEq.out,hp];rfl)
  rw [HF.out];rw [hp] at HP;simp only [erOf,if_true] at HP ⊢;go_enter Tryz.func191,Tryz.ntmps191
  go_wp2_with fail;refine (HP.out _ hB0).mono ?_;rintro e w1 ⟨rfl,hb⟩;have g1 := Zab hB0 hb;go_wp2;go_ret;exact ⟨rfl,g1⟩
 | true =>
  rw [hp] at HP;simp only [erOf,Bool.true_eq_false,if_false] at HP;cases ha : Af.actE r.kind r.word r.ins.length with
  | succ m =>
   have HF : Hid (r.err = m + 1) := hid1 (by rw [HEq.out,hp,ha];rfl)
   rw [HF.out];rw [ha] at HK;simp only [erOf] at HK ⊢;generalize r.ins.length = n at *;go_enter Tryz.func191,Tryz.ntmps191
   go_wp2_with fail;refine (HP.out _ hB0).mono ?_;rintro e w1 ⟨rfl,hb⟩;have g1 := Zab hB0 hb;have k1 := (hb.cell (p := ⟨w.heap.size,1,none⟩) (by simp)).trans (by simp;rfl)
   have k2 := (hb.cell (p := ⟨w.heap.size,2,none⟩) (by simp)).trans (by simp;rfl)
   have k3 := (hb.cell (p := ⟨w.heap.size,3,none⟩) (by simp)).trans (by simp;rfl)
   clear hb;go_wp2_with fail;refine (HK.out _ g1).mono ?_;rintro e w2 ⟨rfl,hb⟩;have g2 := Zab g1 hb;go_wp2;go_ret;exact ⟨rfl,g2⟩
  | zero =>
   have HF := hid1 (Ru.err_tail hp ha);rw [ha] at HK;simp only [erOf] at HK;have HFP := hid1 (Zpu r.ins);have HFT := hid1 (Zpt r);generalize (fun k => if pathB (r.ins.getD k []) = false then 4 else 0) = cP at *
   generalize (fun k => if r.twiceAt k = true then 7 else 0) = cT at *
   generalize r.ins.length = n at *;go_enter Tryz.func191,Tryz.ntmps191
   go_wp2_with fail;refine (HP.out _ hB0).mono ?_;rintro e w1 ⟨rfl,hb⟩;have g1 := Zab hB0 hb;have R1 := hid1 (HR.out.below hb);have k1 := (hb.cell (p := ⟨w.heap.size,1,none⟩) (by simp)).trans (by simp;rfl)
   have k2 := (hb.cell (p := ⟨w.heap.size,2,none⟩) (by simp)).trans (by simp;rfl)
   have k3 := (hb.cell (p := ⟨w.heap.size,3,none⟩) (by simp)).trans (by simp;rfl)
   clear hb;go_wp2_with fail;refine (HK.out _ g1).mono ?_;rintro e w2 ⟨rfl,hb⟩;have g2 := Zab g1 hb;have R2 := hid1 (R1.out.below hb);have q3 := Zaa k3 hb;clear hb k1 k2 k3 R1;go_wp2_with fail;refine (H1.out _ g2).mono ?_;rintro e w3 ⟨u,rfl,hb,ht⟩;have g3 := Zab g2 hb;have R3 := hid1 (R2.out.below hb);have T := hid1 ht;have s3 := Zaa q3 hb;clear hb R2 q3
   rcases ht with ⟨hz,rfl⟩ | ⟨k,pb,hk,hc,h0,rfl,hx,hy⟩
   ·have HZ := hid1 hz;clear hz;go_wp2_with fail;refine (H2.out _ g3 w.heap.size R3.out).mono ?_;rintro e w4 ⟨u,rfl,hb,ht⟩;have g4 := Zab g3 hb;have T4 := hid1 ht;clear ht hb;go_wp2_with fail;refine (HB.out _ g4 _ _ _ T4.out).mono ?_;rintro e w5 ⟨rfl,hb⟩;have g5 := Zab g4 hb;go_wp2;go_ret;refine ⟨?_,g5⟩;have hP0 := HFP.out;rw [Ru.firstC_none HZ.out] at hP0;rw [HF.out,HFT.out]
    split at hP0
    ·cases hP0
    ·rename_i hne
     rw [if_neg hne];rfl
   ·have HK2 := hid1 (Ru.firstC_some hk hc h0);have HC2 := hid1 hc;clear hk hc h0 hx hy;go_wp2_with fail;refine (HB.out _ g3 _ _ _ T.out).mono ?_;rintro e w5 ⟨rfl,hb⟩;have g5 := Zab g3 hb;go_wp2;go_ret;refine ⟨?_,g5⟩;have hP0 := HFP.out;rw [HK2.out] at hP0 ⊢;rw [HF.out];split at hP0
    ·rename_i hne
     rw [if_pos hne,hP0];rfl
    ·exact absurd hP0 HC2.out
end
end Go.Proofs.YtbgkfmodbofalaaGreatDoor
