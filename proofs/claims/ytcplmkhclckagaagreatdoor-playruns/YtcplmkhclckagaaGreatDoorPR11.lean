import Derived.Test.YtcplmkhclckagaaGreatDoorPR10
import Derived.Laws.AppendOwnNone
import Derived.Deep.AppendLies
set_option maxRecDepth 100000
set_option maxHeartbeats 4000000
open Go.Proofs.Tryz
namespace Go.Proofs.YtcplmkhclckagaaGreatDoor
open Go.RowKit Go.Extern.Stop Go.Stop Go.Extern Go.Shelf Go.Lib
structure E12(w:World)(es:Nat->Addr):Prop where
 c0:w.cell? ⟨1,0,none⟩=some (.iface 374 (.pointer (some (es 0))))
 c1:w.cell? ⟨0,0,none⟩=some (.iface 374 (.pointer (some (es 1))))
 c2:w.cell? ⟨2,0,none⟩=some (.iface 374 (.pointer (some (es 2))))
 c3:w.cell? ⟨3,0,none⟩=some (.iface 374 (.pointer (some (es 3))))
 c4:w.cell? ⟨4,0,none⟩=some (.iface 374 (.pointer (some (es 4))))
 c5:w.cell? ⟨5,0,none⟩=some (.iface 374 (.pointer (some (es 5))))
 c6:w.cell? ⟨6,0,none⟩=some (.iface 374 (.pointer (some (es 6))))
 c7:w.cell? ⟨7,0,none⟩=some (.iface 374 (.pointer (some (es 7))))
 c8:w.cell? ⟨8,0,none⟩=some (.iface 374 (.pointer (some (es 8))))
 c9:w.cell? ⟨9,0,none⟩=some (.iface 374 (.pointer (some (es 9))))
 c10:w.cell? ⟨10,0,none⟩=some (.iface 374 (.pointer (some (es 10))))
 c11:w.cell? ⟨11,0,none⟩=some (.iface 374 (.pointer (some (es 11))))
 t:w.cell? ⟨12,0,none⟩=some (.iface 218 (.agg #[.pointer (some ⟨21,44,none⟩)]))
 rows:∀ k,k<12->∃ c t,w.heap[(es k).block]? =some (.cells c t (0,0))
 inj:∀ j k,j<12->k<12->j≠k->es j≠es k
variable {w:World}{a:Addr}{v:Value}
theorem Zts(h:w.cell? a=some v):a.block<w.heap.size:=by
 rcases Nat.lt_or_ge a.block w.heap.size with h' | h'
 ·exact h'
 ·simp[World.cell?,Array.getElem?_eq_none h']at h
variable {w':World}
theorem Zas(h:w.cell? a=some v)(hb:Below w.heap.size w w'):w'.cell? a=some v:=(hb.cell (p:=a) (Zts h)).trans h
theorem Zav{b:Nat}{o:Obj}(h:w.heap[b]? =some o)(hb:Below w.heap.size w w'):w'.heap[b]? =some o:=(hb.block b (Array.getElem?_eq_some_iff.1 h).1).trans h
theorem E12.below{es:Nat->Addr}(h:E12 w es)(hb:Below w.heap.size w w'):E12 w' es :=
 ⟨Zas h.c0 hb,Zas h.c1 hb,Zas h.c2 hb,Zas h.c3 hb,Zas h.c4 hb,Zas h.c5 hb,Zas h.c6 hb,Zas h.c7 hb,Zas h.c8 hb,Zas h.c9 hb,Zas h.c10 hb,Zas h.c11 hb,Zas h.t hb,
  fun k hk=>by obtain⟨c,t,hc⟩:=h.rows k hk;exact⟨c,t,Zav hc hb⟩,h.inj⟩
def codeOf(es:Nat->Addr)(x:Addr):Int :=
 match (List.range 12).find? (fun k=>decide (es k=x)) with
 | some k=>(k:Int)+1
 | none=> -1
variable {x:Addr}
theorem Ztn{es:Nat->Addr}(h:∀ j,j<12->es j≠x):codeOf es x= -1:=by
 have:(List.range 12).find? (fun k=>decide (es k=x))=none:=by
  rw[List.find?_eq_none];intro k hk
  simpa using h k (List.mem_range.1 hk)
 unfold codeOf;rw[this]
theorem Zjk{es:Nat->Addr}{k:Nat}(hk:k<12)(he:es k=x)(h:∀ j,j<k->es j≠x):codeOf es x=(k:Int)+1:=by
 have:(List.range 12).find? (fun k=>decide (es k=x))=some k:=by
  rw[List.find?_range_eq_some];simp[he,hk];exact fun j hj=>h j hj
 unfold codeOf;rw[this]
theorem Ydh(w:World):Calls prog 40 #[.nilIface] w fun e w'=>e=.returned (.tuple #[.int .i64 0,.int .i64 (-1)])/\w'=w:=by
 go_enter func40,ntmps40
 go_wp2;go_ret2;exact⟨rfl,rfl⟩
def esV(es:Nat->Addr):Array Value:= #[.iface 374 (.pointer (some (es 0))),.iface 374 (.pointer (some (es 1))),.iface 374 (.pointer (some (es 2))),.iface 374 (.pointer (some (es 3))),.iface 374 (.pointer (some (es 4))),.iface 374 (.pointer (some (es 5))),.iface 374 (.pointer (some (es 6))),.iface 374 (.pointer (some (es 7))),.iface 374 (.pointer (some (es 8))),.iface 374 (.pointer (some (es 9))),.iface 374 (.pointer (some (es 10))),.iface 374 (.pointer (some (es 11)))]
theorem Yct(es:Nat->Addr)(w:World)(k:Nat)(hk:k<12):(w.alloc (.cells (esV es) 44)).cell? ⟨w.heap.size,k,none⟩=some (.iface 374 (.pointer (some (es k)))):=by
 have:k=0\/k=1\/k=2\/k=3\/k=4\/k=5\/k=6\/k=7\/k=8\/k=9\/k=10\/k=11:=by omega
 rcases this with rfl | rfl | rfl | rfl | rfl | rfl | rfl | rfl | rfl | rfl | rfl | rfl <;> simp[esV]
theorem Ydg(x:Addr)(es:Nat->Addr)(cx:Array Value)(tx:TypeId)(w:World)(hE:E12 w es)(hx:w.heap[x.block]? =some (.cells cx tx (0,0))):
  Calls prog 40 #[.iface 374 (.pointer (some x))] w fun e w'=>e=.returned (.tuple #[.int .i64 (codeOf es x),.int .i64 (-1)])/\Below w.heap.size w w':=by
 have hB0:Below w.heap.size w (w.alloc (.cells #[.pointer none] 122)):=(Below.refl _ w).alloc (Nat.le_refl _) _;have hE0:=hE.below hB0;go_enter func40,ntmps40
 go_wp2_with fail;refine(Yea x _ _ hE0.t).mono ?_;rintro e w1 ⟨rfl,hb1'⟩;have hB1:=hB0.trans (hb1'.mono hB0.size);have hE1:=hE.below hB1;have hx1:=Zav hx hB1;have k0:=hE1.c0;have k1:=hE1.c1;have k2:=hE1.c2;have k3:=hE1.c3;have k4:=hE1.c4;have k5:=hE1.c5;have k6:=hE1.c6;have k7:=hE1.c7;have k8:=hE1.c8;have k9:=hE1.c9;have k10:=hE1.c10;have k11:=hE1.c11
 clear hE0 hB0 hb1';go_wp2;have hB2:Below w1.heap.size w1 (w1.alloc (.cells (esV es) 44)):=(Below.refl _ w1).alloc (Nat.le_refl _) _;have hE2:=hE1.below hB2;have hx2:=Zav hx1 hB2;have hBB:=hB1.trans (hB2.mono hB1.size);have hsl:=Yct es w1;unfold esV at hB2 hE2 hx2 hBB hsl;clear k0 k1 k2 k3 k4 k5 k6 k7 k8 k9 k10 k11 hE1 hB2 hx1 hE hx;generalize w1.alloc _=W2 at *
 have HE:Hid (E12 W2 es):=hE2;clear hE2;go_loop [3,30] (fun a i=>a=.int .i64 (-1)/\∃ k:Nat,k<=12/\i=.int .i64 k/\∀ j,j<k->es j≠x) (fun _ i=>12 - (intOf i).toNat)
 case atStart=>exact⟨rfl,0,by omega,rfl,fun j hj=>by omega⟩
 case round =>
  obtain⟨rfl,k,hk,rfl,hno⟩:=hrel;have HN:Hid (∀ j,j<k->es j≠x):=hno
  clear hno;by_cases hlt:k<12
  ·have hck:=hsl k hlt;have hlt':(k:Int)<12:=by omega
   have hk0:(0:Int)<=(k:Int):=by omega
   by_cases hek:es k=x
   ·have hc:=Zjk hlt hek HN.out;have HC:Hid (codeOf es x=(k:Int)+1):=hc;have HK:Hid (es k=x):=hek;clear hc hsl hek;go_wp2_with fail;rw[HK.out];refine(Ydt x _).mono ?_;rintro e w' ⟨rfl,rfl⟩;go_wp2;go_ret2;exact⟨by rw[HC.out];rfl,hBB⟩
   ·obtain⟨c,t,hr⟩:=HE.out.rows k hlt;have hio:=Yck x (es k) cx c tx t W2 (fun e=>hek e.symm) hx2 hr
    have HI:Hid (Calls prog 66 #[.iface 374 (.pointer (some x)),.iface 374 (.pointer (some (es k)))] W2 fun e w'=>e=.returned (.bool false)/\w'=W2):=hio
    have HK:Hid (¬ es k=x):=hek;clear hio hsl hek hr;go_wp2_with fail;refine HI.out.mono ?_;rintro e w' ⟨rfl,rfl⟩;go_wp2;go_round
    case rel =>
     refine⟨rfl,k+1,by omega,by go_num,fun j hj=> ?_⟩
     rcases Nat.lt_or_ge j k with h | h
     ·exact HN.out j h
     ·obtain rfl:j=k:=by omega
      exact HK.out
    case measure=>simp[intOf];omega
  ·have hc:=Ztn (es:=es) (x:=x) (fun j hj=>HN.out j (by omega))
   have HC:Hid (codeOf es x= -1):=hc;clear hc hsl;go_wp2;go_ret2;exact⟨by rw[HC.out];rfl,hBB⟩
theorem Tryz.elemOfP(w:World):(Rtype.elem? 124).run prog w=.ok (some 122) w:=by kernel_rfl
theorem Tryz.mkF(p:Addr)(w:World):(ReflectliteValue.mk 122 p ReflectliteValue.flagAddr).run prog w=.ok (.agg #[.pointer (some ⟨21,122,none⟩),.pointer (some p),.int .u64 406]) w:=by kernel_rfl
theorem Tryz.elemVP(a p:Addr)(W:World)(ha:W.cell? a=some (.pointer (some p))):
  (ReflectliteValue.method (ReflectliteValue.valueError "reflectlite.Value.Elem" 0) ReflectliteValue.elem #[.agg #[.pointer (some ⟨21, 124, none⟩), .pointer (some a), .int .u64 150]]).run prog W
   =.ok (.agg #[.pointer (some ⟨21,122,none⟩),.pointer (some p),.int .u64 406]) W:=by
 rw[rlm];simp only[Sem.run_bind,Tryz.partsP,Result.andThen];simp[ReflectliteValue.elem,loadVar,isAgg,underlying,underlying124,ha,Result.andThen,Tryz.elemOfP,Tryz.mkF]
theorem rls(v x:Value):ReflectliteValue.set #[v,x]=(do
  let (some (dst,a,fl),some (src,b,_)):=(<- ReflectliteValue.parts v,<- ReflectliteValue.parts x)
   | unsupported (.noEntry "extern/(internal/reflectlite.Value).Set.zeroValue")
  if fl/ReflectliteValue.flagAddr%2==0 then unsupported (.noEntry "extern/(internal/reflectlite.Value).Set.unaddressable")
  let val <- loadVar src b
  if <- Rtype.directlyAssignable dst src then storeVar dst a val
  else if <- Rtype.implements dst src then
   if (<- Rtype.kind src)==20 then
    match val with
    | .nilIface=>unsupported (.noEntry "extern/reflectlite: a nil value of one interface type handed on as a value of another")
    | _=>storeVar dst a val
   else storeVar dst a (.iface src val)
  else panicString ("reflectlite.Set: value of type " ++(<- Rtype.spelt src) ++ " is not assignable to type " ++(<- Rtype.spelt dst))
  pure (.tuple #[])):=rfl
theorem Tryz.partsFa(a:Addr)(w:World):(ReflectliteValue.parts (.agg #[.pointer (some ⟨21,122,none⟩),.pointer (some a),.int .u64 406])).run prog w=.ok (some (122,a,406)) w:=by kernel_rfl
theorem Tryz.partsF(a:Addr)(w:World):(ReflectliteValue.parts (.agg #[.pointer (some ⟨21,122,none⟩),.pointer (some a),.int .u64 150])).run prog w=.ok (some (122,a,150)) w:=by kernel_rfl
theorem Tryz.directF(w:World):(Rtype.directlyAssignable 122 122).run prog w=.ok true w:=by kernel_rfl
theorem Tryz.setF(ta b e:Addr)(old:Value)(W:World)(hb:W.cell? b=some (.pointer (some e)))(ht:W.cell? ta=some old)(hf:W.frozen? ta=false):
  (ReflectliteValue.set #[.agg #[.pointer (some ⟨21,122,none⟩),.pointer (some ta),.int .u64 406],.agg #[.pointer (some ⟨21,122,none⟩),.pointer (some b),.int .u64 150]]).run prog W
   =.ok (.tuple #[]) (W.setCell ta (.pointer (some e))):=by
 rw[rls];simp only[Sem.run_bind,Tryz.partsFa,Tryz.partsF,Result.andThen];simp[ReflectliteValue.flagAddr,loadVar,isAgg,underlying,underlying122,hb,Result.andThen,Tryz.directF,storeVar,Value.cells,storeCells,Addr.add];rw[run_store prog W ta _ _ (by rfl)]
 simp[ht,hf]
theorem as_hit(e t:Addr)(old:Value)(w:World)(hg:w.cell? ⟨12,0,none⟩=some (.iface 218 (.agg #[.pointer (some ⟨21,44,none⟩)])))(ht0:w.cell? t=some old)(hf0:w.frozen? t=false):
  Calls prog 65 #[.iface 122 (.pointer (some e)),.iface 124 (.pointer (some t))] w fun ev w'=>ev=.returned (.bool true)/\w'=((((w.alloc (.cells #[.pointer (some t)] 124)).alloc (.cells #[.pointer (some ⟨21,124,none⟩),.pointer (some ⟨w.heap.size,0,none⟩),.int .u64 150] 168)).alloc (.cells #[.pointer (some ⟨21,124,none⟩),.pointer (some ⟨w.heap.size,0,none⟩),.int .u64 150] 168)).alloc (.cells #[.pointer (some e)] 122)).setCell t (.pointer (some e)):=by
 have h8:= @run_callFunc_extern prog 101 _ (ReflectliteValue.method (ReflectliteValue.valueError "reflectlite.Value.IsNil" 0) ReflectliteValue.isNil) func101 (by kernel_rfl) (by kernel_rfl) (by kernel_rfl) (by kernel_rfl)
 have h11:= @run_callFunc_extern prog 140 _ (ReflectliteValue.method (ReflectliteValue.valueError "reflectlite.Value.Elem" 0) ReflectliteValue.elem) func140 (by kernel_rfl) (by kernel_rfl) (by kernel_rfl) (by kernel_rfl)
 have h12:= @run_callFunc_extern prog 141 _ ReflectliteValue.set func141 (by kernel_rfl) (by kernel_rfl) (by kernel_rfl) (by kernel_rfl)
 have tO:=Tryz.typeOfF;have mA:=Tryz.methodAssignableTo;have a25:=Tryz.assignableF;have v25:=Tryz.valueOfF;have f6:=Tryz.valueOfP;have f7:=Tryz.typeP;have mK:=Tryz.methodKind;have mE:=Tryz.methodElem;have mI:=Tryz.methodImplements;have k27:=Tryz.kindP;have k25:=Tryz.kindF;have e27:=Tryz.elemP;have i25:=Tryz.implementsF
 have n8:=Tryz.isNilP ⟨w.heap.size,0,none⟩ t ((w.alloc (.cells #[.pointer (some t)] 124)).alloc (.cells #[.pointer (some ⟨21,124,none⟩),.pointer (some ⟨w.heap.size,0,none⟩),.int .u64 150] 168)) (by simp)
 have hlt:12<w.heap.size:=by
  rcases Nat.lt_or_ge 12 w.heap.size with h | h
  ·exact h
  ·simp[World.cell?,Array.getElem?_eq_none h]at hg
 have hg2:((w.alloc (.cells #[.pointer (some t)] 124)).alloc (.cells #[.pointer (some ⟨21,124,none⟩),.pointer (some ⟨w.heap.size,0,none⟩),.int .u64 150] 168)).cell? ⟨12,0,none⟩=some (.iface 218 (.agg #[.pointer (some ⟨21,44,none⟩)])):=by
  rw[World.cell?_alloc_lt _ _ ⟨12,0,none⟩ (by simp;omega),World.cell?_alloc_lt _ _ ⟨12,0,none⟩ hlt];exact hg
 have htl:t.block<w.heap.size:=by
  rcases Nat.lt_or_ge t.block w.heap.size with h | h
  ·exact h
  ·simp[World.cell?,Array.getElem?_eq_none h]at ht0
 have el:=Tryz.elemVP ⟨w.heap.size,0,none⟩ t (((w.alloc (.cells #[.pointer (some t)] 124)).alloc (.cells #[.pointer (some ⟨21,124,none⟩),.pointer (some ⟨w.heap.size,0,none⟩),.int .u64 150] 168)).alloc (.cells #[.pointer (some ⟨21,124,none⟩),.pointer (some ⟨w.heap.size,0,none⟩),.int .u64 150] 168)) (by rw[World.cell?_alloc_lt _ _ ⟨w.heap.size,0,none⟩ (by simp;omega)];simp)
 have st:=Tryz.setF t ⟨w.heap.size+1+1+1,0,none⟩ e old ((((w.alloc (.cells #[.pointer (some t)] 124)).alloc (.cells #[.pointer (some ⟨21,124,none⟩),.pointer (some ⟨w.heap.size,0,none⟩),.int .u64 150] 168)).alloc (.cells #[.pointer (some ⟨21,124,none⟩),.pointer (some ⟨w.heap.size,0,none⟩),.int .u64 150] 168)).alloc (.cells #[.pointer (some e)] 122))
  (by rw[World.cell?_alloc_at _ _ _ _ (by simp)];rfl)
  (by rw[World.cell?_alloc_lt _ _ t (by simp;omega),World.cell?_alloc_lt _ _ t (by simp;omega),World.cell?_alloc_lt _ _ t (by simp;omega),World.cell?_alloc_lt _ _ t htl];exact ht0)
  (by rw[World.frozen?_alloc_old _ _ t (by simp;omega),World.frozen?_alloc_old _ _ t (by simp;omega),World.frozen?_alloc_old _ _ t (by simp;omega),World.frozen?_alloc_old _ _ t (Nat.ne_of_lt htl)];exact hf0)
 go_enter func65,ntmps65
 go_wp2;refine wp_loop_rounds 1 ?_;rw[rounds_succ];go_wp2;go_ret;exact⟨rfl,rfl⟩
theorem Yam{es:Nat->Addr}(h:E12 w es)(k:Nat)(hk:k<12):codeOf es (es k)=(k:Int)+1 :=
 Zjk hk rfl (fun j hj=>h.inj j k (by omega) hk (by omega))
def erOf(es:Nat->Addr):Nat->Value
 | 0=>.nilIface
 | k+1=>.iface 374 (.pointer (some (es k)))
theorem E12.ae{es:Nat->Addr}(h:E12 w es)(hm:∃ m,w.cell? ⟨13,0,none⟩=some (.int .i64 m))(hP:Pow w)(hS:SynAt w)(hb:20<w.heap.size):AE w (erOf es) :=
 ⟨⟨hm,hP,h.c2,h.c9,hb⟩,hS,h.c4,fun _=>⟨_,_,rfl⟩,rfl⟩
theorem AE.stays{w W:World}{er:Nat->Value}(h:AE w er)(hb:Below w.heap.size w W):AE W er:=by
 have h0:=h.aw.big;exact⟨h.aw.stays hb,h.syn.below hb,(Zam hb (by omega)).trans h.kind,h.iface,h.zero⟩
theorem Yeb(nm wd:List UInt8)(n:Int):Af.actE nm wd n=0\/∃ k,k<12/\Af.actE nm wd n=k+1:=by
 unfold Af.actE;split
 ·exact .inr ⟨4,by omega,rfl⟩
 ·split
  ·exact .inr ⟨2,by omega,rfl⟩
  ·split
   ·exact .inr ⟨9,by omega,rfl⟩
   ·exact .inl rfl
namespace Ru
def twiceAt(r:Ru)(i:Nat):Bool:=decide (r.ins[i]? =some r.out)||decide (∃ x∈r.ins.take i,r.ins[i]? =some x)
def twice(r:Ru):Bool:=(List.range r.ins.length).any r.twiceAt
def err(r:Ru):Nat :=
 if pathB r.out=false then 4
 else if Af.actE r.kind r.word r.ins.length≠0 then Af.actE r.kind r.word r.ins.length
 else if r.ins.all pathB=false then 4
 else if r.twice=true then 7 else 0
def errAt(l:List Ru)(i:Nat):Nat :=
 match l[i]? with
 | some r=>if r.err≠0 then r.err else if r.out∈(l.take i).map Ru.out then 7 else 0
 | none=>0
def fault(l:List Ru):Nat×Int :=
 if 40<l.length then (2,-1) else match first (errAt l) l.length with | some k=>(errAt l k,(k:Int)) | none=>(0,-1)
variable {l:List Ru}
theorem fault_many(h:40<l.length):fault l=(2,-1):=by unfold fault;rw[if_pos h]
theorem fault_none(h0:l.length<=40)(h:∀ j,j<l.length->errAt l j=0):fault l=(0,-1):=by
 unfold fault;rw[if_neg (by omega),Zlz h]
theorem fault_some{m:Nat}(h0:l.length<=40)(hm:m<l.length)(hc:errAt l m≠0)(h:∀ j,j<m->errAt l j=0):fault l=(errAt l m,(m:Int)):=by
 unfold fault;rw[if_neg (by omega),Zly hm hc h]
variable {r:Ru}
theorem twice_iff:r.twice=true↔∃ i,i<r.ins.length/\r.twiceAt i=true:=by
 unfold twice;simp[List.any_eq_true]
variable {i:Nat}
theorem twiceAt_eq(h:i<r.ins.length):r.twiceAt i=(decide (r.ins[i]=r.out)||decide (r.ins[i]∈r.ins.take i)):=by
 unfold twiceAt;rw[List.getElem?_eq_getElem h];congr 1
 ·simp
 ·rw[decide_eq_decide];constructor
  ·rintro⟨x,hx,e⟩;rw[Option.some.inj e];exact hx
  ·exact fun hx=>⟨_,hx,rfl⟩
theorem errAt_eq(h:i<l.length):errAt l i=if l[i].err≠0 then l[i].err else if l[i].out∈(l.take i).map Ru.out then 7 else 0:=by
 unfold errAt;rw[List.getElem?_eq_getElem h]
theorem err_le(r:Ru):r.err=0\/∃ k,k<12/\r.err=k+1:=by
 unfold err;split
 ·exact .inr ⟨3,by omega,rfl⟩
 ·split
  ·exact Yeb _ _ _
  ·split
   ·exact .inr ⟨3,by omega,rfl⟩
   ·split
    ·exact .inr ⟨6,by omega,rfl⟩
    ·exact .inl rfl
theorem errAt_le(l:List Ru)(i:Nat):errAt l i=0\/∃ k,k<12/\errAt l i=k+1:=by
 unfold errAt;split
 ·split
  ·exact err_le _
  ·split
   ·exact .inr ⟨6,by omega,rfl⟩
   ·exact .inl rfl
 ·exact .inl rfl
end Ru
def ErrV(w:World)(es:Nat->Addr)(v:Value)(f:Nat×Int):Prop :=
 (f.2= -1/\v=erOf es f.1/\f.1<=12)\/(∃ pb m,v=.iface 122 (.pointer (some ⟨pb,0,none⟩))/\m<12/\f.1=m+1/\w.cell? ⟨pb,0,none⟩=some (.int .i64 f.2)/\w.cell? ⟨pb,1,none⟩=some (erOf es f.1))
theorem ErrV.below{es:Nat->Addr}{f:Nat×Int}(h:ErrV w es v f)(hb:Below w.heap.size w w'):ErrV w' es v f:=by
 rcases h with h | ⟨pb,m,e,hm,h0,h1,h2⟩
 ·exact .inl h
 ·exact .inr ⟨pb,m,e,hm,h0,Zaa h1 hb,Zaa h2 hb⟩
theorem ErrV.nil{es:Nat->Addr}:ErrV w es .nilIface (0,-1):=.inl ⟨rfl,rfl,by simp⟩
theorem ErrV.bare{es:Nat->Addr}{c:Nat}(h:c<=12):ErrV w es (erOf es c) (c,-1):=.inl ⟨rfl,rfl,h⟩
structure ES(w:World)(es:Nat->Addr):Prop where
 c1:w.cell? ⟨0,0,none⟩=some (.iface 374 (.pointer (some (es 1))))
 c3:w.cell? ⟨3,0,none⟩=some (.iface 374 (.pointer (some (es 3))))
 c6:w.cell? ⟨6,0,none⟩=some (.iface 374 (.pointer (some (es 6))))
 t:w.cell? ⟨12,0,none⟩=some (.iface 218 (.agg #[.pointer (some ⟨21,44,none⟩)]))
theorem ES.below{es:Nat->Addr}(h:ES w es)(hb:Below w.heap.size w w'):ES w' es :=
 ⟨Zaa h.c1 hb,Zaa h.c3 hb,Zaa h.c6 hb,Zaa h.t hb⟩
theorem E12.es{w:World}{es:Nat->Addr}(h:E12 w es):ES w es:=⟨h.c1,h.c3,h.c6,h.t⟩
def Af.gtB(y x:List UInt8):Bool:= !Op.bytesLess y x&& !(y==x)
def Af.Laid(l:List (List UInt8))(x:List UInt8)(r:List (List UInt8)):Prop :=
 ∃ k,k<=l.length/\r=l.take k++x::l.drop k/\(∀ j (hj:j<l.length),k<=j->Af.gtB l[j] x=true)/\(∀ hk:k - 1<l.length,0<k->Af.gtB l[k - 1] x=false)
variable {w2:World}{n:Nat}{xs:List Value}
theorem lay_b2{w1:World}{tmp:Obj}(b1:Below w.heap.size w w1)(h:w1.ownsRow w.heap.size 9 1 v n xs)(hg:(w1.alloc tmp).grownBy w2 v.ownBlock):Below w.heap.size w w2:=Zak b1 b1.size h hg
theorem lay_b3{w3:World}(b2:Below w.heap.size w w2)(h:w2.ownsRow w.heap.size 9 1 v n xs)(hg:w2.grownBy w3 v.ownBlock):Below w.heap.size w w3:=Zeg b2 b2.size h hg
variable {k:Nat}{l:List (List UInt8)}
theorem Zgn{g:Nat}(hR:Hid (∀ W,Below w.heap.size w W->∀ k (hk:k<l.length),W.cell? ⟨g,k,none⟩=some (.string (ba l[k]))))(b2:Below w.heap.size w w2):
  ∀ j u,((l.drop k).map sv)[j]? =some u->w2.cell? ((⟨g,k,none⟩:Addr).add j)=some u:=fun j u hj=>by
 have hjl:j<(l.drop k).length:=by simpa using (List.getElem?_eq_some_iff.1 hj).1
 have hjl':k+j<l.length:=by simp at hjl;omega
 rw[List.getElem?_map,List.getElem?_eq_getElem hjl]at hj
 simp only[Option.map_some,Option.some.injEq,List.getElem_drop]at hj;rw[<- hj,Zdv];exact hR.out w2 b2 (k+j) hjl'
theorem Zhv(h:l.length<=k)(ad:Addr):∀ j u,((l.drop k).map sv)[j]? =some u->w2.cell? (ad.add j)=some u:=fun j u hj=>by
 rw[List.drop_of_length_le h]at hj;simp at hj
variable {B:Nat}{x:List UInt8}
theorem Zew(hk:k<=l.length)(h:w.ownsRow B 9 1 v (0+k+1+(l.length - k)) ([]++(l.take k).map sv++[.string (ba x)]++(l.drop k).map sv)):
  w.ownsRow B 9 1 v (l.take k++x::l.drop k).length ((l.take k++x::l.drop k).map sv):=by
 have e1:(l.take k++x::l.drop k).length=0+k+1+(l.length - k):=by simp;omega
 have e2:(l.take k++x::l.drop k).map sv=[]++(l.take k).map sv++[.string (ba x)]++(l.drop k).map sv:=by
  rw[List.map_append,List.map_cons,List.nil_append,List.append_assoc];rfl
 rw[e1,e2];exact h
theorem Zcm(hk:k<=l.length)(hlk:l.length=k)(h:w.ownsRow B 9 1 v (0+k+1+0) ([]++(l.take k).map sv++[.string (ba x)]++(l.drop k).map sv)):
  w.ownsRow B 9 1 v (l.take k++x::l.drop k).length ((l.take k++x::l.drop k).map sv) :=
 Zew hk (by rw[show 0+k+1+(l.length - k)=0+k+1+0 by omega];exact h)
theorem Zzt(g cap:Nat)(l:List (List UInt8))(x:List UInt8)(hl:l.length<=100000)(hne:l≠[])(w:World)(hrow:TRow w (.slice (some ⟨g,0,none⟩) l.length cap) l):
  Calls prog 174 #[.slice (some ⟨g,0,none⟩) l.length cap,.string (ba x)] w fun e w'=>∃ v r,e=.returned v/\Af.Laid l x r/\w'.ownsRow w.heap.size 9 1 v r.length (r.map sv)/\Below w.heap.size w w':=by
 obtain⟨i0,hi,hz0,hz1,hz2⟩:=info_parts Tryz.infoStr;obtain⟨p,c,e,hcap,hin⟩:=hrow;obtain⟨g',cur,rfl,hg,hcur⟩:=hin hne;obtain⟨rfl,rfl⟩:g=g'/\cap=c:=by simpa using e
 have hR:Hid (∀ W,Below w.heap.size w W->∀ k (hk:k<l.length),W.cell? ⟨g,k,none⟩=some (.string (ba l[k]))):=fun W hW k hk=>Zab ((hW.block g (Array.getElem?_eq_some_iff.1 hg).1).trans hg) (hcur k hk)
 have zl:(l.length:Int)<=100000:=by omega
 have zc:l.length<=cap:=hcap;go_enter func174,ntmps174
 go_wp2;go_loopw [5] (fun i wr=>∃ k:Nat,k<=l.length/\i=.int .i64 k/\(∀ j (hj:j<l.length),k<=j->Af.gtB l[j] x=true)/\w=wr) (fun i _=>(intOf i).toNat)
 case atStart=>exact⟨l.length,Nat.le_refl _,rfl,fun j hj h=>by omega,rfl⟩
 case round =>
  obtain⟨k,hk,rfl,hgt,rfl⟩:=hrel;have HG:=hid1 hgt;by_cases h0:0<k
  ·have d0:(0:Int)<(k:Int):=by omega
   have hk1:k - 1<l.length:=by omega
   have hcell:=hR.out w (Below.refl _ w) (k - 1) hk1;have e1:((k - 1:Nat):Int)=(k:Int) - 1:=by omega
   have e2:IntKind.i64.wrap ((k:Int) - 1)=(k:Int) - 1:=by rw[IntKind.wrap_i64];omega
   have e3:((k:Int) - 1).toNat=k - 1:=by omega
   have e4:(k:Int) - 1<(l.length:Int):=by omega
   have e5:(0:Int)<=(k:Int) - 1:=by omega
   have HB:Hid (Af.gtB l[k - 1] x=(!Op.bytesLess l[k - 1] x&& !(l[k - 1]==x))):=rfl;have HS:Hid (Af.gtB l[k - 1] x=true->∀ j (hj:j<l.length),k - 1<=j->Af.gtB l[j] x=true):=fun hb j hj h=>by
    by_cases e:j=k - 1
    ·subst e;exact hb
    ·exact HG.out j hj (by omega)
   have HLast:Hid (Af.gtB l[k - 1] x=false->∀ hh:k - 1<l.length,0<k->Af.gtB l[k - 1] x=false):=fun h _ _=>h
   generalize hg:Af.gtB l[k - 1] x=gb at *;generalize l[k - 1]=y at *;cases q1:Op.bytesLess y x with
   | true =>
    have hg0:gb=false:=by rw[HB.out,q1];rfl
    have HLast:=hid1 (HLast.out hg0);have hsrc1:∀ j u,((l.take k).map sv)[j]? =some u->w.cell? ((⟨g,0,none⟩:Addr).add j)=some u:=fun j u hj=>by
     have hjl:j<(l.take k).length:=by simpa using (List.getElem?_eq_some_iff.1 hj).1
     have hjl':j<l.length:=by simp at hjl;omega
     rw[List.getElem?_map,List.getElem?_eq_getElem hjl]at hj
     simp only[Option.map_some,Option.some.injEq,List.getElem_take]at hj;rw[<- hj,add_at];exact hR.out w (Below.refl _ w) j hjl'
    have hl1:1<=l.length:=by
     cases l with
     | nil=>exact absurd rfl hne
     | cons y r=>simp
    have ka:(k:Int)<=(cap:Int):=by omega
    have kb:k<=cap:=by omega
    have kc:(0:Int)<=(k:Int):=by omega
    have kd':(k:Int)<=(l.length:Int):=by omega
    have HL:=hid1 (show Af.Laid l x (l.take k++x::l.drop k) from⟨k,hk,rfl,HG.out,HLast.out⟩)
    have n1:World.ownsRow w w.heap.size 9 1 (.slice none 0 0) 0 []:=World.ownsRow_nil _ _ _ _;by_cases hck:cap=k
    ·subst hck;have hlk:l.length=cap:=by omega
     have hlz:l.length - cap=0:=by omega
     go_wp2_with (first
      | (at_builtin;refine wpList_append_own _ rfl _ _ 52 rfl w.heap.size 9 i0 (.string ⟨#[]⟩) 1 16 underlying52 hi hz0 hz1 hz2 rfl (by decide) _ _ _ rfl n1 ⟨g,0,none⟩ cap cap ((l.take cap).map sv) rfl (by simp;omega) hsrc1 one_sv (by unfold maxLen;omega) (by omega) (Nat.le_refl _) ?_;intro v1 w1 hown1 hgrow1 _;have b1:=lay_b1 n1 hgrow1)
      | (at_builtin;refine wpList_append_own _ rfl _ _ 52 rfl w.heap.size 9 i0 (.string ⟨#[]⟩) 1 16 underlying52 hi hz0 hz1 hz2 rfl (by decide) _ _ _ rfl (hown1.alloc _) ⟨w1.heap.size,0,none⟩ 1 1 [.string (ba x)] rfl rfl (cell_one_new _ _ _) (by simp[Value.oneCell']) (by unfold maxLen;omega) (by omega) (by simp;have:=b1.size;omega) ?_;intro v2 w2 hown2 hgrow2 _;have b2:=lay_b2 b1 hown1 hgrow2)
      | (at_builtin;(refine wpList_append_own _ rfl _ _ 52 rfl w.heap.size 9 i0 (.string ⟨#[]⟩) 1 16 underlying52 hi hz0 hz1 hz2 rfl (by decide) _ _ _ rfl hown2 ⟨g,0,none⟩ 0 0 ((l.drop cap).map sv) rfl (by simp;omega) (Zhv (k:=cap) (l:=l) (by omega) _) one_sv (by unfold maxLen;omega) (by omega) b2.size ?_;intro v3 w3 hown3 hgrow3 _;have b3:=lay_b3 b2 hown2 hgrow3))
      | go_in)
     go_ret;first | exact⟨_,rfl,_,HL.out,Zcm hk hlk hown3,b3⟩ | exact⟨_,rfl,_,b3,HL.out,Zcm hk hlk hown3⟩ | exact⟨_,rfl,⟨_,HL.out,Zcm hk hlk hown3⟩,b3⟩
    ·go_wp2_with (first
      | (at_builtin;refine wpList_append_own _ rfl _ _ 52 rfl w.heap.size 9 i0 (.string ⟨#[]⟩) 1 16 underlying52 hi hz0 hz1 hz2 rfl (by decide) _ _ _ rfl n1 ⟨g,0,none⟩ k cap ((l.take k).map sv) rfl (by simp;omega) hsrc1 one_sv (by unfold maxLen;omega) (by omega) (Nat.le_refl _) ?_;intro v1 w1 hown1 hgrow1 _;have b1:=lay_b1 n1 hgrow1)
      | (at_builtin;refine wpList_append_own _ rfl _ _ 52 rfl w.heap.size 9 i0 (.string ⟨#[]⟩) 1 16 underlying52 hi hz0 hz1 hz2 rfl (by decide) _ _ _ rfl (hown1.alloc _) ⟨w1.heap.size,0,none⟩ 1 1 [.string (ba x)] rfl rfl (cell_one_new _ _ _) (by simp[Value.oneCell']) (by unfold maxLen;omega) (by omega) (by simp;have:=b1.size;omega) ?_;intro v2 w2 hown2 hgrow2 _;have b2:=lay_b2 b1 hown1 hgrow2)
      | (at_builtin;refine wpList_append_own _ rfl _ _ 52 rfl w.heap.size 9 i0 (.string ⟨#[]⟩) 1 16 underlying52 hi hz0 hz1 hz2 rfl (by decide) _ _ _ rfl hown2 ⟨g,k,none⟩ (l.length - k) (cap - k) ((l.drop k).map sv) rfl (by simp) (Zgn (k:=k) hR b2) one_sv (by unfold maxLen;omega) (by omega) b2.size ?_;intro v3 w3 hown3 hgrow3 _;have b3:=lay_b3 b2 hown2 hgrow3)
      | go_in)
     go_ret;exact⟨_,_,rfl,HL.out,Zew hk hown3,b3⟩
   | false =>
    cases q2:(y==x) with
    | true =>
     have hg0:gb=false:=by rw[HB.out,q1,q2];rfl
     have HLast:=hid1 (HLast.out hg0);have hsrc1:∀ j u,((l.take k).map sv)[j]? =some u->w.cell? ((⟨g,0,none⟩:Addr).add j)=some u:=fun j u hj=>by
      have hjl:j<(l.take k).length:=by simpa using (List.getElem?_eq_some_iff.1 hj).1
      have hjl':j<l.length:=by simp at hjl;omega
      rw[List.getElem?_map,List.getElem?_eq_getElem hjl]at hj
      simp only[Option.map_some,Option.some.injEq,List.getElem_take]at hj;rw[<- hj,add_at];exact hR.out w (Below.refl _ w) j hjl'
     have hl1:1<=l.length:=by
      cases l with
      | nil=>exact absurd rfl hne
      | cons y r=>simp
     have ka:(k:Int)<=(cap:Int):=by omega
     have kb:k<=cap:=by omega
     have kc:(0:Int)<=(k:Int):=by omega
     have kd':(k:Int)<=(l.length:Int):=by omega
     have HL:=hid1 (show Af.Laid l x (l.take k++x::l.drop k) from⟨k,hk,rfl,HG.out,HLast.out⟩)
     have n1:World.ownsRow w w.heap.size 9 1 (.slice none 0 0) 0 []:=World.ownsRow_nil _ _ _ _;by_cases hck:cap=k
     ·subst hck;have hlk:l.length=cap:=by omega
      have hlz:l.length - cap=0:=by omega
      go_wp2_with (first
       | (at_builtin;refine wpList_append_own _ rfl _ _ 52 rfl w.heap.size 9 i0 (.string ⟨#[]⟩) 1 16 underlying52 hi hz0 hz1 hz2 rfl (by decide) _ _ _ rfl n1 ⟨g,0,none⟩ cap cap ((l.take cap).map sv) rfl (by simp;omega) hsrc1 one_sv (by unfold maxLen;omega) (by omega) (Nat.le_refl _) ?_;intro v1 w1 hown1 hgrow1 _;have b1:=lay_b1 n1 hgrow1)
       | (at_builtin;refine wpList_append_own _ rfl _ _ 52 rfl w.heap.size 9 i0 (.string ⟨#[]⟩) 1 16 underlying52 hi hz0 hz1 hz2 rfl (by decide) _ _ _ rfl (hown1.alloc _) ⟨w1.heap.size,0,none⟩ 1 1 [.string (ba x)] rfl rfl (cell_one_new _ _ _) (by simp[Value.oneCell']) (by unfold maxLen;omega) (by omega) (by simp;have:=b1.size;omega) ?_;intro v2 w2 hown2 hgrow2 _;have b2:=lay_b2 b1 hown1 hgrow2)
       | (at_builtin;(refine wpList_append_own _ rfl _ _ 52 rfl w.heap.size 9 i0 (.string ⟨#[]⟩) 1 16 underlying52 hi hz0 hz1 hz2 rfl (by decide) _ _ _ rfl hown2 ⟨g,0,none⟩ 0 0 ((l.drop cap).map sv) rfl (by simp;omega) (Zhv (k:=cap) (l:=l) (by omega) _) one_sv (by unfold maxLen;omega) (by omega) b2.size ?_;intro v3 w3 hown3 hgrow3 _;have b3:=lay_b3 b2 hown2 hgrow3))
       | go_in)
      go_ret;first | exact⟨_,rfl,_,HL.out,Zcm hk hlk hown3,b3⟩ | exact⟨_,rfl,_,b3,HL.out,Zcm hk hlk hown3⟩ | exact⟨_,rfl,⟨_,HL.out,Zcm hk hlk hown3⟩,b3⟩
     ·go_wp2_with (first
       | (at_builtin;refine wpList_append_own _ rfl _ _ 52 rfl w.heap.size 9 i0 (.string ⟨#[]⟩) 1 16 underlying52 hi hz0 hz1 hz2 rfl (by decide) _ _ _ rfl n1 ⟨g,0,none⟩ k cap ((l.take k).map sv) rfl (by simp;omega) hsrc1 one_sv (by unfold maxLen;omega) (by omega) (Nat.le_refl _) ?_;intro v1 w1 hown1 hgrow1 _;have b1:=lay_b1 n1 hgrow1)
       | (at_builtin;refine wpList_append_own _ rfl _ _ 52 rfl w.heap.size 9 i0 (.string ⟨#[]⟩) 1 16 underlying52 hi hz0 hz1 hz2 rfl (by decide) _ _ _ rfl (hown1.alloc _) ⟨w1.heap.size,0,none⟩ 1 1 [.string (ba x)] rfl rfl (cell_one_new _ _ _) (by simp[Value.oneCell']) (by unfold maxLen;omega) (by omega) (by simp;have:=b1.size;omega) ?_;intro v2 w2 hown2 hgrow2 _;have b2:=lay_b2 b1 hown1 hgrow2)
       | (at_builtin;refine wpList_append_own _ rfl _ _ 52 rfl w.heap.size 9 i0 (.string ⟨#[]⟩) 1 16 underlying52 hi hz0 hz1 hz2 rfl (by decide) _ _ _ rfl hown2 ⟨g,k,none⟩ (l.length - k) (cap - k) ((l.drop k).map sv) rfl (by simp) (Zgn (k:=k) hR b2) one_sv (by unfold maxLen;omega) (by omega) b2.size ?_;intro v3 w3 hown3 hgrow3 _;have b3:=lay_b3 b2 hown2 hgrow3)
       | go_in)
      go_ret;exact⟨_,_,rfl,HL.out,Zew hk hown3,b3⟩
    | false =>
     have hg0:gb=true:=by rw[HB.out,q1,q2];rfl
     have HS:=hid1 (HS.out hg0);go_wp2;exact⟨⟨k - 1,by omega,by go_num,HS.out,trivial⟩,by simp[intOf];omega⟩
  ·have d0:(k:Int)<=0:=by omega
   have hsrc1:∀ j u,((l.take k).map sv)[j]? =some u->w.cell? ((⟨g,0,none⟩:Addr).add j)=some u:=fun j u hj=>by
    have hjl:j<(l.take k).length:=by simpa using (List.getElem?_eq_some_iff.1 hj).1
    have hjl':j<l.length:=by simp at hjl;omega
    rw[List.getElem?_map,List.getElem?_eq_getElem hjl]at hj
    simp only[Option.map_some,Option.some.injEq,List.getElem_take]at hj;rw[<- hj,add_at];exact hR.out w (Below.refl _ w) j hjl'
   have hl1:1<=l.length:=by
    cases l with
    | nil=>exact absurd rfl hne
    | cons y r=>simp
   have ka:(k:Int)<=(cap:Int):=by omega
   have kb:k<=cap:=by omega
   have kc:(0:Int)<=(k:Int):=by omega
   have kd':(k:Int)<=(l.length:Int):=by omega
   have HL:=hid1 (show Af.Laid l x (l.take k++x::l.drop k) from⟨k,hk,rfl,HG.out,fun _ h=>absurd h h0⟩)
   have n1:World.ownsRow w w.heap.size 9 1 (.slice none 0 0) 0 []:=World.ownsRow_nil _ _ _ _;by_cases hck:cap=k
   ·exact absurd hck (by omega)
   ·go_wp2_with (first
     | (at_builtin;refine wpList_append_own _ rfl _ _ 52 rfl w.heap.size 9 i0 (.string ⟨#[]⟩) 1 16 underlying52 hi hz0 hz1 hz2 rfl (by decide) _ _ _ rfl n1 ⟨g,0,none⟩ k cap ((l.take k).map sv) rfl (by simp;omega) hsrc1 one_sv (by unfold maxLen;omega) (by omega) (Nat.le_refl _) ?_;intro v1 w1 hown1 hgrow1 _;have b1:=lay_b1 n1 hgrow1)
     | (at_builtin;refine wpList_append_own _ rfl _ _ 52 rfl w.heap.size 9 i0 (.string ⟨#[]⟩) 1 16 underlying52 hi hz0 hz1 hz2 rfl (by decide) _ _ _ rfl (hown1.alloc _) ⟨w1.heap.size,0,none⟩ 1 1 [.string (ba x)] rfl rfl (cell_one_new _ _ _) (by simp[Value.oneCell']) (by unfold maxLen;omega) (by omega) (by simp;have:=b1.size;omega) ?_;intro v2 w2 hown2 hgrow2 _;have b2:=lay_b2 b1 hown1 hgrow2)
     | (at_builtin;refine wpList_append_own _ rfl _ _ 52 rfl w.heap.size 9 i0 (.string ⟨#[]⟩) 1 16 underlying52 hi hz0 hz1 hz2 rfl (by decide) _ _ _ rfl hown2 ⟨g,k,none⟩ (l.length - k) (cap - k) ((l.drop k).map sv) rfl (by simp) (Zgn (k:=k) hR b2) one_sv (by unfold maxLen;omega) (by omega) b2.size ?_;intro v3 w3 hown3 hgrow3 _;have b3:=lay_b3 b2 hown2 hgrow3)
     | go_in)
    go_ret;exact⟨_,_,rfl,HL.out,Zew hk hown3,b3⟩
theorem Tryz.infoRule:(prog.info? 73).map (fun i=>(i.zero,i.size,i.bytes))=some (some (.agg #[.string ⟨#[]⟩,.string ⟨#[]⟩,.string ⟨#[]⟩,.slice none 0 0]),4,72):=by kernel_rfl
theorem Zbw{base:Nat}{e:TypeId}{size:Nat}(h:w.ownsRow base e size v n xs):∀ k,v.ownBlock=some k->base<=k:=by
 intro k hk
 rcases h.2 with ⟨rfl,_⟩ | ⟨g,cap,cur,rfl,hb,_⟩
 ·cases hk
 ·cases hk;exact hb
def Zap(l:List (Ru×Value)):List Value:=l.flatMap fun x=>[.string (ba x.1.out),.string (ba x.1.kind),.string (ba x.1.word),x.2]
theorem Zov(l:List (Ru×Value))(x:Ru×Value):Zap (l++[x])=Zap l++[.string (ba x.1.out),.string (ba x.1.kind),.string (ba x.1.word),x.2]:=by simp[Zap]
theorem Zec:∀(l:List (Ru×Value)) (j:Nat) (h:j<l.length),(Zap l)[j*4]? =some (.string (ba l[j].1.out))/\(Zap l)[j*4+1]? =some (.string (ba l[j].1.kind))/\(Zap l)[j*4+2]? =some (.string (ba l[j].1.word))/\(Zap l)[j*4+3]? =some l[j].2
 | x::r,0,_=>by simp[Zap]
 | x::r,j+1,h=>by
  have ih:=Zec r j (by simpa using h)
  have e:Zap (x::r)=.string (ba x.1.out):: .string (ba x.1.kind):: .string (ba x.1.word)::x.2::Zap r:=by simp[Zap]
  rw[e,show(j+1)*4=j*4+1+1+1+1 by omega]
  simpa[Nat.add_assoc] using ih
theorem RRow.of_owns{base:Nat}{l:List (Ru×Value)}(h:w.ownsRow base 73 4 v n (Zap l))(hn:n=l.length)(hx:∀ x∈l,XRow w x.2 x.1.ins):RRow w v (l.map Prod.fst):=by
 subst hn;rcases h.2 with ⟨rfl,hn⟩ | ⟨g,cap,cur,rfl,_,hb,h1,_,_,h4⟩
 ·obtain rfl:l=[]:=by simpa using hn
  exact RRow.nil w
 ·refine⟨some ⟨g,0,none⟩,cap,by simp,by simpa using h1,fun h=>(by cases h),fun _=>⟨g,0,rfl,(Array.getElem?_eq_some_iff.1 hb).1,fun j hj=> ?_⟩⟩
  have hj':j<l.length:=by simpa using hj
  have key:∀ i x,i<l.length*4->(Zap l)[i]? =some x->w.cell? ⟨g,i,none⟩=some x:=fun i x hi hx=>by
   have:=congrArg (fun y=>y[i]?) h4
   simp only[List.getElem?_take,hi,if_true,hx,Array.getElem?_toList]at this
   exact Zab hb this
  obtain⟨a0,a1,a2,a3⟩:=Zec l j hj';rw[Nat.zero_add,List.getElem_map];exact⟨key _ _ (by omega) a0,key _ _ (by omega) a1,key _ _ (by omega) a2,_,key _ _ (by omega) a3,hx _ (List.getElem_mem hj')⟩
theorem Ycq(W:World)(x0 x1 x2 x3:Value)(t:TypeId)(n:Nat)(hn:W.heap.size=n)(j:Nat)(u:Value)(h:[x0,x1,x2,x3][j]? =some u):(W.alloc (.cells #[x0,x1,x2,x3] t)).cell? ((⟨n,0,none⟩:Addr).add j)=some u:=by
 subst hn;rw[Zdv,Nat.zero_add,World.cell?_alloc_at _ _ _ _ rfl];simpa using h
