import Derived.WideMake
import Derived.Test.YtcplmkhclckagaaGreatDoorPR07
import Derived.Test.YtcplmkhclckagaaGreatDoorPR06
set_option maxRecDepth 100000
set_option maxHeartbeats 4000000
open Go.Proofs.Tryz
namespace Go.Proofs.YtcplmkhclckagaaGreatDoor
open Go.RowKit Go.Shelf Go.Lib
variable {P:Program}{w:World}
theorem Zlj(t kt et:TypeId)(r clock:Nat)(es:List MapEntry)(s:ByteArray)(val:Value)(hm:P.underlying t=some (.map kt et))(hk:P.underlying kt=some .string)(hb:w.heap[r]? =some (.map es.toArray clock)) 
  (hnew:Instr.findNow .string (.string s) es 0=some none) :
  (Instr.mapUpdate t (.map (some r)) (.string s) val).run P w=.ok () { w with heap:=w.heap.setIfInBounds r (.map (es++[({ key:=.string s,val:=val,born:=clock }:MapEntry)]).toArray (clock+1)) }:=by
 have hc:(Instr.checkKey false 10000 kt (.string s)).run P w=.ok () w:=MapKept.run_checkKey (k:=.string s) hk (by simp[MapKept.IsKey]) false 9999
 simp[Instr.mapUpdate,run_underlying hm,MapKept.run_getObj_map hb,hc,MapKept.run_findKey hk hnew,MapKept.run_setObj_map _ hb,Result.andThen]
theorem Zeb(t kt et:TypeId)(r clock:Nat)(es:List MapEntry)(s:ByteArray)(hm:P.underlying t=some (.map kt et))(hk:P.underlying kt=some .string)(hb:w.heap[r]? =some (.map es.toArray clock)) 
  (i:Nat) (v:Value) (hf:Instr.findNow .string (.string s) es 0=some (some (i,v))) :
  (Instr.lookup t (.map (some r)) (.string s) true).run P w=.ok (.tuple #[v,.bool true]) w:=by
 have hc:∀ b,(Instr.checkKey b 10000 kt (.string s)).run P w=.ok () w:=fun b=>MapKept.run_checkKey (k:=.string s) hk (by simp[MapKept.IsKey]) b 9999
 simp[Instr.lookup,run_underlying hm,MapKept.run_getObj_map hb,hc,MapKept.run_findKey hk hf,Result.andThen]
theorem Zfl(t kt et:TypeId)(r clock:Nat)(es:List MapEntry)(s:ByteArray)(hm:P.underlying t=some (.map kt et))(hk:P.underlying kt=some .string)(hb:w.heap[r]? =some (.map es.toArray clock)) 
  (z:Value) (hz:(zeroValue et).run P w=.ok z w) (hf:Instr.findNow .string (.string s) es 0=some none) :
  (Instr.lookup t (.map (some r)) (.string s) true).run P w=.ok (.tuple #[z,.bool false]) w:=by
 have hc:∀ b,(Instr.checkKey b 10000 kt (.string s)).run P w=.ok () w:=fun b=>MapKept.run_checkKey (k:=.string s) hk (by simp[MapKept.IsKey]) b 9999
 simp[Instr.lookup,run_underlying hm,MapKept.run_getObj_map hb,hc,MapKept.run_findKey hk hf,hz,Result.andThen]
structure KS(w0 W:World)(B:Nat)(es:List MapEntry)(l:List Obj):Prop where
 map:W.heap[B]? =some (.map es.toArray es.length)
 below:Below B w0 W
 size:W.heap.size=B+1+l.length
 objs:∀ i (h:i<l.length),W.heap[B+1+i]? =some l[i]
theorem KS.start(w:World):KS w (w.alloc (.map #[] 0)) w.heap.size [] [] :=
 ⟨by show(w.heap.push _)[w.heap.size]? =_;simp,(Below.refl _ w).alloc (Nat.le_refl _) _,by show(w.heap.push _).size=_;simp,fun i h=>by simp at h⟩
theorem KS.alloc{w0 W:World}{B:Nat}{es:List MapEntry}{l:List Obj}(h:KS w0 W B es l)(o:Obj):KS w0 (W.alloc o) B es (l++[o]):=by
 have hs:=h.size;refine⟨?_,h.below.alloc (by omega) _,by show(W.heap.push o).size=_;simp[hs];omega,fun i hi=> ?_⟩
 ·have:B<W.heap.size:=by omega
  show(W.heap.push o)[_]? =_
  rw[Array.getElem?_push_lt this,<- Array.getElem?_eq_getElem]
  exact h.map
 ·simp only[List.length_append,List.length_cons,List.length_nil]at hi;by_cases hl:i<l.length
  ·have:B+1+i<W.heap.size:=by omega
   show(W.heap.push o)[_]? =_
   rw[Array.getElem?_push_lt this,<- Array.getElem?_eq_getElem,h.objs i hl,List.getElem_append_left hl]
  ·have:B+1+i=W.heap.size:=by omega
   show(W.heap.push o)[_]? =_
   rw[this,Array.getElem?_push_size,List.getElem_append_right (by omega)]
   simp
theorem Zar(w:World){ops:Array Oper}{rest:List Oper}{o:Oper}{a:Act}{Q:Exit->Act->World->Prop} 
  (hg:o.guard=none) (m x v:Operand) (t:TypeId) (hop:o.op=Op.insert t m x v)
  (k e:TypeId) (ht:P.underlying t=some (.map k e)) (hk:P.underlying k=some .string) {w0:World} {b:Nat} {es:List MapEntry} {l:List Obj} (hS:KS w0 w b es l)
  (hm:a.eval m=.map (some b)) (key:ByteArray) (val:Value) (hx:a.eval x=.string key) (hv:a.eval v=val)
  (hnew:Instr.findNow .string (.string key) es 0=some none)
  (hK:∀ w',KS w0 w' b (es++[({ key:=.string key,val:=val,born:=es.length }:MapEntry)]) l->wpList P ops Q rest (a.put o.dst undef) w') :
  wpList P ops Q (o::rest) a w:=by
 refine wpList_plain hg fun K' hK'=> ?_
 have hrun:=Zlj t k e b es.length es key val ht hk hS.map hnew;have hs:=hS.size;have hr:b<w.heap.size:=by omega
 unfold Oper.wp;simp[execOp,hop,hm,hx,hv,hrun,Result.andThen];refine hK' _ _ (hK _ ⟨?_,⟨hS.below.os,hS.below.tape,hS.below.output,by simpa using hS.below.size,?_⟩,by simpa using hs,?_⟩)
 ·simp[hr]
 ·intro j hj
  have:b≠j:=by omega
  simp[this];exact hS.below.block j hj
 ·intro i hi
  have:b≠b+1+i:=by omega
  simp[this];exact hS.objs i hi
variable {w0 W:World}{B:Nat}{es:List MapEntry}
theorem Ztu{l:List Obj}(h:KS w0 W B es l)(o:Obj)(n c:Nat):
  Calls prog 253 #[.slice (some ⟨W.heap.size,0,none⟩) n c] (W.alloc o) fun e w'=>e=.returned (.func (.func 270) #[] #[.pointer (some ⟨B+1+(l.length+1),0,none⟩)])/\KS w0 w' B es (l++[o,.cells #[.slice (some ⟨B+1+l.length,0,none⟩) n c] 52]):=by
 have hs:=h.size;have h2:=(h.alloc o).alloc (.cells #[.slice (some ⟨W.heap.size,0,none⟩) n c] 52);rw[List.append_assoc,hs]at h2;rw[hs];have hs2:=(h.alloc o).size;simp only[List.length_append,List.length_cons,List.length_nil]at hs2;generalize W.alloc o=W2 at *;go_enter func253,ntmps253
 go_wp2;go_ret;exact⟨rfl,h2⟩
theorem Zmv{l:List Obj}(h:KS w0 W B es l)(f:Nat):
  Calls prog 254 #[.func (.func f) #[] #[]] W fun e w'=>e=.returned (.func (.func 271) #[] #[.pointer (some ⟨B+1+l.length,0,none⟩)])/\KS w0 w' B es (l++[.cells #[.func (.func f) #[] #[]] 342]):=by
 have hs:=h.size;have h2:=h.alloc (.cells #[.func (.func f) #[] #[]] 342);go_enter func254,ntmps254
 go_wp2;go_ret;exact⟨rfl,h2⟩
abbrev fn(g:Nat):Value:=.func (.func g) #[] #[]
abbrev cl(g B i:Nat):Value:=.func (.func g) #[] #[.pointer (some ⟨B+1+i,0,none⟩)]
abbrev kd(a b:Int)(t r:Value):Value:=.agg #[.int .i64 a,.int .i64 b,t,r]
abbrev txtv(l:List UInt8):Value:=.string ⟨l.toArray⟩
abbrev ent(n:List UInt8)(v:Value)(i:Nat):MapEntry:={ key:=txtv n,val:=v,born:=i }
abbrev sl1(B i n:Nat):Value:=.slice (some ⟨B+1+i,0,none⟩) n n
def kindsE(B:Nat):List MapEntry :=
 [ent [119,114,105,116,101] (kd 0 0 (fn 250) (fn 251)) 0,ent [106,111,105,110] (kd 1 8 (fn 250) (fn 252)) 1,
  ent [117,112,112,101,114] (kd 1 1 (cl 270 B 1) (cl 271 B 2)) 2,ent [108,105,110,101,115] (kd 1 1 (fn 250) (cl 271 B 3)) 3,
  ent [115,111,114,116] (kd 1 8 (cl 270 B 5) (fn 258)) 4,ent [99,111,117,110,116] (kd 1 8 (cl 270 B 7) (fn 259)) 5,
  ent [115,119,97,112] (kd 1 1 (fn 261) (cl 271 B 8)) 6,ent [104,101,97,100] (kd 1 1 (fn 263) (cl 271 B 9)) 7]
def kindsO(B:Nat):List Obj :=
 [.cells #[txtv []] 9,.cells #[sl1 B 0 1] 52,.cells #[fn 255] 342,.cells #[fn 257] 342,.cells #[txtv [],txtv [111,110,99,101]] 9,.cells #[sl1 B 4 2] 52,.cells #[txtv []] 9,.cells #[sl1 B 6 1] 52,.cells #[fn 262] 342,.cells #[fn 264] 342]
theorem Zbm(w:World):Calls prog 238 #[] w fun e w'=>e=.returned (.map (some w.heap.size))/\KS w w' w.heap.size (kindsE w.heap.size) (kindsO w.heap.size):=by
 have hmm:= @run_makeMap prog;have hk:=KS.start w;go_enter func238,ntmps238
 go_wp2_with (refine Zar _ rfl _ _ _ 328 rfl 9 307 underlying328 underlying9 hk rfl _ _ rfl rfl (by rfl) ?_;clear hk;intro w1 hk;simp[Act.eval]at hk)
 refine(Ztu hk _ _ _).mono ?_;clear hk;rintro e w1 ⟨rfl,hk⟩;simp at hk;go_wp2_with (refine Zar _ rfl _ _ _ 328 rfl 9 307 underlying328 underlying9 hk rfl _ _ rfl rfl (by rfl) ?_;clear hk;intro w1 hk;simp[Act.eval]at hk)
 refine(Zmv hk _).mono ?_;clear hk;rintro e w1 ⟨rfl,hk⟩;simp at hk;go_wp2_with (refine Zar _ rfl _ _ _ 328 rfl 9 307 underlying328 underlying9 hk rfl _ _ rfl rfl (by rfl) ?_;clear hk;intro w1 hk;simp[Act.eval]at hk)
 refine(Zmv hk _).mono ?_;clear hk;rintro e w1 ⟨rfl,hk⟩;simp at hk;go_wp2_with (refine Zar _ rfl _ _ _ 328 rfl 9 307 underlying328 underlying9 hk rfl _ _ rfl rfl (by rfl) ?_;clear hk;intro w1 hk;simp[Act.eval]at hk)
 refine(Ztu hk _ _ _).mono ?_;clear hk;rintro e w1 ⟨rfl,hk⟩;simp at hk;go_wp2_with (refine Zar _ rfl _ _ _ 328 rfl 9 307 underlying328 underlying9 hk rfl _ _ rfl rfl (by rfl) ?_;clear hk;intro w1 hk;simp[Act.eval]at hk)
 refine(Ztu hk _ _ _).mono ?_;clear hk;rintro e w1 ⟨rfl,hk⟩;simp at hk;go_wp2_with (refine Zar _ rfl _ _ _ 328 rfl 9 307 underlying328 underlying9 hk rfl _ _ rfl rfl (by rfl) ?_;clear hk;intro w1 hk;simp[Act.eval]at hk)
 refine(Zmv hk _).mono ?_;clear hk;rintro e w1 ⟨rfl,hk⟩;simp at hk;go_wp2_with (refine Zar _ rfl _ _ _ 328 rfl 9 307 underlying328 underlying9 hk rfl _ _ rfl rfl (by rfl) ?_;clear hk;intro w1 hk;simp[Act.eval]at hk)
 refine(Zmv hk _).mono ?_;clear hk;rintro e w1 ⟨rfl,hk⟩;simp at hk;go_wp2_with (refine Zar _ rfl _ _ _ 328 rfl 9 307 underlying328 underlying9 hk rfl _ _ rfl rfl (by rfl) ?_;clear hk;intro w1 hk;simp[Act.eval]at hk)
 go_ret;exact⟨rfl,hk⟩
abbrev zkd:Value:=.agg #[.int .i64 0,.int .i64 0,.nilFunc,.nilFunc]
theorem Zbo{b:Nat}{x0 x1 x2 x3:Value}(e0:W.cell? ⟨b,0,none⟩=some x0)(e1:W.cell? ⟨b,1,none⟩=some x1)(e2:W.cell? ⟨b,2,none⟩=some x2)(e3:W.cell? ⟨b,3,none⟩=some x3)(y0 y1 y2 y3:Value):
  let W':=(((W.setCell ⟨b,0,none⟩ y0).setCell ⟨b,1,none⟩ y1).setCell ⟨b,2,none⟩ y2).setCell ⟨b,3,none⟩ y3
  W'.cell? ⟨b,0,none⟩=some y0/\W'.cell? ⟨b,1,none⟩=some y1/\W'.cell? ⟨b,2,none⟩=some y2/\W'.cell? ⟨b,3,none⟩=some y3:=by
 have o (V:World) (i j:Nat) (h:i≠j) (y:Value):(V.setCell ⟨b,j,none⟩ y).cell? ⟨b,i,none⟩=V.cell? ⟨b,i,none⟩:=World.cell?_setCell_other _ _ _ _ (fun e=>h (by cases e;rfl))
 have t (V:World) (i:Nat) (x:Value) (h:V.cell? ⟨b,i,none⟩=some x) (y:Value):(V.setCell ⟨b,i,none⟩ y).cell? ⟨b,i,none⟩=some y:=World.cell?_setCell_same' _ _ _ (by rw[h];rfl)
 refine⟨?_,?_,?_,?_⟩
 ·rw[o _ 0 3 (by decide),o _ 0 2 (by decide),o _ 0 1 (by decide)]
  exact t _ 0 x0 e0 _
 ·rw[o _ 1 3 (by decide),o _ 1 2 (by decide)]
  exact t _ 1 x1 (by rw[o _ 1 0 (by decide)];exact e1) _
 ·rw[o _ 2 3 (by decide)]
  exact t _ 2 x2 (by rw[o _ 2 1 (by decide),o _ 2 0 (by decide)];exact e2) _
 ·exact t _ 3 x3 (by rw[o _ 3 2 (by decide),o _ 3 1 (by decide),o _ 3 0 (by decide)];exact e3) _
theorem find_none(nm word:ByteArray)(n:Int)(ek:Value)(w:World)(hk:w.cell? ⟨4,0,none⟩=some ek)(h6:4<w.heap.size) 
  (hf:∀ B,Instr.findNow .string (.string nm) (kindsE B) 0=some none) :
  Calls prog 215 #[.string nm,.string word,.int .i64 n] w fun e w'=>e=.returned (.tuple #[zkd,ek])/\Below w.heap.size w w':=by
 have g0:Below w.heap.size w (w.alloc (.cells #[.int .i64 0,.int .i64 0,.nilFunc,.nilFunc] 307)):=(Below.refl _ w).alloc (Nat.le_refl _) _;have hkin:=Zbm (w.alloc (.cells #[.int .i64 0,.int .i64 0,.nilFunc,.nilFunc] 307));go_enter func215,ntmps215
 go_wp2_with fail;refine hkin.mono ?_;rintro e w1 ⟨rfl,hks⟩;have hL:=Zfl (P:=prog) (w:=w1) 328 9 307 _ _ _ nm underlying328 underlying9 hks.map zkd (by kernel_rfl) (hf _)
 have hb1:=hks.below;have hs1:=hks.size;have hk1:w1.cell? ⟨4,0,none⟩=some ek:=by
  rw[Zam hb1 (by simp;omega),Zam g0 h6]
  exact hk
 have g1:Below w.heap.size w w1:=⟨hb1.os.trans g0.os,hb1.tape.trans g0.tape,hb1.output.trans g0.output,by have:=hb1.size;simp at this;omega,fun i hi=>(hb1.block i (by simp;omega)).trans (g0.block i hi)⟩
 have hsz:(w.alloc (.cells #[.int .i64 0,.int .i64 0,.nilFunc,.nilFunc] 307)).heap.size=w.heap.size+1:=by simp
 rw[hsz]at hL hs1;have hcA:∀ j,w1.cell? ⟨w.heap.size,j,none⟩=(#[.int .i64 0,.int .i64 0,.nilFunc,.nilFunc]:Array Value)[j]? :=fun j=>by
  rw[Zam hb1 (j:=j) (by simp),World.cell?_alloc_at _ _ _ _ rfl]
 have hA0:=hcA 0;have hA1:=hcA 1;have hA2:=hcA 2;have hA3:=hcA 3;have hfA:∀ j,w1.frozen? ⟨w.heap.size,j,none⟩=false:=fun j=>by
  rw[World.frozen?_of_block (hb1.block w.heap.size (by simp))]
  show(match (w.heap.push _)[w.heap.size]? with | some (Obj.cells _ _ (lo,hi))=>_ | _=>_)=_
  simp
 have hsA:w.heap.size<w1.heap.size:=by rw[hs1];omega
 have hnf:∀(a:Addr) (m:Mode) (W:World),Sem.run prog (store a .nilFunc m) W=stored prog W a .nilFunc m:=fun a m W=>run_store _ W a _ m rfl
 clear hkin hks hf hb1 g0 hsz hcA;go_wp2;have gC:Below w1.heap.size w1 (w1.alloc (.cells #[.int .i64 0,.int .i64 0,.nilFunc,.nilFunc] 307)):=(Below.refl _ w1).alloc (Nat.le_refl _) _;have hk2:=(Zam gC (j:=0) (show 4<w1.heap.size by omega)).trans hk1
 have hB0:=(Zam gC (j:=0) hsA).trans hA0;have hB1:=(Zam gC (j:=1) hsA).trans hA1;have hB2:=(Zam gC (j:=2) hsA).trans hA2;have hB3:=(Zam gC (j:=3) hsA).trans hA3
 have hG:∀ j,(w1.alloc (.cells #[.int .i64 0,.int .i64 0,.nilFunc,.nilFunc] 307)).frozen? ⟨w.heap.size,j,none⟩=false:=fun j=>(World.frozen?_of_block (gC.block w.heap.size hsA)).trans (hfA j)
 have hG0:=hG 0;have hG1:=hG 1;have hG2:=hG 2;have hG3:=hG 3;have g2:Below w.heap.size w (w1.alloc (.cells #[.int .i64 0,.int .i64 0,.nilFunc,.nilFunc] 307)):=g1.alloc (by omega) _
 clear hL hs1 hk1 g1 hA0 hA1 hA2 hA3 hfA gC hG hsA;generalize w1.alloc (.cells #[.int .i64 0,.int .i64 0,.nilFunc,.nilFunc] 307)=W at *;go_region
 all_goals go_wp2
 have e0:W.cell? ⟨w.heap.size,0,none⟩=some (.int .i64 0):=hB0;have e1:W.cell? ⟨w.heap.size,1,none⟩=some (.int .i64 0):=hB1;have e2:W.cell? ⟨w.heap.size,2,none⟩=some .nilFunc:=hB2;have e3:W.cell? ⟨w.heap.size,3,none⟩=some .nilFunc:=hB3;refine bodyPost_ret (v:=.tuple #[zkd,ek]) ?_ rfl ⟨rfl,?_⟩
 ·have k0:=Zbo e0 e1 e2 e3 (.int .i64 0) (.int .i64 0) .nilFunc .nilFunc;obtain⟨k0,k1,k2,k3⟩:=k0;simp[results,f215,go_sem,k0,k1,k2,k3]
 ·exact Zad ((((g2.setCell (p:=⟨w.heap.size,0,none⟩) (Nat.le_refl _) _).setCell (p:=⟨w.heap.size,1,none⟩) (Nat.le_refl _) _).setCell (p:=⟨w.heap.size,2,none⟩) (Nat.le_refl _) _).setCell (p:=⟨w.heap.size,3,none⟩) (Nat.le_refl _) _) 1
def Objs(W:World)(B:Nat):Prop:=∀ i (h:i<(kindsO B).length),W.heap[B+1+i]? =some (kindsO B)[i]
abbrev tfn(g:Nat)(c:Array Value):Value:=.func (.func g) #[] c
variable {w1:World}
theorem Zcq(hb1:Below (w.heap.size+1) (w.alloc (.cells #[.int .i64 0,.int .i64 0,.nilFunc,.nilFunc] 307)) w1):
  w1.heap[w.heap.size]? =some (.cells #[.int .i64 0,.int .i64 0,.nilFunc,.nilFunc] 307 (0,0)):=by
 rw[hb1.block w.heap.size (by omega)]
 show(w.heap.push _)[w.heap.size]? =_
 simp
structure FindW(w w1 W:World)(c:Array Value):Prop where
 below:Below w.heap.size w W
 objs:Objs W (w.heap.size+1)
 res:W.heap[w.heap.size]? =some (.cells #[.int .i64 0,.int .i64 0,.nilFunc,.nilFunc] 307 (0,0))
 kind:W.heap[w1.heap.size]? =some (.cells c 307 (0,0))
 size:w.heap.size+12<W.heap.size
 first:w1.heap.size=w.heap.size+12
variable {c:Array Value}
theorem find_w(g1:Below w.heap.size w w1)(hO:Objs w1 (w.heap.size+1))(hC:w1.heap[w.heap.size]? =some (.cells #[.int .i64 0,.int .i64 0,.nilFunc,.nilFunc] 307 (0,0))) 
  (hs:w1.heap.size=w.heap.size+1+1+10):FindW w w1 (w1.alloc (.cells c 307)) c:=by
 have gC:Below w1.heap.size w1 (w1.alloc (.cells c 307)):=(Below.refl _ w1).alloc (Nat.le_refl _) _;refine⟨g1.alloc (by omega) _,fun i h=> ?_,?_,?_,?_,by omega⟩
 ·have hl:(kindsO (w.heap.size+1)).length=10:=rfl;rw[gC.block _ (by omega)]
  exact hO i h
 ·rw[gC.block _ (by omega)]
  exact hC
 ·show(w1.heap.push _)[w1.heap.size]? =_
  simp
 ·show _<(w1.heap.push _).size
  simp;omega
variable {W':World}
theorem FindW.stays(h:FindW w w1 W c)(hb:Below W.heap.size W W'):FindW w w1 W' c:=by
 have h1:=h.size;have h2:=h.first;have h3:=hb.size;refine⟨⟨hb.os.trans h.below.os,hb.tape.trans h.below.tape,hb.output.trans h.below.output,by omega,fun i hi=>(hb.block i (by omega)).trans (h.below.block i hi)⟩,fun i hi=> ?_,?_,?_,by omega,h2⟩
 ·have hl:(kindsO (w.heap.size+1)).length=10:=rfl;rw[hb.block _ (by omega)]
  exact h.objs i hi
 ·rw[hb.block _ (by omega)]
  exact h.res
 ·rw[hb.block _ (by omega)]
  exact h.kind
theorem FindW.resCells(h:FindW w w1 W c):W.cell? ⟨w.heap.size,0,none⟩=some (.int .i64 0)/\W.cell? ⟨w.heap.size,1,none⟩=some (.int .i64 0)/\W.cell? ⟨w.heap.size,2,none⟩=some .nilFunc/\W.cell? ⟨w.heap.size,3,none⟩=some .nilFunc :=
 ⟨by simp[World.cell?,h.res],by simp[World.cell?,h.res],by simp[World.cell?,h.res],by simp[World.cell?,h.res]⟩
theorem FindW.resFree(h:FindW w w1 W c)(j:Nat):W.frozen? ⟨w.heap.size,j,none⟩=false:=by simp[World.frozen?,h.res]
theorem FindW.old(h:FindW w w1 W c){k j:Nat}{x:Value}(hk:k<w.heap.size)(hx:w.cell? ⟨k,j,none⟩=some x):W.cell? ⟨k,j,none⟩=some x:=(Zam h.below hk).trans hx
theorem FindW.done(h:FindW w w1 W c)(y0 y1 y2 y3:Value)(q:Nat):
  let W':=((((W.setCell ⟨w.heap.size,0,none⟩ y0).setCell ⟨w.heap.size,1,none⟩ y1).setCell ⟨w.heap.size,2,none⟩ y2).setCell ⟨w.heap.size,3,none⟩ y3).drewN q
  Below w.heap.size w W'/\Objs W' (w.heap.size+1):=by
 refine⟨Zad ((((h.below.setCell (p:=⟨w.heap.size,0,none⟩) (Nat.le_refl _) _).setCell (p:=⟨w.heap.size,1,none⟩) (Nat.le_refl _) _).setCell (p:=⟨w.heap.size,2,none⟩) (Nat.le_refl _) _).setCell (p:=⟨w.heap.size,3,none⟩) (Nat.le_refl _) _) q,fun i hi=> ?_⟩
 have o (V:World) (j:Nat) (y:Value):(V.setCell ⟨w.heap.size,j,none⟩ y).heap[w.heap.size+1+1+i]? =V.heap[w.heap.size+1+1+i]? :=Below.heap_setCell _ _ _ _ (by show _≠w.heap.size;omega)
 show(((((W.setCell ⟨w.heap.size,0,none⟩ y0).setCell ⟨w.heap.size,1,none⟩ y1).setCell ⟨w.heap.size,2,none⟩ y2).setCell ⟨w.heap.size,3,none⟩ y3).drewN q).heap[_]? =_
 rw[show(((((W.setCell ⟨w.heap.size,0,none⟩ y0).setCell ⟨w.heap.size,1,none⟩ y1).setCell ⟨w.heap.size,2,none⟩ y2).setCell ⟨w.heap.size,3,none⟩ y3).drewN q).heap=((((W.setCell ⟨w.heap.size,0,none⟩ y0).setCell ⟨w.heap.size,1,none⟩ y1).setCell ⟨w.heap.size,2,none⟩ y2).setCell ⟨w.heap.size,3,none⟩ y3).heap from rfl,o,o,o,o]
 exact h.objs i hi
theorem Yai(nm word:ByteArray)(n a b:Int)(gt gr:Nat)(ct cr:Array Value)(tk:Bool)(es el:Value)(w:World) 
  (_hes:w.cell? ⟨2,0,none⟩=some es) (_hel:w.cell? ⟨9,0,none⟩=some el) (_h6:20<w.heap.size)
  (i:Nat) (hf:Instr.findNow .string (.string nm) (kindsE (w.heap.size+1)) 0=some (some (i,kd a b (tfn gt ct) (tfn gr cr))))
  (eg:∀ args w,(callFunc gt args).run prog w=.ok (.enter gt args) w)
  (HT:Hid (∀ W,Below w.heap.size w W->Objs W (w.heap.size+1)->Calls prog gt (#[.string word]++ct) W fun e w'=>e=.returned (.bool tk)/\Below W.heap.size W w'))
  (he:a<=n/\n<=b/\tk=true/\word.size<=100) :
  Calls prog 215 #[.string nm,.string word,.int .i64 n] w fun e w'=>e=.returned (.tuple #[kd a b (tfn gt ct) (tfn gr cr),.nilIface])/\Below w.heap.size w w'/\Objs w' (w.heap.size+1):=by
 have g0:Below w.heap.size w (w.alloc (.cells #[.int .i64 0,.int .i64 0,.nilFunc,.nilFunc] 307)):=(Below.refl _ w).alloc (Nat.le_refl _) _;have hkin:=Zbm (w.alloc (.cells #[.int .i64 0,.int .i64 0,.nilFunc,.nilFunc] 307));have hsz:(w.alloc (.cells #[.int .i64 0,.int .i64 0,.nilFunc,.nilFunc] 307)).heap.size=w.heap.size+1:=by simp
 rw[hsz]at hkin;go_enter func215,ntmps215
 go_wp2_with fail;refine hkin.mono ?_;rintro e w1 ⟨rfl,hks⟩;have hL:=Zeb (P:=prog) (w:=w1) 328 9 307 _ _ _ nm underlying328 underlying9 hks.map i _ hf;have hb1:=hks.below;have hs1:=hks.size;have hnt:∀(a:Addr) (m:Mode) (W:World),Sem.run prog (store a (tfn gt ct) m) W=stored prog W a (tfn gt ct) m:=fun a m W=>run_store _ W a _ m rfl
 have hnr:∀(a:Addr) (m:Mode) (W:World),Sem.run prog (store a (tfn gr cr) m) W=stored prog W a (tfn gr cr) m:=fun a m W=>run_store _ W a _ m rfl
 have g1:Below w.heap.size w w1:=⟨hb1.os.trans g0.os,hb1.tape.trans g0.tape,hb1.output.trans g0.output,by have:=hb1.size;simp at this;omega,fun i hi=>(hb1.block i (by omega)).trans (g0.block i hi)⟩
 have hO1:Objs w1 (w.heap.size+1):=hks.objs;have hC1:=Zcq hb1;have hlen:(kindsO (w.heap.size+1)).length=10:=rfl;rw[hlen]at hs1;have F:FindW w w1 (w1.alloc (.cells #[.int .i64 a,.int .i64 b,tfn gt ct,tfn gr cr] 307)) #[.int .i64 a,.int .i64 b,tfn gt ct,tfn gr cr]:=find_w g1 hO1 hC1 hs1;clear hkin hks g0 hb1 hsz hf hO1 hC1 g1;obtain⟨ha,hb,htk,hw⟩:=he
 have d1:decide (n<a)=false:=by simp;omega
 have d2:decide (b<n)=false:=by simp;omega
 have d3:decide ((100:Int)<(word.size:Int))=false:=by simp;omega
 have HC:=HT.out _ F.below F.objs;rw[htk]at HC;go_wp2_with fail;refine HC.mono ?_;rintro e w3 ⟨rfl,hb3⟩;have F3:=F.stays hb3;clear F hb3 HC hL;obtain⟨k0,k1,k2,k3⟩:=F3.resCells;have f0:=F3.resFree 0;have f1:=F3.resFree 1;have f2:=F3.resFree 2;have f3:=F3.resFree 3;have c0:w3.cell? ⟨w1.heap.size,0,none⟩=some (.int .i64 a):=by simp[World.cell?,F3.kind]
 have c1:w3.cell? ⟨w1.heap.size,1,none⟩=some (.int .i64 b):=by simp[World.cell?,F3.kind]
 have c2:w3.cell? ⟨w1.heap.size,2,none⟩=some (tfn gt ct):=by simp[World.cell?,F3.kind]
 have c3:w3.cell? ⟨w1.heap.size,3,none⟩=some (tfn gr cr):=by simp[World.cell?,F3.kind]
 rw[hs1]at c0 c1 c2 c3;go_wp2;refine bodyPost_ret (v:=.tuple #[kd a b (tfn gt ct) (tfn gr cr),.nilIface]) ?_ rfl ⟨rfl,F3.done _ _ _ _ 0⟩;obtain⟨q0,q1,q2,q3⟩:=Zbo k0 k1 k2 k3 (.int .i64 a) (.int .i64 b) (tfn gt ct) (tfn gr cr);simp[results,f215,go_sem,q0,q1,q2,q3]
theorem Ycs(nm word:ByteArray)(n a b:Int)(gt gr:Nat)(ct cr:Array Value)(tk:Bool)(es el:Value)(w:World) 
  (hes:w.cell? ⟨2,0,none⟩=some es) (_hel:w.cell? ⟨9,0,none⟩=some el) (_h6:20<w.heap.size)
  (i:Nat) (hf:Instr.findNow .string (.string nm) (kindsE (w.heap.size+1)) 0=some (some (i,kd a b (tfn gt ct) (tfn gr cr))))
  (_eg:∀ args w,(callFunc gt args).run prog w=.ok (.enter gt args) w)
  (_HT:Hid (∀ W,Below w.heap.size w W->Objs W (w.heap.size+1)->Calls prog gt (#[.string word]++ct) W fun e w'=>e=.returned (.bool tk)/\Below W.heap.size W w'))
  (he:n<a) :
  Calls prog 215 #[.string nm,.string word,.int .i64 n] w fun e w'=>e=.returned (.tuple #[zkd,es])/\Below w.heap.size w w'/\Objs w' (w.heap.size+1):=by
 have g0:Below w.heap.size w (w.alloc (.cells #[.int .i64 0,.int .i64 0,.nilFunc,.nilFunc] 307)):=(Below.refl _ w).alloc (Nat.le_refl _) _;have hkin:=Zbm (w.alloc (.cells #[.int .i64 0,.int .i64 0,.nilFunc,.nilFunc] 307));have hsz:(w.alloc (.cells #[.int .i64 0,.int .i64 0,.nilFunc,.nilFunc] 307)).heap.size=w.heap.size+1:=by simp
 rw[hsz]at hkin;go_enter func215,ntmps215
 go_wp2_with fail;refine hkin.mono ?_;rintro e w1 ⟨rfl,hks⟩;have hL:=Zeb (P:=prog) (w:=w1) 328 9 307 _ _ _ nm underlying328 underlying9 hks.map i _ hf;have hb1:=hks.below;have hs1:=hks.size;have hnf:∀(a:Addr) (m:Mode) (W:World),Sem.run prog (store a .nilFunc m) W=stored prog W a .nilFunc m:=fun a m W=>run_store _ W a _ m rfl
 have hnt:∀(a:Addr) (m:Mode) (W:World),Sem.run prog (store a (tfn gt ct) m) W=stored prog W a (tfn gt ct) m:=fun a m W=>run_store _ W a _ m rfl
 have hnr:∀(a:Addr) (m:Mode) (W:World),Sem.run prog (store a (tfn gr cr) m) W=stored prog W a (tfn gr cr) m:=fun a m W=>run_store _ W a _ m rfl
 have g1:Below w.heap.size w w1:=⟨hb1.os.trans g0.os,hb1.tape.trans g0.tape,hb1.output.trans g0.output,by have:=hb1.size;simp at this;omega,fun i hi=>(hb1.block i (by omega)).trans (g0.block i hi)⟩
 have hO1:Objs w1 (w.heap.size+1):=hks.objs;have hC1:=Zcq hb1;have hlen:(kindsO (w.heap.size+1)).length=10:=rfl;rw[hlen]at hs1;have F:FindW w w1 (w1.alloc (.cells #[.int .i64 a,.int .i64 b,tfn gt ct,tfn gr cr] 307)) #[.int .i64 a,.int .i64 b,tfn gt ct,tfn gr cr]:=find_w g1 hO1 hC1 hs1;clear hkin hks g0 hb1 hsz hf hO1 hC1 g1;go_wp2;have F3:=F;clear F hL
 generalize w1.alloc (.cells #[.int .i64 a,.int .i64 b,tfn gt ct,tfn gr cr] 307)=w3 at *;obtain⟨k0,k1,k2,k3⟩:=F3.resCells;have f0:=F3.resFree 0;have f1:=F3.resFree 1;have f2:=F3.resFree 2;have f3:=F3.resFree 3;have ke:=F3.old (show 2<w.heap.size by omega) hes
 go_region
 all_goals go_wp2
 refine bodyPost_ret (v:=.tuple #[zkd,es]) ?_ rfl ⟨rfl,F3.done _ _ _ _ 1⟩;obtain⟨q0,q1,q2,q3⟩:=Zbo k0 k1 k2 k3 (.int .i64 0) (.int .i64 0) .nilFunc .nilFunc;simp[results,f215,go_sem,q0,q1,q2,q3]
theorem Yah(nm word:ByteArray)(n a b:Int)(gt gr:Nat)(ct cr:Array Value)(tk:Bool)(es el:Value)(w:World) 
  (hes:w.cell? ⟨2,0,none⟩=some es) (_hel:w.cell? ⟨9,0,none⟩=some el) (_h6:20<w.heap.size)
  (i:Nat) (hf:Instr.findNow .string (.string nm) (kindsE (w.heap.size+1)) 0=some (some (i,kd a b (tfn gt ct) (tfn gr cr))))
  (_eg:∀ args w,(callFunc gt args).run prog w=.ok (.enter gt args) w)
  (_HT:Hid (∀ W,Below w.heap.size w W->Objs W (w.heap.size+1)->Calls prog gt (#[.string word]++ct) W fun e w'=>e=.returned (.bool tk)/\Below W.heap.size W w'))
  (he:a<=n/\b<n) :
  Calls prog 215 #[.string nm,.string word,.int .i64 n] w fun e w'=>e=.returned (.tuple #[zkd,es])/\Below w.heap.size w w'/\Objs w' (w.heap.size+1):=by
 have g0:Below w.heap.size w (w.alloc (.cells #[.int .i64 0,.int .i64 0,.nilFunc,.nilFunc] 307)):=(Below.refl _ w).alloc (Nat.le_refl _) _;have hkin:=Zbm (w.alloc (.cells #[.int .i64 0,.int .i64 0,.nilFunc,.nilFunc] 307));have hsz:(w.alloc (.cells #[.int .i64 0,.int .i64 0,.nilFunc,.nilFunc] 307)).heap.size=w.heap.size+1:=by simp
 rw[hsz]at hkin;go_enter func215,ntmps215
 go_wp2_with fail;refine hkin.mono ?_;rintro e w1 ⟨rfl,hks⟩;have hL:=Zeb (P:=prog) (w:=w1) 328 9 307 _ _ _ nm underlying328 underlying9 hks.map i _ hf;have hb1:=hks.below;have hs1:=hks.size;have hnf:∀(a:Addr) (m:Mode) (W:World),Sem.run prog (store a .nilFunc m) W=stored prog W a .nilFunc m:=fun a m W=>run_store _ W a _ m rfl
 have hnt:∀(a:Addr) (m:Mode) (W:World),Sem.run prog (store a (tfn gt ct) m) W=stored prog W a (tfn gt ct) m:=fun a m W=>run_store _ W a _ m rfl
 have hnr:∀(a:Addr) (m:Mode) (W:World),Sem.run prog (store a (tfn gr cr) m) W=stored prog W a (tfn gr cr) m:=fun a m W=>run_store _ W a _ m rfl
 have g1:Below w.heap.size w w1:=⟨hb1.os.trans g0.os,hb1.tape.trans g0.tape,hb1.output.trans g0.output,by have:=hb1.size;simp at this;omega,fun i hi=>(hb1.block i (by omega)).trans (g0.block i hi)⟩
 have hO1:Objs w1 (w.heap.size+1):=hks.objs;have hC1:=Zcq hb1;have hlen:(kindsO (w.heap.size+1)).length=10:=rfl;rw[hlen]at hs1;have F:FindW w w1 (w1.alloc (.cells #[.int .i64 a,.int .i64 b,tfn gt ct,tfn gr cr] 307)) #[.int .i64 a,.int .i64 b,tfn gt ct,tfn gr cr]:=find_w g1 hO1 hC1 hs1;clear hkin hks g0 hb1 hsz hf hO1 hC1 g1
 have d1:decide (n<a)=false:=by simp;omega
 go_wp2;have F3:=F;clear F hL;generalize w1.alloc (.cells #[.int .i64 a,.int .i64 b,tfn gt ct,tfn gr cr] 307)=w3 at *;obtain⟨k0,k1,k2,k3⟩:=F3.resCells;have f0:=F3.resFree 0;have f1:=F3.resFree 1;have f2:=F3.resFree 2;have f3:=F3.resFree 3;have ke:=F3.old (show 2<w.heap.size by omega) hes
 go_region
 all_goals go_wp2
 refine bodyPost_ret (v:=.tuple #[zkd,es]) ?_ rfl ⟨rfl,F3.done _ _ _ _ 1⟩;obtain⟨q0,q1,q2,q3⟩:=Zbo k0 k1 k2 k3 (.int .i64 0) (.int .i64 0) .nilFunc .nilFunc;simp[results,f215,go_sem,q0,q1,q2,q3]
theorem Ydx(nm word:ByteArray)(n a b:Int)(gt gr:Nat)(ct cr:Array Value)(tk:Bool)(es el:Value)(w:World) 
  (hes:w.cell? ⟨2,0,none⟩=some es) (_hel:w.cell? ⟨9,0,none⟩=some el) (_h6:20<w.heap.size)
  (i:Nat) (hf:Instr.findNow .string (.string nm) (kindsE (w.heap.size+1)) 0=some (some (i,kd a b (tfn gt ct) (tfn gr cr))))
  (eg:∀ args w,(callFunc gt args).run prog w=.ok (.enter gt args) w)
  (HT:Hid (∀ W,Below w.heap.size w W->Objs W (w.heap.size+1)->Calls prog gt (#[.string word]++ct) W fun e w'=>e=.returned (.bool tk)/\Below W.heap.size W w'))
  (he:a<=n/\n<=b/\tk=false) :
  Calls prog 215 #[.string nm,.string word,.int .i64 n] w fun e w'=>e=.returned (.tuple #[zkd,es])/\Below w.heap.size w w'/\Objs w' (w.heap.size+1):=by
 have g0:Below w.heap.size w (w.alloc (.cells #[.int .i64 0,.int .i64 0,.nilFunc,.nilFunc] 307)):=(Below.refl _ w).alloc (Nat.le_refl _) _;have hkin:=Zbm (w.alloc (.cells #[.int .i64 0,.int .i64 0,.nilFunc,.nilFunc] 307));have hsz:(w.alloc (.cells #[.int .i64 0,.int .i64 0,.nilFunc,.nilFunc] 307)).heap.size=w.heap.size+1:=by simp
 rw[hsz]at hkin;go_enter func215,ntmps215
 go_wp2_with fail;refine hkin.mono ?_;rintro e w1 ⟨rfl,hks⟩;have hL:=Zeb (P:=prog) (w:=w1) 328 9 307 _ _ _ nm underlying328 underlying9 hks.map i _ hf;have hb1:=hks.below;have hs1:=hks.size;have hnf:∀(a:Addr) (m:Mode) (W:World),Sem.run prog (store a .nilFunc m) W=stored prog W a .nilFunc m:=fun a m W=>run_store _ W a _ m rfl
 have hnt:∀(a:Addr) (m:Mode) (W:World),Sem.run prog (store a (tfn gt ct) m) W=stored prog W a (tfn gt ct) m:=fun a m W=>run_store _ W a _ m rfl
 have hnr:∀(a:Addr) (m:Mode) (W:World),Sem.run prog (store a (tfn gr cr) m) W=stored prog W a (tfn gr cr) m:=fun a m W=>run_store _ W a _ m rfl
 have g1:Below w.heap.size w w1:=⟨hb1.os.trans g0.os,hb1.tape.trans g0.tape,hb1.output.trans g0.output,by have:=hb1.size;simp at this;omega,fun i hi=>(hb1.block i (by omega)).trans (g0.block i hi)⟩
 have hO1:Objs w1 (w.heap.size+1):=hks.objs;have hC1:=Zcq hb1;have hlen:(kindsO (w.heap.size+1)).length=10:=rfl;rw[hlen]at hs1;have F:FindW w w1 (w1.alloc (.cells #[.int .i64 a,.int .i64 b,tfn gt ct,tfn gr cr] 307)) #[.int .i64 a,.int .i64 b,tfn gt ct,tfn gr cr]:=find_w g1 hO1 hC1 hs1;clear hkin hks g0 hb1 hsz hf hO1 hC1 g1;obtain⟨ha,hb,htk⟩:=he
 have d1:decide (n<a)=false:=by simp;omega
 have d2:decide (b<n)=false:=by simp;omega
 have HC:=HT.out _ F.below F.objs;rw[htk]at HC;go_wp2_with fail;refine HC.mono ?_;rintro e w3 ⟨rfl,hb3⟩;have F3:=F.stays hb3;clear F hb3 HC hL;obtain⟨k0,k1,k2,k3⟩:=F3.resCells;have f0:=F3.resFree 0;have f1:=F3.resFree 1;have f2:=F3.resFree 2;have f3:=F3.resFree 3;have ke:=F3.old (show 2<w.heap.size by omega) hes
 go_wp2;go_region
 all_goals go_wp2
 refine bodyPost_ret (v:=.tuple #[zkd,es]) ?_ rfl ⟨rfl,F3.done _ _ _ _ 1⟩;obtain⟨q0,q1,q2,q3⟩:=Zbo k0 k1 k2 k3 (.int .i64 0) (.int .i64 0) .nilFunc .nilFunc;simp[results,f215,go_sem,q0,q1,q2,q3]
theorem Yag(nm word:ByteArray)(n a b:Int)(gt gr:Nat)(ct cr:Array Value)(tk:Bool)(es el:Value)(w:World) 
  (_hes:w.cell? ⟨2,0,none⟩=some es) (hel:w.cell? ⟨9,0,none⟩=some el) (_h6:20<w.heap.size)
  (i:Nat) (hf:Instr.findNow .string (.string nm) (kindsE (w.heap.size+1)) 0=some (some (i,kd a b (tfn gt ct) (tfn gr cr))))
  (eg:∀ args w,(callFunc gt args).run prog w=.ok (.enter gt args) w)
  (HT:Hid (∀ W,Below w.heap.size w W->Objs W (w.heap.size+1)->Calls prog gt (#[.string word]++ct) W fun e w'=>e=.returned (.bool tk)/\Below W.heap.size W w'))
  (he:a<=n/\n<=b/\tk=true/\100<word.size) :
  Calls prog 215 #[.string nm,.string word,.int .i64 n] w fun e w'=>e=.returned (.tuple #[zkd,el])/\Below w.heap.size w w'/\Objs w' (w.heap.size+1):=by
 have g0:Below w.heap.size w (w.alloc (.cells #[.int .i64 0,.int .i64 0,.nilFunc,.nilFunc] 307)):=(Below.refl _ w).alloc (Nat.le_refl _) _;have hkin:=Zbm (w.alloc (.cells #[.int .i64 0,.int .i64 0,.nilFunc,.nilFunc] 307));have hsz:(w.alloc (.cells #[.int .i64 0,.int .i64 0,.nilFunc,.nilFunc] 307)).heap.size=w.heap.size+1:=by simp
 rw[hsz]at hkin;go_enter func215,ntmps215
 go_wp2_with fail;refine hkin.mono ?_;rintro e w1 ⟨rfl,hks⟩;have hL:=Zeb (P:=prog) (w:=w1) 328 9 307 _ _ _ nm underlying328 underlying9 hks.map i _ hf;have hb1:=hks.below;have hs1:=hks.size;have hnf:∀(a:Addr) (m:Mode) (W:World),Sem.run prog (store a .nilFunc m) W=stored prog W a .nilFunc m:=fun a m W=>run_store _ W a _ m rfl
 have hnt:∀(a:Addr) (m:Mode) (W:World),Sem.run prog (store a (tfn gt ct) m) W=stored prog W a (tfn gt ct) m:=fun a m W=>run_store _ W a _ m rfl
 have hnr:∀(a:Addr) (m:Mode) (W:World),Sem.run prog (store a (tfn gr cr) m) W=stored prog W a (tfn gr cr) m:=fun a m W=>run_store _ W a _ m rfl
 have g1:Below w.heap.size w w1:=⟨hb1.os.trans g0.os,hb1.tape.trans g0.tape,hb1.output.trans g0.output,by have:=hb1.size;simp at this;omega,fun i hi=>(hb1.block i (by omega)).trans (g0.block i hi)⟩
 have hO1:Objs w1 (w.heap.size+1):=hks.objs;have hC1:=Zcq hb1;have hlen:(kindsO (w.heap.size+1)).length=10:=rfl;rw[hlen]at hs1;have F:FindW w w1 (w1.alloc (.cells #[.int .i64 a,.int .i64 b,tfn gt ct,tfn gr cr] 307)) #[.int .i64 a,.int .i64 b,tfn gt ct,tfn gr cr]:=find_w g1 hO1 hC1 hs1;clear hkin hks g0 hb1 hsz hf hO1 hC1 g1;obtain⟨ha,hb,htk,hw⟩:=he
 have d1:decide (n<a)=false:=by simp;omega
 have d2:decide (b<n)=false:=by simp;omega
 have d3:decide ((100:Int)<(word.size:Int))=true:=by simp;omega
 have HC:=HT.out _ F.below F.objs;rw[htk]at HC;go_wp2_with fail;refine HC.mono ?_;rintro e w3 ⟨rfl,hb3⟩;have F3:=F.stays hb3;clear F hb3 HC hL;obtain⟨k0,k1,k2,k3⟩:=F3.resCells;have f0:=F3.resFree 0;have f1:=F3.resFree 1;have f2:=F3.resFree 2;have f3:=F3.resFree 3;have ke:=F3.old (show 9<w.heap.size by omega) hel
 go_wp2;go_region
 all_goals go_wp2
 refine bodyPost_ret (v:=.tuple #[zkd,el]) ?_ rfl ⟨rfl,F3.done _ _ _ _ 1⟩;obtain⟨q0,q1,q2,q3⟩:=Zbo k0 k1 k2 k3 (.int .i64 0) (.int .i64 0) .nilFunc .nilFunc;simp[results,f215,go_sem,q0,q1,q2,q3]
theorem Objs.stays(h:Objs W B)(hb:Below W.heap.size W W'):Objs W' B:=fun i hi=>by
 have h1:=h i hi;rw[hb.block _ (Array.getElem?_eq_some_iff.1 h1).1];exact h1
theorem Zjw(nm word:ByteArray)(n:Int)(k0 k1:Int)(k2 k3:Value)(er:Value)(w:World)(h2:k2.oneCell'=true)(h3:k3.oneCell'=true) 
  (hfind:Hid (Calls prog 215 #[.string nm,.string word,.int .i64 n] w fun e w'=>e=.returned (.tuple #[.agg #[.int .i64 k0,.int .i64 k1,k2,k3],er])/\Below w.heap.size w w')) :
  Calls prog 190 #[.string nm,.string word,.int .i64 n] w fun e w'=>e=.returned er/\Below w.heap.size w w':=by
 have hnf:∀(a:Addr) (m:Mode) (W:World),Sem.run prog (store a k2 m) W=stored prog W a k2 m:=fun a m W=>run_store _ W a _ m h2
 have hnr:∀(a:Addr) (m:Mode) (W:World),Sem.run prog (store a k3 m) W=stored prog W a k3 m:=fun a m W=>run_store _ W a _ m h3
 go_enter func190,ntmps190
 go_wp2_with fail;refine hfind.out.mono ?_;rintro e w2 ⟨rfl,hb2⟩;have g3:=hb2.alloc hb2.size (.cells #[.int .i64 k0,.int .i64 k1,k2,k3] 307);go_wp2;go_ret;exact⟨rfl,g3⟩
open Go.Sort (grow Holds putRow)
def HRow(B:Nat)(w:World)(v:Value)(l:List (List UInt8)):Prop :=
 (l=[]/\v=.slice none 0 0)\/∃ g cap,v=.slice (some ⟨g,0,none⟩) l.length cap/\B<=g/\g<w.heap.size/\l.length<=cap/\Holds encStr w g 0 l.toArray
variable {v:Value}{l:List (List UInt8)}
theorem HRow.of_owns(h:w.ownsRow B 9 1 v l.length (l.map sv)):HRow B w v l:=by
 rcases h.2 with ⟨rfl,hn⟩ | ⟨g,cap,cur,rfl,hBg,hb,h1,_,_,h4⟩
 ·exact .inl ⟨List.length_eq_zero_iff.1 hn,rfl⟩
 ·refine .inr ⟨g,cap,rfl,hBg,(Array.getElem?_eq_some_iff.1 hb).1,h1,fun j hj=> ?_⟩
  have hj':j<l.length:=by simpa using hj
  have:=congrArg (fun x=>x[j]?) h4
  simp only[Nat.mul_one,List.getElem?_take,hj',if_true,List.getElem?_map,List.getElem?_eq_getElem hj',Option.map_some,Array.getElem?_toList]at this
  refine⟨?_,by simp[World.frozen?,hb]⟩
  rw[Nat.zero_add,Zab hb this];simp[hj']
theorem HRow.cells(h:HRow B w v l):CRow w v l:=by
 rcases h with ⟨rfl,rfl⟩ | ⟨g,cap,rfl,_,h2,_,hH⟩
 ·exact⟨none,0,rfl,fun k hk=>by simp at hk⟩
 ·refine⟨_,cap,rfl,fun k hk=>⟨g,rfl,h2,?_⟩⟩
  have:=(hH k (by simpa using hk)).1
  rw[Nat.zero_add]at this;rw[this];simp[hk]
theorem Zrh{g n:Nat}{os:Array Obj}(d:Array (List UInt8))(hg:B<=g)(hB:B<=w.heap.size):Below B w (grow (putRow encStr (Sort.ahead w n) g 0 d) os) :=
 (Below.refl B w).grown (grownBy_sorted d) hB (fun j hj=>by cases hj;exact hg)
theorem Zli(h:HRow B w v l)(hB:B<=w.heap.size)(hl:l.length<=1000000000):
  Calls prog 48 #[v] w fun e w'=>e=.returned (.tuple #[])/\HRow B w' v (Af.srt l)/\Below B w w':=by
 rcases h with ⟨rfl,rfl⟩ | ⟨g,cap,rfl,h1,h2,h3,hH⟩
 ·refine(slices_Sort_string_none none 0 w).mono ?_;rintro e w' ⟨rfl,rfl⟩;exact⟨rfl,.inl ⟨List.length_eq_zero_iff.1 (Af.srt_len []),rfl⟩,Below.refl _ _⟩
 ·refine(slices_Sort_string g 0 cap l w hH h2 (by omega)).mono ?_
  rintro e w' ⟨rfl,n,os,rfl⟩;refine⟨rfl,.inr ⟨g,cap,by rw[Af.srt_len],h1,?_,by rw[Af.srt_len];exact h3,?_⟩,Zrh _ h1 hB⟩
  ·rw[Go.Sort.size_grow,Go.Sort.size_putRow];exact Nat.lt_of_lt_of_le h2 (Nat.le_add_right _ _)
  ·refine Go.Sort.holds_grow _ _ _ _ _ _ (by rw[Go.Sort.size_putRow];exact h2) ?_
   exact Go.Sort.holds_putRow encStr (Sort.ahead w n) g 0 l.toArray _ hH (by simp)
theorem Zno(h:HRow B w v l)(hB:B<=w.heap.size)(hl:l.length<=1000000000):
  Calls prog 277 #[v] w fun e w'=>∃ v',e=.returned v'/\HRow B w' v' (Lib.compact l)/\Below B w w':=by
 rcases h with ⟨rfl,rfl⟩ | ⟨g,cap,rfl,h1,h2,h3,hH⟩
 ·refine(slices_Compact_string_empty none 0 w).mono ?_;rintro e w' ⟨rfl,rfl⟩;exact⟨_,rfl,.inl ⟨rfl,rfl⟩,Below.refl _ _⟩
 ·refine(slices_Compact_string g 0 cap l w hH (by omega) h3).mono ?_
  rintro e w' ⟨rfl,q,rfl⟩;have hc:=Lib.compact_length_le l;have hp:=Go.Sort.holds_putRow encStr (Sort.ahead w q) g 0 l.toArray (Lib.compact l++List.replicate (l.length - (Lib.compact l).length) []).toArray hH (by simp;omega)
  refine⟨_,rfl,.inr ⟨g,cap,rfl,h1,by rw[Go.Sort.size_putRow];exact h2,by omega,fun j hj=> ?_⟩,?_⟩
  ·have hj':j<(Lib.compact l).length:=by simpa using hj
   obtain⟨p1,p2⟩:=hp j (by simp;omega)
   refine⟨?_,p2⟩;rw[p1];have e1:(Lib.compact l++List.replicate (l.length - (Lib.compact l).length) []).toArray[j]! =(Lib.compact l)[j]:=by
    simp[List.getElem?_append_left hj',hj']
   have e2:(Lib.compact l).toArray[j]! =(Lib.compact l)[j]:=by simp[hj']
   rw[e1,e2]
  ·have:=Zrh (w:=w) (B:=B) (g:=g) (n:=q) (os:= #[]) (Lib.compact l++List.replicate (l.length - (Lib.compact l).length) []).toArray h1 hB;rwa[Go.Sort.grow_empty]at this
def Af.sorted(wd:List UInt8)(ls:List (List UInt8)):List UInt8:=Af.told (if wd=[111,110,99,101] then Lib.compact (Af.srt (Af.all ls)) else Af.srt (Af.all ls))
theorem Zot(wd:List UInt8)(v:Value)(ls:List (List UInt8))(hn:ls.length<=1000)(hx:∀ x∈ls,x.length<=100000)(hl:(Af.told (Af.all ls)).length<=100000000)(m:Int)(w:World)(hrow:TRow w v ls)(hm:w.cell? ⟨13,0,none⟩=some (.int .i64 m)):
  Calls prog 258 #[.string (ba wd),v] w fun e w'=>e=.returned (.string (ba (Af.sorted wd ls)))/\Below w.heap.size w w':=by
 have HA:=hid1 (Zer v ls hn hx m w hrow hm);have hal:(Af.all ls).length<=100000000:=by
  have:=Zns hx ls.length (Nat.le_refl _);rw[List.take_length]at this;omega
 have hl1:(Af.told (Af.srt (Af.all ls))).length<=100000000:=by rw[Af.told_perm (Af.srt_perm _)];exact hl
 have hl2:(Af.told (Lib.compact (Af.srt (Af.all ls)))).length<=100000000:=by
  have:=Af.compact_told_len (Af.srt (Af.all ls)) (Af.srt (Af.all ls)).length (Nat.le_refl _);rw[List.take_length]at this;exact Nat.le_trans this hl1
 have hsl:(Af.srt (Af.all ls)).length<=1000000000:=by rw[Af.srt_len];omega
 have HQ:Hid (Af.sorted wd ls=Af.told (if wd=[111,110,99,101] then Lib.compact (Af.srt (Af.all ls)) else Af.srt (Af.all ls))):=rfl
 generalize Af.sorted wd ls=out at *;go_enter func258,ntmps258
 go_wp2_with fail;refine Calls.mono HA.out ?_;rintro e w1 ⟨v1,rfl,hown,g1⟩;have HS:=hid1 (Zli (HRow.of_owns hown) g1.size (by omega))
 clear hown;go_wp2_with fail;refine Calls.mono HS.out ?_;rintro e w2 ⟨rfl,h2,g2⟩;have G2:Below w.heap.size w w2:=g1.trans g2;clear HS HA;by_cases h1:wd=[111,110,99,101]
 ·subst h1;have HC:=hid1 (Zno h2 G2.size hsl);go_wp2_with fail;refine Calls.mono HC.out ?_;rintro e w3 ⟨v3,rfl,h3,g3⟩;have HT:=hid1 (Zdz v3 _ w3 h3.cells hl2);go_wp2_with fail;refine Calls.mono HT.out ?_;rintro e w4 ⟨rfl,g4⟩;have G3:Below w.heap.size w w3:=G2.trans g3;go_wp2;go_ret;exact⟨ret_eq (by rw[HQ.out,if_pos trivial];rfl),G3.trans (g4.mono G3.size)⟩
 ·have HT:=hid1 (Zdz v1 _ w2 h2.cells hl1);have hone:(wd==[111,110,99,101])=false:=by simpa using h1
  go_wp2_with fail;refine Calls.mono HT.out ?_;rintro e w4 ⟨rfl,g4⟩;go_wp2;go_ret;exact⟨ret_eq (by rw[HQ.out,if_neg h1];rfl),G2.trans (g4.mono G2.size)⟩
