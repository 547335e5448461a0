import Derived.Test.YtcplmkhclckagaaGreatDoorPR41
set_option maxRecDepth 100000
set_option maxHeartbeats 16000000
open Go.Proofs.Tryz
namespace Go.Proofs.YtcplmkhclckagaaGreatDoor
open Go.RowKit Go.Shelf Go.Lib Go
variable {es:Nat->Addr} {At:(Nat->Prop)->World->Value->Nat->Cf.Ens->Prop} {BAt:(Nat->Prop)->World->Value->Value->Bf.Bd->Prop}
theorem Zol{B:Nat}{V:World}{tb:Nat}{fs:Tf.Fs}{o:Option Nat}(h:TreeAt B V tb fs o)(hP:Pow V)(hw:Tf.Well pathB fs):
  Calls prog 13 #[Ptr tb] V fun e w'=>e=.returned (.string (ba (Tf.textT fs)))/\Below V.heap.size V w' :=
 Zxs h hP hw.rises (by have:=hw.few;omega) fun f hf=>⟨by have:=Zci hw f hf;omega,(hw.each f hf).2⟩
variable {es:Nat->Addr} {At:(Nat->Prop)->World->Value->Nat->Cf.Ens->Prop} {BAt:(Nat->Prop)->World->Value->Value->Bf.Bd->Prop}
namespace Pl
noncomputable def sum(y:Bf.Yd):List UInt8:=Tf.textT y.os++[10]++Lib.join (Bf.stale y.fs y.os y.l) [32]
theorem join_few:∀ {ls:List (List UInt8)},(∀ x∈ls,x.length<=100)->(Lib.join ls [32]).length<=101*ls.length
 | [],_=>by simp[Lib.join]
 | [x],h=>by
  have:=h x (by simp)
  simp[Lib.join,List.intercalate];omega
 | x::y::r,h=>by
  have h1:=h x (by simp)
  have h2:=join_few (ls:=y::r) fun z hz=>h z (List.mem_cons_of_mem _ hz)
  have e:Lib.join (x::y::r) [32]=x++([32]++Lib.join (y::r) [32]):=by simp[Lib.join,List.intercalate]
  rw[e];simp only[List.length_append,List.length_cons,List.length_nil]at h2 ⊢;omega
theorem stale_few{fs os:Tf.Fs}{l:List Ru}(hl:l.length<=40)(hs:∀ x∈l,x.out.length<=100):(Bf.stale fs os l).length<=40/\∀ x∈Bf.stale fs os l,x.length<=100:=by
 unfold Bf.stale;refine⟨?_,fun x hx=> ?_⟩
 ·rw[Af.srt_len];have:=List.length_filter_le (Bf.off fs os l) (l.map Ru.out);rw[List.length_map]at this;omega
 ·have h1:=(Af.srt_perm _).mem_iff.1 hx;obtain⟨z,hz,rfl⟩:=List.mem_map.1 (List.mem_filter.1 h1).1;exact hs z hz
end Pl
variable {W:World}{B:Nat}{v:Value}
theorem Ycj{ls:List (List UInt8)}(h:HRow B W v ls)(hn:ls.length<=40)(hx:∀ x∈ls,x.length<=100):
  Calls prog 24 #[v,.string (ba [32])] W fun e w'=>e=.returned (.string (ba (Lib.join ls [32])))/\Below W.heap.size W w':=by
 have hj:=Pl.join_few hx;rcases h with ⟨rfl,rfl⟩ | ⟨g,cap,rfl,hB,hg,hcap,hH⟩
 ·refine(Any.strings_Join_none lays156 Builder_Extra_156 none 0 (ba [32]) W).mono ?_;rintro e w' ⟨rfl,rfl⟩;exact⟨rfl,Below.refl _ _⟩
 ·have hc:=(show CRow W (.slice (some ⟨g,0,none⟩) ls.length cap) ls from HRow.cells (B:=B) (.inr ⟨g,cap,rfl,hB,hg,hcap,hH⟩))
  obtain⟨p,c,e,hin⟩:=hc;simp only[Value.slice.injEq,true_and]at e;obtain⟨rfl,rfl⟩:=e;have:=strings_Join g 0 cap (ls.map ba) (ba [32]) W (fun j x hj=>by
   have hjl:j<ls.length:=by simpa using (List.getElem?_eq_some_iff.1 hj).1
   rw[List.getElem?_map,List.getElem?_eq_getElem hjl]at hj
   simp at hj;obtain⟨g2,e2,_,hc2⟩:=hin j hjl;cases e2
   rw[Nat.zero_add,<- hj];exact hc2) hg (by simp;omega) (by simpa using hcap) (by rw[Zfw];show(Lib.join ls [32]).length<=_;omega)
  rw[Zfw,List.length_map]at this;exact this
theorem Zsn(HC:Zao es At){B:Nat}{W:World}{yb:Nat}{L:YL}{y:Bf.Yd}(h:YdAt At B W yb L y)(hY:PBase B W es)(hf:Bf.YFine Pl.l 8 y):
  Calls prog 10 #[Ptr yb] W fun e w'=>e=.returned (.string (ba (Pl.sum y)))/\Below W.heap.size W w':=by
 have hBW:B<=W.heap.size:=by have:=h.low;have:=h.lt;omega
 have HO:=hid1 (Zve h);have HT:=hid1 (Zol h.o hY.y.want.g.s.a.aw.pow hf.os);have HSt:=hid1 fun(V:World) (g:Below W.heap.size W V)=>Zmf HC (h.below HC g) (hY.y.trans (g.mono hBW)).want hf.fs (by rw[hf.hl];exact Pl.sheet)
 have HF:=hid1 (Pl.stale_few (fs:=y.fs) (os:=y.os) (l:=y.l) (by rw[hf.hl];decide) (by rw[hf.hl];intro x hx;have:=(Pl.small x hx).out;omega))
 have htl:(Tf.textT y.os).length<=240000:=by
  have h1:=Zff (fs:=y.os) fun f hf'=>⟨by have:=Zci hf.os f hf';omega,(hf.os.each f hf').2⟩
  have:=hf.os.few;omega
 have hjl:(Lib.join (Bf.stale y.fs y.os y.l) [32]).length<=10000:=by
  have:=Pl.join_few HF.out.2;have:=HF.out.1;omega
 have hs:Pl.sum y=Tf.textT y.os++[10]++Lib.join (Bf.stale y.fs y.os y.l) [32]:=rfl;rw[hs];clear h hY hf HC hs;generalize Tf.textT y.os=tx at *;generalize Bf.stale y.fs y.os y.l=st at *;have z1:(ba tx).size=tx.length:=Zal _;have z2:(ba (Lib.join st [32])).size=(Lib.join st [32]).length:=Zal _;go_enter func10,ntmps10
 go_wp2_with fail;refine HO.out.mono ?_;rintro e w1 ⟨rfl,rfl⟩;go_wp2_with fail;refine HT.out.mono ?_;rintro e w2 ⟨rfl,g2⟩;have HS2:=hid1 (HSt.out w2 g2);clear HT HSt HO;go_wp2_with fail;refine HS2.out.mono ?_;rintro e w3 ⟨u,rfl,⟨B',hu⟩,g3⟩;have HJ:=hid1 (Ycj hu HF.out.1 HF.out.2);have G3:=Zac g2 g3;have hus:∃ p n c,u=.slice p n c:=by
  rcases hu with ⟨_,rfl⟩ | ⟨g,cap,rfl,_⟩
  ·exact⟨_,_,_,rfl⟩
  ·exact⟨_,_,_,rfl⟩
 obtain⟨p,n,c,rfl⟩:=hus;clear HS2 hu;go_wp2_with fail;refine HJ.out.mono ?_;rintro e w4 ⟨rfl,g4⟩;have G4:=Zac G3 g4;clear HJ;go_wp2;go_ret;have e1:ba tx++(⟨#[10]⟩:ByteArray)++ba (Lib.join st [32])=ba (tx++[10]++Lib.join st [32]):=by rw[show(⟨#[10]⟩:ByteArray)=ba [10] from rfl,ba_cat,ba_cat]
 exact⟨by rw[<- e1];rfl,G4⟩
variable {P:Program} {ops:Array Oper} {Q:Exit->Act->World->Prop} {md:Region.Mode}
def flags(L:Array Bool):Nat->Bool:=fun j=>L.getD j false
def setF(F:Nat->Bool)(i:Nat):Nat->Bool:=fun j=>if j=i then true else F j
variable {i:Nat}
theorem Zqq{L:Array Bool}(hi:i<L.size):flags (L.setIfInBounds i true)=setF (flags L) i:=by
 funext j
 unfold flags setF;by_cases e:j=i
 ·subst e;rw[if_pos rfl,Array.getD_eq_getD_getElem?,Array.getElem?_setIfInBounds_self_of_lt hi];rfl
 ·rw[if_neg e,Array.getD_eq_getD_getElem?,Array.getElem?_setIfInBounds_ne (fun x=>e x.symm)]
  exact(Array.getD_eq_getD_getElem? ..).symm
def unl(F:Nat->Bool):Nat->Nat
 | 0=>0
 | n+1=>unl F n+(if F n=true then 0 else 1)
theorem Zyb{F:Nat->Bool}{i:Nat}:∀ {n:Nat},i<n->F i=false->unl (setF F i) n+1=unl F n
 | 0,h,_=>by omega
 | n+1,h,hf=>by
  unfold unl;by_cases e:i=n
  ·subst e;have:∀ m,m<=i->unl (setF F i) m=unl F m:=by
    intro m
    induction m with
    | zero=>intro _;rfl
    | succ m ih =>
     intro hm
     unfold unl;rw[ih (by omega)]
     have:setF F i m=F m:=by unfold setF;rw[if_neg (by omega)]
     rw[this]
   rw[this i (Nat.le_refl _),hf];have:setF F i i=true:=by unfold setF;rw[if_pos rfl]
   rw[this];simp
  ·have ih:=Zyb (n:=n) (by omega) hf
   have:setF F i n=F n:=by unfold setF;rw[if_neg fun x=>e x.symm]
   rw[this];omega
theorem Zui{F:Nat->Bool}:∀ {n:Nat},unl F n=0->∀ i,i<n->F i=true
 | 0,_,i,hi=>by omega
 | n+1,h,i,hi=>by
  unfold unl at h;by_cases e:i=n
  ·subst e;cases hf:F i with
   | true=>rfl
   | false=>rw[hf]at h;simp at h
  ·exact Zui (n:=n) (by omega) i (by omega)
variable {n:Nat}
theorem Zoi(hn:ops.size=n)(hdag:∀(i:Nat) (o:Oper),ops[i]? =some o->∀ e∈o.after.toList,e.on<i)(I:(Nat->Bool)->Act->World->Prop) 
  (hstep:∀ F a w (i:Nat) (o:Oper),ops[i]? =some o->I F a w->F i=false->(∀ e∈o.after.toList,Region.binds md e=true->F e.on=true)->wpOp P ops Q i (fun a' w'=>I (setF F i) a' w') a w)
  (hend:∀ F a w,I F a w->(∀ i,i<n->F i=true)->Q .normal a w) :
  ∀(fuel:Nat) (L:Array Bool) (a:Act) (w:World),L.size=n->unl (flags L) n<=fuel->I (flags L) a w->wpAny P md ops Q fuel L a w:=by
 have hready:∀(L:Array Bool),L.size=n->Region.ready md ops L=[]->∀ i,i<n->flags L i=true:=by
  intro L hL h i
  induction i using Nat.strongRecOn with
  | _ i ih =>
   intro hi
   cases hf:flags L i with
   | true=>rfl
   | false =>
    exfalso
    have hm:i∈Region.ready md ops L:=by
     unfold Region.ready;rw[List.mem_filter,List.mem_range];refine⟨by omega,?_⟩
     have hl:L.getD i true=false:=by
      unfold flags at hf;rw[Array.getD_eq_getD_getElem?,Array.getElem?_eq_getElem (by omega)]at hf ⊢
      simpa using hf
     obtain⟨o,ho⟩:∃ o,ops[i]? =some o:=⟨_,Array.getElem?_eq_getElem (by omega)⟩
     rw[hl,ho];simp only[Bool.not_false,Bool.true_and,Option.map_some,Option.getD_some];rw[Array.all_eq_true_iff_forall_mem];intro e he
     have hlt:=hdag i o ho e (by simpa using he)
     have:=ih e.on hlt (by omega)
     unfold flags at this;rw[this];simp
    rw[h]at hm;cases hm
 intro fuel
 induction fuel with
 | zero =>
  intro L a w hL hu hI
  have hall:=Zui (F:=flags L) (n:=n) (by omega)
  refine⟨?_,hend _ a w hI hall⟩;unfold Region.ready;rw[List.filter_eq_nil_iff];intro i hi
  have:=hall i (by have:=List.mem_range.1 hi;omega)
  have hl:L.getD i true=true:=by
   unfold flags at this;rw[Array.getD_eq_getD_getElem?]at this ⊢;cases hx:L[i]? with
   | none=>rfl
   | some b=>rw[hx]at this;simpa using this
  rw[hl];simp
 | succ fuel ih =>
  intro L a w hL hu hI
  refine⟨fun h=>hend _ a w hI (hready L hL h),fun i hi=> ?_⟩
  unfold Region.ready at hi;rw[List.mem_filter,List.mem_range]at hi;obtain⟨hlt,hp⟩:=hi;rw[Bool.and_eq_true]at hp;obtain⟨h1,h2⟩:=hp;have hl:flags L i=false:=by
   unfold flags;rw[Array.getD_eq_getD_getElem?]at h1 ⊢;rw[Array.getElem?_eq_getElem (by omega)]at h1 ⊢
   simpa using h1
  obtain⟨o,ho⟩:∃ o,ops[i]? =some o:=⟨_,Array.getElem?_eq_getElem hlt⟩
  rw[ho]at h2;simp only[Option.map_some,Option.getD_some]at h2;rw[Array.all_eq_true_iff_forall_mem]at h2;refine wpOp_mono (fun a' w' h'=>ih _ a' w' (by simpa using hL) ?_ ?_) (hstep (flags L) a w i o ho hI hl fun e he hb=> ?_)
  ·have:=Zyb (F:=flags L) (i:=i) (n:=n) (by omega) hl
   rw[Zqq (by omega)]
   omega
  ·rw[Zqq (by omega)]
   exact h'
  ·have:=h2 e (by simpa using he)
   rw[hb]at this;simpa[flags] using this
variable {P:Program} {ops:Array Oper} {Q:Exit->Act->World->Prop} {md:Region.Mode}
def valAt(l:List Value)(i:Nat):Value:=l.getD i undef
def wantV(l:List Value)(o:Oper):Bool :=
 match o.guard with
 | none=>true
 | some (j,b)=>match valAt l j with
  | .bool c=>c==b
  | _=>false
inductive Does (P:Program) (K:World->Prop) (l:List Value) (o:Oper) (i:Nat) (a:Act) (w:World):Prop
 | no (h:wantV l o=false) (hv:valAt l i=undef)
 | val (h:wantV l o=true) (hv:(execOp a.eval o).run P w=.ok (.value (valAt l i)) w)
 | call (f:Nat) (args:Array Value) (h:wantV l o=true) (hv:(execOp a.eval o).run P w=.ok (.enter f args) w) (hc:Calls P f args w fun e w'=>e=.returned (valAt l i)/\K w')
def layL:List Value->Nat->List Value->List Value
 | [],_,_=>[]
 | x::t,0,[]=>x::t
 | _::t,0,v::l=>v::layL t 0 l
 | x::t,b+1,l=>x::layL t b l
def lays(t:Array Value)(b:Nat)(l:List Value):Array Value:=⟨layL t.toList b l⟩
theorem Znf:∀(t:List Value) (b:Nat) (l:List Value),(layL t b l).length=t.length
 | [],_,_=>by unfold layL;rfl
 | x::t,0,[]=>by unfold layL;rfl
 | x::t,0,v::l=>by
  unfold layL;rw[List.length_cons,List.length_cons,Znf t 0 l]
 | x::t,b+1,l=>by
  unfold layL;rw[List.length_cons,List.length_cons,Znf t b l]
theorem Zzs(l:List Value)(t:Array Value)(b:Nat):(lays t b l).size=t.size:=Znf t.toList b l
theorem Zng:∀(t:List Value) (b:Nat) (l:List Value) (j:Nat),j<t.length->(layL t b l)[j]? =if b<=j/\j<b+l.length then l[j - b]? else t[j]?
 | [],b,l,j,h=>absurd h (Nat.not_lt_zero _)
 | x::t,0,[],j,h=>by
  unfold layL;rw[if_neg (by simp only[List.length_nil];omega)]
 | x::t,0,v::l,0,h=>by
  unfold layL;rw[if_pos (by simp only[List.length_cons];omega)]
  rfl
 | x::t,0,v::l,j+1,h=>by
  unfold layL;rw[List.getElem?_cons_succ,Zng t 0 l j (by simpa using h)]
  by_cases c:0<=j/\j<0+l.length
  ·rw[if_pos c,if_pos (by simp only[List.length_cons];omega)]
   rfl
  ·rw[if_neg c,if_neg (by simp only[List.length_cons];omega)]
   rfl
 | x::t,b+1,l,0,h=>by
  unfold layL;rw[if_neg (by omega)]
  rfl
 | x::t,b+1,l,j+1,h=>by
  unfold layL;rw[List.getElem?_cons_succ,Zng t b l j (by simpa using h)]
  by_cases c:b<=j/\j<b+l.length
  ·rw[if_pos c,if_pos (by omega),show j+1 - (b+1)=j - b by omega]
  ·rw[if_neg c,if_neg (by omega)]
   rfl
theorem Ycg(l:List Value)(t:Array Value)(b j:Nat)(hj:j<t.size):(lays t b l)[j]? =if b<=j/\j<b+l.length then l[j - b]? else t[j]? :=by
 have:=Zng t.toList b l j hj;rw[Array.getElem?_toList (xs:=t)]at this;rw[<- this,<- Array.getElem?_toList];rfl
variable {a:Act}
theorem Zxe(h:i<a.tmps.size):(a.put (some i) v).eval (.tmp i)=v:=by
 simp[Act.put,Act.eval,Array.getD_eq_getD_getElem?,h]
variable {j:Nat}
theorem Zjc(h:j≠i):(a.put (some i) v).eval (.tmp j)=a.eval (.tmp j):=by
 have h':i≠j:=fun e=>h e.symm
 simp[Act.put,Act.eval,Array.getD_eq_getD_getElem?,h']
variable {o:Oper}{b:Nat}
theorem Zvj{l:List Value}(hj:∀ j c,o.guard=some (j,c)->(ops[j]?).bind (·.dst)=some (b+j)/\b+j<a.tmps.size/\a.eval (.tmp (b+j))=valAt l j):Region.wanted o (yielded ops a.tmps)=wantV l o:=by
 unfold Region.wanted wantV;cases hg:o.guard with
 | none=>rfl
 | some jc =>
  obtain⟨j,c⟩:=jc;obtain⟨h1,h2,h3⟩:=hj j c hg;have h4:a.tmps[b+j]? =some (valAt l j):=by
   simp only[Act.eval,Array.getD_eq_getD_getElem?,Array.getElem?_eq_getElem h2,Option.getD_some]at h3;rw[Array.getElem?_eq_getElem h2,h3]
  simp only[yielded,h1,Option.bind_some,h4];cases valAt l j <;> simp
def shaped(md:Region.Mode)(b:Nat)(ops:Array Oper):Bool :=
 (List.range ops.size).all fun i=>match ops[i]? with
  | none=>true
  | some o=>o.dst==some (b+i)&&o.after.all (fun e=>Nat.blt e.on i)&&(match o.guard with
   | none=>true
   | some (j,_)=>o.after.toList.any fun e=>e.on==j&&Region.binds md e)
theorem Zry(h:shaped md b ops=true)(i:Nat)(o:Oper)(ho:ops[i]? =some o):o.dst=some (b+i)/\(∀ e∈o.after.toList,e.on<i)/\∀ j c,o.guard=some (j,c)->(o.after.toList.any fun e=>e.on==j&&Region.binds md e)=true:=by
 unfold shaped at h;rw[List.all_eq_true]at h;have hi:i<ops.size:=by
  by_cases hx:i<ops.size
  ·exact hx
  ·rw[Array.getElem?_eq_none (by omega)]at ho
   cases ho
 have:=h i (List.mem_range.2 hi);rw[ho]at this;simp only[Bool.and_eq_true,beq_iff_eq]at this;obtain⟨⟨h1,h2⟩,h3⟩:=this;refine⟨h1,fun e he=> ?_,fun j c hg=> ?_⟩
 ·rw[Array.all_eq_true_iff_forall_mem]at h2;exact Nat.blt_eq ▸ h2 e (by simpa using he)
 ·rw[hg]at h3;exact h3
theorem Zxu(b:Nat)(l:List Value)(K:World->Prop){a0:Act}{w0:World}{L:Array Bool}(hL:L=Array.replicate ops.size false)(hn:ops.size=l.length)(hb:b+l.length<=a0.tmps.size) 
  (hshaped:shaped md b ops=true)
  (hstep:∀(i:Nat) (o:Oper) (a:Act) (w:World),ops[i]? =some o->K w->(∀ s,s<b->a.eval (.tmp s)=a0.eval (.tmp s))->(∀ j,(o.after.toList.any fun e=>e.on==j&&Region.binds md e)=true->a.eval (.tmp (b+j))=valAt l j)->Does P K l o i a w)
  (hK:K w0) (hend:∀ w,K w->Q .normal { tmps:=lays a0.tmps b l,defers:=a0.defers } w) :
  wpAny P md ops Q ops.size L a0 w0:=by
 have hshape:=Zry hshaped;have hlt:∀ {i:Nat} {o:Oper},ops[i]? =some o->i<l.length:=fun {i o} h=>by
  rw[<- hn];by_cases hx:i<ops.size
  ·exact hx
  ·rw[Array.getElem?_eq_none (by omega)]at h
   cases h
 have hl0:flags L=fun _=>false:=by
  funext j
  rw[hL];unfold flags;rw[Array.getD_eq_getD_getElem?,Array.getElem?_replicate];split <;> rfl
 refine Zoi (n:=ops.size) rfl (fun i o ho=>(hshape i o ho).2.1) (fun F a w=>a.tmps.size=a0.tmps.size/\a.defers=a0.defers/\(∀ s,s<b\/b+l.length<=s->a.eval (.tmp s)=a0.eval (.tmp s))/\(∀ i,i<l.length->F i=true->a.eval (.tmp (b+i))=valAt l i)/\K w) ?_ ?_ _ _ _ _ (by rw[hL];simp) ?_ ⟨rfl,rfl,fun _ _=>rfl,fun i _ hf=>(by rw[hl0]at hf;cases hf),hK⟩
 ·rintro F a w i o ho ⟨hs,hd,hbase,hval,hk⟩ hf hedge;have hi:=hlt ho;obtain⟨h1,h2,h3⟩:=hshape i o ho;have hE:∀ j,(o.after.toList.any fun e=>e.on==j&&Region.binds md e)=true->j<i/\a.eval (.tmp (b+j))=valAt l j:=by
   intro j hj
   rw[List.any_eq_true]at hj;obtain⟨e,he,hje⟩:=hj;rw[Bool.and_eq_true,beq_iff_eq]at hje;have hlj:=h2 e he;rw[<- hje.1];exact⟨hlj,hval _ (by omega) (hedge e he hje.2)⟩
  have hput:∀(v:Value) (w':World),v=valAt l i->K w'->(fun(a':Act) (w':World)=>a'.tmps.size=a0.tmps.size/\a'.defers=a0.defers/\(∀ s,s<b\/b+l.length<=s->a'.eval (.tmp s)=a0.eval (.tmp s))/\(∀ j,j<l.length->setF F i j=true->a'.eval (.tmp (b+j))=valAt l j)/\K w') (a.put o.dst v) w':=by
   intro v w' hv hk'
   rw[h1];refine⟨by simpa[Act.put] using hs,by simpa[Act.put] using hd,fun s hs'=> ?_,fun j hj hfj=> ?_,hk'⟩
   ·rw[Zjc (by omega)]
    exact hbase s hs'
   ·by_cases e:j=i
    ·subst e;rw[Zxe (by omega),hv]
    ·rw[Zjc (by omega)]
     unfold setF at hfj;rw[if_neg e]at hfj;exact hval j hj hfj
  have hw:Region.wanted o (yielded ops a.tmps)=wantV l o:=Zvj (b:=b) fun j c hg=>by
   obtain⟨hji,hv⟩:=hE j (h3 j c hg);obtain⟨oj,hoj⟩:∃ oj,ops[j]? =some oj:=⟨_,Array.getElem?_eq_getElem (by omega)⟩
   refine⟨by rw[hoj];exact(hshape j oj hoj).1,by omega,hv⟩
  unfold wpOp;rw[ho];simp only[hw];cases hstep i o a w ho hk (fun s hs'=>hbase s (.inl hs')) (fun j hj=>(hE j hj).2) with
  | no h hv =>
   rw[h,if_neg (by simp)]
   exact hput undef w hv.symm hk
  | val h hv =>
   rw[h,if_pos rfl];refine .inl ?_;unfold Oper.wp;rw[hv];exact hput _ w rfl hk
  | call f args h hv hc =>
   rw[h,if_pos rfl];refine .inl ?_;unfold Oper.wp;rw[hv];refine Calls.mono hc ?_;rintro e w' ⟨rfl,hk'⟩;exact hput _ w' rfl hk'
 ·rintro F a w ⟨hs,hd,hbase,hval,hk⟩ hall;have:a={ tmps:=lays a0.tmps b l,defers:=a0.defers }:=by
   obtain⟨t,df⟩:=a;simp only at hs hd;subst hd;congr 1
   refine Array.ext_getElem? fun j=> ?_
   by_cases hj:j<a0.tmps.size
   ·have hjt:j<t.size:=by omega
    rw[Ycg _ _ _ _ hj];by_cases hm:b<=j/\j<b+l.length
    ·rw[if_pos hm];have:=hval (j - b) (by omega) (hall _ (by omega))
     rw[show b+(j - b)=j by omega]at this
     simp only[Act.eval,Array.getD_eq_getD_getElem?,Array.getElem?_eq_getElem hjt,Option.getD_some,valAt,List.getD_eq_getElem?_getD,List.getElem?_eq_getElem (show j - b<l.length by omega)]at this
     rw[Array.getElem?_eq_getElem hjt,this,List.getElem?_eq_getElem (show j - b<l.length by omega)]
    ·rw[if_neg hm];have:=hbase j (by omega)
     simp only[Act.eval,Array.getD_eq_getD_getElem?,Array.getElem?_eq_getElem hjt,Array.getElem?_eq_getElem hj,Option.getD_some]at this
     rw[Array.getElem?_eq_getElem hjt,Array.getElem?_eq_getElem hj,this]
   ·rw[Array.getElem?_eq_none (by omega),Array.getElem?_eq_none (by rw[Zzs];omega)]
  rw[this];exact hend w hk
 ·rw[hl0];refine(?_:∀ m,unl (fun _=>false) m<=m) _
  intro m
  induction m with
  | zero=>exact Nat.le_refl _
  | succ m ih =>
   unfold unl;simp only[Bool.false_eq_true,if_false];omega
variable {w:World}
theorem Zod(a b:Value)(la lb:List (List UInt8))(ha:IRow w a la)(hb:IRow w b lb)(hl:la.length<=1000)(hl2:lb.length<=1000):
  Calls prog 34 #[a,b] w fun e w'=>e=.returned (.bool (decide (la=lb)))/\∃ q,w'=w.drewN q:=by
 obtain⟨pa,ca,rfl,ha⟩:=ha;obtain⟨pb,cb,rfl,hb⟩:=hb;have HA:=hid1 ha;have HB:=hid1 hb;clear ha hb;have zl2:(lb.length:Int)<=1000:=by omega
 by_cases hlen:la.length=lb.length
 ·have HEq:Hid (∀ k,la.length<=k->la.take k=lb.take k->decide (la=lb)=true):=hid1 fun k hk h=>by
   rw[List.take_of_length_le hk,List.take_of_length_le (by omega)]at h
   simpa using h
  have HNe:Hid (∀ k (h1:k<la.length) (h2:k<lb.length),la[k]≠lb[k]->decide (la=lb)=false):=hid1 fun k h1 h2 h=>by
   rw[decide_eq_false_iff_not];rintro rfl;exact h rfl
  generalize decide (la=lb)=dd at *;rw[<- hlen];have HLen:=hid1 hlen;clear hlen;go_enter func34,ntmps34
  go_wp2;go_loopw [5] (fun i wr=>∃ k:Nat,k<=la.length/\i=.int .i64 k/\la.take k=lb.take k/\∃ q,wr=w.drewN q) (fun i _=>la.length - (intOf i).toNat)
  case atStart=>exact⟨0,Nat.zero_le _,rfl,by simp,0,rfl⟩
  case round =>
   obtain⟨k,hk,rfl,ht,q,rfl⟩:=hrel;have HT:=hid1 ht;clear ht;have c0:(0:Int)<=(k:Int):=by omega
   by_cases hlt:k<la.length
   ·have c1:(k:Int)<(la.length:Int):=by omega
    have hlt2:k<lb.length:=by rw[<- HLen.out];exact hlt
    obtain⟨ga,oa,rfl,_,h1⟩:=HA.out (by intro e;rw[e]at hlt;simp at hlt)
    obtain⟨gb,ob,rfl,_,h2⟩:=HB.out (by intro e;rw[e]at hlt2;simp at hlt2)
    have d1:=h1 k hlt;have d2:=h2 k hlt2;have HS:Hid (la[k]=lb[k]->la.take (k+1)=lb.take (k+1)):=hid1 fun h=>by
     rw[List.take_succ_eq_append_getElem hlt,List.take_succ_eq_append_getElem hlt2,HT.out,h]
    have HN:=hid1 (HNe.out k hlt hlt2);clear h1 h2 HA HB HNe;generalize la[k]=x at *;generalize lb[k]=y at *;by_cases he:x=y
    ·subst he;have HSS:=hid1 (HS.out rfl);clear HS HN;go_wp2;go_region;go_wp2;exact⟨⟨k+1,by omega,by go_num,HSS.out,q+1,rfl⟩,by simp[intOf];omega⟩
    ·have e1:(x==y)=false:=by simpa using he
     have e2:=HN.out he;subst e2;clear HS HN;go_wp2;go_region;go_wp2;go_ret;exact⟨rfl,q+1,rfl⟩
   ·have c1:(la.length:Int)<=(k:Int):=by omega
    have e2:=HEq.out k (by omega) HT.out
    subst e2;clear HA HB HT HEq HNe;go_wp2;go_ret;exact⟨rfl,q,rfl⟩
 ·have e1:decide (la=lb)=false:=by
   rw[decide_eq_false_iff_not];rintro rfl;exact hlen rfl
  have e2:((la.length:Int)==(lb.length:Int))=false:=by simp;omega
  rw[e1];clear HA HB e1;go_enter func34,ntmps34
  go_wp2;go_ret;exact⟨rfl,0,rfl⟩
variable {P:Program}
theorem ex_mv2(ho:o.op=.move (.tmp j))(he:a.eval (.tmp j)=v)(w:World):(execOp a.eval o).run P w=.ok (.value v) w:=by
 simp[execOp,ho,he]
variable {c:Nat}
theorem ex_pk2{x y:Operand}{b:Bool}(ho:o.op=.pick (.tmp c) x y)(hc:a.eval (.tmp c)=.bool b)(he:a.eval (cond b x y)=v)(w:World):(execOp a.eval o).run P w=.ok (.value v) w:=by
 cases b <;> simp_all[execOp,asBool]
variable {p:Addr}{s:ByteArray}
theorem ex_ldS(ho:o.op=.load 9 (.tmp j))(he:a.eval (.tmp j)=.pointer (some p))(c:w.cell? p=some (.string s)):(execOp a.eval o).run prog w=.ok (.value (.string s)) w:=by
 simp only[execOp,ho,he];go_simp
theorem ex_ldX{m:Nat}{q:Option Addr}(ho:o.op=.load 52 (.tmp j))(he:a.eval (.tmp j)=.pointer (some p))(c:w.cell? p=some (.slice q n m)):(execOp a.eval o).run prog w=.ok (.value (.slice q n m)) w:=by
 simp only[execOp,ho,he];go_simp
variable {g x:Nat}
theorem ex_ix{k:Nat}(ho:o.op=.indexAddr 36 (.tmp i) (.tmp j))(h1:a.eval (.tmp i)=.slice (some ⟨g,x,none⟩) n c)(h2:a.eval (.tmp j)=.int .i64 (k:Int))(k0:(0:Int)<=(k:Int))(k1:(k:Int)<(n:Int)):(execOp a.eval o).run prog w=.ok (.value (.pointer (some ⟨g,x+k*4,none⟩))) w:=by
 simp only[execOp,ho,h1,h2];go_simp
variable {f:Nat}
theorem ex_fa(ho:o.op=.fieldAddr 73 (.tmp j) f)(hf:f<4)(he:a.eval (.tmp j)=.pointer (some ⟨g,x,none⟩)):(execOp a.eval o).run prog w=.ok (.value (.pointer (some ⟨g,x+f,none⟩))) w:=by
 match f,hf with
 | 0,_=>simp only[execOp,ho,he];go_simp
 | 1,_=>simp only[execOp,ho,he];go_simp
 | 2,_=>simp only[execOp,ho,he];go_simp
 | 3,_=>simp only[execOp,ho,he];go_simp
theorem ex_ne(ho:o.op=.binOp .neq 9 (.tmp i) (.tmp j) 9)(h1:a.eval (.tmp i)=.string s)(h2:a.eval (.tmp j)=.string s):(execOp a.eval o).run prog w=.ok (.value (.bool false)) w:=by
 simp only[execOp,ho,h1,h2];go_simp
theorem ex_nt(ho:o.op=.unOp .not 4 (.tmp j))(he:a.eval (.tmp j)=.bool true):(execOp a.eval o).run prog w=.ok (.value (.bool false)) w:=by
 simp only[execOp,ho,he];go_simp
theorem ev_fn2:a.eval (.func f)=.func (.func f) #[] #[]:=rfl
def Ybh(ga oa ca gb ob cb k:Nat)(l:List Ru)(y:Ru)(pa pb:Option Addr)(qa qb:Nat):List Value :=
 [.slice (some ⟨ga,oa,none⟩) l.length ca,
  .int .i64 (k:Int),
  .pointer (some ⟨ga,oa+k*4,none⟩),
  .pointer (some ⟨ga,oa+k*4,none⟩),
  .string (ba y.out),
  .slice (some ⟨gb,ob,none⟩) l.length cb,
  .int .i64 (k:Int),
  .pointer (some ⟨gb,ob+k*4,none⟩),
  .pointer (some ⟨gb,ob+k*4,none⟩),
  .string (ba y.out),
  .bool false,
  .bool false,
  .slice (some ⟨ga,oa,none⟩) l.length ca,
  .int .i64 (k:Int),
  .pointer (some ⟨ga,oa+k*4,none⟩),
  .pointer (some ⟨ga,oa+k*4+1,none⟩),
  .string (ba y.kind),
  .slice (some ⟨gb,ob,none⟩) l.length cb,
  .int .i64 (k:Int),
  .pointer (some ⟨gb,ob+k*4,none⟩),
  .pointer (some ⟨gb,ob+k*4+1,none⟩),
  .string (ba y.kind),
  .bool false,
  .bool false,
  .bool false,
  .slice (some ⟨ga,oa,none⟩) l.length ca,
  .int .i64 (k:Int),
  .pointer (some ⟨ga,oa+k*4,none⟩),
  .pointer (some ⟨ga,oa+k*4+2,none⟩),
  .string (ba y.word),
  .slice (some ⟨gb,ob,none⟩) l.length cb,
  .int .i64 (k:Int),
  .pointer (some ⟨gb,ob+k*4,none⟩),
  .pointer (some ⟨gb,ob+k*4+2,none⟩),
  .string (ba y.word),
  .bool false,
  .bool false,
  .bool false,
  .slice (some ⟨ga,oa,none⟩) l.length ca,
  .int .i64 (k:Int),
  .pointer (some ⟨ga,oa+k*4,none⟩),
  .pointer (some ⟨ga,oa+k*4+3,none⟩),
  .slice pa y.ins.length qa,
  .slice (some ⟨gb,ob,none⟩) l.length cb,
  .int .i64 (k:Int),
  .pointer (some ⟨gb,ob+k*4,none⟩),
  .pointer (some ⟨gb,ob+k*4+3,none⟩),
  .slice pb y.ins.length qb,
  .bool true,
  .bool false,
  .bool false]
theorem Zjt(va vb:Value)(l:List Ru)(ha:RRow W va l)(hb:RRow W vb l)(hl:l.length<=1000)(hI:∀ x∈l,x.ins.length<=1000):
  Calls prog 15 #[va,vb] W fun e w'=>e=.returned (.bool true)/\Below W.heap.size W w':=by
 obtain⟨pa0,ca,rfl,hca,-,ha⟩:=ha;obtain⟨pb0,cb,rfl,hcb,-,hb⟩:=hb;have HA:=hid1 ha;have HB:=hid1 hb;have HI:=hid1 hI;clear ha hb hI;have zl:(l.length:Int)<=1000:=by omega
 go_enter func15,ntmps15
 go_wp2;go_loopw [5] (fun i wr=>∃ k:Nat,k<=l.length/\i=.int .i64 k/\Below W.heap.size W wr) (fun i _=>l.length - (intOf i).toNat)
 case atStart=>exact⟨0,Nat.zero_le _,rfl,Below.refl _ _⟩
 case round =>
  obtain⟨k,hkl,rfl,hB⟩:=hrel;have k0:(0:Int)<=(k:Int):=by omega
  by_cases hlt:k<l.length
  ·have k1:(k:Int)<(l.length:Int):=by omega
   have hne:l≠[]:=by intro e;rw[e]at hlt;simp at hlt
   obtain⟨ga,oa,rfl,hga,hra⟩:=HA.out hne;obtain⟨gb,ob,rfl,hgb,hrb⟩:=HB.out hne;obtain⟨a0,a1,a2,va3,a3,xa⟩:=hra k hlt;obtain⟨b0,b1,b2,vb3,b3,xb⟩:=hrb k hlt;have hyl:=HI.out _ (List.getElem_mem hlt);clear hra hrb HA HB HI;generalize l[k]=y at *
   have HSt:=hid1 fun(V:World) (g:Below W.heap.size W V)=>Zod (w:=V) va3 vb3 y.ins y.ins (xa.below g).irow (xb.below g).irow hyl hyl
   obtain⟨pa,qa,rfl,-⟩:=xa;obtain⟨pb,qb,rfl,-⟩:=xb;go_wp2;refine wp_region_any (by kernel_rfl) ?_
   refine Zxu 17 (Ybh ga oa ca gb ob cb k l y pa pb qa qb) (fun V=>Below W.heap.size W V) rfl rfl (Nat.le_of_ble_eq_true rfl) (by kernel_rfl) ?step (Zad hB 1) ?fin
   case step =>
    intro i o a w ho hk hb hE
    have f0:a.eval (.tmp 0)=.slice (some ⟨ga,oa,none⟩) l.length ca:=hb 0 (by decide)
    have f1:a.eval (.tmp 1)=.slice (some ⟨gb,ob,none⟩) l.length cb:=hb 1 (by decide)
    have f5:a.eval (.tmp 5)=.int .i64 (k:Int):=hb 5 (by decide)
    clear hb;exact match i,ho,hE with
    | 0,rfl,hE=>.val rfl (ex_mv2 rfl f0 w)
    | 1,rfl,hE=>.val rfl (ex_mv2 rfl f5 w)
    | 2,rfl,hE=>.val rfl (ex_ix rfl (hE 0 rfl) (hE 1 rfl) k0 k1)
    | 3,rfl,hE=>.val rfl (ex_fa (f:=0) rfl (by decide) (hE 2 rfl))
    | 4,rfl,hE=>.val rfl (ex_ldS rfl (hE 3 rfl) (Zaa a0 hk))
    | 5,rfl,hE=>.val rfl (ex_mv2 rfl f1 w)
    | 6,rfl,hE=>.val rfl (ex_mv2 rfl f5 w)
    | 7,rfl,hE=>.val rfl (ex_ix rfl (hE 5 rfl) (hE 6 rfl) k0 k1)
    | 8,rfl,hE=>.val rfl (ex_fa (f:=0) rfl (by decide) (hE 7 rfl))
    | 9,rfl,hE=>.val rfl (ex_ldS rfl (hE 8 rfl) (Zaa b0 hk))
    | 10,rfl,hE=>.val rfl (ex_ne rfl (hE 4 rfl) (hE 9 rfl))
    | 11,rfl,hE=>.val rfl (ex_mv2 rfl (hE 10 rfl) w)
    | 12,rfl,hE=>.val rfl (ex_mv2 rfl f0 w)
    | 13,rfl,hE=>.val rfl (ex_mv2 rfl f5 w)
    | 14,rfl,hE=>.val rfl (ex_ix rfl (hE 12 rfl) (hE 13 rfl) k0 k1)
    | 15,rfl,hE=>.val rfl (ex_fa (f:=1) rfl (by decide) (hE 14 rfl))
    | 16,rfl,hE=>.val rfl (ex_ldS rfl (hE 15 rfl) (Zaa a1 hk))
    | 17,rfl,hE=>.val rfl (ex_mv2 rfl f1 w)
    | 18,rfl,hE=>.val rfl (ex_mv2 rfl f5 w)
    | 19,rfl,hE=>.val rfl (ex_ix rfl (hE 17 rfl) (hE 18 rfl) k0 k1)
    | 20,rfl,hE=>.val rfl (ex_fa (f:=1) rfl (by decide) (hE 19 rfl))
    | 21,rfl,hE=>.val rfl (ex_ldS rfl (hE 20 rfl) (Zaa b1 hk))
    | 22,rfl,hE=>.val rfl (ex_ne rfl (hE 16 rfl) (hE 21 rfl))
    | 23,rfl,hE=>.val rfl (ex_pk2 (x:=Operand.const (Value.bool true)) (y:=Operand.tmp 39) (b:=false) rfl (hE 11 rfl) (hE 22 rfl) w)
    | 24,rfl,hE=>.val rfl (ex_mv2 rfl (hE 23 rfl) w)
    | 25,rfl,hE=>.val rfl (ex_mv2 rfl f0 w)
    | 26,rfl,hE=>.val rfl (ex_mv2 rfl f5 w)
    | 27,rfl,hE=>.val rfl (ex_ix rfl (hE 25 rfl) (hE 26 rfl) k0 k1)
    | 28,rfl,hE=>.val rfl (ex_fa (f:=2) rfl (by decide) (hE 27 rfl))
    | 29,rfl,hE=>.val rfl (ex_ldS rfl (hE 28 rfl) (Zaa a2 hk))
    | 30,rfl,hE=>.val rfl (ex_mv2 rfl f1 w)
    | 31,rfl,hE=>.val rfl (ex_mv2 rfl f5 w)
    | 32,rfl,hE=>.val rfl (ex_ix rfl (hE 30 rfl) (hE 31 rfl) k0 k1)
    | 33,rfl,hE=>.val rfl (ex_fa (f:=2) rfl (by decide) (hE 32 rfl))
    | 34,rfl,hE=>.val rfl (ex_ldS rfl (hE 33 rfl) (Zaa b2 hk))
    | 35,rfl,hE=>.val rfl (ex_ne rfl (hE 29 rfl) (hE 34 rfl))
    | 36,rfl,hE=>.val rfl (ex_pk2 (x:=Operand.const (Value.bool true)) (y:=Operand.tmp 52) (b:=false) rfl (hE 24 rfl) (hE 35 rfl) w)
    | 37,rfl,hE=>.val rfl (ex_mv2 rfl (hE 36 rfl) w)
    | 38,rfl,hE=>.val rfl (ex_mv2 rfl f0 w)
    | 39,rfl,hE=>.val rfl (ex_mv2 rfl f5 w)
    | 40,rfl,hE=>.val rfl (ex_ix rfl (hE 38 rfl) (hE 39 rfl) k0 k1)
    | 41,rfl,hE=>.val rfl (ex_fa (f:=3) rfl (by decide) (hE 40 rfl))
    | 42,rfl,hE=>.val rfl (ex_ldX rfl (hE 41 rfl) (Zaa a3 hk))
    | 43,rfl,hE=>.val rfl (ex_mv2 rfl f1 w)
    | 44,rfl,hE=>.val rfl (ex_mv2 rfl f5 w)
    | 45,rfl,hE=>.val rfl (ex_ix rfl (hE 43 rfl) (hE 44 rfl) k0 k1)
    | 46,rfl,hE=>.val rfl (ex_fa (f:=3) rfl (by decide) (hE 45 rfl))
    | 47,rfl,hE=>.val rfl (ex_ldX rfl (hE 46 rfl) (Zaa b3 hk))
    | 48,ho,hE=>by
     obtain rfl:=Option.some.inj ho;have f59:a.eval (.tmp 59)=.slice pa y.ins.length qa:=hE 42 rfl;have f64:a.eval (.tmp 64)=.slice pb y.ins.length qb:=hE 47 rfl;refine .call 34 #[.slice pa y.ins.length qa,.slice pb y.ins.length qb] rfl (by
      show(execOp a.eval { dst:=some 65,op:=Op.call { callee:=Callee.value (Operand.func 34),args:= #[Operand.tmp 59,Operand.tmp 64],argTypes:=_ },type:=_,pos:=_,after:=_,guard:=_ }).run _ w=_
      simp only[execOp,resolve,List.map_toArray,List.map_cons,List.map_nil,ev_fn2];rw[f59,f64];go_simp) ?_
     refine(HSt.out w hk).mono ?_;rintro e w' ⟨rfl,q,rfl⟩;exact⟨by simp;rfl,Zad hk q⟩
    | 49,rfl,hE=>.val rfl (ex_nt rfl (hE 48 rfl))
    | 50,rfl,hE=>.val rfl (ex_pk2 (x:=Operand.const (Value.bool true)) (y:=Operand.tmp 66) (b:=false) rfl (hE 37 rfl) (hE 49 rfl) w)
    | n+51,ho,hE=>by simp at ho
   case fin =>
    intro w5 hk5
    show Exit.then _ _ Exit.normal { tmps:= #[_,_,_,_,_,_,_,_,_,_,_,_,_,_,_,_,_,_,_,_,_,_,_,_,_,_,_,_,_,_,_,_,_,_,_,_,_,_,_,_,_,_,_,_,_,_,_,_,_,_,_,_,_,_,_,_,_,_,_,_,_,_,_,_,_,_,_,_],defers:=_ } w5
    go_wp2;exact⟨⟨k+1,by omega,by go_num,hk5⟩,by simp[intOf];omega⟩
  ·have k1:(l.length:Int)<=(k:Int):=by omega
   clear HA HB HI;go_wp2;go_ret;exact⟨rfl,hB⟩
variable {es:Nat->Addr} {At:(Nat->Prop)->World->Value->Nat->Cf.Ens->Prop} {BAt:(Nat->Prop)->World->Value->Value->Bf.Bd->Prop}
theorem Zuk{V:World}{l:List Int}(h:V.heap[g]? =some (.cells (l.map zv).toArray 3)):QRow V (.slice (some ⟨g,0,none⟩) l.length l.length) l :=
 ⟨_,_,rfl,Nat.le_refl _,fun h=>(by cases h),fun _=>⟨g,0,rfl,(Array.getElem?_eq_some_iff.1 h).1,fun j hj=>by
  rw[Nat.zero_add];exact Zab h (by simp[hj])⟩⟩
theorem PlS.row{yb:Nat}{L:YL}{y:Bf.Yd}{ps:List Int}{out:Value}{L':YL}{wr:World}(h:PlS At B W yb L y ps out L' wr):QRow wr out (Pl.answers y ps)/\∀ g o n c,out=.slice (some ⟨g,o,none⟩) n c->W.heap.size<=g:=by
 have h1:=h.own;rw[<- Pl.answers_len ps y]at h1;exact QRow.of_owns h1
theorem Zpc(HC:Zao es At)(HB:Builds es Af.actO At BAt){W:World}(hP:PBase W.heap.size W es):
  Calls prog 4 #[] W fun e w'=>e=.returned (.bool true)/\Below W.heap.size W w':=by
 have HN:=hid1 (Zin HC hP);have HPb:=hid1 hP;have HCs:=hid1 HC;have HBs:=hid1 HB;clear hP HC HB;go_enter func4,ntmps4
 go_wp2_with fail;refine HN.out.mono ?_;rintro e w1 ⟨yb,L1,rfl,g1,hy1,-⟩;have gA:Below w1.heap.size w1 (w1.alloc (.cells #[.int .i64 0,.int .i64 (-1),.int .i64 5] 3)):=(Below.refl _ w1).alloc (Nat.le_refl _) _;have rA:=Zbv w1 (.cells #[.int .i64 0,.int .i64 (-1),.int .i64 5] 3);have hz1:=g1.size;have G2:=g1.trans (gA.mono hz1)
 have HR:=hid1 (Zim HCs.out HBs.out ((hy1.retag HCs.out 9).below HCs.out gA) (HPb.out.trans G2) Pl.fine0 (fun j hj=>L1.more_new (by have:=gA.size;omega)) (.slice (some ⟨w1.heap.size,0,none⟩) 3 3) [0,-1,5] (Zuk (l:=[0,-1,5]) rA) (fun x hx=>by simp only[List.mem_cons,List.not_mem_nil,or_false]at hx;omega) (by decide) (fun _ g o n c e=>by cases e;exact L1.more_new (Nat.le_refl _)))
 have HG2:=hid1 G2;clear HN hy1 rA gA G2;go_wp2_with fail;refine HR.out.mono ?_;rintro e w3 ⟨u,L3,rfl,hS3⟩;have h3:=hS3.row;have G3:=HG2.out.trans hS3.base;have hz3:=G3.size;rw[Pl.played]at h3;have gB:Below w3.heap.size w3 (w3.alloc (.cells #[.int .i64 0,.int .i64 (-1),.int .i64 0] 3)):=(Below.refl _ w3).alloc (Nat.le_refl _) _
 have HSi:=hid1 (Zmc u (.slice (some ⟨w3.heap.size,0,none⟩) 3 3) [0,-1,0] (h3.1.below gB) (Zuk (l:=[0,-1,0]) (Zbv w3 _)) (by decide))
 have hus:∃ p c,u=.slice p 3 c:=by obtain⟨p,c,e,-⟩:=h3.1;exact⟨p,c,e⟩
 obtain⟨p3,c3,rfl⟩:=hus;have G4:=G3.trans (gB.mono hz3);have HG4:=hid1 G4;clear HR hS3 h3 gB G4 G3;go_wp2_with fail;refine HSi.out.mono ?_;rintro e w5 ⟨rfl,q,rfl⟩;have G5:=Zad HG4.out q;generalize (w3.alloc (.cells #[.int .i64 0,.int .i64 (-1),.int .i64 0] 3)).drewN q=w5 at *;clear HSi;have HA:=hid1 (Zcx w5);go_wp2_with fail;refine HA.out.mono ?_
 rintro e w6 ⟨va,rfl,g6,hNa⟩;have HB2:=hid1 (Zcf w6);clear HA;go_wp2_with fail;refine HB2.out.mono ?_;rintro e w7 ⟨vb,rfl,g7,hNb⟩;have hz5:=G5.size;have G7:=(G5.trans (g6.mono hz5)).trans (g7.mono (by have:=g6.size;omega))
 have HSr:=hid1 (Zjt va vb Pl.l (hNa.more g7).row hNb.row (by decide) (fun x hx=>by have:=(Pl.small x hx).many;omega))
 have hva:∃ p c,va=.slice p 6 c:=by obtain⟨p,c,e,-⟩:=hNa.row;exact⟨p,c,e⟩
 have hvb:∃ p c,vb=.slice p 6 c:=by obtain⟨p,c,e,-⟩:=hNb.row;exact⟨p,c,e⟩
 obtain⟨pa,ca,rfl⟩:=hva;obtain⟨pb,cb,rfl⟩:=hvb;clear HB2 hNa hNb;go_wp2_with fail;refine HSr.out.mono ?_;rintro e w8 ⟨rfl,g8⟩;have G8:=Zac G7 g8;go_wp2;go_ret;exact⟨rfl,G8⟩
variable {es:Nat->Addr} {At:(Nat->Prop)->World->Value->Nat->Cf.Ens->Prop} {BAt:(Nat->Prop)->World->Value->Value->Bf.Bd->Prop}
theorem ZRow.belowP{w':World}{l:List Int}(h:ZRow w v l)(hb:Below w.heap.size w w'):ZRow w' v l:=by
 obtain⟨p,cap,e,h1⟩:=h;refine⟨p,cap,e,fun hl=> ?_⟩
 obtain⟨g,o,e,hg,hc⟩:=h1 hl;exact⟨g,o,e,Nat.lt_of_lt_of_le hg hb.size,fun j hj=>Zaa (hc j hj) hb⟩
namespace Ru
theorem fault_zero{l:List Ru}(h:(fault l).1=0):fault l=(0,-1):=by
 unfold fault at h ⊢;split
 ·rename_i h0
  rw[if_pos h0]at h;cases h
 ·rename_i h0
  rw[if_neg h0]at h;split
  ·rename_i k hk
   rw[hk]at h;exact absurd h (first_some_ne hk)
  ·rfl
theorem Zhb{f g done:Nat->Bool}:∀ {m:Nat},(∀ k,k<m->f k=g k)->leftTo f done m=leftTo g done m
 | 0,_=>rfl
 | m+1,h=>by
  rw[leftTo_succ,leftTo_succ,Zhb fun k hk=>h k (by omega),h m (by omega)]
theorem Zha{l:List Ru}{f g done:Nat->Bool}:∀ {m:Nat},(∀ k,k<m->f k=g k)->nextTo l f done m=nextTo l g done m
 | 0,_=>rfl
 | m+1,h=>by
  have e:may l f done m=may l g done m:=by unfold may;rw[h m (by omega)]
  rw[nextTo_succ,nextTo_succ,Zha fun k hk=>h k (by omega),e]
theorem Zgz{l:List Ru}{f g:Nat->Bool}(h:∀ k,k<l.length->f k=g k):∀(n:Nat) (o:List Nat),orderF l f n o=orderF l g n o
 | 0,_=>rfl
 | n+1,o=>by
  unfold orderF;rw[Zhb h,Zha h];split
  ·split
   ·rfl
   ·exact Zgz h n _
  ·rfl
theorem order_congr{l:List Ru}{f g:Nat->Bool}(h:∀ k,k<l.length->f k=g k):order l f=order l g:=Zgz h _ _
end Ru
def Zej(l:List Ru)(outs:List (List UInt8))(f:Nat×Int):Prop :=
 ((Ru.fault l).1≠0/\f=Ru.fault l) \/
 ((Ru.fault l).1=0/\∃ k,∃ hk:k<outs.length,(∀ x∈l,x.out≠outs[k])/\(∀ j (hj:j<outs.length),j<k->∃ x∈l,x.out=outs[j])/\f=(6,(k:Int))) \/
 ((Ru.fault l).1=0/\(∀ j (hj:j<outs.length),∃ x∈l,x.out=outs[j])/\Ru.order l (Bf.need l outs)=none/\f=(9,-1)) \/
 ((Ru.fault l).1=0/\(∀ j (hj:j<outs.length),∃ x∈l,x.out=outs[j])/\(Ru.order l (Bf.need l outs)).isSome=true/\f=(0,-1))
theorem Zho(v:Value)(l:List Ru)(hrow:RRow w v l)(hn:l.length<=1000)(hS:∀ x∈l,x.Small)(vo:Value)(outs:List (List UInt8))(hro:IRow w vo outs)(hno:outs.length<=1000):
  Calls prog 74 #[v,vo] w fun e w'=>∃ f:Nat×Int,e=.returned (.agg #[.int .i64 (f.1:Nat),.int .i64 f.2])/\Zej l outs f/\Below w.heap.size w w':=by
 have hI:∀ x∈l,x.ins.length<=1000000:=fun x hx=>by have:=(hS x hx).many;omega
 have hB0:Below w.heap.size w (w.alloc (.cells #[.int .i64 0,.int .i64 0] 76)):=(Below.refl _ w).alloc (Nat.le_refl _) _;have hr0:(w.alloc (.cells #[.int .i64 0,.int .i64 0] 76)).heap[w.heap.size]? =some (.cells #[.int .i64 0,.int .i64 0] 76 (0,0)):=by
  show(w.heap.push _)[w.heap.size]? =_
  simp
 have HB0:=hid1 hB0;have HR0:=hid1 hr0;have HF:=hid1 (Zdi v l (hrow.below hB0) hn hS);have HN:=hid1 fun(V:World) (g:Below w.heap.size w V)=>Zes v l (hrow.below g) hn hI vo outs (hro.below g) hno
 have HO:=hid1 fun(V:World) (g:Below w.heap.size w V) gs cs sm hs=>Zge v l (hrow.below g) hn hI gs cs sm hs
 have HB:=hid1 fun(V:World) (c:Int)=>Zil V c
 clear hrow hro hB0 hr0;generalize hW0:w.alloc (.cells #[.int .i64 0,.int .i64 0] 76)=W0 at *;by_cases hf:(Ru.fault l).1=0
 ·have HFt:Hid ((Ru.fault l).1=0):=hid1 hf;have hfz:=Ru.fault_zero hf;rw[hfz]at HF;clear hf hfz;go_enter func74,ntmps74
  go_wp2_with fail;refine HF.out.mono ?_;rintro e w1 ⟨rfl,g1⟩;have a1:Below w1.heap.size w1 (w1.alloc (.cells #[.int .i64 0,.int .i64 (-1)] 76)):=(Below.refl _ w1).alloc (Nat.le_refl _) _;have X1:=Zac g1 a1;have G1:=Zac HB0.out X1;have b0:(w1.alloc (.cells #[.int .i64 0,.int .i64 (-1)] 76)).cell? ⟨w1.heap.size,0,none⟩=some (.int .i64 0):=by simp
  have b1:(w1.alloc (.cells #[.int .i64 0,.int .i64 (-1)] 76)).cell? ⟨w1.heap.size,1,none⟩=some (.int .i64 (-1)):=by simp
  have HC0:=hid1 b0;have HC1:=hid1 b1;have HN1:=hid1 (HN.out _ G1);have HX1:=hid1 X1;clear HF HN b1 g1 a1 X1;generalize hw2:w1.alloc (.cells #[.int .i64 0,.int .i64 (-1)] 76)=W1 at *;go_wp2_with fail;refine HN1.out.mono ?_;rintro e w2 ⟨u,r,rfl,g2,hr⟩;have G2:=Zac G1 g2;have X2:=Zac HX1.out g2;clear HN1;rcases hr with ⟨k,rfl,hk,h1,h2,rfl⟩ | ⟨rfl,h1,g,f,rfl,hO,hN⟩
  ·have HQ:Hid (Zej l outs (6,(k:Int))):=hid1 (.inr (.inl ⟨HFt.out,k,hk,h1,h2,rfl⟩));have k0:(0:Int)<=(k:Int):=by omega
   clear h1 h2;have rr:=Zav HR0.out X2;have z0:=Zab (j:=0) rr rfl;have z1:=Zab (j:=1) rr rfl;have f0:(w2).frozen? ⟨w.heap.size,0,none⟩=false:=by simp[World.frozen?,rr]
   have f1:(w2).frozen? ⟨w.heap.size,1,none⟩=false:=by simp[World.frozen?,rr]
   have qq:=hid1 (Zbk rr (.int .i64 6) (.int .i64 (k:Int)));clear rr;go_wp2;refine bodyPost_ret (v:=.agg #[.int .i64 6,.int .i64 (k:Int)]) ?_ rfl ⟨(6,(k:Int)),rfl,HQ.out,?_⟩
   ·obtain⟨q0,q1⟩:=qq.out;simp[results,f74,go_sem,q0,q1]
   ·exact(G2.setCell (p:=⟨w.heap.size,0,none⟩) (Nat.le_refl _) _).setCell (p:=⟨w.heap.size,1,none⟩) (Nat.le_refl _) _
  ·have HO2:=hid1 (HO.out w2 G2 g l.length f fun j hj=>hO.cell hj)
   have he:Ru.order l f=Ru.order l (Bf.need l outs):=Ru.order_congr fun k hk=>(Bf.need_eq hN hk).symm
   rw[he]at HO2;have H1:=hid1 h1;clear he h1 hO hN HO;go_wp2_with fail;refine HO2.out.mono ?_;rintro e w3 ⟨u3,b3,rfl,g3,h3⟩;have G3:=Zac G2 g3;have X3:=Zac X2 g3;have d0:=Zaa (Zaa HC0.out g2) g3;have d1:=Zaa (Zaa HC1.out g2) g3;clear HO2;rcases h3 with ⟨rfl,rfl,h3⟩ | ⟨o,rfl,h3,-⟩
   ·have HQ:Hid (Zej l outs (9,-1)):=hid1 (.inr (.inr (.inl ⟨HFt.out,H1.out,h3,rfl⟩)));have HBn:=hid1 (HB.out w3 9);clear h3;go_wp2_with fail;refine HBn.out.mono ?_;rintro e w4 ⟨rfl,g4⟩;have G4:=Zac G3 g4;have X4:=Zac X3 g4;clear HBn;have rr:=Zav HR0.out X4;have z0:=Zab (j:=0) rr rfl;have z1:=Zab (j:=1) rr rfl
    have f0:(w4).frozen? ⟨w.heap.size,0,none⟩=false:=by simp[World.frozen?,rr]
    have f1:(w4).frozen? ⟨w.heap.size,1,none⟩=false:=by simp[World.frozen?,rr]
    have qq:=hid1 (Zbk rr (.int .i64 9) (.int .i64 (-1)));clear rr;go_wp2;refine bodyPost_ret (v:=.agg #[.int .i64 9,.int .i64 (-1)]) ?_ rfl ⟨(9,(-1)),rfl,HQ.out,?_⟩
    ·obtain⟨q0,q1⟩:=qq.out;simp[results,f74,go_sem,q0,q1]
    ·exact(G4.setCell (p:=⟨w.heap.size,0,none⟩) (Nat.le_refl _) _).setCell (p:=⟨w.heap.size,1,none⟩) (Nat.le_refl _) _
   ·have HQ:Hid (Zej l outs (0,-1)):=hid1 (.inr (.inr (.inr ⟨HFt.out,H1.out,by rw[h3];rfl,rfl⟩)))
    clear h3;have rr:=Zav HR0.out X3;have z0:=Zab (j:=0) rr rfl;have z1:=Zab (j:=1) rr rfl;have f0:(w3).frozen? ⟨w.heap.size,0,none⟩=false:=by simp[World.frozen?,rr]
    have f1:(w3).frozen? ⟨w.heap.size,1,none⟩=false:=by simp[World.frozen?,rr]
    have qq:=hid1 (Zbk rr (.int .i64 0) (.int .i64 (-1)));clear rr;go_wp2;refine bodyPost_ret (v:=.agg #[.int .i64 0,.int .i64 (-1)]) ?_ rfl ⟨(0,(-1)),rfl,HQ.out,?_⟩
    ·obtain⟨q0,q1⟩:=qq.out;simp[results,f74,go_sem,q0,q1]
    ·exact(G3.setCell (p:=⟨w.heap.size,0,none⟩) (Nat.le_refl _) _).setCell (p:=⟨w.heap.size,1,none⟩) (Nat.le_refl _) _
 ·have HQ:Hid (Zej l outs (Ru.fault l)):=hid1 (.inl ⟨hf,rfl⟩);have zf:(0:Int)<((Ru.fault l).1:Int):=by omega
  generalize Ru.fault l=ff at *;obtain⟨fc,fa⟩:=ff;clear hf HN HO HB;go_enter func74,ntmps74
  go_wp2_with fail;refine HF.out.mono ?_;rintro e w1 ⟨rfl,g1⟩;have a1:Below w1.heap.size w1 (w1.alloc (.cells #[.int .i64 fc,.int .i64 fa] 76)):=(Below.refl _ w1).alloc (Nat.le_refl _) _;have X1:=Zac g1 a1;have G1:=Zac HB0.out X1;clear HF g1 a1;have rr:=Zav HR0.out X1;have z0:=Zab (j:=0) rr rfl;have z1:=Zab (j:=1) rr rfl
  have f0:(w1.alloc (.cells #[.int .i64 fc,.int .i64 fa] 76)).frozen? ⟨w.heap.size,0,none⟩=false:=by simp[World.frozen?,rr]
  have f1:(w1.alloc (.cells #[.int .i64 fc,.int .i64 fa] 76)).frozen? ⟨w.heap.size,1,none⟩=false:=by simp[World.frozen?,rr]
  have qq:=hid1 (Zbk rr (.int .i64 (fc:Nat)) (.int .i64 fa));clear rr;go_wp2;refine bodyPost_ret (v:=.agg #[.int .i64 (fc:Nat),.int .i64 fa]) ?_ rfl ⟨(fc,fa),rfl,HQ.out,?_⟩
  ·obtain⟨q0,q1⟩:=qq.out;simp[results,f74,go_sem,q0,q1]
  ·exact(G1.setCell (p:=⟨w.heap.size,0,none⟩) (Nat.le_refl _) _).setCell (p:=⟨w.heap.size,1,none⟩) (Nat.le_refl _) _
