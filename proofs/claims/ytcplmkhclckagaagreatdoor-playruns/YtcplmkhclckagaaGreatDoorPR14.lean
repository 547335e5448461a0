import Derived.Test.YtcplmkhclckagaaGreatDoorPR11
import Derived.Test.YtcplmkhclckagaaGreatDoorPR13
set_option maxRecDepth 100000
set_option maxHeartbeats 16000000
open Go.Proofs.Tryz
namespace Go.Proofs.YtcplmkhclckagaaGreatDoor
open Go.RowKit Go.Shelf Go.Lib Go.Extern.Stop Go.Stop Go.Extern
theorem YC.row_new(W:World)(o:Obj):(W.alloc o).heap[W.heap.size]? =some o:=by
 show(W.heap.push _)[W.heap.size]? =_
 simp
def XIn(P:Nat->Prop)(w:World)(v:Value)(l:List (List UInt8)):Prop:=XRow w v l/\∀ a n cap,v=.slice (some a) n cap->l≠[]->P a.block
variable {P:Nat->Prop}{w:World}{v:Value}{l:List (List UInt8)}
theorem XIn.same{V:World}(h:XIn P w v l)(hz:w.heap.size<=V.heap.size)(hb:∀ j,P j->j<w.heap.size->V.heap[j]? =w.heap[j]?):XIn P V v l:=by
 obtain⟨⟨p,cap,rfl,h0,hn,h1⟩,h2⟩:=h;refine⟨⟨p,cap,rfl,h0,hn,fun hl=> ?_⟩,h2⟩
 obtain⟨g,o,rfl,hg,hc⟩:=h1 hl;have hP:=h2 _ _ _ rfl hl;exact⟨g,o,rfl,Nat.lt_of_lt_of_le hg hz,fun j hj=>(World.cell?_of_block (a:=⟨g,o+j,none⟩) (hb g hP hg)).trans (hc j hj)⟩
theorem XIn.imp{Q:Nat->Prop}(h:XIn P w v l)(hPQ:∀ j,P j->Q j):XIn Q w v l:=⟨h.1,fun a n cap e hl=>hPQ _ (h.2 a n cap e hl)⟩
def RuIn(P:Nat->Prop)(w:World)(g o:Nat)(r:Ru):Prop :=
 w.cell? ⟨g,o,none⟩=some (.string (ba r.out))/\w.cell? ⟨g,o+1,none⟩=some (.string (ba r.kind))/\w.cell? ⟨g,o+2,none⟩=some (.string (ba r.word))/\∃ v,w.cell? ⟨g,o+3,none⟩=some v/\XIn P w v r.ins
theorem RuIn.same{P:Nat->Prop}{w V:World}{g o:Nat}{r:Ru}(h:RuIn P w g o r)(hg:V.heap[g]? =w.heap[g]?)(hz:w.heap.size<=V.heap.size)(hb:∀ j,P j->j<w.heap.size->V.heap[j]? =w.heap[j]?):RuIn P V g o r:=by
 obtain⟨h0,h1,h2,v,h3,h4⟩:=h;exact⟨(World.cell?_of_block (a:=⟨g,o,none⟩) hg).trans h0,(World.cell?_of_block (a:=⟨g,o+1,none⟩) hg).trans h1,(World.cell?_of_block (a:=⟨g,o+2,none⟩) hg).trans h2,v,(World.cell?_of_block (a:=⟨g,o+3,none⟩) hg).trans h3,h4.same hz hb⟩
theorem RuIn.imp{P Q:Nat->Prop}{w:World}{g o:Nat}{r:Ru}(h:RuIn P w g o r)(hPQ:∀ j,P j->Q j):RuIn Q w g o r:=by
 obtain⟨h0,h1,h2,v,h3,h4⟩:=h;exact⟨h0,h1,h2,v,h3,h4.imp hPQ⟩
variable {g o:Nat}
theorem RuIn.at{r:Ru}(h:RuIn P w g o r):RuAt w g o r:=by
 obtain⟨h0,h1,h2,v,h3,h4⟩:=h;exact⟨h0,h1,h2,v,h3,h4.1⟩
def RNew(n:Nat)(w:World)(v:Value)(l:List Ru):Prop:=∀ V:World,w.heap.size<=V.heap.size->(∀ j,n<=j->j<w.heap.size->V.heap[j]? =w.heap[j]?)->RRow V v l
theorem Zre(v:Value)(l:List (List UInt8))(hrow:XRow w v l)(hl:l.length<=1000):
  Calls prog 64 #[v] w fun e w'=>∃ v',e=.returned v'/\XIn (fun j=>w.heap.size<=j) w' v' l/\Below w.heap.size w w':=by
 have key:∀ {w':World} {v':Value},w'.ownsRow w.heap.size 9 1 v' l.length (l.map sv)->XIn (fun j=>w.heap.size<=j) w' v' l:=fun {w' v'} h=>by
  refine⟨XRow.of_owns h,fun a n cap e _=> ?_⟩
  subst e;exact Zbw h _ (by simp[Value.ownBlock])
 obtain⟨p,cap,rfl,hcap,hn,h1⟩:=hrow;cases p with
 | none =>
  have hc:=hn rfl;subst hc;obtain rfl:l=[]:=List.length_eq_zero_iff.1 (by omega)
  refine(slices_Clone_string_nil 0 0 w).mono ?_;rintro e w' ⟨rfl,rfl⟩;exact⟨_,rfl,⟨XRow.nil _,fun a n cap e=>by cases e⟩,Below.refl _ _⟩
 | some a =>
  by_cases he:l=[]
  ·subst he;refine(slices_Clone_string_zero a cap w).mono ?_;rintro e w' ⟨v',rfl,ho,_,hb⟩;exact⟨v',rfl,key ho,hb⟩
  ·obtain⟨g,o,e,hg,hc⟩:=h1 he;obtain rfl:a=⟨g,o,none⟩:=Option.some.inj e;refine(slices_Clone_string g o l.length cap (l.map ba) w (by simp) (by omega) (fun j hj=>by
    have hj':j<l.length:=by simpa using hj
    rw[hc j hj'];simp[hj'])).mono ?_
   rintro e w' ⟨v',rfl,ho,_,hb⟩;rw[List.take_of_length_le (by simp),List.map_map]at ho
   exact⟨v',rfl,key ho,hb⟩
theorem Zvx:∀ {l:List Ru},(∀ j (hj:j<l.length),RuAt w g (o+j*4) l[j])->∃ dn:List (Ru×Value),dn.map Prod.fst=l/\(∀ j (hj:j<dn.length),w.cell? ⟨g,o+j*4,none⟩=some (.string (ba dn[j].1.out))/\w.cell? ⟨g,o+j*4+1,none⟩=some (.string (ba dn[j].1.kind))/\w.cell? ⟨g,o+j*4+2,none⟩=some (.string (ba dn[j].1.word))/\w.cell? ⟨g,o+j*4+3,none⟩=some dn[j].2/\XRow w dn[j].2 dn[j].1.ins):=by
 intro l h
 have h':∀ j (hj:j<l.length),∃ v,w.cell? ⟨g,o+j*4+3,none⟩=some v/\XRow w v l[j].ins:=fun j hj=>(h j hj).2.2.2
 refine⟨(List.range l.length).attach.map fun x=>(l[x.1]'(List.mem_range.1 x.2),(h' x.1 (List.mem_range.1 x.2)).choose),?_,fun j hj=> ?_⟩
 ·apply List.ext_getElem
  ·simp
  ·intro n h1 h2
   simp
 ·have hj':j<l.length:=by simpa using hj
  obtain⟨a0,a1,a2,-⟩:=h j hj';have:=(h' j hj').choose_spec;simp only[List.getElem_map,List.getElem_attach,List.getElem_range];exact⟨a0,a1,a2,this.1,this.2⟩
theorem Zii(l:List (Ru×Value)):(Zap l).length=l.length*4:=by
 induction l with
 | nil=>rfl
 | cons x r ih =>
  have e:Zap (x::r)=.string (ba x.1.out):: .string (ba x.1.kind):: .string (ba x.1.word)::x.2::Zap r:=by simp[Zap]
  rw[e];simp only[List.length_cons,ih];omega
theorem Zsa{l:List (Ru×Value)}(h:∀ j (hj:j<l.length),w.cell? ⟨g,o+j*4,none⟩=some (.string (ba l[j].1.out))/\w.cell? ⟨g,o+j*4+1,none⟩=some (.string (ba l[j].1.kind))/\w.cell? ⟨g,o+j*4+2,none⟩=some (.string (ba l[j].1.word))/\w.cell? ⟨g,o+j*4+3,none⟩=some l[j].2)(i:Nat)(u:Value)(hu:(Zap l)[i]? =some u):w.cell? ⟨g,o+i,none⟩=some u:=by
 have hi:i<l.length*4:=by
  have:=(List.getElem?_eq_some_iff.1 hu).1;rwa[Zii]at this
 have hj:i/4<l.length:=by omega
 obtain⟨a0,a1,a2,a3⟩:=Zec l (i/4) hj;obtain⟨b0,b1,b2,b3⟩:=h (i/4) hj;have hc:i=i/4*4\/i=i/4*4+1\/i=i/4*4+2\/i=i/4*4+3:=by omega
 generalize i/4=q at *;rcases hc with rfl | rfl | rfl | rfl
 ·rw[a0]at hu;rw[b0,Option.some.inj hu]
 ·rw[a1]at hu;rw[show o+(q*4+1)=o+q*4+1 by omega,b1,Option.some.inj hu]
 ·rw[a2]at hu;rw[show o+(q*4+2)=o+q*4+2 by omega,b2,Option.some.inj hu]
 ·rw[a3]at hu;rw[show o+(q*4+3)=o+q*4+3 by omega,b3,Option.some.inj hu]
theorem Zrz{l:List (Ru×Value)}(h:∀ x∈l,XRow w x.2 x.1.ins):∀ u∈Zap l,u.oneCell'=true:=by
 intro u hu
 obtain⟨x,hx,hm⟩:=List.mem_flatMap.1 hu;obtain⟨p,cap,e,-⟩:=h x hx;simp only[List.mem_cons,List.not_mem_nil,or_false]at hm;rcases hm with rfl | rfl | rfl | rfl
 ·rfl
 ·rfl
 ·rfl
 ·rw[e];rfl
theorem Zrf(v:Value)(l:List Ru)(hrow:RRow w v l)(hl:l.length<=1000):
  Calls prog 63 #[v] w fun e w'=>∃ v',e=.returned v'/\Below w.heap.size w w'/\((l=[]/\∃ p c,v'=.slice p 0 c/\(p=none->c=0))\/∃ g cap,l≠[]/\v'=.slice (some ⟨g,0,none⟩) l.length cap/\w.heap.size<=g/\g<w'.heap.size/\l.length<=cap/\(∀ i,w'.frozen? ⟨g,i,none⟩=false)/\∀ j (hj:j<l.length),RuIn (fun b=>b<w.heap.size) w' g (j*4) l[j]):=by
 obtain⟨i0,hi,hz0,hz1,hz2⟩:=info_parts Tryz.infoRule;have q22:∀(w:World) (a:Option Addr) (n c n' c':Nat),(binOp .eql 36 (.slice a n c) (.slice none n' c')).run prog w=.ok (.bool a.isNone) w:=fun w a n c n' c'=>Lib.run_eql_slice_nil w _ _ a n c n' c' underlying36
 obtain⟨p,cap,rfl,hcap,hn,hin⟩:=hrow;cases p with
 | none =>
  have hc:=hn rfl;subst hc;obtain rfl:l=[]:=List.length_eq_zero_iff.1 (by omega)
  clear hin hn;go_enter func63,ntmps63
  go_wp2;go_ret;exact⟨_,rfl,Below.refl _ _,.inl ⟨by trivial,none,0,rfl,fun _=>rfl⟩⟩
 | some a =>
  have key:∃ dn:List (Ru×Value),dn.map Prod.fst=l/\(∀ x∈dn,XRow w x.2 x.1.ins)/\∀ j u,(Zap dn)[j]? =some u->w.cell? (a.add j)=some u:=by
   by_cases he:l=[]
   ·exact⟨[],by rw[he];rfl,fun x hx=>by simp at hx,fun j u h=>by simp[Zap]at h⟩
   ·obtain⟨g,o,e,hg,hc⟩:=hin he;obtain rfl:a=⟨g,o,none⟩:=Option.some.inj e;obtain⟨dn,e1,h2⟩:=Zvx hc;refine⟨dn,e1,fun x hx=> ?_,fun j u hu=> ?_⟩
    ·obtain⟨k,hk,rfl⟩:=List.getElem_of_mem hx;exact(h2 k hk).2.2.2.2
    ·rw[Zdv];exact Zsa (fun j hj=>⟨(h2 j hj).1,(h2 j hj).2.1,(h2 j hj).2.2.1,(h2 j hj).2.2.2.1⟩) j u hu
  obtain⟨dn,e1,hx,hc⟩:=key;have hlen:dn.length=l.length:=by rw[<- e1];simp
  have HC:Hid (∀ j u,(Zap dn)[j]? =some u->w.cell? (a.add j)=some u):=hid1 hc
  have HX:=hid1 hx;have h1:=Zrz hx;have hrl:=Zii dn;rw[hlen]at hrl;clear hc hx hin hn;go_enter func63,ntmps63
  go_wp2_with (at_builtin;refine wpList_append_own _ rfl _ _ 36 rfl w.heap.size 73 i0 (.agg #[.string ⟨#[]⟩,.string ⟨#[]⟩,.string ⟨#[]⟩,.slice none 0 0]) 4 72 underlying36 hi hz0 hz1 hz2 rfl (by decide) _ _ _ rfl (World.ownsRow_made w #[] 0 (Nat.le_refl _) (Nat.zero_le _) (by simp)) a l.length cap (Zap dn) rfl hrl (fun j u hj=>Lib.cell?_alloc_some _ (HC.out j u hj)) h1 (by unfold maxLen;omega) (by omega) (by simp) ?_;intro v' w1 hown hgrow hnil)
  go_wp2;go_ret;have hgrow':(w.alloc (.cells #[] 73)).grownBy w1 (some w.heap.size):=hgrow;have hB:Below w.heap.size w w1:=((Below.refl _ w).alloc (Nat.le_refl _) _).grown hgrow' (by simp) (by intro k hk;cases hk;exact Nat.le_refl _)
  refine⟨v',rfl,hB,?_⟩;have hown':w1.ownsRow w.heap.size 73 4 v' l.length (Zap dn):=by simpa using hown
  rcases hown'.2 with ⟨rfl,_⟩ | ⟨g,cap',cur,rfl,hbg,hgc,hc1,-,-,-⟩
  ·have hn:=(hnil.1 rfl).1;cases hn
  ·by_cases he:l=[]
   ·exact .inl ⟨he,some ⟨g,0,none⟩,cap',by rw[he];rfl,fun h=>by cases h⟩
   ·refine .inr ⟨g,cap',he,rfl,hbg,(Array.getElem?_eq_some_iff.1 hgc).1,hc1,fun i=>World.ownsRow.frozenAt hown' i,fun j hj=> ?_⟩
    have hj':j<dn.length:=by omega
    obtain⟨a0,a1,a2,a3⟩:=Zec dn j hj';have ej:dn[j].1=l[j]:=by subst e1;simp
    have hat:∀ i u,(Zap dn)[i]? =some u->w1.cell? ⟨g,i,none⟩=some u:=fun i u hu=>by
     rw[World.ownsRow.cellAt hown' i (by have:=(List.getElem?_eq_some_iff.1 hu).1;omega)]
     exact hu
    have hxr:=HX.out dn[j] (List.getElem_mem hj');rw[ej]at a0 a1 a2 hxr;refine⟨hat _ _ a0,hat _ _ a1,hat _ _ a2,_,hat _ _ a3,hxr.below hB,fun b n c eb hne=> ?_⟩
    obtain⟨p3,c3,e3,-,-,h3⟩:=hxr;obtain⟨g3,o3,e4,hg3,-⟩:=h3 hne;rw[e3,e4]at eb;cases eb
    exact hg3
theorem Zrp(v:Value)(l:List Ru)(hrow:RRow w v l)(hl:l.length<=1000)(h12:∀ x∈l,x.ins.length<=1000):
  Calls prog 39 #[v] w fun e w'=>∃ v',e=.returned v'/\Below w.heap.size w w'/\RNew w.heap.size w' v' l:=by
 have HC:=hid1 (Zrf v l hrow hl);have H12:=hid1 h12;have zl:(l.length:Int)<=1000:=by omega
 obtain⟨pv,cv,rfl,-⟩:=hrow;clear h12;go_enter func39,ntmps39
 go_wp2_with fail;refine HC.out.mono ?_;rintro e w1 ⟨v',rfl,g1,hcase⟩;clear HC;rcases hcase with ⟨rfl,p,c,rfl,hpc⟩ | ⟨g,cap,hne,rfl,hg,hg1,hcap,hfz,hru⟩
 ·have HP:=hid1 hpc;clear hpc H12;go_wp2;go_loopw [10] (fun iv wr=>iv=.int .i64 0/\wr=w1) (fun _ _=>0)
  case atStart=>exact⟨rfl,rfl⟩
  case round =>
   obtain⟨rfl,rfl⟩:=hrel;go_wp2;go_ret;exact⟨_,rfl,g1,fun V _ _=>⟨p,c,rfl,Nat.zero_le _,HP.out,fun h=>absurd rfl h⟩⟩
 ·have HRu:Hid (∀ j (hj:j<l.length),RuIn (fun b=>b≠g/\(j<0->g<b)) w1 g (j*4) l[j]):=hid1 fun j hj=>(hru j hj).imp fun b hb=>⟨by omega,fun h=>by omega⟩
  have HFz:=hid1 hfz;clear hru hfz;go_wp2;go_loopw [10] (fun iv wr=>∃ k:Nat,k<=l.length/\iv=.int .i64 k/\Below w.heap.size w wr/\w1.heap.size<=wr.heap.size/\(∀ i,wr.frozen? ⟨g,i,none⟩=false)/\∀ j (hj:j<l.length),RuIn (fun b=>b≠g/\(j<k->g<b)) wr g (j*4) l[j]) (fun iv _=>l.length - (intOf iv).toNat)
  case atStart=>exact⟨0,Nat.zero_le _,rfl,g1,Nat.le_refl _,HFz.out,HRu.out⟩
  case round =>
   obtain⟨k,hk,rfl,B,hz1,hfz,hru⟩:=hrel;have HF:=hid1 hfz;have HR:Hid (∀ j (hj:j<l.length),RuIn (fun b=>b≠g/\(j<k->g<b)) wr g (j*4) l[j]):=hid1 hru
   clear HRu HFz hfz hru;have k0:(0:Int)<=(k:Int):=by omega
   by_cases hlt:k<l.length
   ·have k1:(k:Int)<(l.length:Int):=by omega
    obtain⟨d0,d1,d2,v3,d3,hx3⟩:=HR.out k hlt;have hxr:=hx3.1;have hml:=H12.out _ (List.getElem_mem hlt);obtain⟨p3,cap3,rfl,-⟩:=hx3.1;have hst:∀(a:Addr) (m:Mode) (W:World),Sem.run prog (store a (.slice p3 l[k].ins.length cap3) m) W=stored prog W a (.slice p3 l[k].ins.length cap3) m:=fun a m W=>run_store _ W a _ m rfl
    have gA:Below wr.heap.size wr (wr.alloc (.cells #[.string (ba l[k].out),.string (ba l[k].kind),.string (ba l[k].word),.slice p3 l[k].ins.length cap3] 73)):=(Below.refl _ wr).alloc (Nat.le_refl _) _;have cA3:=Zab (j:=3) (YC.row_new wr (.cells #[.string (ba l[k].out),.string (ba l[k].kind),.string (ba l[k].word),.slice p3 l[k].ins.length cap3] 73)) rfl
    have HS:=hid1 (Zre (.slice p3 l[k].ins.length cap3) l[k].ins (hxr.below gA) hml);clear hx3 hxr;have hgw:g<wr.heap.size:=by omega
    generalize hwa:wr.alloc (.cells #[.string (ba l[k].out),.string (ba l[k].kind),.string (ba l[k].word),.slice p3 l[k].ins.length cap3] 73)=wa at *;go_wp2_with fail;refine HS.out.mono ?_;rintro e w4 ⟨v4,rfl,hx4,g4⟩;have gB:=Zac gA g4;have c3:=Zaa d3 gB;have f3:w4.frozen? ⟨g,k*4+3,none⟩=false:=(gB.frozen (p:=⟨g,k*4+3,none⟩) hgw).trans (HF.out _)
    have HX4:=hid1 hx4;obtain⟨p4,cap4,rfl,-⟩:=hx4.1;have hst4:∀(a:Addr) (m:Mode) (W:World),Sem.run prog (store a (.slice p4 l[k].ins.length cap4) m) W=stored prog W a (.slice p4 l[k].ins.length cap4) m:=fun a m W=>run_store _ W a _ m rfl
    have HAW:=hid1 gA.size;have HGB:=hid1 gB;clear hx4 HS d0 d1 d2 d3 hst gA g4 cA3;go_wp2;have eS:(w4.setCell ⟨g,k*4+3,none⟩ (.slice p4 l[k].ins.length cap4)).heap.size=w4.heap.size:=by simp
    have hbo:∀ j,j≠g->(w4.setCell ⟨g,k*4+3,none⟩ (.slice p4 l[k].ins.length cap4)).heap[j]? =w4.heap[j]? :=fun j hj=>Below.heap_setCell _ _ _ _ hj
    refine⟨⟨k+1,by omega,by go_num,?_,by rw[eS];have:=HGB.out.size;omega,fun i=> ?_,fun j hj=> ?_⟩,by simp[intOf];omega⟩
    ·exact(Zac B HGB.out).setCell (p:=⟨g,k*4+3,none⟩) hg _
    ·rw[World.frozen?_setCell];exact(HGB.out.frozen (p:=⟨g,i,none⟩) hgw).trans (HF.out i)
    ·have hold:=HR.out j hj;by_cases e:j=k
     ·subst e;obtain⟨a0,a1,a2,-⟩:=hold;have oc:∀ i u,i≠j*4+3->wr.cell? ⟨g,i,none⟩=some u->(w4.setCell ⟨g,j*4+3,none⟩ (.slice p4 l[j].ins.length cap4)).cell? ⟨g,i,none⟩=some u:=fun i u hi hu=>by
       rw[World.cell?_setCell_other _ _ _ _ (fun e=>hi (by cases e;rfl))]
       exact Zaa hu HGB.out
      refine⟨oc _ _ (by omega) a0,oc _ _ (by omega) a1,oc _ _ (by omega) a2,_,World.cell?_setCell_same _ _ _ c3,?_⟩
      refine(HX4.out.imp (Q:=fun b=>b≠g/\(j<j+1->g<b)) fun b hb=> ?_).same (by rw[eS];exact Nat.le_refl _) fun b hb _=>hbo b hb.1
      have:=HAW.out;exact⟨by omega,fun _=>by omega⟩
     ·obtain⟨a0,a1,a2,u,a3,ax⟩:=hold;have oc:∀ i u,i≠k*4+3->wr.cell? ⟨g,i,none⟩=some u->(w4.setCell ⟨g,k*4+3,none⟩ (.slice p4 l[k].ins.length cap4)).cell? ⟨g,i,none⟩=some u:=fun i u hi hu=>by
       rw[World.cell?_setCell_other _ _ _ _ (fun e=>hi (by cases e;rfl))]
       exact Zaa hu HGB.out
      refine⟨oc _ _ (by omega) a0,oc _ _ (by omega) a1,oc _ _ (by omega) a2,_,oc _ _ (by omega) a3,?_⟩
      have h1:XIn (fun b=>b≠g/\(j<k->g<b)) w4 u l[j].ins:=ax.same HGB.out.size fun b _ hb=>HGB.out.block b hb
      exact(h1.same (V:=w4.setCell ⟨g,k*4+3,none⟩ (.slice p4 l[k].ins.length cap4)) (by rw[eS];exact Nat.le_refl _) fun b hb _=>hbo b hb.1).imp fun b hb=>⟨hb.1,fun h=>hb.2 (by omega)⟩
   ·have k1:(l.length:Int)<=(k:Int):=by omega
    obtain rfl:k=l.length:=by omega
    have hgw:g<wr.heap.size:=by omega
    clear HF;go_wp2;go_ret;refine⟨_,rfl,B,fun V hz hV=>⟨some ⟨g,0,none⟩,cap,rfl,hcap,fun h=>(by cases h),fun _=>⟨g,0,rfl,by omega,fun j hj=> ?_⟩⟩⟩
    rw[Nat.zero_add];exact((HR.out j hj).same (hV g hg hgw) hz fun b hb hlt=>hV b (by have:=hb.2 hj;omega) hlt).at
theorem ba_cat(a b:List UInt8):ba a++ba b=ba (a++b):=ba_eq (by simp)
theorem Zbv(w:World)(o:Obj):(w.alloc o).heap[w.heap.size]? =some o:=by
 show(w.heap.push o)[w.heap.size]? =_
 simp
variable {B i:Nat}{W:World}
theorem Zbj(h:Below B w W)(hg:B<=g)(v:Value):Below B w (W.setCell ⟨g,i,none⟩ v) :=
 ⟨h.os,h.tape,h.output,by simp;exact h.size,fun j hj=>(Below.heap_setCell W ⟨g,i,none⟩ v j (by show j≠g;omega)).trans (h.block j hj)⟩
variable {b:Nat}
theorem Zbi{w':World}{o:Obj}(h:w.heap[b]? =some o)(hb:Below w.heap.size w w'):w'.heap[b]? =some o:=(hb.block b (Array.getElem?_eq_some_iff.1 h).1).trans h
variable {e:TypeId}{n:Nat}
theorem Zgm{s:Nat}{xs:List Value}(h:W.ownsRow B e s v n xs):∃ p c,v=.slice p n c:=by
 rcases h.2 with ⟨rfl,rfl⟩ | ⟨g,cap,cur,rfl,_⟩
 ·exact⟨_,_,rfl⟩
 ·exact⟨_,_,rfl⟩
abbrev mid(s:List UInt8)(i j:Nat):List UInt8:=(s.take j).drop i
variable {s:List UInt8}
theorem Zht{j:Nat}(hi:i<=j)(hj:j<s.length):mid s i (j+1)=mid s i j++[s[j]]:=by
 unfold mid;rw[List.take_succ_eq_append_getElem hj,List.drop_append_of_le_length (by simp;omega)]
theorem Zhu(s:List UInt8)(i:Nat):mid s i i=[]:=List.drop_eq_nil_of_le (by simp;omega)
structure RuLine(s:List UInt8)(a b d:Nat)(wd:List UInt8):Prop where
 few:s.length<=10000
 eq:Lib.occAt s [32,61,32] a=true
 no:∀ j,j<a->Lib.occAt s [32,61,32] j=false
 a3:a+3<=b
 bd:b<=d
 dlt:d+1<s.length
 kind:∀ j (hj:j<s.length),a+3<=j->j<b->s[j]≠32
 stop:∀ hb:b<s.length,s[b]=32
 sep:∀ hd:d<s.length,s[d]=32
 word:(wd=[]/\d=b/\∀ h:b+1<s.length,s[b+1]≠34)\/(wd≠[]/\d=b+3+wd.length/\(∀ h:b+1<s.length,s[b+1]=34)/\mid s (b+2) (d - 1)=wd/\(∀ j (hj:j<s.length),b+2<=j->j<d - 1->s[j]≠34/\s[j]≠92)/\∀ h:d - 1<s.length,s[d - 1]=34)
 full:[]∉cutB 32 (s.drop (d+1))
theorem Yae{a0 a1 a2 a3:Value}(h:W.heap[n]? =some (.cells #[a0,a1,a2,a3] e))(a b c d:Value):
  ((((W.setCell ⟨n,0,none⟩ a).setCell ⟨n,1,none⟩ b).setCell ⟨n,2,none⟩ c).setCell ⟨n,3,none⟩ d).drew.heap[n]? =some (.cells #[a,b,c,d] e):=by
 show((((W.setCell ⟨n,0,none⟩ a).setCell ⟨n,1,none⟩ b).setCell ⟨n,2,none⟩ c).setCell ⟨n,3,none⟩ d).heap[n]? =_
 have h1:=heap_setCell_same W n 0 _ _ a h;have h2:=heap_setCell_same _ n 1 _ _ b h1;have h3:=heap_setCell_same _ n 2 _ _ c h2;exact(heap_setCell_same _ n 3 _ _ d h3).trans rfl
theorem Zlk{w6:World}(hb:Below w.heap.size w w6)(hx:XIn (fun j=>w.heap.size+2<=j) w6 v l)(a b c d:Value):
  Below w.heap.size w ((((w6.setCell ⟨w.heap.size,0,none⟩ a).setCell ⟨w.heap.size,1,none⟩ b).setCell ⟨w.heap.size,2,none⟩ c).setCell ⟨w.heap.size,3,none⟩ d).drew/\XIn (fun j=>w.heap.size<=j) ((((w6.setCell ⟨w.heap.size,0,none⟩ a).setCell ⟨w.heap.size,1,none⟩ b).setCell ⟨w.heap.size,2,none⟩ c).setCell ⟨w.heap.size,3,none⟩ d).drew v l:=by
 refine⟨(Zbj (Zbj (Zbj (Zbj hb (Nat.le_refl _) _) (Nat.le_refl _) _) (Nat.le_refl _) _) (Nat.le_refl _) _).drew,(hx.same (by show _<=((((w6.setCell ⟨w.heap.size,0,none⟩ a).setCell ⟨w.heap.size,1,none⟩ b).setCell ⟨w.heap.size,2,none⟩ c).setCell ⟨w.heap.size,3,none⟩ d).heap.size;simp) fun j hj _=> ?_).imp fun j hj=>by omega⟩
 have e:∀(V:World) (i:Nat) (u:Value),(V.setCell ⟨w.heap.size,i,none⟩ u).heap[j]? =V.heap[j]? :=fun V i u=>Below.heap_setCell V ⟨w.heap.size,i,none⟩ u j (by show j≠w.heap.size;omega)
 show((((w6.setCell ⟨w.heap.size,0,none⟩ a).setCell ⟨w.heap.size,1,none⟩ b).setCell ⟨w.heap.size,2,none⟩ c).setCell ⟨w.heap.size,3,none⟩ d).heap[j]? =_
 rw[e,e,e,e]
abbrev ruCell(o k w:List UInt8)(iv:Value):Obj:=.cells #[.string (ba o),.string (ba k),.string (ba w),iv] 73
theorem u8_ne{x y:UInt8}(h:x≠y):((x.toNat:Int)==(y.toNat:Int))=false:=beq_false_of_ne fun e=>h (UInt8.toNat_inj.1 (by omega))
theorem Zrm{a d:Nat}{wd:List UInt8}(h:RuLine s a b d wd)(w:World):
  Calls prog 59 #[.string (ba s)] w fun e w'=>∃ iv,e=.returned (.tuple #[.agg #[.string (ba (s.take a)),.string (ba (mid s (a+3) b)),.string (ba wd),iv],.bool true])/\Below w.heap.size w w'/\XIn (fun j=>w.heap.size<=j) w' iv (cutB 32 (s.drop (d+1))):=by
 have HH:=hid1 h;have HHa:=hid1 fun(i:Nat) (hi:i<=s.length) (V:World)=>Ziz s [32,61,32] i (by have:=h.few;omega) (by simp) hi V
 obtain⟨bs,eb,T⟩:=txt s;rw[eb]at HHa ⊢;have HT:=hid1 T;have hf:=h.few;have hab:=h.a3;have hbd:=h.bd;have hdl:=h.dlt;have hbl:b<=s.length:=by omega
 have hsz:bs.size=s.length:=T.size;clear h eb T;go_enter func59,ntmps59
 go_wp2;obtain⟨w1,h1⟩:∃ w1,w1=w.alloc (.cells #[.string ⟨#[]⟩,.string ⟨#[]⟩,.string ⟨#[]⟩,.slice none 0 0] 73):=⟨_,rfl⟩
 have g1:Below w.heap.size w w1:=by rw[h1];exact(Below.refl _ w).alloc (Nat.le_refl _) _
 have r1:w1.heap[w.heap.size]? =some (.cells #[.string ⟨#[]⟩,.string ⟨#[]⟩,.string ⟨#[]⟩,.slice none 0 0] 73):=by rw[h1];exact Zbv _ _
 have hz1:w1.heap.size=w.heap.size+1:=by rw[h1];simp
 have HR1:=hid1 r1;rw[<- h1];clear h1 r1;go_loopw [4] (fun av wr=>∃ k:Nat,k<=a/\av=.int .i64 k/\w1=wr) (fun av _=>a - (intOf av).toNat)
 case atStart=>exact⟨0,Nat.zero_le _,rfl,rfl⟩
 case round =>
  obtain⟨k,hk,rfl,rfl⟩:=hrel;have k0:(0:Int)<=(k:Int):=by omega
  have k1:(k:Int)<(bs.size:Int):=by omega
  have HH1:=hid1 (HHa.out k (by omega) w1)
  by_cases hka:k<a
  ·rw[HH.out.no k hka]at HH1;go_wp2_with fail;refine HH1.out.mono ?_;rintro e w2 ⟨rfl,rfl⟩;clear HH1;go_wp2;exact⟨⟨k+1,by omega,by go_num,trivial⟩,by simp[intOf];omega⟩
  ·obtain rfl:k=a:=by omega
   rw[HH.out.eq]at HH1;have k2:(k:Int)<=(bs.size:Int):=by omega
   have kd:decide (s.length<=k)=false:=decide_eq_false (by omega)
   go_wp2_with fail;refine HH1.out.mono ?_;rintro e w2 ⟨rfl,rfl⟩;clear HH1;go_wp2;obtain⟨w3,h3⟩:∃ w3,w3=w2.alloc (.cells #[.string (bs.extract 0 k),.string ⟨#[]⟩,.string ⟨#[]⟩,.slice none 0 0] 73):=⟨_,rfl⟩
   have g3:Below w2.heap.size w2 w3:=by rw[h3];exact(Below.refl _ w2).alloc (Nat.le_refl _) _
   have e3:bs.extract 0 k=ba (s.take k):=by rw[HT.out.extract];rfl
   have r3:w3.heap[w2.heap.size]? =some (ruCell (s.take k) (mid s (k+3) (k+3)) [] (.slice none 0 0)):=by rw[h3,e3,Zhu];exact Zbv _ _
   have HR3:=hid1 (And.intro r3 g3);rw[<- h3];clear h3 r3 g3 e3;rw[hz1]at HR3;go_loopw [4] (fun av wr=>∃ j:Nat,k+3<=j/\j<=b/\av=.int .i64 j/\wr.heap[w.heap.size+1]? =some (ruCell (s.take k) (mid s (k+3) j) [] (.slice none 0 0))/\Below (w.heap.size+1) w2 wr) (fun av _=>b - (intOf av).toNat)
   case atStart=>exact⟨k+3,Nat.le_refl _,hab,by go_num,HR3.out.1,HR3.out.2⟩
   case round =>
    clear HR3;obtain⟨j,hj1,hj2,rfl,hr,hB⟩:=hrel;have j0:(0:Int)<=(j:Int):=by omega
    have HRr:=hid1 hr;have c0:=Zab (j:=0) hr rfl;have c1:=Zab (j:=1) hr rfl;have c2:=Zab (j:=2) hr rfl;have c3:=Zab (j:=3) hr rfl;have f1:wr.frozen? ⟨w.heap.size+1,1,none⟩=false:=frozen_of_row wr _ 1 _ _ hr;by_cases hjb:j<b
    ·have hjs:j<s.length:=by omega
     have hjz:j<bs.size:=by omega
     have j1:(j:Int)<(bs.size:Int):=by omega
     have j2:j+1<=s.length:=by omega
     have j3:(j:Int)+1<=(s.length:Int):=by omega
     have j4:(j:Int)<=(j:Int)+1:=by omega
     have hx:=HT.out.get j hjs hjz;have hn:=u8_ne (HH.out.kind j hjs hj1 hjb);rw[<- hx]at hn;have hn':((bs[j].toNat:Int)==32)=false:=hn;have e4:bs.extract j (j+1)=ba [s[j]]:=by
      rw[HT.out.extract];show ba (mid s j (j+1))=_
      rw[Zht (Nat.le_refl _) hjs,Zhu];rfl
     have HQ:Hid ((wr.setCell ⟨w.heap.size+1,1,none⟩ (.string (ba (mid s (k+3) j)++ba [s[j]]))).drew.heap[w.heap.size+1]? =some (ruCell (s.take k) (mid s (k+3) (j+1)) [] (.slice none 0 0))/\Below (w.heap.size+1) w2 (wr.setCell ⟨w.heap.size+1,1,none⟩ (.string (ba (mid s (k+3) j)++ba [s[j]]))).drew):=hid1 (by
      refine⟨?_,(Zbj hB (Nat.le_refl _) _).drew⟩;show(wr.setCell ⟨w.heap.size+1,1,none⟩ (.string (ba (mid s (k+3) j)++ba [s[j]]))).heap[w.heap.size+1]? =_
      rw[heap_setCell_same wr _ 1 _ _ _ HRr.out,ba_cat,Zht hj1 hjs];rfl)
     clear hr hx hn;go_wp2;go_region;go_wp2;exact⟨⟨j+1,by omega,by omega,by go_num,HQ.out.1,HQ.out.2⟩,by simp[intOf];omega⟩
    ·obtain rfl:j=b:=by omega
     have j1:(j:Int)+1<(s.length:Int):=by omega
     have j2:(j:Int)<(s.length:Int):=by omega
     have jz:j<bs.size:=by omega
     have jz1:j+1<bs.size:=by omega
     have hn32:((bs[j].toNat:Int)==32)=true:=by rw[HT.out.get j (by omega) jz,HH.out.stop (by omega)];rfl
     rcases HH.out.word with ⟨rfl,hdj,hw34⟩ | ⟨hw0,hd,hw34,hmid,hwx,hq⟩
     ·subst hdj;have hn34:((bs[d+1].toNat:Int)==34)=false:=by rw[HT.out.get (d+1) (by omega) jz1];exact u8_ne (hw34 (by omega))
      clear hw34;have d0:(0:Int)<=(d:Int):=by omega
      have d2:(d:Int)+1<=(s.length:Int):=by omega
      have d3:d<bs.size:=by omega
      have hd32:((bs[d].toNat:Int)==32)=true:=by rw[HT.out.get d (by omega) d3,HH.out.sep (by omega)];rfl
      have eC:bs.extract (d+1) s.length=ba (s.drop (d+1)):=by rw[HT.out.extract,List.take_length]
      have HCu:=Zbd (s.drop (d+1)) (by simp;omega) 32 32 rfl wr
      have HCu:=hid1 HCu;go_wp2_with fail;refine HCu.out.mono ?_;rintro e w5 ⟨v,rfl,hrow,g5⟩;have r5:=Zbi HRr.out g5;have q5:w5.heap[w.heap.size]? =some (.cells #[.string ⟨#[]⟩,.string ⟨#[]⟩,.string ⟨#[]⟩,.slice none 0 0] 73):=Zbi (((hB).block w.heap.size (by omega)).trans HR1.out) g5
      have HX5:Hid (XIn (fun j=>w.heap.size+2<=j) w5 v (cutB 32 (s.drop (d+1)))):=hid1 ⟨XRow.of_owns hrow,fun a n cap e _=>by
       subst e;have:=Zbw hrow a.block (by simp[Value.ownBlock])
       have:=(Array.getElem?_eq_some_iff.1 (HRr.out)).1;omega⟩
      have hB5:Below (w.heap.size+1) w2 w5:=(hB).trans (g5.mono (by have:=(hB).size;omega))
      obtain⟨pv,cv,ev⟩:=Zgm hrow;subst ev;have c3':=Zab (j:=3) r5 rfl;have f3':w5.frozen? ⟨w.heap.size+1,3,none⟩=false:=frozen_of_row w5 _ 3 _ _ r5
      have r6:(w5.setCell ⟨w.heap.size+1,3,none⟩ (.slice pv (cutB 32 (s.drop (d+1))).length cv)).heap[w.heap.size+1]? =some (ruCell (s.take k) (mid s (k+3) d) ([]) (.slice pv (cutB 32 (s.drop (d+1))).length cv)):=by rw[heap_setCell_same w5 _ 3 _ _ _ r5];rfl
      have q6:(w5.setCell ⟨w.heap.size+1,3,none⟩ (.slice pv (cutB 32 (s.drop (d+1))).length cv)).heap[w.heap.size]? =_:=(Below.heap_setCell w5 ⟨w.heap.size+1,3,none⟩ (.slice pv (cutB 32 (s.drop (d+1))).length cv) w.heap.size (by show w.heap.size≠w.heap.size+1;omega)).trans q5
      have B6:Below (w.heap.size+1) w2 (w5.setCell ⟨w.heap.size+1,3,none⟩ (.slice pv (cutB 32 (s.drop (d+1))).length cv)):=Zbj hB5 (Nat.le_refl _) _
      have HX6:Hid (XIn (fun j=>w.heap.size+2<=j) (w5.setCell ⟨w.heap.size+1,3,none⟩ (.slice pv (cutB 32 (s.drop (d+1))).length cv)) (.slice pv (cutB 32 (s.drop (d+1))).length cv) (cutB 32 (s.drop (d+1)))):=hid1 (HX5.out.same (by simp) fun j hj _=>Below.heap_setCell w5 ⟨w.heap.size+1,3,none⟩ _ j (by show j≠w.heap.size+1;omega))
      clear HCu hrow r5 q5 HX5 HRr hr c0 c1 c2 c3 f1;go_wp2_with fail;generalize hw6:w5.setCell ⟨w.heap.size+1,3,none⟩ (.slice pv (cutB 32 (s.drop (d+1))).length cv)=w6 at *;have x0:=Zab (j:=0) r6 rfl;have x1:=Zab (j:=1) r6 rfl;have x2:=Zab (j:=2) r6 rfl;have x3:=Zab (j:=3) r6 rfl;have y0:=Zab (j:=0) q6 rfl
      have y1:=Zab (j:=1) q6 rfl;have y2:=Zab (j:=2) q6 rfl;have y3:=Zab (j:=3) q6 rfl;have fz:∀ i,w6.frozen? ⟨w.heap.size,i,none⟩=false:=fun i=>frozen_of_row w6 _ i _ _ q6
      have HFull:=hid1 HH.out.full
      have HIx:Hid (Calls prog 91 #[.slice pv (cutB 32 (s.drop (d+1))).length cv,.string ⟨#[]⟩] w6.drew fun e w'=>e=.returned (.int .i64 (-1))/\w'=w6.drew):=hid1 ((Zcl (w:=w6.drew) _ (cutB 32 (s.drop (d+1))) [] (HX6.out.1.below (Below.refl _ w6).drew).irow (by have:=Zee 32 (s.drop (d+1));have:(s.drop (d+1)).length<=10000:=(by simp;omega);omega)).mono (by
       rintro e w' ⟨r,rfl,rfl,⟨rfl,-⟩ | ⟨i,rfl,hi,e2,-⟩⟩
       ·exact⟨rfl,rfl⟩
       ·exact absurd (e2 ▸ List.getElem_mem hi) HFull.out))
      have B7:Below w.heap.size w w6:=g1.trans (B6.mono (by omega))
      have HQ:=hid1 (And.intro B7 (And.intro HX6.out q6));clear HCu c3' f3' r6 q6 HX6 hw6 HH HT HHa HFull B6 B7 g5 hB5 eC hd32 HR1 hn32
      go_region_held3 (fun w'=>w'.cell? ⟨w.heap.size+1,0,none⟩=some (.string (ba (s.take k)))/\w'.cell? ⟨w.heap.size+1,1,none⟩=some (.string (ba (mid s (k+3) d)))/\w'.cell? ⟨w.heap.size+1,2,none⟩=some (.string (ba ([])))/\w'.cell? ⟨w.heap.size+1,3,none⟩=some (.slice pv (cutB 32 (s.drop (d+1))).length cv)) (first | go_keep | fail)
       (first | (go_at_call 91;refine HIx.out.mono ?_;rintro e w7 ⟨rfl,rfl⟩) | fail)
      all_goals
       have HE:=hid1 (Zlk HQ.out.1 HQ.out.2.1 (.string (ba (s.take k))) (.string (ba (mid s (k+3) d))) (.string (ba ([]))) (.slice pv (cutB 32 (s.drop (d+1))).length cv));have HK:=hid1 (Yae HQ.out.2.2 (.string (ba (s.take k))) (.string (ba (mid s (k+3) d))) (.string (ba ([]))) (.slice pv (cutB 32 (s.drop (d+1))).length cv));clear HQ HIx;go_wp2
       refine bodyPost_ret (v:=.tuple #[.agg #[.string (ba (s.take k)),.string (ba (mid s (k+3) d)),.string (ba ([])),.slice pv (cutB 32 (s.drop (d+1))).length cv],.bool true]) ?_ rfl ⟨_,rfl,HE.out.1,HE.out.2⟩;have k0:=Zab (j:=0) HK.out rfl;have k1:=Zab (j:=1) HK.out rfl;have k2:=Zab (j:=2) HK.out rfl;have k3:=Zab (j:=3) HK.out rfl
       simp[results,f59,go_sem,k0,k1,k2,k3]
     ·have hn34:((bs[j+1].toNat:Int)==34)=true:=by rw[HT.out.get (j+1) (by omega) jz1,hw34 (by omega)];rfl
      have HWx:=hid1 hwx;have HMid:=hid1 hmid;have HQ34:=hid1 hq;have HRw:Hid (wr.heap[w.heap.size+1]? =some (ruCell (s.take k) (mid s (k+3) j) (mid s (j+2) (j+2)) (.slice none 0 0))):=hid1 (by rw[Zhu];exact HRr.out)
      have hw1:wd.length≠0:=fun e=>hw0 (List.length_eq_zero_iff.1 e)
      clear hw34 hmid hwx hq hr c0 c1 c2 c3 f1 HRr;go_wp2;go_loopw [4] (fun av wr'=>∃ i:Nat,j+2<=i/\i<=d - 1/\av=.int .i64 i/\wr'.heap[w.heap.size+1]? =some (ruCell (s.take k) (mid s (k+3) j) (mid s (j+2) i) (.slice none 0 0))/\Below (w.heap.size+1) w2 wr') (fun av _=>d - (intOf av).toNat)
      case atStart=>exact⟨j+2,Nat.le_refl _,by omega,by go_num,HRw.out,hB⟩
      case round =>
       clear HRw hB;rename_i wr0
       obtain⟨i,hi1,hi2,rfl,hr,hB⟩:=hrel;have i0:(0:Int)<=(i:Int):=by omega
       have HRr:=hid1 hr;have c0:=Zab (j:=0) hr rfl;have c1:=Zab (j:=1) hr rfl;have c2:=Zab (j:=2) hr rfl;have c3:=Zab (j:=3) hr rfl;have f2:wr.frozen? ⟨w.heap.size+1,2,none⟩=false:=frozen_of_row wr _ 2 _ _ hr;have i1:(i:Int)<(s.length:Int):=by omega
       have iz:i<bs.size:=by omega
       by_cases hid:i<d - 1
       ·have his:i<s.length:=by omega
        have hx34:((bs[i].toNat:Int)==34)=false:=by rw[HT.out.get i his iz];exact u8_ne (HWx.out i his hi1 hid).1
        have hx92:((bs[i].toNat:Int)==92)=false:=by rw[HT.out.get i his iz];exact u8_ne (HWx.out i his hi1 hid).2
        have i3:(i:Int)+1<=(s.length:Int):=by omega
        have i4:(i:Int)<=(i:Int)+1:=by omega
        have i6:i+1<=s.length:=by omega
        have e4:bs.extract i (i+1)=ba [s[i]]:=by
         rw[HT.out.extract];show ba (mid s i (i+1))=_
         rw[Zht (Nat.le_refl _) his,Zhu];rfl
        have HQ:Hid ((wr.setCell ⟨w.heap.size+1,2,none⟩ (.string (ba (mid s (j+2) i)++ba [s[i]]))).drew.heap[w.heap.size+1]? =some (ruCell (s.take k) (mid s (k+3) j) (mid s (j+2) (i+1)) (.slice none 0 0))/\Below (w.heap.size+1) w2 (wr.setCell ⟨w.heap.size+1,2,none⟩ (.string (ba (mid s (j+2) i)++ba [s[i]]))).drew):=hid1 (by
         refine⟨?_,(Zbj hB (Nat.le_refl _) _).drew⟩;show(wr.setCell ⟨w.heap.size+1,2,none⟩ (.string (ba (mid s (j+2) i)++ba [s[i]]))).heap[w.heap.size+1]? =_
         rw[heap_setCell_same wr _ 2 _ _ _ HRr.out,ba_cat,Zht hi1 his];rfl)
        clear hr;go_wp2;go_region;go_wp2;exact⟨⟨i+1,by omega,by omega,by go_num,HQ.out.1,HQ.out.2⟩,by simp[intOf];omega⟩
       ·have ei:i=d - 1:=by omega
        have hn34':((bs[i].toNat:Int)==34)=true:=by
         rw[HT.out.get i (by omega) iz]
         subst ei;rw[HQ34.out (by omega)]
         rfl
        have HMw:Hid (mid s (j+2) i=wd):=hid1 (by rw[ei];exact HMid.out)
        have HRw:Hid (wr.heap[w.heap.size+1]? =some (ruCell (s.take k) (mid s (k+3) j) wd (.slice none 0 0))):=hid1 (by rw[<- HMw.out];exact hr)
        have hr:=HRw.out;have hwe:wd.isEmpty=false:=by cases wd with | nil=>exact absurd rfl hw0 | cons _ _=>rfl
        clear c0 c1 c2 c3;have c2:=Zab (j:=2) hr rfl;have hd':d=i+1:=by omega
        have i7:(i:Int)+1<(s.length:Int):=by omega
        clear hd ei HMw HMid HWx HQ34 f2 HRr hr;subst hd';have HRr:=hid1 HRw.out;have d0:(0:Int)<=((i+1):Int):=by omega
        have d2:((i+1):Int)+1<=(s.length:Int):=by omega
        have d3:(i+1)<bs.size:=by omega
        have hd32:((bs[(i+1)].toNat:Int)==32)=true:=by rw[HT.out.get (i+1) (by omega) d3,HH.out.sep (by omega)];rfl
        have eC:bs.extract ((i+1)+1) s.length=ba (s.drop ((i+1)+1)):=by rw[HT.out.extract,List.take_length]
        have HCu:=Zbd (s.drop ((i+1)+1)) (by simp;omega) 32 32 rfl wr
        have HCu:=hid1 HCu;go_wp2_with fail;refine HCu.out.mono ?_;rintro e w5 ⟨v,rfl,hrow,g5⟩;have r5:=Zbi HRr.out g5;have q5:w5.heap[w.heap.size]? =some (.cells #[.string ⟨#[]⟩,.string ⟨#[]⟩,.string ⟨#[]⟩,.slice none 0 0] 73):=Zbi (((hB).block w.heap.size (by omega)).trans HR1.out) g5
        have HX5:Hid (XIn (fun j=>w.heap.size+2<=j) w5 v (cutB 32 (s.drop ((i+1)+1)))):=hid1 ⟨XRow.of_owns hrow,fun a n cap e _=>by
         subst e;have:=Zbw hrow a.block (by simp[Value.ownBlock])
         have:=(Array.getElem?_eq_some_iff.1 (HRr.out)).1;omega⟩
        have hB5:Below (w.heap.size+1) w2 w5:=(hB).trans (g5.mono (by have:=(hB).size;omega))
        obtain⟨pv,cv,ev⟩:=Zgm hrow;subst ev;have c3':=Zab (j:=3) r5 rfl;have f3':w5.frozen? ⟨w.heap.size+1,3,none⟩=false:=frozen_of_row w5 _ 3 _ _ r5
        have r6:(w5.setCell ⟨w.heap.size+1,3,none⟩ (.slice pv (cutB 32 (s.drop ((i+1)+1))).length cv)).heap[w.heap.size+1]? =some (ruCell (s.take k) (mid s (k+3) j) (wd) (.slice pv (cutB 32 (s.drop ((i+1)+1))).length cv)):=by rw[heap_setCell_same w5 _ 3 _ _ _ r5];rfl
        have q6:(w5.setCell ⟨w.heap.size+1,3,none⟩ (.slice pv (cutB 32 (s.drop ((i+1)+1))).length cv)).heap[w.heap.size]? =_:=(Below.heap_setCell w5 ⟨w.heap.size+1,3,none⟩ (.slice pv (cutB 32 (s.drop ((i+1)+1))).length cv) w.heap.size (by show w.heap.size≠w.heap.size+1;omega)).trans q5
        have B6:Below (w.heap.size+1) w2 (w5.setCell ⟨w.heap.size+1,3,none⟩ (.slice pv (cutB 32 (s.drop ((i+1)+1))).length cv)):=Zbj hB5 (Nat.le_refl _) _
        have HX6:Hid (XIn (fun j=>w.heap.size+2<=j) (w5.setCell ⟨w.heap.size+1,3,none⟩ (.slice pv (cutB 32 (s.drop ((i+1)+1))).length cv)) (.slice pv (cutB 32 (s.drop ((i+1)+1))).length cv) (cutB 32 (s.drop ((i+1)+1)))):=hid1 (HX5.out.same (by simp) fun j hj _=>Below.heap_setCell w5 ⟨w.heap.size+1,3,none⟩ _ j (by show j≠w.heap.size+1;omega))
        clear HCu hrow r5 q5 HX5 HRr c2;go_wp2_with fail;generalize hw6:w5.setCell ⟨w.heap.size+1,3,none⟩ (.slice pv (cutB 32 (s.drop ((i+1)+1))).length cv)=w6 at *;have x0:=Zab (j:=0) r6 rfl;have x1:=Zab (j:=1) r6 rfl;have x2:=Zab (j:=2) r6 rfl;have x3:=Zab (j:=3) r6 rfl;have y0:=Zab (j:=0) q6 rfl
        have y1:=Zab (j:=1) q6 rfl;have y2:=Zab (j:=2) q6 rfl;have y3:=Zab (j:=3) q6 rfl;have fz:∀ i,w6.frozen? ⟨w.heap.size,i,none⟩=false:=fun i=>frozen_of_row w6 _ i _ _ q6
        have HFull:=hid1 HH.out.full
        have HIx:Hid (Calls prog 91 #[.slice pv (cutB 32 (s.drop ((i+1)+1))).length cv,.string ⟨#[]⟩] w6.drew fun e w'=>e=.returned (.int .i64 (-1))/\w'=w6.drew):=hid1 ((Zcl (w:=w6.drew) _ (cutB 32 (s.drop ((i+1)+1))) [] (HX6.out.1.below (Below.refl _ w6).drew).irow (by have:=Zee 32 (s.drop ((i+1)+1));have:(s.drop ((i+1)+1)).length<=10000:=(by simp;omega);omega)).mono (by
         rintro e w' ⟨r,rfl,rfl,⟨rfl,-⟩ | ⟨i,rfl,hi,e2,-⟩⟩
         ·exact⟨rfl,rfl⟩
         ·exact absurd (e2 ▸ List.getElem_mem hi) HFull.out))
        have B7:Below w.heap.size w w6:=g1.trans (B6.mono (by omega))
        have HQ:=hid1 (And.intro B7 (And.intro HX6.out q6));clear HCu c3' f3' r6 q6 HX6 hw6 HH HT HHa HFull B6 B7 g5 hB5 eC hd32 HR1 hn32
        go_region_held3 (fun w'=>w'.cell? ⟨w.heap.size+1,0,none⟩=some (.string (ba (s.take k)))/\w'.cell? ⟨w.heap.size+1,1,none⟩=some (.string (ba (mid s (k+3) j)))/\w'.cell? ⟨w.heap.size+1,2,none⟩=some (.string (ba (wd)))/\w'.cell? ⟨w.heap.size+1,3,none⟩=some (.slice pv (cutB 32 (s.drop ((i+1)+1))).length cv)) (first | go_keep | fail)
         (first | (go_at_call 91;refine HIx.out.mono ?_;rintro e w7 ⟨rfl,rfl⟩) | fail)
        all_goals
         have HE:=hid1 (Zlk HQ.out.1 HQ.out.2.1 (.string (ba (s.take k))) (.string (ba (mid s (k+3) j))) (.string (ba (wd))) (.slice pv (cutB 32 (s.drop ((i+1)+1))).length cv));have HK:=hid1 (Yae HQ.out.2.2 (.string (ba (s.take k))) (.string (ba (mid s (k+3) j))) (.string (ba (wd))) (.slice pv (cutB 32 (s.drop ((i+1)+1))).length cv));clear HQ HIx;go_wp2
         refine bodyPost_ret (v:=.tuple #[.agg #[.string (ba (s.take k)),.string (ba (mid s (k+3) j)),.string (ba (wd)),.slice pv (cutB 32 (s.drop ((i+1)+1))).length cv],.bool true]) ?_ rfl ⟨_,rfl,HE.out.1,HE.out.2⟩;have k0:=Zab (j:=0) HK.out rfl;have k1:=Zab (j:=1) HK.out rfl;have k2:=Zab (j:=2) HK.out rfl;have k3:=Zab (j:=3) HK.out rfl
         simp[results,f59,go_sem,k0,k1,k2,k3]
def Told(w:World)(es:Nat->Addr)(n:Nat)(c:Nat->Nat)(u:Value):Prop :=
 ((∀ j,j<n->c j=0)/\u=.nilIface)\/∃ k pb,k<n/\c k≠0/\(∀ j,j<k->c j=0)/\u=.iface 122 (.pointer (some ⟨pb,0,none⟩))/\w.cell? ⟨pb,0,none⟩=some (.int .i64 k)/\w.cell? ⟨pb,1,none⟩=some (erOf es (c k))
variable {es:Nat->Addr}
theorem Zfk(v:Value)(l:List (List UInt8))(hrow:XRow w v l)(hl:l.length<=1000000)(f:Nat)(caps:Array Value)(eg:∀ args w,(callFunc f args).run prog w=.ok (.enter f args) w)(c:Nat->Nat) 
  (HS:Hid (∀ k (hk:k<l.length) W,Below w.heap.size w W->Calls prog f (#[.int .i64 k,.string (ba l[k])]++caps) W fun e w'=>e=.returned (erOf es (c k))/\Below W.heap.size W w')) :
  Calls prog 191 #[v,.func (.func f) #[] caps] w fun e w'=>∃ u,e=.returned u/\Below w.heap.size w w'/\Told w' es l.length c u:=by
 obtain⟨p,cap,rfl,hcap,_,hin⟩:=hrow;have HI:=hid1 hin;clear hin;go_enter func191,ntmps191
 go_wp2;go_loopw [10] (fun i wr=>∃ k:Nat,k<=l.length/\i=.int .i64 k/\(∀ j,j<k->c j=0)/\Below w.heap.size w wr) (fun i _=>l.length - (intOf i).toNat)
 case atStart=>exact⟨0,Nat.zero_le _,rfl,fun j h=>by omega,Below.refl _ _⟩
 case round =>
  obtain⟨k,hk,rfl,hz,hB⟩:=hrel;have HZ:=hid1 hz;clear hz;have c0:(0:Int)<=(k:Int):=by omega
  by_cases hlt:k<l.length
  ·have c1:(k:Int)<(l.length:Int):=by omega
   obtain⟨g',o,rfl,hg,hcur⟩:=HI.out (by intro e;rw[e]at hlt;simp at hlt)
   have hcell:=(hB.cell (p:=⟨g',o+k,none⟩) hg).trans (hcur k hlt);have HC:=HS.out k hlt wr hB;clear hcur HI HS;generalize l[k]=y at *;cases hc:c k with
   | zero =>
    rw[hc]at HC;simp only[erOf]at HC;have HN:Hid (∀ j,j<k+1->c j=0):=hid1 fun j hj=>by
     rcases Nat.lt_or_ge j k with h | h
     ·exact HZ.out j h
     ·obtain rfl:j=k:=by omega
      exact hc
    clear hc HZ;go_wp2_with fail;refine Calls.mono HC ?_;rintro e w1 ⟨rfl,hb1⟩;clear HC;go_wp2;exact⟨⟨k+1,by omega,by go_num,HN.out,Zac hB hb1⟩,by simp[intOf];omega⟩
   | succ m =>
    rw[hc]at HC;have HE:=hid1 hc;clear hc;simp only[erOf]at HC;go_wp2_with fail;refine Calls.mono HC ?_;rintro e w1 ⟨rfl,hb1⟩;clear HC;go_wp2;go_ret;refine⟨_,rfl,(Zac hB hb1).alloc (Zac hB hb1).size _,.inr ⟨k,w1.heap.size,hlt,by rw[HE.out];omega,HZ.out,rfl,?_,?_⟩⟩
    ·simp
    ·rw[HE.out];simp[erOf]
  ·have c1:(l.length:Int)<=(k:Int):=by omega
   have HN:Hid (∀ j,j<l.length->c j=0):=hid1 fun j hj=>HZ.out j (by omega)
   clear HI HS HZ;go_wp2;go_ret;exact⟨_,rfl,hB,.inl ⟨HN.out,rfl⟩⟩
theorem as_nil(t:Value)(w:World):Calls prog 65 #[.nilIface,t] w fun e w'=>e=.returned (.bool false)/\w'=w:=by
 go_enter func65,ntmps65
 go_wp2;go_ret;exact⟨rfl,rfl⟩
theorem Ydb(w:World):Calls prog 193 #[.nilIface] w fun e w'=>e=.returned .nilIface/\Below w.heap.size w w':=by
 have HA:=hid1 fun t W=>as_nil t W
 go_enter func193,ntmps193
 go_wp2_with fail;refine(HA.out _ _).mono ?_;rintro e w1 ⟨rfl,rfl⟩;go_wp2;go_ret;exact⟨rfl,(Below.refl _ w).alloc (Nat.le_refl _) _⟩
theorem Zxo(hE:ES w es)(pb:Nat)(t:TypeId)(u:Value)(h1:w.cell? ⟨pb,1,none⟩=some (.iface t u)):
  Calls prog 193 #[.iface 122 (.pointer (some ⟨pb,0,none⟩))] w fun e w'=>e=.returned (.iface t u)/\Below w.heap.size w w':=by
 have hB0:Below w.heap.size w (w.alloc (.cells #[.pointer none] 122)):=(Below.refl _ w).alloc (Nat.le_refl _) _;have hE0:=hE.below hB0;go_enter func193,ntmps193
 go_wp2_with fail;refine(as_hit ⟨pb,0,none⟩ ⟨w.heap.size,0,none⟩ (.pointer none) _ hE0.t (by simp) (by simp)).mono ?_
 rintro e w1 ⟨rfl,hw1⟩;have hB1:Below w.heap.size w w1:=by
  rw[hw1];exact(((((hB0.alloc (by simp) _).alloc (by simp;omega) _).alloc (by simp;omega) _).alloc (by simp;omega) _).setCell (p:=⟨w.heap.size,0,none⟩) (Nat.le_refl _) _)
 have hc1:w1.cell? ⟨w.heap.size,0,none⟩=some (.pointer (some ⟨pb,0,none⟩)):=by
  rw[hw1];refine World.cell?_setCell_same' _ _ _ ?_
  rw[World.cell?_alloc_lt _ _ ⟨w.heap.size,0,none⟩ (by simp;omega),World.cell?_alloc_lt _ _ ⟨w.heap.size,0,none⟩ (by simp;omega),World.cell?_alloc_lt _ _ ⟨w.heap.size,0,none⟩ (by simp;omega),World.cell?_alloc_lt _ _ ⟨w.heap.size,0,none⟩ (by simp)]
  simp
 clear hw1;have g1:=Zas h1 hB1;clear hE0 hB0 h1 hE;go_wp2;go_ret;exact⟨rfl,hB1⟩
theorem Yar(hE:ES w es){c:Nat->Nat}{u:Value}(h:Told w es n c u):
  Calls prog 193 #[u] w fun e w'=>e=.returned (erOf es (Ru.firstC c n))/\Below w.heap.size w w':=by
 rcases h with ⟨h0,rfl⟩ | ⟨k,pb,hk,hc,h0,rfl,_,h1⟩
 ·rw[Ru.firstC_none h0];exact Ydb w
 ·rw[Ru.firstC_some hk hc h0];obtain⟨m,hm⟩:∃ m,c k=m+1:=⟨c k - 1,by omega⟩
  rw[hm]at h1 ⊢;exact Zxo hE pb _ _ h1
