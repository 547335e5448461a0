import Derived.Test.YtcplmkhclckagaaGreatDoorPR34
set_option maxRecDepth 100000
set_option maxHeartbeats 16000000
open Go.Proofs.Tryz
namespace Go.Proofs.YtcplmkhclckagaaGreatDoor
open Go.RowKit Go.Shelf Go.Lib Go.Maps
open Go.Sort (Holds putRow grow)
theorem Zkk(x:Nat)(W:World):Calls prog 62 #[nv x] W fun e w'=>e=.returned (.bool true)/\w'=W:=by
 go_enter func62,ntmps62
 go_wp2;go_ret;exact⟨rfl,rfl⟩
variable {W:World}{l:List Ru}{bm:Nat}
theorem Zhn{p G:Nat}{vals:Nat->Value}(hS:ShAt W l p bm G vals)(sb lb:Nat)(hs:W.cell? ⟨sb,0,none⟩=some (.pointer (some ⟨p,0,none⟩)))(vl:Value)(ll:List Nat)(hl:W.cell? ⟨lb,0,none⟩=some vl)(hrow:NIRow W vl ll)(hll:ll.length<=1000)(x:Nat)(hx:x<l.length)(h12:l[x].ins.length<=12):
  Calls prog 96 #[nv x,.pointer (some ⟨sb,0,none⟩),.pointer (some ⟨lb,0,none⟩)] W fun e w'=>e=.returned (.bool (!((Ru.needL l l[x].ins).any fun y=>decide (y∈ll))))/\Below W.heap.size W w':=by
 obtain⟨d0,r0⟩:=hS.row x hx;have h1:=hS.c1;have hlen:=Ru.needL_len l l[x].ins;have HM:=hid1 fun W' (g:Below W.heap.size W W')=>Zqo (vals x) vl (Ru.needL l l[x].ins) ll (r0.below g) (hrow.below g) (by omega) (by omega)
 have c0:(0:Int)<=(x:Int):=by omega
 have c1:(x:Int)<(l.length:Int):=by omega
 obtain⟨p1,k1,e1,-⟩:=r0;rw[e1]at d0 HM;obtain⟨p2,k2,rfl,-⟩:=hrow;generalize ((Ru.needL l l[x].ins).any fun y=>decide (y∈ll))=d at *
 generalize (Ru.needL l l[x].ins).length=m at *;go_enter func96,ntmps96
 go_wp2;go_region_held3 (fun w'=>w'.cell? ⟨sb,0,none⟩=some (.pointer (some ⟨p,0,none⟩))/\w'.cell? ⟨p,1,none⟩=some (.slice (some ⟨G,0,none⟩) l.length l.length)/\w'.cell? ⟨G,x,none⟩=some (.slice p1 m k1)/\w'.cell? ⟨lb,0,none⟩=some (.slice p2 ll.length k2)) (first | go_keep | fail)
  (first | (go_at_call 97;refine(HM.out _ (by exact(Below.refl _ W).drew)).mono ?_;rintro e w5 ⟨rfl,g5⟩;have e0:=Zaa (w:=W.drew) hs g5;have e1:=Zaa (w:=W.drew) h1 g5;have e2:=Zaa (w:=W.drew) d0 g5;have e3:=Zaa (w:=W.drew) hl g5) | fail)
 all_goals
  go_wp2;go_ret;exact⟨rfl,Zac ((Below.refl _ W).drew) g5⟩
def Zcw(es:Nat->Addr)(l:List Ru)(ch:Nat->Bool)(w:World)(u ev:Value):Prop :=
 ((Ru.fault l).1≠0/\ErrV w es ev (Ru.fault l)/\NoRow u) \/
 ((Ru.fault l).1=0/\Ru.order l ch=none/\ev=erOf es 9/\NoRow u) \/
 ((Ru.fault l).1=0/\∃ o,Ru.order l ch=some o/\ev=.nilIface/\NIRow w u o)
def NewI(B:Nat)(u:Value):Prop:=∀ p n c,u=.slice (some p) n c->B<=p.block
variable {w:World}{B:Nat}
theorem NewI.of_owns{C e size n:Nat}{u:Value}{xs:List Value}(h:w.ownsRow B e size u n xs)(hC:C<=B):NewI C u:=fun p k c eu=>by
 rcases h.2 with ⟨h',_⟩ | ⟨g,cap,cur,h',hb,_⟩
 ·rw[h']at eu;cases eu
 ·rw[h']at eu;cases eu;exact Nat.le_trans hC hb
variable {es:Nat->Addr}
theorem Zfy(hW:GraphW w es)(v:Value)(l:List Ru)(hrow:RRow w v l)(hn:l.length<=1000)(hS:∀ x∈l,x.Small)(f:Nat)(caps:Array Value)(eg:∀ args w,(callFunc f args).run prog w=.ok (.enter f args) w) 
  (ch:Nat->Bool) (Hcl:Hid (∀ i k,ch i=true->Ru.needs l i k=true->ch k=true))
  (HF:Hid (∀(x:Nat) (W:World),x<l.length->Below w.heap.size w W->Calls prog f (#[nv x]++caps) W fun e w'=>e=.returned (.bool (ch x))/\Below W.heap.size W w')) :
  Calls prog 61 #[v,.func (.func f) #[] caps] w fun e w'=>∃ u ev,e=.returned (.tuple #[u,ev])/\Below w.heap.size w w'/\Zcw es l ch w' u ev/\NewI w.heap.size u:=by
 have HL:=hid1 (Zhe hW.s v l hrow hn hS);have H12:Hid (∀ i (hi:i<l.length),l[i].ins.length<=12):=hid1 fun i hi=>(hS _ (List.getElem_mem hi)).many
 have hcyc:=hW.cyc;obtain⟨i1,hI,hI0,hI1,hI2⟩:=info_parts Tryz.infoInt;obtain⟨pr,cap,rfl,-⟩:=hrow;go_enter func61,ntmps61
 go_wp2_with fail;refine HL.out.mono ?_;rintro e w1 ⟨u,ev,rfl,g1,hT⟩;rcases hT with ⟨hf,hE,rfl,t,x,rfl⟩ | ⟨hf,rfl,p,bm,G,vals,rfl,hSh⟩
 ·have HE:=hid1 hE;have HZ:=hid1 hf;go_wp2;go_ret2;have gA:Below w1.heap.size w1 (w1.alloc (.cells #[.pointer none] 157)):=(Below.refl _ w1).alloc (Nat.le_refl _) _;exact⟨_,_,rfl,Zac g1 gA,.inl ⟨HZ.out,HE.out.below gA,_,_,rfl⟩,fun p n c e=>by cases e⟩
 ·obtain⟨h40,hA⟩:=Ru.fault_ok hf;have HZ:=hid1 hf;have HA:=hid1 hA;have HSh:=hid1 hSh;have hcy1:=Zaa hcyc g1;have htop:=hSh.c1;have hlp:=Zaj htop;simp only at hlp;go_wp2
  go_loopw [25] (fun iv wr=>∃(k:Nat) (vl:Value),k<=l.length/\iv=.int .i64 k/\OrdL w1 wr (w1.heap.size+2) w1.heap.size (w1.heap.size+1) p vl ((List.range k).filter ch)) (fun iv _=>l.length - (intOf iv).toNat)
  case atStart =>
   exact⟨0,.slice none 0 0,Nat.zero_le _,rfl,OrdL.make w1 p⟩
  case round =>
   obtain⟨k,vl,hk,rfl,hO⟩:=hrel;have HO:=hid1 hO;have c0:(0:Int)<=(k:Int):=by omega
   by_cases hlt:k<l.length
   ·have c1:(k:Int)<(l.length:Int):=by omega
    have HC:=HF.out k wr hlt (Zac g1 HO.out.below);have hcl:=HO.out.cl;have hrw:=HO.out.row;have hbz:=HO.out.size;have hrl:((List.range k).filter ch).length<=k:=by simpa using List.length_filter_le ch (List.range k)
    have hml3:((List.range k).filter ch).length+1<=maxLen:=by unfold maxLen;omega
    go_wp2_with fail;refine Calls.mono HC ?_;rintro e w2 ⟨rfl,g2⟩;have HO2:=hid1 (HO.out.grown g2);have hcl:=HO2.out.cl;have hrw:=HO2.out.row;have hbz:=HO2.out.size;cases hck:ch k with
    | false =>
     have HQ:Hid (OrdL w1 w2 (w1.heap.size+2) w1.heap.size (w1.heap.size+1) p vl ((List.range (k+1)).filter ch)):=hid1 (by
      rw[List.range_succ,List.filter_append,List.filter_cons_of_neg (by rw[hck];simp)]
      simpa using HO2.out)
     go_wp2;exact⟨⟨k+1,_,by omega,by go_num,HQ.out⟩,by simp[intOf];omega⟩
    | true =>
     have HAp:=hid1 fun(W1 W':World) (vl':Value) (hb:Below w2.heap.size w2 W1) (hg:W1.grownBy W' vl.ownBlock) (hr:W'.ownsRow (w1.heap.size+2) 3 1 vl' (((List.range k).filter ch).length+1) (((List.range k).filter ch).map nv++[nv k]))=>HO2.out.append (ll':=(List.range (k+1)).filter ch) (vl':=vl') hb hg (by rw[List.range_succ,List.filter_append,List.filter_cons_of_pos (by rw[hck])];simpa using hr)
     obtain⟨pv,cv,rfl,-⟩:=NRow.of_owns hrw;generalize ((List.range k).filter ch).length=m at *;go_wp2_with (first
      | (at_builtin;refine wpList_append_own _ rfl _ _ 22 rfl (w1.heap.size+2) 3 i1 (.int .i64 0) 1 8 underlying22 hI hI0 hI1 hI2 rfl (by decide) _ _ _ rfl (hrw.alloc _) ⟨w2.heap.size,0,none⟩ 1 1 [nv k] rfl rfl (Zcb _ _ _ _ (by simp)) (by simp[Value.oneCell']) hml3 (by omega) (by simp;omega) ?_;intro v' w4 hown' hgrow _;(obtain⟨p',c',rfl⟩:=Zpk hown');(obtain⟨q1,q2,q3⟩:=HAp.out _ _ _ (by exact(Below.refl _ w2).alloc (Nat.le_refl _) _) hgrow hown');(have HQ:=hid1 q3))
      | go_in)
     exact⟨⟨k+1,_,by omega,by go_num,HQ.out⟩,by simp[intOf];omega⟩
   ·have c1:(l.length:Int)<=(k:Int):=by omega
    obtain rfl:k=l.length:=by omega
    have HS0:Hid (OrdS w1 wr wr.heap.size w1.heap.size (w1.heap.size+1) p vl (Ru.left ch l.length []) (.slice none 0 0) []):=hid1 (by
     have:=HO.out.turn;rwa[<- Ru.left_nil]at this)
    have HF0:=hid1 (Ru.Ord.first ch l);generalize wr=w3 at *;generalize hB2:w3.heap.size=B2 at *;go_wp2;go_loopw [9] (fun ov wx=>∃(o:List Nat) (vl:Value),Ru.Ord ch l o/\OrdS w1 wx B2 w1.heap.size (w1.heap.size+1) p vl (Ru.left ch l.length o) ov o) (fun ov _=>l.length+1 - slen ov)
    case atStart=>exact⟨[],vl,HF0.out,HS0.out⟩
    case round =>
     obtain⟨o,vl,hOrd,hS⟩:=hrel;have HOr:=hid1 hOrd;have HS:=hid1 hS;have holen:=hOrd.len;have hcl:=HS.out.cl;by_cases hem:Ru.left ch l.length o=[]
     ·have HD:=hid1 (Ru.ord_done HOr.out.ord holen hem);have HN:Hid (NIRow wr u9 o):=hid1 (NRow.of_owns HS.out.row).ni;obtain⟨a,c,rfl⟩:∃ a c,vl=.slice a 0 c:=by
       rcases HS.out.left with ⟨_,h⟩ | ⟨g,cap,h,_⟩
       ·exact h
       ·exact⟨_,cap,by rw[h,hem];rfl⟩
      have gB:=Zac g1 HS.out.below;have HNw:Hid (NewI w.heap.size u9):=hid1 (NewI.of_owns HS.out.row (Nat.le_trans g1.size HS.out.low2));go_wp2;go_ret2;exact⟨_,_,rfl,gB,.inr (.inr ⟨HZ.out,o,HD.out,rfl,HN.out⟩),HNw.out⟩
     ·obtain⟨g,cpl,rfl,hroom,hcm,hH,hlg,hgB,hgs,hgl⟩:=HS.out.left.resolve_left (fun h=>hem h.1)
      have hll:=Ru.left_len ch l.length o;have hpos:0<(Ru.left ch l.length o).length:=List.length_pos_iff.2 hem;have hgw:g<wr.heap.size:=by have:=HS.out.size;omega
      have hni:=Holds.ni (cap:=cpl) hH hgw;have HX:=hid1 (Zdh (w:=wr) (.slice (some ⟨g,0,none⟩) (Ru.left ch l.length o).length cpl) (Ru.left ch l.length o) hni (by omega) 96 #[.pointer (some ⟨w1.heap.size,0,none⟩),.pointer (some ⟨w1.heap.size+1,0,none⟩)] (enters_of func96 (by kernel_rfl) rfl) (fun x=>Ru.freeTo l (Ru.isIn o) x l.length)
       (hid1 fun x hx W gW=>by
        have hxl:=(Ru.left_mem.1 hx).1;have hxc:=(Ru.left_mem.1 hx).2.1;have:=Zhn ((HSh.out.below HS.out.below).below gW) w1.heap.size (w1.heap.size+1) (Zaa HS.out.cs gW) _ _ (Zaa HS.out.cl gW) (hni.below gW) (by omega) x hxl (H12.out x hxl)
        rw[Ru.free_eq HA.out hxl fun k hk=>Hcl.out x k hxc hk]at this
        exact this))
      have HNone:=hid1 fun(h:∀ x∈Ru.left ch l.length o,Ru.freeTo l (Ru.isIn o) x l.length=false)=>Ru.ord_none HOr.out.ord holen hem (Ru.left_none (b:=fun x=>Ru.freeTo l (Ru.isIn o) x l.length) (fun _ _=>rfl) h)
      have HMore:=hid1 fun(k:Nat) (hk:k<(Ru.left ch l.length o).length) h1 h2=>HOr.out.more (b:=fun x=>Ru.freeTo l (Ru.isIn o) x l.length) (fun _ _=>rfl) hk h1 h2
      have HDel:=hid1 fun(k:Nat) (hk:k<(Ru.left ch l.length o).length)=>Ru.left_del (ch:=ch) (n:=l.length) (o:=o) hk
      go_wp2_with fail;refine HX.out.mono ?_;rintro e w5 ⟨r,rfl,g5,hr⟩;rcases hr with ⟨rfl,hno⟩ | ⟨k,rfl,hk,hk1,hk2⟩
      ·have HD:=hid1 (HNone.out hno);have hcy5:=Zaa hcy1 (HS.out.grown g5).below;have gB:=Zac g1 (HS.out.grown g5).below;go_wp2;go_region;go_wp2;go_ret2;exact⟨_,_,rfl,gB.drew,.inr (.inl ⟨HZ.out,HD.out,rfl,_,_,rfl⟩),fun p n c e=>by cases e⟩
      ·have HO2:=hid1 (HMore.out k hk hk1 hk2);have HD2:=hid1 (HDel.out k hk);have hS5:=HS.out.grown g5;have hsl:=Zfp hS5.row;have hlb5:=hS5.cl;have hr5:=hS5.row;have hbz:=hS5.size;have hd5:w5.cell? ⟨g,k,none⟩=some (nv (Ru.left ch l.length o)[k]):=by
        obtain⟨g',c',e',-,-,hH',-⟩:=hS5.left.resolve_left (fun h=>hem h.1)
        obtain⟨rfl,rfl⟩:g=g'/\cpl=c':=by
         simp only[Value.slice.injEq,Option.some.injEq,Addr.mk.injEq]at e';exact⟨e'.1.1,e'.2.2⟩
        have:=(hH' k (by simpa using hk)).1
        rwa[Nat.zero_add,Zni hk]at this
       have HS5:=hid1 hS5;have k0:(0:Int)<=(k:Int):=by omega
       have k1:(k:Int)<((Ru.left ch l.length o).length:Int):=by omega
       have k2:(k:Int)<=1000:=by omega
       have hml3:o.length+1<=maxLen:=by unfold maxLen;omega
       generalize hy:(Ru.left ch l.length o)[k]=y at *;have HAp:=hid1 fun(w6:World) (v6:Value) (hg:(w5.alloc (.cells #[nv y] 3)).grownBy w6 u9.ownBlock) (hr:w6.ownsRow B2 3 1 v6 (o.length+1) (o.map nv++[nv y]))=>HS5.out.append (o':=o++[y]) ((Below.refl _ w5).alloc (Nat.le_refl _) _) hg (by simpa using hr)
       go_wp2_with (first
        | (at_builtin;refine wpList_append_own _ rfl _ _ 22 rfl B2 3 i1 (.int .i64 0) 1 8 underlying22 hI hI0 hI1 hI2 rfl (by decide) _ _ _ rfl (hr5.alloc _) ⟨w5.heap.size,0,none⟩ 1 1 [nv y] rfl rfl (Zcb _ _ _ _ (by simp)) (by simp[Value.oneCell']) hml3 (by omega) (by simp;omega) ?_;intro v6 w6 hown6 hgrow6 _;(have hs6:=Zfp hown6);(have hS6:=HAp.out _ _ hgrow6 hown6);(have hlb6:=hS6.cl))
        | fail)
       have hH6:Holds encI w6 g 0 (ints (Ru.left ch l.length o)).toArray:=by
        obtain⟨g',c',e',-,-,hH',-⟩:=hS6.left.resolve_left (fun h=>hem h.1)
        obtain⟨rfl,rfl⟩:g=g'/\cpl=c':=by
         simp only[Value.slice.injEq,Option.some.injEq,Addr.mk.injEq]at e';exact⟨e'.1.1,e'.2.2⟩
        exact hH'
       have HDl:=hid1 (Znl g cpl (Ru.left ch l.length o) k hk hH6 hroom hcm);have HGo:=hid1 fun(W':World) (hg:w6.grownBy W' (some g)) (hH:Holds encI W' g 0 (ints ((Ru.left ch l.length o).take k++(Ru.left ch l.length o).drop (k+1))).toArray)=>hS6.gone hem hg hH (by simp;omega)
       rw[HD2.out]at HDl HGo;refine HDl.out.mono ?_;rintro e w7 ⟨rfl,hH7,hg7⟩;obtain⟨q1,q2,q3⟩:=HGo.out w7 hg7 hH7;have HQ:=hid1 q3;go_wp2;exact⟨⟨o++[y],_,HO2.out,HQ.out⟩,by rw[hs6,hsl];omega⟩
theorem Zdq(hW:GraphW w es)(v:Value)(l:List Ru)(hrow:RRow w v l)(hn:l.length<=1000)(hS:∀ x∈l,x.Small)(f:Nat)(caps:Array Value)(eg:∀ args w,(callFunc f args).run prog w=.ok (.enter f args) w) 
  (ch:Nat->Bool) (Hcl:Hid (∀ i k,ch i=true->Ru.needs l i k=true->ch k=true))
  (HF:Hid (∀(x:Nat) (W:World),x<l.length->Below w.heap.size w W->Calls prog f (#[nv x]++caps) W fun e w'=>e=.returned (.bool (ch x))/\Below W.heap.size W w')) :
  Calls prog 61 #[v,.func (.func f) #[] caps] w fun e w'=>∃ u ev,e=.returned (.tuple #[u,ev])/\Below w.heap.size w w'/\Zcw es l ch w' u ev :=
 (Zfy hW v l hrow hn hS f caps eg ch Hcl HF).mono fun _ _ ⟨u,ev,h1,h2,h3,_⟩=>⟨u,ev,h1,h2,h3⟩
theorem Zlx(hW:GraphW w es)(v:Value)(l:List Ru)(hrow:RRow w v l)(hn:l.length<=1000)(hS:∀ x∈l,x.Small):
  Calls prog 38 #[v] w fun e w'=>∃ u ev,e=.returned (.tuple #[u,ev])/\Below w.heap.size w w'/\Zei es l w' u ev/\NewI w.heap.size u:=by
 have HC:=hid1 (Zfy hW v l hrow hn hS 62 #[] (enters_of func62 (by kernel_rfl) rfl) allB1 (hid1 fun _ _ _ _=>rfl) (hid1 fun x W _ _=>(Zkk x W).mono fun e w' h=>⟨h.1,by rw[h.2];exact Below.refl _ W⟩))
 obtain⟨pr,cap,rfl,-⟩:=hrow;go_enter func38,ntmps38
 go_wp2_with fail;refine HC.out.mono ?_;rintro e w1 ⟨u,ev,rfl,g1,hT⟩;have HT:Hid (Zei es l w1 u ev/\NewI w.heap.size u):=hid1 hT;go_wp2;go_ret2;exact⟨_,_,rfl,g1,HT.out.1,HT.out.2⟩
theorem Zqp(hW:GraphW w es)(v:Value)(l:List Ru)(hrow:RRow w v l)(hn:l.length<=1000)(hS:∀ x∈l,x.Small):
  Calls prog 38 #[v] w fun e w'=>∃ u ev,e=.returned (.tuple #[u,ev])/\Below w.heap.size w w'/\Zei es l w' u ev :=
 (Zlx hW v l hrow hn hS).mono fun _ _ ⟨u,ev,h1,h2,h3,_⟩=>⟨u,ev,h1,h2,h3⟩
theorem OfS.build{W0 w1:World}{fs:Tf.Fs}{mb:Nat}{ord:List Nat}{L:Lay}(h:OfS es W0 l fs (ruOf l) bm mb ord L w1)(hA:Ru.Apart l)(hS:∀ x∈l,x.Small){outs:List (List UInt8)}{f:Nat->Bool}(hN:Ru.Needed l outs f)(hn:∀ k,k∈ord↔k<l.length/\f k=true)(hlen:ord.length<=40){cv:Value}{w2:World}{bb:Nat}(hb:Below w1.heap.size w1 w2)(hz:w1.heap.size<=bb)(c0:w2.cell? ⟨bb,0,none⟩=some (.map (some bm)))(c1:w2.cell? ⟨bb,1,none⟩=some cv):
  BuM es w2 bb bm ord.length L cv (Bf.init fs l outs)/\∀ j,BBlk bb bm (Bf.init fs l outs) L j->W0.heap.size<=j:=by
 have hst:∀ k,(Bf.init fs l outs).st k=if k∈ord then .waits else .no:=fun k=>by
  show(if Bf.need l outs k=true then Bf.St.waits else .no)=_
  by_cases hk:k<l.length
  ·rw[Bf.need_eq hN hk];by_cases hf:f k=true
   ·rw[if_pos hf,if_pos ((hn k).2 ⟨hk,hf⟩)]
   ·rw[if_neg hf,if_neg fun e=>hf ((hn k).1 e).2]
  ·rw[Bf.need_out (by omega),if_neg (by simp),if_neg fun e=>hk ((hn k).1 e).1]
 have hdom:(Bf.init fs l outs).dom=fun k=>k∈ord:=by
  funext k
  unfold Bf.Bd.dom Bf.Bd.dm;rw[hst k];by_cases hk:k∈ord
  ·rw[if_pos hk];simp[hk,Bf.St.isNo]
  ·rw[if_neg hk];simp[hk,Bf.St.isNo]
 have hno:∀ k,((Bf.init fs l outs).st k).isNo=false↔k∈ord:=fun k=>by
  rw[hst k];by_cases hk:k∈ord
  ·rw[if_pos hk];simp[hk,Bf.St.isNo]
  ·rw[if_neg hk];simp[hk,Bf.St.isNo]
 have hins:∀ k,insOf (Bf.init fs l outs) k=(ruOf l k).ins.map (inpOf l fs):=fun k=>rfl
 refine⟨⟨c0,c1,?_,?_,?_,?_,?_,hA,?_⟩,?_⟩
 ·rw[hdom];exact h.smap.same (hb.block bm h.smap.lt)
 ·have hs:=h.made.steps.below hb;rw[hdom];exact hs.congr fun i hi=>by rw[hst i,if_pos hi]
 ·intro i hi k
  rw[h.us i ((hno i).1 hi) k,<- hno k];rfl
 ·intro i hi
  rw[hdom]at hi;have:=h.usl i hi;omega
 ·refine Bf.Inv.init (fun i hi=> ?_) (fun i k hk hi=> ?_) fun i=> ?_
  ·rw[hst i,if_neg fun e=>by have:=((hn i).1 e).1;have:l.length<=i:=hi;omega]
  ·rw[hno]at hi ⊢;have hk':Ru.needs l i k=true:=hk;exact(hn k).2 ⟨(Ru.needs_lt hk').2,hN.closed i k ((hn i).1 hi).2 hk'⟩
  ·rw[hst i];split
   ·exact .inr rfl
   ·exact .inl rfl
 ·intro i hi
  rw[hdom]at hi;rw[hins,List.length_map];have hil:=((hn i).1 hi).1;have:=(hS _ (List.getElem_mem hil)).many;simp[ruOf,hil];omega
 ·rintro j (rfl | rfl | hj)
  ·have:=h.made.base.size;omega
  ·exact h.lb
  ·rw[hdom]at hj;exact h.made.low j hj
variable {nb:Nat}{v:Value}{ll:List Nat}
theorem Znn(hc:W.cell? ⟨nb,0,none⟩=some v)(hrow:NIRow W v ll)(hl:ll.length<=1000)(x:Nat):Calls prog 182 #[nv x,.pointer (some ⟨nb,0,none⟩)] W fun e w'=>e=.returned (.bool (decide (x∈ll)))/\Below W.heap.size W w':=by
 have HC:=hid1 (Zbc v ll x hrow (by omega))
 obtain⟨p,c,rfl,-⟩:=hrow;go_enter func182,ntmps182
 go_wp2_with fail;refine HC.out.mono ?_;rintro e w1 ⟨rfl,rfl⟩;clear HC;go_wp2;go_ret;exact⟨rfl,Below.refl _ _⟩
theorem Yap(hW:BuildW W es)(lv ov cv:Value):Calls prog 144 #[.pointer none,lv,ov,cv] W fun e w'=>e=.returned (.tuple #[.pointer none,erOf es 3])/\Below W.heap.size W w':=by
 have c:=hW.shape;clear hW;go_enter func144,ntmps144
 go_wp2;go_region;go_wp2;go_ret2;exact⟨rfl,(Below.refl _ W).drew⟩
structure WantW(w:World)(es:Nat->Addr):Prop where
 g:GraphW w es
 shape:w.cell? ⟨2,0,Option.none⟩=some (erOf es 3)
 none:w.cell? ⟨5,0,Option.none⟩=some (erOf es 6)
theorem WantW.below{w w':World}{es:Nat->Addr}(h:WantW w es)(hb:Below w.heap.size w w'):WantW w' es:=⟨h.g.below hb,Zaa h.shape hb,Zaa h.none hb⟩
theorem WantW.ask(h:WantW w es):AskE w es:=⟨h.g.s.a,h.none⟩
def Zjv(es:Nat->Addr)(fs:Tf.Fs)(l:List Ru)(out:List UInt8)(w:World)(s:List UInt8)(ev:Value):Prop :=
 ((Ru.fault l).1≠0/\s=[]/\ErrV w es ev (Ru.fault l)) \/
 ((Ru.fault l).1=0/\(∀ x∈l,x.out≠out)/\s=[]/\ev=erOf es 6) \/
 ((Ru.fault l).1=0/\(∃ x∈l,x.out=out)/\Ru.order l (Bf.need l [out])=none/\s=[]/\ev=erOf es 9) \/
 ((Ru.fault l).1=0/\(∃ x∈l,x.out=out)/\(Ru.order l (Bf.need l [out])).isSome=true/\s=(Bf.want Af.actO fs l out).1/\ev=erOf es (Bf.want Af.actO fs l out).2)
theorem Zrb(hc:W.cell? ⟨nb,0,none⟩=some v)(hrow:NIRow W v ll)(hl:ll.length<=1000)(x:Nat):Calls prog 117 #[nv x,.pointer (some ⟨nb,0,none⟩)] W fun e w'=>e=.returned (.bool (decide (x∈ll)))/\Below W.heap.size W w':=by
 have HC:=hid1 (Zbc v ll x hrow (by omega))
 obtain⟨p,c,rfl,-⟩:=hrow;go_enter func117,ntmps117
 go_wp2_with fail;refine HC.out.mono ?_;rintro e w1 ⟨rfl,rfl⟩;clear HC;go_wp2;go_ret;exact⟨rfl,Below.refl _ _⟩
theorem Zmu{V:World}(hG:GraphW V es)(lv:Value)(l:List Ru)(hrow:RRow V lv l)(hl:l.length<=1000)(hS:∀ x∈l,x.Small)(nb:Nat)(v:Value)(ll:List Nat)(hc:V.cell? ⟨nb,0,none⟩=some v)(hr:NIRow V v ll)(hll:ll.length<=1000)(hcl:∀ i k,i∈ll->Ru.needs l i k=true->k∈ll):
  Calls prog 61 #[lv,.func (.func 117) #[] #[.pointer (some ⟨nb,0,none⟩)]] V fun e w'=>∃ u ev,e=.returned (.tuple #[u,ev])/\Below V.heap.size V w'/\Zcw es l (fun k=>decide (k∈ll)) w' u ev :=
 Zdq hG lv l hrow hl hS 117 #[.pointer (some ⟨nb,0,none⟩)] (enters_of func117 (by kernel_rfl) rfl) (fun k=>decide (k∈ll)) (hid1 fun i k hi hk=>by
  simp only[decide_eq_true_eq]at hi ⊢;exact hcl i k hi hk) (hid1 fun x W' _ gW=>Zrb (Zaa hc gW) (hr.below gW) hll x)
variable {tb:Nat}{o:Option Nat}
theorem Zxy(hW:WantW W es){Bt:Nat}{fs:Tf.Fs}(hT:TreeAt Bt W tb fs o)(hby:∀ x b,Tf.get fs x=some b->b.length<=2000)(lv:Value)(l:List Ru)(hrow:RRow W lv l)(hl:l.length<=1000)(hS:∀ x∈l,x.Small)(out:List UInt8)(hout:out.length<=1000):
  Calls prog 81 #[Ptr tb,lv,.string (ba out)] W fun e w'=>∃ s ev,e=.returned (.tuple #[.string (ba s),ev])/\Below W.heap.size W w'/\Zjv es fs l out w' s ev:=by
 have HSh:=hid1 (Zfm hW.g.s l (by omega) lv hrow hS)
 have HNd:=hid1 fun(V:World) (g:Below W.heap.size W V) (ov:Value) (hov:XRow V ov [out])=>Zhg (hW.g.s.below g) (Zaa hW.none g) lv l (hrow.below g) hl hS ov [out] hov (by simp)
 have HOf:=hid1 fun(V:World) (g:Below W.heap.size W V)=>Zmu (hW.g.below g) lv l (hrow.below g) hl hS
 have HAk:=hid1 fun(V:World) (g:Below W.heap.size W V) (h40:l.length<=40) (hA:∀ i j (hi:i<l.length) (hj:j<l.length),l[i].out=l[j].out->i=j)=>Zok (es:=es) (hW.ask.below g) ⟨_,_,hT.below g⟩ hby lv (hrow.below g) h40 hS hA
 have hN:=hW.none;obtain⟨pl,cl,rfl,-⟩:=hrow;clear hW hT hS hby;go_enter func81,ntmps81
 go_wp2_with fail;refine HSh.out.mono ?_;rintro e w1 ⟨u1,rfl,g1,hE⟩;clear HSh;by_cases hf:(Ru.fault l).1=0
 ·obtain⟨h40,hA⟩:=Ru.fault_ok hf;have hu1:u1=.nilIface:=by
   rcases hE with ⟨_,h,_⟩ | ⟨pb,m,_,_,h,_⟩
   ·rw[h,hf];rfl
   ·rw[hf]at h;cases h
  subst hu1;have HFt:=hid1 hf;have HAp:Hid (∀ i j (hi:i<l.length) (hj:j<l.length),l[i].out=l[j].out->i=j):=hid1 hA
  have gA:Below w1.heap.size w1 (w1.alloc (.cells #[.string (ba out)] 9)):=(Below.refl _ w1).alloc (Nat.le_refl _) _;have G2:=Zac g1 gA;have HX:Hid (XRow (w1.alloc (.cells #[.string (ba out)] 9)) (.slice (some ⟨w1.heap.size,0,none⟩) 1 1) [out]):=hid1 ⟨_,1,rfl,by simp,(fun h=>by cases h),fun _=>⟨_,0,rfl,by simp,fun j hj=>by
   obtain rfl:j=0:=by simpa using hj
   exact Zab (j:=0) (Zbq w1 _) rfl⟩⟩
  have HN1:=hid1 (HNd.out _ G2 _ HX.out);clear hE hf hA HNd HX;go_wp2_with fail;refine HN1.out.mono ?_;rintro e w2 ⟨u2,ev,rfl,g2,hT1⟩;have G3:=Zac G2 g2;clear HN1;rcases hT1 with ⟨hf,_⟩ | ⟨hf,k,hk,h1,h2,hE,pn,cn,rfl⟩ | ⟨hf,h1,rfl,f,hN0,hrw⟩
  ·exact absurd HFt.out hf
  ·obtain rfl:k=0:=by simpa using hk
   have HP:Hid ((Ru.fault l).1=0/\(∀ x∈l,x.out≠out)):=hid1 ⟨HFt.out,fun x hx=>h1 x hx⟩
   obtain⟨t,x,rfl⟩:=hE.some (by simp)
   have gB:Below w2.heap.size w2 (w2.alloc (.cells #[.slice pn 0 cn] 22)):=(Below.refl _ w2).alloc (Nat.le_refl _) _;have G4:=Zac G3 gB;have n4:=Zaa hN G4;clear hf hE h1 h2 HOf HAk;go_wp2;go_region;go_wp2;go_ret2;exact⟨_,_,rfl,Zad G4 1,.inr (.inl ⟨HP.out.1,HP.out.2,rfl,rfl⟩)⟩
  ·have HR1:=hid1 hrw;obtain⟨pn,cn,rfl,-⟩:=hrw;have gB:Below w2.heap.size w2 (w2.alloc (.cells #[.slice pn ((List.range l.length).filter f).length cn] 22)):=(Below.refl _ w2).alloc (Nat.le_refl _) _;have G4:=Zac G3 gB;have hfl:((List.range l.length).filter f).length<=40:=Nat.le_trans (by simpa using List.length_filter_le f (List.range l.length)) h40
   have hch:∀ k,k<l.length->(decide (k∈(List.range l.length).filter f))=Bf.need l [out] k:=fun k hk=>by
    rw[Bf.need_eq hN0 hk];simp[hk]
   have HCh:=hid1 (Ru.order_congr2 hch);have HO:=hid1 (HOf.out _ G4 w2.heap.size _ _ (by simp) (HR1.out.below gB) (by omega) fun i k hi hk=>by
    simp only[List.mem_filter,List.mem_range]at hi ⊢;exact⟨(Ru.needs_lt hk).2,hN0.closed i k hi.2 hk⟩)
   unfold Zcw at HO;rw[HCh.out]at HO;have HEx:Hid (∃ x∈l,x.out=out):=hid1 (h1 0 (by simp))
   have HN:=hid1 hN0;clear hf h1 hN0 HOf HCh hch HR1;go_wp2_with fail;refine HO.out.mono ?_;rintro e w3 ⟨u3,ev3,rfl,g3,hT3⟩;have G5:=Zac G4 g3;clear HO;rcases hT3 with ⟨h0,-⟩ | ⟨-,hnone,rfl,pn3,cn3,rfl⟩ | ⟨-,ord,hsome,rfl,hr3⟩
   ·exact absurd HFt.out h0
   ·have HP:Hid (Zjv es fs l out w3 [] (erOf es 9)):=hid1 (.inr (.inr (.inl ⟨HFt.out,HEx.out,hnone,rfl,rfl⟩)));clear hnone HAk;obtain⟨t9,x9,e9⟩:∃ t x,erOf es 9=.iface t x:=⟨_,_,rfl⟩
    rw[e9]at HP ⊢;clear e9;go_wp2;go_ret2;exact⟨_,_,rfl,G5,HP.out⟩
   ·obtain⟨ht,hall⟩:=Ru.order_some hsome;obtain⟨hnd,hlt⟩:=Ru.order_nodup hsome;have HSome:Hid ((Ru.order l (Bf.need l [out])).isSome=true):=hid1 (by rw[hsome];rfl)
    have HIn:Hid (∀ i,Bf.mkr l out=some i->i∈ord):=hid1 fun i hi=>by
     obtain⟨hk,ek⟩:=Bf.mkr_of hi;refine hall i hk ?_;rw[Bf.need_eq HN.out hk];exact HN.out.start i (by unfold Ru.base;rw[List.getElem?_eq_getElem hk];simp[ek])
    have HA3:=hid1 (HAk.out w3 G5 h40 HAp.out)
    have HAsk:Hid (∀ uv L W',AskB es tb fs l uv w3->Asks es tb fs l uv w3 L W'->Calls prog 162 (#[.string (ba out)]++L.caps) W' fun e w'=>e=.returned (.tuple #[.string (ba (Bf.want Af.actO fs l out).1),erOf es (Bf.want Af.actO fs l out).2])/\Asks es tb fs l uv w3 L w'/\Only (fun j=>j=L.dm) W' w'):=hid1 fun uv L W' hB hAs=>Yas hB ht hnd hlt out hout HIn.out W' hAs
    obtain⟨p3,c3,rfl,-⟩:=hr3;clear HAk ht hall hnd hlt hsome HIn HN;go_wp2_with fail;refine HA3.out.mono ?_;rintro e w4 ⟨uv,L,hB4,rfl,hA4⟩;have HT:=hid1 (HAsk.out uv L w4 hB4 hA4);have G6:=Zac G5 hA4.base;have hnew:=hA4.new;have eg:=Zgu
    have HEr:Hid (Zjv es fs l out w4 (Bf.want Af.actO fs l out).1 (erOf es (Bf.want Af.actO fs l out).2)):=hid1 (.inr (.inr (.inr ⟨HFt.out,HEx.out,HSome.out,rfl,rfl⟩)));have hz5:=G5.size;clear HA3 HAsk hB4 hA4;generalize Bf.want Af.actO fs l out=r at *;go_wp2_with fail;refine HT.out.mono ?_;rintro e w5 ⟨rfl,hA5,hO5⟩
    have G7:Below W.heap.size W w5:=G6.trans (hO5.below (fun j hj=>by rw[hj];omega) G6.size)
    clear HT hA5 hO5;go_wp2;go_ret2;refine⟨_,_,rfl,G7,?_⟩;rcases HEr.out with h | h | h | h
    ·exact absurd HFt.out h.1
    ·exact .inr (.inl h)
    ·exact .inr (.inr (.inl h))
    ·exact .inr (.inr (.inr h))
 ·have HP:Hid (Zjv es fs l out w1 [] u1):=hid1 (.inl ⟨hf,rfl,hE⟩);obtain⟨t,x,rfl⟩:=hE.some hf;clear hf hE HOf HAk HNd;go_wp2;go_ret2;exact⟨_,_,rfl,g1,HP.out⟩
open Tf (Fs)
structure Kept(S:Nat->Prop)(w w':World):Prop where
 size:w.heap.size<=w'.heap.size
 block:∀ j,j<w.heap.size->¬ S j->w'.heap[j]? =w.heap[j]?
variable {S:Nat->Prop}{w':World}
theorem Kept.of(h:Below w.heap.size w w'):Kept S w w':=⟨h.size,fun j hj _=>h.block j hj⟩
theorem Kept.refl(S:Nat->Prop)(w:World):Kept S w w:=⟨Nat.le_refl _,fun _ _ _=>rfl⟩
theorem Kept.trans{S:Nat->Prop}{a b c:World}(h:Kept S a b)(g:Kept S b c):Kept S a c :=
 ⟨Nat.le_trans h.size g.size,fun j hj hs=>(g.block j (Nat.lt_of_lt_of_le hj h.size) hs).trans (h.block j hj hs)⟩
theorem Kept.alloc{S:Nat->Prop}{a b:World}(h:Kept S a b)(o:Obj):Kept S a (b.alloc o):=h.trans (.of ((Below.refl _ b).alloc (Nat.le_refl _) o))
theorem Kept.setCell{S:Nat->Prop}{a b:World}(h:Kept S a b){p:Addr}(hp:S p.block)(v:Value):Kept S a (b.setCell p v):=by
 refine h.trans ⟨by simp,fun j _ hs=>Below.heap_setCell b p v j fun e=>hs (e ▸ hp)⟩
theorem Kept.grown{a b c:World}(h:Kept S a b)(hg:b.grownBy c o)(ho:∀ j,o=some j->S j):Kept S a c :=
 h.trans ⟨hg.size,fun j hj hs=>hg.block j hj fun e=>hs (ho j e.symm)⟩
theorem Kept.cell{S:Nat->Prop}{w w':World}(h:Kept S w w'){a:Addr}{u:Value}(hc:w.cell? a=some u)(hs:¬ S a.block):w'.cell? a=some u :=
 (World.cell?_of_block (h.block a.block (Zaj hc) hs)).trans hc
def tS(tb:Nat)(o:Option Nat):Nat->Prop:=fun j=>j=tb\/o=some j
theorem TreeAt.kept{fs:Fs}(h:TreeAt B w tb fs o)(hk:Kept S w w')(h1:¬ S tb)(h2:∀ j,o=some j->¬ S j):TreeAt B w' tb fs o:=by
 have hbk:=hk.block tb h.lt h1;refine⟨h.low,(World.cell?_of_block (a:=⟨tb,0,none⟩) hbk).trans h.cell,(World.frozen?_of_block (a:=⟨tb,0,none⟩) hbk).trans h.free,?_⟩
 cases o with
 | none=>exact h.isMap
 | some bm =>
  refine⟨h.isMap.1,h.isMap.2.1,?_⟩;have hm:=h.isMap.2.2;have hlt:=hm.lt;obtain⟨es,clock,e1,F,hs,hD⟩:=hm;exact⟨es,clock,(hk.block bm hlt (h2 bm rfl)).trans e1,F,hs,hD⟩
def OldNew(w:World)(o o':Option Nat):Prop:=o'=o\/∃ j,o'=some j/\w.heap.size<=j
variable {fs:Fs}
theorem Yax(h:TreeAt B w tb fs (some bm))(p b:List UInt8)(hp:p.length<=1000000)(hfew:fs.length<=1000) 
  (HM:Hid (Calls prog 105 #[Ptr tb,.string (ba p),.string (ba b)] w fun e w'=>e=.returned .nilIface/\Below w.heap.size w w')) :
  Calls prog 67 #[Ptr tb,.string (ba p),.string (ba b)] w fun e w'=>e=.returned .nilIface/\(TreeAt B w' tb (Tf.put fs p b) (some bm))/\Below B w w'/\Kept (tS tb (some bm)) w w':=by
 have hlt:=h.lt;go_enter func67,ntmps67
 go_wp2_with fail;refine HM.out.mono ?_;rintro e w1 ⟨rfl,g1⟩;have h1:=h.below g1;have hc:=h1.cell;have hm:=h1.isMap.2.2;have hq:=Zxf bm;go_wp2_with (first
  | (at_mapUpdate;refine wpList_mapUpdate_in _ rfl _ _ _ 103 rfl 9 105 klaw underlying103 Zaw bm fs.length (Tf.datum fs) rfl hm (by unfold maxLen;omega) _ _ _ rfl rfl (kkey p hp) _ [] (Zjb b) ?_;intro w2 hown2 hturn2;go_frame)
  | go_in)
 go_wp2;go_ret;rw[Tf.datum_put]at hown2;have hne:some tb≠some bm:=fun e=>h.isMap.2.1 (Option.some.inj e).symm
 have hbk:=hturn2.grown.block tb h1.lt hne;refine⟨rfl,⟨h.low,(World.cell?_of_block (a:=⟨tb,0,none⟩) hbk).trans hc,(World.frozen?_of_block (a:=⟨tb,0,none⟩) hbk).trans h1.free,h.isMap.1,h.isMap.2.1,Zcy hown2⟩,?_⟩
 exact⟨Zdu (g1.mono (by have:=h.low;omega)) (by have:=h.low;have:=g1.size;omega) h.isMap.1 hturn2,(Kept.of g1).grown hturn2.grown fun j e=>.inr (by rw[e])⟩
theorem Yay(h:TreeAt B w tb fs none)(p b:List UInt8)(hp:p.length<=1000000) 
  (HM:Hid (Calls prog 105 #[Ptr tb,.string (ba p),.string (ba b)] w fun e w'=>e=.returned .nilIface/\Below w.heap.size w w')) :
  Calls prog 67 #[Ptr tb,.string (ba p),.string (ba b)] w fun e w'=>e=.returned .nilIface/\(∃ bm,w.heap.size<=bm/\TreeAt B w' tb (Tf.put fs p b) (some bm))/\Below B w w'/\Kept (tS tb none) w w':=by
 have hlt:=h.lt;obtain rfl:fs=[]:=h.isMap;have hmm:= @run_makeMap prog;go_enter func67,ntmps67
 go_wp2_with fail;refine HM.out.mono ?_;rintro e w1 ⟨rfl,g1⟩;have h1:=h.below g1;have hc:=h1.cell;have hf:=h1.free;have hq:=Ycu;have htb:=h1.lt;have eS:(w1.setCell ⟨tb,0,none⟩ (.map (some w1.heap.size))).heap.size=w1.heap.size:=by simp
 have gA:Below w1.heap.size (w1.setCell ⟨tb,0,none⟩ (.map (some w1.heap.size))) ((w1.setCell ⟨tb,0,none⟩ (.map (some w1.heap.size))).alloc (.map #[] 0)):=(Below.refl _ _).alloc (by simp) _
 have hcS:((w1.setCell ⟨tb,0,none⟩ (.map (some w1.heap.size))).alloc (.map #[] 0)).cell? ⟨tb,0,none⟩=some (.map (some w1.heap.size)) :=
  (gA.cell (p:=⟨tb,0,none⟩) htb).trans (World.cell?_setCell_same' _ _ _ (by rw[hc];rfl))
 have hfS:Hid (((w1.setCell ⟨tb,0,none⟩ (.map (some w1.heap.size))).alloc (.map #[] 0)).frozen? ⟨tb,0,none⟩=false) :=
  (gA.frozen (p:=⟨tb,0,none⟩) htb).trans (by rw[World.frozen?_setCell];exact hf)
 have Hm0:Hid (((w1.setCell ⟨tb,0,none⟩ (.map (some w1.heap.size))).alloc (.map #[] 0)).ownsMap prog 9 Zaw w1.heap.size 0 (Tf.datum [])):=by
  have:=World.ownsMap_made (w1.setCell ⟨tb,0,none⟩ (.map (some w1.heap.size))) prog 9 Zaw;rw[eS]at this;exact this
 have gS:Hid (Below B w ((w1.setCell ⟨tb,0,none⟩ (.map (some w1.heap.size))).alloc (.map #[] 0))):=((g1.mono (by have:=h.low;omega)).setCell (p:=⟨tb,0,none⟩) h.low _).alloc (by rw[eS];have:=h.low;have:=g1.size;omega) _
 have gK:Hid (Kept (tS tb none) w ((w1.setCell ⟨tb,0,none⟩ (.map (some w1.heap.size))).alloc (.map #[] 0))):=((Kept.of g1).setCell (p:=⟨tb,0,none⟩) (.inl rfl) _).alloc _;have hw1:Hid (w.heap.size<=w1.heap.size):=g1.size;clear eS gA;go_wp2_with (first
  | (at_mapUpdate;refine wpList_mapUpdate_in _ rfl _ _ _ 103 rfl 9 105 klaw underlying103 Zaw w1.heap.size 0 (Tf.datum []) rfl Hm0.out (by unfold maxLen;omega) _ _ _ rfl rfl (kkey p hp) _ [] (Zjb b) ?_;intro w2 hown2 hturn2;go_frame)
  | go_in)
 go_wp2;go_ret;rw[Tf.datum_put]at hown2;have hne:some tb≠some w1.heap.size:=fun e=>by have:=Option.some.inj e;omega
 have hbk:=hturn2.grown.block tb (by simp;omega) hne
 refine⟨rfl,⟨w1.heap.size,hw1.out,h.low,(World.cell?_of_block (a:=⟨tb,0,none⟩) hbk).trans hcS,(World.frozen?_of_block (a:=⟨tb,0,none⟩) hbk).trans hfS.out,by have:=h.low;omega,by omega,Zcy hown2⟩,?_⟩
 refine⟨Zdu gS.out (by have:=h.low;simp;omega) (by have:=h.low;omega) hturn2,⟨Nat.le_trans gK.out.size hturn2.grown.size,fun j hj hs=> ?_⟩⟩
 exact(hturn2.grown.block j (Nat.lt_of_lt_of_le hj gK.out.size) fun e=>by have:=Option.some.inj e;have:=hw1.out;omega).trans (gK.out.block j hj hs)
theorem Zmd{es:Nat->Value}(h:TreeAt B w tb fs o)(hE:TErr w es)(hlen:∀ f∈fs,f.1.length<=1000000)(hfew:fs.length<=1000)(p b:List UInt8)(hp:p.length<=1000000):
  Calls prog 67 #[Ptr tb,.string (ba p),.string (ba b)] w fun e w'=>e=.returned (es (Tf.putCode pathB fs p b))/\(∃ o',OldNew w o o'/\TreeAt B w' tb (Tf.putF pathB fs p b) o')/\Below B w w'/\Kept (tS tb o) w w':=by
 have HM:=Zpz h hE hlen hfew p b hp;have hBw:B<=w.heap.size:=by have:=h.low;have:=h.lt;omega
 cases hc:Tf.putCode pathB fs p b with
 | zero =>
  rw[hc,hE.nil]at HM;rw[hE.nil,show Tf.putF pathB fs p b=Tf.put fs p b by simp[Tf.putF,hc]]
  cases o with
  | none=>exact(Yay h p b hp HM).mono fun e w' ⟨h1,⟨bm,hb,h2⟩,h3⟩=>⟨h1,⟨_,.inr ⟨bm,rfl,hb⟩,h2⟩,h3⟩
  | some bm=>exact(Yax h p b hp hfew HM).mono fun e w' ⟨h1,h2,h3⟩=>⟨h1,⟨_,.inl rfl,h2⟩,h3⟩
 | succ k =>
  obtain⟨t,u,e⟩:=hE.faces k;rw[hc,e]at HM;rw[e,show Tf.putF pathB fs p b=fs by simp[Tf.putF,hc]]
  exact(Put_no h p b t u HM).mono fun e w' ⟨h1,h2⟩=>⟨h1,⟨_,.inl rfl,h.below h2⟩,h2.mono hBw,.of h2⟩
theorem Zud(h:TreeAt B w tb fs (some bm))(p:List UInt8)(hp:p.length<=1000000)(ht:Tf.hasP fs p=true):
  Calls prog 70 #[Ptr tb,.string (ba p)] w fun e w'=>e=.returned .nilIface/\TreeAt B w' tb (Tf.del fs p) (some bm)/\Below B w w'/\Kept (tS tb (some bm)) w w':=by
 have hl:=Zdp h p hp;rw[ht]at hl;have HA:Hid (Calls prog 53 #[Ptr tb] w fun e w'=>e=.returned (.map (some bm))/\w'=w):=Zgc tb (some bm) w h.cell
 generalize (Tf.get fs p).getD []=x at *;have hc:=h.cell;have g1:Below w.heap.size w (w.alloc (.cells #[.string (ba x)] 105)):=(Below.refl _ w).alloc (Nat.le_refl _) _;have h1:=h.below g1;have hc1:=h1.cell;have hm:=h1.isMap.2.2;have hBw:B<=w.heap.size:=by have:=h.low;have:=h.lt;omega
 clear ht;go_enter func70,ntmps70
 go_wp2_with fail;refine HA.out.mono ?_;rintro e w' ⟨rfl,rfl⟩;go_wp2_with (first
  | (at_delete;refine wpList_delete_own _ rfl _ _ 103 9 rfl 105 klaw underlying103 Zaw bm fs.length (Tf.datum fs) rfl hm _ _ rfl (kkey p hp) ?_;intro w2 hown2 hturn2;go_frame)
  | go_in)
 go_wp2;go_ret;rw[Tf.datum_del]at hown2;have hne:some tb≠some bm:=fun e=>h.isMap.2.1 (Option.some.inj e).symm
 have hbk:=hturn2.grown.block tb h1.lt hne;refine⟨rfl,⟨h.low,(World.cell?_of_block (a:=⟨tb,0,none⟩) hbk).trans hc1,(World.frozen?_of_block (a:=⟨tb,0,none⟩) hbk).trans h1.free,h.isMap.1,h.isMap.2.1,Zcy hown2⟩,?_⟩
 exact⟨Zdu (g1.mono hBw) (by have:=g1.size;omega) h.isMap.1 hturn2,(Kept.of g1).grown hturn2.grown fun j e=>.inr (by rw[e])⟩
theorem Zgd{es:Nat->Value}(h:TreeAt B w tb fs o)(hE:TErr w es)(p:List UInt8)(hp:p.length<=1000000):
  Calls prog 70 #[Ptr tb,.string (ba p)] w fun e w'=>e=.returned (es (if Tf.hasP fs p then 0 else 6))/\(∃ o',OldNew w o o'/\TreeAt B w' tb (Tf.del fs p) o')/\Below B w w'/\Kept (tS tb o) w w':=by
 have hBw:B<=w.heap.size:=by have:=h.low;have:=h.lt;omega
 cases ht:Tf.hasP fs p with
 | true =>
  cases o with
  | none =>
   obtain rfl:fs=[]:=h.isMap;simp[Tf.hasP]at ht
  | some bm =>
   simp only[if_true,hE.nil];exact(Zud h p hp ht).mono fun e w' ⟨h1,h2,h3⟩=>⟨h1,⟨_,.inl rfl,h2⟩,h3⟩
 | false =>
  simp only[Bool.false_eq_true,if_false];rw[Tf.del_none ht];exact(Yaw h hE p hp ht).mono fun e w' ⟨h1,h2⟩=>⟨h1,⟨_,.inl rfl,h.below h2⟩,h2.mono hBw,.of h2⟩
theorem Zbn(p:List UInt8)(hp:p.length<=1000000)(x:Bool)(h:pathB p=x)(w:World):Hid (Calls prog 72 #[.string (ba p)] w fun e w'=>e=.returned (.bool x)/\Below w.heap.size w w'):=by
 have:=Zdw p hp w;rw[<- Zso,h]at this;exact this
theorem Zyq(w:World)(tb:Nat)(p b:List UInt8)(hp:p.length<=1000000)(hn:pathB p=false):
  Calls prog 43 #[Ptr tb,.string (ba p),.string (ba b)] w fun e w'=>e=.returned (.int .i64 4)/\Below w.heap.size w w':=by
 have HI:=Zbn p hp false hn w;clear hn;go_enter func43,ntmps43
 go_wp2_with fail;refine HI.out.mono ?_;rintro e w1 ⟨rfl,g1⟩;go_wp2;go_ret;exact⟨rfl,g1⟩
theorem Zwc(w:World)(tb:Nat)(p b:List UInt8)(hp:p.length<=1000000)(hn:pathB p=true)(hb:2000<b.length):
  Calls prog 43 #[Ptr tb,.string (ba p),.string (ba b)] w fun e w'=>e=.returned (.int .i64 2)/\Below w.heap.size w w':=by
 have HI:=Zbn p hp true hn w;have z:(2000:Int)<(b.length:Int):=by omega
 clear hn hb;go_enter func43,ntmps43
 go_wp2_with fail;refine HI.out.mono ?_;rintro e w1 ⟨rfl,g1⟩;go_wp2;go_ret;exact⟨rfl,g1⟩
theorem Zja:∀ {fs:Fs} {p:List UInt8},Tf.clash fs p=true->∃ k,∃ hk:k<fs.length,(Tf.above fs[k].1 p||Tf.above p fs[k].1)=true/\∀ j (hj:j<fs.length),j<k->(Tf.above fs[j].1 p||Tf.above p fs[j].1)=false
 | f::r,p,h=>by
  cases hf:(Tf.above f.1 p||Tf.above p f.1) with
  | true=>exact⟨0,by simp,hf,fun j _ h=>absurd h (Nat.not_lt_zero _)⟩
  | false =>
   have hr:Tf.clash r p=true:=by
    unfold Tf.clash at h ⊢;rw[List.any_cons,hf,Bool.false_or]at h;exact h
   obtain⟨k,hk,h1,h2⟩:=Zja hr;refine⟨k+1,by simpa using hk,h1,fun j hj hjk=> ?_⟩
   cases j with
   | zero=>exact hf
   | succ j=>exact h2 j (by simpa using hj) (by omega)
theorem Zwb(h:RTreeAt B w tb fs v)(hlen:∀ f∈fs,f.1.length<=1000000)(hfew:fs.length<=1000)(p b:List UInt8)(hp:p.length<=1000000)(hn:pathB p=true)(hb:b.length<=2000)(hc:Tf.clash fs p=true):
  Calls prog 43 #[Ptr tb,.string (ba p),.string (ba b)] w fun e w'=>e=.returned (.int .i64 7)/\Below w.heap.size w w':=by
 have HI:=Zbn p hp true hn w;have HA:Hid (∀(a c:List UInt8),a.length<=1000000->c.length<=1000000->∀ W,Calls prog 73 #[.string (ba a),.string (ba c)] W fun e w'=>e=.returned (.bool (Tf.above a c))/\w'=W):=fun a c ha hc W=>Zck a c ha hc W
 obtain⟨k0,hk0,hcl,hno⟩:=Zja hc;have z:(b.length:Int)<=2000:=by omega
 clear hn hb hc;go_enter func43,ntmps43
 go_wp2_with fail;refine HI.out.mono ?_;rintro e w1 ⟨rfl,g1⟩;have h1:=h.below g1;have hcell:=h1.cell;obtain⟨pa,cap,rfl,hcap,hin⟩:=FRow.of_owns h1.row;clear HI h h1;go_wp2;go_loopw [8] (fun i wr=>∃ k:Nat,k<=k0/\i=.int .i64 k/\wr=w1) (fun i _=>k0 - (intOf i).toNat)
 case atStart=>exact⟨0,Nat.zero_le _,rfl,rfl⟩
 case round =>
  obtain⟨k,hk,rfl,rfl⟩:=hrel;have hlt:k<fs.length:=by omega
  obtain⟨g,cur,rfl,hg,hcur⟩:=hin (by intro e;rw[e]at hlt;simp at hlt)
  have hx:=Zab hg (hcur k hlt).1;have hxl:=hlen _ (List.getElem_mem hlt);have c1:(k:Int)<(fs.length:Int):=by omega
  have c0:(0:Int)<=(k:Int):=by omega
  have A1:Hid (∀ W,Calls prog 73 #[.string (ba p),.string (ba fs[k].1)] W fun e w'=>e=.returned (.bool (Tf.above p fs[k].1))/\w'=W):=HA.out p _ hp hxl
  have A2:Hid (∀ W,Calls prog 73 #[.string (ba fs[k].1),.string (ba p)] W fun e w'=>e=.returned (.bool (Tf.above fs[k].1 p))/\w'=W):=HA.out _ p hxl hp
  have hor:(Tf.above fs[k].1 p||Tf.above p fs[k].1)=decide (k=k0):=by
   rcases Nat.lt_or_ge k k0 with h2 | h2
   ·rw[hno k hlt h2];simp;omega
   ·obtain rfl:k=k0:=by omega
    rw[hcl];simp
  clear hin hcur hg;generalize fs[k].1=x at *;cases a1:Tf.above p x with
  | true =>
   rw[a1]at A1 hor;clear A2;go_wp2_with fail;refine(A1.out _).mono ?_;rintro e w' ⟨rfl,rfl⟩;go_wp2;go_ret;exact⟨rfl,g1⟩
  | false =>
   rw[a1]at A1 hor;cases a2:Tf.above x p with
   | true =>
    rw[a2]at A2;go_wp2_with fail;refine(A1.out _).mono ?_;rintro e w' ⟨rfl,rfl⟩;go_wp2_with fail;refine(A2.out _).mono ?_;rintro e w' ⟨rfl,rfl⟩;go_wp2;go_ret;exact⟨rfl,g1⟩
   | false =>
    rw[a2]at A2 hor;have hkk:k≠k0:=by intro e;subst e;simp at hor
    go_wp2_with fail;refine(A1.out _).mono ?_;rintro e w' ⟨rfl,rfl⟩;go_wp2_with fail;refine(A2.out _).mono ?_;rintro e w' ⟨rfl,rfl⟩;go_wp2;go_roundw
    case rel=>exact⟨k+1,by omega,by go_num,by first | rfl | trivial⟩
    case measure=>simp[intOf];omega
