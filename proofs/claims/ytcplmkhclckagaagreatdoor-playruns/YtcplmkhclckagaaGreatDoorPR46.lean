import Derived.Test.YtcplmkhclckagaaGreatDoorPR45
set_option maxRecDepth 100000
set_option maxHeartbeats 32000000
open Go.Proofs.Tryz
namespace Go.Proofs.YtcplmkhclckagaaGreatDoor
open Go.RowKit Go.Shelf Go.Lib
open Af (Kd)
theorem Zvp{wd:List UInt8}(h:Af.isSwap wd=true):cutB 61 wd=[(Lib.cut wd [61]).1,(Lib.cut wd [61]).2.1]/\(Lib.cut wd [61]).1≠[]:=by
 have ha:(Lib.cut wd [61]).1≠[]:=by
  intro e
  unfold Af.isSwap at h;rw[e]at h;simp at h
 refine⟨?_,ha⟩;rw[Zlv]at h;simp only[Bool.and_eq_true,decide_eq_true_eq]at h;have h2:=h.1;unfold Lib.cut;rw[Lib.index_one];by_cases hm:Lib.indexByte wd 61= -1
 ·rw[Zct 61 wd hm]at h2;simp at h2
 ·have hge:=Lib.indexByte_ge wd 61;obtain⟨i,hi⟩:∃ i:Nat,Lib.indexByte wd 61=(i:Int):=⟨(Lib.indexByte wd 61).toNat,by omega⟩
  obtain⟨e1,e2⟩:=Zcs 61 wd i hi;rw[e1,List.length_cons]at h2;rw[hi,e1];simp only[Int.natCast_nonneg,if_true,Int.toNat_natCast,List.length_cons,List.length_nil,Nat.zero_add];by_cases hm2:Lib.indexByte (wd.drop (i+1)) 61= -1
  ·rw[Zct 61 _ hm2]
  ·have hge2:=Lib.indexByte_ge (wd.drop (i+1)) 61;obtain⟨j,hj⟩:∃ j:Nat,Lib.indexByte (wd.drop (i+1)) 61=(j:Int):=⟨(Lib.indexByte (wd.drop (i+1)) 61).toNat,by omega⟩
   obtain⟨f1,_⟩:=Zcs 61 _ j hj;have hne:=Zjg 61 ((wd.drop (i+1)).drop (j+1));have h0:0<(cutB 61 ((wd.drop (i+1)).drop (j+1))).length:=List.length_pos_iff.2 hne;rw[f1,List.length_cons]at h2;omega
theorem Zhc(wd:List UInt8):∀(l:List (List UInt8)),(∀ y∈l,y.length<=3000)->(Lib.joinTail wd l).length<=l.length*(wd.length+3000)
 | [],_=>by simp[Lib.joinTail]
 | x::r,h=>by
  have ih:=Zhc wd r fun y hy=>h y (by simp[hy])
  have hx:=h x (by simp)
  simp only[Lib.joinTail,List.map_cons,List.flatten_cons,List.length_append,List.length_cons,Nat.add_mul,Nat.one_mul]at ih ⊢;omega
variable {w:World}
theorem Ycd(k:Kd)(hk:k≠.write)(wd:List UInt8)(hl:wd.length<=100)(v:Value)(ls:List (List UInt8))(hrow:IRow w v ls)(hx:∀ x∈ls,x.length<=3000)(h1:k.least<=ls.length)(h2:ls.length<=k.most)(htk:k.takes wd=true):
  Calls prog 132 #[.string (ba k.name),.string (ba wd),v] w fun e w'=>e=.returned (.string (ba (k.out wd ls)))/\Below w.heap.size w w':=by
 obtain⟨p,cap,rfl,hin⟩:=hrow;have hm8:k.most<=8:=by cases k <;> decide
 have hl1:1<=k.least:=by cases k <;> first | exact absurd rfl hk | decide
 obtain⟨g,o,rfl,hg,hcur⟩:=hin (by intro e;rw[e]at h1;simp at h1;omega)
 have hone:k.most=1->∃ x,ls=[x]:=fun e=>one_of (by omega)
 have hx4:∀ x∈ls,x.length<=4000:=fun x h=>Nat.le_trans (hx x h) (by omega)
 cases k
 ·exact absurd rfl hk
 ·match ls,hcur,hx,h2 with
  | [],_,_,_=>simp at h1;omega
  | x::l,hcur,hx,h2 =>
   simp only[List.length_cons]at h2;refine Zzm wd g o cap x l (by omega) (by omega) (fun y hy=>Nat.le_trans (hx y (by simp[hy])) (by omega)) (fun k=> ?_) w hcur
   have hx0:=hx x (by simp)
   have:=Zhc wd (l.take k) fun y hy=>hx y (by simp[List.mem_of_mem_take hy])
   have h3:(l.take k).length*(wd.length+3000)<=8*3100:=Nat.mul_le_mul (by simp;omega) (by omega)
   simp only[List.length_append];omega
 ·obtain⟨x,rfl⟩:=hone rfl;have hxx:=hx x (by simp)
  exact Zwp wd x g o cap (by omega) w (hcur 0 (by simp)) hg
 ·obtain⟨x,rfl⟩:=hone rfl;have hxx:=hx x (by simp)
  exact Zwq wd x g o cap (by omega) (by omega) w (hcur 0 (by simp))
 ·exact Zzl wd htk g o cap ls (by omega) hx4 w hg hcur
 ·exact Zwr wd g o cap ls (by omega) hx4 w hg hcur
 ·obtain⟨x,rfl⟩:=hone rfl;have hxx:=hx x (by simp)
  obtain⟨e1,e2⟩:=Zvp htk;have:=Znm wd [61];exact Zqb wd x _ _ g o cap (by omega) (by omega) e1 e2 (by omega) (by omega) w (hcur 0 (by simp)) hg
 ·obtain⟨x,rfl⟩:=hone rfl;have hxx:=hx x (by simp)
  obtain⟨n,hn⟩:∃ n,numM 3 wd=some n:=Option.isSome_iff_exists.1 htk
  have hJ:numJ wd=(n:Int):=by
   unfold numJ;rw[<- Zlo,hn]
  have e:Kd.head.out wd [x]=Af.told ((Af.lines x).take n):=by simp[Af.Kd.out,hn]
  rw[e];exact Zzn wd x n hJ g o cap (by omega) (by omega) w (hcur 0 (by simp))
theorem Yat(nm wd:List UInt8)(p:Option Addr)(n cap c:Nat)(w:World)(HA:Hid (Calls prog 131 #[.string (ba nm),.string (ba wd),.int .i64 n] w fun e w'=>e=.returned (.int .i64 ((c+1:Nat):Int))/\Below w.heap.size w w')):
  Calls prog 84 #[.string (ba nm),.string (ba wd),.slice p n cap] w fun e w'=>e=.returned (.tuple #[.string (ba []),.int .i64 ((c+1:Nat):Int)])/\Below w.heap.size w w':=by
 have z:(0:Int)<((c+1:Nat):Int):=by omega
 generalize ((c+1:Nat):Int)=c1 at *;go_enter func84,ntmps84
 go_wp2_with fail;refine Calls.mono HA.out ?_;rintro e w1 ⟨rfl,g1⟩;go_wp2;go_ret2;exact⟨rfl,g1⟩
theorem Ztx(wd:List UInt8)(p:Option Addr)(n cap:Nat)(w:World)(hl:wd.length<=100)(HA:Hid (Calls prog 131 #[.string ⟨#[119,114,105,116,101]⟩,.string (ba wd),.int .i64 n] w fun e w'=>e=.returned (.int .i64 0)/\Below w.heap.size w w')):
  Calls prog 84 #[.string ⟨#[119,114,105,116,101]⟩,.string (ba wd),.slice p n cap] w fun e w'=>e=.returned (.tuple #[.string (ba wd),.int .i64 0])/\Below w.heap.size w w':=by
 go_enter func84,ntmps84
 go_wp2_with fail;refine Calls.mono HA.out ?_;rintro e w1 ⟨rfl,g1⟩;go_wp2;go_ret2;exact⟨rfl,g1⟩
theorem Zxq(nm wd out:List UInt8)(p:Option Addr)(n cap:Nat)(w:World)(hnm:(nm==[119,114,105,116,101])=false)(HA:Hid (Calls prog 131 #[.string (ba nm),.string (ba wd),.int .i64 n] w fun e w'=>e=.returned (.int .i64 0)/\Below w.heap.size w w')) 
  (HM:Hid (∀ W,Below w.heap.size w W->Calls prog 132 #[.string (ba nm),.string (ba wd),.slice p n cap] W fun e w'=>e=.returned (.string (ba out))/\Below W.heap.size W w')) :
  Calls prog 84 #[.string (ba nm),.string (ba wd),.slice p n cap] w fun e w'=>e=.returned (.tuple #[.string (ba (if 2000<out.length then [] else out)),.int .i64 (if 2000<out.length then 10 else 0)])/\Below w.heap.size w w':=by
 by_cases h:2000<out.length
 ·rw[if_pos h,if_pos h];have z:(2000:Int)<(out.length:Int):=by omega
  clear h;go_enter func84,ntmps84
  go_wp2_with fail;refine Calls.mono HA.out ?_;rintro e w1 ⟨rfl,g1⟩;go_wp2_with fail;refine Calls.mono (HM.out w1 g1) ?_;rintro e w2 ⟨rfl,g2⟩;go_wp2;go_ret2;exact⟨rfl,g1.trans (g2.mono g1.size)⟩
 ·rw[if_neg h,if_neg h];have z:(out.length:Int)<=2000:=by omega
  clear h;go_enter func84,ntmps84
  go_wp2_with fail;refine Calls.mono HA.out ?_;rintro e w1 ⟨rfl,g1⟩;go_wp2_with fail;refine Calls.mono (HM.out w1 g1) ?_;rintro e w2 ⟨rfl,g2⟩;go_wp2;go_ret2;exact⟨rfl,g1.trans (g2.mono g1.size)⟩
theorem Zjx(nm wd:List UInt8)(hl:wd.length<=1000000)(v:Value)(ls:List (List UInt8))(hrow:IRow w v ls)(hx:∀ x∈ls,x.length<=3000):
  Calls prog 84 #[.string (ba nm),.string (ba wd),v] w fun e w'=>e=.returned (.tuple #[.string (ba (Af.actO nm wd ls).1),.int .i64 ((Af.actO nm wd ls).2:Nat)])/\Below w.heap.size w w':=by
 have hrow':=hrow;obtain⟨p,cap,rfl,_⟩:=hrow;have HA:=hid1 (Zet nm wd ls.length hl w);by_cases e0:Af.actE nm wd ls.length=0
 ·cases hk:Af.kindOf nm with
  | none=>simp[Af.actE,hk]at e0
  | some k =>
   obtain rfl:=Af.kindOf_some hk;have eO:Af.actO k.name wd ls=if 2000<(k.out wd ls).length then ([],10) else (k.out wd ls,0):=by
    unfold Af.actO;rw[if_pos e0,hk]
   rw[e0]at HA;rw[Zrk]at e0;have hc:¬ ((ls.length:Int)<k.least\/(k.most:Int)<ls.length\/k.takes wd=false):=fun h=>by
    rw[if_pos h]at e0;cases e0
   rw[if_neg hc]at e0;have hw:¬ 100<wd.length:=fun h=>by
    rw[if_pos h]at e0;cases e0
   have ht:k.takes wd=true:=by
    cases hb:k.takes wd with
    | true=>rfl
    | false=>exact absurd (.inr (.inr hb)) hc
   by_cases hwr:k=.write
   ·subst hwr;have:Af.actO Kd.write.name wd ls=(wd,0):=by
     rw[eO];have:¬ 2000<(Kd.write.out wd ls).length:=by simp[Af.Kd.out];omega
     rw[if_neg this];rfl
    rw[this];exact Ztx wd p ls.length cap w (by omega) HA
   ·have:=Zxq k.name wd (k.out wd ls) p ls.length cap w (by cases k <;> first | exact absurd rfl hwr | rfl) HA (hid1 fun W hW=>Ycd k hwr wd (by omega) _ ls (hrow'.below hW) hx (by omega) (by omega) ht)
    refine this.mono ?_;rintro e w' ⟨rfl,g⟩;refine⟨?_,g⟩;rw[eO];split <;> rfl
 ·have eO:Af.actO nm wd ls=([],Af.actE nm wd ls.length):=by
   unfold Af.actO;rw[if_neg e0]
  rw[eO];obtain⟨c,hc⟩:∃ c,Af.actE nm wd ls.length=c+1:=⟨Af.actE nm wd ls.length - 1,by omega⟩
  simp only[hc]at HA ⊢;exact Yat nm wd p ls.length cap c w HA
theorem Zhq(w:World)(o:Obj):(w.alloc o).heap[w.heap.size]? =some o:=by
 show(w.heap.push o)[w.heap.size]? =_
 simp
theorem Zed{w':World}{b:Nat}{o:Obj}(h:w.heap[b]? =some o)(hb:Below w.heap.size w w'):w'.heap[b]? =some o:=(hb.block b (Array.getElem?_eq_some_iff.1 h).1).trans h
variable {W:World}{B:Nat}
theorem Zwn{e:TypeId}{s n:Nat}{v:Value}{xs:List Value}(h:W.ownsRow B e s v n xs):∃ p c,v=.slice p n c:=by
 rcases h.2 with ⟨rfl,rfl⟩ | ⟨g,cap,cur,rfl,_⟩
 ·exact⟨_,_,rfl⟩
 ·exact⟨_,_,rfl⟩
theorem Zmx{l:List Ru}{outs:List (List UInt8)}(hk:SheetOk l)(hor:∀ p∈outs,∃ x∈l,x.out=p){f:Nat×Int}(h:Zej l outs f):f=(0,-1):=by
 rcases h with ⟨h1,_⟩ | ⟨_,k,hk',h1,_⟩ | ⟨_,_,h1,_⟩ | ⟨_,_,_,h1⟩
 ·exact absurd hk.fine h1
 ·obtain⟨x,hx,e⟩:=hor _ (List.getElem_mem hk');exact absurd e (h1 x hx)
 ·have:=hk.part outs;rw[h1]at this;cases this
 ·exact h1
variable {L:NL}
theorem Zze{w11:World}{L':NL}(h:NStep W w11 L L')(hl:W.heap.size<w11.heap.size)(a b:Value)(ob:Obj):NStep W (((w11.setCell ⟨W.heap.size,0,none⟩ a).setCell ⟨W.heap.size,1,none⟩ b).alloc ob) L L':=by
 have e1:((w11.setCell ⟨W.heap.size,0,none⟩ a).setCell ⟨W.heap.size,1,none⟩ b).heap.size=w11.heap.size:=by simp
 have e2:∀ j,j<W.heap.size->(((w11.setCell ⟨W.heap.size,0,none⟩ a).setCell ⟨W.heap.size,1,none⟩ b).alloc ob).heap[j]? =w11.heap[j]? :=fun j hj=>by
  have g:=(Below.refl ((w11.setCell ⟨W.heap.size,0,none⟩ a).setCell ⟨W.heap.size,1,none⟩ b).heap.size ((w11.setCell ⟨W.heap.size,0,none⟩ a).setCell ⟨W.heap.size,1,none⟩ b)).alloc (o:=ob) (Nat.le_refl _)
  exact(g.block j (by rw[e1];omega)).trans ((Below.heap_setCell _ ⟨W.heap.size,1,none⟩ b j (by show j≠W.heap.size;omega)).trans (Below.heap_setCell _ ⟨W.heap.size,0,none⟩ a j (by show j≠W.heap.size;omega)))
 refine⟨?_,fun j hj h9=>(e2 j hj).trans (h.rest j hj h9),h.kk,h.tb⟩
 have:(((w11.setCell ⟨W.heap.size,0,none⟩ a).setCell ⟨W.heap.size,1,none⟩ b).alloc ob).heap.size=w11.heap.size+1:=by simp
 omega
theorem Zpu{yb:Nat}{y:Bf.Yd}(h:NdAt B W yb L y)(hfs:Tf.Well pathB y.fs)(hos:Tf.Well pathB y.os)(hk:SheetOk y.l)(hc:Bf.CFit y.c)(ov:Value)(outs:List (List UInt8))(hov:XRow W ov outs)(hnil:outs=[]->ov=.slice none 0 0)(hol:outs.length<=100)(hor:∀ p∈outs,∃ x∈y.l,x.out=p):
  Calls prog 44 #[Ptr yb,ov] W fun e w'=>∃ p n c,e=.returned (.tuple #[.slice p n c,.agg #[.int .i64 0,.int .i64 (-1)]])/\Below B W w'/\∃ L',NStep W w' L L'/\NdAt B w' yb L' (y.make outs):=by
 have h40:=hk.len;obtain⟨o,ho⟩:=Option.isSome_iff_exists.1 hk.some;have ho':Ru.order y.l (fun _=>true)=some o:=ho
 obtain⟨hnd,hlt0⟩:=Ru.order_nodup ho;have hol2:o.length<=40:=Nat.le_trans (Cf.nodup_len (b:=List.range y.l.length) hnd fun x hx=>List.mem_range.2 (hlt0 x hx)) (by simpa using h40)
 have hwl:(Bf.whole y.l outs).length<=100:=Bf.whole_len (by omega) hol
 have hwr:∀ p∈Bf.whole y.l outs,∃ x∈y.l,x.out=p:=fun p hp=>by
  unfold Bf.whole at hp;split at hp
  ·obtain⟨x,hx,e⟩:=List.mem_map.1 hp;exact⟨x,hx,e⟩
  ·exact hor p hp
 have hBW:B<=W.heap.size:=by have:=h.low;have:=h.lt;omega
 have gA:Below W.heap.size W (W.alloc (.cells #[.int .i64 0,.int .i64 0] 76)):=(Below.refl _ W).alloc (Nat.le_refl _) _;have rA:=Zhq W (.cells #[.int .i64 0,.int .i64 0] 76);have hya:=(h.retag 9).below gA;have HK9:Hid (∀ j,W.heap.size<=j->L.more W.heap.size 9 j=9):=hid1 fun j hj=>L.more_new hj
 have HKo:Hid (∀ j,j<W.heap.size->L.more W.heap.size 9 j=L.k j):=hid1 fun j hj=>L.more_old hj
 have HYa:=hid1 hya;have HRA:=hid1 rA;have HWr:=hid1 hwr;have HWl:=hid1 hwl;have HFs:=hid1 hfs;have HOs:=hid1 hos;have HSk:=hid1 hk;have HCf:=hid1 hc;have HOr:=hid1 (And.intro ho' hlt0);have hob:=h.o.lt;have HOb:Hid (L.ob<W.heap.size/\∀ j,L.ov.ownBlock=some j->j<W.heap.size):=hid1 ⟨hob,fun j e=>h.mapo e⟩
 obtain⟨pc,ecv⟩:=h.cp;obtain⟨pl,cl,elv,hcl,-⟩:=h.rrow;have HLv:=hid1 (And.intro elv ecv);have HSl:Hid (∀ j,L.SC j->j<W.heap.size):=hid1 fun j hj=>h.ca.lt j hj
 have HCR:Hid (∀ j,L.SC j->¬ L.R j):=hid1 fun j h1 h2=>by have h3:=h.kc j h1;rw[h.kr j h2]at h3;cases h3
 have HRo:Hid (∀ j,L.R j->j≠L.ob/\L.ov.ownBlock≠some j):=hid1 fun j h2=>⟨fun e=>(by have h3:=h.kr j h2;rw[e,h.ko]at h3;cases h3),fun e=>(by have h3:=h.kr j h2;rw[h.k2 j e]at h3;cases h3)⟩
 have HRl:Hid (∀ j,L.R j->j<W.heap.size):=hid1 h.rlt
 have HT9:Hid (∀ j,L.k j=9->j≠L.ob/\L.ov.ownBlock≠some j/\¬ L.SC j):=hid1 fun j h9=>⟨fun e=>(by rw[e,h.ko]at h9;cases h9),fun e=>(by rw[h.k2 j e]at h9;cases h9),fun e=>(by rw[h.kc j e]at h9;cases h9)⟩
 have HOv:=hid1 fun(V:World) (g:Below W.heap.size W V)=>hov.below g
 have HNil:=hid1 hnil;obtain⟨po,co,rfl,-⟩:=hov;clear hnil;have zol:(outs.length:Int)<=100:=by omega
 have hcase:(outs=[]/\Bf.whole y.l outs=y.l.map Ru.out)\/(outs≠[]/\Bf.whole y.l outs=outs):=by
  by_cases e:outs=[]
  ·exact .inl ⟨e,by unfold Bf.whole;rw[if_pos e]⟩
  ·exact .inr ⟨e,by unfold Bf.whole;rw[if_neg e]⟩
 have HMk:Hid (y.make outs={ y with os:=Bf.outW y.l (y.made outs).1 o y.os,c:=(y.made outs).2 }):=hid1 (by unfold Bf.Yd.make;rw[ho'];rfl)
 have HMd:Hid (y.made outs=Bf.all Af.actO y.c (Bf.init y.fs y.l (Bf.whole y.l outs))):=hid1 rfl;obtain⟨i0,hi,hz0,hz1,hz2⟩:=info_parts Tryz.infoStr;clear hya rA hor hwl hwr ho ho' hlt0 hnd hfs hos hk hc elv ecv h;generalize hWa:W.alloc (.cells #[.int .i64 0,.int .i64 0] 76)=Wa at *;have hza:Wa.heap.size=W.heap.size+1:=by rw[<- hWa];simp
 have hzW:W.heap.size<Wa.heap.size:=by omega
 clear hza;have HCase:=hid1 hcase;clear hcase;go_enter func44,ntmps44
 go_upto_if 15 with fail
 go_cut [1] (fun vo wc=>XRow wc vo (Bf.whole y.l outs)/\Below Wa.heap.size Wa wc)
 case first =>
  rcases HCase.out with ⟨rfl,hwh⟩ | ⟨hne,hwh⟩
  ·have hno:=HNil.out rfl;simp only[Value.slice.injEq]at hno;obtain⟨rfl,-,rfl⟩:=hno;clear HOv;go_wp2;go_loopw [1,6] (fun out iv wr=>∃ j:Nat,j<=y.l.length/\iv=.int .i64 j/\wr.ownsRow Wa.heap.size 9 1 out j (((y.l.take j).map Ru.out).map sv)/\Below Wa.heap.size Wa wr) (fun _ iv _=>y.l.length - (intOf iv).toNat)
   case atStart=>exact⟨0,Nat.zero_le _,rfl,World.ownsRow_nil _ _ _ _,Below.refl _ _⟩
   case round =>
    obtain⟨j,hj,rfl,hown,g1⟩:=hrel;have j0:(0:Int)<=(j:Int):=by omega
    have hY1:=HYa.out.below g1;have y2:=hY1.c2;simp only at y2;rw[HLv.out.1]at y2;by_cases hlt:j<y.l.length
    ·have j1:(j:Int)<(y.l.length:Int):=by omega
     have hrr:=hY1.rrow;simp only at hrr;rw[HLv.out.1]at hrr;obtain⟨p4,c4,e4,-,-,h4⟩:=hrr;simp only[Value.slice.injEq,true_and]at e4;obtain⟨rfl,rfl⟩:=e4;obtain⟨gr,orr,rfl,-,hru⟩:=h4 (by intro e;rw[e]at hlt;simp at hlt)
     have du:=(hru j hlt).1;have HTk:Hid (((y.l.take (j+1)).map Ru.out).map sv=((y.l.take j).map Ru.out).map sv++[.string (ba (y.l[j]).out)]):=hid1 (by rw[List.take_succ_eq_append_getElem hlt,List.map_append,List.map_append];rfl)
     have hml:j+1<=maxLen:=by unfold maxLen;omega
     have hzg:=g1.size;clear hru h4 hY1;generalize y.l[j]=rx at *
     go_wp2_with (at_builtin;refine wpList_append_lies _ rfl _ _ 52 rfl Wa.heap.size 9 i0 (.string ⟨#[]⟩) 1 16 underlying52 hi hz0 hz1 hz2 rfl (by decide) u1 j (((y.l.take j).map Ru.out).map sv) rfl (hown.alloc _) ⟨wr.heap.size,0,none⟩ 1 1 [.string (ba rx.out)] rfl rfl (cell_one_new _ _ _) (by simp[Value.oneCell']) (by decide) hml (by omega) (by simp;omega) _ rfl ?_;intro g5 cap5 w5 hown5 hgrow5 hlies5 hlt5)
     go_wp2;refine⟨⟨j+1,by omega,by go_num,by rw[HTk.out];exact hown5,?_⟩,by simp[intOf];omega⟩
     exact(g1.alloc hzg _).grown hgrow5 (by simp;omega) (Zbw hown)
    ·have hje:j=y.l.length:=by omega
     subst hje;rw[List.take_length]at hown;have HX0:Hid (XRow wr u1 (Bf.whole y.l [])):=hid1 (by rw[hwh];exact XRow.of_owns hown)
     obtain⟨p1,k1',e1'⟩:=Zwn hown;subst e1';clear hown;go_wp2;go_meet
     case rel=>exact⟨HX0.out,g1⟩
  ·have hne0:(outs.length==0)=false:=beq_false_of_ne fun e=>hne (List.length_eq_zero_iff.1 e)
   have hne1:((outs.length:Int)==0)=false:=beq_false_of_ne (fun e=>hne (List.length_eq_zero_iff.1 (by omega)))
   have HX0:Hid (XRow Wa (.slice po outs.length co) (Bf.whole y.l outs)):=hid1 (by rw[hwh];exact HOv.out Wa gA)
   go_wp2;go_meet
   case rel=>exact⟨HX0.out,Below.refl _ _⟩
 case rest =>
  obtain⟨hX1,g1⟩:=hcut;obtain⟨w1,hw1⟩:∃ w1,w1=wc:=⟨_,rfl⟩
  subst hw1;have hY1:=HYa.out.below g1;have y2:=hY1.c2;simp only at y2;rw[HLv.out.1]at y2;have hR1:=Zed HRA.out g1;have hX1':=hX1;obtain⟨p1,k1',e1',-⟩:=hX1';subst e1';have HX1:=hid1 hX1;have HY1:=hid1 hY1;have HR1:=hid1 hR1;have z1:=g1.size;have rr1:=hY1.rrow;simp only at rr1;rw[HLv.out.1]at rr1
  have HBf:=hid1 ((Zho (w:=w1) (.slice pl y.l.length cl) y.l rr1 (by omega) HSk.out.small (.slice p1 (Bf.whole y.l outs).length k1') (Bf.whole y.l outs) (HX1.out.irow) (by have:=HWl.out;omega)).mono (R':=fun e w'=>e=.returned (.agg #[.int .i64 0,.int .i64 (-1)])/\Below w1.heap.size w1 w') (by
   rintro e w' ⟨f,rfl,hN,g⟩;obtain rfl:=Zmx HSk.out HWr.out hN;exact⟨rfl,g⟩))
  clear hX1 hY1 hR1 rr1;go_wp2_with fail;refine HBf.out.mono ?_;rintro e w2 ⟨rfl,g2⟩;have z2:=g2.size;have gB:Below w2.heap.size w2 (w2.alloc (.cells #[.int .i64 0,.int .i64 (-1)] 76)):=(Below.refl _ w2).alloc (Nat.le_refl _) _;have rB:=Zhq w2 (.cells #[.int .i64 0,.int .i64 (-1)] 76);have HG2:=hid1 (Zac g2 gB);have HGA1:=hid1 (Zac gA g1)
  have zB:(w2.alloc (.cells #[.int .i64 0,.int .i64 (-1)] 76)).heap.size=w2.heap.size+1:=by simp
  have HRB:=hid1 rB;have e0:=Zab (j:=0) rB rfl;have e1:=Zab (j:=1) rB rfl;clear HBf g2 gB rB y2;generalize hwB:w2.alloc (.cells #[.int .i64 0,.int .i64 (-1)] 76)=wB at *;have zB':w2.heap.size<wB.heap.size:=by omega
  clear zB;have y3:=HY1.out.below HG2.out;have q0:=y3.c0;have q2:=y3.c2;have q3:=y3.c3;simp only at q0 q2 q3;rw[HLv.out.1]at q2;rw[HLv.out.2]at q3;have HY3:=hid1 y3;have hrr:=y3.rrow;simp only at hrr;rw[HLv.out.1]at hrr
  have HNb:=hid1 (Zkw (w:=wB.drew) (y3.t.below (Below.refl wB.heap.size wB).drew) (by have:=HFs.out.few;show y.fs.length<=1000;omega) pl cl y.l (hrr.below (Below.refl wB.heap.size wB).drew) (by omega) (fun x hx=>by have:=(HSk.out.small x hx).many;omega) (.slice p1 (Bf.whole y.l outs).length k1') (Bf.whole y.l outs) ((HX1.out.below HG2.out).below (Below.refl wB.heap.size wB).drew).irow (by have:=HWl.out;omega) (fun j hj=>HWr.out _ (List.getElem_mem hj)) (some pc))
  clear y3 hrr HX1;go_wp2;go_region_held3 (fun w'=>w'.cell? ⟨yb,0,none⟩=some (Ptr L.tb)/\w'.cell? ⟨yb,2,none⟩=some (.slice pl y.l.length cl)/\w'.cell? ⟨yb,3,none⟩=some (.pointer (some pc))) (first | go_keep | fail)
   (first
    | (go_at_call 75;refine HNb.out.mono ?_;rintro e w3 ⟨mb,tb',tv',gs,go,gh,gw,rfl,hM⟩;(have g3:=hM.on);(have r0:=Zaa (show wB.drew.cell? _=_ from q0) g3);(have r2:=Zaa (show wB.drew.cell? _=_ from q2) g3);(have r3:=Zaa (show wB.drew.cell? _=_ from q3) g3))
    | fail)
  all_goals
   have g3':Below wB.heap.size wB w3:=Zac (Below.refl wB.heap.size wB).drew g3;have z3:=g3'.size;have hge:∀ j,MBlk mb tb' tv' gs go gh gw j->wB.heap.size<=j:=hM.geW
   have y4:=HY3.out.below g3';have hM':MB ⟨wB.drew,fun j=>¬ L.R j⟩ w3 mb tb' tv' (.slice pl y.l.length cl) (.pointer (some pc)) gs go gh gw (Bf.init y.fs y.l (Bf.whole y.l outs)):=hM.loose fun V hO=>by
    have:=HY3.out.rows V hO.size fun j hj=>hO.block j (by have h5:=HRl.out j hj;show j<wB.heap.size;omega) fun hn=>hn hj
    simp only at this;rw[HLv.out.1]at this;exact this
   have hca:=y4.ca;simp only at hca;rw[HLv.out.2]at hca;have HAp:=(Ru.fault_ok HSk.out.fine).2
   have HAl:=hid1 (Zsy hM' ⟨h40,HSk.out.small,HAp,HFs.out.rises,by have:=HFs.out.few;show y.fs.length<=1000;omega,Bf.init_fit fun f hf=>(HFs.out.each f hf).2⟩ (act:=Af.actO) (fun W nm wd v ls hr hl hx=>Zjx nm wd hl v ls hr hx) actFit HCf.out hca (fun j h1 h2=>by have h3:=hge j h1;have h4:=HSl.out j h2;omega) (fun j hj=>.inl (HCR.out j hj)))
   rw[<- HMd.out]at HAl;have HGe:=hid1 hge;have HG3:=hid1 g3';have HFit:=hid1 (Bf.allF_keeps actFit ((Bf.init y.fs y.l (Bf.whole y.l outs)).waits+1) y.c (Bf.init y.fs y.l (Bf.whole y.l outs)) (Bf.init_fit fun f hf=>(HFs.out.each f hf).2) HCf.out)
   have HMdd:Hid (Bf.allF Af.actO ((Bf.init y.fs y.l (Bf.whole y.l outs)).waits+1) y.c (Bf.init y.fs y.l (Bf.whole y.l outs))=y.made outs):=hid1 HMd.out.symm;rw[HMdd.out]at HFit;clear hM hM' hca HAp hge y4 g3 r0 r2 r3 q0 q2 q3 HNb HCf HFs g3' HMdd;generalize hmd:y.made outs=md at *;obtain⟨d,c'⟩:=md;simp only at HAl HFit HMk;clear hmd HMd;go_wp2_with fail;refine HAl.out.mono ?_
   rintro e w4 ⟨⟨u4,rfl⟩,hM4,hO4,T',hC4,hT4⟩;have z4:=hO4.size;have hdl:d.l=y.l:=HFit.out.1
   have y5:=HY3.out.cached (c:=c') (SC:=T') (by simp only;rw[HLv.out.2];exact hC4) (by omega) (fun j hj hn=>(hO4.block j (by omega) (fun e=>e.elim (fun e=>by have h3:=HGe.out j e;omega) hn)).trans (HG3.out.block j hj)) (fun j hj=>(hT4 j hj).imp_right fun h=>by omega) (fun j hj=>by have h4:=HSl.out j hj;omega)
   have B4:Below B wB w4:=(HG3.out.mono (by omega)).trans (hO4.below (fun j hj=>by
    rcases hj with h5 | h5
    ·have h3:=HGe.out j h5;omega
    ·exact HY3.out.lowC j h5) (by omega))
   have HR4:=hid1 fun(j:Nat) (hj:j<wB.heap.size) (hn:¬ L.SC j)=>(hO4.block j (by omega) (fun e=>e.elim (fun e=>by have:=HGe.out j e;omega) hn)).trans (HG3.out.block j hj)
   have q2:=y5.c2;simp only at q2;rw[HLv.out.1]at q2;have HY5:=hid1 y5;have HM4:=hid1 hM4;have HB4:=hid1 B4;have hrr:=y5.rrow;simp only at hrr;rw[HLv.out.1]at hrr;have HAo:=hid1 (Zug y.l.length (by omega) w4.drew)
   have HOo:=hid1 fun(V:World) (g:Below w4.heap.size w4 V) (ga:Nat) (hga:∀ j,j<y.l.length->V.cell? ⟨ga,j,none⟩=some (.bool true))=>(Zge (w:=V) (.slice pl y.l.length cl) y.l (hrr.below g) (by omega) (fun x hx=>by have:=(HSk.out.small x hx).many;omega) ga y.l.length (fun _=>true) hga).mono (R':=fun e w'=>∃ p c,e=.returned (.tuple #[.slice p o.length c,.bool true])/\Below V.heap.size V w'/\NRow w' (.slice p o.length c) o) (by
    rintro e w' ⟨u,b,rfl,g,⟨_,_,hn⟩ | ⟨o2,rfl,ho2,hN,_,_⟩⟩
    ·rw[HOr.out.1]at hn;cases hn
    ·rw[HOr.out.1]at ho2;obtain rfl:=Option.some.inj ho2;obtain⟨p,c,e,hin⟩:=hN;subst e;exact⟨p,c,rfl,g,⟨p,c,rfl,hin⟩⟩)
   clear HAl hO4 hC4 hT4 hM4 y5 B4 hrr;go_wp2;go_region_held3 (fun w'=>w'.cell? ⟨yb,2,none⟩=some (.slice pl y.l.length cl)) (first | go_keep | fail)
    (first
     | (go_at_call 78;refine HAo.out.mono ?_;rintro e w5 ⟨ga,rfl,hOwn,g5⟩;(have g45:=Zac (Below.refl w4.heap.size w4).drew g5);(have r2:=Zaa q2 g45);(have HCo:=hid1 (HOo.out w5 g45 ga (fun j hj=>hOwn.cell hj)));clear hOwn)
     | (go_at_call 77;refine HCo.out.mono ?_;rintro e w6 ⟨pq,cq,rfl,g6,hNr⟩;(have g46:=Zac g45 g6);(have s2:=Zaa r2 g6))
     | fail)
   all_goals
    have z6:=g46.size;have HNr:=hid1 hNr;obtain⟨L5,hL5⟩:∃ L5:NL,L5={ L with SC:=T',k:=NL.more { L with k:=L.more W.heap.size 9 } wB.heap.size 3 }:=⟨_,rfl⟩
    have y5:NdAt B w4 yb L5 { y with c:=c' }:=by rw[hL5];exact HY5.out
    have HE5:Hid (L5.tb=L.tb/\L5.ob=L.ob/\L5.ov=L.ov/\L5.lv=.slice pl y.l.length cl/\L5.cv=.pointer (some pc)/\∀ j,j<wB.heap.size->L5.k j=L.more W.heap.size 9 j):=hid1 (by
     rw[hL5];exact⟨rfl,rfl,rfl,HLv.out.1,HLv.out.2,fun j hj=>NL.more_old _ hj⟩)
    clear hL5 HY5 hNr;have HL6:Hid (NLays B ⟨wB.drew,fun j=>¬ L.R j⟩ w6 yb L5 { y with c:=c' } mb tb' tv' gs go gh gw d y.os L5 w6):=hid1 ⟨y5.below g46,by rw[HE5.out.2.2.2.1,HE5.out.2.2.2.2.1];exact HM4.out.below g46,fun j hj=>by
     rw[HE5.out.2.1,HE5.out.2.2.1];have h5:=HGe.out j hj;have h6:=HOb.out.1;exact⟨by omega,fun e=>by have:=HOb.out.2 j e;omega⟩,Below.refl _ _,Nat.le_refl _,fun _ _ _ _=>rfl,fun j e=>.inl e,rfl,rfl,rfl,rfl,fun _ _=>rfl⟩
    have HG46:=hid1 g46;clear y5 HM4 HOo HCo HAo g5 g45 g46 g6 q2 r2 s2;go_wp2;go_loopw [11] (fun iv wr=>∃(k:Nat) (L':NL),k<=o.length/\iv=.int .i64 k/\NLays B ⟨wB.drew,fun j=>¬ L.R j⟩ w6 yb L5 { y with c:=c' } mb tb' tv' gs go gh gw d (Bf.outW y.l d (o.take k) y.os) L' wr) (fun iv _=>o.length - (intOf iv).toNat)
    case atStart=>exact⟨0,L5,Nat.zero_le _,rfl,HL6.out⟩
    case round =>
     obtain⟨k,L',hk,rfl,hL⟩:=hrel;have HL:=hid1 hL;have k0:(0:Int)<=(k:Int):=by omega
     by_cases hlt:k<o.length
     ·have k1:(k:Int)<(o.length:Int):=by omega
      obtain⟨p3,c3,e3,-,h3⟩:=HNr.out;simp only[Value.slice.injEq,true_and]at e3;obtain⟨rfl,rfl⟩:=e3;obtain⟨gq,cur,rfl,hgq,hcur⟩:=h3 (by intro e;rw[e]at hlt;simp at hlt)
      have hgl:gq<w6.heap.size:=(Array.getElem?_eq_some_iff.1 hgq).1;have hq1:gq≠L5.ob:=fun e=>by
       have h5:=HL6.out.yard.o.cell;have h6:=Zab (j:=0) hgq (hcur 0 (by omega))
       rw[<- e,h6]at h5;have h7:=HL6.out.yard.o.row;rw[<- Option.some.inj h5]at h7;rcases h7.2 with ⟨h8,_⟩ | ⟨_,_,_,h8,_⟩ <;> cases h8
      have hq2:L5.ov.ownBlock≠some gq:=fun e=>by
       rcases HL6.out.yard.o.row.2 with ⟨h8,_⟩ | ⟨g,c,cu,h8,_,h9,_⟩
       ·rw[h8]at e;cases e
       ·rw[h8]at e;cases e
        rw[hgq]at h9;simp at h9
      have dq:=Zab (j:=k) ((hL.rest gq hgl hq1 hq2).trans hgq) (hcur k hlt);have hil:=HOr.out.2 _ (List.getElem_mem hlt);have HTk:Hid (o.take (k+1)=o.take k++[o[k]]):=hid1 (List.take_succ_eq_append_getElem hlt);clear h3 hcur hgq;generalize o[k]=i at *;have i0':(0:Int)<=(i:Int):=by omega
      have i1:(i:Int)<(y.l.length:Int):=by omega
      have c2:=hL.build.c2;have cs:=(hL.build.rs.2 i (by rw[hdl];exact hil)).1
      have c3:=hL.build.c3;have cc:=(hL.build.ro.2 i (by rw[hdl];exact hil)).1
      rw[hdl]at c2 c3;have y1:=hL.yard.c1;have y2:=hL.yard.c2;rw[hL.ob,HE5.out.2.1]at y1;rw[hL.lv,HE5.out.2.2.2.1]at y2;have hrr:=hL.yard.rrow;rw[hL.lv,HE5.out.2.2.2.1]at hrr;obtain⟨p4,c4,e4,-,-,h4⟩:=hrr;simp only[Value.slice.injEq,true_and]at e4;obtain⟨rfl,rfl⟩:=e4;obtain⟨gr,orr,rfl,-,hru⟩:=h4 (by intro e;have e':y.l=[]:=e;rw[e']at hil;simp at hil)
      have du:=(hru i hil).1;have hul:(y.l[i]).out.length<=1000000:=by have:=(HSk.out.small _ (List.getElem_mem hil)).out;omega
      have hwo:Tf.Well pathB (Bf.outW y.l d (o.take k) y.os):=Bf.outW_well _ HOs.out;have HNx:Hid (Bf.outW y.l d (o.take k++[i]) y.os=Bf.outS y.l d (Bf.outW y.l d (o.take k) y.os) i):=hid1 (Bf.outW_snoc _ _ _ _ _);have HGd:Hid (y.l.getD i ⟨[],[],[],[]⟩=y.l[i]):=hid1 (by rw[List.getD_eq_getElem?_getD,List.getElem?_eq_getElem hil];rfl)
      have hR0:∀ j,j<wB.drew.heap.size->¬ ¬ L.R j->j≠L5.ob/\L5.ov.ownBlock≠some j:=fun j _ hn=>by rw[HE5.out.2.1,HE5.out.2.2.1];exact HRo.out j (Classical.byContradiction hn)
      have hn0:wB.drew.heap.size<=w6.heap.size:=by show wB.heap.size<=_;omega
      have HWro:=hid1 fun(w7:World) (os':Tf.Fs) (v7:Value) (hon:RowON wr.drew L'.ov v7) (hT:RTreeAt B w7 L'.ob os' v7) (hB:Below B wr.drew w7) (hK:Kept (mS L'.ob L'.ov) wr.drew w7)=>(HL.out.below (Below.refl wr.heap.size wr).drew).wrote hn0 hR0 hon hT hB hK
      have HNext:Hid (∀(w7:World) (L7:NL) (os':Tf.Fs),Bf.outS y.l d (Bf.outW y.l d (o.take k) y.os) i=os'->NLays B ⟨wB.drew,fun j=>¬ L.R j⟩ w6 yb L5 { y with c:=c' } mb tb' tv' gs go gh gw d os' L7 w7->(∃(k2:Nat) (L':NL),k2<=o.length/\Value.int .i64 ((k:Int)+1)=Value.int .i64 (k2:Nat)/\NLays B ⟨wB.drew,fun j=>¬ L.R j⟩ w6 yb L5 { y with c:=c' } mb tb' tv' gs go gh gw d (Bf.outW y.l d (o.take k2) y.os) L' w7)/\o.length - (intOf (Value.int .i64 ((k:Int)+1))).toNat<o.length - (intOf (Value.int .i64 (k:Int))).toNat):=hid1 fun w7 L7 os' e hh=>by
       refine⟨⟨k+1,L7,by omega,by go_num,?_⟩,by simp[intOf];omega⟩
       rw[HTk.out,HNx.out,e];exact hh
      have HTo:=hid1 (HL.out.yard.o.below (Below.refl wr.heap.size wr).drew);have HPt:=hid1 fun(b:List UInt8)=>Zik (w:=wr.drew) HTo.out hwo (y.l[i]).out b hul
      have HRm:=hid1 (Zfo (w:=wr.drew) HTo.out hwo (y.l[i]).out);have HFar:Hid (∀(w7:World) (a:Nat) (u:Value) (b:Nat),(b=yb\/b=mb\/b=go)->Kept (mS L.ob L'.ov) wr.drew w7->wr.cell? ⟨b,a,none⟩=some u->w7.cell? ⟨b,a,none⟩=some u):=hid1 fun w7 a u b hb hK hu=>by
       have hOb:L'.ob=L.ob:=HL.out.ob.trans HE5.out.2.1;have hf:¬ mS L.ob L'.ov b:=fun hS=>by
        have hk2:L'.k b=2:=by
         rcases hS with e | e
         ·rw[e,<- hOb];exact HL.out.yard.ko
         ·exact HL.out.yard.k2 b e
        rcases hb with rfl | rfl | rfl
        ·rw[HL.out.yard.ky]at hk2;cases hk2
        ·have h5:=HL.out.apart b (.inl rfl);rcases hS with e | e
         ·exact h5.1 (e.trans hOb.symm)
         ·exact h5.2 e
        ·have h5:=HL.out.apart b (.inr (.inr (.inr (.inr (.inl rfl)))));rcases hS with e | e
         ·exact h5.1 (e.trans hOb.symm)
         ·exact h5.2 e
       exact(World.cell?_of_block (a:=⟨b,a,none⟩) (hK.block b (Zaj hu) hf)).trans hu
      have HOB:Hid (L'.ob=L.ob):=hid1 (hL.ob.trans HE5.out.2.1);rw[HOB.out]at HPt HRm HWro;have HRu:Hid (∀(w7:World) (L7:NL) (os':Tf.Fs),NLays B ⟨wB.drew,fun j=>¬ L.R j⟩ w6 yb L5 { y with c:=c' } mb tb' tv' gs go gh gw d os' L7 w7->w7.cell? ⟨gr,orr+i*4,none⟩=some (.string (ba (y.l[i]).out))):=hid1 fun w7 L7 os' hh=>by
       have hr:=hh.yard.rrow;rw[hh.lv,HE5.out.2.2.2.1]at hr;obtain⟨p5,c5,e5,-,-,h5⟩:=hr;simp only[Value.slice.injEq,true_and]at e5;obtain⟨rfl,rfl⟩:=e5;obtain⟨g5,o5,e6,-,h6⟩:=h5 (by intro e;have e':y.l=[]:=e;rw[e']at hil;simp at hil)
       cases e6
       exact(h6 i hil).1
      clear hL hru h4 hwo HTk HNr;generalize hy:y.l[i]=rx at *;cases hs:d.st i with
      | no =>
       have cs':wr.cell? ⟨gs,i,none⟩=some (.string ⟨#[]⟩):=by have h5:=cs;unfold nameV at h5;rw[hs]at h5;exact h5
       have hos:Bf.outS y.l d (Bf.outW y.l d (o.take k) y.os) i=Bf.outW y.l d (o.take k) y.os:=by unfold Bf.outS;rw[hs]
       have HEnd:=hid1 (HNext.out wr L' _ hos HL.out);clear cs cc HNext hs HPt HRm HWro hos;go_wp2;exact HEnd.out
      | waits =>
       have cs':wr.cell? ⟨gs,i,none⟩=some (.string ⟨#[119,97,105,116,115]⟩):=by have h5:=cs;unfold nameV at h5;rw[hs]at h5;exact h5
       have hos:Bf.outS y.l d (Bf.outW y.l d (o.take k) y.os) i=Bf.outW y.l d (o.take k) y.os:=by unfold Bf.outS;rw[hs]
       have HEnd:=hid1 (HNext.out wr L' _ hos HL.out);clear cs cc HNext hs HPt HRm HWro hos;go_wp2;exact HEnd.out
      | done s b =>
       have cs':wr.cell? ⟨gs,i,none⟩=some (.string ⟨#[100,111,110,101]⟩):=by have h5:=cs;unfold nameV at h5;rw[hs]at h5;exact h5
       have cc':wr.cell? ⟨go,i,none⟩=some (.string (ba s)):=by have h5:=cc;unfold outV at h5;rw[hs]at h5;exact h5
       have hos:Bf.outS y.l d (Bf.outW y.l d (o.take k) y.os) i=Tf.putF pathB (Bf.outW y.l d (o.take k) y.os) rx.out s:=by unfold Bf.outS;rw[hs];simp only;rw[HGd.out]
       have HP1:=hid1 (HPt.out s)
       have HKp:Hid (∀ w7,Kept (mS L.ob L'.ov) wr.drew w7->w7.cell? ⟨yb,1,none⟩=some (Ptr L.ob)/\w7.cell? ⟨yb,2,none⟩=some (.slice (some ⟨gr,orr,none⟩) y.l.length cl)/\w7.cell? ⟨mb,3,none⟩=some (.slice (some ⟨go,0,none⟩) y.l.length y.l.length)/\w7.cell? ⟨go,i,none⟩=some (.string (ba s))):=hid1 fun w7 hK=>⟨HFar.out _ _ _ yb (.inl rfl) hK y1,HFar.out _ _ _ yb (.inl rfl) hK y2,HFar.out _ _ _ mb (.inr (.inl rfl)) hK c3,HFar.out _ _ _ go (.inr (.inr rfl)) hK cc'⟩
       have HHos:=hid1 hos;clear cs cc hs HPt HRm hos;go_wp2
       go_region_held3 (fun w'=>w'.cell? ⟨yb,1,none⟩=some (Ptr L.ob)/\w'.cell? ⟨yb,2,none⟩=some (.slice (some ⟨gr,orr,none⟩) y.l.length cl)/\w'.cell? ⟨gr,orr+i*4,none⟩=some (.string (ba rx.out))/\w'.cell? ⟨mb,3,none⟩=some (.slice (some ⟨go,0,none⟩) y.l.length y.l.length)/\w'.cell? ⟨go,i,none⟩=some (.string (ba s))) (first | go_keep | fail)
        (first | (go_at_call 43;refine HP1.out.mono ?_;rintro e w7 ⟨rfl,⟨v7,hon7,hT7⟩,hB7,hK7⟩;(have kk:=HKp.out w7 hK7);(have HN7:=hid1 (HWro.out w7 _ v7 hon7 hT7 hB7 hK7));(have e1:=kk.1);(have e2:=kk.2.1);(have e3:=HRu.out w7 _ _ HN7.out);(have e4:=kk.2.2.1);(have e5:=kk.2.2.2);clear kk hon7 hT7 hB7 hK7) | fail)
       all_goals
        have HEnd:=hid1 (HNext.out w7 _ _ HHos.out HN7.out);clear HN7 HP1 HNext HWro;go_wp2;exact HEnd.out
      | failed c =>
       have cs':wr.cell? ⟨gs,i,none⟩=some (.string ⟨#[102,97,105,108,101,100]⟩):=by have h5:=cs;unfold nameV at h5;rw[hs]at h5;exact h5
       have hos:Bf.outS y.l d (Bf.outW y.l d (o.take k) y.os) i=Tf.del (Bf.outW y.l d (o.take k) y.os) rx.out:=by unfold Bf.outS;rw[hs];simp only;rw[HGd.out]
       have HHos:=hid1 hos;have HKp:Hid (∀ w7,Kept (mS L.ob L'.ov) wr.drew w7->w7.cell? ⟨yb,1,none⟩=some (Ptr L.ob)/\w7.cell? ⟨yb,2,none⟩=some (.slice (some ⟨gr,orr,none⟩) y.l.length cl)):=hid1 fun w7 hK=>⟨HFar.out _ _ _ yb (.inl rfl) hK y1,HFar.out _ _ _ yb (.inl rfl) hK y2⟩
       obtain⟨cd,hcd⟩:∃ cd:Nat,(if Tf.hasP (Bf.outW y.l d (o.take k) y.os) rx.out then 0 else 6:Nat)=cd:=⟨_,rfl⟩
       have HR1:=HRm;rw[hcd]at HR1;clear hcd;clear cs cc hs HPt hos HRm;go_wp2;go_region_held3 (fun w'=>w'.cell? ⟨yb,1,none⟩=some (Ptr L.ob)/\w'.cell? ⟨yb,2,none⟩=some (.slice (some ⟨gr,orr,none⟩) y.l.length cl)/\w'.cell? ⟨gr,orr+i*4,none⟩=some (.string (ba rx.out))) (first | go_keep | fail)
        (first | (go_at_call 42;refine HR1.out.mono ?_;rintro e w7 ⟨rfl,⟨v7,hon7,hT7⟩,hB7,hK7⟩;(have kk:=HKp.out w7 hK7);(have HN7:=hid1 (HWro.out w7 _ v7 hon7 hT7 hB7 hK7));(have e1:=kk.1);(have e2:=kk.2);(have e3:=HRu.out w7 _ _ HN7.out);clear kk hon7 hT7 hB7 hK7) | fail)
       all_goals
        have HEnd:=hid1 (HNext.out w7 _ _ HHos.out HN7.out);clear HN7 HR1 HNext HWro;go_wp2;exact HEnd.out
      | left =>
       have cs':wr.cell? ⟨gs,i,none⟩=some (.string ⟨#[108,101,102,116]⟩):=by have h5:=cs;unfold nameV at h5;rw[hs]at h5;exact h5
       have hos:Bf.outS y.l d (Bf.outW y.l d (o.take k) y.os) i=Tf.del (Bf.outW y.l d (o.take k) y.os) rx.out:=by unfold Bf.outS;rw[hs];simp only;rw[HGd.out]
       have HHos:=hid1 hos;have HKp:Hid (∀ w7,Kept (mS L.ob L'.ov) wr.drew w7->w7.cell? ⟨yb,1,none⟩=some (Ptr L.ob)/\w7.cell? ⟨yb,2,none⟩=some (.slice (some ⟨gr,orr,none⟩) y.l.length cl)):=hid1 fun w7 hK=>⟨HFar.out _ _ _ yb (.inl rfl) hK y1,HFar.out _ _ _ yb (.inl rfl) hK y2⟩
       obtain⟨cd,hcd⟩:∃ cd:Nat,(if Tf.hasP (Bf.outW y.l d (o.take k) y.os) rx.out then 0 else 6:Nat)=cd:=⟨_,rfl⟩
       have HR1:=HRm;rw[hcd]at HR1;clear hcd;clear cs cc hs HPt hos HRm;go_wp2;go_region_held3 (fun w'=>w'.cell? ⟨yb,1,none⟩=some (Ptr L.ob)/\w'.cell? ⟨yb,2,none⟩=some (.slice (some ⟨gr,orr,none⟩) y.l.length cl)/\w'.cell? ⟨gr,orr+i*4,none⟩=some (.string (ba rx.out))) (first | go_keep | fail)
        (first | (go_at_call 42;refine HR1.out.mono ?_;rintro e w7 ⟨rfl,⟨v7,hon7,hT7⟩,hB7,hK7⟩;(have kk:=HKp.out w7 hK7);(have HN7:=hid1 (HWro.out w7 _ v7 hon7 hT7 hB7 hK7));(have e1:=kk.1);(have e2:=kk.2);(have e3:=HRu.out w7 _ _ HN7.out);clear kk hon7 hT7 hB7 hK7) | fail)
       all_goals
        have HEnd:=hid1 (HNext.out w7 _ _ HHos.out HN7.out);clear HN7 HR1 HNext HWro;go_wp2;exact HEnd.out
     ·have hke:k=o.length:=by omega
      have hL2:NLays B ⟨wB.drew,fun j=>¬ L.R j⟩ w6 yb L5 { y with c:=c' } mb tb' tv' gs go gh gw d (Bf.outW y.l d o y.os) L' wr:=by
       have:=HL.out;rw[hke,List.take_length]at this;exact this
      have HL2:=hid1 hL2;have hfar:∀ j (ob:Obj),W.heap.size<=j->wB.heap[j]? =some ob->wr.heap[j]? =some ob:=fun j ob hj hb=>by
       have hjl:=(Array.getElem?_eq_some_iff.1 hb).1;refine(hL2.rest j (by omega) ?_ ?_).trans ((HG46.out.block j (by omega)).trans ((HR4.out j hjl fun e=>by have:=HSl.out j e;omega).trans hb))
       ·rw[HE5.out.2.1];have:=HOb.out.1;omega
       ·rw[HE5.out.2.2.1];exact fun e=>by have:=HOb.out.2 j e;omega
      have rt:=hfar w2.heap.size _ (by omega) HRB.out
      have rs:=hfar W.heap.size _ (Nat.le_refl _) (Zed HR1.out HG2.out);have b0:=Zab (j:=0) rt rfl;have b1:=Zab (j:=1) rt rfl;have HRs:=hid1 rs;have hwr:W.heap.size<wr.heap.size:=(Array.getElem?_eq_some_iff.1 rs).1
      have HMn:=hid1 fun(V:World) (g:Below wr.heap.size wr V) (nm:List UInt8) (hit:Bool)=>Zpv (hL2.build.below g) (by rw[hdl];omega) nm hit
      have HGW:Hid (Below B W wr):=hid1 ((HGA1.out.mono hBW).trans (((HG2.out.mono (by omega)).trans HB4.out).trans ((HG46.out.mono (by omega)).trans hL2.base)))
      have HSt:Hid (∀ V:World,Below wr.heap.size wr V->NStep W V L L'):=hid1 fun V g=>⟨by have:=g.size;omega,fun j hj h9=>by
       obtain⟨t1,t2,t3⟩:=HT9.out j h9;refine(g.block j (by omega)).trans ((HL2.out.rest j (by omega) ?_ ?_).trans ((HG46.out.block j (by omega)).trans ((HR4.out j (by omega) t3).trans ((HG2.out.block j (by omega)).trans (HGA1.out.block j hj)))))
       ·rw[HE5.out.2.1];exact t1
       ·rw[HE5.out.2.2.1];exact t2,fun j hj=>by rw[HL2.out.kk j (by omega),HE5.out.2.2.2.2.2 j (by omega)];exact HKo.out j hj,HL2.out.tb.trans HE5.out.1⟩
      have HK:Hid (L'.k W.heap.size=9):=hid1 (by rw[HL2.out.kk _ (by omega),HE5.out.2.2.2.2.2 _ (by omega)];exact HK9.out _ (Nat.le_refl _))
      have hne1:¬ W.heap.size=w2.heap.size:=by omega
      have hne2:¬ w2.heap.size=W.heap.size:=by omega
      have hw2r:w2.heap.size<wr.heap.size:=(Array.getElem?_eq_some_iff.1 rt).1;clear hL hL2 HL rt rs hfar HL6 HNr HOr HOs HG46 HR4 HGe HOb HSl HRo HRl HCR HE5 HRB HR1;go_wp2
      go_region_held3 (fun w'=>w'.cell? ⟨w2.heap.size,0,none⟩=some (.int .i64 0)/\w'.cell? ⟨w2.heap.size,1,none⟩=some (.int .i64 (-1))) (first | go_keep | (refine Lib.cell?_alloc_some _ ?_;rw[World.cell?_setCell_other _ _ _ _ (by simp[hne1,hne2]),World.cell?_setCell_other _ _ _ _ (by simp[hne1,hne2])];assumption) | fail)
       (first
        | (go_at_call 79;refine(HMn.out w10 G10 [108,101,102,116] false).mono ?_;rintro e w11 ⟨rfl,g11⟩;(have G11:=Zac G10 g11);(have a6:=Zaa b0 G11);(have a7:=Zaa b1 G11);(have r11:=Zed HRs.out G11);(have f0:=frozen_of_row w11 _ 0 _ _ r11);(have f1:=frozen_of_row w11 _ 1 _ _ r11);(have x0:=Zab (j:=0) r11 rfl);(have x1:=Zab (j:=1) r11 rfl);(have hl11:=(Array.getElem?_eq_some_iff.1 r11).1);(have hl12:w2.heap.size<w11.heap.size:=Nat.lt_of_lt_of_le hw2r G11.size);clear r11)
        | (go_at_call 79;refine(HMn.out w9 G9 [102,97,105,108,101,100] false).mono ?_;rintro e w10 ⟨rfl,g10⟩;(have G10:=Zac G9 g10);(have a4:=Zaa b0 G10);(have a5:=Zaa b1 G10))
        | (go_at_call 79;refine(HMn.out w8 G8 [100,111,110,101] true).mono ?_;rintro e w9 ⟨rfl,g9⟩;(have G9:=Zac G8 g9);(have a2:=Zaa b0 G9);(have a3:=Zaa b1 G9))
        | (go_at_call 79;refine(HMn.out wr.drew (Below.refl wr.heap.size wr).drew [100,111,110,101] false).mono ?_;rintro e w8 ⟨rfl,g8⟩;(have G8:=Zac (Below.refl wr.heap.size wr).drew g8);(have a0:=Zaa b0 G8);(have a1:=Zaa b1 G8))
        | fail)
      all_goals
       have r11:=Zed HRs.out G11;have k0:=Zbk r11 (.int .i64 0) (.int .i64 (-1));have yW:NdAt B w11 yb L' (y.make outs):=by
        have:=HL2.out.yard.below G11;rw[HMk.out];exact this
       have yX:=yW.aside (((Kept.refl (fun j=>L'.k j=9) w11).setCell (p:=⟨W.heap.size,0,none⟩) HK.out (.int .i64 0)).setCell (p:=⟨W.heap.size,1,none⟩) HK.out (.int .i64 (-1)))
       have HEnd:=hid1 fun(ob:Obj)=>And.intro ((((HGW.out.trans (G11.mono (by omega))).setCell (p:=⟨W.heap.size,0,none⟩) hBW (.int .i64 0)).setCell (p:=⟨W.heap.size,1,none⟩) hBW (.int .i64 (-1))).alloc (by rw[Zah,Zah];omega) ob) (And.intro (Zze (HSt.out w11 G11) hl11 (.int .i64 0) (.int .i64 (-1)) ob) (yX.below ((Below.refl _ _).alloc (o:=ob) (Nat.le_refl _))))
       have K0:=hid1 fun(ob:Obj)=>And.intro (Lib.cell?_alloc_some ob k0.1) (Lib.cell?_alloc_some ob k0.2)
       clear yW yX r11 k0 HMn HL2 HSt HGW HMk;go_wp2;refine bodyPost_ret (v:=.tuple #[.slice (some ⟨w11.heap.size,0,none⟩) 4 4,.agg #[.int .i64 0,.int .i64 (-1)]]) ?_ rfl ⟨_,_,_,rfl,(HEnd.out _).1,L',(HEnd.out _).2.1,(HEnd.out _).2.2⟩
       have k1:=(K0.out (.cells #[.int .i64 ↑(Bf.many d.st (fun s=>s.name==[100,111,110,101]&& !s.hit) y.l.length),.int .i64 ↑(Bf.many d.st (fun s=>s.name==[100,111,110,101]&&s.hit) y.l.length),.int .i64 ↑(Bf.many d.st (fun s=>s.name==[102,97,105,108,101,100]&& !s.hit) y.l.length),.int .i64 ↑(Bf.many d.st (fun s=>s.name==[108,101,102,116]&& !s.hit) y.l.length)] 3)).1
       have k2:=(K0.out (.cells #[.int .i64 ↑(Bf.many d.st (fun s=>s.name==[100,111,110,101]&& !s.hit) y.l.length),.int .i64 ↑(Bf.many d.st (fun s=>s.name==[100,111,110,101]&&s.hit) y.l.length),.int .i64 ↑(Bf.many d.st (fun s=>s.name==[102,97,105,108,101,100]&& !s.hit) y.l.length),.int .i64 ↑(Bf.many d.st (fun s=>s.name==[108,101,102,116]&& !s.hit) y.l.length)] 3)).2
       simp[results,f44,go_sem,k1,k2]
