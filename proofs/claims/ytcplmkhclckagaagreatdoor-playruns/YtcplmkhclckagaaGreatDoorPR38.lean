import Derived.Test.YtcplmkhclckagaaGreatDoorPR37
import Derived.Deep.DeepCutAuto
set_option maxRecDepth 100000
set_option maxHeartbeats 16000000
open Go.Proofs.Tryz
namespace Go.Proofs.YtcplmkhclckagaaGreatDoor
open Go.RowKit Go.Shelf Go.Lib Bf
variable {es:Nat->Addr} {At:(Nat->Prop)->World->Value->Nat->Cf.Ens->Prop} {BAt:(Nat->Prop)->World->Value->Value->Bf.Bd->Prop}
theorem Zsd{B:Nat}{w:World}{tb:Nat}{fs:Tf.Fs}{o:Option Nat}{er:Nat->Value}(h:TreeAt B w tb fs o)(hE:TErr w er)(p:List UInt8)(hp:p.length<=1000000):
  Calls prog 70 #[Ptr tb,.string (ba p)] w fun e w'=>(∃ v,e=.returned v)/\(∃ o',OldNew w o o'/\TreeAt B w' tb (Tf.del fs p) o')/\Below B w w'/\Kept (tS tb o) w w' :=
 (Zgd h hE p hp).mono fun _ _ ⟨h1,h2⟩=>⟨⟨_,h1⟩,h2⟩
theorem Zof(HC:Zao es At)(HB:Builds es Af.actO At BAt){B:Nat}{W:World}{yb:Nat}{L:YL}{y:Bf.Yd}(h:YdAt At B W yb L y)(hY:YBase B W es)(hok:SheetOk y.l){S:Nat->Prop}{bp:Addr}{cv:Value}{d:Bf.Bd}(hb:BAt S W (.pointer (some bp)) cv d)(hdl:d.l=y.l)(hSo:∀ j,S j->j≠L.ob/\L.o2≠some j):
  Calls prog 147 #[Ptr yb,.pointer (some bp)] W fun e w'=>e=.returned (.tuple #[])/\∃ L',Lays At BAt B W W yb L y S bp cv d (Bf.sweepW y.l d y.l.length y.os) L' w':=by
 have h40:=hok.len;have HL1:=hid1 (Lays.first HC HB h hb hSo (Below.refl _ W));have HYb:=hid1 hY;have HCs:=hid1 HC;have HBs:=hid1 HB;have HSm:Hid (∀ i (hi:i<y.l.length),y.l[i].out.length<=100):=hid1 fun i hi=>(hok.small _ (List.getElem_mem hi)).out
 have HDl:=hid1 hdl;have c2:=h.c2;obtain⟨pl,cl,elv,hcl,-,hin⟩:=h.rrow;have HI:Hid (y.l≠[]->∃ g o,pl=some ⟨g,o,none⟩):=hid1 fun hne=>by
  obtain⟨g,o,e,-⟩:=hin hne;exact⟨g,o,e⟩
 rw[elv]at c2;have HLv:=hid1 elv;clear h hY hok hb hdl hSo elv HC HB hin;go_enter func147,ntmps147
 go_wp2;go_loopw [12] (fun iv wr=>∃(k:Nat) (L':YL),k<=y.l.length/\iv=.int .i64 k/\Lays At BAt B W W yb L y S bp cv d (Bf.sweepW y.l d k y.os) L' wr) (fun iv _=>y.l.length - (intOf iv).toNat)
 case atStart=>exact⟨0,L,Nat.zero_le _,rfl,HL1.out⟩
 case round =>
  obtain⟨k,L',hk,rfl,hL⟩:=hrel;have HL:=hid1 hL;clear hL HL1;have k0:(0:Int)<=(k:Int):=by omega
  by_cases hlt:k<y.l.length
  ·have k1:(k:Int)<(y.l.length:Int):=by omega
   obtain⟨g,oo,rfl⟩:=HI.out (by intro e;rw[e]at hlt;simp at hlt)
   obtain⟨d0,d1,d2,v3,d3,hx3⟩:=HL.out.yard.ruleAt hlt (by rw[HL.out.lv];exact HLv.out)
   have d0':wr.cell? ⟨g,oo+k*4,none⟩=some (.string (ba y.l[k].out)):=d0;have d1':wr.cell? ⟨g,oo+k*4+1,none⟩=some (.string (ba y.l[k].kind)):=d1;have d2':wr.cell? ⟨g,oo+k*4+2,none⟩=some (.string (ba y.l[k].word)):=d2;obtain⟨p3,cap3,ev3,-⟩:=hx3;have ev3':v3=.slice p3 y.l[k].ins.length cap3:=ev3;subst ev3'
   have hst:∀(a:Addr) (m:Mode) (W:World),Sem.run prog (store a (.slice p3 y.l[k].ins.length cap3) m) W=stored prog W a (.slice p3 y.l[k].ins.length cap3) m:=fun a m W=>run_store _ W a _ m rfl
   have gA:Below wr.heap.size wr (wr.alloc (.cells #[.string (ba y.l[k].out),.string (ba y.l[k].kind),.string (ba y.l[k].word),.slice p3 y.l[k].ins.length cap3] 73)):=(Below.refl _ wr).alloc (Nat.le_refl _) _;have HLa:=hid1 (HL.out.below HCs.out HBs.out gA)
   have rA:=Zbq wr (.cells #[.string (ba y.l[k].out),.string (ba y.l[k].kind),.string (ba y.l[k].word),.slice p3 y.l[k].ins.length cap3] 73);have HN1:Hid (Bf.sweepW y.l d (k+1) y.os=Bf.sweepS y.l d (Bf.sweepW y.l d k y.os) k):=hid1 (Bf.sweepW_succ _ _ _ _);have hat:d.at (k:Nat)=d.st k:=by
    unfold Bf.Bd.at;rw[HDl.out,if_neg (by omega),Int.toNat_natCast]
   have HR:=hid1 (HBs.out.state S _ bp cv d (k:Nat) HLa.out.build (by rw[HDl.out];omega) (by omega) (by omega))
   rw[hat]at HR;have HRA:=hid1 rA;have HNe:Hid (¬ tS L'.ob L'.o2 wr.heap.size):=hid1 fun e=>e.elim (fun e=>by have h1:=HL.out.yard.o.lt;have h2:L'.ob<wr.heap.size:=h1;omega) fun e=>by have h1:=HL.out.yard.mapo e;omega
   clear HI hat d0 d1 d2 gA HL rA;generalize Bf.sweepW y.l d k y.os=os at *;generalize hos':Bf.sweepW y.l d (k+1) y.os=os' at *;have HOs':=hid1 hos';clear hos';generalize hwa:wr.alloc (.cells #[.string (ba y.l[k].out),.string (ba y.l[k].kind),.string (ba y.l[k].word),.slice p3 y.l[k].ins.length cap3] 73)=wa at *
   have hbad:((d.st k).isBad=true/\((d.st k).name=[102,97,105,108,101,100]\/(d.st k).name=[108,101,102,116]))\/((d.st k).isBad=false/\((d.st k).name=[]\/(d.st k).name=[119,97,105,116,115]\/(d.st k).name=[100,111,110,101])):=by
    cases d.st k with
    | no=>exact .inr ⟨rfl,.inl rfl⟩
    | waits=>exact .inr ⟨rfl,.inr (.inl rfl)⟩
    | done s b=>exact .inr ⟨rfl,.inr (.inr rfl)⟩
    | failed c=>exact .inl ⟨rfl,.inl rfl⟩
    | left=>exact .inl ⟨rfl,.inr rfl⟩
   rcases hbad with ⟨hb,hn⟩ | ⟨hb,hn⟩
   ·have hNx:os'=Tf.del os y.l[k].out:=by
     rw[HN1.out];unfold Bf.sweepS;rw[if_pos hb,Bf.getD_at hlt]
    subst hNx;clear HN1 hb;rcases hn with hn | hn
    all_goals
     rw[hn]at HR;clear hn;go_wp2_with fail;refine HR.out.mono ?_;rintro e w2 ⟨rfl,g2⟩;have HL2:=hid1 (HLa.out.below HCs.out HBs.out g2);have q1:=HL2.out.yard.c1;have q3:w2.cell? ⟨wr.heap.size,0,none⟩=some (.string (ba y.l[k].out)):=Zaa (Zab (j:=0) HRA.out rfl) g2
     have HP:=hid1 fun(V:World) (g:Below w2.heap.size w2 V)=>Zsd (HL2.out.yard.o.below g) (HYb.out.trans (HL2.out.base.trans (g.mono (by have:=HL2.out.yard.low;have:=HL2.out.yard.lt;omega)))).errs y.l[k].out (by have:=HSm.out k hlt;omega)
     clear HR HLa d0' d1' d2' d3 hst HRA;go_wp2;go_region_held3 (fun w'=>w'.cell? ⟨yb,1,none⟩=some (Ptr L'.ob)/\w'.cell? ⟨wr.heap.size,0,none⟩=some (.string (ba y.l[k].out))) (first | go_keep | fail)
      (first
       | (go_at_call 70;refine(HP.out _ (by exact(Below.refl _ w2).drew)).mono ?_;rintro e w3 ⟨⟨v9,rfl⟩,⟨o',hon,hT3⟩,hB3,hK3⟩;(have hL3:=(HL2.out.below HCs.out HBs.out (Below.refl w2.heap.size w2).drew).wrote HCs.out HBs.out hon hT3 hB3 hK3);(have r1:w3.cell? ⟨yb,1,none⟩=some (Ptr L'.ob):=hL3.yard.c1);(have r3:w3.cell? ⟨wr.heap.size,0,none⟩=some (.string (ba y.l[k].out)):=hK3.cell (show w2.drew.cell? _=_ from q3) HNe.out))
       | fail)
     all_goals
      rw[<- HOs'.out]at hL3;have HL3:=hid1 hL3;clear HP HL2 q1 q3 r1 r3 hT3 hB3 hK3 hon hL3;go_wp2;exact⟨⟨k+1,_,by omega,by go_num,HL3.out⟩,by simp[intOf];omega⟩
   ·have hNx:os'=os:=by
     rw[HN1.out];unfold Bf.sweepS;rw[if_neg (by rw[hb];simp)]
    subst hNx;clear HN1 hb;rcases hn with hn | hn | hn
    all_goals
     rw[hn]at HR;clear hn;go_wp2_with fail;refine HR.out.mono ?_;rintro e w2 ⟨rfl,g2⟩;have hL2:=HLa.out.below HCs.out HBs.out g2;rw[<- HOs'.out]at hL2;have HL2:=hid1 hL2;clear HR HLa d0' d1' d2' d3 hst HRA g2 hL2;go_wp2;exact⟨⟨k+1,_,by omega,by go_num,HL2.out⟩,by simp[intOf];omega⟩
  ·have k1:(y.l.length:Int)<=(k:Int):=by omega
   obtain rfl:k=y.l.length:=by omega
   clear HI;go_wp2;go_end0
   exact⟨rfl,_,HL.out⟩
variable {es:Nat->Addr} {At:(Nat->Prop)->World->Value->Nat->Cf.Ens->Prop} {BAt:(Nat->Prop)->World->Value->Value->Bf.Bd->Prop}
namespace Bf
noncomputable def Yd.makeP(y:Yd)(outs:List (List UInt8)):Yd :=
 { y with os:=outP y.l (y.made outs).1 ((Ru.order y.l allB1).getD []) y.os,c:=(y.made outs).2 }
structure Yd.Ok(y:Yd):Prop where
 fs:Tf.Well pathB y.fs
 os:Tf.Well pathB y.os
 l:SheetOk y.l
 c:CFit y.c
end Bf
abbrev countV(d:Bf.Bd):Value:=.agg #[.int .i64 (d.ran:Nat),.int .i64 (d.hits:Nat),.int .i64 (d.fails:Nat),.int .i64 (d.lefts:Nat)]
theorem Zrq(HC:Zao es At)(HB:Builds es Af.actO At BAt){B:Nat}{W:World}{yb:Nat}{L:YL}{y:Bf.Yd}(h:YdAt At B W yb L y)(hY:YBase B W es)(hok:y.Ok)(ov:Value)(outs:List (List UInt8))(hov:XRow W ov outs)(hol:outs.length<=100)(hor:∀ p∈outs,∃ x∈y.l,x.out=p):
  Calls prog 107 #[Ptr yb,ov] W fun e w'=>e=.returned (.tuple #[countV (y.made outs).1,.nilIface])/\Below B W w'/\(∀ j,j<W.heap.size->j≠L.ob->L.o2≠some j->¬ L.SC j->w'.heap[j]? =W.heap[j]?)/\∃ L',L'.tb=L.tb/\L'.ob=L.ob/\(∀ j,j<W.heap.size->L'.k j=L.k j)/\YdAt At B w' yb L' (y.makeP outs):=by
 have h40:=hok.l.len;obtain⟨o,ho⟩:=Option.isSome_iff_exists.1 hok.l.some;have hwl:(Bf.whole y.l outs).length<=100:=Bf.whole_len (by omega) hol
 have hwr:∀ p∈Bf.whole y.l outs,∃ x∈y.l,x.out=p:=fun p hp=>by
  unfold Bf.whole at hp;split at hp
  ·obtain⟨x,hx,e⟩:=List.mem_map.1 hp;exact⟨x,hx,e⟩
  ·exact hor p hp
 have hws:∀ p∈Bf.whole y.l outs,p.length<=300:=fun p hp=>by
  obtain⟨x,hx,rfl⟩:=hwr p hp;have:=(hok.l.small x hx).out;omega
 have hBW:B<=W.heap.size:=by have:=h.low;have:=h.lt;omega
 have gA:Below W.heap.size W (W.alloc (.cells #[.int .i64 0,.int .i64 0,.int .i64 0,.int .i64 0] 181)):=(Below.refl _ W).alloc (Nat.le_refl _) _;have rA:=Zbq W (.cells #[.int .i64 0,.int .i64 0,.int .i64 0,.int .i64 0] 181);have hsA:(W.alloc (.cells #[.int .i64 0,.int .i64 0,.int .i64 0,.int .i64 0] 181)).heap.size=W.heap.size+1:=by simp
 have hya:=(h.retag HC 9).below HC gA;have HK9:Hid (L.more W.heap.size 9 W.heap.size=9):=hid1 (L.more_new (Nat.le_refl _));have HYa:=hid1 hya;have HOu:=hid1 (Zhy hya (by have h1:y.l.length<=40:=h40;show y.l.length<=1000;omega))
 have HNew:=hid1 fun(V:World) (g:Below W.heap.size W V) (v:Value) (hv:XRow V v (Bf.whole y.l outs))=>HB.new V B L.tb y.fs L.o1 L.lv y.l v (Bf.whole y.l outs) L.cv (hY.trans (g.mono hBW)).build.w (h.t.below g) hok.fs.rises (by have:=hok.fs.few;omega) (fun f hf=>⟨by have:=Zci hok.fs f hf;omega,(hok.fs.each f hf).2⟩) (h.rrow.below g) (by omega) hok.l.small hv hwl hws (by obtain⟨p,e⟩:=h.cp;exact⟨_,e⟩)
 have HNt:Hid (∀(n:Nat) (w:World) (bv ev:Value),NewTells es BAt n y.fs y.l (Bf.whole y.l outs) L.cv w bv ev->ev=.nilIface/\∃ p,bv=.pointer (some p)/\∃ S,BAt S w (.pointer (some p)) L.cv (Bf.init y.fs y.l (Bf.whole y.l outs))/\∀ k,S k->n<=k):=hid1 fun n w bv ev hN=>by
  rcases hN with ⟨_,⟨h1,_⟩ | ⟨_,k,hk,h1,_⟩ | ⟨_,_,h1,_⟩⟩ | ⟨_,_,_,h1,⟨p,h2⟩,S,h3,h4⟩
  ·exact absurd hok.l.fine h1
  ·obtain⟨x,hx,e⟩:=hwr _ (List.getElem_mem hk);exact absurd e (h1 x hx)
  ·have:=hok.l.part (Bf.whole y.l outs);rw[h1]at this;cases this
  ·exact⟨h1,p,h2,S,by rw[<- h2];exact h3,h4⟩
 have HAll:=hid1 fun(V:World) (hV:Below B W V) (S:Nat->Prop) (p:Addr) (hbA:BAt S V (.pointer (some p)) L.cv (Bf.init y.fs y.l (Bf.whole y.l outs))) (hCa:CaAt At L.SC V L.cv y.c) (hap:∀ j,S j->¬ L.SC j) (hSB:∀ j,S j->B<=j)=>HB.all B S L.SC V p L.cv (Bf.init y.fs y.l (Bf.whole y.l outs)) y.c hbA hCa hap (hY.trans hV).build hSB h.lowC hok.l.fine hok.l.small (Bf.init_fit fun f hf=>(hok.fs.each f hf).2) hok.c
 have HMd:Hid (y.made outs=Bf.all Af.actO y.c (Bf.init y.fs y.l (Bf.whole y.l outs))):=hid1 rfl;rw[<- HMd.out]at HAll;have hdl:(y.made outs).1.l=y.l:=by
  rw[HMd.out];exact(Bf.allF_keeps actFit _ _ _ (Bf.init_fit fun f hf=>(hok.fs.each f hf).2) hok.c).1
 have HLay:=hid1 fun(V:World) (hV:Below B W V) (L':YL) (hy:YdAt At B V yb L' { y with c:=(y.made outs).2 }) (S:Nat->Prop) (p:Addr) (hb:BAt S V (.pointer (some p)) L.cv (y.made outs).1) (hSo:∀ j,S j->j≠L'.ob/\L'.o2≠some j)=>Zvd HC HB hy (hY.trans hV) hok.l hok.os hb hdl hSo ho
 have HSwp:=hid1 fun(V:World) (hV:Below B W V) (L':YL) (os:Tf.Fs) (hy:YdAt At B V yb L' { y with c:=(y.made outs).2,os:=os }) (S:Nat->Prop) (p:Addr) (hb:BAt S V (.pointer (some p)) L.cv (y.made outs).1) (hSo:∀ j,S j->j≠L'.ob/\L'.o2≠some j)=>Zof HC HB hy (hY.trans hV) hok.l hb hdl hSo
 have HP:Hid (y.makeP outs={ y with c:=(y.made outs).2,os:=Bf.sweepW y.l (y.made outs).1 y.l.length (Bf.layW y.l (y.made outs).1 o y.os) }):=hid1 (by unfold Bf.Yd.makeP Bf.outP;rw[ho];rfl)
 rw[HP.out];have HSl:Hid (∀ j,L.SC j->j<W.heap.size):=hid1 fun j hj=>h.ca.ltG HC j hj
 have HMo:Hid (∀ j,L.o2=some j->j<W.heap.size):=hid1 fun j e=>h.mapo e
 have hobl:L.ob<W.heap.size:=h.o.lt;have HCs:=hid1 HC;have HBs:=hid1 HB;have HRA:=hid1 rA;obtain⟨pc,ecv⟩:=h.cp;obtain⟨pl,cl,elv,-⟩:=h.rrow;rw[elv,ecv]at HNew;rw[ecv]at HNt HAll HLay HSwp;generalize y.made outs=md at *;obtain⟨d,c'⟩:=md;simp only at HAll HLay HSwp hdl ⊢;have hov0:=hov;have HOv:=hid1 fun(V:World) (g:Below W.heap.size W V)=>hov.below g
 obtain⟨po,co,rfl,-⟩:=hov;have HLv:=hid1 (And.intro elv ecv);have hcase:(outs=[]/\Bf.whole y.l outs=y.l.map Ru.out)\/(outs≠[]/\Bf.whole y.l outs=outs):=by
  by_cases e:outs=[]
  ·exact .inl ⟨e,by unfold Bf.whole;rw[if_pos e]⟩
  ·exact .inr ⟨e,by unfold Bf.whole;rw[if_neg e]⟩
 generalize hWa:W.alloc (.cells #[.int .i64 0,.int .i64 0,.int .i64 0,.int .i64 0] 181)=Wa at *;have HCase:=hid1 hcase;go_enter func107,ntmps107
 go_upto_if 11 with fail
 go_cut [1] (fun vo wc=>XRow wc vo (Bf.whole y.l outs)/\Below Wa.heap.size Wa wc)
 case first =>
  rcases HCase.out with ⟨rfl,hwh⟩ | ⟨hne,hwh⟩
  ·go_wp2_with fail;refine HOu.out.mono ?_;rintro e w1 ⟨v1,rfl,hrow,g1⟩;have HX1:Hid (XRow w1 v1 (Bf.whole y.l [])):=hid1 (by rw[hwh];exact XRow.of_owns hrow)
   obtain⟨p1,k1,e1,-⟩:=XRow.of_owns hrow;rw[List.length_map]at e1;subst e1;go_wp2;go_meet
   case rel=>exact⟨HX1.out,g1⟩
  ·have zo:(0:Int)<(outs.length:Int):=by have:=List.length_pos_iff.2 hne;omega
   have HX1:Hid (XRow Wa (.slice po outs.length co) (Bf.whole y.l outs)):=hid1 (by rw[hwh];exact HOv.out Wa gA)
   go_wp2;go_meet
   case rel=>exact⟨HX1.out,Below.refl _ _⟩
 case rest =>
  obtain⟨hX1,g1⟩:=hcut;obtain⟨w1,hw1⟩:∃ w1,w1=wc:=⟨_,rfl⟩
  subst hw1;have HX1:=hid1 hX1;obtain⟨p1,k1,e1,-⟩:=hX1;subst e1;have G1a:=Zac gA g1;have y1:=HYa.out.below HCs.out g1;have q0:=y1.c0;have q2:=y1.c2;have q3:=y1.c3;have r1:=Zav HRA.out g1;simp only at q0 q2 q3;rw[HLv.out.1]at q2;rw[HLv.out.2]at q3;have HY1:=hid1 y1;have HR1:=hid1 r1;have z1:=g1.size;go_wp2
  go_region_held3 (fun w'=>w'.cell? ⟨yb,0,none⟩=some (Ptr L.tb)/\w'.cell? ⟨yb,2,none⟩=some (.slice pl y.l.length cl)/\w'.cell? ⟨yb,3,none⟩=some (.pointer (some pc))) (first | go_keep | fail)
   (first
    | (go_at_call 144;refine(HNew.out _ (by exact G1a.drew) _ (by exact HX1.out.below (Below.refl w1.heap.size w1).drew)).mono ?_;rintro e w2 ⟨bv,ev,rfl,g2,hN⟩;(have r0:=Zaa (show w1.drew.cell? _=_ from q0) g2);(have r2:=Zaa (show w1.drew.cell? _=_ from q2) g2);(have r3:=Zaa (show w1.drew.cell? _=_ from q3) g2);(obtain⟨rfl,pb,rfl,hS⟩:=HNt.out _ _ _ _ hN))
    | fail)
  all_goals
   obtain⟨S,hbA,hSn⟩:=hS;have g12:Below w1.heap.size w1 w2:=Zac (Below.refl w1.heap.size w1).drew g2;have hSn':∀ j,S j->w1.heap.size<=j:=hSn
   have G2:=Zac G1a g12;have y2:=HY1.out.below HCs.out g12;have z2:=g12.size;have HSn:=hid1 hSn';have HA2:=hid1 (HAll.out w2 (G2.mono hBW) S pb hbA (by have h2:=y2.ca;rw[HLv.out.2]at h2;exact h2) (fun j h1 h2=>by have h3:=hSn' j h1;have h4:=HSl.out j h2;omega) (fun j h1=>by have h3:=hSn' j h1;omega))
   have HR2:=hid1 (Zav HR1.out g12);have HG12:=hid1 g12;go_wp2_with fail;refine HA2.out.mono ?_;rintro e w3 ⟨rfl,hO3,S',SC',hB3,hC3,hap3,hS3,hT3⟩;have hB3l:=HBs.out.lt _ _ _ _ _ hB3;have z3:=hO3.size;have hnq:¬ (S W.heap.size\/L.SC W.heap.size):=fun e=>by
    rcases e with e | e
    ·have:=HSn.out _ e;omega
    ·have:=HSl.out _ e;omega
   have r3:w3.heap[W.heap.size]? =some (.cells #[.int .i64 0,.int .i64 0,.int .i64 0,.int .i64 0] 181 (0,0)):=(hO3.block W.heap.size (by omega) hnq).trans HR2.out
   have y3:=HY1.out.cached (c:=c') (SC:=SC') (by have h2:=hC3;rw[<- HLv.out.2]at h2;exact h2) (by omega) (fun j hj hn=>(hO3.block j (by omega) (fun e=>e.elim (fun e=>by have h3:=HSn.out j e;omega) hn)).trans (HG12.out.block j hj)) (fun j hj=>(hT3 j hj).imp_right fun h=>by omega) (fun j hj=>by have h4:=HSl.out j hj;omega)
   have B3:Below B W w3:=(G2.mono hBW).trans (hO3.below (fun j hj=>by
    rcases hj with h5 | h5
    ·have h3:=HSn.out j h5;omega
    ·exact HY1.out.lowC j h5) (by omega))
   have gB:Below w3.heap.size w3 (w3.alloc (.cells #[.int .i64 (d.ran:Nat),.int .i64 (d.hits:Nat),.int .i64 (d.fails:Nat),.int .i64 (d.lefts:Nat)] 181)):=(Below.refl _ w3).alloc (Nat.le_refl _) _;have rB:=Zbq w3 (.cells #[.int .i64 (d.ran:Nat),.int .i64 (d.hits:Nat),.int .i64 (d.fails:Nat),.int .i64 (d.lefts:Nat)] 181);have y4:=y3.below HCs.out gB
   have HRs:=hid1 fun(j:Nat) (hj:j<W.heap.size) (hn:¬ L.SC j)=>(gB.block j (by omega)).trans ((hO3.block j (by omega) (fun e=>e.elim (fun e=>by have:=HSn.out j e;omega) hn)).trans (G2.block j hj))
   have B4:=B3.trans (gB.mono (by omega))
   have hb4:=HBs.out.same _ _ _ _ _ _ hB3 gB.size fun k hk=>gB.block k (hB3l k hk)
   have hS4:∀ j,S' j->j≠L.ob/\L.o2≠some j:=fun j hj=>by
    have h6:W.heap.size<=j:=by
     rcases hS3 j hj with h | h
     ·have:=HSn.out j h;omega
     ·omega
    exact⟨by omega,fun e=>by have:=HMo.out j e;omega⟩
   have HLy:=hid1 (HLay.out _ B4 _ y4 S' pb hb4 hS4);have HRB:=hid1 rB;have HR4:=hid1 (Zav r3 gB);have HB4:=hid1 B4;have hk4:(if W.heap.size<w1.heap.size then L.more W.heap.size 9 W.heap.size else 3)=9:=by rw[if_pos (by omega)];exact HK9.out
   have HK4:=hid1 hk4;have z4:w3.heap.size<(w3.alloc (.cells #[.int .i64 (d.ran:Nat),.int .i64 (d.hits:Nat),.int .i64 (d.fails:Nat),.int .i64 (d.lefts:Nat)] 181)).heap.size:=by simp
   generalize hw4:w3.alloc (.cells #[.int .i64 (d.ran:Nat),.int .i64 (d.hits:Nat),.int .i64 (d.fails:Nat),.int .i64 (d.lefts:Nat)] 181)=w4 at *;go_wp2_with fail;refine HLy.out.mono ?_;rintro e w5 ⟨rfl,L5,hL5⟩;have HL5:=hid1 hL5;have HSw:=hid1 (HSwp.out w5 (HB4.out.trans hL5.base) L5 _ hL5.yard S' pb hL5.build hL5.apart);go_wp2_with fail;refine HSw.out.mono ?_
   rintro e w6 ⟨rfl,L6,hL6⟩;have z5:=HL5.out.size;have z6:=hL6.size;have hno:∀ q,W.heap.size<=q->q<w4.heap.size->w6.heap[q]? =w4.heap[q]? :=fun q h1 h2=>by
    refine(hL6.rest q (by omega) ?_ ?_).trans (HL5.out.rest q h2 (fun e=>by have e':q=L.ob:=e;omega) fun e=>by have:=HMo.out q e;omega)
    ·intro e
     have e':q=L.ob:=e.trans HL5.out.ob;omega
    ·intro e
     rcases HL5.out.o2 q e with h | h
     ·have:=HMo.out q h;omega
     ·omega
   have rr:=(hno W.heap.size (Nat.le_refl _) (by omega)).trans HR4.out
   have rc:=(hno w3.heap.size (by omega) z4).trans HRB.out
   have s0:=Zab (j:=0) rc rfl;have s1:=Zab (j:=1) rc rfl;have s2:=Zab (j:=2) rc rfl;have s3:=Zab (j:=3) rc rfl;have u0:=Zab (j:=0) rr rfl;have u1:=Zab (j:=1) rr rfl;have u2:=Zab (j:=2) rr rfl;have u3:=Zab (j:=3) rr rfl;have f0:w6.frozen? ⟨W.heap.size,0,none⟩=false:=by simp[World.frozen?,rr]
   have f1:w6.frozen? ⟨W.heap.size,1,none⟩=false:=by simp[World.frozen?,rr]
   have f2:w6.frozen? ⟨W.heap.size,2,none⟩=false:=by simp[World.frozen?,rr]
   have f3:w6.frozen? ⟨W.heap.size,3,none⟩=false:=by simp[World.frozen?,rr]
   have qq:=hid1 (Zbo u0 u1 u2 u3 (.int .i64 (d.ran:Nat)) (.int .i64 (d.hits:Nat)) (.int .i64 (d.fails:Nat)) (.int .i64 (d.lefts:Nat)));have HK6:Hid (L6.k W.heap.size=9):=hid1 (by
    rw[hL6.kk _ (by omega),HL5.out.kk _ (by omega)]
    exact HK4.out)
   have HKk:Hid (∀ j,j<W.heap.size->L6.k j=L.k j):=hid1 fun j hj=>by
    rw[hL6.kk j (by omega),HL5.out.kk j (by omega)]
    show(if j<w1.heap.size then L.more W.heap.size 9 j else 3)=_
    rw[if_pos (by omega)]
    exact L.more_old hj
   have HL6:=hid1 hL6;have HRt:=hid1 fun(j:Nat) (hj:j<W.heap.size) (h1:j≠L.ob) (h2:L.o2≠some j) (h3:¬ L.SC j)=>(hL6.rest j (by omega) (fun e=>h1 (e.trans HL5.out.ob)) (fun e=>(HL5.out.o2 j e).elim h2 (fun h=>by omega))).trans ((HL5.out.rest j (by omega) h1 h2).trans (HRs.out j hj h3))
   go_wp2
   have b7:Below B W ((((w6.setCell ⟨W.heap.size,0,none⟩ (.int .i64 (d.ran:Nat))).setCell ⟨W.heap.size,1,none⟩ (.int .i64 (d.hits:Nat))).setCell ⟨W.heap.size,2,none⟩ (.int .i64 (d.fails:Nat))).setCell ⟨W.heap.size,3,none⟩ (.int .i64 (d.lefts:Nat))):=((((HB4.out.trans (HL5.out.base.trans HL6.out.base)).setCell (p:=⟨W.heap.size,0,none⟩) hBW _).setCell (p:=⟨W.heap.size,1,none⟩) hBW _).setCell (p:=⟨W.heap.size,2,none⟩) hBW _).setCell (p:=⟨W.heap.size,3,none⟩) hBW _
   have k7:Kept (fun j=>L6.k j=9) w6 ((((w6.setCell ⟨W.heap.size,0,none⟩ (.int .i64 (d.ran:Nat))).setCell ⟨W.heap.size,1,none⟩ (.int .i64 (d.hits:Nat))).setCell ⟨W.heap.size,2,none⟩ (.int .i64 (d.fails:Nat))).setCell ⟨W.heap.size,3,none⟩ (.int .i64 (d.lefts:Nat))):=((((Kept.refl _ w6).setCell (p:=⟨W.heap.size,0,none⟩) HK6.out _).setCell (p:=⟨W.heap.size,1,none⟩) HK6.out _).setCell (p:=⟨W.heap.size,2,none⟩) HK6.out _).setCell (p:=⟨W.heap.size,3,none⟩) HK6.out _
   have k8:Kept (fun j=>j=W.heap.size) w6 ((((w6.setCell ⟨W.heap.size,0,none⟩ (.int .i64 (d.ran:Nat))).setCell ⟨W.heap.size,1,none⟩ (.int .i64 (d.hits:Nat))).setCell ⟨W.heap.size,2,none⟩ (.int .i64 (d.fails:Nat))).setCell ⟨W.heap.size,3,none⟩ (.int .i64 (d.lefts:Nat))):=((((Kept.refl (fun j=>j=W.heap.size) w6).setCell (p:=⟨W.heap.size,0,none⟩) rfl _).setCell (p:=⟨W.heap.size,1,none⟩) rfl _).setCell (p:=⟨W.heap.size,2,none⟩) rfl _).setCell (p:=⟨W.heap.size,3,none⟩) rfl _
   refine bodyPost_ret (v:=.tuple #[countV d,.nilIface]) ?_ rfl ⟨rfl,b7,fun j hj h1 h2 h3=>(k8.block j (by omega) (fun e=>by omega)).trans (HRt.out j hj h1 h2 h3),L6,HL6.out.tb.trans HL5.out.tb,HL6.out.ob.trans HL5.out.ob,HKk.out,HL6.out.yard.aside HCs.out k7⟩
   obtain⟨t0,t1,t2,t3⟩:=qq.out;simp[results,f107,go_sem,t0,t1,t2,t3]
namespace Bf
theorem SheetOk.sheet{l:List Ru}(h:SheetOk l)(fs:Tf.Fs):∃ o,Sheet fs l o/\(Ru.order l allB1).getD []=o:=by
 obtain⟨o,e⟩:=Option.isSome_iff_exists.1 h.some;have hc:Ru.order l (need l (l.map Ru.out))=Ru.order l allB1:=Ru.order_congr2 fun k hk=>by rw[Zun hk]
 exact⟨o,⟨h.fine,by rw[hc,e]⟩,by rw[e];rfl⟩
structure YFine(l:List Ru)(m:Nat)(y:Yd):Prop where
 hl:y.l=l
 fs:Tf.Well pathB y.fs
 os:Tf.Well pathB y.os
 outs:Outs l y.os
 room:∃ es,y.c=some (m,es)
 fit:CFit y.c
 sound:CSound Af.actO y.c
variable {m:Nat}
theorem YFine.ok{l:List Ru}{y:Yd}(h:YFine l m y)(hs:SheetOk l):y.Ok:=⟨h.fs,h.os,by rw[h.hl];exact hs,h.fit⟩
theorem YFine.files{l:List Ru}{y:Yd}(h:YFine l m y){fs:Tf.Fs}(hw:Tf.Well pathB fs):YFine l m { y with fs:=fs }:=⟨h.hl,hw,h.os,h.outs,h.room,h.fit,h.sound⟩
def outGN(d:Bd)(i:Nat)(old:Option (List UInt8)):Option (List UInt8):=match d.st i with | .done s _=>some s | .failed _=>none | .left=>none | _=>old
theorem Zyy{l:List Ru}(hf:(Ru.fault l).1=0)(hl:Flat l){d:Bd}(hd:Fit d){t:Tf.Fs}(hw:Tf.Well pathB t)(ho:Outs l t){i:Nat}(hi:i<l.length)(x:List UInt8):
  Tf.get (outS l d t i) x=if x=l[i].out then outGN d i (Tf.get t x) else Tf.get t x:=by
 have hdel:Tf.get (Tf.del t l[i].out) x=if x=l[i].out then none else Tf.get t x:=by
  by_cases e:x=l[i].out
  ·subst e;rw[if_pos rfl,Tf.get_del_same]
  ·rw[if_neg e,Tf.get_del fun h=>e h.symm]
 unfold outS outGN;rw[getD_at hi];cases hsi:d.st i with
 | no=>simp
 | waits=>simp
 | failed c=>exact hdel
 | left=>exact hdel
 | done s b =>
  simp only;have hlen:s.length<=2000:=by
   have:=hd.outs i;rwa[hsi]at this
  by_cases e:x=l[i].out
  ·subst e;rw[if_pos rfl];unfold Tf.putF;rw[if_pos (Zpl hf hl hw ho hi hlen),Tf.get_put_same]
  ·rw[if_neg e,Tf.get_putF fun h=>e h.symm]
theorem Zpm{l:List Ru}(hf:(Ru.fault l).1=0)(hl:Flat l){d:Bd}(hd:Fit d):∀(o:List Nat),o.Nodup->(∀ i∈o,i<l.length)->∀ {t:Tf.Fs},Tf.Well pathB t->Outs l t->∀ x,(∀ i (hi:i<l.length),i∈o->l[i].out=x->Tf.get (outW l d o t) x=outGN d i (Tf.get t x))/\((∀ i (hi:i<l.length),i∈o->l[i].out≠x)->Tf.get (outW l d o t) x=Tf.get t x)
 | [],_,_,t,_,_,x=>⟨fun i _ h=>by simp at h,fun _=>rfl⟩
 | j::r,hnd,ho,t,hw,hout,x=>by
  have hj:=ho j (by simp)
  have hr:=fun i hi=>ho i (List.mem_cons_of_mem j hi)
  have hn:=List.nodup_cons.1 hnd;obtain⟨h1,h2⟩:=Zpm hf hl hd r hn.2 hr (Zpn (l:=l) (d:=d) hw j) (Zyx (d:=d) hout hj) x;obtain⟨-,hA⟩:=Ru.fault_ok hf;have hg:=Zyy hf hl hd hw hout hj x
  show(∀ i (hi:i<l.length),i∈j::r->l[i].out=x->Tf.get (outW l d r (outS l d t j)) x=outGN d i (Tf.get t x))/\((∀ i (hi:i<l.length),i∈j::r->l[i].out≠x)->Tf.get (outW l d r (outS l d t j)) x=Tf.get t x)
  refine⟨fun i hi hm e=> ?_,fun hq=> ?_⟩
  ·rcases List.mem_cons.1 hm with rfl | hir
   ·rw[h2 fun k hk hkr e2=>hn.1 (by
     have:=hA k i hk hi (by rw[e2,e])
     rwa[this]at hkr),hg,if_pos e.symm]
   ·have hne:x≠l[j].out:=fun e2=>hn.1 (by
     have:=hA i j hi hj (by rw[e,e2])
     rwa[this]at hir)
    rw[h1 i hi hir e,hg,if_neg hne]
  ·rw[h2 fun k hk hkr=>hq k hk (List.mem_cons_of_mem _ hkr),hg,if_neg fun e=>hq j hj (by simp) e.symm]
theorem Ybt{l:List Ru}(hf:(Ru.fault l).1=0)(hl:Flat l){d:Bd}(hd:Fit d){o:List Nat}(hnd:o.Nodup)(ho:∀ i∈o,i<l.length)(hall:∀ i,i<l.length->i∈o){t:Tf.Fs}(hw:Tf.Well pathB t)(hout:Outs l t):outP l d o t=outW l d o t:=by
 refine Tf.rises_ext (Zpo hw).rises (outW_well o hw).rises fun x=> ?_
 obtain⟨a1,a2⟩:=Zpm hf hl hd o hnd ho hw hout x;obtain⟨b1,b2⟩:=Zuq hf hl hd o ho hw hout x;obtain⟨c1,c2⟩:=Zlf hf (d:=d) (t:=layW l d o t) x l.length (Nat.le_refl _);obtain⟨-,hA⟩:=Ru.fault_ok hf;unfold outP;by_cases hx:∃ i,∃ hi:i<l.length,l[i].out=x
 ·obtain⟨i,hi,e⟩:=hx;have huni:∀ k (hk:k<l.length),l[k].out=x->k=i:=fun k hk ek=>hA k i hk hi (by rw[ek,e])
  rw[a1 i hi (hall i hi) e];by_cases hb:(d.st i).isBad=true
  ·rw[c1 i hi hi e hb];unfold outGN;cases hs:d.st i <;> rw[hs]at hb <;> first | rfl | cases hb
  ·have hb':(d.st i).isBad=false:=by simpa using hb
   rw[c2 fun k hk _ ek=>by obtain rfl:=huni k hk ek;exact hb']
   by_cases hdn:(d.st i).isDone=true
   ·rw[b1 i hi (hall i hi) e hdn];unfold outG outGN;cases hs:d.st i <;> rw[hs]at hdn hb' <;> first | rfl | (cases hdn;done) | (cases hb';done)
   ·have hdn':(d.st i).isDone=false:=by simpa using hdn
    rw[b2 fun k hk _ ek=>by obtain rfl:=huni k hk ek;exact hdn']
    unfold outGN;cases hs:d.st i <;> rw[hs]at hdn' hb' <;> first | rfl | (cases hb';done) | (cases hdn';done)
 ·have hn:∀ i (hi:i<l.length),l[i].out≠x:=fun i hi e=>hx ⟨i,hi,e⟩
  rw[a2 fun i hi _=>hn i hi,c2 fun i hi _ e=>absurd e (hn i hi),b2 fun i hi _ e=>absurd e (hn i hi)]
theorem Ycc{y:Yd}(hf:(Ru.fault y.l).1=0)(hl:Flat y.l){o:List Nat}(ho:Ru.order y.l (fun _=>true)=some o)(outs:List (List UInt8))(hd:Fit (y.made outs).1)(hw:Tf.Well pathB y.os)(hout:Outs y.l y.os):outP y.l (y.made outs).1 o y.os=outW y.l (y.made outs).1 o y.os:=by
 obtain⟨-,hall⟩:=Ru.order_some ho;obtain⟨hnd,hlt⟩:=Ru.order_nodup ho;exact Ybt hf hl hd hnd hlt (fun i hi=>hall i hi rfl) hw hout
theorem Yby{l:List Ru}{outs:List (List UInt8)}{k:Nat}(h:need l outs k=true):k<l.length:=by
 refine Classical.byContradiction fun hn=> ?_
 rw[need_out (by omega)]at h
 cases h
theorem YFine.made{l:List Ru}{m:Nat}{y:Yd}(h:YFine l m y)(hk:SheetOk l)(outs:List (List UInt8)):Fit (y.made outs).1/\CFit (y.made outs).2/\CSound Af.actO (y.made outs).2/\∃ es,(y.made outs).2=some (m,es):=by
 obtain⟨o,hs,ho⟩:=SheetOk.sheet hk y.fs;have e:y.made outs=allF Af.actO ((init y.fs l (whole l outs)).waits+1) y.c (init y.fs l (whole l outs)):=by
  unfold Yd.made;rw[h.hl];rfl
 have hM:=Zmb (act:=Af.actO) (N:=inO o) (f:=want Af.actO y.fs l) ((init y.fs l (whole l outs)).waits+1) (c:=y.c) (d:=init y.fs l (whole l outs)) hs.wanted hs.at h.sound (Makes.init (fun k hk=>by
  refine hs.topo.2.2.2 k ?_;by_cases hn:need l (whole l outs) k=true
  ·exact Yby hn
  ·exfalso
   have:(init y.fs l (whole l outs)).st k=.no:=by
    show(if need l (whole l outs) k=true then St.waits else .no)=_
    rw[if_neg hn]
   rw[this]at hk;cases hk) fun k=>by
  show((if need l (whole l outs) k=true then St.waits else .no)).isWaits=true\/((if need l (whole l outs) k=true then St.waits else .no)).isNo=true
  by_cases hn:need l (whole l outs) k=true
  ·rw[if_pos hn];exact .inl rfl
  ·rw[if_neg hn];exact .inr rfl)
 have hF:=allF_keeps actFit ((init y.fs l (whole l outs)).waits+1) y.c (init y.fs l (whole l outs)) (init_fit fun f hf=>(h.fs.each f hf).2) h.fit
 obtain⟨es,ec⟩:=h.room;have hR:=Zrj Af.actO ((init y.fs l (whole l outs)).waits+1) m es (init y.fs l (whole l outs));rw[<- ec,<- e]at hR;rw[<- e]at hM hF;exact⟨hF.2.2.1,hF.2.2.2,hM.2.1,hR⟩
theorem YFine.makeAny{l:List Ru}{y:Yd}(h:YFine l m y)(hk:SheetOk l)(outs:List (List UInt8)):YFine l m (y.makeP outs):=by
 obtain⟨o,hs,ho⟩:=SheetOk.sheet hk y.fs;obtain⟨-,h2,h3,h4⟩:=h.made hk outs;refine⟨h.hl,h.fs,Zpo h.os,?_,h4,h2,h3⟩;show Outs l (outP y.l (y.made outs).1 ((Ru.order y.l allB1).getD []) y.os)
 rw[h.hl,ho];exact Zyz hs.topo.2.2.1 h.outs
theorem YFine.makeEq{l:List Ru}{y:Yd}(h:YFine l m y)(hk:SheetOk l)(hl:Flat l)(outs:List (List UInt8)):y.make outs=y.makeP outs:=by
 obtain⟨o,ho⟩:=Option.isSome_iff_exists.1 hk.some;have ho':Ru.order l (fun _=>true)=some o:=ho
 have:=Ycc (y:=y) (by rw[h.hl];exact hk.fine) (by rw[h.hl];exact hl) (o:=o) (by rw[h.hl];exact ho') outs (h.made hk outs).1 h.os (by rw[h.hl];exact h.outs)
 unfold Yd.make Yd.makeP;rw[h.hl]at this ⊢;show({ fs:=y.fs,os:=outW l (y.made outs).1 ((Ru.order l allB1).getD []) y.os,l:=l,c:=(y.made outs).2 }:Yd)=_
 rw[ho];simp only[Option.getD_some];rw[this]
end Bf
namespace Pl
def l:List Ru:=[⟨[97,108,108],[106,111,105,110],[43],[[97,46,117,112],[98,46,117,112]]⟩,⟨[97,46,117,112],[117,112,112,101,114],[],[[97]]⟩,⟨[98,46,117,112],[117,112,112,101,114],[],[[98]]⟩,⟨[115,114,116],[115,111,114,116],[],[[97],[98],[99]]⟩,⟨[99,110,116],[99,111,117,110,116],[],[[97,108,108],[115,114,116]]⟩,⟨[104,100],[104,101,97,100],[49],[[115,114,116]]⟩]
theorem fault0:(Ru.fault l).1=0:=by kernel_rfl
theorem order0:Ru.order l allB1=some [1,2,0,3,4,5]:=by kernel_rfl
theorem small:∀ x∈l,x.Small:=fun x hx=>by
 simp only[l,List.mem_cons,List.not_mem_nil,or_false]at hx;rcases hx with rfl | rfl | rfl | rfl | rfl | rfl <;> exact⟨by decide,by decide,by decide,by decide,by decide⟩
theorem sheet:SheetOk l:=⟨fault0,by rw[order0];rfl,small⟩
theorem flat:Flat l:=fun i k hi hk=>by
 have hi':i<6:=hi;have hk':k<6:=hk;have:∀ i:Fin 6,∀ k:Fin 6,Tf.above (l[i.1]'(i.2)).out (l[k.1]'(k.2)).out=false:=by decide
 exact this ⟨i,hi'⟩ ⟨k,hk'⟩
def file(q:Nat):List UInt8:=if q%3=0 then [97] else if q%3=1 then [98] else [99]
def bit(n k:Nat):UInt8:=if n/2 ^ (4 - k)%2=1 then 120 else 10
def lets(n:Nat):List UInt8:=[bit n 0,bit n 1,bit n 2,bit n 3,bit n 4]
def outN(q:Nat):List UInt8:=(l.getD (q%6) ⟨[],[],[],[]⟩).out
noncomputable def stepQ(y:Yd)(wh q:Nat):Yd :=
 if wh<4 then { y with fs:=Tf.putF pathB y.fs (file q) (lets (q/3%32)) }
 else if wh=4 then { y with fs:=Tf.del y.fs (file q) }
 else if wh=5 then y.makeP []
 else if wh=6 then y.makeP [outN q]
 else y.makeP [[104,100],[99,110,116]]
def codeQ(y:Yd)(wh q:Nat):Nat :=
 if wh<4 then Tf.putCode pathB y.fs (file q) (lets (q/3%32))
 else if wh=4 then if Tf.hasP y.fs (file q) then 0 else 6
 else 0
theorem codeQ_le(y:Yd)(wh q:Nat):codeQ y wh q<=8:=by
 unfold codeQ Tf.putCode;repeat' split
 all_goals omega
noncomputable def step(y:Yd)(v:Int):Yd:=if v<0 then y else stepQ y (v.toNat%8) (v.toNat/8)
def ans(y:Yd)(v:Int):Int:=if v<0 then -1 else (codeQ y (v.toNat%8) (v.toNat/8):Nat)
noncomputable def run(y:Yd):List Int->Yd
 | []=>y
 | v::r=>run (step y v) r
noncomputable def answers(y:Yd):List Int->List Int
 | []=>[]
 | v::r=>ans y v::answers (step y v) r
theorem run_snoc:∀(a:List Int) (y:Yd) (v:Int),run y (a++[v])=step (run y a) v
 | [],_,_=>rfl
 | x::r,y,v=>run_snoc r (step y x) v
theorem answers_snoc:∀(a:List Int) (y:Yd) (v:Int),answers y (a++[v])=answers y a++[ans (run y a) v]
 | [],_,_=>rfl
 | x::r,y,v=>by
  show ans y x::answers (step y x) (r++[v])=_
  rw[answers_snoc r];rfl
theorem answers_len:∀(a:List Int) (y:Yd),(answers y a).length=a.length
 | [],_=>rfl
 | x::r,y=>by
  show(answers (step y x) r).length+1=_
  rw[answers_len r];rfl
def y0:Yd:=⟨[],[],l,some (8,[])⟩
theorem Zxw:Tf.Well pathB []:=⟨List.Pairwise.nil,by simp,fun f hf=>by simp at hf,fun f hf=>by simp at hf⟩
theorem fine0:YFine l 8 y0:=⟨rfl,Zxw,Zxw,fun f hf=>(by cases hf),⟨_,rfl⟩,⟨by omega,by omega,Cf.Ok.nil 8,by simp⟩,fun e he=>by simp at he⟩
theorem Yaf{y:Yd}(h:YFine l 8 y)(v:Int):YFine l 8 (step y v):=by
 unfold step;split
 ·exact h
 ·unfold stepQ;split
  ·exact h.files (h.fs.putF _ _)
  ·split
   ·exact h.files (h.fs.del _)
   ·split
    ·exact h.makeAny sheet _
    ·split
     ·exact h.makeAny sheet _
     ·exact h.makeAny sheet _
theorem fine_run:∀(a:List Int) {y:Yd},YFine l 8 y->YFine l 8 (run y a)
 | [],_,h=>h
 | v::r,_,h=>fine_run r (Yaf h v)
theorem played:answers y0 [0,-1,5]=[0,-1,0]:=by
 have h0:ans y0 0=0:=by kernel_rfl
 have h1:∀ y,ans y (-1)= -1:=fun y=>rfl
 have h2:∀ y,ans y 5=0:=fun y=>rfl
 show [ans y0 0,ans (step y0 0) (-1),ans (step (step y0 0) (-1)) 5]=_
 rw[h0,h1,h2]
def lines:List (List UInt8):=[[97,108,108,32,61,32,106,111,105,110,32,34,43,34,32,97,46,117,112,32,98,46,117,112],[97,46,117,112,32,61,32,117,112,112,101,114,32,97],[98,46,117,112,32,61,32,117,112,112,101,114,32,98],[115,114,116,32,61,32,115,111,114,116,32,97,32,98,32,99],[99,110,116,32,61,32,99,111,117,110,116,32,97,108,108,32,115,114,116],[104,100,32,61,32,104,101,97,100,32,34,49,34,32,115,114,116]]
def text:List UInt8:=lines.flatMap fun x=>x++[10]
theorem cut:cutB 10 text=lines++[[]]:=by decide
theorem line0:LineOf lines[0] l[0]:=⟨3,10,14,[43],⟨by decide,by decide,by decide,by decide,by decide,by decide,by decide,fun _=>rfl,fun _=>rfl,.inr ⟨by decide,by decide,fun _=>rfl,by decide,by decide,fun _=>rfl⟩,by decide⟩,rfl⟩
theorem line1:LineOf lines[1] l[1]:=⟨4,12,12,[],⟨by decide,by decide,by decide,by decide,by decide,by decide,by decide,fun _=>rfl,fun _=>rfl,.inl ⟨rfl,rfl,fun _=>(by decide:(97:UInt8)≠34)⟩,by decide⟩,rfl⟩
theorem line2:LineOf lines[2] l[2]:=⟨4,12,12,[],⟨by decide,by decide,by decide,by decide,by decide,by decide,by decide,fun _=>rfl,fun _=>rfl,.inl ⟨rfl,rfl,fun _=>(by decide:(98:UInt8)≠34)⟩,by decide⟩,rfl⟩
theorem line3:LineOf lines[3] l[3]:=⟨3,10,10,[],⟨by decide,by decide,by decide,by decide,by decide,by decide,by decide,fun _=>rfl,fun _=>rfl,.inl ⟨rfl,rfl,fun _=>(by decide:(97:UInt8)≠34)⟩,by decide⟩,rfl⟩
theorem line4:LineOf lines[4] l[4]:=⟨3,11,11,[],⟨by decide,by decide,by decide,by decide,by decide,by decide,by decide,fun _=>rfl,fun _=>rfl,.inl ⟨rfl,rfl,fun _=>(by decide:(97:UInt8)≠34)⟩,by decide⟩,rfl⟩
theorem line5:LineOf lines[5] l[5]:=⟨2,9,13,[49],⟨by decide,by decide,by decide,by decide,by decide,by decide,by decide,fun _=>rfl,fun _=>rfl,.inr ⟨by decide,by decide,fun _=>rfl,by decide,by decide,fun _=>rfl⟩,by decide⟩,rfl⟩
theorem line(i:Nat)(h:i<lines.length)(h':i<l.length):LineOf lines[i] l[i]:=by
 have hi:i<6:=h;have:i=0\/i=1\/i=2\/i=3\/i=4\/i=5:=by omega
 rcases this with rfl | rfl | rfl | rfl | rfl | rfl
 ·exact line0
 ·exact line1
 ·exact line2
 ·exact line3
 ·exact line4
 ·exact line5
theorem fault2:Ru.fault l=(0,-1):=by kernel_rfl
end Pl
theorem Zrl(w:World):Calls prog 35 #[.string (ba Pl.text)] w fun e w'=>∃ v,e=.returned (.tuple #[v,.agg #[.int .i64 0,.int .i64 (-1)]])/\Below w.heap.size w w'/\RNew w.heap.size w' v Pl.l :=
 Zoc Pl.text Pl.lines Pl.l (by decide) Pl.cut rfl (by decide) Pl.line Pl.fault2 Pl.small w
theorem RNew.more{n:Nat}{w w1:World}{v:Value}{l:List Ru}(h:RNew n w v l)(hb:Below w.heap.size w w1):RNew n w1 v l:=fun V hz hV =>
 h V (Nat.le_trans hb.size hz) fun j hj hl=>(hV j hj (Nat.lt_of_lt_of_le hl hb.size)).trans (hb.block j hl)
theorem RNew.row{n:Nat}{w:World}{v:Value}{l:List Ru}(h:RNew n w v l):RRow w v l:=h w (Nat.le_refl _) fun _ _ _=>rfl
theorem Zcf(w:World):Calls prog 17 #[] w fun e w'=>∃ v,e=.returned v/\Below w.heap.size w w'/\RNew w.heap.size w' v Pl.l:=by
 have HS:=hid1 (Zrl w);go_enter func17,ntmps17
 go_wp2_with fail;refine HS.out.mono ?_;rintro e w1 ⟨v,rfl,g1,hN⟩;have HN:=hid1 (hN.more ((Below.refl _ w1).alloc (o:=.cells #[.int .i64 0,.int .i64 (-1)] 76) (Nat.le_refl _)));have G1:Below w.heap.size w (w1.alloc (.cells #[.int .i64 0,.int .i64 (-1)] 76)):=g1.alloc g1.size _;obtain⟨p,c,e,-⟩:=hN.row;subst e;clear HS hN;go_wp2;go_ret;exact⟨_,rfl,G1,HN.out⟩
theorem Ztv(os:List Obj):∀ w:World,(os.foldl World.alloc w).heap=w.heap++os.toArray:=by
 induction os with
 | nil=>intro w;simp
 | cons o r ih =>
  intro w
  show(r.foldl World.alloc (w.alloc o)).heap=_
  rw[ih];show(w.heap.push o)++r.toArray=_
  apply Array.ext'
  simp
theorem Zri(os:List Obj):∀ w:World,Below w.heap.size w (os.foldl World.alloc w):=by
 induction os with
 | nil=>intro w;exact Below.refl _ _
 | cons o r ih =>
  intro w
  have h1:Below w.heap.size w (w.alloc o):=(Below.refl _ w).alloc (Nat.le_refl _) _;exact h1.trans ((ih (w.alloc o)).mono h1.size)
theorem Zch{V:World}{g:Nat}{l:List (List UInt8)}(h:V.heap[g]? =some (.cells (l.map sv).toArray 9)):XRow V (.slice (some ⟨g,0,none⟩) l.length l.length) l :=
 ⟨_,_,rfl,Nat.le_refl _,fun h=>(by cases h),fun _=>⟨g,0,rfl,(Array.getElem?_eq_some_iff.1 h).1,fun j hj=>by
  rw[Nat.zero_add];exact Zab h (by simp[hj,sv])⟩⟩
namespace Pl
abbrev st(s:List UInt8):Value:=.string (ba s)
abbrev insO(l:List (List UInt8)):Obj:=.cells (l.map sv).toArray 9
def rulesO(n:Nat):Obj:=.cells #[st [97,108,108],st [106,111,105,110],st [43],.slice (some ⟨n,0,none⟩) 2 2,st [97,46,117,112],st [117,112,112,101,114],st [],.slice (some ⟨n+1,0,none⟩) 1 1,st [98,46,117,112],st [117,112,112,101,114],st [],.slice (some ⟨n+2,0,none⟩) 1 1,st [115,114,116],st [115,111,114,116],st [],.slice (some ⟨n+3,0,none⟩) 3 3,st [99,110,116],st [99,111,117,110,116],st [],.slice (some ⟨n+4,0,none⟩) 2 2,st [104,100],st [104,101,97,100],st [49],.slice (some ⟨n+5,0,none⟩) 1 1] 73
def objs(n:Nat):List Obj:=[insO [[97,46,117,112],[98,46,117,112]],insO [[97]],insO [[98]],insO [[97],[98],[99]],insO [[97,108,108],[115,114,116]],insO [[115,114,116]],rulesO n]
theorem row{V w:World}(h:∀ i,i<7->V.heap[w.heap.size+i]? =(objs w.heap.size)[i]?):RRow V (.slice (some ⟨w.heap.size+6,0,none⟩) 6 6) l:=by
 have h6:V.heap[w.heap.size+6]? =some (rulesO w.heap.size):=h 6 (by decide)
 refine⟨_,_,rfl,by decide,fun h=>(by cases h),fun _=>⟨w.heap.size+6,0,rfl,(Array.getElem?_eq_some_iff.1 h6).1,fun j hj=> ?_⟩⟩
 have hj':j<6:=hj;have:j=0\/j=1\/j=2\/j=3\/j=4\/j=5:=by omega
 rcases this with rfl | rfl | rfl | rfl | rfl | rfl
 ·exact⟨Zab (j:=0) h6 rfl,Zab (j:=1) h6 rfl,Zab (j:=2) h6 rfl,_,Zab (j:=3) h6 rfl,Zch (l:=[[97,46,117,112],[98,46,117,112]]) (h 0 (by decide))⟩
 ·exact⟨Zab (j:=4) h6 rfl,Zab (j:=5) h6 rfl,Zab (j:=6) h6 rfl,_,Zab (j:=7) h6 rfl,Zch (l:=[[97]]) (h 1 (by decide))⟩
 ·exact⟨Zab (j:=8) h6 rfl,Zab (j:=9) h6 rfl,Zab (j:=10) h6 rfl,_,Zab (j:=11) h6 rfl,Zch (l:=[[98]]) (h 2 (by decide))⟩
 ·exact⟨Zab (j:=12) h6 rfl,Zab (j:=13) h6 rfl,Zab (j:=14) h6 rfl,_,Zab (j:=15) h6 rfl,Zch (l:=[[97],[98],[99]]) (h 3 (by decide))⟩
 ·exact⟨Zab (j:=16) h6 rfl,Zab (j:=17) h6 rfl,Zab (j:=18) h6 rfl,_,Zab (j:=19) h6 rfl,Zch (l:=[[97,108,108],[115,114,116]]) (h 4 (by decide))⟩
 ·exact⟨Zab (j:=20) h6 rfl,Zab (j:=21) h6 rfl,Zab (j:=22) h6 rfl,_,Zab (j:=23) h6 rfl,Zch (l:=[[115,114,116]]) (h 5 (by decide))⟩
theorem laid(w:World):Below w.heap.size w ((objs w.heap.size).foldl World.alloc w)/\RNew w.heap.size ((objs w.heap.size).foldl World.alloc w) (.slice (some ⟨w.heap.size+6,0,none⟩) 6 6) l:=by
 refine⟨Zri _ w,fun V hz hV=>row (w:=w) fun i hi=> ?_⟩
 have hh:=Ztv (objs w.heap.size) w;have hs:((objs w.heap.size).foldl World.alloc w).heap.size=w.heap.size+7:=by rw[hh];simp[objs]
 rw[hV (w.heap.size+i) (by omega) (by omega),hh,Array.getElem?_append_right (by omega)]
 simp
end Pl
theorem Zcx(w:World):Calls prog 16 #[] w fun e w'=>∃ v,e=.returned v/\Below w.heap.size w w'/\RNew w.heap.size w' v Pl.l:=by
 have HL:=hid1 (Pl.laid w);go_enter func16,ntmps16
 go_wp2;go_ret;exact⟨_,rfl,HL.out.1,HL.out.2⟩
