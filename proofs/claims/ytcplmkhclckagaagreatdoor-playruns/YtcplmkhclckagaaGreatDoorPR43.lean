import Derived.Test.YtcplmkhclckagaaGreatDoorPR42
set_option maxRecDepth 100000
set_option maxHeartbeats 16000000
open Go.Proofs.Tryz
namespace Go.Proofs.YtcplmkhclckagaaGreatDoor
open Go.RowKit Go.Shelf Go.Lib Go.Maps
abbrev MYc(w:World)(yb:Nat)(t o l c:Value):Prop:=w.heap[yb]? =some (.cells #[t,o,l,c] 39 (0,0))
namespace Bf
noncomputable def allL(act:Act):Nat->Ca->Bd->List Nat
 | 0,_,_=>[]
 | f+1,c,d =>
  match d.ready with
  | []=>[]
  | i::_=>i::allL act f (go act c d i).c (go act c d i).d
theorem Zjq(act:Act):∀(f f':Nat) (c:Ca) (d:Bd),d.waits<f->d.waits<f'->allL act f c d=allL act f' c d
 | 0,_,_,_,h,_=>by omega
 | _,0,_,_,_,h=>by omega
 | f+1,f'+1,c,d,h,h'=>by
  unfold allL;cases hr:d.ready with
  | nil=>rfl
  | cons i r =>
   have hm:=mem_ready.1 (show i∈d.ready by rw[hr];simp)
   have:=(go_less act c d i hm.1 hm.2).1;simp only;rw[Zjq act f f' _ _ (by omega) (by omega)]
theorem allL_nil(act:Act)(c:Ca)(d:Bd)(h:d.ready=[]):allL act (d.waits+1) c d=[]:=by
 unfold allL;rw[h]
theorem allL_cons(act:Act)(c:Ca)(d:Bd){i:Nat}{r:List Nat}(h:d.ready=i::r):allL act (d.waits+1) c d=i::allL act ((go act c d i).d.waits+1) (go act c d i).c (go act c d i).d:=by
 have hm:=mem_ready.1 (show i∈d.ready by rw[h];simp)
 have:=(go_less act c d i hm.1 hm.2).1;conv=>lhs;unfold allL
 rw[h];simp only;rw[Zjq act d.waits ((go act c d i).d.waits+1) _ _ (by omega) (by omega)]
end Bf
structure MFit(d:Bf.Bd):Prop where
 few:d.l.length<=40
 small:∀ x∈d.l,x.Small
 apart:∀ i j (hi:i<d.l.length) (hj:j<d.l.length),d.l[i].out=d.l[j].out->i=j
 rises:Tf.Rises d.fs
 files:d.fs.length<=1000
 fit:Bf.Fit d
variable {d:Bf.Bd}
theorem MFit.same{d':Bf.Bd}(h:MFit d)(hl:d'.l=d.l)(hf:d'.fs=d.fs)(hF:Bf.Fit d'):MFit d':=by
 obtain⟨fs',l',st'⟩:=d';obtain rfl:l'=d.l:=hl;obtain rfl:fs'=d.fs:=hf;exact⟨h.few,h.small,h.apart,h.rises,h.files,hF⟩
variable {w0:Gr}{W:World}{mb gs gh gw:Nat}
theorem Zsx{tb:Nat}{tv lv cv:Value}{go:Nat}(h:MB w0 W mb tb tv lv cv gs go gh gw d)(hF:MFit d) 
  {act:Bf.Act} (hAct:Zel act) {c:Bf.Ca} (hCf:Bf.CFit c) {T:Nat->Prop} (hca:MCa T W cv c) (hT:∀ j,MBlk mb tb tv gs go gh gw j->¬ T j) (hT0:∀ j,T j->w0.C j\/w0.heap.size<=j) (i:Int) :
  Calls prog 112 #[.pointer (some ⟨mb,0,none⟩),.int .i64 i] W fun e w'=>e=.returned (.tuple #[.bool (Bf.run act c d i).hit,.int .i64 ((Bf.run act c d i).code:Nat)])/\MB w0 w' mb tb tv lv cv gs go gh gw (Bf.run act c d i).d/\Only (fun j=>MBlk mb tb tv gs go gh gw j\/T j) W w'/\∃ T',MCa T' w' cv (Bf.run act c d i).c/\∀ j,T' j->T j\/W.heap.size<=j:=by
 by_cases hi:i<0\/(d.l.length:Int)<=i
 ·have e:Bf.run act c d i=⟨false,6,d,c⟩:=by unfold Bf.run;rw[if_pos hi]
  rw[e];exact(Zzj h i hi).mono fun e w' ⟨h1,h2⟩=>⟨h1,h.below h2,Only.of h2,T,hca.below h2,fun j hj=>.inl hj⟩
 ·obtain⟨n,rfl⟩:∃ n:Nat,i=n:=⟨i.toNat,by omega⟩
  have hn:n<d.l.length:=by omega
  have e:Bf.run act c d n=Bf.runN act c d n:=by unfold Bf.run;rw[if_neg hi];simp
  cases hr:d.isReady n with
  | false =>
   rw[e];refine(Zzk h (by have:=hF.few;omega) (fun x hx=>by have:=(hF.small x hx).many;omega) n hn hr act c).mono ?_
   rintro e w' ⟨h1,h2,h3,h4⟩;rw[h2,h3];exact⟨h1,h.below h4,Only.of h4,T,hca.below h4,fun j hj=>.inl hj⟩
  | true =>
   rw[Bf.run_ready act c d n hn hr];have h0:(Bf.go act c d n).code=0:=by
    unfold Bf.go;split
    ·rfl
    ·split
     ·rfl
     ·split <;> rfl
   rw[h0];exact Yca h hF.few hF.small hF.apart hF.rises hF.files hF.fit hAct hCf hca hT hT0 n hn hr
variable {w w':World}{B:Nat}{v:Value}
theorem Zpj{S:Nat->Prop}{e:TypeId}{s n:Nat}{xs:List Value}(h:w.ownsRow B e s v n xs)(o:Only S w w')(hn:∀ j,some j=v.ownBlock->¬ S j):w'.ownsRow B e s v n xs:=by
 refine⟨h.1,?_⟩;rcases h.2 with h1 | ⟨g,cap,cur,e1,h0,hg,h2⟩
 ·exact .inl h1
 ·exact .inr ⟨g,cap,cur,e1,h0,(o.block g (Array.getElem?_eq_some_iff.1 hg).1 (hn g (by rw[e1];rfl))).trans hg,h2⟩
theorem Zpw{tb:Nat}{tv lv cv:Value}{go:Nat}(h:MB w0 W mb tb tv lv cv gs go gh gw d)(hF:MFit d) 
  {act:Bf.Act} (hAct:Zel act) (hAf:Bf.ActFit act) {c:Bf.Ca} (hCf:Bf.CFit c) {T:Nat->Prop} (hca:MCa T W cv c) (hT:∀ j,MBlk mb tb tv gs go gh gw j->¬ T j) (hT0:∀ j,T j->w0.C j\/w0.heap.size<=j) :
  Calls prog 76 #[.pointer (some ⟨mb,0,none⟩)] W fun e w'=>(∃ u,e=.returned u/\w'.ownsRow W.heap.size 3 1 u (Bf.allL act (d.waits+1) c d).length ((Bf.allL act (d.waits+1) c d).map nv))/\MB w0 w' mb tb tv lv cv gs go gh gw (Bf.all act c d).1/\Only (fun j=>MBlk mb tb tv gs go gh gw j\/T j) W w'/\∃ T',MCa T' w' cv (Bf.all act c d).2/\∀ j,T' j->T j\/W.heap.size<=j:=by
 have HH:=hid1 h;have HF:=hid1 hF;have HCf:=hid1 hCf;have HCa:=hid1 hca;have HT:=hid1 hT;have HT0:=hid1 hT0;have HAct:=hid1 hAct;have HAf:=hid1 hAf;have HLt:=hid1 h.lt;have HBs:=hid1 h.base.size;obtain⟨i0,hi,hz0,hz1,hz2⟩:=info_parts Tryz.infoInt;clear h hF hCf hca hT hT0 hAct hAf;go_enter func76,ntmps76
 go_wp2
 go_loopg [3] (d.waits) (fun gn ov wr=>∃(d':Bf.Bd) (c':Bf.Ca) (T':Nat->Prop) (os:List Nat),Bf.allL act (d.waits+1) c d=os++Bf.allL act (d'.waits+1) c' d'/\d'.waits=gn/\d'.l=d.l/\d'.fs=d.fs/\Bf.all act c d=Bf.all act c' d'/\Bf.Fit d'/\Bf.CFit c'/\MB w0 wr mb tb tv lv cv gs go gh gw d'/\MCa T' wr cv c'/\(∀ j,T' j->T j\/W.heap.size<=j)/\Only (fun j=>MBlk mb tb tv gs go gh gw j\/T j) W wr/\wr.ownsRow W.heap.size 3 1 ov os.length (os.map nv)/\(∀ j,some j=ov.ownBlock->¬ T' j)/\os.length+gn<=d.waits)
 case atStart=>exact⟨d,c,T,[],rfl,rfl,rfl,rfl,rfl,HF.out.fit,HCf.out,HH.out,HCa.out,fun j hj=>.inl hj,Only.of (Below.refl _ _),World.ownsRow_nil _ _ _ _,fun j hj=>by simp[Value.ownBlock]at hj,by simp⟩
 case round =>
  obtain⟨d',c',T',os,haL,hgk,hl,hfs,hall,hfit,hcf,hM,hca,hT',hO,hrow,hnT,hos⟩:=hrel;have hF':=HF.out.same hl hfs hfit;have hsz:=hO.size;have HAL:=hid1 haL;clear haL;have HTd:Hid (∀ j,MBlk mb tb tv gs go gh gw j->¬ T' j):=hid1 fun j hj ht=>by
   rcases hT' j ht with h1 | h1
   ·exact HT.out j hj h1
   ·have:=HLt.out j hj;omega
  have HT0':Hid (∀ j,T' j->w0.C j\/w0.heap.size<=j):=hid1 fun j hj=>by
   rcases hT' j hj with h1 | h1
   ·exact HT0.out j h1
   ·have:=HBs.out;exact .inr (show w0.w.heap.size<=j by omega)
  have hwn:=Bf.many_le d.st Bf.St.isWaits d.l.length;have hwd:d.waits<=40:=Nat.le_trans hwn HF.out.few;have HRd:=hid1 (Zna hM (by have:=hF'.few;omega) fun x hx=>by have:=(hF'.small x hx).many;omega)
  have HRn:=hid1 fun(V:World) (gV:Below wr.heap.size wr V) (i:Int)=>Zsx (hM.below gV) hF' HAct.out hcf (hca.below gV) HTd.out HT0'.out i
  have HR0:=hid1 (And.intro hall (And.intro hfit (And.intro hcf (And.intro hM (And.intro hca (And.intro hT' (And.intro hO (And.intro hrow hnT))))))));clear hall hfit hcf hM hca hT' hO hrow hnT hF';cases hrd:d'.ready with
  | nil =>
   rw[hrd]at HRd;have HE:=hid1 (Bf.all_nil act c' d' hrd);have HEL:=hid1 (Bf.allL_nil act c' d' hrd);clear hrd HRn;go_wp2_with fail;refine HRd.out.mono ?_;rintro e w5 ⟨u5,rfl,ho5,g5⟩;obtain⟨p5,c5,rfl⟩:∃ p c,u5=.slice p 0 c:=by
    rcases ho5.2 with ⟨rfl,_⟩ | ⟨g,cap,cur,rfl,_⟩
    ·exact⟨_,_,rfl⟩
    ·exact⟨_,_,rfl⟩
   clear HRd ho5;go_wp2;go_ret;obtain⟨hall,hfit,hcf,hM,hca,hT',hO,hrow,hnT⟩:=HR0.out;rw[hall,HE.out,HAL.out,HEL.out,List.append_nil];exact⟨⟨_,rfl,Zbe hrow g5⟩,hM.below g5,hO.trans (S':=fun _=>False) ⟨g5.os,g5.tape,g5.output,g5.size,fun j hj _=>g5.block j hj⟩ (fun j hj=>hj.elim),T',hca.below g5,hT'⟩
  | cons i r =>
   have hmem:=Bf.mem_ready.1 (show i∈d'.ready by rw[hrd];simp)
   have hgo:=Bf.run_ready act c' d' i hmem.1 hmem.2;have hless:=Bf.go_less act c' d' i hmem.1 hmem.2;have hgf:=Bf.go_fit (act:=act) HAf.out (c:=c') (d:=d') HR0.out.2.2.1 HR0.out.2.1 i;have HE:=hid1 (Bf.all_cons act c' d' hrd);have HEL:=hid1 (Bf.allL_cons act c' d' hrd);rw[hrd]at HRd;have HL:=hid1 (And.intro hless (And.intro hgf hgo));clear hrd hmem hgo hless hgf
   go_wp2_with fail;refine HRd.out.mono ?_;rintro e w5 ⟨u5,rfl,ho5,g5⟩;have hrow5:=ho5;obtain⟨g5',c5,rfl,hb5,hl5⟩:=hrow5.form (by simp)
   have x5:=hrow5.cells (g:=g5') rfl 0 (nv i) (by simp)
   rw[show(⟨g5',0,none⟩:Addr).add 0=⟨g5',0,none⟩ from rfl]at x5
   have HRi:=hid1 (HRn.out w5 g5 (i:Int));have H5:=hid1 (And.intro ho5 g5);clear HRd HRn ho5 hrow5 g5;rw[List.length_cons];go_wp2_with fail;refine HRi.out.mono ?_;rintro e w6 ⟨rfl,hM6,hO6,T6,hca6,hT6⟩;obtain⟨hall,hfit,hcf,hM,hca,hT',hO,hrow,hnT⟩:=HR0.out;obtain⟨hless,hgf,hgo⟩:=HL.out;rw[hgo]at hM6 hca6;have hTl:=hca.lt;have z6:=hO6.size;have x6:=hO6.cell x5 fun hx=>by
    rcases hx with h1 | h1
    ·have:=HLt.out _ h1;simp at this;omega
    ·have:=hTl _ h1;simp at this;omega
   have hnB:∀ j,some j=u3.ownBlock->¬ (MBlk mb tb tv gs go gh gw j\/T' j):=fun j hj hx=>by
    rcases hx with h1 | h1
    ·have h2:=(hrow.lt j hj.symm).1;have:=HLt.out j h1;omega
    ·exact hnT j hj h1
   have hrow6:=Zpj (Zbe hrow H5.out.2) hO6 hnB;have hul:∀ j,some j=u3.ownBlock->j<wr.heap.size:=fun j hj=>(hrow.lt j hj.symm).2
   have HK:Hid (∀(Y:World) (g cap:Nat),(Y.ownsRow W.heap.size 3 1 (.slice (some ⟨g,0,none⟩) (os.length+1) cap) (os.length+1) (os.map nv++[nv i]))->(w6.alloc (.cells #[nv i] 3)).grownBy Y u3.ownBlock->(u3.ownBlock=some g\/g=(w6.alloc (.cells #[nv i] 3)).heap.size) ->
     ∃(d'':Bf.Bd) (c'':Bf.Ca) (T'':Nat->Prop) (os':List Nat),Bf.allL act (d.waits+1) c d=os'++Bf.allL act (d''.waits+1) c'' d''/\d''.waits=(Bf.go act c' d' i).d.waits/\d''.l=d.l/\d''.fs=d.fs/\Bf.all act c d=Bf.all act c'' d''/\Bf.Fit d''/\Bf.CFit c''/\MB w0 Y mb tb tv lv cv gs go gh gw d''/\MCa T'' Y cv c''/\(∀ j,T'' j->T j\/W.heap.size<=j)/\Only (fun j=>MBlk mb tb tv gs go gh gw j\/T j) W Y/\Y.ownsRow W.heap.size 3 1 (.slice (some ⟨g,0,none⟩) (os.length+1) cap) os'.length (os'.map nv)/\(∀ j,some j=(Value.slice (some ⟨g,0,none⟩) (os.length+1) cap).ownBlock->¬ T'' j)/\os'.length+(Bf.go act c' d' i).d.waits<=d.waits):=hid1 fun Y g cap hY hgr hli=>by
    have za:(w6.alloc (.cells #[nv i] 3)).heap.size=w6.heap.size+1:=by simp
    have hgy:∀ j,j<w6.heap.size->some j≠u3.ownBlock->Y.heap[j]? =w6.heap[j]? :=fun j hj hn=>(hgr.block j (by omega) hn).trans (((Below.refl _ w6).alloc (Nat.le_refl _) _).block j hj)
    have zY:=hgr.size;have hT6':∀ j,T6 j->some j≠u3.ownBlock:=fun j hj e=>by
     rcases hT6 j hj with h1 | h1
     ·exact hnT j e h1
     ·have:=hul j e;omega
    have hBY:Only w0.C w0.w Y:=by
     refine⟨?_,?_,?_,?_,fun j hj hs=> ?_⟩
     ·exact hgr.os.trans hM6.base.os
     ·exact hgr.tape.trans hM6.base.tape
     ·exact hgr.output.trans hM6.base.output
     ·have:=hM6.base.size;omega
     ·have h1:=HBs.out;exact(hgy j (by omega) fun e=>by have:=(hrow.lt j e.symm).1;omega).trans (hM6.base.block j hj hs)
    refine⟨_,_,T6,os++[i],HAL.out.trans (by rw[HEL.out];simp),rfl,hless.2.1.trans hl,hless.2.2.trans hfs,hall.trans HE.out,hgf.1,hgf.2,hM6.same hBY (by omega) (fun j hj=>hgy j (by have:=HLt.out j hj;omega) fun e=>hnB j e (.inl hj)),hca6.same (by omega) (fun j hj=>hgy j (hca6.lt j hj) (hT6' j hj)),fun j hj=> ?_,?_,?_,fun j hj ht=> ?_,?_⟩
    ·rcases hT6 j hj with h1 | h1
     ·exact hT' j h1
     ·exact .inr (by omega)
    ·have g5:=H5.out.2;refine⟨?_,?_,?_,by omega,fun j hj hs=> ?_⟩
     ·exact hgr.os.trans (hO6.os.trans (g5.os.trans hO.os))
     ·exact hgr.tape.trans (hO6.tape.trans (g5.tape.trans hO.tape))
     ·exact hgr.output.trans (hO6.output.trans (g5.output.trans hO.output))
     ·refine(hgy j (by omega) fun e=>by have:=(hrow.lt j e.symm).1;omega).trans ((hO6.block j (by omega) fun hx=> ?_).trans ((g5.block j (by omega)).trans (hO.block j hj hs)))
      rcases hx with h1 | h1
      ·exact hs (.inl h1)
      ·rcases hT' j h1 with h2 | h2
       ·exact hs (.inr h2)
       ·omega
    ·rw[List.length_append,List.length_singleton,List.map_append];exact hY
    ·obtain rfl:j=g:=by simpa[Value.ownBlock] using hj
     rcases hli with h1 | h1
     ·exact hT6' j ht h1.symm
     ·have:=hca6.lt j ht;omega
    ·rw[List.length_append,List.length_singleton];have:=hless.1;omega
   have hlw:=hless.1;have hml:os.length+1<=maxLen:=by unfold maxLen;omega
   have hbz:W.heap.size<=w6.heap.size:=by omega
   clear HRi x5 hM6 hO6 hca6 hT6 hall hfit hcf hM hca hT' hO hrow hnT hnB hul hgf hgo hless hTl;go_wp2_with (first
    | (at_builtin;refine wpList_append_lies _ rfl _ _ 22 rfl W.heap.size 3 i0 (.int .i64 0) 1 8 underlying22 hi hz0 hz1 hz2 rfl (by decide) u3 os.length (os.map nv) rfl (hrow6.alloc _) ⟨w6.heap.size,0,none⟩ 1 1 [nv i] rfl rfl (cell_one_new _ _ _) (by simp[Value.oneCell']) (by decide) hml (by omega) (by simp;omega) _ rfl ?_;intro g8 cap8 w8 hown8 hgrow8 hlies8 hlt8)
    | fail)
   go_roundg ((Bf.go act c' d' i).d.waits)
   case measure=>omega
   case rel=>exact HK.out w8 g8 cap8 hown8 hgrow8 hlies8
theorem Zsy{tb:Nat}{tv lv cv:Value}{go:Nat}(h:MB w0 W mb tb tv lv cv gs go gh gw d)(hF:MFit d) 
  {act:Bf.Act} (hAct:Zel act) (hAf:Bf.ActFit act) {c:Bf.Ca} (hCf:Bf.CFit c) {T:Nat->Prop} (hca:MCa T W cv c) (hT:∀ j,MBlk mb tb tv gs go gh gw j->¬ T j) (hT0:∀ j,T j->w0.C j\/w0.heap.size<=j) :
  Calls prog 76 #[.pointer (some ⟨mb,0,none⟩)] W fun e w'=>(∃ u,e=.returned u)/\MB w0 w' mb tb tv lv cv gs go gh gw (Bf.all act c d).1/\Only (fun j=>MBlk mb tb tv gs go gh gw j\/T j) W w'/\∃ T',MCa T' w' cv (Bf.all act c d).2/\∀ j,T' j->T j\/W.heap.size<=j :=
 (Zpw h hF hAct hAf hCf hca hT hT0).mono fun _ _ ⟨⟨u,h1,_⟩,h2⟩=>⟨⟨u,h1⟩,h2⟩
structure NL where
 tb:Nat
 ob:Nat
 lv:Value
 cv:Value
 tv:Value
 ov:Value
 SC:Nat->Prop
 R:Nat->Prop
 k:Nat->Nat
def NL.more(L:NL)(n g:Nat):Nat->Nat:=fun j=>if j<n then L.k j else g
theorem NL.more_old(L:NL){n g j:Nat}(h:j<n):L.more n g j=L.k j:=by unfold NL.more;rw[if_pos h]
theorem NL.more_new(L:NL){n g j:Nat}(h:n<=j):L.more n g j=g:=by unfold NL.more;rw[if_neg (by omega)]
structure NdAt(B:Nat)(W:World)(yb:Nat)(L:NL)(y:Bf.Yd):Prop where
 row:W.heap[yb]? =some (.cells #[Ptr L.tb,Ptr L.ob,L.lv,L.cv] 39 (0,0))
 low:B<=yb
 t:RTreeAt B W L.tb y.fs L.tv
 o:RTreeAt B W L.ob y.os L.ov
 ca:MCa L.SC W L.cv y.c
 cp:∃ p,L.cv=.pointer (some p)
 lowC:∀ j,L.SC j->B<=j
 rows:∀ W':World,W.heap.size<=W'.heap.size->(∀ j,L.R j->W'.heap[j]? =W.heap[j]?)->RRow W' L.lv y.l
 rlt:∀ j,L.R j->j<W.heap.size
 ky:L.k yb=0
 kt:L.k L.tb=1
 k1:∀ j,L.tv.ownBlock=some j->L.k j=1
 ko:L.k L.ob=2
 k2:∀ j,L.ov.ownBlock=some j->L.k j=2
 kc:∀ j,L.SC j->L.k j=3
 kr:∀ j,L.R j->L.k j=4
variable {yb:Nat}{L:NL}{y:Bf.Yd}
theorem NdAt.lt(h:NdAt B W yb L y):yb<W.heap.size:=(Array.getElem?_eq_some_iff.1 h.row).1
theorem NdAt.rrow(h:NdAt B W yb L y):RRow W L.lv y.l:=h.rows W (Nat.le_refl _) fun _ _=>rfl
theorem NdAt.c0(h:NdAt B W yb L y):W.cell? ⟨yb,0,none⟩=some (Ptr L.tb):=Zab (j:=0) h.row rfl
theorem NdAt.c1(h:NdAt B W yb L y):W.cell? ⟨yb,1,none⟩=some (Ptr L.ob):=Zab (j:=1) h.row rfl
theorem NdAt.c2(h:NdAt B W yb L y):W.cell? ⟨yb,2,none⟩=some L.lv:=Zab (j:=2) h.row rfl
theorem NdAt.c3(h:NdAt B W yb L y):W.cell? ⟨yb,3,none⟩=some L.cv:=Zab (j:=3) h.row rfl
theorem NdAt.mapt(h:NdAt B W yb L y){j:Nat}(e:L.tv.ownBlock=some j):j<W.heap.size:=h.t.row_lt e
theorem NdAt.mapo(h:NdAt B W yb L y){j:Nat}(e:L.ov.ownBlock=some j):j<W.heap.size:=h.o.row_lt e
variable {W':World}
theorem NdAt.krow(h:NdAt B W yb L y){g:Nat}(hk:Kept (fun j=>L.k j=g) W W')(hg:g≠0):W'.heap[yb]? =some (.cells #[Ptr L.tb,Ptr L.ob,L.lv,L.cv] 39 (0,0)) :=
 (hk.block yb h.lt fun e=>hg (by rw[<- e,h.ky])).trans h.row
theorem NdAt.kfiles(h:NdAt B W yb L y){g:Nat}(hk:Kept (fun j=>L.k j=g) W W')(hg:g≠1):RTreeAt B W' L.tb y.fs L.tv :=
 h.t.kept hk (fun e=>hg (by rw[<- e,h.kt])) fun j hj e=>hg (by rw[<- e,h.k1 j hj])
theorem NdAt.kout(h:NdAt B W yb L y){g:Nat}(hk:Kept (fun j=>L.k j=g) W W')(hg:g≠2):RTreeAt B W' L.ob y.os L.ov :=
 h.o.kept hk (fun e=>hg (by rw[<- e,h.ko])) fun j hj e=>hg (by rw[<- e,h.k2 j hj])
theorem NdAt.kcache(h:NdAt B W yb L y){g:Nat}(hk:Kept (fun j=>L.k j=g) W W')(hg:g≠3):MCa L.SC W' L.cv y.c :=
 h.ca.same hk.size fun j hj=>hk.block j (h.ca.lt j hj) fun e=>hg (by rw[<- e,h.kc j hj])
theorem NdAt.krules(h:NdAt B W yb L y){g:Nat}(hk:Kept (fun j=>L.k j=g) W W')(hg:g≠4):∀ V:World,W'.heap.size<=V.heap.size->(∀ j,L.R j->V.heap[j]? =W'.heap[j]?)->RRow V L.lv y.l:=fun V hz hV =>
 h.rows V (Nat.le_trans hk.size hz) fun j hj=>(hV j hj).trans (hk.block j (h.rlt j hj) fun e=>hg (by rw[<- e,h.kr j hj]))
theorem NdAt.aside(h:NdAt B W yb L y)(hk:Kept (fun j=>L.k j=9) W W'):NdAt B W' yb L y :=
 ⟨h.krow hk (by decide),h.low,h.kfiles hk (by decide),h.kout hk (by decide),h.kcache hk (by decide),h.cp,h.lowC,h.krules hk (by decide),fun j hj=>Nat.lt_of_lt_of_le (h.rlt j hj) hk.size,h.ky,h.kt,h.k1,h.ko,h.k2,h.kc,h.kr⟩
theorem NdAt.below(h:NdAt B W yb L y)(hb:Below W.heap.size W W'):NdAt B W' yb L y:=h.aside (.of hb)
theorem NdAt.retag(h:NdAt B W yb L y)(g:Nat):NdAt B W yb { L with k:=L.more W.heap.size g } y :=
 ⟨h.row,h.low,h.t,h.o,h.ca,h.cp,h.lowC,h.rows,h.rlt,(L.more_old h.lt).trans h.ky,(L.more_old h.t.lt).trans h.kt,fun j hj=>(L.more_old (h.mapt hj)).trans (h.k1 j hj),(L.more_old h.o.lt).trans h.ko,fun j hj=>(L.more_old (h.mapo hj)).trans (h.k2 j hj),fun j hj=>(L.more_old (h.ca.lt j hj)).trans (h.kc j hj),fun j hj=>(L.more_old (h.rlt j hj)).trans (h.kr j hj)⟩
theorem NdAt.files(h:NdAt B W yb L y){fs:Tf.Fs}{v':Value}(hT:RTreeAt B W' L.tb fs v')(hon:RowON W L.tv v')(hK:Kept (mS L.tb L.tv) W W'):NdAt B W' yb { L with tv:=v',k:=L.more W.heap.size 1 } { y with fs:=fs }:=by
 have hk:Kept (fun j=>L.k j=1) W W':=⟨hK.size,fun j hj hs=>hK.block j hj fun e=>hs (e.elim (fun e=>by rw[e];exact h.kt) fun e=>h.k1 j e)⟩
 have hS:∀ j,L.SC j->L.more W.heap.size 1 j=3:=fun j hj=>by rw[L.more_old (h.ca.lt j hj)];exact h.kc j hj
 refine⟨h.krow hk (by decide),h.low,hT,h.kout hk (by decide),h.kcache hk (by decide),h.cp,h.lowC,h.krules hk (by decide),fun j hj=>Nat.lt_of_lt_of_le (h.rlt j hj) hK.size,(L.more_old h.lt).trans h.ky,(L.more_old h.t.lt).trans h.kt,fun j hj=> ?_,(L.more_old h.o.lt).trans h.ko,fun j hj=>(L.more_old (h.mapo hj)).trans (h.k2 j hj),hS,fun j hj=>(L.more_old (h.rlt j hj)).trans (h.kr j hj)⟩
 rcases hon with e | hn
 ·have hj':L.tv.ownBlock=some j:=e.symm.trans hj;exact(L.more_old (h.mapt hj')).trans (h.k1 j hj')
 ·exact L.more_new (hn j hj)
theorem NdAt.outs(h:NdAt B W yb L y){os:Tf.Fs}{v':Value}(hT:RTreeAt B W' L.ob os v')(hon:RowON W L.ov v')(hK:Kept (mS L.ob L.ov) W W'):NdAt B W' yb { L with ov:=v',k:=L.more W.heap.size 2 } { y with os:=os }:=by
 have hk:Kept (fun j=>L.k j=2) W W':=⟨hK.size,fun j hj hs=>hK.block j hj fun e=>hs (e.elim (fun e=>by rw[e];exact h.ko) fun e=>h.k2 j e)⟩
 have hS:∀ j,L.SC j->L.more W.heap.size 2 j=3:=fun j hj=>by rw[L.more_old (h.ca.lt j hj)];exact h.kc j hj
 refine⟨h.krow hk (by decide),h.low,h.kfiles hk (by decide),hT,h.kcache hk (by decide),h.cp,h.lowC,h.krules hk (by decide),fun j hj=>Nat.lt_of_lt_of_le (h.rlt j hj) hK.size,(L.more_old h.lt).trans h.ky,(L.more_old h.t.lt).trans h.kt,fun j hj=>(L.more_old (h.mapt hj)).trans (h.k1 j hj),(L.more_old h.o.lt).trans h.ko,fun j hj=> ?_,hS,fun j hj=>(L.more_old (h.rlt j hj)).trans (h.kr j hj)⟩
 rcases hon with e | hn
 ·have hj':L.ov.ownBlock=some j:=e.symm.trans hj;exact(L.more_old (h.mapo hj')).trans (h.k2 j hj')
 ·exact L.more_new (hn j hj)
theorem NdAt.cached(h:NdAt B W yb L y){c:Bf.Ca}{SC:Nat->Prop}(hC:MCa SC W' L.cv c)(hz:W.heap.size<=W'.heap.size)(hb:∀ j,j<W.heap.size->¬ L.SC j->W'.heap[j]? =W.heap[j]?)(hS:∀ j,SC j->L.SC j\/W.heap.size<=j)(hlt:∀ j,L.SC j->j<W.heap.size):NdAt B W' yb { L with SC:=SC,k:=L.more W.heap.size 3 } { y with c:=c }:=by
 have hk:Kept (fun j=>L.k j=3) W W':=⟨hz,fun j hj hs=>hb j hj fun e=>hs (h.kc j e)⟩
 have hB:B<=W.heap.size:=by have:=h.low;have:=h.lt;omega
 refine⟨h.krow hk (by decide),h.low,h.kfiles hk (by decide),h.kout hk (by decide),hC,h.cp,fun j hj=> ?_,h.krules hk (by decide),fun j hj=>Nat.lt_of_lt_of_le (h.rlt j hj) hz,(L.more_old h.lt).trans h.ky,(L.more_old h.t.lt).trans h.kt,fun j hj=>(L.more_old (h.mapt hj)).trans (h.k1 j hj),(L.more_old h.o.lt).trans h.ko,fun j hj=>(L.more_old (h.mapo hj)).trans (h.k2 j hj),fun j hj=> ?_,fun j hj=>(L.more_old (h.rlt j hj)).trans (h.kr j hj)⟩
 ·rcases hS j hj with e | e
  ·exact h.lowC j e
  ·omega
 ·rcases hS j hj with e | e
  ·exact(L.more_old (hlt j e)).trans (h.kc j e)
  ·exact L.more_new e
theorem NdAt.ruled{w1:World}(h:NdAt B W yb L y)(hb:Below W.heap.size W w1){lv:Value}{l:List Ru}(hl:∀ V:World,w1.heap.size<=V.heap.size->(∀ j,W.heap.size<=j->j<w1.heap.size->V.heap[j]? =w1.heap[j]?)->RRow V lv l)(hr:(w1.setCell ⟨yb,2,none⟩ lv).heap[yb]? =some (.cells #[Ptr L.tb,Ptr L.ob,lv,L.cv] 39 (0,0))):
  NdAt B (w1.setCell ⟨yb,2,none⟩ lv) yb { L with lv:=lv,R:=fun j=>W.heap.size<=j/\j<w1.heap.size,k:=L.more W.heap.size 4 } { y with l:=l }:=by
 have e1:(w1.setCell ⟨yb,2,none⟩ lv).heap.size=w1.heap.size:=by simp
 have hk:Kept (fun j=>L.k j=0) W (w1.setCell ⟨yb,2,none⟩ lv):=⟨by rw[e1];exact hb.size,fun j hj hs=>(Below.heap_setCell _ _ _ _ fun e=>hs (by have e':j=yb:=e;rw[e'];exact h.ky)).trans (hb.block j hj)⟩
 have hyl:=h.lt;have hS:∀ j,L.SC j->L.more W.heap.size 4 j=3:=fun j hj=>by rw[L.more_old (h.ca.lt j hj)];exact h.kc j hj
 refine⟨hr,h.low,h.kfiles hk (by decide),h.kout hk (by decide),h.kcache hk (by decide),h.cp,h.lowC,fun V hz hV=>hl V (by rw[<- e1];exact hz) fun j h1 h2=>(hV j ⟨h1,h2⟩).trans (Below.heap_setCell _ _ _ _ fun e=>by have e':j=yb:=e;omega),fun j hj=>by rw[e1];exact hj.2,(L.more_old h.lt).trans h.ky,(L.more_old h.t.lt).trans h.kt,fun j hj=>(L.more_old (h.mapt hj)).trans (h.k1 j hj),(L.more_old h.o.lt).trans h.ko,fun j hj=>(L.more_old (h.mapo hj)).trans (h.k2 j hj),hS,fun j hj=>L.more_new hj.1⟩
open Tf (Fs)
variable {fs:Fs}
theorem del_at(hr:Tf.Rises fs){k:Nat}(hk:k<fs.length):Tf.del fs fs[k].1=fs.take k++fs.drop (k+1):=by
 have e:fs=fs.take k++fs[k]::fs.drop (k+1):=by rw[List.getElem_cons_drop,List.take_append_drop]
 unfold Tf.del;conv=>lhs;arg 2;rw[e]
 rw[List.filter_append,List.filter_cons_of_neg (by simp)]
 congr 1
 ·rw[List.filter_eq_self];intro f hf
  obtain⟨j,hj,rfl⟩:=List.mem_iff_getElem.1 hf;rw[List.length_take]at hj;rw[List.getElem_take];simpa using Zhr hr (by omega) hk (by omega)
 ·rw[List.filter_eq_self];intro f hf
  obtain⟨j,hj,rfl⟩:=List.mem_iff_getElem.1 hf;rw[List.length_drop]at hj;rw[List.getElem_drop];simpa using Zhr hr (by omega) hk (by omega)
theorem Zwa{tb:Nat}(h:RTreeAt B w tb fs v)(hfew:fs.length<=1000)(p:List UInt8)(ht:Tf.hasP fs p=false):
  Calls prog 42 #[Ptr tb,.string (ba p)] w fun e w'=>e=.returned (.int .i64 6)/\w'=w:=by
 have HF:=Zaz h hfew p;go_enter func42,ntmps42
 go_wp2_with fail;refine HF.mono ?_;rintro e w1 ⟨hres,rfl⟩;rcases hres with ⟨k',hk',_,hp'⟩ | ⟨_,rfl⟩
 ·exfalso
  have:Tf.hasP fs p=true:=List.any_eq_true.2 ⟨fs[k'],List.getElem_mem hk',by simp[hp']⟩
  rw[this]at ht;cases ht
 ·go_wp2;go_ret;exact⟨rfl,rfl⟩
theorem Zse{tb:Nat}{f:List UInt8×List UInt8}(h:RTreeAt B w tb [f] v):
  Calls prog 42 #[Ptr tb,.string (ba f.1)] w fun e w'=>e=.returned (.int .i64 0)/\(∃ v',RowON w v v'/\RTreeAt B w' tb [] v')/\Below B w w'/\Kept (mS tb v) w w':=by
 have hBw:B<=w.heap.size:=by have:=h.low;have:=h.lt;omega
 obtain⟨i0,hi,hz0,hz1,hz2⟩:=info_parts Tryz.infoRFile;have HF:=Zaz h (by simp) f.1
 have hcell:=h.cell;have hfree:=h.free;have htb:=h.lt;have hrow:=FRow.of_owns h.row;obtain⟨pa,cap,rfl,hcap,hin⟩:=hrow;obtain⟨g,cur,rfl,hg,hcur⟩:=hin (by simp)
 have y4:(1:Int)<=(cap:Int):=by simp at hcap;omega
 have zc:1<cap\/1=cap:=by simp at hcap;omega
 clear hin hcur;go_enter func42,ntmps42
 go_wp2_with fail;refine HF.mono ?_;rintro e w1 ⟨hres,rfl⟩;rcases hres with ⟨k',hk',rfl,hp'⟩ | ⟨hf,_⟩
 ·obtain rfl:k'=0:=by simp at hk';exact hk'
  rcases zc with zc | zc
  ·have zc1:(1:Int)<(cap:Int):=by omega
   go_wp2_with (first
    | (at_builtin;have gr1':=gr1;refine wpList_append_own_at _ rfl _ _ 67 rfl B 71 i0 (.agg #[.string ⟨#[]⟩,.string ⟨#[]⟩]) 2 32 underlying67 hi hz0 hz1 hz2 rfl (by decide) (.slice none 0 0) 0 [] rfl (World.ownsRow_nil _ _ _ _) _ 0 _ [] rfl rfl (by simp) (by simp) (by unfold maxLen;omega) (by omega) (by have:=b3.size;omega) ?_;intro v5 w5 o5 gr5 n5 loc5;(obtain rfl:=n5.2 ⟨rfl,rfl⟩);(have b5:Below w1.heap.size w1 w5:=b3.grown gr5 b3.size (fun j e=>by cases e));(have hcell5:=Zaa hcell b5);(have hfree5:=(b5.frozen (p:=⟨tb,0,none⟩) htb).trans hfree))
    | (at_builtin;refine wpList_append_own_at _ rfl _ _ 67 rfl B 71 i0 (.agg #[.string ⟨#[]⟩,.string ⟨#[]⟩]) 2 32 underlying67 hi hz0 hz1 hz2 rfl (by decide) (.slice none 0 0) 0 [] rfl (World.ownsRow_nil _ _ _ _) ⟨g,0,none⟩ 0 _ [] rfl rfl (by simp) (by simp) (by unfold maxLen;omega) (by omega) hBw ?_;intro v3 w3 o3 gr1 n3 loc3;(obtain rfl:=n3.2 ⟨rfl,rfl⟩);(have b3:Below w1.heap.size w1 w3:=(Below.refl _ w1).grown gr1 (Nat.le_refl _) (fun j e=>by cases e));(have hcell3:=Zaa hcell b3))
    | go_in)
   all_goals
    go_wp2;go_ret;refine⟨rfl,⟨_,.inr (fun j e=>by cases e),h.low,World.cell?_setCell_same' _ _ _ (by rw[hcell5];rfl),by rw[World.frozen?_setCell];exact hfree5,World.ownsRow_nil _ _ _ _,(fun e=>by cases e),fun _=>rfl⟩,(b5.mono hBw).setCell (p:=⟨tb,0,none⟩) h.low _,(Kept.of b5).setCell (p:=⟨tb,0,none⟩) (.inl rfl) _⟩
  ·subst zc;go_wp2_with (first
    | (at_builtin;have gr1':=gr1;refine wpList_append_own_at _ rfl _ _ 67 rfl B 71 i0 (.agg #[.string ⟨#[]⟩,.string ⟨#[]⟩]) 2 32 underlying67 hi hz0 hz1 hz2 rfl (by decide) (.slice none 0 0) 0 [] rfl (World.ownsRow_nil _ _ _ _) _ 0 _ [] rfl rfl (by simp) (by simp) (by unfold maxLen;omega) (by omega) (by have:=b3.size;omega) ?_;intro v5 w5 o5 gr5 n5 loc5;(obtain rfl:=n5.2 ⟨rfl,rfl⟩);(have b5:Below w1.heap.size w1 w5:=b3.grown gr5 b3.size (fun j e=>by cases e));(have hcell5:=Zaa hcell b5);(have hfree5:=(b5.frozen (p:=⟨tb,0,none⟩) htb).trans hfree))
    | (at_builtin;refine wpList_append_own_at _ rfl _ _ 67 rfl B 71 i0 (.agg #[.string ⟨#[]⟩,.string ⟨#[]⟩]) 2 32 underlying67 hi hz0 hz1 hz2 rfl (by decide) (.slice none 0 0) 0 [] rfl (World.ownsRow_nil _ _ _ _) ⟨g,0,none⟩ 0 _ [] rfl rfl (by simp) (by simp) (by unfold maxLen;omega) (by omega) hBw ?_;intro v3 w3 o3 gr1 n3 loc3;(obtain rfl:=n3.2 ⟨rfl,rfl⟩);(have b3:Below w1.heap.size w1 w3:=(Below.refl _ w1).grown gr1 (Nat.le_refl _) (fun j e=>by cases e));(have hcell3:=Zaa hcell b3))
    | go_in)
   all_goals
    go_wp2;go_ret;refine⟨rfl,⟨_,.inr (fun j e=>by cases e),h.low,World.cell?_setCell_same' _ _ _ (by rw[hcell5];rfl),by rw[World.frozen?_setCell];exact hfree5,World.ownsRow_nil _ _ _ _,(fun e=>by cases e),fun _=>rfl⟩,(b5.mono hBw).setCell (p:=⟨tb,0,none⟩) h.low _,(Kept.of b5).setCell (p:=⟨tb,0,none⟩) (.inl rfl) _⟩
 ·simp[Tf.hasP]at hf
theorem Zoy{tb:Nat}(h:RTreeAt B w tb fs v)(hr:Tf.Rises fs)(hfew:fs.length<=1000)(h2:2<=fs.length)(p:List UInt8)(ht:Tf.hasP fs p=true):
  Calls prog 42 #[Ptr tb,.string (ba p)] w fun e w'=>e=.returned (.int .i64 0)/\(∃ v',RowON w v v'/\RTreeAt B w' tb (Tf.del fs p) v')/\Below B w w'/\Kept (mS tb v) w w':=by
 have hBw:B<=w.heap.size:=by have:=h.low;have:=h.lt;omega
 obtain⟨i0,hi,hz0,hz1,hz2⟩:=info_parts Tryz.infoRFile;have HF:=Zaz h hfew p;have hcell:=h.cell;have hfree:=h.free;have htb:=h.lt;have hrow:=FRow.of_owns h.row;obtain⟨pa,cap,rfl,hcap,hin⟩:=hrow;obtain⟨g,cur,rfl,hg,hcur⟩:=hin (by intro e;rw[e]at h2;simp at h2)
 have src:=h.row.cells (g:=g) rfl;have M0:=Made.start B w tb;clear hin hcur;go_enter func42,ntmps42
 go_wp2_with fail;refine HF.mono ?_;rintro e w1 ⟨hres,rfl⟩;rcases hres with ⟨k',hk',rfl,hp'⟩ | ⟨hf,_⟩
 ·have ep:Hid (Tf.del fs p=fs.take k'++fs.drop (k'+1)):=by rw[<- hp'];exact del_at hr hk'
  have y4:(fs.length:Int)<=(cap:Int):=by omega
  have src1:∀ j u,(Zae (fs.take k'))[j]? =some u->w1.cell? ((⟨g,0,none⟩:Addr).add j)=some u:=fun j u hj=>src j u (by rw[Zbx,List.getElem?_take]at hj;split at hj;exact hj;cases hj)
  have src2:∀ j u,(Zae (fs.drop (k'+1)))[j]? =some u->w1.cell? ((⟨g,(k'+1)*2,none⟩:Addr).add j)=some u:=fun j u hj=>by
   rw[Zby,List.getElem?_drop]at hj;have:=src _ u hj;rw[add_plain]at this ⊢;simpa using this
  have ln1:(fs.take k').length=k':=by rw[List.length_take];omega
  have ln2:(fs.drop (k'+1)).length=fs.length - (k'+1):=List.length_drop;have zc:k'+1<cap\/k'+1=cap:=by omega
  have hlN:(fs.take k'++fs.drop (k'+1)).length=fs.length - 1:=by rw[List.length_append,ln1,ln2];omega
  have hneN:fs.take k'++fs.drop (k'+1)≠[]:=fun e=>by rw[e]at hlN;simp at hlN;omega
  have yd:((fs.length - (k'+1):Nat):Int)=(fs.length:Int) - ((k':Int)+1):=by omega
  rcases zc with zc | zc
  ·have zc1:(k':Int)+1<(cap:Int):=by omega
   have zc2:¬ cap=k'+1:=by omega
   go_wp2_with (first
    | (at_builtin;have M1':=M1;refine wpList_append_own_at _ rfl _ _ 67 rfl B 71 i0 (.agg #[.string ⟨#[]⟩,.string ⟨#[]⟩]) 2 32 underlying67 hi hz0 hz1 hz2 rfl (by decide) _ _ _ rfl M1'.row _ (fs.length - (k'+1)) _ (Zae (fs.drop (k'+1))) rfl (by rw[Zay,ln2]) (fun j u hj=>M1.cell (src2 j u hj)) (Zau _) (by unfold maxLen;rw[ln1];omega) (by rw[ln1];omega) (by have:=M1.below.size;omega) ?_;intro v3 w5 o3 gr3 n3 loc3;(have M3:Made B w1 w5 tb v3 (fs.take k'++fs.drop (k'+1)):=M1.more (m:=fs.drop (k'+1)) (by rw[ln2];exact o3) gr3 rfl loc3);(have hcell5:=M3.cell hcell);(have hfree5:=(M3.below.frozen (p:=⟨tb,0,none⟩) htb).trans hfree);(obtain⟨g3,c3,rfl⟩:=M3.shape hneN (fs.length - 1) hlN))
    | (at_builtin;refine wpList_append_own_at _ rfl _ _ 67 rfl B 71 i0 (.agg #[.string ⟨#[]⟩,.string ⟨#[]⟩]) 2 32 underlying67 hi hz0 hz1 hz2 rfl (by decide) (.slice none 0 0) 0 [] rfl (World.ownsRow_nil _ _ _ _) ⟨g,0,none⟩ k' _ (Zae (fs.take k')) rfl (by rw[Zay,ln1]) src1 (Zau _) (by unfold maxLen;omega) (by omega) hBw ?_;intro v1 w3 o1 gr1 n1 loc1;have M1:Made B w1 w3 tb v1 (fs.take k'):=M0.more (l:=[]) (m:=fs.take k') (by rw[ln1];exact o1) gr1 rfl loc1;have hcell3:=M1.cell hcell)
    | go_in)
   all_goals
    go_wp2;go_ret;have hne3:_≠some tb:=fun e=>by have:=M3.new tb e;omega
    rw[ep.out];refine⟨rfl,⟨_,.inr (fun j e=>M3.new j e),h.low,World.cell?_setCell_same' _ _ _ (by rw[hcell5];rfl),by rw[World.frozen?_setCell];exact hfree5,?_,hne3,fun e=>absurd e hneN⟩,(M3.below.mono hBw).setCell (p:=⟨tb,0,none⟩) h.low _,(Kept.of M3.below).setCell (p:=⟨tb,0,none⟩) (.inl rfl) _⟩
    exact ownsRow_setCell_other M3.row (a:=⟨tb,0,none⟩) hne3 _
  ·have hd0:fs.drop (k'+1)=[]:=List.drop_eq_nil_of_le (by omega)
   have zc1:(cap:Int)=(k':Int)+1:=by omega
   subst zc;go_wp2_with (first
    | (at_builtin;have M1':=M1;refine wpList_append_own_at _ rfl _ _ 67 rfl B 71 i0 (.agg #[.string ⟨#[]⟩,.string ⟨#[]⟩]) 2 32 underlying67 hi hz0 hz1 hz2 rfl (by decide) _ _ _ rfl M1'.row _ _ _ (Zae (fs.drop (k'+1))) rfl (by rw[hd0];first | rfl | (show 0=_;omega)) (fun j u hj=>by rw[hd0]at hj;simp[Zae]at hj) (Zau _) (by unfold maxLen;rw[ln1];omega) (by rw[ln1];omega) (by have:=M1.below.size;omega) ?_;intro v3 w5 o3 gr3 n3 loc3;(have M3:Made B w1 w5 tb v3 (fs.take k'++fs.drop (k'+1)):=M1.more (m:=fs.drop (k'+1)) (by rw[hd0]at o3 ⊢;simpa[Zae,ln1] using o3) gr3 rfl loc3);(have hcell5:=M3.cell hcell);(have hfree5:=(M3.below.frozen (p:=⟨tb,0,none⟩) htb).trans hfree);(obtain⟨g3,c3,rfl⟩:=M3.shape hneN (fs.length - 1) hlN))
    | (at_builtin;refine wpList_append_own_at _ rfl _ _ 67 rfl B 71 i0 (.agg #[.string ⟨#[]⟩,.string ⟨#[]⟩]) 2 32 underlying67 hi hz0 hz1 hz2 rfl (by decide) (.slice none 0 0) 0 [] rfl (World.ownsRow_nil _ _ _ _) ⟨g,0,none⟩ k' _ (Zae (fs.take k')) rfl (by rw[Zay,ln1]) src1 (Zau _) (by unfold maxLen;omega) (by omega) hBw ?_;intro v1 w3 o1 gr1 n1 loc1;have M1:Made B w1 w3 tb v1 (fs.take k'):=M0.more (l:=[]) (m:=fs.take k') (by rw[ln1];exact o1) gr1 rfl loc1;have hcell3:=M1.cell hcell)
    | go_in)
   all_goals
    go_wp2;go_ret;have hne3:_≠some tb:=fun e=>by have:=M3.new tb e;omega
    rw[ep.out];refine⟨rfl,⟨_,.inr (fun j e=>M3.new j e),h.low,World.cell?_setCell_same' _ _ _ (by rw[hcell5];rfl),by rw[World.frozen?_setCell];exact hfree5,?_,hne3,fun e=>absurd e hneN⟩,(M3.below.mono hBw).setCell (p:=⟨tb,0,none⟩) h.low _,(Kept.of M3.below).setCell (p:=⟨tb,0,none⟩) (.inl rfl) _⟩
    exact ownsRow_setCell_other M3.row (a:=⟨tb,0,none⟩) hne3 _
 ·rw[ht]at hf;cases hf
theorem Zfo{tb:Nat}(h:RTreeAt B w tb fs v)(hw:Tf.Well pathB fs)(p:List UInt8):
  Calls prog 42 #[Ptr tb,.string (ba p)] w fun e w'=>e=.returned (.int .i64 ((if Tf.hasP fs p then 0 else 6:Nat):Int))/\(∃ v',RowON w v v'/\RTreeAt B w' tb (Tf.del fs p) v')/\Below B w w'/\Kept (mS tb v) w w':=by
 have hBw:B<=w.heap.size:=by have:=h.low;have:=h.lt;omega
 cases ht:Tf.hasP fs p with
 | false =>
  rw[Tf.del_none ht];exact(Zwa h (by have:=hw.few;omega) p ht).mono fun e w' ⟨h1,h2⟩=>by
   subst h2;exact⟨h1,⟨_,.inl rfl,h⟩,Below.refl _ _,.refl _ _⟩
 | true =>
  rcases Nat.lt_or_ge fs.length 2 with h2 | h2
  ·match fs,h2 with
   | [],_=>simp[Tf.hasP]at ht
   | [f],_ =>
    obtain rfl:f.1=p:=by simpa[Tf.hasP] using ht
    rw[show Tf.del [f] f.1=[] by simp[Tf.del]]
    exact Zse h
  ·exact Zoy h hw.rises (by have:=hw.few;omega) h2 p ht
structure NLays(B:Nat)(g:Gr)(W1:World)(yb:Nat)(L:NL)(y:Bf.Yd)(mb tb':Nat)(tv':Value)(gs go gh gw:Nat)(d:Bf.Bd)(os:Tf.Fs)(L':NL)(w:World):Prop where
 yard:NdAt B w yb L' { y with os:=os }
 build:MB g w mb tb' tv' L.lv L.cv gs go gh gw d
 apart:∀ j,MBlk mb tb' tv' gs go gh gw j->j≠L'.ob/\L'.ov.ownBlock≠some j
 base:Below B W1 w
 size:W1.heap.size<=w.heap.size
 rest:∀ j,j<W1.heap.size->j≠L.ob->L.ov.ownBlock≠some j->w.heap[j]? =W1.heap[j]?
 row:∀ j,L'.ov.ownBlock=some j->L.ov.ownBlock=some j\/W1.heap.size<=j
 tb:L'.tb=L.tb
 ob:L'.ob=L.ob
 lv:L'.lv=L.lv
 cv:L'.cv=L.cv
 kk:∀ j,j<W1.heap.size->L'.k j=L.k j
theorem NLays.below{B:Nat}{g:Gr}{W1:World}{yb:Nat}{L:NL}{y:Bf.Yd}{mb tb':Nat}{tv':Value}{gs go gh gw:Nat}{d:Bf.Bd}{os:Tf.Fs}{L':NL}{w w':World}(h:NLays B g W1 yb L y mb tb' tv' gs go gh gw d os L' w)(hb:Below w.heap.size w w'):NLays B g W1 yb L y mb tb' tv' gs go gh gw d os L' w' :=
 ⟨h.yard.below hb,h.build.below hb,h.apart,h.base.trans (hb.mono (by have:=h.yard.low;have:=h.yard.lt;omega)),Nat.le_trans h.size hb.size,fun j h1 h2 h3=>(hb.block j (by have:=h.size;omega)).trans (h.rest j h1 h2 h3),h.row,h.tb,h.ob,h.lv,h.cv,h.kk⟩
theorem NLays.wrote{g:Gr}{W1:World}{tb':Nat}{tv':Value}{go:Nat}{os os':Tf.Fs}{L':NL}(h:NLays B g W1 yb L y mb tb' tv' gs go gh gw d os L' w) 
  (hn:g.w.heap.size<=W1.heap.size) (hR:∀ j,j<g.w.heap.size->¬ g.C j->j≠L.ob/\L.ov.ownBlock≠some j)
  {v':Value} (hon:RowON w L'.ov v') (hT:RTreeAt B w' L'.ob os' v') (hB:Below B w w') (hK:Kept (mS L'.ob L'.ov) w w'):NLays B g W1 yb L y mb tb' tv' gs go gh gw d os' { L' with ov:=v',k:=L'.more w.heap.size 2 } w':=by
 have hM:=h.build;have hlt:=hM.lt;have hrest:∀ j,j<W1.heap.size->j≠L.ob->L.ov.ownBlock≠some j->w'.heap[j]? =w.heap[j]? :=fun j h1 h2 h3=>hK.block j (by have:=h.size;omega) fun e=>by
  rcases e with e | e
  ·exact h2 (e.trans h.ob)
  ·rcases h.row j e with h4 | h4
   ·exact h3 h4
   ·omega
 have hO:Only g.C g.w w':=⟨hB.os.trans hM.base.os,hB.tape.trans hM.base.tape,hB.output.trans hM.base.output,Nat.le_trans hM.base.size hK.size,fun j hj hs=>by
  obtain⟨r1,r2⟩:=hR j hj hs;exact(hrest j (by omega) r1 r2).trans (hM.base.block j hj hs)⟩
 refine⟨h.yard.outs hT hon hK,hM.same hO hK.size fun j hj=>hK.block j (hlt j hj) fun e=>e.elim (h.apart j hj).1 (h.apart j hj).2,fun j hj=>⟨(h.apart j hj).1,fun e=> ?_⟩,h.base.trans hB,Nat.le_trans h.size hK.size,fun j h1 h2 h3=>(hrest j h1 h2 h3).trans (h.rest j h1 h2 h3),fun j e=> ?_,h.tb,h.ob,h.lv,h.cv,fun j hj=>(L'.more_old (Nat.lt_of_lt_of_le hj h.size)).trans (h.kk j hj)⟩
 ·have e':v'.ownBlock=some j:=e;rcases hon with h1 | h1
  ·exact(h.apart j hj).2 (h1.symm.trans e')
  ·have:=h1 j e';have:=hlt j hj;omega
 ·have e':v'.ownBlock=some j:=e;rcases hon with h1 | h1
  ·exact h.row j (h1.symm.trans e')
  ·have:=h1 j e';have:=h.size;exact .inr (by omega)
def NOwn(yb:Nat)(L:NL)(j:Nat):Prop:=j=yb\/j=L.tb\/L.tv.ownBlock=some j\/j=L.ob\/L.ov.ownBlock=some j\/L.SC j\/L.R j
open Classical in
theorem NdAt.stay(h:NdAt B W yb L y)(hz:W.heap.size<=W'.heap.size)(hb:∀ j,j<W.heap.size->NOwn yb L j->W'.heap[j]? =W.heap[j]?):NdAt B W' yb L y:=by
 have hk:∀ j,NOwn yb L j->(fun j=>if NOwn yb L j then L.k j else 9) j=L.k j:=fun j hj=>if_pos hj
 have h2:NdAt B W yb { L with k:=fun j=>if NOwn yb L j then L.k j else 9 } y :=
  ⟨h.row,h.low,h.t,h.o,h.ca,h.cp,h.lowC,h.rows,h.rlt,(hk _ (.inl rfl)).trans h.ky,(hk _ (.inr (.inl rfl))).trans h.kt,fun j hj=>(hk j (.inr (.inr (.inl hj)))).trans (h.k1 j hj),(hk _ (.inr (.inr (.inr (.inl rfl))))).trans h.ko,fun j hj=>(hk j (.inr (.inr (.inr (.inr (.inl hj)))))).trans (h.k2 j hj),fun j hj=>(hk j (.inr (.inr (.inr (.inr (.inr (.inl hj))))))).trans (h.kc j hj),fun j hj=>(hk j (.inr (.inr (.inr (.inr (.inr (.inr hj))))))).trans (h.kr j hj)⟩
 have h3:=h2.aside (W':=W') ⟨hz,fun j hj hn=>hb j hj (Classical.byContradiction fun ho=>hn (if_neg ho))⟩
 exact⟨h3.row,h3.low,h3.t,h3.o,h3.ca,h3.cp,h3.lowC,h3.rows,h3.rlt,h.ky,h.kt,h.k1,h.ko,h.k2,h.kc,h.kr⟩
theorem NdAt.own_low(h:NdAt B W yb L y)(hR:∀ j,L.R j->B<=j){j:Nat}(hj:NOwn yb L j):B<=j:=by
 rcases hj with rfl | rfl | e | rfl | e | e | e
 ·exact h.low
 ·exact h.t.low
 ·exact(h.t.row.lt j e).1
 ·exact h.o.low
 ·exact(h.o.row.lt j e).1
 ·exact h.lowC j e
 ·exact hR j e
structure NStep(W w':World)(L L':NL):Prop where
 size:W.heap.size<=w'.heap.size
 rest:∀ j,j<W.heap.size->L.k j=9->w'.heap[j]? =W.heap[j]?
 kk:∀ j,j<W.heap.size->L'.k j=L.k j
 tb:L'.tb=L.tb
theorem NStep.refl(W:World)(L:NL):NStep W W L L:=⟨Nat.le_refl _,fun _ _ _=>rfl,fun _ _=>rfl,rfl⟩
theorem NStep.trans{W V U:World}{L M N:NL}(h:NStep W V L M)(h':NStep V U M N):NStep W U L N :=
 ⟨Nat.le_trans h.size h'.size,fun j hj hk=>(h'.rest j (Nat.lt_of_lt_of_le hj h.size) ((h.kk j hj).trans hk)).trans (h.rest j hj hk),fun j hj=>(h'.kk j (Nat.lt_of_lt_of_le hj h.size)).trans (h.kk j hj),h'.tb.trans h.tb⟩
theorem NStep.below{V:World}(L:NL)(h:Below W.heap.size W V):NStep W V L L:=⟨h.size,fun j hj _=>h.block j hj,fun _ _=>rfl,rfl⟩
theorem NdAt.files2(h:NdAt B W yb L y){fs:Tf.Fs}{v':Value}(hT:RTreeAt B W' L.tb fs v')(hon:RowON W L.tv v')(hK:Kept (mS L.tb L.tv) W W'):∃ L',NdAt B W' yb L' { y with fs:=fs }/\NStep W W' L L' :=
 ⟨_,h.files hT hon hK,hK.size,fun j hj h9=>hK.block j hj fun e=>e.elim (fun e=>by rw[e,h.kt]at h9;omega) fun e=>by rw[h.k1 j e]at h9;omega,fun j hj=>L.more_old hj,rfl⟩
theorem Tryz.infoRFileC:(prog.info? 71).map (fun i=>(i.zero,i.size,i.bytes))=some (some (.agg #[.string ⟨#[]⟩,.string ⟨#[]⟩]),2,32):=by kernel_rfl
theorem Ycv{fs:Tf.Fs}:∀ u∈Zae fs,u.oneCell'=true:=fun u hu=>by
 unfold Zae at hu;obtain⟨f,_,h⟩:=List.mem_flatMap.1 hu;simp at h;rcases h with rfl | rfl <;> rfl
theorem Zkx{tb:Nat}{fs:Tf.Fs}{tv:Value}(h:RTreeAt B w tb fs tv)(hn:fs.length<=1000):
  Calls prog 110 #[Ptr tb] w fun e w'=>∃ tv',e=.returned (Ptr w.heap.size)/\RTreeAt w.heap.size w' w.heap.size fs tv'/\Below w.heap.size w w':=by
 have g0:Below w.heap.size w (w.alloc (.cells #[.slice none 0 0] 69)):=(Below.refl _ w).alloc (Nat.le_refl _) _;have h0:=h.below g0;have c0:=h0.cell;have b0:(w.alloc (.cells #[.slice none 0 0] 69)).cell? ⟨w.heap.size,0,none⟩=some (.slice none 0 0):=by simp
 have b1:(w.alloc (.cells #[.slice none 0 0] 69)).frozen? ⟨w.heap.size,0,none⟩=false:=by simp
 have hz:(w.alloc (.cells #[.slice none 0 0] 69)).heap.size=w.heap.size+1:=by simp
 obtain⟨i0,hi,hz0,hz1,hz2⟩:=info_parts Tryz.infoRFileC;have HH:=hid1 h0;have HG:=hid1 g0;have hN:(w.alloc (.cells #[.slice none 0 0] 69)).ownsRow (w.heap.size+1) 71 2 (.slice none 0 0) 0 []:=World.ownsRow_nil _ _ _ _;by_cases hfs:fs=[]
 ·subst hfs;obtain rfl:=h.nil rfl;clear h h0 g0;generalize hW0:w.alloc (.cells #[.slice none 0 0] 69)=W0 at *;go_enter func110,ntmps110
  go_wp2;go_region;go_wp2;go_ret;refine⟨.slice none 0 0,rfl,⟨Nat.le_refl _,?_,?_,World.ownsRow_nil _ _ _ _,by simp[Value.ownBlock],fun _=>rfl⟩,?_⟩
  ·exact World.cell?_setCell_same' _ _ _ (by show(W0.cell? _).isSome=true;rw[b0];rfl)
  ·show(W0.setCell ⟨w.heap.size,0,none⟩ (.slice none 0 0)).frozen? ⟨w.heap.size,0,none⟩=false
   rw[World.frozen?_setCell];exact b1
  ·exact Zgb (B:=w.heap.size) HG.out.drew (Nat.le_refl _) _
 ·obtain⟨tp,tcap,rfl,htc,htr⟩:=FRow.of_owns h0.row;obtain⟨tg,tcur,rfl,htb,htl⟩:=htr hfs;have hnews:∀ j u,(Zae fs)[j]? =some u->(w.alloc (.cells #[.slice none 0 0] 69)).cell? ((⟨tg,0,none⟩:Addr).add j)=some u:=h0.row.cells (g:=tg) rfl
  have hel:(Zae fs).length=fs.length*2:=h0.row.1;have hpos:0<fs.length:=List.length_pos_iff.2 hfs;have hml:0+fs.length<=maxLen:=by unfold maxLen;omega
  clear h h0 g0 htb htl;generalize hW0:w.alloc (.cells #[.slice none 0 0] 69)=W0 at *;have hW0l:w.heap.size<W0.heap.size:=by omega
  have hNd:W0.drew.ownsRow (w.heap.size+1) 71 2 (.slice none 0 0) 0 []:=hN;have hnewsd:∀ j u,(Zae fs)[j]? =some u->W0.drew.cell? ((⟨tg,0,none⟩:Addr).add j)=some u:=hnews
  go_enter func110,ntmps110
  go_wp2
  go_region_law (refine step_append_lies _ rfl (.tmp 10) (.tmp 14) 67 rfl (w.heap.size+1) 71 i0 (.agg #[.string ⟨#[]⟩,.string ⟨#[]⟩]) 2 32 underlying67 hi hz0 hz1 hz2 rfl (by decide) (.slice none 0 0) 0 [] rfl hNd ⟨tg,0,none⟩ fs.length tcap (Zae fs) rfl hel hnewsd Ycv hpos hml (by omega) (by show w.heap.size+1<=W0.heap.size;omega) _ rfl ?_;intro g8 cap8 w8 hown8 hgrow8 hlies8 hlt8;(have d0:w8.cell? ⟨w.heap.size,0,none⟩=some (.slice none 0 0):=(World.grownBy.cell_far hgrow8 ⟨w.heap.size,0,none⟩ (by show w.heap.size<W0.heap.size;omega) (by simp[Value.ownBlock])).trans b0);(have d1:w8.frozen? ⟨w.heap.size,0,none⟩=false:=(World.grownBy.frozen_far hgrow8 ⟨w.heap.size,0,none⟩ (by show w.heap.size<W0.heap.size;omega) (by simp[Value.ownBlock])).trans b1);(have HE:=hid1 (And.intro hown8 (And.intro hgrow8 hlt8)));clear hown8 hgrow8 hlies8)
  all_goals
   go_wp2;go_ret;obtain⟨hown8,hgrow8,hlt8⟩:=HE.out;have hge:=(hown8.lt g8 rfl).1;refine⟨_,rfl,⟨Nat.le_refl _,World.cell?_setCell_same' _ _ _ (by rw[d0];rfl),by rw[World.frozen?_setCell];exact d1,?_,?_,fun e=>absurd e hfs⟩,?_⟩
   ·have h1:=hown8;rw[Nat.zero_add,List.nil_append]at h1;refine⟨h1.1,?_⟩;rcases h1.2 with ⟨e,_⟩ | ⟨g,cap,cur,e,h0,hg,h2⟩
    ·cases e
    ·refine .inr ⟨g,cap,cur,e,by omega,?_,h2⟩
     rw[Below.heap_setCell w8 ⟨w.heap.size,0,none⟩ _ g (by show g≠w.heap.size;omega)]
     exact hg
   ·simp[Value.ownBlock];omega
   ·have hb8:Below w.heap.size w w8:=⟨hgrow8.os.trans HG.out.os,hgrow8.tape.trans HG.out.tape,hgrow8.output.trans HG.out.output,by have h1:=hgrow8.size;have:W0.drew.heap.size=W0.heap.size:=rfl;omega,fun j hj=>(hgrow8.block j (by show j<W0.heap.size;omega) (by simp[Value.ownBlock])).trans (HG.out.block j hj)⟩
    exact Zgb hb8 (Nat.le_refl _) _
