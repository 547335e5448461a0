import Derived.Test.YtcplmkhclckagaaGreatDoorPR17
set_option maxRecDepth 100000
set_option maxHeartbeats 16000000
open Go.Proofs.Tryz
namespace Go.Proofs.YtcplmkhclckagaaGreatDoor
open Go.RowKit Go.Shelf Go.Lib
def rowB(n:Nat)(f:Nat->Bool):List Value:=(List.range n).map (fun j=>Value.bool (f j))
variable {n:Nat}
theorem Ybn(f:Nat->Bool){j:Nat}(h:j<n):(rowB n f)[j]? =some (.bool (f j)):=by
 simp[rowB,h]
variable {f:Nat->Bool}
theorem Zgj{g:Nat->Bool}(h:∀ j,j<n->f j=g j):rowB n f=rowB n g:=by
 unfold rowB;exact List.map_congr_left fun j hj=>by rw[h j (List.mem_range.1 hj)]
theorem Ybm(n:Nat)(f:Nat->Bool)(k:Nat)(b:Bool):(rowB n f).set k (.bool b)=rowB n (fun j=>if j=k then b else f j):=by
 apply List.ext_getElem?
 intro j
 unfold rowB;rw[List.getElem?_set];by_cases hj:j<n
 ·by_cases e:k=j
  ·subst e;simp[hj]
  ·have e':¬ j=k:=fun h=>e h.symm
   simp[hj,e,e']
 ·by_cases e:k=j
  ·subst e;simp[hj]
  ·simp[hj,e]
theorem Zyl(n:Nat):List.replicate n (Value.bool false)=rowB n (fun _=>false):=by
 unfold rowB;rw[List.map_const'];simp
def Own(W:World)(B g n:Nat)(f:Nat->Bool):Prop:=W.ownsRow B 4 1 (.slice (some ⟨g,0,none⟩) n n) n (rowB n f)
theorem Own.cell{W:World}{B g n:Nat}{f:Nat->Bool}(h:Own W B g n f){j:Nat}(hj:j<n):W.cell? ⟨g,j,none⟩=some (.bool (f j)):=by
 have:=World.ownsRow.cellAt h j (by omega)
 rw[this,Ybn f hj]
variable {W:World}{B g:Nat}
theorem Own.set{f':Nat->Bool}(h:Own W B g n f)(k:Nat)(b:Bool)(hf:∀ j,j<n->(if j=k then b else f j)=f' j):Own (W.setCell ⟨g,k,none⟩ (.bool b)) B g n f':=by
 have:=(World.ownsRow.stored h k (.bool b)).1;rw[Ybm,Zgj hf]at this;exact this
variable {w:World}
theorem Zfc{W':World}(hB:Below B w W)(hn:B<=W.heap.size)(hg:W.grownBy W' none):Below B w W' :=
 hB.grown hg hn (fun j e=>by cases e)
theorem Tryz.infoBool:(prog.info? 4).map (fun i=>(i.zero,i.size,i.bytes))=some (some (.bool false),1,1):=by kernel_rfl
theorem Znb(h:W.ownsRow B 4 1 (.slice (some ⟨g,0,none⟩) n n) n (madeCells (Value.bool false).cells (n*1)).toList):Own W B g n (fun _=>false):=by
 have e:(madeCells (Value.bool false).cells (n*1)).toList=rowB n (fun _=>false):=by
  rw[Nat.mul_one,<- Zyl];exact toList_madeCells_one _ _
 rw[e]at h;exact h
theorem Tryz.infoInt:(prog.info? 3).map (fun i=>(i.zero,i.size,i.bytes))=some (some (.int .i64 0),1,8):=by kernel_rfl
abbrev nv(x:Nat):Value:=.int .i64 (x:Int)
def slen:Value->Nat
 | .slice _ n _=>n
 | _=>0
def NRow(w:World)(v:Value)(l:List Nat):Prop :=
 ∃ p cap,v=.slice p l.length cap/\l.length<=cap/\(l≠[]->∃ g cur,p=some ⟨g,0,none⟩/\w.heap[g]? =some (.cells cur 3 (0,0))/\∀ j (hj:j<l.length),cur[j]? =some (nv l[j]))
variable {v:Value}
theorem NRow.of_owns{base:Nat}{l:List Nat}(h:w.ownsRow base 3 1 v n (l.map nv)):NRow w v l:=by
 have hn:n=l.length:=by have:=h.1;simp at this;omega
 subst hn;rcases h.2 with ⟨rfl,hn⟩ | ⟨g,cap,cur,rfl,_,hb,h1,_,_,h4⟩
 ·obtain rfl:l=[]:=by simpa using hn
  exact⟨none,0,rfl,Nat.le_refl _,fun h=>absurd rfl h⟩
 ·refine⟨_,cap,rfl,h1,fun _=>⟨g,cur,rfl,hb,fun j hj=> ?_⟩⟩
  have:=congrArg (fun x=>x[j]?) h4
  simp only[Nat.mul_one,List.getElem?_take,hj,if_true,List.getElem?_map,List.getElem?_eq_getElem hj,Option.map_some,Array.getElem?_toList]at this
  exact this
variable {e:TypeId}{xs:List Value}
theorem Zfp{base:Nat}{size:Nat}(h:w.ownsRow base e size v n xs):slen v=n:=by
 rcases h.2 with ⟨rfl,hn⟩ | ⟨g,cap,cur,rfl,_⟩
 ·exact hn.symm
 ·rfl
variable {base' size' n':Nat}{e':TypeId}{xs':List Value}
theorem Zwl{w1:World}{base:Nat}{size:Nat}{u:Value}(h:w.ownsRow base e size v n xs)(hu:w.ownsRow base' e' size' u n' xs')(he:e≠e')(hg:w.grownBy w1 u.ownBlock):w1.ownsRow base e size v n xs:=by
 refine h.kept hg ?_;rcases h.2 with ⟨rfl,_⟩ | ⟨g,cap,cur,rfl,_,hb,_⟩
 ·exact .inl rfl
 ·right
  rcases hu.2 with ⟨rfl,_⟩ | ⟨g',cap',cur',rfl,_,hb',_⟩
  ·simp[Value.ownBlock]
  ·simp only[Value.ownBlock,ne_eq,Option.some.injEq];rintro rfl;rw[hb]at hb';simp at hb';exact he hb'.2
theorem Zcb(W:World)(x:Value)(t:TypeId)(n:Nat)(hn:W.heap.size=n)(j:Nat)(u:Value)(h:[x][j]? =some u):(W.alloc (.cells #[x] t)).cell? ((⟨n,0,none⟩:Addr).add j)=some u:=by
 subst hn;exact cell_one_new W x t j u h
theorem Zug(n:Nat)(hn:n<=1000)(w:World):
  Calls prog 78 #[.int .i64 n] w fun e w'=>∃ g,e=.returned (.slice (some ⟨g,0,none⟩) n n)/\Own w' w.heap.size g n (fun _=>true)/\Below w.heap.size w w':=by
 obtain⟨i0,hi,hz0,hz1,hz2⟩:=info_parts Tryz.infoBool;have hml:n<=maxLen:=by unfold maxLen;omega
 have hby:i0.bytes*n<=281474976710656:=by rw[hz2];omega
 have zn:(n:Int)<=1000:=by omega
 go_enter func78,ntmps78
 go_wp2_with (at_make;refine wpList_make_full _ rfl _ _ 139 rfl w.heap.size 4 i0 (.bool false) 1 underlying139 hi hz0 hz1 .i64 .i64 _ _ n rfl rfl (by omega) (by omega) hby hml (Nat.le_refl _) ?_;intro w1 hown hgrow;have O1:=Znb hown)
 have B1:Below w.heap.size w w1:=Zfc (Below.refl _ w) (Nat.le_refl _) hgrow;clear hown hgrow;go_loopw [4] (fun i wr=>∃ k:Nat,k<=n/\i=.int .i64 k/\Own wr w.heap.size w.heap.size n (fun j=>decide (j<k))/\Below w.heap.size w wr) (fun i _=>n - (intOf i).toNat)
 case atStart=>exact⟨0,Nat.zero_le _,rfl,by simpa using O1,B1⟩
 case round =>
  obtain⟨k,hk,rfl,O,B⟩:=hrel;clear O1 B1;have c0:(0:Int)<=(k:Int):=by omega
  by_cases hlt:k<n
  ·have c1:(k:Int)<(n:Int):=by omega
   have hc:=O.cell hlt;have hf:=World.ownsRow.frozenAt O k;have O2:Own (wr.setCell ⟨w.heap.size,k,none⟩ (.bool true)) w.heap.size w.heap.size n (fun j=>decide (j<k+1)):=O.set k true fun j hj=>by
    by_cases e:j=k
    ·subst e;simp
    ·rw[if_neg e];simp;omega
   have B2:=B.setCell (p:=⟨w.heap.size,k,none⟩) (Nat.le_refl _) (.bool true);clear O B;go_wp2;exact⟨⟨k+1,by omega,by go_num,O2,B2⟩,by simp[intOf];omega⟩
  ·have c1:(n:Int)<=(k:Int):=by omega
   obtain rfl:k=n:=by omega
   have O2:Own wr w.heap.size w.heap.size k (fun _=>true):=by
    have e:rowB k (fun j=>decide (j<k))=rowB k (fun _=>true):=Zgj fun j hj=>by simpa using hj
    unfold Own at O ⊢;rw[<- e];exact O
   clear O;go_wp2;go_ret;exact⟨_,rfl,O2,B⟩
theorem Zbl(v:Value)(l:List Ru)(hrow:RRow w v l)(hl:∀ x∈l,x.ins.length<=1000000)(i k:Nat)(hi:i<l.length)(hk:k<l.length):
  Calls prog 113 #[v,.int .i64 i,.int .i64 k] w fun e w'=>e=.returned (.bool (Ru.needs l i k))/\∃ q,w'=w.drewN q:=by
 obtain⟨p,cap,rfl,hcap,hnn,hin⟩:=hrow;obtain⟨g,o,rfl,hg,hcur⟩:=hin (by intro e;rw[e]at hi;simp at hi)
 obtain⟨-,-,-,u,d3,ux⟩:=hcur i hi;obtain⟨d0,-⟩:=hcur k hk;have HX:=hid1 fun W (hW:Below w.heap.size w W)=>Zcl u l[i].ins l[k].out (ux.below hW).irow (hl _ (List.getElem_mem hi))
 have HQ:=hid1 (Ru.needs_eq hi hk);have ci:(i:Int)<(l.length:Int):=by omega
 have ck:(k:Int)<(l.length:Int):=by omega
 have c0:(0:Int)<=(i:Int):=by omega
 have c1:(0:Int)<=(k:Int):=by omega
 obtain⟨p3,cap3,rfl,-⟩:=ux;have HL:Hid (∀ r:Int,((r= -1/\l[k].out∉l[i].ins)\/∃ j:Nat,r=j/\∃ h:j<l[i].ins.length,l[i].ins[j]=l[k].out/\l[k].out∉l[i].ins.take j)->decide (0<=r)=Ru.needs l i k):=hid1 fun r h=>by
  rw[HQ.out,decide_eq_decide];rcases h with ⟨rfl,h⟩ | ⟨j,rfl,hj,he,_⟩
  ·exact⟨fun h=>by omega,fun h'=>absurd h' h⟩
  ·exact⟨fun _=>by rw[<- he];exact List.getElem_mem hj,fun _=>by omega⟩
 clear hin hcur hl hnn HQ;generalize Ru.needs l i k=d at *;generalize l[k].out=y at *;go_enter func113,ntmps113
 go_wp2;go_region_held3 (fun w'=>w'.cell? ⟨g,o+i*4+3,none⟩=some (.slice p3 l[i].ins.length cap3)/\w'.cell? ⟨g,o+k*4,none⟩=some (.string (ba y))) (first | go_keep | fail)
  (first | (go_at_call 91;refine(HX.out _ (by exact(Below.refl _ w).drew)).mono ?_;rintro e w5 ⟨r,rfl,rfl,hix⟩;have hdd:=HL.out r hix) | fail)
 all_goals
  go_wp2;go_ret;exact⟨rfl,1,rfl⟩
def nxV:Option Nat->Value
 | none=>.int .i64 (-1)
 | some i=>.int .i64 (i:Int)
theorem Zzw(o:List Nat)(i j:Nat):(if j=i then true else Ru.isIn o j)=Ru.isIn (o++[i]) j:=by
 unfold Ru.isIn;by_cases e:j=i
 ·simp[e]
 ·simp[e]
theorem Zul{base:Nat}{size:Nat}{m c:Nat}(h:w.ownsRow base e size v n xs)(hu:w.ownsRow base' e' size' (.slice (some ⟨g,0,none⟩) m c) n' xs')(he:e≠e'):v.ownBlock≠some g:=by
 rcases h.2 with ⟨rfl,_⟩ | ⟨b,cap,cur,rfl,_,hb,_⟩
 ·simp[Value.ownBlock]
 ·rcases hu.2 with ⟨h',_⟩ | ⟨g',cap',cur',h',_,hb',_⟩
  ·cases h'
  ·cases h'
   simp only[Value.ownBlock,ne_eq,Option.some.injEq];rintro rfl;rw[hb]at hb';simp at hb';exact he hb'.2
theorem len_le:∀ {n:Nat} {o:List Nat},o.Nodup->(∀ i∈o,i<n)->o.length<=n
 | 0,o,_,hb=>by
  cases o with
  | nil=>simp
  | cons a r=>exact absurd (hb a (by simp)) (by omega)
 | n+1,o,hd,hb=>by
  have h1:=len_le (n:=n) (hd.erase n) (fun i hi=>by
   obtain⟨hne,hm⟩:=(List.Nodup.mem_erase_iff hd).1 hi;have:=hb i hm;omega)
  by_cases hm:n∈o
  ·rw[List.length_erase_of_mem hm]at h1;omega
  ·rw[List.erase_of_not_mem hm]at h1;omega
theorem Zge(v:Value)(l:List Ru)(hrow:RRow w v l)(hn:l.length<=1000)(hl:∀ x∈l,x.ins.length<=1000000)(gs cs:Nat)(sm:Nat->Bool)(hs:∀ j,j<l.length->w.cell? ⟨gs,j,none⟩=some (.bool (sm j))):
  Calls prog 77 #[v,.slice (some ⟨gs,0,none⟩) l.length cs] w fun e w'=>∃ u b,e=.returned (.tuple #[u,.bool b])/\Below w.heap.size w w'/\((b=false/\u=.slice none 0 0/\Ru.order l sm=none)\/∃ o,b=true/\Ru.order l sm=some o/\NRow w' u o/\o.Nodup/\∀ i∈o,i<l.length):=by
 obtain⟨i0,hi,hz0,hz1,hz2⟩:=info_parts Tryz.infoBool;obtain⟨i1,hI,hI0,hI1,hI2⟩:=info_parts Tryz.infoInt;have HNeed:=hid1 fun W (hW:Below w.heap.size w W) i k (hi:i<l.length) (hk:k<l.length)=>Zbl v l (hrow.below hW) hl i k hi hk
 have HSm:=hid1 fun W (hW:Below w.heap.size w W) j (hj:j<l.length)=>Zaa (hs j hj) hW
 obtain⟨p,cap,rfl,-⟩:=hrow;have hml:l.length<=maxLen:=by unfold maxLen;omega
 have hby:i0.bytes*l.length<=281474976710656:=by rw[hz2];omega
 clear hs;go_enter func77,ntmps77
 go_wp2_with (at_make;refine wpList_make_full _ rfl _ _ 139 rfl w.heap.size 4 i0 (.bool false) 1 underlying139 hi hz0 hz1 .i64 .i64 _ _ l.length rfl rfl (by omega) (by omega) hby hml (Nat.le_refl _) ?_;intro w1 hown hgrow;have O1:=Znb hown)
 have B1:Below w.heap.size w w1:=Zfc (Below.refl _ w) (Nat.le_refl _) hgrow;have N1:World.ownsRow w1 w.heap.size 3 1 (.slice none 0 0) 0 (([]:List Nat).map nv):=World.ownsRow_nil _ _ _ _;have O2:Own w1 w.heap.size w.heap.size l.length (Ru.isIn []):=by
  have e:Ru.isIn []=fun _=>false:=by funext j;simp[Ru.isIn]
  rw[e];exact O1
 clear hown hgrow O1;go_loopw [6] (fun out wr=>∃ o:List Nat,wr.ownsRow w.heap.size 3 1 out o.length (o.map nv)/\Own wr w.heap.size w.heap.size l.length (Ru.isIn o)/\o.Nodup/\(∀ i∈o,i<l.length)/\Ru.orderF l sm (l.length+1 - o.length) o=Ru.order l sm/\Below w.heap.size w wr) (fun out _=>l.length+1 - slen out)
 case atStart=>exact⟨[],N1,O2,List.nodup_nil,by simp,rfl,B1⟩
 case round =>
  obtain⟨o,hout,O,hnd,hlt,hord,B⟩:=hrel;have HOut:=hid1 hout;have HO:=hid1 O;have Hnd:=hid1 hnd;have Hlt:=hid1 hlt;have Hord:=hid1 hord;clear N1 O2 B1 hout O hnd hlt hord;have hlen:=len_le Hnd.out Hlt.out;generalize wr=w2 at *;have HCd:Hid (∀ W q,W=w2.drewN q->∀ j,j<l.length->W.cell? ⟨w.heap.size,j,none⟩=some (.bool (Ru.isIn o j))):=hid1 fun W q e j hj=>by
   subst e;exact HO.out.cell hj
  go_wp2;go_loopw [8,9,10] (fun nx lf i wx=>∃ k q:Nat,k<=l.length/\i=.int .i64 k/\lf=.bool (Ru.leftTo sm (Ru.isIn o) k)/\nx=nxV (Ru.nextTo l sm (Ru.isIn o) k)/\wx=w2.drewN q) (fun _ _ i _=>l.length - (intOf i).toNat)
  case atStart=>exact⟨0,0,Nat.zero_le _,rfl,rfl,rfl,rfl⟩
  case round =>
   obtain⟨k,q,hk,rfl,rfl,rfl,rfl⟩:=hrel;have c0:(0:Int)<=(k:Int):=by omega
   by_cases hkl:k<l.length
   ·have c1:(k:Int)<(l.length:Int):=by omega
    have hdk:=HCd.out _ q rfl k hkl;have hsk:=HSm.out (w2.drewN q) (Zad B q) k hkl;have HL:=hid1 (Ru.leftTo_succ sm (Ru.isIn o) k);have HN:=hid1 (Ru.nextTo_succ l sm (Ru.isIn o) k);have HM:Hid (Ru.may l sm (Ru.isIn o) k=(sm k&& !Ru.isIn o k&&Ru.freeTo l (Ru.isIn o) k l.length)):=hid1 rfl;cases hd:Ru.isIn o k with
    | true =>
     rw[hd]at hdk HL HM;have HL2:Hid (Ru.leftTo sm (Ru.isIn o) (k+1)=Ru.leftTo sm (Ru.isIn o) k):=hid1 (by rw[HL.out];simp)
     have HN2:Hid (Ru.nextTo l sm (Ru.isIn o) (k+1)=Ru.nextTo l sm (Ru.isIn o) k):=hid1 (by rw[HN.out,HM.out];simp)
     clear HL HN HM hd hsk;go_wp2;exact⟨⟨k+1,q,by omega,by go_num,by rw[HL2.out],by rw[HN2.out],rfl⟩,by simp[intOf];omega⟩
    | false =>
     rw[hd]at hdk HL HM;cases hsm:sm k with
     | false =>
      rw[hsm]at hsk HL HM;have HL2:Hid (Ru.leftTo sm (Ru.isIn o) (k+1)=Ru.leftTo sm (Ru.isIn o) k):=hid1 (by rw[HL.out];simp)
      have HN2:Hid (Ru.nextTo l sm (Ru.isIn o) (k+1)=Ru.nextTo l sm (Ru.isIn o) k):=hid1 (by rw[HN.out,HM.out];simp)
      clear HL HN HM hd hsm;go_wp2;exact⟨⟨k+1,q,by omega,by go_num,by rw[HL2.out],by rw[HN2.out],rfl⟩,by simp[intOf];omega⟩
     | true =>
      rw[hsm]at hsk HL HM;have HL2:Hid (Ru.leftTo sm (Ru.isIn o) (k+1)=true):=hid1 (by rw[HL.out];simp)
      clear HL hd hsm;generalize hnx:Ru.nextTo l sm (Ru.isIn o) k=nx at *;clear hnx;go_wp2;go_loopw [11,12] (fun fr kk wy=>∃ m q':Nat,m<=l.length/\kk=.int .i64 m/\fr=.bool (Ru.freeTo l (Ru.isIn o) k m)/\wy=w2.drewN q') (fun _ kk _=>l.length - (intOf kk).toNat)
      case atStart=>exact⟨0,q,Nat.zero_le _,rfl,rfl,rfl⟩
      case round =>
       clear hdk hsk;obtain⟨m,q',hm,rfl,rfl,rfl⟩:=hrel;have m0:(0:Int)<=(m:Int):=by omega
       by_cases hml2:m<l.length
       ·have m1:(m:Int)<(l.length:Int):=by omega
        have hdm:=HCd.out _ q' rfl m hml2;have HF:=hid1 (Ru.freeTo_succ l (Ru.isIn o) k m);cases hdd:Ru.isIn o m with
        | true =>
         rw[hdd]at hdm HF;have HF2:Hid (Ru.freeTo l (Ru.isIn o) k (m+1)=Ru.freeTo l (Ru.isIn o) k m):=hid1 (by rw[HF.out];simp)
         clear HF hdd;go_wp2;exact⟨⟨m+1,q',by omega,by go_num,by rw[HF2.out],rfl⟩,by simp[intOf];omega⟩
        | false =>
         rw[hdd]at hdm HF;have HC:=HNeed.out _ (Zad B q') k m hkl hml2;cases hnd:Ru.needs l k m with
         | true =>
          rw[hnd]at HC HF;have HF2:Hid (Ru.freeTo l (Ru.isIn o) k (m+1)=false):=hid1 (by rw[HF.out];simp)
          clear HF hdd hnd;go_wp2_with fail;refine Calls.mono HC ?_;rintro e w3 ⟨rfl,q3,rfl⟩;clear HC;go_wp2;exact⟨⟨m+1,q'+q3,by omega,by go_num,by rw[HF2.out],by simp[World.drewN]⟩,by simp[intOf];omega⟩
         | false =>
          rw[hnd]at HC HF;have HF2:Hid (Ru.freeTo l (Ru.isIn o) k (m+1)=Ru.freeTo l (Ru.isIn o) k m):=hid1 (by rw[HF.out];simp)
          clear HF hdd hnd;go_wp2_with fail;refine Calls.mono HC ?_;rintro e w3 ⟨rfl,q3,rfl⟩;clear HC;go_wp2;exact⟨⟨m+1,q'+q3,by omega,by go_num,by rw[HF2.out],by simp[World.drewN]⟩,by simp[intOf];omega⟩
       ·have m1:(l.length:Int)<=(m:Int):=by omega
        obtain rfl:m=l.length:=by omega
        simp only[Bool.not_false,Bool.and_true,Bool.true_and]at HM;rw[HM.out]at HN;generalize Ru.freeTo l (Ru.isIn o) k l.length=fr at *;clear HM;cases fr with
        | true =>
         cases nx with
         | none =>
          have HN2:Hid (Ru.nextTo l sm (Ru.isIn o) (k+1)=some k):=hid1 (by rw[HN.out];rfl)
          clear HN;simp only[nxV];go_wp2;exact⟨⟨k+1,q',by omega,by go_num,by rw[HL2.out],by rw[HN2.out];rfl,rfl⟩,by simp[intOf];omega⟩
         | some j =>
          have HN2:Hid (Ru.nextTo l sm (Ru.isIn o) (k+1)=some j):=hid1 (by rw[HN.out];rfl)
          have j0:(0:Int)<=(j:Int):=by omega
          clear HN;simp only[nxV];go_wp2;exact⟨⟨k+1,q',by omega,by go_num,by rw[HL2.out],by rw[HN2.out];rfl,rfl⟩,by simp[intOf];omega⟩
        | false =>
         have HN2:Hid (Ru.nextTo l sm (Ru.isIn o) (k+1)=nx):=hid1 (by rw[HN.out];cases nx <;> rfl)
         clear HN;go_wp2;exact⟨⟨k+1,q',by omega,by go_num,by rw[HL2.out],by rw[HN2.out],rfl⟩,by simp[intOf];omega⟩
   ·have c1:(l.length:Int)<=(k:Int):=by omega
    obtain rfl:k=l.length:=by omega
    have HStep:Hid (Ru.orderF l sm (l.length+1 - o.length) o=if Ru.leftTo sm (Ru.isIn o) l.length=true then (match Ru.nextTo l sm (Ru.isIn o) l.length with | none=>none | some i=>Ru.orderF l sm (l.length - o.length) (o++[i])) else some o):=hid1 (by
     rw[show l.length+1 - o.length=(l.length - o.length)+1 by omega]
     rfl)
    have HNx:=hid1 fun i=>Ru.nextTo_some (l:=l) (some:=sm) (done:=Ru.isIn o) (m:=l.length) (i:=i)
    cases hlf:Ru.leftTo sm (Ru.isIn o) l.length with
    | false =>
     have HR:Hid (Ru.order l sm=some o):=hid1 (by rw[<- Hord.out,HStep.out,hlf];rfl)
     have hN:NRow (w2.drewN q) u6 o:=NRow.of_owns (w:=w2.drewN q) HOut.out;clear HStep HNx hlf;go_wp2;go_ret2;exact⟨_,true,rfl,Zad B q,.inr ⟨o,rfl,HR.out,hN,Hnd.out,Hlt.out⟩⟩
    | true =>
     cases hnx:Ru.nextTo l sm (Ru.isIn o) l.length with
     | none =>
      have HR:Hid (Ru.order l sm=none):=hid1 (by rw[<- Hord.out,HStep.out,hlf,hnx];rfl)
      clear HStep HNx hlf hnx;simp only[nxV];go_wp2;go_ret2;exact⟨_,false,rfl,Zad B q,.inl ⟨rfl,rfl,HR.out⟩⟩
     | some j =>
      obtain⟨hjl,hjm⟩:=HNx.out j hnx;have HR:Hid (Ru.orderF l sm (l.length - o.length) (o++[j])=Ru.order l sm):=hid1 (by rw[<- Hord.out,HStep.out,hlf,hnx];rfl)
      have hjo:j∉o:=by
       intro hm
       simp[Ru.may,Ru.isIn,hm]at hjm
      have hnd':(o++[j]).Nodup:=by
       rw[List.nodup_append];exact⟨Hnd.out,by simp,fun a ha b hb=>by
        rw[List.mem_singleton.1 hb];rintro rfl;exact hjo ha⟩
      have hlt':∀ i∈o++[j],i<l.length:=fun i hi=>by
       rcases List.mem_append.1 hi with h | h
       ·exact Hlt.out i h
       ·rw[List.mem_singleton.1 h];exact hjl
      have Hnd2:=hid1 hnd';have Hlt2:=hid1 hlt';have hlen2:=len_le hnd' hlt';rw[List.length_append,List.length_singleton]at hlen2;have O3:Own (w2.drewN q) w.heap.size w.heap.size l.length (Ru.isIn o):=HO.out;have R3:(w2.drewN q).ownsRow w.heap.size 3 1 u6 o.length (o.map nv):=HOut.out;have hcj:=O3.cell hjl;have hfj:=World.ownsRow.frozenAt O3 j
      have O4:Own ((w2.drewN q).setCell ⟨w.heap.size,j,none⟩ (.bool true)) w.heap.size w.heap.size l.length (Ru.isIn (o++[j])):=O3.set j true fun i _=>Zzw o j i
      have R4:((w2.drewN q).setCell ⟨w.heap.size,j,none⟩ (.bool true)).ownsRow w.heap.size 3 1 u6 o.length (o.map nv):=ownsRow_setCell_other R3 (by
       have:=Zul R3 O3 (by decide)
       simpa using this) (.bool true)
      have B4:=(Zad B q).setCell (p:=⟨w.heap.size,j,none⟩) (Nat.le_refl _) (.bool true);have hs4:=Zfp R4;have hml3:o.length+1<=maxLen:=by unfold maxLen;omega
      have hbz:w.heap.size<=((w2.drewN q).setCell ⟨w.heap.size,j,none⟩ (.bool true)).heap.size:=B4.size;have hbz2:w.heap.size<=w2.heap.size:=B.size;have j0:(0:Int)<=(j:Int):=by omega
      have j1:(j:Int)<(l.length:Int):=by omega
      clear HStep HNx hlf hnx O3 R3 hnd' hlt' hjo hjm;simp only[nxV];go_wp2_with (at_builtin;refine wpList_append_own _ rfl _ _ 22 rfl w.heap.size 3 i1 (.int .i64 0) 1 8 underlying22 hI hI0 hI1 hI2 rfl (by decide) _ _ _ rfl (R4.alloc _) ⟨w2.heap.size,0,none⟩ 1 1 [nv j] rfl rfl (Zcb _ _ _ _ (by simp)) (by simp[Value.oneCell']) hml3 (by omega) (by simp;omega) ?_;intro v' w4 hown' hgrow _)
      have hs5:=Zfp hown';refine⟨⟨o++[j],by simpa using hown',?_,Hnd2.out,Hlt2.out,?_,Zak B4 hbz R4 hgrow⟩,by rw[hs5,hs4];omega⟩
      ·exact Zwl (World.ownsRow.alloc O4 _) (R4.alloc _) (by decide) hgrow
      ·rw[List.length_append,List.length_singleton,show l.length+1 - (o.length+1)=l.length - o.length by omega]
       exact HR.out
namespace Ru
inductive Walk (l:List Ru):Nat->Nat->Nat->Prop
 | zero (i:Nat):Walk l i i 0
 | step {i j k t:Nat}:needs l i j=true->Walk l j k t->Walk l i k (t+1)
variable {l:List Ru}
theorem Walk.inv{i k t:Nat}(h:Walk l i k (t+1)):∃ j,needs l i j=true/\Walk l j k t:=by
 cases h with
 | step hn hw=>exact⟨_,hn,hw⟩
theorem pigeon{g:Nat->Nat}(h:∀ t,t<=n->g t<n):∃ a b,a<b/\b<=n/\g a=g b:=by
 refine Classical.byContradiction fun hno=> ?_
 have hd:((List.range (n+1)).map g).Nodup:=by
  rw[List.nodup_iff_pairwise_ne,List.pairwise_map];refine List.Pairwise.imp_of_mem ?_ List.pairwise_lt_range;intro a b _ hb hab e
  exact hno ⟨a,b,hab,by have:=List.mem_range.1 hb;omega,e⟩
 have:=len_le (n:=n) hd (fun i hi=>by
  obtain⟨t,ht,rfl⟩:=List.mem_map.1 hi;exact h t (by have:=List.mem_range.1 ht;omega))
 simp at this;omega
def Topo(l:List Ru)(o:List Nat):Prop:=∀ j (hj:j<o.length) k,needs l o[j] k=true->k∈o.take j
theorem Zip{l:List Ru}{some:Nat->Bool}:∀ {f:Nat} {o r:List Nat},orderF l some f o=Option.some r->Topo l o->Topo l r/\∀ i,i<l.length->some i=true->i∈r
 | 0,_,_,h,_=>by cases h
 | f+1,o,r,h,ht=>by
  unfold orderF at h;split at h
  ·split at h
   ·cases h
   ·rename_i i hi
    refine Zip h ?_;have hm:=(nextTo_some hi).2;simp only[may,Bool.and_eq_true,freeTo,List.all_eq_true,Bool.or_eq_true,Bool.not_eq_true']at hm;intro j hj k hn
    rw[List.length_append,List.length_singleton]at hj;by_cases e:j<o.length
    ·rw[List.getElem_append_left e]at hn;rw[List.take_append_of_le_length (by omega)]
     exact ht j e k hn
    ·obtain rfl:j=o.length:=by omega
     rw[List.getElem_append_right (Nat.le_refl _)]at hn;simp only[Nat.sub_self,List.getElem_cons_zero]at hn;rw[List.take_append_of_le_length (Nat.le_refl _),List.take_length];rcases hm.2 k (List.mem_range.2 (needs_lt hn).2) with h1 | h1
     ·simpa[isIn] using h1
     ·rw[hn]at h1;cases h1
  ·rename_i hl
   cases h
   refine⟨ht,fun i hi hs=> ?_⟩
   simp only[leftTo,List.any_eq_true,Bool.and_eq_true,Bool.not_eq_true']at hl;refine Classical.byContradiction fun hno=>hl ⟨i,List.mem_range.2 hi,hs,?_⟩
   simpa[isIn] using hno
variable {some:Nat->Bool}{o:List Nat}
theorem order_some(h:order l some=Option.some o):Topo l o/\∀ i,i<l.length->some i=true->i∈o :=
 Zip h fun j hj=>by simp at hj
theorem Zgy{l:List Ru}{some:Nat->Bool}:∀ {f:Nat} {o r:List Nat},orderF l some f o=Option.some r->o.Nodup->(∀ i∈o,i<l.length)->r.Nodup/\∀ i∈r,i<l.length
 | 0,_,_,h,_,_=>by cases h
 | f+1,o,r,h,hd,hb=>by
  unfold orderF at h;split at h
  ·split at h
   ·cases h
   ·rename_i i hi
    obtain⟨hil,hm⟩:=nextTo_some hi;have hio:i∉o:=by
     simp only[may,Bool.and_eq_true,Bool.not_eq_true',isIn,decide_eq_false_iff_not]at hm;exact hm.1.2
    refine Zgy h ?_ ?_
    ·rw[List.nodup_append];exact⟨hd,by simp,fun a ha b hb=>by
      rw[List.mem_singleton.1 hb];rintro rfl;exact hio ha⟩
    ·intro j hj
     rcases List.mem_append.1 hj with h1 | h1
     ·exact hb j h1
     ·rw[List.mem_singleton.1 h1];exact hil
  ·cases h
   exact⟨hd,hb⟩
theorem order_nodup(h:order l some=Option.some o):o.Nodup/\∀ i∈o,i<l.length :=
 Zgy h List.nodup_nil (by simp)
theorem Zzf{α:Type}[DecidableEq α]{a:List α}:∀ {b:List α},a.Nodup->a ⊆ b->a.length<=b.length:=by
 induction a with
 | nil=>intro b _ _;simp
 | cons x r ih =>
  intro b hd hs
  obtain⟨hx,hr⟩:=List.nodup_cons.1 hd;have hxb:x∈b:=hs (by simp)
  have:=ih (b:=b.erase x) hr fun y hy=>by
   have hne:y≠x:=fun e=>hx (e ▸ hy)
   exact(List.mem_erase_of_ne hne).2 (hs (List.mem_cons_of_mem _ hy))
  rw[List.length_erase_of_mem hxb]at this;have hp:=List.length_pos_of_mem hxb;simp
  omega
theorem order_len(h:order l (fun _=>true)=Option.some o):o.length=l.length:=by
 obtain⟨h1,h2⟩:=order_nodup h;refine Nat.le_antisymm (len_le h1 h2) ?_;have:=Zzf (a:=List.range l.length) (b:=o) List.nodup_range fun i hi=>(order_some h).2 i (List.mem_range.1 hi) rfl
 simpa using this
theorem Topo.none(h:Topo l o)(i t:Nat)(hi:i∈o):¬ Walk l i i (t+1):=by
 have key:∀ t i j (hj:j<o.length),o[j]=i->∀ k,Walk l i k (t+1)->k∈o.take j:=by
  intro t
  induction t with
  | zero =>
   rintro i j hj rfl k hw;obtain⟨m,hn,hw'⟩:=hw.inv;cases hw'
   exact h j hj _ hn
  | succ t ih =>
   rintro i j hj rfl k hw;obtain⟨m,hn,hw'⟩:=hw.inv;have hm:=h j hj m hn;obtain⟨q,hq,e⟩:=List.getElem_of_mem hm;rw[List.getElem_take]at e;have hqj:q<j:=by simp at hq;omega
   exact(List.take_sublist_take_left (Nat.le_of_lt hqj)).subset (ih m q (by omega) e k hw')
 -- the first place of i
 intro hw
 have:∀ m j (hj:j<o.length),j<=m->o[j]=i->False:=by
  intro m
  induction m with
  | zero =>
   intro j hj hm e
   obtain rfl:j=0:=by omega
   have:=key t i 0 hj e i hw;simp at this
  | succ m ih =>
   intro j hj hm e
   have h1:=key t i j hj e i hw;obtain⟨q,hq,e'⟩:=List.getElem_of_mem h1;rw[List.getElem_take]at e';exact ih q (by simp at hq;omega) (by simp at hq;omega) e'
 obtain⟨j,hj,e⟩:=List.getElem_of_mem hi;exact this j j hj (Nat.le_refl _) e
end Ru
namespace Bf
def inO(o:List Nat):Nat->Prop:=fun i=>i∈o
theorem rank_of{l:List Ru}{o:List Nat}(h:Ru.Topo l o){i k:Nat}(hi:i∈o)(hn:Ru.needs l i k=true):k∈o/\o.idxOf k<o.idxOf i:=by
 have hj:o.idxOf i<o.length:=List.idxOf_lt_length_of_mem hi;have hg:o[o.idxOf i]=i:=List.getElem_idxOf hj;have hk:=h (o.idxOf i) hj k (by rw[hg];exact hn)
 refine⟨List.mem_of_mem_take hk,?_⟩;obtain⟨q,hq,e⟩:=List.getElem_of_mem hk;rw[List.length_take]at hq;rw[List.getElem_take]at e;have:o.idxOf k<=q:=by
  refine Nat.le_of_not_lt fun hlt=> ?_
  have:=List.not_of_lt_findIdx (p:=fun y=>y==k) (xs:=o) hlt
  rw[e]at this;simp at this
 omega
end Bf
theorem Ydf(nm word:ByteArray)(p:Option Addr)(len cap:Nat)(a b:Int)(tv:Value)(gr:Nat)(cr:Array Value)(out:ByteArray)(el:Value)(w:World) 
  (hel:w.cell? ⟨9,0,none⟩=some el) (h6:20<w.heap.size) (htv:∃ g c,tv=tfn g c)
  (eg:∀ args w,(callFunc gr args).run prog w=.ok (.enter gr args) w)
  (hfind:Hid (Calls prog 215 #[.string nm,.string word,.int .i64 len] w fun e w'=>e=.returned (.tuple #[kd a b tv (tfn gr cr),.nilIface])/\Below w.heap.size w w'/\Objs w' (w.heap.size+1)))
  (HR:Hid (∀ W,Below w.heap.size w W->Objs W (w.heap.size+1)->Calls prog gr (#[.string word,.slice p len cap]++cr) W fun e w'=>e=.returned (.string out)/\Below W.heap.size W w')) :
  Calls prog 198 #[.string nm,.string word,.slice p len cap] w fun e w'=>e=.returned (if 2000<out.size then .tuple #[.string ⟨#[]⟩,el] else .tuple #[.string out,.nilIface])/\Below w.heap.size w w':=by
 obtain⟨g,c,rfl⟩:=htv;generalize hr:(if 2000<out.size then Value.tuple #[.string ⟨#[]⟩,el] else .tuple #[.string out,.nilIface])=r
 have HQ:Hid ((if 2000<out.size then Value.tuple #[.string ⟨#[]⟩,el] else .tuple #[.string out,.nilIface])=r):=hr
 clear hr;have hnt:∀(a:Addr) (m:Mode) (W:World),Sem.run prog (store a (tfn g c) m) W=stored prog W a (tfn g c) m:=fun a m W=>run_store _ W a _ m rfl
 have hnr:∀(a:Addr) (m:Mode) (W:World),Sem.run prog (store a (tfn gr cr) m) W=stored prog W a (tfn gr cr) m:=fun a m W=>run_store _ W a _ m rfl
 go_enter func198,ntmps198
 go_wp2_with fail;refine hfind.out.mono ?_;rintro e w2 ⟨rfl,hb2,hO2⟩;have gC:Below w2.heap.size w2 (w2.alloc (.cells #[.int .i64 a,.int .i64 b,tfn g c,tfn gr cr] 307)):=(Below.refl _ w2).alloc (Nat.le_refl _) _;have HC:=HR.out _ (Zac hb2 gC) (hO2.stays gC);go_wp2_with fail;refine HC.mono ?_;rintro e w3 ⟨rfl,hb3⟩;have g3:=Zac (Zac hb2 gC) hb3
 have ke:w3.cell? ⟨9,0,none⟩=some el:=(Zam g3 (by omega)).trans hel
 clear HC gC hb2 hO2 hb3;by_cases hl:2000<out.size
 ·have d3:decide ((2000:Int)<(out.size:Int))=true:=by simp;omega
  go_wp2;go_region
  all_goals go_wp2
  go_ret2;exact⟨ret_eq (by rw[<- HQ.out,if_pos hl];rfl),Zad g3 1⟩
 ·have d3:decide ((2000:Int)<(out.size:Int))=false:=by simp;omega
  go_wp2;go_ret2;exact⟨ret_eq (by rw[<- HQ.out,if_neg hl];rfl),g3⟩
theorem Yec(nm word:ByteArray)(p:Option Addr)(len cap:Nat)(t:TypeId)(u:Value)(w:World) 
  (hfind:Hid (Calls prog 215 #[.string nm,.string word,.int .i64 len] w fun e w'=>e=.returned (.tuple #[zkd,.iface t u])/\Below w.heap.size w w')) :
  Calls prog 198 #[.string nm,.string word,.slice p len cap] w fun e w'=>e=.returned (.tuple #[.string ⟨#[]⟩,.iface t u])/\Below w.heap.size w w':=by
 have hnf:∀(a:Addr) (m:Mode) (W:World),Sem.run prog (store a .nilFunc m) W=stored prog W a .nilFunc m:=fun a m W=>run_store _ W a _ m rfl
 go_enter func198,ntmps198
 go_wp2_with fail;refine hfind.out.mono ?_;rintro e w2 ⟨rfl,hb2⟩;have g3:=hb2.alloc hb2.size (.cells #[.int .i64 0,.int .i64 0,.nilFunc,.nilFunc] 307);go_wp2;go_ret2;exact⟨rfl,g3⟩
open Go.Sort (grow Holds putRow)
open Af (Kd)
def Af.actO(nm wd:List UInt8)(ls:List (List UInt8)):List UInt8×Nat :=
 if Af.actE nm wd ls.length=0 then
  (match Af.kindOf nm with
   | some k=>if 2000<(k.out wd ls).length then ([],10) else (k.out wd ls,0)
   | none=>([],5))
 else ([],Af.actE nm wd ls.length)
theorem Yav{er:Nat->Value}(h:AE w er)(nm wd:List UInt8)(hl:wd.length<=1000000)(v:Value)(ls:List (List UInt8))(hrow:TRow w v ls)(hx:∀ x∈ls,x.length<=3000):
  Calls prog 198 #[.string (ba nm),.string (ba wd),v] w fun e w'=>e=.returned (.tuple #[.string (ba (Af.actO nm wd ls).1),er (Af.actO nm wd ls).2])/\Below w.heap.size w w':=by
 obtain⟨pa,cap,rfl,hcap,hin⟩:=hrow;have hrow:TRow w (.slice pa ls.length cap) ls:=⟨pa,cap,rfl,hcap,hin⟩;rcases Zuw h nm wd ls.length hl with ⟨e0,k,hk,h1,h2,h3,h4,hf⟩ | ⟨e0,hf⟩
 ·have eO:Af.actO nm wd ls=if 2000<(k.out wd ls).length then ([],10) else (k.out wd ls,0):=by
   unfold Af.actO;rw[if_pos e0,hk]
  have:=Ydf (ba nm) (ba wd) pa ls.length cap k.least k.most _ (Af.rf k) (Af.rc (w.heap.size+1) k) (ba (k.out wd ls)) (er 10) w h.aw.long h.aw.big ⟨_,_,rfl⟩ (Zyn k) (hid1 hf)
   (hid1 fun W hW hO=>Zyj h.aw wd h4 pa cap ls hrow hx k (by omega) (by omega) h3 W hW hO)
  refine this.mono ?_;rintro e w' ⟨rfl,g⟩;refine⟨?_,g⟩;rw[eO,Zal];split
  ·rfl
  ·rw[h.zero]
 ·have eO:Af.actO nm wd ls=([],Af.actE nm wd ls.length):=by
   unfold Af.actO;rw[if_neg e0]
  rw[eO];obtain⟨c,hc⟩:∃ c,Af.actE nm wd ls.length=c+1:=⟨Af.actE nm wd ls.length - 1,by omega⟩
  obtain⟨t,u,hu⟩:=h.iface c;simp only[hc,hu]at hf ⊢;exact Yec (ba nm) (ba wd) pa ls.length cap t u w (hid1 hf)
theorem Yco(fs:Tf.Fs)(p:List UInt8):Tf.hasP fs p=(Tf.get fs p).isSome:=by
 unfold Tf.hasP Tf.get;rw[Option.isSome_map,Bool.eq_iff_iff,List.find?_isSome,List.any_eq_true]
theorem Zbq(W:World)(o:Obj):(W.alloc o).heap[W.heap.size]? =some o:=by
 show(W.heap.push _)[W.heap.size]? =_
 simp
namespace Bf
def want(act:Act)(fs:Tf.Fs)(l:List Ru):List UInt8->List UInt8×Nat:=wantF act fs l (l.length+2)
variable {l:List Ru}{o:List Nat}
theorem order_len(hnd:o.Nodup)(hlt:∀ i∈o,i<l.length):o.length<=l.length:=by
 have:=Cf.nodup_len (b:=List.range l.length) hnd fun i hi=>List.mem_range.2 (hlt i hi)
 simpa using this
variable {fs:Tf.Fs}
theorem want_is{act:Act}(h:Ru.Topo l o)(hnd:o.Nodup)(hlt:∀ i∈o,i<l.length):Wanted act fs l (inO o) (want act fs l) :=
 Zxx (fun _ _ hi hn=>(rank_of h hi hn).1) (r:=fun i=>o.idxOf i) (fun _ _ hi hn=>(rank_of h hi hn).2) (fun i _ hi=>by have:o.idxOf i<o.length:=List.idxOf_lt_length_of_mem hi;have:=order_len hnd hlt;omega) (by omega)
theorem winB_snoc(f:List UInt8->List UInt8×Nat):∀(a:List (List UInt8)) (x:List UInt8) {o:List (List UInt8)},winB f a=(o,0)->(f x).2=0->winB f (a++[x])=(o++[(f x).1],0)
 | [],x,o,h,hx=>by
  cases h
  show winB f [x]=_
  unfold winB;rw[if_pos hx];rfl
 | y::r,x,o,h,hx=>by
  unfold winB at h;rw[List.cons_append];unfold winB;by_cases hy:(f y).2=0
  ·rw[if_pos hy]at h ⊢;have h2:(winB f r).2=0:=congrArg Prod.snd h;have h1:(f y).1::(winB f r).1=o:=congrArg Prod.fst h;rw[winB_snoc f r x (o:=(winB f r).1) (Prod.ext rfl h2) hx,<- h1];rfl
  ·rw[if_neg hy]at h;exact absurd (congrArg Prod.snd h) hy
theorem winB_stop(f:List UInt8->List UInt8×Nat):∀(a:List (List UInt8)) (x:List UInt8) (r:List (List UInt8)) {o:List (List UInt8)},winB f a=(o,0)->(f x).2≠0->(winB f (a++x::r)).2=(f x).2
 | [],x,r,o,h,hx=>by
  show(winB f (x::r)).2=_
  unfold winB;rw[if_neg hx]
 | y::a,x,r,o,h,hx=>by
  unfold winB at h;rw[List.cons_append];unfold winB;by_cases hy:(f y).2=0
  ·rw[if_pos hy]at h ⊢;have h2:(winB f a).2=0:=congrArg Prod.snd h;exact winB_stop f a x r (o:=(winB f a).1) (Prod.ext rfl h2) hx
  ·rw[if_neg hy]at h;exact absurd (congrArg Prod.snd h) hy
theorem winB_len(f:List UInt8->List UInt8×Nat):∀ {a o:List (List UInt8)},winB f a=(o,0)->o.length=a.length
 | [],o,h=>by cases h;rfl
 | y::a,o,h=>by
  unfold winB at h;by_cases hy:(f y).2=0
  ·rw[if_pos hy]at h;have h2:(winB f a).2=0:=congrArg Prod.snd h;have h1:(f y).1::(winB f a).1=o:=congrArg Prod.fst h;rw[<- h1,List.length_cons,List.length_cons,winB_len f (a:=a) (o:=(winB f a).1) (Prod.ext rfl h2)]
  ·rw[if_neg hy]at h;exact absurd (congrArg Prod.snd h) hy
theorem winB_all(f:List UInt8->List UInt8×Nat)(P:List UInt8->Prop)(hP:∀ x,P (f x).1):∀ {a o:List (List UInt8)},winB f a=(o,0)->∀ y∈o,P y
 | [],o,h=>by cases h;simp
 | y::a,o,h=>by
  unfold winB at h;by_cases hy:(f y).2=0
  ·rw[if_pos hy]at h;have h2:(winB f a).2=0:=congrArg Prod.snd h;have h1:(f y).1::(winB f a).1=o:=congrArg Prod.fst h;rw[<- h1];intro z hz
   rcases List.mem_cons.1 hz with rfl | hz
   ·exact hP _
   ·exact winB_all f P hP (a:=a) (o:=(winB f a).1) (Prod.ext rfl h2) z hz
  ·rw[if_neg hy]at h;exact absurd (congrArg Prod.snd h) hy
theorem Ydd(k w:List UInt8)(xs:List (List UInt8)):(Af.actO k w xs).1.length<=2000:=by
 unfold Af.actO;split
 ·split
  ·split
   ·simp
   ·rename_i h;simp only;omega
  ·simp
 ·simp
theorem Zxt(f:List UInt8->List UInt8×Nat)(r:Ru):(wrule Af.actO f r).1.length<=2000:=by
 unfold wrule;split
 ·exact Ydd _ _ _
 ·simp
theorem want_len(hf:∀ x b,Tf.get fs x=some b->b.length<=2000)(x:List UInt8):∀ n,(wantF Af.actO fs l n x).1.length<=2000
 | 0=>by simp[wantF]
 | n+1=>by
  unfold wantF;split
  ·exact Zxt _ _
  ·split
   ·rename_i b hb;exact hf x b hb
   ·simp
end Bf
structure Only(S:Nat->Prop)(w w':World):Prop where
 os:w'.os=w.os
 tape:w'.tape=w.tape
 output:w'.output=w.output
 size:w.heap.size<=w'.heap.size
 block:∀ j,j<w.heap.size->¬ S j->w'.heap[j]? =w.heap[j]?
variable {S:Nat->Prop}{w':World}
theorem Only.of(h:Below w.heap.size w w'):Only S w w':=⟨h.os,h.tape,h.output,h.size,fun j hj _=>h.block j hj⟩
theorem Only.below(h:Only S w w')(hS:∀ j,S j->B<=j)(hB:B<=w.heap.size):Below B w w' :=
 ⟨h.os,h.tape,h.output,h.size,fun j hj=>h.block j (by omega) fun hs=>by have:=hS j hs;omega⟩
theorem Only.trans{S S':Nat->Prop}{a b c:World}(h:Only S a b)(h':Only S' b c)(hS:∀ j,S' j->S j\/a.heap.size<=j):Only S a c :=
 ⟨h'.os.trans h.os,h'.tape.trans h.tape,h'.output.trans h.output,Nat.le_trans h.size h'.size,fun j hj hs=>(h'.block j (Nat.lt_of_lt_of_le hj h.size) fun h1=>by
  rcases hS j h1 with h2 | h2
  ·exact hs h2
  ·omega).trans (h.block j hj hs)⟩
theorem Only.cell{S:Nat->Prop}{w w':World}(h:Only S w w'){a:Addr}{u:Value}(hc:w.cell? a=some u)(hs:¬ S a.block):w'.cell? a=some u :=
 (World.cell?_of_block (h.block a.block (Zaj hc) hs)).trans hc
def Zbp(l:Cf.Ens):List Value:=l.flatMap fun e=>[Value.string (ba e.1),Value.string (ba e.2)]
theorem Zdr(l:Cf.Ens)(e:Cf.En):Zbp (l++[e])=Zbp l++[Value.string (ba e.1),Value.string (ba e.2)]:=by simp[Zbp]
theorem Zje:∀(l:Cf.Ens) (j:Nat) (hj:j<l.length),(Zbp l)[j*2]? =some (.string (ba l[j].1))/\(Zbp l)[j*2+1]? =some (.string (ba l[j].2))
 | [],j,hj=>by simp at hj
 | x::t,0,_=>by simp[Zbp]
 | x::t,j+1,hj=>by
  have:=Zje t j (by simpa using hj)
  have e:Zbp (x::t)=Value.string (ba x.1)::Value.string (ba x.2)::Zbp t:=by simp[Zbp]
  rw[e,show(j+1)*2=j*2+1+1 by omega]
  simpa using this
def MERow(w:World)(v:Value)(T:Nat->Prop)(l:Cf.Ens):Prop :=
 ∃ p cap,v=.slice p l.length cap/\l.length<=cap/\(l≠[]->∃ g o,p=some ⟨g,o,none⟩/\T g/\g<w.heap.size/\∀ j (hj:j<l.length),w.cell? ⟨g,o+j*2,none⟩=some (.string (ba l[j].1))/\w.cell? ⟨g,o+j*2+1,none⟩=some (.string (ba l[j].2)))
variable {T:Nat->Prop}{l:Cf.Ens}
theorem MERow.same(h:MERow w v T l)(hz:w.heap.size<=w'.heap.size)(hb:∀ k,T k->w'.heap[k]? =w.heap[k]?):MERow w' v T l:=by
 obtain⟨p,cap,e,h0,h1⟩:=h;refine⟨p,cap,e,h0,fun hl=> ?_⟩
 obtain⟨g,o,e,hT,hg,hc⟩:=h1 hl;exact⟨g,o,e,hT,Nat.lt_of_lt_of_le hg hz,fun j hj=>⟨(World.cell?_of_block (a:=⟨g,o+j*2,none⟩) (hb g hT)).trans (hc j hj).1,(World.cell?_of_block (a:=⟨g,o+j*2+1,none⟩) (hb g hT)).trans (hc j hj).2⟩⟩
structure MAt(T:Nat->Prop)(W:World)(v:Value)(m:Nat)(l:Cf.Ens):Prop where
 lies:∃ mb u,v=.pointer (some ⟨mb,0,none⟩)/\T mb/\W.cell? ⟨mb,0,none⟩=some (.int .i64 m)/\W.cell? ⟨mb,1,none⟩=some u/\W.frozen? ⟨mb,1,none⟩=false/\MERow W u (fun k=>T k/\k≠mb) l
 lt:∀ k,T k->k<W.heap.size
theorem MAt.same{T:Nat->Prop}{W W':World}{v:Value}{m:Nat}{l:Cf.Ens}(h:MAt T W v m l)(hz:W.heap.size<=W'.heap.size)(hb:∀ k,T k->W'.heap[k]? =W.heap[k]?):MAt T W' v m l:=by
 obtain⟨mb,u,e,hT,c0,c1,f1,hr⟩:=h.lies;exact⟨⟨mb,u,e,hT,(World.cell?_of_block (a:=⟨mb,0,none⟩) (hb mb hT)).trans c0,(World.cell?_of_block (a:=⟨mb,1,none⟩) (hb mb hT)).trans c1,(World.frozen?_of_block (a:=⟨mb,1,none⟩) (hb mb hT)).trans f1,hr.same hz fun k hk=>hb k hk.1⟩,fun k hk=>Nat.lt_of_lt_of_le (h.lt k hk) hz⟩
variable {m:Nat}
theorem MAt.below{W':World}(h:MAt T W v m l)(hb:Below W.heap.size W W'):MAt T W' v m l:=h.same hb.size fun k hk=>hb.block k (h.lt k hk)
theorem Zta(h:MAt T W v m l)(hl:l.length<=1000)(k:List UInt8):
  Calls prog 189 #[v,.string (ba k)] W fun e w'=>∃ r:Int,e=.returned (.int .i64 r)/\w'=W/\((r= -1/\k∉Cf.keys l)\/∃ j:Nat,r=j/\∃ hj:j<l.length,l[j].1=k/\k∉Cf.keys (l.take j)):=by
 obtain⟨mb,u,rfl,hT,c0,c1,f1,p,cap,rfl,hcap,hin⟩:=h.lies;have HI:=hid1 hin;clear hin h;go_enter func189,ntmps189
 go_wp2;go_loopw [5] (fun i wr=>∃ j:Nat,j<=l.length/\i=.int .i64 j/\k∉Cf.keys (l.take j)/\W=wr) (fun i _=>l.length - (intOf i).toNat)
 case atStart=>exact⟨0,Nat.zero_le _,rfl,by simp[Cf.keys],rfl⟩
 case round =>
  obtain⟨j,hj,rfl,hz,rfl⟩:=hrel;have HZ:=hid1 hz;clear hz;have j0:(0:Int)<=(j:Int):=by omega
  by_cases hlt:j<l.length
  ·have j1:(j:Int)<(l.length:Int):=by omega
   obtain⟨g,o,rfl,-,hg,hc⟩:=HI.out (by intro e;rw[e]at hlt;simp at hlt)
   have d0:=(hc j hlt).1;have HT:Hid (l[j].1≠k->k∉Cf.keys (l.take (j+1))):=hid1 fun hne=>by
    rw[List.take_succ_eq_append_getElem hlt];unfold Cf.keys;rw[List.map_append,List.mem_append];rintro(h | h)
    ·exact HZ.out h
    ·simp at h;exact hne h.symm
   have HP:Hid (l[j].1=k->∃ i:Nat,(j:Int)=i/\∃ hi:i<l.length,l[i].1=k/\k∉Cf.keys (l.take i)):=hid1 fun he=>⟨j,rfl,hlt,he,HZ.out⟩
   clear hc HI HZ;generalize l[j].1=y at *;by_cases he:y=k
   ·subst he;have HPP:=hid1 (HP.out rfl);clear HP HT;go_wp2;go_ret;exact⟨_,rfl,rfl,.inr HPP.out⟩
   ·have e1:(y==k)=false:=by simpa using he
    have HTT:=hid1 (HT.out he);clear HP HT;go_wp2;exact⟨⟨j+1,by omega,by go_num,HTT.out,trivial⟩,by simp[intOf];omega⟩
  ·have j1:(l.length:Int)<=(j:Int):=by omega
   have HN:Hid (k∉Cf.keys l):=hid1 (by
    have:=HZ.out;rwa[List.take_of_length_le (by omega)]at this)
   clear HI HZ;go_wp2;go_ret;exact⟨_,rfl,rfl,.inl ⟨rfl,HN.out⟩⟩
