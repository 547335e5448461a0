import Derived.Test.YtcplmkhclckagaaGreatDoorPR44
set_option maxRecDepth 100000
set_option maxHeartbeats 8000000
open Go.Proofs.Tryz
namespace Go.Proofs.YtcplmkhclckagaaGreatDoor
open Go.RowKit Go.Shelf Go.Lib
open Go.Sort (grow Holds putRow)
theorem Zbr(s:List UInt8)(hs:s.length<=1000000)(w:World):
  Calls prog 172 #[.string (ba s)] w fun e w'=>∃ v,e=.returned v/\TRow w' v (Af.lines s)/\Below w.heap.size w w':=by
 obtain⟨o,l,hc,hl⟩:=Af.lines_of_cut s;have HS:=hid1 (Zbd s hs 10 10 rfl w);have hol:o.length<=1000000:=by
  have:=Zee 10 s;rw[hc]at this;simp at this;omega
 rw[hc]at HS;have HL:Hid (Af.lines s=(if l=[] then o else o++[l])):=hl
 clear hl hc;generalize Af.lines s=L at *;go_enter func172,ntmps172
 go_wp2_with fail;refine Calls.mono HS.out ?_;rintro e w3 ⟨v,rfl,hown,hB3⟩;obtain⟨pa,cap,rfl,hcap,hin⟩:=TRow.of_owns hown;obtain⟨g,cur,rfl,hg,hcur⟩:=hin (by simp)
 have hcz:=Zab hg (hcur o.length (by simp))
 rw[List.getElem_append_right (by omega)]at hcz
 simp only[Nat.sub_self,List.getElem_cons_zero]at hcz;simp only[List.length_append,List.length_cons,List.length_nil]at hcap ⊢;have hcurA:∀ j (hj:j<o.length),cur[j]? =some (.string (ba o[j])):=fun j hj=>by
  have:=hcur j (by simp;omega)
  rwa[List.getElem_append_left hj]at this
 clear HS hown hin;have z1:(o.length:Int)<=1000000:=by omega
 by_cases he:l=[]
 ·subst he;have hL:L=o:=by rw[HL.out,if_pos rfl]
  subst hL;clear HL hcur;go_wp2;go_ret;exact⟨_,rfl,⟨_,_,rfl,by omega,fun _=>⟨g,cur,rfl,hg,hcurA⟩⟩,hB3⟩
 ·have d1:l.isEmpty=false:=Zcr he;have hL:L=o++[l]:=by rw[HL.out,if_neg he]
  subst hL;clear HL;go_wp2;go_ret;exact⟨_,rfl,⟨some ⟨g,0,none⟩,cap,by simp,by simp;omega,fun _=>⟨g,cur,rfl,hg,hcur⟩⟩,hB3⟩
theorem Zji(S:List (List UInt8)):∀(d i:Nat),i+d=S.length->∃ t,Lib.compact S=compactUpTo S.toArray i++t
 | 0,i,h=>⟨[],by rw[Lib.compact,List.append_nil,<- h];rfl⟩
 | d+1,i,h=>by
  obtain⟨t,ht⟩:=Zji S d (i+1) (by omega)
  rw[Af.compact_succ,List.append_assoc]at ht;exact⟨_,ht⟩
theorem Zrd(S:List (List UInt8))(i:Nat)(h:i<S.length)(hk:keeps S.toArray i=true):compactUpTo S.toArray (i+1)=compactUpTo S.toArray i++[S[i]]/\(compactUpTo S.toArray i).length<(Lib.compact S).length/\∀ hx:(compactUpTo S.toArray i).length<(Lib.compact S).length,(Lib.compact S)[(compactUpTo S.toArray i).length]=S[i]:=by
 have e:compactUpTo S.toArray (i+1)=compactUpTo S.toArray i++[S[i]]:=by
  rw[Af.compact_succ,if_pos hk];simp[h]
 obtain⟨t,ht⟩:=Zji S (S.length - (i+1)) (i+1) (by omega)
 rw[e]at ht;refine⟨e,by rw[ht];simp,fun hx=> ?_⟩
 simp only[ht,List.append_assoc];rw[List.getElem_append_right (Nat.le_refl _)];simp
theorem Zrc(S:List (List UInt8))(i:Nat)(hk:keeps S.toArray i=false):compactUpTo S.toArray (i+1)=compactUpTo S.toArray i:=by
 rw[Af.compact_succ,hk];simp
theorem Zwv(S:List (List UInt8)):keeps S.toArray 0=true:=by simp[keeps]
theorem Zww(S:List (List UInt8))(i:Nat)(h:i+1<S.length):keeps S.toArray (i+1)= !(S[i+1]==S[i]):=by
 have h':i<S.length:=by omega
 unfold keeps;simp[h,h'];by_cases e:S[i+1]=S[i] <;> simp[e]
theorem Zjm{m:Nat}:∀ {ls:List (List UInt8)},(∀ x∈ls,x.length<=m)->Af.bytes ls<=ls.length*m
 | [],_=>by simp[Af.bytes]
 | x::r,h=>by
  have ih:=Zjm (ls:=r) fun y hy=>h y (by simp[hy])
  have hx:=h x (by simp)
  simp only[Af.bytes,List.map_cons,List.sum_cons,List.length_cons,Nat.add_mul,Nat.one_mul]at ih ⊢;omega
theorem Zgr:∀(ls:List (List UInt8)),(Af.all ls).length<=Af.bytes ls
 | []=>by simp[Af.all,Af.bytes]
 | x::r=>by
  have ih:=Zgr r;have hx:=Af.lines_len x;simp only[Af.all,Af.bytes,List.flatMap_cons,List.length_append,List.map_cons,List.sum_cons]at ih ⊢;omega
variable {m n:Nat}{ls:List (List UInt8)}
theorem Zle(hn:ls.length<=n)(h:∀ x∈ls,x.length<=m)(k:Nat):Af.bytes (ls.take k)<=n*m:=by
 refine Nat.le_trans (Zjm fun x hx=>h x (List.mem_of_mem_take hx)) (Nat.mul_le_mul_right _ ?_)
 simp
 omega
theorem Zwr(wd:List UInt8)(g o cap:Nat)(ls:List (List UInt8))(hn:ls.length<=20)(hx:∀ x∈ls,x.length<=4000)(w:World)(hg:g<w.heap.size)(hcur:∀ j (hj:j<ls.length),w.cell? ⟨g,o+j,none⟩=some (.string (ba ls[j]))):
  Calls prog 132 #[.string ⟨#[99,111,117,110,116]⟩,.string (ba wd),.slice (some ⟨g,o,none⟩) ls.length cap] w fun e w'=>e=.returned (.string (ba (Af.count ls)))/\Below w.heap.size w w':=by
 have HC:=hid1 hcur;have HX:=hid1 hx;have HTB:=hid1 fun k=>Zle hn hx k
 have HLL:=hid1 fun(y:List UInt8) (hy:y.length<=4000) W=>Zbr y (by omega) W
 have HD:=hid1 Zdg;clear hcur hx;go_enter func132,ntmps132
 go_wp2;go_loopw [19,20,21] (fun n b i wr=>∃ k:Nat,k<=ls.length/\n=.int .i64 ((Af.all (ls.take k)).length:Nat)/\b=.int .i64 (Af.bytes (ls.take k):Nat)/\i=.int .i64 k/\Below w.heap.size w wr) (fun _ _ i _=>ls.length - (intOf i).toNat)
 case atStart=>exact⟨0,Nat.zero_le _,rfl,rfl,rfl,Below.refl _ _⟩
 case round =>
  obtain⟨k,hk,rfl,rfl,rfl,hB⟩:=hrel;have c0:(0:Int)<=(k:Int):=by omega
  have hb0:Af.bytes (ls.take k)<=80000:=HTB.out k;have ha0:(Af.all (ls.take k)).length<=80000:=Nat.le_trans (Zgr _) hb0;by_cases hlt:k<ls.length
  ·have c1:(k:Int)<(ls.length:Int):=by omega
   have hy:=HX.out _ (List.getElem_mem hlt);have hcell:=(hB.cell (p:=⟨g,o+k,none⟩) hg).trans (HC.out k hlt);have hgr:g<wr.heap.size:=Nat.lt_of_lt_of_le hg hB.size;have HA:Hid ((Af.all (ls.take (k+1))).length=(Af.all (ls.take k)).length+(Af.lines ls[k]).length):=by
    refine hid1 ?_;rw[Zhx hlt,List.length_append]
   have HBy:=hid1 (Zgp hlt);have H1:=HLL.out ls[k] hy wr;have hly:=Af.lines_len ls[k];generalize ls[k]=y at *;generalize Af.lines y=L at *;generalize (Af.all (ls.take k)).length=n at *;generalize Af.bytes (ls.take k)=b at *;have q8:IntKind.i64.wrap (k:Int)=(k:Int):=by rw[IntKind.wrap_i64];omega
   have q9:IntKind.i64.wrap ((n:Int)+(L.length:Int))=((n+L.length:Nat):Int):=by rw[IntKind.wrap_i64];omega
   have q7:IntKind.i64.wrap ((b:Int)+(y.length:Int))=((b+y.length:Nat):Int):=by rw[IntKind.wrap_i64];omega
   go_wp2_with fail;refine Calls.mono H1 ?_;rintro e w1 ⟨v,rfl,⟨pa,lc,rfl,hcap,_⟩,g1⟩;have hcell1:=(g1.cell (p:=⟨g,o+k,none⟩) hgr).trans hcell;go_wp2;exact⟨⟨k+1,by omega,by rw[HA.out,Int.natCast_add],by rw[HBy.out,Int.natCast_add],by go_num,hB.trans (g1.mono hB.size)⟩,by simp[intOf];omega⟩
  ·obtain rfl:k=ls.length:=by omega
   have c1:¬ (ls.length:Int)<(ls.length:Int):=by omega
   have HQ:Hid (Af.count ls=Lib.decDigits (Af.all ls).length++32::(Lib.decDigits (Af.bytes ls)++[10])):=rfl;rw[List.take_length]at *;have H1:=hid1 fun W=>HD.out (Af.all ls).length (by omega) W
   have H2:=hid1 fun W=>HD.out (Af.bytes ls) (by omega) W
   have hd1:=Zax (Af.all ls).length (by omega)
   have hd2:=Zax (Af.bytes ls) (by omega)
   generalize (Af.all ls).length=n at *;generalize Af.bytes ls=b at *;generalize Lib.decDigits n=dn at *;generalize Lib.decDigits b=db at *;have s1:∀ W,(Op.stringOp .add (ba dn) ⟨#[32]⟩).run prog W=.ok (.string (ba (dn++[32]))) W:=madd dn [32] (by simp;omega)
   have s2:∀ W,(Op.stringOp .add (ba (dn++[32])) (ba db)).run prog W=.ok (.string (ba (dn++[32]++db))) W:=madd (dn++[32]) db (by simp;omega)
   have s3:∀ W,(Op.stringOp .add (ba (dn++[32]++db)) ⟨#[10]⟩).run prog W=.ok (.string (ba (dn++[32]++db++[10]))) W:=madd (dn++[32]++db) [10] (by simp;omega)
   have HE:Hid (Af.count ls=dn++[32]++db++[10]):=by
    refine hid1 ?_;rw[HQ.out];simp
   generalize dn++[32]++db++[10]=t3 at *;generalize dn++[32]++db=t2 at *;generalize dn++[32]=t1 at *;go_wp2_with fail;refine Calls.mono (H1.out _) ?_;rintro e w1 ⟨rfl,g1⟩;go_wp2_with fail;refine Calls.mono (H2.out _) ?_;rintro e w2 ⟨rfl,g2⟩;go_wp2;go_ret;have hB1:=hB.trans (g1.mono hB.size);refine⟨?_,hB1.trans (g2.mono hB1.size)⟩;show Ending.returned (.string (ba t3))=_
   rw[HE.out]
theorem Zfe(l:List (List UInt8))(x:List UInt8):Af.told (l++[x])=Af.told l++x++[10]:=by
 rw[Af.told_append];simp[Af.told]
theorem Zvh(wd:List UInt8)(L:List (List UInt8))(k:Nat)(hk:k<L.length):Af.withW wd (L.take (k+1))=Af.withW wd (L.take k)++(if Lib.contains L[k] wd then [L[k]] else []):=by
 unfold Af.withW;rw[List.take_succ_eq_append_getElem hk,List.filter_append];congr 1
 by_cases h:Lib.contains L[k] wd <;> simp[h]
theorem Zwq(wd x:List UInt8)(g o cap:Nat)(hwd:wd.length<=1000)(hx:x.length<=100000)(w:World)(hc:w.cell? ⟨g,o,none⟩=some (.string (ba x))):
  Calls prog 132 #[.string ⟨#[108,105,110,101,115]⟩,.string (ba wd),.slice (some ⟨g,o,none⟩) 1 cap] w fun e w'=>e=.returned (.string (ba (Af.told (Af.withW wd (Af.lines x)))))/\Below w.heap.size w w':=by
 have HL:=hid1 (Zbr x (by omega) w)
 have hll:(Af.lines x).length<=100000:=Nat.le_trans (Af.lines_len x) hx;have hlx:∀ y∈Af.lines x,y.length<=100000:=fun y hy=>Nat.le_trans (Af.line_len hy) hx
 have htl:∀ k,(Af.told (Af.withW wd ((Af.lines x).take k))).length<=100001:=fun k=>by
  have h1:=Zoj wd ((Af.lines x).take k);have h2:=Zbb (l:=Af.lines x) k;have h3:=(Af.told_lines_len x).2;omega
 generalize Af.lines x=L at *;have HX:=hid1 hlx;have HTL:=hid1 htl;have HI:=hid1 fun(y:List UInt8) (hy:y.length<=100000) W=>Ycn y wd (by omega) (by omega) W
 clear hlx htl;go_enter func132,ntmps132
 go_wp2_with fail;refine Calls.mono HL.out ?_;rintro e w1 ⟨v,rfl,hrow,hB⟩;obtain⟨pa,lc,rfl,hcap,hin⟩:=hrow;have HR:=hid1 hin;clear hin HL hc;go_wp2;go_loopw [7,12] (fun s i wr=>∃ k:Nat,k<=L.length/\s=.string (ba (Af.told (Af.withW wd (L.take k))))/\i=.int .i64 k/\w1=wr) (fun _ i _=>L.length - (intOf i).toNat)
 case atStart=>exact⟨0,Nat.zero_le _,rfl,rfl,rfl⟩
 case round =>
  obtain⟨k,hk,rfl,rfl,rfl⟩:=hrel;have c0:(0:Int)<=(k:Int):=by omega
  have hl0:=HTL.out k;by_cases hlt:k<L.length
  ·obtain⟨g1,cur,rfl,hg1,hcur⟩:=HR.out (by intro e;rw[e]at hlt;simp at hlt)
   have hcell:=Zab hg1 (hcur k hlt);have c1:(k:Int)<(L.length:Int):=by omega
   have hy:=HX.out _ (List.getElem_mem hlt);have HW:=hid1 (Zvh wd L k hlt);have H1:=HI.out L[k] hy w1;clear hcur HR hg1;generalize L[k]=y at *;generalize Af.withW wd (L.take k)=fl at *;have q8:IntKind.i64.wrap (k:Int)=(k:Int):=by rw[IntKind.wrap_i64];omega
   cases hcn:Lib.contains y wd with
   | false =>
    rw[hcn]at H1;have HE:=hid1 (show Af.told (Af.withW wd (L.take (k+1)))=Af.told fl by rw[HW.out,hcn];simp)
    generalize Af.told fl=t at *;go_wp2_with fail;refine Calls.mono H1 ?_;rintro e w2 ⟨rfl,rfl⟩;go_wp2;exact⟨⟨k+1,by omega,by rw[HE.out],by go_num,trivial⟩,by simp[intOf];omega⟩
   | true =>
    rw[hcn]at H1;have HE:=hid1 (show Af.told (Af.withW wd (L.take (k+1)))=Af.told fl++y++[10] by rw[HW.out,hcn];exact Zfe fl y)
    generalize Af.told fl=t at *;have s1:∀ W,(Op.stringOp .add (ba t) (ba y)).run prog W=.ok (.string (ba (t++y))) W:=madd t y (by omega)
    have s2:∀ W,(Op.stringOp .add (ba (t++y)) ⟨#[10]⟩).run prog W=.ok (.string (ba (t++y++[10]))) W:=madd (t++y) [10] (by rw[List.length_append];simp;omega)
    generalize t++y++[10]=t2 at *;generalize t++y=t1 at *;go_wp2_with fail;refine Calls.mono H1 ?_;rintro e w2 ⟨rfl,rfl⟩;go_wp2;exact⟨⟨k+1,by omega,by rw[HE.out],by go_num,trivial⟩,by simp[intOf];omega⟩
  ·obtain rfl:k=L.length:=by omega
   have c1:¬ (L.length:Int)<(L.length:Int):=by omega
   rw[List.take_length]at *;go_wp2;go_ret;exact⟨rfl,hB⟩
def SoRow(w:World)(v:Value)(L:List (List UInt8)):Prop :=
 (v=.slice none 0 0/\L=[])\/(L≠[]/\∃ g cap,v=.slice (some ⟨g,0,none⟩) L.length cap/\TRow w v L)
theorem SoRow.below{w w':World}{v:Value}{L:List (List UInt8)}(h:SoRow w v L)(hb:Below w.heap.size w w'):SoRow w' v L:=by
 rcases h with h | ⟨h0,g,cap,e,h⟩
 ·exact .inl h
 ·exact .inr ⟨h0,g,cap,e,h.below hb⟩
theorem SoRow.of_owns{w:World}{base:Nat}{v:Value}{r:List (List UInt8)}(h:w.ownsRow base 9 1 v r.length (r.map sv))(hr:r≠[]):SoRow w v r:=by
 have ht:TRow w v r:=TRow.of_owns h;obtain⟨p,cap,rfl,hcap,hin⟩:=ht;obtain⟨g,cur,rfl,hg,hcur⟩:=hin hr;exact .inr ⟨hr,g,cap,rfl,TRow.of_owns h⟩
variable {w:World}{v:Value}
theorem SoRow.cells{L:List (List UInt8)}(h:SoRow w v L):∃ p c,v=.slice p L.length c/\∀ j,j<L.length->∃ g,p=some ⟨g,0,none⟩/\∀ i (hi:i<L.length),w.cell? ⟨g,i,none⟩=some (.string (ba L[i])):=by
 rcases h with ⟨rfl,rfl⟩ | ⟨h0,g,cap,rfl,h⟩
 ·exact⟨none,0,rfl,fun j hj=>absurd hj (by simp)⟩
 ·obtain⟨p,c,e,_,hin⟩:=h;obtain⟨g',cur,rfl,hg,hcur⟩:=hin h0;obtain⟨rfl,rfl⟩:g=g'/\cap=c:=by simpa using e
  exact⟨_,_,rfl,fun j hj=>⟨g,rfl,fun i hi=>Zab hg (hcur i hi)⟩⟩
theorem Zzu{l r:List (List UInt8)}{x:List UInt8}(h:Af.Laid l x r):r≠[]:=by
 obtain⟨k,_,rfl,_⟩:=h;simp
theorem Yds{ms:List (List UInt8)}(h:SoRow w v (Af.srt ms))(hl:ms.length<=100000)(x:List UInt8):
  Calls prog 174 #[v,.string (ba x)] w fun e w'=>∃ v',e=.returned v'/\SoRow w' v' (Af.srt (ms++[x]))/\Below w.heap.size w w':=by
 rcases h with ⟨rfl,h0⟩ | ⟨h0,g,cap,rfl,h⟩
 ·refine(Zwu x w).mono ?_;rintro e w' ⟨v',r,rfl,hr,ho,hb⟩;have hne:=Zzu hr;rw[<- h0]at hr;rw[Znh hr]at ho hne;exact⟨v',rfl,SoRow.of_owns ho hne,hb⟩
 ·refine(Zzt g cap (Af.srt ms) x (by rw[Af.srt_len];exact hl) h0 w h).mono ?_
  rintro e w' ⟨v',r,rfl,hr,ho,hb⟩;have hne:=Zzu hr;rw[Znh hr]at ho hne;exact⟨v',rfl,SoRow.of_owns ho hne,hb⟩
theorem Ybg(hn:ls.length<=n)(hx:∀ x∈ls,x.length<=m):(Af.told (Af.srt (Af.all ls))).length<=n*(m+1):=by
 rw[Af.told_perm (Af.srt_perm _)];refine Nat.le_trans (Af.told_all_len ls) ?_;have key:∀(l:List (List UInt8)),(∀ x∈l,x.length<=m)->(l.map fun x=>x.length+1).sum<=l.length*(m+1):=fun l=>by
  induction l with
  | nil=>simp
  | cons x r ih =>
   intro h
   have i1:=ih fun y hy=>h y (by simp[hy])
   have i2:=h x (by simp)
   simp only[List.map_cons,List.sum_cons,List.length_cons,Nat.add_mul,Nat.one_mul]at i1 ⊢;omega
 exact Nat.le_trans (key ls hx) (Nat.mul_le_mul_right _ hn)
theorem Zvo(S:List (List UInt8)):S.length<=(Af.told S).length:=by
 induction S with
 | nil=>simp
 | cons x r ih =>
  have e:Af.told (x::r)=x++10::Af.told r:=by simp[Af.told]
  rw[e,List.length_append,List.length_cons,List.length_cons];omega
theorem Ycf(hx:∀ x∈ls,x.length<=m):∀ y∈Af.srt (Af.all ls),y.length<=m:=fun y hy=>by
 obtain⟨s,hs,h⟩:=List.mem_flatMap.1 ((Af.srt_perm _).mem_iff.1 hy);exact Nat.le_trans (Af.line_len h) (hx s hs)
theorem Zzl(wd:List UInt8)(htk:Af.Kd.sort.takes wd=true)(g o cap:Nat)(ls:List (List UInt8))(hn:ls.length<=20)(hx:∀ x∈ls,x.length<=4000)(w:World)(hg:g<w.heap.size)(hcur:∀ j (hj:j<ls.length),w.cell? ⟨g,o+j,none⟩=some (.string (ba ls[j]))):
  Calls prog 132 #[.string ⟨#[115,111,114,116]⟩,.string (ba wd),.slice (some ⟨g,o,none⟩) ls.length cap] w fun e w'=>e=.returned (.string (ba (Af.sorted wd ls)))/\Below w.heap.size w w':=by
 have hwd:wd=[]\/wd=oncew:=by
  have:wd∈[[],oncew]:=of_decide_eq_true htk
  simpa using this
 have HC:=hid1 hcur;have HX:=hid1 hx;have HTB:=hid1 fun k=>Zle hn hx k
 have HTS:=hid1 (Ybg hn hx);have HLA:=hid1 (Ycf hx);have HLL:=hid1 fun(y:List UInt8) (hy:y.length<=4000) W=>Zbr y (by omega) W
 clear hcur hx htk;go_enter func132,ntmps132
 go_wp2;go_loopw [14,15] (fun l i wr=>∃ k:Nat,k<=ls.length/\i=.int .i64 k/\SoRow wr l (Af.srt (Af.all (ls.take k)))/\Below w.heap.size w wr) (fun _ i _=>ls.length - (intOf i).toNat)
 case atStart=>exact⟨0,Nat.zero_le _,rfl,.inl ⟨rfl,Zyg⟩,Below.refl _ _⟩
 case round =>
  obtain⟨k,hk,rfl,hrow,hB⟩:=hrel;have c0:(0:Int)<=(k:Int):=by omega
  have HR:=hid1 hrow;clear hrow;by_cases hlt:k<ls.length
  ·have c1:(k:Int)<(ls.length:Int):=by omega
   have hb0:Af.bytes (ls.take (k+1))<=80000:=HTB.out (k+1);have ha0:(Af.all (ls.take (k+1))).length<=80000:=Nat.le_trans (Zgr _) hb0;have hy:=HX.out _ (List.getElem_mem hlt);have hcell:=(hB.cell (p:=⟨g,o+k,none⟩) hg).trans (HC.out k hlt);have HA:=hid1 (Zhx hlt);rw[HA.out,List.length_append]at ha0;have H1:=HLL.out ls[k] hy wr;generalize ls[k]=y at *
   generalize Af.lines y=L at *;generalize Af.all (ls.take k)=ms at *;have q8:IntKind.i64.wrap (k:Int)=(k:Int):=by rw[IntKind.wrap_i64];omega
   have zL:(L.length:Int)<=80000:=by omega
   go_wp2_with fail;refine Calls.mono H1 ?_;rintro e w1 ⟨vL,rfl,hL,g1⟩;have HL:=hid1 hL;obtain⟨pa,lc,rfl,hcap,_⟩:=hL;have HR1:=hid1 (HR.out.below g1);have hB1:=hB.trans (g1.mono hB.size);clear HR H1 hcell g1;generalize wr=w0 at *;go_wp2
   go_loopw [14,17] (fun l j wr=>∃ m:Nat,m<=L.length/\j=.int .i64 m/\SoRow wr l (Af.srt (ms++L.take m))/\Below w1.heap.size w1 wr) (fun _ j _=>L.length - (intOf j).toNat)
   case atStart=>exact⟨0,Nat.zero_le _,rfl,by simpa using HR1.out,Below.refl _ _⟩
   case round =>
    obtain⟨m,hm,rfl,hrow,hBr⟩:=hrel;have HR:=hid1 hrow;clear hrow;have c2:(0:Int)<=(m:Int):=by omega
    have q7:IntKind.i64.wrap (m:Int)=(m:Int):=by rw[IntKind.wrap_i64];omega
    by_cases hmt:m<L.length
    ·have c3:(m:Int)<(L.length:Int):=by omega
     obtain⟨_,_,e1,_,hin⟩:=HL.out;obtain⟨g1,cur,rfl,hg1,hcur⟩:=hin (by intro e;rw[e]at hmt;simp at hmt)
     obtain⟨rfl,rfl⟩:pa=some ⟨g1,0,none⟩/\_:=by simpa using e1
     have hc1:=(hBr.cell (p:=⟨g1,m,none⟩) (Array.getElem?_eq_some_iff.1 hg1).1).trans (Zab hg1 (hcur m hmt));have H2:=hid1 (Yds HR.out (by simp;omega) L[m])
     have HS:=hid1 (show ms++L.take m++[L[m]]=ms++L.take (m+1) by rw[List.take_succ_eq_append_getElem hmt,List.append_assoc])
     rw[HS.out]at H2;clear hcur hg1 hin HL;generalize L[m]=z at *;go_wp2_with fail;refine Calls.mono H2.out ?_;rintro e w3 ⟨v3,rfl,hrow3,g3⟩;have HR3:=hid1 hrow3;clear hrow3;go_wp2;exact⟨⟨m+1,by omega,by go_num,HR3.out,hBr.trans (g3.mono hBr.size)⟩,by simp[intOf];omega⟩
    ·obtain rfl:m=L.length:=by omega
     have c3:¬ (L.length:Int)<(L.length:Int):=by omega
     rw[List.take_length]at *;clear HL;go_wp2;exact⟨⟨k+1,by omega,by go_num,by rw[HA.out];exact HR.out,hB1.trans (hBr.mono hB1.size)⟩,by simp[intOf];omega⟩
  ·obtain rfl:k=ls.length:=by omega
   have c1:¬ (ls.length:Int)<(ls.length:Int):=by omega
   rw[List.take_length]at *;have hso:Af.sorted wd ls=Af.told (if wd=oncew then Lib.compact (Af.srt (Af.all ls)) else Af.srt (Af.all ls)):=rfl
   have HSO:=hid1 hso;clear hso HTB HX HC;obtain⟨p8,c8,rfl,hS0⟩:=HR.out.cells;have hS8:=hid1 hS0;clear hS0 HR;generalize Af.srt (Af.all ls)=S at *;have hS1:S.length<=80020:=by
    have h1:=HTS.out;have h2:=Zvo S;omega
   generalize wr=w8 at *;rcases hwd with hwd | hwd
   ·have q0:wd.isEmpty=true:=by rw[hwd];rfl
    have HE0:Hid (Af.sorted wd ls=Af.told S):=by
     refine hid1 ?_;rw[HSO.out,if_neg (by rw[hwd];decide)]
    clear hwd HSO;go_wp2;go_loopw [7,18] (fun s i wr=>∃ k q:Nat,k<=S.length/\s=.string (ba (Af.told (S.take k)))/\i=.int .i64 k/\wr=w8.drewN q) (fun _ i _=>S.length - (intOf i).toNat)
    case atStart=>exact⟨0,0,Nat.zero_le _,rfl,rfl,rfl⟩
    case round =>
     obtain⟨k,q,hk,rfl,rfl,rfl⟩:=hrel;have v0:(0:Int)<=(k:Int):=by omega
     have hl0:=Nat.le_trans (Zbb (l:=S) k) HTS.out;by_cases hlt:k<S.length
     ·have v1:(k:Int)<(S.length:Int):=by omega
      obtain⟨g1,rfl,hcs⟩:=hS8.out k hlt;have hc1:=hcs k hlt;have hy:=HLA.out _ (List.getElem_mem hlt);have HE:=hid1 (show Af.told (S.take (k+1))=Af.told (S.take k)++S[k]++[10] by rw[List.take_succ_eq_append_getElem hlt];exact Zfe _ _)
      clear hcs hS8 HLA;generalize S[k]=y at *;generalize Af.told (S.take k)=t at *;have q8:IntKind.i64.wrap (k:Int)=(k:Int):=by rw[IntKind.wrap_i64];omega
      have s1:∀ W,(Op.stringOp .add (ba t) (ba y)).run prog W=.ok (.string (ba (t++y))) W:=madd t y (by omega)
      have s2:∀ W,(Op.stringOp .add (ba (t++y)) ⟨#[10]⟩).run prog W=.ok (.string (ba (t++y++[10]))) W:=madd (t++y) [10] (by rw[List.length_append];simp;omega)
      generalize t++y++[10]=t2 at *;generalize t++y=t1 at *;go_wp2;go_quiet (fail)
      go_wp2;exact⟨⟨k+1,_,by omega,by rw[HE.out],by go_num,rfl⟩,by simp[intOf];omega⟩
     ·obtain rfl:k=S.length:=by omega
      have v1:¬ (S.length:Int)<(S.length:Int):=by omega
      rw[List.take_length]at *;clear hS8 HLA;go_wp2;go_ret;refine⟨?_,Zad hB q⟩;show Ending.returned (.string (ba (Af.told S)))=_
      rw[HE0.out]
   ·have q0:wd.isEmpty=false:=by rw[hwd];rfl
    have HE0:Hid (Af.sorted wd ls=Af.told (Lib.compact S)):=by
     refine hid1 ?_;rw[HSO.out,if_pos hwd]
    clear hwd HSO;have HCU:Hid (Lib.compact S=compactUpTo S.toArray S.length):=by
     refine hid1 ?_;rw[Lib.compact]
    go_wp2;go_loopw [7,18] (fun s i wr=>∃ k q:Nat,k<=S.length/\s=.string (ba (Af.told (compactUpTo S.toArray k)))/\i=.int .i64 k/\wr=w8.drewN q) (fun _ i _=>S.length - (intOf i).toNat)
    case atStart=>exact⟨0,0,Nat.zero_le _,rfl,rfl,rfl⟩
    case round =>
     obtain⟨k,q,hk,rfl,rfl,rfl⟩:=hrel;have v0:(0:Int)<=(k:Int):=by omega
     have hl0:=Nat.le_trans (Af.compact_told_len S k hk) (Nat.le_trans (Zbb (l:=S) k) HTS.out);by_cases hlt:k<S.length
     ·have v1:(k:Int)<(S.length:Int):=by omega
      obtain⟨g1,rfl,hcs⟩:=hS8.out k hlt;have hc1:=hcs k hlt;have hy:=HLA.out _ (List.getElem_mem hlt);have q8:IntKind.i64.wrap (k:Int)=(k:Int):=by rw[IntKind.wrap_i64];omega
      have HKeep:=hid1 fun hkp:keeps S.toArray k=true=>show Af.told (compactUpTo S.toArray (k+1))=Af.told (compactUpTo S.toArray k)++S[k]++[10] by rw[(Zrd S k hlt hkp).1];exact Zfe _ _
      have HSkip:=hid1 fun hkp:keeps S.toArray k=false=>show Af.told (compactUpTo S.toArray (k+1))=Af.told (compactUpTo S.toArray k) by rw[Zrc S k hkp]
      have s1:∀ W,(Op.stringOp .add (ba (Af.told (compactUpTo S.toArray k))) (ba S[k])).run prog W=.ok (.string (ba (Af.told (compactUpTo S.toArray k)++S[k]))) W:=madd _ S[k] (by omega)
      have s2:∀ W,(Op.stringOp .add (ba (Af.told (compactUpTo S.toArray k)++S[k])) ⟨#[10]⟩).run prog W=.ok (.string (ba (Af.told (compactUpTo S.toArray k)++S[k]++[10]))) W:=madd (Af.told (compactUpTo S.toArray k)++S[k]) [10] (by rw[List.length_append];simp;omega)
      by_cases h0:k=0
      ·subst h0;have HE:=hid1 (HKeep.out (Zwv S));clear HKeep HSkip hcs hS8 HLA;generalize S[0]=y at *;generalize Af.told (compactUpTo S.toArray 0)=t at *;generalize t++y++[10]=t2 at *;generalize t++y=t1 at *;go_wp2;go_quiet (fail)
       go_wp2;exact⟨⟨1,_,by omega,by rw[HE.out],by go_num,rfl⟩,by simp[intOf];omega⟩
      ·obtain⟨i,rfl⟩:∃ i,k=i+1:=⟨k - 1,by omega⟩
       have hc0:=hcs i (by omega)
       have HKE:=hid1 (Zww S i hlt);have d0':((i:Int)+1==0)=false:=by simp;omega
       have v5:(i:Int)<(S.length:Int):=by omega
       have v6:(0:Int)<=(i:Int):=by omega
       have v7:(i:Int)+1<(S.length:Int):=by omega
       have v8:(0:Int)<=(i:Int)+1:=by omega
       have v9:IntKind.i64.wrap ((i:Int)+1 - 1)=(i:Int):=by rw[IntKind.wrap_i64];omega
       cases hb:S[i+1]==S[i] with
       | true =>
        have HE:=hid1 (HSkip.out (by rw[HKE.out,hb];rfl))
        clear HKeep HSkip HKE hcs hS8 HLA s1 s2;generalize S[i+1]=y1 at *;generalize S[i]=y0 at *;generalize Af.told (compactUpTo S.toArray (i+1))=t at *;go_wp2;go_quiet (fail)
        go_wp2;exact⟨⟨i+1+1,_,by omega,by rw[HE.out],by go_num,rfl⟩,by simp[intOf];omega⟩
       | false =>
        have HE:=hid1 (HKeep.out (by rw[HKE.out,hb];rfl))
        clear HKeep HSkip HKE hcs hS8 HLA;generalize S[i+1]=y1 at *;generalize S[i]=y0 at *;generalize Af.told (compactUpTo S.toArray (i+1))=t at *;generalize t++y1++[10]=t2 at *;generalize t++y1=t1 at *;go_wp2;go_quiet (fail)
        go_wp2;exact⟨⟨i+1+1,_,by omega,by rw[HE.out],by go_num,rfl⟩,by simp[intOf];omega⟩
     ·obtain rfl:k=S.length:=by omega
      have v1:¬ (S.length:Int)<(S.length:Int):=by omega
      clear hS8 HLA;rw[<- HCU.out]at *;go_wp2;go_ret;refine⟨?_,Zad hB q⟩;show Ending.returned (.string (ba (Af.told (Lib.compact S))))=_
      rw[HE0.out]
theorem Zvl(x:List UInt8)(k:Nat)(hk:k<x.length):Af.upper (x.take (k+1))=Af.upper (x.take k)++[Af.up x[k]]:=by
 unfold Af.upper;rw[List.take_succ_eq_append_getElem hk,List.map_append];rfl
variable {c:UInt8}
theorem up_yes(h1:(97:Int)<=(c.toNat:Int))(h2:(c.toNat:Int)<=122):[UInt8.ofNat (c.toNat - 32)]=[Af.up c]:=by
 unfold Af.up;rw[if_pos ⟨by omega,by omega⟩]
theorem up_no(h:¬ ((97:Int)<=(c.toNat:Int)/\(c.toNat:Int)<=122)):[c]=[Af.up c]:=by
 unfold Af.up;rw[if_neg (by omega)]
theorem Zwp(wd x:List UInt8)(g o cap:Nat)(hx:x.length<=100000)(w:World)(hc:w.cell? ⟨g,o,none⟩=some (.string (ba x)))(hg:g<w.heap.size):
  Calls prog 132 #[.string ⟨#[117,112,112,101,114]⟩,.string (ba wd),.slice (some ⟨g,o,none⟩) 1 cap] w fun e w'=>e=.returned (.string (ba (Af.upper x)))/\Below w.heap.size w w':=by
 obtain⟨bs,eb,T⟩:=txt x;rw[eb]at hc;clear eb;have HB:=hid1 Zgs;have HT:=hid1 T;clear T;go_enter func132,ntmps132
 go_wp2;go_loopw [7,9] (fun s i wr=>∃ k:Nat,k<=x.length/\s=.string (ba (Af.upper (x.take k)))/\i=.int .i64 k/\Below w.heap.size w wr) (fun _ i _=>x.length - (intOf i).toNat)
 case atStart=>exact⟨0,Nat.zero_le _,rfl,rfl,Below.refl _ _⟩
 case round =>
  obtain⟨k,hk,rfl,rfl,hB⟩:=hrel;have hcw:=(hB.cell (p:=⟨g,o,none⟩) hg).trans hc;have c0:(0:Int)<=(k:Int):=by omega
  by_cases hlt:k<x.length
  ·have hlt2:k<bs.size:=by rw[HT.out.size];exact hlt
   have c1:(k:Int)<(bs.size:Int):=by omega
   have hget:=HT.out.get k hlt hlt2;have HU:=hid1 (Zvl x k hlt);have hul:(Af.upper (x.take k)).length<=100000:=by simp[Af.upper];omega
   have hb:(x[k].toNat:Int)<256:=by have:=x[k].toNat_lt;omega
   generalize x[k]=b at *;generalize Af.upper (x.take k)=t at *;have s1:∀(y:UInt8) W,(Op.stringOp .add (ba t) (ba [y])).run prog W=.ok (.string (ba (t++[y]))) W:=fun y=>madd t [y] (by simp;omega)
   have q8:IntKind.i64.wrap (k:Int)=(k:Int):=by rw[IntKind.wrap_i64];omega
   have q9:IntKind.i64.wrap (b.toNat:Int)=(b.toNat:Int):=by rw[IntKind.wrap_i64];omega
   by_cases hl1:(97:Int)<=(b.toNat:Int)
   ·by_cases hl2:(b.toNat:Int)<=122
    ·have q7:IntKind.i64.wrap ((b.toNat:Int) - 32)=((b.toNat - 32:Nat):Int):=by rw[IntKind.wrap_i64];omega
     have HY:=hid1 (up_yes hl1 hl2);have H1:=hid1 fun W=>HB.out (b.toNat - 32) (by omega) W
     generalize b.toNat - 32=n at *;go_wp2_with fail;refine Calls.mono (H1.out _) ?_;rintro e w1 ⟨rfl,g1⟩;go_wp2;exact⟨⟨k+1,by omega,by rw[HU.out,HY.out],by go_num,hB.trans (g1.mono hB.size)⟩,by simp[intOf];omega⟩
    ·have hl3:(122:Int)<(b.toNat:Int):=by omega
     have HY:=hid1 (up_no (c:=b) (by omega))
     have H1:=hid1 fun W=>HB.out b.toNat (by omega) W
     go_wp2_with fail;refine Calls.mono (H1.out _) ?_;rintro e w1 ⟨rfl,g1⟩;go_wp2;exact⟨⟨k+1,by omega,by rw[HU.out,<- HY.out],by go_num,hB.trans (g1.mono hB.size)⟩,by simp[intOf];omega⟩
   ·have hl3:(b.toNat:Int)<97:=by omega
    have HY:=hid1 (up_no (c:=b) (by omega))
    have H1:=hid1 fun W=>HB.out b.toNat (by omega) W
    go_wp2_with fail;refine Calls.mono (H1.out _) ?_;rintro e w1 ⟨rfl,g1⟩;go_wp2;exact⟨⟨k+1,by omega,by rw[HU.out,<- HY.out],by go_num,hB.trans (g1.mono hB.size)⟩,by simp[intOf];omega⟩
  ·obtain rfl:k=x.length:=by omega
   have c1:(bs.size:Int)<=(x.length:Int):=by rw[HT.out.size];omega
   rw[List.take_length]at *;go_wp2;go_ret;exact⟨rfl,hB⟩
theorem Zzn(wd x:List UInt8)(n:Nat)(hn:numJ wd=(n:Int))(g o cap:Nat)(hwd:wd.length<=1000)(hx:x.length<=100000)(w:World)(hc:w.cell? ⟨g,o,none⟩=some (.string (ba x))):
  Calls prog 132 #[.string ⟨#[104,101,97,100]⟩,.string (ba wd),.slice (some ⟨g,o,none⟩) 1 cap] w fun e w'=>e=.returned (.string (ba (Af.told ((Af.lines x).take n))))/\Below w.heap.size w w':=by
 have HL:=hid1 (Zbr x (by omega) w)
 have hll:(Af.lines x).length<=100000:=Nat.le_trans (Af.lines_len x) hx;have hlx:∀ y∈Af.lines x,y.length<=100000:=fun y hy=>Nat.le_trans (Af.line_len hy) hx
 have htl:∀ k,(Af.told ((Af.lines x).take k)).length<=100001:=fun k=>by
  have h2:=Zbb (l:=Af.lines x) k;have h3:=(Af.told_lines_len x).2;omega
 generalize Af.lines x=L at *;have HX:=hid1 hlx;have HTL:=hid1 htl;have HN:=hid1 fun W=>Zcg wd (by omega) W
 rw[hn]at HN;clear hlx htl hn;go_enter func132,ntmps132
 go_wp2_with fail;refine Calls.mono HL.out ?_;rintro e w1 ⟨v,rfl,hrow,hB⟩;obtain⟨pa,lc,rfl,hcap,hin⟩:=hrow;have HR:=hid1 hin;clear hin HL hc;go_wp2;go_loopw [7,26] (fun s i wr=>∃ k:Nat,k<=L.length/\k<=n/\s=.string (ba (Af.told (L.take k)))/\i=.int .i64 k/\w1=wr) (fun _ i _=>L.length - (intOf i).toNat)
 case atStart=>exact⟨0,Nat.zero_le _,Nat.zero_le _,rfl,rfl,rfl⟩
 case round =>
  obtain⟨k,hk,hkn,rfl,rfl,rfl⟩:=hrel;have c0:(0:Int)<=(k:Int):=by omega
  have hl0:=HTL.out k;have H1:=HN.out w1;by_cases hlt:k<L.length
  ·have c1:(k:Int)<(L.length:Int):=by omega
   by_cases hkn':k<n
   ·obtain⟨g1,cur,rfl,hg1,hcur⟩:=HR.out (by intro e;rw[e]at hlt;simp at hlt)
    have hcell:=Zab hg1 (hcur k hlt);have hy:=HX.out _ (List.getElem_mem hlt);have c2:(k:Int)<(n:Int):=by omega
    have HE:=hid1 (show Af.told (L.take (k+1))=Af.told (L.take k)++L[k]++[10] by rw[List.take_succ_eq_append_getElem hlt];exact Zfe _ _)
    clear hcur HR hg1;generalize L[k]=y at *;generalize Af.told (L.take k)=t at *;have q8:IntKind.i64.wrap (k:Int)=(k:Int):=by rw[IntKind.wrap_i64];omega
    have s1:∀ W,(Op.stringOp .add (ba t) (ba y)).run prog W=.ok (.string (ba (t++y))) W:=madd t y (by omega)
    have s2:∀ W,(Op.stringOp .add (ba (t++y)) ⟨#[10]⟩).run prog W=.ok (.string (ba (t++y++[10]))) W:=madd (t++y) [10] (by rw[List.length_append];simp;omega)
    generalize t++y++[10]=t2 at *;generalize t++y=t1 at *;go_wp2_with fail;refine Calls.mono H1 ?_;rintro e w2 ⟨rfl,rfl⟩;go_wp2;exact⟨⟨k+1,by omega,by omega,by rw[HE.out],by go_num,trivial⟩,by simp[intOf];omega⟩
   ·obtain rfl:k=n:=by omega
    have c2:¬ (k:Int)<(k:Int):=by omega
    go_wp2_with fail;refine Calls.mono H1 ?_;rintro e w2 ⟨rfl,rfl⟩;go_wp2;go_ret;exact⟨rfl,hB⟩
  ·obtain rfl:k=L.length:=by omega
   have c1:¬ (L.length:Int)<(L.length:Int):=by omega
   have HE:=hid1 (show L.take n=L by rw[List.take_of_length_le hkn])
   clear H1;go_wp2;go_ret;refine⟨?_,hB⟩;show Ending.returned (.string (ba (Af.told L)))=_
   rw[HE.out]
theorem Zyo(a b:List UInt8)(ha:a≠[]):Lib.replaceAll [] a b=[]:=by
 have h:Lib.index [] a= -1:=by
  cases a with
  | nil=>exact absurd rfl ha
  | cons x y=>rfl
 unfold Lib.replaceAll Lib.replace Lib.replaceNum;rw[Lib.count_miss h];split <;> simp[Lib.replaceK]
theorem Zmq(s a b:List UInt8)(hab:a≠b):Lib.replaceAll s a b=Lib.replaceK a b (Lib.count s a) s:=by
 unfold Lib.replaceAll Lib.replace Lib.replaceNum;rw[if_neg (by simpa using hab),if_pos (.inl (by decide))]
theorem Zhs(s a:List UInt8):Lib.replaceAll s a a=s:=by
 unfold Lib.replaceAll Lib.replace;rw[if_pos (by simp)]
theorem Zyp(s a b:List UInt8)(ha:a≠[])(h:a.isPrefixOf s=true):Lib.replaceAll s a b=b++Lib.replaceAll (s.drop a.length) a b:=by
 by_cases hab:a=b
 ·subst hab;rw[Zhs,Zhs];obtain⟨t,rfl⟩:=List.isPrefixOf_iff_prefix.1 h;simp
 ·rw[Zmq _ _ _ hab,Zmq _ _ _ hab];have h0:Lib.index s a=(0:Nat):=by
   cases s with
   | nil =>
    cases a with
    | nil=>exact absurd rfl ha
    | cons x y=>simp at h
   | cons x y=>unfold Lib.index;rw[if_pos h];rfl
  rw[Lib.count_hit ha h0,Nat.add_comm 1,Lib.replaceK_hit a b _ s 0 h0];simp
theorem Zuj(c:UInt8)(t a b:List UInt8)(ha:a≠[])(h:a.isPrefixOf (c::t)=false):Lib.replaceAll (c::t) a b=c::Lib.replaceAll t a b:=by
 by_cases hab:a=b
 ·subst hab;rw[Zhs,Zhs]
 ·rw[Zmq _ _ _ hab,Zmq _ _ _ hab];have hi:Lib.index (c::t) a=(if Lib.index t a== -1 then -1 else Lib.index t a+1):=by
   show(if a.isPrefixOf (c::t) then 0 else _)=_
   rw[h];rfl
  by_cases hm:Lib.index t a= -1
  ·rw[if_pos (by simp[hm])]at hi
   rw[Lib.count_miss hm,Lib.count_miss hi];rfl
  ·have hge:=Lib.index_ge t a;obtain⟨i,hti⟩:∃ i:Nat,Lib.index t a=i:=⟨(Lib.index t a).toNat,by omega⟩
   rw[if_neg (by simpa using hm),hti]at hi
   have hi':Lib.index (c::t) a=((i+1:Nat):Int):=by rw[hi];simp
   rw[Lib.count_hit ha hi',Lib.count_hit ha hti];have hd:(c::t).drop (i+1+a.length)=t.drop (i+a.length):=by
    rw[show i+1+a.length=(i+a.length)+1 by omega]
    rfl
   rw[hd,Nat.add_comm 1,Lib.replaceK_hit a b _ _ _ hi',Lib.replaceK_hit a b _ _ _ hti,hd];rfl
theorem Ydo(s a b:List UInt8)(ha:a≠[]):(Lib.replaceAll s a b).length<=s.length*(b.length+1):=by
 have key:∀(n:Nat) (s:List UInt8),s.length=n->(Lib.replaceAll s a b).length<=s.length*(b.length+1):=by
  intro n
  induction n using Nat.strongRecOn with
  | _ n ih =>
   intro s hs
   cases s with
   | nil=>rw[Zyo a b ha];simp
   | cons c t =>
    have hp:0<a.length:=List.length_pos_iff.2 ha;cases h:a.isPrefixOf (c::t) with
    | true =>
     have h1:=ih ((c::t).drop a.length).length (by simp at hs ⊢;omega) _ rfl
     rw[Zyp _ a b ha h,List.length_append];have h2:((c::t).drop a.length).length*(b.length+1)<=t.length*(b.length+1):=Nat.mul_le_mul_right _ (by simp;omega)
     simp only[List.length_cons,Nat.add_mul,Nat.one_mul]at h1 h2 ⊢;omega
    | false =>
     have h1:=ih t.length (by simp at hs;omega) t rfl
     rw[Zuj c t a b ha h];simp only[List.length_cons,Nat.add_mul,Nat.one_mul];omega
 exact key s.length s rfl
variable {s a b o:List UInt8}{i:Nat}
theorem Zvz(ha:a≠[])(h:Lib.occAt s a i=true)(ho:o++Lib.replaceAll (s.drop i) a b=Lib.replaceAll s a b):
  (o++b)++Lib.replaceAll (s.drop (i+a.length)) a b=Lib.replaceAll s a b:=by
 rw[<- ho,Zyp (s.drop i) a b ha h,List.drop_drop,List.append_assoc]
theorem Zsc(ha:a≠[])(hi:i<s.length)(h:Lib.occAt s a i=false)(ho:o++Lib.replaceAll (s.drop i) a b=Lib.replaceAll s a b):
  (o++[s[i]])++Lib.replaceAll (s.drop (i+1)) a b=Lib.replaceAll s a b:=by
 have e:s.drop i=s[i]::s.drop (i+1):=List.drop_eq_getElem_cons hi;have h':a.isPrefixOf (s[i]::s.drop (i+1))=false:=by rw[<- e];exact h
 rw[<- ho,e,Zuj _ _ a b ha h'];simp
theorem Zqb(wd x a b:List UInt8)(g o cap:Nat)(hwd:wd.length<=1000)(hx:x.length<=10000)(hab:cutB 61 wd=[a,b])(ha:a≠[])(hal:a.length<=1000)(hbl:b.length<=1000)(w:World)(hc:w.cell? ⟨g,o,none⟩=some (.string (ba x)))(hg:g<w.heap.size):
  Calls prog 132 #[.string ⟨#[115,119,97,112]⟩,.string (ba wd),.slice (some ⟨g,o,none⟩) 1 cap] w fun e w'=>e=.returned (.string (ba (Lib.replaceAll x a b)))/\Below w.heap.size w w':=by
 have HL:=hid1 (Zbd wd (by omega) 61 61 rfl w)
 rw[hab]at HL;have HH:=hid1 fun(i:Nat) (hi:i<=x.length) V W (hW:Below V.heap.size V W)=>(Ziz x a i (by omega) (by omega) hi W).mono (R':=fun e w'=>e=.returned (.bool (Lib.occAt x a i))/\Below V.heap.size V w') fun e w' ⟨h1,h2⟩=>⟨h1,h2 ▸ hW⟩
 have HLen:=hid1 (Ydo x a b ha);clear hab;go_enter func132,ntmps132
 go_wp2_with fail;refine Calls.mono HL.out ?_;rintro e w1 ⟨v,rfl,hown,hB⟩;obtain⟨pa,lc,rfl,hcap,hin⟩:=TRow.of_owns hown;obtain⟨g1,cur,rfl,hg1,hcur⟩:=hin (by simp)
 have hca:=Zab hg1 (hcur 0 (by simp))
 have hcb:=Zab hg1 (hcur 1 (by simp))
 simp only[List.getElem_cons_zero,List.getElem_cons_succ]at hca hcb;have hcx:=(hB.cell (p:=⟨g,o,none⟩) hg).trans hc;simp only[List.length_cons,List.length_nil,Nat.zero_add,Nat.reduceAdd]at hcap ⊢;have hg1w:g1<w1.heap.size:=(Array.getElem?_eq_some_iff.1 hg1).1;have hgw:g<w1.heap.size:=Nat.lt_of_lt_of_le hg hB.size;clear HL hc hcur hin hown hg1;go_wp2
 go_loopw [7,23] (fun s i wr=>∃(k:Nat) (t:List UInt8),k<=x.length/\s=.string (ba t)/\t++Lib.replaceAll (x.drop k) a b=Lib.replaceAll x a b/\i=.int .i64 k/\Below w1.heap.size w1 wr) (fun _ i _=>x.length - (intOf i).toNat)
 case atStart=>exact⟨0,[],Nat.zero_le _,rfl,rfl,rfl,Below.refl _ _⟩
 case round =>
  obtain⟨k,t,hk,rfl,ht,rfl,hBr⟩:=hrel;have d0:=(hBr.cell (p:=⟨g,o,none⟩) hgw).trans hcx;have d1:=(hBr.cell (p:=⟨g1,0,none⟩) hg1w).trans hca;have d2:=(hBr.cell (p:=⟨g1,1,none⟩) hg1w).trans hcb;have hgr:g<wr.heap.size:=Nat.lt_of_lt_of_le hgw hBr.size;have hg1r:g1<wr.heap.size:=Nat.lt_of_lt_of_le hg1w hBr.size;have c0:(0:Int)<=(k:Int):=by omega
  have htl:t.length<=10000*1001:=by
   have h1:=congrArg List.length ht;rw[List.length_append]at h1;have h2:=HLen.out;have h3:x.length*(b.length+1)<=10000*1001:=Nat.mul_le_mul hx (by omega)
   omega
  have HT:=hid1 ht;clear ht;by_cases hlt:k<x.length
  ·have c1:(k:Int)<(x.length:Int):=by omega
   have H1:=hid1 (HH.out k hk wr);have q8:IntKind.i64.wrap ((k:Int)+1)=(k:Int)+1:=by rw[IntKind.wrap_i64];omega
   cases ho:Lib.occAt x a k with
   | true =>
    rw[ho]at H1;have hroom:k+a.length<=x.length:=by
     rcases Lib.occAt_room ho with h | h
     ·exact h
     ·exact absurd h ha
    have HN:=hid1 (Zvz ha ho HT.out);have s1:∀ W,(Op.stringOp .add (ba t) (ba b)).run prog W=.ok (.string (ba (t++b))) W:=madd t b (by omega)
    have hal1:0<a.length:=List.length_pos_iff.2 ha;have q9:IntKind.i64.wrap ((k:Int)+(a.length:Int))=(k:Int)+(a.length:Int):=by rw[IntKind.wrap_i64];omega
    generalize t++b=t1 at *;clear HT ho;go_wp2;go_region_held3 (fun w'=>w'.cell? ⟨g,o,none⟩=some (.string (ba x))/\w'.cell? ⟨g1,0,none⟩=some (.string (ba a))) (first | go_keep | fail)
     (first | (go_at_call 90;refine(H1.out _ (by exact(Below.refl _ wr).drew)).mono ?_;rintro e w3 ⟨rfl,g3⟩;have e0:=(g3.cell (p:=⟨g,o,none⟩) hgr).trans d0;have e1:=(g3.cell (p:=⟨g1,0,none⟩) hg1r).trans d1;have e2:=(g3.cell (p:=⟨g1,1,none⟩) hg1r).trans d2) | fail)
    all_goals
     go_wp2;exact⟨⟨k+a.length,t1,by omega,rfl,HN.out,by go_num,hBr.trans (g3.mono hBr.size)⟩,by simp[intOf];omega⟩
   | false =>
    rw[ho]at H1;have HN:=hid1 (Zsc ha hlt ho HT.out);have s1:∀ W,(Op.stringOp .add (ba t) (ba [x[k]])).run prog W=.ok (.string (ba (t++[x[k]]))) W:=madd t [x[k]] (by simp;omega)
    have hex:(ba x).extract k (k+1)=ba [x[k]]:=by
     rw[Txt.extract ⟨rfl⟩,List.drop_take];simp only[Nat.add_sub_cancel_left];rw[List.drop_eq_getElem_cons hlt];rfl
    have f1:((k:Int)+1).toNat=k+1:=by omega
    have f2:(k:Int)+1<=(x.length:Int):=by omega
    have f3:(k:Int)<=(k:Int)+1:=by omega
    generalize x[k]=y at *;generalize t++[y]=t1 at *;clear HT ho;go_wp2;go_region_held3 (fun w'=>w'.cell? ⟨g,o,none⟩=some (.string (ba x))/\w'.cell? ⟨g1,0,none⟩=some (.string (ba a))) (first | go_keep | fail)
     (first | (go_at_call 90;refine(H1.out _ (by exact(Below.refl _ wr).drew)).mono ?_;rintro e w3 ⟨rfl,g3⟩;have e0:=(g3.cell (p:=⟨g,o,none⟩) hgr).trans d0;have e1:=(g3.cell (p:=⟨g1,0,none⟩) hg1r).trans d1;have e2:=(g3.cell (p:=⟨g1,1,none⟩) hg1r).trans d2) | fail)
    all_goals
     go_wp2;exact⟨⟨k+1,t1,by omega,rfl,HN.out,by go_num,hBr.trans (g3.mono hBr.size)⟩,by simp[intOf];omega⟩
  ·obtain rfl:k=x.length:=by omega
   have c1:¬ (x.length:Int)<(x.length:Int):=by omega
   have hend:t=Lib.replaceAll x a b:=by
    have:=HT.out;rw[List.drop_length,Zyo a b ha,List.append_nil]at this;exact this
   clear HT HH;go_wp2;go_ret;exact⟨rfl,hB.trans (hBr.mono hB.size)⟩
