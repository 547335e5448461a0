import Derived.Test.YtcplmkhclckagaaGreatDoorPR31
set_option maxRecDepth 100000
set_option maxHeartbeats 64000000
open Go.Proofs.Tryz
namespace Go.Proofs.YtcplmkhclckagaaGreatDoor
open Go.RowKit Go.Shelf Go.Lib
def Zel(act:Bf.Act):Prop:=∀(W:World) nm wd v ls,IRow W v ls->wd.length<=1000000->(∀ x∈ls,x.length<=3000)->Calls prog 84 #[.string (ba nm),.string (ba wd),v] W fun e w'=>e=.returned (.tuple #[.string (ba (act nm wd ls).1),.int .i64 ((act nm wd ls).2:Nat)])/\Below W.heap.size W w'
def MCa(T:Nat->Prop)(W:World)(cv:Value):Bf.Ca->Prop
 | none=>cv=.pointer none/\∀ j,¬ T j
 | some (m,l)=>(∃ p,cv=.pointer (some p))/\MAt T W cv m l
theorem MCa.same{T:Nat->Prop}{W W':World}{cv:Value}{c:Bf.Ca}(h:MCa T W cv c)(hz:W.heap.size<=W'.heap.size)(hb:∀ k,T k->W'.heap[k]? =W.heap[k]?):MCa T W' cv c:=by
 match c,h with
 | none,h=>exact h
 | some (m,l),h=>exact⟨h.1,h.2.same hz hb⟩
theorem MCa.lt{T:Nat->Prop}{W:World}{cv:Value}{c:Bf.Ca}(h:MCa T W cv c):∀ k,T k->k<W.heap.size:=by
 match c,h with
 | none,h=>exact fun k hk=>absurd hk (h.2 k)
 | some (m,l),h=>exact h.2.lt
variable {T:Nat->Prop}{W W':World}{cv:Value}{c:Bf.Ca}
theorem MCa.below(h:MCa T W cv c)(hb:Below W.heap.size W W'):MCa T W' cv c:=h.same hb.size fun k hk=>hb.block k (h.lt k hk)
variable {V w':World}{mb tb gs gh gw:Nat}{tv:Value}
theorem Zpq{go:Nat}(g:Below W.heap.size W V)(o:FailO gs gw V w'):Only (fun j=>MBlk mb tb tv gs go gh gw j\/T j) W w' :=
 ⟨o.os.trans g.os,o.tape.trans g.tape,o.output.trans g.output,Nat.le_trans g.size o.size,fun j hj hs=>(o.block j (Nat.lt_of_lt_of_le hj g.size) fun x=>hs (.inl (x.elim (fun e=>.inr (.inr (.inr (.inl e)))) fun e=>.inr (.inr (.inr (.inr (.inr (.inr e)))))))).trans (g.block j hj)⟩
theorem MCa.fail{go:Nat}(h:MCa T W cv c)(hT:∀ j,MBlk mb tb tv gs go gh gw j->¬ T j)(g:Below W.heap.size W V)(o:FailO gs gw V w'):MCa T w' cv c :=
 (h.below g).same o.size fun k hk=>o.block k ((h.below g).lt k hk) fun x=>hT k (x.elim (fun e=>.inr (.inr (.inr (.inl e)))) fun e=>.inr (.inr (.inr (.inr (.inr (.inr e)))))) hk
variable {a b i:Nat}{u v:Value}
theorem Zsq{go:Nat}(g:Below W.heap.size W V)(ha:a=gs\/a=go\/a=gh\/a=gw)(hb:b=gs\/b=go\/b=gh\/b=gw):Only (fun j=>MBlk mb tb tv gs go gh gw j\/T j) W ((V.setCell ⟨a,i,none⟩ u).setCell ⟨b,i,none⟩ v):=by
 have key:∀ x j,(x=gs\/x=go\/x=gh\/x=gw)->¬ (MBlk mb tb tv gs go gh gw j\/T j)->j≠x:=fun x j hx hs e=>hs (.inl (by subst e;exact .inr (.inr (.inr hx))))
 exact⟨g.os,g.tape,g.output,by rw[Zah,Zah];exact g.size,fun j hj hs=>(Below.heap_setCell _ ⟨b,i,none⟩ v j (key b j hb hs)).trans ((Below.heap_setCell V ⟨a,i,none⟩ u j (key a j ha hs)).trans (g.block j hj))⟩
theorem MCa.stored{go:Nat}(h:MCa T W cv c)(hT:∀ j,MBlk mb tb tv gs go gh gw j->¬ T j)(g:Below W.heap.size W V)(ha:a=gs\/a=go\/a=gh\/a=gw)(hb:b=gs\/b=go\/b=gh\/b=gw):MCa T ((V.setCell ⟨a,i,none⟩ u).setCell ⟨b,i,none⟩ v) cv c:=by
 have key:∀ x j,(x=gs\/x=go\/x=gh\/x=gw)->T j->j≠x:=fun x j hx ht e=>hT j (by subst e;exact .inr (.inr (.inr hx))) ht
 exact(h.below g).same (by rw[Zah,Zah];exact Nat.le_refl _) fun k hk=>(Below.heap_setCell _ ⟨b,i,none⟩ v k (key b k hb hk)).trans (Below.heap_setCell V ⟨a,i,none⟩ u k (key a k ha hk))
variable {w:World}{B n:Nat}
theorem Zpg{e:TypeId}{s:Nat}{xs:List Value}(h:w.ownsRow B e s v n xs)(o:Only T w w')(hT:∀ j,T j->j<B):w'.ownsRow B e s v n xs:=by
 refine⟨h.1,?_⟩;rcases h.2 with h1 | ⟨g,cap,cur,e1,h0,hg,h2⟩
 ·exact .inl h1
 ·exact .inr ⟨g,cap,cur,e1,h0,(o.block g (Array.getElem?_eq_some_iff.1 hg).1 fun x=>by have:=hT g x;omega).trans hg,h2⟩
variable {fs:Tf.Fs}
theorem MBr.asked{w0:Gr}{lv:Value}{go:Nat}{l:List Ru}{vS vO vH vW:Nat->Value}(h:MBr w0 W mb tb tv lv cv gs go gh gw l fs vS vO vH vW)(o:Only T W W')(hT:∀ j,MBlk mb tb tv gs go gh gw j->¬ T j)(hT0:∀ j,T j->w0.C j\/w0.heap.size<=j):MBr w0 W' mb tb tv lv cv gs go gh gw l fs vS vO vH vW :=
 h.same (h.base.trans o hT0) o.size fun j hj=>o.block j (h.lt j hj) (hT j hj)
variable {k:Nat}
theorem Ydw(hr:Tf.Rises fs)(hk:k<fs.length):Tf.get fs fs[k].1=some fs[k].2:=by
 unfold Tf.get;have:fs.find? (fun f=>f.1==fs[k].1)=some fs[k]:=by
  rw[List.find?_eq_some_iff_getElem];refine⟨by simp,k,hk,rfl,fun j hj=> ?_⟩
  have h1:=List.pairwise_iff_getElem.1 hr j k (by omega) hk hj
  simp only[Bool.not_eq_true',beq_eq_false_iff_ne];intro e
  rw[e,WideAt.bytes_irrefl]at h1;cases h1
 rw[this];rfl
theorem XRow.at'{pi:Option Addr}{ci:Nat}{l:List (List UInt8)}(h:XRow W (.slice pi n ci) l)(hl:l≠[]):∃ g o,pi=some ⟨g,o,none⟩/\g<W.heap.size/\∀ j (hj:j<l.length),W.cell? ⟨g,o+j,none⟩=some (.string (ba l[j])):=by
 obtain⟨p,cap,e,_,_,h1⟩:=h;obtain⟨g,o,ep,hg,hc⟩:=h1 hl;simp only[Value.slice.injEq]at e;exact⟨g,o,e.1.trans ep,hg,hc⟩
theorem Zvy(hr:Tf.Rises fs){j:Nat}(hj:j<fs.length)(hk:k<fs.length)(h:fs[j].1=fs[k].1):j=k:=by
 rcases Nat.lt_trichotomy j k with h1 | h1 | h1
 ·have:=List.pairwise_iff_getElem.1 hr j k hj hk h1;rw[h,WideAt.bytes_irrefl]at this;cases this
 ·exact h1
 ·have:=List.pairwise_iff_getElem.1 hr k j hk hj h1;rw[h,WideAt.bytes_irrefl]at this;cases this
variable {p:List UInt8}
theorem Zgl(h:RTreeAt B w tb fs v)(hn:fs.length<=1000)(hr:Tf.Rises fs)(hg:Tf.get fs p=none):
  Calls prog 50 #[Ptr tb,.string (ba p)] w fun e w'=>e=.returned (.int .i64 (-1))/\w'=w:=by
 refine(Zaz h hn p).mono ?_;rintro e w' ⟨⟨k,hk,rfl,e1⟩ | ⟨_,rfl⟩,rfl⟩
 ·have:=Ydw hr hk;rw[e1,hg]at this;cases this
 ·exact⟨rfl,rfl⟩
theorem Zgk(h:RTreeAt B w tb fs v)(hn:fs.length<=1000)(hr:Tf.Rises fs){m:Nat}(hm:m<fs.length):
  Calls prog 50 #[Ptr tb,.string (ba fs[m].1)] w fun e w'=>e=.returned (.int .i64 (m:Nat))/\w'=w:=by
 refine(Zaz h hn fs[m].1).mono ?_;rintro e w' ⟨⟨k,hk,rfl,e1⟩ | ⟨h1,rfl⟩,rfl⟩
 ·obtain rfl:=Zvy hr hk hm e1;exact⟨rfl,rfl⟩
 ·exfalso
  unfold Tf.hasP at h1;rw[List.any_eq_false]at h1;exact h1 fs[m] (List.getElem_mem hm) (by simp)
theorem Zex{b:List UInt8}(h:Tf.get fs p=some b):∃ m,∃ hm:m<fs.length,fs[m].1=p/\fs[m].2=b:=by
 obtain⟨m,hm,e⟩:=List.getElem_of_mem (Bf.get_mem h);exact⟨m,hm,by rw[e],by rw[e]⟩
namespace Bf
def fnd(l:List Ru)(x:List UInt8)(j:Nat):Bool:=match mkr l x with | some m=>decide (m<j) | none=>false
def acc(d:Bd)(o:List (List UInt8))(x:List UInt8)(j:Nat):List (List UInt8):=match mkr d.l x with | some m=>if m<j then o++[(d.st m).out] else o | none=>o
theorem acc_zero(d:Bd)(o:List (List UInt8))(x:List UInt8):acc d o x 0=o:=by
 unfold acc;split
 ·rw[if_neg (by omega)]
 ·rfl
theorem fnd_zero(l:List Ru)(x:List UInt8):fnd l x 0=false:=by
 unfold fnd;split
 ·simp
 ·rfl
variable {l:List Ru}{j:Nat}
theorem mkr_at(hA:∀ i j (hi:i<l.length) (hj:j<l.length),l[i].out=l[j].out->i=j)(hj:j<l.length):mkr l l[j].out=some j:=by
 unfold mkr;rw[List.findIdx?_eq_some_iff_getElem];refine⟨hj,by simp,fun k hk=> ?_⟩
 have:l[k].out≠l[j].out:=fun e=>by
  have:=hA k j (by omega) hj e
  omega
 simpa using this
variable {x:List UInt8}
theorem mkr_ne(hj:j<l.length)(h:l[j].out≠x):mkr l x≠some j:=by
 intro e
 unfold mkr at e;rw[List.findIdx?_eq_some_iff_getElem]at e;obtain⟨h1,h2,_⟩:=e;exact h (by simpa using h2)
theorem mkr_lt{m:Nat}(h:mkr l x=some m):m<l.length:=by
 unfold mkr at h;rw[List.findIdx?_eq_some_iff_getElem]at h;exact h.1
variable {d:Bd}{o:List (List UInt8)}
theorem acc_miss(h:mkr d.l x≠some j):acc d o x (j+1)=acc d o x j/\fnd d.l x (j+1)=fnd d.l x j:=by
 unfold acc fnd;cases hm:mkr d.l x with
 | none=>exact⟨rfl,rfl⟩
 | some m =>
  have hne:m≠j:=fun e=>h (by rw[hm,e])
  simp only;by_cases hlt:m<j
  ·rw[if_pos hlt,if_pos (by omega),decide_eq_true hlt,decide_eq_true (by omega)]
   exact⟨rfl,rfl⟩
  ·rw[if_neg hlt,if_neg (by omega),decide_eq_false hlt,decide_eq_false (by omega)]
   exact⟨rfl,rfl⟩
theorem acc_hit(h:mkr d.l x=some j):acc d o x j=o/\acc d o x (j+1)=o++[(d.st j).out]/\fnd d.l x (j+1)=true:=by
 unfold acc fnd;rw[h];simp
theorem acc_end:(fnd d.l x d.l.length=true/\∃ b,d.bytes x=some b/\acc d o x d.l.length=o++[b])\/(fnd d.l x d.l.length=false/\acc d o x d.l.length=o/\d.bytes x=Tf.get d.fs x):=by
 unfold fnd acc Bd.bytes;cases hm:mkr d.l x with
 | none=>exact .inr ⟨rfl,rfl,rfl⟩
 | some m =>
  have:=mkr_lt hm;exact .inl ⟨by simpa using this,_,rfl,by simp only;rw[if_pos this]⟩
end Bf
theorem Yca{w0:Gr}{lv:Value}{go:Nat}{d:Bf.Bd}(h:MB w0 W mb tb tv lv cv gs go gh gw d)(hn:d.l.length<=40)(hS:∀ x∈d.l,x.Small)(hA:∀ i j (hi:i<d.l.length) (hj:j<d.l.length),d.l[i].out=d.l[j].out->i=j)(hRi:Tf.Rises d.fs)(hfs:d.fs.length<=1000)(hFt:Bf.Fit d) 
  {act:Bf.Act} (hAct:Zel act) {c:Bf.Ca} (hCf:Bf.CFit c) {T:Nat->Prop} (hca:MCa T W cv c) (hT:∀ j,MBlk mb tb tv gs go gh gw j->¬ T j) (hT0:∀ j,T j->w0.C j\/w0.heap.size<=j) (i:Nat) (hi:i<d.l.length) (hr:d.isReady i=true) :
  Calls prog 112 #[.pointer (some ⟨mb,0,none⟩),.int .i64 i] W fun e w'=>e=.returned (.tuple #[.bool (Bf.go act c d i).hit,.int .i64 0])/\MB w0 w' mb tb tv lv cv gs go gh gw (Bf.go act c d i).d/\Only (fun j=>MBlk mb tb tv gs go gh gw j\/T j) W w'/\∃ T',MCa T' w' cv (Bf.go act c d i).c/\∀ j,T' j->T j\/W.heap.size<=j:=by
 have hI:∀ x∈d.l,x.ins.length<=1000000:=fun x hx=>by have:=(hS x hx).many;omega
 have HR:=hid1 (Zcc h (by omega) hI i hi)
 rw[hr]at HR;have HH:=hid1 h;obtain⟨p,cap,rfl,hcap,hnn,hin⟩:=h.row;obtain⟨g,o,rfl,hg,hat⟩:=hin (by intro e;rw[e]at hi;simp at hi)
 have c1:=h.c1;have c2:=h.c2;have cs:=(h.rs.2 i hi).1;have i0:(0:Int)<=(i:Int):=by omega
 have i1:(i:Int)<(d.l.length:Int):=by omega
 have hw:=Bf.ready_waits hr;have HW:=hid1 hw;have q1:((d.st i).name==[])=false:=by rw[hw];rfl
 have q2:((d.st i).name==[119,97,105,116,115])=true:=by rw[hw];rfl
 have q3:(d.st i).name.isEmpty=false:=by rw[hw];rfl
 obtain⟨r0,r1,r2,vi,r3,hxi⟩:=hat i hi;have HXi:=hid1 hxi;obtain⟨pi,ci,rfl,-⟩:=hxi;have dz:decide ((i:Int)<0)=false:=by simp
 have hSi:=hS _ (List.getElem_mem hi);have hmany:=hSi.many;have hrule:d.rule i=d.l[i]:=by unfold Bf.Bd.rule;rw[List.getD_eq_getElem?_getD,List.getElem?_eq_getElem hi];rfl
 have HIns:Hid (d.ins i=Bf.inB d.bytes d.l[i].ins):=hid1 (by unfold Bf.Bd.ins;rw[hrule])
 have HRule:=hid1 hrule;have HAt:=hid1 hat;have HAp:=hid1 hA;have HRi:=hid1 hRi;have HFt:=hid1 hFt;have HCf:=hid1 hCf;have HCa:=hid1 hca;have HT:=hid1 hT;have HT0:=hid1 hT0;have HAct:=hid1 hAct;have HSi:=hid1 hSi;clear h hin hnn hw hat hA hRi hFt hCf hca hT hT0 hAct hSi hrule;go_enter func112,ntmps112
 go_wp2_with fail;refine HR.out.mono ?_;rintro e w1 ⟨rfl,g1⟩;have hM:=HH.out.below g1;have d1:=hM.c1;have s0:=Zaa r0 g1;have s1:=Zaa r1 g1;have s2:=Zaa r2 g1;have s3:=Zaa r3 g1;have hWrb:=g1.size;clear HR hM;go_wp2;clear c1 c2 cs q1 q2 q3 r0 r1 r2 r3 d1 s0 s1 s2 s3
 have a1:Below w1.heap.size w1 (w1.alloc (.cells #[.string (ba d.l[i].out),.string (ba d.l[i].kind),.string (ba d.l[i].word),.slice pi d.l[i].ins.length ci] 73)):=(Below.refl _ w1).alloc (Nat.le_refl _) _
 have b1:(w1.alloc (.cells #[.string (ba d.l[i].out),.string (ba d.l[i].kind),.string (ba d.l[i].word),.slice pi d.l[i].ins.length ci] 73)).cell? ⟨w1.heap.size,1,none⟩=some (.string (ba d.l[i].kind)):=by simp
 have b2:(w1.alloc (.cells #[.string (ba d.l[i].out),.string (ba d.l[i].kind),.string (ba d.l[i].word),.slice pi d.l[i].ins.length ci] 73)).cell? ⟨w1.heap.size,2,none⟩=some (.string (ba d.l[i].word)):=by simp
 have b3:(w1.alloc (.cells #[.string (ba d.l[i].out),.string (ba d.l[i].kind),.string (ba d.l[i].word),.slice pi d.l[i].ins.length ci] 73)).cell? ⟨w1.heap.size,3,none⟩=some (.slice pi d.l[i].ins.length ci):=by simp
 have G1:Below W.heap.size W (w1.alloc (.cells #[.string (ba d.l[i].out),.string (ba d.l[i].kind),.string (ba d.l[i].word),.slice pi d.l[i].ins.length ci] 73)):=g1.trans (a1.mono g1.size);have hz1:(w1.alloc (.cells #[.string (ba d.l[i].out),.string (ba d.l[i].kind),.string (ba d.l[i].word),.slice pi d.l[i].ins.length ci] 73)).heap.size=w1.heap.size+1:=by simp
 have HB1:=hid1 b1;have HB2:=hid1 b2;have HB3:=hid1 b3;have HG1:=hid1 G1;clear a1 b1 b2 b3 G1 g1;generalize hW1:w1.alloc (.cells #[.string (ba d.l[i].out),.string (ba d.l[i].kind),.string (ba d.l[i].word),.slice pi d.l[i].ins.length ci] 73)=W1 at *;clear hW1;generalize hrb:w1.heap.size=rb at *;clear hrb;obtain⟨j0s,hi0,hz0,hz1',hz2⟩:=info_parts Tryz.infoStr
 go_loopw [8,9] (fun iv kv wr=>∃(k:Nat) (os:List (List UInt8)),k<=d.l[i].ins.length/\kv=.int .i64 k/\Bf.inB d.bytes (d.l[i].ins.take k)=some os/\wr.ownsRow W1.heap.size 9 1 iv os.length (os.map sv)/\Below W1.heap.size W1 wr) (fun _ kv _=>d.l[i].ins.length - (intOf kv).toNat)
 case atStart=>exact⟨0,[],Nat.zero_le _,rfl,rfl,World.ownsRow_nil _ _ _ _,Below.refl _ _⟩
 case round =>
  obtain⟨k,os,hk,rfl,hos,hO,hB⟩:=hrel;have HO:=hid1 hO;have HOs:=hid1 hos;have k0:(0:Int)<=(k:Int):=by omega
  have e3:=(hB.cell (p:=⟨rb,3,none⟩) (by show rb<_;omega)).trans HB3.out
  have hGr:=HG1.out.trans (hB.mono HG1.out.size);have hosl:=Bf.inB_len hos;rw[List.length_take]at hosl;clear hO hos;by_cases hkl:k<d.l[i].ins.length
  ·have k1:(k:Int)<(d.l[i].ins.length:Int):=by omega
   obtain⟨gi,oi,rfl,hgi,hci⟩:=HXi.out.at' (by intro e;rw[e]at hkl;simp at hkl)
   have ex:=(hGr.cell (p:=⟨gi,oi+k,none⟩) hgi).trans (hci k hkl);have HTk:=hid1 (List.take_succ_eq_append_getElem hkl);have HDk:=hid1 (List.drop_eq_getElem_cons hkl);have HEx:=hid1 fun(V:World) (gV:Below W1.heap.size W1 V)=>((HG1.out.trans (gV.mono HG1.out.size)).cell (p:=⟨gi,oi+k,none⟩) hgi).trans (hci k hkl)
   generalize d.l[i].ins[k]=x at *;clear hci;go_wp2;clear ex e3;generalize wr=wa at *;have hBa:=hB;clear hB;go_loopw [8,10,11] (fun iv fv jv wr=>∃ j:Nat,j<=d.l.length/\jv=.int .i64 j/\fv=.bool (Bf.fnd d.l x j)/\wr.ownsRow W1.heap.size 9 1 iv (Bf.acc d os x j).length ((Bf.acc d os x j).map sv)/\Below W1.heap.size W1 wr) (fun _ _ jv _=>d.l.length - (intOf jv).toNat)
   case atStart=>exact⟨0,Nat.zero_le _,rfl,by rw[Bf.fnd_zero],by rw[Bf.acc_zero];exact HO.out,hBa⟩
   case round =>
    clear HO hBa;obtain⟨j,hj,rfl,rfl,hO,hB⟩:=hrel;have HO:=hid1 hO;clear hO;have j0:(0:Int)<=(j:Int):=by omega
    have hGr:=HG1.out.trans (hB.mono HG1.out.size);have hM:=HH.out.below hGr;have c1:=hM.c1;have c3:=hM.c3;have e3:=(hB.cell (p:=⟨rb,3,none⟩) (by show rb<_;omega)).trans HB3.out
    have ex:=HEx.out wr hB;by_cases hjl:j<d.l.length
    ·have j1:(j:Int)<(d.l.length:Int):=by omega
     have ej:=((HAt.out j hjl).below hGr).1;have eo:=(hM.ro.2 j hjl).1;clear hM;by_cases hxj:d.l[j].out=x
     ·have hmk:Bf.mkr d.l x=some j:=by rw[<- hxj];exact Bf.mkr_at HAp.out hjl
      have hah:=Bf.acc_hit (d:=d) (o:=os) hmk;have HQ:=hid1 hah;have qx:(d.l[j].out==x)=true:=by simpa using hxj
      have hrow:wr.ownsRow W1.heap.size 9 1 u8 os.length (os.map sv):=by
       have:=HO.out;rwa[hah.1]at this
      have hml:os.length+1<=maxLen:=by unfold maxLen;omega
      clear hxj hmk hah HO;generalize d.l[j].out=y at *;go_wp2;go_quiet (fail)
      have c3':(wr.drewN nq).cell? ⟨mb,3,none⟩=some (.slice (some ⟨go,0,none⟩) d.l.length d.l.length):=c3;have eo':(wr.drewN nq).cell? ⟨go,j,none⟩=some (outV d.st j):=eo;have hrow':(wr.drewN nq).ownsRow W1.heap.size 9 1 u8 os.length (os.map sv):=hrow;have hB':=Zad hB nq;have hbz':=hB'.size;clear c1 c3 eo hrow e3 ex ej hGr hB;generalize wr.drewN nq=w7 at *
      go_wp2_with (first
       | (at_builtin;refine wpList_append_own _ rfl _ _ 52 rfl W1.heap.size 9 j0s (.string ⟨#[]⟩) 1 16 underlying52 hi0 hz0 hz1' hz2 rfl (by decide) _ _ _ rfl (hrow'.alloc _) ⟨w7.heap.size,0,none⟩ 1 1 [outV d.st j] rfl rfl (cell_one_new _ _ _) (by simp[Value.oneCell']) hml (by omega) (by simp;omega) ?_;intro v' w8 hown' hgrow _)
       | fail)
      have HE:=hid1 (And.intro hown' (Zak hB' hbz' hrow' hgrow));clear hown' hgrow;go_wp2;exact⟨⟨j+1,by omega,by go_num,by rw[HQ.out.2.2],by rw[HQ.out.2.1,List.length_append,List.map_append];exact HE.out.1,HE.out.2⟩,by simp[intOf];omega⟩
     ·have HQ:=hid1 (Bf.acc_miss (d:=d) (o:=os) (Bf.mkr_ne hjl hxj));have qx:(d.l[j].out==x)=false:=by simpa using hxj
      clear hxj;generalize d.l[j].out=y at *;go_wp2;go_quiet (fail)
      have hB':=Zad hB nq;have HO':Hid ((wr.drewN nq).ownsRow W1.heap.size 9 1 u8 (Bf.acc d os x j).length ((Bf.acc d os x j).map sv)):=hid1 HO.out;clear c1 c3 e3 ex ej eo hGr hB HO;generalize wr.drewN nq=w7 at *;go_wp2;exact⟨⟨j+1,by omega,by go_num,by rw[HQ.out.2],by rw[HQ.out.1];exact HO'.out,hB'⟩,by simp[intOf];omega⟩
    ·have j1:(d.l.length:Int)<=(j:Int):=by omega
     obtain rfl:j=d.l.length:=by omega
     have HMt:=hid1 hM;clear hM;rcases Bf.acc_end (d:=d) (o:=os) (x:=x) with ⟨hf,b,hb,ha⟩ | ⟨hf,ha,hb⟩
     ·have HNext:Hid (Bf.inB d.bytes (d.l[i].ins.take (k+1))=some (os++[b])):=hid1 (by
       rw[HTk.out,Bf.inB_snoc d.bytes _ x HOs.out,hb];rfl)
      have HO':=hid1 HO.out;rw[ha]at HO';rw[hf];clear HO c3 ex;go_wp2;exact⟨⟨k+1,os++[b],by omega,by go_num,HNext.out,HO'.out,hB⟩,by simp[intOf];omega⟩
     ·have HO':=hid1 HO.out;rw[ha]at HO';rw[hf];clear HO c3;have c0:=HMt.out.c0;cases hget:Tf.get d.fs x with
      | none =>
       have HFd:=hid1 fun(V:World) (gV:Below wr.heap.size wr V)=>Zgl (HMt.out.below gV).tree hfs HRi.out hget
       have HNone:Hid (d.ins i=none):=hid1 (by
        rw[HIns.out,<- List.take_append_drop k d.l[i].ins,HDk.out];exact Bf.inB_bad d.bytes _ x _ (by rw[hb,hget]))
       have HFa:=hid1 fun(V:World) (gV:Below wr.heap.size wr V)=>Zdn (HMt.out.below gV) (by omega) hI i 6 hi HW.out
       clear hget hb ha;go_wp2;go_quiet (first | (go_at_call 50;refine Calls.quiet_of_same (HFd.out _ (Zad (Below.refl _ _) _))) | fail)
       have hB7:Below wr.heap.size wr (wr.drewN nq):=Zad (Below.refl _ _) _;have G7:=hGr.trans (hB7.mono hGr.size);have HFb:=hid1 (HFa.out _ hB7);clear HFa HFd c0 c1 e3 ex hB7;generalize wr.drewN nq=w7 at *;go_wp2_with fail;refine HFb.out.mono ?_;rintro e w8 ⟨rfl,hM8,hO8⟩;have HR8:=hid1 (And.intro hM8 hO8);clear HFb hM8 hO8;go_wp2;go_ret2
       have HGo:Bf.go act c d i=⟨false,0,d.fail i 6,c⟩:=by unfold Bf.go;rw[HNone.out]
       rw[HGo];exact⟨rfl,HR8.out.1,Zpq G7 HR8.out.2,T,HCa.out.fail HT.out G7 HR8.out.2,fun j hj=>.inl hj⟩
      | some b =>
       obtain⟨m,hm,rfl,rfl⟩:=Zex hget;have HFd:=hid1 fun(V:World) (gV:Below wr.heap.size wr V)=>Zgk (HMt.out.below gV).tree hfs HRi.out hm
       have HNext:Hid (Bf.inB d.bytes (d.l[i].ins.take (k+1))=some (os++[d.fs[m].2])):=hid1 (by
        rw[HTk.out,Bf.inB_snoc d.bytes _ _ HOs.out,hb,hget];rfl)
       have tc:=HMt.out.tree.cell;obtain⟨tp,tcap,rfl,htc,htr⟩:=FRow.of_owns HMt.out.tree.row;obtain⟨tg,tcur,rfl,htb,htl⟩:=htr (by intro e;rw[e]at hm;simp at hm)
       have tcell:=Zab htb (htl m hm).2;have m0:(0:Int)<=(m:Int):=by omega
       have m1:(m:Int)<(d.fs.length:Int):=by omega
       have hml:os.length+1<=maxLen:=by unfold maxLen;omega
       have hrow:wr.ownsRow W1.heap.size 9 1 u8 os.length (os.map sv):=HO'.out;clear hget hb ha htb htl HO';go_wp2;go_quiet (first | (go_at_call 50;refine Calls.quiet_of_same (HFd.out _ (Zad (Below.refl _ _) _))) | fail)
       have c0':(wr.drewN nq).cell? ⟨mb,0,none⟩=some (Ptr tb):=c0;have tc':(wr.drewN nq).cell? ⟨tb,0,none⟩=some (.slice (some ⟨tg,0,none⟩) d.fs.length tcap):=tc;have tcell':(wr.drewN nq).cell? ⟨tg,m*2+1,none⟩=some (.string (ba d.fs[m].2)):=tcell;have hrow':(wr.drewN nq).ownsRow W1.heap.size 9 1 u8 os.length (os.map sv):=hrow;have hB':=Zad hB nq
       have hbz':=hB'.size;clear c0 c1 e3 ex tc tcell hrow hB HFd;generalize wr.drewN nq=w7 at *;go_wp2_with (first
        | (at_builtin;refine wpList_append_own _ rfl _ _ 52 rfl W1.heap.size 9 j0s (.string ⟨#[]⟩) 1 16 underlying52 hi0 hz0 hz1' hz2 rfl (by decide) _ _ _ rfl (hrow'.alloc _) ⟨w7.heap.size,0,none⟩ 1 1 [.string (ba d.fs[m].2)] rfl rfl (cell_one_new _ _ _) (by simp[Value.oneCell']) hml (by omega) (by simp;omega) ?_;intro v' w8 hown' hgrow _)
        | fail)
       have HE:=hid1 (And.intro hown' (Zak hB' hbz' hrow' hgrow));clear hown' hgrow;go_wp2;exact⟨⟨k+1,os++[d.fs[m].2],by omega,by go_num,HNext.out,by rw[List.length_append,List.map_append];exact HE.out.1,HE.out.2⟩,by simp[intOf];omega⟩
  ·have k1:(d.l[i].ins.length:Int)<=(k:Int):=by omega
   obtain rfl:k=d.l[i].ins.length:=by omega
   have HIn:Hid (d.ins i=some os):=hid1 (by
    rw[HIns.out,<- HOs.out,List.take_length])
   have hfit:=HFt.out.ins HIn.out;have hir:IRow wr u8 os:=(XRow.of_owns HO.out).irow;have hsm:=HSi.out;have e1:=(hB.cell (p:=⟨rb,1,none⟩) (by show rb<_;omega)).trans HB1.out
   have e2:=(hB.cell (p:=⟨rb,2,none⟩) (by show rb<_;omega)).trans HB2.out
   have HK:=hid1 (Zuf d.l[i].kind d.l[i].word u8 os hir (by have:=hsm.kind;omega) (by have:=hsm.word;omega) (by omega) fun x hx=>Nat.le_trans (hfit.2 x hx) (by decide))
   have HB1r:=hid1 fun(V:World) (gV:Below W1.heap.size W1 V)=>(gV.cell (p:=⟨rb,1,none⟩) (by show rb<_;omega)).trans HB1.out
   have HB2r:=hid1 fun(V:World) (gV:Below W1.heap.size W1 V)=>(gV.cell (p:=⟨rb,2,none⟩) (by show rb<_;omega)).trans HB2.out
   have HA:=hid1 fun(V:World) (gV:Below wr.heap.size wr V)=>HAct.out V d.l[i].kind d.l[i].word u8 os (hir.below gV) (by have:=hsm.word;omega) fun x hx=>Nat.le_trans (hfit.2 x hx) (by decide)
   have HAv:=hid1 fun(V:World) (hv:IRow V u8 os)=>HAct.out V d.l[i].kind d.l[i].word u8 os hv (by have:=hsm.word;omega) fun x hx=>Nat.le_trans (hfit.2 x hx) (by decide)
   have HGo:Hid (Bf.go act c d i=match Bf.cfind c (Kp.key d.l[i].kind d.l[i].word os) with
    | some s=>⟨true,0,d.set i (.done s true),Bf.cget c (Kp.key d.l[i].kind d.l[i].word os)⟩
    | none=>if (act d.l[i].kind d.l[i].word os).2=0 then ⟨false,0,d.set i (.done (act d.l[i].kind d.l[i].word os).1 false),Bf.cput c (Kp.key d.l[i].kind d.l[i].word os) (act d.l[i].kind d.l[i].word os).1⟩ else ⟨false,0,d.fail i (act d.l[i].kind d.l[i].word os).2,c⟩):=hid1 (by
    unfold Bf.go;rw[HIn.out,HRule.out];rfl)
   have HOr:=hid1 HO.out;clear HO HOs hir hfit hsm HB1 HB2 HB3;generalize Kp.key d.l[i].kind d.l[i].word os=key at *;generalize act d.l[i].kind d.l[i].word os=ao at *;obtain⟨as',ac⟩:=ao;go_wp2_with fail;refine HK.out.mono ?_;rintro e w5 ⟨rfl,g5⟩;have G5:=hGr.trans (g5.mono hGr.size);have B5:=hB.trans (g5.mono hB.size);have M5:=HH.out.below G5;have c6:=M5.c6
   have f1:=HB1r.out w5 B5;have f2:=HB2r.out w5 B5;have HM5:=hid1 M5;have HG5:=hid1 G5;have HA5:=hid1 (HA.out w5 g5);clear HK M5 G5 e1 e2 e3;cases c with
   | none =>
    obtain⟨rfl,hno⟩:=HCa.out;have HGo':Hid (Bf.go act none d i=if ac=0 then ⟨false,0,d.set i (.done as' false),none⟩ else ⟨false,0,d.fail i ac,none⟩):=hid1 HGo.out
    go_wp2_with fail;refine HA5.out.mono ?_;rintro e w6 ⟨rfl,g6⟩;have HG6:=hid1 (HG5.out.trans (g6.mono HG5.out.size));have HM6:=hid1 (HM5.out.below g6);clear HA5 HM5 HG5;by_cases hac:ac=0
    ·subst hac;have HQ:Hid (Bf.go act none d i=⟨false,0,d.set i (.done as' false),none⟩):=hid1 (by rw[HGo'.out,if_pos rfl])
     have M6:=HM6.out;have c2:=M6.c2;have x1:=(M6.rs.2 i hi).1;have x2:=(M6.rs.2 i hi).2;have m1:=M6.setS hi (.string ⟨#[100,111,110,101]⟩);have c3:=m1.c3;have y1:=(m1.ro.2 i hi).1;have y2:=(m1.ro.2 i hi).2;have m2:=m1.setO hi (.string (ba as'));have z6:=m2.c6;have HM2:=hid1 m2;clear M6 m1 m2 hB g5 B5 f1 f2 c6;go_wp2;go_ret2;rw[HQ.out]
     refine⟨rfl,?_,?_,T,HCa.out.stored HT.out HG6.out (gs:=gs) (go:=go) (gh:=gh) (gw:=gw) (mb:=mb) (tb:=tb) (tv:=tv) (.inl rfl) (.inr (.inl rfl)),fun j hj=>.inl hj⟩
     ·have hm:=HM2.out;have e1:upd (nameV d.st) i (.string ⟨#[100,111,110,101]⟩)=nameV (Bf.setS d.st i (.done as' false)):=Zdy d.st i (.done as' false);have e2:upd (outV d.st) i (.string (ba as'))=outV (Bf.setS d.st i (.done as' false)):=Zrt d.st i (.done as' false);rw[e1,e2]at hm
      have e3:hitV d.st=hitV (Bf.setS d.st i (.done as' false)):=(Znj (by rw[HW.out];rfl)).symm
      have e4:whyV d.st=whyV (Bf.setS d.st i (.done as' false)):=(Zmg (by rw[HW.out];rfl)).symm
      rw[e3,e4]at hm;exact hm
     ·exact Zsq HG6.out (.inl rfl) (.inr (.inl rfl))
    ·have HQ:Hid (Bf.go act none d i=⟨false,0,d.fail i ac,none⟩):=hid1 (by rw[HGo'.out,if_neg hac])
     have zac:(0:Int)<(ac:Int):=by omega
     have HFb:=hid1 (Zdn HM6.out (by omega) hI i ac hi HW.out)
     clear hB g5 B5 f1 f2 c6;go_wp2_with fail;refine HFb.out.mono ?_;rintro e w8 ⟨rfl,hM8,hO8⟩;have HR8:=hid1 (And.intro hM8 hO8);clear HFb hM8 hO8;go_wp2;go_ret2;rw[HQ.out];exact⟨rfl,HR8.out.1,Zpq HG6.out HR8.out.2,T,HCa.out.fail HT.out HG6.out HR8.out.2,fun j hj=>.inl hj⟩
   | some ml =>
    obtain⟨m,l⟩:=ml;obtain⟨⟨pc,rfl⟩,hmat⟩:=HCa.out;obtain⟨hm1,hm2,hok,-⟩:=HCf.out;have hle:=hok.few;have hmat5:=hmat.below HG5.out;have HGt:=hid1 (Zws hmat5 hm1 (by omega) (by omega) key)
    have HGo2:=HGo;have hTlt:∀ j,T j->j<W.heap.size:=hmat.lt
    have HTl:=hid1 hTlt;clear HGo hmat hmat5 hok;cases hfind:Cf.find l key with
    | some sv' =>
     rw[hfind]at HGt;have HQ:Hid (Bf.go act (some (m,l)) d i=⟨true,0,d.set i (.done sv' true),some (m,Cf.get m l key)⟩):=hid1 (by
      rw[HGo2.out];show(match Cf.find l key with | some s=>_ | none=>_)=_
      rw[hfind];rfl)
     simp only[Option.getD_some,Option.isSome_some]at HGt;clear HGo2 hfind HA5 HA;go_wp2_with fail;refine HGt.out.mono ?_;rintro e w6 ⟨rfl,hO6,T6,hM6,hT6⟩;have M6:=HM5.out.asked hO6 HT.out HT0.out;have z6:=hO6.size;have HT6:Hid (∀ j,MBlk mb tb tv gs go gh gw j->¬ T6 j):=hid1 fun j hj ht=>by
      rcases hT6 j ht with h1 | h1
      ·exact HT.out j hj h1
      ·have:=HM5.out.lt j hj;omega
     have HS6:=hid1 (And.intro hO6 (And.intro hM6 hT6));have c2:=M6.c2;have x1:=(M6.rs.2 i hi).1;have x2:=(M6.rs.2 i hi).2;have m1:=M6.setS hi (.string ⟨#[100,111,110,101]⟩);have c3:=m1.c3;have y1:=(m1.ro.2 i hi).1;have y2:=(m1.ro.2 i hi).2;have m2:=m1.setO hi (.string (ba sv'));have c4:=m2.c4;have v1:=(m2.rh.2 i hi).1;have v2:=(m2.rh.2 i hi).2
     have m3:=m2.setH hi (.bool true);have HM3:=hid1 m3;clear M6 m1 m2 m3 hB g5 B5 f1 f2 c6 HGt hO6 hM6 hT6;go_wp2;go_ret2;rw[HQ.out];obtain⟨hO6,hM6,hT6⟩:=HS6.out;have G5:=HG5.out;have z5:=G5.size
     have key1:∀ {P:Nat->Prop} {x j:Nat},(∀ y,MBlk mb tb tv gs go gh gw y->¬ P y)->(x=gs\/x=go\/x=gh\/x=gw)->P j->j≠x:=fun {P x j} hP hx hj e=>hP j (by subst e;exact .inr (.inr (.inr hx))) hj
     refine⟨rfl,?_,⟨hO6.os.trans G5.os,hO6.tape.trans G5.tape,hO6.output.trans G5.output,by rw[Zah,Zah,Zah];omega,fun j hj hs=> ?_⟩,T6,⟨⟨pc,rfl⟩,hM6.same (by rw[Zah,Zah,Zah];exact Nat.le_refl _) fun k hk=> ?_⟩,fun j hj=> ?_⟩
     ·have hm:=HM3.out;have e1:upd (nameV d.st) i (.string ⟨#[100,111,110,101]⟩)=nameV (Bf.setS d.st i (.done sv' true)):=Zdy d.st i (.done sv' true);have e2:upd (outV d.st) i (.string (ba sv'))=outV (Bf.setS d.st i (.done sv' true)):=Zrt d.st i (.done sv' true)
      have e3:upd (hitV d.st) i (.bool true)=hitV (Bf.setS d.st i (.done sv' true)):=Ydj d.st i (.done sv' true);have e4:whyV d.st=whyV (Bf.setS d.st i (.done sv' true)):=(Zmg (by rw[HW.out];rfl)).symm
      rw[e1,e2,e3,e4]at hm;exact hm
     ·have hne:∀ x,(x=gs\/x=go\/x=gh\/x=gw)->j≠x:=fun x hx e=>hs (.inl (by subst e;exact .inr (.inr (.inr hx))))
      exact(Below.heap_setCell _ ⟨gh,i,none⟩ _ j (hne gh (.inr (.inr (.inl rfl))))).trans ((Below.heap_setCell _ ⟨go,i,none⟩ _ j (hne go (.inr (.inl rfl)))).trans ((Below.heap_setCell _ ⟨gs,i,none⟩ _ j (hne gs (.inl rfl))).trans ((hO6.block j (by omega) fun x=>hs (.inr x)).trans (G5.block j hj))))
     ·exact(Below.heap_setCell _ ⟨gh,i,none⟩ _ k (key1 HT6.out (.inr (.inr (.inl rfl))) hk)).trans ((Below.heap_setCell _ ⟨go,i,none⟩ _ k (key1 HT6.out (.inr (.inl rfl)) hk)).trans (Below.heap_setCell _ ⟨gs,i,none⟩ _ k (key1 HT6.out (.inl rfl) hk)))
     ·rcases hT6 j hj with h1 | h1
      ·exact .inl h1
      ·exact .inr (by omega)
    | none =>
     rw[hfind]at HGt;have hgl:Cf.get m l key=l:=by unfold Cf.get;rw[hfind]
     rw[hgl]at HGt;have HGo':Hid (Bf.go act (some (m,l)) d i=if ac=0 then ⟨false,0,d.set i (.done as' false),some (m,Cf.put m l key as')⟩ else ⟨false,0,d.fail i ac,some (m,l)⟩):=hid1 (by
      rw[HGo2.out];show(match Cf.find l key with | some s=>_ | none=>_)=_
      rw[hfind];rfl)
     simp only[Option.getD_none,Option.isSome_none]at HGt;clear HGo2 hfind HA5 HA hgl;go_wp2_with fail;refine HGt.out.mono ?_;rintro e w6 ⟨rfl,hO6,T6,hM6,hT6⟩;have M6:=HM5.out.asked hO6 HT.out HT0.out;have z6:=hO6.size;have z5:=HG5.out.size;have HT6:Hid (∀ j,MBlk mb tb tv gs go gh gw j->¬ T6 j):=hid1 fun j hj ht=>by
      rcases hT6 j ht with h1 | h1
      ·exact HT.out j hj h1
      ·have:=HM5.out.lt j hj;omega
     have HS6:=hid1 (And.intro hO6 (And.intro hM6 hT6));have hrow6:=Zpg (Zbe HOr.out g5) hO6 fun j hj=>by have:=HTl.out j hj;omega
     have hir6:IRow w6 u8 os:=(XRow.of_owns hrow6).irow;have HA6:=hid1 (HAv.out w6 hir6);have t1:=hO6.cell f1 fun x=>by have:=HTl.out _ x;simp at this;omega
     have t2:=hO6.cell f2 fun x=>by have:=HTl.out _ x;simp at this;omega
     have HM6:=hid1 M6;clear HGt hO6 hM6 hT6 M6 f1 f2 c6 HAv hrow6 hir6;have c6:=HM6.out.c6;go_wp2_with fail;refine HA6.out.mono ?_;rintro e w7 ⟨rfl,g7⟩;have HG7:=hid1 g7;have M7:=HM6.out.below g7;have z7:=g7.size;clear HA6 g7 t1 t2 c6;have HMT7:Hid (MAt T6 w7 (.pointer (some pc)) m l):=hid1 (HS6.out.2.1.below HG7.out);have HTl6:Hid (∀ j,T6 j->j<w7.heap.size):=hid1 HMT7.out.lt
     have HFr:Hid (∀(Y:World),(∀ j,j<w7.heap.size->j≠gs->j≠go->j≠gh->j≠gw->¬ T6 j->Y.heap[j]? =w7.heap[j]?)->Y.os=w7.os->Y.tape=w7.tape->Y.output=w7.output->w7.heap.size<=Y.heap.size->Only (fun j=>MBlk mb tb tv gs go gh gw j\/T j) W Y):=hid1 fun Y hb h1 h2 h3 h4=>by
      obtain⟨hO6,-,hT6⟩:=HS6.out;have G5:=HG5.out;have G7:=HG7.out;refine⟨h1.trans (G7.os.trans (hO6.os.trans G5.os)),h2.trans (G7.tape.trans (hO6.tape.trans G5.tape)),h3.trans (G7.output.trans (hO6.output.trans G5.output)),by omega,fun j hj hs=> ?_⟩
      have hne:∀ x,(x=gs\/x=go\/x=gh\/x=gw)->j≠x:=fun x hx e=>hs (.inl (by subst e;exact .inr (.inr (.inr hx))))
      refine(hb j (by omega) (hne _ (.inl rfl)) (hne _ (.inr (.inl rfl))) (hne _ (.inr (.inr (.inl rfl)))) (hne _ (.inr (.inr (.inr rfl)))) fun x=> ?_).trans ((G7.block j (by omega)).trans ((hO6.block j (by omega) fun x=>hs (.inr x)).trans (G5.block j hj)))
      rcases hT6 j x with h5 | h5
      ·exact hs (.inr h5)
      ·omega
     by_cases hac:ac=0
     ·subst hac;have HQ:Hid (Bf.go act (some (m,l)) d i=⟨false,0,d.set i (.done as' false),some (m,Cf.put m l key as')⟩):=hid1 (by rw[HGo'.out,if_pos rfl])
      have c2:=M7.c2;have x1:=(M7.rs.2 i hi).1;have x2:=(M7.rs.2 i hi).2;have m1:=M7.setS hi (.string ⟨#[100,111,110,101]⟩);have c3:=m1.c3;have y1:=(m1.ro.2 i hi).1;have y2:=(m1.ro.2 i hi).2;have m2:=m1.setO hi (.string (ba as'));have c6:=m2.c6
      have key1:∀ {x j:Nat},(x=gs\/x=go\/x=gh\/x=gw)->T6 j->j≠x:=fun {x j} hx hj e=>HT6.out j (by subst e;exact .inr (.inr (.inr hx))) hj
      have mt:MAt T6 ((w7.setCell ⟨gs,i,none⟩ (.string ⟨#[100,111,110,101]⟩)).setCell ⟨go,i,none⟩ (.string (ba as'))) (.pointer (some pc)) m l:=HMT7.out.same (by rw[Zah,Zah];exact Nat.le_refl _) fun k hk=>(Below.heap_setCell _ ⟨go,i,none⟩ _ k (key1 (.inr (.inl rfl)) hk)).trans (Below.heap_setCell _ ⟨gs,i,none⟩ _ k (key1 (.inl rfl) hk))
      have HPt:=hid1 (Zlr mt hm1 (by omega) (by omega) key as')
      have HM2:=hid1 m2;have zz8:((w7.setCell ⟨gs,i,none⟩ (.string ⟨#[100,111,110,101]⟩)).setCell ⟨go,i,none⟩ (.string (ba as'))).heap.size=w7.heap.size:=by rw[Zah,Zah]
      have HBl:Hid (∀ j,j≠gs->j≠go->((w7.setCell ⟨gs,i,none⟩ (.string ⟨#[100,111,110,101]⟩)).setCell ⟨go,i,none⟩ (.string (ba as'))).heap[j]? =w7.heap[j]?):=hid1 fun j h1 h2=>(Below.heap_setCell _ ⟨go,i,none⟩ _ j h2).trans (Below.heap_setCell _ ⟨gs,i,none⟩ _ j h1)
      have HEq:Hid (((w7.setCell ⟨gs,i,none⟩ (.string ⟨#[100,111,110,101]⟩)).setCell ⟨go,i,none⟩ (.string (ba as'))).os=w7.os/\((w7.setCell ⟨gs,i,none⟩ (.string ⟨#[100,111,110,101]⟩)).setCell ⟨go,i,none⟩ (.string (ba as'))).tape=w7.tape/\((w7.setCell ⟨gs,i,none⟩ (.string ⟨#[100,111,110,101]⟩)).setCell ⟨go,i,none⟩ (.string (ba as'))).output=w7.output):=hid1 ⟨rfl,rfl,rfl⟩
      clear M7 m1 m2 mt hB g5 B5 key1;go_wp2_with fail;refine HPt.out.mono ?_;rintro e w9 ⟨rfl,hO9,T9,hM9,hT9⟩;have HS9:=hid1 (And.intro hO9 (And.intro hM9 hT9));clear HPt hO9 hM9 hT9;go_wp2;go_ret2;rw[HQ.out];obtain⟨hO9,hM9,hT9⟩:=HS9.out;have z9:=hO9.size;obtain⟨q1,q2,q3⟩:=HEq.out
      refine⟨rfl,?_,HFr.out _ (fun j hj h1 h2 _ _ h5=>(hO9.block j (by omega) h5).trans (HBl.out j h1 h2)) (hO9.os.trans q1) (hO9.tape.trans q2) (hO9.output.trans q3) (by omega),T9,⟨⟨pc,rfl⟩,hM9⟩,fun j hj=> ?_⟩
      ·have hm:=HM2.out;have e1:upd (nameV d.st) i (.string ⟨#[100,111,110,101]⟩)=nameV (Bf.setS d.st i (.done as' false)):=Zdy d.st i (.done as' false);have e2:upd (outV d.st) i (.string (ba as'))=outV (Bf.setS d.st i (.done as' false)):=Zrt d.st i (.done as' false);rw[e1,e2]at hm
       have e3:hitV d.st=hitV (Bf.setS d.st i (.done as' false)):=(Znj (by rw[HW.out];rfl)).symm
       have e4:whyV d.st=whyV (Bf.setS d.st i (.done as' false)):=(Zmg (by rw[HW.out];rfl)).symm
       rw[e3,e4]at hm;have hT60:∀ j,T6 j->w0.C j\/w0.heap.size<=j:=fun j hj=>by
        rcases HS6.out.2.2 j hj with h1 | h1
        ·exact HT0.out j h1
        ·have:=HM5.out.base.size;exact .inr (show w0.w.heap.size<=j by omega)
       exact MBr.asked hm hO9 HT6.out hT60
      ·rcases hT9 j hj with h1 | h1
       ·rcases HS6.out.2.2 j h1 with h2 | h2
        ·exact .inl h2
        ·exact .inr (by omega)
       ·exact .inr (by omega)
     ·have HQ:Hid (Bf.go act (some (m,l)) d i=⟨false,0,d.fail i ac,some (m,l)⟩):=hid1 (by rw[HGo'.out,if_neg hac])
      have zac:(0:Int)<(ac:Int):=by omega
      have HFb:=hid1 (Zdn M7 (by omega) hI i ac hi HW.out)
      clear M7 hB g5 B5;go_wp2_with fail;refine HFb.out.mono ?_;rintro e w8 ⟨rfl,hM8,hO8⟩;have HR8:=hid1 (And.intro hM8 hO8);clear HFb hM8 hO8;go_wp2;go_ret2;rw[HQ.out];obtain⟨hM8,hO8⟩:=HR8.out
      refine⟨rfl,hM8,HFr.out _ (fun j hj h1 _ _ h4 _=>hO8.block j hj fun x=>x.elim h1 h4) hO8.os hO8.tape hO8.output hO8.size,T6,⟨⟨pc,rfl⟩,HMT7.out.same hO8.size fun k hk=>hO8.block k (HTl6.out k hk) fun x=>HT6.out k (x.elim (fun e=>.inr (.inr (.inr (.inl e)))) fun e=>.inr (.inr (.inr (.inr (.inr (.inr e)))))) hk⟩,fun j hj=> ?_⟩
      rcases HS6.out.2.2 j hj with h1 | h1
      ·exact .inl h1
      ·exact .inr (by omega)
