import Derived.Test.YtcplmkhclckagaaGreatDoorPR03
import Derived.Test.YtcplmkhclckagaaGreatDoorPR05
import Derived.Lib.SmallJoins
import Derived.Lib.ItoaLen
import Derived.Lib.SlicesCompact
set_option maxRecDepth 100000
set_option maxHeartbeats 4000000
open Go.Proofs.Tryz
namespace Go.Proofs.YtcplmkhclckagaaGreatDoor
open Go.RowKit Go.Shelf Go.Lib Go.Maps
open Go.Sort (grow)
def TRow(w:World)(v:Value)(l:List (List UInt8)):Prop :=
 ∃ p cap,v=.slice p l.length cap/\l.length<=cap/\(l≠[]->∃ g cur,p=some ⟨g,0,none⟩/\w.heap[g]? =some (.cells cur 9 (0,0))/\∀ j (hj:j<l.length),cur[j]? =some (.string (ba l[j])))
variable {w:World}{v:Value}{l:List (List UInt8)}
theorem TRow.of_owns{base:Nat}{n:Nat}(h:w.ownsRow base 9 1 v n (l.map encStr)):TRow w v l:=by
 have hn:n=l.length:=by have:=h.1;simp at this;omega
 subst hn;rcases h.2 with ⟨rfl,hn⟩ | ⟨g,cap,cur,rfl,_,hb,h1,_,_,h4⟩
 ·obtain rfl:l=[]:=by simpa using hn
  exact⟨none,0,rfl,Nat.le_refl _,fun h=>absurd rfl h⟩
 ·refine⟨_,cap,rfl,h1,fun _=>⟨g,cur,rfl,hb,fun j hj=> ?_⟩⟩
  have:=congrArg (fun x=>x[j]?) h4
  simp only[Nat.mul_one,List.getElem?_take,hj,if_true,List.getElem?_map,List.getElem?_eq_getElem hj,Option.map_some,Array.getElem?_toList]at this
  exact this
variable {w':World}
theorem TRow.below(h:TRow w v l)(hb:Below w.heap.size w w'):TRow w' v l:=by
 obtain⟨p,cap,e,h0,h1⟩:=h;refine⟨p,cap,e,h0,fun hl=> ?_⟩
 obtain⟨g,cur,e,hg,hc⟩:=h1 hl;exact⟨g,cur,e,(hb.block g (Array.getElem?_eq_some_iff.1 hg).1).trans hg,hc⟩
variable {b B:Nat}{p:Value}{bs:List Value}
theorem TRow.others(h:TRow w v l)(hk:Lib.OthersKept 5 (some b) w w')(hB:Lib.BuilderAtF 61 5 B b p bs w):TRow w' v l:=by
 obtain⟨q,cap,e,h0,h1⟩:=h;refine⟨q,cap,e,h0,fun hl=> ?_⟩
 obtain⟨g,cur,e,hg,hc⟩:=h1 hl;refine⟨g,cur,e,hk g _ hg (fun e=> ?_) (fun c fz e=> ?_),hc⟩
 ·cases e
  obtain⟨_,v,hb,_⟩:=hB;rw[hg]at hb;simp at hb
 ·simp at e
theorem Zab{g j:Nat}{cur:Array Value}{t:TypeId}{fz:Nat×Nat}{x:Value}(hg:w.heap[g]? =some (.cells cur t fz))(hc:cur[j]? =some x):w.cell? ⟨g,j,none⟩=some x:=by
 simp[World.cell?,hg,hc]
theorem Zcu(w:World)(k:Nat)(os:Array Obj):Below w.heap.size w (grow (w.drewN k) os) :=
 ⟨rfl,rfl,rfl,by simp[grow],fun i hi=>by simp[grow,Array.getElem?_append_left hi]⟩
theorem Zfz(h:Lib.BuilderAtF 61 5 B b p bs w)(hb:Below w.heap.size w w'):Lib.BuilderAtF 61 5 B b p bs w':=by
 obtain⟨h1,v,h2,h3,h4⟩:=h;exact⟨h1,v,(hb.block b (Array.getElem?_eq_some_iff.1 h2).1).trans h2,h3.kept (row:=none) ⟨hb.os,hb.tape,hb.output,hb.size,fun k hk _=>hb.block k hk⟩ (by cases v.ownBlock <;> simp),h4⟩
theorem Zcd(h:Lib.IsBuilderF 61 5 B b bs w)(hb:Below w.heap.size w w'):Lib.IsBuilderF 61 5 B b bs w' :=
 h.imp (fun h=>Zfz h hb) (fun h=>Zfz h hb)
theorem TRow.others'(h:TRow w v l)(hk:Lib.OthersKept 5 (some b) w w')(hB:Lib.IsBuilderF 61 5 B b bs w):TRow w' v l :=
 hB.elim (fun hB=>h.others hk hB) (fun hB=>h.others hk hB)
abbrev Pow(w:World):Prop:=Lib.TabIs prog w "internal/strconv.uint64pow10" .u64 Lib.pow10Tab
theorem Zbt(h:Pow w)(hb:Below w.heap.size w w'):Pow w':=Go.Joins.tab_stays (g:=14) (by kernel_rfl) h hb (Nat.le_refl _)
theorem Zax(n:Nat)(h:n<=100000):(Lib.decDigits n).length<=21:=by
 have:=Lib.itoa_length_le (n:Int) (by omega) (by omega)
 rwa[Lib.itoa_nonneg]at this
namespace Af
def lines:List UInt8->List (List UInt8)
 | []=>[]
 | c::r=>if c=10 then []::lines r else match lines r with
  | []=>[[c]]
  | p::ps=>(c::p)::ps
def told(l:List (List UInt8)):List UInt8:=l.flatMap fun x=>x++[10]
def all(l:List (List UInt8)):List (List UInt8):=l.flatMap lines
def srt(l:List (List UInt8)):List (List UInt8):=l.mergeSort fun x y=>decide (x<=y)
theorem Zra(s:List UInt8):cutB 10 s=(if s=[] then [[]] else if s.getLast? =some 10 then lines s++[[]] else lines s):=by
 induction s with
 | nil=>rfl
 | cons c r ih =>
  rw[if_neg (List.cons_ne_nil c r)];by_cases hr:r=[]
  ·subst hr;by_cases hc:c=10 <;> simp[hc,cutB,lines]
  ·rw[if_neg hr]at ih;have hg:(c::r).getLast? =r.getLast? :=by
    cases r with
    | nil=>exact absurd rfl hr
    | cons x y=>exact List.getLast?_cons_cons
   rw[hg];have hl:lines r≠[]:=by
    cases r with
    | nil=>exact absurd rfl hr
    | cons x y =>
     unfold lines;split
     ·simp
     ·split <;> simp
   by_cases hc:c=10
   ·simp only[cutB,lines,if_pos hc,ih];split <;> simp
   ·simp only[cutB,lines,if_neg hc];by_cases h10:r.getLast? =some 10
    ·rw[if_pos h10]at ih;simp only[ih,if_pos h10];cases hL:lines r with
     | nil=>exact absurd hL hl
     | cons p ps=>simp
    ·rw[if_neg h10]at ih;simp only[ih,if_neg h10];cases lines r <;> rfl
variable {s:List UInt8}
theorem Yce(h:s≠[]):lines s≠[]:=by
 cases s with
 | nil=>exact absurd rfl h
 | cons x y =>
  unfold lines;split
  ·simp
  ·split <;> simp
theorem Zls:∀ {s:List UInt8},s≠[]->s.getLast? ≠some 10->∃ o l,lines s=o++[l]/\l≠[]
 | [],h,_=>absurd rfl h
 | [c],_,h1=>by
  have hc:c≠10:=by simpa using h1
  exact⟨[],[c],by simp[lines,hc],by simp⟩
 | c::x::r,_,h1=>by
  obtain⟨o,l,e,hl⟩:=Zls (s:=x::r) (by simp) (by simpa using h1)
  unfold lines;rw[e];by_cases hc:c=10
  ·exact⟨[]::o,l,by simp[hc],hl⟩
  ·cases o with
   | nil=>exact⟨[],c::l,by simp[hc],by simp⟩
   | cons p ps=>exact⟨(c::p)::ps,l,by simp[hc],hl⟩
theorem lines_of_cut(s:List UInt8):∃ o l,cutB 10 s=o++[l]/\lines s=(if l=[] then o else o++[l]):=by
 by_cases hs:s=[]
 ·subst hs;exact⟨[],[],rfl,rfl⟩
 ·by_cases h1:s.getLast? =some 10
  ·exact⟨lines s,[],by rw[Zra,if_neg hs,if_pos h1],by simp⟩
  ·obtain⟨o,l,e,hl⟩:=Zls hs h1;exact⟨o,l,by rw[Zra,if_neg hs,if_neg h1,e],by rw[if_neg hl,e]⟩
theorem Zhp:∀(l:List (List UInt8)),(told l).length=(l.map fun x=>x.length+1).sum
 | []=>rfl
 | x::r=>by
  have e:told (x::r)=x++10::told r:=by simp[told]
  rw[e,List.length_append,List.length_cons,Zhp r,List.map_cons,List.sum_cons];omega
theorem Zlc:∀(s:List UInt8),told (lines s)=s\/told (lines s)=s++[10]
 | []=>.inl rfl
 | c::r=>by
  have ih:=Zlc r;unfold lines;by_cases hc:c=10
  ·rw[if_pos hc];have e:told ([]::lines r)=10::told (lines r):=by simp[told]
   rw[e,hc];rcases ih with ih | ih <;> rw[ih] <;> simp
  ·rw[if_neg hc];cases hL:lines r with
   | nil =>
    have hr:r=[]:=Classical.byContradiction fun h=>Yce h hL
    subst hr;right
    simp[told]
   | cons p ps =>
    rw[hL]at ih;have e:told ((c::p)::ps)=c::told (p::ps):=by simp[told]
    simp only[e];rcases ih with ih | ih <;> rw[ih] <;> simp
theorem told_lines_len(s:List UInt8):s.length<=(told (lines s)).length/\(told (lines s)).length<=s.length+1:=by
 rcases Zlc s with h | h <;> rw[h] <;> simp
theorem lines_len(s:List UInt8):(lines s).length<=s.length:=by
 induction s with
 | nil=>simp[lines]
 | cons c r ih =>
  unfold lines;split
  ·simp;omega
  ·split
   ·simp
   ·next h=>rw[h]at ih;simp at ih ⊢;omega
theorem Zlq:∀ {l:List Nat} {n:Nat},n∈l->n<=l.sum
 | [],_,h=>by simp at h
 | x::r,n,h=>by
  rw[List.sum_cons];rcases List.mem_cons.1 h with rfl | h
  ·omega
  ·have:=Zlq h;omega
theorem line_len{x:List UInt8}(h:x∈lines s):x.length<=s.length:=by
 have h2:x.length+1<=(told (lines s)).length:=by
  rw[Zhp];have:x.length+1∈(lines s).map fun x=>x.length+1:=List.mem_map.2 ⟨x,h,rfl⟩
  exact Zlq this
 have:=told_lines_len s;omega
theorem srt_perm(l:List (List UInt8)):(srt l).Perm l:=List.mergeSort_perm _ _
theorem srt_sorted(l:List (List UInt8)):(srt l).Pairwise (fun x y=>x<=y):=by
 have:=List.pairwise_mergeSort (le:=fun(x y:List UInt8)=>decide (x<=y)) (by intro a b c h1 h2;simp at *;exact List.le_trans h1 h2) (by intro a b;simp;exact List.le_total a b) l
 exact this.imp (by intro a b h;simpa using h)
variable {l':List (List UInt8)}
theorem srt_eq(h:l.Perm l'):srt l=srt l':=by
 refine List.Perm.eq_of_pairwise (le:=fun x y:List UInt8=>x<=y) ?_ (srt_sorted l) (srt_sorted l') ((srt_perm l).trans (h.trans (srt_perm l').symm))
 intro a b _ _ h1 h2
 exact List.le_antisymm h1 h2
theorem srt_of_sorted(h:l.Pairwise (fun x y=>x<=y)):srt l=l:=by
 refine List.Perm.eq_of_pairwise (le:=fun x y:List UInt8=>x<=y) ?_ (srt_sorted l) h (srt_perm l)
 intro a b _ _ h1 h2
 exact List.le_antisymm h1 h2
theorem srt_len(l:List (List UInt8)):(srt l).length=l.length:=(srt_perm l).length_eq
theorem told_perm(h:l.Perm l'):(told l).length=(told l').length:=by
 rw[Zhp,Zhp];exact(h.map _).sum_nat
theorem told_append(a b:List (List UInt8)):told (a++b)=told a++told b:=by simp[told]
theorem told_all_len:∀(l:List (List UInt8)),(told (all l)).length<=(l.map fun x=>x.length+1).sum
 | []=>by simp[all,told]
 | x::r=>by
  have h1:=told_all_len r;have h2:=(told_lines_len x).2;have e:all (x::r)=lines x++all r:=by simp[all]
  rw[e,told_append];simp
  omega
theorem compact_succ(zs:List (List UInt8))(m:Nat):compactUpTo zs.toArray (m+1)=compactUpTo zs.toArray m++(if keeps zs.toArray m then [zs.toArray[m]!] else []):=compactUpTo_succ _ m
theorem compact_told_len(zs:List (List UInt8)):∀ m,m<=zs.length->(told (compactUpTo zs.toArray m)).length<=(told (zs.take m)).length
 | 0,_=>by simp[compactUpTo,told]
 | m+1,h=>by
  have ih:=compact_told_len zs m (by omega)
  have hm:m<zs.length:=by omega
  rw[compact_succ,told_append,List.take_succ_eq_append_getElem hm,told_append];simp only[List.length_append];split
  ·have e:zs.toArray[m]! =zs[m]:=by simp[hm]
   rw[e];omega
  ·simp[told]at ih ⊢;omega
end Af
def byteOk(stars:Bool)(c:Nat):Bool:=letter c||(stars&&c==42)
def nameR(stars:Bool)(s:List UInt8):Bool:= !(decide (s=[]))&&decide (s.length<=12)&& !(decide (s=[46]))&& !(decide (s=[46,46]))&&s.all (fun b=>byteOk stars b.toNat)
theorem Zsb(stars:Bool)(bs:ByteArray)(s:List UInt8)(T:Txt bs s)(hs:s.length<=12)(h1:¬ s=[])(h3:¬ s=[46])(h4:¬ s=[46,46])(w:World):
  Calls prog 148 #[.string bs,.bool stars] w fun e w'=>e=.returned (.bool (s.all (fun b=>byteOk stars b.toNat)))/\∃ q,w'=w.drewN q:=by
 have hz:=T.size;have hpos:0<s.length:=List.length_pos_iff.2 h1;have e1:bs.toList=s:=by rw[T.eq,Zjo]
 have c3:(bs.toList==[46])=false:=by rw[e1];simpa using h3
 have c4:(bs.toList==[46,46])=false:=by rw[e1];simpa using h4
 clear e1 h1 h3 h4;go_enter func148,ntmps148
 go_wp2;go_loopw [5] (fun i wr=>∃ k:Nat,k<=s.length/\i=.int .i64 k/\(s.take k).all (fun b=>byteOk stars b.toNat)=true/\∃ q,wr=w.drewN q) (fun i _=>s.length - (intOf i).toNat)
 case atStart=>exact⟨0,by omega,rfl,by simp,0,rfl⟩
 case round =>
  obtain⟨k,hk,rfl,hall,q,rfl⟩:=hrel;have HA:Hid ((s.take k).all (fun b=>byteOk stars b.toNat)=true):=hall
  clear hall;by_cases hlt:k<s.length
  ·have hlt2:k<bs.size:=by omega
   obtain⟨c,hc⟩:∃ c:Nat,bs[k].toNat=c:=⟨_,rfl⟩
   have hsk:s[k].toNat=c:=by rw[<- hc,T.get k hlt hlt2]
   have hok:byteOk stars c=true->(s.take (k+1)).all (fun b=>byteOk stars b.toNat)=true:=fun h=>by
    rw[List.take_succ_eq_append_getElem hlt,List.all_append,HA.out];simp[hsk,h]
   have hno:byteOk stars c=false->s.all (fun b=>byteOk stars b.toNat)=false:=fun h=>by
    rw[List.all_eq_false];exact⟨s[k],List.getElem_mem hlt,by rw[hsk,h];simp⟩
   have HOK:Hid (byteOk stars c=true->(s.take (k+1)).all (fun b=>byteOk stars b.toNat)=true):=hok
   have HNO:Hid (byteOk stars c=false->s.all (fun b=>byteOk stars b.toNat)=false):=hno
   clear hok hno hsk HA;by_cases hA:97<=c/\c<=122
   ·have a1:(97:Int)<=(c:Int):=by omega
    have a2:(c:Int)<=122:=by omega
    have hl:byteOk stars c=true:=by simp[byteOk,letter];omega
    have HK:Hid ((s.take (k+1)).all (fun b=>byteOk stars b.toNat)=true):=HOK.out hl
    clear hl HOK HNO hA;go_wp2;exact⟨⟨k+1,by omega,by go_num,HK.out,q,rfl⟩,by simp[intOf];omega⟩
   by_cases hB:48<=c/\c<=57
   ·have a0:¬ (97:Int)<=(c:Int):=by omega
    have a1:(48:Int)<=(c:Int):=by omega
    have a2:(c:Int)<=57:=by omega
    have hl:byteOk stars c=true:=by simp[byteOk,letter];omega
    have HK:Hid ((s.take (k+1)).all (fun b=>byteOk stars b.toNat)=true):=HOK.out hl
    clear hl HOK HNO hA hB;go_wp2;exact⟨⟨k+1,by omega,by go_num,HK.out,q,rfl⟩,by simp[intOf];omega⟩
   by_cases h45:c=45
   ·subst h45;have HK:Hid ((s.take (k+1)).all (fun b=>byteOk stars b.toNat)=true):=HOK.out (by simp[byteOk,letter])
    clear HOK HNO hA hB;go_wp2;exact⟨⟨k+1,by omega,by go_num,HK.out,q,rfl⟩,by simp[intOf];omega⟩
   by_cases h46:c=46
   ·subst h46;have HK:Hid ((s.take (k+1)).all (fun b=>byteOk stars b.toNat)=true):=HOK.out (by simp[byteOk,letter])
    clear HOK HNO hA hB;go_wp2;exact⟨⟨k+1,by omega,by go_num,HK.out,q,rfl⟩,by simp[intOf];omega⟩
   by_cases h95:c=95
   ·subst h95;have HK:Hid ((s.take (k+1)).all (fun b=>byteOk stars b.toNat)=true):=HOK.out (by simp[byteOk,letter])
    clear HOK HNO hA hB;go_wp2;exact⟨⟨k+1,by omega,by go_num,HK.out,q,rfl⟩,by simp[intOf];omega⟩
   have b45:((c:Int)==45)=false:=by simp;omega
   have b46:((c:Int)==46)=false:=by simp;omega
   have b95:((c:Int)==95)=false:=by simp;omega
   have hll:letter c=false:=by simp[letter];omega
   cases stars with
   | true =>
    by_cases h42:c=42
    ·subst h42;have HK:Hid ((s.take (k+1)).all (fun b=>byteOk true b.toNat)=true):=HOK.out (by simp[byteOk])
     clear HOK HNO hA hB b45 b46 b95 hll h45 h46 h95;go_wp2;exact⟨⟨k+1,by omega,by go_num,HK.out,q,rfl⟩,by simp[intOf];omega⟩
    ·have b42:((c:Int)==42)=false:=by simp;omega
     have HK:Hid (s.all (fun b=>byteOk true b.toNat)=false):=HNO.out (by simp[byteOk,hll,h42])
     have hr:(97<=c/\122<c)\/(c<97/\48<=c/\57<c)\/c<48:=by omega
     clear HOK HNO hA hB hll h45 h46 h95 h42;rcases hr with ⟨r1,r2⟩ | ⟨r1,r2,r3⟩ | r1
     ·have d1:(97:Int)<=(c:Int):=by omega
      have d2:decide ((c:Int)<=122)=false:=by simp;omega
      have d3:(48:Int)<=(c:Int):=by omega
      have d4:decide ((c:Int)<=57)=false:=by simp;omega
      go_wp2;go_ret;exact⟨Zan HK.out.symm,q,rfl⟩
     ·have d1:decide ((97:Int)<=(c:Int))=false:=by simp;omega
      have d3:(48:Int)<=(c:Int):=by omega
      have d4:decide ((c:Int)<=57)=false:=by simp;omega
      go_wp2;go_ret;exact⟨Zan HK.out.symm,q,rfl⟩
     ·have d1:decide ((97:Int)<=(c:Int))=false:=by simp;omega
      have d3:decide ((48:Int)<=(c:Int))=false:=by simp;omega
      go_wp2;go_ret;exact⟨Zan HK.out.symm,q,rfl⟩
   | false =>
    have HK:Hid (s.all (fun b=>byteOk false b.toNat)=false):=HNO.out (by simp[byteOk,hll])
    have hr:(97<=c/\122<c)\/(c<97/\48<=c/\57<c)\/c<48:=by omega
    clear HOK HNO hA hB hll h45 h46 h95;rcases hr with ⟨r1,r2⟩ | ⟨r1,r2,r3⟩ | r1
    ·have d1:(97:Int)<=(c:Int):=by omega
     have d2:decide ((c:Int)<=122)=false:=by simp;omega
     have d3:(48:Int)<=(c:Int):=by omega
     have d4:decide ((c:Int)<=57)=false:=by simp;omega
     go_wp2;go_ret;exact⟨Zan HK.out.symm,q,rfl⟩
    ·have d1:decide ((97:Int)<=(c:Int))=false:=by simp;omega
     have d3:(48:Int)<=(c:Int):=by omega
     have d4:decide ((c:Int)<=57)=false:=by simp;omega
     go_wp2;go_ret;exact⟨Zan HK.out.symm,q,rfl⟩
    ·have d1:decide ((97:Int)<=(c:Int))=false:=by simp;omega
     have d3:decide ((48:Int)<=(c:Int))=false:=by simp;omega
     go_wp2;go_ret;exact⟨Zan HK.out.symm,q,rfl⟩
  ·have hge:(bs.size:Int)<=(k:Int):=by omega
   have HK:Hid (s.all (fun b=>byteOk stars b.toNat)=true):=by
    have:=HA.out;rw[List.take_of_length_le (by omega)]at this
    exact this
   clear HA;go_wp2;go_ret;exact⟨Zan HK.out.symm,q,rfl⟩
theorem Ztk(s:ByteArray)(i:Nat)(h:128<=(s.get! i).toNat):128<=(Utf8.decode s i).1:=by
 unfold Utf8.decode;simp only[Nat.add_zero];rw[if_neg (by omega)]
 have hr:128<=Utf8.runeError:=by decide
 split
 ·split
  ·simpa using ‹_›
  ·exact hr
 ·split
  ·split
   ·rename_i h2
    simp at h2;simp only;omega
   ·exact hr
  ·split
   ·split
    ·rename_i h2
     simp at h2;simp only;omega
    ·exact hr
   ·exact hr
theorem Zxi(s:ByteArray)(i:Nat)(h:(s.get! i).toNat<128):Utf8.decode s i=((s.get! i).toNat,1):=by
 unfold Utf8.decode;simp only[Nat.add_zero];rw[if_pos (by omega)]
theorem Zqn(p:Nat->Bool)(hp:∀ x,128<=x->p x=false)(l:List UInt8):∀(f pos:Nat),l.length<=pos+f ->
  (decide (0<=Lib.idxFuncFrom (fun x=> !p x) true (ba l) f pos)= !((l.drop pos).all (fun b=>p b.toNat)))
 | 0,pos,h=>by
  simp[Lib.idxFuncFrom,List.drop_of_length_le (show l.length<=pos by omega)]
 | f+1,pos,h=>by
  unfold Lib.idxFuncFrom;have hz:=Zal l;by_cases hlt:pos<l.length
  ·rw[if_pos (by rw[hz];exact hlt)]
   have hget:((ba l).get! pos)=l[pos]:=by
    show(l.toArray)[pos]! =_
    rw[getElem!_pos _ _ (by simpa using hlt)]
    simp
   rw[List.drop_eq_getElem_cons hlt,List.all_cons];by_cases hc:l[pos].toNat<128
   ·rw[Zxi _ _ (by rw[hget];exact hc),hget]
    simp only;cases hpc:p l[pos].toNat with
    | true =>
     simp only[Bool.not_true,Bool.false_eq_true,if_false,Bool.true_and];exact Zqn p hp l f (pos+1) (by omega)
    | false=>simp
   ·have h1:=Ztk (ba l) pos (by rw[hget];omega)
    rw[hp _ h1,hp l[pos].toNat (by omega)]
    simp
  ·rw[if_neg (by rw[hz];exact hlt),List.drop_of_length_le (by omega)]
   simp
theorem Ztc(x:Nat)(h:128<=x):letter x=false:=by simp[letter];omega
theorem Ydq(l:List UInt8):nameK letter (ba l)=nameR false l:=by
 have h:=Zqn letter Ztc l (ba l).size 0 (by rw[Zal];omega)
 unfold nameK nameR Lib.idxFunc;rw[h,Zjo,Zal];simp[byteOk]
theorem Zfn(stars:Bool)(s:List UInt8)(hs:s.length<=1000000)(w:World):
  Calls prog 148 #[.string (ba s),.bool stars] w fun e w'=>e=.returned (.bool (nameR stars s))/\∃ q,w'=w.drewN q:=by
 obtain⟨bs,eb,T⟩:=txt s;rw[eb];clear eb;have hz:=T.size;have e1:bs.toList=s:=by rw[T.eq,Zjo]
 by_cases h1:s=[]
 ·have e:nameR stars s=false:=by simp[nameR,h1]
  have c0:(bs.size:Int)<1:=by rw[hz,h1];simp
  have HE:Hid (nameR stars s=false):=e;clear e e1 hz h1;go_enter func148,ntmps148
  go_wp2;go_ret;exact⟨Zan HE.out.symm,0,rfl⟩
 have hpos:0<s.length:=List.length_pos_iff.2 h1;have c0:(1:Int)<=(bs.size:Int):=by omega
 by_cases h2:12<s.length
 ·have e:nameR stars s=false:=by simp[nameR];intros;omega
  have c1:(12:Int)<(bs.size:Int):=by omega
  have HE:Hid (nameR stars s=false):=e;clear e e1 hz h1;go_enter func148,ntmps148
  go_wp2;go_ret;exact⟨Zan HE.out.symm,0,rfl⟩
 have c1:(bs.size:Int)<=12:=by omega
 by_cases h3:s=[46]
 ·have e:nameR stars s=false:=by simp[nameR,h3]
  have c3:(bs.toList==[46])=true:=by rw[e1,h3];rfl
  have c3':bs.toList=[46]:=by rw[e1,h3]
  have HE:Hid (nameR stars s=false):=e;clear e e1 hz h1 h3;go_enter func148,ntmps148
  go_wp2;go_ret;exact⟨Zan HE.out.symm,0,rfl⟩
 by_cases h4:s=[46,46]
 ·have e:nameR stars s=false:=by simp[nameR,h4]
  have c3:(bs.toList==[46])=false:=by rw[e1,h4];rfl
  have c4:(bs.toList==[46,46])=true:=by rw[e1,h4];rfl
  have HE:Hid (nameR stars s=false):=e;clear e e1 hz h1 h3 h4;go_enter func148,ntmps148
  go_wp2;go_ret;exact⟨Zan HE.out.symm,0,rfl⟩
 have e:nameR stars s=s.all (fun b=>byteOk stars b.toNat):=by
  unfold nameR;simp[h1,h3,h4,show s.length<=12 by omega]
 rw[e];exact Zsb stars bs s T (by omega) h1 h3 h4 w
def okR(stars:Bool)(s:List UInt8):Bool:=decide ((Kf.parts s).length<=5)&&(Kf.parts s).all (fun p=>nameR stars p)
theorem Zso(s:List UInt8):pathB s=okR false s:=by
 unfold pathB allB okR;congr 1
 exact List.all_congr rfl (fun p=>Ydq p)
theorem part_len{s p:List UInt8}(h:p∈Kf.parts s):p.length<=s.length:=by
 have h1:=Kf.tot_parts s;obtain⟨a,b,e⟩:=List.append_of_mem h;rw[e]at h1;simp[Kf.tot]at h1;omega
theorem Zms(stars:Bool)(s:List UInt8)(hs:s.length<=1000000)(w:World):
  Calls prog 108 #[.string (ba s),.bool stars] w fun e w'=>∃ v,e=.returned v/\((okR stars s=true/\w'.ownsRow w.heap.size 9 1 v (Kf.parts s).length ((Kf.parts s).map sv))\/(okR stars s=false/\v=.slice none 0 0))/\Below w.heap.size w w':=by
 go_enter func108,ntmps108
 go_wp2_with fail;refine(Zbd s hs 47 47 rfl w).mono ?_;rintro e w1 ⟨v,rfl,hrow,hB⟩;rw[Zxj]at hrow;obtain⟨m,hm⟩:∃ m,(Kf.parts s).length=m+1:=⟨(Kf.parts s).length - 1,by have:=List.length_pos_iff.2 (Kf.parts_ne s);omega⟩
 obtain⟨g,cap,rfl⟩:∃ g cap,v=.slice (some ⟨g,0,none⟩) (Kf.parts s).length cap:=by
  rw[hm]at hrow ⊢;exact ownsRow_succ hrow
 obtain⟨o1,o2,o3⟩:=Zwm hrow;have hpl:∀ p∈Kf.parts s,p.length<=1000000:=fun p hp=>Nat.le_trans (part_len hp) hs
 have HO:Hid (okR stars s=(decide ((Kf.parts s).length<=5)&&(Kf.parts s).all (fun p=>nameR stars p))):=rfl
 clear hm o2 o3;by_cases h5:5<(Kf.parts s).length
 ·have hf:okR stars s=false:=by rw[HO.out];simp;intros;omega
  have c5:(5:Int)<((Kf.parts s).length:Int):=by omega
  have HF:Hid (okR stars s=false):=hf;clear hf o1 hpl hrow;go_wp2;go_ret;exact⟨_,rfl,.inr ⟨HF.out,rfl⟩,hB⟩
 ·have c5:((Kf.parts s).length:Int)<=5:=by omega
  have HR:Hid (w1.ownsRow w.heap.size 9 1 (.slice (some ⟨g,0,none⟩) (Kf.parts s).length cap) (Kf.parts s).length ((Kf.parts s).map sv)):=hrow;clear hrow;go_wp2;go_loopw [6] (fun i wr=>∃ k:Nat,k<=(Kf.parts s).length/\i=.int .i64 k/\((Kf.parts s).take k).all (fun p=>nameR stars p)=true/\∃ q,wr=w1.drewN q) (fun i _=>(Kf.parts s).length - (intOf i).toNat)
  case atStart=>exact⟨0,by omega,rfl,by simp,0,rfl⟩
  case round =>
   obtain⟨k,hk,rfl,hall,q,rfl⟩:=hrel;have HA:Hid (((Kf.parts s).take k).all (fun p=>nameR stars p)=true):=hall
   clear hall;by_cases hlt:k<(Kf.parts s).length
   ·have hck:w1.cell? ⟨g,k,none⟩=some (.string (ba (Kf.parts s)[k])):=by
     have:=o1 k (ba (Kf.parts s)[k]) (by rw[List.getElem?_map,List.getElem?_eq_getElem hlt];rfl)
     simpa using this
    have hpk:=hpl (Kf.parts s)[k] (List.getElem_mem hlt);have c1:(k:Int)<((Kf.parts s).length:Int):=by omega
    have c0:(0:Int)<=(k:Int):=by omega
    generalize hy:(Kf.parts s)[k]=y at *;have HY:Hid ((Kf.parts s)[k]=y):=hy;clear hy o1 hpl;cases hn:nameR stars y with
    | true =>
     have HN:Hid (nameR stars y=true):=hn;clear hn;go_wp2_with fail;have hc:=Zfn stars y hpk (w1.drewN q);rw[HN.out]at hc;refine hc.mono ?_;rintro e w2 ⟨rfl,q2,rfl⟩;clear hc;go_wp2;refine⟨⟨k+1,by omega,by go_num,?_,q+q2,?_⟩,by simp[intOf];omega⟩
     ·rw[List.take_succ_eq_append_getElem hlt,List.all_append,HA.out,HY.out];simp[HN.out]
     ·simp[World.drewN]
    | false =>
     have hf:okR stars s=false:=by
      rw[HO.out];have:(Kf.parts s).all (fun p=>nameR stars p)=false:=by
       rw[List.all_eq_false];exact⟨(Kf.parts s)[k],List.getElem_mem hlt,by rw[HY.out,hn];simp⟩
      rw[this,Bool.and_false]
     have HF:Hid (okR stars s=false):=hf;have HN:Hid (nameR stars y=false):=hn;clear hn hf;go_wp2_with fail;have hc:=Zfn stars y hpk (w1.drewN q);rw[HN.out]at hc;refine hc.mono ?_;rintro e w2 ⟨rfl,q2,rfl⟩;clear hc;go_wp2;go_ret;exact⟨_,rfl,.inr ⟨HF.out,rfl⟩,Zad hB _⟩
   ·have hf:okR stars s=true:=by
     rw[HO.out];have:=HA.out;rw[List.take_of_length_le (by omega)]at this
     rw[this];simp;omega
    have HF:Hid (okR stars s=true):=hf;have c1:((Kf.parts s).length:Int)<=(k:Int):=by omega
    clear hf o1 hpl;go_wp2;go_ret;exact⟨_,rfl,.inl ⟨HF.out,HR.out.kept (Zfx _ _) (.inr (by simp[Value.ownBlock]))⟩,Zad hB q⟩
theorem Zdw(s:List UInt8)(hs:s.length<=1000000)(w:World):
  Calls prog 72 #[.string (ba s)] w fun e w'=>e=.returned (.bool (okR false s))/\Below w.heap.size w w':=by
 have hne:=List.length_pos_iff.2 (Kf.parts_ne s);go_enter func72,ntmps72
 go_wp2_with fail;refine(Zms false s hs w).mono ?_;rintro e w1 ⟨v,rfl,(⟨ho,hrow⟩ | ⟨ho,rfl⟩),hB⟩
 ·have HO:Hid (okR false s=true):=ho;obtain⟨a,n,c,rfl,hn⟩:∃ a n c,v=.slice a n c/\0<n:=by
   rcases hrow.2 with ⟨_,h⟩ | ⟨g,cap,cur,h,_⟩
   ·omega
   ·exact⟨_,_,_,h,hne⟩
  clear ho hrow hne;go_wp2;go_ret;exact⟨Zan (by rw[HO.out]),hB⟩
 ·have HO:Hid (okR false s=false):=ho;clear ho;go_wp2;go_ret;exact⟨Zan HO.out.symm,hB⟩
theorem Zyk(W:World)(l:List (List UInt8))(j:Nat)(hj:j<l.length):(W.alloc (.cells ((l.map ba).map Value.string).toArray 9)).cell? ⟨W.heap.size,j,none⟩=some (.string (ba l[j])):=by
 rw[World.cell?_alloc_at _ _ _ _ rfl,List.getElem?_toArray,List.getElem?_map,List.getElem?_map,List.getElem?_eq_getElem hj]
 rfl
theorem Zee(c:UInt8)(s:List UInt8):(cutB c s).length<=s.length+1:=by
 induction s with
 | nil=>simp[cutB]
 | cons x r ih =>
  unfold cutB;split
  ·simp;omega
  ·split
   ·simp
   ·next h=>rw[h]at ih;simp at ih ⊢;omega
theorem Zye(s sep:List UInt8)(m:Int)(w:World)(hs:s.length<=1000000)(hm:w.cell? ⟨13,0,none⟩=some (.int .i64 m)):
  Calls prog 227 #[.string (ba s),.string (ba sep)] w fun e w'=>e=.returned (.tuple #[.string (ba (Lib.cut s sep).1),.string (ba (Lib.cut s sep).2.1),.bool (Lib.cut s sep).2.2])/\∃ n,w'=w.drewN n :=
 strings_Cut (ba s) (ba sep) m w (by rw[Zal];omega) hm
theorem Zcr{l:List UInt8}(h:l≠[]):l.isEmpty=false:=by
 cases l with
 | nil=>exact absurd rfl h
 | cons c r=>rfl
def LRow(B:Nat)(w:World)(v:Value)(l:List (List UInt8)):Prop :=
 ∃ g cap cur,v=.slice (some ⟨g,0,none⟩) l.length cap/\B<=g/\l.length<=cap/\w.heap[g]? =some (.cells cur 9 (0,0))/\∀ j (hj:j<l.length),cur[j]? =some (.string (ba l[j]))
def CRow(w:World)(v:Value)(l:List (List UInt8)):Prop :=
 ∃ p cap,v=.slice p l.length cap/\∀ k (hk:k<l.length),∃ g,p=some ⟨g,0,none⟩/\g<w.heap.size/\w.cell? ⟨g,k,none⟩=some (.string (ba l[k]))
theorem Zda(s:List UInt8)(hs:s.length<=1000000)(m:Int)(w:World)(hm:w.cell? ⟨13,0,none⟩=some (.int .i64 m)):
  Calls prog 273 #[.string (ba s)] w fun e w'=>∃ v,e=.returned v/\LRow w.heap.size w' v (Af.lines s)/\Below w.heap.size w w':=by
 obtain⟨o,l,hc,hl⟩:=Af.lines_of_cut s;have HS:Hid (Calls prog 285 #[.string (ba s),.string ⟨#[10]⟩] w fun e w'=>e=.returned (.slice (some ⟨w.heap.size,0,none⟩) (o.length+1) (o.length+1))/\w'=w.alloc (.cells (((o++[l]).map ba).map Value.string).toArray 9)):=by
  have:=strings_Split (ba s) (ba [10]) m w (by rw[Zal];omega) hm (by rw[Zal];simp)
  rw[Zlh,Yal,hc]at this;exact hid1 (by simpa using this)
 have hol:o.length<=1000000:=by
  have:=Zee 10 s;rw[hc]at this;simp at this;omega
 have HL:Hid (Af.lines s=(if l=[] then o else o++[l])):=hl
 clear hl hc;generalize Af.lines s=L at *;have hB3:Below w.heap.size w (w.alloc (.cells (((o++[l]).map ba).map Value.string).toArray 9)):=(Below.refl _ w).alloc (Nat.le_refl _) _;have hblk:(w.alloc (.cells (((o++[l]).map ba).map Value.string).toArray 9)).heap[w.heap.size]? =some (.cells (((o++[l]).map ba).map Value.string).toArray 9 (0,0)):=by
  show(w.heap.push _)[w.heap.size]? =_
  simp
 have hcz:(w.alloc (.cells (((o++[l]).map ba).map Value.string).toArray 9)).cell? ⟨w.heap.size,o.length,none⟩=some (.string (ba l)):=by
  have:=Zyk w (o++[l]) o.length (by simp)
  rw[List.getElem_append_right (by omega)]at this
  simp only[Nat.sub_self,List.getElem_cons_zero]at this;exact this
 go_enter func273,ntmps273
 go_wp2_with fail;refine HS.out.mono ?_;rintro e w3 ⟨rfl,hw3⟩;rw[<- hw3]at hB3 hblk hcz;clear hw3 HS hm;have z1:(o.length:Int)<=1000000:=by omega
 have hcur:∀(l':List (List UInt8)),(∃ t,l'++t=o++[l])->∀ j (hj:j<l'.length),(((o++[l]).map ba).map Value.string).toArray[j]? =some (.string (ba l'[j])):=by
  rintro l' ⟨t,ht⟩ j hj;rw[<- ht];simp only[List.map_map,List.map_append,List.getElem?_toArray];rw[List.getElem?_append_left (by simpa using hj)]
  simp[hj]
 by_cases he:l=[]
 ·subst he;have d1:(ba ([]:List UInt8)==⟨#[]⟩)=true:=by rfl
  have hL:L=o:=by rw[HL.out,if_pos rfl]
  subst hL;go_wp2;go_ret;exact⟨_,rfl,⟨_,_,_,rfl,Nat.le_refl _,by omega,hblk,hcur L ⟨_,rfl⟩⟩,hB3⟩
 ·have d1:l.isEmpty=false:=Zcr he;have hL:L=o++[l]:=by rw[HL.out,if_neg he]
  subst hL;go_wp2;go_ret;exact⟨_,rfl,⟨w.heap.size,o.length+1,_,by simp,Nat.le_refl _,by simp,hblk,hcur _ ⟨[],by simp⟩⟩,hB3⟩
theorem Zwk{n:Nat}{xs:List Value}(h:w.ownsRow B 9 1 v n xs)(hb:Below w.heap.size w w'):w'.ownsRow B 9 1 v n xs :=
 h.kept (row:=none) ⟨hb.os,hb.tape,hb.output,hb.size,fun k hk _=>hb.block k hk⟩ (by cases v.ownBlock <;> simp)
variable {k:Nat}
theorem Zhx{ls:List (List UInt8)}(hk:k<ls.length):Af.all (ls.take (k+1))=Af.all (ls.take k)++Af.lines ls[k]:=by
 unfold Af.all;rw[List.take_succ_eq_append_getElem hk,List.flatMap_append,List.flatMap_cons,List.flatMap_nil,List.append_nil]
theorem Zns{ls:List (List UInt8)}(h:∀ x∈ls,x.length<=100000):∀ k,k<=ls.length->(Af.all (ls.take k)).length<=k*100000
 | 0,_=>by simp[Af.all]
 | k+1,hk=>by
  have ih:=Zns h k (by omega)
  rw[Zhx (by omega),List.length_append]
  have h1:=Af.lines_len ls[k];have h2:=h _ (List.getElem_mem (show k<ls.length by omega))
  omega
theorem Zer(v:Value)(ls:List (List UInt8))(hn:ls.length<=1000)(hx:∀ x∈ls,x.length<=100000)(m:Int)(w:World)(hrow:TRow w v ls)(hm:w.cell? ⟨13,0,none⟩=some (.int .i64 m)):
  Calls prog 276 #[v] w fun e w'=>∃ v',e=.returned v'/\w'.ownsRow w.heap.size 9 1 v' (Af.all ls).length ((Af.all ls).map sv)/\Below w.heap.size w w':=by
 obtain⟨i0,hi,hz0,hz1,hz2⟩:=info_parts Tryz.infoStr;obtain⟨pa,cap,rfl,hcap,hin⟩:=hrow;have hR:Hid (∀ W,Below w.heap.size w W->∀ k (hk:k<ls.length),∃ g,pa=some ⟨g,0,none⟩/\W.cell? ⟨g,k,none⟩=some (.string (ba ls[k]))):=fun W hW k hk=>by
  obtain⟨g,cur,rfl,hg,hcur⟩:=hin (by intro e;rw[e]at hk;simp at hk)
  exact⟨g,rfl,Zab ((hW.block g (Array.getElem?_eq_some_iff.1 hg).1).trans hg) (hcur k hk)⟩
 have hM:Hid (∀ W,Below w.heap.size w W->W.cell? ⟨13,0,none⟩=some (.int .i64 m)):=fun W hW=>Zaa hm hW
 have hA:=Zns hx;clear hin hm;go_enter func276,ntmps276
 go_wp2;go_loopw [3,8] (fun out i wr=>∃ k:Nat,k<=ls.length/\i=.int .i64 k/\wr.ownsRow w.heap.size 9 1 out (Af.all (ls.take k)).length ((Af.all (ls.take k)).map sv)/\Below w.heap.size w wr) (fun _ i _=>ls.length - (intOf i).toNat)
 case atStart=>exact⟨0,Nat.zero_le _,rfl,World.ownsRow_nil _ _ _ _,Below.refl _ _⟩
 case round =>
  obtain⟨k,hk,rfl,hown,hB⟩:=hrel;by_cases hlt:k<ls.length
  ·have c1:(k:Int)<(ls.length:Int):=by omega
   have c0:(0:Int)<=(k:Int):=by omega
   obtain⟨g,rfl,hcell⟩:=hR.out wr hB k hlt;have HA:Hid (Af.all (ls.take (k+1))=Af.all (ls.take k)++Af.lines ls[k]):=Zhx hlt;have hA1:=hA (k+1) (by omega)
   rw[HA.out,List.length_append]at hA1;have HC:=hid1 (Zda ls[k] (by have:=hx _ (List.getElem_mem hlt);omega) m wr (hM.out wr hB))
   generalize Af.lines ls[k]=L at *;generalize ls[k]=x at *;generalize Af.all (ls.take k)=A at *;go_wp2_with fail;refine Calls.mono HC.out ?_;rintro e w2 ⟨v2,rfl,⟨g2,cap2,cur2,rfl,hg2,hc2,hblk2,hcur2⟩,hb2⟩;have hown2:=Zwk hown hb2;have hB2:Below w.heap.size w w2:=hB.trans (hb2.mono hB.size)
   have hsrc:∀ j u,(L.map sv)[j]? =some u->w2.cell? ((⟨g2,0,none⟩:Addr).add j)=some u:=fun j u hj=>by
    have hjl:j<L.length:=by simpa using (List.getElem?_eq_some_iff.1 hj).1
    have:=Zab hblk2 (hcur2 j hjl);rw[List.getElem?_map,List.getElem?_eq_getElem hjl]at hj
    simp at hj;rw[<- hj,add_at];exact this
   clear HC hcell;go_wp2_with (at_builtin;refine wpList_append_own _ rfl _ _ 52 rfl w.heap.size 9 i0 (.string ⟨#[]⟩) 1 16 underlying52 hi hz0 hz1 hz2 rfl (by decide) _ _ _ rfl hown2 ⟨g2,0,none⟩ L.length cap2 (L.map sv) rfl (by simp) hsrc (by simp[Value.oneCell']) (by unfold maxLen;omega) (by omega) hB2.size ?_;intro v' w1 hown' hgrow _)
   go_roundw
   case rel=>exact⟨k+1,by omega,by go_num,by rw[HA.out,List.length_append,List.map_append];exact hown',Zeg hB2 hB2.size hown2 hgrow⟩
   case measure=>simp[intOf];omega
  ·have c1:(ls.length:Int)<=(k:Int):=by omega
   obtain rfl:k=ls.length:=by omega
   rw[List.take_length]at hown;go_wp2;go_ret;exact⟨_,rfl,hown,hB⟩
theorem Zyd(hk:k<l.length):Af.told (l.take (k+1))=Af.told (l.take k)++l[k]++[10]:=by
 unfold Af.told;rw[List.take_succ_eq_append_getElem hk,List.flatMap_append,List.flatMap_cons,List.flatMap_nil,List.append_nil,List.append_assoc]
theorem Zbb(k:Nat):(Af.told (l.take k)).length<=(Af.told l).length:=by
 conv=>rhs;rw[<- List.take_append_drop k l,Af.told_append,List.length_append]
 omega
theorem Zdz(v:Value)(l:List (List UInt8))(w:World)(hrow:CRow w v l)(hlen:(Af.told l).length<=100000000):
  Calls prog 272 #[v] w fun e w'=>e=.returned (.string (ba (Af.told l)))/\Below w.heap.size w w':=by
 have g0:Below w.heap.size w (w.alloc (.cells #[.pointer none,.slice none 0 0] 61)):=(Below.refl _ w).alloc (Nat.le_refl _) _;have b0:Lib.IsBuilderF 61 5 w.heap.size w.heap.size [] (w.alloc (.cells #[.pointer none,.slice none 0 0] 61)):=Lib.IsBuilderF.of (Lib.fresh_isBuilder 61 5 w);obtain⟨pa,cap,rfl,hin⟩:=hrow;have hln:l.length<=(Af.told l).length:=by
  have:∀ l:List (List UInt8),l.length<=(Af.told l).length:=fun l=>by
   induction l with
   | nil=>simp
   | cons x r ih=>simp[Af.told]at ih ⊢;omega
  exact this l
 have hR:Hid (∀ W,Below w.heap.size w W->∀ k (hk:k<l.length),∃ g,pa=some ⟨g,0,none⟩/\W.cell? ⟨g,k,none⟩=some (.string (ba l[k]))):=fun W hW k hk=>by
  obtain⟨g,rfl,hg,hcur⟩:=hin k hk;exact⟨g,rfl,(World.cell?_of_block (hW.block g hg)).trans hcur⟩
 have HW:Hid (∀(bs:List UInt8) (s:List UInt8) W,bs.length+s.length<=100000000->w.heap.size<=W.heap.size->Lib.IsBuilderF 61 5 w.heap.size w.heap.size (Lib.byteCells bs) W->Calls prog 30 #[.pointer (some ⟨w.heap.size,0,none⟩),.string (ba s)] W fun e w' =>
   e=.returned (.tuple #[.int .i64 s.length,.nilIface])/\Lib.IsBuilderF 61 5 w.heap.size w.heap.size (Lib.byteCells (bs++s)) w'/\Below w.heap.size W w'):=fun bs s W hl hW hb=>by
  refine(Any.Builder_WriteString_k lays166 Builder_Extra_166 w.heap.size w.heap.size (Lib.byteCells bs) (ba s) W hb (by rw[Lib.byteCells_length,Zal];omega) hW).mono ?_
  rintro e w' ⟨rfl,h1,h2,h3⟩;refine⟨by rw[Zal],.inr ?_,h2⟩
  rw[Lib.byteCells_append];exact h1
 have HS:Hid (∀ W,w.heap.size<=W.heap.size->Lib.IsBuilderF 61 5 w.heap.size w.heap.size (Lib.byteCells (Af.told l)) W->Calls prog 32 #[.pointer (some ⟨w.heap.size,0,none⟩)] W fun e w'=>e=.returned (.string (ba (Af.told l)))/\Below w.heap.size W w'):=fun W hW hb=>by
  refine(Any.Builder_String_any_k lays169 Builder_Extra_169 w.heap.size w.heap.size (Af.told l) W hb hW).mono ?_;rintro e w' ⟨rfl,_,h2,_⟩;exact⟨rfl,h2⟩
 have hT:=Zbb (l:=l);have hzn:(l.length:Int)<=100000000:=by omega
 clear hin;go_enter func272,ntmps272
 go_wp2;go_loopw [8] (fun i wr=>∃ k:Nat,k<=l.length/\i=.int .i64 k/\Lib.IsBuilderF 61 5 w.heap.size w.heap.size (Lib.byteCells (Af.told (l.take k))) wr/\Below w.heap.size w wr) (fun i _=>l.length - (intOf i).toNat)
 case atStart=>exact⟨0,Nat.zero_le _,rfl,by simpa[Af.told,Lib.byteCells] using b0,g0⟩
 case round =>
  obtain⟨k,hk,rfl,hbld,hB⟩:=hrel;by_cases hlt:k<l.length
  ·have c1:(k:Int)<(l.length:Int):=by omega
   have c0:(0:Int)<=(k:Int):=by omega
   obtain⟨g,rfl,hcell⟩:=hR.out wr hB k hlt;have HA:Hid (Af.told (l.take (k+1))=Af.told (l.take k)++l[k]++[10]):=Zyd hlt;have hA1:=hT (k+1);rw[HA.out]at hA1;simp only[List.length_append,List.length_cons,List.length_nil]at hA1;generalize l[k]=x at *;generalize Af.told (l.take k)=A at *;go_wp2_with fail;refine(HW.out A x wr (by omega) hB.size hbld).mono ?_
   rintro e w2 ⟨rfl,B2,h2⟩;have G2:=hB.trans h2;have HW2:=HW.out (A++x) [10] w2 (by simp;omega) G2.size B2
   go_wp2_with fail;refine HW2.mono ?_;rintro e w3 ⟨rfl,B3,h3⟩;go_wp2;go_roundw
   case rel=>exact⟨k+1,by omega,by go_num,by rw[HA.out];exact B3,G2.trans h3⟩
   case measure=>simp[intOf];omega
  ·have c1:(l.length:Int)<=(k:Int):=by omega
   obtain rfl:k=l.length:=by omega
   rw[List.take_length]at hbld;have HS':=HS.out wr hB.size hbld;go_wp2_with fail;refine HS'.mono ?_;rintro e w5 ⟨rfl,g5⟩;go_wp2;go_ret;exact⟨rfl,hB.trans g5⟩
