import Derived.Test.YtcplmkhclckagaaGreatDoorPR22
set_option maxRecDepth 100000
set_option maxHeartbeats 16000000
open Go.Proofs.Tryz
namespace Go.Proofs.YtcplmkhclckagaaGreatDoor
open Go.RowKit Go.Shelf Go.Lib
theorem Own.congr{W:World}{B g n:Nat}{f f':Nat->Bool}(h:Own W B g n f)(hf:∀ j,j<n->f j=f' j):Own W B g n f':=by
 unfold Own at h ⊢;rw[<- Zgj hf];exact h
theorem Yaq(l:List Ru)(outs:List (List UInt8))(i:Nat)(hi:i<outs.length)(k:Nat):Ru.base l (outs.take (i+1)) k=(Ru.base l (outs.take i) k||Ru.base l [outs[i]] k):=by
 unfold Ru.base;split
 ·rw[Bool.eq_iff_iff,List.take_succ_eq_append_getElem hi];simp only[decide_eq_true_eq,Bool.or_eq_true,List.mem_append]
 ·rfl
theorem Zes{w:World}(v:Value)(l:List Ru)(hrow:RRow w v l)(hn:l.length<=1000)(hl:∀ x∈l,x.ins.length<=1000000)(vo:Value)(outs:List (List UInt8))(hro:IRow w vo outs)(hno:outs.length<=1000):
  Calls prog 109 #[v,vo] w fun e w'=>∃ u r,e=.returned (.tuple #[u,.int .i64 r])/\Below w.heap.size w w' /\
   ((∃ k:Nat,r=k/\∃ hk:k<outs.length,(∀ x∈l,x.out≠outs[k])/\(∀ j (hj:j<outs.length),j<k->∃ x∈l,x.out=outs[j])/\u=.slice none 0 0) \/
    (r= -1/\(∀ j (hj:j<outs.length),∃ x∈l,x.out=outs[j])/\∃ g f,u=.slice (some ⟨g,0,none⟩) l.length l.length/\Own w' w.heap.size g l.length f/\Ru.Needed l outs f)):=by
 obtain⟨i0,hi,hz0,hz1,hz2⟩:=info_parts Tryz.infoBool;have HNeed:=hid1 fun W (hW:Below w.heap.size w W) i k (hi:i<l.length) (hk:k<l.length)=>Zbl v l (hrow.below hW) hl i k hi hk
 obtain⟨p,cap,rfl,hcap,hnn,hin⟩:=hrow;have HI:=hid1 hin;obtain⟨po,co,rfl,hino⟩:=hro;have HIo:=hid1 hino;have hml:l.length<=maxLen:=by unfold maxLen;omega
 have hby:i0.bytes*l.length<=281474976710656:=by rw[hz2];omega
 go_enter func109,ntmps109
 go_wp2_with (at_make;refine wpList_make_full _ rfl _ _ 139 rfl w.heap.size 4 i0 (.bool false) 1 underlying139 hi hz0 hz1 .i64 .i64 _ _ l.length rfl rfl (by omega) (by omega) hby hml (Nat.le_refl _) ?_;intro w1 hown hgrow;have O1:=Znb hown)
 have B1:Below w.heap.size w w1:=Zfc (Below.refl _ w) (Nat.le_refl _) hgrow;have O2:Own w1 w.heap.size w.heap.size l.length (Ru.base l (outs.take 0)):=O1.congr fun j hj=>by
  rw[Ru.base_eq hj];simp
 go_loopw [7] (fun iv wr=>∃ i:Nat,i<=outs.length/\iv=.int .i64 i/\Own wr w.heap.size w.heap.size l.length (Ru.base l (outs.take i))/\(∀ j (hj:j<outs.length),j<i->∃ x∈l,x.out=outs[j])/\Below w.heap.size w wr) (fun iv _=>outs.length - (intOf iv).toNat)
 case atStart=>exact⟨0,Nat.zero_le _,rfl,O2,fun j _ h=>by omega,B1⟩
 case round =>
  obtain⟨i,hil,rfl,O,hm,B⟩:=hrel;have HO:=hid1 O;have HM:=hid1 hm;have c0:(0:Int)<=(i:Int):=by omega
  by_cases hlt:i<outs.length
  ·have c1:(i:Int)<(outs.length:Int):=by omega
   obtain⟨go,oo,rfl,hgo,hco⟩:=HIo.out (by intro e;rw[e]at hlt;simp at hlt)
   have HGo:=hid1 fun W (hW:Below w.heap.size w W)=>(hW.cell (p:=⟨go,oo+i,none⟩) hgo).trans (hco i hlt)
   have HMade:Hid ((∃ x∈l,x.out=outs[i])->∀ j (hj:j<outs.length),j<i+1->∃ x∈l,x.out=outs[j]):=hid1 fun h j hj hji=>by
    rcases Nat.lt_or_ge j i with h' | h'
    ·exact HM.out j hj h'
    ·obtain rfl:j=i:=by omega
     exact h
   have HB:=hid1 (Yaq l outs i hlt);have HNone:Hid ((∀ x∈l,x.out≠outs[i])->∃ k:Nat,(i:Int)=k/\∃ hk:k<outs.length,(∀ x∈l,x.out≠outs[k])/\(∀ j (hj:j<outs.length),j<k->∃ x∈l,x.out=outs[j])/\(Value.slice none 0 0)=Value.slice none 0 0):=hid1 fun h=>⟨i,rfl,hlt,h,HM.out,rfl⟩
   generalize wr=w2 at *;generalize hy:outs[i]=y at *;go_wp2;go_loopw [8,9] (fun fd kv wx=>∃ k:Nat,k<=l.length/\kv=.int .i64 k/\fd=.bool ((l.take k).any fun x=>x.out==y)/\Own wx w.heap.size w.heap.size l.length (fun j=>Ru.base l (outs.take i) j||(decide (j<k)&&Ru.base l [y] j))/\Below w.heap.size w wx) (fun _ kv _=>l.length - (intOf kv).toNat)
   case atStart=>exact⟨0,Nat.zero_le _,rfl,by simp,HO.out.congr fun j hj=>by simp,B⟩
   case round =>
    obtain⟨k,hk,rfl,rfl,O,B'⟩:=hrel;have k0:(0:Int)<=(k:Int):=by omega
    by_cases hkl:k<l.length
    ·have k1:(k:Int)<(l.length:Int):=by omega
     obtain⟨g',o,rfl,hg,hcur⟩:=HI.out (by intro e;rw[e]at hkl;simp at hkl)
     have d0:=Zaa (hcur k hkl).1 B';have d1:=HGo.out wr B';have hfk:=World.ownsRow.frozenAt O k;have hck:=O.cell hkl;have HA:Hid (((l.take (k+1)).any fun x=>x.out==y)=(((l.take k).any fun x=>x.out==y)||(l[k].out==y))):=hid1 (by rw[List.take_succ_eq_append_getElem hkl,List.any_append];simp)
     have HBk:Hid (Ru.base l [y] k=(l[k].out==y)):=hid1 (by
      rw[Ru.base_eq hkl,Bool.eq_iff_iff];simp)
     generalize l[k]=x at *;have w3:Own wr.drew w.heap.size w.heap.size l.length (fun j=>Ru.base l (outs.take i) j||(decide (j<k)&&Ru.base l [y] j)):=O
     cases hb:x.out==y with
     | true =>
      have O3:Own (wr.drew.setCell ⟨w.heap.size,k,none⟩ (.bool true)) w.heap.size w.heap.size l.length (fun j=>Ru.base l (outs.take i) j||(decide (j<k+1)&&Ru.base l [y] j)):=w3.set k true fun j hj=>by
       by_cases e:j=k
       ·subst e;rw[if_pos rfl,HBk.out,hb];simp
       ·rw[if_neg e];congr 2
        rw[decide_eq_decide];omega
      have B3:=(Zad B' 1).setCell (p:=⟨w.heap.size,k,none⟩) (Nat.le_refl _) (.bool true);rw[hb]at HA;simp only[Bool.or_true]at HA;go_wp2;go_region
      all_goals
       go_wp2;exact⟨⟨k+1,by omega,by go_num,by rw[HA.out],O3,B3⟩,by simp[intOf];omega⟩
     | false =>
      have O3:Own wr.drew w.heap.size w.heap.size l.length (fun j=>Ru.base l (outs.take i) j||(decide (j<k+1)&&Ru.base l [y] j)):=w3.congr fun j hj=>by
       by_cases e:j=k
       ·subst e;rw[HBk.out,hb];simp
       ·congr 2
        rw[decide_eq_decide];omega
      rw[hb]at HA;simp only[Bool.or_false]at HA;go_wp2;go_region
      all_goals
       go_wp2;exact⟨⟨k+1,by omega,by go_num,by rw[HA.out],O3,Zad B' 1⟩,by simp[intOf];omega⟩
    ·have k1:(l.length:Int)<=(k:Int):=by omega
     obtain rfl:k=l.length:=by omega
     have hany:(l.take l.length).any (fun x=>x.out==y)=l.any (fun x=>x.out==y):=by rw[List.take_length]
     rw[hany];have O3:Own wr w.heap.size w.heap.size l.length (Ru.base l (outs.take (i+1))):=O.congr fun j hj=>by
      rw[HB.out];simp[hj]
     cases hf:l.any (fun x=>x.out==y) with
     | true =>
      have HX:=hid1 (HMade.out (by
       obtain⟨x,hx,e⟩:=List.any_eq_true.1 hf;exact⟨x,hx,by simpa using e⟩))
      go_wp2;exact⟨⟨i+1,by omega,by go_num,O3,HX.out,B'⟩,by simp[intOf];omega⟩
     | false =>
      have HX:=hid1 (HNone.out (by
       intro x hx e
       rw[List.any_eq_false]at hf;exact hf x hx (by simpa using e)))
      go_wp2;go_ret2;obtain⟨kk,e1,hkk,e2,e3,_⟩:=HX.out;exact⟨_,_,rfl,B',.inl ⟨kk,e1,hkk,e2,e3,rfl⟩⟩
  ·have c1:(outs.length:Int)<=(i:Int):=by omega
   obtain rfl:i=outs.length:=by omega
   have HAll:Hid (∀ j (hj:j<outs.length),∃ x∈l,x.out=outs[j]):=hid1 fun j hj=>HM.out j hj hj
   have O3:Own wr w.heap.size w.heap.size l.length (Ru.base l outs):=by
    have:=HO.out;rwa[List.take_length]at this
   have HP0:=hid1 (Ru.Pass.first l outs);generalize wr=w2 at *;go_wp2;go_loopw [10] (fun tv wx=>∃(t:Nat) (f:Nat->Bool),t<=l.length/\tv=.int .i64 t/\Own wx w.heap.size w.heap.size l.length f/\Ru.Pass l outs t f/\Below w.heap.size w wx) (fun tv _=>l.length - (intOf tv).toNat)
   case atStart=>exact⟨0,_,Nat.zero_le _,rfl,O3,HP0.out,B⟩
   case round =>
    obtain⟨t,S,htl,rfl,O,hP,B'⟩:=hrel;have HP:=hid1 hP;have HS0:=hid1 O;have t0:(0:Int)<=(t:Int):=by omega
    by_cases htlt:t<l.length
    ·have t1:(t:Int)<(l.length:Int):=by omega
     generalize wr=w3 at *;go_wp2
     go_loopw [11] (fun iv wx=>∃(i:Nat) (f:Nat->Bool),i<=l.length/\iv=.int .i64 i/\Own wx w.heap.size w.heap.size l.length f/\(∀ k,k<l.length->S k=true->f k=true)/\(∀ P:Nat->Prop,(∀ k,Ru.base l outs k=true->P k)->(∀ i k,P i->Ru.needs l i k=true->P k)->∀ k,k<l.length->f k=true->P k)/\(∀ i' k,i'<i->S i'=true->Ru.needs l i' k=true->f k=true)/\Below w.heap.size w wx) (fun iv _=>l.length - (intOf iv).toNat)
     case atStart=>exact⟨0,S,Nat.zero_le _,rfl,HS0.out,fun _ _ h=>h,HP.out.sound,fun i' _ h=>by omega,B'⟩
     case round =>
      obtain⟨i,f,hil,rfl,O,h1,h2,h3,B2⟩:=hrel;have HO:=hid1 O;have H1:=hid1 h1;have H2:=hid1 h2;have H3:=hid1 h3;have i0':(0:Int)<=(i:Int):=by omega
      by_cases hilt:i<l.length
      ·have i1:(i:Int)<(l.length:Int):=by omega
       generalize wr=w4 at *;go_wp2
       go_loopw [12] (fun kv wx=>∃(k:Nat) (f:Nat->Bool),k<=l.length/\kv=.int .i64 k/\Own wx w.heap.size w.heap.size l.length f/\(∀ k,k<l.length->S k=true->f k=true)/\(∀ P:Nat->Prop,(∀ k,Ru.base l outs k=true->P k)->(∀ i k,P i->Ru.needs l i k=true->P k)->∀ k,k<l.length->f k=true->P k)/\(∀ i' k,i'<i->S i'=true->Ru.needs l i' k=true->f k=true)/\(∀ k',k'<k->S i=true->Ru.needs l i k'=true->f k'=true)/\Below w.heap.size w wx) (fun kv _=>l.length - (intOf kv).toNat)
       case atStart=>exact⟨0,f,Nat.zero_le _,rfl,HO.out,H1.out,H2.out,H3.out,fun k' h=>by omega,B2⟩
       case round =>
        obtain⟨k,f,hk,rfl,O,h1,h2,h3,h4,B3⟩:=hrel;have H1:=hid1 h1;have H2:=hid1 h2;have H3:=hid1 h3;have H4:=hid1 h4;have k0:(0:Int)<=(k:Int):=by omega
        by_cases hkl:k<l.length
        ·have k1:(k:Int)<(l.length:Int):=by omega
         have hci:=O.cell hilt;have HC:=HNeed.out wr B3 i k hilt hkl;cases hfi:f i with
         | true =>
          rw[hfi]at hci;cases hnd:Ru.needs l i k with
          | true =>
           rw[hnd]at HC;have K1:Hid (∀ j,j<l.length->S j=true->(if j=k then true else f j)=true):=hid1 fun j hj hs=>by
            split
            ·rfl
            ·exact H1.out j hj hs
           have K2:Hid (∀ P:Nat->Prop,(∀ k,Ru.base l outs k=true->P k)->(∀ i k,P i->Ru.needs l i k=true->P k)->∀ j,j<l.length->(if j=k then true else f j)=true->P j):=hid1 fun P p1 p2 j hj hf=>by
            by_cases e:j=k
            ·rw[e];exact p2 i k (H2.out P p1 p2 i hilt hfi) hnd
            ·rw[if_neg e]at hf;exact H2.out P p1 p2 j hj hf
           have K3:Hid (∀ i' j,i'<i->S i'=true->Ru.needs l i' j=true->(if j=k then true else f j)=true):=hid1 fun i' j a b c=>by
            split
            ·rfl
            ·exact H3.out i' j a b c
           have K4:Hid (∀ j,j<k+1->S i=true->Ru.needs l i j=true->(if j=k then true else f j)=true):=hid1 fun j a b c=>by
            split
            ·rfl
            ·exact H4.out j (by omega) b c
           go_wp2_with fail;refine Calls.mono HC ?_;rintro e w5 ⟨rfl,q,rfl⟩;have O5:Own (wr.drewN q) w.heap.size w.heap.size l.length f:=O;have hck:=O5.cell hkl;have hfk:=World.ownsRow.frozenAt O5 k;have O6:=O5.set (f':=fun j=>if j=k then true else f j) k true fun j _=>rfl
           have B6:=(Zad B3 q).setCell (p:=⟨w.heap.size,k,none⟩) (Nat.le_refl _) (.bool true);go_wp2;exact⟨⟨k+1,_,by omega,by go_num,O6,K1.out,K2.out,K3.out,K4.out,B6⟩,by simp[intOf];omega⟩
          | false =>
           rw[hnd]at HC;have K4:Hid (∀ j,j<k+1->S i=true->Ru.needs l i j=true->f j=true):=hid1 fun j a b c=>by
            by_cases e:j=k
            ·rw[e,hnd]at c;cases c
            ·exact H4.out j (by omega) b c
           go_wp2_with fail;refine Calls.mono HC ?_;rintro e w5 ⟨rfl,q,rfl⟩;have O5:Own (wr.drewN q) w.heap.size w.heap.size l.length f:=O;go_wp2;exact⟨⟨k+1,f,by omega,by go_num,O5,H1.out,H2.out,H3.out,K4.out,Zad B3 q⟩,by simp[intOf];omega⟩
         | false =>
          rw[hfi]at hci;have K4:Hid (∀ j,j<k+1->S i=true->Ru.needs l i j=true->f j=true):=hid1 fun j _ b _=>by
           rw[H1.out i hilt b]at hfi;cases hfi
          go_wp2;exact⟨⟨k+1,f,by omega,by go_num,O,H1.out,H2.out,H3.out,K4.out,B3⟩,by simp[intOf];omega⟩
        ·have k1:(l.length:Int)<=(k:Int):=by omega
         have K3:Hid (∀ i' j,i'<i+1->S i'=true->Ru.needs l i' j=true->f j=true):=hid1 fun i' j a b c=>by
          by_cases e:i'=i
          ·subst e;exact H4.out j (by have:=(Ru.needs_lt c).2;omega) b c
          ·exact H3.out i' j (by omega) b c
         go_wp2;exact⟨⟨i+1,f,by omega,by go_num,O,H1.out,H2.out,K3.out,B3⟩,by simp[intOf];omega⟩
      ·have i1:(l.length:Int)<=(i:Int):=by omega
       have KP:=hid1 (HP.out.next H1.out H2.out fun i' j a b c=>H3.out i' j (by omega) b c)
       go_wp2;exact⟨⟨t+1,f,by omega,by go_num,HO.out,KP.out,B2⟩,by simp[intOf];omega⟩
    ·have t1:(l.length:Int)<=(t:Int):=by omega
     obtain rfl:t=l.length:=by omega
     have KN:=hid1 HP.out.done;have O6:Own wr w.heap.size w.heap.size l.length (fun k=>decide (k<l.length)&&S k):=HS0.out.congr fun j hj=>by simp[hj]
     go_wp2;go_ret2;exact⟨_,_,rfl,B',.inr ⟨rfl,HAll.out,_,_,rfl,O6,KN.out⟩⟩
theorem Tryz.infoInts:(prog.info? 22).map (fun i=>(i.zero,i.size,i.bytes))=some (some (.slice none 0 0),1,24):=by kernel_rfl
namespace Ru
def Apart(l:List Ru):Prop:=∀ i j (hi:i<l.length) (hj:j<l.length),l[i].out=l[j].out->i=j
variable {l:List Ru}
theorem fault_ok(h:(fault l).1=0):l.length<=40/\Apart l:=by
 have h40:l.length<=40:=by
  refine Nat.le_of_not_lt fun hlt=> ?_
  rw[fault_many hlt]at h;cases h
 have hz:∀ j,j<l.length->errAt l j=0:=by
  unfold fault at h;rw[if_neg (by omega)]at h
  split at h
  ·rename_i k hk
   exact absurd h (first_some_ne hk)
  ·rename_i hk
   exact fun j hj=>first_none_zero hk j hj
 refine⟨h40,?_⟩;have key:∀ i j (hi:i<l.length) (hj:j<l.length),i<j->l[i].out≠l[j].out:=by
  intro i j hi hj hij he
  have h1:=hz j hj;rw[errAt_eq hj]at h1;split at h1
  ·rename_i h2
   exact h2 h1
  ·split at h1
   ·cases h1
   ·rename_i h3
    refine h3 (List.mem_map.2 ⟨l[i],?_,he⟩);exact List.mem_take_iff_getElem.2 ⟨i,by omega,rfl⟩
 intro i j hi hj he
 rcases Nat.lt_trichotomy i j with h1 | h1 | h1
 ·exact absurd he (key i j hi hj h1)
 ·exact h1
 ·exact absurd he.symm (key j i hj hi h1)
def mkr(l:List Ru)(x:List UInt8):Option Nat:=l.findIdx? fun r=>r.out==x
variable {x:List UInt8}
theorem mkr_none(h:mkr l x=none):∀ r∈l,r.out≠x:=by
 unfold mkr at h;rw[List.findIdx?_eq_none_iff]at h;intro r hr
 simpa using h r hr
variable {k:Nat}
theorem mkr_some(h:mkr l x=some k):∃ hk:k<l.length,l[k].out=x/\∀ j (hj:j<k),l[j].out≠x:=by
 unfold mkr at h;rw[List.findIdx?_eq_some_iff_getElem]at h;obtain⟨hk,h1,h2⟩:=h;exact⟨hk,by simpa using h1,fun j hj=>by simpa using h2 j hj⟩
theorem mkr_eq(hA:Apart l)(hk:k<l.length):mkr l l[k].out=some k:=by
 cases h:mkr l l[k].out with
 | none=>exact absurd rfl (mkr_none h l[k] (List.getElem_mem hk))
 | some j =>
  obtain⟨hj,h1,_⟩:=mkr_some h;rw[hA j k hj hk h1]
def needL(l:List Ru)(ins:List (List UInt8)):List Nat:=ins.filterMap (mkr l)
theorem Zfu(hA:Apart l){i:Nat}(hi:i<l.length)(k:Nat):k∈needL l l[i].ins↔needs l i k=true:=by
 unfold needL;rw[List.mem_filterMap];constructor
 ·rintro⟨x,hx,hk⟩;obtain⟨hkl,h1,_⟩:=mkr_some hk;rw[needs_eq hi hkl];simpa[h1] using hx
 ·intro h
  have hkl:=(needs_lt h).2;rw[needs_eq hi hkl]at h;exact⟨l[k].out,by simpa using h,mkr_eq hA hkl⟩
theorem needL_len(l:List Ru)(ins:List (List UInt8)):(needL l ins).length<=ins.length:=List.length_filterMap_le _ _
theorem needL_succ(l:List Ru){ins:List (List UInt8)}{m:Nat}(hm:m<ins.length):needL l (ins.take (m+1))=needL l (ins.take m)++(mkr l ins[m]).toList:=by
 unfold needL;rw[List.take_succ_eq_append_getElem hm,List.filterMap_append];cases h:mkr l ins[m] <;> simp[h]
end Ru
def mkF:Nat->List Ru->List MapEntry
 | _,[]=>[]
 | k,r::t=>{ key:=.string (ba r.out),val:=nv k,born:=k }::mkF (k+1) t
theorem Zup(r:Ru):∀(k:Nat) (l:List Ru),mkF k (l++[r])=mkF k l++[({ key:=.string (ba r.out),val:=nv (k+l.length),born:=k+l.length }:MapEntry)]
 | k,[]=>by simp[mkF]
 | k,x::t=>by
  have:=Zup r (k+1) t;simp only[List.cons_append,mkF,this,List.length_cons];rw[show k+1+t.length=k+(t.length+1) by omega]
theorem Zgi(a b:List UInt8):Instr.sameNow .string (.string (ba a)) (.string (ba b))=some (decide (a=b)):=by
 show some (ba a==ba b)=_
 congr 1
 rw[Bool.eq_iff_iff,MapKept.bytes_beq,decide_eq_true_eq];exact⟨ba_inj,fun e=>by rw[e]⟩
theorem Zmz{s:List UInt8}:∀ {l:List Ru} {k j:Nat},(∀ x∈l,x.out≠s)->Instr.findNow .string (.string (ba s)) (mkF k l) j=some none
 | [],_,_,_=>rfl
 | x::t,k,j,h=>by
  have hx:¬ s=x.out:=fun e=>h x (by simp) e.symm
  simp only[mkF,Instr.findNow,Zgi,hx,decide_false];exact Zmz fun y hy=>h y (List.mem_cons_of_mem _ hy)
theorem Zuo{s:List UInt8}:∀ {l:List Ru} {k j i:Nat} (hi:i<l.length),l[i].out=s->(∀ m (hm:m<i),l[m].out≠s)->Instr.findNow .string (.string (ba s)) (mkF k l) j=some (some (j+i,nv (k+i)))
 | [],_,_,_,hi,_,_=>by simp at hi
 | x::t,k,j,0,_,he,_=>by
  have hx:s=x.out:=by simpa using he.symm
  simp only[mkF,Instr.findNow,Zgi,hx,decide_true];rfl
 | x::t,k,j,i+1,hi,he,hm=>by
  have hx:¬ s=x.out:=fun e=>hm 0 (by omega) e.symm
  simp only[mkF,Instr.findNow,Zgi,hx,decide_false];have:=Zuo (s:=s) (l:=t) (k:=k+1) (j:=j+1) (i:=i) (by simpa using hi) (by simpa using he) fun m hml=>by
   have:=hm (m+1) (by omega)
   simpa using this
  rw[this];rw[show j+1+i=j+(i+1) by omega,show k+1+i=k+(i+1) by omega]
variable {W:World}{bm c:Nat}{l:List Ru}
theorem Zzo(h:W.heap[bm]? =some (.map (mkF 0 l).toArray c))(s:List UInt8):
  (Instr.lookup 160 (.map (some bm)) (.string (ba s)) true).run prog W=.ok (.tuple #[nv ((Ru.mkr l s).getD 0),.bool (Ru.mkr l s).isSome]) W:=by
 cases hm:Ru.mkr l s with
 | none=>exact Zfl 160 9 3 bm c _ (ba s) underlying160 underlying9 h (.int .i64 0) (zeroValue3 W) (Zmz (Ru.mkr_none hm))
 | some k =>
  obtain⟨hk,h1,h2⟩:=Ru.mkr_some hm;have:=Zuo (s:=s) (k:=0) (j:=0) hk h1 h2;rw[Nat.zero_add]at this;exact Zeb 160 9 3 bm c _ (ba s) underlying160 underlying9 h k (nv k) this
structure ShAt(W:World)(l:List Ru)(p bm G:Nat)(vals:Nat->Value):Prop where
 c0:W.cell? ⟨p,0,none⟩=some (.map (some bm))
 c1:W.cell? ⟨p,1,none⟩=some (.slice (some ⟨G,0,none⟩) l.length l.length)
 map:W.heap[bm]? =some (.map (mkF 0 l).toArray l.length)
 row:∀ i (hi:i<l.length),W.cell? ⟨G,i,none⟩=some (vals i)/\NIRow W (vals i) (Ru.needL l l[i].ins)
theorem ShAt.below{W W':World}{l:List Ru}{p bm G:Nat}{vals:Nat->Value}(h:ShAt W l p bm G vals)(hb:Below W.heap.size W W'):ShAt W' l p bm G vals :=
 ⟨Zaa h.c0 hb,Zaa h.c1 hb,(hb.block bm (Array.getElem?_eq_some_iff.1 h.map).1).trans h.map,fun i hi=>⟨Zaa (h.row i hi).1 hb,(h.row i hi).2.below hb⟩⟩
def setB(W:World)(b:Nat)(o:Obj):World:={ W with heap:=W.heap.setIfInBounds b o }
theorem Zea(W:World)(b:Nat)(o:Obj)(h:c≠b):(setB W b o).heap[c]? =W.heap[c]? :=by
 unfold setB;exact Array.getElem?_setIfInBounds_ne (fun e=>h e.symm)
theorem Zyi(W:World)(b:Nat)(o:Obj)(h:b<W.heap.size):(setB W b o).heap[b]? =some o:=by
 unfold setB;simp[h]
theorem Zig(W:World)(b:Nat)(o:Obj):(setB W b o).heap.size=W.heap.size:=by unfold setB;simp
theorem Zvv(W:World)(b:Nat)(o:Obj):W.grownBy (setB W b o) (some b) :=
 ⟨rfl,rfl,rfl,by rw[Zig];exact Nat.le_refl _,fun k _ hk=>Zea W b o fun e=>hk (by rw[e])⟩
variable {B:Nat}{w:World}
theorem Zvw(h:Below B w W)(b:Nat)(o:Obj)(hb:B<=b):Below B w (setB W b o) :=
 ⟨h.os,h.tape,h.output,by rw[Zig];exact h.size,fun k hk=>(Zea W b o (by omega)).trans (h.block k hk)⟩
def topV(n:Nat)(vals:Nat->Value):List Value:=(List.range n).map vals
variable {n:Nat}
theorem Zmj(vals:Nat->Value){j:Nat}(h:j<n):(topV n vals)[j]? =some (vals j):=by simp[topV,h]
theorem Ybf(n:Nat)(vals:Nat->Value)(k:Nat)(v:Value):(topV n vals).set k v=topV n (fun j=>if j=k then v else vals j):=by
 apply List.ext_getElem?
 intro j
 unfold topV;rw[List.getElem?_set];by_cases hj:j<n
 ·by_cases e:k=j
  ·subst e;simp[hj]
  ·have e':¬ j=k:=fun h=>e h.symm
   simp[hj,e,e']
 ·by_cases e:k=j
  ·subst e;simp[hj]
  ·simp[hj,e]
theorem Zlb{f g:Nat->Value}(h:∀ j,j<n->f j=g j):topV n f=topV n g:=by
 unfold topV;exact List.map_congr_left fun j hj=>h j (List.mem_range.1 hj)
abbrev topR(G n:Nat):Value:=.slice (some ⟨G,0,none⟩) n n
structure LookA(B:Nat)(w W:World)(l:List Ru)(p bm G k:Nat):Prop where
 below:Below B w W
 size:B<=W.heap.size
 lowm:B<=bm
 lowp:B<=p
 nep:p≠bm
 neG:G≠bm
 negp:G≠p
 c0:W.cell? ⟨p,0,none⟩=some (.map (some bm))
 c1:W.cell? ⟨p,1,none⟩=some (topR G l.length)
 map:W.heap[bm]? =some (.map (mkF 0 (l.take k)).toArray k)
 top:W.ownsRow B 22 1 (topR G l.length) l.length (topV l.length fun _=>.slice none 0 0)
variable {e:TypeId}{s:Nat}{v:Value}{xs:List Value}
theorem own_lt(h:W.ownsRow B e s v n xs):∀ g,v.ownBlock=some g->B<=g/\g<W.heap.size:=by
 intro g hg
 rcases h.2 with ⟨rfl,_⟩ | ⟨g',cap,cur,rfl,hb,hc,_⟩
 ·simp[Value.ownBlock]at hg
 ·simp only[Value.ownBlock,Option.some.injEq]at hg;subst hg;exact⟨hb,(Array.getElem?_eq_some_iff.1 hc).1⟩
theorem Ybr{B':Nat}(h:W.ownsRow B e s v n xs)(hB:B'<=B):W.ownsRow B' e s v n xs:=by
 refine⟨h.1,?_⟩;rcases h.2 with h1 | ⟨g,cap,cur,h1,h2,h3⟩
 ·exact .inl h1
 ·exact .inr ⟨g,cap,cur,h1,Nat.le_trans hB h2,h3⟩
variable {w1:World}
theorem LookA.make{w2:World}(hown:w2.ownsRow w1.heap.size 22 1 (.slice (some ⟨(w1.alloc (.map #[] 0)).heap.size,0,none⟩) l.length l.length) l.length (madeCells (Value.slice none 0 0).cells (l.length*1)).toList)(hgrow:(w1.alloc (.map #[] 0)).grownBy w2 none):
  LookA w1.heap.size w1 (w2.alloc (.cells #[.map (some w1.heap.size),.slice (some ⟨w1.heap.size+1,0,none⟩) l.length l.length] 163)) l w2.heap.size w1.heap.size (w1.heap.size+1) 0:=by
 have hz1:(w1.alloc (.map #[] 0)).heap.size=w1.heap.size+1:=by simp
 rw[hz1]at hown;have hA1:Below w1.heap.size w1 (w1.alloc (.map #[] 0)):=(Below.refl _ w1).alloc (Nat.le_refl _) _;have hB2:Below w1.heap.size w1 w2:=hA1.grown hgrow (by omega) (fun j e=>by cases e)
 have hG:=own_lt hown (w1.heap.size+1) rfl;have hm2:w2.heap[w1.heap.size]? =some (.map #[] 0):=by
  rw[hgrow.block w1.heap.size (by omega) (by simp)]
  show(w1.heap.push _)[w1.heap.size]? =_
  simp
 have hA2:Below w2.heap.size w2 (w2.alloc (.cells #[.map (some w1.heap.size),.slice (some ⟨w1.heap.size+1,0,none⟩) l.length l.length] 163)):=(Below.refl _ w2).alloc (Nat.le_refl _) _;have e:(madeCells (Value.slice none 0 0).cells (l.length*1)).toList=topV l.length (fun _=>.slice none 0 0):=by
  rw[Nat.mul_one];refine(toList_madeCells_one _ _).trans ?_;unfold topV;rw[List.map_const'];simp
 rw[e]at hown;exact⟨hB2.alloc (by omega) _,by simp;omega,Nat.le_refl _,by omega,by omega,by omega,by omega,by simp,by simp,(hA2.block _ (by omega)).trans hm2,hown.alloc _⟩
variable {p G k:Nat}
theorem LookA.next(h:LookA B w W l p bm G k)(hk:k<l.length)(o:Obj):
  LookA B w (setB (W.alloc o).drew bm (.map (mkF 0 (l.take k)++[({ key:=.string (ba l[k].out),val:=nv k,born:=k }:MapEntry)]).toArray (k+1))) l p bm G (k+1):=by
 have hbm:=(Array.getElem?_eq_some_iff.1 h.map).1;have hA:Below W.heap.size W (W.alloc o).drew:=((Below.refl _ W).alloc (Nat.le_refl _) _).drew;have hz:=hA.size;refine⟨Zvw ((h.below.alloc h.size _).drew) _ _ h.lowm,by rw[Zig];exact Nat.le_trans h.size hz,h.lowm,h.lowp,h.nep,h.neG,h.negp,?_,?_,?_,?_⟩
 ·exact(World.cell?_of_block (a:=⟨p,0,none⟩) (Zea _ bm _ h.nep)).trans (Zaa h.c0 hA)
 ·exact(World.cell?_of_block (a:=⟨p,1,none⟩) (Zea _ bm _ h.nep)).trans (Zaa h.c1 hA)
 ·rw[Zyi _ _ _ (by omega),List.take_succ_eq_append_getElem hk,Zup]
  simp only[Nat.zero_add,List.length_take,Nat.min_eq_left (Nat.le_of_lt hk)]
 ·have h1:(W.alloc o).drew.ownsRow B 22 1 (topR G l.length) l.length (topV l.length fun _=>.slice none 0 0):=h.top.alloc o
  exact h1.kept (Zvv _ _ _) (.inr (by simp[Value.ownBlock,h.neG]))
structure LookB(B:Nat)(w W:World)(l:List Ru)(p bm G k:Nat)(vals:Nat->Value):Prop where
 below:Below B w W
 size:B<=W.heap.size
 c0:W.cell? ⟨p,0,none⟩=some (.map (some bm))
 c1:W.cell? ⟨p,1,none⟩=some (topR G l.length)
 map:W.heap[bm]? =some (.map (mkF 0 l).toArray l.length)
 top:W.ownsRow B 22 1 (topR G l.length) l.length (topV l.length vals)
 lowp:B<=p
 negp:G≠p
 negm:G≠bm
 row:∀ j (hj:j<l.length),j<k->W.ownsRow B 3 1 (vals j) (Ru.needL l l[j].ins).length ((Ru.needL l l[j].ins).map nv)
 nils:∀ j,k<=j->vals j=.slice none 0 0
theorem LookA.start(h:LookA B w W l p bm G l.length):LookB B w W l p bm G 0 (fun _=>.slice none 0 0) :=
 ⟨h.below,h.size,h.c0,h.c1,by have:=h.map;rwa[List.take_length]at this,h.top,h.lowp,h.negp,h.neG,fun j _ hj=>absurd hj (Nat.not_lt_zero j),fun _ _=>rfl⟩
variable {vals:Nat->Value}
theorem LookB.done(h:LookB B w W l p bm G l.length vals):ShAt W l p bm G vals :=
 ⟨h.c0,h.c1,h.map,fun i hi=>⟨by
  have:=World.ownsRow.cellAt h.top i (by omega)
  rw[this,Zmj vals hi],(NRow.of_owns (h.row i hi hi)).ni⟩⟩
structure LookC(B Bk:Nat)(w W:World)(l:List Ru)(p bm G k:Nat)(vals:Nat->Value)(r:List Nat)(vi:Value):Prop where
 below:Below B w W
 low:B<=Bk
 size:Bk<=W.heap.size
 c0:W.cell? ⟨p,0,none⟩=some (.map (some bm))
 c1:W.cell? ⟨p,1,none⟩=some (topR G l.length)
 map:W.heap[bm]? =some (.map (mkF 0 l).toArray l.length)
 ltm:bm<Bk
 ltp:p<Bk
 ltG:G<Bk
 lowp:B<=p
 negp:G≠p
 negm:G≠bm
 top:W.ownsRow B 22 1 (topR G l.length) l.length (topV l.length fun j=>if j=k then vi else vals j)
 row:∀ j (hj:j<l.length),j<k->W.ownsRow B 3 1 (vals j) (Ru.needL l l[j].ins).length ((Ru.needL l l[j].ins).map nv)/\∀ g,(vals j).ownBlock=some g->g<Bk
 mine:W.ownsRow Bk 3 1 vi r.length (r.map nv)
 nils:∀ j,k<j->vals j=.slice none 0 0
theorem LookB.enter(h:LookB B w W l p bm G k vals)(o:Obj):LookC B (W.alloc o).heap.size w (W.alloc o) l p bm G k vals [] (.slice none 0 0):=by
 have hA:Below W.heap.size W (W.alloc o):=(Below.refl _ W).alloc (Nat.le_refl _) _;have hz:(W.alloc o).heap.size=W.heap.size+1:=by simp
 have hG:=own_lt h.top G rfl;have hbm:=(Array.getElem?_eq_some_iff.1 h.map).1;have hp:=Zaj h.c0;simp only at hp
 refine⟨h.below.alloc h.size _,Nat.le_trans h.size hA.size,Nat.le_refl _,Zaa h.c0 hA,Zaa h.c1 hA,(hA.block bm hbm).trans h.map,by omega,by omega,by omega,h.lowp,h.negp,h.negm,?_,fun j hj hjk=>⟨(h.row j hj hjk).alloc o,fun g hg=> ?_⟩,World.ownsRow_nil _ _ _ _,fun j hj=>h.nils j (by omega)⟩
 ·have e:topV l.length (fun j=>if j=k then Value.slice none 0 0 else vals j)=topV l.length vals:=Zlb fun j _=>by
   by_cases ej:j=k
   ·rw[if_pos ej,h.nils j (by omega)]
   ·rw[if_neg ej]
  rw[e];exact h.top.alloc o
 ·have:=(own_lt (h.row j hj hjk) g hg).2;omega
variable {Bk:Nat}{vi:Value}
theorem LookC.leave(hk:k<l.length)(h:LookC B Bk w W l p bm G k vals (Ru.needL l l[k].ins) vi):LookB B w W l p bm G (k+1) (fun j=>if j=k then vi else vals j):=by
 refine⟨h.below,Nat.le_trans h.low h.size,h.c0,h.c1,h.map,h.top,h.lowp,h.negp,h.negm,fun j hj hjk=> ?_,fun j hj=> ?_⟩
 ·by_cases e:j=k
  ·subst e;show W.ownsRow B 3 1 (if j=j then vi else vals j) _ _
   rw[if_pos rfl];exact Ybr h.mine h.low
  ·show W.ownsRow B 3 1 (if j=k then vi else vals j) _ _
   rw[if_neg e];exact(h.row j hj (by omega)).1
 ·show(if j=k then vi else vals j)=_
  rw[if_neg (by omega)]
  exact h.nils j (by omega)
theorem LookC.more{B Bk:Nat}{w W W1 w1:World}{l:List Ru}{p bm G k:Nat}{vals:Nat->Value}{r:List Nat}{vi v1:Value}{x:Nat}(h:LookC B Bk w W l p bm G k vals r vi)(h1:Below W.heap.size W W1)(hg:W1.grownBy w1 vi.ownBlock)
  (hown:w1.ownsRow Bk 3 1 v1 (r.length+1) (r.map nv++[nv x])) (hblk:v1.ownBlock≠some G) :
  LookC B Bk w (w1.setCell ⟨G,k,none⟩ v1) l p bm G k vals (r++[x]) v1:=by
 have hmine:=own_lt h.mine;have hB1:∀ c,c<Bk->w1.heap[c]? =W.heap[c]? :=fun c hc=>by
  have hcw:c<W.heap.size:=Nat.lt_of_lt_of_le hc h.size;rw[hg.block c (Nat.lt_of_lt_of_le hcw h1.size) (fun e=>by
   have:=(hmine c e.symm).1;omega)]
  exact h1.block c hcw
 have hS:∀ c,c≠G->(w1.setCell ⟨G,k,none⟩ v1).heap[c]? =w1.heap[c]? :=fun c hc=>Below.heap_setCell w1 ⟨G,k,none⟩ v1 c hc
 have hz:(w1.setCell ⟨G,k,none⟩ v1).heap.size=w1.heap.size:=by simp
 have hlow:=h.low;have h1z:=h1.size;have hgz:=hg.size;have hsz:=h.size;have hGB:B<=G:=(own_lt h.top G rfl).1;have keep:∀ {e:TypeId} {n:Nat} {v:Value} {xs:List Value},W.ownsRow B e 1 v n xs->(∀ g,v.ownBlock=some g->g<Bk)->w1.ownsRow B e 1 v n xs:=fun {e n v xs} ho hb=>by
  refine⟨ho.1,?_⟩;rcases ho.2 with h2 | ⟨g,cap,cur,rfl,h3,h4,h5⟩
  ·exact .inl h2
  ·exact .inr ⟨g,cap,cur,rfl,h3,(hB1 g (hb g rfl)).trans h4,h5⟩
 refine⟨?_,h.low,by rw[hz];omega,?_,?_,?_,h.ltm,h.ltp,h.ltG,h.lowp,h.negp,h.negm,?_,fun j hj hjk=>⟨?_,(h.row j hj hjk).2⟩,?_,h.nils⟩
 ·refine Below.setCell (p:=⟨G,k,none⟩) ?_ hGB _;exact(h.below.trans (h1.mono (by omega))).grown hg (by omega) fun j e=>by have:=(hmine j e).1;omega
 ·exact(World.cell?_of_block (a:=⟨p,0,none⟩) ((hS p (fun e=>h.negp e.symm)).trans (hB1 p h.ltp))).trans h.c0
 ·exact(World.cell?_of_block (a:=⟨p,1,none⟩) ((hS p (fun e=>h.negp e.symm)).trans (hB1 p h.ltp))).trans h.c1
 ·exact((hS bm (fun e=>h.negm e.symm)).trans (hB1 bm h.ltm)).trans h.map
 ·have ht:=keep h.top (fun g e=>by cases e;exact h.ltG)
  have:=(World.ownsRow.stored ht k v1).1;rw[Ybf]at this;have e:topV l.length (fun j=>if j=k then v1 else if j=k then vi else vals j)=topV l.length (fun j=>if j=k then v1 else vals j):=Zlb fun j _=>by
   by_cases ej:j=k
   ·rw[if_pos ej,if_pos ej]
   ·rw[if_neg ej,if_neg ej,if_neg ej]
  rw[e]at this;exact this
 ·obtain⟨ho,hb⟩:=h.row j hj hjk;refine ownsRow_setCell_other (keep ho hb) ?_ _;exact Zul (keep ho hb) (keep h.top (fun g e=>by cases e;exact h.ltG)) (by decide)
 ·rw[List.length_append,List.length_singleton,List.map_append];exact ownsRow_setCell_other hown hblk _
variable {r:List Nat}
theorem LookC.after{W1:World}(h:LookC B Bk w W l p bm G k vals r vi)(hk:k<l.length)(h1:Below W.heap.size W W1)(hg:W1.grownBy w1 vi.ownBlock):
  w1.cell? ⟨G,k,none⟩=some vi/\w1.frozen? ⟨G,k,none⟩=false/\w1.cell? ⟨p,1,none⟩=some (topR G l.length):=by
 have hmine:=own_lt h.mine;have hB1:∀ c,c<Bk->w1.heap[c]? =W.heap[c]? :=fun c hc=>by
  have hcw:c<W.heap.size:=Nat.lt_of_lt_of_le hc h.size;rw[hg.block c (Nat.lt_of_lt_of_le hcw h1.size) (fun e=>by
   have:=(hmine c e.symm).1;omega)]
  exact h1.block c hcw
 refine⟨?_,?_,(World.cell?_of_block (a:=⟨p,1,none⟩) (hB1 p h.ltp)).trans h.c1⟩
 ·rw[World.cell?_of_block (a:=⟨G,k,none⟩) (hB1 G h.ltG),World.ownsRow.cellAt h.top k (by omega),Zmj _ hk,if_pos rfl]
 ·rw[World.frozen?_of_block (a:=⟨G,k,none⟩) (hB1 G h.ltG)];exact World.ownsRow.frozenAt h.top k
theorem LookC.at(h:LookC B Bk w W l p bm G k vals r vi)(hk:k<l.length):W.cell? ⟨G,k,none⟩=some vi/\W.frozen? ⟨G,k,none⟩=false:=by
 refine⟨?_,World.ownsRow.frozenAt h.top k⟩;rw[World.ownsRow.cellAt h.top k (by omega),Zmj _ hk,if_pos rfl]
namespace Ru
def Steps(l:List Ru)(e i t:Nat):Prop:=Walk l i e t/\∀ s,Walk l i e s->t<=s
theorem sorted_filter(hs:r.Pairwise (fun a b=>a<=b))(hd:r.Nodup)(hlt:∀ k∈r,k<n)(f:Nat->Bool)(hf:∀ k,k<n->(f k=true↔k∈r)):r=(List.range n).filter f:=by
 have hp:r.Perm ((List.range n).filter f):=(List.perm_ext_iff_of_nodup hd (List.Pairwise.filter _ List.nodup_range)).2 fun k=>by
  rw[List.mem_filter,List.mem_range];constructor
  ·intro hk
   exact⟨hlt k hk,(hf k (hlt k hk)).2 hk⟩
  ·rintro⟨h1,h2⟩;exact(hf k h1).1 h2
 refine List.Perm.eq_of_pairwise (le:=fun a b:Nat=>a<=b) ?_ hs (List.Pairwise.filter _ (List.pairwise_lt_range.imp Nat.le_of_lt)) hp
 intro a b _ _ h1 h2
 exact Nat.le_antisymm h1 h2
structure NeedA(l:List Ru)(outs:List (List UInt8))(j:Nat)(r:List Nat):Prop where
 once:r.Nodup
 lt:∀ k∈r,k<l.length
 mem:∀ k (hk:k<l.length),k∈r↔l[k].out∈outs.take j
 made:∀ i (hi:i<outs.length),i<j->∃ x∈l,x.out=outs[i]
theorem NeedA.first(l:List Ru)(outs:List (List UInt8)):NeedA l outs 0 []:=⟨List.nodup_nil,by simp,by simp,fun _ _ h=>absurd h (Nat.not_lt_zero _)⟩
theorem NeedA.more{l:List Ru}(hA:Apart l){outs:List (List UInt8)}{j k:Nat}{r:List Nat}(h:NeedA l outs j r)(hj:j<outs.length)(hm:mkr l outs[j]=some k):NeedA l outs (j+1) (withN r k):=by
 obtain⟨hk,h1,_⟩:=mkr_some hm;refine⟨Zkz h.once k,fun x hx=> ?_,fun x hx=> ?_,fun i hi hij=> ?_⟩
 ·rcases (Zbs r k x).1 hx with h2 | rfl
  ·exact h.lt x h2
  ·exact hk
 ·rw[Zbs,h.mem x hx,List.take_succ_eq_append_getElem hj,List.mem_append,List.mem_singleton,<- h1];constructor
  ·rintro(h2 | rfl)
   ·exact .inl h2
   ·exact .inr rfl
  ·rintro(h2 | h2)
   ·exact .inl h2
   ·exact .inr (hA x k hx hk h2)
 ·by_cases e:i=j
  ·subst e;exact⟨l[k],List.getElem_mem hk,h1⟩
  ·exact h.made i hi (by omega)
structure NeedB(l:List Ru)(outs:List (List UInt8))(r:List Nat)(a m:Nat):Prop where
 once:r.Nodup
 lt:∀ k∈r,k<l.length
 start:∀ k,base l outs k=true->k∈r
 sound:∀ P:Nat->Prop,(∀ k,base l outs k=true->P k)->(∀ i k,P i->needs l i k=true->P k)->∀ k∈r,P k
 past:∀(p x:Nat) (hx:x<l.length),p<a->r[p]? =some x->∀ k∈needL l l[x].ins,k∈r
 now:∀(x:Nat) (hx:x<l.length),r[a]? =some x->∀ k∈(needL l l[x].ins).take m,k∈r
variable {outs:List (List UInt8)}
theorem NeedA.done(h:NeedA l outs outs.length r):NeedB l outs r 0 0:=by
 have hb:∀ k,base l outs k=true↔k∈r:=fun k=>by
  constructor
  ·intro hk
   have hkl:=Ztt hk;rw[base_eq hkl]at hk;rw[h.mem k hkl,List.take_length];simpa using hk
  ·intro hk
   have hkl:=h.lt k hk;rw[base_eq hkl];have:=(h.mem k hkl).1 hk;rw[List.take_length]at this;simpa using this
 exact⟨h.once,h.lt,fun k hk=>(hb k).1 hk,fun P h1 _ k hk=>h1 k ((hb k).2 hk),fun p _ _ hp=>absurd hp (Nat.not_lt_zero p),fun _ _ _ k hk=>by simp at hk⟩
theorem withN_get(hp:p<r.length):(withN r k)[p]? =r[p]? :=by
 unfold withN;split
 ·rfl
 ·exact List.getElem?_append_left hp
theorem NeedB.more{l:List Ru}(hA:Apart l){outs:List (List UInt8)}{r:List Nat}{a m x:Nat}(h:NeedB l outs r a m)(hx:r[a]? =some x)(hxl:x<l.length)(hm:m<(needL l l[x].ins).length):NeedB l outs (withN r (needL l l[x].ins)[m]) a (m+1):=by
 have hal:a<r.length:=(List.getElem?_eq_some_iff.1 hx).1;have hkm:(needL l l[x].ins)[m]∈needL l l[x].ins:=List.getElem_mem hm;have hkn:=(Zfu hA hxl _).1 hkm;generalize hk:(needL l l[x].ins)[m]=k at *;refine⟨Zkz h.once k,fun y hy=> ?_,fun y hy=>(Zbs r k y).2 (.inl (h.start y hy)),fun P h1 h2 y hy=> ?_,fun p y hyl hp hy z hz=> ?_,fun y hyl hy z hz=> ?_⟩
 ·rcases (Zbs r k y).1 hy with h2 | rfl
  ·exact h.lt y h2
  ·exact(needs_lt hkn).2
 ·rcases (Zbs r k y).1 hy with h3 | rfl
  ·exact h.sound P h1 h2 y h3
  ·exact h2 x y (h.sound P h1 h2 x (List.mem_of_getElem? hx)) hkn
 ·rw[withN_get (by omega)]at hy
  exact(Zbs r k z).2 (.inl (h.past p y hyl hp hy z hz))
 ·rw[withN_get hal,hx]at hy;cases hy
  rw[List.take_succ_eq_append_getElem hm,List.mem_append,List.mem_singleton,hk]at hz;rcases hz with hz | rfl
  ·exact(Zbs r k z).2 (.inl (h.now x hxl hx z hz))
  ·exact(Zbs r z z).2 (.inr rfl)
variable {a m:Nat}
theorem NeedB.next{x:Nat}(h:NeedB l outs r a m)(hx:r[a]? =some x)(hxl:x<l.length)(hm:(needL l l[x].ins).length<=m):NeedB l outs r (a+1) 0:=by
 refine⟨h.once,h.lt,h.start,h.sound,fun p y hyl hp hy k hk=> ?_,fun _ _ _ k hk=>by simp at hk⟩
 by_cases e:p=a
 ·subst e;rw[hx]at hy;cases hy
  exact h.now x hxl hx k (by rwa[List.take_of_length_le hm])
 ·exact h.past p y hyl (by omega) hy k hk
theorem NeedB.done(hA:Apart l)(h:NeedB l outs r a m)(ha:r.length<=a):Needed l outs (isIn r):=by
 refine⟨fun k hk=>by simpa[isIn] using h.start k hk,fun i k hi hn=> ?_,fun P h1 h2 k _ hk=>h.sound P h1 h2 k (by simpa[isIn] using hk)⟩
 have hir:i∈r:=by simpa[isIn] using hi
 obtain⟨p,hp,e⟩:=List.getElem_of_mem hir;have hil:=h.lt i hir;have:=h.past p i hil (by omega) (by rw[List.getElem?_eq_getElem hp,e]) k ((Zfu hA hil k).2 hn)
 simpa[isIn] using this
theorem NeedB.len(h:NeedB l outs r a m):r.length<=l.length:=len_le h.once h.lt
variable {j:Nat}
theorem NeedA.len(h:NeedA l outs j r):r.length<=l.length:=len_le h.once h.lt
def left(ch:Nat->Bool)(n:Nat)(o:List Nat):List Nat:=(List.range n).filter fun i=>ch i&& !isIn o i
variable {ch:Nat->Bool}{o:List Nat}{i:Nat}
theorem left_mem:i∈left ch n o↔i<n/\ch i=true/\i∉o:=by
 unfold left isIn;simp
theorem Zzr(ch:Nat->Bool)(n:Nat)(o:List Nat):(left ch n o).Nodup:=List.Pairwise.filter _ List.nodup_range
theorem left_len(ch:Nat->Bool)(n:Nat)(o:List Nat):(left ch n o).length<=n:=by
 have:=List.length_filter_le (fun i=>ch i&& !isIn o i) (List.range n)
 simpa[left] using this
theorem left_nil(ch:Nat->Bool)(n:Nat):left ch n []=(List.range n).filter ch:=by
 unfold left;congr 1
 funext i
 simp[isIn]
theorem Ziu(ch:Nat->Bool)(n:Nat)(o:List Nat):leftTo ch (isIn o) n=true↔left ch n o≠[]:=by
 unfold leftTo left;rw[List.any_eq_true,ne_eq,List.filter_eq_nil_iff];constructor
 ·rintro⟨i,hi,h⟩ hno;exact hno i hi h
 ·intro h
  simp only[Classical.not_forall]at h;obtain⟨i,hi,h⟩:=h;exact⟨i,hi,by simpa using h⟩
theorem Zps(ch:Nat->Bool)(l:List Ru)(n:Nat)(o:List Nat):nextTo l ch (isIn o) n=(left ch n o).find? fun i=>freeTo l (isIn o) i l.length:=by
 unfold nextTo left;rw[List.find?_filter];congr 1
 funext i
 unfold may;cases ch i <;> cases isIn o i <;> cases freeTo l (isIn o) i l.length <;> rfl
variable {b:Nat->Bool}
theorem left_none(hb:∀ x∈left ch l.length o,b x=freeTo l (isIn o) x l.length)(h:∀ x∈left ch l.length o,b x=false):nextTo l ch (isIn o) l.length=none:=by
 rw[Zps,List.find?_eq_none];intro x hx
 rw[<- hb x hx,h x hx];simp
theorem Zzq(hb:∀ x∈left ch l.length o,b x=freeTo l (isIn o) x l.length)(hk:k<(left ch l.length o).length)(h1:b (left ch l.length o)[k]=true)(h2:∀ x∈(left ch l.length o).take k,b x=false):nextTo l ch (isIn o) l.length=some (left ch l.length o)[k]:=by
 rw[Zps];generalize left ch l.length o=r at *;have e:r=r.take k++r[k]::r.drop (k+1):=by
  rw[<- List.drop_eq_getElem_cons hk,List.take_append_drop]
 have hn:(r.take k).find? (fun i=>freeTo l (isIn o) i l.length)=none:=by
  rw[List.find?_eq_none];intro x hx
  rw[<- hb x (List.mem_of_mem_take hx),h2 x hx];simp
 have hm:freeTo l (isIn o) r[k] l.length=true:=by rw[<- hb _ (List.getElem_mem hk)];exact h1
 generalize r[k]=y at *;rw[e,List.find?_append,hn,List.find?_cons_of_pos (by simpa using hm)]
 rfl
theorem left_del(hk:k<(left ch n o).length):(left ch n o).take k++(left ch n o).drop (k+1)=left ch n (o++[(left ch n o)[k]]):=by
 have hd:=Zzr ch n o;have e:left ch n (o++[(left ch n o)[k]])=(left ch n o).filter fun i=> !(i==(left ch n o)[k]):=by
  generalize (left ch n o)[k]=y;unfold left;rw[List.filter_filter];apply List.filter_congr
  intro i _
  unfold isIn;by_cases h:i=y
  ·subst h;simp
  ·simp[h]
 rw[e];generalize left ch n o=r at *;have er:r=r.take k++r[k]::r.drop (k+1):=by
  rw[<- List.drop_eq_getElem_cons hk,List.take_append_drop]
 generalize r[k]=y at *;rw[er]at hd;rw[List.nodup_append]at hd;obtain⟨h1,h2,h3⟩:=hd;have h4:=(List.nodup_cons.1 h2).1;conv=>rhs;rw[er]
 rw[List.filter_append,List.filter_cons_of_neg (by simp)]
 congr 1
 ·symm
  rw[List.filter_eq_self];intro a ha
  have:=h3 a ha y (by simp)
  simpa using this
 ·symm
  rw[List.filter_eq_self];intro a ha
  have:a≠y:=fun e=>h4 (e ▸ ha)
  simpa using this
theorem free_eq(hA:Apart l)(hi:i<l.length)(hcl:∀ k,needs l i k=true->ch k=true):(!((needL l l[i].ins).any fun y=>decide (y∈left ch l.length o)))=freeTo l (isIn o) i l.length:=by
 rw[Bool.eq_iff_iff];unfold freeTo;simp only[Bool.not_eq_true',List.any_eq_false,decide_eq_true_eq,List.all_eq_true,List.mem_range,Bool.or_eq_true,Bool.not_eq_true'];constructor
 ·intro h k hk
  by_cases hn:needs l i k=true
  ·left
   have:=h k ((Zfu hA hi k).2 hn);rw[left_mem]at this;simpa[isIn,hk,hcl k hn] using this
  ·right
   simpa using hn
 ·intro h k hk hl
  rw[left_mem]at hl;rcases h k hl.1 with h1 | h1
  ·exact hl.2.2 (by simpa[isIn] using h1)
  ·rw[(Zfu hA hi k).1 hk]at h1;cases h1
theorem Zmt(ch:Nat->Bool)(l:List Ru)(hlen:o.length<=l.length):orderF l ch (l.length+1 - o.length) o=if leftTo ch (isIn o) l.length=true then (match nextTo l ch (isIn o) l.length with | none=>none | some i=>orderF l ch (l.length - o.length) (o++[i])) else some o:=by
 rw[show l.length+1 - o.length=(l.length - o.length)+1 by omega]
 rfl
theorem ord_done(h:orderF l ch (l.length+1 - o.length) o=order l ch)(hlen:o.length<=l.length)(hl:left ch l.length o=[]):order l ch=some o:=by
 rw[<- h,Zmt ch l hlen,if_neg];rw[Ziu];simpa using hl
theorem ord_none(h:orderF l ch (l.length+1 - o.length) o=order l ch)(hlen:o.length<=l.length)(hl:left ch l.length o≠[])(hn:nextTo l ch (isIn o) l.length=none):order l ch=none:=by
 rw[<- h,Zmt ch l hlen,if_pos ((Ziu _ _ _).2 hl),hn]
theorem Ybu(h:orderF l ch (l.length+1 - o.length) o=order l ch)(hlen:o.length<=l.length)(hl:left ch l.length o≠[])(hn:nextTo l ch (isIn o) l.length=some j):orderF l ch (l.length+1 - (o++[j]).length) (o++[j])=order l ch:=by
 rw[<- h,Zmt ch l hlen,if_pos ((Ziu _ _ _).2 hl),hn,List.length_append,List.length_singleton];rw[show l.length+1 - (o.length+1)=l.length - o.length by omega]
structure Ord(ch:Nat->Bool)(l:List Ru)(o:List Nat):Prop where
 once:o.Nodup
 lt:∀ i∈o,i<l.length
 ord:orderF l ch (l.length+1 - o.length) o=order l ch
theorem Ord.first(ch:Nat->Bool)(l:List Ru):Ord ch l []:=⟨List.nodup_nil,by simp,rfl⟩
theorem Ord.len(h:Ord ch l o):o.length<=l.length:=len_le h.once h.lt
theorem Ord.more{ch:Nat->Bool}{l:List Ru}{o:List Nat}{b:Nat->Bool}(h:Ord ch l o)(hb:∀ x∈left ch l.length o,b x=freeTo l (isIn o) x l.length){k:Nat}(hk:k<(left ch l.length o).length)(h1:b (left ch l.length o)[k]=true)(h2:∀ x∈(left ch l.length o).take k,b x=false):Ord ch l (o++[(left ch l.length o)[k]]):=by
 have hj:=left_mem.1 (List.getElem_mem hk);refine⟨?_,?_,Ybu h.ord h.len (fun e=>by rw[e]at hk;simp at hk) (Zzq hb hk h1 h2)⟩
 ·rw[List.nodup_append];exact⟨h.once,by simp,fun a ha b hb=>by
   rw[List.mem_singleton.1 hb];rintro rfl;exact hj.2.2 ha⟩
 ·intro i hi
  rcases List.mem_append.1 hi with h1 | h1
  ·exact h.lt i h1
  ·rw[List.mem_singleton.1 h1];exact hj.1
end Ru
