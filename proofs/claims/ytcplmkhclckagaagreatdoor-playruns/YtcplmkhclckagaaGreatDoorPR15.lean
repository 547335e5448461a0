import Derived.Test.YtcplmkhclckagaaGreatDoorPR14
set_option maxRecDepth 100000
set_option maxHeartbeats 8000000
open Go.Proofs.Tryz
namespace Go.Proofs.YtcplmkhclckagaaGreatDoor
section
open Go.RowKit Go.Shelf Go.Lib
variable {w:World}{es:Nat->Addr}
theorem Zlm(hE:ES w es)(s:List UInt8)(hs:s.length<=1000000):
  Calls prog 142 #[.string (ba s)] w fun e w'=>e=.returned (erOf es (if pathB s=false then 4 else 0))/\Below w.heap.size w w':=by
 cases h:pathB s with
 | true=>exact Zdx s hs h w
 | false=>exact Zvc s hs h w _ _ hE.c3
theorem Zkd(hE:ES w es)(k:Int)(s:List UInt8)(hs:s.length<=1000000):
  Calls prog 192 #[.int .i64 k,.string (ba s)] w fun e w'=>e=.returned (erOf es (if pathB s=false then 4 else 0))/\Below w.heap.size w w':=by
 have HC:=hid1 (Zlm hE s hs);generalize erOf es (if pathB s=false then 4 else 0)=r at *
 clear hE;go_enter func192,ntmps192
 go_wp2_with fail;refine HC.out.mono ?_;rintro e w1 ⟨rfl,hb⟩;go_wp2;go_ret;exact⟨rfl,hb⟩
theorem Zxk(g o n cap:Nat)(l:List (List UInt8))(x:List UInt8)(hn:n<=l.length)(hl:l.length<=1000000)(hc:∀ j (hj:j<l.length),w.cell? ⟨g,o+j,none⟩=some (.string (ba l[j]))):
  Calls prog 195 #[.slice (some ⟨g,o,none⟩) n cap,.string (ba x)] w fun e w'=>e=.returned (.bool (decide (x∈l.take n)))/\w'=w:=by
 have:=slices_Contains_string g o n cap (l.map ba) (ba x) w (by simpa using hn) (by omega) (fun j hj=>by
  have hjl:j<l.length:=by simpa using hj
  rw[hc j hjl];simp[hjl])
 have e:Lib.containsS ((l.map ba).take n) (ba x)=decide (x∈l.take n):=by
  rw[Bool.eq_iff_iff,Lib.containsS_iff,decide_eq_true_iff,<- List.map_take];simp only[List.mem_map];constructor
  ·rintro⟨y,hy,e⟩;have:y=x:=by
    have:=congrArg (·.data.toList) e;simpa[ba] using this
   rw[<- this];exact hy
  ·exact fun h=>⟨x,h,rfl⟩
 rw[e]at this;exact this
theorem Zkc(hE:ES w es)(r:Ru)(b k:Nat)(hk:k<r.ins.length)(hl:r.ins.length<=1000000)(hR:RuAt w b 0 r):
  Calls prog 194 #[.int .i64 k,.string (ba r.ins[k]),.pointer (some ⟨b,0,none⟩)] w fun e w'=>e=.returned (erOf es (if r.twiceAt k=true then 7 else 0))/\Below w.heap.size w w':=by
 obtain⟨h0,_,_,v,h3,p,cap,rfl,hcap,_,hin⟩:=hR;obtain⟨g,o,rfl,hg,hcur⟩:=hin (by intro e;rw[e]at hk;simp at hk)
 have hx:=hE.c6;have HC:=hid1 (Zxk (w:=w) g o k cap r.ins r.ins[k] (by omega) hl hcur)
 have HT:=hid1 (Ru.twiceAt_eq hk);clear hin hcur hE;have z1:(k:Int)<=(cap:Int):=by omega
 have z0:(0:Int)<=(k:Int):=by omega
 have z2:(k:Int)<=1000000:=by omega
 generalize r.ins[k]=x at *;generalize r.ins.length=n at *;rw[Nat.zero_add]at h3;by_cases he:x=r.out
 ·have HQ:Hid (r.twiceAt k=true):=hid1 (by rw[HT.out,he];simp)
  rw[HQ.out];clear HC HT;subst he;generalize r.out=y at *;go_enter func194,ntmps194
  go_wp2;go_ret;exact⟨rfl,Below.refl _ _⟩
 ·have e1:(x==r.out)=false:=by simpa using he
  have HQ:Hid (r.twiceAt k=decide (x∈r.ins.take k)):=hid1 (by rw[HT.out];simp[he])
  rw[HQ.out];clear HT;generalize decide (x∈r.ins.take k)=d at *;generalize r.out=y at *;cases d with
  | true =>
   go_enter func194,ntmps194
   go_wp2_with fail;refine HC.out.mono ?_;rintro e w1 ⟨rfl,rfl⟩;go_wp2;go_ret;exact⟨rfl,Below.refl _ _⟩
  | false =>
   go_enter func194,ntmps194
   go_wp2_with fail;refine HC.out.mono ?_;rintro e w1 ⟨rfl,rfl⟩;go_wp2;go_ret;exact⟨rfl,Below.refl _ _⟩
theorem Ru.err_tail{r:Ru}(h1:pathB r.out=true)(h2:Af.actE r.kind r.word r.ins.length=0):r.err=if r.ins.all pathB=false then 4 else if r.twice=true then 7 else 0:=by
 unfold Ru.err;rw[if_neg (by rw[h1];simp),if_neg (by rw[h2];simp)]
theorem Zti(l:List (List UInt8)):Ru.firstC (fun k=>if pathB (l.getD k [])=false then 4 else 0) l.length=if l.all pathB=false then 4 else 0:=by
 cases h:l.all pathB with
 | true =>
  rw[Ru.firstC_none fun j hj=> ?_]
  ·rfl
  ·have:=List.all_eq_true.1 h l[j] (List.getElem_mem hj);rw[List.getD_eq_getElem?_getD,List.getElem?_eq_getElem hj,Option.getD_some,if_neg (by rw[this];simp)]
 | false =>
  rcases Ru.firstC_const (c:=fun k=>if pathB (l.getD k [])=false then 4 else 0) (n:=l.length) (d:=4) (fun j=>by split;exact .inr rfl;exact .inl rfl) with h0 | h0
  ·exfalso
   rw[List.all_eq_false]at h;obtain⟨x,hx,hp⟩:=h;obtain⟨j,hj,rfl⟩:=List.getElem_of_mem hx;have:=Ru.firstC_zero h0 j hj;rw[List.getD_eq_getElem?_getD,List.getElem?_eq_getElem hj,Option.getD_some]at this
   simp[hp]at this
  ·rw[h0];rfl
theorem Zth(r:Ru):Ru.firstC (fun k=>if r.twiceAt k=true then 7 else 0) r.ins.length=if r.twice=true then 7 else 0:=by
 cases h:r.twice with
 | true =>
  rcases Ru.firstC_const (c:=fun k=>if r.twiceAt k=true then 7 else 0) (n:=r.ins.length) (d:=7) (fun j=>by split;exact .inr rfl;exact .inl rfl) with h0 | h0
  ·exfalso
   obtain⟨j,hj,hp⟩:=Ru.twice_iff.1 h;have:=Ru.firstC_zero h0 j hj;simp[hp]at this
  ·rw[h0];rfl
 | false =>
  rw[Ru.firstC_none fun j hj=> ?_]
  ·rfl
  ·rw[if_neg];intro hp
   rw[Ru.twice_iff.2 ⟨j,hj,hp⟩]at h;cases h
theorem Zmp(hE:ES w es)(hA:AE w (erOf es))(r:Ru)(hS:r.Small)(v:Value)(hrow:XRow w v r.ins):
  Calls prog 156 #[ruV r v] w fun e w'=>e=.returned (erOf es r.err)/\Below w.heap.size w w':=by
 have hB0:Below w.heap.size w (w.alloc (.cells #[.string (ba r.out),.string (ba r.kind),.string (ba r.word),v] 73)):=(Below.refl _ w).alloc (Nat.le_refl _) _;have hR0:RuAt (w.alloc (.cells #[.string (ba r.out),.string (ba r.kind),.string (ba r.word),v] 73)) w.heap.size 0 r:=⟨by simp,by simp,by simp,v,by simp,hrow.below hB0⟩
 have s1:=hS.out;have s2:=hS.word;have s3:=hS.many;have HP:=hid1 fun W (hW:Below w.heap.size w W)=>Zlm (hE.below hW) r.out (by omega)
 have HK:=hid1 fun W (hW:Below w.heap.size w W)=>Yaz (hA.stays hW) r.kind r.word r.ins.length (by omega)
 have H1:=hid1 fun W (hW:Below w.heap.size w W)=>Zfk (es:=es) v r.ins (hrow.below hW) (by omega) 192 #[] (enters_of func192 (by kernel_rfl) rfl) (fun k=>if pathB (r.ins.getD k [])=false then 4 else 0)
  (hid1 fun k hk W' hW'=>by
   have:=Zkd (hE.below (Zac hW hW')) k r.ins[k] (Nat.le_trans (hS.ins _ (List.getElem_mem hk)) (by omega))
   rw[List.getD_eq_getElem?_getD,List.getElem?_eq_getElem hk,Option.getD_some]
   exact this)
 have H2:=hid1 fun W (hW:Below w.heap.size w W) (b:Nat) (hR:RuAt W b 0 r)=>Zfk (es:=es) v r.ins (hrow.below hW) (by omega) 194 #[.pointer (some ⟨b,0,none⟩)] (enters_of func194 (by kernel_rfl) rfl) (fun k=>if r.twiceAt k=true then 7 else 0)
  (hid1 fun k hk W' hW'=>Zkc (hE.below (Zac hW hW')) r b k hk (by omega) (hR.below hW'))
 have HB:=hid1 fun W (hW:Below w.heap.size w W) n c u (hT:Told W es n c u)=>Yar (hE.below hW) hT
 have HR:=hid1 hR0;have HEq:Hid (r.err=if pathB r.out=false then 4 else if Af.actE r.kind r.word r.ins.length≠0 then Af.actE r.kind r.word r.ins.length else if r.ins.all pathB=false then 4 else if r.twice=true then 7 else 0):=hid1 rfl
 obtain⟨p,cap,rfl,hcap,hnn,hin⟩:=hrow;clear hE hA hS hin hnn hR0;cases hp:pathB r.out with
 | false =>
  have HF:Hid (r.err=4):=hid1 (by rw[HEq.out,hp];rfl)
  rw[HF.out];rw[hp]at HP;simp only[erOf,if_true]at HP ⊢;go_enter func156,ntmps156
  go_wp2_with fail;refine(HP.out _ hB0).mono ?_;rintro e w1 ⟨rfl,hb⟩;have g1:=Zac hB0 hb;go_wp2;go_ret;exact⟨rfl,g1⟩
 | true =>
  rw[hp]at HP;simp only[erOf,Bool.true_eq_false,if_false]at HP;cases ha:Af.actE r.kind r.word r.ins.length with
  | succ m =>
   have HF:Hid (r.err=m+1):=hid1 (by rw[HEq.out,hp,ha];rfl)
   rw[HF.out];rw[ha]at HK;simp only[erOf]at HK ⊢;generalize r.ins.length=n at *;go_enter func156,ntmps156
   go_wp2_with fail;refine(HP.out _ hB0).mono ?_;rintro e w1 ⟨rfl,hb⟩;have g1:=Zac hB0 hb;have k1:=(hb.cell (p:=⟨w.heap.size,1,none⟩) (by simp)).trans (by simp;rfl)
   have k2:=(hb.cell (p:=⟨w.heap.size,2,none⟩) (by simp)).trans (by simp;rfl)
   have k3:=(hb.cell (p:=⟨w.heap.size,3,none⟩) (by simp)).trans (by simp;rfl)
   clear hb;go_wp2_with fail;refine(HK.out _ g1).mono ?_;rintro e w2 ⟨rfl,hb⟩;have g2:=Zac g1 hb;go_wp2;go_ret;exact⟨rfl,g2⟩
  | zero =>
   have HF:=hid1 (Ru.err_tail hp ha);rw[ha]at HK;simp only[erOf]at HK;have HFP:=hid1 (Zti r.ins);have HFT:=hid1 (Zth r);generalize (fun k=>if pathB (r.ins.getD k [])=false then 4 else 0)=cP at *
   generalize (fun k=>if r.twiceAt k=true then 7 else 0)=cT at *
   generalize r.ins.length=n at *;go_enter func156,ntmps156
   go_wp2_with fail;refine(HP.out _ hB0).mono ?_;rintro e w1 ⟨rfl,hb⟩;have g1:=Zac hB0 hb;have R1:=hid1 (HR.out.below hb);have k1:=(hb.cell (p:=⟨w.heap.size,1,none⟩) (by simp)).trans (by simp;rfl)
   have k2:=(hb.cell (p:=⟨w.heap.size,2,none⟩) (by simp)).trans (by simp;rfl)
   have k3:=(hb.cell (p:=⟨w.heap.size,3,none⟩) (by simp)).trans (by simp;rfl)
   clear hb;go_wp2_with fail;refine(HK.out _ g1).mono ?_;rintro e w2 ⟨rfl,hb⟩;have g2:=Zac g1 hb;have R2:=hid1 (R1.out.below hb);have q3:=Zaa k3 hb;clear hb k1 k2 k3 R1;go_wp2_with fail;refine(H1.out _ g2).mono ?_;rintro e w3 ⟨u,rfl,hb,ht⟩;have g3:=Zac g2 hb;have R3:=hid1 (R2.out.below hb);have T:=hid1 ht;have s3:=Zaa q3 hb;clear hb R2 q3
   rcases ht with ⟨hz,rfl⟩ | ⟨k,pb,hk,hc,h0,rfl,hx,hy⟩
   ·have HZ:=hid1 hz;clear hz;go_wp2_with fail;refine(H2.out _ g3 w.heap.size R3.out).mono ?_;rintro e w4 ⟨u,rfl,hb,ht⟩;have g4:=Zac g3 hb;have T4:=hid1 ht;clear ht hb;go_wp2_with fail;refine(HB.out _ g4 _ _ _ T4.out).mono ?_;rintro e w5 ⟨rfl,hb⟩;have g5:=Zac g4 hb;go_wp2;go_ret;refine⟨?_,g5⟩;have hP0:=HFP.out;rw[Ru.firstC_none HZ.out]at hP0;rw[HF.out,HFT.out]
    split at hP0
    ·cases hP0
    ·rename_i hne
     rw[if_neg hne];rfl
   ·have HK2:=hid1 (Ru.firstC_some hk hc h0);have HC2:=hid1 hc;clear hk hc h0 hx hy;go_wp2_with fail;refine(HB.out _ g3 _ _ _ T.out).mono ?_;rintro e w5 ⟨rfl,hb⟩;have g5:=Zac g3 hb;go_wp2;go_ret;refine⟨?_,g5⟩;have hP0:=HFP.out;rw[HK2.out]at hP0 ⊢;rw[HF.out];split at hP0
    ·rename_i hne
     rw[if_pos hne,hP0];rfl
    ·exact absurd hP0 HC2.out
end
namespace Tf
open Go.Lib
def pos(c:UInt8)(s:List UInt8):Nat:=s.findIdx (·==c)
def stop(ok:List UInt8->Bool):Fs->Fs->Nat
 | _,[]=>0
 | t,e::r=>if putCode ok t e.1 e.2=0 then stop ok (put t e.1 e.2) r else putCode ok t e.1 e.2
def numR(d:List UInt8):Option Nat:=if d.length<1\/4<d.length\/(1<d.length/\d[0]? =some 48) then none else Lib.decFrom 0 d
theorem Zjf:∀(n:Nat),1<=n->(Lib.decDigits n).head? ≠some 48
 | n,h1=>by
  rw[Lib.decDigits];split
  ·rename_i h
   simp only[List.head?_cons,ne_eq,Option.some.injEq];intro e
   have:=congrArg UInt8.toNat e;simp at this;omega
  ·rename_i h
   have ih:=Zjf (n/10) (by omega)
   have hne:=Yaj (n/10);cases hl:Lib.decDigits (n/10) with
   | nil=>exact absurd hl hne
   | cons b r=>rw[hl]at ih;simpa using ih
 termination_by n=>n
 decreasing_by omega
theorem Zqy(l:List UInt8)(c:UInt8)(acc m:Nat)(h:Lib.decFrom acc (l++[c])=some m):∃ n d,Lib.decFrom acc l=some n/\Lib.digitVal c=some d/\m=n*10+d:=by
 obtain⟨n,hn⟩:=Lib.decFrom_prefix _ acc m h l.length;rw[List.take_left']at hn
 ·obtain⟨d,hd⟩:=Lib.digit_of_decFrom _ acc m h l.length c (by simp)
  have:=Zeq l [c] acc n hn;rw[h,Ztl n d c hd]at this;exact⟨n,d,hn,hd,Option.some.inj this⟩
 ·rfl
theorem Zxh{c:UInt8}{d:Nat}(h:Lib.digitVal c=some d):UInt8.ofNat (48+d)=c/\d<10:=by
 obtain⟨h1,h2,h3⟩:=Lib.digitVal_eq h;refine⟨?_,by omega⟩
 rw[h3,show 48+(c.toNat - 48)=c.toNat by omega]
 simp
theorem Zqt:∀(n:Nat) (l:List UInt8) (m:Nat),l.length=n->l≠[]->l.head? ≠some 48->Lib.decFrom 0 l=some m->Lib.decDigits m=l/\1<=m
 | 0,l,m,hn,hne,_,_=>absurd (List.length_eq_zero_iff.1 hn) hne
 | n+1,l,m,hn,hne,hh,hm=>by
  have el:=(List.dropLast_concat_getLast hne).symm;generalize l.dropLast=l' at el;generalize l.getLast hne=c at el;subst el;obtain⟨k,d,hk,hd,rfl⟩:=Zqy l' c 0 m hm;obtain⟨hc,hd10⟩:=Zxh hd;by_cases hl:l'=[]
  ·subst hl;simp[Lib.decFrom]at hk;subst hk;have hc48:c≠48:=by simpa using hh
   have hd0:d≠0:=fun e=>hc48 (by rw[<- hc,e];rfl)
   rw[Lib.decDigits,dif_pos (by omega),show 0*10+d=d by omega,hc]
   exact⟨rfl,by omega⟩
  ·have hh':l'.head? ≠some 48:=by
    cases l' with
    | nil=>exact absurd rfl hl
    | cons b r=>simpa using hh
   obtain⟨h1,h2⟩:=Zqt n l' k (by simp at hn;omega) hl hh' hk
   rw[Lib.decDigits,dif_neg (by omega),show(k*10+d)/10=k by omega,show(k*10+d)%10=d by omega,h1,hc]
   exact⟨rfl,by omega⟩
theorem numT_numR(d:List UInt8):numT d=numR d:=by
 unfold numT numR;by_cases h4:4<d.length
 ·rw[if_pos h4,if_pos (by omega)]
 rw[if_neg h4];cases d with
 | nil=>simp[Lib.atoi]
 | cons b r =>
  have hno:Lib.digitVal b=none->Lib.decFrom 0 (b::r)=none:=fun h=>by simp[Lib.decFrom,h]
  have hright:Lib.decFrom 0 (b::r)=none->(if (b::r).length<1\/4<(b::r).length\/(1<(b::r).length/\(b::r)[0]? =some 48) then none else Lib.decFrom 0 (b::r))=none:=fun h=>by rw[h];split <;> rfl
  by_cases h45:b=45
  ·subst h45;rw[hright (hno (by decide))]
   have:∀ z,Lib.atoi (45::r)=some z->¬ (0<=z/\Lib.itoa z=45::r):=by
    rintro z hz ⟨h0,h1⟩;obtain⟨n,rfl⟩:=Int.eq_ofNat_of_zero_le h0;rw[Lib.itoa_nonneg]at h1;have:=Zds n 45 (by rw[h1];simp)
    simp at this
   cases ha:Lib.atoi (45::r) with
   | none=>rfl
   | some z=>simp only;rw[if_neg (this z ha)]
  by_cases h43:b=43
  ·subst h43;rw[hright (hno (by decide))]
   have:∀ z,Lib.atoi (43::r)=some z->¬ (0<=z/\Lib.itoa z=43::r):=by
    rintro z hz ⟨h0,h1⟩;obtain⟨n,rfl⟩:=Int.eq_ofNat_of_zero_le h0;rw[Lib.itoa_nonneg]at h1;have:=Zds n 43 (by rw[h1];simp)
    simp at this
   cases ha:Lib.atoi (43::r) with
   | none=>rfl
   | some z=>simp only;rw[if_neg (this z ha)]
  have ha:Lib.atoi (b::r)=(Lib.decFrom 0 (b::r)).map fun(m:Nat)=>(m:Int):=by
   have e1:(b==45)=false:=by simpa using h45
   have e2:(b==43)=false:=by simpa using h43
   simp[Lib.atoi,e1,e2,Lib.decNat]
  rw[ha];cases hd:Lib.decFrom 0 (b::r) with
  | none=>simp
  | some m =>
   simp only[Option.map_some];rw[Lib.itoa_nonneg];by_cases hz:1<(b::r).length/\(b::r)[0]? =some 48
   ·rw[if_pos (show(b::r).length<1\/4<(b::r).length\/(1<(b::r).length/\(b::r)[0]? =some 48) from .inr (.inr hz))]
    have hno2:¬ (0<=(m:Int)/\Lib.decDigits m=b::r):=by
     rintro⟨_,h1⟩;have hb:b=48:=by simpa using hz.2
     subst hb;by_cases hm:1<=m
     ·have:=Zjf m hm;rw[h1]at this;simp at this
     ·obtain rfl:m=0:=by omega
      rw[Lib.decDigits,dif_pos (by omega)]at h1
      have h2:=congrArg List.length h1;have h3:=hz.1;rw[<- h2]at h3;simp at h3
    rw[if_neg hno2]
   ·have hyes:0<=(m:Int)/\Lib.decDigits m=b::r:=by
     refine⟨by omega,?_⟩
     by_cases hb:b=48
     ·subst hb;have hr:r=[]:=by
       cases r with
       | nil=>rfl
       | cons x y=>exact absurd ⟨by simp,by simp⟩ hz
      subst hr;have e:Lib.decFrom 0 [48]=some 0:=by decide
      rw[e]at hd;cases hd
      rw[Lib.decDigits,dif_pos (by omega)]
      rfl
     ·exact(Zqt _ (b::r) m rfl (by simp) (by simpa using hb) hd).1
    rw[if_pos hyes,if_neg (show ¬ ((b::r).length<1\/4<(b::r).length\/(1<(b::r).length/\(b::r)[0]? =some 48)) from fun h=>by
     rcases h with h | h | h
     ·simp at h
     ·exact h4 h
     ·exact hz h)]
    simp
end Tf
section
open Go.RowKit Go.Shelf Go.Lib
def numR3(d:List UInt8):Option Nat:=if d.length<1\/3<d.length\/(1<d.length/\d[0]? =some 48) then none else Lib.decFrom 0 d
def numJ(d:List UInt8):Int:=match numR3 d with
 | some n=>(n:Int)
 | none=> -1
variable {d:List UInt8}
theorem Zss(h:d.length<1\/3<d.length\/(1<d.length/\d[0]? =some 48)):numJ d= -1:=by
 unfold numJ numR3;rw[if_pos h]
theorem Ybw(h:¬ (d.length<1\/3<d.length\/(1<d.length/\d[0]? =some 48))){n:Nat}(hd:Lib.decFrom 0 d=some n):numJ d=(n:Int):=by
 unfold numJ numR3;rw[if_neg h,hd]
theorem Ybx{k:Nat}(hk:k<d.length)(h:Lib.digitVal d[k]=none):numJ d= -1:=by
 unfold numJ numR3;split
 ·rename_i n hn
  split at hn
  ·cases hn
  ·obtain⟨x,hx⟩:=Lib.digit_of_decFrom d 0 n hn k d[k] (List.getElem?_eq_getElem hk);rw[h]at hx;cases hx
 ·rfl
theorem Zcg(d:List UInt8)(hd:d.length<=1000000)(w:World):
  Calls prog 171 #[.string (ba d),.int .i64 3] w fun e w'=>e=.returned (.int .i64 (numJ d))/\w'=w:=by
 obtain⟨bs,eb,T⟩:=txt d;rw[eb];clear eb;have hsz:(bs.size:Int)<=1000000:=by rw[T.size];omega
 by_cases h1:d.length<1
 ·rw[Zss (.inl h1)];have z1:(bs.size:Int)<1:=by rw[T.size];omega
  clear T h1;go_enter func171,ntmps171
  go_wp2;go_ret;exact⟨rfl,rfl⟩
 by_cases h4:3<d.length
 ·rw[Zss (.inr (.inl h4))];have z1:(1:Int)<=(bs.size:Int):=by rw[T.size];omega
  have z4:(3:Int)<(bs.size:Int):=by rw[T.size];omega
  clear T h1 h4;go_enter func171,ntmps171
  go_wp2;go_ret;exact⟨rfl,rfl⟩
 have z1:(1:Int)<=(bs.size:Int):=by rw[T.size];omega
 have z4:(bs.size:Int)<=3:=by rw[T.size];omega
 have n0:0<bs.size:=by rw[T.size];omega
 have hg0:=T.get 0 (by omega) n0
 by_cases h0:1<d.length/\d[0]? =some 48
 ·rw[Zss (.inr (.inr h0))];have z2:(1:Int)<(bs.size:Int):=by rw[T.size];omega
  have hb:bs[0]=48:=by
   rw[hg0];have:=h0.2;rw[List.getElem?_eq_getElem (by omega)]at this
   exact Option.some.inj this
  clear T h1 h4 h0 hg0;go_enter func171,ntmps171
  go_wp2;go_ret;exact⟨rfl,rfl⟩
 have hcond:¬ (d.length<1\/3<d.length\/(1<d.length/\d[0]? =some 48)):=by rintro(h | h | h);exact h1 h;exact h4 h;exact h0 h
 have hz:(1:Int)<(bs.size:Int)->((bs[0].toNat:Int)==48)=false:=fun h=>by
  rw[T.size]at h;cases hq:((bs[0].toNat:Int)==48) with
  | false=>rfl
  | true =>
   exfalso
   refine h0 ⟨by omega,?_⟩
   rw[List.getElem?_eq_getElem (by omega)]
   have:=eq_of_beq hq;rw[hg0]at this;congr 1
   exact UInt8.toNat_inj.1 (by simp;omega)
 have HZ:Hid ((1:Int)<(bs.size:Int)->((bs[0].toNat:Int)==48)=false):=hz;have HC:Hid (¬ (d.length<1\/3<d.length\/(1<d.length/\d[0]? =some 48))):=hcond;obtain⟨res,hres⟩:∃ res,numJ d=res:=⟨_,rfl⟩
 have HR:Hid (numJ d=res):=hres;rw[hres];clear hz hcond hres h0;clear hg0 h1 h4;go_enter func171,ntmps171
 by_cases hone:(1:Int)<(bs.size:Int)
 all_goals
  (try have hb0:=HZ.out hone)
  go_wp2;go_loopw [5,6] (fun n i wr=>∃(k m:Nat),k<=d.length/\i=.int .i64 k/\n=.int .i64 m/\Lib.decFrom 0 (d.take k)=some m/\m<10000/\wr=w) (fun _ i _=>d.length - (intOf i).toNat)
  case atStart=>exact⟨0,0,by omega,rfl,rfl,rfl,by omega,rfl⟩
  case round =>
   obtain⟨k,m,hk,rfl,rfl,hdec,hm,rfl⟩:=hrel;have HD:Hid (Lib.decFrom 0 (d.take k)=some m):=hdec;clear hdec;by_cases hlt:k<d.length
   ·have hlt2:k<bs.size:=by rw[T.size];exact hlt
    have c1:(k:Int)<(bs.size:Int):=by rw[T.size];omega
    have c0:(0:Int)<=(k:Int):=by omega
    have hget:=T.get k hlt hlt2;have hbad:∀(_:¬ (48<=bs[k].toNat/\bs[k].toNat<=57)),res= -1:=fun h=>by
     rw[<- HR.out];refine Ybx hlt ?_;unfold Lib.digitVal;rw[<- hget,if_neg h]
    by_cases hlo:48<=bs[k].toNat
    ·by_cases hhi:bs[k].toNat<=57
     ·have hdig:Lib.digitVal d[k]=some (bs[k].toNat - 48):=by
       unfold Lib.digitVal;rw[<- hget,if_pos ⟨hlo,hhi⟩]
      have hnext:=Lib.decFrom_take d k 0 m d[k] _ HD.out (List.getElem?_eq_getElem hlt) hdig;have hsmall:m*10+(bs[k].toNat - 48)<10000:=by
       have h1:=Lib.decFrom_lt _ 0 _ hnext;have h2:10 ^ (d.take (k+1)).length<=10 ^ 4:=Nat.pow_le_pow_right (by omega) (by rw[List.length_take,<- T.size];omega)
       omega
      have HN:Hid (Lib.decFrom 0 (d.take (k+1))=some (m*10+(bs[k].toNat - 48))):=hnext;clear hnext hdig hbad hget;have y1:(48:Int)<=(bs[k].toNat:Int):=by omega
      have y2:(bs[k].toNat:Int)<=57:=by omega
      go_wp2;go_roundw
      case rel=>exact⟨k+1,m*10+(bs[k].toNat - 48),by omega,by go_num,by go_num,HN.out,hsmall,by first | rfl | trivial⟩
      case measure=>simp[intOf];omega
     ·have e:=hbad (by omega)
      have y2:(57:Int)<(bs[k].toNat:Int):=by omega
      have y1:(48:Int)<=(bs[k].toNat:Int):=by omega
      clear hbad hget;go_wp2;go_ret;exact⟨by rw[e];rfl,rfl⟩
    ·have e:=hbad (by omega)
     have y1:(bs[k].toNat:Int)<48:=by omega
     clear hbad hget;go_wp2;go_ret;exact⟨by rw[e];rfl,rfl⟩
   ·have c1:(bs.size:Int)<=(k:Int):=by rw[T.size];omega
    obtain rfl:k=d.length:=by omega
    have e:res=(m:Int):=by
     have:=HD.out;rw[List.take_length]at this;rw[<- HR.out,Ybw HC.out this]
    go_wp2;go_ret;exact⟨by rw[e];rfl,rfl⟩
theorem Zlo(d:List UInt8):numM 3 d=numR3 d:=by
 by_cases h:3<d.length
 ·unfold numM numR3;rw[if_pos h,if_pos (.inr (.inl h))]
 ·have e1:numM 3 d=numM 4 d:=by
   unfold numM;rw[if_neg h,if_neg (by omega)]
  have e2:Tf.numR d=numR3 d:=by
   unfold Tf.numR numR3;by_cases hc:d.length<1\/(1<d.length/\d[0]? =some 48)
   ·rw[if_pos (by rcases hc with hc | hc;exact .inl hc;exact .inr (.inr hc)),if_pos (by rcases hc with hc | hc;exact .inl hc;exact .inr (.inr hc))]
   ·rw[if_neg (by rintro(hh | hh | hh);exact hc (.inl hh);omega;exact hc (.inr hh)),if_neg (by rintro(hh | hh | hh);exact hc (.inl hh);exact h hh;exact hc (.inr hh))]
  rw[e1,<- Zzc,Tf.numT_numR,e2]
theorem Zzd(d:List UInt8):decide ((0:Int)<=numJ d)=(numM 3 d).isSome:=by
 rw[Zlo];unfold numJ;cases numR3 d with
 | none=>rfl
 | some n=>simp
open Af (Kd)
theorem Zlv(wd:List UInt8):Af.isSwap wd=(decide ((cutB 61 wd).length=2)&& !(wd.head? ==some 61)):=by
 unfold Af.isSwap Lib.cut;rw[Lib.index_one];by_cases h:Lib.indexByte wd 61= -1
 ·have hc:=Zct 61 wd h;rw[h,hc];simp
 ·have hge:=Lib.indexByte_ge wd 61;obtain⟨i,hi⟩:∃ i:Nat,Lib.indexByte wd 61=(i:Int):=⟨(Lib.indexByte wd 61).toNat,by omega⟩
  obtain⟨e1,e2⟩:=Zcs 61 wd i hi;obtain⟨hs1,hs2⟩:=Lib.indexByte_some hi;rw[hi,e1];simp only[Int.natCast_nonneg,if_true,Int.toNat_natCast,List.length_cons,List.length_nil,Nat.zero_add,Bool.true_and];have hlen:decide ((cutB 61 (wd.drop (i+1))).length+1=2)= !(Lib.contains (wd.drop (i+1)) [61]):=by
   unfold Lib.contains;rw[Lib.index_one];by_cases h2:Lib.indexByte (wd.drop (i+1)) 61= -1
   ·rw[Zct 61 _ h2,h2];rfl
   ·have hge2:=Lib.indexByte_ge (wd.drop (i+1)) 61;obtain⟨j,hj⟩:∃ j:Nat,Lib.indexByte (wd.drop (i+1)) 61=(j:Int):=⟨(Lib.indexByte (wd.drop (i+1)) 61).toNat,by omega⟩
    obtain⟨f1,_⟩:=Zcs 61 _ j hj;have hne:=Zjg 61 ((wd.drop (i+1)).drop (j+1));have h0:0<(cutB 61 ((wd.drop (i+1)).drop (j+1))).length:=List.length_pos_iff.2 hne;have hx:¬ ((cutB 61 ((wd.drop (i+1)).drop (j+1))).length+1+1=2):=by omega
    rw[f1,hj,List.length_cons,decide_eq_false hx,decide_eq_true (show(0:Int)<=(j:Int) by omega)]
    rfl
  have hhead:(wd.take i).isEmpty=(wd.head? ==some 61):=by
   cases wd with
   | nil=>simp at e2
   | cons c r =>
    cases i with
    | zero =>
     have:c=61:=by simpa using hs1
     simp[this]
    | succ i =>
     have:=hs2 0 (by omega)
     have hc:c≠61:=by simpa using this
     simp[hc]
  rw[hlen,hhead,Bool.and_comm]
theorem Zko(wd:List UInt8)(n:Int)(hl:wd.length<=1000000)(w:World):
  Calls prog 131 #[.string ⟨#[119,114,105,116,101]⟩,.string (ba wd),.int .i64 n] w fun e w'=>e=.returned (.int .i64 (if n<0\/(0:Int)<n\/true=false then 3 else if 100<wd.length then 10 else 0))/\Below w.heap.size w w':=by
 generalize hr:(if n<0\/(0:Int)<n\/true=false then (3:Int) else if 100<wd.length then 10 else 0)=r
 have HR:=hid1 hr;clear hr;go_enter func131,ntmps131
 go_wp2
 all_goals go_ret
 all_goals exact⟨ret_eq (by rw[<- HR.out];first | (rw[if_pos (by first | omega | simp)];rfl) | (rw[if_neg (by simp;omega),if_pos (by omega)];rfl) | (rw[if_neg (by simp;omega),if_neg (by omega)];rfl)),Below.refl _ _⟩
theorem Znz(wd:List UInt8)(n:Int)(hl:wd.length<=1000000)(w:World):
  Calls prog 131 #[.string ⟨#[106,111,105,110]⟩,.string (ba wd),.int .i64 n] w fun e w'=>e=.returned (.int .i64 (if n<1\/(8:Int)<n\/true=false then 3 else if 100<wd.length then 10 else 0))/\Below w.heap.size w w':=by
 generalize hr:(if n<1\/(8:Int)<n\/true=false then (3:Int) else if 100<wd.length then 10 else 0)=r
 have HR:=hid1 hr;clear hr;go_enter func131,ntmps131
 go_wp2
 all_goals go_ret
 all_goals exact⟨ret_eq (by rw[<- HR.out];first | (rw[if_pos (by first | omega | simp)];rfl) | (rw[if_neg (by simp;omega),if_pos (by omega)];rfl) | (rw[if_neg (by simp;omega),if_neg (by omega)];rfl)),Below.refl _ _⟩
theorem Zkr(wd:List UInt8)(n:Int)(hl:wd.length<=1000000)(w:World):
  Calls prog 131 #[.string ⟨#[108,105,110,101,115]⟩,.string (ba wd),.int .i64 n] w fun e w'=>e=.returned (.int .i64 (if n<1\/(1:Int)<n\/true=false then 3 else if 100<wd.length then 10 else 0))/\Below w.heap.size w w':=by
 generalize hr:(if n<1\/(1:Int)<n\/true=false then (3:Int) else if 100<wd.length then 10 else 0)=r
 have HR:=hid1 hr;clear hr;go_enter func131,ntmps131
 go_wp2
 all_goals go_ret
 all_goals exact⟨ret_eq (by rw[<- HR.out];first | (rw[if_pos (by first | omega | simp)];rfl) | (rw[if_neg (by simp;omega),if_pos (by omega)];rfl) | (rw[if_neg (by simp;omega),if_neg (by omega)];rfl)),Below.refl _ _⟩
theorem Zkp(wd:List UInt8)(n:Int)(hl:wd.length<=1000000)(w:World)(he:wd=[]):
  Calls prog 131 #[.string ⟨#[117,112,112,101,114]⟩,.string (ba wd),.int .i64 n] w fun e w'=>e=.returned (.int .i64 (if n<1\/(1:Int)<n\/true=false then 3 else if 100<wd.length then 10 else 0))/\Below w.heap.size w w':=by
 have q0:wd.isEmpty=true:=by rw[he];rfl
 clear he;generalize hr:(if n<1\/(1:Int)<n\/true=false then (3:Int) else if 100<wd.length then 10 else 0)=r
 have HR:=hid1 hr;clear hr;go_enter func131,ntmps131
 go_wp2
 all_goals go_ret
 all_goals exact⟨ret_eq (by rw[<- HR.out];first | (rw[if_pos (by first | omega | simp)];rfl) | (rw[if_neg (by simp;omega),if_pos (by omega)];rfl) | (rw[if_neg (by simp;omega),if_neg (by omega)];rfl)),Below.refl _ _⟩
theorem Zkq(wd:List UInt8)(n:Int)(_:wd.length<=1000000)(w:World)(he:wd≠[]):
  Calls prog 131 #[.string ⟨#[117,112,112,101,114]⟩,.string (ba wd),.int .i64 n] w fun e w'=>e=.returned (.int .i64 (if n<1\/(1:Int)<n\/false=false then 3 else if 100<wd.length then 10 else 0))/\Below w.heap.size w w':=by
 have q0:wd.isEmpty=false:=Zcr he;generalize hr:(if n<1\/(1:Int)<n\/false=false then (3:Int) else if 100<wd.length then 10 else 0)=r
 have HR:=hid1 hr;clear hr;go_enter func131,ntmps131
 go_wp2
 all_goals go_ret
 all_goals exact⟨ret_eq (by rw[<- HR.out];first | (rw[if_pos (by first | omega | simp)];rfl) | (rw[if_neg (by simp;omega),if_pos (by omega)];rfl) | (rw[if_neg (by simp;omega),if_neg (by omega)];rfl)),Below.refl _ _⟩
theorem Zks(wd:List UInt8)(n:Int)(hl:wd.length<=1000000)(w:World)(he:wd=[]):
  Calls prog 131 #[.string ⟨#[99,111,117,110,116]⟩,.string (ba wd),.int .i64 n] w fun e w'=>e=.returned (.int .i64 (if n<1\/(8:Int)<n\/true=false then 3 else if 100<wd.length then 10 else 0))/\Below w.heap.size w w':=by
 have q0:wd.isEmpty=true:=by rw[he];rfl
 clear he;generalize hr:(if n<1\/(8:Int)<n\/true=false then (3:Int) else if 100<wd.length then 10 else 0)=r
 have HR:=hid1 hr;clear hr;go_enter func131,ntmps131
 go_wp2
 all_goals go_ret
 all_goals exact⟨ret_eq (by rw[<- HR.out];first | (rw[if_pos (by first | omega | simp)];rfl) | (rw[if_neg (by simp;omega),if_pos (by omega)];rfl) | (rw[if_neg (by simp;omega),if_neg (by omega)];rfl)),Below.refl _ _⟩
theorem Zkt(wd:List UInt8)(n:Int)(_:wd.length<=1000000)(w:World)(he:wd≠[]):
  Calls prog 131 #[.string ⟨#[99,111,117,110,116]⟩,.string (ba wd),.int .i64 n] w fun e w'=>e=.returned (.int .i64 (if n<1\/(8:Int)<n\/false=false then 3 else if 100<wd.length then 10 else 0))/\Below w.heap.size w w':=by
 have q0:wd.isEmpty=false:=Zcr he;generalize hr:(if n<1\/(8:Int)<n\/false=false then (3:Int) else if 100<wd.length then 10 else 0)=r
 have HR:=hid1 hr;clear hr;go_enter func131,ntmps131
 go_wp2
 all_goals go_ret
 all_goals exact⟨ret_eq (by rw[<- HR.out];first | (rw[if_pos (by first | omega | simp)];rfl) | (rw[if_neg (by simp;omega),if_pos (by omega)];rfl) | (rw[if_neg (by simp;omega),if_neg (by omega)];rfl)),Below.refl _ _⟩
theorem Znw(wd:List UInt8)(n:Int)(hl:wd.length<=1000000)(w:World)(he:wd=[]):
  Calls prog 131 #[.string ⟨#[115,111,114,116]⟩,.string (ba wd),.int .i64 n] w fun e w'=>e=.returned (.int .i64 (if n<1\/(8:Int)<n\/true=false then 3 else if 100<wd.length then 10 else 0))/\Below w.heap.size w w':=by
 have q0:wd.isEmpty=true:=by rw[he];rfl
 clear he;generalize hr:(if n<1\/(8:Int)<n\/true=false then (3:Int) else if 100<wd.length then 10 else 0)=r
 have HR:=hid1 hr;clear hr;go_enter func131,ntmps131
 go_wp2
 all_goals go_ret
 all_goals exact⟨ret_eq (by rw[<- HR.out];first | (rw[if_pos (by first | omega | simp)];rfl) | (rw[if_neg (by simp;omega),if_pos (by omega)];rfl) | (rw[if_neg (by simp;omega),if_neg (by omega)];rfl)),Below.refl _ _⟩
theorem Znx(wd:List UInt8)(n:Int)(hl:wd.length<=1000000)(w:World)(he:wd=oncew):
  Calls prog 131 #[.string ⟨#[115,111,114,116]⟩,.string (ba wd),.int .i64 n] w fun e w'=>e=.returned (.int .i64 (if n<1\/(8:Int)<n\/true=false then 3 else if 100<wd.length then 10 else 0))/\Below w.heap.size w w':=by
 have q0:wd.isEmpty=false:=by rw[he];rfl
 have q1:(wd==[111,110,99,101])=true:=by rw[he];rfl
 clear he;generalize hr:(if n<1\/(8:Int)<n\/true=false then (3:Int) else if 100<wd.length then 10 else 0)=r
 have HR:=hid1 hr;clear hr;go_enter func131,ntmps131
 go_wp2
 all_goals go_ret
 all_goals exact⟨ret_eq (by rw[<- HR.out];first | (rw[if_pos (by first | omega | simp)];rfl) | (rw[if_neg (by simp;omega),if_pos (by omega)];rfl) | (rw[if_neg (by simp;omega),if_neg (by omega)];rfl)),Below.refl _ _⟩
theorem Zny(wd:List UInt8)(n:Int)(_:wd.length<=1000000)(w:World)(he:wd≠[])(ho:wd≠oncew):
  Calls prog 131 #[.string ⟨#[115,111,114,116]⟩,.string (ba wd),.int .i64 n] w fun e w'=>e=.returned (.int .i64 (if n<1\/(8:Int)<n\/false=false then 3 else if 100<wd.length then 10 else 0))/\Below w.heap.size w w':=by
 have q0:wd.isEmpty=false:=Zcr he;have q1:(wd==[111,110,99,101])=false:=by simpa using ho
 generalize hr:(if n<1\/(8:Int)<n\/false=false then (3:Int) else if 100<wd.length then 10 else 0)=r
 have HR:=hid1 hr;clear hr;go_enter func131,ntmps131
 go_wp2
 all_goals go_ret
 all_goals exact⟨ret_eq (by rw[<- HR.out];first | (rw[if_pos (by first | omega | simp)];rfl) | (rw[if_neg (by simp;omega),if_pos (by omega)];rfl) | (rw[if_neg (by simp;omega),if_neg (by omega)];rfl)),Below.refl _ _⟩
theorem Zoa(wd:List UInt8)(n:Int)(hl:wd.length<=1000000)(w:World)(he:decide ((0:Int)<=numJ wd)=true):
  Calls prog 131 #[.string ⟨#[104,101,97,100]⟩,.string (ba wd),.int .i64 n] w fun e w'=>e=.returned (.int .i64 (if n<1\/(1:Int)<n\/true=false then 3 else if 100<wd.length then 10 else 0))/\Below w.heap.size w w':=by
 have HC:=hid1 (Zcg wd hl w);generalize numJ wd=nj at *;generalize hr:(if n<1\/(1:Int)<n\/true=false then (3:Int) else if 100<wd.length then 10 else 0)=r
 have HR:=hid1 hr;clear hr;go_enter func131,ntmps131
 go_wp2_with fail;refine Calls.mono HC.out ?_;rintro e w1 ⟨rfl,rfl⟩;go_wp2
 all_goals go_ret
 all_goals exact⟨ret_eq (by rw[<- HR.out];first | (rw[if_pos (by first | omega | simp)];rfl) | (rw[if_neg (by simp;omega),if_pos (by omega)];rfl) | (rw[if_neg (by simp;omega),if_neg (by omega)];rfl)),Below.refl _ _⟩
theorem Zob(wd:List UInt8)(n:Int)(hl:wd.length<=1000000)(w:World)(he:decide ((0:Int)<=numJ wd)=false):
  Calls prog 131 #[.string ⟨#[104,101,97,100]⟩,.string (ba wd),.int .i64 n] w fun e w'=>e=.returned (.int .i64 (if n<1\/(1:Int)<n\/false=false then 3 else if 100<wd.length then 10 else 0))/\Below w.heap.size w w':=by
 have HC:=hid1 (Zcg wd hl w);generalize numJ wd=nj at *;generalize hr:(if n<1\/(1:Int)<n\/false=false then (3:Int) else if 100<wd.length then 10 else 0)=r
 have HR:=hid1 hr;clear hr;go_enter func131,ntmps131
 go_wp2_with fail;refine Calls.mono HC.out ?_;rintro e w1 ⟨rfl,rfl⟩;go_wp2
 all_goals go_ret
 all_goals exact⟨ret_eq (by rw[<- HR.out];first | (rw[if_pos (by first | omega | simp)];rfl) | (rw[if_neg (by simp;omega),if_pos (by omega)];rfl) | (rw[if_neg (by simp;omega),if_neg (by omega)];rfl)),Below.refl _ _⟩
theorem Znu(wd:List UInt8)(n:Int)(hl:wd.length<=1000000)(w:World)(he:(cutB 61 wd).length≠2):
  Calls prog 131 #[.string ⟨#[115,119,97,112]⟩,.string (ba wd),.int .i64 n] w fun e w'=>e=.returned (.int .i64 (if n<1\/(1:Int)<n\/false=false then 3 else if 100<wd.length then 10 else 0))/\Below w.heap.size w w':=by
 have HC:Hid (Calls prog 58 #[.string (ba wd),.int .u8 61] w fun e w'=>∃ p c,e=.returned (.slice p (cutB 61 wd).length c)/\Below w.heap.size w w'):=by
  refine hid1 ((Zbd wd hl 61 61 rfl w).mono ?_);rintro e w' ⟨v,rfl,ho,hb⟩;obtain⟨p,c,rfl,_,_⟩:=TRow.of_owns ho;exact⟨p,c,rfl,hb⟩
 generalize (cutB 61 wd).length=nc at *;have q0:((nc:Int)==2)=false:=by
  rw[beq_eq_false_iff_ne];omega
 generalize hr:(if n<1\/(1:Int)<n\/false=false then (3:Int) else if 100<wd.length then 10 else 0)=r
 have HR:=hid1 hr;clear hr;go_enter func131,ntmps131
 go_wp2_with fail;refine Calls.mono HC.out ?_;rintro e w1 ⟨p,c,rfl,g1⟩;go_wp2
 all_goals go_ret
 all_goals exact⟨ret_eq (by rw[<- HR.out];first | (rw[if_pos (by first | omega | simp)];rfl) | (rw[if_neg (by simp;omega),if_pos (by omega)];rfl) | (rw[if_neg (by simp;omega),if_neg (by omega)];rfl)),g1⟩
theorem Znv(wd:List UInt8)(n:Int)(hl:wd.length<=1000000)(w:World)(he:(cutB 61 wd).length=2)(hh:wd.head? =some 61):
  Calls prog 131 #[.string ⟨#[115,119,97,112]⟩,.string (ba wd),.int .i64 n] w fun e w'=>e=.returned (.int .i64 (if n<1\/(1:Int)<n\/false=false then 3 else if 100<wd.length then 10 else 0))/\Below w.heap.size w w':=by
 have HC:Hid (Calls prog 58 #[.string (ba wd),.int .u8 61] w fun e w'=>∃ p c,e=.returned (.slice p (cutB 61 wd).length c)/\Below w.heap.size w w'):=by
  refine hid1 ((Zbd wd hl 61 61 rfl w).mono ?_);rintro e w' ⟨v,rfl,ho,hb⟩;obtain⟨p,c,rfl,_,_⟩:=TRow.of_owns ho;exact⟨p,c,rfl,hb⟩
 have hcl:=Zee 61 wd;have hlen0:0<wd.length:=by omega
 generalize (cutB 61 wd).length=nc at *;obtain⟨bs,eb,T⟩:=txt wd;rw[eb]at HC ⊢;clear eb;have n0:0<bs.size:=by rw[T.size];exact hlen0
 have hg0:=T.get 0 hlen0 n0;have q2:((bs[0].toNat:Int)==61)=true:=by
  rw[hg0];have:wd[0]=61:=by
   rw[List.head?_eq_getElem?,List.getElem?_eq_getElem hlen0]at hh
   exact Option.some.inj hh
  rw[this];rfl
 have q3:((bs[0].toNat:Int) !=61)=false:=by rw[bne,q2];rfl
 clear hg0;generalize hr:(if n<1\/(1:Int)<n\/false=false then (3:Int) else if 100<wd.length then 10 else 0)=r
 have HR:=hid1 hr;clear hr;go_enter func131,ntmps131
 go_wp2_with fail;refine Calls.mono HC.out ?_;rintro e w1 ⟨p,c,rfl,g1⟩;go_wp2
 all_goals go_ret
 all_goals exact⟨ret_eq (by rw[<- HR.out];first | (rw[if_pos (by first | omega | simp)];rfl) | (rw[if_neg (by simp;omega),if_pos (by omega)];rfl) | (rw[if_neg (by simp;omega),if_neg (by omega)];rfl)),g1⟩
theorem Znt(wd:List UInt8)(n:Int)(hl:wd.length<=1000000)(w:World)(he:(cutB 61 wd).length=2)(hh:wd.head? ≠some 61):
  Calls prog 131 #[.string ⟨#[115,119,97,112]⟩,.string (ba wd),.int .i64 n] w fun e w'=>e=.returned (.int .i64 (if n<1\/(1:Int)<n\/true=false then 3 else if 100<wd.length then 10 else 0))/\Below w.heap.size w w':=by
 have HC:Hid (Calls prog 58 #[.string (ba wd),.int .u8 61] w fun e w'=>∃ p c,e=.returned (.slice p (cutB 61 wd).length c)/\Below w.heap.size w w'):=by
  refine hid1 ((Zbd wd hl 61 61 rfl w).mono ?_);rintro e w' ⟨v,rfl,ho,hb⟩;obtain⟨p,c,rfl,_,_⟩:=TRow.of_owns ho;exact⟨p,c,rfl,hb⟩
 have hcl:=Zee 61 wd;have hlen0:0<wd.length:=by omega
 generalize (cutB 61 wd).length=nc at *;obtain⟨bs,eb,T⟩:=txt wd;rw[eb]at HC ⊢;clear eb;have n0:0<bs.size:=by rw[T.size];exact hlen0
 have hg0:=T.get 0 hlen0 n0;have q2:((bs[0].toNat:Int)==61)=false:=by
  rw[hg0,beq_eq_false_iff_ne];intro e
  refine hh ?_;rw[List.head?_eq_getElem?,List.getElem?_eq_getElem hlen0,UInt8.toNat_inj.1 (show wd[0].toNat=(61:UInt8).toNat by show _=61;omega)]
 have q3:((bs[0].toNat:Int) !=61)=true:=by rw[bne,q2];rfl
 clear hg0;generalize hr:(if n<1\/(1:Int)<n\/true=false then (3:Int) else if 100<wd.length then 10 else 0)=r
 have HR:=hid1 hr;clear hr;go_enter func131,ntmps131
 go_wp2_with fail;refine Calls.mono HC.out ?_;rintro e w1 ⟨p,c,rfl,g1⟩;go_wp2
 all_goals go_ret
 all_goals exact⟨ret_eq (by have:=T.size;rw[<- HR.out];first | (rw[if_pos (by first | omega | simp)];rfl) | (rw[if_neg (by simp;omega),if_pos (by omega)];rfl) | (rw[if_neg (by simp;omega),if_neg (by omega)];rfl)),g1⟩
open Af (Kd)
theorem Zat{nm:List UInt8}(h:Af.kindOf nm=none)(k:Kd):(nm==k.name)=false:=by
 rw[beq_eq_false_iff_ne];rintro rfl;rw[Af.kindOf_name]at h;cases h
theorem Zty(nm wd:List UInt8)(n:Int)(w:World)(h:Af.kindOf nm=none):
  Calls prog 131 #[.string (ba nm),.string (ba wd),.int .i64 n] w fun e w'=>e=.returned (.int .i64 5)/\Below w.heap.size w w':=by
 have h1:=Zat h .write;have h2:=Zat h .join;have h3:=Zat h .upper;have h4:=Zat h .lines;have h5:=Zat h .sort;have h6:=Zat h .count;have h7:=Zat h .swap;have h8:=Zat h .head;simp only[Af.Kd.name]at h1 h2 h3 h4 h5 h6 h7 h8;clear h;go_enter func131,ntmps131
 go_wp2;go_ret;exact⟨rfl,Below.refl _ _⟩
theorem Zrk(k:Kd)(wd:List UInt8)(n:Int):Af.actE k.name wd n=(if n<k.least\/(k.most:Int)<n\/k.takes wd=false then 3 else if 100<wd.length then 10 else 0):=by
 simp[Af.actE,Af.kindOf_name]
theorem as_nat(p q:Prop)[Decidable p][Decidable q]:(if p then (3:Int) else if q then 10 else 0)=((if p then 3 else if q then 10 else 0:Nat):Int):=by
 split
 ·rfl
 ·split <;> rfl
theorem Zet(nm wd:List UInt8)(n:Int)(hl:wd.length<=1000000)(w:World):
  Calls prog 131 #[.string (ba nm),.string (ba wd),.int .i64 n] w fun e w'=>e=.returned (.int .i64 (Af.actE nm wd n:Nat))/\Below w.heap.size w w':=by
 cases hk:Af.kindOf nm with
 | none =>
  have e:Af.actE nm wd n=5:=by simp[Af.actE,hk]
  rw[e];exact Zty nm wd n w hk
 | some k =>
  obtain rfl:=Af.kindOf_some hk;rw[Zrk];have key:∀(b:Bool) (lo hi:Int),k.takes wd=b->(k.least:Int)=lo->(k.most:Int)=hi ->
    (Calls prog 131 #[.string (ba k.name),.string (ba wd),.int .i64 n] w fun e w'=>e=.returned (.int .i64 (if n<lo\/hi<n\/b=false then 3 else if 100<wd.length then 10 else 0))/\Below w.heap.size w w') ->
    Calls prog 131 #[.string (ba k.name),.string (ba wd),.int .i64 n] w fun e w'=>e=.returned (.int .i64 ((if n<k.least\/(k.most:Int)<n\/k.takes wd=false then 3 else if 100<wd.length then 10 else 0:Nat):Int))/\Below w.heap.size w w':=by
   intro b lo hi e1 e2 e3 H
   rw[e1,e2,e3,<- as_nat];exact H
  cases k
  ·exact key true 0 0 rfl rfl rfl (Zko wd n hl w)
  ·exact key true 1 8 rfl rfl rfl (Znz wd n hl w)
  ·by_cases he:wd=[]
   ·exact key true 1 1 (by subst he;rfl) rfl rfl (Zkp wd n hl w he)
   ·exact key false 1 1 (by simp[Af.Kd.takes,he]) rfl rfl (Zkq wd n hl w he)
  ·exact key true 1 1 rfl rfl rfl (Zkr wd n hl w)
  ·by_cases he:wd=[]
   ·exact key true 1 8 (by subst he;rfl) rfl rfl (Znw wd n hl w he)
   ·by_cases ho:wd=oncew
    ·exact key true 1 8 (by subst ho;rfl) rfl rfl (Znx wd n hl w ho)
    ·exact key false 1 8 (by simp[Af.Kd.takes,he,ho]) rfl rfl (Zny wd n hl w he ho)
  ·by_cases he:wd=[]
   ·exact key true 1 8 (by subst he;rfl) rfl rfl (Zks wd n hl w he)
   ·exact key false 1 8 (by simp[Af.Kd.takes,he]) rfl rfl (Zkt wd n hl w he)
  ·have hs:=Zlv wd;by_cases he:(cutB 61 wd).length=2
   ·by_cases hh:wd.head? =some 61
    ·exact key false 1 1 (by show Af.isSwap wd=false;rw[hs,he,hh];rfl) rfl rfl (Znv wd n hl w he hh)
    ·exact key true 1 1 (by show Af.isSwap wd=true;rw[hs];simp[he,hh]) rfl rfl (Znt wd n hl w he hh)
   ·exact key false 1 1 (by show Af.isSwap wd=false;rw[hs];simp[he]) rfl rfl (Znu wd n hl w he)
  ·have hm:=Zzd wd;cases hd:decide ((0:Int)<=numJ wd) with
   | true=>exact key true 1 1 (by show(numM 3 wd).isSome=true;rw[<- hm];exact hd) rfl rfl (Zoa wd n hl w hd)
   | false=>exact key false 1 1 (by show(numM 3 wd).isSome=false;rw[<- hm];exact hd) rfl rfl (Zob wd n hl w hd)
end
