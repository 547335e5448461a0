import Derived.Test.YtcplmkhclckagaaGreatDoorPR46
set_option maxRecDepth 100000
set_option maxHeartbeats 64000000
open Go.Proofs.Tryz
namespace Go.Proofs.YtcplmkhclckagaaGreatDoor
open Go.RowKit Go.Shelf Go.Lib
theorem Zll(w:World):RTreeAt w.heap.size (w.alloc (.cells #[.slice none 0 0] 69)) w.heap.size [] (.slice none 0 0):=by
 have hk:=Zhq w (.cells #[.slice none 0 0] 69);exact⟨Nat.le_refl _,Zab hk rfl,by unfold World.frozen?;rw[hk];rfl,World.ownsRow_nil _ _ _ _,(fun e=>by cases e),fun _=>rfl⟩
theorem Ycb(W:World)(m:Nat):MAt (fun k=>k=W.heap.size) (W.alloc (.cells #[.int .i64 m,.slice none 0 0] 86)) (.pointer (some ⟨W.heap.size,0,none⟩)) m []:=by
 refine⟨⟨W.heap.size,.slice none 0 0,rfl,rfl,by simp,by simp,by simp,none,0,rfl,Nat.le_refl _,fun h=>absurd rfl h⟩,fun k hk=>by subst hk;simp⟩
def newNL(n:Nat):NL:=⟨n,n+1,.slice none 0 0,.pointer (some ⟨n+2,0,none⟩),.slice none 0 0,.slice none 0 0,fun k=>k=n+2,fun _=>False,fun j=>if j=n+3 then 0 else if j=n then 1 else if j=n+1 then 2 else 3⟩
theorem Zoe(W:World)(m:Nat):Calls prog 20 #[.int .i64 m] W fun e w'=>∃ yb L,e=.returned (Ptr yb)/\Below W.heap.size W w'/\NdAt W.heap.size w' yb L ⟨[],[],[],some (m,[])⟩/\∀ j,NOwn yb L j->W.heap.size<=j:=by
 obtain⟨w1,h1⟩:∃ w1,w1=W.alloc (.cells #[.slice none 0 0] 69):=⟨_,rfl⟩
 obtain⟨w2,h2⟩:∃ w2,w2=w1.alloc (.cells #[.slice none 0 0] 69):=⟨_,rfl⟩
 obtain⟨w3,h3⟩:∃ w3,w3=w2.alloc (.cells #[.int .i64 m,.slice none 0 0] 86):=⟨_,rfl⟩
 have g1:Below W.heap.size W w1:=by rw[h1];exact(Below.refl _ W).alloc (Nat.le_refl _) _
 have g2:Below w1.heap.size w1 w2:=by rw[h2];exact(Below.refl _ w1).alloc (Nat.le_refl _) _
 have g3:Below w2.heap.size w2 w3:=by rw[h3];exact(Below.refl _ w2).alloc (Nat.le_refl _) _
 have z1:w1.heap.size=W.heap.size+1:=by rw[h1];simp
 have z2:w2.heap.size=W.heap.size+2:=by rw[h2];simp[z1]
 have z3:w3.heap.size=W.heap.size+3:=by rw[h3];simp[z2]
 have t1:RTreeAt W.heap.size w1 W.heap.size [] (.slice none 0 0):=by rw[h1];exact Zll W
 have t2:RTreeAt w1.heap.size w2 w1.heap.size [] (.slice none 0 0):=by rw[h2];exact Zll w1
 have t3:MAt (fun k=>k=w2.heap.size) w3 (.pointer (some ⟨w2.heap.size,0,none⟩)) m []:=by rw[h3];exact Ycb w2 m
 have HE:Hid (∀ w4,w4=w3.alloc (.cells #[Ptr W.heap.size,Ptr (W.heap.size+1),.slice none 0 0,.pointer (some ⟨W.heap.size+2,0,none⟩)] 39)->Below W.heap.size W w4/\NdAt W.heap.size w4 (W.heap.size+3) (newNL W.heap.size) ⟨[],[],[],some (m,[])⟩):=hid1 fun w4 h4=>by
  have g4:Below w3.heap.size w3 w4:=by rw[h4];exact(Below.refl _ w3).alloc (Nat.le_refl _) _
  have z4:w4.heap.size=W.heap.size+4:=by rw[h4];simp[z3]
  have g34:=Zac g3 g4;have g24:=Zac g2 g34;rw[z1]at t2;rw[z2]at t3;have t2':RTreeAt W.heap.size w2 (W.heap.size+1) [] (.slice none 0 0):=⟨by omega,t2.cell,t2.free,World.ownsRow_nil _ _ _ _,t2.apart,t2.nil⟩
  refine⟨Zac g1 g24,⟨?_,by omega,t1.below g24,t2'.below g34,⟨⟨_,rfl⟩,t3.below g4⟩,⟨_,rfl⟩,fun j hj=> ?_,fun V _ _=>RRow.nil V,fun j hj=>hj.elim,by simp[newNL],by simp[newNL],fun j hj=>(by cases hj),by simp[newNL],fun j hj=>(by cases hj),fun j hj=> ?_,fun j hj=>hj.elim⟩⟩
  ·rw[h4,<- z3];exact Zhq _ _
  ·have hj':j=W.heap.size+2:=hj;omega
  ·have hj':j=W.heap.size+2:=hj;subst hj';simp[newNL]
 clear t1 t2 t3 g1 g2 g3;go_enter func20,ntmps20
 go_wp2;go_ret;have hE:=HE.out _ rfl;rw[h3,h2,h1]at hE;refine⟨W.heap.size+3,newNL W.heap.size,rfl,hE.1,hE.2,fun j hj=> ?_⟩
 exact hE.2.own_low (fun j hj=>hj.elim) hj
theorem Zku(W:World):Calls prog 6 #[] W fun e w'=>∃ yb L,e=.returned (Ptr yb)/\Below W.heap.size W w'/\NdAt W.heap.size w' yb L Pl.y0/\∀ j,NOwn yb L j->W.heap.size<=j:=by
 have HN:=hid1 (Zoe W 8);go_enter func6,ntmps6
 go_wp2_with fail;refine HN.out.mono ?_;rintro e w1 ⟨yb,L1,rfl,g1,hy1,hown⟩;have HY1:=hid1 hy1;have HOw:=hid1 hown;have HS:=hid1 (Zcf w1);clear HN hy1 hown;go_wp2_with fail;refine HS.out.mono ?_;rintro e w2 ⟨v,rfl,g2,hN⟩;have HNw:=hid1 hN;obtain⟨p2,c2,e2,-⟩:=hN.row;subst e2;have hz1:=g1.size;have hy2:=HY1.out.below g2;have d2:=hy2.c2
 have f2:w2.frozen? ⟨yb,2,none⟩=false:=by simp[World.frozen?,hy2.row]
 have HR:Hid ((w2.setCell ⟨yb,2,none⟩ (.slice p2 Pl.l.length c2)).heap[yb]? =some (.cells #[Ptr L1.tb,Ptr L1.ob,.slice p2 Pl.l.length c2,L1.cv] 39 (0,0))):=hid1 (by
  rw[heap_setCell_same w2 yb 2 _ _ _ hy2.row];rfl)
 have hst:∀(a:Addr) (m:Mode) (W:World),Sem.run prog (store a (.slice p2 Pl.l.length c2) m) W=stored prog W a (.slice p2 Pl.l.length c2) m:=fun a m W=>run_store _ W a _ m rfl
 have HE:=hid1 (And.intro (((g1.trans (g2.mono hz1))).setCell (p:=⟨yb,2,none⟩) HY1.out.low (.slice p2 Pl.l.length c2)) (HY1.out.ruled g2 (fun V a b=>HNw.out V a b) HR.out))
 clear HS hN hy2;go_wp2;go_ret;refine⟨yb,_,rfl,HE.out.1,HE.out.2,fun j hj=> ?_⟩
 rcases hj with e | e | e | e | e | e | e
 ·exact HOw.out j (.inl e)
 ·exact HOw.out j (.inr (.inl e))
 ·exact HOw.out j (.inr (.inr (.inl e)))
 ·exact HOw.out j (.inr (.inr (.inr (.inl e))))
 ·exact HOw.out j (.inr (.inr (.inr (.inr (.inl e)))))
 ·exact HOw.out j (.inr (.inr (.inr (.inr (.inr (.inl e))))))
 ·have e':w1.heap.size<=j/\j<w2.heap.size:=e;omega
namespace Pl
theorem bit_of(n i:Nat)(hi:i<5):bit n (4 - i)=if n/2 ^ i%2=1 then 120 else 10:=by
 unfold bit;rw[show 4 - (4 - i)=i by omega]
theorem lets_drop(n i:Nat)(hi:i<5):(lets n).drop (5 - (i+1))=bit n (4 - i)::(lets n).drop (5 - i):=by
 have:i=0\/i=1\/i=2\/i=3\/i=4:=by omega
 rcases this with rfl | rfl | rfl | rfl | rfl <;> rfl
theorem half(n i:Nat):(((n/2 ^ i:Nat):Int)).tdiv 2=((n/2 ^ (i+1):Nat):Int):=by
 show((n/2 ^ i/2:Nat):Int)=_
 rw[Nat.div_div_eq_div_mul,Nat.pow_succ]
theorem small_half(n i:Nat)(hn:n<32):n/2 ^ i<32:=Nat.lt_of_le_of_lt (Nat.div_le_self _ _) hn
end Pl
theorem Ybd(W:World)(x0 x1:Value)(t:TypeId)(j:Nat)(u:Value)(h:[x0,x1][j]? =some u):(W.alloc (.cells #[x0,x1] t)).cell? ((⟨W.heap.size,0,none⟩:Addr).add j)=some u:=by
 rw[Zdv,Nat.zero_add,World.cell?_alloc_at _ _ _ _ rfl];simpa using h
theorem Zvg(x:Nat)(h:x<32):wrap64 (x:Int)=(x:Int):=by unfold wrap64;omega
theorem abc_is(q:Nat):(⟨#[97,98,99]⟩:ByteArray).extract (q%3) (q%3+1)=ba (Pl.file q):=by
 unfold Pl.file;have h3:q%3=0\/q%3=1\/q%3=2:=by omega
 rcases h3 with h | h | h
 ·rw[h,if_pos rfl];rfl
 ·rw[h,if_neg (by decide),if_pos rfl];rfl
 ·rw[h,if_neg (by decide),if_neg (by decide)];rfl
variable {B yb:Nat}
theorem Zsv{W:World}{L:NL}{y:Bf.Yd}(h:NdAt B W yb L y)(hf:Bf.YFine Pl.l 8 y)(v:Int)(hv: -9223372036854775808<=v/\v<=9223372036854775807):
  Calls prog 22 #[Ptr yb,.int .i64 v] W fun e w'=>e=.returned (.int .i64 (Pl.ans y v))/\Below B W w'/\∃ L',NStep W w' L L'/\NdAt B w' yb L' (Pl.step y v):=by
 unfold Pl.ans Pl.step;by_cases hn:v<0
 ·rw[if_pos hn,if_pos hn];have HY:=hid1 h;clear h hf;go_enter func22,ntmps22
  go_wp2;go_ret;exact⟨rfl,Below.refl _ _,L,NStep.refl _ _,HY.out⟩
 rw[if_neg hn,if_neg hn];obtain⟨n,rfl⟩:∃ n:Nat,v=(n:Int):=⟨v.toNat,by omega⟩
 rw[show((n:Nat):Int).toNat=n from rfl]
 have hn2:n<=9223372036854775807:=by omega
 have hBW:B<=W.heap.size:=by have:=h.low;have:=h.lt;omega
 have hm8:((n:Int)).tmod 8=((n%8:Nat):Int):=rfl;have hd8:((n:Int)).tdiv 8=((n/8:Nat):Int):=rfl;have hd8':wrap64 ((n/8:Nat):Int)=((n/8:Nat):Int):=by unfold wrap64;omega
 have hm3:(((n/8:Nat):Int)).tmod 3=((n/8%3:Nat):Int):=rfl;have hr3:n/8%3<3:=Nat.mod_lt _ (by decide)
 have hex:=abc_is (n/8);have hsz3:(⟨#[97,98,99]⟩:ByteArray).size=3:=rfl;have HY:=hid1 h;have HF:=hid1 hf;have c0:=h.c0;have n0:¬ ((n:Int)<0):=by omega
 have hfl:(Pl.file (n/8)).length<=1000000:=by
  unfold Pl.file;by_cases h0:n/8%3=0
  ·rw[if_pos h0];decide
  ·rw[if_neg h0];by_cases h1:n/8%3=1
   ·rw[if_pos h1];decide
   ·rw[if_neg h1];decide
 have HMk:=hid1 fun(V:World) (g:Below W.heap.size W V) (ov:Value) (outs:List (List UInt8)) (hov:XRow V ov outs) (hnil:outs=[]->ov=.slice none 0 0) (hol:outs.length<=100) (hor:∀ p∈outs,∃ x∈Pl.l,x.out=p)=>(Zpu (h.below g) hf.fs hf.os (by rw[hf.hl];exact Pl.sheet) hf.fit ov outs hov hnil hol (by rw[hf.hl];exact hor)).mono (R':=fun e w'=>∃ p n c,e=.returned (.tuple #[.slice p n c,.agg #[.int .i64 0,.int .i64 (-1)]])/\Below B W w'/\∃ L',NStep W w' L L'/\NdAt B w' yb L' (y.makeP outs)) (by
  rintro e w' ⟨p,n,c,rfl,hb,L',hs,hy⟩;rw[hf.makeEq Pl.sheet Pl.flat]at hy;exact⟨p,n,c,rfl,(g.mono hBW).trans hb,L',(NStep.below L g).trans hs,hy⟩)
 have hcs:n%8<4\/n%8=4\/n%8=5\/n%8=6\/n%8=7:=by omega
 have hEnd:∀(w1:World) (L1:NL) (y':Bf.Yd),Below B W w1->NStep W w1 L L1->NdAt B w1 yb L1 y'->∀ ob:Obj,Below B W (w1.alloc ob)/\NStep W (w1.alloc ob) L L1/\NdAt B (w1.alloc ob) yb L1 y':=fun w1 L1 y' a b c ob=>by
  have g:Below w1.heap.size w1 (w1.alloc ob):=(Below.refl _ w1).alloc (Nat.le_refl _) _;exact⟨a.trans (g.mono (by have:=a.size;omega)),b.trans (NStep.below L1 g),c.below g⟩
 have HEn:=hid1 hEnd;clear hv hn hEnd h hf;rcases hcs with hlt | h4 | h4 | h4 | h4
 ·have e1:Pl.codeQ y (n%8) (n/8)=Tf.putCode pathB y.fs (Pl.file (n/8)) (Pl.lets (n/8/3%32)):=if_pos hlt;have e2:Pl.stepQ y (n%8) (n/8)={ y with fs:=Tf.putF pathB y.fs (Pl.file (n/8)) (Pl.lets (n/8/3%32)) }:=if_pos hlt
  rw[e1,e2];have HPt:=hid1 (Zik HY.out.t HF.out.fs (Pl.file (n/8)) (Pl.lets (n/8/3%32)) hfl);have hd3:(((n/8:Nat):Int)).tdiv 3=((n/8/3:Nat):Int):=rfl;have hd3':wrap64 ((n/8/3:Nat):Int)=((n/8/3:Nat):Int):=by unfold wrap64;omega
  have hm32:(((n/8/3:Nat):Int)).tmod 32=((n/8/3%32:Nat):Int):=rfl;have hq32:n/8/3%32<32:=Nat.mod_lt _ (by decide)
  have w4:((n%8:Nat):Int)≠4:=by omega
  have w5:((n%8:Nat):Int)≠5:=by omega
  have w6:((n%8:Nat):Int)≠6:=by omega
  have w7:((n%8:Nat):Int)≠7:=by omega
  have v4:(((n%8:Nat):Int)==4)=false:=beq_false_of_ne w4;have v5:(((n%8:Nat):Int)==5)=false:=beq_false_of_ne w5;have v6:(((n%8:Nat):Int)==6)=false:=beq_false_of_ne w6;have v7:(((n%8:Nat):Int)==7)=false:=beq_false_of_ne w7;clear e1 e2 HMk HEn w4 w5 w6 w7;generalize n%8=wh at *;generalize hq:n/8=q at *;clear hq
  generalize q/3%32=m at *;generalize q/3=q3 at *;generalize Pl.file q=fl at *;generalize q%3=r at *;have r2:(0:Int)<=(r:Int):=by omega
  have r3:(r:Int)+1<=3:=by omega
  have r5:(r:Int)<=(r:Int)+1:=by omega
  go_enter func22,ntmps22
  go_wp2;go_loopw [8,9,10] (fun nv' sv' iv wr=>∃ i:Nat,i<=5/\iv=.int .i64 i/\nv'=.int .i64 ((m/2 ^ i:Nat):Int)/\sv'=.string (ba ((Pl.lets m).drop (5 - i)))/\wr=W) (fun _ _ iv _=>5 - (intOf iv).toNat)
  case atStart=>exact⟨0,by omega,rfl,by simp,rfl,rfl⟩
  case round =>
   obtain⟨i,hi5,rfl,rfl,rfl,rfl⟩:=hrel;have i0':(0:Int)<=(i:Int):=by omega
   by_cases hi:i<5
   ·have i1:(i:Int)<5:=by omega
    have hh:=Pl.half m i;have hs1:=Pl.small_half m (i+1) hq32;have hh':wrap64 ((m/2 ^ (i+1):Nat):Int)=((m/2 ^ (i+1):Nat):Int):=Zvg _ hs1;have hmd:(((m/2 ^ i:Nat):Int)).tmod 2=((m/2 ^ i%2:Nat):Int):=rfl;have HD:=hid1 (Pl.lets_drop m i hi);have hbt:=Pl.bit_of m i hi
    have hsz:(ba ((Pl.lets m).drop (5 - i))).size<=5:=by rw[Zal];simp[Pl.lets]
    have hb2:m/2 ^ i%2=1\/m/2 ^ i%2=0:=by omega
    have HNx:Hid (∀ b:UInt8,Pl.bit m (4 - i)=b->(∃ i':Nat,i'<=5/\Value.int .i64 ((i:Int)+1)=Value.int .i64 (i':Nat)/\Value.int .i64 (wrap64 ((m/2 ^ (i+1):Nat):Int))=Value.int .i64 ((m/2 ^ i':Nat):Int)/\Value.string ((⟨#[b]⟩:ByteArray)++ba ((Pl.lets m).drop (5 - i)))=Value.string (ba ((Pl.lets m).drop (5 - i')))/\True)/\5 - (intOf (Value.int .i64 ((i:Int)+1))).toNat<5 - (intOf (Value.int .i64 (i:Int))).toNat):=hid1 fun b hb=>by
     refine⟨⟨i+1,by omega,by go_num,by rw[hh'],?_,trivial⟩,by simp[intOf];omega⟩
     rw[HD.out,hb,show(⟨#[b]⟩:ByteArray)=ba [b] from rfl,ba_cat]
     rfl
    rcases hb2 with hb | hb
    ·rw[hb]at hmd hbt;rw[if_pos rfl]at hbt;have HN1:=hid1 (HNx.out 120 hbt);have hmd':(((m/2 ^ i:Nat):Int)).tmod 2=1:=hmd;clear hmd hbt HNx HD hb;generalize m/2 ^ (i+1)=m2 at *;generalize m/2 ^ i=m1 at *;generalize ba ((Pl.lets m).drop (5 - i))=sx at *;clear HPt HY HF hs1 hi5;go_wp2;exact HN1.out
    ·rw[hb]at hmd hbt;rw[if_neg (by decide)]at hbt
     have HN1:=hid1 (HNx.out 10 hbt);have hmd':(((m/2 ^ i:Nat):Int)).tmod 2=0:=hmd;clear hmd hbt HNx HD hb;generalize m/2 ^ (i+1)=m2 at *;generalize m/2 ^ i=m1 at *;generalize ba ((Pl.lets m).drop (5 - i))=sx at *;clear HPt HY HF hs1 hi5;go_wp2;exact HN1.out
   ·obtain rfl:i=5:=by omega
    rw[show 5 - 5=0 from rfl,List.drop_zero]
    go_wp2_with fail;refine HPt.out.mono ?_;rintro e w4 ⟨rfl,⟨v',hon,hT⟩,hB,hK⟩;obtain⟨L4,hy4,hS4⟩:=HY.out.files2 hT hon hK;have HE:=hid1 (And.intro hB (And.intro hS4 hy4));clear hy4 hS4 hT hon hK hB HPt;go_wp2;go_ret;exact⟨rfl,HE.out.1,L4,HE.out.2.1,HE.out.2.2⟩
 ·have e1:Pl.codeQ y (n%8) (n/8)=if Tf.hasP y.fs (Pl.file (n/8)) then 0 else 6:=by rw[h4];rfl
  have e2:Pl.stepQ y (n%8) (n/8)={ y with fs:=Tf.del y.fs (Pl.file (n/8)) }:=by rw[h4];rfl
  rw[e1,e2];rw[h4]at hm8;have HRm:=hid1 (Zfo HY.out.t HF.out.fs (Pl.file (n/8)));clear e1 e2 HMk HEn h4;generalize hq:n/8=q at *;clear hq;generalize Pl.file q=fl at *;generalize q%3=r at *;have r2:(0:Int)<=(r:Int):=by omega
  have r3:(r:Int)+1<=3:=by omega
  have r5:(r:Int)<=(r:Int)+1:=by omega
  generalize (if Tf.hasP y.fs fl=true then 0 else 6:Nat)=cd at *
  go_enter func22,ntmps22
  go_wp2_with fail;refine HRm.out.mono ?_;rintro e w4 ⟨rfl,⟨v',hon,hT⟩,hB,hK⟩;obtain⟨L4,hy4,hS4⟩:=HY.out.files2 hT hon hK;have HE:=hid1 (And.intro hB (And.intro hS4 hy4));clear hy4 hS4 hT hon hK hB HRm;go_wp2;go_ret;exact⟨rfl,HE.out.1,L4,HE.out.2.1,HE.out.2.2⟩
 ·have e1:Pl.codeQ y (n%8) (n/8)=0:=by rw[h4];rfl
  have e2:Pl.stepQ y (n%8) (n/8)=y.makeP []:=by rw[h4];rfl
  rw[e1,e2];rw[h4]at hm8;have HM:=hid1 (HMk.out W (Below.refl _ _) (.slice none 0 0) [] (XRow.nil _) (fun _=>rfl) (by simp) (fun p hp=>by simp at hp))
  clear e1 e2 HMk h4;generalize hq:n/8=q at *;clear hq;generalize Pl.file q=fl at *;generalize q%3=r at *;have r2:(0:Int)<=(r:Int):=by omega
  have r3:(r:Int)+1<=3:=by omega
  have r5:(r:Int)<=(r:Int)+1:=by omega
  go_enter func22,ntmps22
  go_wp2_with fail;refine HM.out.mono ?_;rintro e w8 ⟨p8,n8,c8,rfl,hB8,L8,hS8,hy8⟩;have hE8:=HEn.out w8 L8 _ hB8 hS8 hy8 (.cells #[.int .i64 0,.int .i64 (-1)] 76);have HE8:=hid1 hE8;clear hE8 hB8 hS8 hy8 HM HEn;go_wp2;go_ret;exact⟨rfl,HE8.out.1,L8,HE8.out.2.1,HE8.out.2.2⟩
 ·have e1:Pl.codeQ y (n%8) (n/8)=0:=by rw[h4];rfl
  have e2:Pl.stepQ y (n%8) (n/8)=y.makeP [Pl.outN (n/8)]:=by rw[h4];rfl
  rw[e1,e2];rw[h4]at hm8;have HSh:=hid1 (Zcf W);have hm6:(((n/8:Nat):Int)).tmod 6=((n/8%6:Nat):Int):=rfl;have hq6:n/8%6<6:=Nat.mod_lt _ (by decide)
  have HOe:Hid (Pl.outN (n/8)=(Pl.l[n/8%6]'hq6).out):=hid1 (by
   unfold Pl.outN;rw[List.getD_eq_getElem?_getD,List.getElem?_eq_getElem (show n/8%6<Pl.l.length from hq6)]
   rfl)
  have HON:=hid1 (Pl.outN_at (n/8));obtain⟨i0,hi,hz0,hz1,hz2⟩:=info_parts Tryz.infoStr;clear e1 e2 h4;generalize hou:Pl.outN (n/8)=ou at *;have HOV:=hid1 hou;clear hou;generalize hq:n/8=q at *;clear hq;generalize Pl.file q=fl at *;generalize q%3=r at *;have r2:(0:Int)<=(r:Int):=by omega
  have r3:(r:Int)+1<=3:=by omega
  have r5:(r:Int)<=(r:Int)+1:=by omega
  go_enter func22,ntmps22
  go_wp2_with fail;refine HSh.out.mono ?_;rintro e w1 ⟨vv,rfl,g1,hN⟩;obtain⟨p1,c1,e1,hc1,-,hrr⟩:=hN.row;obtain⟨gr,or,rfl,hgr,hru⟩:=hrr (by decide)
  subst e1;have d0:=(hru (q%6) hq6).1;rw[<- HOe.out]at d0;have l6n:Pl.l.length=6:=rfl;have q6i:((q%6:Nat):Int)<6:=by omega
  have q6j:(0:Int)<=((q%6:Nat):Int):=by omega
  have n1:World.ownsRow w1 w1.heap.size 9 1 (.slice none 0 0) 0 []:=World.ownsRow_nil _ _ _ _;have hml:0+1<=maxLen:=by unfold maxLen;omega
  have HG1:=hid1 g1;clear hN hru HSh hrr HOe;generalize q%6=rr at *
  go_wp2_with (at_builtin;refine wpList_append_lies _ rfl _ _ 52 rfl w1.heap.size 9 i0 (.string ⟨#[]⟩) 1 16 underlying52 hi hz0 hz1 hz2 rfl (by decide) (.slice none 0 0) 0 [] rfl (n1.alloc _) ⟨w1.heap.size,0,none⟩ 1 1 [.string (ba ou)] rfl rfl (cell_one_new _ _ _) (by simp[Value.oneCell']) (by decide) hml (by omega) (by simp) _ rfl ?_;intro g5 cap5 w5 hown5 hgrow5 hlies5 hlt5)
  have hx5:XRow w5 (.slice (some ⟨g5,0,none⟩) (0+1) cap5) [ou]:=XRow.of_owns (base:=w1.heap.size) (n:=0+1) hown5;have g15:Below w1.heap.size w1 w5:=((Below.refl _ w1).alloc (Nat.le_refl _) _).grown hgrow5 (by simp) (by intro k hk;cases hk)
  have HM:=hid1 (HMk.out w5 (Zac HG1.out g15) _ [ou] hx5 (fun e=>by cases e) (by simp) (fun p hp=>by obtain rfl:=List.mem_singleton.1 hp;exact HON.out))
  clear hx5 g15 hown5 hgrow5 HMk;go_wp2_with fail;refine HM.out.mono ?_;rintro e w8 ⟨p8,n8,c8,rfl,hB8,L8,hS8,hy8⟩;have hE8:=HEn.out w8 L8 _ hB8 hS8 hy8 (.cells #[.int .i64 0,.int .i64 (-1)] 76);have HE8:=hid1 hE8;clear hE8 hB8 hS8 hy8 HM HEn;go_wp2;go_ret;exact⟨rfl,HE8.out.1,L8,HE8.out.2.1,HE8.out.2.2⟩
 ·have e1:Pl.codeQ y (n%8) (n/8)=0:=by rw[h4];rfl
  have e2:Pl.stepQ y (n%8) (n/8)=y.makeP [[104,100],[99,110,116]]:=by rw[h4];rfl
  rw[e1,e2];rw[h4]at hm8;obtain⟨i0,hi,hz0,hz1,hz2⟩:=info_parts Tryz.infoStr;have n1:World.ownsRow W W.heap.size 9 1 (.slice none 0 0) 0 []:=World.ownsRow_nil _ _ _ _;have hml:0+2<=maxLen:=by unfold maxLen;omega
  clear e1 e2 h4;generalize hq:n/8=q at *;clear hq;generalize Pl.file q=fl at *;generalize q%3=r at *;have r2:(0:Int)<=(r:Int):=by omega
  have r3:(r:Int)+1<=3:=by omega
  have r5:(r:Int)<=(r:Int)+1:=by omega
  go_enter func22,ntmps22
  go_wp2_with (at_builtin;refine wpList_append_lies _ rfl _ _ 52 rfl W.heap.size 9 i0 (.string ⟨#[]⟩) 1 16 underlying52 hi hz0 hz1 hz2 rfl (by decide) (.slice none 0 0) 0 [] rfl (n1.alloc _) ⟨W.heap.size,0,none⟩ 2 2 [.string ⟨#[104,100]⟩,.string ⟨#[99,110,116]⟩] rfl rfl (Ybd _ _ _ _) (by simp[Value.oneCell']) (by decide) hml (by omega) (by simp) _ rfl ?_;intro g5 cap5 w5 hown5 hgrow5 hlies5 hlt5)
  have hx5:XRow w5 (.slice (some ⟨g5,0,none⟩) (0+2) cap5) [[104,100],[99,110,116]]:=XRow.of_owns (base:=W.heap.size) (n:=0+2) hown5;have g15:Below W.heap.size W w5:=((Below.refl _ W).alloc (Nat.le_refl _) _).grown hgrow5 (by simp) (by intro k hk;cases hk)
  have HM:=hid1 (HMk.out w5 g15 _ [[104,100],[99,110,116]] hx5 (fun e=>by cases e) (by simp) (fun p hp=>by
   simp only[List.mem_cons,List.not_mem_nil,or_false]at hp;rcases hp with rfl | rfl
   ·exact Pl.outN_at 5
   ·exact Pl.outN_at 4))
  clear hx5 g15 hown5 hgrow5 HMk;go_wp2_with fail;refine HM.out.mono ?_;rintro e w8 ⟨p8,n8,c8,rfl,hB8,L8,hS8,hy8⟩;have hE8:=HEn.out w8 L8 _ hB8 hS8 hy8 (.cells #[.int .i64 0,.int .i64 (-1)] 76);have HE8:=hid1 hE8;clear hE8 hB8 hS8 hy8 HM HEn;go_wp2;go_ret;exact⟨rfl,HE8.out.1,L8,HE8.out.2.1,HE8.out.2.2⟩
theorem Zyf(b ws:List UInt8):((some b:Option (List UInt8)) !=(if (0:Nat)=0 then some ws else none))= !(b==ws):=by
 rw[if_pos rfl];by_cases hb:b=ws
 ·subst hb;simp
 ·simp[bne]
theorem Zmy{w:World}{tb ob:Nat}{lv cv tv ov:Value}{fs os:Tf.Fs}{l:List Ru}(hy:MYc w yb (Ptr tb) (Ptr ob) lv cv)(hT:RTreeAt B w tb fs tv)(hO:RTreeAt B w ob os ov)(hos:os.length<=1000)(hor:Tf.Rises os)(hrow:RRow w lv l)(hn:l.length<=1000)(hW:∀ x∈l,Zeh fs l x.out):
  Calls prog 27 #[Ptr yb] w fun e w'=>∃ v,e=.returned v/\TRow w' v (Bf.stale fs os l)/\Below w.heap.size w w':=by
 have HR:=hid1 hrow;have HT:=hid1 hT;have HO:=hid1 hO;have HW:=hid1 hW;obtain⟨p,cap,rfl,hcap,hnn,hin⟩:=hrow;have HI:=hid1 hin;have y0:=Zab (j:=0) hy rfl;have y1:=Zab (j:=1) hy rfl;have y2:=Zab (j:=2) hy rfl;clear hin hnn hT hO hW hy;have HZ:=hid1 (Bf.staleTo_zero fs os l);have HE:=hid1 (Bf.staleTo_all fs os l)
 obtain⟨i0,hi,hz0,hz1,hz2⟩:=info_parts Tryz.infoStr;go_enter func27,ntmps27
 go_wp2;go_loopw [3,4] (fun ov iv wr=>∃(i:Nat),i<=l.length/\iv=.int .i64 i/\TRow wr ov (Bf.staleTo fs os l i)/\(Bf.staleTo fs os l i=[]->ov=.slice none 0 0)/\Below w.heap.size w wr) (fun _ iv _=>l.length - (intOf iv).toNat)
 case atStart=>exact⟨0,Nat.zero_le _,rfl,by rw[HZ.out];exact⟨none,0,rfl,Nat.le_refl _,fun h=>absurd rfl h⟩,fun _=>rfl,Below.refl _ _⟩
 case round =>
  obtain⟨i,hil,rfl,hTr,hv,Bw⟩:=hrel;have HTr:=hid1 hTr;have HV:=hid1 hv;clear hTr hv HZ;have c0:(0:Int)<=(i:Int):=by omega
  have x0:=Zaa y0 Bw;have x1:=Zaa y1 Bw;have x2:=Zaa y2 Bw;have RT:=hid1 (HT.out.below Bw);have RO:=hid1 (HO.out.below Bw);have RR:=hid1 (HR.out.below Bw);clear y0 y1 y2;by_cases hlt:i<l.length
  ·have c1:(i:Int)<(l.length:Int):=by omega
   obtain⟨g',o,rfl,hg,hcur⟩:=HI.out (by intro e;rw[e]at hlt;simp at hlt)
   have a0:=Zaa (hcur i hlt).1 Bw;have HWx:=hid1 fun(V:World) (gV:Below wr.heap.size wr V)=>HW.out _ (List.getElem_mem hlt) V B tb tv _ (RT.out.below gV) (RR.out.below gV)
   have HSk:=hid1 fun h=>Bf.staleTo_skip (fs:=fs) (os:=os) hlt h
   have HLa:=hid1 fun h r=>Bf.staleTo_laid (fs:=fs) (os:=os) hlt h (r:=r)
   have HLen:=hid1 (Bf.staleTo_len fs os l i);have HOff:Hid (Bf.off fs os l l[i].out=(Tf.get os l[i].out !=(if (Bf.want Af.actO fs l l[i].out).2=0 then some (Bf.want Af.actO fs l l[i].out).1 else none))):=hid1 rfl
   generalize hp:l[i].out=p at *;generalize hwt:Bf.want Af.actO fs l p=wt at *;obtain⟨ws,we⟩:=wt;dsimp only at HWx HOff
   clear hcur HI HW HT HO HR hp hwt hil;generalize wr=w2 at *;generalize Bf.staleTo fs os l i=r at *;generalize hr1:Bf.staleTo fs os l (i+1)=r1 at *;have HR1:=hid1 hr1;clear hr1;go_wp2;go_region_held3 (fun w'=>w'.cell? ⟨yb,0,none⟩=some (Ptr tb)/\w'.cell? ⟨yb,2,none⟩=some (.slice (some ⟨g',o,none⟩) l.length cap)) (first | go_keep | fail)
    (first | (go_at_call 49;refine(HWx.out _ (Zad (Below.refl _ w2) 1)).mono ?_;rintro e wL ⟨rfl,g3⟩;(have k0:=Zaa x0 ((Zad (Below.refl _ w2) 1).trans g3));(have k2:=Zaa x2 ((Zad (Below.refl _ w2) 1).trans g3))) | fail)
   all_goals
    have G3:Below w2.heap.size w2 wL:=(Zad (Below.refl _ w2) 1).trans g3;have yo1:=Zaa x1 G3;have RO3:=hid1 (RO.out.below G3);have GB:=Zac Bw G3;clear k0 k2 x0 x1 x2 a0 HWx g3
    have hfd:∃ kf:Int,(Calls prog 50 #[Ptr ob,.string (ba p)] wL fun e w'=>e=.returned (.int .i64 kf)/\w'=wL)/\((kf= -1/\Tf.get os p=none)\/∃(m:Nat) (b:List UInt8) (go capo:Nat),kf=m/\m<os.length/\Tf.get os p=some b/\ov=.slice (some ⟨go,0,none⟩) os.length capo/\wL.cell? ⟨go,m*2+1,none⟩=some (.string (ba b))):=by
     cases hg:Tf.get os p with
     | none=>exact⟨-1,Zgl RO3.out hos hor hg,.inl ⟨rfl,rfl⟩⟩
     | some b =>
      obtain⟨m,hm,e1,e2⟩:=Zex hg;have h1:=Zgk RO3.out hos hor hm;rw[e1]at h1;obtain⟨p',cap',ev,_,hc⟩:=FRow.of_owns RO3.out.row;obtain⟨g2,cur,rfl,hg2,hcc⟩:=hc (by intro e;rw[e]at hm;simp at hm)
      exact⟨m,h1,.inr ⟨m,b,g2,cap',rfl,hm,rfl,ev,by rw[<- e2];exact Zab hg2 (hcc m hm).2⟩⟩
    obtain⟨kf,hFd,hkf⟩:=hfd;have HFd:=hid1 hFd;have HKf:=hid1 hkf;have oc:=RO3.out.cell;clear hFd hkf;go_wp2_with fail;refine HFd.out.mono ?_;rintro e w4 ⟨rfl,hw4⟩;subst w4;clear HFd;go_upto_region 8 with fail
    go_cut [9] (fun ok wx=>ok=.bool (decide (0<we)&&decide (kf<0))/\wx=wL)
    case first =>
     by_cases hc:we=0
     ·subst hc;go_wp2;go_meet
      case rel=>exact⟨by simp,rfl⟩
     ·have zc:(0:Int)<(we:Int):=by omega
      have zd:0<we:=by omega
      go_wp2;go_meet
      case rel=>exact⟨by simp[zd],rfl⟩
    case rest =>
     obtain⟨rfl,hwx⟩:=hcut;subst wc;go_upto_region 9 with fail
     go_cut [59] (fun c wx=>∃ cb,c=.bool cb/\cb=(decide (we=0)&&decide (0<=kf))/\wx=wL)
     case first =>
      by_cases hc:we=0
      ·subst hc;go_wp2;go_meet
       case rel=>exact⟨_,rfl,by simp,rfl⟩
      ·have zc:(0:Int)<(we:Int):=by omega
       have ze:((we:Int)==0)=false:=beq_false_of_ne (by omega)
       go_wp2;go_meet
       case rel=>exact⟨_,rfl,by simp[hc],rfl⟩
     case rest =>
     obtain⟨cb,rfl,hcb,hwx⟩:=hcut;have HCb:=hid1 hcb;clear hcb;subst wc;go_upto_if 59 with fail
     go_cut [9] (fun ok wx=>ok=.bool (!Bf.off fs os l p)/\wx=wL)
     case first =>
      rcases HKf.out with ⟨rfl,hg⟩ | ⟨m,b,go,capo,rfl,hm,hg,rfl,hcb⟩
      ·rw[hg]at HOff;by_cases hc:we=0
       ·subst hc;obtain rfl:cb=false:=by rw[HCb.out];simp
        have hoff:Bf.off fs os l p=true:=HOff.out;have HH:=hid1 hoff;clear hoff HOff HKf hg;go_wp2;go_meet
        case rel=>exact⟨by rw[HH.out];rfl,rfl⟩
       ·have zc:(0:Int)<(we:Int):=by omega
        have zd:0<we:=by omega
        obtain rfl:cb=false:=by rw[HCb.out];simp[hc]
        have hoff:Bf.off fs os l p=false:=by rw[HOff.out,if_neg hc];rfl
        have HH:=hid1 hoff;clear hoff HOff HKf hg hc;go_wp2;go_meet
        case rel=>exact⟨by rw[HH.out];simp[zd],rfl⟩
      ·rw[hg]at HOff;have m0:(0:Int)<=(m:Int):=by omega
       have m1:(m:Int)<(os.length:Int):=by omega
       by_cases hc:we=0
       ·subst hc;have hoff:Bf.off fs os l p= !(b==ws):=HOff.out.trans (Zyf b ws);have HH:=hid1 hoff;clear hoff HOff HKf hg;obtain rfl:cb=true:=by rw[HCb.out];simp
        by_cases hb:b=ws
        ·subst hb;go_wp2;go_meet
         case rel=>exact⟨by rw[HH.out];simp,rfl⟩
        ·have hb':(b==ws)=false:=by simpa using hb
         go_wp2;go_meet
         case rel=>exact⟨by rw[HH.out,hb'];rfl,rfl⟩
       ·have zc:(0:Int)<(we:Int):=by omega
        have zd:0<we:=by omega
        obtain rfl:cb=false:=by rw[HCb.out];simp[hc]
        have hoff:Bf.off fs os l p=true:=by rw[HOff.out,if_neg hc];rfl
        have HH:=hid1 hoff;clear hoff HOff HKf hg hc;go_wp2;go_meet
        case rel=>exact⟨by rw[HH.out];simp,rfl⟩
     case rest =>
      obtain⟨rfl,hwx⟩:=hcut;subst wc;cases hoff:Bf.off fs os l p with
      | true =>
       have HL1:=hid1 (HLa.out hoff);have HFin:Hid (∀(r':List (List UInt8)) (v:Value) (W':World),Af.Laid r p r'->W'.ownsRow wL.heap.size 9 1 v r'.length (r'.map sv)->Below wL.heap.size wL W'->TRow W' v r1/\(r1=[]->v=.slice none 0 0)/\Below w.heap.size w W'):=hid1 fun r' v W' hL hO hB=>by
        have e:=HL1.out r' hL;subst e;exact⟨TRow.of_owns hO,fun h=>absurd h (Zqd hL).1,Zac GB hB⟩
       have HT3:=hid1 (HTr.out.below G3);have hrl:=HLen.out;clear HL1 HLa HSk HTr RO RO3 RT RR HOff hoff G3 GB;by_cases hr0:r=[]
       ·subst hr0;have hv0:=HV.out rfl;subst hv0;have n1:World.ownsRow wL wL.heap.size 9 1 (.slice none 0 0) 0 []:=World.ownsRow_nil _ _ _ _;have HL:=hid1 (show Af.Laid [] p [p] from⟨0,Nat.le_refl _,rfl,fun j hj=>absurd hj (by simp),fun h=>absurd h (by simp)⟩)
        clear HT3 HV;go_wp2;go_loopw [10] (fun a wr=>a=.int .i64 0/\wL=wr) (fun a _=>(intOf a).toNat)
        case atStart=>exact⟨rfl,rfl⟩
        case round =>
         obtain⟨rfl,rfl⟩:=hrel;go_wp2_with (first
          | (at_builtin;refine wpList_append_own _ rfl _ _ 52 rfl wL.heap.size 9 i0 (.string ⟨#[]⟩) 1 16 underlying52 hi hz0 hz1 hz2 rfl (by decide) _ _ _ rfl (n1.alloc _) ⟨wL.heap.size,0,none⟩ 1 1 [.string (ba p)] rfl rfl (cell_one_new _ _ _) (by simp[Value.oneCell']) (by unfold maxLen;omega) (by omega) (by simp) ?_;intro v2 w2 hown2 hgrow2 _;have b2:=lay_b2 (Below.refl _ wL) n1 hgrow2;clear n1 hgrow2)
          | (at_builtin;refine wpList_append_own_none rfl _ _ 52 rfl wL.heap.size 9 i0 1 underlying52 hi _ _ _ rfl hown2 rfl ?_)
          | go_in)
         obtain⟨f1,f2,f3⟩:=HFin.out _ _ _ HL.out (hown2) b2;exact⟨⟨i+1,by omega,by go_num,by rw[HR1.out];exact f1,by rw[HR1.out];exact f2,f3⟩,by simp[intOf];omega⟩
       ·obtain⟨pr,capr,er,hcapr,hinr⟩:=HT3.out;obtain⟨gr,curr,rfl,hgr,hcurr⟩:=hinr hr0;subst er;have hne:r≠[]:=hr0;have hR:Hid (∀ W,Below wL.heap.size wL W->∀ k (hk:k<r.length),W.cell? ⟨gr,k,none⟩=some (.string (ba r[k]))):=fun W hW k hk=>Zab ((hW.block gr (Array.getElem?_eq_some_iff.1 hgr).1).trans hgr) (hcurr k hk)
        have zl:(r.length:Int)<=100000:=by omega
        have zc:r.length<=capr:=hcapr;clear hinr hcurr HT3 HV hr0;go_wp2;go_loopw [10] (fun a wr=>∃ k:Nat,k<=r.length/\a=.int .i64 k/\(∀ j (hj:j<r.length),k<=j->Af.gtB r[j] p=true)/\wL=wr) (fun a _=>(intOf a).toNat)
        case atStart=>exact⟨r.length,Nat.le_refl _,rfl,fun j hj h=>by omega,rfl⟩
        case round =>
         obtain⟨k,hk,rfl,hgt,rfl⟩:=hrel;have HG:=hid1 hgt;clear hgt;by_cases h0:0<k
         ·have d0:(0:Int)<(k:Int):=by omega
          have hk1:k - 1<r.length:=by omega
          have hcell:=hR.out wL (Below.refl _ wL) (k - 1) hk1;have e1:((k - 1:Nat):Int)=(k:Int) - 1:=by omega
          have e2:IntKind.i64.wrap ((k:Int) - 1)=(k:Int) - 1:=by rw[IntKind.wrap_i64];omega
          have e3:((k:Int) - 1).toNat=k - 1:=by omega
          have e4:(k:Int) - 1<(r.length:Int):=by omega
          have e5:(0:Int)<=(k:Int) - 1:=by omega
          have HB:Hid (Af.gtB r[k - 1] p=(!Op.bytesLess r[k - 1] p&& !(r[k - 1]==p))):=rfl;have HS:Hid (Af.gtB r[k - 1] p=true->∀ j (hj:j<r.length),k - 1<=j->Af.gtB r[j] p=true):=fun hb j hj h=>by
           by_cases e:j=k - 1
           ·subst e;exact hb
           ·exact HG.out j hj (by omega)
          have HLast:Hid (Af.gtB r[k - 1] p=false->∀ hh:k - 1<r.length,0<k->Af.gtB r[k - 1] p=false):=fun h _ _=>h
          generalize hg:Af.gtB r[k - 1] p=gb at *;generalize r[k - 1]=y at *;cases q1:Op.bytesLess y p with
          | true =>
           have hg0:gb=false:=by rw[HB.out,q1];rfl
           have HLast:=hid1 (HLast.out hg0);clear HB HS hg;have hsrc1:∀ j u,((r.take k).map sv)[j]? =some u->wL.cell? ((⟨gr,0,none⟩:Addr).add j)=some u:=fun j u hj=>by
            have hjl:j<(r.take k).length:=by simpa using (List.getElem?_eq_some_iff.1 hj).1
            have hjl':j<r.length:=by simp at hjl;omega
            rw[List.getElem?_map,List.getElem?_eq_getElem hjl]at hj
            simp only[Option.map_some,Option.some.injEq,List.getElem_take]at hj;rw[<- hj,add_at];exact hR.out wL (Below.refl _ wL) j hjl'
           have hl1:1<=r.length:=by
            cases r with
            | nil=>exact absurd rfl hne
            | cons y r=>simp
           have ka:(k:Int)<=(capr:Int):=by omega
           have kb:k<=capr:=by omega
           have kc:(0:Int)<=(k:Int):=by omega
           have kd':(k:Int)<=(r.length:Int):=by omega
           have HL:=hid1 (show Af.Laid r p (r.take k++p::r.drop k) from⟨k,hk,rfl,HG.out,HLast.out⟩)
           have n1:World.ownsRow wL wL.heap.size 9 1 (.slice none 0 0) 0 []:=World.ownsRow_nil _ _ _ _;by_cases hck:capr=k
           ·subst hck;have hlk:r.length=capr:=by omega
            have hlz:r.length - capr=0:=by omega
            go_wp2_with (first
             | (at_builtin;refine wpList_append_own _ rfl _ _ 52 rfl wL.heap.size 9 i0 (.string ⟨#[]⟩) 1 16 underlying52 hi hz0 hz1 hz2 rfl (by decide) _ _ _ rfl n1 ⟨gr,0,none⟩ capr capr ((r.take capr).map sv) rfl (by simp;omega) hsrc1 one_sv (by unfold maxLen;omega) (by omega) (Nat.le_refl _) ?_;intro v1 w1 hown1 hgrow1 _;have b1:=lay_b1 n1 hgrow1;clear hsrc1 n1 hgrow1)
             | (at_builtin;refine wpList_append_own _ rfl _ _ 52 rfl wL.heap.size 9 i0 (.string ⟨#[]⟩) 1 16 underlying52 hi hz0 hz1 hz2 rfl (by decide) _ _ _ rfl (hown1.alloc _) ⟨w1.heap.size,0,none⟩ 1 1 [.string (ba p)] rfl rfl (cell_one_new _ _ _) (by simp[Value.oneCell']) (by unfold maxLen;omega) (by omega) (by simp;have:=b1.size;omega) ?_;intro v2 w2 hown2 hgrow2 _;have b2:=lay_b2 b1 hown1 hgrow2;clear hown1 hgrow2)
             | (at_builtin;(refine wpList_append_own _ rfl _ _ 52 rfl wL.heap.size 9 i0 (.string ⟨#[]⟩) 1 16 underlying52 hi hz0 hz1 hz2 rfl (by decide) _ _ _ rfl hown2 ⟨gr,0,none⟩ 0 0 ((r.drop capr).map sv) rfl (by simp;omega) (Zhv (k:=capr) (l:=r) (by omega) _) one_sv (by unfold maxLen;omega) (by omega) b2.size ?_;intro v3 w3 hown3 hgrow3 _;have b3:=lay_b3 b2 hown2 hgrow3;clear hown2 hgrow3))
             | go_in)
            obtain⟨f1,f2,f3⟩:=HFin.out _ _ _ HL.out (Zcm hk hlk hown3) b3;exact⟨⟨i+1,by omega,by go_num,by rw[HR1.out];exact f1,by rw[HR1.out];exact f2,f3⟩,by simp[intOf];omega⟩
           ·go_wp2_with (first
             | (at_builtin;refine wpList_append_own _ rfl _ _ 52 rfl wL.heap.size 9 i0 (.string ⟨#[]⟩) 1 16 underlying52 hi hz0 hz1 hz2 rfl (by decide) _ _ _ rfl n1 ⟨gr,0,none⟩ k capr ((r.take k).map sv) rfl (by simp;omega) hsrc1 one_sv (by unfold maxLen;omega) (by omega) (Nat.le_refl _) ?_;intro v1 w1 hown1 hgrow1 _;have b1:=lay_b1 n1 hgrow1;clear hsrc1 n1 hgrow1)
             | (at_builtin;refine wpList_append_own _ rfl _ _ 52 rfl wL.heap.size 9 i0 (.string ⟨#[]⟩) 1 16 underlying52 hi hz0 hz1 hz2 rfl (by decide) _ _ _ rfl (hown1.alloc _) ⟨w1.heap.size,0,none⟩ 1 1 [.string (ba p)] rfl rfl (cell_one_new _ _ _) (by simp[Value.oneCell']) (by unfold maxLen;omega) (by omega) (by simp;have:=b1.size;omega) ?_;intro v2 w2 hown2 hgrow2 _;have b2:=lay_b2 b1 hown1 hgrow2;clear hown1 hgrow2)
             | (at_builtin;refine wpList_append_own _ rfl _ _ 52 rfl wL.heap.size 9 i0 (.string ⟨#[]⟩) 1 16 underlying52 hi hz0 hz1 hz2 rfl (by decide) _ _ _ rfl hown2 ⟨gr,k,none⟩ (r.length - k) (capr - k) ((r.drop k).map sv) rfl (by simp) (Zgn (k:=k) hR b2) one_sv (by unfold maxLen;omega) (by omega) b2.size ?_;intro v3 w3 hown3 hgrow3 _;have b3:=lay_b3 b2 hown2 hgrow3;clear hown2 hgrow3)
             | go_in)
            obtain⟨f1,f2,f3⟩:=HFin.out _ _ _ HL.out (Zew hk hown3) b3;exact⟨⟨i+1,by omega,by go_num,by rw[HR1.out];exact f1,by rw[HR1.out];exact f2,f3⟩,by simp[intOf];omega⟩
          | false =>
           cases q2:(y==p) with
           | true =>
            have hg0:gb=false:=by rw[HB.out,q1,q2];rfl
            have HLast:=hid1 (HLast.out hg0);clear HB HS hg;have hsrc1:∀ j u,((r.take k).map sv)[j]? =some u->wL.cell? ((⟨gr,0,none⟩:Addr).add j)=some u:=fun j u hj=>by
             have hjl:j<(r.take k).length:=by simpa using (List.getElem?_eq_some_iff.1 hj).1
             have hjl':j<r.length:=by simp at hjl;omega
             rw[List.getElem?_map,List.getElem?_eq_getElem hjl]at hj
             simp only[Option.map_some,Option.some.injEq,List.getElem_take]at hj;rw[<- hj,add_at];exact hR.out wL (Below.refl _ wL) j hjl'
            have hl1:1<=r.length:=by
             cases r with
             | nil=>exact absurd rfl hne
             | cons y r=>simp
            have ka:(k:Int)<=(capr:Int):=by omega
            have kb:k<=capr:=by omega
            have kc:(0:Int)<=(k:Int):=by omega
            have kd':(k:Int)<=(r.length:Int):=by omega
            have HL:=hid1 (show Af.Laid r p (r.take k++p::r.drop k) from⟨k,hk,rfl,HG.out,HLast.out⟩)
            have n1:World.ownsRow wL wL.heap.size 9 1 (.slice none 0 0) 0 []:=World.ownsRow_nil _ _ _ _;by_cases hck:capr=k
            ·subst hck;have hlk:r.length=capr:=by omega
             have hlz:r.length - capr=0:=by omega
             go_wp2_with (first
              | (at_builtin;refine wpList_append_own _ rfl _ _ 52 rfl wL.heap.size 9 i0 (.string ⟨#[]⟩) 1 16 underlying52 hi hz0 hz1 hz2 rfl (by decide) _ _ _ rfl n1 ⟨gr,0,none⟩ capr capr ((r.take capr).map sv) rfl (by simp;omega) hsrc1 one_sv (by unfold maxLen;omega) (by omega) (Nat.le_refl _) ?_;intro v1 w1 hown1 hgrow1 _;have b1:=lay_b1 n1 hgrow1;clear hsrc1 n1 hgrow1)
              | (at_builtin;refine wpList_append_own _ rfl _ _ 52 rfl wL.heap.size 9 i0 (.string ⟨#[]⟩) 1 16 underlying52 hi hz0 hz1 hz2 rfl (by decide) _ _ _ rfl (hown1.alloc _) ⟨w1.heap.size,0,none⟩ 1 1 [.string (ba p)] rfl rfl (cell_one_new _ _ _) (by simp[Value.oneCell']) (by unfold maxLen;omega) (by omega) (by simp;have:=b1.size;omega) ?_;intro v2 w2 hown2 hgrow2 _;have b2:=lay_b2 b1 hown1 hgrow2;clear hown1 hgrow2)
              | (at_builtin;(refine wpList_append_own _ rfl _ _ 52 rfl wL.heap.size 9 i0 (.string ⟨#[]⟩) 1 16 underlying52 hi hz0 hz1 hz2 rfl (by decide) _ _ _ rfl hown2 ⟨gr,0,none⟩ 0 0 ((r.drop capr).map sv) rfl (by simp;omega) (Zhv (k:=capr) (l:=r) (by omega) _) one_sv (by unfold maxLen;omega) (by omega) b2.size ?_;intro v3 w3 hown3 hgrow3 _;have b3:=lay_b3 b2 hown2 hgrow3;clear hown2 hgrow3))
              | go_in)
             obtain⟨f1,f2,f3⟩:=HFin.out _ _ _ HL.out (Zcm hk hlk hown3) b3;exact⟨⟨i+1,by omega,by go_num,by rw[HR1.out];exact f1,by rw[HR1.out];exact f2,f3⟩,by simp[intOf];omega⟩
            ·go_wp2_with (first
              | (at_builtin;refine wpList_append_own _ rfl _ _ 52 rfl wL.heap.size 9 i0 (.string ⟨#[]⟩) 1 16 underlying52 hi hz0 hz1 hz2 rfl (by decide) _ _ _ rfl n1 ⟨gr,0,none⟩ k capr ((r.take k).map sv) rfl (by simp;omega) hsrc1 one_sv (by unfold maxLen;omega) (by omega) (Nat.le_refl _) ?_;intro v1 w1 hown1 hgrow1 _;have b1:=lay_b1 n1 hgrow1;clear hsrc1 n1 hgrow1)
              | (at_builtin;refine wpList_append_own _ rfl _ _ 52 rfl wL.heap.size 9 i0 (.string ⟨#[]⟩) 1 16 underlying52 hi hz0 hz1 hz2 rfl (by decide) _ _ _ rfl (hown1.alloc _) ⟨w1.heap.size,0,none⟩ 1 1 [.string (ba p)] rfl rfl (cell_one_new _ _ _) (by simp[Value.oneCell']) (by unfold maxLen;omega) (by omega) (by simp;have:=b1.size;omega) ?_;intro v2 w2 hown2 hgrow2 _;have b2:=lay_b2 b1 hown1 hgrow2;clear hown1 hgrow2)
              | (at_builtin;refine wpList_append_own _ rfl _ _ 52 rfl wL.heap.size 9 i0 (.string ⟨#[]⟩) 1 16 underlying52 hi hz0 hz1 hz2 rfl (by decide) _ _ _ rfl hown2 ⟨gr,k,none⟩ (r.length - k) (capr - k) ((r.drop k).map sv) rfl (by simp) (Zgn (k:=k) hR b2) one_sv (by unfold maxLen;omega) (by omega) b2.size ?_;intro v3 w3 hown3 hgrow3 _;have b3:=lay_b3 b2 hown2 hgrow3;clear hown2 hgrow3)
              | go_in)
             obtain⟨f1,f2,f3⟩:=HFin.out _ _ _ HL.out (Zew hk hown3) b3;exact⟨⟨i+1,by omega,by go_num,by rw[HR1.out];exact f1,by rw[HR1.out];exact f2,f3⟩,by simp[intOf];omega⟩
           | false =>
            have hg0:gb=true:=by rw[HB.out,q1,q2];rfl
            have HS:=hid1 (HS.out hg0);clear HB HLast hg;go_wp2;exact⟨⟨k - 1,by omega,by go_num,HS.out,trivial⟩,by simp[intOf];omega⟩
         ·have d0:(k:Int)<=0:=by omega
          have hsrc1:∀ j u,((r.take k).map sv)[j]? =some u->wL.cell? ((⟨gr,0,none⟩:Addr).add j)=some u:=fun j u hj=>by
           have hjl:j<(r.take k).length:=by simpa using (List.getElem?_eq_some_iff.1 hj).1
           have hjl':j<r.length:=by simp at hjl;omega
           rw[List.getElem?_map,List.getElem?_eq_getElem hjl]at hj
           simp only[Option.map_some,Option.some.injEq,List.getElem_take]at hj;rw[<- hj,add_at];exact hR.out wL (Below.refl _ wL) j hjl'
          have hl1:1<=r.length:=by
           cases r with
           | nil=>exact absurd rfl hne
           | cons y r=>simp
          have ka:(k:Int)<=(capr:Int):=by omega
          have kb:k<=capr:=by omega
          have kc:(0:Int)<=(k:Int):=by omega
          have kd':(k:Int)<=(r.length:Int):=by omega
          have HL:=hid1 (show Af.Laid r p (r.take k++p::r.drop k) from⟨k,hk,rfl,HG.out,fun _ h=>absurd h h0⟩)
          have n1:World.ownsRow wL wL.heap.size 9 1 (.slice none 0 0) 0 []:=World.ownsRow_nil _ _ _ _;by_cases hck:capr=k
          ·exact absurd hck (by omega)
          ·go_wp2_with (first
            | (at_builtin;refine wpList_append_own _ rfl _ _ 52 rfl wL.heap.size 9 i0 (.string ⟨#[]⟩) 1 16 underlying52 hi hz0 hz1 hz2 rfl (by decide) _ _ _ rfl n1 ⟨gr,0,none⟩ k capr ((r.take k).map sv) rfl (by simp;omega) hsrc1 one_sv (by unfold maxLen;omega) (by omega) (Nat.le_refl _) ?_;intro v1 w1 hown1 hgrow1 _;have b1:=lay_b1 n1 hgrow1;clear hsrc1 n1 hgrow1)
            | (at_builtin;refine wpList_append_own _ rfl _ _ 52 rfl wL.heap.size 9 i0 (.string ⟨#[]⟩) 1 16 underlying52 hi hz0 hz1 hz2 rfl (by decide) _ _ _ rfl (hown1.alloc _) ⟨w1.heap.size,0,none⟩ 1 1 [.string (ba p)] rfl rfl (cell_one_new _ _ _) (by simp[Value.oneCell']) (by unfold maxLen;omega) (by omega) (by simp;have:=b1.size;omega) ?_;intro v2 w2 hown2 hgrow2 _;have b2:=lay_b2 b1 hown1 hgrow2;clear hown1 hgrow2)
            | (at_builtin;refine wpList_append_own _ rfl _ _ 52 rfl wL.heap.size 9 i0 (.string ⟨#[]⟩) 1 16 underlying52 hi hz0 hz1 hz2 rfl (by decide) _ _ _ rfl hown2 ⟨gr,k,none⟩ (r.length - k) (capr - k) ((r.drop k).map sv) rfl (by simp) (Zgn (k:=k) hR b2) one_sv (by unfold maxLen;omega) (by omega) b2.size ?_;intro v3 w3 hown3 hgrow3 _;have b3:=lay_b3 b2 hown2 hgrow3;clear hown2 hgrow3)
            | go_in)
           obtain⟨f1,f2,f3⟩:=HFin.out _ _ _ HL.out (Zew hk hown3) b3;exact⟨⟨i+1,by omega,by go_num,by rw[HR1.out];exact f1,by rw[HR1.out];exact f2,f3⟩,by simp[intOf];omega⟩
      | false =>
       have er:=HSk.out hoff;have f1:=HTr.out.below G3;rw[<- er]at f1;have f2:=HV.out;rw[<- er]at f2;have HF1:=hid1 f1;have HF2:=hid1 f2;clear f1 f2 er;go_wp2;exact⟨⟨i+1,by omega,by go_num,by rw[HR1.out];exact HF1.out,by rw[HR1.out];exact HF2.out,GB⟩,by simp[intOf];omega⟩
  ·have i1:(l.length:Int)<=(i:Int):=by omega
   have e:i=l.length:=by omega
   subst e;rw[HE.out]at HTr;go_wp2;go_ret;exact⟨_,rfl,HTr.out,Bw⟩
