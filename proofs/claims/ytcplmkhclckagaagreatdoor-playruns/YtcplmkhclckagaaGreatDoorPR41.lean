import Derived.Test.YtcplmkhclckagaaGreatDoorPR40
import Derived.Test.YtcplmkhclckagaaGreatDoorPR38
set_option maxRecDepth 100000
set_option maxHeartbeats 16000000
open Go.Proofs.Tryz
namespace Go.Proofs.YtcplmkhclckagaaGreatDoor
open Go.RowKit Go.Shelf Go.Lib
open Go.Sort (grow)
variable {w w':World}{B b:Nat}{bs:List Value}
theorem Zen{u:Value}(h:Lib.BuilderAtF 61 5 B b u bs w)(hb:Below w.heap.size w w'):Lib.BuilderAtF 61 5 B b u bs w':=by
 obtain⟨h1,v,h2,h3,h4⟩:=h;exact⟨h1,v,(hb.block b (Array.getElem?_eq_some_iff.1 h2).1).trans h2,h3.kept (row:=none) ⟨hb.os,hb.tape,hb.output,hb.size,fun k hk _=>hb.block k hk⟩ (by cases v.ownBlock <;> simp),h4⟩
theorem Zhk(h:Lib.IsBuilderF 61 5 B b bs w)(hb:Below w.heap.size w w'):Lib.IsBuilderF 61 5 B b bs w' :=
 h.imp (fun h=>Zen h hb) (fun h=>Zen h hb)
abbrev KPow(w:World):Prop:=Lib.TabIs prog w "internal/strconv.uint64pow10" .u64 Lib.pow10Tab
theorem Zlu(h:KPow w)(hb:Below w.heap.size w w'):KPow w':=Go.Joins.tab_stays (g:=14) (by kernel_rfl) h hb (Nat.le_refl _)
variable {w0 W:World}
theorem Ztp(hP:KPow w0)(hB:Below w0.heap.size w0 W)(b:Nat)(bs s:List UInt8)(hb:Lib.IsBuilderF 61 5 w0.heap.size b (Lib.byteCells bs) W)(hl:bs.length<=100000)(hs:s.length<=3000):
  Calls prog 247 #[.string (ba s),.pointer (some ⟨b,0,none⟩)] W fun e w'=>e=.returned (.tuple #[])/\Lib.IsBuilderF 61 5 w0.heap.size b (Lib.byteCells (bs++Kp.piece s)) w'/\Below w0.heap.size W w':=by
 have HI:=hid1 ((strconv_Itoa (s.length:Int) (by omega) (by omega) W (Zlu hP hB)).mono (R':=fun e w'=>e=.returned (.string (ba (Lib.decDigits s.length)))/\Below W.heap.size W w') (by
  rintro e w' ⟨rfl,k,os,rfl⟩;rw[Lib.itoa_nonneg];exact⟨rfl,Zcu W k os⟩))
 have hdl:=Zax s.length (by omega)
 have HW:Hid (∀(bs s:List UInt8) V,bs.length+s.length<=10000000->w0.heap.size<=V.heap.size->Lib.IsBuilderF 61 5 w0.heap.size b (Lib.byteCells bs) V->Calls prog 30 #[.pointer (some ⟨b,0,none⟩),.string (ba s)] V fun e w' =>
   e=.returned (.tuple #[.int .i64 s.length,.nilIface])/\Lib.IsBuilderF 61 5 w0.heap.size b (Lib.byteCells (bs++s)) w'/\Below w0.heap.size V w'):=hid1 fun bs s V hl hV hb=>by
  refine(Any.Builder_WriteString_k lays166B Builder_Extra_166B w0.heap.size b (Lib.byteCells bs) (ba s) V hb (by rw[Lib.byteCells_length,Zal];omega) hV).mono ?_
  rintro e w' ⟨rfl,h1,h2,h3⟩;refine⟨by rw[Zal],.inr ?_,h2⟩
  rw[Lib.byteCells_append];exact h1
 have HC:Hid (∀(bs:List UInt8) V,bs.length<=10000000->w0.heap.size<=V.heap.size->Lib.IsBuilderF 61 5 w0.heap.size b (Lib.byteCells bs) V->Calls prog 106 #[.pointer (some ⟨b,0,none⟩),.int .u8 58] V fun e w' =>
   e=.returned .nilIface/\Lib.IsBuilderF 61 5 w0.heap.size b (Lib.byteCells (bs++[58])) w'/\Below w0.heap.size V w'):=hid1 fun bs V hl hV hb=>by
  refine(Any.Builder_WriteByte_k lays167 Builder_Extra_167 w0.heap.size b (Lib.byteCells bs) 58 V hb (by rw[Lib.byteCells_length];omega) hV).mono ?_
  rintro e w' ⟨rfl,h1,h2,h3⟩;refine⟨rfl,.inr ?_,h2⟩;rw[Lib.byteCells_append];exact h1
 have HB:=hid1 hb;have zB:=hB.size;clear hP hB hb;go_enter func247,ntmps247
 go_wp2_with fail;refine HI.out.mono ?_;rintro e w1 ⟨rfl,g1⟩;have B1:=hid1 (Zhk HB.out g1);have z1:=g1.size;clear HI HB;go_wp2_with fail;refine(HW.out bs _ w1 (by omega) (by omega) B1.out).mono ?_
 rintro e w2 ⟨rfl,b2,g2⟩;have B2:=hid1 b2;have G2:=hid1 ((g1.mono zB).trans g2);have z2:=g2.size;clear B1 g1 b2 g2;go_wp2_with fail;refine(HC.out _ w2 (by rw[List.length_append];omega) (by omega) B2.out).mono ?_
 rintro e w3 ⟨rfl,b3,g3⟩;have B3:=hid1 b3;have G3:=hid1 (G2.out.trans g3);have z3:=g3.size;clear B2 G2 b3 g3 HC;go_wp2_with fail;refine(HW.out _ s w3 (by rw[List.length_append,List.length_append,List.length_singleton];omega) (by omega) B3.out).mono ?_
 rintro e w4 ⟨rfl,b4,g4⟩;have B4:=hid1 b4;have G4:=hid1 (G3.out.trans g4);clear B3 G3 b4 g4 HW;go_wp2;go_end0
 refine⟨rfl,?_,G4.out⟩;have:=B4.out;unfold Kp.piece;simpa using this
theorem Kp.piece_len(s:List UInt8)(h:s.length<=3000):(Kp.piece s).length<=3022:=by
 unfold Kp.piece;have:=Zax s.length (by omega)
 simp
 omega
theorem Kp.flat_len:∀(l:List (List UInt8)),(∀ x∈l,x.length<=3000)->(l.flatMap Kp.piece).length<=l.length*3022
 | [],_=>by simp
 | x::l,h=>by
  have h1:=Kp.piece_len x (h x (by simp))
  have h2:=Kp.flat_len l fun y hy=>h y (List.mem_cons_of_mem _ hy)
  simp only[List.flatMap_cons,List.length_append,List.length_cons];omega
theorem Kp.flat_take{l:List (List UInt8)}{j:Nat}(hj:j<l.length):(l.take (j+1)).flatMap Kp.piece=(l.take j).flatMap Kp.piece++Kp.piece l[j]:=by
 rw[List.take_succ_eq_append_getElem hj,List.flatMap_append,List.flatMap_cons,List.flatMap_nil,List.append_nil]
theorem Zxm(hP:KPow w0)(hB:Below w0.heap.size w0 W)(kind word:List UInt8)(v:Value)(ins:List (List UInt8))(hx:XRow W v ins)(h1:kind.length<=3000)(h2:word.length<=3000)(h3:ins.length<=20)(h4:∀ x∈ins,x.length<=3000):
  Calls prog 234 #[.string (ba kind),.string (ba word),v] W fun e w'=>e=.returned (.string (ba (Kp.key kind word ins)))/\Below W.heap.size W w':=by
 have hPW:=Zlu hP hB;obtain⟨p,cap,rfl,hcap,hnn,hin⟩:=hx;have HX:=hid1 hin;have g0:Below W.heap.size W (W.alloc (.cells #[.pointer none,.slice none 0 0] 61)):=(Below.refl _ W).alloc (Nat.le_refl _) _;have b0:Lib.IsBuilderF 61 5 W.heap.size W.heap.size (Lib.byteCells []) (W.alloc (.cells #[.pointer none,.slice none 0 0] 61)):=Lib.IsBuilderF.of (Lib.fresh_isBuilder 61 5 W)
 have HA:=hid1 fun(V:World) (bs s:List UInt8) (gV:Below W.heap.size W V) (bV:Lib.IsBuilderF 61 5 W.heap.size W.heap.size (Lib.byteCells bs) V) (hl:bs.length<=100000) (hs:s.length<=3000)=>Ztp hPW gV W.heap.size bs s bV hl hs
 have HS:=hid1 fun(V:World) (bs:List UInt8) (hV:W.heap.size<=V.heap.size) (hb:Lib.IsBuilderF 61 5 W.heap.size W.heap.size (Lib.byteCells bs) V)=>Any.Builder_String_any_k lays169 Builder_Extra_169 W.heap.size W.heap.size bs V hb hV
 have hf1:=Kp.piece_len kind h1;have hf2:=Kp.piece_len word h2;have HFl:=hid1 fun j:Nat=>Kp.flat_len (ins.take j) fun x hx=>h4 x (List.mem_of_mem_take hx)
 have HH4:=hid1 h4;clear hP hB hin h4;generalize hW0:W.alloc (.cells #[.pointer none,.slice none 0 0] 61)=w1 at *;go_enter func234,ntmps234
 go_wp2_with fail;refine(HA.out w1 [] kind g0 b0 (by simp) h1).mono ?_
 rintro e w2 ⟨rfl,b2,g2⟩;have G2:=g0.trans g2;clear b0 g2;go_wp2_with fail;refine(HA.out w2 _ word G2 b2 (by simp;omega) h2).mono ?_
 rintro e w3 ⟨rfl,b3,g3⟩;have G3:=G2.trans g3;have HB3:=hid1 b3;clear b2 g3 b3;go_wp2;go_loopw [20] (fun iv wr=>∃ j:Nat,j<=ins.length/\iv=.int .i64 j/\Lib.IsBuilderF 61 5 W.heap.size W.heap.size (Lib.byteCells (Kp.piece kind++Kp.piece word++(ins.take j).flatMap Kp.piece)) wr/\Below W.heap.size W wr) (fun iv _=>ins.length - (intOf iv).toNat)
 case atStart=>exact⟨0,Nat.zero_le _,rfl,by simpa using HB3.out,G3⟩
 case round =>
  clear HB3 G3;obtain⟨j,hj,rfl,hb,hB⟩:=hrel;have HB:=hid1 hb;clear hb;have hfl:=HFl.out j;rw[List.length_take]at hfl;have j0:(0:Int)<=(j:Int):=by omega
  by_cases hlt:j<ins.length
  ·have j1:(j:Int)<(ins.length:Int):=by omega
   obtain⟨g,o,rfl,hg,hc⟩:=HX.out (by intro e;rw[e]at hlt;simp at hlt)
   have d0:=(hB.cell (p:=⟨g,o+j,none⟩) hg).trans (hc j hlt);have HF:=hid1 (HA.out wr _ ins[j] hB HB.out (by simp only[List.length_append];omega) (HH4.out _ (List.getElem_mem hlt)))
   have HT:=hid1 (Kp.flat_take hlt);clear hc HX HA HB HS;generalize ins[j]=x at *;go_wp2_with fail;refine HF.out.mono ?_;rintro e w5 ⟨rfl,b5,g5⟩;have HB5:=hid1 b5;have G5:=hB.trans g5;clear HF b5 g5;go_wp2;refine⟨⟨j+1,by omega,by go_num,?_,G5⟩,by simp[intOf];omega⟩
   have:=HB5.out;rw[HT.out];simpa using this
  ·have j1:(ins.length:Int)<=(j:Int):=by omega
   obtain rfl:j=ins.length:=by omega
   have hb:Lib.IsBuilderF 61 5 W.heap.size W.heap.size (Lib.byteCells (Kp.key kind word ins)) wr:=by
    have:=HB.out;rw[List.take_length]at this;exact this
   have HE:=hid1 (HS.out wr _ hB.size hb);clear HB HX HA hb HS;go_wp2_with fail;refine HE.out.mono ?_;rintro e w5 ⟨rfl,-,g5,-⟩;have G5:=hB.trans g5;clear HE g5;go_wp2;go_ret;exact⟨rfl,G5⟩
theorem Yci(hP:KPow W):Zvb W:=fun V hV kind word v ins hx h1 h2 h3 h4=>Zxm hP hV kind word v ins hx (by omega) (by omega) (by omega) fun x hx=>by have:=h4 x hx;omega
theorem Zpe(W:World)(q:Nat):Calls prog 68 #[.int .i64 q] W fun e w'=>e=.returned (.string (ba (Pl.file q)))/\w'=W:=by
 have hm:((q:Int)).tmod 3=((q%3:Nat):Int):=rfl;have h3:q%3=0\/q%3=1\/q%3=2:=by omega
 unfold Pl.file;rcases h3 with h | h | h
 ·rw[h]at hm;rw[if_pos h];have hm':((q:Int)).tmod 3=0:=hm;clear hm h;go_enter func68,ntmps68
  go_wp2;go_ret;exact⟨rfl,rfl⟩
 ·rw[h]at hm;rw[if_neg (by omega),if_pos h]
  have hm':((q:Int)).tmod 3=1:=hm;clear hm h;go_enter func68,ntmps68
  go_wp2;go_ret;exact⟨rfl,rfl⟩
 ·rw[h]at hm;rw[if_neg (by omega),if_neg (by omega)]
  have hm':((q:Int)).tmod 3=2:=hm;clear hm h;go_enter func68,ntmps68
  go_wp2;go_ret;exact⟨rfl,rfl⟩
namespace Pl
def bitN:Nat->Nat | 0=>16 | 1=>8 | 2=>4 | 3=>2 | 4=>1 | _=>0
theorem bits_and:∀(n:Fin 32) (k:Fin 5),bits .and .i64 ((n.1:Nat):Int) ((bitN k.1:Nat):Int)=if bit n.1 k.1=120 then ((bitN k.1:Nat):Int) else 0:=by decide
theorem bit_two(n k:Nat):bit n k=120\/bit n k=10:=by unfold bit;split <;> simp
theorem lets_take(n k:Nat)(hk:k<5):(lets n).take (k+1)=(lets n).take k++[bit n k]:=by
 have:k=0\/k=1\/k=2\/k=3\/k=4:=by omega
 rcases this with rfl | rfl | rfl | rfl | rfl <;> rfl
theorem bitN_half(k:Nat)(hk:k<5):((bitN k:Nat):Int).tdiv 2=((bitN (k+1):Nat):Int):=by
 have:k=0\/k=1\/k=2\/k=3\/k=4:=by omega
 rcases this with rfl | rfl | rfl | rfl | rfl <;> rfl
theorem bitN_pos(k:Nat)(hk:k<5):1<=bitN k/\bitN k<=16:=by
 have:k=0\/k=1\/k=2\/k=3\/k=4:=by omega
 rcases this with rfl | rfl | rfl | rfl | rfl <;> decide
end Pl
theorem Zio(w:World)(n:Nat)(hn:n<32):Calls prog 69 #[.int .i64 n] w fun e w'=>e=.returned (.string (ba (Pl.lets n)))/\Below w.heap.size w w':=by
 have g0:Below w.heap.size w (w.alloc (.cells #[.pointer none,.slice none 0 0] 61)):=(Below.refl _ w).alloc (Nat.le_refl _) _;have b0:Lib.IsBuilderF 61 5 w.heap.size w.heap.size [] (w.alloc (.cells #[.pointer none,.slice none 0 0] 61)):=Lib.IsBuilderF.of (Lib.fresh_isBuilder 61 5 w)
 have HC:Hid (∀(c:UInt8) (bs:List UInt8) V,bs.length<=100->w.heap.size<=V.heap.size->Lib.IsBuilderF 61 5 w.heap.size w.heap.size (Lib.byteCells bs) V->Calls prog 106 #[.pointer (some ⟨w.heap.size,0,none⟩),.int .u8 (c.toNat:Int)] V fun e w' =>
   e=.returned .nilIface/\Lib.IsBuilderF 61 5 w.heap.size w.heap.size (Lib.byteCells (bs++[c])) w'/\Below w.heap.size V w'):=hid1 fun c bs V hl hV hb=>by
  refine(Any.Builder_WriteByte_k lays167 Builder_Extra_167 w.heap.size w.heap.size (Lib.byteCells bs) (c.toNat:Int) V hb (by rw[Lib.byteCells_length];omega) hV).mono ?_
  rintro e w' ⟨rfl,h1,h2,h3⟩;refine⟨rfl,.inr ?_,h2⟩;rw[Lib.byteCells_append];exact h1
 have HS:Hid (∀ V,w.heap.size<=V.heap.size->Lib.IsBuilderF 61 5 w.heap.size w.heap.size (Lib.byteCells (Pl.lets n)) V->Calls prog 32 #[.pointer (some ⟨w.heap.size,0,none⟩)] V fun e w'=>e=.returned (.string (ba (Pl.lets n)))/\Below w.heap.size V w'):=hid1 fun V hV hb=>by
  refine(Builder_String_any_k w.heap.size w.heap.size (Pl.lets n) V hb hV).mono ?_;rintro e w' ⟨rfl,_,h2,_⟩;exact⟨rfl,h2⟩
 have HB0:=hid1 (And.intro g0 b0);clear g0 b0;go_enter func69,ntmps69
 go_wp2;go_loopw [4] (fun bv wr=>∃ k:Nat,k<=5/\bv=.int .i64 ((Pl.bitN k:Nat):Int)/\Lib.IsBuilderF 61 5 w.heap.size w.heap.size (Lib.byteCells ((Pl.lets n).take k)) wr/\Below w.heap.size w wr) (fun bv _=>(intOf bv).toNat)
 case atStart=>exact⟨0,by omega,rfl,HB0.out.2,HB0.out.1⟩
 case round =>
  clear HB0;obtain⟨k,hk,rfl,hbl,hB⟩:=hrel;by_cases hlt:k<5
  ·have hb1:=Pl.bitN_pos k hlt;have hhalf:=Pl.bitN_half k hlt;have hand:=Pl.bits_and ⟨n,hn⟩ ⟨k,hlt⟩;have HTk:=hid1 (Pl.lets_take n k hlt);have hkl:((Pl.lets n).take k).length<=100:=by simp[Pl.lets];omega
   have HHalf:Hid (((Pl.bitN (k+1):Nat))<Pl.bitN k):=hid1 (by
    have:k=0\/k=1\/k=2\/k=3\/k=4:=by omega
    rcases this with rfl | rfl | rfl | rfl | rfl <;> decide)
   have p1:(0:Int)<((Pl.bitN k:Nat):Int):=by omega
   have HBl:=hid1 (And.intro hbl hB);have ho:w.heap.size<=wr.heap.size:=hB.size;simp only at hand;have HW2:Hid (wrap64 ((Pl.bitN (k+1):Nat):Int)=((Pl.bitN (k+1):Nat):Int)):=hid1 (by
    have:k=0\/k=1\/k=2\/k=3\/k=4:=by omega
    rcases this with rfl | rfl | rfl | rfl | rfl <;> exact(by unfold wrap64;decide))
   have HEnd:Hid (∀ w2,Lib.IsBuilderF 61 5 w.heap.size w.heap.size (Lib.byteCells ((Pl.lets n).take k++[Pl.bit n k])) w2->Below w.heap.size wr w2->(∃ j,j<=5/\Value.int .i64 (wrap64 ((Pl.bitN (k+1):Nat):Int))=Value.int .i64 ((Pl.bitN j:Nat):Int)/\Lib.IsBuilderF 61 5 w.heap.size w.heap.size (Lib.byteCells ((Pl.lets n).take j)) w2/\Below w.heap.size w w2)/\(intOf (Value.int .i64 (wrap64 ((Pl.bitN (k+1):Nat):Int)))).toNat<(intOf (Value.int .i64 ((Pl.bitN k:Nat):Int))).toNat):=hid1 fun w2 h1 h2=>by
    rw[HW2.out];refine⟨⟨k+1,by omega,rfl,by rw[HTk.out];exact h1,HBl.out.2.trans h2⟩,?_⟩
    have:=HHalf.out;simp[intOf];omega
   clear hbl hB hb1;rcases Pl.bit_two n k with hb | hb
   ·rw[hb]at HEnd hand;rw[if_pos rfl]at hand;generalize Pl.bitN (k+1)=b2 at *;generalize hbk:Pl.bitN k=b1 at *;go_wp2_with fail;refine(HC.out 120 _ wr hkl ho HBl.out.1).mono ?_;rintro e w2 ⟨rfl,B2,h2⟩;go_wp2;exact HEnd.out w2 B2 h2
   ·rw[hb]at HEnd hand;rw[if_neg (by decide)]at hand
    generalize Pl.bitN (k+1)=b2 at *;generalize hbk:Pl.bitN k=b1 at *;go_wp2_with fail;refine(HC.out 10 _ wr hkl ho HBl.out.1).mono ?_;rintro e w2 ⟨rfl,B2,h2⟩;go_wp2;exact HEnd.out w2 B2 h2
  ·obtain rfl:k=5:=by omega
   have e0:((Pl.bitN 5:Nat):Int)=0:=rfl;have HS1:=hid1 (HS.out wr hB.size hbl);clear HS HC;go_wp2_with fail;refine HS1.out.mono ?_;rintro e w2 ⟨rfl,h2⟩;go_wp2;go_ret;exact⟨rfl,hB.trans h2⟩
variable {es:Nat->Addr} {At:(Nat->Prop)->World->Value->Nat->Cf.Ens->Prop}
def YOwn(yb:Nat)(L:YL)(j:Nat):Prop:=j=yb\/j=L.tb\/L.o1=some j\/j=L.ob\/L.o2=some j\/L.SC j\/L.R j
open Classical in
theorem YdAt.stay(HC:Zao es At){B:Nat}{W W':World}{yb:Nat}{L:YL}{y:Bf.Yd}(h:YdAt At B W yb L y)(hz:W.heap.size<=W'.heap.size)(hb:∀ j,j<W.heap.size->YOwn yb L j->W'.heap[j]? =W.heap[j]?):YdAt At B W' yb L y:=by
 have hk:∀ j,YOwn yb L j->(fun j=>if YOwn yb L j then L.k j else 9) j=L.k j:=fun j hj=>if_pos hj
 have h2:YdAt At B W yb { L with k:=fun j=>if YOwn yb L j then L.k j else 9 } y :=
  ⟨h.row,h.low,h.t,h.o,h.ca,h.cp,h.lowC,h.rows,h.rlt,(hk _ (.inl rfl)).trans h.ky,(hk _ (.inr (.inl rfl))).trans h.kt,fun j hj=>(hk j (.inr (.inr (.inl hj)))).trans (h.k1 j hj),(hk _ (.inr (.inr (.inr (.inl rfl))))).trans h.ko,fun j hj=>(hk j (.inr (.inr (.inr (.inr (.inl hj)))))).trans (h.k2 j hj),fun j hj=>(hk j (.inr (.inr (.inr (.inr (.inr (.inl hj))))))).trans (h.kc j hj),fun j hj=>(hk j (.inr (.inr (.inr (.inr (.inr (.inr hj))))))).trans (h.kr j hj)⟩
 have h3:=h2.aside HC (W':=W') ⟨hz,fun j hj hn=>hb j hj (Classical.byContradiction fun ho=>hn (if_neg ho))⟩
 exact⟨h3.row,h3.low,h3.t,h3.o,h3.ca,h3.cp,h3.lowC,h3.rows,h3.rlt,h.ky,h.kt,h.k1,h.ko,h.k2,h.kc,h.kr⟩
variable {yb:Nat}{L:YL}
theorem YdAt.own_k{y:Bf.Yd}(h:YdAt At B W yb L y){j:Nat}(hj:YOwn yb L j):L.k j<=4:=by
 rcases hj with rfl | rfl | e | rfl | e | e | e
 ·rw[h.ky];omega
 ·rw[h.kt];omega
 ·rw[h.k1 j e];omega
 ·rw[h.ko];omega
 ·rw[h.k2 j e];omega
 ·rw[h.kc j e];omega
 ·rw[h.kr j e];omega
theorem MapAt.low{tb:Nat}{fs:Tf.Fs}{j:Nat}(h:MapAt B w tb (some j) fs):B<=j:=h.1
theorem YdAt.own_low{y:Bf.Yd}(h:YdAt At B W yb L y)(hR:∀ j,L.R j->B<=j){j:Nat}(hj:YOwn yb L j):B<=j:=by
 rcases hj with rfl | rfl | e | rfl | e | e | e
 ·exact h.low
 ·exact h.t.low
 ·have:=h.t.isMap;rw[e]at this;exact this.low
 ·exact h.o.low
 ·have:=h.o.isMap;rw[e]at this;exact this.low
 ·exact h.lowC j e
 ·exact hR j e
structure YStep(W w':World)(L L':YL):Prop where
 size:W.heap.size<=w'.heap.size
 rest:∀ j,j<W.heap.size->L.k j=9->w'.heap[j]? =W.heap[j]?
 kk:∀ j,j<W.heap.size->L'.k j=L.k j
theorem YStep.refl(W:World)(L:YL):YStep W W L L:=⟨Nat.le_refl _,fun _ _ _=>rfl,fun _ _=>rfl⟩
theorem YStep.trans{W V U:World}{L M N:YL}(h:YStep W V L M)(h':YStep V U M N):YStep W U L N :=
 ⟨Nat.le_trans h.size h'.size,fun j hj hk=>(h'.rest j (Nat.lt_of_lt_of_le hj h.size) ((h.kk j hj).trans hk)).trans (h.rest j hj hk),fun j hj=>(h'.kk j (Nat.lt_of_lt_of_le hj h.size)).trans (h.kk j hj)⟩
variable {V:World}
theorem YStep.below(L:YL)(h:Below W.heap.size W V):YStep W V L L:=⟨h.size,fun j hj _=>h.block j hj,fun _ _=>rfl⟩
theorem YdAt.files2(HC:Zao es At){B:Nat}{W W':World}{yb:Nat}{L:YL}{y:Bf.Yd}(h:YdAt At B W yb L y){fs:Tf.Fs}{o':Option Nat}(hT:TreeAt B W' L.tb fs o')(hon:OldNew W L.o1 o')(hK:Kept (tS L.tb L.o1) W W'):∃ L',YdAt At B W' yb L' { y with fs:=fs }/\YStep W W' L L' :=
 ⟨_,h.files HC hT hon hK,hK.size,fun j hj h9=>hK.block j hj fun e=>e.elim (fun e=>by rw[e,h.kt]at h9;omega) fun e=>by rw[h.k1 j e]at h9;omega,fun j hj=>L.more_old hj⟩
theorem YdAt.made2{L':YL}{y:Bf.Yd}(h:YdAt At B W yb L y)(hz:W.heap.size<=w'.heap.size)(hr:∀ j,j<W.heap.size->j≠L.ob->L.o2≠some j->¬ L.SC j->w'.heap[j]? =W.heap[j]?)(hk:∀ j,j<W.heap.size->L'.k j=L.k j):YStep W w' L L' :=
 ⟨hz,fun j hj h9=>hr j hj (fun e=>by rw[e,h.ko]at h9;omega) (fun e=>by rw[h.k2 j e]at h9;omega) (fun e=>by rw[h.kc j e]at h9;omega),hk⟩
variable {es:Nat->Addr} {At:(Nat->Prop)->World->Value->Nat->Cf.Ens->Prop}
theorem Zoh(HC:Zao es At){B:Nat}{W:World}{yb:Nat}{L:YL}{y:Bf.Yd}(h:YdAt At B W yb L y)(hG:GraphW W es)(v:Value)(l:List Ru)(hrow:RRow W v l)(hl:l.length<=1000)(hS:∀ x∈l,x.Small):
  Calls prog 19 #[Ptr yb,v] W fun e w'=>∃ ev,e=.returned ev/\Below B W w' /\
   (((∃ t u,ev=.iface t u)/\¬ ((Ru.fault l).1=0/\(Ru.order l allB1).isSome=true)/\Below W.heap.size W w') \/
    (ev=.nilIface/\(Ru.fault l).1=0/\(Ru.order l allB1).isSome=true/\∃ L',L'.tb=L.tb/\L'.ob=L.ob/\((∀ j,L'.R j->W.heap.size<=j)/\L'.o1=L.o1/\L'.o2=L.o2/\L'.SC=L.SC)/\YdAt At B w' yb L' { y with l:=l })):=by
 have HO:=hid1 (Zqp hG v l hrow hl hS);have HCp:=hid1 fun(V:World) (g:Below W.heap.size W V)=>Zrp v l (hrow.below g) hl fun x hx=>by have:=(hS x hx).many;omega
 have HY:=hid1 h;have hBW:B<=W.heap.size:=by have:=h.low;have:=h.lt;omega
 have HCs:=hid1 HC;obtain⟨pl,cl,rfl,-⟩:=hrow;clear h hG hS HC;go_enter func19,ntmps19
 go_wp2_with fail;refine HO.out.mono ?_;rintro e w1 ⟨u1,ev,rfl,g1,hT⟩;clear HO;have hcase:(∃ p n c,u1=.slice p n c)/\((∃ t x,ev=.iface t x)/\¬ ((Ru.fault l).1=0/\(Ru.order l allB1).isSome=true)\/(ev=.nilIface/\(Ru.fault l).1=0/\(Ru.order l allB1).isSome=true)):=by
  rcases hT with ⟨hf,hE,p,c,rfl⟩ | ⟨hf,ho,rfl,p,c,rfl⟩ | ⟨hf,o,ho,rfl,p,c,rfl,-⟩
  ·exact⟨⟨_,_,_,rfl⟩,.inl ⟨hE.some hf,fun e=>hf e.1⟩⟩
  ·exact⟨⟨_,_,_,rfl⟩,.inl ⟨⟨_,_,rfl⟩,fun e=>by have:=e.2;rw[ho]at this;cases this⟩⟩
  ·exact⟨⟨_,_,_,rfl⟩,.inr ⟨rfl,hf,by rw[ho];rfl⟩⟩
 clear hT;obtain⟨⟨p1,n1,c1,rfl⟩,hcase⟩:=hcase;rcases hcase with ⟨⟨t,x,rfl⟩,hbad⟩ | ⟨rfl,hok⟩
 ·have HB:=hid1 hbad;clear hbad HCp HY;go_wp2;go_ret;exact⟨_,rfl,g1.mono hBW,.inl ⟨⟨_,_,rfl⟩,HB.out,g1⟩⟩
 ·have HOk:=hid1 hok;have HC1:=hid1 (HCp.out w1 g1);clear hok HCp;go_wp2_with fail;refine HC1.out.mono ?_;rintro e w2 ⟨v2,rfl,g2,hN⟩;have G2:=Zac g1 g2;have HN:=hid1 hN;obtain⟨p2,c2,rfl,-⟩:=hN w2 (Nat.le_refl _) fun _ _ _=>rfl
  have hy2:=HY.out.below HCs.out G2;have d2:=hy2.c2;have f2:w2.frozen? ⟨yb,2,none⟩=false:=by simp[World.frozen?,hy2.row]
  have HR:Hid ((w2.setCell ⟨yb,2,none⟩ (.slice p2 l.length c2)).heap[yb]? =some (.cells #[Ptr L.tb,Ptr L.ob,.slice p2 l.length c2,L.cv] 57 (0,0))):=hid1 (by
   rw[heap_setCell_same w2 yb 2 _ _ _ hy2.row];rfl)
  have hst:∀(a:Addr) (m:Mode) (W:World),Sem.run prog (store a (.slice p2 l.length c2) m) W=stored prog W a (.slice p2 l.length c2) m:=fun a m W=>run_store _ W a _ m rfl
  have hlow:=HY.out.low;have HG1:=hid1 g1;clear HC1 hN hy2 g1 g2;go_wp2;go_ret;have hNew:∀ V:World,w2.heap.size<=V.heap.size->(∀ j,W.heap.size<=j->j<w2.heap.size->V.heap[j]? =w2.heap[j]?)->RRow V (.slice p2 l.length c2) l:=fun V hz hV=>HN.out V hz fun j h1 h2=>hV j (by have:=HG1.out.size;omega) h2
  refine⟨_,rfl,(G2.mono hBW).setCell (p:=⟨yb,2,none⟩) hlow _,.inr ⟨rfl,HOk.out.1,HOk.out.2,_,?_,?_,?_,HY.out.ruled HCs.out G2 hNew HR.out⟩⟩
  ·rfl
  ·rfl
  ·exact⟨fun j hj=>hj.1,rfl,rfl,rfl⟩
variable {es:Nat->Addr} {At:(Nat->Prop)->World->Value->Nat->Cf.Ens->Prop} {BAt:(Nat->Prop)->World->Value->Value->Bf.Bd->Prop}
def PBase(B:Nat)(W:World)(es:Nat->Addr):Prop:=∃ w0:World,w0.heap.size=B/\BuildW w0 es/\TErr w0 (erOf es)/\E12 w0 es/\Below B w0 W
theorem PBase.of(h:BuildW W es)(hE:TErr W (erOf es))(h12:E12 W es):PBase W.heap.size W es:=⟨W,rfl,h,hE,h12,Below.refl _ _⟩
theorem PBase.y(h:PBase B W es):YBase B W es:=by obtain⟨w0,h1,h2,h3,_,h4⟩:=h;exact⟨w0,h1,h2,h3,h4⟩
theorem PBase.e12(h:PBase B W es):E12 W es:=by obtain⟨w0,rfl,_,_,h3,h4⟩:=h;exact h3.below h4
theorem PBase.trans{B:Nat}{W W':World}(h:PBase B W es)(hb:Below B W W'):PBase B W' es:=by obtain⟨w0,h1,h2,h3,h4,h5⟩:=h;exact⟨w0,h1,h2,h3,h4,h5.trans hb⟩
theorem Yed(c:Nat)(hc:c<=12)(w:World)(hE:E12 w es):Calls prog 40 #[erOf es c] w fun e w'=>e=.returned (.tuple #[.int .i64 (c:Int),.int .i64 (-1)])/\Below w.heap.size w w':=by
 cases c with
 | zero=>exact(Ydh w).mono fun _ _ ⟨he,hw⟩=>⟨he,hw ▸ Below.refl _ _⟩
 | succ k =>
  obtain⟨c,t,hr⟩:=hE.rows k (by omega)
  have:=Ydg (es k) es c t w hE hr;rwa[Yam hE k (by omega)]at this
theorem Zkf(HC:Zao es At)(HB:Builds es Af.actO At BAt){B:Nat}{W:World}{yb:Nat}{L:YL}{y:Bf.Yd}(h:YdAt At B W yb L y)(hY:YBase B W es)(hf:Bf.YFine Pl.l 8 y)(ov:Value)(outs:List (List UInt8))(hov:XRow W ov outs)(hol:outs.length<=100)(hor:∀ p∈outs,∃ x∈Pl.l,x.out=p):
  Calls prog 71 #[Ptr yb,ov] W fun e w'=>e=.returned .nilIface/\Below B W w'/\∃ L',YStep W w' L L'/\YdAt At B w' yb L' (y.makeP outs):=by
 have HM:=hid1 (Zrq HC HB h hY (hf.ok Pl.sheet) ov outs hov hol (by rw[hf.hl];exact hor))
 have HY:=hid1 h;have HCs:=hid1 HC;have hBW:B<=W.heap.size:=by have:=h.low;have:=h.lt;omega
 obtain⟨p,c,rfl,-⟩:=hov;go_enter func71,ntmps71
 go_wp2_with fail;refine HM.out.mono ?_;rintro e w1 ⟨rfl,g1,hr,L1,-,-,hk,hy1⟩;have hz:W.heap.size<=w1.heap.size:=g1.size;have hS:=HY.out.made2 hz hr hk
 have gA:Below w1.heap.size w1 (w1.alloc (.cells #[.int .i64 ((y.made outs).1.ran:Nat),.int .i64 ((y.made outs).1.hits:Nat),.int .i64 ((y.made outs).1.fails:Nat),.int .i64 ((y.made outs).1.lefts:Nat)] 181)):=(Below.refl _ w1).alloc (Nat.le_refl _) _;have HE:=hid1 (And.intro (g1.trans (gA.mono (by omega))) (And.intro (hS.trans (YStep.below L1 gA)) (hy1.below HCs.out gA)))
 go_wp2;go_ret;exact⟨rfl,HE.out.1,L1,HE.out.2.1,HE.out.2.2⟩
theorem Pl.outN_at(q:Nat):∃ x∈Pl.l,x.out=Pl.outN q:=by
 unfold Pl.outN;have h:q%6<Pl.l.length:=Nat.mod_lt _ (by decide)
 refine⟨Pl.l[q%6],List.getElem_mem h,?_⟩;rw[List.getD_eq_getElem?_getD,List.getElem?_eq_getElem h]
 rfl
theorem Yba{s:List UInt8}:XRow (W.alloc (.cells #[.string (ba s)] 9)) (.slice (some ⟨W.heap.size,0,none⟩) 1 1) [s] :=
 Zch (l:=[s]) (Zbv W _)
theorem Zpd(HC:Zao es At)(HB:Builds es Af.actO At BAt){B:Nat}{W:World}{yb:Nat}{L:YL}{y:Bf.Yd}(h:YdAt At B W yb L y)(hY:YBase B W es)(hf:Bf.YFine Pl.l 8 y)(wh q:Nat)(hw:wh<8)(hq:q<=1152921504606846976):
  Calls prog 41 #[Ptr yb,.int .i64 wh,.int .i64 q] W fun e w'=>e=.returned (erOf es (Pl.codeQ y wh q))/\Below B W w'/\∃ L',YStep W w' L L'/\YdAt At B w' yb L' (Pl.stepQ y wh q):=by
 have hBW:B<=W.heap.size:=by have:=h.low;have:=h.lt;omega
 have HY:=hid1 h;have HCs:=hid1 HC;have HTr:=hid1 (Zhz h);have HFi:=hid1 (Zpe W q);have hfl:(Pl.file q).length<=1000000:=by
  unfold Pl.file;by_cases h0:q%3=0
  ·rw[if_pos h0];decide
  ·rw[if_neg h0];by_cases h1:q%3=1
   ·rw[if_pos h1];decide
   ·rw[if_neg h1];decide
 have hd3:((q:Int)).tdiv 3=((q/3:Nat):Int):=rfl;have hd3':wrap64 ((q/3:Nat):Int)=((q/3:Nat):Int):=by unfold wrap64;omega
 have hm32:(((q/3:Nat):Int)).tmod 32=((q/3%32:Nat):Int):=rfl;have HLt:=hid1 (Zio W (q/3%32) (Nat.mod_lt _ (by decide)))
 have HPt:=hid1 fun(V:World) (g:Below W.heap.size W V)=>Zmd (h.t.below g) (hY.trans (g.mono hBW)).errs (fun f hf'=>by have:=Zci hf.fs f hf';omega) (by have:=hf.fs.few;omega) (Pl.file q) (Pl.lets (q/3%32)) hfl
 have HRm:=hid1 (Zgd h.t hY.errs (Pl.file q) hfl);have HMk:=hid1 fun(V:World) (g:Below W.heap.size W V) (ov:Value) (outs:List (List UInt8)) (hov:XRow V ov outs) (hol:outs.length<=100) (hor:∀ p∈outs,∃ x∈Pl.l,x.out=p)=>Zkf HC HB (h.below HC g) (hY.trans (g.mono hBW)) hf ov outs hov hol hor
 have HSh:=hid1 (Zcx W);have hcs:wh<4\/wh=4\/wh=5\/wh=6\/wh=7:=by omega
 clear h hY hf HC HB;rcases hcs with hlt | rfl | rfl | rfl | rfl
 ·have e1:Pl.codeQ y wh q=Tf.putCode pathB y.fs (Pl.file q) (Pl.lets (q/3%32)):=if_pos hlt;have e2:Pl.stepQ y wh q={ y with fs:=Tf.putF pathB y.fs (Pl.file q) (Pl.lets (q/3%32)) }:=if_pos hlt
  rw[e1,e2];have hc4:wh=0\/wh=1\/wh=2\/wh=3:=by omega
  clear e1 e2 HRm HMk HSh hlt hw;generalize q/3%32=n at *;generalize q/3=q3 at *;generalize Pl.file q=fl at *;generalize Pl.lets n=lt at *;rcases hc4 with rfl | rfl | rfl | rfl
  all_goals
   go_enter func41,ntmps41
   go_wp2_with fail;refine HTr.out.mono ?_;rintro e w1 ⟨rfl,rfl⟩;go_wp2_with fail;refine HFi.out.mono ?_;rintro e w2 ⟨rfl,rfl⟩;go_wp2_with fail;refine HLt.out.mono ?_;rintro e w3 ⟨rfl,g3⟩;go_wp2_with fail;refine(HPt.out w3 g3).mono ?_;rintro e w4 ⟨rfl,⟨o',hon,hT⟩,hB,hK⟩;obtain⟨L4,hy4,hS4⟩:=(HY.out.below HCs.out g3).files2 HCs.out hT hon hK
   have HE:=hid1 (And.intro ((g3.mono hBW).trans hB) (And.intro ((YStep.below L g3).trans hS4) hy4));clear hy4 hS4 hT hon hK hB HPt HLt HFi HTr;go_wp2;go_ret;exact⟨rfl,HE.out.1,L4,HE.out.2.1,HE.out.2.2⟩
 ·have e1:Pl.codeQ y 4 q=if Tf.hasP y.fs (Pl.file q) then 0 else 6:=rfl
  have e2:Pl.stepQ y 4 q={ y with fs:=Tf.del y.fs (Pl.file q) }:=rfl
  rw[e1,e2];clear e1 e2 HPt HMk HSh HLt hw hd3 hd3' hm32;generalize Pl.file q=fl at *;generalize (if Tf.hasP y.fs fl=true then 0 else 6)=cd at *
  go_enter func41,ntmps41
  go_wp2_with fail;refine HTr.out.mono ?_;rintro e w1 ⟨rfl,rfl⟩;go_wp2_with fail;refine HFi.out.mono ?_;rintro e w2 ⟨rfl,rfl⟩;go_wp2_with fail;refine HRm.out.mono ?_;rintro e w4 ⟨rfl,⟨o',hon,hT⟩,hB,hK⟩;obtain⟨L4,hy4,hS4⟩:=HY.out.files2 HCs.out hT hon hK;have HE:=hid1 (And.intro hB (And.intro hS4 hy4));clear hy4 hS4 hT hon hK hB HRm HFi HTr;go_wp2;go_ret
  exact⟨rfl,HE.out.1,L4,HE.out.2.1,HE.out.2.2⟩
 ·have e1:Pl.codeQ y 5 q=0:=rfl;have e2:Pl.stepQ y 5 q=y.makeP []:=rfl;rw[e1,e2];have HM:=hid1 (HMk.out W (Below.refl _ _) (.slice none 0 0) [] (XRow.nil _) (by simp) (fun p hp=>by simp at hp))
  clear e1 e2 HPt HMk HSh HLt hw hd3 hd3' hm32 HRm HFi HTr;go_enter func41,ntmps41
  go_wp2_with fail;refine HM.out.mono ?_;rintro e w4 ⟨rfl,hB,L4,hS4,hy4⟩;have HE:=hid1 (And.intro hB (And.intro hS4 hy4));clear hy4 hS4 hB HM;go_wp2;go_ret;exact⟨rfl,HE.out.1,L4,HE.out.2.1,HE.out.2.2⟩
 ·have e1:Pl.codeQ y 6 q=0:=rfl;have e2:Pl.stepQ y 6 q=y.makeP [Pl.outN q]:=rfl;rw[e1,e2];have hm6:((q:Int)).tmod 6=((q%6:Nat):Int):=rfl;have hq6:q%6<6:=Nat.mod_lt _ (by decide)
  have hq6l:q%6<Pl.l.length:=hq6;have HON:=hid1 (Pl.outN_at q);have hon':Pl.outN q=(Pl.l[q%6]).out:=by
   unfold Pl.outN;rw[List.getD_eq_getElem?_getD,List.getElem?_eq_getElem hq6l]
   rfl
  have HOe:=hid1 hon';clear e1 e2 HPt HLt hw hd3 hd3' hm32 HRm HFi HTr hon';go_enter func41,ntmps41
  go_wp2_with fail;refine HSh.out.mono ?_;rintro e w1 ⟨v,rfl,g1,hN⟩;obtain⟨p1,c1,e1,hc1,hp1,hrr⟩:=hN.row;obtain⟨gr,or,rfl,hgr,hru⟩:=hrr (by decide)
  subst e1;have d0:=(hru (q%6) hq6l).1;rw[<- HOe.out]at d0;have gA:Below w1.heap.size w1 (w1.alloc (.cells #[.string (ba (Pl.outN q))] 9)):=(Below.refl _ w1).alloc (Nat.le_refl _) _;have G1:=Zac g1 gA;have HM:=hid1 (HMk.out _ G1 _ [Pl.outN q] Yba (by simp) (fun p hp=>by obtain rfl:=List.mem_singleton.1 hp;exact HON.out))
  have l6n:Pl.l.length=6:=rfl;have q6i:((q%6:Nat):Int)<6:=by omega
  have q6j:(0:Int)<=((q%6:Nat):Int):=by omega
  have HG1:=hid1 G1;clear hN hru HSh HMk g1 gA G1 hrr;generalize q%6=r at *;generalize hou:Pl.outN q=ou at *;have HOU:=hid1 hou;clear hou;go_wp2_with fail;refine HM.out.mono ?_;rintro e w4 ⟨rfl,hB,L4,hS4,hy4⟩;have HE:=hid1 (And.intro ((HG1.out.mono hBW).trans hB) (And.intro ((YStep.below L HG1.out).trans hS4) hy4));clear hy4 hS4 hB HM;go_wp2;go_ret
  exact⟨rfl,HE.out.1,L4,HE.out.2.1,by rw[HOU.out];exact HE.out.2.2⟩
 ·have e1:Pl.codeQ y 7 q=0:=rfl;have e2:Pl.stepQ y 7 q=y.makeP [[104,100],[99,110,116]]:=rfl;rw[e1,e2];have gA:Below W.heap.size W (W.alloc (.cells #[.string ⟨#[104,100]⟩,.string ⟨#[99,110,116]⟩] 9)):=(Below.refl _ W).alloc (Nat.le_refl _) _
  have HM:=hid1 (HMk.out (W.alloc (.cells #[.string ⟨#[104,100]⟩,.string ⟨#[99,110,116]⟩] 9)) gA (.slice (some ⟨W.heap.size,0,none⟩) 2 2) [[104,100],[99,110,116]] (Zch (l:=[[104,100],[99,110,116]]) (Zbv W _)) (by simp) (fun p hp=>by
   simp only[List.mem_cons,List.not_mem_nil,or_false]at hp;rcases hp with rfl | rfl
   ·exact Pl.outN_at 5
   ·exact Pl.outN_at 4))
  have HGA:=hid1 gA;clear e1 e2 HPt HMk HSh HLt hw hd3 hd3' hm32 HRm HFi HTr gA;go_enter func41,ntmps41
  go_wp2_with fail;refine HM.out.mono ?_;rintro e w4 ⟨rfl,hB,L4,hS4,hy4⟩;have HE:=hid1 (And.intro ((HGA.out.mono hBW).trans hB) (And.intro ((YStep.below L HGA.out).trans hS4) hy4));clear hy4 hS4 hB HM;go_wp2;go_ret;exact⟨rfl,HE.out.1,L4,HE.out.2.1,HE.out.2.2⟩
theorem Zkg(HC:Zao es At)(HB:Builds es Af.actO At BAt){B:Nat}{W:World}{yb:Nat}{L:YL}{y:Bf.Yd}(h:YdAt At B W yb L y)(hY:PBase B W es)(hf:Bf.YFine Pl.l 8 y)(v:Int)(hv: -9223372036854775808<=v/\v<=9223372036854775807):
  Calls prog 21 #[Ptr yb,.int .i64 v] W fun e w'=>e=.returned (.int .i64 (Pl.ans y v))/\Below B W w'/\∃ L',YStep W w' L L'/\YdAt At B w' yb L' (Pl.step y v):=by
 unfold Pl.ans Pl.step;by_cases hn:v<0
 ·rw[if_pos hn,if_pos hn];have HY:=hid1 h;go_enter func21,ntmps21
  go_wp2;go_ret;exact⟨rfl,Below.refl _ _,L,YStep.refl _ _,HY.out⟩
 ·rw[if_neg hn,if_neg hn];obtain⟨n,rfl⟩:∃ n:Nat,v=(n:Int):=⟨v.toNat,by omega⟩
  rw[show((n:Nat):Int).toNat=n from rfl]
  have HSt:=hid1 (Zpd HC HB h hY.y hf (n%8) (n/8) (Nat.mod_lt _ (by decide)) (by omega))
  have hm8:((n:Int)).tmod 8=((n%8:Nat):Int):=rfl;have hd8:((n:Int)).tdiv 8=((n/8:Nat):Int):=rfl;have hd8':wrap64 ((n/8:Nat):Int)=((n/8:Nat):Int):=by unfold wrap64;omega
  have hcl:=Pl.codeQ_le y (n%8) (n/8);have HP:=hid1 hY;have HCs:=hid1 HC;have hBW:B<=W.heap.size:=by have:=h.low;have:=h.lt;omega
  have n0:¬ ((n:Int)<0):=by omega
  generalize n%8=wh at *;generalize n/8=q at *;go_enter func21,ntmps21
  go_wp2_with fail;refine HSt.out.mono ?_;rintro e w1 ⟨rfl,g1,L1,hS1,hy1⟩;have HCd:=hid1 (Yed (es:=es) (Pl.codeQ y wh q) (by omega) w1 (HP.out.trans g1).e12)
  have HE:=hid1 (And.intro hS1 hy1);generalize hgc:Pl.codeQ y wh q=c at *;have HGC:=hid1 hgc;go_wp2_with fail;refine HCd.out.mono ?_;rintro e w2 ⟨rfl,g2⟩;have z1:=g1.size;have HE2:=hid1 (And.intro (g1.trans (g2.mono (by omega))) (And.intro (HE.out.1.trans (YStep.below L1 g2)) (HE.out.2.below HCs.out g2)))
  go_wp2;go_ret;exact⟨by rw[HGC.out];rfl,HE2.out.1,L1,HE2.out.2.1,HE2.out.2.2⟩
abbrev zv(x:Int):Value:=.int .i64 x
def QRow(w:World)(v:Value)(l:List Int):Prop :=
 ∃ p cap,v=.slice p l.length cap/\l.length<=cap/\(p=none->cap=0)/\(l≠[]->∃ g o,p=some ⟨g,o,none⟩/\g<w.heap.size/\∀ j (hj:j<l.length),w.cell? ⟨g,o+j,none⟩=some (.int .i64 l[j]))
variable {v:Value}
theorem QRow.below{l:List Int}(h:QRow w v l)(hb:Below w.heap.size w w'):QRow w' v l:=by
 obtain⟨p,cap,rfl,h0,hn,h1⟩:=h;refine⟨p,cap,rfl,h0,hn,fun hl=> ?_⟩
 obtain⟨g,o,rfl,hg,hc⟩:=h1 hl;exact⟨g,o,rfl,Nat.lt_of_lt_of_le hg hb.size,fun j hj=>Zaa (hc j hj) hb⟩
theorem QRow.kept{l:List Int}(h:QRow w v l)(hz:w.heap.size<=V.heap.size)(hb:l≠[]->∀ g o n c,v=.slice (some ⟨g,o,none⟩) n c->g<w.heap.size->V.heap[g]? =w.heap[g]?):QRow V v l:=by
 obtain⟨p,cap,rfl,h0,hn,h1⟩:=h;refine⟨p,cap,rfl,h0,hn,fun hl=> ?_⟩
 obtain⟨g,o,rfl,hg,hc⟩:=h1 hl;exact⟨g,o,rfl,Nat.lt_of_lt_of_le hg hz,fun j hj=>(World.cell?_of_block (a:=⟨g,o+j,none⟩) (hb hl g o _ _ rfl hg)).trans (hc j hj)⟩
theorem QRow.of_owns{l:List Int}(h:w.ownsRow B 3 1 v l.length (l.map zv)):QRow w v l/\∀ g o n c,v=.slice (some ⟨g,o,none⟩) n c->B<=g:=by
 refine⟨?_,fun g o n c e=>by subst e;exact Zbw h g rfl⟩
 rcases h.2 with ⟨rfl,hn⟩ | ⟨g,cap,cur,rfl,_,hb,h1,_⟩
 ·obtain rfl:l=[]:=by simpa using hn
  exact⟨none,0,rfl,Nat.le_refl _,fun _=>rfl,fun h=>absurd rfl h⟩
 ·refine⟨some ⟨g,0,none⟩,cap,rfl,h1,fun h=>(by cases h),fun _=>⟨g,0,rfl,(Array.getElem?_eq_some_iff.1 hb).1,fun j hj=> ?_⟩⟩
  rw[Nat.zero_add,World.ownsRow.cellAt h j (by omega)]
  simp[hj]
theorem Zmc(a b:Value)(l:List Int)(ha:QRow w a l)(hb:QRow w b l)(hl:l.length<=1000):
  Calls prog 7 #[a,b] w fun e w'=>e=.returned (.bool true)/\∃ q,w'=w.drewN q:=by
 obtain⟨pa,ca,rfl,-,-,ha⟩:=ha;obtain⟨pb,cb,rfl,-,-,hb⟩:=hb;have HA:=hid1 ha;have HB:=hid1 hb;clear ha hb;go_enter func7,ntmps7
 go_wp2;go_loopw [5] (fun i wr=>∃ k:Nat,k<=l.length/\i=.int .i64 k/\∃ q,wr=w.drewN q) (fun i _=>l.length - (intOf i).toNat)
 case atStart=>exact⟨0,Nat.zero_le _,rfl,0,rfl⟩
 case round =>
  obtain⟨k,hk,rfl,q,rfl⟩:=hrel;have c0:(0:Int)<=(k:Int):=by omega
  by_cases hlt:k<l.length
  ·have c1:(k:Int)<(l.length:Int):=by omega
   obtain⟨ga,oa,rfl,_,h1⟩:=HA.out (by intro e;rw[e]at hlt;simp at hlt)
   obtain⟨gb,ob,rfl,_,h2⟩:=HB.out (by intro e;rw[e]at hlt;simp at hlt)
   have d1:=h1 k hlt;have d2:=h2 k hlt;clear h1 h2 HA HB;generalize l[k]=y at *;go_wp2;go_region;go_wp2;exact⟨⟨k+1,by omega,by go_num,q+1,rfl⟩,by simp[intOf];omega⟩
  ·have c1:(l.length:Int)<=(k:Int):=by omega
   clear HA HB;go_wp2;go_ret;exact⟨rfl,q,rfl⟩
variable {es:Nat->Addr} {At:(Nat->Prop)->World->Value->Nat->Cf.Ens->Prop} {BAt:(Nat->Prop)->World->Value->Value->Bf.Bd->Prop}
theorem Zin(HC:Zao es At){W:World}(hP:PBase W.heap.size W es):
  Calls prog 5 #[] W fun e w'=>∃ yb L,e=.returned (Ptr yb)/\Below W.heap.size W w'/\YdAt At W.heap.size w' yb L Pl.y0/\∀ j,YOwn yb L j->W.heap.size<=j:=by
 have HN:=hid1 (Zvf HC W 8 (by omega) (by omega))
 have HPb:=hid1 hP;have HCs:=hid1 HC;clear hP HC;go_enter func5,ntmps5
 go_wp2_with fail;refine HN.out.mono ?_;rintro e w1 ⟨yb,L1,rfl,g1,hy1⟩;have HY1:=hid1 hy1;have HSh:=hid1 (Zcx w1);clear HN hy1;go_wp2_with fail;refine HSh.out.mono ?_;rintro e w2 ⟨v,rfl,g2,hN⟩;have hz1:=g1.size;have G2:=g1.trans (g2.mono hz1);have hrow:=hN.row
 have HRl:=hid1 (Zoh HCs.out (HY1.out.below HCs.out g2) (HPb.out.trans G2).y.build.w.g v Pl.l hrow (by decide) Pl.small)
 obtain⟨p,c,e,-⟩:=hrow;subst e;have hz2:=g2.size;clear HSh hN;go_wp2_with fail;refine HRl.out.mono ?_;rintro e w3 ⟨ev,rfl,g3,hcase⟩;rcases hcase with ⟨-,hb,-⟩ | ⟨rfl,-,-,L3,-,-,⟨hR,-,-,-⟩,hy3⟩
 ·exact absurd ⟨Pl.sheet.fine,Pl.sheet.some⟩ hb
 ·have HE:=hid1 (And.intro (G2.trans g3) (And.intro hy3 (fun j (hj:YOwn yb L3 j)=>hy3.own_low (fun j hj=>by have:=hR j hj;omega) hj)))
  clear HRl hR hy3;go_wp2;go_ret;exact⟨yb,L3,rfl,HE.out.1,HE.out.2.1,HE.out.2.2⟩
theorem Zpf{e:TypeId}{s n:Nat}{xs:List Value}(h:w.ownsRow B e s v n xs)(hb:∀ b,v.ownBlock=some b->b<w.heap.size->V.heap[b]? =w.heap[b]?):V.ownsRow B e s v n xs:=by
 refine⟨h.1,?_⟩;rcases h.2 with h2 | ⟨g,c,cu,e1,hbg,hg,h3⟩
 ·exact .inl h2
 ·exact .inr ⟨g,c,cu,e1,hbg,(hb g (by rw[e1];rfl) (Array.getElem?_eq_some_iff.1 hg).1).trans hg,h3⟩
structure PlS(At:(Nat->Prop)->World->Value->Nat->Cf.Ens->Prop)(B:Nat)(W:World)(yb:Nat)(L:YL)(y:Bf.Yd)(ps:List Int)(out:Value)(L':YL)(wr:World):Prop where
 yard:YdAt At B wr yb L' (Pl.run y ps)
 step:YStep W wr L L'
 base:Below B W wr
 own:wr.ownsRow W.heap.size 3 1 out ps.length ((Pl.answers y ps).map zv)
 far:∀ b,out.ownBlock=some b->L'.k b=9
 new:∀ j,wr.heap.size<=j->L'.k j=9
theorem PlS.next(HC:Zao es At){B:Nat}{W:World}{yb:Nat}{L:YL}{y:Bf.Yd}{ps:List Int}{out:Value}{L':YL}{wr:World}(h:PlS At B W yb L y ps out L' wr)(hBW:B<=W.heap.size){x:Int}{w2:World}{L2:YL}(hb:Below B wr w2)(hs:YStep wr w2 L' L2)(hy:YdAt At B w2 yb L2 (Pl.step (Pl.run y ps) x)){a:Int}(ea:a=Pl.ans (Pl.run y ps) x){w3:World}{g cap:Nat} 
  (hown:w3.ownsRow W.heap.size 3 1 (.slice (some ⟨g,0,none⟩) (ps.length+1) cap) (ps.length+1) ((Pl.answers y ps).map zv++[zv a])) (hgrow:(w2.alloc (.cells #[zv a] 3)).grownBy w3 out.ownBlock) (hlies:out.ownBlock=some g\/g=(w2.alloc (.cells #[zv a] 3)).heap.size) :
  ∃ L3,PlS At B W yb L y (ps++[x]) (.slice (some ⟨g,0,none⟩) (ps.length+1) cap) L3 w3:=by
 have e1:(w2.alloc (.cells #[zv a] 3)).heap.size=w2.heap.size+1:=by simp
 have hlt:∀ b,out.ownBlock=some b->b<wr.heap.size/\W.heap.size<=b:=fun b hb=>by
  refine⟨?_,Zbw h.own b hb⟩;rcases h.own.2 with ⟨e,_⟩ | ⟨g,c,cu,e,_,hbb,_⟩
  ·rw[e]at hb;cases hb
  ·rw[e]at hb;cases hb;exact(Array.getElem?_eq_some_iff.1 hbb).1
 have hk9:∀ b,out.ownBlock=some b->L2.more w2.heap.size 9 b=9:=fun b hb=>by
  have h1:=(hlt b hb).1;rw[L2.more_old (by have:=hs.size;omega),hs.kk b h1]
  exact h.far b hb
 have hy3:=hy.retag HC 9;have hz3:w2.heap.size<=w3.heap.size:=by have:=hgrow.size;omega
 have hK:Kept (fun j=>L2.more w2.heap.size 9 j=9) w2 w3:=⟨hz3,fun j hj hn=>by
  have h1:(w2.alloc (.cells #[zv a] 3)).heap[j]? =w2.heap[j]? :=((Below.refl _ w2).alloc (o:=.cells #[zv a] 3) (Nat.le_refl _)).block j hj;exact(hgrow.block j (by omega) fun e=>hn (hk9 j e.symm)).trans h1⟩
 have hy4:=hy3.aside HC hK;refine⟨{ L2 with k:=L2.more w2.heap.size 9 },?_,⟨?_,fun j hj h9=> ?_,fun j hj=> ?_⟩,?_,?_,fun b hb=> ?_,fun j hj=>L2.more_new (by omega)⟩
 ·rw[Pl.run_snoc];exact hy4
 ·have:=h.step.size;have:=hs.size;omega
 ·have h1:(w2.alloc (.cells #[zv a] 3)).heap[j]? =w2.heap[j]? :=((Below.refl _ w2).alloc (o:=.cells #[zv a] 3) (Nat.le_refl _)).block j (by have:=h.step.size;have:=hs.size;omega)
  refine(hgrow.block j (by have:=h.step.size;have:=hs.size;omega) fun e=>by have:=(hlt j e.symm).2;omega).trans (h1.trans ?_)
  exact(hs.rest j (by have:=h.step.size;omega) ((h.step.kk j hj).trans h9)).trans (h.step.rest j hj h9)
 ·have h1:=h.step.size;have h2:=hs.size;exact(L2.more_old (by omega)).trans ((hs.kk j (by omega)).trans (h.step.kk j hj))
 ·refine((h.base.trans hb).alloc (by have:=h.step.size;have:=hs.size;omega) _).grown hgrow (by rw[e1];have:=h.step.size;have:=hs.size;omega) fun k hk=> ?_
  have:=(hlt k hk).2;omega
 ·rw[Pl.answers_snoc,<- ea,List.map_append,List.length_append];exact hown
 ·have hb':g=b:=Option.some.inj hb;subst hb';rcases hlies with h1 | h1
  ·exact hk9 g h1
  ·exact L2.more_new (by omega)
theorem Zim(HC:Zao es At)(HB:Builds es Af.actO At BAt){B:Nat}{W:World}{yb:Nat}{L:YL}{y:Bf.Yd}(h:YdAt At B W yb L y)(hY:PBase B W es)(hf:Bf.YFine Pl.l 8 y)(hk9:∀ j,W.heap.size<=j->L.k j=9)(v:Value)(ps:List Int)(hQ:QRow W v ps)(hps:∀ x∈ps,-9223372036854775808<=x/\x<=9223372036854775807)(hl:ps.length<=1000)(hfar:ps≠[]->∀ g o n c,v=.slice (some ⟨g,o,none⟩) n c->L.k g=9):
  Calls prog 8 #[Ptr yb,v] W fun e w'=>∃ u L',e=.returned u/\PlS At B W yb L y ps u L' w':=by
 obtain⟨i0,hi,hz0,hz1,hz2⟩:=info_parts Tryz.infoInt;have hBW:B<=W.heap.size:=by have:=h.low;have:=h.lt;omega
 have HY:=hid1 hY;have HCs:=hid1 HC;have HBs:=hid1 HB;have HF:=hid1 hf;have HPs:=hid1 hps;have HFar:=hid1 hfar;have HS0:Hid (PlS At B W yb L y [] (.slice none 0 0) L W):=hid1 ⟨h,YStep.refl _ _,Below.refl _ _,World.ownsRow_nil _ _ _ _,fun b hb=>(by cases hb),hk9⟩
 have HQ:=hid1 hQ;obtain⟨pv,cv,rfl,hcv,hnv,-⟩:=hQ;have zc:(ps.length:Int)<=(cv:Int):=by omega
 have hmin:min (ps.length:Int) 3000=(ps.length:Int):=by omega
 clear h hY HC HB hf hk9 hps hfar;go_enter func8,ntmps8
 go_wp2;go_loopw [5,14] (fun out iv wr=>∃(k:Nat) (L':YL),k<=ps.length/\iv=.int .i64 k/\PlS At B W yb L y (ps.take k) out L' wr) (fun _ iv _=>ps.length - (intOf iv).toNat)
 case atStart=>exact⟨0,L,Nat.zero_le _,rfl,HS0.out⟩
 case round =>
  clear HS0;obtain⟨k,L',hk,rfl,hS⟩:=hrel;have HS:=hid1 hS;have k0:(0:Int)<=(k:Int):=by omega
  by_cases hlt:k<ps.length
  ·have k1:(k:Int)<(ps.length:Int):=by omega
   have hne:ps≠[]:=by intro e;rw[e]at hlt;simp at hlt
   have hQr:QRow wr (.slice pv ps.length cv) ps:=HQ.out.kept hS.step.size fun hl g o n c e hg=>hS.step.rest g hg (HFar.out hl g o n c e)
   obtain⟨p3,c3,e3,-,-,h3⟩:=hQr;simp only[Value.slice.injEq,true_and]at e3;obtain⟨rfl,rfl⟩:=e3;obtain⟨gs,os,rfl,hgs,hcs⟩:=h3 hne;have dk:=hcs k hlt;have HTk:Hid (ps.take (k+1)=ps.take k++[ps[k]]):=hid1 (List.take_succ_eq_append_getElem hlt);have hx:=HPs.out _ (List.getElem_mem hlt);have hkl:(ps.take k).length=k:=by simp;omega
   clear hcs h3 HQ HPs HFar hne;generalize ps[k]=x at *;have HA:=hid1 (Zkg HCs.out HBs.out hS.yard (HY.out.trans hS.base) (Pl.fine_run _ HF.out) x hx);have hml:(ps.take k).length+1<=maxLen:=by unfold maxLen;omega
   clear hx hS;go_wp2_with fail;refine HA.out.mono ?_;rintro e w2 ⟨rfl,g2,L2,hs2,hy2⟩;have hown2:w2.ownsRow W.heap.size 3 1 u5 (ps.take k).length ((Pl.answers y (ps.take k)).map zv):=Zpf HS.out.own fun b hb hlt=>hs2.rest b hlt (HS.out.far b hb)
   have hzw:W.heap.size<=w2.heap.size:=by have:=HS.out.step.size;have:=hs2.size;omega
   have HE:=hid1 (And.intro g2 (And.intro hs2 hy2));clear HA g2 hs2 hy2;generalize hga:Pl.ans (Pl.run y (ps.take k)) x=a at *;have HGa:=hid1 hga;have hkn:((ps.take k).length+1)*8<=140737488355328:=by omega
   clear hga
   go_wp2_with (at_builtin;refine wpList_append_lies _ rfl _ _ 22 rfl W.heap.size 3 i0 (.int .i64 0) 1 8 underlying22 hi hz0 hz1 hz2 rfl (by decide) u5 (ps.take k).length ((Pl.answers y (ps.take k)).map zv) rfl (hown2.alloc _) ⟨w2.heap.size,0,none⟩ 1 1 [zv a] rfl rfl (cell_one_new _ _ _) (by simp[Value.oneCell']) (by decide) hml hkn (by simp;omega) _ rfl ?_;intro g5 cap5 w5 hown5 hgrow5 hlies5 hlt5)
   go_wp2;obtain⟨L3,h3⟩:=HS.out.next HCs.out hBW HE.out.1 HE.out.2.1 HE.out.2.2 HGa.out.symm hown5 hgrow5 hlies5;rw[<- HTk.out,hkl]at h3;exact⟨⟨k+1,L3,by omega,by go_num,h3⟩,by simp[intOf];omega⟩
  ·obtain rfl:k=ps.length:=by omega
   rw[List.take_length]at HS;clear HQ HPs HFar hS;go_wp2;go_ret;exact⟨_,L',rfl,HS.out⟩
