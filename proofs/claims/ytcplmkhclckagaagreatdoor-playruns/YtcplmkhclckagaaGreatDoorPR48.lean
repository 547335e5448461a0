import Derived.Test.YtcplmkhclckagaaGreatDoorPR47
import Derived.Test.YtcplmkhclckagaaGreatDoorRows
import Derived.LaidMore
import Derived.Stop.Joined
import Derived.Stop.LaidErr
import Derived.Lay
import Derived.HandedShaped
set_option maxRecDepth 100000
set_option maxHeartbeats 32000000
open Go.Proofs.Tryz
namespace Go.Proofs.YtcplmkhclckagaaGreatDoor
section
open Go.RowKit Go.Shelf Go.Lib Go.Maps
open Tf (Fs)
theorem sadd(a b:List UInt8)(h:a.length+b.length<=100000000)(W:World):(Op.stringOp .add (ba a) (ba b)).run prog W=.ok (.string (ba (a++b))) W:=by
 rw[run_string_add_sum (P:=prog) W (ba a) (ba b) (by rw[Zal,Zal];omega),Zcv]
variable {B:Nat}
theorem Zij{w:World}{tb:Nat}{fs:Fs}{v:Value}(h:RTreeAt B w tb fs v)(hw:Tf.Well pathB fs):
  Calls prog 14 #[Ptr tb] w fun e w'=>e=.returned (.string (ba (Tf.textT fs)))/\Below w.heap.size w w':=by
 have hlen:∀ f∈fs,f.1.length<=64:=Zci hw
 have hn:fs.length<=60:=hw.few;have hby:∀ f∈fs,f.2.length<=2000:=fun f hf=>(hw.each f hf).2
 have hlenA:=fun k:Nat=>Zff (fs:=fs.take k) (fun f hf=>⟨by have:=hlen f (List.mem_of_mem_take hf);omega,hby f (List.mem_of_mem_take hf)⟩)
 have hc:=h.cell;have htb:=h.lt;obtain⟨pa,cap,rfl,hcap,hin⟩:=FRow.of_owns h.row;clear h hw;go_enter func14,ntmps14
 go_wp2;go_loopw [3,4] (fun s i wr=>∃ k:Nat,k<=fs.length/\s=.string (ba (Tf.textT (fs.take k)))/\i=.int .i64 k/\Below w.heap.size w wr) (fun _ i _=>fs.length - (intOf i).toNat)
 case atStart=>exact⟨0,Nat.zero_le _,rfl,rfl,Below.refl _ _⟩
 case round =>
  obtain⟨k,hk,rfl,rfl,hB⟩:=hrel;by_cases hlt:k<fs.length
  ·obtain⟨g,cur,rfl,hg,hcur⟩:=hin (by intro e;rw[e]at hlt;simp at hlt)
   have hgl:g<w.heap.size:=(Array.getElem?_eq_some_iff.1 hg).1;have d0:=(hB.cell (p:=⟨tb,0,none⟩) htb).trans hc;have d1:=(hB.cell (p:=⟨g,k*2,none⟩) hgl).trans (Zab hg (hcur k hlt).1);have d2:=(hB.cell (p:=⟨g,k*2+1,none⟩) hgl).trans (Zab hg (hcur k hlt).2);have hx64:=hlen _ (List.getElem_mem hlt);have hy2:=hby _ (List.getElem_mem hlt);have hl0:=hlenA k
   have hstep:Hid (Tf.textT (fs.take (k+1))=Tf.textT (fs.take k)++(fs[k].1++32::(Lib.decDigits fs[k].2.length++10::(fs[k].2++[10])))):=Zld hlt;rw[List.length_take]at hl0;have hdl:=Zax fs[k].2.length (by omega)
   clear hin hcur hg hlenA;generalize fs[k].1=x at *;generalize fs[k].2=y at *;generalize Tf.textT (fs.take k)=t at *;have zt:(t.length:Int)<=240000:=by
    have:min k fs.length*4000<=60*4000:=Nat.mul_le_mul_right _ (by omega)
    omega
   have HD:Hid (∀ W,Below wr.heap.size wr W->Calls prog 33 #[.int .i64 (y.length:Int)] W fun e w'=>e=.returned (.string (ba (Lib.decDigits y.length)))/\Below wr.heap.size wr w'):=fun W hW =>
    (Zdg y.length (by omega) W).mono fun e w' ⟨h1,h2⟩=>⟨h1,hW.trans (h2.mono hW.size)⟩
   have hgr:g<wr.heap.size:=Nat.lt_of_lt_of_le hgl hB.size;have htr:tb<wr.heap.size:=Nat.lt_of_lt_of_le htb hB.size;have c1:(k:Int)<(fs.length:Int):=by omega
   have c0:(0:Int)<=(k:Int):=by omega
   have q8:IntKind.i64.wrap (k:Int)=(k:Int):=by rw[IntKind.wrap_i64];omega
   generalize Lib.decDigits y.length=dd at *;have s1:∀ W,(Op.stringOp .add (ba t) (ba x)).run prog W=.ok (.string (ba (t++x))) W:=sadd t x (by omega)
   have s2:∀ W,(Op.stringOp .add (ba (t++x)) ⟨#[32]⟩).run prog W=.ok (.string (ba (t++x++[32]))) W:=sadd (t++x) [32] (by simp only[List.length_append,List.length_cons,List.length_nil];omega)
   have s3:∀ W,(Op.stringOp .add (ba (t++x++[32])) (ba dd)).run prog W=.ok (.string (ba (t++x++[32]++dd))) W:=sadd _ _ (by simp only[List.length_append,List.length_cons,List.length_nil];omega)
   have s4:∀ W,(Op.stringOp .add (ba (t++x++[32]++dd)) ⟨#[10]⟩).run prog W=.ok (.string (ba (t++x++[32]++dd++[10]))) W:=sadd _ [10] (by simp only[List.length_append,List.length_cons,List.length_nil];omega)
   have s5:∀ W,(Op.stringOp .add (ba (t++x++[32]++dd++[10])) (ba y)).run prog W=.ok (.string (ba (t++x++[32]++dd++[10]++y))) W:=sadd _ _ (by simp only[List.length_append,List.length_cons,List.length_nil];omega)
   have s6:∀ W,(Op.stringOp .add (ba (t++x++[32]++dd++[10]++y)) ⟨#[10]⟩).run prog W=.ok (.string (ba (t++x++[32]++dd++[10]++y++[10]))) W:=sadd _ [10] (by simp only[List.length_append,List.length_cons,List.length_nil];omega)
   generalize ht1:t++x=t1 at *;generalize ht2:t1++[32]=t2 at *;generalize ht3:t2++dd=t3 at *;generalize ht4:t3++[10]=t4 at *;generalize ht5:t4++y=t5 at *;generalize ht6:t5++[10]=t6 at *;have hst0:Tf.textT (fs.take (k+1))=t6:=by
    rw[hstep.out,<- ht6,<- ht5,<- ht4,<- ht3,<- ht2,<- ht1];simp
   have hst:Hid (Tf.textT (fs.take (k+1))=t6):=hst0;clear hst0 ht1 ht2 ht3 ht4 ht5 ht6 hstep;go_wp2;go_region_held3 (fun w'=>w'.cell? ⟨tb,0,none⟩=some (.slice (some ⟨g,0,none⟩) fs.length cap)/\w'.cell? ⟨g,k*2,none⟩=some (.string (ba x))/\w'.cell? ⟨g,k*2+1,none⟩=some (.string (ba y))) (first | go_keep | fail)
    (first | (go_at_call 33;refine(HD.out _ (by exact(Below.refl _ wr).drew)).mono ?_;rintro e w3 ⟨rfl,g3⟩;have e0:=(g3.cell (p:=⟨tb,0,none⟩) htr).trans d0;have e1:=(g3.cell (p:=⟨g,k*2,none⟩) hgr).trans d1;have e2:=(g3.cell (p:=⟨g,k*2+1,none⟩) hgr).trans d2) | fail)
   all_goals
    go_wp2;exact⟨⟨k+1,by omega,by rw[hst.out],by go_num,hB.trans (g3.mono hB.size)⟩,by simp[intOf];omega⟩
  ·have c1:(fs.length:Int)<=(k:Int):=by omega
   obtain rfl:k=fs.length:=by omega
   have d0:=(hB.cell (p:=⟨tb,0,none⟩) htb).trans hc;clear hin hlenA;go_wp2;go_ret;exact⟨by simp,hB⟩
structure PlN(B:Nat)(W:World)(yb:Nat)(L:NL)(y:Bf.Yd)(ps:List Int)(out:Value)(L':NL)(wr:World):Prop where
 yard:NdAt B wr yb L' (Pl.run y ps)
 step:NStep W wr L L'
 base:Below B W wr
 own:wr.ownsRow W.heap.size 3 1 out ps.length ((Pl.answers y ps).map zv)
 far:∀ b,out.ownBlock=some b->L'.k b=9
 new:∀ j,wr.heap.size<=j->L'.k j=9
variable {W:World}{yb:Nat}{L:NL}{y:Bf.Yd}
theorem PlN.next{ps:List Int}{out:Value}{L':NL}{wr:World}(h:PlN B W yb L y ps out L' wr)(hBW:B<=W.heap.size){x:Int}{w2:World}{L2:NL}(hb:Below B wr w2)(hs:NStep wr w2 L' L2)(hy:NdAt B w2 yb L2 (Pl.step (Pl.run y ps) x)){a:Int}(ea:a=Pl.ans (Pl.run y ps) x){w3:World}{g cap:Nat} 
  (hown:w3.ownsRow W.heap.size 3 1 (.slice (some ⟨g,0,none⟩) (ps.length+1) cap) (ps.length+1) ((Pl.answers y ps).map zv++[zv a])) (hgrow:(w2.alloc (.cells #[zv a] 3)).grownBy w3 out.ownBlock) (hlies:out.ownBlock=some g\/g=(w2.alloc (.cells #[zv a] 3)).heap.size) :
  ∃ L3,PlN B W yb L y (ps++[x]) (.slice (some ⟨g,0,none⟩) (ps.length+1) cap) L3 w3:=by
 have e1:(w2.alloc (.cells #[zv a] 3)).heap.size=w2.heap.size+1:=by simp
 have hlt:∀ b,out.ownBlock=some b->b<wr.heap.size/\W.heap.size<=b:=fun b hb=>by
  refine⟨?_,Zbw h.own b hb⟩;rcases h.own.2 with ⟨e,_⟩ | ⟨g,c,cu,e,_,hbb,_⟩
  ·rw[e]at hb;cases hb
  ·rw[e]at hb;cases hb;exact(Array.getElem?_eq_some_iff.1 hbb).1
 have hk9:∀ b,out.ownBlock=some b->L2.more w2.heap.size 9 b=9:=fun b hb=>by
  have h1:=(hlt b hb).1;rw[L2.more_old (by have:=hs.size;omega),hs.kk b h1]
  exact h.far b hb
 have hy3:=hy.retag 9;have hz3:w2.heap.size<=w3.heap.size:=by have:=hgrow.size;omega
 have hK:Kept (fun j=>L2.more w2.heap.size 9 j=9) w2 w3:=⟨hz3,fun j hj hn=>by
  have h1:(w2.alloc (.cells #[zv a] 3)).heap[j]? =w2.heap[j]? :=((Below.refl _ w2).alloc (o:=.cells #[zv a] 3) (Nat.le_refl _)).block j hj;exact(hgrow.block j (by omega) fun e=>hn (hk9 j e.symm)).trans h1⟩
 have hy4:=hy3.aside hK;refine⟨{ L2 with k:=L2.more w2.heap.size 9 },?_,⟨?_,fun j hj h9=> ?_,fun j hj=> ?_,hs.tb.trans h.step.tb⟩,?_,?_,fun b hb=> ?_,fun j hj=>L2.more_new (by omega)⟩
 ·rw[Pl.run_snoc];exact hy4
 ·have:=h.step.size;have:=hs.size;omega
 ·have h1:(w2.alloc (.cells #[zv a] 3)).heap[j]? =w2.heap[j]? :=((Below.refl _ w2).alloc (o:=.cells #[zv a] 3) (Nat.le_refl _)).block j (by have:=h.step.size;have:=hs.size;omega)
  refine(hgrow.block j (by have:=h.step.size;have:=hs.size;omega) fun e=>by have:=(hlt j e.symm).2;omega).trans (h1.trans ?_)
  exact(hs.rest j (by have:=h.step.size;omega) ((h.step.kk j hj).trans h9)).trans (h.step.rest j hj h9)
 ·have h1:=h.step.size;have h2:=hs.size;exact(L2.more_old (by omega)).trans ((hs.kk j (by omega)).trans (h.step.kk j hj))
 ·refine((h.base.trans hb).alloc (by have:=h.step.size;have:=hs.size;omega) _).grown hgrow (by rw[e1];have:=h.step.size;have:=hs.size;omega) fun k hk=> ?_
  have:=(hlt k hk).2;omega
 ·rw[Pl.answers_snoc,<- ea,List.map_append,List.length_append];exact hown
 ·have hb':g=b:=Option.some.inj hb;subst hb';rcases hlies with h1 | h1
  ·exact hk9 g h1
  ·exact L2.more_new (by omega)
theorem Zsu(h:NdAt B W yb L y)(hf:Bf.YFine Pl.l 8 y)(hk9:∀ j,W.heap.size<=j->L.k j=9)(v:Value)(ps:List Int)(hQ:ZRow W v ps)(hps:∀ x∈ps,-9223372036854775808<=x/\x<=9223372036854775807)(hl:ps.length<=1000)(hfar:ps≠[]->∀ g o n c,v=.slice (some ⟨g,o,none⟩) n c->g<B):
  Calls prog 9 #[Ptr yb,v] W fun e w'=>∃ u L',e=.returned u/\PlN B W yb L y ps u L' w':=by
 obtain⟨i0,hi,hz0,hz1,hz2⟩:=info_parts Tryz.infoInt;have hBW:B<=W.heap.size:=by have:=h.low;have:=h.lt;omega
 have HF:=hid1 hf;have HPs:=hid1 hps;have HFar:=hid1 hfar;have HS0:Hid (PlN B W yb L y [] (.slice none 0 0) L W):=hid1 ⟨h,NStep.refl _ _,Below.refl _ _,World.ownsRow_nil _ _ _ _,fun b hb=>(by cases hb),hk9⟩
 have HQ:=hid1 hQ;obtain⟨pv,cv,rfl,-⟩:=hQ;clear h hf hk9 hps hfar;go_enter func9,ntmps9
 go_wp2;go_loopw [5,6] (fun out iv wr=>∃(k:Nat) (L':NL),k<=ps.length/\iv=.int .i64 k/\PlN B W yb L y (ps.take k) out L' wr) (fun _ iv _=>ps.length - (intOf iv).toNat)
 case atStart=>exact⟨0,L,Nat.zero_le _,rfl,HS0.out⟩
 case round =>
  clear HS0;obtain⟨k,L',hk,rfl,hS⟩:=hrel;have HS:=hid1 hS;have k0:(0:Int)<=(k:Int):=by omega
  by_cases hlt:k<ps.length
  ·have k1:(k:Int)<(ps.length:Int):=by omega
   have k3:(k:Int)<3000:=by omega
   have hne:ps≠[]:=by intro e;rw[e]at hlt;simp at hlt
   have hQr:ZRow wr (.slice pv ps.length cv) ps:=by
    obtain⟨p,cap,e,h1⟩:=HQ.out;refine⟨p,cap,e,fun hl=> ?_⟩
    obtain⟨g,o,e',hg,hc⟩:=h1 hl;subst e';exact⟨g,o,rfl,Nat.lt_of_lt_of_le hg hS.step.size,fun j hj=>(World.cell?_of_block (a:=⟨g,o+j,none⟩) (hS.base.block g (HFar.out hl g o _ _ e))).trans (hc j hj)⟩
   obtain⟨p3,c3,e3,h3⟩:=hQr;simp only[Value.slice.injEq,true_and]at e3;obtain⟨rfl,rfl⟩:=e3;obtain⟨gs,os,rfl,hgs,hcs⟩:=h3 hne;have dk:=hcs k hlt;have HTk:Hid (ps.take (k+1)=ps.take k++[ps[k]]):=hid1 (List.take_succ_eq_append_getElem hlt);have hx:=HPs.out _ (List.getElem_mem hlt);have hkl:(ps.take k).length=k:=by simp;omega
   clear hcs h3 HQ HPs HFar hne;generalize ps[k]=x at *;have HA:=hid1 (Zsv hS.yard (Pl.fine_run _ HF.out) x hx);have hml:(ps.take k).length+1<=maxLen:=by unfold maxLen;omega
   clear hx hS;go_wp2_with fail;refine HA.out.mono ?_;rintro e w2 ⟨rfl,g2,L2,hs2,hy2⟩;have hown2:w2.ownsRow W.heap.size 3 1 u5 (ps.take k).length ((Pl.answers y (ps.take k)).map zv):=Zpf HS.out.own fun b hb hlt=>hs2.rest b hlt (HS.out.far b hb)
   have hzw:W.heap.size<=w2.heap.size:=by have:=HS.out.step.size;have:=hs2.size;omega
   have HE:=hid1 (And.intro g2 (And.intro hs2 hy2));clear HA g2 hs2 hy2;generalize hga:Pl.ans (Pl.run y (ps.take k)) x=a at *;have HGa:=hid1 hga;have hkn:((ps.take k).length+1)*8<=140737488355328:=by omega
   clear hga
   go_wp2_with (at_builtin;refine wpList_append_lies _ rfl _ _ 22 rfl W.heap.size 3 i0 (.int .i64 0) 1 8 underlying22 hi hz0 hz1 hz2 rfl (by decide) u5 (ps.take k).length ((Pl.answers y (ps.take k)).map zv) rfl (hown2.alloc _) ⟨w2.heap.size,0,none⟩ 1 1 [zv a] rfl rfl (cell_one_new _ _ _) (by simp[Value.oneCell']) (by decide) hml hkn (by simp;omega) _ rfl ?_;intro g5 cap5 w5 hown5 hgrow5 hlies5 hlt5)
   go_wp2;obtain⟨L3,h3⟩:=HS.out.next hBW HE.out.1 HE.out.2.1 HE.out.2.2 HGa.out.symm hown5 hgrow5 hlies5;rw[<- HTk.out,hkl]at h3;exact⟨⟨k+1,L3,by omega,by go_num,h3⟩,by simp[intOf];omega⟩
  ·obtain rfl:k=ps.length:=by omega
   rw[List.take_length]at HS;clear HQ HPs HFar hS;go_wp2;go_ret;exact⟨_,L',rfl,HS.out⟩
namespace Pl
theorem join_snoc(l:List (List UInt8))(h:l≠[])(x:List UInt8):Lib.join (l++[x]) [32]=Lib.join l [32]++[32]++x:=by
 cases l with
 | nil=>exact absurd rfl h
 | cons a r =>
  rw[List.cons_append,Lib.join_cons,Lib.join_cons];simp[Lib.joinTail]
end Pl
theorem Zro(v:Value)(ls:List (List UInt8))(hr:TRow W v ls)(hn:ls.length<=40)(hx:∀ x∈ls,x.length<=100):
  Calls prog 26 #[v] W fun e w'=>e=.returned (.string (ba (Lib.join ls [32])))/\w'=W:=by
 obtain⟨p,cap,rfl,hcap,hin⟩:=hr;have HI:=hid1 hin;have HX:=hid1 hx;clear hin hx;go_enter func26,ntmps26
 go_wp2;go_loopw [3,4] (fun ov iv wr=>∃ k:Nat,k<=ls.length/\iv=.int .i64 k/\ov=.string (ba (Lib.join (ls.take k) [32]))/\wr=W) (fun _ iv _=>ls.length - (intOf iv).toNat)
 case atStart=>exact⟨0,Nat.zero_le _,rfl,rfl,rfl⟩
 case round =>
  obtain⟨k,hk,rfl,rfl,rfl⟩:=hrel;have k0:(0:Int)<=(k:Int):=by omega
  by_cases hlt:k<ls.length
  ·have k1:(k:Int)<(ls.length:Int):=by omega
   obtain⟨g,cur,rfl,hg,hc⟩:=HI.out (by intro e;rw[e]at hlt;simp at hlt)
   have d:=Zab (j:=k) hg (hc k hlt);have hxl:=HX.out _ (List.getElem_mem hlt);have HTk:Hid (ls.take (k+1)=ls.take k++[ls[k]]):=hid1 (List.take_succ_eq_append_getElem hlt);have hjl:=Pl.join_few (ls:=ls.take k) (fun x hx=>HX.out x (List.mem_of_mem_take hx))
   have hkl:(ls.take k).length=k:=by simp;omega
   rw[hkl]at hjl;have zj:(ba (Lib.join (ls.take k) [32])).size<=4040:=by rw[Zal];omega
   clear hc HI HX hg;generalize ls[k]=x at *;have zx:(ba x).size<=100:=by rw[Zal];exact hxl
   by_cases hz:k=0
   ·have HN:Hid ((∃ k':Nat,k'<=ls.length/\Value.int .i64 ((k:Int)+1)=Value.int .i64 (k':Nat)/\Value.string (ba (Lib.join (ls.take k) [32])++ba x)=.string (ba (Lib.join (ls.take k') [32]))/\True)/\ls.length - (intOf (Value.int .i64 ((k:Int)+1))).toNat<ls.length - (intOf (Value.int .i64 (k:Int))).toNat):=hid1 (by
     refine⟨⟨k+1,by omega,by go_num,?_,trivial⟩,by simp[intOf];omega⟩
     rw[HTk.out,hz,List.take_zero,List.nil_append,ba_cat];simp[Lib.join,List.intercalate])
    have kz:¬ ((0:Int)<(k:Int)):=by omega
    generalize ba (Lib.join (ls.take k) [32])=sx at *;clear hz HTk hjl hkl;go_wp2;exact HN.out
   ·have HN:Hid ((∃ k':Nat,k'<=ls.length/\Value.int .i64 ((k:Int)+1)=Value.int .i64 (k':Nat)/\Value.string (ba (Lib.join (ls.take k) [32])++(⟨#[32]⟩:ByteArray)++ba x)=.string (ba (Lib.join (ls.take k') [32]))/\True)/\ls.length - (intOf (Value.int .i64 ((k:Int)+1))).toNat<ls.length - (intOf (Value.int .i64 (k:Int))).toNat):=hid1 (by
     refine⟨⟨k+1,by omega,by go_num,?_,trivial⟩,by simp[intOf];omega⟩
     rw[HTk.out,Pl.join_snoc _ (by intro e;rw[e]at hkl;simp at hkl;omega),show(⟨#[32]⟩:ByteArray)=ba [32] from rfl,ba_cat,ba_cat])
    have kz:(0:Int)<(k:Int):=by omega
    have kz':0<k:=by omega
    generalize ba (Lib.join (ls.take k) [32])=sx at *;clear hz HTk hjl hkl;go_wp2;exact HN.out
  ·obtain rfl:k=ls.length:=by omega
   rw[List.take_length];clear HI HX;go_wp2;go_ret;exact⟨rfl,rfl⟩
theorem Zst(h:NdAt B W yb L y)(hf:Bf.YFine Pl.l 8 y):
  Calls prog 11 #[Ptr yb] W fun e w'=>e=.returned (.string (ba (Pl.sum y)))/\Below W.heap.size W w':=by
 have c1:=h.c1;have HT:=hid1 (Zij h.o hf.os);have hk:SheetOk y.l:=by rw[hf.hl];exact Pl.sheet
 obtain⟨o,ho⟩:=Option.isSome_iff_exists.1 hk.some;obtain⟨htop,hall⟩:=Ru.order_some ho;obtain⟨hnd,hlt⟩:=Ru.order_nodup ho
 have hW:∀ x∈y.l,Zeh y.fs y.l x.out:=fun x _=>Zub (fun W nm wd v ls hr hl hx=>Zjx nm wd hl v ls hr hx) (by have:=hf.fs.few;omega) hf.fs.rises (fun x b hb=>(hf.fs.each _ (Bf.get_mem hb)).2) hk.len hk.small htop hnd hlt x.out fun i hi=>hall i (Bf.mkr_lt hi) rfl
 have HSt:=hid1 fun(V:World) (g:Below W.heap.size W V)=>Zmy (h.below g).row (h.below g).t (h.below g).o (by have:=hf.os.few;omega) hf.os.rises (h.below g).rrow (by have:=hk.len;omega) hW
 have HF:=hid1 (Pl.stale_few (fs:=y.fs) (os:=y.os) (l:=y.l) hk.len (fun x hx=>by have:=(hk.small x hx).out;omega))
 have htl:(Tf.textT y.os).length<=240000:=by
  have h1:=Zff (fs:=y.os) fun f hf'=>⟨by have:=Zci hf.os f hf';omega,(hf.os.each f hf').2⟩
  have:=hf.os.few;omega
 have hjl:(Lib.join (Bf.stale y.fs y.os y.l) [32]).length<=10000:=by
  have:=Pl.join_few HF.out.2;have:=HF.out.1;omega
 have hs:Pl.sum y=Tf.textT y.os++[10]++Lib.join (Bf.stale y.fs y.os y.l) [32]:=rfl;rw[hs];clear h hf hs hW hk ho htop hall hnd hlt;generalize Tf.textT y.os=tx at *;generalize Bf.stale y.fs y.os y.l=st at *;have z1:(ba tx).size=tx.length:=Zal _;have z2:(ba (Lib.join st [32])).size=(Lib.join st [32]).length:=Zal _;go_enter func11,ntmps11
 go_wp2_with fail;refine HT.out.mono ?_;rintro e w2 ⟨rfl,g2⟩;have HS2:=hid1 (HSt.out w2 g2);clear HT HSt;go_wp2_with fail;refine HS2.out.mono ?_;rintro e w3 ⟨u,rfl,hu,g3⟩;have HJ:=hid1 (Zro u st hu HF.out.1 HF.out.2);have G3:=Zac g2 g3;obtain⟨p,c,rfl,-⟩:=hu;clear HS2;go_wp2_with fail;refine HJ.out.mono ?_;rintro e w4 ⟨rfl,rfl⟩;clear HJ;go_wp2;go_ret
 have e1:ba tx++(⟨#[10]⟩:ByteArray)++ba (Lib.join st [32])=ba (tx++[10]++Lib.join st [32]):=by rw[show(⟨#[10]⟩:ByteArray)=ba [10] from rfl,ba_cat,ba_cat]
 exact⟨by rw[<- e1];rfl,G3⟩
variable {es:Nat->Addr} {At:(Nat->Prop)->World->Value->Nat->Cf.Ens->Prop} {BAt:(Nat->Prop)->World->Value->Value->Bf.Bd->Prop}
theorem Zvt{w:World}{ops:Array Oper}{o:Oper}{a:Act}{K:Act->World->Prop}{Q:Exit->Act->World->Prop}{E:Prop}(hgd:o.guard=none)(s x:Operand)(ho:o.op=.call { callee:=.builtin .append,args:= #[s,x],argTypes:= #[22,22] })(i:TypeInfo)(hi:prog.info? 3=some i)(hz0:i.zero=some (.int .i64 0))(hz1:i.size=1)(hz2:i.bytes=8) 
  (hs:a.eval s=.slice none 0 0) {vp:Value} {ps:List Int} (hx:a.eval x=vp) (hZ:ZRow w vp ps) (hvp:vp=.slice none 0 0\/∃ a n c,vp=.slice (some a) n c) (hl:ps.length<=1000)
  (h:∀ v' w',QRow w' v' ps->(∀ g o n c,v'=.slice (some ⟨g,o,none⟩) n c->w.heap.size<=g)->Below w.heap.size w w'->K (a.put o.dst v') w') :
  if Region.wanted o (yielded ops a.tmps)=true then Oper.wp prog o a w K Q else E:=by
 have hw:Region.wanted o (yielded ops a.tmps)=true:=by simp[Region.wanted,hgd]
 rw[if_pos hw];have n1:World.ownsRow w w.heap.size 3 1 (.slice none 0 0) 0 []:=World.ownsRow_nil _ _ _ _;have hlen:∀ p n c,vp=.slice p n c->n=ps.length:=fun p n c e=>by
  obtain⟨q,c',e1,-⟩:=hZ;rw[e]at e1;simp only[Value.slice.injEq]at e1;exact e1.2.1
 rcases hvp with e | ⟨ad,n,c,e⟩
 ·have h0:=hlen _ _ _ e;have hrun:=run_append_owned_none (P:=prog) (w:=w) w.heap.size 22 o.type 3 i 1 underlying22 hi (.slice none 0 0) 0 [] n1;unfold Oper.wp;simp[execOp,ho,resolve,invoke,builtin,hs,hx,e,hrun,Result.andThen];refine h _ w ?_ (fun g o n c e=>by cases e) (Below.refl _ _)
  rw[List.length_eq_zero_iff.1 h0.symm];exact⟨none,0,rfl,Nat.le_refl _,fun _=>rfl,fun h=>absurd rfl h⟩
 ·obtain rfl:=hlen _ _ _ e;have hsrc:∀ j u,(ps.map zv)[j]? =some u->w.cell? (ad.add j)=some u:=fun j u hj=>by
   have hjl:j<ps.length:=by simpa using (List.getElem?_eq_some_iff.1 hj).1
   obtain⟨q',c',e1,hin⟩:=hZ;obtain⟨g,o,e2,hg,hcur⟩:=hin (by intro e;rw[e]at hjl;simp at hjl)
   rw[e,e2]at e1;simp only[Value.slice.injEq]at e1;obtain rfl:=Option.some.inj e1.1;rw[List.getElem?_map,List.getElem?_eq_getElem hjl]at hj
   simp only[Option.map_some,Option.some.injEq]at hj;rw[<- hj,Zdv];exact hcur j hjl
  have hone:∀ u∈ps.map zv,u.oneCell'=true:=fun u hu=>by
   obtain⟨y,_,rfl⟩:=List.mem_map.1 hu;rfl
  refine wp_append_own w s x 22 ho w.heap.size 3 i (.int .i64 0) 1 8 underlying22 hi hz0 hz1 hz2 rfl (by decide) _ _ _ hs n1 ad ps.length c (ps.map zv) (hx.trans e) (by simp) hsrc hone (by unfold maxLen;omega) (by omega) (Nat.le_refl _) ?_
  intro v1 w1 hown hgrow _
  obtain⟨hz,hlow⟩:=QRow.of_owns (l:=ps) (by simpa using hown)
  exact h v1 w1 hz hlow (Zeg (Below.refl _ w) (Nat.le_refl _) n1 hgrow)
theorem NdAt.behindY{B':Nat}{V w':World}{yb':Nat}{L L':YL}{M:NL}(h:NdAt B' V yb' M y)(hown:∀ j,NOwn yb' M j->B'<=j)(hV:Below V.heap.size V W)(hs:YStep W w' { L with k:=L.more B' 9 } L'):NdAt B' w' yb' M y :=
 (h.below hV).stay hs.size fun j hj ho=>hs.rest j hj (L.more_new (hown j ho))
theorem YdAt.aheadN(HC:Zao es At){B:Nat}{V3 W w':World}{ya:Nat}{La La0:YL}{Lb L':NL}{y:Bf.Yd}{n:Nat}(h:YdAt At B W ya La y)(hk:∀ j,j<V3.heap.size->La.k j=La0.more n 9 j)(hb:Below n W w')(hs:NStep W w' { Lb with k:=Lb.more V3.heap.size 9 } L'):YdAt At B w' ya La y:=by
 refine h.stay HC hs.size fun j hj ho=> ?_
 by_cases h1:j<n
 ·exact hb.block j h1
 ·by_cases h2:j<V3.heap.size
  ·have h3:=h.own_k ho;rw[hk j h2,La0.more_new (by omega)]at h3
   omega
  ·exact hs.rest j hj (Lb.more_new (by omega))
theorem Zkv(HC:Zao es At)(HB:Builds es Af.actO At BAt){W:World}(hW:BuildW W es)(hE:TErr W (erOf es))(h12:E12 W es)(vl:Value)(ps:List Int)(hZ:ZRow W vl ps)(hps:∀ x∈ps,-9223372036854775808<=x/\x<=9223372036854775807)(hvl:vl=.slice none 0 0\/∃ a n c,vl=.slice (some a) n c):
  Calls prog 3 #[vl] W fun e w'=>e=.returned (.bool true)/\Below W.heap.size W w':=by
 obtain⟨i0,hi,hz0,hz1,hz2⟩:=info_parts Tryz.infoInt;have HCs:=hid1 HC;have HBs:=hid1 HB;have HBase:=hid1 fun(V:World) (g:Below W.heap.size W V)=>PBase.of (hW.below g) (hE.below g) (h12.below g)
 have HPl:=hid1 (Zpc HC HB (PBase.of hW hE h12));have HZ:=hid1 hZ;have HPs:=hid1 hps;have hold:ps≠[]->∀ g o n c,vl=.slice (some ⟨g,o,none⟩) n c->g<W.heap.size:=fun hl g o n c e=>by
  obtain⟨p,cap,e1,h1⟩:=hZ;obtain⟨g',o',e2,hg,-⟩:=h1 hl;rw[e1,e2]at e;cases e
  exact hg
 have HOld:=hid1 hold;have hvs:∃ p c,vl=.slice p ps.length c:=by obtain⟨p,c,e,-⟩:=hZ;exact⟨p,c,e⟩
 obtain⟨pl,cl,rfl⟩:=hvs;have HVl:=hid1 hvl;clear HC HB hW hE h12 hZ hps hvl hold;go_enter func3,ntmps3
 go_wp2_with fail;refine HPl.out.mono ?_;rintro e w1 ⟨rfl,g1⟩;clear HPl;by_cases h100:100<ps.length
 ·have z100:(100:Int)<(ps.length:Int):=by omega
  clear HBase HVl;go_wp2;go_ret;exact⟨rfl,g1⟩
 have z100:(ps.length:Int)<=100:=by omega
 have HNa:=hid1 (Zin HCs.out (HBase.out w1 g1));have HP1:=hid1 (HBase.out w1 g1);go_wp2_with fail;refine HNa.out.mono ?_;rintro e w2 ⟨ya,La,rfl,g2,hya2,-⟩;have zz1:=g1.size;have zz2:=g2.size;have G2:=g1.trans (g2.mono zz1);have HNb:=hid1 (Zku w2);have HYa2:=hid1 (hya2.retag HCs.out 9);clear HNa hya2;go_wp2_with fail;refine HNb.out.mono ?_
 rintro e w3 ⟨yb,Lb,rfl,g3,hyb3,hown⟩;have zz3:=g3.size;have G3:=G2.trans (g3.mono (by omega))
 have HYb3:=hid1 (hyb3.retag 9);have HOwn:=hid1 hown;have hZ3:=HZ.out.belowP G3;have hZ3d:ZRow w3.drew (.slice pl ps.length cl) ps:=hZ3.belowP (Below.refl w3.heap.size w3).drew;have HG13:=hid1 (g2.trans (g3.mono zz2));have HG23:=hid1 g3;have HGW3:=hid1 G3;have hc0:=hyb3.c0;have hvl:=HVl.out;clear HNb hyb3 hown HBase hZ3
 have HRun1:=hid1 fun(v4:Value) (w4:World) (hq4:QRow w4 v4 ps) (hlow4:∀ g o n c,v4=.slice (some ⟨g,o,none⟩) n c->w3.drew.heap.size<=g) (g4:Below w3.heap.size w3 w4)=>Zim HCs.out HBs.out ((HYa2.out.below HCs.out HG23.out).below HCs.out g4) (HP1.out.trans (HG13.out.trans (g4.mono (by omega)))) Pl.fine0 (fun j hj=>La.more_new (by have:=g4.size;omega)) v4 ps hq4 HPs.out (by omega) (fun _ g o n c e=>La.more_new (by have h5:w3.heap.size<=g:=hlow4 g o n c e;omega))
 have HRun2:Hid (∀(w4:World),Below w3.heap.size w3 w4->∀(w5:World) (La5:YL) (ua:Value),PlS At w1.heap.size w4 ya { La with k:=La.more w2.heap.size 9 } Pl.y0 ps ua La5 w5->w5.cell? ⟨yb,0,none⟩=some (Ptr Lb.tb)/\Calls prog 9 #[Ptr yb,.slice pl ps.length cl] w5 fun e w6=>∃ ub Lb6,e=.returned ub/\w6.cell? ⟨yb,0,none⟩=some (Ptr Lb.tb)/\(Calls prog 7 #[ua,ub] w6 fun e w7=>e=.returned (.bool true)/\Below w6.heap.size w6 w7)/\∀ w7,Below w6.heap.size w6 w7->(Calls prog 10 #[Ptr ya] w7 fun e w8=>e=.returned (.string (ba (Pl.sum (Pl.run Pl.y0 ps))))/\Below w7.heap.size w7 w8)/\∀ w8,Below w7.heap.size w7 w8->(Calls prog 11 #[Ptr yb] w8 fun e w9=>e=.returned (.string (ba (Pl.sum (Pl.run Pl.y0 ps))))/\Below w8.heap.size w8 w9)/\∀ w9,Below w8.heap.size w8 w9->(Calls prog 12 #[Ptr ya] w9 fun e w10=>e=.returned (Ptr La5.tb)/\Below w9.heap.size w9 w10)/\∀ w10,Below w9.heap.size w9 w10->(Calls prog 13 #[Ptr La5.tb] w10 fun e w11=>e=.returned (.string (ba (Tf.textT (Pl.run Pl.y0 ps).fs)))/\Below w10.heap.size w10 w11)/\∀ w11,Below w10.heap.size w10 w11->Calls prog 14 #[Ptr Lb.tb] w11 fun e w12=>e=.returned (.string (ba (Tf.textT (Pl.run Pl.y0 ps).fs)))/\w12.cell? ⟨yb,0,none⟩=some (Ptr Lb.tb)/\Below W.heap.size W w12):=hid1 fun w4 g4 w5 La5 ua hSa=>by
  have zz4:=g4.size;have zz5:=hSa.step.size;have GW4:Below W.heap.size W w4:=HGW3.out.trans (g4.mono (by omega))
  have GW5:Below W.heap.size W w5:=GW4.trans (hSa.base.mono (by omega))
  have hyb5:=NdAt.behindY (B':=w2.heap.size) HYb3.out HOwn.out g4 hSa.step;have hP5:=(HP1.out.trans (HG13.out.trans (g4.mono (by omega)))).trans hSa.base
  have hF:=Pl.fine_run ps Pl.fine0;refine⟨hyb5.c0,(Zsu hyb5 Pl.fine0 (fun j hj=>Lb.more_new (by omega)) _ ps (HZ.out.belowP GW5) HPs.out (by omega) (fun hl g o n c e=>by have:=HOld.out hl g o n c e;omega)).mono ?_⟩
  rintro e w6 ⟨ub,Lb6,rfl,hSb⟩;have zz6:=hSb.step.size;have hya6:=YdAt.aheadN HCs.out (V3:=w3) (La0:=La) (Lb:=Lb) (n:=w2.heap.size) hSa.yard (fun j hj=>hSa.step.kk j (by omega)) hSb.base hSb.step
  have hra:=hSa.row;have hqa6:QRow w6 ua (Pl.answers Pl.y0 ps):=hra.1.kept zz6 fun _ g o n c e hg=>hSb.step.rest g hg (Lb.more_new (by have:=hra.2 g o n c e;omega))
  have hqb6:QRow w6 ub (Pl.answers Pl.y0 ps):=by
   have h1:=hSb.own;rw[<- Pl.answers_len ps Pl.y0]at h1;exact(QRow.of_owns h1).1
  have GW6:Below W.heap.size W w6:=GW5.trans (hSb.base.mono (by omega))
  have hP6:=hP5.trans (hSb.base.mono (by omega))
  have hc6:=hSb.yard.c0;rw[hSb.step.tb]at hc6;refine⟨ub,Lb6,rfl,hc6,(Zmc ua ub _ hqa6 hqb6 (by rw[Pl.answers_len];omega)).mono fun e w' ⟨h1,q,h2⟩=>⟨h1,by rw[h2];exact Zad (Below.refl _ _) q⟩,fun w7 g7=> ?_⟩
  refine⟨Zsn HCs.out (hya6.below HCs.out g7) (hP6.trans (g7.mono (by omega))) hF,fun w8 g8=> ?_⟩
  have g68:=Zac g7 g8;refine⟨Zst (hSb.yard.below g68) hF,fun w9 g9=> ?_⟩
  have g69:=Zac g68 g9;refine⟨(Zhz (hya6.below HCs.out g69)).mono fun e w' ⟨h1,h2⟩=>⟨h1,by rw[h2];exact Below.refl _ _⟩,fun w10 g10=> ?_⟩
  have g610:=Zac g69 g10;refine⟨Zol (hya6.below HCs.out g610).t (hP6.trans (g610.mono (by omega))).y.want.g.s.a.aw.pow hF.fs,fun w11 g11=> ?_⟩
  have g611:=Zac g610 g11;have hT:=(hSb.yard.below g611).t;rw[hSb.step.tb]at hT;exact(Zij hT hF.fs).mono fun e w' ⟨h1,h2⟩=>⟨h1,Zaa hc6 (Zac g611 h2),GW6.trans ((Zac g611 h2).mono (by omega))⟩
 clear HYa2 HP1 HG13 HYb3 HOwn HZ HPs HOld HBs HCs HGW3;go_wp2;go_region_held3 (fun w'=>w'.cell? ⟨yb,0,none⟩=some (Ptr Lb.tb)) (first | go_keep | assumption | fail)
  (first
   | (go_at_call 14;refine HS11.out.mono ?_;rintro e w12 ⟨rfl,g12⟩;(have hc12:=g12.1);(have HG12:=hid1 g12.2);clear HS11)
   | (go_at_call 13;refine HS10.out.1.mono ?_;rintro e w11 ⟨rfl,g11⟩;(have hc11:=Zaa hc10 g11);(have HS11:=hid1 (HS10.out.2 w11 g11));clear HS10)
   | (go_at_call 12;refine HS9.out.1.mono ?_;rintro e w10 ⟨rfl,g10⟩;(have hc10:=Zaa hc9 g10);(have HS10:=hid1 (HS9.out.2 w10 g10));clear HS9)
   | (go_at_call 11;refine HS8.out.1.mono ?_;rintro e w9 ⟨rfl,g9⟩;(have hc9:=Zaa hc8 g9);(have HS9:=hid1 (HS8.out.2 w9 g9));clear HS8)
   | (go_at_call 10;refine HS7.out.1.mono ?_;rintro e w8 ⟨rfl,g8⟩;(have hc8:=Zaa hc7 g8);(have HS8:=hid1 (HS7.out.2 w8 g8));clear HS7)
   | (go_at_call 7;refine HS6.out.1.mono ?_;rintro e w7 ⟨rfl,g7⟩;(have hc7:=Zaa hc6 g7);(have HS7:=hid1 (HS6.out.2 w7 g7));clear HS6)
   | (go_at_call 9;refine HRb.out.mono ?_;rintro e w6 ⟨ub,Lb6,rfl,hSb⟩;(have hc6:=hSb.1);(have HS6:=hid1 hSb.2);clear hSb)
   | (go_at_call 8;refine HRa.out.mono ?_;rintro e w5 ⟨ua,La5,rfl,hSa⟩;(have HS5:=hid1 (HRun2.out w4 HG4.out w5 La5 ua hSa));(have hc5:=HS5.out.1);(have HRb:=hid1 HS5.out.2);clear hSa)
   | (refine Zvt rfl (.tmp 21) (.tmp 22) rfl i0 hi hz0 hz1 hz2 rfl rfl hZ3d hvl (by omega) ?_;intro v4 w4 hq4 hlow4 g4d;(have g4:Below w3.heap.size w3 w4:=Zac (Below.refl w3.heap.size w3).drew g4d);(have hc4:=Zaa hc0 g4);(have zz4:=g4.size);(have HRa:=hid1 (HRun1.out v4 w4 hq4 hlow4 g4));(have HG4:=hid1 g4);clear hq4 hlow4 g4d)
   | fail)
 all_goals
  have G12:=HG12.out;clear HRun1 HRun2 HRa HRb;go_wp2;go_ret;exact⟨rfl,G12⟩
end
namespace TL
open Go.ChangeShapes Go.WideShapes Go.ChangeAt Go.WideMaps Go.WideElems Go.RowKit Go.Deep
theorem own:ownKnob prog.godebug=none:=by kernel_rfl
theorem laidOut:laidOutB prog=true:=by kernel_rfl
theorem starES: "*" ++ "errors.errorString" = "*errors.errorString" :=by decide
theorem rowES(u:TypeId)(h:prog.typeName? 3 u=some "*errors.errorString"):u=374 :=
 typeName_ptr_named (nm := "errors.errorString") (by rw[starES]; kernel_rfl) (by kernel_rfl) (by decide) u (by rw[starES]; exact h)
theorem cellsES:prog.cellsOf 376=1:=by kernel_rfl
theorem cellsStr:prog.cellsOf 9=1:=by kernel_rfl
variable {H:Type} {enc:TypeId×Value->H}
theorem returns_laid_shaped{a:Assume}{C:Checked}{os:Os}{f:FuncId}{fn:Func}{s:ChangeSpec}{conds:List PathCond}{apart fresh handsOn again:Bool}{X:World->Array Value->Prop} 
  (hX:∀(w w':World) (args:Array Value),w.heap=w'.heap->X w args->X w' args)
  (own:ownKnob C.prog.godebug=none) (started:os.Started) (noInit:C.prog.inits.idxOf? f=none) (hfn:C.prog.funcs[f]? =some fn)
  (witness:∃(w:World) (tape:Tape) (i:Input),w.os=os/\(w.forCall tape i).Shaped C.prog/\i.vars=[]/\Input.okWide C.prog (w.forCall tape i) .any w.heap.size f i /\
   ((s.pre enc C.prog fn conds apart (w.forCall tape i).memory i.args/\X (w.forCall tape i).memory i.args)/\sizedMet enc C.prog fn (OpenSpec.ofChange s) apart (w.forCall tape i).memory i.args)/\a.holds C.prog (lone (Frame.enter C.prog f i.args .normal) [] (w.forCall tape i)))
  (contract:∀(W:World) (base:Nat) (args:Array Value) (ds gs:List (DataW H)) (before:List MemPlace),
   (∀(j:Nat) t v,fn.params[j]? =some t->args[j]? =some v->Value.okWide C.prog W .any base t v) ->
   DataW.Whole enc C.prog fn.params.toList s.vars apart W args.toList ds gs before ->
   W.ShapedOpen C.prog->X W args->(DataW.weightsEach C.prog (fn.params.toList++s.plain.varTypes C.prog) (ds++gs)).all (·<=reachBytes)=true ->
   Calls C.prog f args W fun e W'=>∃ v,e=.returned v/\s.post enc C.prog fn apart fresh handsOn again W args v W') :
  ReturnsInHanded a C os f .any (fun w args=>(s.pre enc C.prog fn conds apart w args/\X w args)/\sizedMet enc C.prog fn (OpenSpec.ofChange s) apart w args) (s.post enc C.prog fn apart fresh handsOn again):=by
 refine returnsInHanded_of_calls own started noInit witness ?_;intro w tape i _ hsh _ hok hpre _
 obtain⟨_,_,_,fn',hfn',_,_,_,_,hval⟩:=hok;have e:fn'=fn:=Option.some.inj (hfn'.symm.trans hfn);subst e;obtain⟨⟨⟨ds,gs,before,hw,_⟩,hx⟩,hz⟩:=hpre;have hw':=DataW.Whole.of_heap (w':=w.forCall tape i) (by rfl) hw
 refine(contract (w.forCall tape i) w.heap.size i.args ds gs before hval hw' hsh (hX _ _ _ (by rfl) hx) (hz.weights hw)).mono fun e W' ⟨v,he,hp⟩=> ?_
 subst he;exact ChangeSpec.post_blind hp
variable {r:List (String×DataW Unit)}{W:World}
theorem sentinel1{n:String}{text:List UInt8}(g:Nat) 
  (h:laidMet prog ((n, .iface "*errors.errorString" (.ptr (.agg [.lit (.string text)])))::r) W)
  (hg:prog.globalNamed n=some g) (ht:(prog.globals[g]?).map (·.type)=some 44) :
  ∃ a:Addr,W.cell? ⟨g,0,none⟩=some (.iface 374 (.pointer (some a))):=by
 obtain⟨a,s,hv,_⟩:=laid_sentinel h hg ht underlying44 rowES underlying374 underlying376 rfl rfl underlying9 cellsES cellsStr;exact⟨a,by simpa using World.var?_cell hg hv 0⟩
theorem maxLen_cell(h:W.ShapedOpen prog):∃ m,W.cell? ⟨13,0,none⟩=some (.int .i64 m) :=
 cell_of_shapedOpen_int (P:=prog) (t:=3) (zero:= #[.int .i64 0]) h (of_decide_eq_true (by kernel_rfl)) (by kernel_rfl) rfl (by kernel_rfl) (by kernel_rfl) underlying3
theorem Ybo:(Rows.laid_internal_strconv_uint64pow10:DataW Unit)=Lib.tabData .u64 Lib.pow10Tab:=by rfl
theorem pow_laid(h:laidMet prog (("internal/strconv.uint64pow10", Rows.laid_internal_strconv_uint64pow10)::r) W):Pow W:=by
 rw[Ybo]at h;exact Lib.tabIs_of_head (g:=14) (t:=265) (e:=208) (n:=20) (by kernel_rfl) (by kernel_rfl) underlying265 underlying208 (by kernel_rfl) (by kernel_rfl) h
theorem ba_self(s:ByteArray):s=ba s.data.toList:=rfl
end TL
namespace GL
open Go.ChangeShapes Go.WideShapes Go.ChangeAt Go.WideMaps Go.WideElems Go.RowKit Go.Deep
theorem ba_self(s:ByteArray):s=ba s.data.toList:=by
 apply ByteArray.ext
 simp
instance:Inhabited Ru:=⟨⟨[],[],[],[]⟩⟩
variable {H:Type} {enc:TypeId×Value->H}
end GL
namespace OL
open Go.ChangeShapes Go.WideShapes Go.ChangeAt Go.WideMaps Go.WideElems Go.RowKit Go.Deep
theorem Yao:prog.cellsOf 71=2:=by kernel_rfl
theorem Ycx:prog.cellsOf 3=1:=by kernel_rfl
variable {H:Type} {enc:TypeId×Value->H}
variable {W:World}{sp:Nat->Bool}{fuel:Nat}{cs:List Value}{x:DataW H×List MemPlace}
theorem Yee(h:DataW.trod enc prog W 0 sp true fuel 67 cs=some x):∃ v l,cs=[v]/\FIRow W v l:=by
 rcases open_slice underlying67 h with h0 | ⟨a,len,cap,m,n,D,Pl,rfl,hb,hl,hm,hmm,rfl,hx⟩
 ·exact⟨_,[],h0.1,none,0,rfl,fun h=>absurd rfl h⟩
 have hlm:len<=m:=by rw[hmm];split <;> omega
 have each:∀ i,i<m->∃ r:List UInt8×List UInt8,W.cell? (a.add (i*2))=some (.string (ba r.1))/\W.cell? (a.add (i*2+1))=some (.string (ba r.2)):=by
  intro i hi
  obtain⟨cs',h1,h2⟩:=hx i hi;rw[Yao]at h1;obtain⟨_,hlen,hcell⟩:=World.cells?_some h1;obtain⟨y0,y1,k,hxy,_,u0,u1⟩:=trod_struct2 underlying71 h2;match cs',hlen with
  | [v0,v1],_ =>
   simp only[TL.cellsStr,List.drop,List.take]at u0 u1;obtain⟨s0,e0,d0,_⟩:=DataW.trod_string underlying9 u0;obtain⟨s1,e1,d1,_⟩:=DataW.trod_string underlying9 u1;simp only[List.cons.injEq,and_true]at e0 e1;subst e0;subst e1;have c0:=hcell 0 (by omega)
   have c1:=hcell 1 (by omega)
   rw[add_add]at c0 c1;exact⟨(s0.data.toList,s1.data.toList),by rw[<- GL.ba_self];simpa using c0,by rw[<- GL.ba_self];simpa using c1⟩
 obtain⟨q,hq⟩:=choose_lt (α:=List UInt8×List UInt8) each;refine⟨_,(List.range len).map q,rfl,some a,cap,by simp,fun hne=> ?_⟩
 have h0:0<len:=by
  rcases Nat.eq_zero_or_pos len with e | e
  ·subst e;simp at hne
  ·exact e
 have hs:a.spot=none:=World.cell?_spot (a:=a.add (0*2)) (hq 0 (by omega)).1
 obtain⟨ab,ao,spt⟩:=a;cases hs
 refine⟨ab,ao,rfl,Zaj (hq 0 (by omega)).1,fun j hj=> ?_⟩
 have hjl:j<len:=by simpa using hj
 obtain⟨c0,c1⟩:=hq j (by omega)
 rw[Zdv]at c0 c1;rw[<- Nat.add_assoc]at c1;simp only[List.getElem_map,List.getElem_range];exact⟨c0,c1⟩
theorem Zza(h:DataW.trod enc prog W 0 sp true fuel 22 cs=some x):∃ v l,cs=[v]/\ZRow W v l/\∀ x∈l,-9223372036854775808<=x/\x<=9223372036854775807:=by
 rcases open_slice underlying22 h with h0 | ⟨a,len,cap,m,n,D,Pl,rfl,hb,hl,hm,hmm,rfl,hx⟩
 ·exact⟨_,[],h0.1,⟨none,0,rfl,fun h=>absurd rfl h⟩,by simp⟩
 have hlm:len<=m:=by rw[hmm];split <;> omega
 have each:∀ i,i<m->∃ r:Int,W.cell? (a.add (i*1))=some (.int .i64 r)/\ -9223372036854775808<=r/\r<=9223372036854775807:=by
  intro i hi
  obtain⟨cs',h1,h2⟩:=hx i hi;rw[Ycx]at h1;obtain⟨_,hlen,hcell⟩:=World.cells?_some h1;obtain⟨r,e0,_,hw⟩:=DataW.trod_int underlying3 h2;subst e0;have c0:=hcell 0 (by omega)
  rw[add_add]at c0;have e1:IntKind.i64.min= -9223372036854775808:=by decide
  have e2:IntKind.i64.max=9223372036854775807:=by decide
  simp[Lit.wf,e1,e2]at hw;exact⟨r,by simpa using c0,hw.1,hw.2⟩
 obtain⟨q,hq⟩:=choose_lt (α:=Int) each;refine⟨_,(List.range len).map q,rfl,⟨some a,cap,by simp,fun hne=> ?_⟩,fun x hx=> ?_⟩
 ·have h0:0<len:=by
   rcases Nat.eq_zero_or_pos len with e | e
   ·subst e;simp at hne
   ·exact e
  have hs:a.spot=none:=World.cell?_spot (a:=a.add (0*1)) (hq 0 (by omega)).1
  obtain⟨ab,ao,spt⟩:=a;cases hs
  refine⟨ab,ao,rfl,Zaj (hq 0 (by omega)).1,fun j hj=> ?_⟩
  have hjl:j<len:=by simpa using hj
  have c0:=(hq j (by omega)).1
  rw[Zdv,Nat.mul_one]at c0;simp only[List.getElem_map,List.getElem_range];exact c0
 ·obtain⟨i,hi,rfl⟩:=List.mem_map.1 hx;exact(hq i (by have:=List.mem_range.1 hi;omega)).2
end OL
namespace OL
open Go.ChangeShapes Go.WideShapes Go.ChangeAt Go.WideMaps Go.WideElems Go.RowKit Go.Deep
variable {H:Type} {enc:TypeId×Value->H}
theorem open_picks{W:World}{sp:Nat->Bool}{fuel:Nat}{cs:List Value}{x:DataW H×List MemPlace}(h:DataW.trod enc prog W 0 sp true fuel 22 cs=some x):∃ v l,cs=[v]/\ZRow W v l/\(∀ x∈l,-9223372036854775808<=x/\x<=9223372036854775807)/\(v=.slice none 0 0\/∃ a n c,v=.slice (some a) n c):=by
 obtain⟨v,l,e,h1,h2⟩:=Zza h;refine⟨v,l,e,h1,h2,?_⟩;rcases open_slice underlying22 h with h0 | ⟨a,len,cap,m,n,D,Pl,e2,-⟩
 ·left
  have:=h0.1;rw[e]at this;simpa using this
 ·right
  rw[e]at e2;exact⟨a,len,cap,by simpa using e2⟩
end OL
section
open Go.RowKit Go.Shelf Go.Lib Go.Maps
theorem NewTells.below{es:Nat->Addr}{n:Nat}{fs:Tf.Fs}{l:List Ru}{outs:List (List UInt8)}{cv:Value}{w w':World}{ev:Value}(h:NewTells es (BuAt es) n fs l outs cv w (.pointer none) ev)(hb:Below w.heap.size w w'):NewTells es (BuAt es) n fs l outs cv w' (.pointer none) ev:=by
 rcases h with ⟨h0,h1 | ⟨h1,k,hk,h2,h3,h4⟩ | h1⟩ | ⟨_,_,_,_,⟨p,e⟩,_⟩
 ·exact .inl ⟨h0,.inl ⟨h1.1,h1.2.below hb⟩⟩
 ·exact .inl ⟨h0,.inr (.inl ⟨h1,k,hk,h2,h3,h4.below hb⟩)⟩
 ·exact .inl ⟨h0,.inr (.inr h1)⟩
 ·cases e
variable {es:Nat->Addr}
theorem Zkh{V:World}(hG:GraphW V es)(lv:Value)(l:List Ru)(hrow:RRow V lv l)(hl:l.length<=1000)(hS:∀ x∈l,x.Small)(nb:Nat)(v:Value)(ll:List Nat)(hc:V.cell? ⟨nb,0,none⟩=some v)(hr:NIRow V v ll)(hll:ll.length<=1000)(hcl:∀ i k,i∈ll->Ru.needs l i k=true->k∈ll):
  Calls prog 61 #[lv,.func (.func 182) #[] #[.pointer (some ⟨nb,0,none⟩)]] V fun e w'=>∃ u ev,e=.returned (.tuple #[u,ev])/\Below V.heap.size V w'/\Zcw es l (fun k=>decide (k∈ll)) w' u ev :=
 Zdq hG lv l hrow hl hS 182 #[.pointer (some ⟨nb,0,none⟩)] (enters_of func182 (by kernel_rfl) rfl) (fun k=>decide (k∈ll)) (hid1 fun i k hi hk=>by
  simp only[decide_eq_true_eq]at hi ⊢;exact hcl i k hi hk) (hid1 fun x W' _ gW=>Znn (Zaa hc gW) (hr.below gW) hll x)
theorem Ztq{W:World}(hW:BuildW W es){Bt tb:Nat}{fs:Tf.Fs}{o:Option Nat}(hT:TreeAt Bt W tb fs o)(lv:Value)(l:List Ru)(hrow:RRow W lv l)(hl:l.length<=1000)(hS:∀ x∈l,x.Small)(ov:Value)(outs:List (List UInt8))(hout:XRow W ov outs)(hol:outs.length<=1000)(cv:Value)(hcv:∃ q,cv=.pointer q):
  Calls prog 144 #[Ptr tb,lv,ov,cv] W fun e w'=>∃ bv ev,e=.returned (.tuple #[bv,ev])/\Below W.heap.size W w'/\NewTells es (BuAt es) W.heap.size fs l outs cv w' bv ev:=by
 have HNd:=hid1 (Zhg hW.g.s hW.none lv l hrow hl hS ov outs hout hol);have HOf:=hid1 fun(V:World) (g:Below W.heap.size W V)=>Zkh (hW.g.below g) lv l (hrow.below g) hl hS
 have HSt:=hid1 fun(V:World) (g:Below W.heap.size W V) (h40:l.length<=40) (hA:Ru.Apart l) (uv:Value) (ord:List Nat) (hord:NIRow V uv ord) (ht:Ru.Topo l ord) (hnd:ord.Nodup) (ho:∀ i∈ord,i<l.length)=>Zml (es:=es) (hT.below g) lv l (hrow.below g) h40 hS hA uv ord hord ht hnd ho
 have HS:=hid1 hS;obtain⟨q,rfl⟩:=hcv;obtain⟨pl,cl,rfl,-⟩:=hrow;obtain⟨po,co,rfl,-⟩:=hout;clear hW hT hS;go_enter func144,ntmps144
 go_wp2_with fail;refine HNd.out.mono ?_;rintro e w1 ⟨u1,ev,rfl,g1,hT1⟩;clear HNd;rcases hT1 with ⟨hf,hE,pn,cn,rfl⟩ | ⟨hf,k,hk,h1,h2,hE,pn,cn,rfl⟩ | ⟨hf,h1,rfl,f,hN,hrw⟩
 ·have HP:Hid (NewTells es (BuAt es) W.heap.size fs l outs (.pointer q) w1 (.pointer none) ev):=hid1 (.inl ⟨rfl,.inl ⟨hf,hE⟩⟩);obtain⟨t,x,rfl⟩:=hE.some hf;have gA:Below w1.heap.size w1 (w1.alloc (.cells #[.slice pn 0 cn] 22)):=(Below.refl _ w1).alloc (Nat.le_refl _) _;clear hf hE HOf HSt;go_wp2;go_ret2;exact⟨_,_,rfl,Zac g1 gA,HP.out.below gA⟩
 ·have HP:Hid (NewTells es (BuAt es) W.heap.size fs l outs (.pointer q) w1 (.pointer none) ev):=hid1 (.inl ⟨rfl,.inr (.inl ⟨hf,k,hk,h1,h2,hE⟩)⟩);obtain⟨t,x,rfl⟩:=hE.some (by simp)
  have gA:Below w1.heap.size w1 (w1.alloc (.cells #[.slice pn 0 cn] 22)):=(Below.refl _ w1).alloc (Nat.le_refl _) _;clear hf hE h1 h2 HOf HSt;go_wp2;go_ret2;exact⟨_,_,rfl,Zac g1 gA,HP.out.below gA⟩
 ·obtain⟨h40,hA⟩:=Ru.fault_ok hf;have HR1:=hid1 hrw;obtain⟨pn,cn,rfl,-⟩:=hrw;have gA:Below w1.heap.size w1 (w1.alloc (.cells #[.slice pn ((List.range l.length).filter f).length cn] 22)):=(Below.refl _ w1).alloc (Nat.le_refl _) _;have G2:=Zac g1 gA
  have hfl:((List.range l.length).filter f).length<=40:=Nat.le_trans (by simpa using List.length_filter_le f (List.range l.length)) h40
  have hch:∀ k,k<l.length->(decide (k∈(List.range l.length).filter f))=Bf.need l outs k:=fun k hk=>by
   rw[Bf.need_eq hN hk];simp[hk]
  have HCh:=hid1 (Ru.order_congr2 hch);have HO:=hid1 (HOf.out _ G2 w1.heap.size _ _ (by simp) (HR1.out.below gA) (by omega) fun i k hi hk=>by
   simp only[List.mem_filter,List.mem_range]at hi ⊢;exact⟨(Ru.needs_lt hk).2,hN.closed i k hi.2 hk⟩)
  unfold Zcw at HO;rw[HCh.out]at HO;have HFt:=hid1 hf;have H1:=hid1 h1;have HN:=hid1 hN;have HA:=hid1 hA;have hsh:=HR1.out;clear hf h1 hN hA HOf HCh hch hsh HR1;go_wp2_with fail;refine HO.out.mono ?_;rintro e w3 ⟨u3,ev3,rfl,g3,hT3⟩;have G3:=Zac G2 g3;clear HO;rcases hT3 with ⟨h0,-⟩ | ⟨-,hnone,rfl,pn3,cn3,rfl⟩ | ⟨-,ord,hsome,rfl,hr3⟩
  ·exact absurd HFt.out h0
  ·have HP:Hid (NewTells es (BuAt es) W.heap.size fs l outs (.pointer q) w3 (.pointer none) (erOf es 9)):=hid1 (.inl ⟨rfl,.inr (.inr ⟨HFt.out,H1.out,hnone,rfl⟩)⟩);clear hnone HSt;obtain⟨t9,x9,e9⟩:∃ t x,erOf es 9=.iface t x:=⟨_,_,rfl⟩
   rw[e9]at HP ⊢;clear e9;go_wp2;go_ret2;exact⟨_,_,rfl,G3,HP.out⟩
  ·obtain⟨ht,hall⟩:=Ru.order_some hsome;obtain⟨hnd,hlt⟩:=Ru.order_nodup hsome;have hch:=Ru.order_ch hsome;have HSo:=hid1 (HSt.out w3 G3 h40 HA.out u3 ord hr3 ht hnd hlt);have hol2:ord.length<=40:=Nat.le_trans (len_le hnd hlt) h40;have HMem:Hid (∀ k,k∈ord↔k<l.length/\f k=true):=hid1 fun k=>by
    constructor
    ·intro hk
     have h1:=hlt k hk;exact⟨h1,by rw[<- Bf.need_eq HN.out h1];exact hch k hk⟩
    ·rintro⟨h1,h2⟩;exact hall k h1 (by rw[Bf.need_eq HN.out h1];exact h2)
   have HSome:Hid ((Ru.order l (Bf.need l outs)).isSome=true):=hid1 (by rw[hsome];rfl)
   obtain⟨p3,c3,rfl,-⟩:=hr3;clear HSt ht hall hnd hlt hch hsome;go_wp2_with fail;refine HSo.out.mono ?_;rintro e w4 ⟨bm,mb,L,rfl,hO4⟩;have g4:Below w3.heap.size w3 w4:=hO4.made.base;have gB:Below w4.heap.size w4 (w4.alloc (.cells #[.map (some bm),.pointer q] 271)):=(Below.refl _ w4).alloc (Nat.le_refl _) _;have rr:=row_new w4 (.cells #[.map (some bm),.pointer q] 271)
   obtain⟨hB,hlo⟩:=hO4.build HA.out HS.out HN.out HMem.out hol2 (cv:=.pointer q) gB (Nat.le_refl _) (Zab (j:=0) rr rfl) (Zab (j:=1) rr rfl);have hz3:=G3.size
   have HP:Hid (NewTells es (BuAt es) W.heap.size fs l outs (.pointer q) (w4.alloc (.cells #[.map (some bm),.pointer q] 271)) (Ptr w4.heap.size) .nilIface):=hid1 (.inr ⟨HFt.out,H1.out,HSome.out,rfl,⟨_,rfl⟩,_,⟨_,_,_,L,rfl,⟨q,rfl⟩,fun _=>Iff.rfl,hB⟩,fun j hj=>Nat.le_trans hz3 (hlo j hj)⟩)
   have G5:=Zac (Zac G3 g4) gB;clear HSo hO4 hB hlo rr g4 gB;go_wp2;go_ret2;exact⟨_,_,rfl,G5,HP.out⟩
end
