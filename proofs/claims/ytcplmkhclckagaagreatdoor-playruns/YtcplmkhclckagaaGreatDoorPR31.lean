import Derived.Test.YtcplmkhclckagaaGreatDoorPR30
set_option maxRecDepth 100000
set_option maxHeartbeats 32000000
open Go.Proofs.Tryz
namespace Go.Proofs.YtcplmkhclckagaaGreatDoor
open Go.RowKit Go.Shelf Go.Lib
variable {w0:Gr}{W:World}{mb tb gs go gh gw:Nat}{tv lv cv:Value}{d:Bf.Bd}
theorem Zcc(h:MB w0 W mb tb tv lv cv gs go gh gw d)(hn:d.l.length<=1000)(hI:∀ x∈d.l,x.ins.length<=1000000)(i:Nat)(hi:i<d.l.length):
  Calls prog 149 #[.pointer (some ⟨mb,0,none⟩),.int .i64 i] W fun e w'=>e=.returned (.bool (d.isReady i))/\Below W.heap.size W w':=by
 have HH:=hid1 h;have HN:=hid1 fun(V:World) (g:Below W.heap.size W V) (k:Nat) (hk:k<d.l.length)=>Zbl lv d.l (h.row.below g) hI i k hi hk
 have HR:Hid (d.isReady i=((d.st i).isWaits&&Bf.freeTo d.l d.st i d.l.length)):=hid1 rfl;obtain⟨p,cap,rfl,-⟩:=h.row;have c1:=h.c1;have c2:=h.c2;have cs:=(h.rs.2 i hi).1;have i0:(0:Int)<=(i:Int):=by omega
 have i1:(i:Int)<(d.l.length:Int):=by omega
 have hw:=Bf.St.name_waits (d.st i);clear h;cases hs:(d.st i).isWaits with
 | false =>
  rw[hs]at hw HR;clear HN HH;go_enter func149,ntmps149
  go_wp2;go_ret;exact⟨by rw[HR.out];rfl,Below.refl _ _⟩
 | true =>
  rw[hs,Bool.true_and]at HR;rw[hs]at hw;go_enter func149,ntmps149
  go_wp2;clear c1 c2 cs;go_loopw [5] (fun iv wr=>∃ k:Nat,k<=d.l.length/\iv=.int .i64 k/\Bf.freeTo d.l d.st i k=true/\Below W.heap.size W wr) (fun iv _=>d.l.length - (intOf iv).toNat)
  case atStart=>exact⟨0,Nat.zero_le _,rfl,Bf.freeTo_zero _ _ _,Below.refl _ _⟩
  case round =>
   obtain⟨k,hk,rfl,hf,hB⟩:=hrel;have hM:=HH.out.below hB;have c1:=hM.c1;have c2:=hM.c2;have k0:(0:Int)<=(k:Int):=by omega
   by_cases hlt:k<d.l.length
   ·have k1:(k:Int)<(d.l.length:Int):=by omega
    have ck:=(hM.rs.2 k hlt).1;have HC:=hid1 (HN.out wr hB k hlt);have HS:=hid1 (Bf.freeTo_succ d.l d.st i k);rw[hf]at HS;have HFin:Hid (Bf.freeTo d.l d.st i (k+1)=false->Bf.freeTo d.l d.st i d.l.length=false):=hid1 fun h0=>by
     unfold Bf.freeTo at h0 ⊢;rw[List.all_eq_false]at h0 ⊢;obtain⟨x,hx,hx2⟩:=h0;exact⟨x,List.mem_range.2 (by have:=List.mem_range.1 hx;omega),hx2⟩
    have hd:=Bf.St.name_done (d.st k);clear hM;cases hnd:Ru.needs d.l i k with
    | false =>
     rw[hnd]at HC HS;go_wp2_with fail;refine HC.out.mono ?_;rintro e w1 ⟨rfl,q,rfl⟩;clear HC;go_wp2;exact⟨⟨k+1,by omega,by go_num,by rw[HS.out];rfl,Zad hB q⟩,by simp[intOf];omega⟩
    | true =>
     rw[hnd]at HC HS;cases hdn:(d.st k).isDone with
     | true =>
      rw[hdn]at hd HS;go_wp2_with fail;refine HC.out.mono ?_;rintro e w1 ⟨rfl,q,rfl⟩;clear HC;go_wp2;exact⟨⟨k+1,by omega,by go_num,by rw[HS.out];rfl,Zad hB q⟩,by simp[intOf];omega⟩
     | false =>
      rw[hdn]at hd HS;go_wp2_with fail;refine HC.out.mono ?_;rintro e w1 ⟨rfl,q,rfl⟩;clear HC;go_wp2;go_ret;exact⟨by rw[HR.out,HFin.out (by rw[HS.out];rfl)];rfl,Zad hB q⟩
   ·have k1:(d.l.length:Int)<=(k:Int):=by omega
    obtain rfl:k=d.l.length:=by omega
    clear hM;go_wp2;go_ret;exact⟨by rw[HR.out,hf];rfl,hB⟩
theorem Zna(h:MB w0 W mb tb tv lv cv gs go gh gw d)(hn:d.l.length<=1000)(hI:∀ x∈d.l,x.ins.length<=1000000):
  Calls prog 111 #[.pointer (some ⟨mb,0,none⟩)] W fun e w'=>∃ u,e=.returned u/\w'.ownsRow W.heap.size 3 1 u d.ready.length (d.ready.map nv)/\Below W.heap.size W w':=by
 have HH:=hid1 h;have HN:=hid1 fun(V:World) (g:Below W.heap.size W V) (k:Nat) (hk:k<d.l.length)=>Zcc (h.below g) hn hI k hk
 obtain⟨p,cap,rfl,-⟩:=h.row;have c1:=h.c1;obtain⟨i0,hi,hz0,hz1,hz2⟩:=info_parts Tryz.infoInt;clear h;go_enter func111,ntmps111
 go_wp2;clear c1;go_loopw [3,4] (fun ov iv wr=>∃ k:Nat,k<=d.l.length/\iv=.int .i64 k/\wr.ownsRow W.heap.size 3 1 ov (d.readyTo k).length ((d.readyTo k).map nv)/\Below W.heap.size W wr) (fun _ iv _=>d.l.length - (intOf iv).toNat)
 case atStart=>exact⟨0,Nat.zero_le _,rfl,World.ownsRow_nil _ _ _ _,Below.refl _ _⟩
 case round =>
  obtain⟨k,hk,rfl,hO,hB⟩:=hrel;have HO:=hid1 hO;clear hO;have hM:=HH.out.below hB;have c1:=hM.c1;have k0:(0:Int)<=(k:Int):=by omega
  by_cases hlt:k<d.l.length
  ·have k1:(k:Int)<(d.l.length:Int):=by omega
   have HC:=hid1 (HN.out wr hB k hlt);have HS:=hid1 (Bf.readyTo_succ d k);have hrl:=Bf.readyTo_len d k;clear hM;cases hr:d.isReady k with
   | false =>
    rw[hr]at HC HS;go_wp2_with fail;refine HC.out.mono ?_;rintro e w1 ⟨rfl,g1⟩;have hB1:=Zac hB g1;have HO1:=hid1 (Zbe HO.out g1);clear HC g1;go_wp2;exact⟨⟨k+1,by omega,by go_num,by rw[HS.out];simpa using HO1.out,hB1⟩,by simp[intOf];omega⟩
   | true =>
    rw[hr]at HC HS;go_wp2_with fail;refine HC.out.mono ?_;rintro e w1 ⟨rfl,g1⟩;have hB1:=Zac hB g1;have hrow:=Zbe HO.out g1;have hml:(d.readyTo k).length+1<=maxLen:=by unfold maxLen;omega
    have hbz:=hB1.size;clear HC g1;go_wp2_with (first
     | (at_builtin;refine wpList_append_own _ rfl _ _ 22 rfl W.heap.size 3 i0 (.int .i64 0) 1 8 underlying22 hi hz0 hz1 hz2 rfl (by decide) _ _ _ rfl (hrow.alloc _) ⟨w1.heap.size,0,none⟩ 1 1 [nv k] rfl rfl (cell_one_new _ _ _) (by simp[Value.oneCell']) hml (by omega) (by simp;omega) ?_;intro v' w4 hown' hgrow _)
     | fail)
    exact⟨⟨k+1,by omega,by go_num,by rw[HS.out,if_pos trivial,List.length_append,List.map_append];exact hown',Zak hB1 hbz hrow hgrow⟩,by simp[intOf];omega⟩
  ·have k1:(d.l.length:Int)<=(k:Int):=by omega
   obtain rfl:k=d.l.length:=by omega
   clear hM;go_wp2;go_ret;exact⟨_,rfl,HO.out,hB⟩
abbrev FailO(gs gw:Nat)(W w:World):Prop:=Only (fun j=>j=gs\/j=gw) W w
variable {w:World}
theorem FailO.drew(h:FailO gs gw W w)(q:Nat):FailO gs gw W (w.drewN q):=⟨h.os,h.tape,h.output,h.size,h.block⟩
theorem FailO.set(h:FailO gs gw W w)(i:Nat)(v:Value):FailO gs gw W (w.setCell ⟨gs,i,none⟩ v) :=
 ⟨h.os,h.tape,h.output,by rw[Zah];exact h.size,fun j hj hn=>(Below.heap_setCell w ⟨gs,i,none⟩ v j (fun e=>hn (.inl e))).trans (h.block j hj hn)⟩
theorem MBr.drew{l:List Ru}{fs:Tf.Fs}{vS vO vH vW:Nat->Value}(h:MBr w0 W mb tb tv lv cv gs go gh gw l fs vS vO vH vW)(q:Nat):MBr w0 (W.drewN q) mb tb tv lv cv gs go gh gw l fs vS vO vH vW :=
 h.same (h.base.more (Zad (Below.refl _ W) q)) (Nat.le_refl _) fun _ _=>rfl
theorem Zdn(h:MB w0 W mb tb tv lv cv gs go gh gw d)(hn:d.l.length<=1000)(hI:∀ x∈d.l,x.ins.length<=1000000)(i c:Nat)(hi:i<d.l.length)(hst:d.st i=.waits):
  Calls prog 150 #[.pointer (some ⟨mb,0,none⟩),.int .i64 i,.int .i64 c] W fun e w'=>e=.returned (.tuple #[])/\MB w0 w' mb tb tv lv cv gs go gh gw (d.fail i c)/\FailO gs gw W w':=by
 obtain⟨p,cap,rfl,-⟩:=h.row;have c1:=h.c1;have c2:=h.c2;have i0:(0:Int)<=(i:Int):=by omega
 have i1:(i:Int)<(d.l.length:Int):=by omega
 have cs:=(h.rs.2 i hi);have cs1:=cs.1;have cs2:=cs.2;have m1:=h.setS hi (.string ⟨#[102,97,105,108,101,100]⟩);have m2:=m1.setW hi (.int .i64 (c:Nat));have d5:=m1.c5;have cw:=(m1.rw.2 i hi);have cw1:=cw.1;have cw2:=cw.2;have o2:FailO gs gw W ((W.setCell ⟨gs,i,none⟩ (.string ⟨#[102,97,105,108,101,100]⟩)).setCell ⟨gw,i,none⟩ (.int .i64 (c:Nat))):=by
  refine⟨rfl,rfl,rfl,by rw[Zah,Zah];exact Nat.le_refl _,fun j hj hs=> ?_⟩
  exact(Below.heap_setCell _ ⟨gw,i,none⟩ _ j (fun e=>hs (.inr e))).trans (Below.heap_setCell W ⟨gs,i,none⟩ _ j (fun e=>hs (.inl e)))
 have M2:Hid (MBr w0 ((W.setCell ⟨gs,i,none⟩ (.string ⟨#[102,97,105,108,101,100]⟩)).setCell ⟨gw,i,none⟩ (.int .i64 (c:Nat))) mb tb tv (.slice p d.l.length cap) cv gs go gh gw d.l d.fs (nameV (Bf.setS d.st i (.failed c))) (outV (Bf.setS d.st i (.failed c))) (hitV (Bf.setS d.st i (.failed c))) (whyV (Bf.setS d.st i (.failed c)))):=hid1 (by
  rw[<- Zdy,Ybs (by rw[hst];rfl),Znj (by rw[hst];rfl),<- Ydi]
  exact m2)
 have HO2:=hid1 o2;have HF:Hid (∀ cur,(∀ k,cur k=Bf.spread d.l (Bf.setS d.st i (.failed c)) k)->∀ V,MBr w0 V mb tb tv (.slice p d.l.length cap) cv gs go gh gw d.l d.fs (nameV cur) (outV (Bf.setS d.st i (.failed c))) (hitV (Bf.setS d.st i (.failed c))) (whyV (Bf.setS d.st i (.failed c)))->MB w0 V mb tb tv (.slice p d.l.length cap) cv gs go gh gw (d.fail i c)):=hid1 fun cur hc V hV=>by
  have e0:cur=(d.fail i c).st:=funext hc;have keep:∀ k,((d.fail i c).st k).out=(Bf.setS d.st i (.failed c) k).out/\((d.fail i c).st k).hit=(Bf.setS d.st i (.failed c) k).hit/\((d.fail i c).st k).why=(Bf.setS d.st i (.failed c) k).why:=fun k=>by
   show(Bf.spread d.l (Bf.setS d.st i (.failed c)) k).out=_/\(Bf.spread d.l (Bf.setS d.st i (.failed c)) k).hit=_/\(Bf.spread d.l (Bf.setS d.st i (.failed c)) k).why=_
   unfold Bf.spread;split
   ·rename_i hx
    rw[Bf.St.waits_eq hx.1];exact⟨rfl,rfl,rfl⟩
   ·exact⟨rfl,rfl,rfl⟩
  have e1:outV (d.fail i c).st=outV (Bf.setS d.st i (.failed c)):=funext fun k=>by unfold outV;rw[(keep k).1]
  have e2:hitV (d.fail i c).st=hitV (Bf.setS d.st i (.failed c)):=funext fun k=>by unfold hitV;rw[(keep k).2.1]
  have e3:whyV (d.fail i c).st=whyV (Bf.setS d.st i (.failed c)):=funext fun k=>by unfold whyV;rw[(keep k).2.2]
  show MBr w0 V mb tb tv (.slice p d.l.length cap) cv gs go gh gw d.l d.fs (nameV (d.fail i c).st) (outV (d.fail i c).st) (hitV (d.fail i c).st) (whyV (d.fail i c).st)
  rw[e1,e2,e3,<- e0];exact hV
 have hs0:(Bf.setS d.st i (.failed c) i).isWaits=false:=by rw[Bf.setS_same];rfl
 generalize Bf.setS d.st i (.failed c)=s0 at *;have HRE:Hid (∀ cur,Bf.Round d.l s0 cur d.l.length->∀ k,cur k=Bf.spread d.l s0 k):=hid1 fun cur hr=>hr.end hi hs0
 go_enter func150,ntmps150
 go_wp2;generalize hWW:(W.setCell ⟨gs,i,none⟩ (.string ⟨#[102,97,105,108,101,100]⟩)).setCell ⟨gw,i,none⟩ (.int .i64 (c:Nat))=W2 at *
 go_loopw [6] (fun rv wr=>∃(r:Nat) (cur:Nat->Bf.St),r<=d.l.length/\rv=.int .i64 r/\Bf.Round d.l s0 cur r/\MBr w0 wr mb tb tv (.slice p d.l.length cap) cv gs go gh gw d.l d.fs (nameV cur) (outV s0) (hitV s0) (whyV s0)/\FailO gs gw W wr) (fun rv _=>d.l.length - (intOf rv).toNat)
 case atStart=>exact⟨0,s0,Nat.zero_le _,rfl,Bf.Round.start _ _,M2.out,HO2.out⟩
 case round =>
  obtain⟨r,cur,hr,rfl,hR,hM,hO⟩:=hrel;have c1:=hM.c1;have r0:(0:Int)<=(r:Int):=by omega
  by_cases hrl:r<d.l.length
  ·have r1:(r:Int)<(d.l.length:Int):=by omega
   have HM0:=hid1 hM;have HO0:=hid1 hO;have HR0:=hid1 hR;go_wp2;generalize wr=wa at *;go_loopw [7] (fun kv wr=>∃(k:Nat) (cu:Nat->Bf.St),k<=d.l.length/\kv=.int .i64 k/\Bf.Sweep d.l s0 cur cu k 0/\MBr w0 wr mb tb tv (.slice p d.l.length cap) cv gs go gh gw d.l d.fs (nameV cu) (outV s0) (hitV s0) (whyV s0)/\FailO gs gw W wr) (fun kv _=>d.l.length - (intOf kv).toNat)
   case atStart=>exact⟨0,cur,Nat.zero_le _,rfl,Bf.Sweep.start HR0.out.mid,HM0.out,HO0.out⟩
   case round =>
    obtain⟨k,cu,hk,rfl,hSw,hM,hO⟩:=hrel;have c1:=hM.c1;have k0:(0:Int)<=(k:Int):=by omega
    by_cases hkl:k<d.l.length
    ·have k1:(k:Int)<(d.l.length:Int):=by omega
     have HM1:=hid1 hM;have HO1:=hid1 hO;have HS1:=hid1 hSw;go_wp2;generalize wr=wb at *;go_loopw [8] (fun jv wr=>∃(j:Nat) (cv':Nat->Bf.St),j<=d.l.length/\jv=.int .i64 j/\Bf.Sweep d.l s0 cur cv' k j/\MBr w0 wr mb tb tv (.slice p d.l.length cap) cv gs go gh gw d.l d.fs (nameV cv') (outV s0) (hitV s0) (whyV s0)/\FailO gs gw W wr) (fun jv _=>d.l.length - (intOf jv).toNat)
     case atStart=>exact⟨0,cu,Nat.zero_le _,rfl,HS1.out,HM1.out,HO1.out⟩
     case round =>
      obtain⟨j,x,hj,rfl,hSw,hM,hO⟩:=hrel;have c1:=hM.c1;have c2:=hM.c2;have j0:(0:Int)<=(j:Int):=by omega
      by_cases hjl:j<d.l.length
      ·have j1:(j:Int)<(d.l.length:Int):=by omega
       have cj:=(hM.rs.2 j hjl).1;have ck:=(hM.rs.2 k hkl).1;have fk:=(hM.rs.2 k hkl).2;have HC:=hid1 (Zbl (.slice p d.l.length cap) d.l hM.row hI k j hkl hjl);have q1:=Bf.St.name_failed (x j);have q2:=Bf.St.name_left (x j);have q3:=Bf.St.name_waits (x k);have HB:Hid ((x j).isBad=((x j).isFailed||(x j).isLeft)):=hid1 (Bf.St.bad_eq (x j))
       have HM:=hid1 hM;have HO:=hid1 hO;have HS:=hid1 hSw;cases hf:(x j).isFailed with
       | true =>
        rw[hf]at q1 HB;have hbd:(x j).isBad=true:=by rw[HB.out];rfl
        have HBD:=hid1 hbd;cases hw:(x k).isWaits with
        | false =>
         rw[hw]at q3;have HQ:=hid1 (HS.out.miss (by rw[hw];rfl))
         go_wp2;exact⟨⟨j+1,x,by omega,by go_num,HQ.out,HM.out,HO.out⟩,by simp[intOf];omega⟩
        | true =>
         rw[hw]at q3;cases hnd:Ru.needs d.l k j with
         | false =>
          have HQ:=hid1 (HS.out.miss (by rw[hnd];simp))
          rw[hnd]at HC;go_wp2_with fail;refine HC.out.mono ?_;rintro e w1 ⟨rfl,q,rfl⟩;go_wp2;exact⟨⟨j+1,x,by omega,by go_num,HQ.out,HM.out.drew q,HO.out.drew q⟩,by simp[intOf];omega⟩
         | true =>
          have HQ:=hid1 (HS.out.hit hw HBD.out hnd);have HM4:=hid1 fun q=>(HM.out.drew q).setS hkl (.string (ba Bf.St.left.name))
          have HO4:=hid1 fun q=>(HO.out.drew q).set k (.string (ba Bf.St.left.name))
          rw[Zdy]at HM4;rw[hnd]at HC;go_wp2_with fail;refine HC.out.mono ?_;rintro e w1 ⟨rfl,q,rfl⟩;go_wp2;exact⟨⟨j+1,_,by omega,by go_num,HQ.out,HM4.out q,HO4.out q⟩,by simp[intOf];omega⟩
       | false =>
        cases hlf:(x j).isLeft with
        | true =>
         rw[hf]at q1;rw[hf,hlf]at HB;rw[hlf]at q2;have hbd:(x j).isBad=true:=by rw[HB.out];rfl
         have HBD:=hid1 hbd;cases hw:(x k).isWaits with
         | false =>
          rw[hw]at q3;have HQ:=hid1 (HS.out.miss (by rw[hw];rfl))
          go_wp2;exact⟨⟨j+1,x,by omega,by go_num,HQ.out,HM.out,HO.out⟩,by simp[intOf];omega⟩
         | true =>
          rw[hw]at q3;cases hnd:Ru.needs d.l k j with
          | false =>
           have HQ:=hid1 (HS.out.miss (by rw[hnd];simp))
           rw[hnd]at HC;go_wp2_with fail;refine HC.out.mono ?_;rintro e w1 ⟨rfl,q,rfl⟩;go_wp2;exact⟨⟨j+1,x,by omega,by go_num,HQ.out,HM.out.drew q,HO.out.drew q⟩,by simp[intOf];omega⟩
          | true =>
           have HQ:=hid1 (HS.out.hit hw HBD.out hnd);have HM4:=hid1 fun q=>(HM.out.drew q).setS hkl (.string (ba Bf.St.left.name))
           have HO4:=hid1 fun q=>(HO.out.drew q).set k (.string (ba Bf.St.left.name))
           rw[Zdy]at HM4;rw[hnd]at HC;go_wp2_with fail;refine HC.out.mono ?_;rintro e w1 ⟨rfl,q,rfl⟩;go_wp2;exact⟨⟨j+1,_,by omega,by go_num,HQ.out,HM4.out q,HO4.out q⟩,by simp[intOf];omega⟩
        | false =>
         rw[hf]at q1;rw[hf,hlf]at HB;rw[hlf]at q2;cases hw:(x k).isWaits with
         | false =>
          rw[hw]at q3;have HQ:=hid1 (HS.out.miss (by rw[hw];rfl))
          go_wp2;exact⟨⟨j+1,x,by omega,by go_num,HQ.out,HM.out,HO.out⟩,by simp[intOf];omega⟩
         | true =>
          rw[hw]at q3;have HQ:=hid1 (HS.out.miss (by rw[hw,HB.out];rfl))
          go_wp2;exact⟨⟨j+1,x,by omega,by go_num,HQ.out,HM.out,HO.out⟩,by simp[intOf];omega⟩
      ·have j1:(d.l.length:Int)<=(j:Int):=by omega
       obtain rfl:j=d.l.length:=by omega
       have HM:=hid1 hM;have HO:=hid1 hO;have HS:=hid1 hSw;go_wp2;exact⟨⟨k+1,x,by omega,by go_num,HS.out.row,HM.out,HO.out⟩,by simp[intOf];omega⟩
    ·have k1:(d.l.length:Int)<=(k:Int):=by omega
     obtain rfl:k=d.l.length:=by omega
     have HM:=hid1 hM;have HO:=hid1 hO;have HS:=hid1 hSw;go_wp2;exact⟨⟨r+1,cu,by omega,by go_num,HR0.out.next HS.out,HM.out,HO.out⟩,by simp[intOf];omega⟩
  ·have r1:(d.l.length:Int)<=(r:Int):=by omega
   obtain rfl:r=d.l.length:=by omega
   have HM:=hid1 hM;have HO:=hid1 hO;have HR:=hid1 hR;go_wp2;go_end0
   exact⟨rfl,HF.out cur (HRE.out cur HR.out) _ HM.out,HO.out⟩
theorem Zzj(h:MB w0 W mb tb tv lv cv gs go gh gw d)(i:Int)(hi:i<0\/(d.l.length:Int)<=i):
  Calls prog 112 #[.pointer (some ⟨mb,0,none⟩),.int .i64 i] W fun e w'=>e=.returned (.tuple #[.bool false,.int .i64 6])/\Below W.heap.size W w':=by
 obtain⟨p,cap,rfl,-⟩:=h.row;have c1:=h.c1;clear h;by_cases hneg:i<0
 ·go_enter func112,ntmps112
  go_wp2;go_ret2;exact⟨rfl,Below.refl _ _⟩
 ·have i0:0<=i:=by omega
  have i1:(d.l.length:Int)<=i:=by omega
  go_enter func112,ntmps112
  go_wp2;go_ret2;exact⟨rfl,Below.refl _ _⟩
theorem Zzk(h:MB w0 W mb tb tv lv cv gs go gh gw d)(hn:d.l.length<=1000)(hI:∀ x∈d.l,x.ins.length<=1000000)(i:Nat)(hi:i<d.l.length)(hr:d.isReady i=false)(act:Bf.Act)(c:Bf.Ca):
  Calls prog 112 #[.pointer (some ⟨mb,0,none⟩),.int .i64 i] W fun e w'=>e=.returned (.tuple #[.bool (Bf.runN act c d i).hit,.int .i64 ((Bf.runN act c d i).code:Nat)])/\(Bf.runN act c d i).d=d/\(Bf.runN act c d i).c=c/\Below W.heap.size W w':=by
 have HR:=hid1 (Zcc h hn hI i hi);rw[hr]at HR;obtain⟨p,cap,rfl,-⟩:=h.row;have c1:=h.c1;have c2:=h.c2;have cs:=(h.rs.2 i hi).1;have i0:(0:Int)<=(i:Int):=by omega
 have i1:(i:Int)<(d.l.length:Int):=by omega
 have q1:=Bf.St.name_no (d.st i);have q2:=Bf.St.name_waits (d.st i);have q3:(d.st i).name.isEmpty=(d.st i).isNo:=by cases d.st i <;> rfl
 clear h;cases h1:(d.st i).isNo with
 | true =>
  rw[h1]at q1 q3;have HE:Hid (Bf.runN act c d i=⟨false,6,d,c⟩):=hid1 (by unfold Bf.runN;rw[if_pos h1])
  rw[HE.out];go_enter func112,ntmps112
  go_wp2;go_ret2;exact⟨rfl,trivial,trivial,Below.refl _ _⟩
 | false =>
  rw[h1]at q1 q3;cases h2:(d.st i).isWaits with
  | false =>
   rw[h2]at q2;have HE:Hid (Bf.runN act c d i=⟨false,12,d,c⟩):=hid1 (by unfold Bf.runN;rw[if_neg (by rw[h1];simp),if_pos h2])
   rw[HE.out];go_enter func112,ntmps112
   go_wp2;go_ret2;exact⟨rfl,trivial,trivial,Below.refl _ _⟩
  | true =>
   rw[h2]at q2;have HE:Hid (Bf.runN act c d i=⟨false,11,d,c⟩):=hid1 (by unfold Bf.runN;rw[if_neg (by rw[h1];simp),if_neg (by rw[h2];simp),if_pos hr])
   rw[HE.out];go_enter func112,ntmps112
   go_wp2_with fail;refine HR.out.mono ?_;rintro e w1 ⟨rfl,g1⟩;clear HR;go_wp2;go_ret2;exact⟨rfl,trivial,trivial,g1⟩
theorem kadd(a b:List UInt8)(h:a.length+b.length<=100000000)(W:World):(Op.stringOp .add (ba a) (ba b)).run prog W=.ok (.string (ba (a++b))) W:=by
 rw[run_string_add_sum (P:=prog) W (ba a) (ba b) (by rw[Zal,Zal];omega),Zcv]
theorem piece_len(x:List UInt8)(h:x.length<=5000):(Kp.piece x).length<=x.length+22:=by
 unfold Kp.piece;have:=Zax x.length (by omega)
 simp
 omega
theorem Zuf(kind word:List UInt8)(v:Value)(ins:List (List UInt8))(hrow:IRow W v ins)(hk:kind.length<=200)(hw:word.length<=200)(hn:ins.length<=12)(hx:∀ x∈ins,x.length<=3000):
  Calls prog 151 #[.string (ba kind),.string (ba word),v] W fun e w'=>e=.returned (.string (ba (Kp.key kind word ins)))/\Below W.heap.size W w':=by
 obtain⟨p,cap,rfl,hin⟩:=hrow;have HI:=hid1 hin;clear hin;have HD:=hid1 fun(n:Nat) (h:n<=1000000) (X:World)=>Zdg n h X
 have l1:=Zax kind.length (by omega)
 have l2:=Zax word.length (by omega)
 obtain⟨A1,hA1⟩:∃ x,x=Lib.decDigits kind.length:=⟨_,rfl⟩
 obtain⟨A2,hA2⟩:∃ x,x=A1++[58]:=⟨_,rfl⟩
 obtain⟨A3,hA3⟩:∃ x,x=A2++kind:=⟨_,rfl⟩
 obtain⟨D2,hD2⟩:∃ x,x=Lib.decDigits word.length:=⟨_,rfl⟩
 obtain⟨A4,hA4⟩:∃ x,x=A3++D2:=⟨_,rfl⟩
 obtain⟨A5,hA5⟩:∃ x,x=A4++[58]:=⟨_,rfl⟩
 obtain⟨A6,hA6⟩:∃ x,x=A5++word:=⟨_,rfl⟩
 rw[<- hA1]at l1;rw[<- hD2]at l2;have m2:A2.length=A1.length+1:=by rw[hA2];simp
 have m3:A3.length=A2.length+kind.length:=by rw[hA3];simp
 have m4:A4.length=A3.length+D2.length:=by rw[hA4];simp
 have m5:A5.length=A4.length+1:=by rw[hA5];simp
 have m6:A6.length=A5.length+word.length:=by rw[hA6];simp
 have s2:∀ X,(Op.stringOp .add (ba A1) ⟨#[58]⟩).run prog X=.ok (.string (ba A2)) X:=fun X=>by rw[hA2];exact kadd A1 [58] (by simp;omega) X
 have s3:∀ X,(Op.stringOp .add (ba A2) (ba kind)).run prog X=.ok (.string (ba A3)) X:=fun X=>by rw[hA3];exact kadd A2 kind (by omega) X
 have s4:∀ X,(Op.stringOp .add (ba A3) (ba D2)).run prog X=.ok (.string (ba A4)) X:=fun X=>by rw[hA4];exact kadd A3 D2 (by omega) X
 have s5:∀ X,(Op.stringOp .add (ba A4) ⟨#[58]⟩).run prog X=.ok (.string (ba A5)) X:=fun X=>by rw[hA5];exact kadd A4 [58] (by simp;omega) X
 have s6:∀ X,(Op.stringOp .add (ba A5) (ba word)).run prog X=.ok (.string (ba A6)) X:=fun X=>by rw[hA6];exact kadd A5 word (by omega) X
 have HA:Hid (A6=Kp.piece kind++Kp.piece word):=hid1 (by rw[hA6,hA5,hA4,hA3,hA2,hA1,hD2];unfold Kp.piece;simp)
 have H1:=hid1 (HD.out kind.length (by omega) W)
 rw[<- hA1]at H1;have H2:=hid1 (HD.out word.length (by omega))
 rw[<- hD2]at H2;have HKey:Hid (Kp.key kind word ins=A6++ins.flatMap Kp.piece):=hid1 (by rw[HA.out];rfl)
 have HX:=hid1 hx;clear hA1 hA2 hA3 hA4 hA5 hA6 hD2 HA hx;go_enter func151,ntmps151
 go_wp2_with fail;refine H1.out.mono ?_;rintro e w1 ⟨rfl,g1⟩;clear H1;go_wp2_with fail;refine(H2.out w1).mono ?_;rintro e w2 ⟨rfl,g2⟩;have g3:=Zac g1 g2;clear H2 g1 g2;go_wp2;clear s2 s3 s4 s5 s6
 go_loopw [7,8] (fun ov iv wr=>∃ j:Nat,j<=ins.length/\iv=.int .i64 j/\ov=.string (ba (A6++(ins.take j).flatMap Kp.piece))/\Below W.heap.size W wr) (fun _ iv _=>ins.length - (intOf iv).toNat)
 case atStart=>exact⟨0,Nat.zero_le _,rfl,by simp,g3⟩
 case round =>
  obtain⟨j,hj,rfl,rfl,B⟩:=hrel;have j0:(0:Int)<=(j:Int):=by omega
  by_cases hlt:j<ins.length
  ·have j1:(j:Int)<(ins.length:Int):=by omega
   obtain⟨g,o,rfl,hg,hc⟩:=HI.out (by intro e;rw[e]at hlt;simp at hlt)
   have d0:=(B.cell (p:=⟨g,o+j,none⟩) hg).trans (hc j hlt);have hxl:=HX.out _ (List.getElem_mem hlt);have hacc:((ins.take j).flatMap Kp.piece).length<=j*3022:=by
    have key:∀ k,k<=ins.length->((ins.take k).flatMap Kp.piece).length<=k*3022:=by
     intro k
     induction k with
     | zero=>intro _;simp
     | succ k ih =>
      intro hk
      have h1:=ih (by omega)
      have h2:=piece_len ins[k] (by have:=HX.out _ (List.getElem_mem (show k<ins.length by omega));omega)
      have h3:=HX.out _ (List.getElem_mem (show k<ins.length by omega))
      rw[List.take_succ_eq_append_getElem (by omega),List.flatMap_append,List.length_append]
      simp only[List.flatMap_cons,List.flatMap_nil,List.append_nil];omega
    exact key j (by omega)
   have HS:Hid (A6++(ins.take (j+1)).flatMap Kp.piece=A6++(ins.take j).flatMap Kp.piece++Lib.decDigits ins[j].length++[58]++ins[j]):=hid1 (by
    rw[List.take_succ_eq_append_getElem hlt,List.flatMap_append];simp[Kp.piece])
   have hlx:=Zax ins[j].length (by omega)
   have HDx:=hid1 fun X=>HD.out ins[j].length (by omega) X
   clear hc HI;have hj10:j*3022<=36264:=by omega
   generalize ins[j]=y at *;have hout:(A6++(ins.take j).flatMap Kp.piece).length<=40000:=by rw[List.length_append];omega
   generalize A6++(ins.take j).flatMap Kp.piece=t at *;obtain⟨D,hD⟩:∃ x,x=Lib.decDigits y.length:=⟨_,rfl⟩
   obtain⟨T1,hT1⟩:∃ x,x=t++D:=⟨_,rfl⟩
   obtain⟨T2,hT2⟩:∃ x,x=T1++[58]:=⟨_,rfl⟩
   obtain⟨T3,hT3⟩:∃ x,x=T2++y:=⟨_,rfl⟩
   rw[<- hD]at hlx HDx HS;have n1:T1.length=t.length+D.length:=by rw[hT1];simp
   have n2:T2.length=T1.length+1:=by rw[hT2];simp
   have s1:∀ X,(Op.stringOp .add (ba t) (ba D)).run prog X=.ok (.string (ba T1)) X:=fun X=>by rw[hT1];exact kadd t D (by omega) X
   have s2:∀ X,(Op.stringOp .add (ba T1) ⟨#[58]⟩).run prog X=.ok (.string (ba T2)) X:=fun X=>by rw[hT2];exact kadd T1 [58] (by simp;omega) X
   have s3:∀ X,(Op.stringOp .add (ba T2) (ba y)).run prog X=.ok (.string (ba T3)) X:=fun X=>by rw[hT3];exact kadd T2 y (by omega) X
   rw[<- hT1,<- hT2,<- hT3]at HS;clear hD hT1 hT2 hT3;go_wp2;go_region_held3 (fun w'=>w'.cell? ⟨g,o+j,none⟩=some (.string (ba y))) (first | go_keep | fail)
    (first | (go_at_call 33;refine(HDx.out _).mono ?_;rintro e w5 ⟨rfl,g5⟩;have e0:=Zaa (w:=wr.drew) d0 g5;have B5:=Zac B.drew g5) | fail)
   all_goals
    go_wp2;exact⟨⟨j+1,by omega,by go_num,by rw[HS.out],B5⟩,by simp[intOf];omega⟩
  ·have j1:(ins.length:Int)<=(j:Int):=by omega
   obtain rfl:j=ins.length:=by omega
   clear HI;rw[List.take_length];go_wp2;go_ret;exact⟨ret_eq (by rw[HKey.out];rfl),B⟩
