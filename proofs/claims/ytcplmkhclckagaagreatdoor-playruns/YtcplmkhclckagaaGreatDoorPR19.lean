import Derived.Test.YtcplmkhclckagaaGreatDoorPR18
set_option maxRecDepth 100000
set_option maxHeartbeats 16000000
open Go.Proofs.Tryz
namespace Go.Proofs.YtcplmkhclckagaaGreatDoor
open Go.RowKit Go.Shelf Go.Lib Go.Maps
theorem Tryz.infoMEntry:(prog.info? 276).map (fun i=>(i.zero,i.size,i.bytes))=some (some (.agg #[.string ⟨#[]⟩,.string ⟨#[]⟩]),2,32):=by kernel_rfl
theorem Zmh(W:World)(x y:Value)(t:TypeId)(n:Nat)(hn:W.heap.size=n)(j:Nat)(u:Value)(h:[x,y][j]? =some u):(W.alloc (.cells #[x,y] t)).cell? ((⟨n,0,none⟩:Addr).add j)=some u:=by
 subst hn;rw[add_at];match j,h with
 | 0,h=>simp at h;subst h;simp
 | 1,h=>simp at h;subst h;simp
variable {w:World}{B:Nat}{v:Value}{l:Cf.Ens}
theorem MERow.of_owns(h:w.ownsRow B 276 2 v l.length (Zbp l)):∃ p cap,v=.slice p l.length cap/\l.length<=cap/\(l≠[]->∃ g,p=some ⟨g,0,none⟩/\B<=g/\g<w.heap.size/\∀ j (hj:j<l.length),w.cell? ⟨g,j*2,none⟩=some (.string (ba l[j].1))/\w.cell? ⟨g,j*2+1,none⟩=some (.string (ba l[j].2))):=by
 rcases h.2 with ⟨rfl,hn⟩ | ⟨g,cap,cur,rfl,hB,hb,h1,_,hcs,h4⟩
 ·exact⟨none,0,by rw[hn],by omega,fun hl=>absurd (List.length_eq_zero_iff.1 hn) hl⟩
 ·refine⟨_,cap,rfl,h1,fun _=>⟨g,rfl,hB,(Array.getElem?_eq_some_iff.1 hb).1,fun j hj=> ?_⟩⟩
  have hg:=Zje l j hj;have key:∀ i,i<l.length*2->cur[i]? =(Zbp l)[i]? :=fun i hi=>by
   have:=congrArg (fun x=>x[i]?) h4
   simp only[List.getElem?_take,hi,if_true,Array.getElem?_toList]at this
   exact this
  refine⟨?_,?_⟩
  ·simp only[World.cell?,hb];simpa using (key (j*2) (by omega)).trans hg.1
  ·simp only[World.cell?,hb];simpa using (key (j*2+1) (by omega)).trans hg.2
variable {W:World}{n:Nat}
theorem Zyw{e:TypeId}{s:Nat}{xs:List Value}(h:W.ownsRow B e s v (n+1) xs):∃ g cap,v=.slice (some ⟨g,0,none⟩) (n+1) cap/\B<=g/\n+1<=cap/\g<W.heap.size:=by
 rcases h.2 with ⟨_,h0⟩ | ⟨g,cap,cur,rfl,hB,hb,h1,_⟩
 ·omega
 ·exact⟨g,cap,rfl,hB,h1,(Array.getElem?_eq_some_iff.1 hb).1⟩
variable {T:Nat->Prop}{m:Nat}
theorem MAt.stored{w5:World}{mb g o cap:Nat}(HT:T mb)(hmb:mb<W.heap.size)(B5:Below W.heap.size W w5)(c0:W.cell? ⟨mb,0,none⟩=some (.int .i64 m))(c1:(W.cell? ⟨mb,1,none⟩).isSome=true)(f1:W.frozen? ⟨mb,1,none⟩=false) 
  (hg:W.heap.size<=g) (hg2:g<w5.heap.size) (hn:n=l.length) (hcap:n<=cap) (hc:∀ j (hj:j<l.length),w5.cell? ⟨g,o+j*2,none⟩=some (.string (ba l[j].1))/\w5.cell? ⟨g,o+j*2+1,none⟩=some (.string (ba l[j].2))) :
  Only T W (w5.setCell ⟨mb,1,none⟩ (.slice (some ⟨g,o,none⟩) n cap))/\∃ T',MAt T' (w5.setCell ⟨mb,1,none⟩ (.slice (some ⟨g,o,none⟩) n cap)) (.pointer (some ⟨mb,0,none⟩)) m l/\∀ j,T' j->T j\/W.heap.size<=j:=by
 subst hn;have d0:=Zaa c0 B5;have d1:(w5.cell? ⟨mb,1,none⟩).isSome=true:=by rw[B5.cell (p:=⟨mb,1,none⟩) hmb];exact c1
 have e1:w5.frozen? ⟨mb,1,none⟩=false:=(B5.frozen (p:=⟨mb,1,none⟩) hmb).trans f1;have hS:∀ c,c≠mb->(w5.setCell ⟨mb,1,none⟩ (.slice (some ⟨g,o,none⟩) l.length cap)).heap[c]? =w5.heap[c]? :=fun c hc=>Below.heap_setCell w5 ⟨mb,1,none⟩ _ c hc
 have hz:(w5.setCell ⟨mb,1,none⟩ (.slice (some ⟨g,o,none⟩) l.length cap)).heap.size=w5.heap.size:=by simp
 have h5:=B5.size;refine⟨⟨B5.os,B5.tape,B5.output,by rw[hz];exact h5,fun j hj hs=>(hS j fun e=>hs (e ▸ HT)).trans (B5.block j hj)⟩,fun j=>j=mb\/j=g,⟨⟨mb,_,rfl,.inl rfl,?_,World.cell?_setCell_same' _ _ _ d1,by rw[World.frozen?_setCell];exact e1,?_⟩,?_⟩,?_⟩
 ·rw[World.cell?_setCell_other]
  ·exact d0
  ·simp
 ·refine⟨_,cap,rfl,hcap,fun _=>⟨g,o,rfl,⟨.inr rfl,by omega⟩,by rw[hz];exact hg2,fun j hj=>⟨?_,?_⟩⟩⟩
  ·exact(World.cell?_of_block (a:=⟨g,o+j*2,none⟩) (hS g (by omega))).trans (hc j hj).1
  ·exact(World.cell?_of_block (a:=⟨g,o+j*2+1,none⟩) (hS g (by omega))).trans (hc j hj).2
 ·rintro j (rfl | rfl)
  ·rw[hz];omega
  ·rw[hz];exact hg2
 ·rintro j (rfl | rfl)
  ·exact .inl HT
  ·exact .inr hg
theorem Zlr(h:MAt T W v m l)(hm:1<=m)(hm2:m<=1000)(hl:l.length<=1000)(k b:List UInt8):
  Calls prog 153 #[v,.string (ba k),.string (ba b)] W fun e w'=>e=.returned (.tuple #[])/\Only T W w'/\∃ T',MAt T' w' v m (Cf.put m l k b)/\∀ j,T' j->T j\/W.heap.size<=j:=by
 have hlt:=h.lt;obtain⟨mb,u,rfl,hT,c0,c1,f1,p,cap,rfl,hcap,hin⟩:=h.lies;have HI:=hid1 hin;have hmb:=hlt mb hT;obtain⟨i0,hi,hz0,hz1,hz2⟩:=info_parts Tryz.infoMEntry;have HT:=hid1 hT;have HPut:Hid (Cf.put m l k b=if m<(Cf.rm l k++[(k,b)]).length then (Cf.rm l k++[(k,b)]).drop 1 else Cf.rm l k++[(k,b)]):=hid1 rfl
 have hrml:=Cf.rm_le l k;clear hin h hT hlt;go_enter func153,ntmps153
 go_wp2;go_loopw [6,7] (fun lv iv wr=>∃ j:Nat,j<=l.length/\iv=.int .i64 j/\wr.ownsRow W.heap.size 276 2 lv (Cf.rm (l.take j) k).length (Zbp (Cf.rm (l.take j) k))/\Below W.heap.size W wr) (fun _ iv _=>l.length - (intOf iv).toNat)
 case atStart=>exact⟨0,Nat.zero_le _,rfl,World.ownsRow_nil _ _ _ _,Below.refl _ _⟩
 case round =>
  obtain⟨j,hj,rfl,hO,B⟩:=hrel;have HO:=hid1 hO;clear hO;have j0:(0:Int)<=(j:Int):=by omega
  have d1:=Zaa c1 B;by_cases hlt:j<l.length
  ·have j1:(j:Int)<(l.length:Int):=by omega
   obtain⟨g,o,rfl,-,hg,hc⟩:=HI.out (by intro e;rw[e]at hlt;simp at hlt)
   have d2:=(B.cell (p:=⟨g,o+j*2,none⟩) hg).trans (hc j hlt).1;have d3:=(B.cell (p:=⟨g,o+j*2+1,none⟩) hg).trans (hc j hlt).2;have hrl:(Cf.rm (l.take j) k).length<=1000:=by
    have:=Cf.rm_le (l.take j) k;rw[List.length_take]at this;omega
   have HS:Hid (Cf.rm (l.take (j+1)) k=Cf.rm (l.take j) k++(if l[j].1=k then [] else [l[j]])):=hid1 (by
    rw[List.take_succ_eq_append_getElem hlt,Cf.rm_append];congr 1
    unfold Cf.rm;by_cases e:l[j].1=k
    ·rw[if_pos e,List.filter_cons_of_neg (by simp[e])]
     rfl
    ·rw[if_neg e,List.filter_cons_of_pos (by simp[e])]
     rfl)
   clear hc HI;generalize l[j]=y at *;by_cases he:y.1=k
   ·rw[if_pos he,List.append_nil]at HS;have e1:(y.1==k)=true:=by simpa using he
    clear he;go_wp2;exact⟨⟨j+1,by omega,by go_num,by rw[HS.out];exact HO.out,B⟩,by simp[intOf];omega⟩
   ·rw[if_neg he]at HS;have e1:(y.1==k)=false:=by simpa using he
    have hrow:=HO.out;have hml:(Cf.rm (l.take j) k).length+1<=maxLen:=by unfold maxLen;omega
    have hbz:=B.size;clear he;go_wp2_with (first
     | (at_builtin;refine wpList_append_own _ rfl _ _ 84 rfl W.heap.size 276 i0 (.agg #[.string ⟨#[]⟩,.string ⟨#[]⟩]) 2 32 underlying84 hi hz0 hz1 hz2 rfl (by decide) _ _ _ rfl (hrow.alloc _) ⟨wr.heap.size,0,none⟩ 1 1 [.string (ba y.1),.string (ba y.2)] rfl rfl (Zmh _ _ _ _ _ (by simp)) (by simp[Value.oneCell']) hml (by omega) (by simp;omega) ?_;intro v' w4 hown' hgrow _)
     | fail)
    exact⟨⟨j+1,by omega,by go_num,by rw[HS.out,List.length_append,Zdr];exact hown',Zak B hbz hrow hgrow⟩,by simp[intOf];omega⟩
  ·have j1:(l.length:Int)<=(j:Int):=by omega
   obtain rfl:j=l.length:=by omega
   have hrow:wr.ownsRow W.heap.size 276 2 u6 (Cf.rm l k).length (Zbp (Cf.rm l k)):=by
    have:=HO.out;rwa[List.take_length]at this
   have hml:(Cf.rm l k).length+1<=maxLen:=by unfold maxLen;omega
   have hbz:=B.size;have HB5:=hid1 fun(w5:World) (hgr:(wr.alloc (.cells #[.string (ba k),.string (ba b)] 276)).grownBy w5 u6.ownBlock)=>Zak B hbz hrow hgr
   have HF1:=hid1 f1;have HC0:=hid1 c0;have HC1:=hid1 c1;clear HO HI;by_cases hbig:m<(Cf.rm l k++[(k,b)]).length
   ·rw[if_pos hbig]at HPut;rw[List.length_append,List.length_singleton]at hbig;have hb1:(m:Int)<((Cf.rm l k).length:Int)+1:=by omega
    have hb2:((Cf.rm l k).length:Int)<=1000:=by omega
    go_wp2_with (first
     | (at_builtin;refine wpList_append_own _ rfl _ _ 84 rfl W.heap.size 276 i0 (.agg #[.string ⟨#[]⟩,.string ⟨#[]⟩]) 2 32 underlying84 hi hz0 hz1 hz2 rfl (by decide) _ _ _ rfl (hrow.alloc _) ⟨wr.heap.size,0,none⟩ 1 1 [.string (ba k),.string (ba b)] rfl rfl (Zmh _ _ _ _ _ (by simp)) (by simp[Value.oneCell']) hml (by omega) (by simp;omega) ?_;intro v5 w5 hown5 hgrow5 _;(obtain⟨g5,cap5,rfl,hg5,hcap5,hgl5⟩:=Zyw hown5);(have B5:=HB5.out _ hgrow5);(have q0:=Zaa c0 B5);(have q1:=Zaa c1 B5);(have q2:=(B5.frozen (p:=⟨mb,1,none⟩) hmb).trans f1);(have q3:¬ cap5=1:=by omega);(have q4:1<=cap5:=by omega);(have HO5:=hid1 hown5);clear hown5 hgrow5)
     | fail)
    go_wp2;go_end0
    obtain⟨p6,cap6,e6,-,hc6⟩:=MERow.of_owns (l:=Cf.rm l k++[(k,b)]) (by rw[List.length_append,List.length_singleton,Zdr];exact HO5.out)
    obtain⟨g6,e7,-,-,hc7⟩:=hc6 (by simp)
    obtain rfl:g5=g6:=by
     rw[e7]at e6;simp only[Value.slice.injEq,Option.some.injEq,Addr.mk.injEq]at e6;exact e6.1.1
    have hdl:((Cf.rm l k++[(k,b)]).drop 1).length=(Cf.rm l k).length:=by simp
    obtain⟨h1,T',h2,h3⟩:=MAt.stored (g:=g5) (o:=2) (n:=(Cf.rm l k).length) (cap:=cap5 - 1) (l:=(Cf.rm l k++[(k,b)]).drop 1) HT.out hmb B5 HC0.out (by rw[HC1.out];rfl) HF1.out hg5 hgl5 hdl.symm (by omega) (fun j hj=>by
     have hj':1+j<(Cf.rm l k++[(k,b)]).length:=by rw[List.length_drop]at hj;omega
     have:=hc7 (1+j) hj';rw[List.getElem_drop];rw[show 2+j*2=(1+j)*2 by omega]
     exact this)
    refine⟨rfl,h1,T',?_,h3⟩;rw[HPut.out];exact h2
   ·rw[if_neg hbig]at HPut;rw[List.length_append,List.length_singleton]at hbig;have hb1:((Cf.rm l k).length:Int)+1<=(m:Int):=by omega
    have hb2:((Cf.rm l k).length:Int)<=1000:=by omega
    go_wp2_with (first
     | (at_builtin;refine wpList_append_own _ rfl _ _ 84 rfl W.heap.size 276 i0 (.agg #[.string ⟨#[]⟩,.string ⟨#[]⟩]) 2 32 underlying84 hi hz0 hz1 hz2 rfl (by decide) _ _ _ rfl (hrow.alloc _) ⟨wr.heap.size,0,none⟩ 1 1 [.string (ba k),.string (ba b)] rfl rfl (Zmh _ _ _ _ _ (by simp)) (by simp[Value.oneCell']) hml (by omega) (by simp;omega) ?_;intro v5 w5 hown5 hgrow5 _;(obtain⟨g5,cap5,rfl,hg5,hcap5,hgl5⟩:=Zyw hown5);(have B5:=HB5.out _ hgrow5);(have q0:=Zaa c0 B5);(have q1:=Zaa c1 B5);(have q2:=(B5.frozen (p:=⟨mb,1,none⟩) hmb).trans f1);(have q4:1<=cap5:=by omega);(have HO5:=hid1 hown5);clear hown5 hgrow5)
     | fail)
    go_wp2;go_end0
    obtain⟨p6,cap6,e6,-,hc6⟩:=MERow.of_owns (l:=Cf.rm l k++[(k,b)]) (by rw[List.length_append,List.length_singleton,Zdr];exact HO5.out)
    obtain⟨g6,e7,-,-,hc7⟩:=hc6 (by simp)
    obtain rfl:g5=g6:=by
     rw[e7]at e6;simp only[Value.slice.injEq,Option.some.injEq,Addr.mk.injEq]at e6;exact e6.1.1
    obtain⟨h1,T',h2,h3⟩:=MAt.stored (g:=g5) (o:=0) (n:=(Cf.rm l k).length+1) (cap:=cap5) (l:=Cf.rm l k++[(k,b)]) HT.out hmb B5 HC0.out (by rw[HC1.out];rfl) HF1.out hg5 hgl5 (by simp) (by omega) (fun j hj=>by
     have:=hc7 j hj;rw[Nat.zero_add];exact this)
    refine⟨rfl,h1,T',?_,h3⟩;rw[HPut.out];exact h2
variable {k:List UInt8}
theorem Zzv{j:Nat}(hj:j<l.length)(h1:l[j].1=k)(h2:k∉Cf.keys (l.take j)):Cf.find l k=some l[j].2:=by
 have e:l=l.take j++l[j]::l.drop (j+1):=by rw[<- List.drop_eq_getElem_cons hj,List.take_append_drop]
 have hn:(l.take j).find? (fun e=>e.1==k)=none:=List.find?_eq_none.2 fun x hx=>by
  have:x.1≠k:=fun e=>h2 (List.mem_map.2 ⟨x,hx,e⟩)
  simpa using this
 unfold Cf.find;have:l.find? (fun e=>e.1==k)=some l[j]:=by
  generalize l[j]=y at *;rw[e,List.find?_append,hn,List.find?_cons_of_pos (by simp[h1])]
  rfl
 rw[this];rfl
theorem Zki(h:k∉Cf.keys l):Cf.find l k=none:=by
 cases hf:Cf.find l k with
 | none=>rfl
 | some b=>exact absurd (List.mem_map.2 ⟨_,Cf.find_some hf,rfl⟩) h
theorem Zws(h:MAt T W v m l)(hm:1<=m)(hm2:m<=1000)(hl:l.length<=1000)(k:List UInt8):
  Calls prog 152 #[v,.string (ba k)] W fun e w'=>e=.returned (.tuple #[.string (ba ((Cf.find l k).getD [])),.bool (Cf.find l k).isSome])/\Only T W w'/\∃ T',MAt T' w' v m (Cf.get m l k)/\∀ j,T' j->T j\/W.heap.size<=j:=by
 have HF:=hid1 (Zta h hl k);have HP:=hid1 fun b=>Zlr h hm hm2 hl k b
 have HM:=hid1 h;obtain⟨mb,u,rfl,hT,c0,c1,f1,p,cap,rfl,hcap,hin⟩:=h.lies;have HI:=hid1 hin;have HG:Hid (∀ b,Cf.find l k=some b->Cf.get m l k=Cf.put m l k b):=hid1 fun b hb=>by unfold Cf.get;rw[hb]
 have HG0:Hid (Cf.find l k=none->Cf.get m l k=l):=hid1 fun hb=>by unfold Cf.get;rw[hb]
 clear hin h hT;go_enter func152,ntmps152
 go_wp2_with fail;refine HF.out.mono ?_;rintro e w1 ⟨r,rfl,rfl,hr⟩;clear HF;rcases hr with ⟨rfl,hno⟩ | ⟨j,rfl,hj,h1,h2⟩
 ·have hf:=Zki hno;have HQ:=hid1 (HG0.out hf);have HE:=hid1 hf;clear hf hno HG HG0 HP HI;go_wp2;go_ret2;refine⟨by rw[HE.out];rfl,Only.of (Below.refl _ _),T,?_,fun j hj=>.inl hj⟩
  rw[HQ.out];exact HM.out
 ·have hf:=Zzv hj h1 h2;have HQ:=hid1 (HG.out _ hf);have HE:=hid1 hf;obtain⟨g,o,rfl,-,hg,hc⟩:=HI.out (by intro e;rw[e]at hj;simp at hj)
  have d3:=(hc j hj).2;have j0:(0:Int)<=(j:Int):=by omega
  have j1:(j:Int)<(l.length:Int):=by omega
  have HPj:=hid1 (HP.out l[j].2);clear hf HG HG0 HP HI hc h1 h2;generalize l[j].2=y at *;go_wp2_with fail;refine HPj.out.mono ?_;rintro e w2 ⟨rfl,hO,T',hM,hTT⟩;have HR:=hid1 (And.intro hO (And.intro hM hTT));clear HPj hO hM hTT;go_wp2;go_ret2;refine⟨by rw[HE.out];rfl,HR.out.1,T',?_,HR.out.2.2⟩
  rw[HQ.out];exact HR.out.2.1
theorem Zgs(n:Nat)(hn:n<256)(w:World):Calls prog 89 #[.int .i64 n] w fun e w'=>e=.returned (.string (ba [UInt8.ofNat n]))/\Below w.heap.size w w':=by
 have hk:=(MapKept.heap_alloc w (.cells #[.int .u8 (n:Int)] 5)).1
 have hcv:(convert 59 9 (.slice (some ⟨w.heap.size,0,none⟩) 1 1)).run prog (w.alloc (.cells #[.int .u8 (n:Int)] 5))=.ok (.string (ba [UInt8.ofNat n])) (w.alloc (.cells #[.int .u8 (n:Int)] 5)):=run_convert_bytes_back (P:=prog) (w.alloc (.cells #[.int .u8 (n:Int)] 5)) 59 9 5 ⟨w.heap.size,0,none⟩ 1 [UInt8.ofNat n] underlying59 underlying5 underlying9
  (fun j hj=>by
   match j,hj with
   | 0,_ =>
    have e:((UInt8.ofNat n).toNat:Int)=(n:Int):=by simp;omega
    show _=some (Value.int .u8 ((UInt8.ofNat n).toNat:Int))
    rw[e];exact Zab hk rfl)
 go_enter func89,ntmps89
 go_wp2;go_ret;exact⟨rfl,(Below.refl _ w).alloc (Nat.le_refl _) _⟩
theorem add48(n:Nat):48+UInt8.ofNat n=UInt8.ofNat (48+n):=(UInt8.ofNat_add 48 n).symm
theorem Ztj(n:Nat)(h:n<=1000000):(Lib.decDigits n).length<=21:=by
 have:=Lib.itoa_length_le (n:Int) (by omega) (by omega)
 rwa[Lib.itoa_nonneg]at this
theorem Zox:∀(n:Nat),n<=1000000->∀(w:World),Calls prog 56 #[.int .i64 (-(n:Int))] w fun e w'=>e=.returned (.string (ba (Lib.decDigits n)))/\Below w.heap.size w w':=by
 intro n
 induction n using Nat.strongRecOn with
 | _ n ih =>
  intro hn w
  rw[Lib.decDigits];by_cases h:n<10
  ·rw[dif_pos h];have HB:Hid (∀ W,Calls prog 89 #[.int .i64 (48+(n:Int))] W fun e w'=>e=.returned (.string (ba [UInt8.ofNat (48+n)]))/\Below W.heap.size W w'):=fun W=>by
    have:=Zgs (48+n) (by omega) W
    rwa[show((48+n:Nat):Int)=48+(n:Int) by omega]at this
   have z1:(-10:Int)< -(n:Int):=by omega
   clear ih;go_enter func56,ntmps56
   go_wp2_with fail;refine(HB.out _).mono ?_;rintro e w1 ⟨rfl,g1⟩;go_wp2;go_ret;exact⟨congrArg (fun x=>Ending.returned (.string (ba x))) (show [48+UInt8.ofNat n]=[UInt8.ofNat (48+n)] by rw[add48]),g1⟩
  ·rw[dif_neg h];have HR:Hid (∀ W,Calls prog 56 #[.int .i64 (-((n/10:Nat):Int))] W fun e w'=>e=.returned (.string (ba (Lib.decDigits (n/10))))/\Below W.heap.size W w'):=fun W=>ih (n/10) (by omega) (by omega) W
   have HB:Hid (∀ W,Calls prog 89 #[.int .i64 (48+((n%10:Nat):Int))] W fun e w'=>e=.returned (.string (ba [UInt8.ofNat (48+n%10)]))/\Below W.heap.size W w'):=fun W=>by
    have:=Zgs (48+n%10) (by omega) W
    rwa[show((48+n%10:Nat):Int)=48+((n%10:Nat):Int) by omega]at this
   have z1:¬ (-10:Int)< -(n:Int):=by omega
   have q1:(-(n:Int)).tdiv 10= -((n/10:Nat):Int):=by rw[Int.neg_tdiv];rfl
   have q2:(-(n:Int)).tmod 10= -((n%10:Nat):Int):=by rw[Int.neg_tmod];rfl
   have q3:((n/10:Nat):Int)<=100000:=by omega
   have q4:(0:Int)<=((n/10:Nat):Int):=by omega
   have hlen:=Ztj (n/10) (by omega)
   clear ih;go_enter func56,ntmps56
   go_wp2_with fail;refine(HR.out _).mono ?_;rintro e w1 ⟨rfl,g1⟩;go_wp2_with fail;refine(HB.out _).mono ?_;rintro e w2 ⟨rfl,g2⟩;go_wp2;go_ret;exact⟨congrArg (fun x=>Ending.returned (.string (ba x))) (show Lib.decDigits (n/10)++[48+UInt8.ofNat (n%10)]=Lib.decDigits (n/10)++[UInt8.ofNat (48+n%10)] by rw[add48]),g1.trans (g2.mono g1.size)⟩
theorem Zdg(n:Nat)(hn:n<=1000000)(w:World):Calls prog 33 #[.int .i64 (n:Int)] w fun e w'=>e=.returned (.string (ba (Lib.decDigits n)))/\Below w.heap.size w w':=by
 have HB:Hid (∀ W,Calls prog 56 #[.int .i64 (-(n:Int))] W fun e w'=>e=.returned (.string (ba (Lib.decDigits n)))/\Below W.heap.size W w'):=fun W=>Zox n hn W
 have z1:¬ (n:Int)<0:=by omega
 go_enter func33,ntmps33
 go_wp2_with fail;refine(HB.out _).mono ?_;rintro e w1 ⟨rfl,g1⟩;go_wp2;go_ret;exact⟨rfl,g1⟩
structure Zao(es:Nat->Addr)(At:(Nat->Prop)->World->Value->Nat->Cf.Ens->Prop):Prop where
 same:∀(S:Nat->Prop) (W W':World) v m l,At S W v m l->W.heap.size<=W'.heap.size->(∀ k,S k->W'.heap[k]? =W.heap[k]?)->At S W' v m l
 lt:∀(S:Nat->Prop) (W:World) v m l,At S W v m l->∀ k,S k->k<W.heap.size
 make:∀(W:World) (m:Nat),1<=m->m<=100->Calls prog 36 #[.int .i64 m] W fun e w'=>∃ p S,e=.returned (.tuple #[.pointer (some p),.nilIface])/\Below W.heap.size W w'/\At S w' (.pointer (some p)) m []/\∀ k,S k->W.heap.size<=k
 no:∀(W:World) (m:Int),-9223372036854775808<=m->m<=9223372036854775807->(m<1\/100<m)->W.cell? ⟨0,0,none⟩=some (erOf es 2)->Calls prog 36 #[.int .i64 m] W fun e w'=>e=.returned (.tuple #[.pointer none,erOf es 2])/\Below W.heap.size W w'
 put:∀(S:Nat->Prop) (W:World) p m l (k b:List UInt8),At S W (.pointer (some p)) m l->1<=m->m<=100->Cf.Ok m l->k.length<=100000->b.length<=100000->Calls prog 236 #[.pointer (some p),.string (ba k),.string (ba b)] W fun e w'=>e=.returned (.tuple #[])/\Only S W w'/\∃ S',At S' w' (.pointer (some p)) m (Cf.put m l k b)/\∀ j,S' j->S j\/W.heap.size<=j
 get:∀(S:Nat->Prop) (W:World) p m l (k:List UInt8),At S W (.pointer (some p)) m l->1<=m->m<=100->Cf.Ok m l->k.length<=100000->Calls prog 235 #[.pointer (some p),.string (ba k)] W fun e w'=>e=.returned (.tuple #[.string (ba ((Cf.find l k).getD [])),.bool (Cf.find l k).isSome])/\Only S W w'/\∃ S',At S' w' (.pointer (some p)) m (Cf.get m l k)/\∀ j,S' j->S j\/W.heap.size<=j
def Zvb(W0:World):Prop:=∀(W:World),Below W0.heap.size W0 W->∀(kind word:List UInt8) v ins,XRow W v ins->kind.length<=200->word.length<=200->ins.length<=12->(∀ x∈ins,x.length<=3000)->Calls prog 234 #[.string (ba kind),.string (ba word),v] W fun e w'=>e=.returned (.string (ba (Kp.key kind word ins)))/\Below W.heap.size W w'
theorem RRow.take{w:World}{p:Option Addr}{cap:Nat}{l:List Ru}(h:RRow w (.slice p l.length cap) l)(k:Nat)(hk:k<=l.length):RRow w (.slice p k cap) (l.take k):=by
 obtain⟨p',cap',e,h0,hn,h1⟩:=h;obtain⟨rfl,rfl⟩:p=p'/\cap=cap':=by simpa using e
 have hl:(l.take k).length=k:=by simp;omega
 refine⟨p,cap,by rw[hl],by omega,hn,fun hne=> ?_⟩
 obtain⟨g,o,e,hg,hc⟩:=h1 (by intro e;rw[e]at hne;simp at hne)
 refine⟨g,o,e,hg,fun j hj=> ?_⟩
 rw[List.getElem_take];exact hc j (by omega)
theorem Zhl(v:Value)(l:List Ru)(hrow:RRow w v l)(hl:l.length<=1000000)(f:Nat)(caps:Array Value)(eg:∀ args w,(callFunc f args).run prog w=.ok (.enter f args) w)(b:Nat->Bool) 
  (HS:Hid (∀ k (hk:k<l.length) W,Below w.heap.size w W->∀ u,XRow W u l[k].ins->Calls prog f (#[ruV l[k] u]++caps) W fun e w'=>e=.returned (.bool (b k))/\Below W.heap.size W w')) :
  Calls prog 196 #[v,.func (.func f) #[] caps] w fun e w'=>∃ r:Int,e=.returned (.int .i64 r)/\Below w.heap.size w w'/\((r= -1/\∀ j,j<l.length->b j=false)\/∃ k:Nat,r=k/\k<l.length/\b k=true):=by
 obtain⟨p,cap,rfl,hcap,_,hin⟩:=hrow;have HI:=hid1 hin;clear hin;go_enter func196,ntmps196
 go_wp2;go_loopw [8] (fun i wr=>∃ k:Nat,k<=l.length/\i=.int .i64 k/\(∀ j,j<k->b j=false)/\Below w.heap.size w wr) (fun i _=>l.length - (intOf i).toNat)
 case atStart=>exact⟨0,Nat.zero_le _,rfl,fun j h=>by omega,Below.refl _ _⟩
 case round =>
  obtain⟨k,hk,rfl,hz,hB⟩:=hrel;have HZ:=hid1 hz;clear hz;have c0:(0:Int)<=(k:Int):=by omega
  by_cases hlt:k<l.length
  ·have c1:(k:Int)<(l.length:Int):=by omega
   obtain⟨g',o,rfl,hg,hcur⟩:=HI.out (by intro e;rw[e]at hlt;simp at hlt)
   obtain⟨u0,u1,u2,u,u3,ux⟩:=hcur k hlt;have d0:=Zaa u0 hB;have d1:=Zaa u1 hB;have d2:=Zaa u2 hB;have d3:=Zaa u3 hB;have HC:=HS.out k hlt wr hB u (ux.below hB);have HQ:=hid1 ux;clear hcur HI HS u0 u1 u2 u3 ux;generalize l[k]=y at *;obtain⟨p3,cap3,rfl,_⟩:=HQ.out;cases hc:b k with
   | false =>
    rw[hc]at HC;have HN:Hid (∀ j,j<k+1->b j=false):=hid1 fun j hj=>by
     rcases Nat.lt_or_ge j k with h | h
     ·exact HZ.out j h
     ·obtain rfl:j=k:=by omega
      exact hc
    clear hc HZ;go_wp2_with fail;refine Calls.mono HC ?_;rintro e w1 ⟨rfl,hb1⟩;clear HC;go_wp2;exact⟨⟨k+1,by omega,by go_num,HN.out,Zac hB hb1⟩,by simp[intOf];omega⟩
   | true =>
    rw[hc]at HC;have HE:=hid1 hc;clear hc;go_wp2_with fail;refine Calls.mono HC ?_;rintro e w1 ⟨rfl,hb1⟩;clear HC;go_wp2;go_ret;exact⟨_,rfl,Zac hB hb1,.inr ⟨k,rfl,hlt,HE.out⟩⟩
  ·have c1:(l.length:Int)<=(k:Int):=by omega
   have HN:Hid (∀ j,j<l.length->b j=false):=hid1 fun j hj=>HZ.out j (by omega)
   clear HI HS HZ;go_wp2;go_ret;exact⟨_,rfl,hB,.inl ⟨rfl,HN.out⟩⟩
theorem Zez(v:Value)(l:List Ru)(hrow:RRow w v l)(hl:l.length<=1000000)(f:Nat)(caps:Array Value)(eg:∀ args w,(callFunc f args).run prog w=.ok (.enter f args) w)(b:Nat->Bool) 
  (HS:Hid (∀ k (hk:k<l.length) W,Below w.heap.size w W->∀ u,XRow W u l[k].ins->Calls prog f (#[ruV l[k] u]++caps) W fun e w'=>e=.returned (.bool (b k))/\Below W.heap.size W w')) :
  Calls prog 157 #[v,.func (.func f) #[] caps] w fun e w'=>∃ d:Bool,e=.returned (.bool d)/\Below w.heap.size w w'/\(d=true↔∃ k,k<l.length/\b k=true):=by
 have HC:=hid1 (Zhl v l hrow hl f caps eg b HS);obtain⟨p,cap,rfl,hcap,_,hin⟩:=hrow;clear hin HS;go_enter func157,ntmps157
 go_wp2_with fail;refine HC.out.mono ?_;rintro e w1 ⟨r,rfl,hb,h⟩;rcases h with ⟨rfl,h⟩ | ⟨k,rfl,hk,h⟩
 ·have HN:=hid1 h;clear h;go_wp2;go_ret;refine⟨_,rfl,hb,?_⟩;simp
  intro k hk
  simpa using HN.out k hk
 ·have HN:=hid1 h;have z:(0:Int)<=(k:Int):=by omega
  clear h;go_wp2;go_ret;refine⟨true,rfl,hb,?_⟩;simp
  exact⟨k,hk,HN.out⟩
theorem Zih(x r:Ru)(b:Nat)(u:Value)(hu:XRow w u x.ins)(hR:w.cell? ⟨b,0,none⟩=some (.string (ba r.out))):
  Calls prog 158 #[ruV x u,.pointer (some ⟨b,0,none⟩)] w fun e w'=>e=.returned (.bool (x.out==r.out))/\Below w.heap.size w w':=by
 have hB0:Below w.heap.size w (w.alloc (.cells #[.string (ba x.out),.string (ba x.kind),.string (ba x.word),u] 73)):=(Below.refl _ w).alloc (Nat.le_refl _) _;have h0:=Zaa hR hB0;obtain⟨p3,cap3,rfl,_⟩:=hu;go_enter func158,ntmps158
 go_wp2;go_ret;exact⟨rfl,hB0⟩
structure SheetW(w:World)(es:Nat->Addr):Prop where
 e:ES w es
 a:AE w (erOf es)
theorem SheetW.below{w W:World}{es:Nat->Addr}(h:SheetW w es)(hb:Below w.heap.size w W):SheetW W es:=⟨h.e.below hb,h.a.stays hb⟩
variable {es:Nat->Addr}
theorem Zkb(hW:SheetW w es)(l:List Ru)(hl:l.length<=1000000)(v:Value)(hrow:RRow w v l)(hS:∀ x∈l,x.Small)(b k:Nat)(hk:k<l.length)(hb:w.cell? ⟨b,0,none⟩=some v)(u:Value)(hu:XRow w u l[k].ins):
  Calls prog 155 #[.int .i64 k,ruV l[k] u,.pointer (some ⟨b,0,none⟩)] w fun e w'=>e=.returned (erOf es (Ru.errAt l k))/\Below w.heap.size w w':=by
 have HQ:=hid1 (Ru.errAt_eq hk);have HC:=hid1 fun W (g:Below w.heap.size w W)=>Zmp (hW.e.below g) (hW.a.stays g) l[k] (hS _ (List.getElem_mem hk)) u (hu.below g)
 have hB0:Below w.heap.size w (w.alloc (.cells #[.string (ba l[k].out),.string (ba l[k].kind),.string (ba l[k].word),u] 73)):=(Below.refl _ w).alloc (Nat.le_refl _) _;have hr0:(w.alloc (.cells #[.string (ba l[k].out),.string (ba l[k].kind),.string (ba l[k].word),u] 73)).cell? ⟨w.heap.size,0,none⟩=some (.string (ba l[k].out)):=by simp
 have hx:=hW.e.c6;obtain⟨p,cap,rfl,hcap,hnn,hin⟩:=hrow;have hrow:RRow w (.slice p l.length cap) l:=⟨p,cap,rfl,hcap,hnn,hin⟩;have HF:=hid1 fun W (g:Below w.heap.size w W) (hr:W.cell? ⟨w.heap.size,0,none⟩=some (.string (ba l[k].out))) =>
  Zez (.slice p k cap) (l.take k) ((hrow.below g).take k (by omega)) (by simp;omega) 158 #[.pointer (some ⟨w.heap.size,0,none⟩)] (enters_of func158 (by kernel_rfl) rfl) (fun j=>(l.getD j l[k]).out==l[k].out)
   (hid1 fun j hj W' g' u' hu'=>by
    have hjl:j<l.length:=by simp at hj;omega
    have:=Zih (l.take k)[j] l[k] w.heap.size u' hu' (Zaa hr g');rw[List.getElem_take]at this ⊢;rw[List.getD_eq_getElem?_getD,List.getElem?_eq_getElem hjl,Option.getD_some]
    exact this)
 have HM:Hid (∀ d:Bool,(d=true↔∃ j,j<(l.take k).length/\((l.getD j l[k]).out==l[k].out)=true)->(if l[k].out∈(l.take k).map Ru.out then 7 else 0)=(if d=true then 7 else 0)):=hid1 fun d hd=>by
  congr 1
  rw[eq_iff_iff,hd];constructor
  ·intro h
   obtain⟨x,hx,e⟩:=List.mem_map.1 h;obtain⟨j,hj,rfl⟩:=List.getElem_of_mem hx;refine⟨j,hj,?_⟩;rw[List.getElem_take]at e;rw[List.getD_eq_getElem?_getD,List.getElem?_eq_getElem (by simp at hj;omega),Option.getD_some,e]
   simp
  ·rintro⟨j,hj,e⟩;have hjl:j<l.length:=by simp at hj;omega
   rw[List.getD_eq_getElem?_getD,List.getElem?_eq_getElem hjl,Option.getD_some]at e
   refine List.mem_map.2 ⟨(l.take k)[j],List.getElem_mem hj,?_⟩;rw[List.getElem_take];simpa using e
 have z1:(k:Int)<=(cap:Int):=by omega
 have z0:(0:Int)<=(k:Int):=by omega
 have z2:(k:Int)<=1000000:=by omega
 have hbl:=Zaj hb;simp only at hbl;obtain⟨p3,cap3,rfl,_⟩:=hu;clear hin hrow hnn hS hW;generalize l[k]=r at *;generalize hn:l.length=n at *;cases hc:r.err with
 | succ m =>
  have HE:Hid (Ru.errAt l k=m+1):=hid1 (by rw[HQ.out,hc];rfl)
  rw[HE.out];rw[hc]at HC;simp only[erOf]at HC ⊢;clear HF HM;go_enter func155,ntmps155
  go_wp2_with fail;refine(HC.out _ hB0).mono ?_;rintro e w1 ⟨rfl,g⟩;have g1:=Zac hB0 g;go_wp2;go_ret;exact⟨rfl,g1⟩
 | zero =>
  have HE:Hid (Ru.errAt l k=if r.out∈(l.take k).map Ru.out then 7 else 0):=hid1 (by rw[HQ.out,hc];rfl)
  rw[HE.out];rw[hc]at HC;simp only[erOf]at HC;have HM2:=hid1 fun d hd=>congrArg (erOf es) (HM.out d hd)
  generalize erOf es (if r.out∈(l.take k).map Ru.out then 7 else 0)=rv at *
  clear HM HE HQ;go_enter func155,ntmps155
  go_wp2_with fail;refine(HC.out _ hB0).mono ?_;rintro e w1 ⟨rfl,g⟩;have g1:=Zac hB0 g;have hr1:=Zaa hr0 g;have hb1:=Zaa hb g1;clear g hr0 hb;go_wp2_with fail;refine(HF.out _ g1 hr1).mono ?_;rintro e w2 ⟨d,rfl,g,hd⟩;have g2:=Zac g1 g;have hx2:=Zaa hx g2;have HV:=hid1 (HM2.out d hd);clear g hd HF HM2 hx;cases d with
  | true =>
   go_wp2;go_ret;exact⟨ret_eq (by rw[HV.out];rfl),g2⟩
  | false =>
   go_wp2;go_ret;exact⟨ret_eq (by rw[HV.out];rfl),g2⟩
theorem Zmo(v:Value)(l:List Ru)(hrow:RRow w v l)(hl:l.length<=1000000)(f:Nat)(caps:Array Value)(eg:∀ args w,(callFunc f args).run prog w=.ok (.enter f args) w)(c:Nat->Nat) 
  (HS:Hid (∀ k (hk:k<l.length) W,Below w.heap.size w W->∀ u,XRow W u l[k].ins->Calls prog f (#[.int .i64 k,ruV l[k] u]++caps) W fun e w'=>e=.returned (erOf es (c k))/\Below W.heap.size W w')) :
  Calls prog 154 #[v,.func (.func f) #[] caps] w fun e w'=>∃ u,e=.returned u/\Below w.heap.size w w'/\Told w' es l.length c u:=by
 obtain⟨p,cap,rfl,hcap,_,hin⟩:=hrow;have HI:=hid1 hin;clear hin;go_enter func154,ntmps154
 go_wp2;go_loopw [10] (fun i wr=>∃ k:Nat,k<=l.length/\i=.int .i64 k/\(∀ j,j<k->c j=0)/\Below w.heap.size w wr) (fun i _=>l.length - (intOf i).toNat)
 case atStart=>exact⟨0,Nat.zero_le _,rfl,fun j h=>by omega,Below.refl _ _⟩
 case round =>
  obtain⟨k,hk,rfl,hz,hB⟩:=hrel;have HZ:=hid1 hz;clear hz;have c0:(0:Int)<=(k:Int):=by omega
  by_cases hlt:k<l.length
  ·have c1:(k:Int)<(l.length:Int):=by omega
   obtain⟨g',o,rfl,hg,hcur⟩:=HI.out (by intro e;rw[e]at hlt;simp at hlt)
   obtain⟨u0,u1,u2,u,u3,ux⟩:=hcur k hlt;have d0:=Zaa u0 hB;have d1:=Zaa u1 hB;have d2:=Zaa u2 hB;have d3:=Zaa u3 hB;have HC:=hid1 fun W (g:Below wr.heap.size wr W)=>HS.out k hlt W (Zac hB g) u (ux.below (Zac hB g))
   have HQ:=hid1 ux;clear hcur HI HS u0 u1 u2 u3 ux;generalize l[k]=y at *;obtain⟨p3,cap3,rfl,-⟩:=HQ.out;have hst:∀(a:Addr) (m:Mode) (W:World),Sem.run prog (store a (.slice p3 y.ins.length cap3) m) W=stored prog W a (.slice p3 y.ins.length cap3) m:=fun a m W=>run_store _ W a _ m rfl
   cases hc:c k with
   | zero =>
    rw[hc]at HC;simp only[erOf]at HC;have HN:Hid (∀ j,j<k+1->c j=0):=hid1 fun j hj=>by
     rcases Nat.lt_or_ge j k with h | h
     ·exact HZ.out j h
     ·obtain rfl:j=k:=by omega
      exact hc
    clear hc HZ HQ;go_wp2_with fail;refine(HC.out _ ((Below.refl _ wr).alloc (Nat.le_refl _) _)).mono ?_;rintro e w1 ⟨rfl,hb1⟩;have g1:=Zac (hB.alloc hB.size _) hb1;clear HC hb1;go_wp2;exact⟨⟨k+1,by omega,by go_num,HN.out,g1⟩,by simp[intOf];omega⟩
   | succ m =>
    rw[hc]at HC;have HE:=hid1 hc;clear hc HQ;simp only[erOf]at HC;go_wp2_with fail;refine(HC.out _ ((Below.refl _ wr).alloc (Nat.le_refl _) _)).mono ?_;rintro e w1 ⟨rfl,hb1⟩;have g1:=Zac (hB.alloc hB.size _) hb1;clear HC hb1;go_wp2;go_ret;refine⟨_,rfl,g1.alloc g1.size _,.inr ⟨k,w1.heap.size,hlt,by rw[HE.out];omega,HZ.out,rfl,?_,?_⟩⟩
    ·simp
    ·rw[HE.out];simp[erOf]
  ·have c1:(l.length:Int)<=(k:Int):=by omega
   have HN:Hid (∀ j,j<l.length->c j=0):=hid1 fun j hj=>HZ.out j (by omega)
   clear HI HS HZ;go_wp2;go_ret;exact⟨_,rfl,hB,.inl ⟨HN.out,rfl⟩⟩
theorem Zfm(hW:SheetW w es)(l:List Ru)(hl:l.length<=1000000)(v:Value)(hrow:RRow w v l)(hS:∀ x∈l,x.Small):
  Calls prog 115 #[v] w fun e w'=>∃ u,e=.returned u/\Below w.heap.size w w'/\ErrV w' es u (Ru.fault l):=by
 have hx:=hW.e.c1;have hB0:Below w.heap.size w (w.alloc (.cells #[v] 36)):=(Below.refl _ w).alloc (Nat.le_refl _) _;have hv0:(w.alloc (.cells #[v] 36)).cell? ⟨w.heap.size,0,none⟩=some v:=by simp
 have hx0:=Zaa hx hB0;have HS:=hid1 (Zmo (w:=w.alloc (.cells #[v] 36)) (es:=es) v l (hrow.below hB0) hl 155 #[.pointer (some ⟨w.heap.size,0,none⟩)] (enters_of func155 (by kernel_rfl) rfl) (Ru.errAt l)
  (hid1 fun k hk W g u hu=>Zkb (hW.below (Zac hB0 g)) l hl v ((hrow.below hB0).below g) hS w.heap.size k hk (Zaa hv0 g) u hu))
 have hle:=Ru.errAt_le l;have HM:Hid (40<l.length->Ru.fault l=(2,-1)):=hid1 Ru.fault_many;have HT:Hid (l.length<=40->∀(W:World) u,Told W es l.length (Ru.errAt l) u->ErrV W es u (Ru.fault l)):=hid1 fun h40 W u ht=>by
  rcases ht with ⟨hz,rfl⟩ | ⟨k,pb,hk,hc,h0,rfl,h1,h2⟩
  ·rw[Ru.fault_none h40 hz];exact .nil
  ·rw[Ru.fault_some h40 hk hc h0];rcases hle k with h | ⟨m,hm,h⟩
   ·exact absurd h hc
   ·exact .inr ⟨pb,m,rfl,hm,h,h1,h2⟩
 obtain⟨p,cap,rfl,-⟩:=hrow;clear hW hS hle hx;by_cases h40:40<l.length
 ·have z1:(40:Int)<(l.length:Int):=by omega
  have HQ:=hid1 (HM.out h40);clear HS HM HT hl h40;generalize l.length=n at *;go_enter func115,ntmps115
  go_wp2;go_ret;exact⟨_,rfl,hB0,by rw[HQ.out];exact ErrV.bare (by omega)⟩
 ·have z1:(l.length:Int)<=40:=by omega
  have HQ:=hid1 (HT.out (by omega))
  clear HM HT h40;generalize l.length=n at *;go_enter func115,ntmps115
  go_wp2_with fail;refine HS.out.mono ?_;rintro e w1 ⟨u,rfl,g,ht⟩;have g1:=Zac hB0 g;have HE:=hid1 (HQ.out _ _ ht);clear g ht HS HQ;go_wp2;go_ret;exact⟨_,rfl,g1,HE.out⟩
theorem Zwu(x:List UInt8)(w:World):
  Calls prog 174 #[.slice none 0 0,.string (ba x)] w fun e w'=>∃ v r,e=.returned v/\Af.Laid [] x r/\w'.ownsRow w.heap.size 9 1 v r.length (r.map sv)/\Below w.heap.size w w':=by
 obtain⟨i0,hi,hz0,hz1,hz2⟩:=info_parts Tryz.infoStr;have n1:World.ownsRow w w.heap.size 9 1 (.slice none 0 0) 0 []:=World.ownsRow_nil _ _ _ _;have HL:=hid1 (show Af.Laid [] x [x] from⟨0,Nat.le_refl _,rfl,fun j hj=>absurd hj (by simp),fun h=>absurd h (by simp)⟩)
 go_enter func174,ntmps174
 go_wp2;go_loopw [5] (fun i wr=>i=.int .i64 0/\w=wr) (fun i _=>(intOf i).toNat)
 case atStart=>exact⟨rfl,rfl⟩
 case round =>
  obtain⟨rfl,rfl⟩:=hrel;go_wp2_with (first
   | (at_builtin;refine wpList_append_own _ rfl _ _ 52 rfl w.heap.size 9 i0 (.string ⟨#[]⟩) 1 16 underlying52 hi hz0 hz1 hz2 rfl (by decide) _ _ _ rfl (n1.alloc _) ⟨w.heap.size,0,none⟩ 1 1 [.string (ba x)] rfl rfl (cell_one_new _ _ _) (by simp[Value.oneCell']) (by unfold maxLen;omega) (by omega) (by simp) ?_;intro v2 w2 hown2 hgrow2 _;have b2:=lay_b2 (Below.refl _ w) n1 hgrow2;clear n1 hgrow2)
   | (at_builtin;refine wpList_append_own_none rfl _ _ 52 rfl w.heap.size 9 i0 1 underlying52 hi _ _ _ rfl hown2 rfl ?_)
   | go_in)
  go_ret;exact⟨_,_,rfl,HL.out,hown2,b2⟩
variable {x y:List UInt8}
theorem gtB_le(h:Af.gtB y x=true):x<=y:=by
 unfold Af.gtB at h;simp only[Bool.and_eq_true,Bool.not_eq_true']at h;have h1:=h.1;rw[Tf.less_before]at h1;refine List.not_lt.1 fun e=> ?_
 rw[(Tf.before_lt y x).2 e]at h1;cases h1
theorem gtB_ge(h:Af.gtB y x=false):y<=x:=by
 unfold Af.gtB at h;simp only[Bool.and_eq_false_iff,Bool.not_eq_false']at h;rcases h with h | h
 ·rw[Tf.less_before]at h;exact List.le_of_lt ((Tf.before_lt y x).1 h)
 ·rw[beq_iff_eq.1 h];exact List.le_refl _
variable {r:List (List UInt8)}
theorem Ztd{l:List (List UInt8)}(hl:l.Pairwise (fun x y=>x<=y))(h:Af.Laid l x r):r.Pairwise (fun x y=>x<=y)/\r.Perm (l++[x]):=by
 obtain⟨k,hk,rfl,hhi,hlo⟩:=h;have hd:∀ b∈l.drop k,x<=b:=by
  intro b hb
  obtain⟨j,hj,rfl⟩:=List.getElem_of_mem hb;rw[List.getElem_drop];exact gtB_le (hhi (k+j) (by simp at hj;omega) (by omega))
 have ht:∀ a∈l.take k,a<=x:=by
  intro a ha
  obtain⟨j,hj,rfl⟩:=List.getElem_of_mem ha;rw[List.getElem_take];have hj':j<k:=by simp at hj;omega
  have h1:=gtB_ge (hlo (by omega) (by omega))
  by_cases e:j=k - 1
  ·subst e;exact h1
  ·exact List.le_trans (List.pairwise_iff_getElem.1 hl j (k - 1) (by omega) (by omega) (by omega)) h1
 constructor
 ·rw[List.pairwise_append,List.pairwise_cons];refine⟨hl.sublist (List.take_sublist k l),⟨hd,hl.sublist (List.drop_sublist k l)⟩,?_⟩;intro a ha b hb
  rcases List.mem_cons.1 hb with rfl | hb
  ·exact ht a ha
  ·exact List.le_trans (ht a ha) (hd b hb)
 ·have:(l.take k++x::l.drop k).Perm (x::(l.take k++l.drop k)):=List.perm_middle
  rw[List.take_append_drop]at this;exact this.trans (List.perm_append_comm (l₁:=[x]) (l₂:=l))
theorem Znh{ms:List (List UInt8)}(h:Af.Laid (Af.srt ms) x r):r=Af.srt (ms++[x]):=by
 obtain⟨h1,h2⟩:=Ztd (Af.srt_sorted ms) h;rw[<- Af.srt_of_sorted h1];exact Af.srt_eq (h2.trans ((Af.srt_perm ms).append_right [x]))
theorem Zyg:Af.srt []=[]:=by
 have:=Af.srt_len [];simpa using this
theorem TRow.irow{l:List (List UInt8)}(h:TRow w v l):IRow w v l:=by
 obtain⟨p,cap,e,_,h1⟩:=h;refine⟨p,cap,e,fun hl=> ?_⟩
 obtain⟨g,cur,e,hg,hc⟩:=h1 hl;exact⟨g,0,e,(Array.getElem?_eq_some_iff.1 hg).1,fun j hj=>by rw[Nat.zero_add];exact Zab hg (hc j hj)⟩
theorem Zqd{l:List (List UInt8)}(h:Af.Laid l x r):r≠[]/\r.length=l.length+1:=by
 obtain⟨k,hk,rfl,_⟩:=h;constructor
 ·simp
 ·simp;omega
def NIRow(w:World)(v:Value)(l:List Nat):Prop :=
 ∃ p cap,v=.slice p l.length cap/\(l≠[]->∃ g o,p=some ⟨g,o,none⟩/\g<w.heap.size/\∀ j (hj:j<l.length),w.cell? ⟨g,o+j,none⟩=some (nv l[j]))
theorem NIRow.below{w':World}{l:List Nat}(h:NIRow w v l)(hb:Below w.heap.size w w'):NIRow w' v l:=by
 obtain⟨p,cap,e,h1⟩:=h;refine⟨p,cap,e,fun hl=> ?_⟩
 obtain⟨g,o,e,hg,hc⟩:=h1 hl;exact⟨g,o,e,Nat.lt_of_lt_of_le hg hb.size,fun j hj=>(hb.cell (p:=⟨g,o+j,none⟩) hg).trans (hc j hj)⟩
theorem NRow.ni{l:List Nat}(h:NRow w v l):NIRow w v l:=by
 obtain⟨p,cap,e,_,h1⟩:=h;refine⟨p,cap,e,fun hl=> ?_⟩
 obtain⟨g,cur,e,hg,hc⟩:=h1 hl;exact⟨g,0,e,(Array.getElem?_eq_some_iff.1 hg).1,fun j hj=>by rw[Nat.zero_add];exact Zab hg (hc j hj)⟩
def NoRow(v:Value):Prop:=∃ p cap,v=.slice p 0 cap
abbrev allB1:Nat->Bool:=fun _=>true
def Zei(es:Nat->Addr)(l:List Ru)(w:World)(u ev:Value):Prop :=
 ((Ru.fault l).1≠0/\ErrV w es ev (Ru.fault l)/\NoRow u) \/
 ((Ru.fault l).1=0/\Ru.order l allB1=none/\ev=erOf es 9/\NoRow u) \/
 ((Ru.fault l).1=0/\∃ o,Ru.order l allB1=some o/\ev=.nilIface/\NIRow w u o)
def Zme(es:Nat->Addr)(l:List Ru)(outs:List (List UInt8))(w:World)(u ev:Value):Prop :=
 ((Ru.fault l).1≠0/\ErrV w es ev (Ru.fault l)/\NoRow u) \/
 ((Ru.fault l).1=0/\∃ k,∃ hk:k<outs.length,(∀ x∈l,x.out≠outs[k])/\(∀ j (hj:j<outs.length),j<k->∃ x∈l,x.out=outs[j])/\ErrV w es ev (6,(k:Int))/\NoRow u) \/
 ((Ru.fault l).1=0/\(∀ j (hj:j<outs.length),∃ x∈l,x.out=outs[j])/\ev=.nilIface/\∃ f,Ru.Needed l outs f/\NIRow w u ((List.range l.length).filter f))
structure GraphW(w:World)(es:Nat->Addr):Prop where
 s:SheetW w es
 cyc:w.cell? ⟨8,0,none⟩=some (erOf es 9)
theorem GraphW.below{w w':World}{es:Nat->Addr}(h:GraphW w es)(hb:Below w.heap.size w w'):GraphW w' es:=⟨h.s.below hb,Zaa h.cyc hb⟩
theorem ErrV.some{f:Nat×Int}(h:ErrV w es v f)(hf:f.1≠0):∃ t u,v=.iface t u:=by
 rcases h with ⟨_,rfl,_⟩ | ⟨pb,m,rfl,_⟩
 ·obtain⟨c,n⟩:=f;cases c with
  | zero=>exact absurd rfl hf
  | succ k=>exact⟨_,_,rfl⟩
 ·exact⟨_,_,rfl⟩
