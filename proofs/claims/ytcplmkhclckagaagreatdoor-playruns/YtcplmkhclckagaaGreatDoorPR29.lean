import Derived.Test.YtcplmkhclckagaaGreatDoorPR28
import Derived.Test.YtcplmkhclckagaaGreatDoorPR27
import Derived.Test.YtcplmkhclckagaaGreatDoorPR26
set_option maxRecDepth 100000
set_option maxHeartbeats 16000000
open Go.Proofs.Tryz
namespace Go.Proofs.YtcplmkhclckagaaGreatDoor
open Go.RowKit Go.Shelf Go.Lib Go.Maps
open Go.Sort (grow Holds putRow)
theorem Ziw(k x:List UInt8)(b:Nat)(W:World)(hb:W.cell? ⟨b,0,none⟩=some (.string (ba k))):
  FnGives prog 269 #[.pointer (some ⟨b,0,none⟩)] #[sv x] (.bool (x==k)) W:=by
 suffices goal:Calls prog 269 #[.string (ba x),.pointer (some ⟨b,0,none⟩)] W fun e w'=>e=.returned (.bool (x==k))/\w'=W from Calls.mono goal fun e w' ⟨h1,h2⟩=>⟨h1,0,h2⟩
 go_enter func269,ntmps269
 go_wp2;go_ret;exact⟨rfl,rfl⟩
theorem Zqw{w:World}(caps:Array Value):
  Calls prog 268 #[.slice none 0 0,.func (.func 269) #[] caps] w fun e w'=>e=.returned (.slice none 0 0)/\w'=w:=by
 have HC:=hid1 (slices_IndexFunc_empty (α:=Nat) none 0 (.func (.func 269) #[] caps) w);go_enter func268,ntmps268
 go_wp2_with fail;refine HC.out.mono ?_;rintro e w1 ⟨rfl,rfl⟩;clear HC;go_wp2;go_ret;exact⟨rfl,rfl⟩
variable {W:World}{u:Value}{ks:List (List UInt8)}
theorem Zqx(hrow:KRow W u ks)(hl:ks.length<=1000)(k:List UInt8)(b:Nat)(hb:W.cell? ⟨b,0,none⟩=some (.string (ba k)))(hne:some b≠u.ownBlock):
  Calls prog 268 #[u,.func (.func 269) #[] #[.pointer (some ⟨b,0,none⟩)]] W fun e w'=>∃ u',e=.returned u'/\KRow w' u' (ks.filter fun x=> !(x==k))/\u'.ownBlock=u.ownBlock/\W.grownBy w' u.ownBlock:=by
 have hbl:b<W.heap.size:=Zaj hb;by_cases hu:u=.slice none 0 0
 ·subst hu;obtain rfl:ks=[]:=by
   rcases hrow.2 with ⟨_,h⟩ | ⟨g,cap,cur,h,_⟩
   ·exact List.length_eq_zero_iff.1 h
   ·cases h
  refine(Zqw (w:=W) #[.pointer (some ⟨b,0,none⟩)]).mono ?_;rintro e w' ⟨rfl,rfl⟩;exact⟨_,rfl,World.ownsRow_nil _ _ _ _,rfl,⟨rfl,rfl,rfl,Nat.le_refl _,fun _ _ _=>rfl⟩⟩
 ·obtain⟨g,cap,rfl,-,hg,hcap,hm,-,hH⟩:=Lib.holds_of_ownsRow hrow hu;have hbg:b≠g:=fun e=>hne (by rw[e];rfl)
  have key:=slices_DeleteFunc sv (fun _=>rfl) (fun x=>x==k) 269 #[.pointer (some ⟨b,0,none⟩)] (enters_of func269 (by kernel_rfl) rfl) [] (fun w=>by kernel_rfl) g 0 cap ks.toArray W
   (fun V x hV=>Ziw k x b V ((Zam hV hbl).trans hb))
   (fun n os dk x _=>by
    refine Ziw k x b _ (Eq.trans ?_ hb);unfold sortWorld;rw[Go.Sort.cell?_grow _ _ _ (by show b<(putRow _ _ _ _ _).heap.size;rw[Go.Sort.size_putRow];exact hbl),Go.Sort.cell?_putRow_other _ _ g 0 _ _ (Or.inl hbg)]
    rfl)
   hH (by simp;omega) (by simpa using hcap)
  have e0:ks.toArray.size=ks.length:=by simp
  rw[e0]at key;refine key.mono ?_;rintro e w' ⟨rfl,q,rfl⟩;have hle:(ks.filter fun x=> !(x==k)).length<=ks.length:=List.length_filter_le _ _
  have h1:=Lib.ownsRow_putRow (q:=q) (k:=(ks.filter fun x=> !(x==k)).length) (ys:=(ks.filter fun x=> !(x==k))++List.replicate (ks.length - (ks.filter fun x=> !(x==k)).length) []) hrow (by simp;omega) hle
  rw[List.take_left]at h1;refine⟨_,rfl,h1,rfl,⟨rfl,rfl,rfl,by rw[Go.Sort.size_putRow];exact Nat.le_refl _,fun j _ hj=> ?_⟩⟩
  have:g≠j:=fun e=>hj (by rw[<- e];rfl)
  simp[putRow,Go.Sort.mapBlock,Go.Sort.ahead,Array.getElem?_modify,this]
variable {w2:World}{cb eb g cap n m:Nat}{l:Cf.Ens}
theorem CBox.stored{w4:World}{ks':List (List UInt8)}(h:CBox W cb eb u m ks l) 
  (hb:∀ j,j<W.heap.size->some j≠u.ownBlock->w4.heap[j]? =W.heap[j]?)
  (hrow:KRow w4 (.slice (some ⟨g,0,none⟩) n cap) ks') (hg:u.ownBlock=some g\/W.heap.size<=g) (e2:w2=w4.setCell ⟨cb,2,none⟩ (.slice (some ⟨g,0,none⟩) n cap)) :
  CBox w2 cb eb (.slice (some ⟨g,0,none⟩) n cap) m ks' l:=by
 subst e2;have hcl:cb<W.heap.size:=Zaj h.c0;have hel:eb<W.heap.size:=h.isMap.lt;have bc:=hb cb hcl h.ne2;have be:=hb eb hel h.ne3;have gc:g≠cb:=fun e=>by
  rcases hg with h1 | h1
  ·exact h.ne2 (by rw[h1,e])
  ·omega
 have ge:g≠eb:=fun e=>by
  rcases hg with h1 | h1
  ·exact h.ne3 (by rw[h1,e])
  ·omega
 have hS:∀ c,c≠cb->(w4.setCell ⟨cb,2,none⟩ (.slice (some ⟨g,0,none⟩) n cap)).heap[c]? =w4.heap[c]? :=fun c hc=>Below.heap_setCell w4 ⟨cb,2,none⟩ _ c hc
 have d2:w4.cell? ⟨cb,2,none⟩=some u:=(World.cell?_of_block (a:=⟨cb,2,none⟩) bc).trans h.c2;refine⟨?_,?_,World.cell?_setCell_same' _ _ _ (by rw[d2];rfl),?_,hrow.same fun j hj=>hS j ?_,(h.isMap.same be).same (hS eb h.ne1.symm),h.ne1,?_,?_⟩
 ·rw[World.cell?_setCell_other]
  ·exact(World.cell?_of_block (a:=⟨cb,0,none⟩) bc).trans h.c0
  ·simp
 ·rw[World.cell?_setCell_other]
  ·exact(World.cell?_of_block (a:=⟨cb,1,none⟩) bc).trans h.c1
  ·simp
 ·rw[World.frozen?_setCell];exact(World.frozen?_of_block (a:=⟨cb,2,none⟩) bc).trans h.f2
 ·intro e
  have:j=g:=by simpa[Value.ownBlock] using hj
  exact gc (this.symm.trans e)
 ·intro e
  exact gc (by simpa[Value.ownBlock] using e.symm)
 ·intro e
  exact ge (by simpa[Value.ownBlock] using e.symm)
theorem Zem(h:CBox W cb eb u m ks l)(hl:ks.length<=1000)(k:List UInt8):
  Calls prog 248 #[.pointer (some ⟨cb,0,none⟩),.string (ba k)] W fun e w'=>e=.returned (.tuple #[])/\Only (CBlk cb eb u) W w'/\∃ u',CBox w' cb eb u' m ((ks.filter fun x=> !(x==k))++[k]) l/\∀ j,some j=u'.ownBlock->some j=u.ownBlock\/W.heap.size<=j:=by
 have g0:Below W.heap.size W (W.alloc (.cells #[.string (ba k)] 9)):=(Below.refl _ W).alloc (Nat.le_refl _) _;have h0:=h.below g0;have hb0:(W.alloc (.cells #[.string (ba k)] 9)).cell? ⟨W.heap.size,0,none⟩=some (.string (ba k)):=by simp
 have hz0:(W.alloc (.cells #[.string (ba k)] 9)).heap.size=W.heap.size+1:=by simp
 have hnw:some W.heap.size≠u.ownBlock:=fun e=>by have:=h.row.lt e;omega
 have HD:=hid1 (Zqx h0.row hl k W.heap.size hb0 hnw);have c2:=h0.c2;have hfl:(ks.filter fun x=> !(x==k)).length<=ks.length:=List.length_filter_le _ _
 obtain⟨i0,hi,hz1,hz2,hz3⟩:=info_parts Tryz.infoStr;have HH:=hid1 h;have HH0:=hid1 h0;have hcl:cb<W.heap.size:=Zaj h.c0;have hu2:=h.ne2;have hml:(ks.filter fun x=> !(x==k)).length+1<=maxLen:=by unfold maxLen;omega
 clear h h0;generalize (ks.filter fun x=> !(x==k))=fs at *
 generalize hW0:W.alloc (.cells #[.string (ba k)] 9)=W0 at *;go_enter func248,ntmps248
 go_wp2_with fail;refine HD.out.mono ?_;rintro e w2 ⟨u2,rfl,hk2,ho2,hg2⟩;have hz2':=hg2.size;have b2:=World.grownBy.cell_far hg2 ⟨W.heap.size,0,none⟩ (by show W.heap.size<_;omega) hnw
 rw[hb0]at b2;have q2:=World.grownBy.cell_far hg2 ⟨cb,2,none⟩ (by show cb<_;omega) hu2
 rw[c2]at q2;have f2:=World.grownBy.frozen_far hg2 ⟨cb,2,none⟩ (by show cb<_;omega) hu2
 rw[HH0.out.f2]at f2;have HO2:=hid1 ho2;have HG2:=hid1 hg2;have hcl2:cb<w2.heap.size:=by omega
 clear HD hg2 ho2;have a2:Below w2.heap.size w2 (w2.alloc (.cells #[.string (ba k)] 9)):=(Below.refl _ w2).alloc (Nat.le_refl _) _;have q2a:=hid1 (Zaa q2 a2);have f2a:=hid1 ((a2.frozen (p:=⟨cb,2,none⟩) hcl2).trans f2);have HA2:=hid1 a2;clear a2;have hk3:w2.ownsRow 0 9 1 u2 fs.length (fs.map sv):=hk2;clear hk2;go_wp2_with (first
  | (at_builtin;refine wpList_append_lies _ rfl _ _ 52 rfl 0 9 i0 (.string ⟨#[]⟩) 1 16 underlying52 hi hz1 hz2 hz3 rfl (by decide) u2 fs.length (fs.map sv) rfl (hk3.alloc _) ⟨w2.heap.size,0,none⟩ 1 1 [.string (ba k)] rfl rfl (cell_one_new _ _ _) (by simp[Value.oneCell']) (by decide) hml (by omega) (by simp) _ rfl ?_;intro g cap w4 hown4 hgrow4 hlies4 hlt4;(have q4:=(World.grownBy.cell_far hgrow4 ⟨cb,2,none⟩ (by simp;omega) (by rw[HO2.out];exact hu2)).trans (q2a.out));(have f4:=(World.grownBy.frozen_far hgrow4 ⟨cb,2,none⟩ (by simp;omega) (by rw[HO2.out];exact hu2)).trans (f2a.out));(have HR:=hid1 (And.intro hown4 (And.intro hgrow4 (And.intro hlies4 hlt4))));clear hown4 hgrow4 hlies4 hlt4)
  | fail)
 go_wp2;go_end0
 obtain⟨hown,hgrow,hlies,hlt⟩:=HR.out;have hA2:=HA2.out;have hG2:=HG2.out;rw[HO2.out]at hgrow hlies;have za:=hA2.size;have zg:=hgrow.size;have hb:∀ j,j<W.heap.size->some j≠u.ownBlock->w4.heap[j]? =W.heap[j]? :=fun j hj hn =>
  (hgrow.block j (by omega) hn).trans ((hA2.block j (by omega)).trans ((hG2.block j (by omega) hn).trans (g0.block j hj)))
 have hg:u.ownBlock=some g\/W.heap.size<=g:=by
  rcases hlies with h1 | h1
  ·exact .inl h1
  ·exact .inr (by omega)
 have hB:=HH.out.stored hb (ks':=fs++[k]) (by unfold KRow;rw[List.length_append,List.length_singleton,List.map_append];exact hown) hg rfl
 refine⟨rfl,⟨hgrow.os.trans (hA2.os.trans (hG2.os.trans g0.os)),hgrow.tape.trans (hA2.tape.trans (hG2.tape.trans g0.tape)),hgrow.output.trans (hA2.output.trans (hG2.output.trans g0.output)),by simp;omega,fun j hj hs=> ?_⟩,_,hB,fun j hj=> ?_⟩
 ·have h1:j≠cb:=fun e=>hs (.inl e)
  have h2:some j≠u.ownBlock:=fun e=>hs (.inr (.inr e))
  exact(Below.heap_setCell w4 ⟨cb,2,none⟩ _ j h1).trans (hb j hj h2)
 ·obtain rfl:j=g:=by simpa[Value.ownBlock] using hj
  rcases hg with h1 | h1
  ·exact .inl h1.symm
  ·exact .inr h1
theorem Ycz(W:World)(m:Nat)(h1:1<=m)(h2:m<=100):
  Calls prog 36 #[.int .i64 m] W fun e w'=>∃ p S,e=.returned (.tuple #[.pointer (some p),.nilIface])/\Below W.heap.size W w'/\CAt S w' (.pointer (some p)) m []/\∀ k,S k->W.heap.size<=k:=by
 have z1:(1:Int)<=(m:Int):=by omega
 have hmm:= @run_makeMap prog;go_enter func36,ntmps36
 go_wp2;go_ret2;clear hmm;have hz:(W.alloc (.map #[] 0)).heap.size=W.heap.size+1:=by simp
 have g1:Below W.heap.size W (W.alloc (.map #[] 0)):=(Below.refl _ W).alloc (Nat.le_refl _) _;have hm0:=CMap.made W;generalize W.alloc (.map #[] 0)=W1 at *;have g2:Below W1.heap.size W1 (W1.alloc (.cells #[.int .i64 m,.map (some W.heap.size),.slice none 0 0] 116)):=(Below.refl _ W1).alloc (Nat.le_refl _) _
 refine⟨⟨W.heap.size+1,0,none⟩,CBlk (W.heap.size+1) W.heap.size (.slice none 0 0),rfl,g1.trans (g2.mono (by omega)),⟨_,_,_,rfl,fun j=>Iff.rfl,⟨?_,?_,?_,?_,World.ownsRow_nil _ _ _ _,hm0.same (g2.block _ (by omega)),by omega,by simp[Value.ownBlock],by simp[Value.ownBlock]⟩,fun e he=>by simp at he⟩,?_⟩
 ·rw[<- hz];simp
 ·rw[<- hz];simp
 ·rw[<- hz];simp
 ·rw[<- hz];simp
 ·rintro k (rfl | rfl | hk)
  ·omega
  ·omega
  ·simp[Value.ownBlock]at hk
variable {es:Nat->Addr}
theorem Ydy(W:World)(m:Int)(hm:m<1\/100<m)(hE:W.cell? ⟨0,0,none⟩=some (erOf es 2)):
  Calls prog 36 #[.int .i64 m] W fun e w'=>e=.returned (.tuple #[.pointer none,erOf es 2])/\Below W.heap.size W w':=by
 generalize erOf es 2=er at *;rcases hm with hm | hm
 ·go_enter func36,ntmps36
  go_wp2;go_region;go_wp2;go_ret2;exact⟨rfl,by first | exact Below.refl _ _ | exact Zad (Below.refl _ _) _⟩
 ·have z1:(1:Int)<=m:=by omega
  go_enter func36,ntmps36
  go_wp2;go_region;go_wp2;go_ret2;exact⟨rfl,by first | exact Below.refl _ _ | exact Zad (Below.refl _ _) _⟩
theorem CBlk.step{u':Value}(h:∀ j,some j=u'.ownBlock->some j=u.ownBlock\/n<=j):∀ j,CBlk cb eb u' j->CBlk cb eb u j\/n<=j:=by
 rintro j (h1 | h1 | h1)
 ·exact .inl (.inl h1)
 ·exact .inl (.inr (.inl h1))
 ·rcases h j h1 with h2 | h2
  ·exact .inl (.inr (.inr h2))
  ·exact .inr h2
variable {S:Nat->Prop}{v:Value}
theorem Zxn(h:CAt S W v m l)(hO:Cf.Ok m l)(hm:m<=100)(k:List UInt8)(hk:k.length<=100000):
  Calls prog 235 #[v,.string (ba k)] W fun e w'=>e=.returned (.tuple #[.string (ba ((Cf.find l k).getD [])),.bool (Cf.find l k).isSome])/\Only S W w'/\∃ S',CAt S' w' v m (Cf.get m l k)/\∀ j,S' j->S j\/W.heap.size<=j:=by
 obtain⟨cb,eb,u,rfl,hS,h,hsh⟩:=h;have hlk:=Zwt h.isMap k (by omega)
 have c1:=h.c1;have hl:=hO.few;have HH:=hid1 h;have HS:=hid1 hS;have HO:=hid1 hO;have hlt:=h.lt;clear hS hO;cases hf:Cf.find l k with
 | none =>
  have HF:=hid1 hf;rw[hf]at hlk;simp only[Option.getD_none,Option.isSome_none]at hlk ⊢;clear h hlt hf;go_enter func235,ntmps235
  go_wp2;go_ret2;have g0:Below W.heap.size W (W.alloc (.cells #[.string (ba [])] 336)):=(Below.refl _ W).alloc (Nat.le_refl _) _;refine⟨rfl,Only.of g0,S,?_,fun j hj=>.inl hj⟩
  have e:Cf.get m l k=l:=by unfold Cf.get;rw[HF.out]
  rw[e];exact⟨cb,eb,u,rfl,HS.out,HH.out.below g0,hsh⟩
 | some b =>
  have HF:=hid1 hf;rw[hf]at hlk;simp only[Option.getD_some,Option.isSome_some]at hlk ⊢;have g0:Below W.heap.size W (W.alloc (.cells #[.string (ba b)] 336)):=(Below.refl _ W).alloc (Nat.le_refl _) _;have hb0:(W.alloc (.cells #[.string (ba b)] 336)).cell? ⟨W.heap.size,0,none⟩=some (.string (ba b)):=by simp
  have hz0:(W.alloc (.cells #[.string (ba b)] 336)).heap.size=W.heap.size+1:=by simp
  have HL:=hid1 (Zem (h.below g0) (by rw[Cf.keys_len];omega) k)
  have hnb:¬ CBlk cb eb u W.heap.size:=fun x=>by have:=hlt _ x;omega
  have HN:=hid1 hnb;have HG0:=hid1 g0;clear h hlt hf g0 hnb;generalize hW0:W.alloc (.cells #[.string (ba b)] 336)=W0 at *;go_enter func235,ntmps235
  go_wp2_with fail;refine HL.out.mono ?_;rintro e w1 ⟨rfl,hon,u',hb',hu'⟩;have hb1:=hon.cell hb0 HN.out;have HR:=hid1 (And.intro hon (And.intro hb' hu'));clear HL hon hb' hu';go_wp2;go_ret2;obtain⟨hon,hb',hu'⟩:=HR.out;have g0:=HG0.out;obtain⟨hg,hp⟩:=Cf.get_hit HO.out HF.out;refine⟨rfl,?_,CBlk cb eb u',⟨cb,eb,u',rfl,fun j=>Iff.rfl,?_,fun e he=>hsh e (hp.mem_iff.1 he)⟩,?_⟩
  ·have h1:Only S W W0:=Only.of g0;refine h1.trans hon fun j hj=>.inl ((HS.out j).2 hj)
  ·have hmp:=hb'.isMap;have ek:Cf.keys (Cf.get m l k)=(Cf.keys l).filter (fun x=> !(x==k))++[k]:=by
    rw[hg];unfold Cf.keys;rw[List.map_append];show Cf.keys (Cf.rm l k)++_=_
    rw[Cf.keys_rm];rfl
   rw[ek];refine⟨hb'.c0,hb'.c1,hb'.c2,hb'.f2,hb'.row,hmp.perm (fun p=> ?_) hp.length_eq,hb'.ne1,hb'.ne2,hb'.ne3⟩
   rw[hg,Cf.find_laid];by_cases e:p=k
   ·rw[if_pos e,e,HF.out]
   ·rw[if_neg e]
  ·intro j hj
   rcases CBlk.step hu' j hj with h1 | h1
   ·exact .inl ((HS.out j).2 h1)
   ·exact .inr (by omega)
open Go.Sort (putRow)
variable {w1:World}
theorem CBox.turned{l':Cf.Ens}(h:CBox W cb eb u m ks l)(ht:W.mapTurned w1 eb)(hm:CMap w1 eb l'):CBox w1 cb eb u m ks l':=by
 have hb:∀ j,j<W.heap.size->j≠eb->w1.heap[j]? =W.heap[j]? :=fun j hj hn=>ht.grown.block j hj (by simpa using hn)
 have bc:=hb cb (Zaj h.c0) h.ne1;exact⟨(World.cell?_of_block (a:=⟨cb,0,none⟩) bc).trans h.c0,(World.cell?_of_block (a:=⟨cb,1,none⟩) bc).trans h.c1,(World.cell?_of_block (a:=⟨cb,2,none⟩) bc).trans h.c2,(World.frozen?_of_block (a:=⟨cb,2,none⟩) bc).trans h.f2,h.row.same (fun j hj=>hb j (h.row.lt hj) fun e=>h.ne3 (e ▸ hj)),hm,h.ne1,h.ne2,h.ne3⟩
theorem Only.turned(ht:W.mapTurned w1 eb)(hS:S eb):Only S W w1:=by
 refine⟨ht.grown.os,ht.grown.tape,ht.grown.output,ht.grown.size,fun j hj hs=>ht.grown.block j hj fun e=>hs ?_⟩
 have:j=eb:=by simpa using e
 rw[this];exact hS
theorem CBox.put(h:CBox W cb eb u m ks l)(ho:(Cf.keys l).Nodup)(hl:l.length<=1000)(k b:List UInt8)(hk:k.length<=100000):
  ∃ w1,(Instr.mapUpdate 114 (.map (some eb)) (.string (ba k)) (.agg #[.string (ba b)])).run prog W=.ok () w1/\CBox w1 cb eb u m ks (Cf.rm l k++[(k,b)])/\Only (CBlk cb eb u) W w1:=by
 obtain⟨D,h1,h2,h3,h4⟩:=h.isMap;obtain⟨w1,hr,ho1,ht⟩:=h1.store (t:=114) (e:=336) claw underlying114 (by unfold maxLen;omega) (ckey k (by omega)) (Zto b)
 exact⟨w1,hr,h.turned ht (CMap.laid ho (h1.tidy claw) ho1 h2 h3 h4),Only.turned ht (.inr (.inl rfl))⟩
theorem CBox.drop{W:World}{cb eb:Nat}{u:Value}{m:Nat}{ks:List (List UInt8)}{e:Cf.En}{l:Cf.Ens}(h:CBox W cb eb u m ks (e::l))(ho:(Cf.keys (e::l)).Nodup)(hk:e.1.length<=100000)(ty:TypeId):
  ∃ w1,(Builtin.delete_ #[114,9] ty #[.map (some eb),.string (ba e.1)]).run prog W=.ok (.tuple #[]) w1/\CBox w1 cb eb u m ks l/\Only (CBlk cb eb u) W w1:=by
 obtain⟨D,h1,h2,h3,h4⟩:=h.isMap;obtain⟨w1,hr,ho1,ht⟩:=h1.drop (t:=114) (e:=336) claw underlying114 (ckey e.1 (by omega)) ty
 exact⟨w1,hr,h.turned ht (CMap.cut ho (h1.tidy claw) ho1 h2 h3 h4),Only.turned ht (.inr (.inl rfl))⟩
theorem Zkl{x:List UInt8}(hrow:KRow W (.slice (some ⟨g,0,none⟩) (ks.length+1) cap) (x::ks)):
  Calls prog 249 #[.slice (some ⟨g,0,none⟩) (ks.length+1) cap,.int .i64 0,.int .i64 1] W fun e w'=>e=.returned (.slice (some ⟨g,0,none⟩) ks.length cap)/\KRow w' (.slice (some ⟨g,0,none⟩) ks.length cap) ks/\W.grownBy w' (some g):=by
 obtain⟨g',cap',e,-,hg,hcap,hm,-,hH⟩:=Lib.holds_of_ownsRow hrow (by simp)
 cases e
 have key:=slices_Delete_string g 0 cap 0 1 (x::ks) W hH hcap (by unfold maxLen at hm;omega) (by omega) (by simp)
 refine key.mono ?_;rintro e w' ⟨rfl,q,rfl⟩;have h1:=Lib.ownsRow_putRow (q:=q) (k:=ks.length) (ys:=(x::ks).take 0++(x::ks).drop 1++List.replicate (1 - 0) []) hrow (by simp) (by simp)
 have e1:((x::ks).take 0++(x::ks).drop 1++List.replicate (1 - 0) []).take ks.length=ks:=by simp
 rw[e1]at h1;refine⟨rfl,h1,⟨rfl,rfl,rfl,by rw[Go.Sort.size_putRow];exact Nat.le_refl _,fun j _ hj=> ?_⟩⟩
 have:g≠j:=fun e=>hj (by rw[e])
 simp[putRow,Go.Sort.mapBlock,Go.Sort.ahead,Array.getElem?_modify,this]
theorem Zxl(h:CAt S W v m l)(hO:Cf.Ok m l)(hm1:1<=m)(hm:m<=100)(k b:List UInt8)(hk:k.length<=100000):
  Calls prog 236 #[v,.string (ba k),.string (ba b)] W fun e w'=>e=.returned (.tuple #[])/\Only S W w'/\∃ S',CAt S' w' v m (Cf.put m l k b)/\∀ j,S' j->S j\/W.heap.size<=j:=by
 obtain⟨cb,eb,u,rfl,hS,h,hks⟩:=h;have c0:=h.c0;have c1:=h.c1;have z0:((m:Int)==0)=false:=by simp;omega
 have hl:=hO.few;obtain⟨w1,hst,hB1,hon1⟩:=h.put hO.once (by omega) k b hk
 have HL:=hid1 (Zem hB1 (by rw[Cf.keys_len];omega) k)
 have HS:=hid1 hS;have HPut:Hid (Cf.put m l k b=if m<(Cf.rm l k++[(k,b)]).length then (Cf.rm l k++[(k,b)]).drop 1 else Cf.rm l k++[(k,b)]):=hid1 rfl
 have hks':(Cf.keys l).filter (fun x=> !(x==k))++[k]=Cf.keys (Cf.rm l k++[(k,b)]):=by
  unfold Cf.keys;rw[List.map_append];show _=Cf.keys (Cf.rm l k)++_
  rw[Cf.keys_rm];rfl
 rw[hks']at HL;have HN:=hid1 (Cf.put_once hO.once k b);have HK:=hid1 fun(e:Cf.En) (he:e∈Cf.rm l k++[(k,b)])=>(show e.1.length<=100000 by
  rcases List.mem_append.1 he with h1 | h1
  ·exact hks _ (Cf.mem_rm.1 h1).1
  ·rw[List.mem_singleton.1 h1];exact hk)
 have hrl:=Cf.rm_le l k;have HLen:Hid ((Cf.rm l k++[(k,b)]).length<=101):=hid1 (by simp;omega)
 have HO1:=hid1 hon1;have zs1:=hon1.size;clear h hB1 hS hks hks' hO hon1;generalize Cf.rm l k++[(k,b)]=L at *;go_enter func236,ntmps236
 go_wp2_with fail;refine HL.out.mono ?_;rintro e w2 ⟨rfl,hon2,u2,hB2,hu2⟩;have HR2:=hid1 (And.intro hon2 (And.intro hB2 hu2));have HO2:=hid1 (HO1.out.trans hon2 fun j hj=>.inl hj)
 have q0:=hB2.c0;have q2:=hB2.c2;obtain⟨g,cap,rfl⟩:∃ p c,u2=.slice p L.length c:=by
  have hr:=hB2.row;unfold KRow at hr;rw[Cf.keys_len]at hr;rcases hr.2 with ⟨rfl,h0⟩ | ⟨g,cap,cur,rfl,_⟩
  ·exact⟨none,0,by rw[h0]⟩
  ·exact⟨_,_,rfl⟩
 clear HL hon2 hu2;have zl:=HLen.out;by_cases hbig:m<L.length
 ·rw[if_pos hbig]at HPut;cases L with
  | nil=>simp at hbig
  | cons e L =>
  rw[List.length_cons]at hbig zl q2 hB2 HR2;have zb:(m:Int)<(L.length:Int)+1:=by omega
  have hr2:=hB2.row;obtain⟨g,rfl⟩:∃ g',g=some ⟨g',0,none⟩:=by
   rcases hr2.2 with ⟨h0,_⟩ | ⟨g',cap',cur,h0,_⟩
   ·cases h0
   ·simp only[Value.slice.injEq]at h0;exact⟨_,h0.1⟩
  have hH:=(Lib.holds_of_ownsRow hr2 (by simp))
  obtain⟨g',cap',e0,-,hg,hcap,hmx,-,hH⟩:=hH;simp only[Value.slice.injEq,Option.some.injEq,Addr.mk.injEq,and_true]at e0;obtain⟨rfl,-,rfl⟩:=e0;have d0:w2.cell? ⟨g,0,none⟩=some (.string (ba e.1)):=(hH 0 (by simp[Cf.keys])).1
  have hB3:CBox w2.drew cb eb (.slice (some ⟨g,0,none⟩) (L.length+1) cap) m (Cf.keys (e::L)) (e::L):=hB2.same fun _ _=>rfl
  have hB4:CBox w2.drew.drew cb eb (.slice (some ⟨g,0,none⟩) (L.length+1) cap) m (Cf.keys (e::L)) (e::L):=hB2.same fun _ _=>rfl
  obtain⟨w5,hdel,hB5,hon5⟩:=hB4.drop HN.out (HK.out e (by simp)) 0
  have HB5:=hid1 hB5;have HO5:=hid1 hon5;have r1:=hB3.c1;have r2:=hB3.c2;have d1:w2.drew.cell? ⟨g,0,none⟩=some (.string (ba e.1)):=d0;have HO3:Hid (Only (CBlk cb eb u) W w2.drew):=hid1 ⟨HO2.out.os,HO2.out.tape,HO2.out.output,HO2.out.size,HO2.out.block⟩;have s2:=hB5.c2;have fz:=hB5.f2
  have hr5:KRow w5 (.slice (some ⟨g,0,none⟩) ((Cf.keys L).length+1) cap) (e.1::Cf.keys L):=by
   rw[Cf.keys_len];exact hB5.row
  have HDl:=Zkl hr5;rw[Cf.keys_len]at HDl;have HDe:=hid1 HDl;have hgc:some cb≠some g:=hB5.ne2;have hcl5:cb<w5.heap.size:=Zaj hB5.c0;clear hB2 hr2 hH hB3 hB4 hB5 hon5 HDl hr5;go_wp2;go_region;clear q0 q2 d0 HO2;generalize w2.drew=w3 at *;go_wp2;go_region;go_wp2_with fail;refine HDe.out.mono ?_;rintro e6 w6 ⟨rfl,hk6,hg6⟩
  have t2:=(World.grownBy.cell_far hg6 ⟨cb,2,none⟩ hcl5 hgc).trans s2;have ft:=(World.grownBy.frozen_far hg6 ⟨cb,2,none⟩ hcl5 hgc).trans fz;have HK6:=hid1 (And.intro hk6 hg6);clear HDe hk6 hg6;go_wp2;go_end0
  obtain⟨hk6,hg6⟩:=HK6.out;obtain⟨-,-,hu2⟩:=HR2.out;have hB6:=HB5.out.stored (ks':=Cf.keys L) (w2:=w6.setCell ⟨cb,2,none⟩ (.slice (some ⟨g,0,none⟩) L.length cap)) (fun j hj hn=>hg6.block j hj hn) hk6 (.inl rfl) rfl
  have hO5:=HO5.out;have hO3:=HO3.out;have z5:=hO5.size;have z3:=hO3.size;have z6:=hg6.size;have zd:w3.drew.heap.size=w3.heap.size:=rfl;have hS2:∀ j,CBlk cb eb (.slice (some ⟨g,0,none⟩) (L.length+1) cap) j->S j\/W.heap.size<=j:=fun j hj=>by
   rcases CBlk.step hu2 j hj with h1 | h1
   ·exact .inl ((HS.out j).2 h1)
   ·exact .inr (by omega)
  refine⟨rfl,⟨?_,?_,?_,by simp;omega,fun j hj hs=> ?_⟩,CBlk cb eb (.slice (some ⟨g,0,none⟩) L.length cap),⟨cb,eb,.slice (some ⟨g,0,none⟩) L.length cap,rfl,fun j=>Iff.rfl,?_,?_⟩,?_⟩
  ·exact hg6.os.trans (hO5.os.trans hO3.os)
  ·exact hg6.tape.trans (hO5.tape.trans hO3.tape)
  ·exact hg6.output.trans (hO5.output.trans hO3.output)
  ·have h1:¬ CBlk cb eb (.slice (some ⟨g,0,none⟩) (L.length+1) cap) j:=fun x=>by
    rcases hS2 j x with h2 | h2
    ·exact hs h2
    ·omega
   have h2:j≠cb:=fun x=>h1 (.inl x)
   have h3:some j≠some g:=fun x=>h1 (.inr (.inr x))
   refine(Below.heap_setCell w6 ⟨cb,2,none⟩ _ j h2).trans ((hg6.block j (by omega) h3).trans ((hO5.block j (by omega) h1).trans ?_))
   exact hO3.block j hj fun x=>hs ((HS.out j).2 x)
  ·rw[HPut.out];exact hB6
  ·rw[HPut.out];exact fun x hx=>HK.out x (List.mem_cons_of_mem _ hx)
  ·exact fun j hj=>hS2 j hj
 ·rw[if_neg hbig]at HPut;have zb:(L.length:Int)<=(m:Int):=by omega
  clear hB2;go_wp2;go_region;go_wp2;go_end0
  obtain⟨hon2,hB2,hu2⟩:=HR2.out;refine⟨rfl,⟨HO2.out.os,HO2.out.tape,HO2.out.output,HO2.out.size,fun j hj hs=>HO2.out.block j hj fun x=>hs ((HS.out j).2 x)⟩,CBlk cb eb (.slice g L.length cap),⟨cb,eb,.slice g L.length cap,rfl,fun j=>Iff.rfl,?_,?_⟩,?_⟩
  ·rw[HPut.out];exact hB2.same fun _ _=>rfl
  ·rw[HPut.out];exact HK.out
  ·intro j hj
   rcases CBlk.step hu2 j hj with h1 | h1
   ·exact .inl ((HS.out j).2 h1)
   ·exact .inr (by omega)
theorem Zjl(es:Nat->Addr):Zao es CAt where
 same:=fun S W W' v m l h _ hb=>by
  obtain⟨cb,eb,u,e,hS,h,hk⟩:=h;exact⟨cb,eb,u,e,hS,h.same fun j hj=>hb j ((hS j).2 hj),hk⟩
 lt:=fun S W v m l h k hk=>by
  obtain⟨cb,eb,u,e,hS,h,-⟩:=h;exact h.lt k ((hS k).1 hk)
 make:=Ycz
 no:=fun W m _ _ hm hE=>Ydy W m hm hE
 put:=fun S W p m l k b h h1 h2 hO hk _=>Zxl h hO h1 h2 k b hk
 get:=fun S W p m l k h _ h2 hO hk=>Zxn h hO h2 k hk
theorem Yda(k:List UInt8)(W:World):Calls prog 235 #[.pointer none,.string (ba k)] W fun e w'=>e=.returned (.tuple #[.string (ba []),.bool false])/\w'=W:=by
 go_enter func235,ntmps235
 go_wp2;go_ret2;exact⟨rfl,rfl⟩
theorem Ycy(k b:List UInt8)(W:World):Calls prog 236 #[.pointer none,.string (ba k),.string (ba b)] W fun e w'=>e=.returned (.tuple #[])/\w'=W:=by
 go_enter func236,ntmps236
 go_wp2;exact bodyPost_ret (results_none rfl _ _ _) rfl ⟨rfl,rfl⟩
variable {SC:Nat->Prop}{cv:Value}{c:Bf.Ca}
theorem caGet{es:Nat->Addr}(h:CaAt CAt SC W cv c)(hf:Bf.CFit c)(k:List UInt8)(hk:k.length<=100000):
  Calls prog 235 #[cv,.string (ba k)] W fun e w'=>e=.returned (.tuple #[.string (ba ((Bf.cfind c k).getD [])),.bool (Bf.cfind c k).isSome])/\Only SC W w'/\∃ SC',CaAt CAt SC' w' cv (Bf.cget c k)/\∀ j,SC' j->SC j\/W.heap.size<=j:=by
 cases c with
 | none =>
  obtain⟨rfl,hn⟩:=h;refine(Yda k W).mono ?_;rintro e w' ⟨rfl,rfl⟩;exact⟨rfl,Only.refl _ _,SC,⟨rfl,hn⟩,fun j hj=>.inl hj⟩
 | some x =>
  obtain⟨m,l⟩:=x;obtain⟨⟨p,rfl⟩,hA⟩:=h;obtain⟨h1,h2,h3,_⟩:=hf;refine((Zjl es).get SC W p m l k hA h1 h2 h3 hk).mono ?_;rintro e w' ⟨rfl,ho,SC',hA',hS⟩;exact⟨rfl,ho,SC',⟨⟨p,rfl⟩,hA'⟩,hS⟩
theorem caPut{es:Nat->Addr}(h:CaAt CAt SC W cv c)(hf:Bf.CFit c)(k b:List UInt8)(hk:k.length<=100000)(hb:b.length<=100000):
  Calls prog 236 #[cv,.string (ba k),.string (ba b)] W fun e w'=>e=.returned (.tuple #[])/\Only SC W w'/\∃ SC',CaAt CAt SC' w' cv (Bf.cput c k b)/\∀ j,SC' j->SC j\/W.heap.size<=j:=by
 cases c with
 | none =>
  obtain⟨rfl,hn⟩:=h;refine(Ycy k b W).mono ?_;rintro e w' ⟨rfl,rfl⟩;exact⟨rfl,Only.refl _ _,SC,⟨rfl,hn⟩,fun j hj=>.inl hj⟩
 | some x =>
  obtain⟨m,l⟩:=x;obtain⟨⟨p,rfl⟩,hA⟩:=h;obtain⟨h1,h2,h3,_⟩:=hf;refine((Zjl es).put SC W p m l k b hA h1 h2 h3 hk hb).mono ?_;rintro e w' ⟨rfl,ho,SC',hA',hS⟩;exact⟨rfl,ho,SC',⟨⟨p,rfl⟩,hA'⟩,hS⟩
theorem CaAt.ptr(h:CaAt CAt SC W cv c):∃ o,cv=.pointer o:=by
 cases c with
 | none=>exact⟨none,h.1⟩
 | some x =>
  obtain⟨⟨p,rfl⟩,_⟩:=h;exact⟨_,rfl⟩
theorem CaAt.same{SC:Nat->Prop}{W W':World}{cv:Value}{c:Bf.Ca}(h:CaAt CAt SC W cv c)(hz:W.heap.size<=W'.heap.size)(hb:∀ k,SC k->W'.heap[k]? =W.heap[k]?):CaAt CAt SC W' cv c:=by
 cases c with
 | none=>exact h
 | some x=>exact⟨h.1,(Zjl (fun _=>default)).same _ _ _ _ _ _ h.2 hz hb⟩
theorem CaAt.lt{SC:Nat->Prop}{W:World}{cv:Value}{c:Bf.Ca}(h:CaAt CAt SC W cv c):∀ k,SC k->k<W.heap.size:=by
 cases c with
 | none=>exact fun k hk=>absurd hk (h.2 k)
 | some x=>exact(Zjl (fun _=>default)).lt _ _ _ _ _ h.2
variable {W':World}
theorem CaAt.below(h:CaAt CAt SC W cv c)(hb:Below W.heap.size W W'):CaAt CAt SC W' cv c:=h.same hb.size fun k hk=>hb.block k (h.lt k hk)
theorem Yan{k:List UInt8}(h:Bf.cfind c k=none):Bf.cget c k=c:=by
 cases c with
 | none=>rfl
 | some x =>
  obtain⟨m,l⟩:=x;have h':Cf.find l k=none:=h;show some (m,Cf.get m l k)=some (m,l)
  unfold Cf.get;rw[h']
def RunPost(es:Nat->Addr)(L:Lay)(d d':Bf.Bd)(c':Bf.Ca)(SC:Nat->Prop)(W:World)(cv:Value)(w':World):Prop :=
 Steps w' es d.dom L d.rule (insOf d) d'.st/\Only (fun j=>PBlk d.dom L j\/SC j) W w'/\∃ SC',CaAt CAt SC' w' cv c'/\∀ j,SC' j->SC j\/W.heap.size<=j
theorem key_le(kind word:List UInt8)(xs:List (List UInt8))(h1:kind.length<=200)(h2:word.length<=200)(h3:xs.length<=12)(h4:∀ x∈xs,x.length<=2000):(Kp.key kind word xs).length<=100000:=by
 have hp:∀ s:List UInt8,s.length<=2000->(Kp.piece s).length<=2022:=fun s hs=>by
  have:=Zey s.length (by omega)
  unfold Kp.piece;simp
  omega
 have hf:∀ l:List (List UInt8),(∀ x∈l,x.length<=2000)->(l.flatMap Kp.piece).length<=l.length*2022:=fun l=>by
  induction l with
  | nil=>intro _;simp
  | cons x r ih =>
   intro h
   have a:=ih fun y hy=>h y (List.mem_cons_of_mem _ hy)
   have b:=hp x (h x (by simp))
   rw[List.flatMap_cons,List.length_append,List.length_cons];omega
 have a:=hp kind (by omega)
 have b:=hp word (by omega)
 have c:=hf xs h4;unfold Kp.key;rw[List.length_append,List.length_append];omega
variable {dom:Nat->Prop}{L:Lay}{ru:Nat->Ru}{st:Nat->Bf.St}
theorem Steps.only{ins:Nat->List Inp}(h:Steps W es dom L ru ins st)(ho:Only S W W')(hS:∀ j,SBlk dom L j->¬ S j):Steps W' es dom L ru ins st:=h.same fun j hj=>ho.block j (h.lt j hj) (hS j hj)
theorem actFit:Bf.ActFit Af.actO:=fun k w xs=>by
 unfold Af.actO;split
 ·split
  ·split
   ·exact⟨by simp,fun h=>by cases h⟩
   ·rename_i h
    exact⟨by simp,fun _=>by simpa using h⟩
  ·exact⟨by simp,fun h=>by cases h⟩
 ·rename_i h
  refine⟨?_,fun e=>absurd e h⟩
  show Af.actE k w xs.length<=12
  unfold Af.actE;split
  ·omega
  ·split
   ·omega
   ·split <;> omega
theorem Steps.dones{ins:Nat->List Inp}(h:Steps W es dom L ru ins st){u:Nat}(hu:dom u)(hw:st u=.waits)(s:List UInt8)(b:Bool):Steps ((W.setCell ⟨L.sp u,4,none⟩ (.int .i64 (if b then 2 else 1))).setCell ⟨L.sp u,5,none⟩ (.string (ba s))) es dom L ru ins (Bf.setS st u (.done s b)):=by
 refine h.turn hu (.done s b) ?_ fun j hj _=> ?_
 ·have r1:=heap_setCell_same W (L.sp u) 4 _ _ (.int .i64 (if b then 2 else 1)) (h.step u hu)
  rw[heap_setCell_same _ _ _ _ _ _ r1,hw];cases b <;> rfl
 ·rw[Below.heap_setCell _ _ _ j hj,Below.heap_setCell _ _ _ j hj]
theorem RunPost.done{es:Nat->Addr}{L:Lay}{d:Bf.Bd}{c':Bf.Ca}{SC SC':Nat->Prop}{W w3:World}{cv:Value}{i:Nat}(hS:Steps w3 es d.dom L d.rule (insOf d) d.st)(hi:d.dom i)(hw:d.st i=.waits)(s:List UInt8)(b:Bool)(hO:Only SC W w3)(hC:CaAt CAt SC' w3 cv c')(hSC:∀ j,SC' j->SC j\/W.heap.size<=j)(hap:∀ j,SBlk d.dom L j->¬ SC' j):
  RunPost es L d (d.set i (.done s b)) c' SC W cv ((w3.setCell ⟨L.sp i,4,none⟩ (.int .i64 (if b then 2 else 1))).setCell ⟨L.sp i,5,none⟩ (.string (ba s))):=by
 have hp:PBlk d.dom L (L.sp i):=⟨i,hi,rfl⟩;have o1:Only (fun j=>PBlk d.dom L j\/SC j) w3 ((w3.setCell ⟨L.sp i,4,none⟩ (.int .i64 (if b then 2 else 1))).setCell ⟨L.sp i,5,none⟩ (.string (ba s))):=(Only.setCell _ _ (.inl hp)).trans (Only.setCell _ _ (.inl hp)) fun j hj=>.inl hj
 have o0:Only (fun j=>PBlk d.dom L j\/SC j) W w3:=⟨hO.os,hO.tape,hO.output,hO.size,fun j hj hn=>hO.block j hj fun h=>hn (.inr h)⟩
 refine⟨hS.dones hi hw s b,o0.trans o1 fun j hj=>.inl hj,SC',hC.same (by simp) fun k hk=> ?_,hSC⟩
 have hne:k≠L.sp i:=fun e=>hap k (by rw[e];exact hp.s) hk
 rw[Below.heap_setCell _ _ _ k hne,Below.heap_setCell _ _ _ k hne]
variable {d:Bf.Bd}{i:Nat}
theorem RunPost.fails{SC':Nat->Prop}{st':Nat->Bf.St}{e:Nat}(hI:Bf.Inv d)(hU:Bf.UsOk d L.us)(hr:d.isReady i=true)(hS:Steps w2 es d.dom L d.rule (insOf d) st')(hL:Bf.Leave L.us i (L.us i) (Bf.setS d.st i (.failed e)) st')(hO:Only SC W w1)(hC:CaAt CAt SC' w1 cv c)(hSC:∀ j,SC' j->SC j\/W.heap.size<=j)(hap:∀ j,SBlk d.dom L j->¬ SC' j)(hO2:Only (PBlk d.dom L) w1 w2):
  RunPost es L d (d.fail i e) c SC W cv w2:=by
 have o0:Only (fun j=>PBlk d.dom L j\/SC j) W w1:=⟨hO.os,hO.tape,hO.output,hO.size,fun j hj hn=>hO.block j hj fun h=>hn (.inr h)⟩
 refine⟨hS.congr fun k hk=>(hL.spread hI hU hr k (Bf.Bd.dom_no hk)).symm,o0.trans hO2 fun j hj=>.inl (.inl hj),SC',hC.same hO2.size fun k hk=>hO2.block k (hC.lt k hk) fun h=>hap k h.s hk,hSC⟩
theorem Zrw{bb bm B:Nat}(hM:BuM es W bb bm n L cv d)(hi:d.dom i)(hr:d.isReady i=true)(hC:CaAt CAt SC W cv c)(hap:∀ j,SBlk d.dom L j->¬ SC j)(hW:BuildB B W es)(hSC:∀ j,SC j->B<=j)(hfit:Bf.Fit d)(hcf:Bf.CFit c)(hk1:(d.rule i).kind.length<=200)(hk2:(d.rule i).word.length<=200)(hk3:(d.rule i).ins.length<=12):
  Calls prog 211 #[Ptr (L.sp i),cv] W fun e w'=>e=.returned (.tuple #[])/\RunPost es L d (Bf.go Af.actO c d i).d (Bf.go Af.actO c d i).c SC W cv w':=by
 have HG:=hid1 (Zjz hM.steps i hi (hM.few i hi));rw[Yac]at HG;have hwt:=Bf.ready_waits hr;have HM:=hid1 hM;have HR:=hid1 hr;have HC:=hid1 hC;have HAp:=hid1 hap;have HW:=hid1 hW;have HSC:=hid1 hSC;have HUp:Hid (∀ e k,Bf.Up L.us i k->Bf.setS d.st i (.failed e) k=.waits\/Bf.setS d.st i (.failed e) k=.left):=hid1 fun e k hk=>by
  have h1:=hM.inv.up hM.us hwt hk;by_cases ek:k=i
  ·subst ek;exfalso
   have:∃ j,(d.st j).isDone=false/\Ru.needs d.l k j=true:=by
    cases hk with
    | one h2=>exact⟨k,by rw[hwt];rfl,((hM.us k (by rw[hwt];rfl) k).1 h2).2⟩
    | @more j _ hj h2 =>
     have h0:=hM.inv.up hM.us hwt hj;exact⟨j,by rcases h0.2 with e | e <;> rw[e] <;> rfl,((hM.us j h0.1 k).1 h2).2⟩
   obtain⟨j,h2,h3⟩:=this;rw[Bf.ready_free hr (Ru.needs_lt h3).2 h3]at h2;cases h2
  ·rw[Bf.setS_other ek];exact h1.2
 have HFail:=hid1 fun(V:World) (hS:Steps V es d.dom L d.rule (insOf d) d.st) (e:Nat)=>Zoo (fun k hk=>hM.lo hk) hM.usl hS hi hwt e (HUp.out e)
 have HFx:=hid1 fun xs (hx:d.ins i=some xs)=>hfit.ins hx
 have HCf:=hid1 hcf;obtain⟨oc,rfl⟩:=hC.ptr;have HGo:Hid (Bf.go Af.actO c d i=match d.ins i with
   | none=>⟨false,0,d.fail i 6,c⟩
   | some xs =>
    match Bf.cfind c (Kp.key (d.rule i).kind (d.rule i).word xs) with
    | some s=>⟨true,0,d.set i (.done s true),Bf.cget c (Kp.key (d.rule i).kind (d.rule i).word xs)⟩
    | none =>
     if (Af.actO (d.rule i).kind (d.rule i).word xs).2=0 then ⟨false,0,d.set i (.done (Af.actO (d.rule i).kind (d.rule i).word xs).1 false),Bf.cput c (Kp.key (d.rule i).kind (d.rule i).word xs) (Af.actO (d.rule i).kind (d.rule i).word xs).1⟩
     else ⟨false,0,d.fail i (Af.actO (d.rule i).kind (d.rule i).word xs).2,c⟩):=hid1 rfl
 generalize Bf.go Af.actO c d i=G at *;clear hM hC hap hW hSC hr hfit hcf HUp;go_enter func211,ntmps211
 go_wp2_with fail;refine HG.out.mono ?_;rintro e w1 ⟨g1,hg⟩;have HS1:=hid1 (HM.out.steps.below g1);have HC1:=hid1 (HC.out.below g1);have HW1:=hid1 (HW.out.below g1);have HO1:Hid (Only SC W w1):=hid1 (Only.of g1);rcases hg with ⟨hnone,rfl⟩ | ⟨xs,v,hsome,rfl,hrow⟩
 ·rw[hnone]at HGo;simp only at HGo;have HF1:=hid1 (HFail.out w1 HS1.out 6);have cN:=HW1.out.w.none;clear HFail HG hnone g1;go_wp2_with fail;refine HF1.out.mono ?_;rintro e w2 ⟨rfl,st',hS2,hL2,hO2⟩;have HP:=hid1 (RunPost.fails HM.out.inv HM.out.us HR.out hS2 hL2 HO1.out HC1.out (fun j hj=>.inl hj) HAp.out hO2)
  clear HF1 hS2 hL2 hO2;go_wp2;exact bodyPost_ret (results_none rfl _ _ _) rfl ⟨rfl,by rw[HGo.out];exact HP.out⟩
 ·rw[hsome]at HGo;simp only at HGo;obtain⟨hx1,hx2⟩:=HFx.out xs hsome;have hX1:=XRow.of_owns hrow;have HKy:=hid1 fun V (g:Below w1.heap.size w1 V)=>HW1.out.w.k V g (d.rule i).kind (d.rule i).word v xs (hX1.below g) hk1 hk2 (by omega) (fun x hx=>by have:=hx2 x hx;omega)
  have hkl:=key_le (d.rule i).kind (d.rule i).word xs hk1 hk2 (by omega) hx2
  have hA:=HS1.out.at hi;have c0:=hA.c0;have c1:=hA.c1;obtain⟨pv,cap,ev⟩:=Zcz hrow;rw[ev]at HKy;have HRow:=hid1 hrow;have HEv:=hid1 ev;clear hA HG hX1 hrow hx1 HFx;subst ev;generalize Kp.key (d.rule i).kind (d.rule i).word xs=key at *;go_wp2
  go_region_held3 (fun w'=>w'.cell? ⟨L.sp i,0,none⟩=some (.string (ba (d.rule i).kind))/\w'.cell? ⟨L.sp i,1,none⟩=some (.string (ba (d.rule i).word))) (first | go_keep | fail)
   (first | (go_at_call 234;refine(HKy.out _ (by exact(Below.refl _ w1).drew)).mono ?_;rintro e w2 ⟨rfl,g2⟩;have e0:=Zaa (w:=w1.drew) c0 g2;have e1:=Zaa (w:=w1.drew) c1 g2) | fail)
  all_goals
   have G2:=Zac ((Below.refl _ w1).drew) g2;have HS2:=hid1 (HS1.out.below G2);have HC2:=hid1 (HC1.out.below G2);have HW2:=hid1 (HW1.out.below G2);have HO2:Hid (Only SC W w2):=hid1 (HO1.out.trans (Only.of G2) fun j hj=>.inl hj)
   have HRow2:=hid1 (Zco HRow.out G2);have HGt:=hid1 (caGet (es:=es) HC2.out HCf.out key hkl);clear HS1 HC1 HW1 HO1 HRow HKy G2 g2 g1 e0 e1 c0 c1;go_wp2_with fail;refine HGt.out.mono ?_;rintro e w3 ⟨rfl,hO3,SC3,hC3,hSC3⟩;have hz2:=HO2.out.size;have HS3:=hid1 (HS2.out.only hO3 HAp.out);have HC3:=hid1 hC3;have HW3:=hid1 (HW2.out.only hO3 HSC.out)
   have HO3:Hid (Only SC W w3):=hid1 (HO2.out.trans hO3 fun j hj=>.inl hj)
   have HSC3:Hid (∀ j,SC3 j->SC j\/W.heap.size<=j):=hid1 fun j hj=>(hSC3 j hj).imp_right fun h=>Nat.le_trans hz2 h
   have HAp3:Hid (∀ j,SBlk d.dom L j->¬ SC3 j):=hid1 fun j hj h=>by
    rcases hSC3 j h with h1 | h1
    ·exact HAp.out j hj h1
    ·have:=HS2.out.lt j hj;omega
   have HFar:Hid (∀ j,some j=(Value.slice pv xs.length cap).ownBlock->¬ SC j):=hid1 fun j hj h=>by
    have h1:=HM.out;have h2:=HC.out.lt j h;have h3:=(own_lt HRow2.out j hj.symm).1;omega
   have HRow3:=hid1 (Zbf HRow2.out fun j hj=>hO3.block j (own_lt HRow2.out j hj.symm).2 (HFar.out j hj))
   have hA3:=HS3.out.at hi;have a0:=hA3.c0;have a1:=hA3.c1;have a4:=hA3.c4;have a5:=hA3.c5;have f4:=hA3.fr 4;have f5:=hA3.fr 5;rw[hwt]at a4 a5;clear hA3 HGt HS2 HC2 HW2 HO2 HRow2 hO3 hC3 hSC3 hz2 HFar;cases hfd:Bf.cfind c key with
   | some s =>
    rw[hfd]at HGo;simp only at HGo;have HP:=hid1 (RunPost.done HS3.out hi hwt s true HO3.out HC3.out HSC3.out HAp3.out);clear HS3 HC3 HW3 HO3 HSC3 HAp3 HRow3 HFail HM HC;go_wp2;exact bodyPost_ret (results_none rfl _ _ _) rfl ⟨rfl,by rw[HGo.out];exact HP.out⟩
   | none =>
    rw[hfd]at HGo;simp only at HGo;rw[Yan hfd]at HC3;have HRn:=hid1 fun V (g:Below w3.heap.size w3 V)=>Yav (HW3.out.below g).w.g.s.a (d.rule i).kind (d.rule i).word (by omega) (.slice pv xs.length cap) xs (TRow.of_owns (Zco HRow3.out g)) (fun x hx=>by have:=hx2 x hx;omega)
    have HCd:=hid1 (actFit (d.rule i).kind (d.rule i).word xs);clear hfd;generalize hao:Af.actO (d.rule i).kind (d.rule i).word xs=ao at *;obtain⟨out,code⟩:=ao;simp only at HGo HRn HCd;clear hao;go_wp2;go_region_held3 (fun w'=>w'.cell? ⟨L.sp i,0,none⟩=some (.string (ba (d.rule i).kind))/\w'.cell? ⟨L.sp i,1,none⟩=some (.string (ba (d.rule i).word))) (first | go_keep | fail)
     (first | (go_at_call 198;refine(HRn.out _ (by exact(Below.refl _ w3).drew)).mono ?_;rintro e w4 ⟨rfl,g4⟩;have e0:=Zaa (w:=w3.drew) a0 g4;have e1:=Zaa (w:=w3.drew) a1 g4) | fail)
    all_goals
     have G4:=Zac ((Below.refl _ w3).drew) g4;have HS4:=hid1 (HS3.out.below G4);have HC4:=hid1 (HC3.out.below G4);have HO4:Hid (Only SC W w4):=hid1 (HO3.out.trans (Only.of G4) fun j hj=>.inl hj)
     clear HS3 HC3 HW3 HO3 HRow3 HRn G4 g4 e0 e1 a0 a1 a4 a5 f4 f5;by_cases hcode:code=0
     ·subst hcode;rw[if_pos rfl]at HGo;have hol:=HCd.out.2 rfl;have HPt:=hid1 (caPut (es:=es) HC4.out HCf.out key out hkl (by omega))
      rw[show erOf es 0=Value.nilIface from rfl]
      clear HFail HCd;go_wp2_with fail;refine HPt.out.mono ?_;rintro e w5 ⟨rfl,hO5,SC5,hC5,hSC5⟩;have hz4:=HO4.out.size;have HS5:=hid1 (HS4.out.only hO5 HAp3.out);have HO5:Hid (Only SC W w5):=hid1 (HO4.out.trans hO5 HSC3.out);have HSC5:Hid (∀ j,SC5 j->SC j\/W.heap.size<=j):=hid1 fun j hj=>by
       rcases hSC5 j hj with h1 | h1
       ·exact HSC3.out j h1
       ·exact .inr (by omega)
      have HAp5:Hid (∀ j,SBlk d.dom L j->¬ SC5 j):=hid1 fun j hj h=>by
       rcases hSC5 j h with h1 | h1
       ·exact HAp3.out j hj h1
       ·have:=HS4.out.lt j hj;omega
      have hA5:=HS5.out.at hi;have a4:=hA5.c4;have a5:=hA5.c5;have f4:=hA5.fr 4;have f5:=hA5.fr 5;rw[hwt]at a4 a5;have HP:=hid1 (RunPost.done HS5.out hi hwt out false HO5.out hC5 HSC5.out HAp5.out);clear hA5 HPt HS5 HO5 HSC5 HAp5 HS4 HC4 HO4 hO5 hC5 hSC5 HM HC HSC3 HAp3;go_wp2;go_end0
      exact⟨rfl,by rw[HGo.out];exact HP.out⟩
     ·rw[if_neg hcode]at HGo;have HF4:=hid1 (HFail.out w4 HS4.out code);rcases Zma es code with ⟨e9,-⟩ | ⟨t9,x9,e9⟩
      ·exact absurd e9 hcode
      ·rw[e9]at HF4 ⊢;clear HFail e9 HCd;go_wp2_with fail;refine HF4.out.mono ?_;rintro e w5 ⟨rfl,st',hS5,hL5,hO5⟩;have HP:=hid1 (RunPost.fails HM.out.inv HM.out.us HR.out hS5 hL5 HO4.out HC4.out HSC3.out HAp3.out hO5);clear HF4 hS5 hL5 hO5;go_wp2;exact bodyPost_ret (results_none rfl _ _ _) rfl ⟨rfl,by rw[HGo.out];exact HP.out⟩
namespace Bf
variable {fs:Tf.Fs}{l:List Ru}
theorem Ycl(k:Nat):(init fs l (l.map Ru.out)).st k=if k<l.length then .waits else .no:=by
 have hN:Ru.Needed l (l.map Ru.out) (fun k=>decide (k<l.length)):=by
  refine⟨fun k hb=> ?_,fun i k _ hn=> ?_,fun P h1 _ k hk _=>h1 k ?_⟩
  ·unfold Ru.base at hb;split at hb
   ·rename_i r hr
    simpa using (List.getElem?_eq_some_iff.1 hr).1
   ·cases hb
  ·simpa using (Ru.needs_lt hn).2
  ·unfold Ru.base;rw[List.getElem?_eq_getElem hk];simp only[decide_eq_true_eq];exact List.mem_map.2 ⟨_,List.getElem_mem hk,rfl⟩
 show(if need l (l.map Ru.out) k=true then St.waits else .no)=_
 by_cases hk:k<l.length
 ·rw[if_pos hk,need_eq hN hk,if_pos (by simpa using hk)]
 ·rw[if_neg hk,need_out (by omega)]
  rfl
theorem Zun{k:Nat}(hk:k<l.length):need l (l.map Ru.out) k=true:=by
 have:=Ycl (fs:=[]) (l:=l) k;rw[if_pos hk]at this;have h2:(if need l (l.map Ru.out) k=true then St.waits else .no)=.waits:=this
 cases h:need l (l.map Ru.out) k with
 | true=>rfl
 | false=>rw[h]at h2;cases h2
theorem init_fit{outs:List (List UInt8)}(h:∀ f∈fs,f.2.length<=2000):Fit (init fs l outs):=by
 have key:∀ k,(init fs l outs).st k=.waits\/(init fs l outs).st k=.no:=fun k=>by
  show(if need l outs k=true then St.waits else .no)=.waits\/(if need l outs k=true then St.waits else .no)=.no
  split
  ·exact .inl rfl
  ·exact .inr rfl
 refine⟨h,fun k=> ?_,fun k=> ?_⟩
 ·rcases key k with e | e <;> rw[e] <;> simp[St.out]
 ·rcases key k with e | e <;> rw[e] <;> simp[St.why]
end Bf
def ZRow(w:World)(v:Value)(l:List Int):Prop :=
 ∃ p cap,v=.slice p l.length cap/\(l≠[]->∃ g o,p=some ⟨g,o,none⟩/\g<w.heap.size/\∀ j (hj:j<l.length),w.cell? ⟨g,o+j,none⟩=some (.int .i64 l[j]))
namespace Bf
theorem allF_keeps{act:Act}(ha:ActFit act):∀(f:Nat) (c:Ca) (d:Bd),Fit d->CFit c->(allF act f c d).1.l=d.l/\(allF act f c d).1.fs=d.fs/\Fit (allF act f c d).1/\CFit (allF act f c d).2
 | 0,c,d,h1,h2=>⟨rfl,rfl,h1,h2⟩
 | f+1,c,d,h1,h2=>by
  unfold allF;cases hq:d.ready with
  | nil=>exact⟨rfl,rfl,h1,h2⟩
  | cons i q =>
   have hm:=mem_ready.1 (show i∈d.ready by rw[hq];simp)
   have hl:=go_less act c d i hm.1 hm.2;have hg:=go_fit ha h2 h1 i;obtain⟨a1,a2,a3,a4⟩:=allF_keeps ha f (go act c d i).c (go act c d i).d hg.1 hg.2;exact⟨a1.trans hl.2.1,a2.trans hl.2.2,a3,a4⟩
end Bf
