import Derived.Test.YtcplmkhclckagaaGreatDoorPR48
set_option maxRecDepth 100000
open Go.Proofs.Tryz
namespace Go.Proofs.YtcplmkhclckagaaGreatDoor
section
open Go.RowKit Go.Shelf Go.Lib Go.Maps Go.ChangeShapes Go.WideShapes Go.ChangeAt Go.WideMaps Go.WideElems
theorem builds(es:Nat->Addr):Builds es Af.actO CAt (BuAt es) where
 same:=fun S W W' v cv d h _ hb=>by
  obtain⟨bb,bm,n,L,e,hc,hS,h⟩:=h;exact⟨bb,bm,n,L,e,hc,hS,h.same fun j hj=>hb j ((hS j).2 hj)⟩
 lt:=fun S W v cv d h k hk=>by
  obtain⟨bb,bm,n,L,e,hc,hS,h⟩:=h;exact h.lt k ((hS k).1 hk)
 noTree:=fun W lv l ov outs cv hW _ _=>Yap hW lv ov cv
 new:=fun W B tb fs o lv l ov outs cv hW hT _ _ _ hrow hl hS hout hol _ hcv=>Ztq hW hT lv l hrow (by omega) hS ov outs hout (by omega) cv hcv
 ready:=fun S W p cv d h hl=>by
  obtain⟨bb,bm,n,L,e,hc,hS,h⟩:=h;cases e
  exact Zdd h (by omega)
 state:=fun S W p cv d i h _ h0 h1=>by
  obtain⟨bb,bm,n,L,e,hc,hS,h⟩:=h;cases e
  exact Znr h i h0 h1
 result:=fun S W p cv d i h _ h0 h1=>by
  obtain⟨bb,bm,n,L,e,hc,hS,h⟩:=h;cases e
  exact Zkm h i h0 h1
 count:=fun S W p cv d h hl=>by
  obtain⟨bb,bm,n,L,e,hc,hS,h⟩:=h;cases e
  exact Zga h (by omega)
 run:=fun B S SC W p cv d c i h hC hap hW hSB hSC hf hS hfit hcf h0 h1=>by
  obtain⟨bb,bm,n,L,e,hc,hB,h⟩:=h;cases e
  refine(Zjn h hC (fun j hj=>hap j ((hB j).2 hj)) hW hSC hS hfit hcf i h0 h1).mono ?_
  rintro e w' ⟨rfl,hM,hO,SC',hC',hSC'⟩;have hdom:∀ j,BBlk bb bm (Bf.run Af.actO c d i).d L j↔BBlk bb bm d L j:=fun j=>by
   have:(Bf.run Af.actO c d i).d.dom=d.dom:=by
    unfold Bf.run;split
    ·rfl
    ·unfold Bf.runN;split
     ·rfl
     ·split
      ·rfl
      ·split
       ·rfl
       ·rename_i h5
        exact dom_go c d (by simpa using h5)
   unfold BBlk;rw[this]
  have hlt:=h.lt;refine⟨rfl,⟨hO.os,hO.tape,hO.output,hO.size,fun j hj hn=>hO.block j hj fun e=>hn (e.imp_left (hB j).2)⟩,S,SC',⟨bb,bm,n,L,rfl,hc,fun j=>(hB j).trans (hdom j).symm,hM⟩,hC',fun j hj hx=> ?_,fun j hj=>.inl hj,hSC'⟩
  rcases hSC' j hx with h2 | h2
  ·exact hap j hj h2
  ·have:=hlt j ((hB j).1 hj);omega
 all:=fun B S SC W p cv d c h hC hap hW hSB hSC hf hS hfit hcf=>by
  obtain⟨bb,bm,n,L,e,hc,hB,h⟩:=h;cases e
  obtain⟨h40,_⟩:=Ru.fault_ok hf;refine(Ztr h hC (fun j hj=>hap j ((hB j).2 hj)) hW (fun j hj=>hSB j ((hB j).2 hj)) hSC hS (by omega) hfit hcf).mono ?_
  rintro e w' ⟨rfl,hM,hO,SC',hC',hSC'⟩;have hdom:∀ j,BBlk bb bm (Bf.all Af.actO c d).1 L j↔BBlk bb bm d L j:=fun j=>by
   have key:∀(f:Nat) (c:Bf.Ca) (d:Bf.Bd),(Bf.allF Af.actO f c d).1.dom=d.dom:=fun f=>by
    induction f with
    | zero=>exact fun _ _=>rfl
    | succ f ih =>
     intro c d
     unfold Bf.allF;cases hq:d.ready with
     | nil=>rfl
     | cons i q =>
      have hm:=Bf.mem_ready.1 (show i∈d.ready by rw[hq];simp)
      exact(ih _ _).trans (dom_go c d hm.2)
   unfold BBlk;rw[show(Bf.all Af.actO c d).1.dom=d.dom from key _ c d]
  have hlt:=h.lt;refine⟨rfl,⟨hO.os,hO.tape,hO.output,hO.size,fun j hj hn=>hO.block j hj fun e=>hn (e.imp_left (hB j).2)⟩,S,SC',⟨bb,bm,n,L,rfl,hc,fun j=>(hB j).trans (hdom j).symm,hM⟩,hC',fun j hj hx=> ?_,fun j hj=>.inl hj,hSC'⟩
  rcases hSC' j hx with h2 | h2
  ·exact hap j hj h2
  ·have:=hlt j ((hB j).1 hj);omega
theorem E12.terr{w:World}{es:Nat->Addr}(h:E12 w es):TErr w (erOf es) :=
 ⟨h.c1,h.c2,h.c3,h.c5,h.c6,h.c7,fun _=>⟨_,_,rfl⟩,rfl⟩
theorem big_of{W:World}(h:W.ShapedOpen prog):20<W.heap.size:=by
 have h0:(((begin prog (fun _ _=>0) default).world.heap[20]?).bind Obj.row?).isSome=true:=by kernel_rfl
 obtain⟨⟨zero,t⟩,hz⟩:=Option.isSome_iff_exists.1 h0;obtain⟨cs,hh,_⟩:=h.1 20 zero t (of_decide_eq_true (by kernel_rfl)) hz
 exact(Array.getElem?_eq_some_iff.1 hh).1
end
namespace EL
open Go.ChangeShapes Go.WideShapes Go.ChangeAt Go.WideMaps Go.WideElems Go.RowKit
abbrev sd(text:List UInt8):DataW Unit:=.iface "*errors.errorString" (.ptr (.agg [.lit (.string text)]))
theorem Zfj{W:World}(r:List (String×DataW Unit)):∀(L:List (String×List UInt8×Nat)) (ps:List MemPlace),
  DataW.LaidVars prog W (L.map (fun x=>(x.1,sd x.2.1))++r) ps ->
  (∀ x∈L,prog.globalNamed x.1=some x.2.2/\(prog.globals[x.2.2]?).map (·.type)=some 44)->ps.Nodup ->
  (∀ b off,MemPlace.cell b off∈ps->(∃ c t,W.heap[b]? =some (.cells c t (0,0)))/\∀ u v,W.cell? ⟨b,off,none⟩=some (.iface u v)->Value.okWide prog W .any 0 u v) ->
  ∃ ads:List Addr,ads.length=L.length/\ads.Nodup/\(∀ a∈ads,MemPlace.cell a.block a.off∈ps)/\∀(k:Nat) x a,L[k]? =some x->ads[k]? =some a->W.cell? ⟨x.2.2,0,none⟩=some (.iface 374 (.pointer (some a)))
 | [],ps,_,_,_,_=>⟨[],rfl,List.nodup_nil,by simp,by simp⟩
 | x::L,ps,h,hg,hnd,hrows=>by
  obtain⟨g0,t0,cs0,f0,p0,q0,hg0,ht0,hv0,hd0,hq0,e0⟩:=h;obtain⟨hgx,htx⟩:=hg x (by simp)
  obtain rfl:=Option.some.inj (hgx.symm.trans hg0);obtain rfl:=Option.some.inj (htx.symm.trans ht0);subst e0;obtain⟨l0⟩:=cs0;have ok0:∀ u v,l0=[.iface u v]->Value.okWide prog W .any 0 u v:=fun u v e=>by
   subst e;exact(hrows x.2.2 0 (by simp[MemPlace.row])).2 u v (by simpa using World.var?_cell hg0 hv0 0)
  obtain⟨a0,s0,rfl,hc0,hs0,hz0,rfl⟩:=errorString_of_trod underlying44 TL.rowES underlying374 underlying376 rfl rfl underlying9 TL.cellsES TL.cellsStr hd0 ok0;obtain⟨ads,hl,hn,hin,hc⟩:=Zfj r L q0 hq0 (fun y hy=>hg y (by simp[hy])) (List.Nodup.sublist (List.sublist_append_right _ _) hnd) (fun b off hm=>hrows b off (List.mem_append_right _ hm))
  refine⟨a0::ads,by simp[hl],List.nodup_cons.2 ⟨fun hm=> ?_,hn⟩,?_,?_⟩
  ·have h1:=hin a0 hm;rw[List.nodup_append]at hnd;exact hnd.2.2 _ (by simp[MemPlace.row]) _ h1 rfl
  ·intro a ha
   rcases List.mem_cons.1 ha with rfl | ha
   ·simp[MemPlace.row]
   ·exact List.mem_append_right _ (hin a ha)
  ·intro k y a hy ha
   cases k with
   | zero =>
    simp at hy ha;subst hy ha;simpa using World.var?_cell hg0 hv0 0
   | succ k=>exact hc k y a (by simpa using hy) (by simpa using ha)
def textOf:DataW Unit->List UInt8
 | .iface _ (.ptr (.agg [.lit (.string t)]))=>t
 | _=>[]
def g12:List Nat:=[1,0,2,3,4,5,6,7,8,9,10,11]
def sents(l:List (String×DataW Unit)):List (String×List UInt8×Nat):=(l.zip g12).map fun x=>(x.1.1,textOf x.1.2,x.2)
def twelve:List (String×List UInt8×Nat):=sents ((Rows.playRunsRow.laid.drop 5).take 12)
theorem Zjy:∀ x∈twelve,prog.globalNamed x.1=some x.2.2/\(prog.globals[x.2.2]?).map (·.type)=some 44:=by
 have h:(twelve.all fun x=>prog.globalNamed x.1==some x.2.2&&(prog.globals[x.2.2]?).map (·.type)==some 44)=true:=by kernel_rfl
 intro x hx
 have:=List.all_eq_true.1 h x hx;simpa using this
theorem Zvn:twelve.map (·.2.2)=g12:=by kernel_rfl
theorem et:prog.globalNamed "errors.errorType" =some 12:=by kernel_rfl
theorem rt:(prog.cutTypes.find? (·.1 == "internal/reflectlite.rtype")).map (·.2)=some 218:=by kernel_rfl
theorem oneRow:((List.range 405).filter fun t=>prog.rowNamed t [101,114,114,111,114])=[44]:=by kernel_rfl
theorem Zyc:prog.types.size=405:=by kernel_rfl
variable {W:World}
theorem handle_of{l:List (String×DataW Unit)}(h:handlesMet prog l W)(hm:("errors.errorType", Rows.laid_errors_errorType)∈l):
  W.cell? ⟨12,0,none⟩=some (.iface 218 (.agg #[.pointer (some ⟨21,44,none⟩)])):=by
 obtain⟨name,u,ty,e1,e2,e3,e4,e5⟩:=h _ hm;have en:name=[101,114,114,111,114]:=(Option.some.inj e1).symm;subst en;obtain rfl:=Option.some.inj (rt.symm.trans e2);have hm:ty∈(List.range 405).filter fun t=>prog.rowNamed t [101,114,114,111,114]:=List.mem_filter.2 ⟨List.mem_range.2 (by rw[<- Zyc];exact e3),e4⟩
 rw[oneRow]at hm;obtain rfl:=List.mem_singleton.1 hm;have hh:typeHandle prog 44=.pointer (some ⟨21,44,none⟩):=by kernel_rfl
 rw[hh]at e5;simpa using World.var?_cell et e5 0
theorem e12_of{r:List (String×DataW Unit)}(h:laidMet prog (twelve.map (fun x=>(x.1,sd x.2.1))++r) W) 
  (ht:W.cell? ⟨12,0,none⟩=some (.iface 218 (.agg #[.pointer (some ⟨21,44,none⟩)]))):∃ es,E12 W es:=by
 obtain⟨ps,hv,hnd,hrows⟩:=h;obtain⟨l,hl,hn,hin,hc⟩:=Zfj r twelve ps hv Zjy hnd hrows;have h12:l.length=12:=by rw[hl];kernel_rfl
 have hcell:∀(k:Nat) (hk:k<12),W.cell? ⟨g12.getD k 0,0,none⟩=some (.iface 374 (.pointer (some (l.getD k ⟨0,0,none⟩)))):=by
  intro k hk
  have h1:k<twelve.length:=by rw[<- hl,h12];exact hk
  have h2:k<l.length:=by omega
  have:=hc k twelve[k] l[k] (List.getElem?_eq_getElem h1) (List.getElem?_eq_getElem h2)
  have e:g12.getD k 0=twelve[k].2.2:=by
   rw[<- Zvn,List.getD_eq_getElem?_getD,List.getElem?_map,List.getElem?_eq_getElem h1];rfl
  rw[e,List.getD_eq_getElem?_getD,List.getElem?_eq_getElem h2]
  exact this
 refine⟨fun k=>l.getD k ⟨0,0,none⟩,hcell 0 (by omega),hcell 1 (by omega),hcell 2 (by omega),hcell 3 (by omega),hcell 4 (by omega),hcell 5 (by omega),hcell 6 (by omega),hcell 7 (by omega),hcell 8 (by omega),hcell 9 (by omega),hcell 10 (by omega),hcell 11 (by omega),ht,?_,?_⟩
 ·intro k hk
  have h2:k<l.length:=by omega
  have:l.getD k ⟨0,0,none⟩∈l:=by
   rw[List.getD_eq_getElem?_getD,List.getElem?_eq_getElem h2];exact List.getElem_mem h2
  exact(hrows _ _ (hin _ this)).1
 ·intro j k hj hk hne e
  have h1:j<l.length:=by omega
  have h2:k<l.length:=by omega
  simp only[List.getD_eq_getElem?_getD,List.getElem?_eq_getElem h1,List.getElem?_eq_getElem h2,Option.getD_some]at e
  exact hne ((List.getElem_inj hn).1 e)
theorem laidMet_drop{P:Program}{W:World}{r:List (String×DataW Unit)}:∀ l:List (String×DataW Unit),laidMet P (l++r) W->laidMet P r W
 | [],h=>h
 | _::l,h=>laidMet_drop l h.tail
theorem laidMet_layAll{P:Program}{w0:World}{laid:List (String×DataW Unit)}(args:Array Value) 
  (hf:w0.layFits P laid []=true) (hi:w0.layIfaces P laid (w0.layVars P laid)=true) :
  laidMet P laid ((w0.layVars P laid).forCall (fun _ _=>0) ⟨#[],args,[]⟩).memory:=by
 have e1:(laid.filter fun x=>(laid.map (·.1)).contains x.1)=laid:=List.filter_eq_self.2 fun x hx=>List.contains_iff_mem.2 (List.mem_map.2 ⟨x,hx,rfl⟩)
 have e2:(laid.filter fun x=> !(laid.map (·.1)).contains x.1)=[]:=List.filter_eq_nil_iff.2 fun x hx=>by rw[List.contains_iff_mem.2 (List.mem_map.2 ⟨x,hx,rfl⟩)];simp
 have h:laidMet P laid (w0.layVars P laid):=laidMet_layVars (w0:=w0) (laid.map (·.1)) [] (by rw[e1]) (by rw[e1];exact hf) (by rw[e1];exact hi) (by rw[e2];exact LaidIn.none)
 exact h.of_heap (by simp[World.memory,World.forCall,Input.heap])
end EL
