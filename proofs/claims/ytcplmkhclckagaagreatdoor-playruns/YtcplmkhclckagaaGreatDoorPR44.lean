import Derived.Test.YtcplmkhclckagaaGreatDoorPR43
set_option maxRecDepth 100000
set_option maxHeartbeats 16000000
open Go.Proofs.Tryz
namespace Go.Proofs.YtcplmkhclckagaaGreatDoor
open Go.RowKit Go.Shelf Go.Lib
abbrev SL(g n:Nat):Value:=.slice (some ⟨g,0,none⟩) n n
def NFr(tbv lv vo cv:Value)(n:Nat)(v10 v16 v17 v18 v19 v20 v21 v22 v23 v24 v25 v26 v27 v28 v29:Value):Act :=
 { tmps:= #[tbv,lv,vo,cv,undef,undef,undef,undef,.pointer none,.int .i64 n,v10,undef,undef,undef,lv,.int .i64 n,v16,v17,v18,v19,v20,v21,v22,v23,v24,v25,v26,v27,v28,v29,undef,undef,undef,undef,undef,undef,undef,undef,undef,undef,undef,undef,undef,undef,undef,undef,undef,undef,undef,undef,undef,undef],defers:=[] }
variable {B tb:Nat}{w:World}{fs:Tf.Fs}
theorem RTreeAt.mono{B':Nat}{v:Value}(h:RTreeAt B w tb fs v)(hB:B'<=B):RTreeAt B' w tb fs v:=by
 refine⟨Nat.le_trans hB h.low,h.cell,h.free,⟨h.row.1,?_⟩,h.apart,h.nil⟩;rcases h.row.2 with h1 | ⟨g,cap,cur,e,h0,hg,h2⟩
 ·exact .inl h1
 ·exact .inr ⟨g,cap,cur,e,Nat.le_trans hB h0,hg,h2⟩
variable {W:World}{n:Nat}{e:TypeId}
theorem PlRow.made{g:Nat}{z:Value}(h:W.ownsRow B e 1 (.slice (some ⟨g,0,none⟩) n n) n (madeCells #[z] (n*1)).toList):PlRow W g n (fun _=>z):=by
 rw[Nat.mul_one,toList_madeCells_one]at h;rcases h.2 with ⟨e0,_⟩ | ⟨g',cap,cur,e0,_,hg,_⟩
 ·cases e0
 ·cases e0
  refine⟨(Array.getElem?_eq_some_iff.1 hg).1,fun j hj=>⟨?_,by simp[World.frozen?,hg]⟩⟩
  have:=h.cells (g:=g) rfl j z (by simp[hj])
  rw[Zdv,Nat.zero_add]at this;exact this
variable {P:Program} {ops:Array Oper} {Q:Exit->Act->World->Prop} {K:Act->World->Prop} {a:Act} {w:World}
theorem Zaq{i:Nat}{o:Oper}(ho:ops[i]? =some o)(hg:o.guard=none)(h:o.wp P a w K Q):wpOp P ops Q i K a w:=by
 unfold wpOp;rw[ho];simp only[Region.wanted,hg];exact .inl h
theorem wp_mv{o:Oper}{x:Operand}(ho:o.op=.move x\/o.op=.assign x)(h:K (a.put o.dst (a.eval x)) w):o.wp P a w K Q:=by
 unfold Oper.wp;have:(execOp a.eval o).run P w=.ok (.value (a.eval x)) w:=by
  rcases ho with ho | ho <;> simp[execOp,ho]
 rw[this];exact h
variable {t:TypeId}
theorem wp_mk{o:Oper}{l:Operand}{z:Value}{i:TypeInfo}(ho:o.op=.makeSlice t l l)(h1:P.underlying t=some (.slice e))(h2:P.info? e=some i)(h3:i.zero=some z)(h4:i.size=1)(hz:z.cells= #[z])(hl:a.eval l=.int .i64 n)(b2:i.bytes*n<=281474976710656)(b3:n<=maxLen)(b4:B<=w.heap.size) 
  (h:∀ w',PlRow w' w.heap.size n (fun _=>z)->Below w.heap.size w w'->w.heap.size<w'.heap.size->K (a.put o.dst (SL w.heap.size n)) w'):o.wp P a w K Q:=by
 obtain⟨w',hrun,r1,r2⟩:=run_make_full (P:=P) w B t e i z 1 h1 h2 h3 h4 .i64 .i64 n b2 b3 b4;rw[hz]at r1;have hp:=PlRow.made r1;unfold Oper.wp;simp[execOp,ho,hl,hrun,Result.andThen];exact h w' hp ⟨r2.os,r2.tape,r2.output,r2.size,fun j hj=>r2.block j hj (by simp)⟩ hp.1
theorem wp_fn{o:Oper}{f:FuncId}{x:Operand}{ts:Array TypeId}{R:Ending->World->Prop}(ho:o.op=.call { callee:=.value (.func f),args:= #[x],argTypes:=ts })(hen:Enters P f)(hc:Calls P f #[a.eval x] w R)(h:∀ e w',R e w'->∃ v,e=.returned v/\K (a.put o.dst v) w'):o.wp P a w K Q:=by
 unfold Oper.wp;have hr:(execOp a.eval o).run P w=.ok (.enter f #[a.eval x]) w:=by
  simp[execOp,ho,resolve,invoke,Act.eval];exact hen _ _
 rw[hr,Oper.upon_enter];refine hc.mono fun e w' he=> ?_
 obtain⟨v,rfl,hk⟩:=h e w' he;exact hk
variable {cells:Array Value}
theorem wp_bd{o:Oper}{parts:Array (Nat×Operand)}(ho:o.op=.build t parts)(hb:P.built t (parts.map fun q=>(q.1,a.eval q.2)).toList=some cells)(h:K (a.put o.dst (.agg cells)) w):o.wp P a w K Q:=by
 unfold Oper.wp;have hr:=run_build (P:=P) w t (parts.map fun q=>(q.1,a.eval q.2)) cells hb
 have:(execOp a.eval o).run P w=.ok (.value (.agg cells)) w:=by
  simp only[execOp,ho];first
   | (simp only[Sem.run_bind,hr,Result.andThen_ok,Sem.run_pure])
   | (simp[hr])
 rw[this];exact h
theorem wp_bx{o:Oper}{x:Operand}(ho:o.op=.box t x)(hx:a.eval x=.agg cells)(hr:(Instr.box t (.agg cells)).run P w=.ok (.pointer (some ⟨w.heap.size,0,none⟩)) (w.alloc (.cells cells t)))(h:K (a.put o.dst (.pointer (some ⟨w.heap.size,0,none⟩))) (w.alloc (.cells cells t))):o.wp P a w K Q:=by
 unfold Oper.wp;have:(execOp a.eval o).run P w=.ok (.value (.pointer (some ⟨w.heap.size,0,none⟩))) (w.alloc (.cells cells t)):=by
  simp only[execOp,ho,hx];first
   | (simp only[Sem.run_bind,hr,Result.andThen_ok,Sem.run_pure])
   | (simp[hr])
 rw[this];exact h
structure NB(w0:World)(tb:Nat)(fs:Tf.Fs)(p:Option Addr)(cap:Nat)(cp:Option Addr)(n:Nat)(F:Nat->Bool)(w:World)(tb':Nat)(tv':Value)(gs go gh gw mb:Nat)(v10 v16 v17 v18 v19 v20 v21 v22 v23 v24 v25 v26 v27 v28 v29:Value):Prop where
 base:Below w0.heap.size w0 w
 a16:F 0=true->v16=Ptr tb
 a18:F 2=true->v18=.slice p n cap
 a19:F 3=true->v19=.int .i64 n
 a21:F 5=true->v21=.int .i64 n
 a23:F 7=true->v23=.int .i64 n
 a25:F 9=true->v25=.int .i64 n
 a27:F 11=true->v27=.pointer cp
 tr:F 1=true->v17=Ptr tb'/\RTreeAt w0.heap.size w tb' fs tv'
 s:F 4=true->v20=SL gs n/\w0.heap.size<=gs/\PlRow w gs n (fun _=>.string ⟨#[]⟩)
 o:F 6=true->v22=SL go n/\w0.heap.size<=go/\PlRow w go n (fun _=>.string ⟨#[]⟩)
 h:F 8=true->v24=SL gh n/\w0.heap.size<=gh/\PlRow w gh n (fun _=>.bool false)
 y:F 10=true->v26=SL gw n/\w0.heap.size<=gw/\PlRow w gw n (fun _=>.int .i64 0)
 d1:F 4=true->F 6=true->gs≠go
 d2:F 4=true->F 8=true->gs≠gh
 d3:F 4=true->F 10=true->gs≠gw
 d4:F 6=true->F 8=true->go≠gh
 d5:F 6=true->F 10=true->go≠gw
 d6:F 8=true->F 10=true->gh≠gw
 e1:F 1=true->F 4=true->∀ j,(j=tb'\/some j=tv'.ownBlock)->j≠gs
 e2:F 1=true->F 6=true->∀ j,(j=tb'\/some j=tv'.ownBlock)->j≠go
 e3:F 1=true->F 8=true->∀ j,(j=tb'\/some j=tv'.ownBlock)->j≠gh
 e4:F 1=true->F 10=true->∀ j,(j=tb'\/some j=tv'.ownBlock)->j≠gw
 c12:F 12=true->F 1=true/\F 2=true/\F 4=true/\F 6=true/\F 8=true/\F 10=true/\F 11=true
 c13:F 13=true->F 12=true
 c14:F 14=true->F 13=true
 b:F 12=true->v28=.agg #[v17,v18,v20,v22,v24,v26,v27]
 x:F 13=true->v29=.pointer (some ⟨mb,0,none⟩)/\w0.heap.size<=mb/\mb<w.heap.size/\(w.cell? ⟨mb,0,none⟩=some v17/\w.cell? ⟨mb,1,none⟩=some v18/\w.cell? ⟨mb,2,none⟩=some v20/\w.cell? ⟨mb,3,none⟩=some v22/\w.cell? ⟨mb,4,none⟩=some v24/\w.cell? ⟨mb,5,none⟩=some v26/\w.cell? ⟨mb,6,none⟩=some v27)/\mb≠gs/\mb≠go/\mb≠gh/\mb≠gw
 z:F 14=true->v10=v29
variable {w0:World} {tb:Nat} {fs:Tf.Fs} {p:Option Addr} {cap:Nat} {cp:Option Addr} {n:Nat} {F:Nat->Bool} {w w':World} {tb':Nat} {tv':Value} {gs go gh gw mb:Nat} {v10 v16 v17 v18 v19 v20 v21 v22 v23 v24 v25 v26 v27 v28 v29:Value}
theorem NB.world(h:NB w0 tb fs p cap cp n F w tb' tv' gs go gh gw mb v10 v16 v17 v18 v19 v20 v21 v22 v23 v24 v25 v26 v27 v28 v29)(hb:Below w.heap.size w w'):NB w0 tb fs p cap cp n F w' tb' tv' gs go gh gw mb v10 v16 v17 v18 v19 v20 v21 v22 v23 v24 v25 v26 v27 v28 v29 :=
 { h with
  base:=h.base.trans (hb.mono h.base.size)
  tr:=fun f=>⟨(h.tr f).1,(h.tr f).2.below hb⟩
  s:=fun f=>⟨(h.s f).1,(h.s f).2.1,(h.s f).2.2.same hb.size (hb.block _ (h.s f).2.2.1)⟩
  o:=fun f=>⟨(h.o f).1,(h.o f).2.1,(h.o f).2.2.same hb.size (hb.block _ (h.o f).2.2.1)⟩
  h:=fun f=>⟨(h.h f).1,(h.h f).2.1,(h.h f).2.2.same hb.size (hb.block _ (h.h f).2.2.1)⟩
  y:=fun f=>⟨(h.y f).1,(h.y f).2.1,(h.y f).2.2.same hb.size (hb.block _ (h.y f).2.2.1)⟩
  x:=fun f=>by
   obtain⟨h1,h2,h3,⟨c0,c1,c2,c3,c4,c5,c6⟩,h4⟩:=h.x f;exact⟨h1,h2,Nat.lt_of_lt_of_le h3 hb.size,⟨Zaa c0 hb,Zaa c1 hb,Zaa c2 hb,Zaa c3 hb,Zaa c4 hb,Zaa c5 hb,Zaa c6 hb⟩,h4⟩ }
theorem NB.step0(h:NB w0 tb fs p cap cp n F w tb' tv' gs go gh gw mb v10 v16 v17 v18 v19 v20 v21 v22 v23 v24 v25 v26 v27 v28 v29):NB w0 tb fs p cap cp n (setF F 0) w tb' tv' gs go gh gw mb v10 (Ptr tb) v17 v18 v19 v20 v21 v22 v23 v24 v25 v26 v27 v28 v29:=by
 exact {
  base:=h.base
  a16:=fun _=>rfl
  a18:=h.a18
  a19:=h.a19
  a21:=h.a21
  a23:=h.a23
  a25:=h.a25
  a27:=h.a27
  tr:=h.tr
  s:=h.s
  o:=h.o
  h:=h.h
  y:=h.y
  d1:=h.d1
  d2:=h.d2
  d3:=h.d3
  d4:=h.d4
  d5:=h.d5
  d6:=h.d6
  e1:=h.e1
  e2:=h.e2
  e3:=h.e3
  e4:=h.e4
  c12:=h.c12
  c13:=h.c13
  c14:=h.c14
  b:=h.b
  x:=h.x
  z:=h.z
 }
theorem NB.step3(h:NB w0 tb fs p cap cp n F w tb' tv' gs go gh gw mb v10 v16 v17 v18 v19 v20 v21 v22 v23 v24 v25 v26 v27 v28 v29):NB w0 tb fs p cap cp n (setF F 3) w tb' tv' gs go gh gw mb v10 v16 v17 v18 (.int .i64 n) v20 v21 v22 v23 v24 v25 v26 v27 v28 v29:=by
 exact {
  base:=h.base
  a16:=h.a16
  a18:=h.a18
  a19:=fun _=>rfl
  a21:=h.a21
  a23:=h.a23
  a25:=h.a25
  a27:=h.a27
  tr:=h.tr
  s:=h.s
  o:=h.o
  h:=h.h
  y:=h.y
  d1:=h.d1
  d2:=h.d2
  d3:=h.d3
  d4:=h.d4
  d5:=h.d5
  d6:=h.d6
  e1:=h.e1
  e2:=h.e2
  e3:=h.e3
  e4:=h.e4
  c12:=h.c12
  c13:=h.c13
  c14:=h.c14
  b:=h.b
  x:=h.x
  z:=h.z
 }
theorem NB.step5(h:NB w0 tb fs p cap cp n F w tb' tv' gs go gh gw mb v10 v16 v17 v18 v19 v20 v21 v22 v23 v24 v25 v26 v27 v28 v29):NB w0 tb fs p cap cp n (setF F 5) w tb' tv' gs go gh gw mb v10 v16 v17 v18 v19 v20 (.int .i64 n) v22 v23 v24 v25 v26 v27 v28 v29:=by
 exact {
  base:=h.base
  a16:=h.a16
  a18:=h.a18
  a19:=h.a19
  a21:=fun _=>rfl
  a23:=h.a23
  a25:=h.a25
  a27:=h.a27
  tr:=h.tr
  s:=h.s
  o:=h.o
  h:=h.h
  y:=h.y
  d1:=h.d1
  d2:=h.d2
  d3:=h.d3
  d4:=h.d4
  d5:=h.d5
  d6:=h.d6
  e1:=h.e1
  e2:=h.e2
  e3:=h.e3
  e4:=h.e4
  c12:=h.c12
  c13:=h.c13
  c14:=h.c14
  b:=h.b
  x:=h.x
  z:=h.z
 }
theorem NB.step7(h:NB w0 tb fs p cap cp n F w tb' tv' gs go gh gw mb v10 v16 v17 v18 v19 v20 v21 v22 v23 v24 v25 v26 v27 v28 v29):NB w0 tb fs p cap cp n (setF F 7) w tb' tv' gs go gh gw mb v10 v16 v17 v18 v19 v20 v21 v22 (.int .i64 n) v24 v25 v26 v27 v28 v29:=by
 exact {
  base:=h.base
  a16:=h.a16
  a18:=h.a18
  a19:=h.a19
  a21:=h.a21
  a23:=fun _=>rfl
  a25:=h.a25
  a27:=h.a27
  tr:=h.tr
  s:=h.s
  o:=h.o
  h:=h.h
  y:=h.y
  d1:=h.d1
  d2:=h.d2
  d3:=h.d3
  d4:=h.d4
  d5:=h.d5
  d6:=h.d6
  e1:=h.e1
  e2:=h.e2
  e3:=h.e3
  e4:=h.e4
  c12:=h.c12
  c13:=h.c13
  c14:=h.c14
  b:=h.b
  x:=h.x
  z:=h.z
 }
theorem NB.step9(h:NB w0 tb fs p cap cp n F w tb' tv' gs go gh gw mb v10 v16 v17 v18 v19 v20 v21 v22 v23 v24 v25 v26 v27 v28 v29):NB w0 tb fs p cap cp n (setF F 9) w tb' tv' gs go gh gw mb v10 v16 v17 v18 v19 v20 v21 v22 v23 v24 (.int .i64 n) v26 v27 v28 v29:=by
 exact {
  base:=h.base
  a16:=h.a16
  a18:=h.a18
  a19:=h.a19
  a21:=h.a21
  a23:=h.a23
  a25:=fun _=>rfl
  a27:=h.a27
  tr:=h.tr
  s:=h.s
  o:=h.o
  h:=h.h
  y:=h.y
  d1:=h.d1
  d2:=h.d2
  d3:=h.d3
  d4:=h.d4
  d5:=h.d5
  d6:=h.d6
  e1:=h.e1
  e2:=h.e2
  e3:=h.e3
  e4:=h.e4
  c12:=h.c12
  c13:=h.c13
  c14:=h.c14
  b:=h.b
  x:=h.x
  z:=h.z
 }
theorem NB.step2(h:NB w0 tb fs p cap cp n F w tb' tv' gs go gh gw mb v10 v16 v17 v18 v19 v20 v21 v22 v23 v24 v25 v26 v27 v28 v29)(hF:F 2=false):NB w0 tb fs p cap cp n (setF F 2) w tb' tv' gs go gh gw mb v10 v16 v17 (.slice p n cap) v19 v20 v21 v22 v23 v24 v25 v26 v27 v28 v29:=by
 have no12:∀ {k:Nat},(k=1\/k=2\/k=4\/k=6\/k=8\/k=10\/k=11)->F k=false->F 12=true->False:=fun {k} hk hf h12=>by
  obtain⟨a1,a2,a3,a4,a5,a6,a7⟩:=h.c12 h12;rcases hk with rfl | rfl | rfl | rfl | rfl | rfl | rfl <;> simp_all
 exact {
  base:=h.base
  a16:=h.a16
  a18:=fun _=>rfl
  a19:=h.a19
  a21:=h.a21
  a23:=h.a23
  a25:=h.a25
  a27:=h.a27
  tr:=h.tr
  s:=h.s
  o:=h.o
  h:=h.h
  y:=h.y
  d1:=h.d1
  d2:=h.d2
  d3:=h.d3
  d4:=h.d4
  d5:=h.d5
  d6:=h.d6
  e1:=h.e1
  e2:=h.e2
  e3:=h.e3
  e4:=h.e4
  c12:=fun f=>(no12 (k:=2) (by simp) hF f).elim
  c13:=h.c13
  c14:=h.c14
  b:=fun f=>(no12 (k:=2) (by simp) hF f).elim
  x:=fun f=>(no12 (k:=2) (by simp) hF (h.c13 f)).elim
  z:=h.z
 }
theorem NB.step11(h:NB w0 tb fs p cap cp n F w tb' tv' gs go gh gw mb v10 v16 v17 v18 v19 v20 v21 v22 v23 v24 v25 v26 v27 v28 v29)(hF:F 11=false):NB w0 tb fs p cap cp n (setF F 11) w tb' tv' gs go gh gw mb v10 v16 v17 v18 v19 v20 v21 v22 v23 v24 v25 v26 (.pointer cp) v28 v29:=by
 have no12:∀ {k:Nat},(k=1\/k=2\/k=4\/k=6\/k=8\/k=10\/k=11)->F k=false->F 12=true->False:=fun {k} hk hf h12=>by
  obtain⟨a1,a2,a3,a4,a5,a6,a7⟩:=h.c12 h12;rcases hk with rfl | rfl | rfl | rfl | rfl | rfl | rfl <;> simp_all
 exact {
  base:=h.base
  a16:=h.a16
  a18:=h.a18
  a19:=h.a19
  a21:=h.a21
  a23:=h.a23
  a25:=h.a25
  a27:=fun _=>rfl
  tr:=h.tr
  s:=h.s
  o:=h.o
  h:=h.h
  y:=h.y
  d1:=h.d1
  d2:=h.d2
  d3:=h.d3
  d4:=h.d4
  d5:=h.d5
  d6:=h.d6
  e1:=h.e1
  e2:=h.e2
  e3:=h.e3
  e4:=h.e4
  c12:=fun f=>(no12 (k:=11) (by simp) hF f).elim
  c13:=h.c13
  c14:=h.c14
  b:=fun f=>(no12 (k:=11) (by simp) hF f).elim
  x:=fun f=>(no12 (k:=11) (by simp) hF (h.c13 f)).elim
  z:=h.z
 }
theorem NB.step4(h:NB w0 tb fs p cap cp n F w tb' tv' gs go gh gw mb v10 v16 v17 v18 v19 v20 v21 v22 v23 v24 v25 v26 v27 v28 v29)(hF:F 4=false){w1:World}(hb:Below w.heap.size w w1)(hp:PlRow w1 w.heap.size n (fun _=>.string ⟨#[]⟩)):NB w0 tb fs p cap cp n (setF F 4) w1 tb' tv' w.heap.size go gh gw mb v10 v16 v17 v18 v19 (SL w.heap.size n) v21 v22 v23 v24 v25 v26 v27 v28 v29:=by
 have no12:∀ {k:Nat},(k=1\/k=2\/k=4\/k=6\/k=8\/k=10\/k=11)->F k=false->F 12=true->False:=fun {k} hk hf h12=>by
  obtain⟨a1,a2,a3,a4,a5,a6,a7⟩:=h.c12 h12;rcases hk with rfl | rfl | rfl | rfl | rfl | rfl | rfl <;> simp_all
 have h0:=h;replace h:=h.world hb
 exact {
  base:=h.base
  a16:=h.a16
  a18:=h.a18
  a19:=h.a19
  a21:=h.a21
  a23:=h.a23
  a25:=h.a25
  a27:=h.a27
  tr:=h.tr
  s:=fun _=>⟨rfl,Nat.le_trans h0.base.size (Nat.le_refl _),hp⟩
  o:=h.o
  h:=h.h
  y:=h.y
  d1:=fun _ f e=>by have:=(h0.o f).2.2.1;omega
  d2:=fun _ f e=>by have:=(h0.h f).2.2.1;omega
  d3:=fun _ f e=>by have:=(h0.y f).2.2.1;omega
  d4:=h.d4
  d5:=h.d5
  d6:=h.d6
  e1:=fun f _ j hj e=>by
   have:=(h0.tr f).2.lt;rcases hj with h1 | h1
   ·omega
   ·have:=((h0.tr f).2.row.lt j h1.symm).2;omega
  e2:=h.e2
  e3:=h.e3
  e4:=h.e4
  c12:=fun f=>(no12 (k:=4) (by simp) hF f).elim
  c13:=h.c13
  c14:=h.c14
  b:=fun f=>(no12 (k:=4) (by simp) hF f).elim
  x:=fun f=>(no12 (k:=4) (by simp) hF (h.c13 f)).elim
  z:=h.z
 }
theorem NB.step6(h:NB w0 tb fs p cap cp n F w tb' tv' gs go gh gw mb v10 v16 v17 v18 v19 v20 v21 v22 v23 v24 v25 v26 v27 v28 v29)(hF:F 6=false){w1:World}(hb:Below w.heap.size w w1)(hp:PlRow w1 w.heap.size n (fun _=>.string ⟨#[]⟩)):NB w0 tb fs p cap cp n (setF F 6) w1 tb' tv' gs w.heap.size gh gw mb v10 v16 v17 v18 v19 v20 v21 (SL w.heap.size n) v23 v24 v25 v26 v27 v28 v29:=by
 have no12:∀ {k:Nat},(k=1\/k=2\/k=4\/k=6\/k=8\/k=10\/k=11)->F k=false->F 12=true->False:=fun {k} hk hf h12=>by
  obtain⟨a1,a2,a3,a4,a5,a6,a7⟩:=h.c12 h12;rcases hk with rfl | rfl | rfl | rfl | rfl | rfl | rfl <;> simp_all
 have h0:=h;replace h:=h.world hb
 exact {
  base:=h.base
  a16:=h.a16
  a18:=h.a18
  a19:=h.a19
  a21:=h.a21
  a23:=h.a23
  a25:=h.a25
  a27:=h.a27
  tr:=h.tr
  s:=h.s
  o:=fun _=>⟨rfl,Nat.le_trans h0.base.size (Nat.le_refl _),hp⟩
  h:=h.h
  y:=h.y
  d1:=fun f _ e=>by have:=(h0.s f).2.2.1;omega
  d2:=h.d2
  d3:=h.d3
  d4:=fun _ f e=>by have:=(h0.h f).2.2.1;omega
  d5:=fun _ f e=>by have:=(h0.y f).2.2.1;omega
  d6:=h.d6
  e1:=h.e1
  e2:=fun f _ j hj e=>by
   have:=(h0.tr f).2.lt;rcases hj with h1 | h1
   ·omega
   ·have:=((h0.tr f).2.row.lt j h1.symm).2;omega
  e3:=h.e3
  e4:=h.e4
  c12:=fun f=>(no12 (k:=6) (by simp) hF f).elim
  c13:=h.c13
  c14:=h.c14
  b:=fun f=>(no12 (k:=6) (by simp) hF f).elim
  x:=fun f=>(no12 (k:=6) (by simp) hF (h.c13 f)).elim
  z:=h.z
 }
theorem NB.step8(h:NB w0 tb fs p cap cp n F w tb' tv' gs go gh gw mb v10 v16 v17 v18 v19 v20 v21 v22 v23 v24 v25 v26 v27 v28 v29)(hF:F 8=false){w1:World}(hb:Below w.heap.size w w1)(hp:PlRow w1 w.heap.size n (fun _=>.bool false)):NB w0 tb fs p cap cp n (setF F 8) w1 tb' tv' gs go w.heap.size gw mb v10 v16 v17 v18 v19 v20 v21 v22 v23 (SL w.heap.size n) v25 v26 v27 v28 v29:=by
 have no12:∀ {k:Nat},(k=1\/k=2\/k=4\/k=6\/k=8\/k=10\/k=11)->F k=false->F 12=true->False:=fun {k} hk hf h12=>by
  obtain⟨a1,a2,a3,a4,a5,a6,a7⟩:=h.c12 h12;rcases hk with rfl | rfl | rfl | rfl | rfl | rfl | rfl <;> simp_all
 have h0:=h;replace h:=h.world hb
 exact {
  base:=h.base
  a16:=h.a16
  a18:=h.a18
  a19:=h.a19
  a21:=h.a21
  a23:=h.a23
  a25:=h.a25
  a27:=h.a27
  tr:=h.tr
  s:=h.s
  o:=h.o
  h:=fun _=>⟨rfl,Nat.le_trans h0.base.size (Nat.le_refl _),hp⟩
  y:=h.y
  d1:=h.d1
  d2:=fun f _ e=>by have:=(h0.s f).2.2.1;omega
  d3:=h.d3
  d4:=fun f _ e=>by have:=(h0.o f).2.2.1;omega
  d5:=h.d5
  d6:=fun _ f e=>by have:=(h0.y f).2.2.1;omega
  e1:=h.e1
  e2:=h.e2
  e3:=fun f _ j hj e=>by
   have:=(h0.tr f).2.lt;rcases hj with h1 | h1
   ·omega
   ·have:=((h0.tr f).2.row.lt j h1.symm).2;omega
  e4:=h.e4
  c12:=fun f=>(no12 (k:=8) (by simp) hF f).elim
  c13:=h.c13
  c14:=h.c14
  b:=fun f=>(no12 (k:=8) (by simp) hF f).elim
  x:=fun f=>(no12 (k:=8) (by simp) hF (h.c13 f)).elim
  z:=h.z
 }
theorem NB.step10(h:NB w0 tb fs p cap cp n F w tb' tv' gs go gh gw mb v10 v16 v17 v18 v19 v20 v21 v22 v23 v24 v25 v26 v27 v28 v29)(hF:F 10=false){w1:World}(hb:Below w.heap.size w w1)(hp:PlRow w1 w.heap.size n (fun _=>.int .i64 0)):NB w0 tb fs p cap cp n (setF F 10) w1 tb' tv' gs go gh w.heap.size mb v10 v16 v17 v18 v19 v20 v21 v22 v23 v24 v25 (SL w.heap.size n) v27 v28 v29:=by
 have no12:∀ {k:Nat},(k=1\/k=2\/k=4\/k=6\/k=8\/k=10\/k=11)->F k=false->F 12=true->False:=fun {k} hk hf h12=>by
  obtain⟨a1,a2,a3,a4,a5,a6,a7⟩:=h.c12 h12;rcases hk with rfl | rfl | rfl | rfl | rfl | rfl | rfl <;> simp_all
 have h0:=h;replace h:=h.world hb
 exact {
  base:=h.base
  a16:=h.a16
  a18:=h.a18
  a19:=h.a19
  a21:=h.a21
  a23:=h.a23
  a25:=h.a25
  a27:=h.a27
  tr:=h.tr
  s:=h.s
  o:=h.o
  h:=h.h
  y:=fun _=>⟨rfl,Nat.le_trans h0.base.size (Nat.le_refl _),hp⟩
  d1:=h.d1
  d2:=h.d2
  d3:=fun f _ e=>by have:=(h0.s f).2.2.1;omega
  d4:=h.d4
  d5:=fun f _ e=>by have:=(h0.o f).2.2.1;omega
  d6:=fun f _ e=>by have:=(h0.h f).2.2.1;omega
  e1:=h.e1
  e2:=h.e2
  e3:=h.e3
  e4:=fun f _ j hj e=>by
   have:=(h0.tr f).2.lt;rcases hj with h1 | h1
   ·omega
   ·have:=((h0.tr f).2.row.lt j h1.symm).2;omega
  c12:=fun f=>(no12 (k:=10) (by simp) hF f).elim
  c13:=h.c13
  c14:=h.c14
  b:=fun f=>(no12 (k:=10) (by simp) hF f).elim
  x:=fun f=>(no12 (k:=10) (by simp) hF (h.c13 f)).elim
  z:=h.z
 }
theorem NB.step1(h:NB w0 tb fs p cap cp n F w tb' tv' gs go gh gw mb v10 v16 v17 v18 v19 v20 v21 v22 v23 v24 v25 v26 v27 v28 v29)(hF:F 1=false){w1:World}(hb:Below w.heap.size w w1){tv1:Value}(ht:RTreeAt w.heap.size w1 w.heap.size fs tv1):NB w0 tb fs p cap cp n (setF F 1) w1 w.heap.size tv1 gs go gh gw mb v10 v16 (Ptr w.heap.size) v18 v19 v20 v21 v22 v23 v24 v25 v26 v27 v28 v29:=by
 have no12:∀ {k:Nat},(k=1\/k=2\/k=4\/k=6\/k=8\/k=10\/k=11)->F k=false->F 12=true->False:=fun {k} hk hf h12=>by
  obtain⟨a1,a2,a3,a4,a5,a6,a7⟩:=h.c12 h12;rcases hk with rfl | rfl | rfl | rfl | rfl | rfl | rfl <;> simp_all
 have h0:=h;replace h:=h.world hb
 exact {
  base:=h.base
  a16:=h.a16
  a18:=h.a18
  a19:=h.a19
  a21:=h.a21
  a23:=h.a23
  a25:=h.a25
  a27:=h.a27
  tr:=fun _=>⟨rfl,ht.mono h0.base.size⟩
  s:=h.s
  o:=h.o
  h:=h.h
  y:=h.y
  d1:=h.d1
  d2:=h.d2
  d3:=h.d3
  d4:=h.d4
  d5:=h.d5
  d6:=h.d6
  e1:=fun _ f j hj e=>by
   have:=(h0.s f).2.2.1;rcases hj with h1 | h1
   ·omega
   ·have:=(ht.row.lt j h1.symm).1;omega
  e2:=fun _ f j hj e=>by
   have:=(h0.o f).2.2.1;rcases hj with h1 | h1
   ·omega
   ·have:=(ht.row.lt j h1.symm).1;omega
  e3:=fun _ f j hj e=>by
   have:=(h0.h f).2.2.1;rcases hj with h1 | h1
   ·omega
   ·have:=(ht.row.lt j h1.symm).1;omega
  e4:=fun _ f j hj e=>by
   have:=(h0.y f).2.2.1;rcases hj with h1 | h1
   ·omega
   ·have:=(ht.row.lt j h1.symm).1;omega
  c12:=fun f=>(no12 (k:=1) (by simp) hF f).elim
  c13:=h.c13
  c14:=h.c14
  b:=fun f=>(no12 (k:=1) (by simp) hF f).elim
  x:=fun f=>(no12 (k:=1) (by simp) hF (h.c13 f)).elim
  z:=h.z
 }
theorem NB.step12(h:NB w0 tb fs p cap cp n F w tb' tv' gs go gh gw mb v10 v16 v17 v18 v19 v20 v21 v22 v23 v24 v25 v26 v27 v28 v29)(hd:F 1=true/\F 2=true/\F 4=true/\F 6=true/\F 8=true/\F 10=true/\F 11=true):NB w0 tb fs p cap cp n (setF F 12) w tb' tv' gs go gh gw mb v10 v16 v17 v18 v19 v20 v21 v22 v23 v24 v25 v26 v27 (.agg #[v17,v18,v20,v22,v24,v26,v27]) v29:=by
 exact {
  base:=h.base
  a16:=h.a16
  a18:=h.a18
  a19:=h.a19
  a21:=h.a21
  a23:=h.a23
  a25:=h.a25
  a27:=h.a27
  tr:=h.tr
  s:=h.s
  o:=h.o
  h:=h.h
  y:=h.y
  d1:=h.d1
  d2:=h.d2
  d3:=h.d3
  d4:=h.d4
  d5:=h.d5
  d6:=h.d6
  e1:=h.e1
  e2:=h.e2
  e3:=h.e3
  e4:=h.e4
  c12:=fun _=>hd
  c13:=fun _=>by unfold setF;rw[if_pos rfl]
  c14:=h.c14
  b:=fun _=>rfl
  x:=h.x
  z:=h.z
 }
theorem NB.step13(h:NB w0 tb fs p cap cp n F w tb' tv' gs go gh gw mb v10 v16 v17 v18 v19 v20 v21 v22 v23 v24 v25 v26 v27 v28 v29)(hF:F 13=false){w1:World}(hb:Below w.heap.size w w1)(hl:w.heap.size<w1.heap.size)(h12:F 12=true)(hc:w1.cell? ⟨w.heap.size,0,none⟩=some v17/\w1.cell? ⟨w.heap.size,1,none⟩=some v18/\w1.cell? ⟨w.heap.size,2,none⟩=some v20/\w1.cell? ⟨w.heap.size,3,none⟩=some v22/\w1.cell? ⟨w.heap.size,4,none⟩=some v24/\w1.cell? ⟨w.heap.size,5,none⟩=some v26/\w1.cell? ⟨w.heap.size,6,none⟩=some v27):NB w0 tb fs p cap cp n (setF F 13) w1 tb' tv' gs go gh gw w.heap.size v10 v16 v17 v18 v19 v20 v21 v22 v23 v24 v25 v26 v27 v28 (.pointer (some ⟨w.heap.size,0,none⟩)):=by
 have h0:=h;replace h:=h.world hb
 exact {
  base:=h.base
  a16:=h.a16
  a18:=h.a18
  a19:=h.a19
  a21:=h.a21
  a23:=h.a23
  a25:=h.a25
  a27:=h.a27
  tr:=h.tr
  s:=h.s
  o:=h.o
  h:=h.h
  y:=h.y
  d1:=h.d1
  d2:=h.d2
  d3:=h.d3
  d4:=h.d4
  d5:=h.d5
  d6:=h.d6
  e1:=h.e1
  e2:=h.e2
  e3:=h.e3
  e4:=h.e4
  c12:=h.c12
  c13:=fun _=>h12
  c14:=fun _=>by unfold setF;rw[if_pos rfl]
  b:=h.b
  x:=fun _=>by
   obtain⟨a1,a2,a3,a4,a5,a6,a7⟩:=h0.c12 h12;have l1:=(h0.s a3).2.2.1;have l2:=(h0.o a4).2.2.1;have l3:=(h0.h a5).2.2.1;have l4:=(h0.y a6).2.2.1;exact⟨rfl,h0.base.size,hl,hc,by omega,by omega,by omega,by omega⟩
  z:=fun f=>by have:=h.c14 f;rw[hF]at this;cases this
 }
theorem NB.step14(h:NB w0 tb fs p cap cp n F w tb' tv' gs go gh gw mb v10 v16 v17 v18 v19 v20 v21 v22 v23 v24 v25 v26 v27 v28 v29)(h13:F 13=true):NB w0 tb fs p cap cp n (setF F 14) w tb' tv' gs go gh gw mb v29 v16 v17 v18 v19 v20 v21 v22 v23 v24 v25 v26 v27 v28 v29:=by
 exact {
  base:=h.base
  a16:=h.a16
  a18:=h.a18
  a19:=h.a19
  a21:=h.a21
  a23:=h.a23
  a25:=h.a25
  a27:=h.a27
  tr:=h.tr
  s:=h.s
  o:=h.o
  h:=h.h
  y:=h.y
  d1:=h.d1
  d2:=h.d2
  d3:=h.d3
  d4:=h.d4
  d5:=h.d5
  d6:=h.d6
  e1:=h.e1
  e2:=h.e2
  e3:=h.e3
  e4:=h.e4
  c12:=h.c12
  c13:=h.c13
  c14:=fun _=>h13
  b:=h.b
  x:=h.x
  z:=fun _=>rfl
 }
variable {tv:Value}
theorem Zkw(h:RTreeAt B w tb fs tv)(hfs:fs.length<=1000)(p:Option Addr)(cap:Nat)(l:List Ru)(hrow:RRow w (.slice p l.length cap) l)(hn:l.length<=1000)(hI:∀ x∈l,x.ins.length<=1000000)(vo:Value)(outs:List (List UInt8))(hro:IRow w vo outs)(hno:outs.length<=1000)(hall:∀ j (hj:j<outs.length),∃ x∈l,x.out=outs[j])(cp:Option Addr):
  Calls prog 75 #[Ptr tb,.slice p l.length cap,vo,.pointer cp] w fun e w'=>∃ mb tb' tv' gs go gh gw,e=.returned (.pointer (some ⟨mb,0,none⟩))/\MB (.of w) w' mb tb' tv' (.slice p l.length cap) (.pointer cp) gs go gh gw (Bf.init fs l outs):=by
 have HNe:=hid1 fun(V:World) (g:Below w.heap.size w V)=>Zes (.slice p l.length cap) l (hrow.below g) hn hI vo outs (hro.below g) hno
 have HRow:=hid1 hrow;have HAll:=hid1 hall;clear hrow hro hall;go_enter func75,ntmps75
 go_wp2;refine wp_region_any (by kernel_rfl) ?_
 refine Zoi (n:=15) rfl ?dag (fun F a W=>∃ tb' tv' gs go gh gw mb v10 v16 v17 v18 v19 v20 v21 v22 v23 v24 v25 v26 v27 v28 v29,a=NFr (Ptr tb) (.slice p l.length cap) vo (.pointer cp) l.length v10 v16 v17 v18 v19 v20 v21 v22 v23 v24 v25 v26 v27 v28 v29/\NB w tb fs p cap cp l.length F W tb' tv' gs go gh gw mb v10 v16 v17 v18 v19 v20 v21 v22 v23 v24 v25 v26 v27 v28 v29) ?step ?fin _ _ _ _ (by simp) ?cnt ?ini
 case dag =>
  intro i o ho
  exact match i,ho with
  | 0,ho=>by
   obtain rfl:=Option.some.inj ho;decide
  | 1,ho=>by
   obtain rfl:=Option.some.inj ho;decide
  | 2,ho=>by
   obtain rfl:=Option.some.inj ho;decide
  | 3,ho=>by
   obtain rfl:=Option.some.inj ho;decide
  | 4,ho=>by
   obtain rfl:=Option.some.inj ho;decide
  | 5,ho=>by
   obtain rfl:=Option.some.inj ho;decide
  | 6,ho=>by
   obtain rfl:=Option.some.inj ho;decide
  | 7,ho=>by
   obtain rfl:=Option.some.inj ho;decide
  | 8,ho=>by
   obtain rfl:=Option.some.inj ho;decide
  | 9,ho=>by
   obtain rfl:=Option.some.inj ho;decide
  | 10,ho=>by
   obtain rfl:=Option.some.inj ho;decide
  | 11,ho=>by
   obtain rfl:=Option.some.inj ho;decide
  | 12,ho=>by
   obtain rfl:=Option.some.inj ho;decide
  | 13,ho=>by
   obtain rfl:=Option.some.inj ho;decide
  | 14,ho=>by
   obtain rfl:=Option.some.inj ho;decide
  | k+15,ho=>by simp at ho
 case cnt=>decide
 case ini =>
  refine⟨0,undef,0,0,0,0,0,undef,undef,undef,undef,undef,undef,undef,undef,undef,undef,undef,undef,undef,undef,undef,rfl,?_⟩;exact {
   base:=⟨rfl,rfl,rfl,Nat.le_refl _,fun _ _=>rfl⟩
   a16:=fun f=>by cases f
   a18:=fun f=>by cases f
   a19:=fun f=>by cases f
   a21:=fun f=>by cases f
   a23:=fun f=>by cases f
   a25:=fun f=>by cases f
   a27:=fun f=>by cases f
   tr:=fun f=>by cases f
   s:=fun f=>by cases f
   o:=fun f=>by cases f
   h:=fun f=>by cases f
   y:=fun f=>by cases f
   d1:=fun f=>by cases f
   d2:=fun f=>by cases f
   d3:=fun f=>by cases f
   d4:=fun f=>by cases f
   d5:=fun f=>by cases f
   d6:=fun f=>by cases f
   e1:=fun f=>by cases f
   e2:=fun f=>by cases f
   e3:=fun f=>by cases f
   e4:=fun f=>by cases f
   c12:=fun f=>by cases f
   c13:=fun f=>by cases f
   c14:=fun f=>by cases f
   b:=fun f=>by cases f
   x:=fun f=>by cases f
   z:=fun f=>by cases f
  }
 case step =>
  intro F a W i o ho hI hF hd
  obtain⟨tb',tv',gs,go,gh,gw,mb,v10,v16,v17,v18,v19,v20,v21,v22,v23,v24,v25,v26,v27,v28,v29,rfl,hN⟩:=hI;exact match i,ho,hF,hd with
  | 0,ho,hF,hd=>by
   obtain rfl:=Option.some.inj ho;refine Zaq rfl rfl (wp_mv (.inl rfl) ?_);exact⟨tb',tv',gs,go,gh,gw,mb,v10,Ptr tb,v17,v18,v19,v20,v21,v22,v23,v24,v25,v26,v27,v28,v29,rfl,hN.step0⟩
  | 1,ho,hF,hd=>by
   obtain rfl:=Option.some.inj ho;obtain rfl:=hN.a16 (hd { on:=0,ground:=Ground.data } (by simp) rfl)
   refine Zaq rfl rfl (wp_fn rfl (enters_of func110 (by kernel_rfl) rfl) (Zkx (h.below hN.base) hfs) ?_)
   rintro e w' ⟨tv1,rfl,ht,hb⟩;exact⟨_,rfl,⟨W.heap.size,tv1,gs,go,gh,gw,mb,v10,Ptr tb,Ptr W.heap.size,v18,v19,v20,v21,v22,v23,v24,v25,v26,v27,v28,v29,rfl,hN.step1 hF hb ht⟩⟩
  | 2,ho,hF,hd=>by
   obtain rfl:=Option.some.inj ho;refine Zaq rfl rfl (wp_mv (.inl rfl) ?_);exact⟨tb',tv',gs,go,gh,gw,mb,v10,v16,v17,.slice p l.length cap,v19,v20,v21,v22,v23,v24,v25,v26,v27,v28,v29,rfl,hN.step2 hF⟩
  | 3,ho,hF,hd=>by
   obtain rfl:=Option.some.inj ho;refine Zaq rfl rfl (wp_mv (.inl rfl) ?_);exact⟨tb',tv',gs,go,gh,gw,mb,v10,v16,v17,v18,.int .i64 l.length,v20,v21,v22,v23,v24,v25,v26,v27,v28,v29,rfl,hN.step3⟩
  | 4,ho,hF,hd=>by
   obtain rfl:=Option.some.inj ho;obtain⟨i0,hi,hz0,hz1,hz2⟩:=info_parts Tryz.infoStr;refine Zaq rfl rfl (wp_mk (B:=0) (n:=l.length) rfl underlying52 hi hz0 hz1 rfl (hN.a19 (hd { on:=3,ground:=Ground.data } (by simp) rfl)) (by rw[hz2];omega) (by unfold maxLen;omega) (Nat.zero_le _) ?_)
   intro w' hp hb _
   exact⟨tb',tv',W.heap.size,go,gh,gw,mb,v10,v16,v17,v18,v19,SL W.heap.size l.length,v21,v22,v23,v24,v25,v26,v27,v28,v29,rfl,hN.step4 hF hb hp⟩
  | 5,ho,hF,hd=>by
   obtain rfl:=Option.some.inj ho;refine Zaq rfl rfl (wp_mv (.inl rfl) ?_);exact⟨tb',tv',gs,go,gh,gw,mb,v10,v16,v17,v18,v19,v20,.int .i64 l.length,v22,v23,v24,v25,v26,v27,v28,v29,rfl,hN.step5⟩
  | 6,ho,hF,hd=>by
   obtain rfl:=Option.some.inj ho;obtain⟨i0,hi,hz0,hz1,hz2⟩:=info_parts Tryz.infoStr;refine Zaq rfl rfl (wp_mk (B:=0) (n:=l.length) rfl underlying52 hi hz0 hz1 rfl (hN.a21 (hd { on:=5,ground:=Ground.data } (by simp) rfl)) (by rw[hz2];omega) (by unfold maxLen;omega) (Nat.zero_le _) ?_)
   intro w' hp hb _
   exact⟨tb',tv',gs,W.heap.size,gh,gw,mb,v10,v16,v17,v18,v19,v20,v21,SL W.heap.size l.length,v23,v24,v25,v26,v27,v28,v29,rfl,hN.step6 hF hb hp⟩
  | 7,ho,hF,hd=>by
   obtain rfl:=Option.some.inj ho;refine Zaq rfl rfl (wp_mv (.inl rfl) ?_);exact⟨tb',tv',gs,go,gh,gw,mb,v10,v16,v17,v18,v19,v20,v21,v22,.int .i64 l.length,v24,v25,v26,v27,v28,v29,rfl,hN.step7⟩
  | 8,ho,hF,hd=>by
   obtain rfl:=Option.some.inj ho;obtain⟨i0,hi,hz0,hz1,hz2⟩:=info_parts Tryz.infoBool;refine Zaq rfl rfl (wp_mk (B:=0) (n:=l.length) rfl underlying139 hi hz0 hz1 rfl (hN.a23 (hd { on:=7,ground:=Ground.data } (by simp) rfl)) (by rw[hz2];omega) (by unfold maxLen;omega) (Nat.zero_le _) ?_)
   intro w' hp hb _
   exact⟨tb',tv',gs,go,W.heap.size,gw,mb,v10,v16,v17,v18,v19,v20,v21,v22,v23,SL W.heap.size l.length,v25,v26,v27,v28,v29,rfl,hN.step8 hF hb hp⟩
  | 9,ho,hF,hd=>by
   obtain rfl:=Option.some.inj ho;refine Zaq rfl rfl (wp_mv (.inl rfl) ?_);exact⟨tb',tv',gs,go,gh,gw,mb,v10,v16,v17,v18,v19,v20,v21,v22,v23,v24,.int .i64 l.length,v26,v27,v28,v29,rfl,hN.step9⟩
  | 10,ho,hF,hd=>by
   obtain rfl:=Option.some.inj ho;obtain⟨i0,hi,hz0,hz1,hz2⟩:=info_parts Tryz.infoInt;refine Zaq rfl rfl (wp_mk (B:=0) (n:=l.length) rfl underlying22 hi hz0 hz1 rfl (hN.a25 (hd { on:=9,ground:=Ground.data } (by simp) rfl)) (by rw[hz2];omega) (by unfold maxLen;omega) (Nat.zero_le _) ?_)
   intro w' hp hb _
   exact⟨tb',tv',gs,go,gh,W.heap.size,mb,v10,v16,v17,v18,v19,v20,v21,v22,v23,v24,v25,SL W.heap.size l.length,v27,v28,v29,rfl,hN.step10 hF hb hp⟩
  | 11,ho,hF,hd=>by
   obtain rfl:=Option.some.inj ho;refine Zaq rfl rfl (wp_mv (.inl rfl) ?_);exact⟨tb',tv',gs,go,gh,gw,mb,v10,v16,v17,v18,v19,v20,v21,v22,v23,v24,v25,v26,.pointer cp,v28,v29,rfl,hN.step11 hF⟩
  | 12,ho,hF,hd=>by
   obtain rfl:=Option.some.inj ho;have D1:=(hd { on:=1,ground:=Ground.data } (by simp) rfl)
   have D2:=(hd { on:=2,ground:=Ground.data } (by simp) rfl)
   have D4:=(hd { on:=4,ground:=Ground.data } (by simp) rfl)
   have D6:=(hd { on:=6,ground:=Ground.data } (by simp) rfl)
   have D8:=(hd { on:=8,ground:=Ground.data } (by simp) rfl)
   have D10:=(hd { on:=10,ground:=Ground.data } (by simp) rfl)
   have D11:=(hd { on:=11,ground:=Ground.data } (by simp) rfl)
   obtain rfl:=hN.a18 D2;obtain rfl:=hN.a27 D11;obtain⟨rfl,t2⟩:=hN.tr D1;obtain⟨rfl,s2⟩:=hN.s D4;obtain⟨rfl,o2⟩:=hN.o D6;obtain⟨rfl,h2⟩:=hN.h D8;obtain⟨rfl,y2⟩:=hN.y D10;refine Zaq rfl rfl (wp_bd (cells:= #[Ptr tb',.slice p l.length cap,SL gs l.length,SL go l.length,SL gh l.length,SL gw l.length,.pointer cp]) rfl (by kernel_rfl) ?_)
   exact⟨tb',tv',gs,go,gh,gw,mb,v10,v16,Ptr tb',.slice p l.length cap,v19,SL gs l.length,v21,SL go l.length,v23,SL gh l.length,v25,SL gw l.length,.pointer cp,_,v29,rfl,hN.step12 ⟨D1,D2,D4,D6,D8,D10,D11⟩⟩
  | 13,ho,hF,hd=>by
   obtain rfl:=Option.some.inj ho;have D12:=(hd { on:=12,ground:=Ground.data } (by simp) rfl)
   obtain⟨D1,D2,D4,D6,D8,D10,D11⟩:=hN.c12 D12;obtain rfl:=hN.a18 D2;obtain rfl:=hN.a27 D11;obtain⟨rfl,t2⟩:=hN.tr D1;obtain⟨rfl,s2⟩:=hN.s D4;obtain⟨rfl,o2⟩:=hN.o D6;obtain⟨rfl,h2⟩:=hN.h D8;obtain⟨rfl,y2⟩:=hN.y D10;obtain rfl:=hN.b D12;refine Zaq rfl rfl (wp_bx rfl rfl (by kernel_rfl) ?_)
   exact⟨tb',tv',gs,go,gh,gw,W.heap.size,v10,v16,Ptr tb',.slice p l.length cap,v19,SL gs l.length,v21,SL go l.length,v23,SL gh l.length,v25,SL gw l.length,.pointer cp,_,.pointer (some ⟨W.heap.size,0,none⟩),rfl,hN.step13 hF ((Below.refl _ W).alloc (Nat.le_refl _) _) (by simp) D12 ⟨by simp,by simp,by simp,by simp,by simp,by simp,by simp⟩⟩
  | 14,ho,hF,hd=>by
   obtain rfl:=Option.some.inj ho;refine Zaq rfl rfl (wp_mv (.inr rfl) ?_);exact⟨tb',tv',gs,go,gh,gw,mb,v29,v16,v17,v18,v19,v20,v21,v22,v23,v24,v25,v26,v27,v28,v29,rfl,hN.step14 (hd { on:=13,ground:=Ground.data } (by simp) rfl)⟩
  | k+15,ho,_,_=>by simp at ho
 case fin =>
  intro F a W hI hall
  obtain⟨tb',tv',gs,go,gh,gw,mb,v10,v16,v17,v18,v19,v20,v21,v22,v23,v24,v25,v26,v27,v28,v29,rfl,hN⟩:=hI;obtain⟨rfl,t2⟩:=hN.tr (hall 1 (by omega))
  obtain rfl:=hN.a16 (hall 0 (by omega))
  obtain rfl:=hN.a18 (hall 2 (by omega))
  obtain rfl:=hN.a19 (hall 3 (by omega))
  obtain rfl:=hN.a21 (hall 5 (by omega))
  obtain rfl:=hN.a23 (hall 7 (by omega))
  obtain rfl:=hN.a25 (hall 9 (by omega))
  obtain rfl:=hN.a27 (hall 11 (by omega))
  obtain⟨rfl,s1,s2⟩:=hN.s (hall 4 (by omega))
  obtain⟨rfl,o1,o2⟩:=hN.o (hall 6 (by omega))
  obtain⟨rfl,h1,h2⟩:=hN.h (hall 8 (by omega))
  obtain⟨rfl,y1,y2⟩:=hN.y (hall 10 (by omega))
  obtain rfl:=hN.b (hall 12 (by omega))
  obtain⟨rfl,x1,x2,⟨k0,k1,k2,k3,k4,k5,k6⟩,x3,x4,x5,x6⟩:=hN.x (hall 13 (by omega))
  obtain rfl:=hN.z (hall 14 (by omega))
  have M0:MBr (.of w) W mb tb' tv' (.slice p l.length cap) (.pointer cp) gs go gh gw l fs (fun _=>.string ⟨#[]⟩) (fun _=>.string ⟨#[]⟩) (fun _=>.bool false) (fun _=>.int .i64 0) :=
   ⟨Only.of hN.base,fun V hV=>HRow.out.below (hV.below (fun _ e=>e.elim) (Nat.le_refl _)),⟨x1,s1,o1,h1,y1⟩,k0,k1,k2,k3,k4,k5,k6,s2,o2,h2,y2,t2,⟨hN.d1 (hall 4 (by omega)) (hall 6 (by omega)),hN.d2 (hall 4 (by omega)) (hall 8 (by omega)),hN.d3 (hall 4 (by omega)) (hall 10 (by omega)),hN.d4 (hall 6 (by omega)) (hall 8 (by omega)),hN.d5 (hall 6 (by omega)) (hall 10 (by omega)),hN.d6 (hall 8 (by omega)) (hall 10 (by omega))⟩,⟨x3,x4,x5,x6⟩,fun j hj=>⟨hN.e1 (hall 1 (by omega)) (hall 4 (by omega)) j hj,hN.e2 (hall 1 (by omega)) (hall 6 (by omega)) j hj,hN.e3 (hall 1 (by omega)) (hall 8 (by omega)) j hj,hN.e4 (hall 1 (by omega)) (hall 10 (by omega)) j hj⟩⟩
  have HM:=hid1 M0;have HNb:=hid1 (HNe.out W hN.base);clear hN k0 k1 k2 k3 k4 k5 k6 s2 o2 h2 y2 t2 M0 hall HNe;unfold NFr;go_wp2_with fail;refine HNb.out.mono ?_;rintro e w2 ⟨u,r,rfl,g2,hr⟩;have HM2:=hid1 (HM.out.below g2);clear HNb;rcases hr with ⟨k,rfl,hk,q1,q2,rfl⟩ | ⟨rfl,q1,g,f,rfl,hO,hNd⟩
  ·exfalso
   obtain⟨x,hx,e⟩:=HAll.out k hk;exact q1 x hx e
  ·have HOf:=hid1 hO;have HNd:=hid1 hNd;clear hO hNd q1;have hgg:=(World.ownsRow.lt HOf.out g rfl).1;have hgs:gs<W.heap.size:=HM.out.rs.1;have HC:Hid (∀ j,j<l.length->w2.cell? ⟨g,j,none⟩=some (.bool (f j))):=hid1 fun j hj=>HOf.out.cell hj
   clear HOf;go_wp2
   go_loopw [13] (fun iv wr=>∃ k:Nat,k<=l.length/\iv=.int .i64 k/\MBr (.of w) wr mb tb' tv' (.slice p l.length cap) (.pointer cp) gs go gh gw l fs (fun j=>if j<k/\f j=true then .string ⟨#[119,97,105,116,115]⟩ else .string ⟨#[]⟩) (fun _=>.string ⟨#[]⟩) (fun _=>.bool false) (fun _=>.int .i64 0)/\∀ j,j<l.length->wr.cell? ⟨g,j,none⟩=some (.bool (f j))) (fun iv _=>l.length - (intOf iv).toNat)
   case atStart =>
    refine⟨0,Nat.zero_le _,rfl,?_,HC.out⟩;have e:(fun j:Nat=>if j<0/\f j=true then (.string ⟨#[119,97,105,116,115]⟩:Value) else .string ⟨#[]⟩)=fun _=>.string ⟨#[]⟩:=funext fun j=>if_neg fun x=>by omega
    rw[e];exact HM2.out
   case round =>
    clear HM HM2 HC;obtain⟨k,hk,rfl,hM,hC⟩:=hrel;have k0:(0:Int)<=(k:Int):=by omega
    by_cases hkl:k<l.length
    ·have k1:(k:Int)<(l.length:Int):=by omega
     have ck:=hC k hkl;have c2:=hM.c2;have r1:=(hM.rs.2 k hkl).1;have r2:=(hM.rs.2 k hkl).2;have HMk:=hid1 hM;have HCk:=hid1 hC;cases hfk:f k with
     | false =>
      rw[hfk]at ck;have HNx:Hid (MBr (.of w) wr mb tb' tv' (.slice p l.length cap) (.pointer cp) gs go gh gw l fs (fun j=>if j<k+1/\f j=true then .string ⟨#[119,97,105,116,115]⟩ else .string ⟨#[]⟩) (fun _=>.string ⟨#[]⟩) (fun _=>.bool false) (fun _=>.int .i64 0)):=hid1 (by
       have e:(fun j:Nat=>if j<k+1/\f j=true then (.string ⟨#[119,97,105,116,115]⟩:Value) else .string ⟨#[]⟩)=fun j=>if j<k/\f j=true then .string ⟨#[119,97,105,116,115]⟩ else .string ⟨#[]⟩:=funext fun j=>by
        by_cases e:j=k
        ·subst e;rw[hfk];simp
        ·have:(j<k+1/\f j=true)↔(j<k/\f j=true):=⟨fun x=>⟨by have:=x.1;omega,x.2⟩,fun x=>⟨by have:=x.1;omega,x.2⟩⟩
         simp only[this]
       rw[e];exact hM)
      clear hM hC c2 r1 r2;go_wp2;exact⟨⟨k+1,by omega,by go_num,HNx.out,HCk.out⟩,by simp[intOf];omega⟩
     | true =>
      rw[hfk]at ck;have HNx:Hid (MBr (.of w) (wr.setCell ⟨gs,k,none⟩ (.string ⟨#[119,97,105,116,115]⟩)) mb tb' tv' (.slice p l.length cap) (.pointer cp) gs go gh gw l fs (fun j=>if j<k+1/\f j=true then .string ⟨#[119,97,105,116,115]⟩ else .string ⟨#[]⟩) (fun _=>.string ⟨#[]⟩) (fun _=>.bool false) (fun _=>.int .i64 0)):=hid1 (by
       have m1:=hM.setS hkl (.string ⟨#[119,97,105,116,115]⟩);have e:upd (fun j:Nat=>if j<k/\f j=true then (.string ⟨#[119,97,105,116,115]⟩:Value) else .string ⟨#[]⟩) k (.string ⟨#[119,97,105,116,115]⟩)=fun j=>if j<k+1/\f j=true then .string ⟨#[119,97,105,116,115]⟩ else .string ⟨#[]⟩:=funext fun j=>by
        unfold upd;by_cases e:j=k
        ·subst e;rw[hfk];simp
        ·have:(j<k+1/\f j=true)↔(j<k/\f j=true):=⟨fun x=>⟨by have:=x.1;omega,x.2⟩,fun x=>⟨by have:=x.1;omega,x.2⟩⟩
         rw[if_neg e];simp only[this]
       rw[e]at m1;exact m1)
      have HCx:Hid (∀ j,j<l.length->(wr.setCell ⟨gs,k,none⟩ (.string ⟨#[119,97,105,116,115]⟩)).cell? ⟨g,j,none⟩=some (.bool (f j))):=hid1 fun j hj=>(World.cell?_of_block (a:=⟨g,j,none⟩) (Below.heap_setCell wr ⟨gs,k,none⟩ _ g (by show g≠gs;omega))).trans (hC j hj)
      clear hM hC;go_wp2;exact⟨⟨k+1,by omega,by go_num,HNx.out,HCx.out⟩,by simp[intOf];omega⟩
    ·have k1:(l.length:Int)<=(k:Int):=by omega
     obtain rfl:k=l.length:=by omega
     have HMk:=hid1 hM;clear hM hC;go_wp2;go_ret;refine⟨mb,tb',tv',gs,go,gh,gw,rfl,?_⟩;have hm:=HMk.out;have e1:(fun j:Nat=>if j<l.length/\f j=true then (.string ⟨#[119,97,105,116,115]⟩:Value) else .string ⟨#[]⟩)=nameV (Bf.init fs l outs).st:=funext fun j=>by
      show _=Value.string (ba (if Bf.need l outs j=true then Bf.St.waits else Bf.St.no).name)
      by_cases hj:j<l.length
      ·rw[Bf.need_eq HNd.out hj];by_cases hf:f j=true
       ·rw[if_pos ⟨hj,hf⟩,if_pos hf];rfl
       ·rw[if_neg fun x=>hf x.2,if_neg hf];rfl
      ·rw[if_neg fun x=>hj x.1,Bf.need_out (by omega)];rfl
     have e2:(fun _:Nat=>(.string ⟨#[]⟩:Value))=outV (Bf.init fs l outs).st:=funext fun j=>by
      show _=Value.string (ba (if Bf.need l outs j=true then Bf.St.waits else Bf.St.no).out)
      split <;> rfl
     have e3:(fun _:Nat=>(.bool false:Value))=hitV (Bf.init fs l outs).st:=funext fun j=>by
      show _=Value.bool (if Bf.need l outs j=true then Bf.St.waits else Bf.St.no).hit
      split <;> rfl
     have e4:(fun _:Nat=>(.int .i64 0:Value))=whyV (Bf.init fs l outs).st:=funext fun j=>by
      show _=Value.int .i64 ((if Bf.need l outs j=true then Bf.St.waits else Bf.St.no).why:Nat)
      split <;> rfl
     rw[e1,e2,e3,e4]at hm;exact hm
theorem Zpv{w0:Gr}{mb:Nat}{lv cv:Value}{gs go gh gw:Nat}{d:Bf.Bd}(h:MB w0 W mb tb tv lv cv gs go gh gw d)(hn:d.l.length<=1000)(nm:List UInt8)(hit:Bool):
  Calls prog 79 #[.pointer (some ⟨mb,0,none⟩),.string (ba nm),.bool hit] W fun e w'=>e=.returned (.int .i64 (Bf.many d.st (fun s=>(s.name==nm)&&(s.hit==hit)) d.l.length:Nat))/\Below W.heap.size W w':=by
 have HH:=hid1 h;obtain⟨p,cap,rfl,-⟩:=h.row;have c1:=h.c1;have c2:=h.c2;have c4:=h.c4;clear h;go_enter func79,ntmps79
 go_wp2;clear c1 c2 c4;go_loopw [7,8] (fun nv' iv wr=>∃ k:Nat,k<=d.l.length/\iv=.int .i64 k/\nv'=.int .i64 (Bf.many d.st (fun s=>(s.name==nm)&&(s.hit==hit)) k:Nat)/\Below W.heap.size W wr) (fun _ iv _=>d.l.length - (intOf iv).toNat)
 case atStart=>exact⟨0,Nat.zero_le _,rfl,rfl,Below.refl _ _⟩
 case round =>
  obtain⟨k,hk,rfl,rfl,hB⟩:=hrel;have hM:=HH.out.below hB;have c1:=hM.c1;have c2:=hM.c2;have c4:=hM.c4;have k0:(0:Int)<=(k:Int):=by omega
  have hml:=Bf.many_le d.st (fun s=>(s.name==nm)&&(s.hit==hit)) k
  by_cases hlt:k<d.l.length
  ·have k1:(k:Int)<(d.l.length:Int):=by omega
   have ck:=(hM.rs.2 k hlt).1;have ch:=(hM.rh.2 k hlt).1;have HS:Hid (Bf.many d.st (fun s=>(s.name==nm)&&(s.hit==hit)) (k+1)=Bf.many d.st (fun s=>(s.name==nm)&&(s.hit==hit)) k+(if ((d.st k).name==nm&&(d.st k).hit==hit)=true then 1 else 0)):=hid1 rfl
   clear hM;generalize Bf.many d.st (fun s=>(s.name==nm)&&(s.hit==hit)) k=mk at *
   have hmz:(mk:Int)<=1000:=by omega
   cases h1:(d.st k).name==nm with
   | false =>
    rw[h1]at HS;go_wp2;exact⟨⟨k+1,by omega,by go_num,by rw[HS.out];simp,hB⟩,by simp[intOf];omega⟩
   | true =>
    rw[h1]at HS;cases h2:(d.st k).hit==hit with
    | false =>
     rw[h2]at HS;go_wp2;exact⟨⟨k+1,by omega,by go_num,by rw[HS.out];simp,hB⟩,by simp[intOf];omega⟩
    | true =>
     rw[h2]at HS;go_wp2;exact⟨⟨k+1,by omega,by go_num,by rw[HS.out];go_num,hB⟩,by simp[intOf];omega⟩
  ·have k1:(d.l.length:Int)<=(k:Int):=by omega
   obtain rfl:k=d.l.length:=by omega
   clear hM;go_wp2;go_ret;exact⟨rfl,hB⟩
theorem madd(a b:List UInt8)(h:a.length+b.length<=100000000)(W:World):(Op.stringOp .add (ba a) (ba b)).run prog W=.ok (.string (ba (a++b))) W:=by
 rw[run_string_add_sum (P:=prog) W (ba a) (ba b) (by rw[Zal,Zal];omega),Zcv]
theorem Zzm(wd:List UInt8)(g o cap:Nat)(x:List UInt8)(l:List (List UInt8))(hl:l.length<=20)(hwd:wd.length<=100000)(hx:∀ y∈l,y.length<=100000)(hall:∀ k,(x++Lib.joinTail wd (l.take k)).length<=10000000)(w:World)(hcur:∀ j (hj:j<(x::l).length),w.cell? ⟨g,o+j,none⟩=some (.string (ba (x::l)[j]))):
  Calls prog 132 #[.string ⟨#[106,111,105,110]⟩,.string (ba wd),.slice (some ⟨g,o,none⟩) (l.length+1) cap] w fun e w'=>e=.returned (.string (ba (Lib.join (x::l) wd)))/\Below w.heap.size w w':=by
 have hc0:w.cell? ⟨g,o,none⟩=some (.string (ba x)):=hcur 0 (by simp)
 rw[Lib.join_cons];have HX:=hid1 hx;have HA:=hid1 hall;have HC:=hid1 fun j (hj:j<l.length)=>hcur (j+1) (by simp;omega)
 clear hx hall hcur;go_enter func132,ntmps132
 go_wp2;go_loopw [7,8] (fun s i wr=>∃ k:Nat,k<=l.length/\s=.string (ba (x++Lib.joinTail wd (l.take k)))/\i=.int .i64 ((k:Int)+1)/\w=wr) (fun _ i _=>l.length+1 - (intOf i).toNat)
 case atStart=>exact⟨0,Nat.zero_le _,by simp[Lib.joinTail],rfl,rfl⟩
 case round =>
  obtain⟨k,hk,rfl,rfl,rfl⟩:=hrel;have h0:=HA.out k;by_cases hlt:k<l.length
  ·have hc:=HC.out k hlt;have hy:=HX.out _ (List.getElem_mem hlt);simp only[List.getElem_cons_succ]at hc;have HT:=hid1 (Lib.joinTail_take_succ wd l k l[k] (List.getElem?_eq_getElem hlt));generalize l[k]=y at *;generalize Lib.joinTail wd (l.take k)=t at *;have s1:∀ W,(Op.stringOp .add (ba (x++t)) (ba wd)).run prog W=.ok (.string (ba (x++t++wd))) W:=madd _ _ (by omega)
   have s2:∀ W,(Op.stringOp .add (ba (x++t++wd)) (ba y)).run prog W=.ok (.string (ba (x++t++wd++y))) W:=madd _ _ (by rw[List.length_append];omega)
   have c1:(k:Int)+1<(l.length:Int)+1:=by omega
   have e0:(0:Int)<=(k:Int)+1:=by omega
   have e3:((k:Int)+1).toNat=k+1:=by omega
   have q8:IntKind.i64.wrap ((k:Int)+1)=(k:Int)+1:=by rw[IntKind.wrap_i64];omega
   have q9:IntKind.i64.wrap ((k:Int)+1+1)=(k:Int)+1+1:=by rw[IntKind.wrap_i64];omega
   have HE:=hid1 (show x++t++wd++y=x++(t++wd++y) by simp)
   generalize x++t++wd++y=t2 at *;generalize x++t++wd=t1 at *;generalize x++t=t0 at *;go_wp2;exact⟨⟨k+1,by omega,by rw[HT.out,HE.out],by go_num,trivial⟩,by simp[intOf];omega⟩
  ·obtain rfl:k=l.length:=by omega
   have c1:¬ (l.length:Int)+1<(l.length:Int)+1:=by omega
   rw[List.take_length]at *;go_wp2;go_ret;exact⟨rfl,Below.refl _ _⟩
