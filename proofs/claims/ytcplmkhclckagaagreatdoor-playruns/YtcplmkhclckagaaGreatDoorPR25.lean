import Derived.Test.YtcplmkhclckagaaGreatDoorPR24
set_option maxRecDepth 100000
set_option maxHeartbeats 8000000
open Go.Proofs.Tryz
namespace Go.Proofs.YtcplmkhclckagaaGreatDoor
open Go.RowKit Go.Shelf Go.Lib Go.Maps
namespace Bf
structure Inv(d:Bd):Prop where
 out:∀ i,d.l.length<=i->d.st i=.no
 need:∀ i k,Ru.needs d.l i k=true->(d.st i).isNo=false->(d.st k).isNo=false
 ran:∀ i k,Ru.needs d.l i k=true->((d.st i).isDone||(d.st i).isFailed)=true->(d.st k).isDone=true
 bad:∀ i k,Ru.needs d.l i k=true->(d.st k).isBad=true->(d.st i).isNo=false->d.st i=.left
theorem Inv.init{d:Bd}(h1:∀ i,d.l.length<=i->d.st i=.no)(h2:∀ i k,Ru.needs d.l i k=true->(d.st i).isNo=false->(d.st k).isNo=false)(h3:∀ i,d.st i=.no\/d.st i=.waits):Inv d:=by
 refine⟨h1,h2,fun i k _ h=> ?_,fun i k _ h=> ?_⟩
 ·rcases h3 i with e | e <;> rw[e]at h <;> cases h
 ·rcases h3 k with e | e <;> rw[e]at h <;> cases h
theorem Inv.set{d:Bd}(h:Inv d){i:Nat}(hr:d.isReady i=true)(s:List UInt8)(b:Bool):Inv (d.set i (.done s b)):=by
 have hw:=ready_waits hr;have hil:i<d.l.length:=Nat.lt_of_not_le fun e=>by have:=h.out i e;rw[hw]at this;cases this
 have hno:∀ k,(setS d.st i (.done s b) k).isNo=(d.st k).isNo:=fun k=>by
  by_cases e:k=i
  ·rw[e,setS_same,hw];rfl
  ·rw[setS_other e]
 refine⟨fun k hk=> ?_,fun a k hn ha=> ?_,fun a k hn ha=> ?_,fun a k hn hb ha=> ?_⟩
 ·show setS d.st i _ k=_
  rw[setS_other (by have:d.l.length<=k:=hk;omega)]
  exact h.out k hk
 ·have ha':(setS d.st i (.done s b) a).isNo=false:=ha;show(setS d.st i (.done s b) k).isNo=false
  rw[hno]at ha' ⊢;exact h.need a k hn ha'
 ·show(setS d.st i (.done s b) k).isDone=true
  by_cases ek:k=i
  ·rw[ek,setS_same];rfl
  ·rw[setS_other ek];by_cases ea:a=i
   ·subst ea;exact ready_free hr (Ru.needs_lt hn).2 hn
   ·have ha':((setS d.st i (.done s b) a).isDone||(setS d.st i (.done s b) a).isFailed)=true:=ha
    rw[setS_other ea]at ha';exact h.ran a k hn ha'
 ·have hb':(setS d.st i (.done s b) k).isBad=true:=hb;have ha':(setS d.st i (.done s b) a).isNo=false:=ha;show setS d.st i (.done s b) a=.left
  rw[hno]at ha';by_cases ek:k=i
  ·rw[ek,setS_same]at hb';cases hb'
  ·rw[setS_other ek]at hb';have:=h.bad a k hn hb' ha';rw[setS_other fun e=>by rw[e,hw]at this;cases this]
   exact this
inductive Up (us:Nat->List Nat) (s:Nat):Nat->Prop
 | one {k:Nat}:k∈us s->Up us s k
 | more {j k:Nat}:Up us s j->k∈us j->Up us s k
theorem Up.trans{us:Nat->List Nat}{s u:Nat}(hu:u∈us s):∀ {k:Nat},Up us u k->Up us s k
 | _,.one h=>.more (.one hu) h
 | _,.more h h'=>.more (Up.trans hu h) h'
structure Leave(us:Nat->List Nat)(s:Nat)(ms:List Nat)(a b:Nat->St):Prop where
 only:∀ k,b k=a k\/((a k).isLeft=false/\b k=.left/\Up us s k)
 closed:∀ j,(a j).isLeft=false->b j=.left->∀ k∈us j,b k=.left
 first:∀ k∈ms,b k=.left
theorem St.left_eq{s:St}(h:s.isLeft=true):s=.left:=by cases s <;> first | rfl | cases h
theorem Leave.start(us:Nat->List Nat)(s:Nat)(a:Nat->St):Leave us s [] a a:=⟨fun _=>.inl rfl,fun j h e=>(by rw[e]at h;cases h),fun k hk=>(by cases hk)⟩
variable {ms:List Nat}{u:Nat}
theorem Leave.skip{us:Nat->List Nat}{s:Nat}{a b:Nat->St}(h:Leave us s ms a b)(hu:b u=.left):Leave us s (ms++[u]) a b :=
 ⟨h.only,h.closed,fun k hk=>by
  rcases List.mem_append.1 hk with h1 | h1
  ·exact h.first k h1
  ·rw[List.mem_singleton.1 h1];exact hu⟩
theorem Leave.mono{us:Nat->List Nat}{s:Nat}{a b:Nat->St}(h:Leave us s ms a b){k:Nat}(hk:a k=.left):b k=.left:=by
 rcases h.only k with e | ⟨_,e,_⟩
 ·rw[e,hk]
 ·exact e
theorem Leave.go{us:Nat->List Nat}{s:Nat}{a b c:Nat->St}(h:Leave us s ms a b)(hu:u∈us s)(hn:(b u).isLeft=false)(h':Leave us u (us u) (setS b u .left) c):Leave us s (ms++[u]) a c:=by
 have hun:(a u).isLeft=false:=by
  rcases h.only u with e | ⟨e,_,_⟩
  ·rw[<- e];exact hn
  ·exact e
 have hcu:c u=.left:=h'.mono (setS_same _ _ _);have hm:∀ k,b k=.left->c k=.left:=fun k hk=>by
  by_cases e:k=u
  ·rw[e];exact hcu
  ·exact h'.mono (by rw[setS_other e];exact hk)
 refine⟨fun k=> ?_,fun j hj hc k hk=> ?_,fun k hk=> ?_⟩
 ·by_cases e:k=u
  ·subst e;exact .inr ⟨hun,hcu,.one hu⟩
  ·rcases h'.only k with e1 | ⟨e1,e2,e3⟩
   ·rw[setS_other e]at e1;rw[e1];exact h.only k
   ·rw[setS_other e]at e1;refine .inr ⟨?_,e2,e3.trans hu⟩;rcases h.only k with e4 | ⟨e4,_,_⟩
    ·rw[<- e4];exact e1
    ·exact e4
 ·by_cases e:j=u
  ·subst e;exact h'.first k hk
  ·cases hb:(b j).isLeft with
   | true=>exact hm k (h.closed j hj (St.left_eq hb) k hk)
   | false=>exact h'.closed j (by rw[setS_other e];exact hb) hc k hk
 ·rcases List.mem_append.1 hk with h1 | h1
  ·exact hm k (h.first k h1)
  ·rw[List.mem_singleton.1 h1];exact hcu
def St.notLeft(s:St):Bool:= !s.isLeft
theorem Leave.fewer{us:Nat->List Nat}{s:Nat}{a b:Nat->St}(h:Leave us s ms a b){n:Nat}(hu:u<n)(hn:(b u).isLeft=false):many (setS b u .left) St.notLeft n<many a St.notLeft n:=by
 have hun:(a u).isLeft=false:=by
  rcases h.only u with e | ⟨e,_,_⟩
  ·rw[<- e];exact hn
  ·exact e
 refine Zdo hu (by unfold St.notLeft;rw[hun];rfl) (by rw[setS_same];rfl) fun k hk=> ?_
 unfold St.notLeft at hk ⊢;by_cases e:k=u
 ·rw[e,hun];rfl
 ·rw[setS_other e]at hk;rcases h.only k with e1 | ⟨e1,_,_⟩
  ·rw[<- e1];exact hk
  ·rw[e1];rfl
def UsOk(d:Bd)(us:Nat->List Nat):Prop:=∀ i,(d.st i).isNo=false->∀ k,k∈us i↔(d.st k).isNo=false/\Ru.needs d.l k i=true
theorem Inv.up{d:Bd}(h:Inv d){us:Nat->List Nat}(hu:UsOk d us){i:Nat}(hw:d.st i=.waits):∀ {k:Nat},Up us i k->(d.st k).isNo=false/\(d.st k=.waits\/d.st k=.left)
 | k,.one hk=>by
  have h1:=(hu i (by rw[hw];rfl) k).1 hk
  refine⟨h1.1,?_⟩;have h2:=h.ran k i h1.2;rw[hw]at h2;cases hs:d.st k with
  | no=>rw[hs]at h1;cases h1.1
  | waits=>exact .inl rfl
  | done s b=>rw[hs]at h2;cases h2 rfl
  | failed c=>rw[hs]at h2;cases h2 rfl
  | left=>exact .inr rfl
 | k,@Up.more _ _ j _ hj hk=>by
  have h0:=h.up hu hw hj;have h1:=(hu j h0.1 k).1 hk;refine⟨h1.1,?_⟩;have h2:=h.ran k j h1.2;have h3:(d.st j).isDone=false:=by rcases h0.2 with e | e <;> rw[e] <;> rfl
  rw[h3]at h2;cases hs:d.st k with
  | no=>rw[hs]at h1;cases h1.1
  | waits=>exact .inl rfl
  | done s b=>rw[hs]at h2;cases h2 rfl
  | failed c=>rw[hs]at h2;cases h2 rfl
  | left=>exact .inr rfl
theorem Leave.spread{d:Bd}(hI:Inv d){us:Nat->List Nat}(hu:UsOk d us){i:Nat}(hr:d.isReady i=true){c:Nat}{b:Nat->St}(h:Leave us i (us i) (setS d.st i (.failed c)) b)(k:Nat)(hk:(d.st k).isNo=false):b k=Bf.spread d.l (setS d.st i (.failed c)) k:=by
 have hw:=ready_waits hr;have hself:Ru.needs d.l i i=false:=by
  rw[Bool.eq_false_iff];intro hn
  have:=ready_free hr (Ru.needs_lt hn).2 hn;rw[hw]at this;cases this
 have hnot:∀ k,Up us i k->k≠i:=by
  intro k hk e
  subst e;have:∃ j,(d.st j).isDone=false/\Ru.needs d.l k j=true:=by
   cases hk with
   | one h1=>exact⟨k,by rw[hw];rfl,((hu k (by rw[hw];rfl) k).1 h1).2⟩
   | @more j _ hj h1 =>
    have h0:=hI.up hu hw hj;exact⟨j,by rcases h0.2 with e | e <;> rw[e] <;> rfl,((hu j h0.1 k).1 h1).2⟩
  obtain⟨j,h1,h2⟩:=this;rw[ready_free hr (Ru.needs_lt h2).2 h2]at h1;cases h1
 have hup:∀ k,Up us i k->(setS d.st i (.failed c) k).isLeft=false->Chain d.l (setS d.st i (.failed c)) k/\(setS d.st i (.failed c) k).isWaits=true:=by
  intro k hk
  induction hk with
  | @one k hk =>
   intro hl
   have hne:=hnot k (.one hk);have h1:=(hu i (by rw[hw];rfl) k).1 hk
   refine⟨.one h1.2 (by rw[setS_same];rfl),?_⟩
   rw[setS_other hne]at hl ⊢;rcases (hI.up hu hw (.one hk)).2 with e | e
   ·rw[e];rfl
   ·rw[e]at hl;cases hl
  | @more j k hj hk ih =>
   intro hl
   have hne:=hnot k (.more hj hk);have hji:=hnot j hj;have h0:=hI.up hu hw hj;have h1:=(hu j h0.1 k).1 hk;rw[setS_other hne]at hl;have hwk:d.st k=.waits:=by
    rcases (hI.up hu hw (.more hj hk)).2 with e | e
    ·exact e
    ·rw[e]at hl;cases hl
   have hjl:(setS d.st i (.failed c) j).isLeft=false:=by
    rw[setS_other hji];rcases h0.2 with e | e
    ·rw[e];rfl
    ·have:=hI.bad k j h1.2 (by rw[e];rfl) h1.1
     rw[hwk]at this;cases this
   obtain⟨c1,c2⟩:=ih hjl;exact⟨.more h1.2 c2 c1,by rw[setS_other hne,hwk];rfl⟩
 have hdn:∀ k,Chain d.l (setS d.st i (.failed c)) k->(d.st k).isNo=false->(setS d.st i (.failed c) k).isWaits=true->b k=.left:=by
  intro k hk
  induction hk with
  | @one k j hn hb =>
   intro h1 h2
   have hki:k≠i:=fun e=>by rw[e,setS_same]at h2;cases h2
   rw[setS_other hki]at h2;by_cases e:j=i
   ·subst e;exact h.first k ((hu j (by rw[hw];rfl) k).2 ⟨h1,hn⟩)
   ·rw[setS_other e]at hb;have:=hI.bad k j hn hb h1;rw[this]at h2;cases h2
  | @more k j hn hwj hc ih =>
   intro h1 h2
   have hji:j≠i:=fun e=>by rw[e,setS_same]at hwj;cases hwj
   have hwj':=hwj;rw[setS_other hji]at hwj';have hjn:(d.st j).isNo=false:=by rw[St.waits_eq hwj'];rfl
   exact h.closed j (by rw[St.waits_eq hwj];rfl) (ih hjn hwj) k ((hu j hjn k).2 ⟨h1,hn⟩)
 by_cases hch:(setS d.st i (.failed c) k).isWaits=true/\Chain d.l (setS d.st i (.failed c)) k
 ·rw[hdn k hch.2 hk hch.1];unfold Bf.spread;rw[if_pos hch]
 ·unfold Bf.spread;rw[if_neg hch];rcases h.only k with e | ⟨e1,e2,e3⟩
  ·exact e
  ·have:=hup k e3 e1;exact absurd ⟨this.2,this.1⟩ hch
theorem Zor(l:List Ru)(st:Nat->St)(k:Nat):(Bf.spread l st k).isNo=(st k).isNo:=by
 unfold Bf.spread;split
 ·rename_i h
  rw[St.waits_eq h.1];rfl
 ·rfl
theorem Zoq(l:List Ru)(st:Nat->St)(k:Nat):Bf.spread l st k=st k\/((st k).isWaits=true/\Chain l st k/\Bf.spread l st k=.left):=by
 unfold Bf.spread;split
 ·rename_i h
  exact .inr ⟨h.1,h.2,rfl⟩
 ·exact .inl rfl
theorem Inv.fail{d:Bd}(h:Inv d){i:Nat}(hr:d.isReady i=true)(c:Nat):Inv (d.fail i c):=by
 have hw:=ready_waits hr;have hil:i<d.l.length:=Nat.lt_of_not_le fun e=>by have:=h.out i e;rw[hw]at this;cases this
 have hno:∀ k,(Bf.spread d.l (setS d.st i (.failed c)) k).isNo=(d.st k).isNo:=fun k=>by
  rw[Zor];by_cases e:k=i
  ·rw[e,setS_same,hw];rfl
  ·rw[setS_other e]
 have hself:∀ k,Ru.needs d.l i k=true->(d.st k).isDone=true:=fun k hn=>ready_free hr (Ru.needs_lt hn).2 hn
 refine⟨fun k hk=> ?_,fun a k hn ha=> ?_,fun a k hn ha=> ?_,fun a k hn hb ha=> ?_⟩
 ·have hk':d.l.length<=k:=hk;show Bf.spread d.l _ k=_
  rw[Zbh (by rw[setS_other (by omega),h.out k hk'];rfl),setS_other (by omega)]
  exact h.out k hk'
 ·have ha':(Bf.spread d.l (setS d.st i (.failed c)) a).isNo=false:=ha;show(Bf.spread d.l (setS d.st i (.failed c)) k).isNo=false
  rw[hno]at ha' ⊢;exact h.need a k hn ha'
 ·have ha':((Bf.spread d.l (setS d.st i (.failed c)) a).isDone||(Bf.spread d.l (setS d.st i (.failed c)) a).isFailed)=true:=ha
  show(Bf.spread d.l (setS d.st i (.failed c)) k).isDone=true
  have hdk:(d.st k).isDone=true:=by
   by_cases e:a=i
   ·subst e;exact hself k hn
   ·rcases Zoq d.l (setS d.st i (.failed c)) a with e1 | ⟨_,_,e1⟩
    ·rw[e1,setS_other e]at ha';exact h.ran a k hn ha'
    ·rw[e1]at ha';cases ha'
  have hki:k≠i:=fun e=>by rw[e,hw]at hdk;cases hdk
  rw[Zbh (by rw[setS_other hki];cases hs:d.st k <;> rw[hs]at hdk <;> first | rfl | cases hdk),setS_other hki]
  exact hdk
 ·have hb':(Bf.spread d.l (setS d.st i (.failed c)) k).isBad=true:=hb;have ha':(Bf.spread d.l (setS d.st i (.failed c)) a).isNo=false:=ha;show Bf.spread d.l (setS d.st i (.failed c)) a=.left
  rw[hno]at ha';have hai:a≠i:=fun e=>by
   subst e;have h1:=hself k hn;have hki:k≠a:=fun e=>by rw[e,hw]at h1;cases h1
   rw[Zbh (by rw[setS_other hki];cases hs:d.st k <;> rw[hs]at h1 <;> first | rfl | cases h1),setS_other hki]at hb'
   cases hs:d.st k <;> rw[hs]at h1 hb' <;> first | (cases hb';done) | (cases h1;done)
  have hleft:∀ hc:Chain d.l (setS d.st i (.failed c)) a,d.st a=.waits->Bf.spread d.l (setS d.st i (.failed c)) a=.left:=fun hc e=>by
   unfold Bf.spread;rw[if_pos ⟨by rw[setS_other hai,e];rfl,hc⟩]
  have hkeep:d.st a=.left->Bf.spread d.l (setS d.st i (.failed c)) a=.left:=fun e=>by
   rw[Zbh (by rw[setS_other hai,e];rfl),setS_other hai,e]
  have hcase:(d.st k).isDone=false->d.st a=.waits\/d.st a=.left:=fun hd=>by
   have h2:=h.ran a k hn;rw[hd]at h2;cases hs:d.st a with
   | no=>rw[hs]at ha';cases ha'
   | waits=>exact .inl rfl
   | done s b=>rw[hs]at h2;cases h2 rfl
   | failed c=>rw[hs]at h2;cases h2 rfl
   | left=>exact .inr rfl
  by_cases e:k=i
  ·subst e;rcases hcase (by rw[hw];rfl) with e1 | e1
   ·exact hleft (.one hn (by rw[setS_same];rfl)) e1
   ·exact hkeep e1
  ·rcases Zoq d.l (setS d.st i (.failed c)) k with e1 | ⟨e1,e2,_⟩
   ·rw[e1,setS_other e]at hb';exact hkeep (h.bad a k hn hb' ha')
   ·have hwk:=e1;rw[setS_other e]at hwk;rcases hcase (by rw[St.waits_eq hwk];rfl) with e3 | e3
    ·exact hleft (.more hn e1 e2) e3
    ·exact hkeep e3
theorem Inv.go{d:Bd}(h:Inv d)(act:Act)(c:Ca){i:Nat}(hr:d.isReady i=true):Inv (go act c d i).d:=by
 unfold Bf.go;split
 ·exact h.fail hr _
 ·split
  ·exact h.set hr _ _
  ·split
   ·exact h.set hr _ _
   ·exact h.fail hr _
end Bf
def PBlk(dom:Nat->Prop)(L:Lay)(j:Nat):Prop:=∃ i,dom i/\j=L.sp i
variable {L:Lay}
theorem PBlk.s{dom:Nat->Prop}{j:Nat}(h:PBlk dom L j):SBlk dom L j:=by
 obtain⟨i,hi,e⟩:=h;exact⟨i,hi,.inl e⟩
theorem Only.setCell{S:Nat->Prop}{W:World}(a:Addr)(v:Value)(hS:S a.block):Only S W (W.setCell a v) :=
 ⟨rfl,rfl,rfl,by simp,fun j _ hj=>Below.heap_setCell W a v j fun e=>hj (e ▸ hS)⟩
theorem Only.refl(S:Nat->Prop)(W:World):Only S W W:=⟨rfl,rfl,rfl,Nat.le_refl _,fun _ _ _=>rfl⟩
variable {W:World}{es:Nat->Addr}{ru:Nat->Ru}{st:Nat->Bf.St}
theorem Steps.lefts{dom:Nat->Prop}{ins:Nat->List Inp}(h:Steps W es dom L ru ins st){u:Nat}(hu:dom u)(hw:st u=.waits):Steps (W.setCell ⟨L.sp u,4,none⟩ (.int .i64 4)) es dom L ru ins (Bf.setS st u .left):=by
 refine h.turn hu .left ?_ fun j hj _=>Below.heap_setCell W _ _ j hj
 rw[heap_setCell_same W _ _ _ _ _ (h.step u hu),hw];rfl
theorem Zfi{es:Nat->Addr}{dom:Nat->Prop}{L:Lay}{ru:Nat->Ru}{ins:Nat->List Inp}{n:Nat}(hdn:∀ i,dom i->i<n)(hlen:∀ i,dom i->(L.us i).length<=1000):∀(f:Nat) {W:World} {st:Nat->Bf.St} {s:Nat} (_:Steps W es dom L ru ins st) (_:dom s) (_:∀ k,Bf.Up L.us s k->st k=.waits\/st k=.left) (_:Bf.many st Bf.St.notLeft n<f),
  Calls prog 246 #[Ptr (L.sp s)] W fun e w'=>e=.returned (.tuple #[])/\∃ st',Steps w' es dom L ru ins st'/\Bf.Leave L.us s (L.us s) st st'/\Only (PBlk dom L) W w'
 | 0,_,_,_,_,_,_,hf=>by omega
 | f+1,W,st,s,h,hs,hU,hf=>by
  have HIH:=hid1 fun(V:World) (b:Nat->Bf.St) (u:Nat) (h1:Steps V es dom L ru ins b) (h2:dom u) (h3:∀ k,Bf.Up L.us u k->b k=.waits\/b k=.left) (h4:Bf.many b Bf.St.notLeft n<f)=>Zfi hdn hlen f h1 h2 h3 h4
  have HU:=hid1 hU;have HF:=hid1 hf;have HD:=hid1 hdn;have c3:=(h.at hs).c3;have hl:=hlen s hs;have zl:((L.us s).length:Int)<=1000:=by omega
  obtain⟨p,cap,e3⟩:=Zcz (h.usR s hs);rw[e3]at c3;have HE3:=hid1 e3;have HS0:=hid1 h;clear h hU hf hdn e3 hlen;go_enter func246,ntmps246
  go_wp2;clear c3;go_loopw [9] (fun iv wr=>∃(k:Nat) (b:Nat->Bf.St),k<=(L.us s).length/\iv=.int .i64 k/\Steps wr es dom L ru ins b/\Bf.Leave L.us s ((L.us s).take k) st b/\Only (PBlk dom L) W wr) (fun iv _=>(L.us s).length - (intOf iv).toNat)
  case atStart=>exact⟨0,st,Nat.zero_le _,rfl,HS0.out,Bf.Leave.start _ _ _,Only.refl _ _⟩
  case round =>
   clear HS0;obtain⟨k,b,hk,rfl,hS,hL,hO⟩:=hrel;have HS:=hid1 hS;have HL:=hid1 hL;have HO:=hid1 hO;clear hS hL hO;have k0:(0:Int)<=(k:Int):=by omega
   by_cases hlt:k<(L.us s).length
   ·have k1:(k:Int)<((L.us s).length:Int):=by omega
    have hmem:(L.us s)[k]∈L.us s:=List.getElem_mem hlt;have htk:(L.us s).take (k+1)=(L.us s).take k++[(L.us s)[k]]:=List.take_succ_eq_append_getElem hlt;obtain⟨g,cap',e',hc⟩:=Zum (HS.out.usR s hs) (by omega)
    rw[HE3.out]at e';obtain⟨rfl,rfl⟩:p=some ⟨g,0,none⟩/\cap=cap':=by
     simp only[Value.slice.injEq]at e';exact⟨e'.1,e'.2.2⟩
    have d0:wr.cell? ⟨g,k,none⟩=some (Ptr (L.sp (L.us s)[k])):=hc k _ (by unfold usC;rw[List.getElem?_map,List.getElem?_eq_getElem hlt];rfl)
    have HT:=hid1 htk;generalize (L.us s)[k]=u at *;have hdu:=HS.out.usD s hs u hmem;have hA:=HS.out.at hdu;have c4:=hA.c4;have f4:=hA.fr 4;clear hA hc e' htk;cases hbl:(b u).isLeft with
    | true =>
     have hn:(b u).num=4:=by
      have:=Bf.St.num_left (b u);rw[hbl]at this;simpa using this.symm
     rw[hn]at c4;have HL2:Hid (Bf.Leave L.us s ((L.us s).take (k+1)) st b):=hid1 (by rw[HT.out];exact HL.out.skip (Bf.St.left_eq hbl))
     clear hbl hn f4;go_wp2;exact⟨⟨k+1,b,by omega,by go_num,HS.out,HL2.out,HO.out⟩,by simp[intOf];omega⟩
    | false =>
     have hw:b u=.waits:=by
      rcases HL.out.only u with e | ⟨_,e,_⟩
      ·rcases HU.out u (.one hmem) with e1 | e1
       ·rw[e,e1]
       ·rw[e,e1]at hbl;cases hbl
      ·rw[e]at hbl;cases hbl
     have HS1:=hid1 (HS.out.lefts hdu hw);have HO1:Hid (Only (PBlk dom L) W (wr.setCell ⟨L.sp u,4,none⟩ (.int .i64 4))):=hid1 (HO.out.trans (Only.setCell _ _ ⟨u,hdu,rfl⟩) fun j hj=>.inl hj)
     have HC:=hid1 (HIH.out _ _ _ HS1.out hdu (fun k hk=>by
      by_cases e:k=u
      ·rw[e,Bf.setS_same];exact .inr rfl
      ·rw[Bf.setS_other e];rcases HL.out.only k with e1 | ⟨_,e1,_⟩
       ·rw[e1];exact HU.out k (hk.trans hmem)
       ·exact .inr e1) (by
      have h1:=HL.out.fewer (HD.out u hdu) hbl;have h2:=HF.out;omega))
     have HGo:=hid1 fun c (hc:Bf.Leave L.us u (L.us u) (Bf.setS b u .left) c)=>(show Bf.Leave L.us s ((L.us s).take (k+1)) st c by rw[HT.out];exact HL.out.go hmem hbl hc)
     rw[hw]at c4;clear hbl hw HL HS HO;go_wp2_with fail;refine HC.out.mono ?_;rintro e w2 ⟨rfl,c,hS2,hL2,hO2⟩;have HS2:=hid1 hS2;have HL2:=hid1 (HGo.out c hL2);have HO2:=hid1 (HO1.out.trans hO2 fun j hj=>.inl hj)
     clear HC HGo hS2 hL2 hO2 HO1 HS1;go_wp2;exact⟨⟨k+1,c,by omega,by go_num,HS2.out,HL2.out,HO2.out⟩,by simp[intOf];omega⟩
   ·have k1:((L.us s).length:Int)<=(k:Int):=by omega
    have HL2:Hid (Bf.Leave L.us s (L.us s) st b):=hid1 (by
     have:=HL.out;rwa[List.take_of_length_le (by omega)]at this)
    clear HL;go_wp2;go_end0
    exact⟨rfl,b,HS.out,HL2.out,HO.out⟩
theorem Zma(es:Nat->Addr)(c:Nat):(c=0/\erOf es c=.nilIface)\/∃ t u,erOf es c=.iface t u:=by
 cases c with
 | zero=>exact .inl ⟨rfl,rfl⟩
 | succ k=>exact .inr ⟨_,_,rfl⟩
variable {n:Nat}
theorem Zoo{dom:Nat->Prop}{ins:Nat->List Inp}(hdn:∀ i,dom i->i<n)(hlen:∀ i,dom i->(L.us i).length<=1000){s:Nat}(h:Steps W es dom L ru ins st)(hs:dom s)(hw:st s=.waits)(c:Nat)(hU:∀ k,Bf.Up L.us s k->Bf.setS st s (.failed c) k=.waits\/Bf.setS st s (.failed c) k=.left):
  Calls prog 233 #[Ptr (L.sp s),erOf es c] W fun e w'=>e=.returned (.tuple #[])/\∃ st',Steps w' es dom L ru ins st'/\Bf.Leave L.us s (L.us s) (Bf.setS st s (.failed c)) st'/\Only (PBlk dom L) W w':=by
 have hA:=h.at hs;have c4:=hA.c4;have f4:=hA.fr 4;have c6:=hA.c6;have f6:=hA.fr 6;have hS1:Steps ((W.setCell ⟨L.sp s,4,none⟩ (.int .i64 3)).setCell ⟨L.sp s,6,none⟩ (erOf es c)) es dom L ru ins (Bf.setS st s (.failed c)):=by
  refine h.turn hs (.failed c) ?_ fun j hj _=> ?_
  ·have r1:=heap_setCell_same W (L.sp s) 4 _ _ (.int .i64 3) (h.step s hs);rw[heap_setCell_same _ _ _ _ _ _ r1,hw];rfl
  ·rw[Below.heap_setCell _ _ _ j hj,Below.heap_setCell _ _ _ j hj]
 have HC:=hid1 (Zfi hdn hlen _ hS1 hs hU (Nat.lt_succ_self _));have HO1:Hid (Only (PBlk dom L) W ((W.setCell ⟨L.sp s,4,none⟩ (.int .i64 3)).setCell ⟨L.sp s,6,none⟩ (erOf es c))):=hid1 ((Only.setCell _ _ ⟨s,hs,rfl⟩).trans (Only.setCell _ _ ⟨s,hs,rfl⟩) fun j hj=>.inl hj)
 have hz:W.heap.size=((W.setCell ⟨L.sp s,4,none⟩ (.int .i64 3)).setCell ⟨L.sp s,6,none⟩ (erOf es c)).heap.size:=by simp
 rw[hw]at c4 c6;clear hA h hS1 hw;rcases Zma es c with ⟨-,e1⟩ | ⟨t,x,e1⟩
 all_goals
  rw[e1]at HC HO1 hz ⊢;clear e1;go_enter func233,ntmps233
  go_wp2_with fail;refine HC.out.mono ?_;rintro e w1 ⟨rfl,b,hS2,hL2,hO2⟩;have HQ:=hid1 (And.intro hS2 hL2);have HO2:=hid1 (HO1.out.trans hO2 fun j hj=>.inl hj)
  clear HC hS2 hL2 hO2 HO1;go_wp2;go_end0
  exact⟨rfl,b,HQ.out.1,HQ.out.2,HO2.out⟩
def inpOf(l:List Ru)(fs:Tf.Fs)(x:List UInt8):Inp :=
 match Bf.mkr l x with
 | some k=>.rule k
 | none=>match Tf.get fs x with
  | some b=>.file b
  | none=>.gone
def insOf(d:Bf.Bd)(i:Nat):List Inp:=(d.rule i).ins.map (inpOf d.l d.fs)
abbrev Bf.Bd.dm(d:Bf.Bd)(k:Nat):Bool:= !(d.st k).isNo
abbrev Bf.Bd.dom(d:Bf.Bd)(k:Nat):Prop:=d.dm k=true
variable {d:Bf.Bd}{k:Nat}
theorem Bf.Bd.dom_no(h:d.dom k):(d.st k).isNo=false:=by simpa using h
theorem Bf.Bd.dom_of(h:(d.st k).isNo=false):d.dom k:=by simpa using h
variable {i:Nat}
theorem Zzi(h:Inp.rule k∈insOf d i):∃ x∈(d.rule i).ins,Bf.mkr d.l x=some k:=by
 obtain⟨x,hx,e⟩:=List.mem_map.1 h;refine⟨x,hx,?_⟩;unfold inpOf at e;split at e
 ·rename_i j hj
  rw[hj];simpa using e
 ·split at e <;> cases e
theorem Zxb(hA:Ru.Apart d.l)(hi:i<d.l.length):(!(insOf d i).any (Inp.holds d.st))=Bf.freeTo d.l d.st i d.l.length:=by
 have hr:d.rule i=d.l[i]:=by unfold Bf.Bd.rule;simp[hi]
 rw[Bool.eq_iff_iff];unfold Bf.freeTo;simp only[Bool.not_eq_true',List.any_eq_false,List.all_eq_true,List.mem_range];constructor
 ·intro h k hk
  cases hn:Ru.needs d.l i k with
  | false=>rfl
  | true =>
   have hin:=hn;rw[Ru.needs_eq hi hk]at hin;have hmem:Inp.rule k∈insOf d i:=by
    refine List.mem_map.2 ⟨d.l[k].out,by rw[hr];simpa using hin,?_⟩
    unfold inpOf;rw[show Bf.mkr d.l d.l[k].out=some k from Ru.mkr_eq hA hk]
   have:=h _ hmem;simpa[Inp.holds] using this
 ·intro h x hx
  cases x with
  | file b=>simp[Inp.holds]
  | gone=>simp[Inp.holds]
  | rule k =>
   obtain⟨y,hy,e⟩:=Zzi hx;obtain⟨hk,e1,_⟩:=Ru.mkr_some (show Ru.mkr d.l y=some k from e)
   have hn:Ru.needs d.l i k=true:=by
    rw[Ru.needs_eq hi hk,e1];rw[hr]at hy;simpa using hy
   have:=h k hk;rw[hn]at this;simpa[Inp.holds] using this
structure BuM(es:Nat->Addr)(W:World)(bb bm n:Nat)(L:Lay)(cv:Value)(d:Bf.Bd):Prop where
 c0:W.cell? ⟨bb,0,none⟩=some (.map (some bm))
 c1:W.cell? ⟨bb,1,none⟩=some cv
 map:SMap W bm n d.dom L.sp
 steps:Steps W es d.dom L d.rule (insOf d) d.st
 us:Bf.UsOk d L.us
 usl:∀ i,d.dom i->(L.us i).length<=1000
 inv:Bf.Inv d
 apart:Ru.Apart d.l
 few:∀ i,d.dom i->(insOf d i).length<=1000
def BBlk(bb bm:Nat)(d:Bf.Bd)(L:Lay)(j:Nat):Prop:=j=bb\/j=bm\/SBlk d.dom L j
def BuAt(es:Nat->Addr)(S:Nat->Prop)(W:World)(v cv:Value)(d:Bf.Bd):Prop:=∃ bb bm n L,v=Ptr bb/\(∃ o,cv=.pointer o)/\(∀ j,S j↔BBlk bb bm d L j)/\BuM es W bb bm n L cv d
theorem BuM.lt{es:Nat->Addr}{W:World}{bb bm n:Nat}{L:Lay}{cv:Value}{d:Bf.Bd}(h:BuM es W bb bm n L cv d):∀ j,BBlk bb bm d L j->j<W.heap.size:=by
 rintro j (rfl | rfl | hj)
 ·exact Zaj h.c0
 ·exact h.map.lt
 ·exact h.steps.lt j hj
theorem BuM.same{es:Nat->Addr}{W W':World}{bb bm n:Nat}{L:Lay}{cv:Value}{d:Bf.Bd}(h:BuM es W bb bm n L cv d)(hb:∀ j,BBlk bb bm d L j->W'.heap[j]? =W.heap[j]?):BuM es W' bb bm n L cv d:=by
 have hc:=hb bb (.inl rfl);exact⟨(World.cell?_of_block (a:=⟨bb,0,none⟩) hc).trans h.c0,(World.cell?_of_block (a:=⟨bb,1,none⟩) hc).trans h.c1,h.map.same (hb bm (.inr (.inl rfl))),h.steps.same fun j hj=>hb j (.inr (.inr hj)),h.us,h.usl,h.inv,h.apart,h.few⟩
variable {bb bm:Nat}{cv:Value}
theorem BuM.below{W':World}(h:BuM es W bb bm n L cv d)(hb:Below W.heap.size W W'):BuM es W' bb bm n L cv d:=h.same fun j hj=>hb.block j (h.lt j hj)
theorem BuM.lo(h:BuM es W bb bm n L cv d)(hi:d.dom i):i<d.l.length:=by
 refine Nat.lt_of_not_le fun e=> ?_
 have:=Bf.Bd.dom_no hi;rw[h.inv.out i e]at this;cases this
theorem BuM.isReady{es:Nat->Addr}{W:World}{bb bm n:Nat}{L:Lay}{cv:Value}{d:Bf.Bd}(h:BuM es W bb bm n L cv d){i:Nat}(hi:d.dom i):((d.st i).isWaits&& !(insOf d i).any (Inp.holds d.st))=d.isReady i:=by
 rw[Zxb h.apart (h.lo hi)];rfl
theorem Zkn(h:BuM es W bb bm n L cv d)(hi:d.dom i):Calls prog 208 #[Ptr (L.sp i)] W fun e w'=>e=.returned (.bool (d.isReady i))/\Below W.heap.size W w':=by
 have HC:=Zfg h.steps i hi (Bf.Bd.dom_no hi) (h.few i hi);rw[h.isReady hi]at HC;have HC:=hid1 HC;go_enter func208,ntmps208
 go_wp2_with fail;refine HC.out.mono ?_;rintro e w1 ⟨rfl,g1⟩;go_wp2;go_ret;exact⟨rfl,g1⟩
theorem Zow:((List.range d.l.length).filter fun k=>d.dm k&&d.isReady k)=d.ready:=by
 unfold Bf.Bd.ready Bf.Bd.readyTo;refine List.filter_congr fun k _=> ?_
 cases hr:d.isReady k with
 | false=>simp
 | true =>
  have:=Bf.ready_waits hr;simp[Bf.Bd.dm,this,Bf.St.isNo]
theorem Zdd(h:BuM es W bb bm n L cv d)(hl:d.l.length<=1000):Calls prog 184 #[Ptr bb] W fun e w'=>∃ u,e=.returned u/\NIRow w' u d.ready/\Below W.heap.size W w':=by
 have HC:=Zdt h.c0 h.map (fun k hk=>h.lo hk) hl 208 #[] (enters_of func208 (by kernel_rfl) rfl) d.isReady (hid1 fun k hk V hV=>Zkn (h.below hV) hk)
 rw[Zow]at HC;have HC:=hid1 HC;go_enter func184,ntmps184
 go_wp2_with fail;refine HC.out.mono ?_;rintro e w1 ⟨u,rfl,hu,g1⟩;have HU:=hid1 hu;obtain⟨p,cap,rfl,-⟩:=HU.out;go_wp2;go_ret;exact⟨_,rfl,HU.out,g1⟩
variable {b:Nat}
theorem Znq{c m:Nat}(h:W.cell? ⟨b,4,none⟩=some (.int .i64 (n:Nat)))(hc:W.cell? ⟨c,0,none⟩=some (.int .i64 (m:Nat))):Calls prog 237 #[Ptr b,.pointer (some ⟨c,0,none⟩)] W fun e w'=>e=.returned (.bool (n==m))/\Below W.heap.size W w':=by
 have z:((n:Int)==(m:Int))=(n==m):=by
  rw[Bool.eq_iff_iff];simp
  omega
 go_enter func237,ntmps237
 go_wp2;go_region;go_wp2;go_ret;exact⟨rfl,(Below.refl _ W).drew⟩
theorem Zir(st:Nat->Bf.St)(q:Nat->Bool)(p:Bf.St->Bool)(h:∀ k,q k=p (st k)):∀ N,((List.range N).filter q).length=Bf.many st p N
 | 0=>rfl
 | N+1=>by
  rw[List.range_succ,List.filter_append,List.length_append,Zir st q p h N,show Bf.many st p (N+1)=Bf.many st p N+(if p (st N)=true then 1 else 0) from rfl]
  congr 1
  rw[<- h N];by_cases e:q N=true
  ·rw[List.filter_cons_of_pos e,if_pos e];rfl
  ·rw[List.filter_cons_of_neg e,if_neg e];rfl
theorem Zcn(h:BuM es W bb bm n L cv d)(hl:d.l.length<=1000)(m:Nat)(p:Bf.St->Bool)(hp:∀ s:Bf.St,p s=(!s.isNo&&(s.num==m))):Calls prog 212 #[Ptr bb,.int .i64 (m:Nat)] W fun e w'=>e=.returned (.int .i64 (Bf.many d.st p d.l.length:Nat))/\Below W.heap.size W w':=by
 have gA:Below W.heap.size W (W.alloc (.cells #[.int .i64 (m:Nat)] 299)):=(Below.refl _ W).alloc (Nat.le_refl _) _;have hA:=h.below gA
 have HC:=Zdt hA.c0 hA.map (fun k hk=>hA.lo hk) hl 237 #[.pointer (some ⟨W.heap.size,0,none⟩)] (enters_of func237 (by kernel_rfl) rfl) (fun k=>(d.st k).num==m) (hid1 fun k hk V hV=>Znq ((hA.below hV).steps.at hk).c4 (Zaa (by simp) hV))
 have HL:=hid1 (Zir d.st (fun k=>d.dm k&&((d.st k).num==m)) p (fun k=>(hp _).symm) d.l.length)
 have HC:=hid1 HC;generalize Bf.many d.st p d.l.length=M at *;go_enter func212,ntmps212
 go_wp2_with fail;refine HC.out.mono ?_;rintro e w1 ⟨u,rfl,hu,g1⟩;obtain⟨q,cap,rfl,-⟩:=hu;have g2:=Zac gA g1;rw[HL.out];go_wp2;go_ret;exact⟨rfl,g2⟩
theorem row_new(W:World)(o:Obj):(W.alloc o).heap[W.heap.size]? =some o:=by
 show(W.heap.push _)[W.heap.size]? =_
 simp
theorem Zjh{t:TypeId}{a0 a1 a2 a3:Value}(h:W.heap[b]? =some (.cells #[a0,a1,a2,a3] t))(x0 x1 x2 x3:Value):
  let V:=(((W.setCell ⟨b,0,none⟩ x0).setCell ⟨b,1,none⟩ x1).setCell ⟨b,2,none⟩ x2).setCell ⟨b,3,none⟩ x3
  V.cell? ⟨b,0,none⟩=some x0/\V.cell? ⟨b,1,none⟩=some x1/\V.cell? ⟨b,2,none⟩=some x2/\V.cell? ⟨b,3,none⟩=some x3:=by
 have r1:=heap_setCell_same W b 0 _ _ x0 h;have r2:=heap_setCell_same _ b 1 _ _ x1 r1;have r3:=heap_setCell_same _ b 2 _ _ x2 r2;have r4:=heap_setCell_same _ b 3 _ _ x3 r3;exact⟨Zab (j:=0) r4 rfl,Zab (j:=1) r4 rfl,Zab (j:=2) r4 rfl,Zab (j:=3) r4 rfl⟩
theorem Zga(h:BuM es W bb bm n L cv d)(hl:d.l.length<=1000):Calls prog 186 #[Ptr bb] W fun e w'=>e=.returned (.agg #[.int .i64 (d.ran:Nat),.int .i64 (d.hits:Nat),.int .i64 (d.fails:Nat),.int .i64 (d.lefts:Nat)])/\Below W.heap.size W w':=by
 have H1:=hid1 fun V (g:Below W.heap.size W V)=>Zcn (h.below g) hl 1 (fun s=>s.isDone&& !s.hit) fun s=>by cases s with | done s b=>cases b <;> rfl | _=>rfl
 have H2:=hid1 fun V (g:Below W.heap.size W V)=>Zcn (h.below g) hl 2 (fun s=>s.isDone&&s.hit) fun s=>by cases s with | done s b=>cases b <;> rfl | _=>rfl
 have H3:=hid1 fun V (g:Below W.heap.size W V)=>Zcn (h.below g) hl 3 Bf.St.isFailed fun s=>by cases s with | done s b=>cases b <;> rfl | _=>rfl
 have H4:=hid1 fun V (g:Below W.heap.size W V)=>Zcn (h.below g) hl 4 Bf.St.isLeft fun s=>by cases s with | done s b=>cases b <;> rfl | _=>rfl
 unfold Bf.Bd.ran Bf.Bd.hits Bf.Bd.fails Bf.Bd.lefts;generalize Bf.many d.st (fun s=>s.isDone&& !s.hit) d.l.length=m1 at *
 generalize Bf.many d.st (fun s=>s.isDone&&s.hit) d.l.length=m2 at *
 generalize Bf.many d.st Bf.St.isFailed d.l.length=m3 at *;generalize Bf.many d.st Bf.St.isLeft d.l.length=m4 at *;have gA:Below W.heap.size W (W.alloc (.cells #[.int .i64 0,.int .i64 0,.int .i64 0,.int .i64 0] 181)):=(Below.refl _ W).alloc (Nat.le_refl _) _
 have HR0:Hid ((W.alloc (.cells #[.int .i64 0,.int .i64 0,.int .i64 0,.int .i64 0] 181)).heap[W.heap.size]? =some (.cells #[.int .i64 0,.int .i64 0,.int .i64 0,.int .i64 0] 181)):=hid1 (row_new _ _);have HGA:=hid1 gA;have C1:=hid1 (H1.out _ gA);go_enter func186,ntmps186
 go_wp2_with fail;refine C1.out.mono ?_;rintro e w1 ⟨rfl,g1⟩;have G1:=Zac HGA.out g1;have X1:=g1;have C2:=hid1 (H2.out _ G1);go_wp2_with fail;refine C2.out.mono ?_;rintro e w2 ⟨rfl,g2⟩;have G2:=Zac G1 g2;have X2:=Zac X1 g2;have C3:=hid1 (H3.out _ G2);go_wp2_with fail;refine C3.out.mono ?_;rintro e w3 ⟨rfl,g3⟩;have G3:=Zac G2 g3;have X3:=Zac X2 g3
 have C4:=hid1 (H4.out _ G3);go_wp2_with fail;refine C4.out.mono ?_;rintro e w4 ⟨rfl,g4⟩;have G4:=Zac G3 g4;have X4:=Zac X3 g4;have rr:=Zav HR0.out X4;have z0:=Zab (j:=0) rr rfl;have z1:=Zab (j:=1) rr rfl;have z2:=Zab (j:=2) rr rfl;have z3:=Zab (j:=3) rr rfl
 have f0:w4.frozen? ⟨W.heap.size,0,none⟩=false:=by simp[World.frozen?,rr]
 have f1:w4.frozen? ⟨W.heap.size,1,none⟩=false:=by simp[World.frozen?,rr]
 have f2:w4.frozen? ⟨W.heap.size,2,none⟩=false:=by simp[World.frozen?,rr]
 have f3:w4.frozen? ⟨W.heap.size,3,none⟩=false:=by simp[World.frozen?,rr]
 have qq:=hid1 (Zjh rr (.int .i64 (m1:Nat)) (.int .i64 (m2:Nat)) (.int .i64 (m3:Nat)) (.int .i64 (m4:Nat)));go_wp2;refine bodyPost_ret (v:=.agg #[.int .i64 (m1:Nat),.int .i64 (m2:Nat),.int .i64 (m3:Nat),.int .i64 (m4:Nat)]) ?_ rfl ⟨rfl,?_⟩
 ·obtain⟨q0,q1,q2,q3⟩:=qq.out;simp[results,f186,go_sem,q0,q1,q2,q3]
 ·exact(((G4.setCell (p:=⟨W.heap.size,0,none⟩) (Nat.le_refl _) _).setCell (p:=⟨W.heap.size,1,none⟩) (Nat.le_refl _) _).setCell (p:=⟨W.heap.size,2,none⟩) (Nat.le_refl _) _).setCell (p:=⟨W.heap.size,3,none⟩) (Nat.le_refl _) _
theorem Zom(s:Bf.St)(hs:s.isNo=false)(W:World):Calls prog 214 #[.int .i64 (s.num:Nat)] W fun e w'=>e=.returned (.string (ba s.name))/\w'=W:=by
 cases s with
 | no=>cases hs
 | waits =>
  go_enter func214,ntmps214
  go_wp2;go_ret;exact⟨rfl,rfl⟩
 | done x b =>
  cases b
  ·go_enter func214,ntmps214
   go_wp2;go_ret;exact⟨rfl,rfl⟩
  ·go_enter func214,ntmps214
   go_wp2;go_ret;exact⟨rfl,rfl⟩
 | failed c =>
  go_enter func214,ntmps214
  go_wp2;go_ret;exact⟨rfl,rfl⟩
 | left =>
  go_enter func214,ntmps214
  go_wp2;go_ret;exact⟨rfl,rfl⟩
theorem BuM.look{es:Nat->Addr}{W:World}{bb bm n:Nat}{L:Lay}{cv:Value}{d:Bf.Bd}(h:BuM es W bb bm n L cv d)(i:Int)(h0: -9223372036854775808<=i)(h1:i<=9223372036854775807):
  (d.at i=.no/\(Instr.lookup 268 (.map (some bm)) (.int .i64 i) true).run prog W=.ok (.tuple #[.pointer none,.bool false]) W) \/
  ∃ k:Nat,i=k/\d.dom k/\k<d.l.length/\d.at i=d.st k/\(Instr.lookup 268 (.map (some bm)) (.int .i64 i) true).run prog W=.ok (.tuple #[Ptr (L.sp k),.bool true]) W:=by
 rcases h.map.look i h0 h1 with ⟨hd,hl⟩ | ⟨hd,hl⟩
 ·have hk:=h.lo hd.2;refine .inr ⟨i.toNat,by omega,hd.2,hk,?_,hl⟩
  unfold Bf.Bd.at;rw[if_neg (by omega)]
 ·refine .inl ⟨?_,hl⟩;unfold Bf.Bd.at;split
  ·rfl
  ·have:(d.st i.toNat).isNo=true:=by
    cases e:(d.st i.toNat).isNo with
    | true=>rfl
    | false=>exact absurd ⟨by omega,Bf.Bd.dom_of e⟩ hd
   cases hs:d.st i.toNat <;> rw[hs]at this <;> first | rfl | cases this
theorem Znr(h:BuM es W bb bm n L cv d)(i:Int)(h0: -9223372036854775808<=i)(h1:i<=9223372036854775807):Calls prog 188 #[Ptr bb,.int .i64 i] W fun e w'=>e=.returned (.string (ba (d.at i).name))/\Below W.heap.size W w':=by
 have HC:=hid1 (Zdc h.c0);rcases h.look i h0 h1 with ⟨e0,hl⟩ | ⟨k,rfl,hk,-,e0,hl⟩
 ·rw[e0];go_enter func188,ntmps188
  go_wp2_with fail;refine HC.out.mono ?_;rintro e w1 ⟨rfl,rfl⟩;go_wp2;go_ret;exact⟨rfl,Below.refl _ _⟩
 ·have c4:=(h.steps.at hk).c4;have HT:=hid1 (Zom (d.st k) (Bf.Bd.dom_no hk));rw[e0];generalize d.st k=s at *;go_enter func188,ntmps188
  go_wp2_with fail;refine HC.out.mono ?_;rintro e w1 ⟨rfl,rfl⟩;go_wp2_with fail;refine(HT.out _).mono ?_;rintro e w2 ⟨rfl,rfl⟩;go_wp2;go_ret;exact⟨rfl,Below.refl _ _⟩
theorem Zkm(h:BuM es W bb bm n L cv d)(i:Int)(h0: -9223372036854775808<=i)(h1:i<=9223372036854775807):Calls prog 187 #[Ptr bb,.int .i64 i] W fun e w'=>e=.returned (.tuple #[.string (ba (d.at i).out),.bool (d.at i).isDone])/\Below W.heap.size W w':=by
 have HC:=hid1 (Zdc h.c0);rcases h.look i h0 h1 with ⟨e0,hl⟩ | ⟨k,rfl,hk,-,e0,hl⟩
 ·rw[e0];go_enter func187,ntmps187
  go_wp2_with fail;refine HC.out.mono ?_;rintro e w1 ⟨rfl,rfl⟩;go_wp2;go_ret2;exact⟨rfl,Below.refl _ _⟩
 ·have c5:=(h.steps.at hk).c5;have HT:=Zgv (h.steps.at hk).c4;rw[<- Bf.St.num_done]at HT;have HT:=hid1 HT;rw[e0];have HOut:Hid ((d.st k).isDone=false->(d.st k).out=[]):=hid1 fun e=>by cases hs:d.st k <;> rw[hs]at e <;> first | rfl | cases e
  generalize d.st k=s at *;cases hd:s.isDone with
  | false =>
   rw[hd]at HT;rw[HOut.out hd];go_enter func187,ntmps187
   go_wp2_with fail;refine HC.out.mono ?_;rintro e w1 ⟨rfl,rfl⟩;go_wp2_with fail;refine HT.out.mono ?_;rintro e w2 ⟨rfl,rfl⟩;go_wp2;go_ret2;exact⟨rfl,Below.refl _ _⟩
  | true =>
   rw[hd]at HT;go_enter func187,ntmps187
   go_wp2_with fail;refine HC.out.mono ?_;rintro e w1 ⟨rfl,rfl⟩;go_wp2_with fail;refine HT.out.mono ?_;rintro e w2 ⟨rfl,rfl⟩;go_wp2;go_ret2;exact⟨rfl,Below.refl _ _⟩
open Tf (Fs)
abbrev fileV(l:List UInt8):Value:=.agg #[.string (ba l)]
variable {w:World}{fs:Fs}
theorem Zzp(h:w.ownsMap prog 9 Zaw bm fs.length (Tf.datum fs))(p:List UInt8)(hp:p.length<=1000000):
  (Instr.lookup 103 (.map (some bm)) (.string (ba p)) true).run prog w=.ok (.tuple #[fileV ((Tf.get fs p).getD []),.bool (Tf.hasP fs p)]) w:=by
 obtain⟨v,ps,hrun,hv⟩:=h.look_ok (t:=103) (e:=105) klaw underlying103 (z:=fileV []) (zeroValue105 w) (zd:=.lit (.string [])) (zp:=[]) rfl (kkey p hp);obtain⟨l,rfl,hl⟩:=Zhh hv;rw[Tf.datum_has]at hrun;rw[Tf.datum_at]at hl;have:(Tf.get fs p).getD []=l:=by
  cases hg:Tf.get fs p with
  | none=>rw[hg]at hl;simp at hl;simp[hl.1]
  | some b=>rw[hg]at hl;simp at hl;simp[hl.1]
 rw[this];exact hrun
theorem Zis(w:World)(p:List UInt8)(hp:p.length<=1000000):
  (Instr.lookup 103 (.map none) (.string (ba p)) true).run prog w=.ok (.tuple #[fileV [],.bool false]) w:=by
 have:=Maps.look_nil (w:=w) (t:=103) (e:=105) true klaw underlying103 (z:=fileV []) (zeroValue105 w) (kkey p hp);simpa using this
variable {B tb:Nat}{o:Option Nat}
theorem Zdp(h:TreeAt B w tb fs o)(p:List UInt8)(hp:p.length<=1000000):
  (Instr.lookup 103 (.map o) (.string (ba p)) true).run prog w=.ok (.tuple #[fileV ((Tf.get fs p).getD []),.bool (Tf.hasP fs p)]) w:=by
 have hm:=h.isMap;cases o with
 | none =>
  obtain rfl:fs=[]:=hm;exact Zis w p hp
 | some bm=>exact Zzp hm.2.2 p hp
theorem Zgg(h:TreeAt B w tb fs o)(p:List UInt8)(hp:p.length<=1000000):
  Calls prog 29 #[Ptr tb,.string (ba p)] w fun e w'=>e=.returned (.tuple #[.string (ba ((Tf.get fs p).getD [])),.bool (Tf.hasP fs p)])/\Below w.heap.size w w':=by
 have hl:=Zdp h p hp;have HA:Hid (Calls prog 53 #[Ptr tb] w fun e w'=>e=.returned (.map o)/\w'=w):=Zgc tb o w h.cell
 generalize (Tf.get fs p).getD []=b at *;generalize Tf.hasP fs p=t at *;clear h hp;go_enter func29,ntmps29
 go_wp2_with fail;refine HA.out.mono ?_;rintro e w' ⟨rfl,rfl⟩;go_wp2;go_ret2;exact⟨rfl,(Below.refl _ _).alloc (Nat.le_refl _) _⟩
theorem Zue(h:TreeAt B w tb fs o)(hr:Tf.Rises fs)(hn:fs.length<=1000):
  Calls prog 28 #[Ptr tb] w fun e w'=>∃ v,e=.returned v/\w'.ownsRow w.heap.size 9 1 v fs.length ((fs.map (·.1)).map encStr)/\Below w.heap.size w w':=by
 have HA:Hid (CallsIn Fence.wide 5 prog 53 #[Ptr tb] w fun e w'=>e=.returned (.map o)/\w'=w):=callsIn_wide.2 (Zgc tb o w h.cell)
 have HS:Hid (CallsIn Fence.wide 5 prog 51 #[.func (.func 86) #[] #[.pointer (some ⟨w.heap.size,0,none⟩)]] (w.alloc (.cells #[.map o] 103)) fun e w'=>∃ v,e=.returned v/\w'.ownsRow w.heap.size 9 1 v fs.length ((fs.map (·.1)).map encStr)/\Below w.heap.size w w'):=by
  cases o with
  | none =>
   obtain rfl:fs=[]:=h.isMap;refine(slices_Sorted_keys_nil_51_52 w).mono ?_;rintro e w' ⟨v,ss,rfl,rfl,hrow,_,hb⟩;refine⟨v,rfl,?_,((Below.refl _ w).alloc (Nat.le_refl _) _).trans (hb.mono (by simp))⟩
   have:=ownsRow_base_a hrow (base':=w.heap.size) (by simp)
   simpa using this
  | some bm =>
   refine(slices_Sorted_keys_51_52 bm fs.length (Tf.datum fs) Zaw w h.isMap.2.2 (by rw[Tf.datum_size];unfold maxLen;omega) (by rw[Tf.datum_size];omega)).mono ?_
   rintro e w' ⟨v,ss,rfl,hS,hrow,_,hb⟩;refine⟨v,rfl,?_,((Below.refl _ w).alloc (Nat.le_refl _) _).trans (hb.mono (by simp))⟩
   rw[Tf.datum_keys]at hS;have e1:ss.mergeSort (fun x y=>decide (x<=y))=fs.map (·.1):=by
    have:=mergeSort_of_perm hS;exact this.trans hr.sorted
   have e2:ss.length=fs.length:=by rw[hS.length_eq];simp
   rw[e1,e2]at hrow;exact ownsRow_base_a hrow (by simp)
 refine(callsIn_wide (n:=6)).1 ?_;have hfA:Fence.wide.fn 53:=trivial;have hfK:Fence.wide.fn 52:=trivial;have hfS:Fence.wide.fn 51:=trivial;clear h hr hn;refine callsIn_of_wp func28 rfl trivial ?_ rfl
 simp only[ntmps28,List.size_toArray,List.length_cons,List.length_nil,Nat.reduceAdd,Nat.reduceSub,Array.replicate_succ,Array.replicate_zero,List.push_toArray,List.append_toArray,List.nil_append,List.cons_append];gi_wp2_with (first
  | (gi_at_call 53;refine HA.out.mono ?_;rintro e w' ⟨rfl,rfl⟩)
  | (gi_at_call 52;refine(maps_Keys_52 _ _).mono ?_;rintro e w' ⟨rfl,rfl⟩)
  | (gi_at_call 51;refine HS.out.mono ?_;rintro e w' ⟨v,rfl,hrow,hb⟩))
 go_ret;exact⟨v,rfl,hrow,hb⟩
