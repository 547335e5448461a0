import Derived.Test.YtcplmkhclckagaaGreatDoorPR16
namespace Go.Proofs.YtcplmkhclckagaaGreatDoor
open Go.Lib
namespace Cf
abbrev En:Type:=List UInt8×List UInt8
abbrev Ens:Type:=List En
def keys(l:Ens):List (List UInt8):=l.map (·.1)
def rm(l:Ens)(k:List UInt8):Ens:=l.filter fun e=> !(e.1==k)
def cut(many:Nat)(l:Ens):Ens:=if many<l.length then l.drop 1 else l
def put(many:Nat)(l:Ens)(k b:List UInt8):Ens:=cut many (rm l k++[(k,b)])
def find(l:Ens)(k:List UInt8):Option (List UInt8):=(l.find? fun e=>e.1==k).map (·.2)
def get(many:Nat)(l:Ens)(k:List UInt8):Ens:=match find l k with | some b=>put many l k b | none=>l
variable {k:List UInt8}
theorem mem_rm{l:Ens}{e:En}:e∈rm l k↔e∈l/\e.1≠k:=by simp[rm]
theorem rm_le(l:Ens)(k:List UInt8):(rm l k).length<=l.length:=List.length_filter_le _ _
theorem rm_sub(l:Ens)(k:List UInt8):(rm l k).Sublist l:=List.filter_sublist
theorem rm_append(a b:Ens)(k:List UInt8):rm (a++b) k=rm a k++rm b k:=List.filter_append _ _
theorem Zym{l:Ens}(h:k∉keys l):rm l k=l:=by
 unfold rm;rw[List.filter_eq_self];intro e he
 have:e.1≠k:=fun x=>h (List.mem_map.2 ⟨e,he,x⟩)
 simpa using this
theorem rm_ge{l:Ens}(h:(keys l).Nodup)(k:List UInt8):l.length<=(rm l k).length+1:=by
 induction l with
 | nil=>simp
 | cons x t ih =>
  obtain⟨h1,h2⟩:=List.nodup_cons.1 h;by_cases e:x.1=k
  ·have:rm (x::t) k=rm t k:=by unfold rm;rw[List.filter_cons_of_neg (by simp[e])]
   rw[this,Zym (e ▸ h1)];simp
  ·have:rm (x::t) k=x::rm t k:=by unfold rm;rw[List.filter_cons_of_pos (by simp[e])]
   rw[this];have:=ih h2;simp
   omega
theorem Zur{a b:Ens}(h:a.Sublist b):(keys a).Sublist (keys b):=h.map _
theorem Ydn{l:Ens}(h:(keys l).Nodup)(k:List UInt8):(keys (rm l k)).Nodup:=(Zur (rm_sub l k)).nodup h
theorem rm_key(l:Ens)(k:List UInt8):k∉keys (rm l k):=by
 intro h
 obtain⟨e,he,hk⟩:=List.mem_map.1 h;exact(mem_rm.1 he).2 hk
structure Ok(many:Nat)(l:Ens):Prop where
 few:l.length<=many
 once:(keys l).Nodup
theorem Ok.nil(many:Nat):Ok many []:=⟨Nat.zero_le _,List.nodup_nil⟩
theorem put_once{l:Ens}(h:(keys l).Nodup)(k b:List UInt8):(keys (rm l k++[(k,b)])).Nodup:=by
 unfold keys;rw[List.map_append,List.nodup_append];refine⟨Ydn h k,by simp,fun x hx y hy=> ?_⟩
 simp at hy;subst hy;rintro rfl;exact rm_key l x hx
theorem Ok.put{many:Nat}{l:Ens}(h:Ok many l)(k b:List UInt8):Ok many (Cf.put many l k b):=by
 have hl:(rm l k++[(k,b)]).length<=many+1:=by
  rw[List.length_append,List.length_singleton];have:=rm_le l k;have:=h.few;omega
 have ho:=put_once h.once k b;unfold Cf.put cut;split
 ·refine⟨by rw[List.length_drop];omega,(Zur (List.drop_sublist 1 _)).nodup ho⟩
 ·exact⟨by omega,ho⟩
theorem Ok.get{many:Nat}{l:Ens}(h:Ok many l)(k:List UInt8):Ok many (Cf.get many l k):=by
 unfold Cf.get;split
 ·exact h.put _ _
 ·exact h
variable {b:List UInt8}
theorem find_some{l:Ens}(h:find l k=some b):(k,b)∈l:=by
 unfold find at h;cases hf:l.find? fun e=>e.1==k with
 | none=>rw[hf]at h;cases h
 | some e =>
  rw[hf]at h;have h1:=List.find?_some hf;have h2:=List.mem_of_find?_eq_some hf;have e1:e.1=k:=by simpa using h1
  have e2:e.2=b:=by simpa using h
  rw[<- e1,<- e2];exact h2
theorem find_none{l:Ens}(h:find l k=none):k∉keys l:=by
 unfold find at h;intro hk
 obtain⟨e,he,e1⟩:=List.mem_map.1 hk;have h0:(l.find? fun e=>e.1==k)=none:=by
  cases hf:l.find? fun e=>e.1==k with
  | none=>rfl
  | some x=>rw[hf]at h;cases h
 have:=List.find?_eq_none.1 h0 e he;simp at this;exact this e1
theorem Ycr{l:Ens}(ho:(keys l).Nodup)(h:(k,b)∈l):find l k=some b:=by
 cases hf:find l k with
 | none=>exact absurd (List.mem_map.2 ⟨_,h,rfl⟩) (find_none hf)
 | some c =>
  have h2:=find_some hf;obtain⟨i,hi,ei⟩:=List.getElem_of_mem h;obtain⟨j,hj,ej⟩:=List.getElem_of_mem h2;have hp:=List.pairwise_iff_getElem.1 ho;have hki:∀ m (hm:m<l.length),(keys l)[m]'(by simpa[keys] using hm)=l[m].1:=fun m hm=>by simp[keys]
  rcases Nat.lt_trichotomy i j with h3 | h3 | h3
  ·exact absurd (by rw[hki i hi,hki j hj,ei,ej]) (hp i j (by simpa[keys] using hi) (by simpa[keys] using hj) h3)
  ·subst h3;rw[ei]at ej;rw[(Prod.mk.inj ej).2]
  ·exact absurd (by rw[hki i hi,hki j hj,ei,ej]) (hp j i (by simpa[keys] using hj) (by simpa[keys] using hi) h3)
theorem get_hit{many:Nat}{l:Ens}(h:Ok many l)(hf:find l k=some b):Cf.get many l k=rm l k++[(k,b)]/\(Cf.get many l k).Perm l:=by
 have hm:=find_some hf;have hl:(rm l k++[(k,b)]).Perm l:=by
  refine(List.perm_ext_iff_of_nodup ?_ ?_).2 fun e=> ?_
  ·have:=put_once h.once k b;exact List.Pairwise.of_map (S:=fun a b=>a≠b) (f:=fun e:En=>e.1) (fun a b hab e=>hab (by rw[e])) this
  ·exact List.Pairwise.of_map (S:=fun a b=>a≠b) (f:=fun e:En=>e.1) (fun a b hab e=>hab (by rw[e])) h.once
  ·rw[List.mem_append,List.mem_singleton,mem_rm];constructor
   ·rintro(h1 | rfl)
    ·exact h1.1
    ·exact hm
   ·intro he
    by_cases e1:e.1=k
    ·right
     have h1:find l k=some e.2:=Ycr h.once (by rw[<- e1];exact he)
     rw[hf]at h1;rw[Option.some.inj h1,<- e1]
    ·exact .inl ⟨he,e1⟩
 have hlen:=hl.length_eq;have hg:Cf.get many l k=rm l k++[(k,b)]:=by
  unfold Cf.get Cf.put cut;rw[hf];simp only;rw[if_neg (by rw[hlen];have:=h.few;omega)]
 exact⟨hg,hg ▸ hl⟩
def recR:Ens->Ens
 | []=>[]
 | x::t=>x::rm (recR t) x.1
def kept(many:Nat)(A:Ens):Ens:=((recR A.reverse).take many).reverse
theorem nodup_len{α:Type}[DecidableEq α]:∀ {a b:List α},a.Nodup->(∀ x∈a,x∈b)->a.length<=b.length
 | [],_,_,_=>Nat.zero_le _
 | x::r,b,hd,hs=>by
  obtain⟨hx,hr⟩:=List.nodup_cons.1 hd;have hxb:x∈b:=hs x (by simp)
  have:=nodup_len (a:=r) (b:=b.erase x) hr fun y hy=>by
   have hne:y≠x:=fun e=>hx (e ▸ hy)
   exact(List.mem_erase_of_ne hne).2 (hs y (List.mem_cons_of_mem _ hy))
  rw[List.length_erase_of_mem hxb]at this;have hp:=List.length_pos_of_mem hxb;simp
  omega
end Cf
theorem Zdb(n:Nat):Lib.decDigits n=if n<10 then [UInt8.ofNat (48+n)] else Lib.decDigits (n/10)++[UInt8.ofNat (48+n%10)]:=by
 by_cases h:n<10
 ·rw[if_pos h,Lib.decDigits_one h]
 ·rw[if_neg h,Lib.decDigits,dif_neg h]
theorem Zqs(n:Nat):∀ b∈Lib.decDigits n,48<=b.toNat/\b.toNat<=57:=by
 induction n using Nat.strongRecOn with
 | _ n ih =>
  intro b hb
  rw[Zdb]at hb;split at hb
  ·rw[List.mem_singleton.1 hb];simp[UInt8.toNat_ofNat];omega
  ·rename_i h
   rcases List.mem_append.1 hb with h1 | h1
   ·exact ih (n/10) (by omega) b h1
   ·rw[List.mem_singleton.1 h1];simp[UInt8.toNat_ofNat];omega
theorem Zqu{a b:Nat}(ha:a<10)(hb:b<10)(h:UInt8.ofNat (48+a)=UInt8.ofNat (48+b)):a=b:=by
 have:=congrArg UInt8.toNat h;simp[UInt8.toNat_ofNat]at this;omega
theorem Zgo(n:Nat):Lib.decDigits n≠[]:=by
 rw[Zdb];split <;> simp
theorem Zxg:∀(a b:Nat),Lib.decDigits a=Lib.decDigits b->a=b:=by
 intro a
 induction a using Nat.strongRecOn with
 | _ a ih =>
  intro b h
  rw[Zdb a,Zdb b]at h;by_cases ha:a<10
  ·by_cases hb:b<10
   ·rw[if_pos ha,if_pos hb]at h;exact Zqu ha hb (by simpa using h)
   ·rw[if_pos ha,if_neg hb]at h;have hl:=congrArg List.length h;have:=List.length_pos_iff.2 (Zgo (b/10));simp at hl;exact absurd hl (Zgo _)
  ·by_cases hb:b<10
   ·rw[if_neg ha,if_pos hb]at h;have hl:=congrArg List.length h;simp at hl;exact absurd hl (Zgo _)
   ·rw[if_neg ha,if_neg hb]at h;have hl:(Lib.decDigits (a/10)).length=(Lib.decDigits (b/10)).length:=by
     have:=congrArg List.length h;simpa using this
    obtain⟨h1,h2⟩:=List.append_inj h hl;have e1:=ih (a/10) (by omega) (b/10) h1
    have e2:=Zqu (a:=a%10) (b:=b%10) (by omega) (by omega) (by simpa using h2)
    omega
def Kp.piece(s:List UInt8):List UInt8:=Lib.decDigits s.length++58::s
def Kp.key(kind word:List UInt8)(ins:List (List UInt8)):List UInt8:=Kp.piece kind++Kp.piece word++ins.flatMap Kp.piece
theorem Zjj:∀(a b r s:List UInt8),(58:UInt8)∉a->(58:UInt8)∉b->a++58::r=b++58::s->a=b/\r=s
 | [],[],r,s,_,_,h=>⟨rfl,by simpa using h⟩
 | [],y::b,r,s,_,hb,h=>by
  simp at h;exact absurd (h.1 ▸ List.mem_cons_self) hb
 | x::a,[],r,s,ha,_,h=>by
  simp at h;exact absurd (h.1 ▸ List.mem_cons_self) ha
 | x::a,y::b,r,s,ha,hb,h=>by
  simp only[List.cons_append,List.cons.injEq]at h;obtain⟨e1,e2⟩:=Zjj a b r s (fun hm=>ha (List.mem_cons_of_mem _ hm)) (fun hm=>hb (List.mem_cons_of_mem _ hm)) h.2
  exact⟨by rw[h.1,e1],e2⟩
theorem no58(n:Nat):(58:UInt8)∉Lib.decDigits n:=fun h=>by
 have:=Zqs n 58 h;simp at this
theorem Kp.piece_inj{s s' r r':List UInt8}(h:Kp.piece s++r=Kp.piece s'++r'):s=s'/\r=r':=by
 unfold Kp.piece at h;rw[List.append_assoc,List.append_assoc,List.cons_append,List.cons_append]at h;obtain⟨h1,h2⟩:=Zjj _ _ _ _ (no58 _) (no58 _) h;exact List.append_inj h2 (Zxg _ _ h1)
theorem Kp.piece_ne(s:List UInt8):Kp.piece s≠[]:=by
 unfold Kp.piece;simp
theorem Kp.flat_inj:∀(a b:List (List UInt8)),a.flatMap Kp.piece=b.flatMap Kp.piece->a=b
 | [],[],_=>rfl
 | [],y::b,h=>by
  rw[List.flatMap_nil,List.flatMap_cons]at h;exact absurd (List.append_eq_nil_iff.1 h.symm).1 (Kp.piece_ne y)
 | x::a,[],h=>by
  rw[List.flatMap_nil,List.flatMap_cons]at h;exact absurd (List.append_eq_nil_iff.1 h).1 (Kp.piece_ne x)
 | x::a,y::b,h=>by
  rw[List.flatMap_cons,List.flatMap_cons]at h;obtain⟨h1,h2⟩:=Kp.piece_inj h;rw[h1,Kp.flat_inj a b h2]
theorem Kp.key_inj{k w k' w':List UInt8}{l l':List (List UInt8)}:Kp.key k w l=Kp.key k' w' l'↔k=k'/\w=w'/\l=l':=by
 constructor
 ·intro h
  unfold Kp.key at h;rw[List.append_assoc,List.append_assoc]at h;obtain⟨h1,h2⟩:=Kp.piece_inj h;obtain⟨h3,h4⟩:=Kp.piece_inj h2;exact⟨h1,h3,Kp.flat_inj _ _ h4⟩
 ·rintro⟨rfl,rfl,rfl⟩;rfl
namespace Bf
inductive St where
 | no | waits | done (s:List UInt8) (hit:Bool) | failed (why:Nat) | left
def St.isWaits:St->Bool | .waits=>true | _=>false
def St.isDone:St->Bool | .done _ _=>true | _=>false
def St.isBad:St->Bool | .failed _=>true | .left=>true | _=>false
def St.isNo:St->Bool | .no=>true | _=>false
def St.isFailed:St->Bool | .failed _=>true | _=>false
def St.isLeft:St->Bool | .left=>true | _=>false
def St.name:St->List UInt8
 | .no=>[]
 | .waits=>[119,97,105,116,115]
 | .done _ _=>[100,111,110,101]
 | .failed _=>[102,97,105,108,101,100]
 | .left=>[108,101,102,116]
def St.out:St->List UInt8 | .done s _=>s | _=>[]
def St.hit:St->Bool | .done _ h=>h | _=>false
def St.why:St->Nat | .failed c=>c | _=>0
theorem St.name_waits(s:St):(s.name==[119,97,105,116,115])=s.isWaits:=by cases s <;> rfl
theorem St.name_done(s:St):(s.name==[100,111,110,101])=s.isDone:=by cases s <;> rfl
theorem St.name_failed(s:St):(s.name==[102,97,105,108,101,100])=s.isFailed:=by cases s <;> rfl
theorem St.name_left(s:St):(s.name==[108,101,102,116])=s.isLeft:=by cases s <;> rfl
theorem St.name_no(s:St):(s.name==[])=s.isNo:=by cases s <;> rfl
theorem St.bad_eq(s:St):s.isBad=(s.isFailed||s.isLeft):=by cases s <;> rfl
theorem St.waits_eq{s:St}(h:s.isWaits=true):s=.waits:=by cases s <;> first | rfl | cases h
structure Bd where
 fs:Tf.Fs
 l:List Ru
 st:Nat->St
def setS(st:Nat->St)(i:Nat)(s:St):Nat->St:=fun j=>if j=i then s else st j
theorem setS_same(st:Nat->St)(i:Nat)(s:St):setS st i s i=s:=if_pos rfl
variable {i j:Nat}
theorem setS_other{st:Nat->St}{s:St}(h:j≠i):setS st i s j=st j:=if_neg h
def Bd.set(d:Bd)(i:Nat)(s:St):Bd:={ d with st:=setS d.st i s }
def freeTo(l:List Ru)(st:Nat->St)(i m:Nat):Bool:=(List.range m).all fun k=> !(Ru.needs l i k&& !(st k).isDone)
theorem freeTo_zero(l:List Ru)(st:Nat->St)(i:Nat):freeTo l st i 0=true:=rfl
theorem freeTo_succ(l:List Ru)(st:Nat->St)(i m:Nat):freeTo l st i (m+1)=(freeTo l st i m&& !(Ru.needs l i m&& !(st m).isDone)):=by
 unfold freeTo;rw[List.range_succ,List.all_append];simp
def Bd.isReady(d:Bd)(i:Nat):Bool:=(d.st i).isWaits&&freeTo d.l d.st i d.l.length
def Bd.readyTo(d:Bd)(m:Nat):List Nat:=(List.range m).filter d.isReady
def Bd.ready(d:Bd):List Nat:=d.readyTo d.l.length
theorem readyTo_succ(d:Bd)(m:Nat):d.readyTo (m+1)=d.readyTo m++(if d.isReady m=true then [m] else []):=by
 unfold Bd.readyTo;rw[List.range_succ,List.filter_append];congr 1
 by_cases h:d.isReady m=true
 ·rw[if_pos h,List.filter_cons_of_pos h];rfl
 ·rw[if_neg h,List.filter_cons_of_neg h];rfl
theorem readyTo_len(d:Bd)(m:Nat):(d.readyTo m).length<=m:=by
 have:=List.length_filter_le d.isReady (List.range m);simpa[Bd.readyTo] using this
theorem mem_ready{d:Bd}:i∈d.ready↔i<d.l.length/\d.isReady i=true:=by
 unfold Bd.ready Bd.readyTo;rw[List.mem_filter,List.mem_range]
variable {k:Nat}
theorem ready_free{d:Bd}(h:d.isReady i=true)(hk:k<d.l.length)(hn:Ru.needs d.l i k=true):(d.st k).isDone=true:=by
 unfold Bd.isReady freeTo at h;rw[Bool.and_eq_true,List.all_eq_true]at h;have:=h.2 k (List.mem_range.2 hk);rw[hn]at this;simpa using this
theorem ready_waits{d:Bd}(h:d.isReady i=true):d.st i=.waits:=by
 unfold Bd.isReady at h;rw[Bool.and_eq_true]at h;exact St.waits_eq h.1
inductive Chain (l:List Ru) (st:Nat->St):Nat->Prop
 | one {k j:Nat}:Ru.needs l k j=true->(st j).isBad=true->Chain l st k
 | more {k j:Nat}:Ru.needs l k j=true->(st j).isWaits=true->Chain l st j->Chain l st k
open Classical in
noncomputable def spread(l:List Ru)(st:Nat->St):Nat->St:=fun k=>if (st k).isWaits=true/\Chain l st k then .left else st k
noncomputable def Bd.fail(d:Bd)(i c:Nat):Bd:={ d with st:=spread d.l (setS d.st i (.failed c)) }
def mkr(l:List Ru)(x:List UInt8):Option Nat:=l.findIdx? fun r=>r.out==x
def Bd.bytes(d:Bd)(x:List UInt8):Option (List UInt8) :=
 match mkr d.l x with
 | some j=>some (d.st j).out
 | none=>Tf.get d.fs x
def inB(f:List UInt8->Option (List UInt8)):List (List UInt8)->Option (List (List UInt8))
 | []=>some []
 | x::r=>match f x with
  | none=>none
  | some b=>(inB f r).map (b::·)
theorem inB_snoc(f:List UInt8->Option (List UInt8)):∀(a:List (List UInt8)) (x:List UInt8) {o:List (List UInt8)},inB f a=some o->inB f (a++[x])=(f x).map fun b=>o++[b]
 | [],x,o,h=>by
  cases h
  show inB f [x]=_
  unfold inB inB;cases f x <;> rfl
 | y::r,x,o,h=>by
  unfold inB at h;rw[List.cons_append];unfold inB;cases hy:f y with
  | none=>rw[hy]at h;cases h
  | some b =>
   rw[hy]at h;cases hr:inB f r with
   | none=>rw[hr]at h;cases h
   | some q =>
    rw[hr]at h;obtain rfl:b::q=o:=by simpa using h
    have:=inB_snoc f r x hr;simp only[this];cases f x <;> rfl
theorem inB_bad(f:List UInt8->Option (List UInt8)):∀(a:List (List UInt8)) (x:List UInt8) (r:List (List UInt8)),f x=none->inB f (a++x::r)=none
 | [],x,r,h=>by
  show inB f (x::r)=none
  unfold inB;rw[h]
 | y::a,x,r,h=>by
  rw[List.cons_append];unfold inB;cases f y with
  | none=>rfl
  | some b=>simp only[inB_bad f a x r h];rfl
theorem inB_len{f:List UInt8->Option (List UInt8)}:∀ {a o:List (List UInt8)},inB f a=some o->o.length=a.length
 | [],o,h=>by cases h;rfl
 | y::r,o,h=>by
  unfold inB at h;cases hy:f y with
  | none=>rw[hy]at h;cases h
  | some b =>
   rw[hy]at h;cases hr:inB f r with
   | none=>rw[hr]at h;cases h
   | some q =>
    rw[hr]at h;obtain rfl:b::q=o:=by simpa using h
    simp[inB_len hr]
theorem Zzy{f:List UInt8->Option (List UInt8)}:∀ {a o:List (List UInt8)},inB f a=some o->∀ b∈o,∃ x∈a,f x=some b
 | [],o,h,b,hb=>by cases h;cases hb
 | y::r,o,h,b,hb=>by
  unfold inB at h;cases hy:f y with
  | none=>rw[hy]at h;cases h
  | some c =>
   rw[hy]at h;cases hr:inB f r with
   | none=>rw[hr]at h;cases h
   | some q =>
    rw[hr]at h;obtain rfl:c::q=o:=by simpa using h
    rcases List.mem_cons.1 hb with rfl | hb
    ·exact⟨y,by simp,hy⟩
    ·obtain⟨x,hx,e⟩:=Zzy hr b hb;exact⟨x,List.mem_cons_of_mem _ hx,e⟩
abbrev Ca:Type:=Option (Nat×Cf.Ens)
def cfind:Ca->List UInt8->Option (List UInt8)
 | some (_,l),k=>Cf.find l k
 | none,_=>none
def cget:Ca->List UInt8->Ca
 | some (m,l),k=>some (m,Cf.get m l k)
 | none,_=>none
def cput:Ca->List UInt8->List UInt8->Ca
 | some (m,l),k,b=>some (m,Cf.put m l k b)
 | none,_,_=>none
structure Res where
 hit:Bool
 code:Nat
 d:Bd
 c:Ca
abbrev Act:Type:=List UInt8->List UInt8->List (List UInt8)->List UInt8×Nat
def Bd.rule(d:Bd)(i:Nat):Ru:=d.l.getD i ⟨[],[],[],[]⟩
def Bd.ins(d:Bd)(i:Nat):Option (List (List UInt8)):=inB d.bytes (d.rule i).ins
noncomputable def go(act:Act)(c:Ca)(d:Bd)(i:Nat):Res :=
 match d.ins i with
 | none=>⟨false,0,d.fail i 6,c⟩
 | some xs =>
  match cfind c (Kp.key (d.rule i).kind (d.rule i).word xs) with
  | some s=>⟨true,0,d.set i (.done s true),cget c (Kp.key (d.rule i).kind (d.rule i).word xs)⟩
  | none =>
   if (act (d.rule i).kind (d.rule i).word xs).2=0 then ⟨false,0,d.set i (.done (act (d.rule i).kind (d.rule i).word xs).1 false),cput c (Kp.key (d.rule i).kind (d.rule i).word xs) (act (d.rule i).kind (d.rule i).word xs).1⟩
   else ⟨false,0,d.fail i (act (d.rule i).kind (d.rule i).word xs).2,c⟩
noncomputable def runN(act:Act)(c:Ca)(d:Bd)(i:Nat):Res :=
 if (d.st i).isNo=true then ⟨false,6,d,c⟩
 else if (d.st i).isWaits=false then ⟨false,12,d,c⟩
 else if d.isReady i=false then ⟨false,11,d,c⟩
 else go act c d i
noncomputable def run(act:Act)(c:Ca)(d:Bd)(i:Int):Res :=
 if i<0\/(d.l.length:Int)<=i then ⟨false,6,d,c⟩ else runN act c d i.toNat
def many(st:Nat->St)(p:St->Bool):Nat->Nat
 | 0=>0
 | n+1=>many st p n+(if p (st n)=true then 1 else 0)
theorem many_le(st:Nat->St)(p:St->Bool):∀ n,many st p n<=n
 | 0=>Nat.le_refl _
 | n+1=>by
  have:=many_le st p n;unfold many;split <;> omega
theorem Zdo{st st':Nat->St}{p:St->Bool}{i:Nat}:∀ {n:Nat},i<n->p (st i)=true->p (st' i)=false->(∀ k,p (st' k)=true->p (st k)=true)->many st' p n<many st p n
 | 0,h,_,_,_=>by omega
 | n+1,h,h1,h2,h3=>by
  have hle:∀ m,many st' p m<=many st p m:=by
   intro m
   induction m with
   | zero=>exact Nat.le_refl _
   | succ m ih =>
    unfold many;by_cases hp:p (st' m)=true
    ·rw[if_pos hp,if_pos (h3 m hp)];omega
    ·rw[if_neg hp];split <;> omega
  unfold many;by_cases e:i=n
  ·subst e;have:=hle i;rw[if_pos h1,if_neg (by rw[h2];simp)]
   omega
  ·have ih:=Zdo (n:=n) (by omega) h1 h2 h3
   by_cases hp:p (st' n)=true
   ·rw[if_pos hp,if_pos (h3 n hp)];omega
   ·rw[if_neg hp];split <;> omega
def Bd.waits(d:Bd):Nat:=many d.st St.isWaits d.l.length
theorem Zop{l:List Ru}{st:Nat->St}(h:(spread l st k).isWaits=true):(st k).isWaits=true/\¬ Chain l st k:=by
 unfold spread at h;split at h
 ·cases h
 ·rename_i hn
  exact⟨h,fun hc=>hn ⟨h,hc⟩⟩
theorem Zbh{l:List Ru}{st:Nat->St}(h:(st k).isWaits=false):spread l st k=st k:=by
 unfold spread;rw[if_neg (by rw[h];simp)]
theorem go_less(act:Act)(c:Ca)(d:Bd)(i:Nat)(hi:i<d.l.length)(hr:d.isReady i=true):(go act c d i).d.waits<d.waits/\(go act c d i).d.l=d.l/\(go act c d i).d.fs=d.fs:=by
 have hw:=ready_waits hr;have hset:∀ s:St,s.isWaits=false->(d.set i s).waits<d.waits:=fun s hs=>by
  refine Zdo (i:=i) hi (by rw[hw];rfl) ?_ fun k hk=> ?_
  ·show(setS d.st i s i).isWaits=false
   rw[setS_same];exact hs
  ·have hk':(setS d.st i s k).isWaits=true:=hk;by_cases e:k=i
   ·rw[e,hw];rfl
   ·rwa[setS_other e]at hk'
 have hfail:∀ e,(d.fail i e).waits<d.waits:=fun e=>by
  refine Zdo (i:=i) hi (by rw[hw];rfl) ?_ fun k hk=> ?_
  ·show(spread d.l (setS d.st i (.failed e)) i).isWaits=false
   rw[Zbh (by rw[setS_same];rfl),setS_same];rfl
  ·have hk':=(Zop (show(spread d.l (setS d.st i (.failed e)) k).isWaits=true from hk)).1
   by_cases e:k=i
   ·rw[e,hw];rfl
   ·rwa[setS_other e]at hk'
 unfold go;split
 ·exact⟨hfail _,rfl,rfl⟩
 ·split
  ·exact⟨hset _ rfl,rfl,rfl⟩
  ·split
   ·exact⟨hset _ rfl,rfl,rfl⟩
   ·exact⟨hfail _,rfl,rfl⟩
theorem run_ready(act:Act)(c:Ca)(d:Bd)(i:Nat)(hi:i<d.l.length)(hr:d.isReady i=true):run act c d i=go act c d i:=by
 have hw:=ready_waits hr;unfold run runN;rw[if_neg (by omega),if_neg (by simp[hw,St.isNo]),if_neg (by simp[hw,St.isWaits]),if_neg (by simp[hr])]
 simp
noncomputable def allF(act:Act):Nat->Ca->Bd->Bd×Ca
 | 0,c,d=>(d,c)
 | f+1,c,d =>
  match d.ready with
  | []=>(d,c)
  | i::_=>allF act f (go act c d i).c (go act c d i).d
noncomputable def all(act:Act)(c:Ca)(d:Bd):Bd×Ca:=allF act (d.waits+1) c d
theorem Zjr(act:Act):∀(f f':Nat) (c:Ca) (d:Bd),d.waits<f->d.waits<f'->allF act f c d=allF act f' c d
 | 0,_,_,_,h,_=>by omega
 | _,0,_,_,_,h=>by omega
 | f+1,f'+1,c,d,h,h'=>by
  unfold allF;cases hr:d.ready with
  | nil=>rfl
  | cons i r =>
   have hm:=mem_ready.1 (show i∈d.ready by rw[hr];simp)
   have:=(go_less act c d i hm.1 hm.2).1;exact Zjr act f f' _ _ (by omega) (by omega)
theorem all_nil(act:Act)(c:Ca)(d:Bd)(h:d.ready=[]):all act c d=(d,c):=by
 unfold all allF;rw[h]
theorem all_cons(act:Act)(c:Ca)(d:Bd){r:List Nat}(h:d.ready=i::r):all act c d=all act (go act c d i).c (go act c d i).d:=by
 have hm:=mem_ready.1 (show i∈d.ready by rw[h];simp)
 have:=(go_less act c d i hm.1 hm.2).1;conv=>lhs;unfold all allF
 rw[h];exact Zjr act _ _ _ _ (by omega) (by omega)
def Later(a b:Nat->St):Prop:=∀ k,b k=a k\/((a k).isWaits=true/\b k=.left)
theorem Later.refl(a:Nat->St):Later a a:=fun _=>.inl rfl
theorem Later.bad{a b:Nat->St}(h:Later a b)(hk:(a k).isBad=true):(b k).isBad=true:=by
 rcases h k with e | ⟨_,e⟩
 ·rw[e];exact hk
 ·rw[e];rfl
theorem Later.waits{a b:Nat->St}(h:Later a b)(hk:(b k).isWaits=true):(a k).isWaits=true:=by
 rcases h k with e | ⟨_,e⟩
 ·rw[<- e];exact hk
 ·rw[e]at hk;cases hk
def Mid(l:List Ru)(a b:Nat->St):Prop:=∀ k,b k=a k\/((a k).isWaits=true/\Chain l a k/\b k=.left)
theorem Mid.refl(l:List Ru)(a:Nat->St):Mid l a a:=fun _=>.inl rfl
theorem Mid.later{l:List Ru}{a b:Nat->St}(h:Mid l a b):Later a b:=fun k=>(h k).imp_right fun x=>⟨x.1,x.2.2⟩
theorem Mid.step{l:List Ru}{a b:Nat->St}(h:Mid l a b)(hw:(b k).isWaits=true)(hb:(b j).isBad=true)(hn:Ru.needs l k j=true):Mid l a (setS b k .left):=by
 intro x
 by_cases e:x=k
 ·subst e;right
  rw[setS_same];refine⟨h.later.waits hw,?_,rfl⟩;rcases h j with e1 | ⟨w1,c1,_⟩
  ·exact .one hn (e1 ▸ hb)
  ·exact .more hn w1 c1
 ·rw[setS_other e];exact h x
def Closed(l:List Ru)(b:Nat->St):Prop:=∀ k j,Ru.needs l k j=true->(b j).isBad=true->(b k).isWaits=false
theorem Mid.closed{l:List Ru}{a b:Nat->St}(h:Mid l a b)(hc:Closed l b):∀ k,b k=spread l a k:=by
 have key:∀ k,Chain l a k->(a k).isWaits=true->b k=.left:=by
  intro k hk
  induction hk with
  | @one k j hn hb =>
   intro hw
   have h1:=hc k j hn (h.later.bad hb);rcases h k with e | ⟨_,_,e⟩
   ·rw[e,hw]at h1;cases h1
   ·exact e
  | @more k j hn hwj _ ih =>
   intro hw
   have h1:=hc k j hn (by rw[ih hwj];rfl)
   rcases h k with e | ⟨_,_,e⟩
   ·rw[e,hw]at h1;cases h1
   ·exact e
 intro k
 unfold spread;split
 ·rename_i hx
  exact key k hx.2 hx.1
 ·rename_i hx
  rcases h k with e | ⟨h1,h2,_⟩
  ·exact e
  ·exact absurd ⟨h1,h2⟩ hx
structure Sweep(l:List Ru)(s0 s1 cur:Nat->St)(a b:Nat):Prop where
 mid:Mid l s0 cur
 later:Later s1 cur
 seen:∀ k j,(k<a\/(k=a/\j<b))->j<l.length->Ru.needs l k j=true->(s1 j).isBad=true->(cur k).isWaits=false
theorem Sweep.start{l:List Ru}{s0 cur:Nat->St}(h:Mid l s0 cur):Sweep l s0 cur cur 0 0:=⟨h,Later.refl _,fun k j hk=>by omega⟩
variable {a:Nat}
theorem Sweep.hit{l:List Ru}{s0 s1 cur:Nat->St}{b:Nat}(h:Sweep l s0 s1 cur a b)(hw:(cur a).isWaits=true)(hb:(cur b).isBad=true)(hn:Ru.needs l a b=true):Sweep l s0 s1 (setS cur a .left) a (b+1):=by
 refine⟨h.mid.step hw hb hn,fun k=> ?_,fun k j hk hj hnk hbj=> ?_⟩
 ·by_cases e:k=a
  ·subst e;right
   rw[setS_same];exact⟨h.later.waits hw,rfl⟩
  ·rw[setS_other e];exact h.later k
 ·by_cases e:k=a
  ·subst e;rw[setS_same];rfl
  ·rw[setS_other e];exact h.seen k j (by omega) hj hnk hbj
theorem Sweep.miss{l:List Ru}{s0 s1 cur:Nat->St}{b:Nat}(h:Sweep l s0 s1 cur a b)(hm:((cur a).isWaits&&(cur b).isBad&&Ru.needs l a b)=false):Sweep l s0 s1 cur a (b+1):=by
 refine⟨h.mid,h.later,fun k j hk hj hnk hbj=> ?_⟩
 by_cases e:k=a/\j=b
 ·obtain⟨rfl,rfl⟩:=e;rw[h.later.bad hbj,hnk]at hm;simpa using hm
 ·exact h.seen k j (by omega) hj hnk hbj
theorem Sweep.row{l:List Ru}{s0 s1 cur:Nat->St}(h:Sweep l s0 s1 cur a l.length):Sweep l s0 s1 cur (a+1) 0 :=
 ⟨h.mid,h.later,fun k j hk hj=>h.seen k j (by omega) hj⟩
structure Round(l:List Ru)(s0 cur:Nat->St)(r:Nat):Prop where
 mid:Mid l s0 cur
 less:Closed l cur\/many cur St.isWaits l.length+r<=many s0 St.isWaits l.length
theorem Round.start(l:List Ru)(s0:Nat->St):Round l s0 s0 0:=⟨Mid.refl _ _,.inr (Nat.le_refl _)⟩
theorem Round.next{l:List Ru}{s0 s1 cur:Nat->St}{r:Nat}(h:Round l s0 s1 r)(hs:Sweep l s0 s1 cur l.length 0):Round l s0 cur (r+1):=by
 refine⟨hs.mid,?_⟩;by_cases hc:Closed l s1
 ·left
  have e:∀ k,cur k=s1 k:=fun k=>by
   rcases hs.mid.later k with h1 | ⟨h1,h2⟩
   ·rcases hs.later k with h3 | ⟨h3,h4⟩
    ·exact h3
    ·rcases hs.mid k with h5 | ⟨h5,h6,h7⟩
     ·have hw1:(s0 k).isWaits=true:=h.mid.later.waits h3;rw[<- h5,h4]at hw1;cases hw1
     ·rw[h1]at h7;rw[h7]at h5;cases h5
   ·rcases hs.mid k with h5 | ⟨h5,h6,h7⟩
    ·rw[h2]at h5;rw[<- h5]at h1;cases h1
    ·have h8:=h.mid.closed hc k;rw[h8,h7];unfold spread;rw[if_pos ⟨h5,h6⟩]
  intro k j hn hb
  rw[e k];exact hc k j hn (e j ▸ hb)
 ·right
  have hl:many s1 St.isWaits l.length+r<=many s0 St.isWaits l.length:=by
   rcases h.less with h1 | h1
   ·exact absurd h1 hc
   ·exact h1
  have:∃ k j,Ru.needs l k j=true/\(s1 j).isBad=true/\(s1 k).isWaits=true:=by
   refine Classical.byContradiction fun hx=>hc fun k j hn hb=> ?_
   cases hw:(s1 k).isWaits with
   | false=>rfl
   | true=>exact absurd ⟨k,j,hn,hb,hw⟩ hx
  obtain⟨k,j,hn,hb,hw⟩:=this;have hlt:=Ru.needs_lt hn;have h2:=hs.seen k j (.inl hlt.1) hlt.2 hn hb;have:=Zdo (p:=St.isWaits) (st:=s1) (st':=cur) (i:=k) (n:=l.length) hlt.1 hw h2 fun x hx=>hs.later.waits hx
  omega
theorem Round.end{l:List Ru}{s0 cur:Nat->St}(h:Round l s0 cur l.length)(hi:i<l.length)(hf:(s0 i).isWaits=false):∀ k,cur k=spread l s0 k:=by
 refine h.mid.closed ?_;rcases h.less with h1 | h1
 ·exact h1
 ·exfalso
  have:∀ n,i<n->many s0 St.isWaits n<n:=by
   intro n
   induction n with
   | zero=>intro h;omega
   | succ n ih =>
    intro hn
    unfold many;by_cases e:i=n
    ·subst e;have:=many_le s0 St.isWaits i;rw[if_neg (by rw[hf];simp)]
     omega
    ·have:=ih (by omega)
     split <;> omega
  have:=this l.length hi;omega
structure Fit(d:Bd):Prop where
 files:∀ f∈d.fs,f.2.length<=2000
 outs:∀ k,(d.st k).out.length<=2000
 whys:∀ k,(d.st k).why<=12
def CFit:Ca->Prop
 | none=>True
 | some (m,l)=>1<=m/\m<=100/\Cf.Ok m l/\∀ e∈l,e.2.length<=2000
def ActFit(act:Act):Prop:=∀ k w xs,(act k w xs).2<=12/\((act k w xs).2=0->(act k w xs).1.length<=2000)
variable {b:List UInt8}
theorem get_mem{fs:Tf.Fs}{p:List UInt8}(h:Tf.get fs p=some b):(p,b)∈fs:=by
 unfold Tf.get at h;cases hf:fs.find? fun f=>f.1==p with
 | none=>rw[hf]at h;cases h
 | some e =>
  rw[hf]at h;have h1:=List.find?_some hf;have h2:=List.mem_of_find?_eq_some hf;have e1:e.1=p:=by simpa using h1
  have e2:e.2=b:=by simpa using h
  rw[<- e1,<- e2];exact h2
theorem Fit.bytes{d:Bd}(h:Fit d){x b:List UInt8}(hb:d.bytes x=some b):b.length<=2000:=by
 unfold Bd.bytes at hb;split at hb
 ·rename_i j _
  rw[<- Option.some.inj hb];exact h.outs j
 ·exact h.files _ (get_mem hb)
theorem Fit.ins{d:Bd}(h:Fit d){i:Nat}{xs:List (List UInt8)}(hx:d.ins i=some xs):xs.length=(d.rule i).ins.length/\∀ x∈xs,x.length<=2000 :=
 ⟨inB_len hx,fun x hxm=>by
  obtain⟨y,_,hy⟩:=Zzy hx x hxm;exact h.bytes hy⟩
theorem Fit.set{d:Bd}(h:Fit d)(i:Nat){s:St}(hs:s.out.length<=2000)(hw:s.why<=12):Fit (d.set i s) :=
 ⟨h.files,fun k=>by
  show(setS d.st i s k).out.length<=2000
  unfold setS;split
  ·exact hs
  ·exact h.outs k,fun k=>by
  show(setS d.st i s k).why<=12
  unfold setS;split
  ·exact hw
  ·exact h.whys k⟩
theorem Fit.fail{d:Bd}(h:Fit d)(i:Nat){c:Nat}(hc:c<=12):Fit (d.fail i c) :=
 ⟨h.files,fun k=>by
  show(spread d.l (setS d.st i (.failed c)) k).out.length<=2000
  unfold spread;split
  ·simp[St.out]
  ·unfold setS;split
   ·simp[St.out]
   ·exact h.outs k,fun k=>by
  show(spread d.l (setS d.st i (.failed c)) k).why<=12
  unfold spread;split
  ·simp[St.why]
  ·unfold setS;split
   ·simpa[St.why] using hc
   ·exact h.whys k⟩
theorem CFit.find{c:Ca}(h:CFit c){k:List UInt8}(hf:cfind c k=some b):b.length<=2000:=by
 match c,h,hf with
 | some (m,l),h,hf=>exact h.2.2.2 _ (Cf.find_some hf)
theorem mem_put{m:Nat}{l:Cf.Ens}{k:List UInt8}{e:Cf.En}(h:e∈Cf.put m l k b):e∈l\/e=(k,b):=by
 have h1:e∈Cf.rm l k++[(k,b)]:=by
  unfold Cf.put Cf.cut at h;split at h
  ·exact(List.drop_sublist 1 _).subset h
  ·exact h
 rcases List.mem_append.1 h1 with h2 | h2
 ·exact .inl (Cf.mem_rm.1 h2).1
 ·exact .inr (List.mem_singleton.1 h2)
theorem CFit.put{c:Ca}(h:CFit c)(k:List UInt8){b:List UInt8}(hb:b.length<=2000):CFit (cput c k b):=by
 match c,h with
 | none,_=>trivial
 | some (m,l),h =>
  refine⟨h.1,h.2.1,h.2.2.1.put k b,fun e he=> ?_⟩
  rcases mem_put he with h1 | h1
  ·exact h.2.2.2 e h1
  ·rw[h1];exact hb
theorem CFit.get{c:Ca}(h:CFit c)(k:List UInt8):CFit (cget c k):=by
 match c,h with
 | none,_=>trivial
 | some (m,l),h =>
  refine⟨h.1,h.2.1,h.2.2.1.get k,fun e he=> ?_⟩
  have he':e∈Cf.get m l k:=he;unfold Cf.get at he';split at he'
  ·rename_i b hb
   rcases mem_put he' with h1 | h1
   ·exact h.2.2.2 e h1
   ·rw[h1];exact h.2.2.2 _ (Cf.find_some hb)
  ·exact h.2.2.2 e he'
variable {act:Act}
theorem go_fit(ha:ActFit act){c:Ca}{d:Bd}(hc:CFit c)(hd:Fit d)(i:Nat):Fit (go act c d i).d/\CFit (go act c d i).c:=by
 unfold go;split
 ·exact⟨hd.fail _ (by omega),hc⟩
 ·split
  ·rename_i s hs
   exact⟨hd.set _ (hc.find hs) (by simp[St.why]),hc.get _⟩
  ·split
   ·rename_i h0
    exact⟨hd.set _ ((ha _ _ _).2 h0) (by simp[St.why]),hc.put _ ((ha _ _ _).2 h0)⟩
   ·exact⟨hd.fail _ (ha _ _ _).1,hc⟩
def winB(f:List UInt8->List UInt8×Nat):List (List UInt8)->List (List UInt8)×Nat
 | []=>([],0)
 | x::r=>if (f x).2=0 then ((f x).1::(winB f r).1,(winB f r).2) else ([],(f x).2)
def wrule(act:Act)(f:List UInt8->List UInt8×Nat)(r:Ru):List UInt8×Nat :=
 if (winB f r.ins).2=0 then act r.kind r.word (winB f r.ins).1 else ([],(winB f r.ins).2)
structure Wanted(act:Act)(fs:Tf.Fs)(l:List Ru)(N:Nat->Prop)(f:List UInt8->List UInt8×Nat):Prop where
 rule:∀ x i,mkr l x=some i->N i->f x=wrule act f (l.getD i ⟨[],[],[],[]⟩)
 file:∀ x b,mkr l x=none->Tf.get fs x=some b->f x=(b,0)
 lacks:∀ x,mkr l x=none->Tf.get fs x=none->f x=([],6)
theorem Zla{f g:List UInt8->List UInt8×Nat}:∀ {a:List (List UInt8)},(∀ x∈a,f x=g x)->winB f a=winB g a
 | [],_=>rfl
 | x::r,h=>by
  unfold winB;rw[h x (by simp),Zla fun y hy=>h y (List.mem_cons_of_mem _ hy)]
variable {f:List UInt8->List UInt8×Nat}
theorem Zib{g:List UInt8->List UInt8×Nat}{r:Ru}(h:∀ x∈r.ins,f x=g x):wrule act f r=wrule act g r:=by
 unfold wrule;rw[Zla h]
theorem Zuh{f:List UInt8->List UInt8×Nat}:∀ {a:List (List UInt8)} {x:List UInt8},x∈a->(f x).2≠0->(winB f a).2≠0
 | y::r,x,hx,h=>by
  unfold winB;by_cases hy:(f y).2=0
  ·rw[if_pos hy];rcases List.mem_cons.1 hx with rfl | hx
   ·exact absurd hy h
   ·exact Zuh hx h
  ·rw[if_neg hy];exact hy
theorem Zxv{f:List UInt8->List UInt8×Nat}{g:List UInt8->Option (List UInt8)}:∀ {a:List (List UInt8)},(∀ x∈a,(∀ b,g x=some b->f x=(b,0))/\(g x=none->f x=([],6))) ->
  (∀ o,inB g a=some o->winB f a=(o,0))/\(inB g a=none->(winB f a).2=6)
 | [],_=>⟨fun o h=>by cases h;rfl,fun h=>by cases h⟩
 | x::r,h=>by
  have ih:=Zxv (f:=f) (g:=g) fun y hy=>h y (List.mem_cons_of_mem _ hy)
  have hx:=h x (by simp)
  unfold inB winB;cases hg:g x with
  | none =>
   have e:=hx.2 hg;refine⟨fun o ho=>by simp at ho,fun _=> ?_⟩
   rw[e];rfl
  | some b =>
   have e:=hx.1 b hg;rw[e];cases hr:inB g r with
   | none =>
    refine⟨fun o ho=>by simp at ho,fun _=> ?_⟩
    exact ih.2 hr
   | some q =>
    refine⟨fun o ho=> ?_,fun hn=>by simp at hn⟩
    obtain rfl:b::q=o:=by simpa using ho
    rw[ih.1 q hr];rfl
theorem mkr_of{l:List Ru}{x:List UInt8}(h:mkr l x=some k):∃ hk:k<l.length,l[k].out=x:=by
 unfold mkr at h;obtain⟨hk,h1,_⟩:=List.findIdx?_eq_some_iff_getElem.1 h;exact⟨hk,by simpa using h1⟩
theorem getD_at{l:List Ru}(hk:k<l.length):l.getD k ⟨[],[],[],[]⟩=l[k]:=by
 rw[List.getD_eq_getElem?_getD,List.getElem?_eq_getElem hk];rfl
def wantF(act:Act)(fs:Tf.Fs)(l:List Ru):Nat->List UInt8->List UInt8×Nat
 | 0,_=>([],0)
 | n+1,x =>
  match mkr l x with
  | some i=>wrule act (wantF act fs l n) (l.getD i ⟨[],[],[],[]⟩)
  | none=>match Tf.get fs x with
   | some b=>(b,0)
   | none=>([],6)
theorem Zgt{act:Act}{fs:Tf.Fs}{l:List Ru}{N:Nat->Prop}(hcl:∀ i k,N i->Ru.needs l i k=true->N k){r:Nat->Nat}(hr:∀ i k,N i->Ru.needs l i k=true->r k<r i):∀(n m:Nat) (x:List UInt8),1<=n->1<=m->(∀ i,mkr l x=some i->N i/\r i+2<=n/\r i+2<=m)->wantF act fs l n x=wantF act fs l m x
 | 0,_,_,h,_,_=>by omega
 | _,0,_,_,h,_=>by omega
 | n+1,m+1,x,_,_,h=>by
  unfold wantF;cases hm:mkr l x with
  | none=>rfl
  | some i =>
   obtain⟨hk,_⟩:=mkr_of hm;have hb:=h i hm;simp only;rw[getD_at hk];refine Zib fun y hy=> ?_
   refine Zgt hcl hr n m y (by omega) (by omega) fun j hj=> ?_
   obtain⟨hj',ej⟩:=mkr_of hj;have hnd:Ru.needs l i j=true:=by rw[Ru.needs_eq hk hj',ej];exact decide_eq_true hy
   have:=hr i j hb.1 hnd;exact⟨hcl i j hb.1 hnd,by omega,by omega⟩
variable {N:Nat->Prop}
theorem Zxx{fs:Tf.Fs}{l:List Ru}(hcl:∀ i k,N i->Ru.needs l i k=true->N k){r:Nat->Nat}(hr:∀ i k,N i->Ru.needs l i k=true->r k<r i){n:Nat}(hn:∀ i,i<l.length->N i->r i+2<=n)(h1:1<=n):Wanted act fs l N (wantF act fs l n):=by
 obtain⟨m,rfl⟩:∃ m,n=m+1:=⟨n - 1,by omega⟩
 refine⟨fun x i hx hN=> ?_,fun x b hx hb=> ?_,fun x hx hb=> ?_⟩
 ·obtain⟨hk,_⟩:=mkr_of hx;have hb:=hn i hk hN;conv=>lhs;unfold wantF
  rw[hx];simp only;rw[getD_at hk];refine Zib fun y hy=> ?_
  refine Zgt hcl hr m (m+1) y (by omega) (by omega) fun j hj=> ?_
  obtain⟨hj',ej⟩:=mkr_of hj;have hnd:Ru.needs l i j=true:=by rw[Ru.needs_eq hk hj',ej];exact decide_eq_true hy
  have:=hr i j hN hnd;exact⟨hcl i j hN hnd,by omega,by omega⟩
 ·unfold wantF;rw[hx,hb]
 ·unfold wantF;rw[hx,hb]
def CSound(act:Act):Ca->Prop
 | some (_,l)=>∀ e∈l,∀ k w xs,Kp.key k w xs=e.1->act k w xs=(e.2,0)
 | none=>True
variable {w:List UInt8}{xs:List (List UInt8)}
theorem CSound.find{c:Ca}(h:CSound act c){k:List UInt8}{s:List UInt8}(hf:cfind c (Kp.key k w xs)=some s):act k w xs=(s,0):=by
 cases c with
 | none=>cases hf
 | some c=>exact h _ (Cf.find_some hf) k w xs rfl
theorem CSound.put{c:Ca}(h:CSound act c){k:List UInt8}(h0:(act k w xs).2=0):CSound act (cput c (Kp.key k w xs) (act k w xs).1):=by
 cases c with
 | none=>trivial
 | some c =>
  intro e he k' w' xs' hk
  rcases mem_put he with h1 | h1
  ·exact h e h1 k' w' xs' hk
  ·subst h1;obtain⟨rfl,rfl,rfl⟩:=Kp.key_inj.1 hk;exact Prod.ext rfl h0
theorem CSound.get{act:Act}{c:Ca}(h:CSound act c)(k:List UInt8):CSound act (cget c k):=by
 cases c with
 | none=>trivial
 | some c =>
  intro e he
  have he':e∈Cf.get c.1 c.2 k:=he;unfold Cf.get at he';split at he'
  ·rename_i b hb
   rcases mem_put he' with h1 | h1
   ·exact h e h1
   ·rw[h1];exact h _ (Cf.find_some hb)
  ·exact h e he'
structure Makes(act:Act)(N:Nat->Prop)(f:List UInt8->List UInt8×Nat)(d:Bd):Prop where
 inN:∀ k,(d.st k).isNo=false->N k
 done:∀ k s b,d.st k=.done s b->wrule act f (d.rule k)=(s,0)
 bad:∀ k,(d.st k).isBad=true->(wrule act f (d.rule k)).2≠0
theorem Makes.init{d:Bd}(hN:∀ k,(d.st k).isNo=false->N k)(h:∀ k,(d.st k).isWaits=true\/(d.st k).isNo=true):Makes act N f d:=by
 refine⟨hN,fun k s b e=> ?_,fun k hb=> ?_⟩
 ·rcases h k with h | h <;> rw[e]at h <;> cases h
 ·cases hs:d.st k <;> rw[hs]at hb <;> have h:=h k <;> rw[hs]at h <;> first | (rcases h with h | h <;> cases h;done) | cases hb
theorem Zia{fs:Tf.Fs}{l:List Ru}(hw:Wanted act fs l N f)(hA:∀ k (hk:k<l.length),mkr l l[k].out=some k)(hn:Ru.needs l k j=true)(hN:N j)(hb:(wrule act f (l.getD j ⟨[],[],[],[]⟩)).2≠0):(wrule act f (l.getD k ⟨[],[],[],[]⟩)).2≠0:=by
 obtain⟨hk,hj⟩:=Ru.needs_lt hn;rw[Ru.needs_eq hk hj]at hn;have hm:=of_decide_eq_true hn;have e:=hw.rule _ j (hA j hj) hN;rw[<- e]at hb;have:=Zuh (f:=f) hm hb;rw[getD_at hk];unfold wrule;rw[if_neg this];exact this
theorem Makes.set{act:Act}{N:Nat->Prop}{f:List UInt8->List UInt8×Nat}{d:Bd}(h:Makes act N f d){i:Nat}(hi:N i){s:List UInt8}{b:Bool}(hs:wrule act f (d.rule i)=(s,0)):Makes act N f (d.set i (.done s b)):=by
 refine⟨fun k hk=> ?_,fun k s' b' e=> ?_,fun k hb=> ?_⟩
 ·have hk':(setS d.st i (.done s b) k).isNo=false:=hk;by_cases e:k=i
  ·subst e;exact hi
  ·rw[setS_other e]at hk';exact h.inN k hk'
 ·have e':setS d.st i (.done s b) k=.done s' b':=e;by_cases hk:k=i
  ·subst hk;rw[setS_same]at e';injection e' with e1 e2
   rw[<- e1];exact hs
  ·rw[setS_other hk]at e';exact h.done k s' b' e'
 ·have e':(setS d.st i (.done s b) k).isBad=true:=hb;by_cases hk:k=i
  ·subst hk;rw[setS_same]at e';cases e'
  ·rw[setS_other hk]at e';exact h.bad k e'
theorem Makes.fail{act:Act}{fs:Tf.Fs}{N:Nat->Prop}{f:List UInt8->List UInt8×Nat}{d:Bd}(hw:Wanted act fs d.l N f)(hA:∀ k (hk:k<d.l.length),mkr d.l d.l[k].out=some k)(h:Makes act N f d){i c:Nat}(hi:N i)(hs:(wrule act f (d.rule i)).2≠0):Makes act N f (d.fail i c):=by
 have hN0:∀ k,(setS d.st i (.failed c) k).isNo=false->N k:=fun k hk=>by
  by_cases e:k=i
  ·subst e;exact hi
  ·rw[setS_other e]at hk;exact h.inN k hk
 have no_bad:∀ s:St,s.isBad=true->s.isNo=false:=fun s hs=>by cases s <;> first | rfl | cases hs
 have no_waits:∀ s:St,s.isWaits=true->s.isNo=false:=fun s hs=>by cases s <;> first | rfl | cases hs
 have hbad0:∀ k,(setS d.st i (.failed c) k).isBad=true->(wrule act f (d.rule k)).2≠0:=fun k hb=>by
  by_cases hk:k=i
  ·subst hk;exact hs
  ·rw[setS_other hk]at hb;exact h.bad k hb
 have hch:∀ k,Chain d.l (setS d.st i (.failed c)) k->(wrule act f (d.rule k)).2≠0:=fun k hc=>by
  induction hc with
  | one hn hb=>exact Zia hw hA hn (hN0 _ (no_bad _ hb)) (hbad0 _ hb)
  | more hn hwt _ ih=>exact Zia hw hA hn (hN0 _ (no_waits _ hwt)) ih
 refine⟨fun k hk=> ?_,fun k s' b' e=> ?_,fun k hb=> ?_⟩
 ·have hk':(spread d.l (setS d.st i (.failed c)) k).isNo=false:=hk;unfold spread at hk';split at hk'
  ·rename_i hx;exact hN0 k (no_waits _ hx.1)
  ·exact hN0 k hk'
 ·have e':spread d.l (setS d.st i (.failed c)) k=.done s' b':=e;unfold spread at e';split at e'
  ·cases e'
  ·by_cases hk:k=i
   ·subst hk;rw[setS_same]at e';cases e'
   ·rw[setS_other hk]at e';exact h.done k s' b' e'
 ·have e':(spread d.l (setS d.st i (.failed c)) k).isBad=true:=hb;unfold spread at e';split at e'
  ·rename_i hx;exact hch k hx.2
  ·exact hbad0 k e'
theorem Ycp{c:Ca}{d:Bd}(hw:Wanted act d.fs d.l N f)(hA:∀ k (hk:k<d.l.length),mkr d.l d.l[k].out=some k)(hc:CSound act c)(h:Makes act N f d)(hi:i<d.l.length)(hr:d.isReady i=true):
  Makes act N f (go act c d i).d/\CSound act (go act c d i).c:=by
 have hNi:N i:=h.inN i (by rw[ready_waits hr];rfl)
 have hin:∀ x∈(d.rule i).ins,(∀ b,d.bytes x=some b->f x=(b,0))/\(d.bytes x=none->f x=([],6)):=fun x hx=>by
  unfold Bd.bytes;cases hm:mkr d.l x with
  | none=>exact⟨fun b hb=>hw.file x b hm hb,fun hb=>hw.lacks x hm hb⟩
  | some j =>
   obtain⟨hj,ej⟩:=mkr_of hm;have hn:Ru.needs d.l i j=true:=by
    rw[Ru.needs_eq hi hj,ej];unfold Bd.rule at hx;rw[getD_at hi]at hx;exact decide_eq_true hx
   have hd:=ready_free hr hj hn;refine⟨fun b hb=> ?_,fun hb=>by cases hb⟩
   cases hs:d.st j with
   | done s b' =>
    have e1:(d.st j).out=b:=by simpa using hb
    rw[hs]at e1;have e2:s=b:=e1;subst e2;rw[hw.rule x j hm (h.inN j (by rw[hs];rfl))]
    exact h.done j s b' hs
   | no=>rw[hs]at hd;cases hd
   | waits=>rw[hs]at hd;cases hd
   | failed _=>rw[hs]at hd;cases hd
   | left=>rw[hs]at hd;cases hd
 have hI:=Zxv (f:=f) (g:=d.bytes) hin;unfold go;split
 ·rename_i hn
  refine⟨Makes.fail hw hA h hNi ?_,hc⟩;have h6:=hI.2 hn;unfold wrule;rw[if_neg (by omega)]
  show(winB f (d.rule i).ins).2≠0
  omega
 ·rename_i xs hx
  have e:=hI.1 xs hx;have er:wrule act f (d.rule i)=act (d.rule i).kind (d.rule i).word xs:=by
   unfold wrule;rw[e,if_pos rfl]
  split
  ·rename_i s hs
   exact⟨h.set hNi (er.trans (hc.find hs)),hc.get _⟩
  ·split
   ·rename_i h0
    exact⟨h.set hNi (er.trans (Prod.ext rfl h0)),hc.put h0⟩
   ·rename_i h0
    exact⟨Makes.fail hw hA h hNi (by rw[er];exact h0),hc⟩
theorem Ydu(act:Act)(c:Ca)(d:Bd)(i:Nat):(go act c d i).d.l=d.l/\(go act c d i).d.fs=d.fs:=by
 unfold go;split
 ·exact⟨rfl,rfl⟩
 ·split
  ·exact⟨rfl,rfl⟩
  ·split <;> exact⟨rfl,rfl⟩
theorem Zmb{act:Act}{N:Nat->Prop}{f:List UInt8->List UInt8×Nat}:∀(n:Nat) {c:Ca} {d:Bd},Wanted act d.fs d.l N f->(∀ k (hk:k<d.l.length),mkr d.l d.l[k].out=some k)->CSound act c->Makes act N f d->Makes act N f (allF act n c d).1/\CSound act (allF act n c d).2/\(allF act n c d).1.l=d.l/\(allF act n c d).1.fs=d.fs
 | 0,_,_,_,_,hc,h=>⟨h,hc,rfl,rfl⟩
 | n+1,c,d,hw,hA,hc,h=>by
  unfold allF;cases hr:d.ready with
  | nil=>exact⟨h,hc,rfl,rfl⟩
  | cons i r =>
   have hm:=mem_ready.1 (show i∈d.ready by rw[hr];simp)
   obtain⟨g1,g2⟩:=Ycp hw hA hc h hm.1 hm.2;obtain⟨e1,e2⟩:=Ydu act c d i;have hw':Wanted act (go act c d i).d.fs (go act c d i).d.l N f:=by rw[e1,e2];exact hw
   have hA':∀ k (hk:k<(go act c d i).d.l.length),mkr (go act c d i).d.l (go act c d i).d.l[k].out=some k:=by rw[e1];exact hA
   obtain⟨a1,a2,a3,a4⟩:=Zmb n hw' hA' g2 g1;exact⟨a1,a2,a3.trans e1,a4.trans e2⟩
def kkey(f:List UInt8->List UInt8×Nat)(r:Ru):List UInt8:=Kp.key r.kind r.word (winB f r.ins).1
end Bf
