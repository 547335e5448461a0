import Derived.Test.YtcplmkhclckagaaGreatDoorPR35
set_option maxRecDepth 100000
set_option maxHeartbeats 4000000
open Go.Proofs.Tryz
namespace Go.Proofs.YtcplmkhclckagaaGreatDoor
open Go.RowKit Go.Shelf Go.Lib Go.Maps
open Tf (Fs)
theorem Ztg(x:List UInt8×List UInt8):∀(l1 l2:Fs),(∀ f∈l1,bytesBefore f.1 x.1=true)->(∀ f∈l2,bytesBefore x.1 f.1=true)->Tf.ins x (l1++l2)=l1++x::l2
 | [],[],_,_=>rfl
 | [],f::r,_,h=>by
  show Tf.ins x (f::r)=_
  unfold Tf.ins;rw[if_pos (h f (by simp))]
  rfl
 | f::r,l2,h1,h2=>by
  show Tf.ins x (f::(r++l2))=_
  unfold Tf.ins;have hb:=h1 f (by simp)
  rw[if_neg (by
   intro e
   have:=WideShapes.bytes_trans _ _ _ hb e;rw[WideAt.bytes_irrefl]at this;cases this),Ztg x r l2 (fun g hg=>h1 g (List.mem_cons_of_mem _ hg)) h2]
  rfl
variable {fs:Fs}{j:Nat}
theorem Zhr(hr:Tf.Rises fs){i:Nat}(hi:i<fs.length)(hj:j<fs.length)(hij:i≠j):fs[i].1≠fs[j].1:=by
 intro e
 rcases Nat.lt_or_ge i j with h | h
 ·have:=List.pairwise_iff_getElem.1 hr i j hi hj h;rw[e,WideAt.bytes_irrefl]at this;cases this
 ·have:=List.pairwise_iff_getElem.1 hr j i hj hi (by omega)
  rw[e,WideAt.bytes_irrefl]at this;cases this
variable {k:Nat}
theorem Ydp(hr:Tf.Rises fs)(hk:k<fs.length)(b:List UInt8):Tf.put fs fs[k].1 b=fs.set k (fs[k].1,b):=by
 have hd:Tf.del fs fs[k].1=fs.take k++fs.drop (k+1):=by
  have e:fs=fs.take k++fs[k]::fs.drop (k+1):=by rw[List.getElem_cons_drop,List.take_append_drop]
  unfold Tf.del;conv=>lhs;arg 2;rw[e]
  rw[List.filter_append,List.filter_cons_of_neg (by simp)]
  congr 1
  ·rw[List.filter_eq_self];intro f hf
   obtain⟨j,hj,rfl⟩:=List.mem_iff_getElem.1 hf;rw[List.length_take]at hj;rw[List.getElem_take];simpa using Zhr hr (by omega) hk (by omega)
  ·rw[List.filter_eq_self];intro f hf
   obtain⟨j,hj,rfl⟩:=List.mem_iff_getElem.1 hf;rw[List.length_drop]at hj;rw[List.getElem_drop];simpa using Zhr hr (by omega) hk (by omega)
 unfold Tf.put;rw[hd,Ztg (fs[k].1,b) (fs.take k) (fs.drop (k+1)) (fun f hf=>hr.before_at hk f hf) (fun f hf=> ?_),List.set_eq_take_append_cons_drop,if_pos hk]
 obtain⟨j,hj,rfl⟩:=List.mem_iff_getElem.1 hf;rw[List.length_drop]at hj;rw[List.getElem_drop];exact List.pairwise_iff_getElem.1 hr k (k+1+j) hk (by omega) (by omega)
variable {p b:List UInt8}
theorem Zyt(hr:Tf.Rises fs)(ht:Tf.hasP fs p=false)(hk:k<=fs.length)(hb:∀ j (hj:j<fs.length),j<k->bytesBefore fs[j].1 p=true)(ha:∀(hj:k<fs.length),bytesBefore fs[k].1 p=false):
  Tf.put fs p b=fs.take k++(p,b)::fs.drop k:=by
 unfold Tf.put;rw[Tf.del_none ht];conv=>lhs;arg 2;rw[<- List.take_append_drop k fs]
 refine Ztg _ _ _ (fun f hf=> ?_) (fun f hf=> ?_)
 ·obtain⟨j,hj,rfl⟩:=List.mem_iff_getElem.1 hf;rw[List.length_take]at hj;rw[List.getElem_take];exact hb j (by omega) (by omega)
 ·obtain⟨j,hj,rfl⟩:=List.mem_iff_getElem.1 hf;rw[List.length_drop]at hj;rw[List.getElem_drop];have hkl:k<fs.length:=by omega
  have h1:bytesBefore p fs[k].1=true:=by
   rcases WideAt.bytes_total fs[k].1 p (fun e=>by
    have:=List.any_eq_false.1 ht _ (List.getElem_mem hkl);simp[e]at this) with h | h
   ·rw[ha hkl]at h;cases h
   ·exact h
  cases j with
  | zero=>simpa using h1
  | succ j=>exact WideShapes.bytes_trans _ _ _ h1 (List.pairwise_iff_getElem.1 hr k (k+(j+1)) hkl (by omega) (by omega))
theorem Zhi:∀(fs:Fs) (k:Nat) (x:List UInt8×List UInt8),k<fs.length->((Zae fs).set (k*2) (.string (ba x.1))).set (k*2+1) (.string (ba x.2))=Zae (fs.set k x)
 | f::r,0,x,_=>by simp[Zae]
 | f::r,k+1,x,h=>by
  have ih:=Zhi r k x (by simpa using h)
  have e1:Zae (f::r)=.string (ba f.1):: .string (ba f.2)::Zae r:=by simp[Zae]
  have e2:Zae (f::r.set k x)=.string (ba f.1):: .string (ba f.2)::Zae (r.set k x):=by simp[Zae]
  rw[List.set_cons_succ,e1,e2,<- ih,show(k+1)*2=k*2+1+1 by omega]
  rfl
variable {B tb:Nat}{w:World}{v:Value}
theorem Zyr(h:RTreeAt B w tb fs v)(hlen:∀ f∈fs,f.1.length<=1000000)(hfew:fs.length<=1000)(p b:List UInt8)(hp:p.length<=1000000)(hn:pathB p=true)(hb:b.length<=2000)(hc:Tf.clash fs p=false)(ht:Tf.hasP fs p=false)(h60:60<=fs.length):
  Calls prog 43 #[Ptr tb,.string (ba p),.string (ba b)] w fun e w'=>e=.returned (.int .i64 8)/\Below w.heap.size w w':=by
 have HI:=Zbn p hp true hn w;have HA:Hid (∀(a c:List UInt8),a.length<=1000000->c.length<=1000000->∀ W,Calls prog 73 #[.string (ba a),.string (ba c)] W fun e w'=>e=.returned (.bool (Tf.above a c))/\w'=W):=fun a c ha hc W=>Zck a c ha hc W
 have hno:∀ j (hj:j<fs.length),Tf.above fs[j].1 p=false/\Tf.above p fs[j].1=false:=fun j hj=>by
  have:=List.any_eq_false.1 (show(fs.any fun f=>Tf.above f.1 p||Tf.above p f.1)=false from hc) _ (List.getElem_mem hj)
  simpa using this
 have z:(b.length:Int)<=2000:=by omega
 clear hn hb hc;go_enter func43,ntmps43
 go_wp2_with fail;refine HI.out.mono ?_;rintro e w1 ⟨rfl,g1⟩;have h1:=h.below g1;have HF:=Zaz h1 hfew p;have hcell:=h1.cell;have hrow:=FRow.of_owns h1.row;obtain⟨pa,cap,rfl,hcap,hin⟩:=hrow;clear HI;go_wp2;go_loopw [8] (fun i wr=>∃ k:Nat,k<=fs.length/\i=.int .i64 k/\wr=w1) (fun i _=>fs.length - (intOf i).toNat)
 case atStart=>exact⟨0,Nat.zero_le _,rfl,rfl⟩
 case round =>
  obtain⟨k,hk,rfl,rfl⟩:=hrel;by_cases hlt:k<fs.length
  ·obtain⟨g,cur,rfl,hg,hcur⟩:=hin (by intro e;rw[e]at hlt;simp at hlt)
   have hx:=Zab hg (hcur k hlt).1;have hxl:=hlen _ (List.getElem_mem hlt);have c1:(k:Int)<(fs.length:Int):=by omega
   have c0:(0:Int)<=(k:Int):=by omega
   have A1:Hid (∀ W,Calls prog 73 #[.string (ba p),.string (ba fs[k].1)] W fun e w'=>e=.returned (.bool false)/\w'=W):=fun W=>by
    have:=HA.out p _ hp hxl W;rw[(hno k hlt).2]at this;exact this
   have A2:Hid (∀ W,Calls prog 73 #[.string (ba fs[k].1),.string (ba p)] W fun e w'=>e=.returned (.bool false)/\w'=W):=fun W=>by
    have:=HA.out _ p hxl hp W;rw[(hno k hlt).1]at this;exact this
   clear hin hcur hg HF h1;generalize fs[k].1=x at *;go_wp2_with fail;refine(A1.out _).mono ?_;rintro e w' ⟨rfl,rfl⟩;go_wp2_with fail;refine(A2.out _).mono ?_;rintro e w' ⟨rfl,rfl⟩;go_wp2;go_roundw
   case rel=>exact⟨k+1,by omega,by go_num,by first | rfl | trivial⟩
   case measure=>simp[intOf];omega
  ·have c1:(fs.length:Int)<=(k:Int):=by omega
   clear HA hno;go_wp2_with fail;refine HF.mono ?_;rintro e w2 ⟨hr,rfl⟩;have z60:(60:Int)<=(fs.length:Int):=by omega
   rcases hr with ⟨k',hk',_,hp'⟩ | ⟨_,rfl⟩
   ·exfalso
    have:Tf.hasP fs p=true:=List.any_eq_true.2 ⟨fs[k'],List.getElem_mem hk',by simp[hp']⟩
    rw[this]at ht;cases ht
   ·clear hin;go_wp2;go_ret;exact⟨rfl,g1⟩
theorem Tryz.infoRFile:(prog.info? 71).map (fun i=>(i.zero,i.size,i.bytes))=some (some (.agg #[.string ⟨#[]⟩,.string ⟨#[]⟩]),2,32):=by kernel_rfl
theorem Zbx:∀(fs:Fs) (k:Nat),Zae (fs.take k)=(Zae fs).take (k*2)
 | fs,0=>by simp[Zae]
 | [],k+1=>by simp[Zae]
 | f::r,k+1=>by
  have e1:∀ l:Fs,Zae (f::l)=.string (ba f.1):: .string (ba f.2)::Zae l:=fun l=>by simp[Zae]
  rw[List.take_succ_cons,e1,e1,Zbx r k,show(k+1)*2=k*2+1+1 by omega]
  rfl
theorem Zby:∀(fs:Fs) (k:Nat),Zae (fs.drop k)=(Zae fs).drop (k*2)
 | fs,0=>by simp
 | [],k+1=>by simp[Zae]
 | f::r,k+1=>by
  have e1:Zae (f::r)=.string (ba f.1):: .string (ba f.2)::Zae r:=by simp[Zae]
  rw[List.drop_succ_cons,e1,Zby r k,show(k+1)*2=k*2+1+1 by omega]
  rfl
theorem Zqr(a b:Fs):Zae (a++b)=Zae a++Zae b:=by simp[Zae]
theorem Zau(fs:Fs):∀ u∈Zae fs,u.oneCell'=true:=by
 intro u hu
 obtain⟨e,_,h⟩:=List.mem_flatMap.1 hu;rcases List.mem_cons.1 h with rfl | h
 ·rfl
 ·obtain rfl:u=.string (ba e.2):=by simpa using h
  rfl
structure Made(B:Nat)(w w':World)(tb:Nat)(v:Value)(l:Fs):Prop where
 row:w'.ownsRow B 71 2 v l.length (Zae l)
 new:∀ g,v.ownBlock=some g->w.heap.size<=g
 below:Below w.heap.size w w'
theorem Made.start(B:Nat)(w:World)(tb:Nat):Made B w w tb (.slice none 0 0) []:=⟨World.ownsRow_nil _ _ _ _,(fun _ h=>by cases h),Below.refl _ _⟩
theorem Made.cell{B:Nat}{w w':World}{tb:Nat}{v:Value}{l:Fs}(h:Made B w w' tb v l){a:Addr}{u:Value}(hc:w.cell? a=some u):w'.cell? a=some u:=Zaa hc h.below
theorem Made.more{B:Nat}{w w1 w2:World}{tb:Nat}{v v':Value}{l m:Fs}{row:Option Nat}(h:Made B w w1 tb v l)(o:w2.ownsRow B 71 2 v' (l.length+m.length) (Zae l++Zae m))(gr:w1.grownBy w2 row)(hrow:row=v.ownBlock)(loc:v'.ownBlock=v.ownBlock\/v'.ownBlock=some w1.heap.size):Made B w w2 tb v' (l++m):=by
 subst hrow;refine⟨by rw[Zqr,List.length_append];exact o,fun g hg=> ?_,h.below.grown gr h.below.size h.new⟩
 rcases loc with e | e
 ·exact h.new g (e ▸ hg)
 ·rw[e]at hg;cases hg;exact h.below.size
variable {w':World}
theorem Made.shape{l:Fs}(h:Made B w w' tb v l)(hne:l≠[])(N:Nat)(hN:l.length=N):∃ g c,v=.slice (some ⟨g,0,none⟩) N c:=by
 subst hN;rcases h.row.2 with ⟨_,h0⟩ | ⟨g,c,cur,rfl,_⟩
 ·exact absurd (List.length_eq_zero_iff.1 h0) hne
 ·exact⟨g,c,rfl⟩
theorem Made.alloc{B:Nat}{w w1:World}{tb:Nat}{v:Value}{l:Fs}(h:Made B w w1 tb v l)(o:Obj):Made B w (w1.alloc o) tb v l:=⟨h.row.alloc o,h.new,h.below.alloc h.below.size o⟩
theorem Made.shape2{l:Fs}(h:Made B w w' tb v l)(hne:l≠[])(N:Nat)(hN:l.length=N):∃ g c,v=.slice (some ⟨g,0,none⟩) N c/\N<=c:=by
 subst hN;rcases h.row.2 with ⟨_,h0⟩ | ⟨g,c,cur,rfl,_,_,h1,_⟩
 ·exact absurd (List.length_eq_zero_iff.1 h0) hne
 ·exact⟨g,c,rfl,h1⟩
theorem Zvi(hw:Tf.Well pathB fs)(ht:Tf.hasP fs p=true):Tf.clash fs p=false:=by
 obtain⟨g,hg,e⟩:=List.any_eq_true.1 ht;obtain rfl:g.1=p:=by simpa using e
 unfold Tf.clash;rw[List.any_eq_false];intro f hf
 rw[hw.apart f hf g hg,hw.apart g hg f hf];simp
def mS(tb:Nat)(v:Value):Nat->Prop:=fun j=>j=tb\/v.ownBlock=some j
def RowON(w:World)(v v':Value):Prop:=v'.ownBlock=v.ownBlock\/∀ j,v'.ownBlock=some j->w.heap.size<=j
variable {S:Nat->Prop}
theorem Zpi{base:Nat}{e:TypeId}{size:Nat}{n:Nat}{xs:List Value}(h:w.ownsRow base e size v n xs)(hk:Kept S w w')(hs:∀ j,v.ownBlock=some j->¬ S j):w'.ownsRow base e size v n xs:=by
 obtain⟨h0,h1⟩:=h;refine⟨h0,h1.imp id ?_⟩;rintro⟨g,cap,cur,rfl,e2,e3,e4⟩;exact⟨g,cap,cur,rfl,e2,(hk.block g (Array.getElem?_eq_some_iff.1 e3).1 (hs g rfl)).trans e3,e4⟩
theorem RTreeAt.kept{fs:Fs}(h:RTreeAt B w tb fs v)(hk:Kept S w w')(h1:¬ S tb)(h2:∀ j,v.ownBlock=some j->¬ S j):RTreeAt B w' tb fs v:=by
 have hbk:=hk.block tb h.lt h1;exact⟨h.low,(World.cell?_of_block (a:=⟨tb,0,none⟩) hbk).trans h.cell,(World.frozen?_of_block (a:=⟨tb,0,none⟩) hbk).trans h.free,Zpi h.row hk h2,h.apart,h.nil⟩
theorem Zsf(h:RTreeAt B w tb fs v)(hlen:∀ f∈fs,f.1.length<=1000000)(hfew:fs.length<=1000)(p b:List UInt8)(hp:p.length<=1000000)(hn:pathB p=true)(hb:b.length<=2000)(hc:Tf.clash fs p=false)(hr:Tf.Rises fs)(ht:Tf.hasP fs p=true):
  Calls prog 43 #[Ptr tb,.string (ba p),.string (ba b)] w fun e w'=>e=.returned (.int .i64 0)/\(∃ v',RowON w v v'/\RTreeAt B w' tb (Tf.put fs p b) v')/\Below B w w'/\Kept (mS tb v) w w':=by
 have hBw:B<=w.heap.size:=by have:=h.low;have:=h.lt;omega
 have HI:=Zbn p hp true hn w;have HA:Hid (∀(a c:List UInt8),a.length<=1000000->c.length<=1000000->∀ W,Calls prog 73 #[.string (ba a),.string (ba c)] W fun e w'=>e=.returned (.bool (Tf.above a c))/\w'=W):=fun a c ha hc W=>Zck a c ha hc W
 have hno:∀ j (hj:j<fs.length),Tf.above fs[j].1 p=false/\Tf.above p fs[j].1=false:=fun j hj=>by
  have:=List.any_eq_false.1 (show(fs.any fun f=>Tf.above f.1 p||Tf.above p f.1)=false from hc) _ (List.getElem_mem hj)
  simpa using this
 have z:(b.length:Int)<=2000:=by omega
 clear hn hb hc;go_enter func43,ntmps43
 go_wp2_with fail;refine HI.out.mono ?_;rintro e w1 ⟨rfl,g1⟩;have h1:=h.below g1;have HF:=Zaz h1 hfew p;have hcell:=h1.cell;have hrow:=FRow.of_owns h1.row;obtain⟨pa,cap,rfl,hcap,hin⟩:=hrow;clear HI;go_wp2;go_loopw [8] (fun i wr=>∃ k:Nat,k<=fs.length/\i=.int .i64 k/\wr=w1) (fun i _=>fs.length - (intOf i).toNat)
 case atStart=>exact⟨0,Nat.zero_le _,rfl,rfl⟩
 case round =>
  obtain⟨k,hk,rfl,rfl⟩:=hrel;by_cases hlt:k<fs.length
  ·obtain⟨g,cur,rfl,hg,hcur⟩:=hin (by intro e;rw[e]at hlt;simp at hlt)
   have hx:=Zab hg (hcur k hlt).1;have hxl:=hlen _ (List.getElem_mem hlt);have c1:(k:Int)<(fs.length:Int):=by omega
   have c0:(0:Int)<=(k:Int):=by omega
   have A1:Hid (∀ W,Calls prog 73 #[.string (ba p),.string (ba fs[k].1)] W fun e w'=>e=.returned (.bool false)/\w'=W):=fun W=>by
    have:=HA.out p _ hp hxl W;rw[(hno k hlt).2]at this;exact this
   have A2:Hid (∀ W,Calls prog 73 #[.string (ba fs[k].1),.string (ba p)] W fun e w'=>e=.returned (.bool false)/\w'=W):=fun W=>by
    have:=HA.out _ p hxl hp W;rw[(hno k hlt).1]at this;exact this
   clear hin hcur hg HF h1;generalize fs[k].1=x at *;go_wp2_with fail;refine(A1.out _).mono ?_;rintro e w' ⟨rfl,rfl⟩;go_wp2_with fail;refine(A2.out _).mono ?_;rintro e w' ⟨rfl,rfl⟩;go_wp2;go_roundw
   case rel=>exact⟨k+1,by omega,by go_num,by first | rfl | trivial⟩
   case measure=>simp[intOf];omega
  ·have c1:(fs.length:Int)<=(k:Int):=by omega
   clear HA hno;go_wp2_with fail;refine HF.mono ?_;rintro e w2 ⟨hres,rfl⟩;rcases hres with ⟨k',hk',rfl,hp'⟩ | ⟨hf,_⟩
   ·obtain⟨g,cur,rfl,hg,hcur⟩:=hin (by intro e;rw[e]at hk';simp at hk')
    have z0:(0:Int)<=(k':Int):=by omega
    have z1:(k':Int)<(fs.length:Int):=by omega
    have hcA:=Zab hg (hcur k' hk').1;have hcB:=Zab hg (hcur k' hk').2;have hfA:w2.frozen? ⟨g,k'*2,none⟩=false:=by simp[World.frozen?,hg]
    have hfB:w2.frozen? ⟨g,k'*2+1,none⟩=false:=by simp[World.frozen?,hg]
    clear hin hcur hg;go_wp2;go_ret;have hgt:g≠tb:=fun e=>h1.apart (by rw[e];rfl)
    have hgB:B<=g:=Ydm h1.row g rfl;obtain⟨r1,_⟩:=h1.row.stored (k'*2) (.string (ba p));obtain⟨r2,_⟩:=r1.stored (k'*2+1) (.string (ba b));rw[Zhi fs k' (p,b) hk']at r2;have ep:Tf.put fs p b=fs.set k' (p,b):=by
     have:=Ydp hr hk' b;rwa[hp']at this
    rw[ep];refine⟨rfl,⟨_,.inl rfl,h1.low,?_,?_,by simpa using r2,h1.apart,fun e=>by rw[List.set_eq_nil_iff]at e;rw[e]at hk';simp at hk'⟩,((g1.mono hBw).setCell (p:=⟨g,k'*2,none⟩) hgB _).setCell (p:=⟨g,k'*2+1,none⟩) hgB _,((Kept.of g1).setCell (p:=⟨g,k'*2,none⟩) (.inr rfl) _).setCell (p:=⟨g,k'*2+1,none⟩) (.inr rfl) _⟩
    ·rw[World.cell?_setCell_other _ _ _ _ (fun e=>hgt (congrArg Addr.block e)),World.cell?_setCell_other _ _ _ _ (fun e=>hgt (congrArg Addr.block e))]
     exact hcell
    ·rw[World.frozen?_setCell,World.frozen?_setCell]
     exact h1.free
   ·rw[ht]at hf;cases hf
theorem Zys(h:RTreeAt B w tb fs v)(hlen:∀ f∈fs,f.1.length<=1000000)(hfew:fs.length<=1000)(p b:List UInt8)(hp:p.length<=1000000)(hn:pathB p=true)(hb:b.length<=2000)(hc:Tf.clash fs p=false)(hr:Tf.Rises fs)(ht:Tf.hasP fs p=false)(h60:fs.length<60)(hne:fs≠[]):
  Calls prog 43 #[Ptr tb,.string (ba p),.string (ba b)] w fun e w'=>e=.returned (.int .i64 0)/\(∃ v',RowON w v v'/\RTreeAt B w' tb (Tf.put fs p b) v')/\Below B w w'/\Kept (mS tb v) w w':=by
 have hBw:B<=w.heap.size:=by have:=h.low;have:=h.lt;omega
 obtain⟨i0,hi,hz0,hz1,hz2⟩:=info_parts Tryz.infoRFile;have HI:=Zbn p hp true hn w;have HA:Hid (∀(a c:List UInt8),a.length<=1000000->c.length<=1000000->∀ W,Calls prog 73 #[.string (ba a),.string (ba c)] W fun e w'=>e=.returned (.bool (Tf.above a c))/\w'=W):=fun a c ha hc W=>Zck a c ha hc W
 have hno:∀ j (hj:j<fs.length),Tf.above fs[j].1 p=false/\Tf.above p fs[j].1=false:=fun j hj=>by
  have:=List.any_eq_false.1 (show(fs.any fun f=>Tf.above f.1 p||Tf.above p f.1)=false from hc) _ (List.getElem_mem hj)
  simpa using this
 have z:(b.length:Int)<=2000:=by omega
 clear hn hb hc;go_enter func43,ntmps43
 go_wp2_with fail;refine HI.out.mono ?_;rintro e w1 ⟨rfl,g1⟩;have h1:=h.below g1;have HF:=Zaz h1 hfew p;have hcell:=h1.cell;have hrow:=FRow.of_owns h1.row;obtain⟨pa,cap,rfl,hcap,hin⟩:=hrow;clear HI;go_wp2;go_loopw [8] (fun i wr=>∃ k:Nat,k<=fs.length/\i=.int .i64 k/\wr=w1) (fun i _=>fs.length - (intOf i).toNat)
 case atStart=>exact⟨0,Nat.zero_le _,rfl,rfl⟩
 case round =>
  obtain⟨k,hk,rfl,rfl⟩:=hrel;by_cases hlt:k<fs.length
  ·obtain⟨g,cur,rfl,hg,hcur⟩:=hin (by intro e;rw[e]at hlt;simp at hlt)
   have hx:=Zab hg (hcur k hlt).1;have hxl:=hlen _ (List.getElem_mem hlt);have c1:(k:Int)<(fs.length:Int):=by omega
   have c0:(0:Int)<=(k:Int):=by omega
   have A1:Hid (∀ W,Calls prog 73 #[.string (ba p),.string (ba fs[k].1)] W fun e w'=>e=.returned (.bool false)/\w'=W):=fun W=>by
    have:=HA.out p _ hp hxl W;rw[(hno k hlt).2]at this;exact this
   have A2:Hid (∀ W,Calls prog 73 #[.string (ba fs[k].1),.string (ba p)] W fun e w'=>e=.returned (.bool false)/\w'=W):=fun W=>by
    have:=HA.out _ p hxl hp W;rw[(hno k hlt).1]at this;exact this
   clear hin hcur hg HF h1;generalize fs[k].1=x at *;go_wp2_with fail;refine(A1.out _).mono ?_;rintro e w' ⟨rfl,rfl⟩;go_wp2_with fail;refine(A2.out _).mono ?_;rintro e w' ⟨rfl,rfl⟩;go_wp2;go_roundw
   case rel=>exact⟨k+1,by omega,by go_num,by first | rfl | trivial⟩
   case measure=>simp[intOf];omega
  ·have c1:(fs.length:Int)<=(k:Int):=by omega
   clear HA hno;go_wp2_with fail;refine HF.mono ?_;rintro e w2 ⟨hres,rfl⟩;rcases hres with ⟨k',hk',_,hp'⟩ | ⟨_,rfl⟩
   ·exfalso
    have:Tf.hasP fs p=true:=List.any_eq_true.2 ⟨fs[k'],List.getElem_mem hk',by simp[hp']⟩
    rw[this]at ht;cases ht
   ·obtain⟨g,cur,rfl,hg,hcur⟩:=hin hne;clear hin;go_wp2;go_loopw [9] (fun i wr=>∃ k:Nat,k<=fs.length/\i=.int .i64 k/\(∀ j (hj:j<fs.length),j<k->bytesBefore fs[j].1 p=true)/\wr=w2) (fun i _=>fs.length - (intOf i).toNat)
    case atStart=>exact⟨0,Nat.zero_le _,rfl,fun j _ h=>absurd h (Nat.not_lt_zero _),rfl⟩
    case round =>
     obtain⟨k',hk',rfl,hbef,hwr⟩:=hrel;subst hwr;have y0:(0:Int)<=(k':Int):=by omega
     have y3:(k':Int)<=(fs.length:Int):=by omega
     have y4:(fs.length:Int)<=(cap:Int):=by omega
     by_cases hlt':k'<fs.length
     ·have hx:=Zab hg (hcur k' hlt').1;have y1:(k':Int)<(fs.length:Int):=by omega
      obtain⟨x,hxe⟩:∃ x,fs[k'].1=x:=⟨_,rfl⟩
      rw[hxe]at hx;cases hbx:bytesBefore x p with
      | true =>
       have hl:Op.bytesLess x p=true:=by rw[Tf.less_before];exact hbx
       go_wp2;go_roundw
       case rel=>exact⟨k'+1,by omega,by go_num,fun j hj hjk=>by
        rcases Nat.lt_or_ge j k' with h2 | h2
        ·exact hbef j hj h2
        ·obtain rfl:j=k':=by omega
         rw[hxe];exact hbx,by first | rfl | trivial⟩
       case measure=>simp[intOf];omega
      | false =>
       have hl:Op.bytesLess x p=false:=by rw[Tf.less_before];exact hbx
       have ep:Hid (Tf.put fs p b=fs.take k'++(p,b)::fs.drop k'):=Zyt (b:=b) hr ht hk' hbef (fun _=>by rw[hxe];exact hbx)
       clear hbef;have M0:=Made.start B wr tb;have hBwr:B<=wr.heap.size:=by have:=h1.low;have:=h1.lt;omega
       have src:=h1.row.cells (g:=g) rfl;have src1:∀ j u,(Zae (fs.take k'))[j]? =some u->wr.cell? ((⟨g,0,none⟩:Addr).add j)=some u:=fun j u hj=>src j u (by rw[Zbx,List.getElem?_take]at hj;split at hj;exact hj;cases hj)
       have src2:∀ j u,(Zae (fs.drop k'))[j]? =some u->wr.cell? ((⟨g,k'*2,none⟩:Addr).add j)=some u:=fun j u hj=>by
        rw[Zby,List.getElem?_drop]at hj;have:=src _ u hj;rw[add_plain]at this ⊢;simpa using this
       have hfree:=h1.free;have zc:k'<cap\/k'=cap:=by omega
       have ln1:(fs.take k').length=k':=by rw[List.length_take];omega
       have ln2:(fs.drop k').length=fs.length - k':=List.length_drop;have yd:((fs.length - k':Nat):Int)=(fs.length:Int) - (k':Int):=by omega
       clear hcur hg;have htb:=h1.lt;have lnM:(fs.take k'++[(p,b)]).length=k'+1:=by rw[List.length_append,ln1];rfl
       have zc1:(k':Int)<(cap:Int):=by omega
       go_wp2_with (first
        | (at_builtin;have M2':=M2;refine wpList_append_own_at _ rfl _ _ 67 rfl B 71 i0 (.agg #[.string ⟨#[]⟩,.string ⟨#[]⟩]) 2 32 underlying67 hi hz0 hz1 hz2 rfl (by decide) _ _ _ rfl M2'.row _ (fs.length - k') _ (Zae (fs.drop k')) rfl (by rw[Zay,ln2]) (fun j u hj=>M2.cell (src2 j u hj)) (Zau _) (by unfold maxLen;rw[lnM];omega) (by rw[lnM];omega) (by have:=M2.below.size;omega) ?_;intro v3 w5 o3 gr3 n3 loc3;(have M3:Made B wr w5 tb v3 (fs.take k'++(p,b)::fs.drop k'):=by have:=M2.more (m:=fs.drop k') (by rw[ln2];exact o3) gr3 rfl loc3;rwa[List.append_assoc]at this);(have hcell5:=M3.cell hcell);(have hfree5:=(M3.below.frozen (p:=⟨tb,0,none⟩) htb).trans hfree);(obtain⟨g3,c3,rfl⟩:=M3.shape (by simp) (fs.length+1) (by rw[List.length_append,List.length_cons,ln1,ln2];omega)))
        | (at_builtin;refine wpList_append_own_at _ rfl _ _ 67 rfl B 71 i0 (.agg #[.string ⟨#[]⟩,.string ⟨#[]⟩]) 2 32 underlying67 hi hz0 hz1 hz2 rfl (by decide) _ _ _ rfl (M1.alloc _).row ⟨w3.heap.size,0,none⟩ 1 1 [.string (ba p),.string (ba b)] rfl rfl (Zmi _ _ _ _) (by simp[Value.oneCell']) (by unfold maxLen;rw[ln1];omega) (by rw[ln1];omega) (by have:=M1.below.size;simp;omega) ?_;intro v2 w4 o2 gr2 n2 loc2;have M2:Made B wr w4 tb v2 (fs.take k'++[(p,b)]):=(M1.alloc _).more (m:=[(p,b)]) o2 gr2 rfl loc2;have hcell4:=M2.cell hcell)
        | (at_builtin;refine wpList_append_own_at _ rfl _ _ 67 rfl B 71 i0 (.agg #[.string ⟨#[]⟩,.string ⟨#[]⟩]) 2 32 underlying67 hi hz0 hz1 hz2 rfl (by decide) (.slice none 0 0) 0 [] rfl (World.ownsRow_nil _ _ _ _) ⟨g,0,none⟩ k' _ (Zae (fs.take k')) rfl (by rw[Zay,ln1]) src1 (Zau _) (by unfold maxLen;omega) (by omega) hBwr ?_;intro v1 w3 o1 gr1 n1 loc1;have M1:Made B wr w3 tb v1 (fs.take k'):=M0.more (l:=[]) (m:=fs.take k') (by rw[ln1];exact o1) gr1 rfl loc1;have hcell3:=M1.cell hcell)
        | go_in)
       all_goals
        go_wp2;go_ret;have hne3:_≠some tb:=fun e=>by have:=M3.new tb e;omega
        rw[ep.out];refine⟨rfl,⟨_,.inr (fun j e=>Nat.le_trans g1.size (M3.new j e)),h1.low,World.cell?_setCell_same' _ _ _ (by rw[hcell5];rfl),by rw[World.frozen?_setCell];exact hfree5,?_,hne3,fun e=>by simp at e⟩,((g1.mono hBw).trans (M3.below.mono hBwr)).setCell (p:=⟨tb,0,none⟩) h1.low _,((Kept.of g1).trans (.of M3.below)).setCell (p:=⟨tb,0,none⟩) (.inl rfl) _⟩
        exact ownsRow_setCell_other M3.row (a:=⟨tb,0,none⟩) hne3 _
     ·have y1:(fs.length:Int)<=(k':Int):=by omega
      have ep:Hid (Tf.put fs p b=fs.take k'++(p,b)::fs.drop k'):=Zyt (b:=b) hr ht hk' hbef (fun h=>absurd h hlt')
      clear hbef;have M0:=Made.start B wr tb;have hBwr:B<=wr.heap.size:=by have:=h1.low;have:=h1.lt;omega
      have src:=h1.row.cells (g:=g) rfl;have src1:∀ j u,(Zae (fs.take k'))[j]? =some u->wr.cell? ((⟨g,0,none⟩:Addr).add j)=some u:=fun j u hj=>src j u (by rw[Zbx,List.getElem?_take]at hj;split at hj;exact hj;cases hj)
      have src2:∀ j u,(Zae (fs.drop k'))[j]? =some u->wr.cell? ((⟨g,k'*2,none⟩:Addr).add j)=some u:=fun j u hj=>by
       rw[Zby,List.getElem?_drop]at hj;have:=src _ u hj;rw[add_plain]at this ⊢;simpa using this
      have hfree:=h1.free;have zc:k'<cap\/k'=cap:=by omega
      have ln1:(fs.take k').length=k':=by rw[List.length_take];omega
      have ln2:(fs.drop k').length=fs.length - k':=List.length_drop;have yd:((fs.length - k':Nat):Int)=(fs.length:Int) - (k':Int):=by omega
      clear hcur hg;have htb:=h1.lt;have lnM:(fs.take k'++[(p,b)]).length=k'+1:=by rw[List.length_append,ln1];rfl
      have hd0:fs.drop k'=[]:=List.drop_eq_nil_of_le (by omega)
      rcases zc with zc | zc
      ·have zc1:(k':Int)<(cap:Int):=by omega
       go_wp2_with (first
        | (at_builtin;have M2':=M2;refine wpList_append_own_at _ rfl _ _ 67 rfl B 71 i0 (.agg #[.string ⟨#[]⟩,.string ⟨#[]⟩]) 2 32 underlying67 hi hz0 hz1 hz2 rfl (by decide) _ _ _ rfl M2'.row _ (fs.length - k') _ (Zae (fs.drop k')) rfl (by rw[Zay,ln2]) (fun j u hj=>M2.cell (src2 j u hj)) (Zau _) (by unfold maxLen;rw[lnM];omega) (by rw[lnM];omega) (by have:=M2.below.size;omega) ?_;intro v3 w5 o3 gr3 n3 loc3;(have M3:Made B wr w5 tb v3 (fs.take k'++(p,b)::fs.drop k'):=by have:=M2.more (m:=fs.drop k') (by rw[ln2];exact o3) gr3 rfl loc3;rwa[List.append_assoc]at this);(have hcell5:=M3.cell hcell);(have hfree5:=(M3.below.frozen (p:=⟨tb,0,none⟩) htb).trans hfree);(obtain⟨g3,c3,rfl⟩:=M3.shape (by simp) (fs.length+1) (by rw[List.length_append,List.length_cons,ln1,ln2];omega)))
        | (at_builtin;refine wpList_append_own_at _ rfl _ _ 67 rfl B 71 i0 (.agg #[.string ⟨#[]⟩,.string ⟨#[]⟩]) 2 32 underlying67 hi hz0 hz1 hz2 rfl (by decide) _ _ _ rfl (M1.alloc _).row ⟨w3.heap.size,0,none⟩ 1 1 [.string (ba p),.string (ba b)] rfl rfl (Zmi _ _ _ _) (by simp[Value.oneCell']) (by unfold maxLen;rw[ln1];omega) (by rw[ln1];omega) (by have:=M1.below.size;simp;omega) ?_;intro v2 w4 o2 gr2 n2 loc2;have M2:Made B wr w4 tb v2 (fs.take k'++[(p,b)]):=(M1.alloc _).more (m:=[(p,b)]) o2 gr2 rfl loc2;have hcell4:=M2.cell hcell)
        | (at_builtin;refine wpList_append_own_at _ rfl _ _ 67 rfl B 71 i0 (.agg #[.string ⟨#[]⟩,.string ⟨#[]⟩]) 2 32 underlying67 hi hz0 hz1 hz2 rfl (by decide) (.slice none 0 0) 0 [] rfl (World.ownsRow_nil _ _ _ _) ⟨g,0,none⟩ k' _ (Zae (fs.take k')) rfl (by rw[Zay,ln1]) src1 (Zau _) (by unfold maxLen;omega) (by omega) hBwr ?_;intro v1 w3 o1 gr1 n1 loc1;have M1:Made B wr w3 tb v1 (fs.take k'):=M0.more (l:=[]) (m:=fs.take k') (by rw[ln1];exact o1) gr1 rfl loc1;have hcell3:=M1.cell hcell)
        | go_in)
       all_goals
        go_wp2;go_ret;have hne3:_≠some tb:=fun e=>by have:=M3.new tb e;omega
        rw[ep.out];refine⟨rfl,⟨_,.inr (fun j e=>Nat.le_trans g1.size (M3.new j e)),h1.low,World.cell?_setCell_same' _ _ _ (by rw[hcell5];rfl),by rw[World.frozen?_setCell];exact hfree5,?_,hne3,fun e=>by simp at e⟩,((g1.mono hBw).trans (M3.below.mono hBwr)).setCell (p:=⟨tb,0,none⟩) h1.low _,((Kept.of g1).trans (.of M3.below)).setCell (p:=⟨tb,0,none⟩) (.inl rfl) _⟩
        exact ownsRow_setCell_other M3.row (a:=⟨tb,0,none⟩) hne3 _
      ·have zc1:(cap:Int)=(k':Int):=by omega
       subst zc;go_wp2_with (first
        | (at_builtin;have M2':=M2;refine wpList_append_own_at _ rfl _ _ 67 rfl B 71 i0 (.agg #[.string ⟨#[]⟩,.string ⟨#[]⟩]) 2 32 underlying67 hi hz0 hz1 hz2 rfl (by decide) _ _ _ rfl M2'.row _ _ _ (Zae (fs.drop k')) rfl (by rw[hd0];first | rfl | (show 0=_;omega)) (fun j u hj=>by rw[hd0]at hj;simp[Zae]at hj) (Zau _) (by unfold maxLen;rw[lnM];omega) (by rw[lnM];omega) (by have:=M2.below.size;omega) ?_;intro v3 w5 o3 gr3 n3 loc3;(have M3:Made B wr w5 tb v3 (fs.take k'++(p,b)::fs.drop k'):=by have:=M2.more (m:=fs.drop k') (by rw[hd0]at o3 ⊢;simpa[Zae] using o3) gr3 rfl loc3;rwa[List.append_assoc]at this);(have hcell5:=M3.cell hcell);(have hfree5:=(M3.below.frozen (p:=⟨tb,0,none⟩) htb).trans hfree);(obtain⟨g3,c3,rfl⟩:=M3.shape (by simp) (fs.length+1) (by rw[List.length_append,List.length_cons,ln1,ln2];omega)))
        | (at_builtin;refine wpList_append_own_at _ rfl _ _ 67 rfl B 71 i0 (.agg #[.string ⟨#[]⟩,.string ⟨#[]⟩]) 2 32 underlying67 hi hz0 hz1 hz2 rfl (by decide) _ _ _ rfl (M1.alloc _).row ⟨w3.heap.size,0,none⟩ 1 1 [.string (ba p),.string (ba b)] rfl rfl (Zmi _ _ _ _) (by simp[Value.oneCell']) (by unfold maxLen;rw[ln1];omega) (by rw[ln1];omega) (by have:=M1.below.size;simp;omega) ?_;intro v2 w4 o2 gr2 n2 loc2;have M2:Made B wr w4 tb v2 (fs.take k'++[(p,b)]):=(M1.alloc _).more (m:=[(p,b)]) o2 gr2 rfl loc2;have hcell4:=M2.cell hcell)
        | (at_builtin;refine wpList_append_own_at _ rfl _ _ 67 rfl B 71 i0 (.agg #[.string ⟨#[]⟩,.string ⟨#[]⟩]) 2 32 underlying67 hi hz0 hz1 hz2 rfl (by decide) (.slice none 0 0) 0 [] rfl (World.ownsRow_nil _ _ _ _) ⟨g,0,none⟩ k' _ (Zae (fs.take k')) rfl (by rw[Zay,ln1]) src1 (Zau _) (by unfold maxLen;omega) (by omega) hBwr ?_;intro v1 w3 o1 gr1 n1 loc1;have M1:Made B wr w3 tb v1 (fs.take k'):=M0.more (l:=[]) (m:=fs.take k') (by rw[ln1];exact o1) gr1 rfl loc1;have hcell3:=M1.cell hcell)
        | go_in)
       all_goals
        go_wp2;go_ret;have hne3:_≠some tb:=fun e=>by have:=M3.new tb e;omega
        rw[ep.out];refine⟨rfl,⟨_,.inr (fun j e=>Nat.le_trans g1.size (M3.new j e)),h1.low,World.cell?_setCell_same' _ _ _ (by rw[hcell5];rfl),by rw[World.frozen?_setCell];exact hfree5,?_,hne3,fun e=>by simp at e⟩,((g1.mono hBw).trans (M3.below.mono hBwr)).setCell (p:=⟨tb,0,none⟩) h1.low _,((Kept.of g1).trans (.of M3.below)).setCell (p:=⟨tb,0,none⟩) (.inl rfl) _⟩
        exact ownsRow_setCell_other M3.row (a:=⟨tb,0,none⟩) hne3 _
theorem Zsg(h:RTreeAt B w tb [] v)(p b:List UInt8)(hp:p.length<=1000000)(hn:pathB p=true)(hb:b.length<=2000):
  Calls prog 43 #[Ptr tb,.string (ba p),.string (ba b)] w fun e w'=>e=.returned (.int .i64 0)/\(∃ v',RowON w v v'/\RTreeAt B w' tb [(p,b)] v')/\Below B w w'/\Kept (mS tb v) w w':=by
 have hBw:B<=w.heap.size:=by have:=h.low;have:=h.lt;omega
 obtain⟨i0,hi,hz0,hz1,hz2⟩:=info_parts Tryz.infoRFile;have HI:=Zbn p hp true hn w;obtain rfl:=h.nil rfl;have z:(b.length:Int)<=2000:=by omega
 clear hn hb;go_enter func43,ntmps43
 go_wp2_with fail;refine HI.out.mono ?_;rintro e w1 ⟨rfl,g1⟩;have h1:=h.below g1;have HF:=Zaz h1 (by simp) p
 have hcell:=h1.cell;have hfree:=h1.free;have htb:=h1.lt;have hBw1:B<=w1.heap.size:=Nat.le_trans hBw g1.size;have M0:=Made.start B w1 tb;clear HI;go_wp2;refine wp_loop_rounds 1 ?_;rw[rounds_succ];go_wp2_with fail;refine HF.mono ?_;rintro e w2 ⟨hres,rfl⟩;rcases hres with ⟨k',hk',_,_⟩ | ⟨_,rfl⟩
 ·simp at hk'
 ·go_wp2;refine wp_loop_rounds 1 ?_;rw[rounds_succ];go_wp2_with (first
   | (at_builtin;refine wpList_append_own_at _ rfl _ _ 67 rfl B 71 i0 (.agg #[.string ⟨#[]⟩,.string ⟨#[]⟩]) 2 32 underlying67 hi hz0 hz1 hz2 rfl (by decide) _ _ _ rfl (M0.alloc _).row ⟨w2.heap.size,0,none⟩ 1 1 [.string (ba p),.string (ba b)] rfl rfl (Zmi _ _ _ _) (by simp[Value.oneCell']) (by unfold maxLen;simp) (by simp) (by simp;omega) ?_;intro v2 w4 o2 gr2 n2 loc2;have M2:Made B w2 w4 tb v2 [(p,b)]:=(M0.alloc _).more (l:=[]) (m:=[(p,b)]) o2 gr2 rfl loc2;have hcell4:=M2.cell hcell;have hfree4:=(M2.below.frozen (p:=⟨tb,0,none⟩) htb).trans hfree;(obtain⟨g3,c3,rfl,hc3⟩:=M2.shape2 (by simp) 1 rfl);(have hc3':(1:Int)<=(c3:Int):=by omega);(have hc3n:¬ c3<1:=by omega))
   | go_in)
  go_wp2;go_ret;have hne3:_≠some tb:=fun e=>by have:=M2.new tb e;omega
  refine⟨rfl,⟨_,.inr (fun j e=>Nat.le_trans g1.size (M2.new j e)),h1.low,World.cell?_setCell_same' _ _ _ (by rw[hcell4];rfl),by rw[World.frozen?_setCell];exact hfree4,?_,hne3,fun e=>by simp at e⟩,((g1.mono hBw).trans (M2.below.mono hBw1)).setCell (p:=⟨tb,0,none⟩) h1.low _,((Kept.of g1).trans (.of M2.below)).setCell (p:=⟨tb,0,none⟩) (.inl rfl) _⟩
  exact ownsRow_setCell_other M2.row (a:=⟨tb,0,none⟩) hne3 _
theorem Zik(h:RTreeAt B w tb fs v)(hw:Tf.Well pathB fs)(p b:List UInt8)(hp:p.length<=1000000):
  Calls prog 43 #[Ptr tb,.string (ba p),.string (ba b)] w fun e w'=>e=.returned (.int .i64 (Tf.putCode pathB fs p b))/\(∃ v',RowON w v v'/\RTreeAt B w' tb (Tf.putF pathB fs p b) v')/\Below B w w'/\Kept (mS tb v) w w':=by
 have hBw:B<=w.heap.size:=by have:=h.low;have:=h.lt;omega
 have hlen:∀ f∈fs,f.1.length<=1000000:=fun f hf=>by have:=Zci hw f hf;omega
 have hfew:fs.length<=1000:=by have:=hw.few;omega
 have keep:∀ {c:Nat},Tf.putCode pathB fs p b=c->c≠0->(Calls prog 43 #[Ptr tb,.string (ba p),.string (ba b)] w fun e w'=>e=.returned (.int .i64 (c:Int))/\Below w.heap.size w w') ->
   Calls prog 43 #[Ptr tb,.string (ba p),.string (ba b)] w fun e w'=>e=.returned (.int .i64 (Tf.putCode pathB fs p b))/\(∃ v',RowON w v v'/\RTreeAt B w' tb (Tf.putF pathB fs p b) v')/\Below B w w'/\Kept (mS tb v) w w':=fun {c} e hc H=>by
  rw[e,show Tf.putF pathB fs p b=fs by unfold Tf.putF;rw[e,if_neg hc]]
  exact H.mono fun _ _ ⟨h1,h2⟩=>⟨h1,⟨_,.inl rfl,h.below h2⟩,h2.mono hBw,.of h2⟩
 cases hn:pathB p with
 | false=>exact keep (c:=4) (by simp[Tf.putCode,hn]) (by omega) (Zyq w tb p b hp hn)
 | true =>
  rcases Nat.lt_or_ge 2000 b.length with hb | hb
  ·exact keep (c:=2) (by simp[Tf.putCode,hn,hb]) (by omega) (Zwc w tb p b hp hn hb)
  ·cases ht:Tf.hasP fs p with
   | true =>
    have e:Tf.putCode pathB fs p b=0:=by unfold Tf.putCode;rw[if_neg (by simp[hn]),if_neg (by omega),if_pos ht]
    rw[e,show Tf.putF pathB fs p b=Tf.put fs p b by unfold Tf.putF;rw[if_pos e]]
    exact Zsf h hlen hfew p b hp hn hb (Zvi hw ht) hw.rises ht
   | false =>
    have e:=Zev fs p b hn hb ht;cases hc:Tf.clash fs p with
    | true=>exact keep (c:=7) (by rw[e];simp[Zba,hc]) (by omega) (Zwb h hlen hfew p b hp hn hb hc)
    | false =>
     rcases Nat.lt_or_ge fs.length 60 with h60 | h60
     ·have e0:Tf.putCode pathB fs p b=0:=by rw[e];simp[Zba,hc];omega
      rw[e0,show Tf.putF pathB fs p b=Tf.put fs p b by unfold Tf.putF;rw[if_pos e0]]
      by_cases hne:fs=[]
      ·subst hne;exact Zsg h p b hp hn hb
      ·exact Zys h hlen hfew p b hp hn hb hc hw.rises ht h60 hne
     ·exact keep (c:=8) (by rw[e];simp[Zba,hc,h60]) (by omega) (Zyr h hlen hfew p b hp hn hb hc ht h60)
theorem RTreeAt.row_lt{fs:Fs}(h:RTreeAt B w tb fs v)(e:v.ownBlock=some j):j<w.heap.size:=by
 rcases h.row.2 with ⟨rfl,_⟩ | ⟨g,cap,cur,rfl,_,hg,_⟩
 ·cases e
 ·cases e
  exact(Array.getElem?_eq_some_iff.1 hg).1
def FIRow(w:World)(v:Value)(l:Fs):Prop :=
 ∃ p cap,v=.slice p l.length cap/\(l≠[]->∃ g o,p=some ⟨g,o,none⟩/\g<w.heap.size/\∀ j (hj:j<l.length),w.cell? ⟨g,o+j*2,none⟩=some (.string (ba l[j].1))/\w.cell? ⟨g,o+j*2+1,none⟩=some (.string (ba l[j].2)))
theorem Tf.putF_mem{fs:Fs}{f:List UInt8×List UInt8}(h:f∈Tf.putF pathB fs p b):f∈fs\/f=(p,b):=by
 unfold Tf.putF at h;split at h
 ·rcases Tf.mem_put.1 h with h1 | h1
  ·exact .inr h1
  ·exact .inl h1.1
 ·exact .inl h
theorem Ybb{fs:Tf.Fs}{l:List Ru}{x:List UInt8}(h:(Bf.want Af.actO fs l x).2≠0):(Bf.want Af.actO fs l x).1=[]:=by
 unfold Bf.want Bf.wantF at h ⊢;split
 ·rename_i i hm
  simp only[hm]at h;unfold Bf.wrule at h ⊢;split
  ·rename_i h0
   rw[if_pos h0]at h;unfold Af.actO at h ⊢;split
   ·rename_i h1
    rw[if_pos h1]at h;split
    ·rename_i k hk
     simp only[hk]at h;split
     ·rfl
     ·rename_i h2
      rw[if_neg h2]at h;exact absurd rfl h
    ·rfl
   ·rfl
  ·rfl
 ·rename_i hm
  simp only[hm]at h;split
  ·rename_i b hb
   simp only[hb]at h;exact absurd rfl h
  ·rfl
namespace Bf
structure Sheet(fs:Tf.Fs)(l:List Ru)(o:List Nat):Prop where
 fine:(Ru.fault l).1=0
 order:Ru.order l (need l (l.map Ru.out))=some o
variable {fs:Tf.Fs}{l:List Ru}{o:List Nat}
theorem Sheet.topo(h:Sheet fs l o):Ru.Topo l o/\o.Nodup/\(∀ i∈o,i<l.length)/\∀ i,i<l.length->i∈o:=by
 obtain⟨h1,h2⟩:=Ru.order_some h.order;obtain⟨h3,h4⟩:=Ru.order_nodup h.order;exact⟨h1,h3,h4,fun i hi=>h2 i hi (Zun hi)⟩
theorem Sheet.wanted(h:Sheet fs l o):Wanted Af.actO fs l (inO o) (want Af.actO fs l):=want_is h.topo.1 h.topo.2.1 h.topo.2.2.1
theorem Sheet.at(h:Sheet fs l o):∀ k (hk:k<l.length),mkr l l[k].out=some k:=fun k hk=>by
 obtain⟨-,hA⟩:=Ru.fault_ok h.fine;unfold mkr;rw[List.findIdx?_eq_some_iff_getElem];refine⟨hk,by simp,fun j hj=> ?_⟩
 have:l[j].out≠l[k].out:=fun e=>by
  have:=hA j k (by omega) hk e
  omega
 simpa using this
theorem Ydv(act:Act)(m:Nat)(es:Cf.Ens)(d:Bd)(i:Nat):∃ es',(go act (some (m,es)) d i).c=some (m,es'):=by
 unfold go;split
 ·exact⟨_,rfl⟩
 ·split
  ·exact⟨_,rfl⟩
  ·split
   ·exact⟨_,rfl⟩
   ·exact⟨_,rfl⟩
theorem Zrj(act:Act):∀(n m:Nat) (es:Cf.Ens) (d:Bd),∃ es',(allF act n (some (m,es)) d).2=some (m,es')
 | 0,m,es,d=>⟨es,rfl⟩
 | n+1,m,es,d=>by
  unfold allF;cases hr:d.ready with
  | nil=>exact⟨es,rfl⟩
  | cons i r =>
   obtain⟨es',e⟩:=Ydv act m es d i;simp only;rw[e];exact Zrj act n m es' _
end Bf
namespace Tf
theorem rises_ext:∀ {a b:Fs},Rises a->Rises b->(∀ p,get a p=get b p)->a=b
 | [],[],_,_,_=>rfl
 | [],y::b,_,_,h=>by
  have:=h y.1;simp[get]at this
 | x::a,[],_,_,h=>by
  have:=h x.1;simp[get]at this
 | x::a,y::b,ha,hb,h=>by
  have ha':=List.pairwise_cons.1 ha;have hb':=List.pairwise_cons.1 hb;have hne:∀ {u v:List UInt8},bytesBefore u v=true->u≠v:=fun hu e=>by
   rw[e,WideAt.bytes_irrefl]at hu;cases hu
  have hx:∀(z:List UInt8×List UInt8) (t:Fs),(∀ w∈t,bytesBefore z.1 w.1=true)->get (z::t) z.1=some z.2/\∀ p,p≠z.1->get (z::t) p=get t p:=fun z t _=>by
   refine⟨by simp[get],fun p hp=> ?_⟩
   unfold get;rw[List.find?_cons_of_neg (by simpa using fun e:z.1=p=>hp e.symm)]
  have hlow:∀(t:Fs) (q:List UInt8),(∀ w∈t,bytesBefore q w.1=true)->get t q=none:=fun t q hq=>by
   unfold get;rw[List.find?_eq_none.2 fun w hw=>by
    have:=hne (hq w hw);simpa using fun e:w.1=q=>this e.symm]
   rfl
  have hxy:x.1=y.1:=by
   refine Classical.byContradiction fun hn=> ?_
   rcases WideAt.bytes_total x.1 y.1 hn with h1 | h1
   ·have e1:=h x.1;rw[(hx x a ha'.1).1,(hx y b hb'.1).2 _ (hne h1),hlow b x.1 fun w hw=>WideShapes.bytes_trans _ _ _ h1 (hb'.1 w hw)]at e1
    cases e1
   ·have e1:=h y.1;rw[(hx y b hb'.1).1,(hx x a ha'.1).2 _ (hne h1),hlow a y.1 fun w hw=>WideShapes.bytes_trans _ _ _ h1 (ha'.1 w hw)]at e1
    cases e1
  have e2:=h x.1;rw[(hx x a ha'.1).1,hxy,(hx y b hb'.1).1]at e2;have exy:x=y:=Prod.ext hxy (by simpa using e2)
  subst exy;have:=rises_ext ha'.2 hb'.2 fun p=>by
   by_cases hp:p=x.1
   ·subst hp;rw[hlow a x.1 ha'.1,hlow b x.1 hb'.1]
   ·have:=h p;rwa[(hx x a ha'.1).2 p hp,(hx x b hb'.1).2 p hp]at this
  rw[this]
theorem Zhf(p b:List UInt8):∀ fs:Fs,(∀ f∈fs,f.1≠p)->get (ins (p,b) fs) p=some b
 | [],_=>by simp[ins,get]
 | y::r,h=>by
  have ih:=Zhf p b r fun f hf=>h f (List.mem_cons_of_mem _ hf)
  unfold ins;split
  ·simp[get]
  ·unfold get at ih ⊢;rw[List.find?_cons_of_neg (by simpa using h y (by simp))]
   exact ih
theorem del_ne(fs:Fs)(p:List UInt8):∀ f∈del fs p,f.1≠p:=fun f hf=>by
 unfold del at hf;have:=(List.mem_filter.1 hf).2;simpa using this
theorem get_put_same(fs:Fs)(p b:List UInt8):get (put fs p b) p=some b:=Zhf p b _ (del_ne fs p)
theorem get_del_same(fs:Fs)(p:List UInt8):get (del fs p) p=none:=by
 unfold get;rw[List.find?_eq_none.2 fun f hf=>by simpa using del_ne fs p f hf]
 rfl
end Tf
namespace Bf
def outS(l:List Ru)(d:Bd)(t:Tf.Fs)(i:Nat):Tf.Fs :=
 match d.st i with
 | .done s _=>Tf.putF pathB t (l.getD i ⟨[],[],[],[]⟩).out s
 | .failed _=>Tf.del t (l.getD i ⟨[],[],[],[]⟩).out
 | .left=>Tf.del t (l.getD i ⟨[],[],[],[]⟩).out
 | _=>t
def outW(l:List Ru)(d:Bd)(o:List Nat)(t:Tf.Fs):Tf.Fs:=o.foldl (outS l d) t
theorem outW_snoc(l:List Ru)(d:Bd)(o:List Nat)(t:Tf.Fs)(i:Nat):outW l d (o++[i]) t=outS l d (outW l d o t) i:=by simp[outW]
variable {l:List Ru}{d:Bd}{t:Tf.Fs}
theorem Zpn(h:Tf.Well pathB t)(i:Nat):Tf.Well pathB (outS l d t i):=by
 unfold outS;split
 ·exact h.putF _ _
 ·exact h.del _
 ·exact h.del _
 ·exact h
theorem outW_well{l:List Ru}{d:Bd}:∀(o:List Nat) {t:Tf.Fs},Tf.Well pathB t->Tf.Well pathB (outW l d o t)
 | [],_,h=>h
 | i::r,_,h=>outW_well (l:=l) (d:=d) r (Zpn h i)
def Outs(l:List Ru)(t:Tf.Fs):Prop:=∀ f∈t,∃ i,∃ hi:i<l.length,f.1=l[i].out
variable {i:Nat}
theorem Zyx(h:Outs l t)(hi:i<l.length):Outs l (outS l d t i):=by
 unfold outS;rw[getD_at hi];have hdel:Outs l (Tf.del t l[i].out):=fun f hf=>h f ((List.mem_filter.1 hf).1)
 split
 ·intro f hf
  rcases Tf.putF_mem hf with h1 | h1
  ·exact h f h1
  ·exact⟨i,hi,by rw[h1]⟩
 ·exact hdel
 ·exact hdel
 ·exact h
def Flat(l:List Ru):Prop:=∀ i k (hi:i<l.length) (hk:k<l.length),Tf.above l[i].out l[k].out=false
theorem Zpl(hf:(Ru.fault l).1=0)(hl:Flat l)(hw:Tf.Well pathB t)(ho:Outs l t)(hi:i<l.length){s:List UInt8}(hs:s.length<=2000):Tf.putCode pathB t l[i].out s=0:=by
 obtain⟨h40,-⟩:=Ru.fault_ok hf;have hp:pathB l[i].out=true:=by
  have he:Ru.errAt l i=0:=by
   unfold Ru.fault at hf;rw[if_neg (by omega)]at hf
   cases hfi:Ru.first (Ru.errAt l) l.length with
   | none=>exact Ru.first_none_zero hfi i hi
   | some k =>
    rw[hfi]at hf;exact absurd hf (Ru.first_some_ne hfi)
  rw[Ru.errAt_eq hi]at he;have her:l[i].err=0:=by
   by_cases hz:l[i].err=0
   ·exact hz
   ·rw[if_pos hz]at he;exact absurd he hz
  unfold Ru.err at her;cases hpb:pathB l[i].out with
  | true=>rfl
  | false=>rw[if_pos hpb]at her;cases her
 unfold Tf.putCode;rw[if_neg (by rw[hp];simp),if_neg (by omega)]
 by_cases hh:Tf.hasP t l[i].out=true
 ·rw[if_pos hh]
 ·rw[if_neg hh];have hc:Tf.clash t l[i].out=false:=by
   unfold Tf.clash;rw[List.any_eq_false];intro f hfm
   obtain⟨k,hk,e⟩:=ho f hfm;rw[e,hl k i hk hi,hl i k hi hk];simp
  rw[hc,if_neg (by simp)]
  have hlen:t.length<=l.length:=by
   have hnd:(t.map (·.1)).Nodup:=by
    have:t.Pairwise (fun a b=>a.1≠b.1):=hw.rises.imp fun h e=>by
     rw[e,WideAt.bytes_irrefl]at h;cases h
    rw[List.nodup_iff_pairwise_ne,List.pairwise_map];exact this
   have:=Cf.nodup_len (b:=l.map Ru.out) hnd fun x hx=>by
    obtain⟨f,hf,e⟩:=List.mem_map.1 hx;obtain⟨k,hk,e2⟩:=ho f hf;rw[<- e,e2];exact List.mem_map.2 ⟨_,List.getElem_mem hk,rfl⟩
   simpa using this
  rw[if_neg (by omega)]
def outG(d:Bd)(i:Nat):Option (List UInt8):=match d.st i with | .done s _=>some s | _=>none
end Bf
