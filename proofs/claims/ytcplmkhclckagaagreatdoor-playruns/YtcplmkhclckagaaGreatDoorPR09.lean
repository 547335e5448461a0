import Derived.Test.YtcplmkhclckagaaGreatDoorPR08
import Derived.Sort.KeysCollected
import Derived.Deep.RegionHeld3
set_option maxRecDepth 100000
set_option maxHeartbeats 4000000
open Go.Proofs.Tryz
namespace Go.Proofs.YtcplmkhclckagaaGreatDoor
section
open Go.RowKit Go.Shelf Go.Lib Go.Maps
open Go.Sort (grow Holds putRow)
def Af.bytes(ls:List (List UInt8)):Nat:=(ls.map List.length).sum
def Af.count(ls:List (List UInt8)):List UInt8:=Lib.decDigits (Af.all ls).length++32::(Lib.decDigits (Af.bytes ls)++[10])
theorem Zgp{ls:List (List UInt8)}{k:Nat}(hk:k<ls.length):Af.bytes (ls.take (k+1))=Af.bytes (ls.take k)+ls[k].length:=by
 unfold Af.bytes;rw[List.take_succ_eq_append_getElem hk,List.map_append,List.sum_append];simp only[List.map_cons,List.map_nil,List.sum_cons,List.sum_nil,Nat.add_zero]
theorem Zey(n:Nat)(h:n<=1000000000):(Lib.decDigits n).length<=21:=by
 have:=Lib.itoa_length_le (n:Int) (by omega) (by omega)
 rwa[Lib.itoa_nonneg]at this
theorem Znp{ls:List (List UInt8)}(h:∀ x∈ls,x.length<=100000):∀ k,k<=ls.length->Af.bytes (ls.take k)<=k*100000
 | 0,_=>by simp[Af.bytes]
 | k+1,hk=>by
  have ih:=Znp h k (by omega)
  rw[Zgp (by omega)]
  have h2:=h _ (List.getElem_mem (show k<ls.length by omega))
  omega
variable {w W:World}
theorem Zwx(n:Nat)(hn:n<=1000000000)(hP:Pow w)(hW:Below w.heap.size w W):Calls prog 31 #[.int .i64 n] W fun e w'=>e=.returned (.string (ba (Lib.decDigits n)))/\Below W.heap.size W w':=by
 refine(strconv_Itoa (n:Int) (by omega) (by omega) W (Zbt hP hW)).mono ?_
 rintro e w' ⟨rfl,k,os,rfl⟩;rw[Lib.itoa_nonneg];exact⟨rfl,Zcu W k os⟩
theorem Ztm(v:Value)(ls:List (List UInt8))(hn:ls.length<=1000)(hx:∀ x∈ls,x.length<=100000)(m:Int)(w:World)(hrow:TRow w v ls)(hm:w.cell? ⟨13,0,none⟩=some (.int .i64 m))(hP:Pow w):
  Calls prog 260 #[v] w fun e w'=>e=.returned (.string (ba (Af.count ls)))/\Below w.heap.size w w':=by
 have HA:=hid1 (Zer v ls hn hx m w hrow hm);have HI:=hid1 (fun(n:Nat) (hn:n<=1000000000) (W:World) (hW:Below w.heap.size w W)=>Zwx n hn hP hW)
 have hal:(Af.all ls).length<=100000000:=by
  have:=Zns hx ls.length (Nat.le_refl _);rw[List.take_length]at this;omega
 have hby:=Znp hx;have HQ:Hid (Af.count ls=Lib.decDigits (Af.all ls).length++32::(Lib.decDigits (Af.bytes ls)++[10])):=rfl;generalize Af.count ls=out at *;obtain⟨pa,cap,rfl,hcap,hin⟩:=hrow;have hR:Hid (∀ k (hk:k<ls.length),∃ g,pa=some ⟨g,0,none⟩/\w.cell? ⟨g,k,none⟩=some (.string (ba ls[k]))):=fun k hk=>by
  obtain⟨g,cur,rfl,hg,hcur⟩:=hin (by intro e;rw[e]at hk;simp at hk)
  exact⟨g,rfl,Zab hg (hcur k hk)⟩
 clear hin hm hP;go_enter func260,ntmps260
 go_wp2;go_loopw [3,8] (fun b i wr=>∃ k:Nat,k<=ls.length/\i=.int .i64 k/\b=.int .i64 (Af.bytes (ls.take k))/\wr=w) (fun _ i _=>ls.length - (intOf i).toNat)
 case atStart=>exact⟨0,Nat.zero_le _,rfl,rfl,rfl⟩
 case round =>
  obtain⟨k,hk,rfl,rfl,rfl⟩:=hrel;by_cases hlt:k<ls.length
  ·have c1:(k:Int)<(ls.length:Int):=by omega
   have c0:(0:Int)<=(k:Int):=by omega
   obtain⟨g,rfl,hcell⟩:=hR.out k hlt;have HB:Hid (Af.bytes (ls.take (k+1))=Af.bytes (ls.take k)+ls[k].length):=Zgp hlt;have hb1:=hby (k+1) (by omega)
   rw[HB.out]at hb1;generalize ls[k]=x at *;generalize Af.bytes (ls.take k)=b at *;have z2:(b:Int)+(x.length:Int)<=100000000:=by omega
   have hsz:((ba x).size:Int)=(x.length:Int):=by rw[Zal]
   go_wp2;go_roundw
   case rel=>exact⟨k+1,by omega,by go_num,by rw[HB.out];go_num,trivial⟩
   case measure=>simp[intOf];omega
  ·have c1:(ls.length:Int)<=(k:Int):=by omega
   obtain rfl:k=ls.length:=by omega
   have hb1:=hby ls.length (Nat.le_refl _);rw[List.take_length]at hb1 ⊢;go_wp2_with fail;refine Calls.mono HA.out ?_;rintro e w1 ⟨v1,rfl,hown,g1⟩;obtain⟨p1,cap1,rfl,_,_⟩:=TRow.of_owns hown;have H1:=HI.out (Af.all ls).length (by omega) w1 g1
   have hdA:=Zey (Af.all ls).length (by omega)
   have hdB:=Zey (Af.bytes ls) (by omega)
   clear hown HA;generalize Af.all ls=A at *;generalize Af.bytes ls=b at *;go_wp2_with fail;refine Calls.mono H1 ?_;rintro e w2 ⟨rfl,g2⟩;have G2:=g1.trans (g2.mono g1.size);have H2:=HI.out b (by omega) w2 G2
   clear H1;go_wp2_with fail;refine Calls.mono H2 ?_;rintro e w3 ⟨rfl,g3⟩;have ecat:ba (Lib.decDigits A.length)++{ data:= #[32] }++ba (Lib.decDigits b)++{ data:= #[10] }=ba out:=by
    rw[show(ByteArray.mk #[32])=ba [32] from rfl,show(ByteArray.mk #[10])=ba [10] from rfl,HQ.out]
    simp only[Zcv];simp
   clear H2;go_wp2;go_ret;exact⟨rfl,G2.trans (g3.mono G2.size)⟩
theorem Zqj(word:ByteArray)(v:Value)(ls:List (List UInt8))(hn:ls.length<=1000)(hx:∀ x∈ls,x.length<=100000)(m:Int)(w:World)(hrow:TRow w v ls)(hm:w.cell? ⟨13,0,none⟩=some (.int .i64 m))(hP:Pow w):
  Calls prog 259 #[.string word,v] w fun e w'=>e=.returned (.string (ba (Af.count ls)))/\Below w.heap.size w w':=by
 have HA:=hid1 (Ztm v ls hn hx m w hrow hm hP);clear hm hP hrow;go_enter func259,ntmps259
 go_wp2_with fail;refine Calls.mono HA.out ?_;rintro e w1 ⟨rfl,g1⟩;go_wp2;go_ret;exact⟨rfl,g1⟩
theorem Zfw(xs:List (List UInt8)):(xs.map ba).map (·.data.toList)=xs:=by
 rw[List.map_map];conv=>rhs;rw[<- List.map_id xs]
 exact List.map_congr_left fun x _=>rfl
theorem Zte(wd:List UInt8)(v:Value)(ls:List (List UInt8))(hn:ls.length<=1000)(hl:(Lib.join ls wd).length<=1000000000)(w:World)(hrow:TRow w v ls):
  Calls prog 252 #[.string (ba wd),v] w fun e w'=>e=.returned (.string (ba (Lib.join ls wd)))/\Below w.heap.size w w':=by
 have HJ:Hid (Calls prog 24 #[v,.string (ba wd)] w fun e w'=>e=.returned (.string (ba (Lib.join ls wd)))/\Below w.heap.size w w'):=by
  obtain⟨pa,cap,rfl,hcap,hin⟩:=hrow;by_cases h0:ls=[]
  ·subst h0;refine hid1 ((Any.strings_Join_none lays156 Builder_Extra_156 pa cap (ba wd) w).mono ?_);rintro e w' ⟨rfl,rfl⟩;exact⟨rfl,Below.refl _ _⟩
  ·obtain⟨g,cur,rfl,hg,hcur⟩:=hin h0;have:=strings_Join g 0 cap (ls.map ba) (ba wd) w (fun j x hj=>by
    have hjl:j<ls.length:=by simpa using (List.getElem?_eq_some_iff.1 hj).1
    rw[List.getElem?_map,List.getElem?_eq_getElem hjl]at hj
    simp at hj;rw[Nat.zero_add,<- hj];exact Zab hg (hcur j hjl)) (Array.getElem?_eq_some_iff.1 hg).1 (by simp;omega) (by simpa using hcap) (by rw[Zfw];show(Lib.join ls wd).length<=_;omega)
   rw[Zfw,List.length_map]at this;exact this
 clear hrow;go_enter func252,ntmps252
 go_wp2_with fail;refine Calls.mono HJ.out ?_;rintro e w1 ⟨rfl,g1⟩;go_wp2;go_ret;exact⟨rfl,g1⟩
theorem Zqh(word:ByteArray)(v:Value)(w:World):
  Calls prog 251 #[.string word,v] w fun e w'=>e=.returned (.string word)/\Below w.heap.size w w':=by
 go_enter func251,ntmps251
 go_wp2;go_ret;exact⟨rfl,Below.refl _ _⟩
theorem Zdf(word:ByteArray)(w:World):
  Calls prog 250 #[.string word] w fun e w'=>e=.returned (.bool true)/\Below w.heap.size w w':=by
 go_enter func250,ntmps250
 go_wp2;go_ret;exact⟨rfl,Below.refl _ _⟩
theorem Zfd(wd:List UInt8)(words:List (List UInt8))(b g:Nat)(w:World)(hb:w.cell? ⟨b,0,none⟩=some (.slice (some ⟨g,0,none⟩) words.length words.length))(hw:words.length<=1000) 
  (hc:∀ j (hj:j<words.length),w.cell? ⟨g,j,none⟩=some (.string (ba words[j]))) :
  Calls prog 270 #[.string (ba wd),.pointer (some ⟨b,0,none⟩)] w fun e w'=>e=.returned (.bool (decide (wd∈words)))/\Below w.heap.size w w':=by
 have HC:Hid (Calls prog 195 #[.slice (some ⟨g,0,none⟩) words.length words.length,.string (ba wd)] w fun e w'=>e=.returned (.bool (decide (wd∈words)))/\w'=w):=by
  have:=slices_Contains_string g 0 words.length words.length (words.map ba) (ba wd) w (by simp) (by omega) (fun j hj=>by
   have hjl:j<words.length:=by simpa using hj
   rw[Nat.zero_add,hc j hjl];simp[hjl])
  rw[List.take_of_length_le (by simp)]at this
  have e:Lib.containsS (words.map ba) (ba wd)=decide (wd∈words):=by
   rw[Bool.eq_iff_iff,Lib.containsS_iff,decide_eq_true_iff];simp only[List.mem_map];constructor
   ·rintro⟨x,hx,e⟩;have:x=wd:=by
     have:=congrArg (·.data.toList) e;simpa[ba] using this
    rw[<- this];exact hx
   ·exact fun h=>⟨wd,h,rfl⟩
  rw[e]at this;exact this
 generalize decide (wd∈words)=r at *;clear hc;go_enter func270,ntmps270
 go_wp2_with fail;refine Calls.mono HC.out ?_;rintro e w1 ⟨rfl,rfl⟩;go_wp2;go_ret;exact⟨rfl,Below.refl _ _⟩
structure AW(w:World)(es el:Value):Prop where
 len:∃ m,w.cell? ⟨13,0,none⟩=some (.int .i64 m)
 pow:Pow w
 shape:w.cell? ⟨2,0,none⟩=some es
 long:w.cell? ⟨9,0,none⟩=some el
 big:20<w.heap.size
theorem AW.stays{es el:Value}(h:AW w es el)(hb:Below w.heap.size w W):AW W es el:=by
 have h0:=h.big;refine⟨?_,Zbt h.pow hb,(Zam hb (by omega)).trans h.shape,(Zam hb (by omega)).trans h.long,Nat.lt_of_lt_of_le h0 hb.size⟩
 obtain⟨m,hm⟩:=h.len;exact⟨m,Zaa hm hb⟩
theorem Zbu{B i:Nat}(hO:Objs W B){c:Array Value}{t:TypeId}{j:Nat}{v:Value}(hi:(kindsO B)[i]? =some (.cells c t (0,0)))(hv:c[j]? =some v):W.cell? ⟨B+1+i,j,none⟩=some v:=by
 obtain⟨h1,h2⟩:=List.getElem?_eq_some_iff.1 hi;have:=hO i h1;rw[h2]at this;simp[World.cell?,this,hv]
abbrev oncew:List UInt8:=[111,110,99,101]
theorem Zvu(wd:List UInt8)(hO:Objs W (w.heap.size+1)):
  Calls prog 270 (#[.string (ba wd)]++ #[.pointer (some ⟨w.heap.size+1+1+5,0,none⟩)]) W fun e w'=>e=.returned (.bool (decide (wd∈[[],oncew])))/\Below W.heap.size W w':=by
 refine Zfd wd [[],oncew] (w.heap.size+1+1+5) (w.heap.size+1+1+4) W (Zbu hO rfl rfl) (by simp) ?_
 intro j hj
 match j,hj with
 | 0,_=>exact Zbu hO rfl rfl
 | 1,_=>exact Zbu hO rfl rfl
theorem Zlp(i:Nat)(hi:i=1\/i=7)(wd:List UInt8)(hO:Objs W (w.heap.size+1)):
  Calls prog 270 (#[.string (ba wd)]++ #[.pointer (some ⟨w.heap.size+1+1+i,0,none⟩)]) W fun e w'=>e=.returned (.bool (decide (wd∈[[]])))/\Below W.heap.size W w':=by
 rcases hi with rfl | rfl
 ·refine Zfd wd [[]] (w.heap.size+1+1+1) (w.heap.size+1+1+0) W (Zbu hO rfl rfl) (by simp) ?_
  intro j hj
  match j,hj with
  | 0,_=>exact Zbu hO rfl rfl
 ·refine Zfd wd [[]] (w.heap.size+1+1+7) (w.heap.size+1+1+6) W (Zbu hO rfl rfl) (by simp) ?_
  intro j hj
  match j,hj with
  | 0,_=>exact Zbu hO rfl rfl
end
namespace Tf
open Go.Maps
abbrev Fs:=List (List UInt8×List UInt8)
def datum(fs:Fs):DataW Unit:=.map (fs.map fun f=>(Lit.string f.1,DataW.lit (.string f.2)))
def Rises(fs:Fs):Prop:=fs.Pairwise (fun a b=>bytesBefore a.1 b.1=true)
def ins(x:List UInt8×List UInt8):Fs->Fs
 | []=>[x]
 | y::r=>if bytesBefore x.1 y.1 then x::y::r else y::ins x r
def del(fs:Fs)(p:List UInt8):Fs:=fs.filter fun f=> !(f.1==p)
def put(fs:Fs)(p b:List UInt8):Fs:=ins (p,b) (del fs p)
def hasP(fs:Fs)(p:List UInt8):Bool:=fs.any fun f=>f.1==p
def get(fs:Fs)(p:List UInt8):Option (List UInt8):=(fs.find? fun f=>f.1==p).map (·.2)
theorem Zqz(x:List UInt8×List UInt8):∀ fs:Fs,DataW.insert (Lit.string x.1,DataW.lit (H:=Unit) (.string x.2)) (fs.map fun f=>(Lit.string f.1,DataW.lit (.string f.2)))=(ins x fs).map fun f=>(Lit.string f.1,DataW.lit (.string f.2))
 | []=>rfl
 | y::r=>by
  unfold ins;by_cases h:bytesBefore x.1 y.1=true
  ·have h':(Lit.string x.1).before (Lit.string y.1)=true:=h;simp only[List.map_cons,DataW.insert];rw[if_pos h',if_pos h];rfl
  ·have h':¬ (Lit.string x.1).before (Lit.string y.1)=true:=h;simp only[List.map_cons,DataW.insert];rw[if_neg h',if_neg h,Zqz x r];rfl
theorem Zhj(p:List UInt8)(fs:Fs):(fs.map fun f=>(Lit.string f.1,DataW.lit (H:=Unit) (.string f.2))).filter (fun q=> !q.1.sameKey (.string p))=(del fs p).map fun f=>(Lit.string f.1,DataW.lit (.string f.2)):=by
 unfold del;rw[List.filter_map];rfl
theorem datum_put(fs:Fs)(p b:List UInt8):(datum fs).put (.string p) (.lit (.string b))=datum (put fs p b):=by
 unfold datum put DataW.put;simp only;rw[Zhj,<- Zqz]
theorem datum_del(fs:Fs)(p:List UInt8):(datum fs).del (.string p)=datum (del fs p):=by
 unfold datum DataW.del;simp only;rw[Zhj]
theorem datum_has(fs:Fs)(p:List UInt8):Maps.has (datum fs) (.string p)=hasP fs p:=by
 unfold datum hasP;rw[has_eq,List.any_map];rfl
theorem datum_at(fs:Fs)(p:List UInt8)(z:DataW Unit):(datum fs).atKey (.string p) z=match get fs p with | some b=>.lit (.string b) | none=>z:=by
 unfold datum get DataW.atKey;simp only;rw[List.find?_map];rw[show((fun q:Lit×DataW Unit=>q.1.sameKey (.string p)) ∘ fun f:List UInt8×List UInt8=>(Lit.string f.1,DataW.lit (H:=Unit) (.string f.2)))=(fun f=>f.1==p) from rfl]
 cases List.find? (fun f=>f.1==p) fs <;> rfl
theorem datum_size(fs:Fs):Maps.size (datum fs)=fs.length:=by simp[datum,size_eq]
theorem datum_keys(fs:Fs):strKeys (datum fs)=fs.map (·.1):=by simp[datum,strKeys,strOf]
theorem before_lt:∀(x y:List UInt8),bytesBefore x y=true↔x<y
 | [],[]=>by simp[bytesBefore]
 | [],_::_=>by simp[bytesBefore]
 | _::_,[]=>by simp[bytesBefore]
 | a::r,b::s=>by
  rw[List.cons_lt_cons_iff,<- before_lt r s];simp[bytesBefore]
theorem less_before:∀(x y:List UInt8),Op.bytesLess x y=bytesBefore x y
 | [],[]=>rfl
 | [],_::_=>rfl
 | _::_,[]=>rfl
 | a::r,b::s=>by simp[Op.bytesLess,bytesBefore,less_before r s]
theorem Rises.sorted{fs:Fs}(h:Rises fs):(fs.map (·.1)).mergeSort (fun x y=>decide (x<=y))=fs.map (·.1):=by
 refine List.mergeSort_of_pairwise ?_;rw[List.pairwise_map];exact h.imp fun {a b} hab=>by
  have:=(before_lt a.1 b.1).1 hab;simpa using List.le_of_lt this
theorem Rises.del{fs:Fs}(h:Rises fs)(p:List UInt8):Rises (del fs p):=List.Pairwise.filter _ h
theorem Zsw(x y:List UInt8×List UInt8):∀ fs:Fs,y∈ins x fs↔y=x\/y∈fs
 | []=>by simp[ins]
 | f::r=>by
  unfold ins;split
  ·simp
  ·simp only[List.mem_cons,Zsw x y r];constructor
   ·rintro(h | h | h) <;> simp[h]
   ·rintro(h | h | h) <;> simp[h]
theorem Rises.ins{fs:Fs}(h:Rises fs){x:List UInt8×List UInt8}(hx:∀ f∈fs,f.1≠x.1):Rises (ins x fs):=by
 induction fs with
 | nil=>simp[Tf.ins,Rises]
 | cons f r ih =>
  unfold Tf.ins;have h':=List.pairwise_cons.1 h;split
  ·rename_i hb
   refine List.pairwise_cons.2 ⟨fun g hg=> ?_,h⟩
   rcases List.mem_cons.1 hg with rfl | hg
   ·exact hb
   ·exact WideShapes.bytes_trans _ _ _ hb (h'.1 g hg)
  ·rename_i hb
   refine List.pairwise_cons.2 ⟨fun g hg=> ?_,ih h'.2 fun g hg=>hx g (List.mem_cons_of_mem _ hg)⟩
   rcases (Zsw x g r).1 hg with rfl | hg
   ·rcases WideAt.bytes_total f.1 g.1 (hx f (by simp)) with h1 | h1
    ·exact h1
    ·exact absurd h1 hb
   ·exact h'.1 g hg
variable {fs:Fs}{p:List UInt8}{f:List UInt8×List UInt8}
theorem mem_del:f∈del fs p↔f∈fs/\f.1≠p:=by simp[del]
theorem Rises.put{fs:Fs}(h:Rises fs)(p b:List UInt8):Rises (put fs p b):=(h.del p).ins fun _ hf=>(mem_del.1 hf).2
theorem mem_put{b:List UInt8}:f∈put fs p b↔f=(p,b)\/(f∈fs/\f.1≠p):=by
 unfold put;rw[Zsw,mem_del]
theorem Zlt(x:List UInt8×List UInt8):∀ fs:Fs,(ins x fs).length=fs.length+1
 | []=>rfl
 | f::r=>by
  unfold ins;split
  ·rfl
  ·simp[Zlt x r]
theorem del_none(h:hasP fs p=false):del fs p=fs:=by
 unfold del hasP at *;rw[List.filter_eq_self];intro f hf
 have:=List.any_eq_false.1 h f hf;simpa using this
theorem Zne(fs:Fs)(p:List UInt8):(del fs p).length<=fs.length:=List.length_filter_le _ _
theorem Znd(h:hasP fs p=true):(del fs p).length<fs.length:=by
 unfold del hasP at *;obtain⟨f,hf,hp⟩:=List.any_eq_true.1 h;rcases Nat.lt_or_ge (fs.filter fun f=> !(f.1==p)).length fs.length with h1 | h1
 ·exact h1
 ·have e:=List.filter_eq_self.1 (List.Sublist.eq_of_length_le (List.filter_sublist) h1) f hf;simp[hp]at e
def above(a b:List UInt8):Bool:=Lib.hasPrefix b (a++[47])
def clash(fs:Fs)(p:List UInt8):Bool:=fs.any fun f=>above f.1 p||above p f.1
def putCode(ok:List UInt8->Bool)(fs:Fs)(p b:List UInt8):Nat :=
 if ok p=false then 4 else if 2000<b.length then 2 else if hasP fs p then 0 else if clash fs p then 7 else if 60<=fs.length then 8 else 0
def putF(ok:List UInt8->Bool)(fs:Fs)(p b:List UInt8):Fs:=if putCode ok fs p b=0 then put fs p b else fs
structure Well(ok:List UInt8->Bool)(fs:Fs):Prop where
 rises:Rises fs
 few:fs.length<=60
 each:∀ f∈fs,ok f.1=true/\f.2.length<=2000
 apart:∀ f∈fs,∀ g∈fs,above f.1 g.1=false
theorem Zxr(p:List UInt8):above p p=false:=by
 unfold above Lib.hasPrefix;cases h:(p++[47]).isPrefixOf p with
 | false=>rfl
 | true =>
  have:=(List.isPrefixOf_iff_prefix.1 h).length_le;simp at this;omega
theorem Well.del{ok:List UInt8->Bool}{fs:Fs}(h:Well ok fs)(p:List UInt8):Well ok (del fs p) :=
 ⟨h.rises.del p,Nat.le_trans (Zne _ _) h.few,fun f hf=>h.each f (mem_del.1 hf).1,fun f hf g hg=>h.apart f (mem_del.1 hf).1 g (mem_del.1 hg).1⟩
theorem Well.put{ok:List UInt8->Bool}{fs:Fs}(h:Well ok fs){p b:List UInt8}(hc:putCode ok fs p b=0):Well ok (put fs p b):=by
 unfold putCode at hc;split at hc
 ·cases hc
 rename_i hok
 split at hc
 ·cases hc
 rename_i hb
 have hok':ok p=true:=by simpa using hok
 refine⟨h.rises.put p b,?_,?_,?_⟩
 ·unfold Tf.put;rw[Zlt];have:=h.few;split at hc
  ·rename_i hh
   have:=Znd hh;omega
  ·rename_i hh
   have hh':hasP fs p=false:=by simpa using hh
   rw[del_none hh'];split at hc
   ·cases hc
   split at hc
   ·cases hc
   ·omega
 ·intro f hf
  rcases mem_put.1 hf with rfl | ⟨hf,_⟩
  ·exact⟨hok',by simpa using hb⟩
  ·exact h.each f hf
 ·have key:∀ f∈fs,f.1≠p->above f.1 p=false/\above p f.1=false:=by
   intro f hf hne
   split at hc
   ·rename_i hh
    obtain⟨g,hg,hgp⟩:=List.any_eq_true.1 hh;obtain rfl:g.1=p:=by simpa using hgp
    exact⟨h.apart f hf g hg,h.apart g hg f hf⟩
   ·split at hc
    ·cases hc
    ·rename_i hcl
     have hcl':clash fs p=false:=by simpa using hcl
     have:=List.any_eq_false.1 hcl' f hf;simpa using this
  intro f hf g hg
  rcases mem_put.1 hf with rfl | ⟨hf,hfp⟩ <;> rcases mem_put.1 hg with rfl | ⟨hg,hgp⟩
  ·exact Zxr p
  ·exact(key g hg hgp).2
  ·exact(key f hf hfp).1
  ·exact h.apart f hf g hg
theorem Well.putF{ok:List UInt8->Bool}{fs:Fs}(h:Well ok fs)(p b:List UInt8):Well ok (putF ok fs p b):=by
 unfold Tf.putF;split
 ·rename_i hc;exact h.put hc
 ·exact h
theorem Rises.before_at(h:Rises fs){k:Nat}(hk:k<fs.length):∀ f∈fs.take k,bytesBefore f.1 fs[k].1=true:=by
 intro f hf
 obtain⟨j,hj,rfl⟩:=List.mem_iff_getElem.1 hf;rw[List.length_take]at hj;rw[List.getElem_take];exact List.pairwise_iff_getElem.1 h j k (by omega) hk (by omega)
def entryT(f:List UInt8×List UInt8):List UInt8:=f.1++32::(Lib.decDigits f.2.length++10::(f.2++[10]))
def textT(fs:Fs):List UInt8:=fs.flatMap entryT
def numT(d:List UInt8):Option Nat :=
 if 4<d.length then none else match Lib.atoi d with
  | some n=>if 0<=n/\Lib.itoa n=d then some n.toNat else none
  | none=>none
end Tf
section
open Go.RowKit Go.Shelf Go.Lib Go.Maps
open Tf (Fs)
theorem Zds:∀(n:Nat),∀ b∈Lib.decDigits n,48<=b.toNat/\b.toNat<=57
 | n=>by
  intro b hb
  rw[Lib.decDigits]at hb;have key:∀ d,d<10->(UInt8.ofNat (48+d)).toNat=48+d:=fun d hd=>by simp;omega
  split at hb
  ·rename_i h
   obtain rfl:b=UInt8.ofNat (48+n):=by simpa using hb
   rw[key n h];omega
  ·rename_i h
   rcases List.mem_append.1 hb with hb | hb
   ·exact Zds (n/10) b hb
   ·obtain rfl:b=UInt8.ofNat (48+n%10):=by simpa using hb
    rw[key _ (Nat.mod_lt _ (by omega))];omega
 termination_by n=>n
 decreasing_by omega
theorem Zeq:∀(l r:List UInt8) (acc n:Nat),Lib.decFrom acc l=some n->Lib.decFrom acc (l++r)=Lib.decFrom n r
 | [],r,acc,n,h=>by
  simp[Lib.decFrom]at h;subst h;rfl
 | b::l,r,acc,n,h=>by
  simp only[Lib.decFrom,List.cons_append]at h ⊢;cases hd:Lib.digitVal b with
  | none=>rw[hd]at h;cases h
  | some d =>
   rw[hd]at h;simp only at h ⊢;exact Zeq l r _ n h
theorem Ztl(acc d:Nat)(b:UInt8)(h:Lib.digitVal b=some d):Lib.decFrom acc [b]=some (acc*10+d):=by
 unfold Lib.decFrom;rw[h];rfl
theorem Yaj(n:Nat):Lib.decDigits n≠[]:=by
 rw[Lib.decDigits];split <;> simp
def SynAt(w:World):Prop:=∃ ev,w.cell? ⟨19,0,none⟩=some ev/\(ev=.nilIface\/∃ te pe,ev=.iface te pe)
theorem SynAt.below{w w':World}(h:SynAt w)(hb:Below w.heap.size w w'):SynAt w':=by
 obtain⟨ev,h1,h2⟩:=h;exact⟨ev,Zaa h1 hb,h2⟩
def numM(k:Nat)(d:List UInt8):Option Nat :=
 if k<d.length then none else match Lib.atoi d with
  | some n=>if 0<=n/\Lib.itoa n=d then some n.toNat else none
  | none=>none
theorem Zzc(d:List UInt8):Tf.numT d=numM 4 d:=rfl
variable {d:List UInt8}
theorem Ziq{k:Nat}{n:Nat}(h:numM k d=some n):d.length<=k/\Lib.atoi d=some (n:Int)/\Lib.decDigits n=d:=by
 unfold numM at h;split at h
 ·cases h
 rename_i h4
 split at h
 ·rename_i z hz
  split at h
  ·rename_i hc
   obtain⟨h0,h1⟩:=hc;have e:z=(n:Int):=by
    have:=Option.some.inj h;omega
   subst e;rw[Lib.itoa_nonneg]at h1;exact⟨by omega,hz,h1⟩
  ·cases h
 ·cases h
theorem Zgq{z:Int}(h:Lib.atoi d=some z)(h4:d.length<=4): -100000<=z/\z<=100000:=by
 obtain⟨b0,r,rfl,hc⟩:=Lib.atoi_cases h;have key:∀(l:List UInt8) (m:Nat),l.length<=4->Lib.decFrom 0 l=some m->m<100000:=fun l m hl hm=>by
  have h1:=Lib.decFrom_lt l 0 m hm;have h2:10 ^ l.length<=10 ^ 4:=Nat.pow_le_pow_right (by omega) hl
  omega
 have hr:r.length<=4:=by simp at h4;omega
 rcases hc with ⟨_,m,_,hm,rfl⟩ | ⟨_,m,_,hm,rfl⟩ | ⟨_,_,m,hm,rfl⟩
 ·have:=key _ m hr hm;omega
 ·have:=key _ m hr hm;omega
 ·have:=key _ m h4 hm;omega
theorem Zpt(k:Nat)(hk:k<=4)(d:List UInt8)(n:Nat)(h:numM k d=some n)(hn:n<=1000000)(w:World)(hP:Pow w):
  Calls prog 279 #[.string (ba d),.int .i64 k] w fun e w'=>e=.returned (.tuple #[.int .i64 n,.bool true])/\Below w.heap.size w w':=by
 obtain⟨h4,ha,hd⟩:=Ziq h;have HA:Hid (Calls prog 288 #[.string (ba d)] w fun e w'=>e=.returned (.tuple #[.int .i64 n,.nilIface])/\Below w.heap.size w w') :=
  (strconv_Atoi (ba d) (n:Int) (by rw[Zal];omega) ha w).mono fun e w' ⟨h1,t,h2⟩=>⟨h1,h2 ▸ Go.Joins.below_bytesWorld _ w 5 t (Nat.le_refl _)⟩
 have HI:Hid (∀ W,Below w.heap.size w W->Calls prog 31 #[.int .i64 n] W fun e w'=>e=.returned (.string (ba d))/\Below W.heap.size W w'):=fun W hW=>by
  refine(strconv_Itoa (n:Int) (by omega) (by omega) W (Zbt hP hW)).mono ?_
  rintro e w' ⟨rfl,k,os,rfl⟩;rw[Lib.itoa_nonneg,hd];exact⟨rfl,Zcu W k os⟩
 have z4:(d.length:Int)<=(k:Int):=by omega
 have z0:(0:Int)<=(n:Int):=by omega
 clear h ha hd h4 hP;go_enter func279,ntmps279
 go_wp2_with fail;refine HA.out.mono ?_;rintro e w1 ⟨rfl,g1⟩;go_wp2_with fail;refine(HI.out w1 g1).mono ?_;rintro e w2 ⟨rfl,g2⟩;go_wp2;go_ret2;exact⟨by first | rfl | simp,g1.trans (g2.mono g1.size)⟩
theorem Ybz(k:Nat)(hk:k<=4)(d:List UInt8)(h:numM k d=none)(hd:d.length<=1000000)(w:World)(hP:Pow w)(hS:SynAt w):
  Calls prog 279 #[.string (ba d),.int .i64 k] w fun e w'=>e=.returned (.tuple #[.int .i64 0,.bool false])/\Below w.heap.size w w':=by
 by_cases h4:k<d.length
 ·have z4:(k:Int)<(d.length:Int):=by omega
  clear h hP hS;go_enter func279,ntmps279
  go_wp2;go_ret2;exact⟨rfl,Below.refl _ _⟩
 have z4:(d.length:Int)<=(k:Int):=by omega
 cases ha:Lib.atoi d with
 | none =>
  obtain⟨ev,hv,hev⟩:=hS;have HA:Hid (Calls prog 288 #[.string (ba d)] w fun e w'=>(∃ t v,e=.returned (.tuple #[.int .i64 0,.iface t v]))/\Below w.heap.size w w') :=
   (strconv_Atoi_err (ba d) (by rw[Zal];omega) ha ev w hv hev).mono fun e w' ⟨N,h1,_,_,h2⟩=>⟨⟨_,_,h1⟩,h2⟩
  clear h hP ha hv hev h4;go_enter func279,ntmps279
  go_wp2_with fail;refine HA.out.mono ?_;rintro e w1 ⟨⟨t,v,rfl⟩,g1⟩;go_wp2;go_ret2;exact⟨rfl,g1⟩
 | some z =>
  obtain⟨hz0,hz1⟩:=Zgq ha (by omega)
  have HA:Hid (Calls prog 288 #[.string (ba d)] w fun e w'=>e=.returned (.tuple #[.int .i64 z,.nilIface])/\Below w.heap.size w w') :=
   (strconv_Atoi (ba d) z (by rw[Zal];omega) ha w).mono fun e w' ⟨h1,t,h2⟩=>⟨h1,h2 ▸ Go.Joins.below_bytesWorld _ w 5 t (Nat.le_refl _)⟩
  by_cases hz:0<=z
  ·have hne:(Lib.itoa z==d)=false:=by
    unfold numM at h;rw[if_neg h4,ha]at h;simp only at h;split at h
    ·cases h
    ·rename_i hc
     simp
     exact fun e=>hc ⟨hz,e⟩
   have HI:Hid (∀ W,Below w.heap.size w W->Calls prog 31 #[.int .i64 z] W fun e w'=>e=.returned (.string (ba (Lib.itoa z)))/\Below W.heap.size W w'):=fun W hW=>by
    refine(strconv_Itoa z (by omega) (by omega) W (Zbt hP hW)).mono ?_
    rintro e w' ⟨rfl,k,os,rfl⟩;exact⟨rfl,Zcu W k os⟩
   generalize Lib.itoa z=y at *;clear h ha h4 hP hS;go_enter func279,ntmps279
   go_wp2_with fail;refine HA.out.mono ?_;rintro e w1 ⟨rfl,g1⟩;go_wp2_with fail;refine(HI.out w1 g1).mono ?_;rintro e w2 ⟨rfl,g2⟩;go_wp2;go_ret2;exact⟨rfl,g1.trans (g2.mono g1.size)⟩
  ·have hz':z<0:=by omega
   clear h ha h4 hP hS hz;go_enter func279,ntmps279
   go_wp2_with fail;refine HA.out.mono ?_;rintro e w1 ⟨rfl,g1⟩;go_wp2;go_ret2;exact⟨rfl,g1⟩
open Go.Sort (grow Holds putRow)
theorem Zsr(word out:ByteArray)(x:List UInt8)(f b g n cap:Nat)(w:World)(hb:w.cell? ⟨b,0,none⟩=some (fn f))(hx:w.cell? ⟨g,0,none⟩=some (.string (ba x)))(hbl:b<w.heap.size)(hgl:g<w.heap.size)(hn:1<=n) 
  (ef:∀ args w,(callFunc f args).run prog w=.ok (.enter f args) w)
  (HF:Hid (∀ W,Below w.heap.size w W->Calls prog f #[.string word,.string (ba x)] W fun e w'=>e=.returned (.string out)/\Below W.heap.size W w')) :
  Calls prog 271 #[.string word,.slice (some ⟨g,0,none⟩) n cap,.pointer (some ⟨b,0,none⟩)] w fun e w'=>e=.returned (.string out)/\Below w.heap.size w w':=by
 have n0:0<n:=hn;go_enter func271,ntmps271
 go_wp2;go_region_held3 (fun w'=>w'.cell? ⟨b,0,none⟩=some (fn f)/\w'.cell? ⟨g,0,none⟩=some (.string (ba x))) (first | go_keep | fail)
  (first | (go_at_fn f;refine Calls.mono (HF.out _ (by exact(Below.refl _ w).drew)) ?_;rintro e w3 ⟨rfl,g3⟩;have e2:=(Zam g3 (j:=0) hbl).trans hb;have e3:=(Zam g3 (j:=0) hgl).trans hx))
 all_goals
  go_wp2;go_ret;exact⟨rfl,Zac (Zad (Below.refl _ w) 1) g3⟩
theorem Ybv(wd:List UInt8):wd.length<=1000000->∀(w:World),Pow w->SynAt w->Calls prog 279 #[.string (ba wd),.int .i64 3] w fun e w'=>(∃ x:Int,e=.returned (.tuple #[.int .i64 x,.bool (numM 3 wd).isSome]))/\Below w.heap.size w w':=fun hl w hP hS=>by
 cases h:numM 3 wd with
 | none=>exact(Ybz 3 (by omega) wd h hl w hP hS).mono fun e w' ⟨h1,h2⟩=>⟨⟨0,h1⟩,h2⟩
 | some n =>
  obtain⟨h4,ha,_⟩:=Ziq h;have:=Zgq ha (by omega)
  exact(Zpt 3 (by omega) wd n h (by omega) w hP).mono fun e w' ⟨h1,h2⟩=>⟨⟨n,h1⟩,h2⟩
theorem Zqm(wd:List UInt8)(hl:wd.length<=1000000)(w:World)(hP:Pow w)(hS:SynAt w):
  Calls prog 263 #[.string (ba wd)] w fun e w'=>e=.returned (.bool (numM 3 wd).isSome)/\Below w.heap.size w w':=by
 have HA:=hid1 (Ybv wd hl w hP hS);generalize (numM 3 wd).isSome=r at *;clear hP hS;go_enter func263,ntmps263
 go_wp2_with fail;refine Calls.mono HA.out ?_;rintro e w1 ⟨⟨x,rfl⟩,g1⟩;go_wp2;go_ret;exact⟨rfl,g1⟩
theorem Zwy(wd s:List UInt8)(n:Nat)(hn:numM 3 wd=some n)(hs:s.length<=100000)(m:Int)(w:World)(hm:w.cell? ⟨13,0,none⟩=some (.int .i64 m))(hP:Pow w):
  Calls prog 264 #[.string (ba wd),.string (ba s)] w fun e w'=>e=.returned (.string (ba (Af.told ((Af.lines s).take n))))/\Below w.heap.size w w':=by
 obtain⟨h4,ha,_⟩:=Ziq hn;have hn1:=Zgq ha (by omega)
 have HA:=hid1 (Zpt 3 (by omega) wd n hn (by omega) w hP)
 have HL:=hid1 (fun W hW=>Zda s (by omega) m W (Zaa (w':=W) hm hW))
 have hlen:(Af.told ((Af.lines s).take n)).length<=100000000:=by
  have h1:=Zbb (l:=Af.lines s) n;have h2:=(Af.told_lines_len s).2;omega
 have hll:=Af.lines_len s;generalize Af.lines s=L at *;have HT:=hid1 (fun(v:Value) (W:World) (h:CRow W v (L.take n))=>Zdz v (L.take n) W h hlen)
 have hlt:(L.take n).length=min n L.length:=by simp
 generalize Af.told (L.take n)=out at *;clear hn hm hP ha;go_enter func264,ntmps264
 go_wp2_with fail;refine Calls.mono HA.out ?_;rintro e w1 ⟨rfl,g1⟩;have HL1:=HL.out w1 g1;go_wp2_with fail;refine Calls.mono HL1 ?_;rintro e w2 ⟨v,rfl,⟨g,cap,cur,rfl,hg0,hcap,hblk,hcur⟩,g2⟩;have G2:=g1.trans (g2.mono g1.size);have hC:CRow w2 (.slice (some ⟨g,0,none⟩) (min n L.length) cap) (L.take n):=⟨_,cap,by rw[hlt],fun k hk=>⟨g,rfl,(Array.getElem?_eq_some_iff.1 hblk).1,by
  have hk':k<L.length:=by rw[hlt]at hk;omega
  have:=Zab hblk (hcur k hk');rw[List.getElem_take];exact this⟩⟩
 have HT2:=HT.out _ w2 hC;clear HL1 HL HT hC hcur hlt;have zl:(L.length:Int)<=100000:=by omega
 have hmin:min (n:Int) (L.length:Int)=((min n L.length:Nat):Int):=by omega
 have zm:((min n L.length:Nat):Int)<=(cap:Int):=by omega
 have zm3:(0:Int)<=((min n L.length:Nat):Int):=by omega
 go_wp2_with fail;refine Calls.mono HT2 ?_;rintro e w3 ⟨rfl,g3⟩;go_wp2;go_ret;exact⟨rfl,G2.trans (g3.mono G2.size)⟩
def Af.up(c:UInt8):UInt8:=if 97<=c.toNat/\c.toNat<=122 then UInt8.ofNat (c.toNat - 32) else c
def Af.upper(s:List UInt8):List UInt8:=s.map Af.up
theorem wrap8{n:Int}(h0:0<=n)(h1:n<=255):IntKind.u8.wrap n=n:=by
 have e:IntKind.u8.wrap n=n%256:=by
  simp[IntKind.wrap,IntKind.bits,IntKind.signed]
 rw[e];omega
theorem Zon(l:List UInt8):strOfNums (l.map fun c=>(c.toNat:Int))=ba l:=by
 refine ba_eq ?_;rw[strOfNums_data,List.map_map];conv=>rhs;rw[<- List.map_id l]
 exact List.map_congr_left fun c _=>by simp
theorem Zrs(s:List UInt8)(hs:s.length<=100000)(w:World):
  Calls prog 256 #[.string (ba s)] w fun e w'=>e=.returned (.string (ba (Af.upper s)))/\Below w.heap.size w w':=by
 have hconv:=Lib.run_convert_string_bytes (P:=prog) w 9 59 5 (ba s) underlying9 underlying59 underlying5;have hB:Below w.heap.size w (Lib.bytesWorld w 5 (ba s)):=Go.Joins.below_bytesWorld _ w 5 (ba s) (Nat.le_refl _);have hc:∀ j (hj:j<s.length),(Lib.bytesWorld w 5 (ba s)).cell? ⟨w.heap.size,j,none⟩=some (.int .u8 (s[j].toNat:Int)):=fun j hj=>by
  rw[Lib.bytesWorld_cell _ _ _ _ (by rw[Zal];exact hj)]
  have:(ba s).data.toList.getD j 0=s[j]:=by
   show s.getD j 0=s[j]
   simp[hj]
  rw[this]
 have hf:∀ j,j<s.length->(Lib.bytesWorld w 5 (ba s)).frozen? ⟨w.heap.size,j,none⟩=false:=fun j hj=>by
  have hsz:s.length<=(Lib.bytesCells w 5 (ba s)).size:=by
   have:=Zal s;simp[Lib.bytesCells,ByteArray.size]at this ⊢
  simp[World.frozen?,Lib.bytesWorld_at_new];omega
 have hsz:((ba s).size:Int)=(s.length:Int):=by rw[Zal]
 rw[Zal]at hconv;generalize grownCap w s.length 0 5=cap at *;generalize Lib.bytesWorld w 5 (ba s)=W1 at *;go_enter func256,ntmps256
 go_wp2;go_loopw [10] (fun i wr=>∃ k:Nat,k<=s.length/\i=.int .i64 k/\(∀ j (hj:j<s.length),wr.cell? ⟨w.heap.size,j,none⟩=some (.int .u8 ((if j<k then Af.up s[j] else s[j]).toNat:Int)))/\(∀ j,j<s.length->wr.frozen? ⟨w.heap.size,j,none⟩=false)/\Below w.heap.size w wr) (fun i _=>s.length - (intOf i).toNat)
 case atStart=>exact⟨0,Nat.zero_le _,rfl,fun j hj=>by simpa using hc j hj,hf,hB⟩
 case round =>
  obtain⟨k,hk,rfl,hck,hfk,hBk⟩:=hrel;by_cases hlt:k<s.length
  ·have c1:(k:Int)<(s.length:Int):=by omega
   have c0:(0:Int)<=(k:Int):=by omega
   have hcell:=hck k hlt;rw[if_neg (Nat.lt_irrefl k)]at hcell;have hfr:=hfk k hlt;have HU:Hid (Af.up s[k]=(if 97<=s[k].toNat/\s[k].toNat<=122 then UInt8.ofNat (s[k].toNat - 32) else s[k])):=rfl
   have hck':=hid1 hck;clear hck;have key:∀(W:World),(∀ j (hj:j<s.length),j≠k->W.cell? ⟨w.heap.size,j,none⟩=wr.cell? ⟨w.heap.size,j,none⟩)->W.cell? ⟨w.heap.size,k,none⟩=some (.int .u8 ((Af.up s[k]).toNat:Int)) ->
     ∀ j (hj:j<s.length),W.cell? ⟨w.heap.size,j,none⟩=some (.int .u8 ((if j<k+1 then Af.up s[j] else s[j]).toNat:Int)):=fun W h1 h2 j hj=>by
    by_cases e:j=k
    ·subst e;rw[if_pos (by omega)]
     exact h2
    ·rw[h1 j hj e,hck'.out j hj];by_cases h3:j<k
     ·rw[if_pos h3,if_pos (by omega)]
     ·rw[if_neg h3,if_neg (by omega)]
   have hkey:=hid1 key;clear key;generalize hx:s[k]=x at *;have x0:(0:Int)<=(x.toNat:Int):=by omega
   have x1:(x.toNat:Int)<=255:=by have:=x.toNat_lt;omega
   by_cases hlo:97<=x.toNat
   ·have d1:decide ((97:Int)<=(x.toNat:Int))=true:=decide_eq_true (by omega)
    by_cases hhi:x.toNat<=122
    ·have d2:decide ((x.toNat:Int)<=122)=true:=decide_eq_true (by omega)
     have y1:IntKind.u8.wrap ((x.toNat:Int) - 97)=(x.toNat:Int) - 97:=wrap8 (by omega) (by omega)
     have y2:IntKind.u8.wrap ((x.toNat:Int) - 97+65)=(x.toNat:Int) - 97+65:=wrap8 (by omega) (by omega)
     have hup:((Af.up x).toNat:Int)=(x.toNat:Int) - 97+65:=by
      rw[HU.out,if_pos ⟨hlo,hhi⟩];simp
      omega
     have hne:∀ j,j<s.length->j≠k->(wr.setCell ⟨w.heap.size,k,none⟩ (.int .u8 ((x.toNat:Int) - 97+65))).cell? ⟨w.heap.size,j,none⟩=wr.cell? ⟨w.heap.size,j,none⟩:=fun j _ hj=>World.cell?_setCell_other _ _ _ _ (fun e=>hj (by cases e;rfl))
     have hsm:(wr.setCell ⟨w.heap.size,k,none⟩ (.int .u8 ((x.toNat:Int) - 97+65))).cell? ⟨w.heap.size,k,none⟩=some (.int .u8 ((Af.up x).toNat:Int)):=by
      rw[hup];exact World.cell?_setCell_same' _ _ _ (by rw[hcell];rfl)
     have hall:=hid1 (hkey.out _ hne hsm);clear hne hsm hkey hck' hup;go_wp2;refine⟨⟨k+1,by omega,by go_num,hall.out,fun j hj=> ?_,hBk.setCell (p:=⟨w.heap.size,k,none⟩) (Nat.le_refl _) _⟩,by simp[intOf];omega⟩
     rw[World.frozen?_setCell];exact hfk j hj
    ·have d2:decide ((x.toNat:Int)<=122)=false:=decide_eq_false (by omega)
     have hall:=hid1 (hkey.out wr (fun _ _ _=>rfl) (by rw[HU.out,if_neg (by omega)];exact hcell))
     clear hkey hck';go_wp2;go_roundw
     case rel=>exact⟨k+1,by omega,by go_num,hall.out,hfk,hBk⟩
     case measure=>simp[intOf];omega
   ·have d1:decide ((97:Int)<=(x.toNat:Int))=false:=decide_eq_false (by omega)
    have hall:=hid1 (hkey.out wr (fun _ _ _=>rfl) (by rw[HU.out,if_neg (by omega)];exact hcell))
    clear hkey hck';go_wp2;go_roundw
    case rel=>exact⟨k+1,by omega,by go_num,hall.out,hfk,hBk⟩
    case measure=>simp[intOf];omega
  ·have c1:(s.length:Int)<=(k:Int):=by omega
   have hback:=run_convert_bytes_arg (P:=prog) wr 59 5 underlying59 underlying5 w.heap.size 0 s.length cap ((Af.upper s).map fun c=>(c.toNat:Int)) (by simp[Af.upper]) (fun i hi=>by
    rw[Nat.zero_add,hck i hi,if_pos (by omega)]
    simp[Af.upper,hi]) 9 underlying9
   rw[Zon]at hback;clear hck hfk;go_wp2;go_ret;exact⟨rfl,hBk⟩
def Af.isSwap(wd:List UInt8):Bool:=(Lib.cut wd [61]).2.2&& !(Lib.cut wd [61]).1.isEmpty&& !(Lib.contains (Lib.cut wd [61]).2.1 [61])
def Af.swap(wd s:List UInt8):List UInt8:=Lib.replaceAll s (Lib.cut wd [61]).1 (Lib.cut wd [61]).2.1
theorem Znm(s sep:List UInt8):(Lib.cut s sep).1.length<=s.length/\(Lib.cut s sep).2.1.length<=s.length:=by
 unfold Lib.cut;split <;> simp <;> omega
theorem Zqk(wd:List UInt8)(hl:wd.length<=1000000)(m:Int)(w:World)(hm:w.cell? ⟨13,0,none⟩=some (.int .i64 m)):
  Calls prog 261 #[.string (ba wd)] w fun e w'=>e=.returned (.bool (Af.isSwap wd))/\Below w.heap.size w w':=by
 have HC:=hid1 (Zye wd [61] m w hl hm);have hle:=Znm wd [61];have HQ:Hid (Af.isSwap wd=((Lib.cut wd [61]).2.2&& !(Lib.cut wd [61]).1.isEmpty&& !(Lib.contains (Lib.cut wd [61]).2.1 [61]))):=rfl;generalize Af.isSwap wd=r at *;generalize (Lib.cut wd [61]).1=a at *;generalize (Lib.cut wd [61]).2.1=b at *;generalize (Lib.cut wd [61]).2.2=ok at *
 have HB:Hid (∀ q,Calls prog 275 #[.string (ba b),.string ⟨#[61]⟩] (w.drewN q) fun e w'=>e=.returned (.bool (Lib.contains b [61]))/\w'=w.drewN q):=fun q=>strings_Contains (ba b) (ba [61]) m (w.drewN q) (by rw[Zal];omega) hm
 generalize Lib.contains b [61]=cb at *;clear hm;cases ok with
 | false =>
  go_enter func261,ntmps261
  go_wp2_with fail;refine Calls.mono HC.out ?_;rintro e w1 ⟨rfl,q,rfl⟩;go_wp2;go_ret;exact⟨Zan (by rw[HQ.out];rfl),Zad (Below.refl _ w) q⟩
 | true =>
  by_cases ha:a=[]
  ·subst ha;go_enter func261,ntmps261
   go_wp2_with fail;refine Calls.mono HC.out ?_;rintro e w1 ⟨rfl,q,rfl⟩;go_wp2;go_ret;exact⟨Zan (by rw[HQ.out];rfl),Zad (Below.refl _ w) q⟩
  ·have d1:a.isEmpty=false:=Zcr ha;go_enter func261,ntmps261
   go_wp2_with fail;refine Calls.mono HC.out ?_;rintro e w1 ⟨rfl,q,rfl⟩;have HB1:=HB.out q;go_wp2_with fail;refine Calls.mono HB1 ?_;rintro e w2 ⟨rfl,rfl⟩;go_wp2;go_ret;exact⟨Zan (by rw[HQ.out,d1];cases cb <;> rfl),Zad (Below.refl _ w) q⟩
theorem Zvq(wd s:List UInt8)(hl:wd.length<=100)(hs:s.length<=10000)(ha:1<=(Lib.cut wd [61]).1.length)(m:Int)(w:World)(hm:w.cell? ⟨13,0,none⟩=some (.int .i64 m)):
  Calls prog 262 #[.string (ba wd),.string (ba s)] w fun e w'=>e=.returned (.string (ba (Af.swap wd s)))/\Below w.heap.size w w':=by
 have HC:=hid1 (Zye wd [61] m w (by omega) hm)
 have hle:=Znm wd [61];have HQ:Hid (Af.swap wd s=Lib.replaceAll s (Lib.cut wd [61]).1 (Lib.cut wd [61]).2.1):=rfl;generalize Af.swap wd s=out at *;generalize (Lib.cut wd [61]).1=a at *;generalize (Lib.cut wd [61]).2.1=b at *;generalize (Lib.cut wd [61]).2.2=ok at *
 have HR:Hid (∀ q,Calls prog 278 #[.string (ba s),.string (ba a),.string (ba b)] (w.drewN q) fun e w'=>e=.returned (.string (ba out))/\Below (w.drewN q).heap.size (w.drewN q) w'):=fun q=>by
  have hcount:Lib.countB (ba s) (ba a)<=s.length+1:=Lib.count_le s a;have:=strings_ReplaceAll (ba s) (ba a) (ba b) m (w.drewN q) (by rw[Zal];omega) hm (by rw[Zal];exact ha) (by
   rw[Zal,Zal];have h1:Lib.countB (ba s) (ba a)*b.length<=(s.length+1)*100:=Nat.mul_le_mul hcount (by omega)
   omega)
  refine this.mono ?_;rintro e w' ⟨rfl,g⟩;refine⟨?_,g⟩;rw[HQ.out]
 clear hm;go_enter func262,ntmps262
 go_wp2_with fail;refine Calls.mono HC.out ?_;rintro e w1 ⟨rfl,q,rfl⟩;have HR1:=HR.out q;go_wp2_with fail;refine Calls.mono HR1 ?_;rintro e w2 ⟨rfl,g2⟩;go_wp2;go_ret;exact⟨rfl,Zac (Zad (Below.refl _ w) q) g2⟩
end
