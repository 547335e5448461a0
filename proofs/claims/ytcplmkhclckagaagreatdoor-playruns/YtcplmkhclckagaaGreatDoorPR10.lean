import Derived.Test.YtcplmkhclckagaaGreatDoorPR09
import Derived.Test.YtcplmkhclckagaaGreatDoorChecked
import Derived.Stop.Asserts
set_option maxRecDepth 100000
set_option maxHeartbeats 4000000
open Go.Proofs.Tryz
namespace Go.Proofs.YtcplmkhclckagaaGreatDoor
open Go.RowKit Go.Shelf Go.Lib Go.Extern.Stop Go.Stop Go.Extern
open Go.Sort (grow Holds putRow)
abbrev Short:Type:={ l:List UInt8 // l.length<=1000000 }
instance:Inhabited Short:=⟨⟨[],by simp⟩⟩
abbrev encS:Short->Value:=fun x=>Value.string (ba x.1)
theorem Zky(wd:List UInt8)(x:Short)(b:Nat)(W:World)(m:Int)(hb:W.cell? ⟨b,0,none⟩=some (.string (ba wd)))(hm:W.cell? ⟨13,0,none⟩=some (.int .i64 m)):
  FnGives prog 274 #[.pointer (some ⟨b,0,none⟩)] #[encS x] (.bool (!(Lib.contains x.1 wd))) W:=by
 obtain⟨x,hx⟩:=x;have HC:Hid (Calls prog 275 #[.string (ba x),.string (ba wd)] W fun e w'=>e=.returned (.bool (Lib.contains x wd))/\w'=W):=strings_Contains (ba x) (ba wd) m W (by rw[Zal];omega) hm
 suffices goal:Calls prog 274 #[.string (ba x),.pointer (some ⟨b,0,none⟩)] W fun e w'=>e=.returned (.bool !(Lib.contains x wd))/\w'=W from Calls.mono goal fun e w' ⟨h1,h2⟩=>⟨h1,0,h2⟩
 generalize Lib.contains x wd=r at *;clear hm;go_enter func274,ntmps274
 go_wp2_with fail;refine Calls.mono HC.out ?_;rintro e w1 ⟨rfl,rfl⟩;go_wp2;go_ret;exact⟨rfl,rfl⟩
def shorts(L:List (List UInt8))(h:∀ x∈L,x.length<=1000000):List Short:=L.attach.map fun x=>⟨x.1,h x.1 x.2⟩
theorem Zgh(L:List (List UInt8))(h:∀ x∈L,x.length<=1000000):(shorts L h).map (·.1)=L:=by
 unfold shorts;rw[List.map_map];exact List.attach_map_subtype_val L
theorem Zbz(L:List (List UInt8))(h:∀ x∈L,x.length<=1000000):(shorts L h).length=L.length:=by
 rw[<- congrArg List.length (Zgh L h),List.length_map]
theorem Zyh(L:List (List UInt8))(h:∀ x∈L,x.length<=1000000)(j:Nat)(hj:j<L.length):encS ((shorts L h).toArray[j]!)=.string (ba L[j]):=by
 have hj':j<(shorts L h).length:=by rw[Zbz];exact hj
 have e:(shorts L h).toArray[j]! =(shorts L h)[j]:=by simp[hj']
 rw[e];show Value.string (ba ((shorts L h)[j]).1)=_
 have:((shorts L h)[j]).1=L[j]:=by
  have:=congrArg (fun z=>z[j]?) (Zgh L h)
  simp only[List.getElem?_map,List.getElem?_eq_getElem hj',List.getElem?_eq_getElem hj,Option.map_some]at this
  exact Option.some.inj this
 rw[this]
theorem Zmn(L:List (List UInt8))(h:∀ x∈L,x.length<=1000000)(p:List UInt8->Bool):((shorts L h).filter fun x=>p x.1).map (·.1)=L.filter p:=by
 conv=>rhs;rw[<- Zgh L h]
 rw[List.filter_map];rfl
def Af.withW(wd:List UInt8)(L:List (List UInt8)):List (List UInt8):=L.filter fun x=>Lib.contains x wd
theorem Zoj(wd:List UInt8)(L:List (List UInt8)):(Af.told (Af.withW wd L)).length<=(Af.told L).length:=by
 unfold Af.withW;induction L with
 | nil=>simp
 | cons x r ih =>
  rw[List.filter_cons];simp only[Af.told,List.flatMap_cons,List.length_append]at ih ⊢;split
  ·simp only[List.flatMap_cons,List.length_append];omega
  ·omega
theorem Zqv(wd:List UInt8)(L:List (List UInt8))(hL:∀ x∈L,x.length<=1000000)(hl:L.length<=1000000)(b g cap:Nat)(cur:Array Value)(W:World)(m:Int)(hb:W.cell? ⟨b,0,none⟩=some (.string (ba wd)))(hm:W.cell? ⟨13,0,none⟩=some (.int .i64 m)) 
  (hbg:b≠g) (hmg:13≠g) (hbl:b<W.heap.size) (hml:13<W.heap.size) (hcap:L.length<=cap) (hblk:W.heap[g]? =some (.cells cur 9 (0,0))) (hcur:∀ j (hj:j<L.length),cur[j]? =some (.string (ba L[j]))) (B:Nat) (hB:B<=g) (hBw:B<=W.heap.size) :
  Calls prog 268 #[.slice (some ⟨g,0,none⟩) L.length cap,.func (.func 274) #[] #[.pointer (some ⟨b,0,none⟩)]] W fun e w'=>∃ v,e=.returned v/\CRow w' v (Af.withW wd L)/\Below B W w':=by
 have hH:Holds encS W g 0 (shorts L hL).toArray:=fun j hj=>by
  have hj':j<L.length:=by simpa[Zbz] using hj
  refine⟨?_,by simp[World.frozen?,hblk]⟩
  rw[Nat.zero_add,Zab hblk (hcur j hj'),Zyh L hL j hj']
 have hgl:g<W.heap.size:=(Array.getElem?_eq_some_iff.1 hblk).1;have key:=slices_DeleteFunc encS (fun _=>rfl) (fun x=> !(Lib.contains x.1 wd)) 274 #[.pointer (some ⟨b,0,none⟩)] (enters_of func274 (by kernel_rfl) rfl) default (fun w=>by kernel_rfl) g 0 cap (shorts L hL).toArray W
  (fun V x hV=>Zky wd x b V m ((Zam hV hbl).trans hb) ((Zam hV hml).trans hm))
  (fun n os dk x _=>by
   have o:∀ k,k≠g->k<W.heap.size->(sortWorld encS W g 0 n dk os).cell? ⟨k,0,none⟩=W.cell? ⟨k,0,none⟩:=fun k h1 h2=>by
    unfold sortWorld;rw[Go.Sort.cell?_grow _ _ _ (by show k<(putRow _ _ _ _ _).heap.size;rw[Go.Sort.size_putRow];exact h2),Go.Sort.cell?_putRow_other _ _ g 0 _ _ (Or.inl h1)]
    rfl
   exact Zky wd x b _ m ((o b hbg hbl).trans hb) ((o _ hmg hml).trans hm))
  hH (by simp[Zbz];omega) (by simp[Zbz];exact hcap)
 have e0:(shorts L hL).toArray.size=L.length:=by simp[Zbz]
 rw[e0]at key;refine Calls.mono key ?_;rintro e w' ⟨rfl,q,rfl⟩;have e1:((shorts L hL).toArray.toList.filter fun x=> !(!(Lib.contains x.1 wd)))=(shorts L hL).filter fun x=>Lib.contains x.1 wd:=by simp
 rw[e1];have e2:((shorts L hL).filter fun x=>Lib.contains x.1 wd).map (·.1)=Af.withW wd L:=Zmn L hL fun x=>Lib.contains x wd
 have hlen:((shorts L hL).filter fun x=>Lib.contains x.1 wd).length=(Af.withW wd L).length:=by rw[<- e2,List.length_map]
 have hle:(Af.withW wd L).length<=L.length:=List.length_filter_le _ _
 have hp:=Go.Sort.holds_putRow encS (Sort.ahead W q) g 0 (shorts L hL).toArray (((shorts L hL).filter fun x:Short=>Lib.contains x.1 wd)++List.replicate (L.length - ((shorts L hL).filter fun x:Short=>Lib.contains x.1 wd).length) default).toArray hH (by simp only[List.size_toArray,List.length_append,List.length_replicate,Zbz];rw[hlen];omega)
 refine⟨_,rfl,⟨some ⟨g,0,none⟩,cap,by rw[hlen],fun k hk=>⟨g,rfl,by rw[Go.Sort.size_putRow];exact hgl,?_⟩⟩,?_⟩
 ·have hk':k<((shorts L hL).filter fun x=>Lib.contains x.1 wd).length:=by rw[hlen];exact hk
  have p1:=(hp k (by simp;omega)).1
  rw[Nat.zero_add]at p1;rw[p1];have e3:(((shorts L hL).filter fun x:Short=>Lib.contains x.1 wd)++List.replicate (L.length - ((shorts L hL).filter fun x:Short=>Lib.contains x.1 wd).length) default).toArray[k]! =((shorts L hL).filter fun x=>Lib.contains x.1 wd)[k]:=by
   simp[List.getElem?_append_left hk',hk']
  rw[e3];have e4:(((shorts L hL).filter fun x=>Lib.contains x.1 wd)[k]).1=(Af.withW wd L)[k]:=by
   have:=congrArg (fun z=>z[k]?) e2
   simp only[List.getElem?_map,List.getElem?_eq_getElem hk',List.getElem?_eq_getElem hk,Option.map_some]at this
   exact Option.some.inj this
  show some (Value.string (ba _))=_
  rw[e4]
 ·refine(Below.refl B W).grown (row:=some g) ⟨rfl,rfl,rfl,by rw[Go.Sort.size_putRow];exact Nat.le_refl _,fun k _ hk=> ?_⟩ hBw (fun j hj=>by cases hj;exact hB)
  have:g≠k:=fun e=>hk (by rw[e])
  simp[putRow,Go.Sort.mapBlock,Go.Sort.ahead,Array.getElem?_modify,this]
theorem Zit(wd s:List UInt8)(hs:s.length<=100000)(m:Int)(w:World)(hm:w.cell? ⟨13,0,none⟩=some (.int .i64 m))(hbig:20<w.heap.size):
  Calls prog 257 #[.string (ba wd),.string (ba s)] w fun e w'=>e=.returned (.string (ba (Af.told (Af.withW wd (Af.lines s)))))/\Below w.heap.size w w':=by
 have g0:Below w.heap.size w (w.alloc (.cells #[.string (ba wd)] 9)):=(Below.refl _ w).alloc (Nat.le_refl _) _;have hs0:(w.alloc (.cells #[.string (ba wd)] 9)).heap.size=w.heap.size+1:=by simp
 have c0:(w.alloc (.cells #[.string (ba wd)] 9)).cell? ⟨w.heap.size,0,none⟩=some (.string (ba wd)):=by
  rw[World.cell?_alloc_at _ _ _ _ rfl];rfl
 have m0:=Zaa hm g0;have HL:=hid1 (Zda s (by omega) m _ m0)
 have hL:∀ x∈Af.lines s,x.length<=1000000:=fun x h=>by have:=Af.line_len h;omega
 have hll:=Af.lines_len s;have hlen:(Af.told (Af.withW wd (Af.lines s))).length<=100000000:=by
  have h1:=Zoj wd (Af.lines s);have h2:=(Af.told_lines_len s).2;omega
 generalize Af.lines s=L at *;go_enter func257,ntmps257
 go_wp2_with fail;refine Calls.mono HL.out ?_;rintro e w2 ⟨v,rfl,⟨g,cap,cur,rfl,hg0,hcap,hblk,hcur⟩,g2⟩;rw[hs0]at hg0 g2;have G2:Below w.heap.size w w2:=g0.trans (g2.mono (by omega))
 have hw2:w.heap.size+1<=w2.heap.size:=by have:=g2.size;rw[hs0]at this;exact this
 have HD:=hid1 (Zqv wd L hL (by omega) w.heap.size g cap cur w2 m ((Zam g2 (by omega)).trans c0) ((Zam g2 (by omega)).trans m0) (by omega) (by omega) (by omega) (by omega) hcap hblk hcur w.heap.size (by omega) (by omega))
 clear HL c0 m0 hm g0;go_wp2_with fail;refine Calls.mono HD.out ?_;rintro e w3 ⟨v3,rfl,hr,g3⟩;have G3:=G2.trans g3;have HT:=hid1 (Zdz v3 _ w3 hr hlen);clear HD;go_wp2_with fail;refine Calls.mono HT.out ?_;rintro e w4 ⟨rfl,g4⟩;go_wp2;go_ret;exact⟨rfl,G3.trans (g4.mono G3.size)⟩
theorem Ybe{w W:World}{pa:Option Addr}{n cap:Nat}{x:List UInt8}(h:TRow w (.slice pa n cap) [x])(hW:Below w.heap.size w W):∃ g,pa=some ⟨g,0,none⟩/\n=1/\W.cell? ⟨g,0,none⟩=some (.string (ba x))/\g<W.heap.size:=by
 obtain⟨p,c,e,h1,h2⟩:=h.below hW;obtain⟨g,cur,rfl,hg,hcur⟩:=h2 (by simp)
 simp only[Value.slice.injEq,List.length_cons,List.length_nil]at e;exact⟨g,e.1,e.2.1,Zab hg (hcur 0 (by simp)),(Array.getElem?_eq_some_iff.1 hg).1⟩
inductive Af.Kd where
 | write | join | upper | lines | sort | count | swap | head
namespace Af
def Kd.name:Kd->List UInt8
 | .write=>[119,114,105,116,101]
 | .join=>[106,111,105,110]
 | .upper=>[117,112,112,101,114]
 | .lines=>[108,105,110,101,115]
 | .sort=>[115,111,114,116]
 | .count=>[99,111,117,110,116]
 | .swap=>[115,119,97,112]
 | .head=>[104,101,97,100]
def Kd.least:Kd->Nat
 | .write=>0
 | _=>1
def Kd.most:Kd->Nat
 | .write=>0
 | .join=>8
 | .sort=>8
 | .count=>8
 | _=>1
def Kd.takes(wd:List UInt8):Kd->Bool
 | .upper=>decide (wd∈[[]])
 | .count=>decide (wd∈[[]])
 | .sort=>decide (wd∈[[],oncew])
 | .swap=>isSwap wd
 | .head=>(numM 3 wd).isSome
 | _=>true
def Kd.out(wd:List UInt8)(ls:List (List UInt8)):Kd->List UInt8
 | .write=>wd
 | .join=>Lib.join ls wd
 | .upper=>Af.upper (ls.headD [])
 | .lines=>told (withW wd (Af.lines (ls.headD [])))
 | .sort=>sorted wd ls
 | .count=>Af.count ls
 | .swap=>Af.swap wd (ls.headD [])
 | .head=>told ((Af.lines (ls.headD [])).take ((numM 3 wd).getD 0))
def kindOf(nm:List UInt8):Option Kd :=
 if nm=Kd.write.name then some .write else if nm=Kd.join.name then some .join else if nm=Kd.upper.name then some .upper else if nm=Kd.lines.name then some .lines
 else if nm=Kd.sort.name then some .sort else if nm=Kd.count.name then some .count else if nm=Kd.swap.name then some .swap else if nm=Kd.head.name then some .head else none
theorem kindOf_name(k:Kd):kindOf k.name=some k:=by cases k <;> rfl
theorem kindOf_some{nm:List UInt8}{k:Kd}(h:kindOf nm=some k):nm=k.name:=by
 unfold kindOf at h;repeat' split at h
 all_goals first | (cases h;assumption) | cases h
def actE(nm wd:List UInt8)(n:Int):Nat :=
 match kindOf nm with
 | none=>5
 | some k=>if n<k.least\/(k.most:Int)<n\/k.takes wd=false then 3 else if 100<wd.length then 10 else 0
def tf:Kd->Nat
 | .write=>250
 | .join=>250
 | .lines=>250
 | .swap=>261
 | .head=>263
 | _=>270
def tc(B:Nat):Kd->Array Value
 | .upper=> #[.pointer (some ⟨B+1+1,0,none⟩)]
 | .sort=> #[.pointer (some ⟨B+1+5,0,none⟩)]
 | .count=> #[.pointer (some ⟨B+1+7,0,none⟩)]
 | _=> #[]
def rf:Kd->Nat
 | .write=>251
 | .join=>252
 | .sort=>258
 | .count=>259
 | _=>271
def rc(B:Nat):Kd->Array Value
 | .upper=> #[.pointer (some ⟨B+1+2,0,none⟩)]
 | .lines=> #[.pointer (some ⟨B+1+3,0,none⟩)]
 | .swap=> #[.pointer (some ⟨B+1+8,0,none⟩)]
 | .head=> #[.pointer (some ⟨B+1+9,0,none⟩)]
 | _=> #[]
def ix:Kd->Nat
 | .write=>0
 | .join=>1
 | .upper=>2
 | .lines=>3
 | .sort=>4
 | .count=>5
 | .swap=>6
 | .head=>7
end Af
open Af (Kd)
theorem found(k:Kd)(B:Nat):Instr.findNow .string (.string (ba k.name)) (kindsE B) 0=some (some (Af.ix k,kd k.least k.most (tfn (Af.tf k) (Af.tc B k)) (tfn (Af.rf k) (Af.rc B k)))):=by
 cases k <;> rfl
variable {nm:List UInt8}
theorem Zdm{key:List UInt8}(h:nm≠key):Instr.sameNow .string (.string (ba nm)) (txtv key)=some false:=by
 have e:(nm.toArray==key.toArray)=false:=by simpa using h
 exact congrArg some e
theorem Zxc(h:Af.kindOf nm=none)(B:Nat):Instr.findNow .string (.string (ba nm)) (kindsE B) 0=some none:=by
 have hne:∀ k:Kd,nm≠k.name:=fun k e=>by rw[e,Af.kindOf_name]at h;cases h
 have h1:=Zdm (hne .write);have h2:=Zdm (hne .join);have h3:=Zdm (hne .upper);have h4:=Zdm (hne .lines);have h5:=Zdm (hne .sort);have h6:=Zdm (hne .count);have h7:=Zdm (hne .swap);have h8:=Zdm (hne .head);simp only[Af.Kd.name]at h1 h2 h3 h4 h5 h6 h7 h8;simp only[kindsE,Instr.findNow,h1,h2,h3,h4,h5,h6,h7,h8]
theorem Zdj(k:Kd):∀ args w,(callFunc (Af.tf k) args).run prog w=.ok (.enter (Af.tf k) args) w:=by
 cases k
 ·exact enters_of func250 (by kernel_rfl) rfl
 ·exact enters_of func250 (by kernel_rfl) rfl
 ·exact enters_of func270 (by kernel_rfl) rfl
 ·exact enters_of func250 (by kernel_rfl) rfl
 ·exact enters_of func270 (by kernel_rfl) rfl
 ·exact enters_of func270 (by kernel_rfl) rfl
 ·exact enters_of func261 (by kernel_rfl) rfl
 ·exact enters_of func263 (by kernel_rfl) rfl
theorem Zyn(k:Kd):∀ args w,(callFunc (Af.rf k) args).run prog w=.ok (.enter (Af.rf k) args) w:=by
 cases k
 ·exact enters_of func251 (by kernel_rfl) rfl
 ·exact enters_of func252 (by kernel_rfl) rfl
 ·exact enters_of func271 (by kernel_rfl) rfl
 ·exact enters_of func271 (by kernel_rfl) rfl
 ·exact enters_of func258 (by kernel_rfl) rfl
 ·exact enters_of func259 (by kernel_rfl) rfl
 ·exact enters_of func271 (by kernel_rfl) rfl
 ·exact enters_of func271 (by kernel_rfl) rfl
variable {w:World}
theorem Zru{es el:Value}(hA:AW w es el)(hS:SynAt w)(wd:List UInt8)(hl:wd.length<=1000000)(k:Kd)(W:World)(hW:Below w.heap.size w W)(hO:Objs W (w.heap.size+1)):
  Calls prog (Af.tf k) (#[.string (ba wd)]++Af.tc (w.heap.size+1) k) W fun e w'=>e=.returned (.bool (k.takes wd))/\Below W.heap.size W w':=by
 obtain⟨m,hm⟩:=hA.len;cases k
 ·exact Zdf (ba wd) W
 ·exact Zdf (ba wd) W
 ·exact Zlp 1 (.inl rfl) wd hO
 ·exact Zdf (ba wd) W
 ·exact Zvu wd hO
 ·exact Zlp 7 (.inr rfl) wd hO
 ·exact Zqk wd hl m W (Zaa hm hW)
 ·exact Zqm wd hl W (Zbt hA.pow hW) (hS.below hW)
theorem Zqi(word:ByteArray)(x:List UInt8)(hx:x.length<=100000)(w:World):
  Calls prog 255 #[.string word,.string (ba x)] w fun e w'=>e=.returned (.string (ba (Af.upper x)))/\Below w.heap.size w w':=by
 have HA:=hid1 (Zrs x hx w);go_enter func255,ntmps255
 go_wp2_with fail;refine Calls.mono HA.out ?_;rintro e w1 ⟨rfl,g1⟩;go_wp2;go_ret;exact⟨rfl,g1⟩
theorem Zzb{s wd:List UInt8}{i:Nat}(h:s.length<i+wd.length)(hi:i<=s.length):Lib.occAt s wd i=false:=by
 cases ho:Lib.occAt s wd i with
 | false=>rfl
 | true =>
  rcases Lib.occAt_room ho with h1 | h1
  ·omega
  ·subst h1;simp at h;omega
theorem Ziz(s wd:List UInt8)(i:Nat)(hs:s.length<=1000000)(hw:wd.length<=1000000)(hi:i<=s.length)(w:World):
  Calls prog 90 #[.string (ba s),.int .i64 i,.string (ba wd)] w fun e w'=>e=.returned (.bool (Lib.occAt s wd i))/\w'=w:=by
 have z4:(0:Int)<=(i:Int):=by omega
 by_cases hr:i+wd.length<=s.length
 ·have ho:=Lib.occAt_iff_take s wd i hr;have d1:decide ((i:Int)+(wd.length:Int)<=(s.length:Int))=true:=decide_eq_true (by omega)
  have d2:(i:Int)+(wd.length:Int)<=(s.length:Int):=by omega
  have d3:(i:Int)<=(i:Int)+(wd.length:Int):=by omega
  have e1:(ba s).extract i (i+wd.length)=ba ((s.drop i).take wd.length):=by
   have:=(Txt.mk (bs:=ba s) (s:=s) rfl).extract i (i+wd.length);rw[this];congr 1
   rw[List.drop_take,Nat.add_sub_cancel_left]
  have HO:=hid1 ho;generalize Lib.occAt s wd i=r at *;generalize (s.drop i).take wd.length=y at *;clear ho;go_enter func90,ntmps90
  go_wp2;go_ret;exact⟨Zan HO.out.symm,rfl⟩
 ·have ho:=Zzb (s:=s) (wd:=wd) (i:=i) (by omega) hi
  have d1:decide ((i:Int)+(wd.length:Int)<=(s.length:Int))=false:=decide_eq_false (by omega)
  rw[ho];clear ho;go_enter func90,ntmps90
  go_wp2;go_ret;exact⟨rfl,rfl⟩
theorem Ycn(s wd:List UInt8)(hs:s.length<=1000000)(hw:wd.length<=1000000)(w:World):
  Calls prog 173 #[.string (ba s),.string (ba wd)] w fun e w'=>e=.returned (.bool (Lib.contains s wd))/\w'=w:=by
 have HH:=hid1 fun(i:Nat) (hi:i<=s.length)=>Ziz s wd i hs hw hi w
 have HI:=hid1 (Lib.index_spec s wd);have HQ:Hid (Lib.contains s wd=decide (0<=Lib.index s wd)):=rfl;generalize Lib.contains s wd=r at *;generalize Lib.index s wd=ix at *;go_enter func173,ntmps173
 go_wp2;go_loopw [5] (fun i wr=>∃ k:Nat,k<=s.length+1/\i=.int .i64 k/\Lib.NoOcc s wd k/\wr=w) (fun i _=>s.length+1 - (intOf i).toNat)
 case atStart=>exact⟨0,by omega,rfl,Lib.NoOcc.zero _ _,rfl⟩
 case round =>
  obtain⟨k,hk,rfl,hno,rfl⟩:=hrel;have HNO:=hid1 hno;clear hno;by_cases hle:k<=s.length
  ·have c1:(k:Int)<=(s.length:Int):=by omega
   have H1:=HH.out k hle;cases ho:Lib.occAt s wd k with
   | false =>
    rw[ho]at H1;go_wp2_with fail;refine Calls.mono H1 ?_;rintro e w1 ⟨rfl,rfl⟩;go_wp2;exact⟨⟨k+1,by omega,by go_num,HNO.out.succ ho,trivial⟩,by simp[intOf];omega⟩
   | true =>
    rw[ho]at H1;go_wp2_with fail;refine Calls.mono H1 ?_;rintro e w1 ⟨rfl,rfl⟩;go_wp2;go_ret;refine⟨Zan ?_,rfl⟩;rw[HQ.out];rcases HI.out with ⟨_,h2⟩ | ⟨j,h2,_⟩
    ·rw[h2 k hle]at ho;cases ho
    ·rw[h2];simp
  ·have c1:(s.length:Int)<(k:Int):=by omega
   go_wp2;go_ret;refine⟨Zan ?_,rfl⟩;rw[HQ.out];rcases HI.out with ⟨h2,_⟩ | ⟨j,_,h3,h4,_⟩
   ·rw[h2];rfl
   ·have:=HNO.out j (by omega)
    rw[this]at h4;cases h4
def IRow(w:World)(v:Value)(l:List (List UInt8)):Prop :=
 ∃ p cap,v=.slice p l.length cap/\(l≠[]->∃ g o,p=some ⟨g,o,none⟩/\g<w.heap.size/\∀ j (hj:j<l.length),w.cell? ⟨g,o+j,none⟩=some (.string (ba l[j])))
variable {w':World}{v:Value}{l:List (List UInt8)}
theorem IRow.below(h:IRow w v l)(hb:Below w.heap.size w w'):IRow w' v l:=by
 obtain⟨p,cap,e,h1⟩:=h;refine⟨p,cap,e,fun hl=> ?_⟩
 obtain⟨g,o,e,hg,hc⟩:=h1 hl;exact⟨g,o,e,Nat.lt_of_lt_of_le hg hb.size,fun j hj=>(hb.cell (p:=⟨g,o+j,none⟩) hg).trans (hc j hj)⟩
def XRow(w:World)(v:Value)(l:List (List UInt8)):Prop :=
 ∃ p cap,v=.slice p l.length cap/\l.length<=cap/\(p=none->cap=0)/\(l≠[]->∃ g o,p=some ⟨g,o,none⟩/\g<w.heap.size/\∀ j (hj:j<l.length),w.cell? ⟨g,o+j,none⟩=some (.string (ba l[j])))
theorem XRow.below(h:XRow w v l)(hb:Below w.heap.size w w'):XRow w' v l:=by
 obtain⟨p,cap,e,h0,hn,h1⟩:=h;refine⟨p,cap,e,h0,hn,fun hl=> ?_⟩
 obtain⟨g,o,e,hg,hc⟩:=h1 hl;exact⟨g,o,e,Nat.lt_of_lt_of_le hg hb.size,fun j hj=>(hb.cell (p:=⟨g,o+j,none⟩) hg).trans (hc j hj)⟩
theorem XRow.irow(h:XRow w v l):IRow w v l:=by
 obtain⟨p,cap,e,_,_,h1⟩:=h;exact⟨p,cap,e,h1⟩
theorem XRow.nil(w:World):XRow w (.slice none 0 0) []:=⟨none,0,rfl,Nat.le_refl _,fun _=>rfl,fun h=>absurd rfl h⟩
theorem XRow.of_owns{base:Nat}{n:Nat}(h:w.ownsRow base 9 1 v n (l.map sv)):XRow w v l:=by
 have hn:n=l.length:=by have:=h.1;simp at this;omega
 subst hn;rcases h.2 with ⟨rfl,hn⟩ | ⟨g,cap,cur,rfl,_,hb,h1,_,_,h4⟩
 ·obtain rfl:l=[]:=by simpa using hn
  exact XRow.nil w
 ·refine⟨_,cap,rfl,h1,fun h=>(by cases h),fun _=>⟨g,0,rfl,(Array.getElem?_eq_some_iff.1 hb).1,fun j hj=> ?_⟩⟩
  have:=congrArg (fun x=>x[j]?) h4
  simp only[Nat.mul_one,List.getElem?_take,hj,if_true,List.getElem?_map,List.getElem?_eq_getElem hj,Option.map_some,Array.getElem?_toList]at this
  rw[Nat.zero_add];exact Zab hb this
theorem one_sv:∀ u∈l.map sv,u.oneCell'=true:=fun u hu=>by
 obtain⟨z,_,rfl⟩:=List.mem_map.1 hu;rfl
theorem Zdv(g k j:Nat):(⟨g,k,none⟩:Addr).add j=⟨g,k+j,none⟩:=by
 by_cases h0:j=0 <;> simp[Addr.add,h0]
theorem lay_b1{w1:World}(n1:w.ownsRow w.heap.size 9 1 (.slice none 0 0) 0 [])(hg:w.grownBy w1 (Value.slice none 0 0).ownBlock):Below w.heap.size w w1:=Zeg (Below.refl _ w) (Nat.le_refl _) n1 hg
theorem Zcl(v:Value)(l:List (List UInt8))(x:List UInt8)(hrow:IRow w v l)(hl:l.length<=1000000):
  Calls prog 91 #[v,.string (ba x)] w fun e w'=>∃ r:Int,e=.returned (.int .i64 r)/\w'=w/\((r= -1/\x∉l)\/∃ k:Nat,r=k/\∃ h:k<l.length,l[k]=x/\x∉l.take k):=by
 obtain⟨p,cap,rfl,hin⟩:=hrow;have HI:=hid1 hin;clear hin;go_enter func91,ntmps91
 go_wp2;go_loopw [5] (fun i wr=>∃ k:Nat,k<=l.length/\i=.int .i64 k/\x∉l.take k/\w=wr) (fun i _=>l.length - (intOf i).toNat)
 case atStart=>exact⟨0,Nat.zero_le _,rfl,by simp,rfl⟩
 case round =>
  obtain⟨k,hk,rfl,hz,rfl⟩:=hrel;have HZ:=hid1 hz;clear hz;have c0:(0:Int)<=(k:Int):=by omega
  by_cases hlt:k<l.length
  ·have c1:(k:Int)<(l.length:Int):=by omega
   obtain⟨g',o,rfl,hg,hcur⟩:=HI.out (by intro e;rw[e]at hlt;simp at hlt)
   have hcell:=hcur k hlt;have HT:Hid (l[k]≠x->x∉l.take (k+1)):=hid1 fun hne=>by
    rw[List.take_succ_eq_append_getElem hlt];simp only[List.mem_append,List.mem_singleton,not_or];exact⟨HZ.out,fun e=>hne e.symm⟩
   have HP:Hid (l[k]=x->∃ j:Nat,(k:Int)=j/\∃ h:j<l.length,l[j]=x/\x∉l.take j):=hid1 fun he=>⟨k,rfl,hlt,he,HZ.out⟩
   clear hcur HI HZ;generalize l[k]=y at *;by_cases he:y=x
   ·subst he;have HPP:=hid1 (HP.out rfl);clear HP HT;go_wp2;go_ret;exact⟨_,rfl,rfl,.inr HPP.out⟩
   ·have e1:(y==x)=false:=by simpa using he
    have HTT:=hid1 (HT.out he);clear HP HT;go_wp2;exact⟨⟨k+1,by omega,by go_num,HTT.out,trivial⟩,by simp[intOf];omega⟩
  ·have c1:(l.length:Int)<=(k:Int):=by omega
   have HN:Hid (x∉l):=hid1 (by
    have:=HZ.out;rwa[List.take_of_length_le (by omega)]at this)
   clear HI HZ;go_wp2;go_ret;exact⟨_,rfl,rfl,.inl ⟨rfl,HN.out⟩⟩
theorem Ycm{k:Nat}(hk:k<l.length){r:Int}(h:(r= -1/\l[k]∉l)\/∃ j:Nat,r=j/\∃ h:j<l.length,l[j]=l[k]/\l[k]∉l.take j):decide (r<(k:Int))=decide (l[k]∈l.take k):=by
 rcases h with ⟨_,h⟩ | ⟨j,rfl,hj,he,hn⟩
 ·exact absurd (List.getElem_mem hk) h
 ·rw[decide_eq_decide];constructor
  ·intro h
   rw[<- he];have:j<(l.take k).length:=by simp;omega
   have h2:=List.getElem_mem this;rwa[List.getElem_take]at h2
  ·intro h
   rcases Nat.lt_or_ge j k with h' | h'
   ·omega
   ·exfalso
    apply hn
    exact(List.take_sublist_take_left h').subset h
structure Ru where
 out:List UInt8
 kind:List UInt8
 word:List UInt8
 ins:List (List UInt8)
namespace Ru
def Zbg(c:Nat->Nat):Nat->Nat->Option Nat
 | _,0=>none
 | k,n+1=>if c k=0 then Zbg c (k+1) n else some k
def first(c:Nat->Nat)(n:Nat):Option Nat:=Zbg c 0 n
def firstC(c:Nat->Nat)(n:Nat):Nat:=match first c n with | some k=>c k | none=>0
theorem Zep{c:Nat->Nat}:∀ {n k:Nat},(∀ j,k<=j->j<k+n->c j=0)->Zbg c k n=none
 | 0,_,_=>rfl
 | n+1,k,h=>by
  unfold Zbg;rw[if_pos (h k (Nat.le_refl _) (by omega))]
  exact Zep fun j h1 h2=>h j (by omega) (by omega)
theorem Zeo{c:Nat->Nat}{m:Nat}:∀ {n k:Nat},k<=m->m<k+n->c m≠0->(∀ j,k<=j->j<m->c j=0)->Zbg c k n=some m
 | 0,_,h1,h2,_,_=>by omega
 | n+1,k,h1,h2,hc,h=>by
  unfold Zbg;by_cases e:k=m
  ·subst e;rw[if_neg hc]
  ·rw[if_pos (h k (Nat.le_refl _) (by omega))]
   exact Zeo (by omega) (by omega) hc fun j h1 h2=>h j (by omega) h2
variable {c:Nat->Nat}{n:Nat}
theorem Zlz(h:∀ j,j<n->c j=0):first c n=none:=Zep fun j _ h2=>h j (by omega)
variable {m:Nat}
theorem Zly(hm:m<n)(hc:c m≠0)(h:∀ j,j<m->c j=0):first c n=some m:=Zeo (Nat.zero_le _) (by omega) hc fun j _ h2=>h j h2
theorem Zce{c:Nat->Nat}:∀ {n k:Nat},Zbg c k n=none->∀ j,k<=j->j<k+n->c j=0
 | 0,_,_,j,h1,h2=>by omega
 | n+1,k,h,j,h1,h2=>by
  unfold Zbg at h;split at h
  ·rename_i h0
   by_cases e:j=k
   ·rw[e];exact h0
   ·exact Zce h j (by omega) (by omega)
  ·cases h
theorem Zcp{c:Nat->Nat}{m:Nat}:∀ {n k:Nat},Zbg c k n=some m->c m≠0
 | 0,_,h=>by cases h
 | n+1,k,h=>by
  unfold Zbg at h;split at h
  ·exact Zcp h
  ·rename_i h0
   rw[<- Option.some.inj h];exact h0
theorem first_none_zero(h:first c n=none)(j:Nat)(hj:j<n):c j=0:=Zce h j (Nat.zero_le _) (by omega)
theorem first_some_ne(h:first c n=some m):c m≠0:=Zcp h
theorem firstC_none(h:∀ j,j<n->c j=0):firstC c n=0:=by unfold firstC;rw[Zlz h]
theorem firstC_some(hm:m<n)(hc:c m≠0)(h:∀ j,j<m->c j=0):firstC c n=c m:=by unfold firstC;rw[Zly hm hc h]
theorem firstC_zero(h:firstC c n=0)(j:Nat)(hj:j<n):c j=0:=by
 unfold firstC at h;cases hf:first c n with
 | none=>exact first_none_zero hf j hj
 | some k =>
  rw[hf]at h;exact absurd h (first_some_ne hf)
theorem firstC_const{d:Nat}(h:∀ j,c j=0\/c j=d):firstC c n=0\/firstC c n=d:=by
 unfold firstC;split
 ·exact h _
 ·exact .inl rfl
structure Small(r:Ru):Prop where
 out:r.out.length<=100
 kind:r.kind.length<=60
 word:r.word.length<=150
 many:r.ins.length<=12
 ins:∀ x∈r.ins,x.length<=300
end Ru
abbrev ruV(r:Ru)(v:Value):Value:=.agg #[.string (ba r.out),.string (ba r.kind),.string (ba r.word),v]
def RuAt(w:World)(g o:Nat)(r:Ru):Prop :=
 w.cell? ⟨g,o,none⟩=some (.string (ba r.out))/\w.cell? ⟨g,o+1,none⟩=some (.string (ba r.kind))/\w.cell? ⟨g,o+2,none⟩=some (.string (ba r.word))/\∃ v,w.cell? ⟨g,o+3,none⟩=some v/\XRow w v r.ins
theorem RuAt.below{w w':World}{g o:Nat}{r:Ru}(h:RuAt w g o r)(hb:Below w.heap.size w w'):RuAt w' g o r:=by
 obtain⟨h0,h1,h2,v,h3,h4⟩:=h;exact⟨Zaa h0 hb,Zaa h1 hb,Zaa h2 hb,v,Zaa h3 hb,h4.below hb⟩
def RRow(w:World)(v:Value)(l:List Ru):Prop :=
 ∃ p cap,v=.slice p l.length cap/\l.length<=cap/\(p=none->cap=0)/\(l≠[]->∃ g o,p=some ⟨g,o,none⟩/\g<w.heap.size/\∀ j (hj:j<l.length),RuAt w g (o+j*4) l[j])
theorem RRow.below{w w':World}{v:Value}{l:List Ru}(h:RRow w v l)(hb:Below w.heap.size w w'):RRow w' v l:=by
 obtain⟨p,cap,e,h0,hn,h1⟩:=h;refine⟨p,cap,e,h0,hn,fun hl=> ?_⟩
 obtain⟨g,o,e,hg,hc⟩:=h1 hl;exact⟨g,o,e,Nat.lt_of_lt_of_le hg hb.size,fun j hj=>(hc j hj).below hb⟩
theorem RRow.nil(w:World):RRow w (.slice none 0 0) []:=⟨none,0,rfl,Nat.le_refl _,fun _=>rfl,fun h=>absurd rfl h⟩
theorem one_of(h:l.length=1):∃ x,l=[x]:=by
 match l,h with
 | [x],_=>exact⟨x,rfl⟩
theorem Zus(wd:List UInt8):∀(ls:List (List UInt8)),(Lib.join ls wd).length<=(ls.map List.length).sum+ls.length*wd.length
 | []=>by simp[Lib.join]
 | [x]=>by rw[Lib.join_one];simp
 | x::y::r=>by
  have ih:=Zus wd (y::r);rw[Lib.join_cons]at ih ⊢;simp only[Lib.joinTail,List.map_cons,List.flatten_cons,List.length_append,List.sum_cons,List.length_cons]at ih ⊢;simp only[Nat.add_mul,Nat.one_mul]at ih ⊢;omega
theorem Zfs(i f:Nat)(wd x out:List UInt8)(pa:Option Addr)(cap:Nat)(hrow:TRow w (.slice pa [x].length cap) [x])(W:World)(hW:Below w.heap.size w W)(hO:Objs W (w.heap.size+1))(hi:(kindsO (w.heap.size+1))[i]? =some (.cells #[fn f] 342 (0,0))) 
  (ef:∀ args w,(callFunc f args).run prog w=.ok (.enter f args) w)
  (HF:∀ V,Below w.heap.size w V->Calls prog f #[.string (ba wd),.string (ba x)] V fun e w'=>e=.returned (.string (ba out))/\Below V.heap.size V w') :
  Calls prog 271 #[.string (ba wd),.slice pa [x].length cap,.pointer (some ⟨w.heap.size+1+1+i,0,none⟩)] W fun e w'=>e=.returned (.string (ba out))/\Below W.heap.size W w':=by
 obtain⟨g,rfl,_,hc,hg⟩:=Ybe hrow hW;have hb:=Zbu (i:=i) (j:=0) hO hi rfl;refine Zsr (ba wd) _ x f (w.heap.size+1+1+i) g 1 cap W hb hc ?_ hg (by omega) ef (hid1 fun V hV=>HF V (Zac hW hV))
 have hlt:=(List.getElem?_eq_some_iff.1 hi).1;exact(Array.getElem?_eq_some_iff.1 (hO i hlt)).1
theorem Zyj{es el:Value}(hA:AW w es el)(wd:List UInt8)(hl:wd.length<=100)(pa:Option Addr)(cap:Nat)(ls:List (List UInt8))(hrow:TRow w (.slice pa ls.length cap) ls)(hx:∀ x∈ls,x.length<=3000)(k:Kd)(h1:k.least<=ls.length)(h2:ls.length<=k.most)(htk:k.takes wd=true) 
  (W:World) (hW:Below w.heap.size w W) (hO:Objs W (w.heap.size+1)) :
  Calls prog (Af.rf k) (#[.string (ba wd),.slice pa ls.length cap]++Af.rc (w.heap.size+1) k) W fun e w'=>e=.returned (.string (ba (k.out wd ls)))/\Below W.heap.size W w':=by
 obtain⟨m,hm⟩:=hA.len;have hbig:=hA.big;have hx':∀ x∈ls,x.length<=100000:=fun x h=>Nat.le_trans (hx x h) (by omega)
 have hm8:k.most<=8:=by cases k <;> decide
 have h8:ls.length<=8:=by omega
 cases k
 ·exact Zqh (ba wd) _ W
 ·refine Zte wd _ ls (by omega) ?_ W (hrow.below hW)
  have a1:=Zus wd ls;have a2:=Znp hx' ls.length (Nat.le_refl _);rw[List.take_length]at a2;have a3:ls.length*wd.length<=8*100:=Nat.mul_le_mul h8 hl;unfold Af.bytes at a2;omega
 ·obtain⟨x,rfl⟩:=one_of (l:=ls) (by simp[Af.Kd.least,Af.Kd.most]at h1 h2;omega)
  have hxx:=hx x (by simp)
  exact Zfs 2 255 wd x (Af.upper x) pa cap hrow W hW hO rfl (enters_of func255 (by kernel_rfl) rfl) fun V _=>Zqi (ba wd) x (by omega) V
 ·obtain⟨x,rfl⟩:=one_of (l:=ls) (by simp[Af.Kd.least,Af.Kd.most]at h1 h2;omega)
  have hxx:=hx x (by simp)
  exact Zfs 3 257 wd x _ pa cap hrow W hW hO rfl (enters_of func257 (by kernel_rfl) rfl) fun V hV=>Zit wd x (by omega) m V (Zaa hm hV) (by have:=hV.size;omega)
 ·have hlen:(Af.told (Af.all ls)).length<=100000000:=by
   refine Nat.le_trans (Af.told_all_len ls) ?_;have:∀(l:List (List UInt8)),(∀ x∈l,x.length<=3000)->(l.map fun x=>x.length+1).sum<=l.length*3001:=fun l=>by
    induction l with
    | nil=>simp
    | cons x r ih =>
     intro h
     have i1:=ih fun y hy=>h y (by simp[hy])
     have i2:=h x (by simp)
     simp only[List.map_cons,List.sum_cons,List.length_cons];omega
   have:=this ls hx;omega
  exact Zot wd _ ls (by omega) hx' hlen m W (hrow.below hW) (Zaa hm hW)
 ·exact Zqj (ba wd) _ ls (by omega) hx' m W (hrow.below hW) (Zaa hm hW) (Zbt hA.pow hW)
 ·obtain⟨x,rfl⟩:=one_of (l:=ls) (by simp[Af.Kd.least,Af.Kd.most]at h1 h2;omega)
  have hxx:=hx x (by simp)
  have ha:1<=(Lib.cut wd [61]).1.length:=by
   have ht:Af.isSwap wd=true:=htk;unfold Af.isSwap at ht;cases hc:(Lib.cut wd [61]).1 with
   | nil=>rw[hc]at ht;simp at ht
   | cons a b=>simp
  exact Zfs 8 262 wd x _ pa cap hrow W hW hO rfl (enters_of func262 (by kernel_rfl) rfl) fun V hV=>Zvq wd x (by omega) (by omega) ha m V (Zaa hm hV)
 ·obtain⟨x,rfl⟩:=one_of (l:=ls) (by simp[Af.Kd.least,Af.Kd.most]at h1 h2;omega)
  have hxx:=hx x (by simp)
  obtain⟨n,hn⟩:∃ n,numM 3 wd=some n:=Option.isSome_iff_exists.1 htk
  have e:Kd.head.out wd [x]=Af.told ((Af.lines x).take n):=by simp[Af.Kd.out,hn]
  rw[e];exact Zfs 9 264 wd x _ pa cap hrow W hW hO rfl (enters_of func264 (by kernel_rfl) rfl) fun V hV=>Zwy wd x n hn (by omega) m V (Zaa hm hV) (Zbt hA.pow hV)
structure AE(w:World)(er:Nat->Value):Prop where
 aw:AW w (er 3) (er 10)
 syn:SynAt w
 kind:w.cell? ⟨4,0,none⟩=some (er 5)
 iface:∀ k,∃ t u,er (k+1)=.iface t u
 zero:er 0=.nilIface
variable {er:Nat->Value}
theorem Zuw(h:AE w er)(nm wd:List UInt8)(n:Int)(hl:wd.length<=1000000):
  (Af.actE nm wd n=0/\∃ k:Kd,Af.kindOf nm=some k/\(k.least:Int)<=n/\n<=k.most/\k.takes wd=true/\wd.length<=100 /\
   Calls prog 215 #[.string (ba nm),.string (ba wd),.int .i64 n] w fun e w'=>e=.returned (.tuple #[kd k.least k.most (tfn (Af.tf k) (Af.tc (w.heap.size+1) k)) (tfn (Af.rf k) (Af.rc (w.heap.size+1) k)),.nilIface])/\Below w.heap.size w w'/\Objs w' (w.heap.size+1)) \/
  (Af.actE nm wd n≠0/\Calls prog 215 #[.string (ba nm),.string (ba wd),.int .i64 n] w fun e w'=>e=.returned (.tuple #[zkd,er (Af.actE nm wd n)])/\Below w.heap.size w w'):=by
 have hA:=h.aw;have hbig:=hA.big;cases hk:Af.kindOf nm with
 | none =>
  refine .inr ⟨by simp[Af.actE,hk],?_⟩
  have e:Af.actE nm wd n=5:=by simp[Af.actE,hk]
  rw[e];exact find_none (ba nm) (ba wd) n (er 5) w h.kind (by omega) fun B=>Zxc hk B
 | some k =>
  have hnm:=Af.kindOf_some hk;have hf:=found k (w.heap.size+1);rw[<- hnm]at hf;have HT:=hid1 fun W hW hO=>Zru hA h.syn wd hl k W hW hO
  have e:Af.actE nm wd n=(if n<k.least\/(k.most:Int)<n\/k.takes wd=false then 3 else if 100<wd.length then 10 else 0):=by simp[Af.actE,hk]
  rw[e];by_cases h1:n<k.least
  ·rw[if_pos (.inl h1)];refine .inr ⟨by decide,?_⟩
   exact(Ycs (ba nm) (ba wd) n k.least k.most _ _ _ _ (k.takes wd) (er 3) (er 10) w hA.shape hA.long hA.big _ hf (Zdj k) HT h1).mono fun e w' ⟨p,q,_⟩=>⟨p,q⟩
  by_cases h2:(k.most:Int)<n
  ·rw[if_pos (.inr (.inl h2))];refine .inr ⟨by decide,?_⟩
   exact(Yah (ba nm) (ba wd) n k.least k.most _ _ _ _ (k.takes wd) (er 3) (er 10) w hA.shape hA.long hA.big _ hf (Zdj k) HT ⟨by omega,h2⟩).mono fun e w' ⟨p,q,_⟩=>⟨p,q⟩
  cases h3:k.takes wd with
  | false =>
   rw[if_pos (.inr (.inr rfl))];refine .inr ⟨by decide,?_⟩
   exact(Ydx (ba nm) (ba wd) n k.least k.most _ _ _ _ (k.takes wd) (er 3) (er 10) w hA.shape hA.long hA.big _ hf (Zdj k) HT ⟨by omega,by omega,h3⟩).mono fun e w' ⟨p,q,_⟩=>⟨p,q⟩
  | true =>
   have hno:¬ (n<k.least\/(k.most:Int)<n\/true=false):=by simp;omega
   rw[if_neg hno];by_cases h4:100<wd.length
   ·rw[if_pos h4];refine .inr ⟨by decide,?_⟩
    exact(Yag (ba nm) (ba wd) n k.least k.most _ _ _ _ (k.takes wd) (er 3) (er 10) w hA.shape hA.long hA.big _ hf (Zdj k) HT ⟨by omega,by omega,h3,by rw[Zal];exact h4⟩).mono fun e w' ⟨p,q,_⟩=>⟨p,q⟩
   ·rw[if_neg h4];refine .inl ⟨rfl,k,rfl,by omega,by omega,h3,by omega,?_⟩
    exact Yai (ba nm) (ba wd) n k.least k.most _ _ _ _ (k.takes wd) (er 3) (er 10) w hA.shape hA.long hA.big _ hf (Zdj k) HT ⟨by omega,by omega,h3,by rw[Zal];omega⟩
theorem Yaz(h:AE w er)(nm wd:List UInt8)(n:Int)(hl:wd.length<=1000000):
  Calls prog 190 #[.string (ba nm),.string (ba wd),.int .i64 n] w fun e w'=>e=.returned (er (Af.actE nm wd n))/\Below w.heap.size w w':=by
 rcases Zuw h nm wd n hl with ⟨e0,k,_,_,_,_,_,hf⟩ | ⟨_,hf⟩
 ·rw[e0,h.zero];exact Zjw (ba nm) (ba wd) n _ _ _ _ .nilIface w rfl rfl (hid1 (hf.mono fun e w' ⟨p,q,_⟩=>⟨p,q⟩))
 ·exact Zjw (ba nm) (ba wd) n 0 0 .nilFunc .nilFunc _ w rfl rfl (hid1 hf)
theorem Tryz.isTypeOf(v:Value)(w:World):(callFunc 103 #[.iface 374 v]).run prog w=.ok (.value (.iface 218 (.agg #[.pointer (some ⟨21,374,none⟩)]))) w:=by kernel_rfl
theorem Tryz.isComparable(w:World):(callFunc 337 #[.agg #[.pointer (some ⟨21,374,none⟩)]]).run prog w=.ok (.value (.bool true)) w:=by kernel_rfl
theorem Tryz.isMethodComparable(v:Value)(w:World):(Go.method 505 218 v "Comparable").run prog w=.ok (337, v) w:=by kernel_rfl
theorem Tryz.isComp:(prog.info? 374).map (·.comparable)=some true:=by kernel_rfl
theorem Tryz.isSize:(prog.info? 376).map (·.size)=some 1:=by kernel_rfl
theorem Tryz.noIsE(v:Value)(xT:TypeId)(w:World):(Instr.typeAssert (.iface 374 v) xT 229 true).run prog w=.ok (.tuple #[.nilIface,.bool false]) w:=run_typeAssert_lacksB underlying229 (by kernel_rfl) (by kernel_rfl) v xT w
theorem Tryz.noAsE(v:Value)(xT:TypeId)(w:World):(Instr.typeAssert (.iface 374 v) xT 222 true).run prog w=.ok (.tuple #[.nilIface,.bool false]) w:=run_typeAssert_lacksB underlying222 (by kernel_rfl) (by kernel_rfl) v xT w
theorem Tryz.noUnwrapE(v:Value)(xT:TypeId)(w:World):(Instr.typeAssert (.iface 374 v) xT 225 true).run prog w=.ok (.tuple #[.nilIface,.bool false]) w:=run_typeAssert_lacksB underlying225 (by kernel_rfl) (by kernel_rfl) v xT w
theorem Tryz.noUnwrapsE(v:Value)(xT:TypeId)(w:World):(Instr.typeAssert (.iface 374 v) xT 227 true).run prog w=.ok (.tuple #[.nilIface,.bool false]) w:=run_typeAssert_lacksB underlying227 (by kernel_rfl) (by kernel_rfl) v xT w
theorem Ydt(a:Addr)(w:World):
  Calls prog 66 #[.iface 374 (.pointer (some a)),.iface 374 (.pointer (some a))] w fun e w'=>e=.returned (.bool true)/\w'=w:=by
 obtain⟨i,hi,hcmp⟩:=Option.map_eq_some_iff.1 Tryz.isComp;obtain⟨j,hj,hjs⟩:=Option.map_eq_some_iff.1 Tryz.isSize;have tT:=Tryz.isTypeOf;have cT:=Tryz.isComparable;have mR:=Tryz.isMethodComparable;have heq:=run_eql_iface_ptr_same (P:=prog) w a underlying44 underlying374 hi hcmp hj;go_enter func66,ntmps66
 go_wp2;refine wp_loop_rounds 1 ?_;rw[rounds_succ];go_wp2;go_ret;exact⟨rfl,rfl⟩
theorem Yck(a b:Addr)(ca cb:Array Value)(ta tb:TypeId)(w:World)(hne:a≠b)(ha:w.heap[a.block]? =some (.cells ca ta (0,0)))(hb:w.heap[b.block]? =some (.cells cb tb (0,0))):
  Calls prog 66 #[.iface 374 (.pointer (some a)),.iface 374 (.pointer (some b))] w fun e w'=>e=.returned (.bool false)/\w'=w:=by
 obtain⟨i,hi,hcmp⟩:=Option.map_eq_some_iff.1 Tryz.isComp;obtain⟨j,hj,hjs⟩:=Option.map_eq_some_iff.1 Tryz.isSize;have tT:=Tryz.isTypeOf;have cT:=Tryz.isComparable;have mR:=Tryz.isMethodComparable;have nE:=Tryz.noIsE;have uE:=Tryz.noUnwrapE;have vE:=Tryz.noUnwrapsE
 have heq:=run_eql_iface_ptr_other (P:=prog) w underlying44 underlying374 hi hcmp hj (by rw[hjs];decide) hne ha hb
 go_enter func66,ntmps66
 go_wp2;refine wp_loop_rounds 1 ?_;rw[rounds_succ];go_wp2;go_ret;exact⟨rfl,rfl⟩
theorem Tryz.valueOfP(t:Addr)(w:World):(callFunc 99 #[.iface 124 (.pointer (some t))]).run prog w
  =.ok (.value (.agg #[.pointer (some ⟨21,124,none⟩),.pointer (some ⟨w.heap.size,0,none⟩),.int .u64 150])) (w.alloc (.cells #[.pointer (some t)] 124)):=by kernel_rfl
theorem Tryz.typeP(a:Addr)(w:World):(callFunc 100 #[.agg #[.pointer (some ⟨21,124,none⟩),.pointer (some a),.int .u64 150]]).run prog w
  =.ok (.value (.iface 218 (.agg #[.pointer (some ⟨21,124,none⟩)]))) w:=by kernel_rfl
theorem Tryz.methodKind(h:Value)(w:World):(Go.method 505 218 (.agg #[h]) "Kind").run prog w=.ok (324, h) w:=by kernel_rfl
theorem Tryz.methodElem(h:Value)(w:World):(Go.method 505 218 (.agg #[h]) "Elem").run prog w=.ok (338, .agg #[h]) w:=by kernel_rfl
theorem Tryz.methodImplements(h:Value)(w:World):(Go.method 505 218 (.agg #[h]) "Implements").run prog w=.ok (339, .agg #[h]) w:=by kernel_rfl
theorem Tryz.methodAssignableTo(h:Value)(w:World):(Go.method 505 218 (.agg #[h]) "AssignableTo").run prog w=.ok (336, .agg #[h]) w:=by kernel_rfl
theorem Tryz.kindP(w:World):(callFunc 324 #[.pointer (some ⟨21,124,none⟩)]).run prog w=.ok (.value (.int .u8 22)) w:=by kernel_rfl
theorem Tryz.kindF(w:World):(callFunc 324 #[.pointer (some ⟨21,122,none⟩)]).run prog w=.ok (.value (.int .u8 22)) w:=by kernel_rfl
theorem Tryz.elemP(w:World):(callFunc 338 #[.agg #[.pointer (some ⟨21,124,none⟩)]]).run prog w=.ok (.value (.iface 218 (.agg #[.pointer (some ⟨21,122,none⟩)]))) w:=by kernel_rfl
theorem Tryz.implementsF(w:World):(callFunc 339 #[.agg #[.pointer (some ⟨21,122,none⟩)],.iface 218 (.agg #[.pointer (some ⟨21,44,none⟩)])]).run prog w=.ok (.value (.bool true)) w:=by kernel_rfl
theorem Tryz.typeOfF(v:Value)(w:World):(callFunc 103 #[.iface 122 v]).run prog w=.ok (.value (.iface 218 (.agg #[.pointer (some ⟨21,122,none⟩)]))) w:=by kernel_rfl
theorem Tryz.assignableF(w:World):(callFunc 336 #[.agg #[.pointer (some ⟨21,122,none⟩)],.iface 218 (.agg #[.pointer (some ⟨21,122,none⟩)])]).run prog w=.ok (.value (.bool true)) w:=by kernel_rfl
theorem Tryz.assignableE(w:World):(callFunc 336 #[.agg #[.pointer (some ⟨21,374,none⟩)],.iface 218 (.agg #[.pointer (some ⟨21,122,none⟩)])]).run prog w=.ok (.value (.bool false)) w:=by kernel_rfl
theorem Tryz.valueOfF(e:Addr)(w:World):(callFunc 99 #[.iface 122 (.pointer (some e))]).run prog w
  =.ok (.value (.agg #[.pointer (some ⟨21,122,none⟩),.pointer (some ⟨w.heap.size,0,none⟩),.int .u64 150])) (w.alloc (.cells #[.pointer (some e)] 122)):=by kernel_rfl
theorem rlm(z:Sem Value)(f:TypeId->Addr->Nat->Nat->Sem Value)(v:Value):
  ReflectliteValue.method z f #[v]=(do match <- ReflectliteValue.parts v with | none=>z | some (t,a,fl)=>f t a fl (fl%32)):=rfl
theorem Tryz.partsP(a:Addr)(w:World):(ReflectliteValue.parts (.agg #[.pointer (some ⟨21,124,none⟩),.pointer (some a),.int .u64 150])).run prog w=.ok (some (124,a,150)) w:=by kernel_rfl
theorem Tryz.isNilP(a p:Addr)(W:World)(ha:W.cell? a=some (.pointer (some p))):
  (ReflectliteValue.method (ReflectliteValue.valueError "reflectlite.Value.IsNil" 0) ReflectliteValue.isNil #[.agg #[.pointer (some ⟨21, 124, none⟩), .pointer (some a), .int .u64 150]]).run prog W=.ok (.bool false) W:=by
 rw[rlm];simp only[Sem.run_bind,Tryz.partsP,Result.andThen];simp[ReflectliteValue.isNil,loadVar,isAgg,underlying,underlying124,ha,Result.andThen]
theorem Yea(x t:Addr)(w:World)(hg:w.cell? ⟨12,0,none⟩=some (.iface 218 (.agg #[.pointer (some ⟨21,44,none⟩)]))):
  Calls prog 65 #[.iface 374 (.pointer (some x)),.iface 124 (.pointer (some t))] w fun ev w'=>ev=.returned (.bool false)/\Below w.heap.size w w':=by
 have h8:= @run_callFunc_extern prog 101 _ (ReflectliteValue.method (ReflectliteValue.valueError "reflectlite.Value.IsNil" 0) ReflectliteValue.isNil) func101 (by kernel_rfl) (by kernel_rfl) (by kernel_rfl) (by kernel_rfl)
 have tO:=Tryz.isTypeOf;have mA:=Tryz.methodAssignableTo;have aE:=Tryz.assignableE;have f6:=Tryz.valueOfP;have f7:=Tryz.typeP;have mK:=Tryz.methodKind;have mE:=Tryz.methodElem;have mI:=Tryz.methodImplements;have k27:=Tryz.kindP;have k25:=Tryz.kindF;have e27:=Tryz.elemP;have i25:=Tryz.implementsF;have nE:=Tryz.noAsE;have uE:=Tryz.noUnwrapE;have vE:=Tryz.noUnwrapsE
 have n8:=Tryz.isNilP ⟨w.heap.size,0,none⟩ t ((w.alloc (.cells #[.pointer (some t)] 124)).alloc (.cells #[.pointer (some ⟨21,124,none⟩),.pointer (some ⟨w.heap.size,0,none⟩),.int .u64 150] 168)) (by simp)
 have hlt:12<w.heap.size:=by
  rcases Nat.lt_or_ge 12 w.heap.size with h | h
  ·exact h
  ·simp[World.cell?,Array.getElem?_eq_none h]at hg
 have hg2:((w.alloc (.cells #[.pointer (some t)] 124)).alloc (.cells #[.pointer (some ⟨21,124,none⟩),.pointer (some ⟨w.heap.size,0,none⟩),.int .u64 150] 168)).cell? ⟨12,0,none⟩=some (.iface 218 (.agg #[.pointer (some ⟨21,44,none⟩)])):=by
  rw[World.cell?_alloc_lt _ _ ⟨12,0,none⟩ (by simp;omega),World.cell?_alloc_lt _ _ ⟨12,0,none⟩ hlt];exact hg
 go_enter func65,ntmps65
 go_wp2;refine wp_loop_rounds 1 ?_;rw[rounds_succ];go_wp2;go_ret;exact⟨rfl,(((Below.refl _ w).alloc (Nat.le_refl _) _).alloc (by simp) _).alloc (by simp;omega) _⟩
