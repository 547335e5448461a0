import Derived.Test.YtcplmkhclckagaaGreatDoorPR25
set_option maxRecDepth 100000
set_option maxHeartbeats 4000000
open Go.Proofs.Tryz
namespace Go.Proofs.YtcplmkhclckagaaGreatDoor
open Go.RowKit Go.Shelf Go.Lib Go.Maps
open Tf (Fs)
structure TErr(w:World)(es:Nat->Value):Prop where
 bound:w.cell? ⟨0,0,none⟩=some (es 2)
 shape:w.cell? ⟨2,0,none⟩=some (es 3)
 name:w.cell? ⟨3,0,none⟩=some (es 4)
 none6:w.cell? ⟨5,0,none⟩=some (es 6)
 exist:w.cell? ⟨6,0,none⟩=some (es 7)
 full:w.cell? ⟨7,0,none⟩=some (es 8)
 faces:∀ k,∃ t u,es (k+1)=.iface t u
 nil:es 0=.nilIface
variable {w':World}{es:Nat->Value}
theorem TErr.below{w:World}(h:TErr w es)(hb:Below w.heap.size w w'):TErr w' es :=
 ⟨Zaa h.bound hb,Zaa h.shape hb,Zaa h.name hb,Zaa h.none6 hb,Zaa h.exist hb,Zaa h.full hb,h.faces,h.nil⟩
theorem invK(key:Value)(kl:Lit)(h:keyOf prog 9 key=some kl):∃ x,key=encStr x:=by
 obtain⟨x,hx,_⟩:=Maps.keyOf_str underlying9 h;exact⟨x,hx⟩
theorem invV(v:Value)(y:DataW Unit×List MemPlace)(h:Zaw v=some y):∃ c:List UInt8,v=fileV c:=by
 obtain⟨l,rfl,_⟩:=Zhh h;exact⟨l,rfl⟩
variable {fs:Fs}{x:List UInt8}
theorem Zwz{y:DataW Unit}(h:∀ zd,(Tf.datum fs).atKey (.string x) zd=y):Tf.hasP fs x=true:=by
 rw[<- Tf.datum_has];exact Maps.has_true_of_atKey h
def Clear(fs:Fs)(p:List UInt8)(left:Lit->Bool):Prop:=∀ f∈fs,left (.string f.1)=false->(Tf.above f.1 p||Tf.above p f.1)=false
theorem Clear.start(fs:Fs)(p:List UInt8):Clear fs p (Maps.has (Tf.datum fs)):=by
 intro f hf h
 rw[Tf.datum_has]at h;have:Tf.hasP fs f.1=true:=List.any_eq_true.2 ⟨f,hf,by simp⟩
 rw[this]at h;cases h
variable {p:List UInt8}
theorem Clear.step{fs:Fs}{left:Lit->Bool}(h:Clear fs p left)(hx:(Tf.above x p||Tf.above p x)=false):Clear fs p (fun z=>left z&& !z.sameKey (.string x)):=by
 intro f hf hl
 by_cases e:f.1=x
 ·rw[e];exact hx
 ·refine h f hf ?_;have:(Lit.string f.1).sameKey (.string x)=false:=by simp[Lit.sameKey,e]
  simpa[this] using hl
theorem Clear.done{fs:Fs}{left:Lit->Bool}(h:Clear fs p left)(hl:∀ kl,left kl=false):Tf.clash fs p=false:=by
 unfold Tf.clash;rw[List.any_eq_false];intro f hf
 have:=h f hf (hl _);simpa using this
theorem Zuz(hx:Tf.hasP fs x=true)(h:(Tf.above x p||Tf.above p x)=true):Tf.clash fs p=true:=by
 obtain⟨f,hf,e⟩:=List.any_eq_true.1 hx;obtain rfl:f.1=x:=by simpa using e
 exact List.any_eq_true.2 ⟨f,hf,h⟩
variable {B tb:Nat}{o:Option Nat}
theorem Zsz{w:World}(_h:TreeAt B w tb fs o)(hE:TErr w es)(p b:List UInt8)(hp:p.length<=1000000)(hn:pathB p=false):
  Calls prog 105 #[Ptr tb,.string (ba p),.string (ba b)] w fun e w'=>e=.returned (es 4)/\Below w.heap.size w w':=by
 obtain⟨t,u,e4⟩:=hE.faces 3;have hn4:=hE.name;rw[e4]at hn4 ⊢;have HK:Hid (Calls prog 142 #[.string (ba p)] w fun e w'=>e=.returned (.iface t u)/\Below w.heap.size w w'):=Zvc p hp hn w t u hn4
 clear hn hE;go_enter func105,ntmps105
 go_wp2_with fail;refine HK.out.mono ?_;rintro e w1 ⟨rfl,g1⟩;go_wp2;go_ret;exact⟨rfl,g1⟩
theorem Zqa{w:World}(_h:TreeAt B w tb fs o)(hE:TErr w es)(p b:List UInt8)(hp:p.length<=1000000)(hn:pathB p=true)(hb:2000<b.length):
  Calls prog 105 #[Ptr tb,.string (ba p),.string (ba b)] w fun e w'=>e=.returned (es 2)/\Below w.heap.size w w':=by
 obtain⟨t,u,e4⟩:=hE.faces 1;have hn4:=hE.bound;rw[e4]at hn4 ⊢;have HK:Hid (Calls prog 142 #[.string (ba p)] w fun e w'=>e=.returned .nilIface/\Below w.heap.size w w'):=Zdx p hp hn w
 have z:(2000:Int)<(b.length:Int):=by omega
 clear hn hE hb;go_enter func105,ntmps105
 go_wp2_with fail;refine HK.out.mono ?_;rintro e w1 ⟨rfl,g1⟩;have hc:=Zaa hn4 g1;go_wp2;go_ret;exact⟨rfl,g1⟩
theorem Zpx{w:World}(h:TreeAt B w tb fs o)(p b:List UInt8)(hp:p.length<=1000000)(hn:pathB p=true)(hb:b.length<=2000)(ht:Tf.hasP fs p=true):
  Calls prog 105 #[Ptr tb,.string (ba p),.string (ba b)] w fun e w'=>e=.returned .nilIface/\Below w.heap.size w w':=by
 have HK:Hid (Calls prog 142 #[.string (ba p)] w fun e w'=>e=.returned .nilIface/\Below w.heap.size w w'):=Zdx p hp hn w
 have z:(b.length:Int)<=2000:=by omega
 have HL:Hid (∀ w',Below w.heap.size w w'->(Instr.lookup 103 (.map o) (.string (ba p)) true).run prog w'=.ok (.tuple #[fileV ((Tf.get fs p).getD []),.bool true]) w'):=fun w' g=>by
  have:=Zdp (h.below g) p hp;rwa[ht]at this
 have hc:=h.cell;generalize (Tf.get fs p).getD []=x at *;clear hn hb ht h;go_enter func105,ntmps105
 go_wp2_with fail;refine HK.out.mono ?_;rintro e w1 ⟨rfl,g1⟩;have hl:=HL.out w1 g1;have hc1:=Zaa hc g1;go_wp2;go_ret;exact⟨rfl,g1.alloc g1.size _⟩
def Zba(fs:Fs)(p:List UInt8):Nat:=if Tf.clash fs p then 7 else if 60<=fs.length then 8 else 0
variable {bm:Nat}
theorem Zwo{w:World}(h:TreeAt B w tb fs (some bm))(hE:TErr w es)(hlen:∀ f∈fs,f.1.length<=1000000)(hfew:fs.length<=1000)(p b:List UInt8)(hp:p.length<=1000000)(hn:pathB p=true)(hb:b.length<=2000)(ht:Tf.hasP fs p=false):
  Calls prog 105 #[Ptr tb,.string (ba p),.string (ba b)] w fun e w'=>e=.returned (es (Zba fs p))/\Below w.heap.size w w':=by
 have HK:Hid (Calls prog 142 #[.string (ba p)] w fun e w'=>e=.returned .nilIface/\Below w.heap.size w w'):=Zdx p hp hn w
 have z:(b.length:Int)<=2000:=by omega
 have HL:Hid (∀ w',Below w.heap.size w w'->(Instr.lookup 103 (.map (some bm)) (.string (ba p)) true).run prog w'=.ok (.tuple #[fileV ((Tf.get fs p).getD []),.bool false]) w'):=fun w' g=>by
  have:=Zdp (h.below g) p hp;rwa[ht]at this
 have hc:=h.cell;have hm:=h.isMap.2.2;have HA:Hid (∀(a c:List UInt8),a.length<=1000000->∀ W,Calls prog 143 #[.string (ba a),.string (ba c)] W fun e w'=>e=.returned (.bool (Tf.above a c))/\w'=W):=fun a c ha W=>Zua a c ha W
 generalize (Tf.get fs p).getD []=x0 at *;clear hn hb ht h;go_enter func105,ntmps105
 go_wp2_with fail;refine HK.out.mono ?_;rintro e w1 ⟨rfl,g1⟩;have hl:=HL.out w1 g1;have hc1:=Zaa hc g1;have hm1:=(Zfq hm g1).alloc (.cells #[.string (ba x0)] 105);have g2:=g1.alloc g1.size (.cells #[.string (ba x0)] 105);have hc2:=Zaa hc g2;clear HK HL;go_wp2_with (first
  | (at_range;refine wpList_range_own _ rfl _ 103 rfl 9 105 klaw underlying103 Zaw bm fs.length (Tf.datum fs) rfl hm1 ?_;intro w0 hrg0 hg0 hs0)
  | go_in)
 go_frame
 have g3:Below w.heap.size w w0:=g2.grown hg0 (by simp;have:=g1.size;omega) (fun _ e=>by cases e)
 generalize hr:(w1.alloc (.cells #[.string (ba x0)] 105)).heap.size=r at *;have hrl:w.heap.size<=r:=by rw[<- hr];simp;have:=g1.size;omega
 clear hr hl hm1 g2 hc2 hg0 hs0 hc1;go_loopw [10] (fun _ wr=>∃(left:Lit->Bool) (cnt:Nat),wr.ranges prog 9 Zaw bm r fs.length (Tf.datum fs) left cnt/\Clear fs p left/\Below w.heap.size w wr)
  (fun _ wr=>wr.rangeLeft bm r)
 case atStart=>exact⟨_,_,hrg0,Clear.start fs p,g3⟩
 case round =>
  obtain⟨left,cnt,hrg,hcl,hB⟩:=hrel;have hE':=hE.below hB;have hc':=Zaa hc hB;go_wp2_with (first
   | (at_next;refine wpList_next_ranges _ rfl _ rfl 9 klaw Zaw (fun x:List UInt8=>Value.string (ba x)) (fun c:List UInt8=>fileV c) (fun key kl hk=>invK key kl hk) invV bm r fs.length _ _ _ rfl hrg ?_ ?_)
   | go_in)
  ·intro _ hl0
   have hclash:=hcl.done hl0;have hfull:=hE'.full;by_cases h60:60<=fs.length
   ·have e8:Zba fs p=8:=by simp[Zba,hclash,h60]
    obtain⟨t,u,e4⟩:=hE.faces 7;rw[e4]at hfull;have z60:(60:Int)<=((Maps.size (Tf.datum fs):Nat):Int):=by rw[Tf.datum_size];omega
    go_wp2_with (first
     | (at_len;refine wpList_len_own _ rfl _ 103 rfl 9 105 underlying103 Zaw bm fs.length (Tf.datum fs) rfl hrg.owns ?_)
     | go_in)
    go_ret;exact⟨congrArg Ending.returned (show Value.iface t u=es (Zba fs p) by rw[e8,e4]),hB⟩
   ·have e0:Zba fs p=0:=by simp[Zba,hclash,h60]
    have z60:((Maps.size (Tf.datum fs):Nat):Int)<60:=by rw[Tf.datum_size];omega
    go_wp2_with (first
     | (at_len;refine wpList_len_own _ rfl _ 103 rfl 9 105 underlying103 Zaw bm fs.length (Tf.datum fs) rfl hrg.owns ?_)
     | go_in)
    go_ret;exact⟨congrArg Ending.returned (show Value.nilIface=es (Zba fs p) by rw[e0,hE.nil]),hB⟩
  ·intro x c kl yd yp w2 cnt2 hkey hlk hv hat hrg2 hlt hg2 hs2 hen
   obtain⟨x',ex,rfl,_⟩:=Maps.keyOf_str underlying9 hkey;obtain rfl:x=x':=encStr_inj ex;have hxs:=Zwz hat;have hxl:x.length<=1000000:=by
    obtain⟨f,hf,e⟩:=List.any_eq_true.1 hxs;obtain rfl:f.1=x:=by simpa using e
    exact hlen f hf
   have hB2:Below w.heap.size w w2:=hB.grown hg2 hB.size (fun j e=>by cases e;exact hrl)
   have hex:=(hE.below hB2).exist;have A1:Hid (∀ W,Calls prog 143 #[.string (ba x),.string (ba p)] W fun e w'=>e=.returned (.bool (Tf.above x p))/\w'=W):=HA.out x p hxl
   have A2:Hid (∀ W,Calls prog 143 #[.string (ba p),.string (ba x)] W fun e w'=>e=.returned (.bool (Tf.above p x))/\w'=W):=HA.out p x hp
   clear hs2 hkey hv ex;obtain⟨t,u,e7⟩:=hE.faces 6;cases a1:Tf.above x p with
   | true =>
    have hcc:=Zuz (p:=p) hxs (by simp[a1])
    have e8:Zba fs p=7:=by simp[Zba,hcc]
    rw[a1]at A1;rw[e7]at hex;clear A2;go_wp2_with fail;refine(A1.out _).mono ?_;rintro e w' ⟨rfl,rfl⟩;go_wp2;go_ret;exact⟨congrArg Ending.returned (show Value.iface t u=es (Zba fs p) by rw[e8,e7]),hB2⟩
   | false =>
    rw[a1]at A1;cases a2:Tf.above p x with
    | true =>
     have hcc:=Zuz (p:=p) hxs (by simp[a2])
     have e8:Zba fs p=7:=by simp[Zba,hcc]
     rw[a2]at A2;rw[e7]at hex;go_wp2_with fail;refine(A1.out _).mono ?_;rintro e w' ⟨rfl,rfl⟩;go_wp2_with fail;refine(A2.out _).mono ?_;rintro e w' ⟨rfl,rfl⟩;go_wp2;go_ret;exact⟨congrArg Ending.returned (show Value.iface t u=es (Zba fs p) by rw[e8,e7]),hB2⟩
    | false =>
     rw[a2]at A2;go_wp2_with fail;refine(A1.out _).mono ?_;rintro e w' ⟨rfl,rfl⟩;go_wp2_with fail;refine(A2.out _).mono ?_;rintro e w' ⟨rfl,rfl⟩;go_wp2;go_roundw
     case rel=>exact⟨_,cnt2,hrg2,hcl.step (by simp[a1,a2]),hB2⟩
     case measure=>rw[hrg2.left_eq,hrg.left_eq];exact hlt
theorem Put_no{w:World}(_h:TreeAt B w tb fs o)(p b:List UInt8)(t:TypeId)(u:Value) 
  (HM:Hid (Calls prog 105 #[Ptr tb,.string (ba p),.string (ba b)] w fun e w'=>e=.returned (.iface t u)/\Below w.heap.size w w')) :
  Calls prog 67 #[Ptr tb,.string (ba p),.string (ba b)] w fun e w'=>e=.returned (.iface t u)/\Below w.heap.size w w':=by
 go_enter func67,ntmps67
 go_wp2_with fail;refine HM.out.mono ?_;rintro e w1 ⟨rfl,g1⟩;go_wp2;go_ret;exact⟨rfl,g1⟩
theorem Zxf(bm:Nat)(w:World):(binOp BinOp.eql 103 (.map (some bm)) (.map none)).run prog w=.ok (.bool false) w:=by kernel_rfl
theorem Ycu(w:World):(binOp BinOp.eql 103 (.map none) (.map none)).run prog w=.ok (.bool true) w:=by kernel_rfl
theorem Zdu{a w:World}(h:Below B a w)(hsz:B<=w.heap.size)(hB:B<=bm)(ht:w.mapTurned w' bm):Below B a w' :=
 h.grown ht.grown hsz (fun j e=>by cases e;exact hB)
theorem Zpy{w:World}(h:TreeAt B w tb fs none)(p b:List UInt8)(hp:p.length<=1000000)(hn:pathB p=true)(hb:b.length<=2000):
  Calls prog 105 #[Ptr tb,.string (ba p),.string (ba b)] w fun e w'=>e=.returned .nilIface/\Below w.heap.size w w':=by
 have HK:Hid (Calls prog 142 #[.string (ba p)] w fun e w'=>e=.returned .nilIface/\Below w.heap.size w w'):=Zdx p hp hn w
 have z:(b.length:Int)<=2000:=by omega
 have hl:=fun w'=>Zis w' p hp
 have hc:=h.cell;clear hn hb h;go_enter func105,ntmps105
 go_wp2_with fail;refine HK.out.mono ?_;rintro e w1 ⟨rfl,g1⟩;have hc1:=Zaa hc g1;have g2:=g1.alloc g1.size (.cells #[.string (ba [])] 105);have hc2:=Zaa hc g2;have g3:=g2.alloc g2.size (.mapIter none 0 #[] 0);have hc3:=Zaa hc g3;have hrg:=run_range_nilMap (P:=prog) (w1.alloc (.cells #[.string (ba [])] 105)) 103 9 105 underlying103
 have hnx:∀ ty,(Instr.next (.pointer (some ⟨(w1.alloc (.cells #[.string (ba [])] 105)).heap.size,0,none⟩)) false ty).run prog ((w1.alloc (.cells #[.string (ba [])] 105)).alloc (.mapIter none 0 #[] 0))=_:=fun ty=>run_next_nilMap (w1.alloc (.cells #[.string (ba [])] 105)) ty 0 0 #[]
 have hln:∀ W ty,(Builtin.len_ #[103] ty #[.map none]).run prog W=.ok (.int .i64 0) W:=fun W ty=>Maps.len_nil (w:=W) underlying103 ty
 have e1:(w1.alloc (.cells #[.string (ba [])] 105)).heap.size=w1.heap.size+1:=by simp
 rw[e1]at hrg hnx;clear e1 HK;go_wp2;refine wp_loop_rounds 1 ?_;rw[rounds_succ];go_wp2;go_ret;exact⟨rfl,g3⟩
theorem Zev(fs:Fs)(p b:List UInt8)(hn:pathB p=true)(hb:b.length<=2000)(ht:Tf.hasP fs p=false):Tf.putCode pathB fs p b=Zba fs p:=by
 unfold Tf.putCode Zba;rw[if_neg (by simp[hn]),if_neg (by omega),if_neg (by simp[ht])]
theorem Zpz{w:World}(h:TreeAt B w tb fs o)(hE:TErr w es)(hlen:∀ f∈fs,f.1.length<=1000000)(hfew:fs.length<=1000)(p b:List UInt8)(hp:p.length<=1000000):
  Calls prog 105 #[Ptr tb,.string (ba p),.string (ba b)] w fun e w'=>e=.returned (es (Tf.putCode pathB fs p b))/\Below w.heap.size w w':=by
 cases hn:pathB p with
 | false =>
  rw[show Tf.putCode pathB fs p b=4 by simp[Tf.putCode,hn]]
  exact Zsz h hE p b hp hn
 | true =>
  rcases Nat.lt_or_ge 2000 b.length with hb | hb
  ·rw[show Tf.putCode pathB fs p b=2 by simp[Tf.putCode,hn,hb]]
   exact Zqa h hE p b hp hn hb
  ·cases ht:Tf.hasP fs p with
   | true =>
    rw[show Tf.putCode pathB fs p b=0 by unfold Tf.putCode;rw[if_neg (by simp[hn]),if_neg (by omega),if_pos ht],hE.nil]
    exact Zpx h p b hp hn hb ht
   | false =>
    cases o with
    | none =>
     obtain rfl:fs=[]:=h.isMap;rw[show Tf.putCode pathB [] p b=0 by rw[Zev _ _ _ hn hb ht];simp[Zba,Tf.clash],hE.nil]
     exact Zpy h p b hp hn hb
    | some bm =>
     rw[Zev _ _ _ hn hb ht];exact Zwo h hE hlen hfew p b hp hn hb ht
theorem Yaw{w:World}(h:TreeAt B w tb fs o)(hE:TErr w es)(p:List UInt8)(hp:p.length<=1000000)(ht:Tf.hasP fs p=false):
  Calls prog 70 #[Ptr tb,.string (ba p)] w fun e w'=>e=.returned (es 6)/\Below w.heap.size w w':=by
 have hl:=Zdp h p hp;rw[ht]at hl;have HA:Hid (Calls prog 53 #[Ptr tb] w fun e w'=>e=.returned (.map o)/\w'=w):=Zgc tb o w h.cell
 generalize (Tf.get fs p).getD []=x at *;obtain⟨t,u,e6⟩:=hE.faces 5;have hn:=hE.none6;rw[e6]at hn ⊢;have g1:Below w.heap.size w (w.alloc (.cells #[.string (ba x)] 105)):=(Below.refl _ w).alloc (Nat.le_refl _) _;have hn1:=Zaa hn g1;clear ht h hE;go_enter func70,ntmps70
 go_wp2_with fail;refine HA.out.mono ?_;rintro e w' ⟨rfl,rfl⟩;go_wp2;go_ret;exact⟨rfl,g1⟩
open Go.Sort (grow)
variable {k:Nat}
theorem get_at(hr:Tf.Rises fs)(hk:k<fs.length):Tf.get fs fs[k].1=some fs[k].2:=by
 unfold Tf.get;have:fs.find? (fun f=>f.1==fs[k].1)=some fs[k]:=by
  rw[List.find?_eq_some_iff_getElem];refine⟨by simp,k,hk,rfl,fun j hj=> ?_⟩
  have h1:=List.pairwise_iff_getElem.1 hr j k (by omega) hk hj
  simp only[Bool.not_eq_true',beq_eq_false_iff_ne];intro e
  rw[e,WideAt.bytes_irrefl]at h1;cases h1
 rw[this];rfl
theorem Zld(hk:k<fs.length):Tf.textT (fs.take (k+1))=Tf.textT (fs.take k)++Tf.entryT fs[k]:=by
 unfold Tf.textT;rw[List.take_succ_eq_append_getElem hk,List.flatMap_append,List.flatMap_cons,List.flatMap_nil,List.append_nil]
theorem Zff(h:∀ f∈fs,f.1.length<=1000/\f.2.length<=2000):(Tf.textT fs).length<=fs.length*4000:=by
 unfold Tf.textT;induction fs with
 | nil=>simp
 | cons f r ih =>
  have h1:=h f (by simp)
  have h2:=ih fun g hg=>h g (List.mem_cons_of_mem _ hg)
  have h3:=Zax f.2.length (by omega)
  simp[Tf.entryT]at *;omega
theorem Zxs{w:World}(h:TreeAt B w tb fs o)(hP:Pow w)(hr:Tf.Rises fs)(hn:fs.length<=1000)(hsz:∀ f∈fs,f.1.length<=1000/\f.2.length<=2000):
  Calls prog 13 #[Ptr tb] w fun e w'=>e=.returned (.string (ba (Tf.textT fs)))/\Below w.heap.size w w':=by
 have g0:Below w.heap.size w (w.alloc (.cells #[.pointer none,.slice none 0 0] 61)):=(Below.refl _ w).alloc (Nat.le_refl _) _;have b0:Lib.IsBuilderF 61 5 w.heap.size w.heap.size [] (w.alloc (.cells #[.pointer none,.slice none 0 0] 61)):=Lib.IsBuilderF.of (Lib.fresh_isBuilder 61 5 w)
 have HP:Hid (Calls prog 28 #[Ptr tb] (w.alloc (.cells #[.pointer none,.slice none 0 0] 61)) fun e w'=>∃ v,e=.returned v/\TRow w' v (fs.map (·.1))/\Below (w.alloc (.cells #[.pointer none,.slice none 0 0] 61)).heap.size (w.alloc (.cells #[.pointer none,.slice none 0 0] 61)) w') :=
  (Zue (h.below g0) hr hn).mono fun e w' ⟨v,h1,h2,h3⟩=>⟨v,h1,TRow.of_owns h2,h3⟩
 have HG:Hid (∀ k (hk:k<fs.length) W,Below w.heap.size w W->Calls prog 29 #[Ptr tb,.string (ba fs[k].1)] W fun e w'=>e=.returned (.tuple #[.string (ba fs[k].2),.bool (Tf.hasP fs fs[k].1)])/\Below W.heap.size W w'):=fun k hk W hW=>by
  have:=Zgg (h.below hW) fs[k].1 (by have:=(hsz _ (List.getElem_mem hk)).1;omega)
  rw[get_at hr hk]at this;exact this
 have HI:Hid (∀(n:Nat) W,n<=2000->Below w.heap.size w W->Calls prog 31 #[.int .i64 n] W fun e w'=>e=.returned (.string (ba (Lib.decDigits n)))/\Below W.heap.size W w'):=fun n W hn hW=>by
  refine(strconv_Itoa (n:Int) (by omega) (by omega) W (Zbt hP hW)).mono ?_
  rintro e w' ⟨rfl,k,os,rfl⟩;rw[Lib.itoa_nonneg];exact⟨rfl,Zcu W k os⟩
 have HW:Hid (∀(bs:List UInt8) (s:List UInt8) W,bs.length+s.length<=100000000->w.heap.size<=W.heap.size->Lib.IsBuilderF 61 5 w.heap.size w.heap.size (Lib.byteCells bs) W->Calls prog 30 #[.pointer (some ⟨w.heap.size,0,none⟩),.string (ba s)] W fun e w' =>
   e=.returned (.tuple #[.int .i64 s.length,.nilIface])/\Lib.IsBuilderF 61 5 w.heap.size w.heap.size (Lib.byteCells (bs++s)) w'/\Below w.heap.size W w'/\Lib.OthersKept 5 (some w.heap.size) W w'):=fun bs s W hl hW hb=>by
  refine(Any.Builder_WriteString_k lays166 Builder_Extra_166 w.heap.size w.heap.size (Lib.byteCells bs) (ba s) W hb (by rw[Lib.byteCells_length,Zal];omega) hW).mono ?_
  rintro e w' ⟨rfl,h1,h2,h3⟩;refine⟨by rw[Zal],.inr ?_,h2,h3⟩
  rw[Lib.byteCells_append];exact h1
 have HS:Hid (∀ W,w.heap.size<=W.heap.size->Lib.IsBuilderF 61 5 w.heap.size w.heap.size (Lib.byteCells (Tf.textT fs)) W->Calls prog 32 #[.pointer (some ⟨w.heap.size,0,none⟩)] W fun e w'=>e=.returned (.string (ba (Tf.textT fs)))/\Below w.heap.size W w'):=fun W hW hb=>by
  refine(Any.Builder_String_any_k lays169 Builder_Extra_169 w.heap.size w.heap.size (Tf.textT fs) W hb hW).mono ?_;rintro e w' ⟨rfl,_,h2,_⟩;exact⟨rfl,h2⟩
 have hlenA:=fun k:Nat=>Zff (fs:=fs.take k) (fun f hf=>hsz f (List.mem_of_mem_take hf))
 clear h hP;go_enter func13,ntmps13
 go_wp2_with fail;refine HP.out.mono ?_;rintro e w1 ⟨v,rfl,⟨pa,cap,rfl,hcap,hrow⟩,g1⟩;have B1:=Zcd b0 g1;have G1:Below w.heap.size w w1:=g0.trans (g1.mono g0.size);have R1:TRow w1 (.slice pa (fs.map (·.1)).length cap) (fs.map (·.1)):=⟨pa,cap,rfl,hcap,hrow⟩;rw[List.length_map]at R1 hcap ⊢;clear HP g0 b0 g1 hrow;go_wp2
 go_loopw [11] (fun i wr=>∃ k:Nat,k<=fs.length/\i=.int .i64 k/\Lib.IsBuilderF 61 5 w.heap.size w.heap.size (Lib.byteCells (Tf.textT (fs.take k))) wr/\TRow wr (.slice pa fs.length cap) (fs.map (·.1))/\Below w.heap.size w wr) (fun i _=>fs.length - (intOf i).toNat)
 case atStart=>exact⟨0,Nat.zero_le _,rfl,by simpa[Tf.textT,Lib.byteCells] using B1,R1,G1⟩
 case round =>
  obtain⟨k,hk,rfl,hbld,hrow,hB⟩:=hrel;by_cases hlt:k<fs.length
  ·have c1:(k:Int)<(fs.length:Int):=by omega
   have c0:(0:Int)<=(k:Int):=by omega
   obtain⟨p',cap',ev,_,hin⟩:=hrow;obtain⟨g,cur,rfl,hg,hcur⟩:=hin (by intro e;rw[List.map_eq_nil_iff]at e;rw[e]at hlt;simp at hlt)
   have hrow:TRow wr (.slice pa fs.length cap) (fs.map (·.1)):=⟨_,cap',ev,by assumption,hin⟩
   have hcell:=Zab hg (hcur k (by simpa using hlt))
   rw[List.getElem_map]at hcell;have epa:pa=some ⟨g,0,none⟩:=by simp at ev;exact ev.1
   subst epa;obtain⟨hp1,hp2⟩:=hsz _ (List.getElem_mem hlt);have hl0:=hlenA k;rw[List.length_take]at hl0;have HG':=HG.out k hlt wr hB;clear ev hin hcur hg;generalize ht:Tf.hasP fs fs[k].1=t at *;have hstep:=Zld hlt;unfold Tf.entryT at hstep;have hdl:=Zax fs[k].2.length (by omega)
   generalize fs[k].1=q at *;generalize fs[k].2=bt at *;go_wp2_with fail;refine HG'.mono ?_;rintro e w2 ⟨rfl,g2⟩;have B2:=Zcd hbld g2;have R2:=hrow.below g2;have G2:=hB.trans (g2.mono hB.size);go_wp2_with fail;refine(HI.out bt.length w2 hp2 G2).mono ?_;rintro e w3 ⟨rfl,g3⟩;have B3:=Zcd B2 g3;have R3:=R2.below g3;have G3:=G2.trans (g3.mono G2.size)
   have ecat:ba q++{ data:= #[32] }++ba (Lib.decDigits bt.length)++{ data:= #[10] }++ba bt++{ data:= #[10] }=ba (q++32::(Lib.decDigits bt.length++10::(bt++[10]))):=by
    rw[show(ByteArray.mk #[32])=ba [32] from rfl,show(ByteArray.mk #[10])=ba [10] from rfl]
    simp only[Zcv];simp
   clear HG';go_wp2_with fail;refine(HW.out _ _ w3 ?_ G3.size B3).mono ?_
   ·simp only[List.length_append,List.length_cons,List.length_nil];omega
   rintro e w4 ⟨rfl,B4,g4,k4⟩;have R4:=R3.others' k4 B3;go_wp2;go_roundw
   case rel=>exact⟨k+1,by omega,by go_num,by rw[hstep];exact B4,R4,G3.trans g4⟩
   case measure=>simp[intOf];omega
  ·have c1:(fs.length:Int)<=(k:Int):=by omega
   obtain rfl:k=fs.length:=by omega
   rw[List.take_length]at hbld;have HS':=HS.out wr hB.size hbld;go_wp2_with fail;refine HS'.mono ?_;rintro e w5 ⟨rfl,g5⟩;go_wp2;go_ret;exact⟨rfl,hB.trans g5⟩
theorem Ybq(w:World)(x y:Value)(t:TypeId):(w.alloc (.cells #[x,y] t)).heap[w.heap.size]? =some (.cells #[x,y] t (0,0)):=(MapKept.heap_alloc w _).1
theorem Zxp(t:List UInt8)(a b:Nat):(ba t).extract a b=ba ((t.drop a).take (b - a)):=ba_eq (by rw[<- Lib.toList_data,Lib.extract_toList])
def Zae(es:Fs):List Value:=es.flatMap fun e=>[.string (ba e.1),.string (ba e.2)]
theorem Zay(es:Fs):(Zae es).length=es.length*2:=by
 induction es with
 | nil=>rfl
 | cons e r ih=>simp[Zae]at ih ⊢;omega
theorem Zjd:∀(es:Fs) (j:Nat) (hj:j<es.length),(Zae es)[j*2]? =some (.string (ba es[j].1))/\(Zae es)[j*2+1]? =some (.string (ba es[j].2))
 | e::r,0,_=>by simp[Zae]
 | e::r,j+1,hj=>by
  have:=Zjd r j (by simpa using hj)
  have e1:Zae (e::r)=.string (ba e.1):: .string (ba e.2)::Zae r:=by simp[Zae]
  rw[e1,show(j+1)*2=j*2+1+1 by omega]
  simpa using this
variable {e:TypeId}{size n:Nat}{v:Value}{xs:List Value}
theorem Ydm{w:World}{base:Nat}(h:w.ownsRow base e size v n xs):∀ k,v.ownBlock=some k->base<=k:=by
 intro k hk
 rcases h.2 with ⟨rfl,_⟩ | ⟨g,cap,cur,rfl,hb,_⟩
 ·cases hk
 ·cases hk;exact hb
theorem Zbe{w:World}{base:Nat}(h:w.ownsRow base e size v n xs)(hb:Below w.heap.size w w'):w'.ownsRow base e size v n xs:=by
 obtain⟨h0,h1⟩:=h;refine⟨h0,h1.imp id ?_⟩;rintro⟨g,cap,cur,e1,e2,e3,e4⟩;exact⟨g,cap,cur,e1,e2,(hb.block g (Array.getElem?_eq_some_iff.1 e3).1).trans e3,e4⟩
theorem Zmi(W:World)(x y:Value)(t:TypeId)(j:Nat)(u:Value)(h:[x,y][j]? =some u):(W.alloc (.cells #[x,y] t)).cell? ((⟨W.heap.size,0,none⟩:Addr).add j)=some u:=by
 have hk:=Ybq W x y t;match j,h with
 | 0,h=>cases h;exact Zab hk rfl
 | 1,h=>cases h;exact Zab hk rfl
theorem Zci(h:Tf.Well pathB fs):∀ f∈fs,f.1.length<=64:=by
 intro f hf
 have h1:=(h.each f hf).1;unfold pathB allB at h1;simp only[Bool.and_eq_true,decide_eq_true_eq,List.all_eq_true]at h1;have h2:∀ x∈Kf.parts f.1,x.length<=12:=fun x hx=>by
  have:=h1.2 x hx;unfold nameK at this;simp only[Bool.and_eq_true,decide_eq_true_eq]at this;have e:(ba x).size=x.length:=Zal x;revert this
  simp[e];omega
 have h3:=Kf.tot_parts f.1;have h4:Kf.tot (Kf.parts f.1)<=(Kf.parts f.1).length*13:=by
  generalize Kf.parts f.1=l at h2;clear h1 h3;induction l with
  | nil=>simp[Kf.tot]
  | cons x r ih =>
   have:=ih fun y hy=>h2 y (List.mem_cons_of_mem _ hy)
   have:=h2 x (by simp)
   simp[Kf.tot]at *;omega
 omega
variable {a b:List UInt8}
theorem Ztz(h:b.length<=a.length):Tf.above a b=false:=by
 cases e:Tf.above a b with
 | false=>rfl
 | true =>
  have:=(List.isPrefixOf_iff_prefix.1 (show(a++[47]).isPrefixOf b=true from e)).length_le
  simp at this;omega
theorem Yau(h:(b.take a.length==a)=false):Tf.above a b=false:=by
 cases e:Tf.above a b with
 | false=>rfl
 | true =>
  obtain⟨t,rfl⟩:=List.isPrefixOf_iff_prefix.1 (show(a++[47]).isPrefixOf b=true from e)
  simp at h
theorem Yde(hl:a.length<b.length)(h:b.take a.length=a):Tf.above a b=decide (b[a.length]=47):=by
 obtain⟨c,t,rfl⟩:∃ c t,b=a++c::t:=by
  refine⟨b[a.length],b.drop (a.length+1),?_⟩;conv=>lhs;rw[<- List.take_append_drop a.length b,h,List.drop_eq_getElem_cons hl]
 have e:(a++c::t)[a.length]=c:=by simp
 rw[e];rw[Bool.eq_iff_iff];show(a++[47]).isPrefixOf (a++c::t)=true↔_
 rw[List.isPrefixOf_iff_prefix,List.prefix_append_right_inj,List.cons_prefix_cons];simp
 exact eq_comm
theorem Ydz(x:UInt8)(n:Nat)(hn:n<256):(((x.toNat:Nat):Int)==(n:Int))=decide (x=UInt8.ofNat n):=by
 rw[Bool.eq_iff_iff];simp only[beq_iff_eq,decide_eq_true_eq];constructor
 ·intro h
  apply UInt8.toNat_inj.1
  simp
  omega
 ·intro h
  subst h;simp
  omega
theorem Zck(a b:List UInt8)(ha:a.length<=1000000)(_:b.length<=1000000)(w:World):
  Calls prog 73 #[.string (ba a),.string (ba b)] w fun e w'=>e=.returned (.bool (Tf.above a b))/\w'=w:=by
 have z0:(0:Int)<=(a.length:Int):=by omega
 rcases Nat.lt_or_ge a.length b.length with hl | hl
 ·have zl:(a.length:Int)<(b.length:Int):=by omega
  have zl2:(a.length:Int)<=(b.length:Int):=by omega
  have e1:(ba b).extract 0 a.length=ba (b.take a.length):=by rw[Zxp];simp
  cases he:(b.take a.length==a) with
  | false =>
   rw[Yau he];go_enter func73,ntmps73
   go_wp2;go_ret;exact⟨rfl,rfl⟩
  | true =>
   have he':b.take a.length=a:=by simpa using he
   rw[Yde hl he'];go_enter func73,ntmps73
   go_wp2;go_ret;exact⟨Zan (Ydz b[a.length] 47 (by omega)),rfl⟩
 ·have zl:(b.length:Int)<=(a.length:Int):=by omega
  rw[Ztz hl];go_enter func73,ntmps73
  go_wp2;go_ret;exact⟨rfl,rfl⟩
structure RTreeAt(B:Nat)(w:World)(tb:Nat)(fs:Fs)(v:Value):Prop where
 low:B<=tb
 cell:w.cell? ⟨tb,0,none⟩=some v
 free:w.frozen? ⟨tb,0,none⟩=false
 row:w.ownsRow B 71 2 v fs.length (Zae fs)
 apart:v.ownBlock≠some tb
 nil:fs=[]->v=.slice none 0 0
theorem RTreeAt.lt{w:World}{fs:Fs}(h:RTreeAt B w tb fs v):tb<w.heap.size:=Zaj h.cell
theorem RTreeAt.below{w:World}{fs:Fs}(h:RTreeAt B w tb fs v)(hb:Below w.heap.size w w'):RTreeAt B w' tb fs v :=
 ⟨h.low,(hb.cell (p:=⟨tb,0,none⟩) h.lt).trans h.cell,(hb.frozen (p:=⟨tb,0,none⟩) h.lt).trans h.free,Zbe h.row hb,h.apart,h.nil⟩
def FRow(w:World)(v:Value)(es:Fs):Prop :=
 ∃ p cap,v=.slice p es.length cap/\es.length<=cap/\(es≠[]->∃ g cur,p=some ⟨g,0,none⟩/\w.heap[g]? =some (.cells cur 71 (0,0))/\∀ j (hj:j<es.length),cur[j*2]? =some (.string (ba es[j].1))/\cur[j*2+1]? =some (.string (ba es[j].2)))
theorem FRow.of_owns{w:World}{base:Nat}{es:Fs}(h:w.ownsRow base 71 2 v es.length (Zae es)):FRow w v es:=by
 rcases h.2 with ⟨rfl,hn⟩ | ⟨g,cap,cur,rfl,_,hb,h1,_,_,h4⟩
 ·obtain rfl:es=[]:=by simpa using hn
  exact⟨none,0,rfl,Nat.le_refl _,fun h=>absurd rfl h⟩
 ·refine⟨_,cap,rfl,h1,fun _=>⟨g,cur,rfl,hb,fun j hj=> ?_⟩⟩
  obtain⟨h5,h6⟩:=Zjd es j hj;rw[<- h4,List.getElem?_take,if_pos (by omega),Array.getElem?_toList]at h5 h6
  exact⟨h5,h6⟩
theorem Zaz{w:World}(h:RTreeAt B w tb fs v)(hn:fs.length<=1000)(p:List UInt8):
  Calls prog 50 #[Ptr tb,.string (ba p)] w fun e w'=>((∃ k,∃ hk:k<fs.length,e=.returned (.int .i64 k)/\fs[k].1=p)\/(Tf.hasP fs p=false/\e=.returned (.int .i64 (-1))))/\w'=w:=by
 have hc:=h.cell;obtain⟨pa,cap,rfl,hcap,hin⟩:=FRow.of_owns h.row;clear h;go_enter func50,ntmps50
 go_wp2;go_loopw [5] (fun i wr=>∃ k:Nat,k<=fs.length/\i=.int .i64 k/\(∀ j (hj:j<fs.length),j<k->fs[j].1≠p)/\wr=w) (fun i _=>fs.length - (intOf i).toNat)
 case atStart=>exact⟨0,by omega,rfl,fun j _ h=>absurd h (Nat.not_lt_zero _),rfl⟩
 case round =>
  obtain⟨k,hk,rfl,hno,rfl⟩:=hrel;by_cases hlt:k<fs.length
  ·obtain⟨g,cur,rfl,hg,hcur⟩:=hin (by intro e;rw[e]at hlt;simp at hlt)
   have h1:=Zab hg (hcur k hlt).1;have c1:(k:Int)<(fs.length:Int):=by omega
   have c0:(0:Int)<=(k:Int):=by omega
   clear hin hcur hg;obtain⟨x,hx⟩:∃ x,fs[k].1=x:=⟨_,rfl⟩
   rw[hx]at h1;by_cases e:x=p
   ·subst e;go_wp2;go_ret;exact⟨.inl ⟨k,hlt,rfl,hx⟩,rfl⟩
   ·have e':(x==p)=false:=by simpa using e
    go_wp2;go_roundw
    case rel=>exact⟨k+1,by omega,by go_num,fun j hj hjk=>by
     rcases Nat.lt_or_ge j k with h2 | h2
     ·exact hno j hj h2
     ·obtain rfl:j=k:=by omega
      rw[hx];exact e,by first | rfl | trivial⟩
    case measure=>simp[intOf];omega
  ·have c1:(fs.length:Int)<=(k:Int):=by omega
   clear hin;go_wp2;go_ret;refine⟨.inr ⟨?_,rfl⟩,rfl⟩;unfold Tf.hasP;rw[List.any_eq_false];intro f hf e
   obtain⟨j,hj,rfl⟩:=List.mem_iff_getElem.1 hf;exact hno j hj (by omega) (by simpa using e)
def PlRow(W:World)(g n:Nat)(f:Nat->Value):Prop:=g<W.heap.size/\∀ j,j<n->W.cell? ⟨g,j,none⟩=some (f j)/\W.frozen? ⟨g,j,none⟩=false
def upd(f:Nat->Value)(i:Nat)(v:Value):Nat->Value:=fun j=>if j=i then v else f j
theorem Ybc(f:Nat->Value)(i:Nat)(v:Value):upd f i v i=v:=if_pos rfl
variable {f:Nat->Value}{i:Nat}
theorem Zya{j:Nat}(h:j≠i):upd f i v j=f j:=if_neg h
variable {W:World}{g:Nat}
theorem PlRow.same{W':World}(h:PlRow W g n f)(hz:W.heap.size<=W'.heap.size)(hb:W'.heap[g]? =W.heap[g]?):PlRow W' g n f :=
 ⟨Nat.lt_of_lt_of_le h.1 hz,fun j hj=>⟨(World.cell?_of_block (a:=⟨g,j,none⟩) hb).trans (h.2 j hj).1,(World.frozen?_of_block (a:=⟨g,j,none⟩) hb).trans (h.2 j hj).2⟩⟩
theorem PlRow.set(h:PlRow W g n f)(hi:i<n)(v:Value):PlRow (W.setCell ⟨g,i,none⟩ v) g n (upd f i v):=by
 refine⟨by simpa using h.1,fun j hj=>⟨?_,?_⟩⟩
 ·by_cases e:j=i
  ·subst e;rw[Ybc];exact World.cell?_setCell_same' _ _ _ (by rw[(h.2 j hj).1];rfl)
  ·rw[Zya e,World.cell?_setCell_other]
   ·exact(h.2 j hj).1
   ·simp
 ·rw[World.frozen?_setCell];exact(h.2 j hj).2
theorem Zah(W:World)(a:Addr)(v:Value):(W.setCell a v).heap.size=W.heap.size:=by simp
theorem Zgb{w:World}(h:Below B w W)(hg:B<=g)(v:Value):Below B w (W.setCell ⟨g,i,none⟩ v) :=
 ⟨h.os,h.tape,h.output,by rw[Zah];exact h.size,fun j hj=>(Below.heap_setCell W ⟨g,i,none⟩ v j (by show j≠g;omega)).trans (h.block j hj)⟩
structure Gr where
 w:World
 C:Nat->Prop
abbrev Gr.heap(g:Gr):Array Obj:=g.w.heap
abbrev Gr.of(w:World):Gr:=⟨w,fun _=>False⟩
theorem Only.set{S:Nat->Prop}{w:World}(h:Only S w W)(hg:w.heap.size<=g)(v:Value):Only S w (W.setCell ⟨g,i,none⟩ v) :=
 ⟨h.os,h.tape,h.output,by rw[Zah];exact h.size,fun j hj hs=>(Below.heap_setCell W ⟨g,i,none⟩ v j (by show j≠g;omega)).trans (h.block j hj hs)⟩
theorem Only.more{S:Nat->Prop}{w W W':World}(h:Only S w W)(hb:Below W.heap.size W W'):Only S w W':=h.trans (S':=fun _=>False) (Only.of hb) fun _ e=>e.elim
structure MBr(w0:Gr)(W:World)(mb tb:Nat)(tv lv cv:Value)(gs go gh gw:Nat)(l:List Ru)(fs:Tf.Fs)(vS vO vH vW:Nat->Value):Prop where
 base:Only w0.C w0.w W
 rules:∀ V,Only w0.C w0.w V->RRow V lv l
 low:w0.heap.size<=mb/\w0.heap.size<=gs/\w0.heap.size<=go/\w0.heap.size<=gh/\w0.heap.size<=gw
 c0:W.cell? ⟨mb,0,none⟩=some (Ptr tb)
 c1:W.cell? ⟨mb,1,none⟩=some lv
 c2:W.cell? ⟨mb,2,none⟩=some (.slice (some ⟨gs,0,none⟩) l.length l.length)
 c3:W.cell? ⟨mb,3,none⟩=some (.slice (some ⟨go,0,none⟩) l.length l.length)
 c4:W.cell? ⟨mb,4,none⟩=some (.slice (some ⟨gh,0,none⟩) l.length l.length)
 c5:W.cell? ⟨mb,5,none⟩=some (.slice (some ⟨gw,0,none⟩) l.length l.length)
 c6:W.cell? ⟨mb,6,none⟩=some cv
 rs:PlRow W gs l.length vS
 ro:PlRow W go l.length vO
 rh:PlRow W gh l.length vH
 rw:PlRow W gw l.length vW
 tree:RTreeAt w0.heap.size W tb fs tv
 n1:gs≠go/\gs≠gh/\gs≠gw/\go≠gh/\go≠gw/\gh≠gw
 nm:mb≠gs/\mb≠go/\mb≠gh/\mb≠gw
 nt:∀ j,(j=tb\/some j=tv.ownBlock)->j≠gs/\j≠go/\j≠gh/\j≠gw
variable {w0:Gr} {W W':World} {mb tb:Nat} {tv lv cv:Value} {gs go gh gw:Nat} {l:List Ru} {fs:Tf.Fs} {vS vO vH vW:Nat->Value}
def MBlk(mb tb:Nat)(tv:Value)(gs go gh gw:Nat)(j:Nat):Prop:=j=mb\/j=tb\/some j=tv.ownBlock\/j=gs\/j=go\/j=gh\/j=gw
theorem MBr.lt(h:MBr w0 W mb tb tv lv cv gs go gh gw l fs vS vO vH vW):∀ j,MBlk mb tb tv gs go gh gw j->j<W.heap.size:=by
 rintro j (rfl | rfl | hj | rfl | rfl | rfl | rfl)
 ·exact Zaj h.c0
 ·exact h.tree.lt
 ·exact(h.tree.row.lt j hj.symm).2
 ·exact h.rs.1
 ·exact h.ro.1
 ·exact h.rh.1
 ·exact h.rw.1
theorem MBr.ge(h:MBr w0 W mb tb tv lv cv gs go gh gw l fs vS vO vH vW):∀ j,MBlk mb tb tv gs go gh gw j->w0.heap.size<=j:=by
 obtain⟨h1,h2,h3,h4,h5⟩:=h.low;rintro j (rfl | rfl | hj | rfl | rfl | rfl | rfl)
 ·exact h1
 ·exact h.tree.low
 ·exact(h.tree.row.lt j hj.symm).1
 ·exact h2
 ·exact h3
 ·exact h4
 ·exact h5
theorem RTreeAt.same(h:RTreeAt B W tb fs tv)(hb:∀ j,(j=tb\/some j=tv.ownBlock)->W'.heap[j]? =W.heap[j]?):RTreeAt B W' tb fs tv:=by
 have bt:=hb tb (.inl rfl);refine⟨h.low,(World.cell?_of_block (a:=⟨tb,0,none⟩) bt).trans h.cell,(World.frozen?_of_block (a:=⟨tb,0,none⟩) bt).trans h.free,⟨h.row.1,?_⟩,h.apart,h.nil⟩
 rcases h.row.2 with h1 | ⟨g,cap,cur,e,h0,hg,h2⟩
 ·exact .inl h1
 ·exact .inr ⟨g,cap,cur,e,h0,(hb g (.inr (by rw[e];rfl))).trans hg,h2⟩
theorem MBr.same(h:MBr w0 W mb tb tv lv cv gs go gh gw l fs vS vO vH vW)(hB:Only w0.C w0.w W')(hz:W.heap.size<=W'.heap.size)(hb:∀ j,MBlk mb tb tv gs go gh gw j->W'.heap[j]? =W.heap[j]?):MBr w0 W' mb tb tv lv cv gs go gh gw l fs vS vO vH vW:=by
 have bm:=hb mb (.inl rfl);have cc:∀ {i:Nat} {u:Value},W.cell? ⟨mb,i,none⟩=some u->W'.cell? ⟨mb,i,none⟩=some u:=fun {i u} hc=>(World.cell?_of_block (a:=⟨mb,i,none⟩) bm).trans hc
 exact⟨hB,h.rules,h.low,cc h.c0,cc h.c1,cc h.c2,cc h.c3,cc h.c4,cc h.c5,cc h.c6,h.rs.same hz (hb gs (.inr (.inr (.inr (.inl rfl))))),h.ro.same hz (hb go (.inr (.inr (.inr (.inr (.inl rfl)))))),h.rh.same hz (hb gh (.inr (.inr (.inr (.inr (.inr (.inl rfl))))))),h.rw.same hz (hb gw (.inr (.inr (.inr (.inr (.inr (.inr rfl))))))),h.tree.same (fun j hj=>hb j (hj.elim (fun e=>.inr (.inl e)) fun e=>.inr (.inr (.inl e)))),h.n1,h.nm,h.nt⟩
theorem MBr.below(h:MBr w0 W mb tb tv lv cv gs go gh gw l fs vS vO vH vW)(hb:Below W.heap.size W W'):MBr w0 W' mb tb tv lv cv gs go gh gw l fs vS vO vH vW :=
 h.same (h.base.more hb) hb.size fun j hj=>hb.block j (h.lt j hj)
theorem MBr.on{w:World}(h:MBr (.of w) W mb tb tv lv cv gs go gh gw l fs vS vO vH vW):Below w.heap.size w W:=h.base.below (fun _ e=>e.elim) (Nat.le_refl _)
theorem MBr.geW{w:World}(h:MBr (.of w) W mb tb tv lv cv gs go gh gw l fs vS vO vH vW):∀ j,MBlk mb tb tv gs go gh gw j->w.heap.size<=j:=h.ge
theorem MBr.loose{w:World}{C:Nat->Prop}(h:MBr (.of w) W mb tb tv lv cv gs go gh gw l fs vS vO vH vW)(hr:∀ V,Only C w V->RRow V lv l):MBr ⟨w,C⟩ W mb tb tv lv cv gs go gh gw l fs vS vO vH vW :=
 ⟨⟨h.base.os,h.base.tape,h.base.output,h.base.size,fun j hj _=>h.base.block j hj id⟩,hr,h.low,h.c0,h.c1,h.c2,h.c3,h.c4,h.c5,h.c6,h.rs,h.ro,h.rh,h.rw,h.tree,h.n1,h.nm,h.nt⟩
theorem MBr.row(h:MBr w0 W mb tb tv lv cv gs go gh gw l fs vS vO vH vW):RRow W lv l:=h.rules W h.base
theorem MBr.store(h:MBr w0 W mb tb tv lv cv gs go gh gw l fs vS vO vH vW)(hg:g=gs\/g=go\/g=gh\/g=gw)(v:Value){vS' vO' vH' vW':Nat->Value} 
  (rs:PlRow (W.setCell ⟨g,i,none⟩ v) gs l.length vS') (ro:PlRow (W.setCell ⟨g,i,none⟩ v) go l.length vO') (rh:PlRow (W.setCell ⟨g,i,none⟩ v) gh l.length vH') (rw:PlRow (W.setCell ⟨g,i,none⟩ v) gw l.length vW') :
  MBr w0 (W.setCell ⟨g,i,none⟩ v) mb tb tv lv cv gs go gh gw l fs vS' vO' vH' vW':=by
 have hS:∀ c,c≠g->(W.setCell ⟨g,i,none⟩ v).heap[c]? =W.heap[c]? :=fun c hc=>Below.heap_setCell W ⟨g,i,none⟩ v c hc
 obtain⟨l1,l2,l3,l4,l5⟩:=h.low;have hlow:w0.heap.size<=g:=by rcases hg with e | e | e | e <;> omega
 obtain⟨m1,m2,m3,m4⟩:=h.nm;have bm:=hS mb (by rcases hg with e | e | e | e <;> omega)
 have cc:∀ {j:Nat} {u:Value},W.cell? ⟨mb,j,none⟩=some u->(W.setCell ⟨g,i,none⟩ v).cell? ⟨mb,j,none⟩=some u:=fun {j u} hc=>(World.cell?_of_block (a:=⟨mb,j,none⟩) bm).trans hc
 refine⟨h.base.set hlow v,h.rules,h.low,cc h.c0,cc h.c1,cc h.c2,cc h.c3,cc h.c4,cc h.c5,cc h.c6,rs,ro,rh,rw,h.tree.same (fun j hj=>hS j ?_),h.n1,h.nm,h.nt⟩
 obtain⟨t1,t2,t3,t4⟩:=h.nt j hj;rcases hg with e | e | e | e <;> omega
theorem PlRow.other{g':Nat}(h:PlRow W g n f)(hg:g≠g')(v:Value):PlRow (W.setCell ⟨g',i,none⟩ v) g n f :=
 h.same (by rw[Zah];exact Nat.le_refl _) (Below.heap_setCell W ⟨g',i,none⟩ v g hg)
theorem MBr.setS(h:MBr w0 W mb tb tv lv cv gs go gh gw l fs vS vO vH vW)(hi:i<l.length)(v:Value):MBr w0 (W.setCell ⟨gs,i,none⟩ v) mb tb tv lv cv gs go gh gw l fs (upd vS i v) vO vH vW:=by
 obtain⟨a1,a2,a3,a4,a5,a6⟩:=h.n1;exact h.store (.inl rfl) v (h.rs.set hi v) (h.ro.other (by omega) v) (h.rh.other (by omega) v) (h.rw.other (by omega) v)
theorem MBr.setO(h:MBr w0 W mb tb tv lv cv gs go gh gw l fs vS vO vH vW)(hi:i<l.length)(v:Value):MBr w0 (W.setCell ⟨go,i,none⟩ v) mb tb tv lv cv gs go gh gw l fs vS (upd vO i v) vH vW:=by
 obtain⟨a1,a2,a3,a4,a5,a6⟩:=h.n1;exact h.store (.inr (.inl rfl)) v (h.rs.other (by omega) v) (h.ro.set hi v) (h.rh.other (by omega) v) (h.rw.other (by omega) v)
theorem MBr.setH(h:MBr w0 W mb tb tv lv cv gs go gh gw l fs vS vO vH vW)(hi:i<l.length)(v:Value):MBr w0 (W.setCell ⟨gh,i,none⟩ v) mb tb tv lv cv gs go gh gw l fs vS vO (upd vH i v) vW:=by
 obtain⟨a1,a2,a3,a4,a5,a6⟩:=h.n1;exact h.store (.inr (.inr (.inl rfl))) v (h.rs.other (by omega) v) (h.ro.other (by omega) v) (h.rh.set hi v) (h.rw.other (by omega) v)
theorem MBr.setW(h:MBr w0 W mb tb tv lv cv gs go gh gw l fs vS vO vH vW)(hi:i<l.length)(v:Value):MBr w0 (W.setCell ⟨gw,i,none⟩ v) mb tb tv lv cv gs go gh gw l fs vS vO vH (upd vW i v):=by
 obtain⟨a1,a2,a3,a4,a5,a6⟩:=h.n1;exact h.store (.inr (.inr (.inr rfl))) v (h.rs.other (by omega) v) (h.ro.other (by omega) v) (h.rh.other (by omega) v) (h.rw.set hi v)
abbrev nameV(st:Nat->Bf.St):Nat->Value:=fun j=>.string (ba (st j).name)
abbrev outV(st:Nat->Bf.St):Nat->Value:=fun j=>.string (ba (st j).out)
abbrev hitV(st:Nat->Bf.St):Nat->Value:=fun j=>.bool (st j).hit
abbrev whyV(st:Nat->Bf.St):Nat->Value:=fun j=>.int .i64 ((st j).why:Nat)
abbrev MB(w0:Gr)(W:World)(mb tb:Nat)(tv lv cv:Value)(gs go gh gw:Nat)(d:Bf.Bd):Prop :=
 MBr w0 W mb tb tv lv cv gs go gh gw d.l d.fs (nameV d.st) (outV d.st) (hitV d.st) (whyV d.st)
theorem Zdy(st:Nat->Bf.St)(i:Nat)(s:Bf.St):upd (nameV st) i (.string (ba s.name))=nameV (Bf.setS st i s):=by
 funext j
 unfold upd nameV Bf.setS;split <;> rfl
theorem Zrt(st:Nat->Bf.St)(i:Nat)(s:Bf.St):upd (outV st) i (.string (ba s.out))=outV (Bf.setS st i s):=by
 funext j
 unfold upd outV Bf.setS;split <;> rfl
theorem Ydj(st:Nat->Bf.St)(i:Nat)(s:Bf.St):upd (hitV st) i (.bool s.hit)=hitV (Bf.setS st i s):=by
 funext j
 unfold upd hitV Bf.setS;split <;> rfl
theorem Ydi(st:Nat->Bf.St)(i:Nat)(s:Bf.St):upd (whyV st) i (.int .i64 (s.why:Nat))=whyV (Bf.setS st i s):=by
 funext j
 unfold upd whyV Bf.setS;split <;> rfl
variable {st:Nat->Bf.St}{s:Bf.St}
theorem Ybs(h:s.out=(st i).out):outV (Bf.setS st i s)=outV st:=by
 funext j
 unfold outV Bf.setS;split
 ·rename_i e;rw[e,h]
 ·rfl
theorem Znj(h:s.hit=(st i).hit):hitV (Bf.setS st i s)=hitV st:=by
 funext j
 unfold hitV Bf.setS;split
 ·rename_i e;rw[e,h]
 ·rfl
theorem Zmg(h:s.why=(st i).why):whyV (Bf.setS st i s)=whyV st:=by
 funext j
 unfold whyV Bf.setS;split
 ·rename_i e;rw[e,h]
 ·rfl
