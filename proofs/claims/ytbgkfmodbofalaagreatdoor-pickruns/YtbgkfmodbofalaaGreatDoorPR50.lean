import Derived.Test.YtbgkfmodbofalaaGreatDoorPR49
import Derived.Test.YtbgkfmodbofalaaGreatDoorPR48
import Derived.LaidHandle
set_option maxRecDepth 100000
set_option maxHeartbeats 8000000
namespace Go.Proofs.YtbgkfmodbofalaaGreatDoor
open Go.RowKit Go.Shelf Go.Lib
open Go.Sort (grow)
theorem Zdv {w w' : World} {B b : Nat} {u : Value} {bs : List Value} (h : Lib.BuilderAtF 154 5 B b u bs w) (hb : Below w.heap.size w w') : Lib.BuilderAtF 154 5 B b u bs w' := by
 obtain ⟨h1,v,h2,h3,h4⟩ := h;exact ⟨h1,v,(hb.block b (Array.getElem?_eq_some_iff.1 h2).1).trans h2,h3.kept (row := none) ⟨hb.os,hb.tape,hb.output,hb.size,fun k hk _ => hb.block k hk⟩ (by cases v.ownBlock <;> simp),h4⟩
theorem Zgg {w w' : World} {B b : Nat} {bs : List Value} (h : Lib.IsBuilderF 154 5 B b bs w) (hb : Below w.heap.size w w') : Lib.IsBuilderF 154 5 B b bs w' :=
 h.imp (fun h => Zdv h hb) (fun h => Zdv h hb)
abbrev KPow (w : World) : Prop := Lib.TabIs Tryz.prog w "internal/strconv.uint64pow10" .u64 Lib.pow10Tab
theorem Zjw {w w' : World} (h : KPow w) (hb : Below w.heap.size w w') : KPow w' := Go.Joins.tab_stays (g := 13) (by kernel_rfl) h hb (Nat.le_refl _)
theorem Zqc {w0 W : World} (hP : KPow w0) (hB : Below w0.heap.size w0 W) (b : Nat) (bs s : List UInt8) (hb : Lib.IsBuilderF 154 5 w0.heap.size b (Lib.byteCells bs) W) (hl : bs.length <= 100000) (hs : s.length <= 3000) :
  Calls Tryz.prog 266 #[.string (ba s),.pointer (some ⟨b,0,none⟩)] W fun e w' => e = .returned (.tuple #[]) /\ Lib.IsBuilderF 154 5 w0.heap.size b (Lib.byteCells (bs ++ Kp.piece s)) w' /\ Below w0.heap.size W w' := by
 have HI := hid1 ((Tryz.strconv_Itoa (s.length : Int) (by omega) (by omega) W (Zjw hP hB)).mono (R' := fun e w' => e = .returned (.string (ba (Lib.decDigits s.length))) /\ Below W.heap.size W w') (by
  rintro e w' ⟨rfl,k,os,rfl⟩;rw [Lib.itoa_nonneg];exact ⟨rfl,Zds W k os⟩))
 have hdl := Zbd s.length (by omega)
 have HW : Hid (∀ (bs s : List UInt8) V,bs.length + s.length <= 10000000 -> w0.heap.size <= V.heap.size -> Lib.IsBuilderF 154 5 w0.heap.size b (Lib.byteCells bs) V -> Calls Tryz.prog 97 #[.pointer (some ⟨b,0,none⟩),.string (ba s)] V fun e w' =>
   e = .returned (.tuple #[.int .i64 s.length,.nilIface]) /\ Lib.IsBuilderF 154 5 w0.heap.size b (Lib.byteCells (bs ++ s)) w' /\ Below w0.heap.size V w') := hid1 fun bs s V hl hV hb => by
  refine (Any.Builder_WriteString_k Tryz.lays166B Tryz.Builder_Extra_166B w0.heap.size b (Lib.byteCells bs) (ba s) V hb (by rw [Lib.byteCells_length,Zam];omega) hV).mono ?_
  rintro e w' ⟨rfl,h1,h2,h3⟩;refine ⟨by rw [Zam],.inr ?_,h2⟩
  rw [Lib.byteCells_append];exact h1
 have HC : Hid (∀ (bs : List UInt8) V,bs.length <= 10000000 -> w0.heap.size <= V.heap.size -> Lib.IsBuilderF 154 5 w0.heap.size b (Lib.byteCells bs) V -> Calls Tryz.prog 267 #[.pointer (some ⟨b,0,none⟩),.int .u8 58] V fun e w' =>
   e = .returned .nilIface /\ Lib.IsBuilderF 154 5 w0.heap.size b (Lib.byteCells (bs ++ [58])) w' /\ Below w0.heap.size V w') := hid1 fun bs V hl hV hb => by
  refine (Any.Builder_WriteByte_k Tryz.lays167 Tryz.Builder_Extra_167 w0.heap.size b (Lib.byteCells bs) 58 V hb (by rw [Lib.byteCells_length];omega) hV).mono ?_
  rintro e w' ⟨rfl,h1,h2,h3⟩;refine ⟨rfl,.inr ?_,h2⟩;rw [Lib.byteCells_append];exact h1
 have HB := hid1 hb;have zB := hB.size;clear hP hB hb;go_enter Tryz.func266,Tryz.ntmps266
 go_wp2_with fail;refine HI.out.mono ?_;rintro e w1 ⟨rfl,g1⟩;have B1 := hid1 (Zgg HB.out g1);have z1 := g1.size;clear HI HB;go_wp2_with fail;refine (HW.out bs _ w1 (by omega) (by omega) B1.out).mono ?_
 rintro e w2 ⟨rfl,b2,g2⟩;have B2 := hid1 b2;have G2 := hid1 ((g1.mono zB).trans g2);have z2 := g2.size;clear B1 g1 b2 g2;go_wp2_with fail;refine (HC.out _ w2 (by rw [List.length_append];omega) (by omega) B2.out).mono ?_
 rintro e w3 ⟨rfl,b3,g3⟩;have B3 := hid1 b3;have G3 := hid1 (G2.out.trans g3);have z3 := g3.size;clear B2 G2 b3 g3 HC;go_wp2_with fail;refine (HW.out _ s w3 (by rw [List.length_append,List.length_append,List.length_singleton];omega) (by omega) B3.out).mono ?_
 rintro e w4 ⟨rfl,b4,g4⟩;have B4 := hid1 b4;have G4 := hid1 (G3.out.trans g4);clear B3 G3 b4 g4 HW;go_wp2;go_end0
 refine ⟨rfl,?_,G4.out⟩;have := B4.out;unfold Kp.piece;simpa using this
theorem Kp.piece_len (s : List UInt8) (h : s.length <= 3000) : (Kp.piece s).length <= 3022 := by
 unfold Kp.piece;have := Zbd s.length (by omega)
 simp
 omega
theorem Kp.flat_len : ∀ (l : List (List UInt8)),(∀ x ∈ l,x.length <= 3000) -> (l.flatMap Kp.piece).length <= l.length * 3022
 | [],_ => by simp
 | x :: l,h => by
  have h1 := Kp.piece_len x (h x (by simp))
  have h2 := Kp.flat_len l fun y hy => h y (List.mem_cons_of_mem _ hy)
  simp only [List.flatMap_cons,List.length_append,List.length_cons];omega
theorem Kp.flat_take {l : List (List UInt8)} {j : Nat} (hj : j < l.length) : (l.take (j + 1)).flatMap Kp.piece = (l.take j).flatMap Kp.piece ++ Kp.piece l[j] := by
 rw [List.take_succ_eq_append_getElem hj,List.flatMap_append,List.flatMap_cons,List.flatMap_nil,List.append_nil]
theorem Ztr {w0 W : World} (hP : KPow w0) (hB : Below w0.heap.size w0 W) (kind word : List UInt8) (v : Value) (ins : List (List UInt8)) (hx : XRow W v ins) (h1 : kind.length <= 3000) (h2 : word.length <= 3000) (h3 : ins.length <= 20) (h4 : ∀ x ∈ ins,x.length <= 3000) :
  Calls Tryz.prog 184 #[.string (ba kind),.string (ba word),v] W fun e w' => e = .returned (.string (ba (Kp.key kind word ins))) /\ Below W.heap.size W w' := by
 have hPW := Zjw hP hB;obtain ⟨p,cap,rfl,hcap,hnn,hin⟩ := hx;have HX := hid1 hin;have g0 : Below W.heap.size W (W.alloc (.cells #[.pointer none,.slice none 0 0] 154)) := (Below.refl _ W).alloc (Nat.le_refl _) _;have b0 : Lib.IsBuilderF 154 5 W.heap.size W.heap.size (Lib.byteCells []) (W.alloc (.cells #[.pointer none,.slice none 0 0] 154)) := Lib.IsBuilderF.of (Lib.fresh_isBuilder 154 5 W)
 have HA := hid1 fun (V : World) (bs s : List UInt8) (gV : Below W.heap.size W V) (bV : Lib.IsBuilderF 154 5 W.heap.size W.heap.size (Lib.byteCells bs) V) (hl : bs.length <= 100000) (hs : s.length <= 3000) => Zqc hPW gV W.heap.size bs s bV hl hs
 have HS := hid1 fun (V : World) (bs : List UInt8) (hV : W.heap.size <= V.heap.size) (hb : Lib.IsBuilderF 154 5 W.heap.size W.heap.size (Lib.byteCells bs) V) => Any.Builder_String_any_k Tryz.lays169 Tryz.Builder_Extra_169 W.heap.size W.heap.size bs V hb hV
 have hf1 := Kp.piece_len kind h1;have hf2 := Kp.piece_len word h2;have HFl := hid1 fun j : Nat => Kp.flat_len (ins.take j) fun x hx => h4 x (List.mem_of_mem_take hx)
 have hen := enters_of Tryz.func266 (by kernel_rfl) rfl
 have HH4 := hid1 h4;have zi : (ins.length : Int) <= 20 := by omega
 clear hP hB hin h4;generalize hW0 : W.alloc (.cells #[.pointer none,.slice none 0 0] 154) = w1 at *;go_enter Tryz.func184,Tryz.ntmps184
 go_wp2_with fail;refine (HA.out w1 [] kind g0 b0 (by simp) h1).mono ?_
 rintro e w2 ⟨rfl,b2,g2⟩;have G2 := g0.trans g2;clear b0 g2;go_wp2_with fail;refine (HA.out w2 _ word G2 b2 (by simp;omega) h2).mono ?_
 rintro e w3 ⟨rfl,b3,g3⟩;have G3 := G2.trans g3;have HB3 := hid1 b3;clear b2 g3 b3;go_wp2;go_loopw [20] (fun iv wr => ∃ j : Nat,j <= ins.length /\ iv = .int .i64 j /\ Lib.IsBuilderF 154 5 W.heap.size W.heap.size (Lib.byteCells (Kp.piece kind ++ Kp.piece word ++ (ins.take j).flatMap Kp.piece)) wr /\ Below W.heap.size W wr) (fun iv _ => ins.length - (intOf iv).toNat)
 case atStart => exact ⟨0,Nat.zero_le _,rfl,by simpa using HB3.out,G3⟩
 case round =>
  clear HB3 G3;obtain ⟨j,hj,rfl,hb,hB⟩ := hrel;have HB := hid1 hb;clear hb;have hfl := HFl.out j;rw [List.length_take] at hfl;have j0 : (0 : Int) <= (j : Int) := by omega
  by_cases hlt : j < ins.length
  ·have j1 : (j : Int) < (ins.length : Int) := by omega
   obtain ⟨g,o,rfl,hg,hc⟩ := HX.out (by intro e;rw [e] at hlt;simp at hlt)
   have d0 := (hB.cell (p := ⟨g,o + j,none⟩) hg).trans (hc j hlt);have HF := hid1 (HA.out wr _ ins[j] hB HB.out (by simp only [List.length_append];omega) (HH4.out _ (List.getElem_mem hlt)))
   have HT := hid1 (Kp.flat_take hlt);clear hc HX HA HB HS;generalize ins[j] = x at *;go_wp2_with fail;refine HF.out.mono ?_;rintro e w5 ⟨rfl,b5,g5⟩;have HB5 := hid1 b5;have G5 := hB.trans g5;clear HF b5 g5;go_wp2;refine ⟨⟨j + 1,by omega,by go_num,?_,G5⟩,by simp [intOf];omega⟩
   have := HB5.out;rw [HT.out];simpa using this
  ·have j1 : (ins.length : Int) <= (j : Int) := by omega
   obtain rfl : j = ins.length := by omega
   have hb : Lib.IsBuilderF 154 5 W.heap.size W.heap.size (Lib.byteCells (Kp.key kind word ins)) wr := by
    have := HB.out;rw [List.take_length] at this;exact this
   have HE := hid1 (HS.out wr _ hB.size hb);clear HB HX HA hb HS;go_wp2_with fail;refine HE.out.mono ?_;rintro e w5 ⟨rfl,-,g5,-⟩;have G5 := hB.trans g5;clear HE g5;go_wp2;go_ret;exact ⟨rfl,G5⟩
theorem Zyd {W : World} (hP : KPow W) : Zro W := fun V hV kind word v ins hx h1 h2 h3 h4 => Ztr hP hV kind word v ins hx (by omega) (by omega) (by omega) fun x hx => by have := h4 x hx;omega
end Go.Proofs.YtbgkfmodbofalaaGreatDoor
namespace Go.Proofs.YtbgkfmodbofalaaGreatDoor
open Go.ChangeShapes Go.WideShapes Go.ChangeAt Go.WideMaps Go.WideElems Go.RowKit
theorem big_of {W : World} (h : W.ShapedOpen Tryz.prog) : 20 < W.heap.size := by
 have h0 : (((begin Tryz.prog (fun _ _ => 0) default).world.heap[20]?).bind Obj.row?).isSome = true := by kernel_rfl
 obtain ⟨⟨zero,t⟩,hz⟩ := Option.isSome_iff_exists.1 h0;obtain ⟨cs,hh,_⟩ := h.1 20 zero t (of_decide_eq_true (by kernel_rfl)) hz
 exact (Array.getElem?_eq_some_iff.1 hh).1
end Go.Proofs.YtbgkfmodbofalaaGreatDoor
namespace Go.Proofs.YtbgkfmodbofalaaGreatDoor.EL
open Go.ChangeShapes Go.WideShapes Go.ChangeAt Go.WideMaps Go.WideElems Go.RowKit
abbrev sd (text : List UInt8) : DataW Unit := .iface "*errors.errorString" (.ptr (.agg [.lit (.string text)]))
theorem Zeo {W : World} (r : List (String × DataW Unit)) : ∀ (L : List (String × List UInt8 × Nat)) (ps : List MemPlace),
  DataW.LaidVars Tryz.prog W (L.map (fun x => (x.1,sd x.2.1)) ++ r) ps ->
  (∀ x ∈ L,Tryz.prog.globalNamed x.1 = some x.2.2 /\ (Tryz.prog.globals[x.2.2]?).map (·.type) = some 25) -> ps.Nodup ->
  (∀ b off,MemPlace.cell b off ∈ ps -> (∃ c t,W.heap[b]? = some (.cells c t (0,0))) /\ ∀ u v,W.cell? ⟨b,off,none⟩ = some (.iface u v) -> Value.okWide Tryz.prog W .any 0 u v) ->
  ∃ ads : List Addr,ads.length = L.length /\ ads.Nodup /\ (∀ a ∈ ads,MemPlace.cell a.block a.off ∈ ps) /\ ∀ (k : Nat) x a,L[k]? = some x -> ads[k]? = some a -> W.cell? ⟨x.2.2,0,none⟩ = some (.iface 407 (.pointer (some a)))
 | [],ps,_,_,_,_ => ⟨[],rfl,List.nodup_nil,by simp,by simp⟩
 | x :: L,ps,h,hg,hnd,hrows => by
  obtain ⟨g0,t0,cs0,f0,p0,q0,hg0,ht0,hv0,hd0,hq0,e0⟩ := h;obtain ⟨hgx,htx⟩ := hg x (by simp)
  obtain rfl := Option.some.inj (hgx.symm.trans hg0);obtain rfl := Option.some.inj (htx.symm.trans ht0);subst e0;obtain ⟨l0⟩ := cs0;have ok0 : ∀ u v,l0 = [.iface u v] -> Value.okWide Tryz.prog W .any 0 u v := fun u v e => by
   subst e;exact (hrows x.2.2 0 (by simp [MemPlace.row])).2 u v (by simpa using World.var?_cell hg0 hv0 0)
  obtain ⟨a0,s0,rfl,hc0,hs0,hz0,rfl⟩ := errorString_of_trod Tryz.underlying25 TL.rowES Tryz.underlying407 Tryz.underlying409 rfl rfl Tryz.underlying9 TL.cellsES TL.cellsStr hd0 ok0;obtain ⟨ads,hl,hn,hin,hc⟩ := Zeo r L q0 hq0 (fun y hy => hg y (by simp [hy])) (List.Nodup.sublist (List.sublist_append_right _ _) hnd) (fun b off hm => hrows b off (List.mem_append_right _ hm))
  refine ⟨a0 :: ads,by simp [hl],List.nodup_cons.2 ⟨fun hm => ?_,hn⟩,?_,?_⟩
  ·have h1 := hin a0 hm;rw [List.nodup_append] at hnd;exact hnd.2.2 _ (by simp [MemPlace.row]) _ h1 rfl
  ·intro a ha
   rcases List.mem_cons.1 ha with rfl | ha
   ·simp [MemPlace.row]
   ·exact List.mem_append_right _ (hin a ha)
  ·intro k y a hy ha
   cases k with
   | zero =>
    simp at hy ha;subst hy ha;simpa using World.var?_cell hg0 hv0 0
   | succ k => exact hc k y a (by simpa using hy) (by simpa using ha)
def textOf : DataW Unit -> List UInt8
 | .iface _ (.ptr (.agg [.lit (.string t)])) => t
 | _ => []
def g12 : List Nat := [0,4,1,7,8,2,9,10,11,3,6,5]
def sents (l : List (String × DataW Unit)) : List (String × List UInt8 × Nat) := (l.zip g12).map fun x => (x.1.1,textOf x.1.2,x.2)
def twelve : List (String × List UInt8 × Nat) := sents ((Rows.treeReadsRow.laid.drop 4).take 12)
theorem Zii : ∀ x ∈ twelve,Tryz.prog.globalNamed x.1 = some x.2.2 /\ (Tryz.prog.globals[x.2.2]?).map (·.type) = some 25 := by
 have h : (twelve.all fun x => Tryz.prog.globalNamed x.1 == some x.2.2 && (Tryz.prog.globals[x.2.2]?).map (·.type) == some 25) = true := by kernel_rfl
 intro x hx
 have := List.all_eq_true.1 h x hx;simpa using this
theorem Zrv : twelve.map (·.2.2) = g12 := by kernel_rfl
theorem et : Tryz.prog.globalNamed "errors.errorType" = some 12 := by kernel_rfl
theorem rt : (Tryz.prog.cutTypes.find? (·.1 == "internal/reflectlite.rtype")).map (·.2) = some 340 := by kernel_rfl
theorem oneRow : ((List.range 441).filter fun t => Tryz.prog.rowNamed t [101,114,114,111,114]) = [25] := by kernel_rfl
theorem Zuc : Tryz.prog.types.size = 441 := by kernel_rfl
theorem handle_of {W : World} {l : List (String × DataW Unit)} (h : handlesMet Tryz.prog l W) (hm : ("errors.errorType", Rows.laid_errors_errorType) ∈ l) :
  W.cell? ⟨12,0,none⟩ = some (.iface 340 (.agg #[.pointer (some ⟨21,25,none⟩)])) := by
 obtain ⟨name,u,ty,e1,e2,e3,e4,e5⟩ := h _ hm;have en : name = [101,114,114,111,114] := (Option.some.inj e1).symm;subst en;obtain rfl := Option.some.inj (rt.symm.trans e2);have hm : ty ∈ (List.range 441).filter fun t => Tryz.prog.rowNamed t [101,114,114,111,114] := List.mem_filter.2 ⟨List.mem_range.2 (by rw [<- Zuc];exact e3),e4⟩
 rw [oneRow] at hm;obtain rfl := List.mem_singleton.1 hm;have hh : typeHandle Tryz.prog 25 = .pointer (some ⟨21,25,none⟩) := by kernel_rfl
 rw [hh] at e5;simpa using World.var?_cell et e5 0
theorem e12_of {W : World} {r : List (String × DataW Unit)} (h : laidMet Tryz.prog (twelve.map (fun x => (x.1,sd x.2.1)) ++ r) W)
  (ht : W.cell? ⟨12,0,none⟩ = some (.iface 340 (.agg #[.pointer (some ⟨21,25,none⟩)]))) : ∃ es,E12 W es := by
 obtain ⟨ps,hv,hnd,hrows⟩ := h;obtain ⟨l,hl,hn,hin,hc⟩ := Zeo r twelve ps hv Zii hnd hrows;have h12 : l.length = 12 := by rw [hl];kernel_rfl
 have hcell : ∀ (k : Nat) (hk : k < 12),W.cell? ⟨g12.getD k 0,0,none⟩ = some (.iface 407 (.pointer (some (l.getD k ⟨0,0,none⟩)))) := by
  intro k hk
  have h1 : k < twelve.length := by rw [<- hl,h12];exact hk
  have h2 : k < l.length := by omega
  have := hc k twelve[k] l[k] (List.getElem?_eq_getElem h1) (List.getElem?_eq_getElem h2)
  have e : g12.getD k 0 = twelve[k].2.2 := by
   rw [<- Zrv,List.getD_eq_getElem?_getD,List.getElem?_map,List.getElem?_eq_getElem h1];rfl
  rw [e,List.getD_eq_getElem?_getD,List.getElem?_eq_getElem h2]
  exact this
 refine ⟨fun k => l.getD k ⟨0,0,none⟩,hcell 0 (by omega),hcell 1 (by omega),hcell 2 (by omega),hcell 3 (by omega),hcell 4 (by omega),hcell 5 (by omega),hcell 6 (by omega),hcell 7 (by omega),hcell 8 (by omega),hcell 9 (by omega),hcell 10 (by omega),hcell 11 (by omega),ht,?_,?_⟩
 ·intro k hk
  have h2 : k < l.length := by omega
  have : l.getD k ⟨0,0,none⟩ ∈ l := by
   rw [List.getD_eq_getElem?_getD,List.getElem?_eq_getElem h2];exact List.getElem_mem h2
  exact (hrows _ _ (hin _ this)).1
 ·intro j k hj hk hne e
  have h1 : j < l.length := by omega
  have h2 : k < l.length := by omega
  simp only [List.getD_eq_getElem?_getD,List.getElem?_eq_getElem h1,List.getElem?_eq_getElem h2,Option.getD_some] at e
  exact hne ((List.getElem_inj hn).1 e)
theorem laidMet_drop {P : Program} {W : World} {r : List (String × DataW Unit)} : ∀ l : List (String × DataW Unit),laidMet P (l ++ r) W -> laidMet P r W
 | [],h => h
 | _ :: l,h => laidMet_drop l h.tail
theorem laidMet_layAll {P : Program} {w0 : World} {laid : List (String × DataW Unit)} (args : Array Value)
  (hf : w0.layFits P laid [] = true) (hi : w0.layIfaces P laid (w0.layVars P laid) = true) :
  laidMet P laid ((w0.layVars P laid).forCall (fun _ _ => 0) ⟨#[],args,[]⟩).memory := by
 have e1 : (laid.filter fun x => (laid.map (·.1)).contains x.1) = laid := List.filter_eq_self.2 fun x hx => List.contains_iff_mem.2 (List.mem_map.2 ⟨x,hx,rfl⟩)
 have e2 : (laid.filter fun x => !(laid.map (·.1)).contains x.1) = [] := List.filter_eq_nil_iff.2 fun x hx => by rw [List.contains_iff_mem.2 (List.mem_map.2 ⟨x,hx,rfl⟩)];simp
 have h : laidMet P laid (w0.layVars P laid) := laidMet_layVars (w0 := w0) (laid.map (·.1)) [] (by rw [e1]) (by rw [e1];exact hf) (by rw [e1];exact hi) (by rw [e2];exact LaidIn.none)
 exact h.of_heap (by simp [World.memory,World.forCall,Input.heap])
end Go.Proofs.YtbgkfmodbofalaaGreatDoor.EL
