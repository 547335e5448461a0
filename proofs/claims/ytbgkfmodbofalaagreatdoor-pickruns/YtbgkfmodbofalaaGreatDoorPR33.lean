import Derived.Test.YtbgkfmodbofalaaGreatDoorPR29
import Derived.Deep.LoopGhost
set_option maxRecDepth 100000
set_option maxHeartbeats 16000000
namespace Go.Proofs.YtbgkfmodbofalaaGreatDoor
section
open Go.RowKit Go.Shelf Go.Lib Go.Maps
def vElem : Value -> Option (DataW Value × List MemPlace) := fun v => some (.held v,[])
def VMap (W : World) (b : Nat) (fd : List UInt8 -> Option Value) : Prop :=
 ∃ (D : DataW Value) (K : List (List UInt8)),W.ownsMap Tryz.prog 9 vElem b K.length D /\ Maps.size D = K.length /\ K.Nodup /\ (∀ x,has D (.string x) = (fd x).isSome) /\ (∀ x,x ∈ K ↔ (fd x).isSome = true) /\ ∀ x v z,fd x = some v -> D.atKey (.string x) z = .held v
theorem Zgr {w : World} {b n : Nat} {D : DataW Value} (h : w.ownsMap Tryz.prog 9 vElem b n D) : w.ownsMap Tryz.prog 9 vElem b (Maps.size D) D := by
 obtain ⟨es,clock,h1,F,_,hD⟩ := h;refine ⟨es,clock,h1,F,?_,hD⟩;rw [hD];simp [Maps.size,length_sorted]
theorem VMap.lt {W : World} {b : Nat} {fd : List UInt8 -> Option Value} (h : VMap W b fd) : b < W.heap.size := by
 obtain ⟨D,K,h1,_⟩ := h;exact h1.lt
theorem VMap.same {W W' : World} {b : Nat} {fd : List UInt8 -> Option Value} (h : VMap W b fd) (hb : W'.heap[b]? = W.heap[b]?) : VMap W' b fd := by
 obtain ⟨D,K,⟨es,clock,h1,F⟩,h2⟩ := h;exact ⟨D,K,⟨es,clock,hb.trans h1,F⟩,h2⟩
theorem VMap.below {W W' : World} {b : Nat} {fd : List UInt8 -> Option Value} (h : VMap W b fd) (hb : Below W.heap.size W W') : VMap W' b fd := h.same (hb.block b h.lt)
theorem VMap.made (W : World) : VMap (W.alloc (.map #[] 0)) W.heap.size (fun _ => none) :=
 ⟨.map [],[],World.ownsMap_made W _ _ _,rfl,List.nodup_nil,fun _ => rfl,fun x => by simp,fun x v z h => by cases h⟩
theorem VMap.congr {W : World} {b : Nat} {fd fd' : List UInt8 -> Option Value} (h : VMap W b fd) (he : ∀ x,fd' x = fd x) : VMap W b fd' := by
 have : fd' = fd := funext he;rw [this];exact h
theorem VMap.look {W : World} {b : Nat} {fd : List UInt8 -> Option Value} (h : VMap W b fd) {t e : TypeId} (ht : Tryz.prog.underlying t = some (.map 9 e)) {z : Value} (hz : (zeroValue e).run Tryz.prog W = .ok z W) (x : List UInt8) (hx : x.length <= 1000000) :
  (Instr.lookup t (.map (some b)) (.string (ba x)) true).run Tryz.prog W = .ok (.tuple #[(fd x).getD z,.bool (fd x).isSome]) W := by
 obtain ⟨D,K,h1,h2,h3,h4,h5,h6⟩ := h;obtain ⟨v,ps,hrun,hv⟩ := h1.look_ok (t := t) (e := e) claw ht (z := z) hz (zd := .held z) (zp := []) rfl (ckey x hx);have hv' : (DataW.held v : DataW Value) = D.atKey (.string x) (.held z) := by
  have : vElem v = some (.held v,[]) := rfl;rw [this] at hv;simpa using congrArg (fun o => o.map Prod.fst) hv
 rw [hrun,h4];have : v = (fd x).getD z := by
  cases hf : fd x with
  | some u =>
   rw [h6 x u _ hf] at hv';injection hv'
  | none =>
   have hh : has D (.string x) = false := by rw [h4,hf];rfl
   rw [atKey_of_not_has hh] at hv';injection hv'
 rw [this]
theorem VMap.laid {W : World} {b : Nat} {fd : List UInt8 -> Option Value} (h : VMap W b fd) {t e : TypeId} (ht : Tryz.prog.underlying t = some (.map 9 e)) (L : List (List UInt8)) (hL : ∀ x,(fd x).isSome = true -> x ∈ L) (hn : L.length <= 1000000) (x : List UInt8) (hx : x.length <= 1000000) (v : Value) :
  ∃ w1,(Instr.mapUpdate t (.map (some b)) (.string (ba x)) v).run Tryz.prog W = .ok () w1 /\ VMap w1 b (fun y => if y = x then some v else fd y) /\ W.mapTurned w1 b := by
 obtain ⟨D,K,h1,h2,h3,h4,h5,h6⟩ := h;have hK : K.length <= L.length := Cf.nodup_len h3 fun y hy => hL y ((h5 y).1 hy)
 obtain ⟨w1,hr,ho1,ht1⟩ := h1.store (t := t) (e := e) claw ht (by unfold maxLen;omega) (ckey x hx) (show vElem v = some (.held v,[]) from rfl)
 have hT := h1.tidy claw;have hk : WideAt.IsKeyLit (.string x) := by simp [WideAt.IsKeyLit]
 have hat : ∀ y u z,(if y = x then some v else fd y) = some u -> (D.put (.string x) (.held v)).atKey (.string y) z = .held u := fun y u z hy => by
  by_cases e : y = x
  ·subst e;rw [if_pos rfl] at hy;cases hy
   rw [atKey_put_same hT.isMap hk]
  ·rw [if_neg e] at hy;rw [atKey_put_other (by simpa using e),h6 y u z hy]
 have hhas : ∀ y,has (D.put (.string x) (.held v)) (.string y) = (if y = x then some v else fd y).isSome := fun y => by
  by_cases e : y = x
  ·subst e;rw [if_pos rfl,has_put_same hT.isMap hk];rfl
  ·rw [if_neg e,has_put_other (by simpa using e),h4]
 have hsz := size_put (k := .string x) (d := .held v) hT;rw [h4,h2] at hsz;refine ⟨w1,hr,?_,ht1⟩;cases hf : (fd x).isSome with
 | true =>
  rw [hf] at hsz;have hsz' : Maps.size (D.put (.string x) (.held v)) = K.length := by simpa using hsz
  refine ⟨_,K,hsz' ▸ Zgr ho1,hsz',h3,hhas,fun y => ?_,hat⟩
  show _ ↔ (if y = x then some v else fd y).isSome = true
  by_cases e : y = x
  ·subst e;rw [if_pos rfl,h5,hf];simp
  ·rw [if_neg e,h5]
 | false =>
  rw [hf] at hsz;have hsz' : Maps.size (D.put (.string x) (.held v)) = (x :: K).length := by simpa using hsz
  refine ⟨_,x :: K,hsz' ▸ Zgr ho1,hsz',List.nodup_cons.2 ⟨fun hx => ?_,h3⟩,hhas,fun y => ?_,hat⟩
  ·rw [h5,hf] at hx;cases hx
  ·show _ ↔ (if y = x then some v else fd y).isSome = true
   by_cases e : y = x
   ·subst e;simp
   ·rw [if_neg e,<- h5];simp [e]
structure AskL where
 (rc tc dc kc rm dm : Nat)
abbrev AskL.caps (L : AskL) : Array Value := #[Ptr L.rc,Ptr L.tc,Ptr L.dc,Ptr L.kc]
abbrev AskL.fn (L : AskL) : Value := .func (.func 194) #[] L.caps
theorem Zms {l : List Nat} (h : l.Nodup) {i j : Nat} (hi : i < l.length) (hj : j < l.length) (e : l[i] = l[j]) : i = j := by
 have hp := List.pairwise_iff_getElem.1 h;rcases Nat.lt_trichotomy i j with h1 | h1 | h1
 ·exact absurd e (hp i j hi hj h1)
 ·exact h1
 ·exact absurd e.symm (hp j i hj hi h1)
abbrev ruOf (l : List Ru) (k : Nat) : Ru := l.getD k ⟨[],[],[],[]⟩
theorem Zki {es : Nat -> Addr} {W0 : World} {Bt tb : Nat} {fs : Tf.Fs} {o : Option Nat} (hT : TreeAt Bt W0 tb fs o) (lv : Value) (l : List Ru) (hrow : RRow W0 lv l) (hl : l.length <= 40) (hS : ∀ x ∈ l,x.Small) (hA : Ru.Apart l) (ov : Value) (ord : List Nat) (hord : NIRow W0 ov ord) (ht : Ru.Topo l ord) (hnd : ord.Nodup) (hol : ∀ i ∈ ord,i < l.length) :
  Calls Tryz.prog 127 #[Ptr tb,lv,ov] W0 fun e w' => ∃ bm mb L,e = .returned (.map (some bm)) /\ OfS es W0 l fs (ruOf l) bm mb ord L w' := by
 have hlen : ord.length <= l.length := len_le hnd hol;have hmm := @run_makeMap Tryz.prog;have HT := hid1 hT;have HS := hid1 hS;have HA := hid1 hA;have HTo := hid1 ht;have HNd := hid1 hnd;have HOl := hid1 hol;have hru : ∀ k (hk : k < l.length),ruOf l k = l[k] := fun k hk => by simp [ruOf,hk]
 have HRu := hid1 hru;obtain ⟨po,co,rfl,hoc⟩ := hord;obtain ⟨pl,cl,rfl,hcl,hnl,hlc⟩ := hrow;have HOc := hid1 hoc;have HLc := hid1 hlc;have zo : (ord.length : Int) <= 1000 := by omega
 have zl : (l.length : Int) <= 1000 := by omega
 have HS0 := hid1 (OfS.start es W0 l fs (ruOf l) ⟨fun _ => 0,fun _ => .slice none 0 0,fun _ => .slice none 0 0,fun _ => []⟩)
 clear hT hS hA ht hnd hol hoc hlc hru hnl hcl;go_enter Tryz.func127,Tryz.ntmps127
 go_wp2;go_loopw [16] (fun iv wr => ∃ (m : Nat) (L : Lay),m <= ord.length /\ iv = .int .i64 m /\ OfS es W0 l fs (ruOf l) W0.heap.size (W0.heap.size + 1) (ord.take m) L wr) (fun iv _ => ord.length - (intOf iv).toNat)
 case atStart => exact ⟨0,_,Nat.zero_le _,rfl,HS0.out⟩
 case round =>
  clear HS0;obtain ⟨m,L,hm,rfl,hN⟩ := hrel;have HN := hid1 hN;clear hN;have m0 : (0 : Int) <= (m : Int) := by omega
  by_cases hlt : m < ord.length
  ·have m1 : (m : Int) < (ord.length : Int) := by omega
   obtain ⟨g1,o1,rfl,hg1,hc1⟩ := HOc.out (by intro e;rw [e] at hlt;simp at hlt)
   have d0 := (HN.out.made.base.cell (p := ⟨g1,o1 + m,none⟩) hg1).trans (hc1 m hlt);have hil : ord[m] < l.length := HOl.out _ (List.getElem_mem hlt);have hnot : ord[m] ∉ ord.take m := fun e => by
    obtain ⟨j,hj,ej⟩ := List.mem_take_iff_getElem.1 e;have := Zms HNd.out _ _ ej;omega
   have htk : ord.take (m + 1) = ord.take m ++ [ord[m]] := List.take_succ_eq_append_getElem hlt;have HTk := hid1 htk;have HTm := hid1 fun k (hn : Ru.needs l ord[m] k = true) => HTo.out m hlt k hn
   have HBk : Hid (∀ k ∈ ord.take m,k < l.length /\ Ru.needs l k ord[m] = false) := hid1 fun k hk => by
    obtain ⟨j,hj,ej⟩ := List.mem_take_iff_getElem.1 hk;refine ⟨HOl.out k (List.mem_of_mem_take hk),?_⟩;rw [Bool.eq_false_iff];intro hn
    rw [<- ej] at hn;have h1 := HTo.out j (by omega) _ hn
    obtain ⟨j',hj',ej'⟩ := List.mem_take_iff_getElem.1 h1;have := Zms HNd.out _ _ ej';omega
   have hself : Ru.needs l ord[m] ord[m] = false := by
    rw [Bool.eq_false_iff];intro hn
    exact hnot (HTo.out m hlt _ hn)
   have hdl : (ord.take m).length = m := by simp;omega
   clear hc1 htk;generalize ord[m] = i at *;have i0 : (0 : Int) <= (i : Int) := by omega
   have i1 : (i : Int) < (l.length : Int) := by omega
   obtain ⟨g2,o2,rfl,hg2,hc2⟩ := HLc.out (by intro e;rw [e] at hil;simp at hil)
   obtain ⟨b0,b1,b2,u,b3,hu⟩ := hc2 i hil;have hb := HN.out.made.base;have c0 := Zaa b0 hb;have c1 := Zaa b1 hb;have c2 := Zaa b2 hb;have c3 := Zaa b3 hb;have hsm := HS.out _ (List.getElem_mem hil)
   have HNw := Zku (es := es) (i := i) HN.out.made hnot HT.out u (by rw [HRu.out i hil];exact hu) (by rw [HRu.out i hil];exact hsm.many) (by rw [HRu.out i hil];exact fun x hx => by have := hsm.ins x hx;omega) HN.out.mmap (inpOf l fs) (by
    rw [HRu.out i hil];intro x hx
    unfold inpOf mkD;cases hmk : Bf.mkr l x with
    | some k =>
     obtain ⟨hk,e1,_⟩ := Ru.mkr_some (show Ru.mkr l x = some k from hmk)
     have hin := HTm.out k (by rw [Ru.needs_eq hil hk,e1];simpa using hx)
     exact .inl ⟨k,rfl,hin,by simp only;rw [if_pos hin]⟩
    | none =>
     cases hg : Tf.get fs x with
     | some b => exact .inr (.inl ⟨rfl,b,rfl,rfl⟩)
     | none => exact .inr (.inr ⟨rfl,rfl,rfl⟩)) (fun k hk => by have := HN.out.usl k hk;omega)
   have HNx := hid1 fun w2 sb L' hN2 => HN.out.next (w2 := w2) (sb := sb) (L' := L') HRu.out HA.out hil hnot (by have := hsm.out;omega) hsm.many (by omega) hself HBk.out (by omega) hN2
   rw [HRu.out i hil] at HNw HNx;have HNw := hid1 HNw;obtain ⟨pu,cu,rfl,-⟩ := hu;have HB0 := hid1 b0;have HG2 := hid1 hg2;clear hsm hb hc2 b0 b1 b2 b3 HLc HOc HN hnot hself HBk HTm hdl;generalize hri : l[i] = r at *;clear hri;go_wp2_with fail;refine HNw.out.mono ?_;rintro e w2 ⟨sb,L',rfl,hsb,hN2⟩;obtain ⟨w3,r3,b3,w4,r4,hN4⟩ := HNx.out w2 sb L' hN2;have HN4 := hid1 hN4
   have e0 := Zaa HB0.out b3;clear HNw HNx hN2 hN4 b3;go_wp2;exact ⟨⟨m + 1,_,by omega,by go_num,by rw [HTk.out];exact HN4.out⟩,by simp [intOf];omega⟩
  ·have m1 : (ord.length : Int) <= (m : Int) := by omega
   have HN2 : Hid (OfS es W0 l fs (ruOf l) W0.heap.size (W0.heap.size + 1) ord L wr) := hid1 (by
    have := HN.out;rwa [List.take_of_length_le (by omega)] at this)
   clear HN HLc HOc;go_wp2;go_ret;exact ⟨_,_,L,rfl,HN2.out⟩
namespace Bf
theorem go_no (act : Act) (c : Ca) (d : Bd) {i : Nat} (hr : d.isReady i = true) (k : Nat) : ((go act c d i).d.st k).isNo = (d.st k).isNo := by
 have hw := ready_waits hr;have hset : ∀ s : St,s.isNo = false -> ((d.set i s).st k).isNo = (d.st k).isNo := fun s hs => by
  show (setS d.st i s k).isNo = _
  by_cases e : k = i
  ·rw [e,setS_same,hw,hs];rfl
  ·rw [setS_other e]
 have hfail : ∀ e,((d.fail i e).st k).isNo = (d.st k).isNo := fun e => by
  show (Bf.spread d.l (setS d.st i (.failed e)) k).isNo = _
  rw [Zmd];by_cases e' : k = i
  ·rw [e',setS_same,hw];rfl
  ·rw [setS_other e']
 unfold go;split
 ·exact hfail _
 ·split
  ·exact hset _ rfl
  ·split
   ·exact hset _ rfl
   ·exact hfail _
theorem go_hit (act : Act) (c : Ca) (d : Bd) {i : Nat} (hr : d.isReady i = true) : (go act c d i).hit = (((go act c d i).d.st i).num == 2) /\ (go act c d i).code = 0 := by
 have hw := ready_waits hr;have hset : ∀ s : St,(d.set i s).st i = s := fun s => setS_same _ _ _
 have hfail : ∀ e,(d.fail i e).st i = .failed e := fun e => by
  show Bf.spread d.l (setS d.st i (.failed e)) i = _
  rw [Zbb (by rw [setS_same];rfl),setS_same]
 unfold go;split
 ·simp only [hfail];exact ⟨rfl,trivial⟩
 ·split
  ·simp only [hset];exact ⟨rfl,trivial⟩
  ·split
   ·simp only [hset];exact ⟨rfl,trivial⟩
   ·simp only [hfail];exact ⟨rfl,trivial⟩
end Bf
theorem BuM.turn {es : Nat -> Addr} {W W' : World} {bb bm n : Nat} {L : Lay} {cv : Value} {d d' : Bf.Bd} (h : BuM es W bb bm n L cv d) (hl : d'.l = d.l) (hf : d'.fs = d.fs) (hno : ∀ k,(d'.st k).isNo = (d.st k).isNo) (hI : Bf.Inv d') (c0 : W'.cell? ⟨bb,0,none⟩ = some (.map (some bm))) (c1 : W'.cell? ⟨bb,1,none⟩ = some cv) (hm : SMap W' bm n d.dom L.sp) (hS : Steps W' es d.dom L d.rule (insOf d) d'.st) : BuM es W' bb bm n L cv d' := by
 obtain ⟨fs,l,st⟩ := d;obtain ⟨fs',l',st'⟩ := d';simp only at hl hf;subst hl hf;have hd : Bf.Bd.dom ⟨fs',l',st'⟩ = Bf.Bd.dom ⟨fs',l',st⟩ := by
  funext k
  unfold Bf.Bd.dom Bf.Bd.dm;simp only [hno k]
 refine ⟨c0,c1,by rw [hd];exact hm,by rw [hd];exact hS,fun i hi k => ?_,fun i hi => ?_,hI,h.apart,fun i hi => ?_⟩
 ·rw [h.us i (by rw [<- hno i];exact hi) k,hno k]
 ·rw [hd] at hi;exact h.usl i hi
 ·rw [hd] at hi;exact h.few i hi
theorem BuM.far {es : Nat -> Addr} {W : World} {bb bm n : Nat} {L : Lay} {cv : Value} {d : Bf.Bd} (h : BuM es W bb bm n L cv d) : ¬ PBlk d.dom L bb /\ ¬ PBlk d.dom L bm := by
 constructor
 ·rintro ⟨i,hi,e⟩;have c0 := (h.steps.at hi).c0;have := h.c0;rw [e,c0] at this;cases this
 ·rintro ⟨i,hi,e⟩;have r := h.steps.step i hi;obtain ⟨D,⟨es',clock,h1,_⟩,_⟩ := h.map;rw [e,r] at h1;cases h1
theorem BuM.ran {es : Nat -> Addr} {W w' : World} {bb bm n : Nat} {L : Lay} {cv : Value} {d : Bf.Bd} {c : Bf.Ca} {SC : Nat -> Prop} {i : Nat} (h : BuM es W bb bm n L cv d) (hi : d.dom i) (hr : d.isReady i = true) (hap : ∀ j,BBlk bb bm d L j -> ¬ SC j) (hP : RunPost es L d (Bf.go Af.actO c d i).d (Bf.go Af.actO c d i).c SC W cv w') :
  BuM es w' bb bm n L cv (Bf.go Af.actO c d i).d /\ Only (fun j => BBlk bb bm d L j \/ SC j) W w' /\ ∃ SC',CaAt CAt SC' w' cv (Bf.go Af.actO c d i).c /\ ∀ j,SC' j -> SC j \/ W.heap.size <= j := by
 obtain ⟨hS,hO,hC⟩ := hP;obtain ⟨f1,f2⟩ := h.far;have b1 : w'.heap[bb]? = W.heap[bb]? := hO.block bb (h.lt bb (.inl rfl)) fun e => e.elim f1 (hap bb (.inl rfl))
 have b2 : w'.heap[bm]? = W.heap[bm]? := hO.block bm (h.lt bm (.inr (.inl rfl))) fun e => e.elim f2 (hap bm (.inr (.inl rfl)))
 have hgl := Bf.go_less Af.actO c d i (h.lo hi) hr;refine ⟨h.turn hgl.2.1 hgl.2.2 (Bf.go_no Af.actO c d hr) (h.inv.go Af.actO c hr) ((World.cell?_of_block (a := ⟨bb,0,none⟩) b1).trans h.c0) ((World.cell?_of_block (a := ⟨bb,1,none⟩) b1).trans h.c1) (h.map.same b2) hS,⟨hO.os,hO.tape,hO.output,hO.size,fun j hj hn => hO.block j hj fun e => hn (e.imp_left fun e => .inr (.inr e.s))⟩,hC⟩
def RunsPost (es : Nat -> Addr) (bb bm n : Nat) (L : Lay) (d d' : Bf.Bd) (c' : Bf.Ca) (SC : Nat -> Prop) (W : World) (cv : Value) (w' : World) : Prop :=
 BuM es w' bb bm n L cv d' /\ Only (fun j => BBlk bb bm d L j \/ SC j) W w' /\ ∃ SC',CaAt CAt SC' w' cv c' /\ ∀ j,SC' j -> SC j \/ W.heap.size <= j
theorem RunsPost.still {es : Nat -> Addr} {bb bm n : Nat} {L : Lay} {d : Bf.Bd} {c : Bf.Ca} {SC : Nat -> Prop} {W w' : World} {cv : Value} (h : BuM es W bb bm n L cv d) (hC : CaAt CAt SC W cv c) (hb : Below W.heap.size W w') : RunsPost es bb bm n L d d c SC W cv w' :=
 ⟨h.below hb,Only.of hb,SC,hC.below hb,fun _ h => .inl h⟩
theorem Zhy {es : Nat -> Addr} {W : World} {bb bm n B : Nat} {L : Lay} {cv : Value} {d : Bf.Bd} {c : Bf.Ca} {SC : Nat -> Prop} (hM : BuM es W bb bm n L cv d) (hC : CaAt CAt SC W cv c) (hap : ∀ j,BBlk bb bm d L j -> ¬ SC j) (hW : BuildB B W es) (hSC : ∀ j,SC j -> B <= j) (hS : ∀ x ∈ d.l,x.Small) (hfit : Bf.Fit d) (hcf : Bf.CFit c) (i : Int) (h0 : -9223372036854775808 <= i) (h1 : i <= 9223372036854775807) :
  Calls Tryz.prog 63 #[Ptr bb,.int .i64 i] W fun e w' => e = .returned (.tuple #[.bool (Bf.run Af.actO c d i).hit,erOf es (Bf.run Af.actO c d i).code]) /\ RunsPost es bb bm n L d (Bf.run Af.actO c d i).d (Bf.run Af.actO c d i).c SC W cv w' := by
 have HA := hid1 (Zby hM.c0);have eN := hW.w.none;have eT := hW.w.turn;have eD := hW.w.done;have HSt := hid1 fun V (g : Below W.heap.size W V) => RunsPost.still (hM) hC g
 rcases hM.look i h0 h1 with ⟨e0,hl⟩ | ⟨k,rfl,hk,hkl,e0,hl⟩
 ·have er : Bf.run Af.actO c d i = ⟨false,6,d,c⟩ := by
   unfold Bf.run;split
   ·rfl
   ·rename_i h2
    unfold Bf.Bd.at at e0;rw [if_neg h2] at e0;unfold Bf.runN;rw [e0];rfl
  rw [er];clear hM hC hap hW hSC hS hfit hcf e0 er;go_enter Tryz.func63,Tryz.ntmps63
  go_wp2_with fail;refine HA.out.mono ?_;rintro e w1 ⟨rfl,rfl⟩;clear HA;go_wp2;go_region;go_wp2;go_ret2;exact ⟨rfl,HSt.out _ ((Below.refl _ _).drew)⟩
 ·have hno := Bf.Bd.dom_no hk;have hA := hM.steps.at hk;have c4 := hA.c4;have hnw := Bf.St.num_waits hno;have e1 : Bf.run Af.actO c d (k : Nat) = Bf.runN Af.actO c d k := by
   unfold Bf.run;rw [if_neg (by omega),Int.toNat_natCast]
  have e2 : Bf.runN Af.actO c d k = if (d.st k).isWaits = false then ⟨false,12,d,c⟩ else if d.isReady k = false then ⟨false,11,d,c⟩ else Bf.go Af.actO c d k := by
   unfold Bf.runN;rw [if_neg (by rw [hno];simp)]
  rw [e1,e2];cases hwt : (d.st k).isWaits with
  | false =>
   rw [if_pos rfl];rw [hwt] at hnw;have z : (((d.st k).num : Int) == 0) = false := by
    have : (d.st k).num ≠ 0 := fun e => by rw [e] at hnw;cases hnw
    simp;omega
   clear hM hC hap hW hSC hS hfit hcf e0 e1 e2 hnw hwt hA hno;generalize (d.st k).num = m at *;go_enter Tryz.func63,Tryz.ntmps63
   go_wp2_with fail;refine HA.out.mono ?_;rintro e w1 ⟨rfl,rfl⟩;clear HA;go_wp2;go_region;go_wp2;go_ret2;exact ⟨rfl,HSt.out _ ((Below.refl _ _).drew)⟩
  | true =>
   rw [if_neg (by simp)]
   rw [hwt] at hnw;have z : (d.st k).num = 0 := by simpa using hnw.symm
   rw [z] at c4;have HRd := Zel hM.steps k hk hno (hM.few k hk);rw [hM.isReady hk] at HRd;have HRd := hid1 HRd;cases hrd : d.isReady k with
   | false =>
    rw [if_pos rfl];rw [hrd] at HRd;clear hM hC hap hW hSC hS hfit hcf e0 e1 e2 hnw hwt hA hno z hrd;go_enter Tryz.func63,Tryz.ntmps63
    go_wp2_with fail;refine HA.out.mono ?_;rintro e w1 ⟨rfl,rfl⟩;clear HA;go_wp2_with fail;refine HRd.out.mono ?_;rintro e w2 ⟨rfl,g2⟩;have eT2 := Zaa eT g2;clear HRd;go_wp2;go_region;go_wp2;go_ret2;exact ⟨rfl,HSt.out _ g2.drew⟩
   | true =>
    rw [if_neg (by simp)]
    rw [hrd] at HRd;have hr : (d.rule k) ∈ d.l := by unfold Bf.Bd.rule;simp [hkl]
    have hsm := hS _ hr;have HGo := hid1 fun V (g : Below W.heap.size W V) => Zop (hM.below g) hk hrd (hC.below g) (fun j hj => hap j (.inr (.inr hj))) (hW.below g) hSC hfit hcf (by have := hsm.kind;omega) (by have := hsm.word;omega) hsm.many
    have HFin := hid1 fun V w' (g : Below W.heap.size W V) hP => (hM.below g).ran hk hrd hap (w' := w') (c := c) hP
    obtain ⟨hh1,hh2⟩ := Bf.go_hit Af.actO c d hrd;have HC1 := hid1 fun V (g : Below W.heap.size W V) => (hM.below g).c1
    obtain ⟨oc,rfl⟩ := hC.ptr;rw [hh1,hh2];clear hM hC hap hW hSC hS hfit hcf e0 e1 e2 hnw hwt hA hno z hr hsm hh1 hh2;generalize Bf.go Af.actO c d k = G at *;go_enter Tryz.func63,Tryz.ntmps63
    go_wp2_with fail;refine HA.out.mono ?_;rintro e w1 ⟨rfl,rfl⟩;clear HA;go_wp2_with fail;refine HRd.out.mono ?_;rintro e w2 ⟨rfl,g2⟩;have c1 := HC1.out w2 g2;have HGo2 := hid1 (HGo.out w2 g2);clear HRd HGo;go_wp2_with fail;refine HGo2.out.mono ?_;rintro e w3 ⟨rfl,hP⟩;obtain ⟨p1,p2,SC',p3,p4⟩ := HFin.out w2 w3 g2 hP;have hz2 := g2.size
    have HPo : Hid (RunsPost es bb bm n L d G.d G.c SC w1 (.pointer oc) w3) := hid1 ⟨p1,(Only.of g2).trans p2 fun j hj => .inl hj,SC',p3,fun j hj => (p4 j hj).imp_right fun h => Nat.le_trans hz2 h⟩
    have d4 := (hP.1.at hk).c4;have z2 : (((G.d.st k).num : Int) == 2) = ((G.d.st k).num == 2) := by
     rw [Bool.eq_iff_iff];simp
     omega
    clear HGo2 HFin p1 p2 p3 p4 hP;generalize hgm : (G.d.st k).num = m at *;have HGm := hid1 hgm;clear hgm;go_wp2;go_ret2;exact ⟨by rw [HGm.out];rfl,HPo.out⟩
end
section
open Go.RowKit Go.Shelf Go.Lib Go.Maps
theorem dom_go (c : Bf.Ca) (d : Bf.Bd) {i : Nat} (hr : d.isReady i = true) : (Bf.go Af.actO c d i).d.dom = d.dom := by
 funext k
 unfold Bf.Bd.dom Bf.Bd.dm;simp only [Bf.go_no Af.actO c d hr k]
structure AllS (es : Nat -> Addr) (bb bm n : Nat) (L : Lay) (cv : Value) (d : Bf.Bd) (c : Bf.Ca) (SC : Nat -> Prop) (W1 : World) (r : Nat) (d' : Bf.Bd) (c' : Bf.Ca) (SC' : Nat -> Prop) (wr : World) : Prop where
 l : d'.l = d.l
 dom : d'.dom = d.dom
 all : Bf.all Af.actO c d = Bf.all Af.actO c' d'
 fit : Bf.Fit d'
 cfit : Bf.CFit c'
 m : BuM es wr bb bm n L cv d'
 ca : CaAt CAt SC' wr cv c'
 sc : ∀ j,SC' j -> SC j \/ W1.heap.size <= j
 only : Only (fun j => BBlk bb bm d L j \/ SC j) W1 wr
 row : wr.heap[r]? = some (.cells #[.int .i64 0,.int .i64 0,.int .i64 0,.int .i64 0] 106)
theorem AllS.below {es : Nat -> Addr} {bb bm n : Nat} {L : Lay} {cv : Value} {d : Bf.Bd} {c : Bf.Ca} {SC : Nat -> Prop} {W1 : World} {r : Nat} {d' : Bf.Bd} {c' : Bf.Ca} {SC' : Nat -> Prop} {wr w' : World} (h : AllS es bb bm n L cv d c SC W1 r d' c' SC' wr) (hb : Below wr.heap.size wr w') : AllS es bb bm n L cv d c SC W1 r d' c' SC' w' :=
 ⟨h.l,h.dom,h.all,h.fit,h.cfit,h.m.below hb,h.ca.below hb,h.sc,h.only.trans (Only.of hb) fun _ hj => .inl hj,(hb.block r (Array.getElem?_eq_some_iff.1 h.row).1).trans h.row⟩
theorem AllS.blk {es : Nat -> Addr} {bb bm n : Nat} {L : Lay} {cv : Value} {d : Bf.Bd} {c : Bf.Ca} {SC : Nat -> Prop} {W1 : World} {r : Nat} {d' : Bf.Bd} {c' : Bf.Ca} {SC' : Nat -> Prop} {wr : World} (h : AllS es bb bm n L cv d c SC W1 r d' c' SC' wr) (j : Nat) : BBlk bb bm d' L j ↔ BBlk bb bm d L j := by
 unfold BBlk;rw [h.dom]
theorem AllS.next {es : Nat -> Addr} {bb bm n : Nat} {L : Lay} {cv : Value} {d : Bf.Bd} {c : Bf.Ca} {SC : Nat -> Prop} {W1 : World} {r : Nat} {d' : Bf.Bd} {c' : Bf.Ca} {SC' : Nat -> Prop} {wr w' : World} (h : AllS es bb bm n L cv d c SC W1 r d' c' SC' wr) (hlt : ∀ j,BBlk bb bm d L j -> j < r) (hSC : ∀ j,SC j -> j < r) (hr1 : r < W1.heap.size) {i : Nat} {q : List Nat} (hq : d'.ready = i :: q) (hP : RunsPost es bb bm n L d' (Bf.go Af.actO c' d' i).d (Bf.go Af.actO c' d' i).c SC' wr cv w') :
  ∃ SC'',AllS es bb bm n L cv d c SC W1 r (Bf.go Af.actO c' d' i).d (Bf.go Af.actO c' d' i).c SC'' w' := by
 obtain ⟨p1,p2,SC'',p3,p4⟩ := hP;have hm := Bf.mem_ready.1 (show i ∈ d'.ready by rw [hq];simp)
 have hgl := Bf.go_less Af.actO c' d' i hm.1 hm.2;have hgf := Bf.go_fit (act := Af.actO) actFit (c := c') (d := d') h.cfit h.fit i;have hz := h.only.size;have hne : ∀ j,BBlk bb bm d' L j \/ SC' j -> j ≠ r := fun j hj e => by
  rcases hj with h1 | h1
  ·have := hlt j ((h.blk j).1 h1);omega
  ·rcases h.sc j h1 with h2 | h2
   ·have := hSC j h2;omega
   ·omega
 refine ⟨SC'',hgl.2.1.trans h.l,(dom_go c' d' hm.2).trans h.dom,h.all.trans (Bf.all_cons Af.actO c' d' hq),hgf.1,hgf.2,p1,p3,fun j hj => ?_,?_,?_⟩
 ·rcases p4 j hj with h1 | h1
  ·exact h.sc j h1
  ·exact .inr (by omega)
 ·refine h.only.trans p2 fun j hj => ?_
  rcases hj with h1 | h1
  ·exact .inl (.inl ((h.blk j).1 h1))
  ·exact (h.sc j h1).imp_left .inr
 ·exact (p2.block r (Array.getElem?_eq_some_iff.1 h.row).1 fun e => hne r e rfl).trans h.row
theorem AllS.done {es : Nat -> Addr} {bb bm n : Nat} {L : Lay} {cv : Value} {d : Bf.Bd} {c : Bf.Ca} {SC : Nat -> Prop} {W W1 : World} {d' : Bf.Bd} {c' : Bf.Ca} {SC' : Nat -> Prop} {wr : World} (h : AllS es bb bm n L cv d c SC W1 W.heap.size d' c' SC' wr) (hlt : ∀ j,BBlk bb bm d L j -> j < W.heap.size) (hSC : ∀ j,SC j -> j < W.heap.size) (hr1 : W1.heap.size = W.heap.size + 1) (gA : Below W.heap.size W W1) (hq : d'.ready = []) (x0 x1 x2 x3 : Value) :
  RunsPost es bb bm n L d (Bf.all Af.actO c d).1 (Bf.all Af.actO c d).2 SC W cv ((((wr.setCell ⟨W.heap.size,0,none⟩ x0).setCell ⟨W.heap.size,1,none⟩ x1).setCell ⟨W.heap.size,2,none⟩ x2).setCell ⟨W.heap.size,3,none⟩ x3) := by
 have hs : ∀ j,j ≠ W.heap.size -> ((((wr.setCell ⟨W.heap.size,0,none⟩ x0).setCell ⟨W.heap.size,1,none⟩ x1).setCell ⟨W.heap.size,2,none⟩ x2).setCell ⟨W.heap.size,3,none⟩ x3).heap[j]? = wr.heap[j]? := fun j hj => by
  rw [Below.heap_setCell _ _ _ j hj,Below.heap_setCell _ _ _ j hj,Below.heap_setCell _ _ _ j hj,Below.heap_setCell _ _ _ j hj]
 have hz := h.only.size;rw [h.all,Bf.all_nil Af.actO c' d' hq];refine ⟨h.m.same fun j hj => hs j fun e => ?_,⟨?_,?_,?_,?_,fun j hj hn => ?_⟩,SC',h.ca.same (by simp) fun j hj => hs j fun e => ?_,fun j hj => ?_⟩
 ·have := hlt j ((h.blk j).1 hj);omega
 ·exact h.only.os.trans gA.os
 ·exact h.only.tape.trans gA.tape
 ·exact h.only.output.trans gA.output
 ·simp
  omega
 ·rw [hs j (by omega),h.only.block j (by omega) hn]
  exact gA.block j hj
 ·rcases h.sc j hj with h2 | h2
  ·have := hSC j h2;omega
  ·omega
 ·exact (h.sc j hj).imp_right fun h2 => by omega
theorem Zqf {es : Nat -> Addr} {W : World} {bb bm n B : Nat} {L : Lay} {cv : Value} {d : Bf.Bd} {c : Bf.Ca} {SC : Nat -> Prop} (hM : BuM es W bb bm n L cv d) (hC : CaAt CAt SC W cv c) (hap : ∀ j,BBlk bb bm d L j -> ¬ SC j) (hW : BuildB B W es) (hSB : ∀ j,BBlk bb bm d L j -> B <= j) (hSC : ∀ j,SC j -> B <= j) (hS : ∀ x ∈ d.l,x.Small) (hl : d.l.length <= 1000) (hfit : Bf.Fit d) (hcf : Bf.CFit c) :
  Calls Tryz.prog 64 #[Ptr bb] W fun e w' => e = .returned (.agg #[.int .i64 ((Bf.all Af.actO c d).1.ran : Nat),.int .i64 ((Bf.all Af.actO c d).1.hits : Nat),.int .i64 ((Bf.all Af.actO c d).1.fails : Nat),.int .i64 ((Bf.all Af.actO c d).1.lefts : Nat)]) /\ RunsPost es bb bm n L d (Bf.all Af.actO c d).1 (Bf.all Af.actO c d).2 SC W cv w' := by
 obtain ⟨W1,hW1⟩ : ∃ W1,W1 = W.alloc (.cells #[.int .i64 0,.int .i64 0,.int .i64 0,.int .i64 0] 106) := ⟨_,rfl⟩
 have hz1 : W1.heap.size = W.heap.size + 1 := by rw [hW1];simp
 have gA : Below W.heap.size W W1 := by rw [hW1];exact (Below.refl _ W).alloc (Nat.le_refl _) _
 have hr1 : W1.heap[W.heap.size]? = some (.cells #[.int .i64 0,.int .i64 0,.int .i64 0,.int .i64 0] 106) := by rw [hW1];exact Zck _ _
 have HA0 : Hid (AllS es bb bm n L cv d c SC W1 W.heap.size d c SC W1) := hid1 ⟨rfl,rfl,rfl,hfit,hcf,hM.below gA,hC.below gA,fun j hj => .inl hj,Only.refl _ _,hr1⟩
 have HLt := hid1 hM.lt;have HCl := hid1 hC.lt;have HAp := hid1 hap;have HSC := hid1 hSC;have HSB := hid1 hSB;have HW1 := hid1 (hW.below gA);have HBl := hid1 hW.le;have HSm := hid1 hS;have HGA := hid1 gA;have HRd0 := hid1 (Zcp (hM.below gA) hl);have HE1 := hid1 hW1;clear hM hC hap hW hSC hS hfit hcf hr1 gA;go_enter Tryz.func64,Tryz.ntmps64
 rw [hW1] at HRd0;go_wp2_with fail;refine HRd0.out.mono ?_;rintro e w2 ⟨u0,rfl,hu0,g2⟩;rw [<- hW1] at g2;have HU0 := hid1 hu0;have HA2 := hid1 (HA0.out.below g2);obtain ⟨p0,k0,e0,-⟩ := hu0;subst e0;have HUX := HU0;clear HRd0 HA0 g2 HU0;go_wp2
 go_loopg [3] (d.waits) (fun gn lv wr => ∃ (d' : Bf.Bd) (c' : Bf.Ca) (SC' : Nat -> Prop),d'.waits = gn /\ AllS es bb bm n L cv d c SC W1 W.heap.size d' c' SC' wr /\ NIRow wr lv d'.ready)
 case atStart => exact ⟨d,c,SC,rfl,HA2.out,HUX.out⟩
 case round =>
  clear HA2 HUX;obtain ⟨d',c',SC',hgn,hA,hu⟩ := hrel;have HA := hid1 hA;have HGn := hid1 hgn;have hl' : d'.l.length <= 1000 := by rw [hA.l];exact hl
  have hrl : d'.ready.length <= 1000 := Nat.le_trans (Bf.readyTo_len d' d'.l.length) hl';have HU := hid1 hu;obtain ⟨p3,c3,rfl,-⟩ := hu;clear hA hgn;cases hq : d'.ready with
  | nil =>
   have HCt := hid1 (Zfd HA.out.m hl');have HDn := hid1 fun w5 (g5 : Below wr.heap.size wr w5) => (HA.out.below g5).done HLt.out HCl.out hz1 HGA.out hq
   have HEq : Hid ((Bf.all Af.actO c d).1 = d') := hid1 (by rw [HA.out.all,Bf.all_nil Af.actO c' d' hq])
   have HRow := hid1 fun w5 (g5 : Below wr.heap.size wr w5) => (HA.out.below g5).row
   clear hq HU;go_wp2_with fail;refine HCt.out.mono ?_;rintro e w5 ⟨rfl,g5⟩;have rr := HRow.out w5 g5;have HP := hid1 (HDn.out w5 g5);have z0 := Zac (j := 0) rr rfl;have z1 := Zac (j := 1) rr rfl;have z2 := Zac (j := 2) rr rfl;have z3 := Zac (j := 3) rr rfl;have f0 : w5.frozen? ⟨W.heap.size,0,none⟩ = false := by simp [World.frozen?,rr]
   have f1 : w5.frozen? ⟨W.heap.size,1,none⟩ = false := by simp [World.frozen?,rr]
   have f2 : w5.frozen? ⟨W.heap.size,2,none⟩ = false := by simp [World.frozen?,rr]
   have f3 : w5.frozen? ⟨W.heap.size,3,none⟩ = false := by simp [World.frozen?,rr]
   have qq := hid1 (Zhu rr (.int .i64 (d'.ran : Nat)) (.int .i64 (d'.hits : Nat)) (.int .i64 (d'.fails : Nat)) (.int .i64 (d'.lefts : Nat)));clear rr HCt HDn HRow HA;go_wp2;refine bodyPost_ret (v := .agg #[.int .i64 (d'.ran : Nat),.int .i64 (d'.hits : Nat),.int .i64 (d'.fails : Nat),.int .i64 (d'.lefts : Nat)]) ?_ rfl ⟨by rw [HEq.out],HP.out _ _ _ _⟩
   obtain ⟨q0,q1,q2,q3⟩ := qq.out;simp [results,Tryz.f64,go_sem,q0,q1,q2,q3]
  | cons i q =>
   have hm := Bf.mem_ready.1 (show i ∈ d'.ready by rw [hq];simp)
   obtain ⟨g3,o3,rfl,hg3,hc3⟩ := NIRow.at HU.out (by rw [hq];simp)
   have d0 := hc3 0 (by rw [hq];simp)
   have e0 : d'.ready[0]'(by rw [hq];simp) = i := by simp [hq]
   rw [e0,Nat.add_zero] at d0;have HRn := hid1 (Zhy HA.out.m HA.out.ca (fun j hj h1 => by
    have hj' := (HA.out.blk j).1 hj;rcases HA.out.sc j h1 with h2 | h2
    ·exact HAp.out j hj' h2
    ·have := HLt.out j hj';omega) (HW1.out.only HA.out.only fun j hj => hj.elim (HSB.out j) (HSC.out j)) (fun j h1 => by
    rcases HA.out.sc j h1 with h2 | h2
    ·exact HSC.out j h2
    ·have := HBl.out;omega) (by rw [HA.out.l];exact HSm.out) HA.out.fit HA.out.cfit (i : Nat) (by omega) (by have := hm.1;omega))
   rw [Bf.run_ready Af.actO c' d' i hm.1 hm.2] at HRn;have HNx := hid1 fun w6 hP => HA.out.next (w' := w6) HLt.out HCl.out (by omega) hq hP
   have hless := (Bf.go_less Af.actO c' d' i hm.1 hm.2).1;have HIl := hid1 hm.1;rw [hq,List.length_cons] at hrl;rw [List.length_cons];have zq : (0 : Int) < (q.length : Int) + 1 := by omega
   clear hq HU hc3 hm e0 HA;go_wp2_with fail;refine HRn.out.mono ?_;rintro e w6 ⟨rfl,hP⟩;obtain ⟨SC'',hA6⟩ := HNx.out w6 hP;have HA6 := hid1 hA6;have HRd := hid1 (Zcp hA6.m (by rw [hA6.l];exact hl))
   clear HRn HNx hP hA6;go_wp2_with fail;refine HRd.out.mono ?_;rintro e w7 ⟨u7,rfl,hu7,g7⟩;have HA7 := hid1 (HA6.out.below g7);have HU7 := hid1 hu7;obtain ⟨p7,c7,rfl,-⟩ := hu7;clear HRd HA6 g7;go_wp2;go_roundg ((Bf.go Af.actO c' d' i).d.waits)
   case measure => rw [<- HGn.out];exact hless
   case rel => exact ⟨_,_,SC'',rfl,HA7.out,HU7.out⟩
end
end Go.Proofs.YtbgkfmodbofalaaGreatDoor
