import Derived.Test.YtbgkfmodbofalaaGreatDoorPR38
set_option maxRecDepth 100000
set_option maxHeartbeats 16000000
namespace Go.Proofs.YtbgkfmodbofalaaGreatDoor
section
open Go.RowKit Go.Shelf Go.Lib Go.Maps
theorem VMap.look0 {W : World} {b : Nat} {fd : List UInt8 -> Option Value} (h : VMap W b fd) {t e : TypeId} (ht : Tryz.prog.underlying t = some (.map 9 e)) {z : Value} (hz : (zeroValue e).run Tryz.prog W = .ok z W) (x : List UInt8) (hx : x.length <= 1000000) :
  (Instr.lookup t (.map (some b)) (.string (ba x)) false).run Tryz.prog W = .ok ((fd x).getD z) W := by
 obtain ⟨D,K,h1,h2,h3,h4,h5,h6⟩ := h;obtain ⟨v,ps,hrun,hv⟩ := h1.lookup (t := t) (e := e) claw ht (z := z) hz (zd := .held z) (zp := []) rfl (ckey x hx);have hv' : (DataW.held v : DataW Value) = D.atKey (.string x) (.held z) := by
  have : vElem v = some (.held v,[]) := rfl
  rw [this] at hv;simpa using congrArg (fun o => o.map Prod.fst) hv
 rw [hrun];have : v = (fd x).getD z := by
  cases hf : fd x with
  | some u =>
   rw [h6 x u _ hf] at hv';injection hv'
  | none =>
   have hh : has D (.string x) = false := by rw [h4,hf];rfl
   rw [atKey_of_not_has hh] at hv';injection hv'
 rw [this]
theorem Zgz {w : World} (vl : Value) (l : List Ru) (hrow : RRow w vl l) (hl : l.length <= 40) (hS : ∀ x ∈ l,x.Small) (hA : Ru.Apart l) (vo : Value) (o : List Nat) (hO : Ru.Ordd l o) (hor : NIRow w vo o) :
  Calls Tryz.prog 146 #[vl,vo] w fun e w' => e = .returned (.map (some w.heap.size)) /\ Below w.heap.size w w' /\ VMap w' w.heap.size (fun x => (Ru.mkr l x).map fun j => Value.int .i64 (Ru.lev l j : Nat)) := by
 obtain ⟨pr,cap,rfl,hcap,hnn,hin⟩ := hrow;obtain ⟨po,co,rfl,hoin⟩ := hor;have HI := hid1 hin;have HOI := hid1 hoin;have HO := hid1 hO;have HA := hid1 hA;have HSm := hid1 hS;have hol := hO.len;have zo : (o.length : Int) <= 40 := by omega
 have zl : (l.length : Int) <= 40 := by omega
 have hmm := @run_makeMap Tryz.prog;have HV0 := hid1 (VMap.made w);clear hin hoin hO hA hS hnn;go_enter Tryz.func146,Tryz.ntmps146
 go_wp2;go_loopw [16] (fun iv wr => ∃ k : Nat,k <= o.length /\ iv = .int .i64 k /\ VMap wr w.heap.size (Ru.levM l (o.take k)) /\ Below w.heap.size w wr) (fun iv _ => o.length - (intOf iv).toNat)
 case atStart => exact ⟨0,Nat.zero_le _,rfl,HV0.out.congr fun x => by rw [List.take_zero];exact Ru.levM_nil l x,(Below.refl _ w).alloc (Nat.le_refl _) _⟩
 case round =>
  clear HV0;obtain ⟨k,hk,rfl,hV,hB⟩ := hrel;have HV := hid1 hV;have HB := hid1 hB;clear hV;have k0 : (0 : Int) <= (k : Int) := by omega
  by_cases hlt : k < o.length
  ·have k1 : (k : Int) < (o.length : Int) := by omega
   obtain ⟨g1,o1,rfl,hg1,hc1⟩ := HOI.out (by intro e;rw [e] at hlt;simp at hlt)
   have d0 := Zaa (hc1 k hlt) hB;have hi : o[k] < l.length := HO.out.lt _ (List.getElem_mem hlt);obtain ⟨g2,o2,rfl,hg2,hc2⟩ := HI.out (by intro e;rw [e] at hi;simp at hi)
   obtain ⟨b0,b1,b2,ui,b3,bx⟩ := hc2 o[k] hi;have e0 := Zaa b0 hB;have e3 := Zaa b3 hB;obtain ⟨p3,c3,rfl,hcap3,-,hin3⟩ := bx;have HI3 := hid1 hin3;have h12 := (HSm.out _ (List.getElem_mem hi)).many;have z12 : (l[o[k]].ins.length : Int) <= 12 := by omega
   have HIn := hid1 fun (s : List UInt8) (hs : s ∈ l[o[k]].ins) => Ru.levM_in HO.out.topo hlt hi hs
   have HLv := hid1 (HO.out.lev HA.out hi);have HNx := hid1 fun y => Ru.levM_snoc HA.out (o := o.take k) hi y
   have HTk : Hid (o.take (k + 1) = o.take k ++ [o[k]]) := hid1 (List.take_succ_eq_append_getElem hlt);have hout := (HSm.out _ (List.getElem_mem hi)).out;have HKs : Hid (∀ x,(Ru.levM l (o.take k) x).isSome = true -> x ∈ l.map Ru.out) := hid1 fun x hx => by
    unfold Ru.levM at hx;cases hm : Ru.mkr l x with
    | none => rw [hm] at hx;cases hx
    | some j =>
     obtain ⟨hj,e,_⟩ := Ru.mkr_some hm;exact List.mem_map.2 ⟨l[j],List.getElem_mem hj,e⟩
   have HIl := hid1 fun (s : List UInt8) (hs : s ∈ l[o[k]].ins) => (HSm.out _ (List.getElem_mem hi)).ins s hs
   have hlj : Ru.lev l o[k] <= 40 := Nat.le_trans (HO.out.lev_le _) hl;have HLe := hid1 fun j => Nat.le_trans (HO.out.lev_le j) hl
   clear hc1 hc2 b0 b1 b2 b3 hin3 HI HOI HSm hB;generalize hik : o[k] = i at *;have i0 : (0 : Int) <= (i : Int) := by omega
   have i1 : (i : Int) < (l.length : Int) := by omega
   generalize hy : l[i] = y at *;clear hy hik;go_wp2;go_loopw [8,26] (fun ow mv wx => ∃ m : Nat,m <= y.ins.length /\ mv = .int .i64 m /\ ow = .int .i64 (Ru.levL l (Ru.needL l (y.ins.take m)) : Nat) /\ Ru.levL l (Ru.needL l (y.ins.take m)) <= 41 /\ wr = wx) (fun _ mv _ => y.ins.length - (intOf mv).toNat)
   case atStart => exact ⟨0,Nat.zero_le _,rfl,rfl,by simp [Ru.needL,Ru.levL],rfl⟩
   case round =>
    obtain ⟨m,hm,rfl,rfl,hm41,rfl⟩ := hrel;have m0 : (0 : Int) <= (m : Int) := by omega
    by_cases hmlt : m < y.ins.length
    ·have m1 : (m : Int) < (y.ins.length : Int) := by omega
     obtain ⟨g3,o3,rfl,hg3,hc3⟩ := HI3.out (by intro e;rw [e] at hmlt;simp at hmlt)
     have f3 := (HB.out.cell (p := ⟨g3,o3 + m,none⟩) hg3).trans (hc3 m hmlt);have HS := hid1 (Ru.needL_succ l hmlt);have hil := HIl.out _ (List.getElem_mem hmlt);have hlk := HV.out.look Tryz.underlying183 (Tryz.zeroValue3 wr) y.ins[m] (by omega)
     rw [HIn.out _ (List.getElem_mem hmlt)] at hlk;clear hc3 HI3 e0 e3;generalize y.ins[m] = s at *;cases hmk : Ru.mkr l s with
     | none =>
      rw [hmk] at hlk HS;simp only [Option.map_none,Option.getD_none,Option.isSome_none,Option.toList_none,List.append_nil] at hlk HS;clear hmk;go_wp2;exact ⟨⟨m + 1,by omega,by go_num,by rw [HS.out],by rw [HS.out];exact hm41,trivial⟩,by simp [intOf];omega⟩
     | some j =>
      rw [hmk] at hlk HS;simp only [Option.map_some,Option.getD_some,Option.isSome_some,Option.toList_some] at hlk HS;have hlj' := HLe.out j;have HM : Hid (Ru.levL l (Ru.needL l (y.ins.take (m + 1))) = max (Ru.levL l (Ru.needL l (y.ins.take m))) (Ru.lev l j + 1)) := hid1 (by rw [HS.out,Ru.levL_snoc])
      clear hmk HS;generalize Ru.levL l (Ru.needL l (y.ins.take m)) = a at *;generalize Ru.lev l j = c at *;have za : (a : Int) <= 41 := by omega
      have zc : (c : Int) <= 40 := by omega
      have za0 : (0 : Int) <= (a : Int) := by omega
      have zc0 : (0 : Int) <= (c : Int) := by omega
      by_cases hac : a < c + 1
      ·have z1 : (a : Int) < (c : Int) + 1 := by omega
       have e : max a (c + 1) = c + 1 := by omega
       rw [e] at HM;go_wp2;exact ⟨⟨m + 1,by omega,by go_num,by rw [HM.out];go_num,by rw [HM.out];omega,trivial⟩,by simp [intOf];omega⟩
      ·have z1 : (c : Int) + 1 <= (a : Int) := by omega
       have e : max a (c + 1) = a := by omega
       rw [e] at HM;go_wp2;exact ⟨⟨m + 1,by omega,by go_num,by rw [HM.out];simp only [Value.int.injEq,true_and];omega,by rw [HM.out];omega,trivial⟩,by simp [intOf];omega⟩
    ·have m1 : (y.ins.length : Int) <= (m : Int) := by omega
     obtain rfl : m = y.ins.length := by omega
     rw [List.take_length,HLv.out] at hm41 ⊢;obtain ⟨w1,hup,hV1,hT1⟩ := HV.out.laid Tryz.underlying183 (l.map Ru.out) HKs.out (by simp;omega) y.out (by omega) (.int .i64 (Ru.lev l i : Nat))
     have hbl := HV.out.lt;have HQ : Hid (VMap w1 w.heap.size (Ru.levM l (o.take (k + 1))) /\ Below w.heap.size w w1) := hid1 ⟨hV1.congr fun x => by rw [HTk.out,<- HNx.out x],Zdg HB.out HB.out.size (Nat.le_refl _) hT1⟩
     clear hV1 hT1 HI3 HV HB HIn;go_wp2;exact ⟨⟨k + 1,by omega,by go_num,HQ.out.1,HQ.out.2⟩,by simp [intOf];omega⟩
  ·have k1 : (o.length : Int) <= (k : Int) := by omega
   obtain rfl : k = o.length := by omega
   have HQ : Hid (VMap wr w.heap.size (fun x => (Ru.mkr l x).map fun j => Value.int .i64 (Ru.lev l j : Nat))) := hid1 (HV.out.congr fun x => by rw [List.take_length,Ru.levM_all HO.out])
   clear HI HOI HV;go_wp2;go_ret;exact ⟨rfl,hB,HQ.out⟩
theorem Zud (n : Nat) (vals : Nat -> Value) (v : Value) : topV n vals ++ [v] = topV (n + 1) (fun j => if j = n then v else vals j) := by
 unfold topV;rw [List.range_succ,List.map_append];congr 1
 ·exact List.map_congr_left fun j hj => by
   have := List.mem_range.1 hj;rw [if_neg (by omega)]
 ·simp
structure LvS (W0 : World) (l : List Ru) (k n : Nat) (vals : Nat -> Value) (u : Value) (wr : World) : Prop where
 top : wr.ownsRow W0.heap.size 68 1 u n (topV n vals)
 row : ∀ j,j < n -> wr.ownsRow W0.heap.size 3 1 (vals j) (Ru.lvTo l k j).length ((Ru.lvTo l k j).map nv)
 apart : ∀ a b g,a < n -> b < n -> (vals a).ownBlock = some g -> (vals b).ownBlock = some g -> a = b
 deep : Ru.deepTo l k <= n
 base : Below W0.heap.size W0 wr
theorem LvS.start (W0 : World) (l : List Ru) : LvS W0 l 0 0 (fun _ => .slice none 0 0) (.slice none 0 0) W0 :=
 ⟨World.ownsRow_nil _ _ _ _,fun j hj => by omega,fun a b g ha => by omega,Nat.le_refl _,Below.refl _ _⟩
theorem LvS.below {W0 : World} {l : List Ru} {k n : Nat} {vals : Nat -> Value} {u : Value} {wr w' : World} (h : LvS W0 l k n vals u wr) (hb : Below wr.heap.size wr w') : LvS W0 l k n vals u w' :=
 ⟨Zap h.top hb,fun j hj => Zap (h.row j hj) hb,h.apart,h.deep,Zab h.base hb⟩
theorem LvS.more {W0 : World} {l : List Ru} {k n : Nat} {vals : Nat -> Value} {u u' : Value} {wr Y : World} {o : Obj} (h : LvS W0 l k n vals u wr) (hY : Y.ownsRow W0.heap.size 68 1 u' (n + 1) (topV n vals ++ [.slice none 0 0])) (hg : (wr.alloc o).grownBy Y u.ownBlock) :
  LvS W0 l k (n + 1) (fun j => if j = n then .slice none 0 0 else vals j) u' Y := by
 refine ⟨by rw [<- Zud];exact hY,fun j hj => ?_,fun a b g ha hb ea eb => ?_,by have := h.deep;omega,?_⟩
 ·by_cases e : j = n
  ·subst e;rw [if_pos rfl,Ru.lvTo_none h.deep];exact World.ownsRow_nil _ _ _ _
  ·rw [if_neg e];exact Zcc ((h.row j (by omega)).alloc o) (h.top.alloc o) (by decide) hg
 ·by_cases e1 : a = n
  ·subst e1;rw [if_pos rfl] at ea;simp [Value.ownBlock] at ea
  ·by_cases e2 : b = n
   ·subst e2;rw [if_pos rfl] at eb;simp [Value.ownBlock] at eb
   ·rw [if_neg e1] at ea;rw [if_neg e2] at eb;exact h.apart a b g (by omega) (by omega) ea eb
 ·exact Zak h.base h.base.size h.top hg
theorem LvS.put {W0 : World} {l : List Ru} {k n a : Nat} {vals : Nat -> Value} {gt cap : Nat} {wr Y : World} {o : Obj} {g cap' : Nat} (h : LvS W0 l k n vals (.slice (some ⟨gt,0,none⟩) n cap) wr) (ha : a = Ru.lev l k) (han : a < n)
  (hY : Y.ownsRow W0.heap.size 3 1 (.slice (some ⟨g,0,none⟩) ((Ru.lvTo l k a).length + 1) cap') ((Ru.lvTo l k a).length + 1) ((Ru.lvTo l k a).map nv ++ [nv k])) (hg : (wr.alloc o).grownBy Y (vals a).ownBlock) (hli : (vals a).ownBlock = some g \/ g = (wr.alloc o).heap.size) :
  (Y.frozen? ⟨gt,a,none⟩ = false /\ Y.cell? ⟨gt,a,none⟩ = some (vals a)) /\ LvS W0 l (k + 1) n (fun j => if j = a then .slice (some ⟨g,0,none⟩) ((Ru.lvTo l k a).length + 1) cap' else vals j) (.slice (some ⟨gt,0,none⟩) n cap) (Y.setCell ⟨gt,a,none⟩ (.slice (some ⟨g,0,none⟩) ((Ru.lvTo l k a).length + 1) cap')) := by
 have htop : Y.ownsRow W0.heap.size 68 1 (.slice (some ⟨gt,0,none⟩) n cap) n (topV n vals) := Zcc (h.top.alloc o) ((h.row a han).alloc o) (by decide) hg
 have hst := htop.stored a (.slice (some ⟨g,0,none⟩) ((Ru.lvTo l k a).length + 1) cap');have hrows : ∀ j,j < n -> j ≠ a -> Y.ownsRow W0.heap.size 3 1 (vals j) (Ru.lvTo l k j).length ((Ru.lvTo l k j).map nv) := fun j hj hja => by
  refine ((h.row j hj).alloc o).kept hg ?_;cases hv : (vals j).ownBlock with
  | none => exact .inl rfl
  | some g2 => exact .inr fun e => hja (h.apart j a g2 hj han hv e.symm)
 have hlt : ∀ j g2,j < n -> (vals j).ownBlock = some g2 -> g2 < wr.heap.size := fun j g2 hj e => ((h.row j hj).lt g2 e).2
 refine ⟨⟨htop.frozenAt a,by rw [htop.cellAt a (by omega),Zdk vals han]⟩,?_⟩
 refine ⟨by rw [<- Zqr];exact hst.1,fun j hj => ?_,fun x y g2 hx hy ex ey => ?_,?_,?_⟩
 ·by_cases e : j = a
  ·subst e;simp only [if_pos];have e1 : Ru.lvTo l (k + 1) j = Ru.lvTo l k j ++ [k] := by rw [ha];exact Ru.lvTo_same l k
   rw [e1,List.length_append,List.map_append];exact Zcc hY htop (by decide) hst.2
  ·simp only [if_neg e];rw [Ru.lvTo_other (by rw [<- ha];exact e)]
   exact Zcc (hrows j hj e) htop (by decide) hst.2
 ·have za : (wr.alloc o).heap.size = wr.heap.size + 1 := by simp
  by_cases e1 : x = a
  ·by_cases e2 : y = a
   ·rw [e1,e2]
   ·rw [if_pos e1] at ex;rw [if_neg e2] at ey;obtain rfl : g = g2 := by simpa [Value.ownBlock] using ex
    rcases hli with h1 | h1
    ·exact absurd (h.apart y a g hy han ey h1) e2
    ·have := hlt y g hy ey;omega
  ·rw [if_neg e1] at ex;by_cases e2 : y = a
   ·rw [if_pos e2] at ey;obtain rfl : g = g2 := by simpa [Value.ownBlock] using ey
    rcases hli with h1 | h1
    ·exact absurd (h.apart x a g hx han ex h1) e1
    ·have := hlt x g hx ex;omega
   ·rw [if_neg e2] at ey;exact h.apart x y g2 hx hy ex ey
 ·show max (Ru.deepTo l k) (Ru.lev l k + 1) <= n
  have := h.deep;omega
 ·have hB : Below W0.heap.size W0 Y := Zak h.base h.base.size (h.row a han) hg;exact hB.grown hst.2 (by have := hB.size;omega) (fun j e => by
   obtain rfl : gt = j := by simpa using e
   exact (htop.lt gt rfl).1)
def LvRow (w : World) (v : Value) (L : List (List Nat)) : Prop :=
 ∃ p cap,v = .slice p L.length cap /\ (L ≠ [] -> ∃ g o,p = some ⟨g,o,none⟩ /\ g < w.heap.size /\ ∀ j (hj : j < L.length),∃ u,w.cell? ⟨g,o + j,none⟩ = some u /\ NIRow w u L[j])
theorem LvS.done {W0 : World} {l : List Ru} {vals : Nat -> Value} {u : Value} {wr : World} (h : LvS W0 l l.length (Ru.deep l) vals u wr) : LvRow wr u (Ru.levels l) := by
 have hlen : (Ru.levels l).length = Ru.deep l := by unfold Ru.levels;simp
 rcases h.top.2 with ⟨rfl,e0⟩ | ⟨g,cap,cur,rfl,hb,hg,-⟩
 ·refine ⟨none,0,by rw [hlen,e0],fun hne => ?_⟩
  exact absurd (List.length_eq_zero_iff.1 (hlen.trans e0)) hne
 ·refine ⟨_,cap,by rw [hlen],fun hne => ⟨g,0,rfl,(h.top.lt g rfl).2,fun j hj => ?_⟩⟩
  have hj' : j < Ru.deep l := by omega
  refine ⟨vals j,?_,?_⟩
  ·rw [Nat.zero_add,h.top.cellAt j (by omega),Zdk vals hj']
  ·have e : (Ru.levels l)[j] = Ru.lvTo l l.length j := by
    have e1 : (Ru.levels l)[j]? = some (Ru.levelOf l j) := by
     unfold Ru.levels;rw [List.getElem?_map,List.getElem?_range hj']
     rfl
    exact (List.getElem?_eq_some_iff.1 e1).2
   rw [e];exact (NRow.of_owns (h.row j hj')).ni
def LevTells (es : Nat -> Addr) (l : List Ru) (w : World) (u ev : Value) : Prop :=
 ((Ru.fault l).1 ≠ 0 /\ ErrV w es ev (Ru.fault l) /\ u = .slice none 0 0) \/
 ((Ru.fault l).1 = 0 /\ Ru.order l allB1 = none /\ ev = erOf es 9 /\ u = .slice none 0 0) \/
 ((Ru.fault l).1 = 0 /\ (∃ o,Ru.order l allB1 = some o) /\ ev = .nilIface /\ LvRow w u (Ru.levels l))
theorem Zkr {w : World} {es : Nat -> Addr} (hW : GraphW w es) (v : Value) (l : List Ru) (hrow : RRow w v l) (hn : l.length <= 1000) (hS : ∀ x ∈ l,x.Small) :
  Calls Tryz.prog 82 #[v] w fun e w' => ∃ u ev,e = .returned (.tuple #[u,ev]) /\ Below w.heap.size w w' /\ LevTells es l w' u ev := by
 have HOr := hid1 (Znn hW v l hrow hn hS);have HLo := hid1 fun (V : World) (g : Below w.heap.size w V) (h40 : l.length <= 40) (hA : Ru.Apart l) (vo : Value) (o : List Nat) (hO : Ru.Ordd l o) (hr : NIRow V vo o) => Zgz v l (hrow.below g) h40 hS hA vo o hO hr
 have HSm := hid1 hS;obtain ⟨pr,cap,rfl,hcap,hnn,hin⟩ := hrow;have HI := hid1 hin;obtain ⟨iT,hT,hT0,hT1,hT2⟩ := info_parts Tryz.infoInts;obtain ⟨iI,hI,hI0,hI1,hI2⟩ := info_parts Tryz.infoInt;clear hin hnn hS hW;go_enter Tryz.func82,Tryz.ntmps82
 go_wp2_with fail;refine HOr.out.mono ?_;rintro e w1 ⟨u1,ev1,rfl,g1,hT1'⟩;clear HOr;rcases hT1' with ⟨hf,hE,pu,cu,rfl⟩ | ⟨hf,ho,rfl,pu,cu,rfl⟩ | ⟨hf,o,ho,rfl,hu⟩
 ·obtain ⟨te,xe,rfl⟩ := hE.some hf;have HQ := hid1 hE;clear hE HI HLo;go_wp2;go_ret2;exact ⟨_,_,rfl,g1,.inl ⟨hf,HQ.out,rfl⟩⟩
 ·have HQ : Hid (LevTells es l w1 (.slice none 0 0) (erOf es 9)) := hid1 (.inr (.inl ⟨hf,ho,rfl,rfl⟩));obtain ⟨te,xe,he⟩ : ∃ t x,erOf es 9 = .iface t x := ⟨_,_,rfl⟩
  rw [he] at HQ ⊢;clear HI HLo ho he;go_wp2;go_ret2;exact ⟨_,_,rfl,g1,HQ.out⟩
 ·obtain ⟨h40,hA⟩ := Ru.fault_ok hf;have hO : Ru.Ordd l o := Ru.Ordd.of ho fun _ _ => rfl
  have HO := hid1 hO;have HA := hid1 hA;have HQ : Hid (∀ V u,LvRow V u (Ru.levels l) -> LevTells es l V u .nilIface) := hid1 fun V u h => .inr (.inr ⟨hf,⟨o,ho⟩,rfl,h⟩)
  have HL1 := hid1 (HLo.out w1 g1 h40 hA u1 o hO hu);obtain ⟨pu,cu,rfl,-⟩ := hu;have zl : (l.length : Int) <= 40 := by omega
  have HLe := hid1 fun j => Nat.le_trans (hO.lev_le j) h40
  clear HLo ho hf hO hA;go_wp2_with fail;refine HL1.out.mono ?_;rintro e w2 ⟨rfl,g2,hV2⟩;have G2 := Zab g1 g2;have HV2 := hid1 hV2;have hz12 : w1.heap.size <= w2.heap.size := g2.size;clear HL1 hV2 g2 g1;go_wp2;go_loopw [7,24] (fun uv iv wr => ∃ (k : Nat) (vals : Nat -> Value),k <= l.length /\ iv = .int .i64 k /\ LvS w2 l k (Ru.deepTo l k) vals uv wr) (fun _ iv _ => l.length - (intOf iv).toNat)
  case atStart => exact ⟨0,_,Nat.zero_le _,rfl,LvS.start w2 l⟩
  case round =>
   obtain ⟨k,vals,hk,rfl,hL⟩ := hrel;have HL := hid1 hL;have k0 : (0 : Int) <= (k : Int) := by omega
   obtain ⟨p7,c7,e7⟩ := Zay hL.top;subst e7;clear hL;by_cases hlt : k < l.length
   ·have k1 : (k : Int) < (l.length : Int) := by omega
    obtain ⟨g',o',rfl,hg,hcur⟩ := HI.out (by intro e;rw [e] at hlt;simp at hlt)
    obtain ⟨b0,b1,b2,ui,b3,bx⟩ := hcur k hlt;have gB : Below w.heap.size w wr := Zab G2 HL.out.base;have d0 := Zaa b0 gB;have d1 := Zaa b1 gB;have d2 := Zaa b2 gB;have d3 := Zaa b3 gB;obtain ⟨p3,cap3,rfl,hcap3,-,hin3⟩ := bx
    have hst : ∀ (a : Addr) (m : Mode) (W : World),Sem.run Tryz.prog (store a (.slice p3 l[k].ins.length cap3) m) W = stored Tryz.prog W a (.slice p3 l[k].ins.length cap3) m := fun a m W => run_store _ W a _ m rfl
    have hol := (HSm.out _ (List.getElem_mem hlt)).out;have hmk := Ru.mkr_eq HA.out hlt;obtain ⟨B,hBo⟩ : ∃ B : Obj,B = .cells #[.string (ba l[k].out),.string (ba l[k].kind),.string (ba l[k].word),.slice p3 l[k].ins.length cap3] 90 := ⟨_,rfl⟩
    have hA1 : Below wr.heap.size wr (wr.alloc B) := (Below.refl _ wr).alloc (Nat.le_refl _) _;have hlk := ((HV2.out.below HL.out.base).below hA1).look0 Tryz.underlying183 (Tryz.zeroValue3 _) l[k].out (by omega)
    rw [hmk] at hlk;simp only [Option.map_some,Option.getD_some] at hlk;have hlev := HLe.out k;have HL2 := hid1 (HL.out.below hA1);rw [hBo] at hlk HL2;have hdl : Ru.deepTo l k <= 41 := by
     by_cases e : Ru.deepTo l k = 0
     ·omega
     ·obtain ⟨i,hi,e2⟩ := Ru.deepTo_some e;have := HLe.out i;omega
    clear hcur hin3 b0 b1 b2 b3 HI gB HL hmk hBo hA1;generalize hlv : Ru.lev l k = a at *;have za0 : (0 : Int) <= (a : Int) := by omega
    have za : (a : Int) <= 40 := by omega
    generalize l[k] = y at *;generalize wr = w4 at *;go_wp2;go_loopw [7] (fun uv wx => ∃ (n : Nat) (vals' : Nat -> Value),LvS w2 l k n vals' uv wx /\ (n = Ru.deepTo l k \/ n <= a + 1)) (fun uv _ => a + 1 - slen uv)
    case atStart => exact ⟨_,_,HL2.out,.inl rfl⟩
    case round =>
     clear HL2 d0 d1 d2 d3 hst hlk;obtain ⟨n,vals',hL,hn⟩ := hrel;obtain ⟨p9,c9,e9⟩ := Zay hL.top;subst e9;have hn41 : n <= 41 := by omega
     by_cases hle : n <= a
     ·have z1 : (n : Int) <= (a : Int) := by omega
      have hrow := hL.top;have HMo := hid1 fun (Y : World) (u' : Value) (o : Obj) => hL.more (Y := Y) (u' := u') (o := o)
      have hbz := hL.base.size;have hml : n + 1 <= maxLen := by unfold maxLen;omega
      clear hL;go_wp2_with (first
       | (at_builtin;refine wpList_append_lies _ rfl _ _ 129 rfl w2.heap.size 68 iT (.slice none 0 0) 1 24 Tryz.underlying129 hT hT0 hT1 hT2 rfl (by decide) _ n (topV n vals') rfl (hrow.alloc _) ⟨wr.heap.size,0,none⟩ 1 1 [.slice none 0 0] rfl rfl (cell_one_new _ _ _) (by simp [Value.oneCell']) (by decide) hml (by omega) (by simp;omega) _ rfl ?_;intro g8 cap8 w8 hown8 hgrow8 hlies8 hlt8)
       | fail)
      exact ⟨⟨n + 1,_,HMo.out _ _ _ hown8 hgrow8,.inr (by omega)⟩,by simp [slen];omega⟩
     ·have z1 : (a : Int) < (n : Int) := by omega
      have han : a < n := by omega
      have HDn : Hid (n = Ru.deepTo l (k + 1)) := hid1 (by
       show n = max (Ru.deepTo l k) (Ru.lev l k + 1)
       rw [hlv];have := hL.deep;omega)
      obtain ⟨gt,ct,e9,hbt,hlt9⟩ := hL.top.form (by omega)
      obtain ⟨rfl,rfl⟩ : p9 = some ⟨gt,0,none⟩ /\ c9 = ct := by simpa using e9
      have x0 : wr.cell? ⟨gt,a,none⟩ = some (vals' a) := by rw [hL.top.cellAt a (by omega),Zdk vals' han]
      have hrow := hL.row a han;obtain ⟨pa,ca,ea⟩ := Zay hrow;have hll := Ru.lvTo_len l k a;have HPu := hid1 fun (Y : World) (o : Obj) (g cap' : Nat) => hL.put (Y := Y) (o := o) (g := g) (cap' := cap') hlv.symm han
      have hbz := hL.base.size;have hml : (Ru.lvTo l k a).length + 1 <= maxLen := by unfold maxLen;omega
      rw [ea] at x0 hrow;clear hL e9;generalize hnl : (Ru.lvTo l k a).length = nl at *;go_wp2_with (first
       | (at_builtin;refine wpList_append_lies _ rfl _ _ 68 rfl w2.heap.size 3 iI (.int .i64 0) 1 8 Tryz.underlying68 hI hI0 hI1 hI2 rfl (by decide) _ nl ((Ru.lvTo l k a).map nv) rfl (hrow.alloc _) ⟨wr.heap.size,0,none⟩ 1 1 [nv k] rfl rfl (cell_one_new _ _ _) (by simp [Value.oneCell']) (by decide) hml (by omega) (by simp;omega) _ rfl ?_;intro g8 cap8 w8 hown8 hgrow8 hlies8 hlt8;(rw [<- ea] at hgrow8 hlies8);(have hP8 := HPu.out w8 _ g8 cap8 hown8 hgrow8 hlies8);(have f8 := hP8.1.1);(have y8 := hP8.1.2);(have HP8 := hid1 hP8.2);clear hP8 HPu hown8 hgrow8 hlies8)
       | fail)
      exact ⟨⟨k + 1,_,by omega,by go_num,by rw [<- HDn.out];exact HP8.out⟩,by simp [intOf];omega⟩
   ·have k1 : (l.length : Int) <= (k : Int) := by omega
    obtain rfl : k = l.length := by omega
    have HD := hid1 (LvS.done HL.out);have gB : Below w.heap.size w wr := Zab G2 HL.out.base;clear HL HI;go_wp2;go_ret2;exact ⟨_,_,rfl,gB,HQ.out _ _ HD.out⟩
def Zol (es : Nat -> Addr) (l : List Ru) (w : World) (n : Nat) (ev : Value) : Prop :=
 ((Ru.fault l).1 ≠ 0 /\ ErrV w es ev (Ru.fault l) /\ n = 0) \/
 ((Ru.fault l).1 = 0 /\ Ru.order l allB1 = none /\ ev = erOf es 9 /\ n = 0) \/
 ((Ru.fault l).1 = 0 /\ (∃ o,Ru.order l allB1 = some o) /\ ev = .nilIface /\ n = Ru.deep l)
theorem LevTells.deep {es : Nat -> Addr} {l : List Ru} {w : World} {u ev : Value} (h : LevTells es l w u ev) : ∃ p n c,u = .slice p n c /\ Zol es l w n ev := by
 rcases h with ⟨h1,h2,rfl⟩ | ⟨h1,h2,h3,rfl⟩ | ⟨h1,h2,h3,p,c,rfl,-⟩
 ·exact ⟨_,_,_,rfl,.inl ⟨h1,h2,rfl⟩⟩
 ·exact ⟨_,_,_,rfl,.inr (.inl ⟨h1,h2,h3,rfl⟩)⟩
 ·exact ⟨_,_,_,rfl,.inr (.inr ⟨h1,h2,h3,by simp [Ru.levels]⟩)⟩
theorem Zpe {w : World} {es : Nat -> Addr} (hW : GraphW w es) (v : Value) (l : List Ru) (hrow : RRow w v l) (hn : l.length <= 1000) (hS : ∀ x ∈ l,x.Small) :
  Calls Tryz.prog 83 #[v] w fun e w' => ∃ (n : Nat) (ev : Value),e = .returned (.tuple #[.int .i64 n,ev]) /\ Below w.heap.size w w' /\ Zol es l w' n ev := by
 have HL := hid1 (Zkr hW v l hrow hn hS);obtain ⟨pr,cap,rfl,-⟩ := hrow;clear hW hS;go_enter Tryz.func83,Tryz.ntmps83
 go_wp2_with fail;refine HL.out.mono ?_;rintro e w1 ⟨u,ev,rfl,g1,hT⟩;obtain ⟨p,n,c,rfl,hD⟩ := hT.deep;have HD := hid1 hD;clear HL hT hD;go_wp2;go_ret2;exact ⟨n,_,rfl,g1,HD.out⟩
end
section
namespace Lb
abbrev fs : Tf.Fs := [([97],[120])]
abbrev r : Ru := ⟨[98],[117,112,112,101,114],[],[[97]]⟩
abbrev l : List Ru := [r]
abbrev outs : List (List UInt8) := [[98]]
abbrev key : List UInt8 := Kp.key [117,112,112,101,114] [] [[120]]
abbrev d : Bf.Bd := ⟨fs,l,fun k => if k = 0 then .waits else .no⟩
theorem fault0 : (Ru.fault l).1 = 0 := by kernel_rfl
theorem needs0 (i k : Nat) : Ru.needs l i k = false := by
 cases hn : Ru.needs l i k with
 | false => rfl
 | true =>
  obtain ⟨h1,h2⟩ := Ru.needs_lt hn;obtain rfl : i = 0 := by simp at h1;omega
  obtain rfl : k = 0 := by simp at h2;omega
  have : Ru.needs l 0 0 = false := by decide
  rw [this] at hn;cases hn
theorem needed : Ru.Needed l outs (fun k => decide (k = 0)) := by
 have hb : Ru.base l outs 0 = true := by decide
 refine ⟨fun k hk => ?_,fun i k _ h => ?_,fun P h1 _ k hk h => ?_⟩
 ·cases k with
  | zero => rfl
  | succ k =>
   simp [Ru.base] at hk
 ·rw [needs0] at h;cases h
 ·obtain rfl : k = 0 := by simp at hk;omega
  exact h1 0 hb
theorem need0 : Bf.need l outs 0 = true := by
 rw [Bf.need_eq needed (by decide)]
 rfl
theorem init0 : Bf.init fs l outs = d := by
 unfold Bf.init;congr 1
 funext k
 by_cases h : k = 0
 ·subst h;rw [need0];rfl
 ·rw [Bf.need_out (by simp;omega)]
  simp [h]
theorem order0 : (Ru.order l (Bf.need l outs)).isSome = true := by
 rw [Ru.order_congr2 (g := fun k => decide (k = 0)) fun k hk => Bf.need_eq needed hk]
 decide
theorem ready0 : d.isReady 0 = true := Bf.ready_of rfl fun k _ hn => by
 rw [show Ru.needs d.l 0 k = false from needs0 0 k] at hn
 cases hn
theorem act0 : Af.actO [117,112,112,101,114] [] [[120]] = ([88],0) := by decide
theorem fit0 : Bf.Fit d := by
 refine ⟨fun f hf => ?_,fun k => ?_,fun k => ?_⟩
 ·obtain rfl := List.mem_singleton.1 hf;decide
 ·show (if k = 0 then Bf.St.waits else .no).out.length <= 2000
  split <;> decide
 ·show (if k = 0 then Bf.St.waits else .no).why <= 12
  split <;> decide
end Lb
end
section
open Go.RowKit Go.Shelf Go.Lib
namespace Lp
abbrev write : List UInt8 := [119,114,105,116,101]
abbrev l : List Ru := [⟨[97],write,[120],[]⟩,⟨[98],write,[121],[]⟩]
abbrev outs : List (List UInt8) := [[97],[98]]
abbrev d : Bf.Bd := ⟨[],l,fun k => if k < 2 then .waits else .no⟩
theorem fault0 : (Ru.fault l).1 = 0 := by kernel_rfl
theorem needs0 (i k : Nat) : Ru.needs l i k = false := by
 cases hn : Ru.needs l i k with
 | false => rfl
 | true =>
  obtain ⟨h1,h2⟩ := Ru.needs_lt hn;rw [Ru.needs_eq h1 h2] at hn;have h3 : i < 2 := h1;match i,h3 with
  | 0,_ => simp at hn
  | 1,_ => simp at hn
theorem base0 : ∀ k,k < 2 -> Ru.base l outs k = true := fun k hk => by
 match k,hk with
 | 0,_ => decide
 | 1,_ => decide
theorem needed : Ru.Needed l outs (fun k => decide (k < 2)) := by
 refine ⟨fun k hk => ?_,fun i k _ h => ?_,fun P h1 _ k hk h => ?_⟩
 ·by_cases h : k < 2
  ·simpa using h
  ·have e : l[k]? = none := List.getElem?_eq_none (by simp;omega)
   simp [Ru.base,e] at hk
 ·rw [needs0] at h;cases h
 ·exact h1 k (base0 k (by simpa using hk))
theorem init0 : Bf.init [] l outs = d := by
 unfold Bf.init;congr 1
 funext k
 by_cases h : k < 2
 ·rw [Bf.need_eq needed (by simpa using h)]
  simp [h]
 ·rw [Bf.need_out (by simp;omega)]
  simp [h]
theorem order0 : (Ru.order l (Bf.need l outs)).isSome = true := by
 rw [Ru.order_congr2 (g := fun k => decide (k < 2)) fun k hk => Bf.need_eq needed hk]
 decide
theorem order1 : Ru.order l allB1 = some [0,1] := by decide
theorem deep1 : Ru.deep l = 1 := by decide
theorem act0 : Af.actO write [120] [] = ([120],0) := by decide
theorem act1 : Af.actO write [121] [] = ([121],0) := by decide
abbrev d1 : Bf.Bd := d.set 1 (.done [121] false)
abbrev d2 : Bf.Bd := d1.set 0 (.done [120] false)
theorem ready0 : d.ready = [0,1] := by decide
theorem ready1 : d1.ready = [0] := by decide
theorem ready2 : d2.ready = [] := by decide
theorem go1 : Bf.go Af.actO none d 1 = ⟨false,0,d1,none⟩ := by
 unfold Bf.go;have e1 : d.ins 1 = some [] := by decide
 have e2 : d.rule 1 = ⟨[98],write,[121],[]⟩ := rfl;rw [e1];simp only [e2];have e3 : Bf.cfind none (Kp.key write [121] []) = none := rfl;rw [e3];simp only;rw [act1,if_pos rfl];rfl
theorem go2 : Bf.go Af.actO none d1 0 = ⟨false,0,d2,none⟩ := by
 unfold Bf.go;have e1 : d1.ins 0 = some [] := by decide
 have e2 : d1.rule 0 = ⟨[97],write,[120],[]⟩ := rfl;rw [e1];simp only [e2];have e3 : Bf.cfind none (Kp.key write [120] []) = none := rfl;rw [e3];simp only;rw [act0,if_pos rfl];rfl
theorem picked : (Bf.pickRun Af.actO none d [1]).xs = [1,0] := by
 have s1 : Bf.pstep Af.actO ⟨d,none,[]⟩ (Bf.turn [1] 0) = ⟨d1,none,[1]⟩ := by
  have e : Bf.pickAt (Bf.turn [1] 0) 2 = 1 := by decide
  unfold Bf.pstep;simp only [ready0];rw [if_neg (by simp)]
  show (⟨(Bf.go Af.actO none d ([0,1].getD (Bf.pickAt (Bf.turn [1] 0) 2) 0)).d,_,_⟩ : Bf.Pk) = _
  rw [e];show (⟨(Bf.go Af.actO none d 1).d,(Bf.go Af.actO none d 1).c,_⟩ : Bf.Pk) = _
  rw [go1];rfl
 have s2 : Bf.pstep Af.actO ⟨d1,none,[1]⟩ (Bf.turn [1] 1) = ⟨d2,none,[1,0]⟩ := by
  have e : Bf.pickAt (Bf.turn [1] 1) 1 = 0 := by decide
  unfold Bf.pstep;simp only [ready1];rw [if_neg (by simp)]
  show (⟨(Bf.go Af.actO none d1 ([0].getD (Bf.pickAt (Bf.turn [1] 1) 1) 0)).d,_,_⟩ : Bf.Pk) = _
  rw [e];show (⟨(Bf.go Af.actO none d1 0).d,(Bf.go Af.actO none d1 0).c,_⟩ : Bf.Pk) = _
  rw [go2];rfl
 have h0 := Bf.fin_turn (act := Af.actO) (s := ⟨d,none,[]⟩) (by rw [ready0];simp) [1] 0
 have h1 := Bf.fin_turn (act := Af.actO) (s := ⟨d1,none,[1]⟩) (by rw [ready1];simp) [1] 1
 rw [s1] at h0;rw [s2] at h1;rw [Bf.pickRun_fin,<- List.drop_zero (l := [(1 : Int)]),h0,h1,Bf.fin_none ready2]
theorem fit0 : Bf.Fit d := by
 refine ⟨fun f hf => by simp at hf,fun k => ?_,fun k => ?_⟩
 ·show (if k < 2 then Bf.St.waits else .no).out.length <= 2000
  split <;> decide
 ·show (if k < 2 then Bf.St.waits else .no).why <= 12
  split <;> decide
theorem small : ∀ x ∈ l,x.Small := fun x hx => by
 rcases List.mem_cons.1 hx with rfl | hx
 ·exact ⟨by decide,by decide,by decide,by decide,fun y hy => by simp at hy⟩
 ·obtain rfl := List.mem_singleton.1 hx;exact ⟨by decide,by decide,by decide,by decide,fun y hy => by simp at hy⟩
end Lp
theorem NewTells.getP {es : Nat -> Addr} {BAt : (Nat -> Prop) -> World -> Value -> Value -> Bf.Bd -> Prop} {n : Nat} {cv : Value} {w : World} {bv ev : Value} (h : NewTells es BAt n [] Lp.l Lp.outs cv w bv ev) : ev = .nilIface /\ ∃ p S,bv = .pointer (some p) /\ BAt S w bv cv Lp.d /\ ∀ k,S k -> n <= k := by
 rcases h with ⟨_,⟨h1,_⟩ | ⟨_,k,hk,h2,_⟩ | ⟨_,_,h3,_⟩⟩ | ⟨_,_,_,h4,⟨p,h5⟩,S,h6,h7⟩
 ·exact absurd Lp.fault0 h1
 ·have h3 : k < 2 := hk;match k,h3 with
  | 0,_ => exact absurd rfl (h2 ⟨[97],Lp.write,[120],[]⟩ (by simp))
  | 1,_ => exact absurd rfl (h2 ⟨[98],Lp.write,[121],[]⟩ (by simp))
 ·have := Lp.order0;rw [h3] at this;cases this
 ·rw [Lp.init0] at h6;exact ⟨h4,p,S,h5,h6,h7⟩
abbrev Zfm : Array Value := #[.string ⟨#[97]⟩,.string ⟨#[119,114,105,116,101]⟩,.string ⟨#[120]⟩,.slice none 0 0,.string ⟨#[98]⟩,.string ⟨#[119,114,105,116,101]⟩,.string ⟨#[121]⟩,.slice none 0 0]
theorem Zzg (w : World) :
  RRow ((w.alloc (.cells Zfm 90)).alloc (.cells #[.string ⟨#[97]⟩,.string ⟨#[98]⟩] 9)) (.slice (some ⟨w.heap.size,0,none⟩) 2 2) Lp.l /\
  XRow ((w.alloc (.cells Zfm 90)).alloc (.cells #[.string ⟨#[97]⟩,.string ⟨#[98]⟩] 9)) (.slice (some ⟨w.heap.size + 1,0,none⟩) 2 2) Lp.outs /\
  Below w.heap.size w ((w.alloc (.cells Zfm 90)).alloc (.cells #[.string ⟨#[97]⟩,.string ⟨#[98]⟩] 9)) := by
 obtain ⟨w1,h1⟩ : ∃ w1,w1 = w.alloc (.cells Zfm 90) := ⟨_,rfl⟩
 obtain ⟨w2,h2⟩ : ∃ w2,w2 = w1.alloc (.cells #[.string ⟨#[97]⟩,.string ⟨#[98]⟩] 9) := ⟨_,rfl⟩
 have z1 : w1.heap.size = w.heap.size + 1 := by rw [h1];simp
 have z2 : w2.heap.size = w.heap.size + 2 := by rw [h2];simp;omega
 have b1 : Below w.heap.size w w1 := by rw [h1];exact (Below.refl _ w).alloc (Nat.le_refl _) _
 have b2 : Below w1.heap.size w1 w2 := by rw [h2];exact (Below.refl _ w1).alloc (Nat.le_refl _) _
 have r1 : w1.heap[w.heap.size]? = some (.cells Zfm 90) := by rw [h1];exact Zck _ _
 have r2 : w2.heap[w.heap.size + 1]? = some (.cells #[.string ⟨#[97]⟩,.string ⟨#[98]⟩] 9) := by rw [h2,<- z1];exact Zck _ _
 have s1 := Zav r1 b2;rw [<- h1,<- h2];refine ⟨⟨_,_,rfl,Nat.le_refl _,(fun e => by cases e),fun _ => ⟨_,_,rfl,by omega,fun j hj => ?_⟩⟩,⟨_,_,rfl,Nat.le_refl _,(fun e => by cases e),fun _ => ⟨_,_,rfl,by omega,fun j hj => ?_⟩⟩,Zab b1 b2⟩
 ·have h3 : j < 2 := hj;match j,h3 with
  | 0,_ => exact ⟨Zac (j := 0) s1 rfl,Zac (j := 1) s1 rfl,Zac (j := 2) s1 rfl,_,Zac (j := 3) s1 rfl,XRow.nil _⟩
  | 1,_ => exact ⟨Zac (j := 4) s1 rfl,Zac (j := 5) s1 rfl,Zac (j := 6) s1 rfl,_,Zac (j := 7) s1 rfl,XRow.nil _⟩
 ·have h3 : j < 2 := hj;match j,h3 with
  | 0,_ => exact Zac (j := 0) r2 rfl
  | 1,_ => exact Zac (j := 1) r2 rfl
theorem Zmm {es : Nat -> Addr} {At : (Nat -> Prop) -> World -> Value -> Nat -> Cf.Ens -> Prop} {BAt : (Nat -> Prop) -> World -> Value -> Value -> Bf.Bd -> Prop} (HB : Builds es Af.actO At BAt) {W : World} (hW : BuildW W es) :
  Calls Tryz.prog 81 #[] W fun e w' => e = .returned (.bool true) /\ Below W.heap.size W w' := by
 have HBu := hid1 HB;have HW := hid1 (BuildB.of hW);have HT := hid1 (Zok W);clear HB hW;go_enter Tryz.func81,Tryz.ntmps81
 go_wp2_with fail;refine HT.out.mono ?_;rintro e w1 ⟨rfl,hT1,g1⟩;obtain ⟨hR2,hX2,g2⟩ := Zzg w1;have HT1 := hid1 hT1;have hz1 := hT1.lt;have HG1 := hid1 g1;clear HT hT1 g1;generalize hw2 : (w1.alloc (.cells Zfm 90)).alloc (.cells #[.string ⟨#[97]⟩,.string ⟨#[98]⟩] 9) = w2 at *;have G2 := Zab HG1.out g2
 have HNw := hid1 (HBu.out.new w2 W.heap.size W.heap.size [] _ _ Lp.l _ Lp.outs (.pointer none) (HW.out.below G2).w (HT1.out.below g2) (by unfold Tf.Rises;simp) (by simp) (by simp) hR2 (by simp) Lp.small hX2 (by simp) (by simp) ⟨_,rfl⟩)
 have HR2 := hid1 hR2;clear hR2 hX2 g2 HT1;go_wp2_with fail;refine HNw.out.mono ?_;rintro e w3 ⟨bv,ev,rfl,g3,hN3⟩;obtain ⟨rfl,p,S,rfl,hB3,hS3⟩ := hN3.getP;have hSl := HBu.out.lt _ _ _ _ _ hB3;have hz3 := g3.size;have hz2 := G2.size;have a4 : Below w3.heap.size w3 (w3.alloc (.cells #[.int .i64 1] 3)) := (Below.refl _ w3).alloc (Nat.le_refl _) _
 have hz4 : (w3.alloc (.cells #[.int .i64 1] 3)).heap.size = w3.heap.size + 1 := by simp
 have hZ4 : ZRow (w3.alloc (.cells #[.int .i64 1] 3)) (.slice (some ⟨w3.heap.size,0,none⟩) 1 1) [1] := ⟨_,_,rfl,fun _ => ⟨_,_,rfl,by simp,fun j hj => by
  obtain rfl : j = 0 := by simp at hj;omega
  exact Zac (j := 0) (Zck w3 (.cells #[.int .i64 1] 3)) rfl⟩⟩
 have G4 := Zab (Zab G2 g3) a4;have HPk := hid1 (Zjo HBu.out actFit (B := W.heap.size) (HBu.out.same _ _ _ _ _ _ hB3 a4.size fun k hk => a4.block k (hSl k hk)) (HW.out.below G4) (fun j hj => by have := hS3 j hj;omega) Lp.fault0 Lp.small Lp.fit0 _ [1] hZ4 (fun x hx => by obtain rfl := List.mem_singleton.1 hx;omega) (by simp) (fun _ g o n c e hS => by
  simp only [Value.slice.injEq,Option.some.injEq,Addr.mk.injEq] at e;have := hSl g hS;omega))
 have HS3 := hid1 (And.intro hS3 hSl);have HG := hid1 (And.intro G4 (Zab g3 a4));clear HNw hN3 hB3 hS3 hSl hZ4 a4 g3 G4 hw2;go_wp2_with fail;refine HPk.out.mono ?_;rintro e w5 ⟨u,rfl,S5,hB5,hS5,hO5,hrow5,-⟩;rw [Lp.picked] at hrow5;have g25 : Below w2.heap.size w2 w5 := (HG.out.2.mono (Nat.le_refl _)).trans (hO5.below (fun j hj => HS3.out.1 j hj) (by have := HG.out.2.size;omega))
 have G5 := Zab G2 g25;have HDp := hid1 (Zpe (HW.out.below G5).w.g _ Lp.l (HR2.out.below g25) (by simp) Lp.small)
 have hU5 : NIRow w5 u [1,0] := (NRow.of_owns hrow5).ni;obtain ⟨pu,cu,hu⟩ := Zay hrow5;subst hu;have HU5 := hid1 hU5;clear HPk hB5 hS5 hO5 hrow5 hU5 HR2;go_wp2_with fail;refine HDp.out.mono ?_;rintro e w6 ⟨n,ev6,rfl,g6,hD6⟩;obtain ⟨rfl,rfl⟩ : n = 1 /\ ev6 = .nilIface := by
  rcases hD6 with ⟨h1,_⟩ | ⟨_,h2,_⟩ | ⟨_,_,h3,h4⟩
  ·exact absurd Lp.fault0 h1
  ·rw [Lp.order1] at h2;cases h2
  ·rw [Lp.deep1] at h4;exact ⟨h4,h3⟩
 have a7 : Below w6.heap.size w6 (w6.alloc (.cells #[.int .i64 1,.int .i64 0] 3)) := (Below.refl _ w6).alloc (Nat.le_refl _) _;have hV7 : NIRow (w6.alloc (.cells #[.int .i64 1,.int .i64 0] 3)) (.slice (some ⟨w6.heap.size,0,none⟩) 2 2) [1,0] := ⟨_,_,rfl,fun _ => ⟨_,_,rfl,by simp,fun j hj => by
  have h3 : j < 2 := hj;match j,h3 with
  | 0,_ => exact Zac (j := 0) (Zck w6 (.cells #[.int .i64 1,.int .i64 0] 3)) rfl
  | 1,_ => exact Zac (j := 1) (Zck w6 (.cells #[.int .i64 1,.int .i64 0] 3)) rfl⟩⟩
 have HSi := hid1 (Zie _ _ [1,0] ((HU5.out.below g6).below a7) hV7 (by simp))
 have G7 := Zab G5 (Zab g6 a7);clear HDp hD6 hV7 a7 HU5 g6;go_wp2_with fail;refine HSi.out.mono ?_;rintro e w8 ⟨rfl,q8,rfl⟩;have G8 := Zad G7 q8;clear HSi;go_wp2;go_ret;exact ⟨rfl,G8⟩
end
end Go.Proofs.YtbgkfmodbofalaaGreatDoor
