import Derived.Test.YthchjnopgagilaaGreatDoorPA37
import Derived.Deep.LoopGhost
set_option maxRecDepth 100000
set_option maxHeartbeats 16000000
namespace Go.Proofs.YthchjnopgagilaaGreatDoor
open Go.RowKit Go.Shelf Go.Lib Go.Maps
theorem dom_go (c : Bf.Ca) (d : Bf.Bd) {i : Nat} (hr : d.isReady i = true) : (Bf.go Af.actO c d i).d.dom = d.dom := by
 funext k
 unfold Bf.Bd.dom Bf.Bd.dm
 simp only [Bf.go_no Af.actO c d hr k]
structure AllS (es : Nat → Addr) (bb bm n : Nat) (L : Lay) (cv : Value) (d : Bf.Bd) (c : Bf.Ca) (SC : Nat → Prop) (W1 : World) (r : Nat) (d' : Bf.Bd) (c' : Bf.Ca) (SC' : Nat → Prop) (wr : World) : Prop where
 l : d'.l = d.l
 dom : d'.dom = d.dom
 all : Bf.all Af.actO c d = Bf.all Af.actO c' d'
 fit : Bf.Fit d'
 cfit : Bf.CFit c'
 m : BuM es wr bb bm n L cv d'
 ca : CaAt CAt SC' wr cv c'
 sc : ∀ j,SC' j → SC j ∨ W1.heap.size ≤ j
 only : Only (fun j => BBlk bb bm d L j ∨ SC j) W1 wr
 row : wr.heap[r]? = some (.cells #[.int .i64 0,.int .i64 0,.int .i64 0,.int .i64 0] 103)
theorem AllS.below {es : Nat → Addr} {bb bm n : Nat} {L : Lay} {cv : Value} {d : Bf.Bd} {c : Bf.Ca} {SC : Nat → Prop} {W1 : World} {r : Nat} {d' : Bf.Bd} {c' : Bf.Ca} {SC' : Nat → Prop} {wr w' : World} (h : AllS es bb bm n L cv d c SC W1 r d' c' SC' wr) (hb : Below wr.heap.size wr w') : AllS es bb bm n L cv d c SC W1 r d' c' SC' w' :=
 ⟨h.l,h.dom,h.all,h.fit,h.cfit,h.m.below hb,h.ca.below hb,h.sc,h.only.trans (Only.of hb) fun _ hj => .inl hj,(hb.block r (Array.getElem?_eq_some_iff.1 h.row).1).trans h.row⟩
theorem AllS.blk {es : Nat → Addr} {bb bm n : Nat} {L : Lay} {cv : Value} {d : Bf.Bd} {c : Bf.Ca} {SC : Nat → Prop} {W1 : World} {r : Nat} {d' : Bf.Bd} {c' : Bf.Ca} {SC' : Nat → Prop} {wr : World} (h : AllS es bb bm n L cv d c SC W1 r d' c' SC' wr) (j : Nat) : BBlk bb bm d' L j ↔ BBlk bb bm d L j := by
 unfold BBlk
 rw [h.dom]
theorem AllS.next {es : Nat → Addr} {bb bm n : Nat} {L : Lay} {cv : Value} {d : Bf.Bd} {c : Bf.Ca} {SC : Nat → Prop} {W1 : World} {r : Nat} {d' : Bf.Bd} {c' : Bf.Ca} {SC' : Nat → Prop} {wr w' : World} (h : AllS es bb bm n L cv d c SC W1 r d' c' SC' wr) (hlt : ∀ j,BBlk bb bm d L j → j < r) (hSC : ∀ j,SC j → j < r) (hr1 : r < W1.heap.size) {i : Nat} {q : List Nat} (hq : d'.ready = i :: q) (hP : RunsPost es bb bm n L d' (Bf.go Af.actO c' d' i).d (Bf.go Af.actO c' d' i).c SC' wr cv w') :
  ∃ SC'',AllS es bb bm n L cv d c SC W1 r (Bf.go Af.actO c' d' i).d (Bf.go Af.actO c' d' i).c SC'' w' := by
 obtain ⟨p1,p2,SC'',p3,p4⟩ := hP
 have hm := Bf.mem_ready.1 (show i ∈ d'.ready by rw [hq];simp)
 have hgl := Bf.go_less Af.actO c' d' i hm.1 hm.2
 have hgf := Bf.go_fit (act := Af.actO) actFit (c := c') (d := d') h.cfit h.fit i
 have hz := h.only.size
 have hne : ∀ j,BBlk bb bm d' L j ∨ SC' j → j ≠ r := fun j hj e => by
  rcases hj with h1 | h1
  ·have := hlt j ((h.blk j).1 h1)
   omega
  ·rcases h.sc j h1 with h2 | h2
   ·have := hSC j h2
    omega
   ·omega
 refine ⟨SC'',hgl.2.1.trans h.l,(dom_go c' d' hm.2).trans h.dom,h.all.trans (Bf.all_cons Af.actO c' d' hq),hgf.1,hgf.2,p1,p3,fun j hj => ?_,?_,?_⟩
 ·rcases p4 j hj with h1 | h1
  ·exact h.sc j h1
  ·exact .inr (by omega)
 ·refine h.only.trans p2 fun j hj => ?_
  rcases hj with h1 | h1
  ·exact .inl (.inl ((h.blk j).1 h1))
  ·exact (h.sc j h1).imp_left .inr
 ·exact (p2.block r (Array.getElem?_eq_some_iff.1 h.row).1 fun e => hne r e rfl).trans h.row
theorem AllS.done {es : Nat → Addr} {bb bm n : Nat} {L : Lay} {cv : Value} {d : Bf.Bd} {c : Bf.Ca} {SC : Nat → Prop} {W W1 : World} {d' : Bf.Bd} {c' : Bf.Ca} {SC' : Nat → Prop} {wr : World} (h : AllS es bb bm n L cv d c SC W1 W.heap.size d' c' SC' wr) (hlt : ∀ j,BBlk bb bm d L j → j < W.heap.size) (hSC : ∀ j,SC j → j < W.heap.size) (hr1 : W1.heap.size = W.heap.size + 1) (gA : Below W.heap.size W W1) (hq : d'.ready = []) (x0 x1 x2 x3 : Value) :
  RunsPost es bb bm n L d (Bf.all Af.actO c d).1 (Bf.all Af.actO c d).2 SC W cv ((((wr.setCell ⟨W.heap.size,0,none⟩ x0).setCell ⟨W.heap.size,1,none⟩ x1).setCell ⟨W.heap.size,2,none⟩ x2).setCell ⟨W.heap.size,3,none⟩ x3) := by
 have hs : ∀ j,j ≠ W.heap.size → ((((wr.setCell ⟨W.heap.size,0,none⟩ x0).setCell ⟨W.heap.size,1,none⟩ x1).setCell ⟨W.heap.size,2,none⟩ x2).setCell ⟨W.heap.size,3,none⟩ x3).heap[j]? = wr.heap[j]? := fun j hj => by
  rw [Below.heap_setCell _ _ _ j hj,Below.heap_setCell _ _ _ j hj,Below.heap_setCell _ _ _ j hj,Below.heap_setCell _ _ _ j hj]
 have hz := h.only.size
 rw [h.all,Bf.all_nil Af.actO c' d' hq]
 refine ⟨h.m.same fun j hj => hs j fun e => ?_,⟨?_,?_,?_,?_,fun j hj hn => ?_⟩,SC',h.ca.same (by simp) fun j hj => hs j fun e => ?_,fun j hj => ?_⟩
 ·have := hlt j ((h.blk j).1 hj)
  omega
 ·exact h.only.os.trans gA.os
 ·exact h.only.tape.trans gA.tape
 ·exact h.only.output.trans gA.output
 ·simp
  omega
 ·rw [hs j (by omega),h.only.block j (by omega) hn]
  exact gA.block j hj
 ·rcases h.sc j hj with h2 | h2
  ·have := hSC j h2
   omega
  ·omega
 ·exact (h.sc j hj).imp_right fun h2 => by omega
theorem buAll_calls {es : Nat → Addr} {W : World} {bb bm n B : Nat} {L : Lay} {cv : Value} {d : Bf.Bd} {c : Bf.Ca} {SC : Nat → Prop} (hM : BuM es W bb bm n L cv d) (hC : CaAt CAt SC W cv c) (hap : ∀ j,BBlk bb bm d L j → ¬ SC j) (hW : BuildB B W es) (hSB : ∀ j,BBlk bb bm d L j → B ≤ j) (hSC : ∀ j,SC j → B ≤ j) (hS : ∀ x ∈ d.l,x.Small) (hl : d.l.length ≤ 1000) (hfit : Bf.Fit d) (hcf : Bf.CFit c) :
  Calls Tryz.prog 62 #[Ptr bb] W fun e w' => e = .returned (.agg #[.int .i64 ((Bf.all Af.actO c d).1.ran : Nat),.int .i64 ((Bf.all Af.actO c d).1.hits : Nat),.int .i64 ((Bf.all Af.actO c d).1.fails : Nat),.int .i64 ((Bf.all Af.actO c d).1.lefts : Nat)]) ∧ RunsPost es bb bm n L d (Bf.all Af.actO c d).1 (Bf.all Af.actO c d).2 SC W cv w' := by
 obtain ⟨W1,hW1⟩ : ∃ W1,W1 = W.alloc (.cells #[.int .i64 0,.int .i64 0,.int .i64 0,.int .i64 0] 103) := ⟨_,rfl⟩
 have hz1 : W1.heap.size = W.heap.size + 1 := by rw [hW1];simp
 have gA : Below W.heap.size W W1 := by rw [hW1];exact (Below.refl _ W).alloc (Nat.le_refl _) _
 have hr1 : W1.heap[W.heap.size]? = some (.cells #[.int .i64 0,.int .i64 0,.int .i64 0,.int .i64 0] 103) := by rw [hW1];exact row_new _ _
 have HA0 : Hid (AllS es bb bm n L cv d c SC W1 W.heap.size d c SC W1) := hid1 ⟨rfl,rfl,rfl,hfit,hcf,hM.below gA,hC.below gA,fun j hj => .inl hj,Only.refl _ _,hr1⟩
 have HLt := hid1 hM.lt
 have HCl := hid1 hC.lt
 have HAp := hid1 hap
 have HSC := hid1 hSC
 have HSB := hid1 hSB
 have HW1 := hid1 (hW.below gA)
 have HBl := hid1 hW.le
 have HSm := hid1 hS
 have HGA := hid1 gA
 have HRd0 := hid1 (buReady_calls (hM.below gA) hl)
 have HE1 := hid1 hW1
 clear hM hC hap hW hSC hS hfit hcf hr1 gA
 go_enter Tryz.func62,Tryz.ntmps62
 rw [hW1] at HRd0
 go_wp2_with fail
 refine HRd0.out.mono ?_
 rintro e w2 ⟨u0,rfl,hu0,g2⟩
 rw [← hW1] at g2
 have HU0 := hid1 hu0
 have HA2 := hid1 (HA0.out.below g2)
 obtain ⟨p0,k0,e0,-⟩ := hu0
 subst e0
 have HUX := HU0
 clear HRd0 HA0 g2 HU0
 go_wp2
 go_loopg [3] (d.waits) (fun gn lv wr => ∃ (d' : Bf.Bd) (c' : Bf.Ca) (SC' : Nat → Prop),d'.waits = gn ∧ AllS es bb bm n L cv d c SC W1 W.heap.size d' c' SC' wr ∧ NIRow wr lv d'.ready)
 case atStart => exact ⟨d,c,SC,rfl,HA2.out,HUX.out⟩
 case round =>
  clear HA2 HUX
  obtain ⟨d',c',SC',hgn,hA,hu⟩ := hrel
  have HA := hid1 hA
  have HGn := hid1 hgn
  have hl' : d'.l.length ≤ 1000 := by rw [hA.l];exact hl
  have hrl : d'.ready.length ≤ 1000 := Nat.le_trans (Bf.readyTo_len d' d'.l.length) hl'
  have HU := hid1 hu
  obtain ⟨p3,c3,rfl,-⟩ := hu
  clear hA hgn
  cases hq : d'.ready with
  | nil =>
   have HCt := hid1 (buCount_calls HA.out.m hl')
   have HDn := hid1 fun w5 (g5 : Below wr.heap.size wr w5) => (HA.out.below g5).done HLt.out HCl.out hz1 HGA.out hq
   have HEq : Hid ((Bf.all Af.actO c d).1 = d') := hid1 (by rw [HA.out.all,Bf.all_nil Af.actO c' d' hq])
   have HRow := hid1 fun w5 (g5 : Below wr.heap.size wr w5) => (HA.out.below g5).row
   clear hq HU
   go_wp2_with fail
   refine HCt.out.mono ?_
   rintro e w5 ⟨rfl,g5⟩
   have rr := HRow.out w5 g5
   have HP := hid1 (HDn.out w5 g5)
   have z0 := cell_of_row (j := 0) rr rfl
   have z1 := cell_of_row (j := 1) rr rfl
   have z2 := cell_of_row (j := 2) rr rfl
   have z3 := cell_of_row (j := 3) rr rfl
   have f0 : w5.frozen? ⟨W.heap.size,0,none⟩ = false := by simp [World.frozen?,rr]
   have f1 : w5.frozen? ⟨W.heap.size,1,none⟩ = false := by simp [World.frozen?,rr]
   have f2 : w5.frozen? ⟨W.heap.size,2,none⟩ = false := by simp [World.frozen?,rr]
   have f3 : w5.frozen? ⟨W.heap.size,3,none⟩ = false := by simp [World.frozen?,rr]
   have qq := hid1 (count_cells rr (.int .i64 (d'.ran : Nat)) (.int .i64 (d'.hits : Nat)) (.int .i64 (d'.fails : Nat)) (.int .i64 (d'.lefts : Nat)))
   clear rr HCt HDn HRow HA
   go_wp2
   refine bodyPost_ret (v := .agg #[.int .i64 (d'.ran : Nat),.int .i64 (d'.hits : Nat),.int .i64 (d'.fails : Nat),.int .i64 (d'.lefts : Nat)]) ?_ rfl ⟨by rw [HEq.out],HP.out _ _ _ _⟩
   obtain ⟨q0,q1,q2,q3⟩ := qq.out
   simp [results,Tryz.f62,go_sem,q0,q1,q2,q3]
  | cons i q =>
   have hm := Bf.mem_ready.1 (show i ∈ d'.ready by rw [hq];simp)
   obtain ⟨g3,o3,rfl,hg3,hc3⟩ := NIRow.at HU.out (by rw [hq];simp)
   have d0 := hc3 0 (by rw [hq];simp)
   have e0 : d'.ready[0]'(by rw [hq];simp) = i := by simp [hq]
   rw [e0,Nat.add_zero] at d0
   have HRn := hid1 (buRun_calls HA.out.m HA.out.ca (fun j hj h1 => by
    have hj' := (HA.out.blk j).1 hj
    rcases HA.out.sc j h1 with h2 | h2
    ·exact HAp.out j hj' h2
    ·have := HLt.out j hj'
     omega) (HW1.out.only HA.out.only fun j hj => hj.elim (HSB.out j) (HSC.out j)) (fun j h1 => by
    rcases HA.out.sc j h1 with h2 | h2
    ·exact HSC.out j h2
    ·have := HBl.out
     omega) (by rw [HA.out.l];exact HSm.out) HA.out.fit HA.out.cfit (i : Nat) (by omega) (by have := hm.1;omega))
   rw [Bf.run_ready Af.actO c' d' i hm.1 hm.2] at HRn
   have HNx := hid1 fun w6 hP => HA.out.next (w' := w6) HLt.out HCl.out (by omega) hq hP
   have hless := (Bf.go_less Af.actO c' d' i hm.1 hm.2).1
   have HIl := hid1 hm.1
   rw [hq,List.length_cons] at hrl
   rw [List.length_cons]
   have zq : (0 : Int) < (q.length : Int) + 1 := by omega
   clear hq HU hc3 hm e0 HA
   go_wp2_with fail
   refine HRn.out.mono ?_
   rintro e w6 ⟨rfl,hP⟩
   obtain ⟨SC'',hA6⟩ := HNx.out w6 hP
   have HA6 := hid1 hA6
   have HRd := hid1 (buReady_calls hA6.m (by rw [hA6.l];exact hl))
   clear HRn HNx hP hA6
   go_wp2_with fail
   refine HRd.out.mono ?_
   rintro e w7 ⟨u7,rfl,hu7,g7⟩
   have HA7 := hid1 (HA6.out.below g7)
   have HU7 := hid1 hu7
   obtain ⟨p7,c7,rfl,-⟩ := hu7
   clear HRd HA6 g7
   go_wp2
   go_roundg ((Bf.go Af.actO c' d' i).d.waits)
   case measure => rw [← HGn.out];exact hless
   case rel => exact ⟨_,_,SC'',rfl,HA7.out,HU7.out⟩
end Go.Proofs.YthchjnopgagilaaGreatDoor
namespace Go.Proofs.YthchjnopgagilaaGreatDoor
open Go.RowKit Go.Shelf Go.Lib
open Go.Sort (Holds putRow grow)
theorem grOrder1_calls (x : Nat) (W : World) : Calls Tryz.prog 120 #[nv x] W fun e w' => e = .returned (.bool true) ∧ w' = W := by
 go_enter Tryz.func120,Tryz.ntmps120
 go_wp2
 go_ret
 exact ⟨rfl,rfl⟩
theorem grOrderOf1_calls {W : World} {l : List Ru} {p bm G : Nat} {vals : Nat → Value} (hS : ShAt W l p bm G vals) (sb lb : Nat) (hs : W.cell? ⟨sb,0,none⟩ = some (.pointer (some ⟨p,0,none⟩))) (vl : Value) (ll : List Nat) (hl : W.cell? ⟨lb,0,none⟩ = some vl) (hrow : NIRow W vl ll) (hll : ll.length ≤ 1000) (x : Nat) (hx : x < l.length) (h12 : l[x].ins.length ≤ 12) :
  Calls Tryz.prog 187 #[nv x,.pointer (some ⟨sb,0,none⟩),.pointer (some ⟨lb,0,none⟩)] W fun e w' => e = .returned (.bool (!((Ru.needL l l[x].ins).any fun y => decide (y ∈ ll)))) ∧ Below W.heap.size W w' := by
 obtain ⟨d0,r0⟩ := hS.row x hx
 have h1 := hS.c1
 have hlen := Ru.needL_len l l[x].ins
 have HM := hid1 fun W' (g : Below W.heap.size W W') => grmeet_calls (vals x) vl (Ru.needL l l[x].ins) ll (r0.below g) (hrow.below g) (by omega) (by omega)
 have c0 : (0 : Int) ≤ (x : Int) := by omega
 have c1 : (x : Int) < (l.length : Int) := by omega
 obtain ⟨p1,k1,e1,-⟩ := r0
 rw [e1] at d0 HM
 obtain ⟨p2,k2,rfl,-⟩ := hrow
 generalize ((Ru.needL l l[x].ins).any fun y => decide (y ∈ ll)) = d at *
 generalize (Ru.needL l l[x].ins).length = m at *
 clear hS hlen e1
 go_enter Tryz.func187,Tryz.ntmps187
 go_wp2
 go_region_held3 (fun w' => w'.cell? ⟨sb,0,none⟩ = some (.pointer (some ⟨p,0,none⟩)) ∧ w'.cell? ⟨p,1,none⟩ = some (.slice (some ⟨G,0,none⟩) l.length l.length) ∧ w'.cell? ⟨G,x,none⟩ = some (.slice p1 m k1) ∧ w'.cell? ⟨lb,0,none⟩ = some (.slice p2 ll.length k2)) (first | go_keep | fail)
  (first | (go_at_call 188;refine (HM.out _ (by exact (Below.refl _ W).drew)).mono ?_;rintro e w5 ⟨rfl,g5⟩;have e0 := cell_below' (w := W.drew) hs g5;have e1 := cell_below' (w := W.drew) h1 g5;have e2 := cell_below' (w := W.drew) d0 g5;have e3 := cell_below' (w := W.drew) hl g5) | fail)
 all_goals
  go_wp2
  go_ret
  exact ⟨rfl,below_then ((Below.refl _ W).drew) g5⟩
def SomeTells (es : Nat → Addr) (l : List Ru) (ch : Nat → Bool) (w : World) (u ev : Value) : Prop :=
 ((Ru.fault l).1 ≠ 0 ∧ ErrV w es ev (Ru.fault l) ∧ NoRow u) ∨
 ((Ru.fault l).1 = 0 ∧ Ru.order l ch = none ∧ ev = erOf es 9 ∧ NoRow u) ∨
 ((Ru.fault l).1 = 0 ∧ ∃ o,Ru.order l ch = some o ∧ ev = .nilIface ∧ NIRow w u o)
def NewI (B : Nat) (u : Value) : Prop := ∀ p n c,u = .slice (some p) n c → B ≤ p.block
theorem NewI.of_owns {w : World} {B C e size n : Nat} {u : Value} {xs : List Value} (h : w.ownsRow B e size u n xs) (hC : C ≤ B) : NewI C u := fun p k c eu => by
 rcases h.2 with ⟨h',_⟩ | ⟨g,cap,cur,h',hb,_⟩
 ·rw [h'] at eu;cases eu
 ·rw [h'] at eu;cases eu;exact Nat.le_trans hC hb
theorem grOrderOf_new {w : World} {es : Nat → Addr} (hW : GraphW w es) (v : Value) (l : List Ru) (hrow : RRow w v l) (hn : l.length ≤ 1000) (hS : ∀ x ∈ l,x.Small) (f : Nat) (caps : Array Value) (eg : ∀ args w,(callFunc f args).run Tryz.prog w = .ok (.enter f args) w)
  (ch : Nat → Bool) (Hcl : Hid (∀ i k,ch i = true → Ru.needs l i k = true → ch k = true))
  (HF : Hid (∀ (x : Nat) (W : World),x < l.length → Below w.heap.size w W → Calls Tryz.prog f (#[nv x] ++ caps) W fun e w' => e = .returned (.bool (ch x)) ∧ Below W.heap.size W w')) :
  Calls Tryz.prog 119 #[v,.func (.func f) #[] caps] w fun e w' => ∃ u ev,e = .returned (.tuple #[u,ev]) ∧ Below w.heap.size w w' ∧ SomeTells es l ch w' u ev ∧ NewI w.heap.size u := by
 have HL := hid1 (grlook_calls hW.s v l hrow hn hS)
 have H12 : Hid (∀ i (hi : i < l.length),l[i].ins.length ≤ 12) := hid1 fun i hi => (hS _ (List.getElem_mem hi)).many
 have hcyc := hW.cyc
 obtain ⟨i1,hI,hI0,hI1,hI2⟩ := info_parts Tryz.infoInt
 obtain ⟨pr,cap,rfl,-⟩ := hrow
 have zn : (l.length : Int) ≤ 1000 := by omega
 clear hS hW
 go_enter Tryz.func119,Tryz.ntmps119
 go_wp2_with fail
 refine HL.out.mono ?_
 rintro e w1 ⟨u,ev,rfl,g1,hT⟩
 rcases hT with ⟨hf,hE,rfl,t,x,rfl⟩ | ⟨hf,rfl,p,bm,G,vals,rfl,hSh⟩
 ·have HE := hid1 hE
  have HZ := hid1 hf
  clear HL hE hf
  go_wp2
  go_ret2
  have gA : Below w1.heap.size w1 (w1.alloc (.cells #[.pointer none] 191)) := (Below.refl _ w1).alloc (Nat.le_refl _) _
  exact ⟨_,_,rfl,below_then g1 gA,.inl ⟨HZ.out,HE.out.below gA,_,_,rfl⟩,fun p n c e => by cases e⟩
 ·obtain ⟨h40,hA⟩ := Ru.fault_ok hf
  have HZ := hid1 hf
  have HA := hid1 hA
  have HSh := hid1 hSh
  have hcy1 := cell_below' hcyc g1
  have htop := hSh.c1
  have hlp := lt_of_cell htop
  simp only at hlp
  clear HL hf hA hSh hcyc
  go_wp2
  go_loopw [25] (fun iv wr => ∃ (k : Nat) (vl : Value),k ≤ l.length ∧ iv = .int .i64 k ∧ OrdL w1 wr (w1.heap.size + 2) w1.heap.size (w1.heap.size + 1) p vl ((List.range k).filter ch)) (fun iv _ => l.length - (intOf iv).toNat)
  case atStart =>
   exact ⟨0,.slice none 0 0,Nat.zero_le _,rfl,OrdL.make w1 p⟩
  case round =>
   obtain ⟨k,vl,hk,rfl,hO⟩ := hrel
   have HO := hid1 hO
   clear hO
   have c0 : (0 : Int) ≤ (k : Int) := by omega
   by_cases hlt : k < l.length
   ·have c1 : (k : Int) < (l.length : Int) := by omega
    have HC := HF.out k wr hlt (below_then g1 HO.out.below)
    have hcl := HO.out.cl
    have hfl := HO.out.fl
    have hrw := HO.out.row
    have hbz := HO.out.size
    have hrl : ((List.range k).filter ch).length ≤ k := by simpa using List.length_filter_le ch (List.range k)
    have hml3 : ((List.range k).filter ch).length + 1 ≤ maxLen := by unfold maxLen;omega
    clear HF
    go_wp2_with fail
    refine Calls.mono HC ?_
    rintro e w2 ⟨rfl,g2⟩
    clear HC
    have HO2 := hid1 (HO.out.grown g2)
    clear hcl hfl hrw hbz
    have hcl := HO2.out.cl
    have hfl := HO2.out.fl
    have hrw := HO2.out.row
    have hbz := HO2.out.size
    clear HO
    cases hck : ch k with
    | false =>
     have HQ : Hid (OrdL w1 w2 (w1.heap.size + 2) w1.heap.size (w1.heap.size + 1) p vl ((List.range (k + 1)).filter ch)) := hid1 (by
      rw [List.range_succ,List.filter_append,List.filter_cons_of_neg (by rw [hck];simp)]
      simpa using HO2.out)
     clear HO2 hcl hfl hrw hbz
     go_wp2
     exact ⟨⟨k + 1,_,by omega,by go_num,HQ.out⟩,by simp [intOf];omega⟩
    | true =>
     have HAp := hid1 fun (W1 W' : World) (vl' : Value) (hb : Below w2.heap.size w2 W1) (hg : W1.grownBy W' vl.ownBlock) (hr : W'.ownsRow (w1.heap.size + 2) 3 1 vl' (((List.range k).filter ch).length + 1) (((List.range k).filter ch).map nv ++ [nv k])) => HO2.out.append (ll' := (List.range (k + 1)).filter ch) (vl' := vl') hb hg (by rw [List.range_succ,List.filter_append,List.filter_cons_of_pos (by rw [hck])];simpa using hr)
     obtain ⟨pv,cv,rfl,-⟩ := NRow.of_owns hrw
     generalize ((List.range k).filter ch).length = m at *
     go_wp2_with (first
      | (at_builtin;refine wpList_append_own _ rfl _ _ 68 rfl (w1.heap.size + 2) 3 i1 (.int .i64 0) 1 8 Tryz.underlying68 hI hI0 hI1 hI2 rfl (by decide) _ _ _ rfl (hrw.alloc _) ⟨w2.heap.size,0,none⟩ 1 1 [nv k] rfl rfl (one_new _ _ _ _ (by simp)) (by simp [Value.oneCell']) hml3 (by omega) (by simp;omega) ?_;intro v' w4 hown' hgrow _;(obtain ⟨p',c',rfl⟩ := own_slice hown');(obtain ⟨q1,q2,q3⟩ := HAp.out _ _ _ (by exact (Below.refl _ w2).alloc (Nat.le_refl _) _) hgrow hown');(have HQ := hid1 q3);clear q3 hown' hgrow)
      | go_in)
     exact ⟨⟨k + 1,_,by omega,by go_num,HQ.out⟩,by simp [intOf];omega⟩
   ·have c1 : (l.length : Int) ≤ (k : Int) := by omega
    obtain rfl : k = l.length := by omega
    have HS0 : Hid (OrdS w1 wr wr.heap.size w1.heap.size (w1.heap.size + 1) p vl (Ru.left ch l.length []) (.slice none 0 0) []) := hid1 (by
     have := HO.out.turn
     rwa [← Ru.left_nil] at this)
    have HF0 := hid1 (Ru.Ord.first ch l)
    clear HO HF
    generalize wr = w3 at *
    generalize hB2 : w3.heap.size = B2 at *
    go_wp2
    go_loopw [9] (fun ov wx => ∃ (o : List Nat) (vl : Value),Ru.Ord ch l o ∧ OrdS w1 wx B2 w1.heap.size (w1.heap.size + 1) p vl (Ru.left ch l.length o) ov o) (fun ov _ => l.length + 1 - slen ov)
    case atStart => exact ⟨[],vl,HF0.out,HS0.out⟩
    case round =>
     clear HS0 HF0 vl
     obtain ⟨o,vl,hOrd,hS⟩ := hrel
     have HOr := hid1 hOrd
     have HS := hid1 hS
     have holen := hOrd.len
     clear hOrd hS
     have hcl := HS.out.cl
     by_cases hem : Ru.left ch l.length o = []
     ·have HD := hid1 (Ru.ord_done HOr.out.ord holen hem)
      have HN : Hid (NIRow wr u9 o) := hid1 (NRow.of_owns HS.out.row).ni
      obtain ⟨a,c,rfl⟩ : ∃ a c,vl = .slice a 0 c := by
       rcases HS.out.left with ⟨_,h⟩ | ⟨g,cap,h,_⟩
       ·exact h
       ·exact ⟨_,cap,by rw [h,hem];rfl⟩
      have gB := below_then g1 HS.out.below
      have HNw : Hid (NewI w.heap.size u9) := hid1 (NewI.of_owns HS.out.row (Nat.le_trans g1.size HS.out.low2))
      clear HOr HS hem
      go_wp2
      go_ret2
      exact ⟨_,_,rfl,gB,.inr (.inr ⟨HZ.out,o,HD.out,rfl,HN.out⟩),HNw.out⟩
     ·obtain ⟨g,cpl,rfl,hroom,hcm,hH,hlg,hgB,hgs,hgl⟩ := HS.out.left.resolve_left (fun h => hem h.1)
      have hll := Ru.left_len ch l.length o
      have hpos : 0 < (Ru.left ch l.length o).length := List.length_pos_iff.2 hem
      have hz1 : (0 : Int) < ((Ru.left ch l.length o).length : Int) := by omega
      have hgw : g < wr.heap.size := by have := HS.out.size;omega
      have hni := Holds.ni (cap := cpl) hH hgw
      have HX := hid1 (indexFuncI_calls (w := wr) (.slice (some ⟨g,0,none⟩) (Ru.left ch l.length o).length cpl) (Ru.left ch l.length o) hni (by omega) 187 #[.pointer (some ⟨w1.heap.size,0,none⟩),.pointer (some ⟨w1.heap.size + 1,0,none⟩)] (enters_of Tryz.func187 (by kernel_rfl) rfl) (fun x => Ru.freeTo l (Ru.isIn o) x l.length)
       (hid1 fun x hx W gW => by
        have hxl := (Ru.left_mem.1 hx).1
        have hxc := (Ru.left_mem.1 hx).2.1
        have := grOrderOf1_calls ((HSh.out.below HS.out.below).below gW) w1.heap.size (w1.heap.size + 1) (cell_below' HS.out.cs gW) _ _ (cell_below' HS.out.cl gW) (hni.below gW) (by omega) x hxl (H12.out x hxl)
        rw [Ru.free_eq HA.out hxl fun k hk => Hcl.out x k hxc hk] at this
        exact this))
      have HNone := hid1 fun (h : ∀ x ∈ Ru.left ch l.length o,Ru.freeTo l (Ru.isIn o) x l.length = false) => Ru.ord_none HOr.out.ord holen hem (Ru.left_none (b := fun x => Ru.freeTo l (Ru.isIn o) x l.length) (fun _ _ => rfl) h)
      have HMore := hid1 fun (k : Nat) (hk : k < (Ru.left ch l.length o).length) h1 h2 => HOr.out.more (b := fun x => Ru.freeTo l (Ru.isIn o) x l.length) (fun _ _ => rfl) hk h1 h2
      have HDel := hid1 fun (k : Nat) (hk : k < (Ru.left ch l.length o).length) => Ru.left_del (ch := ch) (n := l.length) (o := o) hk
      clear hni hH HOr
      go_wp2_with fail
      refine HX.out.mono ?_
      rintro e w5 ⟨r,rfl,g5,hr⟩
      clear HX
      rcases hr with ⟨rfl,hno⟩ | ⟨k,rfl,hk,hk1,hk2⟩
      ·have HD := hid1 (HNone.out hno)
       have hcy5 := cell_below' hcy1 (HS.out.grown g5).below
       have gB := below_then g1 (HS.out.grown g5).below
       clear HNone HMore HDel hno
       go_wp2
       go_region
       go_wp2
       go_ret2
       exact ⟨_,_,rfl,gB.drew,.inr (.inl ⟨HZ.out,HD.out,rfl,_,_,rfl⟩),fun p n c e => by cases e⟩
      ·have HO2 := hid1 (HMore.out k hk hk1 hk2)
       have HD2 := hid1 (HDel.out k hk)
       have hS5 := HS.out.grown g5
       have hsl := owns_slen hS5.row
       have hlb5 := hS5.cl
       have hr5 := hS5.row
       have hbz := hS5.size
       have hd5 : w5.cell? ⟨g,k,none⟩ = some (nv (Ru.left ch l.length o)[k]) := by
        obtain ⟨g',c',e',-,-,hH',-⟩ := hS5.left.resolve_left (fun h => hem h.1)
        obtain ⟨rfl,rfl⟩ : g = g' ∧ cpl = c' := by
         simp only [Value.slice.injEq,Option.some.injEq,Addr.mk.injEq] at e'
         exact ⟨e'.1.1,e'.2.2⟩
        have := (hH' k (by simpa using hk)).1
        rwa [Nat.zero_add,ints_get hk] at this
       have HS5 := hid1 hS5
       have k0 : (0 : Int) ≤ (k : Int) := by omega
       have k1 : (k : Int) < ((Ru.left ch l.length o).length : Int) := by omega
       have k2 : (k : Int) ≤ 1000 := by omega
       have hml3 : o.length + 1 ≤ maxLen := by unfold maxLen;omega
       clear HNone HMore HDel hk1 hk2 HS hS5 hcl
       generalize hy : (Ru.left ch l.length o)[k] = y at *
       clear hy
       have HAp := hid1 fun (w6 : World) (v6 : Value) (hg : (w5.alloc (.cells #[nv y] 3)).grownBy w6 u9.ownBlock) (hr : w6.ownsRow B2 3 1 v6 (o.length + 1) (o.map nv ++ [nv y])) => HS5.out.append (o' := o ++ [y]) ((Below.refl _ w5).alloc (Nat.le_refl _) _) hg (by simpa using hr)
       go_wp2_with (first
        | (at_builtin;refine wpList_append_own _ rfl _ _ 68 rfl B2 3 i1 (.int .i64 0) 1 8 Tryz.underlying68 hI hI0 hI1 hI2 rfl (by decide) _ _ _ rfl (hr5.alloc _) ⟨w5.heap.size,0,none⟩ 1 1 [nv y] rfl rfl (one_new _ _ _ _ (by simp)) (by simp [Value.oneCell']) hml3 (by omega) (by simp;omega) ?_;intro v6 w6 hown6 hgrow6 _;(have hs6 := owns_slen hown6);(have hS6 := HAp.out _ _ hgrow6 hown6);(have hlb6 := hS6.cl);clear hown6 hgrow6)
        | fail)
       have hH6 : Holds encI w6 g 0 (ints (Ru.left ch l.length o)).toArray := by
        obtain ⟨g',c',e',-,-,hH',-⟩ := hS6.left.resolve_left (fun h => hem h.1)
        obtain ⟨rfl,rfl⟩ : g = g' ∧ cpl = c' := by
         simp only [Value.slice.injEq,Option.some.injEq,Addr.mk.injEq] at e'
         exact ⟨e'.1.1,e'.2.2⟩
        exact hH'
       have HDl := hid1 (deleteI_calls g cpl (Ru.left ch l.length o) k hk hH6 hroom hcm)
       have HS6 := hid1 hS6
       have HGo := hid1 fun (W' : World) (hg : w6.grownBy W' (some g)) (hH : Holds encI W' g 0 (ints ((Ru.left ch l.length o).take k ++ (Ru.left ch l.length o).drop (k + 1))).toArray) => hS6.gone hem hg hH (by simp;omega)
       rw [HD2.out] at HDl HGo
       clear hS6 hH6 HS5 hr5 hd5 hlb5 HD2 HAp
       refine HDl.out.mono ?_
       rintro e w7 ⟨rfl,hH7,hg7⟩
       obtain ⟨q1,q2,q3⟩ := HGo.out w7 hg7 hH7
       have HQ := hid1 q3
       clear HDl HGo hH7 hg7 q3
       go_wp2
       exact ⟨⟨o ++ [y],_,HO2.out,HQ.out⟩,by rw [hs6,hsl];omega⟩
theorem grOrderOf_calls {w : World} {es : Nat → Addr} (hW : GraphW w es) (v : Value) (l : List Ru) (hrow : RRow w v l) (hn : l.length ≤ 1000) (hS : ∀ x ∈ l,x.Small) (f : Nat) (caps : Array Value) (eg : ∀ args w,(callFunc f args).run Tryz.prog w = .ok (.enter f args) w)
  (ch : Nat → Bool) (Hcl : Hid (∀ i k,ch i = true → Ru.needs l i k = true → ch k = true))
  (HF : Hid (∀ (x : Nat) (W : World),x < l.length → Below w.heap.size w W → Calls Tryz.prog f (#[nv x] ++ caps) W fun e w' => e = .returned (.bool (ch x)) ∧ Below W.heap.size W w')) :
  Calls Tryz.prog 119 #[v,.func (.func f) #[] caps] w fun e w' => ∃ u ev,e = .returned (.tuple #[u,ev]) ∧ Below w.heap.size w w' ∧ SomeTells es l ch w' u ev :=
 (grOrderOf_new hW v l hrow hn hS f caps eg ch Hcl HF).mono fun _ _ ⟨u,ev,h1,h2,h3,_⟩ => ⟨u,ev,h1,h2,h3⟩
theorem gOrder_new {w : World} {es : Nat → Addr} (hW : GraphW w es) (v : Value) (l : List Ru) (hrow : RRow w v l) (hn : l.length ≤ 1000) (hS : ∀ x ∈ l,x.Small) :
  Calls Tryz.prog 42 #[v] w fun e w' => ∃ u ev,e = .returned (.tuple #[u,ev]) ∧ Below w.heap.size w w' ∧ OrderTells es l w' u ev ∧ NewI w.heap.size u := by
 have HC := hid1 (grOrderOf_new hW v l hrow hn hS 120 #[] (enters_of Tryz.func120 (by kernel_rfl) rfl) allB1 (hid1 fun _ _ _ _ => rfl) (hid1 fun x W _ _ => (grOrder1_calls x W).mono fun e w' h => ⟨h.1,by rw [h.2];exact Below.refl _ W⟩))
 obtain ⟨pr,cap,rfl,-⟩ := hrow
 clear hS hW
 go_enter Tryz.func42,Tryz.ntmps42
 go_wp2_with fail
 refine HC.out.mono ?_
 rintro e w1 ⟨u,ev,rfl,g1,hT⟩
 have HT : Hid (OrderTells es l w1 u ev ∧ NewI w.heap.size u) := hid1 hT
 clear HC hT
 go_wp2
 go_ret2
 exact ⟨_,_,rfl,g1,HT.out.1,HT.out.2⟩
theorem gOrder_calls {w : World} {es : Nat → Addr} (hW : GraphW w es) (v : Value) (l : List Ru) (hrow : RRow w v l) (hn : l.length ≤ 1000) (hS : ∀ x ∈ l,x.Small) :
  Calls Tryz.prog 42 #[v] w fun e w' => ∃ u ev,e = .returned (.tuple #[u,ev]) ∧ Below w.heap.size w w' ∧ OrderTells es l w' u ev :=
 (gOrder_new hW v l hrow hn hS).mono fun _ _ ⟨u,ev,h1,h2,h3,_⟩ => ⟨u,ev,h1,h2,h3⟩
end Go.Proofs.YthchjnopgagilaaGreatDoor
namespace Go.Proofs.YthchjnopgagilaaGreatDoor
open Go.RowKit Go.Shelf Go.Lib Go.Maps
theorem OfS.build {es : Nat → Addr} {W0 w1 : World} {l : List Ru} {fs : Tf.Fs} {bm mb : Nat} {ord : List Nat} {L : Lay} (h : OfS es W0 l fs (ruOf l) bm mb ord L w1) (hA : Ru.Apart l) (hS : ∀ x ∈ l,x.Small) {outs : List (List UInt8)} {f : Nat → Bool} (hN : Ru.Needed l outs f) (hn : ∀ k,k ∈ ord ↔ k < l.length ∧ f k = true) (hlen : ord.length ≤ 40) {cv : Value} {w2 : World} {bb : Nat} (hb : Below w1.heap.size w1 w2) (hz : w1.heap.size ≤ bb) (c0 : w2.cell? ⟨bb,0,none⟩ = some (.map (some bm))) (c1 : w2.cell? ⟨bb,1,none⟩ = some cv) :
  BuM es w2 bb bm ord.length L cv (Bf.init fs l outs) ∧ ∀ j,BBlk bb bm (Bf.init fs l outs) L j → W0.heap.size ≤ j := by
 have hst : ∀ k,(Bf.init fs l outs).st k = if k ∈ ord then .waits else .no := fun k => by
  show (if Bf.need l outs k = true then Bf.St.waits else .no) = _
  by_cases hk : k < l.length
  ·rw [Bf.need_eq hN hk]
   by_cases hf : f k = true
   ·rw [if_pos hf,if_pos ((hn k).2 ⟨hk,hf⟩)]
   ·rw [if_neg hf,if_neg fun e => hf ((hn k).1 e).2]
  ·rw [Bf.need_out (by omega),if_neg (by simp),if_neg fun e => hk ((hn k).1 e).1]
 have hdom : (Bf.init fs l outs).dom = fun k => k ∈ ord := by
  funext k
  unfold Bf.Bd.dom Bf.Bd.dm
  rw [hst k]
  by_cases hk : k ∈ ord
  ·rw [if_pos hk];simp [hk,Bf.St.isNo]
  ·rw [if_neg hk];simp [hk,Bf.St.isNo]
 have hno : ∀ k,((Bf.init fs l outs).st k).isNo = false ↔ k ∈ ord := fun k => by
  rw [hst k]
  by_cases hk : k ∈ ord
  ·rw [if_pos hk];simp [hk,Bf.St.isNo]
  ·rw [if_neg hk];simp [hk,Bf.St.isNo]
 have hins : ∀ k,insOf (Bf.init fs l outs) k = (ruOf l k).ins.map (inpOf l fs) := fun k => rfl
 refine ⟨⟨c0,c1,?_,?_,?_,?_,?_,hA,?_⟩,?_⟩
 ·rw [hdom]
  exact h.smap.same (hb.block bm h.smap.lt)
 ·have hs := h.made.steps.below hb
  rw [hdom]
  exact hs.congr fun i hi => by rw [hst i,if_pos hi]
 ·intro i hi k
  rw [h.us i ((hno i).1 hi) k,← hno k]
  rfl
 ·intro i hi
  rw [hdom] at hi
  have := h.usl i hi
  omega
 ·refine Bf.Inv.init (fun i hi => ?_) (fun i k hk hi => ?_) fun i => ?_
  ·rw [hst i,if_neg fun e => by have := ((hn i).1 e).1;have : l.length ≤ i := hi;omega]
  ·rw [hno] at hi ⊢
   have hk' : Ru.needs l i k = true := hk
   exact (hn k).2 ⟨(Ru.needs_lt hk').2,hN.closed i k ((hn i).1 hi).2 hk'⟩
  ·rw [hst i]
   split
   ·exact .inr rfl
   ·exact .inl rfl
 ·intro i hi
  rw [hdom] at hi
  rw [hins,List.length_map]
  have hil := ((hn i).1 hi).1
  have := (hS _ (List.getElem_mem hil)).many
  simp [ruOf,hil]
  omega
 ·rintro j (rfl | rfl | hj)
  ·have := h.made.base.size
   omega
  ·exact h.lb
  ·rw [hdom] at hj
   exact h.made.low j hj
theorem containsI_new {W : World} {nb : Nat} {v : Value} {ll : List Nat} (hc : W.cell? ⟨nb,0,none⟩ = some v) (hrow : NIRow W v ll) (hl : ll.length ≤ 1000) (x : Nat) : Calls Tryz.prog 131 #[nv x,.pointer (some ⟨nb,0,none⟩)] W fun e w' => e = .returned (.bool (decide (x ∈ ll))) ∧ Below W.heap.size W w' := by
 have HC := hid1 (slContainsI_calls v ll x hrow (by omega))
 obtain ⟨p,c,rfl,-⟩ := hrow
 go_enter Tryz.func131,Tryz.ntmps131
 go_wp2_with fail
 refine HC.out.mono ?_
 rintro e w1 ⟨rfl,rfl⟩
 clear HC
 go_wp2
 go_ret
 exact ⟨rfl,Below.refl _ _⟩
theorem buNew_nil {es : Nat → Addr} {W : World} (hW : BuildW W es) (lv ov cv : Value) : Calls Tryz.prog 60 #[.pointer none,lv,ov,cv] W fun e w' => e = .returned (.tuple #[.pointer none,erOf es 3]) ∧ Below W.heap.size W w' := by
 have c := hW.shape
 clear hW
 go_enter Tryz.func60,Tryz.ntmps60
 go_wp2
 go_region
 go_wp2
 go_ret2
 exact ⟨rfl,(Below.refl _ W).drew⟩
end Go.Proofs.YthchjnopgagilaaGreatDoor
