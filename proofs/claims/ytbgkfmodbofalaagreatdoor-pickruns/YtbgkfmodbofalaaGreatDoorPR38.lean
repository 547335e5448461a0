import Derived.Test.YtbgkfmodbofalaaGreatDoorPR37
set_option maxRecDepth 100000
set_option maxHeartbeats 16000000
namespace Go.Proofs.YtbgkfmodbofalaaGreatDoor
section
open Go.RowKit Go.Shelf Go.Lib
structure PmS (w0 : World) (mb tb : Nat) (tv lv : Value) (gs go gh gw : Nat) (d : Bf.Bd) (W : World) (s : Bf.Pk) (ov : Value) (wr : World) : Prop where
 bare : s.c = none
 l : s.d.l = d.l
 fs : s.d.fs = d.fs
 fit : Bf.Fit s.d
 bat : MB w0 wr mb tb tv lv (.pointer none) gs go gh gw s.d
 only : Only (MBlk mb tb tv gs go gh gw) W wr
 row : wr.ownsRow W.heap.size 3 1 ov s.xs.length (s.xs.map nv)
 len : s.xs.length + s.d.waits <= d.waits
theorem PmS.below {w0 : World} {mb tb : Nat} {tv lv : Value} {gs go gh gw : Nat} {d : Bf.Bd} {W : World} {s : Bf.Pk} {ov : Value} {wr w' : World} (h : PmS w0 mb tb tv lv gs go gh gw d W s ov wr) (hb : Below wr.heap.size wr w') : PmS w0 mb tb tv lv gs go gh gw d W s ov w' :=
 ⟨h.bare,h.l,h.fs,h.fit,h.bat.below hb,h.only.trans (S' := fun _ => False) (Only.of hb) fun _ hj => hj.elim,Zap h.row hb,h.len⟩
theorem PmS.next {w0 : World} {mb tb : Nat} {tv lv : Value} {gs go gh gw : Nat} {d : Bf.Bd} {W : World} (hLt : ∀ j,MBlk mb tb tv gs go gh gw j -> j < W.heap.size) (hBs : w0.heap.size <= W.heap.size) {act : Bf.Act} (hAf : Bf.ActFit act) {s : Bf.Pk} {ov : Value} {wr w6 Y : World} {g cap k : Nat} {o : Obj} (h : PmS w0 mb tb tv lv gs go gh gw d W s ov wr) (x : Int)
  (hr : s.d.ready ≠ []) (hk : k = s.d.ready.getD (Bf.pickAt x s.d.ready.length) 0) (hO6 : Only (fun j => MBlk mb tb tv gs go gh gw j \/ False) wr w6) (hM6 : MB w0 w6 mb tb tv lv (.pointer none) gs go gh gw (Bf.run act none s.d (k : Int)).d)
  (hY : Y.ownsRow W.heap.size 3 1 (.slice (some ⟨g,0,none⟩) (s.xs.length + 1) cap) (s.xs.length + 1) (s.xs.map nv ++ [nv k])) (hgr : (w6.alloc o).grownBy Y ov.ownBlock) :
  PmS w0 mb tb tv lv gs go gh gw d W (Bf.pstep act s x) (.slice (some ⟨g,0,none⟩) (s.xs.length + 1) cap) Y := by
 have hlt := Bf.pickAt_lt (p := x) (List.length_pos_iff.2 hr);have ek : k = s.d.ready[Bf.pickAt x s.d.ready.length] := by
  rw [hk,List.getD_eq_getElem?_getD,List.getElem?_eq_getElem hlt]
  rfl
 have hm := Bf.mem_ready.1 (ek ▸ List.getElem_mem hlt);have e := Bf.pstep_some (act := act) (p := x) hr hlt;rw [<- ek,h.bare] at e;rw [Bf.run_ready act none s.d k hm.1 hm.2] at hM6;have hless := Bf.go_less act none s.d k hm.1 hm.2;have hgf := Bf.go_fit hAf (c := none) (d := s.d) (by trivial) h.fit k
 have z6 := hO6.size;have zW := h.only.size;have za : (w6.alloc o).heap.size = w6.heap.size + 1 := by simp
 have zY := hgr.size;have hgy : ∀ j,j < w6.heap.size -> some j ≠ ov.ownBlock -> Y.heap[j]? = w6.heap[j]? := fun j hj hn => (hgr.block j (by omega) hn).trans (((Below.refl _ w6).alloc (Nat.le_refl _) _).block j hj)
 have hov : ∀ j,some j = ov.ownBlock -> W.heap.size <= j /\ j < wr.heap.size := fun j hj => h.row.lt j hj.symm
 have hBY : Below w0.heap.size w0 Y := by
  refine ⟨?_,?_,?_,?_,fun j hj => ?_⟩
  ·exact hgr.os.trans hM6.base.os
  ·exact hgr.tape.trans hM6.base.tape
  ·exact hgr.output.trans hM6.base.output
  ·have := hM6.base.size;omega
  ·exact (hgy j (by omega) fun e => by have := (hov j e).1;omega).trans (hM6.base.block j hj)
 have hxs : (Bf.pstep act s x).xs.length = s.xs.length + 1 := by rw [e];simp
 refine ⟨by rw [e];exact Bf.go_none act s.d k,by rw [e];exact hless.2.1.trans h.l,by rw [e];exact hless.2.2.trans h.fs,by rw [e];exact hgf.1,?_,?_,?_,?_⟩
 ·rw [e];exact hM6.same hBY (by omega) fun j hj => hgy j (by have := hLt j hj;omega) fun e => by have := (hov j e).1;have := hLt j hj;omega
 ·refine ⟨?_,?_,?_,by omega,fun j hj hs => ?_⟩
  ·exact hgr.os.trans (hO6.os.trans h.only.os)
  ·exact hgr.tape.trans (hO6.tape.trans h.only.tape)
  ·exact hgr.output.trans (hO6.output.trans h.only.output)
  ·refine (hgy j (by omega) fun e => by have := (hov j e).1;omega).trans ((hO6.block j (by omega) fun hx => ?_).trans (h.only.block j hj hs))
   exact hx.elim hs id
 ·rw [hxs,e,List.map_append];exact hY
 ·rw [hxs,e];have h1 := hless.1;have h2 := h.len;simp only;omega
def Zkb (act : Bf.Act) (w0 : World) (mb tb : Nat) (tv lv : Value) (gs go gh gw : Nat) (d : Bf.Bd) (ps : List Int) (W w' : World) (u : Value) : Prop :=
 w'.ownsRow W.heap.size 3 1 u (Bf.pickRun act none d ps).xs.length ((Bf.pickRun act none d ps).xs.map nv) /\ MB w0 w' mb tb tv lv (.pointer none) gs go gh gw (Bf.pickRun act none d ps).d /\ Only (MBlk mb tb tv gs go gh gw) W w'
theorem PmS.tells {w0 : World} {mb tb : Nat} {tv lv : Value} {gs go gh gw : Nat} {d : Bf.Bd} {W : World} (hLt : ∀ j,MBlk mb tb tv gs go gh gw j -> j < W.heap.size) (hBs : w0.heap.size <= W.heap.size) {act : Bf.Act} {ps : List Int} {ov u : Value} {wr w6 Y : World} (h : PmS w0 mb tb tv lv gs go gh gw d W (Bf.picks act none d ps) ov wr)
  (hM6 : MB w0 w6 mb tb tv lv (.pointer none) gs go gh gw (Bf.all act none (Bf.picks act none d ps).d).1) (hO6 : Only (fun j => MBlk mb tb tv gs go gh gw j \/ False) wr w6)
  (hY : Y.ownsRow W.heap.size 3 1 u ((Bf.picks act none d ps).xs.length + (Bf.allL act ((Bf.picks act none d ps).d.waits + 1) none (Bf.picks act none d ps).d).length) ((Bf.picks act none d ps).xs.map nv ++ (Bf.allL act ((Bf.picks act none d ps).d.waits + 1) none (Bf.picks act none d ps).d).map nv)) (hgr : w6.grownBy Y ov.ownBlock) : Zkb act w0 mb tb tv lv gs go gh gw d ps W Y u := by
 have z6 := hO6.size;have zW := h.only.size;have zY := hgr.size;have hov : ∀ j,some j = ov.ownBlock -> W.heap.size <= j /\ j < wr.heap.size := fun j hj => h.row.lt j hj.symm
 have hgy : ∀ j,j < w6.heap.size -> some j ≠ ov.ownBlock -> Y.heap[j]? = w6.heap[j]? := fun j hj hn => hgr.block j hj hn
 have hBY : Below w0.heap.size w0 Y := by
  refine ⟨?_,?_,?_,?_,fun j hj => ?_⟩
  ·exact hgr.os.trans hM6.base.os
  ·exact hgr.tape.trans hM6.base.tape
  ·exact hgr.output.trans hM6.base.output
  ·have := hM6.base.size;omega
  ·exact (hgy j (by omega) fun e => by have := (hov j e).1;omega).trans (hM6.base.block j hj)
 have e1 : (Bf.pickRun act none d ps).xs = (Bf.picks act none d ps).xs ++ Bf.allL act ((Bf.picks act none d ps).d.waits + 1) none (Bf.picks act none d ps).d := by
  show (Bf.picks act none d ps).xs ++ Bf.allL act ((Bf.picks act none d ps).d.waits + 1) (Bf.picks act none d ps).c (Bf.picks act none d ps).d = _
  rw [h.bare]
 have e2 : (Bf.pickRun act none d ps).d = (Bf.all act none (Bf.picks act none d ps).d).1 := by
  show (Bf.all act (Bf.picks act none d ps).c (Bf.picks act none d ps).d).1 = _
  rw [h.bare]
 refine ⟨?_,?_,?_⟩
 ·rw [e1,List.length_append,List.map_append];exact hY
 ·rw [e2];exact hM6.same hBY (by omega) fun j hj => hgy j (by have := hLt j hj;omega) fun e => by have := (hov j e).1;have := hLt j hj;omega
 ·refine ⟨?_,?_,?_,by omega,fun j hj hs => ?_⟩
  ·exact hgr.os.trans (hO6.os.trans h.only.os)
  ·exact hgr.tape.trans (hO6.tape.trans h.only.tape)
  ·exact hgr.output.trans (hO6.output.trans h.only.output)
  ·refine (hgy j (by omega) fun e => by have := (hov j e).1;omega).trans ((hO6.block j (by omega) fun hx => ?_).trans (h.only.block j hj hs))
   exact hx.elim hs id
theorem Zuf {x : Int} {n : Nat} (h : ¬ x < -9223372036854775807) : (Int.tmod x (n : Int) < 0 /\ Int.tmod x (n : Int) = -((Bf.pickAt x n : Nat) : Int)) \/ Int.tmod x (n : Int) = ((Bf.pickAt x n : Nat) : Int) := by
 have e : Bf.pickAt x n = x.natAbs % n := by unfold Bf.pickAt;rw [if_neg h]
 have e2 : (Int.tmod x (n : Int)).natAbs = Bf.pickAt x n := by rw [e,Int.natAbs_tmod];rfl
 omega
theorem Zoi {w0 W : World} {mb tb : Nat} {tv lv : Value} {gs go gh gw : Nat} {d : Bf.Bd} (h : MB w0 W mb tb tv lv (.pointer none) gs go gh gw d) (hF : MFit d) {act : Bf.Act} (hAct : Zgq act) (hAf : Bf.ActFit act)
  (v : Value) (ps : List Int) (hZ : ZRow W v ps) (hps : ∀ x ∈ ps,-9223372036854775808 <= x /\ x <= 9223372036854775807) (hl : ps.length <= 60) (hfar : ps ≠ [] -> ∀ g o n c,v = .slice (some ⟨g,o,none⟩) n c -> ¬ MBlk mb tb tv gs go gh gw g) :
  Calls Tryz.prog 92 #[.pointer (some ⟨mb,0,none⟩),v] W fun e w' => ∃ u,e = .returned u /\ Zkb act w0 mb tb tv lv gs go gh gw d ps W w' u := by
 have HF := hid1 hF;have HAct := hid1 hAct;have HAf := hid1 hAf;have HLt := hid1 h.lt;have HBs := hid1 h.base.size;have HPs := hid1 hps;have HZ : Hid (∀ V,Only (MBlk mb tb tv gs go gh gw) W V -> ZRow V v ps) := hid1 fun V hV => by
  obtain ⟨q,cap,rfl,hin⟩ := hZ;refine ⟨q,cap,rfl,fun hne => ?_⟩
  obtain ⟨g,o,rfl,hg,hc⟩ := hin hne;exact ⟨g,o,rfl,Nat.lt_of_lt_of_le hg hV.size,fun j hj => hV.cell (hc j hj) (hfar hne g o _ _ rfl)⟩
 have HS0 : Hid (PmS w0 mb tb tv lv gs go gh gw d W ⟨d,none,[]⟩ (.slice none 0 0) W) := hid1 ⟨rfl,rfl,rfl,hF.fit,h,Only.refl _ _,World.ownsRow_nil _ _ _ _,by simp⟩
 have hwd : d.waits <= 40 := Nat.le_trans (Bf.many_le d.st Bf.St.isWaits d.l.length) hF.few;have h40 := hF.few;obtain ⟨i0,hi,hz0,hz1,hz2⟩ := info_parts Tryz.infoInt;obtain ⟨pv,cv,rfl,-⟩ := hZ;have zl : (ps.length : Int) <= 60 := by omega
 clear h hF hAct hAf hps hfar;go_enter Tryz.func92,Tryz.ntmps92
 go_wp2;go_loopw [5,6] (fun ov iv wr => ∃ k : Nat,k <= ps.length /\ iv = .int .i64 k /\ PmS w0 mb tb tv lv gs go gh gw d W (Bf.picks act none d (ps.take k)) ov wr) (fun _ iv _ => ps.length - (intOf iv).toNat)
 case atStart => exact ⟨0,Nat.zero_le _,rfl,HS0.out⟩
 case round =>
  clear HS0;obtain ⟨k,hk,rfl,hP⟩ := hrel;have HP := hid1 hP;have k0 : (0 : Int) <= (k : Int) := by omega
  have hxl : (Bf.picks act none d (ps.take k)).xs.length <= 40 := by have := hP.len;omega
  obtain ⟨p6,c6,e6⟩ := Zay hP.row;subst e6;clear hP;by_cases hlt : k < ps.length
  ·have k1 : (k : Int) < (ps.length : Int) := by omega
   have k2 : (k : Int) < 3000 := by omega
   obtain ⟨qz,cz,ez,hzin⟩ := HZ.out wr HP.out.only;obtain ⟨rfl,rfl⟩ : pv = qz /\ cv = cz := by simpa using ez
   obtain ⟨g1,o1,rfl,hg1,hc1⟩ := hzin (by intro e;rw [e] at hlt;simp at hlt)
   have d0 := hc1 k hlt;have HD := hid1 fun (V : World) (gV : Below wr.heap.size wr V) => Zaa (hc1 k hlt) gV
   have hb := HPs.out _ (List.getElem_mem hlt);have HTk : Hid (Bf.picks act none d (ps.take (k + 1)) = Bf.pstep act (Bf.picks act none d (ps.take k)) ps[k]) := hid1 (by rw [List.take_succ_eq_append_getElem hlt,Bf.picks_snoc])
   generalize hs : Bf.picks act none d (ps.take k) = s at *;clear hc1 hzin ez hs;generalize ps[k] = x at *;have hF' := HF.out.same HP.out.l HP.out.fs HP.out.fit;have HRd := hid1 (Zey HP.out.bat (by have := hF'.few;omega) fun x hx => by have := (hF'.small x hx).many;omega)
   have HF' := hid1 hF';have hWr := HP.out.only.size;clear hF';go_wp2_with fail;refine HRd.out.mono ?_;rintro e w5 ⟨u5,rfl,ho5,g5⟩;have HP5 := hid1 (HP.out.below g5);have d5 := HD.out w5 g5;clear HRd HP d0 HD;by_cases hq : s.d.ready = []
   ·have HE : Hid (Bf.pstep act s x = s) := hid1 (Bf.pstep_none hq);have e0 : s.d.ready.length = 0 := by rw [hq];rfl
    rw [e0] at ho5;obtain ⟨p5,c5,rfl⟩ := Zay ho5;clear ho5 hq;go_wp2;exact ⟨⟨k + 1,by omega,by go_num,by rw [HTk.out,HE.out];exact HP5.out⟩,by simp [intOf];omega⟩
   ·have hpos := List.length_pos_iff.2 hq;have hplt := Bf.pickAt_lt (p := x) hpos;have hrl : s.d.ready.length <= 40 := Nat.le_trans (Bf.readyTo_len s.d s.d.l.length) HF'.out.few;obtain ⟨g5',c5,rfl,hb5,hl5⟩ := ho5.form hpos;obtain ⟨q,hk⟩ : ∃ q,q = s.d.ready.getD (Bf.pickAt x s.d.ready.length) 0 := ⟨_,rfl⟩
    have ek : s.d.ready[Bf.pickAt x s.d.ready.length] = q := by
     rw [hk,List.getD_eq_getElem?_getD,List.getElem?_eq_getElem hplt]
     rfl
    have x5 : w5.cell? ⟨g5',Bf.pickAt x s.d.ready.length,none⟩ = some (nv q) := by
     rw [ho5.cellAt _ (by omega),List.getElem?_map,List.getElem?_eq_getElem hplt,ek]
     rfl
    have hm := Bf.mem_ready.1 (ek ▸ List.getElem_mem hplt);have hqi : q <= 40 := by have := hm.1;have := HF'.out.few;omega
    have HRn := hid1 (Zhc HP5.out.bat HF'.out HAct.out (c := none) (by trivial) (T := fun _ => False) ⟨rfl,fun j h => h⟩ (fun j _ h => h) (fun j h => h.elim) (q : Int))
    have HNx := hid1 fun (w6 Y : World) (g cap : Nat) (o : Obj) => HP5.out.next HLt.out HBs.out HAf.out (w6 := w6) (Y := Y) (g := g) (cap := cap) (o := o) x hq hk
    have hrow := HP5.out.row;have hbz := HP5.out.only.size;have htm := @Zuf x s.d.ready.length;have hpm : x < -9223372036854775807 -> Bf.pickAt x s.d.ready.length = 0 := fun h => by unfold Bf.pickAt;rw [if_pos h]
    have hW5 : W.heap.size <= g5' := Nat.le_trans hWr hb5;clear hk ek hm hq ho5 HP5 hb5;generalize Bf.pickAt x s.d.ready.length = a at *;generalize s.d.ready.length = n at *;have za : (a : Int) < (n : Int) := by omega
    have za0 : (0 : Int) <= (a : Int) := by omega
    have zr0 : (n : Int) ≠ 0 := by omega
    have zr : (0 : Int) < (n : Int) := by omega
    have HX6 : Hid (∀ V,Only (fun j => MBlk mb tb tv gs go gh gw j \/ False) w5 V -> V.cell? ⟨g5',a,none⟩ = some (nv q)) := hid1 fun V hV => hV.cell x5 fun hx => by
     rcases hx with h1 | h1
     ·have := HLt.out _ h1;simp at this;omega
     ·exact h1
    have HCs : Hid ((x < -9223372036854775807 /\ a = 0) \/ (¬ x < -9223372036854775807 /\ Int.tmod x (n : Int) < 0 /\ Int.tmod x (n : Int) = -(a : Int)) \/ (¬ x < -9223372036854775807 /\ Int.tmod x (n : Int) = (a : Int))) := hid1 (by
     by_cases c : x < -9223372036854775807
     ·exact .inl ⟨c,hpm c⟩
     ·rcases htm c with h1 | h1
      ·exact .inr (.inl ⟨c,h1⟩)
      ·exact .inr (.inr ⟨c,h1⟩))
    clear htm hpm;have hb1 := hb.1;have hb2 := hb.2;have z40 : (n : Int) <= 40 := by omega
    rcases HCs.out with ⟨c1,rfl⟩ | ⟨c1,c2,c3⟩ | ⟨c1,c3⟩
    ·clear HCs;generalize htx : Int.tmod x (n : Int) = tx at *;clear htx;go_wp2_with fail;refine HRn.out.mono ?_;rintro e w6 ⟨rfl,hM6,hO6,-⟩;have x6 := HX6.out w6 hO6;have hrow6 := Zax hrow hO6 fun j hj hx => hx.elim (fun h1 => by have := HLt.out j h1;have := (hrow.lt j hj.symm).1;omega) id
     have z6 := hO6.size;have HN6 := hid1 fun (Y : World) (g cap : Nat) (o : Obj) => HNx.out w6 Y g cap o hO6 hM6
     have hml : s.xs.length + 1 <= maxLen := by unfold maxLen;omega
     have hbz6 : W.heap.size <= w6.heap.size := by omega
     clear HRn HNx hO6 hM6 hrow HX6;go_wp2_with (first
      | (at_builtin;refine wpList_append_lies _ rfl _ _ 68 rfl W.heap.size 3 i0 (.int .i64 0) 1 8 Tryz.underlying68 hi hz0 hz1 hz2 rfl (by decide) _ s.xs.length (s.xs.map nv) rfl (hrow6.alloc _) ⟨w6.heap.size,0,none⟩ 1 1 [nv q] rfl rfl (cell_one_new _ _ _) (by simp [Value.oneCell']) (by decide) hml (by omega) (by simp;omega) _ rfl ?_;intro g8 cap8 w8 hown8 hgrow8 hlies8 hlt8)
      | fail)
     have HP8 := hid1 (HN6.out w8 g8 cap8 _ hown8 hgrow8);exact ⟨⟨k + 1,by omega,by go_num,by rw [HTk.out];exact HP8.out⟩,by simp [intOf];omega⟩
    ·clear HCs;have c4 : (0 : Int) <= - -(a : Int) := by omega
     go_wp2_with fail;refine HRn.out.mono ?_;rintro e w6 ⟨rfl,hM6,hO6,-⟩;have x6 := HX6.out w6 hO6;have hrow6 := Zax hrow hO6 fun j hj hx => hx.elim (fun h1 => by have := HLt.out j h1;have := (hrow.lt j hj.symm).1;omega) id
     have z6 := hO6.size;have HN6 := hid1 fun (Y : World) (g cap : Nat) (o : Obj) => HNx.out w6 Y g cap o hO6 hM6
     have hml : s.xs.length + 1 <= maxLen := by unfold maxLen;omega
     have hbz6 : W.heap.size <= w6.heap.size := by omega
     clear HRn HNx hO6 hM6 hrow HX6;go_wp2_with (first
      | (at_builtin;refine wpList_append_lies _ rfl _ _ 68 rfl W.heap.size 3 i0 (.int .i64 0) 1 8 Tryz.underlying68 hi hz0 hz1 hz2 rfl (by decide) _ s.xs.length (s.xs.map nv) rfl (hrow6.alloc _) ⟨w6.heap.size,0,none⟩ 1 1 [nv q] rfl rfl (cell_one_new _ _ _) (by simp [Value.oneCell']) (by decide) hml (by omega) (by simp;omega) _ rfl ?_;intro g8 cap8 w8 hown8 hgrow8 hlies8 hlt8)
      | fail)
     have HP8 := hid1 (HN6.out w8 g8 cap8 _ hown8 hgrow8);exact ⟨⟨k + 1,by omega,by go_num,by rw [HTk.out];exact HP8.out⟩,by simp [intOf];omega⟩
    ·clear HCs;go_wp2_with fail;refine HRn.out.mono ?_;rintro e w6 ⟨rfl,hM6,hO6,-⟩;have x6 := HX6.out w6 hO6;have hrow6 := Zax hrow hO6 fun j hj hx => hx.elim (fun h1 => by have := HLt.out j h1;have := (hrow.lt j hj.symm).1;omega) id
     have z6 := hO6.size;have HN6 := hid1 fun (Y : World) (g cap : Nat) (o : Obj) => HNx.out w6 Y g cap o hO6 hM6
     have hml : s.xs.length + 1 <= maxLen := by unfold maxLen;omega
     have hbz6 : W.heap.size <= w6.heap.size := by omega
     clear HRn HNx hO6 hM6 hrow HX6;go_wp2_with (first
      | (at_builtin;refine wpList_append_lies _ rfl _ _ 68 rfl W.heap.size 3 i0 (.int .i64 0) 1 8 Tryz.underlying68 hi hz0 hz1 hz2 rfl (by decide) _ s.xs.length (s.xs.map nv) rfl (hrow6.alloc _) ⟨w6.heap.size,0,none⟩ 1 1 [nv q] rfl rfl (cell_one_new _ _ _) (by simp [Value.oneCell']) (by decide) hml (by omega) (by simp;omega) _ rfl ?_;intro g8 cap8 w8 hown8 hgrow8 hlies8 hlt8)
      | fail)
     have HP8 := hid1 (HN6.out w8 g8 cap8 _ hown8 hgrow8);exact ⟨⟨k + 1,by omega,by go_num,by rw [HTk.out];exact HP8.out⟩,by simp [intOf];omega⟩
  ·have k1 : (ps.length : Int) <= (k : Int) := by omega
   obtain rfl : k = ps.length := by omega
   rw [List.take_length] at HP hxl;rw [List.take_length];have HF' := HF.out.same HP.out.l HP.out.fs HP.out.fit;have HAl := hid1 (Zmv HP.out.bat HF' HAct.out HAf.out (c := none) (by trivial) (T := fun _ => False) ⟨rfl,fun j h => h⟩ (fun j _ h => h) (fun j h => h.elim))
   have HTl := hid1 fun (w6 Y : World) (u : Value) => HP.out.tells HLt.out HBs.out (w6 := w6) (Y := Y) (u := u)
   have hrow := HP.out.row;have hwl := HP.out.len;have HLn : Hid ((Bf.allL act ((Bf.picks act none d ps).d.waits + 1) none (Bf.picks act none d ps).d).length <= (Bf.picks act none d ps).d.waits) := hid1 (Bf.allL_len act _ _ _);have hbz := HP.out.only.size;clear HF' HP HZ;go_wp2_with fail;refine HAl.out.mono ?_;rintro e w6 ⟨⟨u,rfl,hu⟩,hM6,hO6,-⟩
   have hrow6 := Zax hrow hO6 fun j hj hx => hx.elim (fun h1 => by have := HLt.out j h1;have := (hrow.lt j hj.symm).1;omega) id
   have HN6 := hid1 fun (Y : World) (u : Value) => HTl.out w6 Y u hM6 hO6
   have z6 := hO6.size;have hln := HLn.out;clear HAl HTl hM6 hO6 hrow HLn;generalize Bf.allL act ((Bf.picks act none d ps).d.waits + 1) none (Bf.picks act none d ps).d = al at *;generalize (Bf.picks act none d ps).xs = xs at *;have hbz6 : W.heap.size <= w6.heap.size := by omega
   rcases hu.2 with ⟨rfl,e0⟩ | ⟨g,cap,cur,rfl,hb,hg,-⟩
   ·obtain rfl := List.length_eq_zero_iff.1 e0;go_wp2_with (first
     | (at_builtin;refine wpList_append_own_none rfl _ _ 68 rfl W.heap.size 3 i0 1 Tryz.underlying68 hi _ _ _ rfl hrow6 rfl ?_)
     | fail)
    go_ret;exact ⟨_,rfl,HN6.out _ _ (by simpa using hrow6) ⟨rfl,rfl,rfl,Nat.le_refl _,fun _ _ _ => rfl⟩⟩
   ·have hsrc : ∀ j v,(al.map nv)[j]? = some v -> w6.cell? ((⟨g,0,none⟩ : Addr).add j) = some v := fun j v hj => hu.cells (g := g) rfl j v hj
    have hone : ∀ v ∈ al.map nv,v.oneCell' = true := fun v hv => by
     obtain ⟨y,_,rfl⟩ := List.mem_map.1 hv;rfl
    have hml : xs.length + al.length <= maxLen := by unfold maxLen;omega
    go_wp2_with (first
     | (at_builtin;refine wpList_append_own _ rfl _ _ 68 rfl W.heap.size 3 i0 (.int .i64 0) 1 8 Tryz.underlying68 hi hz0 hz1 hz2 rfl (by decide) _ _ _ rfl hrow6 ⟨g,0,none⟩ al.length cap (al.map nv) rfl (by simp) hsrc hone hml (by omega) hbz6 ?_;intro v1 w1 hown1 hgrow1 _)
     | fail)
    go_ret;exact ⟨_,rfl,HN6.out _ _ hown1 hgrow1⟩
end
section
namespace Bf
structure Some2 (N : Nat -> Bool) (d : Bd) : Prop where
 no : ∀ k,(d.st k).isNo = !N k
 bad : ∀ k j,Ru.needs d.l k j = true -> (d.st j).isBad = true -> (d.st k).isWaits = false
theorem Some2.init (fs : Tf.Fs) (l : List Ru) (outs : List (List UInt8)) : Some2 (need l outs) (init fs l outs) := by
 have hs : ∀ k,(Bf.init fs l outs).st k = if need l outs k = true then .waits else .no := fun k => rfl
 refine ⟨fun k => ?_,fun k j _ hb => ?_⟩
 ·rw [hs];cases need l outs k <;> rfl
 ·rw [hs] at hb;split at hb <;> cases hb
theorem Some2.set {N : Nat -> Bool} {d : Bd} (h : Some2 N d) {i : Nat} (hr : d.isReady i = true) (s : List UInt8) (b : Bool) : Some2 N (d.set i (.done s b)) := by
 have hw := ready_waits hr;have hs : ∀ k,(d.set i (.done s b)).st k = if k = i then .done s b else d.st k := fun k => rfl
 refine ⟨fun k => ?_,fun k j hn hb => ?_⟩
 ·rw [hs,<- h.no k];split
  ·rename_i e
   rw [e,hw];rfl
  ·rfl
 ·rw [hs] at hb ⊢;split at hb
  ·cases hb
  ·split
   ·rfl
   ·exact h.bad k j hn hb
theorem Some2.fail {N : Nat -> Bool} {d : Bd} (h : Some2 N d) {i : Nat} (hr : d.isReady i = true) (c : Nat) : Some2 N (d.fail i c) := by
 have hw := ready_waits hr;have hs0 : ∀ k,setS d.st i (.failed c) k = if k = i then .failed c else d.st k := fun k => rfl
 have hs : ∀ k,(d.fail i c).st k = spread d.l (setS d.st i (.failed c)) k := fun k => rfl
 refine ⟨fun k => ?_,fun k j hn hb => ?_⟩
 ·rw [hs,<- h.no k];unfold spread;split
  ·rename_i hx
   rw [hs0] at hx;split at hx
   ·cases hx.1
   ·rw [St.waits_eq hx.1];rfl
  ·rw [hs0];split
   ·rename_i e
    rw [e,hw];rfl
   ·rfl
 ·have hj : (setS d.st i (.failed c) j).isBad = true \/ ((setS d.st i (.failed c) j).isWaits = true /\ Chain d.l (setS d.st i (.failed c)) j) := by
   rw [hs] at hb;unfold spread at hb;split at hb
   ·rename_i hx;exact .inr hx
   ·exact .inl hb
  have hc : Chain d.l (setS d.st i (.failed c)) k := by
   rcases hj with h2 | h2
   ·exact .one hn h2
   ·exact .more hn h2.1 h2.2
  rw [hs];unfold spread;split
  ·rfl
  ·rename_i hx
   cases hy : (setS d.st i (.failed c) k).isWaits with
   | false => rfl
   | true => exact absurd ⟨hy,hc⟩ hx
theorem Some2.go {N : Nat -> Bool} {d : Bd} (h : Some2 N d) (act : Act) (c : Ca) {i : Nat} (hr : d.isReady i = true) : Some2 N (go act c d i).d := by
 unfold Bf.go;split
 ·exact h.fail hr _
 ·split
  ·exact h.set hr _ _
  ·split
   ·exact h.set hr _ _
   ·exact h.fail hr _
theorem Some2.allF {N : Nat -> Bool} (act : Act) : ∀ (n : Nat) (c : Ca) (d : Bd),Some2 N d -> Some2 N (allF act n c d).1
 | 0,_,_,h => h
 | n + 1,c,d,h => by
  unfold Bf.allF;cases hr : d.ready with
  | nil => exact h
  | cons i r =>
   have hm := mem_ready.1 (show i ∈ d.ready by rw [hr];simp)
   exact Some2.allF act n _ _ (h.go act c hm.2)
theorem allF_l (act : Act) : ∀ (n : Nat) (c : Ca) (d : Bd),(allF act n c d).1.l = d.l
 | 0,_,_ => rfl
 | n + 1,c,d => by
  unfold Bf.allF;cases hr : d.ready with
  | nil => rfl
  | cons i r => exact (allF_l act n _ _).trans (Zwg act c d i).1
theorem Some2.ready {N : Nat -> Bool} {d : Bd} (h : Some2 N d) (hN : ∀ i k,N i = true -> Ru.needs d.l i k = true -> N k = true) {rank : Nat -> Nat} (hrk : ∀ i k,N i = true -> Ru.needs d.l i k = true -> rank k < rank i) {k : Nat} (hk : k < d.l.length) (hw : (d.st k).isWaits = true) : d.ready ≠ [] := by
 have hNw : ∀ k,(d.st k).isWaits = true -> N k = true := fun k hw => by
  have := h.no k;rw [St.waits_eq hw] at this;cases hx : N k with
  | true => rfl
  | false => rw [hx] at this;cases this
 have key : ∀ n k,rank k <= n -> k < d.l.length -> (d.st k).isWaits = true -> ∃ i,i < d.l.length /\ d.isReady i = true := by
  intro n
  induction n with
  | zero =>
   intro k hr hk hw
   refine ⟨k,hk,ready_of (St.waits_eq hw) fun j _ hn => ?_⟩
   have := hrk k j (hNw k hw) hn;omega
  | succ n ih =>
   intro k hr hk hw
   by_cases hx : ∃ j,Ru.needs d.l k j = true /\ (d.st j).isWaits = true
   ·obtain ⟨j,hn,hj⟩ := hx;have := hrk k j (hNw k hw) hn;exact ih j (by omega) (Ru.needs_lt hn).2 hj
   ·refine ⟨k,hk,ready_of (St.waits_eq hw) fun j _ hn => ?_⟩
    rcases St.five (d.st j) with h1 | h1 | h1 | h1 | h1
    ·have := h.no j;rw [h1,hN k j (hNw k hw) hn] at this;cases this
    ·exact absurd ⟨j,hn,h1⟩ hx
    ·exact h1
    ·have := h.bad k j hn (by rw [St.bad_eq,h1];rfl)
     rw [hw] at this;cases this
    ·have := h.bad k j hn (by rw [St.bad_eq,h1];simp)
     rw [hw] at this;cases this
 obtain ⟨i,hi,hr⟩ := key (rank k) k (Nat.le_refl _) hk hw;intro e
 have := mem_ready.2 ⟨hi,hr⟩;rw [e] at this;simp at this
theorem Zgx {N : Nat -> Bool} {l : List Ru} (act : Act) {s : Pk} (h : Some2 N s.d) (hl : s.d.l = l) (p : Int) : Some2 N (pstep act s p).d /\ (pstep act s p).d.l = l := by
 by_cases hr : s.d.ready = []
 ·rw [pstep_none hr];exact ⟨h,hl⟩
 ·have hk := pickAt_lt (p := p) (List.length_pos_iff.2 hr);rw [pstep_some hr hk];have hm := mem_ready.1 (List.getElem_mem hk);exact ⟨h.go act _ hm.2,(Zwg act _ _ _).1.trans hl⟩
theorem Zgy {N : Nat -> Bool} {l : List Ru} (act : Act) : ∀ (ps : List Int) {s : Pk},Some2 N s.d -> s.d.l = l -> Some2 N (ps.foldl (pstep act) s).d /\ (ps.foldl (pstep act) s).d.l = l
 | [],_,h,hl => ⟨h,hl⟩
 | p :: r,_,h,hl => Zgy act r (Zgx act h hl p).1 (Zgx act h hl p).2
theorem pickRun_over (act : Act) (c : Ca) {fs : Tf.Fs} {l : List Ru} {outs : List (List UInt8)} {o : List Nat} (ho : Ru.order l (need l outs) = some o) (ps : List Int) : (pickRun act c (init fs l outs) ps).d.waits = 0 /\ (pickRun act c (init fs l outs) ps).d.l = l := by
 obtain ⟨h1,h2⟩ := Zgy (N := need l outs) (l := l) act ps (s := ⟨init fs l outs,c,[]⟩) (Some2.init fs l outs) rfl;have e : (pickRun act c (init fs l outs) ps).d = (Bf.allF act ((ps.foldl (pstep act) ⟨init fs l outs,c,[]⟩).d.waits + 1) (ps.foldl (pstep act) ⟨init fs l outs,c,[]⟩).c (ps.foldl (pstep act) ⟨init fs l outs,c,[]⟩).d).1 := rfl;rw [e]
 generalize ps.foldl (pstep act) ⟨init fs l outs,c,[]⟩ = s at *;have hg := h1.allF act (s.d.waits + 1) s.c s.d;have hL := (allF_l act (s.d.waits + 1) s.c s.d).trans h2;have he := Zrn act (s.d.waits + 1) s.c s.d (by omega)
 refine ⟨Zna fun k hk => ?_,hL⟩
 rw [Bool.eq_false_iff];intro hw
 obtain ⟨ht,hall⟩ := Ru.order_some ho;refine hg.ready (fun i k hi hn => ?_) (rank := fun i => o.idxOf i) (fun i k hi hn => ?_) hk hw he
 ·rw [hL] at hn;exact Ru.need_closed l outs i k hi hn
 ·rw [hL] at hn;exact (rank_of ht (hall i (Ru.needs_lt hn).1 hi) hn).2
theorem Zuv (act : Act) (s : Pk) (p : Int) : (pstep act s p).xs.length + (pstep act s p).d.waits <= s.xs.length + s.d.waits := by
 by_cases hr : s.d.ready = []
 ·rw [pstep_none hr];exact Nat.le_refl _
 ·have hk := pickAt_lt (p := p) (List.length_pos_iff.2 hr);rw [pstep_some hr hk];have hm := mem_ready.1 (List.getElem_mem hk);have h1 := (go_less act s.c s.d _ hm.1 hm.2).1;rw [List.length_append,List.length_singleton];simp only;omega
theorem Zml (act : Act) : ∀ (ps : List Int) (s : Pk),(ps.foldl (pstep act) s).xs.length + (ps.foldl (pstep act) s).d.waits <= s.xs.length + s.d.waits
 | [],_ => Nat.le_refl _
 | p :: r,s => Nat.le_trans (Zml act r (pstep act s p)) (Zuv act s p)
theorem pickRun_len (act : Act) (c : Ca) (d : Bd) (ps : List Int) : (pickRun act c d ps).xs.length <= d.waits := by
 have h1 := Zml act ps ⟨d,c,[]⟩;have h2 := allL_len act ((ps.foldl (pstep act) ⟨d,c,[]⟩).d.waits + 1) (ps.foldl (pstep act) ⟨d,c,[]⟩).c (ps.foldl (pstep act) ⟨d,c,[]⟩).d;show ((ps.foldl (pstep act) ⟨d,c,[]⟩).xs ++ allL act ((ps.foldl (pstep act) ⟨d,c,[]⟩).d.waits + 1) (ps.foldl (pstep act) ⟨d,c,[]⟩).c (ps.foldl (pstep act) ⟨d,c,[]⟩).d).length <= _
 rw [List.length_append];simp only [List.length_nil] at h1;omega
end Bf
end
section
namespace Ru
def levTo (l : List Ru) (f : Nat -> Nat) (i : Nat) : Nat -> Nat
 | 0 => 0
 | n + 1 => if needs l i n = true then max (levTo l f i n) (f n + 1) else levTo l f i n
def levF (l : List Ru) : Nat -> Nat -> Nat
 | 0,_ => 0
 | t + 1,i => levTo l (levF l t) i l.length
def lev (l : List Ru) (i : Nat) : Nat := levF l (l.length + 1) i
theorem Zee {l : List Ru} {f g : Nat -> Nat} {i : Nat} : ∀ {n : Nat},(∀ k,k < n -> needs l i k = true -> f k = g k) -> levTo l f i n = levTo l g i n
 | 0,_ => rfl
 | n + 1,h => by
  unfold levTo;rw [Zee fun k hk => h k (by omega)]
  split
  ·rename_i hn
   rw [h n (by omega) hn]
  ·rfl
theorem Zra {l : List Ru} {f : Nat -> Nat} {i : Nat} : ∀ {n : Nat} {k : Nat},k < n -> needs l i k = true -> f k + 1 <= levTo l f i n
 | n + 1,k,hk,hn => by
  unfold levTo;by_cases e : k = n
  ·subst e;rw [if_pos hn];exact Nat.le_max_right _ _
  ·have := Zra (f := f) (n := n) (k := k) (by omega) hn
   split
   ·exact Nat.le_trans this (Nat.le_max_left _ _)
   ·exact this
theorem Zdo {l : List Ru} {f : Nat -> Nat} {i : Nat} : ∀ {n : Nat},levTo l f i n ≠ 0 -> ∃ k,k < n /\ needs l i k = true /\ levTo l f i n = f k + 1
 | 0,h => absurd rfl h
 | n + 1,h => by
  unfold levTo at h ⊢;by_cases hn : needs l i n = true
  ·rw [if_pos hn] at h ⊢;by_cases hm : levTo l f i n <= f n + 1
   ·exact ⟨n,by omega,hn,Nat.max_eq_right hm⟩
   ·obtain ⟨k,h1,h2,h3⟩ := Zdo (l := l) (f := f) (i := i) (n := n) (by omega)
    exact ⟨k,by omega,h2,by rw [Nat.max_eq_left (by omega)];exact h3⟩
  ·rw [if_neg hn] at h ⊢;obtain ⟨k,h1,h2,h3⟩ := Zdo (l := l) (f := f) (i := i) (n := n) h;exact ⟨k,by omega,h2,h3⟩
theorem Zhh {l : List Ru} {rank : Nat -> Nat} (hr : ∀ i k,needs l i k = true -> rank k < rank i) : ∀ (t t' i : Nat),rank i < t -> rank i < t' -> levF l t i = levF l t' i
 | 0,_,_,h,_ => by omega
 | _,0,_,_,h => by omega
 | t + 1,t' + 1,i,h,h' => by
  unfold levF;refine Zee fun k _ hn => ?_
  have := hr i k hn;exact Zhh hr t t' k (by omega) (by omega)
theorem lev_eq {l : List Ru} {rank : Nat -> Nat} (hr : ∀ i k,needs l i k = true -> rank k < rank i) (hb : ∀ i,rank i <= l.length) (i : Nat) : lev l i = levTo l (lev l) i l.length := by
 unfold lev;conv => lhs;unfold levF
 refine Zee fun k _ hn => ?_
 have h1 := hr i k hn;have h2 := hb i;exact Zhh hr _ _ k (by omega) (by omega)
def deepTo (l : List Ru) : Nat -> Nat
 | 0 => 0
 | n + 1 => max (deepTo l n) (lev l n + 1)
def deep (l : List Ru) : Nat := deepTo l l.length
theorem Znx {l : List Ru} : ∀ {n i : Nat},i < n -> lev l i < deepTo l n
 | n + 1,i,h => by
  unfold deepTo;by_cases e : i = n
  ·subst e;have := Nat.le_max_right (deepTo l i) (lev l i + 1);omega
  ·have := Znx (l := l) (n := n) (i := i) (by omega)
   have := Nat.le_max_left (deepTo l n) (lev l n + 1);omega
theorem deepTo_some {l : List Ru} : ∀ {n : Nat},deepTo l n ≠ 0 -> ∃ i,i < n /\ deepTo l n = lev l i + 1
 | 0,h => absurd rfl h
 | n + 1,h => by
  unfold deepTo at h ⊢;by_cases hm : deepTo l n <= lev l n + 1
  ·exact ⟨n,by omega,Nat.max_eq_right hm⟩
  ·obtain ⟨i,h1,h2⟩ := deepTo_some (l := l) (n := n) (by omega)
   exact ⟨i,by omega,by rw [Nat.max_eq_left (by omega)];exact h2⟩
def levelOf (l : List Ru) (k : Nat) : List Nat := (List.range l.length).filter fun i => lev l i == k
def levels (l : List Ru) : List (List Nat) := (List.range (deep l)).map (levelOf l)
end Ru
end
section
namespace Ru
def levL (l : List Ru) (ns : List Nat) : Nat := ns.foldl (fun m k => max m (lev l k + 1)) 0
theorem levL_snoc (l : List Ru) (ns : List Nat) (k : Nat) : levL l (ns ++ [k]) = max (levL l ns) (lev l k + 1) := by simp [levL]
theorem Zrb (l : List Ru) : ∀ (ns : List Nat) (m : Nat),m <= ns.foldl (fun m k => max m (lev l k + 1)) m /\ (∀ k ∈ ns,lev l k + 1 <= ns.foldl (fun m k => max m (lev l k + 1)) m) /\ (ns.foldl (fun m k => max m (lev l k + 1)) m = m \/ ∃ k ∈ ns,ns.foldl (fun m k => max m (lev l k + 1)) m = lev l k + 1)
 | [],m => ⟨Nat.le_refl _,fun k hk => by simp at hk,.inl rfl⟩
 | x :: r,m => by
  obtain ⟨h1,h2,h3⟩ := Zrb l r (max m (lev l x + 1));rw [List.foldl_cons];refine ⟨by omega,fun k hk => ?_,?_⟩
  ·rcases List.mem_cons.1 hk with rfl | hk
   ·omega
   ·exact h2 k hk
  ·rcases h3 with h3 | ⟨k,hk,e⟩
   ·by_cases hm : m <= lev l x + 1
    ·exact .inr ⟨x,by simp,by rw [h3];omega⟩
    ·exact .inl (by rw [h3];omega)
   ·exact .inr ⟨k,by simp [hk],e⟩
theorem Zzh (l : List Ru) (ns : List Nat) : (∀ k ∈ ns,lev l k + 1 <= levL l ns) /\ (levL l ns ≠ 0 -> ∃ k ∈ ns,levL l ns = lev l k + 1) := by
 obtain ⟨-,h2,h3⟩ := Zrb l ns 0;exact ⟨h2,fun h => h3.resolve_left h⟩
structure Ordd (l : List Ru) (o : List Nat) : Prop where
 topo : Topo l o
 once : o.Nodup
 lt : ∀ i ∈ o,i < l.length
 all : ∀ i,i < l.length -> i ∈ o
theorem Ordd.of {l : List Ru} {o : List Nat} {f : Nat -> Bool} (h : order l f = some o) (hf : ∀ i,i < l.length -> f i = true) : Ordd l o := by
 obtain ⟨h1,h2⟩ := order_some h;obtain ⟨h3,h4⟩ := order_nodup h;exact ⟨h1,h3,h4,fun i hi => h2 i hi (hf i hi)⟩
theorem Ordd.rank {l : List Ru} {o : List Nat} (h : Ordd l o) : ∀ i k,needs l i k = true -> o.idxOf k < o.idxOf i := fun i _ hn => (Bf.rank_of h.topo (h.all i (needs_lt hn).1) hn).2
theorem Ordd.len {l : List Ru} {o : List Nat} (h : Ordd l o) : o.length <= l.length := by
 have := Zvn (b := List.range l.length) h.once fun i hi => List.mem_range.2 (h.lt i hi)
 simpa using this
theorem Ordd.bound {l : List Ru} {o : List Nat} (h : Ordd l o) : ∀ i,o.idxOf i <= l.length := fun i => by
 have h1 : o.idxOf i <= o.length := List.idxOf_le_length;have h2 := h.len;omega
theorem Ordd.lev {l : List Ru} {o : List Nat} (h : Ordd l o) (hA : Apart l) {i : Nat} (hi : i < l.length) : levL l (needL l l[i].ins) = Ru.lev l i := by
 rw [lev_eq h.rank h.bound i];obtain ⟨h1,h2⟩ := Zzh l (needL l l[i].ins);apply Nat.le_antisymm
 ·refine Nat.le_of_not_lt fun hlt => ?_
  obtain ⟨k,hk,e⟩ := h2 (by omega)
  have hn := (Zce hA hi k).1 hk;have := Zra (f := Ru.lev l) (needs_lt hn).2 hn;omega
 ·refine Nat.le_of_not_lt fun hlt => ?_
  obtain ⟨k,hk,hn,e⟩ := Zdo (l := l) (f := Ru.lev l) (i := i) (n := l.length) (by omega)
  have := h1 k ((Zce hA hi k).2 hn);omega
theorem Ordd.lev_lt {l : List Ru} {o : List Nat} (h : Ordd l o) : ∀ (n i : Nat),o.idxOf i = n -> Ru.lev l i <= n := by
 intro n
 induction n using Nat.strongRecOn with
 | _ n ih =>
  intro i e
  by_cases h0 : Ru.lev l i = 0
  ·omega
  ·rw [lev_eq h.rank h.bound i] at h0 ⊢;obtain ⟨k,hk,hn,e2⟩ := Zdo (l := l) (f := Ru.lev l) (i := i) (n := l.length) h0;have h1 := h.rank i k hn;have h2 := ih (o.idxOf k) (by omega) k rfl
   omega
theorem Ordd.lev_le {l : List Ru} {o : List Nat} (h : Ordd l o) (i : Nat) : Ru.lev l i <= l.length := by
 have h1 := h.lev_lt _ i rfl;have h2 := h.bound i;omega
def levM (l : List Ru) (o : List Nat) (x : List UInt8) : Option Value := (mkr l x).bind fun i => if i ∈ o then some (Value.int .i64 (Ru.lev l i : Nat)) else none
theorem levM_nil (l : List Ru) (x : List UInt8) : levM l [] x = none := by
 unfold levM;cases mkr l x <;> simp
theorem levM_snoc {l : List Ru} (hA : Apart l) {o : List Nat} {i : Nat} (hi : i < l.length) (y : List UInt8) : (if y = l[i].out then some (Value.int .i64 (Ru.lev l i : Nat)) else levM l o y) = levM l (o ++ [i]) y := by
 unfold levM;by_cases e : y = l[i].out
 ·subst e;rw [if_pos rfl,mkr_eq hA hi];simp
 ·rw [if_neg e];cases hm : mkr l y with
  | none => rfl
  | some j =>
   have hj : j ≠ i := fun e2 => by
    subst e2;obtain ⟨_,h1,_⟩ := mkr_some hm;exact e h1.symm
   simp [hj]
theorem levM_in {l : List Ru} {o : List Nat} (h : Topo l o) {k : Nat} (hk : k < o.length) (hi : o[k] < l.length) {s : List UInt8} (hs : s ∈ l[o[k]].ins) : levM l (o.take k) s = (mkr l s).map fun j => Value.int .i64 (Ru.lev l j : Nat) := by
 unfold levM;cases hm : mkr l s with
 | none => rfl
 | some j =>
  obtain ⟨hj,e,_⟩ := mkr_some hm;have hn : needs l o[k] j = true := by
   rw [needs_eq hi hj];simpa [e] using hs
  have := h k hk j hn;simp [this]
theorem levM_all {l : List Ru} {o : List Nat} (h : Ordd l o) (x : List UInt8) : levM l o x = (mkr l x).map fun j => Value.int .i64 (Ru.lev l j : Nat) := by
 unfold levM;cases hm : mkr l x with
 | none => rfl
 | some j =>
  obtain ⟨hj,_⟩ := mkr_some hm;simp [h.all j hj]
def lvTo (l : List Ru) (k j : Nat) : List Nat := (List.range k).filter fun i => Ru.lev l i == j
theorem lvTo_same (l : List Ru) (k : Nat) : lvTo l (k + 1) (Ru.lev l k) = lvTo l k (Ru.lev l k) ++ [k] := by
 unfold lvTo;rw [List.range_succ,List.filter_append];simp
theorem lvTo_other {l : List Ru} {k j : Nat} (h : j ≠ Ru.lev l k) : lvTo l (k + 1) j = lvTo l k j := by
 unfold lvTo;rw [List.range_succ,List.filter_append];simp [Ne.symm h]
theorem lvTo_none {l : List Ru} {k j : Nat} (h : deepTo l k <= j) : lvTo l k j = [] := by
 unfold lvTo;rw [List.filter_eq_nil_iff];intro i hi
 have := Znx (l := l) (List.mem_range.1 hi);simp
 omega
theorem lvTo_len (l : List Ru) (k j : Nat) : (lvTo l k j).length <= k := by
 unfold lvTo;have := List.length_filter_le (fun i => Ru.lev l i == j) (List.range k)
 simpa using this
end Ru
end
end Go.Proofs.YtbgkfmodbofalaaGreatDoor
