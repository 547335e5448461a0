import Derived.Test.YtbgkfmodbofalaaGreatDoorPR36
set_option maxRecDepth 100000
set_option maxHeartbeats 16000000
namespace Go.Proofs.YtbgkfmodbofalaaGreatDoor
open Go.RowKit Go.Shelf Go.Lib
structure MFit (d : Bf.Bd) : Prop where
 few : d.l.length <= 40
 small : ∀ x ∈ d.l,x.Small
 apart : ∀ i j (hi : i < d.l.length) (hj : j < d.l.length),d.l[i].out = d.l[j].out -> i = j
 rises : Tf.Rises d.fs
 files : d.fs.length <= 1000
 fit : Bf.Fit d
theorem MFit.same {d d' : Bf.Bd} (h : MFit d) (hl : d'.l = d.l) (hf : d'.fs = d.fs) (hF : Bf.Fit d') : MFit d' := by
 obtain ⟨fs',l',st'⟩ := d';obtain rfl : l' = d.l := hl;obtain rfl : fs' = d.fs := hf;exact ⟨h.few,h.small,h.apart,h.rises,h.files,hF⟩
theorem Zhc {w0 W : World} {mb tb : Nat} {tv lv cv : Value} {gs go gh gw : Nat} {d : Bf.Bd} (h : MB w0 W mb tb tv lv cv gs go gh gw d) (hF : MFit d)
  {act : Bf.Act} (hAct : Zgq act) {c : Bf.Ca} (hCf : Bf.CFit c) {T : Nat -> Prop} (hca : MCa T W cv c) (hT : ∀ j,MBlk mb tb tv gs go gh gw j -> ¬ T j) (hT0 : ∀ j,T j -> w0.heap.size <= j) (i : Int) :
  Calls Tryz.prog 72 #[.pointer (some ⟨mb,0,none⟩),.int .i64 i] W fun e w' => e = .returned (.tuple #[.bool (Bf.run act c d i).hit,.int .i64 ((Bf.run act c d i).code : Nat)]) /\ MB w0 w' mb tb tv lv cv gs go gh gw (Bf.run act c d i).d /\ Only (fun j => MBlk mb tb tv gs go gh gw j \/ T j) W w' /\ ∃ T',MCa T' w' cv (Bf.run act c d i).c /\ ∀ j,T' j -> T j \/ W.heap.size <= j := by
 by_cases hi : i < 0 \/ (d.l.length : Int) <= i
 ·have e : Bf.run act c d i = ⟨false,6,d,c⟩ := by unfold Bf.run;rw [if_pos hi]
  rw [e];exact (Zvr h i hi).mono fun e w' ⟨h1,h2⟩ => ⟨h1,h.below h2,Only.of h2,T,hca.below h2,fun j hj => .inl hj⟩
 ·obtain ⟨n,rfl⟩ : ∃ n : Nat,i = n := ⟨i.toNat,by omega⟩
  have hn : n < d.l.length := by omega
  have e : Bf.run act c d n = Bf.runN act c d n := by unfold Bf.run;rw [if_neg hi];simp
  cases hr : d.isReady n with
  | false =>
   rw [e];refine (Zvs h (by have := hF.few;omega) (fun x hx => by have := (hF.small x hx).many;omega) n hn hr act c).mono ?_
   rintro e w' ⟨h1,h2,h3,h4⟩;rw [h2,h3];exact ⟨h1,h.below h4,Only.of h4,T,hca.below h4,fun j hj => .inl hj⟩
  | true =>
   rw [Bf.run_ready act c d n hn hr];have h0 : (Bf.go act c d n).code = 0 := by
    unfold Bf.go;split
    ·rfl
    ·split
     ·rfl
     ·split <;> rfl
   rw [h0];exact Zxz h hF.few hF.small hF.apart hF.rises hF.files hF.fit hAct hCf hca hT hT0 n hn hr
theorem Zax {S : Nat -> Prop} {w w' : World} {B : Nat} {e : TypeId} {s n : Nat} {v : Value} {xs : List Value} (h : w.ownsRow B e s v n xs) (o : Only S w w') (hn : ∀ j,some j = v.ownBlock -> ¬ S j) : w'.ownsRow B e s v n xs := by
 refine ⟨h.1,?_⟩;rcases h.2 with h1 | ⟨g,cap,cur,e1,h0,hg,h2⟩
 ·exact .inl h1
 ·exact .inr ⟨g,cap,cur,e1,h0,(o.block g (Array.getElem?_eq_some_iff.1 hg).1 (hn g (by rw [e1];rfl))).trans hg,h2⟩
theorem Zmv {w0 W : World} {mb tb : Nat} {tv lv cv : Value} {gs go gh gw : Nat} {d : Bf.Bd} (h : MB w0 W mb tb tv lv cv gs go gh gw d) (hF : MFit d)
  {act : Bf.Act} (hAct : Zgq act) (hAf : Bf.ActFit act) {c : Bf.Ca} (hCf : Bf.CFit c) {T : Nat -> Prop} (hca : MCa T W cv c) (hT : ∀ j,MBlk mb tb tv gs go gh gw j -> ¬ T j) (hT0 : ∀ j,T j -> w0.heap.size <= j) :
  Calls Tryz.prog 74 #[.pointer (some ⟨mb,0,none⟩)] W fun e w' => (∃ u,e = .returned u /\ w'.ownsRow W.heap.size 3 1 u (Bf.allL act (d.waits + 1) c d).length ((Bf.allL act (d.waits + 1) c d).map nv)) /\ MB w0 w' mb tb tv lv cv gs go gh gw (Bf.all act c d).1 /\ Only (fun j => MBlk mb tb tv gs go gh gw j \/ T j) W w' /\ ∃ T',MCa T' w' cv (Bf.all act c d).2 /\ ∀ j,T' j -> T j \/ W.heap.size <= j := by
 have HH := hid1 h;have HF := hid1 hF;have HCf := hid1 hCf;have HCa := hid1 hca;have HT := hid1 hT;have HT0 := hid1 hT0;have HAct := hid1 hAct;have HAf := hid1 hAf;have HLt := hid1 h.lt;have HBs := hid1 h.base.size;obtain ⟨i0,hi,hz0,hz1,hz2⟩ := info_parts Tryz.infoInt;clear h hF hCf hca hT hT0 hAct hAf;go_enter Tryz.func74,Tryz.ntmps74
 go_wp2
 go_loopg [3] (d.waits) (fun gn ov wr => ∃ (d' : Bf.Bd) (c' : Bf.Ca) (T' : Nat -> Prop) (os : List Nat),Bf.allL act (d.waits + 1) c d = os ++ Bf.allL act (d'.waits + 1) c' d' /\ d'.waits = gn /\ d'.l = d.l /\ d'.fs = d.fs /\ Bf.all act c d = Bf.all act c' d' /\ Bf.Fit d' /\ Bf.CFit c' /\ MB w0 wr mb tb tv lv cv gs go gh gw d' /\ MCa T' wr cv c' /\ (∀ j,T' j -> T j \/ W.heap.size <= j) /\ Only (fun j => MBlk mb tb tv gs go gh gw j \/ T j) W wr /\ wr.ownsRow W.heap.size 3 1 ov os.length (os.map nv) /\ (∀ j,some j = ov.ownBlock -> ¬ T' j) /\ os.length + gn <= d.waits)
 case atStart => exact ⟨d,c,T,[],rfl,rfl,rfl,rfl,rfl,HF.out.fit,HCf.out,HH.out,HCa.out,fun j hj => .inl hj,Only.of (Below.refl _ _),World.ownsRow_nil _ _ _ _,fun j hj => by simp [Value.ownBlock] at hj,by simp⟩
 case round =>
  obtain ⟨d',c',T',os,haL,hgk,hl,hfs,hall,hfit,hcf,hM,hca,hT',hO,hrow,hnT,hos⟩ := hrel;have hF' := HF.out.same hl hfs hfit;have hsz := hO.size;have HAL := hid1 haL;clear haL;have HTd : Hid (∀ j,MBlk mb tb tv gs go gh gw j -> ¬ T' j) := hid1 fun j hj ht => by
   rcases hT' j ht with h1 | h1
   ·exact HT.out j hj h1
   ·have := HLt.out j hj;omega
  have HT0' : Hid (∀ j,T' j -> w0.heap.size <= j) := hid1 fun j hj => by
   rcases hT' j hj with h1 | h1
   ·exact HT0.out j h1
   ·have := HBs.out;omega
  have hwn := Bf.many_le d.st Bf.St.isWaits d.l.length;have hwd : d.waits <= 40 := Nat.le_trans hwn HF.out.few;have HRd := hid1 (Zey hM (by have := hF'.few;omega) fun x hx => by have := (hF'.small x hx).many;omega)
  have HRn := hid1 fun (V : World) (gV : Below wr.heap.size wr V) (i : Int) => Zhc (hM.below gV) hF' HAct.out hcf (hca.below gV) HTd.out HT0'.out i
  have HF' := hid1 hF';have HR0 := hid1 (And.intro hall (And.intro hfit (And.intro hcf (And.intro hM (And.intro hca (And.intro hT' (And.intro hO (And.intro hrow hnT))))))));clear hall hfit hcf hM hca hT' hO hrow hnT hF';cases hrd : d'.ready with
  | nil =>
   rw [hrd] at HRd;have HE := hid1 (Bf.all_nil act c' d' hrd);have HEL := hid1 (Bf.allL_nil act c' d' hrd);clear hrd HRn;go_wp2_with fail;refine HRd.out.mono ?_;rintro e w5 ⟨u5,rfl,ho5,g5⟩;obtain ⟨p5,c5,rfl⟩ : ∃ p c,u5 = .slice p 0 c := by
    rcases ho5.2 with ⟨rfl,_⟩ | ⟨g,cap,cur,rfl,_⟩
    ·exact ⟨_,_,rfl⟩
    ·exact ⟨_,_,rfl⟩
   clear HRd ho5;go_wp2;go_ret;obtain ⟨hall,hfit,hcf,hM,hca,hT',hO,hrow,hnT⟩ := HR0.out;rw [hall,HE.out,HAL.out,HEL.out,List.append_nil];exact ⟨⟨_,rfl,Zap hrow g5⟩,hM.below g5,hO.trans (S' := fun _ => False) ⟨g5.os,g5.tape,g5.output,g5.size,fun j hj _ => g5.block j hj⟩ (fun j hj => hj.elim),T',hca.below g5,hT'⟩
  | cons i r =>
   have hmem := Bf.mem_ready.1 (show i ∈ d'.ready by rw [hrd];simp)
   have hgo := Bf.run_ready act c' d' i hmem.1 hmem.2;have hless := Bf.go_less act c' d' i hmem.1 hmem.2;have hgf := Bf.go_fit (act := act) HAf.out (c := c') (d := d') HR0.out.2.2.1 HR0.out.2.1 i;have HE := hid1 (Bf.all_cons act c' d' hrd);have HEL := hid1 (Bf.allL_cons act c' d' hrd);rw [hrd] at HRd;have HL := hid1 (And.intro hless (And.intro hgf hgo));have hmi := hmem.1;have hfw := HF'.out.few
   clear hrd hmem hgo hless hgf;go_wp2_with fail;refine HRd.out.mono ?_;rintro e w5 ⟨u5,rfl,ho5,g5⟩;have hrow5 := ho5;obtain ⟨g5',c5,rfl,hb5,hl5⟩ := hrow5.form (by simp)
   have x5 := hrow5.cells (g := g5') rfl 0 (nv i) (by simp)
   rw [show (⟨g5',0,none⟩ : Addr).add 0 = ⟨g5',0,none⟩ from rfl] at x5
   have HRi := hid1 (HRn.out w5 g5 (i : Int));have H5 := hid1 (And.intro ho5 g5);have z5 := g5.size;clear HRd HRn ho5 hrow5 g5;rw [List.length_cons];go_wp2_with fail;refine HRi.out.mono ?_;rintro e w6 ⟨rfl,hM6,hO6,T6,hca6,hT6⟩;obtain ⟨hall,hfit,hcf,hM,hca,hT',hO,hrow,hnT⟩ := HR0.out;obtain ⟨hless,hgf,hgo⟩ := HL.out;rw [hgo] at hM6 hca6;have hTl := hca.lt;have z6 := hO6.size
   have x6 := hO6.cell x5 fun hx => by
    rcases hx with h1 | h1
    ·have := HLt.out _ h1;simp at this;omega
    ·have := hTl _ h1;simp at this;omega
   have hnB : ∀ j,some j = u3.ownBlock -> ¬ (MBlk mb tb tv gs go gh gw j \/ T' j) := fun j hj hx => by
    rcases hx with h1 | h1
    ·have h2 := (hrow.lt j hj.symm).1;have := HLt.out j h1;omega
    ·exact hnT j hj h1
   have hrow6 := Zax (Zap hrow H5.out.2) hO6 hnB;have hul : ∀ j,some j = u3.ownBlock -> j < wr.heap.size := fun j hj => (hrow.lt j hj.symm).2
   have HK : Hid (∀ (Y : World) (g cap : Nat),(Y.ownsRow W.heap.size 3 1 (.slice (some ⟨g,0,none⟩) (os.length + 1) cap) (os.length + 1) (os.map nv ++ [nv i])) -> (w6.alloc (.cells #[nv i] 3)).grownBy Y u3.ownBlock -> (u3.ownBlock = some g \/ g = (w6.alloc (.cells #[nv i] 3)).heap.size) ->
     ∃ (d'' : Bf.Bd) (c'' : Bf.Ca) (T'' : Nat -> Prop) (os' : List Nat),Bf.allL act (d.waits + 1) c d = os' ++ Bf.allL act (d''.waits + 1) c'' d'' /\ d''.waits = (Bf.go act c' d' i).d.waits /\ d''.l = d.l /\ d''.fs = d.fs /\ Bf.all act c d = Bf.all act c'' d'' /\ Bf.Fit d'' /\ Bf.CFit c'' /\ MB w0 Y mb tb tv lv cv gs go gh gw d'' /\ MCa T'' Y cv c'' /\ (∀ j,T'' j -> T j \/ W.heap.size <= j) /\ Only (fun j => MBlk mb tb tv gs go gh gw j \/ T j) W Y /\ Y.ownsRow W.heap.size 3 1 (.slice (some ⟨g,0,none⟩) (os.length + 1) cap) os'.length (os'.map nv) /\ (∀ j,some j = (Value.slice (some ⟨g,0,none⟩) (os.length + 1) cap).ownBlock -> ¬ T'' j) /\ os'.length + (Bf.go act c' d' i).d.waits <= d.waits) := hid1 fun Y g cap hY hgr hli => by
    have za : (w6.alloc (.cells #[nv i] 3)).heap.size = w6.heap.size + 1 := by simp
    have hgy : ∀ j,j < w6.heap.size -> some j ≠ u3.ownBlock -> Y.heap[j]? = w6.heap[j]? := fun j hj hn => (hgr.block j (by omega) hn).trans (((Below.refl _ w6).alloc (Nat.le_refl _) _).block j hj)
    have zY := hgr.size;have hT6' : ∀ j,T6 j -> some j ≠ u3.ownBlock := fun j hj e => by
     rcases hT6 j hj with h1 | h1
     ·exact hnT j e h1
     ·have := hul j e;omega
    have hBY : Below w0.heap.size w0 Y := by
     refine ⟨?_,?_,?_,?_,fun j hj => ?_⟩
     ·exact hgr.os.trans hM6.base.os
     ·exact hgr.tape.trans hM6.base.tape
     ·exact hgr.output.trans hM6.base.output
     ·have := hM6.base.size;omega
     ·have h1 := HBs.out;exact (hgy j (by omega) fun e => by have := (hrow.lt j e.symm).1;omega).trans (hM6.base.block j hj)
    refine ⟨_,_,T6,os ++ [i],HAL.out.trans (by rw [HEL.out];simp),rfl,hless.2.1.trans hl,hless.2.2.trans hfs,hall.trans HE.out,hgf.1,hgf.2,hM6.same hBY (by omega) (fun j hj => hgy j (by have := HLt.out j hj;omega) fun e => hnB j e (.inl hj)),hca6.same (by omega) (fun j hj => hgy j (hca6.lt j hj) (hT6' j hj)),fun j hj => ?_,?_,?_,fun j hj ht => ?_,?_⟩
    ·rcases hT6 j hj with h1 | h1
     ·exact hT' j h1
     ·exact .inr (by omega)
    ·have g5 := H5.out.2;refine ⟨?_,?_,?_,by omega,fun j hj hs => ?_⟩
     ·exact hgr.os.trans (hO6.os.trans (g5.os.trans hO.os))
     ·exact hgr.tape.trans (hO6.tape.trans (g5.tape.trans hO.tape))
     ·exact hgr.output.trans (hO6.output.trans (g5.output.trans hO.output))
     ·refine (hgy j (by omega) fun e => by have := (hrow.lt j e.symm).1;omega).trans ((hO6.block j (by omega) fun hx => ?_).trans ((g5.block j (by omega)).trans (hO.block j hj hs)))
      rcases hx with h1 | h1
      ·exact hs (.inl h1)
      ·rcases hT' j h1 with h2 | h2
       ·exact hs (.inr h2)
       ·omega
    ·rw [List.length_append,List.length_singleton,List.map_append];exact hY
    ·obtain rfl : j = g := by simpa [Value.ownBlock] using hj
     rcases hli with h1 | h1
     ·exact hT6' j ht h1.symm
     ·have := hca6.lt j ht;omega
    ·rw [List.length_append,List.length_singleton];have := hless.1;omega
   have hlw := hless.1;have hml : os.length + 1 <= maxLen := by unfold maxLen;omega
   have hbz : W.heap.size <= w6.heap.size := by omega
   clear HRi x5 hM6 hO6 hca6 hT6 hall hfit hcf hM hca hT' hO hrow hnT hnB hul hgf hgo hless hTl;go_wp2_with (first
    | (at_builtin;refine wpList_append_lies _ rfl _ _ 68 rfl W.heap.size 3 i0 (.int .i64 0) 1 8 Tryz.underlying68 hi hz0 hz1 hz2 rfl (by decide) u3 os.length (os.map nv) rfl (hrow6.alloc _) ⟨w6.heap.size,0,none⟩ 1 1 [nv i] rfl rfl (cell_one_new _ _ _) (by simp [Value.oneCell']) (by decide) hml (by omega) (by simp;omega) _ rfl ?_;intro g8 cap8 w8 hown8 hgrow8 hlies8 hlt8)
    | fail)
   go_roundg ((Bf.go act c' d' i).d.waits)
   case measure => omega
   case rel => exact HK.out w8 g8 cap8 hown8 hgrow8 hlies8
theorem Bf.pickAt_size (p : Int) (n : Nat) : Bf.pickAt p n = Bf.size p % n := by
 unfold Bf.pickAt Bf.size;split
 ·simp
 ·rfl
theorem Bf.size_le {p : Int} (h0 : -9223372036854775808 <= p) (h1 : p <= 9223372036854775807) : Bf.size p <= 9223372036854775807 := by
 unfold Bf.size;split <;> omega
theorem Bf.turn_mem (ps : List Int) (j : Nat) : Bf.turn ps j = 0 \/ Bf.turn ps j ∈ ps := by
 unfold Bf.turn;by_cases hj : j < ps.length
 ·right
  rw [List.getD_eq_getElem?_getD,List.getElem?_eq_getElem hj]
  exact List.getElem_mem hj
 ·left
  rw [List.getD_eq_getElem?_getD,List.getElem?_eq_none (by omega)]
  rfl
theorem Zvh {w : World} (v : Value) (ps : List Int) (hZ : ZRow w v ps) (hps : ∀ x ∈ ps,-9223372036854775808 <= x /\ x <= 9223372036854775807) (_hl : ps.length <= 1000) (j : Nat) (_hj : j <= 1000) : Calls Tryz.prog 147 #[v,.int .i64 j] w fun e w' => e = .returned (.int .i64 (Bf.size (Bf.turn ps j) : Nat)) /\ w' = w := by
 obtain ⟨p,cap,rfl,hin⟩ := hZ;have j0 : (0 : Int) <= (j : Int) := by omega
 by_cases hlt : j < ps.length
 ·obtain ⟨g,o,rfl,hg,hc⟩ := hin (by intro e;rw [e] at hlt;simp at hlt)
  have d0 := hc j hlt;have e : Bf.turn ps j = ps[j] := by
   unfold Bf.turn;rw [List.getD_eq_getElem?_getD,List.getElem?_eq_getElem hlt]
   rfl
  rw [e];have hb := hps _ (List.getElem_mem hlt);have HS := hid1 fun V => Zpd ps[j] hb.1 hb.2 V
  have j1 : (j : Int) < (ps.length : Int) := by omega
  clear hc hin hps e;generalize ps[j] = y at *;go_enter Tryz.func147,Tryz.ntmps147
  go_wp2_with fail;refine (HS.out _).mono ?_;rintro e w1 ⟨rfl,rfl⟩;go_wp2;go_ret;exact ⟨rfl,rfl⟩
 ·have e : Bf.turn ps j = 0 := by
   unfold Bf.turn;rw [List.getD_eq_getElem?_getD,List.getElem?_eq_none (by omega)]
   rfl
  rw [e];have j1 : (ps.length : Int) <= (j : Int) := by omega
  clear hin hps e;go_enter Tryz.func147,Tryz.ntmps147
  go_wp2;go_ret;exact ⟨rfl,rfl⟩
structure PkS (act : Bf.Act) (BAt : (Nat -> Prop) -> World -> Value -> Value -> Bf.Bd -> Prop) (p : Addr) (ps : List Int) (d : Bf.Bd) (S : Nat -> Prop) (W : World) (s : Bf.Pk) (S' : Nat -> Prop) (ov : Value) (wr : World) : Prop where
 fin : Bf.pickRun act none d ps = Bf.fin act s (ps.drop s.xs.length)
 bare : s.c = none
 l : s.d.l = d.l
 fit : Bf.Fit s.d
 bat : BAt S' wr (.pointer (some p)) (.pointer none) s.d
 sub : ∀ j,S' j -> S j \/ W.heap.size <= j
 only : Only S W wr
 row : wr.ownsRow W.heap.size 3 1 ov s.xs.length (s.xs.map nv)
 far : ∀ j,some j = ov.ownBlock -> ¬ S' j
 len : s.xs.length + s.d.waits <= d.waits
theorem PkS.below {es : Nat -> Addr} {act : Bf.Act} {At : (Nat -> Prop) -> World -> Value -> Nat -> Cf.Ens -> Prop} {BAt : (Nat -> Prop) -> World -> Value -> Value -> Bf.Bd -> Prop} (HB : Builds es act At BAt) {p : Addr} {ps : List Int} {d : Bf.Bd} {S : Nat -> Prop} {W : World} {s : Bf.Pk} {S' : Nat -> Prop} {ov : Value} {wr w' : World} (h : PkS act BAt p ps d S W s S' ov wr) (hb : Below wr.heap.size wr w') : PkS act BAt p ps d S W s S' ov w' :=
 ⟨h.fin,h.bare,h.l,h.fit,HB.same _ _ _ _ _ _ h.bat hb.size fun k hk => hb.block k (HB.lt _ _ _ _ _ h.bat k hk),h.sub,h.only.trans (S' := fun _ => False) (Only.of hb) fun _ hj => hj.elim,Zap h.row hb,h.far,h.len⟩
theorem PkS.next {es : Nat -> Addr} {act : Bf.Act} {At : (Nat -> Prop) -> World -> Value -> Nat -> Cf.Ens -> Prop} {BAt : (Nat -> Prop) -> World -> Value -> Value -> Bf.Bd -> Prop} (HB : Builds es act At BAt) (hAf : Bf.ActFit act) {p : Addr} {ps : List Int} {d : Bf.Bd} {S : Nat -> Prop} {W : World} {s : Bf.Pk} {S' S6 : Nat -> Prop} {ov : Value} {wr w6 Y : World} {g cap k : Nat} {o : Obj} (h : PkS act BAt p ps d S W s S' ov wr)
  (hr : s.d.ready ≠ []) (hk : k = s.d.ready.getD (Bf.pickAt (Bf.turn ps s.xs.length) s.d.ready.length) 0) (hO6 : Only (fun j => S' j \/ False) wr w6) (hB6 : BAt S6 w6 (.pointer (some p)) (.pointer none) (Bf.run act none s.d (k : Int)).d) (hS6 : ∀ j,S6 j -> S' j \/ wr.heap.size <= j)
  (hY : Y.ownsRow W.heap.size 3 1 (.slice (some ⟨g,0,none⟩) (s.xs.length + 1) cap) (s.xs.length + 1) (s.xs.map nv ++ [nv k])) (hgr : (w6.alloc o).grownBy Y ov.ownBlock) (hli : ov.ownBlock = some g \/ g = (w6.alloc o).heap.size) :
  PkS act BAt p ps d S W (Bf.pstep act s (Bf.turn ps s.xs.length)) S6 (.slice (some ⟨g,0,none⟩) (s.xs.length + 1) cap) Y /\ (Bf.pstep act s (Bf.turn ps s.xs.length)).d.waits < s.d.waits := by
 have hlt := Bf.pickAt_lt (p := Bf.turn ps s.xs.length) (List.length_pos_iff.2 hr);have ek : k = s.d.ready[Bf.pickAt (Bf.turn ps s.xs.length) s.d.ready.length] := by
  rw [hk,List.getD_eq_getElem?_getD,List.getElem?_eq_getElem hlt]
  rfl
 have hm := Bf.mem_ready.1 (ek ▸ List.getElem_mem hlt);have e := Bf.pstep_some (act := act) (p := Bf.turn ps s.xs.length) hr hlt;rw [<- ek,h.bare] at e;rw [Bf.run_ready act none s.d k hm.1 hm.2] at hB6;have hless := Bf.go_less act none s.d k hm.1 hm.2;have hgf := Bf.go_fit hAf (c := none) (d := s.d) (by trivial) h.fit k
 have hf := Bf.fin_turn (act := act) hr ps s.xs.length;have hlw := HB.lt _ _ _ _ _ h.bat;have hl6 := HB.lt _ _ _ _ _ hB6;have z6 := hO6.size;have zW := h.only.size;have za : (w6.alloc o).heap.size = w6.heap.size + 1 := by simp
 have zY := hgr.size;have hgy : ∀ j,j < w6.heap.size -> some j ≠ ov.ownBlock -> Y.heap[j]? = w6.heap[j]? := fun j hj hn => (hgr.block j (by omega) hn).trans (((Below.refl _ w6).alloc (Nat.le_refl _) _).block j hj)
 have hov : ∀ j,some j = ov.ownBlock -> W.heap.size <= j /\ j < wr.heap.size := fun j hj => h.row.lt j hj.symm
 have hS6' : ∀ j,S6 j -> some j ≠ ov.ownBlock := fun j hj e => by
  rcases hS6 j hj with h1 | h1
  ·exact h.far j e h1
  ·have := (hov j e).2;omega
 refine ⟨?_,by rw [e];exact hless.1⟩
 have hxs : (Bf.pstep act s (Bf.turn ps s.xs.length)).xs.length = s.xs.length + 1 := by rw [e];simp
 refine ⟨by rw [h.fin,hf,hxs],by rw [e];exact Bf.go_none act s.d k,by rw [e];exact hless.2.1.trans h.l,by rw [e];exact hgf.1,?_,fun j hj => ?_,?_,?_,fun j hj ht => ?_,?_⟩
 ·rw [e];exact HB.same _ _ _ _ _ _ hB6 (by omega) fun j hj => hgy j (hl6 j hj) (hS6' j hj)
 ·rcases hS6 j hj with h1 | h1
  ·exact h.sub j h1
  ·exact .inr (by omega)
 ·refine ⟨?_,?_,?_,by omega,fun j hj hs => ?_⟩
  ·exact hgr.os.trans (hO6.os.trans h.only.os)
  ·exact hgr.tape.trans (hO6.tape.trans h.only.tape)
  ·exact hgr.output.trans (hO6.output.trans h.only.output)
  ·refine (hgy j (by omega) fun e => by have := (hov j e).1;omega).trans ((hO6.block j (by omega) fun hx => ?_).trans (h.only.block j hj hs))
   rcases hx with h1 | h1
   ·rcases h.sub j h1 with h2 | h2
    ·exact hs h2
    ·omega
   ·exact h1
 ·rw [hxs,e,List.map_append];exact hY
 ·obtain rfl : j = g := by simpa [Value.ownBlock] using hj
  rcases hli with h1 | h1
  ·exact hS6' j ht h1.symm
  ·have := hl6 j ht;omega
 ·rw [hxs,e];have h1 := hless.1;have h2 := h.len;simp only;omega
def Zig (act : Bf.Act) (BAt : (Nat -> Prop) -> World -> Value -> Value -> Bf.Bd -> Prop) (p : Addr) (ps : List Int) (d : Bf.Bd) (S : Nat -> Prop) (W w' : World) (u : Value) : Prop :=
 ∃ S',BAt S' w' (.pointer (some p)) (.pointer none) (Bf.pickRun act none d ps).d /\ (∀ j,S' j -> S j \/ W.heap.size <= j) /\ Only S W w' /\ w'.ownsRow W.heap.size 3 1 u (Bf.pickRun act none d ps).xs.length ((Bf.pickRun act none d ps).xs.map nv) /\ (∀ j,some j = u.ownBlock -> ¬ S' j)
theorem Zxs {w : World} {es : Nat -> Addr} (hc : w.cell? ⟨1,0,none⟩ = some (erOf es 3)) (v : Value) : Calls Tryz.prog 88 #[.pointer none,v] w fun e w' => e = .returned (.tuple #[.slice none 0 0,erOf es 3]) /\ Below w.heap.size w w' := by
 go_enter Tryz.func88,Tryz.ntmps88
 go_wp2;go_region;go_wp2;go_ret2;exact ⟨rfl,Zad (Below.refl _ w) 1⟩
theorem Zjo {es : Nat -> Addr} {act : Bf.Act} {At : (Nat -> Prop) -> World -> Value -> Nat -> Cf.Ens -> Prop} {BAt : (Nat -> Prop) -> World -> Value -> Value -> Bf.Bd -> Prop} (HB : Builds es act At BAt) (hAf : Bf.ActFit act) {B : Nat} {S : Nat -> Prop} {W : World} {p : Addr} {d : Bf.Bd} (hA : BAt S W (.pointer (some p)) (.pointer none) d) (hW : BuildB B W es) (hSB : ∀ j,S j -> B <= j) (hf : (Ru.fault d.l).1 = 0) (hsm : ∀ x ∈ d.l,x.Small) (hfit : Bf.Fit d)
  (v : Value) (ps : List Int) (hZ : ZRow W v ps) (hps : ∀ x ∈ ps,-9223372036854775808 <= x /\ x <= 9223372036854775807) (hl : ps.length <= 1000) (hfar : ps ≠ [] -> ∀ g o n c,v = .slice (some ⟨g,o,none⟩) n c -> ¬ S g) :
  Calls Tryz.prog 88 #[.pointer (some p),v] W fun e w' => ∃ u,e = .returned (.tuple #[u,.nilIface]) /\ Zig act BAt p ps d S W w' u := by
 have HBu := hid1 HB;have HAf := hid1 hAf;have HW := hid1 hW;have HSB := hid1 hSB;have HFa := hid1 hf;have HSm := hid1 hsm;have HPs := hid1 hps;have HZ : Hid (∀ V,Only S W V -> ZRow V v ps) := hid1 fun V hV => by
  obtain ⟨q,cap,rfl,hin⟩ := hZ;refine ⟨q,cap,rfl,fun hne => ?_⟩
  obtain ⟨g,o,rfl,hg,hc⟩ := hin hne;exact ⟨g,o,rfl,Nat.lt_of_lt_of_le hg hV.size,fun j hj => hV.cell (hc j hj) (hfar hne g o _ _ rfl)⟩
 have HS0 : Hid (PkS act BAt p ps d S W ⟨d,none,[]⟩ S (.slice none 0 0) W) := hid1 ⟨rfl,rfl,rfl,hfit,hA,fun j hj => .inl hj,Only.refl _ _,World.ownsRow_nil _ _ _ _,fun j hj => by simp [Value.ownBlock] at hj,by simp⟩
 have h40 := (Ru.fault_ok hf).1;have hwd : d.waits <= 40 := Nat.le_trans (Bf.many_le d.st Bf.St.isWaits d.l.length) h40;have HRd0 := hid1 (HB.ready _ _ _ _ _ hA h40);obtain ⟨pv,cv,rfl,-⟩ := hZ;obtain ⟨i0,hi,hz0,hz1,hz2⟩ := info_parts Tryz.infoInt;clear hA hW hSB hf hsm hfit hps hfar HB hAf;go_enter Tryz.func88,Tryz.ntmps88
 go_wp2_with fail;refine HRd0.out.mono ?_;rintro e w2 ⟨u0,rfl,hu0,g2⟩;have HU0 := hid1 hu0;have HA2 := hid1 (HS0.out.below HBu.out g2);obtain ⟨p0,k0,rfl,-⟩ := hu0;clear HRd0 HS0 g2;go_wp2;go_loopg [6,7] (d.waits) (fun gn ov rv wr => ∃ (s : Bf.Pk) (S' : Nat -> Prop),s.d.waits = gn /\ PkS act BAt p ps d S W s S' ov wr /\ NIRow wr rv s.d.ready)
 case atStart => exact ⟨_,S,rfl,HA2.out,HU0.out⟩
 case round =>
  clear HA2 HU0;obtain ⟨s,S',hgn,hK,hu⟩ := hrel;have HK := hid1 hK;have HGn := hid1 hgn;have hl' : s.d.l.length <= 40 := by rw [hK.l];exact h40
  have hrl : s.d.ready.length <= 40 := Nat.le_trans (Bf.readyTo_len s.d s.d.l.length) hl';have HU := hid1 hu;have hxl : s.xs.length <= 40 := by have := hK.len;omega
  obtain ⟨p3,c3,rfl,-⟩ := hu;obtain ⟨p6,c6,e6⟩ := Zay hK.row;have e6' := e6;subst e6';clear hK hgn;by_cases hq : s.d.ready = []
  ·have HDn : Hid (Zig act BAt p ps d S W wr (.slice p6 s.xs.length c6)) := hid1 (by
    have e : Bf.pickRun act none d ps = s := by rw [HK.out.fin,Bf.fin_none hq]
    unfold Zig;rw [e];exact ⟨S',HK.out.bat,HK.out.sub,HK.out.only,HK.out.row,HK.out.far⟩)
   have e0 : s.d.ready.length = 0 := by rw [hq];rfl
   rw [e0];clear hq HU HK;go_wp2;go_ret2;exact ⟨_,rfl,HDn.out⟩
  ·have hpos := List.length_pos_iff.2 hq;have hlt := Bf.pickAt_lt (p := Bf.turn ps s.xs.length) hpos;have hsz := Bf.pickAt_size (Bf.turn ps s.xs.length) s.d.ready.length;have hbt : -9223372036854775808 <= Bf.turn ps s.xs.length /\ Bf.turn ps s.xs.length <= 9223372036854775807 := by
    rcases Bf.turn_mem ps s.xs.length with h1 | h1
    ·rw [h1];omega
    ·exact HPs.out _ h1
   have hsl := Bf.size_le hbt.1 hbt.2;obtain ⟨g3,o3,rfl,hg3,hc3⟩ := NIRow.at HU.out hq;have d0 := hc3 _ hlt;have HAt := hid1 (Zvh _ ps (HZ.out wr HK.out.only) HPs.out hl s.xs.length (by omega))
   obtain ⟨k,hk⟩ : ∃ k,k = s.d.ready.getD (Bf.pickAt (Bf.turn ps s.xs.length) s.d.ready.length) 0 := ⟨_,rfl⟩
   have ek : s.d.ready[Bf.pickAt (Bf.turn ps s.xs.length) s.d.ready.length] = k := by
    rw [hk,List.getD_eq_getElem?_getD,List.getElem?_eq_getElem hlt]
    rfl
   rw [ek] at d0;have hm := Bf.mem_ready.1 (ek ▸ List.getElem_mem hlt);have hki : k <= 40 := by have := hm.1;omega
   have HRn := hid1 (HBu.out.run B S' (fun _ => False) wr p (.pointer none) s.d none (k : Int) HK.out.bat ⟨rfl,fun j h => h⟩ (fun j _ h => h) (HW.out.only HK.out.only HSB.out) (fun j hj => by
    rcases HK.out.sub j hj with h1 | h1
    ·exact HSB.out j h1
    ·have := HW.out.le;omega) (fun j h => h.elim) (by rw [HK.out.l];exact HFa.out) (by rw [HK.out.l];exact HSm.out) HK.out.fit trivial (by omega) (by omega))
   have HNx := hid1 fun (w6 Y : World) (S6 : Nat -> Prop) (g cap : Nat) (o : Obj) => HK.out.next HBu.out HAf.out (w6 := w6) (Y := Y) (S6 := S6) (g := g) (cap := cap) (o := o) hq hk
   have hrow := HK.out.row;have hfr := HK.out.far;have HBat := hid1 HK.out.bat;have hbz := HK.out.only.size;have htm : Int.tmod ((Bf.size (Bf.turn ps s.xs.length) : Nat) : Int) ((s.d.ready.length : Nat) : Int) = ((Bf.pickAt (Bf.turn ps s.xs.length) s.d.ready.length : Nat) : Int) := by
    rw [hsz,<- Int.ofNat_tmod]
   have HLw := hid1 (HBu.out.lt _ _ _ _ _ HK.out.bat);clear hk ek hm hq HU hc3 HK hsz hbt;generalize Bf.pickAt (Bf.turn ps s.xs.length) s.d.ready.length = a at *;generalize Bf.size (Bf.turn ps s.xs.length) = z at *;have za : (a : Int) < (s.d.ready.length : Int) := by omega
   have za0 : (0 : Int) <= (a : Int) := by omega
   have zr : (0 : Int) < (s.d.ready.length : Int) := by omega
   have zr0 : (s.d.ready.length : Int) ≠ 0 := by omega
   have zz : (z : Int) <= 9223372036854775807 := by omega
   go_wp2_with fail;refine HAt.out.mono ?_;rintro e w3 ⟨rfl,rfl⟩;clear HAt;go_wp2_with fail;refine HRn.out.mono ?_;rintro e w6 ⟨rfl,hO6,S6,SC6,hB6,-,-,hS6,-⟩;have hrow6 := Zax hrow hO6 fun j hj hx => hx.elim (hfr j hj) id
   have z6 := hO6.size;have HN6 := hid1 fun (Y : World) (g cap : Nat) (o : Obj) => HNx.out w6 Y S6 g cap o hO6 hB6 hS6
   have hml : s.xs.length + 1 <= maxLen := by unfold maxLen;omega
   have hbz6 : W.heap.size <= w6.heap.size := by omega
   clear HRn HNx hO6 hB6 hS6 hrow hfr;go_wp2_with (first
    | (at_builtin;refine wpList_append_lies _ rfl _ _ 68 rfl W.heap.size 3 i0 (.int .i64 0) 1 8 Tryz.underlying68 hi hz0 hz1 hz2 rfl (by decide) _ s.xs.length (s.xs.map nv) rfl (hrow6.alloc _) ⟨w6.heap.size,0,none⟩ 1 1 [nv k] rfl rfl (cell_one_new _ _ _) (by simp [Value.oneCell']) (by decide) hml (by omega) (by simp;omega) _ rfl ?_;intro g8 cap8 w8 hown8 hgrow8 hlies8 hlt8)
    | fail)
   obtain ⟨hP8,hw8⟩ := HN6.out w8 g8 cap8 _ hown8 hgrow8 hlies8;have HP8 := hid1 hP8;have HRd := hid1 (HBu.out.ready _ _ _ _ _ hP8.bat (by rw [hP8.l];exact h40))
   clear hP8 HN6 hown8 hgrow8 hlies8 hrow6;go_wp2_with fail;refine HRd.out.mono ?_;rintro e w9 ⟨u9,rfl,hu9,g9⟩;have HU9 := hid1 hu9;have HA9 := hid1 (HP8.out.below HBu.out g9);obtain ⟨p9,c9,rfl,-⟩ := hu9;clear HRd HP8 g9;go_wp2;go_roundg ((Bf.pstep act s (Bf.turn ps s.xs.length)).d.waits)
   case measure => rw [<- HGn.out];exact hw8
   case rel => exact ⟨_,S6,rfl,HA9.out,HU9.out⟩
theorem Tryz.infoRFileC : (Tryz.prog.info? 51).map (fun i => (i.zero,i.size,i.bytes)) = some (some (.agg #[.string ⟨#[]⟩,.string ⟨#[]⟩]),2,32) := by kernel_rfl
theorem Zyn {fs : Tf.Fs} : ∀ u ∈ Zae fs,u.oneCell' = true := fun u hu => by
 unfold Zae at hu;obtain ⟨f,_,h⟩ := List.mem_flatMap.1 hu;simp at h;rcases h with rfl | rfl <;> rfl
theorem Zje {B : Nat} {w : World} {tb : Nat} {fs : Tf.Fs} {tv : Value} (h : RTreeAt B w tb fs tv) (hn : fs.length <= 1000) :
  Calls Tryz.prog 80 #[Ptr tb] w fun e w' => ∃ tv',e = .returned (Ptr w.heap.size) /\ RTreeAt w.heap.size w' w.heap.size fs tv' /\ Below w.heap.size w w' := by
 have g0 : Below w.heap.size w (w.alloc (.cells #[.slice none 0 0] 38)) := (Below.refl _ w).alloc (Nat.le_refl _) _;have h0 := h.below g0;have c0 := h0.cell;have b0 : (w.alloc (.cells #[.slice none 0 0] 38)).cell? ⟨w.heap.size,0,none⟩ = some (.slice none 0 0) := by simp
 have b1 : (w.alloc (.cells #[.slice none 0 0] 38)).frozen? ⟨w.heap.size,0,none⟩ = false := by simp
 have hz : (w.alloc (.cells #[.slice none 0 0] 38)).heap.size = w.heap.size + 1 := by simp
 obtain ⟨i0,hi,hz0,hz1,hz2⟩ := info_parts Tryz.infoRFileC;have HH := hid1 h0;have HG := hid1 g0;have hN : (w.alloc (.cells #[.slice none 0 0] 38)).ownsRow (w.heap.size + 1) 51 2 (.slice none 0 0) 0 [] := World.ownsRow_nil _ _ _ _;by_cases hfs : fs = []
 ·subst hfs;obtain rfl := h.nil rfl;clear h h0 g0;generalize hW0 : w.alloc (.cells #[.slice none 0 0] 38) = W0 at *;have hrun := run_append_owned_none (P := Tryz.prog) (w := W0.drew) (w.heap.size + 1) 36 36 51 i0 2 Tryz.underlying36 hi (.slice none 0 0) 0 [] hN;go_enter Tryz.func80,Tryz.ntmps80
  go_wp2;go_region;go_wp2;go_ret;refine ⟨.slice none 0 0,rfl,⟨Nat.le_refl _,?_,?_,World.ownsRow_nil _ _ _ _,by simp [Value.ownBlock],fun _ => rfl⟩,?_⟩
  ·exact World.cell?_setCell_same' _ _ _ (by show (W0.cell? _).isSome = true;rw [b0];rfl)
  ·show (W0.setCell ⟨w.heap.size,0,none⟩ (.slice none 0 0)).frozen? ⟨w.heap.size,0,none⟩ = false
   rw [World.frozen?_setCell];exact b1
  ·exact Zcr (B := w.heap.size) HG.out.drew (Nat.le_refl _) _
 ·obtain ⟨tp,tcap,rfl,htc,htr⟩ := FRow.of_owns h0.row;obtain ⟨tg,tcur,rfl,htb,htl⟩ := htr hfs;have hnews : ∀ j u,(Zae fs)[j]? = some u -> (w.alloc (.cells #[.slice none 0 0] 38)).cell? ((⟨tg,0,none⟩ : Addr).add j) = some u := h0.row.cells (g := tg) rfl
  have hel : (Zae fs).length = fs.length * 2 := h0.row.1;have hpos : 0 < fs.length := List.length_pos_iff.2 hfs;have hml : 0 + fs.length <= maxLen := by unfold maxLen;omega
  clear h h0 g0 htb htl;generalize hW0 : w.alloc (.cells #[.slice none 0 0] 38) = W0 at *;have hW0l : w.heap.size < W0.heap.size := by omega
  have hNd : W0.drew.ownsRow (w.heap.size + 1) 51 2 (.slice none 0 0) 0 [] := hN;have hnewsd : ∀ j u,(Zae fs)[j]? = some u -> W0.drew.cell? ((⟨tg,0,none⟩ : Addr).add j) = some u := hnews
  go_enter Tryz.func80,Tryz.ntmps80
  go_wp2
  go_region_law (refine step_append_lies _ rfl (.tmp 10) (.tmp 14) 36 rfl (w.heap.size + 1) 51 i0 (.agg #[.string ⟨#[]⟩,.string ⟨#[]⟩]) 2 32 Tryz.underlying36 hi hz0 hz1 hz2 rfl (by decide) (.slice none 0 0) 0 [] rfl hNd ⟨tg,0,none⟩ fs.length tcap (Zae fs) rfl hel hnewsd Zyn hpos hml (by omega) (by show w.heap.size + 1 <= W0.heap.size;omega) _ rfl ?_;intro g8 cap8 w8 hown8 hgrow8 hlies8 hlt8;(have d0 : w8.cell? ⟨w.heap.size,0,none⟩ = some (.slice none 0 0) := (World.grownBy.cell_far hgrow8 ⟨w.heap.size,0,none⟩ (by show w.heap.size < W0.heap.size;omega) (by simp [Value.ownBlock])).trans b0);(have d1 : w8.frozen? ⟨w.heap.size,0,none⟩ = false := (World.grownBy.frozen_far hgrow8 ⟨w.heap.size,0,none⟩ (by show w.heap.size < W0.heap.size;omega) (by simp [Value.ownBlock])).trans b1);(have HE := hid1 (And.intro hown8 (And.intro hgrow8 hlt8)));clear hown8 hgrow8 hlies8)
  all_goals
   go_wp2;go_ret;obtain ⟨hown8,hgrow8,hlt8⟩ := HE.out;have hge := (hown8.lt g8 rfl).1;refine ⟨_,rfl,⟨Nat.le_refl _,World.cell?_setCell_same' _ _ _ (by rw [d0];rfl),by rw [World.frozen?_setCell];exact d1,?_,?_,fun e => absurd e hfs⟩,?_⟩
   ·have h1 := hown8;rw [Nat.zero_add,List.nil_append] at h1;refine ⟨h1.1,?_⟩;rcases h1.2 with ⟨e,_⟩ | ⟨g,cap,cur,e,h0,hg,h2⟩
    ·cases e
    ·refine .inr ⟨g,cap,cur,e,by omega,?_,h2⟩
     rw [Below.heap_setCell w8 ⟨w.heap.size,0,none⟩ _ g (by show g ≠ w.heap.size;omega)]
     exact hg
   ·simp [Value.ownBlock];omega
   ·have hb8 : Below w.heap.size w w8 := ⟨hgrow8.os.trans HG.out.os,hgrow8.tape.trans HG.out.tape,hgrow8.output.trans HG.out.output,by have h1 := hgrow8.size;have : W0.drew.heap.size = W0.heap.size := rfl;omega,fun j hj => (hgrow8.block j (by show j < W0.heap.size;omega) (by simp [Value.ownBlock])).trans (HG.out.block j hj)⟩
    exact Zcr hb8 (Nat.le_refl _) _
end Go.Proofs.YtbgkfmodbofalaaGreatDoor
