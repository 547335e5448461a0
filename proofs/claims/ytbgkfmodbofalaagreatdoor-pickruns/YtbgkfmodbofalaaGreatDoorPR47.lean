import Derived.Test.YtbgkfmodbofalaaGreatDoorPR39
import Derived.Test.YtbgkfmodbofalaaGreatDoorPR46
set_option maxRecDepth 100000
set_option maxHeartbeats 64000000
namespace Go.Proofs.YtbgkfmodbofalaaGreatDoor
open Go.RowKit Go.Shelf Go.Lib
theorem NewTells.ord {es : Nat -> Addr} {BAt : (Nat -> Prop) -> World -> Value -> Value -> Bf.Bd -> Prop} {n : Nat} {fs : Tf.Fs} {l : List Ru} {outs : List (List UInt8)} {cv : Value} {w : World} {bv : Value} (h : NewTells es BAt n fs l outs cv w bv .nilIface) : ∃ o,Ru.order l (Bf.need l outs) = some o := by
 rcases h with ⟨_,⟨h1,h2⟩ | ⟨_,k,hk,_,_,h2⟩ | ⟨_,_,_,h2⟩⟩ | ⟨_,_,h3,_⟩
 ·obtain ⟨t,x,e⟩ := h2.some h1;cases e
 ·obtain ⟨t,x,e⟩ := h2.some (by simp)
  cases e
 ·cases h2
 ·exact Option.isSome_iff_exists.1 h3
theorem Znr (V : World) (a b : Int) : (Instr.field 75 (.agg #[.int .i64 a,.int .i64 b]) 0).run Tryz.prog V = .ok (.int .i64 a) V := by kernel_rfl
theorem ZRow.of_owns {w : World} {B : Nat} {v : Value} {l : List Int} (h : w.ownsRow B 3 1 v l.length (l.map fun x => Value.int .i64 x)) : ZRow w v l /\ ∀ g o n c,v = .slice (some ⟨g,o,none⟩) n c -> B <= g := by
 have hh := h;rcases h.2 with ⟨rfl,e0⟩ | ⟨g,cap,cur,rfl,hb,hg,-⟩
 ·refine ⟨⟨none,0,by rw [e0],fun hne => absurd (List.length_eq_zero_iff.1 e0) hne⟩,fun g o n c e => by cases e⟩
 ·refine ⟨⟨_,cap,rfl,fun _ => ⟨g,0,rfl,(hh.lt g rfl).2,fun j hj => ?_⟩⟩,fun g' o n c e => ?_⟩
  ·rw [Nat.zero_add,hh.cellAt j (by omega),List.getElem?_map,List.getElem?_eq_getElem hj]
   rfl
  ·simp only [Value.slice.injEq,Option.some.injEq,Addr.mk.injEq] at e;omega
theorem Zyu {w : World} {ops : Array Oper} {rest : List Oper} {o : Oper} {a : Act} {Q : Exit -> Act -> World -> Prop} (hgd : o.guard = none) (s x : Operand) (ho : o.op = .call { callee := .builtin .append,args := #[s,x],argTypes := #[68,68] }) (i : TypeInfo) (hi : Tryz.prog.info? 3 = some i) (hz0 : i.zero = some (.int .i64 0)) (hz1 : i.size = 1) (hz2 : i.bytes = 8)
  (hs : a.eval s = .slice none 0 0) {vp : Value} {ps : List Int} (hx : a.eval x = vp) (hZ : ZRow w vp ps) (hvp : vp = .slice none 0 0 \/ ∃ a n c,vp = .slice (some a) n c) (hl : ps.length <= 60)
  (h : ∀ v' w',ZRow w' v' ps -> (∀ g o n c,v' = .slice (some ⟨g,o,none⟩) n c -> w.heap.size <= g) -> Below w.heap.size w w' -> wpList Tryz.prog ops Q rest (a.put o.dst v') w') : wpList Tryz.prog ops Q (o :: rest) a w := by
 have n1 : World.ownsRow w w.heap.size 3 1 (.slice none 0 0) 0 [] := World.ownsRow_nil _ _ _ _;have hlen : ∀ p n c,vp = .slice p n c -> n = ps.length := fun p n c e => by
  obtain ⟨q,c',e1,-⟩ := hZ;rw [e] at e1;simp only [Value.slice.injEq] at e1;exact e1.2.1
 rcases hvp with e | ⟨ad,n,c,e⟩
 ·have h0 := hlen _ _ _ e;refine wpList_append_own_none hgd s x 68 ho w.heap.size 3 i 1 Tryz.underlying68 hi _ _ _ hs n1 (hx.trans e) (h _ w ?_ (fun g o n c e => by cases e) (Below.refl _ _))
  rw [List.length_eq_zero_iff.1 h0.symm];exact ⟨none,0,rfl,fun h => absurd rfl h⟩
 ·obtain rfl := hlen _ _ _ e;have hsrc : ∀ j u,(ps.map fun x => Value.int .i64 x)[j]? = some u -> w.cell? (ad.add j) = some u := fun j u hj => by
   have hjl : j < ps.length := by simpa using (List.getElem?_eq_some_iff.1 hj).1
   obtain ⟨q',c',e1,hin⟩ := hZ;obtain ⟨g,o,e2,hg,hcur⟩ := hin (by intro e;rw [e] at hjl;simp at hjl)
   rw [e,e2] at e1;simp only [Value.slice.injEq] at e1;obtain rfl := Option.some.inj e1.1;rw [List.getElem?_map,List.getElem?_eq_getElem hjl] at hj
   simp only [Option.map_some,Option.some.injEq] at hj;rw [<- hj,Zct];exact hcur j hjl
  have hone : ∀ u ∈ ps.map fun x => Value.int .i64 x,u.oneCell' = true := fun u hu => by
   obtain ⟨y,_,rfl⟩ := List.mem_map.1 hu;rfl
  refine wpList_append_own _ hgd s x 68 ho w.heap.size 3 i (.int .i64 0) 1 8 Tryz.underlying68 hi hz0 hz1 hz2 rfl (by decide) _ _ _ hs n1 ad ps.length c (ps.map fun x => Value.int .i64 x) (hx.trans e) (by simp) hsrc hone (by unfold maxLen;omega) (by omega) (Nat.le_refl _) ?_
  intro v1 w1 hown hgrow _
  obtain ⟨hz,hlow⟩ := ZRow.of_owns (l := ps) (by simpa using hown)
  exact h v1 w1 hz hlow (Zdr (Below.refl _ w) (Nat.le_refl _) n1 hgrow)
theorem Zjb {es : Nat -> Addr} {At : (Nat -> Prop) -> World -> Value -> Nat -> Cf.Ens -> Prop} {BAt : (Nat -> Prop) -> World -> Value -> Value -> Bf.Bd -> Prop} (HB : Builds es Af.actO At BAt) {W : World} (hW : BuildW W es) (hE : E12 W es) (vf : Value) (fl : Tf.Fs) (hF : FIRow W vf fl) (vl : Value) (l : List Ru) (hR : RRow W vl l) (vo : Value) (outs : List (List UInt8)) (hO : XRow W vo outs) (vp : Value) (ps : List Int) (hZ : ZRow W vp ps) (hps : ∀ x ∈ ps,-9223372036854775808 <= x /\ x <= 9223372036854775807) (hvp : vp = .slice none 0 0 \/ ∃ a n c,vp = .slice (some a) n c) :
  Calls Tryz.prog 14 #[vf,vl,vo,vp] W fun e w' => e = .returned (.bool true) /\ Below W.heap.size W w' := by
 have HBu := hid1 HB;have HW := hid1 (BuildB.of hW);have HE := hid1 hE;have HPi := hid1 (Zmm HB hW);have HLf := hid1 fun V (g : Below W.heap.size W V) => Zgf (w := V) vf fl (hF.below g)
 have HLr := hid1 fun V (g : Below W.heap.size W V) => Zlw (w := V) vl l 12 (by omega) (hR.below g)
 have HLt := hid1 fun V (g : Below W.heap.size W V) => Zfh (w := V) vo outs 10 300 (by omega) (by omega) (hO.below g).irow
 have HFt := hid1 fun V (g : Below W.heap.size W V) (hs : ShortF fl) => Zho (w := V) (hE.terr.below g) vf fl (hF.below g) hs
 have HOr := hid1 fun V (g : Below W.heap.size W V) (hl : l.length <= 1000) (h12 : ∀ x ∈ l,x.ins.length <= 12) => Zjc (w := V) vl l hl (hR.below g) h12
 have HOt := hid1 fun V (g : Below W.heap.size W V) (hl : outs.length <= 12) => Zkc (w := V) vo outs (hO.below g) hl
 have HBf := hid1 fun V (g : Below W.heap.size W V) (hl : l.length <= 1000) (hS : ∀ x ∈ l,x.Small) (hn : outs.length <= 1000) => Zgl (w := V) vl l (hR.below g) hl hS vo outs (hO.below g).irow hn
 have HOi := hid1 fun V (g : Below W.heap.size W V) => (hO.below g).irow
 have HRr := hid1 hR;have HP := hid1 (And.intro hZ (And.intro hps hvp));obtain ⟨pf,cf,rfl,-⟩ := hF;obtain ⟨pp,cp,rfl,-⟩ := hZ;obtain ⟨pl,cl,rfl,-⟩ := hR;obtain ⟨po,co,rfl,-⟩ := hO;obtain ⟨iI,hI,hI0,hI1,hI2⟩ := info_parts Tryz.infoInt;clear HB hW hE hps hvp;go_enter Tryz.func14,Tryz.ntmps14
 go_wp2_with fail;refine HPi.out.mono ?_;rintro e w1 ⟨rfl,g1⟩;have HL1 := hid1 (HLf.out w1 g1);clear HPi HLf;go_wp2_with fail;refine HL1.out.mono ?_;rintro e w2 ⟨b,rfl,rfl,hb⟩;clear HL1;cases b with
 | true =>
  clear hb HFt HOr HLr HLt HOt HBf HOi HP HRr;go_wp2;go_ret;exact ⟨rfl,g1⟩
 | false =>
 have hs := hb.resolve_left (by simp)
 have HL2 := hid1 (HLr.out w2 g1);clear HLr hb;go_wp2_with fail;refine HL2.out.mono ?_;rintro e w3 ⟨r,rfl,rfl,hr⟩;clear HL2;rcases hr with rfl | ⟨rfl,hlen,hsm⟩
 ·clear HFt HOr HLt HOt HBf HOi HP HRr;go_wp2;go_ret;exact ⟨rfl,g1⟩
 have HL3 := hid1 (HLt.out w3 g1);clear HLt;go_wp2_with fail;refine HL3.out.mono ?_;rintro e w3 ⟨r,rfl,rfl,hr⟩;clear HL3;rcases hr with rfl | ⟨rfl,hol,hox⟩
 ·clear HFt HOr HOt HBf HOi HP HRr;go_wp2;go_ret;exact ⟨rfl,g1⟩
 by_cases hr60 : 60 < ps.length
 ·have z60 : (60 : Int) < (ps.length : Int) := by omega
  clear HFt HOr HOt HBf HOi HP HRr;go_wp2;go_ret;exact ⟨rfl,g1⟩
 have z60 : (ps.length : Int) <= 60 := by omega
 have HF3 := hid1 (HFt.out w3 g1 hs);have HSm := hid1 hsm;have HSh := hid1 hs;have hl41 : l.length <= 41 := by omega
 have HOx := hid1 hox;clear HFt hs hsm hlen hox;go_wp2_with fail;refine HF3.out.mono ?_;rintro e w4 ⟨T,M,oT,uT,rfl,hBo,g4⟩;have G4 := Zab g1 g4;have HBo := hid1 hBo.mono;have HN4 := hid1 (Zxs (HW.out.below G4).w.shape (.slice pp ps.length cp));clear HF3 hBo g4 g1;go_wp2_with fail;refine HN4.out.mono ?_;rintro e w5 ⟨rfl,g5⟩;have G5 := Zab G4 g5
 have HBo5 := hid1 (HBo.out.below g5);have HC5 := hid1 (Zws 3 (.inr ⟨2,by omega,rfl⟩) es w5 (HE.out.below G5))
 clear HN4 HBo;go_wp2_with fail;refine HC5.out.mono ?_;rintro e w6 ⟨rfl,g6⟩;have G6 := Zab G5 g6;have HBo6 := hid1 (HBo5.out.below g6);have HO6 := hid1 (HOr.out w6 G6 (by omega) fun x hx => (HSm.out x hx).many)
 clear HC5 HBo5 G4 G5 g5 g6 HOr;go_wp2_with fail;refine HO6.out.mono ?_;rintro e wa ⟨va,rfl,hRa,ga⟩;have Ga := Zab G6 ga;have HO2 := hid1 (HOt.out wa Ga (by omega))
 have HRa := hid1 hRa;obtain ⟨pa,ca,rfl,-⟩ := hRa;clear HO6 HOt;go_wp2_with fail;refine HO2.out.mono ?_;rintro e wb ⟨vb,rfl,hXb,-,gb⟩;have Gb := Zab Ga gb;have HBob := hid1 (HBo6.out.below (Zab ga gb))
 have HNw := hid1 (HBu.out.new wb 0 T (Tf.taken fl) oT _ l _ outs (.pointer none) (HW.out.trans Gb).w HBob.out.t HBob.out.well.rises (by have := HBob.out.well.few;omega) (fun f hf => ⟨by have := HSh.out.path f (Tf.taken_mem _ f hf);omega,(HBob.out.well.each f hf).2⟩) (HRa.out.below gb) (by omega) HSm.out hXb (by omega) HOx.out ⟨_,rfl⟩)
 obtain ⟨pb,cb,rfl,-⟩ := hXb;clear HO2 HRa HBo6 ga gb Ga;go_wp2_with fail;refine HNw.out.mono ?_;rintro e wc ⟨bv,ev,rfl,gc,hN⟩;have Gc := Zab Gb gc;have HN := hid1 hN;have HBoc := hid1 (HBob.out.below gc);have HF1 := hid1 (HBf.out wc Gc (by omega) HSm.out (by omega))
 have hzb := Gb.size;clear HNw hN HBob HBf;go_wp2_with fail;refine HF1.out.mono ?_;rintro e wd ⟨f,rfl,hNF,gd⟩;obtain ⟨f1,f2⟩ := f;have Gd := Zab Gc gd;have hfd : ∀ (V : World) (a b : Int),(Instr.field 75 (.agg #[.int .i64 a,.int .i64 b]) 0).run Tryz.prog V = .ok (.int .i64 a) V := Znr
 have hfc := Zvo HN.out hNF;have HBod := hid1 (HBoc.out.below gd);clear HF1 hNF HBoc;rcases hfc with ⟨hf0,rfl,hEv⟩ | ⟨hf0,hft,hall,rfl,p,S,rfl,hBA,hlow⟩
 ·have zf : (0 : Int) < (f1 : Int) := by simp only at hf0;omega
  obtain ⟨te,xe,rfl⟩ := hEv.some hf0;clear hf0 hEv HN HBod HP;go_wp2;go_ret;exact ⟨rfl,Gd⟩
 ·simp only at hf0;subst hf0;obtain ⟨ord,hord⟩ := HN.out.ord;obtain ⟨h40,hAp⟩ := Ru.fault_ok hft;have HNb := hid1 (Zjd HBod.out.m (by have := HBod.out.well.few;omega) pl cl l (HRr.out.below Gd) (by omega) (fun x hx => by have := (HSm.out x hx).many;omega) (.slice po outs.length co) outs (HOi.out _ Gd) (by omega) hall none)
  have HMf : Hid (MFit (Bf.init (Tf.taken fl) l outs)) := hid1 ⟨h40,HSm.out,hAp,HBod.out.well.rises,(by have := HBod.out.well.few;show (Tf.taken fl).length <= 1000;omega),Bf.init_fit fun f hf => (HBod.out.well.each f hf).2⟩
  have HFt0 := hid1 hft;have HBA := hid1 (And.intro hBA hlow);have HOv := hid1 (Bf.pickRun_over Af.actO none (fs := Tf.taken fl) hord ps);have hz0 : ((0 : Nat) : Int) = 0 := rfl;rw [hz0];have hzc := gc.size;have hzd := gd.size;have zl40 : (l.length : Int) <= 40 := by omega
  have HLS := hid1 (HBu.out.lt _ _ _ _ _ hBA);clear hft hall hBA hlow hAp hz0 HN hord HBod HSh;go_wp2_with fail;refine HNb.out.mono ?_;rintro e wf ⟨mb,tb',tv',gs,go,gh,gw,rfl,hM⟩;have hzf := hM.base.size;have HGe := hid1 hM.ge;have HMl := hid1 hM.lt;have gdf := Zab gd hM.base;have Gf := Zab Gd hM.base;have HMW := hid1 (hM.rebase Gd HRr.out)
  have HBAf := hid1 (HBu.out.same _ _ _ _ _ _ HBA.out.1 gdf.size fun k hk => gdf.block k (HLS.out k hk))
  have HSl : Hid (∀ j,S j -> W.heap.size <= j) := hid1 fun j hj => by have := HBA.out.2 j hj;omega
  have HRun := hid1 fun (V : World) (gV : Below wf.heap.size wf V) (v : Value) (hz : ZRow V v ps) (hfar : ps ≠ [] -> ∀ g o n c,v = .slice (some ⟨g,o,none⟩) n c -> ¬ S g) => Zjo HBu.out actFit (B := W.heap.size) (HBu.out.same _ _ _ _ _ _ HBAf.out gV.size fun k hk => gV.block k (HBu.out.lt _ _ _ _ _ HBAf.out k hk)) (HW.out.trans (Zab Gf gV)) HSl.out HFt0.out HSm.out HMf.out.fit v ps hz HP.out.2.1 (by omega) hfar
  have HDoc := hid1 fun (V : World) (hV : MB W V mb tb' tv' (.slice pl l.length cl) (.pointer none) gs go gh gw (Bf.init (Tf.taken fl) l outs)) (gV : Below W.heap.size W V) => Zoi hV HMf.out (act := Af.actO) (fun W nm wd v ls hr hl hx => Zqp nm wd hl v ls hr hx) actFit _ ps (HP.out.1.below gV) HP.out.2.1 (by omega) (fun hne g o n c e hS => by
   have h1 := HP.out.1.old hne e;have h2 := HGe.out g hS;have h3 := Gd.size;omega)
  clear HNb hM gdf
  have HTail : Hid (∀ (V : World) (v : Value),Below wf.heap.size wf V -> ZRow V v ps -> (ps ≠ [] -> ∀ g o n c,v = .slice (some ⟨g,o,none⟩) n c -> ¬ S g) -> Calls Tryz.prog 88 #[.pointer (some p),v] V fun e w' => ∃ u,e = .returned (.tuple #[u,.nilIface]) /\ w'.ownsRow wf.heap.size 3 1 u (Bf.pickRun Af.actO none (Bf.init (Tf.taken fl) l outs) ps).xs.length ((Bf.pickRun Af.actO none (Bf.init (Tf.taken fl) l outs) ps).xs.map nv) /\ Below W.heap.size W w' /\ wf.heap.size <= w'.heap.size /\ MB W w' mb tb' tv' (.slice pl l.length cl) (.pointer none) gs go gh gw (Bf.init (Tf.taken fl) l outs) /\ ∃ S',BAt S' w' (.pointer (some p)) (.pointer none) (Bf.pickRun Af.actO none (Bf.init (Tf.taken fl) l outs) ps).d /\ ∀ j,S' j -> ¬ MBlk mb tb' tv' gs go gh gw j) := hid1 fun V v gV hz hfar => by
   refine (HRun.out V gV v hz hfar).mono ?_;rintro e w' ⟨u,rfl,S',h1,h2,h3,h4,-⟩;have zV := gV.size;have hSM : ∀ j,S j -> ¬ MBlk mb tb' tv' gs go gh gw j := fun j hj hm => by
    have a1 := HLS.out j hj;have a2 := HGe.out j hm;omega
   have hBW : Below W.heap.size W w' := (Zab Gf gV).trans (h3.below HSl.out (by have := Gf.size;omega))
   refine ⟨u,rfl,Zqw h4 zV,hBW,Nat.le_trans zV h3.size,(HMW.out.below gV).same hBW h3.size fun j hj => h3.block j (by have := HMl.out j hj;omega) fun hx => hSM j hx hj,S',h1,fun j hj hm => ?_⟩
   rcases h2 j hj with a1 | a1
   ·exact hSM j a1 hm
   ·have := HMl.out j hm;omega
  clear HRun HBAf HMW HBA;have HLn : Hid ((Bf.pickRun Af.actO none (Bf.init (Tf.taken fl) l outs) ps).xs.length <= 40) := hid1 (Nat.le_trans (Bf.pickRun_len _ _ _ _) (Nat.le_trans (Bf.many_le _ _ _) h40));have hvp := HP.out.2.2;have hzf0 := HP.out.1.below Gf;go_wp2_with (first
   | (at_builtin;refine Zyu rfl _ _ rfl iI hI hI0 hI1 hI2 rfl rfl hzf0 hvp (by omega) ?_;intro v1 w1' hz1 hlow1 gV)
   | fail)
  have HT0 := hid1 (HTail.out w1' v1 gV hz1 (fun _ g o n c e hS => by
   have a1 := hlow1 g o n c e;have a2 := HLS.out g hS;omega))
  clear hz1 hlow1 hvp hzf0;refine HT0.out.mono ?_;clear HT0;rintro e wh ⟨x,rfl,hx,Gh,hzh,hMh,S',hBh,hSM⟩;obtain ⟨px,cx,ex⟩ := Zay hx;subst ex;have HDo := hid1 (HDoc.out wh hMh Gh);have HX := hid1 hx;have HBh := hid1 (And.intro hBh hSM);clear HTail HDoc hx hMh hBh hSM;go_wp2_with fail;refine HDo.out.mono ?_;rintro e wi ⟨u,rfl,hu,hMi,hOi⟩;have hxi := Zax HX.out hOi fun j hj hm => by
   have a1 := (HX.out.lt j hj.symm).1;have a2 := HMl.out j hm;omega
  obtain ⟨pu,cu,eu⟩ := Zay hu;subst eu;have hzi := hOi.size;have HBi := hid1 (HBu.out.same _ _ _ _ _ _ HBh.out.1 hOi.size fun k hk => hOi.block k (HBu.out.lt _ _ _ _ _ HBh.out.1 k hk) (HBh.out.2 k hk))
  have Gi : Below W.heap.size W wi := Gh.trans (hOi.below (fun j hj => by have := HGe.out j hj;have := Gd.size;omega) Gh.size)
  have HSi := hid1 (Zie _ _ _ (NRow.of_owns hxi).ni (NRow.of_owns hu).ni (Nat.le_trans HLn.out (by omega)))
  have HMi := hid1 hMi;clear HDo HX HBh hOi hxi hu hMi;go_wp2_with fail;refine HSi.out.mono ?_;rintro e wj ⟨rfl,q,rfl⟩;have gij : Below wi.heap.size wi (wi.drewN q) := Zad (Below.refl _ wi) q;obtain ⟨hov,hdl⟩ := HOv.out;generalize hD : Bf.pickRun Af.actO none (Bf.init (Tf.taken fl) l outs) ps = P at *;obtain ⟨D,cD,xs⟩ := P;simp only at *
  have HOv2 := HBu.out.over _ _ _ _ _ (HBu.out.same _ _ _ _ _ _ HBi.out gij.size fun k hk => gij.block k (HBu.out.lt _ _ _ _ _ HBi.out k hk)) (by rw [hdl];exact h40)
  rw [hov] at HOv2;have HOv2 := hid1 HOv2;have HDl := hid1 hdl;clear HSi HOv hov hdl hD HLn;go_wp2_with fail;refine HOv2.out.mono ?_;rintro e wk ⟨rfl,gk⟩;have gik := Zab gij gk;have Gk := Zab Gi gik;have HBk := hid1 (HBu.out.same _ _ _ _ _ _ HBi.out gik.size fun k hk => gik.block k (HBu.out.lt _ _ _ _ _ HBi.out k hk))
  have HMk := hid1 (HMi.out.below gik);clear HOv2 HBi HMi gij gk gik;go_wp2;go_loopw [19] (fun iv wr => ∃ i : Nat,i <= l.length /\ iv = .int .i64 i /\ Below wk.heap.size wk wr) (fun iv _ => l.length - (intOf iv).toNat)
  case atStart => exact ⟨0,Nat.zero_le _,rfl,Below.refl _ _⟩
  case round =>
   obtain ⟨i,hi,rfl,hB⟩ := hrel;have i0 : (0 : Int) <= (i : Int) := by omega
   by_cases hil : i < l.length
   ·have i1 : (i : Int) < (l.length : Int) := by omega
    have hat : D.at (i : Int) = D.st i := by
     unfold Bf.Bd.at;rw [HDl.out,if_neg (by omega)]
     simp
    have HVa := hid1 fun V (gV : Below wr.heap.size wr V) => HBu.out.result _ _ _ _ _ (i : Int) (HBu.out.same _ _ _ _ _ _ HBk.out (Zab hB gV).size fun k hk => (Zab hB gV).block k (HBu.out.lt _ _ _ _ _ HBk.out k hk)) (by rw [HDl.out];exact h40) (by omega) (by omega)
    have HSa := hid1 fun V (gV : Below wr.heap.size wr V) => HBu.out.state _ _ _ _ _ (i : Int) (HBu.out.same _ _ _ _ _ _ HBk.out (Zab hB gV).size fun k hk => (Zab hB gV).block k (HBu.out.lt _ _ _ _ _ HBk.out k hk)) (by rw [HDl.out];exact h40) (by omega) (by omega)
    have HCe : Hid (∀ V,Below wr.heap.size wr V -> V.cell? ⟨mb,2,none⟩ = some (.slice (some ⟨gs,0,none⟩) l.length l.length) /\ V.cell? ⟨gs,i,none⟩ = some (.string (ba (D.st i).name)) /\ V.cell? ⟨mb,3,none⟩ = some (.slice (some ⟨go,0,none⟩) l.length l.length) /\ V.cell? ⟨go,i,none⟩ = some (.string (ba (D.st i).out))) := hid1 fun V gV => by
     have hm := HMk.out.below (Zab hB gV);have c2 := hm.c2;have c3 := hm.c3;rw [HDl.out] at c2 c3;exact And.intro c2 (And.intro (hm.rs.2 i (by rw [HDl.out];exact hil)).1 (And.intro c3 (hm.ro.2 i (by rw [HDl.out];exact hil)).1))
    rw [hat] at HVa HSa;generalize (D.st i).out = so at *;generalize (D.st i).isDone = sd at *;generalize (D.st i).name = sn at *;have HV1 := hid1 (HVa.out wr (Below.refl _ _));clear HVa hat;go_wp2_with fail;refine HV1.out.mono ?_;rintro e wl ⟨rfl,gl⟩;have HV2 := hid1 fun V (gV : Below wl.heap.size wl V) => HSa.out V (Zab gl gV)
    have HC2 := hid1 fun V (gV : Below wl.heap.size wl V) => HCe.out V (Zab gl gV)
    have hBl := Zab hB gl;obtain ⟨d2,ds,d3,dO⟩ := HC2.out wl (Below.refl _ _);clear HV1 HSa HCe;have hdr : Below wl.heap.size wl wl.drew := Zad (Below.refl _ wl) 1;have HVd := hid1 (HV2.out wl.drew hdr);clear HV2;go_wp2
    go_region_held3 (fun w' => w'.cell? ⟨mb,2,none⟩ = some (.slice (some ⟨gs,0,none⟩) l.length l.length) /\ w'.cell? ⟨gs,i,none⟩ = some (.string (ba sn)) /\ w'.cell? ⟨mb,3,none⟩ = some (.slice (some ⟨go,0,none⟩) l.length l.length) /\ w'.cell? ⟨go,i,none⟩ = some (.string (ba so))) (first | go_keep | fail)
     (first | (go_at_call 90;refine HVd.out.mono ?_;rintro e w5 ⟨rfl,g5⟩;(have G5' := Zab hdr g5);(have dd := HC2.out w5 G5');(have x2 := dd.1);(have xs' := dd.2.1);(have x3 := dd.2.2.1);(have xO := dd.2.2.2)) | fail)
    all_goals
     have hB5 := Zab hBl G5';go_wp2;exact ⟨⟨i + 1,by omega,by go_num,hB5⟩,by simp [intOf];omega⟩
   ·have i1 : (l.length : Int) <= (i : Int) := by omega
    have Gz := Zab Gk hB;clear HBk HMk;go_wp2;go_ret;exact ⟨rfl,Gz⟩
end Go.Proofs.YtbgkfmodbofalaaGreatDoor
