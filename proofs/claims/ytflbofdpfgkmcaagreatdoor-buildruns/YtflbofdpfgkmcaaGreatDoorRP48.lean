import Derived.Test.YtflbofdpfgkmcaaGreatDoorRP44
import Derived.Test.YtflbofdpfgkmcaaGreatDoorRP47
set_option maxRecDepth 100000
set_option maxHeartbeats 32000000
namespace Go.Proofs.YtflbofdpfgkmcaaGreatDoor
open Go.RowKit Go.Shelf Go.Lib
theorem BuildRuns_calls {es : Nat → Addr} {At : (Nat → Prop) → World → Value → Nat → Cf.Ens → Prop} {BAt : (Nat → Prop) → World → Value → Value → Bf.Bd → Prop} (HB : Builds es Af.actO At BAt) (HC : Caches0 es At) {W : World} (hW : BuildW W es) (hE : E12 W es) (vf : Value) (fl : Tf.Fs) (hF : FIRow W vf fl) (vl : Value) (l : List Ru) (hR : RRow W vl l) (vo : Value) (outs : List (List UInt8)) (hO : XRow W vo outs) (many : Int) (hm0 : -9223372036854775808 ≤ many) (hm1 : many ≤ 9223372036854775807) (vr : Value) (rs : List Int) (hZ : ZRow W vr rs) (hrs : ∀ x ∈ rs,-9223372036854775808 ≤ x ∧ x ≤ 9223372036854775807) :
  Calls Tryz.prog 9 #[vf,vl,vo,.int .i64 many,vr] W fun e w' => e = .returned (.bool true) ∧ Below W.heap.size W w' := by
 have HBu := hid1 HB
 have HCa := hid1 HC
 have HW := hid1 (BuildB.of hW)
 have HE := hid1 hE
 have HBt := hid1 (built_calls HB HC hW hE.terr)
 have HLf := hid1 fun V (g : Below W.heap.size W V) => longFiles_calls (w := V) vf fl (hF.below g)
 have HLr := hid1 fun V (g : Below W.heap.size W V) => LongRules_any (w := V) vl l 12 (by omega) (hR.below g)
 have HLt := hid1 fun V (g : Below W.heap.size W V) => LongTexts_any (w := V) vo outs 10 300 (by omega) (by omega) (hO.below g).irow
 have HFt := hid1 fun V (g : Below W.heap.size W V) (hs : ShortF fl) => fileTree_calls (w := V) (hE.terr.below g) vf fl (hF.below g) hs
 have HNo := hid1 fun V (g : Below W.heap.size W V) => HB.noTree V vl l vo outs (.pointer none) (hW.below g) (hR.below g) (hO.below g).irow
 have HOr := hid1 fun V (g : Below W.heap.size W V) (hl : l.length ≤ 1000) (h12 : ∀ x ∈ l,x.ins.length ≤ 12) => OwnRules_calls (w := V) vl l hl (hR.below g) h12
 have HOt := hid1 fun V (g : Below W.heap.size W V) (hl : outs.length ≤ 12) => OwnTexts_x (w := V) vo outs (hO.below g) hl
 have HBf := hid1 fun V (g : Below W.heap.size W V) (hl : l.length ≤ 1000) (hS : ∀ x ∈ l,x.Small) (hn : outs.length ≤ 1000) => BuildFault_calls (w := V) vl l (hR.below g) hl hS vo outs (hO.below g).irow hn
 have HOi := hid1 fun V (g : Below W.heap.size W V) => (hO.below g).irow
 have HRr := hid1 hR
 have HRs := hid1 hrs
 obtain ⟨pf,cf,rfl,-⟩ := hF
 obtain ⟨pr,cr,rfl,hzc⟩ := hZ
 obtain ⟨pl,cl,rfl,-⟩ := hR
 obtain ⟨po,co,rfl,-⟩ := hO
 have HZc := hid1 hzc
 clear HB HC hW hE hrs hzc
 go_enter Tryz.func9,Tryz.ntmps9
 go_wp2_with fail
 refine HBt.out.mono ?_
 rintro e w1 ⟨rfl,g1⟩
 have HL1 := hid1 (HLf.out w1 g1)
 clear HBt HLf
 go_wp2_with fail
 refine HL1.out.mono ?_
 rintro e w2 ⟨b,rfl,rfl,hb⟩
 clear HL1
 cases b with
 | true =>
  clear hb HFt HOr HLr HLt HNo HOt HBf HOi
  go_wp2
  go_ret
  exact ⟨rfl,g1⟩
 | false =>
 have hs := hb.resolve_left (by simp)
 have HL2 := hid1 (HLr.out w2 g1)
 clear HLr hb
 go_wp2_with fail
 refine HL2.out.mono ?_
 rintro e w3 ⟨r,rfl,rfl,hr⟩
 clear HL2
 rcases hr with rfl | ⟨rfl,hlen,hsm⟩
 ·clear HFt HOr HLt HNo HOt HBf HOi
  go_wp2
  go_ret
  exact ⟨rfl,g1⟩
 have HL3 := hid1 (HLt.out w3 g1)
 clear HLt
 go_wp2_with fail
 refine HL3.out.mono ?_
 rintro e w3 ⟨r,rfl,rfl,hr⟩
 clear HL3
 rcases hr with rfl | ⟨rfl,hol,hox⟩
 ·clear HFt HOr HNo HOt HBf HOi
  go_wp2
  go_ret
  exact ⟨rfl,g1⟩
 by_cases hr60 : 60 < rs.length
 ·have z60 : (60 : Int) < (rs.length : Int) := by omega
  clear HFt HOr HNo HOt HBf HOi
  go_wp2
  go_ret
  exact ⟨rfl,g1⟩
 have z60 : (rs.length : Int) ≤ 60 := by omega
 have HF3 := hid1 (HFt.out w3 g1 hs)
 have HSm := hid1 hsm
 have HSh := hid1 hs
 have hl41 : l.length ≤ 41 := by omega
 have HOx := hid1 hox
 clear HFt hs hsm hlen hr60 hox
 go_wp2_with fail
 refine HF3.out.mono ?_
 rintro e w4 ⟨T,M,oT,uT,rfl,hBo,g4⟩
 have G4 := below_then g1 g4
 have HBo := hid1 hBo.mono
 have HN4 := hid1 (HNo.out w4 G4)
 clear HF3 hBo g4 g1 HNo
 go_wp2_with fail
 refine HN4.out.mono ?_
 rintro e w5 ⟨rfl,g5⟩
 have G5 := below_then G4 g5
 have HBo5 := hid1 (HBo.out.below g5)
 have HC5 := coded2_er 3 (.inr ⟨2,by omega,rfl⟩) es w5 (HE.out.below G5)
 have HC5 := hid1 HC5
 clear HN4 HBo
 go_wp2_with fail
 refine HC5.out.mono ?_
 rintro e w6 ⟨rfl,g6⟩
 have G6 := below_then G5 g6
 have HBo6 := hid1 (HBo5.out.below g6)
 clear HC5 HBo5 G4 G5 g5 g6
 by_cases hmm : 1 ≤ many ∧ many ≤ 100
 ·obtain ⟨m,rfl⟩ : ∃ m : Nat,many = m := ⟨many.toNat,by omega⟩
  have HMk := hid1 (HCa.out.make w6 m (by omega) (by omega))
  go_wp2_with fail
  refine HMk.out.mono ?_
  rintro e w7 ⟨p7,SC,rfl,g7,hA7,hS7⟩
  have gA : Below w7.heap.size w7 (w7.alloc (.cells #[.int .i64 m,.slice none 0 0] 111)) := (Below.refl _ w7).alloc (Nat.le_refl _) _
  have g78 := below_then g7 gA
  have HCo0 : Hid (Co At W T M (Tf.taken fl) oT uT (.pointer (some p7)) (.pointer (some ⟨w7.heap.size,0,none⟩)) (some (m,[])) (some (m,[])) SC (fun k => k = w7.heap.size) (w7.alloc (.cells #[.int .i64 m,.slice none 0 0] 111))) := hid1 (by
   have hlt := HCa.out.lt _ _ _ _ _ hA7
   have hz6 := G6.size
   have hz7 := g7.size
   have hzb := HBo6.out.lt
   refine ⟨below_then G6 g78,HBo6.out.below g78,⟨⟨_,rfl⟩,HCa.out.same _ _ _ _ _ _ hA7 gA.size fun k hk => gA.block k (hlt k hk)⟩,⟨⟨_,rfl⟩,MAt.new2 w7 m⟩,fun j hj => by have := hS7 j hj;omega,fun j hj => by omega,fun j hj => by have := hlt j hj;simp;omega,fun j hj e => by have := hlt j hj;omega,fun j hj => ⟨fun e => by have := hzb j hj;have := hS7 j e;omega,fun e => by have := hzb j hj;omega⟩⟩)
  have HCf0 : Hid (Bf.CFit (some (m,[]))) := hid1 ⟨by omega,by omega,Cf.Ok.nil m,by simp⟩
  clear HMk hA7 hS7 g7 gA g78 HBo6 G6
  go_wp2
  go_loopw [18] (fun iv wr => ∃ (k : Nat) (c : Bf.Ca) (SC TC : Nat → Prop),k ≤ 2 ∧ iv = .int .i64 k ∧ Co At W T M (Tf.taken fl) oT uT (.pointer (some p7)) (.pointer (some ⟨w7.heap.size,0,none⟩)) c c SC TC wr ∧ Bf.CFit c) (fun iv _ => 2 - (intOf iv).toNat)
  case atStart => exact ⟨0,_,_,_,by omega,rfl,HCo0.out,HCf0.out⟩
  case round =>
   clear HCo0 HCf0
   obtain ⟨k,c,SC,TC,hk,rfl,hCo,hcf⟩ := hrel
   have HCo := hid1 hCo
   have HCf := hid1 hcf
   clear hCo hcf
   have k0 : (0 : Int) ≤ (k : Int) := by omega
   by_cases hk2 : k < 2
   ·have k1 : (k : Int) < 2 := by omega
    have HO1 := hid1 (HOr.out wr HCo.out.base (by omega) fun x hx => (HSm.out x hx).many)
    go_wp2_with fail
    refine HO1.out.mono ?_
    rintro e wa ⟨va,rfl,hRa,ga⟩
    have HO2 := hid1 (HOt.out wa (below_then HCo.out.base ga) (by omega))
    have HRa := hid1 hRa
    obtain ⟨pa,ca,rfl,-⟩ := hRa
    clear HO1
    go_wp2_with fail
    refine HO2.out.mono ?_
    rintro e wb ⟨vb,rfl,hXb,-,gb⟩
    have HCb := hid1 (HCo.out.below HCa.out (below_then ga gb))
    have HNw := hid1 (HBu.out.new wb 0 T (Tf.taken fl) oT _ l _ outs (.pointer (some p7)) (HW.out.trans HCb.out.base).w HCb.out.both.t HCb.out.both.well.rises (by have := HCb.out.both.well.few;omega) (fun f hf => ⟨by have := HSh.out.path f (Tf.taken_mem _ f hf);omega,(HCb.out.both.well.each f hf).2⟩) (HRa.out.below gb) (by omega) HSm.out hXb (by omega) HOx.out ⟨_,rfl⟩)
    obtain ⟨pb,cb,rfl,-⟩ := hXb
    clear HO2 HRa HCo ga gb
    generalize wr = wq0 at *
    go_wp2_with fail
    refine HNw.out.mono ?_
    rintro e wc ⟨bv,ev,rfl,gc,hN⟩
    have HN := hid1 hN
    have HCc := hid1 (HCb.out.below HCa.out gc)
    have HF1 := hid1 (HBf.out wc HCc.out.base (by omega) HSm.out (by omega))
    have HLb := hid1 (And.intro HCb.out gc)
    clear HNw hN HCb gc
    go_wp2_with fail
    refine HF1.out.mono ?_
    rintro e wd ⟨f,rfl,hNF,gd⟩
    obtain ⟨f1,f2⟩ := f
    have gA : Below wd.heap.size wd (wd.alloc (.cells #[.int .i64 (f1 : Nat),.int .i64 f2] 75)) := (Below.refl _ wd).alloc (Nat.le_refl _) _
    have gde := below_then gd gA
    have HCe := hid1 (HCc.out.below HCa.out gde)
    have HGe := hid1 gde
    have hfc := new_fault HN.out hNF
    clear HF1 hNF HN HCc gd gA gde
    rcases hfc with ⟨hf0,rfl,hEv⟩ | ⟨hf0,hft,hall,rfl,p,S,rfl,hBA,hlow⟩
    ·have zf : (0 : Int) < (f1 : Int) := by simp only at hf0;omega
     have HFd := hid1 (faulted2_calls (HE.out.below HCe.out.base) ev (f1,f2) (hEv.below HGe.out))
     obtain ⟨te,xe,rfl⟩ := hEv.some hf0
     have HGB := hid1 HCe.out.base
     clear hf0 hEv HCe HGe HLb
     go_wp2_with fail
     refine HFd.out.mono ?_
     rintro e wz ⟨rfl,gz⟩
     have Gz := below_then HGB.out gz
     clear HFd HGB
     go_wp2
     go_ret
     exact ⟨rfl,Gz⟩
    ·simp only at hf0
     subst hf0
     obtain ⟨h40,hAp⟩ := Ru.fault_ok hft
     have hz0 : ((0 : Nat) : Int) = 0 := rfl
     rw [hz0] at HCe HGe
     rw [hz0]
     have HNb := hid1 (NewBuild_calls HCe.out.both.m (by have := HCe.out.both.well.few;omega) pl cl l (HRr.out.below HCe.out.base) (by omega) (fun x hx => by have := (HSm.out x hx).many;omega) (.slice po outs.length co) outs (HOi.out _ HCe.out.base) (by omega) hall (some ⟨w7.heap.size,0,none⟩))
     have HMf : Hid (MFit (Bf.init (Tf.taken fl) l outs)) := hid1 ⟨h40,HSm.out,hAp,HCe.out.both.well.rises,(by have := HCe.out.both.well.few;show (Tf.taken fl).length ≤ 1000;omega),Bf.init_fit fun f hf => (HCe.out.both.well.each f hf).2⟩
     have HFt0 := hid1 hft
     have HBA := hid1 (And.intro hBA hlow)
     clear hft hall hBA hlow hAp hz0
     go_wp2_with fail
     refine HNb.out.mono ?_
     rintro e wf ⟨mb,tb',tv',gs,go,gh,gw,rfl,hM⟩
     have HRn0 : Hid (Rn At BAt W T M (Tf.taken fl) oT uT (.pointer (some p7)) (.pointer (some ⟨w7.heap.size,0,none⟩)) c c SC TC p mb tb' tv' (.slice pl l.length cl) gs go gh gw (Bf.init (Tf.taken fl) l outs) (Bf.init (Tf.taken fl) l outs) S wf) := hid1 (by
      have s1 := HLb.out.2.size
      have s2 := HGe.out.size
      have s3 := hM.base.size
      have l0 := HLb.out.1.base.size
      have l1 := HBu.out.lt _ _ _ _ _ HBA.out.1
      have l2 := HLb.out.1.ltC
      have l3 := HLb.out.1.mca.lt
      have l4 := HLb.out.1.both.lt
      have l5 := hM.ge
      have bcf := below_then HGe.out hM.base
      refine ⟨HCe.out.below HCa.out hM.base,HBu.out.same _ _ _ _ _ _ HBA.out.1 bcf.size fun k hk => bcf.block k (l1 k hk),hM.rebase HCe.out.base HRr.out,fun j hj => by have := HBA.out.2 j hj;omega,fun j hj => by have := l1 j hj;omega,fun j hj => ?_,fun j hj => ?_⟩
      ·have a1 := HBA.out.2 j hj
       have a2 := l1 j hj
       exact ⟨fun e => by have := l2 j e;omega,fun e => by have := l3 j e;omega,fun e => by have := l5 j e;omega,fun e => by have := l4 j e;omega⟩
      ·have a1 := l5 j hj
       exact ⟨fun e => by have := l2 j e;omega,fun e => by have := l3 j e;omega,fun e => by have := l4 j e;omega⟩)
     clear HNb hM HBA HCe HGe HLb
     go_wp2
     go_loopw [23] (fun iv wr => ∃ (i : Nat) (d : Bf.Bd) (c : Bf.Ca) (SC TC S : Nat → Prop),i ≤ rs.length ∧ iv = .int .i64 i ∧ Rn At BAt W T M (Tf.taken fl) oT uT (.pointer (some p7)) (.pointer (some ⟨w7.heap.size,0,none⟩)) c c SC TC p mb tb' tv' (.slice pl l.length cl) gs go gh gw d d S wr ∧ Bf.CFit c ∧ MFit d ∧ d.l = l) (fun iv _ => rs.length - (intOf iv).toNat)
     case atStart => exact ⟨0,_,_,_,_,_,Nat.zero_le _,rfl,HRn0.out,HCf.out,HMf.out,rfl⟩
     case round =>
      clear HRn0 HCf HMf
      clear SC TC S c
      obtain ⟨i,d,c,SC,TC,S,hi,rfl,hRn,hcf,hmf,hdl⟩ := hrel
      have HRn := hid1 hRn
      have HCf := hid1 hcf
      have HMf := hid1 hmf
      have HDl := hid1 hdl
      clear hRn hcf hmf hdl
      have i0 : (0 : Int) ≤ (i : Int) := by omega
      by_cases hlt : i < rs.length
      ·have i1 : (i : Int) < (rs.length : Int) := by omega
       obtain ⟨gz,oz,rfl,hgz,hcz⟩ := HZc.out (by intro e;rw [e] at hlt;simp at hlt)
       have HCz := hid1 fun V (g : Below W.heap.size W V) => (g.cell (p := ⟨gz,oz + i,none⟩) hgz).trans (hcz i hlt)
       have e0 := HCz.out wr HRn.out.co.base
       have hbn := HRs.out _ (List.getElem_mem hlt)
       clear hcz
       generalize rs[i] = n at *
       have HRu := hid1 (HBu.out.run W.heap.size S SC wr p (.pointer (some p7)) d c n HRn.out.bat HRn.out.co.ca (fun j hj => (HRn.out.far j hj).1) (HW.out.trans HRn.out.co.base) HRn.out.lowS HRn.out.co.lowC (by rw [HDl.out];exact HFt0.out) HMf.out.small HMf.out.fit HCf.out hbn.1 hbn.2)
       have HKp := hid1 (Bf.run_fit actFit HCf.out HMf.out.fit n)
       have HKl := hid1 (Bf.run_l Af.actO c d n)
       have HKc := hid1 (Bf.run_code Af.actO c d n)
       go_wp2_with fail
       refine HRu.out.mono ?_
       rintro e w8 ⟨rfl,hO8,S',SC',hB8,hC8,hd8,hS8,hSC8⟩
       have HR8 := hid1 (HRn.out.prog HBu.out HCa.out hO8 hB8 hC8 hd8 hS8 hSC8)
       have e1 := HCz.out w8 HR8.out.co.base
       have HMr := hid1 (mbRun_calls HR8.out.mbd HMf.out (act := Af.actO) (fun W nm wd v ls hr hl hx => ActOf_calls nm wd hl v ls hr hx) HCf.out HR8.out.co.mca (fun j hj => (HR8.out.farM j hj).2.1) HR8.out.co.lowT n)
       clear HRu HRn hO8 hB8 hC8 hd8 hS8 hSC8 HCz
       go_wp2_with fail
       refine HMr.out.mono ?_
       rintro e w9 ⟨rfl,hM9,hO9,TC',hc9,hT9⟩
       have HR9 := hid1 (HR8.out.doc HBu.out HCa.out hM9 hO9 hc9 hT9)
       have HCd := hid1 (coded2_er _ HKc.out es w9 (HE.out.below HR9.out.co.base))
       clear HMr HR8 hM9 hO9 hc9 hT9 HKc
       generalize Bf.run Af.actO c d n = G at *
       go_wp2_with fail
       refine HCd.out.mono ?_
       rintro e w10 ⟨rfl,g10⟩
       have HR10 := hid1 (HR9.out.below HBu.out HCa.out g10)
       clear HCd HR9
       go_wp2
       exact ⟨⟨i + 1,G.d,G.c,SC',TC',S',by omega,by go_num,HR10.out,HKp.out.2,HMf.out.same HKl.out.1 HKl.out.2 HKp.out.1,HKl.out.1.trans HDl.out⟩,by simp [intOf];omega⟩
      ·have i1 : (rs.length : Int) ≤ (i : Int) := by omega
       have HA1 := hid1 (asBuild_calls HBu.out (HW.out.trans HRn.out.co.base).w (HE.out.below HRn.out.co.base) HRn.out.bat HRn.out.mbd HMf.out)
       generalize wr = wg at *
       go_wp2_with fail
       refine HA1.out.mono ?_
       rintro e wh ⟨rfl,gh1⟩
       have HRh := hid1 (HRn.out.below HBu.out HCa.out gh1)
       have HAl := hid1 (HBu.out.all W.heap.size S SC wh p (.pointer (some p7)) d c HRh.out.bat HRh.out.co.ca (fun j hj => (HRh.out.far j hj).1) (HW.out.trans HRh.out.co.base) HRh.out.lowS HRh.out.co.lowC (by rw [HDl.out];exact HFt0.out) HMf.out.small HMf.out.fit HCf.out)
       have HKp := hid1 (Bf.allF_keeps actFit (d.waits + 1) c d HMf.out.fit HCf.out)
       clear HA1 HRn
       go_wp2_with fail
       refine HAl.out.mono ?_
       rintro e wi ⟨rfl,hO8,S',SC',hB8,hC8,hd8,hS8,hSC8⟩
       have HRi := hid1 (HRh.out.prog HBu.out HCa.out hO8 hB8 hC8 hd8 hS8 hSC8)
       have HMa := hid1 (mbAll_calls HRi.out.mbd HMf.out (act := Af.actO) (fun W nm wd v ls hr hl hx => ActOf_calls nm wd hl v ls hr hx) actFit HCf.out HRi.out.co.mca (fun j hj => (HRi.out.farM j hj).2.1) HRi.out.co.lowT)
       clear HAl HRh hO8 hB8 hC8 hd8 hS8 hSC8
       go_wp2_with fail
       refine HMa.out.mono ?_
       rintro e wj ⟨⟨uj,rfl⟩,hM9,hO9,TC',hc9,hT9⟩
       have HRj := hid1 (HRi.out.doc HBu.out HCa.out hM9 hO9 hc9 hT9)
       have HKq : Hid (MFit (Bf.all Af.actO c d).1 ∧ Bf.CFit (Bf.all Af.actO c d).2) := hid1 ⟨HMf.out.same HKp.out.1 HKp.out.2.1 HKp.out.2.2.1,HKp.out.2.2.2⟩
       have HA2 := hid1 (asBuild_calls HBu.out (HW.out.trans HRj.out.co.base).w (HE.out.below HRj.out.co.base) HRj.out.bat HRj.out.mbd HKq.out.1)
       clear HMa HRi hM9 hO9 hc9 hT9 HKp
       generalize Bf.all Af.actO c d = G at *
       go_wp2_with fail
       refine HA2.out.mono ?_
       rintro e wk ⟨rfl,gk⟩
       have HRk := hid1 (HRj.out.below HBu.out HCa.out gk)
       clear HA2 HRj
       go_wp2
       exact ⟨⟨k + 1,G.2,SC',TC',by omega,by go_num,HRk.out.co,HKq.out.2⟩,by simp [intOf];omega⟩
   ·have k1 : (2 : Int) ≤ (k : Int) := by omega
    have HGB := hid1 HCo.out.base
    clear HCo
    go_wp2
    go_ret
    exact ⟨rfl,HGB.out⟩
 ·have hno : many < 1 ∨ 100 < many := by omega
  have HMk := hid1 (HCa.out.no w6 many hm0 hm1 hno (HE.out.below G6).c1)
  obtain ⟨te,xe,ee⟩ : ∃ t x,erOf es 2 = .iface t x := ⟨_,_,rfl⟩
  rw [ee] at HMk
  clear ee
  go_wp2_with fail
  refine HMk.out.mono ?_
  rintro e w7 ⟨rfl,g7⟩
  have HCo0 : Hid (Co At W T M (Tf.taken fl) oT uT (.pointer none) (.pointer none) none none (fun _ => False) (fun _ => False) w7) := hid1 ⟨below_then G6 g7,HBo6.out.below g7,⟨rfl,fun j h => h⟩,⟨rfl,fun j h => h⟩,fun j hj => hj.elim,fun j hj => hj.elim,fun j hj => hj.elim,fun j hj => hj.elim,fun j _ => ⟨fun e => e,fun e => e⟩⟩
  have HCf0 : Hid (Bf.CFit none) := hid1 trivial
  clear HMk g7 HBo6 G6
  go_wp2
  go_loopw [18] (fun iv wr => ∃ (k : Nat) (c : Bf.Ca) (SC TC : Nat → Prop),k ≤ 2 ∧ iv = .int .i64 k ∧ Co At W T M (Tf.taken fl) oT uT (.pointer none) (.pointer none) c c SC TC wr ∧ Bf.CFit c) (fun iv _ => 2 - (intOf iv).toNat)
  case atStart => exact ⟨0,_,_,_,by omega,rfl,HCo0.out,HCf0.out⟩
  case round =>
   clear HCo0 HCf0
   obtain ⟨k,c,SC,TC,hk,rfl,hCo,hcf⟩ := hrel
   have HCo := hid1 hCo
   have HCf := hid1 hcf
   clear hCo hcf
   have k0 : (0 : Int) ≤ (k : Int) := by omega
   by_cases hk2 : k < 2
   ·have k1 : (k : Int) < 2 := by omega
    have HO1 := hid1 (HOr.out wr HCo.out.base (by omega) fun x hx => (HSm.out x hx).many)
    go_wp2_with fail
    refine HO1.out.mono ?_
    rintro e wa ⟨va,rfl,hRa,ga⟩
    have HO2 := hid1 (HOt.out wa (below_then HCo.out.base ga) (by omega))
    have HRa := hid1 hRa
    obtain ⟨pa,ca,rfl,-⟩ := hRa
    clear HO1
    go_wp2_with fail
    refine HO2.out.mono ?_
    rintro e wb ⟨vb,rfl,hXb,-,gb⟩
    have HCb := hid1 (HCo.out.below HCa.out (below_then ga gb))
    have HNw := hid1 (HBu.out.new wb 0 T (Tf.taken fl) oT _ l _ outs (.pointer none) (HW.out.trans HCb.out.base).w HCb.out.both.t HCb.out.both.well.rises (by have := HCb.out.both.well.few;omega) (fun f hf => ⟨by have := HSh.out.path f (Tf.taken_mem _ f hf);omega,(HCb.out.both.well.each f hf).2⟩) (HRa.out.below gb) (by omega) HSm.out hXb (by omega) HOx.out ⟨_,rfl⟩)
    obtain ⟨pb,cb,rfl,-⟩ := hXb
    clear HO2 HRa HCo ga gb
    generalize wr = wq0 at *
    go_wp2_with fail
    refine HNw.out.mono ?_
    rintro e wc ⟨bv,ev,rfl,gc,hN⟩
    have HN := hid1 hN
    have HCc := hid1 (HCb.out.below HCa.out gc)
    have HF1 := hid1 (HBf.out wc HCc.out.base (by omega) HSm.out (by omega))
    have HLb := hid1 (And.intro HCb.out gc)
    clear HNw hN HCb gc
    go_wp2_with fail
    refine HF1.out.mono ?_
    rintro e wd ⟨f,rfl,hNF,gd⟩
    obtain ⟨f1,f2⟩ := f
    have gA : Below wd.heap.size wd (wd.alloc (.cells #[.int .i64 (f1 : Nat),.int .i64 f2] 75)) := (Below.refl _ wd).alloc (Nat.le_refl _) _
    have gde := below_then gd gA
    have HCe := hid1 (HCc.out.below HCa.out gde)
    have HGe := hid1 gde
    have hfc := new_fault HN.out hNF
    clear HF1 hNF HN HCc gd gA gde
    rcases hfc with ⟨hf0,rfl,hEv⟩ | ⟨hf0,hft,hall,rfl,p,S,rfl,hBA,hlow⟩
    ·have zf : (0 : Int) < (f1 : Int) := by simp only at hf0;omega
     have HFd := hid1 (faulted2_calls (HE.out.below HCe.out.base) ev (f1,f2) (hEv.below HGe.out))
     obtain ⟨te,xe,rfl⟩ := hEv.some hf0
     have HGB := hid1 HCe.out.base
     clear hf0 hEv HCe HGe HLb
     go_wp2_with fail
     refine HFd.out.mono ?_
     rintro e wz ⟨rfl,gz⟩
     have Gz := below_then HGB.out gz
     clear HFd HGB
     go_wp2
     go_ret
     exact ⟨rfl,Gz⟩
    ·simp only at hf0
     subst hf0
     obtain ⟨h40,hAp⟩ := Ru.fault_ok hft
     have hz0 : ((0 : Nat) : Int) = 0 := rfl
     rw [hz0] at HCe HGe
     rw [hz0]
     have HNb := hid1 (NewBuild_calls HCe.out.both.m (by have := HCe.out.both.well.few;omega) pl cl l (HRr.out.below HCe.out.base) (by omega) (fun x hx => by have := (HSm.out x hx).many;omega) (.slice po outs.length co) outs (HOi.out _ HCe.out.base) (by omega) hall none)
     have HMf : Hid (MFit (Bf.init (Tf.taken fl) l outs)) := hid1 ⟨h40,HSm.out,hAp,HCe.out.both.well.rises,(by have := HCe.out.both.well.few;show (Tf.taken fl).length ≤ 1000;omega),Bf.init_fit fun f hf => (HCe.out.both.well.each f hf).2⟩
     have HFt0 := hid1 hft
     have HBA := hid1 (And.intro hBA hlow)
     clear hft hall hBA hlow hAp hz0
     go_wp2_with fail
     refine HNb.out.mono ?_
     rintro e wf ⟨mb,tb',tv',gs,go,gh,gw,rfl,hM⟩
     have HRn0 : Hid (Rn At BAt W T M (Tf.taken fl) oT uT (.pointer none) (.pointer none) c c SC TC p mb tb' tv' (.slice pl l.length cl) gs go gh gw (Bf.init (Tf.taken fl) l outs) (Bf.init (Tf.taken fl) l outs) S wf) := hid1 (by
      have s1 := HLb.out.2.size
      have s2 := HGe.out.size
      have s3 := hM.base.size
      have l0 := HLb.out.1.base.size
      have l1 := HBu.out.lt _ _ _ _ _ HBA.out.1
      have l2 := HLb.out.1.ltC
      have l3 := HLb.out.1.mca.lt
      have l4 := HLb.out.1.both.lt
      have l5 := hM.ge
      have bcf := below_then HGe.out hM.base
      refine ⟨HCe.out.below HCa.out hM.base,HBu.out.same _ _ _ _ _ _ HBA.out.1 bcf.size fun k hk => bcf.block k (l1 k hk),hM.rebase HCe.out.base HRr.out,fun j hj => by have := HBA.out.2 j hj;omega,fun j hj => by have := l1 j hj;omega,fun j hj => ?_,fun j hj => ?_⟩
      ·have a1 := HBA.out.2 j hj
       have a2 := l1 j hj
       exact ⟨fun e => by have := l2 j e;omega,fun e => by have := l3 j e;omega,fun e => by have := l5 j e;omega,fun e => by have := l4 j e;omega⟩
      ·have a1 := l5 j hj
       exact ⟨fun e => by have := l2 j e;omega,fun e => by have := l3 j e;omega,fun e => by have := l4 j e;omega⟩)
     clear HNb hM HBA HCe HGe HLb
     go_wp2
     go_loopw [23] (fun iv wr => ∃ (i : Nat) (d : Bf.Bd) (c : Bf.Ca) (SC TC S : Nat → Prop),i ≤ rs.length ∧ iv = .int .i64 i ∧ Rn At BAt W T M (Tf.taken fl) oT uT (.pointer none) (.pointer none) c c SC TC p mb tb' tv' (.slice pl l.length cl) gs go gh gw d d S wr ∧ Bf.CFit c ∧ MFit d ∧ d.l = l) (fun iv _ => rs.length - (intOf iv).toNat)
     case atStart => exact ⟨0,_,_,_,_,_,Nat.zero_le _,rfl,HRn0.out,HCf.out,HMf.out,rfl⟩
     case round =>
      clear HRn0 HCf HMf
      clear SC TC S c
      obtain ⟨i,d,c,SC,TC,S,hi,rfl,hRn,hcf,hmf,hdl⟩ := hrel
      have HRn := hid1 hRn
      have HCf := hid1 hcf
      have HMf := hid1 hmf
      have HDl := hid1 hdl
      clear hRn hcf hmf hdl
      have i0 : (0 : Int) ≤ (i : Int) := by omega
      by_cases hlt : i < rs.length
      ·have i1 : (i : Int) < (rs.length : Int) := by omega
       obtain ⟨gz,oz,rfl,hgz,hcz⟩ := HZc.out (by intro e;rw [e] at hlt;simp at hlt)
       have HCz := hid1 fun V (g : Below W.heap.size W V) => (g.cell (p := ⟨gz,oz + i,none⟩) hgz).trans (hcz i hlt)
       have e0 := HCz.out wr HRn.out.co.base
       have hbn := HRs.out _ (List.getElem_mem hlt)
       clear hcz
       generalize rs[i] = n at *
       have HRu := hid1 (HBu.out.run W.heap.size S SC wr p (.pointer none) d c n HRn.out.bat HRn.out.co.ca (fun j hj => (HRn.out.far j hj).1) (HW.out.trans HRn.out.co.base) HRn.out.lowS HRn.out.co.lowC (by rw [HDl.out];exact HFt0.out) HMf.out.small HMf.out.fit HCf.out hbn.1 hbn.2)
       have HKp := hid1 (Bf.run_fit actFit HCf.out HMf.out.fit n)
       have HKl := hid1 (Bf.run_l Af.actO c d n)
       have HKc := hid1 (Bf.run_code Af.actO c d n)
       go_wp2_with fail
       refine HRu.out.mono ?_
       rintro e w8 ⟨rfl,hO8,S',SC',hB8,hC8,hd8,hS8,hSC8⟩
       have HR8 := hid1 (HRn.out.prog HBu.out HCa.out hO8 hB8 hC8 hd8 hS8 hSC8)
       have e1 := HCz.out w8 HR8.out.co.base
       have HMr := hid1 (mbRun_calls HR8.out.mbd HMf.out (act := Af.actO) (fun W nm wd v ls hr hl hx => ActOf_calls nm wd hl v ls hr hx) HCf.out HR8.out.co.mca (fun j hj => (HR8.out.farM j hj).2.1) HR8.out.co.lowT n)
       clear HRu HRn hO8 hB8 hC8 hd8 hS8 hSC8 HCz
       go_wp2_with fail
       refine HMr.out.mono ?_
       rintro e w9 ⟨rfl,hM9,hO9,TC',hc9,hT9⟩
       have HR9 := hid1 (HR8.out.doc HBu.out HCa.out hM9 hO9 hc9 hT9)
       have HCd := hid1 (coded2_er _ HKc.out es w9 (HE.out.below HR9.out.co.base))
       clear HMr HR8 hM9 hO9 hc9 hT9 HKc
       generalize Bf.run Af.actO c d n = G at *
       go_wp2_with fail
       refine HCd.out.mono ?_
       rintro e w10 ⟨rfl,g10⟩
       have HR10 := hid1 (HR9.out.below HBu.out HCa.out g10)
       clear HCd HR9
       go_wp2
       exact ⟨⟨i + 1,G.d,G.c,SC',TC',S',by omega,by go_num,HR10.out,HKp.out.2,HMf.out.same HKl.out.1 HKl.out.2 HKp.out.1,HKl.out.1.trans HDl.out⟩,by simp [intOf];omega⟩
      ·have i1 : (rs.length : Int) ≤ (i : Int) := by omega
       have HA1 := hid1 (asBuild_calls HBu.out (HW.out.trans HRn.out.co.base).w (HE.out.below HRn.out.co.base) HRn.out.bat HRn.out.mbd HMf.out)
       generalize wr = wg at *
       go_wp2_with fail
       refine HA1.out.mono ?_
       rintro e wh ⟨rfl,gh1⟩
       have HRh := hid1 (HRn.out.below HBu.out HCa.out gh1)
       have HAl := hid1 (HBu.out.all W.heap.size S SC wh p (.pointer none) d c HRh.out.bat HRh.out.co.ca (fun j hj => (HRh.out.far j hj).1) (HW.out.trans HRh.out.co.base) HRh.out.lowS HRh.out.co.lowC (by rw [HDl.out];exact HFt0.out) HMf.out.small HMf.out.fit HCf.out)
       have HKp := hid1 (Bf.allF_keeps actFit (d.waits + 1) c d HMf.out.fit HCf.out)
       clear HA1 HRn
       go_wp2_with fail
       refine HAl.out.mono ?_
       rintro e wi ⟨rfl,hO8,S',SC',hB8,hC8,hd8,hS8,hSC8⟩
       have HRi := hid1 (HRh.out.prog HBu.out HCa.out hO8 hB8 hC8 hd8 hS8 hSC8)
       have HMa := hid1 (mbAll_calls HRi.out.mbd HMf.out (act := Af.actO) (fun W nm wd v ls hr hl hx => ActOf_calls nm wd hl v ls hr hx) actFit HCf.out HRi.out.co.mca (fun j hj => (HRi.out.farM j hj).2.1) HRi.out.co.lowT)
       clear HAl HRh hO8 hB8 hC8 hd8 hS8 hSC8
       go_wp2_with fail
       refine HMa.out.mono ?_
       rintro e wj ⟨⟨uj,rfl⟩,hM9,hO9,TC',hc9,hT9⟩
       have HRj := hid1 (HRi.out.doc HBu.out HCa.out hM9 hO9 hc9 hT9)
       have HKq : Hid (MFit (Bf.all Af.actO c d).1 ∧ Bf.CFit (Bf.all Af.actO c d).2) := hid1 ⟨HMf.out.same HKp.out.1 HKp.out.2.1 HKp.out.2.2.1,HKp.out.2.2.2⟩
       have HA2 := hid1 (asBuild_calls HBu.out (HW.out.trans HRj.out.co.base).w (HE.out.below HRj.out.co.base) HRj.out.bat HRj.out.mbd HKq.out.1)
       clear HMa HRi hM9 hO9 hc9 hT9 HKp
       generalize Bf.all Af.actO c d = G at *
       go_wp2_with fail
       refine HA2.out.mono ?_
       rintro e wk ⟨rfl,gk⟩
       have HRk := hid1 (HRj.out.below HBu.out HCa.out gk)
       clear HA2 HRj
       go_wp2
       exact ⟨⟨k + 1,G.2,SC',TC',by omega,by go_num,HRk.out.co,HKq.out.2⟩,by simp [intOf];omega⟩
   ·have k1 : (2 : Int) ≤ (k : Int) := by omega
    have HGB := hid1 HCo.out.base
    clear HCo
    go_wp2
    go_ret
    exact ⟨rfl,HGB.out⟩
end Go.Proofs.YtflbofdpfgkmcaaGreatDoor
