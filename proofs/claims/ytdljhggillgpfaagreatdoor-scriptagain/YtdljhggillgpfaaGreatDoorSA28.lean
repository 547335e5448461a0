import Derived.Test.YtdljhggillgpfaaGreatDoorSA27
import Derived.Test.YtdljhggillgpfaaGreatDoorSA24
set_option maxRecDepth 100000
set_option maxHeartbeats 16000000
namespace Go.Proofs.YtdljhggillgpfaaGreatDoor
open Go.RowKit Go.Shelf Go.Lib Go.Maps
theorem Steps.only {W W' : World} {es : Nat → Addr} {dom : Nat → Prop} {L : Lay} {ru : Nat → Ru} {ins : Nat → List Inp} {st : Nat → Bf.St} {S : Nat → Prop} (h : Steps W es dom L ru ins st) (ho : Only S W W') (hS : ∀ j,SBlk dom L j → ¬ S j) : Steps W' es dom L ru ins st := h.same fun j hj => ho.block j (h.lt j hj) (hS j hj)
theorem actFit : Bf.ActFit Af.actO := fun k w xs => by
 unfold Af.actO
 split
 ·split
  ·split
   ·exact ⟨by simp,fun h => by cases h⟩
   ·rename_i h
    exact ⟨by simp,fun _ => by simpa using h⟩
  ·exact ⟨by simp,fun h => by cases h⟩
 ·rename_i h
  refine ⟨?_,fun e => absurd e h⟩
  show Af.actE k w xs.length ≤ 12
  unfold Af.actE
  split
  ·omega
  ·split
   ·omega
   ·split <;> omega
theorem Steps.dones {W : World} {es : Nat → Addr} {dom : Nat → Prop} {L : Lay} {ru : Nat → Ru} {ins : Nat → List Inp} {st : Nat → Bf.St} (h : Steps W es dom L ru ins st) {u : Nat} (hu : dom u) (hw : st u = .waits) (s : List UInt8) (b : Bool) : Steps ((W.setCell ⟨L.sp u,4,none⟩ (.int .i64 (if b then 2 else 1))).setCell ⟨L.sp u,5,none⟩ (.string (ba s))) es dom L ru ins (Bf.setS st u (.done s b)) := by
 refine h.turn hu (.done s b) ?_ fun j hj _ => ?_
 ·have r1 := heap_setCell_same W (L.sp u) 4 _ _ (.int .i64 (if b then 2 else 1)) (h.step u hu)
  rw [heap_setCell_same _ _ _ _ _ _ r1,hw]
  cases b <;> rfl
 ·rw [Below.heap_setCell _ _ _ j hj,Below.heap_setCell _ _ _ j hj]
theorem RunPost.done {es : Nat → Addr} {L : Lay} {d : Bf.Bd} {c' : Bf.Ca} {SC SC' : Nat → Prop} {W w3 : World} {cv : Value} {i : Nat} (hS : Steps w3 es d.dom L d.rule (insOf d) d.st) (hi : d.dom i) (hw : d.st i = .waits) (s : List UInt8) (b : Bool) (hO : Only SC W w3) (hC : CaAt CAt SC' w3 cv c') (hSC : ∀ j,SC' j → SC j ∨ W.heap.size ≤ j) (hap : ∀ j,SBlk d.dom L j → ¬ SC' j) :
  RunPost es L d (d.set i (.done s b)) c' SC W cv ((w3.setCell ⟨L.sp i,4,none⟩ (.int .i64 (if b then 2 else 1))).setCell ⟨L.sp i,5,none⟩ (.string (ba s))) := by
 have hp : PBlk d.dom L (L.sp i) := ⟨i,hi,rfl⟩
 have o1 : Only (fun j => PBlk d.dom L j ∨ SC j) w3 ((w3.setCell ⟨L.sp i,4,none⟩ (.int .i64 (if b then 2 else 1))).setCell ⟨L.sp i,5,none⟩ (.string (ba s))) := (Only.setCell _ _ (.inl hp)).trans (Only.setCell _ _ (.inl hp)) fun j hj => .inl hj
 have o0 : Only (fun j => PBlk d.dom L j ∨ SC j) W w3 := ⟨hO.os,hO.tape,hO.output,hO.size,fun j hj hn => hO.block j hj fun h => hn (.inr h)⟩
 refine ⟨hS.dones hi hw s b,o0.trans o1 fun j hj => .inl hj,SC',hC.same (by simp) fun k hk => ?_,hSC⟩
 have hne : k ≠ L.sp i := fun e => hap k (by rw [e];exact hp.s) hk
 rw [Below.heap_setCell _ _ _ k hne,Below.heap_setCell _ _ _ k hne]
theorem RunPost.fails {es : Nat → Addr} {L : Lay} {d : Bf.Bd} {c : Bf.Ca} {SC SC' : Nat → Prop} {W w1 w2 : World} {cv : Value} {i : Nat} {st' : Nat → Bf.St} {e : Nat} (hI : Bf.Inv d) (hU : Bf.UsOk d L.us) (hr : d.isReady i = true) (hS : Steps w2 es d.dom L d.rule (insOf d) st') (hL : Bf.Leave L.us i (L.us i) (Bf.setS d.st i (.failed e)) st') (hO : Only SC W w1) (hC : CaAt CAt SC' w1 cv c) (hSC : ∀ j,SC' j → SC j ∨ W.heap.size ≤ j) (hap : ∀ j,SBlk d.dom L j → ¬ SC' j) (hO2 : Only (PBlk d.dom L) w1 w2) :
  RunPost es L d (d.fail i e) c SC W cv w2 := by
 have o0 : Only (fun j => PBlk d.dom L j ∨ SC j) W w1 := ⟨hO.os,hO.tape,hO.output,hO.size,fun j hj hn => hO.block j hj fun h => hn (.inr h)⟩
 refine ⟨hS.congr fun k hk => (hL.spread hI hU hr k (Bf.Bd.dom_no hk)).symm,o0.trans hO2 fun j hj => .inl (.inl hj),SC',hC.same hO2.size fun k hk => hO2.block k (hC.lt k hk) fun h => hap k h.s hk,hSC⟩
theorem strun_calls {es : Nat → Addr} {W : World} {bb bm n B : Nat} {L : Lay} {cv : Value} {d : Bf.Bd} {c : Bf.Ca} {SC : Nat → Prop} {i : Nat} (hM : BuM es W bb bm n L cv d) (hi : d.dom i) (hr : d.isReady i = true) (hC : CaAt CAt SC W cv c) (hap : ∀ j,SBlk d.dom L j → ¬ SC j) (hW : BuildB B W es) (hSC : ∀ j,SC j → B ≤ j) (hfit : Bf.Fit d) (hcf : Bf.CFit c) (hk1 : (d.rule i).kind.length ≤ 200) (hk2 : (d.rule i).word.length ≤ 200) (hk3 : (d.rule i).ins.length ≤ 12) :
  Calls Tryz.prog 200 #[Ptr (L.sp i),cv] W fun e w' => e = .returned (.tuple #[]) ∧ RunPost es L d (Bf.go Af.actO c d i).d (Bf.go Af.actO c d i).c SC W cv w' := by
 have HG := hid1 (stgather_calls hM.steps i hi (hM.few i hi))
 rw [gat_insOf] at HG
 have hwt := Bf.ready_waits hr
 have HM := hid1 hM
 have HR := hid1 hr
 have HC := hid1 hC
 have HAp := hid1 hap
 have HW := hid1 hW
 have HSC := hid1 hSC
 have HUp : Hid (∀ e k,Bf.Up L.us i k → Bf.setS d.st i (.failed e) k = .waits ∨ Bf.setS d.st i (.failed e) k = .left) := hid1 fun e k hk => by
  have h1 := hM.inv.up hM.us hwt hk
  by_cases ek : k = i
  ·subst ek
   exfalso
   have : ∃ j,(d.st j).isDone = false ∧ Ru.needs d.l k j = true := by
    cases hk with
    | one h2 => exact ⟨k,by rw [hwt];rfl,((hM.us k (by rw [hwt];rfl) k).1 h2).2⟩
    | @more j _ hj h2 =>
     have h0 := hM.inv.up hM.us hwt hj
     exact ⟨j,by rcases h0.2 with e | e <;> rw [e] <;> rfl,((hM.us j h0.1 k).1 h2).2⟩
   obtain ⟨j,h2,h3⟩ := this
   rw [Bf.ready_free hr (Ru.needs_lt h3).2 h3] at h2
   cases h2
  ·rw [Bf.setS_other ek]
   exact h1.2
 have HFail := hid1 fun (V : World) (hS : Steps V es d.dom L d.rule (insOf d) d.st) (e : Nat) => stfail_calls (fun k hk => hM.lo hk) hM.usl hS hi hwt e (HUp.out e)
 have HFx := hid1 fun xs (hx : d.ins i = some xs) => hfit.ins hx
 have HCf := hid1 hcf
 obtain ⟨oc,rfl⟩ := hC.ptr
 have HGo : Hid (Bf.go Af.actO c d i = match d.ins i with
   | none => ⟨false,0,d.fail i 6,c⟩
   | some xs =>
    match Bf.cfind c (Kp.key (d.rule i).kind (d.rule i).word xs) with
    | some s => ⟨true,0,d.set i (.done s true),Bf.cget c (Kp.key (d.rule i).kind (d.rule i).word xs)⟩
    | none =>
     if (Af.actO (d.rule i).kind (d.rule i).word xs).2 = 0 then ⟨false,0,d.set i (.done (Af.actO (d.rule i).kind (d.rule i).word xs).1 false),Bf.cput c (Kp.key (d.rule i).kind (d.rule i).word xs) (Af.actO (d.rule i).kind (d.rule i).word xs).1⟩
     else ⟨false,0,d.fail i (Af.actO (d.rule i).kind (d.rule i).word xs).2,c⟩) := hid1 rfl
 generalize Bf.go Af.actO c d i = G at *
 clear hM hC hap hW hSC hr hfit hcf HUp
 go_enter Tryz.func200,Tryz.ntmps200
 go_wp2_with fail
 refine HG.out.mono ?_
 rintro e w1 ⟨g1,hg⟩
 have HS1 := hid1 (HM.out.steps.below g1)
 have HC1 := hid1 (HC.out.below g1)
 have HW1 := hid1 (HW.out.below g1)
 have HO1 : Hid (Only SC W w1) := hid1 (Only.of g1)
 rcases hg with ⟨hnone,rfl⟩ | ⟨xs,v,hsome,rfl,hrow⟩
 ·rw [hnone] at HGo
  simp only at HGo
  have HF1 := hid1 (HFail.out w1 HS1.out 6)
  have cN := HW1.out.w.none
  clear HFail HG hnone g1
  go_wp2_with fail
  refine HF1.out.mono ?_
  rintro e w2 ⟨rfl,st',hS2,hL2,hO2⟩
  have HP := hid1 (RunPost.fails HM.out.inv HM.out.us HR.out hS2 hL2 HO1.out HC1.out (fun j hj => .inl hj) HAp.out hO2)
  clear HF1 hS2 hL2 hO2
  go_wp2
  exact bodyPost_ret (results_none rfl _ _ _) rfl ⟨rfl,by rw [HGo.out];exact HP.out⟩
 ·rw [hsome] at HGo
  simp only at HGo
  obtain ⟨hx1,hx2⟩ := HFx.out xs hsome
  have hX1 := XRow.of_owns hrow
  have HKy := hid1 fun V (g : Below w1.heap.size w1 V) => HW1.out.w.k V g (d.rule i).kind (d.rule i).word v xs (hX1.below g) hk1 hk2 (by omega) (fun x hx => by have := hx2 x hx;omega)
  have hkl := key_le (d.rule i).kind (d.rule i).word xs hk1 hk2 (by omega) hx2
  have hA := HS1.out.at hi
  have c0 := hA.c0
  have c1 := hA.c1
  obtain ⟨pv,cap,ev⟩ := own_val hrow
  rw [ev] at HKy
  have HRow := hid1 hrow
  have HEv := hid1 ev
  clear hA HG hX1 hrow hx1 HFx
  subst ev
  generalize Kp.key (d.rule i).kind (d.rule i).word xs = key at *
  go_wp2
  go_region_held3 (fun w' => w'.cell? ⟨L.sp i,0,none⟩ = some (.string (ba (d.rule i).kind)) ∧ w'.cell? ⟨L.sp i,1,none⟩ = some (.string (ba (d.rule i).word))) (first | go_keep | fail)
   (first | (go_at_call 231;refine (HKy.out _ (by exact (Below.refl _ w1).drew)).mono ?_;rintro e w2 ⟨rfl,g2⟩;have e0 := cell_below' (w := w1.drew) c0 g2;have e1 := cell_below' (w := w1.drew) c1 g2) | fail)
  all_goals
   have G2 := below_then ((Below.refl _ w1).drew) g2
   have HS2 := hid1 (HS1.out.below G2)
   have HC2 := hid1 (HC1.out.below G2)
   have HW2 := hid1 (HW1.out.below G2)
   have HO2 : Hid (Only SC W w2) := hid1 (HO1.out.trans (Only.of G2) fun j hj => .inl hj)
   have HRow2 := hid1 (own_below HRow.out G2)
   have HGt := hid1 (caGet (es := es) HC2.out HCf.out key hkl)
   clear HS1 HC1 HW1 HO1 HRow HKy G2 g2 g1 e0 e1 c0 c1
   go_wp2_with fail
   refine HGt.out.mono ?_
   rintro e w3 ⟨rfl,hO3,SC3,hC3,hSC3⟩
   have hz2 := HO2.out.size
   have HS3 := hid1 (HS2.out.only hO3 HAp.out)
   have HC3 := hid1 hC3
   have HW3 := hid1 (HW2.out.only hO3 HSC.out)
   have HO3 : Hid (Only SC W w3) := hid1 (HO2.out.trans hO3 fun j hj => .inl hj)
   have HSC3 : Hid (∀ j,SC3 j → SC j ∨ W.heap.size ≤ j) := hid1 fun j hj => (hSC3 j hj).imp_right fun h => Nat.le_trans hz2 h
   have HAp3 : Hid (∀ j,SBlk d.dom L j → ¬ SC3 j) := hid1 fun j hj h => by
    rcases hSC3 j h with h1 | h1
    ·exact HAp.out j hj h1
    ·have := HS2.out.lt j hj
     omega
   have HFar : Hid (∀ j,some j = (Value.slice pv xs.length cap).ownBlock → ¬ SC j) := hid1 fun j hj h => by
    have h1 := HM.out
    have h2 := HC.out.lt j h
    have h3 := (own_lt HRow2.out j hj.symm).1
    omega
   have HRow3 := hid1 (own_same HRow2.out fun j hj => hO3.block j (own_lt HRow2.out j hj.symm).2 (HFar.out j hj))
   have hA3 := HS3.out.at hi
   have a0 := hA3.c0
   have a1 := hA3.c1
   have a4 := hA3.c4
   have a5 := hA3.c5
   have f4 := hA3.fr 4
   have f5 := hA3.fr 5
   rw [hwt] at a4 a5
   clear hA3 HGt HS2 HC2 HW2 HO2 HRow2 hO3 hC3 hSC3 hz2 HFar
   cases hfd : Bf.cfind c key with
   | some s =>
    rw [hfd] at HGo
    simp only at HGo
    have HP := hid1 (RunPost.done HS3.out hi hwt s true HO3.out HC3.out HSC3.out HAp3.out)
    clear HS3 HC3 HW3 HO3 HSC3 HAp3 HRow3 HFail HM HC
    go_wp2
    exact bodyPost_ret (results_none rfl _ _ _) rfl ⟨rfl,by rw [HGo.out];exact HP.out⟩
   | none =>
    rw [hfd] at HGo
    simp only at HGo
    rw [cget_none hfd] at HC3
    have HRn := hid1 fun V (g : Below w3.heap.size w3 V) => Run_any (HW3.out.below g).w.g.s.a (d.rule i).kind (d.rule i).word (by omega) (.slice pv xs.length cap) xs (TRow.of_owns (own_below HRow3.out g)) (fun x hx => by have := hx2 x hx;omega)
    have HCd := hid1 (actFit (d.rule i).kind (d.rule i).word xs)
    clear hfd
    generalize hao : Af.actO (d.rule i).kind (d.rule i).word xs = ao at *
    obtain ⟨out,code⟩ := ao
    simp only at HGo HRn HCd
    clear hao
    go_wp2
    go_region_held3 (fun w' => w'.cell? ⟨L.sp i,0,none⟩ = some (.string (ba (d.rule i).kind)) ∧ w'.cell? ⟨L.sp i,1,none⟩ = some (.string (ba (d.rule i).word))) (first | go_keep | fail)
     (first | (go_at_call 208;refine (HRn.out _ (by exact (Below.refl _ w3).drew)).mono ?_;rintro e w4 ⟨rfl,g4⟩;have e0 := cell_below' (w := w3.drew) a0 g4;have e1 := cell_below' (w := w3.drew) a1 g4) | fail)
    all_goals
     have G4 := below_then ((Below.refl _ w3).drew) g4
     have HS4 := hid1 (HS3.out.below G4)
     have HC4 := hid1 (HC3.out.below G4)
     have HO4 : Hid (Only SC W w4) := hid1 (HO3.out.trans (Only.of G4) fun j hj => .inl hj)
     clear HS3 HC3 HW3 HO3 HRow3 HRn G4 g4 e0 e1 a0 a1 a4 a5 f4 f5
     by_cases hcode : code = 0
     ·subst hcode
      rw [if_pos rfl] at HGo
      have hol := HCd.out.2 rfl
      have HPt := hid1 (caPut (es := es) HC4.out HCf.out key out hkl (by omega))
      rw [show erOf es 0 = Value.nilIface from rfl]
      clear HFail HCd
      go_wp2_with fail
      refine HPt.out.mono ?_
      rintro e w5 ⟨rfl,hO5,SC5,hC5,hSC5⟩
      have hz4 := HO4.out.size
      have HS5 := hid1 (HS4.out.only hO5 HAp3.out)
      have HO5 : Hid (Only SC W w5) := hid1 (HO4.out.trans hO5 HSC3.out)
      have HSC5 : Hid (∀ j,SC5 j → SC j ∨ W.heap.size ≤ j) := hid1 fun j hj => by
       rcases hSC5 j hj with h1 | h1
       ·exact HSC3.out j h1
       ·exact .inr (by omega)
      have HAp5 : Hid (∀ j,SBlk d.dom L j → ¬ SC5 j) := hid1 fun j hj h => by
       rcases hSC5 j h with h1 | h1
       ·exact HAp3.out j hj h1
       ·have := HS4.out.lt j hj
        omega
      have hA5 := HS5.out.at hi
      have a4 := hA5.c4
      have a5 := hA5.c5
      have f4 := hA5.fr 4
      have f5 := hA5.fr 5
      rw [hwt] at a4 a5
      have HP := hid1 (RunPost.done HS5.out hi hwt out false HO5.out hC5 HSC5.out HAp5.out)
      clear hA5 HPt HS5 HO5 HSC5 HAp5 HS4 HC4 HO4 hO5 hC5 hSC5 HM HC HSC3 HAp3
      go_wp2
      go_end0
      exact ⟨rfl,by rw [HGo.out];exact HP.out⟩
     ·rw [if_neg hcode] at HGo
      have HF4 := hid1 (HFail.out w4 HS4.out code)
      rcases erOf_iface es code with ⟨e9,-⟩ | ⟨t9,x9,e9⟩
      ·exact absurd e9 hcode
      ·rw [e9] at HF4 ⊢
       clear HFail e9 HCd
       go_wp2_with fail
       refine HF4.out.mono ?_
       rintro e w5 ⟨rfl,st',hS5,hL5,hO5⟩
       have HP := hid1 (RunPost.fails HM.out.inv HM.out.us HR.out hS5 hL5 HO4.out HC4.out HSC3.out HAp3.out hO5)
       clear HF4 hS5 hL5 hO5
       go_wp2
       exact bodyPost_ret (results_none rfl _ _ _) rfl ⟨rfl,by rw [HGo.out];exact HP.out⟩
end Go.Proofs.YtdljhggillgpfaaGreatDoor
namespace Go.Proofs.YtdljhggillgpfaaGreatDoor
open Go.RowKit Go.Shelf Go.Lib
namespace Bf
theorem init_fit {fs : Tf.Fs} {l : List Ru} {outs : List (List UInt8)} (h : ∀ f ∈ fs,f.2.length ≤ 2000) : Fit (init fs l outs) := by
 have key : ∀ k,(init fs l outs).st k = .waits ∨ (init fs l outs).st k = .no := fun k => by
  show (if need l outs k = true then St.waits else .no) = .waits ∨ (if need l outs k = true then St.waits else .no) = .no
  split
  ·exact .inl rfl
  ·exact .inr rfl
 refine ⟨h,fun k => ?_,fun k => ?_⟩
 ·rcases key k with e | e <;> rw [e] <;> simp [St.out]
 ·rcases key k with e | e <;> rw [e] <;> simp [St.why]
end Bf
end Go.Proofs.YtdljhggillgpfaaGreatDoor
namespace Go.Proofs.YtdljhggillgpfaaGreatDoor
namespace Bf
theorem allF_keeps {act : Act} (ha : ActFit act) : ∀ (f : Nat) (c : Ca) (d : Bd),Fit d → CFit c → (allF act f c d).1.l = d.l ∧ (allF act f c d).1.fs = d.fs ∧ Fit (allF act f c d).1 ∧ CFit (allF act f c d).2
 | 0,c,d,h1,h2 => ⟨rfl,rfl,h1,h2⟩
 | f + 1,c,d,h1,h2 => by
  unfold allF
  cases hq : d.ready with
  | nil => exact ⟨rfl,rfl,h1,h2⟩
  | cons i q =>
   have hm := mem_ready.1 (show i ∈ d.ready by rw [hq];simp)
   have hl := go_less act c d i hm.1 hm.2
   have hg := go_fit ha h2 h1 i
   obtain ⟨a1,a2,a3,a4⟩ := allF_keeps ha f (go act c d i).c (go act c d i).d hg.1 hg.2
   exact ⟨a1.trans hl.2.1,a2.trans hl.2.2,a3,a4⟩
end Bf
end Go.Proofs.YtdljhggillgpfaaGreatDoor
namespace Go.Proofs.YtdljhggillgpfaaGreatDoor
open Go.RowKit Go.Shelf Go.Lib Go.Maps
open Tf (Fs)
structure TErr (w : World) (es : Nat → Value) : Prop where
 bound : w.cell? ⟨0,0,none⟩ = some (es 2)
 shape : w.cell? ⟨2,0,none⟩ = some (es 3)
 name : w.cell? ⟨3,0,none⟩ = some (es 4)
 none6 : w.cell? ⟨5,0,none⟩ = some (es 6)
 exist : w.cell? ⟨6,0,none⟩ = some (es 7)
 full : w.cell? ⟨7,0,none⟩ = some (es 8)
 faces : ∀ k,∃ t u,es (k + 1) = .iface t u
 nil : es 0 = .nilIface
theorem TErr.below {w w' : World} {es : Nat → Value} (h : TErr w es) (hb : Below w.heap.size w w') : TErr w' es :=
 ⟨cell_below' h.bound hb,cell_below' h.shape hb,cell_below' h.name hb,cell_below' h.none6 hb,cell_below' h.exist hb,cell_below' h.full hb,h.faces,h.nil⟩
theorem invK (key : Value) (kl : Lit) (h : keyOf Tryz.prog 9 key = some kl) : ∃ x,key = encStr x := by
 obtain ⟨x,hx,_⟩ := Maps.keyOf_str Tryz.underlying9 h
 exact ⟨x,hx⟩
theorem invV (v : Value) (y : DataW Unit × List MemPlace) (h : fileElem v = some y) : ∃ c : List UInt8,v = fileV c := by
 obtain ⟨l,rfl,_⟩ := fileElem_inv h
 exact ⟨l,rfl⟩
theorem hasP_of_at {fs : Fs} {x : List UInt8} {y : DataW Unit} (h : ∀ zd,(Tf.datum fs).atKey (.string x) zd = y) : Tf.hasP fs x = true := by
 rw [← Tf.datum_has]
 exact Maps.has_true_of_atKey h
def Clear (fs : Fs) (p : List UInt8) (left : Lit → Bool) : Prop := ∀ f ∈ fs,left (.string f.1) = false → (Tf.above f.1 p || Tf.above p f.1) = false
theorem Clear.start (fs : Fs) (p : List UInt8) : Clear fs p (Maps.has (Tf.datum fs)) := by
 intro f hf h
 rw [Tf.datum_has] at h
 have : Tf.hasP fs f.1 = true := List.any_eq_true.2 ⟨f,hf,by simp⟩
 rw [this] at h
 cases h
theorem Clear.step {fs : Fs} {p x : List UInt8} {left : Lit → Bool} (h : Clear fs p left) (hx : (Tf.above x p || Tf.above p x) = false) : Clear fs p (fun z => left z && !z.sameKey (.string x)) := by
 intro f hf hl
 by_cases e : f.1 = x
 ·rw [e];exact hx
 ·refine h f hf ?_
  have : (Lit.string f.1).sameKey (.string x) = false := by simp [Lit.sameKey,e]
  simpa [this] using hl
theorem Clear.done {fs : Fs} {p : List UInt8} {left : Lit → Bool} (h : Clear fs p left) (hl : ∀ kl,left kl = false) : Tf.clash fs p = false := by
 unfold Tf.clash
 rw [List.any_eq_false]
 intro f hf
 have := h f hf (hl _)
 simpa using this
theorem clash_of {fs : Fs} {p x : List UInt8} (hx : Tf.hasP fs x = true) (h : (Tf.above x p || Tf.above p x) = true) : Tf.clash fs p = true := by
 obtain ⟨f,hf,e⟩ := List.any_eq_true.1 hx
 obtain rfl : f.1 = x := by simpa using e
 exact List.any_eq_true.2 ⟨f,hf,h⟩
theorem mayPut_name {B : Nat} {w : World} {tb : Nat} {fs : Fs} {o : Option Nat} {es : Nat → Value} (_h : TreeAt B w tb fs o) (hE : TErr w es) (p b : List UInt8) (hp : p.length ≤ 1000000) (hn : pathB p = false) :
  Calls Tryz.prog 129 #[Ptr tb,.string (ba p),.string (ba b)] w fun e w' => e = .returned (es 4) ∧ Below w.heap.size w w' := by
 obtain ⟨t,u,e4⟩ := hE.faces 3
 have hn4 := hE.name
 rw [e4] at hn4 ⊢
 have HK : Hid (Calls Tryz.prog 104 #[.string (ba p)] w fun e w' => e = .returned (.iface t u) ∧ Below w.heap.size w w') := Check_no p hp hn w t u hn4
 clear hn hE
 go_enter Tryz.func129,Tryz.ntmps129
 go_wp2_with fail
 refine HK.out.mono ?_
 rintro e w1 ⟨rfl,g1⟩
 go_wp2
 go_ret
 exact ⟨rfl,g1⟩
theorem mayPut_bound {B : Nat} {w : World} {tb : Nat} {fs : Fs} {o : Option Nat} {es : Nat → Value} (_h : TreeAt B w tb fs o) (hE : TErr w es) (p b : List UInt8) (hp : p.length ≤ 1000000) (hn : pathB p = true) (hb : 2000 < b.length) :
  Calls Tryz.prog 129 #[Ptr tb,.string (ba p),.string (ba b)] w fun e w' => e = .returned (es 2) ∧ Below w.heap.size w w' := by
 obtain ⟨t,u,e4⟩ := hE.faces 1
 have hn4 := hE.bound
 rw [e4] at hn4 ⊢
 have HK : Hid (Calls Tryz.prog 104 #[.string (ba p)] w fun e w' => e = .returned .nilIface ∧ Below w.heap.size w w') := Check_yes p hp hn w
 have z : (2000 : Int) < (b.length : Int) := by omega
 clear hn hE hb
 go_enter Tryz.func129,Tryz.ntmps129
 go_wp2_with fail
 refine HK.out.mono ?_
 rintro e w1 ⟨rfl,g1⟩
 have hc := cell_below' hn4 g1
 go_wp2
 go_ret
 exact ⟨rfl,g1⟩
theorem mayPut_there {B : Nat} {w : World} {tb : Nat} {fs : Fs} {o : Option Nat} (h : TreeAt B w tb fs o) (p b : List UInt8) (hp : p.length ≤ 1000000) (hn : pathB p = true) (hb : b.length ≤ 2000) (ht : Tf.hasP fs p = true) :
  Calls Tryz.prog 129 #[Ptr tb,.string (ba p),.string (ba b)] w fun e w' => e = .returned .nilIface ∧ Below w.heap.size w w' := by
 have HK : Hid (Calls Tryz.prog 104 #[.string (ba p)] w fun e w' => e = .returned .nilIface ∧ Below w.heap.size w w') := Check_yes p hp hn w
 have z : (b.length : Int) ≤ 2000 := by omega
 have HL : Hid (∀ w',Below w.heap.size w w' → (Instr.lookup 102 (.map o) (.string (ba p)) true).run Tryz.prog w' = .ok (.tuple #[fileV ((Tf.get fs p).getD []),.bool true]) w') := fun w' g => by
  have := look_tree (h.below g) p hp
  rwa [ht] at this
 have hc := h.cell
 generalize (Tf.get fs p).getD [] = x at *
 clear hn hb ht h
 go_enter Tryz.func129,Tryz.ntmps129
 go_wp2_with fail
 refine HK.out.mono ?_
 rintro e w1 ⟨rfl,g1⟩
 have hl := HL.out w1 g1
 have hc1 := cell_below' hc g1
 go_wp2
 go_ret
 exact ⟨rfl,g1.alloc g1.size _⟩
end Go.Proofs.YtdljhggillgpfaaGreatDoor
namespace Go.Proofs.YtdljhggillgpfaaGreatDoor
open Go.RowKit Go.Shelf Go.Lib Go.Maps
open Tf (Fs)
def newCode (fs : Fs) (p : List UInt8) : Nat := if Tf.clash fs p then 7 else if 60 ≤ fs.length then 8 else 0
theorem mayPut_new {B : Nat} {w : World} {tb : Nat} {fs : Fs} {bm : Nat} {es : Nat → Value} (h : TreeAt B w tb fs (some bm)) (hE : TErr w es) (hlen : ∀ f ∈ fs,f.1.length ≤ 1000000) (hfew : fs.length ≤ 1000) (p b : List UInt8) (hp : p.length ≤ 1000000) (hn : pathB p = true) (hb : b.length ≤ 2000) (ht : Tf.hasP fs p = false) :
  Calls Tryz.prog 129 #[Ptr tb,.string (ba p),.string (ba b)] w fun e w' => e = .returned (es (newCode fs p)) ∧ Below w.heap.size w w' := by
 have HK : Hid (Calls Tryz.prog 104 #[.string (ba p)] w fun e w' => e = .returned .nilIface ∧ Below w.heap.size w w') := Check_yes p hp hn w
 have z : (b.length : Int) ≤ 2000 := by omega
 have HL : Hid (∀ w',Below w.heap.size w w' → (Instr.lookup 102 (.map (some bm)) (.string (ba p)) true).run Tryz.prog w' = .ok (.tuple #[fileV ((Tf.get fs p).getD []),.bool false]) w') := fun w' g => by
  have := look_tree (h.below g) p hp
  rwa [ht] at this
 have hc := h.cell
 have hm := h.isMap.2.2
 have HA : Hid (∀ (a c : List UInt8),a.length ≤ 1000000 → ∀ W,Calls Tryz.prog 179 #[.string (ba a),.string (ba c)] W fun e w' => e = .returned (.bool (Tf.above a c)) ∧ w' = W) := fun a c ha W => above_calls a c ha W
 generalize (Tf.get fs p).getD [] = x0 at *
 go_enter Tryz.func129,Tryz.ntmps129
 go_wp2_with fail
 refine HK.out.mono ?_
 rintro e w1 ⟨rfl,g1⟩
 have hl := HL.out w1 g1
 have hc1 := cell_below' hc g1
 have hm1 := (ownsMap_below hm g1).alloc (.cells #[.string (ba x0)] 156)
 have g2 := g1.alloc g1.size (.cells #[.string (ba x0)] 156)
 have hc2 := cell_below' hc g2
 go_wp2_with (first
  | (at_range;refine wpList_range_own _ rfl _ 102 rfl 9 156 klaw Tryz.underlying102 fileElem bm fs.length (Tf.datum fs) rfl hm1 ?_;intro w0 hrg0 hg0 hs0)
  | go_in)
 go_frame
 have g3 : Below w.heap.size w w0 := g2.grown hg0 (by simp;have := g1.size;omega) (fun _ e => by cases e)
 generalize hr : (w1.alloc (.cells #[.string (ba x0)] 156)).heap.size = r at *
 have hrl : w.heap.size ≤ r := by rw [← hr];simp;have := g1.size;omega
 go_loopw [10] (fun _ wr => ∃ (left : Lit → Bool) (cnt : Nat),wr.ranges Tryz.prog 9 fileElem bm r fs.length (Tf.datum fs) left cnt ∧ Clear fs p left ∧ Below w.heap.size w wr)
  (fun _ wr => wr.rangeLeft bm r)
 case atStart => exact ⟨_,_,hrg0,Clear.start fs p,g3⟩
 case round =>
  obtain ⟨left,cnt,hrg,hcl,hB⟩ := hrel
  have hE' := hE.below hB
  have hc' := cell_below' hc hB
  go_wp2_with (first
   | (at_next;refine wpList_next_ranges _ rfl _ rfl 9 klaw fileElem (fun x : List UInt8 => Value.string (ba x)) (fun c : List UInt8 => fileV c) (fun key kl hk => invK key kl hk) invV bm r fs.length _ _ _ rfl hrg ?_ ?_)
   | go_in)
  ·intro _ hl0
   have hclash := hcl.done hl0
   have hfull := hE'.full
   by_cases h60 : 60 ≤ fs.length
   ·have e8 : newCode fs p = 8 := by simp [newCode,hclash,h60]
    obtain ⟨t,u,e4⟩ := hE.faces 7
    rw [e4] at hfull
    have z60 : (60 : Int) ≤ ((Maps.size (Tf.datum fs) : Nat) : Int) := by rw [Tf.datum_size];omega
    go_wp2_with (first
     | (at_len;refine wpList_len_own _ rfl _ 102 rfl 9 156 Tryz.underlying102 fileElem bm fs.length (Tf.datum fs) rfl hrg.owns ?_)
     | go_in)
    go_ret
    exact ⟨congrArg Ending.returned (show Value.iface t u = es (newCode fs p) by rw [e8,e4]),hB⟩
   ·have e0 : newCode fs p = 0 := by simp [newCode,hclash,h60]
    have z60 : ((Maps.size (Tf.datum fs) : Nat) : Int) < 60 := by rw [Tf.datum_size];omega
    go_wp2_with (first
     | (at_len;refine wpList_len_own _ rfl _ 102 rfl 9 156 Tryz.underlying102 fileElem bm fs.length (Tf.datum fs) rfl hrg.owns ?_)
     | go_in)
    go_ret
    exact ⟨congrArg Ending.returned (show Value.nilIface = es (newCode fs p) by rw [e0,hE.nil]),hB⟩
  ·intro x c kl yd yp w2 cnt2 hkey hlk hv hat hrg2 hlt hg2 hs2 hen
   obtain ⟨x',ex,rfl,_⟩ := Maps.keyOf_str Tryz.underlying9 hkey
   obtain rfl : x = x' := encStr_inj ex
   have hxs := hasP_of_at hat
   have hxl : x.length ≤ 1000000 := by
    obtain ⟨f,hf,e⟩ := List.any_eq_true.1 hxs
    obtain rfl : f.1 = x := by simpa using e
    exact hlen f hf
   have hB2 : Below w.heap.size w w2 := hB.grown hg2 hB.size (fun j e => by cases e;exact hrl)
   have hex := (hE.below hB2).exist
   have A1 : Hid (∀ W,Calls Tryz.prog 179 #[.string (ba x),.string (ba p)] W fun e w' => e = .returned (.bool (Tf.above x p)) ∧ w' = W) := HA.out x p hxl
   have A2 : Hid (∀ W,Calls Tryz.prog 179 #[.string (ba p),.string (ba x)] W fun e w' => e = .returned (.bool (Tf.above p x)) ∧ w' = W) := HA.out p x hp
   obtain ⟨t,u,e7⟩ := hE.faces 6
   cases a1 : Tf.above x p with
   | true =>
    have hcc := clash_of (p := p) hxs (by simp [a1])
    have e8 : newCode fs p = 7 := by simp [newCode,hcc]
    rw [a1] at A1
    rw [e7] at hex
    go_wp2_with fail
    refine (A1.out _).mono ?_
    rintro e w' ⟨rfl,rfl⟩
    go_wp2
    go_ret
    exact ⟨congrArg Ending.returned (show Value.iface t u = es (newCode fs p) by rw [e8,e7]),hB2⟩
   | false =>
    rw [a1] at A1
    cases a2 : Tf.above p x with
    | true =>
     have hcc := clash_of (p := p) hxs (by simp [a2])
     have e8 : newCode fs p = 7 := by simp [newCode,hcc]
     rw [a2] at A2
     rw [e7] at hex
     go_wp2_with fail
     refine (A1.out _).mono ?_
     rintro e w' ⟨rfl,rfl⟩
     go_wp2_with fail
     refine (A2.out _).mono ?_
     rintro e w' ⟨rfl,rfl⟩
     go_wp2
     go_ret
     exact ⟨congrArg Ending.returned (show Value.iface t u = es (newCode fs p) by rw [e8,e7]),hB2⟩
    | false =>
     rw [a2] at A2
     go_wp2_with fail
     refine (A1.out _).mono ?_
     rintro e w' ⟨rfl,rfl⟩
     go_wp2_with fail
     refine (A2.out _).mono ?_
     rintro e w' ⟨rfl,rfl⟩
     go_wp2
     go_roundw
     case rel => exact ⟨_,cnt2,hrg2,hcl.step (by simp [a1,a2]),hB2⟩
     case measure => rw [hrg2.left_eq,hrg.left_eq];exact hlt
end Go.Proofs.YtdljhggillgpfaaGreatDoor
namespace Go.Proofs.YtdljhggillgpfaaGreatDoor
open Go.RowKit Go.Shelf Go.Lib Go.Maps
open Tf (Fs)
theorem Put_no {B : Nat} {w : World} {tb : Nat} {fs : Fs} {o : Option Nat} (_h : TreeAt B w tb fs o) (p b : List UInt8) (t : TypeId) (u : Value)
  (HM : Hid (Calls Tryz.prog 129 #[Ptr tb,.string (ba p),.string (ba b)] w fun e w' => e = .returned (.iface t u) ∧ Below w.heap.size w w')) :
  Calls Tryz.prog 93 #[Ptr tb,.string (ba p),.string (ba b)] w fun e w' => e = .returned (.iface t u) ∧ Below w.heap.size w w' := by
 go_enter Tryz.func93,Tryz.ntmps93
 go_wp2_with fail
 refine HM.out.mono ?_
 rintro e w1 ⟨rfl,g1⟩
 go_wp2
 go_ret
 exact ⟨rfl,g1⟩
theorem eq_someMap (bm : Nat) (w : World) : (binOp BinOp.eql 102 (.map (some bm)) (.map none)).run Tryz.prog w = .ok (.bool false) w := by kernel_rfl
theorem eq_noMap (w : World) : (binOp BinOp.eql 102 (.map none) (.map none)).run Tryz.prog w = .ok (.bool true) w := by kernel_rfl
theorem below_turned {B : Nat} {a w w' : World} {bm : Nat} (h : Below B a w) (hsz : B ≤ w.heap.size) (hB : B ≤ bm) (ht : w.mapTurned w' bm) : Below B a w' :=
 h.grown ht.grown hsz (fun j e => by cases e;exact hB)
end Go.Proofs.YtdljhggillgpfaaGreatDoor
namespace Go.Proofs.YtdljhggillgpfaaGreatDoor
open Go.RowKit Go.Shelf Go.Lib Go.Maps
open Tf (Fs)
theorem mayPut_empty {B : Nat} {w : World} {tb : Nat} {fs : Fs} (h : TreeAt B w tb fs none) (p b : List UInt8) (hp : p.length ≤ 1000000) (hn : pathB p = true) (hb : b.length ≤ 2000) :
  Calls Tryz.prog 129 #[Ptr tb,.string (ba p),.string (ba b)] w fun e w' => e = .returned .nilIface ∧ Below w.heap.size w w' := by
 have HK : Hid (Calls Tryz.prog 104 #[.string (ba p)] w fun e w' => e = .returned .nilIface ∧ Below w.heap.size w w') := Check_yes p hp hn w
 have z : (b.length : Int) ≤ 2000 := by omega
 have hl := fun w' => look_nofile w' p hp
 have hc := h.cell
 clear hn hb h
 go_enter Tryz.func129,Tryz.ntmps129
 go_wp2_with fail
 refine HK.out.mono ?_
 rintro e w1 ⟨rfl,g1⟩
 have hc1 := cell_below' hc g1
 have g2 := g1.alloc g1.size (.cells #[.string (ba [])] 156)
 have hc2 := cell_below' hc g2
 have g3 := g2.alloc g2.size (.mapIter none 0 #[] 0)
 have hc3 := cell_below' hc g3
 have hrg := run_range_nilMap (P := Tryz.prog) (w1.alloc (.cells #[.string (ba [])] 156)) 102 9 156 Tryz.underlying102
 have hnx : ∀ ty,(Instr.next (.pointer (some ⟨(w1.alloc (.cells #[.string (ba [])] 156)).heap.size,0,none⟩)) false ty).run Tryz.prog ((w1.alloc (.cells #[.string (ba [])] 156)).alloc (.mapIter none 0 #[] 0)) = _ := fun ty => run_next_nilMap (w1.alloc (.cells #[.string (ba [])] 156)) ty 0 0 #[]
 have hln : ∀ W ty,(Builtin.len_ #[102] ty #[.map none]).run Tryz.prog W = .ok (.int .i64 0) W := fun W ty => Maps.len_nil (w := W) Tryz.underlying102 ty
 have e1 : (w1.alloc (.cells #[.string (ba [])] 156)).heap.size = w1.heap.size + 1 := by simp
 rw [e1] at hrg hnx
 clear e1 HK
 go_wp2
 refine wp_loop_rounds 1 ?_
 rw [rounds_succ]
 go_wp2
 go_ret
 exact ⟨rfl,g3⟩
theorem putCode_new (fs : Fs) (p b : List UInt8) (hn : pathB p = true) (hb : b.length ≤ 2000) (ht : Tf.hasP fs p = false) : Tf.putCode pathB fs p b = newCode fs p := by
 unfold Tf.putCode newCode
 rw [if_neg (by simp [hn]),if_neg (by omega),if_neg (by simp [ht])]
theorem mayPut_calls {B : Nat} {w : World} {tb : Nat} {fs : Fs} {o : Option Nat} {es : Nat → Value} (h : TreeAt B w tb fs o) (hE : TErr w es) (hlen : ∀ f ∈ fs,f.1.length ≤ 1000000) (hfew : fs.length ≤ 1000) (p b : List UInt8) (hp : p.length ≤ 1000000) :
  Calls Tryz.prog 129 #[Ptr tb,.string (ba p),.string (ba b)] w fun e w' => e = .returned (es (Tf.putCode pathB fs p b)) ∧ Below w.heap.size w w' := by
 cases hn : pathB p with
 | false =>
  rw [show Tf.putCode pathB fs p b = 4 by simp [Tf.putCode,hn]]
  exact mayPut_name h hE p b hp hn
 | true =>
  rcases Nat.lt_or_ge 2000 b.length with hb | hb
  ·rw [show Tf.putCode pathB fs p b = 2 by simp [Tf.putCode,hn,hb]]
   exact mayPut_bound h hE p b hp hn hb
  ·cases ht : Tf.hasP fs p with
   | true =>
    rw [show Tf.putCode pathB fs p b = 0 by unfold Tf.putCode;rw [if_neg (by simp [hn]),if_neg (by omega),if_pos ht],hE.nil]
    exact mayPut_there h p b hp hn hb ht
   | false =>
    cases o with
    | none =>
     obtain rfl : fs = [] := h.isMap
     rw [show Tf.putCode pathB [] p b = 0 by rw [putCode_new _ _ _ hn hb ht];simp [newCode,Tf.clash],hE.nil]
     exact mayPut_empty h p b hp hn hb
    | some bm =>
     rw [putCode_new _ _ _ hn hb ht]
     exact mayPut_new h hE hlen hfew p b hp hn hb ht
theorem Remove_no {B : Nat} {w : World} {tb : Nat} {fs : Fs} {o : Option Nat} {es : Nat → Value} (h : TreeAt B w tb fs o) (hE : TErr w es) (p : List UInt8) (hp : p.length ≤ 1000000) (ht : Tf.hasP fs p = false) :
  Calls Tryz.prog 75 #[Ptr tb,.string (ba p)] w fun e w' => e = .returned (es 6) ∧ Below w.heap.size w w' := by
 have hl := look_tree h p hp
 rw [ht] at hl
 have HA : Hid (Calls Tryz.prog 88 #[Ptr tb] w fun e w' => e = .returned (.map o) ∧ w' = w) := all_calls tb o w h.cell
 generalize (Tf.get fs p).getD [] = x at *
 obtain ⟨t,u,e6⟩ := hE.faces 5
 have hn := hE.none6
 rw [e6] at hn ⊢
 have g1 : Below w.heap.size w (w.alloc (.cells #[.string (ba x)] 156)) := (Below.refl _ w).alloc (Nat.le_refl _) _
 have hn1 := cell_below' hn g1
 clear ht h hE
 go_enter Tryz.func75,Tryz.ntmps75
 go_wp2_with fail
 refine HA.out.mono ?_
 rintro e w' ⟨rfl,rfl⟩
 go_wp2
 go_ret
 exact ⟨rfl,g1⟩
end Go.Proofs.YtdljhggillgpfaaGreatDoor
namespace Go.Proofs.YtdljhggillgpfaaGreatDoor
open Go.RowKit Go.Shelf Go.Lib Go.Maps
open Tf (Fs)
theorem well_len {fs : Fs} (h : Tf.Well pathB fs) : ∀ f ∈ fs,f.1.length ≤ 64 := by
 intro f hf
 have h1 := (h.each f hf).1
 unfold pathB allB at h1
 simp only [Bool.and_eq_true,decide_eq_true_eq,List.all_eq_true] at h1
 have h2 : ∀ x ∈ Kf.parts f.1,x.length ≤ 12 := fun x hx => by
  have := h1.2 x hx
  unfold nameK at this
  simp only [Bool.and_eq_true,decide_eq_true_eq] at this
  have e : (ba x).size = x.length := ba_size x
  revert this
  simp [e]
  omega
 have h3 := Kf.tot_parts f.1
 have h4 : Kf.tot (Kf.parts f.1) ≤ (Kf.parts f.1).length * 13 := by
  generalize Kf.parts f.1 = l at h2
  clear h1 h3
  induction l with
  | nil => simp [Kf.tot]
  | cons x r ih =>
   have := ih fun y hy => h2 y (List.mem_cons_of_mem _ hy)
   have := h2 x (by simp)
   simp [Kf.tot] at *
   omega
 omega
end Go.Proofs.YtdljhggillgpfaaGreatDoor
namespace Go.Proofs.YtdljhggillgpfaaGreatDoor
open Go.RowKit Go.Shelf Go.Lib
structure Gr where
 w : World
 C : Nat → Prop
abbrev Gr.heap (g : Gr) : Array Obj := g.w.heap
abbrev Gr.of (w : World) : Gr := ⟨w,fun _ => False⟩
section
variable {w0 : Gr} {W W' : World} {mb tb : Nat} {tv lv cv : Value} {gs go gh gw : Nat} {l : List Ru} {fs : Tf.Fs} {vS vO vH vW : Nat → Value}
end
end Go.Proofs.YtdljhggillgpfaaGreatDoor
namespace Go.Proofs.YtdljhggillgpfaaGreatDoor
open Go.RowKit Go.Shelf Go.Lib
theorem piece_len (x : List UInt8) (h : x.length ≤ 5000) : (Kp.piece x).length ≤ x.length + 22 := by
 unfold Kp.piece
 have := digits_len x.length (by omega)
 simp
 omega
end Go.Proofs.YtdljhggillgpfaaGreatDoor
namespace Go.Proofs.YtdljhggillgpfaaGreatDoor
open Go.RowKit Go.Shelf Go.Lib
namespace Bf
def acc (d : Bd) (o : List (List UInt8)) (x : List UInt8) (j : Nat) : List (List UInt8) := match mkr d.l x with | some m => if m < j then o ++ [(d.st m).out] else o | none => o
end Bf
end Go.Proofs.YtdljhggillgpfaaGreatDoor
namespace Go.Proofs.YtdljhggillgpfaaGreatDoor
open Go.RowKit Go.Shelf Go.Lib
theorem wantF_code {fs : Tf.Fs} {l : List Ru} (x : List UInt8) : ∀ n,(Bf.wantF Af.actO fs l n x).2 ≤ 12
 | 0 => by simp [Bf.wantF]
 | n + 1 => by
  have hw : ∀ (a : List (List UInt8)),(Bf.winB (Bf.wantF Af.actO fs l n) a).2 ≤ 12 := fun a => by
   induction a with
   | nil => simp [Bf.winB]
   | cons y r ih =>
    unfold Bf.winB
    split
    ·exact ih
    ·exact wantF_code y n
  have ha : ∀ k w xs,(Af.actO k w xs).2 ≤ 12 := fun k w xs => by
   unfold Af.actO
   split
   ·split
    ·split <;> simp
    ·simp
   ·rename_i h
    show Af.actE k w xs.length ≤ 12
    unfold Af.actE
    split
    ·omega
    ·split
     ·omega
     ·split <;> omega
  unfold Bf.wantF
  split
  ·unfold Bf.wrule
   split
   ·exact ha _ _ _
   ·exact hw _
  ·split <;> simp
end Go.Proofs.YtdljhggillgpfaaGreatDoor
