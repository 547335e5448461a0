import Derived.Test.YtbgkfmodbofalaaGreatDoorPL34
import Derived.Deep.RegionHeld3
import Derived.Test.YtbgkfmodbofalaaGreatDoorPL21
import Derived.Test.YtbgkfmodbofalaaGreatDoorPL32
import Derived.Test.YtbgkfmodbofalaaGreatDoorPL09
import Derived.Test.YtbgkfmodbofalaaGreatDoorPL18
import Derived.Test.YtbgkfmodbofalaaGreatDoorPL10
import Derived.Test.YtbgkfmodbofalaaGreatDoorPL08
import Derived.Test.YtbgkfmodbofalaaGreatDoorPL30
import Derived.WalkKit
import Derived.Test.YtbgkfmodbofalaaGreatDoorPL07
import Derived.Shelf.Strings.BuilderK
import Derived.Lib.SmallJoins
import Derived.Lib.ItoaLen
import Derived.Sort.Grow
import Derived.Test.YtbgkfmodbofalaaGreatDoorPL16
import Derived.OwnWalk
namespace Go.Proofs.YtbgkfmodbofalaaGreatDoor
open Go.RowKit Go.Shelf Go.Lib Go.Maps
theorem Steps.only {W W' : World} {es : Nat → Addr} {dom : Nat → Prop} {L : Lay} {ru : Nat → Ru} {ins : Nat → List Inp} {st : Nat → Bf.St} {S : Nat → Prop} (h : Steps W es dom L ru ins st) (ho : Only S W W') (hS : ∀ j, SBlk dom L j → ¬ S j) : Steps W' es dom L ru ins st := h.same fun j hj => ho.block j (h.lt j hj) (hS j hj)
theorem actFit : Bf.ActFit Af.actO := fun k w xs => by
  unfold Af.actO
  split
  · split
    · split
      · exact ⟨by simp, fun h => by cases h⟩
      · rename_i h
        exact ⟨by simp, fun _ => by simpa using h⟩
    · exact ⟨by simp, fun h => by cases h⟩
  · rename_i h
    refine ⟨?_, fun e => absurd e h⟩
    show Af.actE k w xs.length ≤ 12
    unfold Af.actE
    split
    · omega
    · split
      · omega
      · split <;> omega
theorem Steps.dones {W : World} {es : Nat → Addr} {dom : Nat → Prop} {L : Lay} {ru : Nat → Ru} {ins : Nat → List Inp} {st : Nat → Bf.St} (h : Steps W es dom L ru ins st) {u : Nat} (hu : dom u) (hw : st u = .waits) (s : List UInt8) (b : Bool) : Steps ((W.setCell ⟨L.sp u, 4, none⟩ (.int .i64 (if b then 2 else 1))).setCell ⟨L.sp u, 5, none⟩ (.string (ba s))) es dom L ru ins (Bf.setS st u (.done s b)) := by
  refine h.turn hu (.done s b) ?_ fun j hj _ => ?_
  · have r1 := heap_setCell_same W (L.sp u) 4 _ _ (.int .i64 (if b then 2 else 1)) (h.step u hu)
    rw [heap_setCell_same _ _ _ _ _ _ r1, hw]
    cases b <;> rfl
  · rw [Below.heap_setCell _ _ _ j hj, Below.heap_setCell _ _ _ j hj]
theorem RunPost.done {es : Nat → Addr} {L : Lay} {d : Bf.Bd} {c' : Bf.Ca} {SC SC' : Nat → Prop} {W w3 : World} {cv : Value} {i : Nat} (hS : Steps w3 es d.dom L d.rule (insOf d) d.st) (hi : d.dom i) (hw : d.st i = .waits) (s : List UInt8) (b : Bool) (hO : Only SC W w3) (hC : CaAt CAt SC' w3 cv c') (hSC : ∀ j, SC' j → SC j ∨ W.heap.size ≤ j) (hap : ∀ j, SBlk d.dom L j → ¬ SC' j) :
    RunPost es L d (d.set i (.done s b)) c' SC W cv ((w3.setCell ⟨L.sp i, 4, none⟩ (.int .i64 (if b then 2 else 1))).setCell ⟨L.sp i, 5, none⟩ (.string (ba s))) := by
  have hp : PBlk d.dom L (L.sp i) := ⟨i, hi, rfl⟩
  have o1 : Only (fun j => PBlk d.dom L j ∨ SC j) w3 ((w3.setCell ⟨L.sp i, 4, none⟩ (.int .i64 (if b then 2 else 1))).setCell ⟨L.sp i, 5, none⟩ (.string (ba s))) := (Only.setCell _ _ (.inl hp)).trans (Only.setCell _ _ (.inl hp)) fun j hj => .inl hj
  have o0 : Only (fun j => PBlk d.dom L j ∨ SC j) W w3 := ⟨hO.os, hO.tape, hO.output, hO.size, fun j hj hn => hO.block j hj fun h => hn (.inr h)⟩
  refine ⟨hS.dones hi hw s b, o0.trans o1 fun j hj => .inl hj, SC', hC.same (by simp) fun k hk => ?_, hSC⟩
  have hne : k ≠ L.sp i := fun e => hap k (by rw [e]; exact hp.s) hk
  rw [Below.heap_setCell _ _ _ k hne, Below.heap_setCell _ _ _ k hne]
theorem RunPost.fails {es : Nat → Addr} {L : Lay} {d : Bf.Bd} {c : Bf.Ca} {SC SC' : Nat → Prop} {W w1 w2 : World} {cv : Value} {i : Nat} {st' : Nat → Bf.St} {e : Nat} (hI : Bf.Inv d) (hU : Bf.UsOk d L.us) (hr : d.isReady i = true) (hS : Steps w2 es d.dom L d.rule (insOf d) st') (hL : Bf.Leave L.us i (L.us i) (Bf.setS d.st i (.failed e)) st') (hO : Only SC W w1) (hC : CaAt CAt SC' w1 cv c) (hSC : ∀ j, SC' j → SC j ∨ W.heap.size ≤ j) (hap : ∀ j, SBlk d.dom L j → ¬ SC' j) (hO2 : Only (PBlk d.dom L) w1 w2) :
    RunPost es L d (d.fail i e) c SC W cv w2 := by
  have o0 : Only (fun j => PBlk d.dom L j ∨ SC j) W w1 := ⟨hO.os, hO.tape, hO.output, hO.size, fun j hj hn => hO.block j hj fun h => hn (.inr h)⟩
  refine ⟨hS.congr fun k hk => (hL.spread hI hU hr k (Bf.Bd.dom_no hk)).symm, o0.trans hO2 fun j hj => .inl (.inl hj), SC', hC.same hO2.size fun k hk => hO2.block k (hC.lt k hk) fun h => hap k h.s hk, hSC⟩
set_option maxRecDepth 100000 in
set_option maxHeartbeats 16000000 in
theorem strun_calls {es : Nat → Addr} {W : World} {bb bm n B : Nat} {L : Lay} {cv : Value} {d : Bf.Bd} {c : Bf.Ca} {SC : Nat → Prop} {i : Nat} (hM : BuM es W bb bm n L cv d) (hi : d.dom i) (hr : d.isReady i = true) (hC : CaAt CAt SC W cv c) (hap : ∀ j, SBlk d.dom L j → ¬ SC j) (hW : BuildB B W es) (hSC : ∀ j, SC j → B ≤ j) (hfit : Bf.Fit d) (hcf : Bf.CFit c) (hk1 : (d.rule i).kind.length ≤ 200) (hk2 : (d.rule i).word.length ≤ 200) (hk3 : (d.rule i).ins.length ≤ 12) :
    Calls Tryz.prog 130 #[Ptr (L.sp i), cv] W fun e w' => e = .returned (.tuple #[]) ∧ RunPost es L d (Bf.go Af.actO c d i).d (Bf.go Af.actO c d i).c SC W cv w' := by
  have HG := hid1 (stgather_calls hM.steps i hi (hM.few i hi))
  rw [gat_insOf] at HG
  have hwt := Bf.ready_waits hr
  have HM := hid1 hM
  have HR := hid1 hr
  have HC := hid1 hC
  have HAp := hid1 hap
  have HW := hid1 hW
  have HSC := hid1 hSC
  have HUp : Hid (∀ e k, Bf.Up L.us i k → Bf.setS d.st i (.failed e) k = .waits ∨ Bf.setS d.st i (.failed e) k = .left) := hid1 fun e k hk => by
    have h1 := hM.inv.up hM.us hwt hk
    by_cases ek : k = i
    · subst ek
      exfalso
      have : ∃ j, (d.st j).isDone = false ∧ Ru.needs d.l k j = true := by
        cases hk with
        | one h2 => exact ⟨k, by rw [hwt]; rfl, ((hM.us k (by rw [hwt]; rfl) k).1 h2).2⟩
        | @more j _ hj h2 =>
          have h0 := hM.inv.up hM.us hwt hj
          exact ⟨j, by rcases h0.2 with e | e <;> rw [e] <;> rfl, ((hM.us j h0.1 k).1 h2).2⟩
      obtain ⟨j, h2, h3⟩ := this
      rw [Bf.ready_free hr (Ru.needs_lt h3).2 h3] at h2
      cases h2
    · rw [Bf.setS_other ek]
      exact h1.2
  have HFail := hid1 fun (V : World) (hS : Steps V es d.dom L d.rule (insOf d) d.st) (e : Nat) => stfail_calls (fun k hk => hM.lo hk) hM.usl hS hi hwt e (HUp.out e)
  have HFx := hid1 fun xs (hx : d.ins i = some xs) => hfit.ins hx
  have HCf := hid1 hcf
  obtain ⟨oc, rfl⟩ := hC.ptr
  have HGo : Hid (Bf.go Af.actO c d i = match d.ins i with
      | none => ⟨false, 0, d.fail i 6, c⟩
      | some xs =>
        match Bf.cfind c (Kp.key (d.rule i).kind (d.rule i).word xs) with
        | some s => ⟨true, 0, d.set i (.done s true), Bf.cget c (Kp.key (d.rule i).kind (d.rule i).word xs)⟩
        | none =>
          if (Af.actO (d.rule i).kind (d.rule i).word xs).2 = 0 then ⟨false, 0, d.set i (.done (Af.actO (d.rule i).kind (d.rule i).word xs).1 false), Bf.cput c (Kp.key (d.rule i).kind (d.rule i).word xs) (Af.actO (d.rule i).kind (d.rule i).word xs).1⟩
          else ⟨false, 0, d.fail i (Af.actO (d.rule i).kind (d.rule i).word xs).2, c⟩) := hid1 rfl
  generalize Bf.go Af.actO c d i = G at *
  clear hM hC hap hW hSC hr hfit hcf HUp
  go_enter Tryz.func130, Tryz.ntmps130
  go_wp2_with fail
  refine HG.out.mono ?_
  rintro e w1 ⟨g1, hg⟩
  have HS1 := hid1 (HM.out.steps.below g1)
  have HC1 := hid1 (HC.out.below g1)
  have HW1 := hid1 (HW.out.below g1)
  have HO1 : Hid (Only SC W w1) := hid1 (Only.of g1)
  rcases hg with ⟨hnone, rfl⟩ | ⟨xs, v, hsome, rfl, hrow⟩
  · rw [hnone] at HGo
    simp only at HGo
    have HF1 := hid1 (HFail.out w1 HS1.out 6)
    have cN := HW1.out.w.none
    clear HFail HG hnone g1
    go_wp2_with fail
    refine HF1.out.mono ?_
    rintro e w2 ⟨rfl, st', hS2, hL2, hO2⟩
    have HP := hid1 (RunPost.fails HM.out.inv HM.out.us HR.out hS2 hL2 HO1.out HC1.out (fun j hj => .inl hj) HAp.out hO2)
    clear HF1 hS2 hL2 hO2
    go_wp2
    exact bodyPost_ret (results_none rfl _ _ _) rfl ⟨rfl, by rw [HGo.out]; exact HP.out⟩
  · rw [hsome] at HGo
    simp only at HGo
    obtain ⟨hx1, hx2⟩ := HFx.out xs hsome
    have hX1 := XRow.of_owns hrow
    have HKy := hid1 fun V (g : Below w1.heap.size w1 V) => HW1.out.w.k V g (d.rule i).kind (d.rule i).word v xs (hX1.below g) hk1 hk2 (by omega) (fun x hx => by have := hx2 x hx; omega)
    have hkl := key_le (d.rule i).kind (d.rule i).word xs hk1 hk2 (by omega) hx2
    have hA := HS1.out.at hi
    have c0 := hA.c0
    have c1 := hA.c1
    obtain ⟨pv, cap, ev⟩ := own_val hrow
    rw [ev] at HKy
    have HRow := hid1 hrow
    have HEv := hid1 ev
    clear hA HG hX1 hrow hx1 HFx
    subst ev
    generalize Kp.key (d.rule i).kind (d.rule i).word xs = key at *
    go_wp2
    go_region_held3 (fun w' => w'.cell? ⟨L.sp i, 0, none⟩ = some (.string (ba (d.rule i).kind)) ∧ w'.cell? ⟨L.sp i, 1, none⟩ = some (.string (ba (d.rule i).word))) (first | go_keep | fail)
      (first | (go_at_call 184; refine (HKy.out _ (by exact (Below.refl _ w1).drew)).mono ?_; rintro e w2 ⟨rfl, g2⟩; have e0 := cell_below' (w := w1.drew) c0 g2; have e1 := cell_below' (w := w1.drew) c1 g2) | fail)
    all_goals
      have G2 := below_then ((Below.refl _ w1).drew) g2
      have HS2 := hid1 (HS1.out.below G2)
      have HC2 := hid1 (HC1.out.below G2)
      have HW2 := hid1 (HW1.out.below G2)
      have HO2 : Hid (Only SC W w2) := hid1 (HO1.out.trans (Only.of G2) fun j hj => .inl hj)
      have HRow2 := hid1 (own_below HRow.out G2)
      have HGt := hid1 (caGet (es := es) HC2.out HCf.out key hkl)
      clear HS1 HC1 HW1 HO1 HRow HKy G2 g2 g1 e0 e1 c0 c1
      go_wp2_with fail
      refine HGt.out.mono ?_
      rintro e w3 ⟨rfl, hO3, SC3, hC3, hSC3⟩
      have hz2 := HO2.out.size
      have HS3 := hid1 (HS2.out.only hO3 HAp.out)
      have HC3 := hid1 hC3
      have HW3 := hid1 (HW2.out.only hO3 HSC.out)
      have HO3 : Hid (Only SC W w3) := hid1 (HO2.out.trans hO3 fun j hj => .inl hj)
      have HSC3 : Hid (∀ j, SC3 j → SC j ∨ W.heap.size ≤ j) := hid1 fun j hj => (hSC3 j hj).imp_right fun h => Nat.le_trans hz2 h
      have HAp3 : Hid (∀ j, SBlk d.dom L j → ¬ SC3 j) := hid1 fun j hj h => by
        rcases hSC3 j h with h1 | h1
        · exact HAp.out j hj h1
        · have := HS2.out.lt j hj
          omega
      have HFar : Hid (∀ j, some j = (Value.slice pv xs.length cap).ownBlock → ¬ SC j) := hid1 fun j hj h => by
        have h1 := HM.out
        have h2 := HC.out.lt j h
        have h3 := (own_lt HRow2.out j hj.symm).1
        omega
      have HRow3 := hid1 (own_same HRow2.out fun j hj => hO3.block j (own_lt HRow2.out j hj.symm).2 (HFar.out j hj))
      have hA3 := HS3.out.at hi
      have a0 := hA3.c0
      have a1 := hA3.c1
      have a4 := hA3.c4
      have a5 := hA3.c5
      have f4 := hA3.fr 4
      have f5 := hA3.fr 5
      rw [hwt] at a4 a5
      clear hA3 HGt HS2 HC2 HW2 HO2 HRow2 hO3 hC3 hSC3 hz2 HFar
      cases hfd : Bf.cfind c key with
      | some s =>
        rw [hfd] at HGo
        simp only at HGo
        have HP := hid1 (RunPost.done HS3.out hi hwt s true HO3.out HC3.out HSC3.out HAp3.out)
        clear HS3 HC3 HW3 HO3 HSC3 HAp3 HRow3 HFail HM HC
        go_wp2
        exact bodyPost_ret (results_none rfl _ _ _) rfl ⟨rfl, by rw [HGo.out]; exact HP.out⟩
      | none =>
        rw [hfd] at HGo
        simp only at HGo
        rw [cget_none hfd] at HC3
        have HRn := hid1 fun V (g : Below w3.heap.size w3 V) => Run_any (HW3.out.below g).w.g.s.a (d.rule i).kind (d.rule i).word (by omega) (.slice pv xs.length cap) xs (TRow.of_owns (own_below HRow3.out g)) (fun x hx => by have := hx2 x hx; omega)
        have HCd := hid1 (actFit (d.rule i).kind (d.rule i).word xs)
        clear hfd
        generalize hao : Af.actO (d.rule i).kind (d.rule i).word xs = ao at *
        obtain ⟨out, code⟩ := ao
        simp only at HGo HRn HCd
        clear hao
        go_wp2
        go_region_held3 (fun w' => w'.cell? ⟨L.sp i, 0, none⟩ = some (.string (ba (d.rule i).kind)) ∧ w'.cell? ⟨L.sp i, 1, none⟩ = some (.string (ba (d.rule i).word))) (first | go_keep | fail)
          (first | (go_at_call 35; refine (HRn.out _ (by exact (Below.refl _ w3).drew)).mono ?_; rintro e w4 ⟨rfl, g4⟩; have e0 := cell_below' (w := w3.drew) a0 g4; have e1 := cell_below' (w := w3.drew) a1 g4) | fail)
        all_goals
          have G4 := below_then ((Below.refl _ w3).drew) g4
          have HS4 := hid1 (HS3.out.below G4)
          have HC4 := hid1 (HC3.out.below G4)
          have HO4 : Hid (Only SC W w4) := hid1 (HO3.out.trans (Only.of G4) fun j hj => .inl hj)
          clear HS3 HC3 HW3 HO3 HRow3 HRn G4 g4 e0 e1 a0 a1 a4 a5 f4 f5
          by_cases hcode : code = 0
          · subst hcode
            rw [if_pos rfl] at HGo
            have hol := HCd.out.2 rfl
            have HPt := hid1 (caPut (es := es) HC4.out HCf.out key out hkl (by omega))
            rw [show erOf es 0 = Value.nilIface from rfl]
            clear HFail HCd
            go_wp2_with fail
            refine HPt.out.mono ?_
            rintro e w5 ⟨rfl, hO5, SC5, hC5, hSC5⟩
            have hz4 := HO4.out.size
            have HS5 := hid1 (HS4.out.only hO5 HAp3.out)
            have HO5 : Hid (Only SC W w5) := hid1 (HO4.out.trans hO5 HSC3.out)
            have HSC5 : Hid (∀ j, SC5 j → SC j ∨ W.heap.size ≤ j) := hid1 fun j hj => by
              rcases hSC5 j hj with h1 | h1
              · exact HSC3.out j h1
              · exact .inr (by omega)
            have HAp5 : Hid (∀ j, SBlk d.dom L j → ¬ SC5 j) := hid1 fun j hj h => by
              rcases hSC5 j h with h1 | h1
              · exact HAp3.out j hj h1
              · have := HS4.out.lt j hj
                omega
            have hA5 := HS5.out.at hi
            have a4 := hA5.c4
            have a5 := hA5.c5
            have f4 := hA5.fr 4
            have f5 := hA5.fr 5
            rw [hwt] at a4 a5
            have HP := hid1 (RunPost.done HS5.out hi hwt out false HO5.out hC5 HSC5.out HAp5.out)
            clear hA5 HPt HS5 HO5 HSC5 HAp5 HS4 HC4 HO4 hO5 hC5 hSC5 HM HC HSC3 HAp3
            go_wp2
            go_end0
            exact ⟨rfl, by rw [HGo.out]; exact HP.out⟩
          · rw [if_neg hcode] at HGo
            have HF4 := hid1 (HFail.out w4 HS4.out code)
            rcases erOf_iface es code with ⟨e9, -⟩ | ⟨t9, x9, e9⟩
            · exact absurd e9 hcode
            · rw [e9] at HF4 ⊢
              clear HFail e9 HCd
              go_wp2_with fail
              refine HF4.out.mono ?_
              rintro e w5 ⟨rfl, st', hS5, hL5, hO5⟩
              have HP := hid1 (RunPost.fails HM.out.inv HM.out.us HR.out hS5 hL5 HO4.out HC4.out HSC3.out HAp3.out hO5)
              clear HF4 hS5 hL5 hO5
              go_wp2
              exact bodyPost_ret (results_none rfl _ _ _) rfl ⟨rfl, by rw [HGo.out]; exact HP.out⟩
end Go.Proofs.YtbgkfmodbofalaaGreatDoor
namespace Go.Proofs.YtbgkfmodbofalaaGreatDoor
open Go.RowKit Go.Shelf Go.Lib
namespace Bf
theorem run_cases (act : Act) (c : Ca) (d : Bd) (i : Int) : (∃ k : Nat, i = k ∧ k < d.l.length ∧ d.isReady k = true ∧ run act c d i = go act c d k) ∨ ∃ e, e ≠ 0 ∧ run act c d i = ⟨false, e, d, c⟩ := by
  unfold run
  by_cases h : i < 0 ∨ (d.l.length : Int) ≤ i
  · rw [if_pos h]
    exact .inr ⟨6, by omega, rfl⟩
  · rw [if_neg h]
    unfold runN
    split
    · exact .inr ⟨6, by omega, rfl⟩
    · split
      · exact .inr ⟨12, by omega, rfl⟩
      · split
        · exact .inr ⟨11, by omega, rfl⟩
        · rename_i h3
          exact .inl ⟨i.toNat, by omega, by omega, by simpa using h3, rfl⟩
theorem go_none (act : Act) (d : Bd) (i : Nat) : (go act none d i).c = none := by
  have := go_some act none d i
  cases h : (go act none d i).c with
  | none => rfl
  | some x => rw [h] at this; cases this
theorem init_all {fs : Tf.Fs} {l : List Ru} (k : Nat) : (init fs l (l.map Ru.out)).st k = if k < l.length then .waits else .no := by
  have hN : Ru.Needed l (l.map Ru.out) (fun k => decide (k < l.length)) := by
    refine ⟨fun k hb => ?_, fun i k _ hn => ?_, fun P h1 _ k hk _ => h1 k ?_⟩
    · unfold Ru.base at hb
      split at hb
      · rename_i r hr
        simpa using (List.getElem?_eq_some_iff.1 hr).1
      · cases hb
    · simpa using (Ru.needs_lt hn).2
    · unfold Ru.base
      rw [List.getElem?_eq_getElem hk]
      simp only [decide_eq_true_eq]
      exact List.mem_map.2 ⟨_, List.getElem_mem hk, rfl⟩
  show (if need l (l.map Ru.out) k = true then St.waits else .no) = _
  by_cases hk : k < l.length
  · rw [if_pos hk, need_eq hN hk, if_pos (by simpa using hk)]
  · rw [if_neg hk, need_out (by omega)]
    rfl
theorem need_all {l : List Ru} {k : Nat} (hk : k < l.length) : need l (l.map Ru.out) k = true := by
  have := init_all (fs := []) (l := l) k
  rw [if_pos hk] at this
  have h2 : (if need l (l.map Ru.out) k = true then St.waits else .no) = .waits := this
  cases h : need l (l.map Ru.out) k with
  | true => rfl
  | false => rw [h] at h2; cases h2
theorem many_none {st : Nat → St} {p : St → Bool} : ∀ {n : Nat}, (∀ k, k < n → p (st k) = false) → many st p n = 0
  | 0, _ => rfl
  | n + 1, h => by
    unfold many
    rw [many_none fun k hk => h k (by omega), h n (by omega)]
    rfl
theorem rank_order {l : List Ru} {o : List Nat} (h : Ru.order l (need l (l.map Ru.out)) = some o) (i k : Nat) (hn : Ru.needs l i k = true) : o.idxOf k < o.idxOf i := by
  obtain ⟨ht, hall⟩ := Ru.order_some h
  have hi := hall i (Ru.needs_lt hn).1 (need_all (Ru.needs_lt hn).1)
  have hlt := List.idxOf_lt_length_of_mem hi
  have hg : o[o.idxOf i] = i := List.getElem_idxOf hlt
  have hm := ht _ hlt k (by rw [hg]; exact hn)
  obtain ⟨j, hj, e⟩ := List.mem_take_iff_getElem.1 hm
  have h1 : o.idxOf k ≤ j := by
    refine Nat.le_of_not_lt fun h2 => ?_
    have := List.not_of_lt_findIdx (p := (· == k)) (xs := o) h2
    rw [e] at this
    simp at this
  omega
theorem init_fit {fs : Tf.Fs} {l : List Ru} {outs : List (List UInt8)} (h : ∀ f ∈ fs, f.2.length ≤ 2000) : Fit (init fs l outs) := by
  have key : ∀ k, (init fs l outs).st k = .waits ∨ (init fs l outs).st k = .no := fun k => by
    show (if need l outs k = true then St.waits else .no) = .waits ∨ (if need l outs k = true then St.waits else .no) = .no
    split
    · exact .inl rfl
    · exact .inr rfl
  refine ⟨h, fun k => ?_, fun k => ?_⟩
  · rcases key k with e | e <;> rw [e] <;> simp [St.out]
  · rcases key k with e | e <;> rw [e] <;> simp [St.why]
theorem Good.ends {d : Bd} (h : Good d) (hw : d.waits = 0) {k : Nat} (hk : k < d.l.length) : ((d.st k).isDone = true ∨ (d.st k).isFailed = true ∨ (d.st k).isLeft = true) ∧ (d.st k).ran = !(d.st k).isLeft := by
  have h1 := h.needed k hk
  have h2 := many_zero hw k hk
  cases hs : d.st k with
  | no => rw [hs] at h1; cases h1
  | waits => rw [hs] at h2; cases h2
  | done s b => exact ⟨.inl rfl, rfl⟩
  | failed c => exact ⟨.inr (.inl rfl), rfl⟩
  | left => exact ⟨.inr (.inr rfl), rfl⟩
end Bf
def ZRow (w : World) (v : Value) (l : List Int) : Prop :=
  ∃ p cap, v = .slice p l.length cap ∧ (l ≠ [] → ∃ g o, p = some ⟨g, o, none⟩ ∧ g < w.heap.size ∧ ∀ j (hj : j < l.length), w.cell? ⟨g, o + j, none⟩ = some (.int .i64 l[j]))
structure OnW (es : Nat → Addr) (BAt : (Nat → Prop) → World → Value → Value → Bf.Bd → Prop) (W0 : World) (l : List Ru) (pb : Addr) (gr : Nat) (d : Bf.Bd) (S : Nat → Prop) (wr : World) : Prop where
  bat : BAt S wr (.pointer (some pb)) (.pointer none) d
  low : ∀ j, S j → W0.heap.size ≤ j
  far : ¬ S gr
  own : Own wr 0 gr l.length (fun k => (d.st k).ran)
  base : Below W0.heap.size W0 wr
  lgr : W0.heap.size ≤ gr
  good : Bf.Good d
  fit : Bf.Fit d
  l : d.l = l
theorem OnW.below {es : Nat → Addr} {act : Bf.Act} {At : (Nat → Prop) → World → Value → Nat → Cf.Ens → Prop} {BAt : (Nat → Prop) → World → Value → Value → Bf.Bd → Prop} (HB : Builds es act At BAt) {W0 : World} {l : List Ru} {pb : Addr} {gr : Nat} {d : Bf.Bd} {S : Nat → Prop} {wr w' : World} (h : OnW es BAt W0 l pb gr d S wr) (hb : Below wr.heap.size wr w') : OnW es BAt W0 l pb gr d S w' :=
  ⟨HB.same _ _ _ _ _ _ h.bat hb.size fun k hk => hb.block k (HB.lt _ _ _ _ _ h.bat k hk), h.low, h.far, h.own.below hb, below_then h.base hb, h.lgr, h.good, h.fit, h.l⟩
theorem OnW.still {es : Nat → Addr} {act : Bf.Act} {At : (Nat → Prop) → World → Value → Nat → Cf.Ens → Prop} {BAt : (Nat → Prop) → World → Value → Value → Bf.Bd → Prop} (_ : Builds es act At BAt) {W0 : World} {l : List Ru} {pb : Addr} {gr : Nat} {d : Bf.Bd} {S S' : Nat → Prop} {wr w' : World} (h : OnW es BAt W0 l pb gr d S wr) (hO : Only (fun j => S j ∨ False) wr w') (hB' : BAt S' w' (.pointer (some pb)) (.pointer none) d) (hS : ∀ j, S' j → S j ∨ wr.heap.size ≤ j) : OnW es BAt W0 l pb gr d S' w' := by
  have hgl := h.own.lt.1
  have hblk : w'.heap[gr]? = wr.heap[gr]? := hO.block gr hgl fun e => e.elim h.far id
  refine ⟨hB', fun j hj => ?_, fun e => ?_, own_same h.own fun j hj => ?_, h.base.trans (hO.below (fun j hj => hj.elim (h.low j) False.elim) h.base.size), h.lgr, h.good, h.fit, h.l⟩
  · rcases hS j hj with h1 | h1
    · exact h.low j h1
    · have := h.base.size
      omega
  · rcases hS gr e with h1 | h1
    · exact h.far h1
    · omega
  · have : j = gr := by simpa [Value.ownBlock] using hj
    rw [this]
    exact hblk
theorem OnW.ran {es : Nat → Addr} {act : Bf.Act} {At : (Nat → Prop) → World → Value → Nat → Cf.Ens → Prop} {BAt : (Nat → Prop) → World → Value → Value → Bf.Bd → Prop} (HB : Builds es act At BAt) (HA : Bf.ActFit act) {W0 : World} {l : List Ru} {pb : Addr} {gr : Nat} {d : Bf.Bd} {S S' : Nat → Prop} {wr w' : World} (h : OnW es BAt W0 l pb gr d S wr) {k : Nat} (hk : k < l.length) (hr : d.isReady k = true) (hO : Only (fun j => S j ∨ False) wr w') (hB' : BAt S' w' (.pointer (some pb)) (.pointer none) (Bf.go act none d k).d) (hS : ∀ j, S' j → S j ∨ wr.heap.size ≤ j) :
    w'.cell? ⟨gr, k, none⟩ = some (.bool false) ∧ w'.frozen? ⟨gr, k, none⟩ = false ∧ gr < w'.heap.size ∧ OnW es BAt W0 l pb gr (Bf.go act none d k).d S' (w'.setCell ⟨gr, k, none⟩ (.bool true)) := by
  have hgl := h.own.lt.1
  have hz := hO.size
  have hblk : w'.heap[gr]? = wr.heap[gr]? := hO.block gr hgl fun e => e.elim h.far id
  have hown : Own w' 0 gr l.length (fun k => (d.st k).ran) := own_same h.own fun j hj => by
    have : j = gr := by simpa [Value.ownBlock] using hj
    rw [this]
    exact hblk
  have hw := Bf.ready_waits hr
  have hc := hown.cell hk
  simp only [hw] at hc
  obtain ⟨cur, hrow⟩ := own_in (j := gr) hown rfl
  have hne : ∀ j, S' j → j ≠ gr := fun j hj e => by
    subst e
    rcases hS j hj with h1 | h1
    · exact h.far h1
    · omega
  have hkd : k < d.l.length := by rw [h.l]; exact hk
  refine ⟨hc, by simp [World.frozen?, hrow], by omega, HB.same _ _ _ _ _ _ hB' (by simp) fun j hj => Below.heap_setCell w' _ _ j (hne j hj), fun j hj => ?_, fun e => hne gr e rfl, hown.set k true fun j hj => ?_, ?_, h.lgr, h.good.go act none hr, (Bf.go_fit HA (c := none) trivial h.fit k).1, (Bf.go_less act none d k hkd hr).2.1.trans h.l⟩
  · rcases hS j hj with h1 | h1
    · exact h.low j h1
    · have := h.base.size
      omega
  · rw [Bf.go_ran act none d hr j]
  · exact (h.base.trans (hO.below (fun j hj => hj.elim (h.low j) False.elim) h.base.size)).setCell (p := ⟨gr, k, none⟩) h.lgr _
end Go.Proofs.YtbgkfmodbofalaaGreatDoor
namespace Go.Proofs.YtbgkfmodbofalaaGreatDoor
namespace Bf
theorem allF_keeps {act : Act} (ha : ActFit act) : ∀ (f : Nat) (c : Ca) (d : Bd), Fit d → CFit c → (allF act f c d).1.l = d.l ∧ (allF act f c d).1.fs = d.fs ∧ Fit (allF act f c d).1 ∧ CFit (allF act f c d).2
  | 0, c, d, h1, h2 => ⟨rfl, rfl, h1, h2⟩
  | f + 1, c, d, h1, h2 => by
    unfold allF
    cases hq : d.ready with
    | nil => exact ⟨rfl, rfl, h1, h2⟩
    | cons i q =>
      have hm := mem_ready.1 (show i ∈ d.ready by rw [hq]; simp)
      have hl := go_less act c d i hm.1 hm.2
      have hg := go_fit ha h2 h1 i
      obtain ⟨a1, a2, a3, a4⟩ := allF_keeps ha f (go act c d i).c (go act c d i).d hg.1 hg.2
      exact ⟨a1.trans hl.2.1, a2.trans hl.2.2, a3, a4⟩
end Bf
end Go.Proofs.YtbgkfmodbofalaaGreatDoor
namespace Go.Proofs.YtbgkfmodbofalaaGreatDoor
open Go.RowKit Go.Shelf Go.Lib Go.Maps
open Tf (Fs)
structure TErr (w : World) (es : Nat → Value) : Prop where
  bound : w.cell? ⟨4, 0, none⟩ = some (es 2)
  shape : w.cell? ⟨1, 0, none⟩ = some (es 3)
  name : w.cell? ⟨7, 0, none⟩ = some (es 4)
  none6 : w.cell? ⟨2, 0, none⟩ = some (es 6)
  exist : w.cell? ⟨9, 0, none⟩ = some (es 7)
  full : w.cell? ⟨10, 0, none⟩ = some (es 8)
  faces : ∀ k, ∃ t u, es (k + 1) = .iface t u
  nil : es 0 = .nilIface
theorem TErr.below {w w' : World} {es : Nat → Value} (h : TErr w es) (hb : Below w.heap.size w w') : TErr w' es :=
  ⟨cell_below' h.bound hb, cell_below' h.shape hb, cell_below' h.name hb, cell_below' h.none6 hb, cell_below' h.exist hb, cell_below' h.full hb, h.faces, h.nil⟩
def Clear (fs : Fs) (p : List UInt8) (left : Lit → Bool) : Prop := ∀ f ∈ fs, left (.string f.1) = false → (Tf.above f.1 p || Tf.above p f.1) = false
theorem Clear.start (fs : Fs) (p : List UInt8) : Clear fs p (Maps.has (Tf.datum fs)) := by
  intro f hf h
  rw [Tf.datum_has] at h
  have : Tf.hasP fs f.1 = true := List.any_eq_true.2 ⟨f, hf, by simp⟩
  rw [this] at h
  cases h
theorem Clear.step {fs : Fs} {p x : List UInt8} {left : Lit → Bool} (h : Clear fs p left) (hx : (Tf.above x p || Tf.above p x) = false) : Clear fs p (fun z => left z && !z.sameKey (.string x)) := by
  intro f hf hl
  by_cases e : f.1 = x
  · rw [e]; exact hx
  · refine h f hf ?_
    have : (Lit.string f.1).sameKey (.string x) = false := by simp [Lit.sameKey, e]
    simpa [this] using hl
theorem Clear.done {fs : Fs} {p : List UInt8} {left : Lit → Bool} (h : Clear fs p left) (hl : ∀ kl, left kl = false) : Tf.clash fs p = false := by
  unfold Tf.clash
  rw [List.any_eq_false]
  intro f hf
  have := h f hf (hl _)
  simpa using this
end Go.Proofs.YtbgkfmodbofalaaGreatDoor
namespace Go.Proofs.YtbgkfmodbofalaaGreatDoor
open Go.RowKit Go.Shelf Go.Lib Go.Maps
open Tf (Fs)
theorem below_turned {B : Nat} {a w w' : World} {bm : Nat} (h : Below B a w) (hsz : B ≤ w.heap.size) (hB : B ≤ bm) (ht : w.mapTurned w' bm) : Below B a w' :=
  h.grown ht.grown hsz (fun j e => by cases e; exact hB)
end Go.Proofs.YtbgkfmodbofalaaGreatDoor
namespace Go.Proofs.YtbgkfmodbofalaaGreatDoor
open Go.RowKit Go.Shelf Go.Lib Go.Maps
open Tf (Fs)
def entCells (es : Fs) : List Value := es.flatMap fun e => [.string (ba e.1), .string (ba e.2)]
theorem entCells_at : ∀ (es : Fs) (j : Nat) (hj : j < es.length), (entCells es)[j * 2]? = some (.string (ba es[j].1)) ∧ (entCells es)[j * 2 + 1]? = some (.string (ba es[j].2))
  | e :: r, 0, _ => by simp [entCells]
  | e :: r, j + 1, hj => by
    have := entCells_at r j (by simpa using hj)
    have e1 : entCells (e :: r) = .string (ba e.1) :: .string (ba e.2) :: entCells r := by simp [entCells]
    rw [e1, show (j + 1) * 2 = j * 2 + 1 + 1 by omega]
    simpa using this
theorem ownsRow_below {w w' : World} {base : Nat} {e : TypeId} {size : Nat} {v : Value} {n : Nat} {xs : List Value} (h : w.ownsRow base e size v n xs) (hb : Below w.heap.size w w') : w'.ownsRow base e size v n xs := by
  obtain ⟨h0, h1⟩ := h
  refine ⟨h0, h1.imp id ?_⟩
  rintro ⟨g, cap, cur, e1, e2, e3, e4⟩
  exact ⟨g, cap, cur, e1, e2, (hb.block g (Array.getElem?_eq_some_iff.1 e3).1).trans e3, e4⟩
end Go.Proofs.YtbgkfmodbofalaaGreatDoor
namespace Go.Proofs.YtbgkfmodbofalaaGreatDoor
open Go.RowKit Go.Shelf Go.Lib Go.Maps
open Tf (Fs)
structure RTreeAt (B : Nat) (w : World) (tb : Nat) (fs : Fs) (v : Value) : Prop where
  low : B ≤ tb
  cell : w.cell? ⟨tb, 0, none⟩ = some v
  free : w.frozen? ⟨tb, 0, none⟩ = false
  row : w.ownsRow B 51 2 v fs.length (entCells fs)
  apart : v.ownBlock ≠ some tb
  nil : fs = [] → v = .slice none 0 0
theorem RTreeAt.lt {B : Nat} {w : World} {tb : Nat} {fs : Fs} {v : Value} (h : RTreeAt B w tb fs v) : tb < w.heap.size := lt_of_cell h.cell
theorem RTreeAt.below {B : Nat} {w w' : World} {tb : Nat} {fs : Fs} {v : Value} (h : RTreeAt B w tb fs v) (hb : Below w.heap.size w w') : RTreeAt B w' tb fs v :=
  ⟨h.low, (hb.cell (p := ⟨tb, 0, none⟩) h.lt).trans h.cell, (hb.frozen (p := ⟨tb, 0, none⟩) h.lt).trans h.free, ownsRow_below h.row hb, h.apart, h.nil⟩
def FRow (w : World) (v : Value) (es : Fs) : Prop :=
  ∃ p cap, v = .slice p es.length cap ∧ es.length ≤ cap ∧ (es ≠ [] → ∃ g cur, p = some ⟨g, 0, none⟩ ∧ w.heap[g]? = some (.cells cur 51 (0, 0)) ∧ ∀ j (hj : j < es.length), cur[j * 2]? = some (.string (ba es[j].1)) ∧ cur[j * 2 + 1]? = some (.string (ba es[j].2)))
theorem FRow.of_owns {w : World} {base : Nat} {v : Value} {es : Fs} (h : w.ownsRow base 51 2 v es.length (entCells es)) : FRow w v es := by
  rcases h.2 with ⟨rfl, hn⟩ | ⟨g, cap, cur, rfl, _, hb, h1, _, _, h4⟩
  · obtain rfl : es = [] := by simpa using hn
    exact ⟨none, 0, rfl, Nat.le_refl _, fun h => absurd rfl h⟩
  · refine ⟨_, cap, rfl, h1, fun _ => ⟨g, cur, rfl, hb, fun j hj => ?_⟩⟩
    obtain ⟨h5, h6⟩ := entCells_at es j hj
    rw [← h4, List.getElem?_take, if_pos (by omega), Array.getElem?_toList] at h5 h6
    exact ⟨h5, h6⟩
end Go.Proofs.YtbgkfmodbofalaaGreatDoor
