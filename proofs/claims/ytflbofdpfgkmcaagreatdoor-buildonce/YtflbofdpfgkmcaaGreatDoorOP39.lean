import Derived.Test.YtflbofdpfgkmcaaGreatDoorOP38
import Derived.Deep.RegionHeld3
namespace Go.Proofs.YtflbofdpfgkmcaaGreatDoor
open Go.RowKit Go.Shelf Go.Lib Go.Maps
theorem Steps.only {W W' : World} {es : Nat → Addr} {dom : Nat → Prop} {L : Lay} {ru : Nat → Ru} {ins : Nat → List Inp} {st : Nat → Bf.St} {S : Nat → Prop} (h : Steps W es dom L ru ins st) (ho : Only S W W') (hS : ∀ j, SBlk dom L j → ¬ S j) : Steps W' es dom L ru ins st := h.same fun j hj => ho.block j (h.lt j hj) (hS j hj)
theorem actFit : Bf.ActFit Af.actO := fun k w xs => by
  unfold Af.actO
  split
  · split
    · split
      · exact ⟨by simp, fun h => by cases h⟩
      · rename_i h
        exact ⟨by simp, fun _ => by simpa using h⟩
    · exact ⟨by simp, fun h => by cases h⟩
  · rename_i h
    refine ⟨?_, fun e => absurd e h⟩
    show Af.actE k w xs.length ≤ 12
    unfold Af.actE
    split
    · omega
    · split
      · omega
      · split <;> omega
theorem Steps.dones {W : World} {es : Nat → Addr} {dom : Nat → Prop} {L : Lay} {ru : Nat → Ru} {ins : Nat → List Inp} {st : Nat → Bf.St} (h : Steps W es dom L ru ins st) {u : Nat} (hu : dom u) (hw : st u = .waits) (s : List UInt8) (b : Bool) : Steps ((W.setCell ⟨L.sp u, 4, none⟩ (.int .i64 (if b then 2 else 1))).setCell ⟨L.sp u, 5, none⟩ (.string (ba s))) es dom L ru ins (Bf.setS st u (.done s b)) := by
  refine h.turn hu (.done s b) ?_ fun j hj _ => ?_
  · have r1 := heap_setCell_same W (L.sp u) 4 _ _ (.int .i64 (if b then 2 else 1)) (h.step u hu)
    rw [heap_setCell_same _ _ _ _ _ _ r1, hw]
    cases b <;> rfl
  · rw [Below.heap_setCell _ _ _ j hj, Below.heap_setCell _ _ _ j hj]
theorem RunPost.done {es : Nat → Addr} {L : Lay} {d : Bf.Bd} {c' : Bf.Ca} {SC SC' : Nat → Prop} {W w3 : World} {cv : Value} {i : Nat} (hS : Steps w3 es d.dom L d.rule (insOf d) d.st) (hi : d.dom i) (hw : d.st i = .waits) (s : List UInt8) (b : Bool) (hO : Only SC W w3) (hC : CaAt CAt SC' w3 cv c') (hSC : ∀ j, SC' j → SC j ∨ W.heap.size ≤ j) (hap : ∀ j, SBlk d.dom L j → ¬ SC' j) :
    RunPost es L d (d.set i (.done s b)) c' SC W cv ((w3.setCell ⟨L.sp i, 4, none⟩ (.int .i64 (if b then 2 else 1))).setCell ⟨L.sp i, 5, none⟩ (.string (ba s))) := by
  have hp : PBlk d.dom L (L.sp i) := ⟨i, hi, rfl⟩
  have o1 : Only (fun j => PBlk d.dom L j ∨ SC j) w3 ((w3.setCell ⟨L.sp i, 4, none⟩ (.int .i64 (if b then 2 else 1))).setCell ⟨L.sp i, 5, none⟩ (.string (ba s))) := (Only.setCell _ _ (.inl hp)).trans (Only.setCell _ _ (.inl hp)) fun j hj => .inl hj
  have o0 : Only (fun j => PBlk d.dom L j ∨ SC j) W w3 := ⟨hO.os, hO.tape, hO.output, hO.size, fun j hj hn => hO.block j hj fun h => hn (.inr h)⟩
  refine ⟨hS.dones hi hw s b, o0.trans o1 fun j hj => .inl hj, SC', hC.same (by simp) fun k hk => ?_, hSC⟩
  have hne : k ≠ L.sp i := fun e => hap k (by rw [e]; exact hp.s) hk
  rw [Below.heap_setCell _ _ _ k hne, Below.heap_setCell _ _ _ k hne]
theorem RunPost.fails {es : Nat → Addr} {L : Lay} {d : Bf.Bd} {c : Bf.Ca} {SC SC' : Nat → Prop} {W w1 w2 : World} {cv : Value} {i : Nat} {st' : Nat → Bf.St} {e : Nat} (hI : Bf.Inv d) (hU : Bf.UsOk d L.us) (hr : d.isReady i = true) (hS : Steps w2 es d.dom L d.rule (insOf d) st') (hL : Bf.Leave L.us i (L.us i) (Bf.setS d.st i (.failed e)) st') (hO : Only SC W w1) (hC : CaAt CAt SC' w1 cv c) (hSC : ∀ j, SC' j → SC j ∨ W.heap.size ≤ j) (hap : ∀ j, SBlk d.dom L j → ¬ SC' j) (hO2 : Only (PBlk d.dom L) w1 w2) :
    RunPost es L d (d.fail i e) c SC W cv w2 := by
  have o0 : Only (fun j => PBlk d.dom L j ∨ SC j) W w1 := ⟨hO.os, hO.tape, hO.output, hO.size, fun j hj hn => hO.block j hj fun h => hn (.inr h)⟩
  refine ⟨hS.congr fun k hk => (hL.spread hI hU hr k (Bf.Bd.dom_no hk)).symm, o0.trans hO2 fun j hj => .inl (.inl hj), SC', hC.same hO2.size fun k hk => hO2.block k (hC.lt k hk) fun h => hap k h.s hk, hSC⟩
set_option maxRecDepth 100000 in
set_option maxHeartbeats 16000000 in
theorem strun_calls {es : Nat → Addr} {W : World} {bb bm n B : Nat} {L : Lay} {cv : Value} {d : Bf.Bd} {c : Bf.Ca} {SC : Nat → Prop} {i : Nat} (hM : BuM es W bb bm n L cv d) (hi : d.dom i) (hr : d.isReady i = true) (hC : CaAt CAt SC W cv c) (hap : ∀ j, SBlk d.dom L j → ¬ SC j) (hW : BuildB B W es) (hSC : ∀ j, SC j → B ≤ j) (hfit : Bf.Fit d) (hcf : Bf.CFit c) (hk1 : (d.rule i).kind.length ≤ 200) (hk2 : (d.rule i).word.length ≤ 200) (hk3 : (d.rule i).ins.length ≤ 12) :
    Calls Tryz.prog 112 #[Ptr (L.sp i), cv] W fun e w' => e = .returned (.tuple #[]) ∧ RunPost es L d (Bf.go Af.actO c d i).d (Bf.go Af.actO c d i).c SC W cv w' := by
  have HG := hid1 (stgather_calls hM.steps i hi (hM.few i hi))
  rw [gat_insOf] at HG
  have hwt := Bf.ready_waits hr
  have HM := hid1 hM
  have HR := hid1 hr
  have HC := hid1 hC
  have HAp := hid1 hap
  have HW := hid1 hW
  have HSC := hid1 hSC
  have HUp : Hid (∀ e k, Bf.Up L.us i k → Bf.setS d.st i (.failed e) k = .waits ∨ Bf.setS d.st i (.failed e) k = .left) := hid1 fun e k hk => by
    have h1 := hM.inv.up hM.us hwt hk
    by_cases ek : k = i
    · subst ek
      exfalso
      have : ∃ j, (d.st j).isDone = false ∧ Ru.needs d.l k j = true := by
        cases hk with
        | one h2 => exact ⟨k, by rw [hwt]; rfl, ((hM.us k (by rw [hwt]; rfl) k).1 h2).2⟩
        | @more j _ hj h2 =>
          have h0 := hM.inv.up hM.us hwt hj
          exact ⟨j, by rcases h0.2 with e | e <;> rw [e] <;> rfl, ((hM.us j h0.1 k).1 h2).2⟩
      obtain ⟨j, h2, h3⟩ := this
      rw [Bf.ready_free hr (Ru.needs_lt h3).2 h3] at h2
      cases h2
    · rw [Bf.setS_other ek]
      exact h1.2
  have HFail := hid1 fun (V : World) (hS : Steps V es d.dom L d.rule (insOf d) d.st) (e : Nat) => stfail_calls (fun k hk => hM.lo hk) hM.usl hS hi hwt e (HUp.out e)
  have HFx := hid1 fun xs (hx : d.ins i = some xs) => hfit.ins hx
  have HCf := hid1 hcf
  obtain ⟨oc, rfl⟩ := hC.ptr
  have HGo : Hid (Bf.go Af.actO c d i = match d.ins i with
      | none => ⟨false, 0, d.fail i 6, c⟩
      | some xs =>
        match Bf.cfind c (Kp.key (d.rule i).kind (d.rule i).word xs) with
        | some s => ⟨true, 0, d.set i (.done s true), Bf.cget c (Kp.key (d.rule i).kind (d.rule i).word xs)⟩
        | none =>
          if (Af.actO (d.rule i).kind (d.rule i).word xs).2 = 0 then ⟨false, 0, d.set i (.done (Af.actO (d.rule i).kind (d.rule i).word xs).1 false), Bf.cput c (Kp.key (d.rule i).kind (d.rule i).word xs) (Af.actO (d.rule i).kind (d.rule i).word xs).1⟩
          else ⟨false, 0, d.fail i (Af.actO (d.rule i).kind (d.rule i).word xs).2, c⟩) := hid1 rfl
  generalize Bf.go Af.actO c d i = G at *
  clear hM hC hap hW hSC hr hfit hcf HUp
  go_enter Tryz.func112, Tryz.ntmps112
  go_wp2_with fail
  refine HG.out.mono ?_
  rintro e w1 ⟨g1, hg⟩
  have HS1 := hid1 (HM.out.steps.below g1)
  have HC1 := hid1 (HC.out.below g1)
  have HW1 := hid1 (HW.out.below g1)
  have HO1 : Hid (Only SC W w1) := hid1 (Only.of g1)
  rcases hg with ⟨hnone, rfl⟩ | ⟨xs, v, hsome, rfl, hrow⟩
  · rw [hnone] at HGo
    simp only at HGo
    have HF1 := hid1 (HFail.out w1 HS1.out 6)
    have cN := HW1.out.w.none
    clear HFail HG hnone g1
    go_wp2_with fail
    refine HF1.out.mono ?_
    rintro e w2 ⟨rfl, st', hS2, hL2, hO2⟩
    have HP := hid1 (RunPost.fails HM.out.inv HM.out.us HR.out hS2 hL2 HO1.out HC1.out (fun j hj => .inl hj) HAp.out hO2)
    clear HF1 hS2 hL2 hO2
    go_wp2
    exact bodyPost_ret (results_none rfl _ _ _) rfl ⟨rfl, by rw [HGo.out]; exact HP.out⟩
  · rw [hsome] at HGo
    simp only at HGo
    obtain ⟨hx1, hx2⟩ := HFx.out xs hsome
    have hX1 := XRow.of_owns hrow
    have HKy := hid1 fun V (g : Below w1.heap.size w1 V) => HW1.out.w.k V g (d.rule i).kind (d.rule i).word v xs (hX1.below g) hk1 hk2 (by omega) (fun x hx => by have := hx2 x hx; omega)
    have hkl := key_le (d.rule i).kind (d.rule i).word xs hk1 hk2 (by omega) hx2
    have hA := HS1.out.at hi
    have c0 := hA.c0
    have c1 := hA.c1
    obtain ⟨pv, cap, ev⟩ := own_val hrow
    rw [ev] at HKy
    have HRow := hid1 hrow
    have HEv := hid1 ev
    clear hA HG hX1 hrow hx1 HFx
    subst ev
    generalize Kp.key (d.rule i).kind (d.rule i).word xs = key at *
    go_wp2
    go_region_held3 (fun w' => w'.cell? ⟨L.sp i, 0, none⟩ = some (.string (ba (d.rule i).kind)) ∧ w'.cell? ⟨L.sp i, 1, none⟩ = some (.string (ba (d.rule i).word))) (first | go_keep | fail)
      (first | (go_at_call 161; refine (HKy.out _ (by exact (Below.refl _ w1).drew)).mono ?_; rintro e w2 ⟨rfl, g2⟩; have e0 := cell_below' (w := w1.drew) c0 g2; have e1 := cell_below' (w := w1.drew) c1 g2) | fail)
    all_goals
      have G2 := below_then ((Below.refl _ w1).drew) g2
      have HS2 := hid1 (HS1.out.below G2)
      have HC2 := hid1 (HC1.out.below G2)
      have HW2 := hid1 (HW1.out.below G2)
      have HO2 : Hid (Only SC W w2) := hid1 (HO1.out.trans (Only.of G2) fun j hj => .inl hj)
      have HRow2 := hid1 (own_below HRow.out G2)
      have HGt := hid1 (caGet (es := es) HC2.out HCf.out key hkl)
      clear HS1 HC1 HW1 HO1 HRow HKy G2 g2 g1 e0 e1 c0 c1
      go_wp2_with fail
      refine HGt.out.mono ?_
      rintro e w3 ⟨rfl, hO3, SC3, hC3, hSC3⟩
      have hz2 := HO2.out.size
      have HS3 := hid1 (HS2.out.only hO3 HAp.out)
      have HC3 := hid1 hC3
      have HW3 := hid1 (HW2.out.only hO3 HSC.out)
      have HO3 : Hid (Only SC W w3) := hid1 (HO2.out.trans hO3 fun j hj => .inl hj)
      have HSC3 : Hid (∀ j, SC3 j → SC j ∨ W.heap.size ≤ j) := hid1 fun j hj => (hSC3 j hj).imp_right fun h => Nat.le_trans hz2 h
      have HAp3 : Hid (∀ j, SBlk d.dom L j → ¬ SC3 j) := hid1 fun j hj h => by
        rcases hSC3 j h with h1 | h1
        · exact HAp.out j hj h1
        · have := HS2.out.lt j hj
          omega
      have HFar : Hid (∀ j, some j = (Value.slice pv xs.length cap).ownBlock → ¬ SC j) := hid1 fun j hj h => by
        have h1 := HM.out
        have h2 := HC.out.lt j h
        have h3 := (own_lt HRow2.out j hj.symm).1
        omega
      have HRow3 := hid1 (own_same HRow2.out fun j hj => hO3.block j (own_lt HRow2.out j hj.symm).2 (HFar.out j hj))
      have hA3 := HS3.out.at hi
      have a0 := hA3.c0
      have a1 := hA3.c1
      have a4 := hA3.c4
      have a5 := hA3.c5
      have f4 := hA3.fr 4
      have f5 := hA3.fr 5
      rw [hwt] at a4 a5
      clear hA3 HGt HS2 HC2 HW2 HO2 HRow2 hO3 hC3 hSC3 hz2 HFar
      cases hfd : Bf.cfind c key with
      | some s =>
        rw [hfd] at HGo
        simp only at HGo
        have HP := hid1 (RunPost.done HS3.out hi hwt s true HO3.out HC3.out HSC3.out HAp3.out)
        clear HS3 HC3 HW3 HO3 HSC3 HAp3 HRow3 HFail HM HC
        go_wp2
        exact bodyPost_ret (results_none rfl _ _ _) rfl ⟨rfl, by rw [HGo.out]; exact HP.out⟩
      | none =>
        rw [hfd] at HGo
        simp only at HGo
        rw [cget_none hfd] at HC3
        have HRn := hid1 fun V (g : Below w3.heap.size w3 V) => Run_any (HW3.out.below g).w.g.s.a (d.rule i).kind (d.rule i).word (by omega) (.slice pv xs.length cap) xs (TRow.of_owns (own_below HRow3.out g)) (fun x hx => by have := hx2 x hx; omega)
        have HCd := hid1 (actFit (d.rule i).kind (d.rule i).word xs)
        clear hfd
        generalize hao : Af.actO (d.rule i).kind (d.rule i).word xs = ao at *
        obtain ⟨out, code⟩ := ao
        simp only at HGo HRn HCd
        clear hao
        go_wp2
        go_region_held3 (fun w' => w'.cell? ⟨L.sp i, 0, none⟩ = some (.string (ba (d.rule i).kind)) ∧ w'.cell? ⟨L.sp i, 1, none⟩ = some (.string (ba (d.rule i).word))) (first | go_keep | fail)
          (first | (go_at_call 30; refine (HRn.out _ (by exact (Below.refl _ w3).drew)).mono ?_; rintro e w4 ⟨rfl, g4⟩; have e0 := cell_below' (w := w3.drew) a0 g4; have e1 := cell_below' (w := w3.drew) a1 g4) | fail)
        all_goals
          have G4 := below_then ((Below.refl _ w3).drew) g4
          have HS4 := hid1 (HS3.out.below G4)
          have HC4 := hid1 (HC3.out.below G4)
          have HO4 : Hid (Only SC W w4) := hid1 (HO3.out.trans (Only.of G4) fun j hj => .inl hj)
          clear HS3 HC3 HW3 HO3 HRow3 HRn G4 g4 e0 e1 a0 a1 a4 a5 f4 f5
          by_cases hcode : code = 0
          · subst hcode
            rw [if_pos rfl] at HGo
            have hol := HCd.out.2 rfl
            have HPt := hid1 (caPut (es := es) HC4.out HCf.out key out hkl (by omega))
            rw [show erOf es 0 = Value.nilIface from rfl]
            clear HFail HCd
            go_wp2_with fail
            refine HPt.out.mono ?_
            rintro e w5 ⟨rfl, hO5, SC5, hC5, hSC5⟩
            have hz4 := HO4.out.size
            have HS5 := hid1 (HS4.out.only hO5 HAp3.out)
            have HO5 : Hid (Only SC W w5) := hid1 (HO4.out.trans hO5 HSC3.out)
            have HSC5 : Hid (∀ j, SC5 j → SC j ∨ W.heap.size ≤ j) := hid1 fun j hj => by
              rcases hSC5 j hj with h1 | h1
              · exact HSC3.out j h1
              · exact .inr (by omega)
            have HAp5 : Hid (∀ j, SBlk d.dom L j → ¬ SC5 j) := hid1 fun j hj h => by
              rcases hSC5 j h with h1 | h1
              · exact HAp3.out j hj h1
              · have := HS4.out.lt j hj
                omega
            have hA5 := HS5.out.at hi
            have a4 := hA5.c4
            have a5 := hA5.c5
            have f4 := hA5.fr 4
            have f5 := hA5.fr 5
            rw [hwt] at a4 a5
            have HP := hid1 (RunPost.done HS5.out hi hwt out false HO5.out hC5 HSC5.out HAp5.out)
            clear hA5 HPt HS5 HO5 HSC5 HAp5 HS4 HC4 HO4 hO5 hC5 hSC5 HM HC HSC3 HAp3
            go_wp2
            go_end0
            exact ⟨rfl, by rw [HGo.out]; exact HP.out⟩
          · rw [if_neg hcode] at HGo
            have HF4 := hid1 (HFail.out w4 HS4.out code)
            rcases erOf_iface es code with ⟨e9, -⟩ | ⟨t9, x9, e9⟩
            · exact absurd e9 hcode
            · rw [e9] at HF4 ⊢
              clear HFail e9 HCd
              go_wp2_with fail
              refine HF4.out.mono ?_
              rintro e w5 ⟨rfl, st', hS5, hL5, hO5⟩
              have HP := hid1 (RunPost.fails HM.out.inv HM.out.us HR.out hS5 hL5 HO4.out HC4.out HSC3.out HAp3.out hO5)
              clear HF4 hS5 hL5 hO5
              go_wp2
              exact bodyPost_ret (results_none rfl _ _ _) rfl ⟨rfl, by rw [HGo.out]; exact HP.out⟩
end Go.Proofs.YtflbofdpfgkmcaaGreatDoor
namespace Go.Proofs.YtflbofdpfgkmcaaGreatDoor
open Go.RowKit Go.Shelf Go.Lib Go.Maps
namespace Bf
theorem go_no (act : Act) (c : Ca) (d : Bd) {i : Nat} (hr : d.isReady i = true) (k : Nat) : ((go act c d i).d.st k).isNo = (d.st k).isNo := by
  have hw := ready_waits hr
  have hset : ∀ s : St, s.isNo = false → ((d.set i s).st k).isNo = (d.st k).isNo := fun s hs => by
    show (setS d.st i s k).isNo = _
    by_cases e : k = i
    · rw [e, setS_same, hw, hs]; rfl
    · rw [setS_other e]
  have hfail : ∀ e, ((d.fail i e).st k).isNo = (d.st k).isNo := fun e => by
    show (Bf.spread d.l (setS d.st i (.failed e)) k).isNo = _
    rw [spread_no]
    by_cases e' : k = i
    · rw [e', setS_same, hw]; rfl
    · rw [setS_other e']
  unfold go
  split
  · exact hfail _
  · split
    · exact hset _ rfl
    · split
      · exact hset _ rfl
      · exact hfail _
theorem go_hit (act : Act) (c : Ca) (d : Bd) {i : Nat} (hr : d.isReady i = true) : (go act c d i).hit = (((go act c d i).d.st i).num == 2) ∧ (go act c d i).code = 0 := by
  have hw := ready_waits hr
  have hset : ∀ s : St, (d.set i s).st i = s := fun s => setS_same _ _ _
  have hfail : ∀ e, (d.fail i e).st i = .failed e := fun e => by
    show Bf.spread d.l (setS d.st i (.failed e)) i = _
    rw [spread_keeps (by rw [setS_same]; rfl), setS_same]
  unfold go
  split
  · simp only [hfail]; exact ⟨rfl, trivial⟩
  · split
    · simp only [hset]; exact ⟨rfl, trivial⟩
    · split
      · simp only [hset]; exact ⟨rfl, trivial⟩
      · simp only [hfail]; exact ⟨rfl, trivial⟩
end Bf
theorem BuM.turn {es : Nat → Addr} {W W' : World} {bb bm n : Nat} {L : Lay} {cv : Value} {d d' : Bf.Bd} (h : BuM es W bb bm n L cv d) (hl : d'.l = d.l) (hf : d'.fs = d.fs) (hno : ∀ k, (d'.st k).isNo = (d.st k).isNo) (hI : Bf.Inv d') (c0 : W'.cell? ⟨bb, 0, none⟩ = some (.map (some bm))) (c1 : W'.cell? ⟨bb, 1, none⟩ = some cv) (hm : SMap W' bm n d.dom L.sp) (hS : Steps W' es d.dom L d.rule (insOf d) d'.st) : BuM es W' bb bm n L cv d' := by
  obtain ⟨fs, l, st⟩ := d
  obtain ⟨fs', l', st'⟩ := d'
  simp only at hl hf
  subst hl hf
  have hd : Bf.Bd.dom ⟨fs', l', st'⟩ = Bf.Bd.dom ⟨fs', l', st⟩ := by
    funext k
    unfold Bf.Bd.dom Bf.Bd.dm
    simp only [hno k]
  refine ⟨c0, c1, by rw [hd]; exact hm, by rw [hd]; exact hS, fun i hi k => ?_, fun i hi => ?_, hI, h.apart, fun i hi => ?_⟩
  · rw [h.us i (by rw [← hno i]; exact hi) k, hno k]
  · rw [hd] at hi
    exact h.usl i hi
  · rw [hd] at hi
    exact h.few i hi
theorem BuM.far {es : Nat → Addr} {W : World} {bb bm n : Nat} {L : Lay} {cv : Value} {d : Bf.Bd} (h : BuM es W bb bm n L cv d) : ¬ PBlk d.dom L bb ∧ ¬ PBlk d.dom L bm := by
  constructor
  · rintro ⟨i, hi, e⟩
    have c0 := (h.steps.at hi).c0
    have := h.c0
    rw [e, c0] at this
    cases this
  · rintro ⟨i, hi, e⟩
    have r := h.steps.step i hi
    obtain ⟨D, ⟨es', clock, h1, _⟩, _⟩ := h.map
    rw [e, r] at h1
    cases h1
theorem BuM.ran {es : Nat → Addr} {W w' : World} {bb bm n : Nat} {L : Lay} {cv : Value} {d : Bf.Bd} {c : Bf.Ca} {SC : Nat → Prop} {i : Nat} (h : BuM es W bb bm n L cv d) (hi : d.dom i) (hr : d.isReady i = true) (hap : ∀ j, BBlk bb bm d L j → ¬ SC j) (hP : RunPost es L d (Bf.go Af.actO c d i).d (Bf.go Af.actO c d i).c SC W cv w') :
    BuM es w' bb bm n L cv (Bf.go Af.actO c d i).d ∧ Only (fun j => BBlk bb bm d L j ∨ SC j) W w' ∧ ∃ SC', CaAt CAt SC' w' cv (Bf.go Af.actO c d i).c ∧ ∀ j, SC' j → SC j ∨ W.heap.size ≤ j := by
  obtain ⟨hS, hO, hC⟩ := hP
  obtain ⟨f1, f2⟩ := h.far
  have b1 : w'.heap[bb]? = W.heap[bb]? := hO.block bb (h.lt bb (.inl rfl)) fun e => e.elim f1 (hap bb (.inl rfl))
  have b2 : w'.heap[bm]? = W.heap[bm]? := hO.block bm (h.lt bm (.inr (.inl rfl))) fun e => e.elim f2 (hap bm (.inr (.inl rfl)))
  have hgl := Bf.go_less Af.actO c d i (h.lo hi) hr
  refine ⟨h.turn hgl.2.1 hgl.2.2 (Bf.go_no Af.actO c d hr) (h.inv.go Af.actO c hr) ((World.cell?_of_block (a := ⟨bb, 0, none⟩) b1).trans h.c0) ((World.cell?_of_block (a := ⟨bb, 1, none⟩) b1).trans h.c1) (h.map.same b2) hS, ⟨hO.os, hO.tape, hO.output, hO.size, fun j hj hn => hO.block j hj fun e => hn (e.imp_left fun e => .inr (.inr e.s))⟩, hC⟩
def RunsPost (es : Nat → Addr) (bb bm n : Nat) (L : Lay) (d d' : Bf.Bd) (c' : Bf.Ca) (SC : Nat → Prop) (W : World) (cv : Value) (w' : World) : Prop :=
  BuM es w' bb bm n L cv d' ∧ Only (fun j => BBlk bb bm d L j ∨ SC j) W w' ∧ ∃ SC', CaAt CAt SC' w' cv c' ∧ ∀ j, SC' j → SC j ∨ W.heap.size ≤ j
theorem RunsPost.still {es : Nat → Addr} {bb bm n : Nat} {L : Lay} {d : Bf.Bd} {c : Bf.Ca} {SC : Nat → Prop} {W w' : World} {cv : Value} (h : BuM es W bb bm n L cv d) (hC : CaAt CAt SC W cv c) (hb : Below W.heap.size W w') : RunsPost es bb bm n L d d c SC W cv w' :=
  ⟨h.below hb, Only.of hb, SC, hC.below hb, fun _ h => .inl h⟩
set_option maxRecDepth 100000 in
set_option maxHeartbeats 16000000 in
theorem buRun_calls {es : Nat → Addr} {W : World} {bb bm n B : Nat} {L : Lay} {cv : Value} {d : Bf.Bd} {c : Bf.Ca} {SC : Nat → Prop} (hM : BuM es W bb bm n L cv d) (hC : CaAt CAt SC W cv c) (hap : ∀ j, BBlk bb bm d L j → ¬ SC j) (hW : BuildB B W es) (hSC : ∀ j, SC j → B ≤ j) (hS : ∀ x ∈ d.l, x.Small) (hfit : Bf.Fit d) (hcf : Bf.CFit c) (i : Int) (h0 : -9223372036854775808 ≤ i) (h1 : i ≤ 9223372036854775807) :
    Calls Tryz.prog 59 #[Ptr bb, .int .i64 i] W fun e w' => e = .returned (.tuple #[.bool (Bf.run Af.actO c d i).hit, erOf es (Bf.run Af.actO c d i).code]) ∧ RunsPost es bb bm n L d (Bf.run Af.actO c d i).d (Bf.run Af.actO c d i).c SC W cv w' := by
  have HA := hid1 (buall_calls hM.c0)
  have eN := hW.w.none
  have eT := hW.w.turn
  have eD := hW.w.done
  have HSt := hid1 fun V (g : Below W.heap.size W V) => RunsPost.still (hM) hC g
  rcases hM.look i h0 h1 with ⟨e0, hl⟩ | ⟨k, rfl, hk, hkl, e0, hl⟩
  · have er : Bf.run Af.actO c d i = ⟨false, 6, d, c⟩ := by
      unfold Bf.run
      split
      · rfl
      · rename_i h2
        unfold Bf.Bd.at at e0
        rw [if_neg h2] at e0
        unfold Bf.runN
        rw [e0]
        rfl
    rw [er]
    clear hM hC hap hW hSC hS hfit hcf e0 er
    go_enter Tryz.func59, Tryz.ntmps59
    go_wp2_with fail
    refine HA.out.mono ?_
    rintro e w1 ⟨rfl, rfl⟩
    clear HA
    go_wp2
    go_region
    go_wp2
    go_ret2
    exact ⟨rfl, HSt.out _ ((Below.refl _ _).drew)⟩
  · have hno := Bf.Bd.dom_no hk
    have hA := hM.steps.at hk
    have c4 := hA.c4
    have hnw := Bf.St.num_waits hno
    have e1 : Bf.run Af.actO c d (k : Nat) = Bf.runN Af.actO c d k := by
      unfold Bf.run
      rw [if_neg (by omega), Int.toNat_natCast]
    have e2 : Bf.runN Af.actO c d k = if (d.st k).isWaits = false then ⟨false, 12, d, c⟩ else if d.isReady k = false then ⟨false, 11, d, c⟩ else Bf.go Af.actO c d k := by
      unfold Bf.runN
      rw [if_neg (by rw [hno]; simp)]
    rw [e1, e2]
    cases hwt : (d.st k).isWaits with
    | false =>
      rw [if_pos rfl]
      rw [hwt] at hnw
      have z : (((d.st k).num : Int) == 0) = false := by
        have : (d.st k).num ≠ 0 := fun e => by rw [e] at hnw; cases hnw
        simp; omega
      clear hM hC hap hW hSC hS hfit hcf e0 e1 e2 hnw hwt hA hno
      generalize (d.st k).num = m at *
      go_enter Tryz.func59, Tryz.ntmps59
      go_wp2_with fail
      refine HA.out.mono ?_
      rintro e w1 ⟨rfl, rfl⟩
      clear HA
      go_wp2
      go_region
      go_wp2
      go_ret2
      exact ⟨rfl, HSt.out _ ((Below.refl _ _).drew)⟩
    | true =>
      rw [if_neg (by simp)]
      rw [hwt] at hnw
      have z : (d.st k).num = 0 := by simpa using hnw.symm
      rw [z] at c4
      have HRd := stready_calls hM.steps k hk hno (hM.few k hk)
      rw [hM.isReady hk] at HRd
      have HRd := hid1 HRd
      cases hrd : d.isReady k with
      | false =>
        rw [if_pos rfl]
        rw [hrd] at HRd
        clear hM hC hap hW hSC hS hfit hcf e0 e1 e2 hnw hwt hA hno z hrd
        go_enter Tryz.func59, Tryz.ntmps59
        go_wp2_with fail
        refine HA.out.mono ?_
        rintro e w1 ⟨rfl, rfl⟩
        clear HA
        go_wp2_with fail
        refine HRd.out.mono ?_
        rintro e w2 ⟨rfl, g2⟩
        have eT2 := cell_below' eT g2
        clear HRd
        go_wp2
        go_region
        go_wp2
        go_ret2
        exact ⟨rfl, HSt.out _ g2.drew⟩
      | true =>
        rw [if_neg (by simp)]
        rw [hrd] at HRd
        have hr : (d.rule k) ∈ d.l := by unfold Bf.Bd.rule; simp [hkl]
        have hsm := hS _ hr
        have HGo := hid1 fun V (g : Below W.heap.size W V) => strun_calls (hM.below g) hk hrd (hC.below g) (fun j hj => hap j (.inr (.inr hj))) (hW.below g) hSC hfit hcf (by have := hsm.kind; omega) (by have := hsm.word; omega) hsm.many
        have HFin := hid1 fun V w' (g : Below W.heap.size W V) hP => (hM.below g).ran hk hrd hap (w' := w') (c := c) hP
        obtain ⟨hh1, hh2⟩ := Bf.go_hit Af.actO c d hrd
        have HC1 := hid1 fun V (g : Below W.heap.size W V) => (hM.below g).c1
        obtain ⟨oc, rfl⟩ := hC.ptr
        rw [hh1, hh2]
        clear hM hC hap hW hSC hS hfit hcf e0 e1 e2 hnw hwt hA hno z hr hsm hh1 hh2
        generalize Bf.go Af.actO c d k = G at *
        go_enter Tryz.func59, Tryz.ntmps59
        go_wp2_with fail
        refine HA.out.mono ?_
        rintro e w1 ⟨rfl, rfl⟩
        clear HA
        go_wp2_with fail
        refine HRd.out.mono ?_
        rintro e w2 ⟨rfl, g2⟩
        have c1 := HC1.out w2 g2
        have HGo2 := hid1 (HGo.out w2 g2)
        clear HRd HGo
        go_wp2_with fail
        refine HGo2.out.mono ?_
        rintro e w3 ⟨rfl, hP⟩
        obtain ⟨p1, p2, SC', p3, p4⟩ := HFin.out w2 w3 g2 hP
        have hz2 := g2.size
        have HPo : Hid (RunsPost es bb bm n L d G.d G.c SC w1 (.pointer oc) w3) := hid1 ⟨p1, (Only.of g2).trans p2 fun j hj => .inl hj, SC', p3, fun j hj => (p4 j hj).imp_right fun h => Nat.le_trans hz2 h⟩
        have d4 := (hP.1.at hk).c4
        have z2 : (((G.d.st k).num : Int) == 2) = ((G.d.st k).num == 2) := by
          rw [Bool.eq_iff_iff]
          simp
          omega
        clear HGo2 HFin p1 p2 p3 p4 hP
        generalize hgm : (G.d.st k).num = m at *
        have HGm := hid1 hgm
        clear hgm
        go_wp2
        go_ret2
        exact ⟨by rw [HGm.out]; rfl, HPo.out⟩
end Go.Proofs.YtflbofdpfgkmcaaGreatDoor
